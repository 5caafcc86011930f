/- RegInv Tells Stays3P D6h D6m CK2 -/
import Derived.Test.YtlgnpiphaeoeiadDoorG13
import Derived.Test.YtlgnpiphaeoeiadDoorRows
import Derived.WalkKit
import Derived.RegionTactic
import Derived.Deep.DeepCutAuto
namespace Go.Proofs.YtlgnpiphaeoeiadDoor
open Go.RowKit
theorem countP_less {α : Type} {f g : α → Bool} {i : α} : ∀ {l : List α}, (∀ x, g x = true → f x = true) → i ∈ l → f i = true → g i = false → l.countP g < l.countP f
  | [], _, h, _, _ => by cases h
  | y :: r, hfg, h, hf, hg => by
    have hle : r.countP g ≤ r.countP f := List.countP_mono_left (fun x _ hx => hfg x hx)
    rw [List.countP_cons, List.countP_cons]
    rcases List.mem_cons.1 h with rfl | h
    · rw [hf, hg]; simp; omega
    · have := countP_less (l := r) hfg h hf hg
      by_cases hy : g y = true
      · rw [hy, hfg y hy]; simp; omega
      · have : g y = false := by simpa using hy
        rw [this]
        simp only [Bool.false_eq_true, if_false]
        split <;> omega
theorem getD_set (l : Array Bool) (i j : Nat) (d : Bool) (hi : i < l.size) : (l.setIfInBounds i true).getD j d = (j == i || l.getD j d) := by
  by_cases e : j = i
  · subst e
    simp [Array.getD_eq_getD_getElem?, hi]
  · have e' : (j == i) = false := by simpa using e
    rw [e']
    simp only [Array.getD_eq_getD_getElem?, Array.getElem?_setIfInBounds, Bool.false_or]
    rw [if_neg (fun h => e h.symm)]
theorem getD_in (l : Array Bool) (j : Nat) (hj : j < l.size) (d d' : Bool) : l.getD j d = l.getD j d' := by
  simp [Array.getD_eq_getD_getElem?, hj]
section
variable {P : Program} {ops : Array Oper} {Q : Exit → Act → World → Prop} {md : Region.Mode}
def Region.back (ops : Array Oper) : Bool := (List.range ops.size).all fun i => ((ops[i]?).map (·.after.all fun e => decide (e.on < i))).getD true
theorem all_listed {listed : Array Bool} (hs : listed.size = ops.size) (hb : Region.back ops = true) (hr : Region.ready md ops listed = []) : ∀ i, i < ops.size → listed.getD i false = true := by
  intro i
  induction i using Nat.strongRecOn with
  | _ i ih =>
    intro hi
    by_cases h : listed.getD i false = true
    · exact h
    · exfalso
      have h0 : listed.getD i true = false := by
        rw [getD_in listed i (by omega) true false]
        simpa using h
      have ho : ops[i]? = some ops[i] := by simp [hi]
      have hm : i ∈ Region.ready md ops listed := by
        unfold Region.ready
        rw [List.mem_filter]
        refine ⟨List.mem_range.2 hi, ?_⟩
        rw [h0, ho]
        simp only [Bool.not_false, Bool.true_and, Option.map_some, Option.getD_some]
        rw [Array.all_eq_true']
        intro e he
        have h1 := List.all_eq_true.1 hb i (List.mem_range.2 hi)
        rw [ho] at h1
        simp only [Option.map_some, Option.getD_some] at h1
        rw [Array.all_eq_true'] at h1
        have h2 := of_decide_eq_true (h1 e he)
        rw [ih e.on h2 (by omega)]
        simp
      rw [hr] at hm
      cases hm
theorem wpAny_inv {Inv : (Nat → Bool) → Act → World → Prop} (hb : Region.back ops = true)
    (hstep : ∀ (D : Nat → Bool) (a : Act) (w : World) (i : Nat) (o : Oper), i < ops.size → Inv D a w → D i = false → ops[i]? = some o → (∀ e ∈ o.after, Region.binds md e = true → D e.on = true) → wpOp P ops Q i (Inv fun j => j == i || D j) a w)
    (hdone : ∀ (D : Nat → Bool) (a : Act) (w : World), Inv D a w → (∀ i, i < ops.size → D i = true) → Q .normal a w) :
    ∀ (fuel : Nat) (listed : Array Bool) (a : Act) (w : World), listed.size = ops.size → (List.range ops.size).countP (fun i => !listed.getD i false) ≤ fuel → Inv (fun j => listed.getD j false) a w → wpAny P md ops Q fuel listed a w := by
  intro fuel
  induction fuel with
  | zero =>
    intro listed a w hs hc hI
    have hall : ∀ i, i < ops.size → listed.getD i false = true := fun i hi => by
      have h0 : (List.range ops.size).countP (fun i => !listed.getD i false) = 0 := by omega
      rw [List.countP_eq_zero] at h0
      simpa using h0 i (List.mem_range.2 hi)
    refine ⟨?_, hdone _ a w hI hall⟩
    unfold Region.ready
    rw [List.filter_eq_nil_iff]
    intro i hi
    have hi' := List.mem_range.1 hi
    rw [getD_in listed i (by omega) true false, hall i hi']
    simp
  | succ fuel ih =>
    intro listed a w hs hc hI
    refine ⟨fun hr => hdone _ a w hI (all_listed hs hb hr), fun i hi => ?_⟩
    unfold Region.ready at hi
    rw [List.mem_filter] at hi
    obtain ⟨hi1, hi2⟩ := hi
    have hi' := List.mem_range.1 hi1
    have ho : ops[i]? = some ops[i] := by simp [hi']
    rw [ho] at hi2
    simp only [Option.map_some, Option.getD_some, Bool.and_eq_true, Bool.not_eq_true'] at hi2
    obtain ⟨h1, h2⟩ := hi2
    have h1' : listed.getD i false = false := by rw [getD_in listed i (by omega) false true]; exact h1
    have := hstep _ a w i _ hi' hI h1' ho (fun e he hbd => by
      rw [Array.all_eq_true'] at h2
      have := h2 e he
      rw [hbd] at this
      simpa using this)
    refine wpOp_mono (fun a' w' h => ?_) this
    refine ih _ a' w' (by simp [hs]) ?_ ?_
    · have hlt := countP_less (i := i) (f := fun j => !listed.getD j false) (g := fun j => !(listed.setIfInBounds i true).getD j false) (l := List.range ops.size) (fun x hx => by
        rw [getD_set _ _ _ _ (by omega)] at hx
        simp at hx
        simp [hx.2]) hi1 (by simp [h1']) (by rw [getD_set _ _ _ _ (by omega)]; simp)
      omega
    · have e : (fun j => (listed.setIfInBounds i true).getD j false) = fun j => j == i || listed.getD j false := by
        funext j
        exact getD_set _ _ _ _ (by omega)
      rw [e]
      exact h
theorem region_inv {id : Nat} {a : Act} {w : World} (Inv : (Nat → Bool) → Act → World → Prop) (hm : P.follows .mixedOrders = true) (hb : Region.back ops = true)
    (hstep : ∀ (D : Nat → Bool) (a : Act) (w : World) (i : Nat) (o : Oper), i < ops.size → Inv D a w → D i = false → ops[i]? = some o → (∀ e ∈ o.after, Region.binds .any e = true → D e.on = true) → wpOp P ops Q i (Inv fun j => j == i || D j) a w)
    (hdone : ∀ (D : Nat → Bool) (a : Act) (w : World), Inv D a w → (∀ i, i < ops.size → D i = true) → Q .normal a w)
    (h0 : Inv (fun _ => false) a w.drew) : (Code.region id ops true).wp P Q a w := by
  refine wp_region_any hm ?_
  refine wpAny_inv hb hstep hdone _ _ a _ (by simp) ?_ ?_
  · exact Nat.le_trans List.countP_le_length (by simp)
  · have e : (fun j => (Array.replicate ops.size false).getD j false) = fun _ => false := by
      funext j
      simp only [Array.getD_eq_getD_getElem?, Array.getElem?_replicate]
      split <;> rfl
    rw [e]
    exact h0
end
end Go.Proofs.YtlgnpiphaeoeiadDoor

namespace Go.Proofs.YtlgnpiphaeoeiadDoor
open Go.RowKit Go.Deep Go.ChangeShapes Go.WideShapes
attribute [local go_sem ↓] Go.wp_at_zero Go.wp_at_succ
def B3 (w : World) (b : Nat) (x y z : Value) : Prop := w.cell? ⟨b, 0, none⟩ = some x ∧ w.cell? ⟨b, 1, none⟩ = some y ∧ w.cell? ⟨b, 2, none⟩ = some z ∧ ∀ i, w.frozen? ⟨b, i, none⟩ = false
end Go.Proofs.YtlgnpiphaeoeiadDoor

namespace Go.Proofs.YtlgnpiphaeoeiadDoor
open Go.RowKit Go.Deep Go.ChangeShapes Go.WideShapes
theorem cmp_more {a b : Tm} (ha : okT a) (hb : okT b) (h : abvT a b = true) : cmpT a b = 3 := by
  unfold cmpT
  rw [if_neg (fun e => abv_ne ha h ((sameT_iff ha hb).1 e)), if_pos h]
theorem setF_two {f : Tm → Tm} : ∀ {F : Fo} {i : Nat} {y : Tm}, twoF F → F.list[i]? = some y → twoT (f y) → twoF (setF F i f)
  | .nil, _, _, _, h, _ => by simp [Fo.list] at h
  | .node _ _ x k r, 0, y, ho, h, hf => by
    simp only [Fo.list, List.getElem?_cons_zero, Option.some.injEq] at h
    subst h
    rw [two_node] at ho
    rw [setF]
    exact two_node.2 ⟨hf, ho.2⟩
  | .node _ _ x k r, i + 1, y, ho, h, hf => by
    rw [two_node] at ho
    rw [setF]
    exact two_node.2 ⟨ho.1, setF_two ho.2 (by simpa [Fo.list] using h) hf⟩
theorem setF_occ {f : Tm → Tm} {m : Int} : ∀ {F : Fo} {i : Nat} {y : Tm}, F.list[i]? = some y → occF m (setF F i f) → occF m F ∨ occT m (f y)
  | .nil, _, _, h, _ => by simp [Fo.list] at h
  | .node _ _ x k r, 0, y, h, ho => by
    simp only [Fo.list, List.getElem?_cons_zero, Option.some.injEq] at h
    subst h
    rw [setF, occF] at ho
    rcases ho with ho | ho
    · exact .inr ho
    · exact .inl (by rw [occF]; exact .inr ho)
  | .node _ _ x k r, i + 1, y, h, ho => by
    rw [setF, occF] at ho
    rcases ho with ho | ho
    · exact .inl (by rw [occF]; exact .inl ho)
    · rcases setF_occ (by simpa [Fo.list] using h) ho with h1 | h1
      · exact .inl (by rw [occF]; exact .inr h1)
      · exact .inr h1
theorem gd_put {u : Tm} (hu : Gd u) : ∀ {p : List Int} {x : Bool × Int} {k : Fo} {z : Tm}, Gd (x, k) → atT p x k = some z → Gd (putT p (x, k) u) ∧ szT (putT p (x, k) u) ≤ szT (x, k) + szT u
  | [], _, _, _, _, _ => ⟨hu, Nat.le_add_left _ _⟩
  | n :: p, x, k, z, hg, h => by
    obtain ⟨hx, h0, h1, y, hy, hz⟩ := atT_some h
    obtain ⟨i1, i2⟩ := gd_put hu (gd_mem hg hx (List.mem_of_getElem? hy)) hz
    rw [putT_cons hx h0 h1]
    refine ⟨⟨⟨fun e => absurd (hx.symm.trans e) (by decide), setF_ok hg.ok.2 hy i1.ok⟩, ⟨by rw [setF_len]; exact hg.two.1, setF_two hg.two.2 hy i1.two⟩, fun m hm => ?_⟩, ?_⟩
    · unfold occT at hm
      simp only [hx, Bool.false_eq_true, if_false] at hm
      rcases setF_occ hy hm with h2 | h2
      · exact hg.few m (by unfold occT; simp only [hx, Bool.false_eq_true, if_false]; exact h2)
      · exact i1.few m h2
    · have h3 : Fo.sizesR (setF k n.toNat fun s => putT p s u) + szT y = Fo.sizesR k + szT (putT p y u) := setF_szR (fun s => putT p s u) hy
      have h4 : szT (putT p y u) ≤ szT y + szT u := i2
      show 1 + Fo.sizesR (setF k n.toNat fun s => putT p s u) ≤ 1 + Fo.sizesR k + szT u
      omega
end Go.Proofs.YtlgnpiphaeoeiadDoor

namespace Go.Proofs.YtlgnpiphaeoeiadDoor
open Go.RowKit Go.Deep Go.ChangeShapes Go.WideShapes
theorem szF_mem : ∀ {F : Fo} {i : Nat} {y : Tm}, F.list[i]? = some y → szT y ≤ Fo.sizesR F
  | .nil, _, _, h => by simp [Fo.list] at h
  | .node _ _ x k r, 0, y, h => by
    simp only [Fo.list, List.getElem?_cons_zero, Option.some.injEq] at h
    subst h
    simp only [szT, tszR, Fo.sizesR]
    omega
  | .node _ _ x k r, i + 1, y, h => by
    have := szF_mem (F := r) (i := i) (by simpa [Fo.list] using h)
    simp only [Fo.sizesR]
    omega
theorem gdsz_at : ∀ {p : List Int} {x : Bool × Int} {k : Fo} {z : Tm}, Gd (x, k) → atT p x k = some z → Gd z ∧ szT z ≤ szT (x, k)
  | [], x, k, z, hg, h => by
    cases h
    exact ⟨hg, Nat.le_refl _⟩
  | n :: p, x, k, z, hg, h => by
    rw [atT] at h
    by_cases hn : x.1 = true ∨ n < 0 ∨ (Fo.len k : Int) ≤ n
    · rw [if_pos hn] at h; cases h
    · rw [if_neg hn] at h
      cases hy : k.list[n.toNat]? with
      | none => rw [hy] at h; cases h
      | some y =>
        rw [hy] at h
        have hx : x.1 = false := by cases e : x.1 <;> simp_all
        have hgy := gd_mem hg hx (List.mem_of_getElem? hy)
        obtain ⟨h1, h2⟩ := gdsz_at (x := y.1) (k := y.2) hgy h
        have h3 := szF_mem hy
        refine ⟨h1, ?_⟩
        simp only [szT, tszR] at h2 h3 ⊢
        omega
section
variable {lo p : Nat} {W : World} {V : Value} {st : List Cl × Bool} {v : Value} {xs : List Value} {w w' : World}
end
end Go.Proofs.YtlgnpiphaeoeiadDoor

namespace Go.Proofs.YtlgnpiphaeoeiadDoor
open Go.RowKit Go.Deep Go.ChangeShapes Go.WideShapes
def symF (s : List Int) : Fo → Prop
  | .nil => True
  | .node _ _ x k r => ((x.1 = false → aloneF s x (Fo.len k) = 0) ∧ symF s k) ∧ symF s r
def symT (s : List Int) (t : Tm) : Prop := (t.1.1 = false → aloneF s t.1 (Fo.len t.2) = 0) ∧ symF s t.2
theorem sym_sigF {s : List Int} : ∀ {F : Fo}, sigF s F → symF s F
  | .nil, _ => trivial
  | .node _ _ _ _ _, h => ⟨⟨fun _ => h.1.1, sym_sigF h.1.2⟩, sym_sigF h.2⟩
theorem sym_sig {s : List Int} {t : Tm} (h : sigT s t) : symT s t := ⟨fun _ => h.1, sym_sigF h.2⟩
theorem sym_vr {s : List Int} (n : Int) : symT s (vr n) := ⟨fun h => (by cases h), trivial⟩
theorem sym_subF {s : List Int} {f : Int → Tm} (hf : ∀ n, symT s (f n)) : ∀ {F : Fo}, symF s F → symF s (subF f F)
  | .nil, _ => trivial
  | .node p q (b, n) k r, h => by
    rw [subF_node]
    refine ⟨?_, sym_subF hf h.2⟩
    cases b with
    | true => rw [subT_var]; exact hf n
    | false =>
      rw [subT_sym]
      refine ⟨fun e => ?_, sym_subF hf h.1.2⟩
      rw [subF_len]; exact h.1.1 e
theorem sym_sub {s : List Int} {f : Int → Tm} (hf : ∀ n, symT s (f n)) {t : Tm} (h : symT s t) : symT s (subT f t) := by
  obtain ⟨⟨b, n⟩, k⟩ := t
  cases b with
  | true => rw [subT_var]; exact hf n
  | false =>
    rw [subT_sym]
    refine ⟨fun e => ?_, sym_subF hf h.2⟩
    rw [subF_len]; exact h.1 e
theorem sym_bnd {s : List Int} {b : Sb} (h : ∀ p ∈ b, symT s p.2) (n : Int) : symT s (bnd b n) := by
  cases el : look b n with
  | none => rw [bnd_none el]; exact sym_vr n
  | some u => rw [bnd_some el]; exact h _ (look_mem el)
theorem val_symF {s : List Int} {z : Int} {tb : List (List Int)} {e : Int → Int} (hm : MR s z tb) (hs : s.all okNum = true) (he : ∀ v, 0 ≤ e v ∧ e v < z) :
    ∀ {F : Fo}, symF s F → ∀ (a : Int) (i : Nat), 0 ≤ a → a < pw z i → 0 ≤ valF z tb e F a ∧ valF z tb e F a < pw z (Fo.len F + i)
  | .nil, _, a, i, h0, h1 => by simpa [valF, Fo.len] using ⟨h0, h1⟩
  | .node p q (b, n) k r, h, a, i, h0, h1 => by
    obtain ⟨⟨ha, hk⟩, hr⟩ := h
    have hv : 0 ≤ valT z tb e ((b, n), k) ∧ valT z tb e ((b, n), k) < z := by
      cases b with
      | true => simpa [valT] using he n
      | false =>
        obtain ⟨n0, n1, n2⟩ := alone_sym (ha rfl)
        have ih := val_symF hm hs he hk 0 0 (by omega) (by simp [pw])
        have hn : n.toNat < s.length := by omega
        have ok := List.all_eq_true.1 hs (s.getD n.toNat 0) (by rw [List.getD_eq_getElem?_getD, List.getElem?_eq_getElem hn]; simp)
        have ok' : 0 ≤ s.getD n.toNat 0 ∧ s.getD n.toNat 0 ≤ 2 := by simpa [okNum] using ok
        have hl := hm.row n.toNat hn
        rw [mlen_pw n2 (by omega)] at hl
        rw [Nat.add_zero] at ih
        have hlt : (valF z tb e k 0).toNat < (tb.getD n.toNat []).length := by omega
        have : (tb.getD n.toNat []).getD (valF z tb e k 0).toNat 0 ∈ tb.getD n.toNat [] := by
          rw [List.getD_eq_getElem?_getD (l := tb.getD n.toNat []), List.getElem?_eq_getElem hlt]; simp
        have := hm.all n.toNat hn _ this
        simpa [valT] using this
    rw [valF_node]
    have hd := digit_next hm.z1 h0 h1 hv.1 hv.2
    have := val_symF hm hs he hr (z * a + valT z tb e ((b, n), k)) (i + 1) hd.1 (by rw [pw]; exact hd.2)
    rw [show Fo.len (.node p q (b, n) k r) + i = Fo.len r + (i + 1) by simp [Fo.len]; omega]
    exact this
theorem val_sym {s : List Int} {z : Int} {tb : List (List Int)} {e : Int → Int} (hm : MR s z tb) (hs : s.all okNum = true) (he : ∀ v, 0 ≤ e v ∧ e v < z) {t : Tm} (h : symT s t) : 0 ≤ valT z tb e t ∧ valT z tb e t < z := by
  have h2 : symF s (.node 0 0 t.1 t.2 .nil) := ⟨h, trivial⟩
  have := val_symF hm hs he h2 0 0 (by omega) (by simp [pw])
  rw [valF_node] at this
  simpa [valF, Fo.len, pw] using this
section
variable {s : List Int} {z : Int} {tb : List (List Int)} {c : Cl} {b : Sb}
theorem valF_set {e : Int → Int} {f : Tm → Tm} : ∀ {F : Fo} {i : Nat} {y : Tm} (a : Int), F.list[i]? = some y → valT z tb e (f y) = valT z tb e y → valF z tb e (setF F i f) a = valF z tb e F a
  | .nil, _, _, _, h, _ => by simp [Fo.list] at h
  | .node p q x k r, 0, y, a, h, hv => by
    simp only [Fo.list, List.getElem?_cons_zero, Option.some.injEq] at h
    subst h
    simp only [setF]
    rw [valF_node, valF_node]
    congr 1
    rw [← hv]
  | .node p q x k r, i + 1, y, a, h, hv => by
    simp only [setF]
    rw [valF_node, valF_node]
    exact valF_set _ (by simpa [Fo.list] using h) hv
theorem val_put {e : Int → Int} {u : Tm} : ∀ {p : List Int} {x : Bool × Int} {k : Fo} {t : Tm}, atT p x k = some t → valT z tb e u = valT z tb e t → valT z tb e (putT p (x, k) u) = valT z tb e (x, k)
  | [], x, k, t, h, hv => by
    cases h
    exact hv
  | n :: p, x, k, t, h, hv => by
    rw [atT] at h
    rw [putT]
    by_cases hn : x.1 = true ∨ n < 0 ∨ (Fo.len k : Int) ≤ n
    · rw [if_pos hn] at h; cases h
    · rw [if_neg hn] at h
      rw [if_neg hn]
      cases hy : k.list[n.toNat]? with
      | none => rw [hy] at h; cases h
      | some y =>
        rw [hy] at h
        have hx : ¬ x.1 = true := fun e => hn (.inl e)
        have ih := val_put (p := p) (x := y.1) (k := y.2) h hv
        unfold valT
        rw [if_neg hx, if_neg hx]
        dsimp only
        rw [valF_set (f := fun s => putT p s u) 0 hy ih]
end
end Go.Proofs.YtlgnpiphaeoeiadDoor

namespace Go.Proofs.YtlgnpiphaeoeiadDoor
open Go.RowKit Go.Deep Go.ChangeShapes Go.WideShapes
def Tn (l : Lt) : Prop := l.2.1 ≠ l.2.2 ∧ abvT l.2.2 l.2.1 = false
theorem tn_flip {l : Lt} (h : okL l) (hs : ¬ l.2.1 = l.2.2) : Tn (flipL l) := by
  unfold flipL
  by_cases ha : abvT l.2.2 l.2.1 = true
  · rw [if_pos ha]
    exact ⟨fun e => hs e.symm, by simpa using abv_asym h.2 h.1 ha⟩
  · rw [if_neg ha]
    exact ⟨hs, by simpa using ha⟩
theorem tstep_tn {o : Option Cl} {l : Lt} {d : Cl} (h : tstep o l = some d) (hl : okL l) (h0 : ∀ e, o = some e → ∀ x ∈ e, Tn x) : ∀ x ∈ d, Tn x := by
  cases o with
  | none => simp [tstep] at h
  | some e =>
    simp only [tstep, Option.bind_some] at h
    by_cases hs : sameT l.2.1.1 l.2.1.2 l.2.2.1 l.2.2.2 = true
    · rw [if_pos hs] at h
      split at h
      · obtain rfl := Option.some.inj h; exact h0 _ rfl
      · cases h
    · rw [if_neg hs] at h
      cases h
      intro x hx
      rcases List.mem_append.1 hx with hx | hx
      · exact h0 e rfl x hx
      · simp at hx; rw [hx]; exact tn_flip hl (fun e => hs ((sameT_iff hl.1 hl.2).2 e))
theorem turn_tn : ∀ {c : Cl} {o : Option Cl} {d : Cl}, c.foldl tstep o = some d → (∀ l ∈ c, okL l) → (∀ e, o = some e → ∀ x ∈ e, Tn x) → ∀ x ∈ d, Tn x
  | [], o, d, h, _, h0 => h0 d h
  | l :: c, o, d, h, hc, h0 => turn_tn (c := c) (o := tstep o l) h (fun x hx => hc x (by simp [hx])) (fun e he => tstep_tn he (hc l (by simp)) h0)
theorem turn_fix : ∀ {c out : Cl}, (∀ l ∈ c, okL l ∧ Tn l) → c.foldl tstep (some out) = some (out ++ c)
  | [], out, _ => by simp
  | l :: c, out, h => by
    obtain ⟨ho, h1, h2⟩ := h l (by simp)
    have hs : ¬ sameT l.2.1.1 l.2.1.2 l.2.2.1 l.2.2.2 = true := fun e => h1 ((sameT_iff ho.1 ho.2).1 e)
    have e1 : tstep (some out) l = some (out ++ [l]) := by
      simp only [tstep, Option.bind_some]
      rw [if_neg hs]
      unfold flipL
      rw [if_neg (by rw [h2]; simp)]
    rw [List.foldl_cons, e1, turn_fix (fun x hx => h x (by simp [hx]))]
    simp
def bck (vs : List Int) (n : Int) : Tm := vr (vs.getD n.toNat 0)
theorem num_back {vs : List Int} {t : Tm} (ht : okT t) (h : ∀ n, occT n t → n ∈ vs) : subT (bck vs) (subT (bnd (numS vs)) t) = t := by
  rw [subT_sub]
  have : subT (fun n => subT (bck vs) (bnd (numS vs) n)) t = subT vr t := subT_congr fun n hn => by
    have hm := h n hn
    rw [bnd_num hm]
    have h1 : vs.idxOf n < vs.length := List.idxOf_lt_length_of_mem hm
    show bck vs (vs.idxOf n : Nat) = vr n
    unfold bck
    rw [Int.toNat_natCast, List.getD_eq_getElem?_getD, List.getElem?_eq_getElem h1, Option.getD_some, List.getElem_idxOf h1]
  rw [this, subT_vr ht]
theorem varsT_all {x : Bool × Int} {k : Fo} {v : List Int} (h : ∀ n, occT n (x, k) → n ∈ v) : varsT x k v = v := by
  have key : ∀ (F : Fo) (v : List Int), (∀ n, occF n F → n ∈ v) → varsF F v = v := by
    intro F
    induction F with
    | nil => intro v _; rfl
    | node p q y l r ihl ihr =>
      intro v hv
      have hl : ∀ n, occT n (y, l) → n ∈ v := fun n hn => hv n (by rw [occ_mem]; exact ⟨(y, l), by simp [Fo.list], hn⟩)
      have hr : ∀ n, occF n r → n ∈ v := fun n hn => hv n (by
        rw [occ_mem] at hn ⊢
        obtain ⟨t, ht, h2⟩ := hn
        exact ⟨t, by simp [Fo.list, ht], h2⟩)
      have e : varsT y l v = v := by
        obtain ⟨b, n⟩ := y
        cases b with
        | true =>
          have := hl n (by simp [occT])
          simp [varsT, hasB, this]
        | false => simp only [varsT, Bool.false_eq_true, if_false]; exact ihl v (fun n hn => hl n (by simp [occT, hn]))
      show varsF r (varsT y l v) = v
      rw [e, ihr v hr]
  obtain ⟨b, n⟩ := x
  cases b with
  | true =>
    have := h n (by simp [occT])
    simp [varsT, hasB, this]
  | false => simp only [varsT, Bool.false_eq_true, if_false]; exact key k v (fun n hn => h n (by simp [occT, hn]))
theorem varsL_all {l : Lt} {v : List Int} (h : ∀ n, occL n l → n ∈ v) : varsL l v = v := by
  unfold varsL
  rw [varsT_all (x := l.2.1.1) (k := l.2.1.2) (v := v) (fun n hn => h n (.inl hn)), varsT_all (fun n hn => h n (.inr hn))]
theorem varsC_append (c d : Cl) (v : List Int) : varsC (c ++ d) v = varsC d (varsC c v) := by simp [varsC, List.foldl_append]
theorem like_occ {f l : Lt} (hf : okL f) (hl : okL l) (h : likeL f l = true) (n : Int) : occL n l → occL n f := by
  rw [like_iff hf hl] at h
  unfold occL
  rcases h with ⟨h1, h2⟩ | ⟨h1, h2⟩
  · rw [h1, h2]; exact id
  · rw [h1, h2]; exact Or.symm
theorem dist_vars {P out : Cl} (hP : ∀ x ∈ P, okL x) (h : distC P = some out) : varsC out [] = varsC P [] := by
  have key : ∀ (n : Nat) (out : Cl), n ≤ P.length → distC (P.take n) = some out → varsC out [] = varsC (P.take n) [] := by
    intro n
    induction n with
    | zero => intro out _ h; simp [distC] at h; subst h; simp
    | succ n ih =>
      intro out hn h
      have hl : P[n]? = some P[n] := List.getElem?_eq_getElem (by omega)
      rw [dist_take hl] at h
      cases hd : distC (P.take n) with
      | none => rw [hd] at h; simp [dstep] at h
      | some e =>
        rw [hd] at h
        have he := ih e (by omega) hd
        have hm : ∀ x ∈ e, x ∈ P := dist_mem (p := fun x => x ∈ P) hd (fun e he => by cases he; simp) (fun x hx => List.mem_of_mem_take hx)
        rw [List.take_add_one, hl]
        simp only [dstep, Option.bind_some] at h
        cases hf : e.find? (fun f => likeL f P[n]) with
        | none =>
          rw [hf] at h
          cases h
          rw [varsC_append, varsC_append, he]
          rfl
        | some f =>
          rw [hf] at h
          simp only at h
          split at h
          · obtain rfl := Option.some.inj h
            have hfm : f ∈ e := List.mem_of_find?_eq_some hf
            have hfl : likeL f P[n] = true := by have := List.find?_some hf; simpa using this
            rw [varsC_append, ← he]
            show _ = varsL P[n] (varsC e [])
            rw [varsL_all]
            intro m hmm
            exact varsC_mem.2 (.inr ⟨f, hfm, like_occ (hP f (hm f hfm)) (hP _ (List.getElem_mem _)) hfl m hmm⟩)
          · cases h
  have := key P.length out (Nat.le_refl _) (by rw [List.take_length]; exact h)
  rwa [List.take_length] at this
theorem dist_fix : ∀ {c out : Cl}, (out ++ c).Pairwise (fun a b => likeL a b = false) → c.foldl dstep (some out) = some (out ++ c)
  | [], out, _ => by simp
  | l :: c, out, h => by
    have hno : out.find? (fun f => likeL f l) = none := by
      rw [List.find?_eq_none]
      intro f hf
      rw [List.pairwise_append] at h
      simp [h.2.2 f hf l (by simp)]
    have e1 : dstep (some out) l = some (out ++ [l]) := by
      simp only [dstep, Option.bind_some, hno]
    rw [List.foldl_cons, e1, dist_fix (by simpa using h)]
    simp
theorem varsT_ren {ρ : Int → Int} {S : Int → Prop} (hi : ∀ m n, S m → S n → ρ m = ρ n → m = n) {x : Bool × Int} {k : Fo} {v : List Int} (h : ∀ n, occT n (x, k) → S n) (hv : ∀ n ∈ v, S n) :
    varsT (subT (fun n => vr (ρ n)) (x, k)).1 (subT (fun n => vr (ρ n)) (x, k)).2 (v.map ρ) = (varsT x k v).map ρ := by
  have one : ∀ (n : Int) (v : List Int), S n → (∀ m ∈ v, S m) → varsT (vr (ρ n)).1 (vr (ρ n)).2 (v.map ρ) = (varsT (true, n) .nil v).map ρ := by
    intro n v hn hv
    have e : hasB (v.map ρ) (ρ n) = hasB v n := by
      unfold hasB
      rw [decide_eq_decide, List.mem_map]
      constructor
      · rintro ⟨m, hm, e⟩; rw [← hi m n (hv m hm) hn e]; exact hm
      · exact fun hm => ⟨n, hm, rfl⟩
    simp only [vr, varsT, if_true, e]
    split <;> simp
  have key : ∀ (F : Fo) (v : List Int), (∀ n, occF n F → S n) → (∀ n ∈ v, S n) → varsF (subF (fun n => vr (ρ n)) F) (v.map ρ) = (varsF F v).map ρ := by
    intro F
    induction F with
    | nil => intro v _ _; rfl
    | node p q y l r ihl ihr =>
      intro v hv hs
      have hl : ∀ n, occT n (y, l) → S n := fun n hn => hv n (by rw [occ_mem]; exact ⟨(y, l), by simp [Fo.list], hn⟩)
      have hr : ∀ n, occF n r → S n := fun n hn => hv n (by
        rw [occ_mem] at hn ⊢
        obtain ⟨t, ht, h2⟩ := hn
        exact ⟨t, by simp [Fo.list, ht], h2⟩)
      have e : varsT (subT (fun n => vr (ρ n)) (y, l)).1 (subT (fun n => vr (ρ n)) (y, l)).2 (v.map ρ) = (varsT y l v).map ρ := by
        obtain ⟨b, n⟩ := y
        cases b with
        | true => rw [subT_var, one n v (hl n (by simp [occT])) hs]; rfl
        | false => rw [subT_sym]; simp only [varsT, Bool.false_eq_true, if_false]; exact ihl v (fun n hn => hl n (by simp [occT, hn])) hs
      rw [subF_node]
      show varsF (subF (fun n => vr (ρ n)) r) (varsT _ _ (v.map ρ)) = (varsF r (varsT y l v)).map ρ
      rw [e, ihr _ hr]
      intro n hn
      rcases varsT_mem.1 hn with hn | hn
      · exact hs n hn
      · exact hl n hn
  obtain ⟨b, n⟩ := x
  cases b with
  | true => rw [subT_var, one n v (h n (by simp [occT])) hv]; rfl
  | false => rw [subT_sym]; simp only [varsT, Bool.false_eq_true, if_false]; exact key k v (fun n hn => h n (by simp [occT, hn])) hv
theorem varsC_ren {ρ : Int → Int} {S : Int → Prop} (hi : ∀ m n, S m → S n → ρ m = ρ n → m = n) : ∀ {c : Cl} {v : List Int}, (∀ l ∈ c, ∀ n, occL n l → S n) → (∀ n ∈ v, S n) → varsC (c.map (mapL (subT fun n => vr (ρ n)))) (v.map ρ) = (varsC c v).map ρ
  | [], v, _, _ => by simp [varsC]
  | l :: c, v, h, hv => by
    have hl := h l (by simp)
    have e : varsL (mapL (subT fun n => vr (ρ n)) l) (v.map ρ) = (varsL l v).map ρ := by
      unfold varsL mapL
      rw [varsT_ren hi (x := l.2.1.1) (k := l.2.1.2) (fun n hn => hl n (.inl hn)) hv, varsT_ren hi (x := l.2.2.1) (k := l.2.2.2) (fun n hn => hl n (.inr hn))]
      intro n hn
      rcases varsT_mem.1 hn with hn | hn
      · exact hv n hn
      · exact hl n (.inl hn)
    show varsC (c.map _) (varsL (mapL (subT fun n => vr (ρ n)) l) (v.map ρ)) = (varsC c (varsL l v)).map ρ
    rw [e, varsC_ren hi (fun x hx => h x (by simp [hx]))]
    intro n hn
    rcases varsL_mem.1 hn with hn | hn
    · exact hv n hn
    · exact hl n hn
theorem idx_range {vs : List Int} (h : vs.Nodup) : vs.map (fun n => ((vs.idxOf n : Nat) : Int)) = (List.range vs.length).map (fun i : Nat => (i : Int)) := by
  apply List.ext_getElem
  · simp
  · intro i h1 h2
    simp only [List.length_map] at h1
    simp only [List.getElem_map, List.getElem_range]
    rw [h.idxOf_getElem i h1]
theorem ren_vars {d : Cl} : varsC (reN d) [] = (List.range (varsC d []).length).map (fun i : Nat => (i : Int)) := by
  have hi : ∀ m n, m ∈ varsC d [] → n ∈ varsC d [] → (((varsC d []).idxOf m : Nat) : Int) = (((varsC d []).idxOf n : Nat) : Int) → m = n := fun m n hm _ e => idx_inj hm (by omega)
  have ho : ∀ l ∈ d, ∀ n, occL n l → n ∈ varsC d [] := fun l hl n hn => varsC_mem.2 (.inr ⟨l, hl, hn⟩)
  have e : reN d = d.map (mapL (subT fun n => vr (((varsC d []).idxOf n : Nat) : Int))) := by
    unfold reN
    refine List.map_congr_left fun l hl => ?_
    unfold mapL
    rw [subT_congr (t := l.2.1) (fun n hn => bnd_num (ho l hl n (.inl hn))), subT_congr (t := l.2.2) (fun n hn => bnd_num (ho l hl n (.inr hn)))]
  have := varsC_ren (ρ := fun n => (((varsC d []).idxOf n : Nat) : Int)) (S := fun n => n ∈ varsC d []) hi (c := d) (v := []) ho (by simp)
  rw [List.map_nil] at this
  rw [e, this, idx_range (varsC_nodup List.nodup_nil)]
theorem range_idx {m : Nat} {n : Int} (h : n ∈ (List.range m).map (fun i : Nat => (i : Int))) : ((((List.range m).map (fun i : Nat => (i : Int))).idxOf n : Nat) : Int) = n := by
  have h1 := List.idxOf_lt_length_of_mem h
  have h2 := List.getElem_idxOf h1
  rw [List.getElem_map, List.getElem_range] at h2
  exact h2
theorem ren_fix {e : Cl} {m : Nat} (hv : varsC e [] = (List.range m).map (fun i : Nat => (i : Int))) (ho : ∀ l ∈ e, okL l) : reN e = e := by
  unfold reN
  rw [hv]
  conv => rhs; rw [← List.map_id e]
  refine List.map_congr_left fun l hl => ?_
  have key : ∀ t, okT t → (∀ n, occT n t → occL n l) → subT (bnd (numS ((List.range m).map (fun i : Nat => (i : Int))))) t = t := fun t ht h => by
    rw [subT_congr (g := vr) (fun n hn => ?_), subT_vr ht]
    have hm : n ∈ (List.range m).map (fun i : Nat => (i : Int)) := by rw [← hv]; exact varsC_mem.2 (.inr ⟨l, hl, h n hn⟩)
    rw [bnd_num hm, range_idx hm]
  unfold mapL
  rw [key _ (ho l hl).1 (fun n hn => .inl hn), key _ (ho l hl).2 (fun n hn => .inr hn)]
  rfl
theorem walkT_mk {s : List Int} {x : Bool × Int} {k : Fo} {d : Int} (h1 : d ≤ 12) (h2 : aloneF s x (Fo.len k) = 0) (h3 : walkF s k (d + 1) = 0) : walkT s x k d = 0 := by
  unfold walkT
  rw [if_neg (by omega), if_neg (by simpa using h2), h3]
end Go.Proofs.YtlgnpiphaeoeiadDoor
