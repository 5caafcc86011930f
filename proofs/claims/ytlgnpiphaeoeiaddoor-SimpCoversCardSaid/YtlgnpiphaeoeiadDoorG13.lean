/- D6c BSz D6f RegInv Tells Stays3P -/
import Derived.Test.YtlgnpiphaeoeiadDoorG12
import Derived.Deep.RegionHeld3
import Derived.Test.YtlgnpiphaeoeiadDoorRows
import Derived.WalkKit
import Derived.RegionTactic
import Derived.Deep.DeepCutAuto
namespace Go.Proofs.YtlgnpiphaeoeiadDoor
open Go.RowKit Go.Deep Go.ChangeShapes Go.WideShapes
theorem lits_behind {n j c b o : Nat} (hj : j ≤ n) (hc : n ≤ c) : ∃ ad : Addr, (∀ w : World, (Instr.slice 25 (.slice (some ⟨b, o, none⟩) n c) (some (.int .i64 (j : Int))) none none).run Tryd.prog w = .ok (.slice (some ad) (n - j) (c - j)) w) ∧ (j < n → ad = ⟨b, o + j * 7, none⟩) := by
  refine ⟨if c = j then ⟨b, o, none⟩ else ⟨b, o + j * 7, none⟩, fun w => ?_, fun h => by rw [if_neg (by omega)]⟩
  rw [run_slice_l (ht := by kernel_rfl) (h0 := by omega) (h1 := by omega)]
  have e : (sizeOf (Tryd.prog.elem 25)).run Tryd.prog w = .ok 7 w := by
    rw [show Tryd.prog.elem 25 = 39 by kernel_rfl]
    simp [go_sem]
  simp only [Result.andThen, sliced, e, Int.toNat_natCast]
  by_cases h : c = j
  · simp [h]
  · simp [h, Addr.add]
end Go.Proofs.YtlgnpiphaeoeiadDoor

namespace Go.Proofs.YtlgnpiphaeoeiadDoor
open Go.RowKit Go.Deep Go.ChangeShapes Go.WideShapes
theorem sub_leF {f : Int → Tm} {M : Nat} (hM : 1 ≤ M) : ∀ {F : Fo}, Fo.ok F → (∀ n, occF n F → szT (f n) ≤ M) → Fo.sizesR (subF f F) ≤ Fo.sizesR F * M
  | .nil, _, _ => by simp [subF, Fo.sizesR]
  | .node p q ⟨v, m⟩ k r, ho, h => by
    obtain ⟨_, _, h3, h4⟩ := ok_node.1 ho
    have hr := sub_leF hM h4 (fun n hn => h n (by rw [occF]; exact .inr hn))
    rw [subF_node]
    simp only [Fo.sizesR]
    cases v with
    | true =>
      have hk : k = .nil := h3.1 rfl
      subst hk
      have := h m (by rw [occF]; exact .inl (by simp))
      simp only [subT_var, szT, tszR] at this ⊢
      simp only [Fo.sizesR, Nat.add_mul, Nat.zero_mul, Nat.one_mul]
      omega
    | false =>
      have hk := sub_leF hM (F := k) h3.2 (fun n hn => h n (by rw [occF]; exact .inl (by simpa using hn)))
      simp only [subT_sym, Nat.add_mul, Nat.one_mul]
      omega
theorem sub_le {f : Int → Tm} {M : Nat} (hM : 1 ≤ M) {t : Tm} (ho : okT t) (h : ∀ n, occT n t → szT (f n) ≤ M) : szT (subT f t) ≤ szT t * M := by
  obtain ⟨⟨v, m⟩, k⟩ := t
  cases v with
  | true =>
    rw [subT_var]
    have := h m (by simp [occT])
    have h1 : 1 ≤ szT ((true, m), k) := by simp only [szT, tszR]; omega
    have := Nat.mul_le_mul_right M h1
    omega
  | false =>
    rw [subT_sym]
    have := sub_leF hM (F := k) ho.2 (fun n hn => h n (by simp [occT, hn]))
    simp only [szT, tszR, Nat.add_mul, Nat.one_mul]
    omega
end Go.Proofs.YtlgnpiphaeoeiadDoor

namespace Go.Proofs.YtlgnpiphaeoeiadDoor
open Go.RowKit Go.Deep Go.ChangeShapes Go.WideShapes
attribute [local go_sem ↓] Go.wp_at_zero Go.wp_at_succ
structure G12 (t : Tm) : Prop where
  gd : Gd t
  sz : szT t ≤ 12
theorem depF_le : ∀ F : Fo, depF F ≤ Fo.sizesR F
  | .nil => Nat.le_refl _
  | .node _ _ _ k r => by
    have h1 := depF_le k
    have h2 := depF_le r
    simp only [depF, Fo.sizesR]
    omega
theorem G12.dep {t : Tm} (h : G12 t) : depT t ≤ 12 := by
  have h1 := depF_le t.2
  have h2 := h.sz
  simp only [szT, tszR] at h2
  unfold depT
  omega
end Go.Proofs.YtlgnpiphaeoeiadDoor

namespace Go.Proofs.YtlgnpiphaeoeiadDoor
open Go.RowKit
theorem countP_less {α : Type} {f g : α → Bool} {i : α} : ∀ {l : List α}, (∀ x, g x = true → f x = true) → i ∈ l → f i = true → g i = false → l.countP g < l.countP f
  | [], _, h, _, _ => by cases h
  | y :: r, hfg, h, hf, hg => by
    have hle : r.countP g ≤ r.countP f := List.countP_mono_left (fun x _ hx => hfg x hx)
    rw [List.countP_cons, List.countP_cons]
    rcases List.mem_cons.1 h with rfl | h
    · rw [hf, hg]; simp; omega
    · have := countP_less (l := r) hfg h hf hg
      by_cases hy : g y = true
      · rw [hy, hfg y hy]; simp; omega
      · have : g y = false := by simpa using hy
        rw [this]
        simp only [Bool.false_eq_true, if_false]
        split <;> omega
theorem getD_set (l : Array Bool) (i j : Nat) (d : Bool) (hi : i < l.size) : (l.setIfInBounds i true).getD j d = (j == i || l.getD j d) := by
  by_cases e : j = i
  · subst e
    simp [Array.getD_eq_getD_getElem?, hi]
  · have e' : (j == i) = false := by simpa using e
    rw [e']
    simp only [Array.getD_eq_getD_getElem?, Array.getElem?_setIfInBounds, Bool.false_or]
    rw [if_neg (fun h => e h.symm)]
theorem getD_in (l : Array Bool) (j : Nat) (hj : j < l.size) (d d' : Bool) : l.getD j d = l.getD j d' := by
  simp [Array.getD_eq_getD_getElem?, hj]
section
variable {P : Program} {ops : Array Oper} {Q : Exit → Act → World → Prop} {md : Region.Mode}
def Region.back (ops : Array Oper) : Bool := (List.range ops.size).all fun i => ((ops[i]?).map (·.after.all fun e => decide (e.on < i))).getD true
theorem all_listed {listed : Array Bool} (hs : listed.size = ops.size) (hb : Region.back ops = true) (hr : Region.ready md ops listed = []) : ∀ i, i < ops.size → listed.getD i false = true := by
  intro i
  induction i using Nat.strongRecOn with
  | _ i ih =>
    intro hi
    by_cases h : listed.getD i false = true
    · exact h
    · exfalso
      have h0 : listed.getD i true = false := by
        rw [getD_in listed i (by omega) true false]
        simpa using h
      have ho : ops[i]? = some ops[i] := by simp [hi]
      have hm : i ∈ Region.ready md ops listed := by
        unfold Region.ready
        rw [List.mem_filter]
        refine ⟨List.mem_range.2 hi, ?_⟩
        rw [h0, ho]
        simp only [Bool.not_false, Bool.true_and, Option.map_some, Option.getD_some]
        rw [Array.all_eq_true']
        intro e he
        have h1 := List.all_eq_true.1 hb i (List.mem_range.2 hi)
        rw [ho] at h1
        simp only [Option.map_some, Option.getD_some] at h1
        rw [Array.all_eq_true'] at h1
        have h2 := of_decide_eq_true (h1 e he)
        rw [ih e.on h2 (by omega)]
        simp
      rw [hr] at hm
      cases hm
theorem wpAny_inv {Inv : (Nat → Bool) → Act → World → Prop} (hb : Region.back ops = true)
    (hstep : ∀ (D : Nat → Bool) (a : Act) (w : World) (i : Nat) (o : Oper), i < ops.size → Inv D a w → D i = false → ops[i]? = some o → (∀ e ∈ o.after, Region.binds md e = true → D e.on = true) → wpOp P ops Q i (Inv fun j => j == i || D j) a w)
    (hdone : ∀ (D : Nat → Bool) (a : Act) (w : World), Inv D a w → (∀ i, i < ops.size → D i = true) → Q .normal a w) :
    ∀ (fuel : Nat) (listed : Array Bool) (a : Act) (w : World), listed.size = ops.size → (List.range ops.size).countP (fun i => !listed.getD i false) ≤ fuel → Inv (fun j => listed.getD j false) a w → wpAny P md ops Q fuel listed a w := by
  intro fuel
  induction fuel with
  | zero =>
    intro listed a w hs hc hI
    have hall : ∀ i, i < ops.size → listed.getD i false = true := fun i hi => by
      have h0 : (List.range ops.size).countP (fun i => !listed.getD i false) = 0 := by omega
      rw [List.countP_eq_zero] at h0
      simpa using h0 i (List.mem_range.2 hi)
    refine ⟨?_, hdone _ a w hI hall⟩
    unfold Region.ready
    rw [List.filter_eq_nil_iff]
    intro i hi
    have hi' := List.mem_range.1 hi
    rw [getD_in listed i (by omega) true false, hall i hi']
    simp
  | succ fuel ih =>
    intro listed a w hs hc hI
    refine ⟨fun hr => hdone _ a w hI (all_listed hs hb hr), fun i hi => ?_⟩
    unfold Region.ready at hi
    rw [List.mem_filter] at hi
    obtain ⟨hi1, hi2⟩ := hi
    have hi' := List.mem_range.1 hi1
    have ho : ops[i]? = some ops[i] := by simp [hi']
    rw [ho] at hi2
    simp only [Option.map_some, Option.getD_some, Bool.and_eq_true, Bool.not_eq_true'] at hi2
    obtain ⟨h1, h2⟩ := hi2
    have h1' : listed.getD i false = false := by rw [getD_in listed i (by omega) false true]; exact h1
    have := hstep _ a w i _ hi' hI h1' ho (fun e he hbd => by
      rw [Array.all_eq_true'] at h2
      have := h2 e he
      rw [hbd] at this
      simpa using this)
    refine wpOp_mono (fun a' w' h => ?_) this
    refine ih _ a' w' (by simp [hs]) ?_ ?_
    · have hlt := countP_less (i := i) (f := fun j => !listed.getD j false) (g := fun j => !(listed.setIfInBounds i true).getD j false) (l := List.range ops.size) (fun x hx => by
        rw [getD_set _ _ _ _ (by omega)] at hx
        simp at hx
        simp [hx.2]) hi1 (by simp [h1']) (by rw [getD_set _ _ _ _ (by omega)]; simp)
      omega
    · have e : (fun j => (listed.setIfInBounds i true).getD j false) = fun j => j == i || listed.getD j false := by
        funext j
        exact getD_set _ _ _ _ (by omega)
      rw [e]
      exact h
theorem region_inv {id : Nat} {a : Act} {w : World} (Inv : (Nat → Bool) → Act → World → Prop) (hm : P.follows .mixedOrders = true) (hb : Region.back ops = true)
    (hstep : ∀ (D : Nat → Bool) (a : Act) (w : World) (i : Nat) (o : Oper), i < ops.size → Inv D a w → D i = false → ops[i]? = some o → (∀ e ∈ o.after, Region.binds .any e = true → D e.on = true) → wpOp P ops Q i (Inv fun j => j == i || D j) a w)
    (hdone : ∀ (D : Nat → Bool) (a : Act) (w : World), Inv D a w → (∀ i, i < ops.size → D i = true) → Q .normal a w)
    (h0 : Inv (fun _ => false) a w.drew) : (Code.region id ops true).wp P Q a w := by
  refine wp_region_any hm ?_
  refine wpAny_inv hb hstep hdone _ _ a _ (by simp) ?_ ?_
  · exact Nat.le_trans List.countP_le_length (by simp)
  · have e : (fun j => (Array.replicate ops.size false).getD j false) = fun _ => false := by
      funext j
      simp only [Array.getD_eq_getD_getElem?, Array.getElem?_replicate]
      split <;> rfl
    rw [e]
    exact h0
end
end Go.Proofs.YtlgnpiphaeoeiadDoor

namespace Go.Proofs.YtlgnpiphaeoeiadDoor
open Go.RowKit Go.Deep Go.ChangeShapes Go.WideShapes
attribute [local go_sem ↓] Go.wp_at_zero Go.wp_at_succ
def B3 (w : World) (b : Nat) (x y z : Value) : Prop := w.cell? ⟨b, 0, none⟩ = some x ∧ w.cell? ⟨b, 1, none⟩ = some y ∧ w.cell? ⟨b, 2, none⟩ = some z ∧ ∀ i, w.frozen? ⟨b, i, none⟩ = false
end Go.Proofs.YtlgnpiphaeoeiadDoor

namespace Go.Proofs.YtlgnpiphaeoeiadDoor
open Go.RowKit Go.Deep Go.ChangeShapes Go.WideShapes
theorem cmp_more {a b : Tm} (ha : okT a) (hb : okT b) (h : abvT a b = true) : cmpT a b = 3 := by
  unfold cmpT
  rw [if_neg (fun e => abv_ne ha h ((sameT_iff ha hb).1 e)), if_pos h]
theorem setF_two {f : Tm → Tm} : ∀ {F : Fo} {i : Nat} {y : Tm}, twoF F → F.list[i]? = some y → twoT (f y) → twoF (setF F i f)
  | .nil, _, _, _, h, _ => by simp [Fo.list] at h
  | .node _ _ x k r, 0, y, ho, h, hf => by
    simp only [Fo.list, List.getElem?_cons_zero, Option.some.injEq] at h
    subst h
    rw [two_node] at ho
    rw [setF]
    exact two_node.2 ⟨hf, ho.2⟩
  | .node _ _ x k r, i + 1, y, ho, h, hf => by
    rw [two_node] at ho
    rw [setF]
    exact two_node.2 ⟨ho.1, setF_two ho.2 (by simpa [Fo.list] using h) hf⟩
theorem setF_occ {f : Tm → Tm} {m : Int} : ∀ {F : Fo} {i : Nat} {y : Tm}, F.list[i]? = some y → occF m (setF F i f) → occF m F ∨ occT m (f y)
  | .nil, _, _, h, _ => by simp [Fo.list] at h
  | .node _ _ x k r, 0, y, h, ho => by
    simp only [Fo.list, List.getElem?_cons_zero, Option.some.injEq] at h
    subst h
    rw [setF, occF] at ho
    rcases ho with ho | ho
    · exact .inr ho
    · exact .inl (by rw [occF]; exact .inr ho)
  | .node _ _ x k r, i + 1, y, h, ho => by
    rw [setF, occF] at ho
    rcases ho with ho | ho
    · exact .inl (by rw [occF]; exact .inl ho)
    · rcases setF_occ (by simpa [Fo.list] using h) ho with h1 | h1
      · exact .inl (by rw [occF]; exact .inr h1)
      · exact .inr h1
theorem gd_put {u : Tm} (hu : Gd u) : ∀ {p : List Int} {x : Bool × Int} {k : Fo} {z : Tm}, Gd (x, k) → atT p x k = some z → Gd (putT p (x, k) u) ∧ szT (putT p (x, k) u) ≤ szT (x, k) + szT u
  | [], _, _, _, _, _ => ⟨hu, Nat.le_add_left _ _⟩
  | n :: p, x, k, z, hg, h => by
    obtain ⟨hx, h0, h1, y, hy, hz⟩ := atT_some h
    obtain ⟨i1, i2⟩ := gd_put hu (gd_mem hg hx (List.mem_of_getElem? hy)) hz
    rw [putT_cons hx h0 h1]
    refine ⟨⟨⟨fun e => absurd (hx.symm.trans e) (by decide), setF_ok hg.ok.2 hy i1.ok⟩, ⟨by rw [setF_len]; exact hg.two.1, setF_two hg.two.2 hy i1.two⟩, fun m hm => ?_⟩, ?_⟩
    · unfold occT at hm
      simp only [hx, Bool.false_eq_true, if_false] at hm
      rcases setF_occ hy hm with h2 | h2
      · exact hg.few m (by unfold occT; simp only [hx, Bool.false_eq_true, if_false]; exact h2)
      · exact i1.few m h2
    · have h3 : Fo.sizesR (setF k n.toNat fun s => putT p s u) + szT y = Fo.sizesR k + szT (putT p y u) := setF_szR (fun s => putT p s u) hy
      have h4 : szT (putT p y u) ≤ szT y + szT u := i2
      show 1 + Fo.sizesR (setF k n.toNat fun s => putT p s u) ≤ 1 + Fo.sizesR k + szT u
      omega
end Go.Proofs.YtlgnpiphaeoeiadDoor
