/- D6h D6m CK2 D7a D7b D7d -/
import Derived.Test.YtlgnpiphaeoeiadDoorG13
namespace Go.Proofs.YtlgnpiphaeoeiadDoor
open Go.RowKit Go.Deep Go.ChangeShapes Go.WideShapes
theorem szF_mem : ∀ {F : Fo} {i : Nat} {y : Tm}, F.list[i]? = some y → szT y ≤ Fo.sizesR F
  | .nil, _, _, h => by simp [Fo.list] at h
  | .node _ _ x k r, 0, y, h => by
    simp only [Fo.list, List.getElem?_cons_zero, Option.some.injEq] at h
    subst h
    simp only [szT, tszR, Fo.sizesR]
    omega
  | .node _ _ x k r, i + 1, y, h => by
    have := szF_mem (F := r) (i := i) (by simpa [Fo.list] using h)
    simp only [Fo.sizesR]
    omega
theorem gdsz_at : ∀ {p : List Int} {x : Bool × Int} {k : Fo} {z : Tm}, Gd (x, k) → atT p x k = some z → Gd z ∧ szT z ≤ szT (x, k)
  | [], x, k, z, hg, h => by
    cases h
    exact ⟨hg, Nat.le_refl _⟩
  | n :: p, x, k, z, hg, h => by
    rw [atT] at h
    by_cases hn : x.1 = true ∨ n < 0 ∨ (Fo.len k : Int) ≤ n
    · rw [if_pos hn] at h; cases h
    · rw [if_neg hn] at h
      cases hy : k.list[n.toNat]? with
      | none => rw [hy] at h; cases h
      | some y =>
        rw [hy] at h
        have hx : x.1 = false := by cases e : x.1 <;> simp_all
        have hgy := gd_mem hg hx (List.mem_of_getElem? hy)
        obtain ⟨h1, h2⟩ := gdsz_at (x := y.1) (k := y.2) hgy h
        have h3 := szF_mem hy
        refine ⟨h1, ?_⟩
        simp only [szT, tszR] at h2 h3 ⊢
        omega
section
variable {lo p : Nat} {W : World} {V : Value} {st : List Cl × Bool} {v : Value} {xs : List Value} {w w' : World}
end
end Go.Proofs.YtlgnpiphaeoeiadDoor

namespace Go.Proofs.YtlgnpiphaeoeiadDoor
open Go.RowKit Go.Deep Go.ChangeShapes Go.WideShapes
def symF (s : List Int) : Fo → Prop
  | .nil => True
  | .node _ _ x k r => ((x.1 = false → aloneF s x (Fo.len k) = 0) ∧ symF s k) ∧ symF s r
def symT (s : List Int) (t : Tm) : Prop := (t.1.1 = false → aloneF s t.1 (Fo.len t.2) = 0) ∧ symF s t.2
theorem sym_sigF {s : List Int} : ∀ {F : Fo}, sigF s F → symF s F
  | .nil, _ => trivial
  | .node _ _ _ _ _, h => ⟨⟨fun _ => h.1.1, sym_sigF h.1.2⟩, sym_sigF h.2⟩
theorem sym_sig {s : List Int} {t : Tm} (h : sigT s t) : symT s t := ⟨fun _ => h.1, sym_sigF h.2⟩
theorem val_symF {s : List Int} {z : Int} {tb : List (List Int)} {e : Int → Int} (hm : MR s z tb) (hs : s.all okNum = true) (he : ∀ v, 0 ≤ e v ∧ e v < z) :
    ∀ {F : Fo}, symF s F → ∀ (a : Int) (i : Nat), 0 ≤ a → a < pw z i → 0 ≤ valF z tb e F a ∧ valF z tb e F a < pw z (Fo.len F + i)
  | .nil, _, a, i, h0, h1 => by simpa [valF, Fo.len] using ⟨h0, h1⟩
  | .node p q (b, n) k r, h, a, i, h0, h1 => by
    obtain ⟨⟨ha, hk⟩, hr⟩ := h
    have hv : 0 ≤ valT z tb e ((b, n), k) ∧ valT z tb e ((b, n), k) < z := by
      cases b with
      | true => simpa [valT] using he n
      | false =>
        obtain ⟨n0, n1, n2⟩ := alone_sym (ha rfl)
        have ih := val_symF hm hs he hk 0 0 (by omega) (by simp [pw])
        have hn : n.toNat < s.length := by omega
        have ok := List.all_eq_true.1 hs (s.getD n.toNat 0) (by rw [List.getD_eq_getElem?_getD, List.getElem?_eq_getElem hn]; simp)
        have ok' : 0 ≤ s.getD n.toNat 0 ∧ s.getD n.toNat 0 ≤ 2 := by simpa [okNum] using ok
        have hl := hm.row n.toNat hn
        rw [mlen_pw n2 (by omega)] at hl
        rw [Nat.add_zero] at ih
        have hlt : (valF z tb e k 0).toNat < (tb.getD n.toNat []).length := by omega
        have : (tb.getD n.toNat []).getD (valF z tb e k 0).toNat 0 ∈ tb.getD n.toNat [] := by
          rw [List.getD_eq_getElem?_getD (l := tb.getD n.toNat []), List.getElem?_eq_getElem hlt]; simp
        have := hm.all n.toNat hn _ this
        simpa [valT] using this
    rw [valF_node]
    have hd := digit_next hm.z1 h0 h1 hv.1 hv.2
    have := val_symF hm hs he hr (z * a + valT z tb e ((b, n), k)) (i + 1) hd.1 (by rw [pw]; exact hd.2)
    rw [show Fo.len (.node p q (b, n) k r) + i = Fo.len r + (i + 1) by simp [Fo.len]; omega]
    exact this
theorem val_sym {s : List Int} {z : Int} {tb : List (List Int)} {e : Int → Int} (hm : MR s z tb) (hs : s.all okNum = true) (he : ∀ v, 0 ≤ e v ∧ e v < z) {t : Tm} (h : symT s t) : 0 ≤ valT z tb e t ∧ valT z tb e t < z := by
  have h2 : symF s (.node 0 0 t.1 t.2 .nil) := ⟨h, trivial⟩
  have := val_symF hm hs he h2 0 0 (by omega) (by simp [pw])
  rw [valF_node] at this
  simpa [valF, Fo.len, pw] using this
section
variable {s : List Int} {z : Int} {tb : List (List Int)} {c : Cl} {b : Sb}
end
end Go.Proofs.YtlgnpiphaeoeiadDoor

namespace Go.Proofs.YtlgnpiphaeoeiadDoor
open Go.RowKit Go.Deep Go.ChangeShapes Go.WideShapes
def Tn (l : Lt) : Prop := l.2.1 ≠ l.2.2 ∧ abvT l.2.2 l.2.1 = false
end Go.Proofs.YtlgnpiphaeoeiadDoor

namespace Go.Proofs.YtlgnpiphaeoeiadDoor
open Go.RowKit Go.Deep Go.ChangeShapes Go.WideShapes
def sixF : Fo → Prop
  | .nil => True
  | .node _ _ x k r => ((x.1 = false → 0 ≤ x.2 ∧ x.2 < 6) ∧ sixF k) ∧ sixF r
def sixT (t : Tm) : Prop := (t.1.1 = false → 0 ≤ t.1.2 ∧ t.1.2 < 6) ∧ sixF t.2
theorem six_symF {s : List Int} (h6 : s.length ≤ 6) : ∀ {F : Fo}, symF s F → sixF F
  | .nil, _ => trivial
  | .node _ _ x k r, h => by
    refine ⟨⟨fun e => ?_, six_symF h6 h.1.2⟩, six_symF h6 h.2⟩
    have h1 := h.1.1 e
    obtain ⟨b, n⟩ := x
    simp only at e
    subst e
    obtain ⟨n0, n1, _⟩ := alone_sym h1
    simp only
    omega
theorem six_sym {s : List Int} (h6 : s.length ≤ 6) {t : Tm} (h : symT s t) : sixT t := by
  have : symF s (.node 0 0 t.1 t.2 .nil) := ⟨h, trivial⟩
  exact (six_symF h6 this).1
def allT : Nat → List Tm
  | 0 => []
  | n + 1 => ((List.range 10).map fun (i : Nat) => vr (i : Int)) ++ (List.range 6).flatMap fun (f : Nat) => ((false, (f : Int)), BT.nil) :: (((allT n).map fun x => ((false, (f : Int)), BT.node 0 0 x.1 x.2 .nil)) ++ (allT n).flatMap fun x => (allT n).map fun y => ((false, (f : Int)), BT.node 0 0 x.1 x.2 (.node 0 0 y.1 y.2 .nil)))
theorem mem_allT : ∀ (n : Nat) {t : Tm}, Gd t → sixT t → depT t ≤ n → t ∈ allT n
  | 0, t, _, _, h => by unfold depT at h; omega
  | n + 1, ((true, m), k), hg, _, _ => by
    have hk : k = .nil := hg.ok.1 rfl
    subst hk
    have hm := hg.few m (by simp [occT])
    simp only [allT, List.mem_append, List.mem_map, List.mem_range]
    exact .inl ⟨m.toNat, by omega, by simp only [vr]; congr; omega⟩
  | n + 1, ((false, m), k), hg, h6, hd => by
    have hm := h6.1 rfl
    simp only at hm
    have sub : ∀ y ∈ k.list, Gd y ∧ sixT y → depT y ≤ n → y ∈ allT n := fun y _ hy hd => mem_allT n hy.1 hy.2 hd
    have hdk : depF k ≤ n := by unfold depT at hd; simp only at hd; omega
    simp only [allT, List.mem_append, List.mem_flatMap, List.mem_range, List.mem_cons]
    refine .inr ⟨m.toNat, by omega, ?_⟩
    rw [show ((m.toNat : Nat) : Int) = m by omega]
    match k, hg, h6, hdk, sub with
    | .nil, _, _, _, _ => exact .inl rfl
    | .node p q x l .nil, hg, h6, hdk, sub =>
      obtain ⟨rfl, rfl, hx, _⟩ := ok_node.1 hg.ok.2
      have hgx := gd_mem hg rfl (show (x, l) ∈ Fo.list (BT.node 0 0 x l .nil) by simp [Fo.list])
      have hx6 : sixT (x, l) := h6.2.1
      have hdx : depT (x, l) ≤ n := by simp only [depF, depT] at hdk ⊢; omega
      refine .inr (.inl ?_)
      rw [List.mem_map]
      exact ⟨(x, l), sub _ (by simp [Fo.list]) ⟨hgx, hx6⟩ hdx, rfl⟩
    | .node p q x l (.node p' q' y r .nil), hg, h6, hdk, sub =>
      obtain ⟨rfl, rfl, hx, h2⟩ := ok_node.1 hg.ok.2
      obtain ⟨rfl, rfl, hy, _⟩ := ok_node.1 h2
      have hgx := gd_mem hg rfl (show (x, l) ∈ Fo.list (BT.node 0 0 x l (.node 0 0 y r .nil)) by simp [Fo.list])
      have hgy := gd_mem hg rfl (show (y, r) ∈ Fo.list (BT.node 0 0 x l (.node 0 0 y r .nil)) by simp [Fo.list])
      have hdx : depT (x, l) ≤ n := by simp only [depF, depT] at hdk ⊢; omega
      have hdy : depT (y, r) ≤ n := by simp only [depF, depT] at hdk ⊢; omega
      refine .inr (.inr ?_)
      exact ⟨(x, l), sub _ (by simp [Fo.list]) ⟨hgx, h6.2.1⟩ hdx, List.mem_map.2 ⟨(y, r), sub _ (by simp [Fo.list]) ⟨hgy, h6.2.2.1⟩ hdy, rfl⟩⟩
    | .node _ _ _ _ (.node _ _ _ _ (.node _ _ _ _ _)), hg, _, _, _ =>
      have := hg.two.1
      simp only [Fo.len] at this
      omega
theorem all_okT : ∀ (n : Nat) (t : Tm), t ∈ allT n → okT t
  | 0, _, h => by cases h
  | n + 1, t, h => by
    simp only [allT, List.mem_append, List.mem_map, List.mem_flatMap, List.mem_range, List.mem_cons] at h
    rcases h with ⟨i, _, rfl⟩ | ⟨f, _, rfl | ⟨x, hx, rfl⟩ | ⟨x, hx, y, hy, rfl⟩⟩
    · exact ok_vr _
    · exact ⟨fun h => (by cases h), trivial⟩
    · exact ⟨fun h => (by cases h), ok_node.2 ⟨rfl, rfl, all_okT n x hx, trivial⟩⟩
    · exact ⟨fun h => (by cases h), ok_node.2 ⟨rfl, rfl, all_okT n x hx, ok_node.2 ⟨rfl, rfl, all_okT n y hy, trivial⟩⟩⟩
theorem countP_lessM {α : Type} {f g : α → Bool} {i : α} : ∀ {l : List α}, (∀ x ∈ l, g x = true → f x = true) → i ∈ l → f i = true → g i = false → l.countP g < l.countP f
  | [], _, h, _, _ => by cases h
  | y :: r, hfg, h, hf, hg => by
    have hr : ∀ x ∈ r, g x = true → f x = true := fun x hx => hfg x (by simp [hx])
    have hle : r.countP g ≤ r.countP f := List.countP_mono_left (fun x hx => hr x hx)
    rw [List.countP_cons, List.countP_cons]
    rcases List.mem_cons.1 h with rfl | h
    · rw [hf, hg]; simp; omega
    · have := countP_lessM (l := r) hr h hf hg
      by_cases hy : g y = true
      · rw [hy, hfg y (by simp) hy]; simp; omega
      · have : g y = false := by simpa using hy
        rw [this]
        simp only [Bool.false_eq_true, if_false]
        split <;> omega
structure Lw (t : Tm) : Prop where
  gd : Gd t
  six : sixT t
  sz : szT t ≤ 12
theorem Lw.g12 {t : Tm} (h : Lw t) : G12 t := ⟨h.gd, h.sz⟩
def msr (t : Tm) : Nat := (allT 12).countP fun x => abvT t x
theorem msr_less {a b : Tm} (ha : Lw a) (hb : Lw b) (h : abvT a b = true) : msr b < msr a := by
  refine countP_lessM (i := b) (fun x hx hbx => abv_trans _ rfl ha.gd.ok hb.gd.ok (all_okT 12 x hx) h hbx) (mem_allT 12 hb.gd hb.six hb.g12.dep) h ?_
  cases e : abvT b b with
  | false => rfl
  | true => exact absurd e (abv_irr hb.gd.ok)
end Go.Proofs.YtlgnpiphaeoeiadDoor

namespace Go.Proofs.YtlgnpiphaeoeiadDoor
open Go.RowKit Go.Deep Go.ChangeShapes Go.WideShapes
theorem extF_all {P : Tm → Prop} (hP : ∀ t : Tm, P t → ∀ y ∈ t.2.list, P y) : ∀ {k l : Fo} {s s' : Sb}, (∀ y ∈ l.list, P y) → (∀ p ∈ s, P p.2) → extF k l s = some s' → ∀ p ∈ s', P p.2
  | .nil, .nil, s, s', _, hs, h => by
    have e : s = s' := by simpa [extF] using h
    rw [← e]; exact hs
  | .nil, .node _ _ _ _ _, s, s', _, hs, h => by
    have e : s = s' := by simpa [extF] using h
    rw [← e]; exact hs
  | .node _ _ _ _ _, .nil, s, s', _, hs, h => by
    simp [extF] at h
  | .node p q ⟨v, n⟩ k r, .node p' q' y l m, s, s', hl, hs, h => by
    rw [extF_node, Option.bind_eq_some_iff] at h
    obtain ⟨s1, h1, h2⟩ := h
    have hy : P (y, l) := hl (y, l) (by simp [Fo.list])
    have k1 : ∀ p ∈ s1, P p.2 := by
      cases v
      · unfold extT at h1
        simp only [Bool.false_eq_true, if_false] at h1
        split at h1
        · exact extF_all hP (hP _ hy) hs h1
        · cases h1
      · unfold extT at h1
        simp only [if_true] at h1
        split at h1
        · cases h1
          intro p hp
          rcases List.mem_append.1 hp with hp | hp
          · exact hs p hp
          · rw [List.mem_singleton.1 hp]; exact hy
        · split at h1
          · cases h1; exact hs
          · cases h1
    exact extF_all hP (fun z hz => hl z (by simp [Fo.list, hz])) k1 h2
theorem extT_all {P : Tm → Prop} (hP : ∀ t : Tm, P t → ∀ y ∈ t.2.list, P y) {t u : Tm} {s s' : Sb} (hu : P u) (hs : ∀ p ∈ s, P p.2) (h : extT s t u = some s') : ∀ p ∈ s', P p.2 := by
  have h1 : extF (.node 0 0 t.1 t.2 .nil) (.node 0 0 u.1 u.2 .nil) s = some s' := by rw [extF_node, show extT s (t.1, t.2) (u.1, u.2) = some s' from h]; rfl
  refine extF_all hP (fun y hy => ?_) hs h1
  simp only [Fo.list, List.mem_singleton] at hy
  rw [hy]
  exact hu
theorem extT_bound {t u : Tm} {s s' : Sb} (hu : okT u) (hs : ∀ p ∈ s, okT p.2) (h : extT s t u = some s') : ∀ m, occT m t → (look s' m).isSome = true := by
  have h1 : extF (.node 0 0 t.1 t.2 .nil) (.node 0 0 u.1 u.2 .nil) s = some s' := by rw [extF_node, show extT s (t.1, t.2) (u.1, u.2) = some s' from h]; rfl
  obtain ⟨_, _, i3, _⟩ := extF_sound (k := .node 0 0 t.1 t.2 .nil) (l := .node 0 0 u.1 u.2 .nil) rfl (ok_node.2 ⟨rfl, rfl, hu, trivial⟩) hs h1
  exact fun m hm => i3 m (.inl hm)
structure Sm (s : List Int) (t : Tm) : Prop where
  lw : Lw t
  sg : sigT s t
theorem sm_args {s : List Int} (t : Tm) (h : Gd t ∧ sigT s t) : ∀ y ∈ t.2.list, Gd y ∧ sigT s y := fun y hy => by
  obtain ⟨⟨v, n⟩, k⟩ := t
  cases v with
  | true => rw [h.1.ok.1 rfl] at hy; simp [Fo.list] at hy
  | false => exact ⟨gd_mem h.1 rfl hy, sig_mem h.2.2 y hy⟩
theorem sm_at {s : List Int} : ∀ {p : List Int} {x : Bool × Int} {k : Fo} {z : Tm}, Gd (x, k) ∧ sigT s (x, k) → atT p x k = some z → Gd z ∧ sigT s z
  | [], _, _, _, h, hz => by cases hz; exact h
  | n :: p, x, k, z, h, hz => by
    obtain ⟨_, _, _, y, hy, hz'⟩ := atT_some hz
    exact sm_at (x := y.1) (k := y.2) (sm_args _ h y (List.mem_of_getElem? hy)) hz'
theorem Sm.at {s : List Int} {p : List Int} {t z : Tm} (h : Sm s t) (h6 : s.length ≤ 6) (hz : atT p t.1 t.2 = some z) : Sm s z := by
  have h1 := sm_at ⟨h.lw.gd, h.sg⟩ hz
  exact ⟨⟨h1.1, six_sym h6 (sym_sig h1.2), Nat.le_trans (gdsz_at h.lw.gd hz).2 h.lw.sz⟩, h1.2⟩
theorem sig_setF {s : List Int} {f : Tm → Tm} : ∀ {F : Fo} {i : Nat}, sigF s F → (∀ y, sigT s y → sigT s (f y)) → sigF s (setF F i f)
  | .nil, _, _, _ => trivial
  | .node _ _ x k _, 0, h, hf => ⟨hf (x, k) h.1, h.2⟩
  | .node _ _ _ _ _, _ + 1, h, hf => ⟨h.1, sig_setF h.2 hf⟩
theorem sig_put {s : List Int} {u : Tm} (hu : sigT s u) : ∀ {p : List Int} {x : Bool × Int} {k : Fo}, sigT s (x, k) → sigT s (putT p (x, k) u)
  | [], _, _, _ => hu
  | n :: p, x, k, h => by
    rw [putT]
    split
    · exact h
    · refine ⟨?_, sig_setF h.2 (fun y hy => sig_put hu (x := y.1) (k := y.2) hy)⟩
      dsimp only
      rw [setF_len]
      exact h.1
theorem setF_same {f : Tm → Tm} : ∀ {F : Fo} {i : Nat} {y : Tm}, F.list[i]? = some y → f y = y → setF F i f = F
  | .nil, _, _, h, _ => by simp [Fo.list] at h
  | .node _ _ x k _, 0, y, h, e => by
    simp only [Fo.list, List.getElem?_cons_zero, Option.some.injEq] at h
    subst h
    simp only [setF]
    rw [e]
  | .node _ _ _ _ r, i + 1, y, h, e => by
    simp only [setF]
    rw [setF_same (F := r) (i := i) (by simpa [Fo.list] using h) e]
theorem put_same : ∀ {p : List Int} {x : Bool × Int} {k : Fo} {z : Tm}, atT p x k = some z → putT p (x, k) z = (x, k)
  | [], _, _, _, h => by cases h; rfl
  | n :: p, x, k, z, h => by
    obtain ⟨hx, h0, h1, y, hy, hz⟩ := atT_some h
    rw [putT, if_neg (by simp [hx]; omega)]
    dsimp only
    rw [setF_same (f := fun s => putT p s z) hy (put_same (x := y.1) (k := y.2) hz)]
theorem abv_le {a b : Tm} (hb : okT b) (h : abvT a b = true) : szT b ≤ szT a := by
  rcases ((abv_iff hb).1 h).2.2 with h | h
  · omega
  · omega
def newV (w : Lt) : Bool := decide ((varsT w.2.1.1 w.2.1.2 []).length < (varsT w.2.2.1 w.2.2.2 (varsT w.2.1.1 w.2.1.2 [])).length)
def tryW (z : Tm) (w : Lt) : Option Tm := match extT [] w.2.1 z with
  | none => none
  | some b => if newV w = true then none else if abvT z (subT (bnd b) w.2.2) = true then some (subT (bnd b) w.2.2) else none
def tryU (z : Tm) (u : Lt) : Option Tm := match tryW z u with
  | some r => some r
  | none => tryW z (turnL true u)
def tryUs (z : Tm) : List Lt → Option Tm
  | [] => none
  | u :: us => match tryU z u with
    | some r => some r
    | none => tryUs z us
def tryP (us : List Lt) (t : Tm) : List (List Int) → Option Tm
  | [] => none
  | p :: Z => match atT p t.1 t.2 with
    | none => tryP us t Z
    | some z => match tryUs z us with
      | some r => some (putT p t r)
      | none => tryP us t Z
def stepD (us : List Lt) (t : Tm) : Option Tm := tryP us t (placesT t.1 t.2 [])
theorem tryUs_some {z r : Tm} : ∀ {us : List Lt}, tryUs z us = some r → ∃ u ∈ us, ∃ k, tryW z (turnL k u) = some r
  | [], h => by cases h
  | u :: us, h => by
    unfold tryUs at h
    split at h
    · rename_i r' hr
      cases h
      unfold tryU at hr
      split at hr
      · rename_i r'' hw
        cases hr
        exact ⟨u, by simp, false, hw⟩
      · exact ⟨u, by simp, true, hr⟩
    · obtain ⟨u', hu, k, hk⟩ := tryUs_some h
      exact ⟨u', by simp [hu], k, hk⟩
theorem tryP_some {us : List Lt} {t t' : Tm} : ∀ {Z : List (List Int)}, tryP us t Z = some t' → ∃ p ∈ Z, ∃ z r, atT p t.1 t.2 = some z ∧ tryUs z us = some r ∧ t' = putT p t r
  | [], h => by cases h
  | p :: Z, h => by
    unfold tryP at h
    split at h
    · obtain ⟨p', hp, h'⟩ := tryP_some h
      exact ⟨p', by simp [hp], h'⟩
    · rename_i z hz
      split at h
      · rename_i r hr
        cases h
        exact ⟨p, by simp, z, r, hz, hr, rfl⟩
      · obtain ⟨p', hp, h'⟩ := tryP_some h
        exact ⟨p', by simp [hp], h'⟩
def Uns (s : List Int) (us : List Lt) : Prop := ∀ u ∈ us, Sm s u.2.1 ∧ Sm s u.2.2
theorem tryW_ok {s : List Int} (h6 : s.length ≤ 6) {z r : Tm} {w : Lt} (hz : Sm s z) (hw : Sm s w.2.1 ∧ Sm s w.2.2) (h : tryW z w = some r) : abvT z r = true ∧ Sm s r ∧ ∃ b : Sb, (∀ p ∈ b, sigT s p.2) ∧ subT (bnd b) w.2.1 = z ∧ subT (bnd b) w.2.2 = r := by
  unfold tryW at h
  split at h
  · cases h
  · rename_i b hb
    split at h
    · cases h
    · split at h
      · rename_i habv
        cases h
        have hP := extT_all (P := fun t => Gd t ∧ sigT s t) sm_args ⟨hz.lw.gd, hz.sg⟩ (fun p hp => by cases hp) hb
        have hs := extT_sound hz.lw.gd.ok (fun p hp => by cases hp) hb
        have hg : Gd (subT (bnd b) w.2.2) := gd_sub (fun p hp => (hP p hp).1) hw.2.lw.gd
        have hsg : sigT s (subT (bnd b) w.2.2) := sig_sub (fun n hn => by
          cases el : look b n with
          | some u => rw [bnd_some el]; exact (hP _ (look_mem el)).2
          | none =>
            rw [bnd_none el]
            have := sig_fewT hw.2.sg n hn
            refine ⟨?_, trivial⟩
            unfold aloneF vr
            simp [Fo.len]
            omega) hw.2.sg
        exact ⟨habv, ⟨⟨hg, six_sym h6 (sym_sig hsg), Nat.le_trans (abv_le hg.ok habv) hz.lw.sz⟩, hsg⟩, b, fun p hp => (hP p hp).2, hs.2, rfl⟩
      · cases h
theorem turn_sm {s : List Int} {u : Lt} (k : Bool) (h : Sm s u.2.1 ∧ Sm s u.2.2) : Sm s (turnL k u).2.1 ∧ Sm s (turnL k u).2.2 := by
  cases k
  · exact h
  · exact h.symm
theorem stepD_some {s : List Int} (h6 : s.length ≤ 6) {us : List Lt} (hus : Uns s us) {t t' : Tm} (ht : Sm s t) (h : stepD us t = some t') : ∃ (p : List Int) (z r : Tm) (u : Lt) (k : Bool), u ∈ us ∧ atT p t.1 t.2 = some z ∧ tryW z (turnL k u) = some r ∧ t' = putT p t r ∧ abvT t t' = true ∧ Sm s t' := by
  obtain ⟨p, _, z, r, hz, hr, rfl⟩ := tryP_some h
  obtain ⟨u, hu, k, hk⟩ := tryUs_some hr
  have hsz := ht.at h6 hz
  obtain ⟨ha, hsr, _⟩ := tryW_ok h6 hsz (turn_sm k (hus u hu)) hk
  have h1 := abv_put hsz.lw.gd.ok hsr.lw.gd.ok ha (x := t.1) (k := t.2) ht.lw.gd.ok hz
  rw [put_same hz] at h1
  have hgp := gd_put hsr.lw.gd (x := t.1) (k := t.2) ht.lw.gd hz
  have hsp := sig_put hsr.sg (p := p) (x := t.1) (k := t.2) ht.sg
  exact ⟨p, z, r, u, k, hu, hz, hk, rfl, h1, ⟨⟨hgp.1, six_sym h6 (sym_sig hsp), Nat.le_trans (abv_le hgp.1.ok h1) ht.lw.sz⟩, hsp⟩⟩
def downN (us : List Lt) : Nat → Tm → Tm
  | 0, t => t
  | n + 1, t => match stepD us t with
    | some t' => downN us n t'
    | none => t
def downT (us : List Lt) (t : Tm) : Tm := downN us (msr t) t
theorem downN_more {s : List Int} (h6 : s.length ≤ 6) {us : List Lt} (hus : Uns s us) : ∀ (n m : Nat) {t : Tm}, Sm s t → msr t ≤ n → msr t ≤ m → downN us n t = downN us m t := by
  intro n
  induction n with
  | zero =>
    intro m t ht h1 _
    cases m with
    | zero => rfl
    | succ m =>
      unfold downN
      cases e : stepD us t with
      | none => rfl
      | some t' =>
        obtain ⟨_, _, _, _, _, _, _, _, _, ha, hs⟩ := stepD_some h6 hus ht e
        have := msr_less ht.lw hs.lw ha
        omega
  | succ n ih =>
    intro m t ht h1 h2
    cases e : stepD us t with
    | none =>
      cases m with
      | zero => simp [downN, e]
      | succ m => simp [downN, e]
    | some t' =>
      obtain ⟨_, _, _, _, _, _, _, _, _, ha, hs⟩ := stepD_some h6 hus ht e
      have hl := msr_less ht.lw hs.lw ha
      cases m with
      | zero => omega
      | succ m =>
        simp only [downN, e]
        exact ih m hs (by omega) (by omega)
theorem downT_stop {us : List Lt} {t : Tm} (h : stepD us t = none) : downT us t = t := by
  unfold downT
  cases msr t with
  | zero => rfl
  | succ n => simp [downN, h]
theorem downT_step {s : List Int} (h6 : s.length ≤ 6) {us : List Lt} (hus : Uns s us) {t t' : Tm} (ht : Sm s t) (h : stepD us t = some t') : downT us t = downT us t' := by
  obtain ⟨_, _, _, _, _, _, _, _, _, ha, hs⟩ := stepD_some h6 hus ht h
  have hl := msr_less ht.lw hs.lw ha
  unfold downT
  obtain ⟨k, hk⟩ : ∃ k, msr t = k + 1 := ⟨msr t - 1, by omega⟩
  rw [hk]
  simp only [downN, h]
  exact downN_more h6 hus k (msr t') hs (by omega) (Nat.le_refl _)
theorem downT_ok {s : List Int} (h6 : s.length ≤ 6) {us : List Lt} (hus : Uns s us) : ∀ (n : Nat) {t : Tm}, msr t = n → Sm s t → Sm s (downT us t) ∧ stepD us (downT us t) = none ∧ (downT us t = t ∨ abvT t (downT us t) = true) := by
  intro n
  induction n using Nat.strongRecOn with
  | _ n ih =>
    intro t hn ht
    cases e : stepD us t with
    | none =>
      rw [downT_stop e]
      exact ⟨ht, e, .inl rfl⟩
    | some t' =>
      obtain ⟨_, _, _, _, _, _, _, _, _, ha, hs⟩ := stepD_some h6 hus ht e
      have hl := msr_less ht.lw hs.lw ha
      rw [downT_step h6 hus ht e]
      obtain ⟨k1, k2, k3⟩ := ih (msr t') (by omega) rfl hs
      refine ⟨k1, k2, .inr ?_⟩
      rcases k3 with k3 | k3
      · rw [k3]; exact ha
      · exact abv_trans _ rfl ht.lw.gd.ok hs.lw.gd.ok k1.lw.gd.ok ha k3
end Go.Proofs.YtlgnpiphaeoeiadDoor

namespace Go.Proofs.YtlgnpiphaeoeiadDoor
open Go.RowKit Go.Deep Go.ChangeShapes Go.WideShapes
def downC (us : List Lt) (c : Cl) : Cl := c.map (mapL (downT us))
def rwC (us : List Lt) (c : Cl) : Int × Cl := normC (downC us c)
def SmC (s : List Int) (c : Cl) : Prop := ∀ l ∈ c, Sm s l.2.1 ∧ Sm s l.2.2
theorem Sm.gl {s : List Int} {l : Lt} (h : Sm s l.2.1 ∧ Sm s l.2.2) : GL l :=
  ⟨h.1.lw.gd, h.2.lw.gd, fun m hm => (sig_fewT h.1.sg m hm).2, fun m hm => (sig_fewT h.2.sg m hm).2, h.1.lw.sz, h.2.lw.sz⟩
theorem SmC.gc {s : List Int} {c : Cl} (h : SmC s c) (h4 : c.length ≤ 4) : GC c := ⟨h4, fun l hl => Sm.gl (h l hl)⟩
theorem sm_gc {s : List Int} (h6 : s.length ≤ 6) {c : Cl} (hc : GC c) (hg : ∀ l ∈ c, sigT s l.2.1 ∧ sigT s l.2.2) : SmC s c := fun l hl =>
  ⟨⟨⟨(hc.2 l hl).gl, six_sym h6 (sym_sig (hg l hl).1), (hc.2 l hl).sl⟩, (hg l hl).1⟩, ⟨⟨(hc.2 l hl).gr, six_sym h6 (sym_sig (hg l hl).2), (hc.2 l hl).sr⟩, (hg l hl).2⟩⟩
theorem down_sm {s : List Int} (h6 : s.length ≤ 6) {us : List Lt} (hus : Uns s us) {c : Cl} (hc : SmC s c) : SmC s (downC us c) := fun l hl => by
  obtain ⟨x, hx, rfl⟩ := List.mem_map.1 hl
  exact ⟨(downT_ok h6 hus _ rfl (hc x hx).1).1, (downT_ok h6 hus _ rfl (hc x hx).2).1⟩
end Go.Proofs.YtlgnpiphaeoeiadDoor
