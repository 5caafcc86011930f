/- D7a D7b D7c D7d D7e D7f -/
import Derived.Test.YtlgnpiphaeoeiadDoorG14
import Derived.BigQuiet
namespace Go.Proofs.YtlgnpiphaeoeiadDoor
open Go.RowKit Go.Deep Go.ChangeShapes Go.WideShapes
def sixF : Fo → Prop
  | .nil => True
  | .node _ _ x k r => ((x.1 = false → 0 ≤ x.2 ∧ x.2 < 6) ∧ sixF k) ∧ sixF r
def sixT (t : Tm) : Prop := (t.1.1 = false → 0 ≤ t.1.2 ∧ t.1.2 < 6) ∧ sixF t.2
theorem six_symF {s : List Int} (h6 : s.length ≤ 6) : ∀ {F : Fo}, symF s F → sixF F
  | .nil, _ => trivial
  | .node _ _ x k r, h => by
    refine ⟨⟨fun e => ?_, six_symF h6 h.1.2⟩, six_symF h6 h.2⟩
    have h1 := h.1.1 e
    obtain ⟨b, n⟩ := x
    simp only at e
    subst e
    obtain ⟨n0, n1, _⟩ := alone_sym h1
    simp only
    omega
theorem six_sym {s : List Int} (h6 : s.length ≤ 6) {t : Tm} (h : symT s t) : sixT t := by
  have : symF s (.node 0 0 t.1 t.2 .nil) := ⟨h, trivial⟩
  exact (six_symF h6 this).1
def allT : Nat → List Tm
  | 0 => []
  | n + 1 => ((List.range 10).map fun (i : Nat) => vr (i : Int)) ++ (List.range 6).flatMap fun (f : Nat) => ((false, (f : Int)), BT.nil) :: (((allT n).map fun x => ((false, (f : Int)), BT.node 0 0 x.1 x.2 .nil)) ++ (allT n).flatMap fun x => (allT n).map fun y => ((false, (f : Int)), BT.node 0 0 x.1 x.2 (.node 0 0 y.1 y.2 .nil)))
theorem mem_allT : ∀ (n : Nat) {t : Tm}, Gd t → sixT t → depT t ≤ n → t ∈ allT n
  | 0, t, _, _, h => by unfold depT at h; omega
  | n + 1, ((true, m), k), hg, _, _ => by
    have hk : k = .nil := hg.ok.1 rfl
    subst hk
    have hm := hg.few m (by simp [occT])
    simp only [allT, List.mem_append, List.mem_map, List.mem_range]
    exact .inl ⟨m.toNat, by omega, by simp only [vr]; congr; omega⟩
  | n + 1, ((false, m), k), hg, h6, hd => by
    have hm := h6.1 rfl
    simp only at hm
    have sub : ∀ y ∈ k.list, Gd y ∧ sixT y → depT y ≤ n → y ∈ allT n := fun y _ hy hd => mem_allT n hy.1 hy.2 hd
    have hdk : depF k ≤ n := by unfold depT at hd; simp only at hd; omega
    simp only [allT, List.mem_append, List.mem_flatMap, List.mem_range, List.mem_cons]
    refine .inr ⟨m.toNat, by omega, ?_⟩
    rw [show ((m.toNat : Nat) : Int) = m by omega]
    match k, hg, h6, hdk, sub with
    | .nil, _, _, _, _ => exact .inl rfl
    | .node p q x l .nil, hg, h6, hdk, sub =>
      obtain ⟨rfl, rfl, hx, _⟩ := ok_node.1 hg.ok.2
      have hgx := gd_mem hg rfl (show (x, l) ∈ Fo.list (BT.node 0 0 x l .nil) by simp [Fo.list])
      have hx6 : sixT (x, l) := h6.2.1
      have hdx : depT (x, l) ≤ n := by simp only [depF, depT] at hdk ⊢; omega
      refine .inr (.inl ?_)
      rw [List.mem_map]
      exact ⟨(x, l), sub _ (by simp [Fo.list]) ⟨hgx, hx6⟩ hdx, rfl⟩
    | .node p q x l (.node p' q' y r .nil), hg, h6, hdk, sub =>
      obtain ⟨rfl, rfl, hx, h2⟩ := ok_node.1 hg.ok.2
      obtain ⟨rfl, rfl, hy, _⟩ := ok_node.1 h2
      have hgx := gd_mem hg rfl (show (x, l) ∈ Fo.list (BT.node 0 0 x l (.node 0 0 y r .nil)) by simp [Fo.list])
      have hgy := gd_mem hg rfl (show (y, r) ∈ Fo.list (BT.node 0 0 x l (.node 0 0 y r .nil)) by simp [Fo.list])
      have hdx : depT (x, l) ≤ n := by simp only [depF, depT] at hdk ⊢; omega
      have hdy : depT (y, r) ≤ n := by simp only [depF, depT] at hdk ⊢; omega
      refine .inr (.inr ?_)
      exact ⟨(x, l), sub _ (by simp [Fo.list]) ⟨hgx, h6.2.1⟩ hdx, List.mem_map.2 ⟨(y, r), sub _ (by simp [Fo.list]) ⟨hgy, h6.2.2.1⟩ hdy, rfl⟩⟩
    | .node _ _ _ _ (.node _ _ _ _ (.node _ _ _ _ _)), hg, _, _, _ =>
      have := hg.two.1
      simp only [Fo.len] at this
      omega
theorem all_okT : ∀ (n : Nat) (t : Tm), t ∈ allT n → okT t
  | 0, _, h => by cases h
  | n + 1, t, h => by
    simp only [allT, List.mem_append, List.mem_map, List.mem_flatMap, List.mem_range, List.mem_cons] at h
    rcases h with ⟨i, _, rfl⟩ | ⟨f, _, rfl | ⟨x, hx, rfl⟩ | ⟨x, hx, y, hy, rfl⟩⟩
    · exact ok_vr _
    · exact ⟨fun h => (by cases h), trivial⟩
    · exact ⟨fun h => (by cases h), ok_node.2 ⟨rfl, rfl, all_okT n x hx, trivial⟩⟩
    · exact ⟨fun h => (by cases h), ok_node.2 ⟨rfl, rfl, all_okT n x hx, ok_node.2 ⟨rfl, rfl, all_okT n y hy, trivial⟩⟩⟩
theorem countP_lessM {α : Type} {f g : α → Bool} {i : α} : ∀ {l : List α}, (∀ x ∈ l, g x = true → f x = true) → i ∈ l → f i = true → g i = false → l.countP g < l.countP f
  | [], _, h, _, _ => by cases h
  | y :: r, hfg, h, hf, hg => by
    have hr : ∀ x ∈ r, g x = true → f x = true := fun x hx => hfg x (by simp [hx])
    have hle : r.countP g ≤ r.countP f := List.countP_mono_left (fun x hx => hr x hx)
    rw [List.countP_cons, List.countP_cons]
    rcases List.mem_cons.1 h with rfl | h
    · rw [hf, hg]; simp; omega
    · have := countP_lessM (l := r) hr h hf hg
      by_cases hy : g y = true
      · rw [hy, hfg y (by simp) hy]; simp; omega
      · have : g y = false := by simpa using hy
        rw [this]
        simp only [Bool.false_eq_true, if_false]
        split <;> omega
structure Lw (t : Tm) : Prop where
  gd : Gd t
  six : sixT t
  sz : szT t ≤ 12
theorem Lw.g12 {t : Tm} (h : Lw t) : G12 t := ⟨h.gd, h.sz⟩
def msr (t : Tm) : Nat := (allT 12).countP fun x => abvT t x
theorem msr_less {a b : Tm} (ha : Lw a) (hb : Lw b) (h : abvT a b = true) : msr b < msr a := by
  refine countP_lessM (i := b) (fun x hx hbx => abv_trans _ rfl ha.gd.ok hb.gd.ok (all_okT 12 x hx) h hbx) (mem_allT 12 hb.gd hb.six hb.g12.dep) h ?_
  cases e : abvT b b with
  | false => rfl
  | true => exact absurd e (abv_irr hb.gd.ok)
end Go.Proofs.YtlgnpiphaeoeiadDoor

namespace Go.Proofs.YtlgnpiphaeoeiadDoor
open Go.RowKit Go.Deep Go.ChangeShapes Go.WideShapes
theorem extF_all {P : Tm → Prop} (hP : ∀ t : Tm, P t → ∀ y ∈ t.2.list, P y) : ∀ {k l : Fo} {s s' : Sb}, (∀ y ∈ l.list, P y) → (∀ p ∈ s, P p.2) → extF k l s = some s' → ∀ p ∈ s', P p.2
  | .nil, .nil, s, s', _, hs, h => by
    have e : s = s' := by simpa [extF] using h
    rw [← e]; exact hs
  | .nil, .node _ _ _ _ _, s, s', _, hs, h => by
    have e : s = s' := by simpa [extF] using h
    rw [← e]; exact hs
  | .node _ _ _ _ _, .nil, s, s', _, hs, h => by
    simp [extF] at h
  | .node p q ⟨v, n⟩ k r, .node p' q' y l m, s, s', hl, hs, h => by
    rw [extF_node, Option.bind_eq_some_iff] at h
    obtain ⟨s1, h1, h2⟩ := h
    have hy : P (y, l) := hl (y, l) (by simp [Fo.list])
    have k1 : ∀ p ∈ s1, P p.2 := by
      cases v
      · unfold extT at h1
        simp only [Bool.false_eq_true, if_false] at h1
        split at h1
        · exact extF_all hP (hP _ hy) hs h1
        · cases h1
      · unfold extT at h1
        simp only [if_true] at h1
        split at h1
        · cases h1
          intro p hp
          rcases List.mem_append.1 hp with hp | hp
          · exact hs p hp
          · rw [List.mem_singleton.1 hp]; exact hy
        · split at h1
          · cases h1; exact hs
          · cases h1
    exact extF_all hP (fun z hz => hl z (by simp [Fo.list, hz])) k1 h2
theorem extT_all {P : Tm → Prop} (hP : ∀ t : Tm, P t → ∀ y ∈ t.2.list, P y) {t u : Tm} {s s' : Sb} (hu : P u) (hs : ∀ p ∈ s, P p.2) (h : extT s t u = some s') : ∀ p ∈ s', P p.2 := by
  have h1 : extF (.node 0 0 t.1 t.2 .nil) (.node 0 0 u.1 u.2 .nil) s = some s' := by rw [extF_node, show extT s (t.1, t.2) (u.1, u.2) = some s' from h]; rfl
  refine extF_all hP (fun y hy => ?_) hs h1
  simp only [Fo.list, List.mem_singleton] at hy
  rw [hy]
  exact hu
theorem extT_bound {t u : Tm} {s s' : Sb} (hu : okT u) (hs : ∀ p ∈ s, okT p.2) (h : extT s t u = some s') : ∀ m, occT m t → (look s' m).isSome = true := by
  have h1 : extF (.node 0 0 t.1 t.2 .nil) (.node 0 0 u.1 u.2 .nil) s = some s' := by rw [extF_node, show extT s (t.1, t.2) (u.1, u.2) = some s' from h]; rfl
  obtain ⟨_, _, i3, _⟩ := extF_sound (k := .node 0 0 t.1 t.2 .nil) (l := .node 0 0 u.1 u.2 .nil) rfl (ok_node.2 ⟨rfl, rfl, hu, trivial⟩) hs h1
  exact fun m hm => i3 m (.inl hm)
structure Sm (s : List Int) (t : Tm) : Prop where
  lw : Lw t
  sg : sigT s t
theorem sm_args {s : List Int} (t : Tm) (h : Gd t ∧ sigT s t) : ∀ y ∈ t.2.list, Gd y ∧ sigT s y := fun y hy => by
  obtain ⟨⟨v, n⟩, k⟩ := t
  cases v with
  | true => rw [h.1.ok.1 rfl] at hy; simp [Fo.list] at hy
  | false => exact ⟨gd_mem h.1 rfl hy, sig_mem h.2.2 y hy⟩
theorem sm_at {s : List Int} : ∀ {p : List Int} {x : Bool × Int} {k : Fo} {z : Tm}, Gd (x, k) ∧ sigT s (x, k) → atT p x k = some z → Gd z ∧ sigT s z
  | [], _, _, _, h, hz => by cases hz; exact h
  | n :: p, x, k, z, h, hz => by
    obtain ⟨_, _, _, y, hy, hz'⟩ := atT_some hz
    exact sm_at (x := y.1) (k := y.2) (sm_args _ h y (List.mem_of_getElem? hy)) hz'
theorem Sm.at {s : List Int} {p : List Int} {t z : Tm} (h : Sm s t) (h6 : s.length ≤ 6) (hz : atT p t.1 t.2 = some z) : Sm s z := by
  have h1 := sm_at ⟨h.lw.gd, h.sg⟩ hz
  exact ⟨⟨h1.1, six_sym h6 (sym_sig h1.2), Nat.le_trans (gdsz_at h.lw.gd hz).2 h.lw.sz⟩, h1.2⟩
theorem sig_setF {s : List Int} {f : Tm → Tm} : ∀ {F : Fo} {i : Nat}, sigF s F → (∀ y, sigT s y → sigT s (f y)) → sigF s (setF F i f)
  | .nil, _, _, _ => trivial
  | .node _ _ x k _, 0, h, hf => ⟨hf (x, k) h.1, h.2⟩
  | .node _ _ _ _ _, _ + 1, h, hf => ⟨h.1, sig_setF h.2 hf⟩
theorem sig_put {s : List Int} {u : Tm} (hu : sigT s u) : ∀ {p : List Int} {x : Bool × Int} {k : Fo}, sigT s (x, k) → sigT s (putT p (x, k) u)
  | [], _, _, _ => hu
  | n :: p, x, k, h => by
    rw [putT]
    split
    · exact h
    · refine ⟨?_, sig_setF h.2 (fun y hy => sig_put hu (x := y.1) (k := y.2) hy)⟩
      dsimp only
      rw [setF_len]
      exact h.1
theorem setF_same {f : Tm → Tm} : ∀ {F : Fo} {i : Nat} {y : Tm}, F.list[i]? = some y → f y = y → setF F i f = F
  | .nil, _, _, h, _ => by simp [Fo.list] at h
  | .node _ _ x k _, 0, y, h, e => by
    simp only [Fo.list, List.getElem?_cons_zero, Option.some.injEq] at h
    subst h
    simp only [setF]
    rw [e]
  | .node _ _ _ _ r, i + 1, y, h, e => by
    simp only [setF]
    rw [setF_same (F := r) (i := i) (by simpa [Fo.list] using h) e]
theorem put_same : ∀ {p : List Int} {x : Bool × Int} {k : Fo} {z : Tm}, atT p x k = some z → putT p (x, k) z = (x, k)
  | [], _, _, _, h => by cases h; rfl
  | n :: p, x, k, z, h => by
    obtain ⟨hx, h0, h1, y, hy, hz⟩ := atT_some h
    rw [putT, if_neg (by simp [hx]; omega)]
    dsimp only
    rw [setF_same (f := fun s => putT p s z) hy (put_same (x := y.1) (k := y.2) hz)]
theorem abv_le {a b : Tm} (hb : okT b) (h : abvT a b = true) : szT b ≤ szT a := by
  rcases ((abv_iff hb).1 h).2.2 with h | h
  · omega
  · omega
def newV (w : Lt) : Bool := decide ((varsT w.2.1.1 w.2.1.2 []).length < (varsT w.2.2.1 w.2.2.2 (varsT w.2.1.1 w.2.1.2 [])).length)
def tryW (z : Tm) (w : Lt) : Option Tm := match extT [] w.2.1 z with
  | none => none
  | some b => if newV w = true then none else if abvT z (subT (bnd b) w.2.2) = true then some (subT (bnd b) w.2.2) else none
def tryU (z : Tm) (u : Lt) : Option Tm := match tryW z u with
  | some r => some r
  | none => tryW z (turnL true u)
def tryUs (z : Tm) : List Lt → Option Tm
  | [] => none
  | u :: us => match tryU z u with
    | some r => some r
    | none => tryUs z us
def tryP (us : List Lt) (t : Tm) : List (List Int) → Option Tm
  | [] => none
  | p :: Z => match atT p t.1 t.2 with
    | none => tryP us t Z
    | some z => match tryUs z us with
      | some r => some (putT p t r)
      | none => tryP us t Z
def stepD (us : List Lt) (t : Tm) : Option Tm := tryP us t (placesT t.1 t.2 [])
theorem tryUs_some {z r : Tm} : ∀ {us : List Lt}, tryUs z us = some r → ∃ u ∈ us, ∃ k, tryW z (turnL k u) = some r
  | [], h => by cases h
  | u :: us, h => by
    unfold tryUs at h
    split at h
    · rename_i r' hr
      cases h
      unfold tryU at hr
      split at hr
      · rename_i r'' hw
        cases hr
        exact ⟨u, by simp, false, hw⟩
      · exact ⟨u, by simp, true, hr⟩
    · obtain ⟨u', hu, k, hk⟩ := tryUs_some h
      exact ⟨u', by simp [hu], k, hk⟩
theorem tryP_some {us : List Lt} {t t' : Tm} : ∀ {Z : List (List Int)}, tryP us t Z = some t' → ∃ p ∈ Z, ∃ z r, atT p t.1 t.2 = some z ∧ tryUs z us = some r ∧ t' = putT p t r
  | [], h => by cases h
  | p :: Z, h => by
    unfold tryP at h
    split at h
    · obtain ⟨p', hp, h'⟩ := tryP_some h
      exact ⟨p', by simp [hp], h'⟩
    · rename_i z hz
      split at h
      · rename_i r hr
        cases h
        exact ⟨p, by simp, z, r, hz, hr, rfl⟩
      · obtain ⟨p', hp, h'⟩ := tryP_some h
        exact ⟨p', by simp [hp], h'⟩
def Uns (s : List Int) (us : List Lt) : Prop := ∀ u ∈ us, Sm s u.2.1 ∧ Sm s u.2.2
theorem tryW_ok {s : List Int} (h6 : s.length ≤ 6) {z r : Tm} {w : Lt} (hz : Sm s z) (hw : Sm s w.2.1 ∧ Sm s w.2.2) (h : tryW z w = some r) : abvT z r = true ∧ Sm s r ∧ ∃ b : Sb, (∀ p ∈ b, sigT s p.2) ∧ subT (bnd b) w.2.1 = z ∧ subT (bnd b) w.2.2 = r := by
  unfold tryW at h
  split at h
  · cases h
  · rename_i b hb
    split at h
    · cases h
    · split at h
      · rename_i habv
        cases h
        have hP := extT_all (P := fun t => Gd t ∧ sigT s t) sm_args ⟨hz.lw.gd, hz.sg⟩ (fun p hp => by cases hp) hb
        have hs := extT_sound hz.lw.gd.ok (fun p hp => by cases hp) hb
        have hg : Gd (subT (bnd b) w.2.2) := gd_sub (fun p hp => (hP p hp).1) hw.2.lw.gd
        have hsg : sigT s (subT (bnd b) w.2.2) := sig_sub (fun n hn => by
          cases el : look b n with
          | some u => rw [bnd_some el]; exact (hP _ (look_mem el)).2
          | none =>
            rw [bnd_none el]
            have := sig_fewT hw.2.sg n hn
            refine ⟨?_, trivial⟩
            unfold aloneF vr
            simp [Fo.len]
            omega) hw.2.sg
        exact ⟨habv, ⟨⟨hg, six_sym h6 (sym_sig hsg), Nat.le_trans (abv_le hg.ok habv) hz.lw.sz⟩, hsg⟩, b, fun p hp => (hP p hp).2, hs.2, rfl⟩
      · cases h
theorem turn_sm {s : List Int} {u : Lt} (k : Bool) (h : Sm s u.2.1 ∧ Sm s u.2.2) : Sm s (turnL k u).2.1 ∧ Sm s (turnL k u).2.2 := by
  cases k
  · exact h
  · exact h.symm
theorem stepD_some {s : List Int} (h6 : s.length ≤ 6) {us : List Lt} (hus : Uns s us) {t t' : Tm} (ht : Sm s t) (h : stepD us t = some t') : ∃ (p : List Int) (z r : Tm) (u : Lt) (k : Bool), u ∈ us ∧ atT p t.1 t.2 = some z ∧ tryW z (turnL k u) = some r ∧ t' = putT p t r ∧ abvT t t' = true ∧ Sm s t' := by
  obtain ⟨p, _, z, r, hz, hr, rfl⟩ := tryP_some h
  obtain ⟨u, hu, k, hk⟩ := tryUs_some hr
  have hsz := ht.at h6 hz
  obtain ⟨ha, hsr, _⟩ := tryW_ok h6 hsz (turn_sm k (hus u hu)) hk
  have h1 := abv_put hsz.lw.gd.ok hsr.lw.gd.ok ha (x := t.1) (k := t.2) ht.lw.gd.ok hz
  rw [put_same hz] at h1
  have hgp := gd_put hsr.lw.gd (x := t.1) (k := t.2) ht.lw.gd hz
  have hsp := sig_put hsr.sg (p := p) (x := t.1) (k := t.2) ht.sg
  exact ⟨p, z, r, u, k, hu, hz, hk, rfl, h1, ⟨⟨hgp.1, six_sym h6 (sym_sig hsp), Nat.le_trans (abv_le hgp.1.ok h1) ht.lw.sz⟩, hsp⟩⟩
def downN (us : List Lt) : Nat → Tm → Tm
  | 0, t => t
  | n + 1, t => match stepD us t with
    | some t' => downN us n t'
    | none => t
def downT (us : List Lt) (t : Tm) : Tm := downN us (msr t) t
theorem downN_more {s : List Int} (h6 : s.length ≤ 6) {us : List Lt} (hus : Uns s us) : ∀ (n m : Nat) {t : Tm}, Sm s t → msr t ≤ n → msr t ≤ m → downN us n t = downN us m t := by
  intro n
  induction n with
  | zero =>
    intro m t ht h1 _
    cases m with
    | zero => rfl
    | succ m =>
      unfold downN
      cases e : stepD us t with
      | none => rfl
      | some t' =>
        obtain ⟨_, _, _, _, _, _, _, _, _, ha, hs⟩ := stepD_some h6 hus ht e
        have := msr_less ht.lw hs.lw ha
        omega
  | succ n ih =>
    intro m t ht h1 h2
    cases e : stepD us t with
    | none =>
      cases m with
      | zero => simp [downN, e]
      | succ m => simp [downN, e]
    | some t' =>
      obtain ⟨_, _, _, _, _, _, _, _, _, ha, hs⟩ := stepD_some h6 hus ht e
      have hl := msr_less ht.lw hs.lw ha
      cases m with
      | zero => omega
      | succ m =>
        simp only [downN, e]
        exact ih m hs (by omega) (by omega)
theorem downT_stop {us : List Lt} {t : Tm} (h : stepD us t = none) : downT us t = t := by
  unfold downT
  cases msr t with
  | zero => rfl
  | succ n => simp [downN, h]
theorem downT_step {s : List Int} (h6 : s.length ≤ 6) {us : List Lt} (hus : Uns s us) {t t' : Tm} (ht : Sm s t) (h : stepD us t = some t') : downT us t = downT us t' := by
  obtain ⟨_, _, _, _, _, _, _, _, _, ha, hs⟩ := stepD_some h6 hus ht h
  have hl := msr_less ht.lw hs.lw ha
  unfold downT
  obtain ⟨k, hk⟩ : ∃ k, msr t = k + 1 := ⟨msr t - 1, by omega⟩
  rw [hk]
  simp only [downN, h]
  exact downN_more h6 hus k (msr t') hs (by omega) (Nat.le_refl _)
theorem downT_ok {s : List Int} (h6 : s.length ≤ 6) {us : List Lt} (hus : Uns s us) : ∀ (n : Nat) {t : Tm}, msr t = n → Sm s t → Sm s (downT us t) ∧ stepD us (downT us t) = none ∧ (downT us t = t ∨ abvT t (downT us t) = true) := by
  intro n
  induction n using Nat.strongRecOn with
  | _ n ih =>
    intro t hn ht
    cases e : stepD us t with
    | none =>
      rw [downT_stop e]
      exact ⟨ht, e, .inl rfl⟩
    | some t' =>
      obtain ⟨_, _, _, _, _, _, _, _, _, ha, hs⟩ := stepD_some h6 hus ht e
      have hl := msr_less ht.lw hs.lw ha
      rw [downT_step h6 hus ht e]
      obtain ⟨k1, k2, k3⟩ := ih (msr t') (by omega) rfl hs
      refine ⟨k1, k2, .inr ?_⟩
      rcases k3 with k3 | k3
      · rw [k3]; exact ha
      · exact abv_trans _ rfl ht.lw.gd.ok hs.lw.gd.ok k1.lw.gd.ok ha k3
end Go.Proofs.YtlgnpiphaeoeiadDoor

namespace Go.Proofs.YtlgnpiphaeoeiadDoor
open Go.RowKit Go.Deep Go.ChangeShapes Go.WideShapes
theorem new_none {w : Lt} (h : ¬ newV w = true) {n : Int} (hn : occT n w.2.2) : occT n w.2.1 := by
  have h1 : n ∈ varsT w.2.2.1 w.2.2.2 (varsT w.2.1.1 w.2.1.2 []) := varsT_mem.2 (.inr hn)
  by_cases h2 : n ∈ varsT w.2.1.1 w.2.1.2 []
  · rcases varsT_mem.1 h2 with h3 | h3
    · cases h3
    · exact h3
  · refine absurd ?_ h
    have h3 : (n :: varsT w.2.1.1 w.2.1.2 []).Nodup := List.nodup_cons.2 ⟨h2, varsT_nodup List.nodup_nil⟩
    have h4 := nodup_le h3 (m := varsT w.2.2.1 w.2.2.2 (varsT w.2.1.1 w.2.1.2 [])) (fun x hx => by
      rcases List.mem_cons.1 hx with rfl | hx
      · exact h1
      · exact varsT_mem.2 (.inl hx))
    unfold newV
    rw [decide_eq_true_eq]
    simpa [Nat.lt_iff_add_one_le] using h4
theorem extT_agree {σ : Int → Tm} (hσ : ∀ n, okT (σ n)) (t : Tm) (hok : okT (subT σ t)) : ∃ b, extT [] t (subT σ t) = some b ∧ ∀ n, occT n t → bnd b n = σ n := by
  obtain ⟨s', h, h2⟩ := extF_whole hσ (k := .node 0 0 t.1 t.2 .nil) (s := []) (fun p hp => by cases hp)
  rw [subF_node, extF_node, Option.bind_eq_some_iff] at h
  obtain ⟨s1, h1, h3⟩ := h
  have e : s1 = s' := by simpa [subF, extF] using h3
  subst e
  refine ⟨s1, h1, fun n hn => ?_⟩
  have h4 := extT_bound hok (fun p hp => by cases hp) h1 n hn
  obtain ⟨u, hu⟩ := Option.isSome_iff_exists.1 h4
  rw [bnd_some hu]
  exact h2 _ (look_mem hu)
theorem tryW_back {ρ ρ' : Int → Tm} (hρ' : ∀ n, okT (ρ' n)) {z : Tm} {w : Lt} (hz : okT z) (hg : Gd (subT ρ z)) (hw : Gd w.2.2) (hb : subT ρ' (subT ρ z) = z) (h : tryW z w = none) : tryW (subT ρ z) w = none := by
  cases e : tryW (subT ρ z) w with
  | none => rfl
  | some r' =>
    exfalso
    unfold tryW at e
    split at e
    · cases e
    · rename_i b' hb'
      split at e
      · cases e
      · rename_i hn
        split at e
        · rename_i habv
          have hP := extT_all (P := fun t => Gd t) (fun t ht y hy => by
            obtain ⟨⟨v, n⟩, k⟩ := t
            cases v with
            | true => rw [ht.ok.1 rfl] at hy; simp [Fo.list] at hy
            | false => exact gd_mem ht rfl hy) hg (fun p hp => by cases hp) hb'
          have hs := (extT_sound hg.ok (fun p hp => by cases hp) hb').2
          have e1 : subT (fun n => subT ρ' (bnd b' n)) w.2.1 = z := by rw [← subT_sub, hs, hb]
          have hσ : ∀ n, okT (subT ρ' (bnd b' n)) := fun n => subT_ok hρ' _
          obtain ⟨b, h1, h2⟩ := extT_agree hσ w.2.1 (by rw [e1]; exact hz)
          rw [e1] at h1
          have hgr : Gd (subT (bnd b') w.2.2) := gd_sub (fun p hp => hP p hp) hw
          have h3 := abv_sub hρ' _ rfl hg hgr habv
          rw [hb, subT_sub] at h3
          have h4 : subT (fun n => subT ρ' (bnd b' n)) w.2.2 = subT (bnd b) w.2.2 := subT_congr fun n hn' => (h2 n (new_none hn hn')).symm
          rw [h4] at h3
          unfold tryW at h
          rw [h1] at h
          simp only at h
          rw [if_neg hn, if_pos h3] at h
          cases h
        · cases e
theorem tryUs_none {z : Tm} : ∀ {us : List Lt}, tryUs z us = none ↔ ∀ u ∈ us, tryW z u = none ∧ tryW z (turnL true u) = none
  | [] => by simp [tryUs]
  | u :: us => by
    unfold tryUs
    constructor
    · intro h
      split at h
      · cases h
      · rename_i hu
        unfold tryU at hu
        split at hu
        · cases hu
        · rename_i hw
          intro x hx
          rcases List.mem_cons.1 hx with rfl | hx
          · exact ⟨hw, hu⟩
          · exact tryUs_none.1 h x hx
    · intro h
      obtain ⟨h1, h2⟩ := h u (by simp)
      have : tryU z u = none := by unfold tryU; rw [h1]; exact h2
      rw [this]
      exact tryUs_none.2 fun x hx => h x (by simp [hx])
theorem tryP_none {us : List Lt} {t : Tm} : ∀ {Z : List (List Int)}, tryP us t Z = none ↔ ∀ p ∈ Z, ∀ z, atT p t.1 t.2 = some z → tryUs z us = none
  | [] => by simp [tryP]
  | p :: Z => by
    unfold tryP
    constructor
    · intro h
      split at h
      · rename_i hz
        intro q hq z hqz
        rcases List.mem_cons.1 hq with rfl | hq
        · rw [hz] at hqz; cases hqz
        · exact tryP_none.1 h q hq z hqz
      · rename_i z0 hz
        split at h
        · cases h
        · rename_i hu
          intro q hq z hqz
          rcases List.mem_cons.1 hq with rfl | hq
          · rw [hz] at hqz; cases hqz; exact hu
          · exact tryP_none.1 h q hq z hqz
    · intro h
      have hr : tryP us t Z = none := tryP_none.2 fun q hq z hz => h q (by simp [hq]) z hz
      split
      · exact hr
      · rename_i z0 hz
        rw [h p (by simp) z0 hz]
        exact hr
theorem places_ren {ρ : Int → Tm} (hρ : ∀ n, (ρ n).1.1 = true) : ∀ (F : Fo) (p : List Int) (i : Int), placesF (subF ρ F) p i = placesF F p i
  | .nil, _, _ => rfl
  | .node p0 q0 ⟨v, n⟩ k r, p, i => by
    rw [subF_node]
    unfold placesF
    rw [places_ren hρ r]
    congr 1
    cases v with
    | true => rw [subT_var]; rw [if_pos (hρ n), if_pos rfl]
    | false =>
      rw [subT_sym]
      simp only [Bool.false_eq_true, if_false]
      rw [places_ren hρ k]
theorem placesT_ren {ρ : Int → Tm} (hρ : ∀ n, (ρ n).1.1 = true) (t : Tm) (p : List Int) : placesT (subT ρ t).1 (subT ρ t).2 p = placesT t.1 t.2 p := by
  obtain ⟨⟨v, n⟩, k⟩ := t
  cases v with
  | true => rw [subT_var]; unfold placesT; rw [if_pos (hρ n), if_pos rfl]
  | false =>
    rw [subT_sym]
    unfold placesT
    simp only [Bool.false_eq_true, if_false]
    rw [places_ren hρ k]
theorem at_sub {ρ : Int → Tm} : ∀ {p : List Int} {x : Bool × Int} {k : Fo} {z : Tm}, atT p x k = some z → atT p (subT ρ (x, k)).1 (subT ρ (x, k)).2 = some (subT ρ z)
  | [], _, _, _, h => by cases h; rfl
  | n :: p, ⟨v, m⟩, k, z, h => by
    obtain ⟨hv, h0, h1, y, hy, hz⟩ := atT_some h
    simp only at hv
    subst hv
    rw [subT_sym]
    refine (atT_cons (y := subT ρ y) rfl h0 (by rw [subF_list, List.getElem?_map, hy]; rfl) (by rw [subF_len]; exact h1)).trans ?_
    exact at_sub hz
theorem occ_at {m : Int} : ∀ {p : List Int} {x : Bool × Int} {k : Fo} {z : Tm}, atT p x k = some z → occT m z → occT m (x, k)
  | [], _, _, _, h, hm => by cases h; exact hm
  | n :: p, ⟨v, i⟩, k, z, h, hm => by
    obtain ⟨hv, h0, h1, y, hy, hz⟩ := atT_some h
    simp only at hv
    subst hv
    have := occ_at hz hm
    simp only [occT, Bool.false_eq_true, if_false]
    exact occ_mem.2 ⟨y, List.mem_of_getElem? hy, this⟩
theorem stepD_ren {us : List Lt} {vs : List Int} (hl : vs.length ≤ 10) {s : List Int} (hus : Uns s us) {t : Tm} (ht : Gd t) (hv : ∀ n, occT n t → n ∈ vs) (h : stepD us t = none) : stepD us (subT (bnd (numS vs)) t) = none := by
  have hρ : ∀ n, (bnd (numS vs) n).1.1 = true := fun n => by
    by_cases hn : n ∈ vs
    · rw [bnd_num hn]; rfl
    · cases el : look (numS vs) n with
      | none => rw [bnd_none el]; rfl
      | some u =>
        rw [bnd_some el]
        have := look_mem el
        simp only [numS, List.mem_mapIdx] at this
        obtain ⟨i, hi, e⟩ := this
        have : u = vr (i : Int) := (Prod.mk.inj e).2.symm
        rw [this]
        rfl
  unfold stepD at h ⊢
  rw [placesT_ren hρ]
  rw [tryP_none] at h ⊢
  intro p hp z' hz'
  obtain ⟨z, hz, _⟩ := place_sym hp
  have h1 := at_sub (ρ := bnd (numS vs)) hz
  rw [h1] at hz'
  cases hz'
  have h2 := h p hp z hz
  rw [tryUs_none] at h2 ⊢
  have hgz : Gd z := gd_at ht hz
  have hg : Gd (subT (bnd (numS vs)) z) := gd_sub (num_gd hl) hgz
  have hb : subT (bck vs) (subT (bnd (numS vs)) z) = z := num_back hgz.ok fun n hn => hv n (occ_at hz hn)
  intro u hu
  obtain ⟨k1, k2⟩ := hus u hu
  obtain ⟨k3, k4⟩ := h2 u hu
  exact ⟨tryW_back (fun n => ok_vr _) hgz.ok hg k2.lw.gd hb k3, tryW_back (fun n => ok_vr _) hgz.ok hg k1.lw.gd hb k4⟩
end Go.Proofs.YtlgnpiphaeoeiadDoor

namespace Go.Proofs.YtlgnpiphaeoeiadDoor
open Go.RowKit Go.Deep Go.ChangeShapes Go.WideShapes
def downC (us : List Lt) (c : Cl) : Cl := c.map (mapL (downT us))
def rwC (us : List Lt) (c : Cl) : Int × Cl := normC (downC us c)
def SmC (s : List Int) (c : Cl) : Prop := ∀ l ∈ c, Sm s l.2.1 ∧ Sm s l.2.2
theorem Sm.gl {s : List Int} {l : Lt} (h : Sm s l.2.1 ∧ Sm s l.2.2) : GL l :=
  ⟨h.1.lw.gd, h.2.lw.gd, fun m hm => (sig_fewT h.1.sg m hm).2, fun m hm => (sig_fewT h.2.sg m hm).2, h.1.lw.sz, h.2.lw.sz⟩
theorem SmC.gc {s : List Int} {c : Cl} (h : SmC s c) (h4 : c.length ≤ 4) : GC c := ⟨h4, fun l hl => Sm.gl (h l hl)⟩
theorem sm_gc {s : List Int} (h6 : s.length ≤ 6) {c : Cl} (hc : GC c) (hg : ∀ l ∈ c, sigT s l.2.1 ∧ sigT s l.2.2) : SmC s c := fun l hl =>
  ⟨⟨⟨(hc.2 l hl).gl, six_sym h6 (sym_sig (hg l hl).1), (hc.2 l hl).sl⟩, (hg l hl).1⟩, ⟨⟨(hc.2 l hl).gr, six_sym h6 (sym_sig (hg l hl).2), (hc.2 l hl).sr⟩, (hg l hl).2⟩⟩
theorem down_sm {s : List Int} (h6 : s.length ≤ 6) {us : List Lt} (hus : Uns s us) {c : Cl} (hc : SmC s c) : SmC s (downC us c) := fun l hl => by
  obtain ⟨x, hx, rfl⟩ := List.mem_map.1 hl
  exact ⟨(downT_ok h6 hus _ rfl (hc x hx).1).1, (downT_ok h6 hus _ rfl (hc x hx).2).1⟩
def Done (us : List Lt) (l : Lt) : Prop := (Gd l.2.1 ∧ stepD us l.2.1 = none) ∧ (Gd l.2.2 ∧ stepD us l.2.2 = none)
theorem Done.flip {us : List Lt} {l : Lt} (h : Done us l) : Done us (flipL l) := by
  unfold flipL
  split
  · exact ⟨h.2, h.1⟩
  · exact h
theorem done_down {us : List Lt} {c : Cl} (h : ∀ l ∈ c, Done us l) : downC us c = c := by
  unfold downC
  have : ∀ l ∈ c, mapL (downT us) l = l := fun l hl => by
    obtain ⟨⟨_, h1⟩, _, h2⟩ := h l hl
    unfold mapL
    rw [downT_stop h1, downT_stop h2]
  exact (List.map_congr_left this).trans (by simp)
theorem norm_done {s : List Int} {us : List Lt} (hus : Uns s us) {c d : Cl} (hc : GC c) (h : ∀ l ∈ c, Done us l) (hn : normC c = (0, d)) : ∀ l ∈ d, Done us l := by
  rcases norm_cases hc with ⟨_, h1⟩ | ⟨t, ht, hgt, _, h1⟩
  · rw [h1] at hn; cases hn
  · rcases h1 with ⟨_, h1⟩ | ⟨e, he, _, h1⟩
    · rw [h1] at hn; cases hn
    · rw [h1] at hn
      obtain rfl : e = d := (Prod.mk.inj hn).2
      have k1 : ∀ l ∈ t, Done us l := turn_mem (p := Done us) ht (fun e he => by cases he; simp) (fun l hl => (h l hl).flip)
      refine dist_mem (p := Done us) he (fun e he => by cases he; simp) (fun l hl => ?_)
      obtain ⟨x, hx, rfl⟩ := List.mem_map.1 hl
      obtain ⟨⟨g1, k3⟩, g2, k4⟩ := k1 x hx
      have hv := gc_vars hgt.2
      have o1 : ∀ n, occT n x.2.1 → n ∈ varsC t [] := fun n hn => varsC_mem.2 (.inr ⟨x, hx, .inl hn⟩)
      have o2 : ∀ n, occT n x.2.2 → n ∈ varsC t [] := fun n hn => varsC_mem.2 (.inr ⟨x, hx, .inr hn⟩)
      exact ⟨⟨gd_sub (num_gd (by omega)) g1, stepD_ren (by omega) hus g1 o1 k3⟩, gd_sub (num_gd (by omega)) g2, stepD_ren (by omega) hus g2 o2 k4⟩
theorem down_done {s : List Int} (h6 : s.length ≤ 6) {us : List Lt} (hus : Uns s us) {c : Cl} (hc : SmC s c) : ∀ l ∈ downC us c, Done us l := fun l hl => by
  obtain ⟨x, hx, rfl⟩ := List.mem_map.1 hl
  have k1 := downT_ok h6 hus _ rfl (hc x hx).1
  have k2 := downT_ok h6 hus _ rfl (hc x hx).2
  exact ⟨⟨k1.1.lw.gd, k1.2.1⟩, k2.1.lw.gd, k2.2.1⟩
theorem rw_end {s : List Int} (h6 : s.length ≤ 6) {us : List Lt} (hus : Uns s us) {c : Cl} (hc : SmC s c) (h4 : c.length ≤ 4) (h : (rwC us c).1 = 0) : rwC us (rwC us c).2 = (0, (rwC us c).2) := by
  have hg : GC (downC us c) := (down_sm h6 hus hc).gc (by simpa [downC] using h4)
  have hn : normC (downC us c) = (0, (rwC us c).2) := Prod.ext h rfl
  have hd := norm_done hus hg (down_done h6 hus hc) hn
  have ha := (norm_again hg h).2
  unfold rwC at hd ⊢
  rw [done_down hd]
  exact ha
theorem rw_none {s : List Int} (h6 : s.length ≤ 6) {us : List Lt} (hus : Uns s us) {c : Cl} (hc : SmC s c) (h4 : c.length ≤ 4) (h : (rwC us c).1 ≠ 0) : rwC us c = (6, []) := by
  have hg : GC (downC us c) := (down_sm h6 hus hc).gc (by simpa [downC] using h4)
  unfold rwC at h ⊢
  rcases norm_cases hg with ⟨_, h1⟩ | ⟨t, ht, hgt, _, h1⟩
  · exact h1
  · rcases h1 with ⟨_, h1⟩ | ⟨e, he, _, h1⟩
    · exact h1
    · rw [h1] at h; exact absurd rfl h
end Go.Proofs.YtlgnpiphaeoeiadDoor

namespace Go.Proofs.YtlgnpiphaeoeiadDoor
open Go.RowKit Go.Deep Go.ChangeShapes Go.WideShapes
def wayC (x y : Lt) (s : Sb) : Option Sb := if y.1 = x.1 then (extT s x.2.1 y.2.1).bind fun a => extT a x.2.2 y.2.2 else none
def covS (x : Lt) (d : Cl) (s : Sb) : List Sb := d.flatMap fun y => (wayC x y s).toList ++ (wayC x (turnL true y) s).toList
def covN (d : Cl) : Cl → List Sb → List Sb
  | [], now => now
  | x :: c, now => covN d c (now.flatMap (covS x d))
def covT (c d : Cl) : Bool := !(covN d c [[]]).isEmpty
end Go.Proofs.YtlgnpiphaeoeiadDoor

namespace Go.Proofs.YtlgnpiphaeoeiadDoor
open Go.RowKit Go.Deep Go.ChangeShapes Go.WideShapes
attribute [local go_sem ↓] Go.wp_at_zero Go.wp_at_succ
def unitP : Cl → Bool
  | [l] => !l.1
  | _ => false
theorem unitP_len {c : Cl} (h : c.length ≠ 1) : unitP c = false := by
  match c with
  | [] => rfl
  | [_] => simp at h
  | _ :: _ :: _ => rfl
set_option maxRecDepth 100000 in
set_option maxHeartbeats 1000000 in
theorem unitR_any (c : Cl) (v : Value) (w : World) (h : CIn w c v) :
    Calls Tryd.prog 25 #[v] w fun e w' => e = .returned (.bool (unitP c)) ∧ w' = w := by
  obtain ⟨a1, c1, b1, o1, rfl, had, hlc, hcm, hF⟩ := h
  unfold maxLen at hcm
  by_cases h1 : c.length = 1
  · obtain ⟨l, rfl⟩ := List.length_eq_one_iff.1 h1
    have ha1 : a1 = some ⟨b1, o1, none⟩ := had (by simp)
    subst ha1
    obtain ⟨p0, -, -, -, -, -, -, -, -⟩ := hF.at (i := 0) (l := l) rfl
    simp only [Nat.zero_mul, Nat.add_zero] at p0
    obtain ⟨ln, lx, ly⟩ := l
    simp only [List.length_singleton] at *
    clear hF had h1
    go_enter Tryd.func25, Tryd.ntmps25
    go_wp2_with fail
    go_ret
    exact ⟨rfl, rfl⟩
  · have hb : ((c.length : Int) == 1) = false := by simp; omega
    have Hu := hide (unitP_len h1)
    clear had hF h1
    go_enter Tryd.func25, Tryd.ntmps25
    go_wp2_with fail
    go_ret
    exact ⟨by rw [Hu.out]; rfl, rfl⟩
theorem bs_small {t z : Tm} {bs : Sb} (hz : Gd z ∧ szT z ≤ 12) (h : extT [] t z = some bs) : ∀ p ∈ bs, Gd p.2 ∧ szT p.2 ≤ 12 := by
  refine extT_all (P := fun t => Gd t ∧ szT t ≤ 12) (fun t ht y hy => ?_) hz (fun p hp => by cases hp) h
  obtain ⟨⟨v, n⟩, k⟩ := t
  cases v with
  | true => rw [ht.1.ok.1 rfl] at hy; simp [Fo.list] at hy
  | false =>
    obtain ⟨i, hi⟩ := List.mem_iff_getElem?.1 hy
    have h3 := szF_mem hi
    have h4 := ht.2
    refine ⟨gd_mem ht.1 rfl hy, ?_⟩
    simp only [szT, tszR] at h3 h4 ⊢
    omega
theorem sub_small {t : Tm} {bs : Sb} (h : ∀ p ∈ bs, Gd p.2 ∧ szT p.2 ≤ 12) (ht : Gd t) (hs : szT t ≤ 12) : Gd (subT (bnd bs) t) ∧ tszR (subT (bnd bs) t).2 ≤ 4000000000000 := by
  refine ⟨gd_sub (fun p hp => (h p hp).1) ht, ?_⟩
  have h1 := sub_le (f := bnd bs) (M := 12) (by omega) ht.ok (fun m _ => by
    cases e : look bs m with
    | none => rw [bnd_none e]; simp [szT, vr, tszR, Fo.sizesR]
    | some u => rw [bnd_some e]; exact (h _ (look_mem e)).2)
  have h2 := Nat.mul_le_mul_right 12 hs
  simp only [szT] at h1 h2
  omega
end Go.Proofs.YtlgnpiphaeoeiadDoor
