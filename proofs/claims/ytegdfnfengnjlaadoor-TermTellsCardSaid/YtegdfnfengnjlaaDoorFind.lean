/- A place in a term: find. -/
import Derived.Test.YtegdfnfengnjlaaDoorOwnW
namespace Go.Proofs.YtegdfnfengnjlaaDoor
open Go.RowKit Go.Deep Go.ChangeShapes Go.WideShapes

/-- The term at (b, o). -/
def TIn (w : World) (b o : Nat) (x : Bool × Int) (k : Fo) : Prop :=
  w.cell? ⟨b, o, none⟩ = some (.bool x.1) ∧ w.cell? ⟨b, o + 1, none⟩ = some (.int .i64 x.2) ∧ ∃ v, w.cell? ⟨b, o + 2, none⟩ = some v ∧ SIn w k v

theorem TIn.below {w w' : World} (hb : Below w.heap.size w w') {b o : Nat} {x : Bool × Int} {k : Fo} (h : TIn w b o x k) : TIn w' b o x k := by
  obtain ⟨h0, h1, v, h2, h3⟩ := h
  exact ⟨grow_cell hb _ _ h0, grow_cell hb _ _ h1, v, grow_cell hb _ _ h2, h3.below hb⟩

/-- What stands at a place. -/
def atT : List Int → Bool × Int → Fo → Option ((Bool × Int) × Fo)
  | [], x, k => some (x, k)
  | n :: p, x, k => if x.1 = true ∨ n < 0 ∨ (Fo.len k : Int) ≤ n then none else match k.list[n.toNat]? with
    | some y => atT p y.1 y.2
    | none => none

/-- From (b, o) the way p leads to (c, d). -/
def Loc (w : World) : List Int → Nat → Nat → Nat → Nat → Prop
  | [], b, o, c, d => c = b ∧ d = o
  | n :: p, b, o, c, d => ∃ (g off len cap : Nat), w.cell? ⟨b, o + 2, none⟩ = some (.slice (some ⟨g, off, none⟩) len cap) ∧ 0 ≤ n ∧ n < (len : Int) ∧ Loc w p g (off + n.toNat * 3) c d

theorem Loc.snoc {w : World} {n : Int} {c d g off len cap : Nat} (hc : w.cell? ⟨c, d + 2, none⟩ = some (.slice (some ⟨g, off, none⟩) len cap)) (h0 : 0 ≤ n) (h1 : n < (len : Int)) :
    ∀ {p : List Int} {b o : Nat}, Loc w p b o c d → Loc w (p ++ [n]) b o g (off + n.toNat * 3)
  | [], b, o, ⟨e1, e2⟩ => by
    subst e1 e2
    exact ⟨g, off, len, cap, hc, h0, h1, rfl, rfl⟩
  | m :: p, b, o, ⟨g', off', len', cap', q1, q2, q3, q4⟩ => ⟨g', off', len', cap', q1, q2, q3, Loc.snoc hc h0 h1 q4⟩

theorem atT_cons {n : Int} {p : List Int} {x : Bool × Int} {k : Fo} {y : (Bool × Int) × Fo} (hx : x.1 = false) (h0 : 0 ≤ n) (hy : k.list[n.toNat]? = some y) (h1 : n < (Fo.len k : Int)) : atT (n :: p) x k = atT p y.1 y.2 := by
  rw [atT, if_neg (by simp [hx]; omega), hy]
theorem atT_none {n : Int} {p : List Int} {x : Bool × Int} {k : Fo} (h : x.1 = true ∨ n < 0 ∨ (Fo.len k : Int) ≤ n) : atT (n :: p) x k = none := by
  rw [atT, if_pos h]

theorem drop_cons {p : List Int} {j : Nat} (h : j < p.length) : p.drop j = p.getD j 0 :: p.drop (j + 1) := by
  rw [List.drop_eq_getElem_cons h]; simp [List.getD_eq_getElem?_getD, h]
theorem take_snoc {p : List Int} {j : Nat} (h : j < p.length) : p.take (j + 1) = p.take j ++ [p.getD j 0] := by
  rw [List.take_add_one]; simp [List.getD_eq_getElem?_getD, h]

set_option maxHeartbeats 1000000 in
theorem find_any (x : Bool × Int) (k : Fo) (b o : Nat) (p : List Int) (pv : Value) (w : World) (hT : TIn w b o x k) (hN : NIn w p pv) :
    Calls Tryd.prog 42 #[.pointer (some ⟨b, o, none⟩), pv] w fun e w' => Below w.heap.size w w' ∧
      ((atT p x k = none ∧ e = .returned (.pointer none)) ∨ ∃ cb co y l, atT p x k = some (y, l) ∧ e = .returned (.pointer (some ⟨cb, co, none⟩)) ∧ Loc w p b o cb co ∧ TIn w cb co y l) := by
  obtain ⟨pa, pc, pb, po, rfl, hpa, hplc, hpcm, hpF⟩ := hN
  unfold maxLen at hpcm
  have HT := hide hT
  have HpF := hide hpF
  have Hfin : Hid (∀ e w', Below w.heap.size w w' → ((atT p x k = none ∧ e = Ending.returned (.pointer none)) ∨ ∃ cb co y l, atT p x k = some (y, l) ∧ e = Ending.returned (.pointer (some ⟨cb, co, none⟩)) ∧ Loc w p b o cb co ∧ TIn w cb co y l) → (Below w.heap.size w w' ∧
      ((atT p x k = none ∧ e = Ending.returned (.pointer none)) ∨ ∃ cb co y l, atT p x k = some (y, l) ∧ e = Ending.returned (.pointer (some ⟨cb, co, none⟩)) ∧ Loc w p b o cb co ∧ TIn w cb co y l))) := fun _ _ h1 h2 => ⟨h1, h2⟩
  clear hT hpF
  go_enter Tryd.func42, Tryd.ntmps42
  go_wp2_with fail
  go_loopw [0, 10] (fun t i wr => ∃ (j cb co : Nat) (y : Bool × Int) (l : Fo), j ≤ p.length ∧ i = .int .i64 j ∧ t = .pointer (some ⟨cb, co, none⟩) ∧ Loc w (p.take j) b o cb co ∧ TIn w cb co y l ∧ atT p x k = atT (p.drop j) y l ∧ Below w.heap.size w wr) (fun _ i _ => p.length - (intOf i).toNat)
  case atStart => exact ⟨0, b, o, x, k, Nat.zero_le _, rfl, rfl, ⟨rfl, rfl⟩, HT.out, rfl, Below.refl _ _⟩
  case round =>
    obtain ⟨j, cb, co, ⟨yv, yn⟩, l, hj, rfl, rfl, hL, hTy, hat, hBr⟩ := hrel
    have HL := hide hL
    have HTy := hide hTy
    have Hat := hide hat
    clear hL hat
    by_cases hlt : j < p.length
    · have hlt' : (j : Int) < (p.length : Int) := by omega
      have ha : pa = some ⟨pb, po, none⟩ := hpa (by omega)
      subst ha
      have hcell := grow_cell hBr _ _ (HpF.out j hlt)
      obtain ⟨c0, c1, v2, c2, hS⟩ := hTy.below hBr
      have Hdrop := hide (drop_cons hlt)
      have Htake := hide (take_snoc hlt)
      have Hc2 := hide hTy.2.2
      obtain ⟨la, lc, lb, lo, rfl, hla, hllc, hlcm, hlF⟩ := hS
      unfold maxLen at hlcm
      generalize p.getD j 0 = n at *
      clear hTy hlF hpa
      cases yv
      · by_cases hn0 : n < 0
        · have Hnone : Hid (atT p x k = none) := by rw [Hid, Hat.out, Hdrop.out]; exact atT_none (.inr (.inl hn0))
          go_wp2_with (go_at_call 37; refine (arguments_any _ _ _ _).mono ?_; rintro e w1 ⟨rfl, hb1⟩)
          go_ret
          exact Hfin.out _ _ (below_step hBr hb1) (.inl ⟨Hnone.out, rfl⟩)
        by_cases hnl : (Fo.len l : Int) ≤ n
        · have Hnone : Hid (atT p x k = none) := by rw [Hid, Hat.out, Hdrop.out]; exact atT_none (.inr (.inr hnl))
          go_wp2_with (go_at_call 37; refine (arguments_any _ _ _ _).mono ?_; rintro e w1 ⟨rfl, hb1⟩)
          go_ret
          exact Hfin.out _ _ (below_step hBr hb1) (.inl ⟨Hnone.out, rfl⟩)
        have hn0' : 0 ≤ n := by omega
        have hnl' : n < (Fo.len l : Int) := by omega
        have ha : la = some ⟨lb, lo, none⟩ := hla (by omega)
        subst ha
        obtain ⟨⟨⟨zv, zn⟩, zk⟩, hz⟩ : ∃ y, l.list[n.toNat]? = some y := ⟨l.list[n.toNat]'(by rw [Fo.len_list]; omega), by simp⟩
        have Hat2 : Hid (atT p x k = atT (p.drop (j + 1)) (zv, zn) zk) := by rw [Hid, Hat.out, Hdrop.out]; exact atT_cons rfl hn0' hz hnl'
        have Hnew : Hid (Loc w (p.take (j + 1)) b o lb (lo + n.toNat * 3) ∧ TIn w lb (lo + n.toNat * 3) (zv, zn) zk) := by
          obtain ⟨v', d2, hS'⟩ := Hc2.out
          have e := grow_cell hBr _ _ d2
          rw [c2] at e
          cases e
          obtain ⟨ma, mc, mb, mo, hm1, hm2, hm3, hm4, hm5⟩ := hS'
          simp only [Value.slice.injEq] at hm1
          have := hm2 (by omega)
          rw [← hm1.1] at this
          simp only [Option.some.injEq, Addr.mk.injEq] at this
          obtain ⟨rfl, rfl, _⟩ := this
          refine ⟨by rw [Htake.out]; exact Loc.snoc d2 hn0' hnl' HL.out, ?_⟩
          obtain ⟨g0, g1, g2⟩ := hm5.at hz
          exact ⟨g0, g1, g2⟩
        clear hla hz
        go_wp2_with (go_at_call 37; refine (arguments_any _ _ _ _).mono ?_; rintro e w1 ⟨rfl, hb1⟩)
        go_roundw
        case rel => exact ⟨j + 1, lb, lo + n.toNat * 3, (zv, zn), zk, by omega, by go_num, rfl, Hnew.out.1, Hnew.out.2, Hat2.out, below_step hBr hb1⟩
        case measure => simp [intOf]; omega
      · have Hnone : Hid (atT p x k = none) := by rw [Hid, Hat.out, Hdrop.out]; exact atT_none (.inl rfl)
        by_cases hn0 : n < 0
        · go_wp2_with (go_at_call 37; refine (arguments_any _ _ _ _).mono ?_; rintro e w1 ⟨rfl, hb1⟩)
          go_ret
          exact Hfin.out _ _ (below_step hBr hb1) (.inl ⟨Hnone.out, rfl⟩)
        · have hn0' : 0 ≤ n := by omega
          go_wp2_with (go_at_call 37; refine (arguments_any _ _ _ _).mono ?_; rintro e w1 ⟨rfl, hb1⟩)
          go_ret
          exact Hfin.out _ _ (below_step hBr hb1) (.inl ⟨Hnone.out, rfl⟩)
    · have Hend : Hid (atT p x k = some ((yv, yn), l) ∧ Loc w p b o cb co) := by
        have e : j = p.length := by omega
        have h1 := Hat.out
        have h2 := HL.out
        rw [e, List.drop_length] at h1
        rw [e, List.take_length] at h2
        exact ⟨h1, h2⟩
      go_wp2_with fail
      go_ret
      exact Hfin.out _ _ hBr (.inr ⟨cb, co, _, _, Hend.out.1, rfl, Hend.out.2, HTy.out⟩)

end Go.Proofs.YtegdfnfengnjlaaDoor
