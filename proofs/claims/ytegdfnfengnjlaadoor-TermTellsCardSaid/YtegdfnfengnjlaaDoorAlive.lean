/- The closed fact that is asked first: alive. -/
import Derived.Test.YtegdfnfengnjlaaDoorVars
namespace Go.Proofs.YtegdfnfengnjlaaDoor
open Go.RowKit Go.Deep Go.ChangeShapes Go.WideShapes

def tF : Fo := .node 0 0 (false, 0) .nil (.node 0 0 (false, 1) (.node 0 0 (true, 0) .nil .nil) .nil)
def uF : Fo := .node 0 0 (false, 0) .nil .nil
def pF : Fo := .node 0 0 (false, 1) uF (.node 0 0 (false, 1) (.node 0 0 (true, 0) .nil .nil) .nil)

theorem al_wrong : wrongF [0, 1, 2] (false, 2) tF = 0 := by decide +kernel
theorem al_wsig : wsig [0, 1, 2] = 0 := by decide +kernel
theorem al_nosig : wsig [] = 5 := by decide +kernel
theorem al_read0 : readT [0, 1, 2] 11 [99, 40, 97, 44, 98, 40, 88, 48, 41, 41] = (0, ((false, 2), tF), []) := by rfl
theorem al_parse : parseT [0, 1, 2] [99, 40, 97, 44, 98, 40, 88, 48, 41, 41] = (0, ((false, 2), tF)) := by
  have e : readT [0, 1, 2] ([(99 : UInt8), 40, 97, 44, 98, 40, 88, 48, 41, 41].length + 1) [99, 40, 97, 44, 98, 40, 88, 48, 41, 41] = (0, ((false, 2), tF), []) := al_read0
  rw [parseT, al_wsig, if_neg (by simp), if_neg (by simp), e]
  simp [al_wrong]
theorem al_read : readT [0, 1, 2] 7 [98, 40, 97, 41, 61, 97] = (0, ((false, 1), uF), [61, 97]) := by rfl
theorem al_at : atT [1, 0] (false, 2) tF = some ((true, 0), .nil) := by rfl
theorem al_textu : textT (false, 1) uF = [98, 40, 97, 41] := by rfl
theorem al_size : tsz (false, 2) tF = 4 := by rfl
theorem al_places : placesT (false, 2) tF [] = [[], [0], [1]] := by rfl
theorem al_put : putT [0] ((false, 2), tF) ((false, 1), uF) = ((false, 2), pF) := by rfl
theorem al_textp : textT (false, 2) pF = [99, 40, 98, 40, 97, 41, 44, 98, 40, 88, 48, 41, 41] := by rfl
theorem al_vars : varsT (false, 2) tF [] = [0] := by rfl
theorem al_same : sameT (false, 2) tF (false, 2) tF = true := by rfl

/-- What alive has made is there. -/
def Kp (w : World) (sv : Value) (tb ub ab : Nat) (ta ua : Value) : Prop :=
  NIn w [0, 1, 2] sv ∧ TIn w tb 0 (false, 2) tF ∧ w.cell? ⟨tb, 2, none⟩ = some ta ∧ SIn w tF ta ∧ TIn w ub 0 (false, 1) uF ∧ w.cell? ⟨ub, 2, none⟩ = some ua ∧ SIn w uF ua ∧ w.cell? ⟨ab, 0, none⟩ = some (.bool true)

theorem Kp.below {w w' : World} {sv : Value} {tb ub ab : Nat} {ta ua : Value} (h : Kp w sv tb ub ab ta ua) (hb : Below w.heap.size w w') : Kp w' sv tb ub ab ta ua := by
  obtain ⟨h1, h2, h3, h4, h5, h6, h7, h8⟩ := h
  exact ⟨h1.below hb, h2.below hb, grow_cell hb _ _ h3, h4.below hb, h5.below hb, grow_cell hb _ _ h6, h7.below hb, grow_cell hb _ _ h8⟩

theorem nin_lit {w : World} (p : List Int) (hp : 0 < p.length) (hl : p.length ≤ 1000) (T : TypeId) : NIn (w.alloc (.cells (vals p).toArray T)) p (.slice (some ⟨w.heap.size, 0, none⟩) p.length p.length) := by
  refine ⟨_, _, w.heap.size, 0, rfl, fun _ => rfl, Nat.le_refl _, by unfold maxLen; omega, fun i hi => ?_⟩
  rw [Nat.zero_add, World.cell?_alloc_new]
  simp [List.getD_eq_getElem?_getD, hi]

theorem slice_of_sin {w : World} {k : Fo} {v : Value} (h : SIn w k v) : ∃ z1 z2 z3, v = .slice z1 z2 z3 := by
  obtain ⟨_, _, _, _, rfl, _⟩ := h
  exact ⟨_, _, _, rfl⟩

theorem c12 {w : World} {sv : Value} (hN : NIn w [0, 1, 2] sv) : Calls Tryd.prog 12 #[sv, .string ⟨#[99, 40, 97, 44, 98, 40, 88, 48, 41, 41]⟩] w fun e w' => ∃ a, e = .returned (.tuple #[.agg #[.bool false, .int .i64 2, a], .int .i64 0]) ∧ SIn w' tF a ∧ Below w.heap.size w w' := by
  have h := parse_any [0, 1, 2] sv [99, 40, 97, 44, 98, 40, 88, 48, 41, 41] w hN (by decide)
  rw [al_parse] at h
  exact h
theorem c14 {w : World} {sv : Value} (hN : NIn w [0, 1, 2] sv) : Calls Tryd.prog 14 #[sv, .string ⟨#[98, 40, 97, 41, 61, 97]⟩] w fun e w' => ∃ a, e = .returned (.tuple #[.agg #[.bool false, .int .i64 1, a], .string ⟨#[61, 97]⟩, .int .i64 0]) ∧ SIn w' uF a ∧ Below w.heap.size w w' := by
  have h := read_any [0, 1, 2] 7 sv [98, 40, 97, 41, 61, 97] w hN (by decide) (by decide) (by decide)
  rw [al_read] at h
  refine h.mono ?_
  rintro e w' ⟨a, h1, h2, h3⟩
  exact ⟨a, h1, h2.toS, h3⟩
theorem nar_t : Fo.len tF ≤ 1000 ∧ Fo.narrow tF := by
  refine ⟨by decide, ?_⟩
  simp [tF, Fo.narrow, Fo.len]
theorem nar_u : Fo.len uF ≤ 1000 ∧ Fo.narrow uF := by
  refine ⟨by decide, ?_⟩
  simp [uF, Fo.narrow, Fo.len]
theorem c25 {w : World} {a pv : Value} (hS : SIn w tF a) (hN : NIn w [1, 0] pv) : Calls Tryd.prog 25 #[.agg #[.bool false, .int .i64 2, a], pv] w fun e w' => ∃ a', e = .returned (.tuple #[.agg #[.bool true, .int .i64 0, a'], .bool true]) ∧ SIn w' .nil a' ∧ Below w.heap.size w w' := by
  refine (at_any (false, 2) tF a [1, 0] pv w hS hN nar_t.1 nar_t.2).mono ?_
  rintro e w' ⟨hb, h⟩
  rw [al_at] at h
  rcases h with ⟨h, _⟩ | ⟨y, l, a', h1, h2, h3⟩
  · cases h
  · cases h1
    exact ⟨a', h2, h3.toS, hb⟩
theorem c20u {w : World} {a : Value} (hS : SIn w uF a) : Calls Tryd.prog 20 #[.agg #[.bool false, .int .i64 1, a]] w fun e w' => e = .returned (.string ⟨#[98, 40, 97, 41]⟩) ∧ Below w.heap.size w w' := by
  have h := text_any (false, 1) uF a w hS (by decide) (by simp [uF, Fo.texts]) (by rw [al_textu]; decide)
  rw [al_textu] at h
  exact h
theorem c18 {w : World} {a : Value} (hS : SIn w tF a) : Calls Tryd.prog 18 #[.agg #[.bool false, .int .i64 2, a]] w fun e w' => e = .returned (.int .i64 4) ∧ Below w.heap.size w w' := by
  have h := size_any (false, 2) tF a w hS
  rw [al_size, show wrap64 ((4 : Nat) : Int) = 4 from wrap64_small (by decide) (by decide)] at h
  exact h
theorem c16 {w : World} {a : Value} (hS : SIn w tF a) : Calls Tryd.prog 16 #[.agg #[.bool false, .int .i64 2, a]] w fun e w' => ∃ z1 z3, e = .returned (.slice z1 3 z3) ∧ Below w.heap.size w w' := by
  refine (places_any (false, 2) tF a w hS (by decide)).mono ?_
  rintro e w' ⟨vo, ys, rfl, h1, h2, h3⟩
  obtain ⟨z1, z3, rfl⟩ := slice_of_owns h1
  have := h2.1
  rw [al_places] at this
  exact ⟨z1, z3, by rw [this]; rfl, h3⟩
theorem c27 {w : World} {a pv c : Value} (hS : SIn w tF a) (hN : NIn w [0] pv) (hS2 : SIn w uF c) : Calls Tryd.prog 27 #[.agg #[.bool false, .int .i64 2, a], pv, .agg #[.bool false, .int .i64 1, c]] w fun e w' => ∃ a', e = .returned (.agg #[.bool false, .int .i64 2, a']) ∧ SIn w' pF a' ∧ Below w.heap.size w w' := by
  have h := put_any (false, 2) tF a [0] pv (false, 1) uF c w hS hN hS2 nar_t.1 nar_t.2 nar_u.1 nar_u.2
  rw [al_put] at h
  refine h.mono ?_
  rintro e w' ⟨hb, a', h1, h2⟩
  exact ⟨a', h1, h2.toS, hb⟩
theorem c20p {w : World} {a : Value} (hS : SIn w pF a) : Calls Tryd.prog 20 #[.agg #[.bool false, .int .i64 2, a]] w fun e w' => e = .returned (.string ⟨#[99, 40, 98, 40, 97, 41, 44, 98, 40, 88, 48, 41, 41]⟩) ∧ Below w.heap.size w w' := by
  have h := text_any (false, 2) pF a w hS (by decide) (by simp [pF, uF, Fo.texts]) (by rw [al_textp]; decide)
  rw [al_textp] at h
  exact h
theorem c23 {w : World} {a : Value} (hS : SIn w tF a) : Calls Tryd.prog 23 #[.slice none 0 0, .agg #[.bool false, .int .i64 2, a]] w fun e w' => ∃ z1 z3, e = .returned (.slice z1 1 z3) ∧ Below w.heap.size w w' := by
  refine (vars_any (false, 2) tF a [] (.slice none 0 0) w [0] al_vars.symm hS ⟨none, 0, 0, 0, rfl, fun h => by simp at h, Nat.le_refl _, Nat.zero_le _, fun i hi => by simp at hi⟩ (by decide)).mono ?_
  rintro e w' ⟨v', rfl, h1, h3⟩
  obtain ⟨z1, z3, rfl⟩ := slice_of_owns h1
  exact ⟨z1, z3, rfl, h3⟩
theorem c10 {w : World} {a : Value} (hS : SIn w tF a) : Calls Tryd.prog 10 #[.agg #[.bool false, .int .i64 2, a], .agg #[.bool false, .int .i64 2, a]] w fun e w' => e = .returned (.bool true) ∧ Below w.heap.size w w' := by
  have h := same_any (false, 2) tF (false, 2) tF a a w hS hS
  rw [al_same] at h
  exact h
theorem c8 {w : World} {a sv : Value} (hN : NIn w [0, 1, 2] sv) (hS : SIn w tF a) : Calls Tryd.prog 8 #[sv, .agg #[.bool false, .int .i64 2, a]] w fun e w' => e = .returned (.int .i64 0) ∧ Below w.heap.size w w' := by
  have h := wrong_any [0, 1, 2] sv (false, 2) tF a w hN hS
  rw [al_wrong] at h
  exact h
theorem c6 {w : World} : Calls Tryd.prog 6 #[.slice none 0 0] w fun e w' => e = .returned (.int .i64 5) ∧ w' = w := by
  have h := wsig_any [] (.slice none 0 0) w ⟨none, 0, 0, 0, rfl, fun h => by simp at h, Nat.le_refl _, Nat.zero_le _, fun i hi => by simp at hi⟩
  rw [al_nosig] at h
  exact h

set_option maxHeartbeats 1000000 in
theorem alive_any (w : World) : Calls Tryd.prog 29 #[] w fun e w' => e = .returned (.bool true) ∧ Below w.heap.size w w' := by
  have hN0 := nin_lit (w := w) [0, 1, 2] (by decide) (by decide) 3
  have HN0 : Hid (NIn (w.alloc (.cells #[.int .i64 0, .int .i64 1, .int .i64 2] 3)) [0, 1, 2] (.slice (some ⟨w.heap.size, 0, none⟩) 3 3)) := hN0
  clear hN0
  go_enter Tryd.func29, Tryd.ntmps29
  go_wp2_with fail
  refine (c12 HN0.out).mono ?_
  rintro e w1 ⟨ta, rfl, hS1, hb1⟩
  have hB1 := below_box hb1
  have HN1 := hide (HN0.out.below hb1)
  have HS1 := hide hS1
  obtain ⟨t1, t2, t3, rfl⟩ := slice_of_sin hS1
  clear hS1 hb1 HN0
  go_wp2_with fail
  refine (c14 (HN1.out.alloc _)).mono ?_
  rintro e w2 ⟨ua, rfl, hS2, hb2⟩
  obtain ⟨p0, p1, p2, pf, hB12, hsz2⟩ := box_full hb2
  have hB2 := below_step hB1 hB12
  have HN2 := hide (HN1.out.below hB12)
  have HT2 := hide (HS1.out.below hB12)
  have HS2 := hide hS2
  obtain ⟨u1, u2, u3, rfl⟩ := slice_of_sin hS2
  clear hS2 hb2 HN1 HS1 pf
  have HN3 : Hid (NIn ((w2.alloc (.cells #[.bool false, .int .i64 1, .slice u1 u2 u3] 26)).alloc (.cells #[.int .i64 1, .int .i64 0] 3)) [1, 0] (.slice (some ⟨w2.heap.size + 1, 0, none⟩) 2 2)) := by
    have h := nin_lit (w := w2.alloc (.cells #[.bool false, .int .i64 1, .slice u1 u2 u3] 26)) [1, 0] (by decide) (by decide) 3
    have e : (w2.alloc (.cells #[.bool false, .int .i64 1, .slice u1 u2 u3] 26)).heap.size = w2.heap.size + 1 := by simp
    rw [e] at h
    exact h
  go_wp2_with fail
  refine (c25 ((HT2.out.alloc _).alloc _) HN3.out).mono ?_
  rintro e w3 ⟨aa, rfl, hS3, hb3⟩
  obtain ⟨q0, q1, q2, -, hB23, hsz3⟩ := box_full (below_box hb3)
  obtain ⟨a1, a2, a3, rfl⟩ := slice_of_sin hS3
  have hB3 := below_step hB2 hB23
  have r0 := grow_cell hB23 _ _ p0
  have r1 := grow_cell hB23 _ _ p1
  have r2 := grow_cell hB23 _ _ p2
  have HN4 := hide (HN2.out.below hB23)
  have HT4 := hide (HT2.out.below hB23)
  have HU4 := hide (HS2.out.below hB23)
  clear hb3 hS3 HN3 HN2 HT2 HS2 p0 p1 p2 hB12 hB23 hB1 hB2
  go_wp2_with fail
  generalize hw4 : w3.alloc (.cells #[.bool true, .int .i64 0, .slice a1 a2 a3] 26) = w4
  have hB34 : Below w3.heap.size w3 w4 := by rw [← hw4]; exact below_alloc _ _
  have k0 := grow_cell hB34 _ _ r0
  have k1 := grow_cell hB34 _ _ r1
  have k2 := grow_cell hB34 _ _ r2
  have m0 := grow_cell hB34 _ _ q0
  have m1 := grow_cell hB34 _ _ q1
  have m2 := grow_cell hB34 _ _ q2
  have n0 : w4.cell? ⟨w3.heap.size, 0, none⟩ = some (.bool true) := by rw [← hw4]; simp
  have hB4 := below_step hB3 hB34
  have HN5 := hide (HN4.out.below hB34)
  have HT5 := hide (HT4.out.below hB34)
  have HU5 := hide (HU4.out.below hB34)
  clear hw4 HN4 HT4 HU4 r0 r1 r2 q0 q1 q2 hB34 hB3
  refine (c20u HU5.out).mono ?_
  rintro e w5 ⟨rfl, hb⟩
  have k0' := grow_cell hb _ _ k0
  have k1' := grow_cell hb _ _ k1
  have k2' := grow_cell hb _ _ k2
  have m0' := grow_cell hb _ _ m0
  have m1' := grow_cell hb _ _ m1
  have m2' := grow_cell hb _ _ m2
  have n0' := grow_cell hb _ _ n0
  have hB5 := below_step hB4 hb
  have HN6 := hide (HN5.out.below hb)
  have HT6 := hide (HT5.out.below hb)
  have HU6 := hide (HU5.out.below hb)
  clear k0 k1 k2 m0 m1 m2 n0 HN5 HT5 HU5 hB4 hb
  have k0 := k0'
  have k1 := k1'
  have k2 := k2'
  have m0 := m0'
  have m1 := m1'
  have m2 := m2'
  have n0 := n0'
  clear k0' k1' k2' m0' m1' m2' n0'
  go_wp2_with fail
  refine (c18 HT6.out).mono ?_
  rintro e w6 ⟨rfl, hb⟩
  have k0' := grow_cell hb _ _ k0
  have k1' := grow_cell hb _ _ k1
  have k2' := grow_cell hb _ _ k2
  have m0' := grow_cell hb _ _ m0
  have m1' := grow_cell hb _ _ m1
  have m2' := grow_cell hb _ _ m2
  have n0' := grow_cell hb _ _ n0
  have hB6 := below_step hB5 hb
  have HN7 := hide (HN6.out.below hb)
  have HT7 := hide (HT6.out.below hb)
  have HU7 := hide (HU6.out.below hb)
  clear k0 k1 k2 m0 m1 m2 n0 HN6 HT6 HU6 hB5 hb
  have k0 := k0'
  have k1 := k1'
  have k2 := k2'
  have m0 := m0'
  have m1 := m1'
  have m2 := m2'
  have n0 := n0'
  clear k0' k1' k2' m0' m1' m2' n0'
  go_wp2_with fail
  refine (c16 HT7.out).mono ?_
  rintro e w7 ⟨z1, z3, rfl, hb⟩
  have k0' := grow_cell hb _ _ k0
  have k1' := grow_cell hb _ _ k1
  have k2' := grow_cell hb _ _ k2
  have m0' := grow_cell hb _ _ m0
  have m1' := grow_cell hb _ _ m1
  have m2' := grow_cell hb _ _ m2
  have n0' := grow_cell hb _ _ n0
  have hB7 := below_step hB6 hb
  have HN8 := hide (HN7.out.below hb)
  have HT8 := hide (HT7.out.below hb)
  have HU8 := hide (HU7.out.below hb)
  clear k0 k1 k2 m0 m1 m2 n0 HN7 HT7 HU7 hB6 hb
  have k0 := k0'
  have k1 := k1'
  have k2 := k2'
  have m0 := m0'
  have m1 := m1'
  have m2 := m2'
  have n0 := n0'
  clear k0' k1' k2' m0' m1' m2' n0'
  have s1 := World.block_lt_of_cell? _ _ k0
  have s2 := World.block_lt_of_cell? _ _ m0
  have s3 := World.block_lt_of_cell? _ _ n0
  simp only at s1 s2 s3
  have HNz : Hid (NIn (w7.alloc (.cells #[.int .i64 0] 3)) [0] (.slice (some ⟨w7.heap.size, 0, none⟩) 1 1)) := nin_lit (w := w7) [0] (by decide) (by decide) 3
  go_wp2_with fail
  refine (c27 (HT8.out.alloc _) HNz.out (HU8.out.alloc _)).mono ?_
  rintro e w8 ⟨pa, rfl, hSp, hb0⟩
  have hb := below_box hb0
  have HSp := hide hSp
  obtain ⟨y1, y2, y3, rfl⟩ := slice_of_sin hSp
  clear hSp hb0 HNz s1 s2 s3
  have k0' := grow_cell hb _ _ k0
  have k1' := grow_cell hb _ _ k1
  have k2' := grow_cell hb _ _ k2
  have m0' := grow_cell hb _ _ m0
  have m1' := grow_cell hb _ _ m1
  have m2' := grow_cell hb _ _ m2
  have n0' := grow_cell hb _ _ n0
  have hB8 := below_step hB7 hb
  have HN9 := hide (HN8.out.below hb)
  have HT9 := hide (HT8.out.below hb)
  have HU9 := hide (HU8.out.below hb)
  clear k0 k1 k2 m0 m1 m2 n0 HN8 HT8 HU8 hB7 hb
  have k0 := k0'
  have k1 := k1'
  have k2 := k2'
  have m0 := m0'
  have m1 := m1'
  have m2 := m2'
  have n0 := n0'
  clear k0' k1' k2' m0' m1' m2' n0'
  go_wp2_with fail
  refine (c20p HSp.out).mono ?_
  rintro e w9 ⟨rfl, hb⟩
  clear HSp
  have k0' := grow_cell hb _ _ k0
  have k1' := grow_cell hb _ _ k1
  have k2' := grow_cell hb _ _ k2
  have m0' := grow_cell hb _ _ m0
  have m1' := grow_cell hb _ _ m1
  have m2' := grow_cell hb _ _ m2
  have n0' := grow_cell hb _ _ n0
  have hB9 := below_step hB8 hb
  have HN10 := hide (HN9.out.below hb)
  have HT10 := hide (HT9.out.below hb)
  have HU10 := hide (HU9.out.below hb)
  clear k0 k1 k2 m0 m1 m2 n0 HN9 HT9 HU9 hB8 hb
  have k0 := k0'
  have k1 := k1'
  have k2 := k2'
  have m0 := m0'
  have m1 := m1'
  have m2 := m2'
  have n0 := n0'
  clear k0' k1' k2' m0' m1' m2' n0'
  go_wp2_with fail
  refine (c23 HT10.out).mono ?_
  rintro e w10 ⟨x1, x3, rfl, hb⟩
  have k0' := grow_cell hb _ _ k0
  have k1' := grow_cell hb _ _ k1
  have k2' := grow_cell hb _ _ k2
  have m0' := grow_cell hb _ _ m0
  have m1' := grow_cell hb _ _ m1
  have m2' := grow_cell hb _ _ m2
  have n0' := grow_cell hb _ _ n0
  have hB10 := below_step hB9 hb
  have HN11 := hide (HN10.out.below hb)
  have HT11 := hide (HT10.out.below hb)
  have HU11 := hide (HU10.out.below hb)
  clear k0 k1 k2 m0 m1 m2 n0 HN10 HT10 HU10 hB9 hb
  have k0 := k0'
  have k1 := k1'
  have k2 := k2'
  have m0 := m0'
  have m1 := m1'
  have m2 := m2'
  have n0 := n0'
  clear k0' k1' k2' m0' m1' m2' n0'
  go_wp2_with fail
  refine (c10 HT11.out).mono ?_
  rintro e w11 ⟨rfl, hb⟩
  have k0' := grow_cell hb _ _ k0
  have k1' := grow_cell hb _ _ k1
  have k2' := grow_cell hb _ _ k2
  have m0' := grow_cell hb _ _ m0
  have m1' := grow_cell hb _ _ m1
  have m2' := grow_cell hb _ _ m2
  have n0' := grow_cell hb _ _ n0
  have hB11 := below_step hB10 hb
  have HN12 := hide (HN11.out.below hb)
  have HT12 := hide (HT11.out.below hb)
  have HU12 := hide (HU11.out.below hb)
  clear k0 k1 k2 m0 m1 m2 n0 HN11 HT11 HU11 hB10 hb
  have k0 := k0'
  have k1 := k1'
  have k2 := k2'
  have m0 := m0'
  have m1 := m1'
  have m2 := m2'
  have n0 := n0'
  clear k0' k1' k2' m0' m1' m2' n0'
  go_wp2_with fail
  refine (c8 HN12.out HT12.out).mono ?_
  rintro e w12 ⟨rfl, hb⟩
  have k0' := grow_cell hb _ _ k0
  have k1' := grow_cell hb _ _ k1
  have k2' := grow_cell hb _ _ k2
  have m0' := grow_cell hb _ _ m0
  have m1' := grow_cell hb _ _ m1
  have m2' := grow_cell hb _ _ m2
  have n0' := grow_cell hb _ _ n0
  have hB12 := below_step hB11 hb
  have HN13 := hide (HN12.out.below hb)
  have HT13 := hide (HT12.out.below hb)
  have HU13 := hide (HU12.out.below hb)
  clear k0 k1 k2 m0 m1 m2 n0 HN12 HT12 HU12 hB11 hb
  have k0 := k0'
  have k1 := k1'
  have k2 := k2'
  have m0 := m0'
  have m1 := m1'
  have m2 := m2'
  have n0 := n0'
  clear k0' k1' k2' m0' m1' m2' n0'
  go_wp2_with fail
  refine c6.mono ?_
  rintro e w13 ⟨rfl, hw⟩
  rw [hw]
  clear hw w13
  go_wp2_with fail
  go_ret
  exact ⟨rfl, hB12⟩

end Go.Proofs.YtegdfnfengnjlaaDoor
