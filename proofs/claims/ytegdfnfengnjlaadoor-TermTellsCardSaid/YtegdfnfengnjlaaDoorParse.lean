/- What Parse answers. -/
import Derived.Test.YtegdfnfengnjlaaDoorReadW
namespace Go.Proofs.YtegdfnfengnjlaaDoor
open Go.RowKit Go.Deep Go.ChangeShapes Go.WideShapes

abbrev zeroT : (Bool × Int) × Fo := ((false, 0), .nil)

/-- A text's term, and its error. -/
def parseT (s : List Int) (l : List UInt8) : Int × ((Bool × Int) × Fo) :=
  if wsig s ≠ 0 then (wsig s, zeroT) else if 48 < l.length then (4, zeroT) else
  if (readT s (l.length + 1) l).1 ≠ 0 then ((readT s (l.length + 1) l).1, zeroT) else
  if (readT s (l.length + 1) l).2.2 ≠ [] then (2, zeroT) else
  if wrongF s (readT s (l.length + 1) l).2.1.1 (readT s (l.length + 1) l).2.1.2 ≠ 0 then (wrongF s (readT s (l.length + 1) l).2.1.1 (readT s (l.length + 1) l).2.1.2, zeroT) else
  (0, (readT s (l.length + 1) l).2.1)

theorem wsig_ok {s : List Int} (h : wsig s = 0) : s.all okNum = true ∧ s.length ≤ 6 ∧ 0 < s.length := by
  unfold wsig at h
  by_cases h1 : s.length = 0 ∨ 6 < s.length
  · rw [if_pos h1] at h; omega
  · rw [if_neg h1] at h
    by_cases h2 : s.all okNum = true
    · exact ⟨h2, by omega, by omega⟩
    · rw [if_neg h2] at h; omega

theorem SIn.nil (w : World) : SIn w .nil (.slice none 0 0) := (SB.nil (fun _ => True) w).toS

set_option maxHeartbeats 1000000 in
theorem parse_any (s : List Int) (sv : Value) (l : List UInt8) (w : World) (hN : NIn w s sv) (hl : l.length ≤ maxLen) :
    Calls Tryd.prog 12 #[sv, str l] w fun e w' => ∃ a, e = .returned (.tuple #[trm (parseT s l).2.1 a, .int .i64 (parseT s l).1]) ∧ SIn w' (parseT s l).2.2 a ∧ Below w.heap.size w w' := by
  have HN := hide hN
  obtain ⟨sa, sc, sb, so, rfl, -, -, -, -⟩ := hN
  unfold maxLen at hl
  go_enter Tryd.func12, Tryd.ntmps12
  go_wp2_with fail
  refine (wsig_any s _ _ (HN.out.alloc _)).mono ?_
  rintro e w' ⟨rfl, hw'⟩
  rw [hw']
  clear hw' w'
  by_cases hw : wsig s = 0
  · have Hw := hide hw
    simp only [hw]
    by_cases h48 : 48 < l.length
    · have Hf : Hid (parseT s l = (4, zeroT)) := by rw [Hid, parseT, if_neg (by simpa using hw), if_pos h48]
      have h48' : (48 : Int) < (l.length : Int) := by omega
      clear hw
      go_wp2_with fail
      rw [Hf.out]
      exact bodyPost_ret (v := .tuple #[.agg #[.bool false, .int .i64 0, .slice none 0 0], .int .i64 4]) (by simp [results, Tryd.results12, go_sem]) rfl ⟨_, rfl, SIn.nil _, below_alloc _ _⟩
    · have Ht : Hid (parseT s l = if (readT s (l.length + 1) l).1 ≠ 0 then ((readT s (l.length + 1) l).1, zeroT) else
          if (readT s (l.length + 1) l).2.2 ≠ [] then (2, zeroT) else
          if wrongF s (readT s (l.length + 1) l).2.1.1 (readT s (l.length + 1) l).2.1.2 ≠ 0 then (wrongF s (readT s (l.length + 1) l).2.1.1 (readT s (l.length + 1) l).2.1.2, zeroT) else
          (0, (readT s (l.length + 1) l).2.1)) := by rw [Hid, parseT, if_neg (by simpa using hw), if_neg h48]
      have h48' : ¬ (48 : Int) < (l.length : Int) := by omega
      have Hok := hide (wsig_ok hw).1
      clear hw
      go_wp2_with fail
      refine (read_any s (l.length + 1) _ l _ (HN.out.alloc _) Hok.out (by omega) (by unfold maxLen; omega)).mono ?_
      rintro e w1 ⟨a, rfl, hSB, hb1⟩
      obtain ⟨b0, b1, b2, bf, hB, hsz⟩ := box_full hb1
      generalize readT s (l.length + 1) l = q at *
      obtain ⟨q1, ⟨⟨qv, qn⟩, qk⟩, q3⟩ := q
      simp only at Ht hSB ⊢
      have HSB : Hid (SB (fun q => w.heap.size + 1 ≤ q ∧ q < w1.heap.size) w1 qk a) := hSB.frame (fun q hq => by have h1 := hq.1; simp at h1; exact ⟨h1, hq.2⟩) (fun _ _ _ => rfl)
      have hza : ∃ z1 z2 z3, a = .slice z1 z2 z3 := by
        obtain ⟨_, _, _, _, rfl, _⟩ := hSB
        exact ⟨_, _, _, rfl⟩
      obtain ⟨z1, z2, z3, rfl⟩ := hza
      clear hb1 hSB
      by_cases he : q1 = 0
      · subst he
        rw [if_neg (by simp)] at Ht
        cases q3 with
        | cons d r =>
          rw [if_pos (by simp)] at Ht
          go_wp2_with fail
          rw [Ht.out]
          refine bodyPost_ret (v := .tuple #[.agg #[.bool false, .int .i64 0, .slice none 0 0], .int .i64 2]) (by simp [results, Tryd.results12, go_sem, b0, b1, b2, hsz]) rfl ⟨_, rfl, SIn.nil _, ?_⟩
          exact (set3_below (o := 0) hB (Nat.le_refl _)).alloc (by rw [set3_size]; omega) _
        | nil =>
          rw [if_neg (by simp)] at Ht
          have HSx := hide (HSB.out.toS.alloc (.cells #[.bool qv, .int .i64 qn, .slice z1 z2 z3] 26))
          have hw1 : w.heap.size ≤ w1.heap.size := by omega
          go_wp2_with fail
          refine (wrong_any s _ (qv, qn) qk _ _ ((HN.out.below hB).alloc _) HSx.out).mono ?_
          rintro e w2 ⟨rfl, hb2⟩
          obtain ⟨d0, d1, d2, df, hB2, hsz2⟩ := box_full hb2
          have c0 := grow_cell hB2 _ _ b0
          have c1 := grow_cell hB2 _ _ b1
          have c2 := grow_cell hB2 _ _ b2
          have cf : ∀ i, w2.frozen? ⟨w.heap.size, i, none⟩ = false := fun i => (hB2.frozen (by show w.heap.size < _; omega)).trans (bf i)
          have hBB := below_step hB hB2
          have HSB2 : Hid (SB (fun q => w.heap.size + 1 ≤ q ∧ q < w1.heap.size) w2 qk (.slice z1 z2 z3)) := HSB.out.frame (fun _ h => h) (fun q i hq => hB2.cell (p := ⟨q, i, none⟩) hq.2)
          clear hb2 b0 b1 b2 bf
          by_cases he : wrongF s (qv, qn) qk = 0
          · rw [if_neg (by simpa using he)] at Ht
            simp only [he]
            clear he
            go_wp2_with fail
            rw [Ht.out]
            refine bodyPost_ret (v := .tuple #[.agg #[.bool qv, .int .i64 qn, .slice z1 z2 z3], .int .i64 0]) (by simp [results, Tryd.results12, go_sem, c0, c1, c2]) rfl ⟨_, rfl, ?_, set3_below (o := 0) hBB (Nat.le_refl _)⟩
            exact (HSB2.out.set3 (b := w.heap.size) (o := 0) (by omega)).toS
          · rw [if_pos he] at Ht
            have heb : (wrongF s (qv, qn) qk != 0) = true := by simpa using he
            generalize wrongF s (qv, qn) qk = E at *
            clear he
            go_wp2_with fail
            rw [Ht.out]
            exact bodyPost_ret (v := .tuple #[.agg #[.bool false, .int .i64 0, .slice none 0 0], .int .i64 E]) (by simp [results, Tryd.results12, go_sem, c0, c1, c2]) rfl ⟨_, rfl, SIn.nil _, set3_below (o := 0) hBB (Nat.le_refl _)⟩
      · rw [if_pos he] at Ht
        have heb : (q1 != 0) = true := by simpa using he
        clear he
        go_wp2_with fail
        rw [Ht.out]
        refine bodyPost_ret (v := .tuple #[.agg #[.bool false, .int .i64 0, .slice none 0 0], .int .i64 q1]) (by simp [results, Tryd.results12, go_sem, b0, b1, b2, hsz]) rfl ⟨_, rfl, SIn.nil _, ?_⟩
        exact (set3_below (o := 0) hB (Nat.le_refl _)).alloc (by rw [set3_size]; omega) _
  · have Hf : Hid (parseT s l = (wsig s, zeroT)) := by rw [Hid, parseT, if_pos hw]
    have heb : (wsig s != 0) = true := by simpa using hw
    generalize wsig s = E at *
    clear hw
    go_wp2_with fail
    rw [Hf.out]
    exact bodyPost_ret (v := .tuple #[.agg #[.bool false, .int .i64 0, .slice none 0 0], .int .i64 E]) (by simp [results, Tryd.results12, go_sem]) rfl ⟨_, rfl, SIn.nil _, below_alloc _ _⟩

end Go.Proofs.YtegdfnfengnjlaaDoor
