/- A text is read: the document's Read and Parse. -/
import Derived.Test.YtegdfnfengnjlaaDoorRTerm
namespace Go.Proofs.YtegdfnfengnjlaaDoor
open Go.RowKit Go.Deep Go.ChangeShapes Go.WideShapes
attribute [local go_sem ↓] Go.wp_at_zero Go.wp_at_succ

theorem readT_err {s : List Int} : ∀ {f : Nat} {l : List UInt8}, (readT s f l).1 ≠ 0 → (readT s f l).2 = (((false, 0), .nil), [])
  | 0, _, _ => rfl
  | _ + 1, [], _ => rfl
  | f + 1, c :: r, h => by
    rw [readT] at h ⊢
    by_cases h88 : c = 88
    · rw [if_pos h88] at h ⊢
      cases r with
      | nil => rfl
      | cons d r =>
        rw [rvar] at h ⊢
        by_cases hd : (d.toNat : Int) - 48 < 0 ∨ 5 ≤ (d.toNat : Int) - 48
        · rw [if_pos hd]
        · rw [if_neg hd] at h; exact absurd rfl h
    · rw [if_neg h88] at h ⊢
      by_cases hn : (c.toNat : Int) - 97 < 0 ∨ (s.length : Int) ≤ (c.toNat : Int) - 97
      · rw [if_pos hn]
      · rw [if_neg hn] at h ⊢
        by_cases ha : (argsT (readT s f) (s.getD ((c.toNat : Int) - 97).toNat 0) r).1 = 0
        · rw [if_neg (by simpa using ha)] at h; exact absurd rfl h
        · rw [if_pos ha]

set_option maxHeartbeats 1000000 in
set_option maxRecDepth 100000 in
theorem readR_any (s : List Int) (sv : Value) (l : List UInt8) (w : World) (hN : NIn w s sv) (hs : s.all okNum = true) (hl : l.length < maxLen) :
    Calls Tryd.prog 15 #[sv, str l] w fun e w' => ∃ a1 a2 a3, e = .returned (.tuple #[.agg #[.bool (readT s (l.length + 1) l).2.1.1.1, .int .i64 (readT s (l.length + 1) l).2.1.1.2, .slice a1 a2 a3], str (readT s (l.length + 1) l).2.2, .int .i64 (readT s (l.length + 1) l).1]) ∧ SB (New w w') w' (readT s (l.length + 1) l).2.1.2 (.slice a1 a2 a3) ∧ Below w.heap.size w w' := by
  have HN := hide hN
  have Hs := hide hs
  obtain ⟨sa, sc, sb, so, rfl, -, -, -, -⟩ := hN
  unfold maxLen at hl
  have Hlm : Hid (l.length < l.length + 1 ∧ l.length ≤ maxLen) := ⟨by omega, by unfold maxLen; omega⟩
  obtain ⟨q, hq⟩ : ∃ q, q = readT s (l.length + 1) l := ⟨_, rfl⟩
  have Hq := hide hq
  rw [← hq]
  have Hqe : Hid (q.1 ≠ 0 → q.2 = (((false, 0), .nil), [])) := fun h => by rw [hq] at h ⊢; exact readT_err h
  have Hrd : Hid (rdE s (l.length + 1) l 0 = q.1) := by rw [Hid, rdE, hq]; simp
  clear hq hs
  obtain ⟨q1, ⟨⟨qv, qn⟩, qk⟩, q3⟩ := q
  simp only at Hrd Hqe ⊢
  go_enter Tryd.func15, Tryd.ntmps15
  go_upto_region 2 with fail
  generalize hw0 : (w.alloc (.cells #[.bool false, .int .i64 0, .slice none 0 0] 26)).alloc (.cells #[.slice sa s.length sc, .string ⟨l.toArray⟩, .int .i64 0] 55) = w0
  have hB0 : Below w.heap.size w w0 := by rw [← hw0]; exact (below_alloc _ _).alloc (by simp) _
  have r0 : w0.cell? ⟨w.heap.size, 0, none⟩ = some (.bool false) := by rw [← hw0]; simp
  have r1 : w0.cell? ⟨w.heap.size, 1, none⟩ = some (.int .i64 0) := by rw [← hw0]; simp
  have r2 : w0.cell? ⟨w.heap.size, 2, none⟩ = some (.slice none 0 0) := by rw [← hw0]; simp
  have rf : ∀ i, w0.frozen? ⟨w.heap.size, i, none⟩ = false := fun i => by rw [← hw0]; simp
  have HR : Hid (RdAt w0 (w.heap.size + 1) (.slice sa s.length sc) l 0) := by
    rw [← hw0]
    exact ⟨by simp, by simp, by simp, fun i => by simp⟩
  have hs0 : w.heap.size + 1 < w0.heap.size := HR.out.lt
  clear hw0
  go_wp2_with fail
  refine (term_any s (l.length + 1) w _ l 0 w0 (w.heap.size + 1) HN.out Hs.out (by omega) hB0 HR.out (fun _ => Hlm.out)).mono ?_
  rintro e w1 ⟨⟨xv, xn⟩, xk, a1, a2, a3, l', rfl, hSk, hf1, hR1, hl1⟩
  rw [Hrd.out] at hR1 hl1
  have eA : w1.heap[w.heap.size]? = w0.heap[w.heap.size]? := hf1.block _ (by omega) (fun e => by simp at e) (fun e => by cases e)
  have r0' := (World.cell?_of_block (a := ⟨w.heap.size, 0, none⟩) eA).trans r0
  have r1' := (World.cell?_of_block (a := ⟨w.heap.size, 1, none⟩) eA).trans r1
  have r2' := (World.cell?_of_block (a := ⟨w.heap.size, 2, none⟩) eA).trans r2
  have rf' : ∀ i, w1.frozen? ⟨w.heap.size, i, none⟩ = false := fun i => (World.frozen?_of_block eA).trans (rf i)
  have hB1 : Below w.heap.size w w1 := hB0.trans (hf1.below hB0.size (fun g hg => by cases hg; omega) (fun g hg => by cases hg))
  have hs1 := hf1.size
  have HSk := hide hSk
  have Hl1 := hide hl1
  have HR1 := hide hR1
  clear r0 r1 r2 rf hf1 hSk hl1 hR1 eA HR
  go_upto_region 3 with fail
  generalize hw2 : w1.alloc (.cells #[.bool xv, .int .i64 xn, .slice a1 a2 a3] 26) = w2
  have hb2 : Below w1.heap.size w1 w2 := by rw [← hw2]; exact below_alloc _ _
  have u0 : w2.cell? ⟨w1.heap.size, 0, none⟩ = some (.bool xv) := by rw [← hw2]; simp
  have u1 : w2.cell? ⟨w1.heap.size, 1, none⟩ = some (.int .i64 xn) := by rw [← hw2]; simp
  have u2 : w2.cell? ⟨w1.heap.size, 2, none⟩ = some (.slice a1 a2 a3) := by rw [← hw2]; simp
  have r0 := grow_cell hb2 _ _ r0'
  have r1 := grow_cell hb2 _ _ r1'
  have r2 := grow_cell hb2 _ _ r2'
  have rf : ∀ i, w2.frozen? ⟨w.heap.size, i, none⟩ = false := fun i => (hb2.frozen (by show w.heap.size < _; omega)).trans (rf' i)
  obtain ⟨k0, k1, k2, -⟩ := HR1.out.of_block (hb2.block _ HR1.out.lt)
  have hB2 := hB1.trans (hb2.mono (by omega))
  have HSk2 := hide (HSk.out.grow (fun q hq => hq.2) hb2)
  clear hw2 r0' r1' r2' rf' HSk
  by_cases he : q1 = 0
  · subst he
    obtain ⟨hx, hl'⟩ := Hl1.out rfl
    rw [← Hq.out] at hx hl'
    simp only [Prod.mk.injEq] at hx hl'
    obtain ⟨⟨rfl, rfl⟩, rfl⟩ := hx
    subst hl'
    go_wp2_with fail
    go_region
    all_goals
      go_wp2_with fail
      exact bodyPost_ret (v := .tuple #[.agg #[.bool xv, .int .i64 xn, .slice a1 a2 a3], .string ⟨l'.toArray⟩, .int .i64 0]) (by simp [results, Tryd.results15, go_sem, r0, r1, r2]) rfl ⟨_, _, _, rfl, (HSk2.out.set3 (b := w.heap.size) (o := 0) (fun h => by have h1 : w0.heap.size ≤ w.heap.size := h.1; omega)).frame (fun q hq => ⟨by have h1 : w0.heap.size ≤ q := hq.1; omega, by have h1 := hq.2; have h2 := hb2.size; simp [World.setCell]; omega⟩) (fun _ _ _ => rfl), (set3_below (o := 0) hB2 (Nat.le_refl _)).drew⟩
  · have heb : (q1 != 0) = true := by simpa using he
    have hqe := Hqe.out he
    simp only [Prod.mk.injEq] at hqe
    obtain ⟨⟨⟨rfl, rfl⟩, rfl⟩, rfl⟩ := hqe
    clear he
    go_wp2_with fail
    go_region
    all_goals
      go_wp2_with fail
      exact bodyPost_ret (v := .tuple #[.agg #[.bool false, .int .i64 0, .slice none 0 0], .string ⟨#[]⟩, .int .i64 q1]) (by simp [results, Tryd.results15, go_sem, r0, r1, r2]) rfl ⟨_, _, _, rfl, SB.nil _ _, (set3_below (o := 0) hB2 (Nat.le_refl _)).drew⟩

set_option maxHeartbeats 1000000 in
theorem parseR_any (s : List Int) (sv : Value) (l : List UInt8) (w : World) (hN : NIn w s sv) (hl : l.length ≤ maxLen) :
    Calls Tryd.prog 13 #[sv, str l] w fun e w' => ∃ a, e = .returned (.tuple #[trm (parseT s l).2.1 a, .int .i64 (parseT s l).1]) ∧ SIn w' (parseT s l).2.2 a ∧ Below w.heap.size w w' := by
  have HN := hide hN
  obtain ⟨sa, sc, sb, so, rfl, -, -, -, -⟩ := hN
  unfold maxLen at hl
  go_enter Tryd.func13, Tryd.ntmps13
  go_wp2_with fail
  refine (wsigR_any s _ _ (HN.out.alloc _)).mono ?_
  rintro e w' ⟨rfl, hw'⟩
  rw [hw']
  clear hw' w'
  by_cases hw : wsig s = 0
  · have Hw := hide hw
    simp only [hw]
    by_cases h48 : 48 < l.length
    · have Hf : Hid (parseT s l = (4, zeroT)) := by rw [Hid, parseT, if_neg (by simpa using hw), if_pos h48]
      have h48' : (48 : Int) < (l.length : Int) := by omega
      clear hw
      go_wp2_with fail
      rw [Hf.out]
      exact bodyPost_ret (v := .tuple #[.agg #[.bool false, .int .i64 0, .slice none 0 0], .int .i64 4]) (by simp [results, Tryd.results13, go_sem]) rfl ⟨_, rfl, SIn.nil _, below_alloc _ _⟩
    · have Ht : Hid (parseT s l = if (readT s (l.length + 1) l).1 ≠ 0 then ((readT s (l.length + 1) l).1, zeroT) else
          if (readT s (l.length + 1) l).2.2 ≠ [] then (2, zeroT) else
          if wrongF s (readT s (l.length + 1) l).2.1.1 (readT s (l.length + 1) l).2.1.2 ≠ 0 then (wrongF s (readT s (l.length + 1) l).2.1.1 (readT s (l.length + 1) l).2.1.2, zeroT) else
          (0, (readT s (l.length + 1) l).2.1)) := by rw [Hid, parseT, if_neg (by simpa using hw), if_neg h48]
      have h48' : ¬ (48 : Int) < (l.length : Int) := by omega
      have Hok := hide (wsig_ok hw).1
      clear hw
      go_wp2_with fail
      refine (readR_any s _ l _ (HN.out.alloc _) Hok.out (by unfold maxLen; omega)).mono ?_
      rintro e w1 ⟨z1, z2, z3, rfl, hSB, hb1⟩
      obtain ⟨b0, b1, b2, bf, hB, hsz⟩ := box_full hb1
      generalize readT s (l.length + 1) l = q at *
      obtain ⟨q1, ⟨⟨qv, qn⟩, qk⟩, q3⟩ := q
      simp only at Ht hSB ⊢
      have HSB : Hid (SB (fun q => w.heap.size + 1 ≤ q ∧ q < w1.heap.size) w1 qk (.slice z1 z2 z3)) := hSB.frame (fun q hq => by have h1 := hq.1; simp at h1; exact ⟨h1, hq.2⟩) (fun _ _ _ => rfl)
      clear hb1 hSB
      by_cases he : q1 = 0
      · subst he
        rw [if_neg (by simp)] at Ht
        cases q3 with
        | cons d r =>
          rw [if_pos (by simp)] at Ht
          go_wp2_with fail
          rw [Ht.out]
          refine bodyPost_ret (v := .tuple #[.agg #[.bool false, .int .i64 0, .slice none 0 0], .int .i64 2]) (by simp [results, Tryd.results13, go_sem, b0, b1, b2, hsz]) rfl ⟨_, rfl, SIn.nil _, ?_⟩
          exact (set3_below (o := 0) hB (Nat.le_refl _)).alloc (by rw [set3_size]; omega) _
        | nil =>
          rw [if_neg (by simp)] at Ht
          have HSx := hide (HSB.out.toS.alloc (.cells #[.bool qv, .int .i64 qn, .slice z1 z2 z3] 26))
          have hw1 : w.heap.size ≤ w1.heap.size := by omega
          go_wp2_with fail
          refine (wrongR_any s _ (qv, qn) qk _ _ ((HN.out.below hB).alloc _) HSx.out).mono ?_
          rintro e w2 ⟨rfl, hb2⟩
          obtain ⟨d0, d1, d2, df, hB2, hsz2⟩ := box_full hb2
          have c0 := grow_cell hB2 _ _ b0
          have c1 := grow_cell hB2 _ _ b1
          have c2 := grow_cell hB2 _ _ b2
          have cf : ∀ i, w2.frozen? ⟨w.heap.size, i, none⟩ = false := fun i => (hB2.frozen (by show w.heap.size < _; omega)).trans (bf i)
          have hBB := below_step hB hB2
          have HSB2 : Hid (SB (fun q => w.heap.size + 1 ≤ q ∧ q < w1.heap.size) w2 qk (.slice z1 z2 z3)) := HSB.out.frame (fun _ h => h) (fun q i hq => hB2.cell (p := ⟨q, i, none⟩) hq.2)
          clear hb2 b0 b1 b2 bf
          by_cases he : wrongF s (qv, qn) qk = 0
          · rw [if_neg (by simpa using he)] at Ht
            simp only [he]
            clear he
            go_wp2_with fail
            rw [Ht.out]
            refine bodyPost_ret (v := .tuple #[.agg #[.bool qv, .int .i64 qn, .slice z1 z2 z3], .int .i64 0]) (by simp [results, Tryd.results13, go_sem, c0, c1, c2]) rfl ⟨_, rfl, ?_, set3_below (o := 0) hBB (Nat.le_refl _)⟩
            exact (HSB2.out.set3 (b := w.heap.size) (o := 0) (by omega)).toS
          · rw [if_pos he] at Ht
            have heb : (wrongF s (qv, qn) qk != 0) = true := by simpa using he
            generalize wrongF s (qv, qn) qk = E at *
            clear he
            go_wp2_with fail
            rw [Ht.out]
            exact bodyPost_ret (v := .tuple #[.agg #[.bool false, .int .i64 0, .slice none 0 0], .int .i64 E]) (by simp [results, Tryd.results13, go_sem, c0, c1, c2]) rfl ⟨_, rfl, SIn.nil _, set3_below (o := 0) hBB (Nat.le_refl _)⟩
      · rw [if_pos he] at Ht
        have heb : (q1 != 0) = true := by simpa using he
        clear he
        go_wp2_with fail
        rw [Ht.out]
        refine bodyPost_ret (v := .tuple #[.agg #[.bool false, .int .i64 0, .slice none 0 0], .int .i64 q1]) (by simp [results, Tryd.results13, go_sem, b0, b1, b2, hsz]) rfl ⟨_, rfl, SIn.nil _, ?_⟩
        exact (set3_below (o := 0) hB (Nat.le_refl _)).alloc (by rw [set3_size]; omega) _
  · have Hf : Hid (parseT s l = (wsig s, zeroT)) := by rw [Hid, parseT, if_pos hw]
    have heb : (wsig s != 0) = true := by simpa using hw
    generalize wsig s = E at *
    clear hw
    go_wp2_with fail
    rw [Hf.out]
    exact bodyPost_ret (v := .tuple #[.agg #[.bool false, .int .i64 0, .slice none 0 0], .int .i64 E]) (by simp [results, Tryd.results13, go_sem]) rfl ⟨_, rfl, SIn.nil _, below_alloc _ _⟩

end Go.Proofs.YtegdfnfengnjlaaDoor
