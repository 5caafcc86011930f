/- A text is read: the document's Read and Parse. -/
import Derived.Test.YtfnkjadfepoicacG17
import Derived.Test.YtfnkjadfepoicacG16
namespace Go.Proofs.Ytfnkjadfepoicac
open Go.RowKit Go.Deep Go.ChangeShapes Go.WideShapes
attribute [local go_sem ↓] Go.wp_at_zero Go.wp_at_succ

theorem readT_err {s : List Int} : ∀ {f : Nat} {l : List UInt8}, (readT s f l).1 ≠ 0 → (readT s f l).2 = (((false, 0), .nil), [])
  | 0, _, _ => rfl
  | _ + 1, [], _ => rfl
  | f + 1, c :: r, h => by
    rw [readT] at h ⊢
    by_cases h88 : c = 88
    · rw [if_pos h88] at h ⊢
      cases r with
      | nil => rfl
      | cons d r =>
        rw [rvar] at h ⊢
        by_cases hd : (d.toNat : Int) - 48 < 0 ∨ 5 ≤ (d.toNat : Int) - 48
        · rw [if_pos hd]
        · rw [if_neg hd] at h; exact absurd rfl h
    · rw [if_neg h88] at h ⊢
      by_cases hn : (c.toNat : Int) - 97 < 0 ∨ (s.length : Int) ≤ (c.toNat : Int) - 97
      · rw [if_pos hn]
      · rw [if_neg hn] at h ⊢
        by_cases ha : (argsT (readT s f) (s.getD ((c.toNat : Int) - 97).toNat 0) r).1 = 0
        · rw [if_neg (by simpa using ha)] at h; exact absurd rfl h
        · rw [if_pos ha]

set_option maxHeartbeats 1000000 in
set_option maxRecDepth 100000 in
theorem readR_any (s : List Int) (sv : Value) (l : List UInt8) (w : World) (hN : NIn w s sv) (hs : s.all okNum = true) (hl : l.length < maxLen) :
    Calls Try.prog 69 #[sv, str l] w fun e w' => ∃ a1 a2 a3, e = .returned (.tuple #[.agg #[.bool (readT s (l.length + 1) l).2.1.1.1, .int .i64 (readT s (l.length + 1) l).2.1.1.2, .slice a1 a2 a3], str (readT s (l.length + 1) l).2.2, .int .i64 (readT s (l.length + 1) l).1]) ∧ SB (New w w') w' (readT s (l.length + 1) l).2.1.2 (.slice a1 a2 a3) ∧ Below w.heap.size w w' := by
  have HN := hide hN
  have Hs := hide hs
  obtain ⟨sa, sc, sb, so, rfl, -, -, -, -⟩ := hN
  unfold maxLen at hl
  have Hlm : Hid (l.length < l.length + 1 ∧ l.length ≤ maxLen) := ⟨by omega, by unfold maxLen; omega⟩
  obtain ⟨q, hq⟩ : ∃ q, q = readT s (l.length + 1) l := ⟨_, rfl⟩
  have Hq := hide hq
  rw [← hq]
  have Hqe : Hid (q.1 ≠ 0 → q.2 = (((false, 0), .nil), [])) := fun h => by rw [hq] at h ⊢; exact readT_err h
  have Hrd : Hid (rdE s (l.length + 1) l 0 = q.1) := by rw [Hid, rdE, hq]; simp
  clear hq hs
  obtain ⟨q1, ⟨⟨qv, qn⟩, qk⟩, q3⟩ := q
  simp only at Hrd Hqe ⊢
  go_enter Try.func69, Try.ntmps69
  go_upto_region 2 with fail
  generalize hw0 : (w.alloc (.cells #[.bool false, .int .i64 0, .slice none 0 0] 35)).alloc (.cells #[.slice sa s.length sc, .string ⟨l.toArray⟩, .int .i64 0] 105) = w0
  have hB0 : Below w.heap.size w w0 := by rw [← hw0]; exact (below_alloc _ _).alloc (by simp) _
  have r0 : w0.cell? ⟨w.heap.size, 0, none⟩ = some (.bool false) := by rw [← hw0]; simp
  have r1 : w0.cell? ⟨w.heap.size, 1, none⟩ = some (.int .i64 0) := by rw [← hw0]; simp
  have r2 : w0.cell? ⟨w.heap.size, 2, none⟩ = some (.slice none 0 0) := by rw [← hw0]; simp
  have rf : ∀ i, w0.frozen? ⟨w.heap.size, i, none⟩ = false := fun i => by rw [← hw0]; simp
  have HR : Hid (RdAt w0 (w.heap.size + 1) (.slice sa s.length sc) l 0) := by
    rw [← hw0]
    exact ⟨by simp, by simp, by simp, fun i => by simp⟩
  have hs0 : w.heap.size + 1 < w0.heap.size := HR.out.lt
  clear hw0
  go_wp2_with fail
  refine (term_any s (l.length + 1) w _ l 0 w0 (w.heap.size + 1) HN.out Hs.out (by omega) hB0 HR.out (fun _ => Hlm.out)).mono ?_
  rintro e w1 ⟨⟨xv, xn⟩, xk, a1, a2, a3, l', rfl, hSk, hf1, hR1, hl1⟩
  rw [Hrd.out] at hR1 hl1
  have eA : w1.heap[w.heap.size]? = w0.heap[w.heap.size]? := hf1.block _ (by omega) (fun e => by simp at e) (fun e => by cases e)
  have r0' := (World.cell?_of_block (a := ⟨w.heap.size, 0, none⟩) eA).trans r0
  have r1' := (World.cell?_of_block (a := ⟨w.heap.size, 1, none⟩) eA).trans r1
  have r2' := (World.cell?_of_block (a := ⟨w.heap.size, 2, none⟩) eA).trans r2
  have rf' : ∀ i, w1.frozen? ⟨w.heap.size, i, none⟩ = false := fun i => (World.frozen?_of_block eA).trans (rf i)
  have hB1 : Below w.heap.size w w1 := hB0.trans (hf1.below hB0.size (fun g hg => by cases hg; omega) (fun g hg => by cases hg))
  have hs1 := hf1.size
  have HSk := hide hSk
  have Hl1 := hide hl1
  have HR1 := hide hR1
  clear r0 r1 r2 rf hf1 hSk hl1 hR1 eA HR
  go_upto_region 3 with fail
  generalize hw2 : w1.alloc (.cells #[.bool xv, .int .i64 xn, .slice a1 a2 a3] 35) = w2
  have hb2 : Below w1.heap.size w1 w2 := by rw [← hw2]; exact below_alloc _ _
  have u0 : w2.cell? ⟨w1.heap.size, 0, none⟩ = some (.bool xv) := by rw [← hw2]; simp
  have u1 : w2.cell? ⟨w1.heap.size, 1, none⟩ = some (.int .i64 xn) := by rw [← hw2]; simp
  have u2 : w2.cell? ⟨w1.heap.size, 2, none⟩ = some (.slice a1 a2 a3) := by rw [← hw2]; simp
  have r0 := grow_cell hb2 _ _ r0'
  have r1 := grow_cell hb2 _ _ r1'
  have r2 := grow_cell hb2 _ _ r2'
  have rf : ∀ i, w2.frozen? ⟨w.heap.size, i, none⟩ = false := fun i => (hb2.frozen (by show w.heap.size < _; omega)).trans (rf' i)
  obtain ⟨k0, k1, k2, -⟩ := HR1.out.of_block (hb2.block _ HR1.out.lt)
  have hB2 := hB1.trans (hb2.mono (by omega))
  have HSk2 := hide (HSk.out.grow (fun q hq => hq.2) hb2)
  clear hw2 r0' r1' r2' rf' HSk
  by_cases he : q1 = 0
  · subst he
    obtain ⟨hx, hl'⟩ := Hl1.out rfl
    rw [← Hq.out] at hx hl'
    simp only [Prod.mk.injEq] at hx hl'
    obtain ⟨⟨rfl, rfl⟩, rfl⟩ := hx
    subst hl'
    go_wp2_with fail
    go_region
    all_goals
      go_wp2_with fail
      exact bodyPost_ret (v := .tuple #[.agg #[.bool xv, .int .i64 xn, .slice a1 a2 a3], .string ⟨l'.toArray⟩, .int .i64 0]) (by simp [results, Try.results69, go_sem, r0, r1, r2]) rfl ⟨_, _, _, rfl, (HSk2.out.set3 (b := w.heap.size) (o := 0) (fun h => by have h1 : w0.heap.size ≤ w.heap.size := h.1; omega)).frame (fun q hq => ⟨by have h1 : w0.heap.size ≤ q := hq.1; omega, by have h1 := hq.2; have h2 := hb2.size; simp [World.setCell]; omega⟩) (fun _ _ _ => rfl), (set3_below (o := 0) hB2 (Nat.le_refl _)).drew⟩
  · have heb : (q1 != 0) = true := by simpa using he
    have hqe := Hqe.out he
    simp only [Prod.mk.injEq] at hqe
    obtain ⟨⟨⟨rfl, rfl⟩, rfl⟩, rfl⟩ := hqe
    clear he
    go_wp2_with fail
    go_region
    all_goals
      go_wp2_with fail
      exact bodyPost_ret (v := .tuple #[.agg #[.bool false, .int .i64 0, .slice none 0 0], .string ⟨#[]⟩, .int .i64 q1]) (by simp [results, Try.results69, go_sem, r0, r1, r2]) rfl ⟨_, _, _, rfl, SB.nil _ _, (set3_below (o := 0) hB2 (Nat.le_refl _)).drew⟩

set_option maxRecDepth 100000 in
set_option maxHeartbeats 1000000 in
theorem parseR_new (s : List Int) (sv : Value) (l : List UInt8) (w : World) (hN : NIn w s sv) (hl : l.length ≤ maxLen) :
    Calls Try.prog 59 #[sv, str l] w fun e w' => ∃ a, e = .returned (.tuple #[trm (parseT s l).2.1 a, .int .i64 (parseT s l).1]) ∧ SB (New w w') w' (parseT s l).2.2 a ∧ Below w.heap.size w w' := by
  have HN := hide hN
  obtain ⟨sa, sc, sb, so, rfl, -, -, -, -⟩ := hN
  unfold maxLen at hl
  go_enter Try.func59, Try.ntmps59
  go_wp2_with fail
  refine (wsigR_any s _ _ (HN.out.alloc _)).mono ?_
  rintro e w' ⟨rfl, hw'⟩
  rw [hw']
  clear hw' w'
  by_cases hw : wsig s = 0
  · have Hw := hide hw
    simp only [hw]
    by_cases h48 : 48 < l.length
    · have Hf : Hid (parseT s l = (4, zeroT)) := by rw [Hid, parseT, if_neg (by simpa using hw), if_pos h48]
      have h48' : (48 : Int) < (l.length : Int) := by omega
      clear hw
      go_wp2_with fail
      rw [Hf.out]
      exact bodyPost_ret (v := .tuple #[.agg #[.bool false, .int .i64 0, .slice none 0 0], .int .i64 4]) (by simp [results, Try.results59, go_sem]) rfl ⟨_, rfl, SB.nil _ _, below_alloc _ _⟩
    · have Ht : Hid (parseT s l = if (readT s (l.length + 1) l).1 ≠ 0 then ((readT s (l.length + 1) l).1, zeroT) else
          if (readT s (l.length + 1) l).2.2 ≠ [] then (2, zeroT) else
          if wrongF s (readT s (l.length + 1) l).2.1.1 (readT s (l.length + 1) l).2.1.2 ≠ 0 then (wrongF s (readT s (l.length + 1) l).2.1.1 (readT s (l.length + 1) l).2.1.2, zeroT) else
          (0, (readT s (l.length + 1) l).2.1)) := by rw [Hid, parseT, if_neg (by simpa using hw), if_neg h48]
      have h48' : ¬ (48 : Int) < (l.length : Int) := by omega
      have Hok := hide (wsig_ok hw).1
      clear hw
      go_wp2_with fail
      refine (readR_any s _ l _ (HN.out.alloc _) Hok.out (by unfold maxLen; omega)).mono ?_
      rintro e w1 ⟨z1, z2, z3, rfl, hSB, hb1⟩
      obtain ⟨b0, b1, b2, bf, hB, hsz⟩ := box_full hb1
      generalize readT s (l.length + 1) l = q at *
      obtain ⟨q1, ⟨⟨qv, qn⟩, qk⟩, q3⟩ := q
      simp only at Ht hSB ⊢
      have HSB : Hid (SB (fun q => w.heap.size + 1 ≤ q ∧ q < w1.heap.size) w1 qk (.slice z1 z2 z3)) := hSB.frame (fun q hq => by have h1 := hq.1; simp at h1; exact ⟨h1, hq.2⟩) (fun _ _ _ => rfl)
      clear hb1 hSB
      by_cases he : q1 = 0
      · subst he
        rw [if_neg (by simp)] at Ht
        cases q3 with
        | cons d r =>
          rw [if_pos (by simp)] at Ht
          go_wp2_with fail
          rw [Ht.out]
          refine bodyPost_ret (v := .tuple #[.agg #[.bool false, .int .i64 0, .slice none 0 0], .int .i64 2]) (by simp [results, Try.results59, go_sem, b0, b1, b2, hsz]) rfl ⟨_, rfl, SB.nil _ _, ?_⟩
          exact (set3_below (o := 0) hB (Nat.le_refl _)).alloc (by rw [set3_size]; omega) _
        | nil =>
          rw [if_neg (by simp)] at Ht
          have HSx := hide (HSB.out.toS.alloc (.cells #[.bool qv, .int .i64 qn, .slice z1 z2 z3] 35))
          have hw1 : w.heap.size ≤ w1.heap.size := by omega
          go_wp2_with fail
          refine (wrongR_any s _ (qv, qn) qk _ _ ((HN.out.below hB).alloc _) HSx.out).mono ?_
          rintro e w2 ⟨rfl, hb2⟩
          obtain ⟨d0, d1, d2, df, hB2, hsz2⟩ := box_full hb2
          have c0 := grow_cell hB2 _ _ b0
          have c1 := grow_cell hB2 _ _ b1
          have c2 := grow_cell hB2 _ _ b2
          have cf : ∀ i, w2.frozen? ⟨w.heap.size, i, none⟩ = false := fun i => (hB2.frozen (by show w.heap.size < _; omega)).trans (bf i)
          have hBB := below_step hB hB2
          have HSB2 : Hid (SB (fun q => w.heap.size + 1 ≤ q ∧ q < w1.heap.size) w2 qk (.slice z1 z2 z3)) := HSB.out.frame (fun _ h => h) (fun q i hq => hB2.cell (p := ⟨q, i, none⟩) hq.2)
          clear hb2 b0 b1 b2 bf
          by_cases he : wrongF s (qv, qn) qk = 0
          · rw [if_neg (by simpa using he)] at Ht
            simp only [he]
            clear he
            go_wp2_with fail
            rw [Ht.out]
            refine bodyPost_ret (v := .tuple #[.agg #[.bool qv, .int .i64 qn, .slice z1 z2 z3], .int .i64 0]) (by simp [results, Try.results59, go_sem, c0, c1, c2]) rfl ⟨_, rfl, ?_, set3_below (o := 0) hBB (Nat.le_refl _)⟩
            have hs12 : w1.heap.size ≤ w2.heap.size := hB2.size
            exact (HSB2.out.set3 (b := w.heap.size) (o := 0) (by omega)).frame (fun q hq => ⟨by omega, by simp [World.setCell]; omega⟩) (fun _ _ _ => rfl)
          · rw [if_pos he] at Ht
            have heb : (wrongF s (qv, qn) qk != 0) = true := by simpa using he
            generalize wrongF s (qv, qn) qk = E at *
            clear he
            go_wp2_with fail
            rw [Ht.out]
            exact bodyPost_ret (v := .tuple #[.agg #[.bool false, .int .i64 0, .slice none 0 0], .int .i64 E]) (by simp [results, Try.results59, go_sem, c0, c1, c2]) rfl ⟨_, rfl, SB.nil _ _, set3_below (o := 0) hBB (Nat.le_refl _)⟩
      · rw [if_pos he] at Ht
        have heb : (q1 != 0) = true := by simpa using he
        clear he
        go_wp2_with fail
        rw [Ht.out]
        refine bodyPost_ret (v := .tuple #[.agg #[.bool false, .int .i64 0, .slice none 0 0], .int .i64 q1]) (by simp [results, Try.results59, go_sem, b0, b1, b2, hsz]) rfl ⟨_, rfl, SB.nil _ _, ?_⟩
        exact (set3_below (o := 0) hB (Nat.le_refl _)).alloc (by rw [set3_size]; omega) _
  · have Hf : Hid (parseT s l = (wsig s, zeroT)) := by rw [Hid, parseT, if_pos hw]
    have heb : (wsig s != 0) = true := by simpa using hw
    generalize wsig s = E at *
    clear hw
    go_wp2_with fail
    rw [Hf.out]
    exact bodyPost_ret (v := .tuple #[.agg #[.bool false, .int .i64 0, .slice none 0 0], .int .i64 E]) (by simp [results, Try.results59, go_sem]) rfl ⟨_, rfl, SB.nil _ _, below_alloc _ _⟩

theorem parseR_any (s : List Int) (sv : Value) (l : List UInt8) (w : World) (hN : NIn w s sv) (hl : l.length ≤ maxLen) :
    Calls Try.prog 59 #[sv, str l] w fun e w' => ∃ a, e = .returned (.tuple #[trm (parseT s l).2.1 a, .int .i64 (parseT s l).1]) ∧ SIn w' (parseT s l).2.2 a ∧ Below w.heap.size w w' := by
  refine (parseR_new s sv l w hN hl).mono ?_
  rintro e w' ⟨a, h1, h2, h3⟩
  exact ⟨a, h1, h2.toS, h3⟩

end Go.Proofs.Ytfnkjadfepoicac

/- The closed fact that is asked first in chapter 2: alive. -/
namespace Go.Proofs.Ytfnkjadfepoicac
open Go.RowKit Go.Deep Go.ChangeShapes Go.WideShapes
attribute [local go_sem ↓] Go.wp_at_zero Go.wp_at_succ

theorem parse_of {s : List Int} {l : List UInt8} {t : Tm} (h1 : wsig s = 0) (h2 : l.length ≤ 48) (h3 : readT s (l.length + 1) l = (0, t, [])) (h4 : wrongF s t.1 t.2 = 0) : parseT s l = (0, t) := by
  rw [parseT, h1, if_neg (by simp), if_neg (by omega), h3]
  simp [h4]

/-- Two right terms: where Unify begins. -/
theorem ui_of {t u : Tm} (ht : Gd t) (hu : Gd u) (h1 : depT t ≤ 12) (h2 : depT u ≤ 12) : UI [] [(t, u)] := by
  refine ⟨fun p hp => by simp at hp, fun p hp => by simp at hp, fun p hp => ?_, fun p hp => by simp at hp, by decide, ?_, fun p hp => by simp at hp⟩
  · simp only [List.mem_singleton] at hp
    subst hp
    exact ⟨ht, hu⟩
  · have e : ∀ z : Tm, Gd z → subT (bnd []) z = z := fun z hz => subT_vr hz.ok
    simp only [dpL, List.length_nil, Nat.add_zero, and_true]
    rw [e t ht, e u hu]
    simpa using ⟨h1, h2⟩

def ta : Tm := ((false, 0), .nil)
def tb (t : Tm) : Tm := ((false, 1), .node 0 0 t.1 t.2 .nil)
def tc (t u : Tm) : Tm := ((false, 2), .node 0 0 t.1 t.2 (.node 0 0 u.1 u.2 .nil))
theorem sg : ([0, 1, 2] : List Int).all okNum = true := by decide
theorem l1p : parseT [0, 1, 2] [99, 40, 88, 48, 44, 98, 40, 88, 49, 41, 41] = (0, tc (vr 0) (tb (vr 1))) := parse_of al_wsig (by decide) rfl (by decide +kernel)
theorem l2p : parseT [0, 1, 2] [99, 40, 98, 40, 97, 41, 44, 88, 48, 41] = (0, tc (tb ta) (vr 0)) := parse_of al_wsig (by decide) rfl (by decide +kernel)
theorem l3p : parseT [0, 1, 2] [99, 40, 88, 48, 44, 88, 49, 41] = (0, tc (vr 0) (vr 1)) := parse_of al_wsig (by decide) rfl (by decide +kernel)
theorem l4p : parseT [0, 1, 2] [99, 40, 97, 44, 98, 40, 97, 41, 41] = (0, tc ta (tb ta)) := parse_of al_wsig (by decide) rfl (by decide +kernel)
theorem l5p : parseT [0, 1, 2] [88, 48] = (0, vr 0) := parse_of al_wsig (by decide) rfl (by decide +kernel)
theorem l6p : parseT [0, 1, 2] [98, 40, 88, 48, 41] = (0, tb (vr 0)) := parse_of al_wsig (by decide) rfl (by decide +kernel)
theorem l7p : parseT [0, 1, 2] [88, 50] = (0, vr 2) := parse_of al_wsig (by decide) rfl (by decide +kernel)
theorem l8p : parseT [0, 1, 2] [97] = (0, ta) := parse_of al_wsig (by decide) rfl (by decide +kernel)
theorem l9p : parseT [0, 1, 2] [88, 49] = (0, vr 1) := parse_of al_wsig (by decide) rfl (by decide +kernel)
theorem g1 : Gd (tc (vr 0) (tb (vr 1))) ∧ depT (tc (vr 0) (tb (vr 1))) ≤ 12 ∧ tszR (tc (vr 0) (tb (vr 1))).2 ≤ 12 := gd_right sg rfl (by decide +kernel)
theorem g2 : Gd (tc (tb ta) (vr 0)) ∧ depT (tc (tb ta) (vr 0)) ≤ 12 ∧ tszR (tc (tb ta) (vr 0)).2 ≤ 12 := gd_right sg rfl (by decide +kernel)
theorem g3 : Gd (tc (vr 0) (vr 1)) ∧ depT (tc (vr 0) (vr 1)) ≤ 12 ∧ tszR (tc (vr 0) (vr 1)).2 ≤ 12 := gd_right sg rfl (by decide +kernel)
theorem g4 : Gd (tc ta (tb ta)) ∧ depT (tc ta (tb ta)) ≤ 12 ∧ tszR (tc ta (tb ta)).2 ≤ 12 := gd_right sg rfl (by decide +kernel)
theorem g5 : Gd (vr 0) ∧ depT (vr 0) ≤ 12 ∧ tszR (vr 0).2 ≤ 12 := gd_right (s := [0, 1, 2]) sg rfl (by decide +kernel)
theorem g6 : Gd (tb (vr 0)) ∧ depT (tb (vr 0)) ≤ 12 ∧ tszR (tb (vr 0)).2 ≤ 12 := gd_right sg rfl (by decide +kernel)
theorem g8 : Gd ta ∧ depT ta ≤ 12 ∧ tszR ta.2 ≤ 12 := gd_right sg rfl (by decide +kernel)
theorem g9 : Gd (tb ta) ∧ depT (tb ta) ≤ 12 ∧ tszR (tb ta).2 ≤ 12 := gd_right sg rfl (by decide +kernel)
theorem u1 : runU 10 [] [(tc (vr 0) (tb (vr 1)), tc (tb ta) (vr 0))] = some (some [(0, tb ta), (1, ta)]) := by kernel_rfl
theorem u2 : runU 10 [] [(vr 0, tb (vr 0))] = some none := by kernel_rfl
theorem e1 : extT [] (tc (vr 0) (vr 1)) (tc ta (tb ta)) = some [(0, ta), (1, tb ta)] := by kernel_rfl
theorem e2 : extT [(0, ta), (1, tb ta)] (vr 2) ta = some [(0, ta), (1, tb ta), (2, ta)] := by kernel_rfl
theorem s1 : subT (bnd [(0, tb ta), (1, ta)]) (tc (vr 0) (vr 1)) = tc (tb ta) ta := by kernel_rfl
theorem x1 : textT (tc (tb ta) ta).1 (tc (tb ta) ta).2 = [99, 40, 98, 40, 97, 41, 44, 97, 41] := by kernel_rfl
theorem byte_eq {U : ByteArray} {l : List UInt8} (h : U.data.toList = l) : U = ⟨l.toArray⟩ := by
  obtain ⟨d⟩ := U
  simp only at h
  subst h
  simp

theorem all2 : ∀ p ∈ ([(0, tb ta), (1, ta)] : Sb), narT p.2 ∧ okT p.2 := fun p hp => by
  simp only [List.mem_cons, List.not_mem_nil, or_false] at hp
  rcases hp with rfl | rfl
  · exact ⟨g9.1.nar, g9.1.ok⟩
  · exact ⟨g8.1.nar, g8.1.ok⟩
theorem all3 : ∀ p ∈ ([(0, ta), (1, tb ta)] : Sb), narT p.2 ∧ okT p.2 := fun p hp => by
  simp only [List.mem_cons, List.not_mem_nil, or_false] at hp
  rcases hp with rfl | rfl
  · exact ⟨g8.1.nar, g8.1.ok⟩
  · exact ⟨g9.1.nar, g9.1.ok⟩

end Go.Proofs.Ytfnkjadfepoicac

/- Made the same: what the law asks, told of terms alone; is a term without variables? -/
namespace Go.Proofs.Ytfnkjadfepoicac
open Go.RowKit Go.Deep Go.ChangeShapes Go.WideShapes
attribute [local go_sem ↓] Go.wp_at_zero Go.wp_at_succ

/-- What Unify finds, from right terms. -/
theorem unify_ok {n : Nat} {t u : Tm} {s : Sb} (hUI : UI [] [(t, u)]) (h : runU n [] [(t, u)] = some (some s)) : (∀ p ∈ s, Gd p.2) ∧ subT (bnd s) t = subT (bnd s) u := by
  obtain ⟨h1, _, h3⟩ := runU_sound n [] s [(t, u)] hUI h
  exact ⟨h1.gs, h3 (t, u) (by simp)⟩
/-- Whatever makes two terms the same is what is found, and then more. -/
theorem unify_most {n : Nat} {t u : Tm} {R : Option Sb} {σ : Int → Tm} (hUI : UI [] [(t, u)]) (h : runU n [] [(t, u)] = some R) (hσ : subT σ t = subT σ u) : ∃ s, R = some s ∧ subT σ (subT (bnd s) t) = subT σ t := by
  obtain ⟨s, hs, h2⟩ := runU_most (σ := σ) n [] R [(t, u)] hUI h (fun p hp => by simp at hp) (fun p hp => by simp only [List.mem_singleton] at hp; subst hp; exact hσ)
  refine ⟨s, hs, ?_⟩
  rw [subT_sub]
  refine subT_congr fun m _ => ?_
  cases e : look s m with
  | none => rw [bnd_none e]; rfl
  | some z => rw [bnd_some e]; exact h2 _ (look_mem e)

end Go.Proofs.Ytfnkjadfepoicac

/- Made the same: the law's own walk. -/
namespace Go.Proofs.Ytfnkjadfepoicac
open Go.RowKit Go.Deep Go.ChangeShapes Go.WideShapes
attribute [local go_sem ↓] Go.wp_at_zero Go.wp_at_succ

def LawPost (w : World) (e : Ending) (w' : World) : Prop := e = .returned (.bool true) ∧ Below w.heap.size w w'

theorem sin_keep {X : Nat → Prop} {w w' : World} {k : Fo} {a : Value} (h : SB X w k a) (hr : ∀ q, X q → w'.heap[q]? = w.heap[q]?) : SIn w' k a := (h.kept hr).toS
theorem heap0 {W : World} {o1 o2 : Obj} {q : Nat} (h : q < W.heap.size) : ((W.alloc o1).alloc o2).heap[q]? = W.heap[q]? := by
  rw [Below.heap_alloc _ _ _ (by simp; omega), Below.heap_alloc _ _ _ h]
theorem heap1 {W : World} {b q : Nat} {x y z : Value} {o : Obj} (h : q < W.heap.size) (hn : q ≠ b) : ((((W.setCell ⟨b, 0, none⟩ x).setCell ⟨b, 1, none⟩ y).setCell ⟨b, 2, none⟩ z).alloc o).heap[q]? = W.heap[q]? := by
  have hs : (set3 W b 0 x y z).heap.size = W.heap.size := set3_size
  have e : (((W.setCell ⟨b, 0, none⟩ x).setCell ⟨b, 1, none⟩ y).setCell ⟨b, 2, none⟩ z) = set3 W b 0 x y z := rfl
  rw [e, Below.heap_alloc _ _ _ (by rw [hs]; exact h), set3_heap hn]
theorem heap2 {W : World} {b d q : Nat} {x y z x' y' z' : Value} (hn : q ≠ b) (hd : q ≠ d) : ((((((W.setCell ⟨b, 0, none⟩ x).setCell ⟨b, 1, none⟩ y).setCell ⟨b, 2, none⟩ z).setCell ⟨d, 0, none⟩ x').setCell ⟨d, 1, none⟩ y').setCell ⟨d, 2, none⟩ z').heap[q]? = W.heap[q]? := by
  have e : ((((((W.setCell ⟨b, 0, none⟩ x).setCell ⟨b, 1, none⟩ y).setCell ⟨b, 2, none⟩ z).setCell ⟨d, 0, none⟩ x').setCell ⟨d, 1, none⟩ y').setCell ⟨d, 2, none⟩ z') = set3 (set3 W b 0 x y z) d 0 x' y' z' := rfl
  rw [e, set3_heap hd, set3_heap hn]

/-- The document's Apply, whenever it is called. -/
theorem applyR_call {W wn : World} {s : Sb} {vs : Value} {x z : Bool × Int} {k zk : Fo} {a : Value} (hb0 : Below W.heap.size W wn) (hV : SubIn W s vs) (hs : ∀ p ∈ s, okT p.2) (hS : SIn W k a) (hok : okT (x, k)) (hnar : narT (x, k)) (hz : (z, zk) = subT (bnd s) (x, k)) (w' : World) (hb : Below wn.heap.size wn w') :
    Calls Try.prog 21 #[vs, .agg #[.bool x.1, .int .i64 x.2, a]] w' fun e w'' => ∃ (x1 : Option Addr) (x2 x3 m : Nat), m = w'.heap.size ∧ e = .returned (.agg #[.bool z.1, .int .i64 z.2, .slice x1 x2 x3]) ∧ SB (fun q => q < wn.heap.size ∨ (m ≤ q ∧ q < w''.heap.size)) w'' zk (.slice x1 x2 x3) ∧ Below w'.heap.size w' w'' := by
  refine (applyR_any x k s vs W a w' (below_step hb0 hb) hV hs hS hok hnar).mono ?_
  rintro e w'' ⟨x1, x2, x3, rfl, hSB, hb2⟩
  rw [← hz] at hSB ⊢
  have h0 := hb0.size
  exact ⟨x1, x2, x3, _, rfl, rfl, hSB.wide (fun q hq => by rcases hq with h | h; exact .inl (by omega); exact .inr h), hb2⟩

end Go.Proofs.Ytfnkjadfepoicac
