/- RepV Sub RepA RepR BM ExtP -/
import Derived.Test.YtiilckjnggeeoadG06
namespace Go.Proofs.Ytiilckjnggeeoad
open Go.RowKit Go.Deep Go.ChangeShapes Go.WideShapes
attribute [local go_sem ↓] Go.wp_at_zero Go.wp_at_succ
def InvV (_ : World) : Prop := True
theorem invV_below {w w' : World} (_ : InvV w) (_ : Below w.heap.size w w') : InvV w' := trivial
theorem cloV_any (n : Int) (w : World) (_ : InvV w) : Calls Try.prog 87 #[.int .i64 n] w fun e w' => ∃ a, e = .returned (.agg #[.bool (vr n).1.1, .int .i64 (vr n).1.2, a]) ∧ OwnV w' w.heap.size w'.heap.size (vr n).2 a ∧ Below w.heap.size w w' := variable_any n w
def RepVSaid (x : Bool × Int) (k : Fo) : Prop := ∀ (a : Value) (w : World), InvV w → SIn w k a → Fo.len k ≤ 1000 → Fo.narrow k →
    Calls Try.prog 84 #[.agg #[.bool x.1, .int .i64 x.2, a], .func (.func 87) #[] #[]] w fun e w' => ∃ a', e = .returned (.agg #[.bool (subT vr (x, k)).1.1, .int .i64 (subT vr (x, k)).1.2, a']) ∧ OwnV w' w.heap.size w'.heap.size (subT vr (x, k)).2 a' ∧ Below w.heap.size w w'
set_option maxRecDepth 100000 in
set_option maxHeartbeats 1000000 in
theorem repV_any (x : Bool × Int) (k : Fo) : RepVSaid x k := by
  refine Fo.ind1 (p := RepVSaid ) ?_ x k
  clear x k
  intro x k ih a w hInv hS hlen hnar
  obtain ⟨v, n⟩ := x
  obtain ⟨ad, c, b, o, rfl, had, hlc, hcm, hF⟩ := hS
  have Hl := hide (Fo.len_list k)
  have HI := hide ih
  have HF := hide hF
  have Hnar := hide hnar
  have HInv := hide hInv
  clear ih hF hnar hInv
  unfold maxLen at hcm
  cases v
  · have Hres : Hid (subT vr ((false, n), k) = ((false, n), subF vr k)) := rfl
    by_cases h0 : Fo.len k = 0
    · have h0' : ¬ (0 : Int) < (Fo.len k : Int) := by omega
      have Hk := hide (len_zero h0)
      clear h0
      go_enter Try.func84, Try.ntmps84
      go_wp2_with fail
      go_loopw [29] (fun i wr => i = .int .i64 0 ∧ wr = ((w.alloc (.cells #[.bool false, .int .i64 n, .slice ad (Fo.len k) c] 33)).alloc (.cells #[.bool false, .int .i64 0, .slice none 0 0] 33)).alloc (.cells #[.bool false, .int .i64 n, .slice none 0 0] 33)) (fun _ _ => 0)
      case atStart => exact ⟨rfl, rfl⟩
      case round =>
        obtain ⟨rfl, rfl⟩ := hrel
        go_wp2_with fail
        refine bodyPost_ret (v := .agg #[.bool false, .int .i64 n, .slice none 0 0]) (by simp [results, Try.results84, go_sem]) rfl ⟨.slice none 0 0, ?_, ?_, ?_⟩
        · rw [Hres.out]
        · rw [Hres.out]; exact .inl ⟨by rw [Hk.out]; rfl, rfl⟩
        · exact ((below_alloc _ _).alloc (by simp) _).alloc (by simp; omega) _
    · have h0' : (0 : Int) < (Fo.len k : Int) := by omega
      have ha : ad = some ⟨b, o, none⟩ := had (by omega)
      subst ha
      have Hpos : Hid (0 < Fo.len k) := by unfold Hid; omega
      have hdec : decide (0 < Fo.len k) = true := by simp; omega
      clear h0 had
      obtain ⟨i26, hi, hz0, hz1, hz2⟩ := info_parts Try.info33
      have hmk := fun w : World => run_make (P := Try.prog) w 31 33 i26 _ Try.underlying31 hi hz0 .i64 .i64 (Fo.len k : Int) (Fo.len k : Int) (by omega) (by omega) (by rw [hz2]; omega) (by omega)
      rw [hz1] at hmk
      simp only [Int.toNat_natCast] at hmk
      have Hl2 := hide (subF_len vr k)
      go_enter Try.func84, Try.ntmps84
      go_wp2_with fail
      clear hmk hi hz0 hz1 hz2
      generalize hW2 : ((w.alloc (.cells #[.bool false, .int .i64 n, .slice (some ⟨b, o, none⟩) (Fo.len k) c] 33)).alloc (.cells #[.bool false, .int .i64 0, .slice none 0 0] 33)).alloc (.cells #[.bool false, .int .i64 n, .slice (some ⟨w.heap.size + 1 + 1 + 1, 0, none⟩) (Fo.len k) (Fo.len k)] 33) = W2
      have hs2 : W2.heap.size = w.heap.size + 1 + 1 + 1 := by rw [← hW2]; simp
      have HB2 : Hid (Below w.heap.size w W2) := by rw [← hW2]; exact ((below_alloc _ _).alloc (by simp) _).alloc (by simp; omega) _
      have r0 : W2.cell? ⟨w.heap.size + 1, 0, none⟩ = some (.bool false) := by rw [← hW2, World.cell?_alloc_lt _ _ _ (by show w.heap.size + 1 < _; rw [size2]; omega)]; exact new_cell (World.size_alloc _ _)
      have r1 : W2.cell? ⟨w.heap.size + 1, 1, none⟩ = some (.int .i64 0) := by rw [← hW2, World.cell?_alloc_lt _ _ _ (by show w.heap.size + 1 < _; rw [size2]; omega)]; exact new_cell (World.size_alloc _ _)
      have r2 : W2.cell? ⟨w.heap.size + 1, 2, none⟩ = some (.slice none 0 0) := by rw [← hW2, World.cell?_alloc_lt _ _ _ (by show w.heap.size + 1 < _; rw [size2]; omega)]; exact new_cell (World.size_alloc _ _)
      have rf : ∀ i, W2.frozen? ⟨w.heap.size + 1, i, none⟩ = false := fun i => by rw [← hW2, (below_alloc _ _).frozen (by show w.heap.size + 1 < _; rw [size2]; omega)]; exact new_frozen (World.size_alloc _ _)
      have q0 : W2.cell? ⟨w.heap.size + 1 + 1, 0, none⟩ = some (.bool false) := by rw [← hW2]; exact new_cell (size2 _ _ _)
      have q1 : W2.cell? ⟨w.heap.size + 1 + 1, 1, none⟩ = some (.int .i64 n) := by rw [← hW2]; exact new_cell (size2 _ _ _)
      have q2 : W2.cell? ⟨w.heap.size + 1 + 1, 2, none⟩ = some (.slice (some ⟨w.heap.size + 1 + 1 + 1, 0, none⟩) (Fo.len k) (Fo.len k)) := by rw [← hW2]; exact new_cell (size2 _ _ _)
      have HQ := hide (And.intro q0 (And.intro q1 (And.intro q2 (And.intro r0 (And.intro r1 (And.intro r2 rf))))))
      have H0 : Hid (RepRel (w.heap.size + 1 + 1 + 1) W2 (subF vr k) 0 (W2.alloc (.cells (madeCells #[.bool false, .int .i64 0, .slice none 0 0] (Fo.len k * 3)) 33))) := by
        have := rep_start W2 (subF vr k) #[.bool false, .int .i64 0, .slice none 0 0]
        rw [Hl2.out, hs2] at this
        exact this
      have Hs2 := hide hs2
      clear q0 q1 q2 r0 r1 r2 rf hs2 hW2
      go_loopw [29] (fun i wr => ∃ j : Nat, j ≤ Fo.len k ∧ i = .int .i64 j ∧ RepRel (w.heap.size + 1 + 1 + 1) W2 (subF vr k) j wr) (fun i _ => Fo.len k - (intOf i).toNat)
      case atStart => exact ⟨0, Nat.zero_le _, rfl, H0.out⟩
      case round =>
        obtain ⟨j, hj, rfl, hR⟩ := hrel
        have HR := hide hR
        obtain ⟨hB, hT, -, hsz⟩ := hR
        have HB := hide hB
        have hs2 := Hs2.out
        have hBw : Below w.heap.size w wr := HB2.out.trans (hB.mono (by omega))
        obtain ⟨q0, q1, q2, r0, r1, r2, rf⟩ := HQ.out
        by_cases hlt : j < Fo.len k
        · have hlt' : (j : Int) < (Fo.len k : Int) := by omega
          obtain ⟨⟨⟨yv, yn⟩, yk⟩, hy⟩ : ∃ y, k.list[j]? = some y := ⟨k.list[j]'(by rw [Hl.out]; exact hlt), by simp⟩
          obtain ⟨c0, c1, yv', c2, hSy⟩ := (HF.out.below hBw).at hy
          have HS := hide hSy
          obtain ⟨ya, yc, yb, yo, rfl, -, -, -, -⟩ := hSy
          have Hny := hide (narrow_at Hnar.out hy)
          have Hy := hide hy
          have Hy2 : Hid ((subF vr k).list[j]? = some (subT vr ((yv, yn), yk))) := by rw [Hid, subF_list, List.getElem?_map, hy]; rfl
          have hT' : There wr (w.heap.size + 1 + 1 + 1) (Fo.len k * 3) := by rw [← Hl2.out]; exact hT
          obtain ⟨⟨t0, e0⟩, f0⟩ := hT' (j * 3) (by omega)
          obtain ⟨⟨t1, e1⟩, f1⟩ := hT' (j * 3 + 1) (by omega)
          obtain ⟨⟨t2, e2⟩, f2⟩ := hT' (j * 3 + 2) (by omega)
          have p2 : wr.cell? ⟨w.heap.size + 1 + 1, 2, none⟩ = some (.slice (some ⟨w.heap.size + 1 + 1 + 1, 0, none⟩) (Fo.len k) (Fo.len k)) := (HB.out.cell (by show w.heap.size + 1 + 1 < _; omega)).trans q2
          clear hy hT hT' hB q0 q1 q2 r0 r1 r2 rf
          go_upto_region 9 with fail
          generalize hwa : wr.alloc (.cells #[.bool yv, .int .i64 yn, .slice ya (Fo.len yk) yc] 33) = wa
          have a0 : wa.cell? ⟨wr.heap.size, 0, none⟩ = some (.bool yv) := by rw [← hwa]; simp
          have a1 : wa.cell? ⟨wr.heap.size, 1, none⟩ = some (.int .i64 yn) := by rw [← hwa]; simp
          have a2 : wa.cell? ⟨wr.heap.size, 2, none⟩ = some (.slice ya (Fo.len yk) yc) := by rw [← hwa]; simp
          have hba : Below wr.heap.size wr wa := by rw [← hwa]; exact below_alloc _ _
          have hsa : wa.heap.size = wr.heap.size + 1 := by rw [← hwa]; simp
          have Hwa : Hid (wr.alloc (.cells #[.bool yv, .int .i64 yn, .slice ya (Fo.len yk) yc] 33) = wa) := hwa
          have p2' := grow_cell hba _ _ p2
          have e0' := grow_cell hba _ _ e0
          have e1' := grow_cell hba _ _ e1
          have e2' := grow_cell hba _ _ e2
          have hlt3 : w.heap.size + 1 + 1 + 1 < wr.heap.size := by omega
          have g0' : wa.frozen? ⟨w.heap.size + 1 + 1 + 1, j * 3, none⟩ = false := (hba.frozen hlt3).trans f0
          have g1' : wa.frozen? ⟨w.heap.size + 1 + 1 + 1, j * 3 + 1, none⟩ = false := (hba.frozen hlt3).trans f1
          have g2' : wa.frozen? ⟨w.heap.size + 1 + 1 + 1, j * 3 + 2, none⟩ = false := (hba.frozen hlt3).trans f2
          have HIa : Hid (InvV wa.drew) := invV_below (invV_below HInv.out (below_step hBw hba)) (Below.refl _ _).drew
          have HSa : Hid (SIn wa.drew yk (.slice ya (Fo.len yk) yc)) := (HS.out.below hba).drew
          obtain ⟨⟨⟨zv, zn⟩, zk⟩, hz⟩ : ∃ z, z = subT vr ((yv, yn), yk) := ⟨_, rfl⟩
          have Hz := hide hz
          have hlt4 : w.heap.size + 1 + 1 + 1 < wa.heap.size := by omega
          have hcall : Calls Try.prog 84 #[.agg #[.bool yv, .int .i64 yn, .slice ya (Fo.len yk) yc], .func (.func 87) #[] #[]] wa.drew fun e w' => ∃ (a1 : Option Addr) (a2 a3 : Nat), e = .returned (.agg #[.bool zv, .int .i64 zn, .slice a1 a2 a3]) ∧ OwnV w' wa.heap.size w'.heap.size zk (.slice a1 a2 a3) ∧ Below wa.heap.size wa w' := by
            have h := HI.out ((yv, yn), yk) (List.mem_of_getElem? Hy.out) _ wa.drew HIa.out HSa.out Hny.out.1 Hny.out.2
            refine h.mono ?_
            rintro e w2 ⟨a', rfl, hO, hb⟩
            rw [← Hz.out] at hO
            obtain ⟨z1, z2, z3, rfl⟩ := slice_of_sin hO.toS
            exact ⟨z1, z2, z3, by rw [← Hz.out], hO, ((Below.refl _ _).drew).trans hb⟩
          have Hcall := hide hcall
          clear hwa hz hcall e0 e1 e2 f0 f1 f2 p2 c0 c1 c2 hBw hba
          go_region_with (first
            | (go_at_call 84; refine Hcall.out.mono ?_; rintro e w2 ⟨z1, z2, z3, rfl, hO2, hb2⟩; have p2'' := grow_cell hb2 _ _ p2'; have e0'' := grow_cell hb2 _ _ e0'; have e1'' := grow_cell hb2 _ _ e1'; have e2'' := grow_cell hb2 _ _ e2'; have g0'' := (hb2.frozen hlt4).trans g0'; have g1'' := (hb2.frozen hlt4).trans g1'; have g2'' := (hb2.frozen hlt4).trans g2'))
          all_goals
            have Hstep : Hid (RepRel (w.heap.size + 1 + 1 + 1) W2 (subF vr k) (j + 1) (set3 w2 (w.heap.size + 1 + 1 + 1) (j * 3) (.bool zv) (.int .i64 zn) (.slice z1 z2 z3))) := rep_step (ob := .cells #[.bool yv, .int .i64 yn, .slice ya (Fo.len yk) yc] 33) HR.out (by rw [Hl2.out]; exact hlt) (by rw [Hy2.out, ← Hz.out]) (by rw [Hwa.out, ← hsa]; exact hb2) (by rw [← hsa]; exact hO2)
            clear hO2 hb2 p2'' p2' e0' e1' e2' g0' g1' g2'
            go_wp2_with fail
            go_roundw
            case rel => exact ⟨j + 1, by omega, by go_num, Hstep.out⟩
            case measure => simp [intOf]; omega
        · have hje : j = Fo.len k := by omega
          subst hje
          have p0 : wr.cell? ⟨w.heap.size + 1 + 1, 0, none⟩ = some (.bool false) := (HB.out.cell (by show w.heap.size + 1 + 1 < _; omega)).trans q0
          have p1 : wr.cell? ⟨w.heap.size + 1 + 1, 1, none⟩ = some (.int .i64 n) := (HB.out.cell (by show w.heap.size + 1 + 1 < _; omega)).trans q1
          have p2 : wr.cell? ⟨w.heap.size + 1 + 1, 2, none⟩ = some (.slice (some ⟨w.heap.size + 1 + 1 + 1, 0, none⟩) (Fo.len k) (Fo.len k)) := (HB.out.cell (by show w.heap.size + 1 + 1 < _; omega)).trans q2
          have s0 : wr.cell? ⟨w.heap.size + 1, 0, none⟩ = some (.bool false) := (HB.out.cell (by show w.heap.size + 1 < _; omega)).trans r0
          have s1 : wr.cell? ⟨w.heap.size + 1, 1, none⟩ = some (.int .i64 0) := (HB.out.cell (by show w.heap.size + 1 < _; omega)).trans r1
          have s2 : wr.cell? ⟨w.heap.size + 1, 2, none⟩ = some (.slice none 0 0) := (HB.out.cell (by show w.heap.size + 1 < _; omega)).trans r2
          have sf : ∀ i, wr.frozen? ⟨w.heap.size + 1, i, none⟩ = false := fun i => (HB.out.frozen (by show w.heap.size + 1 < _; omega)).trans (rf i)
          clear q0 q1 q2 r0 r1 r2 rf hT hB
          go_wp2_with fail
          refine bodyPost_ret (v := .agg #[.bool false, .int .i64 n, .slice (some ⟨w.heap.size + 1 + 1 + 1, 0, none⟩) (Fo.len k) (Fo.len k)]) (by simp [results, Try.results84, go_sem, s0, s1, s2]) rfl ⟨.slice (some ⟨w.heap.size + 1 + 1 + 1, 0, none⟩) (Fo.len k) (Fo.len k), ?_, ?_, set3_below (o := 0) hBw (by omega)⟩
          · rw [Hres.out]
          · rw [Hres.out]
            have hRe : RepRel (w.heap.size + 1 + 1 + 1) W2 (subF vr k) (Fo.len (subF vr k)) wr := by rw [Hl2.out]; exact HR.out
            have := rep_end (lo := w.heap.size) (w' := set3 wr (w.heap.size + 1) 0 (.bool false) (.int .i64 n) (.slice (some ⟨w.heap.size + 1 + 1 + 1, 0, none⟩) (Fo.len k) (Fo.len k))) hRe (by rw [Hl2.out]; exact Hpos.out) (by rw [Hl2.out]; exact hlen) (by omega) set3_size (fun q i hq => ⟨set3_other (.inl (by omega)), set3_frozen⟩)
            rw [Hl2.out] at this
            exact this
  · have Hres : Hid (subT vr ((true, n), k) = vr n) := rfl
    obtain ⟨⟨⟨zv, zn⟩, zk⟩, hz⟩ : ∃ z, z = vr n := ⟨_, rfl⟩
    have Hz := hide hz
    clear hz
    go_enter Try.func84, Try.ntmps84
    go_wp2_with fail
    generalize hW2 : (w.alloc (.cells #[.bool true, .int .i64 n, .slice ad (Fo.len k) c] 33)).alloc (.cells #[.bool false, .int .i64 0, .slice none 0 0] 33) = W2
    have hs2 : W2.heap.size = w.heap.size + 1 + 1 := by rw [← hW2]; simp
    have hB2 : Below w.heap.size w W2 := by rw [← hW2]; exact (below_alloc _ _).alloc (by simp) _
    have r0 : W2.cell? ⟨w.heap.size + 1, 0, none⟩ = some (.bool false) := by rw [← hW2]; exact new_cell (World.size_alloc _ _)
    have r1 : W2.cell? ⟨w.heap.size + 1, 1, none⟩ = some (.int .i64 0) := by rw [← hW2]; exact new_cell (World.size_alloc _ _)
    have r2 : W2.cell? ⟨w.heap.size + 1, 2, none⟩ = some (.slice none 0 0) := by rw [← hW2]; exact new_cell (World.size_alloc _ _)
    have rf : ∀ i, W2.frozen? ⟨w.heap.size + 1, i, none⟩ = false := fun i => by rw [← hW2]; exact new_frozen (World.size_alloc _ _)
    clear hW2
    refine (cloV_any n W2 (invV_below HInv.out hB2)).mono ?_
    rintro e w2 ⟨a', rfl, hO, hb⟩
    rw [← Hz.out] at hO ⊢
    obtain ⟨z1, z2, z3, rfl⟩ := slice_of_sin hO.toS
    have s0 := grow_cell hb _ _ r0
    have s1 := grow_cell hb _ _ r1
    have s2 := grow_cell hb _ _ r2
    have sf : ∀ i, w2.frozen? ⟨w.heap.size + 1, i, none⟩ = false := fun i => (hb.frozen (by show w.heap.size + 1 < _; omega)).trans (rf i)
    have HO := hide hO
    have hB3 := below_step hB2 hb
    clear hO r0 r1 r2 rf hb
    go_wp2_with fail
    refine bodyPost_ret (v := .agg #[.bool zv, .int .i64 zn, .slice z1 z2 z3]) (by simp [results, Try.results84, go_sem, s0, s1, s2]) rfl ⟨.slice z1 z2 z3, ?_, ?_, set3_below (o := 0) hB3 (by omega)⟩
    · rw [Hres.out, ← Hz.out]
    · rw [Hres.out, ← Hz.out]
      have h2 : OwnV (set3 w2 (w.heap.size + 1) 0 (.bool zv) (.int .i64 zn) (.slice z1 z2 z3)) W2.heap.size w2.heap.size zk (.slice z1 z2 z3) := HO.out.frame (fun q i q1 q2 => ⟨set3_other (.inl (by omega)), set3_frozen⟩)
      have h3 := h2.mono (lo' := w.heap.size) (hi' := (set3 w2 (w.heap.size + 1) 0 (.bool zv) (.int .i64 zn) (.slice z1 z2 z3)).heap.size) (by omega) (by rw [set3_size]; exact Nat.le_refl _)
      exact h3
set_option maxRecDepth 100000 in
set_option maxHeartbeats 400000 in
theorem ownB_any (x : Bool × Int) (k : Fo) (a : Value) (w : World) (hS : SIn w k a) (hlen : Fo.len k ≤ 1000) (hnar : Fo.narrow k) :
    Calls Try.prog 82 #[.agg #[.bool x.1, .int .i64 x.2, a]] w fun e w' => ∃ a', e = .returned (.agg #[.bool (subT vr (x, k)).1.1, .int .i64 (subT vr (x, k)).1.2, a']) ∧ OwnV w' w.heap.size w'.heap.size (subT vr (x, k)).2 a' ∧ Below w.heap.size w w' := by
  obtain ⟨v, n⟩ := x
  have HS := hide hS
  obtain ⟨ad, c, b, o, rfl, -, -, -, -⟩ := hS
  obtain ⟨⟨⟨zv, zn⟩, zk⟩, hz⟩ : ∃ z, z = subT vr ((v, n), k) := ⟨_, rfl⟩
  have Hz := hide hz
  clear hz
  go_enter Try.func82, Try.ntmps82
  go_wp2_with fail
  generalize hW2 : (w.alloc (.cells #[.bool v, .int .i64 n, .slice ad (Fo.len k) c] 33)).alloc (.cells #[.bool false, .int .i64 0, .slice none 0 0] 33) = W2
  have hs2 : W2.heap.size = w.heap.size + 1 + 1 := by rw [← hW2]; simp
  have hB2 : Below w.heap.size w W2 := by rw [← hW2]; exact (below_alloc _ _).alloc (by simp) _
  have r0 : W2.cell? ⟨w.heap.size + 1, 0, none⟩ = some (.bool false) := by rw [← hW2]; exact new_cell (World.size_alloc _ _)
  have r1 : W2.cell? ⟨w.heap.size + 1, 1, none⟩ = some (.int .i64 0) := by rw [← hW2]; exact new_cell (World.size_alloc _ _)
  have r2 : W2.cell? ⟨w.heap.size + 1, 2, none⟩ = some (.slice none 0 0) := by rw [← hW2]; exact new_cell (World.size_alloc _ _)
  have rf : ∀ i, W2.frozen? ⟨w.heap.size + 1, i, none⟩ = false := fun i => by rw [← hW2]; exact new_frozen (World.size_alloc _ _)
  clear hW2
  refine (repV_any (v, n) k _ W2 trivial (HS.out.below hB2) hlen hnar).mono ?_
  rintro e w2 ⟨a', rfl, hO, hb⟩
  rw [← Hz.out] at hO ⊢
  obtain ⟨z1, z2, z3, rfl⟩ := slice_of_sin hO.toS
  have s0 := grow_cell hb _ _ r0
  have s1 := grow_cell hb _ _ r1
  have s2 := grow_cell hb _ _ r2
  have sf : ∀ i, w2.frozen? ⟨w.heap.size + 1, i, none⟩ = false := fun i => (hb.frozen (by show w.heap.size + 1 < _; omega)).trans (rf i)
  have HO := hide hO
  have hB3 := below_step hB2 hb
  clear hO r0 r1 r2 rf hb
  go_wp2_with fail
  refine bodyPost_ret (v := .agg #[.bool zv, .int .i64 zn, .slice z1 z2 z3]) (by simp [results, Try.results82, go_sem, s0, s1, s2]) rfl ⟨.slice z1 z2 z3, by rw [← Hz.out], ?_, set3_below (o := 0) hB3 (by omega)⟩
  rw [← Hz.out]
  have h2 : OwnV (set3 w2 (w.heap.size + 1) 0 (.bool zv) (.int .i64 zn) (.slice z1 z2 z3)) W2.heap.size w2.heap.size zk (.slice z1 z2 z3) := HO.out.frame (fun q i q1 q2 => ⟨set3_other (.inl (by omega)), set3_frozen⟩)
  have h3 := h2.mono (lo' := w.heap.size) (hi' := (set3 w2 (w.heap.size + 1) 0 (.bool zv) (.int .i64 zn) (.slice z1 z2 z3)).heap.size) (by omega) (by rw [set3_size]; exact Nat.le_refl _)
  exact h3
end Go.Proofs.Ytiilckjnggeeoad

namespace Go.Proofs.Ytiilckjnggeeoad
open Go.RowKit Go.Deep Go.ChangeShapes Go.WideShapes
attribute [local go_sem ↓] Go.wp_at_zero Go.wp_at_succ
def PIn (w : World) : Sb → Nat → Nat → Prop
  | [], _, _ => True
  | p :: s, b, o => w.cell? ⟨b, o, none⟩ = some (.int .i64 p.1) ∧ w.cell? ⟨b, o + 1, none⟩ = some (.bool p.2.1.1) ∧ w.cell? ⟨b, o + 2, none⟩ = some (.int .i64 p.2.1.2) ∧
      (∃ v, w.cell? ⟨b, o + 3, none⟩ = some v ∧ SIn w p.2.2 v) ∧ PIn w s b (o + 4)
def SubIn (w : World) (s : Sb) (v : Value) : Prop :=
  ∃ (a : Option Addr) (c b o : Nat), v = .slice a s.length c ∧ (0 < s.length → a = some ⟨b, o, none⟩) ∧ s.length ≤ c ∧ c ≤ maxLen ∧ PIn w s b o
theorem PIn.later {w w' : World} (hc : ∀ a v, w.cell? a = some v → w'.cell? a = some v) : ∀ {s : Sb} {b o : Nat}, PIn w s b o → PIn w' s b o
  | [], _, _, _ => trivial
  | _ :: _, _, _, ⟨h0, h1, h2, ⟨v, h3, h4⟩, h5⟩ => ⟨hc _ _ h0, hc _ _ h1, hc _ _ h2, ⟨v, hc _ _ h3, h4.later hc⟩, PIn.later hc h5⟩
theorem PIn.below {w w' : World} (hb : Below w.heap.size w w') {s : Sb} {b o : Nat} (h : PIn w s b o) : PIn w' s b o := h.later (grow_cell hb)
theorem SubIn.later {w w' : World} (hc : ∀ a v, w.cell? a = some v → w'.cell? a = some v) {s : Sb} {v : Value} (h : SubIn w s v) : SubIn w' s v := by
  obtain ⟨a, c, b, o, h1, h2, h3, h4, h5⟩ := h
  exact ⟨a, c, b, o, h1, h2, h3, h4, h5.later hc⟩
theorem SubIn.below {w w' : World} (hb : Below w.heap.size w w') {s : Sb} {v : Value} (h : SubIn w s v) : SubIn w' s v := h.later (grow_cell hb)
theorem SubIn.alloc {w : World} {s : Sb} {v : Value} (h : SubIn w s v) (ob : Obj) : SubIn (w.alloc ob) s v := h.below (below_alloc w ob)
theorem SubIn.drew {w : World} {s : Sb} {v : Value} (h : SubIn w s v) : SubIn w.drew s v := h.below (Below.refl _ _).drew
theorem SubIn.nil (w : World) : SubIn w [] (.slice none 0 0) := ⟨none, 0, 0, 0, rfl, fun h => by simp at h, Nat.le_refl _, Nat.zero_le _, trivial⟩
theorem slice_of_sub {w : World} {s : Sb} {v : Value} (h : SubIn w s v) : ∃ z1 z3, v = .slice z1 s.length z3 := by
  obtain ⟨a, c, _, _, rfl, _⟩ := h
  exact ⟨a, c, rfl⟩
theorem PIn.at {w : World} : ∀ {s : Sb} {b o i : Nat} {p : Int × Tm}, PIn w s b o → s[i]? = some p →
    w.cell? ⟨b, o + i * 4, none⟩ = some (.int .i64 p.1) ∧ w.cell? ⟨b, o + i * 4 + 1, none⟩ = some (.bool p.2.1.1) ∧ w.cell? ⟨b, o + i * 4 + 2, none⟩ = some (.int .i64 p.2.1.2) ∧ ∃ v, w.cell? ⟨b, o + i * 4 + 3, none⟩ = some v ∧ SIn w p.2.2 v
  | [], _, _, _, _, _, h => by simp at h
  | q :: s, b, o, 0, p, hP, h => by
    simp only [List.getElem?_cons_zero, Option.some.injEq] at h
    subst h
    obtain ⟨h0, h1, h2, h3, _⟩ := hP
    simpa using ⟨h0, h1, h2, h3⟩
  | q :: s, b, o, i + 1, p, hP, h => by
    have := PIn.at hP.2.2.2.2 (i := i) (by simpa using h)
    have e : o + 4 + i * 4 = o + (i + 1) * 4 := by omega
    rwa [e] at this
theorem look_first {n : Int} {t : Tm} : ∀ {s : Sb} {j : Nat}, (∀ q p, q < j → s[q]? = some p → p.1 ≠ n) → s[j]? = some (n, t) → look s n = some t
  | [], _, _, h => by simp at h
  | p :: s, 0, _, h => by
    simp only [List.getElem?_cons_zero, Option.some.injEq] at h
    subst h
    simp [look]
  | p :: s, j + 1, hq, h => by
    have h0 := hq 0 p (by omega) (by simp)
    rw [look, if_neg h0]
    exact look_first (j := j) (fun q r hqr hr => hq (q + 1) r (by omega) (by simpa using hr)) (by simpa using h)
theorem look_all {n : Int} {s : Sb} (h : ∀ q p, q < s.length → s[q]? = some p → p.1 ≠ n) : look s n = none := by
  refine look_none fun p hp => ?_
  obtain ⟨i, hi, e⟩ := List.mem_iff_getElem.1 hp
  exact h i p hi (by rw [List.getElem?_eq_getElem hi, e])
def Found (s : Sb) (n i : Int) : Prop := (i = -1 ∧ look s n = none) ∨ ∃ (j : Nat) (t : Tm), i = j ∧ s[j]? = some (n, t) ∧ look s n = some t
set_option maxRecDepth 100000 in
set_option maxHeartbeats 400000 in
theorem findC_any (n m : Int) (v : Bool) (k : Int) (a : Option Addr) (l c : Nat) (nb : Nat) (w : World) (hn : w.cell? ⟨nb, 0, none⟩ = some (.int .i64 n)) :
    Calls Try.prog 102 #[.agg #[.int .i64 m, .bool v, .int .i64 k, .slice a l c], .pointer (some ⟨nb, 0, none⟩)] w fun e w' => e = .returned (.bool (m == n)) ∧ Below w.heap.size w w' := by
  have hnb : nb < w.heap.size := World.block_lt_of_cell? _ _ hn
  have hn' : (w.alloc (.cells #[.int .i64 m, .bool v, .int .i64 k, .slice a l c] 92)).cell? ⟨nb, 0, none⟩ = some (.int .i64 n) := by rw [World.cell?_alloc_lt _ _ _ hnb]; exact hn
  go_enter Try.func102, Try.ntmps102
  go_wp2_with fail
  go_ret
  exact ⟨rfl, below_alloc _ _⟩
set_option maxRecDepth 100000 in
set_option maxHeartbeats 1000000 in
theorem indexFunc_any (s : Sb) (n : Int) (vs : Value) (nb : Nat) (w : World) (hS : SubIn w s vs) (hn : w.cell? ⟨nb, 0, none⟩ = some (.int .i64 n)) :
    Calls Try.prog 101 #[vs, .func (.func 102) #[] #[.pointer (some ⟨nb, 0, none⟩)]] w fun e w' => ∃ i, e = .returned (.int .i64 i) ∧ Found s n i ∧ Below w.heap.size w w' := by
  obtain ⟨ad, c, b, o, rfl, had, hlc, hcm, hP⟩ := hS
  unfold maxLen at hcm
  have HP := hide hP
  have Hn := hide hn
  clear hP hn
  go_enter Try.func101, Try.ntmps101
  go_wp2_with fail
  go_loopw [8] (fun i wr => ∃ j : Nat, j ≤ s.length ∧ i = .int .i64 j ∧ (∀ q p, q < j → s[q]? = some p → p.1 ≠ n) ∧ Below w.heap.size w wr) (fun i _ => s.length - (intOf i).toNat)
  case atStart => exact ⟨0, Nat.zero_le _, rfl, fun q _ hq => by omega, Below.refl _ _⟩
  case round =>
    obtain ⟨j, hj, rfl, hno, hBr⟩ := hrel
    have Hno := hide hno
    clear hno
    by_cases hlt : j < s.length
    · have hlt' : (j : Int) < (s.length : Int) := by omega
      obtain ⟨⟨m, ⟨yv, yn⟩, yk⟩, hy⟩ : ∃ y, s[j]? = some y := ⟨s[j], by simp [hlt]⟩
      obtain ⟨c0, c1, c2, yv', c3, hSy⟩ := (HP.out.below hBr).at hy
      obtain ⟨ya, yc, yb, yo, rfl, -, -, -, -⟩ := hSy
      have ha : ad = some ⟨b, o, none⟩ := had (by omega)
      subst ha
      have Hy := hide hy
      clear hy had
      go_wp2_with fail
      refine (findC_any n m yv yn ya (Fo.len yk) yc nb wr (grow_cell hBr _ _ Hn.out)).mono ?_
      rintro e w2 ⟨rfl, hb2⟩
      have hB2 := below_step hBr hb2
      simp only
      by_cases hmn : m = n
      · have hmb : (m == n) = true := by simp [hmn]
        have Hf : Hid (Found s n (j : Int)) := .inr ⟨j, _, rfl, by rw [Hy.out, hmn], look_first Hno.out (by rw [Hy.out, hmn])⟩
        rw [hmb]
        clear hmn hb2
        go_wp2_with fail
        go_ret
        exact ⟨_, rfl, Hf.out, hB2⟩
      · have hmb : (m == n) = false := by simp [hmn]
        have Hno2 : Hid (∀ q p, q < j + 1 → s[q]? = some p → p.1 ≠ n) := fun q p hq hp => by
          by_cases e : q = j
          · subst e; rw [Hy.out] at hp; cases hp; exact hmn
          · exact Hno.out q p (by omega) hp
        rw [hmb]
        clear hmn hb2
        go_wp2_with fail
        go_roundw
        case rel => exact ⟨j + 1, by omega, by go_num, Hno2.out, hB2⟩
        case measure => simp [intOf]; omega
    · have Hf : Hid (Found s n (-1)) := .inl ⟨rfl, look_all (fun q p hq hp => Hno.out q p (by omega) hp)⟩
      clear had
      go_wp2_with fail
      go_ret
      exact ⟨_, rfl, Hf.out, hBr⟩
set_option maxRecDepth 100000 in
set_option maxHeartbeats 400000 in
theorem findB_any (s : Sb) (n : Int) (vs : Value) (w : World) (hS : SubIn w s vs) :
    Calls Try.prog 86 #[vs, .int .i64 n] w fun e w' => ∃ i, e = .returned (.int .i64 i) ∧ Found s n i ∧ Below w.heap.size w w' := by
  have HS := hide hS
  obtain ⟨ad, c, b, o, rfl, -, -, -, -⟩ := hS
  go_enter Try.func86, Try.ntmps86
  go_wp2_with fail
  refine (indexFunc_any s n _ w.heap.size _ (HS.out.alloc _) (by simp)).mono ?_
  rintro e w2 ⟨i, rfl, hf, hb⟩
  have Hf := hide hf
  have hB := below_box hb
  clear hf hb
  go_wp2_with fail
  go_ret
  exact ⟨_, rfl, Hf.out, hB⟩
end Go.Proofs.Ytiilckjnggeeoad

namespace Go.Proofs.Ytiilckjnggeeoad
open Go.RowKit Go.Deep Go.ChangeShapes Go.WideShapes
attribute [local go_sem ↓] Go.wp_at_zero Go.wp_at_succ
def InvA (s : Sb) (vs : Value) (sb : Nat) (w : World) : Prop := w.cell? ⟨sb, 0, none⟩ = some vs ∧ SubIn w s vs ∧ ∀ p ∈ s, narT p.2 ∧ okT p.2
theorem invA_below (s : Sb) (vs : Value) (sb : Nat) {w w' : World} (h : InvA s vs sb w) (hb : Below w.heap.size w w') : InvA s vs sb w' := ⟨grow_cell hb _ _ h.1, h.2.1.below hb, h.2.2⟩
set_option maxRecDepth 100000 in
set_option maxHeartbeats 400000 in
theorem cloA_any (s : Sb) (vs : Value) (sb : Nat) (n : Int) (w : World) (h : InvA s vs sb w) : Calls Try.prog 85 #[.int .i64 n, .pointer (some ⟨sb, 0, none⟩)] w fun e w' => ∃ a, e = .returned (.agg #[.bool (bnd s n).1.1, .int .i64 (bnd s n).1.2, a]) ∧ OwnV w' w.heap.size w'.heap.size (bnd s n).2 a ∧ Below w.heap.size w w' := by
  obtain ⟨hc, hS, hnar⟩ := h
  have HS := hide hS
  have Hnar := hide hnar
  obtain ⟨ad, c, b, o, rfl, had, hlc, hcm, hP⟩ := hS
  unfold maxLen at hcm
  have HP := hide hP
  have hsb : sb < w.heap.size := World.block_lt_of_cell? _ _ hc
  have hc' : (w.alloc (.cells #[.bool false, .int .i64 0, .slice none 0 0] 33)).cell? ⟨sb, 0, none⟩ = some (.slice ad s.length c) := by rw [World.cell?_alloc_lt _ _ _ hsb]; exact hc
  clear hnar hP hc
  go_enter Try.func85, Try.ntmps85
  go_wp2_with fail
  generalize hW2 : w.alloc (.cells #[.bool false, .int .i64 0, .slice none 0 0] 33) = W2 at *
  have hs2 : W2.heap.size = w.heap.size + 1 := by rw [← hW2]; simp
  have hB2 : Below w.heap.size w W2 := by rw [← hW2]; exact below_alloc _ _
  have r0 : W2.cell? ⟨w.heap.size, 0, none⟩ = some (.bool false) := by rw [← hW2]; exact new_cell rfl
  have r1 : W2.cell? ⟨w.heap.size, 1, none⟩ = some (.int .i64 0) := by rw [← hW2]; exact new_cell rfl
  have r2 : W2.cell? ⟨w.heap.size, 2, none⟩ = some (.slice none 0 0) := by rw [← hW2]; exact new_cell rfl
  have rf : ∀ i, W2.frozen? ⟨w.heap.size, i, none⟩ = false := fun i => by rw [← hW2]; exact new_frozen rfl
  clear hW2
  refine (findB_any s n _ W2 (HS.out.below hB2)).mono ?_
  rintro e w2 ⟨i, rfl, hf, hb⟩
  have s0 := grow_cell hb _ _ r0
  have s1 := grow_cell hb _ _ r1
  have s2 := grow_cell hb _ _ r2
  have sf : ∀ i, w2.frozen? ⟨w.heap.size, i, none⟩ = false := fun i => (hb.frozen (by show w.heap.size < _; omega)).trans (rf i)
  have sc := grow_cell hb _ _ hc'
  have hB3 := below_step hB2 hb
  have hs3 := hb.size
  clear r0 r1 r2 rf hb hc'
  rcases hf with ⟨rfl, hl⟩ | ⟨j, ⟨⟨tv, tn⟩, tk⟩, rfl, hj, hl⟩
  · have Hl : Hid (bnd s n = vr n) := bnd_none hl
    clear hl
    go_wp2_with fail
    refine (variable_any n w2).mono ?_
    rintro e w3 ⟨a, rfl, hO, hb⟩
    obtain ⟨z1, z2, z3, rfl⟩ := slice_of_sin hO.toS
    have t0 := grow_cell hb _ _ s0
    have t1 := grow_cell hb _ _ s1
    have t2 := grow_cell hb _ _ s2
    have tf : ∀ i, w3.frozen? ⟨w.heap.size, i, none⟩ = false := fun i => (hb.frozen (by show w.heap.size < _; omega)).trans (sf i)
    have hB4 := below_step hB3 hb
    have HO := hide hO
    clear s0 s1 s2 sf hb hO sc
    simp only [vr]
    go_wp2_with fail
    refine bodyPost_ret (v := .agg #[.bool true, .int .i64 n, .slice z1 z2 z3]) (by simp [results, Try.results85, go_sem, t0, t1, t2]) rfl ⟨.slice z1 z2 z3, by rw [Hl.out]; rfl, ?_, set3_below (o := 0) hB4 (Nat.le_refl _)⟩
    rw [Hl.out]
    have h2 : OwnV (set3 w3 w.heap.size 0 (.bool true) (.int .i64 n) (.slice z1 z2 z3)) w2.heap.size w3.heap.size (vr n).2 (.slice z1 z2 z3) := HO.out.frame (fun q i q1 q2 => ⟨set3_other (.inl (by omega)), set3_frozen⟩)
    exact h2.mono (lo' := w.heap.size) (hi' := (set3 w3 w.heap.size 0 (.bool true) (.int .i64 n) (.slice z1 z2 z3)).heap.size) (by omega) (by rw [set3_size]; exact Nat.le_refl _)
  · have Hl : Hid (bnd s n = ((tv, tn), tk)) := bnd_some hl
    obtain ⟨c0, c1, c2, yv', c3, hSy⟩ := (HP.out.below hB3).at hj
    have HSy := hide hSy
    obtain ⟨ya, yc, yb, yo, rfl, -, -, -, -⟩ := hSy
    have hjl : j < s.length := by
      rcases Nat.lt_or_ge j s.length with h | h
      · exact h
      · rw [List.getElem?_eq_none h] at hj; cases hj
    have ha : ad = some ⟨b, o, none⟩ := had (by omega)
    subst ha
    have hj0 : (0 : Int) ≤ (j : Int) := by omega
    have hj1 : (j : Int) < (s.length : Int) := by omega
    have Hn : Hid (narT ((tv, tn), tk) ∧ okT ((tv, tn), tk)) := Hnar.out _ (List.mem_of_getElem? hj)
    clear hl hj had
    go_wp2_with fail
    refine (ownB_any (tv, tn) tk _ w2 HSy.out Hn.out.1.1 Hn.out.1.2).mono ?_
    rintro e w3 ⟨a, rfl, hO, hb⟩
    rw [subT_vr Hn.out.2] at hO ⊢
    obtain ⟨z1, z2, z3, rfl⟩ := slice_of_sin hO.toS
    have t0 := grow_cell hb _ _ s0
    have t1 := grow_cell hb _ _ s1
    have t2 := grow_cell hb _ _ s2
    have tf : ∀ i, w3.frozen? ⟨w.heap.size, i, none⟩ = false := fun i => (hb.frozen (by show w.heap.size < _; omega)).trans (sf i)
    have hB4 := below_step hB3 hb
    have HO := hide hO
    clear s0 s1 s2 sf hb hO sc
    go_wp2_with fail
    refine bodyPost_ret (v := .agg #[.bool tv, .int .i64 tn, .slice z1 z2 z3]) (by simp [results, Try.results85, go_sem, t0, t1, t2]) rfl ⟨.slice z1 z2 z3, by rw [Hl.out], ?_, set3_below (o := 0) hB4 (Nat.le_refl _)⟩
    rw [Hl.out]
    have h2 : OwnV (set3 w3 w.heap.size 0 (.bool tv) (.int .i64 tn) (.slice z1 z2 z3)) w2.heap.size w3.heap.size tk (.slice z1 z2 z3) := HO.out.frame (fun q i q1 q2 => ⟨set3_other (.inl (by omega)), set3_frozen⟩)
    exact h2.mono (lo' := w.heap.size) (hi' := (set3 w3 w.heap.size 0 (.bool tv) (.int .i64 tn) (.slice z1 z2 z3)).heap.size) (by omega) (by rw [set3_size]; exact Nat.le_refl _)
def RepASaid (s : Sb) (vs : Value) (sb : Nat) (x : Bool × Int) (k : Fo) : Prop := ∀ (a : Value) (w : World), InvA s vs sb w → SIn w k a → Fo.len k ≤ 1000 → Fo.narrow k →
    Calls Try.prog 84 #[.agg #[.bool x.1, .int .i64 x.2, a], .func (.func 85) #[] #[.pointer (some ⟨sb, 0, none⟩)]] w fun e w' => ∃ a', e = .returned (.agg #[.bool (subT (bnd s) (x, k)).1.1, .int .i64 (subT (bnd s) (x, k)).1.2, a']) ∧ OwnV w' w.heap.size w'.heap.size (subT (bnd s) (x, k)).2 a' ∧ Below w.heap.size w w'
set_option maxRecDepth 100000 in
set_option maxHeartbeats 1000000 in
theorem repA_any (s : Sb) (vs : Value) (sb : Nat) (x : Bool × Int) (k : Fo) : RepASaid s vs sb x k := by
  refine Fo.ind1 (p := RepASaid s vs sb ) ?_ x k
  clear x k
  intro x k ih a w hInv hS hlen hnar
  obtain ⟨v, n⟩ := x
  obtain ⟨ad, c, b, o, rfl, had, hlc, hcm, hF⟩ := hS
  have Hl := hide (Fo.len_list k)
  have HI := hide ih
  have HF := hide hF
  have Hnar := hide hnar
  have HInv := hide hInv
  clear ih hF hnar hInv
  unfold maxLen at hcm
  cases v
  · have Hres : Hid (subT (bnd s) ((false, n), k) = ((false, n), subF (bnd s) k)) := rfl
    by_cases h0 : Fo.len k = 0
    · have h0' : ¬ (0 : Int) < (Fo.len k : Int) := by omega
      have Hk := hide (len_zero h0)
      clear h0
      go_enter Try.func84, Try.ntmps84
      go_wp2_with fail
      go_loopw [29] (fun i wr => i = .int .i64 0 ∧ wr = ((w.alloc (.cells #[.bool false, .int .i64 n, .slice ad (Fo.len k) c] 33)).alloc (.cells #[.bool false, .int .i64 0, .slice none 0 0] 33)).alloc (.cells #[.bool false, .int .i64 n, .slice none 0 0] 33)) (fun _ _ => 0)
      case atStart => exact ⟨rfl, rfl⟩
      case round =>
        obtain ⟨rfl, rfl⟩ := hrel
        go_wp2_with fail
        refine bodyPost_ret (v := .agg #[.bool false, .int .i64 n, .slice none 0 0]) (by simp [results, Try.results84, go_sem]) rfl ⟨.slice none 0 0, ?_, ?_, ?_⟩
        · rw [Hres.out]
        · rw [Hres.out]; exact .inl ⟨by rw [Hk.out]; rfl, rfl⟩
        · exact ((below_alloc _ _).alloc (by simp) _).alloc (by simp; omega) _
    · have h0' : (0 : Int) < (Fo.len k : Int) := by omega
      have ha : ad = some ⟨b, o, none⟩ := had (by omega)
      subst ha
      have Hpos : Hid (0 < Fo.len k) := by unfold Hid; omega
      have hdec : decide (0 < Fo.len k) = true := by simp; omega
      clear h0 had
      obtain ⟨i26, hi, hz0, hz1, hz2⟩ := info_parts Try.info33
      have hmk := fun w : World => run_make (P := Try.prog) w 31 33 i26 _ Try.underlying31 hi hz0 .i64 .i64 (Fo.len k : Int) (Fo.len k : Int) (by omega) (by omega) (by rw [hz2]; omega) (by omega)
      rw [hz1] at hmk
      simp only [Int.toNat_natCast] at hmk
      have Hl2 := hide (subF_len (bnd s) k)
      go_enter Try.func84, Try.ntmps84
      go_wp2_with fail
      clear hmk hi hz0 hz1 hz2
      generalize hW2 : ((w.alloc (.cells #[.bool false, .int .i64 n, .slice (some ⟨b, o, none⟩) (Fo.len k) c] 33)).alloc (.cells #[.bool false, .int .i64 0, .slice none 0 0] 33)).alloc (.cells #[.bool false, .int .i64 n, .slice (some ⟨w.heap.size + 1 + 1 + 1, 0, none⟩) (Fo.len k) (Fo.len k)] 33) = W2
      have hs2 : W2.heap.size = w.heap.size + 1 + 1 + 1 := by rw [← hW2]; simp
      have HB2 : Hid (Below w.heap.size w W2) := by rw [← hW2]; exact ((below_alloc _ _).alloc (by simp) _).alloc (by simp; omega) _
      have r0 : W2.cell? ⟨w.heap.size + 1, 0, none⟩ = some (.bool false) := by rw [← hW2, World.cell?_alloc_lt _ _ _ (by show w.heap.size + 1 < _; rw [size2]; omega)]; exact new_cell (World.size_alloc _ _)
      have r1 : W2.cell? ⟨w.heap.size + 1, 1, none⟩ = some (.int .i64 0) := by rw [← hW2, World.cell?_alloc_lt _ _ _ (by show w.heap.size + 1 < _; rw [size2]; omega)]; exact new_cell (World.size_alloc _ _)
      have r2 : W2.cell? ⟨w.heap.size + 1, 2, none⟩ = some (.slice none 0 0) := by rw [← hW2, World.cell?_alloc_lt _ _ _ (by show w.heap.size + 1 < _; rw [size2]; omega)]; exact new_cell (World.size_alloc _ _)
      have rf : ∀ i, W2.frozen? ⟨w.heap.size + 1, i, none⟩ = false := fun i => by rw [← hW2, (below_alloc _ _).frozen (by show w.heap.size + 1 < _; rw [size2]; omega)]; exact new_frozen (World.size_alloc _ _)
      have q0 : W2.cell? ⟨w.heap.size + 1 + 1, 0, none⟩ = some (.bool false) := by rw [← hW2]; exact new_cell (size2 _ _ _)
      have q1 : W2.cell? ⟨w.heap.size + 1 + 1, 1, none⟩ = some (.int .i64 n) := by rw [← hW2]; exact new_cell (size2 _ _ _)
      have q2 : W2.cell? ⟨w.heap.size + 1 + 1, 2, none⟩ = some (.slice (some ⟨w.heap.size + 1 + 1 + 1, 0, none⟩) (Fo.len k) (Fo.len k)) := by rw [← hW2]; exact new_cell (size2 _ _ _)
      have HQ := hide (And.intro q0 (And.intro q1 (And.intro q2 (And.intro r0 (And.intro r1 (And.intro r2 rf))))))
      have H0 : Hid (RepRel (w.heap.size + 1 + 1 + 1) W2 (subF (bnd s) k) 0 (W2.alloc (.cells (madeCells #[.bool false, .int .i64 0, .slice none 0 0] (Fo.len k * 3)) 33))) := by
        have := rep_start W2 (subF (bnd s) k) #[.bool false, .int .i64 0, .slice none 0 0]
        rw [Hl2.out, hs2] at this
        exact this
      have Hs2 := hide hs2
      clear q0 q1 q2 r0 r1 r2 rf hs2 hW2
      go_loopw [29] (fun i wr => ∃ j : Nat, j ≤ Fo.len k ∧ i = .int .i64 j ∧ RepRel (w.heap.size + 1 + 1 + 1) W2 (subF (bnd s) k) j wr) (fun i _ => Fo.len k - (intOf i).toNat)
      case atStart => exact ⟨0, Nat.zero_le _, rfl, H0.out⟩
      case round =>
        obtain ⟨j, hj, rfl, hR⟩ := hrel
        have HR := hide hR
        obtain ⟨hB, hT, -, hsz⟩ := hR
        have HB := hide hB
        have hs2 := Hs2.out
        have hBw : Below w.heap.size w wr := HB2.out.trans (hB.mono (by omega))
        obtain ⟨q0, q1, q2, r0, r1, r2, rf⟩ := HQ.out
        by_cases hlt : j < Fo.len k
        · have hlt' : (j : Int) < (Fo.len k : Int) := by omega
          obtain ⟨⟨⟨yv, yn⟩, yk⟩, hy⟩ : ∃ y, k.list[j]? = some y := ⟨k.list[j]'(by rw [Hl.out]; exact hlt), by simp⟩
          obtain ⟨c0, c1, yv', c2, hSy⟩ := (HF.out.below hBw).at hy
          have HS := hide hSy
          obtain ⟨ya, yc, yb, yo, rfl, -, -, -, -⟩ := hSy
          have Hny := hide (narrow_at Hnar.out hy)
          have Hy := hide hy
          have Hy2 : Hid ((subF (bnd s) k).list[j]? = some (subT (bnd s) ((yv, yn), yk))) := by rw [Hid, subF_list, List.getElem?_map, hy]; rfl
          have hT' : There wr (w.heap.size + 1 + 1 + 1) (Fo.len k * 3) := by rw [← Hl2.out]; exact hT
          obtain ⟨⟨t0, e0⟩, f0⟩ := hT' (j * 3) (by omega)
          obtain ⟨⟨t1, e1⟩, f1⟩ := hT' (j * 3 + 1) (by omega)
          obtain ⟨⟨t2, e2⟩, f2⟩ := hT' (j * 3 + 2) (by omega)
          have p2 : wr.cell? ⟨w.heap.size + 1 + 1, 2, none⟩ = some (.slice (some ⟨w.heap.size + 1 + 1 + 1, 0, none⟩) (Fo.len k) (Fo.len k)) := (HB.out.cell (by show w.heap.size + 1 + 1 < _; omega)).trans q2
          clear hy hT hT' hB q0 q1 q2 r0 r1 r2 rf
          go_upto_region 9 with fail
          generalize hwa : wr.alloc (.cells #[.bool yv, .int .i64 yn, .slice ya (Fo.len yk) yc] 33) = wa
          have a0 : wa.cell? ⟨wr.heap.size, 0, none⟩ = some (.bool yv) := by rw [← hwa]; simp
          have a1 : wa.cell? ⟨wr.heap.size, 1, none⟩ = some (.int .i64 yn) := by rw [← hwa]; simp
          have a2 : wa.cell? ⟨wr.heap.size, 2, none⟩ = some (.slice ya (Fo.len yk) yc) := by rw [← hwa]; simp
          have hba : Below wr.heap.size wr wa := by rw [← hwa]; exact below_alloc _ _
          have hsa : wa.heap.size = wr.heap.size + 1 := by rw [← hwa]; simp
          have Hwa : Hid (wr.alloc (.cells #[.bool yv, .int .i64 yn, .slice ya (Fo.len yk) yc] 33) = wa) := hwa
          have p2' := grow_cell hba _ _ p2
          have e0' := grow_cell hba _ _ e0
          have e1' := grow_cell hba _ _ e1
          have e2' := grow_cell hba _ _ e2
          have hlt3 : w.heap.size + 1 + 1 + 1 < wr.heap.size := by omega
          have g0' : wa.frozen? ⟨w.heap.size + 1 + 1 + 1, j * 3, none⟩ = false := (hba.frozen hlt3).trans f0
          have g1' : wa.frozen? ⟨w.heap.size + 1 + 1 + 1, j * 3 + 1, none⟩ = false := (hba.frozen hlt3).trans f1
          have g2' : wa.frozen? ⟨w.heap.size + 1 + 1 + 1, j * 3 + 2, none⟩ = false := (hba.frozen hlt3).trans f2
          have HIa : Hid (InvA s vs sb wa.drew) := invA_below s vs sb (invA_below s vs sb HInv.out (below_step hBw hba)) (Below.refl _ _).drew
          have HSa : Hid (SIn wa.drew yk (.slice ya (Fo.len yk) yc)) := (HS.out.below hba).drew
          obtain ⟨⟨⟨zv, zn⟩, zk⟩, hz⟩ : ∃ z, z = subT (bnd s) ((yv, yn), yk) := ⟨_, rfl⟩
          have Hz := hide hz
          have hlt4 : w.heap.size + 1 + 1 + 1 < wa.heap.size := by omega
          have hcall : Calls Try.prog 84 #[.agg #[.bool yv, .int .i64 yn, .slice ya (Fo.len yk) yc], .func (.func 85) #[] #[.pointer (some ⟨sb, 0, none⟩)]] wa.drew fun e w' => ∃ (a1 : Option Addr) (a2 a3 : Nat), e = .returned (.agg #[.bool zv, .int .i64 zn, .slice a1 a2 a3]) ∧ OwnV w' wa.heap.size w'.heap.size zk (.slice a1 a2 a3) ∧ Below wa.heap.size wa w' := by
            have h := HI.out ((yv, yn), yk) (List.mem_of_getElem? Hy.out) _ wa.drew HIa.out HSa.out Hny.out.1 Hny.out.2
            refine h.mono ?_
            rintro e w2 ⟨a', rfl, hO, hb⟩
            rw [← Hz.out] at hO
            obtain ⟨z1, z2, z3, rfl⟩ := slice_of_sin hO.toS
            exact ⟨z1, z2, z3, by rw [← Hz.out], hO, ((Below.refl _ _).drew).trans hb⟩
          have Hcall := hide hcall
          clear hwa hz hcall e0 e1 e2 f0 f1 f2 p2 c0 c1 c2 hBw hba
          go_region_with (first
            | (go_at_call 84; refine Hcall.out.mono ?_; rintro e w2 ⟨z1, z2, z3, rfl, hO2, hb2⟩; have p2'' := grow_cell hb2 _ _ p2'; have e0'' := grow_cell hb2 _ _ e0'; have e1'' := grow_cell hb2 _ _ e1'; have e2'' := grow_cell hb2 _ _ e2'; have g0'' := (hb2.frozen hlt4).trans g0'; have g1'' := (hb2.frozen hlt4).trans g1'; have g2'' := (hb2.frozen hlt4).trans g2'))
          all_goals
            have Hstep : Hid (RepRel (w.heap.size + 1 + 1 + 1) W2 (subF (bnd s) k) (j + 1) (set3 w2 (w.heap.size + 1 + 1 + 1) (j * 3) (.bool zv) (.int .i64 zn) (.slice z1 z2 z3))) := rep_step (ob := .cells #[.bool yv, .int .i64 yn, .slice ya (Fo.len yk) yc] 33) HR.out (by rw [Hl2.out]; exact hlt) (by rw [Hy2.out, ← Hz.out]) (by rw [Hwa.out, ← hsa]; exact hb2) (by rw [← hsa]; exact hO2)
            clear hO2 hb2 p2'' p2' e0' e1' e2' g0' g1' g2'
            go_wp2_with fail
            go_roundw
            case rel => exact ⟨j + 1, by omega, by go_num, Hstep.out⟩
            case measure => simp [intOf]; omega
        · have hje : j = Fo.len k := by omega
          subst hje
          have p0 : wr.cell? ⟨w.heap.size + 1 + 1, 0, none⟩ = some (.bool false) := (HB.out.cell (by show w.heap.size + 1 + 1 < _; omega)).trans q0
          have p1 : wr.cell? ⟨w.heap.size + 1 + 1, 1, none⟩ = some (.int .i64 n) := (HB.out.cell (by show w.heap.size + 1 + 1 < _; omega)).trans q1
          have p2 : wr.cell? ⟨w.heap.size + 1 + 1, 2, none⟩ = some (.slice (some ⟨w.heap.size + 1 + 1 + 1, 0, none⟩) (Fo.len k) (Fo.len k)) := (HB.out.cell (by show w.heap.size + 1 + 1 < _; omega)).trans q2
          have s0 : wr.cell? ⟨w.heap.size + 1, 0, none⟩ = some (.bool false) := (HB.out.cell (by show w.heap.size + 1 < _; omega)).trans r0
          have s1 : wr.cell? ⟨w.heap.size + 1, 1, none⟩ = some (.int .i64 0) := (HB.out.cell (by show w.heap.size + 1 < _; omega)).trans r1
          have s2 : wr.cell? ⟨w.heap.size + 1, 2, none⟩ = some (.slice none 0 0) := (HB.out.cell (by show w.heap.size + 1 < _; omega)).trans r2
          have sf : ∀ i, wr.frozen? ⟨w.heap.size + 1, i, none⟩ = false := fun i => (HB.out.frozen (by show w.heap.size + 1 < _; omega)).trans (rf i)
          clear q0 q1 q2 r0 r1 r2 rf hT hB
          go_wp2_with fail
          refine bodyPost_ret (v := .agg #[.bool false, .int .i64 n, .slice (some ⟨w.heap.size + 1 + 1 + 1, 0, none⟩) (Fo.len k) (Fo.len k)]) (by simp [results, Try.results84, go_sem, s0, s1, s2]) rfl ⟨.slice (some ⟨w.heap.size + 1 + 1 + 1, 0, none⟩) (Fo.len k) (Fo.len k), ?_, ?_, set3_below (o := 0) hBw (by omega)⟩
          · rw [Hres.out]
          · rw [Hres.out]
            have hRe : RepRel (w.heap.size + 1 + 1 + 1) W2 (subF (bnd s) k) (Fo.len (subF (bnd s) k)) wr := by rw [Hl2.out]; exact HR.out
            have := rep_end (lo := w.heap.size) (w' := set3 wr (w.heap.size + 1) 0 (.bool false) (.int .i64 n) (.slice (some ⟨w.heap.size + 1 + 1 + 1, 0, none⟩) (Fo.len k) (Fo.len k))) hRe (by rw [Hl2.out]; exact Hpos.out) (by rw [Hl2.out]; exact hlen) (by omega) set3_size (fun q i hq => ⟨set3_other (.inl (by omega)), set3_frozen⟩)
            rw [Hl2.out] at this
            exact this
  · have Hres : Hid (subT (bnd s) ((true, n), k) = (bnd s) n) := rfl
    obtain ⟨⟨⟨zv, zn⟩, zk⟩, hz⟩ : ∃ z, z = (bnd s) n := ⟨_, rfl⟩
    have Hz := hide hz
    clear hz
    go_enter Try.func84, Try.ntmps84
    go_wp2_with fail
    generalize hW2 : (w.alloc (.cells #[.bool true, .int .i64 n, .slice ad (Fo.len k) c] 33)).alloc (.cells #[.bool false, .int .i64 0, .slice none 0 0] 33) = W2
    have hs2 : W2.heap.size = w.heap.size + 1 + 1 := by rw [← hW2]; simp
    have hB2 : Below w.heap.size w W2 := by rw [← hW2]; exact (below_alloc _ _).alloc (by simp) _
    have r0 : W2.cell? ⟨w.heap.size + 1, 0, none⟩ = some (.bool false) := by rw [← hW2]; exact new_cell (World.size_alloc _ _)
    have r1 : W2.cell? ⟨w.heap.size + 1, 1, none⟩ = some (.int .i64 0) := by rw [← hW2]; exact new_cell (World.size_alloc _ _)
    have r2 : W2.cell? ⟨w.heap.size + 1, 2, none⟩ = some (.slice none 0 0) := by rw [← hW2]; exact new_cell (World.size_alloc _ _)
    have rf : ∀ i, W2.frozen? ⟨w.heap.size + 1, i, none⟩ = false := fun i => by rw [← hW2]; exact new_frozen (World.size_alloc _ _)
    clear hW2
    refine (cloA_any s vs sb n W2 (invA_below s vs sb HInv.out hB2)).mono ?_
    rintro e w2 ⟨a', rfl, hO, hb⟩
    rw [← Hz.out] at hO ⊢
    obtain ⟨z1, z2, z3, rfl⟩ := slice_of_sin hO.toS
    have s0 := grow_cell hb _ _ r0
    have s1 := grow_cell hb _ _ r1
    have s2 := grow_cell hb _ _ r2
    have sf : ∀ i, w2.frozen? ⟨w.heap.size + 1, i, none⟩ = false := fun i => (hb.frozen (by show w.heap.size + 1 < _; omega)).trans (rf i)
    have HO := hide hO
    have hB3 := below_step hB2 hb
    clear hO r0 r1 r2 rf hb
    go_wp2_with fail
    refine bodyPost_ret (v := .agg #[.bool zv, .int .i64 zn, .slice z1 z2 z3]) (by simp [results, Try.results84, go_sem, s0, s1, s2]) rfl ⟨.slice z1 z2 z3, ?_, ?_, set3_below (o := 0) hB3 (by omega)⟩
    · rw [Hres.out, ← Hz.out]
    · rw [Hres.out, ← Hz.out]
      have h2 : OwnV (set3 w2 (w.heap.size + 1) 0 (.bool zv) (.int .i64 zn) (.slice z1 z2 z3)) W2.heap.size w2.heap.size zk (.slice z1 z2 z3) := HO.out.frame (fun q i q1 q2 => ⟨set3_other (.inl (by omega)), set3_frozen⟩)
      have h3 := h2.mono (lo' := w.heap.size) (hi' := (set3 w2 (w.heap.size + 1) 0 (.bool zv) (.int .i64 zn) (.slice z1 z2 z3)).heap.size) (by omega) (by rw [set3_size]; exact Nat.le_refl _)
      exact h3
set_option maxRecDepth 100000 in
set_option maxHeartbeats 400000 in
theorem apply_any (s : Sb) (vs : Value) (x : Bool × Int) (k : Fo) (a : Value) (w : World) (hV : SubIn w s vs) (hs : ∀ p ∈ s, narT p.2 ∧ okT p.2) (hS : SIn w k a) (hn : narT (x, k)) :
    Calls Try.prog 65 #[vs, .agg #[.bool x.1, .int .i64 x.2, a]] w fun e w' => ∃ a', e = .returned (.agg #[.bool (subT (bnd s) (x, k)).1.1, .int .i64 (subT (bnd s) (x, k)).1.2, a']) ∧ OwnV w' w.heap.size w'.heap.size (subT (bnd s) (x, k)).2 a' ∧ Below w.heap.size w w' := by
  obtain ⟨v, n⟩ := x
  have HS := hide hS
  have HV := hide hV
  have Hs := hide hs
  have Hn := hide hn
  obtain ⟨ad, c, b, o, rfl, -, -, -, -⟩ := hS
  obtain ⟨vd, vc, vb, vo, rfl, -, -, -, -⟩ := hV
  obtain ⟨⟨⟨zv, zn⟩, zk⟩, hz⟩ : ∃ z, z = subT (bnd s) ((v, n), k) := ⟨_, rfl⟩
  have Hz := hide hz
  clear hz hs hn
  go_enter Try.func65, Try.ntmps65
  go_wp2_with fail
  generalize hW2 : ((w.alloc (.cells #[.slice vd s.length vc] 58)).alloc (.cells #[.bool v, .int .i64 n, .slice ad (Fo.len k) c] 33)).alloc (.cells #[.bool false, .int .i64 0, .slice none 0 0] 33) = W2
  have hs2 : W2.heap.size = w.heap.size + 1 + 1 + 1 := by rw [← hW2]; simp
  have hB2 : Below w.heap.size w W2 := by rw [← hW2]; exact ((below_alloc _ _).alloc (by simp) _).alloc (by simp; omega) _
  have r0 : W2.cell? ⟨w.heap.size + 1 + 1, 0, none⟩ = some (.bool false) := by rw [← hW2]; exact new_cell (size2 _ _ _)
  have r1 : W2.cell? ⟨w.heap.size + 1 + 1, 1, none⟩ = some (.int .i64 0) := by rw [← hW2]; exact new_cell (size2 _ _ _)
  have r2 : W2.cell? ⟨w.heap.size + 1 + 1, 2, none⟩ = some (.slice none 0 0) := by rw [← hW2]; exact new_cell (size2 _ _ _)
  have rf : ∀ i, W2.frozen? ⟨w.heap.size + 1 + 1, i, none⟩ = false := fun i => by rw [← hW2]; exact new_frozen (size2 _ _ _)
  have hI : InvA s (.slice vd s.length vc) w.heap.size W2 := by
    refine ⟨?_, HV.out.below hB2, Hs.out⟩
    rw [← hW2, World.cell?_alloc_lt _ _ _ (by show w.heap.size < _; rw [size2]; omega), World.cell?_alloc_lt _ _ _ (by simp)]
    exact new_cell rfl
  clear hW2
  refine (repA_any s _ w.heap.size (v, n) k _ W2 hI (HS.out.below hB2) Hn.out.1 Hn.out.2).mono ?_
  rintro e w2 ⟨a', rfl, hO, hb⟩
  rw [← Hz.out] at hO ⊢
  obtain ⟨z1, z2, z3, rfl⟩ := slice_of_sin hO.toS
  have s0 := grow_cell hb _ _ r0
  have s1 := grow_cell hb _ _ r1
  have s2 := grow_cell hb _ _ r2
  have sf : ∀ i, w2.frozen? ⟨w.heap.size + 1 + 1, i, none⟩ = false := fun i => (hb.frozen (by show w.heap.size + 1 + 1 < _; omega)).trans (rf i)
  have HO := hide hO
  have hB3 := below_step hB2 hb
  clear hO r0 r1 r2 rf hb hI
  go_wp2_with fail
  refine bodyPost_ret (v := .agg #[.bool zv, .int .i64 zn, .slice z1 z2 z3]) (by simp [results, Try.results65, go_sem, s0, s1, s2]) rfl ⟨.slice z1 z2 z3, by rw [← Hz.out], ?_, set3_below (o := 0) hB3 (by omega)⟩
  rw [← Hz.out]
  have h2 : OwnV (set3 w2 (w.heap.size + 1 + 1) 0 (.bool zv) (.int .i64 zn) (.slice z1 z2 z3)) W2.heap.size w2.heap.size zk (.slice z1 z2 z3) := HO.out.frame (fun q i q1 q2 => ⟨set3_other (.inl (by omega)), set3_frozen⟩)
  exact h2.mono (lo' := w.heap.size) (hi' := (set3 w2 (w.heap.size + 1 + 1) 0 (.bool zv) (.int .i64 zn) (.slice z1 z2 z3)).heap.size) (by omega) (by rw [set3_size]; exact Nat.le_refl _)
end Go.Proofs.Ytiilckjnggeeoad

namespace Go.Proofs.Ytiilckjnggeeoad
open Go.RowKit Go.Deep Go.ChangeShapes Go.WideShapes
attribute [local go_sem ↓] Go.wp_at_zero Go.wp_at_succ
def ren (d n : Int) : Tm := vr (wrap64 (n + d))
end Go.Proofs.Ytiilckjnggeeoad

namespace Go.Proofs.Ytiilckjnggeeoad
open Go.RowKit Go.Deep Go.ChangeShapes Go.WideShapes
def extF : Fo → Fo → Sb → Option Sb
  | .nil, _, s => some s
  | .node _ _ _ _ _, .nil, _ => none
  | .node _ _ x k r, .node _ _ y l q, s =>
    (if x.1 then (match look s x.2 with
      | none => some (s ++ [(x.2, (y, l))])
      | some u => if sameT u.1 u.2 y l then some s else none)
    else if y.1 = false ∧ y.2 = x.2 ∧ Fo.len l = Fo.len k then extF k l s else none).bind (extF r q)
def extT (s : Sb) (t u : Tm) : Option Sb :=
  if t.1.1 then (match look s t.1.2 with
    | none => some (s ++ [(t.1.2, u)])
    | some z => if sameT z.1 z.2 u.1 u.2 then some s else none)
  else if u.1.1 = false ∧ u.1.2 = t.1.2 ∧ Fo.len u.2 = Fo.len t.2 then extF t.2 u.2 s else none
theorem extF_node (p q p' q' : Nat) (x y : Bool × Int) (k r l m : Fo) (s : Sb) : extF (.node p q x k r) (.node p' q' y l m) s = (extT s (x, k) (y, l)).bind (extF r m) := rfl
theorem extT_new {s : Sb} {n : Int} {k : Fo} {u : Tm} (h : look s n = none) : extT s ((true, n), k) u = some (s ++ [(n, u)]) := by
  unfold extT; simp [h]
theorem extT_old {s : Sb} {n : Int} {k : Fo} {u z : Tm} (h : look s n = some z) : extT s ((true, n), k) u = if sameT z.1 z.2 u.1 u.2 then some s else none := by
  unfold extT; simp [h]
theorem extT_in {s : Sb} {n : Int} {k l : Fo} (h : Fo.len l = Fo.len k) : extT s ((false, n), k) ((false, n), l) = extF k l s := by
  unfold extT; simp [h]
theorem extT_no {s : Sb} {n : Int} {k : Fo} {u : Tm} (h : ¬ (u.1.1 = false ∧ u.1.2 = n ∧ Fo.len u.2 = Fo.len k)) : extT s ((false, n), k) u = none := by
  unfold extT; simp only [Bool.false_eq_true, if_false]; rw [if_neg h]
theorem ext_snoc : ∀ {j : Nat} {k l : Fo} {t u : Tm} (s : Sb), k.list[j]? = some t → l.list[j]? = some u → extF (Fo.take (j + 1) k) (Fo.take (j + 1) l) s = (extF (Fo.take j k) (Fo.take j l) s).bind fun s' => extT s' t u
  | _, .nil, _, _, _, _, h, _ => by simp [Fo.list] at h
  | _, .node _ _ _ _ _, .nil, _, _, _, _, h => by simp [Fo.list] at h
  | 0, .node _ _ x k r, .node _ _ y l q, t, u, s, h, h' => by
    simp only [Fo.list, List.getElem?_cons_zero, Option.some.injEq] at h h'
    subst h h'
    simp only [Fo.take, extF_node]
    simp [extF]
  | j + 1, .node _ _ x k r, .node _ _ y l q, t, u, s, h, h' => by
    have ih := fun s => ext_snoc (j := j) (k := r) (l := q) s (by simpa [Fo.list] using h) (by simpa [Fo.list] using h')
    rw [Fo.take, Fo.take, extF_node, Fo.take, Fo.take, extF_node]
    cases extT s (x, k) (y, l) with
    | none => rfl
    | some s' => exact ih s'
theorem ext_none : ∀ {j : Nat} {k l : Fo} {s : Sb}, Fo.len k = Fo.len l → extF (Fo.take j k) (Fo.take j l) s = none → extF k l s = none
  | 0, _, _, _, _, h => by simp [Fo.take, extF] at h
  | j + 1, .nil, _, _, _, h => by simp [Fo.take, extF] at h
  | j + 1, .node _ _ _ _ _, .nil, _, h, _ => by simp [Fo.len] at h
  | j + 1, .node _ _ x k r, .node _ _ y l q, s, hl, h => by
    rw [Fo.take, Fo.take, extF_node] at h
    rw [extF_node]
    cases e : extT s (x, k) (y, l) with
    | none => rfl
    | some s' =>
      rw [e] at h
      exact ext_none (j := j) (by simpa [Fo.len] using hl) h
theorem extF_len : ∀ {k l : Fo} {s s' : Sb}, extF k l s = some s' → s'.length ≤ s.length + Fo.sizesR k
  | .nil, _, s, s', h => by simp only [extF, Option.some.injEq] at h; subst h; omega
  | .node _ _ _ _ _, .nil, _, _, h => by simp [extF] at h
  | .node _ _ ⟨v, n⟩ k r, .node _ _ y l q, s, s', h => by
    rw [extF_node, Option.bind_eq_some_iff] at h
    obtain ⟨s1, h1, h2⟩ := h
    have i2 := extF_len h2
    have i1 : s1.length ≤ s.length + 1 + Fo.sizesR k := by
      cases v
      · unfold extT at h1
        simp only [Bool.false_eq_true, if_false] at h1
        split at h1
        · have := extF_len h1; omega
        · cases h1
      · cases e : look s n with
        | none => rw [extT_new e] at h1; cases h1; simp
        | some z =>
          rw [extT_old e] at h1
          split at h1
          · cases h1; omega
          · cases h1
    simp only [Fo.sizesR]
    omega
theorem look_more {s m : Sb} {n : Int} {u : Tm} (h : look s n = some u) : look (s ++ m) n = some u := by rw [look_append, h]; rfl
theorem sub_more {s m : Sb} {t : Tm} (h : ∀ n, occT n t → (look s n).isSome = true) : subT (bnd (s ++ m)) t = subT (bnd s) t := by
  refine subT_congr fun n hn => ?_
  obtain ⟨u, hu⟩ := Option.isSome_iff_exists.1 (h n hn)
  rw [bnd_some hu, bnd_some (look_more hu)]
theorem extF_sound : ∀ {k l : Fo} {s s' : Sb}, Fo.len k = Fo.len l → Fo.ok l → (∀ p ∈ s, okT p.2) → extF k l s = some s' →
    (∀ p ∈ s', okT p.2) ∧ (∃ m, s' = s ++ m) ∧ (∀ n, occF n k → (look s' n).isSome = true) ∧ subF (bnd s') k = l
  | .nil, .nil, s, s', _, _, hs, h => by
    simp only [extF, Option.some.injEq] at h
    subst h
    exact ⟨hs, ⟨[], by simp⟩, fun n hn => by simp [occF] at hn, rfl⟩
  | .nil, .node _ _ _ _ _, _, _, h, _, _, _ => by simp [Fo.len] at h
  | .node _ _ _ _ _, .nil, _, _, h, _, _, _ => by simp [Fo.len] at h
  | .node p0 q0 ⟨v, n⟩ k r, .node p1 q1 y l q, s, s', hl, hok, hs, h => by
    rw [extF_node, Option.bind_eq_some_iff] at h
    obtain ⟨s1, h1, h2⟩ := h
    rw [ok_node] at hok
    obtain ⟨rfl, rfl, hy, hq⟩ := hok
    have key : (∀ p ∈ s1, okT p.2) ∧ (∃ m, s1 = s ++ m) ∧ (∀ m, occT m ((v, n), k) → (look s1 m).isSome = true) ∧ subT (bnd s1) ((v, n), k) = (y, l) := by
      cases v
      · unfold extT at h1
        simp only [Bool.false_eq_true, if_false] at h1
        split at h1
        · rename_i hc
          obtain ⟨i1, i2, i3, i4⟩ := extF_sound hc.2.2.symm hy.2 hs h1
          refine ⟨i1, i2, fun m hm => i3 m (occ_sym.1 hm), ?_⟩
          rw [subT_sym, i4]
          obtain ⟨y1, y2⟩ := y
          have e1 : y1 = false := hc.1
          have e2 : y2 = n := hc.2.1
          subst e1 e2
          rfl
        · cases h1
      · cases e : look s n with
        | none =>
          rw [extT_new e] at h1
          cases h1
          have hl' : look (s ++ [(n, (y, l))]) n = some (y, l) := by rw [look_append, e]; simp [look]
          refine ⟨?_, ⟨_, rfl⟩, fun m hm => ?_, ?_⟩
          · intro p hp
            simp only [List.mem_append, List.mem_singleton] at hp
            rcases hp with hp | rfl
            · exact hs p hp
            · exact hy
          · have : n = m := by simpa [occT] using hm
            subst this
            rw [hl']; rfl
          · rw [subT_var, bnd_some hl']
        | some z =>
          rw [extT_old e] at h1
          split at h1
          · rename_i hsm
            cases h1
            have hz : z = (y, l) := sameT_eq (hs _ (look_mem e)) hy hsm
            refine ⟨hs, ⟨[], by simp⟩, fun m hm => ?_, ?_⟩
            · have : n = m := by simpa [occT] using hm
              subst this
              rw [e]; rfl
            · rw [subT_var, bnd_some e, hz]
          · cases h1
    obtain ⟨k1, ⟨m1, rfl⟩, k3, k4⟩ := key
    obtain ⟨i1, ⟨m2, rfl⟩, i3, i4⟩ := extF_sound (by simpa [Fo.len] using hl) hq k1 h2
    refine ⟨i1, ⟨m1 ++ m2, by simp⟩, fun m hm => ?_, ?_⟩
    · rcases hm with hm | hm
      · obtain ⟨u, hu⟩ := Option.isSome_iff_exists.1 (k3 m hm)
        rw [look_more hu]; rfl
      · exact i3 m hm
    · rw [subF_node, sub_more k3, k4, i4]
theorem extT_sound {t u : Tm} {s s' : Sb} (hu : okT u) (hs : ∀ p ∈ s, okT p.2) (h : extT s t u = some s') : (∀ p ∈ s', okT p.2) ∧ subT (bnd s') t = u := by
  have h1 : extF (.node 0 0 t.1 t.2 .nil) (.node 0 0 u.1 u.2 .nil) s = some s' := by rw [extF_node, show extT s (t.1, t.2) (u.1, u.2) = some s' from h]; rfl
  obtain ⟨i1, _, _, i4⟩ := extF_sound (k := .node 0 0 t.1 t.2 .nil) (l := .node 0 0 u.1 u.2 .nil) rfl (ok_node.2 ⟨rfl, rfl, hu, trivial⟩) hs h1
  rw [subF_node] at i4
  simp only [BT.node.injEq, true_and] at i4
  exact ⟨i1, Prod.ext i4.1 i4.2.1⟩
end Go.Proofs.Ytiilckjnggeeoad

namespace Go.Proofs.Ytiilckjnggeeoad
open Go.RowKit Go.Deep Go.ChangeShapes Go.WideShapes
theorem Try.info92 : (Try.prog.info? 92).map (fun i => (i.zero, i.size, i.bytes)) = some (some (.agg #[.int .i64 0, .bool false, .int .i64 0, .slice none 0 0]), 4, 48) := by kernel_rfl
def PC (X : Nat → Prop) (w : World) : Sb → List Value → Prop
  | [], xs => xs = []
  | p :: s, xs => ∃ a ys, xs = .int .i64 p.1 :: .bool p.2.1.1 :: .int .i64 p.2.1.2 :: a :: ys ∧ SB X w p.2.2 a ∧ PC X w s ys
theorem PC.frame {X Y : Nat → Prop} {w w' : World} (hXY : ∀ q, X q → Y q) (hr : ∀ q i, X q → w'.cell? ⟨q, i, none⟩ = w.cell? ⟨q, i, none⟩) : ∀ {s : Sb} {xs : List Value}, PC X w s xs → PC Y w' s xs
  | [], _, h => h
  | _ :: _, _, ⟨a, ys, h1, h2, h3⟩ => ⟨a, ys, h1, h2.frame hXY hr, PC.frame hXY hr h3⟩
theorem PC.append {X : Nat → Prop} {w : World} {s' : Sb} {ys : List Value} (h' : PC X w s' ys) : ∀ {s : Sb} {xs : List Value}, PC X w s xs → PC X w (s ++ s') (xs ++ ys)
  | [], _, h => by rw [PC] at h; subst h; exact h'
  | _ :: _, _, ⟨a, zs, h1, h2, h3⟩ => by subst h1; exact ⟨a, zs ++ ys, rfl, h2, PC.append h' h3⟩
theorem PC.one {X : Nat → Prop} {w : World} {n : Int} {t : Tm} {a : Value} (h : SB X w t.2 a) : PC X w [(n, t)] [.int .i64 n, .bool t.1.1, .int .i64 t.1.2, a] := ⟨a, [], rfl, h, rfl⟩
theorem PC.len {X : Nat → Prop} {w : World} : ∀ {s : Sb} {xs : List Value}, PC X w s xs → xs.length = s.length * 4
  | [], _, h => by rw [PC] at h; subst h; rfl
  | _ :: _, _, ⟨a, ys, h1, _, h3⟩ => by subst h1; simp only [List.length_cons, h3.len]; omega
theorem PC.at {X : Nat → Prop} {w : World} {g : Nat} : ∀ {s : Sb} {xs : List Value} {o : Nat}, PC X w s xs → (∀ j, j < xs.length → w.cell? ⟨g, o + j, none⟩ = xs[j]?) → PIn w s g o
  | [], _, _, _, _ => trivial
  | p :: s, _, o, ⟨a, ys, h1, h2, h3⟩, hc => by
    subst h1
    have c0 := hc 0 (by simp)
    have c1 := hc 1 (by simp)
    have c2 := hc 2 (by simp)
    have c3 := hc 3 (by simp)
    refine ⟨by simpa using c0, by simpa using c1, by simpa using c2, ⟨a, by simpa using c3, h2.toS⟩, ?_⟩
    refine PC.at h3 (fun j hj => ?_)
    have := hc (j + 4) (by simp; omega)
    rw [show o + 4 + j = o + (j + 4) by omega, this]
    simp
theorem row_sub {X : Nat → Prop} {w : World} {lo : Nat} {v : Value} {s : Sb} {xs : List Value} (h : w.ownsRow lo 92 4 v s.length xs) (hc : PC X w s xs) : SubIn w s v := by
  have hcells := fun g hg => h.cells (g := g) hg
  rcases h.2 with ⟨rfl, h0⟩ | ⟨g, cap, cur, rfl, hl, hh, hn, hm, hs, ht⟩
  · have : s = [] := List.length_eq_zero_iff.1 h0
    subst this
    exact SubIn.nil w
  · refine ⟨_, cap, g, 0, rfl, fun _ => rfl, hn, hm, hc.at (fun j hj => ?_)⟩
    have := hcells g rfl j (xs[j]'hj) (List.getElem?_eq_getElem hj)
    rw [List.getElem?_eq_getElem hj]
    rw [add_plain] at this
    exact this
def Ex (X : Nat → Prop) (w w' : World) (v : Value) : Nat → Prop := fun q => X q ∨ (w.heap.size ≤ q ∧ q < w'.heap.size ∧ some q ≠ v.ownBlock)
def Mv (w : World) (v v' : Value) : Prop := v'.ownBlock = v.ownBlock ∨ ∀ g, v'.ownBlock = some g → w.heap.size ≤ g
structure OwnS (lo : Nat) (X : Nat → Prop) (w : World) (s : Sb) (v : Value) (xs : List Value) : Prop where
  row : w.ownsRow lo 92 4 v s.length xs
  cells : PC X w s xs
  off : ∀ q, X q → q < w.heap.size ∧ some q ≠ v.ownBlock
theorem OwnS.sub {lo : Nat} {X : Nat → Prop} {w : World} {s : Sb} {v : Value} {xs : List Value} (h : OwnS lo X w s v xs) : SubIn w s v := row_sub h.row h.cells
theorem OwnS.slice {lo : Nat} {X : Nat → Prop} {w : World} {s : Sb} {v : Value} {xs : List Value} (h : OwnS lo X w s v xs) : ∃ z1 z3, v = .slice z1 s.length z3 := slice_of_sub h.sub
theorem OwnS.below {lo : Nat} {X : Nat → Prop} {w w' : World} {s : Sb} {v : Value} {xs : List Value} (h : OwnS lo X w s v xs) (hb : Below w.heap.size w w') : OwnS lo X w' s v xs :=
  ⟨owns_keep h.row (fun g hg => hb.block g (owns_at h.row g hg).2), h.cells.frame (fun _ hq => hq) (fun q _ hq => World.cell?_of_block (hb.block q (h.off q hq).1)), fun q hq => ⟨Nat.lt_of_lt_of_le (h.off q hq).1 hb.size, (h.off q hq).2⟩⟩
theorem OwnS.wide {lo : Nat} {X Y : Nat → Prop} {w : World} {s : Sb} {v : Value} {xs : List Value} (h : OwnS lo X w s v xs) (hXY : ∀ q, X q → Y q) (hY : ∀ q, Y q → q < w.heap.size ∧ some q ≠ v.ownBlock) : OwnS lo Y w s v xs :=
  ⟨h.row, h.cells.frame hXY (fun _ _ _ => rfl), hY⟩
theorem SB.wide {X Y : Nat → Prop} {w : World} {k : Fo} {a : Value} (h : SB X w k a) (hXY : ∀ q, X q → Y q) : SB Y w k a := h.frame hXY (fun _ _ _ => rfl)
theorem SB.kept {X : Nat → Prop} {w w' : World} {k : Fo} {a : Value} (h : SB X w k a) (hr : ∀ q, X q → w'.heap[q]? = w.heap[q]?) : SB X w' k a := h.frame (fun _ hq => hq) (fun q _ hq => World.cell?_of_block (hr q hq))
end Go.Proofs.Ytiilckjnggeeoad
