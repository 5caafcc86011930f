/- P6g CMo CM5 D6m CK2 D6n -/
import Derived.Test.YtaliegkkdhkfcacGreatDoorG17
namespace Go.Proofs.YtaliegkkdhkfcacGreatDoor
open Go.RowKit Go.Deep Go.ChangeShapes Go.WideShapes
attribute [local go_sem ↓] Go.wp_at_zero Go.wp_at_succ

theorem turnP_neg (yes : Bool) (l : Lt) : (turnL yes l).1 = l.1 := by cases yes <;> rfl
/-- Rounds that turn nothing. -/
theorem foldN_skip {f : List Cl × Bool → Nat → List Cl × Bool} {st : List Cl × Bool} : ∀ {n : Nat}, (∀ s j, j < n → f s j = s) → foldN f st n = st
  | 0, _ => rfl
  | n + 1, h => by rw [foldN_succ, foldN_skip (fun s j hj => h s j (by omega)), h _ n (by omega)]

set_option maxRecDepth 100000 in
set_option maxHeartbeats 8000000 in
theorem progResolve_any {U : Tm → Tm → Option Sb} (hU : UOK U) (c : Cl) (cv : Value) (w : World) (hC : CIn w c cv) (hc : ∀ l ∈ c, G12L l) (h4 : c.length ≤ 4) :
    Calls Tryz.prog 9 #[cv] w (RulePost (resTo U c c.length) w) := by
  have HC := hide hC
  have Hc := hide hc
  have HU := hide hU
  obtain ⟨c1, c3, cb, co, rfl, had, hlc, hcm, hF⟩ := hC
  unfold maxLen at hcm
  have HF := hide hF
  clear hF hc hU
  go_enter Tryz.func9, Tryz.ntmps9
  go_upto_region 2 with fail
  have Hst := hide (lst_start w 52)
  have hB1 : Below w.heap.size w (w.alloc (.cells #[.slice none 0 0, .bool false] 52)) := below_alloc _ _
  generalize w.alloc (.cells #[.slice none 0 0, .bool false] 52) = W1 at *
  go_wp2_with fail
  go_loopw [11] (fun i wr => ∃ (j : Nat) (v : Value) (xs : List Value), j ≤ c.length ∧ i = .int .i64 j ∧ LSt w.heap.size wr w.heap.size (resTo U c j).1 (resTo U c j).2 v xs ∧ Below w.heap.size w wr) (fun i _ => c.length - (intOf i).toNat)
  case atStart => exact ⟨0, _, _, Nat.zero_le _, rfl, Hst.out, hB1⟩
  case round =>
    obtain ⟨j, v, xs, hj, rfl, hL, hBr⟩ := hrel
    have HL := hide hL
    clear hL
    by_cases hlt : j < c.length
    · have hlt' : (j : Int) < (c.length : Int) := by omega
      obtain ⟨⟨xn, ⟨⟨xv, xi⟩, xk⟩, ⟨xv', xi'⟩, xk'⟩, hy⟩ : ∃ y, c[j]? = some y := ⟨c[j]'hlt, by simp⟩
      obtain ⟨p0, p1, p2, ⟨u3, p3, hA⟩, p4, p5, u6, p6, hD⟩ := (HF.out.below hBr).at hy
      obtain ⟨-, -, -, ⟨u3w, p3w, hAw⟩, -, -, u6w, p6w, hDw⟩ := HF.out.at hy
      have hu3 : u3w = u3 := by have := grow_cell hBr _ _ p3w; rw [p3] at this; exact (Option.some.inj this).symm
      have hu6 : u6w = u6 := by have := grow_cell hBr _ _ p6w; rw [p6] at this; exact (Option.some.inj this).symm
      subst hu3 hu6
      have HAw := hide hAw
      have HDw := hide hDw
      clear p3w p6w hAw hDw
      have ha1 : c1 = some ⟨cb, co, none⟩ := had (by omega)
      subst ha1
      have HA := hide hA
      have HD := hide hD
      obtain ⟨e1, e3, _, _, rfl, -, -, -, -⟩ := hA
      obtain ⟨f1, f3, _, _, rfl, -, -, -, -⟩ := hD
      have Hgy := hide (Hc.out _ (List.mem_of_getElem? hy))
      have Hy := hide hy
      simp only at p0 p1 p2 p3 p4 p5 p6 HA HD Hgy
      clear hy had
      have Hln := hide (resTo_len U c j)
      have Hsc : Hid (resTo U c (j + 1) = resS U c (resTo U c j) j) := resTo_succ
      have Hrs : Hid (resS U c (resTo U c j) j = if xn then addU (resTo U c j) (U ((xv, xi), xk) ((xv', xi'), xk')) (butC c j) else resTo U c j) := by
        unfold Hid resS
        rw [Hy.out]
      go_upto_region 5 with fail
      generalize hW4 : wr.alloc (.cells #[.bool xn, .bool xv, .int .i64 xi, .slice e1 (Fo.len xk) e3, .bool xv', .int .i64 xi', .slice f1 (Fo.len xk') f3] 57) = W4
      have hb4 : Below wr.heap.size wr W4 := by rw [← hW4]; exact below_alloc _ _
      have HX4 : Hid (RowAt W4 wr.heap.size [.bool xn, .bool xv, .int .i64 xi, .slice e1 (Fo.len xk) e3, .bool xv', .int .i64 xi', .slice f1 (Fo.len xk') f3]) := by
        rw [Hid, ← hW4]
        exact RowAt.new wr #[.bool xn, .bool xv, .int .i64 xi, .slice e1 (Fo.len xk) e3, .bool xv', .int .i64 xi', .slice f1 (Fo.len xk') f3] 57
      clear hW4 p0 p1 p2 p3 p4 p5 p6
      have p0 : W4.cell? ⟨wr.heap.size, 0, none⟩ = some (.bool xn) := HX4.out 0 _ rfl
      have p1 : W4.cell? ⟨wr.heap.size, 1, none⟩ = some (.bool xv) := HX4.out 1 _ rfl
      have p2 : W4.cell? ⟨wr.heap.size, 2, none⟩ = some (.int .i64 xi) := HX4.out 2 _ rfl
      have p3 : W4.cell? ⟨wr.heap.size, 3, none⟩ = some (.slice e1 (Fo.len xk) e3) := HX4.out 3 _ rfl
      have p4 : W4.cell? ⟨wr.heap.size, 4, none⟩ = some (.bool xv') := HX4.out 4 _ rfl
      have p5 : W4.cell? ⟨wr.heap.size, 5, none⟩ = some (.int .i64 xi') := HX4.out 5 _ rfl
      have p6 : W4.cell? ⟨wr.heap.size, 6, none⟩ = some (.slice f1 (Fo.len xk') f3) := HX4.out 6 _ rfl
      have HL4 := hide (HL.out.below hb4)
      have hB4 := below_step hBr hb4
      cases xn
      · have Hend : Hid (LSt w.heap.size W4 w.heap.size (resTo U c (j + 1)).1 (resTo U c (j + 1)).2 v xs) := by
          have := HL4.out
          rw [Hid, Hsc.out, Hrs.out]
          exact this
        clear Hrs
        go_wp2_with fail
        go_roundw
        case rel => exact ⟨j + 1, v, xs, by omega, by go_num, Hend.out, hB4⟩
        case measure => simp [intOf]; omega
      · have Hui := hide (Hgy.out.1.ui Hgy.out.2)
        obtain ⟨n, hn⟩ := HU.out _ _ Hui.out
        have Hn := hide hn
        obtain ⟨R, hR⟩ : ∃ R, U ((xv, xi), xk) ((xv', xi'), xk') = R := ⟨_, rfl⟩
        rw [hR] at Hn Hrs
        have Hun := hide (unify_any (xv, xi) xk (.slice e1 (Fo.len xk) e3) (xv', xi') xk' (.slice f1 (Fo.len xk') f3) W4 n R Hn.out Hui.out (HA.out.below hb4) (HD.out.below hb4))
        simp only at Hun
        clear hn hR
        go_wp2_with fail
        refine Hun.out.mono ?_
        rintro e w2 ⟨hb2, z1, m, z3, ok, rfl, hno, hyes⟩
        have hB2 := below_step hB4 hb2
        have HL2 := hide (HL4.out.below hb2)
        clear Hun hb2 p0 p1 p2 p3 p4 p5 p6
        cases ok
        · have Hend : Hid (LSt w.heap.size w2 w.heap.size (resTo U c (j + 1)).1 (resTo U c (j + 1)).2 v xs) := by
            have := HL2.out
            rw [Hid, Hsc.out, Hrs.out, (hno rfl).1]
            exact this
          clear Hrs hno hyes
          go_wp2_with fail
          go_roundw
          case rel => exact ⟨j + 1, v, xs, by omega, by go_num, Hend.out, hB2⟩
          case measure => simp [intOf]; omega
        · obtain ⟨s', rfl, rfl, hSub⟩ := hyes rfl
          have HV := hide hSub
          clear hno hSub
          go_wp2_with fail
          refine (without_any c _ j _ (HC.out.below hB2) hlt (by omega)).mono ?_
          rintro e w3 ⟨bv, rfl, hO, hb3⟩
          have hB3 := below_step hB2 hb3
          have HL3 := hide (HL2.out.below hb3)
          have Had := hide (ruleAddP HL3.out (HV.out.below hb3) hO Hgy.out.1 Hgy.out.2 Hn.out (fun l hl => (Hc.out l (but_mem hl)).x) (by have := but_len (c := c) (i := j); omega) (by have := Hln.out; omega))
          clear hO hb3
          go_wp2_with fail
          refine Had.out.mono ?_
          rintro e w4 ⟨rfl, v', xs', hL', hf, -⟩
          have Hk := hide (add_keeps HL3.out hB3 hf)
          have Hend : Hid (LSt w.heap.size w4 w.heap.size (resTo U c (j + 1)).1 (resTo U c (j + 1)).2 v' xs') := by
            have := hL'
            rw [Hid, Hsc.out, Hrs.out]
            exact this
          clear hL' hf Hrs
          go_wp2_with fail
          go_roundw
          case rel => exact ⟨j + 1, v', xs', by omega, by go_num, Hend.out, Hk.out.1⟩
          case measure => simp [intOf]; omega
    · have hje : j = c.length := by omega
      subst hje
      have Hfin := hide HL.out.csin
      obtain ⟨z1, z3, hv⟩ := HL.out.slice
      have k0 := HL.out.c0
      have k1 := HL.out.c1
      have Hvv := hide hv
      clear hv had
      go_upto_region 10 with fail
      go_region
      go_wp2_with fail
      go_ret2
      exact ⟨v, rfl, Hfin.out.below (Below.refl _ _).drew, hBr.drew⟩

set_option maxRecDepth 100000 in
set_option maxHeartbeats 8000000 in
theorem progFactor_any {U : Tm → Tm → Option Sb} (hU : UOK U) (c : Cl) (cv : Value) (w : World) (hC : CIn w c cv) (hc : ∀ l ∈ c, G12L l) (h4 : c.length ≤ 4) :
    Calls Tryz.prog 10 #[cv] w (RulePost (facTo U c c.length) w) := by
  have HC := hide hC
  have Hc := hide hc
  have HU := hide hU
  obtain ⟨c1, c3, cb, co, rfl, had, hlc, hcm, hF⟩ := hC
  unfold maxLen at hcm
  have HF := hide hF
  clear hF hc hU
  go_enter Tryz.func10, Tryz.ntmps10
  go_upto_region 2 with fail
  have Hst := hide (lst_start w 52)
  have hB1 : Below w.heap.size w (w.alloc (.cells #[.slice none 0 0, .bool false] 52)) := below_alloc _ _
  generalize w.alloc (.cells #[.slice none 0 0, .bool false] 52) = W1 at *
  go_wp2_with fail
  go_loopw [11] (fun i wr => ∃ (j : Nat) (v : Value) (xs : List Value), j ≤ c.length ∧ i = .int .i64 j ∧ LSt w.heap.size wr w.heap.size (facTo U c j).1 (facTo U c j).2 v xs ∧ Below w.heap.size w wr) (fun i _ => c.length - (intOf i).toNat)
  case atStart => exact ⟨0, _, _, Nat.zero_le _, rfl, Hst.out, hB1⟩
  case round =>
    obtain ⟨j, v, xs, hj, rfl, hL, hBr⟩ := hrel
    have HL := hide hL
    clear hL
    by_cases hlt : j < c.length
    · have hlt' : (j : Int) < (c.length : Int) := by omega
      obtain ⟨⟨xn, ⟨⟨xv, xi⟩, xk⟩, ⟨xv', xi'⟩, xk'⟩, hy⟩ : ∃ y, c[j]? = some y := ⟨c[j]'hlt, by simp⟩
      obtain ⟨p0, p1, p2, ⟨u3, p3, hA⟩, p4, p5, u6, p6, hD⟩ := (HF.out.below hBr).at hy
      obtain ⟨-, -, -, ⟨u3w, p3w, hAw⟩, -, -, u6w, p6w, hDw⟩ := HF.out.at hy
      have hu3 : u3w = u3 := by have := grow_cell hBr _ _ p3w; rw [p3] at this; exact (Option.some.inj this).symm
      have hu6 : u6w = u6 := by have := grow_cell hBr _ _ p6w; rw [p6] at this; exact (Option.some.inj this).symm
      subst hu3 hu6
      have HAw := hide hAw
      have HDw := hide hDw
      clear p3w p6w hAw hDw
      have ha1 : c1 = some ⟨cb, co, none⟩ := had (by omega)
      subst ha1
      have HA := hide hA
      have HD := hide hD
      obtain ⟨e1, e3, _, _, rfl, -, -, -, -⟩ := hA
      obtain ⟨f1, f3, _, _, rfl, -, -, -, -⟩ := hD
      have Hgy := hide (Hc.out _ (List.mem_of_getElem? hy))
      have Hy := hide hy
      simp only at p0 p1 p2 p3 p4 p5 p6 HA HD Hgy
      clear hy had
      have Hln : Hid ((facTo U c j).1.length ≤ 64) := by
        have h1 := facTo_len U c j
        have h2 : j * (c.length * 4) ≤ 4 * (4 * 4) := Nat.mul_le_mul (by omega) (Nat.mul_le_mul h4 (Nat.le_refl _))
        rw [Hid]; omega
      have Hsc : Hid (facTo U c (j + 1) = foldN (facJ U c j) (facTo U c j) c.length) := foldN_succ _ _ _
      have Hsk : Hid (foldN (facJ U c j) (facTo U c j) (j + 1) = facTo U c j) := foldN_skip (fun s q hq => by
        unfold facJ
        split
        · rw [if_pos (.inl (by omega))]
        · rfl)
      obtain ⟨ad, hsl, hadd⟩ := lits_behind (n := c.length) (j := j + 1) (c := c3) (b := cb) (o := co) (by omega) hlc
      have hsl' : ∀ w : World, (Instr.slice 25 (.slice (some ⟨cb, co, none⟩) c.length c3) (some (.int .i64 ((j : Int) + 1))) none none).run Tryz.prog w = .ok (.slice (some ad) (c.length - (j + 1)) (c3 - (j + 1))) w := fun w => by
        have := hsl w
        rwa [show ((j + 1 : Nat) : Int) = (j : Int) + 1 by omega] at this
      have hwr : IntKind.i64.wrap ((j : Int) + 1) = (j : Int) + 1 := by rw [IntKind.wrap_i64]; omega
      have Hadd := hide hadd
      clear hsl hadd
      go_upto_region 5 with fail
      generalize hW4 : wr.alloc (.cells #[.bool xn, .bool xv, .int .i64 xi, .slice e1 (Fo.len xk) e3, .bool xv', .int .i64 xi', .slice f1 (Fo.len xk') f3] 57) = W4
      have hb4 : Below wr.heap.size wr W4 := by rw [← hW4]; exact below_alloc _ _
      have HX4 : Hid (RowAt W4 wr.heap.size [.bool xn, .bool xv, .int .i64 xi, .slice e1 (Fo.len xk) e3, .bool xv', .int .i64 xi', .slice f1 (Fo.len xk') f3]) := by
        rw [Hid, ← hW4]
        exact RowAt.new wr #[.bool xn, .bool xv, .int .i64 xi, .slice e1 (Fo.len xk) e3, .bool xv', .int .i64 xi', .slice f1 (Fo.len xk') f3] 57
      clear hW4 p0 p1 p2 p3 p4 p5 p6
      have p0 : W4.cell? ⟨wr.heap.size, 0, none⟩ = some (.bool xn) := HX4.out 0 _ rfl
      have p1 : W4.cell? ⟨wr.heap.size, 1, none⟩ = some (.bool xv) := HX4.out 1 _ rfl
      have p2 : W4.cell? ⟨wr.heap.size, 2, none⟩ = some (.int .i64 xi) := HX4.out 2 _ rfl
      have p3 : W4.cell? ⟨wr.heap.size, 3, none⟩ = some (.slice e1 (Fo.len xk) e3) := HX4.out 3 _ rfl
      have p4 : W4.cell? ⟨wr.heap.size, 4, none⟩ = some (.bool xv') := HX4.out 4 _ rfl
      have p5 : W4.cell? ⟨wr.heap.size, 5, none⟩ = some (.int .i64 xi') := HX4.out 5 _ rfl
      have p6 : W4.cell? ⟨wr.heap.size, 6, none⟩ = some (.slice f1 (Fo.len xk') f3) := HX4.out 6 _ rfl
      have HL4 := hide (HL.out.below hb4)
      have hB4 := below_step hBr hb4
      clear p0 p1 p2 p3 p4 p5 p6
      go_wp2_with fail
      generalize hgw : wr.heap.size = gw at *
      generalize wr = wo at *
      go_loopw [21] (fun q wr => ∃ (t : Nat) (v : Value) (xs : List Value), t ≤ c.length - (j + 1) ∧ q = .int .i64 t ∧ LSt w.heap.size wr w.heap.size (foldN (facJ U c j) (facTo U c j) (j + 1 + t)).1 (foldN (facJ U c j) (facTo U c j) (j + 1 + t)).2 v xs ∧ Below w.heap.size w wr ∧ RowAt wr gw [.bool xn, .bool xv, .int .i64 xi, .slice e1 (Fo.len xk) e3, .bool xv', .int .i64 xi', .slice f1 (Fo.len xk') f3]) (fun q _ => c.length - (j + 1) - (intOf q).toNat)
      case atStart => exact ⟨0, v, xs, Nat.zero_le _, rfl, by rw [Nat.add_zero, Hsk.out]; exact HL4.out, hB4, HX4.out⟩
      case round =>
        obtain ⟨t, v2, xs2, ht, rfl, hL2, hBr2, hX2⟩ := hrel
        have HL2 := hide hL2
        have HX2 := hide hX2
        clear hL2 hX2
        have Hst : Hid ((foldN (facJ U c j) (facTo U c j) (j + 1 + t)).1.length ≤ 100000) := by
          have h1 := foldN_len (m := 4) (facJ_len U c j) (facTo U c j) (j + 1 + t)
          have h2 := Hln.out
          rw [Hid]; omega
        have Hsj : Hid (foldN (facJ U c j) (facTo U c j) (j + 1 + (t + 1)) = facJ U c j (foldN (facJ U c j) (facTo U c j) (j + 1 + t)) (j + 1 + t)) := foldN_succ _ _ _
        by_cases htl : t < c.length - (j + 1)
        · have htl' : (t : Int) < ((c.length - (j + 1) : Nat) : Int) := by omega
          obtain ⟨⟨yn, ⟨⟨yv, yi⟩, yk⟩, ⟨yv', yi'⟩, yk'⟩, hy⟩ : ∃ y, c[j + 1 + t]? = some y := ⟨c[j + 1 + t]'(by omega), by simp⟩
          have Hfj := hide (facJ_eq (U := U) (foldN (facJ U c j) (facTo U c j) (j + 1 + t)) Hy.out hy)
          obtain ⟨q0, q1, q2, ⟨w3, q3, hE⟩, q4, q5, w6, q6, hG⟩ := (HF.out.below hBr2).at hy
          have hde : co + (j + 1 + t) * 7 = co + (j + 1) * 7 + t * 7 := by omega
          rw [hde] at q0 q1 q2 q3 q4 q5 q6
          have had2 := Hadd.out (by omega)
          subst had2
          have HE := hide hE
          have HG := hide hG
          obtain ⟨g1, g3, _, _, rfl, -, -, -, -⟩ := hE
          obtain ⟨h1, h3, _, _, rfl, -, -, -, -⟩ := hG
          have Hgz := hide (Hc.out _ (List.mem_of_getElem? hy))
          simp only at q0 q1 q2 q3 q4 q5 q6 HE HG Hgz Hfj
          generalize foldN (facJ U c j) (facTo U c j) (j + 1 + t) = stt at *
          clear hy hde
          have k0 : wr.cell? ⟨gw, 0, none⟩ = some (.bool xn) := HX2.out 0 _ rfl
          have k1 : wr.cell? ⟨gw, 1, none⟩ = some (.bool xv) := HX2.out 1 _ rfl
          have k2 : wr.cell? ⟨gw, 2, none⟩ = some (.int .i64 xi) := HX2.out 2 _ rfl
          have k3 : wr.cell? ⟨gw, 3, none⟩ = some (.slice e1 (Fo.len xk) e3) := HX2.out 3 _ rfl
          have k4 : wr.cell? ⟨gw, 4, none⟩ = some (.bool xv') := HX2.out 4 _ rfl
          have k5 : wr.cell? ⟨gw, 5, none⟩ = some (.int .i64 xi') := HX2.out 5 _ rfl
          have k6 : wr.cell? ⟨gw, 6, none⟩ = some (.slice f1 (Fo.len xk') f3) := HX2.out 6 _ rfl
          go_upto_region 8 with fail
          generalize hW5 : wr.alloc (.cells #[.bool yn, .bool yv, .int .i64 yi, .slice g1 (Fo.len yk) g3, .bool yv', .int .i64 yi', .slice h1 (Fo.len yk') h3] 57) = W5
          have hb5 : Below wr.heap.size wr W5 := by rw [← hW5]; exact below_alloc _ _
          have HY5 : Hid (RowAt W5 wr.heap.size [.bool yn, .bool yv, .int .i64 yi, .slice g1 (Fo.len yk) g3, .bool yv', .int .i64 yi', .slice h1 (Fo.len yk') h3]) := by
            rw [Hid, ← hW5]
            exact RowAt.new wr #[.bool yn, .bool yv, .int .i64 yi, .slice g1 (Fo.len yk) g3, .bool yv', .int .i64 yi', .slice h1 (Fo.len yk') h3] 57
          clear hW5 q0 q1 q2 q3 q4 q5 q6
          replace k0 := grow_cell hb5 _ _ k0
          replace k1 := grow_cell hb5 _ _ k1
          replace k2 := grow_cell hb5 _ _ k2
          replace k3 := grow_cell hb5 _ _ k3
          replace k4 := grow_cell hb5 _ _ k4
          replace k5 := grow_cell hb5 _ _ k5
          replace k6 := grow_cell hb5 _ _ k6
          have r0 : W5.cell? ⟨wr.heap.size, 0, none⟩ = some (.bool yn) := HY5.out 0 _ rfl
          have r1 : W5.cell? ⟨wr.heap.size, 1, none⟩ = some (.bool yv) := HY5.out 1 _ rfl
          have r2 : W5.cell? ⟨wr.heap.size, 2, none⟩ = some (.int .i64 yi) := HY5.out 2 _ rfl
          have r3 : W5.cell? ⟨wr.heap.size, 3, none⟩ = some (.slice g1 (Fo.len yk) g3) := HY5.out 3 _ rfl
          have r4 : W5.cell? ⟨wr.heap.size, 4, none⟩ = some (.bool yv') := HY5.out 4 _ rfl
          have r5 : W5.cell? ⟨wr.heap.size, 5, none⟩ = some (.int .i64 yi') := HY5.out 5 _ rfl
          have r6 : W5.cell? ⟨wr.heap.size, 6, none⟩ = some (.slice h1 (Fo.len yk') h3) := HY5.out 6 _ rfl
          have HL5 := hide (HL2.out.below hb5)
          have HX5 := hide (HX2.out.below hb5)
          have hB5 := below_step hBr2 hb5
          cases xn
          case' true =>
            have Hend : Hid (LSt w.heap.size W5 w.heap.size (foldN (facJ U c j) (facTo U c j) (j + 1 + (t + 1))).1 (foldN (facJ U c j) (facTo U c j) (j + 1 + (t + 1))).2 v2 xs2) := by
              rw [Hid, Hsj.out, Hfj.out, if_pos (.inr (.inl rfl))]; exact HL5.out
            clear Hfj
            go_wp2_with fail
            go_roundw
            case rel => exact ⟨t + 1, v2, xs2, by omega, by go_num, Hend.out, hB5, HX5.out⟩
            case measure => simp [intOf]; omega
          case' false =>
            cases yn
            case' true =>
              have Hend : Hid (LSt w.heap.size W5 w.heap.size (foldN (facJ U c j) (facTo U c j) (j + 1 + (t + 1))).1 (foldN (facJ U c j) (facTo U c j) (j + 1 + (t + 1))).2 v2 xs2) := by
                rw [Hid, Hsj.out, Hfj.out, if_pos (.inr (.inr rfl))]; exact HL5.out
              clear Hfj
              go_wp2_with fail
              go_roundw
              case rel => exact ⟨t + 1, v2, xs2, by omega, by go_num, Hend.out, hB5, HX5.out⟩
              case measure => simp [intOf]; omega
            case' false =>
              have Hfk : Hid (foldN (facJ U c j) (facTo U c j) (j + 1 + (t + 1)) = foldN (facK U c j (false, ((xv, xi), xk), ((xv', xi'), xk')) (false, ((yv, yi), yk), ((yv', yi'), yk'))) stt 4) := by
                rw [Hid, Hsj.out, Hfj.out, if_neg (by simp; omega)]
              have HcW := hide (fun (w' : World) (hb : Below W5.heap.size W5 w') => without_any c (.slice (some ⟨cb, co, none⟩) c.length c3) j w' (HC.out.below (below_step hB5 hb)) hlt (by omega))
              have HcF := hide (fun (w' : World) (hb : Below W5.heap.size W5 w') (rv : Value) (hR : CIn w' (butC c j) rv) => comeFactor_any (x := (false, ((xv, xi), xk), ((xv', xi'), xk'))) (y := (false, ((yv, yi), yk), ((yv', yi'), yk'))) (a1 := e1) (a3 := e3) (d1 := f1) (d3 := f3) (e1 := g1) (e3 := g3) (f1 := h1) (f3 := h3) HU.out (HL5.out.below hb) hR (HAw.out.below (below_step hB5 hb)) (HDw.out.below (below_step hB5 hb)) ((HE.out.below hb5).below hb) ((HG.out.below hb5).below hb) Hc.out Hgy.out Hgz.out h4 Hst.out)
              simp only at HcF
              have hcur : Below W5.heap.size W5 W5.drew := (Below.refl _ _).drew
              clear Hfj
              generalize hgv : wr.heap.size = gv at *
              go_upto_region 9 with fail
              go_region_held3 (fun w' => w'.cell? ⟨gw, 0, none⟩ = some (.bool false) ∧ w'.cell? ⟨gw, 1, none⟩ = some (.bool xv) ∧ w'.cell? ⟨gw, 2, none⟩ = some (.int .i64 xi) ∧ w'.cell? ⟨gw, 3, none⟩ = some (.slice e1 (Fo.len xk) e3) ∧ w'.cell? ⟨gw, 4, none⟩ = some (.bool xv') ∧ w'.cell? ⟨gw, 5, none⟩ = some (.int .i64 xi') ∧ w'.cell? ⟨gw, 6, none⟩ = some (.slice f1 (Fo.len xk') f3) ∧ w'.cell? ⟨gv, 0, none⟩ = some (.bool false) ∧ w'.cell? ⟨gv, 1, none⟩ = some (.bool yv) ∧ w'.cell? ⟨gv, 2, none⟩ = some (.int .i64 yi) ∧ w'.cell? ⟨gv, 3, none⟩ = some (.slice g1 (Fo.len yk) g3) ∧ w'.cell? ⟨gv, 4, none⟩ = some (.bool yv') ∧ w'.cell? ⟨gv, 5, none⟩ = some (.int .i64 yi') ∧ w'.cell? ⟨gv, 6, none⟩ = some (.slice h1 (Fo.len yk') h3))
                (first
                  | (with_reducible exact ⟨grow_cell hcur _ _ k0, grow_cell hcur _ _ k1, grow_cell hcur _ _ k2, grow_cell hcur _ _ k3, grow_cell hcur _ _ k4, grow_cell hcur _ _ k5, grow_cell hcur _ _ k6, grow_cell hcur _ _ r0, grow_cell hcur _ _ r1, grow_cell hcur _ _ r2, grow_cell hcur _ _ r3, grow_cell hcur _ _ r4, grow_cell hcur _ _ r5, grow_cell hcur _ _ r6⟩)
                  | (with_reducible exact hS)
                  | go_keep)
                (first
                  | (go_at_call 23; with_reducible refine (HcW.out _ hcur).mono ?_; rintro e wS ⟨rv, rfl, hR, hbS⟩; replace hcur := below_step hcur hbS; have HR := hide hR; clear hR)
                  | (go_at_call 24; with_reducible refine (HcF.out _ hcur _ HR.out).mono ?_; rintro e wF ⟨rfl, v4, xs4, hK⟩; have hkk := hK.kpt (HL5.out.below hcur); have hS : wF.cell? ⟨gw, 0, none⟩ = some (.bool false) ∧ wF.cell? ⟨gw, 1, none⟩ = some (.bool xv) ∧ wF.cell? ⟨gw, 2, none⟩ = some (.int .i64 xi) ∧ wF.cell? ⟨gw, 3, none⟩ = some (.slice e1 (Fo.len xk) e3) ∧ wF.cell? ⟨gw, 4, none⟩ = some (.bool xv') ∧ wF.cell? ⟨gw, 5, none⟩ = some (.int .i64 xi') ∧ wF.cell? ⟨gw, 6, none⟩ = some (.slice f1 (Fo.len xk') f3) ∧ wF.cell? ⟨gv, 0, none⟩ = some (.bool false) ∧ wF.cell? ⟨gv, 1, none⟩ = some (.bool yv) ∧ wF.cell? ⟨gv, 2, none⟩ = some (.int .i64 yi) ∧ wF.cell? ⟨gv, 3, none⟩ = some (.slice g1 (Fo.len yk) g3) ∧ wF.cell? ⟨gv, 4, none⟩ = some (.bool yv') ∧ wF.cell? ⟨gv, 5, none⟩ = some (.int .i64 yi') ∧ wF.cell? ⟨gv, 6, none⟩ = some (.slice h1 (Fo.len yk') h3) := ⟨kpt_lit hkk (grow_cell hcur _ _ k0) (grow_cell hcur _ _ k1) 0 (grow_cell hcur _ _ k0), kpt_lit hkk (grow_cell hcur _ _ k0) (grow_cell hcur _ _ k1) 1 (grow_cell hcur _ _ k1), kpt_lit hkk (grow_cell hcur _ _ k0) (grow_cell hcur _ _ k1) 2 (grow_cell hcur _ _ k2), kpt_lit hkk (grow_cell hcur _ _ k0) (grow_cell hcur _ _ k1) 3 (grow_cell hcur _ _ k3), kpt_lit hkk (grow_cell hcur _ _ k0) (grow_cell hcur _ _ k1) 4 (grow_cell hcur _ _ k4), kpt_lit hkk (grow_cell hcur _ _ k0) (grow_cell hcur _ _ k1) 5 (grow_cell hcur _ _ k5), kpt_lit hkk (grow_cell hcur _ _ k0) (grow_cell hcur _ _ k1) 6 (grow_cell hcur _ _ k6), kpt_lit hkk (grow_cell hcur _ _ r0) (grow_cell hcur _ _ r1) 0 (grow_cell hcur _ _ r0), kpt_lit hkk (grow_cell hcur _ _ r0) (grow_cell hcur _ _ r1) 1 (grow_cell hcur _ _ r1), kpt_lit hkk (grow_cell hcur _ _ r0) (grow_cell hcur _ _ r1) 2 (grow_cell hcur _ _ r2), kpt_lit hkk (grow_cell hcur _ _ r0) (grow_cell hcur _ _ r1) 3 (grow_cell hcur _ _ r3), kpt_lit hkk (grow_cell hcur _ _ r0) (grow_cell hcur _ _ r1) 4 (grow_cell hcur _ _ r4), kpt_lit hkk (grow_cell hcur _ _ r0) (grow_cell hcur _ _ r1) 5 (grow_cell hcur _ _ r5), kpt_lit hkk (grow_cell hcur _ _ r0) (grow_cell hcur _ _ r1) 6 (grow_cell hcur _ _ r6)⟩; have HK := hide hK; have Hcur := hide hcur; clear hK))
              all_goals
                have Hend : Hid (LSt w.heap.size wF w.heap.size (foldN (facJ U c j) (facTo U c j) (j + 1 + (t + 1))).1 (foldN (facJ U c j) (facTo U c j) (j + 1 + (t + 1))).2 v4 xs4) := by
                  rw [Hid, Hfk.out]; exact HK.out.L
                have Hbe := hide (HK.out.under (HL5.out.below Hcur.out) (below_step hB5 Hcur.out))
                have Hxe := hide ((HX5.out.below Hcur.out).kpt hkk)
                clear hS hkk
                go_wp2_with fail
                go_roundw
                case rel => exact ⟨t + 1, v4, xs4, by omega, by go_num, Hend.out, Hbe.out, Hxe.out⟩
                case measure => simp [intOf]; omega
        · have hte : t = c.length - (j + 1) := by omega
          subst hte
          have Hend : Hid (LSt w.heap.size wr w.heap.size (facTo U c (j + 1)).1 (facTo U c (j + 1)).2 v2 xs2) := by
            have := HL2.out
            rw [show j + 1 + (c.length - (j + 1)) = c.length by omega] at this
            rw [Hid, Hsc.out]
            exact this
          go_wp2_with fail
          go_roundw
          case rel => exact ⟨j + 1, v2, xs2, by omega, by go_num, Hend.out, hBr2⟩
          case measure => simp [intOf]; omega
    · have hje : j = c.length := by omega
      subst hje
      have Hfin := hide HL.out.csin
      obtain ⟨z1, z3, hv⟩ := HL.out.slice
      have k0 := HL.out.c0
      have k1 := HL.out.c1
      have Hvv := hide hv
      clear hv had
      go_upto_region 12 with fail
      go_region
      go_wp2_with fail
      go_ret2
      exact ⟨v, rfl, Hfin.out.below (Below.refl _ _).drew, hBr.drew⟩

set_option maxRecDepth 100000 in
set_option maxHeartbeats 8000000 in
theorem progSup_any {U : Tm → Tm → Option Sb} (hU : UOK U) (c : Cl) (cv : Value) (d : Cl) (dv : Value) (w : World) (hC : CIn w c cv) (hc : ∀ l ∈ c, G12L l) (h4 : c.length ≤ 4) (hD : CIn w d dv) (hd4 : d.length ≤ 4) (hd : ∀ l ∈ d, (okT l.2.1 ∧ narT l.2.1) ∧ (okT l.2.2 ∧ narT l.2.2)) (hdd : ∀ l ∈ d.map (mapL (subT (ren 5))), G12L l) :
    Calls Tryz.prog 12 #[cv, dv] w (RulePost (supTo U c (d.map (mapL (subT (ren 5)))) c.length) w) := by
  have HC := hide hC
  have Hc := hide hc
  have HU := hide hU
  have HD := hide hD
  have Hd := hide hd
  have Hdd := hide hdd
  obtain ⟨dd1, dd3, rfl⟩ := slice_of_cl hD
  clear hD hd hdd
  obtain ⟨c1, c3, cb, co, rfl, had, hlc, hcm, hF⟩ := hC
  unfold maxLen at hcm
  have HF := hide hF
  clear hF hc hU
  go_enter Tryz.func12, Tryz.ntmps12
  go_upto_region 2 with fail
  have Hst := hide (lst_start w 52)
  have hB1 : Below w.heap.size w (w.alloc (.cells #[.slice none 0 0, .bool false] 52)) := below_alloc _ _
  generalize w.alloc (.cells #[.slice none 0 0, .bool false] 52) = W1 at *
  go_wp2_with fail
  refine (renameC_any 5 d _ W1 (HD.out.below hB1) (fun l hl => ⟨(Hd.out l hl).1.2, (Hd.out l hl).2.2⟩) (by omega)).mono ?_
  rintro e w2 ⟨gd, rfl, hDD, hb2⟩
  have hB2 := below_step hB1 hb2
  have HL2 := hide (Hst.out.below hb2)
  obtain ⟨dd, hde⟩ : ∃ dd, dd = d.map (mapL (subT (ren 5))) := ⟨_, rfl⟩
  rw [← hde] at hDD Hdd ⊢
  have hddl : dd.length ≤ 4 := by rw [hde, List.length_map]; exact hd4
  have HDD := hide hDD
  have HB2 := hide hB2
  generalize hgl : w.heap.size = gl at HL2 ⊢
  have Hde := hide hde
  clear hDD hde hb2 hB1 Hst hB2
  go_wp2_with fail
  go_loopw [15] (fun i wr => ∃ (j : Nat) (v : Value) (xs : List Value), j ≤ c.length ∧ i = .int .i64 j ∧ LK gl gl w2 (.slice none 0 0) (supTo U c dd j) v xs wr) (fun i _ => c.length - (intOf i).toNat)
  case atStart => exact ⟨0, _, _, Nat.zero_le _, rfl, LK.start (st := ([], false)) HL2.out⟩
  case round =>
    obtain ⟨j, v, xs, hj, rfl, hK⟩ := hrel
    have HK := hide hK
    clear hK
    have hBr : Below w.heap.size w wr := by
      have := HK.out.under HL2.out (hgl ▸ HB2.out)
      rw [hgl]
      exact this
    have HBr := hide hBr
    by_cases hlt : j < c.length
    · have hlt' : (j : Int) < (c.length : Int) := by omega
      obtain ⟨⟨xn, ⟨⟨xv, xi⟩, xk⟩, ⟨xv', xi'⟩, xk'⟩, hy⟩ : ∃ y, c[j]? = some y := ⟨c[j]'hlt, by simp⟩
      obtain ⟨p0, p1, p2, ⟨u3, p3, hA⟩, p4, p5, u6, p6, hD⟩ := (HF.out.below hBr).at hy
      obtain ⟨-, -, -, ⟨u3w, p3w, hAw⟩, -, -, u6w, p6w, hDw⟩ := HF.out.at hy
      have hu3 : u3w = u3 := by have := grow_cell hBr _ _ p3w; rw [p3] at this; exact (Option.some.inj this).symm
      have hu6 : u6w = u6 := by have := grow_cell hBr _ _ p6w; rw [p6] at this; exact (Option.some.inj this).symm
      subst hu3 hu6
      have HAw := hide hAw
      have HDw := hide hDw
      clear p3w p6w hAw hDw
      have ha1 : c1 = some ⟨cb, co, none⟩ := had (by omega)
      subst ha1
      obtain ⟨e1, e3, _, _, rfl, -, -, -, -⟩ := hA
      obtain ⟨f1, f3, _, _, rfl, -, -, -, -⟩ := hD
      have Hgy := hide (Hc.out _ (List.mem_of_getElem? hy))
      have Hln : Hid ((supTo U c dd j).1.length ≤ 768) := by
        have h1 := supTo_len (U := U) (c := c) Hdd.out hddl j
        rw [Hid]; omega
      have Hsc : Hid (supTo U c dd (j + 1) = supI U c dd (supTo U c dd j) j) := foldN_succ _ _ _
      have Hsi := hide (supI_eq (U := U) (d := dd) (supTo U c dd j) hy)
      have Hlk : Hid (∀ k, k ≤ 2 → (foldN (supK U c j (xn, ((xv, xi), xk), ((xv', xi'), xk')) dd) (supTo U c dd j) k).1.length ≤ 2000) := fun k hk => by
        have h1 := foldN_len (m := 96) (supK_len (U := U) (c := c) (i := j) (x := (xn, ((xv, xi), xk), ((xv', xi'), xk'))) Hdd.out hddl) (supTo U c dd j) k
        have h2 := Hln.out
        omega
      simp only at p0 p1 p2 p3 p4 p5 p6 Hgy
      clear hy had
      generalize supTo U c dd j = stj at *
      go_upto_region 6 with fail
      generalize hW4 : wr.alloc (.cells #[.bool xn, .bool xv, .int .i64 xi, .slice e1 (Fo.len xk) e3, .bool xv', .int .i64 xi', .slice f1 (Fo.len xk') f3] 57) = W4
      have hb4 : Below wr.heap.size wr W4 := by rw [← hW4]; exact below_alloc _ _
      have HX4 : Hid (RowAt W4 wr.heap.size [.bool xn, .bool xv, .int .i64 xi, .slice e1 (Fo.len xk) e3, .bool xv', .int .i64 xi', .slice f1 (Fo.len xk') f3]) := by
        rw [Hid, ← hW4]
        exact RowAt.new wr #[.bool xn, .bool xv, .int .i64 xi, .slice e1 (Fo.len xk) e3, .bool xv', .int .i64 xi', .slice f1 (Fo.len xk') f3] 57
      clear hW4 p0 p1 p2 p3 p4 p5 p6 hBr
      have p0 : W4.cell? ⟨wr.heap.size, 0, none⟩ = some (.bool xn) := HX4.out 0 _ rfl
      have p1 : W4.cell? ⟨wr.heap.size, 1, none⟩ = some (.bool xv) := HX4.out 1 _ rfl
      have p2 : W4.cell? ⟨wr.heap.size, 2, none⟩ = some (.int .i64 xi) := HX4.out 2 _ rfl
      have p3 : W4.cell? ⟨wr.heap.size, 3, none⟩ = some (.slice e1 (Fo.len xk) e3) := HX4.out 3 _ rfl
      have p4 : W4.cell? ⟨wr.heap.size, 4, none⟩ = some (.bool xv') := HX4.out 4 _ rfl
      have p5 : W4.cell? ⟨wr.heap.size, 5, none⟩ = some (.int .i64 xi') := HX4.out 5 _ rfl
      have p6 : W4.cell? ⟨wr.heap.size, 6, none⟩ = some (.slice f1 (Fo.len xk') f3) := HX4.out 6 _ rfl
      have HK4 := hide (HK.out.below hb4)
      clear HX4
      cases xn
      case' true =>
        have Hend : Hid (LK gl gl w2 (.slice none 0 0) (supTo U c dd (j + 1)) v xs W4) := by
          have := HK4.out
          rw [Hid, Hsc.out, Hsi.out, foldN_skip (fun s k hk => by unfold supK; rw [if_pos (.inl (by rw [turnP_neg]))])]
          exact this
        go_wp2_with fail
        go_roundw
        case rel => exact ⟨j + 1, v, xs, by omega, by go_num, Hend.out⟩
        case measure => simp [intOf]; omega
      case' false =>
        go_wp2_with fail
        refine (bothWays_any (false, ((xv, xi), xk), ((xv', xi'), xk')) e1 f1 _ _ _ _ W4).mono ?_
        rintro e w5 ⟨rfl, -, hb5⟩
        have hb45 := below_step hb4 hb5
        have HK5 := hide (HK.out.below hb45)
        have HL5 := hide HK5.out.L
        have HB5 := hide (below_step HBr.out hb45)
        have HD5 := hide (((HK5.out.kpt HL2.out)).cin HDD.out)
        generalize W4.heap.size = gx at *
        clear p0 p1 p2 p3 p4 p5 p6 hb4 hb5 hb45 HK4
        simp only
        go_wp2_with fail
        generalize hgw : wr.heap.size = gw at *
        generalize wr = wo at *
        go_loopw [24] (fun q wr => ∃ (k : Nat) (v2 : Value) (xs2 : List Value), k ≤ 2 ∧ q = .int .i64 k ∧ LK gl gl w5 v (foldN (supK U c j (false, ((xv, xi), xk), ((xv', xi'), xk')) dd) stj k) v2 xs2 wr) (fun q _ => 2 - (intOf q).toNat)
        case atStart => exact ⟨0, v, xs, by omega, rfl, LK.start HL5.out⟩
        case round =>
          obtain ⟨k, v2, xs2, hk, rfl, hK2⟩ := hrel
          have HK2 := hide hK2
          clear hK2
          by_cases hkl : k < 2
          · have hkl' : (k : Int) < 2 := by omega
            have HBk : Hid (Below w.heap.size w wr) := by
              have := HK2.out.under HL5.out (hgl ▸ HB5.out)
              rw [Hid, hgl]
              exact this
            have Hkp2 := hide (HK2.out.kpt HL5.out)
            obtain ⟨ta1, ta3, td1, td3, hTA, hTD, hTx⟩ := way_at (l := (false, ((xv, xi), xk), ((xv', xi'), xk'))) hkl (HAw.out.below HBk.out) (HDw.out.below HBk.out)
            have Hgt := hide (turn_both (yes := decide (k = 1)) Hgy.out)
            have Hsk := hide (foldN_succ (supK U c j (false, ((xv, xi), xk), ((xv', xi'), xk')) dd) stj k)
            have Hst2 := hide (Hlk.out k (by omega))
            have htn := turnP_neg (decide (k = 1)) (false, ((xv, xi), xk), ((xv', xi'), xk'))
            have Hsu : Hid (supK U c j (false, ((xv, xi), xk), ((xv', xi'), xk')) dd (foldN (supK U c j (false, ((xv, xi), xk), ((xv', xi'), xk')) dd) stj k) k = if (turnL (decide (k = 1)) (false, ((xv, xi), xk), ((xv', xi'), xk'))).1 = true ∨ (turnL (decide (k = 1)) (false, ((xv, xi), xk), ((xv', xi'), xk'))).2.1.1.1 = true then foldN (supK U c j (false, ((xv, xi), xk), ((xv', xi'), xk')) dd) stj k else foldN (supJ U c j (turnL (decide (k = 1)) (false, ((xv, xi), xk), ((xv', xi'), xk'))) dd) (foldN (supK U c j (false, ((xv, xi), xk), ((xv', xi'), xk')) dd) stj k) dd.length) := rfl
            generalize turnL (decide (k = 1)) (false, ((xv, xi), xk), ((xv', xi'), xk')) = tx at *
            generalize foldN (supK U c j (false, ((xv, xi), xk), ((xv', xi'), xk')) dd) stj k = stk at *
            obtain ⟨tn, ⟨⟨tv, ti⟩, tk⟩, ⟨⟨tv', ti'⟩, tk'⟩⟩ := tx
            simp only at hTA hTD hTx Hgt Hsu htn
            subst htn
            have HTA := hide hTA
            have HTD := hide hTD
            have hix := fun w' => hTx gx w'
            unfold withF at hix
            generalize (if k = 1 then 55 else 54) = fn at hix
            clear hTA hTD hTx
            go_upto_region 10 with fail
            generalize hW6 : wr.alloc (.cells #[.bool tv, .int .i64 ti, .slice ta1 (Fo.len tk) ta3, .bool tv', .int .i64 ti', .slice td1 (Fo.len tk') td3, .func (.func fn) #[] #[.pointer (some ⟨gx, 0, none⟩)]] 67) = W6
            have hb6 : Below wr.heap.size wr W6 := by rw [← hW6]; exact below_alloc _ _
            have HX6 : Hid (RowAt W6 wr.heap.size [.bool tv, .int .i64 ti, .slice ta1 (Fo.len tk) ta3, .bool tv', .int .i64 ti', .slice td1 (Fo.len tk') td3, .func (.func fn) #[] #[.pointer (some ⟨gx, 0, none⟩)]]) := by
              rw [Hid, ← hW6]
              exact RowAt.new wr #[.bool tv, .int .i64 ti, .slice ta1 (Fo.len tk) ta3, .bool tv', .int .i64 ti', .slice td1 (Fo.len tk') td3, .func (.func fn) #[] #[.pointer (some ⟨gx, 0, none⟩)]] 67
            clear hW6 hix
            have t0 : W6.cell? ⟨wr.heap.size, 0, none⟩ = some (.bool tv) := HX6.out 0 _ rfl
            have t1 : W6.cell? ⟨wr.heap.size, 1, none⟩ = some (.int .i64 ti) := HX6.out 1 _ rfl
            have t2 : W6.cell? ⟨wr.heap.size, 2, none⟩ = some (.slice ta1 (Fo.len tk) ta3) := HX6.out 2 _ rfl
            have t3 : W6.cell? ⟨wr.heap.size, 3, none⟩ = some (.bool tv') := HX6.out 3 _ rfl
            have t4 : W6.cell? ⟨wr.heap.size, 4, none⟩ = some (.int .i64 ti') := HX6.out 4 _ rfl
            have t5 : W6.cell? ⟨wr.heap.size, 5, none⟩ = some (.slice td1 (Fo.len tk') td3) := HX6.out 5 _ rfl
            have t6 : W6.cell? ⟨wr.heap.size, 6, none⟩ = some (.func (.func fn) #[] #[.pointer (some ⟨gx, 0, none⟩)]) := HX6.out 6 _ rfl
            have HK6 := hide (HK2.out.below hb6)
            have HL6 := hide HK6.out.L
            cases tv
            case' true =>
              have Hend : Hid (LK gl gl w5 v (foldN (supK U c j (false, ((xv, xi), xk), ((xv', xi'), xk')) dd) stj (k + 1)) v2 xs2 W6) := by
                have := HK6.out
                rw [Hid, Hsk.out, Hsu.out, if_pos (.inr rfl)]
                exact this
              go_wp2_with fail
              go_roundw
              case rel => exact ⟨k + 1, v2, xs2, by omega, by go_num, Hend.out⟩
              case measure => simp [intOf]; omega
            case' false =>
              have Hsq : Hid (foldN (supK U c j (false, ((xv, xi), xk), ((xv', xi'), xk')) dd) stj (k + 1) = foldN (supJ U c j (false, ((false, ti), tk), ((tv', ti'), tk')) dd) stk dd.length) := by
                rw [Hid, Hsk.out, Hsu.out, if_neg (by simp)]
              have HB6 := hide (below_step HBk.out hb6)
              have HcW := hide (fun (w' : World) (hb : Below W6.heap.size W6 w') => without_any c (.slice (some ⟨cb, co, none⟩) c.length c3) j w' (HC.out.below (below_step HB6.out hb)) hlt (by omega))
              have HcF := hide (fun (w' : World) (hb : Below W6.heap.size W6 w') (rv : Value) (hR : CIn w' (butC c j) rv) => comeSup_any (a := (false, ((false, ti), tk), ((tv', ti'), tk'))) (a1 := ta1) (a3 := ta3) (d1 := td1) (d3 := td3) (fn := fn) (g0 := gx) HU.out (HL6.out.below hb) hR ((HTA.out.below hb6).below hb) ((HTD.out.below hb6).below hb) (((Hkp2.out.cin HD5.out).below hb6).below hb) Hc.out Hgt.out Hdd.out h4 hddl (by have := Hst2.out; omega))
              simp only at HcF
              have hcur : Below W6.heap.size W6 W6.drew := (Below.refl _ _).drew
              clear Hsu Hsk hb6
              generalize hgv : wr.heap.size = gv at *
              go_upto_region 11 with fail
              go_region_held3 (fun w' => w'.cell? ⟨gv, 0, none⟩ = some (.bool false) ∧ w'.cell? ⟨gv, 1, none⟩ = some (.int .i64 ti) ∧ w'.cell? ⟨gv, 2, none⟩ = some (.slice ta1 (Fo.len tk) ta3) ∧ w'.cell? ⟨gv, 3, none⟩ = some (.bool tv') ∧ w'.cell? ⟨gv, 4, none⟩ = some (.int .i64 ti') ∧ w'.cell? ⟨gv, 5, none⟩ = some (.slice td1 (Fo.len tk') td3) ∧ w'.cell? ⟨gv, 6, none⟩ = some (.func (.func fn) #[] #[.pointer (some ⟨gx, 0, none⟩)]))
                (first
                  | (with_reducible exact ⟨grow_cell hcur _ _ t0, grow_cell hcur _ _ t1, grow_cell hcur _ _ t2, grow_cell hcur _ _ t3, grow_cell hcur _ _ t4, grow_cell hcur _ _ t5, grow_cell hcur _ _ t6⟩)
                  | (with_reducible exact hS)
                  | go_keep)
                (first
                  | (go_at_call 23; with_reducible refine (HcW.out _ hcur).mono ?_; rintro e wS ⟨rv, rfl, hR, hbS⟩; replace hcur := below_step hcur hbS; have HR := hide hR; clear hR)
                  | (go_at_call 27; with_reducible refine (HcF.out _ hcur _ HR.out).mono ?_; rintro e wF ⟨rfl, v4, xs4, hK4⟩; have hkk := hK4.kpt (HL6.out.below hcur); have hS : wF.cell? ⟨gv, 0, none⟩ = some (.bool false) ∧ wF.cell? ⟨gv, 1, none⟩ = some (.int .i64 ti) ∧ wF.cell? ⟨gv, 2, none⟩ = some (.slice ta1 (Fo.len tk) ta3) ∧ wF.cell? ⟨gv, 3, none⟩ = some (.bool tv') ∧ wF.cell? ⟨gv, 4, none⟩ = some (.int .i64 ti') ∧ wF.cell? ⟨gv, 5, none⟩ = some (.slice td1 (Fo.len tk') td3) ∧ wF.cell? ⟨gv, 6, none⟩ = some (.func (.func fn) #[] #[.pointer (some ⟨gx, 0, none⟩)]) := ⟨kpt_lit hkk (grow_cell hcur _ _ t0) (grow_cell hcur _ _ t1) 0 (grow_cell hcur _ _ t0), kpt_lit hkk (grow_cell hcur _ _ t0) (grow_cell hcur _ _ t1) 1 (grow_cell hcur _ _ t1), kpt_lit hkk (grow_cell hcur _ _ t0) (grow_cell hcur _ _ t1) 2 (grow_cell hcur _ _ t2), kpt_lit hkk (grow_cell hcur _ _ t0) (grow_cell hcur _ _ t1) 3 (grow_cell hcur _ _ t3), kpt_lit hkk (grow_cell hcur _ _ t0) (grow_cell hcur _ _ t1) 4 (grow_cell hcur _ _ t4), kpt_lit hkk (grow_cell hcur _ _ t0) (grow_cell hcur _ _ t1) 5 (grow_cell hcur _ _ t5), kpt_lit hkk (grow_cell hcur _ _ t0) (grow_cell hcur _ _ t1) 6 (grow_cell hcur _ _ t6)⟩; have HKF := hide hK4; have Hcur := hide hcur; clear hK4))
              all_goals
                have Hend : Hid (LK gl gl w5 v (foldN (supK U c j (false, ((xv, xi), xk), ((xv', xi'), xk')) dd) stj (k + 1)) v4 xs4 wF) := by
                  rw [Hid, Hsq.out]; exact (HK6.out.below Hcur.out).trans HKF.out
                clear hS hkk
                go_wp2_with fail
                go_roundw
                case rel => exact ⟨k + 1, v4, xs4, by omega, by go_num, Hend.out⟩
                case measure => simp [intOf]; omega
          · have hk2 : k = 2 := by omega
            subst hk2
            have Hend : Hid (LK gl gl w2 (.slice none 0 0) (supTo U c dd (j + 1)) v2 xs2 wr) := by
              rw [Hid, Hsc.out, Hsi.out]
              exact HK5.out.trans HK2.out
            go_wp2_with fail
            go_roundw
            case rel => exact ⟨j + 1, v2, xs2, by omega, by go_num, Hend.out⟩
            case measure => simp [intOf]; omega
    · have hje : j = c.length := by omega
      subst hje
      have Hfin := hide HK.out.L.csin
      obtain ⟨z1, z3, hv⟩ := HK.out.L.slice
      have k0 := HK.out.L.c0
      have k1 := HK.out.L.c1
      have Hvv := hide hv
      clear hv had
      go_upto_region 14 with fail
      go_region
      go_wp2_with fail
      go_ret2
      obtain rfl := Hde.out
      exact ⟨v, rfl, Hfin.out.below (Below.refl _ _).drew, hBr.drew⟩

end Go.Proofs.YtaliegkkdhkfcacGreatDoor

namespace Go.Proofs.YtaliegkkdhkfcacGreatDoor
open Go.RowKit Go.Deep Go.ChangeShapes Go.WideShapes

/-- How long the table of a symbol with so many arguments is. -/
def mlen (z : Int) (n : Int) : Int := if n = 0 then 1 else if n = 1 then z else z * z
/-- A right model. -/
structure MR (s : List Int) (z : Int) (tb : List (List Int)) : Prop where
  z1 : 1 ≤ z
  z8 : z ≤ 8
  len : tb.length = s.length
  row : ∀ i, i < s.length → ((tb.getD i []).length : Int) = mlen z (s.getD i 0)
  all : ∀ i, i < s.length → ∀ x ∈ tb.getD i [], 0 ≤ x ∧ x < z
/-- So many arguments' numbers, the first one counts most. -/
def pw (z : Int) : Nat → Int
  | 0 => 1
  | n + 1 => z * pw z n
theorem mlen_pw {z n : Int} {m : Nat} (h : (m : Int) = n) (hm : m ≤ 2) : mlen z n = pw z m := by
  subst h
  rcases (by omega : m = 0 ∨ m = 1 ∨ m = 2) with rfl | rfl | rfl
  · rfl
  · simp [mlen, pw]
  · simp [mlen, pw]
theorem digit_next {z a v p : Int} (hz : 1 ≤ z) (ha : 0 ≤ a) (hp : a < p) (hv : 0 ≤ v) (hvz : v < z) : 0 ≤ z * a + v ∧ z * a + v < z * p := by
  have h1 : 0 ≤ z * a := Int.mul_nonneg (by omega) ha
  have h2 : z * (a + 1) ≤ z * p := Int.mul_le_mul_of_nonneg_left (by omega) (by omega)
  rw [Int.mul_add] at h2
  omega
/-- Of right symbols, with so many arguments as they must have, and few variables: however great. -/
def sigF (s : List Int) : Fo → Prop
  | .nil => True
  | .node _ _ x k r => (aloneF s x (Fo.len k) = 0 ∧ sigF s k) ∧ sigF s r
def sigT (s : List Int) (t : Tm) : Prop := aloneF s t.1 (Fo.len t.2) = 0 ∧ sigF s t.2
theorem sig_walkF {s : List Int} : ∀ {F : Fo} {d : Int}, walkF s F d = 0 → sigF s F
  | .nil, _, _ => trivial
  | .node _ _ x k r, d, h => by
    obtain ⟨hT, hr⟩ := walkF_ok h
    obtain ⟨_, ha, hk⟩ := walkT_ok hT
    exact ⟨⟨ha, sig_walkF hk⟩, sig_walkF hr⟩
theorem sig_walk {s : List Int} {t : Tm} {d : Int} (h : walkT s t.1 t.2 d = 0) : sigT s t := by
  obtain ⟨_, ha, hk⟩ := walkT_ok h
  exact ⟨ha, sig_walkF hk⟩
end Go.Proofs.YtaliegkkdhkfcacGreatDoor

namespace Go.Proofs.YtaliegkkdhkfcacGreatDoor
open Go.RowKit Go.Deep Go.ChangeShapes Go.WideShapes

/-- By whatever bindings. -/
theorem some_bound {z : Int} {tb : List (List Int)} {e : Int → Int} (f : Int → Tm) (c : Cl) : someH z tb e (c.map (mapL (subT f))) = someH z tb (fun n => valT z tb e (f n)) c := by
  unfold someH
  rw [List.any_map]
  congr 1
  funext l
  simp only [Function.comp, litH, mapL, valT_sub]
end Go.Proofs.YtaliegkkdhkfcacGreatDoor

namespace Go.Proofs.YtaliegkkdhkfcacGreatDoor
open Go.RowKit Go.Deep Go.ChangeShapes Go.WideShapes

/-- Of right symbols, with so many arguments as they must have; of whatever variables. -/
def symF (s : List Int) : Fo → Prop
  | .nil => True
  | .node _ _ x k r => ((x.1 = false → aloneF s x (Fo.len k) = 0) ∧ symF s k) ∧ symF s r
def symT (s : List Int) (t : Tm) : Prop := (t.1.1 = false → aloneF s t.1 (Fo.len t.2) = 0) ∧ symF s t.2
theorem sym_sigF {s : List Int} : ∀ {F : Fo}, sigF s F → symF s F
  | .nil, _ => trivial
  | .node _ _ _ _ _, h => ⟨⟨fun _ => h.1.1, sym_sigF h.1.2⟩, sym_sigF h.2⟩
theorem sym_sig {s : List Int} {t : Tm} (h : sigT s t) : symT s t := ⟨fun _ => h.1, sym_sigF h.2⟩
theorem sym_mem {s : List Int} : ∀ {F : Fo}, symF s F → ∀ t ∈ F.list, symT s t
  | .nil, _, t, h => by simp [Fo.list] at h
  | .node _ _ x k r, h, t, ht => by
    simp only [Fo.list, List.mem_cons] at ht
    rcases ht with rfl | ht
    · exact h.1
    · exact sym_mem h.2 t ht
theorem sym_vr {s : List Int} (n : Int) : symT s (vr n) := ⟨fun h => (by cases h), trivial⟩
theorem sym_subF {s : List Int} {f : Int → Tm} (hf : ∀ n, symT s (f n)) : ∀ {F : Fo}, symF s F → symF s (subF f F)
  | .nil, _ => trivial
  | .node p q (b, n) k r, h => by
    rw [subF_node]
    refine ⟨?_, sym_subF hf h.2⟩
    cases b with
    | true => rw [subT_var]; exact hf n
    | false =>
      rw [subT_sym]
      refine ⟨fun e => ?_, sym_subF hf h.1.2⟩
      rw [subF_len]; exact h.1.1 e
theorem sym_sub {s : List Int} {f : Int → Tm} (hf : ∀ n, symT s (f n)) {t : Tm} (h : symT s t) : symT s (subT f t) := by
  obtain ⟨⟨b, n⟩, k⟩ := t
  cases b with
  | true => rw [subT_var]; exact hf n
  | false =>
    rw [subT_sym]
    refine ⟨fun e => ?_, sym_subF hf h.2⟩
    rw [subF_len]; exact h.1 e
theorem sym_bnd {s : List Int} {b : Sb} (h : ∀ p ∈ b, symT s p.2) (n : Int) : symT s (bnd b n) := by
  cases el : look b n with
  | none => rw [bnd_none el]; exact sym_vr n
  | some u => rw [bnd_some el]; exact h _ (look_mem el)
theorem sym_top {s : List Int} {b : Sb} {t : Tm} (h : ∀ p ∈ b, symT s p.2) (ht : symT s t) : symT s (top b t) := by
  unfold top
  split
  · cases el : look b t.1.2 with
    | none => exact ht
    | some u => exact h _ (look_mem el)
  · exact ht
theorem sym_run {s : List Int} : ∀ (n : Nat) (b b' : Sb) (L : List (Tm × Tm)), (∀ p ∈ b, symT s p.2) → (∀ p ∈ L, symT s p.1 ∧ symT s p.2) → runU n b L = some (some b') → ∀ p ∈ b', symT s p.2 := by
  intro n
  induction n with
  | zero => intro b b' L _ _ hr; simp [runU] at hr
  | succ n ih =>
    intro b b' L hb hL hr
    cases L with
    | nil =>
      simp only [runU, Option.some.injEq] at hr
      subst hr
      exact hb
    | cons p L =>
      cases hst : stepU b p.1 p.2 L with
      | none => simp [runU, hst] at hr
      | some q =>
        obtain ⟨b1, L1⟩ := q
        simp only [runU, hst] at hr
        have hp := hL p (by simp)
        have h1 := sym_top hb hp.1
        have h2 := sym_top hb hp.2
        have hL' : ∀ q ∈ L, symT s q.1 ∧ symT s q.2 := fun q hq => hL q (by simp [hq])
        rcases stepU_cases hst with ⟨_, _, _, rfl, rfl⟩ | ⟨x, y, hxy, hv, ha, rfl⟩ | ⟨e1, e2, _, hl, rfl, rfl⟩
        · exact ih _ _ _ hb hL' hr
        · refine ih _ _ _ ?_ hL' hr
          have hy : symT s y := by rcases hxy with ⟨_, rfl⟩ | ⟨_, rfl⟩ <;> assumption
          have hys := sym_sub (sym_bnd hb) hy
          unfold addS at ha
          split at ha
          · cases ha
          · cases ha
            intro q hq
            rcases List.mem_append.1 hq with hq | hq
            · obtain ⟨r, hr', rfl⟩ := List.mem_map.1 hq
              exact sym_sub (sym_bnd (fun t ht => by rw [List.mem_singleton.1 ht]; exact hys)) (hb r hr')
            · rw [List.mem_singleton.1 hq]; exact hys
        · refine ih _ _ _ hb (fun q hq => ?_) hr
          rcases List.mem_append.1 hq with hq | hq
          · have := List.of_mem_zip hq
            exact ⟨sym_mem h1.2 _ this.1, sym_mem h2.2 _ this.2⟩
          · exact hL' q hq
theorem sym_mgu {s : List Int} {n : Nat} {a b : Tm} {r : Sb} (ha : symT s a) (hb : symT s b) (h : runU n [] [(a, b)] = some (some r)) : ∀ p ∈ r, symT s p.2 :=
  sym_run n [] r [(a, b)] (fun p hp => by simp at hp) (fun p hp => by rw [List.mem_singleton.1 hp]; exact ⟨ha, hb⟩) h
theorem val_symF {s : List Int} {z : Int} {tb : List (List Int)} {e : Int → Int} (hm : MR s z tb) (hs : s.all okNum = true) (he : ∀ v, 0 ≤ e v ∧ e v < z) :
    ∀ {F : Fo}, symF s F → ∀ (a : Int) (i : Nat), 0 ≤ a → a < pw z i → 0 ≤ valF z tb e F a ∧ valF z tb e F a < pw z (Fo.len F + i)
  | .nil, _, a, i, h0, h1 => by simpa [valF, Fo.len] using ⟨h0, h1⟩
  | .node p q (b, n) k r, h, a, i, h0, h1 => by
    obtain ⟨⟨ha, hk⟩, hr⟩ := h
    have hv : 0 ≤ valT z tb e ((b, n), k) ∧ valT z tb e ((b, n), k) < z := by
      cases b with
      | true => simpa [valT] using he n
      | false =>
        obtain ⟨n0, n1, n2⟩ := alone_sym (ha rfl)
        have ih := val_symF hm hs he hk 0 0 (by omega) (by simp [pw])
        have hn : n.toNat < s.length := by omega
        have ok := List.all_eq_true.1 hs (s.getD n.toNat 0) (by rw [List.getD_eq_getElem?_getD, List.getElem?_eq_getElem hn]; simp)
        have ok' : 0 ≤ s.getD n.toNat 0 ∧ s.getD n.toNat 0 ≤ 2 := by simpa [okNum] using ok
        have hl := hm.row n.toNat hn
        rw [mlen_pw n2 (by omega)] at hl
        rw [Nat.add_zero] at ih
        have hlt : (valF z tb e k 0).toNat < (tb.getD n.toNat []).length := by omega
        have : (tb.getD n.toNat []).getD (valF z tb e k 0).toNat 0 ∈ tb.getD n.toNat [] := by
          rw [List.getD_eq_getElem?_getD (l := tb.getD n.toNat []), List.getElem?_eq_getElem hlt]; simp
        have := hm.all n.toNat hn _ this
        simpa [valT] using this
    rw [valF_node]
    have hd := digit_next hm.z1 h0 h1 hv.1 hv.2
    have := val_symF hm hs he hr (z * a + valT z tb e ((b, n), k)) (i + 1) hd.1 (by rw [pw]; exact hd.2)
    rw [show Fo.len (.node p q (b, n) k r) + i = Fo.len r + (i + 1) by simp [Fo.len]; omega]
    exact this
theorem val_sym {s : List Int} {z : Int} {tb : List (List Int)} {e : Int → Int} (hm : MR s z tb) (hs : s.all okNum = true) (he : ∀ v, 0 ≤ e v ∧ e v < z) {t : Tm} (h : symT s t) : 0 ≤ valT z tb e t ∧ valT z tb e t < z := by
  have h2 : symF s (.node 0 0 t.1 t.2 .nil) := ⟨h, trivial⟩
  have := val_symF hm hs he h2 0 0 (by omega) (by simp [pw])
  rw [valF_node] at this
  simpa [valF, Fo.len, pw] using this

theorem but_or {c : Cl} {i : Nat} {x q : Lt} (hx : c[i]? = some x) (hq : q ∈ c) : q = x ∨ q ∈ butC c i := by
  obtain ⟨j, hj⟩ := List.mem_iff_getElem?.1 hq
  by_cases h1 : j = i
  · subst h1; rw [hx] at hj; cases hj; exact .inl rfl
  · right
    unfold butC
    rw [List.mem_append]
    by_cases h2 : j < i
    · left
      exact List.mem_of_getElem? (i := j) (by rw [List.getElem?_take_of_lt h2]; exact hj)
    · right
      exact List.mem_of_getElem? (i := j - (i + 1)) (by rw [List.getElem?_drop, show i + 1 + (j - (i + 1)) = j by omega]; exact hj)
theorem but_has {c : Cl} {i j : Nat} {y : Lt} (hy : c[j]? = some y) (h : j ≠ i) : y ∈ butC c i := by
  unfold butC
  rw [List.mem_append]
  by_cases h2 : j < i
  · left
    exact List.mem_of_getElem? (i := j) (by rw [List.getElem?_take_of_lt h2]; exact hy)
  · right
    exact List.mem_of_getElem? (i := j - (i + 1)) (by rw [List.getElem?_drop, show i + 1 + (j - (i + 1)) = j by omega]; exact hy)
theorem litH_turn {z : Int} {tb : List (List Int)} {e : Int → Int} (yes : Bool) (l : Lt) : litH z tb e (turnL yes l) = litH z tb e l := by
  cases yes
  · rfl
  · simp only [litH, turnL, if_true]
    rw [Bool.beq_comm]
theorem turn_neg (yes : Bool) (l : Lt) : (turnL yes l).1 = l.1 := by cases yes <;> rfl
section
variable {s : List Int} {z : Int} {tb : List (List Int)} {c : Cl} {b : Sb}
/-- Bound, it is told of other things. -/
theorem hold_by (hm : MR s z tb) (hs : s.all okNum = true) (hb : ∀ p ∈ b, symT s p.2) {d : Cl} (h : ∀ e : Int → Int, (∀ v, 0 ≤ e v ∧ e v < z) → (∀ t u : Tm, subT (bnd b) t = subT (bnd b) u → valT z tb e t = valT z tb e u) → someH z tb e d = true) : holdsP z tb (d.map (mapL (subT (bnd b)))) := fun e he => by
  rw [some_bound]
  refine h _ (fun v => val_sym hm hs he (sym_bnd hb v)) (fun t u htu => ?_)
  rw [← valT_sub, ← valT_sub, htu]
theorem res_holds (hm : MR s z tb) (hs : s.all okNum = true) (hb : ∀ p ∈ b, symT s p.2) (h : holdsP z tb c) {i : Nat} {x : Lt} (hx : c[i]? = some x) (hn : x.1 = true) (hu : subT (bnd b) x.2.1 = subT (bnd b) x.2.2) : holdsP z tb ((butC c i).map (mapL (subT (bnd b)))) :=
  hold_by hm hs hb fun e he hv => by
    have h1 := h e he
    unfold someH at h1 ⊢
    rw [List.any_eq_true] at h1 ⊢
    obtain ⟨q, hq, hl⟩ := h1
    rcases but_or hx hq with rfl | hq
    · simp [litH, hn, hv _ _ hu] at hl
    · exact ⟨q, hq, hl⟩
theorem fac_holds (hm : MR s z tb) (hs : s.all okNum = true) (hb : ∀ p ∈ b, symT s p.2) (h : holdsP z tb c) {i j : Nat} {x y : Lt} (hx : c[i]? = some x) (hy : c[j]? = some y) (hij : j ≠ i) (hxn : x.1 = false) (hyn : y.1 = false) {k1 k2 : Bool}
    (hu : subT (bnd b) (turnL k1 x).2.1 = subT (bnd b) (turnL k2 y).2.1) : holdsP z tb ((butC c i ++ [(true, (turnL k1 x).2.2, (turnL k2 y).2.2)]).map (mapL (subT (bnd b)))) :=
  hold_by hm hs hb fun e he hv => by
    have h1 := h e he
    have h2 := hv _ _ hu
    unfold someH at h1 ⊢
    rw [List.any_eq_true] at h1
    obtain ⟨q, hq, hl⟩ := h1
    rw [List.any_append, Bool.or_eq_true]
    rcases but_or hx hq with rfl | hq
    · rw [← litH_turn k1] at hl
      have hl' : valT z tb e (turnL k1 q).2.1 = valT z tb e (turnL k1 q).2.2 := by
        simp only [litH, turn_neg, hxn] at hl
        simpa using hl
      by_cases e3 : valT z tb e (turnL k1 q).2.2 = valT z tb e (turnL k2 y).2.2
      · left
        rw [List.any_eq_true]
        refine ⟨y, but_has hy hij, ?_⟩
        rw [← litH_turn k2]
        simp only [litH, turn_neg, hyn]
        simp [← h2, hl', e3]
      · right
        simp [litH, e3]
    · left
      rw [List.any_eq_true]
      exact ⟨q, hq, hl⟩
theorem valF_set {e : Int → Int} {f : Tm → Tm} : ∀ {F : Fo} {i : Nat} {y : Tm} (a : Int), F.list[i]? = some y → valT z tb e (f y) = valT z tb e y → valF z tb e (setF F i f) a = valF z tb e F a
  | .nil, _, _, _, h, _ => by simp [Fo.list] at h
  | .node p q x k r, 0, y, a, h, hv => by
    simp only [Fo.list, List.getElem?_cons_zero, Option.some.injEq] at h
    subst h
    simp only [setF]
    rw [valF_node, valF_node]
    congr 1
    rw [← hv]
  | .node p q x k r, i + 1, y, a, h, hv => by
    simp only [setF]
    rw [valF_node, valF_node]
    exact valF_set _ (by simpa [Fo.list] using h) hv
theorem val_put {e : Int → Int} {u : Tm} : ∀ {p : List Int} {x : Bool × Int} {k : Fo} {t : Tm}, atT p x k = some t → valT z tb e u = valT z tb e t → valT z tb e (putT p (x, k) u) = valT z tb e (x, k)
  | [], x, k, t, h, hv => by
    cases h
    exact hv
  | n :: p, x, k, t, h, hv => by
    rw [atT] at h
    rw [putT]
    by_cases hn : x.1 = true ∨ n < 0 ∨ (Fo.len k : Int) ≤ n
    · rw [if_pos hn] at h; cases h
    · rw [if_neg hn] at h
      rw [if_neg hn]
      cases hy : k.list[n.toNat]? with
      | none => rw [hy] at h; cases h
      | some y =>
        rw [hy] at h
        have hx : ¬ x.1 = true := fun e => hn (.inl e)
        have ih := val_put (p := p) (x := y.1) (k := y.2) h hv
        unfold valT
        rw [if_neg hx, if_neg hx]
        dsimp only
        rw [valF_set (f := fun s => putT p s u) 0 hy ih]
theorem sup_holds {dd : Cl} (hm : MR s z tb) (hs : s.all okNum = true) (hb : ∀ p ∈ b, symT s p.2) (h : holdsP z tb c) (hd : holdsP z tb dd) {i j : Nat} {x y : Lt} (hx : c[i]? = some x) (hy : dd[j]? = some y) (hxn : x.1 = false) {k1 k2 : Bool} {p : List Int} {t : Tm}
    (ht : atT p (turnL k2 y).2.1.1 (turnL k2 y).2.1.2 = some t) (hu : subT (bnd b) (turnL k1 x).2.1 = subT (bnd b) t) :
    holdsP z tb ((butC c i ++ dd.set j (turnL k2 ((turnL k2 y).1, putT p (turnL k2 y).2.1 (turnL k1 x).2.2, (turnL k2 y).2.2))).map (mapL (subT (bnd b)))) :=
  hold_by hm hs hb fun e he hv => by
    have h1 := h e he
    have h2 := hd e he
    have h3 := hv _ _ hu
    unfold someH at h1 h2 ⊢
    rw [List.any_eq_true] at h1 h2
    obtain ⟨q, hq, hl⟩ := h1
    obtain ⟨r, hr, hrl⟩ := h2
    rw [List.any_append, Bool.or_eq_true]
    rcases but_or hx hq with rfl | hq
    · right
      rw [← litH_turn k1] at hl
      have hl' : valT z tb e (turnL k1 q).2.1 = valT z tb e (turnL k1 q).2.2 := by
        simp only [litH, turn_neg, hxn] at hl
        simpa using hl
      have hp := val_put (z := z) (tb := tb) (e := e) (u := (turnL k1 q).2.2) ht (by rw [← hl', h3])
      rw [List.any_eq_true]
      obtain ⟨m, hm'⟩ := List.mem_iff_getElem?.1 hr
      by_cases e4 : m = j
      · subst e4
        rw [hy] at hm'
        cases hm'
        refine ⟨_, List.mem_of_getElem? (i := m) (List.getElem?_set_self (List.getElem?_eq_some_iff.1 hy).1), ?_⟩
        rw [litH_turn]
        rw [← litH_turn k2] at hrl
        simp only [litH] at hrl ⊢
        rw [hp]
        exact hrl
      · exact ⟨r, List.mem_of_getElem? (i := m) (by rw [List.getElem?_set_ne (fun e => e4 e.symm)]; exact hm'), hrl⟩
    · left
      rw [List.any_eq_true]
      exact ⟨q, hq, hl⟩
end

end Go.Proofs.YtaliegkkdhkfcacGreatDoor

namespace Go.Proofs.YtaliegkkdhkfcacGreatDoor
open Go.RowKit Go.Deep Go.ChangeShapes Go.WideShapes

/-- A literal that stands as it must: it does not say that something is itself, and its right is not above its left. -/
def Tn (l : Lt) : Prop := l.2.1 ≠ l.2.2 ∧ abvT l.2.2 l.2.1 = false
theorem tn_flip {l : Lt} (h : okL l) (hs : ¬ l.2.1 = l.2.2) : Tn (flipL l) := by
  unfold flipL
  by_cases ha : abvT l.2.2 l.2.1 = true
  · rw [if_pos ha]
    exact ⟨fun e => hs e.symm, by simpa using abv_asym h.2 h.1 ha⟩
  · rw [if_neg ha]
    exact ⟨hs, by simpa using ha⟩
theorem tstep_tn {o : Option Cl} {l : Lt} {d : Cl} (h : tstep o l = some d) (hl : okL l) (h0 : ∀ e, o = some e → ∀ x ∈ e, Tn x) : ∀ x ∈ d, Tn x := by
  cases o with
  | none => simp [tstep] at h
  | some e =>
    simp only [tstep, Option.bind_some] at h
    by_cases hs : sameT l.2.1.1 l.2.1.2 l.2.2.1 l.2.2.2 = true
    · rw [if_pos hs] at h
      split at h
      · obtain rfl := Option.some.inj h; exact h0 _ rfl
      · cases h
    · rw [if_neg hs] at h
      cases h
      intro x hx
      rcases List.mem_append.1 hx with hx | hx
      · exact h0 e rfl x hx
      · simp at hx; rw [hx]; exact tn_flip hl (fun e => hs ((sameT_iff hl.1 hl.2).2 e))
theorem turn_tn : ∀ {c : Cl} {o : Option Cl} {d : Cl}, c.foldl tstep o = some d → (∀ l ∈ c, okL l) → (∀ e, o = some e → ∀ x ∈ e, Tn x) → ∀ x ∈ d, Tn x
  | [], o, d, h, _, h0 => h0 d h
  | l :: c, o, d, h, hc, h0 => turn_tn (c := c) (o := tstep o l) h (fun x hx => hc x (by simp [hx])) (fun e he => tstep_tn he (hc l (by simp)) h0)
theorem turn_fix : ∀ {c out : Cl}, (∀ l ∈ c, okL l ∧ Tn l) → c.foldl tstep (some out) = some (out ++ c)
  | [], out, _ => by simp
  | l :: c, out, h => by
    obtain ⟨ho, h1, h2⟩ := h l (by simp)
    have hs : ¬ sameT l.2.1.1 l.2.1.2 l.2.2.1 l.2.2.2 = true := fun e => h1 ((sameT_iff ho.1 ho.2).1 e)
    have e1 : tstep (some out) l = some (out ++ [l]) := by
      simp only [tstep, Option.bind_some]
      rw [if_neg hs]
      unfold flipL
      rw [if_neg (by rw [h2]; simp)]
    rw [List.foldl_cons, e1, turn_fix (fun x hx => h x (by simp [hx]))]
    simp

/-- New numbers, and back. -/
def bck (vs : List Int) (n : Int) : Tm := vr (vs.getD n.toNat 0)
theorem num_back {vs : List Int} {t : Tm} (ht : okT t) (h : ∀ n, occT n t → n ∈ vs) : subT (bck vs) (subT (bnd (numS vs)) t) = t := by
  rw [subT_sub]
  have : subT (fun n => subT (bck vs) (bnd (numS vs) n)) t = subT vr t := subT_congr fun n hn => by
    have hm := h n hn
    rw [bnd_num hm]
    have h1 : vs.idxOf n < vs.length := List.idxOf_lt_length_of_mem hm
    show bck vs (vs.idxOf n : Nat) = vr n
    unfold bck
    rw [Int.toNat_natCast, List.getD_eq_getElem?_getD, List.getElem?_eq_getElem h1, Option.getD_some, List.getElem_idxOf h1]
  rw [this, subT_vr ht]
theorem varsT_all {x : Bool × Int} {k : Fo} {v : List Int} (h : ∀ n, occT n (x, k) → n ∈ v) : varsT x k v = v := by
  have key : ∀ (F : Fo) (v : List Int), (∀ n, occF n F → n ∈ v) → varsF F v = v := by
    intro F
    induction F with
    | nil => intro v _; rfl
    | node p q y l r ihl ihr =>
      intro v hv
      have hl : ∀ n, occT n (y, l) → n ∈ v := fun n hn => hv n (by rw [occ_mem]; exact ⟨(y, l), by simp [Fo.list], hn⟩)
      have hr : ∀ n, occF n r → n ∈ v := fun n hn => hv n (by
        rw [occ_mem] at hn ⊢
        obtain ⟨t, ht, h2⟩ := hn
        exact ⟨t, by simp [Fo.list, ht], h2⟩)
      have e : varsT y l v = v := by
        obtain ⟨b, n⟩ := y
        cases b with
        | true =>
          have := hl n (by simp [occT])
          simp [varsT, hasB, this]
        | false => simp only [varsT, Bool.false_eq_true, if_false]; exact ihl v (fun n hn => hl n (by simp [occT, hn]))
      show varsF r (varsT y l v) = v
      rw [e, ihr v hr]
  obtain ⟨b, n⟩ := x
  cases b with
  | true =>
    have := h n (by simp [occT])
    simp [varsT, hasB, this]
  | false => simp only [varsT, Bool.false_eq_true, if_false]; exact key k v (fun n hn => h n (by simp [occT, hn]))
theorem varsL_all {l : Lt} {v : List Int} (h : ∀ n, occL n l → n ∈ v) : varsL l v = v := by
  unfold varsL
  rw [varsT_all (x := l.2.1.1) (k := l.2.1.2) (v := v) (fun n hn => h n (.inl hn)), varsT_all (fun n hn => h n (.inr hn))]
theorem varsC_append (c d : Cl) (v : List Int) : varsC (c ++ d) v = varsC d (varsC c v) := by simp [varsC, List.foldl_append]
theorem like_occ {f l : Lt} (hf : okL f) (hl : okL l) (h : likeL f l = true) (n : Int) : occL n l → occL n f := by
  rw [like_iff hf hl] at h
  unfold occL
  rcases h with ⟨h1, h2⟩ | ⟨h1, h2⟩
  · rw [h1, h2]; exact id
  · rw [h1, h2]; exact Or.symm
theorem dist_vars {P out : Cl} (hP : ∀ x ∈ P, okL x) (h : distC P = some out) : varsC out [] = varsC P [] := by
  have key : ∀ (n : Nat) (out : Cl), n ≤ P.length → distC (P.take n) = some out → varsC out [] = varsC (P.take n) [] := by
    intro n
    induction n with
    | zero => intro out _ h; simp [distC] at h; subst h; simp
    | succ n ih =>
      intro out hn h
      have hl : P[n]? = some P[n] := List.getElem?_eq_getElem (by omega)
      rw [dist_take hl] at h
      cases hd : distC (P.take n) with
      | none => rw [hd] at h; simp [dstep] at h
      | some e =>
        rw [hd] at h
        have he := ih e (by omega) hd
        have hm : ∀ x ∈ e, x ∈ P := dist_mem (p := fun x => x ∈ P) hd (fun e he => by cases he; simp) (fun x hx => List.mem_of_mem_take hx)
        rw [List.take_add_one, hl]
        simp only [dstep, Option.bind_some] at h
        cases hf : e.find? (fun f => likeL f P[n]) with
        | none =>
          rw [hf] at h
          cases h
          rw [varsC_append, varsC_append, he]
          rfl
        | some f =>
          rw [hf] at h
          simp only at h
          split at h
          · obtain rfl := Option.some.inj h
            have hfm : f ∈ e := List.mem_of_find?_eq_some hf
            have hfl : likeL f P[n] = true := by have := List.find?_some hf; simpa using this
            rw [varsC_append, ← he]
            show _ = varsL P[n] (varsC e [])
            rw [varsL_all]
            intro m hmm
            exact varsC_mem.2 (.inr ⟨f, hfm, like_occ (hP f (hm f hfm)) (hP _ (List.getElem_mem _)) hfl m hmm⟩)
          · cases h
  have := key P.length out (Nat.le_refl _) (by rw [List.take_length]; exact h)
  rwa [List.take_length] at this
theorem dist_fix : ∀ {c out : Cl}, (out ++ c).Pairwise (fun a b => likeL a b = false) → c.foldl dstep (some out) = some (out ++ c)
  | [], out, _ => by simp
  | l :: c, out, h => by
    have hno : out.find? (fun f => likeL f l) = none := by
      rw [List.find?_eq_none]
      intro f hf
      rw [List.pairwise_append] at h
      simp [h.2.2 f hf l (by simp)]
    have e1 : dstep (some out) l = some (out ++ [l]) := by
      simp only [dstep, Option.bind_some, hno]
    rw [List.foldl_cons, e1, dist_fix (by simpa using h)]
    simp

/-- The variables of what is numbered: so many, in turn. -/
theorem varsT_ren {ρ : Int → Int} {S : Int → Prop} (hi : ∀ m n, S m → S n → ρ m = ρ n → m = n) {x : Bool × Int} {k : Fo} {v : List Int} (h : ∀ n, occT n (x, k) → S n) (hv : ∀ n ∈ v, S n) :
    varsT (subT (fun n => vr (ρ n)) (x, k)).1 (subT (fun n => vr (ρ n)) (x, k)).2 (v.map ρ) = (varsT x k v).map ρ := by
  have one : ∀ (n : Int) (v : List Int), S n → (∀ m ∈ v, S m) → varsT (vr (ρ n)).1 (vr (ρ n)).2 (v.map ρ) = (varsT (true, n) .nil v).map ρ := by
    intro n v hn hv
    have e : hasB (v.map ρ) (ρ n) = hasB v n := by
      unfold hasB
      rw [decide_eq_decide, List.mem_map]
      constructor
      · rintro ⟨m, hm, e⟩; rw [← hi m n (hv m hm) hn e]; exact hm
      · exact fun hm => ⟨n, hm, rfl⟩
    simp only [vr, varsT, if_true, e]
    split <;> simp
  have key : ∀ (F : Fo) (v : List Int), (∀ n, occF n F → S n) → (∀ n ∈ v, S n) → varsF (subF (fun n => vr (ρ n)) F) (v.map ρ) = (varsF F v).map ρ := by
    intro F
    induction F with
    | nil => intro v _ _; rfl
    | node p q y l r ihl ihr =>
      intro v hv hs
      have hl : ∀ n, occT n (y, l) → S n := fun n hn => hv n (by rw [occ_mem]; exact ⟨(y, l), by simp [Fo.list], hn⟩)
      have hr : ∀ n, occF n r → S n := fun n hn => hv n (by
        rw [occ_mem] at hn ⊢
        obtain ⟨t, ht, h2⟩ := hn
        exact ⟨t, by simp [Fo.list, ht], h2⟩)
      have e : varsT (subT (fun n => vr (ρ n)) (y, l)).1 (subT (fun n => vr (ρ n)) (y, l)).2 (v.map ρ) = (varsT y l v).map ρ := by
        obtain ⟨b, n⟩ := y
        cases b with
        | true => rw [subT_var, one n v (hl n (by simp [occT])) hs]; rfl
        | false => rw [subT_sym]; simp only [varsT, Bool.false_eq_true, if_false]; exact ihl v (fun n hn => hl n (by simp [occT, hn])) hs
      rw [subF_node]
      show varsF (subF (fun n => vr (ρ n)) r) (varsT _ _ (v.map ρ)) = (varsF r (varsT y l v)).map ρ
      rw [e, ihr _ hr]
      intro n hn
      rcases varsT_mem.1 hn with hn | hn
      · exact hs n hn
      · exact hl n hn
  obtain ⟨b, n⟩ := x
  cases b with
  | true => rw [subT_var, one n v (h n (by simp [occT])) hv]; rfl
  | false => rw [subT_sym]; simp only [varsT, Bool.false_eq_true, if_false]; exact key k v (fun n hn => h n (by simp [occT, hn])) hv
theorem varsC_ren {ρ : Int → Int} {S : Int → Prop} (hi : ∀ m n, S m → S n → ρ m = ρ n → m = n) : ∀ {c : Cl} {v : List Int}, (∀ l ∈ c, ∀ n, occL n l → S n) → (∀ n ∈ v, S n) → varsC (c.map (mapL (subT fun n => vr (ρ n)))) (v.map ρ) = (varsC c v).map ρ
  | [], v, _, _ => by simp [varsC]
  | l :: c, v, h, hv => by
    have hl := h l (by simp)
    have e : varsL (mapL (subT fun n => vr (ρ n)) l) (v.map ρ) = (varsL l v).map ρ := by
      unfold varsL mapL
      rw [varsT_ren hi (x := l.2.1.1) (k := l.2.1.2) (fun n hn => hl n (.inl hn)) hv, varsT_ren hi (x := l.2.2.1) (k := l.2.2.2) (fun n hn => hl n (.inr hn))]
      intro n hn
      rcases varsT_mem.1 hn with hn | hn
      · exact hv n hn
      · exact hl n (.inl hn)
    show varsC (c.map _) (varsL (mapL (subT fun n => vr (ρ n)) l) (v.map ρ)) = (varsC c (varsL l v)).map ρ
    rw [e, varsC_ren hi (fun x hx => h x (by simp [hx]))]
    intro n hn
    rcases varsL_mem.1 hn with hn | hn
    · exact hv n hn
    · exact hl n hn
theorem idx_range {vs : List Int} (h : vs.Nodup) : vs.map (fun n => ((vs.idxOf n : Nat) : Int)) = (List.range vs.length).map (fun i : Nat => (i : Int)) := by
  apply List.ext_getElem
  · simp
  · intro i h1 h2
    simp only [List.length_map] at h1
    simp only [List.getElem_map, List.getElem_range]
    rw [h.idxOf_getElem i h1]
theorem ren_vars {d : Cl} : varsC (reN d) [] = (List.range (varsC d []).length).map (fun i : Nat => (i : Int)) := by
  have hi : ∀ m n, m ∈ varsC d [] → n ∈ varsC d [] → (((varsC d []).idxOf m : Nat) : Int) = (((varsC d []).idxOf n : Nat) : Int) → m = n := fun m n hm _ e => idx_inj hm (by omega)
  have ho : ∀ l ∈ d, ∀ n, occL n l → n ∈ varsC d [] := fun l hl n hn => varsC_mem.2 (.inr ⟨l, hl, hn⟩)
  have e : reN d = d.map (mapL (subT fun n => vr (((varsC d []).idxOf n : Nat) : Int))) := by
    unfold reN
    refine List.map_congr_left fun l hl => ?_
    unfold mapL
    rw [subT_congr (t := l.2.1) (fun n hn => bnd_num (ho l hl n (.inl hn))), subT_congr (t := l.2.2) (fun n hn => bnd_num (ho l hl n (.inr hn)))]
  have := varsC_ren (ρ := fun n => (((varsC d []).idxOf n : Nat) : Int)) (S := fun n => n ∈ varsC d []) hi (c := d) (v := []) ho (by simp)
  rw [List.map_nil] at this
  rw [e, this, idx_range (varsC_nodup List.nodup_nil)]
theorem range_idx {m : Nat} {n : Int} (h : n ∈ (List.range m).map (fun i : Nat => (i : Int))) : ((((List.range m).map (fun i : Nat => (i : Int))).idxOf n : Nat) : Int) = n := by
  have h1 := List.idxOf_lt_length_of_mem h
  have h2 := List.getElem_idxOf h1
  rw [List.getElem_map, List.getElem_range] at h2
  exact h2
theorem ren_fix {e : Cl} {m : Nat} (hv : varsC e [] = (List.range m).map (fun i : Nat => (i : Int))) (ho : ∀ l ∈ e, okL l) : reN e = e := by
  unfold reN
  rw [hv]
  conv => rhs; rw [← List.map_id e]
  refine List.map_congr_left fun l hl => ?_
  have key : ∀ t, okT t → (∀ n, occT n t → occL n l) → subT (bnd (numS ((List.range m).map (fun i : Nat => (i : Int))))) t = t := fun t ht h => by
    rw [subT_congr (g := vr) (fun n hn => ?_), subT_vr ht]
    have hm : n ∈ (List.range m).map (fun i : Nat => (i : Int)) := by rw [← hv]; exact varsC_mem.2 (.inr ⟨l, hl, h n hn⟩)
    rw [bnd_num hm, range_idx hm]
  unfold mapL
  rw [key _ (ho l hl).1 (fun n hn => .inl hn), key _ (ho l hl).2 (fun n hn => .inr hn)]
  rfl
theorem walkT_mk {s : List Int} {x : Bool × Int} {k : Fo} {d : Int} (h1 : d ≤ 12) (h2 : aloneF s x (Fo.len k) = 0) (h3 : walkF s k (d + 1) = 0) : walkT s x k d = 0 := by
  unfold walkT
  rw [if_neg (by omega), if_neg (by simpa using h2), h3]
end Go.Proofs.YtaliegkkdhkfcacGreatDoor

namespace Go.Proofs.YtaliegkkdhkfcacGreatDoor
open Go.RowKit Go.Deep Go.ChangeShapes Go.WideShapes

theorem ren_tnX {d : Cl} (hd : GX d) (h : ∀ l ∈ d, Tn l) : ∀ l ∈ reN d, Tn l := by
  intro l hl
  obtain ⟨x, hx, rfl⟩ := List.mem_map.1 hl
  obtain ⟨h1, h2⟩ := h x hx
  have g := hd.2 x hx
  have g' := g.num (gx_vars hd.2)
  have o1 : ∀ n, occT n x.2.1 → n ∈ varsC d [] := fun n hn => varsC_mem.2 (.inr ⟨x, hx, .inl hn⟩)
  have o2 : ∀ n, occT n x.2.2 → n ∈ varsC d [] := fun n hn => varsC_mem.2 (.inr ⟨x, hx, .inr hn⟩)
  refine ⟨fun e => h1 ?_, ?_⟩
  · have := congrArg (subT (bck (varsC d []))) e
    simp only [mapL] at this
    rw [num_back g.gl.ok o1, num_back g.gr.ok o2] at this
    exact this
  · cases ha : abvT (mapL (subT (bnd (numS (varsC d [])))) x).2.2 (mapL (subT (bnd (numS (varsC d [])))) x).2.1 with
    | false => rfl
    | true =>
      have := abv_sub (f := bck (varsC d [])) (fun n => ok_vr _) _ rfl g'.gr g'.gl ha
      simp only [mapL] at this
      rw [num_back g.gl.ok o1, num_back g.gr.ok o2, h2] at this
      cases this
/-- Kept, it is small, and as it is. -/
theorem norm_againX {c : Cl} (hc : GX c) (h : (normC c).1 = 0) : GC (normC c).2 ∧ normC (normC c).2 = (0, (normC c).2) := by
  rcases norm_casesX hc with ⟨_, hn⟩ | ⟨d, ht, hd, hr, ⟨_, hn⟩ | ⟨e, he, hE, hn⟩⟩
  · rw [hn] at h; simp at h
  · rw [hn] at h; simp at h
  · rw [hn] at h ⊢
    unfold keepC at h ⊢
    by_cases hk : 4 < e.length ∨ 5 < (varsC d []).length ∨ e.any bigL = true
    · rw [if_pos hk] at h; simp at h
    · rw [if_neg hk]
      have hok : ∀ l ∈ reN d, okL l := fun l hl => (hr.2 l hl).okl
      have hve : varsC e [] = (List.range (varsC d []).length).map (fun i : Nat => (i : Int)) := (dist_vars hok he).trans ren_vars
      have hsm : ∀ l ∈ e, tszR l.2.1.2 ≤ 12 ∧ tszR l.2.2.2 ≤ 12 := fun l hl => by
        have hb : bigL l = false := by
          cases hb : bigL l
          · rfl
          · exact absurd (.inr (.inr (List.any_eq_true.2 ⟨l, hl, hb⟩))) hk
        simp only [bigL, Bool.or_eq_false_iff, decide_eq_false_iff_not] at hb
        omega
      have hfew : ∀ l ∈ e, ∀ n, occL n l → n ≤ 4 := fun l hl n hn => by
        have hm : n ∈ varsC e [] := varsC_mem.2 (.inr ⟨l, hl, hn⟩)
        rw [hve] at hm
        obtain ⟨i, hi, rfl⟩ := List.mem_map.1 hm
        have := List.mem_range.1 hi
        have : ¬ 5 < (varsC d []).length := fun h => hk (.inr (.inl h))
        omega
      have hG : GC e := ⟨by have : ¬ 4 < e.length := fun h => hk (.inl h); omega, fun l hl => ⟨(hE.2 l hl).gl, (hE.2 l hl).gr, fun m hm => hfew l hl m (.inl hm), fun m hm => hfew l hl m (.inr hm), (hsm l hl).1, (hsm l hl).2⟩⟩
      refine ⟨hG, ?_⟩
      have t1 : ∀ l ∈ d, Tn l := turn_tn (o := some []) ht (fun l hl => (hc.2 l hl).okl) (fun e he => by cases he; simp)
      have t2 := ren_tnX hd t1
      obtain ⟨k1, _, k3⟩ := dist_kept hok he
      have f1 : turnC e = some e := by
        have := turn_fix (c := e) (out := []) (fun l hl => ⟨(hE.2 l hl).okl, t2 l (k1 l hl)⟩)
        simpa [turnC] using this
      have f2 : reN e = e := ren_fix (m := (varsC d []).length) hve (fun l hl => (hE.2 l hl).okl)
      have f3 : distC e = some e := by
        have := dist_fix (c := e) (out := []) (by simpa using k3)
        simpa [distC] using this
      show normC e = (0, e)
      simp only [normC, f1, f2, f3]
      exact gc_keep hG hG
theorem walkF_of {s : List Int} : ∀ {F : Fo} {d : Int}, symF s F → Fo.ok F → (∀ n, occF n F → 0 ≤ n ∧ n ≤ 4) → (depF F : Int) + d ≤ 13 → walkF s F d = 0
  | .nil, _, _, _, _, _ => rfl
  | .node p q (b, n) k r, d, h, ho, hv, hd => by
    obtain ⟨_, _, h3, h4⟩ := ok_node.1 ho
    have hdk : depF (.node p q (b, n) k r) = max (1 + depF k) (depF r) := rfl
    have hr := walkF_of (d := d) h.2 h4 (fun m hm => hv m (by rw [occF]; exact .inr hm)) (by rw [hdk] at hd; omega)
    have hT : walkT s (b, n) k d = 0 := by
      refine walkT_mk (by rw [hdk] at hd; omega) ?_ ?_
      · cases b with
        | true =>
          have hk : k = .nil := h3.1 rfl
          subst hk
          have := hv n (by rw [occF]; exact .inl (by simp))
          unfold aloneF
          simp [Fo.len]
          omega
        | false => exact h.1.1 rfl
      · cases b with
        | true =>
          have hk : k = .nil := h3.1 rfl
          subst hk
          rfl
        | false => exact walkF_of h.1.2 h3.2 (fun m hm => hv m (by rw [occF]; exact .inl (by simpa using hm))) (by rw [hdk] at hd; omega)
    simp only [walkF]
    have h5 : (if 12 < d then 4 else if aloneF s (b, n) (Fo.len k) ≠ 0 then aloneF s (b, n) (Fo.len k) else walkF s k (d + 1)) = 0 := hT
    rw [h5, hr]
    simp
theorem wrongF_of {s : List Int} {t : Tm} (h : symT s t) (hg : Gd t) (hv : ∀ n, occT n t → n ≤ 4) (hz : tszR t.2 ≤ 12) : wrongF s t.1 t.2 = 0 := by
  have hF : walkF s (.node 0 0 t.1 t.2 .nil) 1 = 0 := by
    refine walkF_of ⟨h, trivial⟩ (by rw [ok_node]; exact ⟨rfl, rfl, hg.ok, trivial⟩) (fun n hn => ?_) ?_
    · have hn' : occT n t := by
        rw [occ_mem] at hn
        obtain ⟨u, hu, h2⟩ := hn
        simp only [Fo.list, List.mem_singleton] at hu
        rw [hu] at h2
        exact h2
      exact ⟨(hg.few n hn').1, hv n hn'⟩
    · have h1 := depF_le t.2
      simp only [tszR] at hz
      have : depF (.node 0 0 t.1 t.2 .nil) = max (1 + depF t.2) 0 := rfl
      rw [this]
      omega
  have hT : walkT s t.1 t.2 1 = 0 := (walkF_ok hF).1
  unfold wrongF
  rw [if_neg (by simpa using hT)]
  rw [if_neg]
  unfold wrap64
  omega
/-- Kept, it is right. -/
theorem norm_rightX {s : List Int} {c : Cl} (hc : GX c) (hs : ∀ l ∈ c, symT s l.2.1 ∧ symT s l.2.2) (h : (normC c).1 = 0) : wrongC s (normC c).2 = 0 := by
  have hG := (norm_againX hc h).1
  rcases norm_casesX hc with ⟨_, hn⟩ | ⟨d, ht, hd, hr, ⟨_, hn⟩ | ⟨e, he, hE, hn⟩⟩
  · rw [hn] at h; simp at h
  · rw [hn] at h; simp at h
  · rw [hn] at h hG ⊢
    unfold keepC at h hG ⊢
    by_cases hk : 4 < e.length ∨ 5 < (varsC d []).length ∨ e.any bigL = true
    · rw [if_pos hk] at h; simp at h
    · rw [if_neg hk] at hG ⊢
      rw [wrongC_iff]
      refine ⟨hG.1, fun l hl => ?_⟩
      have hmem : l ∈ reN d := (dist_kept (fun l hl => (hr.2 l hl).okl) he).1 l hl
      obtain ⟨x, hx, rfl⟩ := List.mem_map.1 hmem
      have hx0 : symT s x.2.1 ∧ symT s x.2.2 := turn_mem (p := fun l => symT s l.2.1 ∧ symT s l.2.2) (o := some []) ht (fun e he => by cases he; simp) (fun l hl => by
        unfold flipL
        split
        · exact (hs l hl).symm
        · exact hs l hl) x hx
      have hb : ∀ p ∈ numS (varsC d []), symT s p.2 := fun p hp => by
        unfold numS at hp
        obtain ⟨q, _, rfl⟩ := List.mem_mapIdx.1 hp
        exact sym_vr _
      have g := hG.2 _ hl
      exact ⟨wrongF_of (sym_sub (sym_bnd hb) hx0.1) g.gl g.fl g.sl, wrongF_of (sym_sub (sym_bnd hb) hx0.2) g.gr g.fr g.sr⟩

/-- As it must be kept. -/
structure KeptR (s : List Int) (d : Cl) : Prop where
  gc : GC d
  nm : normC d = (0, d)
  rt : wrongC s d = 0
def StOK (s : List Int) (Q : Cl → Prop) (st : List Cl × Bool) : Prop := (∀ d ∈ st.1, KeptR s d ∧ Q d) ∧ st.1.Pairwise (fun a b => sameC a b = false)
theorem st_none (s : List Int) (Q : Cl → Prop) : StOK s Q ([], false) := ⟨fun d hd => by simp at hd, List.Pairwise.nil⟩
theorem addP_ok {s : List Int} {Q : Cl → Prop} {st : List Cl × Bool} (h : StOK s Q st) {c : Cl} (hg : GX c) (hs : ∀ l ∈ c, symT s l.2.1 ∧ symT s l.2.2) (hq : (normC c).1 = 0 → Q (normC c).2) : StOK s Q (addP st (normC c)) := by
  unfold addP
  split
  · exact h
  · split
    · exact h
    · rename_i h4 h0
      have h0' : (normC c).1 = 0 := by simpa using h0
      split
      · exact h
      · rename_i hany
        have ha := norm_againX hg h0'
        refine ⟨fun d hd => ?_, ?_⟩
        · rcases List.mem_append.1 hd with hd | hd
          · exact h.1 d hd
          · rw [List.mem_singleton.1 hd]
            exact ⟨⟨ha.1, ha.2, norm_rightX hg hs h0'⟩, hq h0'⟩
        · rw [List.pairwise_append]
          refine ⟨h.2, List.pairwise_singleton _ _, fun a hx b hb => ?_⟩
          rw [List.mem_singleton.1 hb]
          cases e : sameC a (normC c).2
          · rfl
          · exact absurd (List.any_eq_true.2 ⟨a, hx, e⟩) hany
theorem foldN_ok {S : Type} {I : S → Prop} {f : S → Nat → S} (h : ∀ st j, I st → I (f st j)) {st : S} (h0 : I st) : ∀ j, I (foldN f st j)
  | 0 => h0
  | j + 1 => by rw [foldN_succ]; exact h _ _ (foldN_ok h h0 j)
theorem fold_ok {S A : Type} {I : S → Prop} {f : S → A → S} (h : ∀ st p, I st → I (f st p)) : ∀ (Z : List A) {st : S}, I st → I (Z.foldl f st)
  | [], _, h0 => h0
  | p :: Z, _, h0 => fold_ok h Z (h _ p h0)
theorem map_sym {s : List Int} {b : Sb} (hb : ∀ p ∈ b, symT s p.2) {d : Cl} (hd : ∀ l ∈ d, symT s l.2.1 ∧ symT s l.2.2) : ∀ l ∈ d.map (mapL (subT (bnd b))), symT s l.2.1 ∧ symT s l.2.2 := fun l hl => by
  obtain ⟨q, hq, rfl⟩ := List.mem_map.1 hl
  exact ⟨sym_sub (sym_bnd hb) (hd q hq).1, sym_sub (sym_bnd hb) (hd q hq).2⟩
/-- What is added by what makes two terms the same. -/
theorem addU_ok {U : Tm → Tm → Option Sb} (hU : UOK U) {s : List Int} {Q : Cl → Prop} {st : List Cl × Bool} (h : StOK s Q st) {a b : Tm} (ha : G12 a) (hb : G12 b) (sa : symT s a) (sb : symT s b) {d : Cl} (hl : d.length ≤ 8) (hd : ∀ l ∈ d, G24 l) (hs : ∀ l ∈ d, symT s l.2.1 ∧ symT s l.2.2)
    (hq : ∀ r : Sb, U a b = some r → (∀ p ∈ r, symT s p.2) → subT (bnd r) a = subT (bnd r) b → (normC (d.map (mapL (subT (bnd r))))).1 = 0 → Q (normC (d.map (mapL (subT (bnd r))))).2) : StOK s Q (addU st (U a b) d) := by
  obtain ⟨n, hn⟩ := hU a b (ha.ui hb)
  cases hR : U a b with
  | none => exact h
  | some r =>
    rw [hR] at hn
    have hr := sym_mgu sa sb hn
    exact addP_ok h (gx_bind ha hb hn hl hd) (map_sym hr hs) (hq r hR hr (unify_ok (ha.ui hb) hn).2)
/-- It holds where c does. -/
def QH (s : List Int) (c d : Cl) : Prop := ∀ (z : Int) (tb : List (List Int)), MR s z tb → holdsP z tb c → holdsP z tb d
theorem res_ok {U : Tm → Tm → Option Sb} (hU : UOK U) {s : List Int} (hs : s.all okNum = true) {c : Cl} (hc : ∀ l ∈ c, G12L l) (h4 : c.length ≤ 4) (hsy : ∀ l ∈ c, symT s l.2.1 ∧ symT s l.2.2) (j : Nat) : StOK s (QH s c) (resTo U c j) := by
  refine foldN_ok (fun st i h => ?_) (st_none _ _) j
  unfold resS
  split
  · rename_i x hx
    have hm := List.mem_of_getElem? hx
    split
    · rename_i hneg
      refine addU_ok hU h (hc x hm).1 (hc x hm).2 (hsy x hm).1 (hsy x hm).2 (Nat.le_trans but_len (by omega)) (fun l hl => (hc l (but_mem hl)).x) (fun l hl => hsy l (but_mem hl)) (fun r hr1 hr2 hr3 hz z tb hM hH => ?_)
      obtain ⟨n, hn⟩ := hU _ _ ((hc x hm).1.ui (hc x hm).2)
      rw [hr1] at hn
      have hgx := gx_bind (hc x hm).1 (hc x hm).2 hn (d := butC c i) (Nat.le_trans but_len (by omega)) (fun l hl => (hc l (but_mem hl)).x)
      exact ((norm_holdsX hgx).2 hz).1 (res_holds hM hs hr2 hH hx hneg hr3)
    · exact h
  · exact h

theorem fac_ok {U : Tm → Tm → Option Sb} (hU : UOK U) {s : List Int} (hs : s.all okNum = true) {c : Cl} (hc : ∀ l ∈ c, G12L l) (h4 : c.length ≤ 4) (hsy : ∀ l ∈ c, symT s l.2.1 ∧ symT s l.2.2) (m : Nat) : StOK s (QH s c) (facTo U c m) := by
  refine foldN_ok (fun st i h => ?_) (st_none _ _) m
  refine foldN_ok (fun st j h => ?_) h _
  unfold facJ
  split
  · rename_i x y hx hy
    split
    · exact h
    · rename_i hcond
      have hmx := List.mem_of_getElem? hx
      have hmy := List.mem_of_getElem? hy
      have hij : j ≠ i := fun e => hcond (.inl (by omega))
      have hxn : x.1 = false := by cases e : x.1; rfl; exact absurd (.inr (.inl e)) hcond
      have hyn : y.1 = false := by cases e : y.1; rfl; exact absurd (.inr (.inr e)) hcond
      refine foldN_ok (fun st k h => ?_) h _
      have gx := turn_both (yes := decide (2 ≤ k)) (hc x hmx)
      have gy := turn_both (yes := decide (k % 2 = 1)) (hc y hmy)
      have sx := turn_both (yes := decide (2 ≤ k)) (P := symT s) (hsy x hmx)
      have sy := turn_both (yes := decide (k % 2 = 1)) (P := symT s) (hsy y hmy)
      have hl8 : (butC c i ++ [(true, (turnL (decide (2 ≤ k)) x).2.2, (turnL (decide (k % 2 = 1)) y).2.2)]).length ≤ 8 := by
        rw [List.length_append]
        have := but_len (c := c) (i := i)
        simp only [List.length_cons, List.length_nil]
        omega
      have hd : ∀ l ∈ butC c i ++ [(true, (turnL (decide (2 ≤ k)) x).2.2, (turnL (decide (k % 2 = 1)) y).2.2)], G24 l := fun l hl => by
        rcases List.mem_append.1 hl with hl | hl
        · exact (hc l (but_mem hl)).x
        · rw [List.mem_singleton.1 hl]; exact G12L.x ⟨gx.2, gy.2⟩
      refine addU_ok hU h gx.1 gy.1 sx.1 sy.1 hl8 hd (fun l hl => ?_) (fun r hr1 hr2 hr3 hz z tb hM hH => ?_)
      · rcases List.mem_append.1 hl with hl | hl
        · exact hsy l (but_mem hl)
        · rw [List.mem_singleton.1 hl]; exact ⟨sx.2, sy.2⟩
      · obtain ⟨n, hn⟩ := hU _ _ (gx.1.ui gy.1)
        rw [hr1] at hn
        exact ((norm_holdsX (gx_bind gx.1 gy.1 hn hl8 hd)).2 hz).1 (fac_holds hM hs hr2 hH hx hy hij hxn hyn hr3)
  · exact h
/-- It holds where c and d do. -/
def QH2 (s : List Int) (c d e : Cl) : Prop := ∀ (z : Int) (tb : List (List Int)), MR s z tb → holdsP z tb c → holdsP z tb d → holdsP z tb e
theorem sym_at {s : List Int} : ∀ {p : List Int} {x : Bool × Int} {k : Fo} {t : Tm}, symT s (x, k) → atT p x k = some t → symT s t
  | [], _, _, _, h, ht => by cases ht; exact h
  | n :: p, x, k, t, h, ht => by
    rw [atT] at ht
    by_cases hn : x.1 = true ∨ n < 0 ∨ (Fo.len k : Int) ≤ n
    · rw [if_pos hn] at ht; cases ht
    · rw [if_neg hn] at ht
      cases hy : k.list[n.toNat]? with
      | none => rw [hy] at ht; cases ht
      | some y =>
        rw [hy] at ht
        exact sym_at (x := y.1) (k := y.2) (sym_mem h.2 y (List.mem_of_getElem? hy)) ht
theorem sym_setF {s : List Int} {f : Tm → Tm} : ∀ {F : Fo} {i : Nat}, symF s F → (∀ y, symT s y → symT s (f y)) → symF s (setF F i f)
  | .nil, _, _, _ => trivial
  | .node _ _ x k _, 0, h, hf => ⟨hf (x, k) h.1, h.2⟩
  | .node _ _ _ _ _, _ + 1, h, hf => ⟨h.1, sym_setF h.2 hf⟩
theorem sym_put {s : List Int} {u : Tm} (hu : symT s u) : ∀ {p : List Int} {x : Bool × Int} {k : Fo}, symT s (x, k) → symT s (putT p (x, k) u)
  | [], _, _, _ => hu
  | n :: p, x, k, h => by
    rw [putT]
    split
    · exact h
    · refine ⟨fun e => ?_, sym_setF h.2 (fun y hy => sym_put hu (x := y.1) (k := y.2) hy)⟩
      dsimp only
      rw [setF_len]
      exact h.1 e
theorem sup_ok {U : Tm → Tm → Option Sb} (hU : UOK U) {s : List Int} (hs : s.all okNum = true) {c dd : Cl} (hc : ∀ l ∈ c, G12L l) (h4 : c.length ≤ 4) (hsy : ∀ l ∈ c, symT s l.2.1 ∧ symT s l.2.2) (hdc : ∀ l ∈ dd, G12L l) (hd4 : dd.length ≤ 4) (hdy : ∀ l ∈ dd, symT s l.2.1 ∧ symT s l.2.2) (m : Nat) :
    StOK s (QH2 s c dd) (supTo U c dd m) := by
  refine foldN_ok (fun st i h => ?_) (st_none _ _) m
  unfold supI
  split
  · rename_i x hx
    have hmx := List.mem_of_getElem? hx
    refine foldN_ok (fun st k h => ?_) h _
    unfold supK
    split
    · exact h
    · rename_i hcond
      have hxn : x.1 = false := by
        cases e : x.1
        · rfl
        · exact absurd (.inl (by rw [turn_neg]; exact e)) hcond
      have gx := turn_both (yes := decide (k = 1)) (hc x hmx)
      have sx := turn_both (yes := decide (k = 1)) (P := symT s) (hsy x hmx)
      refine foldN_ok (fun st j h => ?_) h _
      unfold supJ
      split
      · rename_i y hy
        have hmy := List.mem_of_getElem? hy
        refine foldN_ok (fun st sd h => ?_) h _
        have gy := turn_both (yes := decide (sd = 1)) (hdc y hmy)
        have sy := turn_both (yes := decide (sd = 1)) (P := symT s) (hdy y hmy)
        unfold supD
        refine fold_ok (fun st p h => ?_) _ h
        unfold supP
        split
        · rename_i t ht
          have gt := gy.1.at ht
          have hst := sym_at sy.1 ht
          split
          · rename_i r hr
            split
            · exact h
            · have hgp := gd_put gx.2.gd gy.1.gd ht
              have hnew : G24 (turnL (decide (sd = 1)) ((turnL (decide (sd = 1)) y).1, putT p (turnL (decide (sd = 1)) y).2.1 (turnL (decide (k = 1)) x).2.2, (turnL (decide (sd = 1)) y).2.2)) :=
                turn_both (P := fun t => Gd t ∧ szT t ≤ 24) ⟨⟨hgp.1, Nat.le_trans hgp.2 (Nat.add_le_add gy.1.sz gx.2.sz)⟩, ⟨gy.2.gd, Nat.le_trans gy.2.sz (by decide)⟩⟩
              have snew : symT s (turnL (decide (sd = 1)) ((turnL (decide (sd = 1)) y).1, putT p (turnL (decide (sd = 1)) y).2.1 (turnL (decide (k = 1)) x).2.2, (turnL (decide (sd = 1)) y).2.2)).2.1 ∧ symT s (turnL (decide (sd = 1)) ((turnL (decide (sd = 1)) y).1, putT p (turnL (decide (sd = 1)) y).2.1 (turnL (decide (k = 1)) x).2.2, (turnL (decide (sd = 1)) y).2.2)).2.2 :=
                turn_both (P := symT s) ⟨sym_put sx.2 sy.1, sy.2⟩
              generalize hnl : turnL (decide (sd = 1)) ((turnL (decide (sd = 1)) y).1, putT p (turnL (decide (sd = 1)) y).2.1 (turnL (decide (k = 1)) x).2.2, (turnL (decide (sd = 1)) y).2.2) = nl at hnew snew ⊢
              have hl8 : (butC c i ++ dd.set j nl).length ≤ 8 := by
                rw [List.length_append, List.length_set]
                have := but_len (c := c) (i := i)
                omega
              have hd : ∀ l ∈ butC c i ++ dd.set j nl, G24 l := fun l hl => by
                rcases List.mem_append.1 hl with hl | hl
                · exact (hc l (but_mem hl)).x
                · rcases List.mem_or_eq_of_mem_set hl with hl | hl
                  · exact (hdc l hl).x
                  · rw [hl]; exact hnew
              rw [← hr]
              refine addU_ok hU h gx.1 gt sx.1 hst hl8 hd (fun l hl => ?_) (fun r hr1 hr2 hr3 hz z tb hM hH hH2 => ?_)
              · rcases List.mem_append.1 hl with hl | hl
                · exact hsy l (but_mem hl)
                · rcases List.mem_or_eq_of_mem_set hl with hl | hl
                  · exact hdy l hl
                  · rw [hl]; exact snew
              · obtain ⟨n, hn⟩ := hU _ _ (gx.1.ui gt)
                rw [hr1] at hn
                refine ((norm_holdsX (gx_bind gx.1 gt hn hl8 hd)).2 hz).1 ?_
                rw [← hnl]
                exact sup_holds hM hs hr2 hH hH2 hx hy hxn ht hr3
          · exact h
        · exact h
      · exact h
  · exact h

end Go.Proofs.YtaliegkkdhkfcacGreatDoor
