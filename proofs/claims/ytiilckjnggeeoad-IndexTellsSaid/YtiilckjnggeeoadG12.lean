/- CS P8e L8B D8s CWR L8T -/
import Derived.Test.YtiilckjnggeeoadG11
import Derived.Laws.StructEq
import Derived.Laws.Small
import Derived.BigQuiet
import Derived.Deep.RegionHeld3
namespace Go.Proofs.Ytiilckjnggeeoad
open Go.RowKit Go.Deep Go.ChangeShapes Go.WideShapes
theorem lit_cells {w wr : World} {x0 x1 x2 x3 x4 x5 x6 : Value} {T : TypeId} (h : Below (w.alloc (.cells #[x0, x1, x2, x3, x4, x5, x6] T)).heap.size (w.alloc (.cells #[x0, x1, x2, x3, x4, x5, x6] T)) wr) :
    wr.cell? ⟨w.heap.size, 0, none⟩ = some x0 ∧ wr.cell? ⟨w.heap.size, 1, none⟩ = some x1 ∧ wr.cell? ⟨w.heap.size, 2, none⟩ = some x2 ∧ wr.cell? ⟨w.heap.size, 3, none⟩ = some x3 ∧ wr.cell? ⟨w.heap.size, 4, none⟩ = some x4 ∧ wr.cell? ⟨w.heap.size, 5, none⟩ = some x5 ∧ wr.cell? ⟨w.heap.size, 6, none⟩ = some x6 ∧ (∀ i, wr.frozen? ⟨w.heap.size, i, none⟩ = false) ∧ Below w.heap.size w wr ∧ w.heap.size < wr.heap.size := by
  refine ⟨?_, ?_, ?_, ?_, ?_, ?_, ?_, fun i => ?_, (below_alloc w _).trans (h.mono (by simp)), by have := h.size; simp at this; omega⟩
  all_goals first | (rw [h.cell (by simp)]; simp; done) | exact (h.frozen (p := ⟨w.heap.size, i, none⟩) (by simp)).trans (new_frozen rfl)
end Go.Proofs.Ytiilckjnggeeoad

namespace Go.Proofs.Ytiilckjnggeeoad
open Go.RowKit Go.Deep Go.ChangeShapes Go.WideShapes
attribute [local go_sem ↓] Go.wp_at_zero Go.wp_at_succ
def prtL (l : Lt) : List Tm := prtT l.2.1 ++ prtT l.2.2
def allC (c : Cl) : List Tm := c.flatMap prtL
theorem allC_take {c : Cl} {j : Nat} {l : Lt} (h : c[j]? = some l) : allC (c.take (j + 1)) = allC (c.take j) ++ prtT l.2.1 ++ prtT l.2.2 := by
  unfold allC
  rw [List.take_add_one, h, List.flatMap_append, List.append_assoc]
  simp [prtL]
def PtOK (t : Tm) : Prop := tszR t.2 ≤ 12 ∧ Fo.len t.2 ≤ 1000 ∧ Fo.narrow t.2
theorem prt_len {t : Tm} (h : PtOK t) : (prtT t).length ≤ 12 := by
  rw [prtT, List.length_map]
  exact Nat.le_trans (placesT_len _ _ _) h.1
theorem allC_len : ∀ {c : Cl}, (∀ l ∈ c, PtOK l.2.1 ∧ PtOK l.2.2) → (allC c).length ≤ 24 * c.length
  | [], _ => Nat.le_refl _
  | l :: c, h => by
    have h1 := allC_len (c := c) (fun q hq => h q (List.mem_cons_of_mem _ hq))
    have h2 := prt_len (h l (List.mem_cons_self ..)).1
    have h3 := prt_len (h l (List.mem_cons_self ..)).2
    unfold allC at h1 ⊢
    rw [List.flatMap_cons, List.length_append, prtL, List.length_append, List.length_cons]
    omega
set_option maxRecDepth 100000 in
set_option maxHeartbeats 2000000 in
theorem allP_any (c : Cl) (v : Value) (w : World) (hC : CIn w c v) (hP : ∀ l ∈ c, PtOK l.2.1 ∧ PtOK l.2.2) (hl : c.length ≤ 40) :
    Calls Try.prog 29 #[v] w fun e w' => ∃ v', e = .returned v' ∧ TsR w.heap.size w' v' (allC c) ∧ Below w.heap.size w w' := by
  obtain ⟨ca, ck, cb, co, rfl, hca, hck, hcm, hcF⟩ := hC
  have HF := hide hcF
  have HP := hide hP
  have HL := hide (fun j => allC_len (c := c.take j) (fun l hl => hP l (List.mem_of_mem_take hl)))
  unfold maxLen at hcm
  clear hcF hP
  go_enter Try.func29, Try.ntmps29
  go_wp2_with fail
  go_loopw [3, 8] (fun v i wr => ∃ (j : Nat), j ≤ c.length ∧ i = .int .i64 j ∧ TsR w.heap.size wr v (allC (c.take j)) ∧ Below w.heap.size w wr) (fun _ i _ => c.length - (intOf i).toNat)
  case atStart => exact ⟨0, Nat.zero_le _, rfl, TsR.none _ _, Below.refl _ _⟩
  case round =>
    obtain ⟨j, hj, rfl, hR, hBr⟩ := hrel
    have HR := hide hR
    have HBr := hide hBr
    obtain ⟨u1, u3, rfl⟩ := hR.slice
    clear hR
    by_cases hlt : j < c.length
    · have hlt' : (j : Int) < (c.length : Int) := by omega
      obtain ⟨⟨yn, ⟨⟨yv, yi⟩, yk⟩, ⟨yv', yi'⟩, yk'⟩, hy⟩ : ∃ y, c[j]? = some y := ⟨c[j]'hlt, by simp⟩
      obtain ⟨p0, p1, p2, ⟨x3, p3, hA⟩, p4, p5, x6, p6, hD⟩ := (HF.out.below hBr).at hy
      obtain ⟨q0, q1, q2, ⟨x3', q3, hA0⟩, q4, q5, x6', q6, hD0⟩ := HF.out.at hy
      obtain rfl : x3' = x3 := Option.some.inj (((grow_cell hBr _ _ q3).symm.trans p3))
      obtain rfl : x6' = x6 := Option.some.inj (((grow_cell hBr _ _ q6).symm.trans p6))
      have ha1 : ca = some ⟨cb, co, none⟩ := hca (by omega)
      subst ha1
      have HA := hide hA0
      have HD := hide hD0
      obtain ⟨ya, yc, _, _, rfl, -, -, -, -⟩ := hA0
      obtain ⟨za, zc, _, _, rfl, -, -, -, -⟩ := hD0
      have Hok := hide (HP.out _ (List.mem_of_getElem? hy))
      have HT := hide (allC_take hy)
      have Hl1 : Hid ((allC (c.take j)).length ≤ 24 * 40) := by
        have := HL.out j
        rw [List.length_take] at this
        rw [Hid]
        omega
      have Hl2 : Hid ((allC (c.take j) ++ prtT ((yv, yi), yk)).length ≤ 24 * 40 + 12) := by
        have h1 := Hl1.out
        have h2 := prt_len Hok.out.1
        rw [Hid, List.length_append]
        simp only at h2
        omega
      simp only at HT
      generalize allC (c.take j) = M at *
      obtain ⟨M2, hM2⟩ : ∃ M2, M ++ prtT ((yv, yi), yk) = M2 := ⟨_, rfl⟩
      rw [hM2] at HT Hl2
      clear hy hA hD q0 q1 q2 q3 q4 q5 q6 hca hBr
      simp only at *
      go_upto_region 5 with fail
      generalize hwa : wr.alloc (.cells #[.bool yn, .bool yv, .int .i64 yi, .slice ya (Fo.len yk) yc, .bool yv', .int .i64 yi', .slice za (Fo.len yk') zc] 35) = wa
      obtain ⟨-, g1, g2, g3, g4, g5, g6, -, hba, -⟩ := lit_cells (T := 35) (x0 := .bool yn) (w := wr) (wr := wa) (x1 := .bool yv) (x2 := .int .i64 yi) (x3 := .slice ya (Fo.len yk) yc) (x4 := .bool yv') (x5 := .int .i64 yi') (x6 := .slice za (Fo.len yk') zc) (by rw [hwa]; exact Below.refl _ _)
      have hsa : wa.heap.size = wr.heap.size + 1 := by rw [← hwa]; simp
      clear hwa p0 p1 p2 p3 p4 p5 p6
      have Hba := hide hba
      have hown : some wr.heap.size ≠ (Value.slice u1 M.length u3).ownBlock := fun e => by have := (HR.out.own _ e.symm).2; omega
      have hadd := addParts_any (yv, yi) yk w _ wa _ M HA.out (below_step HBr.out hba) (HR.out.below hba) Hok.out.1.1 (by have := Hl1.out; omega) Hok.out.1.2.1 Hok.out.1.2.2
      rw [hM2] at hadd
      have Hadd := hide hadd
      clear hadd hba hM2
      go_wp2_with fail
      refine Hadd.out.mono ?_
      rintro e w3 ⟨v3, rfl, hR3, hB3, hF3⟩
      have HR3 := hide hR3
      have HB3 := hide hB3
      have h9 := hF3.block wr.heap.size (by omega) hown (fun e => by cases e)
      replace g4 := (World.cell?_of_block (a := ⟨wr.heap.size, 4, none⟩) h9).trans g4
      replace g5 := (World.cell?_of_block (a := ⟨wr.heap.size, 5, none⟩) h9).trans g5
      replace g6 := (World.cell?_of_block (a := ⟨wr.heap.size, 6, none⟩) h9).trans g6
      obtain ⟨t1, t3, rfl⟩ := hR3.slice
      have hadd := addParts_any (yv', yi') yk' w _ w3 _ _ HD.out HB3.out HR3.out Hok.out.2.1 (by have := Hl2.out; omega) Hok.out.2.2.1 Hok.out.2.2.2
      have Hadd2 := hide hadd
      clear hadd hR3 hB3 hF3 h9 Hadd g1 g2 g3
      go_wp2_with fail
      refine Hadd2.out.mono ?_
      rintro e w5 ⟨v5, rfl, hR5, hB5, -⟩
      rw [← HT.out] at hR5
      have HM3 : Hid (∃ M3, allC (c.take (j + 1)) = M3) := ⟨_, rfl⟩
      obtain ⟨M3, hM3⟩ := HM3.out
      have HM3 := hide hM3
      rw [hM3] at hR5
      clear hM3
      have HR5 := hide hR5
      have HB5 := hide hB5
      obtain ⟨s1, s3, rfl⟩ := hR5.slice
      clear hR5 hB5 Hadd2 g4 g5 g6
      go_wp2_with fail
      go_roundw
      case rel => exact ⟨j + 1, by omega, by go_num, by rw [HM3.out]; exact HR5.out, HB5.out⟩
      case measure => simp [intOf]; omega
    · have Hfin : Hid (TsR w.heap.size wr (.slice u1 (allC (c.take j)).length u3) (allC c)) := by
        have e : c.take j = c := by rw [show j = c.length by omega, List.take_length]
        have := HR.out
        rw [e] at this ⊢
        exact this
      clear hca
      go_wp2_with fail
      go_ret
      exact ⟨_, rfl, Hfin.out, HBr.out⟩
end Go.Proofs.Ytiilckjnggeeoad

namespace Go.Proofs.Ytiilckjnggeeoad
open Go.RowKit Go.Deep Go.ChangeShapes Go.WideShapes
theorem eqKey_run (a b c d e f : Int) (w : World) : (Op.equalIn 10000 42 (.agg #[.int .i64 a, .int .i64 b, .int .i64 c]) (.agg #[.int .i64 d, .int .i64 e, .int .i64 f])).run Try.prog w = .ok (a == d && (b == e && c == f)) w := by
  have u3 := Try.underlying3
  rw [show (10000 : Nat) = 9999 + 1 from rfl, Op.equalIn]
  simp only [Sem.run_bind, run_underlying Try.underlying42, Result.andThen_ok]
  simp only [Std.Legacy.Range.forIn_eq_forIn_range', Std.Legacy.Range.size, Nat.sub_zero, Nat.add_sub_cancel, Nat.div_one, List.range'_succ, List.range'_zero, List.forIn_cons, List.forIn_nil]
  go_simp
  by_cases h1 : a = d <;> by_cases h2 : b = e <;> by_cases h3 : c = f <;> simp [h1, h2, h3]
end Go.Proofs.Ytiilckjnggeeoad

namespace Go.Proofs.Ytiilckjnggeeoad
open Go.RowKit Go.Deep Go.ChangeShapes Go.WideShapes
attribute [local go_sem ↓] Go.wp_at_zero Go.wp_at_succ
set_option maxRecDepth 100000 in
set_option maxHeartbeats 1000000 in
theorem sameInts_any (p q : List Int) (pv qv : Value) (w : World) (hp : NIn w p pv) (hq : NIn w q qv) :
    Calls Try.prog 27 #[pv, qv] w fun e w' => e = .returned (.bool (decide (p = q))) ∧ Below w.heap.size w w' := by
  obtain ⟨a1, c1, b1, o1, rfl, had1, hlc1, hcm1, hF1⟩ := hp
  obtain ⟨a2, c2, b2, o2, rfl, had2, hlc2, hcm2, hF2⟩ := hq
  unfold maxLen at hcm1 hcm2
  have HF1 := hide hF1
  have HF2 := hide hF2
  clear hF1 hF2
  by_cases hll : p.length = q.length
  · have hllb : ((p.length : Int) != (q.length : Int)) = false := by simp [hll]
    have Hll := hide hll
    have hll1 : q.length ≤ p.length := by omega
    have hll2 : p.length ≤ q.length := by omega
    clear hll
    go_enter Try.func27, Try.ntmps27
    go_wp2_with fail
    go_loopw [13] (fun i wr => ∃ j : Nat, j ≤ p.length ∧ i = .int .i64 j ∧ (∀ i, i < j → p.getD i 0 = q.getD i 0) ∧ Below w.heap.size w wr) (fun i _ => p.length - (intOf i).toNat)
    case atStart => exact ⟨0, Nat.zero_le _, rfl, fun i hi => by omega, Below.refl _ _⟩
    case round =>
      obtain ⟨j, hj, rfl, hok, hBr⟩ := hrel
      have Hok := hide hok
      clear hok
      by_cases hlt : j < p.length
      · have hlt' : (j : Int) < (p.length : Int) := by omega
        have hlt2 : (j : Int) < (q.length : Int) := by omega
        have hj0 : (0 : Int) ≤ (j : Int) := by omega
        have ha1 : a1 = some ⟨b1, o1, none⟩ := had1 (by omega)
        have ha2 : a2 = some ⟨b2, o2, none⟩ := had2 (by omega)
        subst ha1 ha2
        have p0 := grow_cell hBr _ _ (HF1.out j (by omega))
        have q0 := grow_cell hBr _ _ (HF2.out j (by omega))
        have Hne : Hid (p.getD j 0 ≠ q.getD j 0 → ¬ p = q) := fun h e => h (by rw [e])
        have Hst : Hid (p.getD j 0 = q.getD j 0 → ∀ i, i < j + 1 → p.getD i 0 = q.getD i 0) := fun h i hi => by
          by_cases e : i = j
          · rw [e]; exact h
          · exact Hok.out i (by omega)
        generalize p.getD j 0 = P at *
        generalize q.getD j 0 = Q at *
        clear had1 had2
        by_cases he : P = Q
        · have Hst2 := hide (Hst.out he)
          have heb : (P != Q) = false := by simp [he]
          clear he Hst Hne
          go_wp2_with fail
          go_quiet (fail)
          go_wp2_with fail
          go_roundw
          case rel => exact ⟨j + 1, by omega, by go_num, Hst2.out, below_drewN hBr _⟩
          case measure => simp [intOf]; omega
        · have Hne2 := hide (Hne.out he)
          have heb : (P != Q) = true := by simpa using he
          clear he Hst Hne
          go_wp2_with fail
          go_quiet (fail)
          go_wp2_with fail
          go_ret
          exact ⟨by rw [decide_eq_false Hne2.out]; rfl, below_drewN hBr _⟩
      · have He : Hid (p = q) := nums_end Hll.out (fun i hi => Hok.out i (by omega))
        go_wp2_with fail
        go_ret
        exact ⟨by rw [decide_eq_true He.out]; rfl, hBr⟩
  · have hllb : ((p.length : Int) != (q.length : Int)) = true := by simp; omega
    have Hne : Hid (¬ p = q) := fun e => hll (by rw [e])
    go_enter Try.func27, Try.ntmps27
    go_wp2_with fail
    go_ret
    exact ⟨by rw [decide_eq_false Hne.out]; rfl, Below.refl _ _⟩
end Go.Proofs.Ytiilckjnggeeoad

namespace Go.Proofs.Ytiilckjnggeeoad
open Go.RowKit Go.Deep Go.ChangeShapes Go.WideShapes
set_option maxRecDepth 100000 in
set_option maxHeartbeats 1000000 in
theorem wrongCR_any (s : List Int) (sv : Value) (k : Cl) (a : Value) (w : World) (hN : NIn w s sv) (hS : CIn w k a) :
    Calls Try.prog 20 #[sv, a] w fun e w' => e = .returned (.int .i64 (wrongC s k)) ∧ Below w.heap.size w w' := by
  obtain ⟨a1, c1, b1, o1, rfl, had1, hlc1, hcm1, hF1⟩ := hS
  unfold maxLen at hcm1
  have HF1 := hide hF1
  have HN := hide hN
  obtain ⟨sa, sc, _, _, rfl, -, -, -, -⟩ := hN
  clear hF1
  by_cases h4 : 4 < k.length
  · have h4' : (4 : Int) < (k.length : Int) := by omega
    have Hf : Hid (wrongC s k = 5) := if_pos h4
    go_enter Try.func20, Try.ntmps20
    go_wp2_with fail
    go_ret
    exact ⟨by rw [Hf.out]; rfl, Below.refl _ _⟩
  · have h4' : ¬ (4 : Int) < (k.length : Int) := by omega
    have Hw : Hid (wrongC s k = wrongLs s k) := if_neg h4
    go_enter Try.func20, Try.ntmps20
    go_wp2_with fail
    go_loopw [14] (fun i wr => ∃ j : Nat, j ≤ k.length ∧ i = .int .i64 j ∧ (∀ i, i < j → ∀ a, k[i]? = some a → wrongL s a = 0) ∧ Below w.heap.size w wr) (fun i _ => k.length - (intOf i).toNat)
    case atStart => exact ⟨0, Nat.zero_le _, rfl, fun i hi => by omega, Below.refl _ _⟩
    case round =>
      obtain ⟨j, hj, rfl, hok, hBr⟩ := hrel
      have Hok := hide hok
      clear hok
      by_cases hlt : j < k.length
      · have hlt' : (j : Int) < (k.length : Int) := by omega
        obtain ⟨⟨yn, ⟨⟨yv, yi⟩, yk⟩, ⟨yv', yi'⟩, yk'⟩, hy⟩ : ∃ y, k[j]? = some y := ⟨k[j]'hlt, by simp⟩
        obtain ⟨p0, p1, p2, ⟨u3, p3, hA⟩, p4, p5, u6, p6, hD⟩ := (HF1.out.below hBr).at hy
        have ha1 : a1 = some ⟨b1, o1, none⟩ := had1 (by omega)
        subst ha1
        have HA := hide hA
        have HD := hide hD
        obtain ⟨_, _, _, _, rfl, -, -, -, -⟩ := hA
        obtain ⟨_, _, _, _, rfl, -, -, -, -⟩ := hD
        have Hy := hide hy
        clear hy had1
        simp only at *
        go_wp2_with fail
        refine (wrongR_any s _ (yv, yi) yk _ _ ((HN.out.below hBr).alloc _) (HA.out.alloc _)).mono ?_
        rintro e w2 ⟨rfl, hb2⟩
        obtain ⟨-, -, -, -, e4, e5, e6, -, hb2', -⟩ := lit_cells hb2
        have hB2 := below_step hBr hb2'
        have HD2 := hide (HD.out.below hb2')
        have HN2 := hide (HN.out.below hB2)
        clear hb2
        by_cases he : wrongF s (yv, yi) yk = 0
        · have heb : (wrongF s (yv, yi) yk != 0) = false := by simp [he]
          have He := hide he
          clear he
          generalize wrongF s (yv, yi) yk = e1 at heb
          go_wp2_with fail
          refine (wrongR_any s _ (yv', yi') yk' _ _ HN2.out HD2.out).mono ?_
          rintro e w3 ⟨rfl, hb3⟩
          have hB3 := below_step hB2 hb3
          by_cases he : wrongF s (yv', yi') yk' = 0
          · have heb2 : (wrongF s (yv', yi') yk' != 0) = false := by simp [he]
            have He2 := hide he
            clear he
            generalize wrongF s (yv', yi') yk' = e2 at heb2
            go_wp2_with fail
            go_roundw
            case rel => exact ⟨j + 1, by omega, by go_num, fun i hi a ha => by
              by_cases e : i = j
              · subst e; rw [Hy.out] at ha; cases ha; exact wrongL_iff.2 ⟨He.out, He2.out⟩
              · exact Hok.out i (by omega) a ha, hB3⟩
            case measure => simp [intOf]; omega
          · have heb2 : (wrongF s (yv', yi') yk' != 0) = true := by simp [he]
            have Hf : Hid (wrongF s (yv', yi') yk' = wrongC s k) := by
              have hl : wrongL s (yn, ((yv, yi), yk), ((yv', yi'), yk')) = wrongF s (yv', yi') yk' := by simp only [wrongL]; rw [if_neg (by simp [He.out])]
              rw [Hid, Hw.out, wrongLs_at Hok.out Hy.out (by rw [hl]; exact he), hl]
            clear he
            generalize wrongF s (yv', yi') yk' = e2 at heb2 Hf
            go_wp2_with fail
            go_ret
            exact ⟨by rw [Hf.out]; rfl, hB3⟩
        · have heb : (wrongF s (yv, yi) yk != 0) = true := by simp [he]
          have Hf : Hid (wrongF s (yv, yi) yk = wrongC s k) := by
            have hl : wrongL s (yn, ((yv, yi), yk), ((yv', yi'), yk')) = wrongF s (yv, yi) yk := by simp only [wrongL]; rw [if_pos he]
            rw [Hid, Hw.out, wrongLs_at Hok.out Hy.out (by rw [hl]; exact he), hl]
          clear he
          generalize wrongF s (yv, yi) yk = e1 at heb Hf
          go_wp2_with fail
          go_ret
          exact ⟨by rw [Hf.out]; rfl, hB2⟩
      · have Hf : Hid (wrongC s k = 0) := by
          rw [Hid, Hw.out, wrongLs_iff]
          intro l hl
          obtain ⟨i, hi, e⟩ := List.mem_iff_getElem.1 hl
          exact Hok.out i (by omega) l (by rw [List.getElem?_eq_getElem hi, e])
        go_wp2_with fail
        go_ret
        exact ⟨by rw [Hf.out]; rfl, hBr⟩
end Go.Proofs.Ytiilckjnggeeoad

namespace Go.Proofs.Ytiilckjnggeeoad
open Go.RowKit Go.Deep Go.ChangeShapes Go.WideShapes
attribute [local go_sem ↓] Go.wp_at_zero Go.wp_at_succ
attribute [local go_sem] eqKey_run
theorem b3_nth {w : World} {b : Nat} {x y z : Int} (h : B3 w b (.int .i64 x) (.int .i64 y) (.int .i64 z)) {k : Nat} (hk : k < 3) : w.cell? ⟨b, k, none⟩ = some (.int .i64 (nth3 x y z k)) := by
  rcases (by omega : k = 0 ∨ k = 1 ∨ k = 2) with rfl | rfl | rfl
  · exact h.1
  · exact h.2.1
  · exact h.2.2.1
theorem b3_at {w : World} {n : Nat} {x y z : Value} {T : TypeId} (h : n = w.heap.size) : B3 (w.alloc (.cells #[x, y, z] T)) n x y z := by
  subst h
  exact B3.new _ _ _ _ _
theorem flat_at {α β : Type} {f : α → List β} : ∀ {l : List α} {j : Nat} {x : α} {i : Nat} {y : β}, l[j]? = some x → (f x)[i]? = some y → (l.flatMap f)[((l.take j).flatMap f).length + i]? = some y
  | [], _, _, _, _, h, _ => by simp at h
  | z :: r, 0, x, i, y, h, hy => by
    simp only [List.getElem?_cons_zero, Option.some.injEq] at h
    subst h
    have hi := (List.getElem?_eq_some_iff.1 hy).1
    simp only [List.take_zero, List.flatMap_nil, List.length_nil, Nat.zero_add, List.flatMap_cons]
    rw [List.getElem?_append_left hi]
    exact hy
  | z :: r, j + 1, x, i, y, h, hy => by
    have h1 := flat_at (l := r) (j := j) (by simpa using h) hy
    simp only [List.take_succ_cons, List.flatMap_cons, List.length_append]
    rw [Nat.add_assoc, List.getElem?_append_right (Nat.le_add_right _ _), Nat.add_sub_cancel_left]
    exact h1
theorem flat_take {α β : Type} {f : α → List β} {l : List α} {j : Nat} {x : α} (h : l[j]? = some x) : ((l.take (j + 1)).flatMap f).length = ((l.take j).flatMap f).length + (f x).length := by
  rw [List.take_add_one, h, List.flatMap_append, List.length_append]
  simp
theorem all_at {c : Cl} {j : Nat} {l : Lt} {m : Nat} {t : Tm} {i : Nat} {p : List Int} (hj : c[j]? = some l) (hm : [l.2.1, l.2.2][m]? = some t) (hi : (placesT t.1 t.2 [])[i]? = some p) :
    (allC c)[((c.take j).flatMap prtL).length + ((([l.2.1, l.2.2].take m).flatMap prtT).length + i)]? = some (partT t p) := by
  refine flat_at (f := prtL) hj ?_
  have e : prtL l = [l.2.1, l.2.2].flatMap prtT := by simp [prtL]
  rw [e]
  refine flat_at (f := prtT) hm ?_
  rw [prtT, List.getElem?_map, hi]
  rfl
theorem pt_right {s : List Int} (hs : s.all okNum = true) {x : Bool × Int} {k : Fo} (h : wrongF s x k = 0) : PtOK (x, k) ∧ walkT s x k 1 = 0 := by
  obtain ⟨h1, _, h2, h3, h4⟩ := right_of hs h
  exact ⟨⟨h1, by simp only; omega, h3⟩, h4⟩
theorem pair_fin {w : World} {x y : Bool × Int} {k l : Fo} {a b : Value} {T : TypeId} (ha : SIn w k a) (hb : SIn w l b) : FIn (w.alloc (.cells #[.bool x.1, .int .i64 x.2, a, .bool y.1, .int .i64 y.2, b] T)) (foOf [(x, k), (y, l)]) w.heap.size 0 := by
  refine FIn.mk (v := a) (new_cell rfl) (new_cell rfl) (new_cell rfl) (ha.alloc _) ?_
  exact FIn.mk (v := b) (new_cell rfl) (new_cell rfl) (new_cell rfl) (hb.alloc _) trivial
set_option maxRecDepth 100000 in
set_option maxHeartbeats 4000000 in
theorem indexTells_of (s : List Int) (sv : Value) (x : Bool × Int) (k : Fo) (a : Value) (F : Fo) (fv : Value) (xa xb xc ya yb yc : Int) (c : Cl) (cv : Value) (w : World) (hN : NIn w s sv) (hS : SIn w k a) (hF : SIn w F fv) (hC : CIn w c cv) (hsz : Fo.len F * 40 ≤ 140737488351232) :
    Calls Try.prog 4 #[sv, .agg #[.bool x.1, .int .i64 x.2, a], fv, .agg #[.int .i64 xa, .int .i64 xb, .int .i64 xc], .agg #[.int .i64 ya, .int .i64 yb, .int .i64 yc], cv] w fun e w' => e = .returned (.bool true) ∧ Below w.heap.size w w' := by
  obtain ⟨xv, xn⟩ := x
  have HN := hide hN
  have HS := hide hS
  have HF := hide hF
  have HC := hide hC
  obtain ⟨sa, sc, _, _, rfl, -, -, -, -⟩ := hN
  obtain ⟨ta, tc, _, _, rfl, -, -, -, -⟩ := hS
  obtain ⟨c1, c3, rfl⟩ := slice_of_cl hC
  obtain ⟨fa, fc, fb, fo, rfl, hfa, hfl, hfm, hFF⟩ := hF
  have HFF := hide hFF
  unfold maxLen at hfm
  clear hC hFF
  go_enter Try.func4, Try.ntmps4
  go_upto_region 1 with fail
  generalize hw1 : w.alloc (.cells #[.bool xv, .int .i64 xn, .slice ta (Fo.len k) tc] 33) = w1
  generalize hw2 : w1.alloc (.cells #[.int .i64 xa, .int .i64 xb, .int .i64 xc] 42) = w2
  generalize hw3 : w2.alloc (.cells #[.int .i64 ya, .int .i64 yb, .int .i64 yc] 42) = w0
  have hs1 : w1.heap.size = w.heap.size + 1 := by rw [← hw1]; simp
  have hs2 : w2.heap.size = w.heap.size + 1 + 1 := by rw [← hw2, World.size_alloc, hs1]
  have hb1 : Below w.heap.size w w1 := by rw [← hw1]; exact below_alloc _ _
  have hb2 : Below w1.heap.size w1 w2 := by rw [← hw2]; exact below_alloc _ _
  have hb3 : Below w2.heap.size w2 w0 := by rw [← hw3]; exact below_alloc _ _
  have Ha : Hid (B3 w0 w.heap.size (.bool xv) (.int .i64 xn) (.slice ta (Fo.len k) tc)) := B3.below (B3.below (by rw [← hw1]; exact b3_at rfl) hb2) hb3
  have Hx : Hid (B3 w0 (w.heap.size + 1) (.int .i64 xa) (.int .i64 xb) (.int .i64 xc)) := B3.below (by rw [← hw2]; exact b3_at hs1.symm) hb3
  have Hy : Hid (B3 w0 (w.heap.size + 1 + 1) (.int .i64 ya) (.int .i64 yb) (.int .i64 yc)) := by rw [← hw3]; exact b3_at hs2.symm
  have HB0 : Hid (Below w.heap.size w w0) := below_step (below_step hb1 hb2) hb3
  obtain ⟨a0, a1, a2, -⟩ := Ha.out
  clear hw1 hw2 hw3 hs1 hs2 hb1 hb2 hb3
  clear w1 w2
  go_wp2_with fail
  refine (wsigR_any s _ _ (HN.out.below HB0.out)).mono ?_
  rintro e w' ⟨rfl, hw'⟩
  rw [hw']
  clear hw' w'
  by_cases hs : ¬ wsig s = 0
  · have hsb : (wsig s != 0) = true := by simpa using hs
    generalize wsig s = G at *
    clear hs
    go_wp2_with fail
    go_ret
    exact ⟨rfl, HB0.out⟩
  have hs := Decidable.not_not.1 hs
  have Hok := hide (wsig_ok hs)
  simp only [hs]
  clear hs
  go_wp2_with fail
  refine (wrongR_any s _ (xv, xn) k _ _ (HN.out.below HB0.out) (HS.out.below HB0.out)).mono ?_
  rintro e w1 ⟨rfl, hb1⟩
  have HB1 := hide (below_step HB0.out hb1)
  replace Ha := hide (Ha.out.below hb1)
  replace Hx := hide (Hx.out.below hb1)
  replace Hy := hide (Hy.out.below hb1)
  clear hb1 a0 a1 a2 HB0
  clear w0
  by_cases hs : ¬ wrongF s (xv, xn) k = 0
  · have hsb : (wrongF s (xv, xn) k != 0) = true := by simpa using hs
    generalize wrongF s (xv, xn) k = G at *
    clear hs
    go_wp2_with fail
    go_ret
    exact ⟨rfl, HB1.out⟩
  have hs := Decidable.not_not.1 hs
  have Hga := hide (sig_walk (t := ((xv, xn), k)) (right_of Hok.out.1 hs).2.2.2.2)
  simp only [hs]
  clear hs
  go_wp2_with fail
  refine (wrongCR_any s _ c _ _ (HN.out.below HB1.out) (HC.out.below HB1.out)).mono ?_
  rintro e w2 ⟨rfl, hb1⟩
  have HB2 := hide (below_step HB1.out hb1)
  replace Ha := hide (Ha.out.below hb1)
  replace Hx := hide (Hx.out.below hb1)
  replace Hy := hide (Hy.out.below hb1)
  clear hb1 HB1
  clear w1
  by_cases hs : ¬ wrongC s c = 0
  · have hsb : (wrongC s c != 0) = true := by simpa using hs
    generalize wrongC s c = G at *
    clear hs
    go_wp2_with fail
    go_ret
    exact ⟨rfl, HB2.out⟩
  have hs := Decidable.not_not.1 hs
  have Hwc := hide (wrongC_iff.1 hs)
  simp only [hs]
  clear hs
  go_wp2_with fail
  go_loopw [46] (fun i wr => ∃ j : Nat, j ≤ Fo.len F ∧ i = .int .i64 j ∧ (∀ i y, i < j → F.list[i]? = some y → sigT s y) ∧ Below w2.heap.size w2 wr) (fun i _ => Fo.len F - (intOf i).toNat)
  case atStart => exact ⟨0, Nat.zero_le _, rfl, fun i y hi => absurd hi (by omega), Below.refl _ _⟩
  case round =>
    obtain ⟨j, hj, rfl, hok, hBr⟩ := hrel
    have Hfok := hide hok
    have HBr := hide (below_step HB2.out hBr)
    have HBr2 := hide hBr
    clear hok
    by_cases hlt : j < Fo.len F
    · have hlt' : (j : Int) < (Fo.len F : Int) := by omega
      obtain ⟨⟨⟨yv, yn⟩, yk⟩, hy⟩ : ∃ y, F.list[j]? = some y := ⟨F.list[j]'(by rw [Fo.len_list]; exact hlt), by simp⟩
      obtain ⟨d0, d1, yv', d2, hSy⟩ := (HFF.out.below HBr.out).at hy
      have HSy := hide hSy
      obtain ⟨za, zc, _, _, rfl, -, -, -, -⟩ := hSy
      have hfa' := hfa (by omega)
      subst hfa'
      have Hyy := hide hy
      clear hy hfa hBr
      go_wp2_with fail
      refine (wrongR_any s _ (yv, yn) yk _ _ ((HN.out.below HBr.out).alloc _) (HSy.out.alloc _)).mono ?_
      rintro e w3 ⟨rfl, hb3⟩
      have hb4 := below_box hb3
      have HB3 := hide (below_step HBr.out hb4)
      have HB4 := hide (below_step HBr2.out hb4)
      clear hb3 hb4 d0 d1 d2
      by_cases hs : ¬ wrongF s (yv, yn) yk = 0
      · have hsb : (wrongF s (yv, yn) yk != 0) = true := by simpa using hs
        generalize wrongF s (yv, yn) yk = G at *
        clear hs
        go_wp2_with fail
        go_ret
        exact ⟨rfl, HB3.out⟩
      have hs := Decidable.not_not.1 hs
      have Hgy := hide (sig_walk (t := ((yv, yn), yk)) (right_of Hok.out.1 hs).2.2.2.2)
      have Hf2 : Hid (∀ i y, i < j + 1 → F.list[i]? = some y → sigT s y) := fun i y hi h => by
        by_cases e : i = j
        · subst e
          rw [Hyy.out] at h
          rw [← Option.some.inj h]
          exact Hgy.out
        · exact Hfok.out i y (by omega) h
      simp only [hs]
      clear hs
      go_wp2_with fail
      go_roundw
      case rel => exact ⟨j + 1, by omega, by go_num, Hf2.out, HB4.out⟩
      case measure => simp [intOf]; omega
    · have Hall : Hid (∀ y ∈ F.list, sigT s y) := fun y hy => by
        obtain ⟨i, hi, rfl⟩ := List.mem_iff_getElem.1 hy
        rw [Fo.len_list] at hi
        exact Hfok.out i _ (by omega) (by simp)
      replace Ha := hide (Ha.out.below HBr2.out)
      replace Hx := hide (Hx.out.below HBr2.out)
      replace Hy := hide (Hy.out.below HBr2.out)
      clear Hfok HBr2 hBr HB2
      go_wp2_with fail
      go_loopw [55] (fun i wq => ∃ j : Nat, j ≤ 3 ∧ i = .int .i64 j ∧ Below wr.heap.size wr wq) (fun i _ => 3 - (intOf i).toNat)
      case atStart => exact ⟨0, Nat.zero_le _, rfl, Below.refl _ _⟩
      case round =>
        obtain ⟨j, hj, rfl, hBq⟩ := hrel
        have HBq := hide hBq
        have HBf := hide (below_step HBr.out hBq)
        by_cases hlt : j < 3
        · have hlt' : (j : Int) < 3 := by omega
          have g1 := grow_cell hBq _ _ (b3_nth Hx.out hlt)
          have g2 := grow_cell hBq _ _ (b3_nth Hy.out hlt)
          generalize nth3 xa xb xc j = X at *
          generalize nth3 ya yb yc j = Y at *
          clear hBq
          by_cases q1 : X < -2
          · go_wp2_with fail
            go_ret
            exact ⟨rfl, HBf.out⟩
          by_cases q2 : X > 6
          · go_wp2_with fail
            go_ret
            exact ⟨rfl, HBf.out⟩
          by_cases q3 : Y < -2
          · go_wp2_with fail
            go_ret
            exact ⟨rfl, HBf.out⟩
          by_cases q4 : Y > 6
          · go_wp2_with fail
            go_ret
            exact ⟨rfl, HBf.out⟩
          go_wp2_with fail
          go_roundw
          case rel => exact ⟨j + 1, by omega, by go_num, HBq.out⟩
          case measure => simp [intOf]; omega
        · replace Ha := hide (Ha.out.below HBq.out)
          replace Hx := hide (Hx.out.below HBq.out)
          replace Hy := hide (Hy.out.below HBq.out)
          clear HBr HBq hBq
          obtain ⟨k0, k1, k2, hk⟩ := keyT_is ((xv, xn), k)
          have Hk := hide hk
          obtain ⟨a0, a1, a2, -⟩ := Ha.out
          obtain ⟨x0, x1, x2, -⟩ := Hx.out
          obtain ⟨y0, y1, y2, -⟩ := Hy.out
          clear hk
          go_upto_region 15 with fail
          have hcur : Below wr.heap.size wr wr.drew := (Below.refl _ _).drew
          go_region_held3 (fun w' => w'.cell? ⟨w.heap.size, 0, none⟩ = some (.bool xv) ∧ w'.cell? ⟨w.heap.size, 1, none⟩ = some (.int .i64 xn) ∧ w'.cell? ⟨w.heap.size, 2, none⟩ = some (.slice ta (Fo.len k) tc) ∧ w'.cell? ⟨w.heap.size + 1, 0, none⟩ = some (.int .i64 xa) ∧ w'.cell? ⟨w.heap.size + 1, 1, none⟩ = some (.int .i64 xb) ∧ w'.cell? ⟨w.heap.size + 1, 2, none⟩ = some (.int .i64 xc) ∧ w'.cell? ⟨w.heap.size + 1 + 1, 0, none⟩ = some (.int .i64 ya) ∧ w'.cell? ⟨w.heap.size + 1 + 1, 1, none⟩ = some (.int .i64 yb) ∧ w'.cell? ⟨w.heap.size + 1 + 1, 2, none⟩ = some (.int .i64 yc))
            (first
              | (with_reducible exact ⟨grow_cell hcur _ _ a0, grow_cell hcur _ _ a1, grow_cell hcur _ _ a2, grow_cell hcur _ _ x0, grow_cell hcur _ _ x1, grow_cell hcur _ _ x2, grow_cell hcur _ _ y0, grow_cell hcur _ _ y1, grow_cell hcur _ _ y2⟩)
              | go_keep)
            (first
              | (go_at_call 21; refine (keyP_call Hok.out.2.1 (x := (xv, xn)) Hk.out (HS.out.below (below_step HBf.out hcur)) Hga.out).mono ?_; rintro e wz ⟨rfl, hb⟩; replace hcur := below_step hcur hb; clear hb)
              | (go_at_call 22; refine (keyR_call Hok.out.2.1 (x := (xv, xn)) Hk.out (HS.out.below (below_step HBf.out hcur)) Hga.out).mono ?_; rintro e wz ⟨rfl, hb⟩; replace hcur := below_step hcur hb; clear hb)
              | (go_at_call 23; refine (unifyP_any8 _ _ _ _ _ _ _).mono ?_; rintro e wz ⟨rfl, hb⟩; replace hcur := below_step hcur hb; clear hb)
              | (go_at_call 24; refine (mayUnifyR_any _ _ _ _ _ _ _).mono ?_; rintro e wz ⟨rfl, hb⟩; replace hcur := below_step hcur hb; clear hb)
              | (go_at_call 25; refine (matchP_any8 _ _ _ _ _ _ _).mono ?_; rintro e wz ⟨rfl, hb⟩; replace hcur := below_step hcur hb; clear hb)
              | (go_at_call 26; refine (mayMatchR_any _ _ _ _ _ _ _).mono ?_; rintro e wz ⟨rfl, hb⟩; replace hcur := below_step hcur hb; clear hb))
          all_goals
            rename_i hheld
            have HBz := hide (below_step HBf.out hcur)
            replace Ha := hide (Ha.out.below hcur)
            clear hcur hheld a0 a1 a2 x0 x1 x2 y0 y1 y2 Hx Hy HBf
            go_wp2_with fail
            have Hl8 : Hid (Fo.len F * 8 ≤ 140737488355320) := by rw [Hid]; omega
            obtain ⟨i3, hi3, hy0, hy1, hy2⟩ := info_parts Try.info3
            go_loopw [16, 106] (fun v i wq => ∃ (j : Nat) (L : List Int) (z1 : Option Addr) (z3 : Nat), j ≤ Fo.len F ∧ i = .int .i64 j ∧ v = .slice z1 L.length z3 ∧ L = fndL [k0, k1, k2] (F.list.take j) 0 ∧ Below wz.heap.size wz wq ∧ wq.ownsRow wz.heap.size 3 1 (.slice z1 L.length z3) L.length (vals L)) (fun _ i _ => Fo.len F - (intOf i).toNat)
            case atStart => exact ⟨0, [], none, 0, Nat.zero_le _, rfl, rfl, rfl, Below.refl _ _, World.ownsRow_nil _ _ _ _⟩
            case round =>
              obtain ⟨j, L, z1, z3, hj, rfl, rfl, hL, hBr, hor⟩ := hrel
              have HL := hide hL
              have Hor := hide hor
              have HBr := hide hBr
              clear hL hor
              by_cases hlt : j < Fo.len F
              · have hlt' : (j : Int) < (Fo.len F : Int) := by omega
                obtain ⟨⟨⟨yv, yn⟩, yk⟩, hy⟩ : ∃ y, F.list[j]? = some y := ⟨F.list[j]'(by rw [Fo.len_list]; exact hlt), by simp⟩
                obtain ⟨d0, d1, yv', d2, hSy⟩ := (HFF.out.below (below_step HBz.out hBr)).at hy
                obtain ⟨a0, a1, a2, -⟩ := Ha.out.below hBr
                have HSy := hide hSy
                obtain ⟨ya', yc', _, _, rfl, -, -, -, -⟩ := hSy
                have hfa' := hfa (by omega)
                subst hfa'
                obtain ⟨y0, y1, y2, hyk⟩ := keyT_is ((yv, yn), yk)
                have Hyk := hide hyk
                have Hys := hide (Hall.out ((yv, yn), yk) (List.mem_of_getElem? hy))
                have HLn : Hid (fndL [k0, k1, k2] (F.list.take (j + 1)) 0 = L ++ (if uniK [y0, y1, y2] [k0, k1, k2] then [(j : Int)] else [])) := by
                  rw [Hid, fndL_snoc _ _ _ _ _ hy, HL.out, hyk, Nat.zero_add]
                have HLj : Hid (L.length ≤ j) := by
                  rw [Hid, HL.out]
                  have := fndL_len [k0, k1, k2] (F.list.take j) 0
                  rw [List.length_take] at this
                  omega
                have HSa := hide (HS.out.below (below_step HBz.out hBr))
                clear hy hfa hyk hBr
                go_upto_region 21 with fail
                generalize hwx : wr.alloc (.cells #[.bool yv, .int .i64 yn, .slice ya' (Fo.len yk) yc'] 33) = wx
                have HBx : Hid (Below wr.heap.size wr wx) := by rw [← hwx]; exact below_alloc _ _
                have t0 : wx.cell? ⟨wr.heap.size, 0, none⟩ = some (.bool yv) := by rw [← hwx]; exact new_cell rfl
                have t1 : wx.cell? ⟨wr.heap.size, 1, none⟩ = some (.int .i64 yn) := by rw [← hwx]; exact new_cell rfl
                have t2 : wx.cell? ⟨wr.heap.size, 2, none⟩ = some (.slice ya' (Fo.len yk) yc') := by rw [← hwx]; exact new_cell rfl
                replace a0 := grow_cell HBx.out _ _ a0
                replace a1 := grow_cell HBx.out _ _ a1
                replace a2 := grow_cell HBx.out _ _ a2
                have HSx := hide (HSy.out.below HBx.out)
                replace HSa := hide (HSa.out.below HBx.out)
                clear hwx d0 d1 d2 HSy
                have Hc1 := hide (fun (w' : World) (hb : Below wx.heap.size wx w') => keyR_call Hok.out.2.1 (x := (yv, yn)) Hyk.out (HSx.out.below hb) Hys.out)
                have Hc2 := hide (fun (w' : World) (hb : Below wx.heap.size wx w') => keyR_call Hok.out.2.1 (x := (xv, xn)) Hk.out (HSa.out.below hb) Hga.out)
                simp only at Hc1 Hc2
                have hcur : Below wx.heap.size wx wx.drew := (Below.refl _ _).drew
                go_region_held3 (fun w' => w'.cell? ⟨wr.heap.size, 0, none⟩ = some (.bool yv) ∧ w'.cell? ⟨wr.heap.size, 1, none⟩ = some (.int .i64 yn) ∧ w'.cell? ⟨wr.heap.size, 2, none⟩ = some (.slice ya' (Fo.len yk) yc') ∧ w'.cell? ⟨w.heap.size, 0, none⟩ = some (.bool xv) ∧ w'.cell? ⟨w.heap.size, 1, none⟩ = some (.int .i64 xn) ∧ w'.cell? ⟨w.heap.size, 2, none⟩ = some (.slice ta (Fo.len k) tc))
                  (first
                    | (with_reducible exact ⟨grow_cell hcur _ _ t0, grow_cell hcur _ _ t1, grow_cell hcur _ _ t2, grow_cell hcur _ _ a0, grow_cell hcur _ _ a1, grow_cell hcur _ _ a2⟩)
                    | go_keep)
                  (first
                    | (go_at_call 22; with_reducible refine (Hc1.out _ hcur).mono ?_; rintro e wq ⟨rfl, hb⟩; replace hcur := below_step hcur hb; clear hb)
                    | (go_at_call 22; with_reducible refine (Hc2.out _ hcur).mono ?_; rintro e wq ⟨rfl, hb⟩; replace hcur := below_step hcur hb; clear hb)
                    | (go_at_call 24; refine (mayUnifyR_any _ _ _ _ _ _ _).mono ?_; rintro e wq ⟨rfl, hb⟩; replace hcur := below_step hcur hb; clear hb))
                all_goals
                  rename_i hheld
                  have HBq := hide (below_step HBx.out hcur)
                  have Hoq := hide (owns_keep Hor.out (fun g hg => HBq.out.block g (owns_at Hor.out g hg).2))
                  have HBw := hide (below_step HBr.out HBq.out)
                  clear hcur t0 t1 t2 a0 a1 a2 hheld Hc1 Hc2
                  cases hm : uniK [y0, y1, y2] [k0, k1, k2] with
                  | false =>
                    rw [hm] at HLn
                    have HL2 : Hid (L = fndL [k0, k1, k2] (F.list.take (j + 1)) 0) := by rw [Hid, HLn.out]; simp
                    clear hm HLn
                    go_wp2_with fail
                    go_roundw
                    case rel => exact ⟨j + 1, L, z1, z3, by omega, by go_num, rfl, HL2.out, HBw.out, Hoq.out⟩
                    case measure => simp [intOf]; omega
                  | true =>
                    rw [hm] at HLn
                    have HL2 : Hid (L ++ [(j : Int)] = fndL [k0, k1, k2] (F.list.take (j + 1)) 0) := by rw [Hid, HLn.out]; simp
                    have Hob2 : Hid ((wq.alloc (.cells #[.int .i64 j] 3)).ownsRow wz.heap.size 3 1 (.slice z1 L.length z3) L.length (vals L)) := owns_keep Hoq.out (fun g hg => (below_alloc _ _).block g (owns_at Hoq.out g hg).2)
                    have Hnews : Hid (∀ q u, [Value.int .i64 j][q]? = some u → (wq.alloc (.cells #[.int .i64 j] 3)).cell? ((⟨wq.heap.size, 0, none⟩ : Addr).add q) = some u) := by
                      have h := World.news_of_block (cs := #[.int .i64 j]) (heap_alloc_new wq (.cells #[.int .i64 j] 3))
                      intro q u hu
                      exact h q u hu
                    have hszz := HBw.out.size
                    have hlj := HLj.out
                    have hl1 : L.length + 1 ≤ maxLen := by unfold maxLen; omega
                    have hl2 : (L.length + 1) * 8 ≤ 140737488355328 := by have := Hl8.out; omega
                    clear hm HLn hlj
                    go_wp2_with (at_builtin; refine wpList_append_lies _ rfl (.tmp 116) (.tmp 118) 22 rfl wz.heap.size 3 i3 (.int .i64 0) 1 8 Try.underlying22 hi3 hy0 hy1 hy2 rfl (by decide) (.slice z1 L.length z3) L.length (vals L) rfl Hob2.out ⟨wq.heap.size, 0, none⟩ 1 1 [.int .i64 j] rfl rfl Hnews.out (by simp [Value.oneCell']) (by decide) hl1 hl2 (by simp; omega) (wq.heap.size + 1) (by simp) ?_; intro g cap w5 hown2 hg2 hat2 hlt2)
                    have HBn : Hid (Below wz.heap.size wz w5) := (HBw.out.trans ((below_alloc _ _).mono (by omega))).grown hg2 (by simp; omega) (fun g hg => (owns_at Hor.out g hg).1)
                    have Ho5 := hide (owns_snoc hown2)
                    have hle : (L ++ [(j : Int)]).length = L.length + 1 := by simp
                    clear hown2 hg2 hat2 hlt2 Hob2 Hnews
                    go_wp2_with fail
                    go_roundw
                    case rel => exact ⟨j + 1, L ++ [(j : Int)], _, cap, by omega, by go_num, by rw [hle], HL2.out, HBn.out, by rw [hle]; rw [hle] at Ho5; exact Ho5.out⟩
                    case measure => simp [intOf]; omega
              · have Hfin : Hid (fndL [k0, k1, k2] F.list 0 = L) := by
                  have e : j = F.list.length := by rw [Fo.len_list]; omega
                  rw [Hid, HL.out, e, List.take_length]
                have Hnw := hide (own_nin Hor.out)
                have HBf := hide (below_step HBz.out HBr.out)
                replace Ha := hide (Ha.out.below HBr.out)
                obtain ⟨a0, a1, a2, -⟩ := Ha.out
                have Hfd := hide (findP_any Hok.out.2.1 F _ (xv, xn) k _ wr (HF.out.below HBf.out) (HS.out.below HBf.out) Hall.out Hga.out Hl8.out)
                rw [show keyT ((xv, xn), k) = [k0, k1, k2] from Hk.out, Hfin.out] at Hfd
                clear HL Hor HBr HBz hBr hfa Hfin
                go_wp2_with fail
                refine Hfd.out.mono ?_
                rintro e w4 ⟨f1, f3, rfl, hN4, hb4⟩
                have Hsi := hide (sameInts_any L L _ _ w4 hN4 (Hnw.out.below hb4))
                rw [decide_eq_true rfl] at Hsi
                have HB4 := hide (below_step HBf.out hb4)
                clear hN4 hb4 Hnw Hfd HBf a0 a1 a2 Ha
                go_wp2_with fail
                refine Hsi.out.mono ?_
                rintro e w5 ⟨rfl, hb5⟩
                have HB5 := hide (below_step HB4.out hb5)
                have Hpt : Hid (∀ l ∈ c, PtOK l.2.1 ∧ PtOK l.2.2) := fun l hl => ⟨(pt_right Hok.out.1 (Hwc.out.2 l hl).1).1, (pt_right Hok.out.1 (Hwc.out.2 l hl).2).1⟩
                have Hal := hide (allP_any c _ w5 (HC.out.below HB5.out) Hpt.out (by have := Hwc.out.1; omega))
                obtain ⟨M, hM⟩ : ∃ M, allC c = M := ⟨_, rfl⟩
                rw [hM] at Hal
                have HM := hide hM
                clear hM hb5 HB4 Hsi
                go_wp2_with fail
                refine Hal.out.mono ?_
                rintro e w6 ⟨v6, rfl, hR6, hb6⟩
                obtain ⟨m1, m3, rfl⟩ := hR6.slice
                obtain ⟨_, _, mb, mo, hme, hma, hml, hmm, hMF⟩ := hR6.sin
                rw [foOf_len] at hme hma
                simp only [Value.slice.injEq, true_and] at hme
                obtain ⟨rfl, rfl⟩ := hme
                have HMF := hide hMF
                have HB6 := hide (below_step HB5.out hb6)
                obtain ⟨_, _, cb, co, hce, hca, hcl, hcm, hcF⟩ := HC.out
                simp only [Value.slice.injEq, true_and] at hce
                obtain ⟨rfl, rfl⟩ := hce
                have HcF := hide hcF
                unfold maxLen at hcm
                clear hR6 hb6 HB5 Hal hMF hcF hml hmm
                go_wp2_with fail
                have Hml : Hid (M.length ≤ 96) := by
                  have h1 := allC_len Hpt.out
                  have h2 := Hwc.out.1
                  rw [HM.out] at h1
                  rw [Hid]
                  omega
                go_loopw [19, 131] (fun kk i wq => ∃ (j n : Nat), j ≤ c.length ∧ i = .int .i64 j ∧ kk = .int .i64 n ∧ n = ((c.take j).flatMap prtL).length ∧ Below w6.heap.size w6 wq) (fun _ i _ => c.length - (intOf i).toNat)
                case atStart => exact ⟨0, 0, Nat.zero_le _, rfl, rfl, rfl, Below.refl _ _⟩
                case round =>
                  obtain ⟨j, n, hj, rfl, rfl, hn, hBr⟩ := hrel
                  have Hn := hide hn
                  have HBr := hide hBr
                  have HBf := hide (below_step HB6.out hBr)
                  clear hn hBr
                  generalize wr = wa at *
                  by_cases hlt : j < c.length
                  · have hlt' : (j : Int) < (c.length : Int) := by omega
                    obtain ⟨⟨yn, ⟨⟨yv, yi⟩, yk⟩, ⟨yv', yi'⟩, yk'⟩, hy⟩ : ∃ y, c[j]? = some y := ⟨c[j]'hlt, by simp⟩
                    obtain ⟨p0, p1, p2, ⟨x3, p3, hA⟩, p4, p5, x6, p6, hD⟩ := (HcF.out.below HBf.out).at hy
                    have hca' := hca (by omega)
                    subst hca'
                    have HA := hide hA
                    have HD := hide hD
                    obtain ⟨ka, kc, _, _, rfl, -, -, -, -⟩ := hA
                    obtain ⟨za, zc, _, _, rfl, -, -, -, -⟩ := hD
                    obtain ⟨pr, hpr⟩ : ∃ pr : List Tm, pr = [((yv, yi), yk), ((yv', yi'), yk')] := ⟨_, rfl⟩
                    have Hw1 := hide (Hwc.out.2 _ (List.mem_of_getElem? hy))
                    have Hpw : Hid (∀ t ∈ pr, PtOK t ∧ walkT s t.1 t.2 1 = 0) := fun t ht => by
                      rw [hpr] at ht
                      simp only [List.mem_cons, List.not_mem_nil, or_false] at ht
                      rcases ht with rfl | rfl
                      · exact pt_right Hok.out.1 Hw1.out.1
                      · exact pt_right Hok.out.1 Hw1.out.2
                    have Hpl : Hid (pr.length = 2) := by rw [hpr]; rfl
                    have Hat : Hid (∀ (m : Nat) (t : Tm) (i : Nat) (p : List Int), pr[m]? = some t → (placesT t.1 t.2 [])[i]? = some p → M[n + (((pr.take m).flatMap prtT).length + i)]? = some (partT t p)) := fun m t i p h1 h2 => by
                      rw [hpr] at h1 ⊢
                      rw [← HM.out, Hn.out]
                      exact all_at hy h1 h2
                    have Hnx : Hid (((c.take (j + 1)).flatMap prtL).length = n + (pr.flatMap prtT).length) := by
                      rw [Hid, flat_take hy, ← Hn.out, hpr]
                      simp [prtL]
                    have Hpf := hide (pair_fin (T := 33) (x := (yv, yi)) (y := (yv', yi')) (HA.out.alloc (.cells #[.bool yn, .bool yv, .int .i64 yi, .slice ka (Fo.len yk) kc, .bool yv', .int .i64 yi', .slice za (Fo.len yk') zc] 35)) (HD.out.alloc (.cells #[.bool yn, .bool yv, .int .i64 yi, .slice ka (Fo.len yk) kc, .bool yv', .int .i64 yi', .slice za (Fo.len yk') zc] 35)))
                    rw [← hpr, World.size_alloc] at Hpf
                    clear hy hca hpr Hw1
                    simp only at *
                    go_wp2_with fail
                    generalize hwb : (wa.alloc (.cells #[.bool yn, .bool yv, .int .i64 yi, .slice ka (Fo.len yk) kc, .bool yv', .int .i64 yi', .slice za (Fo.len yk') zc] 35)).alloc (.cells #[.bool yv, .int .i64 yi, .slice ka (Fo.len yk) kc, .bool yv', .int .i64 yi', .slice za (Fo.len yk') zc] 33) = wb
                    have Hbb : Hid (Below wa.heap.size wa wb) := by rw [← hwb]; exact below_step (below_alloc _ _) (below_alloc _ _)
                    rw [hwb] at Hpf
                    have HBb6 := hide (below_step HBr.out Hbb.out)
                    have HBbw := hide (below_step HBf.out Hbb.out)
                    clear hwb p0 p1 p2 p3 p4 p5 p6
                    go_loopw [19, 141] (fun kk i wq => ∃ (m n2 : Nat), m ≤ 2 ∧ i = .int .i64 m ∧ kk = .int .i64 n2 ∧ n2 = n + ((pr.take m).flatMap prtT).length ∧ Below wb.heap.size wb wq) (fun _ i _ => 2 - (intOf i).toNat)
                    case atStart => exact ⟨0, n, Nat.zero_le _, rfl, rfl, by simp, Below.refl _ _⟩
                    case round =>
                      obtain ⟨m, n2, hm, rfl, rfl, hn2, hBr⟩ := hrel
                      have Hn2 := hide hn2
                      have HBt := hide hBr
                      have HBtw := hide (below_step HBbw.out hBr)
                      clear hn2 hBr
                      generalize wr = wc at *
                      by_cases hlt2 : m < 2
                      · have hlt2' : (m : Int) < 2 := by omega
                        obtain ⟨⟨⟨tv, ti⟩, tk⟩, ht⟩ : ∃ t, pr[m]? = some t := ⟨pr[m]'(by rw [Hpl.out]; exact hlt2), by simp⟩
                        obtain ⟨q0, q1, qv, q2, hT⟩ := (Hpf.out.below HBt.out).at (by rw [foOf_list]; exact ht)
                        simp only [Nat.zero_add] at q0 q1 q2
                        have HTt := hide hT
                        obtain ⟨qa, qc, _, _, rfl, -, -, -, -⟩ := hT
                        have Hpt1 := hide (Hpw.out _ (List.mem_of_getElem? ht))
                        have Hatm := hide (fun i p h => Hat.out m ((tv, ti), tk) i p ht h)
                        have Hnx2 : Hid (((pr.take (m + 1)).flatMap prtT).length = ((pr.take m).flatMap prtT).length + (placesT (tv, ti) tk []).length) := by
                          rw [Hid, flat_take ht, prtT, List.length_map]
                        have hpc := hide (tl_placesR (x := (tv, ti)) (Z := placesT (tv, ti) tk []) rfl (HTt.out.alloc (.cells #[.bool tv, .int .i64 ti, .slice qa (Fo.len tk) qc] 33)) Hpt1.out.1.1)
                        have hZl : Hid ((placesT (tv, ti) tk []).length ≤ 12) := Nat.le_trans (placesT_len _ _ _) Hpt1.out.1.1
                        simp only at Hatm
                        generalize placesT (tv, ti) tk [] = Z at *
                        clear ht
                        go_wp2_with fail
                        refine hpc.out.mono ?_
                        rintro e w8 ⟨r1, r3, rfl, hW, hb8⟩
                        rw [World.size_alloc] at hb8
                        have HW := hide hW
                        have t0 : w8.cell? ⟨wc.heap.size, 0, none⟩ = some (.bool tv) := (hb8.cell (by simp)).trans (new_cell rfl)
                        have t1 : w8.cell? ⟨wc.heap.size, 1, none⟩ = some (.int .i64 ti) := (hb8.cell (by simp)).trans (new_cell rfl)
                        have t2 : w8.cell? ⟨wc.heap.size, 2, none⟩ = some (.slice qa (Fo.len tk) qc) := (hb8.cell (by simp)).trans (new_cell rfl)
                        have Hb8 : Hid (Below wc.heap.size wc w8) := (below_alloc _ _).trans (hb8.mono (by omega))
                        have HT0 := hide t0
                        have HT1 := hide t1
                        have HT2 := hide t2
                        have HB8t := hide (below_step HBt.out Hb8.out)
                        have HB8w := hide (below_step HBtw.out Hb8.out)
                        have HT8 := hide (HTt.out.below Hb8.out).toB
                        clear hW hb8 t0 t1 t2 q0 q1 q2 hpc
                        go_wp2_with fail
                        go_loopw [19, 148] (fun kk i wq => ∃ (u n3 : Nat), u ≤ Z.length ∧ i = .int .i64 u ∧ kk = .int .i64 n3 ∧ n3 = n2 + u ∧ Below w8.heap.size w8 wq) (fun _ i _ => Z.length - (intOf i).toNat)
                        case atStart => exact ⟨0, n2, Nat.zero_le _, rfl, rfl, rfl, Below.refl _ _⟩
                        case round =>
                          obtain ⟨u, n3, hu, rfl, rfl, hn3, hBr⟩ := hrel
                          have Hn3 := hide hn3
                          have HBu := hide hBr
                          have HBuw := hide (below_step HB8w.out hBr)
                          clear hn3 hBr
                          generalize wr = wd at *
                          by_cases hlt3 : u < Z.length
                          · have hlt3' : (u : Int) < (Z.length : Int) := by omega
                            obtain ⟨p, hp⟩ : ∃ p, Z[u]? = some p := ⟨Z[u], by simp⟩
                            obtain ⟨_, _, zb, hze, hza, -, -, hzF⟩ := HW.out.below HBu.out
                            simp only [Value.slice.injEq, true_and] at hze
                            obtain ⟨rfl, rfl⟩ := hze
                            have hza' := hza (by omega)
                            subst hza'
                            obtain ⟨pv, e0, hN⟩ := hzF u p hp
                            have HNp := hide hN
                            obtain ⟨n1, n3', rfl⟩ := nin_slice hN
                            obtain ⟨bt, ⟨zv, zi⟩, zk, hat⟩ := at_is p (tv, ti) tk
                            have Hai := hide hat
                            have hMi := Hatm.out u p hp
                            rw [part_is hat, ← Nat.add_assoc, ← Hn2.out, ← Hn3.out] at hMi
                            have HMi := hide hMi
                            have hnM : n3 < M.length := (List.getElem?_eq_some_iff.1 hMi).1
                            have t0 := grow_cell HBu.out _ _ HT0.out
                            have t1 := grow_cell HBu.out _ _ HT1.out
                            have t2 := grow_cell HBu.out _ _ HT2.out
                            have hac := hide (tl_atR (x := (tv, ti)) Hai.out Hpt1.out.2 (fun q hq => Nat.lt_of_lt_of_le hq HBu.out.size) (HT8.out.grow (fun q hq => hq) HBu.out) HNp.out)
                            clear hp hat hMi hN hza hzF
                            go_wp2_with fail
                            refine hac.out.mono ?_
                            rintro e w9 ⟨a1, a2, a3, rfl, hk9, hb9⟩
                            have Hk9 := hide hk9.toS
                            have HB9 := hide (below_step HBu.out hb9)
                            have HB9w := hide (below_step HBuw.out hb9)
                            clear hk9 hb9 hac t0 t1 t2 e0
                            go_upto_region 38 with fail
                            generalize hwe : w9.alloc (.cells #[.bool zv, .int .i64 zi, .slice a1 a2 a3] 33) = we
                            have HBe : Hid (Below w9.heap.size w9 we) := by rw [← hwe]; exact below_alloc _ _
                            have s0 : we.cell? ⟨w9.heap.size, 0, none⟩ = some (.bool zv) := by rw [← hwe]; exact new_cell rfl
                            have s1 : we.cell? ⟨w9.heap.size, 1, none⟩ = some (.int .i64 zi) := by rw [← hwe]; exact new_cell rfl
                            have s2 : we.cell? ⟨w9.heap.size, 2, none⟩ = some (.slice a1 a2 a3) := by rw [← hwe]; exact new_cell rfl
                            have HBe8 := hide (below_step HB9.out HBe.out)
                            have HBew := hide (below_step HB9w.out HBe.out)
                            have HBe6 := hide (below_step HBb6.out (below_step HB8t.out HBe8.out))
                            have Hke := hide (Hk9.out.below HBe.out)
                            obtain ⟨v0, v1, vm, v2, hVm⟩ := (HMF.out.below HBe6.out).at (by rw [foOf_list]; exact HMi.out)
                            have HVm := hide hVm
                            obtain ⟨va, vc, _, _, rfl, -, -, -, -⟩ := hVm
                            have hma' := hma (by omega)
                            subst hma'
                            have hge : ¬ ((M.length : Int) ≤ (n3 : Int)) := by omega
                            have hlm : (n3 : Int) < (M.length : Int) := by omega
                            have hn96 := Hml.out
                            clear hwe hma
                            have hcur : Below we.heap.size we we.drew := (Below.refl _ _).drew
                            simp only at v0 v1 v2 s0 s1 s2
                            go_region_held3 (fun w' => w'.cell? ⟨w9.heap.size, 0, none⟩ = some (.bool zv) ∧ w'.cell? ⟨w9.heap.size, 1, none⟩ = some (.int .i64 zi) ∧ w'.cell? ⟨w9.heap.size, 2, none⟩ = some (.slice a1 a2 a3) ∧ w'.cell? ⟨mb, mo + n3 * 3, none⟩ = some (.bool zv) ∧ w'.cell? ⟨mb, mo + n3 * 3 + 1, none⟩ = some (.int .i64 zi) ∧ w'.cell? ⟨mb, mo + n3 * 3 + 2, none⟩ = some (.slice va (Fo.len zk) vc))
                              (first
                                | (with_reducible exact ⟨grow_cell hcur _ _ s0, grow_cell hcur _ _ s1, grow_cell hcur _ _ s2, grow_cell hcur _ _ v0, grow_cell hcur _ _ v1, grow_cell hcur _ _ v2⟩)
                                | go_keep)
                              (first
                                | (go_at_call 12; refine (tl_same (x := (zv, zi)) (HVm.out.below hcur) (Hke.out.below hcur)).mono ?_; rintro e wq ⟨rfl, hb⟩; replace hcur := below_step hcur hb; clear hb))
                            all_goals
                              rename_i hheld
                              have HBq := hide (below_step HBe8.out hcur)
                              have Hn3' : Hid (n3 + 1 = n2 + (u + 1)) := by rw [Hid, Hn3.out]; omega
                              have hz12 := hZl.out
                              clear hcur hheld s0 s1 s2 v0 v1 v2
                              go_wp2_with fail
                              go_roundw
                              case rel => exact ⟨u + 1, n3 + 1, by omega, by go_num, by go_num, Hn3'.out, HBq.out⟩
                              case measure => simp [intOf]; omega
                          · have Hfin : Hid (n3 = n + ((pr.take (m + 1)).flatMap prtT).length) := by
                              have e : u = Z.length := by omega
                              rw [Hid, Hn3.out, Hn2.out, Hnx2.out, e, Nat.add_assoc]
                            go_wp2_with fail
                            go_roundw
                            case rel => exact ⟨m + 1, n3, by omega, by go_num, rfl, Hfin.out, below_step HB8t.out HBu.out⟩
                            case measure => simp [intOf]; omega
                      · have Hfin : Hid (n2 = ((c.take (j + 1)).flatMap prtL).length) := by
                          have e : m = pr.length := by rw [Hpl.out]; omega
                          rw [Hid, Hnx.out, Hn2.out, e, List.take_length]
                        go_wp2_with fail
                        go_roundw
                        case rel => exact ⟨j + 1, n2, by omega, by go_num, rfl, Hfin.out, below_step HBb6.out HBt.out⟩
                        case measure => simp [intOf]; omega
                  · have Hfin : Hid (n = M.length) := by
                      have e : j = c.length := by omega
                      rw [Hid, Hn.out, e, List.take_length, ← HM.out]
                      rfl
                    have e := Hfin.out
                    subst e
                    clear hca
                    go_wp2_with fail
                    go_ret
                    exact ⟨rfl, HBf.out⟩
end Go.Proofs.Ytiilckjnggeeoad
