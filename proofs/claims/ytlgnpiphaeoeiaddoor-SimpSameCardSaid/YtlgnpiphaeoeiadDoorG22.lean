/- CMh L6H L7S Open4 Open5 Open7 -/
import Derived.Test.YtlgnpiphaeoeiadDoorG21
namespace Go.Proofs.YtlgnpiphaeoeiadDoor
open Go.RowKit Go.Deep Go.ChangeShapes Go.WideShapes
attribute [local go_sem ↓] Go.wp_at_zero Go.wp_at_succ
def kd (z : Int) (n : Int) : Nat → Int
  | 0 => n
  | j + 1 => kd z n j / z
theorem kd_shift (z n : Int) : ∀ j, kd z (n / z) j = kd z n (j + 1)
  | 0 => rfl
  | j + 1 => by rw [kd, kd_shift z n j]; rfl
theorem envF_snoc {z v : Int} : ∀ (vs : List Int) (n : Int) (L : List Int), envF z (vs ++ [v]) n L = (envF z vs n L).set v.toNat (kd z n vs.length % z)
  | [], n, L => rfl
  | x :: vs, n, L => by
    rw [List.cons_append, envF, envF_snoc vs, envF, kd_shift]
    rfl
theorem envF_take {z v : Int} {vs : List Int} {j : Nat} {n : Int} {L : List Int} (h : vs[j]? = some v) : envF z (vs.take (j + 1)) n L = (envF z (vs.take j) n L).set v.toNat (kd z n j % z) := by
  have hj : j < vs.length := (List.getElem?_eq_some_iff.1 h).1
  rw [List.take_add_one, h]
  show envF z (vs.take j ++ [v]) n L = _
  rw [envF_snoc, List.length_take, Nat.min_eq_left (by omega)]
theorem kd_range {z n : Int} (hz : 1 ≤ z) (h0 : 0 ≤ n) : ∀ j, 0 ≤ kd z n j ∧ kd z n j ≤ n
  | 0 => ⟨h0, Int.le_refl _⟩
  | j + 1 => by
    have ih := kd_range hz h0 j
    rw [kd]
    have h1 := Int.ediv_nonneg ih.1 (show (0 : Int) ≤ z by omega)
    have h2 := Int.ediv_le_self z ih.1
    exact ⟨h1, by omega⟩
theorem pw_le {z : Int} (h1 : 1 ≤ z) (h8 : z ≤ 8) : ∀ j, pw z j ≤ pw 8 j
  | 0 => Int.le_refl _
  | j + 1 => by
    have ih := pw_le h1 h8 j
    have h0 := pw_pos h1 j
    rw [pw, pw]
    exact Int.mul_le_mul h8 ih (by omega) (by omega)
theorem pw_five {z : Int} (h1 : 1 ≤ z) (h8 : z ≤ 8) {j : Nat} (hj : j ≤ 5) : pw z j ≤ 32768 := by
  have := pw_le h1 h8 j
  have h2 : pw 8 j ≤ 32768 := by
    rcases (by omega : j = 0 ∨ j = 1 ∨ j = 2 ∨ j = 3 ∨ j = 4 ∨ j = 5) with rfl | rfl | rfl | rfl | rfl | rfl <;> decide
  omega
def EB (W : World) (L : List Int) (wx : World) : Prop := Below W.heap.size W wx ∧ W.heap.size < wx.heap.size ∧ L.length = 5 ∧ ∀ i, i < 5 → wx.cell? ⟨W.heap.size, i, none⟩ = some (.int .i64 (L.getD i 0)) ∧ wx.frozen? ⟨W.heap.size, i, none⟩ = false
theorem eb_start (W : World) : EB W env0 (W.alloc (.cells (madeCells #[.int .i64 0] (5 * 1)) 3)) := by
  refine ⟨below_alloc _ _, by simp, rfl, fun i hi => ⟨?_, frozen_new _ _ _ _⟩⟩
  rcases (by omega : i = 0 ∨ i = 1 ∨ i = 2 ∨ i = 3 ∨ i = 4) with rfl | rfl | rfl | rfl | rfl <;> exact (new_cell rfl).trans (by simp [madeCells])
theorem eb_step {W wx : World} {L : List Int} {m : Nat} {x : Int} (h : EB W L wx) (hm : m < 5) : EB W (L.set m x) (wx.setCell ⟨W.heap.size, m, none⟩ (.int .i64 x)) := by
  obtain ⟨h1, h2, h3, h4⟩ := h
  refine ⟨h1.setCell (Nat.le_refl _) _, by simpa [World.setCell] using h2, by simp [h3], fun i hi => ⟨?_, by simpa using (h4 i hi).2⟩⟩
  by_cases e : i = m
  · subst e
    rw [set_same (h4 i hi).1, List.getD_eq_getElem?_getD, List.getElem?_set_self (by omega)]
    rfl
  · rw [set_other (by intro e'; simp only [Addr.mk.injEq] at e'; omega), (h4 i hi).1, List.getD_eq_getElem?_getD, List.getD_eq_getElem?_getD, List.getElem?_set_ne (fun e' => e e'.symm)]
theorem eb_nin {W wx : World} {L : List Int} (h : EB W L wx) : NIn wx L (.slice (some ⟨W.heap.size, 0, none⟩) 5 5) := by
  obtain ⟨h1, h2, h3, h4⟩ := h
  refine ⟨some ⟨W.heap.size, 0, none⟩, 5, W.heap.size, 0, by rw [h3], fun _ => rfl, by omega, by unfold maxLen; omega, fun i hi => ?_⟩
  rw [Nat.zero_add]
  exact (h4 i (by omega)).1
set_option maxRecDepth 100000 in
set_option maxHeartbeats 2000000 in
theorem holdsR_any {s : List Int} {z : Int} {tb : List (List Int)} (hm : MR s z tb) (hs : s.all okNum = true) (k : Cl) (mv a : Value) (w : World) (hT : TbIn w tb mv) (hS : CIn w k a)
    (hw : ∀ l ∈ k, sigT s l.2.1 ∧ sigT s l.2.2) (hv5 : (varsC k []).length ≤ 5) (hvr : ∀ n ∈ varsC k [], 0 ≤ n ∧ n ≤ 4) :
    Calls Tryd.prog 16 #[.agg #[.int .i64 z, mv], a] w fun e w' => e = .returned (.bool (holdsB z tb k)) ∧ Below w.heap.size w w' := by
  have HT := hide hT
  have HS := hide hS
  have z1 := hm.z1
  have z8 := hm.z8
  have Hsome := hide (fun (L : List Int) (hL : L.length = 5) (hr : ∀ x ∈ L, 0 ≤ x ∧ x < z) (ev : Value) (w' : World) (hb : Below w.heap.size w w') (hE : NIn w' L ev) => someR_any hm hs hL hr k mv ev a w' (hT.below hb) hE (hS.below hb) hw)
  obtain ⟨ta, tc, rfl⟩ := tb_slice hT
  obtain ⟨a1, a3, rfl⟩ := slice_of_cl hS
  have Hvr := hide hvr
  have Hpw : Hid (∀ j, j ≤ (varsC k []).length → 1 ≤ pw z j ∧ pw z j ≤ 32768) := fun j hj => ⟨pw_pos z1 j, pw_five z1 z8 (by omega)⟩
  obtain ⟨iI, hi, hz0, hz1, hz2⟩ := info_parts Tryd.info3
  clear hm hs hT hS hw hvr
  go_enter Tryd.func16, Tryd.ntmps16
  go_upto_region 1 with fail
  generalize hW1 : w.alloc (.cells #[.int .i64 z, .slice ta tb.length tc] 29) = W1
  have hB1 : Below w.heap.size w W1 := by rw [← hW1]; exact below_alloc _ _
  have m0 : W1.cell? ⟨w.heap.size, 0, none⟩ = some (.int .i64 z) := by rw [← hW1]; exact new_cell rfl
  have m1 : W1.cell? ⟨w.heap.size, 1, none⟩ = some (.slice ta tb.length tc) := by rw [← hW1]; exact new_cell rfl
  clear hW1
  go_wp2_with fail
  refine (varsCR_any k _ _ (HS.out.below hB1) (by omega)).mono ?_
  rintro e w2 ⟨vv, rfl, hN, hb2⟩
  have hB2 := below_step hB1 hb2
  replace m0 := grow_cell hb2 _ _ m0
  replace m1 := grow_cell hb2 _ _ m1
  have HN := hide hN
  obtain ⟨va, vc, vb, vo, rfl, hvad, hvlc, hvcm, hVF⟩ := hN
  unfold maxLen at hvcm
  have HVF := hide hVF
  have Hho : Hid (holdsB z tb k = (List.range (pw z (varsC k []).length).toNat).all fun n => someH z tb (envOf (envF z (varsC k []) n env0)) k) := rfl
  generalize varsC k [] = vs at *
  clear hVF hb2 hB1
  go_wp2_with fail
  go_loopw [6, 16] (fun p i wr => ∃ j : Nat, j ≤ vs.length ∧ i = .int .i64 j ∧ p = .int .i64 (pw z j) ∧ w2 = wr) (fun _ i _ => vs.length - (intOf i).toNat)
  case atStart => exact ⟨0, Nat.zero_le _, rfl, rfl, rfl⟩
  case round =>
    obtain ⟨j, hj, rfl, rfl, rfl⟩ := hrel
    by_cases hlt : j < vs.length
    · have hlt' : (j : Int) < (vs.length : Int) := by omega
      have h1 := Hpw.out j hj
      have h2 := Hpw.out (j + 1) (by omega)
      have Hst : Hid (wrap64 (pw z j * z) = pw z (j + 1)) := by
        unfold Hid wrap64
        rw [show pw z (j + 1) = pw z j * z by rw [pw, Int.mul_comm]]
        rw [show pw z (j + 1) = pw z j * z by rw [pw, Int.mul_comm]] at h2
        omega
      clear h1 h2
      go_wp2_with fail
      go_roundw
      case rel => exact ⟨j + 1, by omega, by go_num, by rw [← Hst.out], trivial⟩
      case measure => simp [intOf]; omega
    · have hje : j = vs.length := by omega
      subst hje
      have hp := Hpw.out vs.length (Nat.le_refl _)
      obtain ⟨all, hall⟩ : ∃ all : Nat, pw z vs.length = all := ⟨(pw z vs.length).toNat, by omega⟩
      rw [hall, Int.toNat_natCast] at Hho
      rw [hall] at hp ⊢
      clear hall Hpw
      go_wp2_with fail
      go_loopw [24] (fun i wr => ∃ n : Nat, n ≤ all ∧ i = .int .i64 n ∧ (∀ q, q < n → someH z tb (envOf (envF z vs (q : Nat) env0)) k = true) ∧ Below w2.heap.size w2 wr) (fun i _ => all - (intOf i).toNat)
      case atStart => exact ⟨0, Nat.zero_le _, rfl, fun q hq => by omega, Below.refl _ _⟩
      case round =>
        obtain ⟨n, hn, rfl, hok, hBx⟩ := hrel
        have Hok := hide hok
        clear hok
        replace m0 := grow_cell hBx _ _ m0
        replace m1 := grow_cell hBx _ _ m1
        have hBr := below_step hB2 hBx
        by_cases hnl : n < all
        · have hnl' : (n : Int) < (all : Int) := by omega
          have hq0 : (0 : Int) ≤ (n : Int) := by omega
          have Hkd := hide (fun j => kd_range z1 hq0 j)
          have Henv := hide (fun m => env_range z1 (vs := vs.take m) (n := (n : Int)) (L := env0) (fun x hx => by simp at hx; omega))
          have hmk := fun w : World => run_make (P := Tryd.prog) w 22 3 iI _ Tryd.underlying22 hi hz0 .i64 .i64 5 5 (by omega) (by omega) (by rw [hz2]; omega) (by omega)
          rw [hz1] at hmk
          go_wp2_with fail
          clear hmk
          generalize wr = wo at *
          go_loopw [9, 31] (fun q i wx => ∃ j : Nat, j ≤ vs.length ∧ i = .int .i64 j ∧ q = .int .i64 (kd z n j) ∧ EB wo (envF z (vs.take j) n env0) wx) (fun _ i _ => vs.length - (intOf i).toNat)
          case atStart => exact ⟨0, Nat.zero_le _, rfl, rfl, eb_start wo⟩
          case round =>
            obtain ⟨j, hj, rfl, rfl, hE⟩ := hrel
            have HE := hide hE
            have hBy := hE.1
            have hBz := below_step hBr hBy
            have hwo : w.heap.size < wo.heap.size := World.block_lt_of_cell? _ _ m0
            by_cases hjl : j < vs.length
            · have hjl' : (j : Int) < (vs.length : Int) := by omega
              have hvj : vs[j]? = some (vs.getD j 0) := by rw [List.getD_eq_getElem?_getD, List.getElem?_eq_getElem hjl]; rfl
              have hc := grow_cell (below_step hBx hBy) _ _ (HVF.out j hjl)
              have hvr := Hvr.out _ (List.mem_of_getElem? hvj)
              generalize vs.getD j 0 = v at hvj hc hvr
              obtain ⟨m, rfl⟩ : ∃ m : Nat, v = m := ⟨v.toNat, by omega⟩
              have Htk := hide (envF_take (z := z) (n := (n : Int)) (L := env0) hvj)
              have hva : va = some ⟨vb, vo, none⟩ := hvad (by omega)
              subst hva
              replace m0 := grow_cell hBy _ _ m0
              obtain ⟨e1, e2⟩ := hE.2.2.2 m (by omega)
              have hm5 : (m : Int) < 5 := by omega
              have hm0 : (0 : Int) ≤ (m : Int) := by omega
              have hk := Hkd.out j
              have Hkn : Hid (kd z n (j + 1) = kd z n j / z) := rfl
              rw [Int.toNat_natCast] at Htk
              generalize kd z n j = q at hk Hkn Htk
              obtain ⟨hk0, hk1⟩ := hk
              have hzz : z ≠ 0 := by omega
              have HS5 : Hid (EB wo (envF z (vs.take (j + 1)) n env0) (wr.setCell ⟨wo.heap.size, m, none⟩ (.int .i64 (q % z)))) := by
                rw [Htk.out]
                exact eb_step HE.out (by omega)
              have m0s : (wr.setCell ⟨wo.heap.size, m, none⟩ (.int .i64 (q % z))).cell? ⟨w.heap.size, 0, none⟩ = some (.int .i64 z) := (set_other (by intro e'; simp only [Addr.mk.injEq] at e'; omega)).trans m0
              clear hvj hvr hvad hE
              go_wp2_with fail
              go_roundw
              case rel => exact ⟨j + 1, by omega, by go_num, by rw [Hkn.out], HS5.out⟩
              case measure => simp [intOf]; omega
            · have hje : j = vs.length := by omega
              subst hje
              have Hq : Hid (NIn wr (envF z vs n env0) (.slice (some ⟨wo.heap.size, 0, none⟩) 5 5)) := by
                have := eb_nin HE.out
                rw [List.take_length] at this
                exact this
              have Hr : Hid (∀ x ∈ envF z vs n env0, 0 ≤ x ∧ x < z) := by
                have := Henv.out vs.length
                rw [List.take_length] at this
                exact this
              have Hc := hide (Hsome.out (envF z vs n env0) (by rw [envF_len]; rfl) Hr.out (.slice (some ⟨wo.heap.size, 0, none⟩) 5 5) wr hBz Hq.out)
              obtain ⟨V, hV⟩ : ∃ V, someH z tb (envOf (envF z vs n env0)) k = V := ⟨_, rfl⟩
              rw [hV] at Hc
              have HV := hide hV
              replace m0 := grow_cell hBy _ _ m0
              replace m1 := grow_cell hBy _ _ m1
              clear hE hV hvad
              go_wp2_with fail
              refine Hc.out.mono ?_
              rintro e w5 ⟨rfl, hb5⟩
              have Hend := hide (below_step (below_step hBx hBy) hb5)
              clear hb5
              cases V
              · have Hfin : Hid (holdsB z tb k = false) := by
                  rw [Hid, Hho.out, List.all_eq_false]
                  exact ⟨n, List.mem_range.2 (by omega), by rw [HV.out]; simp⟩
                go_wp2_with fail
                go_ret
                exact ⟨by rw [Hfin.out]; rfl, below_step hB2 Hend.out⟩
              · have Hnx : Hid (∀ q, q < n + 1 → someH z tb (envOf (envF z vs (q : Nat) env0)) k = true) := fun q hq => by
                  by_cases e : q = n
                  · rw [e]; exact HV.out
                  · exact Hok.out q (by omega)
                go_wp2_with fail
                go_roundw
                case rel => exact ⟨n + 1, by omega, by go_num, Hnx.out, Hend.out⟩
                case measure => simp [intOf]; omega
        · have Hfin : Hid (holdsB z tb k = true) := by
            rw [Hid, Hho.out, List.all_eq_true]
            intro q hq
            exact Hok.out q (by have := List.mem_range.1 hq; omega)
          go_wp2_with fail
          go_ret
          exact ⟨by rw [Hfin.out]; rfl, hBr⟩
end Go.Proofs.YtlgnpiphaeoeiadDoor

namespace Go.Proofs.YtlgnpiphaeoeiadDoor
open Go.RowKit Go.Deep Go.ChangeShapes Go.WideShapes
attribute [local go_sem ↓] Go.wp_at_zero Go.wp_at_succ
theorem holdsD_right {s : List Int} {z : Int} {tb : List (List Int)} (hm : MR s z tb) (hs : s.all okNum = true) {k : Cl} (hr : wrongC s k = 0) (mv a : Value) (w : World) (hT : TbIn w tb mv) (hS : CIn w k a) :
    Calls Tryd.prog 16 #[.agg #[.int .i64 z, mv], a] w fun e w' => e = .returned (.bool (holdsB z tb k)) ∧ Below w.heap.size w w' :=
  holdsR_any hm hs k mv a w hT hS (sigC_right hr) (sigC_vars (sigC_right hr)).2 (sigC_vars (sigC_right hr)).1
theorem holdsD_iff {s : List Int} {z : Int} {tb : List (List Int)} (hm : MR s z tb) {k : Cl} (hr : wrongC s k = 0) : holdsB z tb k = true ↔ holdsP z tb k := holds_iff hm.z1 (sigC_vars (sigC_right hr)).1
end Go.Proofs.YtlgnpiphaeoeiadDoor

namespace Go.Proofs.YtlgnpiphaeoeiadDoor
open Go.RowKit Go.Deep Go.ChangeShapes Go.WideShapes
attribute [local go_sem ↓] Go.wp_at_zero Go.wp_at_succ
set_option maxRecDepth 100000 in
set_option maxHeartbeats 2000000 in
theorem modelsB_any {s : List Int} {z : Int} {tb : List (List Int)} (hm : MR s z tb) (hs : s.all okNum = true) (cs : List Cl) (hr : ∀ c ∈ cs, wrongC s c = 0) (mv v : Value) (w : World) (hT : TbIn w tb mv) (hS : CsIn w cs v) :
    Calls Tryd.prog 14 #[.agg #[.int .i64 z, mv], v] w fun e w' => e = .returned (.bool (cs.all (holdsB z tb))) ∧ Below w.heap.size w w' := by
  have HT := hide hT
  have Hm := hide hm
  have Hs := hide hs
  have Hr := hide hr
  obtain ⟨ta, tc, rfl⟩ := tb_slice hT
  obtain ⟨a1, c1, gb, go, rfl, had, hlc, hcm, hEl⟩ := hS
  unfold maxLen at hcm
  have HEl := hide hEl
  clear hT hm hs hr hEl
  go_enter Tryd.func14, Tryd.ntmps14
  go_upto_region 1 with fail
  generalize hW0 : w.alloc (.cells #[.int .i64 z, .slice ta tb.length tc] 29) = W0
  have hB0 : Below w.heap.size w W0 := by rw [← hW0]; exact below_alloc _ _
  have m0 : W0.cell? ⟨w.heap.size, 0, none⟩ = some (.int .i64 z) := by rw [← hW0]; exact new_cell rfl
  have m1 : W0.cell? ⟨w.heap.size, 1, none⟩ = some (.slice ta tb.length tc) := by rw [← hW0]; exact new_cell rfl
  clear hW0
  go_wp2_with fail
  go_loopw [9] (fun i wr => ∃ j : Nat, j ≤ cs.length ∧ i = .int .i64 j ∧ Below W0.heap.size W0 wr ∧ ∀ (n : Nat) (x : Cl), n < j → cs[n]? = some x → holdsB z tb x = true) (fun i _ => cs.length - (intOf i).toNat)
  case atStart => exact ⟨0, Nat.zero_le _, rfl, Below.refl _ _, fun n x hn => absurd hn (by omega)⟩
  case round =>
    obtain ⟨j, hj, rfl, hBr, hall⟩ := hrel
    have Hall := hide hall
    have hB1 := below_step hB0 hBr
    clear hall
    by_cases hlt : j < cs.length
    · have hlt' : (j : Int) < (cs.length : Int) := by omega
      obtain ⟨x, hx⟩ : ∃ x, cs[j]? = some x := ⟨cs[j]'hlt, by simp⟩
      obtain ⟨xv, p0, hX⟩ := HEl.out j x hx
      replace p0 := grow_cell hB1 _ _ p0
      have q0 := grow_cell hBr _ _ m0
      have q1 := grow_cell hBr _ _ m1
      have HX := hide (hX.below hB1)
      obtain ⟨x1, x3, rfl⟩ := slice_of_cl hX
      have ha1 : a1 = some ⟨gb, go, none⟩ := had (by omega)
      subst ha1
      have Hx := Hr.out x (List.mem_of_getElem? hx)
      have Hh := hide (holdsD_right Hm.out Hs.out Hx _ _ wr (HT.out.below hB1) HX.out)
      obtain ⟨b, hb⟩ : ∃ b, holdsB z tb x = b := ⟨_, rfl⟩
      rw [hb] at Hh
      have Hb := hide hb
      have Hxx := hide hx
      clear hx had hX Hx hb
      go_wp2_with fail
      refine Hh.out.mono ?_
      rintro e w5 ⟨rfl, hb5⟩
      replace hBr := below_step hBr hb5
      clear hb5 Hh
      cases b
      case true =>
        go_wp2_with fail
        go_roundw
        case rel =>
          refine ⟨j + 1, by omega, by go_num, hBr, fun n y hn hy => ?_⟩
          by_cases h : n < j
          · exact Hall.out n y h hy
          · have : n = j := by omega
            subst this
            rw [Hxx.out] at hy
            cases hy
            exact Hb.out
        case measure => simp [intOf]; omega
      case false =>
        have hf : cs.all (holdsB z tb) = false := by
          rw [Bool.eq_false_iff]
          intro h
          have := List.all_eq_true.1 h x (List.mem_of_getElem? Hxx.out)
          rw [Hb.out] at this
          cases this
        have Hf := hide hf
        clear hf
        go_wp2_with fail
        go_ret
        exact ⟨by rw [Hf.out]; rfl, below_step hB0 hBr⟩
    · have hf : cs.all (holdsB z tb) = true := List.all_eq_true.2 fun x hx => by
        obtain ⟨n, hn, e⟩ := List.mem_iff_getElem.1 hx
        exact Hall.out n x (by omega) (by rw [List.getElem?_eq_getElem hn, e])
      have Hf := hide hf
      clear had hf
      go_wp2_with fail
      go_ret
      exact ⟨by rw [Hf.out]; rfl, hB1⟩
structure RS7 (W : World) (bl2 bx : Nat) (X L : Value) (n1 n2 : Int) (D : Nat → Bool) (w : World) (s44 s45 s46 s47 s48 s49 s50 s51 s52 s53 s54 s55 s56 s57 s58 s59 s60 s61 s62 s63 : Value) : Prop where
  hb : Below W.heap.size W w
  h0 : D 0 = true → s44 = X
  h1 : D 1 = true → s45 = .pointer (some ⟨bl2, 1, none⟩)
  h2 : D 2 = true → s46 = L
  h3 : D 3 = true → s47 = .bool true
  h4 : D 4 = true → s48 = .bool false
  h5 : D 5 = true → s49 = .bool false
  h6 : True
  h7 : True
  h8 : True
  h9 : True
  h10 : True
  h11 : D 11 = true → s55 = .bool false
  h12 : D 12 = true → s56 = .bool false
  h13 : D 13 = true → s57 = X
  h14 : D 14 = true → s58 = .int .i64 n1
  h15 : D 15 = true → s59 = .pointer (some ⟨bl2, 1, none⟩)
  h16 : D 16 = true → s60 = L
  h17 : D 17 = true → s61 = .int .i64 n2
  h18 : D 18 = true → s62 = .bool false
  h19 : D 19 = true → s63 = .bool false
section
variable {W : World} {bl2 bx : Nat} {X L : Value} {n1 n2 : Int} {D : Nat → Bool} {w w' : World} {s44 s45 s46 s47 s48 s49 s50 s51 s52 s53 s54 s55 s56 s57 s58 s59 s60 s61 s62 s63 : Value}
theorem RS7.step (h : RS7 W bl2 bx X L n1 n2 D w s44 s45 s46 s47 s48 s49 s50 s51 s52 s53 s54 s55 s56 s57 s58 s59 s60 s61 s62 s63) (hb : Below w.heap.size w w') : RS7 W bl2 bx X L n1 n2 D w' s44 s45 s46 s47 s48 s49 s50 s51 s52 s53 s54 s55 s56 s57 s58 s59 s60 s61 s62 s63 :=
  ⟨below_step h.hb hb, h.h0, h.h1, h.h2, h.h3, h.h4, h.h5, h.h6, h.h7, h.h8, h.h9, h.h10, h.h11, h.h12, h.h13, h.h14, h.h15, h.h16, h.h17, h.h18, h.h19⟩
theorem RS7.at0 (h : RS7 W bl2 bx X L n1 n2 D w s44 s45 s46 s47 s48 s49 s50 s51 s52 s53 s54 s55 s56 s57 s58 s59 s60 s61 s62 s63) : RS7 W bl2 bx X L n1 n2 (fun j => j == 0 || D j) w (X) s45 s46 s47 s48 s49 s50 s51 s52 s53 s54 s55 s56 s57 s58 s59 s60 s61 s62 s63 :=
  ⟨h.hb, fun _ => rfl, h.h1, h.h2, h.h3, h.h4, h.h5, h.h6, h.h7, h.h8, h.h9, h.h10, h.h11, h.h12, h.h13, h.h14, h.h15, h.h16, h.h17, h.h18, h.h19⟩
theorem RS7.at1 (h : RS7 W bl2 bx X L n1 n2 D w s44 s45 s46 s47 s48 s49 s50 s51 s52 s53 s54 s55 s56 s57 s58 s59 s60 s61 s62 s63) : RS7 W bl2 bx X L n1 n2 (fun j => j == 1 || D j) w s44 (.pointer (some ⟨bl2, 1, none⟩)) s46 s47 s48 s49 s50 s51 s52 s53 s54 s55 s56 s57 s58 s59 s60 s61 s62 s63 :=
  ⟨h.hb, h.h0, fun _ => rfl, h.h2, h.h3, h.h4, h.h5, h.h6, h.h7, h.h8, h.h9, h.h10, h.h11, h.h12, h.h13, h.h14, h.h15, h.h16, h.h17, h.h18, h.h19⟩
theorem RS7.at2 (h : RS7 W bl2 bx X L n1 n2 D w s44 s45 s46 s47 s48 s49 s50 s51 s52 s53 s54 s55 s56 s57 s58 s59 s60 s61 s62 s63) : RS7 W bl2 bx X L n1 n2 (fun j => j == 2 || D j) w s44 s45 (L) s47 s48 s49 s50 s51 s52 s53 s54 s55 s56 s57 s58 s59 s60 s61 s62 s63 :=
  ⟨h.hb, h.h0, h.h1, fun _ => rfl, h.h3, h.h4, h.h5, h.h6, h.h7, h.h8, h.h9, h.h10, h.h11, h.h12, h.h13, h.h14, h.h15, h.h16, h.h17, h.h18, h.h19⟩
theorem RS7.at3 (h : RS7 W bl2 bx X L n1 n2 D w s44 s45 s46 s47 s48 s49 s50 s51 s52 s53 s54 s55 s56 s57 s58 s59 s60 s61 s62 s63) : RS7 W bl2 bx X L n1 n2 (fun j => j == 3 || D j) w s44 s45 s46 (.bool true) s48 s49 s50 s51 s52 s53 s54 s55 s56 s57 s58 s59 s60 s61 s62 s63 :=
  ⟨h.hb, h.h0, h.h1, h.h2, fun _ => rfl, h.h4, h.h5, h.h6, h.h7, h.h8, h.h9, h.h10, h.h11, h.h12, h.h13, h.h14, h.h15, h.h16, h.h17, h.h18, h.h19⟩
theorem RS7.at4 (h : RS7 W bl2 bx X L n1 n2 D w s44 s45 s46 s47 s48 s49 s50 s51 s52 s53 s54 s55 s56 s57 s58 s59 s60 s61 s62 s63) : RS7 W bl2 bx X L n1 n2 (fun j => j == 4 || D j) w s44 s45 s46 s47 (.bool false) s49 s50 s51 s52 s53 s54 s55 s56 s57 s58 s59 s60 s61 s62 s63 :=
  ⟨h.hb, h.h0, h.h1, h.h2, h.h3, fun _ => rfl, h.h5, h.h6, h.h7, h.h8, h.h9, h.h10, h.h11, h.h12, h.h13, h.h14, h.h15, h.h16, h.h17, h.h18, h.h19⟩
theorem RS7.at5 (h : RS7 W bl2 bx X L n1 n2 D w s44 s45 s46 s47 s48 s49 s50 s51 s52 s53 s54 s55 s56 s57 s58 s59 s60 s61 s62 s63) : RS7 W bl2 bx X L n1 n2 (fun j => j == 5 || D j) w s44 s45 s46 s47 s48 (.bool false) s50 s51 s52 s53 s54 s55 s56 s57 s58 s59 s60 s61 s62 s63 :=
  ⟨h.hb, h.h0, h.h1, h.h2, h.h3, h.h4, fun _ => rfl, h.h6, h.h7, h.h8, h.h9, h.h10, h.h11, h.h12, h.h13, h.h14, h.h15, h.h16, h.h17, h.h18, h.h19⟩
theorem RS7.at6 (h : RS7 W bl2 bx X L n1 n2 D w s44 s45 s46 s47 s48 s49 s50 s51 s52 s53 s54 s55 s56 s57 s58 s59 s60 s61 s62 s63) : RS7 W bl2 bx X L n1 n2 (fun j => j == 6 || D j) w s44 s45 s46 s47 s48 s49 (undef) s51 s52 s53 s54 s55 s56 s57 s58 s59 s60 s61 s62 s63 :=
  ⟨h.hb, h.h0, h.h1, h.h2, h.h3, h.h4, h.h5, trivial, h.h7, h.h8, h.h9, h.h10, h.h11, h.h12, h.h13, h.h14, h.h15, h.h16, h.h17, h.h18, h.h19⟩
theorem RS7.at7 (h : RS7 W bl2 bx X L n1 n2 D w s44 s45 s46 s47 s48 s49 s50 s51 s52 s53 s54 s55 s56 s57 s58 s59 s60 s61 s62 s63) : RS7 W bl2 bx X L n1 n2 (fun j => j == 7 || D j) w s44 s45 s46 s47 s48 s49 s50 (undef) s52 s53 s54 s55 s56 s57 s58 s59 s60 s61 s62 s63 :=
  ⟨h.hb, h.h0, h.h1, h.h2, h.h3, h.h4, h.h5, h.h6, trivial, h.h8, h.h9, h.h10, h.h11, h.h12, h.h13, h.h14, h.h15, h.h16, h.h17, h.h18, h.h19⟩
theorem RS7.at8 (h : RS7 W bl2 bx X L n1 n2 D w s44 s45 s46 s47 s48 s49 s50 s51 s52 s53 s54 s55 s56 s57 s58 s59 s60 s61 s62 s63) : RS7 W bl2 bx X L n1 n2 (fun j => j == 8 || D j) w s44 s45 s46 s47 s48 s49 s50 s51 (undef) s53 s54 s55 s56 s57 s58 s59 s60 s61 s62 s63 :=
  ⟨h.hb, h.h0, h.h1, h.h2, h.h3, h.h4, h.h5, h.h6, h.h7, trivial, h.h9, h.h10, h.h11, h.h12, h.h13, h.h14, h.h15, h.h16, h.h17, h.h18, h.h19⟩
theorem RS7.at9 (h : RS7 W bl2 bx X L n1 n2 D w s44 s45 s46 s47 s48 s49 s50 s51 s52 s53 s54 s55 s56 s57 s58 s59 s60 s61 s62 s63) : RS7 W bl2 bx X L n1 n2 (fun j => j == 9 || D j) w s44 s45 s46 s47 s48 s49 s50 s51 s52 (undef) s54 s55 s56 s57 s58 s59 s60 s61 s62 s63 :=
  ⟨h.hb, h.h0, h.h1, h.h2, h.h3, h.h4, h.h5, h.h6, h.h7, h.h8, trivial, h.h10, h.h11, h.h12, h.h13, h.h14, h.h15, h.h16, h.h17, h.h18, h.h19⟩
theorem RS7.at10 (h : RS7 W bl2 bx X L n1 n2 D w s44 s45 s46 s47 s48 s49 s50 s51 s52 s53 s54 s55 s56 s57 s58 s59 s60 s61 s62 s63) : RS7 W bl2 bx X L n1 n2 (fun j => j == 10 || D j) w s44 s45 s46 s47 s48 s49 s50 s51 s52 s53 (undef) s55 s56 s57 s58 s59 s60 s61 s62 s63 :=
  ⟨h.hb, h.h0, h.h1, h.h2, h.h3, h.h4, h.h5, h.h6, h.h7, h.h8, h.h9, trivial, h.h11, h.h12, h.h13, h.h14, h.h15, h.h16, h.h17, h.h18, h.h19⟩
theorem RS7.at11 (h : RS7 W bl2 bx X L n1 n2 D w s44 s45 s46 s47 s48 s49 s50 s51 s52 s53 s54 s55 s56 s57 s58 s59 s60 s61 s62 s63) : RS7 W bl2 bx X L n1 n2 (fun j => j == 11 || D j) w s44 s45 s46 s47 s48 s49 s50 s51 s52 s53 s54 (.bool false) s56 s57 s58 s59 s60 s61 s62 s63 :=
  ⟨h.hb, h.h0, h.h1, h.h2, h.h3, h.h4, h.h5, h.h6, h.h7, h.h8, h.h9, h.h10, fun _ => rfl, h.h12, h.h13, h.h14, h.h15, h.h16, h.h17, h.h18, h.h19⟩
theorem RS7.at12 (h : RS7 W bl2 bx X L n1 n2 D w s44 s45 s46 s47 s48 s49 s50 s51 s52 s53 s54 s55 s56 s57 s58 s59 s60 s61 s62 s63) : RS7 W bl2 bx X L n1 n2 (fun j => j == 12 || D j) w s44 s45 s46 s47 s48 s49 s50 s51 s52 s53 s54 s55 (.bool false) s57 s58 s59 s60 s61 s62 s63 :=
  ⟨h.hb, h.h0, h.h1, h.h2, h.h3, h.h4, h.h5, h.h6, h.h7, h.h8, h.h9, h.h10, h.h11, fun _ => rfl, h.h13, h.h14, h.h15, h.h16, h.h17, h.h18, h.h19⟩
theorem RS7.at13 (h : RS7 W bl2 bx X L n1 n2 D w s44 s45 s46 s47 s48 s49 s50 s51 s52 s53 s54 s55 s56 s57 s58 s59 s60 s61 s62 s63) : RS7 W bl2 bx X L n1 n2 (fun j => j == 13 || D j) w s44 s45 s46 s47 s48 s49 s50 s51 s52 s53 s54 s55 s56 (X) s58 s59 s60 s61 s62 s63 :=
  ⟨h.hb, h.h0, h.h1, h.h2, h.h3, h.h4, h.h5, h.h6, h.h7, h.h8, h.h9, h.h10, h.h11, h.h12, fun _ => rfl, h.h14, h.h15, h.h16, h.h17, h.h18, h.h19⟩
theorem RS7.at14 (h : RS7 W bl2 bx X L n1 n2 D w s44 s45 s46 s47 s48 s49 s50 s51 s52 s53 s54 s55 s56 s57 s58 s59 s60 s61 s62 s63) : RS7 W bl2 bx X L n1 n2 (fun j => j == 14 || D j) w s44 s45 s46 s47 s48 s49 s50 s51 s52 s53 s54 s55 s56 s57 (.int .i64 n1) s59 s60 s61 s62 s63 :=
  ⟨h.hb, h.h0, h.h1, h.h2, h.h3, h.h4, h.h5, h.h6, h.h7, h.h8, h.h9, h.h10, h.h11, h.h12, h.h13, fun _ => rfl, h.h15, h.h16, h.h17, h.h18, h.h19⟩
theorem RS7.at15 (h : RS7 W bl2 bx X L n1 n2 D w s44 s45 s46 s47 s48 s49 s50 s51 s52 s53 s54 s55 s56 s57 s58 s59 s60 s61 s62 s63) : RS7 W bl2 bx X L n1 n2 (fun j => j == 15 || D j) w s44 s45 s46 s47 s48 s49 s50 s51 s52 s53 s54 s55 s56 s57 s58 (.pointer (some ⟨bl2, 1, none⟩)) s60 s61 s62 s63 :=
  ⟨h.hb, h.h0, h.h1, h.h2, h.h3, h.h4, h.h5, h.h6, h.h7, h.h8, h.h9, h.h10, h.h11, h.h12, h.h13, h.h14, fun _ => rfl, h.h16, h.h17, h.h18, h.h19⟩
theorem RS7.at16 (h : RS7 W bl2 bx X L n1 n2 D w s44 s45 s46 s47 s48 s49 s50 s51 s52 s53 s54 s55 s56 s57 s58 s59 s60 s61 s62 s63) : RS7 W bl2 bx X L n1 n2 (fun j => j == 16 || D j) w s44 s45 s46 s47 s48 s49 s50 s51 s52 s53 s54 s55 s56 s57 s58 s59 (L) s61 s62 s63 :=
  ⟨h.hb, h.h0, h.h1, h.h2, h.h3, h.h4, h.h5, h.h6, h.h7, h.h8, h.h9, h.h10, h.h11, h.h12, h.h13, h.h14, h.h15, fun _ => rfl, h.h17, h.h18, h.h19⟩
theorem RS7.at17 (h : RS7 W bl2 bx X L n1 n2 D w s44 s45 s46 s47 s48 s49 s50 s51 s52 s53 s54 s55 s56 s57 s58 s59 s60 s61 s62 s63) : RS7 W bl2 bx X L n1 n2 (fun j => j == 17 || D j) w s44 s45 s46 s47 s48 s49 s50 s51 s52 s53 s54 s55 s56 s57 s58 s59 s60 (.int .i64 n2) s62 s63 :=
  ⟨h.hb, h.h0, h.h1, h.h2, h.h3, h.h4, h.h5, h.h6, h.h7, h.h8, h.h9, h.h10, h.h11, h.h12, h.h13, h.h14, h.h15, h.h16, fun _ => rfl, h.h18, h.h19⟩
theorem RS7.at18 (h : RS7 W bl2 bx X L n1 n2 D w s44 s45 s46 s47 s48 s49 s50 s51 s52 s53 s54 s55 s56 s57 s58 s59 s60 s61 s62 s63) : RS7 W bl2 bx X L n1 n2 (fun j => j == 18 || D j) w s44 s45 s46 s47 s48 s49 s50 s51 s52 s53 s54 s55 s56 s57 s58 s59 s60 s61 (.bool false) s63 :=
  ⟨h.hb, h.h0, h.h1, h.h2, h.h3, h.h4, h.h5, h.h6, h.h7, h.h8, h.h9, h.h10, h.h11, h.h12, h.h13, h.h14, h.h15, h.h16, h.h17, fun _ => rfl, h.h19⟩
theorem RS7.at19 (h : RS7 W bl2 bx X L n1 n2 D w s44 s45 s46 s47 s48 s49 s50 s51 s52 s53 s54 s55 s56 s57 s58 s59 s60 s61 s62 s63) : RS7 W bl2 bx X L n1 n2 (fun j => j == 19 || D j) w s44 s45 s46 s47 s48 s49 s50 s51 s52 s53 s54 s55 s56 s57 s58 s59 s60 s61 s62 (.bool false) :=
  ⟨h.hb, h.h0, h.h1, h.h2, h.h3, h.h4, h.h5, h.h6, h.h7, h.h8, h.h9, h.h10, h.h11, h.h12, h.h13, h.h14, h.h15, h.h16, h.h17, h.h18, fun _ => rfl⟩
theorem RS7.start (h : Below W.heap.size W w) : RS7 W bl2 bx X L n1 n2 (fun _ => false) w s44 s45 s46 s47 s48 s49 s50 s51 s52 s53 s54 s55 s56 s57 s58 s59 s60 s61 s62 s63 :=
  ⟨h, fun e => (by cases e), fun e => (by cases e), fun e => (by cases e), fun e => (by cases e), fun e => (by cases e), fun e => (by cases e), trivial, trivial, trivial, trivial, trivial, fun e => (by cases e), fun e => (by cases e), fun e => (by cases e), fun e => (by cases e), fun e => (by cases e), fun e => (by cases e), fun e => (by cases e), fun e => (by cases e), fun e => (by cases e)⟩
end
set_option maxRecDepth 100000 in
set_option maxHeartbeats 8000000 in
theorem simpSame_of (s : List Int) (sv : Value) (c : Cl) (cv : Value) (cs : List Cl) (uv : Value) (z : Int) (tb : List (List Int)) (mv : Value) (w : World) (hN : NIn w s sv) (hC : CIn w c cv) (hU : CsIn w cs uv) (hT : TbIn w tb mv)
    (hnc : ∀ l ∈ c, Fo.norm l.2.1.2 = l.2.1.2 ∧ Fo.norm l.2.2.2 = l.2.2.2) (hnu : ∀ x ∈ cs, ∀ l ∈ x, Fo.norm l.2.1.2 = l.2.1.2 ∧ Fo.norm l.2.2.2 = l.2.2.2) (hsz : cs.length * 24 ≤ 140737488351232) :
    Calls Tryd.prog 3 #[sv, cv, uv, .agg #[.int .i64 z, mv]] w fun e w' => e = .returned (.bool true) ∧ Below w.heap.size w w' := by
  have HN := hide hN
  have HC := hide hC
  have HU := hide hU
  have HT := hide hT
  obtain ⟨sa, sc, _, _, rfl, -, -, -, -⟩ := hN
  obtain ⟨c1, c3, rfl⟩ := slice_of_cl hC
  obtain ⟨ta, tc, rfl⟩ := tb_slice hT
  obtain ⟨u1, u2, u3, rfl⟩ : ∃ v1 v2 v3, uv = .slice v1 v2 v3 := by
    obtain ⟨v1, v3, h⟩ := slice_of_cs hU
    exact ⟨_, _, _, h⟩
  obtain ⟨iC, hi, hz0, hz1, hz2⟩ := info_parts Tryd.info25
  have Hnc := hide hnc
  have Hnu := hide hnu
  clear hC hU hT hnc hnu
  have hl1 : 1 + cs.length ≤ maxLen := by unfold maxLen; omega
  have hl2 : (1 + cs.length) * 24 ≤ 140737488355328 := by omega
  go_enter Tryd.func3, Tryd.ntmps3
  go_upto_region 1 with fail
  generalize hW0 : w.alloc (.cells #[.int .i64 z, .slice ta tb.length tc] 29) = wn
  have hB : Below w.heap.size w wn := by rw [← hW0]; exact below_alloc _ _
  have m0 : wn.cell? ⟨w.heap.size, 0, none⟩ = some (.int .i64 z) := by rw [← hW0]; exact new_cell rfl
  have m1 : wn.cell? ⟨w.heap.size, 1, none⟩ = some (.slice ta tb.length tc) := by rw [← hW0]; exact new_cell rfl
  generalize w.heap.size = bl at m0 m1 ⊢
  clear hW0
  go_wp2_with fail
  refine (alive7_any _).mono ?_
  rintro e w1 ⟨rfl, hb⟩
  replace hB := below_step hB hb
  replace m0 := grow_cell hb _ _ m0
  replace m1 := grow_cell hb _ _ m1
  clear hb
  generalize w1 = wn at *
  have HB := hide hB
  have HNn := hide (HN.out.below hB)
  have HCn := hide (HC.out.below hB)
  have HUn := hide (HU.out.below hB)
  have M0 := hide m0
  have M1 := hide m1
  clear hB m0 m1
  obtain ⟨news, hCs, hnl, hnel⟩ := cs_cells HUn.out
  have Hcs := hide hCs
  have Hnel := hide hnel
  clear hCs hnel
  go_wp2_with (at_builtin; refine wpList_append_gen rfl _ _ 26 rfl wn.heap.size 25 iC (.slice none 0 0) 1 24 Tryd.underlying26 hi hz0 hz1 hz2 rfl (by decide) (.slice (some ⟨wn.heap.size, 0, none⟩) 1 1) 1 [.slice c1 c.length c3] rfl row_one _ cs.length news rfl (Hcs.out.below (below_alloc _ _)) hl1 hl2 (below_alloc _ _).size ?_; intro v2 w2 ho2 hg2 hat2)
  have hb2 : Below wn.heap.size wn w2 := grown_row rfl hg2
  have hcs2 : CsIn w2 ([c] ++ cs) v2 := cs_app rfl ho2 hb2 rfl (one_cells HCn.out) Hnel.out
  obtain ⟨y1, y3, hv2⟩ := slice_of_cs hcs2
  have Hr := hide (rightR_any s _ _ _ _ (HNn.out.below hb2) hcs2)
  obtain ⟨B, hB⟩ : ∃ B, rightC s ([c] ++ cs) = B := ⟨_, rfl⟩
  rw [hB] at Hr
  have HBe := hide hB
  have Hb2 := hide hb2
  clear ho2 hg2 hat2 hcs2 hB hb2 hi hz0 hz1 hz2 hv2
  go_wp2_with fail
  refine Hr.out.mono ?_
  rintro e w3 ⟨rfl, hb3⟩
  have hb23 := below_step Hb2.out hb3
  have hB1 := below_step HB.out hb23
  have m0 := grow_cell hb23 _ _ M0.out
  have m1 := grow_cell hb23 _ _ M1.out
  clear Hr hb3 hb23
  cases B
  · go_wp2_with fail
    go_ret
    exact ⟨rfl, hB1⟩
  · have Hrt := hide (rightC_iff.1 HBe.out)
    have Hs : Hid (s.all okNum = true) := (wsig_ok Hrt.out.1).1
    have Hs6 : Hid (s.length ≤ 6) := (wsig_ok Hrt.out.1).2.1
    have Hwc : Hid (wrongC s c = 0) := Hrt.out.2.2 c (by simp)
    have Hgc := hide (gc_rightN6 Hs.out Hnc.out Hwc.out)
    have Hsc := hide (sm_rightN Hs.out Hs6.out Hnc.out Hwc.out)
    have Hl6 : Hid (cs.length ≤ 7) := by have := Hrt.out.2.1; simp at this; rw [Hid]; omega
    have Hua := hide (unitAll_any cs _ w3 (HU.out.below hB1))
    obtain ⟨B2, hB2⟩ : ∃ B, cs.all unitP = B := ⟨_, rfl⟩
    rw [hB2] at Hua
    have HB2 := hide hB2
    clear hB2
    go_wp2_with fail
    refine Hua.out.mono ?_
    rintro e w8 ⟨rfl, hb⟩
    replace hB1 := below_step hB1 hb
    replace m0 := grow_cell hb _ _ m0
    replace m1 := grow_cell hb _ _ m1
    clear hb Hua
    cases B2
    · go_wp2_with fail
      go_ret
      exact ⟨rfl, hB1⟩
    · obtain ⟨us, hus, hpos⟩ := units_of HB2.out
      have HUs : Hid (CsIn w (us.map fun u => [u]) (.slice u1 u2 u3)) := by rw [Hid, ← hus]; exact HU.out
      have Hun : Hid (Uns s us) := uns_right Hs.out Hs6.out (by rw [← hus]; exact Hnu.out) (by rw [← hus]; exact fun x hx => Hrt.out.2.2 x (by simp [hx]))
      have Hu8 : Hid (us.length ≤ 8) := by have h := Hl6.out; rw [hus, List.length_map] at h; rw [Hid]; omega
      have Hpos := hide hpos
      have Hus := hide hus
      clear hus hpos
      have Hwm := hide (wrongMR_any s _ z tb _ _ (HN.out.below hB1) (HT.out.below hB1) Hs.out)
      go_wp2_with fail
      refine Hwm.out.mono ?_
      rintro e w9 ⟨rfl, hb⟩
      replace hB1 := below_step hB1 hb
      replace m0 := grow_cell hb _ _ m0
      replace m1 := grow_cell hb _ _ m1
      clear hb Hwm
      by_cases hm : wrongM s z tb = 0
      case neg =>
        have heb : (wrongM s z tb != 0) = true := by simp [hm]
        generalize wrongM s z tb = er at *
        clear hm
        go_wp2_with fail
        go_ret
        exact ⟨rfl, hB1⟩
      case pos =>
        have Hm := hide (wrongM_ok hm)
        simp only [hm]
        clear hm
        obtain ⟨_, ck, cb', co, hce, had, hlc, hcm, hcF⟩ := HC.out
        simp only [Value.slice.injEq, true_and] at hce
        obtain ⟨rfl, rfl⟩ := hce
        have HcF := hide hcF
        unfold maxLen at hcm
        have HB1 := hide hB1
        have M0 := hide m0
        have M1 := hide m1
        clear hcF hB1 m0 m1
        go_wp2_with fail
        go_loopw [36] (fun i wr => ∃ j : Nat, j ≤ c.length ∧ i = .int .i64 j ∧ Below w9.heap.size w9 wr) (fun i _ => c.length - (intOf i).toNat)
        case atStart => exact ⟨0, Nat.zero_le _, rfl, Below.refl _ _⟩
        case round =>
          obtain ⟨j, hj, rfl, hB9⟩ := hrel
          have HB9 := hide hB9
          have hBr := below_step HB1.out hB9
          have HBr := hide hBr
          clear hB9
          by_cases hlt : j < c.length
          · have hlt' : (j : Int) < (c.length : Int) := by omega
            obtain ⟨x, hx⟩ : ∃ x, c[j]? = some x := ⟨c[j]'hlt, by simp⟩
            have Hsx := hide (Hsc.out x (List.mem_of_getElem? hx)).1
            obtain ⟨p0, p1, p2, ⟨x3, p3, hA⟩, p4, p5, x6, p6, hD⟩ := (HcF.out.below hBr).at hx
            have ha1 := had (by omega)
            subst ha1
            have HA := hide hA
            obtain ⟨ya, yc, _, _, rfl, -, -, -, -⟩ := hA
            obtain ⟨za, zc, _, _, rfl, -, -, -, -⟩ := hD
            clear hx had hBr
            obtain ⟨xn, ⟨⟨xv, xi⟩, xk⟩, ⟨xv', xi'⟩, xk'⟩ := x
            simp only at *
            obtain ⟨⟨⟨tv, ti⟩, tk⟩, ht⟩ : ∃ t, t = downT us ((xv, xi), xk) := ⟨_, rfl⟩
            have hdl := down_less Hs6.out Hun.out Hsx.out
            have hds := (downT_ok Hs6.out Hun.out _ rfl Hsx.out).1.lw.sz
            rw [← ht] at hdl hds
            have hxs := Hsx.out.lw.sz
            simp only [szT] at hdl hds hxs
            go_upto_region 8 with fail
            generalize hwa : wr.alloc (.cells #[.bool xn, .bool xv, .int .i64 xi, .slice ya (Fo.len xk) yc, .bool xv', .int .i64 xi', .slice za (Fo.len xk') zc] 39) = wa
            obtain ⟨g0, g1, g2, g3, g4, g5, g6, -, hba, hsa⟩ := lit_cells (T := 39) (w := wr) (wr := wa) (x0 := .bool xn) (x1 := .bool xv) (x2 := .int .i64 xi) (x3 := .slice ya (Fo.len xk) yc) (x4 := .bool xv') (x5 := .int .i64 xi') (x6 := .slice za (Fo.len xk') zc) (by rw [← hwa]; exact Below.refl _ _)
            have HBa := hide (below_step HB9.out hba)
            have HAa := hide (HA.out.below hba)
            have Hd1 := hide (downPub_call (x := (xv, xi)) (k := xk) Hs6.out Hun.out Hu8.out Hpos.out ht HAa.out Hsx.out (HUs.out.below (below_step HBr.out hba)))
            simp only at Hd1
            clear hwa hba p0 p1 p2 p3 p4 p5 p6 g0 g4 g5 g6 ht
            go_upto_region 9 with fail
            refine Hd1.out.mono ?_
            rintro e wS ⟨z1, z3, rfl, hO1, hbS⟩
            have HO1 := hide hO1
            have HBS := hide (below_step HBa.out hbS)
            have HAS := hide (HAa.out.below hbS)
            replace g1 := grow_cell hbS _ _ g1
            replace g2 := grow_cell hbS _ _ g2
            replace g3 := grow_cell hbS _ _ g3
            clear hO1 hbS Hd1
            go_upto_region 9 with fail
            generalize hwx : wS.alloc (.cells #[.bool tv, .int .i64 ti, .slice z1 (Fo.len tk) z3] 37) = wx
            have hbx : Below wS.heap.size wS wx := by rw [← hwx]; exact below_alloc _ _
            have t0 : wx.cell? ⟨wS.heap.size, 0, none⟩ = some (.bool tv) := by rw [← hwx]; exact new_cell rfl
            have t1 : wx.cell? ⟨wS.heap.size, 1, none⟩ = some (.int .i64 ti) := by rw [← hwx]; exact new_cell rfl
            have t2 : wx.cell? ⟨wS.heap.size, 2, none⟩ = some (.slice z1 (Fo.len tk) z3) := by rw [← hwx]; exact new_cell rfl
            have HBx := hide (below_step HBS.out hbx)
            have HOx := hide (HO1.out.below hbx)
            have HAx := hide (HAS.out.below hbx)
            replace g1 := grow_cell hbx _ _ g1
            replace g2 := grow_cell hbx _ _ g2
            replace g3 := grow_cell hbx _ _ g3
            clear hwx hbx HO1 HAS HAa HA
            generalize wS.heap.size = bx at *
            generalize wr.heap.size = bl2 at *
            have Hsm := hide (fun (w' : World) (hb : Below wx.heap.size wx w') => sameR_any (tv, ti) tk (xv, xi) xk _ _ w' (HOx.out.below hb) (HAx.out.below hb))
            have Hab := hide (fun (w' : World) (hb : Below wx.heap.size wx w') => aboveR_any (xv, xi) xk (tv, ti) tk _ _ w' (HAx.out.below hb) (HOx.out.below hb) (by omega) (by omega))
            have Hz1 := hide (fun (w' : World) (hb : Below wx.heap.size wx w') => sizeR_any (tv, ti) tk _ w' (HOx.out.below hb))
            have Hz2 := hide (fun (w' : World) (hb : Below wx.heap.size wx w') => sizeR_any (xv, xi) xk _ w' (HAx.out.below hb))
            obtain ⟨n1, hn1⟩ : ∃ n, wrap64 (tszR tk : Nat) = n := ⟨_, rfl⟩
            obtain ⟨n2, hn2⟩ : ∃ n, wrap64 (tszR xk : Nat) = n := ⟨_, rfl⟩
            have hle : ¬ n2 < n1 := by
              rw [← hn1, ← hn2, wrap64_small (by omega) (by omega), wrap64_small (by omega) (by omega)]
              omega
            rw [hn1] at Hz1
            rw [hn2] at Hz2
            obtain ⟨b1, hb1⟩ : ∃ b, sameT (tv, ti) tk (xv, xi) xk = b := ⟨_, rfl⟩
            rw [hb1] at Hsm
            simp only at Hsm Hab Hz1 Hz2
            have hcur : Below wx.heap.size wx wx.drew := (Below.refl _ _).drew
            cases b1
            case true =>
              clear hb1 hdl hds hxs hn1 hn2 Hab
              refine region_inv (fun D a w' => ∃ s44 s45 s46 s47 s48 s49 s50 s51 s52 s53 s54 s55 s56 s57 s58 s59 s60 s61 s62 s63 : Value, a = ⟨#[.slice sa s.length sc, .slice (some ⟨cb', co, none⟩) c.length c3, .slice u1 u2 u3, .agg #[.int .i64 z, .slice ta tb.length tc], undef, undef, undef, .pointer (some ⟨bl, 0, none⟩), u8, undef, .pointer (some ⟨bl2, 0, none⟩), .pointer (some ⟨bx, 0, none⟩), undef, undef, .bool true, .bool false, .slice sa s.length sc, .slice (some ⟨cb', co, none⟩) c.length c3, .slice (some ⟨wn.heap.size, 0, none⟩) 1 1, .slice u1 u2 u3, v2, .bool true, .bool false, .bool false, .slice u1 u2 u3, .bool true, .bool false, .bool false, .bool false, .slice sa s.length sc, .agg #[.int .i64 z, .slice ta tb.length tc], .int .i64 0, .bool false, .bool false, .slice (some ⟨cb', co, none⟩) c.length c3, .int .i64 c.length, .int .i64 j, .bool true, .pointer (some ⟨cb', co + j * 7, none⟩), .agg #[.bool xn, .bool xv, .int .i64 xi, .slice ya (Fo.len xk) yc, .bool xv', .int .i64 xi', .slice za (Fo.len xk') zc], .pointer (some ⟨bl2, 1, none⟩), .agg #[.bool xv, .int .i64 xi, .slice ya (Fo.len xk) yc], .slice u1 u2 u3, .agg #[.bool tv, .int .i64 ti, .slice z1 (Fo.len tk) z3], s44, s45, s46, s47, s48, s49, s50, s51, s52, s53, s54, s55, s56, s57, s58, s59, s60, s61, s62, s63, u64, undef, undef, undef, undef, undef, undef, undef, undef, undef, undef, undef, undef, undef, undef, undef, undef, undef, undef, undef, undef, undef, undef, undef, undef, undef], []⟩ ∧ RS7 wx bl2 bx (.agg #[.bool tv, .int .i64 ti, .slice z1 (Fo.len tk) z3]) (.agg #[.bool xv, .int .i64 xi, .slice ya (Fo.len xk) yc]) n1 n2 D w' s44 s45 s46 s47 s48 s49 s50 s51 s52 s53 s54 s55 s56 s57 s58 s59 s60 s61 s62 s63) (by kernel_rfl) (by kernel_rfl) ?_ ?_ ⟨_, _, _, _, _, _, _, _, _, _, _, _, _, _, _, _, _, _, _, _, rfl, RS7.start (Below.refl _ _).drew⟩
              · rintro D a w' i o hi ⟨s44, s45, s46, s47, s48, s49, s50, s51, s52, s53, s54, s55, s56, s57, s58, s59, s60, s61, s62, s63, rfl, hI⟩ hD ho hdep
                have HI := hide hI
                replace g1 := grow_cell hI.hb _ _ g1
                replace g2 := grow_cell hI.hb _ _ g2
                replace g3 := grow_cell hI.hb _ _ g3
                replace t0 := grow_cell hI.hb _ _ t0
                replace t1 := grow_cell hI.hb _ _ t1
                replace t2 := grow_cell hI.hb _ _ t2
                clear hI
                have hi' : i < 20 := hi
                clear hi
                rcases (by omega : i = 0 ∨ i = 1 ∨ i = 2 ∨ i = 3 ∨ i = 4 ∨ i = 5 ∨ i = 6 ∨ i = 7 ∨ i = 8 ∨ i = 9 ∨ i = 10 ∨ i = 11 ∨ i = 12 ∨ i = 13 ∨ i = 14 ∨ i = 15 ∨ i = 16 ∨ i = 17 ∨ i = 18 ∨ i = 19) with rfl | rfl | rfl | rfl | rfl | rfl | rfl | rfl | rfl | rfl | rfl | rfl | rfl | rfl | rfl | rfl | rfl | rfl | rfl | rfl
                · obtain rfl := Option.some.inj ho
                  clear ho hdep hD
                  refine wpOp_step rfl (fun K hK => ?_)
                  go_simp
                  exact hK _ _ ⟨_, _, _, _, _, _, _, _, _, _, _, _, _, _, _, _, _, _, _, _, rfl, HI.out.at0⟩
                · obtain rfl := Option.some.inj ho
                  clear ho hdep hD
                  refine wpOp_step rfl (fun K hK => ?_)
                  go_simp
                  exact hK _ _ ⟨_, _, _, _, _, _, _, _, _, _, _, _, _, _, _, _, _, _, _, _, rfl, HI.out.at1⟩
                · obtain rfl := Option.some.inj ho
                  have d1 := HI.out.h1 (hdep ⟨1, .data⟩ (by simp) rfl)
                  subst d1
                  clear ho hdep hD
                  refine wpOp_step rfl (fun K hK => ?_)
                  go_simp
                  exact hK _ _ ⟨_, _, _, _, _, _, _, _, _, _, _, _, _, _, _, _, _, _, _, _, rfl, HI.out.at2⟩
                · obtain rfl := Option.some.inj ho
                  have d0 := HI.out.h0 (hdep ⟨0, .data⟩ (by simp) rfl)
                  subst d0
                  have d2 := HI.out.h2 (hdep ⟨2, .data⟩ (by simp) rfl)
                  subst d2
                  clear ho hdep hD
                  refine wpOp_step rfl (fun K hK => ?_)
                  go_simp
                  refine (Hsm.out _ HI.out.hb).mono ?_
                  rintro e w2 ⟨rfl, hb2⟩
                  exact hK _ _ ⟨_, _, _, _, _, _, _, _, _, _, _, _, _, _, _, _, _, _, _, _, rfl, (HI.out.step hb2).at3⟩
                · obtain rfl := Option.some.inj ho
                  have d3 := HI.out.h3 (hdep ⟨3, .data⟩ (by simp) rfl)
                  subst d3
                  clear ho hdep hD
                  refine wpOp_step rfl (fun K hK => ?_)
                  go_simp
                  exact hK _ _ ⟨_, _, _, _, _, _, _, _, _, _, _, _, _, _, _, _, _, _, _, _, rfl, HI.out.at4⟩
                · obtain rfl := Option.some.inj ho
                  have d4 := HI.out.h4 (hdep ⟨4, .data⟩ (by simp) rfl)
                  subst d4
                  clear ho hdep hD
                  refine wpOp_step rfl (fun K hK => ?_)
                  go_simp
                  exact hK _ _ ⟨_, _, _, _, _, _, _, _, _, _, _, _, _, _, _, _, _, _, _, _, rfl, HI.out.at5⟩
                · obtain rfl := Option.some.inj ho
                  have d5 := HI.out.h5 (hdep ⟨5, .guard⟩ (by simp) rfl)
                  subst d5
                  clear ho hdep hD
                  refine wpOp_step rfl (fun K hK => ?_)
                  go_simp
                  exact hK _ _ ⟨_, _, _, _, _, _, _, _, _, _, _, _, _, _, _, _, _, _, _, _, rfl, HI.out.at6⟩
                · obtain rfl := Option.some.inj ho
                  have d5 := HI.out.h5 (hdep ⟨5, .guard⟩ (by simp) rfl)
                  subst d5
                  clear ho hdep hD
                  refine wpOp_step rfl (fun K hK => ?_)
                  go_simp
                  exact hK _ _ ⟨_, _, _, _, _, _, _, _, _, _, _, _, _, _, _, _, _, _, _, _, rfl, HI.out.at7⟩
                · obtain rfl := Option.some.inj ho
                  have d5 := HI.out.h5 (hdep ⟨5, .guard⟩ (by simp) rfl)
                  subst d5
                  clear ho hdep hD
                  refine wpOp_step rfl (fun K hK => ?_)
                  go_simp
                  exact hK _ _ ⟨_, _, _, _, _, _, _, _, _, _, _, _, _, _, _, _, _, _, _, _, rfl, HI.out.at8⟩
                · obtain rfl := Option.some.inj ho
                  have d5 := HI.out.h5 (hdep ⟨5, .guard⟩ (by simp) rfl)
                  subst d5
                  clear ho hdep hD
                  refine wpOp_step rfl (fun K hK => ?_)
                  go_simp
                  exact hK _ _ ⟨_, _, _, _, _, _, _, _, _, _, _, _, _, _, _, _, _, _, _, _, rfl, HI.out.at9⟩
                · obtain rfl := Option.some.inj ho
                  have d5 := HI.out.h5 (hdep ⟨5, .guard⟩ (by simp) rfl)
                  subst d5
                  clear ho hdep hD
                  refine wpOp_step rfl (fun K hK => ?_)
                  go_simp
                  exact hK _ _ ⟨_, _, _, _, _, _, _, _, _, _, _, _, _, _, _, _, _, _, _, _, rfl, HI.out.at10⟩
                · obtain rfl := Option.some.inj ho
                  have d5 := HI.out.h5 (hdep ⟨5, .data⟩ (by simp) rfl)
                  subst d5
                  clear ho hdep hD
                  refine wpOp_step rfl (fun K hK => ?_)
                  go_simp
                  exact hK _ _ ⟨_, _, _, _, _, _, _, _, _, _, _, _, _, _, _, _, _, _, _, _, rfl, HI.out.at11⟩
                · obtain rfl := Option.some.inj ho
                  have d11 := HI.out.h11 (hdep ⟨11, .data⟩ (by simp) rfl)
                  subst d11
                  clear ho hdep hD
                  refine wpOp_step rfl (fun K hK => ?_)
                  go_simp
                  exact hK _ _ ⟨_, _, _, _, _, _, _, _, _, _, _, _, _, _, _, _, _, _, _, _, rfl, HI.out.at12⟩
                · obtain rfl := Option.some.inj ho
                  have d12 := HI.out.h12 (hdep ⟨12, .guard⟩ (by simp) rfl)
                  subst d12
                  clear ho hdep hD
                  refine wpOp_step rfl (fun K hK => ?_)
                  go_simp
                  exact hK _ _ ⟨_, _, _, _, _, _, _, _, _, _, _, _, _, _, _, _, _, _, _, _, rfl, HI.out.at13⟩
                · obtain rfl := Option.some.inj ho
                  have d13 := HI.out.h13 (hdep ⟨13, .data⟩ (by simp) rfl)
                  subst d13
                  have d12 := HI.out.h12 (hdep ⟨12, .guard⟩ (by simp) rfl)
                  subst d12
                  clear ho hdep hD
                  refine wpOp_step rfl (fun K hK => ?_)
                  go_simp
                  refine (Hz1.out _ HI.out.hb).mono ?_
                  rintro e w2 ⟨rfl, hb2⟩
                  exact hK _ _ ⟨_, _, _, _, _, _, _, _, _, _, _, _, _, _, _, _, _, _, _, _, rfl, (HI.out.step hb2).at14⟩
                · obtain rfl := Option.some.inj ho
                  have d12 := HI.out.h12 (hdep ⟨12, .guard⟩ (by simp) rfl)
                  subst d12
                  clear ho hdep hD
                  refine wpOp_step rfl (fun K hK => ?_)
                  go_simp
                  exact hK _ _ ⟨_, _, _, _, _, _, _, _, _, _, _, _, _, _, _, _, _, _, _, _, rfl, HI.out.at15⟩
                · obtain rfl := Option.some.inj ho
                  have d15 := HI.out.h15 (hdep ⟨15, .data⟩ (by simp) rfl)
                  subst d15
                  have d12 := HI.out.h12 (hdep ⟨12, .guard⟩ (by simp) rfl)
                  subst d12
                  clear ho hdep hD
                  refine wpOp_step rfl (fun K hK => ?_)
                  go_simp
                  exact hK _ _ ⟨_, _, _, _, _, _, _, _, _, _, _, _, _, _, _, _, _, _, _, _, rfl, HI.out.at16⟩
                · obtain rfl := Option.some.inj ho
                  have d16 := HI.out.h16 (hdep ⟨16, .data⟩ (by simp) rfl)
                  subst d16
                  have d12 := HI.out.h12 (hdep ⟨12, .guard⟩ (by simp) rfl)
                  subst d12
                  clear ho hdep hD
                  refine wpOp_step rfl (fun K hK => ?_)
                  go_simp
                  refine (Hz2.out _ HI.out.hb).mono ?_
                  rintro e w2 ⟨rfl, hb2⟩
                  exact hK _ _ ⟨_, _, _, _, _, _, _, _, _, _, _, _, _, _, _, _, _, _, _, _, rfl, (HI.out.step hb2).at17⟩
                · obtain rfl := Option.some.inj ho
                  have d14 := HI.out.h14 (hdep ⟨14, .data⟩ (by simp) rfl)
                  subst d14
                  have d17 := HI.out.h17 (hdep ⟨17, .data⟩ (by simp) rfl)
                  subst d17
                  have d12 := HI.out.h12 (hdep ⟨12, .guard⟩ (by simp) rfl)
                  subst d12
                  clear ho hdep hD
                  refine wpOp_step rfl (fun K hK => ?_)
                  go_simp
                  exact hK _ _ ⟨_, _, _, _, _, _, _, _, _, _, _, _, _, _, _, _, _, _, _, _, rfl, HI.out.at18⟩
                · obtain rfl := Option.some.inj ho
                  have d12 := HI.out.h12 (hdep ⟨12, .data⟩ (by simp) rfl)
                  subst d12
                  have d18 := HI.out.h18 (hdep ⟨18, .data⟩ (by simp) rfl)
                  subst d18
                  clear ho hdep hD
                  refine wpOp_step rfl (fun K hK => ?_)
                  go_simp
                  exact hK _ _ ⟨_, _, _, _, _, _, _, _, _, _, _, _, _, _, _, _, _, _, _, _, rfl, HI.out.at19⟩
              · rintro D a w' ⟨s44, s45, s46, s47, s48, s49, s50, s51, s52, s53, s54, s55, s56, s57, s58, s59, s60, s61, s62, s63, rfl, hI⟩ hall
                have h19 := hI.h19 (hall 19 (by decide))
                subst h19
                have HBe := hide (below_step HBx.out hI.hb)
                clear hI hall
                go_wp2_with fail
                go_roundw
                case rel => exact ⟨j + 1, by omega, by go_num, HBe.out⟩
                case measure => simp [intOf]; omega
            case false =>
              have hab : abvT ((xv, xi), xk) ((tv, ti), tk) = true := by
                rcases hdl.1 with h | h
                · simp only [Prod.mk.injEq] at h
                  obtain ⟨⟨rfl, rfl⟩, rfl⟩ := h
                  rw [sameT_refl] at hb1
                  cases hb1
                · exact h
              rw [hab] at Hab
              clear hb1 hdl hds hxs hn1 hn2 hab
              go_region_held3 (fun w' => w'.cell? ⟨bl2, 1, none⟩ = some (.bool xv) ∧ w'.cell? ⟨bl2, 2, none⟩ = some (.int .i64 xi) ∧ w'.cell? ⟨bl2, 3, none⟩ = some (.slice ya (Fo.len xk) yc) ∧ w'.cell? ⟨bx, 0, none⟩ = some (.bool tv) ∧ w'.cell? ⟨bx, 1, none⟩ = some (.int .i64 ti) ∧ w'.cell? ⟨bx, 2, none⟩ = some (.slice z1 (Fo.len tk) z3))
                (first
                  | (with_reducible exact ⟨grow_cell hcur _ _ g1, grow_cell hcur _ _ g2, grow_cell hcur _ _ g3, grow_cell hcur _ _ t0, grow_cell hcur _ _ t1, grow_cell hcur _ _ t2⟩)
                  | go_keep)
                (first
                  | (go_at_call 11; with_reducible refine (Hsm.out _ hcur).mono ?_; rintro e wV ⟨rfl, hbV⟩; replace hcur := below_step hcur hbV; clear hbV)
                  | (go_at_call 12; with_reducible refine (Hab.out _ hcur).mono ?_; rintro e wV ⟨rfl, hbV⟩; replace hcur := below_step hcur hbV; clear hbV)
                  | (go_at_call 13; first
                      | (with_reducible refine (Hz1.out _ hcur).mono ?_; rintro e wV ⟨rfl, hbV⟩; replace hcur := below_step hcur hbV; clear hbV)
                      | (with_reducible refine (Hz2.out _ hcur).mono ?_; rintro e wV ⟨rfl, hbV⟩; replace hcur := below_step hcur hbV; clear hbV)))
              all_goals
                have HBe := hide (below_step HBx.out hcur)
                clear hcur
                go_wp2_with fail
                go_roundw
                case rel => exact ⟨j + 1, by omega, by go_num, HBe.out⟩
                case measure => simp [intOf]; omega
          · have m0 := grow_cell HB9.out _ _ M0.out
            have m1 := grow_cell HB9.out _ _ M1.out
            have Hmo := hide (modelsB_any Hm.out Hs.out cs (fun x hx => Hrt.out.2.2 x (by simp [hx])) _ _ wr (HT.out.below hBr) (HU.out.below hBr))
            obtain ⟨B3, hB3⟩ : ∃ B, cs.all (holdsB z tb) = B := ⟨_, rfl⟩
            rw [hB3] at Hmo
            have HB3 := hide hB3
            have Hwm := hide (sigC_right Hwc.out)
            clear hB3 had hBr
            go_wp2_with fail
            refine Hmo.out.mono ?_
            rintro e wb ⟨rfl, hb⟩
            have hBb := below_step HBr.out hb
            replace m0 := grow_cell hb _ _ m0
            replace m1 := grow_cell hb _ _ m1
            clear hb Hmo
            cases B3
            · go_wp2_with fail
              go_ret
              exact ⟨rfl, hBb⟩
            · have Hu : Hid (∀ u ∈ us, u.1 = false ∧ holdsP z tb [u]) := fun u hu => by
                have hm : [u] ∈ cs := by rw [Hus.out]; exact List.mem_map.2 ⟨u, hu, rfl⟩
                exact ⟨Hpos.out u hu, (holdsD_iff Hm.out (Hrt.out.2.2 [u] (by simp [hm]))).1 (List.all_eq_true.1 HB3.out _ hm)⟩
              have hsame := rw_same Hs6.out Hun.out Hm.out Hs.out Hu.out Hsc.out Hgc.out.1
              have Hh := hide (fun (wn : World) (hb : Below w.heap.size w wn) => holdsD_right Hm.out Hs.out Hwc.out _ _ wn (HT.out.below hb) (HC.out.below hb))
              have Hrp := hide (rewriteP_any Hs6.out Hun.out Hu8.out Hpos.out c _ _ wb (HC.out.below hBb) (HUs.out.below hBb) Hsc.out Hgc.out.1)
              unfold RwPost at Hrp
              by_cases h0 : (rwC us c).1 = 0
              case neg =>
                have hnone := rw_none Hs6.out Hun.out Hsc.out Hgc.out.1 h0
                have hyes : holdsB z tb c = true := (holdsD_iff Hm.out Hwc.out).2 (hsame.1 (by rw [hnone]))
                rw [hnone] at Hrp
                rw [hyes] at Hh
                clear h0 hnone hsame hyes
                go_wp2_with fail
                refine Hrp.out.mono ?_
                rintro e wc ⟨v9, rfl, hC9, hb9⟩
                obtain ⟨q1, q3, rfl⟩ := slice_of_cl hC9
                replace hBb := below_step hBb hb9
                replace m0 := grow_cell hb9 _ _ m0
                replace m1 := grow_cell hb9 _ _ m1
                clear hC9 hb9 Hrp
                go_wp2_with fail
                refine (Hh.out _ hBb).mono ?_
                rintro e wd ⟨rfl, hb⟩
                replace hBb := below_step hBb hb
                clear hb Hh
                go_wp2_with fail
                go_ret
                exact ⟨rfl, hBb⟩
              case pos =>
                obtain ⟨_, k2, _⟩ := rw_right Hs6.out Hun.out Hsc.out Hgc.out.1 h0
                have hyes : holdsB z tb c = holdsB z tb (rwC us c).2 := by
                  rw [Bool.eq_iff_iff, holdsD_iff Hm.out Hwc.out, holdsD_iff Hm.out k2]
                  exact hsame.2 h0
                have K2 := hide k2
                rw [hyes] at Hh
                rw [h0] at Hrp
                generalize (rwC us c).2 = y at *
                obtain ⟨b, hb⟩ : ∃ b, holdsB z tb y = b := ⟨_, rfl⟩
                rw [hb] at Hh
                have Hb := hide hb
                have Hh2 := hide (fun (wn : World) (v : Value) (hT : TbIn wn tb (.slice ta tb.length tc)) (hy : CIn wn y v) => holdsD_right Hm.out Hs.out K2.out _ v wn hT hy)
                rw [hb] at Hh2
                clear h0 hsame hyes k2 hb
                go_wp2_with fail
                refine Hrp.out.mono ?_
                rintro e wc ⟨v9, rfl, hC9, hb9⟩
                have HC9 := hide hC9
                obtain ⟨q1, q3, rfl⟩ := slice_of_cl hC9
                replace hBb := below_step hBb hb9
                replace m0 := grow_cell hb9 _ _ m0
                replace m1 := grow_cell hb9 _ _ m1
                clear hC9 hb9 Hrp
                have Hh1c := hide (fun (wn : World) (hb : Below wc.heap.size wc wn) => Hh.out wn (below_step hBb hb))
                have Hh2c := hide (fun (wn : World) (hb : Below wc.heap.size wc wn) => Hh2.out wn _ (HT.out.below (below_step hBb hb)) (HC9.out.below hb))
                have HBc := hide hBb
                clear Hh Hh2 hBb
                have hcur : Below wc.heap.size wc wc.drew := (Below.refl _ _).drew
                go_upto_region 19 with fail
                cases b
                all_goals
                  go_region_held3 (fun w' => w'.cell? ⟨bl, 0, none⟩ = some (.int .i64 z) ∧ w'.cell? ⟨bl, 1, none⟩ = some (.slice ta tb.length tc))
                    (first
                      | (with_reducible exact ⟨grow_cell hcur _ _ m0, grow_cell hcur _ _ m1⟩)
                      | go_keep)
                    (first
                      | (go_at_call 16; first
                          | (with_reducible refine (Hh1c.out _ hcur).mono ?_; rintro e wV ⟨rfl, hbV⟩; replace hcur := below_step hcur hbV; clear hbV)
                          | (with_reducible refine (Hh2c.out _ hcur).mono ?_; rintro e wV ⟨rfl, hbV⟩; replace hcur := below_step hcur hbV; clear hbV)))
                all_goals
                  have HBe := hide (below_step HBc.out hcur)
                  clear hcur
                  go_wp2_with fail
                  go_ret
                  exact ⟨rfl, HBe.out⟩
end Go.Proofs.YtlgnpiphaeoeiadDoor

namespace Go.Proofs.YtlgnpiphaeoeiadDoor
open Go.ChangeShapes Go.WideShapes Go.ChangeAt Go.WideMaps Go.WideElems Go.RowKit Go.Deep Go.Joins
theorem Tryd.cells39 : Tryd.prog.cellsOf 39 = 7 := by kernel_rfl
section
variable {H : Type} {enc : TypeId × Value → H} {W : World} {sp : Nat → Bool} {held : Bool}
set_option maxRecDepth 100000 in
theorem open_lit {fuel : Nat} {cs : List Value} {x : DataW H × List MemPlace} (h : DataW.trod enc Tryd.prog W 0 sp held fuel 39 cs = some x) :
    ∃ (l : Lt) (a d : Value), cs = litV l a d ∧ SIn W l.2.1.2 a ∧ SIn W l.2.2.2 d := by
  obtain ⟨xs, m, rfl, _, hl, hlen, hf⟩ := DataW.trod_struct Tryd.underlying39 h
  rw [Tryd.cells39] at hl
  match xs, hlen, cs, hl with
  | [y0, y1, y2], _, [c0, c1, c2, c3, c4, c5, c6], _ =>
    have q0 := hf 0 _ rfl
    have q1 := hf 1 _ rfl
    have q2 := hf 2 _ rfl
    simp [Tryd.cells4, Tryd.cells37] at q0 q1 q2
    obtain ⟨n, e0, _⟩ := DataW.trod_bool Tryd.underlying4 q0
    obtain ⟨v, z, a, m', y, _, e1, hy⟩ := open_term q1
    obtain ⟨k, hk⟩ := open_terms _ _ _ hy
    obtain ⟨v', z', a', m'', y', _, e2, hy'⟩ := open_term q2
    obtain ⟨k', hk'⟩ := open_terms _ _ _ hy'
    simp only [List.cons.injEq, and_true] at e0 e1 e2
    obtain ⟨rfl, rfl, rfl⟩ := e1
    obtain ⟨rfl, rfl, rfl⟩ := e2
    subst e0
    exact ⟨(n, ((v, z), k), ((v', z'), k')), c3, c6, rfl, hk, hk'⟩
theorem build_cl {b : Nat} : ∀ (n o : Nat), (∀ i, i < n → ∃ (l : Lt) (a d : Value), W.cell? ⟨b, o + 7 * i, none⟩ = some (.bool l.1) ∧ W.cell? ⟨b, o + 7 * i + 1, none⟩ = some (.bool l.2.1.1.1) ∧ W.cell? ⟨b, o + 7 * i + 2, none⟩ = some (.int .i64 l.2.1.1.2) ∧ W.cell? ⟨b, o + 7 * i + 3, none⟩ = some a ∧ W.cell? ⟨b, o + 7 * i + 4, none⟩ = some (.bool l.2.2.1.1) ∧ W.cell? ⟨b, o + 7 * i + 5, none⟩ = some (.int .i64 l.2.2.1.2) ∧ W.cell? ⟨b, o + 7 * i + 6, none⟩ = some d ∧ SIn W l.2.1.2 a ∧ SIn W l.2.2.2 d) → ∃ s : Cl, s.length = n ∧ LIn W s b o
  | 0, _, _ => ⟨[], rfl, trivial⟩
  | n + 1, o, h => by
    obtain ⟨s, hl, hP⟩ := build_cl n (o + 7) (fun i hi => by
      have := h (i + 1) (by omega)
      rw [show o + 7 * (i + 1) = o + 7 + 7 * i by omega] at this
      exact this)
    obtain ⟨l, a, d, h0, h1, h2, h3, h4, h5, h6, h7, h8⟩ := h 0 (by omega)
    exact ⟨l :: s, by simp [hl], ⟨by simpa using h0, by simpa using h1, by simpa using h2, ⟨a, by simpa using h3, h7⟩, by simpa using h4, by simpa using h5, d, by simpa using h6, h8⟩, hP⟩
set_option maxRecDepth 100000 in
theorem open_cl {r : Reach} {b0 : Nat} {v : Value} {d : DataW H} {p : List MemPlace} (hv : Value.okWide Tryd.prog W r b0 25 v) (h : DataW.Trod enc Tryd.prog W 0 sp held 25 v d p) : ∃ s : Cl, CIn W s v := by
  obtain ⟨a0, len0, cap0, rfl⟩ := okWide_slice Tryd.underlying25 hv
  obtain ⟨fuel, hf⟩ := h
  rcases DataW.trod_slice Tryd.underlying25 hf with ⟨hc, _⟩ | ⟨a, len, cap, elems, rest, n, hfuel, hc, _, _, hlc, hcm, hlen, hel, _, _⟩
  · simp [Value.cells] at hc
    obtain ⟨rfl, rfl, rfl⟩ := hc
    exact ⟨[], CIn.nil W⟩
  · simp [Value.cells] at hc
    obtain ⟨rfl, rfl, rfl⟩ := hc
    rw [Tryd.cells39] at hel
    obtain ⟨b, o, spot⟩ := a
    have hone : ∀ i, i < len0 → ∃ (l : Lt) (a d : Value), W.cell? ((⟨b, o, spot⟩ : Addr).add (i * 7)) = some (.bool l.1) ∧ W.cell? (((⟨b, o, spot⟩ : Addr).add (i * 7)).add 1) = some (.bool l.2.1.1.1) ∧ W.cell? (((⟨b, o, spot⟩ : Addr).add (i * 7)).add 2) = some (.int .i64 l.2.1.1.2) ∧ W.cell? (((⟨b, o, spot⟩ : Addr).add (i * 7)).add 3) = some a ∧ W.cell? (((⟨b, o, spot⟩ : Addr).add (i * 7)).add 4) = some (.bool l.2.2.1.1) ∧ W.cell? (((⟨b, o, spot⟩ : Addr).add (i * 7)).add 5) = some (.int .i64 l.2.2.1.2) ∧ W.cell? (((⟨b, o, spot⟩ : Addr).add (i * 7)).add 6) = some d ∧ SIn W l.2.1.2 a ∧ SIn W l.2.2.2 d := fun i hi => by
      have h1 := hel i hi
      have hi' : i < elems.length := by omega
      rw [List.getElem?_eq_getElem hi'] at h1
      obtain ⟨cs, h2, h3⟩ := Option.bind_eq_some_iff.1 h1
      obtain ⟨_, hl3, hcell⟩ := World.cells?_some h2
      obtain ⟨l, ta, td, rfl, hk, hk'⟩ := open_lit h3
      exact ⟨l, ta, td, by simpa [Addr.add] using hcell 0 (by omega), by simpa using hcell 1 (by omega), by simpa using hcell 2 (by omega), by simpa using hcell 3 (by omega), by simpa using hcell 4 (by omega), by simpa using hcell 5 (by omega), by simpa using hcell 6 (by omega), hk, hk'⟩
    by_cases h0 : len0 = 0
    · subst h0
      exact ⟨[], _, cap0, 0, 0, rfl, fun h => by simp at h, Nat.zero_le _, hcm, trivial⟩
    · have hspot : spot = none := by
        obtain ⟨x, v, _, q0, _⟩ := hone 0 (by omega)
        simpa [Addr.add] using World.cell?_spot q0
      subst hspot
      obtain ⟨s, hs1, hs2⟩ := build_cl (W := W) (b := b) len0 o (fun i hi => by
        obtain ⟨l, a, d, q0, q1, q2, q3, q4, q5, q6, q7, q8⟩ := hone i hi
        refine ⟨l, a, d, ?_, ?_, ?_, ?_, ?_, ?_, ?_, q7, q8⟩
        · rw [add_plain] at q0; rw [Nat.mul_comm 7 i]; exact q0
        · rw [add_plain, add_plain] at q1; rw [Nat.mul_comm 7 i]; exact q1
        · rw [add_plain, add_plain] at q2; rw [Nat.mul_comm 7 i]; exact q2
        · rw [add_plain, add_plain] at q3; rw [Nat.mul_comm 7 i]; exact q3
        · rw [add_plain, add_plain] at q4; rw [Nat.mul_comm 7 i]; exact q4
        · rw [add_plain, add_plain] at q5; rw [Nat.mul_comm 7 i]; exact q5
        · rw [add_plain, add_plain] at q6; rw [Nat.mul_comm 7 i]; exact q6)
      exact ⟨s, _, cap0, b, o, by rw [hs1], fun _ => rfl, by omega, hcm, hs2⟩
end
def normCl (s : Cl) : Cl := s.map fun l => (l.1, (l.2.1.1, Fo.norm l.2.1.2), (l.2.2.1, Fo.norm l.2.2.2))
theorem lin_norm {w : World} : ∀ {s : Cl} {b o : Nat}, LIn w s b o → LIn w (normCl s) b o
  | [], _, _, _ => trivial
  | _ :: _, _, _, ⟨⟨h0, h1, h2, ⟨v, h3, h4⟩, h5, h6, u, h7, h8⟩, h9⟩ => ⟨⟨h0, h1, h2, ⟨v, h3, sin_norm h4⟩, h5, h6, u, h7, sin_norm h8⟩, lin_norm h9⟩
theorem cl_norm {w : World} {s : Cl} {v : Value} (h : CIn w s v) : CIn w (normCl s) v := by
  obtain ⟨a, c, b, o, rfl, h2, h3, h4, h5⟩ := h
  exact ⟨a, c, b, o, by simp [normCl], by simpa [normCl] using h2, by simpa [normCl] using h3, h4, lin_norm h5⟩
theorem normCl_norm {s : Cl} : ∀ l ∈ normCl s, Fo.norm l.2.1.2 = l.2.1.2 ∧ Fo.norm l.2.2.2 = l.2.2.2 := fun p hp => by
  simp only [normCl, List.mem_map] at hp
  obtain ⟨q, _, rfl⟩ := hp
  exact ⟨norm_norm _, norm_norm _⟩
end Go.Proofs.YtlgnpiphaeoeiadDoor

namespace Go.Proofs.YtlgnpiphaeoeiadDoor
open Go.ChangeShapes Go.WideShapes Go.ChangeAt Go.WideMaps Go.WideElems Go.RowKit Go.Deep Go.Joins
theorem Tryd.cells22 : Tryd.prog.cellsOf 22 = 1 := by kernel_rfl
theorem Tryd.cells29 : Tryd.prog.cellsOf 29 = 2 := by kernel_rfl
section
variable {H : Type} {enc : TypeId × Value → H} {W : World} {sp : Nat → Bool} {held : Bool}
theorem build_nums {b : Nat} : ∀ (n o : Nat), (∀ i, i < n → ∃ x : Int, W.cell? ⟨b, o + i, none⟩ = some (.int .i64 x)) → ∃ l : List Int, l.length = n ∧ ∀ i, i < n → W.cell? ⟨b, o + i, none⟩ = some (.int .i64 (l.getD i 0))
  | 0, _, _ => ⟨[], rfl, fun i hi => by omega⟩
  | n + 1, o, h => by
    obtain ⟨l, hl, hc⟩ := build_nums n (o + 1) (fun i hi => by
      have := h (i + 1) (by omega)
      rw [show o + (i + 1) = o + 1 + i by omega] at this
      exact this)
    obtain ⟨x, hx⟩ := h 0 (by omega)
    refine ⟨x :: l, by simp [hl], fun i hi => ?_⟩
    cases i with
    | zero => simpa using hx
    | succ i =>
      have := hc i (by omega)
      rw [show o + 1 + i = o + (i + 1) by omega] at this
      simpa using this
theorem build_rows {b : Nat} : ∀ (n o : Nat), (∀ i, i < n → ∃ (l : List Int) (v : Value), W.cell? ⟨b, o + i, none⟩ = some v ∧ NIn W l v) → ∃ L : List (List Int), L.length = n ∧ ∀ i, i < n → ∃ v, W.cell? ⟨b, o + i, none⟩ = some v ∧ NIn W (L.getD i []) v
  | 0, _, _ => ⟨[], rfl, fun i hi => by omega⟩
  | n + 1, o, h => by
    obtain ⟨L, hl, hc⟩ := build_rows n (o + 1) (fun i hi => by
      have := h (i + 1) (by omega)
      rw [show o + (i + 1) = o + 1 + i by omega] at this
      exact this)
    obtain ⟨l, v, hx, hv⟩ := h 0 (by omega)
    refine ⟨l :: L, by simp [hl], fun i hi => ?_⟩
    cases i with
    | zero => exact ⟨v, by simpa using hx, by simpa using hv⟩
    | succ i =>
      obtain ⟨u, hu, hN⟩ := hc i (by omega)
      rw [show o + 1 + i = o + (i + 1) by omega] at hu
      exact ⟨u, hu, by simpa using hN⟩
set_option maxRecDepth 100000 in
theorem open_row {fuel : Nat} {v : Value} {x : DataW H × List MemPlace} (h : DataW.trod enc Tryd.prog W 0 sp held fuel 22 [v] = some x) : ∃ l : List Int, NIn W l v := by
  rcases DataW.trod_slice Tryd.underlying22 h with ⟨hc, _⟩ | ⟨a, len, cap, elems, rest, n, hfuel, hc, _, _, hlc, hcm, hlen, hel, _, _⟩
  · simp only [List.cons.injEq, and_true] at hc
    subst hc
    exact ⟨[], none, 0, 0, 0, rfl, fun h => by simp at h, Nat.le_refl _, Nat.zero_le _, fun i hi => by simp at hi⟩
  · simp only [List.cons.injEq, and_true] at hc
    subst hc
    rw [Tryd.cells3] at hel
    obtain ⟨b, o, spot⟩ := a
    have hone : ∀ i, i < len → ∃ x : Int, W.cell? ((⟨b, o, spot⟩ : Addr).add (i * 1)) = some (.int .i64 x) := fun i hi => by
      have h1 := hel i hi
      have hi' : i < elems.length := by omega
      rw [List.getElem?_eq_getElem hi'] at h1
      obtain ⟨cs, h2, h3⟩ := Option.bind_eq_some_iff.1 h1
      obtain ⟨_, hl3, hcell⟩ := World.cells?_some h2
      obtain ⟨n, e1, _, _⟩ := DataW.trod_int Tryd.underlying3 h3
      subst e1
      exact ⟨n, by simpa [Addr.add] using hcell 0 (by omega)⟩
    by_cases h0 : len = 0
    · subst h0
      exact ⟨[], _, cap, 0, 0, rfl, fun h => by simp at h, Nat.zero_le _, hcm, fun i hi => by simp at hi⟩
    · have hspot : spot = none := by
        obtain ⟨x, q0⟩ := hone 0 (by omega)
        simpa [Addr.add] using World.cell?_spot q0
      subst hspot
      obtain ⟨l, hl1, hl2⟩ := build_nums (W := W) (b := b) len o (fun i hi => by
        obtain ⟨x, q0⟩ := hone i hi
        rw [add_plain, Nat.mul_one] at q0
        exact ⟨x, q0⟩)
      exact ⟨l, _, cap, b, o, by rw [hl1], fun _ => rfl, by omega, hcm, fun i hi => hl2 i (by omega)⟩
set_option maxRecDepth 100000 in
theorem open_tb {fuel : Nat} {v : Value} {x : DataW H × List MemPlace} (h : DataW.trod enc Tryd.prog W 0 sp held fuel 27 [v] = some x) : ∃ L : List (List Int), TbIn W L v := by
  rcases DataW.trod_slice Tryd.underlying27 h with ⟨hc, _⟩ | ⟨a, len, cap, elems, rest, n, hfuel, hc, _, _, hlc, hcm, hlen, hel, _, _⟩
  · simp only [List.cons.injEq, and_true] at hc
    subst hc
    exact ⟨[], none, 0, 0, 0, rfl, fun h => by simp at h, Nat.le_refl _, Nat.zero_le _, fun i hi => by simp at hi⟩
  · simp only [List.cons.injEq, and_true] at hc
    subst hc
    rw [Tryd.cells22] at hel
    obtain ⟨b, o, spot⟩ := a
    have hone : ∀ i, i < len → ∃ (l : List Int) (u : Value), W.cell? ((⟨b, o, spot⟩ : Addr).add (i * 1)) = some u ∧ NIn W l u := fun i hi => by
      have h1 := hel i hi
      have hi' : i < elems.length := by omega
      rw [List.getElem?_eq_getElem hi'] at h1
      obtain ⟨cs, h2, h3⟩ := Option.bind_eq_some_iff.1 h1
      obtain ⟨_, hl3, hcell⟩ := World.cells?_some h2
      match cs, hl3 with
      | [u], _ =>
        obtain ⟨l, hl⟩ := open_row h3
        exact ⟨l, u, by simpa [Addr.add] using hcell 0 (by omega), hl⟩
    by_cases h0 : len = 0
    · subst h0
      exact ⟨[], _, cap, 0, 0, rfl, fun h => by simp at h, Nat.zero_le _, hcm, fun i hi => by simp at hi⟩
    · have hspot : spot = none := by
        obtain ⟨x, u, q0, _⟩ := hone 0 (by omega)
        simpa [Addr.add] using World.cell?_spot q0
      subst hspot
      obtain ⟨L, hl1, hl2⟩ := build_rows (W := W) (b := b) len o (fun i hi => by
        obtain ⟨x, u, q0, q1⟩ := hone i hi
        rw [add_plain, Nat.mul_one] at q0
        exact ⟨x, u, q0, q1⟩)
      exact ⟨L, _, cap, b, o, by rw [hl1], fun _ => rfl, by omega, hcm, fun i hi => hl2 i (by omega)⟩
set_option maxRecDepth 100000 in
theorem open_mod {r : Reach} {b0 : Nat} {v : Value} {d : DataW H} {p : List MemPlace} (hv : Value.okWide Tryd.prog W r b0 29 v) (h : DataW.Trod enc Tryd.prog W 0 sp held 29 v d p) :
    ∃ (z : Int) (L : List (List Int)) (a : Value), v = .agg #[.int .i64 z, a] ∧ TbIn W L a := by
  obtain ⟨c0, c1, y0, y1, m, rfl, _, _, h0, h1⟩ := open_agg2 Tryd.underlying29 (by kernel_rfl) Tryd.cells29 hv h
  obtain ⟨n, e1, _, _⟩ := DataW.trod_int Tryd.underlying3 h0
  simp only [List.cons.injEq, and_true] at e1
  subst e1
  obtain ⟨L, hL⟩ := open_tb h1
  exact ⟨n, L, c1, rfl, hL⟩
end
end Go.Proofs.YtlgnpiphaeoeiadDoor

namespace Go.Proofs.YtlgnpiphaeoeiadDoor
open Go.ChangeShapes Go.WideShapes Go.ChangeAt Go.WideMaps Go.WideElems Go.RowKit Go.Deep Go.Joins
theorem Tryd.cells25 : Tryd.prog.cellsOf 25 = 1 := by kernel_rfl
section
variable {H : Type} {enc : TypeId × Value → H} {W : World} {sp : Nat → Bool} {held : Bool}
set_option maxRecDepth 100000 in
theorem open_clf {fuel : Nat} {cs : List Value} {x : DataW H × List MemPlace} (hf : DataW.trod enc Tryd.prog W 0 sp held fuel 25 cs = some x) : ∃ (v : Value) (s : Cl), cs = [v] ∧ CIn W s v := by
  rcases DataW.trod_slice Tryd.underlying25 hf with ⟨hc, _⟩ | ⟨a, len, cap, elems, rest, n, hfuel, hc, _, _, hlc, hcm, hlen, hel, _, _⟩
  · exact ⟨.slice none 0 0, [], hc, CIn.nil W⟩
  · subst hc
    rw [Tryd.cells39] at hel
    obtain ⟨b, o, spot⟩ := a
    have hone : ∀ i, i < len → ∃ (l : Lt) (a d : Value), W.cell? ((⟨b, o, spot⟩ : Addr).add (i * 7)) = some (.bool l.1) ∧ W.cell? (((⟨b, o, spot⟩ : Addr).add (i * 7)).add 1) = some (.bool l.2.1.1.1) ∧ W.cell? (((⟨b, o, spot⟩ : Addr).add (i * 7)).add 2) = some (.int .i64 l.2.1.1.2) ∧ W.cell? (((⟨b, o, spot⟩ : Addr).add (i * 7)).add 3) = some a ∧ W.cell? (((⟨b, o, spot⟩ : Addr).add (i * 7)).add 4) = some (.bool l.2.2.1.1) ∧ W.cell? (((⟨b, o, spot⟩ : Addr).add (i * 7)).add 5) = some (.int .i64 l.2.2.1.2) ∧ W.cell? (((⟨b, o, spot⟩ : Addr).add (i * 7)).add 6) = some d ∧ SIn W l.2.1.2 a ∧ SIn W l.2.2.2 d := fun i hi => by
      have h1 := hel i hi
      have hi' : i < elems.length := by omega
      rw [List.getElem?_eq_getElem hi'] at h1
      obtain ⟨cs, h2, h3⟩ := Option.bind_eq_some_iff.1 h1
      obtain ⟨_, hl3, hcell⟩ := World.cells?_some h2
      obtain ⟨l, ta, td, rfl, hk, hk'⟩ := open_lit h3
      exact ⟨l, ta, td, by simpa [Addr.add] using hcell 0 (by omega), by simpa using hcell 1 (by omega), by simpa using hcell 2 (by omega), by simpa using hcell 3 (by omega), by simpa using hcell 4 (by omega), by simpa using hcell 5 (by omega), by simpa using hcell 6 (by omega), hk, hk'⟩
    by_cases h0 : len = 0
    · subst h0
      exact ⟨_, [], rfl, _, cap, 0, 0, rfl, fun h => by simp at h, Nat.zero_le _, hcm, trivial⟩
    · have hspot : spot = none := by
        obtain ⟨x, v, _, q0, _⟩ := hone 0 (by omega)
        simpa [Addr.add] using World.cell?_spot q0
      subst hspot
      obtain ⟨s, hs1, hs2⟩ := build_cl (W := W) (b := b) len o (fun i hi => by
        obtain ⟨l, a, d, q0, q1, q2, q3, q4, q5, q6, q7, q8⟩ := hone i hi
        refine ⟨l, a, d, ?_, ?_, ?_, ?_, ?_, ?_, ?_, q7, q8⟩
        · rw [add_plain] at q0; rw [Nat.mul_comm 7 i]; exact q0
        · rw [add_plain, add_plain] at q1; rw [Nat.mul_comm 7 i]; exact q1
        · rw [add_plain, add_plain] at q2; rw [Nat.mul_comm 7 i]; exact q2
        · rw [add_plain, add_plain] at q3; rw [Nat.mul_comm 7 i]; exact q3
        · rw [add_plain, add_plain] at q4; rw [Nat.mul_comm 7 i]; exact q4
        · rw [add_plain, add_plain] at q5; rw [Nat.mul_comm 7 i]; exact q5
        · rw [add_plain, add_plain] at q6; rw [Nat.mul_comm 7 i]; exact q6)
      exact ⟨_, s, rfl, _, cap, b, o, by rw [hs1], fun _ => rfl, by omega, hcm, hs2⟩
theorem build_cs {b : Nat} : ∀ (n o : Nat), (∀ i, i < n → ∃ (v : Value) (s : Cl), W.cell? ⟨b, o + i, none⟩ = some v ∧ CIn W s v) → ∃ cs : List Cl, cs.length = n ∧ ∀ i c, cs[i]? = some c → ∃ cv, W.cell? ⟨b, o + i, none⟩ = some cv ∧ CIn W c cv
  | 0, _, _ => ⟨[], rfl, fun i c h => by simp at h⟩
  | n + 1, o, h => by
    obtain ⟨cs, hl, hP⟩ := build_cs n (o + 1) (fun i hi => by
      have := h (i + 1) (by omega)
      rw [show o + (i + 1) = o + 1 + i by omega] at this
      exact this)
    obtain ⟨v, s, h0, h1⟩ := h 0 (by omega)
    refine ⟨s :: cs, by simp [hl], fun i c hc => ?_⟩
    match i, hc with
    | 0, hc =>
      simp only [List.getElem?_cons_zero, Option.some.injEq] at hc
      subst hc
      exact ⟨v, h0, h1⟩
    | i + 1, hc =>
      obtain ⟨cv, q1, q2⟩ := hP i c (by simpa using hc)
      exact ⟨cv, by rw [show o + (i + 1) = o + 1 + i by omega]; exact q1, q2⟩
set_option maxRecDepth 100000 in
theorem open_cs {r : Reach} {b0 : Nat} {v : Value} {d : DataW H} {p : List MemPlace} (hv : Value.okWide Tryd.prog W r b0 26 v) (h : DataW.Trod enc Tryd.prog W 0 sp held 26 v d p) : ∃ cs : List Cl, CsIn W cs v ∧ (cs = [] ∨ ∃ elems spare, d = .slice elems spare ∧ elems.length = cs.length) := by
  obtain ⟨a0, len0, cap0, rfl⟩ := okWide_slice Tryd.underlying26 hv
  obtain ⟨fuel, hf⟩ := h
  rcases DataW.trod_slice Tryd.underlying26 hf with ⟨hc, _⟩ | ⟨a, len, cap, elems, rest, n, hfuel, hc, hx, _, hlc, hcm, hlen, hel, _, _⟩
  · simp [Value.cells] at hc
    obtain ⟨rfl, rfl, rfl⟩ := hc
    exact ⟨[], CsIn.nil W, .inl rfl⟩
  · simp [Value.cells] at hc
    obtain ⟨rfl, rfl, rfl⟩ := hc
    rw [Tryd.cells25] at hel
    obtain ⟨b, o, spot⟩ := a
    have hone : ∀ i, i < len0 → ∃ (v : Value) (s : Cl), W.cell? ((⟨b, o, spot⟩ : Addr).add i) = some v ∧ CIn W s v := fun i hi => by
      have h1 := hel i hi
      have hi' : i < elems.length := by omega
      rw [List.getElem?_eq_getElem hi'] at h1
      obtain ⟨cs, h2, h3⟩ := Option.bind_eq_some_iff.1 h1
      obtain ⟨_, hl3, hcell⟩ := World.cells?_some h2
      obtain ⟨v, s, rfl, hs⟩ := open_clf h3
      refine ⟨v, s, ?_, hs⟩
      have := hcell 0 (by omega)
      simpa [Addr.add] using this
    by_cases h0 : len0 = 0
    · subst h0
      exact ⟨[], ⟨_, cap0, 0, 0, rfl, fun h => by simp at h, Nat.zero_le _, hcm, fun i c h => by simp at h⟩, .inl rfl⟩
    · have hspot : spot = none := by
        obtain ⟨v, s, q0, _⟩ := hone 0 (by omega)
        simpa [Addr.add] using World.cell?_spot q0
      subst hspot
      obtain ⟨cs, hs1, hs2⟩ := build_cs (W := W) (b := b) len0 o (fun i hi => by
        obtain ⟨v, s, q0, q1⟩ := hone i hi
        rw [add_plain] at q0
        exact ⟨v, s, q0, q1⟩)
      exact ⟨cs, ⟨_, cap0, b, o, by rw [hs1], fun _ => rfl, by omega, hcm, hs2⟩, .inr ⟨_, _, congrArg Prod.fst hx, by rw [List.length_map, hs1]; exact hlen⟩⟩
end
def normCs (cs : List Cl) : List Cl := cs.map normCl
theorem cs_norm {w : World} {cs : List Cl} {v : Value} (h : CsIn w cs v) : CsIn w (normCs cs) v := by
  obtain ⟨a, k, b, o, rfl, h2, h3, h4, h5⟩ := h
  refine ⟨a, k, b, o, by simp [normCs], by simpa [normCs] using h2, by simpa [normCs] using h3, h4, fun i c hc => ?_⟩
  rw [normCs, List.getElem?_map] at hc
  obtain ⟨c', hc', rfl⟩ := Option.map_eq_some_iff.1 hc
  obtain ⟨cv, q1, q2⟩ := h5 i c' hc'
  exact ⟨cv, q1, cl_norm q2⟩
theorem normCs_norm {cs : List Cl} : ∀ c ∈ normCs cs, ∀ l ∈ c, Fo.norm l.2.1.2 = l.2.1.2 ∧ Fo.norm l.2.2.2 = l.2.2.2 := fun c hc => by
  simp only [normCs, List.mem_map] at hc
  obtain ⟨q, _, rfl⟩ := hc
  exact normCl_norm
end Go.Proofs.YtlgnpiphaeoeiadDoor
