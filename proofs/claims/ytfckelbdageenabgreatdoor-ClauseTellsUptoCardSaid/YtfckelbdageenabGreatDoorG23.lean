/- The document's Some: whether some literal holds. -/
import Derived.Test.YtfckelbdageenabGreatDoorG22
import Derived.Test.YtfckelbdageenabGreatDoorG21
import Derived.Test.YtfckelbdageenabGreatDoorRows
import Derived.WalkKit
import Derived.RegionTactic
namespace Go.Proofs.YtfckelbdageenabGreatDoor
open Go.RowKit Go.Deep Go.ChangeShapes Go.WideShapes
attribute [local go_sem ↓] Go.wp_at_zero Go.wp_at_succ

theorem wf_walk {s : List Int} {x : Bool × Int} {k : Fo} (h : wrongF s x k = 0) : walkT s x k 1 = 0 := by
  unfold wrongF at h
  by_cases e : walkT s x k 1 = 0
  · exact e
  · rw [if_pos e] at h; exact absurd h e
theorem some_take {z : Int} {tb : List (List Int)} {e : Int → Int} {k : Cl} {j : Nat} {l : Lt} (h : k[j]? = some l) : someH z tb e (k.take (j + 1)) = (someH z tb e (k.take j) || litH z tb e l) := by
  unfold someH; rw [List.take_add_one, h]; simp
theorem some_found {z : Int} {tb : List (List Int)} {e : Int → Int} {k : Cl} {j : Nat} {l : Lt} (h : k[j]? = some l) (hl : litH z tb e l = true) : someH z tb e k = true := by
  unfold someH; rw [List.any_eq_true]; exact ⟨l, List.mem_of_getElem? h, hl⟩

set_option maxRecDepth 100000 in
set_option maxHeartbeats 2000000 in
theorem someR_any {s L : List Int} {z : Int} {tb : List (List Int)} (hm : MR s z tb) (hs : s.all okNum = true) (hL : L.length = 5) (hr : ∀ x ∈ L, 0 ≤ x ∧ x < z) (k : Cl) (mv ev a : Value) (w : World) (hT : TbIn w tb mv) (hE : NIn w L ev) (hS : CIn w k a)
    (hw : ∀ l ∈ k, wrongF s l.2.1.1 l.2.1.2 = 0 ∧ wrongF s l.2.2.1 l.2.2.2 = 0) :
    Calls Tryz.prog 61 #[.agg #[.int .i64 z, mv], ev, a] w fun e w' => e = .returned (.bool (someH z tb (envOf L) k)) ∧ Below w.heap.size w w' := by
  have HT := hide hT
  have HE := hide hE
  have Hw := hide hw
  have Hval := hide (fun x k => valueR_any hm hs hL hr x k)
  obtain ⟨ta, tc, rfl⟩ := tb_slice hT
  obtain ⟨ea, ec, _, _, rfl, -, -, -, -⟩ := hE
  obtain ⟨a1, c1, b1, o1, rfl, had1, hlc1, hcm1, hF1⟩ := hS
  unfold maxLen at hcm1
  have HF1 := hide hF1
  clear hm hs hL hr hT hw hF1
  go_enter Tryz.func61, Tryz.ntmps61
  go_upto_region 1 with fail
  generalize hW1 : w.alloc (.cells #[.int .i64 z, .slice ta tb.length tc] 57) = W1
  have hB1 : Below w.heap.size w W1 := by rw [← hW1]; exact below_alloc _ _
  have m0 : W1.cell? ⟨w.heap.size, 0, none⟩ = some (.int .i64 z) := by rw [← hW1]; exact new_cell rfl
  have m1 : W1.cell? ⟨w.heap.size, 1, none⟩ = some (.slice ta tb.length tc) := by rw [← hW1]; exact new_cell rfl
  clear hW1
  go_wp2_with fail
  go_loopw [11] (fun i wr => ∃ j : Nat, j ≤ k.length ∧ i = .int .i64 j ∧ someH z tb (envOf L) (k.take j) = false ∧ Below W1.heap.size W1 wr) (fun i _ => k.length - (intOf i).toNat)
  case atStart => exact ⟨0, Nat.zero_le _, rfl, rfl, Below.refl _ _⟩
  case round =>
    obtain ⟨j, hj, rfl, hno, hBx⟩ := hrel
    have Hno := hide hno
    clear hno
    have hBr := below_step hB1 hBx
    replace m0 := grow_cell hBx _ _ m0
    replace m1 := grow_cell hBx _ _ m1
    by_cases hlt : j < k.length
    · have hlt' : (j : Int) < (k.length : Int) := by omega
      obtain ⟨⟨yn, ⟨⟨yv, yi⟩, yk⟩, ⟨yv', yi'⟩, yk'⟩, hy⟩ : ∃ y, k[j]? = some y := ⟨k[j]'hlt, by simp⟩
      obtain ⟨p0, p1, p2, ⟨u3, p3, hA⟩, p4, p5, u6, p6, hD⟩ := (HF1.out.below hBr).at hy
      have ha1 : a1 = some ⟨b1, o1, none⟩ := had1 (by omega)
      subst ha1
      have HA := hide hA
      have HD := hide hD
      obtain ⟨ya, yc, _, _, rfl, -, -, -, -⟩ := hA
      obtain ⟨za, zc, _, _, rfl, -, -, -, -⟩ := hD
      have hwy := Hw.out _ (List.mem_of_getElem? hy)
      have Hc1 := hide (fun (w' : World) (hb : Below wr.heap.size wr w') => Hval.out (yv, yi) yk (.slice ta tb.length tc) (.slice ea L.length ec) (.slice ya (Fo.len yk) yc) w' 1 (HT.out.below (below_step hBr hb)) (HE.out.below (below_step hBr hb)) (HA.out.below hb) (wf_walk hwy.1))
      have Hc2 := hide (fun (w' : World) (hb : Below wr.heap.size wr w') => Hval.out (yv', yi') yk' (.slice ta tb.length tc) (.slice ea L.length ec) (.slice za (Fo.len yk') zc) w' 1 (HT.out.below (below_step hBr hb)) (HE.out.below (below_step hBr hb)) (HD.out.below hb) (wf_walk hwy.2))
      have Htk := hide (some_take (z := z) (tb := tb) (e := envOf L) hy)
      have Hfd := hide (fun h => some_found (z := z) (tb := tb) (e := envOf L) hy h)
      have Hlt : Hid (litH z tb (envOf L) (yn, ((yv, yi), yk), ((yv', yi'), yk')) = (yn != (valT z tb (envOf L) ((yv, yi), yk) == valT z tb (envOf L) ((yv', yi'), yk')))) := rfl
      simp only at Hc1 Hc2
      generalize valT z tb (envOf L) ((yv, yi), yk) = V1 at Hc1 Hlt
      generalize valT z tb (envOf L) ((yv', yi'), yk') = V2 at Hc2 Hlt
      clear hy had1 hwy
      simp only at *
      go_upto_region 4 with fail
      generalize hwa : wr.alloc (.cells #[.bool yn, .bool yv, .int .i64 yi, .slice ya (Fo.len yk) yc, .bool yv', .int .i64 yi', .slice za (Fo.len yk') zc] 44) = wa
      obtain ⟨g0, g1, g2, g3, g4, g5, g6, -, hba, hsa⟩ := lit_cells (T := 44) (x0 := .bool yn) (w := wr) (wr := wa) (x1 := .bool yv) (x2 := .int .i64 yi) (x3 := .slice ya (Fo.len yk) yc) (x4 := .bool yv') (x5 := .int .i64 yi') (x6 := .slice za (Fo.len yk') zc) (by rw [← hwa]; exact Below.refl _ _)
      replace m0 := grow_cell hba _ _ m0
      replace m1 := grow_cell hba _ _ m1
      have hcur : Below wa.heap.size wa wa.drew := (Below.refl _ _).drew
      obtain ⟨V, hV⟩ : ∃ V, (!(yn == (V1 == V2))) = V := ⟨_, rfl⟩
      have HV := hide hV
      clear hwa hV p0 p1 p2 p3 p4 p5 p6
      go_region_held3 (fun w' => w'.cell? ⟨wr.heap.size, 0, none⟩ = some (.bool yn) ∧ w'.cell? ⟨wr.heap.size, 1, none⟩ = some (.bool yv) ∧ w'.cell? ⟨wr.heap.size, 2, none⟩ = some (.int .i64 yi) ∧ w'.cell? ⟨wr.heap.size, 3, none⟩ = some (.slice ya (Fo.len yk) yc) ∧ w'.cell? ⟨wr.heap.size, 4, none⟩ = some (.bool yv') ∧ w'.cell? ⟨wr.heap.size, 5, none⟩ = some (.int .i64 yi') ∧ w'.cell? ⟨wr.heap.size, 6, none⟩ = some (.slice za (Fo.len yk') zc) ∧ w'.cell? ⟨w.heap.size, 0, none⟩ = some (.int .i64 z) ∧ w'.cell? ⟨w.heap.size, 1, none⟩ = some (.slice ta tb.length tc))
        (first
          | (with_reducible exact ⟨grow_cell hcur _ _ g0, grow_cell hcur _ _ g1, grow_cell hcur _ _ g2, grow_cell hcur _ _ g3, grow_cell hcur _ _ g4, grow_cell hcur _ _ g5, grow_cell hcur _ _ g6, grow_cell hcur _ _ m0, grow_cell hcur _ _ m1⟩)
          | go_keep)
        (first
          | (go_at_call 88; with_reducible refine (Hc1.out _ (below_step hba hcur)).mono ?_; rintro e wS ⟨rfl, hbS⟩; replace hcur := below_step hcur hbS)
          | (go_at_call 88; with_reducible refine (Hc2.out _ (below_step hba hcur)).mono ?_; rintro e wU ⟨rfl, hbU⟩; replace hcur := below_step hcur hbU))
      all_goals
        have Hend := hide (below_step hBx (below_step hba hcur))
        clear hcur hbS hbU
        rw [HV.out]
        cases V
        · go_wp2_with fail
          go_roundw
          case rel => exact ⟨j + 1, by omega, by go_num, by rw [Htk.out, Hno.out, Hlt.out]; exact HV.out, Hend.out⟩
          case measure => simp [intOf]; omega
        · go_wp2_with fail
          go_ret
          exact ⟨by rw [Hfd.out (Hlt.out.trans HV.out)]; rfl, below_step hB1 Hend.out⟩
    · have Hfin : Hid (someH z tb (envOf L) k = false) := by
        have e : j = k.length := by omega
        have := Hno.out
        rw [e, List.take_length] at this
        exact this
      clear had1
      go_wp2_with fail
      go_ret
      exact ⟨by rw [Hfin.out]; rfl, hBr⟩

end Go.Proofs.YtfckelbdageenabGreatDoor

/- The document's Holds: all bindings, counted. -/
namespace Go.Proofs.YtfckelbdageenabGreatDoor
open Go.RowKit Go.Deep Go.ChangeShapes Go.WideShapes
attribute [local go_sem ↓] Go.wp_at_zero Go.wp_at_succ

/-- What is left of a number behind so many places. -/
def kd (z : Int) (n : Int) : Nat → Int
  | 0 => n
  | j + 1 => kd z n j / z
theorem kd_shift (z n : Int) : ∀ j, kd z (n / z) j = kd z n (j + 1)
  | 0 => rfl
  | j + 1 => by rw [kd, kd_shift z n j]; rfl
theorem envF_snoc {z v : Int} : ∀ (vs : List Int) (n : Int) (L : List Int), envF z (vs ++ [v]) n L = (envF z vs n L).set v.toNat (kd z n vs.length % z)
  | [], n, L => rfl
  | x :: vs, n, L => by
    rw [List.cons_append, envF, envF_snoc vs, envF, kd_shift]
    rfl
theorem envF_take {z v : Int} {vs : List Int} {j : Nat} {n : Int} {L : List Int} (h : vs[j]? = some v) : envF z (vs.take (j + 1)) n L = (envF z (vs.take j) n L).set v.toNat (kd z n j % z) := by
  have hj : j < vs.length := (List.getElem?_eq_some_iff.1 h).1
  rw [List.take_add_one, h]
  show envF z (vs.take j ++ [v]) n L = _
  rw [envF_snoc, List.length_take, Nat.min_eq_left (by omega)]
theorem kd_range {z n : Int} (hz : 1 ≤ z) (h0 : 0 ≤ n) : ∀ j, 0 ≤ kd z n j ∧ kd z n j ≤ n
  | 0 => ⟨h0, Int.le_refl _⟩
  | j + 1 => by
    have ih := kd_range hz h0 j
    rw [kd]
    have h1 := Int.ediv_nonneg ih.1 (show (0 : Int) ≤ z by omega)
    have h2 := Int.ediv_le_self z ih.1
    exact ⟨h1, by omega⟩
theorem pw_le {z : Int} (h1 : 1 ≤ z) (h8 : z ≤ 8) : ∀ j, pw z j ≤ pw 8 j
  | 0 => Int.le_refl _
  | j + 1 => by
    have ih := pw_le h1 h8 j
    have h0 := pw_pos h1 j
    rw [pw, pw]
    exact Int.mul_le_mul h8 ih (by omega) (by omega)
theorem pw_five {z : Int} (h1 : 1 ≤ z) (h8 : z ≤ 8) {j : Nat} (hj : j ≤ 5) : pw z j ≤ 32768 := by
  have := pw_le h1 h8 j
  have h2 : pw 8 j ≤ 32768 := by
    rcases (by omega : j = 0 ∨ j = 1 ∨ j = 2 ∨ j = 3 ∨ j = 4 ∨ j = 5) with rfl | rfl | rfl | rfl | rfl | rfl <;> decide
  omega

/-- The bindings L lie in the block that was made behind W. -/
def EB (W : World) (L : List Int) (wx : World) : Prop := Below W.heap.size W wx ∧ W.heap.size < wx.heap.size ∧ L.length = 5 ∧ ∀ i, i < 5 → wx.cell? ⟨W.heap.size, i, none⟩ = some (.int .i64 (L.getD i 0)) ∧ wx.frozen? ⟨W.heap.size, i, none⟩ = false
theorem eb_start (W : World) : EB W env0 (W.alloc (.cells (madeCells #[.int .i64 0] (5 * 1)) 3)) := by
  refine ⟨below_alloc _ _, by simp, rfl, fun i hi => ⟨?_, frozen_new _ _ _ _⟩⟩
  rcases (by omega : i = 0 ∨ i = 1 ∨ i = 2 ∨ i = 3 ∨ i = 4) with rfl | rfl | rfl | rfl | rfl <;> exact (new_cell rfl).trans (by simp [madeCells])
theorem eb_step {W wx : World} {L : List Int} {m : Nat} {x : Int} (h : EB W L wx) (hm : m < 5) : EB W (L.set m x) (wx.setCell ⟨W.heap.size, m, none⟩ (.int .i64 x)) := by
  obtain ⟨h1, h2, h3, h4⟩ := h
  refine ⟨h1.setCell (Nat.le_refl _) _, by simpa [World.setCell] using h2, by simp [h3], fun i hi => ⟨?_, by simpa using (h4 i hi).2⟩⟩
  by_cases e : i = m
  · subst e
    rw [set_same (h4 i hi).1, List.getD_eq_getElem?_getD, List.getElem?_set_self (by omega)]
    rfl
  · rw [set_other (by intro e'; simp only [Addr.mk.injEq] at e'; omega), (h4 i hi).1, List.getD_eq_getElem?_getD, List.getD_eq_getElem?_getD, List.getElem?_set_ne (fun e' => e e'.symm)]
theorem eb_nin {W wx : World} {L : List Int} (h : EB W L wx) : NIn wx L (.slice (some ⟨W.heap.size, 0, none⟩) 5 5) := by
  obtain ⟨h1, h2, h3, h4⟩ := h
  refine ⟨some ⟨W.heap.size, 0, none⟩, 5, W.heap.size, 0, by rw [h3], fun _ => rfl, by omega, by unfold maxLen; omega, fun i hi => ?_⟩
  rw [Nat.zero_add]
  exact (h4 i (by omega)).1

set_option maxRecDepth 100000 in
set_option maxHeartbeats 2000000 in
theorem holdsR_any {s : List Int} {z : Int} {tb : List (List Int)} (hm : MR s z tb) (hs : s.all okNum = true) (k : Cl) (mv a : Value) (w : World) (hT : TbIn w tb mv) (hS : CIn w k a)
    (hw : ∀ l ∈ k, wrongF s l.2.1.1 l.2.1.2 = 0 ∧ wrongF s l.2.2.1 l.2.2.2 = 0) (hsz : szC k ≤ 1000000000000) (hv5 : (varsC k []).length ≤ 5) (hvr : ∀ n ∈ varsC k [], 0 ≤ n ∧ n ≤ 4) :
    Calls Tryz.prog 31 #[.agg #[.int .i64 z, mv], a] w fun e w' => e = .returned (.bool (holdsB z tb k)) ∧ Below w.heap.size w w' := by
  have HT := hide hT
  have HS := hide hS
  have z1 := hm.z1
  have z8 := hm.z8
  have Hsome := hide (fun (L : List Int) (hL : L.length = 5) (hr : ∀ x ∈ L, 0 ≤ x ∧ x < z) (ev : Value) (w' : World) (hb : Below w.heap.size w w') (hE : NIn w' L ev) => someR_any hm hs hL hr k mv ev a w' (hT.below hb) hE (hS.below hb) hw)
  obtain ⟨ta, tc, rfl⟩ := tb_slice hT
  obtain ⟨a1, a3, rfl⟩ := slice_of_cl hS
  have Hvr := hide hvr
  have Hpw : Hid (∀ j, j ≤ (varsC k []).length → 1 ≤ pw z j ∧ pw z j ≤ 32768) := fun j hj => ⟨pw_pos z1 j, pw_five z1 z8 (by omega)⟩
  obtain ⟨iI, hi, hz0, hz1, hz2⟩ := info_parts Tryz.info3
  clear hm hs hT hS hw hvr
  go_enter Tryz.func31, Tryz.ntmps31
  go_upto_region 1 with fail
  generalize hW1 : w.alloc (.cells #[.int .i64 z, .slice ta tb.length tc] 57) = W1
  have hB1 : Below w.heap.size w W1 := by rw [← hW1]; exact below_alloc _ _
  have m0 : W1.cell? ⟨w.heap.size, 0, none⟩ = some (.int .i64 z) := by rw [← hW1]; exact new_cell rfl
  have m1 : W1.cell? ⟨w.heap.size, 1, none⟩ = some (.slice ta tb.length tc) := by rw [← hW1]; exact new_cell rfl
  clear hW1
  go_wp2_with fail
  refine (varsCR_any k _ _ (HS.out.below hB1) hsz).mono ?_
  rintro e w2 ⟨vv, rfl, hN, hb2⟩
  have hB2 := below_step hB1 hb2
  replace m0 := grow_cell hb2 _ _ m0
  replace m1 := grow_cell hb2 _ _ m1
  have HN := hide hN
  obtain ⟨va, vc, vb, vo, rfl, hvad, hvlc, hvcm, hVF⟩ := hN
  unfold maxLen at hvcm
  have HVF := hide hVF
  have Hho : Hid (holdsB z tb k = (List.range (pw z (varsC k []).length).toNat).all fun n => someH z tb (envOf (envF z (varsC k []) n env0)) k) := rfl
  generalize varsC k [] = vs at *
  clear hVF hb2 hB1
  go_wp2_with fail
  go_loopw [6, 16] (fun p i wr => ∃ j : Nat, j ≤ vs.length ∧ i = .int .i64 j ∧ p = .int .i64 (pw z j) ∧ w2 = wr) (fun _ i _ => vs.length - (intOf i).toNat)
  case atStart => exact ⟨0, Nat.zero_le _, rfl, rfl, rfl⟩
  case round =>
    obtain ⟨j, hj, rfl, rfl, rfl⟩ := hrel
    by_cases hlt : j < vs.length
    · have hlt' : (j : Int) < (vs.length : Int) := by omega
      have h1 := Hpw.out j hj
      have h2 := Hpw.out (j + 1) (by omega)
      have Hst : Hid (wrap64 (pw z j * z) = pw z (j + 1)) := by
        unfold Hid wrap64
        rw [show pw z (j + 1) = pw z j * z by rw [pw, Int.mul_comm]]
        rw [show pw z (j + 1) = pw z j * z by rw [pw, Int.mul_comm]] at h2
        omega
      clear h1 h2
      go_wp2_with fail
      go_roundw
      case rel => exact ⟨j + 1, by omega, by go_num, by rw [← Hst.out], trivial⟩
      case measure => simp [intOf]; omega
    · have hje : j = vs.length := by omega
      subst hje
      have hp := Hpw.out vs.length (Nat.le_refl _)
      obtain ⟨all, hall⟩ : ∃ all : Nat, pw z vs.length = all := ⟨(pw z vs.length).toNat, by omega⟩
      rw [hall, Int.toNat_natCast] at Hho
      rw [hall] at hp ⊢
      clear hall Hpw
      go_wp2_with fail
      go_loopw [24] (fun i wr => ∃ n : Nat, n ≤ all ∧ i = .int .i64 n ∧ (∀ q, q < n → someH z tb (envOf (envF z vs (q : Nat) env0)) k = true) ∧ Below w2.heap.size w2 wr) (fun i _ => all - (intOf i).toNat)
      case atStart => exact ⟨0, Nat.zero_le _, rfl, fun q hq => by omega, Below.refl _ _⟩
      case round =>
        obtain ⟨n, hn, rfl, hok, hBx⟩ := hrel
        have Hok := hide hok
        clear hok
        replace m0 := grow_cell hBx _ _ m0
        replace m1 := grow_cell hBx _ _ m1
        have hBr := below_step hB2 hBx
        by_cases hnl : n < all
        · have hnl' : (n : Int) < (all : Int) := by omega
          have hq0 : (0 : Int) ≤ (n : Int) := by omega
          have Hkd := hide (fun j => kd_range z1 hq0 j)
          have Henv := hide (fun m => env_range z1 (vs := vs.take m) (n := (n : Int)) (L := env0) (fun x hx => by simp at hx; omega))
          have hmk := fun w : World => run_make (P := Tryz.prog) w 22 3 iI _ Tryz.underlying22 hi hz0 .i64 .i64 5 5 (by omega) (by omega) (by rw [hz2]; omega) (by omega)
          rw [hz1] at hmk
          go_wp2_with fail
          clear hmk
          generalize wr = wo at *
          go_loopw [9, 31] (fun q i wx => ∃ j : Nat, j ≤ vs.length ∧ i = .int .i64 j ∧ q = .int .i64 (kd z n j) ∧ EB wo (envF z (vs.take j) n env0) wx) (fun _ i _ => vs.length - (intOf i).toNat)
          case atStart => exact ⟨0, Nat.zero_le _, rfl, rfl, eb_start wo⟩
          case round =>
            obtain ⟨j, hj, rfl, rfl, hE⟩ := hrel
            have HE := hide hE
            have hBy := hE.1
            have hBz := below_step hBr hBy
            have hwo : w.heap.size < wo.heap.size := World.block_lt_of_cell? _ _ m0
            by_cases hjl : j < vs.length
            · have hjl' : (j : Int) < (vs.length : Int) := by omega
              have hvj : vs[j]? = some (vs.getD j 0) := by rw [List.getD_eq_getElem?_getD, List.getElem?_eq_getElem hjl]; rfl
              have hc := grow_cell (below_step hBx hBy) _ _ (HVF.out j hjl)
              have hvr := Hvr.out _ (List.mem_of_getElem? hvj)
              generalize vs.getD j 0 = v at hvj hc hvr
              obtain ⟨m, rfl⟩ : ∃ m : Nat, v = m := ⟨v.toNat, by omega⟩
              have Htk := hide (envF_take (z := z) (n := (n : Int)) (L := env0) hvj)
              have hva : va = some ⟨vb, vo, none⟩ := hvad (by omega)
              subst hva
              replace m0 := grow_cell hBy _ _ m0
              obtain ⟨e1, e2⟩ := hE.2.2.2 m (by omega)
              have hm5 : (m : Int) < 5 := by omega
              have hm0 : (0 : Int) ≤ (m : Int) := by omega
              have hk := Hkd.out j
              have Hkn : Hid (kd z n (j + 1) = kd z n j / z) := rfl
              rw [Int.toNat_natCast] at Htk
              generalize kd z n j = q at hk Hkn Htk
              obtain ⟨hk0, hk1⟩ := hk
              have hzz : z ≠ 0 := by omega
              have HS5 : Hid (EB wo (envF z (vs.take (j + 1)) n env0) (wr.setCell ⟨wo.heap.size, m, none⟩ (.int .i64 (q % z)))) := by
                rw [Htk.out]
                exact eb_step HE.out (by omega)
              have m0s : (wr.setCell ⟨wo.heap.size, m, none⟩ (.int .i64 (q % z))).cell? ⟨w.heap.size, 0, none⟩ = some (.int .i64 z) := (set_other (by intro e'; simp only [Addr.mk.injEq] at e'; omega)).trans m0
              clear hvj hvr hvad hE
              go_wp2_with fail
              go_roundw
              case rel => exact ⟨j + 1, by omega, by go_num, by rw [Hkn.out], HS5.out⟩
              case measure => simp [intOf]; omega
            · have hje : j = vs.length := by omega
              subst hje
              have Hq : Hid (NIn wr (envF z vs n env0) (.slice (some ⟨wo.heap.size, 0, none⟩) 5 5)) := by
                have := eb_nin HE.out
                rw [List.take_length] at this
                exact this
              have Hr : Hid (∀ x ∈ envF z vs n env0, 0 ≤ x ∧ x < z) := by
                have := Henv.out vs.length
                rw [List.take_length] at this
                exact this
              have Hc := hide (Hsome.out (envF z vs n env0) (by rw [envF_len]; rfl) Hr.out (.slice (some ⟨wo.heap.size, 0, none⟩) 5 5) wr hBz Hq.out)
              obtain ⟨V, hV⟩ : ∃ V, someH z tb (envOf (envF z vs n env0)) k = V := ⟨_, rfl⟩
              rw [hV] at Hc
              have HV := hide hV
              replace m0 := grow_cell hBy _ _ m0
              replace m1 := grow_cell hBy _ _ m1
              clear hE hV hvad
              go_wp2_with fail
              refine Hc.out.mono ?_
              rintro e w5 ⟨rfl, hb5⟩
              have Hend := hide (below_step (below_step hBx hBy) hb5)
              clear hb5
              cases V
              · have Hfin : Hid (holdsB z tb k = false) := by
                  rw [Hid, Hho.out, List.all_eq_false]
                  exact ⟨n, List.mem_range.2 (by omega), by rw [HV.out]; simp⟩
                go_wp2_with fail
                go_ret
                exact ⟨by rw [Hfin.out]; rfl, below_step hB2 Hend.out⟩
              · have Hnx : Hid (∀ q, q < n + 1 → someH z tb (envOf (envF z vs (q : Nat) env0)) k = true) := fun q hq => by
                  by_cases e : q = n
                  · rw [e]; exact HV.out
                  · exact Hok.out q (by omega)
                go_wp2_with fail
                go_roundw
                case rel => exact ⟨n + 1, by omega, by go_num, Hnx.out, Hend.out⟩
                case measure => simp [intOf]; omega
        · have Hfin : Hid (holdsB z tb k = true) := by
            rw [Hid, Hho.out, List.all_eq_true]
            intro q hq
            exact Hok.out q (by have := List.mem_range.1 hq; omega)
          go_wp2_with fail
          go_ret
          exact ⟨by rw [Hfin.out]; rfl, hBr⟩

end Go.Proofs.YtfckelbdageenabGreatDoor

/- A region that draws its order, by an invariant: what is done so far, and what is known then. -/
namespace Go.Proofs.YtfckelbdageenabGreatDoor
open Go.RowKit

theorem countP_less {α : Type} {f g : α → Bool} {i : α} : ∀ {l : List α}, (∀ x, g x = true → f x = true) → i ∈ l → f i = true → g i = false → l.countP g < l.countP f
  | [], _, h, _, _ => by cases h
  | y :: r, hfg, h, hf, hg => by
    have hle : r.countP g ≤ r.countP f := List.countP_mono_left (fun x _ hx => hfg x hx)
    rw [List.countP_cons, List.countP_cons]
    rcases List.mem_cons.1 h with rfl | h
    · rw [hf, hg]; simp; omega
    · have := countP_less (l := r) hfg h hf hg
      by_cases hy : g y = true
      · rw [hy, hfg y hy]; simp; omega
      · have : g y = false := by simpa using hy
        rw [this]
        simp only [Bool.false_eq_true, if_false]
        split <;> omega
theorem getD_set (l : Array Bool) (i j : Nat) (d : Bool) (hi : i < l.size) : (l.setIfInBounds i true).getD j d = (j == i || l.getD j d) := by
  by_cases e : j = i
  · subst e
    simp [Array.getD_eq_getD_getElem?, hi]
  · have e' : (j == i) = false := by simpa using e
    rw [e']
    simp only [Array.getD_eq_getD_getElem?, Array.getElem?_setIfInBounds, Bool.false_or]
    rw [if_neg (fun h => e h.symm)]
theorem getD_in (l : Array Bool) (j : Nat) (hj : j < l.size) (d d' : Bool) : l.getD j d = l.getD j d' := by
  simp [Array.getD_eq_getD_getElem?, hj]

section
variable {P : Program} {ops : Array Oper} {Q : Exit → Act → World → Prop} {md : Region.Mode}

/-- No edge leads forward. -/
def Region.back (ops : Array Oper) : Bool := (List.range ops.size).all fun i => ((ops[i]?).map (·.after.all fun e => decide (e.on < i))).getD true

theorem all_listed {listed : Array Bool} (hs : listed.size = ops.size) (hb : Region.back ops = true) (hr : Region.ready md ops listed = []) : ∀ i, i < ops.size → listed.getD i false = true := by
  intro i
  induction i using Nat.strongRecOn with
  | _ i ih =>
    intro hi
    by_cases h : listed.getD i false = true
    · exact h
    · exfalso
      have h0 : listed.getD i true = false := by
        rw [getD_in listed i (by omega) true false]
        simpa using h
      have ho : ops[i]? = some ops[i] := by simp [hi]
      have hm : i ∈ Region.ready md ops listed := by
        unfold Region.ready
        rw [List.mem_filter]
        refine ⟨List.mem_range.2 hi, ?_⟩
        rw [h0, ho]
        simp only [Bool.not_false, Bool.true_and, Option.map_some, Option.getD_some]
        rw [Array.all_eq_true']
        intro e he
        have h1 := List.all_eq_true.1 hb i (List.mem_range.2 hi)
        rw [ho] at h1
        simp only [Option.map_some, Option.getD_some] at h1
        rw [Array.all_eq_true'] at h1
        have h2 := of_decide_eq_true (h1 e he)
        rw [ih e.on h2 (by omega)]
        simp
      rw [hr] at hm
      cases hm

theorem wpAny_inv {Inv : (Nat → Bool) → Act → World → Prop} (hb : Region.back ops = true)
    (hstep : ∀ (D : Nat → Bool) (a : Act) (w : World) (i : Nat) (o : Oper), i < ops.size → Inv D a w → D i = false → ops[i]? = some o → (∀ e ∈ o.after, Region.binds md e = true → D e.on = true) → wpOp P ops Q i (Inv fun j => j == i || D j) a w)
    (hdone : ∀ (D : Nat → Bool) (a : Act) (w : World), Inv D a w → (∀ i, i < ops.size → D i = true) → Q .normal a w) :
    ∀ (fuel : Nat) (listed : Array Bool) (a : Act) (w : World), listed.size = ops.size → (List.range ops.size).countP (fun i => !listed.getD i false) ≤ fuel → Inv (fun j => listed.getD j false) a w → wpAny P md ops Q fuel listed a w := by
  intro fuel
  induction fuel with
  | zero =>
    intro listed a w hs hc hI
    have hall : ∀ i, i < ops.size → listed.getD i false = true := fun i hi => by
      have h0 : (List.range ops.size).countP (fun i => !listed.getD i false) = 0 := by omega
      rw [List.countP_eq_zero] at h0
      simpa using h0 i (List.mem_range.2 hi)
    refine ⟨?_, hdone _ a w hI hall⟩
    unfold Region.ready
    rw [List.filter_eq_nil_iff]
    intro i hi
    have hi' := List.mem_range.1 hi
    rw [getD_in listed i (by omega) true false, hall i hi']
    simp
  | succ fuel ih =>
    intro listed a w hs hc hI
    refine ⟨fun hr => hdone _ a w hI (all_listed hs hb hr), fun i hi => ?_⟩
    unfold Region.ready at hi
    rw [List.mem_filter] at hi
    obtain ⟨hi1, hi2⟩ := hi
    have hi' := List.mem_range.1 hi1
    have ho : ops[i]? = some ops[i] := by simp [hi']
    rw [ho] at hi2
    simp only [Option.map_some, Option.getD_some, Bool.and_eq_true, Bool.not_eq_true'] at hi2
    obtain ⟨h1, h2⟩ := hi2
    have h1' : listed.getD i false = false := by rw [getD_in listed i (by omega) false true]; exact h1
    have := hstep _ a w i _ hi' hI h1' ho (fun e he hbd => by
      rw [Array.all_eq_true'] at h2
      have := h2 e he
      rw [hbd] at this
      simpa using this)
    refine wpOp_mono (fun a' w' h => ?_) this
    refine ih _ a' w' (by simp [hs]) ?_ ?_
    · have hlt := countP_less (i := i) (f := fun j => !listed.getD j false) (g := fun j => !(listed.setIfInBounds i true).getD j false) (l := List.range ops.size) (fun x hx => by
        rw [getD_set _ _ _ _ (by omega)] at hx
        simp at hx
        simp [hx.2]) hi1 (by simp [h1']) (by rw [getD_set _ _ _ _ (by omega)]; simp)
      omega
    · have e : (fun j => (listed.setIfInBounds i true).getD j false) = fun j => j == i || listed.getD j false := by
        funext j
        exact getD_set _ _ _ _ (by omega)
      rw [e]
      exact h

/-- A region that draws its order: what is known stays known whatever comes next. -/
theorem region_inv {id : Nat} {a : Act} {w : World} (Inv : (Nat → Bool) → Act → World → Prop) (hm : P.follows .mixedOrders = true) (hb : Region.back ops = true)
    (hstep : ∀ (D : Nat → Bool) (a : Act) (w : World) (i : Nat) (o : Oper), i < ops.size → Inv D a w → D i = false → ops[i]? = some o → (∀ e ∈ o.after, Region.binds .any e = true → D e.on = true) → wpOp P ops Q i (Inv fun j => j == i || D j) a w)
    (hdone : ∀ (D : Nat → Bool) (a : Act) (w : World), Inv D a w → (∀ i, i < ops.size → D i = true) → Q .normal a w)
    (h0 : Inv (fun _ => false) a w.drew) : (Code.region id ops true).wp P Q a w := by
  refine wp_region_any hm ?_
  refine wpAny_inv hb hstep hdone _ _ a _ (by simp) ?_ ?_
  · exact Nat.le_trans List.countP_le_length (by simp)
  · have e : (fun j => (Array.replicate ops.size false).getD j false) = fun _ => false := by
      funext j
      simp only [Array.getD_eq_getD_getElem?, Array.getElem?_replicate]
      split <;> rfl
    rw [e]
    exact h0

end

end Go.Proofs.YtfckelbdageenabGreatDoor

/- The document's WrongModel: what is wrong with a model. -/
namespace Go.Proofs.YtfckelbdageenabGreatDoor
open Go.RowKit Go.Deep Go.ChangeShapes Go.WideShapes
attribute [local go_sem ↓] Go.wp_at_zero Go.wp_at_succ

theorem tri_cell {w : World} {m : Nat} {z : Int} (hm : m < 3) : (w.alloc (.cells #[.int .i64 1, .int .i64 z, .int .i64 (z * z)] 3)).cell? ⟨w.heap.size, m, none⟩ = some (.int .i64 (mlen z m)) := by
  rcases (by omega : m = 0 ∨ m = 1 ∨ m = 2) with rfl | rfl | rfl <;> exact (new_cell rfl).trans (by simp [mlen])
structure R6m (W : World) (B tk tq j m : Nat) (z : Int) (TV PV : Value) (q : Nat) (D : Nat → Bool) (w : World) (s32 s33 s34 s35 s36 s37 s38 s39 s40 s41 s42 s43 s44 s45 s46 s47 s48 s49 : Value) : Prop where
  hb : Below W.heap.size W w
  h0 : D 0 = true → s32 = .pointer (some ⟨B, 1, none⟩)
  h1 : D 1 = true → s33 = TV
  h2 : D 2 = true → s34 = .int .i64 j
  h3 : D 3 = true → s35 = .pointer (some ⟨tk, tq + j, none⟩)
  h4 : D 4 = true → s36 = PV
  h5 : D 5 = true → s37 = .int .i64 q
  h6 : D 6 = true → s38 = .pointer (some ⟨B, 0, none⟩)
  h7 : D 7 = true → s39 = .int .i64 z
  h8 : D 8 = true → s40 = .pointer (some ⟨B, 0, none⟩)
  h9 : D 9 = true → s41 = .int .i64 z
  h10 : D 10 = true → s42 = .pointer (some ⟨B, 0, none⟩)
  h11 : D 11 = true → s43 = .int .i64 z
  h12 : D 12 = true → s44 = .int .i64 (z * z)
  h13 : D 13 = true → ∃ g, s45 = .slice (some ⟨g, 0, none⟩) 3 3 ∧ w.cell? ⟨g, m, none⟩ = some (.int .i64 (mlen z m))
  h14 : D 14 = true → s46 = .int .i64 m
  h15 : D 15 = true → ∃ g, s47 = .pointer (some ⟨g, m, none⟩) ∧ w.cell? ⟨g, m, none⟩ = some (.int .i64 (mlen z m))
  h16 : D 16 = true → s48 = .int .i64 (mlen z m)
  h17 : D 17 = true → s49 = .bool ((q : Int) != mlen z m)
section
variable {W : World} {B tk tq j m : Nat} {z : Int} {TV PV : Value} {q : Nat} {D : Nat → Bool} {w w' : World} {s32 s33 s34 s35 s36 s37 s38 s39 s40 s41 s42 s43 s44 s45 s46 s47 s48 s49 : Value}
theorem R6m.at0 (h : R6m W B tk tq j m z TV PV q D w s32 s33 s34 s35 s36 s37 s38 s39 s40 s41 s42 s43 s44 s45 s46 s47 s48 s49) : R6m W B tk tq j m z TV PV q (fun j => j == 0 || D j) w (.pointer (some ⟨B, 1, none⟩)) s33 s34 s35 s36 s37 s38 s39 s40 s41 s42 s43 s44 s45 s46 s47 s48 s49 :=
  ⟨h.hb, fun _ => rfl, h.h1, h.h2, h.h3, h.h4, h.h5, h.h6, h.h7, h.h8, h.h9, h.h10, h.h11, h.h12, h.h13, h.h14, h.h15, h.h16, h.h17⟩
theorem R6m.at1 (h : R6m W B tk tq j m z TV PV q D w s32 s33 s34 s35 s36 s37 s38 s39 s40 s41 s42 s43 s44 s45 s46 s47 s48 s49) : R6m W B tk tq j m z TV PV q (fun j => j == 1 || D j) w s32 (TV) s34 s35 s36 s37 s38 s39 s40 s41 s42 s43 s44 s45 s46 s47 s48 s49 :=
  ⟨h.hb, h.h0, fun _ => rfl, h.h2, h.h3, h.h4, h.h5, h.h6, h.h7, h.h8, h.h9, h.h10, h.h11, h.h12, h.h13, h.h14, h.h15, h.h16, h.h17⟩
theorem R6m.at2 (h : R6m W B tk tq j m z TV PV q D w s32 s33 s34 s35 s36 s37 s38 s39 s40 s41 s42 s43 s44 s45 s46 s47 s48 s49) : R6m W B tk tq j m z TV PV q (fun j => j == 2 || D j) w s32 s33 (.int .i64 j) s35 s36 s37 s38 s39 s40 s41 s42 s43 s44 s45 s46 s47 s48 s49 :=
  ⟨h.hb, h.h0, h.h1, fun _ => rfl, h.h3, h.h4, h.h5, h.h6, h.h7, h.h8, h.h9, h.h10, h.h11, h.h12, h.h13, h.h14, h.h15, h.h16, h.h17⟩
theorem R6m.at3 (h : R6m W B tk tq j m z TV PV q D w s32 s33 s34 s35 s36 s37 s38 s39 s40 s41 s42 s43 s44 s45 s46 s47 s48 s49) : R6m W B tk tq j m z TV PV q (fun j => j == 3 || D j) w s32 s33 s34 (.pointer (some ⟨tk, tq + j, none⟩)) s36 s37 s38 s39 s40 s41 s42 s43 s44 s45 s46 s47 s48 s49 :=
  ⟨h.hb, h.h0, h.h1, h.h2, fun _ => rfl, h.h4, h.h5, h.h6, h.h7, h.h8, h.h9, h.h10, h.h11, h.h12, h.h13, h.h14, h.h15, h.h16, h.h17⟩
theorem R6m.at4 (h : R6m W B tk tq j m z TV PV q D w s32 s33 s34 s35 s36 s37 s38 s39 s40 s41 s42 s43 s44 s45 s46 s47 s48 s49) : R6m W B tk tq j m z TV PV q (fun j => j == 4 || D j) w s32 s33 s34 s35 (PV) s37 s38 s39 s40 s41 s42 s43 s44 s45 s46 s47 s48 s49 :=
  ⟨h.hb, h.h0, h.h1, h.h2, h.h3, fun _ => rfl, h.h5, h.h6, h.h7, h.h8, h.h9, h.h10, h.h11, h.h12, h.h13, h.h14, h.h15, h.h16, h.h17⟩
theorem R6m.at5 (h : R6m W B tk tq j m z TV PV q D w s32 s33 s34 s35 s36 s37 s38 s39 s40 s41 s42 s43 s44 s45 s46 s47 s48 s49) : R6m W B tk tq j m z TV PV q (fun j => j == 5 || D j) w s32 s33 s34 s35 s36 (.int .i64 q) s38 s39 s40 s41 s42 s43 s44 s45 s46 s47 s48 s49 :=
  ⟨h.hb, h.h0, h.h1, h.h2, h.h3, h.h4, fun _ => rfl, h.h6, h.h7, h.h8, h.h9, h.h10, h.h11, h.h12, h.h13, h.h14, h.h15, h.h16, h.h17⟩
theorem R6m.at6 (h : R6m W B tk tq j m z TV PV q D w s32 s33 s34 s35 s36 s37 s38 s39 s40 s41 s42 s43 s44 s45 s46 s47 s48 s49) : R6m W B tk tq j m z TV PV q (fun j => j == 6 || D j) w s32 s33 s34 s35 s36 s37 (.pointer (some ⟨B, 0, none⟩)) s39 s40 s41 s42 s43 s44 s45 s46 s47 s48 s49 :=
  ⟨h.hb, h.h0, h.h1, h.h2, h.h3, h.h4, h.h5, fun _ => rfl, h.h7, h.h8, h.h9, h.h10, h.h11, h.h12, h.h13, h.h14, h.h15, h.h16, h.h17⟩
theorem R6m.at7 (h : R6m W B tk tq j m z TV PV q D w s32 s33 s34 s35 s36 s37 s38 s39 s40 s41 s42 s43 s44 s45 s46 s47 s48 s49) : R6m W B tk tq j m z TV PV q (fun j => j == 7 || D j) w s32 s33 s34 s35 s36 s37 s38 (.int .i64 z) s40 s41 s42 s43 s44 s45 s46 s47 s48 s49 :=
  ⟨h.hb, h.h0, h.h1, h.h2, h.h3, h.h4, h.h5, h.h6, fun _ => rfl, h.h8, h.h9, h.h10, h.h11, h.h12, h.h13, h.h14, h.h15, h.h16, h.h17⟩
theorem R6m.at8 (h : R6m W B tk tq j m z TV PV q D w s32 s33 s34 s35 s36 s37 s38 s39 s40 s41 s42 s43 s44 s45 s46 s47 s48 s49) : R6m W B tk tq j m z TV PV q (fun j => j == 8 || D j) w s32 s33 s34 s35 s36 s37 s38 s39 (.pointer (some ⟨B, 0, none⟩)) s41 s42 s43 s44 s45 s46 s47 s48 s49 :=
  ⟨h.hb, h.h0, h.h1, h.h2, h.h3, h.h4, h.h5, h.h6, h.h7, fun _ => rfl, h.h9, h.h10, h.h11, h.h12, h.h13, h.h14, h.h15, h.h16, h.h17⟩
theorem R6m.at9 (h : R6m W B tk tq j m z TV PV q D w s32 s33 s34 s35 s36 s37 s38 s39 s40 s41 s42 s43 s44 s45 s46 s47 s48 s49) : R6m W B tk tq j m z TV PV q (fun j => j == 9 || D j) w s32 s33 s34 s35 s36 s37 s38 s39 s40 (.int .i64 z) s42 s43 s44 s45 s46 s47 s48 s49 :=
  ⟨h.hb, h.h0, h.h1, h.h2, h.h3, h.h4, h.h5, h.h6, h.h7, h.h8, fun _ => rfl, h.h10, h.h11, h.h12, h.h13, h.h14, h.h15, h.h16, h.h17⟩
theorem R6m.at10 (h : R6m W B tk tq j m z TV PV q D w s32 s33 s34 s35 s36 s37 s38 s39 s40 s41 s42 s43 s44 s45 s46 s47 s48 s49) : R6m W B tk tq j m z TV PV q (fun j => j == 10 || D j) w s32 s33 s34 s35 s36 s37 s38 s39 s40 s41 (.pointer (some ⟨B, 0, none⟩)) s43 s44 s45 s46 s47 s48 s49 :=
  ⟨h.hb, h.h0, h.h1, h.h2, h.h3, h.h4, h.h5, h.h6, h.h7, h.h8, h.h9, fun _ => rfl, h.h11, h.h12, h.h13, h.h14, h.h15, h.h16, h.h17⟩
theorem R6m.at11 (h : R6m W B tk tq j m z TV PV q D w s32 s33 s34 s35 s36 s37 s38 s39 s40 s41 s42 s43 s44 s45 s46 s47 s48 s49) : R6m W B tk tq j m z TV PV q (fun j => j == 11 || D j) w s32 s33 s34 s35 s36 s37 s38 s39 s40 s41 s42 (.int .i64 z) s44 s45 s46 s47 s48 s49 :=
  ⟨h.hb, h.h0, h.h1, h.h2, h.h3, h.h4, h.h5, h.h6, h.h7, h.h8, h.h9, h.h10, fun _ => rfl, h.h12, h.h13, h.h14, h.h15, h.h16, h.h17⟩
theorem R6m.at12 (h : R6m W B tk tq j m z TV PV q D w s32 s33 s34 s35 s36 s37 s38 s39 s40 s41 s42 s43 s44 s45 s46 s47 s48 s49) : R6m W B tk tq j m z TV PV q (fun j => j == 12 || D j) w s32 s33 s34 s35 s36 s37 s38 s39 s40 s41 s42 s43 (.int .i64 (z * z)) s45 s46 s47 s48 s49 :=
  ⟨h.hb, h.h0, h.h1, h.h2, h.h3, h.h4, h.h5, h.h6, h.h7, h.h8, h.h9, h.h10, h.h11, fun _ => rfl, h.h13, h.h14, h.h15, h.h16, h.h17⟩
theorem R6m.at13 (h : R6m W B tk tq j m z TV PV q D w s32 s33 s34 s35 s36 s37 s38 s39 s40 s41 s42 s43 s44 s45 s46 s47 s48 s49) (hm : m < 3) : R6m W B tk tq j m z TV PV q (fun j => j == 13 || D j) (w.alloc (.cells #[.int .i64 1, .int .i64 z, .int .i64 (z * z)] 3)) s32 s33 s34 s35 s36 s37 s38 s39 s40 s41 s42 s43 s44 (.slice (some ⟨w.heap.size, 0, none⟩) 3 3) s46 s47 s48 s49 := by
  have hb := below_alloc w (.cells #[.int .i64 1, .int .i64 z, .int .i64 (z * z)] 3)
  refine ⟨below_step h.hb hb, h.h0, h.h1, h.h2, h.h3, h.h4, h.h5, h.h6, h.h7, h.h8, h.h9, h.h10, h.h11, h.h12, ?_, h.h14, ?_, h.h16, h.h17⟩
  · exact fun _ => ⟨w.heap.size, rfl, tri_cell hm⟩
  · intro e
    obtain ⟨g, h1, h2⟩ := h.h15 e
    exact ⟨g, h1, grow_cell hb _ _ h2⟩
theorem R6m.at14 (h : R6m W B tk tq j m z TV PV q D w s32 s33 s34 s35 s36 s37 s38 s39 s40 s41 s42 s43 s44 s45 s46 s47 s48 s49) : R6m W B tk tq j m z TV PV q (fun j => j == 14 || D j) w s32 s33 s34 s35 s36 s37 s38 s39 s40 s41 s42 s43 s44 s45 (.int .i64 m) s47 s48 s49 :=
  ⟨h.hb, h.h0, h.h1, h.h2, h.h3, h.h4, h.h5, h.h6, h.h7, h.h8, h.h9, h.h10, h.h11, h.h12, h.h13, fun _ => rfl, h.h15, h.h16, h.h17⟩
theorem R6m.at15 (h : R6m W B tk tq j m z TV PV q D w s32 s33 s34 s35 s36 s37 s38 s39 s40 s41 s42 s43 s44 s45 s46 s47 s48 s49) {g : Nat} (hc : w.cell? ⟨g, m, none⟩ = some (.int .i64 (mlen z m))) : R6m W B tk tq j m z TV PV q (fun j => j == 15 || D j) w s32 s33 s34 s35 s36 s37 s38 s39 s40 s41 s42 s43 s44 s45 s46 (.pointer (some ⟨g, m, none⟩)) s48 s49 :=
  ⟨h.hb, h.h0, h.h1, h.h2, h.h3, h.h4, h.h5, h.h6, h.h7, h.h8, h.h9, h.h10, h.h11, h.h12, h.h13, h.h14, fun _ => ⟨g, rfl, hc⟩, h.h16, h.h17⟩
theorem R6m.at16 (h : R6m W B tk tq j m z TV PV q D w s32 s33 s34 s35 s36 s37 s38 s39 s40 s41 s42 s43 s44 s45 s46 s47 s48 s49) : R6m W B tk tq j m z TV PV q (fun j => j == 16 || D j) w s32 s33 s34 s35 s36 s37 s38 s39 s40 s41 s42 s43 s44 s45 s46 s47 (.int .i64 (mlen z m)) s49 :=
  ⟨h.hb, h.h0, h.h1, h.h2, h.h3, h.h4, h.h5, h.h6, h.h7, h.h8, h.h9, h.h10, h.h11, h.h12, h.h13, h.h14, h.h15, fun _ => rfl, h.h17⟩
theorem R6m.at17 (h : R6m W B tk tq j m z TV PV q D w s32 s33 s34 s35 s36 s37 s38 s39 s40 s41 s42 s43 s44 s45 s46 s47 s48 s49) : R6m W B tk tq j m z TV PV q (fun j => j == 17 || D j) w s32 s33 s34 s35 s36 s37 s38 s39 s40 s41 s42 s43 s44 s45 s46 s47 s48 (.bool ((q : Int) != mlen z m)) :=
  ⟨h.hb, h.h0, h.h1, h.h2, h.h3, h.h4, h.h5, h.h6, h.h7, h.h8, h.h9, h.h10, h.h11, h.h12, h.h13, h.h14, h.h15, h.h16, fun _ => rfl⟩
theorem R6m.start (h : Below W.heap.size W w) : R6m W B tk tq j m z TV PV q (fun _ => false) w s32 s33 s34 s35 s36 s37 s38 s39 s40 s41 s42 s43 s44 s45 s46 s47 s48 s49 :=
  ⟨h, fun e => (by cases e), fun e => (by cases e), fun e => (by cases e), fun e => (by cases e), fun e => (by cases e), fun e => (by cases e), fun e => (by cases e), fun e => (by cases e), fun e => (by cases e), fun e => (by cases e), fun e => (by cases e), fun e => (by cases e), fun e => (by cases e), fun e => (by cases e), fun e => (by cases e), fun e => (by cases e), fun e => (by cases e), fun e => (by cases e)⟩
end

set_option maxRecDepth 100000 in
set_option maxHeartbeats 2000000 in
theorem wrongMR_any (s : List Int) (sv : Value) (z : Int) (tb : List (List Int)) (mv : Value) (w : World) (hN : NIn w s sv) (hT : TbIn w tb mv) (hs : s.all okNum = true) :
    Calls Tryz.prog 30 #[sv, .agg #[.int .i64 z, mv]] w fun e w' => e = .returned (.int .i64 (wrongM s z tb)) ∧ Below w.heap.size w w' := by
  have HN := hide hN
  have HT := hide hT
  have Hs := hide hs
  obtain ⟨sa, sc, sb, so, rfl, hsad, hslc, hscm, hSF⟩ := hN
  obtain ⟨ta, tc, tk, tq, rfl, htad, htlc, htcm, hTF⟩ := hT
  have HSF := hide hSF
  have HTF := hide hTF
  unfold maxLen at hscm htcm
  clear hSF hTF hs
  go_enter Tryz.func30, Tryz.ntmps30
  go_upto_region 1 with fail
  generalize hW1 : w.alloc (.cells #[.int .i64 z, .slice ta tb.length tc] 57) = W1
  have hB1 : Below w.heap.size w W1 := by rw [← hW1]; exact below_alloc _ _
  have m0 : W1.cell? ⟨w.heap.size, 0, none⟩ = some (.int .i64 z) := by rw [← hW1]; exact new_cell rfl
  have m1 : W1.cell? ⟨w.heap.size, 1, none⟩ = some (.slice ta tb.length tc) := by rw [← hW1]; exact new_cell rfl
  clear hW1
  by_cases h1 : z < 1
  · have Hf : Hid (wrongM s z tb = 5) := if_pos (.inl h1)
    go_wp2_with fail
    go_ret
    exact ⟨by rw [Hf.out]; rfl, hB1⟩
  by_cases h8 : 8 < z
  · have Hf : Hid (wrongM s z tb = 5) := if_pos (.inr (.inl h8))
    go_wp2_with fail
    go_ret
    exact ⟨by rw [Hf.out]; rfl, hB1⟩
  by_cases hl : tb.length = s.length
  · have Hf : Hid (wrongM s z tb = rowsE z (s.zip tb)) := if_neg (by omega)
    have hlb : ((tb.length : Int) != (s.length : Int)) = false := by simp [hl]
    have Hl := hide hl
    clear hl
    go_wp2_with fail
    clear hlb
    go_loopw [27] (fun i wr => ∃ j : Nat, j ≤ s.length ∧ i = .int .i64 j ∧ (∀ i, i < j → ∀ a, (s.zip tb)[i]? = some a → rowE z a = 0) ∧ Below W1.heap.size W1 wr) (fun i _ => s.length - (intOf i).toNat)
    case atStart => exact ⟨0, Nat.zero_le _, rfl, fun i hi => by omega, Below.refl _ _⟩
    case round =>
      obtain ⟨j, hj, rfl, hok, hBx⟩ := hrel
      have Hok := hide hok
      clear hok
      have hBr := below_step hB1 hBx
      replace m0 := grow_cell hBx _ _ m0
      replace m1 := grow_cell hBx _ _ m1
      by_cases hlt : j < s.length
      · have hlt' : (j : Int) < (s.length : Int) := by omega
        have hjt : (j : Int) < (tb.length : Int) := by have := Hl.out; omega
        have hc := grow_cell hBr _ _ (HSF.out j hlt)
        obtain ⟨pv, p1, hP⟩ := HTF.out j (by omega)
        replace p1 := grow_cell hBr _ _ p1
        replace hP := hP.below hBr
        have hsj : s[j]? = some (s.getD j 0) := by rw [List.getD_eq_getElem?_getD, List.getElem?_eq_getElem hlt]; rfl
        have htj : tb[j]? = some (tb.getD j []) := by rw [List.getD_eq_getElem?_getD, List.getElem?_eq_getElem (by omega)]; rfl
        have Hzip : Hid ((s.zip tb)[j]? = some (s.getD j 0, tb.getD j [])) := by rw [Hid, List.getElem?_zip_eq_some]; exact ⟨hsj, htj⟩
        have hok2 : 0 ≤ s.getD j 0 ∧ s.getD j 0 ≤ 2 := by
          have := List.all_eq_true.1 Hs.out _ (List.mem_of_getElem? hsj)
          simpa [okNum] using this
        have HP := hide hP
        obtain ⟨ra, rc, rb, ro, rfl, hrad, hrlc, hrcm, hRF⟩ := hP
        have HRF := hide hRF
        unfold maxLen at hrcm
        generalize s.getD j 0 = n at *
        generalize tb.getD j [] = row at *
        have hsa : sa = some ⟨sb, so, none⟩ := hsad (by omega)
        subst hsa
        have hta : ta = some ⟨tk, tq, none⟩ := htad (by omega)
        subst hta
        clear hRF hsj htj hsad htad
        go_upto_region 6 with fail
        obtain ⟨m, rfl⟩ : ∃ m : Nat, n = m := ⟨n.toNat, by omega⟩
        have hm3 : m < 3 := by omega
        have hm3' : (m : Int) < 3 := by omega
        have HZ : Hid (z * z ≤ 64 ∧ 0 ≤ z * z) := ⟨Int.mul_le_mul (by omega : z ≤ 8) (by omega : z ≤ 8) (by omega) (by omega), Int.mul_nonneg (by omega) (by omega)⟩
        go_cut [49] (fun s49 wx => s49 = .bool ((row.length : Int) != mlen z m) ∧ Below wr.heap.size wr wx)
        case first =>
          refine region_inv (fun D a w' => ∃ s32 s33 s34 s35 s36 s37 s38 s39 s40 s41 s42 s43 s44 s45 s46 s47 s48 s49 : Value, a = ⟨#[.slice (some ⟨sb, so, none⟩) s.length sc, .agg #[.int .i64 z, .slice (some ⟨tk, tq, none⟩) tb.length tc], undef, .pointer (some ⟨w.heap.size, 0, none⟩), u4, .int .i64 j, .int .i64 m, undef, u8, .pointer (some ⟨w.heap.size, 0, none⟩), .int .i64 z, .bool false, .bool false, .pointer (some ⟨w.heap.size, 0, none⟩), .int .i64 z, .bool false, .bool false, .bool false, .pointer (some ⟨w.heap.size, 1, none⟩), .slice (some ⟨tk, tq, none⟩) tb.length tc, .int .i64 tb.length, .slice (some ⟨sb, so, none⟩) s.length sc, .int .i64 s.length, .bool false, .bool false, .slice (some ⟨sb, so, none⟩) s.length sc, .int .i64 s.length, .int .i64 j, .bool true, .int .i64 j, .pointer (some ⟨sb, so + j, none⟩), .int .i64 m, s32, s33, s34, s35, s36, s37, s38, s39, s40, s41, s42, s43, s44, s45, s46, s47, s48, s49, u50, u51, u52, u53, u54, u55, u56, u57, u58, u59, u60, u61, u62, u63, u64, u65, u66, u67, u68, u69], []⟩ ∧ R6m wr w.heap.size tk tq j m z (.slice (some ⟨tk, tq, none⟩) tb.length tc) (.slice ra row.length rc) row.length D w' s32 s33 s34 s35 s36 s37 s38 s39 s40 s41 s42 s43 s44 s45 s46 s47 s48 s49) (by kernel_rfl) (by kernel_rfl) ?_ ?_ ⟨_, _, _, _, _, _, _, _, _, _, _, _, _, _, _, _, _, _, rfl, R6m.start (Below.refl _ _).drew⟩
          · rintro D a w' i o hi ⟨s32, s33, s34, s35, s36, s37, s38, s39, s40, s41, s42, s43, s44, s45, s46, s47, s48, s49, rfl, hI⟩ hD ho hdep
            have HI := hide hI
            replace m0 := grow_cell hI.hb _ _ m0
            replace m1 := grow_cell hI.hb _ _ m1
            replace p1 := grow_cell hI.hb _ _ p1
            clear hI
            have hi' : i < 18 := hi
            clear hi
            rcases (by omega : i = 0 ∨ i = 1 ∨ i = 2 ∨ i = 3 ∨ i = 4 ∨ i = 5 ∨ i = 6 ∨ i = 7 ∨ i = 8 ∨ i = 9 ∨ i = 10 ∨ i = 11 ∨ i = 12 ∨ i = 13 ∨ i = 14 ∨ i = 15 ∨ i = 16 ∨ i = 17) with rfl | rfl | rfl | rfl | rfl | rfl | rfl | rfl | rfl | rfl | rfl | rfl | rfl | rfl | rfl | rfl | rfl | rfl
            · obtain rfl := Option.some.inj ho
              clear ho hdep hD
              refine wpOp_step rfl (fun K hK => ?_)
              go_simp
              exact hK _ _ ⟨_, _, _, _, _, _, _, _, _, _, _, _, _, _, _, _, _, _, rfl, HI.out.at0⟩
            · obtain rfl := Option.some.inj ho
              have d0 := HI.out.h0 (hdep ⟨0, .data⟩ (by simp) rfl)
              subst d0
              clear ho hdep hD
              refine wpOp_step rfl (fun K hK => ?_)
              go_simp
              exact hK _ _ ⟨_, _, _, _, _, _, _, _, _, _, _, _, _, _, _, _, _, _, rfl, HI.out.at1⟩
            · obtain rfl := Option.some.inj ho
              clear ho hdep hD
              refine wpOp_step rfl (fun K hK => ?_)
              go_simp
              exact hK _ _ ⟨_, _, _, _, _, _, _, _, _, _, _, _, _, _, _, _, _, _, rfl, HI.out.at2⟩
            · obtain rfl := Option.some.inj ho
              have d1 := HI.out.h1 (hdep ⟨1, .data⟩ (by simp) rfl)
              subst d1
              have d2 := HI.out.h2 (hdep ⟨2, .data⟩ (by simp) rfl)
              subst d2
              clear ho hdep hD
              refine wpOp_step rfl (fun K hK => ?_)
              go_simp
              exact hK _ _ ⟨_, _, _, _, _, _, _, _, _, _, _, _, _, _, _, _, _, _, rfl, HI.out.at3⟩
            · obtain rfl := Option.some.inj ho
              have d3 := HI.out.h3 (hdep ⟨3, .data⟩ (by simp) rfl)
              subst d3
              clear ho hdep hD
              refine wpOp_step rfl (fun K hK => ?_)
              go_simp
              exact hK _ _ ⟨_, _, _, _, _, _, _, _, _, _, _, _, _, _, _, _, _, _, rfl, HI.out.at4⟩
            · obtain rfl := Option.some.inj ho
              have d4 := HI.out.h4 (hdep ⟨4, .data⟩ (by simp) rfl)
              subst d4
              clear ho hdep hD
              refine wpOp_step rfl (fun K hK => ?_)
              go_simp
              exact hK _ _ ⟨_, _, _, _, _, _, _, _, _, _, _, _, _, _, _, _, _, _, rfl, HI.out.at5⟩
            · obtain rfl := Option.some.inj ho
              clear ho hdep hD
              refine wpOp_step rfl (fun K hK => ?_)
              go_simp
              exact hK _ _ ⟨_, _, _, _, _, _, _, _, _, _, _, _, _, _, _, _, _, _, rfl, HI.out.at6⟩
            · obtain rfl := Option.some.inj ho
              have d6 := HI.out.h6 (hdep ⟨6, .data⟩ (by simp) rfl)
              subst d6
              clear ho hdep hD
              refine wpOp_step rfl (fun K hK => ?_)
              go_simp
              exact hK _ _ ⟨_, _, _, _, _, _, _, _, _, _, _, _, _, _, _, _, _, _, rfl, HI.out.at7⟩
            · obtain rfl := Option.some.inj ho
              clear ho hdep hD
              refine wpOp_step rfl (fun K hK => ?_)
              go_simp
              exact hK _ _ ⟨_, _, _, _, _, _, _, _, _, _, _, _, _, _, _, _, _, _, rfl, HI.out.at8⟩
            · obtain rfl := Option.some.inj ho
              have d8 := HI.out.h8 (hdep ⟨8, .data⟩ (by simp) rfl)
              subst d8
              clear ho hdep hD
              refine wpOp_step rfl (fun K hK => ?_)
              go_simp
              exact hK _ _ ⟨_, _, _, _, _, _, _, _, _, _, _, _, _, _, _, _, _, _, rfl, HI.out.at9⟩
            · obtain rfl := Option.some.inj ho
              clear ho hdep hD
              refine wpOp_step rfl (fun K hK => ?_)
              go_simp
              exact hK _ _ ⟨_, _, _, _, _, _, _, _, _, _, _, _, _, _, _, _, _, _, rfl, HI.out.at10⟩
            · obtain rfl := Option.some.inj ho
              have d10 := HI.out.h10 (hdep ⟨10, .data⟩ (by simp) rfl)
              subst d10
              clear ho hdep hD
              refine wpOp_step rfl (fun K hK => ?_)
              go_simp
              exact hK _ _ ⟨_, _, _, _, _, _, _, _, _, _, _, _, _, _, _, _, _, _, rfl, HI.out.at11⟩
            · obtain rfl := Option.some.inj ho
              have d9 := HI.out.h9 (hdep ⟨9, .data⟩ (by simp) rfl)
              subst d9
              have d11 := HI.out.h11 (hdep ⟨11, .data⟩ (by simp) rfl)
              subst d11
              have hzz := HZ.out
              have hw : IntKind.i64.wrap (z * z) = z * z := by rw [IntKind.wrap_i64]; omega
              clear ho hdep hD
              refine wpOp_step rfl (fun K hK => ?_)
              go_simp
              exact hK _ _ ⟨_, _, _, _, _, _, _, _, _, _, _, _, _, _, _, _, _, _, rfl, HI.out.at12⟩
            · obtain rfl := Option.some.inj ho
              have d7 := HI.out.h7 (hdep ⟨7, .data⟩ (by simp) rfl)
              subst d7
              have d12 := HI.out.h12 (hdep ⟨12, .data⟩ (by simp) rfl)
              subst d12
              clear ho hdep hD
              refine wpOp_step rfl (fun K hK => ?_)
              go_simp
              exact hK _ _ ⟨_, _, _, _, _, _, _, _, _, _, _, _, _, _, _, _, _, _, rfl, HI.out.at13 hm3⟩
            · obtain rfl := Option.some.inj ho
              clear ho hdep hD
              refine wpOp_step rfl (fun K hK => ?_)
              go_simp
              exact hK _ _ ⟨_, _, _, _, _, _, _, _, _, _, _, _, _, _, _, _, _, _, rfl, HI.out.at14⟩
            · obtain rfl := Option.some.inj ho
              have d13 := HI.out.h13 (hdep ⟨13, .data⟩ (by simp) rfl)
              have d14 := HI.out.h14 (hdep ⟨14, .data⟩ (by simp) rfl)
              subst d14
              obtain ⟨g, rfl, hg⟩ := d13
              clear ho hdep hD
              refine wpOp_step rfl (fun K hK => ?_)
              go_simp
              exact hK _ _ ⟨_, _, _, _, _, _, _, _, _, _, _, _, _, _, _, _, _, _, rfl, HI.out.at15 hg⟩
            · obtain rfl := Option.some.inj ho
              have d15 := HI.out.h15 (hdep ⟨15, .data⟩ (by simp) rfl)
              obtain ⟨g, rfl, hg⟩ := d15
              clear ho hdep hD
              refine wpOp_step rfl (fun K hK => ?_)
              go_simp
              exact hK _ _ ⟨_, _, _, _, _, _, _, _, _, _, _, _, _, _, _, _, _, _, rfl, HI.out.at16⟩
            · obtain rfl := Option.some.inj ho
              have d5 := HI.out.h5 (hdep ⟨5, .data⟩ (by simp) rfl)
              subst d5
              have d16 := HI.out.h16 (hdep ⟨16, .data⟩ (by simp) rfl)
              subst d16
              clear ho hdep hD
              refine wpOp_step rfl (fun K hK => ?_)
              go_simp
              exact hK _ _ ⟨_, _, _, _, _, _, _, _, _, _, _, _, _, _, _, _, _, _, rfl, HI.out.at17⟩
          · rintro D a w' ⟨s32, s33, s34, s35, s36, s37, s38, s39, s40, s41, s42, s43, s44, s45, s46, s47, s48, s49, rfl, hI⟩ hall
            have h17 := hI.h17 (hall 17 (by decide))
            subst h17
            have Hb := hide hI.hb
            clear hI hall
            go_wp2_with fail
            go_meet
            case rel => exact ⟨rfl, Hb.out⟩
        case rest =>
          obtain ⟨rfl, hby⟩ := hcut
          generalize wc = wy at *
          replace m0 := grow_cell hby _ _ m0
          replace m1 := grow_cell hby _ _ m1
          replace p1 := grow_cell hby _ _ p1
          have hBy := below_step hBx hby
          have hBz := below_step hB1 hBy
          by_cases hlen : (row.length : Int) = mlen z m
          · have hlb : ((row.length : Int) != mlen z m) = false := by simp [hlen]
            have Hlen := hide hlen
            rw [hlb]
            clear hlen hlb
            go_wp2_with fail
            go_loopw [56] (fun i wx => ∃ q : Nat, q ≤ row.length ∧ i = .int .i64 q ∧ (∀ i, i < q → inZ z (row.getD i 0) = true) ∧ wy = wx) (fun i _ => row.length - (intOf i).toNat)
            case atStart => exact ⟨0, Nat.zero_le _, rfl, fun i hi => by omega, rfl⟩
            case round =>
              obtain ⟨q, hq, rfl, hin, rfl⟩ := hrel
              have Hin := hide hin
              clear hin
              by_cases hql : q < row.length
              · have hql' : (q : Int) < (row.length : Int) := by omega
                have c3 := grow_cell hby _ _ (HRF.out q hql)
                have hra : ra = some ⟨rb, ro, none⟩ := hrad (by omega)
                subst hra
                have Hmem : Hid (row.getD q 0 ∈ row) := by rw [Hid, List.getD_eq_getElem?_getD, List.getElem?_eq_getElem hql]; simp
                have Hnx : Hid (inZ z (row.getD q 0) = true → ∀ i, i < q + 1 → inZ z (row.getD i 0) = true) := fun h i hi => by
                  by_cases e : i = q
                  · rw [e]; exact h
                  · exact Hin.out i (by omega)
                generalize row.getD q 0 = x at *
                clear hrad
                by_cases hx : 0 ≤ x ∧ x < z
                · obtain ⟨x0, x1⟩ := hx
                  have Hn := hide (Hnx.out (by simp [inZ, x0, x1]))
                  go_wp2_with fail
                  go_roundw
                  case rel => exact ⟨q + 1, by omega, by go_num, Hn.out, trivial⟩
                  case measure => simp [intOf]; omega
                · have Hbad : Hid (rowsE z (s.zip tb) = 3) := by
                    have hr : rowE z ((m : Int), row) = 3 := by
                      unfold rowE
                      rw [if_pos Hlen.out, if_neg]
                      intro hall
                      have := List.all_eq_true.1 hall x Hmem.out
                      simp only [inZ, decide_eq_true_eq] at this
                      exact hx this
                    rw [Hid, rowsE_at Hok.out Hzip.out (by rw [hr]; decide), hr]
                  by_cases x0 : x < 0
                  · clear hx
                    go_wp2_with fail
                    go_ret
                    exact ⟨by rw [Hf.out, Hbad.out]; rfl, hBz⟩
                  · have x1 : z ≤ x := by omega
                    clear hx
                    go_wp2_with fail
                    go_ret
                    exact ⟨by rw [Hf.out, Hbad.out]; rfl, hBz⟩
              · have Hgood : Hid (rowE z ((m : Int), row) = 0) := by
                  rw [Hid, row_ok]
                  refine ⟨Hlen.out, fun x hx => ?_⟩
                  obtain ⟨i, hi, rfl⟩ := List.mem_iff_getElem.1 hx
                  have hi2 : i < row.length := hi
                  have := Hin.out i (by omega)
                  rw [List.getD_eq_getElem?_getD, List.getElem?_eq_getElem hi2] at this
                  simpa [inZ] using this
                have Hn : Hid (∀ i, i < j + 1 → ∀ a, (s.zip tb)[i]? = some a → rowE z a = 0) := fun i hi a ha => by
                  by_cases e : i = j
                  · rw [e, Hzip.out] at ha; cases ha; exact Hgood.out
                  · exact Hok.out i (by omega) a ha
                clear hrad
                go_wp2_with fail
                go_roundw
                case rel => exact ⟨j + 1, by omega, by go_num, Hn.out, hBy⟩
                case measure => simp [intOf]; omega
          · have hlb : ((row.length : Int) != mlen z m) = true := by simp [hlen]
            have Hbad : Hid (rowsE z (s.zip tb) = 5) := by
              have hr : rowE z ((m : Int), row) = 5 := by
                unfold rowE
                rw [if_neg hlen]
              rw [Hid, rowsE_at Hok.out Hzip.out (by rw [hr]; decide), hr]
            rw [hlb]
            clear hlen hlb
            go_wp2_with fail
            go_ret
            exact ⟨by rw [Hf.out, Hbad.out]; rfl, hBz⟩
      · have Hfin : Hid (rowsE z (s.zip tb) = 0) := by
          rw [Hid, rowsE_iff]
          intro p hp
          obtain ⟨i, hi⟩ := List.mem_iff_getElem?.1 hp
          have hil : i < (s.zip tb).length := (List.getElem?_eq_some_iff.1 hi).1
          rw [List.length_zip] at hil
          exact Hok.out i (by omega) p hi
        clear hsad htad
        go_wp2_with fail
        go_ret
        exact ⟨by rw [Hf.out, Hfin.out]; rfl, hBr⟩
  · have Hf : Hid (wrongM s z tb = 5) := if_pos (.inr (.inr hl))
    have hlb : ((tb.length : Int) != (s.length : Int)) = true := by simp; omega
    clear hl
    go_wp2_with fail
    go_ret
    exact ⟨by rw [Hf.out]; rfl, hB1⟩

end Go.Proofs.YtfckelbdageenabGreatDoor
