/- P7g P7h P7i CMv CMs D6o -/
import Derived.Test.YtlgnpiphaeoeiadDoorG16
import Derived.BigQuiet
import Derived.Lib.AppendZeros
import Derived.Deep.RegionHeld3
namespace Go.Proofs.YtlgnpiphaeoeiadDoor
open Go.RowKit Go.Deep Go.ChangeShapes Go.WideShapes
attribute [local go_sem ↓] Go.wp_at_zero Go.wp_at_succ
theorem down_call {s : List Int} (h6 : s.length ≤ 6) {us : List Lt} (hus : Uns s us) {x z : Bool × Int} {k zk : Fo} {a bv : Value} {w : World} (hz : (z, zk) = downT us (x, k)) (hS : SIn w k a) (hsm : Sm s (x, k)) (hBy : ByIn w (byL us) bv) :
    Calls Tryd.prog 26 #[.agg #[.bool x.1, .int .i64 x.2, a], bv] w fun e w' => ∃ (a1 : Option Addr) (a3 : Nat), e = .returned (.agg #[.bool z.1, .int .i64 z.2, .slice a1 (Fo.len zk) a3]) ∧ SB (New w w') w' zk (.slice a1 (Fo.len zk) a3) ∧ Below w.heap.size w w' := by
  have h := downP_any h6 hus x k a bv w hS hsm hBy
  unfold DownPost at h
  rw [← hz] at h
  exact h
theorem by_slice {w : World} {ws : List Lt} {v : Value} (h : ByIn w ws v) : ∃ v1 v2 v3, v = .slice v1 v2 v3 := by
  obtain ⟨v1, v3, _, _, h, -, -, -, -⟩ := h
  exact ⟨_, _, _, h⟩
set_option maxRecDepth 100000 in
set_option maxHeartbeats 2000000 in
theorem downU_any {s : List Int} (h6 : s.length ≤ 6) {us : List Lt} (hus : Uns s us) (h8 : us.length ≤ 8) (hpos : ∀ u ∈ us, u.1 = false) (x : Bool × Int) (k : Fo) (a uv : Value) (w : World) (hS : SIn w k a) (hsm : Sm s (x, k)) (hC : CsIn w (us.map fun u => [u]) uv) :
    Calls Tryd.prog 10 #[.agg #[.bool x.1, .int .i64 x.2, a], uv] w (DownPost us (x, k) w) := by
  obtain ⟨xv, xi⟩ := x
  have HS := hide hS
  have Hl := hide (fun (w' : World) (hb : Below w.heap.size w w') => lesseners_any hus h8 uv w' (hC.below hb) hpos)
  obtain ⟨⟨⟨tv, ti⟩, tk⟩, ht⟩ : ∃ t, t = downT us ((xv, xi), k) := ⟨_, rfl⟩
  have Ht := hide ht
  have Hd := hide (fun (w' : World) (hb : Below w.heap.size w w') (bv : Value) (hBy : ByIn w' (byL us) bv) => down_call (x := (xv, xi)) (k := k) h6 hus ht (hS.below hb) hsm hBy)
  simp only at Hd
  clear ht
  obtain ⟨ad, c, _, _, rfl, -, -, -, -⟩ := hS
  obtain ⟨u1, u2, u3, rfl⟩ : ∃ v1 v2 v3, uv = .slice v1 v2 v3 := by
    obtain ⟨v1, v3, _, _, h, -, -, -, -⟩ := hC
    exact ⟨_, _, _, h⟩
  clear hsm hus hpos hC
  go_enter Tryd.func10, Tryd.ntmps10
  go_upto_region 1 with fail
  generalize hW1 : (w.alloc (.cells #[.bool xv, .int .i64 xi, .slice ad (Fo.len k) c] 37)).alloc (.cells #[.bool false, .int .i64 0, .slice none 0 0] 37) = W1
  have hB1 : Below w.heap.size w W1 := by rw [← hW1]; exact (below_alloc _ _).alloc (by simp) _
  have hs1 : W1.heap.size = w.heap.size + 1 + 1 := by rw [← hW1]; simp
  have g0 : W1.cell? ⟨w.heap.size, 0, none⟩ = some (.bool xv) := by rw [← hW1, World.cell?_alloc_lt _ _ _ (by simp)]; exact new_cell rfl
  have g1 : W1.cell? ⟨w.heap.size, 1, none⟩ = some (.int .i64 xi) := by rw [← hW1, World.cell?_alloc_lt _ _ _ (by simp)]; exact new_cell rfl
  have g2 : W1.cell? ⟨w.heap.size, 2, none⟩ = some (.slice ad (Fo.len k) c) := by rw [← hW1, World.cell?_alloc_lt _ _ _ (by simp)]; exact new_cell rfl
  have r0 : W1.cell? ⟨w.heap.size + 1, 0, none⟩ = some (.bool false) := by rw [← hW1]; exact new_cell (World.size_alloc _ _)
  have r1 : W1.cell? ⟨w.heap.size + 1, 1, none⟩ = some (.int .i64 0) := by rw [← hW1]; exact new_cell (World.size_alloc _ _)
  have r2 : W1.cell? ⟨w.heap.size + 1, 2, none⟩ = some (.slice none 0 0) := by rw [← hW1]; exact new_cell (World.size_alloc _ _)
  have rf : ∀ i, W1.frozen? ⟨w.heap.size + 1, i, none⟩ = false := fun i => by rw [← hW1]; exact new_frozen (World.size_alloc _ _)
  have HB1 := hide hB1
  have hcur : Below W1.heap.size W1 W1.drew := (Below.refl _ _).drew
  have hlt1 : w.heap.size + 1 < W1.heap.size := by omega
  have hne : w.heap.size ≠ w.heap.size + 1 := by omega
  clear hW1 hB1
  go_region_held3 (fun w' => w'.cell? ⟨w.heap.size, 0, none⟩ = some (.bool xv) ∧ w'.cell? ⟨w.heap.size, 1, none⟩ = some (.int .i64 xi) ∧ w'.cell? ⟨w.heap.size, 2, none⟩ = some (.slice ad (Fo.len k) c))
    (first
      | (with_reducible exact ⟨grow_cell hcur _ _ g0, grow_cell hcur _ _ g1, grow_cell hcur _ _ g2⟩)
      | (with_reducible exact ⟨keep3 hne (grow_cell hcur _ _ g0), keep3 hne (grow_cell hcur _ _ g1), keep3 hne (grow_cell hcur _ _ g2)⟩)
      | go_keep)
    (first
      | (go_at_call 27; with_reducible refine (Hl.out _ (below_step HB1.out hcur)).mono ?_; rintro e wS ⟨bv, rfl, hBy, hbS⟩; replace hcur := below_step hcur hbS; have HBy := hide hBy; obtain ⟨y1, y2, y3, rfl⟩ := by_slice hBy; clear hBy hbS)
      | (go_at_call 26; with_reducible refine (Hd.out _ (below_step HB1.out hcur) _ HBy.out).mono ?_; rintro e wU ⟨z1, z3, rfl, hO, hbU⟩; have hcurS := hcur; replace hcur := below_step hcur hbU; have HO := hide hO; have e0 := grow_cell hcur _ _ r0; have e1 := grow_cell hcur _ _ r1; have e2 := grow_cell hcur _ _ r2; have ef : ∀ i, wU.frozen? ⟨w.heap.size + 1, i, none⟩ = false := fun i => (hcur.frozen hlt1).trans (rf i); clear hO hbU))
  all_goals
    have Hcs := hide hcurS
    have Hend := hide hcur
    obtain ⟨t0, t1, t2⟩ := set3_cells (x := .bool tv) (y := .int .i64 ti) (z := .slice z1 (Fo.len tk) z3) e0 e1 e2
    have hz5 := Hend.out.size
    have hz6 := Hcs.out.size
    have Hbe := hide (set3_below (b := w.heap.size + 1) (o := 0) (x := .bool tv) (y := .int .i64 ti) (z := .slice z1 (Fo.len tk) z3) (below_step HB1.out Hend.out) (by omega))
    have HOe : Hid (SB (New w (set3 wU (w.heap.size + 1) 0 (.bool tv) (.int .i64 ti) (.slice z1 (Fo.len tk) z3))) (set3 wU (w.heap.size + 1) 0 (.bool tv) (.int .i64 ti) (.slice z1 (Fo.len tk) z3)) tk (.slice z1 (Fo.len tk) z3)) := by
      refine HO.out.frame (fun q hq => ⟨?_, ?_⟩) (fun q i hq => set3_other (.inl ?_))
      · have := hq.1; omega
      · rw [set3_size]; exact hq.2
      · have := hq.1; omega
    generalize hw6 : set3 wU (w.heap.size + 1) 0 (.bool tv) (.int .i64 ti) (.slice z1 (Fo.len tk) z3) = w6 at t0 t1 t2 Hbe HOe
    have hw6' : ((wU.setCell { block := w.heap.size + 1, off := 0 } (.bool tv)).setCell { block := w.heap.size + 1, off := 1 } (.int .i64 ti)).setCell { block := w.heap.size + 1, off := 2 } (.slice z1 (Fo.len tk) z3) = w6 := hw6
    rw [hw6']
    clear hw6 hw6' e0 e1 e2 ef hcur hcurS g0 g1 g2 r0 r1 r2 rf
    simp only [Nat.zero_add] at t1 t2
    go_wp2_with fail
    refine bodyPost_ret (v := .agg #[.bool tv, .int .i64 ti, .slice z1 (Fo.len tk) z3]) (by simp [results, Tryd.results10, go_sem, t0, t1, t2]) rfl ?_
    unfold DownPost
    rw [← Ht.out]
    exact ⟨z1, z3, rfl, HOe.out, Hbe.out⟩
set_option maxRecDepth 100000 in
set_option maxHeartbeats 4000000 in
theorem rewriteP_any {s : List Int} (h6 : s.length ≤ 6) {us : List Lt} (hus : Uns s us) (h8 : us.length ≤ 8) (hpos : ∀ u ∈ us, u.1 = false) (k : Cl) (a uv : Value) (w : World) (hS : CIn w k a) (hC : CsIn w (us.map fun u => [u]) uv) (hc : SmC s k) (h4 : k.length ≤ 4) :
    Calls Tryd.prog 15 #[a, uv] w (RwPost us k w) := by
  obtain ⟨a1, c1, b1, o1, rfl, had1, hlc1, hcm1, hF1⟩ := hS
  unfold maxLen at hcm1
  have HF1 := hide hF1
  have Hc := hide hc
  have Hl := hide (lesseners_any hus h8 uv w hC hpos)
  have Hdn := hide (fun (x z : Bool × Int) (y zk : Fo) (av bv : Value) (w' : World) (hz : (z, zk) = downT us (x, y)) (hS : SIn w' y av) (hs : Sm s (x, y)) (hBy : ByIn w' (byL us) bv) => down_call h6 hus hz hS hs hBy)
  obtain ⟨nc, hnc⟩ : ∃ nc, nc = rwC us k := ⟨_, rfl⟩
  have hd : downC us k = k.map (mapL (downT us)) := rfl
  have Hn : Hid (∀ (v : Value) (w1 : World), CIn w1 (k.map (mapL (downT us))) v → Calls Tryd.prog 30 #[v] w1 fun e w' => ∃ v, e = .returned (.tuple #[v, .int .i64 nc.1]) ∧ CIn w' nc.2 v ∧ Below w1.heap.size w1 w') := by
    intro v w1 hO
    rw [hnc, rwC, hd]
    exact norm_anyX _ _ _ hO (down_gx h6 hus hc h4)
  unfold RwPost
  rw [← hnc]
  obtain ⟨u1, u2, u3, rfl⟩ : ∃ v1 v2 v3, uv = .slice v1 v2 v3 := by
    obtain ⟨v1, v3, _, _, h, -, -, -, -⟩ := hC
    exact ⟨_, _, _, h⟩
  clear hnc hd hF1 hc hus hpos hC
  obtain ⟨iL, hi, hz0, hz1, hz2⟩ := info_parts Tryd.info39
  have hmk := fun w : World => run_make (P := Tryd.prog) w 25 39 iL _ Tryd.underlying25 hi hz0 .i64 .i64 (k.length : Int) (k.length : Int) (by omega) (by omega) (by rw [hz2]; omega) (by omega)
  rw [hz1] at hmk
  simp only [Int.toNat_natCast] at hmk
  go_enter Tryd.func15, Tryd.ntmps15
  go_wp2_with fail
  refine Hl.out.mono ?_
  rintro e W1 ⟨bv, rfl, hBy, hB1⟩
  have HBy := hide hBy
  have HB1 := hide hB1
  obtain ⟨y1, y2, y3, rfl⟩ := by_slice hBy
  clear hB1 hBy
  go_wp2_with fail
  clear hmk hi hz0 hz1 hz2
  have H0 : Hid (MkRel W1.heap.size W1 (k.map (mapL (downT us))) 0 (W1.alloc (.cells (madeCells #[.bool false, .bool false, .int .i64 0, .slice none 0 0, .bool false, .int .i64 0, .slice none 0 0] (k.length * 7)) 39))) := by
    have := mk_start (W2 := W1) (T := k.map (mapL (downT us))) (z := #[.bool false, .bool false, .int .i64 0, .slice none 0 0, .bool false, .int .i64 0, .slice none 0 0])
    rw [List.length_map] at this
    exact this
  go_loopw [17] (fun i wr => ∃ j : Nat, j ≤ k.length ∧ i = .int .i64 j ∧ MkRel W1.heap.size W1 (k.map (mapL (downT us))) j wr) (fun i _ => k.length - (intOf i).toNat)
  case atStart => exact ⟨0, Nat.zero_le _, rfl, H0.out⟩
  case round =>
    obtain ⟨j, hj, rfl, hR⟩ := hrel
    have HR := hide hR
    obtain ⟨hB, hT, hsz, -⟩ := hR
    have hBw : Below w.heap.size w wr := below_step HB1.out hB
    have HB1r := hide hB
    by_cases hlt : j < k.length
    · have hlt' : (j : Int) < (k.length : Int) := by omega
      have hj0 : (0 : Int) ≤ (j : Int) := by omega
      obtain ⟨⟨yn, ⟨⟨yv, yi⟩, yk⟩, ⟨yv', yi'⟩, yk'⟩, hy⟩ : ∃ y, k[j]? = some y := ⟨k[j]'hlt, by simp⟩
      obtain ⟨p0, p1, p2, ⟨u3', p3, hA⟩, p4, p5, u6, p6, hD⟩ := (HF1.out.below hBw).at hy
      have ha1 : a1 = some ⟨b1, o1, none⟩ := had1 (by omega)
      subst ha1
      have HA := hide hA
      have HD := hide hD
      obtain ⟨ya, yc, _, _, rfl, -, -, -, -⟩ := hA
      obtain ⟨za, zc, _, _, rfl, -, -, -, -⟩ := hD
      have Hny := hide (Hc.out _ (List.mem_of_getElem? hy))
      obtain ⟨⟨⟨tv, ti⟩, tk⟩, ht⟩ : ∃ t, t = downT us ((yv, yi), yk) := ⟨_, rfl⟩
      obtain ⟨⟨⟨tv', ti'⟩, tk'⟩, ht'⟩ : ∃ t, t = downT us ((yv', yi'), yk') := ⟨_, rfl⟩
      have Hy2 : Hid ((k.map (mapL (downT us)))[j]? = some (yn, ((tv, ti), tk), ((tv', ti'), tk'))) := by rw [Hid, List.getElem?_map, hy, ht, ht']; rfl
      have hT' : There wr W1.heap.size (k.length * 7) := by rw [List.length_map] at hT; exact hT
      have hfz : ∀ i, i < 7 → (∃ v, wr.cell? ⟨W1.heap.size, j * 7 + i, none⟩ = some v) ∧ wr.frozen? ⟨W1.heap.size, j * 7 + i, none⟩ = false := fun i hi => hT' _ (by omega)
      have Hfz := hide hfz
      have Hc1 := hide (fun (w' : World) (hb : Below wr.heap.size wr w') => Hdn.out (yv, yi) (tv, ti) yk tk (.slice ya (Fo.len yk) yc) (.slice y1 y2 y3) w' ht (HA.out.below hb) Hny.out.1 (HBy.out.below (below_step hB hb)))
      have Hc2 := hide (fun (w' : World) (hb : Below wr.heap.size wr w') => Hdn.out (yv', yi') (tv', ti') yk' tk' (.slice za (Fo.len yk') zc) (.slice y1 y2 y3) w' ht' (HD.out.below hb) Hny.out.2 (HBy.out.below (below_step hB hb)))
      clear hy had1 hT hT' ht ht' hfz hB
      simp only at *
      go_upto_region 6 with fail
      generalize hwa : wr.alloc (.cells #[.bool yn, .bool yv, .int .i64 yi, .slice ya (Fo.len yk) yc, .bool yv', .int .i64 yi', .slice za (Fo.len yk') zc] 39) = wa
      obtain ⟨g0, g1, g2, g3, g4, g5, g6, -, hba, hsa⟩ := lit_cells (T := 39) (x0 := .bool yn) (w := wr) (wr := wa) (x1 := .bool yv) (x2 := .int .i64 yi) (x3 := .slice ya (Fo.len yk) yc) (x4 := .bool yv') (x5 := .int .i64 yi') (x6 := .slice za (Fo.len yk') zc) (by rw [← hwa]; exact Below.refl _ _)
      clear hwa
      have hcur : Below wa.heap.size wa wa.drew := (Below.refl _ _).drew
      clear p0 p1 p2 p3 p4 p5 p6
      have hgz : W1.heap.size < wr.heap.size := by omega
      have hne : wr.heap.size ≠ W1.heap.size := by omega
      go_region_held3 (fun w' => w'.cell? ⟨wr.heap.size, 0, none⟩ = some (.bool yn) ∧ w'.cell? ⟨wr.heap.size, 1, none⟩ = some (.bool yv) ∧ w'.cell? ⟨wr.heap.size, 2, none⟩ = some (.int .i64 yi) ∧ w'.cell? ⟨wr.heap.size, 3, none⟩ = some (.slice ya (Fo.len yk) yc) ∧ w'.cell? ⟨wr.heap.size, 4, none⟩ = some (.bool yv') ∧ w'.cell? ⟨wr.heap.size, 5, none⟩ = some (.int .i64 yi') ∧ w'.cell? ⟨wr.heap.size, 6, none⟩ = some (.slice za (Fo.len yk') zc))
        (first
          | (with_reducible exact ⟨grow_cell hcur _ _ g0, grow_cell hcur _ _ g1, grow_cell hcur _ _ g2, grow_cell hcur _ _ g3, grow_cell hcur _ _ g4, grow_cell hcur _ _ g5, grow_cell hcur _ _ g6⟩)
          | (with_reducible exact ⟨keep7 hne (grow_cell hcur _ _ g0), keep7 hne (grow_cell hcur _ _ g1), keep7 hne (grow_cell hcur _ _ g2), keep7 hne (grow_cell hcur _ _ g3), keep7 hne (grow_cell hcur _ _ g4), keep7 hne (grow_cell hcur _ _ g5), keep7 hne (grow_cell hcur _ _ g6)⟩)
          | go_keep)
        (first
          | (go_at_call 26; with_reducible refine (Hc1.out _ (below_step hba hcur)).mono ?_; rintro e wS ⟨z1, z3, rfl, hO1, hbS⟩; replace hcur := below_step hcur hbS; have HO1 := hide (And.intro hO1 hbS); clear hO1)
          | (go_at_call 26; with_reducible refine (Hc2.out _ (below_step hba hcur)).mono ?_; rintro e wU ⟨x1, x3, rfl, hO2, hbU⟩; have hcurS := hcur; replace hcur := below_step hcur hbU; have HO2 := hide (And.intro hO2 hbU); clear hO2; have hall := below_step hba hcur; obtain ⟨⟨t0, e0⟩, f0⟩ := Hfz.out 0 (by omega); obtain ⟨⟨t1, e1⟩, f1⟩ := Hfz.out 1 (by omega); obtain ⟨⟨t2, e2⟩, f2⟩ := Hfz.out 2 (by omega); obtain ⟨⟨t3, e3⟩, f3⟩ := Hfz.out 3 (by omega); obtain ⟨⟨t4, e4⟩, f4⟩ := Hfz.out 4 (by omega); obtain ⟨⟨t5, e5⟩, f5⟩ := Hfz.out 5 (by omega); obtain ⟨⟨t6, e6⟩, f6⟩ := Hfz.out 6 (by omega); replace e0 := grow_cell hall _ _ e0; replace e1 := grow_cell hall _ _ e1; replace e2 := grow_cell hall _ _ e2; replace e3 := grow_cell hall _ _ e3; replace e4 := grow_cell hall _ _ e4; replace e5 := grow_cell hall _ _ e5; replace e6 := grow_cell hall _ _ e6; replace f0 := (hall.frozen hgz).trans f0; replace f1 := (hall.frozen hgz).trans f1; replace f2 := (hall.frozen hgz).trans f2; replace f3 := (hall.frozen hgz).trans f3; replace f4 := (hall.frozen hgz).trans f4; replace f5 := (hall.frozen hgz).trans f5; replace f6 := (hall.frozen hgz).trans f6; simp only [Nat.add_zero] at e0 f0))
      all_goals
        have Hstep : Hid (MkRel W1.heap.size W1 (k.map (mapL (downT us))) (j + 1) (setL wU W1.heap.size (j * 7) (litV (yn, ((tv, ti), tk), ((tv', ti'), tk')) (.slice z1 (Fo.len tk) z3) (.slice x1 (Fo.len tk') x3)))) := by
          have s1 := hba.size
          have s2 := hcurS.size
          have s3 := HO1.out.2.size
          have s4 := HO2.out.2.size
          refine mk_step HR.out Hy2.out (below_step hba hcur) ?_ ?_
          · refine HO1.out.1.frame (fun q hq => ⟨?_, ?_⟩) (fun q i hq => HO2.out.2.cell ?_)
            · have q1' : wa.heap.size ≤ q := hq.1
              omega
            · have s4' : wS.heap.size ≤ wU.heap.size := s4
              have := hq.2
              omega
            · exact hq.2
          · refine HO2.out.1.frame (fun q hq => ⟨?_, hq.2⟩) (fun _ _ _ => rfl)
            have q1' : wS.heap.size ≤ q := hq.1
            omega
        go_wp2_with fail
        go_roundw
        case rel => exact ⟨j + 1, by omega, by go_num, Hstep.out⟩
        case measure => simp [intOf]; omega
    · have hje : j = k.length := by omega
      subst hje
      have Hfin : Hid (CIn wr (k.map (mapL (downT us))) (.slice (some ⟨W1.heap.size, 0, none⟩) k.length k.length)) := by
        have := HR.out
        rw [show MkRel W1.heap.size W1 (k.map (mapL (downT us))) k.length wr = MkRel W1.heap.size W1 (k.map (mapL (downT us))) (k.map (mapL (downT us))).length wr by rw [List.length_map]] at this
        have := mk_end this (by rw [List.length_map]; unfold maxLen; omega)
        rw [List.length_map] at this
        exact this
      have Hn1 := hide (Hn.out _ _ Hfin.out)
      have HBw := hide hBw
      clear had1 hT hB hBw Hn
      go_wp2_with fail
      with_reducible refine Hn1.out.mono ?_
      rintro e w2 ⟨v2, rfl, hC2, hb2⟩
      have HC2 := hide hC2
      obtain ⟨q1, q3, rfl⟩ := slice_of_cl hC2
      have HB2 := hide (below_step HBw.out hb2)
      clear hC2 hb2
      go_wp2_with fail
      go_ret2
      exact ⟨_, rfl, HC2.out, HB2.out⟩
end Go.Proofs.YtlgnpiphaeoeiadDoor

namespace Go.Proofs.YtlgnpiphaeoeiadDoor
open Go.RowKit Go.Deep Go.ChangeShapes Go.WideShapes
attribute [local go_sem ↓] Go.wp_at_zero Go.wp_at_succ
def covD (d : Cl) : Cl → Sb → Bool
  | [], _ => true
  | x :: c, s => (covS x d s).any (covD d c)
theorem covN_any {d : Cl} : ∀ {c : Cl} {now : List Sb}, (!(covN d c now).isEmpty) = now.any (covD d c)
  | [], now => by
    cases now with
    | nil => rfl
    | cons s l => simp [covN, covD]
  | x :: c, now => by
    rw [covN, covN_any (c := c), List.any_flatMap]
    rfl
theorem covT_is {c d : Cl} : covT c d = covD d c [] := by
  unfold covT
  rw [covN_any]
  simp
def litD (d c : Cl) (x : Lt) (s : Sb) (y : Lt) : Bool := ((wayC x y s).toList ++ (wayC x (turnL true y) s).toList).any (covD d c)
def oneD (d c : Cl) (x : Lt) (s : Sb) (y : Lt) : Bool := match wayC x y s with
  | some s' => covD d c s'
  | none => false
theorem litD_is {d c : Cl} {x : Lt} {s : Sb} {y : Lt} : litD d c x s y = (oneD d c x s y || oneD d c x s (turnL true y)) := by
  unfold litD oneD
  rw [List.any_append]
  cases wayC x y s <;> cases wayC x (turnL true y) s <;> simp
theorem covD_cons {d c : Cl} {x : Lt} {s : Sb} : covD d (x :: c) s = d.any (litD d c x s) := by
  rw [covD, covS, List.any_flatMap]
  rfl
def BecPost (p l : Lt) (s : Sb) (w : World) (e : Ending) (w' : World) : Prop := ∃ (z1 : Option Addr) (m z3 : Nat) (ok : Bool), e = .returned (.tuple #[.slice z1 m z3, .bool ok]) ∧ (ok = false → wayC p l s = none) ∧ (ok = true → ∃ s', wayC p l s = some s' ∧ m = s'.length ∧ SubIn w' s' (.slice z1 m z3)) ∧ Below w.heap.size w w'
theorem gd_args {t : Tm} (h : Gd t) : ∀ y ∈ t.2.list, Gd y := fun y hy => by
  obtain ⟨⟨v, n⟩, k⟩ := t
  cases v with
  | true => rw [h.ok.1 rfl] at hy; simp [Fo.list] at hy
  | false => exact gd_mem h rfl hy
theorem ext_gd {t u : Tm} {s s' : Sb} (hu : Gd u) (hs : ∀ p ∈ s, Gd p.2) (h : extT s t u = some s') : ∀ p ∈ s', Gd p.2 := extT_all (P := Gd) (fun _ => gd_args) hu hs h
set_option maxRecDepth 100000 in
set_option maxHeartbeats 2000000 in
theorem become_any (p l : Lt) (s : Sb) (vs : Value) (a1 d1 b1 e1 : Option Addr) (a3 d3 b3 e3 : Nat) (w : World) (hV : SubIn w s vs) (hs : ∀ q ∈ s, Gd q.2) (hA : SIn w p.2.1.2 (.slice a1 (Fo.len p.2.1.2) a3)) (hD : SIn w p.2.2.2 (.slice d1 (Fo.len p.2.2.2) d3))
    (hB : SIn w l.2.1.2 (.slice b1 (Fo.len l.2.1.2) b3)) (hE : SIn w l.2.2.2 (.slice e1 (Fo.len l.2.2.2) e3)) (hp : tszR p.2.1.2 ≤ 12 ∧ tszR p.2.2.2 ≤ 12) (hl : Gd l.2.1 ∧ Gd l.2.2) (hlen : s.length ≤ 1000) :
    Calls Tryd.prog 38 #[vs, litA p (.slice a1 (Fo.len p.2.1.2) a3) (.slice d1 (Fo.len p.2.2.2) d3), litA l (.slice b1 (Fo.len l.2.1.2) b3) (.slice e1 (Fo.len l.2.2.2) e3)] w (BecPost p l s w) := by
  obtain ⟨pn, ⟨⟨pv, pi⟩, pk⟩, ⟨pv', pi'⟩, pk'⟩ := p
  obtain ⟨ln, ⟨⟨lv, li⟩, lk⟩, ⟨lv', li'⟩, lk'⟩ := l
  simp only at *
  have HV := hide hV
  have Hs := hide hs
  have HA := hide hA
  have HD := hide hD
  have HB := hide hB
  have HE := hide hE
  obtain ⟨v1, v3, rfl⟩ := slice_of_sub hV
  clear hA hD hB hE hs hV
  go_enter Tryd.func38, Tryd.ntmps38
  go_upto_region 1 with fail
  generalize hW1 : (w.alloc (.cells #[.bool pn, .bool pv, .int .i64 pi, .slice a1 (Fo.len pk) a3, .bool pv', .int .i64 pi', .slice d1 (Fo.len pk') d3] 39)).alloc (.cells #[.bool ln, .bool lv, .int .i64 li, .slice b1 (Fo.len lk) b3, .bool lv', .int .i64 li', .slice e1 (Fo.len lk') e3] 39) = W1
  have hB1 : Below w.heap.size w W1 := by rw [← hW1]; exact (below_alloc _ _).alloc (by simp) _
  have hR1 : RowAt W1 w.heap.size (litV (pn, ((pv, pi), pk), ((pv', pi'), pk')) (.slice a1 (Fo.len pk) a3) (.slice d1 (Fo.len pk') d3)) := by
    rw [← hW1]
    exact (RowAt.new w #[.bool pn, .bool pv, .int .i64 pi, .slice a1 (Fo.len pk) a3, .bool pv', .int .i64 pi', .slice d1 (Fo.len pk') d3] 39).below (below_alloc _ _)
  have hR2 : RowAt W1 (w.heap.size + 1) (litV (ln, ((lv, li), lk), ((lv', li'), lk')) (.slice b1 (Fo.len lk) b3) (.slice e1 (Fo.len lk') e3)) := by
    rw [← hW1]
    have := RowAt.new (w.alloc (.cells #[.bool pn, .bool pv, .int .i64 pi, .slice a1 (Fo.len pk) a3, .bool pv', .int .i64 pi', .slice d1 (Fo.len pk') d3] 39)) #[.bool ln, .bool lv, .int .i64 li, .slice b1 (Fo.len lk) b3, .bool lv', .int .i64 li', .slice e1 (Fo.len lk') e3] 39
    rw [World.size_alloc] at this
    exact this
  have g0 : W1.cell? ⟨w.heap.size, 0, none⟩ = some (.bool pn) := hR1 0 _ rfl
  have g1 : W1.cell? ⟨w.heap.size, 1, none⟩ = some (.bool pv) := hR1 1 _ rfl
  have g2 : W1.cell? ⟨w.heap.size, 2, none⟩ = some (.int .i64 pi) := hR1 2 _ rfl
  have g3 : W1.cell? ⟨w.heap.size, 3, none⟩ = some (.slice a1 (Fo.len pk) a3) := hR1 3 _ rfl
  have g4 : W1.cell? ⟨w.heap.size, 4, none⟩ = some (.bool pv') := hR1 4 _ rfl
  have g5 : W1.cell? ⟨w.heap.size, 5, none⟩ = some (.int .i64 pi') := hR1 5 _ rfl
  have g6 : W1.cell? ⟨w.heap.size, 6, none⟩ = some (.slice d1 (Fo.len pk') d3) := hR1 6 _ rfl
  have f0 : W1.cell? ⟨w.heap.size + 1, 0, none⟩ = some (.bool ln) := hR2 0 _ rfl
  have f1 : W1.cell? ⟨w.heap.size + 1, 1, none⟩ = some (.bool lv) := hR2 1 _ rfl
  have f2 : W1.cell? ⟨w.heap.size + 1, 2, none⟩ = some (.int .i64 li) := hR2 2 _ rfl
  have f3 : W1.cell? ⟨w.heap.size + 1, 3, none⟩ = some (.slice b1 (Fo.len lk) b3) := hR2 3 _ rfl
  have f4 : W1.cell? ⟨w.heap.size + 1, 4, none⟩ = some (.bool lv') := hR2 4 _ rfl
  have f5 : W1.cell? ⟨w.heap.size + 1, 5, none⟩ = some (.int .i64 li') := hR2 5 _ rfl
  have f6 : W1.cell? ⟨w.heap.size + 1, 6, none⟩ = some (.slice e1 (Fo.len lk') e3) := hR2 6 _ rfl
  have HB1 := hide hB1
  clear hW1 hR1 hR2 hB1
  by_cases hneg : ln = pn
  · subst hneg
    have Hwc : Hid (wayC (ln, ((pv, pi), pk), ((pv', pi'), pk')) (ln, ((lv, li), lk), ((lv', li'), lk')) s = (extT s ((pv, pi), pk) ((lv, li), lk)).bind fun a => extT a ((pv', pi'), pk') ((lv', li'), lk')) := if_pos rfl
    have Hm1 := hide (more_any s _ (pv, pi) pk _ (lv, li) lk _ W1 (HV.out.below HB1.out) (fun q hq => ⟨(Hs.out q hq).nar, (Hs.out q hq).ok⟩) (HA.out.below HB1.out) (HB.out.below HB1.out) hl.1.ok hl.1.nar (by have := hp.1; omega))
    go_wp2_with fail
    refine Hm1.out.mono ?_
    rintro e' w5 ⟨hb5, t1, t2, t3, ok, rfl, hno, hyes⟩
    have HB5 := hide (below_step HB1.out hb5)
    cases ok
    · have Hn : Hid (wayC (ln, ((pv, pi), pk), ((pv', pi'), pk')) (ln, ((lv, li), lk), ((lv', li'), lk')) s = none) := by rw [Hid, Hwc.out, (hno rfl).1]; rfl
      clear hno hyes hb5
      go_wp2_with fail
      go_ret2
      exact ⟨none, 0, 0, false, rfl, fun _ => Hn.out, fun e => by (cases e), HB5.out⟩
    · obtain ⟨sa, hex, rfl, hSa⟩ := hyes rfl
      have hsal := extT_len hex
      simp only at hsal
      have Hex := hide hex
      have Hgs := hide (ext_gd hl.1 Hs.out hex)
      have Hm2 := hide (more_any sa _ (pv', pi') pk' _ (lv', li') lk' _ w5 hSa (fun q hq => ⟨(Hgs.out q hq).nar, (Hgs.out q hq).ok⟩) (HD.out.below HB5.out) (HE.out.below HB5.out) hl.2.ok hl.2.nar (by have := hp.1; have := hp.2; omega))
      replace f4 := grow_cell hb5 _ _ f4
      replace f5 := grow_cell hb5 _ _ f5
      replace f6 := grow_cell hb5 _ _ f6
      replace g4 := grow_cell hb5 _ _ g4
      replace g5 := grow_cell hb5 _ _ g5
      replace g6 := grow_cell hb5 _ _ g6
      clear hno hyes hex hSa hb5 f0 f1 f2 f3 g0 g1 g2 g3
      go_wp2_with fail
      refine Hm2.out.mono ?_
      rintro e' w6 ⟨hb6, r1, r2, r3, ok, rfl, hno, hyes⟩
      have HB6 := hide (below_step HB5.out hb6)
      have Hno : Hid (ok = false → wayC (ln, ((pv, pi), pk), ((pv', pi'), pk')) (ln, ((lv, li), lk), ((lv', li'), lk')) s = none) := fun h => by rw [Hwc.out, Hex.out, Option.bind_some]; exact (hno h).1
      have Hyes : Hid (ok = true → ∃ s', wayC (ln, ((pv, pi), pk), ((pv', pi'), pk')) (ln, ((lv, li), lk), ((lv', li'), lk')) s = some s' ∧ r2 = s'.length ∧ SubIn w6 s' (.slice r1 r2 r3)) := fun h => by rw [Hwc.out, Hex.out, Option.bind_some]; exact hyes h
      clear hno hyes hb6 f4 f5 f6 g4 g5 g6
      go_wp2_with fail
      go_ret2
      exact ⟨r1, r2, r3, ok, rfl, Hno.out, Hyes.out, HB6.out⟩
  · have Hn : Hid (wayC (pn, ((pv, pi), pk), ((pv', pi'), pk')) (ln, ((lv, li), lk), ((lv', li'), lk')) s = none) := by
      rw [Hid, wayC, if_neg (by simpa using hneg)]
    rcases (by cases ln <;> cases pn <;> simp_all : (ln = true ∧ pn = false) ∨ (ln = false ∧ pn = true)) with ⟨rfl, rfl⟩ | ⟨rfl, rfl⟩
    all_goals
      clear hneg
      go_wp2_with fail
      go_ret2
      exact ⟨none, 0, 0, false, rfl, fun _ => Hn.out, fun e => by (cases e), HB1.out⟩
end Go.Proofs.YtlgnpiphaeoeiadDoor

namespace Go.Proofs.YtlgnpiphaeoeiadDoor
open Go.RowKit Go.Deep Go.ChangeShapes Go.WideShapes
attribute [local go_sem ↓] Go.wp_at_zero Go.wp_at_succ
theorem cl_tail {w : World} {x : Lt} {c : Cl} {cv : Value} (h : CIn w (x :: c) cv) : ∃ (ad : Option Addr) (k : Nat) (tv : Value), cv = .slice ad (c.length + 1) k ∧ CIn w c tv ∧ ∀ w' : World, (Instr.slice 25 cv (some (.int .i64 1)) none none).run Tryd.prog w' = .ok tv w' := by
  obtain ⟨a, k, b, o, rfl, had, hlc, hcm, hL⟩ := h
  have ha : a = some ⟨b, o, none⟩ := had (by simp)
  subst ha
  obtain ⟨ad, hr, he⟩ := lits_behind (n := (x :: c).length) (j := 1) (c := k) (b := b) (o := o) (by simp) hlc
  refine ⟨_, k, .slice (some ad) c.length (k - 1), rfl, ?_, fun w' => ?_⟩
  · refine ⟨some ad, k - 1, b, o + 7, rfl, fun h => ?_, ?_, by omega, hL.2⟩
    · rw [he (by simp only [List.length_cons]; omega)]
    · simp only [List.length_cons] at hlc; omega
  · have := hr w'
    simpa using this
structure CovEnv (W0 : World) (bd br : Nat) (d : Cl) (dv : Value) : Prop where
  cd : W0.cell? ⟨bd, 0, none⟩ = some dv
  cr : W0.cell? ⟨br, 0, none⟩ = some (.func (.func 34) #[] #[.pointer (some ⟨bd, 0, none⟩), .pointer (some ⟨br, 0, none⟩)])
  din : CIn W0 d dv
  gd : ∀ l ∈ d, Gd l.2.1 ∧ Gd l.2.2
def RestSaid (W0 : World) (bd br : Nat) (d : Cl) (n : Nat) : Prop := ∀ (c : Cl) (s : Sb) (vs cv : Value) (w : World), c.length = n → Below W0.heap.size W0 w → SubIn w s vs → CIn w c cv → (∀ p ∈ s, Gd p.2) → s.length + 24 * n ≤ 200 → (∀ l ∈ c, tszR l.2.1.2 ≤ 12 ∧ tszR l.2.2.2 ≤ 12) →
    Calls Tryd.prog 34 #[vs, cv, .pointer (some ⟨bd, 0, none⟩), .pointer (some ⟨br, 0, none⟩)] w fun e w' => e = .returned (.bool (covD d c s)) ∧ Below w.heap.size w w'
theorem become_call {p l : Lt} {s : Sb} {w : World} {args : Array Value} (h : Calls Tryd.prog 38 args w (BecPost p l s w)) : Calls Tryd.prog 38 args w fun e w' => ∃ (z1 : Option Addr) (m z3 : Nat) (ok : Bool), e = .returned (.tuple #[.slice z1 m z3, .bool ok]) ∧ (ok = false → wayC p l s = none) ∧ (ok = true → ∃ s', wayC p l s = some s' ∧ m = s'.length ∧ SubIn w' s' (.slice z1 m z3)) ∧ Below w.heap.size w w' := h
theorem way_ok {x y : Lt} {s s' : Sb} (hy : Gd y.2.1 ∧ Gd y.2.2) (hs : ∀ p ∈ s, Gd p.2) (hx : tszR x.2.1.2 ≤ 12 ∧ tszR x.2.2.2 ≤ 12) (h : wayC x y s = some s') : (∀ p ∈ s', Gd p.2) ∧ s'.length ≤ s.length + 24 := by
  unfold wayC at h
  split at h
  · rw [Option.bind_eq_some_iff] at h
    obtain ⟨a, h1, h2⟩ := h
    have h3 := ext_gd hy.1 hs h1
    have h4 := extT_len h1
    have h5 := extT_len h2
    exact ⟨ext_gd hy.2 h3 h2, by omega⟩
  · cases h
theorem turn_gd {y : Lt} (k : Bool) (h : Gd y.2.1 ∧ Gd y.2.2) : Gd (turnL k y).2.1 ∧ Gd (turnL k y).2.2 := by
  cases k
  · exact h
  · exact ⟨h.2, h.1⟩
set_option maxRecDepth 100000 in
set_option maxHeartbeats 4000000 in
theorem covLit_any {W0 : World} {bd br : Nat} {d : Cl} {dv : Value} (hE : CovEnv W0 bd br d dv) (x : Lt) (c : Cl) (ih : RestSaid W0 bd br d c.length) (s : Sb) (vs cv : Value) (sb cb : Nat) (y : Lt) (a b : Value) (w : World) (hb0 : Below W0.heap.size W0 w) (hs : w.cell? ⟨sb, 0, none⟩ = some vs) (hc : w.cell? ⟨cb, 0, none⟩ = some cv) (hV : SubIn w s vs) (hC : CIn w (x :: c) cv)
    (hg : ∀ p ∈ s, Gd p.2) (hlen : s.length + 24 * (c.length + 1) ≤ 200) (hx : ∀ l ∈ x :: c, tszR l.2.1.2 ≤ 12 ∧ tszR l.2.2.2 ≤ 12) (hy : Gd y.2.1 ∧ Gd y.2.2) (hA : SIn w y.2.1.2 a) (hB : SIn w y.2.2.2 b) :
    Calls Tryd.prog 36 #[litA y a b, .pointer (some ⟨sb, 0, none⟩), .pointer (some ⟨cb, 0, none⟩), .pointer (some ⟨br, 0, none⟩)] w fun e w' => e = .returned (.bool (litD d c x s y)) ∧ Below w.heap.size w w' := by
  have HIH := hide ih
  have HV := hide hV
  have HC := hide hC
  have HG := hide hg
  have HX := hide hx
  have Hb0 := hide hb0
  have Hlit := hide (fun (kk : Nat) (hk : kk < 2) => lit_at hk hA hB)
  have Hbw := hide (fun (a1 b1 : Option Addr) (a2 a3 b2 b3 : Nat) (w' : World) => bothLits_any y a1 b1 a2 a3 b2 b3 w')
  obtain ⟨ca, ck, tv, rfl, hT, hrun⟩ := cl_tail hC
  have HT := hide hT
  have Htail := hide hrun
  obtain ⟨_, _, kb, ko, hce, hcad, hclc, hccm, hcF⟩ := hC
  simp only [List.length_cons, Value.slice.injEq, true_and] at hce
  obtain ⟨rfl, rfl⟩ := hce
  have hca : ca = some ⟨kb, ko, none⟩ := hcad (by simp)
  subst hca
  unfold maxLen at hccm
  have HcF := hide hcF
  obtain ⟨v1, v3, rfl⟩ := slice_of_sub hV
  have hr0 := grow_cell hb0 _ _ hE.cr
  have hHs := hide hs
  have hHc := hide hc
  obtain ⟨ya, yc, _, _, rfl, -, -, -, -⟩ := hA
  obtain ⟨za, zc, _, _, rfl, -, -, -, -⟩ := hB
  have Hly : Hid (litD d c x s y = (oneD d c x s y || oneD d c x s (turnL true y))) := litD_is
  have Hyy := hide hy
  clear ih hg hx hT hrun hcad hcF hV hb0 hy
  obtain ⟨yn, ⟨⟨yv, yi⟩, yk⟩, ⟨yv', yi'⟩, yk'⟩ := y
  simp only at *
  go_enter Tryd.func36, Tryd.ntmps36
  go_wp2_with fail
  refine (Hbw.out _ _ _ _ _ _ _).mono ?_
  rintro e w1 ⟨rfl, hb1⟩
  clear hs hc hr0
  go_wp2_with fail
  obtain ⟨xn, ⟨⟨xv, xi⟩, xk⟩, ⟨xv', xi'⟩, xk'⟩ := x
  have HB1 := hide (below_box hb1)
  clear hb1
  go_loopw [12] (fun i wr => ∃ kk : Nat, kk ≤ 2 ∧ i = .int .i64 kk ∧ (∀ k', k' < kk → oneD d c (xn, ((xv, xi), xk), ((xv', xi'), xk')) s (turnL (decide (k' = 1)) (yn, ((yv, yi), yk), ((yv', yi'), yk'))) = false) ∧ Below w.heap.size w wr) (fun i _ => 2 - (intOf i).toNat)
  case atStart => exact ⟨0, by omega, rfl, fun k' h => by omega, HB1.out⟩
  case round =>
    obtain ⟨kk, hkk, rfl, hno, hBr⟩ := hrel
    have Hno := hide hno
    have HBr := hide hBr
    clear hno
    by_cases hkl : kk < 2
    · have hkl' : (kk : Int) < 2 := by omega
      have hk0 : (0 : Int) ≤ (kk : Int) := by omega
      obtain ⟨b1, b3, e1, e3, hSA, hSD, hrun⟩ := Hlit.out kk hkl
      have Htg := hide (turn_gd (y := (yn, ((yv, yi), yk), ((yv', yi'), yk'))) (decide (kk = 1)) Hyy.out)
      have Hnx : Hid (oneD d c (xn, ((xv, xi), xk), ((xv', xi'), xk')) s (turnL (decide (kk = 1)) (yn, ((yv, yi), yk), ((yv', yi'), yk'))) = false → ∀ k', k' < kk + 1 → oneD d c (xn, ((xv, xi), xk), ((xv', xi'), xk')) s (turnL (decide (k' = 1)) (yn, ((yv, yi), yk), ((yv', yi'), yk'))) = false) := fun h k' hk' => by
        by_cases e : k' = kk
        · rw [e]; exact h
        · exact Hno.out k' (by omega)
      have Hyes : Hid (oneD d c (xn, ((xv, xi), xk), ((xv', xi'), xk')) s (turnL (decide (kk = 1)) (yn, ((yv, yi), yk), ((yv', yi'), yk'))) = true → litD d c (xn, ((xv, xi), xk), ((xv', xi'), xk')) s (yn, ((yv, yi), yk), ((yv', yi'), yk')) = true) := fun h => by
        rw [Hly.out]
        obtain rfl | rfl : kk = 0 ∨ kk = 1 := by omega
        · rw [show oneD d c (xn, ((xv, xi), xk), ((xv', xi'), xk')) s (yn, ((yv, yi), yk), ((yv', yi'), yk')) = true from h]; rfl
        · rw [show oneD d c (xn, ((xv, xi), xk), ((xv', xi'), xk')) s (turnL true (yn, ((yv, yi), yk), ((yv', yi'), yk'))) = true from h]; simp
      generalize turnL (decide (kk = 1)) (yn, ((yv, yi), yk), ((yv', yi'), yk')) = ty at *
      obtain ⟨tn, ⟨⟨tv', ti⟩, tk⟩, ⟨⟨tv'', ti'⟩, tk'⟩⟩ := ty
      simp only at hSA hSD hrun Htg
      have hrun' := hrun wr
      have HSA := hide hSA
      have HSD := hide hSD
      clear hSA hSD hrun
      go_upto_region 4 with fail
      generalize hwa : wr.alloc (.cells #[.bool tn, .bool tv', .int .i64 ti, .slice b1 (Fo.len tk) b3, .bool tv'', .int .i64 ti', .slice e1 (Fo.len tk') e3] 39) = wa
      obtain ⟨g0, g1, g2, g3, g4, g5, g6, -, hba, hsa⟩ := lit_cells (T := 39) (w := wr) (wr := wa) (x0 := .bool tn) (x1 := .bool tv') (x2 := .int .i64 ti) (x3 := .slice b1 (Fo.len tk) b3) (x4 := .bool tv'') (x5 := .int .i64 ti') (x6 := .slice e1 (Fo.len tk') e3) (by rw [← hwa]; exact Below.refl _ _)
      have hBa := below_step hBr hba
      have s0 := grow_cell hBa _ _ hHs.out
      have c0 := grow_cell hBa _ _ hHc.out
      obtain ⟨p0, p1, p2, ⟨u3, p3, hXA⟩, p4, p5, u6, p6, hXD⟩ := (HcF.out.below hBa).at (i := 0) (l := (xn, ((xv, xi), xk), ((xv', xi'), xk'))) rfl
      simp only [Nat.zero_mul, Nat.add_zero] at p0 p1 p2 p3 p4 p5 p6
      have HXA := hide hXA
      have HXD := hide hXD
      obtain ⟨xa, xc, _, _, rfl, -, -, -, -⟩ := hXA
      obtain ⟨xd, xe, _, _, rfl, -, -, -, -⟩ := hXD
      have HBa := hide hBa
      have Hx0 := hide (HX.out (xn, ((xv, xi), xk), ((xv', xi'), xk')) (by simp))
      have Hbc := hide (fun (w' : World) (hb : Below wa.heap.size wa w') => become_call (become_any (xn, ((xv, xi), xk), ((xv', xi'), xk')) (tn, ((tv', ti), tk), ((tv'', ti'), tk')) s _ xa xd b1 e1 xc xe b3 e3 w' (HV.out.below (below_step HBa.out hb)) HG.out (HXA.out.below hb) (HXD.out.below hb) (HSA.out.below (below_step HBa.out hb)) (HSD.out.below (below_step HBa.out hb)) Hx0.out Htg.out (by omega)))
      have hcur : Below wa.heap.size wa wa.drew := (Below.refl _ _).drew
      clear hwa hba hBa hBr hrun'
      go_region_held3 (fun w' => w'.cell? ⟨wr.heap.size, 0, none⟩ = some (.bool tn) ∧ w'.cell? ⟨wr.heap.size, 1, none⟩ = some (.bool tv') ∧ w'.cell? ⟨wr.heap.size, 2, none⟩ = some (.int .i64 ti) ∧ w'.cell? ⟨wr.heap.size, 3, none⟩ = some (.slice b1 (Fo.len tk) b3) ∧ w'.cell? ⟨wr.heap.size, 4, none⟩ = some (.bool tv'') ∧ w'.cell? ⟨wr.heap.size, 5, none⟩ = some (.int .i64 ti') ∧ w'.cell? ⟨wr.heap.size, 6, none⟩ = some (.slice e1 (Fo.len tk') e3) ∧ w'.cell? ⟨sb, 0, none⟩ = some (.slice v1 s.length v3) ∧ w'.cell? ⟨cb, 0, none⟩ = some (.slice (some ⟨kb, ko, none⟩) (c.length + 1) ck) ∧ w'.cell? ⟨kb, ko, none⟩ = some (.bool xn) ∧ w'.cell? ⟨kb, ko + 1, none⟩ = some (.bool xv) ∧ w'.cell? ⟨kb, ko + 2, none⟩ = some (.int .i64 xi) ∧ w'.cell? ⟨kb, ko + 3, none⟩ = some (.slice xa (Fo.len xk) xc) ∧ w'.cell? ⟨kb, ko + 4, none⟩ = some (.bool xv') ∧ w'.cell? ⟨kb, ko + 5, none⟩ = some (.int .i64 xi') ∧ w'.cell? ⟨kb, ko + 6, none⟩ = some (.slice xd (Fo.len xk') xe))
        (first
          | (with_reducible exact ⟨grow_cell hcur _ _ g0, grow_cell hcur _ _ g1, grow_cell hcur _ _ g2, grow_cell hcur _ _ g3, grow_cell hcur _ _ g4, grow_cell hcur _ _ g5, grow_cell hcur _ _ g6, grow_cell hcur _ _ s0, grow_cell hcur _ _ c0, grow_cell hcur _ _ p0, grow_cell hcur _ _ p1, grow_cell hcur _ _ p2, grow_cell hcur _ _ p3, grow_cell hcur _ _ p4, grow_cell hcur _ _ p5, grow_cell hcur _ _ p6⟩)
          | go_keep)
        (first
          | (go_at_call 38; with_reducible refine (Hbc.out _ hcur).mono ?_; rintro e w2 ⟨m1, m, m3, ok, rfl, hwn, hwy, hb2⟩; replace hcur := below_step hcur hb2))
      all_goals
        have HB2 := hide (below_step HBa.out hcur)
        have HBy := hide (hcur.size)
        cases ok
        · have Hn : Hid (oneD d c (xn, ((xv, xi), xk), ((xv', xi'), xk')) s (tn, ((tv', ti), tk), ((tv'', ti'), tk')) = false) := by
            rw [Hid, oneD, hwn rfl]
          have Hnn := hide (Hnx.out Hn.out)
          clear hwn hwy hcur hb2 g0 g1 g2 g3 g4 g5 g6 s0 c0 p0 p1 p2 p3 p4 p5 p6
          go_wp2_with fail
          go_quiet (fail)
          go_wp2_with fail
          go_roundw
          case rel => exact ⟨kk + 1, by omega, by go_num, Hnn.out, below_drewN HB2.out _⟩
          case measure => simp [intOf]; omega
        · obtain ⟨s', hws, rfl, hSs⟩ := hwy rfl
          obtain ⟨hgs, hls⟩ := way_ok Htg.out HG.out Hx0.out hws
          have Hcv : Hid (oneD d c (xn, ((xv, xi), xk), ((xv', xi'), xk')) s (tn, ((tv', ti), tk), ((tv'', ti'), tk')) = covD d c s') := by
            rw [Hid, oneD, hws]
          have Hcall := hide (fun (w' : World) (hb : Below w2.heap.size w2 w') => HIH.out c s' _ tv w' rfl (below_step Hb0.out (below_step HB2.out hb)) (hSs.below hb) (HT.out.below (below_step HB2.out hb)) hgs (by omega) (fun l hl => HX.out l (by simp [hl])))
          have q0 := grow_cell HB2.out _ _ (grow_cell Hb0.out _ _ hE.cr)
          have q1 := grow_cell HB2.out _ _ hHc.out
          have htl := Htail.out
          obtain ⟨V, hV⟩ : ∃ V, covD d c s' = V := ⟨_, rfl⟩
          rw [hV] at Hcv
          rw [hV] at Hcall
          clear hwn hwy hcur hb2 g0 g1 g2 g3 g4 g5 g6 s0 c0 p0 p1 p2 p3 p4 p5 p6 hSs hws hgs hls hV
          go_upto_region 5 with fail
          have hcur : Below w2.heap.size w2 w2.drew := (Below.refl _ _).drew
          go_region_held3 (fun w' => w'.cell? ⟨br, 0, none⟩ = some (.func (.func 34) #[] #[.pointer (some ⟨bd, 0, none⟩), .pointer (some ⟨br, 0, none⟩)]) ∧ w'.cell? ⟨cb, 0, none⟩ = some (.slice (some ⟨kb, ko, none⟩) (c.length + 1) ck))
            (first
              | (with_reducible exact ⟨grow_cell hcur _ _ q0, grow_cell hcur _ _ q1⟩)
              | go_keep)
            (first
              | (go_at_call 34; with_reducible refine (Hcall.out _ hcur).mono ?_; rintro e w3 ⟨rfl, hb3⟩; replace hcur := below_step hcur hb3))
          all_goals
            have HB3 := hide (below_step HB2.out hcur)
            clear hcur hb3 q0 q1 htl
            cases V
            · have Hnn := hide (Hnx.out Hcv.out)
              go_wp2_with fail
              go_roundw
              case rel => exact ⟨kk + 1, by omega, by go_num, Hnn.out, HB3.out⟩
              case measure => simp [intOf]; omega
            · have Hy1 := hide (Hyes.out Hcv.out)
              go_wp2_with fail
              go_ret
              exact ⟨by rw [Hy1.out]; rfl, HB3.out⟩
    · have hk2 : kk = 2 := by omega
      subst hk2
      have Hf : Hid (litD d c (xn, ((xv, xi), xk), ((xv', xi'), xk')) s (yn, ((yv, yi), yk), ((yv', yi'), yk')) = false) := by
        have h0 := Hno.out 0 (by omega)
        have h1 := Hno.out 1 (by omega)
        rw [Hid, Hly.out, show oneD d c (xn, ((xv, xi), xk), ((xv', xi'), xk')) s (yn, ((yv, yi), yk), ((yv', yi'), yk')) = false from h0, show oneD d c (xn, ((xv, xi), xk), ((xv', xi'), xk')) s (turnL true (yn, ((yv, yi), yk), ((yv', yi'), yk'))) = false from h1]
        rfl
      clear hBr
      go_wp2_with fail
      go_ret
      exact ⟨by rw [Hf.out]; rfl, HBr.out⟩
def LitCSaid (sb cb br : Nat) (H : Lt → Bool) (k : Cl) (w : World) : Prop := ∀ l ∈ k, ∀ (a d : Value) (w' : World), Below w.heap.size w w' → SIn w' l.2.1.2 a → SIn w' l.2.2.2 d →
    Calls Tryd.prog 36 #[litA l a d, .pointer (some ⟨sb, 0, none⟩), .pointer (some ⟨cb, 0, none⟩), .pointer (some ⟨br, 0, none⟩)] w' fun e w'' => e = .returned (.bool (H l)) ∧ Below w'.heap.size w' w''
set_option maxRecDepth 100000 in
set_option maxHeartbeats 2000000 in
theorem indexCov_any (sb cb br : Nat) (H : Lt → Bool) (k : Cl) (a : Value) (w : World) (hcl : LitCSaid sb cb br H k w) (hS : CIn w k a) :
    Calls Tryd.prog 52 #[a, .func (.func 36) #[] #[.pointer (some ⟨sb, 0, none⟩), .pointer (some ⟨cb, 0, none⟩), .pointer (some ⟨br, 0, none⟩)]] w fun e w' => ∃ i : Int, e = .returned (.int .i64 i) ∧ (decide (0 ≤ i)) = k.any H ∧ Below w.heap.size w w' := by
  obtain ⟨a1, c1, b1, o1, rfl, had1, hlc1, hcm1, hF1⟩ := hS
  unfold maxLen at hcm1
  have HF1 := hide hF1
  have Hcl := hide hcl
  clear hF1 hcl
  go_enter Tryd.func52, Tryd.ntmps52
  go_wp2_with fail
  go_loopw [8] (fun i wr => ∃ j : Nat, j ≤ k.length ∧ i = .int .i64 j ∧ (k.take j).any H = false ∧ Below w.heap.size w wr) (fun i _ => k.length - (intOf i).toNat)
  case atStart => exact ⟨0, Nat.zero_le _, rfl, rfl, Below.refl _ _⟩
  case round =>
    obtain ⟨j, hj, rfl, hok, hBr⟩ := hrel
    have Hok := hide hok
    clear hok
    by_cases hlt : j < k.length
    · have hlt' : (j : Int) < (k.length : Int) := by omega
      obtain ⟨⟨yn, ⟨⟨yv, yi⟩, yk⟩, ⟨yv', yi'⟩, yk'⟩, hy⟩ : ∃ y, k[j]? = some y := ⟨k[j]'hlt, by simp⟩
      obtain ⟨p0, p1, p2, ⟨u3, p3, hA⟩, p4, p5, u6, p6, hD⟩ := (HF1.out.below hBr).at hy
      have ha1 : a1 = some ⟨b1, o1, none⟩ := had1 (by omega)
      subst ha1
      have HA := hide hA
      have HD := hide hD
      obtain ⟨ya, yc, _, _, rfl, -, -, -, -⟩ := hA
      obtain ⟨za, zc, _, _, rfl, -, -, -, -⟩ := hD
      have Hy := hide hy
      have Hc := hide (Hcl.out _ (List.mem_of_getElem? hy) _ _ wr hBr HA.out HD.out)
      have Htk : Hid ((k.take (j + 1)).any H = ((k.take j).any H || H (yn, ((yv, yi), yk), ((yv', yi'), yk')))) := by rw [Hid, List.take_add_one, hy]; simp
      have Hfd : Hid (H (yn, ((yv, yi), yk), ((yv', yi'), yk')) = true → k.any H = true) := fun h => List.any_eq_true.2 ⟨_, List.mem_of_getElem? hy, h⟩
      simp only at Hc
      generalize H (yn, ((yv, yi), yk), ((yv', yi'), yk')) = V at Hc Htk Hfd
      clear hy had1
      simp only at *
      go_wp2_with fail
      refine Hc.out.mono ?_
      rintro e w2 ⟨rfl, hb2⟩
      have hB2 := below_step hBr hb2
      clear hb2
      cases V
      · go_wp2_with fail
        go_roundw
        case rel => exact ⟨j + 1, by omega, by go_num, by rw [Htk.out, Hok.out]; rfl, hB2⟩
        case measure => simp [intOf]; omega
      · have Hk := hide (Hfd.out rfl)
        clear Hfd Htk
        go_wp2_with fail
        go_ret
        exact ⟨j, rfl, by rw [Hk.out]; simp, hB2⟩
    · have Hf : Hid (k.any H = false) := by
        have e : j = k.length := by omega
        have := Hok.out
        rw [e, List.take_length] at this
        exact this
      clear had1
      go_wp2_with fail
      go_ret
      exact ⟨-1, rfl, by rw [Hf.out]; rfl, hBr⟩
set_option maxRecDepth 100000 in
set_option maxHeartbeats 2000000 in
theorem containsCov_any (sb cb br : Nat) (H : Lt → Bool) (k : Cl) (a : Value) (w : World) (hcl : LitCSaid sb cb br H k w) (hS : CIn w k a) :
    Calls Tryd.prog 35 #[a, .func (.func 36) #[] #[.pointer (some ⟨sb, 0, none⟩), .pointer (some ⟨cb, 0, none⟩), .pointer (some ⟨br, 0, none⟩)]] w fun e w' => e = .returned (.bool (k.any H)) ∧ Below w.heap.size w w' := by
  have HS := hide hS
  have Hcl := hide hcl
  obtain ⟨a1, c1, b1, o1, rfl, -, -, -, -⟩ := hS
  clear hcl
  go_enter Tryd.func35, Tryd.ntmps35
  go_wp2_with fail
  refine (indexCov_any sb cb br H k _ _ Hcl.out HS.out).mono ?_
  rintro e w2 ⟨i, rfl, hi, hb2⟩
  have Hi := hide hi
  clear hi
  go_wp2_with fail
  go_ret
  exact ⟨by rw [← Hi.out]; rfl, hb2⟩
set_option maxRecDepth 100000 in
set_option maxHeartbeats 4000000 in
theorem covRest_any {W0 : World} {bd br : Nat} {d : Cl} {dv : Value} (hE : CovEnv W0 bd br d dv) : ∀ n, RestSaid W0 bd br d n := by
  intro n
  induction n with
  | zero =>
    intro c s vs cv w hn hb hV hC hg hlen hx
    have hc : c = [] := List.length_eq_zero_iff.1 hn
    subst hc
    obtain ⟨v1, v3, rfl⟩ := slice_of_sub hV
    obtain ⟨c1, c3, rfl⟩ := slice_of_cl hC
    simp only [List.length_nil]
    clear hV hC hx
    go_enter Tryd.func34, Tryd.ntmps34
    go_wp2_with fail
    go_ret
    exact ⟨rfl, below_step (below_alloc _ _) (below_alloc _ _)⟩
  | succ n ih =>
    intro c s vs cv w hn hb hV hC hg hlen hx
    obtain ⟨x, c', rfl⟩ := List.exists_cons_of_length_pos (l := c) (by omega)
    obtain rfl : n = c'.length := by simpa using hn.symm
    clear hn
    have HV := hide hV
    have HC := hide hC
    have HG := hide hg
    have HX := hide hx
    have Hih := hide ih
    have Hb := hide hb
    obtain ⟨v1, v3, rfl⟩ := slice_of_sub hV
    obtain ⟨c1, c3, hcv⟩ := slice_of_cl hC
    simp only [List.length_cons] at hcv
    subst hcv
    have hne : (((c'.length : Nat) : Int) + 1 == 0) = false := by simp; omega
    have Hcv : Hid (covD d (x :: c') s = d.any (litD d c' x s)) := covD_cons
    clear hV hC hg hx ih hb
    go_enter Tryd.func34, Tryd.ntmps34
    go_upto_region 1 with fail
    generalize hW1 : (w.alloc (.cells #[.slice v1 s.length v3] 68)).alloc (.cells #[.slice c1 (c'.length + 1) c3] 25) = W1
    have hB1 : Below w.heap.size w W1 := by rw [← hW1]; exact (below_alloc _ _).alloc (by simp) _
    have s0 : W1.cell? ⟨w.heap.size, 0, none⟩ = some (.slice v1 s.length v3) := by rw [← hW1, World.cell?_alloc_lt _ _ _ (by simp)]; exact new_cell rfl
    have c0 : W1.cell? ⟨w.heap.size + 1, 0, none⟩ = some (.slice c1 (c'.length + 1) c3) := by rw [← hW1]; exact new_cell (World.size_alloc _ _)
    have hB0 := below_step Hb.out hB1
    have d0 := grow_cell hB0 _ _ hE.cd
    have HDin := hide (hE.din.below hB0)
    have Hct := hide (containsCov_any w.heap.size (w.heap.size + 1) br (litD d c' x s) d dv W1 (fun y hy a b w' hb' hA hB => covLit_any hE x c' Hih.out s _ _ w.heap.size (w.heap.size + 1) y a b w' (below_step hB0 hb') (grow_cell hb' _ _ s0) (grow_cell hb' _ _ c0) (HV.out.below (below_step hB1 hb')) (HC.out.below (below_step hB1 hb')) HG.out (by omega) HX.out (hE.gd y hy) hA hB) HDin.out)
    have HB1 := hide hB1
    obtain ⟨d1, d3, hdv⟩ := slice_of_cl HDin.out
    subst hdv
    clear hW1 hB1 hB0
    go_wp2_with fail
    refine Hct.out.mono ?_
    rintro e w2 ⟨rfl, hb2⟩
    have HB2 := hide (below_step HB1.out hb2)
    clear hb2 s0 c0 d0
    go_wp2_with fail
    go_ret
    exact ⟨by rw [Hcv.out]; rfl, HB2.out⟩
set_option maxRecDepth 100000 in
set_option maxHeartbeats 4000000 in
theorem coversP_any (c d : Cl) (cv dv : Value) (w : World) (hC : CIn w c cv) (hD : CIn w d dv) (h4 : c.length ≤ 4) (hc : ∀ l ∈ c, tszR l.2.1.2 ≤ 12 ∧ tszR l.2.2.2 ≤ 12) (hd : ∀ l ∈ d, Gd l.2.1 ∧ Gd l.2.2) :
    Calls Tryd.prog 18 #[cv, dv] w fun e w' => e = .returned (.bool (covT c d)) ∧ Below w.heap.size w w' := by
  have HC := hide hC
  have HD := hide hD
  have Hc := hide hc
  have Hd := hide hd
  obtain ⟨c1, c3, rfl⟩ := slice_of_cl hC
  obtain ⟨d1, d3, rfl⟩ := slice_of_cl hD
  clear hC hD hc hd
  go_enter Tryd.func18, Tryd.ntmps18
  go_wp2_with fail
  generalize hW2 : (w.alloc (.cells #[.slice d1 d.length d3] 25)).alloc (.cells #[.func (.func 34) #[] #[.pointer (some ⟨w.heap.size, 0, none⟩), .pointer (some ⟨w.heap.size + 1, 0, none⟩)]] 66) = W2
  have hB2 : Below w.heap.size w W2 := by rw [← hW2]; exact (below_alloc _ _).alloc (by simp) _
  have e0 : W2.cell? ⟨w.heap.size, 0, none⟩ = some (.slice d1 d.length d3) := by rw [← hW2, World.cell?_alloc_lt _ _ _ (by simp)]; exact new_cell rfl
  have e1 : W2.cell? ⟨w.heap.size + 1, 0, none⟩ = some (.func (.func 34) #[] #[.pointer (some ⟨w.heap.size, 0, none⟩), .pointer (some ⟨w.heap.size + 1, 0, none⟩)]) := by rw [← hW2]; exact new_cell (World.size_alloc _ _)
  have hE : CovEnv W2 w.heap.size (w.heap.size + 1) d (.slice d1 d.length d3) := ⟨e0, e1, HD.out.below hB2, Hd.out⟩
  clear hW2
  refine (covRest_any hE c.length c [] _ _ W2 rfl (Below.refl _ _) (SubIn.nil _) (HC.out.below hB2) (fun p hp => by cases hp) (by simp; omega) Hc.out).mono ?_
  rintro e w3 ⟨rfl, hb3⟩
  have HB3 := hide (below_step hB2 hb3)
  clear hb3 hB2 e0 e1 hE
  go_wp2_with fail
  go_ret
  exact ⟨by rw [covT_is]; rfl, HB3.out⟩
end Go.Proofs.YtlgnpiphaeoeiadDoor

namespace Go.Proofs.YtlgnpiphaeoeiadDoor
open Go.RowKit Go.Deep Go.ChangeShapes Go.WideShapes
attribute [local go_sem ↓] Go.wp_at_zero Go.wp_at_succ
def TbIn (w : World) (Z : List (List Int)) (v : Value) : Prop :=
  ∃ (a : Option Addr) (c b o : Nat), v = .slice a Z.length c ∧ (0 < Z.length → a = some ⟨b, o, none⟩) ∧ Z.length ≤ c ∧ c ≤ maxLen ∧ ∀ i, i < Z.length → ∃ pv, w.cell? ⟨b, o + i, none⟩ = some pv ∧ NIn w (Z.getD i []) pv
theorem TbIn.below {w w' : World} (hb : Below w.heap.size w w') {Z : List (List Int)} {v : Value} (h : TbIn w Z v) : TbIn w' Z v := by
  obtain ⟨a, c, b, o, h1, h2, h3, h4, h5⟩ := h
  refine ⟨a, c, b, o, h1, h2, h3, h4, fun i hi => ?_⟩
  obtain ⟨pv, k1, k2⟩ := h5 i hi
  exact ⟨pv, grow_cell hb _ _ k1, k2.below hb⟩
theorem tb_slice {w : World} {Z : List (List Int)} {v : Value} (h : TbIn w Z v) : ∃ z1 z3, v = .slice z1 Z.length z3 := by
  obtain ⟨a, k, _, _, rfl, _⟩ := h
  exact ⟨a, k, rfl⟩
def vTo (z : Int) (tb : List (List Int)) (e : Int → Int) (k : Fo) (j : Nat) : Int := (k.list.take j).foldl (fun a t => z * a + valT z tb e t) 0
theorem valF_list (z : Int) (tb : List (List Int)) (e : Int → Int) : ∀ (F : Fo) (a : Int), valF z tb e F a = F.list.foldl (fun a t => z * a + valT z tb e t) a
  | .nil, _ => rfl
  | .node _ _ x k r, a => by rw [valF_node, valF_list z tb e r]; rfl
theorem vTo_succ {z : Int} {tb : List (List Int)} {e : Int → Int} {k : Fo} {j : Nat} {t : Tm} (h : k.list[j]? = some t) : vTo z tb e k (j + 1) = z * vTo z tb e k j + valT z tb e t := by
  unfold vTo; rw [List.take_add_one, h]; simp [List.foldl_append]
theorem vTo_end (z : Int) (tb : List (List Int)) (e : Int → Int) (k : Fo) : vTo z tb e k (Fo.len k) = valF z tb e k 0 := by
  unfold vTo; rw [← Fo.len_list, List.take_length, valF_list]
theorem vTo_range {z : Int} {tb : List (List Int)} {e : Int → Int} {k : Fo} (hz : 1 ≤ z) (h : ∀ t ∈ k.list, 0 ≤ valT z tb e t ∧ valT z tb e t < z) : ∀ j, j ≤ Fo.len k → 0 ≤ vTo z tb e k j ∧ vTo z tb e k j < pw z j
  | 0, _ => by simp [vTo, pw]
  | j + 1, hj => by
    have ih := vTo_range hz h j (by omega)
    have hl : j < k.list.length := by rw [Fo.len_list]; omega
    have hy : k.list[j]? = some k.list[j] := List.getElem?_eq_getElem hl
    have hv := h _ (List.getElem_mem hl)
    rw [vTo_succ hy, pw]
    exact digit_next hz ih.1 ih.2 hv.1 hv.2
theorem pw_small {z : Int} (h1 : 1 ≤ z) (h8 : z ≤ 8) {j : Nat} (hj : j ≤ 2) : pw z j ≤ 64 := by
  rcases (by omega : j = 0 ∨ j = 1 ∨ j = 2) with rfl | rfl | rfl
  · simp [pw]
  · simp [pw]; omega
  · have := Int.mul_le_mul h8 h8 (by omega) (by omega)
    simp [pw]; omega
theorem env_ok {z : Int} {L : List Int} (hz : 1 ≤ z) (hr : ∀ x ∈ L, 0 ≤ x ∧ x < z) (v : Int) : 0 ≤ envOf L v ∧ envOf L v < z := by
  unfold envOf
  rw [List.getD_eq_getElem?_getD]
  cases h : L[v.toNat]? with
  | none => simp; omega
  | some x => simpa using hr x (List.mem_of_getElem? h)
def ValRSaid (s : List Int) (z : Int) (tb : List (List Int)) (L : List Int) (x : Bool × Int) (k : Fo) : Prop := ∀ (mv ev a : Value) (w : World), TbIn w tb mv → NIn w L ev → SIn w k a → sigT s (x, k) →
    Calls Tryd.prog 51 #[.agg #[.int .i64 z, mv], ev, .agg #[.bool x.1, .int .i64 x.2, a]] w fun e w' => e = .returned (.int .i64 (valT z tb (envOf L) (x, k))) ∧ Below w.heap.size w w'
set_option maxRecDepth 100000 in
set_option maxHeartbeats 2000000 in
theorem valueR_any {s L : List Int} {z : Int} {tb : List (List Int)} (hm : MR s z tb) (hs : s.all okNum = true) (hL : L.length = 5) (hr : ∀ x ∈ L, 0 ≤ x ∧ x < z) (x : Bool × Int) (k : Fo) : ValRSaid s z tb L x k := by
  refine Fo.ind1 (p := ValRSaid s z tb L) ?_ x k
  clear x k
  intro x k ih mv ev a w hT hE hS hw
  obtain ⟨xv, n⟩ := x
  have HI := hide ih
  have Hm := hide hm
  have Hs := hide hs
  have z1 := hm.z1
  have z8 := hm.z8
  have Hev : Hid (∀ v, 0 ≤ v → v ≤ 4 → 0 ≤ envOf L v ∧ envOf L v < z) := fun v _ _ => env_ok hm.z1 hr v
  have HT := hide hT
  have HE := hide hE
  have Hl := hide (Fo.len_list k)
  obtain ⟨ta, tc, tk, tq, rfl, -, -, -, -⟩ := hT
  obtain ⟨ea, ec, eb, eo, rfl, head, helc, hecm, hEF⟩ := hE
  obtain ⟨ad, c, b, o, rfl, had, hlc, hcm, hF⟩ := hS
  unfold maxLen at hcm hecm
  have hal : aloneF s (xv, n) (Fo.len k) = 0 := hw.1
  have hwk : sigF s k := hw.2
  have Hal := hide hal
  have Hwk := hide hwk
  have Hw := hide hw
  have HF := hide hF
  have HEF := hide hEF
  have HL := hide hL
  have Hhead := hide head
  clear ih hm hs hr hal hwk hw hF hEF hL head
  go_enter Tryd.func51, Tryd.ntmps51
  go_upto_region 1 with fail
  generalize hW1 : (w.alloc (.cells #[.int .i64 z, .slice ta tb.length tc] 29)).alloc (.cells #[.bool xv, .int .i64 n, .slice ad (Fo.len k) c] 37) = W1
  have hB1 : Below w.heap.size w W1 := by rw [← hW1]; exact (below_alloc _ _).alloc (by simp) _
  have m0 : W1.cell? ⟨w.heap.size, 0, none⟩ = some (.int .i64 z) := by rw [← hW1, World.cell?_alloc_lt _ _ _ (by simp)]; exact new_cell rfl
  have m1 : W1.cell? ⟨w.heap.size, 1, none⟩ = some (.slice ta tb.length tc) := by rw [← hW1, World.cell?_alloc_lt _ _ _ (by simp)]; exact new_cell rfl
  have q0 : W1.cell? ⟨w.heap.size + 1, 0, none⟩ = some (.bool xv) := by rw [← hW1]; exact new_cell (World.size_alloc _ _)
  have q1 : W1.cell? ⟨w.heap.size + 1, 1, none⟩ = some (.int .i64 n) := by rw [← hW1]; exact new_cell (World.size_alloc _ _)
  have q2 : W1.cell? ⟨w.heap.size + 1, 2, none⟩ = some (.slice ad (Fo.len k) c) := by rw [← hW1]; exact new_cell (World.size_alloc _ _)
  clear hW1
  cases xv
  · obtain ⟨n0, n1, v0, v1, l2⟩ := val_args Hm.out Hs.out Hev.out Hw.out
    have Hv0 := hide v0
    have Hv1 := hide v1
    have Hvs : Hid (∀ t ∈ k.list, 0 ≤ valT z tb (envOf L) t ∧ valT z tb (envOf L) t < z) := fun t ht => val_rangeT Hm.out Hs.out Hev.out (sig_mem Hwk.out t ht)
    have Hvt : Hid (∀ j, j ≤ Fo.len k → 0 ≤ vTo z tb (envOf L) k j ∧ vTo z tb (envOf L) k j ≤ 64) := fun j hj => by
      have h1 := vTo_range z1 Hvs.out j hj
      have h2 := pw_small z1 z8 (j := j) (by omega)
      exact ⟨h1.1, by omega⟩
    clear v0 v1
    go_wp2_with fail
    go_loopw [7, 20] (fun s i wr => ∃ j : Nat, j ≤ Fo.len k ∧ i = .int .i64 j ∧ s = .int .i64 (vTo z tb (envOf L) k j) ∧ Below W1.heap.size W1 wr) (fun _ i _ => Fo.len k - (intOf i).toNat)
    case atStart => exact ⟨0, Nat.zero_le _, rfl, rfl, Below.refl _ _⟩
    case round =>
      obtain ⟨j, hj, rfl, rfl, hBx⟩ := hrel
      have hBr := below_step hB1 hBx
      have m0' := grow_cell hBx _ _ m0
      have m1' := grow_cell hBx _ _ m1
      have q1' := grow_cell hBx _ _ q1
      by_cases hlt : j < Fo.len k
      · have hlt' : (j : Int) < (Fo.len k : Int) := by omega
        obtain ⟨⟨⟨yv, yn⟩, yk⟩, hy⟩ : ∃ y, k.list[j]? = some y := ⟨k.list[j]'(by rw [Hl.out]; exact hlt), by simp⟩
        obtain ⟨c0, c1, yv', c2, hSy⟩ := (HF.out.below hBr).at hy
        have ha : ad = some ⟨b, o, none⟩ := had (by omega)
        subst ha
        have HS := hide hSy
        obtain ⟨ya, yc, yb, yo, rfl, -, -, -, -⟩ := hSy
        have hmem := List.mem_of_getElem? hy
        have hvy := Hvs.out _ hmem
        have hvj := Hvt.out j hj
        have Hst := hide (vTo_succ (z := z) (tb := tb) (e := envOf L) hy)
        have Hc := hide (fun (w' : World) (hb : Below wr.heap.size wr w') => HI.out ((yv, yn), yk) hmem (.slice ta tb.length tc) (.slice ea L.length ec) (.slice ya (Fo.len yk) yc) w' (HT.out.below (below_step hBr hb)) (HE.out.below (below_step hBr hb)) (HS.out.below hb) (sig_mem Hwk.out _ hmem))
        simp only at Hc
        generalize valT z tb (envOf L) ((yv, yn), yk) = V at hvy Hst Hc
        generalize vTo z tb (envOf L) k j = Aj at hvj Hst
        have hp0 : 0 ≤ z * Aj := Int.mul_nonneg (by omega) hvj.1
        have hp1 : z * Aj ≤ 8 * 64 := Int.mul_le_mul z8 hvj.2 hvj.1 (by omega)
        obtain ⟨hv1, hv2⟩ := hvy
        obtain ⟨hv3, hv4⟩ := hvj
        have Hwr : Hid (IntKind.i64.wrap (IntKind.i64.wrap (z * Aj) + V) = z * Aj + V) := by
          have e1 : IntKind.i64.wrap (z * Aj) = z * Aj := by rw [IntKind.wrap_i64]; omega
          rw [Hid, e1, IntKind.wrap_i64]
          omega
        clear hy had hmem
        go_upto_region 7 with fail
        generalize hwa : wr.alloc (.cells #[.bool yv, .int .i64 yn, .slice ya (Fo.len yk) yc] 37) = wa
        have hba : Below wr.heap.size wr wa := by rw [← hwa]; exact below_alloc _ _
        have g0 : wa.cell? ⟨wr.heap.size, 0, none⟩ = some (.bool yv) := by rw [← hwa]; exact new_cell rfl
        have g1 : wa.cell? ⟨wr.heap.size, 1, none⟩ = some (.int .i64 yn) := by rw [← hwa]; exact new_cell rfl
        have g2 : wa.cell? ⟨wr.heap.size, 2, none⟩ = some (.slice ya (Fo.len yk) yc) := by rw [← hwa]; exact new_cell rfl
        have m0'' := grow_cell hba _ _ m0'
        have m1'' := grow_cell hba _ _ m1'
        have hcur : Below wa.heap.size wa wa.drew := (Below.refl _ _).drew
        clear hwa c0 c1 c2 m0 m1 m0' m1' q1 q2 q1'
        go_region_held3 (fun w' => w'.cell? ⟨wr.heap.size, 0, none⟩ = some (.bool yv) ∧ w'.cell? ⟨wr.heap.size, 1, none⟩ = some (.int .i64 yn) ∧ w'.cell? ⟨wr.heap.size, 2, none⟩ = some (.slice ya (Fo.len yk) yc) ∧ w'.cell? ⟨w.heap.size, 0, none⟩ = some (.int .i64 z) ∧ w'.cell? ⟨w.heap.size, 1, none⟩ = some (.slice ta tb.length tc))
          (first
            | (with_reducible exact ⟨grow_cell hcur _ _ g0, grow_cell hcur _ _ g1, grow_cell hcur _ _ g2, grow_cell hcur _ _ m0'', grow_cell hcur _ _ m1''⟩)
            | go_keep)
          (first
            | (go_at_call 51; with_reducible refine (Hc.out _ (below_step hba hcur)).mono ?_; rintro e wS ⟨rfl, hbS⟩; replace hcur := below_step hcur hbS))
        all_goals
          have Hend := hide (below_step hBx (below_step hba hcur))
          clear hcur hbS
          go_wp2_with fail
          go_roundw
          case rel => exact ⟨j + 1, by omega, by go_num, by rw [Hst.out, Hwr.out], Hend.out⟩
          case measure => simp [intOf]; omega
      · have hje : j = Fo.len k := by omega
        subst hje
        have Hval : Hid (valT z tb (envOf L) ((false, n), k) = (tb.getD n.toNat []).getD (valF z tb (envOf L) k 0).toNat 0) := rfl
        have Hve := hide (vTo_end z tb (envOf L) k)
        rw [Hve.out]
        obtain ⟨m, rfl⟩ : ∃ m : Nat, n = m := ⟨n.toNat, by omega⟩
        have hml : m < tb.length := by have := Hm.out.len; omega
        obtain ⟨ta', tc', tk', tq', he1, htad, htlc, htcm, hTF⟩ := HT.out.below hBr
        simp only [Value.slice.injEq, true_and] at he1
        obtain ⟨rfl, rfl⟩ := he1
        obtain ⟨pv, p1, hP⟩ := hTF m hml
        have hta : ta = some ⟨tk', tq', none⟩ := htad (by omega)
        subst hta
        have Hv0' := Hv0.out
        have Hv1' := Hv1.out
        rw [Int.toNat_natCast] at Hv1'
        rw [Int.toNat_natCast] at Hval
        generalize tb.getD m [] = row at Hval hP Hv1'
        generalize valF z tb (envOf L) k 0 = vq at Hval Hv0' Hv1'
        obtain ⟨q, rfl⟩ : ∃ q : Nat, vq = q := ⟨vq.toNat, by omega⟩
        rw [Int.toNat_natCast] at Hval
        obtain ⟨ra, rc, rb, ro, rfl, hrad, hrlc, hrcm, hRF⟩ := hP
        have hq : q < row.length := by omega
        have p2 := hRF q hq
        have hra : ra = some ⟨rb, ro, none⟩ := hrad (by omega)
        subst hra
        unfold maxLen at htcm hrcm
        generalize row.getD q 0 = V at p2 Hval
        have hm' : (m : Int) < (tb.length : Int) := by omega
        have hq' : (q : Int) < (row.length : Int) := by omega
        clear hTF hRF htad hrad had m0 m1 q1 m0' q2
        go_wp2_with fail
        go_ret
        exact ⟨by rw [Hval.out]; rfl, hBr⟩
  · obtain ⟨rfl, n0, n4⟩ := alone_var Hal.out
    obtain ⟨m, rfl⟩ : ∃ m : Nat, n = m := ⟨n.toNat, by omega⟩
    have hc := grow_cell hB1 _ _ (HEF.out m (by have := HL.out; omega))
    have Hval : Hid (valT z tb (envOf L) ((true, (m : Int)), .nil) = L.getD m 0) := by
      show envOf L m = _
      unfold envOf
      rw [Int.toNat_natCast]
    have hea : ea = some ⟨eb, eo, none⟩ := Hhead.out (by have := HL.out; omega)
    subst hea
    generalize L.getD m 0 = V at hc Hval
    have hm' : (m : Int) < (L.length : Int) := by have := HL.out; omega
    clear m0 m1 q2
    go_wp2_with fail
    go_ret
    exact ⟨by rw [Hval.out]; rfl, hB1⟩
end Go.Proofs.YtlgnpiphaeoeiadDoor

namespace Go.Proofs.YtlgnpiphaeoeiadDoor
open Go.RowKit Go.Deep Go.ChangeShapes Go.WideShapes
attribute [local go_sem ↓] Go.wp_at_zero Go.wp_at_succ
theorem wf_walk {s : List Int} {x : Bool × Int} {k : Fo} (h : wrongF s x k = 0) : walkT s x k 1 = 0 := by
  unfold wrongF at h
  by_cases e : walkT s x k 1 = 0
  · exact e
  · rw [if_pos e] at h; exact absurd h e
theorem sig_right {s : List Int} {t : Tm} (h : wrongF s t.1 t.2 = 0) : sigT s t := sig_walk (wf_walk h)
theorem sigC_right {s : List Int} {c : Cl} (h : wrongC s c = 0) : ∀ l ∈ c, sigT s l.2.1 ∧ sigT s l.2.2 := fun l hl => ⟨sig_right ((wrongC_iff.1 h).2 l hl).1, sig_right ((wrongC_iff.1 h).2 l hl).2⟩
theorem some_take {z : Int} {tb : List (List Int)} {e : Int → Int} {k : Cl} {j : Nat} {l : Lt} (h : k[j]? = some l) : someH z tb e (k.take (j + 1)) = (someH z tb e (k.take j) || litH z tb e l) := by
  unfold someH; rw [List.take_add_one, h]; simp
theorem some_found {z : Int} {tb : List (List Int)} {e : Int → Int} {k : Cl} {j : Nat} {l : Lt} (h : k[j]? = some l) (hl : litH z tb e l = true) : someH z tb e k = true := by
  unfold someH; rw [List.any_eq_true]; exact ⟨l, List.mem_of_getElem? h, hl⟩
set_option maxRecDepth 100000 in
set_option maxHeartbeats 2000000 in
theorem someR_any {s L : List Int} {z : Int} {tb : List (List Int)} (hm : MR s z tb) (hs : s.all okNum = true) (hL : L.length = 5) (hr : ∀ x ∈ L, 0 ≤ x ∧ x < z) (k : Cl) (mv ev a : Value) (w : World) (hT : TbIn w tb mv) (hE : NIn w L ev) (hS : CIn w k a)
    (hw : ∀ l ∈ k, sigT s l.2.1 ∧ sigT s l.2.2) :
    Calls Tryd.prog 32 #[.agg #[.int .i64 z, mv], ev, a] w fun e w' => e = .returned (.bool (someH z tb (envOf L) k)) ∧ Below w.heap.size w w' := by
  have HT := hide hT
  have HE := hide hE
  have Hw := hide hw
  have Hval := hide (fun x k => valueR_any hm hs hL hr x k)
  obtain ⟨ta, tc, rfl⟩ := tb_slice hT
  obtain ⟨ea, ec, _, _, rfl, -, -, -, -⟩ := hE
  obtain ⟨a1, c1, b1, o1, rfl, had1, hlc1, hcm1, hF1⟩ := hS
  unfold maxLen at hcm1
  have HF1 := hide hF1
  clear hm hs hL hr hT hw hF1
  go_enter Tryd.func32, Tryd.ntmps32
  go_upto_region 1 with fail
  generalize hW1 : w.alloc (.cells #[.int .i64 z, .slice ta tb.length tc] 29) = W1
  have hB1 : Below w.heap.size w W1 := by rw [← hW1]; exact below_alloc _ _
  have m0 : W1.cell? ⟨w.heap.size, 0, none⟩ = some (.int .i64 z) := by rw [← hW1]; exact new_cell rfl
  have m1 : W1.cell? ⟨w.heap.size, 1, none⟩ = some (.slice ta tb.length tc) := by rw [← hW1]; exact new_cell rfl
  clear hW1
  go_wp2_with fail
  go_loopw [11] (fun i wr => ∃ j : Nat, j ≤ k.length ∧ i = .int .i64 j ∧ someH z tb (envOf L) (k.take j) = false ∧ Below W1.heap.size W1 wr) (fun i _ => k.length - (intOf i).toNat)
  case atStart => exact ⟨0, Nat.zero_le _, rfl, rfl, Below.refl _ _⟩
  case round =>
    obtain ⟨j, hj, rfl, hno, hBx⟩ := hrel
    have Hno := hide hno
    clear hno
    have hBr := below_step hB1 hBx
    replace m0 := grow_cell hBx _ _ m0
    replace m1 := grow_cell hBx _ _ m1
    by_cases hlt : j < k.length
    · have hlt' : (j : Int) < (k.length : Int) := by omega
      obtain ⟨⟨yn, ⟨⟨yv, yi⟩, yk⟩, ⟨yv', yi'⟩, yk'⟩, hy⟩ : ∃ y, k[j]? = some y := ⟨k[j]'hlt, by simp⟩
      obtain ⟨p0, p1, p2, ⟨u3, p3, hA⟩, p4, p5, u6, p6, hD⟩ := (HF1.out.below hBr).at hy
      have ha1 : a1 = some ⟨b1, o1, none⟩ := had1 (by omega)
      subst ha1
      have HA := hide hA
      have HD := hide hD
      obtain ⟨ya, yc, _, _, rfl, -, -, -, -⟩ := hA
      obtain ⟨za, zc, _, _, rfl, -, -, -, -⟩ := hD
      have hwy := Hw.out _ (List.mem_of_getElem? hy)
      have Hc1 := hide (fun (w' : World) (hb : Below wr.heap.size wr w') => Hval.out (yv, yi) yk (.slice ta tb.length tc) (.slice ea L.length ec) (.slice ya (Fo.len yk) yc) w' (HT.out.below (below_step hBr hb)) (HE.out.below (below_step hBr hb)) (HA.out.below hb) hwy.1)
      have Hc2 := hide (fun (w' : World) (hb : Below wr.heap.size wr w') => Hval.out (yv', yi') yk' (.slice ta tb.length tc) (.slice ea L.length ec) (.slice za (Fo.len yk') zc) w' (HT.out.below (below_step hBr hb)) (HE.out.below (below_step hBr hb)) (HD.out.below hb) hwy.2)
      have Htk := hide (some_take (z := z) (tb := tb) (e := envOf L) hy)
      have Hfd := hide (fun h => some_found (z := z) (tb := tb) (e := envOf L) hy h)
      have Hlt : Hid (litH z tb (envOf L) (yn, ((yv, yi), yk), ((yv', yi'), yk')) = (yn != (valT z tb (envOf L) ((yv, yi), yk) == valT z tb (envOf L) ((yv', yi'), yk')))) := rfl
      simp only at Hc1 Hc2
      generalize valT z tb (envOf L) ((yv, yi), yk) = V1 at Hc1 Hlt
      generalize valT z tb (envOf L) ((yv', yi'), yk') = V2 at Hc2 Hlt
      clear hy had1 hwy
      simp only at *
      go_upto_region 4 with fail
      generalize hwa : wr.alloc (.cells #[.bool yn, .bool yv, .int .i64 yi, .slice ya (Fo.len yk) yc, .bool yv', .int .i64 yi', .slice za (Fo.len yk') zc] 39) = wa
      obtain ⟨g0, g1, g2, g3, g4, g5, g6, -, hba, hsa⟩ := lit_cells (T := 39) (x0 := .bool yn) (w := wr) (wr := wa) (x1 := .bool yv) (x2 := .int .i64 yi) (x3 := .slice ya (Fo.len yk) yc) (x4 := .bool yv') (x5 := .int .i64 yi') (x6 := .slice za (Fo.len yk') zc) (by rw [← hwa]; exact Below.refl _ _)
      replace m0 := grow_cell hba _ _ m0
      replace m1 := grow_cell hba _ _ m1
      have hcur : Below wa.heap.size wa wa.drew := (Below.refl _ _).drew
      obtain ⟨V, hV⟩ : ∃ V, (!(yn == (V1 == V2))) = V := ⟨_, rfl⟩
      have HV := hide hV
      clear hwa hV p0 p1 p2 p3 p4 p5 p6
      go_region_held3 (fun w' => w'.cell? ⟨wr.heap.size, 0, none⟩ = some (.bool yn) ∧ w'.cell? ⟨wr.heap.size, 1, none⟩ = some (.bool yv) ∧ w'.cell? ⟨wr.heap.size, 2, none⟩ = some (.int .i64 yi) ∧ w'.cell? ⟨wr.heap.size, 3, none⟩ = some (.slice ya (Fo.len yk) yc) ∧ w'.cell? ⟨wr.heap.size, 4, none⟩ = some (.bool yv') ∧ w'.cell? ⟨wr.heap.size, 5, none⟩ = some (.int .i64 yi') ∧ w'.cell? ⟨wr.heap.size, 6, none⟩ = some (.slice za (Fo.len yk') zc) ∧ w'.cell? ⟨w.heap.size, 0, none⟩ = some (.int .i64 z) ∧ w'.cell? ⟨w.heap.size, 1, none⟩ = some (.slice ta tb.length tc))
        (first
          | (with_reducible exact ⟨grow_cell hcur _ _ g0, grow_cell hcur _ _ g1, grow_cell hcur _ _ g2, grow_cell hcur _ _ g3, grow_cell hcur _ _ g4, grow_cell hcur _ _ g5, grow_cell hcur _ _ g6, grow_cell hcur _ _ m0, grow_cell hcur _ _ m1⟩)
          | go_keep)
        (first
          | (go_at_call 51; with_reducible refine (Hc1.out _ (below_step hba hcur)).mono ?_; rintro e wS ⟨rfl, hbS⟩; replace hcur := below_step hcur hbS)
          | (go_at_call 51; with_reducible refine (Hc2.out _ (below_step hba hcur)).mono ?_; rintro e wU ⟨rfl, hbU⟩; replace hcur := below_step hcur hbU))
      all_goals
        have Hend := hide (below_step hBx (below_step hba hcur))
        clear hcur hbS hbU
        rw [HV.out]
        cases V
        · go_wp2_with fail
          go_roundw
          case rel => exact ⟨j + 1, by omega, by go_num, by rw [Htk.out, Hno.out, Hlt.out]; exact HV.out, Hend.out⟩
          case measure => simp [intOf]; omega
        · go_wp2_with fail
          go_ret
          exact ⟨by rw [Hfd.out (Hlt.out.trans HV.out)]; rfl, below_step hB1 Hend.out⟩
    · have Hfin : Hid (someH z tb (envOf L) k = false) := by
        have e : j = k.length := by omega
        have := Hno.out
        rw [e, List.take_length] at this
        exact this
      clear had1
      go_wp2_with fail
      go_ret
      exact ⟨by rw [Hfin.out]; rfl, hBr⟩
end Go.Proofs.YtlgnpiphaeoeiadDoor

namespace Go.Proofs.YtlgnpiphaeoeiadDoor
open Go.RowKit Go.Deep Go.ChangeShapes Go.WideShapes
theorem sym_right {s : List Int} {d : Cl} (h : wrongC s d = 0) : ∀ l ∈ d, symT s l.2.1 ∧ symT s l.2.2 := fun l hl => ⟨sym_sig (sigC_right h l hl).1, sym_sig (sigC_right h l hl).2⟩
end Go.Proofs.YtlgnpiphaeoeiadDoor
