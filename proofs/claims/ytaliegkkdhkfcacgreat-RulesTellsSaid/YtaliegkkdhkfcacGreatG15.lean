/- CNu CV CNo DNorm D6e RSolve -/
import Derived.Test.YtaliegkkdhkfcacGreatG14
import Derived.Deep.RegionHeld3
namespace Go.Proofs.YtaliegkkdhkfcacGreat
open Go.RowKit Go.Deep Go.ChangeShapes Go.WideShapes
def PkRel (g : Nat) (W2 : World) (S : Sb) (j : Nat) (wr : World) : Prop :=
  Below g W2 wr ∧ There wr g (S.length * 4) ∧ g + 1 ≤ wr.heap.size ∧ ∃ xs, PC (fun q => g + 1 ≤ q ∧ q < wr.heap.size) wr (S.take j) xs ∧ ∀ i, i < xs.length → wr.cell? ⟨g, i, none⟩ = xs[i]?
theorem pk_start {W2 : World} {S : Sb} {z : Array Value} : PkRel W2.heap.size W2 S 0 (W2.alloc (.cells (madeCells z (S.length * 4)) 92)) := by
  refine ⟨below_alloc _ _, fun i hi => ⟨?_, frozen_new _ _ _ _⟩, by simp, [], rfl, fun i hi => by simp at hi⟩
  have hs : i < (madeCells z (S.length * 4)).size := by simp [madeCells]; exact hi
  exact ⟨(madeCells z (S.length * 4))[i], by simp [hs]⟩
theorem pk_step {g : Nat} {W2 wr : World} {S : Sb} {j : Nat} {n m : Int} (h : PkRel g W2 S j wr) (hl : S[j]? = some (n, vr m)) : PkRel g W2 S (j + 1) (setL wr g (j * 4) [.int .i64 n, .bool true, .int .i64 m, .slice none 0 0]) := by
  obtain ⟨hB, hT2, hs, xs, hX, hc⟩ := h
  have hj : j < S.length := (List.getElem?_eq_some_iff.1 hl).1
  have hxl : xs.length = j * 4 := by rw [hX.len, List.length_take]; rw [Nat.min_eq_left (by omega)]
  have at7 := setL_at (b := g) (xs := [.int .i64 n, .bool true, .int .i64 m, .slice none 0 0]) (o := j * 4) (w := wr) (fun i hi => (hT2 (j * 4 + i) (by simp at hi; omega)).1)
  refine ⟨setL_below (Nat.le_refl _) hB, fun i hi => ?_, by rw [setL_size]; omega, xs ++ [.int .i64 n, .bool true, .int .i64 m, .slice none 0 0], ?_, fun i hi => ?_⟩
  · obtain ⟨⟨v, hv⟩, hf⟩ := hT2 i hi
    refine ⟨?_, by rw [setL_frozen]; exact hf⟩
    by_cases hc : i < j * 4 ∨ j * 4 + 4 ≤ i
    · exact ⟨v, by rw [setL_other (.inr hc)]; exact hv⟩
    · obtain ⟨q, rfl⟩ : ∃ q, i = j * 4 + q := ⟨i - j * 4, by omega⟩
      exact ⟨_, at7 q _ (List.getElem?_eq_getElem (by simp; omega))⟩
  · rw [List.take_add_one, hl]
    refine PC.append (PC.one (t := vr m) (SB.nil _ _)) ?_
    refine hX.frame (fun q hq => ⟨by omega, by rw [setL_size]; omega⟩) (fun q i hq => setL_other (.inl (by omega)))
  · rw [List.getElem?_append]
    by_cases hc' : i < xs.length
    · rw [if_pos hc', setL_other (.inr (.inl (by omega)))]
      exact hc i hc'
    · rw [if_neg hc']
      have hi' : i - xs.length < 4 := by simp at hi; omega
      have := at7 (i - xs.length) _ (List.getElem?_eq_getElem (by simpa using hi'))
      rw [show j * 4 + (i - xs.length) = i by omega] at this
      rw [this, List.getElem?_eq_getElem (by simpa using hi')]
theorem pk_end {g : Nat} {W2 wr : World} {S : Sb} (h : PkRel g W2 S S.length wr) (hm : S.length ≤ maxLen) : SubIn wr S (.slice (some ⟨g, 0, none⟩) S.length S.length) := by
  obtain ⟨_, _, _, xs, hX, hc⟩ := h
  rw [List.take_length] at hX
  exact ⟨_, _, g, 0, rfl, fun _ => rfl, Nat.le_refl _, hm, hX.at (fun j hj => by rw [Nat.zero_add]; exact hc j hj)⟩
theorem num_len (vs : List Int) : (numS vs).length = vs.length := by simp [numS]
theorem num_at {vs : List Int} {j : Nat} (h : j < vs.length) : (numS vs)[j]? = some (vs.getD j 0, vr j) := by
  simp [numS, List.getD_eq_getElem?_getD, h]
theorem num_all (vs : List Int) : ∀ p ∈ numS vs, narT p.2 ∧ okT p.2 := fun p hp => by
  simp only [numS, List.mem_mapIdx] at hp
  obtain ⟨i, hi, rfl⟩ := hp
  exact ⟨nar_vr _, ok_vr _⟩
set_option maxRecDepth 100000 in
set_option maxHeartbeats 4000000 in
theorem number_any (k : Cl) (a : Value) (vs : List Int) (vv : Value) (w : World) (hS : CIn w k a) (hN : NIn w vs vv) (hn : ∀ l ∈ k, narT l.2.1 ∧ narT l.2.2) (hlen : k.length ≤ 1000000) (hvl : vs.length ≤ 1000000) :
    Calls Tryz.prog 73 #[a, vv] w fun e w' => ∃ g, e = .returned (.slice (some ⟨g, 0, none⟩) k.length k.length) ∧ CIn w' (k.map (mapL (subT (bnd (numS vs))))) (.slice (some ⟨g, 0, none⟩) k.length k.length) ∧ Below w.heap.size w w' := by
  have HS := hide hS
  obtain ⟨a1, a3, rfl⟩ := slice_of_cl hS
  obtain ⟨n1, n3, nb, no, rfl, hna, hnlc, hncm, hnF⟩ := hN
  unfold maxLen at hncm
  have HnF := hide hnF
  have Hn := hide hn
  clear hS hnF hn
  obtain ⟨iP, hi, hz0, hz1, hz2⟩ := info_parts Tryz.info92
  have hmk := fun w : World => run_make (P := Tryz.prog) w 44 92 iP _ Tryz.underlying44 hi hz0 .i64 .i64 (vs.length : Int) (vs.length : Int) (by omega) (by omega) (by rw [hz2]; omega) (by omega)
  rw [hz1] at hmk
  simp only [Int.toNat_natCast] at hmk
  go_enter Tryz.func73, Tryz.ntmps73
  go_wp2_with fail
  clear hmk hi hz0 hz1 hz2
  have H0 : Hid (PkRel w.heap.size w (numS vs) 0 (w.alloc (.cells (madeCells #[.int .i64 0, .bool false, .int .i64 0, .slice none 0 0] (vs.length * 4)) 92))) := by
    have := pk_start (W2 := w) (S := numS vs) (z := #[.int .i64 0, .bool false, .int .i64 0, .slice none 0 0])
    rw [num_len] at this
    exact this
  go_loopw [13] (fun i wr => ∃ j : Nat, j ≤ vs.length ∧ i = .int .i64 j ∧ PkRel w.heap.size w (numS vs) j wr) (fun i _ => vs.length - (intOf i).toNat)
  case atStart => exact ⟨0, Nat.zero_le _, rfl, H0.out⟩
  case round =>
    obtain ⟨j, hj, rfl, hR⟩ := hrel
    have HR := hide hR
    obtain ⟨hB, hT, hsz, -⟩ := hR
    have hBw : Below w.heap.size w wr := hB
    by_cases hlt : j < vs.length
    · have hlt' : (j : Int) < (vs.length : Int) := by omega
      have hj0 : (0 : Int) ≤ (j : Int) := by omega
      have hc := grow_cell hBw _ _ (HnF.out j hlt)
      have ha : n1 = some ⟨nb, no, none⟩ := hna (by omega)
      subst ha
      have hT' : There wr w.heap.size (vs.length * 4) := by rw [num_len] at hT; exact hT
      obtain ⟨⟨t0, e0⟩, f0⟩ := hT' (j * 4) (by omega)
      obtain ⟨⟨t1, e1⟩, f1⟩ := hT' (j * 4 + 1) (by omega)
      obtain ⟨⟨t2, e2⟩, f2⟩ := hT' (j * 4 + 2) (by omega)
      obtain ⟨⟨t3, e3⟩, f3⟩ := hT' (j * 4 + 3) (by omega)
      have Hstep := hide (pk_step HR.out (num_at hlt))
      generalize vs.getD j 0 = nn at *
      clear hna hT hT' hB
      go_wp2_with fail
      go_roundw
      case rel => exact ⟨j + 1, by omega, by go_num, Hstep.out⟩
      case measure => simp [intOf]; omega
    · have hje : j = vs.length := by omega
      have Hfin : Hid (SubIn wr (numS vs) (.slice (some ⟨w.heap.size, 0, none⟩) vs.length vs.length)) := by
        have h1 := HR.out
        have e : j = (numS vs).length := by rw [num_len]; exact hje
        rw [e] at h1
        have := pk_end h1 (by rw [num_len]; unfold maxLen; omega)
        rw [num_len] at this
        exact this
      clear hna hT hB
      go_wp2_with fail
      refine (applyC_any (numS vs) _ k _ wr Hfin.out (num_all vs) (HS.out.below hBw) Hn.out hlen).mono ?_
      rintro e w2 ⟨g, rfl, hC, hb2⟩
      have HC := hide hC
      have hB2 := below_step hBw hb2
      clear hC hb2
      go_wp2_with fail
      go_ret
      exact ⟨g, rfl, HC.out, hB2⟩
end Go.Proofs.YtaliegkkdhkfcacGreat

namespace Go.Proofs.YtaliegkkdhkfcacGreat
open Go.RowKit Go.Deep Go.ChangeShapes Go.WideShapes
theorem nin_vals {w : World} {lo : Nat} {T : List Int} {v : Value} (h : w.ownsRow lo 3 1 v T.length (vals T)) : NIn w T v := own_nin h
theorem nin_nil (w : World) : NIn w [] (.slice none 0 0) := own_nin (lo := 0) (World.ownsRow_nil _ _ _ _)
theorem varsT_grow (x : Bool × Int) (k : Fo) (v : List Int) : v.length ≤ (varsT x k v).length := by
  have key : ∀ (F : Fo) (v : List Int), v.length ≤ (varsF F v).length := by
    intro F
    induction F with
    | nil => intro v; exact Nat.le_refl _
    | node p q y l r ihl ihr =>
      intro v
      have h1 : v.length ≤ (varsT y l v).length := by
        unfold varsT
        split
        · split
          · exact Nat.le_refl _
          · simp
        · exact ihl v
      exact Nat.le_trans h1 (ihr (varsT y l v))
  unfold varsT
  split
  · split
    · exact Nat.le_refl _
    · simp
  · exact key k v
theorem varsC_grow (c : Cl) (j : Nat) (v : List Int) : (varsC (c.take j) v).length ≤ (varsC c v).length := by
  have key : ∀ (c : Cl) (v : List Int), v.length ≤ (varsC c v).length := by
    intro c
    induction c with
    | nil => intro v; exact Nat.le_refl _
    | cons l c ih =>
      intro v
      have h1 := varsT_grow l.2.1.1 l.2.1.2 v
      have h2 := varsT_grow l.2.2.1 l.2.2.2 (varsT l.2.1.1 l.2.1.2 v)
      have h3 := ih (varsL l v)
      have e : varsC (l :: c) v = varsC c (varsL l v) := rfl
      rw [e]
      simp only [varsL] at h3 ⊢
      omega
  have e : varsC c v = varsC (c.drop j) (varsC (c.take j) v) := by
    have h : varsC (c.take j ++ c.drop j) v = varsC (c.drop j) (varsC (c.take j) v) := List.foldl_append
    rw [List.take_append_drop] at h
    exact h
  rw [e]
  exact key _ _
set_option maxRecDepth 100000 in
set_option maxHeartbeats 2000000 in
theorem varsCR_any (k : Cl) (a : Value) (w : World) (hS : CIn w k a) (hb : (varsC k []).length ≤ 1000000000000) :
    Calls Tryz.prog 82 #[a] w fun e w' => ∃ v, e = .returned v ∧ NIn w' (varsC k []) v ∧ Below w.heap.size w w' := by
  obtain ⟨a1, c1, b1, o1, rfl, had1, hlc1, hcm1, hF1⟩ := hS
  unfold maxLen at hcm1
  have HF1 := hide hF1
  clear hF1
  go_enter Tryz.func82, Tryz.ntmps82
  go_wp2_with fail
  go_loopw [3, 8] (fun v i wr => ∃ (j : Nat) (z1 : Option Addr) (n z3 : Nat), j ≤ k.length ∧ i = .int .i64 j ∧ v = .slice z1 n z3 ∧ NIn wr (varsC (k.take j) []) v ∧ Below w.heap.size w wr) (fun _ i _ => k.length - (intOf i).toNat)
  case atStart => exact ⟨0, none, 0, 0, Nat.zero_le _, rfl, rfl, nin_nil _, Below.refl _ _⟩
  case round =>
    obtain ⟨j, z1, n, z3, hj, rfl, rfl, hV, hBr⟩ := hrel
    have HV := hide hV
    clear hV
    by_cases hlt : j < k.length
    · have hlt' : (j : Int) < (k.length : Int) := by omega
      obtain ⟨⟨yn, ⟨⟨yv, yi⟩, yk⟩, ⟨yv', yi'⟩, yk'⟩, hy⟩ : ∃ y, k[j]? = some y := ⟨k[j]'hlt, by simp⟩
      obtain ⟨p0, p1, p2, ⟨u3, p3, hA⟩, p4, p5, u6, p6, hD⟩ := (HF1.out.below hBr).at hy
      have ha1 : a1 = some ⟨b1, o1, none⟩ := had1 (by omega)
      subst ha1
      have HA := hide hA
      have HD := hide hD
      obtain ⟨_, _, _, _, rfl, -, -, -, -⟩ := hA
      obtain ⟨_, _, _, _, rfl, -, -, -, -⟩ := hD
      have Hy := hide hy
      have Hln : Hid ((varsT (yv, yi) yk (varsC (k.take j) [])).length ≤ 1000000000000 ∧ (varsT (yv', yi') yk' (varsT (yv, yi) yk (varsC (k.take j) []))).length ≤ 1000000000000) := by
        have h1 := varsC_take (v := []) hy
        have h2 := varsC_grow k (j + 1) []
        have h3 := varsT_grow (yv', yi') yk' (varsT (yv, yi) yk (varsC (k.take j) []))
        rw [h1] at h2
        simp only [varsL] at h2
        exact ⟨by omega, by omega⟩
      clear hy had1
      simp only at *
      go_wp2_with fail
      refine (varsR_few (yv, yi) yk _ (varsC (k.take j) []) _ _ _ rfl (HA.out.alloc _) (HV.out.alloc _) (by have := Hln.out.1; omega)).mono ?_
      rintro e w2 ⟨v2, rfl, hV2, hb2⟩
      obtain ⟨-, -, -, -, e4, e5, e6, -, hb2', -⟩ := lit_cells hb2
      have hB2 := below_step hBr hb2'
      have HD2 := hide (HD.out.below hb2')
      have HV2 := hide hV2
      obtain ⟨y1, y3, rfl⟩ := nin_slice hV2
      have Hl2 := hide (varsT_len (yv, yi) yk (varsC (k.take j) []))
      clear hb2 hV2
      go_wp2_with fail
      refine (varsR_few (yv', yi') yk' _ (varsT (yv, yi) yk (varsC (k.take j) [])) _ _ _ rfl HD2.out HV2.out (by have := Hln.out.2; omega)).mono ?_
      rintro e w3 ⟨v3, rfl, hV3, hb3⟩
      have hB3 := below_step hB2 hb3
      have HV3 := hide hV3
      obtain ⟨x1, x3, rfl⟩ := nin_slice hV3
      clear hV3
      go_wp2_with fail
      go_roundw
      case rel => exact ⟨j + 1, x1, _, x3, by omega, by go_num, rfl, by rw [varsC_take Hy.out]; exact HV3.out, hB3⟩
      case measure => simp [intOf]; omega
    · have Hfin : Hid (NIn wr (varsC k []) (.slice z1 n z3)) := by
        have e : j = k.length := by omega
        have := HV.out
        rw [e, List.take_length] at this
        exact this
      clear had1
      go_wp2_with fail
      go_ret
      exact ⟨_, rfl, Hfin.out, hBr⟩
set_option maxRecDepth 100000 in
set_option maxHeartbeats 2000000 in
theorem varsCl_any (k : Cl) (a : Value) (w : World) (hS : CIn w k a) (hb : (varsC k []).length ≤ 1000000000000) :
    Calls Tryz.prog 71 #[a] w fun e w' => ∃ v, e = .returned v ∧ NIn w' (varsC k []) v ∧ Below w.heap.size w w' := by
  obtain ⟨a1, c1, b1, o1, rfl, had1, hlc1, hcm1, hF1⟩ := hS
  unfold maxLen at hcm1
  have HF1 := hide hF1
  clear hF1
  go_enter Tryz.func71, Tryz.ntmps71
  go_wp2_with fail
  go_loopw [3, 8] (fun v i wr => ∃ (j : Nat) (z1 : Option Addr) (n z3 : Nat), j ≤ k.length ∧ i = .int .i64 j ∧ v = .slice z1 n z3 ∧ NIn wr (varsC (k.take j) []) v ∧ Below w.heap.size w wr) (fun _ i _ => k.length - (intOf i).toNat)
  case atStart => exact ⟨0, none, 0, 0, Nat.zero_le _, rfl, rfl, nin_nil _, Below.refl _ _⟩
  case round =>
    obtain ⟨j, z1, n, z3, hj, rfl, rfl, hV, hBr⟩ := hrel
    have HV := hide hV
    clear hV
    by_cases hlt : j < k.length
    · have hlt' : (j : Int) < (k.length : Int) := by omega
      obtain ⟨⟨yn, ⟨⟨yv, yi⟩, yk⟩, ⟨yv', yi'⟩, yk'⟩, hy⟩ : ∃ y, k[j]? = some y := ⟨k[j]'hlt, by simp⟩
      obtain ⟨p0, p1, p2, ⟨u3, p3, hA⟩, p4, p5, u6, p6, hD⟩ := (HF1.out.below hBr).at hy
      have ha1 : a1 = some ⟨b1, o1, none⟩ := had1 (by omega)
      subst ha1
      have HA := hide hA
      have HD := hide hD
      obtain ⟨ya, yc, _, _, rfl, -, -, -, -⟩ := hA
      obtain ⟨za, zc, _, _, rfl, -, -, -, -⟩ := hD
      have Hy := hide hy
      have Hln : Hid ((varsT (yv, yi) yk (varsC (k.take j) [])).length ≤ 1000000000000 ∧ (varsT (yv', yi') yk' (varsT (yv, yi) yk (varsC (k.take j) []))).length ≤ 1000000000000) := by
        have h1 := varsC_take (v := []) hy
        have h2 := varsC_grow k (j + 1) []
        have h3 := varsT_grow (yv', yi') yk' (varsT (yv, yi) yk (varsC (k.take j) []))
        rw [h1] at h2
        simp only [varsL] at h2
        exact ⟨by omega, by omega⟩
      have Hl2 := hide (varsT_len (yv, yi) yk (varsC (k.take j) []))
      clear hy had1
      simp only at *
      go_upto_region 5 with fail
      generalize hwa : wr.alloc (.cells #[.bool yn, .bool yv, .int .i64 yi, .slice ya (Fo.len yk) yc, .bool yv', .int .i64 yi', .slice za (Fo.len yk') zc] 42) = wa
      obtain ⟨-, g1, g2, g3, g4, g5, g6, -, hba, -⟩ := lit_cells (T := 42) (x0 := .bool yn) (w := wr) (wr := wa) (x1 := .bool yv) (x2 := .int .i64 yi) (x3 := .slice ya (Fo.len yk) yc) (x4 := .bool yv') (x5 := .int .i64 yi') (x6 := .slice za (Fo.len yk') zc) (by rw [hwa]; exact Below.refl _ _)
      clear hwa
      have HAa := hide (HA.out.below hba)
      have HDa := hide (HD.out.below hba)
      have HVa := hide (HV.out.below hba)
      have hcur : Below wa.heap.size wa wa.drew := (Below.refl _ _).drew
      go_region_held3 (fun w' => w'.cell? ⟨wr.heap.size, 1, none⟩ = some (.bool yv) ∧ w'.cell? ⟨wr.heap.size, 2, none⟩ = some (.int .i64 yi) ∧ w'.cell? ⟨wr.heap.size, 3, none⟩ = some (.slice ya (Fo.len yk) yc) ∧ w'.cell? ⟨wr.heap.size, 4, none⟩ = some (.bool yv') ∧ w'.cell? ⟨wr.heap.size, 5, none⟩ = some (.int .i64 yi') ∧ w'.cell? ⟨wr.heap.size, 6, none⟩ = some (.slice za (Fo.len yk') zc))
          (first
            | (with_reducible exact ⟨grow_cell hcur _ _ g1, grow_cell hcur _ _ g2, grow_cell hcur _ _ g3, grow_cell hcur _ _ g4, grow_cell hcur _ _ g5, grow_cell hcur _ _ g6⟩)
            | go_keep)
          (first
            | (go_at_call 65; with_reducible refine (vars_few (yv, yi) yk (.slice ya (Fo.len yk) yc) (varsC (k.take j) []) (.slice z1 n z3) _ _ rfl (HAa.out.below hcur) (HVa.out.below hcur) (by have := Hln.out.1; omega)).mono ?_; rintro e wS ⟨vS, rfl, hoS, hbS⟩; replace hcur := below_step hcur hbS; have HoS := hide (nin_vals hoS); obtain ⟨y1, y3, rfl⟩ := nin_slice HoS.out; clear hoS)
            | (go_at_call 65; with_reducible refine (vars_few (yv', yi') yk' (.slice za (Fo.len yk') zc) (varsT (yv, yi) yk (varsC (k.take j) [])) _ _ _ rfl (HDa.out.below hcur) (HoS.out.below ?_) (by have := Hln.out.2; omega)).mono ?_; (first | exact Below.refl _ _ | exact (Below.refl _ _).drew); rintro e wU ⟨vU, rfl, hoU, hbU⟩; replace hcur := below_step hcur hbU; have HoU := hide (nin_vals hoU); obtain ⟨x1, x3, rfl⟩ := nin_slice HoU.out; clear hoU))
      all_goals
        have hB2 := below_step hBr (below_step hba hcur)
        go_wp2_with fail
        go_roundw
        case rel => exact ⟨j + 1, _, _, _, by omega, by go_num, rfl, by rw [varsC_take Hy.out]; exact HoU.out, hB2⟩
        case measure => simp [intOf]; omega
    · have Hfin : Hid (NIn wr (varsC k []) (.slice z1 n z3)) := by
        have e : j = k.length := by omega
        have := HV.out
        rw [e, List.take_length] at this
        exact this
      clear had1
      go_wp2_with fail
      go_ret
      exact ⟨_, rfl, Hfin.out, hBr⟩
end Go.Proofs.YtaliegkkdhkfcacGreat

namespace Go.Proofs.YtaliegkkdhkfcacGreat
open Go.RowKit Go.Deep Go.ChangeShapes Go.WideShapes
set_option maxRecDepth 100000 in
set_option maxHeartbeats 4000000 in
theorem norm_anyX (k : Cl) (a : Value) (w : World) (hS : CIn w k a) (hg : GX k) :
    Calls Tryz.prog 39 #[a] w fun e w' => ∃ v, e = .returned (.tuple #[v, .int .i64 (normC k).1]) ∧ CIn w' (normC k).2 v ∧ Below w.heap.size w w' := by
  have HS := hide hS
  obtain ⟨a1, a3, rfl⟩ := slice_of_cl hS
  clear hS
  have Hcs := hide (norm_casesX hg)
  have hk4 := hg.1
  have HG : Hid (∀ l ∈ k, Gd l.2.1 ∧ Gd l.2.2 ∧ tszR l.2.1.2 ≤ 4000000000000 ∧ tszR l.2.2.2 ≤ 4000000000000) := fun l hl => ⟨(hg.2 l hl).gl, (hg.2 l hl).gr, (hg.2 l hl).sl, (hg.2 l hl).sr⟩
  go_enter Tryz.func39, Tryz.ntmps39
  go_wp2_with fail
  refine (turn_any k _ _ HS.out HG.out (by omega)).mono ?_
  rintro e w1 ⟨v1, er, d, rfl, hC1, hcs, hb1⟩
  rcases hcs with ⟨rfl, rfl, ht⟩ | ⟨rfl, ht⟩
  · have Hn : Hid (normC k = (6, [])) := by
      rcases Hcs.out with ⟨_, h⟩ | ⟨d, h, _⟩
      · exact h
      · rw [ht] at h; cases h
    obtain ⟨z1, z3, rfl⟩ := slice_of_cl hC1
    clear hC1 ht
    go_wp2_with fail
    go_ret2
    exact ⟨.slice none 0 0, by rw [Hn.out]; rfl, by rw [Hn.out]; exact CIn.nil _, hb1⟩
  · have Hrest : Hid (GX d ∧ GX (reN d) ∧ ((distC (reN d) = none ∧ normC k = (6, [])) ∨ ∃ e, distC (reN d) = some e ∧ GX e ∧ normC k = keepC d e)) := by
      rcases Hcs.out with ⟨h, _⟩ | ⟨d', h, h2⟩
      · rw [ht] at h; cases h
      · rw [ht] at h; cases h; exact h2
    have HC1 := hide hC1
    obtain ⟨z1, z3, rfl⟩ := slice_of_cl hC1
    clear hC1 ht
    have hd4 := Hrest.out.1.1
    have hv5 := gx_vars Hrest.out.1.2
    go_wp2_with fail
    refine (varsCl_any d _ _ HC1.out (by omega)).mono ?_
    rintro e w2 ⟨vv, rfl, hN, hb2⟩
    have HN := hide hN
    obtain ⟨y1, y3, rfl⟩ := nin_slice hN
    have hB2 := below_step hb1 hb2
    clear hN
    go_wp2_with fail
    refine (number_any d _ (varsC d []) _ _ (HC1.out.below hb2) HN.out (fun l hl => ⟨(Hrest.out.1.2 l hl).gl.nar, (Hrest.out.1.2 l hl).gr.nar⟩) (by omega) (by omega)).mono ?_
    rintro e w3 ⟨g, rfl, hC3, hb3⟩
    have HC3 : Hid (CIn w3 (reN d) (.slice (some ⟨g, 0, none⟩) d.length d.length)) := hC3
    have hB3 := below_step hB2 hb3
    clear hC3 hb2 hb3
    go_wp2_with fail
    refine (distinct_any (reN d) _ _ HC3.out (by have := Hrest.out.2.1.1; omega)).mono ?_
    rintro e w4 ⟨v4, er, f, rfl, hC4, hcs, hb4⟩
    have hB4 := below_step hB3 hb4
    rcases hcs with ⟨rfl, rfl, ht⟩ | ⟨rfl, ht⟩
    · have Hn : Hid (normC k = (6, [])) := by
        rcases Hrest.out.2.2 with ⟨_, h⟩ | ⟨d, h, _⟩
        · exact h
        · rw [ht] at h; cases h
      obtain ⟨x1, x3, rfl⟩ := slice_of_cl hC4
      clear hC4 ht
      go_wp2_with fail
      go_ret2
      exact ⟨.slice none 0 0, by rw [Hn.out]; rfl, by rw [Hn.out]; exact CIn.nil _, hB4⟩
    · have Hn : Hid (GX f ∧ normC k = keepC d f) := by
        rcases Hrest.out.2.2 with ⟨h, _⟩ | ⟨d, h, h2⟩
        · rw [ht] at h; cases h
        · rw [ht] at h; cases h; exact h2
      have HC4 := hide hC4
      obtain ⟨x1, x3, rfl⟩ := slice_of_cl hC4
      clear hC4 ht hb4
      have Hkb := hide (fun h => keep_big (d := d) (e := f) h)
      have Hko := hide (fun h1 h2 h3 => keep_ok (d := d) (e := f) h1 h2 h3)
      generalize hvl : (varsC d []).length = vl at *
      clear hvl
      by_cases c4 : 4 < f.length
      · have c4' : (4 : Int) < (f.length : Int) := by omega
        have Hk := hide (Hkb.out (.inl (.inl c4)))
        go_wp2_with fail
        go_ret2
        exact ⟨.slice none 0 0, by rw [Hn.out.2, Hk.out]; rfl, by rw [Hn.out.2, Hk.out]; exact CIn.nil _, hB4⟩
      have c4' : ¬ (4 : Int) < (f.length : Int) := by omega
      by_cases c5 : 5 < vl
      · have c5' : (5 : Int) < (vl : Int) := by omega
        have Hk := hide (Hkb.out (.inl (.inr c5)))
        go_wp2_with fail
        go_ret2
        exact ⟨.slice none 0 0, by rw [Hn.out.2, Hk.out]; rfl, by rw [Hn.out.2, Hk.out]; exact CIn.nil _, hB4⟩
      have c5' : ¬ (5 : Int) < (vl : Int) := by omega
      have hf4' : (f.length : Int) ≤ 4 := by omega
      have hv5' : (vl : Int) ≤ 5 := by omega
      go_wp2_with fail
      refine (containsG_any f _ _ HC4.out (fun p hp => ⟨(Hn.out.1.2 p hp).okl, (Hn.out.1.2 p hp).sl, (Hn.out.1.2 p hp).sr⟩)).mono ?_
      rintro e w5 ⟨rfl, hb5⟩
      have hB5 := below_step hB4 hb5
      have HC5 := hide (HC4.out.below hb5)
      clear hb5
      cases hbg : f.any bigL
      · have Hk := hide (Hko.out c4 c5 hbg)
        clear hbg
        go_wp2_with fail
        go_ret2
        exact ⟨.slice x1 f.length x3, by rw [Hn.out.2, Hk.out]; rfl, by rw [Hn.out.2, Hk.out]; exact HC5.out, hB5⟩
      · have Hk := hide (Hkb.out (.inr hbg))
        clear hbg
        go_wp2_with fail
        go_ret2
        exact ⟨.slice none 0 0, by rw [Hn.out.2, Hk.out]; rfl, by rw [Hn.out.2, Hk.out]; exact CIn.nil _, hB5⟩
end Go.Proofs.YtaliegkkdhkfcacGreat

namespace Go.Proofs.YtaliegkkdhkfcacGreat
open Go.RowKit Go.Deep Go.ChangeShapes Go.WideShapes
theorem lits_upto {n j c b o : Nat} (hj : j < n) (hc : n ≤ c) (w : World) : (Instr.slice 25 (.slice (some ⟨b, o, none⟩) n c) none (some (.int .i64 (j : Int))) none).run Tryz.prog w = .ok (.slice (some ⟨b, o, none⟩) j c) w := by
  rw [run_slice_h (ht := by kernel_rfl) (h0 := by omega) (h2 := by omega)]
  have e : (sizeOf (Tryz.prog.elem 25)).run Tryz.prog w = .ok 7 w := by
    rw [show Tryz.prog.elem 25 = 42 by kernel_rfl]
    simp [go_sem]
  simp only [Result.andThen, sliced, e]
  simp [Addr.add]
def NumBox (lo bb : Nat) (w : World) (s : Sb) (v : Value) (xs : List Value) : Prop := OwnS lo (fun _ => False) w s v xs ∧ v.ownBlock ≠ some bb ∧ w.cell? ⟨bb, 0, none⟩ = some v ∧ w.frozen? ⟨bb, 0, none⟩ = false ∧ bb < w.heap.size
theorem num_take {vs : List Int} {j : Nat} {n : Int} (h : vs[j]? = some n) : (numS vs).take (j + 1) = (numS vs).take j ++ [(n, vr j)] := by
  rw [List.take_add_one, numS, List.getElem?_mapIdx, h]; rfl
theorem numbox_next {lo bb j : Nat} {wr w4 : World} {vs : List Int} {n : Int} {v v4 : Value} {xs : List Value} {ob : Obj} (h : NumBox lo bb wr ((numS vs).take j) v xs) (hn : vs[j]? = some n) (hl : lo ≤ bb)
    (ho : w4.ownsRow lo 92 4 v4 (j + 1) (xs ++ [.int .i64 n, .bool true, .int .i64 j, .slice none 0 0])) (hg : (wr.alloc ob).grownBy w4 v.ownBlock) (hat : v4.ownBlock = v.ownBlock ∨ v4.ownBlock = some (wr.alloc ob).heap.size) :
    NumBox lo bb (w4.setCell ⟨bb, 0, none⟩ v4) ((numS vs).take (j + 1)) v4 (xs ++ [.int .i64 n, .bool true, .int .i64 j, .slice none 0 0]) ∧ Below lo wr (w4.setCell ⟨bb, 0, none⟩ v4) ∧ w4.cell? ⟨bb, 0, none⟩ = some v ∧ w4.frozen? ⟨bb, 0, none⟩ = false := by
  obtain ⟨h1, h2, h3, h4, h5⟩ := h
  have hs := hg.size
  simp only [World.size_alloc] at hs
  have hlen : ((numS vs).take (j + 1)).length = j + 1 := by
    have : j < vs.length := (List.getElem?_eq_some_iff.1 hn).1
    simp [numS]; omega
  have hne : v4.ownBlock ≠ some bb := by
    rcases hat with e | e
    · rw [e]; exact h2
    · rw [e]; simp; omega
  have hbb : w4.heap[bb]? = wr.heap[bb]? := by
    rw [hg.block bb (by simp; omega) (Ne.symm h2)]
    exact (below_alloc wr ob).block bb h5
  have hc4 : w4.cell? ⟨bb, 0, none⟩ = some v := by rw [World.cell?_of_block hbb]; exact h3
  have hf4 : w4.frozen? ⟨bb, 0, none⟩ = false := by
    rw [← h4]
    simp only [World.frozen?, hbb]
  refine ⟨⟨⟨?_, ?_, fun _ h => h.elim⟩, hne, set_same hc4, by simpa using hf4, by simp [World.setCell]; omega⟩, ?_, hc4, hf4⟩
  · rw [hlen]
    exact owns_keep ho (fun g hgg => Below.heap_setCell _ _ _ g (fun e => hne (by rw [hgg]; exact congrArg some e)))
  · rw [num_take hn]
    exact PC.append (PC.one (t := vr j) (SB.nil _ _)) (h1.cells.frame (fun _ h => h) (fun _ _ h => h.elim))
  · have hb : Below lo wr w4 := ⟨hg.os, hg.tape, hg.output, by omega, fun q hq => by
      have hqv : some q ≠ v.ownBlock := fun e => by have := owns_at h1.row q e.symm; omega
      by_cases hqw : q < wr.heap.size
      · rw [hg.block q (by simp; omega) hqv]; exact (below_alloc wr ob).block q hqw
      · exact absurd hqw (by omega)⟩
    exact hb.setCell hl _
set_option maxRecDepth 100000 in
set_option maxHeartbeats 8000000 in
theorem normD_anyX (k : Cl) (a : Value) (w : World) (hS : CIn w k a) (hg : GX k) :
    Calls Tryz.prog 46 #[a] w fun e w' => ∃ v, e = .returned (.tuple #[v, .int .i64 (normC k).1]) ∧ CIn w' (normC k).2 v ∧ Below w.heap.size w w' := by
  obtain ⟨a1, c1, b1, oo, rfl, had1, hlc1, hcm1, hF1⟩ := hS
  unfold maxLen at hcm1
  have HF1 := hide hF1
  have Hcs := hide (norm_casesX hg)
  have hk4 := hg.1
  have HG := hide hg
  clear hF1 hg
  obtain ⟨iL, hi, hz0, hz1, hz2⟩ := info_parts Tryz.info42
  obtain ⟨iP, hiP, hy0, hy1, hy2⟩ := info_parts Tryz.info92
  go_enter Tryz.func46, Tryz.ntmps46
  go_wp2_with fail
  go_loopw [4, 22] (fun v i wr => ∃ (j : Nat) (out : Cl) (o1 : Option Addr) (o3 : Nat) (xs : List Value), j ≤ k.length ∧ i = .int .i64 j ∧ v = .slice o1 out.length o3 ∧ out.length ≤ j ∧ turnC (k.take j) = some out ∧ OwnL w.heap.size (XO wr v) wr out v xs ∧ Below w.heap.size w wr) (fun _ i _ => k.length - (intOf i).toNat)
  case atStart => exact ⟨0, [], none, 0, [], Nat.zero_le _, rfl, rfl, Nat.le_refl _, rfl, ownL_nil _ _, Below.refl _ _⟩
  case round =>
    obtain ⟨j, out, o1, o3, xs, hj, rfl, rfl, hol, hT, hO, hBr⟩ := hrel
    have HT := hide hT
    have HO := hide hO
    clear hT hO
    have hsr := hBr.size
    by_cases hlt : j < k.length
    · have hlt' : (j : Int) < (k.length : Int) := by omega
      obtain ⟨⟨yn, ⟨⟨yv, yi⟩, yk⟩, ⟨yv', yi'⟩, yk'⟩, hy⟩ : ∃ y, k[j]? = some y := ⟨k[j]'hlt, by simp⟩
      obtain ⟨-, -, -, ⟨u3', p3', hA0⟩, -, -, u6', p6', hD0⟩ := HF1.out.at hy
      obtain ⟨p0, p1, p2, ⟨u3, p3, hA⟩, p4, p5, u6, p6, hD⟩ := (HF1.out.below hBr).at hy
      have e3 : u3' = u3 := by have := grow_cell hBr _ _ p3'; rw [p3] at this; exact (Option.some.inj this).symm
      have e6 : u6' = u6 := by have := grow_cell hBr _ _ p6'; rw [p6] at this; exact (Option.some.inj this).symm
      subst e3 e6
      have ha1 : a1 = some ⟨b1, oo, none⟩ := had1 (by omega)
      subst ha1
      have HA := hide hA
      have HD := hide hD
      have HA0 := hide hA0.toB
      have HD0 := hide hD0.toB
      obtain ⟨ya, yc, _, _, rfl, -, -, -, -⟩ := hA
      obtain ⟨za, zc, _, _, rfl, -, -, -, -⟩ := hD
      have Hgy := hide (HG.out.2 _ (List.mem_of_getElem? hy))
      have Hstep : Hid (turnC (k.take (j + 1)) = tstep (some out) (yn, ((yv, yi), yk), ((yv', yi'), yk'))) := by rw [Hid, turn_take hy, HT.out]
      have hn1 : out.length + 1 ≤ maxLen := by unfold maxLen; omega
      have hn2 : (out.length + 1) * 88 ≤ 140737488355328 := by omega
      clear hy had1 p3' p6' hA0 hD0
      simp only at *
      go_wp2_with fail
      refine (sameR_any (yv, yi) yk (yv', yi') yk' _ _ _ (HA.out.alloc _) (HD.out.alloc _)).mono ?_
      rintro e w2 ⟨rfl, hb2⟩
      obtain ⟨g0, g1, g2, g3, g4, g5, g6, gf, hb2', hlt2⟩ := lit_cells hb2
      have hB2 := below_step hBr hb2'
      clear hb2 p0 p1 p2 p3 p4 p5 p6
      cases hss : sameT (yv, yi) yk (yv', yi') yk'
      · have Hss := hide hss
        clear hss
        go_wp2_with fail
        refine (aboveR_any (yv', yi') yk' (yv, yi) yk _ _ _ (HD.out.below hb2') (HA.out.below hb2') (by have := Hgy.out.sr; simp only at this; omega) (by have := Hgy.out.sl; simp only at this; omega)).mono ?_
        rintro e w5 ⟨rfl, hb5⟩
        replace g0 := grow_cell hb5 _ _ g0
        replace g1 := grow_cell hb5 _ _ g1
        replace g2 := grow_cell hb5 _ _ g2
        replace g3 := grow_cell hb5 _ _ g3
        replace g4 := grow_cell hb5 _ _ g4
        replace g5 := grow_cell hb5 _ _ g5
        replace g6 := grow_cell hb5 _ _ g6
        have gf5 : ∀ i, w5.frozen? ⟨wr.heap.size, i, none⟩ = false := fun i => (hb5.frozen (by show wr.heap.size < _; omega)).trans (gf i)
        have hb25 := below_step hb2' hb5
        clear gf hb5
        cases hab : abvT ((yv', yi'), yk') ((yv, yi), yk)
        · have Hfl : Hid (flipL (yn, ((yv, yi), yk), ((yv', yi'), yk')) = (yn, ((yv, yi), yk), ((yv', yi'), yk'))) := by
            show flipL _ = _
            unfold flipL
            rw [if_neg (by rw [hab]; simp)]
          have Hst : Hid (turnC (k.take (j + 1)) = some (out ++ [(yn, ((yv, yi), yk), ((yv', yi'), yk'))])) := by
            show turnC _ = _
            rw [Hstep.out, tstep, Option.bind_some, if_neg (by rw [Hss.out]; simp), Hfl.out]
          clear hab
          have hb6 : ∀ ob, Below wr.heap.size wr (w5.alloc ob) := fun ob => below_step hb25 (below_alloc _ _)
          go_wp2_with (at_builtin; refine wpList_append_gen rfl (.tmp 46) (.tmp 48) 25 rfl w.heap.size 42 iL (.agg #[.bool false, .bool false, .int .i64 0, .slice none 0 0, .bool false, .int .i64 0, .slice none 0 0]) 7 88 Tryz.underlying25 hi hz0 hz1 hz2 rfl (by decide) (.slice o1 out.length o3) out.length xs rfl (OwnL.below HO.out (hb6 _)).row _ 1 (litV (yn, ((yv, yi), yk), ((yv', yi'), yk')) (.slice ya (Fo.len yk) yc) (.slice za (Fo.len yk') zc)) rfl cs_lit hn1 hn2 (Nat.le_trans hsr (hb6 _).size) ?_; intro v4 w4 ho4 hg4 hat4)
          obtain ⟨hO4, hB4⟩ := ownL_more (l := (yn, ((yv, yi), yk), ((yv', yi'), yk'))) HO.out (hb6 _) hsr (HA0.out.kept (fun q hq => (below_step hBr (hb6 _)).block q hq)) (HD0.out.kept (fun q hq => (below_step hBr (hb6 _)).block q hq)) ho4 hg4 hat4
          obtain ⟨r1, r3, rfl⟩ := slice_of_cl hO4.cl
          have HO4 := hide hO4
          have hBB := hBr.trans hB4
          clear hO4 ho4 hg4 hat4
          go_wp2_with fail
          go_roundw
          case rel => exact ⟨j + 1, _, r1, r3, _, by omega, by go_num, rfl, by simp; omega, Hst.out, HO4.out, hBB⟩
          case measure => simp [intOf]; omega
        · have Hfl : Hid (flipL (yn, ((yv, yi), yk), ((yv', yi'), yk')) = (yn, ((yv', yi'), yk'), ((yv, yi), yk))) := by
            show flipL _ = _
            unfold flipL
            rw [if_pos hab]
          have Hst : Hid (turnC (k.take (j + 1)) = some (out ++ [(yn, ((yv', yi'), yk'), ((yv, yi), yk))])) := by
            show turnC _ = _
            rw [Hstep.out, tstep, Option.bind_some, if_neg (by rw [Hss.out]; simp), Hfl.out]
          clear hab
          go_upto_region 10 with fail
          generalize hw3 : (((((((w5.setCell ⟨wr.heap.size, 0, none⟩ (.bool yn)).setCell ⟨wr.heap.size, 1, none⟩ (.bool yv')).setCell ⟨wr.heap.size, 2, none⟩ (.int .i64 yi')).setCell ⟨wr.heap.size, 3, none⟩ (.slice za (Fo.len yk') zc)).setCell ⟨wr.heap.size, 4, none⟩ (.bool yv)).setCell ⟨wr.heap.size, 5, none⟩ (.int .i64 yi)).setCell ⟨wr.heap.size, 6, none⟩ (.slice ya (Fo.len yk) yc)) = w3
          have e3 : w3 = setL w5 wr.heap.size 0 [.bool yn, .bool yv', .int .i64 yi', .slice za (Fo.len yk') zc, .bool yv, .int .i64 yi, .slice ya (Fo.len yk) yc] := hw3.symm
          have hb3 : Below wr.heap.size wr w3 := by rw [e3]; exact setL_below (Nat.le_refl _) hb25
          have at6 := setL_at (b := wr.heap.size) (xs := [.bool yn, .bool yv', .int .i64 yi', .slice za (Fo.len yk') zc, .bool yv, .int .i64 yi, .slice ya (Fo.len yk) yc]) (o := 0) (w := w5) (fun i hi => by
            simp at hi
            rw [Nat.zero_add]
            rcases i with _ | _ | _ | _ | _ | _ | _ | i
            · exact ⟨_, g0⟩
            · exact ⟨_, g1⟩
            · exact ⟨_, g2⟩
            · exact ⟨_, g3⟩
            · exact ⟨_, g4⟩
            · exact ⟨_, g5⟩
            · exact ⟨_, g6⟩
            · omega)
          have k0 : w3.cell? ⟨wr.heap.size, 0, none⟩ = some (.bool yn) := by rw [e3]; exact at6 0 _ rfl
          have k1 : w3.cell? ⟨wr.heap.size, 1, none⟩ = some (.bool yv') := by rw [e3]; exact at6 1 _ rfl
          have k2 : w3.cell? ⟨wr.heap.size, 2, none⟩ = some (.int .i64 yi') := by rw [e3]; exact at6 2 _ rfl
          have k3 : w3.cell? ⟨wr.heap.size, 3, none⟩ = some (.slice za (Fo.len yk') zc) := by rw [e3]; exact at6 3 _ rfl
          have k4 : w3.cell? ⟨wr.heap.size, 4, none⟩ = some (.bool yv) := by rw [e3]; exact at6 4 _ rfl
          have k5 : w3.cell? ⟨wr.heap.size, 5, none⟩ = some (.int .i64 yi) := by rw [e3]; exact at6 5 _ rfl
          have k6 : w3.cell? ⟨wr.heap.size, 6, none⟩ = some (.slice ya (Fo.len yk) yc) := by rw [e3]; exact at6 6 _ rfl
          clear at6 e3 hw3 g0 g1 g2 g3 g4 g5 g6 gf5
          have hb6 : ∀ ob, Below wr.heap.size wr (w3.alloc ob) := fun ob => below_step hb3 (below_alloc _ _)
          go_wp2_with (at_builtin; refine wpList_append_gen rfl (.tmp 46) (.tmp 48) 25 rfl w.heap.size 42 iL (.agg #[.bool false, .bool false, .int .i64 0, .slice none 0 0, .bool false, .int .i64 0, .slice none 0 0]) 7 88 Tryz.underlying25 hi hz0 hz1 hz2 rfl (by decide) (.slice o1 out.length o3) out.length xs rfl (OwnL.below HO.out (hb6 _)).row _ 1 (litV (yn, ((yv', yi'), yk'), ((yv, yi), yk)) (.slice za (Fo.len yk') zc) (.slice ya (Fo.len yk) yc)) rfl cs_lit hn1 hn2 (Nat.le_trans hsr (hb6 _).size) ?_; intro v4 w4 ho4 hg4 hat4)
          obtain ⟨hO4, hB4⟩ := ownL_more (l := (yn, ((yv', yi'), yk'), ((yv, yi), yk))) HO.out (hb6 _) hsr (HD0.out.kept (fun q hq => (below_step hBr (hb6 _)).block q hq)) (HA0.out.kept (fun q hq => (below_step hBr (hb6 _)).block q hq)) ho4 hg4 hat4
          obtain ⟨r1, r3, rfl⟩ := slice_of_cl hO4.cl
          have HO4 := hide hO4
          have hBB := hBr.trans hB4
          clear hO4 ho4 hg4 hat4
          go_wp2_with fail
          go_roundw
          case rel => exact ⟨j + 1, _, r1, r3, _, by omega, by go_num, rfl, by simp; omega, Hst.out, HO4.out, hBB⟩
          case measure => simp [intOf]; omega
      · cases yn
        · have Hst : Hid (normC k = (6, [])) := by
            have ht : turnC k = none := turn_stop (j := j + 1) (by rw [Hstep.out]; simp [tstep, hss])
            rcases Hcs.out with ⟨_, h⟩ | ⟨d, h, _⟩
            · exact h
            · rw [ht] at h; cases h
          clear hss
          go_wp2_with fail
          go_ret2
          exact ⟨.slice none 0 0, by rw [Hst.out]; rfl, by rw [Hst.out]; exact CIn.nil _, hB2⟩
        · have Hst : Hid (turnC (k.take (j + 1)) = some out) := by
            show turnC _ = _
            rw [Hstep.out]
            simp [tstep, hss]
          clear hss
          have HO2 : Hid (OwnL w.heap.size (XO w2 (.slice o1 out.length o3)) w2 out (.slice o1 out.length o3) xs) := (HO.out.below hb2').wide (fun q hq => ⟨by have := hq.1; have := hb2'.size; omega, hq.2⟩) (fun _ h => h)
          go_wp2_with fail
          go_roundw
          case rel => exact ⟨j + 1, _, o1, o3, _, by omega, by go_num, rfl, by omega, Hst.out, HO2.out, hB2⟩
          case measure => simp [intOf]; omega
    · have hje : j = k.length := by omega
      subst hje
      have Hrest : Hid (GX out ∧ GX (reN out) ∧ ((distC (reN out) = none ∧ normC k = (6, [])) ∨ ∃ e, distC (reN out) = some e ∧ GX e ∧ normC k = keepC out e)) := by
        have ht := HT.out
        rw [List.take_length] at ht
        rcases Hcs.out with ⟨h, _⟩ | ⟨d', h, h2⟩
        · rw [ht] at h; cases h
        · rw [ht] at h; cases h; exact h2
      have HC1 := hide HO.out.cl
      clear HO HT Hcs
      have hd4 := Hrest.out.1.1
      have hv5 := gx_vars Hrest.out.1.2
      go_wp2_with fail
      refine (varsCR_any out _ _ HC1.out (by omega)).mono ?_
      rintro e w2 ⟨vv, rfl, hN, hb2⟩
      obtain ⟨n1, nc, nb, no, rfl, hnad, hnlc, hncm, hNF⟩ := hN
      unfold maxLen at hncm
      have HNF := hide hNF
      have hB2 := below_step hBr hb2
      have HC2 := hide (HC1.out.below hb2)
      have hs2 := hB2.size
      clear hNF hb2 HC1
      have Hvs : Hid (∀ i, i < (varsC out []).length → (varsC out [])[i]? = some ((varsC out []).getD i 0)) := fun i hi => by
        rw [List.getD_eq_getElem?_getD, List.getElem?_eq_getElem hi]; rfl
      generalize hvl : varsC out [] = vs at *
      have Hvl := hide hvl
      clear hvl
      go_upto_region 14 with fail
      have H0 : Hid (NumBox w2.heap.size (w2.heap.size + 1) ((w2.alloc (.cells #[] 92)).alloc (.cells #[.slice (some ⟨w2.heap.size, 0, none⟩) 0 0] 44)) ((numS vs).take 0) (.slice (some ⟨w2.heap.size, 0, none⟩) 0 0) []) := by
        refine ⟨⟨?_, rfl, fun _ h => h.elim⟩, ?_, ?_, ?_, ?_⟩
        · refine own_bare ?_ (Nat.le_refl _)
          rw [(below_alloc _ _).block _ (by simp)]
          exact heap_alloc_new _ _
        · simp [Value.ownBlock]
        · exact new_cell (World.size_alloc _ _)
        · exact new_frozen (World.size_alloc _ _)
        · simp
      have hB0 : Below w2.heap.size w2 ((w2.alloc (.cells #[] 92)).alloc (.cells #[.slice (some ⟨w2.heap.size, 0, none⟩) 0 0] 44)) := below_step (below_alloc _ _) (below_alloc _ _)
      generalize ((w2.alloc (.cells #[] 92)).alloc (.cells #[.slice (some ⟨w2.heap.size, 0, none⟩) 0 0] 44)) = w3 at *
      go_wp2_with fail
      go_loopw [56] (fun i wr => ∃ (m : Nat) (q1 : Option Addr) (q3 : Nat) (ys : List Value), m ≤ vs.length ∧ i = .int .i64 m ∧ NumBox w2.heap.size (w2.heap.size + 1) wr ((numS vs).take m) (.slice q1 m q3) ys ∧ Below w2.heap.size w2 wr) (fun i _ => vs.length - (intOf i).toNat)
      case atStart => exact ⟨0, _, _, [], Nat.zero_le _, rfl, H0.out, hB0⟩
      case round =>
        obtain ⟨m, q1, q3, ys, hm, rfl, hNB, hBx⟩ := hrel
        have HNB := hide hNB
        have hsx := hBx.size
        by_cases hmlt : m < vs.length
        · have hmlt' : (m : Int) < (vs.length : Int) := by omega
          have hn1a : n1 = some ⟨nb, no, none⟩ := hnad (by omega)
          subst hn1a
          obtain ⟨-, hqb, qc, qf, hqlt⟩ := hNB
          have HV := hide (Hvs.out m hmlt)
          have pv := grow_cell hBx _ _ (HNF.out m hmlt)
          generalize vs.getD m 0 = vm at *
          have hm1 : m + 1 ≤ maxLen := by unfold maxLen; omega
          have hm2 : (m + 1) * 48 ≤ 140737488355328 := by omega
          have Hrow : Hid (wr.ownsRow w2.heap.size 92 4 (.slice q1 m q3) m ys) := by
            have h := HNB.out.1.row
            have e : ((numS vs).take m).length = m := by simp [numS]; omega
            rw [e] at h
            exact h
          have hbx : ∀ ob, Below wr.heap.size wr (wr.alloc ob) := fun ob => below_alloc _ _
          clear hnad hqb
          have hlen1 : ((numS vs).take (m + 1)).length = m + 1 := by simp [numS]; omega
          have Hlen1 := hide hlen1
          clear hlen1
          go_wp2_with (at_builtin; refine wpList_append_gen rfl (.tmp 61) (.tmp 66) 44 rfl w2.heap.size 92 iP (.agg #[.int .i64 0, .bool false, .int .i64 0, .slice none 0 0]) 4 48 Tryz.underlying44 hiP hy0 hy1 hy2 rfl (by decide) (.slice q1 m q3) m ys rfl (owns_keep Hrow.out (fun g hg => (hbx _).block g (owns_at Hrow.out g hg).2)) _ 1 [.int .i64 vm, .bool true, .int .i64 m, .slice none 0 0] rfl (cs_pair (heap_alloc_new _ _)) hm1 hm2 (Nat.le_trans hsx (hbx _).size) ?_; intro v4 w4 ho4 hg4 hat4; obtain ⟨hNB4, hB4, qc4, qf4⟩ := numbox_next HNB.out HV.out (by omega) ho4 hg4 hat4; obtain ⟨r1, r3, hr⟩ := slice_of_sub hNB4.1.sub; rw [Hlen1.out] at hr; subst hr; have HNB4 := hide hNB4; clear hNB4 ho4 hg4 hat4)
          go_roundw
          case rel => exact ⟨m + 1, r1, r3, _, by omega, by go_num, HNB4.out, hBx.trans hB4⟩
          case measure => simp [intOf]; omega
        · have hme : m = vs.length := by omega
          subst hme
          have HNB' : Hid (SubIn wr (numS vs) (.slice q1 vs.length q3)) := by
            have := HNB.out.1.sub
            rw [List.take_of_length_le (by simp [numS])] at this
            exact this
          obtain ⟨-, -, qc, -, -⟩ := hNB
          have hB3 := below_step hB2 hBx
          have HC3 := hide (HC2.out.below hBx)
          clear HNB HC2 H0 hB0
          go_wp2_with fail
          refine (eachDN_any (w2.heap.size + 1) (subT (bnd (numS vs))) (fun t => okT t ∧ narT t) out _ wr (cloDN_any (numS vs) _ _ wr qc HNB'.out (fun p hp => (num_gd hv5 p hp).ok)) HC3.out (fun l hl => ⟨⟨(Hrest.out.1.2 l hl).gl.ok, (Hrest.out.1.2 l hl).gl.nar⟩, (Hrest.out.1.2 l hl).gr.ok, (Hrest.out.1.2 l hl).gr.nar⟩) (by omega)).mono ?_
          rintro e w5 ⟨v5, xs5, rfl, hO5, hb5⟩
          have hC5 : CIn w5 (reN out) v5 := by
            have := hO5.cl
            rw [reN, Hvl.out]
            exact this
          have hB5 := below_step hB3 hb5
          clear hO5 hb5 HC3 HNB' qc
          obtain ⟨P, hP⟩ : ∃ P, P = reN out := ⟨_, rfl⟩
          have HrP : Hid (GX P ∧ ((distC P = none ∧ normC k = (6, [])) ∨ ∃ e, distC P = some e ∧ GX e ∧ normC k = keepC out e)) := by rw [hP]; exact Hrest.out.2
          rw [← hP] at hC5
          clear hP
          obtain ⟨e1, ec, eb, eo, rfl, head5, helc, hecm, hEF⟩ := hC5
          unfold maxLen at hecm
          have HEF := hide hEF
          have hP4 := HrP.out.1.1
          clear hEF
          go_wp2_with fail
          go_loopw [11, 74] (fun v i wr => ∃ (j : Nat) (ou : Cl) (o1 : Option Addr) (o3 : Nat) (xs : List Value), j ≤ P.length ∧ i = .int .i64 j ∧ v = .slice o1 ou.length o3 ∧ ou.length ≤ j ∧ distC (P.take j) = some ou ∧ OwnL w5.heap.size (XO wr v) wr ou v xs ∧ Below w5.heap.size w5 wr) (fun _ i _ => P.length - (intOf i).toNat)
          case atStart => exact ⟨0, [], none, 0, [], Nat.zero_le _, rfl, rfl, Nat.le_refl _, rfl, ownL_nil _ _, Below.refl _ _⟩
          case round =>
            obtain ⟨j, ou, o1, o3, xs, hj, rfl, rfl, hol, hT, hO, hBo⟩ := hrel
            have HT := hide hT
            have HO := hide hO
            clear hT hO
            have hsr := hBo.size
            by_cases hlt : j < P.length
            · have hlt' : (j : Int) < (P.length : Int) := by omega
              have hj0 : (0 : Int) ≤ (j : Int) := by omega
              obtain ⟨⟨xn, ⟨⟨xv, xi⟩, xk⟩, ⟨xv', xi'⟩, xk'⟩, hx⟩ : ∃ y, P[j]? = some y := ⟨P[j]'hlt, by simp⟩
              obtain ⟨-, -, -, ⟨u3', p3', hA0⟩, -, -, u6', p6', hD0⟩ := HEF.out.at hx
              obtain ⟨p0, p1, p2, ⟨u3, p3, hA⟩, p4, p5, u6, p6, hD⟩ := (HEF.out.below hBo).at hx
              have e3 : u3' = u3 := by have := grow_cell hBo _ _ p3'; rw [p3] at this; exact (Option.some.inj this).symm
              have e6 : u6' = u6 := by have := grow_cell hBo _ _ p6'; rw [p6] at this; exact (Option.some.inj this).symm
              subst e3 e6
              have he1 : e1 = some ⟨eb, eo, none⟩ := head5 (by omega)
              subst he1
              have HA := hide hA
              have HD := hide hD
              have HA0 := hide hA0.toB
              have HD0 := hide hD0.toB
              obtain ⟨ya, yc, _, _, rfl, -, -, -, -⟩ := hA
              obtain ⟨za, zc, _, _, rfl, -, -, -, -⟩ := hD
              have Hkept : Hid ((∀ d, dstep (some ou) (xn, ((xv, xi), xk), ((xv', xi'), xk')) = some d → distC (P.take (j + 1)) = some d) ∧ (dstep (some ou) (xn, ((xv, xi), xk), ((xv', xi'), xk')) = none → normC k = (6, [])) ∧ (dstep (some ou) (xn, ((xv, xi), xk), ((xv', xi'), xk')) = none ↔ ∃ y ∈ P.take j, likeL (xn, ((xv, xi), xk), ((xv', xi'), xk')) y = true ∧ y.1 ≠ xn) ∧ (dstep (some ou) (xn, ((xv, xi), xk), ((xv', xi'), xk')) = some ou ↔ (∃ y ∈ P.take j, likeL (xn, ((xv, xi), xk), ((xv', xi'), xk')) y = true) ∧ ¬ ∃ y ∈ P.take j, likeL (xn, ((xv, xi), xk), ((xv', xi'), xk')) y = true ∧ y.1 ≠ xn) ∧ ((∀ y ∈ P.take j, likeL (xn, ((xv, xi), xk), ((xv', xi'), xk')) y = false) → dstep (some ou) (xn, ((xv, xi), xk), ((xv', xi'), xk')) = some (ou ++ [(xn, ((xv, xi), xk), ((xv', xi'), xk'))]))) := by
                have hok : ∀ y ∈ P.take j, okL y := fun y hy => (HrP.out.1.2 y (List.mem_of_mem_take hy)).okl
                have hkp := dist_kept hok HT.out
                have hst : distC (P.take (j + 1)) = dstep (some ou) (xn, ((xv, xi), xk), ((xv', xi'), xk')) := by rw [dist_take hx, HT.out]
                have h := kept_step (o' := dstep (some ou) (xn, ((xv, xi), xk), ((xv', xi'), xk'))) hkp hok (HrP.out.1.2 _ (List.mem_of_getElem? hx)).okl rfl
                refine ⟨fun d hd => by rw [hst, hd], fun hn => ?_, h.2.1, h.2.2.1, h.2.2.2⟩
                have : distC P = none := dist_stop (j := j + 1) (by rw [hst, hn])
                rcases HrP.out.2 with ⟨_, h⟩ | ⟨d, h, _⟩
                · exact h
                · rw [this] at h; cases h
              have hn1 : ou.length + 1 ≤ maxLen := by unfold maxLen; omega
              have hn2 : (ou.length + 1) * 88 ≤ 140737488355328 := by omega
              have hup := fun w => lits_upto (b := eb) (o := eo) hlt helc w
              clear hx head5 p3' p6' hA0 hD0
              simp only at *
              go_upto_region 24 with fail
              generalize hwa : wr.alloc (.cells #[.bool xn, .bool xv, .int .i64 xi, .slice ya (Fo.len xk) yc, .bool xv', .int .i64 xi', .slice za (Fo.len xk') zc] 42) = wa
              obtain ⟨g0, g1, g2, g3, g4, g5, g6, -, hba, hsa⟩ := lit_cells (T := 42) (x0 := .bool xn) (w := wr) (wr := wa) (x1 := .bool xv) (x2 := .int .i64 xi) (x3 := .slice ya (Fo.len xk) yc) (x4 := .bool xv') (x5 := .int .i64 xi') (x6 := .slice za (Fo.len xk') zc) (by rw [← hwa]; exact Below.refl _ _)
              have HX1 := hide (HA.out.below hba)
              have HX2 := hide (HD.out.below hba)
              have hBa := below_step hBo hba
              generalize hbx : wr.heap.size = bx at *
              generalize wr = wo at *
              clear hwa HA HD p0 p1 p2 p3 p4 p5 p6
              go_wp2_with fail
              go_loopw [14, 83] (fun v i wn => ∃ (t : Nat), t ≤ j ∧ i = .int .i64 t ∧ v = .bool ((P.take t).any (likeL (xn, ((xv, xi), xk), ((xv', xi'), xk')))) ∧ (∀ y ∈ P.take t, likeL (xn, ((xv, xi), xk), ((xv', xi'), xk')) y = true → y.1 = xn) ∧ Below wa.heap.size wa wn) (fun _ i _ => j - (intOf i).toNat)
              case atStart => exact ⟨0, Nat.zero_le _, rfl, rfl, fun y hy => (by simp at hy), Below.refl _ _⟩
              case round =>
                obtain ⟨t, ht, rfl, rfl, hno, hBn⟩ := hrel
                have Hno0 := hide hno
                clear hno
                replace g0 := grow_cell hBn _ _ g0
                replace g1 := grow_cell hBn _ _ g1
                replace g2 := grow_cell hBn _ _ g2
                replace g3 := grow_cell hBn _ _ g3
                replace g4 := grow_cell hBn _ _ g4
                replace g5 := grow_cell hBn _ _ g5
                replace g6 := grow_cell hBn _ _ g6
                by_cases htl : t < j
                · have htl' : (t : Int) < (j : Int) := by omega
                  have htP : t < P.length := by omega
                  obtain ⟨⟨yn, ⟨⟨yv, yi⟩, yk⟩, ⟨yv', yi'⟩, yk'⟩, hy⟩ : ∃ y, P[t]? = some y := ⟨P[t]'htP, by simp⟩
                  obtain ⟨p0, p1, p2, ⟨u3, p3, hA⟩, p4, p5, u6, p6, hD⟩ := (HEF.out.below (below_step hBa hBn)).at hy
                  have HY1 := hide hA
                  have HY2 := hide hD
                  obtain ⟨ta, tc, _, _, rfl, -, -, -, -⟩ := hA
                  obtain ⟨sa, sc, _, _, rfl, -, -, -, -⟩ := hD
                  have Htk : Hid (P.take (t + 1) = P.take t ++ [(yn, ((yv, yi), yk), ((yv', yi'), yk'))]) := by rw [Hid, List.take_add_one, hy]; rfl
                  clear hy
                  simp only at *
                  go_upto_region 28 with fail
                  generalize hwb : wr.alloc (.cells #[.bool yn, .bool yv, .int .i64 yi, .slice ta (Fo.len yk) tc, .bool yv', .int .i64 yi', .slice sa (Fo.len yk') sc] 42) = wb
                  obtain ⟨k0, k1, k2, k3, k4, k5, k6, -, hbn, hsb⟩ := lit_cells (T := 42) (x0 := .bool yn) (w := wr) (wr := wb) (x1 := .bool yv) (x2 := .int .i64 yi) (x3 := .slice ta (Fo.len yk) tc) (x4 := .bool yv') (x5 := .int .i64 yi') (x6 := .slice sa (Fo.len yk') sc) (by rw [← hwb]; exact Below.refl _ _)
                  replace hBn := below_step hBn hbn
                  replace HY1 := hide (HY1.out.below hbn)
                  replace HY2 := hide (HY2.out.below hbn)
                  replace g0 := grow_cell hbn _ _ g0
                  replace g1 := grow_cell hbn _ _ g1
                  replace g2 := grow_cell hbn _ _ g2
                  replace g3 := grow_cell hbn _ _ g3
                  replace g4 := grow_cell hbn _ _ g4
                  replace g5 := grow_cell hbn _ _ g5
                  replace g6 := grow_cell hbn _ _ g6
                  generalize wr.heap.size = by' at *
                  clear hwb hbn p0 p1 p2 p3 p4 p5 p6
                  go_wp2_with fail
                  refine (likeR_any (xn, ((xv, xi), xk), ((xv', xi'), xk')) (yn, ((yv, yi), yk), ((yv', yi'), yk')) _ _ _ _ _ (HX1.out.below hBn) (HX2.out.below hBn) HY1.out HY2.out).mono ?_
                  rintro e wn ⟨rfl, hbn⟩
                  replace hBn := below_step hBn hbn
                  replace g0 := grow_cell hbn _ _ g0
                  replace g1 := grow_cell hbn _ _ g1
                  replace g2 := grow_cell hbn _ _ g2
                  replace g3 := grow_cell hbn _ _ g3
                  replace g4 := grow_cell hbn _ _ g4
                  replace g5 := grow_cell hbn _ _ g5
                  replace g6 := grow_cell hbn _ _ g6
                  replace k0 := grow_cell hbn _ _ k0
                  replace k1 := grow_cell hbn _ _ k1
                  replace k2 := grow_cell hbn _ _ k2
                  replace k3 := grow_cell hbn _ _ k3
                  replace k4 := grow_cell hbn _ _ k4
                  replace k5 := grow_cell hbn _ _ k5
                  replace k6 := grow_cell hbn _ _ k6
                  cases hlk : likeL (xn, ((xv, xi), xk), ((xv', xi'), xk')) (yn, ((yv, yi), yk), ((yv', yi'), yk'))
                  · have Hlk := hide hlk
                    have Hno : Hid (∀ y ∈ P.take (t + 1), likeL (xn, ((xv, xi), xk), ((xv', xi'), xk')) y = true → y.1 = xn) := fun y hy h => by
                      rw [Htk.out, List.mem_append] at hy
                      rcases hy with hy | hy
                      · exact Hno0.out y hy h
                      · simp at hy; subst hy; rw [hlk] at h; cases h
                    clear hlk
                    obtain ⟨hd, hhad⟩ : ∃ hd, hd = (P.take t).any (likeL (xn, ((xv, xi), xk), ((xv', xi'), xk'))) := ⟨_, rfl⟩
                    rw [← hhad]
                    replace hhad := hhad.symm
                    cases hd
                    · have Hany : Hid ((P.take (t + 1)).any (likeL (xn, ((xv, xi), xk), ((xv', xi'), xk'))) = false) := by rw [Hid, Htk.out, List.any_append, hhad]; simp [Hlk.out]
                      clear hhad
                      go_wp2_with fail
                      refine (likeR_any (xn, ((xv, xi), xk), ((xv', xi'), xk')) (yn, ((yv, yi), yk), ((yv', yi'), yk')) _ _ _ _ _ (HX1.out.below hBn) (HX2.out.below hBn) (HY1.out.below hbn) (HY2.out.below hbn)).mono ?_
                      rintro e wn' ⟨rfl, hbn'⟩
                      rw [Hlk.out]
                      replace hBn := below_step hBn hbn'
                      clear hbn'
                      go_wp2_with fail
                      go_roundw
                      case rel => exact ⟨t + 1, by omega, by go_num, by rw [Hany.out], Hno.out, hBn⟩
                      case measure => simp [intOf]; omega
                    · have Hany : Hid ((P.take (t + 1)).any (likeL (xn, ((xv, xi), xk), ((xv', xi'), xk'))) = true) := by rw [Hid, Htk.out, List.any_append, hhad]; simp
                      clear hhad
                      go_wp2_with fail
                      go_roundw
                      case rel => exact ⟨t + 1, by omega, by go_num, by rw [Hany.out], Hno.out, hBn⟩
                      case measure => simp [intOf]; omega
                  · have Hlk := hide hlk
                    clear hlk
                    by_cases hne : xn = yn
                    · have Hno : Hid (∀ y ∈ P.take (t + 1), likeL (xn, ((xv, xi), xk), ((xv', xi'), xk')) y = true → y.1 = xn) := fun y hy h => by
                        rw [Htk.out, List.mem_append] at hy
                        rcases hy with hy | hy
                        · exact Hno0.out y hy h
                        · simp at hy; subst hy; exact hne.symm
                      subst hne
                      obtain ⟨hd, hhad⟩ : ∃ hd, hd = (P.take t).any (likeL (xn, ((xv, xi), xk), ((xv', xi'), xk'))) := ⟨_, rfl⟩
                      rw [← hhad]
                      replace hhad := hhad.symm
                      cases hd
                      · have Hany : Hid ((P.take (t + 1)).any (likeL (xn, ((xv, xi), xk), ((xv', xi'), xk'))) = true) := by rw [Hid, Htk.out, List.any_append, hhad]; simp [Hlk.out]
                        clear hhad
                        go_wp2_with fail
                        refine (likeR_any (xn, ((xv, xi), xk), ((xv', xi'), xk')) (xn, ((yv, yi), yk), ((yv', yi'), yk')) _ _ _ _ _ (HX1.out.below hBn) (HX2.out.below hBn) (HY1.out.below hbn) (HY2.out.below hbn)).mono ?_
                        rintro e wn' ⟨rfl, hbn'⟩
                        rw [Hlk.out]
                        replace hBn := below_step hBn hbn'
                        clear hbn'
                        go_wp2_with fail
                        go_roundw
                        case rel => exact ⟨t + 1, by omega, by go_num, by rw [Hany.out], Hno.out, hBn⟩
                        case measure => simp [intOf]; omega
                      · have Hany : Hid ((P.take (t + 1)).any (likeL (xn, ((xv, xi), xk), ((xv', xi'), xk'))) = true) := by rw [Hid, Htk.out, List.any_append, hhad]; simp
                        clear hhad
                        go_wp2_with fail
                        go_roundw
                        case rel => exact ⟨t + 1, by omega, by go_num, by rw [Hany.out], Hno.out, hBn⟩
                        case measure => simp [intOf]; omega
                    · have Hst : Hid (normC k = (6, [])) := Hkept.out.2.1 (Hkept.out.2.2.1.2 ⟨(yn, ((yv, yi), yk), ((yv', yi'), yk')), by
                        have hm : (yn, ((yv, yi), yk), ((yv', yi'), yk')) ∈ P.take (t + 1) := by rw [Htk.out]; simp
                        rw [show P.take (t + 1) = (P.take j).take (t + 1) by rw [List.take_take]; congr 1; omega] at hm
                        exact List.mem_of_mem_take hm, Hlk.out, fun e => hne e.symm⟩)
                      have hBfin := below_step (below_step hB5 hBa) hBn
                      have hyx : yn = !xn := by cases xn <;> cases yn <;> first | rfl | exact absurd rfl hne
                      subst hyx
                      clear hne
                      cases xn
                      all_goals
                        simp only [Bool.not_false, Bool.not_true] at *
                        go_wp2_with fail
                        go_ret2
                        exact ⟨.slice none 0 0, by rw [Hst.out]; rfl, by rw [Hst.out]; exact CIn.nil _, hBfin⟩
                · have hte : t = j := by omega
                  subst hte
                  have hbw : Below wo.heap.size wo wr := by
                    have hba2 := hba
                    rw [← hbx] at hba2
                    exact below_step hba2 hBn
                  have hsr' : w5.heap.size ≤ wo.heap.size := by rw [hbx]; exact hsr
                  obtain ⟨hd, hhad⟩ : ∃ hd, hd = (P.take t).any (likeL (xn, ((xv, xi), xk), ((xv', xi'), xk'))) := ⟨_, rfl⟩
                  rw [← hhad]
                  replace hhad := hhad.symm
                  cases hd
                  · have Hst : Hid (distC (P.take (t + 1)) = some (ou ++ [(xn, ((xv, xi), xk), ((xv', xi'), xk'))])) := Hkept.out.1 _ (Hkept.out.2.2.2.2 (fun y hy => by simpa using List.any_eq_false.1 hhad y hy))
                    have hb6 : ∀ ob, Below wo.heap.size wo (wr.alloc ob) := fun ob => below_step hbw (below_alloc _ _)
                    clear hhad
                    go_wp2_with (at_builtin; refine wpList_append_gen rfl (.tmp 106) (.tmp 108) 25 rfl w5.heap.size 42 iL (.agg #[.bool false, .bool false, .int .i64 0, .slice none 0 0, .bool false, .int .i64 0, .slice none 0 0]) 7 88 Tryz.underlying25 hi hz0 hz1 hz2 rfl (by decide) (.slice o1 ou.length o3) ou.length xs rfl (OwnL.below HO.out (hb6 _)).row _ 1 (litV (xn, ((xv, xi), xk), ((xv', xi'), xk')) (.slice ya (Fo.len xk) yc) (.slice za (Fo.len xk') zc)) rfl cs_lit hn1 hn2 (Nat.le_trans hsr' (hb6 _).size) ?_; intro v4 w4 ho4 hg4 hat4)
                    obtain ⟨hO4, hB4⟩ := ownL_more (l := (xn, ((xv, xi), xk), ((xv', xi'), xk'))) HO.out (hb6 _) hsr' (HA0.out.kept (fun q hq => (below_step hBo (hb6 _)).block q hq)) (HD0.out.kept (fun q hq => (below_step hBo (hb6 _)).block q hq)) ho4 hg4 hat4
                    obtain ⟨r1, r3, rfl⟩ := slice_of_cl hO4.cl
                    have HO4 := hide hO4
                    have hBB := hBo.trans hB4
                    clear hO4 ho4 hg4 hat4
                    go_wp2_with fail
                    go_roundw
                    case rel => exact ⟨t + 1, _, r1, r3, _, by omega, by go_num, rfl, by simp; omega, Hst.out, HO4.out, hBB⟩
                    case measure => simp [intOf]; omega
                  · have Hst : Hid (distC (P.take (t + 1)) = some ou) := Hkept.out.1 _ (Hkept.out.2.2.2.1.2 ⟨by
                      obtain ⟨y, hy, h⟩ := List.any_eq_true.1 hhad
                      exact ⟨y, hy, h⟩, fun ⟨y, hy, h, hne⟩ => hne (Hno0.out y hy h)⟩)
                    have HO2 : Hid (OwnL w5.heap.size (XO wr (.slice o1 ou.length o3)) wr ou (.slice o1 ou.length o3) xs) := (HO.out.below hbw).wide (fun q hq => ⟨by have := hq.1; have := hbw.size; omega, hq.2⟩) (fun _ h => h)
                    have hBB := below_step hBo hbw
                    clear hhad
                    go_wp2_with fail
                    go_roundw
                    case rel => exact ⟨t + 1, _, o1, o3, _, by omega, by go_num, rfl, by omega, Hst.out, HO2.out, hBB⟩
                    case measure => simp [intOf]; omega
            · have hje : j = P.length := by omega
              subst hje
              have Hn : Hid (GX ou ∧ normC k = keepC out ou) := by
                have ht := HT.out
                rw [List.take_length] at ht
                rcases HrP.out.2 with ⟨h, _⟩ | ⟨d, h, h2⟩
                · rw [ht] at h; cases h
                · rw [ht] at h; cases h; exact h2
              have HC6 := hide HO.out.cl
              have hB6 := below_step hB5 hBo
              clear HO HT
              obtain ⟨f1, fc, fb, fo, hfe, fad, flc, fcm, hFF⟩ := HC6.out
              simp only [Value.slice.injEq, true_and] at hfe
              obtain ⟨rfl, rfl⟩ := hfe
              unfold maxLen at fcm
              have HFF := hide hFF
              clear hFF
              obtain ⟨B0, hB0⟩ : ∃ B0, (decide (4 < ou.length) || decide (5 < vs.length)) = B0 := ⟨_, rfl⟩
              have HB0 := hide hB0
              clear hB0
              generalize wr = wq at *
              go_upto_region 35 with fail
              go_cut [17] (fun s17 wx => s17 = .bool B0 ∧ wq = wx)
              case first =>
                by_cases c4 : 4 < ou.length
                · have c4' : (4 : Int) < (ou.length : Int) := by omega
                  go_wp2_with fail
                  go_meet
                  case rel => exact ⟨by rw [← HB0.out, decide_eq_true c4]; rfl, rfl⟩
                have c4' : ¬ (4 : Int) < (ou.length : Int) := by omega
                by_cases c5 : 5 < vs.length
                · have c5' : (5 : Int) < (vs.length : Int) := by omega
                  go_wp2_with fail
                  go_meet
                  case rel => exact ⟨by rw [← HB0.out, decide_eq_true c5, Bool.or_true], rfl⟩
                · have c5' : ¬ (5 : Int) < (vs.length : Int) := by omega
                  go_wp2_with fail
                  go_meet
                  case rel => exact ⟨by rw [← HB0.out, decide_eq_false c4, decide_eq_false c5]; rfl, rfl⟩
              case rest =>
                obtain ⟨rfl, rfl⟩ := hcut
                have Hkb : Hid ((B0 || ou.any bigL) = true → keepC out ou = (4, [])) := fun h => keep_big (by
                  rw [← HB0.out, Bool.or_eq_true, Bool.or_eq_true, decide_eq_true_eq, decide_eq_true_eq, ← Hvl.out] at h
                  exact h)
                have Hko : Hid ((B0 || ou.any bigL) = false → keepC out ou = (0, ou)) := fun h => by
                  rw [← HB0.out, Bool.or_eq_false_iff, Bool.or_eq_false_iff, decide_eq_false_iff_not, decide_eq_false_iff_not, ← Hvl.out] at h
                  exact keep_ok h.1.1 h.1.2 h.2
                go_wp2_with fail
                go_loopw [17, 121] (fun v i wr => ∃ (t : Nat), t ≤ ou.length ∧ i = .int .i64 t ∧ v = .bool (B0 || (ou.take t).any bigL) ∧ Below wq.heap.size wq wr) (fun _ i _ => ou.length - (intOf i).toNat)
                case atStart => exact ⟨0, Nat.zero_le _, rfl, by simp, Below.refl _ _⟩
                case round =>
                  obtain ⟨t, ht, rfl, rfl, hBn⟩ := hrel
                  obtain ⟨cb, hcb⟩ : ∃ cb, (B0 || (ou.take t).any bigL) = cb := ⟨_, rfl⟩
                  rw [hcb]
                  have Hcb := hide hcb
                  clear hcb
                  by_cases htl : t < ou.length
                  · have htl' : (t : Int) < (ou.length : Int) := by omega
                    obtain ⟨⟨yn, ⟨⟨yv, yi⟩, yk⟩, ⟨yv', yi'⟩, yk'⟩, hy⟩ : ∃ y, ou[t]? = some y := ⟨ou[t]'htl, by simp⟩
                    obtain ⟨p0, p1, p2, ⟨u3, p3, hA⟩, p4, p5, u6, p6, hD⟩ := (HFF.out.below hBn).at hy
                    have hf1 : o1 = some ⟨fb, fo, none⟩ := fad (by omega)
                    subst hf1
                    have HY1 := hide hA
                    have HY2 := hide hD
                    obtain ⟨ta, tc, _, _, rfl, -, -, -, -⟩ := hA
                    obtain ⟨sa, sc, _, _, rfl, -, -, -, -⟩ := hD
                    have Hgl := hide (Hn.out.1.2 _ (List.mem_of_getElem? hy))
                    have hs1 : tszR yk ≤ 4000000000000 := Hgl.out.sl
                    have hs2 : tszR yk' ≤ 4000000000000 := Hgl.out.sr
                    have Hw1 : Hid (wrap64 (tszR yk : Nat) = (tszR yk : Nat)) := wrap64_small (by omega) (by omega)
                    have Hw2 : Hid (wrap64 (tszR yk' : Nat) = (tszR yk' : Nat)) := wrap64_small (by omega) (by omega)
                    have Hnx : Hid ((B0 || (ou.take (t + 1)).any bigL) = (cb || (decide (12 < tszR yk) || decide (12 < tszR yk')))) := by
                      rw [Hid, ← Hcb.out, List.take_add_one, hy]
                      simp [bigL, Bool.or_assoc]
                    clear hy fad
                    simp only at *
                    cases cb
                    · go_wp2_with fail
                      refine (sizeR_any (yv, yi) yk _ _ (HY1.out.alloc _)).mono ?_
                      rintro e w7 ⟨rfl, hb7⟩
                      rw [Hw1.out]
                      obtain ⟨g0, g1, g2, g3, g4, g5, g6, -, hb7', hlt7⟩ := lit_cells hb7
                      replace hBn := below_step hBn hb7'
                      replace HY2 := hide (HY2.out.below hb7')
                      clear hb7 hb7' p0 p1 p2 p3 p4 p5 p6
                      by_cases c1 : 12 < tszR yk
                      · have c1' : (12 : Int) < (tszR yk : Nat) := by omega
                        have hd1 : decide ((12 : Int) < (tszR yk : Nat)) = true := decide_eq_true c1'
                        go_wp2_with fail
                        go_roundw
                        case rel => exact ⟨t + 1, by omega, by go_num, by rw [Hnx.out, decide_eq_true c1]; rfl, hBn⟩
                        case measure => simp [intOf]; omega
                      · have c1' : ¬ (12 : Int) < (tszR yk : Nat) := by omega
                        have hd1 : decide ((12 : Int) < (tszR yk : Nat)) = false := decide_eq_false c1'
                        go_wp2_with fail
                        refine (sizeR_any (yv', yi') yk' _ _ HY2.out).mono ?_
                        rintro e w8 ⟨rfl, hb8⟩
                        rw [Hw2.out]
                        replace hBn := below_step hBn hb8
                        clear hb8
                        obtain ⟨c2, hc2⟩ : ∃ c2, decide ((12 : Int) < (tszR yk' : Nat)) = c2 := ⟨_, rfl⟩
                        have Hc2 : Hid (decide (12 < tszR yk') = c2) := by
                          rw [Hid, ← hc2, decide_eq_decide]
                          omega
                        go_wp2_with fail
                        go_roundw
                        case rel => exact ⟨t + 1, by omega, by go_num, by rw [Hnx.out, decide_eq_false c1, Hc2.out, ← hc2]; simp, hBn⟩
                        case measure => simp [intOf]; omega
                    · have hBn2 := below_step hBn (below_alloc wr (.cells #[.bool yn, .bool yv, .int .i64 yi, .slice ta (Fo.len yk) tc, .bool yv', .int .i64 yi', .slice sa (Fo.len yk') sc] 42))
                      go_wp2_with fail
                      go_roundw
                      case rel => exact ⟨t + 1, by omega, by go_num, by rw [Hnx.out]; rfl, hBn2⟩
                      case measure => simp [intOf]; omega
                  · have hte : t = ou.length := by omega
                    subst hte
                    have Hfin : Hid ((B0 || ou.any bigL) = cb) := by
                      have := Hcb.out
                      rw [List.take_length] at this
                      exact this
                    have HC7 := hide (HC6.out.below hBn)
                    have hBfin := below_step hB6 hBn
                    cases cb
                    · have Hk := hide (Hko.out Hfin.out)
                      go_wp2_with fail
                      go_ret2
                      exact ⟨.slice o1 ou.length o3, by rw [Hn.out.2, Hk.out]; rfl, by rw [Hn.out.2, Hk.out]; exact HC7.out, hBfin⟩
                    · have Hk := hide (Hkb.out Hfin.out)
                      go_wp2_with fail
                      go_ret2
                      exact ⟨.slice none 0 0, by rw [Hn.out.2, Hk.out]; rfl, by rw [Hn.out.2, Hk.out]; exact CIn.nil _, hBfin⟩
end Go.Proofs.YtaliegkkdhkfcacGreat

namespace Go.Proofs.YtaliegkkdhkfcacGreat
open Go.RowKit Go.Deep Go.ChangeShapes Go.WideShapes
theorem Tryz.info25 : (Tryz.prog.info? 25).map (fun i => (i.zero, i.size, i.bytes)) = some (some (.slice none 0 0), 1, 24) := by kernel_rfl
def addP (st : List Cl × Bool) (n : Int × Cl) : List Cl × Bool := if n.1 = 4 then (st.1, true) else if n.1 ≠ 0 then st else if st.1.any (fun x => sameC x n.2) then st else (st.1 ++ [n.2], st.2)
structure LSt (lo : Nat) (w : World) (p : Nat) (cs : List Cl) (lost : Bool) (v : Value) (xs : List Value) : Prop where
  c0 : w.cell? ⟨p, 0, none⟩ = some v
  c1 : w.cell? ⟨p, 1, none⟩ = some (.bool lost)
  cn : w.cell? ⟨p, 2, none⟩ = none
  fz : ∀ i, w.frozen? ⟨p, i, none⟩ = false
  row : w.ownsRow lo 25 1 v cs.length xs
  sl : ∀ g, v.ownBlock = some g → SlR w g
  el : ∀ (i : Nat) (c : Cl), cs[i]? = some c → ∃ cv, xs[i]? = some cv ∧ CIn w c cv
  po : lo ≤ p ∧ p < w.heap.size
  ne : v.ownBlock ≠ some p
section
variable {lo : Nat} {w w' : World} {p : Nat} {cs : List Cl} {lost : Bool} {v : Value} {xs : List Value}
theorem LSt.slice (h : LSt lo w p cs lost v xs) : ∃ z1 z3, v = .slice z1 cs.length z3 := by
  rcases h.row.2 with ⟨rfl, e⟩ | ⟨g, cap, cur, rfl, _⟩
  · exact ⟨none, 0, by rw [e]⟩
  · exact ⟨_, cap, rfl⟩
theorem LSt.below (h : LSt lo w p cs lost v xs) (hb : Below w.heap.size w w') : LSt lo w' p cs lost v xs where
  c0 := grow_cell hb _ _ h.c0
  c1 := grow_cell hb _ _ h.c1
  cn := by rw [hb.cell (p := ⟨p, 2, none⟩) h.po.2]; exact h.cn
  fz := fun i => (hb.frozen (p := ⟨p, i, none⟩) h.po.2).trans (h.fz i)
  row := owns_keep h.row (fun g hg => hb.block g (owns_at h.row g hg).2)
  sl := fun g hg => (h.sl g hg).keep (hb.block g (owns_at h.row g hg).2)
  el := fun i c hc => by
    obtain ⟨cv, h1, h2⟩ := h.el i c hc
    exact ⟨cv, h1, h2.below hb⟩
  po := ⟨h.po.1, Nat.lt_of_lt_of_le h.po.2 hb.size⟩
  ne := h.ne
theorem LSt.not (h : LSt lo w p cs lost v xs) : NoT w p := fun o x hx => by
  obtain ⟨z1, z3, e⟩ := h.slice
  match o, hx with
  | 0, hx => rw [h.c0, e] at hx; cases hx
  | 1, _ => exact h.cn
  | o + 2, hx =>
    exfalso
    -- no cell behind the second one
    have h2 := h.cn
    obtain ⟨cur, T, f, hb⟩ : ∃ cur T f, w.heap[p]? = some (.cells cur T f) := by
      have h0 := h.c0
      unfold World.cell? at h0
      revert h0
      cases hp : w.heap[p]? with
      | none => intro h0; simp at h0
      | some ob =>
        cases ob with
        | cells cur T f => intro _; exact ⟨cur, T, f, rfl⟩
        | _ => intro h0; simp at h0
    have e1 : cur[2]? = none := by simpa [World.cell?, hb] using h2
    have e2 : cur[o + 2]? = some (.bool x) := by simpa [World.cell?, hb] using hx
    have l1 : cur.size ≤ 2 := by simpa using e1
    have l2 : o + 2 < cur.size := (Array.getElem?_eq_some_iff.1 e2).1
    omega
theorem LSt.csin (h : LSt lo w p cs lost v xs) : CsIn w cs v := by
  have hcells := fun g hg => h.row.cells (g := g) hg
  rcases h.row.2 with ⟨e, h0⟩ | ⟨g, cap, cur, e, _, _, hn, hm, _, _⟩
  · have : cs = [] := List.length_eq_zero_iff.1 h0
    rw [this, e]
    exact CsIn.nil w
  · refine ⟨some ⟨g, 0, none⟩, cap, g, 0, e, fun _ => rfl, hn, hm, fun i c hc => ?_⟩
    obtain ⟨cv, h1, h2⟩ := h.el i c hc
    refine ⟨cv, ?_, h2⟩
    have := hcells g (by rw [e]; rfl) i cv h1
    rw [add_plain] at this
    exact this
theorem LSt.lose (h : LSt lo w p cs lost v xs) : LSt lo (w.setCell ⟨p, 1, none⟩ (.bool true)) p cs true v xs ∧ Fr w (w.setCell ⟨p, 1, none⟩ (.bool true)) (some p) v.ownBlock := by
  have hf : Fr w (w.setCell ⟨p, 1, none⟩ (.bool true)) (some p) v.ownBlock := ⟨rfl, rfl, rfl, by simp [World.setCell], fun q hq h1 _ => Below.heap_setCell _ _ _ q (fun e => h1 (congrArg some e))⟩
  have hk : Kpt w (w.setCell ⟨p, 1, none⟩ (.bool true)) := kpt_of fun q hq hn => Below.heap_setCell _ _ _ q (fun e => hn (by rw [e]; exact h.not))
  refine ⟨⟨?_, set_same h.c1, ?_, fun i => by simpa using h.fz i, ?_, ?_, ?_, ⟨h.po.1, by simpa [World.setCell] using h.po.2⟩, h.ne⟩, hf⟩
  · rw [set_other (by intro e; simp at e)]; exact h.c0
  · rw [set_other (by intro e; simp at e)]; exact h.cn
  · exact owns_keep h.row (fun g hg => Below.heap_setCell _ _ _ g (fun e => h.ne (by rw [hg]; exact congrArg some e)))
  · exact fun g hg => (h.sl g hg).keep (Below.heap_setCell _ _ _ g (fun e => h.ne (by rw [hg]; exact congrArg some e)))
  · intro i c hc
    obtain ⟨cv, h1, h2⟩ := h.el i c hc
    exact ⟨cv, h1, hk.cin h2⟩
theorem LSt.push (h : LSt lo w p cs lost v xs) {c : Cl} {z1 : Option Addr} {z3 : Nat} (hC : CIn w c (.slice z1 c.length z3)) {v4 : Value} {w3 w4 : World} (hb : Below w.heap.size w w3)
    (ho : w4.ownsRow lo 25 1 v4 (cs.length + 1) (xs ++ [.slice z1 c.length z3])) (hg : w3.grownBy w4 v.ownBlock) (hat : v4.ownBlock = v.ownBlock ∨ v4.ownBlock = some w3.heap.size) (hsl : ∀ g, v4.ownBlock = some g → SlR w4 g) :
    LSt lo (w4.setCell ⟨p, 0, none⟩ v4) p (cs ++ [c]) lost v4 (xs ++ [.slice z1 c.length z3]) ∧ Fr w (w4.setCell ⟨p, 0, none⟩ v4) (some p) v.ownBlock ∧ w4.cell? ⟨p, 0, none⟩ = some v ∧ w4.frozen? ⟨p, 0, none⟩ = false := by
  have h3 := h.below hb
  have hs3 := hb.size
  have hp3 : p < w3.heap.size := h3.po.2
  have hpb : w4.heap[p]? = w3.heap[p]? := hg.block p hp3 (fun e => h.ne e.symm)
  have hne4 : v4.ownBlock ≠ some p := by
    rcases hat with e | e
    · rw [e]; exact h.ne
    · rw [e]; simp; omega
  have c0 : w4.cell? ⟨p, 0, none⟩ = some v := by rw [World.cell?_of_block hpb]; exact h3.c0
  have c1 : w4.cell? ⟨p, 1, none⟩ = some (.bool lost) := by rw [World.cell?_of_block hpb]; exact h3.c1
  have cn : w4.cell? ⟨p, 2, none⟩ = none := by rw [World.cell?_of_block hpb]; exact h3.cn
  have fz : ∀ i, w4.frozen? ⟨p, i, none⟩ = false := fun i => by rw [← h3.fz i]; simp only [World.frozen?, hpb]
  have hs4 := hg.size
  have hk34 : Kpt w3 w4 := kpt_of fun q hq hn => hg.block q hq (fun e => hn (h3.sl q e.symm).not)
  have hn4 : NoT w4 p := fun o x hx => by
    rw [World.cell?_of_block hpb] at hx
    rw [World.cell?_of_block hpb]
    exact h3.not o x hx
  have hk45 : Kpt w4 (w4.setCell ⟨p, 0, none⟩ v4) := kpt_of fun q hq hn => Below.heap_setCell _ _ _ q (fun e => hn (by rw [e]; exact hn4))
  have hk := ((kpt_below hb).trans hk34).trans hk45
  have offp : ∀ g, v4.ownBlock = some g → (w4.setCell ⟨p, 0, none⟩ v4).heap[g]? = w4.heap[g]? := fun g hgg => Below.heap_setCell _ _ _ g (fun e => hne4 (by rw [hgg]; exact congrArg some e))
  have hxl : xs.length = cs.length := by have := h.row.1; omega
  refine ⟨⟨set_same c0, ?_, ?_, fun i => by simpa using fz i, ?_, fun g hgg => (hsl g hgg).keep (offp g hgg), ?_, ⟨h.po.1, by simp [World.setCell]; omega⟩, hne4⟩, ?_, c0, fz 0⟩
  · rw [set_other (by intro e; simp at e)]; exact c1
  · rw [set_other (by intro e; simp at e)]; exact cn
  · rw [List.length_append]; exact owns_keep ho offp
  · intro i d hd
    by_cases hi : i < cs.length
    · rw [List.getElem?_append_left hi] at hd
      obtain ⟨cv, h1, h2⟩ := h.el i d hd
      exact ⟨cv, by rw [List.getElem?_append_left (by omega)]; exact h1, hk.cin h2⟩
    · have hil := (List.getElem?_eq_some_iff.1 hd).1
      simp only [List.length_append, List.length_cons, List.length_nil] at hil
      have hie : i = cs.length := by omega
      subst hie
      rw [List.getElem?_append_right (Nat.le_refl _), Nat.sub_self] at hd
      simp only [List.getElem?_cons_zero, Option.some.injEq] at hd
      subst hd
      refine ⟨.slice z1 c.length z3, ?_, hk.cin hC⟩
      rw [List.getElem?_append_right (by omega), hxl, Nat.sub_self]
      rfl
  · refine ⟨hg.os.trans hb.os, hg.tape.trans hb.tape, hg.output.trans hb.output, by simp [World.setCell]; omega, fun q hq e1 e2 => ?_⟩
    rw [Below.heap_setCell _ _ _ q (fun e => e1 (congrArg some e)), hg.block q (by omega) e2, hb.block q hq]
end
theorem addP_lost {st : List Cl × Bool} {n : Int × Cl} (h : n.1 = 4) : addP st n = (st.1, true) := if_pos h
theorem addP_none {st : List Cl × Bool} {n : Int × Cl} (h : ¬ n.1 = 4) (h0 : ¬ n.1 = 0) : addP st n = st := by rw [addP, if_neg h, if_pos h0]
theorem addP_had {st : List Cl × Bool} {n : Int × Cl} (h0 : n.1 = 0) (h : st.1.any (fun x => sameC x n.2) = true) : addP st n = st := by rw [addP, if_neg (by omega), if_neg (by omega), if_pos h]
theorem addP_new {st : List Cl × Bool} {n : Int × Cl} (h0 : n.1 = 0) (h : st.1.any (fun x => sameC x n.2) = false) : addP st n = (st.1 ++ [n.2], st.2) := by rw [addP, if_neg (by omega), if_neg (by omega), if_neg (by simp [h])]
theorem wpList_append_is {w : World} {ops : Array Oper} {rest : List Oper} {o : Oper} {a : Act} {Q : Exit → Act → World → Prop} (hgd : o.guard = none) (s x : Operand) (t : TypeId)
    (ho : o.op = .call { callee := .builtin .append, args := #[s, x], argTypes := #[t, t] }) (v lv v4 : Value) (w4 : World) (hs : a.eval s = v) (hx : a.eval x = lv) (hr : (Builtin.append_ #[t, t] o.type #[v, lv]).run Tryz.prog w = .ok v4 w4)
    (h : wpList Tryz.prog ops Q rest (a.put o.dst v4) w4) : wpList Tryz.prog ops Q (o :: rest) a w :=
  wpList_plain hgd fun _ hK => by
    unfold Oper.wp execOp
    simp only [ho, resolve, invoke, builtin, Sem.run_bind, Sem.run_pure, Result.andThen_ok, List.map_toArray, List.map_cons, List.map_nil, hs, hx, hr]
    exact hK _ _ h
def AddLPost (lo : Nat) (w : World) (p : Nat) (st : List Cl × Bool) (n : Int × Cl) (v : Value) (e : Ending) (w' : World) : Prop :=
  e = .returned (.tuple #[]) ∧ ∃ v' xs', LSt lo w' p (addP st n).1 (addP st n).2 v' xs' ∧ Fr w w' (some p) v.ownBlock ∧ (v'.ownBlock = v.ownBlock ∨ ∃ g, v'.ownBlock = some g ∧ w.heap.size ≤ g)
set_option maxRecDepth 100000 in
set_option maxHeartbeats 4000000 in
theorem addLR_any (lo p : Nat) (cs : List Cl) (lost : Bool) (v : Value) (xs : List Value) (b : Sb) (bv : Value) (c : Cl) (cv : Value) (w : World) (hL : LSt lo w p cs lost v xs) (hV : SubIn w b bv) (hC : CIn w c cv) (hb : ∀ q ∈ b, okT q.2)
    (hc : ∀ l ∈ c, (okT l.2.1 ∧ narT l.2.1) ∧ (okT l.2.2 ∧ narT l.2.2)) (hlen : c.length ≤ 8) (hcl : cs.length ≤ 1000000) (hg : GX (c.map (mapL (subT (bnd b))))) :
    Calls Tryz.prog 18 #[.pointer (some ⟨p, 0, none⟩), bv, cv] w (AddLPost lo w p (cs, lost) (normC (c.map (mapL (subT (bnd b))))) v) := by
  have HL := hide hL
  have HV := hide hV
  have HC := hide hC
  have Hb := hide hb
  have Hc := hide hc
  have Hg := hide hg
  obtain ⟨c1, c3, rfl⟩ := slice_of_cl hC
  obtain ⟨b1, b3, rfl⟩ := slice_of_sub hV
  obtain ⟨v1, v3, rfl⟩ := hL.slice
  clear hL hV hC hb hc hg
  go_enter Tryz.func18, Tryz.ntmps18
  go_upto_region 1 with fail
  generalize hW1 : w.alloc (.cells #[.slice b1 b.length b3] 44) = W1
  have hB1 : Below w.heap.size w W1 := by rw [← hW1]; exact below_alloc _ _
  have q0 : W1.cell? ⟨w.heap.size, 0, none⟩ = some (.slice b1 b.length b3) := by rw [← hW1]; exact new_cell rfl
  clear hW1
  go_wp2_with fail
  refine (eachDL_any w.heap.size (subT (bnd b)) (fun t => okT t ∧ narT t) c _ _ (cloDL_any b _ w.heap.size _ q0 (HV.out.below hB1) Hb.out) (HC.out.below hB1) Hc.out (by omega)).mono ?_
  rintro e w1 ⟨ev, exs, rfl, hO, hb1⟩
  obtain ⟨e1, e3, hyv⟩ := slice_of_cl hO.cl
  rw [List.length_map] at hyv
  subst hyv
  have hB2 := below_step hB1 hb1
  have Hn := hide (normD_anyX (c.map (mapL (subT (bnd b)))) _ w1 hO.cl Hg.out)
  clear hO hb1 q0
  go_wp2_with fail
  with_reducible refine Hn.out.mono ?_
  rintro e w2 ⟨nv, rfl, hN, hb2⟩
  replace hB2 := below_step hB2 hb2
  have HN := hide hN
  obtain ⟨n1, n3, rfl⟩ := slice_of_cl hN
  replace HL := hide (HL.out.below hB2)
  have Hw := hide hB2
  clear hN hb2 Hn Hg
  generalize normC (c.map (mapL (subT (bnd b)))) = nc at *
  have k1 := HL.out.c1
  have kf := HL.out.fz
  have k0 := HL.out.c0
  by_cases h4 : nc.1 = 4
  · have Hf := hide (addP_lost (st := (cs, lost)) h4)
    have Hs := hide HL.out.lose
    rw [h4]
    go_wp2_with fail
    refine bodyPost_ret (results_none rfl _ _ _) rfl ⟨rfl, _, xs, by rw [Hf.out]; exact Hs.out.1, ?_, .inl rfl⟩
    exact (Fr.of_below Hw.out (some p) _).trans Hs.out.2 (fun q hq h => h)
  by_cases h0 : nc.1 = 0
  · have H0 := hide h0
    rw [h0]
    obtain ⟨a1, k, gb, go, hce, had, hlc, hcm, hEl⟩ := HL.out.csin
    simp only [Value.slice.injEq, true_and] at hce
    obtain ⟨rfl, rfl⟩ := hce
    have HEl := hide hEl
    unfold maxLen at hcm
    clear hEl h4 h0
    go_wp2_with fail
    go_loopw [29] (fun i wr => ∃ j : Nat, j ≤ cs.length ∧ i = .int .i64 j ∧ (∀ i, i < j → ∀ x, cs[i]? = some x → sameC x nc.2 = false) ∧ Below w2.heap.size w2 wr) (fun i _ => cs.length - (intOf i).toNat)
    case atStart => exact ⟨0, Nat.zero_le _, rfl, fun i hi => by omega, Below.refl _ _⟩
    case round =>
      obtain ⟨j, hj, rfl, hno, hBr⟩ := hrel
      have Hno := hide hno
      clear hno
      by_cases hlt : j < cs.length
      · have hlt' : (j : Int) < (cs.length : Int) := by omega
        obtain ⟨x, hx⟩ : ∃ x, cs[j]? = some x := ⟨cs[j]'hlt, by simp⟩
        obtain ⟨xv, p0, hX⟩ := HEl.out j x hx
        replace p0 := grow_cell hBr _ _ p0
        have HX := hide (hX.below hBr)
        obtain ⟨x1, x3, rfl⟩ := slice_of_cl hX
        have ha1 : v1 = some ⟨gb, go, none⟩ := had (by omega)
        subst ha1
        have Hx := hide hx
        clear hx had hX
        go_wp2_with fail
        refine (sameCR_any x nc.2 _ _ _ HX.out (HN.out.below hBr)).mono ?_
        rintro e w5 ⟨rfl, hb5⟩
        replace hBr := below_step hBr hb5
        clear hb5
        cases hs : sameC x nc.2
        · have Hnx : Hid (∀ i, i < j + 1 → ∀ x, cs[i]? = some x → sameC x nc.2 = false) := fun i hi y hy => by
            by_cases e : i = j
            · rw [e, Hx.out] at hy; cases hy; exact hs
            · exact Hno.out i (by omega) y hy
          clear hs
          go_wp2_with fail
          go_roundw
          case rel => exact ⟨j + 1, by omega, by go_num, Hnx.out, hBr⟩
          case measure => simp [intOf]; omega
        · have Hf := hide (addP_had (st := (cs, lost)) H0.out (List.any_eq_true.2 ⟨x, List.mem_of_getElem? Hx.out, hs⟩))
          clear hs
          go_wp2_with fail
          refine bodyPost_ret (results_none rfl _ _ _) rfl ⟨rfl, _, xs, by rw [Hf.out]; exact HL.out.below hBr, Fr.of_below (below_step Hw.out hBr) _ _, .inl rfl⟩
      · have hany : cs.any (fun x => sameC x nc.2) = false := by
          rw [List.any_eq_false]
          intro x hx
          obtain ⟨i, hi⟩ := List.mem_iff_getElem?.1 hx
          have := (List.getElem?_eq_some_iff.1 hi).1
          simp [Hno.out i (by omega) x hi]
        have Hf := hide (addP_new (st := (cs, lost)) H0.out hany)
        clear hany
        have HLr := hide (HL.out.below hBr)
        obtain ⟨iC, hi, hz0, hz1, hz2⟩ := info_parts Tryz.info25
        have hba := below_alloc wr (.cells #[.slice n1 nc.2.length n3] 25)
        obtain ⟨v4, w4, hrun, ho4, hg4, hat4, hsl4⟩ := run_append_sl (P := Tryz.prog) (wr.alloc (.cells #[.slice n1 nc.2.length n3] 25)) 27 27 lo 25 iC 24 Tryz.underlying27 hi hz0 hz1 hz2 (.slice v1 cs.length v3) cs.length xs (HLr.out.below hba).row (HLr.out.below hba).sl ⟨wr.heap.size, 0, none⟩ 1 1 [.slice n1 nc.2.length n3] rfl (fun j u hj => World.news_of_block (cs := #[.slice n1 nc.2.length n3]) (heap_alloc_new wr _) j u hj) (fun u hu => by simp at hu; exact ⟨_, _, _, hu⟩) (by omega) (by unfold maxLen; omega) (by omega) (Nat.le_of_lt (Nat.lt_of_le_of_lt HLr.out.po.1 (by have := HLr.out.po.2; simp; omega)))
        obtain ⟨hP1, hP2, hP3, hP4⟩ := HLr.out.push (HN.out.below hBr) hba ho4 hg4 hat4 hsl4
        obtain ⟨u1, u3, hv4⟩ := hP1.slice
        rw [show (cs ++ [nc.2]).length = cs.length + 1 by simp] at hv4
        subst hv4
        have HP := hide (And.intro hP1 hP2)
        have Hat : Hid ((Value.slice u1 (cs.length + 1) u3).ownBlock = (Value.slice v1 cs.length v3).ownBlock ∨ ∃ g, (Value.slice u1 (cs.length + 1) u3).ownBlock = some g ∧ w.heap.size ≤ g) := by
          rcases hat4 with e | e
          · exact .inl e
          · exact .inr ⟨_, e, by have := (below_step Hw.out hBr).size; simp; omega⟩
        have k0r := HLr.out.c0
        have Hrun := hide hrun
        clear hP1 hP2 hat4 hsl4 ho4 hg4 had hrun
        go_wp2_with (at_builtin; refine wpList_append_is rfl (.tmp 41) (.tmp 43) 27 rfl _ _ _ w4 rfl rfl Hrun.out ?_)
        go_end0
        refine ⟨rfl, _, _, by rw [Hf.out]; exact HP.out.1, ?_, Hat.out⟩
        exact (Fr.of_below (below_step Hw.out hBr) (some p) _).trans HP.out.2 (fun q hq h => h)
  · have heb : (nc.1 != 0) = true := by simp [h0]
    have he4 : (nc.1 == 4) = false := by simp [h4]
    have Hf := hide (addP_none (st := (cs, lost)) h4 h0)
    clear h0 h4
    go_wp2_with fail
    refine bodyPost_ret (results_none rfl _ _ _) rfl ⟨rfl, _, xs, by rw [Hf.out]; exact HL.out, Fr.of_below Hw.out _ _, .inl rfl⟩
end Go.Proofs.YtaliegkkdhkfcacGreat

namespace Go.Proofs.YtaliegkkdhkfcacGreat
open Go.RowKit Go.Deep Go.ChangeShapes Go.WideShapes
attribute [local go_sem ↓] Go.wp_at_zero Go.wp_at_succ
def SolSaid (n : Nat) : Prop := ∀ (s : Sb) (L : List (Tm × Tm)) (R : Option Sb) (ls rs : List Tm) (vs vl vr : Value) (w : World), Eqs s L ls rs → runU n s L = some R → SubIn w s vs → SIn w (foOf ls) vl → SIn w (foOf rs) vr →
    Calls Tryz.prog 45 #[vs, vl, vr] w (UniPost w R)
set_option maxRecDepth 100000 in
set_option maxHeartbeats 4000000 in
theorem solve_any (n : Nat) : SolSaid n := by
  induction n using Nat.strongRecOn with
  | _ n ih =>
  intro s L R ls rs vs vl vr w hE hR hV hl hr
  have HI : Hid (∀ m, m < n → SolSaid m) := ih
  have HR := hide hR
  have HV := hide hV
  have HE := hide hE
  obtain ⟨vd, vc, vb, vo, rfl, hvd, hvlc, hvcm, hP⟩ := hV
  have HP := hide hP
  unfold maxLen at hvcm
  clear ih hP hR
  cases L with
  | nil =>
    obtain ⟨rfl, rfl⟩ := hE.nil
    have HRs : Hid (R = some s) := by
      have := HR.out
      cases n with
      | zero => simp [runU] at this
      | succ n => rw [Hid]; simpa [runU] using this.symm
    obtain ⟨ld, lc, lb, lo, rfl, hld, hllc, hlcm, -⟩ := hl
    obtain ⟨rd, rc, rb, ro, rfl, hrd, hrlc, hrcm, -⟩ := hr
    have hl0 : Fo.len (foOf []) = 0 := rfl
    rw [hl0]
    clear hld hrd hvd hE hl0
    go_enter Tryz.func45, Tryz.ntmps45
    go_wp2_with fail
    go_ret2
    exact ⟨Below.refl _ _, _, _, _, true, rfl, fun e => by (cases e), fun _ => ⟨s, HRs.out, rfl, HV.out⟩⟩
  | cons p L =>
    obtain ⟨⟨⟨tv, tn⟩, tk⟩, lt, ⟨⟨uv, un⟩, uk⟩, rt, rfl, rfl, hE', et, eu, gt, gu⟩ := hE.cons
    have HE' := hide hE'
    have Het := hide et
    have Heu := hide eu
    have Hgt := hide gt
    have Hgu := hide gu
    have Hlen := hide hE'.len
    have Hui := hide (ui_len hE'.ui)
    have Hl := hide hl
    have Hr := hide hr
    obtain ⟨ld, lc, lb, lo, rfl, hld, hllc, hlcm, hlF⟩ := hl
    obtain ⟨rd, rc, rb, ro, rfl, hrd, hrlc, hrcm, hrF⟩ := hr
    rw [foOf_len] at hld hllc hrd hrlc
    rw [foOf_len, foOf_len]
    simp only [List.length_cons] at hld hllc hrd hrlc ⊢
    have e1 := hld (by omega)
    have e2 := hrd (by omega)
    subst e1 e2
    have HlF := hide hlF
    have HrF := hide hrF
    obtain ⟨zl, hzl, hzl1⟩ := terms_rest (n := lt.length + 1) (c := lc) (b := lb) (o := lo) (by omega) hllc
    obtain ⟨zr, hzr, hzr1⟩ := terms_rest (n := rt.length + 1) (c := rc) (b := rb) (o := ro) (by omega) hrlc
    have HSl := hide (sin_rest hlF hllc hlcm hzl1)
    have HSr := hide (sin_rest hrF hrlc hrcm hzr1)
    obtain ⟨n0, n1, ⟨tva, n2, hSt⟩, -⟩ := FIn.node hlF
    obtain ⟨n3, n4, ⟨uva, n5, hSu⟩, -⟩ := FIn.node hrF
    have HSt := hide hSt
    have HSu := hide hSu
    obtain ⟨ta, tc, tb, t4, rfl, -, -, -, -⟩ := hSt
    obtain ⟨ua, uc, ub, u4, rfl, -, -, -, -⟩ := hSu
    simp only at n0 n1 n2 n3 n4 n5
    have hlb : lb < w.heap.size := World.block_lt_of_cell? _ _ n0
    have hrb : rb < w.heap.size := World.block_lt_of_cell? _ _ n3
    unfold maxLen at hlcm hrcm
    clear hE hE' et eu gt gu hld hrd hlF hrF hzl1 hzr1
    obtain ⟨⟨⟨mv, mn⟩, mk⟩, hm⟩ : ∃ z, z = subT (bnd s) ((tv, tn), tk) := ⟨_, rfl⟩
    obtain ⟨⟨⟨nv, nn⟩, nk⟩, hn⟩ : ∃ z, z = subT (bnd s) ((uv, un), uk) := ⟨_, rfl⟩
    have HcA := hide (fun w' hb => applyR_call (Below.refl _ w) HV.out (ui_ok HE.out.ui) HSt.out Hgt.out.ok Hgt.out.nar hm w' hb)
    have HcB := hide (fun w' hb => applyR_call (Below.refl _ w) HV.out (ui_ok HE.out.ui) HSu.out Hgu.out.ok Hgu.out.nar hn w' hb)
    have Hm := hide hm
    have Hn := hide hn
    have hcur : Below w.heap.size w w := Below.refl _ _
    have hl1 : (0 : Int) < ((lt.length + 1 : Nat) : Int) := by omega
    have hr1 : (0 : Int) < ((rt.length + 1 : Nat) : Int) := by omega
    have hne0 : (((lt.length + 1 : Nat) : Int) == 0) = false := by simp; omega
    have Hzl := hide hzl
    have Hzr := hide hzr
    have Hvd := hide hvd
    clear hm hn hvd hzl hzr
    go_enter Tryz.func45, Tryz.ntmps45
    go_upto_region 3 with fail
    go_cut [8, 9] (fun s13 s14 wx => ∃ (bx bb : Nat) (x1 : Option Addr) (x2 x3 : Nat) (y1 : Option Addr) (y2 y3 : Nat), s13 = .pointer (some ⟨bx, 0, none⟩) ∧ s14 = .pointer (some ⟨bb, 0, none⟩) ∧
      Bxs w wx bx bb (.bool mv) (.int .i64 mn) (.slice x1 x2 x3) (.bool nv) (.int .i64 nn) (.slice y1 y2 y3) ∧ SB (Off wx bx bb) wx mk (.slice x1 x2 x3) ∧ SB (Off wx bx bb) wx nk (.slice y1 y2 y3))
    case first =>
      have neN : w.heap.size ≠ lb := (by omega)
      have neN1 : w.heap.size + 1 ≠ lb := (by omega)
      have neN2 : w.heap.size ≠ rb := (by omega)
      have neN3 : w.heap.size + 1 ≠ rb := (by omega)
      go_region_held3 (fun w' => w'.cell? ⟨lb, lo, none⟩ = some (.bool tv) ∧ w'.cell? ⟨lb, lo + 1, none⟩ = some (.int .i64 tn) ∧ w'.cell? ⟨lb, lo + 2, none⟩ = some (.slice ta (Fo.len tk) tc) ∧ w'.cell? ⟨rb, ro, none⟩ = some (.bool uv) ∧ w'.cell? ⟨rb, ro + 1, none⟩ = some (.int .i64 un) ∧ w'.cell? ⟨rb, ro + 2, none⟩ = some (.slice ua (Fo.len uk) uc))
    (first
      | (with_reducible exact ⟨grow_cell hcur _ _ n0, grow_cell hcur _ _ n1, grow_cell hcur _ _ n2, grow_cell hcur _ _ n3, grow_cell hcur _ _ n4, grow_cell hcur _ _ n5⟩)
      | go_keep)
    (first
    | (go_at_call 32; with_reducible refine (HcA.out _ ?_).mono ?_; (with_reducible first | exact hcur | exact hcur.drew | exact (hcur.alloc hcur.size _).drew | exact hcur.alloc hcur.size _ | exact ((hcur.alloc hcur.size _).alloc (hcur.alloc hcur.size _).size _).drew | exact (hcur.alloc hcur.size _).alloc (hcur.alloc hcur.size _).size _); rintro e wA ⟨x1, x2, x3, mA, hmA, rfl, hSx, hbA⟩
       (with_reducible first | (refine thus (box2d hbA) ?_; rintro ⟨⟨fA0, fA1, fA2, fAf⟩, ⟨gA0, gA1, gA2, gAf⟩, fAl⟩; have fAk := Nat.lt_of_succ_lt fAl) | (refine thus (box2 hbA) ?_; rintro ⟨⟨fA0, fA1, fA2, fAf⟩, ⟨gA0, gA1, gA2, gAf⟩, fAl⟩; have fAk := Nat.lt_of_succ_lt fAl) | (refine thus (box1d hbA) ?_; rintro ⟨fA0, fA1, fA2, fAf, fAl⟩) | (refine thus (box1 hbA) ?_; rintro ⟨fA0, fA1, fA2, fAf, fAl⟩) | skip)
       (first | (refine thus (hmA.trans (size2 _ _ _)) ?_; intro kA) | (refine thus (hmA.trans (World.size_alloc _ _)) ?_; intro kA) | (refine thus hmA ?_; intro kA))
       (try (have hst : Below wB.heap.size wB wA := (by with_reducible first | exact hbA | exact below_box hbA | exact below_box (below_box hbA)); have hsl := hst.size; (try (have fB0' := grow_cell hst _ _ fB0; have fB1' := grow_cell hst _ _ fB1; have fB2' := grow_cell hst _ _ fB2; have ltfB0 := World.block_lt_of_cell? _ _ fB0; have ltfBc := World.block_lt_of_cell? _ _ fB0'; dsimp only at ltfBc; have fBf' := (fun i => (hst.frozen (p := ⟨_, i, none⟩) ltfB0).trans (fBf i)))); (try (have gB0' := grow_cell hst _ _ gB0; have gB1' := grow_cell hst _ _ gB1; have gB2' := grow_cell hst _ _ gB2; have ltgB0 := World.block_lt_of_cell? _ _ gB0; have ltgBc := World.block_lt_of_cell? _ _ gB0'; dsimp only at ltgBc; have gBf' := (fun i => (hst.frozen (p := ⟨_, i, none⟩) ltgB0).trans (gBf i))))))
       have hcurA : Below w.heap.size w wA := below_step (by with_reducible first | exact hcur | exact hcur.drew | exact (hcur.alloc hcur.size _).drew | exact hcur.alloc hcur.size _ | exact ((hcur.alloc hcur.size _).alloc (hcur.alloc hcur.size _).size _).drew | exact (hcur.alloc hcur.size _).alloc (hcur.alloc hcur.size _).size _) hbA
       replace hcur : Below w.heap.size w wA := below_step (by with_reducible first | exact hcur | exact hcur.drew | exact (hcur.alloc hcur.size _).drew | exact hcur.alloc hcur.size _ | exact ((hcur.alloc hcur.size _).alloc (hcur.alloc hcur.size _).size _).drew | exact (hcur.alloc hcur.size _).alloc (hcur.alloc hcur.size _).size _) hbA
       have hlA : lb < wA.heap.size := Nat.lt_of_lt_of_le hlb hcur.size; have hlA2 : rb < wA.heap.size := Nat.lt_of_lt_of_le hrb hcur.size
       have neA : wA.heap.size ≠ lb := (by omega)
       have neA1 : wA.heap.size + 1 ≠ lb := (by omega)
       have neA2 : wA.heap.size ≠ rb := (by omega)
       have neA3 : wA.heap.size + 1 ≠ rb := (by omega)
       have mA0 := grow_cell hcur _ _ n0; have mA1 := grow_cell hcur _ _ n1; have mA2 := grow_cell hcur _ _ n2; have mA3 := grow_cell hcur _ _ n3; have mA4 := grow_cell hcur _ _ n4; have mA5 := grow_cell hcur _ _ n5)
    | (go_at_call 32; with_reducible refine (HcB.out _ ?_).mono ?_; (with_reducible first | exact hcur | exact hcur.drew | exact (hcur.alloc hcur.size _).drew | exact hcur.alloc hcur.size _ | exact ((hcur.alloc hcur.size _).alloc (hcur.alloc hcur.size _).size _).drew | exact (hcur.alloc hcur.size _).alloc (hcur.alloc hcur.size _).size _); rintro e wB ⟨y1, y2, y3, mB, hmB, rfl, hSy, hbB⟩
       (with_reducible first | (refine thus (box2d hbB) ?_; rintro ⟨⟨fB0, fB1, fB2, fBf⟩, ⟨gB0, gB1, gB2, gBf⟩, fBl⟩; have fBk := Nat.lt_of_succ_lt fBl) | (refine thus (box2 hbB) ?_; rintro ⟨⟨fB0, fB1, fB2, fBf⟩, ⟨gB0, gB1, gB2, gBf⟩, fBl⟩; have fBk := Nat.lt_of_succ_lt fBl) | (refine thus (box1d hbB) ?_; rintro ⟨fB0, fB1, fB2, fBf, fBl⟩) | (refine thus (box1 hbB) ?_; rintro ⟨fB0, fB1, fB2, fBf, fBl⟩) | skip)
       (first | (refine thus (hmB.trans (size2 _ _ _)) ?_; intro kB) | (refine thus (hmB.trans (World.size_alloc _ _)) ?_; intro kB) | (refine thus hmB ?_; intro kB))
       (try (have hst : Below wA.heap.size wA wB := (by with_reducible first | exact hbB | exact below_box hbB | exact below_box (below_box hbB)); have hsl := hst.size; (try (have fA0' := grow_cell hst _ _ fA0; have fA1' := grow_cell hst _ _ fA1; have fA2' := grow_cell hst _ _ fA2; have ltfA0 := World.block_lt_of_cell? _ _ fA0; have ltfAc := World.block_lt_of_cell? _ _ fA0'; dsimp only at ltfAc; have fAf' := (fun i => (hst.frozen (p := ⟨_, i, none⟩) ltfA0).trans (fAf i)))); (try (have gA0' := grow_cell hst _ _ gA0; have gA1' := grow_cell hst _ _ gA1; have gA2' := grow_cell hst _ _ gA2; have ltgA0 := World.block_lt_of_cell? _ _ gA0; have ltgAc := World.block_lt_of_cell? _ _ gA0'; dsimp only at ltgAc; have gAf' := (fun i => (hst.frozen (p := ⟨_, i, none⟩) ltgA0).trans (gAf i))))))
       replace hcur : Below w.heap.size w wB := below_step (by with_reducible first | exact hcur | exact hcur.drew | exact (hcur.alloc hcur.size _).drew | exact hcur.alloc hcur.size _ | exact ((hcur.alloc hcur.size _).alloc (hcur.alloc hcur.size _).size _).drew | exact (hcur.alloc hcur.size _).alloc (hcur.alloc hcur.size _).size _) hbB
       have hlB : lb < wB.heap.size := Nat.lt_of_lt_of_le hlb hcur.size; have hlB2 : rb < wB.heap.size := Nat.lt_of_lt_of_le hrb hcur.size
       have neB : wB.heap.size ≠ lb := (by omega)
       have neB1 : wB.heap.size + 1 ≠ lb := (by omega)
       have neB2 : wB.heap.size ≠ rb := (by omega)
       have neB3 : wB.heap.size + 1 ≠ rb := (by omega)
       have mB0 := grow_cell hcur _ _ n0; have mB1 := grow_cell hcur _ _ n1; have mB2 := grow_cell hcur _ _ n2; have mB3 := grow_cell hcur _ _ n3; have mB4 := grow_cell hcur _ _ n4; have mB5 := grow_cell hcur _ _ n5))
      all_goals
        have hnA := hcurA.size
        have hnB := hcur.size
        have hnA1 : w.heap.size ≤ wA.heap.size + 1 := Nat.le_succ_of_le hnA
        go_wp2_with fail
        go_meet
        case rel =>
         first
        | (with_reducible refine ⟨wB.heap.size, wB.heap.size + 1, x1, x2, x3, y1, y2, y3, rfl, rfl, gin0 hcur, sb_keep hSx (fun q hq => ?_), sb_keep hSy (fun q hq => ?_)⟩
           · exact ⟨(heap0 (by omega)).trans (hst.block q (by omega)), by omega, by omega, by omega⟩
           · exact ⟨heap0 (by omega), by omega, by omega, by omega⟩)
        | (with_reducible refine ⟨wB.heap.size + 1, wB.heap.size, x1, x2, x3, y1, y2, y3, rfl, rfl, (gin0 hcur).swap, sb_keep hSx (fun q hq => ?_), sb_keep hSy (fun q hq => ?_)⟩
           · exact ⟨(heap0 (by omega)).trans (hst.block q (by omega)), by omega, by omega, by omega⟩
           · exact ⟨heap0 (by omega), by omega, by omega, by omega⟩)
        | (with_reducible refine ⟨wA.heap.size, wB.heap.size, x1, x2, x3, y1, y2, y3, rfl, rfl, gin1 hcur hnA fB0 fB1 fB2 fBf, sb_keep hSx (fun q hq => ?_), sb_keep hSy (fun q hq => ?_)⟩
           · exact ⟨(heap1 (by omega) (by omega)).trans (hst.block q (by omega)), by omega, by omega, by omega⟩
           · exact ⟨heap1 (by omega) (by omega), by omega, by omega, by omega⟩)
        | (with_reducible refine ⟨wB.heap.size, wA.heap.size, x1, x2, x3, y1, y2, y3, rfl, rfl, (gin1 hcur hnA fB0 fB1 fB2 fBf).swap, sb_keep hSx (fun q hq => ?_), sb_keep hSy (fun q hq => ?_)⟩
           · exact ⟨(heap1 (by omega) (by omega)).trans (hst.block q (by omega)), by omega, by omega, by omega⟩
           · exact ⟨heap1 (by omega) (by omega), by omega, by omega, by omega⟩)
        | (with_reducible refine ⟨w.heap.size, wB.heap.size, x1, x2, x3, y1, y2, y3, rfl, rfl, gin1 hcur (Nat.le_refl _) fA0' fA1' fA2' fAf', sb_keep hSx (fun q hq => ?_), sb_keep hSy (fun q hq => ?_)⟩
           · exact ⟨(heap1 (by omega) (by omega)).trans (hst.block q (by omega)), by omega, by omega, by omega⟩
           · exact ⟨heap1 (by omega) (by omega), by omega, by omega, by omega⟩)
        | (with_reducible refine ⟨wB.heap.size, w.heap.size, x1, x2, x3, y1, y2, y3, rfl, rfl, (gin1 hcur (Nat.le_refl _) fA0' fA1' fA2' fAf').swap, sb_keep hSx (fun q hq => ?_), sb_keep hSy (fun q hq => ?_)⟩
           · exact ⟨(heap1 (by omega) (by omega)).trans (hst.block q (by omega)), by omega, by omega, by omega⟩
           · exact ⟨heap1 (by omega) (by omega), by omega, by omega, by omega⟩)
        | (with_reducible refine ⟨wA.heap.size, wA.heap.size + 1, x1, x2, x3, y1, y2, y3, rfl, rfl, gin2 hcur hnA hnA1 (Nat.ne_of_lt (Nat.lt_succ_self _)) fB0 fB1 fB2 fBf gB0 gB1 gB2 gBf, sb_keep hSx (fun q hq => ?_), sb_keep hSy (fun q hq => ?_)⟩
           · exact ⟨(heap2 (by omega) (by omega)).trans (hst.block q (by omega)), by omega, by omega, by omega⟩
           · exact ⟨heap2 (by omega) (by omega), by omega, by omega, by omega⟩)
        | (with_reducible refine ⟨wA.heap.size + 1, wA.heap.size, x1, x2, x3, y1, y2, y3, rfl, rfl, gin2 hcur hnA1 hnA (Nat.ne_of_gt (Nat.lt_succ_self _)) gB0 gB1 gB2 gBf fB0 fB1 fB2 fBf, sb_keep hSx (fun q hq => ?_), sb_keep hSy (fun q hq => ?_)⟩
           · exact ⟨(heap2 (by omega) (by omega)).trans (hst.block q (by omega)), by omega, by omega, by omega⟩
           · exact ⟨heap2 (by omega) (by omega), by omega, by omega, by omega⟩)
        | (with_reducible refine ⟨w.heap.size, wA.heap.size, x1, x2, x3, y1, y2, y3, rfl, rfl, gin2 hcur (Nat.le_refl _) hnA (Nat.ne_of_lt fAl) fA0' fA1' fA2' fAf' fB0 fB1 fB2 fBf, sb_keep hSx (fun q hq => ?_), sb_keep hSy (fun q hq => ?_)⟩
           · exact ⟨(heap2 (by omega) (by omega)).trans (hst.block q (by omega)), by omega, by omega, by omega⟩
           · exact ⟨heap2 (by omega) (by omega), by omega, by omega, by omega⟩)
        | (with_reducible refine ⟨wA.heap.size, w.heap.size, x1, x2, x3, y1, y2, y3, rfl, rfl, gin2 hcur hnA (Nat.le_refl _) (Nat.ne_of_gt fAl) fB0 fB1 fB2 fBf fA0' fA1' fA2' fAf', sb_keep hSx (fun q hq => ?_), sb_keep hSy (fun q hq => ?_)⟩
           · exact ⟨(heap2 (by omega) (by omega)).trans (hst.block q (by omega)), by omega, by omega, by omega⟩
           · exact ⟨heap2 (by omega) (by omega), by omega, by omega, by omega⟩)
        | (with_reducible refine ⟨w.heap.size, w.heap.size + 1, x1, x2, x3, y1, y2, y3, rfl, rfl, gin2 hcur (Nat.le_refl _) (Nat.le_succ _) (Nat.ne_of_lt (Nat.lt_succ_self _)) fA0' fA1' fA2' fAf' gA0' gA1' gA2' gAf', sb_keep hSx (fun q hq => ?_), sb_keep hSy (fun q hq => ?_)⟩
           · exact ⟨(heap2 (by omega) (by omega)).trans (hst.block q (by omega)), by omega, by omega, by omega⟩
           · exact ⟨heap2 (by omega) (by omega), by omega, by omega, by omega⟩)
        | (with_reducible refine ⟨w.heap.size + 1, w.heap.size, x1, x2, x3, y1, y2, y3, rfl, rfl, gin2 hcur (Nat.le_succ _) (Nat.le_refl _) (Nat.ne_of_gt (Nat.lt_succ_self _)) gA0' gA1' gA2' gAf' fA0' fA1' fA2' fAf', sb_keep hSx (fun q hq => ?_), sb_keep hSy (fun q hq => ?_)⟩
           · exact ⟨(heap2 (by omega) (by omega)).trans (hst.block q (by omega)), by omega, by omega, by omega⟩
           · exact ⟨heap2 (by omega) (by omega), by omega, by omega, by omega⟩)
    case rest =>
      obtain ⟨bx, bb, x1, x2, x3, y1, y2, y3, rfl, rfl, hbxs, hSm, hSn⟩ := hcut
      generalize wc = wx at *
      obtain ⟨⟨⟨a0, a1, a2⟩, ⟨e0, e1, e2⟩, hbx⟩, ⟨f1, f2⟩, hwb, hwd, hbd⟩ := hbxs
      have HSm := hide hSm
      have HSn := hide hSn
      obtain ⟨_, _, _, _, he, -, -, -, -⟩ := hSm
      simp only [Value.slice.injEq] at he
      obtain ⟨-, rfl, -⟩ := he
      obtain ⟨_, _, _, _, he, -, -, -, -⟩ := hSn
      simp only [Value.slice.injEq] at he
      obtain ⟨-, rfl, -⟩ := he
      have HgM : Hid (Gd ((mv, mn), mk)) := by rw [Hid, Hm.out]; exact gd_sub HE.out.ui.gs Hgt.out
      have HgN : Hid (Gd ((nv, nn), nk)) := by rw [Hid, Hn.out]; exact gd_sub HE.out.ui.gs Hgu.out
      have hzl := Hzl.out
      have hzr := Hzr.out
      clear n0 n1 n2 n3 n4 n5 hcur HcA HcB hlb hrb
      go_upto_region 4 with fail
      go_cut [1, 2] (fun s1 s2 wy => s1 = .slice zl lt.length (lc - 1) ∧ s2 = .slice zr rt.length (rc - 1) ∧ wy = wx.drew)
      case first =>
        go_region
        all_goals
          go_wp2_with fail
          go_meet
          case rel => exact ⟨rfl, rfl, rfl⟩
      case rest =>
        obtain ⟨rfl, rfl, rfl⟩ := hcut
        clear hzl hzr
        go_wp2_with fail
        refine (sameR_any (mv, mn) mk (nv, nn) nk _ _ wx.drew HSm.out.toS.drew HSn.out.toS.drew).mono ?_
        rintro e w9 ⟨rfl, hb9⟩
        have hb9' : Below wx.heap.size wx w9 := (Below.refl _ _).drew.trans hb9
        have hB9 := below_step hbx hb9'
        have HSl9 : Hid (SIn w9 (foOf lt) (.slice zl lt.length (lc - 1))) := HSl.out.below hB9
        have HSr9 : Hid (SIn w9 (foOf rt) (.slice zr rt.length (rc - 1))) := HSr.out.below hB9
        have HB9 := hide hB9
        cases hsm : sameT (mv, mn) mk (nv, nn) nk
        · have Hne : Hid (((mv, mn), mk) ≠ ((nv, nn), nk)) := fun e => by
            have := (sameT_iff (t := ((mv, mn), mk)) (u := ((nv, nn), nk)) HgM.out.ok HgN.out.ok).2 e
            simp only at this
            rw [hsm] at this
            cases this
          have c0 := grow_cell hb9' _ _ a0
          have c1 := grow_cell hb9' _ _ a1
          have c2 := grow_cell hb9' _ _ a2
          have d0 := grow_cell hb9' _ _ e0
          have d1 := grow_cell hb9' _ _ e1
          have d2 := grow_cell hb9' _ _ e2
          have hbl : bx < wx.heap.size := World.block_lt_of_cell? _ _ a0
          have hdl : bb < wx.heap.size := World.block_lt_of_cell? _ _ e0
          have g1 : ∀ i, w9.frozen? ⟨bx, i, none⟩ = false := fun i => (hb9'.frozen (p := ⟨bx, i, none⟩) hbl).trans (f1 i)
          have g2 : ∀ i, w9.frozen? ⟨bb, i, none⟩ = false := fun i => (hb9'.frozen (p := ⟨bb, i, none⟩) hdl).trans (f2 i)
          have hs9 := hb9'.size
          have HSm9 : Hid (SB (Off w9 bx bb) w9 mk (.slice x1 (Fo.len mk) x3)) := (HSm.out.grow (fun _ h => h.1) hb9').wide (fun q h => ⟨by have := h.1; omega, h.2⟩)
          have HSn9 : Hid (SB (Off w9 bx bb) w9 nk (.slice y1 (Fo.len nk) y3)) := (HSn.out.grow (fun _ h => h.1) hb9').wide (fun q h => ⟨by have := h.1; omega, h.2⟩)
          have hdb : bb ≠ bx := Ne.symm hbd
          have hbl9 : bx < w9.heap.size := by omega
          have hdl9 : bb < w9.heap.size := by omega
          clear a0 a1 a2 e0 e1 e2 f1 f2 hsm hb9 hb9' hs9 HSm HSn hbl hdl hbx
          go_upto_region 7 with fail
          go_cut [48] (fun s48 wy => s48 = .bool (!mv && !nv) ∧ w9 = wy)
          case first =>
            cases mv <;> cases nv
            all_goals
              go_wp2_with fail
              go_meet
              case rel => exact ⟨rfl, rfl⟩
          case rest =>
            obtain ⟨rfl, rfl⟩ := hcut
            cases hvv : (!mv && !nv)
            · -- one of them is a variable
              go_upto_if 81 with fail
              go_cut [] (fun wy => ∃ (pv : Bool) (pn : Int) (pk : Fo) (p1 : Option Addr) (p3 : Nat) (qv : Bool) (qn : Int) (qk : Fo) (q1 : Option Addr) (q3 : Nat), C3 wy bx (.bool pv) (.int .i64 pn) (.slice p1 (Fo.len pk) p3) ∧ C3 wy bb (.bool qv) (.int .i64 qn) (.slice q1 (Fo.len qk) q3) ∧ Below w.heap.size w wy ∧ SIn wy qk (.slice q1 (Fo.len qk) q3) ∧
                ((((pv, pn), pk) = ((mv, mn), mk) ∧ ((qv, qn), qk) = ((nv, nn), nk) ∧ pv = true) ∨ (((pv, pn), pk) = ((nv, nn), nk) ∧ ((qv, qn), qk) = ((mv, mn), mk) ∧ pv = true ∧ ¬ qv = true)))
              case first =>
                cases mv
                · have hnv : nv = true := by revert hvv; cases nv <;> simp
                  subst hnv
                  have Hfin : Hid (C3 (set3 (set3 w9 bx 0 (.bool true) (.int .i64 nn) (.slice y1 (Fo.len nk) y3)) bb 0 (.bool false) (.int .i64 mn) (.slice x1 (Fo.len mk) x3)) bx (.bool true) (.int .i64 nn) (.slice y1 (Fo.len nk) y3) ∧ C3 (set3 (set3 w9 bx 0 (.bool true) (.int .i64 nn) (.slice y1 (Fo.len nk) y3)) bb 0 (.bool false) (.int .i64 mn) (.slice x1 (Fo.len mk) x3)) bb (.bool false) (.int .i64 mn) (.slice x1 (Fo.len mk) x3) ∧ Below w.heap.size w (set3 (set3 w9 bx 0 (.bool true) (.int .i64 nn) (.slice y1 (Fo.len nk) y3)) bb 0 (.bool false) (.int .i64 mn) (.slice x1 (Fo.len mk) x3))) := fin2 HB9.out hwb hwd hbd c0 c1 c2 d0 d1 d2
                  have HSq := hide (sb_swapped (x := .bool true) (y := .int .i64 nn) (z := .slice y1 (Fo.len nk) y3) (x' := .bool false) (y' := .int .i64 mn) (z' := .slice x1 (Fo.len mk) x3) HSm9.out)
                  clear hvv
                  go_wp2_with fail
                  go_meet
                  case rel => exact ⟨true, nn, nk, y1, y3, false, mn, mk, x1, x3, Hfin.out.1, Hfin.out.2.1, Hfin.out.2.2, HSq.out, .inr ⟨rfl, rfl, rfl, by decide⟩⟩
                · clear hvv
                  go_wp2_with fail
                  go_meet
                  case rel => exact ⟨true, mn, mk, x1, x3, nv, nn, nk, y1, y3, ⟨c0, c1, c2⟩, ⟨d0, d1, d2⟩, HB9.out, HSn9.out.toS, .inl ⟨rfl, rfl, rfl⟩⟩
              case rest =>
                obtain ⟨pv, pn, pk, p1, p3, qv, qn, qk, q1, q3, ⟨a0, a1, a2⟩, ⟨e0, e1, e2⟩, hby, hSq, huv⟩ := hcut
                generalize wc = wy at *
                have HSq := hide hSq
                have Hby := hide hby
                have HgQ : Hid (Gd ((qv, qn), qk)) := by
                  rcases huv with ⟨_, h, _⟩ | ⟨_, h, _, _⟩
                  · rw [Hid, h]; exact HgN.out
                  · rw [Hid, h]; exact HgM.out
                have Hbind := hide (Eqs.bind HE.out.ui HE'.out HR.out Hm.out Hn.out Het.out Heu.out Hne.out huv)
                have Hv5 : Hid ((varsT (qv, qn) qk []).length * 8 ≤ 140737488355328) := by
                  have := gd_vars HgQ.out
                  simp only at this
                  unfold Hid
                  omega
                clear hSq hby huv hvv c0 c1 c2 d0 d1 d2 g1 g2 HSl9 HSr9 HSm9 HSn9
                go_wp2_with fail
                refine (inR_any pn (qv, qn) qk _ wy _ rfl HSq.out Hv5.out).mono ?_
                rintro e w11 ⟨rfl, hb11⟩
                have hB11 := below_step Hby.out hb11
                have b1 := grow_cell hb11 _ _ a1
                have m0 := grow_cell hb11 _ _ e0
                have m1 := grow_cell hb11 _ _ e1
                have m2 := grow_cell hb11 _ _ e2
                have HSq11 := hide (HSq.out.below hb11)
                have HB11 := hide hB11
                clear a0 a1 a2 e0 e1 e2 hb11 HSq Hv5
                cases hh : hasB (varsT (qv, qn) qk []) pn
                · have Hadd : Hid (addS s pn ((qv, qn), qk) = some ((s.map fun p => (p.1, subT (bnd [(pn, ((qv, qn), qk))]) p.2)) ++ [(pn, ((qv, qn), qk))])) := by
                    unfold addS Hid
                    rw [if_neg (by simp [hh])]
                  obtain ⟨m, hmn, hE2, hm2⟩ := Hbind.out.2 _ Hadd.out
                  have HE2 := hide hE2
                  have Hm2 := hide hm2
                  have Hmn := hide hmn
                  clear hh hE2 hm2 hmn hB11 Hbind
                  go_wp2_with fail
                  generalize hWl : w11.alloc (.cells #[.int .i64 pn, .bool qv, .int .i64 qn, .slice q1 (Fo.len qk) q3] 92) = Wl
                  have HBl : Hid (Below w.heap.size w Wl) := by rw [Hid, ← hWl]; exact HB11.out.alloc HB11.out.size _
                  have hsl : Wl.heap.size = w11.heap.size + 1 := by rw [← hWl]; simp
                  have Hblk : Hid (Wl.heap[w11.heap.size]? = some (.cells #[.int .i64 pn, .bool qv, .int .i64 qn, .slice q1 (Fo.len qk) q3] 92)) := by rw [Hid, ← hWl]; exact heap_alloc_new w11 _
                  have Hone : Hid (SubIn Wl [(pn, ((qv, qn), qk))] (.slice (some ⟨w11.heap.size, 0, none⟩) 1 1)) := by
                    rw [Hid, ← hWl]
                    exact ⟨_, 1, w11.heap.size, 0, rfl, fun _ => rfl, Nat.le_refl _, by unfold maxLen; omega, new_cell rfl, new_cell rfl, new_cell rfl, ⟨_, new_cell rfl, HSq11.out.alloc _⟩, trivial⟩
                  have HQl : Hid (SIn Wl qk (.slice q1 (Fo.len qk) q3)) := by rw [Hid, ← hWl]; exact HSq11.out.alloc _
                  have Hs5 : Hid (s.length ≤ 10) := Hui.out.2
                  clear hWl b1 m0 m1 m2
                  go_loopw [11, 95] (fun vj i wr => ∃ (j : Nat) (o1 : Option Addr) (o3 : Nat) (xs : List Value), j ≤ s.length ∧ vj = .slice o1 j o3 ∧ i = .int .i64 j ∧ OwnS Wl.heap.size (XO wr (.slice o1 j o3)) wr ((s.take j).map fun p => (p.1, subT (bnd [(pn, ((qv, qn), qk))]) p.2)) (.slice o1 j o3) xs ∧ Below Wl.heap.size Wl wr) (fun _ i _ => s.length - (intOf i).toNat)
                  case atStart => exact ⟨0, none, 0, [], Nat.zero_le _, rfl, rfl, own_nil _ _, Below.refl _ _⟩
                  case round =>
                    obtain ⟨j, o1, o3, xs, hj, rfl, rfl, hO, hBr⟩ := hrel
                    have HO := hide hO
                    have HBr := hide hBr
                    have hsr := hBr.size
                    have hBw := below_step HBl.out hBr
                    have HBw := hide hBw
                    have Hlj : Hid (((s.take j).map fun p => (p.1, subT (bnd [(pn, ((qv, qn), qk))]) p.2)).length = j) := by rw [Hid, List.length_map, List.length_take]; omega
                    have H1 : Hid (wr.ownsRow Wl.heap.size 92 4 (.slice o1 j o3) j xs) := by
                      have := hO.row
                      rw [Hlj.out] at this
                      exact this
                    obtain ⟨i52, hi52, hz0, hz1, hz2⟩ := info_parts Tryz.info92
                    have hs5 := Hs5.out
                    clear hO hBr
                    by_cases hlt : j < s.length
                    · have hlt' : (j : Int) < (s.length : Int) := by omega
                      have hj0 : (0 : Int) ≤ (j : Int) := by omega
                      obtain ⟨⟨mm, ⟨ev, en⟩, ek⟩, hy⟩ : ∃ y, s[j]? = some y := ⟨s[j], by simp [hlt]⟩
                      have ha : vd = some ⟨vb, vo, none⟩ := Hvd.out (by omega)
                      subst ha
                      obtain ⟨d0, d1, d2, ya', d3, hSy⟩ := HP.out.at hy
                      have d0' := grow_cell hBw _ _ d0
                      have d1' := grow_cell hBw _ _ d1
                      have d2' := grow_cell hBw _ _ d2
                      have d3' := grow_cell hBw _ _ d3
                      have HSy := hide (hSy.below HBl.out)
                      obtain ⟨ya, yc, yb, yo, rfl, -, -, -, -⟩ := hSy
                      obtain ⟨⟨⟨zv, zn⟩, zk⟩, hz⟩ : ∃ z, z = subT (bnd [(pn, ((qv, qn), qk))]) ((ev, en), ek) := ⟨_, rfl⟩
                      have Hs1 : Hid ((s.take (j + 1)).map (fun p => (p.1, subT (bnd [(pn, ((qv, qn), qk))]) p.2)) = (s.take j).map (fun p => (p.1, subT (bnd [(pn, ((qv, qn), qk))]) p.2)) ++ [(mm, ((zv, zn), zk))]) := by rw [Hid, take_more hy, hz]
                      have Hge : Hid (Gd ((ev, en), ek)) := HE.out.ui.gs _ (List.mem_of_getElem? hy)
                      have hn1 : j + 1 ≤ maxLen := by unfold maxLen; omega
                      have hn2 : (j + 1) * 48 ≤ 140737488355328 := by omega
                      have Hz := hide hz
                      clear hy d0 d1 d2 d3 hBw hz
                      go_upto_region 20 with fail
                      generalize hwa : wr.alloc (.cells #[.int .i64 mm, .bool ev, .int .i64 en, .slice ya (Fo.len ek) yc] 92) = wa
                      have e0 : wa.cell? ⟨wr.heap.size, 0, none⟩ = some (.int .i64 mm) := by rw [← hwa]; exact new_cell rfl
                      have e1 : wa.cell? ⟨wr.heap.size, 1, none⟩ = some (.bool ev) := by rw [← hwa]; exact new_cell rfl
                      have e2 : wa.cell? ⟨wr.heap.size, 2, none⟩ = some (.int .i64 en) := by rw [← hwa]; exact new_cell rfl
                      have e3 : wa.cell? ⟨wr.heap.size, 3, none⟩ = some (.slice ya (Fo.len ek) yc) := by rw [← hwa]; exact new_cell rfl
                      have hba : Below wr.heap.size wr wa := by rw [← hwa]; exact below_alloc _ _
                      have hcall : Calls Tryz.prog 32 #[.slice (some ⟨w11.heap.size, 0, none⟩) 1 1, .agg #[.bool ev, .int .i64 en, .slice ya (Fo.len ek) yc]] wa.drew fun e w' => ∃ (a1 : Option Addr) (a2 a3 : Nat), e = .returned (.agg #[.bool zv, .int .i64 zn, .slice a1 a2 a3]) ∧ SB (fun q => q < Wl.heap.size ∨ (wr.heap.size ≤ q ∧ q < w'.heap.size)) w' zk (.slice a1 a2 a3) ∧ Below wa.heap.size wa w' := by
                        refine (applyR_any (ev, en) ek [(pn, ((qv, qn), qk))] _ Wl _ wa.drew ?_ Hone.out ?_ HSy.out Hge.out.ok Hge.out.nar).mono ?_
                        · exact (below_step HBr.out hba).drew
                        · intro p hp
                          simp only [List.mem_singleton] at hp
                          subst hp
                          exact HgQ.out.ok
                        · rintro e w' ⟨a1, a2, a3, rfl, hk, hb⟩
                          rw [← Hz.out] at hk ⊢
                          have hs := hba.size
                          exact ⟨a1, a2, a3, rfl, hk.wide (fun q hq => by rcases hq with h | h; exact .inl h; exact .inr ⟨Nat.le_trans hs h.1, h.2⟩), (Below.refl _ _).drew.trans hb⟩
                      have Hcall := hide hcall
                      have Hba := hide hba
                      clear hcall hwa d0' d1' d2' d3' hba
                      go_region_law (first
                        | (refine step_append_lies _ (by rfl) _ _ _ (by rfl) Wl.heap.size 92 i52 (.agg #[.int .i64 0, .bool false, .int .i64 0, .slice none 0 0]) 4 48 Tryz.underlying44 hi52 hz0 hz1 hz2 rfl (by decide) (.slice o1 j o3) j xs (by rfl) Hown3.out ⟨w3.heap.size, 0, none⟩ 1 1 [.int .i64 mm, .bool zv, .int .i64 zn, .slice a1 a2 a3] (by rfl) (by rfl) Hnews.out (by simp [Value.oneCell']) (by decide) hn1 hn2 (by simp; omega) (w3.heap.size + 1) (by simp) ?_; intro g cap w4 ho4 hg4 hat4 hlt4)
                        | (go_simp; go_at_call 32; refine Hcall.out.mono ?_; rintro e w3 ⟨a1, a2, a3, rfl, hk3, hb3⟩
                           have hs3 := hb3.size; have hsa := Hba.out.size; have k0 := grow_cell hb3 _ _ e0
                           have Hown3 : Hid ((w3.alloc (.cells #[.int .i64 mm, .bool zv, .int .i64 zn, .slice a1 a2 a3] 92)).ownsRow Wl.heap.size 92 4 (.slice o1 j o3) j xs) := (owns_keep H1.out (fun g hg => by have h := owns_at H1.out g hg; have hsz := Hba.out.size; rw [Below.heap_alloc _ _ _ (by omega), hb3.block g (by omega), Hba.out.block g h.2]))
                           have Hnews : Hid (∀ j u, [Value.int .i64 mm, .bool zv, .int .i64 zn, .slice a1 a2 a3][j]? = some u → (w3.alloc (.cells #[.int .i64 mm, .bool zv, .int .i64 zn, .slice a1 a2 a3] 92)).cell? ((⟨w3.heap.size, 0, none⟩ : Addr).add j) = some u) := (World.news_of_block (cs := #[.int .i64 mm, .bool zv, .int .i64 zn, .slice a1 a2 a3]) (heap_alloc_new w3 _))))
                      all_goals
                        have Hst := hide (out_next (n := mm) (t := ((zv, zn), zk)) (a := .slice a1 a2 a3) HO.out Hlj.out (below_step Hba.out hb3) hsr hk3 ho4 hg4 hat4 hlt4)
                        clear hk3 hb3 ho4 hg4 hat4 hlt4 k0 Hown3 Hnews hi52 hz0 hz1 hz2
                        go_wp2_with fail
                        go_roundw
                        case rel => exact ⟨j + 1, some ⟨g, 0, none⟩, cap, _, by omega, rfl, by go_num, by rw [Hs1.out]; exact Hst.out.1, HBr.out.trans Hst.out.2⟩
                        case measure => simp [intOf]; omega
                    · have hje : j = s.length := by omega
                      subst hje
                      have HCs : Hid (Cs wr (.slice (some ⟨w11.heap.size, 0, none⟩) 1 1) 1 4 [.int .i64 pn, .bool qv, .int .i64 qn, .slice q1 (Fo.len qk) q3]) := cs_pair ((HBr.out.block _ (by omega)).trans Hblk.out)
                      have hn1 : s.length + 1 ≤ maxLen := by unfold maxLen; omega
                      have hn2 : (s.length + 1) * 48 ≤ 140737488355328 := by omega
                      have HPC : Hid (PC (XO wr (.slice o1 s.length o3)) wr [(pn, ((qv, qn), qk))] [.int .i64 pn, .bool qv, .int .i64 qn, .slice q1 (Fo.len qk) q3]) := PC.one (t := ((qv, qn), qk)) ((HQl.out.toB.grow (fun _ h => h) HBr.out).wide (fun q hq => ⟨by omega, fun e => by have := (owns_at H1.out q e.symm).1; omega⟩))
                      clear hBw
                      go_wp2_with (at_builtin; refine wpList_append_gen rfl (.tmp 110) (.tmp 111) 44 rfl Wl.heap.size 92 i52 (.agg #[.int .i64 0, .bool false, .int .i64 0, .slice none 0 0]) 4 48 Tryz.underlying44 hi52 hz0 hz1 hz2 rfl (by decide) (.slice o1 s.length o3) s.length xs rfl H1.out _ 1 [.int .i64 pn, .bool qv, .int .i64 qn, .slice q1 (Fo.len qk) q3] rfl HCs.out hn1 hn2 hsr ?_; intro v4 w4 ho4 hg4 hat4)
                      have HB4 : Hid (Below w.heap.size w w4) := HBw.out.grown hg4 HBw.out.size (fun g hg => by have := (owns_at H1.out g hg).1; have := HBl.out.size; omega)
                      have Hrow : Hid (SubIn w4 ((s.map fun p => (p.1, subT (bnd [(pn, ((qv, qn), qk))]) p.2)) ++ [(pn, ((qv, qn), qk))]) v4) := by
                        have := row_more HO.out HPC.out (by rw [Hlj.out]; exact ho4) hg4
                        rw [List.take_length] at this
                        exact this
                      refine (HI.out m Hmn.out _ L R lt rt _ _ _ w4 HE2.out Hm2.out Hrow.out (HSl.out.below HB4.out) (HSr.out.below HB4.out)).mono ?_
                      rintro e w10 ⟨hb10, z1, zm, z3, ok, rfl, hno, hyes⟩
                      have Hf : Hid (UniPost w R (.returned (.tuple #[.slice z1 zm z3, .bool ok])) w10) := ⟨below_step HB4.out hb10, z1, zm, z3, ok, rfl, hno, hyes⟩
                      clear hno hyes hb10 ho4 hg4 hat4 hi52 hz0 hz1 hz2
                      go_wp2_with fail
                      go_ret2
                      exact Hf.out
                · have Hf : Hid (UniPost w R (.returned (.tuple #[.slice none 0 0, .bool false])) w11) := uni_no HB11.out (Hbind.out.1 (by
                    unfold addS
                    rw [if_pos (by simpa using hh)]))
                  clear hh
                  go_wp2_with fail
                  go_ret2
                  exact Hf.out
            · -- two symbols
              obtain ⟨rfl, rfl⟩ : mv = false ∧ nv = false := by revert hvv; cases mv <;> cases nv <;> simp
              obtain ⟨hargs0, hargs1⟩ := Eqs.args HE.out.ui HE'.out HR.out Hm.out Hn.out Het.out Heu.out Hgt.out Hgu.out rfl rfl
              clear hvv g1 g2
              by_cases hc : mn = nn ∧ Fo.len mk = Fo.len nk
              · obtain ⟨rfl, hll⟩ := hc
                obtain ⟨m, L', hmn, hE2, hm2⟩ := hargs1 ⟨rfl, hll⟩
                have HE2 : Hid (Eqs s L' (([] ++ mk.list) ++ lt) (([] ++ nk.list) ++ rt)) := hE2
                have Hm2 := hide hm2
                have Hmn := hide hmn
                have hnb : (mn != mn) = false := by simp
                have hlb : ((Fo.len mk : Int) != (Fo.len nk : Int)) = false := by simp [hll]
                have Hk1 : Hid (SIn w9 (foOf mk.list) (.slice x1 (Fo.len mk) x3)) := by rw [Hid, foOf_of_ok HgM.out.ok.2]; exact HSm9.out.toS
                have Hk2 : Hid (SIn w9 (foOf nk.list) (.slice y1 (Fo.len nk) y3)) := by rw [Hid, foOf_of_ok HgN.out.ok.2]; exact HSn9.out.toS
                have Hb1 : Hid (mk.list.length ≤ 2 ∧ nk.list.length ≤ 2 ∧ lt.length ≤ 12288 ∧ rt.length ≤ 12288) := by
                  have h1 := HgM.out.two.1
                  have h2 := HgN.out.two.1
                  have h3 := Hlen.out
                  have h4 := Hui.out
                  simp only at h1 h2
                  rw [Hid, Fo.len_list, Fo.len_list]
                  omega
                have hA1 : ([] : List Tm).length + mk.list.length ≤ 100000 := by have := Hb1.out; simp; omega
                have hA2 : ([] ++ mk.list).length + lt.length ≤ 100000 := by have := Hb1.out; simp; omega
                have hA3 : ([] : List Tm).length + nk.list.length ≤ 100000 := by have := Hb1.out; simp; omega
                have hA4 : ([] ++ nk.list).length + rt.length ≤ 100000 := by have := Hb1.out; simp; omega
                have hst := Side.init w9
                have ne1 : w9.heap.size ≠ bx := by omega
                have ne2 : w9.heap.size ≠ bb := by omega
                have ne3 : w9.heap.size + 1 ≠ bx := by omega
                have ne4 : w9.heap.size + 1 ≠ bb := by omega
                clear hargs0 hargs1 hE2 hm2 hll hmn
                go_upto_region 10 with fail
                go_region_held3 (fun w' => w'.cell? ⟨bx, 2, none⟩ = some (.slice x1 (Fo.len mk) x3) ∧ w'.cell? ⟨bb, 2, none⟩ = some (.slice y1 (Fo.len nk) y3))
                  (first
                    | (with_reducible exact ⟨grow_cell hst.below _ _ c2, grow_cell hst.below _ _ d2⟩)
                    | go_keep)
                  (first
                    | (apply step_app (wx := w9) (lv := .slice x1 (Fo.len mk) x3) (ts := mk.list) (a := []); (case hgd => rfl); (case ho => rfl); (case hx => rfl); (case hS => exact Hk1.out); (case hb => exact hA1)
                       (first | ((case h => with_reducible exact hst); (case hs => rfl)) | ((case h => with_reducible exact (hst.bareA rfl)); (case hs => rfl)) | ((case h => with_reducible exact (hst.bareA rfl).drew); (case hs => rfl)) | ((case h => with_reducible exact (hst.bareA rfl).bareB (World.size_alloc _ _).symm); (case hs => rfl)) | ((case h => with_reducible exact ((hst.bareA rfl).bareB (World.size_alloc _ _).symm).drew); (case hs => rfl)) | ((case h => with_reducible exact (hst.bareB rfl).bareA (World.size_alloc _ _).symm); (case hs => rfl)) | ((case h => with_reducible exact ((hst.bareB rfl).bareA (World.size_alloc _ _).symm).drew); (case hs => rfl)))
                       clear hst
                       intro vA wA hst
                       have k0 := grow_cell hst.below _ _ c2; have k1 := grow_cell hst.below _ _ d2; have hsz := hst.below.size
                       have k2 : wA.heap.size ≠ bx := (by omega); have k3 : wA.heap.size ≠ bb := (by omega); have k4 : wA.heap.size + 1 ≠ bx := (by omega); have k5 : wA.heap.size + 1 ≠ bb := (by omega))
                    | (apply step_app (wx := w9) (lv := .slice zl lt.length (lc - 1)) (ts := lt) (a := [] ++ mk.list); (case hgd => rfl); (case ho => rfl); (case hx => rfl); (case hS => exact HSl9.out); (case hb => exact hA2)
                       (first | ((case h => with_reducible exact hst); (case hs => rfl)) | ((case h => with_reducible exact (hst.bareB rfl)); (case hs => rfl)))
                       clear hst
                       intro vB wB hst
                       have k0 := grow_cell hst.below _ _ c2; have k1 := grow_cell hst.below _ _ d2; have hsz := hst.below.size
                       have k2 : wB.heap.size ≠ bx := (by omega); have k3 : wB.heap.size ≠ bb := (by omega); have k4 : wB.heap.size + 1 ≠ bx := (by omega); have k5 : wB.heap.size + 1 ≠ bb := (by omega))
                    | (apply step_app (wx := w9) (lv := .slice y1 (Fo.len nk) y3) (ts := nk.list) (a := []); (case hgd => rfl); (case ho => rfl); (case hx => rfl); (case hS => exact Hk2.out); (case hb => exact hA3)
                       (first | ((case h => with_reducible exact hst.swap); (case hs => rfl)) | ((case h => with_reducible exact (hst.bareB rfl).swap); (case hs => rfl)) | ((case h => with_reducible exact (hst.bareB rfl).drew.swap); (case hs => rfl)) | ((case h => with_reducible exact ((hst.bareA rfl).bareB (World.size_alloc _ _).symm).swap); (case hs => rfl)) | ((case h => with_reducible exact ((hst.bareA rfl).bareB (World.size_alloc _ _).symm).drew.swap); (case hs => rfl)) | ((case h => with_reducible exact ((hst.bareB rfl).bareA (World.size_alloc _ _).symm).swap); (case hs => rfl)) | ((case h => with_reducible exact ((hst.bareB rfl).bareA (World.size_alloc _ _).symm).drew.swap); (case hs => rfl)))
                       clear hst
                       intro vC wC hst
                       replace hst := hst.swap
                       have k0 := grow_cell hst.below _ _ c2; have k1 := grow_cell hst.below _ _ d2; have hsz := hst.below.size
                       have k2 : wC.heap.size ≠ bx := (by omega); have k3 : wC.heap.size ≠ bb := (by omega); have k4 : wC.heap.size + 1 ≠ bx := (by omega); have k5 : wC.heap.size + 1 ≠ bb := (by omega))
                    | (apply step_app (wx := w9) (lv := .slice zr rt.length (rc - 1)) (ts := rt) (a := [] ++ nk.list); (case hgd => rfl); (case ho => rfl); (case hx => rfl); (case hS => exact HSr9.out); (case hb => exact hA4)
                       (first | ((case h => with_reducible exact hst.swap); (case hs => rfl)) | ((case h => with_reducible exact (hst.bareA rfl).swap); (case hs => rfl)))
                       clear hst
                       intro vD wD hst
                       replace hst := hst.swap
                       have k0 := grow_cell hst.below _ _ c2; have k1 := grow_cell hst.below _ _ d2; have hsz := hst.below.size
                       have k2 : wD.heap.size ≠ bx := (by omega); have k3 : wD.heap.size ≠ bb := (by omega); have k4 : wD.heap.size + 1 ≠ bx := (by omega); have k5 : wD.heap.size + 1 ≠ bb := (by omega))
                    | (go_at_call 45
                       refine (HI.out m Hmn.out s L' R _ _ _ _ _ _ HE2.out Hm2.out (HV.out.below (below_step HB9.out hst.below)) hst.ra.sin hst.rb.sin).mono ?_
                       rintro e w10 ⟨hb10, z1, zm, z3, ok, rfl, hno, hyes⟩
                       have Hf : Hid (UniPost w R (.returned (.tuple #[.slice z1 zm z3, .bool ok])) w10) := (⟨below_step (below_step HB9.out hst.below) hb10, z1, zm, z3, ok, rfl, hno, hyes⟩)
                       clear hno hyes
                       replace hst := below_step hst.below hb10
                       have k0 := grow_cell hst _ _ c2; have k1 := grow_cell hst _ _ d2))
                all_goals
                  go_wp2_with fail
                  go_ret2
                  exact Hf.out
              · have Hf : Hid (∀ w', Below w.heap.size w w' → UniPost w R (.returned (.tuple #[.slice none 0 0, .bool false])) w') := fun w' hb => uni_no hb (hargs0 hc)
                by_cases hn : mn = nn
                · have hl : ¬ Fo.len mk = Fo.len nk := fun e => hc ⟨hn, e⟩
                  have hnb : (mn != nn) = false := by simp [hn]
                  have hlb : ((Fo.len mk : Int) != (Fo.len nk : Int)) = true := by simp; omega
                  clear hc hn hl hargs0 hargs1
                  go_wp2_with fail
                  go_ret2
                  exact Hf.out _ HB9.out
                · have hnb : (mn != nn) = true := by simp [hn]
                  clear hc hn hargs0 hargs1
                  go_wp2_with fail
                  go_ret2
                  exact Hf.out _ HB9.out
        · have Heq : Hid (((mv, mn), mk) = ((nv, nn), nk)) := sameT_eq HgM.out.ok HgN.out.ok hsm
          obtain ⟨m, hmn, hm2⟩ := Eqs.skip HE.out.ui HR.out Hm.out Hn.out Het.out Heu.out Heq.out
          have Hcall := hide (HI.out m hmn s L R lt rt _ _ _ w9 HE'.out hm2 (HV.out.below hB9) HSl9.out HSr9.out)
          clear hsm hm2 hb9 hb9'
          go_wp2_with fail
          refine Hcall.out.mono ?_
          rintro e w10 ⟨hb10, z1, zm, z3, ok, rfl, hno, hyes⟩
          have Hf : Hid (UniPost w R (.returned (.tuple #[.slice z1 zm z3, .bool ok])) w10) := ⟨below_step hB9 hb10, z1, zm, z3, ok, rfl, hno, hyes⟩
          clear hno hyes hb10
          go_wp2_with fail
          go_ret2
          exact Hf.out
set_option maxRecDepth 100000 in
set_option maxHeartbeats 1000000 in
theorem unifyR_any (x : Bool × Int) (k : Fo) (a : Value) (y : Bool × Int) (l : Fo) (c : Value) (w : World) (n : Nat) (R : Option Sb) (hR : runU n [] [((x, k), (y, l))] = some R) (hI : UI [] [((x, k), (y, l))]) (hS : SIn w k a) (hU : SIn w l c) :
    Calls Tryz.prog 17 #[.agg #[.bool x.1, .int .i64 x.2, a], .agg #[.bool y.1, .int .i64 y.2, c]] w (UniPost w R) := by
  obtain ⟨xv, xn⟩ := x
  obtain ⟨yv, yn⟩ := y
  have HR := hide hR
  have HS := hide hS
  have HU := hide hU
  have HE : Hid (Eqs [] [(((xv, xn), k), ((yv, yn), l))] [((xv, xn), k)] [((yv, yn), l)]) := by
    have h := hI.gL _ (List.mem_singleton.2 rfl)
    refine ⟨hI, rfl, rfl, fun t ht => ?_, fun t ht => ?_⟩
    · rw [List.mem_singleton.1 ht]; exact h.1
    · rw [List.mem_singleton.1 ht]; exact h.2
  obtain ⟨ad, ac, b, o, rfl, -, -, -, -⟩ := hS
  obtain ⟨ud, uc, ub, uo, rfl, -, -, -, -⟩ := hU
  clear hR hI
  go_enter Tryz.func17, Tryz.ntmps17
  go_wp2_with fail
  generalize hW2 : (w.alloc (.cells #[.bool xv, .int .i64 xn, .slice ad (Fo.len k) ac] 40)).alloc (.cells #[.bool yv, .int .i64 yn, .slice ud (Fo.len l) uc] 40) = W2
  have hB2 : Below w.heap.size w W2 := by rw [← hW2]; exact (below_alloc _ _).alloc (by simp) _
  have hs2 : W2.heap.size = w.heap.size + 1 + 1 := by rw [← hW2]; simp
  have h1 := one_in (t := ((xv, xn), k)) (HS.out.below hB2)
  have h2 := one_in (t := ((yv, yn), l)) ((HU.out.below hB2).alloc (.cells #[.bool xv, .int .i64 xn, .slice ad (Fo.len k) ac] 40))
  have hB4 : Below w.heap.size w ((W2.alloc (.cells #[.bool xv, .int .i64 xn, .slice ad (Fo.len k) ac] 40)).alloc (.cells #[.bool yv, .int .i64 yn, .slice ud (Fo.len l) uc] 40)) := (hB2.alloc hB2.size _).alloc (hB2.alloc hB2.size _).size _
  rw [World.size_alloc] at h2
  rw [hs2] at h1 h2
  have HB4 := hide hB4
  clear hW2 hB2 hs2 hB4
  refine (solve_any n [] _ R [((xv, xn), k)] [((yv, yn), l)] _ _ _ _ HE.out HR.out (SubIn.nil _) (h1.alloc _) h2).mono ?_
  rintro e w10 ⟨hb10, z1, zm, z3, ok, rfl, hno, hyes⟩
  have Hf : Hid (UniPost w R (.returned (.tuple #[.slice z1 zm z3, .bool ok])) w10) := ⟨below_step HB4.out hb10, z1, zm, z3, ok, rfl, hno, hyes⟩
  clear hno hyes hb10 h1 h2
  go_wp2_with fail
  go_ret2
  exact Hf.out
end Go.Proofs.YtaliegkkdhkfcacGreat
