/- CNu CV CNo DNorm D6e D6b -/
import Derived.Test.YtlgnpiphaeoeiadG12
import Derived.Deep.RegionHeld3
namespace Go.Proofs.Ytlgnpiphaeoeiad
open Go.RowKit Go.Deep Go.ChangeShapes Go.WideShapes
def PkRel (g : Nat) (W2 : World) (S : Sb) (j : Nat) (wr : World) : Prop :=
  Below g W2 wr ∧ There wr g (S.length * 4) ∧ g + 1 ≤ wr.heap.size ∧ ∃ xs, PC (fun q => g + 1 ≤ q ∧ q < wr.heap.size) wr (S.take j) xs ∧ ∀ i, i < xs.length → wr.cell? ⟨g, i, none⟩ = xs[i]?
theorem pk_start {W2 : World} {S : Sb} {z : Array Value} : PkRel W2.heap.size W2 S 0 (W2.alloc (.cells (madeCells z (S.length * 4)) 73)) := by
  refine ⟨below_alloc _ _, fun i hi => ⟨?_, frozen_new _ _ _ _⟩, by simp, [], rfl, fun i hi => by simp at hi⟩
  have hs : i < (madeCells z (S.length * 4)).size := by simp [madeCells]; exact hi
  exact ⟨(madeCells z (S.length * 4))[i], by simp [hs]⟩
theorem pk_step {g : Nat} {W2 wr : World} {S : Sb} {j : Nat} {n m : Int} (h : PkRel g W2 S j wr) (hl : S[j]? = some (n, vr m)) : PkRel g W2 S (j + 1) (setL wr g (j * 4) [.int .i64 n, .bool true, .int .i64 m, .slice none 0 0]) := by
  obtain ⟨hB, hT2, hs, xs, hX, hc⟩ := h
  have hj : j < S.length := (List.getElem?_eq_some_iff.1 hl).1
  have hxl : xs.length = j * 4 := by rw [hX.len, List.length_take]; rw [Nat.min_eq_left (by omega)]
  have at7 := setL_at (b := g) (xs := [.int .i64 n, .bool true, .int .i64 m, .slice none 0 0]) (o := j * 4) (w := wr) (fun i hi => (hT2 (j * 4 + i) (by simp at hi; omega)).1)
  refine ⟨setL_below (Nat.le_refl _) hB, fun i hi => ?_, by rw [setL_size]; omega, xs ++ [.int .i64 n, .bool true, .int .i64 m, .slice none 0 0], ?_, fun i hi => ?_⟩
  · obtain ⟨⟨v, hv⟩, hf⟩ := hT2 i hi
    refine ⟨?_, by rw [setL_frozen]; exact hf⟩
    by_cases hc : i < j * 4 ∨ j * 4 + 4 ≤ i
    · exact ⟨v, by rw [setL_other (.inr hc)]; exact hv⟩
    · obtain ⟨q, rfl⟩ : ∃ q, i = j * 4 + q := ⟨i - j * 4, by omega⟩
      exact ⟨_, at7 q _ (List.getElem?_eq_getElem (by simp; omega))⟩
  · rw [List.take_add_one, hl]
    refine PC.append (PC.one (t := vr m) (SB.nil _ _)) ?_
    refine hX.frame (fun q hq => ⟨by omega, by rw [setL_size]; omega⟩) (fun q i hq => setL_other (.inl (by omega)))
  · rw [List.getElem?_append]
    by_cases hc' : i < xs.length
    · rw [if_pos hc', setL_other (.inr (.inl (by omega)))]
      exact hc i hc'
    · rw [if_neg hc']
      have hi' : i - xs.length < 4 := by simp at hi; omega
      have := at7 (i - xs.length) _ (List.getElem?_eq_getElem (by simpa using hi'))
      rw [show j * 4 + (i - xs.length) = i by omega] at this
      rw [this, List.getElem?_eq_getElem (by simpa using hi')]
theorem pk_end {g : Nat} {W2 wr : World} {S : Sb} (h : PkRel g W2 S S.length wr) (hm : S.length ≤ maxLen) : SubIn wr S (.slice (some ⟨g, 0, none⟩) S.length S.length) := by
  obtain ⟨_, _, _, xs, hX, hc⟩ := h
  rw [List.take_length] at hX
  exact ⟨_, _, g, 0, rfl, fun _ => rfl, Nat.le_refl _, hm, hX.at (fun j hj => by rw [Nat.zero_add]; exact hc j hj)⟩
theorem num_len (vs : List Int) : (numS vs).length = vs.length := by simp [numS]
theorem num_at {vs : List Int} {j : Nat} (h : j < vs.length) : (numS vs)[j]? = some (vs.getD j 0, vr j) := by
  simp [numS, List.getD_eq_getElem?_getD, h]
theorem num_all (vs : List Int) : ∀ p ∈ numS vs, narT p.2 ∧ okT p.2 := fun p hp => by
  simp only [numS, List.mem_mapIdx] at hp
  obtain ⟨i, hi, rfl⟩ := hp
  exact ⟨nar_vr _, ok_vr _⟩
set_option maxRecDepth 100000 in
set_option maxHeartbeats 4000000 in
theorem number_any (k : Cl) (a : Value) (vs : List Int) (vv : Value) (w : World) (hS : CIn w k a) (hN : NIn w vs vv) (hn : ∀ l ∈ k, narT l.2.1 ∧ narT l.2.2) (hlen : k.length ≤ 1000000) (hvl : vs.length ≤ 1000000) :
    Calls Try.prog 50 #[a, vv] w fun e w' => ∃ g, e = .returned (.slice (some ⟨g, 0, none⟩) k.length k.length) ∧ CIn w' (k.map (mapL (subT (bnd (numS vs))))) (.slice (some ⟨g, 0, none⟩) k.length k.length) ∧ Below w.heap.size w w' := by
  have HS := hide hS
  obtain ⟨a1, a3, rfl⟩ := slice_of_cl hS
  obtain ⟨n1, n3, nb, no, rfl, hna, hnlc, hncm, hnF⟩ := hN
  unfold maxLen at hncm
  have HnF := hide hnF
  have Hn := hide hn
  clear hS hnF hn
  obtain ⟨iP, hi, hz0, hz1, hz2⟩ := info_parts Try.info73
  have hmk := fun w : World => run_make (P := Try.prog) w 46 73 iP _ Try.underlying46 hi hz0 .i64 .i64 (vs.length : Int) (vs.length : Int) (by omega) (by omega) (by rw [hz2]; omega) (by omega)
  rw [hz1] at hmk
  simp only [Int.toNat_natCast] at hmk
  go_enter Try.func50, Try.ntmps50
  go_wp2_with fail
  clear hmk hi hz0 hz1 hz2
  have H0 : Hid (PkRel w.heap.size w (numS vs) 0 (w.alloc (.cells (madeCells #[.int .i64 0, .bool false, .int .i64 0, .slice none 0 0] (vs.length * 4)) 73))) := by
    have := pk_start (W2 := w) (S := numS vs) (z := #[.int .i64 0, .bool false, .int .i64 0, .slice none 0 0])
    rw [num_len] at this
    exact this
  go_loopw [13] (fun i wr => ∃ j : Nat, j ≤ vs.length ∧ i = .int .i64 j ∧ PkRel w.heap.size w (numS vs) j wr) (fun i _ => vs.length - (intOf i).toNat)
  case atStart => exact ⟨0, Nat.zero_le _, rfl, H0.out⟩
  case round =>
    obtain ⟨j, hj, rfl, hR⟩ := hrel
    have HR := hide hR
    obtain ⟨hB, hT, hsz, -⟩ := hR
    have hBw : Below w.heap.size w wr := hB
    by_cases hlt : j < vs.length
    · have hlt' : (j : Int) < (vs.length : Int) := by omega
      have hj0 : (0 : Int) ≤ (j : Int) := by omega
      have hc := grow_cell hBw _ _ (HnF.out j hlt)
      have ha : n1 = some ⟨nb, no, none⟩ := hna (by omega)
      subst ha
      have hT' : There wr w.heap.size (vs.length * 4) := by rw [num_len] at hT; exact hT
      obtain ⟨⟨t0, e0⟩, f0⟩ := hT' (j * 4) (by omega)
      obtain ⟨⟨t1, e1⟩, f1⟩ := hT' (j * 4 + 1) (by omega)
      obtain ⟨⟨t2, e2⟩, f2⟩ := hT' (j * 4 + 2) (by omega)
      obtain ⟨⟨t3, e3⟩, f3⟩ := hT' (j * 4 + 3) (by omega)
      have Hstep := hide (pk_step HR.out (num_at hlt))
      generalize vs.getD j 0 = nn at *
      clear hna hT hT' hB
      go_wp2_with fail
      go_roundw
      case rel => exact ⟨j + 1, by omega, by go_num, Hstep.out⟩
      case measure => simp [intOf]; omega
    · have hje : j = vs.length := by omega
      have Hfin : Hid (SubIn wr (numS vs) (.slice (some ⟨w.heap.size, 0, none⟩) vs.length vs.length)) := by
        have h1 := HR.out
        have e : j = (numS vs).length := by rw [num_len]; exact hje
        rw [e] at h1
        have := pk_end h1 (by rw [num_len]; unfold maxLen; omega)
        rw [num_len] at this
        exact this
      clear hna hT hB
      go_wp2_with fail
      refine (applyC_any (numS vs) _ k _ wr Hfin.out (num_all vs) (HS.out.below hBw) Hn.out hlen).mono ?_
      rintro e w2 ⟨g, rfl, hC, hb2⟩
      have HC := hide hC
      have hB2 := below_step hBw hb2
      clear hC hb2
      go_wp2_with fail
      go_ret
      exact ⟨g, rfl, HC.out, hB2⟩
end Go.Proofs.Ytlgnpiphaeoeiad

namespace Go.Proofs.Ytlgnpiphaeoeiad
open Go.RowKit Go.Deep Go.ChangeShapes Go.WideShapes
theorem nin_vals {w : World} {lo : Nat} {T : List Int} {v : Value} (h : w.ownsRow lo 3 1 v T.length (vals T)) : NIn w T v := own_nin h
theorem nin_nil (w : World) : NIn w [] (.slice none 0 0) := own_nin (lo := 0) (World.ownsRow_nil _ _ _ _)
theorem varsT_grow (x : Bool × Int) (k : Fo) (v : List Int) : v.length ≤ (varsT x k v).length := by
  have key : ∀ (F : Fo) (v : List Int), v.length ≤ (varsF F v).length := by
    intro F
    induction F with
    | nil => intro v; exact Nat.le_refl _
    | node p q y l r ihl ihr =>
      intro v
      have h1 : v.length ≤ (varsT y l v).length := by
        unfold varsT
        split
        · split
          · exact Nat.le_refl _
          · simp
        · exact ihl v
      exact Nat.le_trans h1 (ihr (varsT y l v))
  unfold varsT
  split
  · split
    · exact Nat.le_refl _
    · simp
  · exact key k v
theorem varsC_grow (c : Cl) (j : Nat) (v : List Int) : (varsC (c.take j) v).length ≤ (varsC c v).length := by
  have key : ∀ (c : Cl) (v : List Int), v.length ≤ (varsC c v).length := by
    intro c
    induction c with
    | nil => intro v; exact Nat.le_refl _
    | cons l c ih =>
      intro v
      have h1 := varsT_grow l.2.1.1 l.2.1.2 v
      have h2 := varsT_grow l.2.2.1 l.2.2.2 (varsT l.2.1.1 l.2.1.2 v)
      have h3 := ih (varsL l v)
      have e : varsC (l :: c) v = varsC c (varsL l v) := rfl
      rw [e]
      simp only [varsL] at h3 ⊢
      omega
  have e : varsC c v = varsC (c.drop j) (varsC (c.take j) v) := by
    have h : varsC (c.take j ++ c.drop j) v = varsC (c.drop j) (varsC (c.take j) v) := List.foldl_append
    rw [List.take_append_drop] at h
    exact h
  rw [e]
  exact key _ _
set_option maxRecDepth 100000 in
set_option maxHeartbeats 2000000 in
theorem varsCR_any (k : Cl) (a : Value) (w : World) (hS : CIn w k a) (hb : (varsC k []).length ≤ 1000000000000) :
    Calls Try.prog 52 #[a] w fun e w' => ∃ v, e = .returned v ∧ NIn w' (varsC k []) v ∧ Below w.heap.size w w' := by
  obtain ⟨a1, c1, b1, o1, rfl, had1, hlc1, hcm1, hF1⟩ := hS
  unfold maxLen at hcm1
  have HF1 := hide hF1
  clear hF1
  go_enter Try.func52, Try.ntmps52
  go_wp2_with fail
  go_loopw [3, 8] (fun v i wr => ∃ (j : Nat) (z1 : Option Addr) (n z3 : Nat), j ≤ k.length ∧ i = .int .i64 j ∧ v = .slice z1 n z3 ∧ NIn wr (varsC (k.take j) []) v ∧ Below w.heap.size w wr) (fun _ i _ => k.length - (intOf i).toNat)
  case atStart => exact ⟨0, none, 0, 0, Nat.zero_le _, rfl, rfl, nin_nil _, Below.refl _ _⟩
  case round =>
    obtain ⟨j, z1, n, z3, hj, rfl, rfl, hV, hBr⟩ := hrel
    have HV := hide hV
    clear hV
    by_cases hlt : j < k.length
    · have hlt' : (j : Int) < (k.length : Int) := by omega
      obtain ⟨⟨yn, ⟨⟨yv, yi⟩, yk⟩, ⟨yv', yi'⟩, yk'⟩, hy⟩ : ∃ y, k[j]? = some y := ⟨k[j]'hlt, by simp⟩
      obtain ⟨p0, p1, p2, ⟨u3, p3, hA⟩, p4, p5, u6, p6, hD⟩ := (HF1.out.below hBr).at hy
      have ha1 : a1 = some ⟨b1, o1, none⟩ := had1 (by omega)
      subst ha1
      have HA := hide hA
      have HD := hide hD
      obtain ⟨_, _, _, _, rfl, -, -, -, -⟩ := hA
      obtain ⟨_, _, _, _, rfl, -, -, -, -⟩ := hD
      have Hy := hide hy
      have Hln : Hid ((varsT (yv, yi) yk (varsC (k.take j) [])).length ≤ 1000000000000 ∧ (varsT (yv', yi') yk' (varsT (yv, yi) yk (varsC (k.take j) []))).length ≤ 1000000000000) := by
        have h1 := varsC_take (v := []) hy
        have h2 := varsC_grow k (j + 1) []
        have h3 := varsT_grow (yv', yi') yk' (varsT (yv, yi) yk (varsC (k.take j) []))
        rw [h1] at h2
        simp only [varsL] at h2
        exact ⟨by omega, by omega⟩
      clear hy had1
      simp only at *
      go_wp2_with fail
      refine (varsR_few (yv, yi) yk _ (varsC (k.take j) []) _ _ _ rfl (HA.out.alloc _) (HV.out.alloc _) (by have := Hln.out.1; omega)).mono ?_
      rintro e w2 ⟨v2, rfl, hV2, hb2⟩
      obtain ⟨-, -, -, -, e4, e5, e6, -, hb2', -⟩ := lit_cells hb2
      have hB2 := below_step hBr hb2'
      have HD2 := hide (HD.out.below hb2')
      have HV2 := hide hV2
      obtain ⟨y1, y3, rfl⟩ := nin_slice hV2
      have Hl2 := hide (varsT_len (yv, yi) yk (varsC (k.take j) []))
      clear hb2 hV2
      go_wp2_with fail
      refine (varsR_few (yv', yi') yk' _ (varsT (yv, yi) yk (varsC (k.take j) [])) _ _ _ rfl HD2.out HV2.out (by have := Hln.out.2; omega)).mono ?_
      rintro e w3 ⟨v3, rfl, hV3, hb3⟩
      have hB3 := below_step hB2 hb3
      have HV3 := hide hV3
      obtain ⟨x1, x3, rfl⟩ := nin_slice hV3
      clear hV3
      go_wp2_with fail
      go_roundw
      case rel => exact ⟨j + 1, x1, _, x3, by omega, by go_num, rfl, by rw [varsC_take Hy.out]; exact HV3.out, hB3⟩
      case measure => simp [intOf]; omega
    · have Hfin : Hid (NIn wr (varsC k []) (.slice z1 n z3)) := by
        have e : j = k.length := by omega
        have := HV.out
        rw [e, List.take_length] at this
        exact this
      clear had1
      go_wp2_with fail
      go_ret
      exact ⟨_, rfl, Hfin.out, hBr⟩
set_option maxRecDepth 100000 in
set_option maxHeartbeats 2000000 in
theorem varsCl_any (k : Cl) (a : Value) (w : World) (hS : CIn w k a) (hb : (varsC k []).length ≤ 1000000000000) :
    Calls Try.prog 48 #[a] w fun e w' => ∃ v, e = .returned v ∧ NIn w' (varsC k []) v ∧ Below w.heap.size w w' := by
  obtain ⟨a1, c1, b1, o1, rfl, had1, hlc1, hcm1, hF1⟩ := hS
  unfold maxLen at hcm1
  have HF1 := hide hF1
  clear hF1
  go_enter Try.func48, Try.ntmps48
  go_wp2_with fail
  go_loopw [3, 8] (fun v i wr => ∃ (j : Nat) (z1 : Option Addr) (n z3 : Nat), j ≤ k.length ∧ i = .int .i64 j ∧ v = .slice z1 n z3 ∧ NIn wr (varsC (k.take j) []) v ∧ Below w.heap.size w wr) (fun _ i _ => k.length - (intOf i).toNat)
  case atStart => exact ⟨0, none, 0, 0, Nat.zero_le _, rfl, rfl, nin_nil _, Below.refl _ _⟩
  case round =>
    obtain ⟨j, z1, n, z3, hj, rfl, rfl, hV, hBr⟩ := hrel
    have HV := hide hV
    clear hV
    by_cases hlt : j < k.length
    · have hlt' : (j : Int) < (k.length : Int) := by omega
      obtain ⟨⟨yn, ⟨⟨yv, yi⟩, yk⟩, ⟨yv', yi'⟩, yk'⟩, hy⟩ : ∃ y, k[j]? = some y := ⟨k[j]'hlt, by simp⟩
      obtain ⟨p0, p1, p2, ⟨u3, p3, hA⟩, p4, p5, u6, p6, hD⟩ := (HF1.out.below hBr).at hy
      have ha1 : a1 = some ⟨b1, o1, none⟩ := had1 (by omega)
      subst ha1
      have HA := hide hA
      have HD := hide hD
      obtain ⟨ya, yc, _, _, rfl, -, -, -, -⟩ := hA
      obtain ⟨za, zc, _, _, rfl, -, -, -, -⟩ := hD
      have Hy := hide hy
      have Hln : Hid ((varsT (yv, yi) yk (varsC (k.take j) [])).length ≤ 1000000000000 ∧ (varsT (yv', yi') yk' (varsT (yv, yi) yk (varsC (k.take j) []))).length ≤ 1000000000000) := by
        have h1 := varsC_take (v := []) hy
        have h2 := varsC_grow k (j + 1) []
        have h3 := varsT_grow (yv', yi') yk' (varsT (yv, yi) yk (varsC (k.take j) []))
        rw [h1] at h2
        simp only [varsL] at h2
        exact ⟨by omega, by omega⟩
      have Hl2 := hide (varsT_len (yv, yi) yk (varsC (k.take j) []))
      clear hy had1
      simp only at *
      go_upto_region 5 with fail
      generalize hwa : wr.alloc (.cells #[.bool yn, .bool yv, .int .i64 yi, .slice ya (Fo.len yk) yc, .bool yv', .int .i64 yi', .slice za (Fo.len yk') zc] 35) = wa
      obtain ⟨-, g1, g2, g3, g4, g5, g6, -, hba, -⟩ := lit_cells (T := 35) (x0 := .bool yn) (w := wr) (wr := wa) (x1 := .bool yv) (x2 := .int .i64 yi) (x3 := .slice ya (Fo.len yk) yc) (x4 := .bool yv') (x5 := .int .i64 yi') (x6 := .slice za (Fo.len yk') zc) (by rw [hwa]; exact Below.refl _ _)
      clear hwa
      have HAa := hide (HA.out.below hba)
      have HDa := hide (HD.out.below hba)
      have HVa := hide (HV.out.below hba)
      have hcur : Below wa.heap.size wa wa.drew := (Below.refl _ _).drew
      go_region_held3 (fun w' => w'.cell? ⟨wr.heap.size, 1, none⟩ = some (.bool yv) ∧ w'.cell? ⟨wr.heap.size, 2, none⟩ = some (.int .i64 yi) ∧ w'.cell? ⟨wr.heap.size, 3, none⟩ = some (.slice ya (Fo.len yk) yc) ∧ w'.cell? ⟨wr.heap.size, 4, none⟩ = some (.bool yv') ∧ w'.cell? ⟨wr.heap.size, 5, none⟩ = some (.int .i64 yi') ∧ w'.cell? ⟨wr.heap.size, 6, none⟩ = some (.slice za (Fo.len yk') zc))
          (first
            | (with_reducible exact ⟨grow_cell hcur _ _ g1, grow_cell hcur _ _ g2, grow_cell hcur _ _ g3, grow_cell hcur _ _ g4, grow_cell hcur _ _ g5, grow_cell hcur _ _ g6⟩)
            | go_keep)
          (first
            | (go_at_call 62; with_reducible refine (vars_few (yv, yi) yk (.slice ya (Fo.len yk) yc) (varsC (k.take j) []) (.slice z1 n z3) _ _ rfl (HAa.out.below hcur) (HVa.out.below hcur) (by have := Hln.out.1; omega)).mono ?_; rintro e wS ⟨vS, rfl, hoS, hbS⟩; replace hcur := below_step hcur hbS; have HoS := hide (nin_vals hoS); obtain ⟨y1, y3, rfl⟩ := nin_slice HoS.out; clear hoS)
            | (go_at_call 62; with_reducible refine (vars_few (yv', yi') yk' (.slice za (Fo.len yk') zc) (varsT (yv, yi) yk (varsC (k.take j) [])) _ _ _ rfl (HDa.out.below hcur) (HoS.out.below ?_) (by have := Hln.out.2; omega)).mono ?_; (first | exact Below.refl _ _ | exact (Below.refl _ _).drew); rintro e wU ⟨vU, rfl, hoU, hbU⟩; replace hcur := below_step hcur hbU; have HoU := hide (nin_vals hoU); obtain ⟨x1, x3, rfl⟩ := nin_slice HoU.out; clear hoU))
      all_goals
        have hB2 := below_step hBr (below_step hba hcur)
        go_wp2_with fail
        go_roundw
        case rel => exact ⟨j + 1, _, _, _, by omega, by go_num, rfl, by rw [varsC_take Hy.out]; exact HoU.out, hB2⟩
        case measure => simp [intOf]; omega
    · have Hfin : Hid (NIn wr (varsC k []) (.slice z1 n z3)) := by
        have e : j = k.length := by omega
        have := HV.out
        rw [e, List.take_length] at this
        exact this
      clear had1
      go_wp2_with fail
      go_ret
      exact ⟨_, rfl, Hfin.out, hBr⟩
end Go.Proofs.Ytlgnpiphaeoeiad

namespace Go.Proofs.Ytlgnpiphaeoeiad
open Go.RowKit Go.Deep Go.ChangeShapes Go.WideShapes
set_option maxRecDepth 100000 in
set_option maxHeartbeats 4000000 in
theorem norm_anyX (k : Cl) (a : Value) (w : World) (hS : CIn w k a) (hg : GX k) :
    Calls Try.prog 33 #[a] w fun e w' => ∃ v, e = .returned (.tuple #[v, .int .i64 (normC k).1]) ∧ CIn w' (normC k).2 v ∧ Below w.heap.size w w' := by
  have HS := hide hS
  obtain ⟨a1, a3, rfl⟩ := slice_of_cl hS
  clear hS
  have Hcs := hide (norm_casesX hg)
  have hk4 := hg.1
  have HG : Hid (∀ l ∈ k, Gd l.2.1 ∧ Gd l.2.2 ∧ tszR l.2.1.2 ≤ 4000000000000 ∧ tszR l.2.2.2 ≤ 4000000000000) := fun l hl => ⟨(hg.2 l hl).gl, (hg.2 l hl).gr, (hg.2 l hl).sl, (hg.2 l hl).sr⟩
  go_enter Try.func33, Try.ntmps33
  go_wp2_with fail
  refine (turn_any k _ _ HS.out HG.out (by omega)).mono ?_
  rintro e w1 ⟨v1, er, d, rfl, hC1, hcs, hb1⟩
  rcases hcs with ⟨rfl, rfl, ht⟩ | ⟨rfl, ht⟩
  · have Hn : Hid (normC k = (6, [])) := by
      rcases Hcs.out with ⟨_, h⟩ | ⟨d, h, _⟩
      · exact h
      · rw [ht] at h; cases h
    obtain ⟨z1, z3, rfl⟩ := slice_of_cl hC1
    clear hC1 ht
    go_wp2_with fail
    go_ret2
    exact ⟨.slice none 0 0, by rw [Hn.out]; rfl, by rw [Hn.out]; exact CIn.nil _, hb1⟩
  · have Hrest : Hid (GX d ∧ GX (reN d) ∧ ((distC (reN d) = none ∧ normC k = (6, [])) ∨ ∃ e, distC (reN d) = some e ∧ GX e ∧ normC k = keepC d e)) := by
      rcases Hcs.out with ⟨h, _⟩ | ⟨d', h, h2⟩
      · rw [ht] at h; cases h
      · rw [ht] at h; cases h; exact h2
    have HC1 := hide hC1
    obtain ⟨z1, z3, rfl⟩ := slice_of_cl hC1
    clear hC1 ht
    have hd4 := Hrest.out.1.1
    have hv5 := gx_vars Hrest.out.1.2
    go_wp2_with fail
    refine (varsCl_any d _ _ HC1.out (by omega)).mono ?_
    rintro e w2 ⟨vv, rfl, hN, hb2⟩
    have HN := hide hN
    obtain ⟨y1, y3, rfl⟩ := nin_slice hN
    have hB2 := below_step hb1 hb2
    clear hN
    go_wp2_with fail
    refine (number_any d _ (varsC d []) _ _ (HC1.out.below hb2) HN.out (fun l hl => ⟨(Hrest.out.1.2 l hl).gl.nar, (Hrest.out.1.2 l hl).gr.nar⟩) (by omega) (by omega)).mono ?_
    rintro e w3 ⟨g, rfl, hC3, hb3⟩
    have HC3 : Hid (CIn w3 (reN d) (.slice (some ⟨g, 0, none⟩) d.length d.length)) := hC3
    have hB3 := below_step hB2 hb3
    clear hC3 hb2 hb3
    go_wp2_with fail
    refine (distinct_any (reN d) _ _ HC3.out (by have := Hrest.out.2.1.1; omega)).mono ?_
    rintro e w4 ⟨v4, er, f, rfl, hC4, hcs, hb4⟩
    have hB4 := below_step hB3 hb4
    rcases hcs with ⟨rfl, rfl, ht⟩ | ⟨rfl, ht⟩
    · have Hn : Hid (normC k = (6, [])) := by
        rcases Hrest.out.2.2 with ⟨_, h⟩ | ⟨d, h, _⟩
        · exact h
        · rw [ht] at h; cases h
      obtain ⟨x1, x3, rfl⟩ := slice_of_cl hC4
      clear hC4 ht
      go_wp2_with fail
      go_ret2
      exact ⟨.slice none 0 0, by rw [Hn.out]; rfl, by rw [Hn.out]; exact CIn.nil _, hB4⟩
    · have Hn : Hid (GX f ∧ normC k = keepC d f) := by
        rcases Hrest.out.2.2 with ⟨h, _⟩ | ⟨d, h, h2⟩
        · rw [ht] at h; cases h
        · rw [ht] at h; cases h; exact h2
      have HC4 := hide hC4
      obtain ⟨x1, x3, rfl⟩ := slice_of_cl hC4
      clear hC4 ht hb4
      have Hkb := hide (fun h => keep_big (d := d) (e := f) h)
      have Hko := hide (fun h1 h2 h3 => keep_ok (d := d) (e := f) h1 h2 h3)
      generalize hvl : (varsC d []).length = vl at *
      clear hvl
      by_cases c4 : 4 < f.length
      · have c4' : (4 : Int) < (f.length : Int) := by omega
        have Hk := hide (Hkb.out (.inl (.inl c4)))
        go_wp2_with fail
        go_ret2
        exact ⟨.slice none 0 0, by rw [Hn.out.2, Hk.out]; rfl, by rw [Hn.out.2, Hk.out]; exact CIn.nil _, hB4⟩
      have c4' : ¬ (4 : Int) < (f.length : Int) := by omega
      by_cases c5 : 5 < vl
      · have c5' : (5 : Int) < (vl : Int) := by omega
        have Hk := hide (Hkb.out (.inl (.inr c5)))
        go_wp2_with fail
        go_ret2
        exact ⟨.slice none 0 0, by rw [Hn.out.2, Hk.out]; rfl, by rw [Hn.out.2, Hk.out]; exact CIn.nil _, hB4⟩
      have c5' : ¬ (5 : Int) < (vl : Int) := by omega
      have hf4' : (f.length : Int) ≤ 4 := by omega
      have hv5' : (vl : Int) ≤ 5 := by omega
      go_wp2_with fail
      refine (containsG_any f _ _ HC4.out (fun p hp => ⟨(Hn.out.1.2 p hp).okl, (Hn.out.1.2 p hp).sl, (Hn.out.1.2 p hp).sr⟩)).mono ?_
      rintro e w5 ⟨rfl, hb5⟩
      have hB5 := below_step hB4 hb5
      have HC5 := hide (HC4.out.below hb5)
      clear hb5
      cases hbg : f.any bigL
      · have Hk := hide (Hko.out c4 c5 hbg)
        clear hbg
        go_wp2_with fail
        go_ret2
        exact ⟨.slice x1 f.length x3, by rw [Hn.out.2, Hk.out]; rfl, by rw [Hn.out.2, Hk.out]; exact HC5.out, hB5⟩
      · have Hk := hide (Hkb.out (.inr hbg))
        clear hbg
        go_wp2_with fail
        go_ret2
        exact ⟨.slice none 0 0, by rw [Hn.out.2, Hk.out]; rfl, by rw [Hn.out.2, Hk.out]; exact CIn.nil _, hB5⟩
end Go.Proofs.Ytlgnpiphaeoeiad

namespace Go.Proofs.Ytlgnpiphaeoeiad
open Go.RowKit Go.Deep Go.ChangeShapes Go.WideShapes
theorem lits_upto {n j c b o : Nat} (hj : j < n) (hc : n ≤ c) (w : World) : (Instr.slice 25 (.slice (some ⟨b, o, none⟩) n c) none (some (.int .i64 (j : Int))) none).run Try.prog w = .ok (.slice (some ⟨b, o, none⟩) j c) w := by
  rw [run_slice_h (ht := by kernel_rfl) (h0 := by omega) (h2 := by omega)]
  have e : (sizeOf (Try.prog.elem 25)).run Try.prog w = .ok 7 w := by
    rw [show Try.prog.elem 25 = 35 by kernel_rfl]
    simp [go_sem]
  simp only [Result.andThen, sliced, e]
  simp [Addr.add]
def NumBox (lo bb : Nat) (w : World) (s : Sb) (v : Value) (xs : List Value) : Prop := OwnS lo (fun _ => False) w s v xs ∧ v.ownBlock ≠ some bb ∧ w.cell? ⟨bb, 0, none⟩ = some v ∧ w.frozen? ⟨bb, 0, none⟩ = false ∧ bb < w.heap.size
theorem num_take {vs : List Int} {j : Nat} {n : Int} (h : vs[j]? = some n) : (numS vs).take (j + 1) = (numS vs).take j ++ [(n, vr j)] := by
  rw [List.take_add_one, numS, List.getElem?_mapIdx, h]; rfl
theorem numbox_next {lo bb j : Nat} {wr w4 : World} {vs : List Int} {n : Int} {v v4 : Value} {xs : List Value} {ob : Obj} (h : NumBox lo bb wr ((numS vs).take j) v xs) (hn : vs[j]? = some n) (hl : lo ≤ bb)
    (ho : w4.ownsRow lo 73 4 v4 (j + 1) (xs ++ [.int .i64 n, .bool true, .int .i64 j, .slice none 0 0])) (hg : (wr.alloc ob).grownBy w4 v.ownBlock) (hat : v4.ownBlock = v.ownBlock ∨ v4.ownBlock = some (wr.alloc ob).heap.size) :
    NumBox lo bb (w4.setCell ⟨bb, 0, none⟩ v4) ((numS vs).take (j + 1)) v4 (xs ++ [.int .i64 n, .bool true, .int .i64 j, .slice none 0 0]) ∧ Below lo wr (w4.setCell ⟨bb, 0, none⟩ v4) ∧ w4.cell? ⟨bb, 0, none⟩ = some v ∧ w4.frozen? ⟨bb, 0, none⟩ = false := by
  obtain ⟨h1, h2, h3, h4, h5⟩ := h
  have hs := hg.size
  simp only [World.size_alloc] at hs
  have hlen : ((numS vs).take (j + 1)).length = j + 1 := by
    have : j < vs.length := (List.getElem?_eq_some_iff.1 hn).1
    simp [numS]; omega
  have hne : v4.ownBlock ≠ some bb := by
    rcases hat with e | e
    · rw [e]; exact h2
    · rw [e]; simp; omega
  have hbb : w4.heap[bb]? = wr.heap[bb]? := by
    rw [hg.block bb (by simp; omega) (Ne.symm h2)]
    exact (below_alloc wr ob).block bb h5
  have hc4 : w4.cell? ⟨bb, 0, none⟩ = some v := by rw [World.cell?_of_block hbb]; exact h3
  have hf4 : w4.frozen? ⟨bb, 0, none⟩ = false := by
    rw [← h4]
    simp only [World.frozen?, hbb]
  refine ⟨⟨⟨?_, ?_, fun _ h => h.elim⟩, hne, set_same hc4, by simpa using hf4, by simp [World.setCell]; omega⟩, ?_, hc4, hf4⟩
  · rw [hlen]
    exact owns_keep ho (fun g hgg => Below.heap_setCell _ _ _ g (fun e => hne (by rw [hgg]; exact congrArg some e)))
  · rw [num_take hn]
    exact PC.append (PC.one (t := vr j) (SB.nil _ _)) (h1.cells.frame (fun _ h => h) (fun _ _ h => h.elim))
  · have hb : Below lo wr w4 := ⟨hg.os, hg.tape, hg.output, by omega, fun q hq => by
      have hqv : some q ≠ v.ownBlock := fun e => by have := owns_at h1.row q e.symm; omega
      by_cases hqw : q < wr.heap.size
      · rw [hg.block q (by simp; omega) hqv]; exact (below_alloc wr ob).block q hqw
      · exact absurd hqw (by omega)⟩
    exact hb.setCell hl _
set_option maxRecDepth 100000 in
set_option maxHeartbeats 8000000 in
theorem normD_anyX (k : Cl) (a : Value) (w : World) (hS : CIn w k a) (hg : GX k) :
    Calls Try.prog 34 #[a] w fun e w' => ∃ v, e = .returned (.tuple #[v, .int .i64 (normC k).1]) ∧ CIn w' (normC k).2 v ∧ Below w.heap.size w w' := by
  obtain ⟨a1, c1, b1, oo, rfl, had1, hlc1, hcm1, hF1⟩ := hS
  unfold maxLen at hcm1
  have HF1 := hide hF1
  have Hcs := hide (norm_casesX hg)
  have hk4 := hg.1
  have HG := hide hg
  clear hF1 hg
  obtain ⟨iL, hi, hz0, hz1, hz2⟩ := info_parts Try.info35
  obtain ⟨iP, hiP, hy0, hy1, hy2⟩ := info_parts Try.info73
  go_enter Try.func34, Try.ntmps34
  go_wp2_with fail
  go_loopw [4, 22] (fun v i wr => ∃ (j : Nat) (out : Cl) (o1 : Option Addr) (o3 : Nat) (xs : List Value), j ≤ k.length ∧ i = .int .i64 j ∧ v = .slice o1 out.length o3 ∧ out.length ≤ j ∧ turnC (k.take j) = some out ∧ OwnL w.heap.size (XO wr v) wr out v xs ∧ Below w.heap.size w wr) (fun _ i _ => k.length - (intOf i).toNat)
  case atStart => exact ⟨0, [], none, 0, [], Nat.zero_le _, rfl, rfl, Nat.le_refl _, rfl, ownL_nil _ _, Below.refl _ _⟩
  case round =>
    obtain ⟨j, out, o1, o3, xs, hj, rfl, rfl, hol, hT, hO, hBr⟩ := hrel
    have HT := hide hT
    have HO := hide hO
    clear hT hO
    have hsr := hBr.size
    by_cases hlt : j < k.length
    · have hlt' : (j : Int) < (k.length : Int) := by omega
      obtain ⟨⟨yn, ⟨⟨yv, yi⟩, yk⟩, ⟨yv', yi'⟩, yk'⟩, hy⟩ : ∃ y, k[j]? = some y := ⟨k[j]'hlt, by simp⟩
      obtain ⟨-, -, -, ⟨u3', p3', hA0⟩, -, -, u6', p6', hD0⟩ := HF1.out.at hy
      obtain ⟨p0, p1, p2, ⟨u3, p3, hA⟩, p4, p5, u6, p6, hD⟩ := (HF1.out.below hBr).at hy
      have e3 : u3' = u3 := by have := grow_cell hBr _ _ p3'; rw [p3] at this; exact (Option.some.inj this).symm
      have e6 : u6' = u6 := by have := grow_cell hBr _ _ p6'; rw [p6] at this; exact (Option.some.inj this).symm
      subst e3 e6
      have ha1 : a1 = some ⟨b1, oo, none⟩ := had1 (by omega)
      subst ha1
      have HA := hide hA
      have HD := hide hD
      have HA0 := hide hA0.toB
      have HD0 := hide hD0.toB
      obtain ⟨ya, yc, _, _, rfl, -, -, -, -⟩ := hA
      obtain ⟨za, zc, _, _, rfl, -, -, -, -⟩ := hD
      have Hgy := hide (HG.out.2 _ (List.mem_of_getElem? hy))
      have Hstep : Hid (turnC (k.take (j + 1)) = tstep (some out) (yn, ((yv, yi), yk), ((yv', yi'), yk'))) := by rw [Hid, turn_take hy, HT.out]
      have hn1 : out.length + 1 ≤ maxLen := by unfold maxLen; omega
      have hn2 : (out.length + 1) * 88 ≤ 140737488355328 := by omega
      clear hy had1 p3' p6' hA0 hD0
      simp only at *
      go_wp2_with fail
      refine (sameR_any (yv, yi) yk (yv', yi') yk' _ _ _ (HA.out.alloc _) (HD.out.alloc _)).mono ?_
      rintro e w2 ⟨rfl, hb2⟩
      obtain ⟨g0, g1, g2, g3, g4, g5, g6, gf, hb2', hlt2⟩ := lit_cells hb2
      have hB2 := below_step hBr hb2'
      clear hb2 p0 p1 p2 p3 p4 p5 p6
      cases hss : sameT (yv, yi) yk (yv', yi') yk'
      · have Hss := hide hss
        clear hss
        go_wp2_with fail
        refine (aboveR_any (yv', yi') yk' (yv, yi) yk _ _ _ (HD.out.below hb2') (HA.out.below hb2') (by have := Hgy.out.sr; simp only at this; omega) (by have := Hgy.out.sl; simp only at this; omega)).mono ?_
        rintro e w5 ⟨rfl, hb5⟩
        replace g0 := grow_cell hb5 _ _ g0
        replace g1 := grow_cell hb5 _ _ g1
        replace g2 := grow_cell hb5 _ _ g2
        replace g3 := grow_cell hb5 _ _ g3
        replace g4 := grow_cell hb5 _ _ g4
        replace g5 := grow_cell hb5 _ _ g5
        replace g6 := grow_cell hb5 _ _ g6
        have gf5 : ∀ i, w5.frozen? ⟨wr.heap.size, i, none⟩ = false := fun i => (hb5.frozen (by show wr.heap.size < _; omega)).trans (gf i)
        have hb25 := below_step hb2' hb5
        clear gf hb5
        cases hab : abvT ((yv', yi'), yk') ((yv, yi), yk)
        · have Hfl : Hid (flipL (yn, ((yv, yi), yk), ((yv', yi'), yk')) = (yn, ((yv, yi), yk), ((yv', yi'), yk'))) := by
            show flipL _ = _
            unfold flipL
            rw [if_neg (by rw [hab]; simp)]
          have Hst : Hid (turnC (k.take (j + 1)) = some (out ++ [(yn, ((yv, yi), yk), ((yv', yi'), yk'))])) := by
            show turnC _ = _
            rw [Hstep.out, tstep, Option.bind_some, if_neg (by rw [Hss.out]; simp), Hfl.out]
          clear hab
          have hb6 : ∀ ob, Below wr.heap.size wr (w5.alloc ob) := fun ob => below_step hb25 (below_alloc _ _)
          go_wp2_with (at_builtin; refine wpList_append_gen rfl (.tmp 46) (.tmp 48) 25 rfl w.heap.size 35 iL (.agg #[.bool false, .bool false, .int .i64 0, .slice none 0 0, .bool false, .int .i64 0, .slice none 0 0]) 7 88 Try.underlying25 hi hz0 hz1 hz2 rfl (by decide) (.slice o1 out.length o3) out.length xs rfl (OwnL.below HO.out (hb6 _)).row _ 1 (litV (yn, ((yv, yi), yk), ((yv', yi'), yk')) (.slice ya (Fo.len yk) yc) (.slice za (Fo.len yk') zc)) rfl cs_lit hn1 hn2 (Nat.le_trans hsr (hb6 _).size) ?_; intro v4 w4 ho4 hg4 hat4)
          obtain ⟨hO4, hB4⟩ := ownL_more (l := (yn, ((yv, yi), yk), ((yv', yi'), yk'))) HO.out (hb6 _) hsr (HA0.out.kept (fun q hq => (below_step hBr (hb6 _)).block q hq)) (HD0.out.kept (fun q hq => (below_step hBr (hb6 _)).block q hq)) ho4 hg4 hat4
          obtain ⟨r1, r3, rfl⟩ := slice_of_cl hO4.cl
          have HO4 := hide hO4
          have hBB := hBr.trans hB4
          clear hO4 ho4 hg4 hat4
          go_wp2_with fail
          go_roundw
          case rel => exact ⟨j + 1, _, r1, r3, _, by omega, by go_num, rfl, by simp; omega, Hst.out, HO4.out, hBB⟩
          case measure => simp [intOf]; omega
        · have Hfl : Hid (flipL (yn, ((yv, yi), yk), ((yv', yi'), yk')) = (yn, ((yv', yi'), yk'), ((yv, yi), yk))) := by
            show flipL _ = _
            unfold flipL
            rw [if_pos hab]
          have Hst : Hid (turnC (k.take (j + 1)) = some (out ++ [(yn, ((yv', yi'), yk'), ((yv, yi), yk))])) := by
            show turnC _ = _
            rw [Hstep.out, tstep, Option.bind_some, if_neg (by rw [Hss.out]; simp), Hfl.out]
          clear hab
          go_upto_region 10 with fail
          generalize hw3 : (((((((w5.setCell ⟨wr.heap.size, 0, none⟩ (.bool yn)).setCell ⟨wr.heap.size, 1, none⟩ (.bool yv')).setCell ⟨wr.heap.size, 2, none⟩ (.int .i64 yi')).setCell ⟨wr.heap.size, 3, none⟩ (.slice za (Fo.len yk') zc)).setCell ⟨wr.heap.size, 4, none⟩ (.bool yv)).setCell ⟨wr.heap.size, 5, none⟩ (.int .i64 yi)).setCell ⟨wr.heap.size, 6, none⟩ (.slice ya (Fo.len yk) yc)) = w3
          have e3 : w3 = setL w5 wr.heap.size 0 [.bool yn, .bool yv', .int .i64 yi', .slice za (Fo.len yk') zc, .bool yv, .int .i64 yi, .slice ya (Fo.len yk) yc] := hw3.symm
          have hb3 : Below wr.heap.size wr w3 := by rw [e3]; exact setL_below (Nat.le_refl _) hb25
          have at6 := setL_at (b := wr.heap.size) (xs := [.bool yn, .bool yv', .int .i64 yi', .slice za (Fo.len yk') zc, .bool yv, .int .i64 yi, .slice ya (Fo.len yk) yc]) (o := 0) (w := w5) (fun i hi => by
            simp at hi
            rw [Nat.zero_add]
            rcases i with _ | _ | _ | _ | _ | _ | _ | i
            · exact ⟨_, g0⟩
            · exact ⟨_, g1⟩
            · exact ⟨_, g2⟩
            · exact ⟨_, g3⟩
            · exact ⟨_, g4⟩
            · exact ⟨_, g5⟩
            · exact ⟨_, g6⟩
            · omega)
          have k0 : w3.cell? ⟨wr.heap.size, 0, none⟩ = some (.bool yn) := by rw [e3]; exact at6 0 _ rfl
          have k1 : w3.cell? ⟨wr.heap.size, 1, none⟩ = some (.bool yv') := by rw [e3]; exact at6 1 _ rfl
          have k2 : w3.cell? ⟨wr.heap.size, 2, none⟩ = some (.int .i64 yi') := by rw [e3]; exact at6 2 _ rfl
          have k3 : w3.cell? ⟨wr.heap.size, 3, none⟩ = some (.slice za (Fo.len yk') zc) := by rw [e3]; exact at6 3 _ rfl
          have k4 : w3.cell? ⟨wr.heap.size, 4, none⟩ = some (.bool yv) := by rw [e3]; exact at6 4 _ rfl
          have k5 : w3.cell? ⟨wr.heap.size, 5, none⟩ = some (.int .i64 yi) := by rw [e3]; exact at6 5 _ rfl
          have k6 : w3.cell? ⟨wr.heap.size, 6, none⟩ = some (.slice ya (Fo.len yk) yc) := by rw [e3]; exact at6 6 _ rfl
          clear at6 e3 hw3 g0 g1 g2 g3 g4 g5 g6 gf5
          have hb6 : ∀ ob, Below wr.heap.size wr (w3.alloc ob) := fun ob => below_step hb3 (below_alloc _ _)
          go_wp2_with (at_builtin; refine wpList_append_gen rfl (.tmp 46) (.tmp 48) 25 rfl w.heap.size 35 iL (.agg #[.bool false, .bool false, .int .i64 0, .slice none 0 0, .bool false, .int .i64 0, .slice none 0 0]) 7 88 Try.underlying25 hi hz0 hz1 hz2 rfl (by decide) (.slice o1 out.length o3) out.length xs rfl (OwnL.below HO.out (hb6 _)).row _ 1 (litV (yn, ((yv', yi'), yk'), ((yv, yi), yk)) (.slice za (Fo.len yk') zc) (.slice ya (Fo.len yk) yc)) rfl cs_lit hn1 hn2 (Nat.le_trans hsr (hb6 _).size) ?_; intro v4 w4 ho4 hg4 hat4)
          obtain ⟨hO4, hB4⟩ := ownL_more (l := (yn, ((yv', yi'), yk'), ((yv, yi), yk))) HO.out (hb6 _) hsr (HD0.out.kept (fun q hq => (below_step hBr (hb6 _)).block q hq)) (HA0.out.kept (fun q hq => (below_step hBr (hb6 _)).block q hq)) ho4 hg4 hat4
          obtain ⟨r1, r3, rfl⟩ := slice_of_cl hO4.cl
          have HO4 := hide hO4
          have hBB := hBr.trans hB4
          clear hO4 ho4 hg4 hat4
          go_wp2_with fail
          go_roundw
          case rel => exact ⟨j + 1, _, r1, r3, _, by omega, by go_num, rfl, by simp; omega, Hst.out, HO4.out, hBB⟩
          case measure => simp [intOf]; omega
      · cases yn
        · have Hst : Hid (normC k = (6, [])) := by
            have ht : turnC k = none := turn_stop (j := j + 1) (by rw [Hstep.out]; simp [tstep, hss])
            rcases Hcs.out with ⟨_, h⟩ | ⟨d, h, _⟩
            · exact h
            · rw [ht] at h; cases h
          clear hss
          go_wp2_with fail
          go_ret2
          exact ⟨.slice none 0 0, by rw [Hst.out]; rfl, by rw [Hst.out]; exact CIn.nil _, hB2⟩
        · have Hst : Hid (turnC (k.take (j + 1)) = some out) := by
            show turnC _ = _
            rw [Hstep.out]
            simp [tstep, hss]
          clear hss
          have HO2 : Hid (OwnL w.heap.size (XO w2 (.slice o1 out.length o3)) w2 out (.slice o1 out.length o3) xs) := (HO.out.below hb2').wide (fun q hq => ⟨by have := hq.1; have := hb2'.size; omega, hq.2⟩) (fun _ h => h)
          go_wp2_with fail
          go_roundw
          case rel => exact ⟨j + 1, _, o1, o3, _, by omega, by go_num, rfl, by omega, Hst.out, HO2.out, hB2⟩
          case measure => simp [intOf]; omega
    · have hje : j = k.length := by omega
      subst hje
      have Hrest : Hid (GX out ∧ GX (reN out) ∧ ((distC (reN out) = none ∧ normC k = (6, [])) ∨ ∃ e, distC (reN out) = some e ∧ GX e ∧ normC k = keepC out e)) := by
        have ht := HT.out
        rw [List.take_length] at ht
        rcases Hcs.out with ⟨h, _⟩ | ⟨d', h, h2⟩
        · rw [ht] at h; cases h
        · rw [ht] at h; cases h; exact h2
      have HC1 := hide HO.out.cl
      clear HO HT Hcs
      have hd4 := Hrest.out.1.1
      have hv5 := gx_vars Hrest.out.1.2
      go_wp2_with fail
      refine (varsCR_any out _ _ HC1.out (by omega)).mono ?_
      rintro e w2 ⟨vv, rfl, hN, hb2⟩
      obtain ⟨n1, nc, nb, no, rfl, hnad, hnlc, hncm, hNF⟩ := hN
      unfold maxLen at hncm
      have HNF := hide hNF
      have hB2 := below_step hBr hb2
      have HC2 := hide (HC1.out.below hb2)
      have hs2 := hB2.size
      clear hNF hb2 HC1
      have Hvs : Hid (∀ i, i < (varsC out []).length → (varsC out [])[i]? = some ((varsC out []).getD i 0)) := fun i hi => by
        rw [List.getD_eq_getElem?_getD, List.getElem?_eq_getElem hi]; rfl
      generalize hvl : varsC out [] = vs at *
      have Hvl := hide hvl
      clear hvl
      go_upto_region 14 with fail
      have H0 : Hid (NumBox w2.heap.size (w2.heap.size + 1) ((w2.alloc (.cells #[] 73)).alloc (.cells #[.slice (some ⟨w2.heap.size, 0, none⟩) 0 0] 46)) ((numS vs).take 0) (.slice (some ⟨w2.heap.size, 0, none⟩) 0 0) []) := by
        refine ⟨⟨?_, rfl, fun _ h => h.elim⟩, ?_, ?_, ?_, ?_⟩
        · refine own_bare ?_ (Nat.le_refl _)
          rw [(below_alloc _ _).block _ (by simp)]
          exact heap_alloc_new _ _
        · simp [Value.ownBlock]
        · exact new_cell (World.size_alloc _ _)
        · exact new_frozen (World.size_alloc _ _)
        · simp
      have hB0 : Below w2.heap.size w2 ((w2.alloc (.cells #[] 73)).alloc (.cells #[.slice (some ⟨w2.heap.size, 0, none⟩) 0 0] 46)) := below_step (below_alloc _ _) (below_alloc _ _)
      generalize ((w2.alloc (.cells #[] 73)).alloc (.cells #[.slice (some ⟨w2.heap.size, 0, none⟩) 0 0] 46)) = w3 at *
      go_wp2_with fail
      go_loopw [56] (fun i wr => ∃ (m : Nat) (q1 : Option Addr) (q3 : Nat) (ys : List Value), m ≤ vs.length ∧ i = .int .i64 m ∧ NumBox w2.heap.size (w2.heap.size + 1) wr ((numS vs).take m) (.slice q1 m q3) ys ∧ Below w2.heap.size w2 wr) (fun i _ => vs.length - (intOf i).toNat)
      case atStart => exact ⟨0, _, _, [], Nat.zero_le _, rfl, H0.out, hB0⟩
      case round =>
        obtain ⟨m, q1, q3, ys, hm, rfl, hNB, hBx⟩ := hrel
        have HNB := hide hNB
        have hsx := hBx.size
        by_cases hmlt : m < vs.length
        · have hmlt' : (m : Int) < (vs.length : Int) := by omega
          have hn1a : n1 = some ⟨nb, no, none⟩ := hnad (by omega)
          subst hn1a
          obtain ⟨-, hqb, qc, qf, hqlt⟩ := hNB
          have HV := hide (Hvs.out m hmlt)
          have pv := grow_cell hBx _ _ (HNF.out m hmlt)
          generalize vs.getD m 0 = vm at *
          have hm1 : m + 1 ≤ maxLen := by unfold maxLen; omega
          have hm2 : (m + 1) * 48 ≤ 140737488355328 := by omega
          have Hrow : Hid (wr.ownsRow w2.heap.size 73 4 (.slice q1 m q3) m ys) := by
            have h := HNB.out.1.row
            have e : ((numS vs).take m).length = m := by simp [numS]; omega
            rw [e] at h
            exact h
          have hbx : ∀ ob, Below wr.heap.size wr (wr.alloc ob) := fun ob => below_alloc _ _
          clear hnad hqb
          have hlen1 : ((numS vs).take (m + 1)).length = m + 1 := by simp [numS]; omega
          have Hlen1 := hide hlen1
          clear hlen1
          go_wp2_with (at_builtin; refine wpList_append_gen rfl (.tmp 61) (.tmp 66) 46 rfl w2.heap.size 73 iP (.agg #[.int .i64 0, .bool false, .int .i64 0, .slice none 0 0]) 4 48 Try.underlying46 hiP hy0 hy1 hy2 rfl (by decide) (.slice q1 m q3) m ys rfl (owns_keep Hrow.out (fun g hg => (hbx _).block g (owns_at Hrow.out g hg).2)) _ 1 [.int .i64 vm, .bool true, .int .i64 m, .slice none 0 0] rfl (cs_pair (heap_alloc_new _ _)) hm1 hm2 (Nat.le_trans hsx (hbx _).size) ?_; intro v4 w4 ho4 hg4 hat4; obtain ⟨hNB4, hB4, qc4, qf4⟩ := numbox_next HNB.out HV.out (by omega) ho4 hg4 hat4; obtain ⟨r1, r3, hr⟩ := slice_of_sub hNB4.1.sub; rw [Hlen1.out] at hr; subst hr; have HNB4 := hide hNB4; clear hNB4 ho4 hg4 hat4)
          go_roundw
          case rel => exact ⟨m + 1, r1, r3, _, by omega, by go_num, HNB4.out, hBx.trans hB4⟩
          case measure => simp [intOf]; omega
        · have hme : m = vs.length := by omega
          subst hme
          have HNB' : Hid (SubIn wr (numS vs) (.slice q1 vs.length q3)) := by
            have := HNB.out.1.sub
            rw [List.take_of_length_le (by simp [numS])] at this
            exact this
          obtain ⟨-, -, qc, -, -⟩ := hNB
          have hB3 := below_step hB2 hBx
          have HC3 := hide (HC2.out.below hBx)
          clear HNB HC2 H0 hB0
          go_wp2_with fail
          refine (eachDN_any (w2.heap.size + 1) (subT (bnd (numS vs))) (fun t => okT t ∧ narT t) out _ wr (cloDN_any (numS vs) _ _ wr qc HNB'.out (fun p hp => (num_gd hv5 p hp).ok)) HC3.out (fun l hl => ⟨⟨(Hrest.out.1.2 l hl).gl.ok, (Hrest.out.1.2 l hl).gl.nar⟩, (Hrest.out.1.2 l hl).gr.ok, (Hrest.out.1.2 l hl).gr.nar⟩) (by omega)).mono ?_
          rintro e w5 ⟨v5, xs5, rfl, hO5, hb5⟩
          have hC5 : CIn w5 (reN out) v5 := by
            have := hO5.cl
            rw [reN, Hvl.out]
            exact this
          have hB5 := below_step hB3 hb5
          clear hO5 hb5 HC3 HNB' qc
          obtain ⟨P, hP⟩ : ∃ P, P = reN out := ⟨_, rfl⟩
          have HrP : Hid (GX P ∧ ((distC P = none ∧ normC k = (6, [])) ∨ ∃ e, distC P = some e ∧ GX e ∧ normC k = keepC out e)) := by rw [hP]; exact Hrest.out.2
          rw [← hP] at hC5
          clear hP
          obtain ⟨e1, ec, eb, eo, rfl, head5, helc, hecm, hEF⟩ := hC5
          unfold maxLen at hecm
          have HEF := hide hEF
          have hP4 := HrP.out.1.1
          clear hEF
          go_wp2_with fail
          go_loopw [11, 74] (fun v i wr => ∃ (j : Nat) (ou : Cl) (o1 : Option Addr) (o3 : Nat) (xs : List Value), j ≤ P.length ∧ i = .int .i64 j ∧ v = .slice o1 ou.length o3 ∧ ou.length ≤ j ∧ distC (P.take j) = some ou ∧ OwnL w5.heap.size (XO wr v) wr ou v xs ∧ Below w5.heap.size w5 wr) (fun _ i _ => P.length - (intOf i).toNat)
          case atStart => exact ⟨0, [], none, 0, [], Nat.zero_le _, rfl, rfl, Nat.le_refl _, rfl, ownL_nil _ _, Below.refl _ _⟩
          case round =>
            obtain ⟨j, ou, o1, o3, xs, hj, rfl, rfl, hol, hT, hO, hBo⟩ := hrel
            have HT := hide hT
            have HO := hide hO
            clear hT hO
            have hsr := hBo.size
            by_cases hlt : j < P.length
            · have hlt' : (j : Int) < (P.length : Int) := by omega
              have hj0 : (0 : Int) ≤ (j : Int) := by omega
              obtain ⟨⟨xn, ⟨⟨xv, xi⟩, xk⟩, ⟨xv', xi'⟩, xk'⟩, hx⟩ : ∃ y, P[j]? = some y := ⟨P[j]'hlt, by simp⟩
              obtain ⟨-, -, -, ⟨u3', p3', hA0⟩, -, -, u6', p6', hD0⟩ := HEF.out.at hx
              obtain ⟨p0, p1, p2, ⟨u3, p3, hA⟩, p4, p5, u6, p6, hD⟩ := (HEF.out.below hBo).at hx
              have e3 : u3' = u3 := by have := grow_cell hBo _ _ p3'; rw [p3] at this; exact (Option.some.inj this).symm
              have e6 : u6' = u6 := by have := grow_cell hBo _ _ p6'; rw [p6] at this; exact (Option.some.inj this).symm
              subst e3 e6
              have he1 : e1 = some ⟨eb, eo, none⟩ := head5 (by omega)
              subst he1
              have HA := hide hA
              have HD := hide hD
              have HA0 := hide hA0.toB
              have HD0 := hide hD0.toB
              obtain ⟨ya, yc, _, _, rfl, -, -, -, -⟩ := hA
              obtain ⟨za, zc, _, _, rfl, -, -, -, -⟩ := hD
              have Hkept : Hid ((∀ d, dstep (some ou) (xn, ((xv, xi), xk), ((xv', xi'), xk')) = some d → distC (P.take (j + 1)) = some d) ∧ (dstep (some ou) (xn, ((xv, xi), xk), ((xv', xi'), xk')) = none → normC k = (6, [])) ∧ (dstep (some ou) (xn, ((xv, xi), xk), ((xv', xi'), xk')) = none ↔ ∃ y ∈ P.take j, likeL (xn, ((xv, xi), xk), ((xv', xi'), xk')) y = true ∧ y.1 ≠ xn) ∧ (dstep (some ou) (xn, ((xv, xi), xk), ((xv', xi'), xk')) = some ou ↔ (∃ y ∈ P.take j, likeL (xn, ((xv, xi), xk), ((xv', xi'), xk')) y = true) ∧ ¬ ∃ y ∈ P.take j, likeL (xn, ((xv, xi), xk), ((xv', xi'), xk')) y = true ∧ y.1 ≠ xn) ∧ ((∀ y ∈ P.take j, likeL (xn, ((xv, xi), xk), ((xv', xi'), xk')) y = false) → dstep (some ou) (xn, ((xv, xi), xk), ((xv', xi'), xk')) = some (ou ++ [(xn, ((xv, xi), xk), ((xv', xi'), xk'))]))) := by
                have hok : ∀ y ∈ P.take j, okL y := fun y hy => (HrP.out.1.2 y (List.mem_of_mem_take hy)).okl
                have hkp := dist_kept hok HT.out
                have hst : distC (P.take (j + 1)) = dstep (some ou) (xn, ((xv, xi), xk), ((xv', xi'), xk')) := by rw [dist_take hx, HT.out]
                have h := kept_step (o' := dstep (some ou) (xn, ((xv, xi), xk), ((xv', xi'), xk'))) hkp hok (HrP.out.1.2 _ (List.mem_of_getElem? hx)).okl rfl
                refine ⟨fun d hd => by rw [hst, hd], fun hn => ?_, h.2.1, h.2.2.1, h.2.2.2⟩
                have : distC P = none := dist_stop (j := j + 1) (by rw [hst, hn])
                rcases HrP.out.2 with ⟨_, h⟩ | ⟨d, h, _⟩
                · exact h
                · rw [this] at h; cases h
              have hn1 : ou.length + 1 ≤ maxLen := by unfold maxLen; omega
              have hn2 : (ou.length + 1) * 88 ≤ 140737488355328 := by omega
              have hup := fun w => lits_upto (b := eb) (o := eo) hlt helc w
              clear hx head5 p3' p6' hA0 hD0
              simp only at *
              go_upto_region 24 with fail
              generalize hwa : wr.alloc (.cells #[.bool xn, .bool xv, .int .i64 xi, .slice ya (Fo.len xk) yc, .bool xv', .int .i64 xi', .slice za (Fo.len xk') zc] 35) = wa
              obtain ⟨g0, g1, g2, g3, g4, g5, g6, -, hba, hsa⟩ := lit_cells (T := 35) (x0 := .bool xn) (w := wr) (wr := wa) (x1 := .bool xv) (x2 := .int .i64 xi) (x3 := .slice ya (Fo.len xk) yc) (x4 := .bool xv') (x5 := .int .i64 xi') (x6 := .slice za (Fo.len xk') zc) (by rw [← hwa]; exact Below.refl _ _)
              have HX1 := hide (HA.out.below hba)
              have HX2 := hide (HD.out.below hba)
              have hBa := below_step hBo hba
              generalize hbx : wr.heap.size = bx at *
              generalize wr = wo at *
              clear hwa HA HD p0 p1 p2 p3 p4 p5 p6
              go_wp2_with fail
              go_loopw [14, 83] (fun v i wn => ∃ (t : Nat), t ≤ j ∧ i = .int .i64 t ∧ v = .bool ((P.take t).any (likeL (xn, ((xv, xi), xk), ((xv', xi'), xk')))) ∧ (∀ y ∈ P.take t, likeL (xn, ((xv, xi), xk), ((xv', xi'), xk')) y = true → y.1 = xn) ∧ Below wa.heap.size wa wn) (fun _ i _ => j - (intOf i).toNat)
              case atStart => exact ⟨0, Nat.zero_le _, rfl, rfl, fun y hy => (by simp at hy), Below.refl _ _⟩
              case round =>
                obtain ⟨t, ht, rfl, rfl, hno, hBn⟩ := hrel
                have Hno0 := hide hno
                clear hno
                replace g0 := grow_cell hBn _ _ g0
                replace g1 := grow_cell hBn _ _ g1
                replace g2 := grow_cell hBn _ _ g2
                replace g3 := grow_cell hBn _ _ g3
                replace g4 := grow_cell hBn _ _ g4
                replace g5 := grow_cell hBn _ _ g5
                replace g6 := grow_cell hBn _ _ g6
                by_cases htl : t < j
                · have htl' : (t : Int) < (j : Int) := by omega
                  have htP : t < P.length := by omega
                  obtain ⟨⟨yn, ⟨⟨yv, yi⟩, yk⟩, ⟨yv', yi'⟩, yk'⟩, hy⟩ : ∃ y, P[t]? = some y := ⟨P[t]'htP, by simp⟩
                  obtain ⟨p0, p1, p2, ⟨u3, p3, hA⟩, p4, p5, u6, p6, hD⟩ := (HEF.out.below (below_step hBa hBn)).at hy
                  have HY1 := hide hA
                  have HY2 := hide hD
                  obtain ⟨ta, tc, _, _, rfl, -, -, -, -⟩ := hA
                  obtain ⟨sa, sc, _, _, rfl, -, -, -, -⟩ := hD
                  have Htk : Hid (P.take (t + 1) = P.take t ++ [(yn, ((yv, yi), yk), ((yv', yi'), yk'))]) := by rw [Hid, List.take_add_one, hy]; rfl
                  clear hy
                  simp only at *
                  go_upto_region 28 with fail
                  generalize hwb : wr.alloc (.cells #[.bool yn, .bool yv, .int .i64 yi, .slice ta (Fo.len yk) tc, .bool yv', .int .i64 yi', .slice sa (Fo.len yk') sc] 35) = wb
                  obtain ⟨k0, k1, k2, k3, k4, k5, k6, -, hbn, hsb⟩ := lit_cells (T := 35) (x0 := .bool yn) (w := wr) (wr := wb) (x1 := .bool yv) (x2 := .int .i64 yi) (x3 := .slice ta (Fo.len yk) tc) (x4 := .bool yv') (x5 := .int .i64 yi') (x6 := .slice sa (Fo.len yk') sc) (by rw [← hwb]; exact Below.refl _ _)
                  replace hBn := below_step hBn hbn
                  replace HY1 := hide (HY1.out.below hbn)
                  replace HY2 := hide (HY2.out.below hbn)
                  replace g0 := grow_cell hbn _ _ g0
                  replace g1 := grow_cell hbn _ _ g1
                  replace g2 := grow_cell hbn _ _ g2
                  replace g3 := grow_cell hbn _ _ g3
                  replace g4 := grow_cell hbn _ _ g4
                  replace g5 := grow_cell hbn _ _ g5
                  replace g6 := grow_cell hbn _ _ g6
                  generalize wr.heap.size = by' at *
                  clear hwb hbn p0 p1 p2 p3 p4 p5 p6
                  go_wp2_with fail
                  refine (likeR_any (xn, ((xv, xi), xk), ((xv', xi'), xk')) (yn, ((yv, yi), yk), ((yv', yi'), yk')) _ _ _ _ _ (HX1.out.below hBn) (HX2.out.below hBn) HY1.out HY2.out).mono ?_
                  rintro e wn ⟨rfl, hbn⟩
                  replace hBn := below_step hBn hbn
                  replace g0 := grow_cell hbn _ _ g0
                  replace g1 := grow_cell hbn _ _ g1
                  replace g2 := grow_cell hbn _ _ g2
                  replace g3 := grow_cell hbn _ _ g3
                  replace g4 := grow_cell hbn _ _ g4
                  replace g5 := grow_cell hbn _ _ g5
                  replace g6 := grow_cell hbn _ _ g6
                  replace k0 := grow_cell hbn _ _ k0
                  replace k1 := grow_cell hbn _ _ k1
                  replace k2 := grow_cell hbn _ _ k2
                  replace k3 := grow_cell hbn _ _ k3
                  replace k4 := grow_cell hbn _ _ k4
                  replace k5 := grow_cell hbn _ _ k5
                  replace k6 := grow_cell hbn _ _ k6
                  cases hlk : likeL (xn, ((xv, xi), xk), ((xv', xi'), xk')) (yn, ((yv, yi), yk), ((yv', yi'), yk'))
                  · have Hlk := hide hlk
                    have Hno : Hid (∀ y ∈ P.take (t + 1), likeL (xn, ((xv, xi), xk), ((xv', xi'), xk')) y = true → y.1 = xn) := fun y hy h => by
                      rw [Htk.out, List.mem_append] at hy
                      rcases hy with hy | hy
                      · exact Hno0.out y hy h
                      · simp at hy; subst hy; rw [hlk] at h; cases h
                    clear hlk
                    obtain ⟨hd, hhad⟩ : ∃ hd, hd = (P.take t).any (likeL (xn, ((xv, xi), xk), ((xv', xi'), xk'))) := ⟨_, rfl⟩
                    rw [← hhad]
                    replace hhad := hhad.symm
                    cases hd
                    · have Hany : Hid ((P.take (t + 1)).any (likeL (xn, ((xv, xi), xk), ((xv', xi'), xk'))) = false) := by rw [Hid, Htk.out, List.any_append, hhad]; simp [Hlk.out]
                      clear hhad
                      go_wp2_with fail
                      refine (likeR_any (xn, ((xv, xi), xk), ((xv', xi'), xk')) (yn, ((yv, yi), yk), ((yv', yi'), yk')) _ _ _ _ _ (HX1.out.below hBn) (HX2.out.below hBn) (HY1.out.below hbn) (HY2.out.below hbn)).mono ?_
                      rintro e wn' ⟨rfl, hbn'⟩
                      rw [Hlk.out]
                      replace hBn := below_step hBn hbn'
                      clear hbn'
                      go_wp2_with fail
                      go_roundw
                      case rel => exact ⟨t + 1, by omega, by go_num, by rw [Hany.out], Hno.out, hBn⟩
                      case measure => simp [intOf]; omega
                    · have Hany : Hid ((P.take (t + 1)).any (likeL (xn, ((xv, xi), xk), ((xv', xi'), xk'))) = true) := by rw [Hid, Htk.out, List.any_append, hhad]; simp
                      clear hhad
                      go_wp2_with fail
                      go_roundw
                      case rel => exact ⟨t + 1, by omega, by go_num, by rw [Hany.out], Hno.out, hBn⟩
                      case measure => simp [intOf]; omega
                  · have Hlk := hide hlk
                    clear hlk
                    by_cases hne : xn = yn
                    · have Hno : Hid (∀ y ∈ P.take (t + 1), likeL (xn, ((xv, xi), xk), ((xv', xi'), xk')) y = true → y.1 = xn) := fun y hy h => by
                        rw [Htk.out, List.mem_append] at hy
                        rcases hy with hy | hy
                        · exact Hno0.out y hy h
                        · simp at hy; subst hy; exact hne.symm
                      subst hne
                      obtain ⟨hd, hhad⟩ : ∃ hd, hd = (P.take t).any (likeL (xn, ((xv, xi), xk), ((xv', xi'), xk'))) := ⟨_, rfl⟩
                      rw [← hhad]
                      replace hhad := hhad.symm
                      cases hd
                      · have Hany : Hid ((P.take (t + 1)).any (likeL (xn, ((xv, xi), xk), ((xv', xi'), xk'))) = true) := by rw [Hid, Htk.out, List.any_append, hhad]; simp [Hlk.out]
                        clear hhad
                        go_wp2_with fail
                        refine (likeR_any (xn, ((xv, xi), xk), ((xv', xi'), xk')) (xn, ((yv, yi), yk), ((yv', yi'), yk')) _ _ _ _ _ (HX1.out.below hBn) (HX2.out.below hBn) (HY1.out.below hbn) (HY2.out.below hbn)).mono ?_
                        rintro e wn' ⟨rfl, hbn'⟩
                        rw [Hlk.out]
                        replace hBn := below_step hBn hbn'
                        clear hbn'
                        go_wp2_with fail
                        go_roundw
                        case rel => exact ⟨t + 1, by omega, by go_num, by rw [Hany.out], Hno.out, hBn⟩
                        case measure => simp [intOf]; omega
                      · have Hany : Hid ((P.take (t + 1)).any (likeL (xn, ((xv, xi), xk), ((xv', xi'), xk'))) = true) := by rw [Hid, Htk.out, List.any_append, hhad]; simp
                        clear hhad
                        go_wp2_with fail
                        go_roundw
                        case rel => exact ⟨t + 1, by omega, by go_num, by rw [Hany.out], Hno.out, hBn⟩
                        case measure => simp [intOf]; omega
                    · have Hst : Hid (normC k = (6, [])) := Hkept.out.2.1 (Hkept.out.2.2.1.2 ⟨(yn, ((yv, yi), yk), ((yv', yi'), yk')), by
                        have hm : (yn, ((yv, yi), yk), ((yv', yi'), yk')) ∈ P.take (t + 1) := by rw [Htk.out]; simp
                        rw [show P.take (t + 1) = (P.take j).take (t + 1) by rw [List.take_take]; congr 1; omega] at hm
                        exact List.mem_of_mem_take hm, Hlk.out, fun e => hne e.symm⟩)
                      have hBfin := below_step (below_step hB5 hBa) hBn
                      have hyx : yn = !xn := by cases xn <;> cases yn <;> first | rfl | exact absurd rfl hne
                      subst hyx
                      clear hne
                      cases xn
                      all_goals
                        simp only [Bool.not_false, Bool.not_true] at *
                        go_wp2_with fail
                        go_ret2
                        exact ⟨.slice none 0 0, by rw [Hst.out]; rfl, by rw [Hst.out]; exact CIn.nil _, hBfin⟩
                · have hte : t = j := by omega
                  subst hte
                  have hbw : Below wo.heap.size wo wr := by
                    have hba2 := hba
                    rw [← hbx] at hba2
                    exact below_step hba2 hBn
                  have hsr' : w5.heap.size ≤ wo.heap.size := by rw [hbx]; exact hsr
                  obtain ⟨hd, hhad⟩ : ∃ hd, hd = (P.take t).any (likeL (xn, ((xv, xi), xk), ((xv', xi'), xk'))) := ⟨_, rfl⟩
                  rw [← hhad]
                  replace hhad := hhad.symm
                  cases hd
                  · have Hst : Hid (distC (P.take (t + 1)) = some (ou ++ [(xn, ((xv, xi), xk), ((xv', xi'), xk'))])) := Hkept.out.1 _ (Hkept.out.2.2.2.2 (fun y hy => by simpa using List.any_eq_false.1 hhad y hy))
                    have hb6 : ∀ ob, Below wo.heap.size wo (wr.alloc ob) := fun ob => below_step hbw (below_alloc _ _)
                    clear hhad
                    go_wp2_with (at_builtin; refine wpList_append_gen rfl (.tmp 106) (.tmp 108) 25 rfl w5.heap.size 35 iL (.agg #[.bool false, .bool false, .int .i64 0, .slice none 0 0, .bool false, .int .i64 0, .slice none 0 0]) 7 88 Try.underlying25 hi hz0 hz1 hz2 rfl (by decide) (.slice o1 ou.length o3) ou.length xs rfl (OwnL.below HO.out (hb6 _)).row _ 1 (litV (xn, ((xv, xi), xk), ((xv', xi'), xk')) (.slice ya (Fo.len xk) yc) (.slice za (Fo.len xk') zc)) rfl cs_lit hn1 hn2 (Nat.le_trans hsr' (hb6 _).size) ?_; intro v4 w4 ho4 hg4 hat4)
                    obtain ⟨hO4, hB4⟩ := ownL_more (l := (xn, ((xv, xi), xk), ((xv', xi'), xk'))) HO.out (hb6 _) hsr' (HA0.out.kept (fun q hq => (below_step hBo (hb6 _)).block q hq)) (HD0.out.kept (fun q hq => (below_step hBo (hb6 _)).block q hq)) ho4 hg4 hat4
                    obtain ⟨r1, r3, rfl⟩ := slice_of_cl hO4.cl
                    have HO4 := hide hO4
                    have hBB := hBo.trans hB4
                    clear hO4 ho4 hg4 hat4
                    go_wp2_with fail
                    go_roundw
                    case rel => exact ⟨t + 1, _, r1, r3, _, by omega, by go_num, rfl, by simp; omega, Hst.out, HO4.out, hBB⟩
                    case measure => simp [intOf]; omega
                  · have Hst : Hid (distC (P.take (t + 1)) = some ou) := Hkept.out.1 _ (Hkept.out.2.2.2.1.2 ⟨by
                      obtain ⟨y, hy, h⟩ := List.any_eq_true.1 hhad
                      exact ⟨y, hy, h⟩, fun ⟨y, hy, h, hne⟩ => hne (Hno0.out y hy h)⟩)
                    have HO2 : Hid (OwnL w5.heap.size (XO wr (.slice o1 ou.length o3)) wr ou (.slice o1 ou.length o3) xs) := (HO.out.below hbw).wide (fun q hq => ⟨by have := hq.1; have := hbw.size; omega, hq.2⟩) (fun _ h => h)
                    have hBB := below_step hBo hbw
                    clear hhad
                    go_wp2_with fail
                    go_roundw
                    case rel => exact ⟨t + 1, _, o1, o3, _, by omega, by go_num, rfl, by omega, Hst.out, HO2.out, hBB⟩
                    case measure => simp [intOf]; omega
            · have hje : j = P.length := by omega
              subst hje
              have Hn : Hid (GX ou ∧ normC k = keepC out ou) := by
                have ht := HT.out
                rw [List.take_length] at ht
                rcases HrP.out.2 with ⟨h, _⟩ | ⟨d, h, h2⟩
                · rw [ht] at h; cases h
                · rw [ht] at h; cases h; exact h2
              have HC6 := hide HO.out.cl
              have hB6 := below_step hB5 hBo
              clear HO HT
              obtain ⟨f1, fc, fb, fo, hfe, fad, flc, fcm, hFF⟩ := HC6.out
              simp only [Value.slice.injEq, true_and] at hfe
              obtain ⟨rfl, rfl⟩ := hfe
              unfold maxLen at fcm
              have HFF := hide hFF
              clear hFF
              obtain ⟨B0, hB0⟩ : ∃ B0, (decide (4 < ou.length) || decide (5 < vs.length)) = B0 := ⟨_, rfl⟩
              have HB0 := hide hB0
              clear hB0
              generalize wr = wq at *
              go_upto_region 35 with fail
              go_cut [17] (fun s17 wx => s17 = .bool B0 ∧ wq = wx)
              case first =>
                by_cases c4 : 4 < ou.length
                · have c4' : (4 : Int) < (ou.length : Int) := by omega
                  go_wp2_with fail
                  go_meet
                  case rel => exact ⟨by rw [← HB0.out, decide_eq_true c4]; rfl, rfl⟩
                have c4' : ¬ (4 : Int) < (ou.length : Int) := by omega
                by_cases c5 : 5 < vs.length
                · have c5' : (5 : Int) < (vs.length : Int) := by omega
                  go_wp2_with fail
                  go_meet
                  case rel => exact ⟨by rw [← HB0.out, decide_eq_true c5, Bool.or_true], rfl⟩
                · have c5' : ¬ (5 : Int) < (vs.length : Int) := by omega
                  go_wp2_with fail
                  go_meet
                  case rel => exact ⟨by rw [← HB0.out, decide_eq_false c4, decide_eq_false c5]; rfl, rfl⟩
              case rest =>
                obtain ⟨rfl, rfl⟩ := hcut
                have Hkb : Hid ((B0 || ou.any bigL) = true → keepC out ou = (4, [])) := fun h => keep_big (by
                  rw [← HB0.out, Bool.or_eq_true, Bool.or_eq_true, decide_eq_true_eq, decide_eq_true_eq, ← Hvl.out] at h
                  exact h)
                have Hko : Hid ((B0 || ou.any bigL) = false → keepC out ou = (0, ou)) := fun h => by
                  rw [← HB0.out, Bool.or_eq_false_iff, Bool.or_eq_false_iff, decide_eq_false_iff_not, decide_eq_false_iff_not, ← Hvl.out] at h
                  exact keep_ok h.1.1 h.1.2 h.2
                go_wp2_with fail
                go_loopw [17, 121] (fun v i wr => ∃ (t : Nat), t ≤ ou.length ∧ i = .int .i64 t ∧ v = .bool (B0 || (ou.take t).any bigL) ∧ Below wq.heap.size wq wr) (fun _ i _ => ou.length - (intOf i).toNat)
                case atStart => exact ⟨0, Nat.zero_le _, rfl, by simp, Below.refl _ _⟩
                case round =>
                  obtain ⟨t, ht, rfl, rfl, hBn⟩ := hrel
                  obtain ⟨cb, hcb⟩ : ∃ cb, (B0 || (ou.take t).any bigL) = cb := ⟨_, rfl⟩
                  rw [hcb]
                  have Hcb := hide hcb
                  clear hcb
                  by_cases htl : t < ou.length
                  · have htl' : (t : Int) < (ou.length : Int) := by omega
                    obtain ⟨⟨yn, ⟨⟨yv, yi⟩, yk⟩, ⟨yv', yi'⟩, yk'⟩, hy⟩ : ∃ y, ou[t]? = some y := ⟨ou[t]'htl, by simp⟩
                    obtain ⟨p0, p1, p2, ⟨u3, p3, hA⟩, p4, p5, u6, p6, hD⟩ := (HFF.out.below hBn).at hy
                    have hf1 : o1 = some ⟨fb, fo, none⟩ := fad (by omega)
                    subst hf1
                    have HY1 := hide hA
                    have HY2 := hide hD
                    obtain ⟨ta, tc, _, _, rfl, -, -, -, -⟩ := hA
                    obtain ⟨sa, sc, _, _, rfl, -, -, -, -⟩ := hD
                    have Hgl := hide (Hn.out.1.2 _ (List.mem_of_getElem? hy))
                    have hs1 : tszR yk ≤ 4000000000000 := Hgl.out.sl
                    have hs2 : tszR yk' ≤ 4000000000000 := Hgl.out.sr
                    have Hw1 : Hid (wrap64 (tszR yk : Nat) = (tszR yk : Nat)) := wrap64_small (by omega) (by omega)
                    have Hw2 : Hid (wrap64 (tszR yk' : Nat) = (tszR yk' : Nat)) := wrap64_small (by omega) (by omega)
                    have Hnx : Hid ((B0 || (ou.take (t + 1)).any bigL) = (cb || (decide (12 < tszR yk) || decide (12 < tszR yk')))) := by
                      rw [Hid, ← Hcb.out, List.take_add_one, hy]
                      simp [bigL, Bool.or_assoc]
                    clear hy fad
                    simp only at *
                    cases cb
                    · go_wp2_with fail
                      refine (sizeR_any (yv, yi) yk _ _ (HY1.out.alloc _)).mono ?_
                      rintro e w7 ⟨rfl, hb7⟩
                      rw [Hw1.out]
                      obtain ⟨g0, g1, g2, g3, g4, g5, g6, -, hb7', hlt7⟩ := lit_cells hb7
                      replace hBn := below_step hBn hb7'
                      replace HY2 := hide (HY2.out.below hb7')
                      clear hb7 hb7' p0 p1 p2 p3 p4 p5 p6
                      by_cases c1 : 12 < tszR yk
                      · have c1' : (12 : Int) < (tszR yk : Nat) := by omega
                        have hd1 : decide ((12 : Int) < (tszR yk : Nat)) = true := decide_eq_true c1'
                        go_wp2_with fail
                        go_roundw
                        case rel => exact ⟨t + 1, by omega, by go_num, by rw [Hnx.out, decide_eq_true c1]; rfl, hBn⟩
                        case measure => simp [intOf]; omega
                      · have c1' : ¬ (12 : Int) < (tszR yk : Nat) := by omega
                        have hd1 : decide ((12 : Int) < (tszR yk : Nat)) = false := decide_eq_false c1'
                        go_wp2_with fail
                        refine (sizeR_any (yv', yi') yk' _ _ HY2.out).mono ?_
                        rintro e w8 ⟨rfl, hb8⟩
                        rw [Hw2.out]
                        replace hBn := below_step hBn hb8
                        clear hb8
                        obtain ⟨c2, hc2⟩ : ∃ c2, decide ((12 : Int) < (tszR yk' : Nat)) = c2 := ⟨_, rfl⟩
                        have Hc2 : Hid (decide (12 < tszR yk') = c2) := by
                          rw [Hid, ← hc2, decide_eq_decide]
                          omega
                        go_wp2_with fail
                        go_roundw
                        case rel => exact ⟨t + 1, by omega, by go_num, by rw [Hnx.out, decide_eq_false c1, Hc2.out, ← hc2]; simp, hBn⟩
                        case measure => simp [intOf]; omega
                    · have hBn2 := below_step hBn (below_alloc wr (.cells #[.bool yn, .bool yv, .int .i64 yi, .slice ta (Fo.len yk) tc, .bool yv', .int .i64 yi', .slice sa (Fo.len yk') sc] 35))
                      go_wp2_with fail
                      go_roundw
                      case rel => exact ⟨t + 1, by omega, by go_num, by rw [Hnx.out]; rfl, hBn2⟩
                      case measure => simp [intOf]; omega
                  · have hte : t = ou.length := by omega
                    subst hte
                    have Hfin : Hid ((B0 || ou.any bigL) = cb) := by
                      have := Hcb.out
                      rw [List.take_length] at this
                      exact this
                    have HC7 := hide (HC6.out.below hBn)
                    have hBfin := below_step hB6 hBn
                    cases cb
                    · have Hk := hide (Hko.out Hfin.out)
                      go_wp2_with fail
                      go_ret2
                      exact ⟨.slice o1 ou.length o3, by rw [Hn.out.2, Hk.out]; rfl, by rw [Hn.out.2, Hk.out]; exact HC7.out, hBfin⟩
                    · have Hk := hide (Hkb.out Hfin.out)
                      go_wp2_with fail
                      go_ret2
                      exact ⟨.slice none 0 0, by rw [Hn.out.2, Hk.out]; rfl, by rw [Hn.out.2, Hk.out]; exact CIn.nil _, hBfin⟩
end Go.Proofs.Ytlgnpiphaeoeiad

namespace Go.Proofs.Ytlgnpiphaeoeiad
open Go.RowKit Go.Deep Go.ChangeShapes Go.WideShapes
theorem Try.info25 : (Try.prog.info? 25).map (fun i => (i.zero, i.size, i.bytes)) = some (some (.slice none 0 0), 1, 24) := by kernel_rfl
section
variable {lo : Nat} {w w' : World} {p : Nat} {cs : List Cl} {lost : Bool} {v : Value} {xs : List Value}
end
theorem wpList_append_is {w : World} {ops : Array Oper} {rest : List Oper} {o : Oper} {a : Act} {Q : Exit → Act → World → Prop} (hgd : o.guard = none) (s x : Operand) (t : TypeId)
    (ho : o.op = .call { callee := .builtin .append, args := #[s, x], argTypes := #[t, t] }) (v lv v4 : Value) (w4 : World) (hs : a.eval s = v) (hx : a.eval x = lv) (hr : (Builtin.append_ #[t, t] o.type #[v, lv]).run Try.prog w = .ok v4 w4)
    (h : wpList Try.prog ops Q rest (a.put o.dst v4) w4) : wpList Try.prog ops Q (o :: rest) a w :=
  wpList_plain hgd fun _ hK => by
    unfold Oper.wp execOp
    simp only [ho, resolve, invoke, builtin, Sem.run_bind, Sem.run_pure, Result.andThen_ok, List.map_toArray, List.map_cons, List.map_nil, hs, hx, hr]
    exact hK _ _ h
end Go.Proofs.Ytlgnpiphaeoeiad

namespace Go.Proofs.Ytlgnpiphaeoeiad
open Go.RowKit Go.Deep Go.ChangeShapes Go.WideShapes
def turnL (yes : Bool) (l : Lt) : Lt := if yes then (l.1, l.2.2, l.2.1) else l
set_option maxRecDepth 100000 in
set_option maxHeartbeats 1000000 in
theorem turnR_any (l : Lt) (yes : Bool) (a1 d1 : Option Addr) (a2 a3 d2 d3 : Nat) (w : World) :
    Calls Try.prog 23 #[litA l (.slice a1 a2 a3) (.slice d1 d2 d3), .bool yes] w fun e w' => e = .returned (litA (turnL yes l) (if yes then .slice d1 d2 d3 else .slice a1 a2 a3) (if yes then .slice a1 a2 a3 else .slice d1 d2 d3)) ∧ Below w.heap.size w w' := by
  obtain ⟨ln, ⟨⟨lv, li⟩, lk⟩, ⟨lv', li'⟩, lk'⟩ := l
  cases yes
  · go_enter Try.func23, Try.ntmps23
    go_upto_region 1 with fail
    generalize hW1 : (w.alloc (.cells #[.bool ln, .bool lv, .int .i64 li, .slice a1 a2 a3, .bool lv', .int .i64 li', .slice d1 d2 d3] 35)).alloc (.cells #[.bool false, .bool false, .int .i64 0, .slice none 0 0, .bool false, .int .i64 0, .slice none 0 0] 35) = W1
    have hB1 : Below w.heap.size w W1 := by rw [← hW1]; exact (below_alloc _ _).alloc (by simp) _
    have g0 : W1.cell? ⟨w.heap.size, 0, none⟩ = some (.bool ln) := by rw [← hW1, World.cell?_alloc_lt _ _ _ (by simp)]; exact new_cell rfl
    have g1 : W1.cell? ⟨w.heap.size, 1, none⟩ = some (.bool lv) := by rw [← hW1, World.cell?_alloc_lt _ _ _ (by simp)]; exact new_cell rfl
    have g2 : W1.cell? ⟨w.heap.size, 2, none⟩ = some (.int .i64 li) := by rw [← hW1, World.cell?_alloc_lt _ _ _ (by simp)]; exact new_cell rfl
    have g3 : W1.cell? ⟨w.heap.size, 3, none⟩ = some (.slice a1 a2 a3) := by rw [← hW1, World.cell?_alloc_lt _ _ _ (by simp)]; exact new_cell rfl
    have g4 : W1.cell? ⟨w.heap.size, 4, none⟩ = some (.bool lv') := by rw [← hW1, World.cell?_alloc_lt _ _ _ (by simp)]; exact new_cell rfl
    have g5 : W1.cell? ⟨w.heap.size, 5, none⟩ = some (.int .i64 li') := by rw [← hW1, World.cell?_alloc_lt _ _ _ (by simp)]; exact new_cell rfl
    have g6 : W1.cell? ⟨w.heap.size, 6, none⟩ = some (.slice d1 d2 d3) := by rw [← hW1, World.cell?_alloc_lt _ _ _ (by simp)]; exact new_cell rfl
    have r0 : W1.cell? ⟨w.heap.size + 1, 0, none⟩ = some (.bool false) := by rw [← hW1]; exact new_cell (World.size_alloc _ _)
    have r1 : W1.cell? ⟨w.heap.size + 1, 1, none⟩ = some (.bool false) := by rw [← hW1]; exact new_cell (World.size_alloc _ _)
    have r2 : W1.cell? ⟨w.heap.size + 1, 2, none⟩ = some (.int .i64 0) := by rw [← hW1]; exact new_cell (World.size_alloc _ _)
    have r3 : W1.cell? ⟨w.heap.size + 1, 3, none⟩ = some (.slice none 0 0) := by rw [← hW1]; exact new_cell (World.size_alloc _ _)
    have r4 : W1.cell? ⟨w.heap.size + 1, 4, none⟩ = some (.bool false) := by rw [← hW1]; exact new_cell (World.size_alloc _ _)
    have r5 : W1.cell? ⟨w.heap.size + 1, 5, none⟩ = some (.int .i64 0) := by rw [← hW1]; exact new_cell (World.size_alloc _ _)
    have r6 : W1.cell? ⟨w.heap.size + 1, 6, none⟩ = some (.slice none 0 0) := by rw [← hW1]; exact new_cell (World.size_alloc _ _)
    have rf : ∀ i, W1.frozen? ⟨w.heap.size + 1, i, none⟩ = false := fun i => by rw [← hW1]; exact new_frozen (World.size_alloc _ _)
    clear hW1
    go_wp2_with fail
    generalize hw3 : (((((((W1.setCell ⟨w.heap.size + 1, 0, none⟩ (.bool ln)).setCell ⟨w.heap.size + 1, 1, none⟩ (.bool lv)).setCell ⟨w.heap.size + 1, 2, none⟩ (.int .i64 li)).setCell ⟨w.heap.size + 1, 3, none⟩ (.slice a1 a2 a3)).setCell ⟨w.heap.size + 1, 4, none⟩ (.bool lv')).setCell ⟨w.heap.size + 1, 5, none⟩ (.int .i64 li')).setCell ⟨w.heap.size + 1, 6, none⟩ (.slice d1 d2 d3)) = w3
    have e3 : w3 = setL W1 (w.heap.size + 1) 0 [.bool ln, .bool lv, .int .i64 li, .slice a1 a2 a3, .bool lv', .int .i64 li', .slice d1 d2 d3] := hw3.symm
    have hb3 : Below w.heap.size w w3 := by rw [e3]; exact setL_below (by omega) hB1
    have at6 := setL_at (b := w.heap.size + 1) (xs := [.bool ln, .bool lv, .int .i64 li, .slice a1 a2 a3, .bool lv', .int .i64 li', .slice d1 d2 d3]) (o := 0) (w := W1) (fun i hi => by
      simp at hi
      rw [Nat.zero_add]
      rcases i with _ | _ | _ | _ | _ | _ | _ | i
      · exact ⟨_, r0⟩
      · exact ⟨_, r1⟩
      · exact ⟨_, r2⟩
      · exact ⟨_, r3⟩
      · exact ⟨_, r4⟩
      · exact ⟨_, r5⟩
      · exact ⟨_, r6⟩
      · omega)
    have k0 : w3.cell? ⟨w.heap.size + 1, 0, none⟩ = some (.bool ln) := by rw [e3]; exact at6 0 _ rfl
    have k1 : w3.cell? ⟨w.heap.size + 1, 1, none⟩ = some (.bool lv) := by rw [e3]; exact at6 1 _ rfl
    have k2 : w3.cell? ⟨w.heap.size + 1, 2, none⟩ = some (.int .i64 li) := by rw [e3]; exact at6 2 _ rfl
    have k3 : w3.cell? ⟨w.heap.size + 1, 3, none⟩ = some (.slice a1 a2 a3) := by rw [e3]; exact at6 3 _ rfl
    have k4 : w3.cell? ⟨w.heap.size + 1, 4, none⟩ = some (.bool lv') := by rw [e3]; exact at6 4 _ rfl
    have k5 : w3.cell? ⟨w.heap.size + 1, 5, none⟩ = some (.int .i64 li') := by rw [e3]; exact at6 5 _ rfl
    have k6 : w3.cell? ⟨w.heap.size + 1, 6, none⟩ = some (.slice d1 d2 d3) := by rw [e3]; exact at6 6 _ rfl
    clear at6 e3 hw3
    exact bodyPost_ret (v := .agg #[.bool ln, .bool lv, .int .i64 li, .slice a1 a2 a3, .bool lv', .int .i64 li', .slice d1 d2 d3]) (by simp [results, Try.results23, go_sem, k0, k1, k2, k3, k4, k5, k6]) rfl ⟨rfl, hb3⟩
  · go_enter Try.func23, Try.ntmps23
    go_upto_region 1 with fail
    generalize hW1 : (w.alloc (.cells #[.bool ln, .bool lv, .int .i64 li, .slice a1 a2 a3, .bool lv', .int .i64 li', .slice d1 d2 d3] 35)).alloc (.cells #[.bool false, .bool false, .int .i64 0, .slice none 0 0, .bool false, .int .i64 0, .slice none 0 0] 35) = W1
    have hB1 : Below w.heap.size w W1 := by rw [← hW1]; exact (below_alloc _ _).alloc (by simp) _
    have g0 : W1.cell? ⟨w.heap.size, 0, none⟩ = some (.bool ln) := by rw [← hW1, World.cell?_alloc_lt _ _ _ (by simp)]; exact new_cell rfl
    have g1 : W1.cell? ⟨w.heap.size, 1, none⟩ = some (.bool lv) := by rw [← hW1, World.cell?_alloc_lt _ _ _ (by simp)]; exact new_cell rfl
    have g2 : W1.cell? ⟨w.heap.size, 2, none⟩ = some (.int .i64 li) := by rw [← hW1, World.cell?_alloc_lt _ _ _ (by simp)]; exact new_cell rfl
    have g3 : W1.cell? ⟨w.heap.size, 3, none⟩ = some (.slice a1 a2 a3) := by rw [← hW1, World.cell?_alloc_lt _ _ _ (by simp)]; exact new_cell rfl
    have g4 : W1.cell? ⟨w.heap.size, 4, none⟩ = some (.bool lv') := by rw [← hW1, World.cell?_alloc_lt _ _ _ (by simp)]; exact new_cell rfl
    have g5 : W1.cell? ⟨w.heap.size, 5, none⟩ = some (.int .i64 li') := by rw [← hW1, World.cell?_alloc_lt _ _ _ (by simp)]; exact new_cell rfl
    have g6 : W1.cell? ⟨w.heap.size, 6, none⟩ = some (.slice d1 d2 d3) := by rw [← hW1, World.cell?_alloc_lt _ _ _ (by simp)]; exact new_cell rfl
    have r0 : W1.cell? ⟨w.heap.size + 1, 0, none⟩ = some (.bool false) := by rw [← hW1]; exact new_cell (World.size_alloc _ _)
    have r1 : W1.cell? ⟨w.heap.size + 1, 1, none⟩ = some (.bool false) := by rw [← hW1]; exact new_cell (World.size_alloc _ _)
    have r2 : W1.cell? ⟨w.heap.size + 1, 2, none⟩ = some (.int .i64 0) := by rw [← hW1]; exact new_cell (World.size_alloc _ _)
    have r3 : W1.cell? ⟨w.heap.size + 1, 3, none⟩ = some (.slice none 0 0) := by rw [← hW1]; exact new_cell (World.size_alloc _ _)
    have r4 : W1.cell? ⟨w.heap.size + 1, 4, none⟩ = some (.bool false) := by rw [← hW1]; exact new_cell (World.size_alloc _ _)
    have r5 : W1.cell? ⟨w.heap.size + 1, 5, none⟩ = some (.int .i64 0) := by rw [← hW1]; exact new_cell (World.size_alloc _ _)
    have r6 : W1.cell? ⟨w.heap.size + 1, 6, none⟩ = some (.slice none 0 0) := by rw [← hW1]; exact new_cell (World.size_alloc _ _)
    have rf : ∀ i, W1.frozen? ⟨w.heap.size + 1, i, none⟩ = false := fun i => by rw [← hW1]; exact new_frozen (World.size_alloc _ _)
    clear hW1
    go_wp2_with fail
    generalize hw3 : (((((((W1.setCell ⟨w.heap.size + 1, 0, none⟩ (.bool ln)).setCell ⟨w.heap.size + 1, 1, none⟩ (.bool lv')).setCell ⟨w.heap.size + 1, 2, none⟩ (.int .i64 li')).setCell ⟨w.heap.size + 1, 3, none⟩ (.slice d1 d2 d3)).setCell ⟨w.heap.size + 1, 4, none⟩ (.bool lv)).setCell ⟨w.heap.size + 1, 5, none⟩ (.int .i64 li)).setCell ⟨w.heap.size + 1, 6, none⟩ (.slice a1 a2 a3)) = w3
    have e3 : w3 = setL W1 (w.heap.size + 1) 0 [.bool ln, .bool lv', .int .i64 li', .slice d1 d2 d3, .bool lv, .int .i64 li, .slice a1 a2 a3] := hw3.symm
    have hb3 : Below w.heap.size w w3 := by rw [e3]; exact setL_below (by omega) hB1
    have at6 := setL_at (b := w.heap.size + 1) (xs := [.bool ln, .bool lv', .int .i64 li', .slice d1 d2 d3, .bool lv, .int .i64 li, .slice a1 a2 a3]) (o := 0) (w := W1) (fun i hi => by
      simp at hi
      rw [Nat.zero_add]
      rcases i with _ | _ | _ | _ | _ | _ | _ | i
      · exact ⟨_, r0⟩
      · exact ⟨_, r1⟩
      · exact ⟨_, r2⟩
      · exact ⟨_, r3⟩
      · exact ⟨_, r4⟩
      · exact ⟨_, r5⟩
      · exact ⟨_, r6⟩
      · omega)
    have k0 : w3.cell? ⟨w.heap.size + 1, 0, none⟩ = some (.bool ln) := by rw [e3]; exact at6 0 _ rfl
    have k1 : w3.cell? ⟨w.heap.size + 1, 1, none⟩ = some (.bool lv') := by rw [e3]; exact at6 1 _ rfl
    have k2 : w3.cell? ⟨w.heap.size + 1, 2, none⟩ = some (.int .i64 li') := by rw [e3]; exact at6 2 _ rfl
    have k3 : w3.cell? ⟨w.heap.size + 1, 3, none⟩ = some (.slice d1 d2 d3) := by rw [e3]; exact at6 3 _ rfl
    have k4 : w3.cell? ⟨w.heap.size + 1, 4, none⟩ = some (.bool lv) := by rw [e3]; exact at6 4 _ rfl
    have k5 : w3.cell? ⟨w.heap.size + 1, 5, none⟩ = some (.int .i64 li) := by rw [e3]; exact at6 5 _ rfl
    have k6 : w3.cell? ⟨w.heap.size + 1, 6, none⟩ = some (.slice a1 a2 a3) := by rw [e3]; exact at6 6 _ rfl
    clear at6 e3 hw3
    exact bodyPost_ret (v := .agg #[.bool ln, .bool lv', .int .i64 li', .slice d1 d2 d3, .bool lv, .int .i64 li, .slice a1 a2 a3]) (by simp [results, Try.results23, go_sem, k0, k1, k2, k3, k4, k5, k6]) rfl ⟨rfl, hb3⟩
end Go.Proofs.Ytlgnpiphaeoeiad
