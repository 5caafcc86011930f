/- The variables of a clause, and the document's. -/
import Derived.Test.YtfckelbdageenabGreatDoorG18
import Derived.Test.YtfckelbdageenabGreatDoorG06
import Derived.Test.YtfckelbdageenabGreatDoorG09
import Derived.Deep.RegionHeld3
import Derived.Test.YtfckelbdageenabGreatDoorG25
import Derived.Test.YtfckelbdageenabGreatDoorG19
namespace Go.Proofs.YtfckelbdageenabGreatDoor
open Go.RowKit Go.Deep Go.ChangeShapes Go.WideShapes

theorem nin_vals {w : World} {lo : Nat} {T : List Int} {v : Value} (h : w.ownsRow lo 3 1 v T.length (vals T)) : NIn w T v := own_nin h
theorem nin_nil (w : World) : NIn w [] (.slice none 0 0) := own_nin (lo := 0) (World.ownsRow_nil _ _ _ _)
def szL (l : Lt) : Nat := tszR l.2.1.2 + tszR l.2.2.2
def szC (c : Cl) : Nat := (c.map szL).sum
theorem szC_take {c : Cl} {j : Nat} {l : Lt} (h : c[j]? = some l) : szC (c.take (j + 1)) = szC (c.take j) + szL l := by
  rw [List.take_add_one, h]; simp [szC]
theorem szC_le (c : Cl) (j : Nat) : szC (c.take j) ≤ szC c := by
  have h : szC (c.take j ++ c.drop j) = szC (c.take j) + szC (c.drop j) := by unfold szC; rw [List.map_append, List.sum_append]
  rw [List.take_append_drop] at h
  omega
theorem varsL_len (l : Lt) (v : List Int) : (varsL l v).length ≤ v.length + szL l := by
  unfold varsL szL
  have h1 := varsT_len l.2.1.1 l.2.1.2 v
  have h2 := varsT_len l.2.2.1 l.2.2.2 (varsT l.2.1.1 l.2.1.2 v)
  omega
theorem varsC_len : ∀ (c : Cl) (v : List Int), (varsC c v).length ≤ v.length + szC c
  | [], v => by simp [varsC, szC]
  | l :: c, v => by
    have h1 := varsL_len l v
    have h2 := varsC_len c (varsL l v)
    have e : varsC (l :: c) v = varsC c (varsL l v) := rfl
    have e2 : szC (l :: c) = szL l + szC c := by simp [szC]
    rw [e, e2]
    omega

set_option maxRecDepth 100000 in
set_option maxHeartbeats 2000000 in
theorem varsCR_any (k : Cl) (a : Value) (w : World) (hS : CIn w k a) (hb : szC k ≤ 1000000000000) :
    Calls Tryz.prog 19 #[a] w fun e w' => ∃ v, e = .returned v ∧ NIn w' (varsC k []) v ∧ Below w.heap.size w w' := by
  obtain ⟨a1, c1, b1, o1, rfl, had1, hlc1, hcm1, hF1⟩ := hS
  unfold maxLen at hcm1
  have HF1 := hide hF1
  clear hF1
  go_enter Tryz.func19, Tryz.ntmps19
  go_wp2_with fail
  go_loopw [3, 8] (fun v i wr => ∃ (j : Nat) (z1 : Option Addr) (n z3 : Nat), j ≤ k.length ∧ i = .int .i64 j ∧ v = .slice z1 n z3 ∧ NIn wr (varsC (k.take j) []) v ∧ Below w.heap.size w wr) (fun _ i _ => k.length - (intOf i).toNat)
  case atStart => exact ⟨0, none, 0, 0, Nat.zero_le _, rfl, rfl, nin_nil _, Below.refl _ _⟩
  case round =>
    obtain ⟨j, z1, n, z3, hj, rfl, rfl, hV, hBr⟩ := hrel
    have HV := hide hV
    clear hV
    by_cases hlt : j < k.length
    · have hlt' : (j : Int) < (k.length : Int) := by omega
      obtain ⟨⟨yn, ⟨⟨yv, yi⟩, yk⟩, ⟨yv', yi'⟩, yk'⟩, hy⟩ : ∃ y, k[j]? = some y := ⟨k[j]'hlt, by simp⟩
      obtain ⟨p0, p1, p2, ⟨u3, p3, hA⟩, p4, p5, u6, p6, hD⟩ := (HF1.out.below hBr).at hy
      have ha1 : a1 = some ⟨b1, o1, none⟩ := had1 (by omega)
      subst ha1
      have HA := hide hA
      have HD := hide hD
      obtain ⟨_, _, _, _, rfl, -, -, -, -⟩ := hA
      obtain ⟨_, _, _, _, rfl, -, -, -, -⟩ := hD
      have Hy := hide hy
      have Hln : Hid ((varsC (k.take j) []).length + tszR yk + tszR yk' ≤ 1000000000000) := by
        have h1 := varsC_len (k.take j) []
        have h2 := szC_take hy
        have h3 := szC_le k (j + 1)
        simp only [szL, List.length_nil] at h1 h2
        show _ ≤ _
        omega
      clear hy had1
      simp only at *
      go_wp2_with fail
      refine (varsR_any (yv, yi) yk _ (varsC (k.take j) []) _ _ _ rfl (HA.out.alloc _) (HV.out.alloc _) (by have := Hln.out; omega)).mono ?_
      rintro e w2 ⟨v2, rfl, hV2, hb2⟩
      obtain ⟨-, -, -, -, e4, e5, e6, -, hb2', -⟩ := lit_cells hb2
      have hB2 := below_step hBr hb2'
      have HD2 := hide (HD.out.below hb2')
      have HV2 := hide hV2
      obtain ⟨y1, y3, rfl⟩ := nin_slice hV2
      have Hl2 := hide (varsT_len (yv, yi) yk (varsC (k.take j) []))
      clear hb2 hV2
      go_wp2_with fail
      refine (varsR_any (yv', yi') yk' _ (varsT (yv, yi) yk (varsC (k.take j) [])) _ _ _ rfl HD2.out HV2.out (by have := Hln.out; have := Hl2.out; omega)).mono ?_
      rintro e w3 ⟨v3, rfl, hV3, hb3⟩
      have hB3 := below_step hB2 hb3
      have HV3 := hide hV3
      obtain ⟨x1, x3, rfl⟩ := nin_slice hV3
      clear hV3
      go_wp2_with fail
      go_roundw
      case rel => exact ⟨j + 1, x1, _, x3, by omega, by go_num, rfl, by rw [varsC_take Hy.out]; exact HV3.out, hB3⟩
      case measure => simp [intOf]; omega
    · have Hfin : Hid (NIn wr (varsC k []) (.slice z1 n z3)) := by
        have e : j = k.length := by omega
        have := HV.out
        rw [e, List.take_length] at this
        exact this
      clear had1
      go_wp2_with fail
      go_ret
      exact ⟨_, rfl, Hfin.out, hBr⟩

set_option maxRecDepth 100000 in
set_option maxHeartbeats 2000000 in
theorem varsCl_any (k : Cl) (a : Value) (w : World) (hS : CIn w k a) (hb : szC k ≤ 1000000000000) :
    Calls Tryz.prog 18 #[a] w fun e w' => ∃ v, e = .returned v ∧ NIn w' (varsC k []) v ∧ Below w.heap.size w w' := by
  obtain ⟨a1, c1, b1, o1, rfl, had1, hlc1, hcm1, hF1⟩ := hS
  unfold maxLen at hcm1
  have HF1 := hide hF1
  clear hF1
  go_enter Tryz.func18, Tryz.ntmps18
  go_wp2_with fail
  go_loopw [3, 8] (fun v i wr => ∃ (j : Nat) (z1 : Option Addr) (n z3 : Nat), j ≤ k.length ∧ i = .int .i64 j ∧ v = .slice z1 n z3 ∧ NIn wr (varsC (k.take j) []) v ∧ Below w.heap.size w wr) (fun _ i _ => k.length - (intOf i).toNat)
  case atStart => exact ⟨0, none, 0, 0, Nat.zero_le _, rfl, rfl, nin_nil _, Below.refl _ _⟩
  case round =>
    obtain ⟨j, z1, n, z3, hj, rfl, rfl, hV, hBr⟩ := hrel
    have HV := hide hV
    clear hV
    by_cases hlt : j < k.length
    · have hlt' : (j : Int) < (k.length : Int) := by omega
      obtain ⟨⟨yn, ⟨⟨yv, yi⟩, yk⟩, ⟨yv', yi'⟩, yk'⟩, hy⟩ : ∃ y, k[j]? = some y := ⟨k[j]'hlt, by simp⟩
      obtain ⟨p0, p1, p2, ⟨u3, p3, hA⟩, p4, p5, u6, p6, hD⟩ := (HF1.out.below hBr).at hy
      have ha1 : a1 = some ⟨b1, o1, none⟩ := had1 (by omega)
      subst ha1
      have HA := hide hA
      have HD := hide hD
      obtain ⟨ya, yc, _, _, rfl, -, -, -, -⟩ := hA
      obtain ⟨za, zc, _, _, rfl, -, -, -, -⟩ := hD
      have Hy := hide hy
      have Hln : Hid ((varsC (k.take j) []).length + tszR yk + tszR yk' ≤ 1000000000000) := by
        have h1 := varsC_len (k.take j) []
        have h2 := szC_take hy
        have h3 := szC_le k (j + 1)
        simp only [szL, List.length_nil] at h1 h2
        show _ ≤ _
        omega
      have Hl2 := hide (varsT_len (yv, yi) yk (varsC (k.take j) []))
      clear hy had1
      simp only at *
      go_upto_region 5 with fail
      generalize hwa : wr.alloc (.cells #[.bool yn, .bool yv, .int .i64 yi, .slice ya (Fo.len yk) yc, .bool yv', .int .i64 yi', .slice za (Fo.len yk') zc] 44) = wa
      obtain ⟨-, g1, g2, g3, g4, g5, g6, -, hba, -⟩ := lit_cells (T := 44) (x0 := .bool yn) (w := wr) (wr := wa) (x1 := .bool yv) (x2 := .int .i64 yi) (x3 := .slice ya (Fo.len yk) yc) (x4 := .bool yv') (x5 := .int .i64 yi') (x6 := .slice za (Fo.len yk') zc) (by rw [hwa]; exact Below.refl _ _)
      clear hwa
      have HAa := hide (HA.out.below hba)
      have HDa := hide (HD.out.below hba)
      have HVa := hide (HV.out.below hba)
      have hcur : Below wa.heap.size wa wa.drew := (Below.refl _ _).drew
      go_region_held3 (fun w' => w'.cell? ⟨wr.heap.size, 1, none⟩ = some (.bool yv) ∧ w'.cell? ⟨wr.heap.size, 2, none⟩ = some (.int .i64 yi) ∧ w'.cell? ⟨wr.heap.size, 3, none⟩ = some (.slice ya (Fo.len yk) yc) ∧ w'.cell? ⟨wr.heap.size, 4, none⟩ = some (.bool yv') ∧ w'.cell? ⟨wr.heap.size, 5, none⟩ = some (.int .i64 yi') ∧ w'.cell? ⟨wr.heap.size, 6, none⟩ = some (.slice za (Fo.len yk') zc))
          (first
            | (with_reducible exact ⟨grow_cell hcur _ _ g1, grow_cell hcur _ _ g2, grow_cell hcur _ _ g3, grow_cell hcur _ _ g4, grow_cell hcur _ _ g5, grow_cell hcur _ _ g6⟩)
            | go_keep)
          (first
            | (go_at_call 52; with_reducible refine (vars_any (yv, yi) yk (.slice ya (Fo.len yk) yc) (varsC (k.take j) []) (.slice z1 n z3) _ _ rfl (HAa.out.below hcur) (HVa.out.below hcur) (by have := Hln.out; omega)).mono ?_; rintro e wS ⟨vS, rfl, hoS, hbS⟩; replace hcur := below_step hcur hbS; have HoS := hide (nin_vals hoS); obtain ⟨y1, y3, rfl⟩ := nin_slice HoS.out; clear hoS)
            | (go_at_call 52; with_reducible refine (vars_any (yv', yi') yk' (.slice za (Fo.len yk') zc) (varsT (yv, yi) yk (varsC (k.take j) [])) _ _ _ rfl (HDa.out.below hcur) (HoS.out.below ?_) (by have := Hln.out; have := Hl2.out; omega)).mono ?_; (first | exact Below.refl _ _ | exact (Below.refl _ _).drew); rintro e wU ⟨vU, rfl, hoU, hbU⟩; replace hcur := below_step hcur hbU; have HoU := hide (nin_vals hoU); obtain ⟨x1, x3, rfl⟩ := nin_slice HoU.out; clear hoU))
      all_goals
        have hB2 := below_step hBr (below_step hba hcur)
        go_wp2_with fail
        go_roundw
        case rel => exact ⟨j + 1, _, _, _, by omega, by go_num, rfl, by rw [varsC_take Hy.out]; exact HoU.out, hB2⟩
        case measure => simp [intOf]; omega
    · have Hfin : Hid (NIn wr (varsC k []) (.slice z1 n z3)) := by
        have e : j = k.length := by omega
        have := HV.out
        rw [e, List.take_length] at this
        exact this
      clear had1
      go_wp2_with fail
      go_ret
      exact ⟨_, rfl, Hfin.out, hBr⟩

end Go.Proofs.YtfckelbdageenabGreatDoor

/- Norm. -/
namespace Go.Proofs.YtfckelbdageenabGreatDoor
open Go.RowKit Go.Deep Go.ChangeShapes Go.WideShapes

theorem gc_sz : ∀ {c : Cl}, (∀ l ∈ c, GL l) → szC c ≤ c.length * 24
  | [], _ => by simp [szC]
  | l :: c, h => by
    have h1 := gc_sz (c := c) (fun x hx => h x (by simp [hx]))
    have h2 := (h l (by simp)).sl
    have h3 := (h l (by simp)).sr
    have e : szC (l :: c) = szL l + szC c := by simp [szC]
    rw [e]
    simp only [szL, List.length_cons]
    omega

set_option maxRecDepth 100000 in
set_option maxHeartbeats 4000000 in
theorem norm_any (k : Cl) (a : Value) (w : World) (hS : CIn w k a) (hg : GC k) :
    Calls Tryz.prog 14 #[a] w fun e w' => ∃ v, e = .returned (.tuple #[v, .int .i64 (normC k).1]) ∧ CIn w' (normC k).2 v ∧ Below w.heap.size w w' := by
  have HS := hide hS
  obtain ⟨a1, a3, rfl⟩ := slice_of_cl hS
  clear hS
  have Hcs := hide (norm_cases hg)
  have hk4 := hg.1
  have HG : Hid (∀ l ∈ k, Gd l.2.1 ∧ Gd l.2.2 ∧ tszR l.2.1.2 ≤ 1000000000000 ∧ tszR l.2.2.2 ≤ 1000000000000) := fun l hl => ⟨(hg.2 l hl).gl, (hg.2 l hl).gr, by have := (hg.2 l hl).sl; omega, by have := (hg.2 l hl).sr; omega⟩
  go_enter Tryz.func14, Tryz.ntmps14
  go_wp2_with fail
  refine (turn_any k _ _ HS.out HG.out (by omega)).mono ?_
  rintro e w1 ⟨v1, er, d, rfl, hC1, hcs, hb1⟩
  rcases hcs with ⟨rfl, rfl, ht⟩ | ⟨rfl, ht⟩
  · have Hn : Hid (normC k = (6, [])) := by
      rcases Hcs.out with ⟨_, h⟩ | ⟨d, h, _⟩
      · exact h
      · rw [ht] at h; cases h
    obtain ⟨z1, z3, rfl⟩ := slice_of_cl hC1
    clear hC1 ht
    go_wp2_with fail
    go_ret2
    exact ⟨.slice none 0 0, by rw [Hn.out]; rfl, by rw [Hn.out]; exact CIn.nil _, hb1⟩
  · have Hrest : Hid (GC d ∧ GC (reN d) ∧ ((distC (reN d) = none ∧ normC k = (6, [])) ∨ ∃ e, distC (reN d) = some e ∧ GC e ∧ normC k = (0, e))) := by
      rcases Hcs.out with ⟨h, _⟩ | ⟨d', h, h2⟩
      · rw [ht] at h; cases h
      · rw [ht] at h; cases h; exact h2
    have HC1 := hide hC1
    obtain ⟨z1, z3, rfl⟩ := slice_of_cl hC1
    clear hC1 ht
    have hd4 := Hrest.out.1.1
    have Hsz := hide (gc_sz Hrest.out.1.2)
    have hv5 := gc_vars Hrest.out.1.2
    go_wp2_with fail
    refine (varsCl_any d _ _ HC1.out (by have := Hsz.out; omega)).mono ?_
    rintro e w2 ⟨vv, rfl, hN, hb2⟩
    have HN := hide hN
    obtain ⟨y1, y3, rfl⟩ := nin_slice hN
    have hB2 := below_step hb1 hb2
    clear hN
    go_wp2_with fail
    refine (number_any d _ (varsC d []) _ _ (HC1.out.below hb2) HN.out (fun l hl => ⟨(Hrest.out.1.2 l hl).gl.nar, (Hrest.out.1.2 l hl).gr.nar⟩) (by omega) (by omega)).mono ?_
    rintro e w3 ⟨g, rfl, hC3, hb3⟩
    have HC3 : Hid (CIn w3 (reN d) (.slice (some ⟨g, 0, none⟩) d.length d.length)) := hC3
    have hB3 := below_step hB2 hb3
    clear hC3 hb2 hb3
    go_wp2_with fail
    refine (distinct_any (reN d) _ _ HC3.out (by have := Hrest.out.2.1.1; omega)).mono ?_
    rintro e w4 ⟨v4, er, f, rfl, hC4, hcs, hb4⟩
    have hB4 := below_step hB3 hb4
    rcases hcs with ⟨rfl, rfl, ht⟩ | ⟨rfl, ht⟩
    · have Hn : Hid (normC k = (6, [])) := by
        rcases Hrest.out.2.2 with ⟨_, h⟩ | ⟨d, h, _⟩
        · exact h
        · rw [ht] at h; cases h
      obtain ⟨x1, x3, rfl⟩ := slice_of_cl hC4
      clear hC4 ht
      go_wp2_with fail
      go_ret2
      exact ⟨.slice none 0 0, by rw [Hn.out]; rfl, by rw [Hn.out]; exact CIn.nil _, hB4⟩
    · have Hn : Hid (GC f ∧ normC k = (0, f)) := by
        rcases Hrest.out.2.2 with ⟨h, _⟩ | ⟨d, h, h2⟩
        · rw [ht] at h; cases h
        · rw [ht] at h; cases h; exact h2
      have HC4 := hide hC4
      obtain ⟨x1, x3, rfl⟩ := slice_of_cl hC4
      clear hC4 ht hb4
      have hf4 := Hn.out.1.1
      have hf4' : (f.length : Int) ≤ 4 := by omega
      have hv5' : ((varsC d []).length : Int) ≤ 5 := by omega
      have Hbg := hide (gc_big Hn.out.1)
      generalize hvl : (varsC d []).length = vl at *
      go_wp2_with fail
      refine (containsG_any f _ _ HC4.out (fun p hp => ⟨(Hn.out.1.2 p hp).okl, by have := (Hn.out.1.2 p hp).sl; omega, by have := (Hn.out.1.2 p hp).sr; omega⟩)).mono ?_
      rintro e w5 ⟨rfl, hb5⟩
      rw [Hbg.out]
      have hB5 := below_step hB4 hb5
      have HC5 := hide (HC4.out.below hb5)
      clear hb5
      go_wp2_with fail
      go_ret2
      exact ⟨.slice x1 f.length x3, by rw [Hn.out.2]; rfl, by rw [Hn.out.2]; exact HC5.out, hB5⟩

end Go.Proofs.YtfckelbdageenabGreatDoor

/- Each term of a clause renamed. -/
namespace Go.Proofs.YtfckelbdageenabGreatDoor
open Go.RowKit Go.Deep Go.ChangeShapes Go.WideShapes

set_option maxRecDepth 100000 in
set_option maxHeartbeats 2000000 in
theorem cloER_any (d : Int) (bb : Nat) (x : Bool × Int) (k : Fo) (a : Value) (w : World) (h : InvR d bb w) (hS : SIn w k a) (hn : narT (x, k)) :
    Calls Tryz.prog 58 #[.agg #[.bool x.1, .int .i64 x.2, a], .pointer (some ⟨bb, 0, none⟩)] w fun e w' => ∃ a', e = .returned (.agg #[.bool (subT (ren d) (x, k)).1.1, .int .i64 (subT (ren d) (x, k)).1.2, a']) ∧ OwnV w' w.heap.size w'.heap.size (subT (ren d) (x, k)).2 a' ∧ Below w.heap.size w w' := by
  obtain ⟨xv, xn⟩ := x
  have HS := hide hS
  have HI := hide h
  obtain ⟨ad, c, _, _, rfl, -, -, -, -⟩ := hS
  have hc : w.cell? ⟨bb, 0, none⟩ = some (.int .i64 d) := h
  clear h
  have hpb : bb < w.heap.size := World.block_lt_of_cell? _ _ hc
  have hc' : ((w.alloc (.cells #[.bool xv, .int .i64 xn, .slice ad (Fo.len k) c] 36)).alloc (.cells #[.bool false, .int .i64 0, .slice none 0 0] 36)).cell? ⟨bb, 0, none⟩ = some (.int .i64 d) := by rw [World.cell?_alloc_lt _ _ _ (by show bb < _; simp; omega), World.cell?_alloc_lt _ _ _ hpb]; exact hc
  go_enter Tryz.func58, Tryz.ntmps58
  go_wp2_with fail
  refine (rename_any d (xv, xn) k _ _ ((HS.out.alloc _).alloc _) hn).mono ?_
  rintro e w1 ⟨a', rfl, hO, hb⟩
  obtain ⟨⟨⟨tv, tn⟩, tk⟩, ht⟩ : ∃ t, t = subT (ren d) ((xv, xn), k) := ⟨_, rfl⟩
  rw [← ht] at hO ⊢
  have hO' := hO
  obtain ⟨z1, z2, z3, rfl⟩ := slice_of_sin hO.toS
  have hsz := hb.size
  simp only [World.size_alloc] at hsz
  have r0 : w1.cell? ⟨w.heap.size + 1, 0, none⟩ = some (.bool false) := grow_cell hb _ _ (new_cell (World.size_alloc _ _))
  have r1 : w1.cell? ⟨w.heap.size + 1, 1, none⟩ = some (.int .i64 0) := grow_cell hb _ _ (new_cell (World.size_alloc _ _))
  have r2 : w1.cell? ⟨w.heap.size + 1, 2, none⟩ = some (.slice none 0 0) := grow_cell hb _ _ (new_cell (World.size_alloc _ _))
  have rf : ∀ i, w1.frozen? ⟨w.heap.size + 1, i, none⟩ = false := fun i => (hb.frozen (by show w.heap.size + 1 < _; simp)).trans (new_frozen (World.size_alloc _ _))
  have hB := below_box (below_box hb)
  have HO : Hid (OwnV w1 (w.heap.size + 1 + 1) w1.heap.size tk (.slice z1 z2 z3)) := by
    have := hO
    simp only [World.size_alloc] at this
    exact this
  have Ht := hide ht
  clear hb hO hO' ht hc hc'
  simp only
  go_wp2_with fail
  refine bodyPost_ret (v := .agg #[.bool tv, .int .i64 tn, .slice z1 z2 z3]) (by simp [results, Tryz.results58, go_sem, r0, r1, r2]) rfl ⟨.slice z1 z2 z3, by rw [← Ht.out], ?_, set3_below (o := 0) hB (by omega)⟩
  rw [← Ht.out]
  exact ret_box HO.out (by omega) (by omega)

set_option maxRecDepth 100000 in
set_option maxHeartbeats 4000000 in
theorem eachR_any (d : Int) (bb : Nat) (k : Cl) (a : Value) (w : World) (h : InvR d bb w) (hS : CIn w k a) (hn : ∀ l ∈ k, narT l.2.1 ∧ narT l.2.2) (hlen : k.length ≤ 1000000) :
    Calls Tryz.prog 55 #[a, .func (.func 58) #[] #[.pointer (some ⟨bb, 0, none⟩)]] w fun e w' => ∃ g, e = .returned (.slice (some ⟨g, 0, none⟩) k.length k.length) ∧ CIn w' (k.map (mapL (subT (ren d)))) (.slice (some ⟨g, 0, none⟩) k.length k.length) ∧ Below w.heap.size w w' := by
  obtain ⟨a1, c1, b1, o1, rfl, had1, hlc1, hcm1, hF1⟩ := hS
  unfold maxLen at hcm1
  have HF1 := hide hF1
  have HI := hide h
  have Hn := hide hn
  clear hF1 h hn
  obtain ⟨iL, hi, hz0, hz1, hz2⟩ := info_parts Tryz.info44
  have hmk := fun w : World => run_make (P := Tryz.prog) w 25 44 iL _ Tryz.underlying25 hi hz0 .i64 .i64 (k.length : Int) (k.length : Int) (by omega) (by omega) (by rw [hz2]; omega) (by omega)
  rw [hz1] at hmk
  simp only [Int.toNat_natCast] at hmk
  go_enter Tryz.func55, Tryz.ntmps55
  go_wp2_with fail
  clear hmk hi hz0 hz1 hz2
  have H0 : Hid (MkRel w.heap.size w (k.map (mapL (subT (ren d)))) 0 (w.alloc (.cells (madeCells #[.bool false, .bool false, .int .i64 0, .slice none 0 0, .bool false, .int .i64 0, .slice none 0 0] (k.length * 7)) 44))) := by
    have := mk_start (W2 := w) (T := k.map (mapL (subT (ren d)))) (z := #[.bool false, .bool false, .int .i64 0, .slice none 0 0, .bool false, .int .i64 0, .slice none 0 0])
    rw [List.length_map] at this
    exact this
  go_loopw [13] (fun i wr => ∃ j : Nat, j ≤ k.length ∧ i = .int .i64 j ∧ MkRel w.heap.size w (k.map (mapL (subT (ren d)))) j wr) (fun i _ => k.length - (intOf i).toNat)
  case atStart => exact ⟨0, Nat.zero_le _, rfl, H0.out⟩
  case round =>
    obtain ⟨j, hj, rfl, hR⟩ := hrel
    have HR := hide hR
    obtain ⟨hB, hT, hsz, -⟩ := hR
    have hBw : Below w.heap.size w wr := hB
    by_cases hlt : j < k.length
    · have hlt' : (j : Int) < (k.length : Int) := by omega
      have hj0 : (0 : Int) ≤ (j : Int) := by omega
      obtain ⟨⟨yn, ⟨⟨yv, yi⟩, yk⟩, ⟨yv', yi'⟩, yk'⟩, hy⟩ : ∃ y, k[j]? = some y := ⟨k[j]'hlt, by simp⟩
      obtain ⟨p0, p1, p2, ⟨u3, p3, hA⟩, p4, p5, u6, p6, hD⟩ := (HF1.out.below hBw).at hy
      have ha1 : a1 = some ⟨b1, o1, none⟩ := had1 (by omega)
      subst ha1
      have HA := hide hA
      have HD := hide hD
      obtain ⟨ya, yc, _, _, rfl, -, -, -, -⟩ := hA
      obtain ⟨za, zc, _, _, rfl, -, -, -, -⟩ := hD
      have Hny := hide (Hn.out _ (List.mem_of_getElem? hy))
      obtain ⟨⟨⟨tv, ti⟩, tk⟩, ht⟩ : ∃ t, t = subT (ren d) ((yv, yi), yk) := ⟨_, rfl⟩
      obtain ⟨⟨⟨tv', ti'⟩, tk'⟩, ht'⟩ : ∃ t, t = subT (ren d) ((yv', yi'), yk') := ⟨_, rfl⟩
      have Hy2 : Hid ((k.map (mapL (subT (ren d))))[j]? = some (yn, ((tv, ti), tk), ((tv', ti'), tk'))) := by rw [Hid, List.getElem?_map, hy, ht, ht']; rfl
      have Ht := hide ht
      have Ht' := hide ht'
      have hT' : There wr w.heap.size (k.length * 7) := by rw [List.length_map] at hT; exact hT
      have hfz : ∀ i, i < 7 → (∃ v, wr.cell? ⟨w.heap.size, j * 7 + i, none⟩ = some v) ∧ wr.frozen? ⟨w.heap.size, j * 7 + i, none⟩ = false := fun i hi => hT' _ (by omega)
      have Hfz := hide hfz
      clear hy had1 hT hT' ht ht' hfz hB
      simp only at *
      go_upto_region 5 with fail
      generalize hwa : wr.alloc (.cells #[.bool yn, .bool yv, .int .i64 yi, .slice ya (Fo.len yk) yc, .bool yv', .int .i64 yi', .slice za (Fo.len yk') zc] 44) = wa
      obtain ⟨g0, g1, g2, g3, g4, g5, g6, -, hba, hsa⟩ := lit_cells (T := 44) (x0 := .bool yn) (w := wr) (wr := wa) (x1 := .bool yv) (x2 := .int .i64 yi) (x3 := .slice ya (Fo.len yk) yc) (x4 := .bool yv') (x5 := .int .i64 yi') (x6 := .slice za (Fo.len yk') zc) (by rw [hwa]; exact Below.refl _ _)
      clear hwa
      have hcur : Below wa.heap.size wa wa.drew := (Below.refl _ _).drew
      have hcall1 : ∀ w' : World, Below wa.heap.size wa w' → Calls Tryz.prog 58 #[.agg #[.bool yv, .int .i64 yi, .slice ya (Fo.len yk) yc], .pointer (some ⟨bb, 0, none⟩)] w' fun e w'' => ∃ (z1 : Option Addr) (z2 z3 : Nat), e = .returned (.agg #[.bool tv, .int .i64 ti, .slice z1 z2 z3]) ∧ OwnV w'' w'.heap.size w''.heap.size tk (.slice z1 z2 z3) ∧ Below w'.heap.size w' w'' := fun w' hb => by
        have hb' := below_step (below_step hBw hba) hb
        refine (cloER_any d bb (yv, yi) yk _ w' (invR_below d bb HI.out hb') (HA.out.below (below_step hba hb)) Hny.out.1).mono ?_
        rintro e w2 ⟨a', rfl, hO, hb⟩
        rw [← Ht.out] at hO
        obtain ⟨z1, z2, z3, rfl⟩ := slice_of_sin hO.toS
        exact ⟨z1, z2, z3, by rw [← Ht.out], hO, hb⟩
      have hcall2 : ∀ w' : World, Below wa.heap.size wa w' → Calls Tryz.prog 58 #[.agg #[.bool yv', .int .i64 yi', .slice za (Fo.len yk') zc], .pointer (some ⟨bb, 0, none⟩)] w' fun e w'' => ∃ (z1 : Option Addr) (z2 z3 : Nat), e = .returned (.agg #[.bool tv', .int .i64 ti', .slice z1 z2 z3]) ∧ OwnV w'' w'.heap.size w''.heap.size tk' (.slice z1 z2 z3) ∧ Below w'.heap.size w' w'' := fun w' hb => by
        have hb' := below_step (below_step hBw hba) hb
        refine (cloER_any d bb (yv', yi') yk' _ w' (invR_below d bb HI.out hb') (HD.out.below (below_step hba hb)) Hny.out.2).mono ?_
        rintro e w2 ⟨a', rfl, hO, hb⟩
        rw [← Ht'.out] at hO
        obtain ⟨z1, z2, z3, rfl⟩ := slice_of_sin hO.toS
        exact ⟨z1, z2, z3, by rw [← Ht'.out], hO, hb⟩
      have Hc1 := hide hcall1
      have Hc2 := hide hcall2
      clear hcall1 hcall2 p0 p1 p2 p3 p4 p5 p6
      have hgz : w.heap.size < wr.heap.size := by omega
      have hne : wr.heap.size ≠ w.heap.size := by omega
      go_region_held3 (fun w' => w'.cell? ⟨wr.heap.size, 0, none⟩ = some (.bool yn) ∧ w'.cell? ⟨wr.heap.size, 1, none⟩ = some (.bool yv) ∧ w'.cell? ⟨wr.heap.size, 2, none⟩ = some (.int .i64 yi) ∧ w'.cell? ⟨wr.heap.size, 3, none⟩ = some (.slice ya (Fo.len yk) yc) ∧ w'.cell? ⟨wr.heap.size, 4, none⟩ = some (.bool yv') ∧ w'.cell? ⟨wr.heap.size, 5, none⟩ = some (.int .i64 yi') ∧ w'.cell? ⟨wr.heap.size, 6, none⟩ = some (.slice za (Fo.len yk') zc))
        (first
          | (with_reducible exact ⟨grow_cell hcur _ _ g0, grow_cell hcur _ _ g1, grow_cell hcur _ _ g2, grow_cell hcur _ _ g3, grow_cell hcur _ _ g4, grow_cell hcur _ _ g5, grow_cell hcur _ _ g6⟩)
          | (with_reducible exact ⟨keep7 hne (grow_cell hcur _ _ g0), keep7 hne (grow_cell hcur _ _ g1), keep7 hne (grow_cell hcur _ _ g2), keep7 hne (grow_cell hcur _ _ g3), keep7 hne (grow_cell hcur _ _ g4), keep7 hne (grow_cell hcur _ _ g5), keep7 hne (grow_cell hcur _ _ g6)⟩)
          | go_keep)
        (first
          | (go_at_call 58; with_reducible refine (Hc1.out _ hcur).mono ?_; rintro e wS ⟨z1, z2, z3, rfl, hO1, hbS⟩; replace hcur := below_step hcur hbS; have HO1 := hide (And.intro hO1 hbS); clear hO1)
          | (go_at_call 58; with_reducible refine (Hc2.out _ hcur).mono ?_; rintro e wU ⟨y1, y2, y3, rfl, hO2, hbU⟩; have hcurS := hcur; replace hcur := below_step hcur hbU; have HO2 := hide (And.intro hO2 hbU); clear hO2; have hall := below_step hba hcur; obtain ⟨⟨t0, e0⟩, f0⟩ := Hfz.out 0 (by omega); obtain ⟨⟨t1, e1⟩, f1⟩ := Hfz.out 1 (by omega); obtain ⟨⟨t2, e2⟩, f2⟩ := Hfz.out 2 (by omega); obtain ⟨⟨t3, e3⟩, f3⟩ := Hfz.out 3 (by omega); obtain ⟨⟨t4, e4⟩, f4⟩ := Hfz.out 4 (by omega); obtain ⟨⟨t5, e5⟩, f5⟩ := Hfz.out 5 (by omega); obtain ⟨⟨t6, e6⟩, f6⟩ := Hfz.out 6 (by omega); replace e0 := grow_cell hall _ _ e0; replace e1 := grow_cell hall _ _ e1; replace e2 := grow_cell hall _ _ e2; replace e3 := grow_cell hall _ _ e3; replace e4 := grow_cell hall _ _ e4; replace e5 := grow_cell hall _ _ e5; replace e6 := grow_cell hall _ _ e6; replace f0 := (hall.frozen hgz).trans f0; replace f1 := (hall.frozen hgz).trans f1; replace f2 := (hall.frozen hgz).trans f2; replace f3 := (hall.frozen hgz).trans f3; replace f4 := (hall.frozen hgz).trans f4; replace f5 := (hall.frozen hgz).trans f5; replace f6 := (hall.frozen hgz).trans f6; simp only [Nat.add_zero] at e0 f0))
      all_goals
        have Hstep : Hid (MkRel w.heap.size w (k.map (mapL (subT (ren d)))) (j + 1) (setL wU w.heap.size (j * 7) (litV (yn, ((tv, ti), tk), ((tv', ti'), tk')) (.slice z1 z2 z3) (.slice y1 y2 y3)))) := by
          have s1 := hba.size
          have s2 := hcurS.size
          have s3 := HO1.out.2.size
          have s4 := HO2.out.2.size
          refine mk_step HR.out Hy2.out (below_step hba hcur) ?_ ?_
          · refine ((HO1.out.1.toB (X := fun q => wr.heap.size ≤ q ∧ q < wS.heap.size) (fun q q1 q2 => ⟨?_, q2⟩)).frame (fun q hq => ⟨hq.1, ?_⟩) (fun q i hq => HO2.out.2.cell ?_))
            · have q1' : wa.heap.size ≤ q := q1
              omega
            · have s4' : wS.heap.size ≤ wU.heap.size := s4
              have := hq.2
              omega
            · exact hq.2
          · refine HO2.out.1.toB (fun q q1 q2 => ⟨?_, q2⟩)
            have q1' : wS.heap.size ≤ q := q1
            omega
        go_wp2_with fail
        go_roundw
        case rel => exact ⟨j + 1, by omega, by go_num, Hstep.out⟩
        case measure => simp [intOf]; omega
    · have hje : j = k.length := by omega
      subst hje
      have Hfin : Hid (CIn wr (k.map (mapL (subT (ren d)))) (.slice (some ⟨w.heap.size, 0, none⟩) k.length k.length)) := by
        have := HR.out
        rw [show MkRel w.heap.size w (k.map (mapL (subT (ren d)))) k.length wr = MkRel w.heap.size w (k.map (mapL (subT (ren d)))) (k.map (mapL (subT (ren d)))).length wr by rw [List.length_map]] at this
        have := mk_end this (by rw [List.length_map]; unfold maxLen; omega)
        rw [List.length_map] at this
        exact this
      clear had1 hT hB
      go_wp2_with fail
      go_ret
      exact ⟨_, rfl, Hfin.out, hBw⟩

set_option maxRecDepth 100000 in
set_option maxHeartbeats 1000000 in
theorem renameC_any (d : Int) (k : Cl) (a : Value) (w : World) (hS : CIn w k a) (hn : ∀ l ∈ k, narT l.2.1 ∧ narT l.2.2) (hlen : k.length ≤ 1000000) :
    Calls Tryz.prog 26 #[a, .int .i64 d] w fun e w' => ∃ g, e = .returned (.slice (some ⟨g, 0, none⟩) k.length k.length) ∧ CIn w' (k.map (mapL (subT (ren d)))) (.slice (some ⟨g, 0, none⟩) k.length k.length) ∧ Below w.heap.size w w' := by
  have HS := hide hS
  obtain ⟨a1, a3, rfl⟩ := slice_of_cl hS
  clear hS
  go_enter Tryz.func26, Tryz.ntmps26
  go_wp2_with fail
  refine (eachR_any d w.heap.size k _ _ (by simp [InvR]) (HS.out.alloc _) hn hlen).mono ?_
  rintro e w1 ⟨g, rfl, hC, hb⟩
  have HC := hide hC
  clear hC
  go_wp2_with fail
  go_ret
  exact ⟨g, rfl, HC.out, below_box hb⟩

end Go.Proofs.YtfckelbdageenabGreatDoor

/- A region whose condition grows on the way: what a call inside it hands back may be read later in the same region. -/
namespace Go.Proofs.YtfckelbdageenabGreatDoor
open Go

theorem held_weaken {P : Program} {md : Region.Mode} {ops : Array Oper} {Q : Exit → Act → World → Prop} {S S' : World → Prop} (h : ∀ w, S' w → S w) :
    ∀ (fuel : Nat) (listed : Array Bool) (a : Act) (w : World), wpAnyH P md ops Q S' fuel listed a w → wpAnyH P md ops Q S fuel listed a w
  | 0, _, _, _, hh => hh
  | fuel + 1, _, _, _, hh => ⟨hh.1, fun i hi => wpOp_mono (fun a' w' h' => ⟨h w' h'.1, held_weaken h fuel _ a' w' h'.2⟩) (hh.2 i hi)⟩

theorem held_more {P : Program} {md : Region.Mode} {ops : Array Oper} {Q : Exit → Act → World → Prop} {S : World → Prop} {fuel : Nat} {listed : Array Bool} {K : Act → World → Prop} (S' : World → Prop) (h : ∀ w, S' w → S w)
    (hK : Shut (∀ a w, S w → (S w → wpAnyH P md ops Q S fuel listed a w) → K a w)) :
    Shut (∀ a w, S w → (S w → wpAnyH P md ops Q S fuel listed a w) → K a w) = Shut (∀ a w, S' w → (S' w → wpAnyH P md ops Q S' fuel listed a w) → K a w) :=
  propext ⟨fun hK a w hs k => hK a w (h w hs) (fun _ => held_weaken h _ _ _ _ (k hs)), fun _ => hK⟩

end Go.Proofs.YtfckelbdageenabGreatDoor
