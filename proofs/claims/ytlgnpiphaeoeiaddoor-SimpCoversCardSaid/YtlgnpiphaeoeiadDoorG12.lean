/- CTn CDi CNu CV CNo D6b -/
import Derived.Test.YtlgnpiphaeoeiadDoorG11
import Derived.BigQuiet
import Derived.Deep.RegionHeld3
namespace Go.Proofs.YtlgnpiphaeoeiadDoor
open Go.RowKit Go.Deep Go.ChangeShapes Go.WideShapes
theorem cs_lit {w : World} {l : Lt} {a1 d1 : Option Addr} {a2 a3 d2 d3 : Nat} : Cs (w.alloc (.cells #[.bool l.1, .bool l.2.1.1.1, .int .i64 l.2.1.1.2, .slice a1 a2 a3, .bool l.2.2.1.1, .int .i64 l.2.2.1.2, .slice d1 d2 d3] 39)) (.slice (some ⟨w.heap.size, 0, none⟩) 1 1) 1 7 (litV l (.slice a1 a2 a3) (.slice d1 d2 d3)) :=
  ⟨_, 1, rfl, rfl, by simp [Value.oneCell'], fun e => by (cases e), fun ad hh j u hj => by cases hh; exact World.news_of_block (cs := #[.bool l.1, .bool l.2.1.1.1, .int .i64 l.2.1.1.2, .slice a1 a2 a3, .bool l.2.2.1.1, .int .i64 l.2.2.1.2, .slice d1 d2 d3]) (heap_alloc_new w _) j u hj⟩
theorem ownL_more {lo : Nat} {wr w3 w4 : World} {s : Cl} {v v4 : Value} {xs : List Value} {l : Lt} {a d : Value} (h : OwnL lo (XO wr v) wr s v xs) (hb : Below wr.heap.size wr w3) (hlo : lo ≤ wr.heap.size)
    (hA : SB (fun q => q < lo) w3 l.2.1.2 a) (hD : SB (fun q => q < lo) w3 l.2.2.2 d)
    (ho : w4.ownsRow lo 39 7 v4 (s.length + 1) (xs ++ litV l a d)) (hg : w3.grownBy w4 v.ownBlock) (hat : v4.ownBlock = v.ownBlock ∨ v4.ownBlock = some w3.heap.size) :
    OwnL lo (XO w4 v4) w4 (s ++ [l]) v4 (xs ++ litV l a d) ∧ Below lo wr w4 := by
  have hs := hb.size
  have hs4 := hg.size
  have hv : ∀ q, v.ownBlock = some q → lo ≤ q ∧ q < wr.heap.size := fun q hq => owns_at h.row q hq
  have noq : ∀ q, q < w3.heap.size → some q ≠ v.ownBlock → q < w4.heap.size ∧ some q ≠ v4.ownBlock := fun q hq hn => by
    refine ⟨by omega, fun e => ?_⟩
    rcases hat with e' | e'
    · exact hn (e.trans e')
    · rw [e'] at e; simp at e; omega
  have ok : ∀ q, q < lo → q < w3.heap.size ∧ some q ≠ v.ownBlock := fun q hq => by
    refine ⟨by omega, fun e => ?_⟩
    have := hv q e.symm
    omega
  refine ⟨⟨by simpa using ho, ?_, fun q hq => hq⟩, ⟨hg.os.trans hb.os, hg.tape.trans hb.tape, hg.output.trans hb.output, by omega, fun q hq => ?_⟩⟩
  · refine LC.append (LC.one ?_ ?_) ?_
    · exact hA.frame (fun q hq => noq q (ok q hq).1 (ok q hq).2) (fun q i hq => World.cell?_of_block (hg.block q (ok q hq).1 (ok q hq).2))
    · exact hD.frame (fun q hq => noq q (ok q hq).1 (ok q hq).2) (fun q i hq => World.cell?_of_block (hg.block q (ok q hq).1 (ok q hq).2))
    · refine h.cells.frame (fun q hq => noq q (by have := hq.1; omega) hq.2) (fun q i hq => World.cell?_of_block ?_)
      rw [hg.block q (by have := hq.1; omega) hq.2, hb.block q hq.1]
  · have hn : some q ≠ v.ownBlock := fun e => by have := hv q e.symm; omega
    rw [hg.block q (by omega) hn, hb.block q (by omega)]
theorem cmp_cases (a b : Tm) : cmpT a b = 0 ∨ cmpT a b = 1 ∨ cmpT a b = 2 ∨ cmpT a b = 3 := by
  unfold cmpT
  split
  · simp
  · split
    · simp
    · split <;> simp
theorem cmp_same {a b : Tm} : cmpT a b = 2 ↔ sameT a.1 a.2 b.1 b.2 = true := by
  unfold cmpT
  by_cases h : sameT a.1 a.2 b.1 b.2 = true
  · simp [h]
  · rw [if_neg h]
    constructor
    · intro e
      split at e
      · omega
      · split at e <;> omega
    · exact fun e => absurd e h
theorem cmp_less {a b : Tm} (h : cmpT a b = 1) : abvT b a = true := by
  unfold cmpT at h
  split at h
  · omega
  · split at h
    · omega
    · split at h
      · assumption
      · omega
theorem cmp_else {a b : Tm} (ha : okT a) (hb : okT b) (h : cmpT a b = 0 ∨ cmpT a b = 3) : abvT b a = false := by
  unfold cmpT at h
  split at h
  · omega
  · split at h
    · rename_i h2
      cases e : abvT b a with
      | false => rfl
      | true => exact absurd e (abv_asym ha hb h2)
    · split at h
      · omega
      · rename_i h3; simpa using h3
set_option maxRecDepth 100000 in
set_option maxHeartbeats 4000000 in
theorem turn_any (k : Cl) (a : Value) (w : World) (hS : CIn w k a) (hg : ∀ l ∈ k, Gd l.2.1 ∧ Gd l.2.2 ∧ tszR l.2.1.2 ≤ 4000000000000 ∧ tszR l.2.2.2 ≤ 4000000000000) (hlen : k.length ≤ 1000000) :
    Calls Tryd.prog 46 #[a] w fun e w' => ∃ v er d, e = .returned (.tuple #[v, .int .i64 er]) ∧ CIn w' d v ∧ ((er = 6 ∧ d = [] ∧ turnC k = none) ∨ (er = 0 ∧ turnC k = some d)) ∧ Below w.heap.size w w' := by
  obtain ⟨a1, c1, b1, oo, rfl, had1, hlc1, hcm1, hF1⟩ := hS
  unfold maxLen at hcm1
  have HF1 := hide hF1
  have HG := hide hg
  clear hF1 hg
  obtain ⟨iL, hi, hz0, hz1, hz2⟩ := info_parts Tryd.info39
  go_enter Tryd.func46, Tryd.ntmps46
  go_wp2_with fail
  go_loopw [4, 9] (fun v i wr => ∃ (j : Nat) (out : Cl) (o1 : Option Addr) (o3 : Nat) (xs : List Value), j ≤ k.length ∧ i = .int .i64 j ∧ v = .slice o1 out.length o3 ∧ out.length ≤ j ∧ turnC (k.take j) = some out ∧ OwnL w.heap.size (XO wr v) wr out v xs ∧ Below w.heap.size w wr) (fun _ i _ => k.length - (intOf i).toNat)
  case atStart => exact ⟨0, [], none, 0, [], Nat.zero_le _, rfl, rfl, Nat.le_refl _, rfl, ownL_nil _ _, Below.refl _ _⟩
  case round =>
    obtain ⟨j, out, o1, o3, xs, hj, rfl, rfl, hol, hT, hO, hBr⟩ := hrel
    have HT := hide hT
    have HO := hide hO
    clear hT hO
    have hsr := hBr.size
    by_cases hlt : j < k.length
    · have hlt' : (j : Int) < (k.length : Int) := by omega
      obtain ⟨⟨yn, ⟨⟨yv, yi⟩, yk⟩, ⟨yv', yi'⟩, yk'⟩, hy⟩ : ∃ y, k[j]? = some y := ⟨k[j]'hlt, by simp⟩
      obtain ⟨-, -, -, ⟨u3', p3', hA0⟩, -, -, u6', p6', hD0⟩ := HF1.out.at hy
      obtain ⟨p0, p1, p2, ⟨u3, p3, hA⟩, p4, p5, u6, p6, hD⟩ := (HF1.out.below hBr).at hy
      have e3 : u3' = u3 := by have := grow_cell hBr _ _ p3'; rw [p3] at this; exact (Option.some.inj this).symm
      have e6 : u6' = u6 := by have := grow_cell hBr _ _ p6'; rw [p6] at this; exact (Option.some.inj this).symm
      subst e3 e6
      have ha1 : a1 = some ⟨b1, oo, none⟩ := had1 (by omega)
      subst ha1
      have HA := hide hA
      have HD := hide hD
      have HA0 := hide hA0.toB
      have HD0 := hide hD0.toB
      obtain ⟨ya, yc, _, _, rfl, -, -, -, -⟩ := hA
      obtain ⟨za, zc, _, _, rfl, -, -, -, -⟩ := hD
      have Hgy := hide (HG.out _ (List.mem_of_getElem? hy))
      have Hy := hide hy
      have Hstep : Hid (turnC (k.take (j + 1)) = tstep (some out) (yn, ((yv, yi), yk), ((yv', yi'), yk'))) := by rw [Hid, turn_take hy, HT.out]
      have hn1 : out.length + 1 ≤ maxLen := by unfold maxLen; omega
      have hn2 : (out.length + 1) * 88 ≤ 140737488355328 := by omega
      clear hy had1 p3' p6' hA0 hD0
      simp only at *
      go_wp2_with fail
      refine (compare_any (yv, yi) yk (yv', yi') yk' _ _ _ Hgy.out.1 Hgy.out.2.1 (HA.out.alloc _) (HD.out.alloc _) Hgy.out.2.2.1 Hgy.out.2.2.2).mono ?_
      rintro e w2 ⟨rfl, hb2⟩
      obtain ⟨g0, g1, g2, g3, g4, g5, g6, gf, hb2', hlt2⟩ := lit_cells hb2
      have hB2 := below_step hBr hb2'
      clear hb2 p0 p1 p2 p3 p4 p5 p6
      rcases cmp_cases ((yv, yi), yk) ((yv', yi'), yk') with hc | hc | hc | hc
      · have Hfl : Hid (flipL (yn, ((yv, yi), yk), ((yv', yi'), yk')) = (yn, ((yv, yi), yk), ((yv', yi'), yk'))) := by
          show flipL _ = _
          unfold flipL
          rw [if_neg (by rw [cmp_else Hgy.out.1.ok Hgy.out.2.1.ok (by omega)]; simp)]
        have Hst : Hid (turnC (k.take (j + 1)) = some (out ++ [(yn, ((yv, yi), yk), ((yv', yi'), yk'))])) := by
          show turnC _ = _
          have hns : ¬ sameT (yv, yi) yk (yv', yi') yk' = true := fun h => by have := (cmp_same (a := ((yv, yi), yk)) (b := ((yv', yi'), yk'))).2 h; rw [hc] at this; omega
          rw [Hstep.out, tstep, Option.bind_some, if_neg hns, Hfl.out]
        rw [hc]
        clear hc
        have hb5 : ∀ ob, Below wr.heap.size wr (w2.alloc ob) := fun ob => below_step hb2' (below_alloc _ _)
        go_wp2_with (at_builtin; refine wpList_append_gen rfl (.tmp 31) (.tmp 33) 25 rfl w.heap.size 39 iL (.agg #[.bool false, .bool false, .int .i64 0, .slice none 0 0, .bool false, .int .i64 0, .slice none 0 0]) 7 88 Tryd.underlying25 hi hz0 hz1 hz2 rfl (by decide) (.slice o1 out.length o3) out.length xs rfl (OwnL.below HO.out (hb5 _)).row _ 1 (litV (yn, ((yv, yi), yk), ((yv', yi'), yk')) (.slice ya (Fo.len yk) yc) (.slice za (Fo.len yk') zc)) rfl cs_lit hn1 hn2 (Nat.le_trans hsr (hb5 _).size) ?_; intro v4 w4 ho4 hg4 hat4)
        obtain ⟨hO4, hB4⟩ := ownL_more (l := (yn, ((yv, yi), yk), ((yv', yi'), yk'))) HO.out (hb5 _) hsr (HA0.out.kept (fun q hq => (below_step hBr (hb5 _)).block q hq)) (HD0.out.kept (fun q hq => (below_step hBr (hb5 _)).block q hq)) ho4 hg4 hat4
        obtain ⟨r1, r3, rfl⟩ := slice_of_cl hO4.cl
        have HO4 := hide hO4
        have hBB := hBr.trans hB4
        clear hO4 ho4 hg4 hat4
        go_wp2_with fail
        go_roundw
        case rel => exact ⟨j + 1, _, r1, r3, _, by omega, by go_num, rfl, by simp; omega, Hst.out, HO4.out, hBB⟩
        case measure => simp [intOf]; omega
      · have Hfl : Hid (flipL (yn, ((yv, yi), yk), ((yv', yi'), yk')) = (yn, ((yv', yi'), yk'), ((yv, yi), yk))) := by
          show flipL _ = _
          unfold flipL
          rw [if_pos (cmp_less hc)]
        have Hst : Hid (turnC (k.take (j + 1)) = some (out ++ [(yn, ((yv', yi'), yk'), ((yv, yi), yk))])) := by
          show turnC _ = _
          have hns : ¬ sameT (yv, yi) yk (yv', yi') yk' = true := fun h => by have := (cmp_same (a := ((yv, yi), yk)) (b := ((yv', yi'), yk'))).2 h; rw [hc] at this; omega
          rw [Hstep.out, tstep, Option.bind_some, if_neg hns, Hfl.out]
        rw [hc]
        clear hc
        go_upto_region 11 with fail
        generalize hw3 : ((((((w2.setCell ⟨wr.heap.size, 1, none⟩ (.bool yv')).setCell ⟨wr.heap.size, 2, none⟩ (.int .i64 yi')).setCell ⟨wr.heap.size, 3, none⟩ (.slice za (Fo.len yk') zc)).setCell ⟨wr.heap.size, 4, none⟩ (.bool yv)).setCell ⟨wr.heap.size, 5, none⟩ (.int .i64 yi)).setCell ⟨wr.heap.size, 6, none⟩ (.slice ya (Fo.len yk) yc)) = w3
        have e3 : w3 = setL w2 wr.heap.size 1 [.bool yv', .int .i64 yi', .slice za (Fo.len yk') zc, .bool yv, .int .i64 yi, .slice ya (Fo.len yk) yc] := hw3.symm
        have hb3 : Below wr.heap.size wr w3 := by rw [e3]; exact setL_below (Nat.le_refl _) hb2'
        have at6 := setL_at (b := wr.heap.size) (xs := [.bool yv', .int .i64 yi', .slice za (Fo.len yk') zc, .bool yv, .int .i64 yi, .slice ya (Fo.len yk) yc]) (o := 1) (w := w2) (fun i hi => by
          simp at hi
          rcases i with _ | _ | _ | _ | _ | _ | i
          · exact ⟨_, g1⟩
          · exact ⟨_, g2⟩
          · exact ⟨_, g3⟩
          · exact ⟨_, g4⟩
          · exact ⟨_, g5⟩
          · exact ⟨_, g6⟩
          · omega)
        have k0 : w3.cell? ⟨wr.heap.size, 0, none⟩ = some (.bool yn) := by rw [e3, setL_other (.inr (.inl (by omega)))]; exact g0
        have k1 : w3.cell? ⟨wr.heap.size, 1, none⟩ = some (.bool yv') := by rw [e3]; exact at6 0 _ rfl
        have k2 : w3.cell? ⟨wr.heap.size, 2, none⟩ = some (.int .i64 yi') := by rw [e3]; exact at6 1 _ rfl
        have k3 : w3.cell? ⟨wr.heap.size, 3, none⟩ = some (.slice za (Fo.len yk') zc) := by rw [e3]; exact at6 2 _ rfl
        have k4 : w3.cell? ⟨wr.heap.size, 4, none⟩ = some (.bool yv) := by rw [e3]; exact at6 3 _ rfl
        have k5 : w3.cell? ⟨wr.heap.size, 5, none⟩ = some (.int .i64 yi) := by rw [e3]; exact at6 4 _ rfl
        have k6 : w3.cell? ⟨wr.heap.size, 6, none⟩ = some (.slice ya (Fo.len yk) yc) := by rw [e3]; exact at6 5 _ rfl
        clear at6 e3 hw3 g0 g1 g2 g3 g4 g5 g6 gf
        have hb5 : ∀ ob, Below wr.heap.size wr (w3.alloc ob) := fun ob => below_step hb3 (below_alloc _ _)
        go_wp2_with (at_builtin; refine wpList_append_gen rfl (.tmp 31) (.tmp 33) 25 rfl w.heap.size 39 iL (.agg #[.bool false, .bool false, .int .i64 0, .slice none 0 0, .bool false, .int .i64 0, .slice none 0 0]) 7 88 Tryd.underlying25 hi hz0 hz1 hz2 rfl (by decide) (.slice o1 out.length o3) out.length xs rfl (OwnL.below HO.out (hb5 _)).row _ 1 (litV (yn, ((yv', yi'), yk'), ((yv, yi), yk)) (.slice za (Fo.len yk') zc) (.slice ya (Fo.len yk) yc)) rfl cs_lit hn1 hn2 (Nat.le_trans hsr (hb5 _).size) ?_; intro v4 w4 ho4 hg4 hat4)
        obtain ⟨hO4, hB4⟩ := ownL_more (l := (yn, ((yv', yi'), yk'), ((yv, yi), yk))) HO.out (hb5 _) hsr (HD0.out.kept (fun q hq => (below_step hBr (hb5 _)).block q hq)) (HA0.out.kept (fun q hq => (below_step hBr (hb5 _)).block q hq)) ho4 hg4 hat4
        obtain ⟨r1, r3, rfl⟩ := slice_of_cl hO4.cl
        have HO4 := hide hO4
        have hBB := hBr.trans hB4
        clear hO4 ho4 hg4 hat4
        go_wp2_with fail
        go_roundw
        case rel => exact ⟨j + 1, _, r1, r3, _, by omega, by go_num, rfl, by simp; omega, Hst.out, HO4.out, hBB⟩
        case measure => simp [intOf]; omega
      · have hss : sameT (yv, yi) yk (yv', yi') yk' = true := cmp_same.1 hc
        rw [hc]
        clear hc
        cases yn
        · have Hst : Hid (turnC k = none) := by
            refine turn_stop (j := j + 1) ?_
            rw [Hstep.out]
            simp [tstep, hss]
          clear hss
          go_wp2_with fail
          go_ret2
          exact ⟨_, _, [], rfl, CIn.nil _, .inl ⟨rfl, rfl, Hst.out⟩, hB2⟩
        · have Hst : Hid (turnC (k.take (j + 1)) = some out) := by
            show turnC _ = _
            rw [Hstep.out]
            simp [tstep, hss]
          clear hss
          have HO2 : Hid (OwnL w.heap.size (XO w2 (.slice o1 out.length o3)) w2 out (.slice o1 out.length o3) xs) := (HO.out.below hb2').wide (fun q hq => ⟨by have := hq.1; have := hb2'.size; omega, hq.2⟩) (fun _ h => h)
          go_wp2_with fail
          go_roundw
          case rel => exact ⟨j + 1, _, o1, o3, _, by omega, by go_num, rfl, by omega, Hst.out, HO2.out, hB2⟩
          case measure => simp [intOf]; omega
      · have Hfl : Hid (flipL (yn, ((yv, yi), yk), ((yv', yi'), yk')) = (yn, ((yv, yi), yk), ((yv', yi'), yk'))) := by
          show flipL _ = _
          unfold flipL
          rw [if_neg (by rw [cmp_else Hgy.out.1.ok Hgy.out.2.1.ok (by omega)]; simp)]
        have Hst : Hid (turnC (k.take (j + 1)) = some (out ++ [(yn, ((yv, yi), yk), ((yv', yi'), yk'))])) := by
          show turnC _ = _
          have hns : ¬ sameT (yv, yi) yk (yv', yi') yk' = true := fun h => by have := (cmp_same (a := ((yv, yi), yk)) (b := ((yv', yi'), yk'))).2 h; rw [hc] at this; omega
          rw [Hstep.out, tstep, Option.bind_some, if_neg hns, Hfl.out]
        rw [hc]
        clear hc
        have hb5 : ∀ ob, Below wr.heap.size wr (w2.alloc ob) := fun ob => below_step hb2' (below_alloc _ _)
        go_wp2_with (at_builtin; refine wpList_append_gen rfl (.tmp 31) (.tmp 33) 25 rfl w.heap.size 39 iL (.agg #[.bool false, .bool false, .int .i64 0, .slice none 0 0, .bool false, .int .i64 0, .slice none 0 0]) 7 88 Tryd.underlying25 hi hz0 hz1 hz2 rfl (by decide) (.slice o1 out.length o3) out.length xs rfl (OwnL.below HO.out (hb5 _)).row _ 1 (litV (yn, ((yv, yi), yk), ((yv', yi'), yk')) (.slice ya (Fo.len yk) yc) (.slice za (Fo.len yk') zc)) rfl cs_lit hn1 hn2 (Nat.le_trans hsr (hb5 _).size) ?_; intro v4 w4 ho4 hg4 hat4)
        obtain ⟨hO4, hB4⟩ := ownL_more (l := (yn, ((yv, yi), yk), ((yv', yi'), yk'))) HO.out (hb5 _) hsr (HA0.out.kept (fun q hq => (below_step hBr (hb5 _)).block q hq)) (HD0.out.kept (fun q hq => (below_step hBr (hb5 _)).block q hq)) ho4 hg4 hat4
        obtain ⟨r1, r3, rfl⟩ := slice_of_cl hO4.cl
        have HO4 := hide hO4
        have hBB := hBr.trans hB4
        clear hO4 ho4 hg4 hat4
        go_wp2_with fail
        go_roundw
        case rel => exact ⟨j + 1, _, r1, r3, _, by omega, by go_num, rfl, by simp; omega, Hst.out, HO4.out, hBB⟩
        case measure => simp [intOf]; omega
    · have hje : j = k.length := by omega
      have Hfin : Hid (turnC k = some out) := by
        have := HT.out
        rw [hje, List.take_length] at this
        exact this
      clear had1
      go_wp2_with fail
      go_ret2
      exact ⟨_, _, out, rfl, HO.out.cl, .inr ⟨rfl, Hfin.out⟩, hBr⟩
end Go.Proofs.YtlgnpiphaeoeiadDoor

namespace Go.Proofs.YtlgnpiphaeoeiadDoor
open Go.RowKit Go.Deep Go.ChangeShapes Go.WideShapes
set_option maxRecDepth 100000 in
set_option maxHeartbeats 4000000 in
theorem distinct_any (k : Cl) (a : Value) (w : World) (hS : CIn w k a) (hlen : k.length ≤ 1000000) :
    Calls Tryd.prog 48 #[a] w fun e w' => ∃ v er d, e = .returned (.tuple #[v, .int .i64 er]) ∧ CIn w' d v ∧ ((er = 6 ∧ d = [] ∧ distC k = none) ∨ (er = 0 ∧ distC k = some d)) ∧ Below w.heap.size w w' := by
  obtain ⟨a1, c1, b1, oo, rfl, had1, hlc1, hcm1, hF1⟩ := hS
  unfold maxLen at hcm1
  have HF1 := hide hF1
  clear hF1
  obtain ⟨iL, hi, hz0, hz1, hz2⟩ := info_parts Tryd.info39
  go_enter Tryd.func48, Tryd.ntmps48
  go_wp2_with fail
  go_loopw [4, 10] (fun v i wr => ∃ (j : Nat) (out : Cl) (o1 : Option Addr) (o3 : Nat) (xs : List Value), j ≤ k.length ∧ i = .int .i64 j ∧ v = .slice o1 out.length o3 ∧ out.length ≤ j ∧ distC (k.take j) = some out ∧ OwnL w.heap.size (XO wr v) wr out v xs ∧ Below w.heap.size w wr) (fun _ i _ => k.length - (intOf i).toNat)
  case atStart => exact ⟨0, [], none, 0, [], Nat.zero_le _, rfl, rfl, Nat.le_refl _, rfl, ownL_nil _ _, Below.refl _ _⟩
  case round =>
    obtain ⟨j, out, o1, o3, xs, hj, rfl, rfl, hol, hT, hO, hBr⟩ := hrel
    have HT := hide hT
    have HO := hide hO
    clear hT hO
    have hsr := hBr.size
    by_cases hlt : j < k.length
    · have hlt' : (j : Int) < (k.length : Int) := by omega
      obtain ⟨⟨yn, ⟨⟨yv, yi⟩, yk⟩, ⟨yv', yi'⟩, yk'⟩, hy⟩ : ∃ y, k[j]? = some y := ⟨k[j]'hlt, by simp⟩
      obtain ⟨-, -, -, ⟨u3', p3', hA0⟩, -, -, u6', p6', hD0⟩ := HF1.out.at hy
      obtain ⟨p0, p1, p2, ⟨u3, p3, hA⟩, p4, p5, u6, p6, hD⟩ := (HF1.out.below hBr).at hy
      have e3 : u3' = u3 := by have := grow_cell hBr _ _ p3'; rw [p3] at this; exact (Option.some.inj this).symm
      have e6 : u6' = u6 := by have := grow_cell hBr _ _ p6'; rw [p6] at this; exact (Option.some.inj this).symm
      subst e3 e6
      have ha1 : a1 = some ⟨b1, oo, none⟩ := had1 (by omega)
      subst ha1
      have HA := hide hA
      have HD := hide hD
      have HA0 := hide hA0.toB
      have HD0 := hide hD0.toB
      obtain ⟨ya, yc, _, _, rfl, -, -, -, -⟩ := hA
      obtain ⟨za, zc, _, _, rfl, -, -, -, -⟩ := hD
      have Hy := hide hy
      have Hstep : Hid (distC (k.take (j + 1)) = dstep (some out) (yn, ((yv, yi), yk), ((yv', yi'), yk'))) := by rw [Hid, dist_take hy, HT.out]
      have hn1 : out.length + 1 ≤ maxLen := by unfold maxLen; omega
      have hn2 : (out.length + 1) * 88 ≤ 140737488355328 := by omega
      clear hy had1 p3' p6' hA0 hD0
      simp only at *
      go_wp2_with fail
      obtain ⟨m0, m1, m2, m3, m4, m5, m6, -, hbm, -⟩ := lit_cells (T := 39) (x0 := .bool yn) (w := wr) (x1 := .bool yv) (x2 := .int .i64 yi) (x3 := .slice ya (Fo.len yk) yc) (x4 := .bool yv') (x5 := .int .i64 yi') (x6 := .slice za (Fo.len yk') zc) (Below.refl _ _)
      refine (indexD_any out (yn, ((yv, yi), yk), ((yv', yi'), yk')) wr.heap.size _ _ _ _ (HO.out.cl.below hbm) ⟨m0, m1, m2, m3, m4, m5, m6, HA.out.below hbm, HD.out.below hbm⟩).mono ?_
      rintro e w2 ⟨i, rfl, hf, hb2⟩
      obtain ⟨g0, g1, g2, g3, g4, g5, g6, gf, hb2', hlt2⟩ := lit_cells hb2
      have hB2 := below_step hBr hb2'
      clear hb2 p0 p1 p2 p3 p4 p5 p6 m0 m1 m2 m3 m4 m5 m6 hbm
      rcases hf with ⟨rfl, hf⟩ | ⟨q, f, rfl, hq, hf⟩
      · have Hst : Hid (distC (k.take (j + 1)) = some (out ++ [(yn, ((yv, yi), yk), ((yv', yi'), yk'))])) := by
          show distC _ = _
          rw [Hstep.out, dstep, Option.bind_some, hf]
        clear hf
        have hb5 : ∀ ob, Below wr.heap.size wr (w2.alloc ob) := fun ob => below_step hb2' (below_alloc _ _)
        go_wp2_with (at_builtin; refine wpList_append_gen rfl (.tmp 19) (.tmp 21) 25 rfl w.heap.size 39 iL (.agg #[.bool false, .bool false, .int .i64 0, .slice none 0 0, .bool false, .int .i64 0, .slice none 0 0]) 7 88 Tryd.underlying25 hi hz0 hz1 hz2 rfl (by decide) (.slice o1 out.length o3) out.length xs rfl (OwnL.below HO.out (hb5 _)).row _ 1 (litV (yn, ((yv, yi), yk), ((yv', yi'), yk')) (.slice ya (Fo.len yk) yc) (.slice za (Fo.len yk') zc)) rfl cs_lit hn1 hn2 (Nat.le_trans hsr (hb5 _).size) ?_; intro v4 w4 ho4 hg4 hat4)
        obtain ⟨hO4, hB4⟩ := ownL_more (l := (yn, ((yv, yi), yk), ((yv', yi'), yk'))) HO.out (hb5 _) hsr (HA0.out.kept (fun q hq => (below_step hBr (hb5 _)).block q hq)) (HD0.out.kept (fun q hq => (below_step hBr (hb5 _)).block q hq)) ho4 hg4 hat4
        obtain ⟨r1, r3, rfl⟩ := slice_of_cl hO4.cl
        have HO4 := hide hO4
        have hBB := hBr.trans hB4
        clear hO4 ho4 hg4 hat4
        go_wp2_with fail
        go_roundw
        case rel => exact ⟨j + 1, _, r1, r3, _, by omega, by go_num, rfl, by simp; omega, Hst.out, HO4.out, hBB⟩
        case measure => simp [intOf]; omega
      · have hql : q < out.length := (List.getElem?_eq_some_iff.1 hq).1
        have hql' : (q : Int) < (out.length : Int) := by omega
        have hq0 : (0 : Int) ≤ (q : Int) := by omega
        obtain ⟨fn, f⟩ := f
        have HO2 : Hid (OwnL w.heap.size (XO w2 (.slice o1 out.length o3)) w2 out (.slice o1 out.length o3) xs) := (HO.out.below hb2').wide (fun q hq => ⟨by have := hq.1; have := hb2'.size; omega, hq.2⟩) (fun _ h => h)
        obtain ⟨z1, z3, zb, zo, hze, hza, -, -, hzF⟩ := HO2.out.cl
        have hz1' : o1 = some ⟨zb, zo, none⟩ := by
          have := hza (by omega)
          simp only [Value.slice.injEq] at hze
          rw [hze.1]; exact this
        subst hz1'
        have n0 := (hzF.at hq).1
        simp only at n0
        have Hst : Hid (distC (k.take (j + 1)) = if fn = yn then some out else none) := by
          show distC _ = _
          rw [Hstep.out, dstep, Option.bind_some, hf]
        clear hf hq hze hza hzF z1 z3
        have HO3 : Hid (∀ nq, OwnL w.heap.size (XO (w2.drewN nq) (.slice (some ⟨zb, zo, none⟩) out.length o3)) (w2.drewN nq) out (.slice (some ⟨zb, zo, none⟩) out.length o3) xs) := fun nq => (HO2.out.below (below_drewN (Below.refl _ _) nq)).wide (fun q hq => ⟨Nat.lt_of_lt_of_le hq.1 (below_drewN (Below.refl w2.heap.size w2) nq).size, hq.2⟩) (fun _ h => h)
        cases fn <;> cases yn
        · have Hst2 : Hid (distC (k.take (j + 1)) = some out) := by rw [Hid, Hst.out]; rfl
          go_upto_region 8 with fail
          go_quiet (fail)
          go_wp2_with fail
          go_roundw
          case rel => exact ⟨j + 1, _, _, o3, _, by omega, by go_num, rfl, by omega, Hst2.out, HO3.out _, below_drewN hB2 _⟩
          case measure => simp [intOf]; omega
        · have Hst2 : Hid (distC k = none) := dist_stop (j := j + 1) (by rw [Hst.out]; rfl)
          go_upto_region 8 with fail
          go_quiet (fail)
          go_wp2_with fail
          go_ret2
          exact ⟨_, _, [], rfl, CIn.nil _, .inl ⟨rfl, rfl, Hst2.out⟩, below_drewN hB2 _⟩
        · have Hst2 : Hid (distC k = none) := dist_stop (j := j + 1) (by rw [Hst.out]; rfl)
          go_upto_region 8 with fail
          go_quiet (fail)
          go_wp2_with fail
          go_ret2
          exact ⟨_, _, [], rfl, CIn.nil _, .inl ⟨rfl, rfl, Hst2.out⟩, below_drewN hB2 _⟩
        · have Hst2 : Hid (distC (k.take (j + 1)) = some out) := by rw [Hid, Hst.out]; rfl
          go_upto_region 8 with fail
          go_quiet (fail)
          go_wp2_with fail
          go_roundw
          case rel => exact ⟨j + 1, _, _, o3, _, by omega, by go_num, rfl, by omega, Hst2.out, HO3.out _, below_drewN hB2 _⟩
          case measure => simp [intOf]; omega
    · have hje : j = k.length := by omega
      have Hfin : Hid (distC k = some out) := by
        have := HT.out
        rw [hje, List.take_length] at this
        exact this
      clear had1
      go_wp2_with fail
      go_ret2
      exact ⟨_, _, out, rfl, HO.out.cl, .inr ⟨rfl, Hfin.out⟩, hBr⟩
end Go.Proofs.YtlgnpiphaeoeiadDoor

namespace Go.Proofs.YtlgnpiphaeoeiadDoor
open Go.RowKit Go.Deep Go.ChangeShapes Go.WideShapes
def PkRel (g : Nat) (W2 : World) (S : Sb) (j : Nat) (wr : World) : Prop :=
  Below g W2 wr ∧ There wr g (S.length * 4) ∧ g + 1 ≤ wr.heap.size ∧ ∃ xs, PC (fun q => g + 1 ≤ q ∧ q < wr.heap.size) wr (S.take j) xs ∧ ∀ i, i < xs.length → wr.cell? ⟨g, i, none⟩ = xs[i]?
theorem pk_start {W2 : World} {S : Sb} {z : Array Value} : PkRel W2.heap.size W2 S 0 (W2.alloc (.cells (madeCells z (S.length * 4)) 98)) := by
  refine ⟨below_alloc _ _, fun i hi => ⟨?_, frozen_new _ _ _ _⟩, by simp, [], rfl, fun i hi => by simp at hi⟩
  have hs : i < (madeCells z (S.length * 4)).size := by simp [madeCells]; exact hi
  exact ⟨(madeCells z (S.length * 4))[i], by simp [hs]⟩
theorem pk_step {g : Nat} {W2 wr : World} {S : Sb} {j : Nat} {n m : Int} (h : PkRel g W2 S j wr) (hl : S[j]? = some (n, vr m)) : PkRel g W2 S (j + 1) (setL wr g (j * 4) [.int .i64 n, .bool true, .int .i64 m, .slice none 0 0]) := by
  obtain ⟨hB, hT2, hs, xs, hX, hc⟩ := h
  have hj : j < S.length := (List.getElem?_eq_some_iff.1 hl).1
  have hxl : xs.length = j * 4 := by rw [hX.len, List.length_take]; rw [Nat.min_eq_left (by omega)]
  have at7 := setL_at (b := g) (xs := [.int .i64 n, .bool true, .int .i64 m, .slice none 0 0]) (o := j * 4) (w := wr) (fun i hi => (hT2 (j * 4 + i) (by simp at hi; omega)).1)
  refine ⟨setL_below (Nat.le_refl _) hB, fun i hi => ?_, by rw [setL_size]; omega, xs ++ [.int .i64 n, .bool true, .int .i64 m, .slice none 0 0], ?_, fun i hi => ?_⟩
  · obtain ⟨⟨v, hv⟩, hf⟩ := hT2 i hi
    refine ⟨?_, by rw [setL_frozen]; exact hf⟩
    by_cases hc : i < j * 4 ∨ j * 4 + 4 ≤ i
    · exact ⟨v, by rw [setL_other (.inr hc)]; exact hv⟩
    · obtain ⟨q, rfl⟩ : ∃ q, i = j * 4 + q := ⟨i - j * 4, by omega⟩
      exact ⟨_, at7 q _ (List.getElem?_eq_getElem (by simp; omega))⟩
  · rw [List.take_add_one, hl]
    refine PC.append (PC.one (t := vr m) (SB.nil _ _)) ?_
    refine hX.frame (fun q hq => ⟨by omega, by rw [setL_size]; omega⟩) (fun q i hq => setL_other (.inl (by omega)))
  · rw [List.getElem?_append]
    by_cases hc' : i < xs.length
    · rw [if_pos hc', setL_other (.inr (.inl (by omega)))]
      exact hc i hc'
    · rw [if_neg hc']
      have hi' : i - xs.length < 4 := by simp at hi; omega
      have := at7 (i - xs.length) _ (List.getElem?_eq_getElem (by simpa using hi'))
      rw [show j * 4 + (i - xs.length) = i by omega] at this
      rw [this, List.getElem?_eq_getElem (by simpa using hi')]
theorem pk_end {g : Nat} {W2 wr : World} {S : Sb} (h : PkRel g W2 S S.length wr) (hm : S.length ≤ maxLen) : SubIn wr S (.slice (some ⟨g, 0, none⟩) S.length S.length) := by
  obtain ⟨_, _, _, xs, hX, hc⟩ := h
  rw [List.take_length] at hX
  exact ⟨_, _, g, 0, rfl, fun _ => rfl, Nat.le_refl _, hm, hX.at (fun j hj => by rw [Nat.zero_add]; exact hc j hj)⟩
theorem num_len (vs : List Int) : (numS vs).length = vs.length := by simp [numS]
theorem num_at {vs : List Int} {j : Nat} (h : j < vs.length) : (numS vs)[j]? = some (vs.getD j 0, vr j) := by
  simp [numS, List.getD_eq_getElem?_getD, h]
theorem num_all (vs : List Int) : ∀ p ∈ numS vs, narT p.2 ∧ okT p.2 := fun p hp => by
  simp only [numS, List.mem_mapIdx] at hp
  obtain ⟨i, hi, rfl⟩ := hp
  exact ⟨nar_vr _, ok_vr _⟩
set_option maxRecDepth 100000 in
set_option maxHeartbeats 4000000 in
theorem number_any (k : Cl) (a : Value) (vs : List Int) (vv : Value) (w : World) (hS : CIn w k a) (hN : NIn w vs vv) (hn : ∀ l ∈ k, narT l.2.1 ∧ narT l.2.2) (hlen : k.length ≤ 1000000) (hvl : vs.length ≤ 1000000) :
    Calls Tryd.prog 49 #[a, vv] w fun e w' => ∃ g, e = .returned (.slice (some ⟨g, 0, none⟩) k.length k.length) ∧ CIn w' (k.map (mapL (subT (bnd (numS vs))))) (.slice (some ⟨g, 0, none⟩) k.length k.length) ∧ Below w.heap.size w w' := by
  have HS := hide hS
  obtain ⟨a1, a3, rfl⟩ := slice_of_cl hS
  obtain ⟨n1, n3, nb, no, rfl, hna, hnlc, hncm, hnF⟩ := hN
  unfold maxLen at hncm
  have HnF := hide hnF
  have Hn := hide hn
  clear hS hnF hn
  obtain ⟨iP, hi, hz0, hz1, hz2⟩ := info_parts Tryd.info98
  have hmk := fun w : World => run_make (P := Tryd.prog) w 68 98 iP _ Tryd.underlying68 hi hz0 .i64 .i64 (vs.length : Int) (vs.length : Int) (by omega) (by omega) (by rw [hz2]; omega) (by omega)
  rw [hz1] at hmk
  simp only [Int.toNat_natCast] at hmk
  go_enter Tryd.func49, Tryd.ntmps49
  go_wp2_with fail
  clear hmk hi hz0 hz1 hz2
  have H0 : Hid (PkRel w.heap.size w (numS vs) 0 (w.alloc (.cells (madeCells #[.int .i64 0, .bool false, .int .i64 0, .slice none 0 0] (vs.length * 4)) 98))) := by
    have := pk_start (W2 := w) (S := numS vs) (z := #[.int .i64 0, .bool false, .int .i64 0, .slice none 0 0])
    rw [num_len] at this
    exact this
  go_loopw [13] (fun i wr => ∃ j : Nat, j ≤ vs.length ∧ i = .int .i64 j ∧ PkRel w.heap.size w (numS vs) j wr) (fun i _ => vs.length - (intOf i).toNat)
  case atStart => exact ⟨0, Nat.zero_le _, rfl, H0.out⟩
  case round =>
    obtain ⟨j, hj, rfl, hR⟩ := hrel
    have HR := hide hR
    obtain ⟨hB, hT, hsz, -⟩ := hR
    have hBw : Below w.heap.size w wr := hB
    by_cases hlt : j < vs.length
    · have hlt' : (j : Int) < (vs.length : Int) := by omega
      have hj0 : (0 : Int) ≤ (j : Int) := by omega
      have hc := grow_cell hBw _ _ (HnF.out j hlt)
      have ha : n1 = some ⟨nb, no, none⟩ := hna (by omega)
      subst ha
      have hT' : There wr w.heap.size (vs.length * 4) := by rw [num_len] at hT; exact hT
      obtain ⟨⟨t0, e0⟩, f0⟩ := hT' (j * 4) (by omega)
      obtain ⟨⟨t1, e1⟩, f1⟩ := hT' (j * 4 + 1) (by omega)
      obtain ⟨⟨t2, e2⟩, f2⟩ := hT' (j * 4 + 2) (by omega)
      obtain ⟨⟨t3, e3⟩, f3⟩ := hT' (j * 4 + 3) (by omega)
      have Hstep := hide (pk_step HR.out (num_at hlt))
      generalize vs.getD j 0 = nn at *
      clear hna hT hT' hB
      go_wp2_with fail
      go_roundw
      case rel => exact ⟨j + 1, by omega, by go_num, Hstep.out⟩
      case measure => simp [intOf]; omega
    · have hje : j = vs.length := by omega
      have Hfin : Hid (SubIn wr (numS vs) (.slice (some ⟨w.heap.size, 0, none⟩) vs.length vs.length)) := by
        have h1 := HR.out
        have e : j = (numS vs).length := by rw [num_len]; exact hje
        rw [e] at h1
        have := pk_end h1 (by rw [num_len]; unfold maxLen; omega)
        rw [num_len] at this
        exact this
      clear hna hT hB
      go_wp2_with fail
      refine (applyC_any (numS vs) _ k _ wr Hfin.out (num_all vs) (HS.out.below hBw) Hn.out hlen).mono ?_
      rintro e w2 ⟨g, rfl, hC, hb2⟩
      have HC := hide hC
      have hB2 := below_step hBw hb2
      clear hC hb2
      go_wp2_with fail
      go_ret
      exact ⟨g, rfl, HC.out, hB2⟩
end Go.Proofs.YtlgnpiphaeoeiadDoor

namespace Go.Proofs.YtlgnpiphaeoeiadDoor
open Go.RowKit Go.Deep Go.ChangeShapes Go.WideShapes
theorem nin_vals {w : World} {lo : Nat} {T : List Int} {v : Value} (h : w.ownsRow lo 3 1 v T.length (vals T)) : NIn w T v := own_nin h
theorem nin_nil (w : World) : NIn w [] (.slice none 0 0) := own_nin (lo := 0) (World.ownsRow_nil _ _ _ _)
theorem varsT_grow (x : Bool × Int) (k : Fo) (v : List Int) : v.length ≤ (varsT x k v).length := by
  have key : ∀ (F : Fo) (v : List Int), v.length ≤ (varsF F v).length := by
    intro F
    induction F with
    | nil => intro v; exact Nat.le_refl _
    | node p q y l r ihl ihr =>
      intro v
      have h1 : v.length ≤ (varsT y l v).length := by
        unfold varsT
        split
        · split
          · exact Nat.le_refl _
          · simp
        · exact ihl v
      exact Nat.le_trans h1 (ihr (varsT y l v))
  unfold varsT
  split
  · split
    · exact Nat.le_refl _
    · simp
  · exact key k v
theorem varsC_grow (c : Cl) (j : Nat) (v : List Int) : (varsC (c.take j) v).length ≤ (varsC c v).length := by
  have key : ∀ (c : Cl) (v : List Int), v.length ≤ (varsC c v).length := by
    intro c
    induction c with
    | nil => intro v; exact Nat.le_refl _
    | cons l c ih =>
      intro v
      have h1 := varsT_grow l.2.1.1 l.2.1.2 v
      have h2 := varsT_grow l.2.2.1 l.2.2.2 (varsT l.2.1.1 l.2.1.2 v)
      have h3 := ih (varsL l v)
      have e : varsC (l :: c) v = varsC c (varsL l v) := rfl
      rw [e]
      simp only [varsL] at h3 ⊢
      omega
  have e : varsC c v = varsC (c.drop j) (varsC (c.take j) v) := by
    have h : varsC (c.take j ++ c.drop j) v = varsC (c.drop j) (varsC (c.take j) v) := List.foldl_append
    rw [List.take_append_drop] at h
    exact h
  rw [e]
  exact key _ _
set_option maxRecDepth 100000 in
set_option maxHeartbeats 2000000 in
theorem varsCR_any (k : Cl) (a : Value) (w : World) (hS : CIn w k a) (hb : (varsC k []).length ≤ 1000000000000) :
    Calls Tryd.prog 31 #[a] w fun e w' => ∃ v, e = .returned v ∧ NIn w' (varsC k []) v ∧ Below w.heap.size w w' := by
  obtain ⟨a1, c1, b1, o1, rfl, had1, hlc1, hcm1, hF1⟩ := hS
  unfold maxLen at hcm1
  have HF1 := hide hF1
  clear hF1
  go_enter Tryd.func31, Tryd.ntmps31
  go_wp2_with fail
  go_loopw [3, 8] (fun v i wr => ∃ (j : Nat) (z1 : Option Addr) (n z3 : Nat), j ≤ k.length ∧ i = .int .i64 j ∧ v = .slice z1 n z3 ∧ NIn wr (varsC (k.take j) []) v ∧ Below w.heap.size w wr) (fun _ i _ => k.length - (intOf i).toNat)
  case atStart => exact ⟨0, none, 0, 0, Nat.zero_le _, rfl, rfl, nin_nil _, Below.refl _ _⟩
  case round =>
    obtain ⟨j, z1, n, z3, hj, rfl, rfl, hV, hBr⟩ := hrel
    have HV := hide hV
    clear hV
    by_cases hlt : j < k.length
    · have hlt' : (j : Int) < (k.length : Int) := by omega
      obtain ⟨⟨yn, ⟨⟨yv, yi⟩, yk⟩, ⟨yv', yi'⟩, yk'⟩, hy⟩ : ∃ y, k[j]? = some y := ⟨k[j]'hlt, by simp⟩
      obtain ⟨p0, p1, p2, ⟨u3, p3, hA⟩, p4, p5, u6, p6, hD⟩ := (HF1.out.below hBr).at hy
      have ha1 : a1 = some ⟨b1, o1, none⟩ := had1 (by omega)
      subst ha1
      have HA := hide hA
      have HD := hide hD
      obtain ⟨_, _, _, _, rfl, -, -, -, -⟩ := hA
      obtain ⟨_, _, _, _, rfl, -, -, -, -⟩ := hD
      have Hy := hide hy
      have Hln : Hid ((varsT (yv, yi) yk (varsC (k.take j) [])).length ≤ 1000000000000 ∧ (varsT (yv', yi') yk' (varsT (yv, yi) yk (varsC (k.take j) []))).length ≤ 1000000000000) := by
        have h1 := varsC_take (v := []) hy
        have h2 := varsC_grow k (j + 1) []
        have h3 := varsT_grow (yv', yi') yk' (varsT (yv, yi) yk (varsC (k.take j) []))
        rw [h1] at h2
        simp only [varsL] at h2
        exact ⟨by omega, by omega⟩
      clear hy had1
      simp only at *
      go_wp2_with fail
      refine (varsR_few (yv, yi) yk _ (varsC (k.take j) []) _ _ _ rfl (HA.out.alloc _) (HV.out.alloc _) (by have := Hln.out.1; omega)).mono ?_
      rintro e w2 ⟨v2, rfl, hV2, hb2⟩
      obtain ⟨-, -, -, -, e4, e5, e6, -, hb2', -⟩ := lit_cells hb2
      have hB2 := below_step hBr hb2'
      have HD2 := hide (HD.out.below hb2')
      have HV2 := hide hV2
      obtain ⟨y1, y3, rfl⟩ := nin_slice hV2
      have Hl2 := hide (varsT_len (yv, yi) yk (varsC (k.take j) []))
      clear hb2 hV2
      go_wp2_with fail
      refine (varsR_few (yv', yi') yk' _ (varsT (yv, yi) yk (varsC (k.take j) [])) _ _ _ rfl HD2.out HV2.out (by have := Hln.out.2; omega)).mono ?_
      rintro e w3 ⟨v3, rfl, hV3, hb3⟩
      have hB3 := below_step hB2 hb3
      have HV3 := hide hV3
      obtain ⟨x1, x3, rfl⟩ := nin_slice hV3
      clear hV3
      go_wp2_with fail
      go_roundw
      case rel => exact ⟨j + 1, x1, _, x3, by omega, by go_num, rfl, by rw [varsC_take Hy.out]; exact HV3.out, hB3⟩
      case measure => simp [intOf]; omega
    · have Hfin : Hid (NIn wr (varsC k []) (.slice z1 n z3)) := by
        have e : j = k.length := by omega
        have := HV.out
        rw [e, List.take_length] at this
        exact this
      clear had1
      go_wp2_with fail
      go_ret
      exact ⟨_, rfl, Hfin.out, hBr⟩
set_option maxRecDepth 100000 in
set_option maxHeartbeats 2000000 in
theorem varsCl_any (k : Cl) (a : Value) (w : World) (hS : CIn w k a) (hb : (varsC k []).length ≤ 1000000000000) :
    Calls Tryd.prog 47 #[a] w fun e w' => ∃ v, e = .returned v ∧ NIn w' (varsC k []) v ∧ Below w.heap.size w w' := by
  obtain ⟨a1, c1, b1, o1, rfl, had1, hlc1, hcm1, hF1⟩ := hS
  unfold maxLen at hcm1
  have HF1 := hide hF1
  clear hF1
  go_enter Tryd.func47, Tryd.ntmps47
  go_wp2_with fail
  go_loopw [3, 8] (fun v i wr => ∃ (j : Nat) (z1 : Option Addr) (n z3 : Nat), j ≤ k.length ∧ i = .int .i64 j ∧ v = .slice z1 n z3 ∧ NIn wr (varsC (k.take j) []) v ∧ Below w.heap.size w wr) (fun _ i _ => k.length - (intOf i).toNat)
  case atStart => exact ⟨0, none, 0, 0, Nat.zero_le _, rfl, rfl, nin_nil _, Below.refl _ _⟩
  case round =>
    obtain ⟨j, z1, n, z3, hj, rfl, rfl, hV, hBr⟩ := hrel
    have HV := hide hV
    clear hV
    by_cases hlt : j < k.length
    · have hlt' : (j : Int) < (k.length : Int) := by omega
      obtain ⟨⟨yn, ⟨⟨yv, yi⟩, yk⟩, ⟨yv', yi'⟩, yk'⟩, hy⟩ : ∃ y, k[j]? = some y := ⟨k[j]'hlt, by simp⟩
      obtain ⟨p0, p1, p2, ⟨u3, p3, hA⟩, p4, p5, u6, p6, hD⟩ := (HF1.out.below hBr).at hy
      have ha1 : a1 = some ⟨b1, o1, none⟩ := had1 (by omega)
      subst ha1
      have HA := hide hA
      have HD := hide hD
      obtain ⟨ya, yc, _, _, rfl, -, -, -, -⟩ := hA
      obtain ⟨za, zc, _, _, rfl, -, -, -, -⟩ := hD
      have Hy := hide hy
      have Hln : Hid ((varsT (yv, yi) yk (varsC (k.take j) [])).length ≤ 1000000000000 ∧ (varsT (yv', yi') yk' (varsT (yv, yi) yk (varsC (k.take j) []))).length ≤ 1000000000000) := by
        have h1 := varsC_take (v := []) hy
        have h2 := varsC_grow k (j + 1) []
        have h3 := varsT_grow (yv', yi') yk' (varsT (yv, yi) yk (varsC (k.take j) []))
        rw [h1] at h2
        simp only [varsL] at h2
        exact ⟨by omega, by omega⟩
      have Hl2 := hide (varsT_len (yv, yi) yk (varsC (k.take j) []))
      clear hy had1
      simp only at *
      go_upto_region 5 with fail
      generalize hwa : wr.alloc (.cells #[.bool yn, .bool yv, .int .i64 yi, .slice ya (Fo.len yk) yc, .bool yv', .int .i64 yi', .slice za (Fo.len yk') zc] 39) = wa
      obtain ⟨-, g1, g2, g3, g4, g5, g6, -, hba, -⟩ := lit_cells (T := 39) (x0 := .bool yn) (w := wr) (wr := wa) (x1 := .bool yv) (x2 := .int .i64 yi) (x3 := .slice ya (Fo.len yk) yc) (x4 := .bool yv') (x5 := .int .i64 yi') (x6 := .slice za (Fo.len yk') zc) (by rw [hwa]; exact Below.refl _ _)
      clear hwa
      have HAa := hide (HA.out.below hba)
      have HDa := hide (HD.out.below hba)
      have HVa := hide (HV.out.below hba)
      have hcur : Below wa.heap.size wa wa.drew := (Below.refl _ _).drew
      go_region_held3 (fun w' => w'.cell? ⟨wr.heap.size, 1, none⟩ = some (.bool yv) ∧ w'.cell? ⟨wr.heap.size, 2, none⟩ = some (.int .i64 yi) ∧ w'.cell? ⟨wr.heap.size, 3, none⟩ = some (.slice ya (Fo.len yk) yc) ∧ w'.cell? ⟨wr.heap.size, 4, none⟩ = some (.bool yv') ∧ w'.cell? ⟨wr.heap.size, 5, none⟩ = some (.int .i64 yi') ∧ w'.cell? ⟨wr.heap.size, 6, none⟩ = some (.slice za (Fo.len yk') zc))
          (first
            | (with_reducible exact ⟨grow_cell hcur _ _ g1, grow_cell hcur _ _ g2, grow_cell hcur _ _ g3, grow_cell hcur _ _ g4, grow_cell hcur _ _ g5, grow_cell hcur _ _ g6⟩)
            | go_keep)
          (first
            | (go_at_call 62; with_reducible refine (vars_few (yv, yi) yk (.slice ya (Fo.len yk) yc) (varsC (k.take j) []) (.slice z1 n z3) _ _ rfl (HAa.out.below hcur) (HVa.out.below hcur) (by have := Hln.out.1; omega)).mono ?_; rintro e wS ⟨vS, rfl, hoS, hbS⟩; replace hcur := below_step hcur hbS; have HoS := hide (nin_vals hoS); obtain ⟨y1, y3, rfl⟩ := nin_slice HoS.out; clear hoS)
            | (go_at_call 62; with_reducible refine (vars_few (yv', yi') yk' (.slice za (Fo.len yk') zc) (varsT (yv, yi) yk (varsC (k.take j) [])) _ _ _ rfl (HDa.out.below hcur) (HoS.out.below ?_) (by have := Hln.out.2; omega)).mono ?_; (first | exact Below.refl _ _ | exact (Below.refl _ _).drew); rintro e wU ⟨vU, rfl, hoU, hbU⟩; replace hcur := below_step hcur hbU; have HoU := hide (nin_vals hoU); obtain ⟨x1, x3, rfl⟩ := nin_slice HoU.out; clear hoU))
      all_goals
        have hB2 := below_step hBr (below_step hba hcur)
        go_wp2_with fail
        go_roundw
        case rel => exact ⟨j + 1, _, _, _, by omega, by go_num, rfl, by rw [varsC_take Hy.out]; exact HoU.out, hB2⟩
        case measure => simp [intOf]; omega
    · have Hfin : Hid (NIn wr (varsC k []) (.slice z1 n z3)) := by
        have e : j = k.length := by omega
        have := HV.out
        rw [e, List.take_length] at this
        exact this
      clear had1
      go_wp2_with fail
      go_ret
      exact ⟨_, rfl, Hfin.out, hBr⟩
end Go.Proofs.YtlgnpiphaeoeiadDoor

namespace Go.Proofs.YtlgnpiphaeoeiadDoor
open Go.RowKit Go.Deep Go.ChangeShapes Go.WideShapes
set_option maxRecDepth 100000 in
set_option maxHeartbeats 4000000 in
theorem norm_anyX (k : Cl) (a : Value) (w : World) (hS : CIn w k a) (hg : GX k) :
    Calls Tryd.prog 30 #[a] w fun e w' => ∃ v, e = .returned (.tuple #[v, .int .i64 (normC k).1]) ∧ CIn w' (normC k).2 v ∧ Below w.heap.size w w' := by
  have HS := hide hS
  obtain ⟨a1, a3, rfl⟩ := slice_of_cl hS
  clear hS
  have Hcs := hide (norm_casesX hg)
  have hk4 := hg.1
  have HG : Hid (∀ l ∈ k, Gd l.2.1 ∧ Gd l.2.2 ∧ tszR l.2.1.2 ≤ 4000000000000 ∧ tszR l.2.2.2 ≤ 4000000000000) := fun l hl => ⟨(hg.2 l hl).gl, (hg.2 l hl).gr, (hg.2 l hl).sl, (hg.2 l hl).sr⟩
  go_enter Tryd.func30, Tryd.ntmps30
  go_wp2_with fail
  refine (turn_any k _ _ HS.out HG.out (by omega)).mono ?_
  rintro e w1 ⟨v1, er, d, rfl, hC1, hcs, hb1⟩
  rcases hcs with ⟨rfl, rfl, ht⟩ | ⟨rfl, ht⟩
  · have Hn : Hid (normC k = (6, [])) := by
      rcases Hcs.out with ⟨_, h⟩ | ⟨d, h, _⟩
      · exact h
      · rw [ht] at h; cases h
    obtain ⟨z1, z3, rfl⟩ := slice_of_cl hC1
    clear hC1 ht
    go_wp2_with fail
    go_ret2
    exact ⟨.slice none 0 0, by rw [Hn.out]; rfl, by rw [Hn.out]; exact CIn.nil _, hb1⟩
  · have Hrest : Hid (GX d ∧ GX (reN d) ∧ ((distC (reN d) = none ∧ normC k = (6, [])) ∨ ∃ e, distC (reN d) = some e ∧ GX e ∧ normC k = keepC d e)) := by
      rcases Hcs.out with ⟨h, _⟩ | ⟨d', h, h2⟩
      · rw [ht] at h; cases h
      · rw [ht] at h; cases h; exact h2
    have HC1 := hide hC1
    obtain ⟨z1, z3, rfl⟩ := slice_of_cl hC1
    clear hC1 ht
    have hd4 := Hrest.out.1.1
    have hv5 := gx_vars Hrest.out.1.2
    go_wp2_with fail
    refine (varsCl_any d _ _ HC1.out (by omega)).mono ?_
    rintro e w2 ⟨vv, rfl, hN, hb2⟩
    have HN := hide hN
    obtain ⟨y1, y3, rfl⟩ := nin_slice hN
    have hB2 := below_step hb1 hb2
    clear hN
    go_wp2_with fail
    refine (number_any d _ (varsC d []) _ _ (HC1.out.below hb2) HN.out (fun l hl => ⟨(Hrest.out.1.2 l hl).gl.nar, (Hrest.out.1.2 l hl).gr.nar⟩) (by omega) (by omega)).mono ?_
    rintro e w3 ⟨g, rfl, hC3, hb3⟩
    have HC3 : Hid (CIn w3 (reN d) (.slice (some ⟨g, 0, none⟩) d.length d.length)) := hC3
    have hB3 := below_step hB2 hb3
    clear hC3 hb2 hb3
    go_wp2_with fail
    refine (distinct_any (reN d) _ _ HC3.out (by have := Hrest.out.2.1.1; omega)).mono ?_
    rintro e w4 ⟨v4, er, f, rfl, hC4, hcs, hb4⟩
    have hB4 := below_step hB3 hb4
    rcases hcs with ⟨rfl, rfl, ht⟩ | ⟨rfl, ht⟩
    · have Hn : Hid (normC k = (6, [])) := by
        rcases Hrest.out.2.2 with ⟨_, h⟩ | ⟨d, h, _⟩
        · exact h
        · rw [ht] at h; cases h
      obtain ⟨x1, x3, rfl⟩ := slice_of_cl hC4
      clear hC4 ht
      go_wp2_with fail
      go_ret2
      exact ⟨.slice none 0 0, by rw [Hn.out]; rfl, by rw [Hn.out]; exact CIn.nil _, hB4⟩
    · have Hn : Hid (GX f ∧ normC k = keepC d f) := by
        rcases Hrest.out.2.2 with ⟨h, _⟩ | ⟨d, h, h2⟩
        · rw [ht] at h; cases h
        · rw [ht] at h; cases h; exact h2
      have HC4 := hide hC4
      obtain ⟨x1, x3, rfl⟩ := slice_of_cl hC4
      clear hC4 ht hb4
      have Hkb := hide (fun h => keep_big (d := d) (e := f) h)
      have Hko := hide (fun h1 h2 h3 => keep_ok (d := d) (e := f) h1 h2 h3)
      generalize hvl : (varsC d []).length = vl at *
      clear hvl
      by_cases c4 : 4 < f.length
      · have c4' : (4 : Int) < (f.length : Int) := by omega
        have Hk := hide (Hkb.out (.inl (.inl c4)))
        go_wp2_with fail
        go_ret2
        exact ⟨.slice none 0 0, by rw [Hn.out.2, Hk.out]; rfl, by rw [Hn.out.2, Hk.out]; exact CIn.nil _, hB4⟩
      have c4' : ¬ (4 : Int) < (f.length : Int) := by omega
      by_cases c5 : 5 < vl
      · have c5' : (5 : Int) < (vl : Int) := by omega
        have Hk := hide (Hkb.out (.inl (.inr c5)))
        go_wp2_with fail
        go_ret2
        exact ⟨.slice none 0 0, by rw [Hn.out.2, Hk.out]; rfl, by rw [Hn.out.2, Hk.out]; exact CIn.nil _, hB4⟩
      have c5' : ¬ (5 : Int) < (vl : Int) := by omega
      have hf4' : (f.length : Int) ≤ 4 := by omega
      have hv5' : (vl : Int) ≤ 5 := by omega
      go_wp2_with fail
      refine (containsG_any f _ _ HC4.out (fun p hp => ⟨(Hn.out.1.2 p hp).okl, (Hn.out.1.2 p hp).sl, (Hn.out.1.2 p hp).sr⟩)).mono ?_
      rintro e w5 ⟨rfl, hb5⟩
      have hB5 := below_step hB4 hb5
      have HC5 := hide (HC4.out.below hb5)
      clear hb5
      cases hbg : f.any bigL
      · have Hk := hide (Hko.out c4 c5 hbg)
        clear hbg
        go_wp2_with fail
        go_ret2
        exact ⟨.slice x1 f.length x3, by rw [Hn.out.2, Hk.out]; rfl, by rw [Hn.out.2, Hk.out]; exact HC5.out, hB5⟩
      · have Hk := hide (Hkb.out (.inr hbg))
        clear hbg
        go_wp2_with fail
        go_ret2
        exact ⟨.slice none 0 0, by rw [Hn.out.2, Hk.out]; rfl, by rw [Hn.out.2, Hk.out]; exact CIn.nil _, hB5⟩
end Go.Proofs.YtlgnpiphaeoeiadDoor

namespace Go.Proofs.YtlgnpiphaeoeiadDoor
open Go.RowKit Go.Deep Go.ChangeShapes Go.WideShapes
def turnL (yes : Bool) (l : Lt) : Lt := if yes then (l.1, l.2.2, l.2.1) else l
end Go.Proofs.YtlgnpiphaeoeiadDoor
