/- CTn D6c P6a D6d RSl DEach -/
import Derived.Test.YtaliegkkdhkfcacGreatDoorG12
import Derived.BigQuiet
import Derived.Lib.AppendZeros
import Derived.Deep.RegionHeld3
namespace Go.Proofs.YtaliegkkdhkfcacGreatDoor
open Go.RowKit Go.Deep Go.ChangeShapes Go.WideShapes

theorem cs_lit {w : World} {l : Lt} {a1 d1 : Option Addr} {a2 a3 d2 d3 : Nat} : Cs (w.alloc (.cells #[.bool l.1, .bool l.2.1.1.1, .int .i64 l.2.1.1.2, .slice a1 a2 a3, .bool l.2.2.1.1, .int .i64 l.2.2.1.2, .slice d1 d2 d3] 57)) (.slice (some ⟨w.heap.size, 0, none⟩) 1 1) 1 7 (litV l (.slice a1 a2 a3) (.slice d1 d2 d3)) :=
  ⟨_, 1, rfl, rfl, by simp [Value.oneCell'], fun e => by (cases e), fun ad hh j u hj => by cases hh; exact World.news_of_block (cs := #[.bool l.1, .bool l.2.1.1.1, .int .i64 l.2.1.1.2, .slice a1 a2 a3, .bool l.2.2.1.1, .int .i64 l.2.2.1.2, .slice d1 d2 d3]) (heap_alloc_new w _) j u hj⟩
/-- One literal more, whichever way append took. -/
theorem ownL_more {lo : Nat} {wr w3 w4 : World} {s : Cl} {v v4 : Value} {xs : List Value} {l : Lt} {a d : Value} (h : OwnL lo (XO wr v) wr s v xs) (hb : Below wr.heap.size wr w3) (hlo : lo ≤ wr.heap.size)
    (hA : SB (fun q => q < lo) w3 l.2.1.2 a) (hD : SB (fun q => q < lo) w3 l.2.2.2 d)
    (ho : w4.ownsRow lo 57 7 v4 (s.length + 1) (xs ++ litV l a d)) (hg : w3.grownBy w4 v.ownBlock) (hat : v4.ownBlock = v.ownBlock ∨ v4.ownBlock = some w3.heap.size) :
    OwnL lo (XO w4 v4) w4 (s ++ [l]) v4 (xs ++ litV l a d) ∧ Below lo wr w4 := by
  have hs := hb.size
  have hs4 := hg.size
  have hv : ∀ q, v.ownBlock = some q → lo ≤ q ∧ q < wr.heap.size := fun q hq => owns_at h.row q hq
  have noq : ∀ q, q < w3.heap.size → some q ≠ v.ownBlock → q < w4.heap.size ∧ some q ≠ v4.ownBlock := fun q hq hn => by
    refine ⟨by omega, fun e => ?_⟩
    rcases hat with e' | e'
    · exact hn (e.trans e')
    · rw [e'] at e; simp at e; omega
  have ok : ∀ q, q < lo → q < w3.heap.size ∧ some q ≠ v.ownBlock := fun q hq => by
    refine ⟨by omega, fun e => ?_⟩
    have := hv q e.symm
    omega
  refine ⟨⟨by simpa using ho, ?_, fun q hq => hq⟩, ⟨hg.os.trans hb.os, hg.tape.trans hb.tape, hg.output.trans hb.output, by omega, fun q hq => ?_⟩⟩
  · refine LC.append (LC.one ?_ ?_) ?_
    · exact hA.frame (fun q hq => noq q (ok q hq).1 (ok q hq).2) (fun q i hq => World.cell?_of_block (hg.block q (ok q hq).1 (ok q hq).2))
    · exact hD.frame (fun q hq => noq q (ok q hq).1 (ok q hq).2) (fun q i hq => World.cell?_of_block (hg.block q (ok q hq).1 (ok q hq).2))
    · refine h.cells.frame (fun q hq => noq q (by have := hq.1; omega) hq.2) (fun q i hq => World.cell?_of_block ?_)
      rw [hg.block q (by have := hq.1; omega) hq.2, hb.block q hq.1]
  · have hn : some q ≠ v.ownBlock := fun e => by have := hv q e.symm; omega
    rw [hg.block q (by omega) hn, hb.block q (by omega)]

theorem cmp_cases (a b : Tm) : cmpT a b = 0 ∨ cmpT a b = 1 ∨ cmpT a b = 2 ∨ cmpT a b = 3 := by
  unfold cmpT
  split
  · simp
  · split
    · simp
    · split <;> simp
theorem cmp_same {a b : Tm} : cmpT a b = 2 ↔ sameT a.1 a.2 b.1 b.2 = true := by
  unfold cmpT
  by_cases h : sameT a.1 a.2 b.1 b.2 = true
  · simp [h]
  · rw [if_neg h]
    constructor
    · intro e
      split at e
      · omega
      · split at e <;> omega
    · exact fun e => absurd e h
theorem cmp_less {a b : Tm} (h : cmpT a b = 1) : abvT b a = true := by
  unfold cmpT at h
  split at h
  · omega
  · split at h
    · omega
    · split at h
      · assumption
      · omega
theorem cmp_else {a b : Tm} (ha : okT a) (hb : okT b) (h : cmpT a b = 0 ∨ cmpT a b = 3) : abvT b a = false := by
  unfold cmpT at h
  split at h
  · omega
  · split at h
    · rename_i h2
      cases e : abvT b a with
      | false => rfl
      | true => exact absurd e (abv_asym ha hb h2)
    · split at h
      · omega
      · rename_i h3; simpa using h3

set_option maxRecDepth 100000 in
set_option maxHeartbeats 4000000 in
theorem turn_any (k : Cl) (a : Value) (w : World) (hS : CIn w k a) (hg : ∀ l ∈ k, Gd l.2.1 ∧ Gd l.2.2 ∧ tszR l.2.1.2 ≤ 4000000000000 ∧ tszR l.2.2.2 ≤ 4000000000000) (hlen : k.length ≤ 1000000) :
    Calls Tryz.prog 71 #[a] w fun e w' => ∃ v er d, e = .returned (.tuple #[v, .int .i64 er]) ∧ CIn w' d v ∧ ((er = 6 ∧ d = [] ∧ turnC k = none) ∨ (er = 0 ∧ turnC k = some d)) ∧ Below w.heap.size w w' := by
  obtain ⟨a1, c1, b1, oo, rfl, had1, hlc1, hcm1, hF1⟩ := hS
  unfold maxLen at hcm1
  have HF1 := hide hF1
  have HG := hide hg
  clear hF1 hg
  obtain ⟨iL, hi, hz0, hz1, hz2⟩ := info_parts Tryz.info57
  go_enter Tryz.func71, Tryz.ntmps71
  go_wp2_with fail
  go_loopw [4, 9] (fun v i wr => ∃ (j : Nat) (out : Cl) (o1 : Option Addr) (o3 : Nat) (xs : List Value), j ≤ k.length ∧ i = .int .i64 j ∧ v = .slice o1 out.length o3 ∧ out.length ≤ j ∧ turnC (k.take j) = some out ∧ OwnL w.heap.size (XO wr v) wr out v xs ∧ Below w.heap.size w wr) (fun _ i _ => k.length - (intOf i).toNat)
  case atStart => exact ⟨0, [], none, 0, [], Nat.zero_le _, rfl, rfl, Nat.le_refl _, rfl, ownL_nil _ _, Below.refl _ _⟩
  case round =>
    obtain ⟨j, out, o1, o3, xs, hj, rfl, rfl, hol, hT, hO, hBr⟩ := hrel
    have HT := hide hT
    have HO := hide hO
    clear hT hO
    have hsr := hBr.size
    by_cases hlt : j < k.length
    · have hlt' : (j : Int) < (k.length : Int) := by omega
      obtain ⟨⟨yn, ⟨⟨yv, yi⟩, yk⟩, ⟨yv', yi'⟩, yk'⟩, hy⟩ : ∃ y, k[j]? = some y := ⟨k[j]'hlt, by simp⟩
      obtain ⟨-, -, -, ⟨u3', p3', hA0⟩, -, -, u6', p6', hD0⟩ := HF1.out.at hy
      obtain ⟨p0, p1, p2, ⟨u3, p3, hA⟩, p4, p5, u6, p6, hD⟩ := (HF1.out.below hBr).at hy
      have e3 : u3' = u3 := by have := grow_cell hBr _ _ p3'; rw [p3] at this; exact (Option.some.inj this).symm
      have e6 : u6' = u6 := by have := grow_cell hBr _ _ p6'; rw [p6] at this; exact (Option.some.inj this).symm
      subst e3 e6
      have ha1 : a1 = some ⟨b1, oo, none⟩ := had1 (by omega)
      subst ha1
      have HA := hide hA
      have HD := hide hD
      have HA0 := hide hA0.toB
      have HD0 := hide hD0.toB
      obtain ⟨ya, yc, _, _, rfl, -, -, -, -⟩ := hA
      obtain ⟨za, zc, _, _, rfl, -, -, -, -⟩ := hD
      have Hgy := hide (HG.out _ (List.mem_of_getElem? hy))
      have Hy := hide hy
      have Hstep : Hid (turnC (k.take (j + 1)) = tstep (some out) (yn, ((yv, yi), yk), ((yv', yi'), yk'))) := by rw [Hid, turn_take hy, HT.out]
      have hn1 : out.length + 1 ≤ maxLen := by unfold maxLen; omega
      have hn2 : (out.length + 1) * 88 ≤ 140737488355328 := by omega
      clear hy had1 p3' p6' hA0 hD0
      simp only at *
      go_wp2_with fail
      refine (compare_any (yv, yi) yk (yv', yi') yk' _ _ _ Hgy.out.1 Hgy.out.2.1 (HA.out.alloc _) (HD.out.alloc _) Hgy.out.2.2.1 Hgy.out.2.2.2).mono ?_
      rintro e w2 ⟨rfl, hb2⟩
      obtain ⟨g0, g1, g2, g3, g4, g5, g6, gf, hb2', hlt2⟩ := lit_cells hb2
      have hB2 := below_step hBr hb2'
      clear hb2 p0 p1 p2 p3 p4 p5 p6
      rcases cmp_cases ((yv, yi), yk) ((yv', yi'), yk') with hc | hc | hc | hc
      · have Hfl : Hid (flipL (yn, ((yv, yi), yk), ((yv', yi'), yk')) = (yn, ((yv, yi), yk), ((yv', yi'), yk'))) := by
          show flipL _ = _
          unfold flipL
          rw [if_neg (by rw [cmp_else Hgy.out.1.ok Hgy.out.2.1.ok (by omega)]; simp)]
        have Hst : Hid (turnC (k.take (j + 1)) = some (out ++ [(yn, ((yv, yi), yk), ((yv', yi'), yk'))])) := by
          show turnC _ = _
          have hns : ¬ sameT (yv, yi) yk (yv', yi') yk' = true := fun h => by have := (cmp_same (a := ((yv, yi), yk)) (b := ((yv', yi'), yk'))).2 h; rw [hc] at this; omega
          rw [Hstep.out, tstep, Option.bind_some, if_neg hns, Hfl.out]
        rw [hc]
        clear hc
        have hb5 : ∀ ob, Below wr.heap.size wr (w2.alloc ob) := fun ob => below_step hb2' (below_alloc _ _)
        go_wp2_with (at_builtin; refine wpList_append_gen rfl (.tmp 31) (.tmp 33) 25 rfl w.heap.size 57 iL (.agg #[.bool false, .bool false, .int .i64 0, .slice none 0 0, .bool false, .int .i64 0, .slice none 0 0]) 7 88 Tryz.underlying25 hi hz0 hz1 hz2 rfl (by decide) (.slice o1 out.length o3) out.length xs rfl (OwnL.below HO.out (hb5 _)).row _ 1 (litV (yn, ((yv, yi), yk), ((yv', yi'), yk')) (.slice ya (Fo.len yk) yc) (.slice za (Fo.len yk') zc)) rfl cs_lit hn1 hn2 (Nat.le_trans hsr (hb5 _).size) ?_; intro v4 w4 ho4 hg4 hat4)
        obtain ⟨hO4, hB4⟩ := ownL_more (l := (yn, ((yv, yi), yk), ((yv', yi'), yk'))) HO.out (hb5 _) hsr (HA0.out.kept (fun q hq => (below_step hBr (hb5 _)).block q hq)) (HD0.out.kept (fun q hq => (below_step hBr (hb5 _)).block q hq)) ho4 hg4 hat4
        obtain ⟨r1, r3, rfl⟩ := slice_of_cl hO4.cl
        have HO4 := hide hO4
        have hBB := hBr.trans hB4
        clear hO4 ho4 hg4 hat4
        go_wp2_with fail
        go_roundw
        case rel => exact ⟨j + 1, _, r1, r3, _, by omega, by go_num, rfl, by simp; omega, Hst.out, HO4.out, hBB⟩
        case measure => simp [intOf]; omega
      · have Hfl : Hid (flipL (yn, ((yv, yi), yk), ((yv', yi'), yk')) = (yn, ((yv', yi'), yk'), ((yv, yi), yk))) := by
          show flipL _ = _
          unfold flipL
          rw [if_pos (cmp_less hc)]
        have Hst : Hid (turnC (k.take (j + 1)) = some (out ++ [(yn, ((yv', yi'), yk'), ((yv, yi), yk))])) := by
          show turnC _ = _
          have hns : ¬ sameT (yv, yi) yk (yv', yi') yk' = true := fun h => by have := (cmp_same (a := ((yv, yi), yk)) (b := ((yv', yi'), yk'))).2 h; rw [hc] at this; omega
          rw [Hstep.out, tstep, Option.bind_some, if_neg hns, Hfl.out]
        rw [hc]
        clear hc
        go_upto_region 11 with fail
        generalize hw3 : ((((((w2.setCell ⟨wr.heap.size, 1, none⟩ (.bool yv')).setCell ⟨wr.heap.size, 2, none⟩ (.int .i64 yi')).setCell ⟨wr.heap.size, 3, none⟩ (.slice za (Fo.len yk') zc)).setCell ⟨wr.heap.size, 4, none⟩ (.bool yv)).setCell ⟨wr.heap.size, 5, none⟩ (.int .i64 yi)).setCell ⟨wr.heap.size, 6, none⟩ (.slice ya (Fo.len yk) yc)) = w3
        have e3 : w3 = setL w2 wr.heap.size 1 [.bool yv', .int .i64 yi', .slice za (Fo.len yk') zc, .bool yv, .int .i64 yi, .slice ya (Fo.len yk) yc] := hw3.symm
        have hb3 : Below wr.heap.size wr w3 := by rw [e3]; exact setL_below (Nat.le_refl _) hb2'
        have at6 := setL_at (b := wr.heap.size) (xs := [.bool yv', .int .i64 yi', .slice za (Fo.len yk') zc, .bool yv, .int .i64 yi, .slice ya (Fo.len yk) yc]) (o := 1) (w := w2) (fun i hi => by
          simp at hi
          rcases i with _ | _ | _ | _ | _ | _ | i
          · exact ⟨_, g1⟩
          · exact ⟨_, g2⟩
          · exact ⟨_, g3⟩
          · exact ⟨_, g4⟩
          · exact ⟨_, g5⟩
          · exact ⟨_, g6⟩
          · omega)
        have k0 : w3.cell? ⟨wr.heap.size, 0, none⟩ = some (.bool yn) := by rw [e3, setL_other (.inr (.inl (by omega)))]; exact g0
        have k1 : w3.cell? ⟨wr.heap.size, 1, none⟩ = some (.bool yv') := by rw [e3]; exact at6 0 _ rfl
        have k2 : w3.cell? ⟨wr.heap.size, 2, none⟩ = some (.int .i64 yi') := by rw [e3]; exact at6 1 _ rfl
        have k3 : w3.cell? ⟨wr.heap.size, 3, none⟩ = some (.slice za (Fo.len yk') zc) := by rw [e3]; exact at6 2 _ rfl
        have k4 : w3.cell? ⟨wr.heap.size, 4, none⟩ = some (.bool yv) := by rw [e3]; exact at6 3 _ rfl
        have k5 : w3.cell? ⟨wr.heap.size, 5, none⟩ = some (.int .i64 yi) := by rw [e3]; exact at6 4 _ rfl
        have k6 : w3.cell? ⟨wr.heap.size, 6, none⟩ = some (.slice ya (Fo.len yk) yc) := by rw [e3]; exact at6 5 _ rfl
        clear at6 e3 hw3 g0 g1 g2 g3 g4 g5 g6 gf
        have hb5 : ∀ ob, Below wr.heap.size wr (w3.alloc ob) := fun ob => below_step hb3 (below_alloc _ _)
        go_wp2_with (at_builtin; refine wpList_append_gen rfl (.tmp 31) (.tmp 33) 25 rfl w.heap.size 57 iL (.agg #[.bool false, .bool false, .int .i64 0, .slice none 0 0, .bool false, .int .i64 0, .slice none 0 0]) 7 88 Tryz.underlying25 hi hz0 hz1 hz2 rfl (by decide) (.slice o1 out.length o3) out.length xs rfl (OwnL.below HO.out (hb5 _)).row _ 1 (litV (yn, ((yv', yi'), yk'), ((yv, yi), yk)) (.slice za (Fo.len yk') zc) (.slice ya (Fo.len yk) yc)) rfl cs_lit hn1 hn2 (Nat.le_trans hsr (hb5 _).size) ?_; intro v4 w4 ho4 hg4 hat4)
        obtain ⟨hO4, hB4⟩ := ownL_more (l := (yn, ((yv', yi'), yk'), ((yv, yi), yk))) HO.out (hb5 _) hsr (HD0.out.kept (fun q hq => (below_step hBr (hb5 _)).block q hq)) (HA0.out.kept (fun q hq => (below_step hBr (hb5 _)).block q hq)) ho4 hg4 hat4
        obtain ⟨r1, r3, rfl⟩ := slice_of_cl hO4.cl
        have HO4 := hide hO4
        have hBB := hBr.trans hB4
        clear hO4 ho4 hg4 hat4
        go_wp2_with fail
        go_roundw
        case rel => exact ⟨j + 1, _, r1, r3, _, by omega, by go_num, rfl, by simp; omega, Hst.out, HO4.out, hBB⟩
        case measure => simp [intOf]; omega
      · have hss : sameT (yv, yi) yk (yv', yi') yk' = true := cmp_same.1 hc
        rw [hc]
        clear hc
        cases yn
        · have Hst : Hid (turnC k = none) := by
            refine turn_stop (j := j + 1) ?_
            rw [Hstep.out]
            simp [tstep, hss]
          clear hss
          go_wp2_with fail
          go_ret2
          exact ⟨_, _, [], rfl, CIn.nil _, .inl ⟨rfl, rfl, Hst.out⟩, hB2⟩
        · have Hst : Hid (turnC (k.take (j + 1)) = some out) := by
            show turnC _ = _
            rw [Hstep.out]
            simp [tstep, hss]
          clear hss
          have HO2 : Hid (OwnL w.heap.size (XO w2 (.slice o1 out.length o3)) w2 out (.slice o1 out.length o3) xs) := (HO.out.below hb2').wide (fun q hq => ⟨by have := hq.1; have := hb2'.size; omega, hq.2⟩) (fun _ h => h)
          go_wp2_with fail
          go_roundw
          case rel => exact ⟨j + 1, _, o1, o3, _, by omega, by go_num, rfl, by omega, Hst.out, HO2.out, hB2⟩
          case measure => simp [intOf]; omega
      · have Hfl : Hid (flipL (yn, ((yv, yi), yk), ((yv', yi'), yk')) = (yn, ((yv, yi), yk), ((yv', yi'), yk'))) := by
          show flipL _ = _
          unfold flipL
          rw [if_neg (by rw [cmp_else Hgy.out.1.ok Hgy.out.2.1.ok (by omega)]; simp)]
        have Hst : Hid (turnC (k.take (j + 1)) = some (out ++ [(yn, ((yv, yi), yk), ((yv', yi'), yk'))])) := by
          show turnC _ = _
          have hns : ¬ sameT (yv, yi) yk (yv', yi') yk' = true := fun h => by have := (cmp_same (a := ((yv, yi), yk)) (b := ((yv', yi'), yk'))).2 h; rw [hc] at this; omega
          rw [Hstep.out, tstep, Option.bind_some, if_neg hns, Hfl.out]
        rw [hc]
        clear hc
        have hb5 : ∀ ob, Below wr.heap.size wr (w2.alloc ob) := fun ob => below_step hb2' (below_alloc _ _)
        go_wp2_with (at_builtin; refine wpList_append_gen rfl (.tmp 31) (.tmp 33) 25 rfl w.heap.size 57 iL (.agg #[.bool false, .bool false, .int .i64 0, .slice none 0 0, .bool false, .int .i64 0, .slice none 0 0]) 7 88 Tryz.underlying25 hi hz0 hz1 hz2 rfl (by decide) (.slice o1 out.length o3) out.length xs rfl (OwnL.below HO.out (hb5 _)).row _ 1 (litV (yn, ((yv, yi), yk), ((yv', yi'), yk')) (.slice ya (Fo.len yk) yc) (.slice za (Fo.len yk') zc)) rfl cs_lit hn1 hn2 (Nat.le_trans hsr (hb5 _).size) ?_; intro v4 w4 ho4 hg4 hat4)
        obtain ⟨hO4, hB4⟩ := ownL_more (l := (yn, ((yv, yi), yk), ((yv', yi'), yk'))) HO.out (hb5 _) hsr (HA0.out.kept (fun q hq => (below_step hBr (hb5 _)).block q hq)) (HD0.out.kept (fun q hq => (below_step hBr (hb5 _)).block q hq)) ho4 hg4 hat4
        obtain ⟨r1, r3, rfl⟩ := slice_of_cl hO4.cl
        have HO4 := hide hO4
        have hBB := hBr.trans hB4
        clear hO4 ho4 hg4 hat4
        go_wp2_with fail
        go_roundw
        case rel => exact ⟨j + 1, _, r1, r3, _, by omega, by go_num, rfl, by simp; omega, Hst.out, HO4.out, hBB⟩
        case measure => simp [intOf]; omega
    · have hje : j = k.length := by omega
      have Hfin : Hid (turnC k = some out) := by
        have := HT.out
        rw [hje, List.take_length] at this
        exact this
      clear had1
      go_wp2_with fail
      go_ret2
      exact ⟨_, _, out, rfl, HO.out.cl, .inr ⟨rfl, Hfin.out⟩, hBr⟩

end Go.Proofs.YtaliegkkdhkfcacGreatDoor

namespace Go.Proofs.YtaliegkkdhkfcacGreatDoor
open Go.RowKit Go.Deep Go.ChangeShapes Go.WideShapes

def butC (c : Cl) (i : Nat) : Cl := c.take i ++ c.drop (i + 1)
theorem lits_ahead {n j c b o : Nat} (hj : j ≤ n) (hc : n ≤ c) (w : World) : (Instr.slice 25 (.slice (some ⟨b, o, none⟩) n c) none (some (.int .i64 (j : Int))) none).run Tryz.prog w = .ok (.slice (some ⟨b, o, none⟩) j c) w := by
  rw [run_slice_h (ht := by kernel_rfl) (h0 := by omega) (h2 := by omega)]
  have e : (sizeOf (Tryz.prog.elem 25)).run Tryz.prog w = .ok 7 w := by
    rw [show Tryz.prog.elem 25 = 57 by kernel_rfl]
    simp [go_sem]
  simp only [Result.andThen, sliced, e]
  simp [Addr.add]
theorem lits_behind {n j c b o : Nat} (hj : j ≤ n) (hc : n ≤ c) : ∃ ad : Addr, (∀ w : World, (Instr.slice 25 (.slice (some ⟨b, o, none⟩) n c) (some (.int .i64 (j : Int))) none none).run Tryz.prog w = .ok (.slice (some ad) (n - j) (c - j)) w) ∧ (j < n → ad = ⟨b, o + j * 7, none⟩) := by
  refine ⟨if c = j then ⟨b, o, none⟩ else ⟨b, o + j * 7, none⟩, fun w => ?_, fun h => by rw [if_neg (by omega)]⟩
  rw [run_slice_l (ht := by kernel_rfl) (h0 := by omega) (h1 := by omega)]
  have e : (sizeOf (Tryz.prog.elem 25)).run Tryz.prog w = .ok 7 w := by
    rw [show Tryz.prog.elem 25 = 57 by kernel_rfl]
    simp [go_sem]
  simp only [Result.andThen, sliced, e, Int.toNat_natCast]
  by_cases h : c = j
  · simp [h]
  · simp [h, Addr.add]
theorem lin_take {w : World} : ∀ {c : Cl} {b o : Nat} (i : Nat), LIn w c b o → LIn w (c.take i) b o
  | [], _, _, i, h => by simpa using h
  | _ :: _, _, _, 0, _ => trivial
  | _ :: _, _, _, i + 1, h => ⟨h.1, lin_take i h.2⟩
theorem lin_drop {w : World} : ∀ {c : Cl} {b o : Nat} (i : Nat), LIn w c b o → LIn w (c.drop i) b (o + i * 7)
  | [], _, _, i, h => by simp [LIn]
  | _ :: _, _, _, 0, h => by simpa using h
  | _ :: c, b, o, i + 1, h => by
    have := lin_drop i h.2
    rw [show o + 7 + i * 7 = o + (i + 1) * 7 by omega] at this
    simpa using this
/-- The cells of a clause that is there, to be laid behind others. -/
theorem cl_cs {w : World} {c : Cl} {a1 : Option Addr} {c3 : Nat} (h : CIn w c (.slice a1 c.length c3)) : ∃ news, LC (fun q => q < w.heap.size) w c news ∧ ∀ w', Below w.heap.size w w' → Cs w' (.slice a1 c.length c3) c.length 7 news := by
  obtain ⟨q1, q3, qb, qo, hqe, hqa, hql, hqm, hqF⟩ := h
  simp only [Value.slice.injEq, true_and] at hqe
  obtain ⟨rfl, rfl⟩ := hqe
  obtain ⟨news, hl, hP, hc⟩ := lin_cells hqF
  refine ⟨news, hP, fun w' hb => ⟨_, _, rfl, hl, hP.onecell, fun e => ?_, fun ad e j u hj => ?_⟩⟩
  · by_cases h0 : 0 < c.length
    · rw [hqa h0] at e; cases e
    · omega
  · have hlt : j < news.length := (List.getElem?_eq_some_iff.1 hj).1
    have h1 := hqa (by omega)
    rw [e] at h1
    cases h1
    rw [add_plain]
    exact grow_cell hb _ _ (hc j u hj)

end Go.Proofs.YtaliegkkdhkfcacGreatDoor

namespace Go.Proofs.YtaliegkkdhkfcacGreatDoor
open Go.RowKit Go.Deep Go.ChangeShapes Go.WideShapes

abbrev zeroLit : Value := .agg #[.bool false, .bool false, .int .i64 0, .slice none 0 0, .bool false, .int .i64 0, .slice none 0 0]
theorem nil_ahead (w : World) : (Instr.slice 25 (.slice none 0 0) none (some (.int .i64 0)) none).run Tryz.prog w = .ok (.slice none 0 0) w := by
  have e : (sizeOf (Tryz.prog.elem 25)).run Tryz.prog w = .ok 7 w := by
    rw [show Tryz.prog.elem 25 = 57 by kernel_rfl]
    simp [go_sem]
  rw [show (Value.int .i64 0) = .int .i64 ((0 : Nat) : Int) from rfl, run_slice_h (ht := by kernel_rfl) (h0 := by omega) (h2 := by omega)]
  simp only [Result.andThen, sliced, e]
  simp

set_option maxRecDepth 100000 in
set_option maxHeartbeats 1000000 in
theorem growC_any (n : Nat) (w : World) (hn : n ≤ 1000000) :
    Calls Tryz.prog 81 #[.slice none 0 0, .int .i64 n] w fun e w' => ∃ v, e = .returned v ∧ w'.ownsRow w.heap.size 57 7 v 0 [] ∧ Below w.heap.size w w' := by
  have hn0 : (0 : Int) ≤ (n : Int) := by omega
  have hneg : decide ((n : Int) < 0) = false := by simp
  have hwr : IntKind.i64.wrap ((n : Int)) = (n : Int) := by rw [IntKind.wrap_i64]; omega
  by_cases h0 : n = 0
  · subst h0
    go_enter Tryz.func81, Tryz.ntmps81
    go_wp2_with fail
    go_ret
    exact ⟨_, rfl, World.ownsRow_nil _ _ _ _, Below.refl _ _⟩
  · have hpos : (0 : Int) < (n : Int) := by omega
    obtain ⟨iL, hi, hz0, hz1, hz2⟩ := info_parts Tryz.info57
    have hrun := Lib.run_append_nil_zeros (P := Tryz.prog) w 25 3 25 57 iL zeroLit .i64 .i64 Tryz.underlying25 Tryz.underlying3 hi hz0 n (by omega) (by rw [hz1]; omega) (by omega) (by rw [hz2]; omega)
    have hg1 := grownCap_ge w n 0 57
    have hg2 := grownCap_le_maxLen w n 0 57 (by unfold maxLen; omega)
    generalize grownCap w n 0 57 = k at *
    have Hrun := hide hrun
    have Hrow : Hid ((w.drew.alloc (.cells (Builtin.zeroCells (Value.cells zeroLit) n ++ Builtin.zeroCells (Value.cells zeroLit) (k - n)) 57)).ownsRow w.heap.size 57 7 (.slice (some ⟨w.heap.size, 0, none⟩) 0 k) 0 []) :=
      ⟨by simp, .inr ⟨w.heap.size, k, _, rfl, Nat.le_refl _, heap_alloc_new w.drew _, Nat.zero_le _, hg2, by simp [Builtin.zeroCells, Value.cells]; omega, by simp⟩⟩
    have Hb : Hid (Below w.heap.size w (w.drew.alloc (.cells (Builtin.zeroCells (Value.cells zeroLit) n ++ Builtin.zeroCells (Value.cells zeroLit) (k - n)) 57))) := (Below.refl _ _).drew.alloc (Nat.le_refl _) _
    have hs1 := nil_ahead
    have hs2 : ∀ w' : World, (Instr.slice 25 (.slice (some ⟨w.heap.size, 0, none⟩) n k) none (some (.int .i64 0)) none).run Tryz.prog w' = .ok (.slice (some ⟨w.heap.size, 0, none⟩) 0 k) w' := fun w' => lits_ahead (j := 0) (Nat.zero_le _) hg1 w'
    generalize w.drew.alloc (.cells (Builtin.zeroCells (Value.cells zeroLit) n ++ Builtin.zeroCells (Value.cells zeroLit) (k - n)) 57) = W at *
    clear hrun hg2
    go_enter Tryz.func81, Tryz.ntmps81
    go_wp2_with (at_builtin; refine Lib.wpList_append_run _ rfl (.tmp 20) (.tmp 21) 25 3 rfl _ _ rfl rfl _ _ Hrun.out ?_)
    go_ret
    exact ⟨_, rfl, Hrow.out, Hb.out⟩

/-- A row that holds what was laid behind it in turn. -/
theorem own_two {c d : Cl} {w w' : World} {v : Value} {n1 n2 : List Value} (h1 : LC (fun q => q < w.heap.size) w c n1) (h2 : LC (fun q => q < w.heap.size) w d n2) (hr : w'.ownsRow w.heap.size 57 7 v (c.length + d.length) (n1 ++ n2)) (hb : Below w.heap.size w w') :
    OwnL w.heap.size (fun q => q < w.heap.size) w' (c ++ d) v (n1 ++ n2) := by
  refine ⟨by rw [List.length_append]; exact hr, LC.append (h2.frame (fun _ h => h) (fun q j hq => hb.cell (p := ⟨q, j, none⟩) hq)) (h1.frame (fun _ h => h) (fun q j hq => hb.cell (p := ⟨q, j, none⟩) hq)), fun q hq => ⟨by have := hb.size; omega, fun e => ?_⟩⟩
  have := (owns_at hr q e.symm).1
  omega

/-- How much of both is there behind so many. -/
def byN {X : Type} (a b c : X) : Nat → X
  | 0 => a
  | 1 => b
  | _ => c

set_option maxRecDepth 100000 in
set_option maxHeartbeats 2000000 in
theorem concat_any (c d : Cl) (cv dv : Value) (b o cap : Nat) (w : World) (hC : CIn w c cv) (hD : CIn w d dv) (h0 : w.cell? ⟨b, o, none⟩ = some cv) (h1 : w.cell? ⟨b, o + 1, none⟩ = some dv) (hl : c.length + d.length ≤ 1000000) :
    Calls Tryz.prog 50 #[.slice (some ⟨b, o, none⟩) 2 cap] w fun e w' => ∃ v, e = .returned v ∧ CIn w' (c ++ d) v ∧ Below w.heap.size w w' := by
  obtain ⟨c1, c3, rfl⟩ := slice_of_cl hC
  obtain ⟨d1, d3, rfl⟩ := slice_of_cl hD
  obtain ⟨n1, hL1, hC1⟩ := cl_cs hC
  obtain ⟨n2, hL2, hC2⟩ := cl_cs hD
  have HL1 := hide hL1
  have HL2 := hide hL2
  have HC1 := hide hC1
  have HC2 := hide hC2
  obtain ⟨iL, hi, hz0, hz1, hz2⟩ := info_parts Tryz.info57
  have hwc : IntKind.i64.wrap (c.length : Int) = (c.length : Int) := by rw [IntKind.wrap_i64]; omega
  have hwd : IntKind.i64.wrap ((c.length : Int) + (d.length : Int)) = (c.length : Int) + (d.length : Int) := by rw [IntKind.wrap_i64]; omega
  have hnc : decide ((c.length : Int) < 0) = false := by simp
  have hnd : decide ((c.length : Int) + (d.length : Int) < 0) = false := by simp; omega
  clear hL1 hL2 hC1 hC2 hC hD
  go_enter Tryz.func50, Tryz.ntmps50
  go_wp2_with fail
  go_loopw [3, 11] (fun s i wr => ∃ j : Nat, j ≤ 2 ∧ i = .int .i64 j ∧ s = .int .i64 (byN 0 (c.length : Int) ((c.length : Int) + (d.length : Int)) j) ∧ wr = w) (fun _ i _ => 2 - (intOf i).toNat)
  case atStart => exact ⟨0, by omega, rfl, rfl, rfl⟩
  case round =>
    obtain ⟨j, hj, rfl, rfl, rfl⟩ := hrel
    obtain rfl | rfl | rfl : j = 0 ∨ j = 1 ∨ j = 2 := by omega
    · simp only [byN]
      go_wp2_with fail
      go_roundw
      case rel => exact ⟨1, by omega, by go_num, rfl, trivial⟩
      case measure => simp [intOf]
    · simp only [byN]
      go_wp2_with fail
      go_roundw
      case rel => exact ⟨2, by omega, by go_num, rfl, trivial⟩
      case measure => simp [intOf]
    · simp only [byN]
      have Hg := hide (growC_any (c.length + d.length) wr hl)
      rw [show ((c.length + d.length : Nat) : Int) = (c.length : Int) + (d.length : Int) by omega] at Hg
      go_wp2_with fail
      refine Hg.out.mono ?_
      rintro e w2 ⟨v2, rfl, hR2, hb2⟩
      have HR2 := hide hR2
      have hq0 := grow_cell hb2 _ _ h0
      have hq1 := grow_cell hb2 _ _ h1
      clear hR2 Hg
      go_wp2_with fail
      obtain ⟨W, hWw⟩ : ∃ W, wr = W := ⟨_, rfl⟩
      have HW := hide hWw
      rw [hWw] at HC1 HC2 HL1 HL2 HR2 hb2 h0 h1
      clear hWw
      go_loopw [6, 27] (fun v i wo => ∃ j : Nat, j ≤ 2 ∧ i = .int .i64 j ∧ wo.ownsRow W.heap.size 57 7 v (byN 0 c.length (c.length + d.length) j) (byN [] n1 (n1 ++ n2) j) ∧ Below W.heap.size W wo) (fun _ i _ => 2 - (intOf i).toNat)
      case atStart => exact ⟨0, by omega, rfl, HR2.out, hb2⟩
      case round =>
        obtain ⟨j, hj, rfl, hR, hBo⟩ := hrel
        have HR := hide hR
        clear hR
        have hw0 := grow_cell hBo _ _ h0
        have hw1 := grow_cell hBo _ _ h1
        obtain rfl | rfl | rfl : j = 0 ∨ j = 1 ∨ j = 2 := by omega
        · simp only [byN] at HR
          have hx1 : 0 + c.length ≤ maxLen := by unfold maxLen; omega
          have hx2 : (0 + c.length) * 88 ≤ 140737488355328 := by omega
          go_wp2_with (at_builtin; refine wpList_append_gen rfl (.tmp 31) (.tmp 32) 25 rfl W.heap.size 57 iL zeroLit 7 88 Tryz.underlying25 hi hz0 hz1 hz2 rfl (by decide) u6 0 [] rfl HR.out _ c.length n1 rfl (HC1.out _ hBo) hx1 hx2 hBo.size ?_; intro v4 w4 ho4 hg4 hat4)
          have HG : Hid (w4.ownsRow W.heap.size 57 7 v4 c.length n1 ∧ Below W.heap.size W w4) := by
            refine ⟨by simpa using ho4, hBo.grown hg4 hBo.size (fun g hg => (owns_at HR.out g hg).1)⟩
          clear ho4 hg4 hat4
          go_wp2_with fail
          go_roundw
          case rel => exact ⟨1, by omega, by go_num, HG.out.1, HG.out.2⟩
          case measure => simp [intOf]
        · simp only [byN] at HR
          have hx1 : c.length + d.length ≤ maxLen := by unfold maxLen; omega
          have hx2 : (c.length + d.length) * 88 ≤ 140737488355328 := by omega
          go_wp2_with (at_builtin; refine wpList_append_gen rfl (.tmp 31) (.tmp 32) 25 rfl W.heap.size 57 iL zeroLit 7 88 Tryz.underlying25 hi hz0 hz1 hz2 rfl (by decide) u6 c.length n1 rfl HR.out _ d.length n2 rfl (HC2.out _ hBo) hx1 hx2 hBo.size ?_; intro v4 w4 ho4 hg4 hat4)
          have HG : Hid (w4.ownsRow W.heap.size 57 7 v4 (c.length + d.length) (n1 ++ n2) ∧ Below W.heap.size W w4) := by
            refine ⟨ho4, hBo.grown hg4 hBo.size (fun g hg => (owns_at HR.out g hg).1)⟩
          clear ho4 hg4 hat4
          go_wp2_with fail
          go_roundw
          case rel => exact ⟨2, by omega, by go_num, HG.out.1, HG.out.2⟩
          case measure => simp [intOf]
        · simp only [byN] at HR
          have Hfin := hide (own_two HL1.out HL2.out HR.out hBo)
          obtain ⟨z1, z3, hz⟩ := Hfin.out.slice
          go_wp2_with fail
          go_ret
          exact ⟨_, rfl, Hfin.out.cl, by rw [HW.out]; exact hBo⟩

set_option maxRecDepth 100000 in
set_option maxHeartbeats 1000000 in
theorem cloneC_any (c : Cl) (cv : Value) (w : World) (hC : CIn w c cv) (hl : c.length ≤ 1000000) :
    Calls Tryz.prog 58 #[cv] w fun e w' => ∃ v xs, e = .returned v ∧ OwnL w.heap.size (fun q => q < w.heap.size) w' c v xs ∧ Below w.heap.size w w' := by
  obtain ⟨c1, c3, rfl⟩ := slice_of_cl hC
  obtain ⟨n1, hL1, hC1⟩ := cl_cs hC
  have HL1 := hide hL1
  have HC1 := hide hC1
  have hnil := fun (w : World) (a : Option Addr) (n c : Nat) => Lib.run_eql_slice_nil (P := Tryz.prog) w 25 57 a n c 0 0 Tryz.underlying25
  cases c1 with
  | none =>
    have h0 : c = [] := by
      obtain ⟨a, k, b, o, e, h1, -⟩ := hC
      simp only [Value.slice.injEq] at e
      cases c with
      | nil => rfl
      | cons x r =>
        have := h1 (by simp)
        rw [← e.1] at this
        cases this
    subst h0
    clear hC
    go_enter Tryz.func58, Tryz.ntmps58
    go_wp2_with fail
    go_ret
    exact ⟨_, [], rfl, ⟨World.ownsRow_nil _ _ _ _, rfl, fun q hq => ⟨hq, by simp [Value.ownBlock]⟩⟩, Below.refl _ _⟩
  | some ad =>
    obtain ⟨iL, hi, hz0, hz1, hz2⟩ := info_parts Tryz.info57
    have Hown : Hid ((w.alloc (.cells #[] 57)).ownsRow w.heap.size 57 7 (.slice (some ⟨w.heap.size, 0, none⟩) 0 0) 0 []) := own_bare (heap_alloc_new w _) (Nat.le_refl _)
    have hb1 := below_alloc w (.cells #[] 57)
    have Hb1 := hide hb1
    have hx1 : 0 + c.length ≤ maxLen := by unfold maxLen; omega
    have hx2 : (0 + c.length) * 88 ≤ 140737488355328 := by omega
    clear hC hL1 hC1 hb1
    go_enter Tryz.func58, Tryz.ntmps58
    go_wp2_with (at_builtin; refine wpList_append_gen rfl (.tmp 5) (.tmp 6) 25 rfl w.heap.size 57 iL zeroLit 7 88 Tryz.underlying25 hi hz0 hz1 hz2 rfl (by decide) _ 0 [] rfl Hown.out _ c.length n1 rfl (HC1.out _ Hb1.out) hx1 hx2 Hb1.out.size ?_; intro v4 w4 ho4 hg4 hat4)
    have HG : Hid (OwnL w.heap.size (fun q => q < w.heap.size) w4 (c ++ []) v4 (n1 ++ []) ∧ Below w.heap.size w w4) := by
      have hb4 : Below w.heap.size w w4 := Hb1.out.grown hg4 Hb1.out.size (fun g hg => (owns_at Hown.out g hg).1)
      exact ⟨own_two HL1.out (show LC _ w [] [] from rfl) (by simpa using ho4) hb4, hb4⟩
    rw [List.append_nil, List.append_nil] at HG
    obtain ⟨z1, z3, hz⟩ := HG.out.1.slice
    clear ho4 hg4 hat4
    go_wp2_with fail
    go_ret
    exact ⟨_, _, rfl, HG.out.1, HG.out.2⟩

set_option maxRecDepth 100000 in
set_option maxHeartbeats 2000000 in
theorem without_any (c : Cl) (cv : Value) (i : Nat) (w : World) (hS : CIn w c cv) (hi : i < c.length) (hlen : c.length ≤ 1000000) :
    Calls Tryz.prog 23 #[cv, .int .i64 i] w fun e w' => ∃ v, e = .returned v ∧ CIn w' (butC c i) v ∧ Below w.heap.size w w' := by
  obtain ⟨a1, c1, b1, o1, rfl, had1, hlc1, hcm1, hF1⟩ := hS
  have ha1 : a1 = some ⟨b1, o1, none⟩ := had1 (by omega)
  subst ha1
  obtain ⟨ad, hsl, hadd⟩ := lits_behind (n := c.length) (j := i + 1) (c := c1) (b := b1) (o := o1) (by omega) hlc1
  have hsa := fun w => lits_ahead (n := c.length) (j := i) (c := c1) (b := b1) (o := o1) (by omega) hlc1 w
  have hi' : (i : Int) < (c.length : Int) := by omega
  have hsl' : ∀ w : World, (Instr.slice 25 (.slice (some ⟨b1, o1, none⟩) c.length c1) (some (.int .i64 ((i : Int) + 1))) none none).run Tryz.prog w = .ok (.slice (some ad) (c.length - (i + 1)) (c1 - (i + 1))) w := fun w => by
    have := hsl w
    rwa [show ((i + 1 : Nat) : Int) = (i : Int) + 1 by omega] at this
  have hwr : IntKind.i64.wrap ((i : Int) + 1) = (i : Int) + 1 := by rw [IntKind.wrap_i64]; omega
  have hi0 : (0 : Int) ≤ (i : Int) := by omega
  have hT : CIn w (c.take i) (.slice (some ⟨b1, o1, none⟩) i c1) := ⟨_, c1, b1, o1, by rw [List.length_take, Nat.min_eq_left (by omega)], fun _ => rfl, by rw [List.length_take]; omega, hcm1, lin_take i hF1⟩
  have hD : CIn w (c.drop (i + 1)) (.slice (some ad) (c.length - (i + 1)) (c1 - (i + 1))) := ⟨_, c1 - (i + 1), b1, o1 + (i + 1) * 7, by rw [List.length_drop], fun h => by rw [hadd (by rw [List.length_drop] at h; omega)], by rw [List.length_drop]; omega, by omega, lin_drop (i + 1) hF1⟩
  have Hb0 : Hid (Below w.heap.size w ((w.alloc (.cells #[.slice (some ⟨b1, o1, none⟩) i c1, .slice (some ad) (c.length - (i + 1)) (c1 - (i + 1))] 25)).drew)) := ((Below.refl _ _).alloc (Nat.le_refl _) _).drew
  have q0 : ((w.alloc (.cells #[.slice (some ⟨b1, o1, none⟩) i c1, .slice (some ad) (c.length - (i + 1)) (c1 - (i + 1))] 25)).drew).cell? ⟨w.heap.size, 0, none⟩ = some (.slice (some ⟨b1, o1, none⟩) i c1) := grow_cell (Below.refl _ _).drew _ _ (new_cell rfl)
  have q1 : ((w.alloc (.cells #[.slice (some ⟨b1, o1, none⟩) i c1, .slice (some ad) (c.length - (i + 1)) (c1 - (i + 1))] 25)).drew).cell? ⟨w.heap.size, 0 + 1, none⟩ = some (.slice (some ad) (c.length - (i + 1)) (c1 - (i + 1))) := grow_cell (Below.refl _ _).drew _ _ (new_cell rfl)
  have Hc := hide (concat_any _ _ _ _ w.heap.size 0 2 _ (hT.below Hb0.out) (hD.below Hb0.out) q0 q1 (by rw [List.length_take, List.length_drop]; omega))
  clear q0 q1 hT hD had1 hF1 hadd hsl hlc1 hcm1
  go_enter Tryz.func23, Tryz.ntmps23
  go_upto_region 1 with fail
  go_region_held3 (fun _ => True) (trivial)
    (first
      | (go_at_call 50; with_reducible refine Hc.out.mono ?_; rintro e w4 ⟨v4, rfl, hO4, hb4⟩; have HO4 := hide (And.intro hO4 hb4); clear hO4 hb4))
  obtain ⟨r1, r3, hv5⟩ := slice_of_cl HO4.out.1
  go_wp2_with fail
  go_ret
  exact ⟨v4, rfl, HO4.out.1, below_step Hb0.out HO4.out.2⟩

end Go.Proofs.YtaliegkkdhkfcacGreatDoor

namespace Go.Proofs.YtaliegkkdhkfcacGreatDoor
open Go.RowKit Go.Deep Go.ChangeShapes Go.WideShapes

def NoT (w : World) (b : Nat) : Prop := ∀ (o : Nat) (x : Bool), w.cell? ⟨b, o, none⟩ = some (.bool x) → w.cell? ⟨b, o + 1, none⟩ = none
/-- Only such blocks may have turned. -/
def Kpt (w w' : World) : Prop := ∀ q, ¬ NoT w q → ∀ o, w'.cell? ⟨q, o, none⟩ = w.cell? ⟨q, o, none⟩
theorem Kpt.fin {w w' : World} (h : Kpt w w') : ∀ {F : Fo} {b o : Nat}, FIn w F b o → FIn w' F b o
  | .nil, _, _, _ => trivial
  | .node _ _ x k r, b, o, ⟨h0, h1, ⟨a, c, b', o', h2, h3, h4, h5, h6⟩, h7⟩ => by
    have hb : ¬ NoT w b := fun hn => by rw [hn o x.1 h0] at h1; cases h1
    exact ⟨(h b hb o).trans h0, (h b hb (o + 1)).trans h1, ⟨a, c, b', o', (h b hb (o + 2)).trans h2, h3, h4, h5, h.fin h6⟩, h.fin h7⟩
theorem Kpt.sin {w w' : World} (h : Kpt w w') {k : Fo} {v : Value} (hS : SIn w k v) : SIn w' k v := by
  obtain ⟨a, c, b, o, rfl, h3, h4, h5, h6⟩ := hS
  exact ⟨a, c, b, o, rfl, h3, h4, h5, h.fin h6⟩
theorem Kpt.lin {w w' : World} (h : Kpt w w') : ∀ {c : Cl} {b o : Nat}, LIn w c b o → LIn w' c b o
  | [], _, _, _ => trivial
  | l :: _, b, o, ⟨⟨h0, h1, h2, ⟨v, h3, h4⟩, h5, h6, u, h7, h8⟩, h9⟩ => by
    have hb : ¬ NoT w b := fun hn => by rw [hn o l.1 h0] at h1; cases h1
    exact ⟨⟨(h b hb _).trans h0, (h b hb _).trans h1, (h b hb _).trans h2, ⟨v, (h b hb _).trans h3, h.sin h4⟩, (h b hb _).trans h5, (h b hb _).trans h6, u, (h b hb _).trans h7, h.sin h8⟩, h.lin h9⟩
theorem Kpt.cin {w w' : World} (h : Kpt w w') {c : Cl} {v : Value} (hC : CIn w c v) : CIn w' c v := by
  obtain ⟨a, k, b, o, h1, h2, h3, h4, h5⟩ := hC
  exact ⟨a, k, b, o, h1, h2, h3, h4, h.lin h5⟩
/-- What only grew besides. -/
theorem kpt_of {w w' : World} (h : ∀ q, q < w.heap.size → ¬ NoT w q → w'.heap[q]? = w.heap[q]?) : Kpt w w' := fun q hq o => by
  by_cases hlt : q < w.heap.size
  · exact World.cell?_of_block (h q hlt hq)
  · exfalso
    refine hq fun o x hx => ?_
    exact absurd (World.block_lt_of_cell? _ _ hx) hlt
theorem kpt_below {w w' : World} (hb : Below w.heap.size w w') : Kpt w w' := kpt_of fun q hq _ => hb.block q hq
/-- A block of lists alone. -/
theorem not_of_slices {w : World} {b : Nat} (h : ∀ o v, w.cell? ⟨b, o, none⟩ = some v → ∃ a n k, v = .slice a n k) : NoT w b := fun o x hx => by
  obtain ⟨a, n, k, e⟩ := h o _ hx
  cases e
theorem Kpt.trans {w w1 w2 : World} (h : Kpt w w1) (h2 : Kpt w1 w2) : Kpt w w2 := fun q hq o => by
  have h1 : ¬ NoT w1 q := fun hn => hq fun o x hx => by
    rw [← h q hq o] at hx
    rw [← h q hq (o + 1)]
    exact hn o x hx
  rw [h2 q h1 o, h q hq o]

end Go.Proofs.YtaliegkkdhkfcacGreatDoor

namespace Go.Proofs.YtaliegkkdhkfcacGreatDoor
open Go.RowKit Go.Deep Go.ChangeShapes Go.WideShapes

def isSl (u : Value) : Prop := ∃ a n k, u = .slice a n k
def SlR (w : World) (g : Nat) : Prop := ∃ cur e, w.heap[g]? = some (.cells cur e (0, 0)) ∧ ∀ u ∈ cur.toList, isSl u
theorem SlR.not {w : World} {g : Nat} (h : SlR w g) : NoT w g := by
  obtain ⟨cur, e, hg, hu⟩ := h
  refine not_of_slices fun o v hv => ?_
  have : cur[o]? = some v := by simpa [World.cell?, hg] using hv
  have hm : v ∈ cur := Array.mem_of_getElem? this
  exact hu v (by simpa using hm)
theorem SlR.keep {w w' : World} {g : Nat} (h : SlR w g) (he : w'.heap[g]? = w.heap[g]?) : SlR w' g := by
  obtain ⟨cur, e, hg, hu⟩ := h
  exact ⟨cur, e, he.trans hg, hu⟩
theorem zero_sl {n : Nat} : ∀ u ∈ (Builtin.zeroCells (Value.slice none 0 0).cells n).toList, isSl u := fun u hu => by
  simp only [Builtin.zeroCells, Value.cells, Array.toList_map, List.mem_map] at hu
  obtain ⟨i, _, rfl⟩ := hu
  refine ⟨none, 0, 0, ?_⟩
  simp [Nat.mod_one]
theorem run_append_sl {P : Program} (w : World) (t ty : TypeId) (base : Nat) (e : TypeId) (i : TypeInfo) (bytes : Nat) (ht : P.underlying t = some (.slice e)) (hi : P.info? e = some i) (hz : i.zero = some (.slice none 0 0))
    (hsize : i.size = 1) (hby : i.bytes = bytes) (v : Value) (n : Nat) (xs : List Value) (hown : w.ownsRow base e 1 v n xs) (hsl : ∀ g, v.ownBlock = some g → SlR w g)
    (ad : Addr) (m c : Nat) (news : List Value) (hl : news.length = m) (hnews : ∀ j u, news[j]? = some u → w.cell? (ad.add j) = some u) (hns : ∀ u ∈ news, isSl u)
    (hm : 0 < m) (h63 : n + m ≤ maxLen) (hbytes : (n + m) * bytes ≤ 140737488355328) (hbase : base ≤ w.heap.size) :
    ∃ v' w', (Builtin.append_ #[t, t] ty #[v, .slice (some ad) m c]).run P w = .ok v' w' ∧ w'.ownsRow base e 1 v' (n + m) (xs ++ news) ∧ w.grownBy w' v.ownBlock ∧ (v'.ownBlock = v.ownBlock ∨ v'.ownBlock = some w.heap.size) ∧ ∀ g, v'.ownBlock = some g → SlR w' g := by
  have h1 : ∀ u ∈ news, u.oneCell' = true := fun u hu => by
    obtain ⟨a, k, z, rfl⟩ := hns u hu
    rfl
  obtain ⟨g, cap, w', hr, h2, h3, h4, h5⟩ := run_append_cap (P := P) w t ty base e i (.slice none 0 0) 1 bytes ht hi hz hsize hby rfl (by omega) v n xs hown ad m c news (by omega) hnews h1 hm h63 hbytes hbase
  have hsmall : n + m ≤ 9223372036854775807 := by simp only [maxLen] at h63; omega
  refine ⟨_, w', hr, h2, h3, ?_, fun g' hg' => ?_⟩
  · rcases h4 with h | ⟨h, _⟩
    · left; rw [h]; rfl
    · right; rw [h]; rfl
  · have eg : g = g' := by simpa [Value.ownBlock] using hg'
    subst eg
    subst hby
    rcases hown.2 with ⟨rfl, rfl⟩ | ⟨g0, cap0, cur, rfl, hbg, hg, hnc, hcm, hcs, htake⟩
    · have hr2 := run_append_nil (P := P) w t ty e i (.slice none 0 0) ht hi hz ad m c news (by rw [hsize]; omega) hnews (by omega) (by omega) (by have hb := hbytes; simp only [Nat.zero_add] at hb; omega)
      rw [hr] at hr2
      simp only [Result.ok.injEq, Value.slice.injEq, Option.some.injEq, Addr.mk.injEq] at hr2
      obtain ⟨⟨⟨e1, _⟩, _⟩, e2⟩ := hr2
      rw [e1, e2]
      refine ⟨_, e, heap_alloc_new w.drew _, fun u hu => ?_⟩
      rw [Array.toList_append, List.mem_append] at hu
      rcases hu with hu | hu
      · exact hns u (by simpa using hu)
      · exact zero_sl u hu
    · obtain ⟨cur', e', hg', hu'⟩ := hsl g0 rfl
      rw [hg] at hg'
      simp only [Option.some.injEq, Obj.cells.injEq] at hg'
      obtain ⟨rfl, rfl, _⟩ := hg'
      by_cases hroom : n + m ≤ cap0
      · have hfit : n * i.size + news.length ≤ cur.size := by rw [hsize, hcs]; omega
        have hr2 := run_append_room (P := P) w t ty e i ht hi g0 n cap0 cur hg ad m c news (by rw [hsize]; omega) hnews h1 hroom hfit
        rw [hr] at hr2
        simp only [Result.ok.injEq, Value.slice.injEq, Option.some.injEq, Addr.mk.injEq] at hr2
        obtain ⟨⟨⟨e1, _⟩, _, e2⟩, e3⟩ := hr2
        rw [e1, e3]
        refine ⟨_, e, setRow_heap w g0 cur _ e (0, 0) hg, fun u hu => ?_⟩
        rw [List.mem_append, List.mem_append] at hu
        rcases hu with (hu | hu) | hu
        · exact hu' u (List.mem_of_mem_take hu)
        · exact hns u hu
        · exact hu' u (List.mem_of_mem_drop hu)
      · have holds : ∀ j u, xs[j]? = some u → w.cell? ((⟨g0, 0, none⟩ : Addr).add j) = some u := hown.cells (g := g0) rfl
        have hr2 := run_append_grow (P := P) w t ty e i (.slice none 0 0) ht hi hz ⟨g0, 0, none⟩ n cap0 xs (by rw [hsize]; exact hown.1) holds ad m c news (by rw [hsize]; omega) hnews (by omega) (by omega) (growslice_fits (by omega) hbytes)
        rw [hr] at hr2
        simp only [Result.ok.injEq, Value.slice.injEq, Option.some.injEq, Addr.mk.injEq] at hr2
        obtain ⟨⟨⟨e1, _⟩, _⟩, e2⟩ := hr2
        rw [e1, e2]
        refine ⟨_, e, heap_alloc_new w.drew _, fun u hu => ?_⟩
        rw [Array.toList_append, Array.toList_append, List.mem_append, List.mem_append] at hu
        rcases hu with (hu | hu) | hu
        · have : u ∈ cur.toList.take (n * 1) := by rw [htake]; simpa using hu
          exact hu' u (List.mem_of_mem_take this)
        · exact hns u (by simpa using hu)
        · exact zero_sl u hu

end Go.Proofs.YtaliegkkdhkfcacGreatDoor

namespace Go.Proofs.YtaliegkkdhkfcacGreatDoor
open Go.RowKit Go.Deep Go.ChangeShapes Go.WideShapes

/-- A closure answers g of a term, wherever G says so, in whatever has come of W0. -/
def CloSaid (f bb : Nat) (g : Tm → Tm) (G : Tm → Prop) (W0 : World) : Prop := ∀ (x : Bool × Int) (k : Fo) (a : Value) (w : World), Below W0.heap.size W0 w → SIn W0 k a → G (x, k) →
    Calls Tryz.prog f #[.agg #[.bool x.1, .int .i64 x.2, a], .pointer (some ⟨bb, 0, none⟩)] w fun e w' => ∃ (a1 : Option Addr) (a2 a3 : Nat), e = .returned (.agg #[.bool (g (x, k)).1.1, .int .i64 (g (x, k)).1.2, .slice a1 a2 a3]) ∧
      SB (fun q => q < W0.heap.size ∨ (w.heap.size ≤ q ∧ q < w'.heap.size)) w' (g (x, k)).2 (.slice a1 a2 a3) ∧ Below w.heap.size w w'

theorem grown_cell {w w' : World} {o : Option Nat} {q i : Nat} {v : Value} (hg : w.grownBy w' o) (hn : some q ≠ o) (h : w.cell? ⟨q, i, none⟩ = some v) : w'.cell? ⟨q, i, none⟩ = some v := by
  rw [World.cell?_of_block (hg.block q (World.block_lt_of_cell? _ _ h) hn)]
  exact h

theorem ret_boxB {w w3 : World} {z1 : Option Addr} {z2 z3 : Nat} {tv : Bool} {tn : Int} {tk : Fo} {L lo g : Nat} (hO : SB (fun q => q < L ∨ (lo ≤ q ∧ q < w3.heap.size)) w3 tk (.slice z1 z2 z3)) (hL : L ≤ g) (hg : g < lo) (hlo : w.heap.size ≤ lo) :
    SB (fun q => q < L ∨ (w.heap.size ≤ q ∧ q < (set3 w3 g 0 (.bool tv) (.int .i64 tn) (.slice z1 z2 z3)).heap.size)) (set3 w3 g 0 (.bool tv) (.int .i64 tn) (.slice z1 z2 z3)) tk (.slice z1 z2 z3) := by
  refine hO.frame (fun q hq => ?_) (fun q i hq => set3_other (.inl (by omega)))
  rw [set3_size]
  omega

/-- One literal more: what it holds was there at the call, or was made since. -/
theorem ownL_more3 {lo : Nat} {wr w3 w4 : World} {s : Cl} {v v4 : Value} {xs : List Value} {l : Lt} {a d : Value} (h : OwnL lo (XO wr v) wr s v xs) (hb : Below wr.heap.size wr w3) (hlo : lo ≤ wr.heap.size)
    (hA : SB (fun q => q < lo ∨ (wr.heap.size ≤ q ∧ q < w3.heap.size)) w3 l.2.1.2 a) (hD : SB (fun q => q < lo ∨ (wr.heap.size ≤ q ∧ q < w3.heap.size)) w3 l.2.2.2 d)
    (ho : w4.ownsRow lo 57 7 v4 (s.length + 1) (xs ++ litV l a d)) (hg : w3.grownBy w4 v.ownBlock) (hat : v4.ownBlock = v.ownBlock ∨ v4.ownBlock = some w3.heap.size) :
    OwnL lo (XO w4 v4) w4 (s ++ [l]) v4 (xs ++ litV l a d) ∧ Below lo wr w4 := by
  have hs := hb.size
  have hs4 := hg.size
  have hv : ∀ q, v.ownBlock = some q → lo ≤ q ∧ q < wr.heap.size := fun q hq => owns_at h.row q hq
  have noq : ∀ q, q < w3.heap.size → some q ≠ v.ownBlock → q < w4.heap.size ∧ some q ≠ v4.ownBlock := fun q hq hn => by
    refine ⟨by omega, fun e => ?_⟩
    rcases hat with e' | e'
    · exact hn (e.trans e')
    · rw [e'] at e; simp at e; omega
  have ok : ∀ q, (q < lo ∨ (wr.heap.size ≤ q ∧ q < w3.heap.size)) → q < w3.heap.size ∧ some q ≠ v.ownBlock := fun q hq => by
    refine ⟨by omega, fun e => ?_⟩
    have := hv q e.symm
    omega
  refine ⟨⟨by simpa using ho, ?_, fun q hq => hq⟩, ⟨hg.os.trans hb.os, hg.tape.trans hb.tape, hg.output.trans hb.output, by omega, fun q hq => ?_⟩⟩
  · refine LC.append (LC.one ?_ ?_) ?_
    · exact hA.frame (fun q hq => noq q (ok q hq).1 (ok q hq).2) (fun q i hq => World.cell?_of_block (hg.block q (ok q hq).1 (ok q hq).2))
    · exact hD.frame (fun q hq => noq q (ok q hq).1 (ok q hq).2) (fun q i hq => World.cell?_of_block (hg.block q (ok q hq).1 (ok q hq).2))
    · refine h.cells.frame (fun q hq => noq q (by have := hq.1; omega) hq.2) (fun q i hq => World.cell?_of_block ?_)
      rw [hg.block q (by have := hq.1; omega) hq.2, hb.block q hq.1]
  · have hn : some q ≠ v.ownBlock := fun e => by have := hv q e.symm; omega
    rw [hg.block q (by omega) hn, hb.block q (by omega)]

set_option maxRecDepth 100000 in
set_option maxHeartbeats 4000000 in
theorem eachDN_any (bb : Nat) (g : Tm → Tm) (G : Tm → Prop) (k : Cl) (a : Value) (w : World) (hcl : CloSaid 31 bb g G w) (hS : CIn w k a) (hG : ∀ l ∈ k, G l.2.1 ∧ G l.2.2) (hlen : k.length ≤ 1000000) :
    Calls Tryz.prog 30 #[a, .func (.func 31) #[] #[.pointer (some ⟨bb, 0, none⟩)]] w fun e w' => ∃ v xs, e = .returned v ∧ OwnL w.heap.size (XO w' v) w' (k.map (mapL g)) v xs ∧ Below w.heap.size w w' := by
  obtain ⟨a1, c1, b1, oo, rfl, had1, hlc1, hcm1, hF1⟩ := hS
  unfold maxLen at hcm1
  have HF1 := hide hF1
  have HG := hide hG
  have Hcl := hide hcl
  clear hF1 hG hcl
  obtain ⟨iL, hi, hz0, hz1, hz2⟩ := info_parts Tryz.info57
  go_enter Tryz.func30, Tryz.ntmps30
  go_wp2_with fail
  go_loopw [5, 10] (fun v i wr => ∃ (j : Nat) (o1 : Option Addr) (o3 : Nat) (xs : List Value), j ≤ k.length ∧ i = .int .i64 j ∧ v = .slice o1 j o3 ∧ OwnL w.heap.size (XO wr v) wr ((k.map (mapL g)).take j) v xs ∧ Below w.heap.size w wr) (fun _ i _ => k.length - (intOf i).toNat)
  case atStart => exact ⟨0, none, 0, [], Nat.zero_le _, rfl, rfl, ownL_nil _ _, Below.refl _ _⟩
  case round =>
    obtain ⟨j, o1, o3, xs, hj, rfl, rfl, hO, hBr⟩ := hrel
    have HO := hide hO
    clear hO
    have hsr := hBr.size
    by_cases hlt : j < k.length
    · have hlt' : (j : Int) < (k.length : Int) := by omega
      obtain ⟨⟨yn, ⟨⟨yv, yi⟩, yk⟩, ⟨yv', yi'⟩, yk'⟩, hy⟩ : ∃ y, k[j]? = some y := ⟨k[j]'hlt, by simp⟩
      obtain ⟨-, -, -, ⟨u3', p3', hA0⟩, -, -, u6', p6', hD0⟩ := HF1.out.at hy
      obtain ⟨p0, p1, p2, ⟨u3, p3, hA⟩, p4, p5, u6, p6, hD⟩ := (HF1.out.below hBr).at hy
      have e3 : u3' = u3 := by have := grow_cell hBr _ _ p3'; rw [p3] at this; exact (Option.some.inj this).symm
      have e6 : u6' = u6 := by have := grow_cell hBr _ _ p6'; rw [p6] at this; exact (Option.some.inj this).symm
      subst e3 e6
      have ha1 : a1 = some ⟨b1, oo, none⟩ := had1 (by omega)
      subst ha1
      have HA0 := hide hA0
      have HD0 := hide hD0
      obtain ⟨ya, yc, _, _, rfl, -, -, -, -⟩ := hA
      obtain ⟨za, zc, _, _, rfl, -, -, -, -⟩ := hD
      have HGy := hide (HG.out _ (List.mem_of_getElem? hy))
      obtain ⟨⟨⟨tv, ti⟩, tk⟩, ht⟩ : ∃ t, t = g ((yv, yi), yk) := ⟨_, rfl⟩
      obtain ⟨⟨⟨tv', ti'⟩, tk'⟩, ht'⟩ : ∃ t, t = g ((yv', yi'), yk') := ⟨_, rfl⟩
      have Hy2 : Hid ((k.map (mapL g)).take (j + 1) = (k.map (mapL g)).take j ++ [(yn, ((tv, ti), tk), ((tv', ti'), tk'))]) := by
        rw [Hid, List.take_add_one, List.getElem?_map, hy, ht, ht']; rfl
      have Hl : Hid (((k.map (mapL g)).take j).length = j) := by rw [Hid, List.length_take, List.length_map]; omega
      have Ht := hide ht
      have Ht' := hide ht'
      have hn1 : j + 1 ≤ maxLen := by unfold maxLen; omega
      have hn2 : (j + 1) * 88 ≤ 140737488355328 := by omega
      have Hrow : Hid (wr.ownsRow w.heap.size 57 7 (.slice o1 j o3) j xs) := by
        have := HO.out.row
        rw [Hl.out] at this
        exact this
      have hnq : some wr.heap.size ≠ (Value.slice o1 j o3).ownBlock := fun e => by
        have := (owns_at Hrow.out _ e.symm).2
        omega
      clear hy had1 p3' p6' hA0 hD0 ht ht'
      simp only at *
      go_upto_region 5 with fail
      generalize hwa : wr.alloc (.cells #[.bool yn, .bool yv, .int .i64 yi, .slice ya (Fo.len yk) yc, .bool yv', .int .i64 yi', .slice za (Fo.len yk') zc] 57) = wa
      obtain ⟨g0, g1, g2, g3, g4, g5, g6, -, hba, hsa⟩ := lit_cells (T := 57) (x0 := .bool yn) (w := wr) (wr := wa) (x1 := .bool yv) (x2 := .int .i64 yi) (x3 := .slice ya (Fo.len yk) yc) (x4 := .bool yv') (x5 := .int .i64 yi') (x6 := .slice za (Fo.len yk') zc) (by rw [← hwa]; exact Below.refl _ _)
      clear hwa
      have hcur : Below wa.heap.size wa wa.drew := (Below.refl _ _).drew
      have hcall1 : ∀ w' : World, Below wa.heap.size wa w' → Calls Tryz.prog 31 #[.agg #[.bool yv, .int .i64 yi, .slice ya (Fo.len yk) yc], .pointer (some ⟨bb, 0, none⟩)] w' fun e w'' => ∃ (z1 : Option Addr) (z2 z3 : Nat), e = .returned (.agg #[.bool tv, .int .i64 ti, .slice z1 z2 z3]) ∧ SB (fun q => q < w.heap.size ∨ (w'.heap.size ≤ q ∧ q < w''.heap.size)) w'' tk (.slice z1 z2 z3) ∧ Below w'.heap.size w' w'' := fun w' hb => by
        refine (Hcl.out (yv, yi) yk _ w' (below_step (below_step hBr hba) hb) HA0.out HGy.out.1).mono ?_
        rintro e w2 ⟨z1, z2, z3, rfl, hO, hb⟩
        rw [← Ht.out] at hO
        exact ⟨z1, z2, z3, by rw [← Ht.out], hO, hb⟩
      have hcall2 : ∀ w' : World, Below wa.heap.size wa w' → Calls Tryz.prog 31 #[.agg #[.bool yv', .int .i64 yi', .slice za (Fo.len yk') zc], .pointer (some ⟨bb, 0, none⟩)] w' fun e w'' => ∃ (z1 : Option Addr) (z2 z3 : Nat), e = .returned (.agg #[.bool tv', .int .i64 ti', .slice z1 z2 z3]) ∧ SB (fun q => q < w.heap.size ∨ (w'.heap.size ≤ q ∧ q < w''.heap.size)) w'' tk' (.slice z1 z2 z3) ∧ Below w'.heap.size w' w'' := fun w' hb => by
        refine (Hcl.out (yv', yi') yk' _ w' (below_step (below_step hBr hba) hb) HD0.out HGy.out.2).mono ?_
        rintro e w2 ⟨z1, z2, z3, rfl, hO, hb⟩
        rw [← Ht'.out] at hO
        exact ⟨z1, z2, z3, by rw [← Ht'.out], hO, hb⟩
      have Hc1 := hide hcall1
      have Hc2 := hide hcall2
      clear hcall1 hcall2 p0 p1 p2 p3 p4 p5 p6
      go_region_held3 (fun w' => w'.cell? ⟨wr.heap.size, 0, none⟩ = some (.bool yn) ∧ w'.cell? ⟨wr.heap.size, 1, none⟩ = some (.bool yv) ∧ w'.cell? ⟨wr.heap.size, 2, none⟩ = some (.int .i64 yi) ∧ w'.cell? ⟨wr.heap.size, 3, none⟩ = some (.slice ya (Fo.len yk) yc) ∧ w'.cell? ⟨wr.heap.size, 4, none⟩ = some (.bool yv') ∧ w'.cell? ⟨wr.heap.size, 5, none⟩ = some (.int .i64 yi') ∧ w'.cell? ⟨wr.heap.size, 6, none⟩ = some (.slice za (Fo.len yk') zc))
        (first
          | (with_reducible exact ⟨grow_cell hcur _ _ g0, grow_cell hcur _ _ g1, grow_cell hcur _ _ g2, grow_cell hcur _ _ g3, grow_cell hcur _ _ g4, grow_cell hcur _ _ g5, grow_cell hcur _ _ g6⟩)
          | (with_reducible exact ⟨grow_cell (below_step hcur (below_alloc _ _)) _ _ g0, grow_cell (below_step hcur (below_alloc _ _)) _ _ g1, grow_cell (below_step hcur (below_alloc _ _)) _ _ g2, grow_cell (below_step hcur (below_alloc _ _)) _ _ g3, grow_cell (below_step hcur (below_alloc _ _)) _ _ g4, grow_cell (below_step hcur (below_alloc _ _)) _ _ g5, grow_cell (below_step hcur (below_alloc _ _)) _ _ g6⟩)
          | (with_reducible exact ⟨grown_cell HG4.out.2.1 hnq (grow_cell (below_step hcur (below_alloc _ _)) _ _ g0), grown_cell HG4.out.2.1 hnq (grow_cell (below_step hcur (below_alloc _ _)) _ _ g1), grown_cell HG4.out.2.1 hnq (grow_cell (below_step hcur (below_alloc _ _)) _ _ g2), grown_cell HG4.out.2.1 hnq (grow_cell (below_step hcur (below_alloc _ _)) _ _ g3), grown_cell HG4.out.2.1 hnq (grow_cell (below_step hcur (below_alloc _ _)) _ _ g4), grown_cell HG4.out.2.1 hnq (grow_cell (below_step hcur (below_alloc _ _)) _ _ g5), grown_cell HG4.out.2.1 hnq (grow_cell (below_step hcur (below_alloc _ _)) _ _ g6)⟩)
          | go_keep)
        (first
          | (go_at_call 31; with_reducible refine (Hc1.out _ hcur).mono ?_; rintro e wS ⟨z1, z2, z3, rfl, hO1, hbS⟩; have hcur0 := hcur; replace hcur := below_step hcur hbS; have HO1 := hide (And.intro hO1 hbS); clear hO1)
          | (go_at_call 31; with_reducible refine (Hc2.out _ hcur).mono ?_; rintro e wU ⟨y1, y2, y3, rfl, hO2, hbU⟩; have hcurS := hcur; replace hcur := below_step hcur hbU; have HO2 := hide (And.intro hO2 hbU); clear hO2)
          | (refine step_append_gen rfl (.tmp 14) (.tmp 26) 25 rfl w.heap.size 57 iL (.agg #[.bool false, .bool false, .int .i64 0, .slice none 0 0, .bool false, .int .i64 0, .slice none 0 0]) 7 88 Tryz.underlying25 hi hz0 hz1 hz2 rfl (by decide) (.slice o1 j o3) j xs rfl (owns_keep Hrow.out (fun g hg => (below_step (below_step hba hcur) (below_alloc _ _)).block g (owns_at Hrow.out g hg).2)) _ 1 (litV (yn, ((tv, ti), tk), ((tv', ti'), tk')) (.slice z1 z2 z3) (.slice y1 y2 y3)) rfl cs_lit hn1 hn2 (Nat.le_trans hsr (below_step (below_step hba hcur) (below_alloc _ _)).size) ?_; intro v4 w4 ho4 hg4 hat4; have HG4 := hide (And.intro ho4 (And.intro hg4 hat4)); clear ho4 hg4 hat4))
      all_goals
        have s0 := hcur0.size
        have s1 := hba.size
        have s2 := hcurS.size
        have s3 := HO1.out.2.size
        have s4 := HO2.out.2.size
        have Hstep : Hid (OwnL w.heap.size (XO w4 v4) w4 ((k.map (mapL g)).take (j + 1)) v4 (xs ++ litV (yn, ((tv, ti), tk), ((tv', ti'), tk')) (.slice z1 z2 z3) (.slice y1 y2 y3)) ∧ Below w.heap.size wr w4) := by
          rw [Hy2.out]
          refine ownL_more3 (l := (yn, ((tv, ti), tk), ((tv', ti'), tk'))) HO.out (below_step (below_step hba hcur) (below_alloc _ _)) hsr ?_ ?_ (by rw [Hl.out]; exact HG4.out.1) HG4.out.2.1 HG4.out.2.2
          · refine HO1.out.1.frame (fun q hq => ?_) (fun q i hq => (below_step HO2.out.2 (below_alloc _ _)).cell ?_)
            · simp only [World.size_alloc]
              omega
            · show q < _
              omega
          · refine HO2.out.1.frame (fun q hq => ?_) (fun q i hq => (below_alloc _ _).cell ?_)
            · simp only [World.size_alloc]
              omega
            · show q < _
              omega
        obtain ⟨r1, r3, hv4⟩ := slice_of_cl Hstep.out.1.cl
        have hl1 : ((k.map (mapL g)).take (j + 1)).length = j + 1 := by rw [Hy2.out, List.length_append, Hl.out]; rfl
        rw [hl1] at hv4
        subst hv4
        clear hl1
        go_wp2_with fail
        go_roundw
        case rel => exact ⟨j + 1, r1, r3, _, by omega, by go_num, rfl, Hstep.out.1, hBr.trans Hstep.out.2⟩
        case measure => simp [intOf]; omega
    · have hje : j = k.length := by omega
      subst hje
      have Hfin : Hid (OwnL w.heap.size (XO wr (.slice o1 k.length o3)) wr (k.map (mapL g)) (.slice o1 k.length o3) xs) := by
        have := HO.out
        rw [List.take_of_length_le (by simp)] at this
        exact this
      clear HO
      go_wp2_with fail
      go_ret
      exact ⟨_, _, rfl, Hfin.out, hBr⟩

end Go.Proofs.YtaliegkkdhkfcacGreatDoor
