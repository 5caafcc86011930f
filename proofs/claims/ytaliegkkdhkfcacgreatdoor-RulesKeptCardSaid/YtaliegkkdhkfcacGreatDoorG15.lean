/- CNo DNorm D6e BSz D6f RegInv -/
import Derived.Test.YtaliegkkdhkfcacGreatDoorG14
import Derived.Deep.RegionHeld3
import Derived.Test.YtaliegkkdhkfcacGreatDoorRows
import Derived.WalkKit
import Derived.RegionTactic
namespace Go.Proofs.YtaliegkkdhkfcacGreatDoor
open Go.RowKit Go.Deep Go.ChangeShapes Go.WideShapes

set_option maxRecDepth 100000 in
set_option maxHeartbeats 4000000 in
theorem norm_anyX (k : Cl) (a : Value) (w : World) (hS : CIn w k a) (hg : GX k) :
    Calls Tryz.prog 45 #[a] w fun e w' => ∃ v, e = .returned (.tuple #[v, .int .i64 (normC k).1]) ∧ CIn w' (normC k).2 v ∧ Below w.heap.size w w' := by
  have HS := hide hS
  obtain ⟨a1, a3, rfl⟩ := slice_of_cl hS
  clear hS
  have Hcs := hide (norm_casesX hg)
  have hk4 := hg.1
  have HG : Hid (∀ l ∈ k, Gd l.2.1 ∧ Gd l.2.2 ∧ tszR l.2.1.2 ≤ 4000000000000 ∧ tszR l.2.2.2 ≤ 4000000000000) := fun l hl => ⟨(hg.2 l hl).gl, (hg.2 l hl).gr, (hg.2 l hl).sl, (hg.2 l hl).sr⟩
  go_enter Tryz.func45, Tryz.ntmps45
  go_wp2_with fail
  refine (turn_any k _ _ HS.out HG.out (by omega)).mono ?_
  rintro e w1 ⟨v1, er, d, rfl, hC1, hcs, hb1⟩
  rcases hcs with ⟨rfl, rfl, ht⟩ | ⟨rfl, ht⟩
  · have Hn : Hid (normC k = (6, [])) := by
      rcases Hcs.out with ⟨_, h⟩ | ⟨d, h, _⟩
      · exact h
      · rw [ht] at h; cases h
    obtain ⟨z1, z3, rfl⟩ := slice_of_cl hC1
    clear hC1 ht
    go_wp2_with fail
    go_ret2
    exact ⟨.slice none 0 0, by rw [Hn.out]; rfl, by rw [Hn.out]; exact CIn.nil _, hb1⟩
  · have Hrest : Hid (GX d ∧ GX (reN d) ∧ ((distC (reN d) = none ∧ normC k = (6, [])) ∨ ∃ e, distC (reN d) = some e ∧ GX e ∧ normC k = keepC d e)) := by
      rcases Hcs.out with ⟨h, _⟩ | ⟨d', h, h2⟩
      · rw [ht] at h; cases h
      · rw [ht] at h; cases h; exact h2
    have HC1 := hide hC1
    obtain ⟨z1, z3, rfl⟩ := slice_of_cl hC1
    clear hC1 ht
    have hd4 := Hrest.out.1.1
    have hv5 := gx_vars Hrest.out.1.2
    go_wp2_with fail
    refine (varsCl_any d _ _ HC1.out (by omega)).mono ?_
    rintro e w2 ⟨vv, rfl, hN, hb2⟩
    have HN := hide hN
    obtain ⟨y1, y3, rfl⟩ := nin_slice hN
    have hB2 := below_step hb1 hb2
    clear hN
    go_wp2_with fail
    refine (number_any d _ (varsC d []) _ _ (HC1.out.below hb2) HN.out (fun l hl => ⟨(Hrest.out.1.2 l hl).gl.nar, (Hrest.out.1.2 l hl).gr.nar⟩) (by omega) (by omega)).mono ?_
    rintro e w3 ⟨g, rfl, hC3, hb3⟩
    have HC3 : Hid (CIn w3 (reN d) (.slice (some ⟨g, 0, none⟩) d.length d.length)) := hC3
    have hB3 := below_step hB2 hb3
    clear hC3 hb2 hb3
    go_wp2_with fail
    refine (distinct_any (reN d) _ _ HC3.out (by have := Hrest.out.2.1.1; omega)).mono ?_
    rintro e w4 ⟨v4, er, f, rfl, hC4, hcs, hb4⟩
    have hB4 := below_step hB3 hb4
    rcases hcs with ⟨rfl, rfl, ht⟩ | ⟨rfl, ht⟩
    · have Hn : Hid (normC k = (6, [])) := by
        rcases Hrest.out.2.2 with ⟨_, h⟩ | ⟨d, h, _⟩
        · exact h
        · rw [ht] at h; cases h
      obtain ⟨x1, x3, rfl⟩ := slice_of_cl hC4
      clear hC4 ht
      go_wp2_with fail
      go_ret2
      exact ⟨.slice none 0 0, by rw [Hn.out]; rfl, by rw [Hn.out]; exact CIn.nil _, hB4⟩
    · have Hn : Hid (GX f ∧ normC k = keepC d f) := by
        rcases Hrest.out.2.2 with ⟨h, _⟩ | ⟨d, h, h2⟩
        · rw [ht] at h; cases h
        · rw [ht] at h; cases h; exact h2
      have HC4 := hide hC4
      obtain ⟨x1, x3, rfl⟩ := slice_of_cl hC4
      clear hC4 ht hb4
      have Hkb := hide (fun h => keep_big (d := d) (e := f) h)
      have Hko := hide (fun h1 h2 h3 => keep_ok (d := d) (e := f) h1 h2 h3)
      generalize hvl : (varsC d []).length = vl at *
      clear hvl
      by_cases c4 : 4 < f.length
      · have c4' : (4 : Int) < (f.length : Int) := by omega
        have Hk := hide (Hkb.out (.inl (.inl c4)))
        go_wp2_with fail
        go_ret2
        exact ⟨.slice none 0 0, by rw [Hn.out.2, Hk.out]; rfl, by rw [Hn.out.2, Hk.out]; exact CIn.nil _, hB4⟩
      have c4' : ¬ (4 : Int) < (f.length : Int) := by omega
      by_cases c5 : 5 < vl
      · have c5' : (5 : Int) < (vl : Int) := by omega
        have Hk := hide (Hkb.out (.inl (.inr c5)))
        go_wp2_with fail
        go_ret2
        exact ⟨.slice none 0 0, by rw [Hn.out.2, Hk.out]; rfl, by rw [Hn.out.2, Hk.out]; exact CIn.nil _, hB4⟩
      have c5' : ¬ (5 : Int) < (vl : Int) := by omega
      have hf4' : (f.length : Int) ≤ 4 := by omega
      have hv5' : (vl : Int) ≤ 5 := by omega
      go_wp2_with fail
      refine (containsG_any f _ _ HC4.out (fun p hp => ⟨(Hn.out.1.2 p hp).okl, (Hn.out.1.2 p hp).sl, (Hn.out.1.2 p hp).sr⟩)).mono ?_
      rintro e w5 ⟨rfl, hb5⟩
      have hB5 := below_step hB4 hb5
      have HC5 := hide (HC4.out.below hb5)
      clear hb5
      cases hbg : f.any bigL
      · have Hk := hide (Hko.out c4 c5 hbg)
        clear hbg
        go_wp2_with fail
        go_ret2
        exact ⟨.slice x1 f.length x3, by rw [Hn.out.2, Hk.out]; rfl, by rw [Hn.out.2, Hk.out]; exact HC5.out, hB5⟩
      · have Hk := hide (Hkb.out (.inr hbg))
        clear hbg
        go_wp2_with fail
        go_ret2
        exact ⟨.slice none 0 0, by rw [Hn.out.2, Hk.out]; rfl, by rw [Hn.out.2, Hk.out]; exact CIn.nil _, hB5⟩
end Go.Proofs.YtaliegkkdhkfcacGreatDoor

namespace Go.Proofs.YtaliegkkdhkfcacGreatDoor
open Go.RowKit Go.Deep Go.ChangeShapes Go.WideShapes

theorem lits_upto {n j c b o : Nat} (hj : j < n) (hc : n ≤ c) (w : World) : (Instr.slice 25 (.slice (some ⟨b, o, none⟩) n c) none (some (.int .i64 (j : Int))) none).run Tryz.prog w = .ok (.slice (some ⟨b, o, none⟩) j c) w := by
  rw [run_slice_h (ht := by kernel_rfl) (h0 := by omega) (h2 := by omega)]
  have e : (sizeOf (Tryz.prog.elem 25)).run Tryz.prog w = .ok 7 w := by
    rw [show Tryz.prog.elem 25 = 57 by kernel_rfl]
    simp [go_sem]
  simp only [Result.andThen, sliced, e]
  simp [Addr.add]

/-- So many of the pairs that number the variables, the box bb holding them. -/
def NumBox (lo bb : Nat) (w : World) (s : Sb) (v : Value) (xs : List Value) : Prop := OwnS lo (fun _ => False) w s v xs ∧ v.ownBlock ≠ some bb ∧ w.cell? ⟨bb, 0, none⟩ = some v ∧ w.frozen? ⟨bb, 0, none⟩ = false ∧ bb < w.heap.size
theorem num_take {vs : List Int} {j : Nat} {n : Int} (h : vs[j]? = some n) : (numS vs).take (j + 1) = (numS vs).take j ++ [(n, vr j)] := by
  rw [List.take_add_one, numS, List.getElem?_mapIdx, h]; rfl
theorem numbox_next {lo bb j : Nat} {wr w4 : World} {vs : List Int} {n : Int} {v v4 : Value} {xs : List Value} {ob : Obj} (h : NumBox lo bb wr ((numS vs).take j) v xs) (hn : vs[j]? = some n) (hl : lo ≤ bb)
    (ho : w4.ownsRow lo 73 4 v4 (j + 1) (xs ++ [.int .i64 n, .bool true, .int .i64 j, .slice none 0 0])) (hg : (wr.alloc ob).grownBy w4 v.ownBlock) (hat : v4.ownBlock = v.ownBlock ∨ v4.ownBlock = some (wr.alloc ob).heap.size) :
    NumBox lo bb (w4.setCell ⟨bb, 0, none⟩ v4) ((numS vs).take (j + 1)) v4 (xs ++ [.int .i64 n, .bool true, .int .i64 j, .slice none 0 0]) ∧ Below lo wr (w4.setCell ⟨bb, 0, none⟩ v4) ∧ w4.cell? ⟨bb, 0, none⟩ = some v ∧ w4.frozen? ⟨bb, 0, none⟩ = false := by
  obtain ⟨h1, h2, h3, h4, h5⟩ := h
  have hs := hg.size
  simp only [World.size_alloc] at hs
  have hlen : ((numS vs).take (j + 1)).length = j + 1 := by
    have : j < vs.length := (List.getElem?_eq_some_iff.1 hn).1
    simp [numS]; omega
  have hne : v4.ownBlock ≠ some bb := by
    rcases hat with e | e
    · rw [e]; exact h2
    · rw [e]; simp; omega
  have hbb : w4.heap[bb]? = wr.heap[bb]? := by
    rw [hg.block bb (by simp; omega) (Ne.symm h2)]
    exact (below_alloc wr ob).block bb h5
  have hc4 : w4.cell? ⟨bb, 0, none⟩ = some v := by rw [World.cell?_of_block hbb]; exact h3
  have hf4 : w4.frozen? ⟨bb, 0, none⟩ = false := by
    rw [← h4]
    simp only [World.frozen?, hbb]
  refine ⟨⟨⟨?_, ?_, fun _ h => h.elim⟩, hne, set_same hc4, by simpa using hf4, by simp [World.setCell]; omega⟩, ?_, hc4, hf4⟩
  · rw [hlen]
    exact owns_keep ho (fun g hgg => Below.heap_setCell _ _ _ g (fun e => hne (by rw [hgg]; exact congrArg some e)))
  · rw [num_take hn]
    exact PC.append (PC.one (t := vr j) (SB.nil _ _)) (h1.cells.frame (fun _ h => h) (fun _ _ h => h.elim))
  · have hb : Below lo wr w4 := ⟨hg.os, hg.tape, hg.output, by omega, fun q hq => by
      have hqv : some q ≠ v.ownBlock := fun e => by have := owns_at h1.row q e.symm; omega
      by_cases hqw : q < wr.heap.size
      · rw [hg.block q (by simp; omega) hqv]; exact (below_alloc wr ob).block q hqw
      · exact absurd hqw (by omega)⟩
    exact hb.setCell hl _

set_option maxRecDepth 100000 in
set_option maxHeartbeats 8000000 in
theorem normD_anyX (k : Cl) (a : Value) (w : World) (hS : CIn w k a) (hg : GX k) :
    Calls Tryz.prog 13 #[a] w fun e w' => ∃ v, e = .returned (.tuple #[v, .int .i64 (normC k).1]) ∧ CIn w' (normC k).2 v ∧ Below w.heap.size w w' := by
  obtain ⟨a1, c1, b1, oo, rfl, had1, hlc1, hcm1, hF1⟩ := hS
  unfold maxLen at hcm1
  have HF1 := hide hF1
  have Hcs := hide (norm_casesX hg)
  have hk4 := hg.1
  have HG := hide hg
  clear hF1 hg
  obtain ⟨iL, hi, hz0, hz1, hz2⟩ := info_parts Tryz.info57
  obtain ⟨iP, hiP, hy0, hy1, hy2⟩ := info_parts Tryz.info73
  go_enter Tryz.func13, Tryz.ntmps13
  go_wp2_with fail
  go_loopw [4, 22] (fun v i wr => ∃ (j : Nat) (out : Cl) (o1 : Option Addr) (o3 : Nat) (xs : List Value), j ≤ k.length ∧ i = .int .i64 j ∧ v = .slice o1 out.length o3 ∧ out.length ≤ j ∧ turnC (k.take j) = some out ∧ OwnL w.heap.size (XO wr v) wr out v xs ∧ Below w.heap.size w wr) (fun _ i _ => k.length - (intOf i).toNat)
  case atStart => exact ⟨0, [], none, 0, [], Nat.zero_le _, rfl, rfl, Nat.le_refl _, rfl, ownL_nil _ _, Below.refl _ _⟩
  case round =>
    obtain ⟨j, out, o1, o3, xs, hj, rfl, rfl, hol, hT, hO, hBr⟩ := hrel
    have HT := hide hT
    have HO := hide hO
    clear hT hO
    have hsr := hBr.size
    by_cases hlt : j < k.length
    · have hlt' : (j : Int) < (k.length : Int) := by omega
      obtain ⟨⟨yn, ⟨⟨yv, yi⟩, yk⟩, ⟨yv', yi'⟩, yk'⟩, hy⟩ : ∃ y, k[j]? = some y := ⟨k[j]'hlt, by simp⟩
      obtain ⟨-, -, -, ⟨u3', p3', hA0⟩, -, -, u6', p6', hD0⟩ := HF1.out.at hy
      obtain ⟨p0, p1, p2, ⟨u3, p3, hA⟩, p4, p5, u6, p6, hD⟩ := (HF1.out.below hBr).at hy
      have e3 : u3' = u3 := by have := grow_cell hBr _ _ p3'; rw [p3] at this; exact (Option.some.inj this).symm
      have e6 : u6' = u6 := by have := grow_cell hBr _ _ p6'; rw [p6] at this; exact (Option.some.inj this).symm
      subst e3 e6
      have ha1 : a1 = some ⟨b1, oo, none⟩ := had1 (by omega)
      subst ha1
      have HA := hide hA
      have HD := hide hD
      have HA0 := hide hA0.toB
      have HD0 := hide hD0.toB
      obtain ⟨ya, yc, _, _, rfl, -, -, -, -⟩ := hA
      obtain ⟨za, zc, _, _, rfl, -, -, -, -⟩ := hD
      have Hgy := hide (HG.out.2 _ (List.mem_of_getElem? hy))
      have Hstep : Hid (turnC (k.take (j + 1)) = tstep (some out) (yn, ((yv, yi), yk), ((yv', yi'), yk'))) := by rw [Hid, turn_take hy, HT.out]
      have hn1 : out.length + 1 ≤ maxLen := by unfold maxLen; omega
      have hn2 : (out.length + 1) * 88 ≤ 140737488355328 := by omega
      clear hy had1 p3' p6' hA0 hD0
      simp only at *
      go_wp2_with fail
      refine (sameR_any (yv, yi) yk (yv', yi') yk' _ _ _ (HA.out.alloc _) (HD.out.alloc _)).mono ?_
      rintro e w2 ⟨rfl, hb2⟩
      obtain ⟨g0, g1, g2, g3, g4, g5, g6, gf, hb2', hlt2⟩ := lit_cells hb2
      have hB2 := below_step hBr hb2'
      clear hb2 p0 p1 p2 p3 p4 p5 p6
      cases hss : sameT (yv, yi) yk (yv', yi') yk'
      · have Hss := hide hss
        clear hss
        go_wp2_with fail
        refine (aboveR_any (yv', yi') yk' (yv, yi) yk _ _ _ (HD.out.below hb2') (HA.out.below hb2') (by have := Hgy.out.sr; simp only at this; omega) (by have := Hgy.out.sl; simp only at this; omega)).mono ?_
        rintro e w5 ⟨rfl, hb5⟩
        replace g0 := grow_cell hb5 _ _ g0
        replace g1 := grow_cell hb5 _ _ g1
        replace g2 := grow_cell hb5 _ _ g2
        replace g3 := grow_cell hb5 _ _ g3
        replace g4 := grow_cell hb5 _ _ g4
        replace g5 := grow_cell hb5 _ _ g5
        replace g6 := grow_cell hb5 _ _ g6
        have gf5 : ∀ i, w5.frozen? ⟨wr.heap.size, i, none⟩ = false := fun i => (hb5.frozen (by show wr.heap.size < _; omega)).trans (gf i)
        have hb25 := below_step hb2' hb5
        clear gf hb5
        cases hab : abvT ((yv', yi'), yk') ((yv, yi), yk)
        · have Hfl : Hid (flipL (yn, ((yv, yi), yk), ((yv', yi'), yk')) = (yn, ((yv, yi), yk), ((yv', yi'), yk'))) := by
            show flipL _ = _
            unfold flipL
            rw [if_neg (by rw [hab]; simp)]
          have Hst : Hid (turnC (k.take (j + 1)) = some (out ++ [(yn, ((yv, yi), yk), ((yv', yi'), yk'))])) := by
            show turnC _ = _
            rw [Hstep.out, tstep, Option.bind_some, if_neg (by rw [Hss.out]; simp), Hfl.out]
          clear hab
          have hb6 : ∀ ob, Below wr.heap.size wr (w5.alloc ob) := fun ob => below_step hb25 (below_alloc _ _)
          go_wp2_with (at_builtin; refine wpList_append_gen rfl (.tmp 46) (.tmp 48) 25 rfl w.heap.size 57 iL (.agg #[.bool false, .bool false, .int .i64 0, .slice none 0 0, .bool false, .int .i64 0, .slice none 0 0]) 7 88 Tryz.underlying25 hi hz0 hz1 hz2 rfl (by decide) (.slice o1 out.length o3) out.length xs rfl (OwnL.below HO.out (hb6 _)).row _ 1 (litV (yn, ((yv, yi), yk), ((yv', yi'), yk')) (.slice ya (Fo.len yk) yc) (.slice za (Fo.len yk') zc)) rfl cs_lit hn1 hn2 (Nat.le_trans hsr (hb6 _).size) ?_; intro v4 w4 ho4 hg4 hat4)
          obtain ⟨hO4, hB4⟩ := ownL_more (l := (yn, ((yv, yi), yk), ((yv', yi'), yk'))) HO.out (hb6 _) hsr (HA0.out.kept (fun q hq => (below_step hBr (hb6 _)).block q hq)) (HD0.out.kept (fun q hq => (below_step hBr (hb6 _)).block q hq)) ho4 hg4 hat4
          obtain ⟨r1, r3, rfl⟩ := slice_of_cl hO4.cl
          have HO4 := hide hO4
          have hBB := hBr.trans hB4
          clear hO4 ho4 hg4 hat4
          go_wp2_with fail
          go_roundw
          case rel => exact ⟨j + 1, _, r1, r3, _, by omega, by go_num, rfl, by simp; omega, Hst.out, HO4.out, hBB⟩
          case measure => simp [intOf]; omega
        · have Hfl : Hid (flipL (yn, ((yv, yi), yk), ((yv', yi'), yk')) = (yn, ((yv', yi'), yk'), ((yv, yi), yk))) := by
            show flipL _ = _
            unfold flipL
            rw [if_pos hab]
          have Hst : Hid (turnC (k.take (j + 1)) = some (out ++ [(yn, ((yv', yi'), yk'), ((yv, yi), yk))])) := by
            show turnC _ = _
            rw [Hstep.out, tstep, Option.bind_some, if_neg (by rw [Hss.out]; simp), Hfl.out]
          clear hab
          go_upto_region 10 with fail
          generalize hw3 : (((((((w5.setCell ⟨wr.heap.size, 0, none⟩ (.bool yn)).setCell ⟨wr.heap.size, 1, none⟩ (.bool yv')).setCell ⟨wr.heap.size, 2, none⟩ (.int .i64 yi')).setCell ⟨wr.heap.size, 3, none⟩ (.slice za (Fo.len yk') zc)).setCell ⟨wr.heap.size, 4, none⟩ (.bool yv)).setCell ⟨wr.heap.size, 5, none⟩ (.int .i64 yi)).setCell ⟨wr.heap.size, 6, none⟩ (.slice ya (Fo.len yk) yc)) = w3
          have e3 : w3 = setL w5 wr.heap.size 0 [.bool yn, .bool yv', .int .i64 yi', .slice za (Fo.len yk') zc, .bool yv, .int .i64 yi, .slice ya (Fo.len yk) yc] := hw3.symm
          have hb3 : Below wr.heap.size wr w3 := by rw [e3]; exact setL_below (Nat.le_refl _) hb25
          have at6 := setL_at (b := wr.heap.size) (xs := [.bool yn, .bool yv', .int .i64 yi', .slice za (Fo.len yk') zc, .bool yv, .int .i64 yi, .slice ya (Fo.len yk) yc]) (o := 0) (w := w5) (fun i hi => by
            simp at hi
            rw [Nat.zero_add]
            rcases i with _ | _ | _ | _ | _ | _ | _ | i
            · exact ⟨_, g0⟩
            · exact ⟨_, g1⟩
            · exact ⟨_, g2⟩
            · exact ⟨_, g3⟩
            · exact ⟨_, g4⟩
            · exact ⟨_, g5⟩
            · exact ⟨_, g6⟩
            · omega)
          have k0 : w3.cell? ⟨wr.heap.size, 0, none⟩ = some (.bool yn) := by rw [e3]; exact at6 0 _ rfl
          have k1 : w3.cell? ⟨wr.heap.size, 1, none⟩ = some (.bool yv') := by rw [e3]; exact at6 1 _ rfl
          have k2 : w3.cell? ⟨wr.heap.size, 2, none⟩ = some (.int .i64 yi') := by rw [e3]; exact at6 2 _ rfl
          have k3 : w3.cell? ⟨wr.heap.size, 3, none⟩ = some (.slice za (Fo.len yk') zc) := by rw [e3]; exact at6 3 _ rfl
          have k4 : w3.cell? ⟨wr.heap.size, 4, none⟩ = some (.bool yv) := by rw [e3]; exact at6 4 _ rfl
          have k5 : w3.cell? ⟨wr.heap.size, 5, none⟩ = some (.int .i64 yi) := by rw [e3]; exact at6 5 _ rfl
          have k6 : w3.cell? ⟨wr.heap.size, 6, none⟩ = some (.slice ya (Fo.len yk) yc) := by rw [e3]; exact at6 6 _ rfl
          clear at6 e3 hw3 g0 g1 g2 g3 g4 g5 g6 gf5
          have hb6 : ∀ ob, Below wr.heap.size wr (w3.alloc ob) := fun ob => below_step hb3 (below_alloc _ _)
          go_wp2_with (at_builtin; refine wpList_append_gen rfl (.tmp 46) (.tmp 48) 25 rfl w.heap.size 57 iL (.agg #[.bool false, .bool false, .int .i64 0, .slice none 0 0, .bool false, .int .i64 0, .slice none 0 0]) 7 88 Tryz.underlying25 hi hz0 hz1 hz2 rfl (by decide) (.slice o1 out.length o3) out.length xs rfl (OwnL.below HO.out (hb6 _)).row _ 1 (litV (yn, ((yv', yi'), yk'), ((yv, yi), yk)) (.slice za (Fo.len yk') zc) (.slice ya (Fo.len yk) yc)) rfl cs_lit hn1 hn2 (Nat.le_trans hsr (hb6 _).size) ?_; intro v4 w4 ho4 hg4 hat4)
          obtain ⟨hO4, hB4⟩ := ownL_more (l := (yn, ((yv', yi'), yk'), ((yv, yi), yk))) HO.out (hb6 _) hsr (HD0.out.kept (fun q hq => (below_step hBr (hb6 _)).block q hq)) (HA0.out.kept (fun q hq => (below_step hBr (hb6 _)).block q hq)) ho4 hg4 hat4
          obtain ⟨r1, r3, rfl⟩ := slice_of_cl hO4.cl
          have HO4 := hide hO4
          have hBB := hBr.trans hB4
          clear hO4 ho4 hg4 hat4
          go_wp2_with fail
          go_roundw
          case rel => exact ⟨j + 1, _, r1, r3, _, by omega, by go_num, rfl, by simp; omega, Hst.out, HO4.out, hBB⟩
          case measure => simp [intOf]; omega
      · cases yn
        · have Hst : Hid (normC k = (6, [])) := by
            have ht : turnC k = none := turn_stop (j := j + 1) (by rw [Hstep.out]; simp [tstep, hss])
            rcases Hcs.out with ⟨_, h⟩ | ⟨d, h, _⟩
            · exact h
            · rw [ht] at h; cases h
          clear hss
          go_wp2_with fail
          go_ret2
          exact ⟨.slice none 0 0, by rw [Hst.out]; rfl, by rw [Hst.out]; exact CIn.nil _, hB2⟩
        · have Hst : Hid (turnC (k.take (j + 1)) = some out) := by
            show turnC _ = _
            rw [Hstep.out]
            simp [tstep, hss]
          clear hss
          have HO2 : Hid (OwnL w.heap.size (XO w2 (.slice o1 out.length o3)) w2 out (.slice o1 out.length o3) xs) := (HO.out.below hb2').wide (fun q hq => ⟨by have := hq.1; have := hb2'.size; omega, hq.2⟩) (fun _ h => h)
          go_wp2_with fail
          go_roundw
          case rel => exact ⟨j + 1, _, o1, o3, _, by omega, by go_num, rfl, by omega, Hst.out, HO2.out, hB2⟩
          case measure => simp [intOf]; omega
    · have hje : j = k.length := by omega
      subst hje
      have Hrest : Hid (GX out ∧ GX (reN out) ∧ ((distC (reN out) = none ∧ normC k = (6, [])) ∨ ∃ e, distC (reN out) = some e ∧ GX e ∧ normC k = keepC out e)) := by
        have ht := HT.out
        rw [List.take_length] at ht
        rcases Hcs.out with ⟨h, _⟩ | ⟨d', h, h2⟩
        · rw [ht] at h; cases h
        · rw [ht] at h; cases h; exact h2
      have HC1 := hide HO.out.cl
      clear HO HT Hcs
      have hd4 := Hrest.out.1.1
      have hv5 := gx_vars Hrest.out.1.2
      go_wp2_with fail
      refine (varsCR_any out _ _ HC1.out (by omega)).mono ?_
      rintro e w2 ⟨vv, rfl, hN, hb2⟩
      obtain ⟨n1, nc, nb, no, rfl, hnad, hnlc, hncm, hNF⟩ := hN
      unfold maxLen at hncm
      have HNF := hide hNF
      have hB2 := below_step hBr hb2
      have HC2 := hide (HC1.out.below hb2)
      have hs2 := hB2.size
      clear hNF hb2 HC1
      have Hvs : Hid (∀ i, i < (varsC out []).length → (varsC out [])[i]? = some ((varsC out []).getD i 0)) := fun i hi => by
        rw [List.getD_eq_getElem?_getD, List.getElem?_eq_getElem hi]; rfl
      generalize hvl : varsC out [] = vs at *
      have Hvl := hide hvl
      clear hvl
      go_upto_region 14 with fail
      have H0 : Hid (NumBox w2.heap.size (w2.heap.size + 1) ((w2.alloc (.cells #[] 73)).alloc (.cells #[.slice (some ⟨w2.heap.size, 0, none⟩) 0 0] 59)) ((numS vs).take 0) (.slice (some ⟨w2.heap.size, 0, none⟩) 0 0) []) := by
        refine ⟨⟨?_, rfl, fun _ h => h.elim⟩, ?_, ?_, ?_, ?_⟩
        · refine own_bare ?_ (Nat.le_refl _)
          rw [(below_alloc _ _).block _ (by simp)]
          exact heap_alloc_new _ _
        · simp [Value.ownBlock]
        · exact new_cell (World.size_alloc _ _)
        · exact new_frozen (World.size_alloc _ _)
        · simp
      have hB0 : Below w2.heap.size w2 ((w2.alloc (.cells #[] 73)).alloc (.cells #[.slice (some ⟨w2.heap.size, 0, none⟩) 0 0] 59)) := below_step (below_alloc _ _) (below_alloc _ _)
      generalize ((w2.alloc (.cells #[] 73)).alloc (.cells #[.slice (some ⟨w2.heap.size, 0, none⟩) 0 0] 59)) = w3 at *
      go_wp2_with fail
      go_loopw [56] (fun i wr => ∃ (m : Nat) (q1 : Option Addr) (q3 : Nat) (ys : List Value), m ≤ vs.length ∧ i = .int .i64 m ∧ NumBox w2.heap.size (w2.heap.size + 1) wr ((numS vs).take m) (.slice q1 m q3) ys ∧ Below w2.heap.size w2 wr) (fun i _ => vs.length - (intOf i).toNat)
      case atStart => exact ⟨0, _, _, [], Nat.zero_le _, rfl, H0.out, hB0⟩
      case round =>
        obtain ⟨m, q1, q3, ys, hm, rfl, hNB, hBx⟩ := hrel
        have HNB := hide hNB
        have hsx := hBx.size
        by_cases hmlt : m < vs.length
        · have hmlt' : (m : Int) < (vs.length : Int) := by omega
          have hn1a : n1 = some ⟨nb, no, none⟩ := hnad (by omega)
          subst hn1a
          obtain ⟨-, hqb, qc, qf, hqlt⟩ := hNB
          have HV := hide (Hvs.out m hmlt)
          have pv := grow_cell hBx _ _ (HNF.out m hmlt)
          generalize vs.getD m 0 = vm at *
          have hm1 : m + 1 ≤ maxLen := by unfold maxLen; omega
          have hm2 : (m + 1) * 48 ≤ 140737488355328 := by omega
          have Hrow : Hid (wr.ownsRow w2.heap.size 73 4 (.slice q1 m q3) m ys) := by
            have h := HNB.out.1.row
            have e : ((numS vs).take m).length = m := by simp [numS]; omega
            rw [e] at h
            exact h
          have hbx : ∀ ob, Below wr.heap.size wr (wr.alloc ob) := fun ob => below_alloc _ _
          clear hnad hqb
          have hlen1 : ((numS vs).take (m + 1)).length = m + 1 := by simp [numS]; omega
          have Hlen1 := hide hlen1
          clear hlen1
          go_wp2_with (at_builtin; refine wpList_append_gen rfl (.tmp 61) (.tmp 66) 59 rfl w2.heap.size 73 iP (.agg #[.int .i64 0, .bool false, .int .i64 0, .slice none 0 0]) 4 48 Tryz.underlying59 hiP hy0 hy1 hy2 rfl (by decide) (.slice q1 m q3) m ys rfl (owns_keep Hrow.out (fun g hg => (hbx _).block g (owns_at Hrow.out g hg).2)) _ 1 [.int .i64 vm, .bool true, .int .i64 m, .slice none 0 0] rfl (cs_pair (heap_alloc_new _ _)) hm1 hm2 (Nat.le_trans hsx (hbx _).size) ?_; intro v4 w4 ho4 hg4 hat4; obtain ⟨hNB4, hB4, qc4, qf4⟩ := numbox_next HNB.out HV.out (by omega) ho4 hg4 hat4; obtain ⟨r1, r3, hr⟩ := slice_of_sub hNB4.1.sub; rw [Hlen1.out] at hr; subst hr; have HNB4 := hide hNB4; clear hNB4 ho4 hg4 hat4)
          go_roundw
          case rel => exact ⟨m + 1, r1, r3, _, by omega, by go_num, HNB4.out, hBx.trans hB4⟩
          case measure => simp [intOf]; omega
        · have hme : m = vs.length := by omega
          subst hme
          have HNB' : Hid (SubIn wr (numS vs) (.slice q1 vs.length q3)) := by
            have := HNB.out.1.sub
            rw [List.take_of_length_le (by simp [numS])] at this
            exact this
          obtain ⟨-, -, qc, -, -⟩ := hNB
          have hB3 := below_step hB2 hBx
          have HC3 := hide (HC2.out.below hBx)
          clear HNB HC2 H0 hB0
          go_wp2_with fail
          refine (eachDN_any (w2.heap.size + 1) (subT (bnd (numS vs))) (fun t => okT t ∧ narT t) out _ wr (cloDN_any (numS vs) _ _ wr qc HNB'.out (fun p hp => (num_gd hv5 p hp).ok)) HC3.out (fun l hl => ⟨⟨(Hrest.out.1.2 l hl).gl.ok, (Hrest.out.1.2 l hl).gl.nar⟩, (Hrest.out.1.2 l hl).gr.ok, (Hrest.out.1.2 l hl).gr.nar⟩) (by omega)).mono ?_
          rintro e w5 ⟨v5, xs5, rfl, hO5, hb5⟩
          have hC5 : CIn w5 (reN out) v5 := by
            have := hO5.cl
            rw [reN, Hvl.out]
            exact this
          have hB5 := below_step hB3 hb5
          clear hO5 hb5 HC3 HNB' qc
          obtain ⟨P, hP⟩ : ∃ P, P = reN out := ⟨_, rfl⟩
          have HrP : Hid (GX P ∧ ((distC P = none ∧ normC k = (6, [])) ∨ ∃ e, distC P = some e ∧ GX e ∧ normC k = keepC out e)) := by rw [hP]; exact Hrest.out.2
          rw [← hP] at hC5
          clear hP
          obtain ⟨e1, ec, eb, eo, rfl, head5, helc, hecm, hEF⟩ := hC5
          unfold maxLen at hecm
          have HEF := hide hEF
          have hP4 := HrP.out.1.1
          clear hEF
          go_wp2_with fail
          go_loopw [11, 74] (fun v i wr => ∃ (j : Nat) (ou : Cl) (o1 : Option Addr) (o3 : Nat) (xs : List Value), j ≤ P.length ∧ i = .int .i64 j ∧ v = .slice o1 ou.length o3 ∧ ou.length ≤ j ∧ distC (P.take j) = some ou ∧ OwnL w5.heap.size (XO wr v) wr ou v xs ∧ Below w5.heap.size w5 wr) (fun _ i _ => P.length - (intOf i).toNat)
          case atStart => exact ⟨0, [], none, 0, [], Nat.zero_le _, rfl, rfl, Nat.le_refl _, rfl, ownL_nil _ _, Below.refl _ _⟩
          case round =>
            obtain ⟨j, ou, o1, o3, xs, hj, rfl, rfl, hol, hT, hO, hBo⟩ := hrel
            have HT := hide hT
            have HO := hide hO
            clear hT hO
            have hsr := hBo.size
            by_cases hlt : j < P.length
            · have hlt' : (j : Int) < (P.length : Int) := by omega
              have hj0 : (0 : Int) ≤ (j : Int) := by omega
              obtain ⟨⟨xn, ⟨⟨xv, xi⟩, xk⟩, ⟨xv', xi'⟩, xk'⟩, hx⟩ : ∃ y, P[j]? = some y := ⟨P[j]'hlt, by simp⟩
              obtain ⟨-, -, -, ⟨u3', p3', hA0⟩, -, -, u6', p6', hD0⟩ := HEF.out.at hx
              obtain ⟨p0, p1, p2, ⟨u3, p3, hA⟩, p4, p5, u6, p6, hD⟩ := (HEF.out.below hBo).at hx
              have e3 : u3' = u3 := by have := grow_cell hBo _ _ p3'; rw [p3] at this; exact (Option.some.inj this).symm
              have e6 : u6' = u6 := by have := grow_cell hBo _ _ p6'; rw [p6] at this; exact (Option.some.inj this).symm
              subst e3 e6
              have he1 : e1 = some ⟨eb, eo, none⟩ := head5 (by omega)
              subst he1
              have HA := hide hA
              have HD := hide hD
              have HA0 := hide hA0.toB
              have HD0 := hide hD0.toB
              obtain ⟨ya, yc, _, _, rfl, -, -, -, -⟩ := hA
              obtain ⟨za, zc, _, _, rfl, -, -, -, -⟩ := hD
              have Hkept : Hid ((∀ d, dstep (some ou) (xn, ((xv, xi), xk), ((xv', xi'), xk')) = some d → distC (P.take (j + 1)) = some d) ∧ (dstep (some ou) (xn, ((xv, xi), xk), ((xv', xi'), xk')) = none → normC k = (6, [])) ∧ (dstep (some ou) (xn, ((xv, xi), xk), ((xv', xi'), xk')) = none ↔ ∃ y ∈ P.take j, likeL (xn, ((xv, xi), xk), ((xv', xi'), xk')) y = true ∧ y.1 ≠ xn) ∧ (dstep (some ou) (xn, ((xv, xi), xk), ((xv', xi'), xk')) = some ou ↔ (∃ y ∈ P.take j, likeL (xn, ((xv, xi), xk), ((xv', xi'), xk')) y = true) ∧ ¬ ∃ y ∈ P.take j, likeL (xn, ((xv, xi), xk), ((xv', xi'), xk')) y = true ∧ y.1 ≠ xn) ∧ ((∀ y ∈ P.take j, likeL (xn, ((xv, xi), xk), ((xv', xi'), xk')) y = false) → dstep (some ou) (xn, ((xv, xi), xk), ((xv', xi'), xk')) = some (ou ++ [(xn, ((xv, xi), xk), ((xv', xi'), xk'))]))) := by
                have hok : ∀ y ∈ P.take j, okL y := fun y hy => (HrP.out.1.2 y (List.mem_of_mem_take hy)).okl
                have hkp := dist_kept hok HT.out
                have hst : distC (P.take (j + 1)) = dstep (some ou) (xn, ((xv, xi), xk), ((xv', xi'), xk')) := by rw [dist_take hx, HT.out]
                have h := kept_step (o' := dstep (some ou) (xn, ((xv, xi), xk), ((xv', xi'), xk'))) hkp hok (HrP.out.1.2 _ (List.mem_of_getElem? hx)).okl rfl
                refine ⟨fun d hd => by rw [hst, hd], fun hn => ?_, h.2.1, h.2.2.1, h.2.2.2⟩
                have : distC P = none := dist_stop (j := j + 1) (by rw [hst, hn])
                rcases HrP.out.2 with ⟨_, h⟩ | ⟨d, h, _⟩
                · exact h
                · rw [this] at h; cases h
              have hn1 : ou.length + 1 ≤ maxLen := by unfold maxLen; omega
              have hn2 : (ou.length + 1) * 88 ≤ 140737488355328 := by omega
              have hup := fun w => lits_upto (b := eb) (o := eo) hlt helc w
              clear hx head5 p3' p6' hA0 hD0
              simp only at *
              go_upto_region 24 with fail
              generalize hwa : wr.alloc (.cells #[.bool xn, .bool xv, .int .i64 xi, .slice ya (Fo.len xk) yc, .bool xv', .int .i64 xi', .slice za (Fo.len xk') zc] 57) = wa
              obtain ⟨g0, g1, g2, g3, g4, g5, g6, -, hba, hsa⟩ := lit_cells (T := 57) (x0 := .bool xn) (w := wr) (wr := wa) (x1 := .bool xv) (x2 := .int .i64 xi) (x3 := .slice ya (Fo.len xk) yc) (x4 := .bool xv') (x5 := .int .i64 xi') (x6 := .slice za (Fo.len xk') zc) (by rw [← hwa]; exact Below.refl _ _)
              have HX1 := hide (HA.out.below hba)
              have HX2 := hide (HD.out.below hba)
              have hBa := below_step hBo hba
              generalize hbx : wr.heap.size = bx at *
              generalize wr = wo at *
              clear hwa HA HD p0 p1 p2 p3 p4 p5 p6
              go_wp2_with fail
              go_loopw [14, 83] (fun v i wn => ∃ (t : Nat), t ≤ j ∧ i = .int .i64 t ∧ v = .bool ((P.take t).any (likeL (xn, ((xv, xi), xk), ((xv', xi'), xk')))) ∧ (∀ y ∈ P.take t, likeL (xn, ((xv, xi), xk), ((xv', xi'), xk')) y = true → y.1 = xn) ∧ Below wa.heap.size wa wn) (fun _ i _ => j - (intOf i).toNat)
              case atStart => exact ⟨0, Nat.zero_le _, rfl, rfl, fun y hy => (by simp at hy), Below.refl _ _⟩
              case round =>
                obtain ⟨t, ht, rfl, rfl, hno, hBn⟩ := hrel
                have Hno0 := hide hno
                clear hno
                replace g0 := grow_cell hBn _ _ g0
                replace g1 := grow_cell hBn _ _ g1
                replace g2 := grow_cell hBn _ _ g2
                replace g3 := grow_cell hBn _ _ g3
                replace g4 := grow_cell hBn _ _ g4
                replace g5 := grow_cell hBn _ _ g5
                replace g6 := grow_cell hBn _ _ g6
                by_cases htl : t < j
                · have htl' : (t : Int) < (j : Int) := by omega
                  have htP : t < P.length := by omega
                  obtain ⟨⟨yn, ⟨⟨yv, yi⟩, yk⟩, ⟨yv', yi'⟩, yk'⟩, hy⟩ : ∃ y, P[t]? = some y := ⟨P[t]'htP, by simp⟩
                  obtain ⟨p0, p1, p2, ⟨u3, p3, hA⟩, p4, p5, u6, p6, hD⟩ := (HEF.out.below (below_step hBa hBn)).at hy
                  have HY1 := hide hA
                  have HY2 := hide hD
                  obtain ⟨ta, tc, _, _, rfl, -, -, -, -⟩ := hA
                  obtain ⟨sa, sc, _, _, rfl, -, -, -, -⟩ := hD
                  have Htk : Hid (P.take (t + 1) = P.take t ++ [(yn, ((yv, yi), yk), ((yv', yi'), yk'))]) := by rw [Hid, List.take_add_one, hy]; rfl
                  clear hy
                  simp only at *
                  go_upto_region 28 with fail
                  generalize hwb : wr.alloc (.cells #[.bool yn, .bool yv, .int .i64 yi, .slice ta (Fo.len yk) tc, .bool yv', .int .i64 yi', .slice sa (Fo.len yk') sc] 57) = wb
                  obtain ⟨k0, k1, k2, k3, k4, k5, k6, -, hbn, hsb⟩ := lit_cells (T := 57) (x0 := .bool yn) (w := wr) (wr := wb) (x1 := .bool yv) (x2 := .int .i64 yi) (x3 := .slice ta (Fo.len yk) tc) (x4 := .bool yv') (x5 := .int .i64 yi') (x6 := .slice sa (Fo.len yk') sc) (by rw [← hwb]; exact Below.refl _ _)
                  replace hBn := below_step hBn hbn
                  replace HY1 := hide (HY1.out.below hbn)
                  replace HY2 := hide (HY2.out.below hbn)
                  replace g0 := grow_cell hbn _ _ g0
                  replace g1 := grow_cell hbn _ _ g1
                  replace g2 := grow_cell hbn _ _ g2
                  replace g3 := grow_cell hbn _ _ g3
                  replace g4 := grow_cell hbn _ _ g4
                  replace g5 := grow_cell hbn _ _ g5
                  replace g6 := grow_cell hbn _ _ g6
                  generalize wr.heap.size = by' at *
                  clear hwb hbn p0 p1 p2 p3 p4 p5 p6
                  go_wp2_with fail
                  refine (likeR_any (xn, ((xv, xi), xk), ((xv', xi'), xk')) (yn, ((yv, yi), yk), ((yv', yi'), yk')) _ _ _ _ _ (HX1.out.below hBn) (HX2.out.below hBn) HY1.out HY2.out).mono ?_
                  rintro e wn ⟨rfl, hbn⟩
                  replace hBn := below_step hBn hbn
                  replace g0 := grow_cell hbn _ _ g0
                  replace g1 := grow_cell hbn _ _ g1
                  replace g2 := grow_cell hbn _ _ g2
                  replace g3 := grow_cell hbn _ _ g3
                  replace g4 := grow_cell hbn _ _ g4
                  replace g5 := grow_cell hbn _ _ g5
                  replace g6 := grow_cell hbn _ _ g6
                  replace k0 := grow_cell hbn _ _ k0
                  replace k1 := grow_cell hbn _ _ k1
                  replace k2 := grow_cell hbn _ _ k2
                  replace k3 := grow_cell hbn _ _ k3
                  replace k4 := grow_cell hbn _ _ k4
                  replace k5 := grow_cell hbn _ _ k5
                  replace k6 := grow_cell hbn _ _ k6
                  cases hlk : likeL (xn, ((xv, xi), xk), ((xv', xi'), xk')) (yn, ((yv, yi), yk), ((yv', yi'), yk'))
                  · have Hlk := hide hlk
                    have Hno : Hid (∀ y ∈ P.take (t + 1), likeL (xn, ((xv, xi), xk), ((xv', xi'), xk')) y = true → y.1 = xn) := fun y hy h => by
                      rw [Htk.out, List.mem_append] at hy
                      rcases hy with hy | hy
                      · exact Hno0.out y hy h
                      · simp at hy; subst hy; rw [hlk] at h; cases h
                    clear hlk
                    obtain ⟨hd, hhad⟩ : ∃ hd, hd = (P.take t).any (likeL (xn, ((xv, xi), xk), ((xv', xi'), xk'))) := ⟨_, rfl⟩
                    rw [← hhad]
                    replace hhad := hhad.symm
                    cases hd
                    · have Hany : Hid ((P.take (t + 1)).any (likeL (xn, ((xv, xi), xk), ((xv', xi'), xk'))) = false) := by rw [Hid, Htk.out, List.any_append, hhad]; simp [Hlk.out]
                      clear hhad
                      go_wp2_with fail
                      refine (likeR_any (xn, ((xv, xi), xk), ((xv', xi'), xk')) (yn, ((yv, yi), yk), ((yv', yi'), yk')) _ _ _ _ _ (HX1.out.below hBn) (HX2.out.below hBn) (HY1.out.below hbn) (HY2.out.below hbn)).mono ?_
                      rintro e wn' ⟨rfl, hbn'⟩
                      rw [Hlk.out]
                      replace hBn := below_step hBn hbn'
                      clear hbn'
                      go_wp2_with fail
                      go_roundw
                      case rel => exact ⟨t + 1, by omega, by go_num, by rw [Hany.out], Hno.out, hBn⟩
                      case measure => simp [intOf]; omega
                    · have Hany : Hid ((P.take (t + 1)).any (likeL (xn, ((xv, xi), xk), ((xv', xi'), xk'))) = true) := by rw [Hid, Htk.out, List.any_append, hhad]; simp
                      clear hhad
                      go_wp2_with fail
                      go_roundw
                      case rel => exact ⟨t + 1, by omega, by go_num, by rw [Hany.out], Hno.out, hBn⟩
                      case measure => simp [intOf]; omega
                  · have Hlk := hide hlk
                    clear hlk
                    by_cases hne : xn = yn
                    · have Hno : Hid (∀ y ∈ P.take (t + 1), likeL (xn, ((xv, xi), xk), ((xv', xi'), xk')) y = true → y.1 = xn) := fun y hy h => by
                        rw [Htk.out, List.mem_append] at hy
                        rcases hy with hy | hy
                        · exact Hno0.out y hy h
                        · simp at hy; subst hy; exact hne.symm
                      subst hne
                      obtain ⟨hd, hhad⟩ : ∃ hd, hd = (P.take t).any (likeL (xn, ((xv, xi), xk), ((xv', xi'), xk'))) := ⟨_, rfl⟩
                      rw [← hhad]
                      replace hhad := hhad.symm
                      cases hd
                      · have Hany : Hid ((P.take (t + 1)).any (likeL (xn, ((xv, xi), xk), ((xv', xi'), xk'))) = true) := by rw [Hid, Htk.out, List.any_append, hhad]; simp [Hlk.out]
                        clear hhad
                        go_wp2_with fail
                        refine (likeR_any (xn, ((xv, xi), xk), ((xv', xi'), xk')) (xn, ((yv, yi), yk), ((yv', yi'), yk')) _ _ _ _ _ (HX1.out.below hBn) (HX2.out.below hBn) (HY1.out.below hbn) (HY2.out.below hbn)).mono ?_
                        rintro e wn' ⟨rfl, hbn'⟩
                        rw [Hlk.out]
                        replace hBn := below_step hBn hbn'
                        clear hbn'
                        go_wp2_with fail
                        go_roundw
                        case rel => exact ⟨t + 1, by omega, by go_num, by rw [Hany.out], Hno.out, hBn⟩
                        case measure => simp [intOf]; omega
                      · have Hany : Hid ((P.take (t + 1)).any (likeL (xn, ((xv, xi), xk), ((xv', xi'), xk'))) = true) := by rw [Hid, Htk.out, List.any_append, hhad]; simp
                        clear hhad
                        go_wp2_with fail
                        go_roundw
                        case rel => exact ⟨t + 1, by omega, by go_num, by rw [Hany.out], Hno.out, hBn⟩
                        case measure => simp [intOf]; omega
                    · have Hst : Hid (normC k = (6, [])) := Hkept.out.2.1 (Hkept.out.2.2.1.2 ⟨(yn, ((yv, yi), yk), ((yv', yi'), yk')), by
                        have hm : (yn, ((yv, yi), yk), ((yv', yi'), yk')) ∈ P.take (t + 1) := by rw [Htk.out]; simp
                        rw [show P.take (t + 1) = (P.take j).take (t + 1) by rw [List.take_take]; congr 1; omega] at hm
                        exact List.mem_of_mem_take hm, Hlk.out, fun e => hne e.symm⟩)
                      have hBfin := below_step (below_step hB5 hBa) hBn
                      have hyx : yn = !xn := by cases xn <;> cases yn <;> first | rfl | exact absurd rfl hne
                      subst hyx
                      clear hne
                      cases xn
                      all_goals
                        simp only [Bool.not_false, Bool.not_true] at *
                        go_wp2_with fail
                        go_ret2
                        exact ⟨.slice none 0 0, by rw [Hst.out]; rfl, by rw [Hst.out]; exact CIn.nil _, hBfin⟩
                · have hte : t = j := by omega
                  subst hte
                  have hbw : Below wo.heap.size wo wr := by
                    have hba2 := hba
                    rw [← hbx] at hba2
                    exact below_step hba2 hBn
                  have hsr' : w5.heap.size ≤ wo.heap.size := by rw [hbx]; exact hsr
                  obtain ⟨hd, hhad⟩ : ∃ hd, hd = (P.take t).any (likeL (xn, ((xv, xi), xk), ((xv', xi'), xk'))) := ⟨_, rfl⟩
                  rw [← hhad]
                  replace hhad := hhad.symm
                  cases hd
                  · have Hst : Hid (distC (P.take (t + 1)) = some (ou ++ [(xn, ((xv, xi), xk), ((xv', xi'), xk'))])) := Hkept.out.1 _ (Hkept.out.2.2.2.2 (fun y hy => by simpa using List.any_eq_false.1 hhad y hy))
                    have hb6 : ∀ ob, Below wo.heap.size wo (wr.alloc ob) := fun ob => below_step hbw (below_alloc _ _)
                    clear hhad
                    go_wp2_with (at_builtin; refine wpList_append_gen rfl (.tmp 106) (.tmp 108) 25 rfl w5.heap.size 57 iL (.agg #[.bool false, .bool false, .int .i64 0, .slice none 0 0, .bool false, .int .i64 0, .slice none 0 0]) 7 88 Tryz.underlying25 hi hz0 hz1 hz2 rfl (by decide) (.slice o1 ou.length o3) ou.length xs rfl (OwnL.below HO.out (hb6 _)).row _ 1 (litV (xn, ((xv, xi), xk), ((xv', xi'), xk')) (.slice ya (Fo.len xk) yc) (.slice za (Fo.len xk') zc)) rfl cs_lit hn1 hn2 (Nat.le_trans hsr' (hb6 _).size) ?_; intro v4 w4 ho4 hg4 hat4)
                    obtain ⟨hO4, hB4⟩ := ownL_more (l := (xn, ((xv, xi), xk), ((xv', xi'), xk'))) HO.out (hb6 _) hsr' (HA0.out.kept (fun q hq => (below_step hBo (hb6 _)).block q hq)) (HD0.out.kept (fun q hq => (below_step hBo (hb6 _)).block q hq)) ho4 hg4 hat4
                    obtain ⟨r1, r3, rfl⟩ := slice_of_cl hO4.cl
                    have HO4 := hide hO4
                    have hBB := hBo.trans hB4
                    clear hO4 ho4 hg4 hat4
                    go_wp2_with fail
                    go_roundw
                    case rel => exact ⟨t + 1, _, r1, r3, _, by omega, by go_num, rfl, by simp; omega, Hst.out, HO4.out, hBB⟩
                    case measure => simp [intOf]; omega
                  · have Hst : Hid (distC (P.take (t + 1)) = some ou) := Hkept.out.1 _ (Hkept.out.2.2.2.1.2 ⟨by
                      obtain ⟨y, hy, h⟩ := List.any_eq_true.1 hhad
                      exact ⟨y, hy, h⟩, fun ⟨y, hy, h, hne⟩ => hne (Hno0.out y hy h)⟩)
                    have HO2 : Hid (OwnL w5.heap.size (XO wr (.slice o1 ou.length o3)) wr ou (.slice o1 ou.length o3) xs) := (HO.out.below hbw).wide (fun q hq => ⟨by have := hq.1; have := hbw.size; omega, hq.2⟩) (fun _ h => h)
                    have hBB := below_step hBo hbw
                    clear hhad
                    go_wp2_with fail
                    go_roundw
                    case rel => exact ⟨t + 1, _, o1, o3, _, by omega, by go_num, rfl, by omega, Hst.out, HO2.out, hBB⟩
                    case measure => simp [intOf]; omega
            · have hje : j = P.length := by omega
              subst hje
              have Hn : Hid (GX ou ∧ normC k = keepC out ou) := by
                have ht := HT.out
                rw [List.take_length] at ht
                rcases HrP.out.2 with ⟨h, _⟩ | ⟨d, h, h2⟩
                · rw [ht] at h; cases h
                · rw [ht] at h; cases h; exact h2
              have HC6 := hide HO.out.cl
              have hB6 := below_step hB5 hBo
              clear HO HT
              obtain ⟨f1, fc, fb, fo, hfe, fad, flc, fcm, hFF⟩ := HC6.out
              simp only [Value.slice.injEq, true_and] at hfe
              obtain ⟨rfl, rfl⟩ := hfe
              unfold maxLen at fcm
              have HFF := hide hFF
              clear hFF
              obtain ⟨B0, hB0⟩ : ∃ B0, (decide (4 < ou.length) || decide (5 < vs.length)) = B0 := ⟨_, rfl⟩
              have HB0 := hide hB0
              clear hB0
              generalize wr = wq at *
              go_upto_region 35 with fail
              go_cut [17] (fun s17 wx => s17 = .bool B0 ∧ wq = wx)
              case first =>
                by_cases c4 : 4 < ou.length
                · have c4' : (4 : Int) < (ou.length : Int) := by omega
                  go_wp2_with fail
                  go_meet
                  case rel => exact ⟨by rw [← HB0.out, decide_eq_true c4]; rfl, rfl⟩
                have c4' : ¬ (4 : Int) < (ou.length : Int) := by omega
                by_cases c5 : 5 < vs.length
                · have c5' : (5 : Int) < (vs.length : Int) := by omega
                  go_wp2_with fail
                  go_meet
                  case rel => exact ⟨by rw [← HB0.out, decide_eq_true c5, Bool.or_true], rfl⟩
                · have c5' : ¬ (5 : Int) < (vs.length : Int) := by omega
                  go_wp2_with fail
                  go_meet
                  case rel => exact ⟨by rw [← HB0.out, decide_eq_false c4, decide_eq_false c5]; rfl, rfl⟩
              case rest =>
                obtain ⟨rfl, rfl⟩ := hcut
                have Hkb : Hid ((B0 || ou.any bigL) = true → keepC out ou = (4, [])) := fun h => keep_big (by
                  rw [← HB0.out, Bool.or_eq_true, Bool.or_eq_true, decide_eq_true_eq, decide_eq_true_eq, ← Hvl.out] at h
                  exact h)
                have Hko : Hid ((B0 || ou.any bigL) = false → keepC out ou = (0, ou)) := fun h => by
                  rw [← HB0.out, Bool.or_eq_false_iff, Bool.or_eq_false_iff, decide_eq_false_iff_not, decide_eq_false_iff_not, ← Hvl.out] at h
                  exact keep_ok h.1.1 h.1.2 h.2
                go_wp2_with fail
                go_loopw [17, 121] (fun v i wr => ∃ (t : Nat), t ≤ ou.length ∧ i = .int .i64 t ∧ v = .bool (B0 || (ou.take t).any bigL) ∧ Below wq.heap.size wq wr) (fun _ i _ => ou.length - (intOf i).toNat)
                case atStart => exact ⟨0, Nat.zero_le _, rfl, by simp, Below.refl _ _⟩
                case round =>
                  obtain ⟨t, ht, rfl, rfl, hBn⟩ := hrel
                  obtain ⟨cb, hcb⟩ : ∃ cb, (B0 || (ou.take t).any bigL) = cb := ⟨_, rfl⟩
                  rw [hcb]
                  have Hcb := hide hcb
                  clear hcb
                  by_cases htl : t < ou.length
                  · have htl' : (t : Int) < (ou.length : Int) := by omega
                    obtain ⟨⟨yn, ⟨⟨yv, yi⟩, yk⟩, ⟨yv', yi'⟩, yk'⟩, hy⟩ : ∃ y, ou[t]? = some y := ⟨ou[t]'htl, by simp⟩
                    obtain ⟨p0, p1, p2, ⟨u3, p3, hA⟩, p4, p5, u6, p6, hD⟩ := (HFF.out.below hBn).at hy
                    have hf1 : o1 = some ⟨fb, fo, none⟩ := fad (by omega)
                    subst hf1
                    have HY1 := hide hA
                    have HY2 := hide hD
                    obtain ⟨ta, tc, _, _, rfl, -, -, -, -⟩ := hA
                    obtain ⟨sa, sc, _, _, rfl, -, -, -, -⟩ := hD
                    have Hgl := hide (Hn.out.1.2 _ (List.mem_of_getElem? hy))
                    have hs1 : tszR yk ≤ 4000000000000 := Hgl.out.sl
                    have hs2 : tszR yk' ≤ 4000000000000 := Hgl.out.sr
                    have Hw1 : Hid (wrap64 (tszR yk : Nat) = (tszR yk : Nat)) := wrap64_small (by omega) (by omega)
                    have Hw2 : Hid (wrap64 (tszR yk' : Nat) = (tszR yk' : Nat)) := wrap64_small (by omega) (by omega)
                    have Hnx : Hid ((B0 || (ou.take (t + 1)).any bigL) = (cb || (decide (12 < tszR yk) || decide (12 < tszR yk')))) := by
                      rw [Hid, ← Hcb.out, List.take_add_one, hy]
                      simp [bigL, Bool.or_assoc]
                    clear hy fad
                    simp only at *
                    cases cb
                    · go_wp2_with fail
                      refine (sizeR_any (yv, yi) yk _ _ (HY1.out.alloc _)).mono ?_
                      rintro e w7 ⟨rfl, hb7⟩
                      rw [Hw1.out]
                      obtain ⟨g0, g1, g2, g3, g4, g5, g6, -, hb7', hlt7⟩ := lit_cells hb7
                      replace hBn := below_step hBn hb7'
                      replace HY2 := hide (HY2.out.below hb7')
                      clear hb7 hb7' p0 p1 p2 p3 p4 p5 p6
                      by_cases c1 : 12 < tszR yk
                      · have c1' : (12 : Int) < (tszR yk : Nat) := by omega
                        have hd1 : decide ((12 : Int) < (tszR yk : Nat)) = true := decide_eq_true c1'
                        go_wp2_with fail
                        go_roundw
                        case rel => exact ⟨t + 1, by omega, by go_num, by rw [Hnx.out, decide_eq_true c1]; rfl, hBn⟩
                        case measure => simp [intOf]; omega
                      · have c1' : ¬ (12 : Int) < (tszR yk : Nat) := by omega
                        have hd1 : decide ((12 : Int) < (tszR yk : Nat)) = false := decide_eq_false c1'
                        go_wp2_with fail
                        refine (sizeR_any (yv', yi') yk' _ _ HY2.out).mono ?_
                        rintro e w8 ⟨rfl, hb8⟩
                        rw [Hw2.out]
                        replace hBn := below_step hBn hb8
                        clear hb8
                        obtain ⟨c2, hc2⟩ : ∃ c2, decide ((12 : Int) < (tszR yk' : Nat)) = c2 := ⟨_, rfl⟩
                        have Hc2 : Hid (decide (12 < tszR yk') = c2) := by
                          rw [Hid, ← hc2, decide_eq_decide]
                          omega
                        go_wp2_with fail
                        go_roundw
                        case rel => exact ⟨t + 1, by omega, by go_num, by rw [Hnx.out, decide_eq_false c1, Hc2.out, ← hc2]; simp, hBn⟩
                        case measure => simp [intOf]; omega
                    · have hBn2 := below_step hBn (below_alloc wr (.cells #[.bool yn, .bool yv, .int .i64 yi, .slice ta (Fo.len yk) tc, .bool yv', .int .i64 yi', .slice sa (Fo.len yk') sc] 57))
                      go_wp2_with fail
                      go_roundw
                      case rel => exact ⟨t + 1, by omega, by go_num, by rw [Hnx.out]; rfl, hBn2⟩
                      case measure => simp [intOf]; omega
                  · have hte : t = ou.length := by omega
                    subst hte
                    have Hfin : Hid ((B0 || ou.any bigL) = cb) := by
                      have := Hcb.out
                      rw [List.take_length] at this
                      exact this
                    have HC7 := hide (HC6.out.below hBn)
                    have hBfin := below_step hB6 hBn
                    cases cb
                    · have Hk := hide (Hko.out Hfin.out)
                      go_wp2_with fail
                      go_ret2
                      exact ⟨.slice o1 ou.length o3, by rw [Hn.out.2, Hk.out]; rfl, by rw [Hn.out.2, Hk.out]; exact HC7.out, hBfin⟩
                    · have Hk := hide (Hkb.out Hfin.out)
                      go_wp2_with fail
                      go_ret2
                      exact ⟨.slice none 0 0, by rw [Hn.out.2, Hk.out]; rfl, by rw [Hn.out.2, Hk.out]; exact CIn.nil _, hBfin⟩

theorem normD_any (k : Cl) (a : Value) (w : World) (hS : CIn w k a) (hg : GC k) :
    Calls Tryz.prog 13 #[a] w fun e w' => ∃ v, e = .returned (.tuple #[v, .int .i64 (normC k).1]) ∧ CIn w' (normC k).2 v ∧ Below w.heap.size w w' := normD_anyX k a w hS hg.x

end Go.Proofs.YtaliegkkdhkfcacGreatDoor

namespace Go.Proofs.YtaliegkkdhkfcacGreatDoor
open Go.RowKit Go.Deep Go.ChangeShapes Go.WideShapes

theorem Tryz.info25 : (Tryz.prog.info? 25).map (fun i => (i.zero, i.size, i.bytes)) = some (some (.slice none 0 0), 1, 24) := by kernel_rfl

/-- What is added, told alone. -/
def addP (st : List Cl × Bool) (n : Int × Cl) : List Cl × Bool := if n.1 = 4 then (st.1, true) else if n.1 ≠ 0 then st else if st.1.any (fun x => sameC x n.2) then st else (st.1 ++ [n.2], st.2)

structure LSt (lo : Nat) (w : World) (p : Nat) (cs : List Cl) (lost : Bool) (v : Value) (xs : List Value) : Prop where
  c0 : w.cell? ⟨p, 0, none⟩ = some v
  c1 : w.cell? ⟨p, 1, none⟩ = some (.bool lost)
  cn : w.cell? ⟨p, 2, none⟩ = none
  fz : ∀ i, w.frozen? ⟨p, i, none⟩ = false
  row : w.ownsRow lo 25 1 v cs.length xs
  sl : ∀ g, v.ownBlock = some g → SlR w g
  el : ∀ (i : Nat) (c : Cl), cs[i]? = some c → ∃ cv, xs[i]? = some cv ∧ CIn w c cv
  po : lo ≤ p ∧ p < w.heap.size
  ne : v.ownBlock ≠ some p
section
variable {lo : Nat} {w w' : World} {p : Nat} {cs : List Cl} {lost : Bool} {v : Value} {xs : List Value}

theorem LSt.slice (h : LSt lo w p cs lost v xs) : ∃ z1 z3, v = .slice z1 cs.length z3 := by
  rcases h.row.2 with ⟨rfl, e⟩ | ⟨g, cap, cur, rfl, _⟩
  · exact ⟨none, 0, by rw [e]⟩
  · exact ⟨_, cap, rfl⟩
theorem LSt.below (h : LSt lo w p cs lost v xs) (hb : Below w.heap.size w w') : LSt lo w' p cs lost v xs where
  c0 := grow_cell hb _ _ h.c0
  c1 := grow_cell hb _ _ h.c1
  cn := by rw [hb.cell (p := ⟨p, 2, none⟩) h.po.2]; exact h.cn
  fz := fun i => (hb.frozen (p := ⟨p, i, none⟩) h.po.2).trans (h.fz i)
  row := owns_keep h.row (fun g hg => hb.block g (owns_at h.row g hg).2)
  sl := fun g hg => (h.sl g hg).keep (hb.block g (owns_at h.row g hg).2)
  el := fun i c hc => by
    obtain ⟨cv, h1, h2⟩ := h.el i c hc
    exact ⟨cv, h1, h2.below hb⟩
  po := ⟨h.po.1, Nat.lt_of_lt_of_le h.po.2 hb.size⟩
  ne := h.ne
theorem LSt.not (h : LSt lo w p cs lost v xs) : NoT w p := fun o x hx => by
  obtain ⟨z1, z3, e⟩ := h.slice
  match o, hx with
  | 0, hx => rw [h.c0, e] at hx; cases hx
  | 1, _ => exact h.cn
  | o + 2, hx =>
    exfalso
    -- no cell behind the second one
    have h2 := h.cn
    obtain ⟨cur, T, f, hb⟩ : ∃ cur T f, w.heap[p]? = some (.cells cur T f) := by
      have h0 := h.c0
      unfold World.cell? at h0
      revert h0
      cases hp : w.heap[p]? with
      | none => intro h0; simp at h0
      | some ob =>
        cases ob with
        | cells cur T f => intro _; exact ⟨cur, T, f, rfl⟩
        | _ => intro h0; simp at h0
    have e1 : cur[2]? = none := by simpa [World.cell?, hb] using h2
    have e2 : cur[o + 2]? = some (.bool x) := by simpa [World.cell?, hb] using hx
    have l1 : cur.size ≤ 2 := by simpa using e1
    have l2 : o + 2 < cur.size := (Array.getElem?_eq_some_iff.1 e2).1
    omega
/-- A list of clauses, as they lie there. -/
theorem LSt.csin (h : LSt lo w p cs lost v xs) : CsIn w cs v := by
  have hcells := fun g hg => h.row.cells (g := g) hg
  rcases h.row.2 with ⟨e, h0⟩ | ⟨g, cap, cur, e, _, _, hn, hm, _, _⟩
  · have : cs = [] := List.length_eq_zero_iff.1 h0
    rw [this, e]
    exact CsIn.nil w
  · refine ⟨some ⟨g, 0, none⟩, cap, g, 0, e, fun _ => rfl, hn, hm, fun i c hc => ?_⟩
    obtain ⟨cv, h1, h2⟩ := h.el i c hc
    refine ⟨cv, ?_, h2⟩
    have := hcells g (by rw [e]; rfl) i cv h1
    rw [add_plain] at this
    exact this
/-- Something was lost. -/
theorem LSt.lose (h : LSt lo w p cs lost v xs) : LSt lo (w.setCell ⟨p, 1, none⟩ (.bool true)) p cs true v xs ∧ Fr w (w.setCell ⟨p, 1, none⟩ (.bool true)) (some p) v.ownBlock := by
  have hf : Fr w (w.setCell ⟨p, 1, none⟩ (.bool true)) (some p) v.ownBlock := ⟨rfl, rfl, rfl, by simp [World.setCell], fun q hq h1 _ => Below.heap_setCell _ _ _ q (fun e => h1 (congrArg some e))⟩
  have hk : Kpt w (w.setCell ⟨p, 1, none⟩ (.bool true)) := kpt_of fun q hq hn => Below.heap_setCell _ _ _ q (fun e => hn (by rw [e]; exact h.not))
  refine ⟨⟨?_, set_same h.c1, ?_, fun i => by simpa using h.fz i, ?_, ?_, ?_, ⟨h.po.1, by simpa [World.setCell] using h.po.2⟩, h.ne⟩, hf⟩
  · rw [set_other (by intro e; simp at e)]; exact h.c0
  · rw [set_other (by intro e; simp at e)]; exact h.cn
  · exact owns_keep h.row (fun g hg => Below.heap_setCell _ _ _ g (fun e => h.ne (by rw [hg]; exact congrArg some e)))
  · exact fun g hg => (h.sl g hg).keep (Below.heap_setCell _ _ _ g (fun e => h.ne (by rw [hg]; exact congrArg some e)))
  · intro i c hc
    obtain ⟨cv, h1, h2⟩ := h.el i c hc
    exact ⟨cv, h1, hk.cin h2⟩
/-- One clause more. -/
theorem LSt.push (h : LSt lo w p cs lost v xs) {c : Cl} {z1 : Option Addr} {z3 : Nat} (hC : CIn w c (.slice z1 c.length z3)) {v4 : Value} {w3 w4 : World} (hb : Below w.heap.size w w3)
    (ho : w4.ownsRow lo 25 1 v4 (cs.length + 1) (xs ++ [.slice z1 c.length z3])) (hg : w3.grownBy w4 v.ownBlock) (hat : v4.ownBlock = v.ownBlock ∨ v4.ownBlock = some w3.heap.size) (hsl : ∀ g, v4.ownBlock = some g → SlR w4 g) :
    LSt lo (w4.setCell ⟨p, 0, none⟩ v4) p (cs ++ [c]) lost v4 (xs ++ [.slice z1 c.length z3]) ∧ Fr w (w4.setCell ⟨p, 0, none⟩ v4) (some p) v.ownBlock ∧ w4.cell? ⟨p, 0, none⟩ = some v ∧ w4.frozen? ⟨p, 0, none⟩ = false := by
  have h3 := h.below hb
  have hs3 := hb.size
  have hp3 : p < w3.heap.size := h3.po.2
  have hpb : w4.heap[p]? = w3.heap[p]? := hg.block p hp3 (fun e => h.ne e.symm)
  have hne4 : v4.ownBlock ≠ some p := by
    rcases hat with e | e
    · rw [e]; exact h.ne
    · rw [e]; simp; omega
  have c0 : w4.cell? ⟨p, 0, none⟩ = some v := by rw [World.cell?_of_block hpb]; exact h3.c0
  have c1 : w4.cell? ⟨p, 1, none⟩ = some (.bool lost) := by rw [World.cell?_of_block hpb]; exact h3.c1
  have cn : w4.cell? ⟨p, 2, none⟩ = none := by rw [World.cell?_of_block hpb]; exact h3.cn
  have fz : ∀ i, w4.frozen? ⟨p, i, none⟩ = false := fun i => by rw [← h3.fz i]; simp only [World.frozen?, hpb]
  have hs4 := hg.size
  have hk34 : Kpt w3 w4 := kpt_of fun q hq hn => hg.block q hq (fun e => hn (h3.sl q e.symm).not)
  have hn4 : NoT w4 p := fun o x hx => by
    rw [World.cell?_of_block hpb] at hx
    rw [World.cell?_of_block hpb]
    exact h3.not o x hx
  have hk45 : Kpt w4 (w4.setCell ⟨p, 0, none⟩ v4) := kpt_of fun q hq hn => Below.heap_setCell _ _ _ q (fun e => hn (by rw [e]; exact hn4))
  have hk := ((kpt_below hb).trans hk34).trans hk45
  have offp : ∀ g, v4.ownBlock = some g → (w4.setCell ⟨p, 0, none⟩ v4).heap[g]? = w4.heap[g]? := fun g hgg => Below.heap_setCell _ _ _ g (fun e => hne4 (by rw [hgg]; exact congrArg some e))
  have hxl : xs.length = cs.length := by have := h.row.1; omega
  refine ⟨⟨set_same c0, ?_, ?_, fun i => by simpa using fz i, ?_, fun g hgg => (hsl g hgg).keep (offp g hgg), ?_, ⟨h.po.1, by simp [World.setCell]; omega⟩, hne4⟩, ?_, c0, fz 0⟩
  · rw [set_other (by intro e; simp at e)]; exact c1
  · rw [set_other (by intro e; simp at e)]; exact cn
  · rw [List.length_append]; exact owns_keep ho offp
  · intro i d hd
    by_cases hi : i < cs.length
    · rw [List.getElem?_append_left hi] at hd
      obtain ⟨cv, h1, h2⟩ := h.el i d hd
      exact ⟨cv, by rw [List.getElem?_append_left (by omega)]; exact h1, hk.cin h2⟩
    · have hil := (List.getElem?_eq_some_iff.1 hd).1
      simp only [List.length_append, List.length_cons, List.length_nil] at hil
      have hie : i = cs.length := by omega
      subst hie
      rw [List.getElem?_append_right (Nat.le_refl _), Nat.sub_self] at hd
      simp only [List.getElem?_cons_zero, Option.some.injEq] at hd
      subst hd
      refine ⟨.slice z1 c.length z3, ?_, hk.cin hC⟩
      rw [List.getElem?_append_right (by omega), hxl, Nat.sub_self]
      rfl
  · refine ⟨hg.os.trans hb.os, hg.tape.trans hb.tape, hg.output.trans hb.output, by simp [World.setCell]; omega, fun q hq e1 e2 => ?_⟩
    rw [Below.heap_setCell _ _ _ q (fun e => e1 (congrArg some e)), hg.block q (by omega) e2, hb.block q hq]
end

theorem addP_lost {st : List Cl × Bool} {n : Int × Cl} (h : n.1 = 4) : addP st n = (st.1, true) := if_pos h
theorem addP_none {st : List Cl × Bool} {n : Int × Cl} (h : ¬ n.1 = 4) (h0 : ¬ n.1 = 0) : addP st n = st := by rw [addP, if_neg h, if_pos h0]
theorem addP_had {st : List Cl × Bool} {n : Int × Cl} (h0 : n.1 = 0) (h : st.1.any (fun x => sameC x n.2) = true) : addP st n = st := by rw [addP, if_neg (by omega), if_neg (by omega), if_pos h]
theorem addP_new {st : List Cl × Bool} {n : Int × Cl} (h0 : n.1 = 0) (h : st.1.any (fun x => sameC x n.2) = false) : addP st n = (st.1 ++ [n.2], st.2) := by rw [addP, if_neg (by omega), if_neg (by omega), if_neg (by simp [h])]
/-- What add leaves. -/
def AddLPost (lo : Nat) (w : World) (p : Nat) (st : List Cl × Bool) (n : Int × Cl) (v : Value) (e : Ending) (w' : World) : Prop :=
  e = .returned (.tuple #[]) ∧ ∃ v' xs', LSt lo w' p (addP st n).1 (addP st n).2 v' xs' ∧ Fr w w' (some p) v.ownBlock ∧ (v'.ownBlock = v.ownBlock ∨ ∃ g, v'.ownBlock = some g ∧ w.heap.size ≤ g)

end Go.Proofs.YtaliegkkdhkfcacGreatDoor

namespace Go.Proofs.YtaliegkkdhkfcacGreatDoor
open Go.RowKit Go.Deep Go.ChangeShapes Go.WideShapes

/-- By what is bound it is some term that is no greater than N. -/
def OrT (N : Nat) (s : Sb) (t : Tm) : Prop := ∃ u, okT u ∧ szT u ≤ N ∧ subT (bnd s) t = subT (bnd s) u
/-- .. that is no variable that is bound. -/
def OrB (N : Nat) (s : Sb) (t : Tm) : Prop := ∃ u, okT u ∧ szT u ≤ N ∧ t = subT (bnd s) u ∧ (u.1.1 = true → look s u.1.2 = none)
structure Org (N : Nat) (s : Sb) (L : List (Tm × Tm)) : Prop where
  ol : ∀ p ∈ L, OrT N s p.1 ∧ OrT N s p.2
  ob : ∀ p ∈ s, OrB N s p.2

theorem or_res {N : Nat} {s : Sb} (ho : ∀ p ∈ s, OrB N s p.2) {t : Tm} (ht : OrT N s t) : OrB N s (subT (bnd s) t) := by
  obtain ⟨u, h1, h2, h3⟩ := ht
  by_cases hv : u.1.1 = true
  · cases e : look s u.1.2 with
    | none => exact ⟨u, h1, h2, h3, fun _ => e⟩
    | some v =>
      obtain ⟨u', k1, k2, k3, k4⟩ := ho _ (look_mem e)
      refine ⟨u', k1, k2, ?_, k4⟩
      rw [h3]
      have : subT (bnd s) u = v := by
        unfold subT
        rw [if_pos hv]
        exact bnd_some e
      rw [this]
      exact k3
  · exact ⟨u, h1, h2, h3, fun e => absurd e hv⟩

theorem org_add {N : Nat} {s s' : Sb} {p : Tm × Tm} {L : List (Tm × Tm)} {x y : Tm} (h : UI s (p :: L)) (ho : Org N s (p :: L)) (hxy : x = top s p.1 ∧ y = top s p.2 ∨ x = top s p.2 ∧ y = top s p.1) (hv : x.1.1 = true) (ha : addS s x.1.2 (subT (bnd s) y) = some s') : Org N s' L := by
  obtain ⟨_, _, f1, f2⟩ := step_add h hxy hv ha
  have hp := h.gL p (by simp)
  have hgy : Gd y := by rcases hxy with ⟨_, rfl⟩ | ⟨_, rfl⟩; exact gd_top h.gs hp.2; exact gd_top h.gs hp.1
  have hfree : look s x.1.2 = none := by rcases hxy with ⟨rfl, _⟩ | ⟨rfl, _⟩ <;> exact top_free h.idem hv
  have hgt := gd_sub h.gs hgy
  obtain ⟨_, _, _, _, f5⟩ := add_facts ha h.idem hfree hgt.ok (fun m hm => sub_free h.idem hm)
  have hr : ∀ u, subT (bnd s') u = subT (bnd [(x.1.2, subT (bnd s) y)]) (subT (bnd s) u) := fun u => by
    rw [← ref_sub f1, f5 _ (fun m hm => sub_free h.idem hm)]
  have hOy : OrB N s (subT (bnd s) y) := by
    have hpo := ho.ol p (by simp)
    rcases hxy with ⟨_, rfl⟩ | ⟨_, rfl⟩
    · rw [top_sub h.idem (ui_ok h)]; exact or_res ho.ob hpo.2
    · rw [top_sub h.idem (ui_ok h)]; exact or_res ho.ob hpo.1
  obtain ⟨u, u1, u2, u3, u4⟩ := hOy
  have hno := (addS_some ha).1
  have hl : look s' x.1.2 = some (subT (bnd s) y) := by rw [add_look ha, hfree]; simp
  -- what is new, by all that is bound then
  have hy' : subT (bnd s) y = subT (bnd s') u := by
    have e1 : bnd s' x.1.2 = subT (bnd s) y := bnd_some hl
    rw [← ref_sub f1 u, ← u3, ref_sub f1 y, ← f2, e1]
  have hu' : u.1.1 = true → look s' u.1.2 = none := fun e => by
    have hne : x.1.2 ≠ u.1.2 := fun e' => hno (by
      rw [u3]
      have : subT (bnd s) u = vr u.1.2 := by
        unfold subT
        rw [if_pos e]
        exact bnd_none (u4 e)
      rw [this, occ_vr]
      exact e'.symm)
    rw [add_look ha, u4 e]
    simp [hne]
  refine ⟨fun q hq => ?_, fun q hq => ?_⟩
  · obtain ⟨⟨a, a1, a2, a3⟩, ⟨b, b1, b2, b3⟩⟩ := ho.ol q (by simp [hq])
    exact ⟨⟨a, a1, a2, by rw [← ref_sub f1 q.1, a3, ref_sub f1]⟩, ⟨b, b1, b2, by rw [← ref_sub f1 q.2, b3, ref_sub f1]⟩⟩
  · rw [(addS_some ha).2, List.mem_append, List.mem_map, List.mem_singleton] at hq
    rcases hq with ⟨q, hq, rfl⟩ | rfl
    · obtain ⟨a, a1, a2, a3, a4⟩ := ho.ob q hq
      by_cases hav : a.1.1 = true ∧ a.1.2 = x.1.2
      · refine ⟨u, u1, u2, ?_, hu'⟩
        have e1 : q.2 = vr x.1.2 := by
          rw [a3]
          unfold subT
          rw [if_pos hav.1, ← hav.2]
          exact bnd_none (a4 hav.1)
        show subT (bnd [(x.1.2, subT (bnd s) y)]) q.2 = _
        rw [e1, ← hy']
        show bnd [(x.1.2, subT (bnd s) y)] x.1.2 = _
        rw [bnd_one, if_pos rfl]
      · refine ⟨a, a1, a2, ?_, fun e => ?_⟩
        · show subT (bnd [(x.1.2, subT (bnd s) y)]) q.2 = _
          rw [a3, ← hr]
        · have hne : x.1.2 ≠ a.1.2 := fun e' => hav ⟨e, e'.symm⟩
          rw [add_look ha, a4 e]
          simp [hne]
    · exact ⟨u, u1, u2, hy', hu'⟩
theorem org_kids {N : Nat} {s : Sb} {L : List (Tm × Tm)} (h : UI s L) (ho : ∀ p ∈ s, OrB N s p.2) {t : Tm} (ht : OrT N s t) (e1 : ¬ (top s t).1.1 = true) : ∀ c ∈ (top s t).2.list, OrT N s c := by
  obtain ⟨u, u1, u2, u3, u4⟩ := or_res ho ht
  rw [← top_sub h.idem (ui_ok h) t, sym_eq e1, subT_sym] at u3
  have hu : ¬ u.1.1 = true := fun e => by
    have : subT (bnd s) u = vr u.1.2 := by
      unfold subT
      rw [if_pos e]
      exact bnd_none (u4 e)
    rw [this] at u3
    have := congrArg (fun t : Tm => t.1.1) u3
    simp [vr] at this
  rw [sym_eq hu, subT_sym] at u3
  have hF : subF (bnd s) (top s t).2 = subF (bnd s) u.2 := congrArg Prod.snd u3
  have hL : (top s t).2.list.map (subT (bnd s)) = u.2.list.map (subT (bnd s)) := by rw [← subF_list, ← subF_list, hF]
  intro c hc
  obtain ⟨i, hi, rfl⟩ := List.mem_iff_getElem.1 hc
  have hlen : (top s t).2.list.length = u.2.list.length := by
    have := congrArg List.length hL
    simpa using this
  have hi' : i < u.2.list.length := by omega
  refine ⟨u.2.list[i], ok_mem u1.2 (List.getElem_mem _), ?_, ?_⟩
  · have : szT u.2.list[i] < szT (u.1, u.2) := sz_mem (List.getElem_mem _)
    have e : szT (u.1, u.2) = szT u := rfl
    omega
  · have h1 : ((top s t).2.list.map (subT (bnd s)))[i]? = (u.2.list.map (subT (bnd s)))[i]? := by rw [hL]
    rw [List.getElem?_map, List.getElem?_map, List.getElem?_eq_getElem hi, List.getElem?_eq_getElem hi'] at h1
    simpa using h1
theorem org_step {N : Nat} {s s' : Sb} {p : Tm × Tm} {L L' : List (Tm × Tm)} (h : UI s (p :: L)) (ho : Org N s (p :: L)) (hst : stepU s p.1 p.2 L = some (s', L')) : Org N s' L' := by
  rcases stepU_cases hst with ⟨_, _, _, rfl, rfl⟩ | ⟨x, y, hxy, hv, ha, rfl⟩ | ⟨e1, e2, _, hl, rfl, rfl⟩
  · exact ⟨fun q hq => ho.ol q (by simp [hq]), ho.ob⟩
  · exact org_add h ho hxy hv ha
  · have hpo := ho.ol p (by simp)
    refine ⟨fun q hq => ?_, ho.ob⟩
    rw [List.mem_append] at hq
    rcases hq with hq | hq
    · have := List.of_mem_zip hq
      exact ⟨org_kids h ho.ob hpo.1 e1 _ this.1, org_kids h ho.ob hpo.2 e2 _ this.2⟩
    · exact ho.ol q (by simp [hq])
theorem org_run {N : Nat} : ∀ (n : Nat) (s s' : Sb) (L : List (Tm × Tm)), UI s L → Org N s L → runU n s L = some (some s') → UI s' [] ∧ Org N s' [] := by
  intro n
  induction n with
  | zero => intro s s' L _ _ hr; simp [runU] at hr
  | succ n ih =>
    intro s s' L h ho hr
    cases L with
    | nil =>
      simp only [runU, Option.some.injEq] at hr
      subst hr
      exact ⟨h, ho⟩
    | cons p L =>
      cases hst : stepU s p.1 p.2 L with
      | none => simp [runU, hst] at hr
      | some q =>
        obtain ⟨s1, L1⟩ := q
        simp only [runU, hst] at hr
        exact ih s1 s' L1 (step_keeps h hst).1 (org_step h ho hst) hr

theorem sub_leF {f : Int → Tm} {M : Nat} (hM : 1 ≤ M) : ∀ {F : Fo}, Fo.ok F → (∀ n, occF n F → szT (f n) ≤ M) → Fo.sizesR (subF f F) ≤ Fo.sizesR F * M
  | .nil, _, _ => by simp [subF, Fo.sizesR]
  | .node p q ⟨v, m⟩ k r, ho, h => by
    obtain ⟨_, _, h3, h4⟩ := ok_node.1 ho
    have hr := sub_leF hM h4 (fun n hn => h n (by rw [occF]; exact .inr hn))
    rw [subF_node]
    simp only [Fo.sizesR]
    cases v with
    | true =>
      have hk : k = .nil := h3.1 rfl
      subst hk
      have := h m (by rw [occF]; exact .inl (by simp))
      simp only [subT_var, szT, tszR] at this ⊢
      simp only [Fo.sizesR, Nat.add_mul, Nat.zero_mul, Nat.one_mul]
      omega
    | false =>
      have hk := sub_leF hM (F := k) h3.2 (fun n hn => h n (by rw [occF]; exact .inl (by simpa using hn)))
      simp only [subT_sym, Nat.add_mul, Nat.one_mul]
      omega
theorem sub_le {f : Int → Tm} {M : Nat} (hM : 1 ≤ M) {t : Tm} (ho : okT t) (h : ∀ n, occT n t → szT (f n) ≤ M) : szT (subT f t) ≤ szT t * M := by
  obtain ⟨⟨v, m⟩, k⟩ := t
  cases v with
  | true =>
    rw [subT_var]
    have := h m (by simp [occT])
    have h1 : 1 ≤ szT ((true, m), k) := by simp only [szT, tszR]; omega
    have := Nat.mul_le_mul_right M h1
    omega
  | false =>
    rw [subT_sym]
    have := sub_leF hM (F := k) ho.2 (fun n hn => h n (by simp [occT, hn]))
    simp only [szT, tszR, Nat.add_mul, Nat.one_mul]
    omega
theorem countS_less {f g : Int × Tm → Bool} {a : Int × Tm} : ∀ {l : Sb}, (∀ x, g x = true → f x = true) → a ∈ l → f a = true → g a = false → l.countP g < l.countP f
  | [], _, h, _, _ => by cases h
  | y :: r, hfg, h, hf, hg => by
    have hle : r.countP g ≤ r.countP f := List.countP_mono_left (fun x _ hx => hfg x hx)
    rw [List.countP_cons, List.countP_cons]
    rcases List.mem_cons.1 h with rfl | h
    · rw [hf, hg]; simp; omega
    · have := countS_less (l := r) hfg h hf hg
      by_cases hy : g y = true
      · rw [hy, hfg y hy]; simp; omega
      · have : g y = false := by simpa using hy
        rw [this]
        simp only [Bool.false_eq_true, if_false]
        split <;> omega
/-- How many of those that are bound are to less. -/
def rnk (s : Sb) (m : Int) : Nat := s.countP fun p => decide (szT p.2 < szT (bnd s m))
theorem org_size {N : Nat} (hN : 1 ≤ N) {s : Sb} (ho : ∀ p ∈ s, OrB N s p.2) : ∀ (k : Nat) (m : Int), rnk s m = k → szT (bnd s m) ≤ N ^ (k + 1) := by
  intro k
  induction k using Nat.strongRecOn with
  | _ k ih =>
    intro m hk
    have hpos : ∀ j, 1 ≤ N ^ j := fun j => Nat.one_le_iff_ne_zero.2 (Nat.pos_iff_ne_zero.1 (Nat.pow_pos (by omega)))
    cases e : look s m with
    | none =>
      rw [bnd_none e]
      have := hpos (k + 1)
      simp only [vr, szT, tszR, Fo.sizesR]
      omega
    | some t =>
      have hb := bnd_some e
      obtain ⟨u, u1, u2, u3, u4⟩ := ho _ (look_mem e)
      simp only at u3
      by_cases hv : u.1.1 = true
      · have : subT (bnd s) u = vr u.1.2 := by
          unfold subT
          rw [if_pos hv]
          exact bnd_none (u4 hv)
        rw [hb, u3, this]
        have := hpos (k + 1)
        simp only [vr, szT, tszR, Fo.sizesR]
        omega
      · have key : ∀ n, occT n u → szT (bnd s n) ≤ N ^ k := fun n hn => by
          cases e2 : look s n with
          | none =>
            rw [bnd_none e2]
            have := hpos k
            simp only [vr, szT, tszR, Fo.sizesR]
            omega
          | some v =>
            have hlt : szT (bnd s n) < szT (bnd s m) := by
              rw [hb, u3]
              have he := sym_eq hv
              rw [he] at hn ⊢
              rw [occ_sym] at hn
              rw [subT_sym]
              have := size_occF (f := bnd s) hn
              simp only [szT, tszR] at this ⊢
              omega
            have hr : rnk s n < rnk s m := countS_less (a := (n, v)) (fun x hx => by
              simp only [decide_eq_true_eq] at hx ⊢
              omega) (look_mem e2) (by
              simp only [decide_eq_true_eq]
              rw [bnd_some e2] at hlt
              exact hlt) (by
              simp only [decide_eq_false_iff_not]
              rw [bnd_some e2]
              omega)
            have h1 := ih (rnk s n) (by omega) n rfl
            have h2 : N ^ (rnk s n + 1) ≤ N ^ k := Nat.pow_le_pow_right hN (by omega)
            omega
        rw [hb, u3]
        have h1 := sub_le (hpos k) u1 key
        have h2 := Nat.mul_le_mul_right (N ^ k) u2
        rw [Nat.pow_succ, Nat.mul_comm (N ^ k) N]
        omega
theorem rnk_lt {s : Sb} {m : Int} {t : Tm} (h : look s m = some t) : rnk s m < s.length := by
  have := countS_less (f := fun _ => true) (g := fun p => decide (szT p.2 < szT (bnd s m))) (a := (m, t)) (l := s) (fun _ _ => rfl) (look_mem h) rfl (by
    simp only [decide_eq_false_iff_not]
    rw [bnd_some h]
    omega)
  rw [List.countP_true] at this
  exact this
/-- What makes two terms the same is to no more than so much. -/
theorem mgu_size {n : Nat} {a b : Tm} {s : Sb} (h : UI [] [(a, b)]) (hr : runU n [] [(a, b)] = some (some s)) (ha : szT a ≤ 12) (hb : szT b ≤ 12) (m : Int) : szT (bnd s m) ≤ 61917364224 := by
  have hg := h.gL (a, b) (by simp)
  obtain ⟨hu, ho⟩ := org_run (N := 12) n [] s [(a, b)] h ⟨fun p hp => by
    simp only [List.mem_singleton] at hp
    subst hp
    exact ⟨⟨a, hg.1.ok, ha, rfl⟩, ⟨b, hg.2.ok, hb, rfl⟩⟩, fun p hp => by cases hp⟩ hr
  cases e : look s m with
  | none => rw [bnd_none e]; simp only [vr, szT, tszR, Fo.sizesR]; omega
  | some t =>
    have h1 := org_size (N := 12) (by omega) ho.ob (rnk s m) m rfl
    have h2 := rnk_lt e
    have h3 := (ui_len hu).2
    have h4 : 12 ^ (rnk s m + 1) ≤ 12 ^ 10 := Nat.pow_le_pow_right (by omega) (by omega)
    have h5 : (12 : Nat) ^ 10 = 61917364224 := by decide
    omega

end Go.Proofs.YtaliegkkdhkfcacGreatDoor

namespace Go.Proofs.YtaliegkkdhkfcacGreatDoor
open Go.RowKit Go.Deep Go.ChangeShapes Go.WideShapes
attribute [local go_sem ↓] Go.wp_at_zero Go.wp_at_succ

/-- What U answers is what Unify does. -/
def UOK (U : Tm → Tm → Option Sb) : Prop := ∀ a b, UI [] [(a, b)] → ∃ n, runU n [] [(a, b)] = some (U a b)
theorem uok_some : ∃ U, UOK U := by
  have key : ∀ a b : Tm, ∃ R : Option Sb, UI [] [(a, b)] → ∃ n, runU n [] [(a, b)] = some R := fun a b => by
    by_cases h : UI [] [(a, b)]
    · obtain ⟨n, R, hR⟩ := runU_end _ _ _ _ rfl rfl h
      exact ⟨R, fun _ => ⟨n, hR⟩⟩
    · exact ⟨none, fun h' => absurd h' h⟩
  exact ⟨fun a b => Classical.choose (key a b), fun a b => Classical.choose_spec (key a b)⟩
/-- Good terms of at most twelve signs. -/
structure G12 (t : Tm) : Prop where
  gd : Gd t
  sz : szT t ≤ 12
theorem depF_le : ∀ F : Fo, depF F ≤ Fo.sizesR F
  | .nil => Nat.le_refl _
  | .node _ _ _ k r => by
    have h1 := depF_le k
    have h2 := depF_le r
    simp only [depF, Fo.sizesR]
    omega
theorem G12.dep {t : Tm} (h : G12 t) : depT t ≤ 12 := by
  have h1 := depF_le t.2
  have h2 := h.sz
  simp only [szT, tszR] at h2
  unfold depT
  omega
theorem G12.ui {a b : Tm} (ha : G12 a) (hb : G12 b) : UI [] [(a, b)] := ui_of ha.gd hb.gd ha.dep hb.dep
/-- Good terms of at most twenty-four signs. -/
def G24 (l : Lt) : Prop := (Gd l.2.1 ∧ szT l.2.1 ≤ 24) ∧ (Gd l.2.2 ∧ szT l.2.2 ≤ 24)
def G12L (l : Lt) : Prop := G12 l.2.1 ∧ G12 l.2.2
theorem G12L.x {l : Lt} (h : G12L l) : G24 l := ⟨⟨h.1.gd, by have := h.1.sz; omega⟩, ⟨h.2.gd, by have := h.2.sz; omega⟩⟩
theorem GC.g12 {c : Cl} (h : GC c) : ∀ l ∈ c, G12L l := fun l hl => ⟨⟨(h.2 l hl).gl, (h.2 l hl).sl⟩, ⟨(h.2 l hl).gr, (h.2 l hl).sr⟩⟩
theorem gx_bind {a b : Tm} {n : Nat} {s : Sb} (ha : G12 a) (hb : G12 b) (hr : runU n [] [(a, b)] = some (some s)) {d : Cl} (hl : d.length ≤ 8) (hd : ∀ l ∈ d, G24 l) : GX (d.map (mapL (subT (bnd s)))) := by
  have hg := (unify_ok (ha.ui hb) hr).1
  have one : ∀ t : Tm, Gd t ∧ szT t ≤ 24 → Gd (subT (bnd s) t) ∧ tszR (subT (bnd s) t).2 ≤ 4000000000000 := fun t ht => by
    refine ⟨gd_sub hg ht.1, ?_⟩
    have h1 := sub_le (f := bnd s) (M := 61917364224) (by omega) ht.1.ok (fun m _ => mgu_size (ha.ui hb) hr ha.sz hb.sz m)
    have h2 := Nat.mul_le_mul_right 61917364224 ht.2
    simp only [szT] at h1 h2
    omega
  refine ⟨by simpa using hl, fun l hl => ?_⟩
  obtain ⟨q, hq, rfl⟩ := List.mem_map.1 hl
  obtain ⟨q1, q2⟩ := hd q hq
  exact ⟨(one _ q1).1, (one _ q2).1, (one _ q1).2, (one _ q2).2⟩

/-- What is added, if terms are made the same. -/
def addU (st : List Cl × Bool) (R : Option Sb) (d : Cl) : List Cl × Bool := match R with
  | some s => addP st (normC (d.map (mapL (subT (bnd s)))))
  | none => st
theorem addP_len (st : List Cl × Bool) (n : Int × Cl) : (addP st n).1.length ≤ st.1.length + 1 := by
  unfold addP
  split
  · simp
  · split
    · omega
    · split
      · omega
      · simp
theorem addU_len (st : List Cl × Bool) (R : Option Sb) (d : Cl) : (addU st R d).1.length ≤ st.1.length + 1 := by
  unfold addU
  split
  · exact addP_len _ _
  · omega
/-- So many rounds. -/
def foldN {S : Type} (f : S → Nat → S) (s : S) (j : Nat) : S := (List.range j).foldl f s
theorem foldN_succ {S : Type} (f : S → Nat → S) (s : S) (j : Nat) : foldN f s (j + 1) = f (foldN f s j) j := by
  unfold foldN
  rw [List.range_succ, List.foldl_append]
  rfl
theorem foldN_len {f : List Cl × Bool → Nat → List Cl × Bool} {m : Nat} (h : ∀ s j, (f s j).1.length ≤ s.1.length + m) (s : List Cl × Bool) : ∀ j, (foldN f s j).1.length ≤ s.1.length + j * m
  | 0 => by simp [foldN]
  | j + 1 => by
    rw [foldN_succ]
    have h1 := h (foldN f s j) j
    have h2 := foldN_len h s j
    rw [Nat.add_mul, Nat.one_mul]
    omega
/-- Resolve, told alone. -/
def resS (U : Tm → Tm → Option Sb) (c : Cl) (st : List Cl × Bool) (i : Nat) : List Cl × Bool := match c[i]? with
  | some l => if l.1 then addU st (U l.2.1 l.2.2) (butC c i) else st
  | none => st
def resTo (U : Tm → Tm → Option Sb) (c : Cl) (j : Nat) : List Cl × Bool := foldN (resS U c) ([], false) j
theorem resS_len (U : Tm → Tm → Option Sb) (c : Cl) (st : List Cl × Bool) (i : Nat) : (resS U c st i).1.length ≤ st.1.length + 1 := by
  unfold resS
  split
  · split
    · exact addU_len _ _ _
    · omega
  · omega
theorem resTo_succ {U : Tm → Tm → Option Sb} {c : Cl} {j : Nat} : resTo U c (j + 1) = resS U c (resTo U c j) j := foldN_succ _ _ _
theorem resTo_len (U : Tm → Tm → Option Sb) (c : Cl) (j : Nat) : (resTo U c j).1.length ≤ j := by
  have := foldN_len (m := 1) (resS_len U c) ([], false) j
  rw [Nat.mul_one, List.length_nil, Nat.zero_add] at this
  exact this
theorem but_mem {c : Cl} {i : Nat} {l : Lt} (h : l ∈ butC c i) : l ∈ c := by
  rcases List.mem_append.1 h with h | h
  · exact List.mem_of_mem_take h
  · exact List.mem_of_mem_drop h
theorem but_len {c : Cl} {i : Nat} : (butC c i).length ≤ c.length := by
  rw [butC, List.length_append, List.length_take, List.length_drop]
  omega

theorem lst_start (w : World) (T : TypeId) : LSt w.heap.size (w.alloc (.cells #[.slice none 0 0, .bool false] T)) w.heap.size [] false (.slice none 0 0) [] where
  c0 := new_cell rfl
  c1 := new_cell rfl
  cn := new_cell rfl
  fz := fun i => new_frozen rfl
  row := World.ownsRow_nil _ _ _ _
  sl := fun g hg => by cases hg
  el := fun i c hc => by simp at hc
  po := ⟨Nat.le_refl _, by simp⟩
  ne := fun e => by cases e
theorem fr_kpt {w w' : World} {p : Nat} {o : Option Nat} (h : Fr w w' (some p) o) (hp : NoT w p) (ho : ∀ g, o = some g → NoT w g) : Kpt w w' :=
  kpt_of fun q hq hn => h.block q hq (fun e => hn (by cases e; exact hp)) (fun e => hn (ho q e.symm))
/-- What add leaves: all below the list's place is as it was; clauses, terms and bindings, too. -/
theorem add_keeps {lo : Nat} {w0 w w' : World} {p : Nat} {cs : List Cl} {lost : Bool} {v : Value} {xs : List Value} (hL : LSt lo w p cs lost v xs) (hB : Below lo w0 w) (hf : Fr w w' (some p) v.ownBlock) : Below lo w0 w' ∧ Kpt w w' := by
  refine ⟨⟨hf.os.trans hB.os, hf.tape.trans hB.tape, hf.output.trans hB.output, Nat.le_trans hB.size hf.size, fun k hk => ?_⟩, fr_kpt hf hL.not (fun g hg => (hL.sl g hg).not)⟩
  have hp := hL.po
  rw [hf.block k (by omega) (fun e => by cases e; omega) (fun e => by have := (owns_at hL.row k e.symm).1; omega)]
  exact hB.block k hk

/-- What a rule of the document's hands back. -/
def RulePost (st : List Cl × Bool) (w : World) (e : Ending) (w' : World) : Prop := ∃ v, e = .returned (.tuple #[v, .bool st.2]) ∧ CsIn w' st.1 v ∧ Below w.heap.size w w'

end Go.Proofs.YtaliegkkdhkfcacGreatDoor

namespace Go.Proofs.YtaliegkkdhkfcacGreatDoor
open Go.RowKit

theorem countP_less {α : Type} {f g : α → Bool} {i : α} : ∀ {l : List α}, (∀ x, g x = true → f x = true) → i ∈ l → f i = true → g i = false → l.countP g < l.countP f
  | [], _, h, _, _ => by cases h
  | y :: r, hfg, h, hf, hg => by
    have hle : r.countP g ≤ r.countP f := List.countP_mono_left (fun x _ hx => hfg x hx)
    rw [List.countP_cons, List.countP_cons]
    rcases List.mem_cons.1 h with rfl | h
    · rw [hf, hg]; simp; omega
    · have := countP_less (l := r) hfg h hf hg
      by_cases hy : g y = true
      · rw [hy, hfg y hy]; simp; omega
      · have : g y = false := by simpa using hy
        rw [this]
        simp only [Bool.false_eq_true, if_false]
        split <;> omega
theorem getD_set (l : Array Bool) (i j : Nat) (d : Bool) (hi : i < l.size) : (l.setIfInBounds i true).getD j d = (j == i || l.getD j d) := by
  by_cases e : j = i
  · subst e
    simp [Array.getD_eq_getD_getElem?, hi]
  · have e' : (j == i) = false := by simpa using e
    rw [e']
    simp only [Array.getD_eq_getD_getElem?, Array.getElem?_setIfInBounds, Bool.false_or]
    rw [if_neg (fun h => e h.symm)]
theorem getD_in (l : Array Bool) (j : Nat) (hj : j < l.size) (d d' : Bool) : l.getD j d = l.getD j d' := by
  simp [Array.getD_eq_getD_getElem?, hj]

section
variable {P : Program} {ops : Array Oper} {Q : Exit → Act → World → Prop} {md : Region.Mode}

/-- No edge leads forward. -/
def Region.back (ops : Array Oper) : Bool := (List.range ops.size).all fun i => ((ops[i]?).map (·.after.all fun e => decide (e.on < i))).getD true

theorem all_listed {listed : Array Bool} (hs : listed.size = ops.size) (hb : Region.back ops = true) (hr : Region.ready md ops listed = []) : ∀ i, i < ops.size → listed.getD i false = true := by
  intro i
  induction i using Nat.strongRecOn with
  | _ i ih =>
    intro hi
    by_cases h : listed.getD i false = true
    · exact h
    · exfalso
      have h0 : listed.getD i true = false := by
        rw [getD_in listed i (by omega) true false]
        simpa using h
      have ho : ops[i]? = some ops[i] := by simp [hi]
      have hm : i ∈ Region.ready md ops listed := by
        unfold Region.ready
        rw [List.mem_filter]
        refine ⟨List.mem_range.2 hi, ?_⟩
        rw [h0, ho]
        simp only [Bool.not_false, Bool.true_and, Option.map_some, Option.getD_some]
        rw [Array.all_eq_true']
        intro e he
        have h1 := List.all_eq_true.1 hb i (List.mem_range.2 hi)
        rw [ho] at h1
        simp only [Option.map_some, Option.getD_some] at h1
        rw [Array.all_eq_true'] at h1
        have h2 := of_decide_eq_true (h1 e he)
        rw [ih e.on h2 (by omega)]
        simp
      rw [hr] at hm
      cases hm

theorem wpAny_inv {Inv : (Nat → Bool) → Act → World → Prop} (hb : Region.back ops = true)
    (hstep : ∀ (D : Nat → Bool) (a : Act) (w : World) (i : Nat) (o : Oper), i < ops.size → Inv D a w → D i = false → ops[i]? = some o → (∀ e ∈ o.after, Region.binds md e = true → D e.on = true) → wpOp P ops Q i (Inv fun j => j == i || D j) a w)
    (hdone : ∀ (D : Nat → Bool) (a : Act) (w : World), Inv D a w → (∀ i, i < ops.size → D i = true) → Q .normal a w) :
    ∀ (fuel : Nat) (listed : Array Bool) (a : Act) (w : World), listed.size = ops.size → (List.range ops.size).countP (fun i => !listed.getD i false) ≤ fuel → Inv (fun j => listed.getD j false) a w → wpAny P md ops Q fuel listed a w := by
  intro fuel
  induction fuel with
  | zero =>
    intro listed a w hs hc hI
    have hall : ∀ i, i < ops.size → listed.getD i false = true := fun i hi => by
      have h0 : (List.range ops.size).countP (fun i => !listed.getD i false) = 0 := by omega
      rw [List.countP_eq_zero] at h0
      simpa using h0 i (List.mem_range.2 hi)
    refine ⟨?_, hdone _ a w hI hall⟩
    unfold Region.ready
    rw [List.filter_eq_nil_iff]
    intro i hi
    have hi' := List.mem_range.1 hi
    rw [getD_in listed i (by omega) true false, hall i hi']
    simp
  | succ fuel ih =>
    intro listed a w hs hc hI
    refine ⟨fun hr => hdone _ a w hI (all_listed hs hb hr), fun i hi => ?_⟩
    unfold Region.ready at hi
    rw [List.mem_filter] at hi
    obtain ⟨hi1, hi2⟩ := hi
    have hi' := List.mem_range.1 hi1
    have ho : ops[i]? = some ops[i] := by simp [hi']
    rw [ho] at hi2
    simp only [Option.map_some, Option.getD_some, Bool.and_eq_true, Bool.not_eq_true'] at hi2
    obtain ⟨h1, h2⟩ := hi2
    have h1' : listed.getD i false = false := by rw [getD_in listed i (by omega) false true]; exact h1
    have := hstep _ a w i _ hi' hI h1' ho (fun e he hbd => by
      rw [Array.all_eq_true'] at h2
      have := h2 e he
      rw [hbd] at this
      simpa using this)
    refine wpOp_mono (fun a' w' h => ?_) this
    refine ih _ a' w' (by simp [hs]) ?_ ?_
    · have hlt := countP_less (i := i) (f := fun j => !listed.getD j false) (g := fun j => !(listed.setIfInBounds i true).getD j false) (l := List.range ops.size) (fun x hx => by
        rw [getD_set _ _ _ _ (by omega)] at hx
        simp at hx
        simp [hx.2]) hi1 (by simp [h1']) (by rw [getD_set _ _ _ _ (by omega)]; simp)
      omega
    · have e : (fun j => (listed.setIfInBounds i true).getD j false) = fun j => j == i || listed.getD j false := by
        funext j
        exact getD_set _ _ _ _ (by omega)
      rw [e]
      exact h

/-- A region that draws its order: what is known stays known whatever comes next. -/
theorem region_inv {id : Nat} {a : Act} {w : World} (Inv : (Nat → Bool) → Act → World → Prop) (hm : P.follows .mixedOrders = true) (hb : Region.back ops = true)
    (hstep : ∀ (D : Nat → Bool) (a : Act) (w : World) (i : Nat) (o : Oper), i < ops.size → Inv D a w → D i = false → ops[i]? = some o → (∀ e ∈ o.after, Region.binds .any e = true → D e.on = true) → wpOp P ops Q i (Inv fun j => j == i || D j) a w)
    (hdone : ∀ (D : Nat → Bool) (a : Act) (w : World), Inv D a w → (∀ i, i < ops.size → D i = true) → Q .normal a w)
    (h0 : Inv (fun _ => false) a w.drew) : (Code.region id ops true).wp P Q a w := by
  refine wp_region_any hm ?_
  refine wpAny_inv hb hstep hdone _ _ a _ (by simp) ?_ ?_
  · exact Nat.le_trans List.countP_le_length (by simp)
  · have e : (fun j => (Array.replicate ops.size false).getD j false) = fun _ => false := by
      funext j
      simp only [Array.getD_eq_getD_getElem?, Array.getElem?_replicate]
      split <;> rfl
    rw [e]
    exact h0

end

end Go.Proofs.YtaliegkkdhkfcacGreatDoor
