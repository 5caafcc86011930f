/- L7T Open4 Open7 -/
import Derived.Test.YtlgnpiphaeoeiadG19
import Derived.WalkKit
import Derived.ProofKit
import Derived.OpenShut
import Derived.Lib.SmallJoins
namespace Go.Proofs.Ytlgnpiphaeoeiad
open Go.RowKit Go.Deep Go.ChangeShapes Go.WideShapes
attribute [local go_sem ↓] Go.wp_at_zero Go.wp_at_succ
theorem pair_cells {w : World} {c d : Cl} {cv dv : Value} (hC : CIn w c cv) (hD : CIn w d dv) : ∀ (i : Nat) (x : Cl), [c, d][i]? = some x → ∃ xv, [cv, dv][i]? = some xv ∧ CIn w x xv := fun i x hx => by
  match i, hx with
  | 0, hx => simp only [List.getElem?_cons_zero, Option.some.injEq] at hx; subst hx; exact ⟨cv, rfl, hC⟩
  | 1, hx => simp only [List.getElem?_cons_succ, List.getElem?_cons_zero, Option.some.injEq] at hx; subst hx; exact ⟨dv, rfl, hD⟩
  | i + 2, hx => simp at hx
theorem row_of {w : World} {x y : Value} {T : TypeId} : (w.alloc (.cells #[x, y] T)).ownsRow w.heap.size T 1 (.slice (some ⟨w.heap.size, 0, none⟩) 2 2) 2 [x, y] :=
  ⟨rfl, .inr ⟨w.heap.size, 2, #[x, y], rfl, Nat.le_refl _, heap_alloc_new w _, Nat.le_refl _, by unfold maxLen; omega, rfl, rfl⟩⟩
theorem grown_below {w w1 w2 : World} {ob : Obj} (hb : w1 = w.alloc ob) (hg : w1.grownBy w2 (some w.heap.size)) : Below w.heap.size w w2 := by
  subst hb
  have h1 := below_alloc w ob
  have hs := h1.size
  refine ⟨hg.os.trans h1.os, hg.tape.trans h1.tape, hg.output.trans h1.output, by have := hg.size; omega, fun q hq => ?_⟩
  rw [hg.block q (by omega) (by intro e; simp at e; omega), h1.block q hq]
set_option maxRecDepth 100000 in
set_option maxHeartbeats 4000000 in
theorem simpTells_of (s : List Int) (sv : Value) (c : Cl) (cv : Value) (d : Cl) (dv : Value) (cs : List Cl) (uv : Value) (w : World) (hN : NIn w s sv) (hC : CIn w c cv) (hD : CIn w d dv) (hU : CsIn w cs uv)
    (hnc : ∀ l ∈ c, Fo.norm l.2.1.2 = l.2.1.2 ∧ Fo.norm l.2.2.2 = l.2.2.2) (hnd : ∀ l ∈ d, Fo.norm l.2.1.2 = l.2.1.2 ∧ Fo.norm l.2.2.2 = l.2.2.2) (hnu : ∀ x ∈ cs, ∀ l ∈ x, Fo.norm l.2.1.2 = l.2.1.2 ∧ Fo.norm l.2.2.2 = l.2.2.2) (hsz : cs.length * 24 ≤ 140737488351232) :
    Calls Try.prog 3 #[sv, cv, dv, uv] w fun e w' => e = .returned (.bool true) ∧ Below w.heap.size w w' := by
  have HN := hide hN
  have HC := hide hC
  have HD := hide hD
  have HU := hide hU
  obtain ⟨sa, sc, _, _, rfl, -, -, -, -⟩ := hN
  obtain ⟨c1, c3, rfl⟩ := slice_of_cl hC
  obtain ⟨d1, d3, rfl⟩ := slice_of_cl hD
  obtain ⟨u1, u2, u3, rfl⟩ : ∃ v1 v2 v3, uv = .slice v1 v2 v3 := by
    obtain ⟨v1, v3, h⟩ := slice_of_cs hU
    exact ⟨_, _, _, h⟩
  obtain ⟨news, hCs, hnl, hnel⟩ := cs_cells HU.out
  obtain ⟨iC, hi, hz0, hz1, hz2⟩ := info_parts Try.info25
  have Hcs := hide hCs
  have Hnel := hide hnel
  have Hnc := hide hnc
  have Hnd := hide hnd
  have Hnu := hide hnu
  clear hC hD hU hCs hnel hnc hnd hnu
  have hl1 : 2 + cs.length ≤ maxLen := by unfold maxLen; omega
  have hl2 : (2 + cs.length) * 24 ≤ 140737488355328 := by omega
  go_enter Try.func3, Try.ntmps3
  go_wp2_with (at_builtin; refine wpList_append_gen rfl (.tmp 18) (.tmp 19) 26 rfl w.heap.size 25 iC (.slice none 0 0) 1 24 Try.underlying26 hi hz0 hz1 hz2 rfl (by decide) (.slice (some ⟨w.heap.size, 0, none⟩) 2 2) 2 [.slice c1 c.length c3, .slice d1 d.length d3] rfl row_of _ cs.length news rfl (Hcs.out.below (below_alloc _ _)) hl1 hl2 (below_alloc _ _).size ?_; intro v2 w2 ho2 hg2 hat2)
  have hb2 : Below w.heap.size w w2 := grown_below rfl hg2
  have hcs2 : CsIn w2 ([c, d] ++ cs) v2 := cs_app rfl ho2 hb2 rfl (pair_cells HC.out HD.out) Hnel.out
  obtain ⟨y1, y3, hv2⟩ := slice_of_cs hcs2
  have Hr := hide (rightR_any s _ _ _ _ (HN.out.below hb2) hcs2)
  obtain ⟨B, hB⟩ : ∃ B, rightC s ([c, d] ++ cs) = B := ⟨_, rfl⟩
  rw [hB] at Hr
  have HB := hide hB
  have Hb2 := hide hb2
  clear ho2 hg2 hat2 hcs2 hB hb2 hi hz0 hz1 hz2 hv2
  go_wp2_with fail
  refine Hr.out.mono ?_
  rintro e w3 ⟨rfl, hb3⟩
  have hB1 := below_step Hb2.out hb3
  clear Hr hb3
  cases B
  · go_wp2_with fail
    go_ret
    exact ⟨rfl, hB1⟩
  · have Hrt := hide (rightC_iff.1 HB.out)
    have Hs : Hid (s.all okNum = true) := (wsig_ok Hrt.out.1).1
    have Hs6 : Hid (s.length ≤ 6) := (wsig_ok Hrt.out.1).2.1
    have Hgc := hide (gc_rightN6 Hs.out Hnc.out (Hrt.out.2.2 c (by simp)))
    have Hgd := hide (gc_rightN6 Hs.out Hnd.out (Hrt.out.2.2 d (by simp)))
    have Hsc := hide (sm_rightN Hs.out Hs6.out Hnc.out (Hrt.out.2.2 c (by simp)))
    have Hl6 : Hid (cs.length ≤ 6) := by have := Hrt.out.2.1; simp at this; exact this
    have Hu0 := hide (unitP_any c _ w3 (HC.out.below hB1))
    have Hu1 := hide (unitR_any c _ w3 (HC.out.below hB1))
    go_wp2_with fail
    refine Hu0.out.mono ?_
    rintro e w4 ⟨rfl, rfl⟩
    go_wp2_with fail
    refine Hu1.out.mono ?_
    rintro e w5 ⟨rfl, rfl⟩
    have Hc0 := hide (coversP_any c d _ _ w5 (HC.out.below hB1) (HD.out.below hB1) Hgc.out.1 (fun l hl => ⟨(Hgc.out.2 l hl).sl, (Hgc.out.2 l hl).sr⟩) (fun l hl => ⟨(Hgd.out.2 l hl).gl, (Hgd.out.2 l hl).gr⟩))
    clear Hu0 Hu1
    go_wp2_with fail
    refine Hc0.out.mono ?_
    rintro e w6 ⟨rfl, hb⟩
    replace hB1 := below_step hB1 hb
    clear hb Hc0
    have Hc1 := hide (coversR_any c d _ _ w6 (HC.out.below hB1) (HD.out.below hB1) Hgc.out.1 Hgd.out.1 (fun l hl => ⟨(Hgc.out.2 l hl).sl, (Hgc.out.2 l hl).sr⟩))
    go_wp2_with fail
    refine Hc1.out.mono ?_
    rintro e w7 ⟨rfl, hb⟩
    replace hB1 := below_step hB1 hb
    clear hb Hc1
    have Hua := hide (unitAll_any cs _ w7 (HU.out.below hB1))
    obtain ⟨B2, hB2⟩ : ∃ B, cs.all unitP = B := ⟨_, rfl⟩
    rw [hB2] at Hua
    have HB2 := hide hB2
    generalize covT c d = cb at *
    generalize unitP c = ub at *
    clear hB2
    go_wp2_with fail
    refine Hua.out.mono ?_
    rintro e w8 ⟨rfl, hb⟩
    replace hB1 := below_step hB1 hb
    clear hb Hua
    cases B2
    · go_wp2_with fail
      go_ret
      exact ⟨rfl, hB1⟩
    · obtain ⟨us, hus, hpos⟩ := units_of HB2.out
      have HUs : Hid (CsIn w (us.map fun u => [u]) (.slice u1 u2 u3)) := by rw [Hid, ← hus]; exact HU.out
      have Hun : Hid (Uns s us) := uns_right Hs.out Hs6.out (by rw [← hus]; exact Hnu.out) (by rw [← hus]; exact fun x hx => Hrt.out.2.2 x (by simp [hx]))
      have Hu8 : Hid (us.length ≤ 8) := by have h := Hl6.out; rw [hus, List.length_map] at h; rw [Hid]; omega
      have Hpos := hide hpos
      obtain ⟨_, ck, cb', co, hce, had, hlc, hcm, hcF⟩ := HC.out
      simp only [Value.slice.injEq, true_and] at hce
      obtain ⟨rfl, rfl⟩ := hce
      have HcF := hide hcF
      unfold maxLen at hcm
      have HB1 := hide hB1
      clear hus hpos hcF hB1
      go_wp2_with fail
      go_loopw [42] (fun i wr => ∃ j : Nat, j ≤ c.length ∧ i = .int .i64 j ∧ Below w.heap.size w wr) (fun i _ => c.length - (intOf i).toNat)
      case atStart => exact ⟨0, Nat.zero_le _, rfl, HB1.out⟩
      case round =>
        obtain ⟨j, hj, rfl, hBr⟩ := hrel
        have HBr := hide hBr
        by_cases hlt : j < c.length
        · have hlt' : (j : Int) < (c.length : Int) := by omega
          obtain ⟨x, hx⟩ : ∃ x, c[j]? = some x := ⟨c[j]'hlt, by simp⟩
          have Hsx := hide (Hsc.out x (List.mem_of_getElem? hx)).1
          obtain ⟨p0, p1, p2, ⟨x3, p3, hA⟩, p4, p5, x6, p6, hD⟩ := (HcF.out.below hBr).at hx
          have ha1 := had (by omega)
          subst ha1
          have HA := hide hA
          obtain ⟨ya, yc, _, _, rfl, -, -, -, -⟩ := hA
          obtain ⟨za, zc, _, _, rfl, -, -, -, -⟩ := hD
          clear hx had hBr
          obtain ⟨xn, ⟨⟨xv, xi⟩, xk⟩, ⟨xv', xi'⟩, xk'⟩ := x
          simp only at *
          obtain ⟨⟨⟨tv, ti⟩, tk⟩, ht⟩ : ∃ t, t = downT us ((xv, xi), xk) := ⟨_, rfl⟩
          go_upto_region 10 with fail
          generalize hwa : wr.alloc (.cells #[.bool xn, .bool xv, .int .i64 xi, .slice ya (Fo.len xk) yc, .bool xv', .int .i64 xi', .slice za (Fo.len xk') zc] 35) = wa
          obtain ⟨g0, g1, g2, g3, g4, g5, g6, -, hba, hsa⟩ := lit_cells (T := 35) (w := wr) (wr := wa) (x0 := .bool xn) (x1 := .bool xv) (x2 := .int .i64 xi) (x3 := .slice ya (Fo.len xk) yc) (x4 := .bool xv') (x5 := .int .i64 xi') (x6 := .slice za (Fo.len xk') zc) (by rw [← hwa]; exact Below.refl _ _)
          have HBa := hide (below_step HBr.out hba)
          have HAa := hide (HA.out.below hba)
          have Hd1 := hide (fun (w' : World) (hb : Below wa.heap.size wa w') => downPub_call (x := (xv, xi)) (k := xk) Hs6.out Hun.out Hu8.out Hpos.out ht (HAa.out.below hb) Hsx.out (HUs.out.below (below_step HBa.out hb)))
          have Hd2 := hide (fun (w' : World) (hb : Below wa.heap.size wa w') => downRef_call (x := (xv, xi)) (k := xk) Hs6.out Hun.out Hu8.out ht (HAa.out.below hb) Hsx.out (HUs.out.below (below_step HBa.out hb)))
          have Hsm := hide (fun (w' : World) (a b : Value) (h1 : SIn w' tk a) (h2 : SIn w' tk b) => sameMe_call (x := (tv, ti)) h1 h2)
          have hcur : Below wa.heap.size wa wa.drew := (Below.refl _ _).drew
          simp only at Hd1 Hd2 Hsm
          clear hwa hba ht p0 p1 p2 p3 p4 p5 p6 g0 g4 g5 g6
          go_region_held3 (fun w' => w'.cell? ⟨wr.heap.size, 1, none⟩ = some (.bool xv) ∧ w'.cell? ⟨wr.heap.size, 2, none⟩ = some (.int .i64 xi) ∧ w'.cell? ⟨wr.heap.size, 3, none⟩ = some (.slice ya (Fo.len xk) yc))
            (first
              | (with_reducible exact ⟨grow_cell hcur _ _ g1, grow_cell hcur _ _ g2, grow_cell hcur _ _ g3⟩)
              | go_keep)
            (first
              | (go_at_call 11; with_reducible refine (Hd1.out _ hcur).mono ?_; rintro e wS ⟨z1, z3, rfl, hO1, hbS⟩; replace hcur := below_step hcur hbS; have HO1 := hide hO1; clear hO1 hbS)
              | (go_at_call 12; with_reducible refine (Hd2.out _ hcur).mono ?_; rintro e wU ⟨q1, q3, rfl, hO2, hbU⟩; replace hcur := below_step hcur hbU; have HO2 := hide hO2; have HO1' := hide (HO1.out.below hbU); clear hO2 hbU)
              | (go_at_call 10; with_reducible refine (Hsm.out _ _ _ HO1'.out HO2.out).mono ?_; rintro e wV ⟨rfl, hbV⟩; replace hcur := below_step hcur hbV; clear hbV))
          all_goals
            have HBe := hide (below_step HBa.out hcur)
            clear hcur
            go_wp2_with fail
            go_roundw
            case rel => exact ⟨j + 1, by omega, by go_num, HBe.out⟩
            case measure => simp [intOf]; omega
        · have Hrp := hide (rewriteP_any Hs6.out Hun.out Hu8.out Hpos.out c _ _ wr (HC.out.below hBr) (HUs.out.below hBr) Hsc.out Hgc.out.1)
          have Hrr := hide (fun (w' : World) (hb : Below wr.heap.size wr w') => rewriteR_any Hs6.out Hun.out Hu8.out c _ _ w' (HC.out.below (below_step hBr hb)) (HUs.out.below (below_step hBr hb)) Hsc.out Hgc.out.1)
          unfold RwPost at Hrp Hrr
          generalize rwC us c = nc at *
          clear had hBr
          go_wp2_with fail
          refine Hrp.out.mono ?_
          rintro e w9 ⟨v9, rfl, hC9, hb9⟩
          have HC9 := hide hC9
          obtain ⟨m1, m3, rfl⟩ := slice_of_cl hC9
          have Hr9 := hide (Hrr.out _ hb9)
          have HB9 := hide (below_step HBr.out hb9)
          clear hC9 hb9 Hrr
          go_wp2_with fail
          refine Hr9.out.mono ?_
          rintro e w10 ⟨v10, rfl, hC10, hb10⟩
          have HC10 := hide hC10
          obtain ⟨n1, n3, rfl⟩ := slice_of_cl hC10
          have Hsc2 := hide (sameCR_any nc.2 nc.2 _ _ w10 (HC9.out.below hb10) HC10.out)
          rw [sameC_me] at Hsc2
          have HB10 := hide (below_step HB9.out hb10)
          clear hC10 hb10
          go_wp2_with fail
          refine Hsc2.out.mono ?_
          rintro e w11 ⟨rfl, hb11⟩
          have HB11 := hide (below_step HB10.out hb11)
          clear hb11
          go_wp2_with fail
          go_ret
          exact ⟨rfl, HB11.out⟩
end Go.Proofs.Ytlgnpiphaeoeiad

namespace Go.Proofs.Ytlgnpiphaeoeiad
open Go.ChangeShapes Go.WideShapes Go.ChangeAt Go.WideMaps Go.WideElems Go.RowKit Go.Deep Go.Joins
theorem Try.cells35 : Try.prog.cellsOf 35 = 7 := by kernel_rfl
section
variable {H : Type} {enc : TypeId × Value → H} {W : World} {sp : Nat → Bool} {held : Bool}
set_option maxRecDepth 100000 in
theorem open_lit {fuel : Nat} {cs : List Value} {x : DataW H × List MemPlace} (h : DataW.trod enc Try.prog W 0 sp held fuel 35 cs = some x) :
    ∃ (l : Lt) (a d : Value), cs = litV l a d ∧ SIn W l.2.1.2 a ∧ SIn W l.2.2.2 d := by
  obtain ⟨xs, m, rfl, _, hl, hlen, hf⟩ := DataW.trod_struct Try.underlying35 h
  rw [Try.cells35] at hl
  match xs, hlen, cs, hl with
  | [y0, y1, y2], _, [c0, c1, c2, c3, c4, c5, c6], _ =>
    have q0 := hf 0 _ rfl
    have q1 := hf 1 _ rfl
    have q2 := hf 2 _ rfl
    simp [Try.cells4, Try.cells33] at q0 q1 q2
    obtain ⟨n, e0, _⟩ := DataW.trod_bool Try.underlying4 q0
    obtain ⟨v, z, a, m', y, _, e1, hy⟩ := open_term q1
    obtain ⟨k, hk⟩ := open_terms _ _ _ hy
    obtain ⟨v', z', a', m'', y', _, e2, hy'⟩ := open_term q2
    obtain ⟨k', hk'⟩ := open_terms _ _ _ hy'
    simp only [List.cons.injEq, and_true] at e0 e1 e2
    obtain ⟨rfl, rfl, rfl⟩ := e1
    obtain ⟨rfl, rfl, rfl⟩ := e2
    subst e0
    exact ⟨(n, ((v, z), k), ((v', z'), k')), c3, c6, rfl, hk, hk'⟩
theorem build_cl {b : Nat} : ∀ (n o : Nat), (∀ i, i < n → ∃ (l : Lt) (a d : Value), W.cell? ⟨b, o + 7 * i, none⟩ = some (.bool l.1) ∧ W.cell? ⟨b, o + 7 * i + 1, none⟩ = some (.bool l.2.1.1.1) ∧ W.cell? ⟨b, o + 7 * i + 2, none⟩ = some (.int .i64 l.2.1.1.2) ∧ W.cell? ⟨b, o + 7 * i + 3, none⟩ = some a ∧ W.cell? ⟨b, o + 7 * i + 4, none⟩ = some (.bool l.2.2.1.1) ∧ W.cell? ⟨b, o + 7 * i + 5, none⟩ = some (.int .i64 l.2.2.1.2) ∧ W.cell? ⟨b, o + 7 * i + 6, none⟩ = some d ∧ SIn W l.2.1.2 a ∧ SIn W l.2.2.2 d) → ∃ s : Cl, s.length = n ∧ LIn W s b o
  | 0, _, _ => ⟨[], rfl, trivial⟩
  | n + 1, o, h => by
    obtain ⟨s, hl, hP⟩ := build_cl n (o + 7) (fun i hi => by
      have := h (i + 1) (by omega)
      rw [show o + 7 * (i + 1) = o + 7 + 7 * i by omega] at this
      exact this)
    obtain ⟨l, a, d, h0, h1, h2, h3, h4, h5, h6, h7, h8⟩ := h 0 (by omega)
    exact ⟨l :: s, by simp [hl], ⟨by simpa using h0, by simpa using h1, by simpa using h2, ⟨a, by simpa using h3, h7⟩, by simpa using h4, by simpa using h5, d, by simpa using h6, h8⟩, hP⟩
set_option maxRecDepth 100000 in
theorem open_cl {r : Reach} {b0 : Nat} {v : Value} {d : DataW H} {p : List MemPlace} (hv : Value.okWide Try.prog W r b0 25 v) (h : DataW.Trod enc Try.prog W 0 sp held 25 v d p) : ∃ s : Cl, CIn W s v := by
  obtain ⟨a0, len0, cap0, rfl⟩ := okWide_slice Try.underlying25 hv
  obtain ⟨fuel, hf⟩ := h
  rcases DataW.trod_slice Try.underlying25 hf with ⟨hc, _⟩ | ⟨a, len, cap, elems, rest, n, hfuel, hc, _, _, hlc, hcm, hlen, hel, _, _⟩
  · simp [Value.cells] at hc
    obtain ⟨rfl, rfl, rfl⟩ := hc
    exact ⟨[], CIn.nil W⟩
  · simp [Value.cells] at hc
    obtain ⟨rfl, rfl, rfl⟩ := hc
    rw [Try.cells35] at hel
    obtain ⟨b, o, spot⟩ := a
    have hone : ∀ i, i < len0 → ∃ (l : Lt) (a d : Value), W.cell? ((⟨b, o, spot⟩ : Addr).add (i * 7)) = some (.bool l.1) ∧ W.cell? (((⟨b, o, spot⟩ : Addr).add (i * 7)).add 1) = some (.bool l.2.1.1.1) ∧ W.cell? (((⟨b, o, spot⟩ : Addr).add (i * 7)).add 2) = some (.int .i64 l.2.1.1.2) ∧ W.cell? (((⟨b, o, spot⟩ : Addr).add (i * 7)).add 3) = some a ∧ W.cell? (((⟨b, o, spot⟩ : Addr).add (i * 7)).add 4) = some (.bool l.2.2.1.1) ∧ W.cell? (((⟨b, o, spot⟩ : Addr).add (i * 7)).add 5) = some (.int .i64 l.2.2.1.2) ∧ W.cell? (((⟨b, o, spot⟩ : Addr).add (i * 7)).add 6) = some d ∧ SIn W l.2.1.2 a ∧ SIn W l.2.2.2 d := fun i hi => by
      have h1 := hel i hi
      have hi' : i < elems.length := by omega
      rw [List.getElem?_eq_getElem hi'] at h1
      obtain ⟨cs, h2, h3⟩ := Option.bind_eq_some_iff.1 h1
      obtain ⟨_, hl3, hcell⟩ := World.cells?_some h2
      obtain ⟨l, ta, td, rfl, hk, hk'⟩ := open_lit h3
      exact ⟨l, ta, td, by simpa [Addr.add] using hcell 0 (by omega), by simpa using hcell 1 (by omega), by simpa using hcell 2 (by omega), by simpa using hcell 3 (by omega), by simpa using hcell 4 (by omega), by simpa using hcell 5 (by omega), by simpa using hcell 6 (by omega), hk, hk'⟩
    by_cases h0 : len0 = 0
    · subst h0
      exact ⟨[], _, cap0, 0, 0, rfl, fun h => by simp at h, Nat.zero_le _, hcm, trivial⟩
    · have hspot : spot = none := by
        obtain ⟨x, v, _, q0, _⟩ := hone 0 (by omega)
        simpa [Addr.add] using World.cell?_spot q0
      subst hspot
      obtain ⟨s, hs1, hs2⟩ := build_cl (W := W) (b := b) len0 o (fun i hi => by
        obtain ⟨l, a, d, q0, q1, q2, q3, q4, q5, q6, q7, q8⟩ := hone i hi
        refine ⟨l, a, d, ?_, ?_, ?_, ?_, ?_, ?_, ?_, q7, q8⟩
        · rw [add_plain] at q0; rw [Nat.mul_comm 7 i]; exact q0
        · rw [add_plain, add_plain] at q1; rw [Nat.mul_comm 7 i]; exact q1
        · rw [add_plain, add_plain] at q2; rw [Nat.mul_comm 7 i]; exact q2
        · rw [add_plain, add_plain] at q3; rw [Nat.mul_comm 7 i]; exact q3
        · rw [add_plain, add_plain] at q4; rw [Nat.mul_comm 7 i]; exact q4
        · rw [add_plain, add_plain] at q5; rw [Nat.mul_comm 7 i]; exact q5
        · rw [add_plain, add_plain] at q6; rw [Nat.mul_comm 7 i]; exact q6)
      exact ⟨s, _, cap0, b, o, by rw [hs1], fun _ => rfl, by omega, hcm, hs2⟩
end
def normCl (s : Cl) : Cl := s.map fun l => (l.1, (l.2.1.1, Fo.norm l.2.1.2), (l.2.2.1, Fo.norm l.2.2.2))
theorem lin_norm {w : World} : ∀ {s : Cl} {b o : Nat}, LIn w s b o → LIn w (normCl s) b o
  | [], _, _, _ => trivial
  | _ :: _, _, _, ⟨⟨h0, h1, h2, ⟨v, h3, h4⟩, h5, h6, u, h7, h8⟩, h9⟩ => ⟨⟨h0, h1, h2, ⟨v, h3, sin_norm h4⟩, h5, h6, u, h7, sin_norm h8⟩, lin_norm h9⟩
theorem cl_norm {w : World} {s : Cl} {v : Value} (h : CIn w s v) : CIn w (normCl s) v := by
  obtain ⟨a, c, b, o, rfl, h2, h3, h4, h5⟩ := h
  exact ⟨a, c, b, o, by simp [normCl], by simpa [normCl] using h2, by simpa [normCl] using h3, h4, lin_norm h5⟩
theorem normCl_norm {s : Cl} : ∀ l ∈ normCl s, Fo.norm l.2.1.2 = l.2.1.2 ∧ Fo.norm l.2.2.2 = l.2.2.2 := fun p hp => by
  simp only [normCl, List.mem_map] at hp
  obtain ⟨q, _, rfl⟩ := hp
  exact ⟨norm_norm _, norm_norm _⟩
end Go.Proofs.Ytlgnpiphaeoeiad

namespace Go.Proofs.Ytlgnpiphaeoeiad
open Go.ChangeShapes Go.WideShapes Go.ChangeAt Go.WideMaps Go.WideElems Go.RowKit Go.Deep Go.Joins
theorem Try.cells25 : Try.prog.cellsOf 25 = 1 := by kernel_rfl
section
variable {H : Type} {enc : TypeId × Value → H} {W : World} {sp : Nat → Bool} {held : Bool}
set_option maxRecDepth 100000 in
theorem open_clf {fuel : Nat} {cs : List Value} {x : DataW H × List MemPlace} (hf : DataW.trod enc Try.prog W 0 sp held fuel 25 cs = some x) : ∃ (v : Value) (s : Cl), cs = [v] ∧ CIn W s v := by
  rcases DataW.trod_slice Try.underlying25 hf with ⟨hc, _⟩ | ⟨a, len, cap, elems, rest, n, hfuel, hc, _, _, hlc, hcm, hlen, hel, _, _⟩
  · exact ⟨.slice none 0 0, [], hc, CIn.nil W⟩
  · subst hc
    rw [Try.cells35] at hel
    obtain ⟨b, o, spot⟩ := a
    have hone : ∀ i, i < len → ∃ (l : Lt) (a d : Value), W.cell? ((⟨b, o, spot⟩ : Addr).add (i * 7)) = some (.bool l.1) ∧ W.cell? (((⟨b, o, spot⟩ : Addr).add (i * 7)).add 1) = some (.bool l.2.1.1.1) ∧ W.cell? (((⟨b, o, spot⟩ : Addr).add (i * 7)).add 2) = some (.int .i64 l.2.1.1.2) ∧ W.cell? (((⟨b, o, spot⟩ : Addr).add (i * 7)).add 3) = some a ∧ W.cell? (((⟨b, o, spot⟩ : Addr).add (i * 7)).add 4) = some (.bool l.2.2.1.1) ∧ W.cell? (((⟨b, o, spot⟩ : Addr).add (i * 7)).add 5) = some (.int .i64 l.2.2.1.2) ∧ W.cell? (((⟨b, o, spot⟩ : Addr).add (i * 7)).add 6) = some d ∧ SIn W l.2.1.2 a ∧ SIn W l.2.2.2 d := fun i hi => by
      have h1 := hel i hi
      have hi' : i < elems.length := by omega
      rw [List.getElem?_eq_getElem hi'] at h1
      obtain ⟨cs, h2, h3⟩ := Option.bind_eq_some_iff.1 h1
      obtain ⟨_, hl3, hcell⟩ := World.cells?_some h2
      obtain ⟨l, ta, td, rfl, hk, hk'⟩ := open_lit h3
      exact ⟨l, ta, td, by simpa [Addr.add] using hcell 0 (by omega), by simpa using hcell 1 (by omega), by simpa using hcell 2 (by omega), by simpa using hcell 3 (by omega), by simpa using hcell 4 (by omega), by simpa using hcell 5 (by omega), by simpa using hcell 6 (by omega), hk, hk'⟩
    by_cases h0 : len = 0
    · subst h0
      exact ⟨_, [], rfl, _, cap, 0, 0, rfl, fun h => by simp at h, Nat.zero_le _, hcm, trivial⟩
    · have hspot : spot = none := by
        obtain ⟨x, v, _, q0, _⟩ := hone 0 (by omega)
        simpa [Addr.add] using World.cell?_spot q0
      subst hspot
      obtain ⟨s, hs1, hs2⟩ := build_cl (W := W) (b := b) len o (fun i hi => by
        obtain ⟨l, a, d, q0, q1, q2, q3, q4, q5, q6, q7, q8⟩ := hone i hi
        refine ⟨l, a, d, ?_, ?_, ?_, ?_, ?_, ?_, ?_, q7, q8⟩
        · rw [add_plain] at q0; rw [Nat.mul_comm 7 i]; exact q0
        · rw [add_plain, add_plain] at q1; rw [Nat.mul_comm 7 i]; exact q1
        · rw [add_plain, add_plain] at q2; rw [Nat.mul_comm 7 i]; exact q2
        · rw [add_plain, add_plain] at q3; rw [Nat.mul_comm 7 i]; exact q3
        · rw [add_plain, add_plain] at q4; rw [Nat.mul_comm 7 i]; exact q4
        · rw [add_plain, add_plain] at q5; rw [Nat.mul_comm 7 i]; exact q5
        · rw [add_plain, add_plain] at q6; rw [Nat.mul_comm 7 i]; exact q6)
      exact ⟨_, s, rfl, _, cap, b, o, by rw [hs1], fun _ => rfl, by omega, hcm, hs2⟩
theorem build_cs {b : Nat} : ∀ (n o : Nat), (∀ i, i < n → ∃ (v : Value) (s : Cl), W.cell? ⟨b, o + i, none⟩ = some v ∧ CIn W s v) → ∃ cs : List Cl, cs.length = n ∧ ∀ i c, cs[i]? = some c → ∃ cv, W.cell? ⟨b, o + i, none⟩ = some cv ∧ CIn W c cv
  | 0, _, _ => ⟨[], rfl, fun i c h => by simp at h⟩
  | n + 1, o, h => by
    obtain ⟨cs, hl, hP⟩ := build_cs n (o + 1) (fun i hi => by
      have := h (i + 1) (by omega)
      rw [show o + (i + 1) = o + 1 + i by omega] at this
      exact this)
    obtain ⟨v, s, h0, h1⟩ := h 0 (by omega)
    refine ⟨s :: cs, by simp [hl], fun i c hc => ?_⟩
    match i, hc with
    | 0, hc =>
      simp only [List.getElem?_cons_zero, Option.some.injEq] at hc
      subst hc
      exact ⟨v, h0, h1⟩
    | i + 1, hc =>
      obtain ⟨cv, q1, q2⟩ := hP i c (by simpa using hc)
      exact ⟨cv, by rw [show o + (i + 1) = o + 1 + i by omega]; exact q1, q2⟩
set_option maxRecDepth 100000 in
theorem open_cs {r : Reach} {b0 : Nat} {v : Value} {d : DataW H} {p : List MemPlace} (hv : Value.okWide Try.prog W r b0 26 v) (h : DataW.Trod enc Try.prog W 0 sp held 26 v d p) : ∃ cs : List Cl, CsIn W cs v ∧ (cs = [] ∨ ∃ elems spare, d = .slice elems spare ∧ elems.length = cs.length) := by
  obtain ⟨a0, len0, cap0, rfl⟩ := okWide_slice Try.underlying26 hv
  obtain ⟨fuel, hf⟩ := h
  rcases DataW.trod_slice Try.underlying26 hf with ⟨hc, _⟩ | ⟨a, len, cap, elems, rest, n, hfuel, hc, hx, _, hlc, hcm, hlen, hel, _, _⟩
  · simp [Value.cells] at hc
    obtain ⟨rfl, rfl, rfl⟩ := hc
    exact ⟨[], CsIn.nil W, .inl rfl⟩
  · simp [Value.cells] at hc
    obtain ⟨rfl, rfl, rfl⟩ := hc
    rw [Try.cells25] at hel
    obtain ⟨b, o, spot⟩ := a
    have hone : ∀ i, i < len0 → ∃ (v : Value) (s : Cl), W.cell? ((⟨b, o, spot⟩ : Addr).add i) = some v ∧ CIn W s v := fun i hi => by
      have h1 := hel i hi
      have hi' : i < elems.length := by omega
      rw [List.getElem?_eq_getElem hi'] at h1
      obtain ⟨cs, h2, h3⟩ := Option.bind_eq_some_iff.1 h1
      obtain ⟨_, hl3, hcell⟩ := World.cells?_some h2
      obtain ⟨v, s, rfl, hs⟩ := open_clf h3
      refine ⟨v, s, ?_, hs⟩
      have := hcell 0 (by omega)
      simpa [Addr.add] using this
    by_cases h0 : len0 = 0
    · subst h0
      exact ⟨[], ⟨_, cap0, 0, 0, rfl, fun h => by simp at h, Nat.zero_le _, hcm, fun i c h => by simp at h⟩, .inl rfl⟩
    · have hspot : spot = none := by
        obtain ⟨v, s, q0, _⟩ := hone 0 (by omega)
        simpa [Addr.add] using World.cell?_spot q0
      subst hspot
      obtain ⟨cs, hs1, hs2⟩ := build_cs (W := W) (b := b) len0 o (fun i hi => by
        obtain ⟨v, s, q0, q1⟩ := hone i hi
        rw [add_plain] at q0
        exact ⟨v, s, q0, q1⟩)
      exact ⟨cs, ⟨_, cap0, b, o, by rw [hs1], fun _ => rfl, by omega, hcm, hs2⟩, .inr ⟨_, _, congrArg Prod.fst hx, by rw [List.length_map, hs1]; exact hlen⟩⟩
end
def normCs (cs : List Cl) : List Cl := cs.map normCl
theorem cs_norm {w : World} {cs : List Cl} {v : Value} (h : CsIn w cs v) : CsIn w (normCs cs) v := by
  obtain ⟨a, k, b, o, rfl, h2, h3, h4, h5⟩ := h
  refine ⟨a, k, b, o, by simp [normCs], by simpa [normCs] using h2, by simpa [normCs] using h3, h4, fun i c hc => ?_⟩
  rw [normCs, List.getElem?_map] at hc
  obtain ⟨c', hc', rfl⟩ := Option.map_eq_some_iff.1 hc
  obtain ⟨cv, q1, q2⟩ := h5 i c' hc'
  exact ⟨cv, q1, cl_norm q2⟩
theorem normCs_norm {cs : List Cl} : ∀ c ∈ normCs cs, ∀ l ∈ c, Fo.norm l.2.1.2 = l.2.1.2 ∧ Fo.norm l.2.2.2 = l.2.2.2 := fun c hc => by
  simp only [normCs, List.mem_map] at hc
  obtain ⟨q, _, rfl⟩ := hc
  exact normCl_norm
end Go.Proofs.Ytlgnpiphaeoeiad
