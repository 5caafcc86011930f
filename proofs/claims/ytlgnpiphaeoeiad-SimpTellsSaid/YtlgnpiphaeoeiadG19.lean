/- D7i P7h P7i CMs L6T L7B -/
import Derived.Test.YtlgnpiphaeoeiadG18
import Derived.BigQuiet
import Derived.Lib.AppendZeros
import Derived.Deep.RegionHeld3
namespace Go.Proofs.Ytlgnpiphaeoeiad
open Go.RowKit Go.Deep Go.ChangeShapes Go.WideShapes
attribute [local go_sem ↓] Go.wp_at_zero Go.wp_at_succ
theorem Try.info46 : (Try.prog.info? 46).map (fun i => (i.zero, i.size, i.bytes)) = some (some (.slice none 0 0), 1, 24) := by kernel_rfl
def SbsIn (w : World) (L : List Sb) (v : Value) : Prop :=
  ∃ (a : Option Addr) (k b o : Nat), v = .slice a L.length k ∧ (0 < L.length → a = some ⟨b, o, none⟩) ∧ L.length ≤ k ∧ k ≤ maxLen ∧ ∀ i s, L[i]? = some s → ∃ sv, w.cell? ⟨b, o + i, none⟩ = some sv ∧ SubIn w s sv
theorem SbsIn.below {w w' : World} (hb : Below w.heap.size w w') {L : List Sb} {v : Value} (h : SbsIn w L v) : SbsIn w' L v := by
  obtain ⟨a, k, b, o, h1, h2, h3, h4, h5⟩ := h
  refine ⟨a, k, b, o, h1, h2, h3, h4, fun i s hs => ?_⟩
  obtain ⟨sv, k1, k2⟩ := h5 i s hs
  exact ⟨sv, grow_cell hb _ _ k1, k2.below hb⟩
structure NxS (lo : Nat) (w : World) (L : List Sb) (v : Value) (xs : List Value) : Prop where
  row : w.ownsRow lo 46 1 v L.length xs
  sl : ∀ g, v.ownBlock = some g → SlR w g
  el : ∀ (i : Nat) (s : Sb), L[i]? = some s → ∃ sv, xs[i]? = some sv ∧ SubIn w s sv
theorem NxS.nil (lo : Nat) (w : World) : NxS lo w [] (.slice none 0 0) [] := ⟨World.ownsRow_nil _ _ _ _, fun g hg => by simp [Value.ownBlock] at hg, fun i s h => by simp at h⟩
theorem NxS.below {lo : Nat} {w w' : World} {L : List Sb} {v : Value} {xs : List Value} (h : NxS lo w L v xs) (hb : Below w.heap.size w w') : NxS lo w' L v xs where
  row := owns_keep h.row (fun g hg => hb.block g (owns_at h.row g hg).2)
  sl := fun g hg => (h.sl g hg).keep (hb.block g (owns_at h.row g hg).2)
  el := fun i c hc => by
    obtain ⟨cv, h1, h2⟩ := h.el i c hc
    exact ⟨cv, h1, h2.below hb⟩
theorem NxS.slice {lo : Nat} {w : World} {L : List Sb} {v : Value} {xs : List Value} (h : NxS lo w L v xs) : ∃ z1 z3, v = .slice z1 L.length z3 := by
  rcases h.row.2 with ⟨rfl, e⟩ | ⟨g, cap, cur, rfl, _⟩
  · exact ⟨none, 0, by rw [e]⟩
  · exact ⟨_, cap, rfl⟩
theorem NxS.sbs {lo : Nat} {w : World} {L : List Sb} {v : Value} {xs : List Value} (h : NxS lo w L v xs) : SbsIn w L v := by
  have hcells := fun g hg => h.row.cells (g := g) hg
  rcases h.row.2 with ⟨e, h0⟩ | ⟨g, cap, cur, e, _, _, hn, hm, _, _⟩
  · have : L = [] := List.length_eq_zero_iff.1 h0
    rw [this, e]
    exact ⟨none, 0, 0, 0, rfl, fun h => by simp at h, Nat.le_refl _, Nat.zero_le _, fun i s h => by simp at h⟩
  · refine ⟨some ⟨g, 0, none⟩, cap, g, 0, e, fun _ => rfl, hn, hm, fun i c hc => ?_⟩
    obtain ⟨cv, h1, h2⟩ := h.el i c hc
    refine ⟨cv, ?_, h2⟩
    have := hcells g (by rw [e]; rfl) i cv h1
    rw [add_plain] at this
    exact this
theorem NxS.push {lo : Nat} {w : World} {L : List Sb} {v : Value} {xs : List Value} (h : NxS lo w L v xs) {s : Sb} {sv : Value} (hS : SubIn w s sv) {v4 : Value} {w3 w4 : World} (hb : Below w.heap.size w w3)
    (ho : w4.ownsRow lo 46 1 v4 (L.length + 1) (xs ++ [sv])) (hg : w3.grownBy w4 v.ownBlock) (hsl : ∀ g, v4.ownBlock = some g → SlR w4 g) (hlo : lo ≤ w.heap.size) : NxS lo w4 (L ++ [s]) v4 (xs ++ [sv]) ∧ Below lo w w4 ∧ Kpt w w4 := by
  have h3 := h.below hb
  have hs3 := hb.size
  have hs4 := hg.size
  have hk34 : Kpt w3 w4 := kpt_of fun q hq hn => hg.block q hq (fun e => hn (h3.sl q e.symm).not)
  have hk := (kpt_below hb).trans hk34
  have hxl : xs.length = L.length := by have := h.row.1; omega
  refine ⟨⟨by rw [List.length_append]; exact ho, hsl, fun i d hd => ?_⟩, ⟨hg.os.trans hb.os, hg.tape.trans hb.tape, hg.output.trans hb.output, by omega, fun q hq => ?_⟩, hk⟩
  · by_cases hi : i < L.length
    · rw [List.getElem?_append_left hi] at hd
      obtain ⟨cv, h1, h2⟩ := h.el i d hd
      exact ⟨cv, by rw [List.getElem?_append_left (by omega)]; exact h1, hk.subin h2⟩
    · have hil := (List.getElem?_eq_some_iff.1 hd).1
      simp only [List.length_append, List.length_cons, List.length_nil] at hil
      have hie : i = L.length := by omega
      subst hie
      rw [List.getElem?_append_right (Nat.le_refl _), Nat.sub_self] at hd
      simp only [List.getElem?_cons_zero, Option.some.injEq] at hd
      subst hd
      refine ⟨sv, ?_, hk.subin hS⟩
      rw [List.getElem?_append_right (by omega), hxl, Nat.sub_self]
      rfl
  · have hqv : some q ≠ v.ownBlock := fun e => by have := owns_at h.row q e.symm; omega
    rw [hg.block q (by omega) hqv, hb.block q (by omega)]
def nxK (x y : Lt) (s : Sb) (k : Nat) : List Sb := (if 0 < k then (wayC x y s).toList else []) ++ (if 1 < k then (wayC x (turnL true y) s).toList else [])
theorem nxK_next {x y : Lt} {s : Sb} {k : Nat} (hk : k < 2) : nxK x y s (k + 1) = nxK x y s k ++ (wayC x (turnL (decide (k = 1)) y) s).toList := by
  obtain rfl | rfl : k = 0 ∨ k = 1 := by omega
  · simp [nxK]; rfl
  · simp [nxK]
theorem flat_next {α β : Type} {f : α → List β} {l : List α} {i : Nat} {y : α} (h : l[i]? = some y) : (l.take (i + 1)).flatMap f = (l.take i).flatMap f ++ f y := by
  rw [List.take_add_one, h, List.flatMap_append]
  simp
theorem turn_callS {l : Lt} (yes : Bool) {w : World} {a1 d1 : Option Addr} {a3 d3 : Nat} (hA : SIn w l.2.1.2 (.slice a1 (Fo.len l.2.1.2) a3)) (hD : SIn w l.2.2.2 (.slice d1 (Fo.len l.2.2.2) d3)) : ∃ (b1 : Option Addr) (b3 : Nat) (e1 : Option Addr) (e3 : Nat), SIn w (turnL yes l).2.1.2 (.slice b1 (Fo.len (turnL yes l).2.1.2) b3) ∧ SIn w (turnL yes l).2.2.2 (.slice e1 (Fo.len (turnL yes l).2.2.2) e3) ∧
    ∀ w' : World, Calls Try.prog 23 #[litA l (.slice a1 (Fo.len l.2.1.2) a3) (.slice d1 (Fo.len l.2.2.2) d3), .bool yes] w' fun e w'' => e = .returned (litA (turnL yes l) (.slice b1 (Fo.len (turnL yes l).2.1.2) b3) (.slice e1 (Fo.len (turnL yes l).2.2.2) e3)) ∧ Below w'.heap.size w' w'' := by
  cases yes
  · exact ⟨a1, a3, d1, d3, hA, hD, fun w' => turnR_any l false a1 d1 _ _ _ _ w'⟩
  · exact ⟨d1, d3, a1, a3, hD, hA, fun w' => turnR_any l true a1 d1 _ _ _ _ w'⟩
set_option maxRecDepth 100000 in
set_option maxHeartbeats 4000000 in
theorem coversR_any (c d : Cl) (cv dv : Value) (w : World) (hC : CIn w c cv) (hD : CIn w d dv) (h4 : c.length ≤ 4) (hd4 : d.length ≤ 4) (hc : ∀ l ∈ c, tszR l.2.1.2 ≤ 12 ∧ tszR l.2.2.2 ≤ 12) :
    Calls Try.prog 8 #[cv, dv] w fun e w' => e = .returned (.bool (covT c d)) ∧ Below w.heap.size w w' := by
  obtain ⟨a1, c1, b1, o1, rfl, had1, hlc1, hcm1, hF1⟩ := hC
  obtain ⟨a2, c2, b2, o2, rfl, had2, hlc2, hcm2, hF2⟩ := hD
  unfold maxLen at hcm1 hcm2
  have HF1 := hide hF1
  have HF2 := hide hF2
  have Hc := hide hc
  have Hnil := hide (SubIn.nil w)
  clear hF1 hF2 hc
  obtain ⟨iS, hi, hz0, hz1, hz2⟩ := info_parts Try.info46
  have HiS := hide (And.intro hi (And.intro hz0 (And.intro hz1 hz2)))
  clear hi hz0 hz1 hz2
  go_enter Try.func8, Try.ntmps8
  go_wp2_with fail
  go_loopw [5, 22] (fun v i wr => ∃ (j : Nat) (L : List Sb) (n1 : Option Addr) (n3 : Nat), j ≤ c.length ∧ i = .int .i64 j ∧ v = .slice n1 L.length n3 ∧ SbsIn wr L (.slice n1 L.length n3) ∧ covN d (c.drop j) L = covN d c [[]] ∧ L.length ≤ 8 ^ j ∧ (∀ s ∈ L, s.length ≤ j * 24) ∧ Below w.heap.size w wr) (fun _ i _ => c.length - (intOf i).toNat)
  case atStart =>
    refine ⟨0, [[]], _, _, Nat.zero_le _, rfl, rfl, ⟨_, _, w.heap.size, 0, rfl, fun _ => rfl, Nat.le_refl _, by unfold maxLen; omega, fun i s hs => ?_⟩, rfl, Nat.le_refl _, fun s hs => ?_, below_alloc _ _⟩
    · have hi' := (List.getElem?_eq_some_iff.1 hs).1
      have : i = 0 := by simp at hi'; omega
      subst this
      simp at hs
      subst hs
      exact ⟨_, new_cell rfl, (SubIn.nil _)⟩
    · rw [List.mem_singleton.1 hs]; simp
  case round =>
    obtain ⟨j, L, n1, n3, hj, rfl, rfl, hSL, hcov, hLl, hLs, hBr⟩ := hrel
    have Hcov := hide hcov
    have HSL := hide hSL
    have HLs := hide hLs
    have hsr := hBr.size
    have HBr := hide hBr
    clear hcov hLs
    by_cases hlt : j < c.length
    · have hlt' : (j : Int) < (c.length : Int) := by omega
      obtain ⟨x, hx⟩ : ∃ x, c[j]? = some x := ⟨c[j]'hlt, by simp⟩
      have Hcx := hide (Hc.out x (List.mem_of_getElem? hx))
      have Hcov2 : Hid (covN d (c.drop j) L = covN d (c.drop (j + 1)) (L.flatMap (covS x d))) := by
        obtain ⟨hj', e⟩ := List.getElem?_eq_some_iff.1 hx
        rw [Hid, List.drop_eq_getElem_cons hj', e]
        rfl
      obtain ⟨p0, p1, p2, ⟨u3, p3, hA⟩, p4, p5, u6, p6, hD⟩ := (HF1.out.below hBr).at hx
      have ha1 : a1 = some ⟨b1, o1, none⟩ := had1 (by omega)
      subst ha1
      have HA := hide hA
      have HD := hide hD
      obtain ⟨ya, yc, _, _, rfl, -, -, -, -⟩ := hA
      obtain ⟨za, zc, _, _, rfl, -, -, -, -⟩ := hD
      have hL8 : L.length ≤ 4096 := Nat.le_trans hLl (Nat.le_trans (Nat.pow_le_pow_right (by omega) (show j ≤ 4 by omega)) (by decide))
      have HLl := hide hLl
      clear hx had1 hSL hLl hBr
      obtain ⟨xn, ⟨⟨xv, xi⟩, xk⟩, ⟨xv', xi'⟩, xk'⟩ := x
      simp only at *
      go_upto_region 5 with fail
      generalize hwa : wr.alloc (.cells #[.bool xn, .bool xv, .int .i64 xi, .slice ya (Fo.len xk) yc, .bool xv', .int .i64 xi', .slice za (Fo.len xk') zc] 35) = wa
      obtain ⟨g0, g1, g2, g3, g4, g5, g6, -, hba, hsa⟩ := lit_cells (T := 35) (w := wr) (wr := wa) (x0 := .bool xn) (x1 := .bool xv) (x2 := .int .i64 xi) (x3 := .slice ya (Fo.len xk) yc) (x4 := .bool xv') (x5 := .int .i64 xi') (x6 := .slice za (Fo.len xk') zc) (by rw [← hwa]; exact Below.refl _ _)
      have HG := hide (And.intro g0 (And.intro g1 (And.intro g2 (And.intro g3 (And.intro g4 (And.intro g5 g6))))))
      replace HA := hide (HA.out.below hba)
      replace HD := hide (HD.out.below hba)
      replace HSL := hide (HSL.out.below hba)
      have HBa := hide (below_step HBr.out hba)
      clear hwa g0 g1 g2 g3 g4 g5 g6 hba p0 p1 p2 p3 p4 p5 p6
      generalize wr.heap.size = gx at *
      go_wp2_with fail
      generalize wr = wo at *
      go_loopw [8, 28] (fun v i wr => ∃ (q : Nat) (N : List Sb) (m1 : Option Addr) (m3 : Nat) (xs : List Value), q ≤ L.length ∧ i = .int .i64 q ∧ v = .slice m1 N.length m3 ∧ NxS wa.heap.size wr N (.slice m1 N.length m3) xs ∧ N = (L.take q).flatMap (covS (xn, ((xv, xi), xk), ((xv', xi'), xk')) d) ∧ N.length ≤ q * 8 ∧ Below wa.heap.size wa wr) (fun _ i _ => L.length - (intOf i).toNat)
      case atStart => exact ⟨0, [], none, 0, [], Nat.zero_le _, rfl, rfl, NxS.nil _ _, rfl, Nat.le_refl _, Below.refl _ _⟩
      case round =>
        obtain ⟨q, N, m1, m3, xs, hq, rfl, rfl, hNx, hN, hNl, hBq⟩ := hrel
        have HNx := hide hNx
        have HN := hide hN
        have HBq := hide hBq
        clear hNx hN
        by_cases hql : q < L.length
        · have hql' : (q : Int) < (L.length : Int) := by omega
          obtain ⟨s, hs⟩ : ∃ s, L[q]? = some s := ⟨L[q]'hql, by simp⟩
          obtain ⟨_, _, lb, lo', hle, hlad, hllc, hlcm, hlel⟩ := HSL.out
          simp only [Value.slice.injEq, true_and] at hle
          obtain ⟨rfl, rfl⟩ := hle
          unfold maxLen at hlcm
          have hn1 : n1 = some ⟨lb, lo', none⟩ := hlad (by omega)
          subst hn1
          obtain ⟨sv, s0, hsv⟩ := hlel q s hs
          replace s0 := grow_cell hBq _ _ s0
          obtain ⟨s1, s3, rfl⟩ := slice_of_sub hsv
          have HSv := hide hsv
          have Hsl : Hid (s.length ≤ j * 24) := HLs.out s (List.mem_of_getElem? hs)
          have Hfn : Hid ((L.take (q + 1)).flatMap (covS (xn, ((xv, xi), xk), ((xv', xi'), xk')) d) = (L.take q).flatMap (covS (xn, ((xv, xi), xk), ((xv', xi'), xk')) d) ++ covS (xn, ((xv, xi), xk), ((xv', xi'), xk')) d s) := flat_next hs
          clear hs hlad hlel hsv hBq
          go_wp2_with fail
          generalize wr = wi at *
          go_loopw [8, 34] (fun v i wr => ∃ (e : Nat) (M : List Sb) (m1 : Option Addr) (m3 : Nat) (xs : List Value), e ≤ d.length ∧ i = .int .i64 e ∧ v = .slice m1 M.length m3 ∧ NxS wa.heap.size wr M (.slice m1 M.length m3) xs ∧ M = N ++ (d.take e).flatMap (fun y => nxK (xn, ((xv, xi), xk), ((xv', xi'), xk')) y s 2) ∧ M.length ≤ q * 8 + e * 2 ∧ Below wa.heap.size wa wr) (fun _ i _ => d.length - (intOf i).toNat)
          case atStart => exact ⟨0, N, m1, m3, xs, Nat.zero_le _, rfl, rfl, HNx.out, by simp, by omega, HBq.out⟩
          case round =>
            obtain ⟨e, M, l1, l3, ys, he, rfl, rfl, hMx, hM, hMl, hBe⟩ := hrel
            have HMx := hide hMx
            have HM := hide hM
            have HBe := hide hBe
            clear hMx hM
            by_cases hel : e < d.length
            · have hel' : (e : Int) < (d.length : Int) := by omega
              obtain ⟨y, hy⟩ : ∃ y, d[e]? = some y := ⟨d[e]'hel, by simp⟩
              have HBwe := hide (below_step HBa.out hBe)
              obtain ⟨p0, p1, p2, ⟨u3, p3, hA2⟩, p4, p5, u6, p6, hD2⟩ := (HF2.out.below HBwe.out).at hy
              have ha2 : a2 = some ⟨b2, o2, none⟩ := had2 (by omega)
              subst ha2
              have HA2 := hide hA2
              have HD2 := hide hD2
              obtain ⟨ta, tc, _, _, rfl, -, -, -, -⟩ := hA2
              obtain ⟨qa, qc, _, _, rfl, -, -, -, -⟩ := hD2
              have Hfm : Hid ((d.take (e + 1)).flatMap (fun y => nxK (xn, ((xv, xi), xk), ((xv', xi'), xk')) y s 2) = (d.take e).flatMap (fun y => nxK (xn, ((xv, xi), xk), ((xv', xi'), xk')) y s 2) ++ nxK (xn, ((xv, xi), xk), ((xv', xi'), xk')) y s 2) := flat_next hy
              clear hy had2 hBe
              obtain ⟨yn, ⟨⟨yv, yi⟩, yk⟩, ⟨yv', yi'⟩, yk'⟩ := y
              simp only at *
              go_upto_region 12 with fail
              generalize hwb : wr.alloc (.cells #[.bool yn, .bool yv, .int .i64 yi, .slice ta (Fo.len yk) tc, .bool yv', .int .i64 yi', .slice qa (Fo.len yk') qc] 35) = wb
              obtain ⟨e0, e1, e2, e3, e4, e5, e6, -, hbb, hsb⟩ := lit_cells (T := 35) (w := wr) (wr := wb) (x0 := .bool yn) (x1 := .bool yv) (x2 := .int .i64 yi) (x3 := .slice ta (Fo.len yk) tc) (x4 := .bool yv') (x5 := .int .i64 yi') (x6 := .slice qa (Fo.len yk') qc) (by rw [← hwb]; exact Below.refl _ _)
              have HE := hide (And.intro e0 (And.intro e1 (And.intro e2 (And.intro e3 (And.intro e4 (And.intro e5 e6))))))
              replace HA2 := hide (HA2.out.below hbb)
              replace HD2 := hide (HD2.out.below hbb)
              replace HMx := hide (HMx.out.below hbb)
              replace HBe := hide (HBe.out.trans (hbb.mono HBe.out.size))
              have hwas := HBe.out.size
              clear hwb e0 e1 e2 e3 e4 e5 e6 hbb p0 p1 p2 p3 p4 p5 p6
              generalize wr.heap.size = gy at *
              go_wp2_with fail
              generalize wr = we at *
              go_loopw [8, 38] (fun v i wr => ∃ (kk : Nat) (K : List Sb) (m1 : Option Addr) (m3 : Nat) (xs : List Value), kk ≤ 2 ∧ i = .int .i64 kk ∧ v = .slice m1 K.length m3 ∧ NxS wa.heap.size wr K (.slice m1 K.length m3) xs ∧ K = M ++ nxK (xn, ((xv, xi), xk), ((xv', xi'), xk')) (yn, ((yv, yi), yk), ((yv', yi'), yk')) s kk ∧ K.length ≤ q * 8 + e * 2 + kk ∧ Below wa.heap.size wb wr ∧ Kpt wb wr) (fun _ i _ => 2 - (intOf i).toNat)
              case atStart => exact ⟨0, M, l1, l3, ys, Nat.zero_le _, rfl, rfl, HMx.out, by simp [nxK], by omega, Below.refl _ _, Kpt.refl _⟩
              case round =>
                obtain ⟨kk, K, k1, k3, zs, hkk, rfl, rfl, hKx, hK, hKl, hBk, hKp⟩ := hrel
                have HKx := hide hKx
                have HK := hide hK
                have HBk := hide hBk
                have HKp := hide hKp
                have HBak := hide (HBe.out.trans hBk)
                have hask := HBak.out.size
                clear hKx hK
                by_cases hkl : kk < 2
                · have hkl' : (kk : Int) < 2 := by omega
                  obtain ⟨e0, e1, e2, e3, e4, e5, e6⟩ := HE.out
                  have hkc := hKp gy (fun hn => by have := hn 0 yn e0; rw [show (0 : Nat) + 1 = 1 from rfl, e1] at this; cases this)
                  rw [← hkc] at e0 e1 e2 e3 e4 e5 e6
                  have hs1 : ((kk : Int) == 1) = decide (kk = 1) := kk_is
                  obtain ⟨sa1, sa3, sd1, sd3, hSA, hSD, hSc⟩ := turn_callS (l := (yn, ((yv, yi), yk), ((yv', yi'), yk'))) (decide (kk = 1)) (HKp.out.sin HA2.out) (HKp.out.sin HD2.out)
                  have Hnk := hide (nxK_next (x := (xn, ((xv, xi), xk), ((xv', xi'), xk'))) (y := (yn, ((yv, yi), yk), ((yv', yi'), yk'))) (s := s) hkl)
                  generalize decide (kk = 1) = sb at *
                  generalize turnL sb (yn, ((yv, yi), yk), ((yv', yi'), yk')) = ty at *
                  obtain ⟨sn, ⟨⟨sv, si⟩, sk⟩, ⟨⟨sv', si'⟩, sk'⟩⟩ := ty
                  simp only at hSA hSD hSc Hnk
                  have HSA := hide hSA
                  have HSD := hide hSD
                  have HSc := hide hSc
                  clear hSA hSD hSc hBk hKp hkc
                  go_wp2_with fail
                  refine (HSc.out _).mono ?_
                  rintro e w4 ⟨rfl, hb4⟩
                  clear e0 e1 e2 e3 e4 e5 e6
                  go_upto_region 16 with fail
                  generalize hwz : w4.alloc (.cells #[.bool sn, .bool sv, .int .i64 si, .slice sa1 (Fo.len sk) sa3, .bool sv', .int .i64 si', .slice sd1 (Fo.len sk') sd3] 35) = wz
                  obtain ⟨f0, f1, f2, f3, f4, f5, f6, -, hbz, -⟩ := lit_cells (T := 35) (w := w4) (wr := wz) (x0 := .bool sn) (x1 := .bool sv) (x2 := .int .i64 si) (x3 := .slice sa1 (Fo.len sk) sa3) (x4 := .bool sv') (x5 := .int .i64 si') (x6 := .slice sd1 (Fo.len sk') sd3) (by rw [← hwz]; exact Below.refl _ _)
                  have HF := hide (And.intro f0 (And.intro f1 (And.intro f2 (And.intro f3 (And.intro f4 (And.intro f5 f6))))))
                  have hbk := below_step hb4 hbz
                  have HBk2 := hide hbk
                  replace HSA := hide (HSA.out.below hbk)
                  replace HSD := hide (HSD.out.below hbk)
                  have HBaz := hide (HBak.out.trans (hbk.mono hask))
                  obtain ⟨g0, g1, g2, g3, g4, g5, g6⟩ := HG.out
                  replace g0 := grow_cell HBaz.out _ _ g0
                  replace g1 := grow_cell HBaz.out _ _ g1
                  replace g2 := grow_cell HBaz.out _ _ g2
                  replace g3 := grow_cell HBaz.out _ _ g3
                  replace g4 := grow_cell HBaz.out _ _ g4
                  replace g5 := grow_cell HBaz.out _ _ g5
                  replace g6 := grow_cell HBaz.out _ _ g6
                  have HKz := hide (HKx.out.below hbk)
                  have HBwz := hide (HBk.out.trans (hbk.mono hask))
                  have HKpz := hide (HKp.out.trans (kpt_below hbk))
                  have hzs := HBaz.out.size
                  have HSz := hide (HSv.out.below HBaz.out)
                  have HAz := hide (HA.out.below HBaz.out)
                  have HDz := hide (HD.out.below HBaz.out)
                  generalize w4.heap.size = gz at *
                  clear hwz hb4 hbz hbk
                  by_cases hneg : sn = xn
                  · subst hneg
                    have hnb : (sn != sn) = false := by simp
                    have Hwc : Hid (wayC (sn, ((xv, xi), xk), ((xv', xi'), xk')) (sn, ((sv, si), sk), ((sv', si'), sk')) s = (extT s ((xv, xi), xk) ((sv, si), sk)).bind fun a => extT a ((xv', xi'), xk') ((sv', si'), sk')) := if_pos rfl
                    have hsl1 := Hsl.out
                    have Hm1 := hide (moreR_any (xv, xi) xk s _ (sv, si) sk _ _ wz HSz.out HAz.out HSA.out (by have := Hcx.out.1; omega))
                    go_wp2_with fail
                    refine Hm1.out.mono ?_
                    rintro e' w5 ⟨hb5, t1, t3, sa, ok, rfl, hSa, hex, -⟩
                    have HSa := hide hSa
                    have HKz5 := hide (HKz.out.below hb5)
                    have HBwz5 := hide (HBwz.out.trans (hb5.mono hzs))
                    have HKpz5 := hide (HKpz.out.trans (kpt_below hb5))
                    cases ok
                    · have Hno : Hid (K = M ++ nxK (sn, ((xv, xi), xk), ((xv', xi'), xk')) (yn, ((yv, yi), yk), ((yv', yi'), yk')) s (kk + 1)) := by
                        rw [Hid, Hnk.out, Hwc.out, hex]
                        simpa using HK.out
                      clear hSa hex hb5 f0 f1 f2 f3 f4 f5 f6 g0 g1 g2 g3 g4 g5 g6
                      go_wp2_with fail
                      go_roundw
                      case rel => exact ⟨kk + 1, K, k1, k3, zs, by omega, by go_num, rfl, HKz5.out, Hno.out, by omega, HBwz5.out, HKpz5.out⟩
                      case measure => simp [intOf]; omega
                    · simp only [if_true] at hex
                      have hsal := extT_len hex
                      simp only at hsal
                      have Hex := hide hex
                      have Hm2 := hide (moreR_any (xv', xi') xk' sa _ (sv', si') sk' _ _ w5 HSa.out (HDz.out.below hb5) (HSD.out.below hb5) (by have := Hcx.out.1; have := Hcx.out.2; omega))
                      replace f4 := grow_cell hb5 _ _ f4
                      replace f5 := grow_cell hb5 _ _ f5
                      replace f6 := grow_cell hb5 _ _ f6
                      replace g4 := grow_cell hb5 _ _ g4
                      replace g5 := grow_cell hb5 _ _ g5
                      replace g6 := grow_cell hb5 _ _ g6
                      clear hSa hex f0 f1 f2 f3 g0 g1 g2 g3
                      go_wp2_with fail
                      refine Hm2.out.mono ?_
                      rintro e' w6 ⟨hb6, r1, r3, sb', ok, rfl, hSb, hex2, -⟩
                      have HSb := hide hSb
                      have HKz6 := hide (HKz5.out.below hb6)
                      have hz5 := hb5.size
                      have HBwz6 := hide (HBwz5.out.trans (hb6.mono (by omega)))
                      have HKpz6 := hide (HKpz5.out.trans (kpt_below hb6))
                      have hz6 := hb6.size
                      clear f4 f5 f6 g4 g5 g6
                      cases ok
                      · have Hno : Hid (K = M ++ nxK (sn, ((xv, xi), xk), ((xv', xi'), xk')) (yn, ((yv, yi), yk), ((yv', yi'), yk')) s (kk + 1)) := by
                          rw [Hid, Hnk.out, Hwc.out, Hex.out, Option.bind_some, hex2]
                          simpa using HK.out
                        clear hSb hex2 hb6 hb5
                        go_wp2_with fail
                        go_roundw
                        case rel => exact ⟨kk + 1, K, k1, k3, zs, by omega, by go_num, rfl, HKz6.out, Hno.out, by omega, HBwz6.out, HKpz6.out⟩
                        case measure => simp [intOf]; omega
                      · simp only [if_true] at hex2
                        have Hyes : Hid (K ++ [sb'] = M ++ nxK (sn, ((xv, xi), xk), ((xv', xi'), xk')) (yn, ((yv, yi), yk), ((yv', yi'), yk')) s (kk + 1)) := by
                          rw [Hid, Hnk.out, Hwc.out, Hex.out, Option.bind_some, hex2, HK.out]
                          simp
                        obtain ⟨hi, hz0, hz1, hz2⟩ := HiS.out
                        have hba6 := below_alloc w6 (.cells #[.slice r1 sb'.length r3] 46)
                        have HK6 := HKz6.out.below hba6
                        obtain ⟨v7, w7, hrun, ho7, hg7, -, hsl7⟩ := run_append_sl (P := Try.prog) (w6.alloc (.cells #[.slice r1 sb'.length r3] 46)) 53 53 wa.heap.size 46 iS 24 Try.underlying53 hi hz0 hz1 hz2 (.slice k1 K.length k3) K.length zs HK6.row HK6.sl ⟨w6.heap.size, 0, none⟩ 1 1 [.slice r1 sb'.length r3] rfl (fun j u hj => World.news_of_block (cs := #[.slice r1 sb'.length r3]) (heap_alloc_new w6 _) j u hj) (fun u hu => by simp at hu; exact ⟨_, _, _, hu⟩) (by omega) (by unfold maxLen; omega) (by omega) (by simp; omega)
                        obtain ⟨hP1, hP2, hP3⟩ := HKz6.out.push HSb.out hba6 ho7 hg7 hsl7 (by omega)
                        obtain ⟨u1, u3, hv7⟩ := hP1.slice
                        rw [show (K ++ [sb']).length = K.length + 1 by simp] at hv7
                        subst hv7
                        have HP1 := hide hP1
                        have hz6' := hP2.size
                        have HP2 := hide (HBwz6.out.trans hP2)
                        have HP3 := hide (HKpz6.out.trans hP3)
                        have hKl' : (K ++ [sb']).length = K.length + 1 := by simp
                        have Hrun := hide hrun
                        clear hP1 hP2 hP3 hrun hsl7 ho7 hg7 hba6 HK6 hSb hex2 hb5 hb6 hi hz0 hz1 hz2
                        go_wp2_with (at_builtin; refine wpList_append_is rfl (.tmp 71) (.tmp 73) 53 rfl _ _ _ w7 rfl rfl Hrun.out ?_)
                        go_roundw
                        case rel => exact ⟨kk + 1, K ++ [sb'], u1, u3, _, by omega, by go_num, by rw [hKl'], by rw [hKl']; exact HP1.out, Hyes.out, by omega, HP2.out, HP3.out⟩
                        case measure => simp [intOf]; omega
                  · have Hno : Hid (K = M ++ nxK (xn, ((xv, xi), xk), ((xv', xi'), xk')) (yn, ((yv, yi), yk), ((yv', yi'), yk')) s (kk + 1)) := by
                      rw [Hid, Hnk.out, wayC, if_neg (by simpa using hneg)]
                      simpa using HK.out
                    rcases (by cases sn <;> cases xn <;> simp_all : (sn = true ∧ xn = false) ∨ (sn = false ∧ xn = true)) with ⟨rfl, rfl⟩ | ⟨rfl, rfl⟩
                    all_goals
                      clear hneg
                      go_wp2_with fail
                      go_roundw
                      case rel => exact ⟨kk + 1, K, k1, k3, zs, by omega, by go_num, rfl, HKz.out, Hno.out, by omega, HBwz.out, HKpz.out⟩
                      case measure => simp [intOf]; omega
                · have hk2 : kk = 2 := by omega
                  subst hk2
                  have Hm : Hid (K = N ++ (d.take (e + 1)).flatMap (fun y => nxK (xn, ((xv, xi), xk), ((xv', xi'), xk')) y s 2)) := by
                    rw [Hid, Hfm.out, HK.out, HM.out, List.append_assoc]
                  go_wp2_with fail
                  go_roundw
                  case rel => exact ⟨e + 1, K, k1, k3, zs, by omega, by go_num, rfl, HKx.out, Hm.out, by omega, HBak.out⟩
                  case measure => simp [intOf]; omega
            · have hee : e = d.length := by omega
              have Hm : Hid (M = (L.take (q + 1)).flatMap (covS (xn, ((xv, xi), xk), ((xv', xi'), xk')) d)) := by
                rw [Hid, Hfn.out, HM.out, HN.out, hee, List.take_length]
                rfl
              go_wp2_with fail
              go_roundw
              case rel => exact ⟨q + 1, M, l1, l3, ys, by omega, by go_num, rfl, HMx.out, Hm.out, by omega, HBe.out⟩
              case measure => simp [intOf]; omega
        · have hqe : q = L.length := by omega
          have Hn : Hid (covN d (c.drop (j + 1)) N = covN d c [[]]) := by
            have h := HN.out
            rw [hqe, List.take_length] at h
            rw [Hid, h, ← Hcov2.out, Hcov.out]
          have HSN := hide HNx.out.sbs
          have Hl8 : Hid (N.length ≤ 8 ^ (j + 1)) := by
            have h1 := HLl.out
            rw [Hid, Nat.pow_succ]
            omega
          have Hls : Hid (∀ s' ∈ N, s'.length ≤ (j + 1) * 24) := fun s' hs' => by
            rw [HN.out] at hs'
            obtain ⟨s, hs, hs2⟩ := List.mem_flatMap.1 hs'
            have h1 := HLs.out s (List.mem_of_mem_take hs)
            obtain ⟨y, _, k', h3⟩ := covS_mem.1 hs2
            unfold wayC at h3
            split at h3
            · rw [Option.bind_eq_some_iff] at h3
              obtain ⟨a', h4', h5'⟩ := h3
              have h6 := extT_len h4'
              have h7 := extT_len h5'
              have h8 := Hcx.out
              simp only at h6 h7 h8
              omega
            · cases h3
          have HBn := hide (below_step HBa.out HBq.out)
          go_wp2_with fail
          go_roundw
          case rel => exact ⟨j + 1, N, m1, m3, by omega, by go_num, rfl, HSN.out, Hn.out, Hl8.out, Hls.out, HBn.out⟩
          case measure => simp [intOf]; omega
    · have hje : j = c.length := by omega
      have Hf : Hid (covT c d = decide (0 < L.length)) := by
        have h := Hcov.out
        rw [hje, List.drop_length] at h
        unfold covT Hid
        rw [← h]
        cases L with
        | nil => rfl
        | cons a b => simp [covN]
      clear hSL had1
      go_wp2_with fail
      go_ret
      refine ⟨?_, HBr.out⟩
      rw [Hf.out]
      simp
end Go.Proofs.Ytlgnpiphaeoeiad

namespace Go.Proofs.Ytlgnpiphaeoeiad
open Go.RowKit Go.Deep Go.ChangeShapes Go.WideShapes
attribute [local go_sem ↓] Go.wp_at_zero Go.wp_at_succ
def covD (d : Cl) : Cl → Sb → Bool
  | [], _ => true
  | x :: c, s => (covS x d s).any (covD d c)
theorem covN_any {d : Cl} : ∀ {c : Cl} {now : List Sb}, (!(covN d c now).isEmpty) = now.any (covD d c)
  | [], now => by
    cases now with
    | nil => rfl
    | cons s l => simp [covN, covD]
  | x :: c, now => by
    rw [covN, covN_any (c := c), List.any_flatMap]
    rfl
theorem covT_is {c d : Cl} : covT c d = covD d c [] := by
  unfold covT
  rw [covN_any]
  simp
def litD (d c : Cl) (x : Lt) (s : Sb) (y : Lt) : Bool := ((wayC x y s).toList ++ (wayC x (turnL true y) s).toList).any (covD d c)
def oneD (d c : Cl) (x : Lt) (s : Sb) (y : Lt) : Bool := match wayC x y s with
  | some s' => covD d c s'
  | none => false
theorem litD_is {d c : Cl} {x : Lt} {s : Sb} {y : Lt} : litD d c x s y = (oneD d c x s y || oneD d c x s (turnL true y)) := by
  unfold litD oneD
  rw [List.any_append]
  cases wayC x y s <;> cases wayC x (turnL true y) s <;> simp
theorem covD_cons {d c : Cl} {x : Lt} {s : Sb} : covD d (x :: c) s = d.any (litD d c x s) := by
  rw [covD, covS, List.any_flatMap]
  rfl
def BecPost (p l : Lt) (s : Sb) (w : World) (e : Ending) (w' : World) : Prop := ∃ (z1 : Option Addr) (m z3 : Nat) (ok : Bool), e = .returned (.tuple #[.slice z1 m z3, .bool ok]) ∧ (ok = false → wayC p l s = none) ∧ (ok = true → ∃ s', wayC p l s = some s' ∧ m = s'.length ∧ SubIn w' s' (.slice z1 m z3)) ∧ Below w.heap.size w w'
theorem gd_args {t : Tm} (h : Gd t) : ∀ y ∈ t.2.list, Gd y := fun y hy => by
  obtain ⟨⟨v, n⟩, k⟩ := t
  cases v with
  | true => rw [h.ok.1 rfl] at hy; simp [Fo.list] at hy
  | false => exact gd_mem h rfl hy
theorem ext_gd {t u : Tm} {s s' : Sb} (hu : Gd u) (hs : ∀ p ∈ s, Gd p.2) (h : extT s t u = some s') : ∀ p ∈ s', Gd p.2 := extT_all (P := Gd) (fun _ => gd_args) hu hs h
set_option maxRecDepth 100000 in
set_option maxHeartbeats 2000000 in
theorem become_any (p l : Lt) (s : Sb) (vs : Value) (a1 d1 b1 e1 : Option Addr) (a3 d3 b3 e3 : Nat) (w : World) (hV : SubIn w s vs) (hs : ∀ q ∈ s, Gd q.2) (hA : SIn w p.2.1.2 (.slice a1 (Fo.len p.2.1.2) a3)) (hD : SIn w p.2.2.2 (.slice d1 (Fo.len p.2.2.2) d3))
    (hB : SIn w l.2.1.2 (.slice b1 (Fo.len l.2.1.2) b3)) (hE : SIn w l.2.2.2 (.slice e1 (Fo.len l.2.2.2) e3)) (hp : tszR p.2.1.2 ≤ 12 ∧ tszR p.2.2.2 ≤ 12) (hl : Gd l.2.1 ∧ Gd l.2.2) (hlen : s.length ≤ 1000) :
    Calls Try.prog 22 #[vs, litA p (.slice a1 (Fo.len p.2.1.2) a3) (.slice d1 (Fo.len p.2.2.2) d3), litA l (.slice b1 (Fo.len l.2.1.2) b3) (.slice e1 (Fo.len l.2.2.2) e3)] w (BecPost p l s w) := by
  obtain ⟨pn, ⟨⟨pv, pi⟩, pk⟩, ⟨pv', pi'⟩, pk'⟩ := p
  obtain ⟨ln, ⟨⟨lv, li⟩, lk⟩, ⟨lv', li'⟩, lk'⟩ := l
  simp only at *
  have HV := hide hV
  have Hs := hide hs
  have HA := hide hA
  have HD := hide hD
  have HB := hide hB
  have HE := hide hE
  obtain ⟨v1, v3, rfl⟩ := slice_of_sub hV
  clear hA hD hB hE hs hV
  go_enter Try.func22, Try.ntmps22
  go_upto_region 1 with fail
  generalize hW1 : (w.alloc (.cells #[.bool pn, .bool pv, .int .i64 pi, .slice a1 (Fo.len pk) a3, .bool pv', .int .i64 pi', .slice d1 (Fo.len pk') d3] 35)).alloc (.cells #[.bool ln, .bool lv, .int .i64 li, .slice b1 (Fo.len lk) b3, .bool lv', .int .i64 li', .slice e1 (Fo.len lk') e3] 35) = W1
  have hB1 : Below w.heap.size w W1 := by rw [← hW1]; exact (below_alloc _ _).alloc (by simp) _
  have hR1 : RowAt W1 w.heap.size (litV (pn, ((pv, pi), pk), ((pv', pi'), pk')) (.slice a1 (Fo.len pk) a3) (.slice d1 (Fo.len pk') d3)) := by
    rw [← hW1]
    exact (RowAt.new w #[.bool pn, .bool pv, .int .i64 pi, .slice a1 (Fo.len pk) a3, .bool pv', .int .i64 pi', .slice d1 (Fo.len pk') d3] 35).below (below_alloc _ _)
  have hR2 : RowAt W1 (w.heap.size + 1) (litV (ln, ((lv, li), lk), ((lv', li'), lk')) (.slice b1 (Fo.len lk) b3) (.slice e1 (Fo.len lk') e3)) := by
    rw [← hW1]
    have := RowAt.new (w.alloc (.cells #[.bool pn, .bool pv, .int .i64 pi, .slice a1 (Fo.len pk) a3, .bool pv', .int .i64 pi', .slice d1 (Fo.len pk') d3] 35)) #[.bool ln, .bool lv, .int .i64 li, .slice b1 (Fo.len lk) b3, .bool lv', .int .i64 li', .slice e1 (Fo.len lk') e3] 35
    rw [World.size_alloc] at this
    exact this
  have g0 : W1.cell? ⟨w.heap.size, 0, none⟩ = some (.bool pn) := hR1 0 _ rfl
  have g1 : W1.cell? ⟨w.heap.size, 1, none⟩ = some (.bool pv) := hR1 1 _ rfl
  have g2 : W1.cell? ⟨w.heap.size, 2, none⟩ = some (.int .i64 pi) := hR1 2 _ rfl
  have g3 : W1.cell? ⟨w.heap.size, 3, none⟩ = some (.slice a1 (Fo.len pk) a3) := hR1 3 _ rfl
  have g4 : W1.cell? ⟨w.heap.size, 4, none⟩ = some (.bool pv') := hR1 4 _ rfl
  have g5 : W1.cell? ⟨w.heap.size, 5, none⟩ = some (.int .i64 pi') := hR1 5 _ rfl
  have g6 : W1.cell? ⟨w.heap.size, 6, none⟩ = some (.slice d1 (Fo.len pk') d3) := hR1 6 _ rfl
  have f0 : W1.cell? ⟨w.heap.size + 1, 0, none⟩ = some (.bool ln) := hR2 0 _ rfl
  have f1 : W1.cell? ⟨w.heap.size + 1, 1, none⟩ = some (.bool lv) := hR2 1 _ rfl
  have f2 : W1.cell? ⟨w.heap.size + 1, 2, none⟩ = some (.int .i64 li) := hR2 2 _ rfl
  have f3 : W1.cell? ⟨w.heap.size + 1, 3, none⟩ = some (.slice b1 (Fo.len lk) b3) := hR2 3 _ rfl
  have f4 : W1.cell? ⟨w.heap.size + 1, 4, none⟩ = some (.bool lv') := hR2 4 _ rfl
  have f5 : W1.cell? ⟨w.heap.size + 1, 5, none⟩ = some (.int .i64 li') := hR2 5 _ rfl
  have f6 : W1.cell? ⟨w.heap.size + 1, 6, none⟩ = some (.slice e1 (Fo.len lk') e3) := hR2 6 _ rfl
  have HB1 := hide hB1
  clear hW1 hR1 hR2 hB1
  by_cases hneg : ln = pn
  · subst hneg
    have Hwc : Hid (wayC (ln, ((pv, pi), pk), ((pv', pi'), pk')) (ln, ((lv, li), lk), ((lv', li'), lk')) s = (extT s ((pv, pi), pk) ((lv, li), lk)).bind fun a => extT a ((pv', pi'), pk') ((lv', li'), lk')) := if_pos rfl
    have Hm1 := hide (more_any s _ (pv, pi) pk _ (lv, li) lk _ W1 (HV.out.below HB1.out) (fun q hq => ⟨(Hs.out q hq).nar, (Hs.out q hq).ok⟩) (HA.out.below HB1.out) (HB.out.below HB1.out) hl.1.ok hl.1.nar (by have := hp.1; omega))
    go_wp2_with fail
    refine Hm1.out.mono ?_
    rintro e' w5 ⟨hb5, t1, t2, t3, ok, rfl, hno, hyes⟩
    have HB5 := hide (below_step HB1.out hb5)
    cases ok
    · have Hn : Hid (wayC (ln, ((pv, pi), pk), ((pv', pi'), pk')) (ln, ((lv, li), lk), ((lv', li'), lk')) s = none) := by rw [Hid, Hwc.out, (hno rfl).1]; rfl
      clear hno hyes hb5
      go_wp2_with fail
      go_ret2
      exact ⟨none, 0, 0, false, rfl, fun _ => Hn.out, fun e => by (cases e), HB5.out⟩
    · obtain ⟨sa, hex, rfl, hSa⟩ := hyes rfl
      have hsal := extT_len hex
      simp only at hsal
      have Hex := hide hex
      have Hgs := hide (ext_gd hl.1 Hs.out hex)
      have Hm2 := hide (more_any sa _ (pv', pi') pk' _ (lv', li') lk' _ w5 hSa (fun q hq => ⟨(Hgs.out q hq).nar, (Hgs.out q hq).ok⟩) (HD.out.below HB5.out) (HE.out.below HB5.out) hl.2.ok hl.2.nar (by have := hp.1; have := hp.2; omega))
      replace f4 := grow_cell hb5 _ _ f4
      replace f5 := grow_cell hb5 _ _ f5
      replace f6 := grow_cell hb5 _ _ f6
      replace g4 := grow_cell hb5 _ _ g4
      replace g5 := grow_cell hb5 _ _ g5
      replace g6 := grow_cell hb5 _ _ g6
      clear hno hyes hex hSa hb5 f0 f1 f2 f3 g0 g1 g2 g3
      go_wp2_with fail
      refine Hm2.out.mono ?_
      rintro e' w6 ⟨hb6, r1, r2, r3, ok, rfl, hno, hyes⟩
      have HB6 := hide (below_step HB5.out hb6)
      have Hno : Hid (ok = false → wayC (ln, ((pv, pi), pk), ((pv', pi'), pk')) (ln, ((lv, li), lk), ((lv', li'), lk')) s = none) := fun h => by rw [Hwc.out, Hex.out, Option.bind_some]; exact (hno h).1
      have Hyes : Hid (ok = true → ∃ s', wayC (ln, ((pv, pi), pk), ((pv', pi'), pk')) (ln, ((lv, li), lk), ((lv', li'), lk')) s = some s' ∧ r2 = s'.length ∧ SubIn w6 s' (.slice r1 r2 r3)) := fun h => by rw [Hwc.out, Hex.out, Option.bind_some]; exact hyes h
      clear hno hyes hb6 f4 f5 f6 g4 g5 g6
      go_wp2_with fail
      go_ret2
      exact ⟨r1, r2, r3, ok, rfl, Hno.out, Hyes.out, HB6.out⟩
  · have Hn : Hid (wayC (pn, ((pv, pi), pk), ((pv', pi'), pk')) (ln, ((lv, li), lk), ((lv', li'), lk')) s = none) := by
      rw [Hid, wayC, if_neg (by simpa using hneg)]
    rcases (by cases ln <;> cases pn <;> simp_all : (ln = true ∧ pn = false) ∨ (ln = false ∧ pn = true)) with ⟨rfl, rfl⟩ | ⟨rfl, rfl⟩
    all_goals
      clear hneg
      go_wp2_with fail
      go_ret2
      exact ⟨none, 0, 0, false, rfl, fun _ => Hn.out, fun e => by (cases e), HB1.out⟩
end Go.Proofs.Ytlgnpiphaeoeiad

namespace Go.Proofs.Ytlgnpiphaeoeiad
open Go.RowKit Go.Deep Go.ChangeShapes Go.WideShapes
attribute [local go_sem ↓] Go.wp_at_zero Go.wp_at_succ
theorem cl_tail {w : World} {x : Lt} {c : Cl} {cv : Value} (h : CIn w (x :: c) cv) : ∃ (ad : Option Addr) (k : Nat) (tv : Value), cv = .slice ad (c.length + 1) k ∧ CIn w c tv ∧ ∀ w' : World, (Instr.slice 25 cv (some (.int .i64 1)) none none).run Try.prog w' = .ok tv w' := by
  obtain ⟨a, k, b, o, rfl, had, hlc, hcm, hL⟩ := h
  have ha : a = some ⟨b, o, none⟩ := had (by simp)
  subst ha
  obtain ⟨ad, hr, he⟩ := lits_behind (n := (x :: c).length) (j := 1) (c := k) (b := b) (o := o) (by simp) hlc
  refine ⟨_, k, .slice (some ad) c.length (k - 1), rfl, ?_, fun w' => ?_⟩
  · refine ⟨some ad, k - 1, b, o + 7, rfl, fun h => ?_, ?_, by omega, hL.2⟩
    · rw [he (by simp only [List.length_cons]; omega)]
    · simp only [List.length_cons] at hlc; omega
  · have := hr w'
    simpa using this
structure CovEnv (W0 : World) (bd br : Nat) (d : Cl) (dv : Value) : Prop where
  cd : W0.cell? ⟨bd, 0, none⟩ = some dv
  cr : W0.cell? ⟨br, 0, none⟩ = some (.func (.func 18) #[] #[.pointer (some ⟨bd, 0, none⟩), .pointer (some ⟨br, 0, none⟩)])
  din : CIn W0 d dv
  gd : ∀ l ∈ d, Gd l.2.1 ∧ Gd l.2.2
def RestSaid (W0 : World) (bd br : Nat) (d : Cl) (n : Nat) : Prop := ∀ (c : Cl) (s : Sb) (vs cv : Value) (w : World), c.length = n → Below W0.heap.size W0 w → SubIn w s vs → CIn w c cv → (∀ p ∈ s, Gd p.2) → s.length + 24 * n ≤ 200 → (∀ l ∈ c, tszR l.2.1.2 ≤ 12 ∧ tszR l.2.2.2 ≤ 12) →
    Calls Try.prog 18 #[vs, cv, .pointer (some ⟨bd, 0, none⟩), .pointer (some ⟨br, 0, none⟩)] w fun e w' => e = .returned (.bool (covD d c s)) ∧ Below w.heap.size w w'
theorem become_call {p l : Lt} {s : Sb} {w : World} {args : Array Value} (h : Calls Try.prog 22 args w (BecPost p l s w)) : Calls Try.prog 22 args w fun e w' => ∃ (z1 : Option Addr) (m z3 : Nat) (ok : Bool), e = .returned (.tuple #[.slice z1 m z3, .bool ok]) ∧ (ok = false → wayC p l s = none) ∧ (ok = true → ∃ s', wayC p l s = some s' ∧ m = s'.length ∧ SubIn w' s' (.slice z1 m z3)) ∧ Below w.heap.size w w' := h
theorem way_ok {x y : Lt} {s s' : Sb} (hy : Gd y.2.1 ∧ Gd y.2.2) (hs : ∀ p ∈ s, Gd p.2) (hx : tszR x.2.1.2 ≤ 12 ∧ tszR x.2.2.2 ≤ 12) (h : wayC x y s = some s') : (∀ p ∈ s', Gd p.2) ∧ s'.length ≤ s.length + 24 := by
  unfold wayC at h
  split at h
  · rw [Option.bind_eq_some_iff] at h
    obtain ⟨a, h1, h2⟩ := h
    have h3 := ext_gd hy.1 hs h1
    have h4 := extT_len h1
    have h5 := extT_len h2
    exact ⟨ext_gd hy.2 h3 h2, by omega⟩
  · cases h
theorem turn_gd {y : Lt} (k : Bool) (h : Gd y.2.1 ∧ Gd y.2.2) : Gd (turnL k y).2.1 ∧ Gd (turnL k y).2.2 := by
  cases k
  · exact h
  · exact ⟨h.2, h.1⟩
set_option maxRecDepth 100000 in
set_option maxHeartbeats 4000000 in
theorem covLit_any {W0 : World} {bd br : Nat} {d : Cl} {dv : Value} (hE : CovEnv W0 bd br d dv) (x : Lt) (c : Cl) (ih : RestSaid W0 bd br d c.length) (s : Sb) (vs cv : Value) (sb cb : Nat) (y : Lt) (a b : Value) (w : World) (hb0 : Below W0.heap.size W0 w) (hs : w.cell? ⟨sb, 0, none⟩ = some vs) (hc : w.cell? ⟨cb, 0, none⟩ = some cv) (hV : SubIn w s vs) (hC : CIn w (x :: c) cv)
    (hg : ∀ p ∈ s, Gd p.2) (hlen : s.length + 24 * (c.length + 1) ≤ 200) (hx : ∀ l ∈ x :: c, tszR l.2.1.2 ≤ 12 ∧ tszR l.2.2.2 ≤ 12) (hy : Gd y.2.1 ∧ Gd y.2.2) (hA : SIn w y.2.1.2 a) (hB : SIn w y.2.2.2 b) :
    Calls Try.prog 20 #[litA y a b, .pointer (some ⟨sb, 0, none⟩), .pointer (some ⟨cb, 0, none⟩), .pointer (some ⟨br, 0, none⟩)] w fun e w' => e = .returned (.bool (litD d c x s y)) ∧ Below w.heap.size w w' := by
  have HIH := hide ih
  have HV := hide hV
  have HC := hide hC
  have HG := hide hg
  have HX := hide hx
  have Hb0 := hide hb0
  have Hlit := hide (fun (kk : Nat) (hk : kk < 2) => lit_at hk hA hB)
  have Hbw := hide (fun (a1 b1 : Option Addr) (a2 a3 b2 b3 : Nat) (w' : World) => bothLits_any y a1 b1 a2 a3 b2 b3 w')
  obtain ⟨ca, ck, tv, rfl, hT, hrun⟩ := cl_tail hC
  have HT := hide hT
  have Htail := hide hrun
  obtain ⟨_, _, kb, ko, hce, hcad, hclc, hccm, hcF⟩ := hC
  simp only [List.length_cons, Value.slice.injEq, true_and] at hce
  obtain ⟨rfl, rfl⟩ := hce
  have hca : ca = some ⟨kb, ko, none⟩ := hcad (by simp)
  subst hca
  unfold maxLen at hccm
  have HcF := hide hcF
  obtain ⟨v1, v3, rfl⟩ := slice_of_sub hV
  have hr0 := grow_cell hb0 _ _ hE.cr
  have hHs := hide hs
  have hHc := hide hc
  obtain ⟨ya, yc, _, _, rfl, -, -, -, -⟩ := hA
  obtain ⟨za, zc, _, _, rfl, -, -, -, -⟩ := hB
  have Hly : Hid (litD d c x s y = (oneD d c x s y || oneD d c x s (turnL true y))) := litD_is
  have Hyy := hide hy
  clear ih hg hx hT hrun hcad hcF hV hb0 hy
  obtain ⟨yn, ⟨⟨yv, yi⟩, yk⟩, ⟨yv', yi'⟩, yk'⟩ := y
  simp only at *
  go_enter Try.func20, Try.ntmps20
  go_wp2_with fail
  refine (Hbw.out _ _ _ _ _ _ _).mono ?_
  rintro e w1 ⟨rfl, hb1⟩
  clear hs hc hr0
  go_wp2_with fail
  obtain ⟨xn, ⟨⟨xv, xi⟩, xk⟩, ⟨xv', xi'⟩, xk'⟩ := x
  have HB1 := hide (below_box hb1)
  clear hb1
  go_loopw [12] (fun i wr => ∃ kk : Nat, kk ≤ 2 ∧ i = .int .i64 kk ∧ (∀ k', k' < kk → oneD d c (xn, ((xv, xi), xk), ((xv', xi'), xk')) s (turnL (decide (k' = 1)) (yn, ((yv, yi), yk), ((yv', yi'), yk'))) = false) ∧ Below w.heap.size w wr) (fun i _ => 2 - (intOf i).toNat)
  case atStart => exact ⟨0, by omega, rfl, fun k' h => by omega, HB1.out⟩
  case round =>
    obtain ⟨kk, hkk, rfl, hno, hBr⟩ := hrel
    have Hno := hide hno
    have HBr := hide hBr
    clear hno
    by_cases hkl : kk < 2
    · have hkl' : (kk : Int) < 2 := by omega
      have hk0 : (0 : Int) ≤ (kk : Int) := by omega
      obtain ⟨b1, b3, e1, e3, hSA, hSD, hrun⟩ := Hlit.out kk hkl
      have Htg := hide (turn_gd (y := (yn, ((yv, yi), yk), ((yv', yi'), yk'))) (decide (kk = 1)) Hyy.out)
      have Hnx : Hid (oneD d c (xn, ((xv, xi), xk), ((xv', xi'), xk')) s (turnL (decide (kk = 1)) (yn, ((yv, yi), yk), ((yv', yi'), yk'))) = false → ∀ k', k' < kk + 1 → oneD d c (xn, ((xv, xi), xk), ((xv', xi'), xk')) s (turnL (decide (k' = 1)) (yn, ((yv, yi), yk), ((yv', yi'), yk'))) = false) := fun h k' hk' => by
        by_cases e : k' = kk
        · rw [e]; exact h
        · exact Hno.out k' (by omega)
      have Hyes : Hid (oneD d c (xn, ((xv, xi), xk), ((xv', xi'), xk')) s (turnL (decide (kk = 1)) (yn, ((yv, yi), yk), ((yv', yi'), yk'))) = true → litD d c (xn, ((xv, xi), xk), ((xv', xi'), xk')) s (yn, ((yv, yi), yk), ((yv', yi'), yk')) = true) := fun h => by
        rw [Hly.out]
        obtain rfl | rfl : kk = 0 ∨ kk = 1 := by omega
        · rw [show oneD d c (xn, ((xv, xi), xk), ((xv', xi'), xk')) s (yn, ((yv, yi), yk), ((yv', yi'), yk')) = true from h]; rfl
        · rw [show oneD d c (xn, ((xv, xi), xk), ((xv', xi'), xk')) s (turnL true (yn, ((yv, yi), yk), ((yv', yi'), yk'))) = true from h]; simp
      generalize turnL (decide (kk = 1)) (yn, ((yv, yi), yk), ((yv', yi'), yk')) = ty at *
      obtain ⟨tn, ⟨⟨tv', ti⟩, tk⟩, ⟨⟨tv'', ti'⟩, tk'⟩⟩ := ty
      simp only at hSA hSD hrun Htg
      have hrun' := hrun wr
      have HSA := hide hSA
      have HSD := hide hSD
      clear hSA hSD hrun
      go_upto_region 4 with fail
      generalize hwa : wr.alloc (.cells #[.bool tn, .bool tv', .int .i64 ti, .slice b1 (Fo.len tk) b3, .bool tv'', .int .i64 ti', .slice e1 (Fo.len tk') e3] 35) = wa
      obtain ⟨g0, g1, g2, g3, g4, g5, g6, -, hba, hsa⟩ := lit_cells (T := 35) (w := wr) (wr := wa) (x0 := .bool tn) (x1 := .bool tv') (x2 := .int .i64 ti) (x3 := .slice b1 (Fo.len tk) b3) (x4 := .bool tv'') (x5 := .int .i64 ti') (x6 := .slice e1 (Fo.len tk') e3) (by rw [← hwa]; exact Below.refl _ _)
      have hBa := below_step hBr hba
      have s0 := grow_cell hBa _ _ hHs.out
      have c0 := grow_cell hBa _ _ hHc.out
      obtain ⟨p0, p1, p2, ⟨u3, p3, hXA⟩, p4, p5, u6, p6, hXD⟩ := (HcF.out.below hBa).at (i := 0) (l := (xn, ((xv, xi), xk), ((xv', xi'), xk'))) rfl
      simp only [Nat.zero_mul, Nat.add_zero] at p0 p1 p2 p3 p4 p5 p6
      have HXA := hide hXA
      have HXD := hide hXD
      obtain ⟨xa, xc, _, _, rfl, -, -, -, -⟩ := hXA
      obtain ⟨xd, xe, _, _, rfl, -, -, -, -⟩ := hXD
      have HBa := hide hBa
      have Hx0 := hide (HX.out (xn, ((xv, xi), xk), ((xv', xi'), xk')) (by simp))
      have Hbc := hide (fun (w' : World) (hb : Below wa.heap.size wa w') => become_call (become_any (xn, ((xv, xi), xk), ((xv', xi'), xk')) (tn, ((tv', ti), tk), ((tv'', ti'), tk')) s _ xa xd b1 e1 xc xe b3 e3 w' (HV.out.below (below_step HBa.out hb)) HG.out (HXA.out.below hb) (HXD.out.below hb) (HSA.out.below (below_step HBa.out hb)) (HSD.out.below (below_step HBa.out hb)) Hx0.out Htg.out (by omega)))
      have hcur : Below wa.heap.size wa wa.drew := (Below.refl _ _).drew
      clear hwa hba hBa hBr hrun'
      go_region_held3 (fun w' => w'.cell? ⟨wr.heap.size, 0, none⟩ = some (.bool tn) ∧ w'.cell? ⟨wr.heap.size, 1, none⟩ = some (.bool tv') ∧ w'.cell? ⟨wr.heap.size, 2, none⟩ = some (.int .i64 ti) ∧ w'.cell? ⟨wr.heap.size, 3, none⟩ = some (.slice b1 (Fo.len tk) b3) ∧ w'.cell? ⟨wr.heap.size, 4, none⟩ = some (.bool tv'') ∧ w'.cell? ⟨wr.heap.size, 5, none⟩ = some (.int .i64 ti') ∧ w'.cell? ⟨wr.heap.size, 6, none⟩ = some (.slice e1 (Fo.len tk') e3) ∧ w'.cell? ⟨sb, 0, none⟩ = some (.slice v1 s.length v3) ∧ w'.cell? ⟨cb, 0, none⟩ = some (.slice (some ⟨kb, ko, none⟩) (c.length + 1) ck) ∧ w'.cell? ⟨kb, ko, none⟩ = some (.bool xn) ∧ w'.cell? ⟨kb, ko + 1, none⟩ = some (.bool xv) ∧ w'.cell? ⟨kb, ko + 2, none⟩ = some (.int .i64 xi) ∧ w'.cell? ⟨kb, ko + 3, none⟩ = some (.slice xa (Fo.len xk) xc) ∧ w'.cell? ⟨kb, ko + 4, none⟩ = some (.bool xv') ∧ w'.cell? ⟨kb, ko + 5, none⟩ = some (.int .i64 xi') ∧ w'.cell? ⟨kb, ko + 6, none⟩ = some (.slice xd (Fo.len xk') xe))
        (first
          | (with_reducible exact ⟨grow_cell hcur _ _ g0, grow_cell hcur _ _ g1, grow_cell hcur _ _ g2, grow_cell hcur _ _ g3, grow_cell hcur _ _ g4, grow_cell hcur _ _ g5, grow_cell hcur _ _ g6, grow_cell hcur _ _ s0, grow_cell hcur _ _ c0, grow_cell hcur _ _ p0, grow_cell hcur _ _ p1, grow_cell hcur _ _ p2, grow_cell hcur _ _ p3, grow_cell hcur _ _ p4, grow_cell hcur _ _ p5, grow_cell hcur _ _ p6⟩)
          | go_keep)
        (first
          | (go_at_call 22; with_reducible refine (Hbc.out _ hcur).mono ?_; rintro e w2 ⟨m1, m, m3, ok, rfl, hwn, hwy, hb2⟩; replace hcur := below_step hcur hb2))
      all_goals
        have HB2 := hide (below_step HBa.out hcur)
        have HBy := hide (hcur.size)
        cases ok
        · have Hn : Hid (oneD d c (xn, ((xv, xi), xk), ((xv', xi'), xk')) s (tn, ((tv', ti), tk), ((tv'', ti'), tk')) = false) := by
            rw [Hid, oneD, hwn rfl]
          have Hnn := hide (Hnx.out Hn.out)
          clear hwn hwy hcur hb2 g0 g1 g2 g3 g4 g5 g6 s0 c0 p0 p1 p2 p3 p4 p5 p6
          go_wp2_with fail
          go_quiet (fail)
          go_wp2_with fail
          go_roundw
          case rel => exact ⟨kk + 1, by omega, by go_num, Hnn.out, below_drewN HB2.out _⟩
          case measure => simp [intOf]; omega
        · obtain ⟨s', hws, rfl, hSs⟩ := hwy rfl
          obtain ⟨hgs, hls⟩ := way_ok Htg.out HG.out Hx0.out hws
          have Hcv : Hid (oneD d c (xn, ((xv, xi), xk), ((xv', xi'), xk')) s (tn, ((tv', ti), tk), ((tv'', ti'), tk')) = covD d c s') := by
            rw [Hid, oneD, hws]
          have Hcall := hide (fun (w' : World) (hb : Below w2.heap.size w2 w') => HIH.out c s' _ tv w' rfl (below_step Hb0.out (below_step HB2.out hb)) (hSs.below hb) (HT.out.below (below_step HB2.out hb)) hgs (by omega) (fun l hl => HX.out l (by simp [hl])))
          have q0 := grow_cell HB2.out _ _ (grow_cell Hb0.out _ _ hE.cr)
          have q1 := grow_cell HB2.out _ _ hHc.out
          have htl := Htail.out
          obtain ⟨V, hV⟩ : ∃ V, covD d c s' = V := ⟨_, rfl⟩
          rw [hV] at Hcv
          rw [hV] at Hcall
          clear hwn hwy hcur hb2 g0 g1 g2 g3 g4 g5 g6 s0 c0 p0 p1 p2 p3 p4 p5 p6 hSs hws hgs hls hV
          go_upto_region 5 with fail
          have hcur : Below w2.heap.size w2 w2.drew := (Below.refl _ _).drew
          go_region_held3 (fun w' => w'.cell? ⟨br, 0, none⟩ = some (.func (.func 18) #[] #[.pointer (some ⟨bd, 0, none⟩), .pointer (some ⟨br, 0, none⟩)]) ∧ w'.cell? ⟨cb, 0, none⟩ = some (.slice (some ⟨kb, ko, none⟩) (c.length + 1) ck))
            (first
              | (with_reducible exact ⟨grow_cell hcur _ _ q0, grow_cell hcur _ _ q1⟩)
              | go_keep)
            (first
              | (go_at_call 18; with_reducible refine (Hcall.out _ hcur).mono ?_; rintro e w3 ⟨rfl, hb3⟩; replace hcur := below_step hcur hb3))
          all_goals
            have HB3 := hide (below_step HB2.out hcur)
            clear hcur hb3 q0 q1 htl
            cases V
            · have Hnn := hide (Hnx.out Hcv.out)
              go_wp2_with fail
              go_roundw
              case rel => exact ⟨kk + 1, by omega, by go_num, Hnn.out, HB3.out⟩
              case measure => simp [intOf]; omega
            · have Hy1 := hide (Hyes.out Hcv.out)
              go_wp2_with fail
              go_ret
              exact ⟨by rw [Hy1.out]; rfl, HB3.out⟩
    · have hk2 : kk = 2 := by omega
      subst hk2
      have Hf : Hid (litD d c (xn, ((xv, xi), xk), ((xv', xi'), xk')) s (yn, ((yv, yi), yk), ((yv', yi'), yk')) = false) := by
        have h0 := Hno.out 0 (by omega)
        have h1 := Hno.out 1 (by omega)
        rw [Hid, Hly.out, show oneD d c (xn, ((xv, xi), xk), ((xv', xi'), xk')) s (yn, ((yv, yi), yk), ((yv', yi'), yk')) = false from h0, show oneD d c (xn, ((xv, xi), xk), ((xv', xi'), xk')) s (turnL true (yn, ((yv, yi), yk), ((yv', yi'), yk'))) = false from h1]
        rfl
      clear hBr
      go_wp2_with fail
      go_ret
      exact ⟨by rw [Hf.out]; rfl, HBr.out⟩
def LitCSaid (sb cb br : Nat) (H : Lt → Bool) (k : Cl) (w : World) : Prop := ∀ l ∈ k, ∀ (a d : Value) (w' : World), Below w.heap.size w w' → SIn w' l.2.1.2 a → SIn w' l.2.2.2 d →
    Calls Try.prog 20 #[litA l a d, .pointer (some ⟨sb, 0, none⟩), .pointer (some ⟨cb, 0, none⟩), .pointer (some ⟨br, 0, none⟩)] w' fun e w'' => e = .returned (.bool (H l)) ∧ Below w'.heap.size w' w''
set_option maxRecDepth 100000 in
set_option maxHeartbeats 2000000 in
theorem indexCov_any (sb cb br : Nat) (H : Lt → Bool) (k : Cl) (a : Value) (w : World) (hcl : LitCSaid sb cb br H k w) (hS : CIn w k a) :
    Calls Try.prog 39 #[a, .func (.func 20) #[] #[.pointer (some ⟨sb, 0, none⟩), .pointer (some ⟨cb, 0, none⟩), .pointer (some ⟨br, 0, none⟩)]] w fun e w' => ∃ i : Int, e = .returned (.int .i64 i) ∧ (decide (0 ≤ i)) = k.any H ∧ Below w.heap.size w w' := by
  obtain ⟨a1, c1, b1, o1, rfl, had1, hlc1, hcm1, hF1⟩ := hS
  unfold maxLen at hcm1
  have HF1 := hide hF1
  have Hcl := hide hcl
  clear hF1 hcl
  go_enter Try.func39, Try.ntmps39
  go_wp2_with fail
  go_loopw [8] (fun i wr => ∃ j : Nat, j ≤ k.length ∧ i = .int .i64 j ∧ (k.take j).any H = false ∧ Below w.heap.size w wr) (fun i _ => k.length - (intOf i).toNat)
  case atStart => exact ⟨0, Nat.zero_le _, rfl, rfl, Below.refl _ _⟩
  case round =>
    obtain ⟨j, hj, rfl, hok, hBr⟩ := hrel
    have Hok := hide hok
    clear hok
    by_cases hlt : j < k.length
    · have hlt' : (j : Int) < (k.length : Int) := by omega
      obtain ⟨⟨yn, ⟨⟨yv, yi⟩, yk⟩, ⟨yv', yi'⟩, yk'⟩, hy⟩ : ∃ y, k[j]? = some y := ⟨k[j]'hlt, by simp⟩
      obtain ⟨p0, p1, p2, ⟨u3, p3, hA⟩, p4, p5, u6, p6, hD⟩ := (HF1.out.below hBr).at hy
      have ha1 : a1 = some ⟨b1, o1, none⟩ := had1 (by omega)
      subst ha1
      have HA := hide hA
      have HD := hide hD
      obtain ⟨ya, yc, _, _, rfl, -, -, -, -⟩ := hA
      obtain ⟨za, zc, _, _, rfl, -, -, -, -⟩ := hD
      have Hy := hide hy
      have Hc := hide (Hcl.out _ (List.mem_of_getElem? hy) _ _ wr hBr HA.out HD.out)
      have Htk : Hid ((k.take (j + 1)).any H = ((k.take j).any H || H (yn, ((yv, yi), yk), ((yv', yi'), yk')))) := by rw [Hid, List.take_add_one, hy]; simp
      have Hfd : Hid (H (yn, ((yv, yi), yk), ((yv', yi'), yk')) = true → k.any H = true) := fun h => List.any_eq_true.2 ⟨_, List.mem_of_getElem? hy, h⟩
      simp only at Hc
      generalize H (yn, ((yv, yi), yk), ((yv', yi'), yk')) = V at Hc Htk Hfd
      clear hy had1
      simp only at *
      go_wp2_with fail
      refine Hc.out.mono ?_
      rintro e w2 ⟨rfl, hb2⟩
      have hB2 := below_step hBr hb2
      clear hb2
      cases V
      · go_wp2_with fail
        go_roundw
        case rel => exact ⟨j + 1, by omega, by go_num, by rw [Htk.out, Hok.out]; rfl, hB2⟩
        case measure => simp [intOf]; omega
      · have Hk := hide (Hfd.out rfl)
        clear Hfd Htk
        go_wp2_with fail
        go_ret
        exact ⟨j, rfl, by rw [Hk.out]; simp, hB2⟩
    · have Hf : Hid (k.any H = false) := by
        have e : j = k.length := by omega
        have := Hok.out
        rw [e, List.take_length] at this
        exact this
      clear had1
      go_wp2_with fail
      go_ret
      exact ⟨-1, rfl, by rw [Hf.out]; rfl, hBr⟩
set_option maxRecDepth 100000 in
set_option maxHeartbeats 2000000 in
theorem containsCov_any (sb cb br : Nat) (H : Lt → Bool) (k : Cl) (a : Value) (w : World) (hcl : LitCSaid sb cb br H k w) (hS : CIn w k a) :
    Calls Try.prog 19 #[a, .func (.func 20) #[] #[.pointer (some ⟨sb, 0, none⟩), .pointer (some ⟨cb, 0, none⟩), .pointer (some ⟨br, 0, none⟩)]] w fun e w' => e = .returned (.bool (k.any H)) ∧ Below w.heap.size w w' := by
  have HS := hide hS
  have Hcl := hide hcl
  obtain ⟨a1, c1, b1, o1, rfl, -, -, -, -⟩ := hS
  clear hcl
  go_enter Try.func19, Try.ntmps19
  go_wp2_with fail
  refine (indexCov_any sb cb br H k _ _ Hcl.out HS.out).mono ?_
  rintro e w2 ⟨i, rfl, hi, hb2⟩
  have Hi := hide hi
  clear hi
  go_wp2_with fail
  go_ret
  exact ⟨by rw [← Hi.out]; rfl, hb2⟩
set_option maxRecDepth 100000 in
set_option maxHeartbeats 4000000 in
theorem covRest_any {W0 : World} {bd br : Nat} {d : Cl} {dv : Value} (hE : CovEnv W0 bd br d dv) : ∀ n, RestSaid W0 bd br d n := by
  intro n
  induction n with
  | zero =>
    intro c s vs cv w hn hb hV hC hg hlen hx
    have hc : c = [] := List.length_eq_zero_iff.1 hn
    subst hc
    obtain ⟨v1, v3, rfl⟩ := slice_of_sub hV
    obtain ⟨c1, c3, rfl⟩ := slice_of_cl hC
    simp only [List.length_nil]
    clear hV hC hx
    go_enter Try.func18, Try.ntmps18
    go_wp2_with fail
    go_ret
    exact ⟨rfl, below_step (below_alloc _ _) (below_alloc _ _)⟩
  | succ n ih =>
    intro c s vs cv w hn hb hV hC hg hlen hx
    obtain ⟨x, c', rfl⟩ := List.exists_cons_of_length_pos (l := c) (by omega)
    obtain rfl : n = c'.length := by simpa using hn.symm
    clear hn
    have HV := hide hV
    have HC := hide hC
    have HG := hide hg
    have HX := hide hx
    have Hih := hide ih
    have Hb := hide hb
    obtain ⟨v1, v3, rfl⟩ := slice_of_sub hV
    obtain ⟨c1, c3, hcv⟩ := slice_of_cl hC
    simp only [List.length_cons] at hcv
    subst hcv
    have hne : (((c'.length : Nat) : Int) + 1 == 0) = false := by simp; omega
    have Hcv : Hid (covD d (x :: c') s = d.any (litD d c' x s)) := covD_cons
    clear hV hC hg hx ih hb
    go_enter Try.func18, Try.ntmps18
    go_upto_region 1 with fail
    generalize hW1 : (w.alloc (.cells #[.slice v1 s.length v3] 46)).alloc (.cells #[.slice c1 (c'.length + 1) c3] 25) = W1
    have hB1 : Below w.heap.size w W1 := by rw [← hW1]; exact (below_alloc _ _).alloc (by simp) _
    have s0 : W1.cell? ⟨w.heap.size, 0, none⟩ = some (.slice v1 s.length v3) := by rw [← hW1, World.cell?_alloc_lt _ _ _ (by simp)]; exact new_cell rfl
    have c0 : W1.cell? ⟨w.heap.size + 1, 0, none⟩ = some (.slice c1 (c'.length + 1) c3) := by rw [← hW1]; exact new_cell (World.size_alloc _ _)
    have hB0 := below_step Hb.out hB1
    have d0 := grow_cell hB0 _ _ hE.cd
    have HDin := hide (hE.din.below hB0)
    have Hct := hide (containsCov_any w.heap.size (w.heap.size + 1) br (litD d c' x s) d dv W1 (fun y hy a b w' hb' hA hB => covLit_any hE x c' Hih.out s _ _ w.heap.size (w.heap.size + 1) y a b w' (below_step hB0 hb') (grow_cell hb' _ _ s0) (grow_cell hb' _ _ c0) (HV.out.below (below_step hB1 hb')) (HC.out.below (below_step hB1 hb')) HG.out (by omega) HX.out (hE.gd y hy) hA hB) HDin.out)
    have HB1 := hide hB1
    obtain ⟨d1, d3, hdv⟩ := slice_of_cl HDin.out
    subst hdv
    clear hW1 hB1 hB0
    go_wp2_with fail
    refine Hct.out.mono ?_
    rintro e w2 ⟨rfl, hb2⟩
    have HB2 := hide (below_step HB1.out hb2)
    clear hb2 s0 c0 d0
    go_wp2_with fail
    go_ret
    exact ⟨by rw [Hcv.out]; rfl, HB2.out⟩
set_option maxRecDepth 100000 in
set_option maxHeartbeats 4000000 in
theorem coversP_any (c d : Cl) (cv dv : Value) (w : World) (hC : CIn w c cv) (hD : CIn w d dv) (h4 : c.length ≤ 4) (hc : ∀ l ∈ c, tszR l.2.1.2 ≤ 12 ∧ tszR l.2.2.2 ≤ 12) (hd : ∀ l ∈ d, Gd l.2.1 ∧ Gd l.2.2) :
    Calls Try.prog 7 #[cv, dv] w fun e w' => e = .returned (.bool (covT c d)) ∧ Below w.heap.size w w' := by
  have HC := hide hC
  have HD := hide hD
  have Hc := hide hc
  have Hd := hide hd
  obtain ⟨c1, c3, rfl⟩ := slice_of_cl hC
  obtain ⟨d1, d3, rfl⟩ := slice_of_cl hD
  clear hC hD hc hd
  go_enter Try.func7, Try.ntmps7
  go_wp2_with fail
  generalize hW2 : (w.alloc (.cells #[.slice d1 d.length d3] 25)).alloc (.cells #[.func (.func 18) #[] #[.pointer (some ⟨w.heap.size, 0, none⟩), .pointer (some ⟨w.heap.size + 1, 0, none⟩)]] 44) = W2
  have hB2 : Below w.heap.size w W2 := by rw [← hW2]; exact (below_alloc _ _).alloc (by simp) _
  have e0 : W2.cell? ⟨w.heap.size, 0, none⟩ = some (.slice d1 d.length d3) := by rw [← hW2, World.cell?_alloc_lt _ _ _ (by simp)]; exact new_cell rfl
  have e1 : W2.cell? ⟨w.heap.size + 1, 0, none⟩ = some (.func (.func 18) #[] #[.pointer (some ⟨w.heap.size, 0, none⟩), .pointer (some ⟨w.heap.size + 1, 0, none⟩)]) := by rw [← hW2]; exact new_cell (World.size_alloc _ _)
  have hE : CovEnv W2 w.heap.size (w.heap.size + 1) d (.slice d1 d.length d3) := ⟨e0, e1, HD.out.below hB2, Hd.out⟩
  clear hW2
  refine (covRest_any hE c.length c [] _ _ W2 rfl (Below.refl _ _) (SubIn.nil _) (HC.out.below hB2) (fun p hp => by cases hp) (by simp; omega) Hc.out).mono ?_
  rintro e w3 ⟨rfl, hb3⟩
  have HB3 := hide (below_step hB2 hb3)
  clear hb3 hB2 e0 e1 hE
  go_wp2_with fail
  go_ret
  exact ⟨by rw [covT_is]; rfl, HB3.out⟩
end Go.Proofs.Ytlgnpiphaeoeiad

namespace Go.Proofs.Ytlgnpiphaeoeiad
open Go.RowKit Go.Deep Go.ChangeShapes Go.WideShapes
attribute [local go_sem ↓] Go.wp_at_zero Go.wp_at_succ
theorem wf_walk {s : List Int} {x : Bool × Int} {k : Fo} (h : wrongF s x k = 0) : walkT s x k 1 = 0 := by
  unfold wrongF at h
  by_cases e : walkT s x k 1 = 0
  · exact e
  · rw [if_pos e] at h; exact absurd h e
theorem sig_right {s : List Int} {t : Tm} (h : wrongF s t.1 t.2 = 0) : sigT s t := sig_walk (wf_walk h)
theorem sigC_right {s : List Int} {c : Cl} (h : wrongC s c = 0) : ∀ l ∈ c, sigT s l.2.1 ∧ sigT s l.2.2 := fun l hl => ⟨sig_right ((wrongC_iff.1 h).2 l hl).1, sig_right ((wrongC_iff.1 h).2 l hl).2⟩
end Go.Proofs.Ytlgnpiphaeoeiad

namespace Go.Proofs.Ytlgnpiphaeoeiad
open Go.RowKit Go.Deep Go.ChangeShapes Go.WideShapes
attribute [local go_sem ↓] Go.wp_at_zero Go.wp_at_succ
theorem gc_rightN6 {s : List Int} {c : Cl} (hs : s.all okNum = true) (hn : ∀ l ∈ c, Fo.norm l.2.1.2 = l.2.1.2 ∧ Fo.norm l.2.2.2 = l.2.2.2) (h : wrongC s c = 0) : GC c := by
  rw [wrongC_iff] at h
  refine ⟨h.1, fun l hl => ?_⟩
  obtain ⟨g1, _, g2⟩ := gd_right hs (hn l hl).1 (h.2 l hl).1
  obtain ⟨g3, _, g4⟩ := gd_right hs (hn l hl).2 (h.2 l hl).2
  exact ⟨g1, g3, four_right hs (hn l hl).1 (h.2 l hl).1, four_right hs (hn l hl).2 (h.2 l hl).2, g2, g4⟩
theorem sameF_me : ∀ F : Fo, sameF F F = true
  | .nil => rfl
  | .node _ _ x k r => by simp [sameF, sameF_me k, sameF_me r]
theorem sameC_me : ∀ c : Cl, sameC c c = true
  | [] => rfl
  | l :: c => by simp [sameC, sameL, sameT, sameF_me, sameC_me c]
end Go.Proofs.Ytlgnpiphaeoeiad

namespace Go.Proofs.Ytlgnpiphaeoeiad
open Go.RowKit Go.Deep Go.ChangeShapes Go.WideShapes
attribute [local go_sem ↓] Go.wp_at_zero Go.wp_at_succ
theorem cs_cells {w : World} {cs : List Cl} {v : Value} (h : CsIn w cs v) : ∃ news, Cs w v cs.length 1 news ∧ news.length = cs.length ∧ ∀ (i : Nat) (c : Cl), cs[i]? = some c → ∃ cv, news[i]? = some cv ∧ CIn w c cv := by
  obtain ⟨a, k, b, o, rfl, h1, h2, h3, h4⟩ := h
  have key : ∀ n, n ≤ cs.length → ∃ news : List Value, news.length = n ∧ (∀ u ∈ news, u.oneCell' = true) ∧ (∀ (j : Nat) (u : Value), news[j]? = some u → w.cell? ⟨b, o + j, none⟩ = some u) ∧ ∀ (i : Nat) (c : Cl), i < n → cs[i]? = some c → ∃ cv, news[i]? = some cv ∧ CIn w c cv := by
    intro n
    induction n with
    | zero => intro _; exact ⟨[], rfl, fun u hu => by (cases hu), fun j u h => by simp at h, fun i c hi => by omega⟩
    | succ n ih =>
      intro hn
      obtain ⟨news, e1, e2, e3, e4⟩ := ih (by omega)
      obtain ⟨cv, c1, c2⟩ := h4 n (cs[n]'(by omega)) (by simp)
      refine ⟨news ++ [cv], by simp [e1], fun u hu => ?_, fun j u hj => ?_, fun i c hi hc => ?_⟩
      · rcases List.mem_append.1 hu with hu | hu
        · exact e2 u hu
        · rw [List.mem_singleton.1 hu]
          obtain ⟨z1, z3, rfl⟩ := slice_of_cl c2
          rfl
      · by_cases hjn : j < n
        · rw [List.getElem?_append_left (by omega)] at hj
          exact e3 j u hj
        · rw [List.getElem?_append_right (by omega), e1] at hj
          have hj1 := (List.getElem?_eq_some_iff.1 hj).1
          have : j = n := by simp at hj1; omega
          subst this
          simp at hj
          subst hj
          exact c1
      · by_cases hin : i < n
        · obtain ⟨cv', q1, q2⟩ := e4 i c hin hc
          exact ⟨cv', by rw [List.getElem?_append_left (by omega)]; exact q1, q2⟩
        · have : i = n := by omega
          subst this
          rw [List.getElem?_eq_getElem (by omega)] at hc
          cases hc
          exact ⟨cv, by rw [List.getElem?_append_right (by omega), e1, Nat.sub_self]; rfl, c2⟩
  obtain ⟨news, e1, e2, e3, e4⟩ := key cs.length (Nat.le_refl _)
  refine ⟨news, ⟨a, k, rfl, by omega, e2, fun e => ?_, fun ad e j u hj => ?_⟩, e1, fun i c hc => e4 i c (List.getElem?_eq_some_iff.1 hc).1 hc⟩
  · subst e
    cases cs with
    | nil => rfl
    | cons p s => have := h1 (by simp); cases this
  · have hj' := (List.getElem?_eq_some_iff.1 hj).1
    have hae : ad = ⟨b, o, none⟩ := by
      have := h1 (by omega)
      rw [e] at this
      exact Option.some.inj this
    rw [hae, add_plain]
    exact e3 j u hj
theorem cs_app {w w' : World} {cs0 bs : List Cl} {xs news : List Value} {v' : Value} {n : Nat} (hn : n = cs0.length + bs.length) (ho : w'.ownsRow w.heap.size 25 1 v' n (xs ++ news)) (hb : Below w.heap.size w w') (hxl : xs.length = cs0.length)
    (ha : ∀ (i : Nat) (c : Cl), cs0[i]? = some c → ∃ cv, xs[i]? = some cv ∧ CIn w c cv) (hbs : ∀ (i : Nat) (c : Cl), bs[i]? = some c → ∃ cv, news[i]? = some cv ∧ CIn w c cv) : CsIn w' (cs0 ++ bs) v' := by
  subst hn
  have hcells := fun g hg => ho.cells (g := g) hg
  rcases ho.2 with ⟨e, h0⟩ | ⟨g, cap, cur, e, _, _, hn, hm, _, _⟩
  · have : cs0 ++ bs = [] := List.length_eq_zero_iff.1 (by rw [List.length_append]; exact h0)
    rw [this, e]
    exact CsIn.nil w'
  · refine ⟨some ⟨g, 0, none⟩, cap, g, 0, by rw [e, List.length_append], fun _ => rfl, by rw [List.length_append]; exact hn, hm, fun i c hc => ?_⟩
    have key : ∃ cv, (xs ++ news)[i]? = some cv ∧ CIn w c cv := by
      by_cases hi : i < cs0.length
      · rw [List.getElem?_append_left hi] at hc
        obtain ⟨cv, q1, q2⟩ := ha i c hc
        exact ⟨cv, by rw [List.getElem?_append_left (by omega)]; exact q1, q2⟩
      · rw [List.getElem?_append_right (by omega)] at hc
        obtain ⟨cv, q1, q2⟩ := hbs _ c hc
        exact ⟨cv, by rw [List.getElem?_append_right (by omega), hxl]; exact q1, q2⟩
    obtain ⟨cv, q1, q2⟩ := key
    refine ⟨cv, ?_, q2.below hb⟩
    have := hcells g (by rw [e]; rfl) i cv q1
    rw [add_plain] at this
    exact this
set_option maxRecDepth 100000 in
set_option maxHeartbeats 1000000 in
theorem unitAll_any (cs : List Cl) (v : Value) (w : World) (h : CsIn w cs v) :
    Calls Try.prog 9 #[v] w fun e w' => e = .returned (.bool (cs.all unitP)) ∧ Below w.heap.size w w' := by
  obtain ⟨ua, uc, ub, uo, rfl, huad, hulc, hucm, hUF⟩ := h
  unfold maxLen at hucm
  have HUF := hide hUF
  clear hUF
  go_enter Try.func9, Try.ntmps9
  go_wp2_with fail
  go_loopw [7] (fun i wr => ∃ j : Nat, j ≤ cs.length ∧ i = .int .i64 j ∧ (cs.take j).all unitP = true ∧ wr = w) (fun i _ => cs.length - (intOf i).toNat)
  case atStart => exact ⟨0, Nat.zero_le _, rfl, rfl, rfl⟩
  case round =>
    obtain ⟨j, hj, rfl, hall, rfl⟩ := hrel
    have Hall := hide hall
    clear hall
    by_cases hlt : j < cs.length
    · have hlt' : (j : Int) < (cs.length : Int) := by omega
      obtain ⟨c, hc⟩ : ∃ c, cs[j]? = some c := ⟨cs[j]'hlt, by simp⟩
      obtain ⟨cv, c0, hcv⟩ := HUF.out j c hc
      have Hu := hide (unitR_any c cv wr hcv)
      obtain ⟨c1, c3, rfl⟩ := slice_of_cl hcv
      have hua : ua = some ⟨ub, uo, none⟩ := huad (by omega)
      subst hua
      have Hn : Hid ((cs.take (j + 1)).all unitP = unitP c) := by rw [Hid, List.take_add_one, hc, List.all_append, Hall.out]; simp
      have Hf : Hid (unitP c = false → cs.all unitP = false) := fun h => by
        rw [List.all_eq_false]
        exact ⟨c, List.mem_of_getElem? hc, by simp [h]⟩
      generalize unitP c = B at *
      clear hc huad hcv
      go_wp2_with fail
      refine Hu.out.mono ?_
      rintro e w2 ⟨rfl, rfl⟩
      cases B
      · have Hff := hide (Hf.out rfl)
        clear Hf Hn
        go_wp2_with fail
        go_ret
        exact ⟨by rw [Hff.out]; rfl, Below.refl _ _⟩
      · go_wp2_with fail
        go_roundw
        case rel => exact ⟨j + 1, by omega, by go_num, Hn.out, trivial⟩
        case measure => simp [intOf]; omega
    · have Hf : Hid (cs.all unitP = true) := by
        have := Hall.out
        rw [List.take_of_length_le (by omega)] at this
        exact this
      clear huad
      go_wp2_with fail
      go_ret
      exact ⟨by rw [Hf.out]; rfl, Below.refl _ _⟩
theorem units_of {cs : List Cl} (h : cs.all unitP = true) : ∃ us : List Lt, cs = us.map (fun u => [u]) ∧ ∀ u ∈ us, u.1 = false := by
  induction cs with
  | nil => exact ⟨[], rfl, fun u hu => by cases hu⟩
  | cons c cs ih =>
    rw [List.all_cons, Bool.and_eq_true] at h
    obtain ⟨us, e, hp⟩ := ih h.2
    match c, h.1 with
    | [l], hl =>
      refine ⟨l :: us, by rw [e]; rfl, fun u hu => ?_⟩
      rcases List.mem_cons.1 hu with rfl | hu
      · simpa [unitP] using hl
      · exact hp u hu
theorem sm_rightN {s : List Int} {c : Cl} (hs : s.all okNum = true) (h6 : s.length ≤ 6) (hn : ∀ l ∈ c, Fo.norm l.2.1.2 = l.2.1.2 ∧ Fo.norm l.2.2.2 = l.2.2.2) (h : wrongC s c = 0) : SmC s c :=
  sm_gc h6 (gc_rightN6 hs hn h) (sigC_right h)
theorem uns_right {s : List Int} {us : List Lt} (hs : s.all okNum = true) (h6 : s.length ≤ 6) (hn : ∀ c ∈ us.map (fun u => [u]), ∀ l ∈ c, Fo.norm l.2.1.2 = l.2.1.2 ∧ Fo.norm l.2.2.2 = l.2.2.2) (h : ∀ c ∈ us.map (fun u => [u]), wrongC s c = 0) : Uns s us := fun u hu => by
  have hm : [u] ∈ us.map (fun u => [u]) := List.mem_map.2 ⟨u, hu, rfl⟩
  exact sm_rightN hs h6 (hn _ hm) (h _ hm) u (by simp)
theorem downPub_call {s : List Int} (h6 : s.length ≤ 6) {us : List Lt} (hus : Uns s us) (h8 : us.length ≤ 8) (hpos : ∀ u ∈ us, u.1 = false) {x z : Bool × Int} {k zk : Fo} {a uv : Value} {w : World} (hz : (z, zk) = downT us (x, k)) (hS : SIn w k a) (hsm : Sm s (x, k)) (hC : CsIn w (us.map fun u => [u]) uv) :
    Calls Try.prog 11 #[.agg #[.bool x.1, .int .i64 x.2, a], uv] w fun e w' => ∃ (a1 : Option Addr) (a3 : Nat), e = .returned (.agg #[.bool z.1, .int .i64 z.2, .slice a1 (Fo.len zk) a3]) ∧ SIn w' zk (.slice a1 (Fo.len zk) a3) ∧ Below w.heap.size w w' := by
  have h := downU_any h6 hus h8 hpos x k a uv w hS hsm hC
  unfold DownPost at h
  rw [← hz] at h
  refine h.mono ?_
  rintro e w' ⟨a1, a3, rfl, hO, hb⟩
  exact ⟨a1, a3, rfl, hO.toS, hb⟩
theorem downRef_call {s : List Int} (h6 : s.length ≤ 6) {us : List Lt} (hus : Uns s us) (h8 : us.length ≤ 8) {x z : Bool × Int} {k zk : Fo} {a uv : Value} {w : World} (hz : (z, zk) = downT us (x, k)) (hS : SIn w k a) (hsm : Sm s (x, k)) (hC : CsIn w (us.map fun u => [u]) uv) :
    Calls Try.prog 12 #[.agg #[.bool x.1, .int .i64 x.2, a], uv] w fun e w' => ∃ (a1 : Option Addr) (a3 : Nat), e = .returned (.agg #[.bool z.1, .int .i64 z.2, .slice a1 (Fo.len zk) a3]) ∧ SIn w' zk (.slice a1 (Fo.len zk) a3) ∧ Below w.heap.size w w' := by
  have h := downR_all h6 hus h8 _ (fun q => q < w.heap.size) x k a uv w (fun q hq => hq) rfl hsm hS.toB hC
  rw [← hz] at h
  refine h.mono ?_
  rintro e w' ⟨a1, a3, rfl, hO, hb⟩
  exact ⟨a1, a3, rfl, hO.toS, hb⟩
theorem sameMe_call {x : Bool × Int} {k : Fo} {a c : Value} {w : World} (hS : SIn w k a) (hU : SIn w k c) :
    Calls Try.prog 10 #[.agg #[.bool x.1, .int .i64 x.2, a], .agg #[.bool x.1, .int .i64 x.2, c]] w fun e w' => e = .returned (.bool true) ∧ Below w.heap.size w w' := by
  have h := sameR_any x k x k a c w hS hU
  rw [sameT_refl] at h
  exact h
end Go.Proofs.Ytlgnpiphaeoeiad
