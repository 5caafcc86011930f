/- P7i CMv CMs L6T L7B CT -/
import Derived.Test.YtlgnpiphaeoeiadDoorG17
import Derived.BigQuiet
import Derived.Lib.AppendZeros
import Derived.Deep.RegionHeld3
import Derived.Lib.Split
import Derived.Lib.Join
namespace Go.Proofs.YtlgnpiphaeoeiadDoor
open Go.RowKit Go.Deep Go.ChangeShapes Go.WideShapes
attribute [local go_sem ↓] Go.wp_at_zero Go.wp_at_succ
theorem cl_tail {w : World} {x : Lt} {c : Cl} {cv : Value} (h : CIn w (x :: c) cv) : ∃ (ad : Option Addr) (k : Nat) (tv : Value), cv = .slice ad (c.length + 1) k ∧ CIn w c tv ∧ ∀ w' : World, (Instr.slice 25 cv (some (.int .i64 1)) none none).run Tryd.prog w' = .ok tv w' := by
  obtain ⟨a, k, b, o, rfl, had, hlc, hcm, hL⟩ := h
  have ha : a = some ⟨b, o, none⟩ := had (by simp)
  subst ha
  obtain ⟨ad, hr, he⟩ := lits_behind (n := (x :: c).length) (j := 1) (c := k) (b := b) (o := o) (by simp) hlc
  refine ⟨_, k, .slice (some ad) c.length (k - 1), rfl, ?_, fun w' => ?_⟩
  · refine ⟨some ad, k - 1, b, o + 7, rfl, fun h => ?_, ?_, by omega, hL.2⟩
    · rw [he (by simp only [List.length_cons]; omega)]
    · simp only [List.length_cons] at hlc; omega
  · have := hr w'
    simpa using this
structure CovEnv (W0 : World) (bd br : Nat) (d : Cl) (dv : Value) : Prop where
  cd : W0.cell? ⟨bd, 0, none⟩ = some dv
  cr : W0.cell? ⟨br, 0, none⟩ = some (.func (.func 34) #[] #[.pointer (some ⟨bd, 0, none⟩), .pointer (some ⟨br, 0, none⟩)])
  din : CIn W0 d dv
  gd : ∀ l ∈ d, Gd l.2.1 ∧ Gd l.2.2
def RestSaid (W0 : World) (bd br : Nat) (d : Cl) (n : Nat) : Prop := ∀ (c : Cl) (s : Sb) (vs cv : Value) (w : World), c.length = n → Below W0.heap.size W0 w → SubIn w s vs → CIn w c cv → (∀ p ∈ s, Gd p.2) → s.length + 24 * n ≤ 200 → (∀ l ∈ c, tszR l.2.1.2 ≤ 12 ∧ tszR l.2.2.2 ≤ 12) →
    Calls Tryd.prog 34 #[vs, cv, .pointer (some ⟨bd, 0, none⟩), .pointer (some ⟨br, 0, none⟩)] w fun e w' => e = .returned (.bool (covD d c s)) ∧ Below w.heap.size w w'
theorem become_call {p l : Lt} {s : Sb} {w : World} {args : Array Value} (h : Calls Tryd.prog 38 args w (BecPost p l s w)) : Calls Tryd.prog 38 args w fun e w' => ∃ (z1 : Option Addr) (m z3 : Nat) (ok : Bool), e = .returned (.tuple #[.slice z1 m z3, .bool ok]) ∧ (ok = false → wayC p l s = none) ∧ (ok = true → ∃ s', wayC p l s = some s' ∧ m = s'.length ∧ SubIn w' s' (.slice z1 m z3)) ∧ Below w.heap.size w w' := h
theorem way_ok {x y : Lt} {s s' : Sb} (hy : Gd y.2.1 ∧ Gd y.2.2) (hs : ∀ p ∈ s, Gd p.2) (hx : tszR x.2.1.2 ≤ 12 ∧ tszR x.2.2.2 ≤ 12) (h : wayC x y s = some s') : (∀ p ∈ s', Gd p.2) ∧ s'.length ≤ s.length + 24 := by
  unfold wayC at h
  split at h
  · rw [Option.bind_eq_some_iff] at h
    obtain ⟨a, h1, h2⟩ := h
    have h3 := ext_gd hy.1 hs h1
    have h4 := extT_len h1
    have h5 := extT_len h2
    exact ⟨ext_gd hy.2 h3 h2, by omega⟩
  · cases h
theorem turn_gd {y : Lt} (k : Bool) (h : Gd y.2.1 ∧ Gd y.2.2) : Gd (turnL k y).2.1 ∧ Gd (turnL k y).2.2 := by
  cases k
  · exact h
  · exact ⟨h.2, h.1⟩
set_option maxRecDepth 100000 in
set_option maxHeartbeats 4000000 in
theorem covLit_any {W0 : World} {bd br : Nat} {d : Cl} {dv : Value} (hE : CovEnv W0 bd br d dv) (x : Lt) (c : Cl) (ih : RestSaid W0 bd br d c.length) (s : Sb) (vs cv : Value) (sb cb : Nat) (y : Lt) (a b : Value) (w : World) (hb0 : Below W0.heap.size W0 w) (hs : w.cell? ⟨sb, 0, none⟩ = some vs) (hc : w.cell? ⟨cb, 0, none⟩ = some cv) (hV : SubIn w s vs) (hC : CIn w (x :: c) cv)
    (hg : ∀ p ∈ s, Gd p.2) (hlen : s.length + 24 * (c.length + 1) ≤ 200) (hx : ∀ l ∈ x :: c, tszR l.2.1.2 ≤ 12 ∧ tszR l.2.2.2 ≤ 12) (hy : Gd y.2.1 ∧ Gd y.2.2) (hA : SIn w y.2.1.2 a) (hB : SIn w y.2.2.2 b) :
    Calls Tryd.prog 36 #[litA y a b, .pointer (some ⟨sb, 0, none⟩), .pointer (some ⟨cb, 0, none⟩), .pointer (some ⟨br, 0, none⟩)] w fun e w' => e = .returned (.bool (litD d c x s y)) ∧ Below w.heap.size w w' := by
  have HIH := hide ih
  have HV := hide hV
  have HC := hide hC
  have HG := hide hg
  have HX := hide hx
  have Hb0 := hide hb0
  have Hlit := hide (fun (kk : Nat) (hk : kk < 2) => lit_at hk hA hB)
  have Hbw := hide (fun (a1 b1 : Option Addr) (a2 a3 b2 b3 : Nat) (w' : World) => bothLits_any y a1 b1 a2 a3 b2 b3 w')
  obtain ⟨ca, ck, tv, rfl, hT, hrun⟩ := cl_tail hC
  have HT := hide hT
  have Htail := hide hrun
  obtain ⟨_, _, kb, ko, hce, hcad, hclc, hccm, hcF⟩ := hC
  simp only [List.length_cons, Value.slice.injEq, true_and] at hce
  obtain ⟨rfl, rfl⟩ := hce
  have hca : ca = some ⟨kb, ko, none⟩ := hcad (by simp)
  subst hca
  unfold maxLen at hccm
  have HcF := hide hcF
  obtain ⟨v1, v3, rfl⟩ := slice_of_sub hV
  have hr0 := grow_cell hb0 _ _ hE.cr
  have hHs := hide hs
  have hHc := hide hc
  obtain ⟨ya, yc, _, _, rfl, -, -, -, -⟩ := hA
  obtain ⟨za, zc, _, _, rfl, -, -, -, -⟩ := hB
  have Hly : Hid (litD d c x s y = (oneD d c x s y || oneD d c x s (turnL true y))) := litD_is
  have Hyy := hide hy
  clear ih hg hx hT hrun hcad hcF hV hb0 hy
  obtain ⟨yn, ⟨⟨yv, yi⟩, yk⟩, ⟨yv', yi'⟩, yk'⟩ := y
  simp only at *
  go_enter Tryd.func36, Tryd.ntmps36
  go_wp2_with fail
  refine (Hbw.out _ _ _ _ _ _ _).mono ?_
  rintro e w1 ⟨rfl, hb1⟩
  clear hs hc hr0
  go_wp2_with fail
  obtain ⟨xn, ⟨⟨xv, xi⟩, xk⟩, ⟨xv', xi'⟩, xk'⟩ := x
  have HB1 := hide (below_box hb1)
  clear hb1
  go_loopw [12] (fun i wr => ∃ kk : Nat, kk ≤ 2 ∧ i = .int .i64 kk ∧ (∀ k', k' < kk → oneD d c (xn, ((xv, xi), xk), ((xv', xi'), xk')) s (turnL (decide (k' = 1)) (yn, ((yv, yi), yk), ((yv', yi'), yk'))) = false) ∧ Below w.heap.size w wr) (fun i _ => 2 - (intOf i).toNat)
  case atStart => exact ⟨0, by omega, rfl, fun k' h => by omega, HB1.out⟩
  case round =>
    obtain ⟨kk, hkk, rfl, hno, hBr⟩ := hrel
    have Hno := hide hno
    have HBr := hide hBr
    clear hno
    by_cases hkl : kk < 2
    · have hkl' : (kk : Int) < 2 := by omega
      have hk0 : (0 : Int) ≤ (kk : Int) := by omega
      obtain ⟨b1, b3, e1, e3, hSA, hSD, hrun⟩ := Hlit.out kk hkl
      have Htg := hide (turn_gd (y := (yn, ((yv, yi), yk), ((yv', yi'), yk'))) (decide (kk = 1)) Hyy.out)
      have Hnx : Hid (oneD d c (xn, ((xv, xi), xk), ((xv', xi'), xk')) s (turnL (decide (kk = 1)) (yn, ((yv, yi), yk), ((yv', yi'), yk'))) = false → ∀ k', k' < kk + 1 → oneD d c (xn, ((xv, xi), xk), ((xv', xi'), xk')) s (turnL (decide (k' = 1)) (yn, ((yv, yi), yk), ((yv', yi'), yk'))) = false) := fun h k' hk' => by
        by_cases e : k' = kk
        · rw [e]; exact h
        · exact Hno.out k' (by omega)
      have Hyes : Hid (oneD d c (xn, ((xv, xi), xk), ((xv', xi'), xk')) s (turnL (decide (kk = 1)) (yn, ((yv, yi), yk), ((yv', yi'), yk'))) = true → litD d c (xn, ((xv, xi), xk), ((xv', xi'), xk')) s (yn, ((yv, yi), yk), ((yv', yi'), yk')) = true) := fun h => by
        rw [Hly.out]
        obtain rfl | rfl : kk = 0 ∨ kk = 1 := by omega
        · rw [show oneD d c (xn, ((xv, xi), xk), ((xv', xi'), xk')) s (yn, ((yv, yi), yk), ((yv', yi'), yk')) = true from h]; rfl
        · rw [show oneD d c (xn, ((xv, xi), xk), ((xv', xi'), xk')) s (turnL true (yn, ((yv, yi), yk), ((yv', yi'), yk'))) = true from h]; simp
      generalize turnL (decide (kk = 1)) (yn, ((yv, yi), yk), ((yv', yi'), yk')) = ty at *
      obtain ⟨tn, ⟨⟨tv', ti⟩, tk⟩, ⟨⟨tv'', ti'⟩, tk'⟩⟩ := ty
      simp only at hSA hSD hrun Htg
      have hrun' := hrun wr
      have HSA := hide hSA
      have HSD := hide hSD
      clear hSA hSD hrun
      go_upto_region 4 with fail
      generalize hwa : wr.alloc (.cells #[.bool tn, .bool tv', .int .i64 ti, .slice b1 (Fo.len tk) b3, .bool tv'', .int .i64 ti', .slice e1 (Fo.len tk') e3] 39) = wa
      obtain ⟨g0, g1, g2, g3, g4, g5, g6, -, hba, hsa⟩ := lit_cells (T := 39) (w := wr) (wr := wa) (x0 := .bool tn) (x1 := .bool tv') (x2 := .int .i64 ti) (x3 := .slice b1 (Fo.len tk) b3) (x4 := .bool tv'') (x5 := .int .i64 ti') (x6 := .slice e1 (Fo.len tk') e3) (by rw [← hwa]; exact Below.refl _ _)
      have hBa := below_step hBr hba
      have s0 := grow_cell hBa _ _ hHs.out
      have c0 := grow_cell hBa _ _ hHc.out
      obtain ⟨p0, p1, p2, ⟨u3, p3, hXA⟩, p4, p5, u6, p6, hXD⟩ := (HcF.out.below hBa).at (i := 0) (l := (xn, ((xv, xi), xk), ((xv', xi'), xk'))) rfl
      simp only [Nat.zero_mul, Nat.add_zero] at p0 p1 p2 p3 p4 p5 p6
      have HXA := hide hXA
      have HXD := hide hXD
      obtain ⟨xa, xc, _, _, rfl, -, -, -, -⟩ := hXA
      obtain ⟨xd, xe, _, _, rfl, -, -, -, -⟩ := hXD
      have HBa := hide hBa
      have Hx0 := hide (HX.out (xn, ((xv, xi), xk), ((xv', xi'), xk')) (by simp))
      have Hbc := hide (fun (w' : World) (hb : Below wa.heap.size wa w') => become_call (become_any (xn, ((xv, xi), xk), ((xv', xi'), xk')) (tn, ((tv', ti), tk), ((tv'', ti'), tk')) s _ xa xd b1 e1 xc xe b3 e3 w' (HV.out.below (below_step HBa.out hb)) HG.out (HXA.out.below hb) (HXD.out.below hb) (HSA.out.below (below_step HBa.out hb)) (HSD.out.below (below_step HBa.out hb)) Hx0.out Htg.out (by omega)))
      have hcur : Below wa.heap.size wa wa.drew := (Below.refl _ _).drew
      clear hwa hba hBa hBr hrun'
      go_region_held3 (fun w' => w'.cell? ⟨wr.heap.size, 0, none⟩ = some (.bool tn) ∧ w'.cell? ⟨wr.heap.size, 1, none⟩ = some (.bool tv') ∧ w'.cell? ⟨wr.heap.size, 2, none⟩ = some (.int .i64 ti) ∧ w'.cell? ⟨wr.heap.size, 3, none⟩ = some (.slice b1 (Fo.len tk) b3) ∧ w'.cell? ⟨wr.heap.size, 4, none⟩ = some (.bool tv'') ∧ w'.cell? ⟨wr.heap.size, 5, none⟩ = some (.int .i64 ti') ∧ w'.cell? ⟨wr.heap.size, 6, none⟩ = some (.slice e1 (Fo.len tk') e3) ∧ w'.cell? ⟨sb, 0, none⟩ = some (.slice v1 s.length v3) ∧ w'.cell? ⟨cb, 0, none⟩ = some (.slice (some ⟨kb, ko, none⟩) (c.length + 1) ck) ∧ w'.cell? ⟨kb, ko, none⟩ = some (.bool xn) ∧ w'.cell? ⟨kb, ko + 1, none⟩ = some (.bool xv) ∧ w'.cell? ⟨kb, ko + 2, none⟩ = some (.int .i64 xi) ∧ w'.cell? ⟨kb, ko + 3, none⟩ = some (.slice xa (Fo.len xk) xc) ∧ w'.cell? ⟨kb, ko + 4, none⟩ = some (.bool xv') ∧ w'.cell? ⟨kb, ko + 5, none⟩ = some (.int .i64 xi') ∧ w'.cell? ⟨kb, ko + 6, none⟩ = some (.slice xd (Fo.len xk') xe))
        (first
          | (with_reducible exact ⟨grow_cell hcur _ _ g0, grow_cell hcur _ _ g1, grow_cell hcur _ _ g2, grow_cell hcur _ _ g3, grow_cell hcur _ _ g4, grow_cell hcur _ _ g5, grow_cell hcur _ _ g6, grow_cell hcur _ _ s0, grow_cell hcur _ _ c0, grow_cell hcur _ _ p0, grow_cell hcur _ _ p1, grow_cell hcur _ _ p2, grow_cell hcur _ _ p3, grow_cell hcur _ _ p4, grow_cell hcur _ _ p5, grow_cell hcur _ _ p6⟩)
          | go_keep)
        (first
          | (go_at_call 38; with_reducible refine (Hbc.out _ hcur).mono ?_; rintro e w2 ⟨m1, m, m3, ok, rfl, hwn, hwy, hb2⟩; replace hcur := below_step hcur hb2))
      all_goals
        have HB2 := hide (below_step HBa.out hcur)
        have HBy := hide (hcur.size)
        cases ok
        · have Hn : Hid (oneD d c (xn, ((xv, xi), xk), ((xv', xi'), xk')) s (tn, ((tv', ti), tk), ((tv'', ti'), tk')) = false) := by
            rw [Hid, oneD, hwn rfl]
          have Hnn := hide (Hnx.out Hn.out)
          clear hwn hwy hcur hb2 g0 g1 g2 g3 g4 g5 g6 s0 c0 p0 p1 p2 p3 p4 p5 p6
          go_wp2_with fail
          go_quiet (fail)
          go_wp2_with fail
          go_roundw
          case rel => exact ⟨kk + 1, by omega, by go_num, Hnn.out, below_drewN HB2.out _⟩
          case measure => simp [intOf]; omega
        · obtain ⟨s', hws, rfl, hSs⟩ := hwy rfl
          obtain ⟨hgs, hls⟩ := way_ok Htg.out HG.out Hx0.out hws
          have Hcv : Hid (oneD d c (xn, ((xv, xi), xk), ((xv', xi'), xk')) s (tn, ((tv', ti), tk), ((tv'', ti'), tk')) = covD d c s') := by
            rw [Hid, oneD, hws]
          have Hcall := hide (fun (w' : World) (hb : Below w2.heap.size w2 w') => HIH.out c s' _ tv w' rfl (below_step Hb0.out (below_step HB2.out hb)) (hSs.below hb) (HT.out.below (below_step HB2.out hb)) hgs (by omega) (fun l hl => HX.out l (by simp [hl])))
          have q0 := grow_cell HB2.out _ _ (grow_cell Hb0.out _ _ hE.cr)
          have q1 := grow_cell HB2.out _ _ hHc.out
          have htl := Htail.out
          obtain ⟨V, hV⟩ : ∃ V, covD d c s' = V := ⟨_, rfl⟩
          rw [hV] at Hcv
          rw [hV] at Hcall
          clear hwn hwy hcur hb2 g0 g1 g2 g3 g4 g5 g6 s0 c0 p0 p1 p2 p3 p4 p5 p6 hSs hws hgs hls hV
          go_upto_region 5 with fail
          have hcur : Below w2.heap.size w2 w2.drew := (Below.refl _ _).drew
          go_region_held3 (fun w' => w'.cell? ⟨br, 0, none⟩ = some (.func (.func 34) #[] #[.pointer (some ⟨bd, 0, none⟩), .pointer (some ⟨br, 0, none⟩)]) ∧ w'.cell? ⟨cb, 0, none⟩ = some (.slice (some ⟨kb, ko, none⟩) (c.length + 1) ck))
            (first
              | (with_reducible exact ⟨grow_cell hcur _ _ q0, grow_cell hcur _ _ q1⟩)
              | go_keep)
            (first
              | (go_at_call 34; with_reducible refine (Hcall.out _ hcur).mono ?_; rintro e w3 ⟨rfl, hb3⟩; replace hcur := below_step hcur hb3))
          all_goals
            have HB3 := hide (below_step HB2.out hcur)
            clear hcur hb3 q0 q1 htl
            cases V
            · have Hnn := hide (Hnx.out Hcv.out)
              go_wp2_with fail
              go_roundw
              case rel => exact ⟨kk + 1, by omega, by go_num, Hnn.out, HB3.out⟩
              case measure => simp [intOf]; omega
            · have Hy1 := hide (Hyes.out Hcv.out)
              go_wp2_with fail
              go_ret
              exact ⟨by rw [Hy1.out]; rfl, HB3.out⟩
    · have hk2 : kk = 2 := by omega
      subst hk2
      have Hf : Hid (litD d c (xn, ((xv, xi), xk), ((xv', xi'), xk')) s (yn, ((yv, yi), yk), ((yv', yi'), yk')) = false) := by
        have h0 := Hno.out 0 (by omega)
        have h1 := Hno.out 1 (by omega)
        rw [Hid, Hly.out, show oneD d c (xn, ((xv, xi), xk), ((xv', xi'), xk')) s (yn, ((yv, yi), yk), ((yv', yi'), yk')) = false from h0, show oneD d c (xn, ((xv, xi), xk), ((xv', xi'), xk')) s (turnL true (yn, ((yv, yi), yk), ((yv', yi'), yk'))) = false from h1]
        rfl
      clear hBr
      go_wp2_with fail
      go_ret
      exact ⟨by rw [Hf.out]; rfl, HBr.out⟩
def LitCSaid (sb cb br : Nat) (H : Lt → Bool) (k : Cl) (w : World) : Prop := ∀ l ∈ k, ∀ (a d : Value) (w' : World), Below w.heap.size w w' → SIn w' l.2.1.2 a → SIn w' l.2.2.2 d →
    Calls Tryd.prog 36 #[litA l a d, .pointer (some ⟨sb, 0, none⟩), .pointer (some ⟨cb, 0, none⟩), .pointer (some ⟨br, 0, none⟩)] w' fun e w'' => e = .returned (.bool (H l)) ∧ Below w'.heap.size w' w''
set_option maxRecDepth 100000 in
set_option maxHeartbeats 2000000 in
theorem indexCov_any (sb cb br : Nat) (H : Lt → Bool) (k : Cl) (a : Value) (w : World) (hcl : LitCSaid sb cb br H k w) (hS : CIn w k a) :
    Calls Tryd.prog 52 #[a, .func (.func 36) #[] #[.pointer (some ⟨sb, 0, none⟩), .pointer (some ⟨cb, 0, none⟩), .pointer (some ⟨br, 0, none⟩)]] w fun e w' => ∃ i : Int, e = .returned (.int .i64 i) ∧ (decide (0 ≤ i)) = k.any H ∧ Below w.heap.size w w' := by
  obtain ⟨a1, c1, b1, o1, rfl, had1, hlc1, hcm1, hF1⟩ := hS
  unfold maxLen at hcm1
  have HF1 := hide hF1
  have Hcl := hide hcl
  clear hF1 hcl
  go_enter Tryd.func52, Tryd.ntmps52
  go_wp2_with fail
  go_loopw [8] (fun i wr => ∃ j : Nat, j ≤ k.length ∧ i = .int .i64 j ∧ (k.take j).any H = false ∧ Below w.heap.size w wr) (fun i _ => k.length - (intOf i).toNat)
  case atStart => exact ⟨0, Nat.zero_le _, rfl, rfl, Below.refl _ _⟩
  case round =>
    obtain ⟨j, hj, rfl, hok, hBr⟩ := hrel
    have Hok := hide hok
    clear hok
    by_cases hlt : j < k.length
    · have hlt' : (j : Int) < (k.length : Int) := by omega
      obtain ⟨⟨yn, ⟨⟨yv, yi⟩, yk⟩, ⟨yv', yi'⟩, yk'⟩, hy⟩ : ∃ y, k[j]? = some y := ⟨k[j]'hlt, by simp⟩
      obtain ⟨p0, p1, p2, ⟨u3, p3, hA⟩, p4, p5, u6, p6, hD⟩ := (HF1.out.below hBr).at hy
      have ha1 : a1 = some ⟨b1, o1, none⟩ := had1 (by omega)
      subst ha1
      have HA := hide hA
      have HD := hide hD
      obtain ⟨ya, yc, _, _, rfl, -, -, -, -⟩ := hA
      obtain ⟨za, zc, _, _, rfl, -, -, -, -⟩ := hD
      have Hy := hide hy
      have Hc := hide (Hcl.out _ (List.mem_of_getElem? hy) _ _ wr hBr HA.out HD.out)
      have Htk : Hid ((k.take (j + 1)).any H = ((k.take j).any H || H (yn, ((yv, yi), yk), ((yv', yi'), yk')))) := by rw [Hid, List.take_add_one, hy]; simp
      have Hfd : Hid (H (yn, ((yv, yi), yk), ((yv', yi'), yk')) = true → k.any H = true) := fun h => List.any_eq_true.2 ⟨_, List.mem_of_getElem? hy, h⟩
      simp only at Hc
      generalize H (yn, ((yv, yi), yk), ((yv', yi'), yk')) = V at Hc Htk Hfd
      clear hy had1
      simp only at *
      go_wp2_with fail
      refine Hc.out.mono ?_
      rintro e w2 ⟨rfl, hb2⟩
      have hB2 := below_step hBr hb2
      clear hb2
      cases V
      · go_wp2_with fail
        go_roundw
        case rel => exact ⟨j + 1, by omega, by go_num, by rw [Htk.out, Hok.out]; rfl, hB2⟩
        case measure => simp [intOf]; omega
      · have Hk := hide (Hfd.out rfl)
        clear Hfd Htk
        go_wp2_with fail
        go_ret
        exact ⟨j, rfl, by rw [Hk.out]; simp, hB2⟩
    · have Hf : Hid (k.any H = false) := by
        have e : j = k.length := by omega
        have := Hok.out
        rw [e, List.take_length] at this
        exact this
      clear had1
      go_wp2_with fail
      go_ret
      exact ⟨-1, rfl, by rw [Hf.out]; rfl, hBr⟩
set_option maxRecDepth 100000 in
set_option maxHeartbeats 2000000 in
theorem containsCov_any (sb cb br : Nat) (H : Lt → Bool) (k : Cl) (a : Value) (w : World) (hcl : LitCSaid sb cb br H k w) (hS : CIn w k a) :
    Calls Tryd.prog 35 #[a, .func (.func 36) #[] #[.pointer (some ⟨sb, 0, none⟩), .pointer (some ⟨cb, 0, none⟩), .pointer (some ⟨br, 0, none⟩)]] w fun e w' => e = .returned (.bool (k.any H)) ∧ Below w.heap.size w w' := by
  have HS := hide hS
  have Hcl := hide hcl
  obtain ⟨a1, c1, b1, o1, rfl, -, -, -, -⟩ := hS
  clear hcl
  go_enter Tryd.func35, Tryd.ntmps35
  go_wp2_with fail
  refine (indexCov_any sb cb br H k _ _ Hcl.out HS.out).mono ?_
  rintro e w2 ⟨i, rfl, hi, hb2⟩
  have Hi := hide hi
  clear hi
  go_wp2_with fail
  go_ret
  exact ⟨by rw [← Hi.out]; rfl, hb2⟩
set_option maxRecDepth 100000 in
set_option maxHeartbeats 4000000 in
theorem covRest_any {W0 : World} {bd br : Nat} {d : Cl} {dv : Value} (hE : CovEnv W0 bd br d dv) : ∀ n, RestSaid W0 bd br d n := by
  intro n
  induction n with
  | zero =>
    intro c s vs cv w hn hb hV hC hg hlen hx
    have hc : c = [] := List.length_eq_zero_iff.1 hn
    subst hc
    obtain ⟨v1, v3, rfl⟩ := slice_of_sub hV
    obtain ⟨c1, c3, rfl⟩ := slice_of_cl hC
    simp only [List.length_nil]
    clear hV hC hx
    go_enter Tryd.func34, Tryd.ntmps34
    go_wp2_with fail
    go_ret
    exact ⟨rfl, below_step (below_alloc _ _) (below_alloc _ _)⟩
  | succ n ih =>
    intro c s vs cv w hn hb hV hC hg hlen hx
    obtain ⟨x, c', rfl⟩ := List.exists_cons_of_length_pos (l := c) (by omega)
    obtain rfl : n = c'.length := by simpa using hn.symm
    clear hn
    have HV := hide hV
    have HC := hide hC
    have HG := hide hg
    have HX := hide hx
    have Hih := hide ih
    have Hb := hide hb
    obtain ⟨v1, v3, rfl⟩ := slice_of_sub hV
    obtain ⟨c1, c3, hcv⟩ := slice_of_cl hC
    simp only [List.length_cons] at hcv
    subst hcv
    have hne : (((c'.length : Nat) : Int) + 1 == 0) = false := by simp; omega
    have Hcv : Hid (covD d (x :: c') s = d.any (litD d c' x s)) := covD_cons
    clear hV hC hg hx ih hb
    go_enter Tryd.func34, Tryd.ntmps34
    go_upto_region 1 with fail
    generalize hW1 : (w.alloc (.cells #[.slice v1 s.length v3] 68)).alloc (.cells #[.slice c1 (c'.length + 1) c3] 25) = W1
    have hB1 : Below w.heap.size w W1 := by rw [← hW1]; exact (below_alloc _ _).alloc (by simp) _
    have s0 : W1.cell? ⟨w.heap.size, 0, none⟩ = some (.slice v1 s.length v3) := by rw [← hW1, World.cell?_alloc_lt _ _ _ (by simp)]; exact new_cell rfl
    have c0 : W1.cell? ⟨w.heap.size + 1, 0, none⟩ = some (.slice c1 (c'.length + 1) c3) := by rw [← hW1]; exact new_cell (World.size_alloc _ _)
    have hB0 := below_step Hb.out hB1
    have d0 := grow_cell hB0 _ _ hE.cd
    have HDin := hide (hE.din.below hB0)
    have Hct := hide (containsCov_any w.heap.size (w.heap.size + 1) br (litD d c' x s) d dv W1 (fun y hy a b w' hb' hA hB => covLit_any hE x c' Hih.out s _ _ w.heap.size (w.heap.size + 1) y a b w' (below_step hB0 hb') (grow_cell hb' _ _ s0) (grow_cell hb' _ _ c0) (HV.out.below (below_step hB1 hb')) (HC.out.below (below_step hB1 hb')) HG.out (by omega) HX.out (hE.gd y hy) hA hB) HDin.out)
    have HB1 := hide hB1
    obtain ⟨d1, d3, hdv⟩ := slice_of_cl HDin.out
    subst hdv
    clear hW1 hB1 hB0
    go_wp2_with fail
    refine Hct.out.mono ?_
    rintro e w2 ⟨rfl, hb2⟩
    have HB2 := hide (below_step HB1.out hb2)
    clear hb2 s0 c0 d0
    go_wp2_with fail
    go_ret
    exact ⟨by rw [Hcv.out]; rfl, HB2.out⟩
set_option maxRecDepth 100000 in
set_option maxHeartbeats 4000000 in
theorem coversP_any (c d : Cl) (cv dv : Value) (w : World) (hC : CIn w c cv) (hD : CIn w d dv) (h4 : c.length ≤ 4) (hc : ∀ l ∈ c, tszR l.2.1.2 ≤ 12 ∧ tszR l.2.2.2 ≤ 12) (hd : ∀ l ∈ d, Gd l.2.1 ∧ Gd l.2.2) :
    Calls Tryd.prog 18 #[cv, dv] w fun e w' => e = .returned (.bool (covT c d)) ∧ Below w.heap.size w w' := by
  have HC := hide hC
  have HD := hide hD
  have Hc := hide hc
  have Hd := hide hd
  obtain ⟨c1, c3, rfl⟩ := slice_of_cl hC
  obtain ⟨d1, d3, rfl⟩ := slice_of_cl hD
  clear hC hD hc hd
  go_enter Tryd.func18, Tryd.ntmps18
  go_wp2_with fail
  generalize hW2 : (w.alloc (.cells #[.slice d1 d.length d3] 25)).alloc (.cells #[.func (.func 34) #[] #[.pointer (some ⟨w.heap.size, 0, none⟩), .pointer (some ⟨w.heap.size + 1, 0, none⟩)]] 66) = W2
  have hB2 : Below w.heap.size w W2 := by rw [← hW2]; exact (below_alloc _ _).alloc (by simp) _
  have e0 : W2.cell? ⟨w.heap.size, 0, none⟩ = some (.slice d1 d.length d3) := by rw [← hW2, World.cell?_alloc_lt _ _ _ (by simp)]; exact new_cell rfl
  have e1 : W2.cell? ⟨w.heap.size + 1, 0, none⟩ = some (.func (.func 34) #[] #[.pointer (some ⟨w.heap.size, 0, none⟩), .pointer (some ⟨w.heap.size + 1, 0, none⟩)]) := by rw [← hW2]; exact new_cell (World.size_alloc _ _)
  have hE : CovEnv W2 w.heap.size (w.heap.size + 1) d (.slice d1 d.length d3) := ⟨e0, e1, HD.out.below hB2, Hd.out⟩
  clear hW2
  refine (covRest_any hE c.length c [] _ _ W2 rfl (Below.refl _ _) (SubIn.nil _) (HC.out.below hB2) (fun p hp => by cases hp) (by simp; omega) Hc.out).mono ?_
  rintro e w3 ⟨rfl, hb3⟩
  have HB3 := hide (below_step hB2 hb3)
  clear hb3 hB2 e0 e1 hE
  go_wp2_with fail
  go_ret
  exact ⟨by rw [covT_is]; rfl, HB3.out⟩
end Go.Proofs.YtlgnpiphaeoeiadDoor

namespace Go.Proofs.YtlgnpiphaeoeiadDoor
open Go.RowKit Go.Deep Go.ChangeShapes Go.WideShapes
attribute [local go_sem ↓] Go.wp_at_zero Go.wp_at_succ
def TbIn (w : World) (Z : List (List Int)) (v : Value) : Prop :=
  ∃ (a : Option Addr) (c b o : Nat), v = .slice a Z.length c ∧ (0 < Z.length → a = some ⟨b, o, none⟩) ∧ Z.length ≤ c ∧ c ≤ maxLen ∧ ∀ i, i < Z.length → ∃ pv, w.cell? ⟨b, o + i, none⟩ = some pv ∧ NIn w (Z.getD i []) pv
theorem TbIn.below {w w' : World} (hb : Below w.heap.size w w') {Z : List (List Int)} {v : Value} (h : TbIn w Z v) : TbIn w' Z v := by
  obtain ⟨a, c, b, o, h1, h2, h3, h4, h5⟩ := h
  refine ⟨a, c, b, o, h1, h2, h3, h4, fun i hi => ?_⟩
  obtain ⟨pv, k1, k2⟩ := h5 i hi
  exact ⟨pv, grow_cell hb _ _ k1, k2.below hb⟩
theorem tb_slice {w : World} {Z : List (List Int)} {v : Value} (h : TbIn w Z v) : ∃ z1 z3, v = .slice z1 Z.length z3 := by
  obtain ⟨a, k, _, _, rfl, _⟩ := h
  exact ⟨a, k, rfl⟩
def vTo (z : Int) (tb : List (List Int)) (e : Int → Int) (k : Fo) (j : Nat) : Int := (k.list.take j).foldl (fun a t => z * a + valT z tb e t) 0
theorem valF_list (z : Int) (tb : List (List Int)) (e : Int → Int) : ∀ (F : Fo) (a : Int), valF z tb e F a = F.list.foldl (fun a t => z * a + valT z tb e t) a
  | .nil, _ => rfl
  | .node _ _ x k r, a => by rw [valF_node, valF_list z tb e r]; rfl
theorem vTo_succ {z : Int} {tb : List (List Int)} {e : Int → Int} {k : Fo} {j : Nat} {t : Tm} (h : k.list[j]? = some t) : vTo z tb e k (j + 1) = z * vTo z tb e k j + valT z tb e t := by
  unfold vTo; rw [List.take_add_one, h]; simp [List.foldl_append]
theorem vTo_end (z : Int) (tb : List (List Int)) (e : Int → Int) (k : Fo) : vTo z tb e k (Fo.len k) = valF z tb e k 0 := by
  unfold vTo; rw [← Fo.len_list, List.take_length, valF_list]
theorem vTo_range {z : Int} {tb : List (List Int)} {e : Int → Int} {k : Fo} (hz : 1 ≤ z) (h : ∀ t ∈ k.list, 0 ≤ valT z tb e t ∧ valT z tb e t < z) : ∀ j, j ≤ Fo.len k → 0 ≤ vTo z tb e k j ∧ vTo z tb e k j < pw z j
  | 0, _ => by simp [vTo, pw]
  | j + 1, hj => by
    have ih := vTo_range hz h j (by omega)
    have hl : j < k.list.length := by rw [Fo.len_list]; omega
    have hy : k.list[j]? = some k.list[j] := List.getElem?_eq_getElem hl
    have hv := h _ (List.getElem_mem hl)
    rw [vTo_succ hy, pw]
    exact digit_next hz ih.1 ih.2 hv.1 hv.2
theorem pw_small {z : Int} (h1 : 1 ≤ z) (h8 : z ≤ 8) {j : Nat} (hj : j ≤ 2) : pw z j ≤ 64 := by
  rcases (by omega : j = 0 ∨ j = 1 ∨ j = 2) with rfl | rfl | rfl
  · simp [pw]
  · simp [pw]; omega
  · have := Int.mul_le_mul h8 h8 (by omega) (by omega)
    simp [pw]; omega
theorem env_ok {z : Int} {L : List Int} (hz : 1 ≤ z) (hr : ∀ x ∈ L, 0 ≤ x ∧ x < z) (v : Int) : 0 ≤ envOf L v ∧ envOf L v < z := by
  unfold envOf
  rw [List.getD_eq_getElem?_getD]
  cases h : L[v.toNat]? with
  | none => simp; omega
  | some x => simpa using hr x (List.mem_of_getElem? h)
def ValRSaid (s : List Int) (z : Int) (tb : List (List Int)) (L : List Int) (x : Bool × Int) (k : Fo) : Prop := ∀ (mv ev a : Value) (w : World), TbIn w tb mv → NIn w L ev → SIn w k a → sigT s (x, k) →
    Calls Tryd.prog 51 #[.agg #[.int .i64 z, mv], ev, .agg #[.bool x.1, .int .i64 x.2, a]] w fun e w' => e = .returned (.int .i64 (valT z tb (envOf L) (x, k))) ∧ Below w.heap.size w w'
set_option maxRecDepth 100000 in
set_option maxHeartbeats 2000000 in
theorem valueR_any {s L : List Int} {z : Int} {tb : List (List Int)} (hm : MR s z tb) (hs : s.all okNum = true) (hL : L.length = 5) (hr : ∀ x ∈ L, 0 ≤ x ∧ x < z) (x : Bool × Int) (k : Fo) : ValRSaid s z tb L x k := by
  refine Fo.ind1 (p := ValRSaid s z tb L) ?_ x k
  clear x k
  intro x k ih mv ev a w hT hE hS hw
  obtain ⟨xv, n⟩ := x
  have HI := hide ih
  have Hm := hide hm
  have Hs := hide hs
  have z1 := hm.z1
  have z8 := hm.z8
  have Hev : Hid (∀ v, 0 ≤ v → v ≤ 4 → 0 ≤ envOf L v ∧ envOf L v < z) := fun v _ _ => env_ok hm.z1 hr v
  have HT := hide hT
  have HE := hide hE
  have Hl := hide (Fo.len_list k)
  obtain ⟨ta, tc, tk, tq, rfl, -, -, -, -⟩ := hT
  obtain ⟨ea, ec, eb, eo, rfl, head, helc, hecm, hEF⟩ := hE
  obtain ⟨ad, c, b, o, rfl, had, hlc, hcm, hF⟩ := hS
  unfold maxLen at hcm hecm
  have hal : aloneF s (xv, n) (Fo.len k) = 0 := hw.1
  have hwk : sigF s k := hw.2
  have Hal := hide hal
  have Hwk := hide hwk
  have Hw := hide hw
  have HF := hide hF
  have HEF := hide hEF
  have HL := hide hL
  have Hhead := hide head
  clear ih hm hs hr hal hwk hw hF hEF hL head
  go_enter Tryd.func51, Tryd.ntmps51
  go_upto_region 1 with fail
  generalize hW1 : (w.alloc (.cells #[.int .i64 z, .slice ta tb.length tc] 29)).alloc (.cells #[.bool xv, .int .i64 n, .slice ad (Fo.len k) c] 37) = W1
  have hB1 : Below w.heap.size w W1 := by rw [← hW1]; exact (below_alloc _ _).alloc (by simp) _
  have m0 : W1.cell? ⟨w.heap.size, 0, none⟩ = some (.int .i64 z) := by rw [← hW1, World.cell?_alloc_lt _ _ _ (by simp)]; exact new_cell rfl
  have m1 : W1.cell? ⟨w.heap.size, 1, none⟩ = some (.slice ta tb.length tc) := by rw [← hW1, World.cell?_alloc_lt _ _ _ (by simp)]; exact new_cell rfl
  have q0 : W1.cell? ⟨w.heap.size + 1, 0, none⟩ = some (.bool xv) := by rw [← hW1]; exact new_cell (World.size_alloc _ _)
  have q1 : W1.cell? ⟨w.heap.size + 1, 1, none⟩ = some (.int .i64 n) := by rw [← hW1]; exact new_cell (World.size_alloc _ _)
  have q2 : W1.cell? ⟨w.heap.size + 1, 2, none⟩ = some (.slice ad (Fo.len k) c) := by rw [← hW1]; exact new_cell (World.size_alloc _ _)
  clear hW1
  cases xv
  · obtain ⟨n0, n1, v0, v1, l2⟩ := val_args Hm.out Hs.out Hev.out Hw.out
    have Hv0 := hide v0
    have Hv1 := hide v1
    have Hvs : Hid (∀ t ∈ k.list, 0 ≤ valT z tb (envOf L) t ∧ valT z tb (envOf L) t < z) := fun t ht => val_rangeT Hm.out Hs.out Hev.out (sig_mem Hwk.out t ht)
    have Hvt : Hid (∀ j, j ≤ Fo.len k → 0 ≤ vTo z tb (envOf L) k j ∧ vTo z tb (envOf L) k j ≤ 64) := fun j hj => by
      have h1 := vTo_range z1 Hvs.out j hj
      have h2 := pw_small z1 z8 (j := j) (by omega)
      exact ⟨h1.1, by omega⟩
    clear v0 v1
    go_wp2_with fail
    go_loopw [7, 20] (fun s i wr => ∃ j : Nat, j ≤ Fo.len k ∧ i = .int .i64 j ∧ s = .int .i64 (vTo z tb (envOf L) k j) ∧ Below W1.heap.size W1 wr) (fun _ i _ => Fo.len k - (intOf i).toNat)
    case atStart => exact ⟨0, Nat.zero_le _, rfl, rfl, Below.refl _ _⟩
    case round =>
      obtain ⟨j, hj, rfl, rfl, hBx⟩ := hrel
      have hBr := below_step hB1 hBx
      have m0' := grow_cell hBx _ _ m0
      have m1' := grow_cell hBx _ _ m1
      have q1' := grow_cell hBx _ _ q1
      by_cases hlt : j < Fo.len k
      · have hlt' : (j : Int) < (Fo.len k : Int) := by omega
        obtain ⟨⟨⟨yv, yn⟩, yk⟩, hy⟩ : ∃ y, k.list[j]? = some y := ⟨k.list[j]'(by rw [Hl.out]; exact hlt), by simp⟩
        obtain ⟨c0, c1, yv', c2, hSy⟩ := (HF.out.below hBr).at hy
        have ha : ad = some ⟨b, o, none⟩ := had (by omega)
        subst ha
        have HS := hide hSy
        obtain ⟨ya, yc, yb, yo, rfl, -, -, -, -⟩ := hSy
        have hmem := List.mem_of_getElem? hy
        have hvy := Hvs.out _ hmem
        have hvj := Hvt.out j hj
        have Hst := hide (vTo_succ (z := z) (tb := tb) (e := envOf L) hy)
        have Hc := hide (fun (w' : World) (hb : Below wr.heap.size wr w') => HI.out ((yv, yn), yk) hmem (.slice ta tb.length tc) (.slice ea L.length ec) (.slice ya (Fo.len yk) yc) w' (HT.out.below (below_step hBr hb)) (HE.out.below (below_step hBr hb)) (HS.out.below hb) (sig_mem Hwk.out _ hmem))
        simp only at Hc
        generalize valT z tb (envOf L) ((yv, yn), yk) = V at hvy Hst Hc
        generalize vTo z tb (envOf L) k j = Aj at hvj Hst
        have hp0 : 0 ≤ z * Aj := Int.mul_nonneg (by omega) hvj.1
        have hp1 : z * Aj ≤ 8 * 64 := Int.mul_le_mul z8 hvj.2 hvj.1 (by omega)
        obtain ⟨hv1, hv2⟩ := hvy
        obtain ⟨hv3, hv4⟩ := hvj
        have Hwr : Hid (IntKind.i64.wrap (IntKind.i64.wrap (z * Aj) + V) = z * Aj + V) := by
          have e1 : IntKind.i64.wrap (z * Aj) = z * Aj := by rw [IntKind.wrap_i64]; omega
          rw [Hid, e1, IntKind.wrap_i64]
          omega
        clear hy had hmem
        go_upto_region 7 with fail
        generalize hwa : wr.alloc (.cells #[.bool yv, .int .i64 yn, .slice ya (Fo.len yk) yc] 37) = wa
        have hba : Below wr.heap.size wr wa := by rw [← hwa]; exact below_alloc _ _
        have g0 : wa.cell? ⟨wr.heap.size, 0, none⟩ = some (.bool yv) := by rw [← hwa]; exact new_cell rfl
        have g1 : wa.cell? ⟨wr.heap.size, 1, none⟩ = some (.int .i64 yn) := by rw [← hwa]; exact new_cell rfl
        have g2 : wa.cell? ⟨wr.heap.size, 2, none⟩ = some (.slice ya (Fo.len yk) yc) := by rw [← hwa]; exact new_cell rfl
        have m0'' := grow_cell hba _ _ m0'
        have m1'' := grow_cell hba _ _ m1'
        have hcur : Below wa.heap.size wa wa.drew := (Below.refl _ _).drew
        clear hwa c0 c1 c2 m0 m1 m0' m1' q1 q2 q1'
        go_region_held3 (fun w' => w'.cell? ⟨wr.heap.size, 0, none⟩ = some (.bool yv) ∧ w'.cell? ⟨wr.heap.size, 1, none⟩ = some (.int .i64 yn) ∧ w'.cell? ⟨wr.heap.size, 2, none⟩ = some (.slice ya (Fo.len yk) yc) ∧ w'.cell? ⟨w.heap.size, 0, none⟩ = some (.int .i64 z) ∧ w'.cell? ⟨w.heap.size, 1, none⟩ = some (.slice ta tb.length tc))
          (first
            | (with_reducible exact ⟨grow_cell hcur _ _ g0, grow_cell hcur _ _ g1, grow_cell hcur _ _ g2, grow_cell hcur _ _ m0'', grow_cell hcur _ _ m1''⟩)
            | go_keep)
          (first
            | (go_at_call 51; with_reducible refine (Hc.out _ (below_step hba hcur)).mono ?_; rintro e wS ⟨rfl, hbS⟩; replace hcur := below_step hcur hbS))
        all_goals
          have Hend := hide (below_step hBx (below_step hba hcur))
          clear hcur hbS
          go_wp2_with fail
          go_roundw
          case rel => exact ⟨j + 1, by omega, by go_num, by rw [Hst.out, Hwr.out], Hend.out⟩
          case measure => simp [intOf]; omega
      · have hje : j = Fo.len k := by omega
        subst hje
        have Hval : Hid (valT z tb (envOf L) ((false, n), k) = (tb.getD n.toNat []).getD (valF z tb (envOf L) k 0).toNat 0) := rfl
        have Hve := hide (vTo_end z tb (envOf L) k)
        rw [Hve.out]
        obtain ⟨m, rfl⟩ : ∃ m : Nat, n = m := ⟨n.toNat, by omega⟩
        have hml : m < tb.length := by have := Hm.out.len; omega
        obtain ⟨ta', tc', tk', tq', he1, htad, htlc, htcm, hTF⟩ := HT.out.below hBr
        simp only [Value.slice.injEq, true_and] at he1
        obtain ⟨rfl, rfl⟩ := he1
        obtain ⟨pv, p1, hP⟩ := hTF m hml
        have hta : ta = some ⟨tk', tq', none⟩ := htad (by omega)
        subst hta
        have Hv0' := Hv0.out
        have Hv1' := Hv1.out
        rw [Int.toNat_natCast] at Hv1'
        rw [Int.toNat_natCast] at Hval
        generalize tb.getD m [] = row at Hval hP Hv1'
        generalize valF z tb (envOf L) k 0 = vq at Hval Hv0' Hv1'
        obtain ⟨q, rfl⟩ : ∃ q : Nat, vq = q := ⟨vq.toNat, by omega⟩
        rw [Int.toNat_natCast] at Hval
        obtain ⟨ra, rc, rb, ro, rfl, hrad, hrlc, hrcm, hRF⟩ := hP
        have hq : q < row.length := by omega
        have p2 := hRF q hq
        have hra : ra = some ⟨rb, ro, none⟩ := hrad (by omega)
        subst hra
        unfold maxLen at htcm hrcm
        generalize row.getD q 0 = V at p2 Hval
        have hm' : (m : Int) < (tb.length : Int) := by omega
        have hq' : (q : Int) < (row.length : Int) := by omega
        clear hTF hRF htad hrad had m0 m1 q1 m0' q2
        go_wp2_with fail
        go_ret
        exact ⟨by rw [Hval.out]; rfl, hBr⟩
  · obtain ⟨rfl, n0, n4⟩ := alone_var Hal.out
    obtain ⟨m, rfl⟩ : ∃ m : Nat, n = m := ⟨n.toNat, by omega⟩
    have hc := grow_cell hB1 _ _ (HEF.out m (by have := HL.out; omega))
    have Hval : Hid (valT z tb (envOf L) ((true, (m : Int)), .nil) = L.getD m 0) := by
      show envOf L m = _
      unfold envOf
      rw [Int.toNat_natCast]
    have hea : ea = some ⟨eb, eo, none⟩ := Hhead.out (by have := HL.out; omega)
    subst hea
    generalize L.getD m 0 = V at hc Hval
    have hm' : (m : Int) < (L.length : Int) := by have := HL.out; omega
    clear m0 m1 q2
    go_wp2_with fail
    go_ret
    exact ⟨by rw [Hval.out]; rfl, hB1⟩
end Go.Proofs.YtlgnpiphaeoeiadDoor

namespace Go.Proofs.YtlgnpiphaeoeiadDoor
open Go.RowKit Go.Deep Go.ChangeShapes Go.WideShapes
attribute [local go_sem ↓] Go.wp_at_zero Go.wp_at_succ
theorem wf_walk {s : List Int} {x : Bool × Int} {k : Fo} (h : wrongF s x k = 0) : walkT s x k 1 = 0 := by
  unfold wrongF at h
  by_cases e : walkT s x k 1 = 0
  · exact e
  · rw [if_pos e] at h; exact absurd h e
theorem sig_right {s : List Int} {t : Tm} (h : wrongF s t.1 t.2 = 0) : sigT s t := sig_walk (wf_walk h)
theorem sigC_right {s : List Int} {c : Cl} (h : wrongC s c = 0) : ∀ l ∈ c, sigT s l.2.1 ∧ sigT s l.2.2 := fun l hl => ⟨sig_right ((wrongC_iff.1 h).2 l hl).1, sig_right ((wrongC_iff.1 h).2 l hl).2⟩
theorem some_take {z : Int} {tb : List (List Int)} {e : Int → Int} {k : Cl} {j : Nat} {l : Lt} (h : k[j]? = some l) : someH z tb e (k.take (j + 1)) = (someH z tb e (k.take j) || litH z tb e l) := by
  unfold someH; rw [List.take_add_one, h]; simp
theorem some_found {z : Int} {tb : List (List Int)} {e : Int → Int} {k : Cl} {j : Nat} {l : Lt} (h : k[j]? = some l) (hl : litH z tb e l = true) : someH z tb e k = true := by
  unfold someH; rw [List.any_eq_true]; exact ⟨l, List.mem_of_getElem? h, hl⟩
set_option maxRecDepth 100000 in
set_option maxHeartbeats 2000000 in
theorem someR_any {s L : List Int} {z : Int} {tb : List (List Int)} (hm : MR s z tb) (hs : s.all okNum = true) (hL : L.length = 5) (hr : ∀ x ∈ L, 0 ≤ x ∧ x < z) (k : Cl) (mv ev a : Value) (w : World) (hT : TbIn w tb mv) (hE : NIn w L ev) (hS : CIn w k a)
    (hw : ∀ l ∈ k, sigT s l.2.1 ∧ sigT s l.2.2) :
    Calls Tryd.prog 32 #[.agg #[.int .i64 z, mv], ev, a] w fun e w' => e = .returned (.bool (someH z tb (envOf L) k)) ∧ Below w.heap.size w w' := by
  have HT := hide hT
  have HE := hide hE
  have Hw := hide hw
  have Hval := hide (fun x k => valueR_any hm hs hL hr x k)
  obtain ⟨ta, tc, rfl⟩ := tb_slice hT
  obtain ⟨ea, ec, _, _, rfl, -, -, -, -⟩ := hE
  obtain ⟨a1, c1, b1, o1, rfl, had1, hlc1, hcm1, hF1⟩ := hS
  unfold maxLen at hcm1
  have HF1 := hide hF1
  clear hm hs hL hr hT hw hF1
  go_enter Tryd.func32, Tryd.ntmps32
  go_upto_region 1 with fail
  generalize hW1 : w.alloc (.cells #[.int .i64 z, .slice ta tb.length tc] 29) = W1
  have hB1 : Below w.heap.size w W1 := by rw [← hW1]; exact below_alloc _ _
  have m0 : W1.cell? ⟨w.heap.size, 0, none⟩ = some (.int .i64 z) := by rw [← hW1]; exact new_cell rfl
  have m1 : W1.cell? ⟨w.heap.size, 1, none⟩ = some (.slice ta tb.length tc) := by rw [← hW1]; exact new_cell rfl
  clear hW1
  go_wp2_with fail
  go_loopw [11] (fun i wr => ∃ j : Nat, j ≤ k.length ∧ i = .int .i64 j ∧ someH z tb (envOf L) (k.take j) = false ∧ Below W1.heap.size W1 wr) (fun i _ => k.length - (intOf i).toNat)
  case atStart => exact ⟨0, Nat.zero_le _, rfl, rfl, Below.refl _ _⟩
  case round =>
    obtain ⟨j, hj, rfl, hno, hBx⟩ := hrel
    have Hno := hide hno
    clear hno
    have hBr := below_step hB1 hBx
    replace m0 := grow_cell hBx _ _ m0
    replace m1 := grow_cell hBx _ _ m1
    by_cases hlt : j < k.length
    · have hlt' : (j : Int) < (k.length : Int) := by omega
      obtain ⟨⟨yn, ⟨⟨yv, yi⟩, yk⟩, ⟨yv', yi'⟩, yk'⟩, hy⟩ : ∃ y, k[j]? = some y := ⟨k[j]'hlt, by simp⟩
      obtain ⟨p0, p1, p2, ⟨u3, p3, hA⟩, p4, p5, u6, p6, hD⟩ := (HF1.out.below hBr).at hy
      have ha1 : a1 = some ⟨b1, o1, none⟩ := had1 (by omega)
      subst ha1
      have HA := hide hA
      have HD := hide hD
      obtain ⟨ya, yc, _, _, rfl, -, -, -, -⟩ := hA
      obtain ⟨za, zc, _, _, rfl, -, -, -, -⟩ := hD
      have hwy := Hw.out _ (List.mem_of_getElem? hy)
      have Hc1 := hide (fun (w' : World) (hb : Below wr.heap.size wr w') => Hval.out (yv, yi) yk (.slice ta tb.length tc) (.slice ea L.length ec) (.slice ya (Fo.len yk) yc) w' (HT.out.below (below_step hBr hb)) (HE.out.below (below_step hBr hb)) (HA.out.below hb) hwy.1)
      have Hc2 := hide (fun (w' : World) (hb : Below wr.heap.size wr w') => Hval.out (yv', yi') yk' (.slice ta tb.length tc) (.slice ea L.length ec) (.slice za (Fo.len yk') zc) w' (HT.out.below (below_step hBr hb)) (HE.out.below (below_step hBr hb)) (HD.out.below hb) hwy.2)
      have Htk := hide (some_take (z := z) (tb := tb) (e := envOf L) hy)
      have Hfd := hide (fun h => some_found (z := z) (tb := tb) (e := envOf L) hy h)
      have Hlt : Hid (litH z tb (envOf L) (yn, ((yv, yi), yk), ((yv', yi'), yk')) = (yn != (valT z tb (envOf L) ((yv, yi), yk) == valT z tb (envOf L) ((yv', yi'), yk')))) := rfl
      simp only at Hc1 Hc2
      generalize valT z tb (envOf L) ((yv, yi), yk) = V1 at Hc1 Hlt
      generalize valT z tb (envOf L) ((yv', yi'), yk') = V2 at Hc2 Hlt
      clear hy had1 hwy
      simp only at *
      go_upto_region 4 with fail
      generalize hwa : wr.alloc (.cells #[.bool yn, .bool yv, .int .i64 yi, .slice ya (Fo.len yk) yc, .bool yv', .int .i64 yi', .slice za (Fo.len yk') zc] 39) = wa
      obtain ⟨g0, g1, g2, g3, g4, g5, g6, -, hba, hsa⟩ := lit_cells (T := 39) (x0 := .bool yn) (w := wr) (wr := wa) (x1 := .bool yv) (x2 := .int .i64 yi) (x3 := .slice ya (Fo.len yk) yc) (x4 := .bool yv') (x5 := .int .i64 yi') (x6 := .slice za (Fo.len yk') zc) (by rw [← hwa]; exact Below.refl _ _)
      replace m0 := grow_cell hba _ _ m0
      replace m1 := grow_cell hba _ _ m1
      have hcur : Below wa.heap.size wa wa.drew := (Below.refl _ _).drew
      obtain ⟨V, hV⟩ : ∃ V, (!(yn == (V1 == V2))) = V := ⟨_, rfl⟩
      have HV := hide hV
      clear hwa hV p0 p1 p2 p3 p4 p5 p6
      go_region_held3 (fun w' => w'.cell? ⟨wr.heap.size, 0, none⟩ = some (.bool yn) ∧ w'.cell? ⟨wr.heap.size, 1, none⟩ = some (.bool yv) ∧ w'.cell? ⟨wr.heap.size, 2, none⟩ = some (.int .i64 yi) ∧ w'.cell? ⟨wr.heap.size, 3, none⟩ = some (.slice ya (Fo.len yk) yc) ∧ w'.cell? ⟨wr.heap.size, 4, none⟩ = some (.bool yv') ∧ w'.cell? ⟨wr.heap.size, 5, none⟩ = some (.int .i64 yi') ∧ w'.cell? ⟨wr.heap.size, 6, none⟩ = some (.slice za (Fo.len yk') zc) ∧ w'.cell? ⟨w.heap.size, 0, none⟩ = some (.int .i64 z) ∧ w'.cell? ⟨w.heap.size, 1, none⟩ = some (.slice ta tb.length tc))
        (first
          | (with_reducible exact ⟨grow_cell hcur _ _ g0, grow_cell hcur _ _ g1, grow_cell hcur _ _ g2, grow_cell hcur _ _ g3, grow_cell hcur _ _ g4, grow_cell hcur _ _ g5, grow_cell hcur _ _ g6, grow_cell hcur _ _ m0, grow_cell hcur _ _ m1⟩)
          | go_keep)
        (first
          | (go_at_call 51; with_reducible refine (Hc1.out _ (below_step hba hcur)).mono ?_; rintro e wS ⟨rfl, hbS⟩; replace hcur := below_step hcur hbS)
          | (go_at_call 51; with_reducible refine (Hc2.out _ (below_step hba hcur)).mono ?_; rintro e wU ⟨rfl, hbU⟩; replace hcur := below_step hcur hbU))
      all_goals
        have Hend := hide (below_step hBx (below_step hba hcur))
        clear hcur hbS hbU
        rw [HV.out]
        cases V
        · go_wp2_with fail
          go_roundw
          case rel => exact ⟨j + 1, by omega, by go_num, by rw [Htk.out, Hno.out, Hlt.out]; exact HV.out, Hend.out⟩
          case measure => simp [intOf]; omega
        · go_wp2_with fail
          go_ret
          exact ⟨by rw [Hfd.out (Hlt.out.trans HV.out)]; rfl, below_step hB1 Hend.out⟩
    · have Hfin : Hid (someH z tb (envOf L) k = false) := by
        have e : j = k.length := by omega
        have := Hno.out
        rw [e, List.take_length] at this
        exact this
      clear had1
      go_wp2_with fail
      go_ret
      exact ⟨by rw [Hfin.out]; rfl, hBr⟩
end Go.Proofs.YtlgnpiphaeoeiadDoor

namespace Go.Proofs.YtlgnpiphaeoeiadDoor
open Go.RowKit Go.Deep Go.ChangeShapes Go.WideShapes
attribute [local go_sem ↓] Go.wp_at_zero Go.wp_at_succ
theorem gc_rightN6 {s : List Int} {c : Cl} (hs : s.all okNum = true) (hn : ∀ l ∈ c, Fo.norm l.2.1.2 = l.2.1.2 ∧ Fo.norm l.2.2.2 = l.2.2.2) (h : wrongC s c = 0) : GC c := by
  rw [wrongC_iff] at h
  refine ⟨h.1, fun l hl => ?_⟩
  obtain ⟨g1, _, g2⟩ := gd_right hs (hn l hl).1 (h.2 l hl).1
  obtain ⟨g3, _, g4⟩ := gd_right hs (hn l hl).2 (h.2 l hl).2
  exact ⟨g1, g3, four_right hs (hn l hl).1 (h.2 l hl).1, four_right hs (hn l hl).2 (h.2 l hl).2, g2, g4⟩
end Go.Proofs.YtlgnpiphaeoeiadDoor

namespace Go.Proofs.YtlgnpiphaeoeiadDoor
open Go.RowKit Go.Deep Go.ChangeShapes Go.WideShapes
attribute [local go_sem ↓] Go.wp_at_zero Go.wp_at_succ
theorem cs_cells {w : World} {cs : List Cl} {v : Value} (h : CsIn w cs v) : ∃ news, Cs w v cs.length 1 news ∧ news.length = cs.length ∧ ∀ (i : Nat) (c : Cl), cs[i]? = some c → ∃ cv, news[i]? = some cv ∧ CIn w c cv := by
  obtain ⟨a, k, b, o, rfl, h1, h2, h3, h4⟩ := h
  have key : ∀ n, n ≤ cs.length → ∃ news : List Value, news.length = n ∧ (∀ u ∈ news, u.oneCell' = true) ∧ (∀ (j : Nat) (u : Value), news[j]? = some u → w.cell? ⟨b, o + j, none⟩ = some u) ∧ ∀ (i : Nat) (c : Cl), i < n → cs[i]? = some c → ∃ cv, news[i]? = some cv ∧ CIn w c cv := by
    intro n
    induction n with
    | zero => intro _; exact ⟨[], rfl, fun u hu => by (cases hu), fun j u h => by simp at h, fun i c hi => by omega⟩
    | succ n ih =>
      intro hn
      obtain ⟨news, e1, e2, e3, e4⟩ := ih (by omega)
      obtain ⟨cv, c1, c2⟩ := h4 n (cs[n]'(by omega)) (by simp)
      refine ⟨news ++ [cv], by simp [e1], fun u hu => ?_, fun j u hj => ?_, fun i c hi hc => ?_⟩
      · rcases List.mem_append.1 hu with hu | hu
        · exact e2 u hu
        · rw [List.mem_singleton.1 hu]
          obtain ⟨z1, z3, rfl⟩ := slice_of_cl c2
          rfl
      · by_cases hjn : j < n
        · rw [List.getElem?_append_left (by omega)] at hj
          exact e3 j u hj
        · rw [List.getElem?_append_right (by omega), e1] at hj
          have hj1 := (List.getElem?_eq_some_iff.1 hj).1
          have : j = n := by simp at hj1; omega
          subst this
          simp at hj
          subst hj
          exact c1
      · by_cases hin : i < n
        · obtain ⟨cv', q1, q2⟩ := e4 i c hin hc
          exact ⟨cv', by rw [List.getElem?_append_left (by omega)]; exact q1, q2⟩
        · have : i = n := by omega
          subst this
          rw [List.getElem?_eq_getElem (by omega)] at hc
          cases hc
          exact ⟨cv, by rw [List.getElem?_append_right (by omega), e1, Nat.sub_self]; rfl, c2⟩
  obtain ⟨news, e1, e2, e3, e4⟩ := key cs.length (Nat.le_refl _)
  refine ⟨news, ⟨a, k, rfl, by omega, e2, fun e => ?_, fun ad e j u hj => ?_⟩, e1, fun i c hc => e4 i c (List.getElem?_eq_some_iff.1 hc).1 hc⟩
  · subst e
    cases cs with
    | nil => rfl
    | cons p s => have := h1 (by simp); cases this
  · have hj' := (List.getElem?_eq_some_iff.1 hj).1
    have hae : ad = ⟨b, o, none⟩ := by
      have := h1 (by omega)
      rw [e] at this
      exact Option.some.inj this
    rw [hae, add_plain]
    exact e3 j u hj
theorem cs_app {w w' : World} {cs0 bs : List Cl} {xs news : List Value} {v' : Value} {n : Nat} (hn : n = cs0.length + bs.length) (ho : w'.ownsRow w.heap.size 25 1 v' n (xs ++ news)) (hb : Below w.heap.size w w') (hxl : xs.length = cs0.length)
    (ha : ∀ (i : Nat) (c : Cl), cs0[i]? = some c → ∃ cv, xs[i]? = some cv ∧ CIn w c cv) (hbs : ∀ (i : Nat) (c : Cl), bs[i]? = some c → ∃ cv, news[i]? = some cv ∧ CIn w c cv) : CsIn w' (cs0 ++ bs) v' := by
  subst hn
  have hcells := fun g hg => ho.cells (g := g) hg
  rcases ho.2 with ⟨e, h0⟩ | ⟨g, cap, cur, e, _, _, hn, hm, _, _⟩
  · have : cs0 ++ bs = [] := List.length_eq_zero_iff.1 (by rw [List.length_append]; exact h0)
    rw [this, e]
    exact CsIn.nil w'
  · refine ⟨some ⟨g, 0, none⟩, cap, g, 0, by rw [e, List.length_append], fun _ => rfl, by rw [List.length_append]; exact hn, hm, fun i c hc => ?_⟩
    have key : ∃ cv, (xs ++ news)[i]? = some cv ∧ CIn w c cv := by
      by_cases hi : i < cs0.length
      · rw [List.getElem?_append_left hi] at hc
        obtain ⟨cv, q1, q2⟩ := ha i c hc
        exact ⟨cv, by rw [List.getElem?_append_left (by omega)]; exact q1, q2⟩
      · rw [List.getElem?_append_right (by omega)] at hc
        obtain ⟨cv, q1, q2⟩ := hbs _ c hc
        exact ⟨cv, by rw [List.getElem?_append_right (by omega), hxl]; exact q1, q2⟩
    obtain ⟨cv, q1, q2⟩ := key
    refine ⟨cv, ?_, q2.below hb⟩
    have := hcells g (by rw [e]; rfl) i cv q1
    rw [add_plain] at this
    exact this
set_option maxRecDepth 100000 in
set_option maxHeartbeats 1000000 in
theorem unitAll_any (cs : List Cl) (v : Value) (w : World) (h : CsIn w cs v) :
    Calls Tryd.prog 8 #[v] w fun e w' => e = .returned (.bool (cs.all unitP)) ∧ Below w.heap.size w w' := by
  obtain ⟨ua, uc, ub, uo, rfl, huad, hulc, hucm, hUF⟩ := h
  unfold maxLen at hucm
  have HUF := hide hUF
  clear hUF
  go_enter Tryd.func8, Tryd.ntmps8
  go_wp2_with fail
  go_loopw [7] (fun i wr => ∃ j : Nat, j ≤ cs.length ∧ i = .int .i64 j ∧ (cs.take j).all unitP = true ∧ wr = w) (fun i _ => cs.length - (intOf i).toNat)
  case atStart => exact ⟨0, Nat.zero_le _, rfl, rfl, rfl⟩
  case round =>
    obtain ⟨j, hj, rfl, hall, rfl⟩ := hrel
    have Hall := hide hall
    clear hall
    by_cases hlt : j < cs.length
    · have hlt' : (j : Int) < (cs.length : Int) := by omega
      obtain ⟨c, hc⟩ : ∃ c, cs[j]? = some c := ⟨cs[j]'hlt, by simp⟩
      obtain ⟨cv, c0, hcv⟩ := HUF.out j c hc
      have Hu := hide (unitR_any c cv wr hcv)
      obtain ⟨c1, c3, rfl⟩ := slice_of_cl hcv
      have hua : ua = some ⟨ub, uo, none⟩ := huad (by omega)
      subst hua
      have Hn : Hid ((cs.take (j + 1)).all unitP = unitP c) := by rw [Hid, List.take_add_one, hc, List.all_append, Hall.out]; simp
      have Hf : Hid (unitP c = false → cs.all unitP = false) := fun h => by
        rw [List.all_eq_false]
        exact ⟨c, List.mem_of_getElem? hc, by simp [h]⟩
      generalize unitP c = B at *
      clear hc huad hcv
      go_wp2_with fail
      refine Hu.out.mono ?_
      rintro e w2 ⟨rfl, rfl⟩
      cases B
      · have Hff := hide (Hf.out rfl)
        clear Hf Hn
        go_wp2_with fail
        go_ret
        exact ⟨by rw [Hff.out]; rfl, Below.refl _ _⟩
      · go_wp2_with fail
        go_roundw
        case rel => exact ⟨j + 1, by omega, by go_num, Hn.out, trivial⟩
        case measure => simp [intOf]; omega
    · have Hf : Hid (cs.all unitP = true) := by
        have := Hall.out
        rw [List.take_of_length_le (by omega)] at this
        exact this
      clear huad
      go_wp2_with fail
      go_ret
      exact ⟨by rw [Hf.out]; rfl, Below.refl _ _⟩
theorem units_of {cs : List Cl} (h : cs.all unitP = true) : ∃ us : List Lt, cs = us.map (fun u => [u]) ∧ ∀ u ∈ us, u.1 = false := by
  induction cs with
  | nil => exact ⟨[], rfl, fun u hu => by cases hu⟩
  | cons c cs ih =>
    rw [List.all_cons, Bool.and_eq_true] at h
    obtain ⟨us, e, hp⟩ := ih h.2
    match c, h.1 with
    | [l], hl =>
      refine ⟨l :: us, by rw [e]; rfl, fun u hu => ?_⟩
      rcases List.mem_cons.1 hu with rfl | hu
      · simpa [unitP] using hl
      · exact hp u hu
theorem sm_rightN {s : List Int} {c : Cl} (hs : s.all okNum = true) (h6 : s.length ≤ 6) (hn : ∀ l ∈ c, Fo.norm l.2.1.2 = l.2.1.2 ∧ Fo.norm l.2.2.2 = l.2.2.2) (h : wrongC s c = 0) : SmC s c :=
  sm_gc h6 (gc_rightN6 hs hn h) (sigC_right h)
theorem uns_right {s : List Int} {us : List Lt} (hs : s.all okNum = true) (h6 : s.length ≤ 6) (hn : ∀ c ∈ us.map (fun u => [u]), ∀ l ∈ c, Fo.norm l.2.1.2 = l.2.1.2 ∧ Fo.norm l.2.2.2 = l.2.2.2) (h : ∀ c ∈ us.map (fun u => [u]), wrongC s c = 0) : Uns s us := fun u hu => by
  have hm : [u] ∈ us.map (fun u => [u]) := List.mem_map.2 ⟨u, hu, rfl⟩
  exact sm_rightN hs h6 (hn _ hm) (h _ hm) u (by simp)
theorem downPub_call {s : List Int} (h6 : s.length ≤ 6) {us : List Lt} (hus : Uns s us) (h8 : us.length ≤ 8) (hpos : ∀ u ∈ us, u.1 = false) {x z : Bool × Int} {k zk : Fo} {a uv : Value} {w : World} (hz : (z, zk) = downT us (x, k)) (hS : SIn w k a) (hsm : Sm s (x, k)) (hC : CsIn w (us.map fun u => [u]) uv) :
    Calls Tryd.prog 10 #[.agg #[.bool x.1, .int .i64 x.2, a], uv] w fun e w' => ∃ (a1 : Option Addr) (a3 : Nat), e = .returned (.agg #[.bool z.1, .int .i64 z.2, .slice a1 (Fo.len zk) a3]) ∧ SIn w' zk (.slice a1 (Fo.len zk) a3) ∧ Below w.heap.size w w' := by
  have h := downU_any h6 hus h8 hpos x k a uv w hS hsm hC
  unfold DownPost at h
  rw [← hz] at h
  refine h.mono ?_
  rintro e w' ⟨a1, a3, rfl, hO, hb⟩
  exact ⟨a1, a3, rfl, hO.toS, hb⟩
end Go.Proofs.YtlgnpiphaeoeiadDoor

namespace Go.Proofs.YtlgnpiphaeoeiadDoor
open Go.RowKit Go.Deep Go.ChangeShapes Go.WideShapes
abbrev sepL : List UInt8 := [32, 124, 32]
def textL (l : Lt) : List UInt8 := textT l.2.1.1 l.2.1.2 ++ ((if l.1 then [33, 61] else [61]) ++ textT l.2.2.1 l.2.2.2)
def textC (c : Cl) : List UInt8 := if c.length = 0 then [91, 93] else Lib.join (c.map textL) sepL
abbrev zeroLt : Lt := (false, zeroT, zeroT)
def litP (s : List Int) (p : List UInt8) : Int × Lt :=
  if (Lib.cut p [61]).2.2 = false then (2, zeroLt) else
  if (parseT s (Lib.trimSuffix (Lib.cut p [61]).1 [33])).1 ≠ 0 then ((parseT s (Lib.trimSuffix (Lib.cut p [61]).1 [33])).1, zeroLt) else
  if (parseT s (Lib.cut p [61]).2.1).1 ≠ 0 then ((parseT s (Lib.cut p [61]).2.1).1, zeroLt) else
  (0, (Lib.hasSuffix (Lib.cut p [61]).1 [33], (parseT s (Lib.trimSuffix (Lib.cut p [61]).1 [33])).2, (parseT s (Lib.cut p [61]).2.1).2))
def litsP (s : List Int) : List (List UInt8) → Int
  | [] => 0
  | p :: ps => if (litP s p).1 ≠ 0 then (litP s p).1 else litsP s ps
def full (l : List UInt8) : List (List UInt8) := Lib.splitK sepL 0 l.length l
def partsC (s : List Int) (ps : List (List UInt8)) : Int × Cl := if 4 < ps.length then (5, []) else if litsP s ps ≠ 0 then (litsP s ps, []) else (0, ps.map fun p => (litP s p).2)
def parseC (s : List Int) (l : List UInt8) : Int × Cl :=
  if wsig s ≠ 0 then (wsig s, []) else if l = [91, 93] then (0, []) else partsC s (full l)
theorem litsP_at {s : List Int} : ∀ {c : List (List UInt8)} {j : Nat} {p : List UInt8}, (∀ i, i < j → ∀ a, c[i]? = some a → (litP s a).1 = 0) → c[j]? = some p → (litP s p).1 ≠ 0 → litsP s c = (litP s p).1
  | [], _, _, _, h, _ => by simp at h
  | x :: c, 0, l, _, h, hn => by
    simp only [List.getElem?_cons_zero, Option.some.injEq] at h
    subst h
    rw [litsP, if_pos hn]
  | x :: c, j + 1, l, h0, h, hn => by
    rw [litsP, if_neg (by simp [h0 0 (by omega) x (by simp)])]
    exact litsP_at (j := j) (fun i hi a ha => h0 (i + 1) (by omega) a (by simpa using ha)) (by simpa using h) hn
theorem litsP_iff {s : List Int} : ∀ {c : List (List UInt8)}, litsP s c = 0 ↔ ∀ p ∈ c, (litP s p).1 = 0
  | [] => by simp [litsP]
  | x :: c => by
    rw [litsP]
    by_cases h : (litP s x).1 = 0
    · rw [if_neg (by simp [h]), litsP_iff (c := c)]
      simp [h]
    · rw [if_pos h]
      simp [h]
theorem splitK_miss {k : Nat} {l : List UInt8} (h : Lib.index l sepL = -1) : Lib.splitK sepL 0 k l = [l] := by
  cases k with
  | zero => rfl
  | succ k => rw [Lib.splitK, if_pos (by rw [h]; rfl)]
theorem splitK_hit {k i : Nat} {l : List UInt8} (h : Lib.index l sepL = i) : Lib.splitK sepL 0 (k + 1) l = l.take i :: Lib.splitK sepL 0 k (l.drop (i + 3)) := by
  have hm : ¬ (Lib.index l sepL == -1) = true := fun e => by have := beq_iff_eq.1 e; omega
  have e : (Lib.index l sepL).toNat = i := by omega
  rw [Lib.splitK, if_neg hm, e]
  rfl
theorem index_two (l : List UInt8) : Lib.index l sepL = -1 ∨ ∃ i : Nat, Lib.index l sepL = i ∧ i + 3 ≤ l.length := by
  have h1 := Lib.index_ge l sepL
  rcases Classical.em (0 ≤ Lib.index l sepL) with h | h
  · refine .inr ⟨(Lib.index l sepL).toNat, by omega, ?_⟩
    have := Lib.index_room l sepL h
    simp at this
    omega
  · exact .inl (by omega)
theorem splitK_stable : ∀ (n : Nat) (l : List UInt8), l.length ≤ n → Lib.splitK sepL 0 n l = full l := by
  intro n
  induction n with
  | zero => intro l h; have : l.length = 0 := by omega
            rw [full, this]
  | succ n ih =>
    intro l h
    rcases index_two l with hi | ⟨i, hi, hr⟩
    · rw [full, splitK_miss hi, splitK_miss hi]
    · obtain ⟨m, hm⟩ : ∃ m, l.length = m + 1 := ⟨l.length - 1, by omega⟩
      rw [full, hm, splitK_hit hi, splitK_hit hi]
      rw [ih _ (by simp; omega)]
      rcases Nat.lt_or_ge m n with hmn | hmn
      · have : Lib.splitK sepL 0 n (l.drop (i + 3)) = full (l.drop (i + 3)) := ih _ (by simp; omega)
        congr 1
        rw [← this]
        clear this
        have key : ∀ (a b : Nat) (x : List UInt8), x.length ≤ a → a ≤ b → Lib.splitK sepL 0 b x = Lib.splitK sepL 0 a x := by
          intro a
          induction a with
          | zero => intro b x hx _
                    have : x = [] := List.length_eq_zero_iff.1 (by omega)
                    subst this
                    rw [splitK_miss (by rfl), splitK_miss (by rfl)]
          | succ a iha =>
            intro b x hx hb
            obtain ⟨b', rfl⟩ : ∃ b', b = b' + 1 := ⟨b - 1, by omega⟩
            rcases index_two x with hj | ⟨j, hj, hr'⟩
            · rw [splitK_miss hj, splitK_miss hj]
            · rw [splitK_hit hj, splitK_hit hj, iha b' _ (by simp; omega) (by omega)]
        exact key m n _ (by simp; omega) (by omega)
      · have : m = n := by omega
        rw [this, ih _ (by simp; omega)]
theorem full_miss {l : List UInt8} (h : Lib.index l sepL = -1) : full l = [l] := splitK_miss h
theorem full_hit {i : Nat} {l : List UInt8} (h : Lib.index l sepL = i) (hr : i + 3 ≤ l.length) : full l = l.take i :: full (l.drop (i + 3)) := by
  obtain ⟨m, hm⟩ : ∃ m, l.length = m + 1 := ⟨l.length - 1, by omega⟩
  rw [full, hm, splitK_hit h, splitK_stable m _ (by simp; omega)]
theorem full_le : ∀ (l : List UInt8), (full l).length ≤ l.length + 1 := by
  intro l
  have key : ∀ (k : Nat) (x : List UInt8), (Lib.splitK sepL 0 k x).length ≤ k + 1 := by
    intro k
    induction k with
    | zero => intro x; exact Nat.le_refl _
    | succ k ih =>
      intro x
      rcases index_two x with hi | ⟨i, hi, hr⟩
      · rw [splitK_miss hi]; simp
      · rw [splitK_hit hi]
        have := ih (x.drop (i + 3))
        simp; omega
  exact key _ _
theorem join_cons2 (x y : List UInt8) (r : List (List UInt8)) : Lib.join (x :: y :: r) sepL = x ++ (sepL ++ Lib.join (y :: r) sepL) := by
  rw [Lib.join_cons, Lib.join_cons]
  simp [Lib.joinTail]
end Go.Proofs.YtlgnpiphaeoeiadDoor
