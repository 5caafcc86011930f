/- L8F -/
import Derived.Test.YtiilckjnggeeoadG17
import Derived.WalkKit
import Derived.ProofKit
import Derived.OpenShut
import Derived.Lib.SmallJoins
namespace Go.Proofs.Ytiilckjnggeeoad
open Go.RowKit Go.Deep Go.ChangeShapes Go.WideShapes
attribute [local go_sem ↓] Go.wp_at_zero Go.wp_at_succ
attribute [local go_sem] eqKey_run
theorem finds_unify {s : List Int} {a b : Tm} (ha : sigT s a) (hb : sigT s b) {n : Nat} {S : Sb} (hI : UI [] [(a, subT (ren 5) b)]) (h : runU n [] [(a, subT (ren 5) b)] = some (some S)) : uniK (keyT a) (keyT b) = true := by
  have h1 := (runU_sound n [] S _ hI h).2.2 _ (List.mem_singleton.2 rfl)
  simp only at h1
  rw [subT_sub] at h1
  exact key_unify ha hb h1
theorem finds_match {s : List Int} {a b : Tm} (hb : sigT s b) (ho : okT b) {S : Sb} (h : extT [] a b = some S) : matK (keyT a) (keyT b) = true :=
  key_match hb (extT_sound ho (fun p hp => by simp at hp) h).2
structure RX8 (W : World) (A B : Value) (k0 k1 k2 y0 y1 y2 : Int) (D : Nat → Bool) (w : World) (s7 s8 s30 s31 s32 s33 : Value) : Prop where
  hb : Below W.heap.size W w
  h0 : D 0 = true → s30 = A
  h1 : D 1 = true → s31 = .agg #[.int .i64 k0, .int .i64 k1, .int .i64 k2]
  h2 : D 2 = true → s32 = B
  h3 : D 3 = true → s33 = .agg #[.int .i64 y0, .int .i64 y1, .int .i64 y2]
  h4 : D 4 = true → ∃ g, s7 = .pointer (some ⟨g, 0, none⟩) ∧ W.heap.size ≤ g ∧ (∃ u v z, B3 w g u v z) ∧ (D 6 = true → B3 w g (.int .i64 k0) (.int .i64 k1) (.int .i64 k2))
  h5 : D 5 = true → ∃ g, s8 = .pointer (some ⟨g, 0, none⟩) ∧ W.heap.size ≤ g ∧ (∃ u v z, B3 w g u v z) ∧ (D 7 = true → B3 w g (.int .i64 y0) (.int .i64 y1) (.int .i64 y2))
  h6 : D 4 = false → D 6 = false
  h7 : D 5 = false → D 7 = false
  hd : D 4 = true → D 5 = true → s7 ≠ s8
section
variable {W : World} {A B : Value} {k0 k1 k2 y0 y1 y2 : Int} {D : Nat → Bool} {w w' : World} {s7 s8 s30 s31 s32 s33 : Value}
theorem RX8.start (h : Below W.heap.size W w) : RX8 W A B k0 k1 k2 y0 y1 y2 (fun _ => false) w s7 s8 s30 s31 s32 s33 :=
  ⟨h, fun e => (by cases e), fun e => (by cases e), fun e => (by cases e), fun e => (by cases e), fun e => (by cases e), fun e => (by cases e), fun _ => rfl, fun _ => rfl, fun e => (by cases e)⟩
theorem RX8.step (h : RX8 W A B k0 k1 k2 y0 y1 y2 D w s7 s8 s30 s31 s32 s33) (hb : Below w.heap.size w w') : RX8 W A B k0 k1 k2 y0 y1 y2 D w' s7 s8 s30 s31 s32 s33 := by
  refine ⟨below_step h.hb hb, h.h0, h.h1, h.h2, h.h3, fun e => ?_, fun e => ?_, h.h6, h.h7, h.hd⟩
  · obtain ⟨g, q1, q2, ⟨u, v, z, q3⟩, q4⟩ := h.h4 e
    exact ⟨g, q1, q2, ⟨u, v, z, q3.below hb⟩, fun e => (q4 e).below hb⟩
  · obtain ⟨g, q1, q2, ⟨u, v, z, q3⟩, q4⟩ := h.h5 e
    exact ⟨g, q1, q2, ⟨u, v, z, q3.below hb⟩, fun e => (q4 e).below hb⟩
theorem RX8.at0 (h : RX8 W A B k0 k1 k2 y0 y1 y2 D w s7 s8 s30 s31 s32 s33) : RX8 W A B k0 k1 k2 y0 y1 y2 (fun j => j == 0 || D j) w s7 s8 A s31 s32 s33 :=
  ⟨h.hb, fun _ => rfl, h.h1, h.h2, h.h3, h.h4, h.h5, h.h6, h.h7, h.hd⟩
theorem RX8.at1 (h : RX8 W A B k0 k1 k2 y0 y1 y2 D w s7 s8 s30 s31 s32 s33) : RX8 W A B k0 k1 k2 y0 y1 y2 (fun j => j == 1 || D j) w s7 s8 s30 (.agg #[.int .i64 k0, .int .i64 k1, .int .i64 k2]) s32 s33 :=
  ⟨h.hb, h.h0, fun _ => rfl, h.h2, h.h3, h.h4, h.h5, h.h6, h.h7, h.hd⟩
theorem RX8.at2 (h : RX8 W A B k0 k1 k2 y0 y1 y2 D w s7 s8 s30 s31 s32 s33) : RX8 W A B k0 k1 k2 y0 y1 y2 (fun j => j == 2 || D j) w s7 s8 s30 s31 B s33 :=
  ⟨h.hb, h.h0, h.h1, fun _ => rfl, h.h3, h.h4, h.h5, h.h6, h.h7, h.hd⟩
theorem RX8.at3 (h : RX8 W A B k0 k1 k2 y0 y1 y2 D w s7 s8 s30 s31 s32 s33) : RX8 W A B k0 k1 k2 y0 y1 y2 (fun j => j == 3 || D j) w s7 s8 s30 s31 s32 (.agg #[.int .i64 y0, .int .i64 y1, .int .i64 y2]) :=
  ⟨h.hb, h.h0, h.h1, h.h2, fun _ => rfl, h.h4, h.h5, h.h6, h.h7, h.hd⟩
theorem RX8.at4 (h : RX8 W A B k0 k1 k2 y0 y1 y2 D w s7 s8 s30 s31 s32 s33) (h4 : D 4 = false) : RX8 W A B k0 k1 k2 y0 y1 y2 (fun j => j == 4 || D j) (w.alloc (.cells #[.int .i64 0, .int .i64 0, .int .i64 0] 42)) (.pointer (some ⟨w.heap.size, 0, none⟩)) s8 s30 s31 s32 s33 := by
  have h' := h.step (below_alloc w (.cells #[.int .i64 0, .int .i64 0, .int .i64 0] 42))
  refine ⟨h'.hb, h'.h0, h'.h1, h'.h2, h'.h3, fun _ => ⟨_, rfl, h.hb.size, ⟨_, _, _, B3.new w _ _ _ _⟩, fun e => ?_⟩, h'.h5, fun e => (by cases e), h'.h7, fun _ e => ?_⟩
  · have := h.h6 h4
    rw [show D 6 = true from e] at this
    cases this
  · obtain ⟨g, q1, q2, ⟨u, v, z, q3⟩, q4⟩ := h.h5 e
    have := q3.lt
    rw [q1]
    intro e
    simp only [Value.pointer.injEq, Option.some.injEq, Addr.mk.injEq] at e
    omega
theorem RX8.at5 (h : RX8 W A B k0 k1 k2 y0 y1 y2 D w s7 s8 s30 s31 s32 s33) (h5 : D 5 = false) : RX8 W A B k0 k1 k2 y0 y1 y2 (fun j => j == 5 || D j) (w.alloc (.cells #[.int .i64 0, .int .i64 0, .int .i64 0] 42)) s7 (.pointer (some ⟨w.heap.size, 0, none⟩)) s30 s31 s32 s33 := by
  have h' := h.step (below_alloc w (.cells #[.int .i64 0, .int .i64 0, .int .i64 0] 42))
  refine ⟨h'.hb, h'.h0, h'.h1, h'.h2, h'.h3, h'.h4, fun _ => ⟨_, rfl, h.hb.size, ⟨_, _, _, B3.new w _ _ _ _⟩, fun e => ?_⟩, h'.h6, fun e => (by cases e), fun e _ => ?_⟩
  · have := h.h7 h5
    rw [show D 7 = true from e] at this
    cases this
  · obtain ⟨g, q1, q2, ⟨u, v, z, q3⟩, q4⟩ := h.h4 e
    have := q3.lt
    rw [q1]
    intro e
    simp only [Value.pointer.injEq, Option.some.injEq, Addr.mk.injEq] at e
    omega
theorem RX8.at6 {g : Nat} (h : RX8 W A B k0 k1 k2 y0 y1 y2 D w (.pointer (some ⟨g, 0, none⟩)) s8 s30 s31 s32 s33) (h4 : D 4 = true) : RX8 W A B k0 k1 k2 y0 y1 y2 (fun j => j == 6 || D j) (set3 w g 0 (.int .i64 k0) (.int .i64 k1) (.int .i64 k2)) (.pointer (some ⟨g, 0, none⟩)) s8 s30 s31 s32 s33 := by
  obtain ⟨g1, q1, q2, ⟨u, v, z, q3⟩, q4⟩ := h.h4 h4
  simp only [Value.pointer.injEq, Option.some.injEq, Addr.mk.injEq, and_true] at q1
  subst q1
  refine ⟨set3_below h.hb q2, h.h0, h.h1, h.h2, h.h3, fun _ => ⟨g, rfl, q2, ⟨_, _, _, q3.set⟩, fun _ => q3.set⟩, fun e => ?_, fun e => ?_, h.h7, h.hd⟩
  · obtain ⟨g2, r1, r2, ⟨u2, v2, z2, r3⟩, r4⟩ := h.h5 e
    have hne : g2 ≠ g := fun e2 => h.hd h4 e (by rw [r1, e2])
    exact ⟨g2, r1, r2, ⟨_, _, _, r3.other hne⟩, fun e3 => (r4 e3).other hne⟩
  · rw [show D 4 = false from e] at h4
    cases h4
theorem RX8.at7 {g : Nat} (h : RX8 W A B k0 k1 k2 y0 y1 y2 D w s7 (.pointer (some ⟨g, 0, none⟩)) s30 s31 s32 s33) (h5 : D 5 = true) : RX8 W A B k0 k1 k2 y0 y1 y2 (fun j => j == 7 || D j) (set3 w g 0 (.int .i64 y0) (.int .i64 y1) (.int .i64 y2)) s7 (.pointer (some ⟨g, 0, none⟩)) s30 s31 s32 s33 := by
  obtain ⟨g1, q1, q2, ⟨u, v, z, q3⟩, q4⟩ := h.h5 h5
  simp only [Value.pointer.injEq, Option.some.injEq, Addr.mk.injEq, and_true] at q1
  subst q1
  refine ⟨set3_below h.hb q2, h.h0, h.h1, h.h2, h.h3, fun e => ?_, fun _ => ⟨g, rfl, q2, ⟨_, _, _, q3.set⟩, fun _ => q3.set⟩, h.h6, fun e => ?_, h.hd⟩
  · obtain ⟨g2, r1, r2, ⟨u2, v2, z2, r3⟩, r4⟩ := h.h4 e
    have hne : g2 ≠ g := fun e2 => h.hd e h5 (by rw [r1, e2])
    exact ⟨g2, r1, r2, ⟨_, _, _, r3.other hne⟩, fun e3 => (r4 e3).other hne⟩
  · rw [show D 5 = false from e] at h5
    cases h5
end
set_option maxRecDepth 100000 in
set_option maxHeartbeats 4000000 in
theorem indexFinds_of (s : List Int) (sv : Value) (x : Bool × Int) (k : Fo) (a : Value) (y : Bool × Int) (l : Fo) (c : Value) (w : World) (hN : NIn w s sv) (hS : SIn w k a) (hU : SIn w l c) (hk : Fo.norm k = k) (hl : Fo.norm l = l) :
    Calls Try.prog 5 #[sv, .agg #[.bool x.1, .int .i64 x.2, a], .agg #[.bool y.1, .int .i64 y.2, c]] w fun e w' => e = .returned (.bool true) ∧ Below w.heap.size w w' := by
  obtain ⟨xv, xn⟩ := x
  obtain ⟨yv, yn⟩ := y
  have HN := hide hN
  have HS := hide hS
  have HU := hide hU
  have Hk := hide hk
  have Hl := hide hl
  obtain ⟨sa, sc, sb, so, rfl, -, -, -, -⟩ := hN
  obtain ⟨ad, ac, b, o, rfl, -, -, -, -⟩ := hS
  obtain ⟨ud, uc, ub, uo, rfl, -, -, -, -⟩ := hU
  clear hk hl
  go_enter Try.func5, Try.ntmps5
  go_upto_region 1 with fail
  generalize hw1 : w.alloc (.cells #[.bool xv, .int .i64 xn, .slice ad (Fo.len k) ac] 33) = w1
  generalize hw2 : w1.alloc (.cells #[.bool yv, .int .i64 yn, .slice ud (Fo.len l) uc] 33) = w0
  have hs1 : w1.heap.size = w.heap.size + 1 := by rw [← hw1]; simp
  have hb1 : Below w.heap.size w w1 := by rw [← hw1]; exact below_alloc _ _
  have hb2 : Below w1.heap.size w1 w0 := by rw [← hw2]; exact below_alloc _ _
  have Ha : Hid (B3 w0 w.heap.size (.bool xv) (.int .i64 xn) (.slice ad (Fo.len k) ac)) := B3.below (by rw [← hw1]; exact B3.new _ _ _ _ _) hb2
  have Hb : Hid (B3 w0 (w.heap.size + 1) (.bool yv) (.int .i64 yn) (.slice ud (Fo.len l) uc)) := by
    have h := B3.new w1 (.bool yv) (.int .i64 yn) (.slice ud (Fo.len l) uc) 33
    rw [hw2, hs1] at h
    exact h
  have HB0 : Hid (Below w.heap.size w w0) := below_step hb1 hb2
  clear hw1 hw2 hs1 hb1 hb2
  clear w1
  go_wp2_with fail
  refine (alive8_any _).mono ?_
  rintro e w1 ⟨rfl, hb⟩
  have HB1 := hide (below_step HB0.out hb)
  replace Ha := hide (Ha.out.below hb)
  replace Hb := hide (Hb.out.below hb)
  clear hb HB0
  clear w0
  go_wp2_with fail
  obtain ⟨a0, a1, a2, -⟩ := Ha.out
  obtain ⟨b0, b1, b2, -⟩ := Hb.out
  refine (wsigR_any s _ _ (HN.out.below HB1.out)).mono ?_
  rintro e w' ⟨rfl, hw'⟩
  rw [hw']
  clear hw' w'
  by_cases hs : ¬ wsig s = 0
  · have hsb : (wsig s != 0) = true := by simpa using hs
    generalize wsig s = G at *
    clear hs
    go_wp2_with fail
    go_ret
    exact ⟨rfl, HB1.out⟩
  have hs := Decidable.not_not.1 hs
  have Hok := hide (wsig_ok hs)
  simp only [hs]
  clear hs
  go_wp2_with fail
  refine (wrongR_any s _ (xv, xn) k _ _ (HN.out.below HB1.out) (HS.out.below HB1.out)).mono ?_
  rintro e w2 ⟨rfl, hb⟩
  have HB2 := hide (below_step HB1.out hb)
  replace Ha := hide (Ha.out.below hb)
  replace Hb := hide (Hb.out.below hb)
  clear hb HB1 a0 a1 a2 b0 b1 b2
  clear w1
  obtain ⟨b0, b1, b2, -⟩ := Hb.out
  by_cases hs : ¬ wrongF s (xv, xn) k = 0
  · have hsb : (wrongF s (xv, xn) k != 0) = true := by simpa using hs
    generalize wrongF s (xv, xn) k = G at *
    clear hs
    go_wp2_with fail
    go_ret
    exact ⟨rfl, HB2.out⟩
  have hs := Decidable.not_not.1 hs
  have Hg1 := hide (gd_right Hok.out.1 Hk.out hs)
  have Hga := hide (sig_walk (t := ((xv, xn), k)) (right_of Hok.out.1 hs).2.2.2.2)
  simp only [hs]
  clear hs
  go_wp2_with fail
  refine (wrongR_any s _ (yv, yn) l _ _ (HN.out.below HB2.out) (HU.out.below HB2.out)).mono ?_
  rintro e w3 ⟨rfl, hb⟩
  have HB3 := hide (below_step HB2.out hb)
  replace Ha := hide (Ha.out.below hb)
  replace Hb := hide (Hb.out.below hb)
  clear hb HB2 b0 b1 b2
  clear w2
  obtain ⟨a0, a1, a2, -⟩ := Ha.out
  obtain ⟨b0, b1, b2, -⟩ := Hb.out
  by_cases hs : ¬ wrongF s (yv, yn) l = 0
  · have hsb : (wrongF s (yv, yn) l != 0) = true := by simpa using hs
    generalize wrongF s (yv, yn) l = G at *
    clear hs
    go_wp2_with fail
    go_ret
    exact ⟨rfl, HB3.out⟩
  have hs := Decidable.not_not.1 hs
  have Hg2 := hide (gd_right Hok.out.1 Hl.out hs)
  have Hgb := hide (sig_walk (t := ((yv, yn), l)) (right_of Hok.out.1 hs).2.2.2.2)
  simp only [hs]
  clear hs
  go_wp2_with fail
  obtain ⟨k0, k1, k2, hka⟩ := keyT_is ((xv, xn), k)
  obtain ⟨y0, y1, y2, hkb⟩ := keyT_is ((yv, yn), l)
  have Hka := hide hka
  have Hkb := hide hkb
  clear hka hkb
  have Hc1 := hide (fun (w' : World) (hb : Below w3.heap.size w3 w') => keyP_call Hok.out.2.1 (x := (xv, xn)) Hka.out (HS.out.below (below_step HB3.out hb)) Hga.out)
  have Hc2 := hide (fun (w' : World) (hb : Below w3.heap.size w3 w') => keyP_call Hok.out.2.1 (x := (yv, yn)) Hkb.out (HU.out.below (below_step HB3.out hb)) Hgb.out)
  simp only at Hc1 Hc2
  refine region_inv (fun D a w' => ∃ s7 s8 s30 s31 s32 s33 : Value, a = ⟨#[.slice sa s.length sc, .agg #[.bool xv, .int .i64 xn, .slice ad (Fo.len k) ac], .agg #[.bool yv, .int .i64 yn, .slice ud (Fo.len l) uc], undef, .pointer (some ⟨w.heap.size, 0, none⟩), .pointer (some ⟨w.heap.size + 1, 0, none⟩), .bool false, s7, s8, undef, undef, undef, undef, .bool true, .bool false, .slice sa s.length sc, .int .i64 0, .bool false, .bool false, .slice sa s.length sc, .agg #[.bool xv, .int .i64 xn, .slice ad (Fo.len k) ac], .int .i64 0, .bool false, .bool false, .bool false, .slice sa s.length sc, .agg #[.bool yv, .int .i64 yn, .slice ud (Fo.len l) uc], .int .i64 0, .bool false, .bool false, s30, s31, s32, s33, undef, undef, undef, undef, undef, undef, undef, undef, undef, undef, undef, undef, undef, undef, undef, undef, undef, undef, undef, undef, undef, undef, undef, undef, undef, undef, undef, undef, undef, undef, undef, undef, undef, undef, undef, undef, undef, undef, undef, undef, undef], []⟩ ∧ RX8 w3 (.agg #[.bool xv, .int .i64 xn, .slice ad (Fo.len k) ac]) (.agg #[.bool yv, .int .i64 yn, .slice ud (Fo.len l) uc]) k0 k1 k2 y0 y1 y2 D w' s7 s8 s30 s31 s32 s33) (by kernel_rfl) (by kernel_rfl) ?_ ?_ ⟨_, _, _, _, _, _, rfl, RX8.start (Below.refl _ _).drew⟩
  · rintro D a w' i o hi ⟨s7, s8, s30, s31, s32, s33, rfl, hI⟩ hD ho hdep
    have HI := hide hI
    replace a0 := grow_cell hI.hb _ _ a0
    replace a1 := grow_cell hI.hb _ _ a1
    replace a2 := grow_cell hI.hb _ _ a2
    replace b0 := grow_cell hI.hb _ _ b0
    replace b1 := grow_cell hI.hb _ _ b1
    replace b2 := grow_cell hI.hb _ _ b2
    clear hI
    have hi' : i < 8 := hi
    clear hi
    have HD := hide hD
    rcases (by omega : i = 0 ∨ i = 1 ∨ i = 2 ∨ i = 3 ∨ i = 4 ∨ i = 5 ∨ i = 6 ∨ i = 7) with rfl | rfl | rfl | rfl | rfl | rfl | rfl | rfl
    · obtain rfl := Option.some.inj ho
      clear ho hdep hD
      refine wpOp_step rfl (fun K hK => ?_)
      go_simp
      exact hK _ _ ⟨_, _, _, _, _, _, rfl, HI.out.at0⟩
    · obtain rfl := Option.some.inj ho
      have d0 := HI.out.h0 (hdep ⟨0, .data⟩ (by simp) rfl)
      subst d0
      clear ho hdep hD
      refine wpOp_step rfl (fun K hK => ?_)
      go_simp
      refine (Hc1.out _ HI.out.hb).mono ?_
      rintro e wq ⟨rfl, hb⟩
      exact hK _ _ ⟨_, _, _, _, _, _, rfl, (HI.out.step hb).at1⟩
    · obtain rfl := Option.some.inj ho
      clear ho hdep hD
      refine wpOp_step rfl (fun K hK => ?_)
      go_simp
      exact hK _ _ ⟨_, _, _, _, _, _, rfl, HI.out.at2⟩
    · obtain rfl := Option.some.inj ho
      have d2 := HI.out.h2 (hdep ⟨2, .data⟩ (by simp) rfl)
      subst d2
      clear ho hdep hD
      refine wpOp_step rfl (fun K hK => ?_)
      go_simp
      refine (Hc2.out _ HI.out.hb).mono ?_
      rintro e wq ⟨rfl, hb⟩
      exact hK _ _ ⟨_, _, _, _, _, _, rfl, (HI.out.step hb).at3⟩
    · obtain rfl := Option.some.inj ho
      clear ho hdep hD
      refine wpOp_step rfl (fun K hK => ?_)
      go_simp
      exact hK _ _ ⟨_, _, _, _, _, _, rfl, HI.out.at4 HD.out⟩
    · obtain rfl := Option.some.inj ho
      clear ho hdep hD
      refine wpOp_step rfl (fun K hK => ?_)
      go_simp
      exact hK _ _ ⟨_, _, _, _, _, _, rfl, HI.out.at5 HD.out⟩
    · obtain rfl := Option.some.inj ho
      have e4 := hdep ⟨4, .data⟩ (by simp) rfl
      have E4 := hide e4
      have d4 := HI.out.h4 e4
      have d1 := HI.out.h1 (hdep ⟨1, .data⟩ (by simp) rfl)
      subst d1
      obtain ⟨g, rfl, hg, ⟨u, v, z, q0, q1, q2, q3⟩, -⟩ := d4
      have f0 := q3 0
      have f1 := q3 1
      have f2 := q3 2
      clear e4
      clear ho hdep hD
      refine wpOp_step rfl (fun K hK => ?_)
      go_simp
      exact hK _ _ ⟨_, _, _, _, _, _, rfl, HI.out.at6 E4.out⟩
    · obtain rfl := Option.some.inj ho
      have e5 := hdep ⟨5, .data⟩ (by simp) rfl
      have E5 := hide e5
      have d5 := HI.out.h5 e5
      have d3 := HI.out.h3 (hdep ⟨3, .data⟩ (by simp) rfl)
      subst d3
      obtain ⟨g, rfl, hg, ⟨u, v, z, q0, q1, q2, q3⟩, -⟩ := d5
      have f0 := q3 0
      have f1 := q3 1
      have f2 := q3 2
      clear e5
      clear ho hdep hD
      refine wpOp_step rfl (fun K hK => ?_)
      go_simp
      exact hK _ _ ⟨_, _, _, _, _, _, rfl, HI.out.at7 E5.out⟩
  · rintro D a w4 ⟨s7, s8, s30, s31, s32, s33, rfl, hI⟩ hall
    obtain ⟨gx, rfl, -, -, hx⟩ := hI.h4 (hall 4 (by decide))
    obtain ⟨gy, rfl, -, -, hy⟩ := hI.h5 (hall 5 (by decide))
    have Hx := hide (hx (hall 6 (by decide)))
    have Hy := hide (hy (hall 7 (by decide)))
    replace Ha := hide (Ha.out.below hI.hb)
    replace Hb := hide (Hb.out.below hI.hb)
    have HB4 := hide (below_step HB3.out hI.hb)
    have d1 := hI.h1 (hall 1 (by decide))
    have d3 := hI.h3 (hall 3 (by decide))
    have d0 := hI.h0 (hall 0 (by decide))
    have d2 := hI.h2 (hall 2 (by decide))
    subst d0 d1 d2 d3
    clear hx hy hI hall a0 a1 a2 b0 b1 b2 HB3 Hc1 Hc2
    clear w3
    obtain ⟨a0, a1, a2, -⟩ := Ha.out
    obtain ⟨b0, b1, b2, -⟩ := Hb.out
    obtain ⟨⟨⟨rv, rn⟩, rk⟩, hrn⟩ : ∃ z, z = subT (ren 5) ((yv, yn), l) := ⟨_, rfl⟩
    have HUI : Hid (UI [] [(((xv, xn), k), ((rv, rn), rk))]) := by
      rw [hrn]
      exact ui_of Hg1.out.1 (gd_ren5 Hg2.out.1 (fun m hm => (sig_fewT Hgb.out m hm).2)) Hg1.out.2.1 (Nat.le_trans (dep_ren5 _) Hg2.out.2.1)
    obtain ⟨n, R, hR⟩ := runU_end _ _ _ _ rfl rfl HUI.out
    have HR := hide hR
    obtain ⟨S1, hS1⟩ : ∃ S1, S1 = R.getD [] := ⟨_, rfl⟩
    obtain ⟨ok, hok⟩ : ∃ ok, ok = R.isSome := ⟨_, rfl⟩
    have Hfu : Hid (ok = true → uniK [k0, k1, k2] [y0, y1, y2] = true) := fun e => by
      rw [← Hka.out, ← Hkb.out]
      cases hRe : R with
      | none => rw [hok, hRe] at e; cases e
      | some S =>
        rw [hRe, hrn] at hR
        have h := HUI.out
        rw [hrn] at h
        exact finds_unify Hga.out Hgb.out h hR
    have HcN := hide (fun w' hb => renameR_call (HU.out.below HB4.out) Hg2.out.1.ok Hg2.out.1.nar hrn w' hb)
    have HcU := hide (fun (w' : World) (q : Value) (hb : Below w.heap.size w w') (hq : SIn w' rk q) => (unifyR_any (xv, xn) k _ (rv, rn) rk q w' n R HR.out HUI.out (HS.out.below hb) hq).mono (fun e w'' h => by have := uni_ans h; rw [← hS1, ← hok] at this; exact this))
    obtain ⟨S2, hS2⟩ : ∃ S2, S2 = (extT [] ((xv, xn), k) ((yv, yn), l)).getD [] := ⟨_, rfl⟩
    obtain ⟨ok2, hok2⟩ : ∃ ok, ok = (extT [] ((xv, xn), k) ((yv, yn), l)).isSome := ⟨_, rfl⟩
    have Hfm : Hid (ok2 = true → matK [k0, k1, k2] [y0, y1, y2] = true) := fun e => by
      rw [← Hka.out, ← Hkb.out]
      cases hRe : extT [] ((xv, xn), k) ((yv, yn), l) with
      | none => rw [hok2, hRe] at e; cases e
      | some S => exact finds_match Hgb.out Hg2.out.1.ok hRe
    have HcM := hide (fun (w' : World) (hb : Below w.heap.size w w') => (moreR_any (xv, xn) k [] (.slice none 0 0) (yv, yn) l _ _ w' (SubIn.nil _) (HS.out.below hb) (HU.out.below hb) (by have := Hg1.out.2.2; simp only [List.length_nil]; omega)).mono (fun e w'' h => by have := moreR_ans h; rw [← hS2, ← hok2] at this; exact this))
    clear hR hS1 hok hS2 hok2 hrn
    simp only at HcN HcU HcM
    go_upto_region 6 with fail
    have hcur : Below w4.heap.size w4 w4.drew := (Below.refl _ _).drew
    go_region_held3 (fun w' => w'.cell? ⟨w.heap.size, 0, none⟩ = some (.bool xv) ∧ w'.cell? ⟨w.heap.size, 1, none⟩ = some (.int .i64 xn) ∧ w'.cell? ⟨w.heap.size, 2, none⟩ = some (.slice ad (Fo.len k) ac) ∧ w'.cell? ⟨w.heap.size + 1, 0, none⟩ = some (.bool yv) ∧ w'.cell? ⟨w.heap.size + 1, 1, none⟩ = some (.int .i64 yn) ∧ w'.cell? ⟨w.heap.size + 1, 2, none⟩ = some (.slice ud (Fo.len l) uc))
      (first
        | (with_reducible exact ⟨grow_cell hcur _ _ a0, grow_cell hcur _ _ a1, grow_cell hcur _ _ a2, grow_cell hcur _ _ b0, grow_cell hcur _ _ b1, grow_cell hcur _ _ b2⟩)
        | go_keep)
      (first
        | (go_at_call 34; refine (HcN.out _ hcur).mono ?_; rintro e wq ⟨r1, r2, r3, rfl, hq, hb⟩; replace hcur := below_step hcur hb; have HQ := hide hq; clear hb hq)
        | (go_at_call 33; refine (HcU.out _ _ (below_step HB4.out hcur) HQ.out).mono ?_; rintro e wq ⟨hb, u1, u3, rfl, -, -⟩; replace hcur := below_step hcur hb; clear hb))
    all_goals
      rename_i hheld
      have HBc := hide (below_step HB4.out hcur)
      replace Ha := hide (Ha.out.below hcur)
      replace Hb := hide (Hb.out.below hcur)
      replace Hx := hide (Hx.out.below hcur)
      replace Hy := hide (Hy.out.below hcur)
      clear hcur a0 a1 a2 b0 b1 b2 hheld HcN HcU HQ HB4
      cases ok with
      | false =>
        obtain ⟨a0, a1, a2, -⟩ := Ha.out
        obtain ⟨b0, b1, b2, -⟩ := Hb.out
        go_wp2_with fail
        refine (HcM.out _ HBc.out).mono ?_
        rintro e w9 ⟨hb, m1, m3, rfl, -, -⟩
        replace Hx := hide (Hx.out.below hb)
        replace Hy := hide (Hy.out.below hb)
        replace HBc := hide (below_step HBc.out hb)
        obtain ⟨x0, x1, x2, -⟩ := Hx.out
        obtain ⟨t0, t1, t2, -⟩ := Hy.out
        clear hb HcM a0 a1 a2 b0 b1 b2
        cases ok2 with
        | false =>
          go_wp2_with fail
          go_ret
          exact ⟨rfl, HBc.out⟩
        | true =>
          have Hm := hide (matchP_any8 k0 k1 k2 y0 y1 y2 w9)
          rw [Hfm.out rfl] at Hm
          go_wp2_with fail
          refine Hm.out.mono ?_
          rintro e w10 ⟨rfl, hb⟩
          have HBd := hide (below_step HBc.out hb)
          clear hb
          go_wp2_with fail
          go_ret
          exact ⟨rfl, HBd.out⟩
      | true =>
        have Hun : Hid (uniK [k0, k1, k2] [y0, y1, y2] = true) := Hfu.out rfl
        have Hun2 : Hid (uniK [y0, y1, y2] [k0, k1, k2] = true) := by rw [Hid, uniK_flip]; exact Hun.out
        obtain ⟨x0, x1, x2, -⟩ := Hx.out
        obtain ⟨t0, t1, t2, -⟩ := Hy.out
        have Hu1 := hide (unifyP_any8 k0 k1 k2 y0 y1 y2 wq)
        rw [Hun.out] at Hu1
        go_wp2_with fail
        refine Hu1.out.mono ?_
        rintro e w6 ⟨rfl, hb⟩
        replace HBc := hide (below_step HBc.out hb)
        replace Ha := hide (Ha.out.below hb)
        replace Hb := hide (Hb.out.below hb)
        replace Hx := hide (Hx.out.below hb)
        replace Hy := hide (Hy.out.below hb)
        clear hb Hu1 x0 x1 x2 t0 t1 t2
        obtain ⟨x0, x1, x2, -⟩ := Hx.out
        obtain ⟨t0, t1, t2, -⟩ := Hy.out
        have Hu1 := hide (unifyP_any8 y0 y1 y2 k0 k1 k2 w6)
        rw [Hun2.out] at Hu1
        go_wp2_with fail
        refine Hu1.out.mono ?_
        rintro e w7 ⟨rfl, hb⟩
        replace HBc := hide (below_step HBc.out hb)
        replace Ha := hide (Ha.out.below hb)
        replace Hb := hide (Hb.out.below hb)
        replace Hx := hide (Hx.out.below hb)
        replace Hy := hide (Hy.out.below hb)
        clear hb Hu1 x0 x1 x2 t0 t1 t2
        obtain ⟨a0, a1, a2, -⟩ := Ha.out
        obtain ⟨b0, b1, b2, -⟩ := Hb.out
        have hone := one_in (t := ((xv, xn), k)) (HS.out.below HBc.out)
        have hb := below_alloc w7 (.cells #[.bool xv, .int .i64 xn, .slice ad (Fo.len k) ac] 33)
        have Hfd := hide (findP_any Hok.out.2.1 (one1 ((xv, xn), k)) _ (yv, yn) l _ _ hone (HU.out.below (below_step HBc.out hb)) (fun q hq => by
          have e : q = ((xv, xn), k) := by simpa [one1, Fo.list] using hq
          rw [e]; exact Hga.out) Hgb.out (by simp [one1, Fo.len]))
        rw [show fndL (keyT ((yv, yn), l)) (one1 ((xv, xn), k)).list 0 = [0] by
          rw [show (one1 ((xv, xn), k)).list = [((xv, xn), k)] from rfl, Hkb.out]
          simp only [fndL]
          rw [show keyT ((xv, xn), k) = [k0, k1, k2] from Hka.out, if_pos Hun.out]
          rfl] at Hfd
        replace HBc := hide (below_step HBc.out hb)
        replace Ha := hide (Ha.out.below hb)
        replace Hb := hide (Hb.out.below hb)
        replace Hx := hide (Hx.out.below hb)
        replace Hy := hide (Hy.out.below hb)
        simp only [List.length_cons, List.length_nil] at Hfd
        obtain ⟨c0, c1, c2, -⟩ := Hb.out
        clear hb hone
        go_wp2_with fail
        refine Hfd.out.mono ?_
        rintro e w8 ⟨f1, f3, rfl, -, hb⟩
        replace HBc := hide (below_step HBc.out hb)
        replace Ha := hide (Ha.out.below hb)
        replace Hb := hide (Hb.out.below hb)
        replace Hx := hide (Hx.out.below hb)
        replace Hy := hide (Hy.out.below hb)
        clear hb Hfd a0 a1 a2 b0 b1 b2 c0 c1 c2
        obtain ⟨a0, a1, a2, -⟩ := Ha.out
        obtain ⟨b0, b1, b2, -⟩ := Hb.out
        go_wp2_with fail
        refine (HcM.out _ HBc.out).mono ?_
        rintro e w9 ⟨hb, m1, m3, rfl, -, -⟩
        replace Hx := hide (Hx.out.below hb)
        replace Hy := hide (Hy.out.below hb)
        replace HBc := hide (below_step HBc.out hb)
        obtain ⟨x0, x1, x2, -⟩ := Hx.out
        obtain ⟨t0, t1, t2, -⟩ := Hy.out
        clear hb HcM a0 a1 a2 b0 b1 b2
        cases ok2 with
        | false =>
          go_wp2_with fail
          go_ret
          exact ⟨rfl, HBc.out⟩
        | true =>
          have Hm := hide (matchP_any8 k0 k1 k2 y0 y1 y2 w9)
          rw [Hfm.out rfl] at Hm
          go_wp2_with fail
          refine Hm.out.mono ?_
          rintro e w10 ⟨rfl, hb⟩
          have HBd := hide (below_step HBc.out hb)
          clear hb
          go_wp2_with fail
          go_ret
          exact ⟨rfl, HBd.out⟩
end Go.Proofs.Ytiilckjnggeeoad
