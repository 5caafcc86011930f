/- What is put is there: the law's walk. -/
import Derived.Test.YtegdfnfengnjlaaDoorPutP
import Derived.Deep.DeepCutAuto
namespace Go.Proofs.YtegdfnfengnjlaaDoor
open Go.RowKit Go.Deep Go.ChangeShapes Go.WideShapes
attribute [local go_sem ↓] Go.wp_at_zero Go.wp_at_succ

theorem new_not (w w' : World) (ob : Obj) : ¬ New (w.alloc ob).drew w' w.heap.size := fun h => by
  have h1 : (w.alloc ob).heap.size ≤ w.heap.size := h.1
  have h2 : (w.alloc ob).heap.size = w.heap.size + 1 := by simp
  omega

theorem at_some {x : Bool × Int} {k : Fo} {a : Value} {p : List Int} {pv : Value} {w : World} {z : Bool × Int} {m : Fo} (hat : atT p x k = some (z, m)) (hS : SIn w k a) (hN : NIn w p pv) (hl : Fo.len k ≤ 1000) (hn : Fo.narrow k) :
    Calls Tryd.prog 25 #[.agg #[.bool x.1, .int .i64 x.2, a], pv] w fun e w' => ∃ a1 a2 a3, e = .returned (.tuple #[.agg #[.bool z.1, .int .i64 z.2, .slice a1 a2 a3], .bool true]) ∧ SB (New w w') w' m (.slice a1 a2 a3) ∧ Below w.heap.size w w' := by
  refine (at_any x k a p pv w hS hN hl hn).mono ?_
  rintro e w' ⟨hb, h⟩
  rw [hat] at h
  rcases h with ⟨h, _⟩ | ⟨y, l, a', h1, h2, h3⟩
  · cases h
  · cases h1
    obtain ⟨a1, a2, a3, rfl⟩ := slice_of_sin h3.toS
    exact ⟨a1, a2, a3, h2, h3, hb⟩
theorem put_some {x : Bool × Int} {k : Fo} {a : Value} {p : List Int} {pv : Value} {y : Bool × Int} {l : Fo} {c : Value} {w : World} {q : Bool × Int} {r : Fo} (hq : putT p (x, k) (y, l) = (q, r)) (hS : SIn w k a) (hN : NIn w p pv) (hS2 : SIn w l c)
    (hl : Fo.len k ≤ 1000) (hn : Fo.narrow k) (hl2 : Fo.len l ≤ 1000) (hn2 : Fo.narrow l) :
    Calls Tryd.prog 27 #[.agg #[.bool x.1, .int .i64 x.2, a], pv, .agg #[.bool y.1, .int .i64 y.2, c]] w fun e w' => ∃ a1 a2 a3, e = .returned (.agg #[.bool q.1, .int .i64 q.2, .slice a1 a2 a3]) ∧ SB (New w w') w' r (.slice a1 a2 a3) ∧ Below w.heap.size w w' := by
  have h := put_any x k a p pv y l c w hS hN hS2 hl hn hl2 hn2
  rw [hq] at h
  refine h.mono ?_
  rintro e w' ⟨hb, a', h1, h2⟩
  obtain ⟨a1, a2, a3, rfl⟩ := slice_of_sin h2.toS
  exact ⟨a1, a2, a3, h1, h2, hb⟩

theorem size_is {x : Bool × Int} {k : Fo} {a : Value} {w : World} {A : Nat} (hA : tsz x k = A) (hb : A ≤ 1000) (hS : SIn w k a) :
    Calls Tryd.prog 18 #[.agg #[.bool x.1, .int .i64 x.2, a]] w fun e w' => e = .returned (.int .i64 (A : Int)) ∧ Below w.heap.size w w' := by
  have h := size_any x k a w hS
  rw [hA, wrap64_small (by omega) (by omega)] at h
  exact h
theorem same_is {x : Bool × Int} {k : Fo} {a c : Value} {w : World} (hS : SIn w k a) (hS2 : SIn w k c) :
    Calls Tryd.prog 10 #[.agg #[.bool x.1, .int .i64 x.2, a], .agg #[.bool x.1, .int .i64 x.2, c]] w fun e w' => e = .returned (.bool true) ∧ Below w.heap.size w w' := by
  have h := same_any x k x k a c w hS hS2
  rw [sameT_refl] at h
  exact h

set_option maxHeartbeats 2000000 in
set_option maxRecDepth 100000 in
theorem termPut_any (s : List Int) (sv : Value) (x : Bool × Int) (k : Fo) (a : Value) (y : Bool × Int) (l : Fo) (c : Value) (kk : Int) (w : World) (hN : NIn w s sv) (hS : SIn w k a) (hU : SIn w l c) :
    Calls Tryd.prog 5 #[sv, .agg #[.bool x.1, .int .i64 x.2, a], .agg #[.bool y.1, .int .i64 y.2, c], .int .i64 kk] w fun e w' => e = .returned (.bool true) ∧ Below w.heap.size w w' := by
  obtain ⟨xv, xn⟩ := x
  obtain ⟨yv, yn⟩ := y
  have HN := hide hN
  have HS := hide hS
  have HU := hide hU
  obtain ⟨sa, sc, sb, so, rfl, -, -, -, -⟩ := hN
  obtain ⟨ta, tc, tb, tw, rfl, -, -, -, -⟩ := hS
  obtain ⟨ua, uc, ub, uo, rfl, -, -, -, -⟩ := hU
  go_enter Tryd.func5, Tryd.ntmps5
  go_wp2_with fail
  generalize hw0 : (w.alloc (.cells #[.bool xv, .int .i64 xn, .slice ta (Fo.len k) tc] 26)).alloc (.cells #[.bool yv, .int .i64 yn, .slice ua (Fo.len l) uc] 26) = w0
  have hB0 : Below w.heap.size w w0 := by rw [← hw0]; exact (below_alloc _ _).alloc (by simp) _
  have t0 : w0.cell? ⟨w.heap.size, 0, none⟩ = some (.bool xv) := by rw [← hw0]; simp
  have t1 : w0.cell? ⟨w.heap.size, 1, none⟩ = some (.int .i64 xn) := by rw [← hw0]; simp
  have t2 : w0.cell? ⟨w.heap.size, 2, none⟩ = some (.slice ta (Fo.len k) tc) := by rw [← hw0]; simp
  have u0 : w0.cell? ⟨w.heap.size + 1, 0, none⟩ = some (.bool yv) := by rw [← hw0]; simp
  have u1 : w0.cell? ⟨w.heap.size + 1, 1, none⟩ = some (.int .i64 yn) := by rw [← hw0]; simp
  have u2 : w0.cell? ⟨w.heap.size + 1, 2, none⟩ = some (.slice ua (Fo.len l) uc) := by rw [← hw0]; simp
  clear hw0
  refine (alive_any w0).mono ?_
  rintro e w1 ⟨rfl, hb⟩
  have t0' := grow_cell hb _ _ t0
  have t1' := grow_cell hb _ _ t1
  have t2' := grow_cell hb _ _ t2
  have u0' := grow_cell hb _ _ u0
  have u1' := grow_cell hb _ _ u1
  have u2' := grow_cell hb _ _ u2
  have hB1 := below_step hB0 hb
  clear t0 t1 t2 u0 u1 u2 hB0 hb
  go_wp2_with fail
  refine (wsigR_any s _ w1 (HN.out.below hB1)).mono ?_
  rintro e w' ⟨rfl, hw'⟩
  rw [hw']
  clear hw' w'
  by_cases hs : ¬ wsig s = 0
  · have hsb : (wsig s != 0) = true := by simpa using hs
    generalize wsig s = E at *
    clear hs
    go_wp2_with fail
    go_ret
    exact ⟨rfl, hB1⟩
  have hs := Decidable.not_not.1 hs
  have Hok := hide (wsig_ok hs).1
  simp only [hs]
  clear hs
  go_wp2_with fail
  refine (wrongR_any s _ (xv, xn) k _ _ (HN.out.below hB1) (HS.out.below hB1)).mono ?_
  rintro e w2 ⟨rfl, hb⟩
  have t0 := grow_cell hb _ _ t0'
  have t1 := grow_cell hb _ _ t1'
  have t2 := grow_cell hb _ _ t2'
  have u0 := grow_cell hb _ _ u0'
  have u1 := grow_cell hb _ _ u1'
  have u2 := grow_cell hb _ _ u2'
  have hB2 := below_step hB1 hb
  clear t0' t1' t2' u0' u1' u2' hB1 hb
  by_cases hx : ¬ wrongF s (xv, xn) k = 0
  · have hsb : (wrongF s (xv, xn) k != 0) = true := by simpa using hx
    generalize wrongF s (xv, xn) k = E at *
    clear hx
    go_wp2_with fail
    go_ret
    exact ⟨rfl, hB2⟩
  have hx := Decidable.not_not.1 hx
  have Hx := hide (right_of Hok.out hx)
  simp only [hx]
  clear hx
  go_wp2_with fail
  refine (wrongR_any s _ (yv, yn) l _ _ (HN.out.below hB2) (HU.out.below hB2)).mono ?_
  rintro e w3 ⟨rfl, hb⟩
  have t0' := grow_cell hb _ _ t0
  have t1' := grow_cell hb _ _ t1
  have t2' := grow_cell hb _ _ t2
  have u0' := grow_cell hb _ _ u0
  have u1' := grow_cell hb _ _ u1
  have u2' := grow_cell hb _ _ u2
  have hB3 := below_step hB2 hb
  clear t0 t1 t2 u0 u1 u2 hB2 hb
  by_cases hy : ¬ wrongF s (yv, yn) l = 0
  · have hsb : (wrongF s (yv, yn) l != 0) = true := by simpa using hy
    generalize wrongF s (yv, yn) l = E at *
    clear hy
    go_wp2_with fail
    go_ret
    exact ⟨rfl, hB3⟩
  have hy := Decidable.not_not.1 hy
  have Hy := hide (right_of Hok.out hy)
  simp only [hy]
  clear hy
  by_cases hk0 : kk < 0
  · go_wp2_with fail
    go_ret
    exact ⟨rfl, hB3⟩
  go_wp2_with fail
  refine (places_any (xv, xn) k _ _ (HS.out.below hB3) (by have := Hx.out.1; omega)).mono ?_
  rintro e w4 ⟨vo, ys, rfl, ho, hP, hb⟩
  have t0 := grow_cell hb _ _ t0'
  have t1 := grow_cell hb _ _ t1'
  have t2 := grow_cell hb _ _ t2'
  have u0 := grow_cell hb _ _ u0'
  have u1 := grow_cell hb _ _ u1'
  have u2 := grow_cell hb _ _ u2'
  have hB4 := below_step hB3 hb
  have Hb34 := hide hb
  have Ho := hide ho
  have HP := hide hP
  obtain ⟨z1, z3, rfl⟩ := slice_of_owns ho
  clear t0' t1' t2' u0' u1' u2' ho hP hb
  by_cases hkl : (ys.length : Int) ≤ kk
  · go_wp2_with fail
    go_ret
    exact ⟨rfl, hB4⟩
  obtain ⟨m, rfl⟩ := Int.eq_ofNat_of_zero_le (show 0 ≤ kk by omega)
  have hml : m < ys.length := by omega
  obtain ⟨g, cap, hform, -, hgl⟩ := Ho.out.form (by omega)
  simp only [Value.slice.injEq, true_and] at hform
  obtain ⟨rfl, rfl⟩ := hform
  obtain ⟨pv, hpv⟩ : ∃ pv, ys[m]? = some pv := ⟨ys[m], by simp [hml]⟩
  obtain ⟨p, hp⟩ : ∃ p, (placesT (xv, xn) k [])[m]? = some p := ⟨(placesT (xv, xn) k [])[m]'(by rw [← HP.out.1]; exact hml), by simp⟩
  have HNp : Hid (NIn w4 p pv) := own_nin (HP.out.2 m pv p hpv hp).1
  have g0 : w4.cell? ⟨g, m, none⟩ = some pv := by rw [Ho.out.cellAt m (by omega), hpv]
  obtain ⟨⟨⟨zv, zn⟩, zk⟩, hat, hzv⟩ := place_sym (List.mem_of_getElem? hp)
  simp only at hzv
  subst hzv
  have Hat := hide hat
  obtain ⟨pz, pl, pc, rfl⟩ : ∃ z1 z2 z3, pv = .slice z1 z2 z3 := by
    obtain ⟨_, _, _, _, rfl, _⟩ := HNp.out
    exact ⟨_, _, _, rfl⟩
  have hm0 : (0 : Int) ≤ (m : Int) := by omega
  have hm1 : (m : Int) < (ys.length : Int) := by omega
  have HS4 := hide (HS.out.below hB4)
  have HU4 := hide (HU.out.below hB4)
  clear hpv hp hat hkl hk0 HN Hok Hb34 Ho HP hml
  have sw := World.block_lt_of_cell? _ _ t0
  simp only at sw
  have ne0 := World.new_ne w4 _ t0
  have ne1 := World.new_ne w4 _ t1
  have ne2 := World.new_ne w4 _ t2
  have ne3 := World.new_ne w4 _ g0
  have hl3 : Fo.len k ≤ 1000 := by have := Hx.out.2.2.1; omega
  have Hn3 := hide Hx.out.2.2.2.1
  go_upto_region 8 with fail
  go_cut [10, 11] (fun s10 s11 wx => ∃ (nb : Nat) (a1 : Option Addr) (a2 a3 : Nat), s10 = .pointer (some ⟨nb, 0, none⟩) ∧ s11 = .bool true ∧ wx.cell? ⟨nb, 0, none⟩ = some (.bool false) ∧ wx.cell? ⟨nb, 1, none⟩ = some (.int .i64 zn) ∧ wx.cell? ⟨nb, 2, none⟩ = some (.slice a1 a2 a3) ∧ SIn wx zk (.slice a1 a2 a3) ∧ Below w4.heap.size w4 wx)
  case first =>
    go_region_held3 (fun w' => w'.cell? ⟨w.heap.size, 0, none⟩ = some (.bool xv) ∧ w'.cell? ⟨w.heap.size, 1, none⟩ = some (.int .i64 xn) ∧ w'.cell? ⟨w.heap.size, 2, none⟩ = some (.slice ta (Fo.len k) tc) ∧ w'.cell? ⟨g, m, none⟩ = some (.slice pz pl pc))
      (first
        | go_keep
        | (go_split_ands
           refine ⟨?_, ?_, ?_, ?_⟩
           · exact grow_cell (below_alloc _ _) _ _ (grow_cell hb _ _ t0)
           · exact grow_cell (below_alloc _ _) _ _ (grow_cell hb _ _ t1)
           · exact grow_cell (below_alloc _ _) _ _ (grow_cell hb _ _ t2)
           · exact grow_cell (below_alloc _ _) _ _ (grow_cell hb _ _ g0))
        | (go_split_ands
           refine ⟨?_, ?_, ?_, ?_⟩
           · (refine grow_cell hb _ _ ?_; go_keep)
           · (refine grow_cell hb _ _ ?_; go_keep)
           · (refine grow_cell hb _ _ ?_; go_keep)
           · (refine grow_cell hb _ _ ?_; go_keep)))
      (first
        | (go_at_call 25; refine (at_some Hat.out ?_ ?_ hl3 Hn3.out).mono ?_; (exact HS4.out.drew); (exact HNp.out.drew); rintro e w5 ⟨a1, a2, a3, rfl, hSa, hb⟩)
        | (go_at_call 25; refine (at_some Hat.out ?_ ?_ hl3 Hn3.out).mono ?_; (exact (HS4.out.alloc _).drew); (exact (HNp.out.alloc _).drew); rintro e w5 ⟨a1, a2, a3, rfl, hSa, hb⟩; obtain ⟨b0, b1, b2, bf, hb4, hsz⟩ := box_full (((Below.refl _ _).drew).trans hb)))
    · go_wp2_with fail
      go_meet
      case rel => exact ⟨w5.heap.size, a1, a2, a3, rfl, rfl, by simp, by simp, by simp, hSa.toS.alloc _, (((Below.refl _ _).drew).trans hb).alloc hb.size _⟩
    · go_wp2_with fail
      go_meet
      case rel =>
        obtain ⟨e0, e1, e2⟩ := set3_cells (w := w5) (b := w4.heap.size) (o := 0) (x := .bool false) (y := .int .i64 zn) (z := .slice a1 a2 a3) b0 b1 b2
        exact ⟨w4.heap.size, a1, a2, a3, rfl, rfl, e0, e1, e2, (hSa.set3 (b := w4.heap.size) (o := 0) (new_not _ _ _)).toS, set3_below (o := 0) hb4 (Nat.le_refl _)⟩
  case rest =>
    obtain ⟨nb, a1, a2, a3, rfl, rfl, n0, n1, n2, hSz, hb5⟩ := hcut
    generalize wc = w5 at *
    have t0' := grow_cell hb5 _ _ t0
    have t1' := grow_cell hb5 _ _ t1
    have t2' := grow_cell hb5 _ _ t2
    have u0' := grow_cell hb5 _ _ u0
    have u1' := grow_cell hb5 _ _ u1
    have u2' := grow_cell hb5 _ _ u2
    have g0' := grow_cell hb5 _ _ g0
    have hB5 := below_step hB4 hb5
    have HS5 := hide (HS4.out.below hb5)
    have HU5 := hide (HU4.out.below hb5)
    have HNp5 := hide (HNp.out.below hb5)
    have HSz := hide hSz
    have hm0 : (0 : Int) ≤ (m : Int) := by omega
    clear t0 t1 t2 u0 u1 u2 g0 hB4 HS4 HU4 HNp hSz hb5 ne0 ne1 ne2 ne3 sw
    have ne0 := World.new_ne w5 _ t0'
    have ne1 := World.new_ne w5 _ u0'
    have ne3 := World.new_ne w5 _ g0'
    obtain ⟨⟨⟨rv, rn⟩, rk⟩, hq⟩ : ∃ r, putT p ((xv, xn), k) ((yv, yn), l) = r := ⟨_, rfl⟩
    have Hq := hide hq
    have hl4 : Fo.len l ≤ 1000 := by have := Hy.out.2.2.1; omega
    have Hn4 := hide Hy.out.2.2.2.1
    clear hq
    go_upto_region 9 with fail
    go_cut [12] (fun s12 wx => ∃ (nb2 : Nat) (c1 : Option Addr) (c2 c3 : Nat), s12 = .pointer (some ⟨nb2, 0, none⟩) ∧ wx.cell? ⟨nb2, 0, none⟩ = some (.bool rv) ∧ wx.cell? ⟨nb2, 1, none⟩ = some (.int .i64 rn) ∧ wx.cell? ⟨nb2, 2, none⟩ = some (.slice c1 c2 c3) ∧ SIn wx rk (.slice c1 c2 c3) ∧ Below w5.heap.size w5 wx)
    case first =>
      go_region_held3 (fun w' => w'.cell? ⟨w.heap.size, 0, none⟩ = some (.bool xv) ∧ w'.cell? ⟨w.heap.size, 1, none⟩ = some (.int .i64 xn) ∧ w'.cell? ⟨w.heap.size, 2, none⟩ = some (.slice ta (Fo.len k) tc) ∧ w'.cell? ⟨g, m, none⟩ = some (.slice pz pl pc) ∧ w'.cell? ⟨w.heap.size + 1, 0, none⟩ = some (.bool yv) ∧ w'.cell? ⟨w.heap.size + 1, 1, none⟩ = some (.int .i64 yn) ∧ w'.cell? ⟨w.heap.size + 1, 2, none⟩ = some (.slice ua (Fo.len l) uc))
        (first
          | go_keep
          | (go_split_ands
             refine ⟨?_, ?_, ?_, ?_, ?_, ?_, ?_⟩
             · exact grow_cell (below_alloc _ _) _ _ (grow_cell hb _ _ t0')
             · exact grow_cell (below_alloc _ _) _ _ (grow_cell hb _ _ t1')
             · exact grow_cell (below_alloc _ _) _ _ (grow_cell hb _ _ t2')
             · exact grow_cell (below_alloc _ _) _ _ (grow_cell hb _ _ g0')
             · exact grow_cell (below_alloc _ _) _ _ (grow_cell hb _ _ u0')
             · exact grow_cell (below_alloc _ _) _ _ (grow_cell hb _ _ u1')
             · exact grow_cell (below_alloc _ _) _ _ (grow_cell hb _ _ u2'))
          | (go_split_ands
             refine ⟨?_, ?_, ?_, ?_, ?_, ?_, ?_⟩
             · (refine grow_cell hb _ _ ?_; go_keep)
             · (refine grow_cell hb _ _ ?_; go_keep)
             · (refine grow_cell hb _ _ ?_; go_keep)
             · (refine grow_cell hb _ _ ?_; go_keep)
             · (refine grow_cell hb _ _ ?_; go_keep)
             · (refine grow_cell hb _ _ ?_; go_keep)
             · (refine grow_cell hb _ _ ?_; go_keep)))
        (first
          | (go_at_call 27; refine (put_some Hq.out ?_ ?_ ?_ hl3 Hn3.out hl4 Hn4.out).mono ?_; (exact HS5.out.drew); (exact HNp5.out.drew); (exact HU5.out.drew); rintro e w6 ⟨c1, c2, c3, rfl, hSa, hb⟩)
          | (go_at_call 27; refine (put_some Hq.out ?_ ?_ ?_ hl3 Hn3.out hl4 Hn4.out).mono ?_; (exact (HS5.out.alloc _).drew); (exact (HNp5.out.alloc _).drew); (exact (HU5.out.alloc _).drew); rintro e w6 ⟨c1, c2, c3, rfl, hSa, hb⟩; obtain ⟨b0, b1, b2, bf, hb4, hsz⟩ := box_full (((Below.refl _ _).drew).trans hb)))
      · go_wp2_with fail
        go_meet
        case rel => exact ⟨w6.heap.size, c1, c2, c3, rfl, by simp, by simp, by simp, hSa.toS.alloc _, (((Below.refl _ _).drew).trans hb).alloc hb.size _⟩
      · go_wp2_with fail
        go_meet
        case rel =>
          obtain ⟨e0, e1, e2⟩ := set3_cells (w := w6) (b := w5.heap.size) (o := 0) (x := .bool rv) (y := .int .i64 rn) (z := .slice c1 c2 c3) b0 b1 b2
          exact ⟨w5.heap.size, c1, c2, c3, rfl, e0, e1, e2, (hSa.set3 (b := w5.heap.size) (o := 0) (new_not _ _ _)).toS, set3_below (o := 0) hb4 (Nat.le_refl _)⟩
    case rest =>
      obtain ⟨nb2, c1, c2, c3, rfl, r0, r1, r2, hSr, hb6⟩ := hcut
      generalize wc = w6 at *
      have t0 := grow_cell hb6 _ _ t0'
      have t1 := grow_cell hb6 _ _ t1'
      have t2 := grow_cell hb6 _ _ t2'
      have u0 := grow_cell hb6 _ _ u0'
      have u1 := grow_cell hb6 _ _ u1'
      have u2 := grow_cell hb6 _ _ u2'
      have g0 := grow_cell hb6 _ _ g0'
      have n0' := grow_cell hb6 _ _ n0
      have n1' := grow_cell hb6 _ _ n1
      have n2' := grow_cell hb6 _ _ n2
      have hB6 := below_step hB5 hb6
      have HS6 := hide (HS5.out.below hb6)
      have HU6 := hide (HU5.out.below hb6)
      have HNp6 := hide (HNp5.out.below hb6)
      have HSz6 := hide (HSz.out.below hb6)
      have HSr := hide hSr
      have hm0 : (0 : Int) ≤ (m : Int) := by omega
      have Hat2 : Hid (atT p (rv, rn) rk = some ((yv, yn), l)) := by
        have h := at_put (u := ((yv, yn), l)) Hat.out
        rw [Hq.out] at h
        exact h
      have Hnr : Hid (Fo.len rk ≤ 1000 ∧ Fo.narrow rk) := by
        have h := put_narrow (u := ((yv, yn), l)) hl4 Hn4.out Hat.out hl3 Hn3.out
        rw [Hq.out] at h
        exact h
      clear t0' t1' t2' u0' u1' u2' g0' n0 n1 n2 hB5 HS5 HU5 HNp5 HSz hSr hb6 ne0 ne1 ne3
      have ne0 := World.new_ne w6 _ r0
      have ne3 := World.new_ne w6 _ g0
      go_upto_region 10 with fail
      go_cut [13, 14] (fun s13 s14 wx => ∃ (nb3 : Nat) (d1 : Option Addr) (d2 d3 : Nat), s13 = .pointer (some ⟨nb3, 0, none⟩) ∧ s14 = .bool true ∧ wx.cell? ⟨nb3, 0, none⟩ = some (.bool yv) ∧ wx.cell? ⟨nb3, 1, none⟩ = some (.int .i64 yn) ∧ wx.cell? ⟨nb3, 2, none⟩ = some (.slice d1 d2 d3) ∧ SIn wx l (.slice d1 d2 d3) ∧ Below w6.heap.size w6 wx)
      case first =>
        go_region_held3 (fun w' => w'.cell? ⟨nb2, 0, none⟩ = some (.bool rv) ∧ w'.cell? ⟨nb2, 1, none⟩ = some (.int .i64 rn) ∧ w'.cell? ⟨nb2, 2, none⟩ = some (.slice c1 c2 c3) ∧ w'.cell? ⟨g, m, none⟩ = some (.slice pz pl pc))
          (first
            | go_keep
            | (go_split_ands
               refine ⟨?_, ?_, ?_, ?_⟩
               · exact grow_cell (below_alloc _ _) _ _ (grow_cell hb _ _ r0)
               · exact grow_cell (below_alloc _ _) _ _ (grow_cell hb _ _ r1)
               · exact grow_cell (below_alloc _ _) _ _ (grow_cell hb _ _ r2)
               · exact grow_cell (below_alloc _ _) _ _ (grow_cell hb _ _ g0))
            | (go_split_ands
               refine ⟨?_, ?_, ?_, ?_⟩
               · (refine grow_cell hb _ _ ?_; go_keep)
               · (refine grow_cell hb _ _ ?_; go_keep)
               · (refine grow_cell hb _ _ ?_; go_keep)
               · (refine grow_cell hb _ _ ?_; go_keep)))
          (first
            | (go_at_call 25; refine (at_some Hat2.out ?_ ?_ Hnr.out.1 Hnr.out.2).mono ?_; (exact HSr.out.drew); (exact HNp6.out.drew); rintro e w7 ⟨d1, d2, d3, rfl, hSa, hb⟩)
            | (go_at_call 25; refine (at_some Hat2.out ?_ ?_ Hnr.out.1 Hnr.out.2).mono ?_; (exact (HSr.out.alloc _).drew); (exact (HNp6.out.alloc _).drew); rintro e w7 ⟨d1, d2, d3, rfl, hSa, hb⟩; obtain ⟨b0, b1, b2, bf, hb4, hsz⟩ := box_full (((Below.refl _ _).drew).trans hb)))
        · go_wp2_with fail
          go_meet
          case rel => exact ⟨w7.heap.size, d1, d2, d3, rfl, rfl, by simp, by simp, by simp, hSa.toS.alloc _, (((Below.refl _ _).drew).trans hb).alloc hb.size _⟩
        · go_wp2_with fail
          go_meet
          case rel =>
            obtain ⟨e0, e1, e2⟩ := set3_cells (w := w7) (b := w6.heap.size) (o := 0) (x := .bool yv) (y := .int .i64 yn) (z := .slice d1 d2 d3) b0 b1 b2
            exact ⟨w6.heap.size, d1, d2, d3, rfl, rfl, e0, e1, e2, (hSa.set3 (b := w6.heap.size) (o := 0) (new_not _ _ _)).toS, set3_below (o := 0) hb4 (Nat.le_refl _)⟩
      case rest =>
        obtain ⟨nb3, d1, d2, d3, rfl, rfl, s0, s1, s2, hSn, hb7⟩ := hcut
        generalize wc = w7 at *
        have t0' := grow_cell hb7 _ _ t0
        have t1' := grow_cell hb7 _ _ t1
        have t2' := grow_cell hb7 _ _ t2
        have u0' := grow_cell hb7 _ _ u0
        have u1' := grow_cell hb7 _ _ u1
        have u2' := grow_cell hb7 _ _ u2
        have g0' := grow_cell hb7 _ _ g0
        have n0 := grow_cell hb7 _ _ n0'
        have n1 := grow_cell hb7 _ _ n1'
        have n2 := grow_cell hb7 _ _ n2'
        have r0' := grow_cell hb7 _ _ r0
        have r1' := grow_cell hb7 _ _ r1
        have r2' := grow_cell hb7 _ _ r2
        have hB7 := below_step hB6 hb7
        have HS7 := hide (HS6.out.below hb7)
        have HU7 := hide (HU6.out.below hb7)
        have HNp7 := hide (HNp6.out.below hb7)
        have HSz7 := hide (HSz6.out.below hb7)
        have HSr7 := hide (HSr.out.below hb7)
        have HSn := hide hSn
        have hm0 : (0 : Int) ≤ (m : Int) := by omega
        clear t0 t1 t2 u0 u1 u2 g0 n0' n1' n2' r0 r1 r2 hB6 HS6 HU6 HNp6 HSz6 HSr hSn hb7 ne0 ne3
        obtain ⟨A, hA⟩ : ∃ A, tsz (rv, rn) rk = A := ⟨_, rfl⟩
        obtain ⟨B, hB⟩ : ∃ B, tsz (xv, xn) k = B := ⟨_, rfl⟩
        obtain ⟨C, hC⟩ : ∃ C, tsz (false, zn) zk = C := ⟨_, rfl⟩
        obtain ⟨D, hD⟩ : ∃ D, tsz (yv, yn) l = D := ⟨_, rfl⟩
        have hABCD : A + C = B + D := by
          have h := put_size (u := ((yv, yn), l)) Hat.out
          rw [Hq.out, hA, hB, hC, hD] at h
          exact h
        have hBb : B ≤ 12 := by rw [← hB, Hx.out.2.1]; exact Hx.out.1
        have hDb : D ≤ 12 := by rw [← hD, Hy.out.2.1]; exact Hy.out.1
        have HA := hide hA
        have HBt := hide hB
        have HC := hide hC
        have HD := hide hD
        have Hq2 : Hid (putT p ((rv, rn), rk) ((false, zn), zk) = ((xv, xn), k)) := by
          have h := put_put (u := ((yv, yn), l)) Hat.out
          rw [Hq.out] at h
          exact h
        have hfin : ((A : Int) == (B : Int) - (C : Int) + (D : Int)) = true := by rw [beq_iff_eq]; omega
        have hAb : A ≤ 1000 := by omega
        have hBb2 : B ≤ 1000 := by omega
        have hCb : C ≤ 1000 := by omega
        have hDb2 : D ≤ 1000 := by omega
        have hw1 : IntKind.i64.wrap ((B : Int) - (C : Int)) = (B : Int) - (C : Int) := by rw [IntKind.wrap_i64]; omega
        have hw2 : IntKind.i64.wrap ((B : Int) - (C : Int) + (D : Int)) = (B : Int) - (C : Int) + (D : Int) := by rw [IntKind.wrap_i64]; omega
        have Hnz := hide (atT_narrow hl3 Hn3.out Hat.out)
        have HABCD := hide hABCD
        clear hA hB hC hD hABCD hBb hDb
        go_upto_region 11 with fail
        go_region_held3 (fun w' => w'.cell? ⟨nb, 0, none⟩ = some (.bool false) ∧ w'.cell? ⟨nb, 1, none⟩ = some (.int .i64 zn) ∧ w'.cell? ⟨nb, 2, none⟩ = some (.slice a1 a2 a3) ∧ w'.cell? ⟨nb3, 0, none⟩ = some (.bool yv) ∧ w'.cell? ⟨nb3, 1, none⟩ = some (.int .i64 yn) ∧ w'.cell? ⟨nb3, 2, none⟩ = some (.slice d1 d2 d3)
            ∧ w'.cell? ⟨w.heap.size + 1, 0, none⟩ = some (.bool yv) ∧ w'.cell? ⟨w.heap.size + 1, 1, none⟩ = some (.int .i64 yn) ∧ w'.cell? ⟨w.heap.size + 1, 2, none⟩ = some (.slice ua (Fo.len l) uc) ∧ w'.cell? ⟨nb2, 0, none⟩ = some (.bool rv) ∧ w'.cell? ⟨nb2, 1, none⟩ = some (.int .i64 rn) ∧ w'.cell? ⟨nb2, 2, none⟩ = some (.slice c1 c2 c3)
            ∧ w'.cell? ⟨g, m, none⟩ = some (.slice pz pl pc) ∧ w'.cell? ⟨w.heap.size, 0, none⟩ = some (.bool xv) ∧ w'.cell? ⟨w.heap.size, 1, none⟩ = some (.int .i64 xn) ∧ w'.cell? ⟨w.heap.size, 2, none⟩ = some (.slice ta (Fo.len k) tc))
          (first
            | go_keep
            | (go_split_ands
               refine ⟨?_, ?_, ?_, ?_, ?_, ?_, ?_, ?_, ?_, ?_, ?_, ?_, ?_, ?_, ?_, ?_⟩
               all_goals (refine grow_cell hb _ _ ?_; assumption)))
          (first
            | (go_at_call_of 10 (Value.slice d1 d2 d3); refine (same_is (x := (yv, yn)) (k := l) ?_ ?_).mono ?_; (exact HSn.out.drew); (exact HU7.out.drew); rintro e w8 ⟨rfl, hb⟩; have hc8 : Below w7.heap.size w7 w8 := ((Below.refl _ _).drew).trans hb)
            | (go_at_call 27; refine (put_some Hq2.out ?_ ?_ ?_ Hnr.out.1 Hnr.out.2 Hnz.out.1 Hnz.out.2).mono ?_; (exact HSr7.out.below hc8); (exact HNp7.out.below hc8); (exact HSz7.out.below hc8); rintro e w9 ⟨e1, e2, e3, rfl, hSe, hb⟩; have hc9 := below_step hc8 hb)
            | (go_at_call_of 10 (Value.slice e1 e2 e3); refine (same_is (x := (xv, xn)) (k := k) ?_ ?_).mono ?_; (exact hSe.toS); (exact HS7.out.below hc9); rintro e w10 ⟨rfl, hb⟩; have hc10 := below_step hc9 hb)
            | (go_at_call_of 18 (Value.slice c1 c2 c3); refine (size_is HA.out hAb ?_).mono ?_; (exact HSr7.out.below hc10); rintro e w11 ⟨rfl, hb⟩; have hc11 := below_step hc10 hb)
            | (go_at_call_of 18 (Value.slice ta (Fo.len k) tc); refine (size_is HBt.out hBb2 ?_).mono ?_; (exact HS7.out.below hc11); rintro e w12 ⟨rfl, hb⟩; have hc12 := below_step hc11 hb)
            | (go_at_call_of 18 (Value.slice a1 a2 a3); refine (size_is HC.out hCb ?_).mono ?_; (exact HSz7.out.below hc12); rintro e w13 ⟨rfl, hb⟩; have hc13 := below_step hc12 hb)
            | (go_at_call_of 18 (Value.slice ua (Fo.len l) uc); refine (size_is HD.out hDb2 ?_).mono ?_; (exact HU7.out.below hc13); rintro e w14 ⟨rfl, hb⟩; have hc14 := below_step hc13 hb))
        go_wp2_with fail
        go_ret
        exact ⟨rfl, below_step hB7 hc14⟩

end Go.Proofs.YtegdfnfengnjlaaDoor
