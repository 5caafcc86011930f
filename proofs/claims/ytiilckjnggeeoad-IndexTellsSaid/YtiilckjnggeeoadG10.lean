/- P8b D8d P8c RGen RMore BS -/
import Derived.Test.YtiilckjnggeeoadG09
import Derived.Deep.RegionHeld3
namespace Go.Proofs.Ytiilckjnggeeoad
open Go.RowKit Go.Deep Go.ChangeShapes Go.WideShapes
attribute [local go_sem ↓] Go.wp_at_zero Go.wp_at_succ
set_option maxRecDepth 100000 in
set_option maxHeartbeats 2000000 in
theorem matchP_any8 (a b c x y z : Int) (w : World) :
    Calls Try.prog 25 #[.agg #[.int .i64 a, .int .i64 b, .int .i64 c], .agg #[.int .i64 x, .int .i64 y, .int .i64 z]] w fun e w' => e = .returned (.bool (matK [a, b, c] [x, y, z])) ∧ Below w.heap.size w w' := by
  go_enter Try.func25, Try.ntmps25
  go_upto_region 1 with fail
  generalize hW1 : w.alloc (.cells #[.int .i64 a, .int .i64 b, .int .i64 c] 42) = w1
  generalize hW2 : w1.alloc (.cells #[.int .i64 x, .int .i64 y, .int .i64 z] 42) = w2
  have e1 : w1.heap.size = w.heap.size + 1 := by rw [← hW1]; simp
  have hb1 : Below w.heap.size w w1 := by rw [← hW1]; exact below_alloc _ _
  have hb2 : Below w1.heap.size w1 w2 := by rw [← hW2]; exact below_alloc _ _
  have HA : Hid (∀ k, k < 3 → w2.cell? ⟨w.heap.size, k, none⟩ = some (.int .i64 (nth3 a b c k))) := fun k hk => grow_cell hb2 _ _ (by rw [← hW1]; exact key_cell hk)
  have HX : Hid (∀ k, k < 3 → w2.cell? ⟨w.heap.size + 1, k, none⟩ = some (.int .i64 (nth3 x y z k))) := fun k hk => by rw [← e1, ← hW2]; exact key_cell hk
  have HB := hide (below_step hb1 hb2)
  clear hW1 hW2 hb1 hb2 e1
  go_wp2_with fail
  go_loopw [6] (fun i wr => ∃ j : Nat, j ≤ 3 ∧ i = .int .i64 j ∧ Below w2.heap.size w2 wr ∧ ∀ k, k < j → matN (nth3 a b c k) (nth3 x y z k) = true) (fun i _ => 3 - (intOf i).toNat)
  case atStart => exact ⟨0, Nat.zero_le _, rfl, Below.refl _ _, fun k hk => absurd hk (by omega)⟩
  case round =>
    obtain ⟨j, hj, rfl, hBr, hall⟩ := hrel
    have HBr := hide hBr
    have Hall := hide hall
    clear hall
    by_cases hlt : j < 3
    · have hlt' : (j : Int) < 3 := by omega
      have c1 := grow_cell hBr _ _ (HA.out j hlt)
      have c2 := grow_cell hBr _ _ (HX.out j hlt)
      have hu : Hid (matN (nth3 a b c j) (nth3 x y z j) = false → matK [a, b, c] [x, y, z] = false) := fun h => matK_not hlt h
      have hn : Hid (matN (nth3 a b c j) (nth3 x y z j) = true → ∀ k, k < j + 1 → matN (nth3 a b c k) (nth3 x y z k) = true) := fun h k hk => by
        by_cases e : k = j
        · subst e; exact h
        · exact Hall.out k (by omega)
      clear hBr
      go_upto_region 4 with fail
      generalize nth3 a b c j = X at *
      generalize nth3 x y z j = Y at *
      have hcur : Below wr.heap.size wr wr.drew := (Below.refl _ _).drew
      go_region_held3 (fun w' => w'.cell? ⟨w.heap.size, j, none⟩ = some (.int .i64 X) ∧ w'.cell? ⟨w.heap.size + 1, j, none⟩ = some (.int .i64 Y))
        (first
          | (with_reducible exact ⟨grow_cell hcur _ _ c1, grow_cell hcur _ _ c2⟩)
          | go_keep)
        (first | (go_at_call 58; refine (coversP_any8 _ _ _).mono ?_; rintro e _ ⟨rfl, rfl⟩))
      all_goals
        have HBd := hide (below_step HBr.out hcur)
        clear hcur
        cases hm : matN X Y with
        | true =>
          have Hn := hide (hn.out hm)
          clear hm hn hu
          go_wp2_with fail
          go_roundw
          case rel => exact ⟨j + 1, by omega, by go_num, HBd.out, Hn.out⟩
          case measure => simp [intOf]; omega
        | false =>
          have Hu := hide (hu.out hm)
          clear hm hn hu
          go_wp2_with fail
          refine bodyPost_ret (v := .bool false) ?hha0 ?hhb0 ?hhc0
          case hha0 => exact results_tmp (t := 4) rfl _ _ _
          case hhb0 => rfl
          case hhc0 => exact ⟨by rw [Hu.out], below_step HB.out HBd.out⟩
    · have hall : matK [a, b, c] [x, y, z] = true := matK_all fun k hk => Hall.out k (by omega)
      have Hu := hide hall
      clear hall
      go_wp2_with fail
      refine bodyPost_ret (v := .bool true) ?hha3 ?hhb3 ?hhc3
      case hha3 => exact results_tmp (t := 4) rfl _ _ _
      case hhb3 => rfl
      case hhc3 => exact ⟨by rw [Hu.out], below_step HB.out HBr.out⟩
theorem uni_mat (x y : Int) : uniN x y = (matN x y || matN y x) := by
  have e : (y == x) = (x == y) := by
    by_cases h : x = y
    · subst h; rfl
    · rw [beq_eq_false_iff_ne.2 h, beq_eq_false_iff_ne.2 (fun e => h e.symm)]
  unfold uniN matN
  rw [e]
  cases (x == y) <;> cases (x == -1) <;> cases (y == -1) <;> cases (x == 0) <;> cases (y == 0) <;> simp
structure RU8 (W : World) (b : Nat) (j : Nat) (X Y : Int) (D : Nat → Bool) (w : World) (s9 s10 s11 s12 s13 s14 s15 s16 s17 s18 s19 s20 s21 s22 s23 s24 s25 s26 : Value) : Prop where
  hb : Below W.heap.size W w
  h0 : D 0 = true → s9 = .int .i64 j
  h1 : D 1 = true → s10 = .pointer (some ⟨b, j, none⟩)
  h2 : D 2 = true → s11 = .int .i64 X
  h3 : D 3 = true → s12 = .int .i64 j
  h4 : D 4 = true → s13 = .pointer (some ⟨b + 1, j, none⟩)
  h5 : D 5 = true → s14 = .int .i64 Y
  h6 : D 6 = true → s15 = .bool true
  h7 : D 7 = true → s16 = .bool false
  h8 : D 8 = true → s17 = .bool false
  h9 : True
  h10 : True
  h11 : True
  h12 : True
  h13 : True
  h14 : True
  h15 : True
  h16 : True
  h17 : D 17 = true → s26 = .bool false
section
variable {W : World} {b : Nat} {j : Nat} {X Y : Int} {D : Nat → Bool} {w w' : World} {s9 s10 s11 s12 s13 s14 s15 s16 s17 s18 s19 s20 s21 s22 s23 s24 s25 s26 : Value}
theorem RU8.at0 (h : RU8 W b j X Y D w s9 s10 s11 s12 s13 s14 s15 s16 s17 s18 s19 s20 s21 s22 s23 s24 s25 s26) : RU8 W b j X Y (fun j => j == 0 || D j) w (.int .i64 j) s10 s11 s12 s13 s14 s15 s16 s17 s18 s19 s20 s21 s22 s23 s24 s25 s26 :=
  ⟨h.hb, fun _ => rfl, h.h1, h.h2, h.h3, h.h4, h.h5, h.h6, h.h7, h.h8, h.h9, h.h10, h.h11, h.h12, h.h13, h.h14, h.h15, h.h16, h.h17⟩
theorem RU8.at1 (h : RU8 W b j X Y D w s9 s10 s11 s12 s13 s14 s15 s16 s17 s18 s19 s20 s21 s22 s23 s24 s25 s26) : RU8 W b j X Y (fun j => j == 1 || D j) w s9 (.pointer (some ⟨b, j, none⟩)) s11 s12 s13 s14 s15 s16 s17 s18 s19 s20 s21 s22 s23 s24 s25 s26 :=
  ⟨h.hb, h.h0, fun _ => rfl, h.h2, h.h3, h.h4, h.h5, h.h6, h.h7, h.h8, h.h9, h.h10, h.h11, h.h12, h.h13, h.h14, h.h15, h.h16, h.h17⟩
theorem RU8.at2 (h : RU8 W b j X Y D w s9 s10 s11 s12 s13 s14 s15 s16 s17 s18 s19 s20 s21 s22 s23 s24 s25 s26) : RU8 W b j X Y (fun j => j == 2 || D j) w s9 s10 (.int .i64 X) s12 s13 s14 s15 s16 s17 s18 s19 s20 s21 s22 s23 s24 s25 s26 :=
  ⟨h.hb, h.h0, h.h1, fun _ => rfl, h.h3, h.h4, h.h5, h.h6, h.h7, h.h8, h.h9, h.h10, h.h11, h.h12, h.h13, h.h14, h.h15, h.h16, h.h17⟩
theorem RU8.at3 (h : RU8 W b j X Y D w s9 s10 s11 s12 s13 s14 s15 s16 s17 s18 s19 s20 s21 s22 s23 s24 s25 s26) : RU8 W b j X Y (fun j => j == 3 || D j) w s9 s10 s11 (.int .i64 j) s13 s14 s15 s16 s17 s18 s19 s20 s21 s22 s23 s24 s25 s26 :=
  ⟨h.hb, h.h0, h.h1, h.h2, fun _ => rfl, h.h4, h.h5, h.h6, h.h7, h.h8, h.h9, h.h10, h.h11, h.h12, h.h13, h.h14, h.h15, h.h16, h.h17⟩
theorem RU8.at4 (h : RU8 W b j X Y D w s9 s10 s11 s12 s13 s14 s15 s16 s17 s18 s19 s20 s21 s22 s23 s24 s25 s26) : RU8 W b j X Y (fun j => j == 4 || D j) w s9 s10 s11 s12 (.pointer (some ⟨b + 1, j, none⟩)) s14 s15 s16 s17 s18 s19 s20 s21 s22 s23 s24 s25 s26 :=
  ⟨h.hb, h.h0, h.h1, h.h2, h.h3, fun _ => rfl, h.h5, h.h6, h.h7, h.h8, h.h9, h.h10, h.h11, h.h12, h.h13, h.h14, h.h15, h.h16, h.h17⟩
theorem RU8.at5 (h : RU8 W b j X Y D w s9 s10 s11 s12 s13 s14 s15 s16 s17 s18 s19 s20 s21 s22 s23 s24 s25 s26) : RU8 W b j X Y (fun j => j == 5 || D j) w s9 s10 s11 s12 s13 (.int .i64 Y) s15 s16 s17 s18 s19 s20 s21 s22 s23 s24 s25 s26 :=
  ⟨h.hb, h.h0, h.h1, h.h2, h.h3, h.h4, fun _ => rfl, h.h6, h.h7, h.h8, h.h9, h.h10, h.h11, h.h12, h.h13, h.h14, h.h15, h.h16, h.h17⟩
theorem RU8.at6 (h : RU8 W b j X Y D w s9 s10 s11 s12 s13 s14 s15 s16 s17 s18 s19 s20 s21 s22 s23 s24 s25 s26) : RU8 W b j X Y (fun j => j == 6 || D j) w s9 s10 s11 s12 s13 s14 (.bool true) s16 s17 s18 s19 s20 s21 s22 s23 s24 s25 s26 :=
  ⟨h.hb, h.h0, h.h1, h.h2, h.h3, h.h4, h.h5, fun _ => rfl, h.h7, h.h8, h.h9, h.h10, h.h11, h.h12, h.h13, h.h14, h.h15, h.h16, h.h17⟩
theorem RU8.at7 (h : RU8 W b j X Y D w s9 s10 s11 s12 s13 s14 s15 s16 s17 s18 s19 s20 s21 s22 s23 s24 s25 s26) : RU8 W b j X Y (fun j => j == 7 || D j) w s9 s10 s11 s12 s13 s14 s15 (.bool false) s17 s18 s19 s20 s21 s22 s23 s24 s25 s26 :=
  ⟨h.hb, h.h0, h.h1, h.h2, h.h3, h.h4, h.h5, h.h6, fun _ => rfl, h.h8, h.h9, h.h10, h.h11, h.h12, h.h13, h.h14, h.h15, h.h16, h.h17⟩
theorem RU8.at8 (h : RU8 W b j X Y D w s9 s10 s11 s12 s13 s14 s15 s16 s17 s18 s19 s20 s21 s22 s23 s24 s25 s26) : RU8 W b j X Y (fun j => j == 8 || D j) w s9 s10 s11 s12 s13 s14 s15 s16 (.bool false) s18 s19 s20 s21 s22 s23 s24 s25 s26 :=
  ⟨h.hb, h.h0, h.h1, h.h2, h.h3, h.h4, h.h5, h.h6, h.h7, fun _ => rfl, h.h9, h.h10, h.h11, h.h12, h.h13, h.h14, h.h15, h.h16, h.h17⟩
theorem RU8.at9 (h : RU8 W b j X Y D w s9 s10 s11 s12 s13 s14 s15 s16 s17 s18 s19 s20 s21 s22 s23 s24 s25 s26) : RU8 W b j X Y (fun j => j == 9 || D j) w s9 s10 s11 s12 s13 s14 s15 s16 s17 (undef) s19 s20 s21 s22 s23 s24 s25 s26 :=
  ⟨h.hb, h.h0, h.h1, h.h2, h.h3, h.h4, h.h5, h.h6, h.h7, h.h8, trivial, h.h10, h.h11, h.h12, h.h13, h.h14, h.h15, h.h16, h.h17⟩
theorem RU8.at10 (h : RU8 W b j X Y D w s9 s10 s11 s12 s13 s14 s15 s16 s17 s18 s19 s20 s21 s22 s23 s24 s25 s26) : RU8 W b j X Y (fun j => j == 10 || D j) w s9 s10 s11 s12 s13 s14 s15 s16 s17 s18 (undef) s20 s21 s22 s23 s24 s25 s26 :=
  ⟨h.hb, h.h0, h.h1, h.h2, h.h3, h.h4, h.h5, h.h6, h.h7, h.h8, h.h9, trivial, h.h11, h.h12, h.h13, h.h14, h.h15, h.h16, h.h17⟩
theorem RU8.at11 (h : RU8 W b j X Y D w s9 s10 s11 s12 s13 s14 s15 s16 s17 s18 s19 s20 s21 s22 s23 s24 s25 s26) : RU8 W b j X Y (fun j => j == 11 || D j) w s9 s10 s11 s12 s13 s14 s15 s16 s17 s18 s19 (undef) s21 s22 s23 s24 s25 s26 :=
  ⟨h.hb, h.h0, h.h1, h.h2, h.h3, h.h4, h.h5, h.h6, h.h7, h.h8, h.h9, h.h10, trivial, h.h12, h.h13, h.h14, h.h15, h.h16, h.h17⟩
theorem RU8.at12 (h : RU8 W b j X Y D w s9 s10 s11 s12 s13 s14 s15 s16 s17 s18 s19 s20 s21 s22 s23 s24 s25 s26) : RU8 W b j X Y (fun j => j == 12 || D j) w s9 s10 s11 s12 s13 s14 s15 s16 s17 s18 s19 s20 (undef) s22 s23 s24 s25 s26 :=
  ⟨h.hb, h.h0, h.h1, h.h2, h.h3, h.h4, h.h5, h.h6, h.h7, h.h8, h.h9, h.h10, h.h11, trivial, h.h13, h.h14, h.h15, h.h16, h.h17⟩
theorem RU8.at13 (h : RU8 W b j X Y D w s9 s10 s11 s12 s13 s14 s15 s16 s17 s18 s19 s20 s21 s22 s23 s24 s25 s26) : RU8 W b j X Y (fun j => j == 13 || D j) w s9 s10 s11 s12 s13 s14 s15 s16 s17 s18 s19 s20 s21 (undef) s23 s24 s25 s26 :=
  ⟨h.hb, h.h0, h.h1, h.h2, h.h3, h.h4, h.h5, h.h6, h.h7, h.h8, h.h9, h.h10, h.h11, h.h12, trivial, h.h14, h.h15, h.h16, h.h17⟩
theorem RU8.at14 (h : RU8 W b j X Y D w s9 s10 s11 s12 s13 s14 s15 s16 s17 s18 s19 s20 s21 s22 s23 s24 s25 s26) : RU8 W b j X Y (fun j => j == 14 || D j) w s9 s10 s11 s12 s13 s14 s15 s16 s17 s18 s19 s20 s21 s22 (undef) s24 s25 s26 :=
  ⟨h.hb, h.h0, h.h1, h.h2, h.h3, h.h4, h.h5, h.h6, h.h7, h.h8, h.h9, h.h10, h.h11, h.h12, h.h13, trivial, h.h15, h.h16, h.h17⟩
theorem RU8.at15 (h : RU8 W b j X Y D w s9 s10 s11 s12 s13 s14 s15 s16 s17 s18 s19 s20 s21 s22 s23 s24 s25 s26) : RU8 W b j X Y (fun j => j == 15 || D j) w s9 s10 s11 s12 s13 s14 s15 s16 s17 s18 s19 s20 s21 s22 s23 (undef) s25 s26 :=
  ⟨h.hb, h.h0, h.h1, h.h2, h.h3, h.h4, h.h5, h.h6, h.h7, h.h8, h.h9, h.h10, h.h11, h.h12, h.h13, h.h14, trivial, h.h16, h.h17⟩
theorem RU8.at16 (h : RU8 W b j X Y D w s9 s10 s11 s12 s13 s14 s15 s16 s17 s18 s19 s20 s21 s22 s23 s24 s25 s26) : RU8 W b j X Y (fun j => j == 16 || D j) w s9 s10 s11 s12 s13 s14 s15 s16 s17 s18 s19 s20 s21 s22 s23 s24 (undef) s26 :=
  ⟨h.hb, h.h0, h.h1, h.h2, h.h3, h.h4, h.h5, h.h6, h.h7, h.h8, h.h9, h.h10, h.h11, h.h12, h.h13, h.h14, h.h15, trivial, h.h17⟩
theorem RU8.at17 (h : RU8 W b j X Y D w s9 s10 s11 s12 s13 s14 s15 s16 s17 s18 s19 s20 s21 s22 s23 s24 s25 s26) : RU8 W b j X Y (fun j => j == 17 || D j) w s9 s10 s11 s12 s13 s14 s15 s16 s17 s18 s19 s20 s21 s22 s23 s24 s25 (.bool false) :=
  ⟨h.hb, h.h0, h.h1, h.h2, h.h3, h.h4, h.h5, h.h6, h.h7, h.h8, h.h9, h.h10, h.h11, h.h12, h.h13, h.h14, h.h15, h.h16, fun _ => rfl⟩
theorem RU8.start (h : Below W.heap.size W w) : RU8 W b j X Y (fun _ => false) w s9 s10 s11 s12 s13 s14 s15 s16 s17 s18 s19 s20 s21 s22 s23 s24 s25 s26 :=
  ⟨h, fun e => (by cases e), fun e => (by cases e), fun e => (by cases e), fun e => (by cases e), fun e => (by cases e), fun e => (by cases e), fun e => (by cases e), fun e => (by cases e), fun e => (by cases e), trivial, trivial, trivial, trivial, trivial, trivial, trivial, trivial, fun e => (by cases e)⟩
end
set_option maxRecDepth 100000 in
set_option maxHeartbeats 2000000 in
theorem unifyP_any8 (ka kb kc x y z : Int) (w : World) :
    Calls Try.prog 23 #[.agg #[.int .i64 ka, .int .i64 kb, .int .i64 kc], .agg #[.int .i64 x, .int .i64 y, .int .i64 z]] w fun e w' => e = .returned (.bool (uniK [ka, kb, kc] [x, y, z])) ∧ Below w.heap.size w w' := by
  go_enter Try.func23, Try.ntmps23
  go_upto_region 1 with fail
  generalize hW1 : w.alloc (.cells #[.int .i64 ka, .int .i64 kb, .int .i64 kc] 42) = w1
  generalize hW2 : w1.alloc (.cells #[.int .i64 x, .int .i64 y, .int .i64 z] 42) = w2
  have e1 : w1.heap.size = w.heap.size + 1 := by rw [← hW1]; simp
  have hb1 : Below w.heap.size w w1 := by rw [← hW1]; exact below_alloc _ _
  have hb2 : Below w1.heap.size w1 w2 := by rw [← hW2]; exact below_alloc _ _
  have HA : Hid (∀ k, k < 3 → w2.cell? ⟨w.heap.size, k, none⟩ = some (.int .i64 (nth3 ka kb kc k))) := fun k hk => grow_cell hb2 _ _ (by rw [← hW1]; exact key_cell hk)
  have HX : Hid (∀ k, k < 3 → w2.cell? ⟨w.heap.size + 1, k, none⟩ = some (.int .i64 (nth3 x y z k))) := fun k hk => by rw [← e1, ← hW2]; exact key_cell hk
  have HB := hide (below_step hb1 hb2)
  clear hW1 hW2 hb1 hb2 e1
  go_wp2_with fail
  go_loopw [6] (fun i wr => ∃ j : Nat, j ≤ 3 ∧ i = .int .i64 j ∧ Below w2.heap.size w2 wr ∧ ∀ k, k < j → uniN (nth3 ka kb kc k) (nth3 x y z k) = true) (fun i _ => 3 - (intOf i).toNat)
  case atStart => exact ⟨0, Nat.zero_le _, rfl, Below.refl _ _, fun k hk => absurd hk (by omega)⟩
  case round =>
    obtain ⟨j, hj, rfl, hBr, hall⟩ := hrel
    have HBr := hide hBr
    have Hall := hide hall
    clear hall
    by_cases hlt : j < 3
    · have hlt' : (j : Int) < 3 := by omega
      have c1 := grow_cell hBr _ _ (HA.out j hlt)
      have c2 := grow_cell hBr _ _ (HX.out j hlt)
      have hu : Hid (uniN (nth3 ka kb kc j) (nth3 x y z j) = false → uniK [ka, kb, kc] [x, y, z] = false) := fun h => uniK_not hlt h
      have hn : Hid (uniN (nth3 ka kb kc j) (nth3 x y z j) = true → ∀ k, k < j + 1 → uniN (nth3 ka kb kc k) (nth3 x y z k) = true) := fun h k hk => by
        by_cases e : k = j
        · subst e; exact h
        · exact Hall.out k (by omega)
      clear hBr
      go_upto_region 4 with fail
      generalize nth3 ka kb kc j = X at *
      generalize nth3 x y z j = Y at *
      cases hm : matN X Y with
      | true =>
        have Hn := hide (hn.out (by rw [uni_mat, hm]; rfl))
        have Hc : Hid (∀ w', Calls Try.prog 58 #[.int .i64 X, .int .i64 Y] w' fun e w'' => e = .returned (.bool true) ∧ w'' = w') := fun w' => by
          have h := coversP_any8 X Y w'
          rw [hm] at h
          exact h
        clear hn hu hm
        refine region_inv (fun D a w' => ∃ s9 s10 s11 s12 s13 s14 s15 s16 s17 s18 s19 s20 s21 s22 s23 s24 s25 s26 : Value, a = ⟨#[.agg #[.int .i64 ka, .int .i64 kb, .int .i64 kc], .agg #[.int .i64 x, .int .i64 y, .int .i64 z], .pointer (some ⟨w.heap.size, 0, none⟩), .pointer (some ⟨w.heap.size + 1, 0, none⟩), u4, .int .i64 j, .int .i64 j, .bool true, .int .i64 j, s9, s10, s11, s12, s13, s14, s15, s16, s17, s18, s19, s20, s21, s22, s23, s24, s25, s26, u27], []⟩ ∧ RU8 wr w.heap.size j X Y D w' s9 s10 s11 s12 s13 s14 s15 s16 s17 s18 s19 s20 s21 s22 s23 s24 s25 s26) (by kernel_rfl) (by kernel_rfl) ?_ ?_ ⟨_, _, _, _, _, _, _, _, _, _, _, _, _, _, _, _, _, _, rfl, RU8.start (Below.refl _ _).drew⟩
        · rintro D a w' i o hi ⟨s9, s10, s11, s12, s13, s14, s15, s16, s17, s18, s19, s20, s21, s22, s23, s24, s25, s26, rfl, hI⟩ hD ho hdep
          have HI := hide hI
          replace c1 := grow_cell hI.hb _ _ c1
          replace c2 := grow_cell hI.hb _ _ c2
          clear hI
          have hi' : i < 18 := hi
          clear hi
          rcases (by omega : i = 0 ∨ i = 1 ∨ i = 2 ∨ i = 3 ∨ i = 4 ∨ i = 5 ∨ i = 6 ∨ i = 7 ∨ i = 8 ∨ i = 9 ∨ i = 10 ∨ i = 11 ∨ i = 12 ∨ i = 13 ∨ i = 14 ∨ i = 15 ∨ i = 16 ∨ i = 17) with rfl | rfl | rfl | rfl | rfl | rfl | rfl | rfl | rfl | rfl | rfl | rfl | rfl | rfl | rfl | rfl | rfl | rfl
          · obtain rfl := Option.some.inj ho
            clear ho hdep hD
            refine wpOp_step rfl (fun K hK => ?_)
            go_simp
            exact hK _ _ ⟨_, _, _, _, _, _, _, _, _, _, _, _, _, _, _, _, _, _, rfl, HI.out.at0⟩
          · obtain rfl := Option.some.inj ho
            have d0 := HI.out.h0 (hdep ⟨0, .data⟩ (by simp) rfl)
            subst d0
            clear ho hdep hD
            refine wpOp_step rfl (fun K hK => ?_)
            go_simp
            exact hK _ _ ⟨_, _, _, _, _, _, _, _, _, _, _, _, _, _, _, _, _, _, rfl, HI.out.at1⟩
          · obtain rfl := Option.some.inj ho
            have d1 := HI.out.h1 (hdep ⟨1, .data⟩ (by simp) rfl)
            subst d1
            clear ho hdep hD
            refine wpOp_step rfl (fun K hK => ?_)
            go_simp
            exact hK _ _ ⟨_, _, _, _, _, _, _, _, _, _, _, _, _, _, _, _, _, _, rfl, HI.out.at2⟩
          · obtain rfl := Option.some.inj ho
            clear ho hdep hD
            refine wpOp_step rfl (fun K hK => ?_)
            go_simp
            exact hK _ _ ⟨_, _, _, _, _, _, _, _, _, _, _, _, _, _, _, _, _, _, rfl, HI.out.at3⟩
          · obtain rfl := Option.some.inj ho
            have d3 := HI.out.h3 (hdep ⟨3, .data⟩ (by simp) rfl)
            subst d3
            clear ho hdep hD
            refine wpOp_step rfl (fun K hK => ?_)
            go_simp
            exact hK _ _ ⟨_, _, _, _, _, _, _, _, _, _, _, _, _, _, _, _, _, _, rfl, HI.out.at4⟩
          · obtain rfl := Option.some.inj ho
            have d4 := HI.out.h4 (hdep ⟨4, .data⟩ (by simp) rfl)
            subst d4
            clear ho hdep hD
            refine wpOp_step rfl (fun K hK => ?_)
            go_simp
            exact hK _ _ ⟨_, _, _, _, _, _, _, _, _, _, _, _, _, _, _, _, _, _, rfl, HI.out.at5⟩
          · obtain rfl := Option.some.inj ho
            have d2 := HI.out.h2 (hdep ⟨2, .data⟩ (by simp) rfl)
            subst d2
            have d5 := HI.out.h5 (hdep ⟨5, .data⟩ (by simp) rfl)
            subst d5
            clear ho hdep hD
            refine wpOp_step rfl (fun K hK => ?_)
            go_simp
            refine (Hc.out _).mono ?_
            rintro e _ ⟨rfl, rfl⟩
            exact hK _ _ ⟨_, _, _, _, _, _, _, _, _, _, _, _, _, _, _, _, _, _, rfl, HI.out.at6⟩
          · obtain rfl := Option.some.inj ho
            have d6 := HI.out.h6 (hdep ⟨6, .data⟩ (by simp) rfl)
            subst d6
            clear ho hdep hD
            refine wpOp_step rfl (fun K hK => ?_)
            go_simp
            exact hK _ _ ⟨_, _, _, _, _, _, _, _, _, _, _, _, _, _, _, _, _, _, rfl, HI.out.at7⟩
          · obtain rfl := Option.some.inj ho
            have d7 := HI.out.h7 (hdep ⟨7, .data⟩ (by simp) rfl)
            subst d7
            clear ho hdep hD
            refine wpOp_step rfl (fun K hK => ?_)
            go_simp
            exact hK _ _ ⟨_, _, _, _, _, _, _, _, _, _, _, _, _, _, _, _, _, _, rfl, HI.out.at8⟩
          · obtain rfl := Option.some.inj ho
            have d8 := HI.out.h8 (hdep ⟨8, .guard⟩ (by simp) rfl)
            subst d8
            clear ho hdep hD
            refine wpOp_step rfl (fun K hK => ?_)
            go_simp
            exact hK _ _ ⟨_, _, _, _, _, _, _, _, _, _, _, _, _, _, _, _, _, _, rfl, HI.out.at9⟩
          · obtain rfl := Option.some.inj ho
            have d8 := HI.out.h8 (hdep ⟨8, .guard⟩ (by simp) rfl)
            subst d8
            clear ho hdep hD
            refine wpOp_step rfl (fun K hK => ?_)
            go_simp
            exact hK _ _ ⟨_, _, _, _, _, _, _, _, _, _, _, _, _, _, _, _, _, _, rfl, HI.out.at10⟩
          · obtain rfl := Option.some.inj ho
            have d8 := HI.out.h8 (hdep ⟨8, .guard⟩ (by simp) rfl)
            subst d8
            clear ho hdep hD
            refine wpOp_step rfl (fun K hK => ?_)
            go_simp
            exact hK _ _ ⟨_, _, _, _, _, _, _, _, _, _, _, _, _, _, _, _, _, _, rfl, HI.out.at11⟩
          · obtain rfl := Option.some.inj ho
            have d8 := HI.out.h8 (hdep ⟨8, .guard⟩ (by simp) rfl)
            subst d8
            clear ho hdep hD
            refine wpOp_step rfl (fun K hK => ?_)
            go_simp
            exact hK _ _ ⟨_, _, _, _, _, _, _, _, _, _, _, _, _, _, _, _, _, _, rfl, HI.out.at12⟩
          · obtain rfl := Option.some.inj ho
            have d8 := HI.out.h8 (hdep ⟨8, .guard⟩ (by simp) rfl)
            subst d8
            clear ho hdep hD
            refine wpOp_step rfl (fun K hK => ?_)
            go_simp
            exact hK _ _ ⟨_, _, _, _, _, _, _, _, _, _, _, _, _, _, _, _, _, _, rfl, HI.out.at13⟩
          · obtain rfl := Option.some.inj ho
            have d8 := HI.out.h8 (hdep ⟨8, .guard⟩ (by simp) rfl)
            subst d8
            clear ho hdep hD
            refine wpOp_step rfl (fun K hK => ?_)
            go_simp
            exact hK _ _ ⟨_, _, _, _, _, _, _, _, _, _, _, _, _, _, _, _, _, _, rfl, HI.out.at14⟩
          · obtain rfl := Option.some.inj ho
            have d8 := HI.out.h8 (hdep ⟨8, .guard⟩ (by simp) rfl)
            subst d8
            clear ho hdep hD
            refine wpOp_step rfl (fun K hK => ?_)
            go_simp
            exact hK _ _ ⟨_, _, _, _, _, _, _, _, _, _, _, _, _, _, _, _, _, _, rfl, HI.out.at15⟩
          · obtain rfl := Option.some.inj ho
            have d8 := HI.out.h8 (hdep ⟨8, .guard⟩ (by simp) rfl)
            subst d8
            clear ho hdep hD
            refine wpOp_step rfl (fun K hK => ?_)
            go_simp
            exact hK _ _ ⟨_, _, _, _, _, _, _, _, _, _, _, _, _, _, _, _, _, _, rfl, HI.out.at16⟩
          · obtain rfl := Option.some.inj ho
            have d8 := HI.out.h8 (hdep ⟨8, .data⟩ (by simp) rfl)
            subst d8
            clear ho hdep hD
            refine wpOp_step rfl (fun K hK => ?_)
            go_simp
            exact hK _ _ ⟨_, _, _, _, _, _, _, _, _, _, _, _, _, _, _, _, _, _, rfl, HI.out.at17⟩
        · rintro D a w' ⟨s9, s10, s11, s12, s13, s14, s15, s16, s17, s18, s19, s20, s21, s22, s23, s24, s25, s26, rfl, hI⟩ hall
          have h17 := hI.h17 (hall 17 (by decide))
          subst h17
          have HBd := hide (below_step HBr.out hI.hb)
          clear hI hall c1 c2
          go_wp2_with fail
          go_roundw
          case rel => exact ⟨j + 1, by omega, by go_num, HBd.out, Hn.out⟩
          case measure => simp [intOf]; omega
      | false =>
        have Hc : Hid (∀ w', Calls Try.prog 58 #[.int .i64 X, .int .i64 Y] w' fun e w'' => e = .returned (.bool false) ∧ w'' = w') := fun w' => by
          have h := coversP_any8 X Y w'
          rw [hm] at h
          exact h
        have Hu2 : Hid (uniN X Y = matN Y X) := by rw [Hid, uni_mat, hm]; rfl
        have Hc2 : Hid (∀ w', Calls Try.prog 58 #[.int .i64 Y, .int .i64 X] w' fun e w'' => e = .returned (.bool (matN Y X)) ∧ w'' = w') := fun w' => coversP_any8 Y X w'
        generalize matN Y X = m2 at *
        clear hm
        have hcur : Below wr.heap.size wr wr.drew := (Below.refl _ _).drew
        go_region_held3 (fun w' => w'.cell? ⟨w.heap.size, j, none⟩ = some (.int .i64 X) ∧ w'.cell? ⟨w.heap.size + 1, j, none⟩ = some (.int .i64 Y))
          (first
            | (with_reducible exact ⟨grow_cell hcur _ _ c1, grow_cell hcur _ _ c2⟩)
            | go_keep)
          (first
            | (go_at_call 58; with_reducible refine (Hc.out _).mono ?_; rintro e _ ⟨rfl, rfl⟩)
            | (go_at_call 58; with_reducible refine (Hc2.out _).mono ?_; rintro e _ ⟨rfl, rfl⟩))
        all_goals
          have HBd := hide (below_step HBr.out hcur)
          clear hcur
          cases m2 with
          | true =>
            have Hn := hide (hn.out Hu2.out)
            clear hn hu
            go_wp2_with fail
            go_roundw
            case rel => exact ⟨j + 1, by omega, by go_num, HBd.out, Hn.out⟩
            case measure => simp [intOf]; omega
          | false =>
            have Hu := hide (hu.out Hu2.out)
            clear hn hu
            go_wp2_with fail
            refine bodyPost_ret (v := .bool false) ?hha1 ?hhb1 ?hhc1
            case hha1 => exact results_tmp (t := 4) rfl _ _ _
            case hhb1 => rfl
            case hhc1 => exact ⟨by rw [Hu.out], below_step HB.out HBd.out⟩
    · have hall : uniK [ka, kb, kc] [x, y, z] = true := uniK_all fun k hk => Hall.out k (by omega)
      have Hu := hide hall
      clear hall
      go_wp2_with fail
      refine bodyPost_ret (v := .bool true) ?hha3 ?hhb3 ?hhc3
      case hha3 => exact results_tmp (t := 4) rfl _ _ _
      case hhb3 => rfl
      case hhc3 => exact ⟨by rw [Hu.out], below_step HB.out HBr.out⟩
end Go.Proofs.Ytiilckjnggeeoad

namespace Go.Proofs.Ytiilckjnggeeoad
open Go.RowKit Go.Deep Go.ChangeShapes Go.WideShapes
attribute [local go_sem ↓] Go.wp_at_zero Go.wp_at_succ
structure RKd (W : World) (bx rb : Nat) (xv : Bool) (xn : Int) (k : Fo) (a : Value) (D : Nat → Bool) (w : World) (s3 s4 s5 s6 s7 s8 s9 s10 s11 : Value) : Prop where
  hb : KW W bx rb (.bool xv) (.int .i64 xn) a w
  h0 : D 0 = true → s3 = .agg #[.bool xv, .int .i64 xn, a]
  h1 : D 1 = true → s4 = .int .i64 (mkT ((xv, xn), k))
  h2 : D 2 = true → s5 = .agg #[.bool xv, .int .i64 xn, a]
  h3 : D 3 = true → NIn w [0] s6 ∧ ∃ q, s6 = .slice (some ⟨q, 0, none⟩) 1 1 ∧ q ≠ rb
  h4 : D 4 = true → s7 = .int .i64 (mkA ((xv, xn), k) 0)
  h5 : D 5 = true → s8 = .agg #[.bool xv, .int .i64 xn, a]
  h6 : D 6 = true → NIn w [1] s9 ∧ ∃ q, s9 = .slice (some ⟨q, 0, none⟩) 1 1 ∧ q ≠ rb
  h7 : D 7 = true → s10 = .int .i64 (mkA ((xv, xn), k) 1)
  h8 : D 8 = true → s11 = .agg #[.int .i64 (mkT ((xv, xn), k)), .int .i64 (mkA ((xv, xn), k) 0), .int .i64 (mkA ((xv, xn), k) 1)]
  h9 : D 9 = true → B3 w rb (.int .i64 (mkT ((xv, xn), k))) (.int .i64 (mkA ((xv, xn), k) 0)) (.int .i64 (mkA ((xv, xn), k) 1))
section
variable {W : World} {bx rb : Nat} {xv : Bool} {xn : Int} {k : Fo} {a : Value} {D : Nat → Bool} {w w' : World} {s3 s4 s5 s6 s7 s8 s9 s10 s11 : Value}
theorem RKd.step (h : RKd W bx rb xv xn k a D w s3 s4 s5 s6 s7 s8 s9 s10 s11) (hb : Below w.heap.size w w') : RKd W bx rb xv xn k a D w' s3 s4 s5 s6 s7 s8 s9 s10 s11 :=
  ⟨h.hb.below hb, h.h0, h.h1, h.h2, fun e => ⟨(h.h3 e).1.below hb, (h.h3 e).2⟩, h.h4, h.h5, fun e => ⟨(h.h6 e).1.below hb, (h.h6 e).2⟩, h.h7, h.h8, fun e => (h.h9 e).below hb⟩
theorem RKd.at0 (h : RKd W bx rb xv xn k a D w s3 s4 s5 s6 s7 s8 s9 s10 s11) : RKd W bx rb xv xn k a (fun j => j == 0 || D j) w (.agg #[.bool xv, .int .i64 xn, a]) s4 s5 s6 s7 s8 s9 s10 s11 :=
  ⟨h.hb, fun _ => rfl, h.h1, h.h2, h.h3, h.h4, h.h5, h.h6, h.h7, h.h8, h.h9⟩
theorem RKd.at1 (h : RKd W bx rb xv xn k a D w s3 s4 s5 s6 s7 s8 s9 s10 s11) : RKd W bx rb xv xn k a (fun j => j == 1 || D j) w s3 (.int .i64 (mkT ((xv, xn), k))) s5 s6 s7 s8 s9 s10 s11 :=
  ⟨h.hb, h.h0, fun _ => rfl, h.h2, h.h3, h.h4, h.h5, h.h6, h.h7, h.h8, h.h9⟩
theorem RKd.at2 (h : RKd W bx rb xv xn k a D w s3 s4 s5 s6 s7 s8 s9 s10 s11) : RKd W bx rb xv xn k a (fun j => j == 2 || D j) w s3 s4 (.agg #[.bool xv, .int .i64 xn, a]) s6 s7 s8 s9 s10 s11 :=
  ⟨h.hb, h.h0, h.h1, fun _ => rfl, h.h3, h.h4, h.h5, h.h6, h.h7, h.h8, h.h9⟩
theorem RKd.at3 (h : RKd W bx rb xv xn k a D w s3 s4 s5 s6 s7 s8 s9 s10 s11) : RKd W bx rb xv xn k a (fun j => j == 3 || D j) (w.alloc (.cells #[.int .i64 0] 3)) s3 s4 s5 (.slice (some ⟨w.heap.size, 0, none⟩) 1 1) s7 s8 s9 s10 s11 := by
  have h' := h.step (below_alloc w (.cells #[.int .i64 0] 3))
  have hlt : w.heap.size ≠ rb := by
    obtain ⟨-, -, u, v, z, h3⟩ := h.hb
    have := h3.lt
    omega
  exact ⟨h'.hb, h'.h0, h'.h1, h'.h2, fun _ => ⟨nin_lit (w := w) [0] (by decide) (by decide) 3, _, rfl, hlt⟩, h'.h4, h'.h5, h'.h6, h'.h7, h'.h8, h'.h9⟩
theorem RKd.at4 (h : RKd W bx rb xv xn k a D w s3 s4 s5 s6 s7 s8 s9 s10 s11) : RKd W bx rb xv xn k a (fun j => j == 4 || D j) w s3 s4 s5 s6 (.int .i64 (mkA ((xv, xn), k) 0)) s8 s9 s10 s11 :=
  ⟨h.hb, h.h0, h.h1, h.h2, h.h3, fun _ => rfl, h.h5, h.h6, h.h7, h.h8, h.h9⟩
theorem RKd.at5 (h : RKd W bx rb xv xn k a D w s3 s4 s5 s6 s7 s8 s9 s10 s11) : RKd W bx rb xv xn k a (fun j => j == 5 || D j) w s3 s4 s5 s6 s7 (.agg #[.bool xv, .int .i64 xn, a]) s9 s10 s11 :=
  ⟨h.hb, h.h0, h.h1, h.h2, h.h3, h.h4, fun _ => rfl, h.h6, h.h7, h.h8, h.h9⟩
theorem RKd.at6 (h : RKd W bx rb xv xn k a D w s3 s4 s5 s6 s7 s8 s9 s10 s11) : RKd W bx rb xv xn k a (fun j => j == 6 || D j) (w.alloc (.cells #[.int .i64 1] 3)) s3 s4 s5 s6 s7 s8 (.slice (some ⟨w.heap.size, 0, none⟩) 1 1) s10 s11 := by
  have h' := h.step (below_alloc w (.cells #[.int .i64 1] 3))
  have hlt : w.heap.size ≠ rb := by
    obtain ⟨-, -, u, v, z, h3⟩ := h.hb
    have := h3.lt
    omega
  exact ⟨h'.hb, h'.h0, h'.h1, h'.h2, h'.h3, h'.h4, h'.h5, fun _ => ⟨nin_lit (w := w) [1] (by decide) (by decide) 3, _, rfl, hlt⟩, h'.h7, h'.h8, h'.h9⟩
theorem RKd.at7 (h : RKd W bx rb xv xn k a D w s3 s4 s5 s6 s7 s8 s9 s10 s11) : RKd W bx rb xv xn k a (fun j => j == 7 || D j) w s3 s4 s5 s6 s7 s8 s9 (.int .i64 (mkA ((xv, xn), k) 1)) s11 :=
  ⟨h.hb, h.h0, h.h1, h.h2, h.h3, h.h4, h.h5, h.h6, fun _ => rfl, h.h8, h.h9⟩
theorem RKd.at8 (h : RKd W bx rb xv xn k a D w s3 s4 s5 s6 s7 s8 s9 s10 s11) : RKd W bx rb xv xn k a (fun j => j == 8 || D j) w s3 s4 s5 s6 s7 s8 s9 s10 (.agg #[.int .i64 (mkT ((xv, xn), k)), .int .i64 (mkA ((xv, xn), k) 0), .int .i64 (mkA ((xv, xn), k) 1)]) :=
  ⟨h.hb, h.h0, h.h1, h.h2, h.h3, h.h4, h.h5, h.h6, h.h7, fun _ => rfl, h.h9⟩
theorem RKd.at9 (hne : rb ≠ bx) (hW : W.heap.size ≤ rb) (h : RKd W bx rb xv xn k a D w s3 s4 s5 s6 s7 s8 s9 s10 s11) : RKd W bx rb xv xn k a (fun j => j == 9 || D j) (set3 w rb 0 (.int .i64 (mkT ((xv, xn), k))) (.int .i64 (mkA ((xv, xn), k) 0)) (.int .i64 (mkA ((xv, xn), k) 1))) s3 s4 s5 s6 s7 s8 s9 s10 s11 := by
  obtain ⟨h1, h2, u, v, z, h3⟩ := h.hb
  have hs : B3 (set3 w rb 0 (.int .i64 (mkT ((xv, xn), k))) (.int .i64 (mkA ((xv, xn), k) 0)) (.int .i64 (mkA ((xv, xn), k) 1))) rb (.int .i64 (mkT ((xv, xn), k))) (.int .i64 (mkA ((xv, xn), k) 0)) (.int .i64 (mkA ((xv, xn), k) 1)) := h3.set
  exact ⟨⟨set3_below h1 hW, h2.other (fun e => hne e.symm), _, _, _, hs⟩, h.h0, h.h1, h.h2, fun e => by
    obtain ⟨g1, q, rfl, g2⟩ := h.h3 e
    exact ⟨nin_set3 g1 g2, q, rfl, g2⟩, h.h4, h.h5, fun e => by
    obtain ⟨g1, q, rfl, g2⟩ := h.h6 e
    exact ⟨nin_set3 g1 g2, q, rfl, g2⟩, h.h7, h.h8, fun _ => hs⟩
theorem RKd.start (h : KW W bx rb (.bool xv) (.int .i64 xn) a w) : RKd W bx rb xv xn k a (fun _ => false) w s3 s4 s5 s6 s7 s8 s9 s10 s11 :=
  ⟨h, fun e => (by cases e), fun e => (by cases e), fun e => (by cases e), fun e => (by cases e), fun e => (by cases e), fun e => (by cases e), fun e => (by cases e), fun e => (by cases e), fun e => (by cases e), fun e => (by cases e)⟩
end
set_option maxRecDepth 100000 in
set_option maxHeartbeats 2000000 in
theorem keyR_any {s : List Int} (h6 : s.length ≤ 6) (x : Bool × Int) (k : Fo) (a : Value) (w : World) (hS : SIn w k a) (hg : sigT s (x, k)) :
    Calls Try.prog 22 #[.agg #[.bool x.1, .int .i64 x.2, a]] w fun e w' => e = .returned (keyV (x, k)) ∧ Below w.heap.size w w' := by
  obtain ⟨xv, xn⟩ := x
  obtain ⟨ad, c, b, o, e, h0⟩ := hS
  have HS : Hid (SIn w k a) := ⟨ad, c, b, o, e, h0⟩
  subst e
  have Hg := hide hg
  clear h0 hg
  unfold keyV
  go_enter Try.func22, Try.ntmps22
  go_upto_region 1 with fail
  have H0 : Hid (KW w w.heap.size (w.heap.size + 1) (.bool xv) (.int .i64 xn) (.slice ad (Fo.len k) c) (((w.alloc (.cells #[.bool xv, .int .i64 xn, .slice ad (Fo.len k) c] 33)).alloc (.cells #[.int .i64 0, .int .i64 0, .int .i64 0] 42)).drew)) := KW.new
  refine region_inv (fun D a w' => ∃ s3 s4 s5 s6 s7 s8 s9 s10 s11 : Value, a = ⟨#[.agg #[.bool xv, .int .i64 xn, .slice ad (Fo.len k) c], .pointer (some ⟨w.heap.size, 0, none⟩), .pointer (some ⟨w.heap.size + 1, 0, none⟩), s3, s4, s5, s6, s7, s8, s9, s10, s11], []⟩ ∧ RKd w w.heap.size (w.heap.size + 1) xv xn k (.slice ad (Fo.len k) c) D w' s3 s4 s5 s6 s7 s8 s9 s10 s11) (by kernel_rfl) (by kernel_rfl) ?_ ?_ ⟨_, _, _, _, _, _, _, _, _, rfl, RKd.start H0.out⟩
  · rintro D a w' i o hi ⟨s3, s4, s5, s6, s7, s8, s9, s10, s11, rfl, hI⟩ hD ho hdep
    have HI := hide hI
    clear hI
    have hi' : i < 10 := hi
    clear hi
    rcases (by omega : i = 0 ∨ i = 1 ∨ i = 2 ∨ i = 3 ∨ i = 4 ∨ i = 5 ∨ i = 6 ∨ i = 7 ∨ i = 8 ∨ i = 9) with rfl | rfl | rfl | rfl | rfl | rfl | rfl | rfl | rfl | rfl
    · obtain rfl := Option.some.inj ho
      clear ho hdep hD
      obtain ⟨q0, q1, q2, -⟩ := HI.out.hb.2.1
      refine wpOp_step rfl (fun K hK => ?_)
      go_simp
      exact hK _ _ ⟨_, _, _, _, _, _, _, _, _, rfl, HI.out.at0⟩
    · obtain rfl := Option.some.inj ho
      have d0 := HI.out.h0 (hdep ⟨0, .data⟩ (by simp) rfl)
      subst d0
      clear ho hdep hD
      refine wpOp_step rfl (fun K hK => ?_)
      go_simp
      refine (markR_any h6 [] (by simp) (xv, xn) k _ _ _ (HS.out.below HI.out.hb.1) Hg.out (nin_none8 _)).mono ?_
      rintro e w2 ⟨rfl, hb2⟩
      exact hK _ _ ⟨_, _, _, _, _, _, _, _, _, rfl, (HI.out.step hb2).at1⟩
    · obtain rfl := Option.some.inj ho
      clear ho hdep hD
      obtain ⟨q0, q1, q2, -⟩ := HI.out.hb.2.1
      refine wpOp_step rfl (fun K hK => ?_)
      go_simp
      exact hK _ _ ⟨_, _, _, _, _, _, _, _, _, rfl, HI.out.at2⟩
    · obtain rfl := Option.some.inj ho
      clear ho hdep hD
      refine wpOp_step rfl (fun K hK => ?_)
      go_simp
      exact hK _ _ ⟨_, _, _, _, _, _, _, _, _, rfl, HI.out.at3⟩
    · obtain rfl := Option.some.inj ho
      have d2 := HI.out.h2 (hdep ⟨2, .data⟩ (by simp) rfl)
      subst d2
      have d3 := HI.out.h3 (hdep ⟨3, .data⟩ (by simp) rfl)
      obtain ⟨hn, q, rfl, -⟩ := d3
      have Hn := hide hn
      clear hn
      clear ho hdep hD
      refine wpOp_step rfl (fun K hK => ?_)
      go_simp
      refine (markR_any h6 [0] (by simp) (xv, xn) k _ _ _ (HS.out.below HI.out.hb.1) Hg.out Hn.out).mono ?_
      rintro e w2 ⟨rfl, hb2⟩
      rw [mkP_one]
      exact hK _ _ ⟨_, _, _, _, _, _, _, _, _, rfl, (HI.out.step hb2).at4⟩
    · obtain rfl := Option.some.inj ho
      clear ho hdep hD
      obtain ⟨q0, q1, q2, -⟩ := HI.out.hb.2.1
      refine wpOp_step rfl (fun K hK => ?_)
      go_simp
      exact hK _ _ ⟨_, _, _, _, _, _, _, _, _, rfl, HI.out.at5⟩
    · obtain rfl := Option.some.inj ho
      clear ho hdep hD
      refine wpOp_step rfl (fun K hK => ?_)
      go_simp
      exact hK _ _ ⟨_, _, _, _, _, _, _, _, _, rfl, HI.out.at6⟩
    · obtain rfl := Option.some.inj ho
      have d5 := HI.out.h5 (hdep ⟨5, .data⟩ (by simp) rfl)
      subst d5
      have d6 := HI.out.h6 (hdep ⟨6, .data⟩ (by simp) rfl)
      obtain ⟨hn, q, rfl, -⟩ := d6
      have Hn := hide hn
      clear hn
      clear ho hdep hD
      refine wpOp_step rfl (fun K hK => ?_)
      go_simp
      refine (markR_any h6 [1] (by simp) (xv, xn) k _ _ _ (HS.out.below HI.out.hb.1) Hg.out Hn.out).mono ?_
      rintro e w2 ⟨rfl, hb2⟩
      rw [mkP_one]
      exact hK _ _ ⟨_, _, _, _, _, _, _, _, _, rfl, (HI.out.step hb2).at7⟩
    · obtain rfl := Option.some.inj ho
      have d1 := HI.out.h1 (hdep ⟨1, .data⟩ (by simp) rfl)
      subst d1
      have d4 := HI.out.h4 (hdep ⟨4, .data⟩ (by simp) rfl)
      subst d4
      have d7 := HI.out.h7 (hdep ⟨7, .data⟩ (by simp) rfl)
      subst d7
      clear ho hdep hD
      refine wpOp_step rfl (fun K hK => ?_)
      go_simp
      exact hK _ _ ⟨_, _, _, _, _, _, _, _, _, rfl, HI.out.at8⟩
    · obtain rfl := Option.some.inj ho
      have d8 := HI.out.h8 (hdep ⟨8, .data⟩ (by simp) rfl)
      subst d8
      clear ho hdep hD
      obtain ⟨-, -, u, v, z, q0, q1, q2, q3⟩ := HI.out.hb
      have f0 := q3 0
      have f1 := q3 1
      have f2 := q3 2
      refine wpOp_step rfl (fun K hK => ?_)
      go_simp
      exact hK _ _ ⟨_, _, _, _, _, _, _, _, _, rfl, HI.out.at9 (by omega) (by omega)⟩
  · rintro D a w' ⟨s3, s4, s5, s6, s7, s8, s9, s10, s11, rfl, hI⟩ hall
    have hr := hI.h9 (hall 9 (by decide))
    have Hb := hide hI.hb.1
    obtain ⟨r0, r1, r2, -⟩ := hr
    clear hI hall
    go_wp2_with fail
    refine bodyPost_ret (v := .agg #[.int .i64 (mkT ((xv, xn), k)), .int .i64 (mkA ((xv, xn), k) 0), .int .i64 (mkA ((xv, xn), k) 1)]) (by simp [results, Try.results22, go_sem, r0, r1, r2]) rfl ⟨rfl, Hb.out⟩
end Go.Proofs.Ytiilckjnggeeoad

namespace Go.Proofs.Ytiilckjnggeeoad
open Go.RowKit Go.Deep Go.ChangeShapes Go.WideShapes
attribute [local go_sem ↓] Go.wp_at_zero Go.wp_at_succ
def fndL (K : List Int) : List Tm → Nat → List Int
  | [], _ => []
  | t :: r, i => if uniK (keyT t) K then (i : Int) :: fndL K r (i + 1) else fndL K r (i + 1)
theorem fndL_snoc (K : List Int) : ∀ (l : List Tm) (i j : Nat) (t : Tm), l[j]? = some t → fndL K (l.take (j + 1)) i = fndL K (l.take j) i ++ (if uniK (keyT t) K then [((i + j : Nat) : Int)] else [])
  | [], _, _, _, h => by simp at h
  | y :: r, i, 0, t, h => by
    simp only [List.getElem?_cons_zero, Option.some.injEq] at h
    subst h
    simp [fndL]
  | y :: r, i, j + 1, t, h => by
    have h1 := fndL_snoc K r (i + 1) j t (by simpa using h)
    simp only [List.take_succ_cons, fndL]
    rw [h1, show i + 1 + j = i + (j + 1) by omega]
    split <;> simp
theorem fndL_len (K : List Int) : ∀ (l : List Tm) (i : Nat), (fndL K l i).length ≤ l.length
  | [], _ => Nat.le_refl _
  | y :: r, i => by
    have h := fndL_len K r (i + 1)
    simp only [fndL]
    split <;> simp <;> omega
theorem keyP_call {s : List Int} (h6 : s.length ≤ 6) {x : Bool × Int} {k : Fo} {a : Value} {w : World} {k0 k1 k2 : Int} (h : keyT (x, k) = [k0, k1, k2]) (hS : SIn w k a) (hg : sigT s (x, k)) :
    Calls Try.prog 21 #[.agg #[.bool x.1, .int .i64 x.2, a]] w fun e w' => e = .returned (.agg #[.int .i64 k0, .int .i64 k1, .int .i64 k2]) ∧ Below w.heap.size w w' := by
  have h1 := keyP_any h6 x k a w hS hg
  simp only [keyT, List.cons.injEq, and_true] at h
  unfold keyV at h1
  rw [h.1, h.2.1, h.2.2] at h1
  exact h1
theorem keyR_call {s : List Int} (h6 : s.length ≤ 6) {x : Bool × Int} {k : Fo} {a : Value} {w : World} {k0 k1 k2 : Int} (h : keyT (x, k) = [k0, k1, k2]) (hS : SIn w k a) (hg : sigT s (x, k)) :
    Calls Try.prog 22 #[.agg #[.bool x.1, .int .i64 x.2, a]] w fun e w' => e = .returned (.agg #[.int .i64 k0, .int .i64 k1, .int .i64 k2]) ∧ Below w.heap.size w w' := by
  have h1 := keyR_any h6 x k a w hS hg
  simp only [keyT, List.cons.injEq, and_true] at h
  unfold keyV at h1
  rw [h.1, h.2.1, h.2.2] at h1
  exact h1
theorem keyT_is (t : Tm) : ∃ k0 k1 k2, keyT t = [k0, k1, k2] := ⟨_, _, _, rfl⟩
set_option maxRecDepth 100000 in
set_option maxHeartbeats 2000000 in
theorem findP_any {s : List Int} (h6 : s.length ≤ 6) (F : Fo) (fv : Value) (x : Bool × Int) (k : Fo) (a : Value) (w : World) (hF : SIn w F fv) (hS : SIn w k a) (hr : ∀ y ∈ F.list, sigT s y) (hg : sigT s (x, k)) (hl : Fo.len F * 8 ≤ 140737488355320) :
    Calls Try.prog 28 #[fv, .agg #[.bool x.1, .int .i64 x.2, a]] w fun e w' => ∃ z1 z3, e = .returned (.slice z1 (fndL (keyT (x, k)) F.list 0).length z3) ∧ NIn w' (fndL (keyT (x, k)) F.list 0) (.slice z1 (fndL (keyT (x, k)) F.list 0).length z3) ∧ Below w.heap.size w w' := by
  obtain ⟨xv, xn⟩ := x
  obtain ⟨k0, k1, k2, hk⟩ := keyT_is ((xv, xn), k)
  have HR := hide hr
  have Hk := hide (keyP_call h6 hk (hS.alloc (.cells #[.bool xv, .int .i64 xn, a] 33)) hg)
  rw [hk]
  obtain ⟨ad, c, b, o, rfl, had, hlc, hcm, hFF⟩ := hF
  have HF := hide hFF
  obtain ⟨kd, kc, _, _, rfl, -, -, -, -⟩ := hS
  obtain ⟨i3, hi3, hy0, hy1, hy2⟩ := info_parts Try.info3
  have Hflen := hide (Fo.len_list F)
  unfold maxLen at hcm
  clear hFF hg hr hk
  go_enter Try.func28, Try.ntmps28
  go_wp2_with fail
  refine Hk.out.mono ?_
  rintro e w2 ⟨rfl, hb⟩
  have hB2 := below_box hb
  clear hb Hk
  go_upto_region 3 with fail
  generalize hwk : w2.alloc (.cells #[.int .i64 k0, .int .i64 k1, .int .i64 k2] 42) = wk
  have HBk : Hid (Below w.heap.size w wk) := by rw [← hwk]; exact below_step hB2 (below_alloc _ _)
  have HK : Hid (B3 wk w2.heap.size (.int .i64 k0) (.int .i64 k1) (.int .i64 k2)) := by rw [← hwk]; exact B3.new _ _ _ _ _
  have HFk := hide (HF.out.below HBk.out)
  clear hwk hB2 HF
  generalize w2.heap.size = kb at *
  clear w2
  go_wp2_with fail
  go_loopw [5, 13] (fun v i wr => ∃ (j : Nat) (L : List Int) (z1 : Option Addr) (z3 : Nat), j ≤ Fo.len F ∧ i = .int .i64 j ∧ v = .slice z1 L.length z3 ∧ L = fndL [k0, k1, k2] (F.list.take j) 0 ∧ Below wk.heap.size wk wr ∧ wr.ownsRow wk.heap.size 3 1 (.slice z1 L.length z3) L.length (vals L)) (fun _ i _ => Fo.len F - (intOf i).toNat)
  case atStart => exact ⟨0, [], none, 0, Nat.zero_le _, rfl, rfl, rfl, Below.refl _ _, World.ownsRow_nil _ _ _ _⟩
  case round =>
    obtain ⟨j, L, z1, z3, hj, rfl, rfl, hL, hBr, hor⟩ := hrel
    have HL := hide hL
    have Hor := hide hor
    have HBr := hide hBr
    clear hL hor
    by_cases hlt : j < Fo.len F
    · have hlt' : (j : Int) < (Fo.len F : Int) := by omega
      obtain ⟨⟨⟨yv, yn⟩, yk⟩, hy⟩ : ∃ y, F.list[j]? = some y := ⟨F.list[j]'(by rw [Fo.len_list]; exact hlt), by simp⟩
      obtain ⟨c0, c1, yv', c2, hSy⟩ := (HFk.out.below hBr).at hy
      obtain ⟨g0, g1, g2, -⟩ := HK.out.below hBr
      have HSy := hide hSy
      obtain ⟨ya, yc, yb, yo, rfl, -, -, -, -⟩ := hSy
      have ha : ad = some ⟨b, o, none⟩ := had (by omega)
      subst ha
      obtain ⟨y0, y1, y2, hyk⟩ := keyT_is ((yv, yn), yk)
      have Hyk := hide hyk
      have Hys := hide (HR.out ((yv, yn), yk) (List.mem_of_getElem? hy))
      have HLn : Hid (fndL [k0, k1, k2] (F.list.take (j + 1)) 0 = L ++ (if uniK [y0, y1, y2] [k0, k1, k2] then [(j : Int)] else [])) := by
        rw [Hid, fndL_snoc _ _ _ _ _ hy, HL.out, hyk, Nat.zero_add]
      have HLj : Hid (L.length ≤ j) := by
        rw [Hid, HL.out]
        have := fndL_len [k0, k1, k2] (F.list.take j) 0
        rw [List.length_take] at this
        omega
      clear hy had hyk hBr
      go_upto_region 6 with fail
      generalize hwx : wr.alloc (.cells #[.bool yv, .int .i64 yn, .slice ya (Fo.len yk) yc] 33) = wx
      have HBx : Hid (Below wr.heap.size wr wx) := by rw [← hwx]; exact below_alloc _ _
      have t0 : wx.cell? ⟨wr.heap.size, 0, none⟩ = some (.bool yv) := by rw [← hwx]; exact new_cell rfl
      have t1 : wx.cell? ⟨wr.heap.size, 1, none⟩ = some (.int .i64 yn) := by rw [← hwx]; exact new_cell rfl
      have t2 : wx.cell? ⟨wr.heap.size, 2, none⟩ = some (.slice ya (Fo.len yk) yc) := by rw [← hwx]; exact new_cell rfl
      replace g0 := grow_cell HBx.out _ _ g0
      replace g1 := grow_cell HBx.out _ _ g1
      replace g2 := grow_cell HBx.out _ _ g2
      have HSx := hide (HSy.out.below HBx.out)
      clear hwx c0 c1 c2 HSy
      have hcur : Below wx.heap.size wx wx.drew := (Below.refl _ _).drew
      go_region_held3 (fun w' => w'.cell? ⟨wr.heap.size, 0, none⟩ = some (.bool yv) ∧ w'.cell? ⟨wr.heap.size, 1, none⟩ = some (.int .i64 yn) ∧ w'.cell? ⟨wr.heap.size, 2, none⟩ = some (.slice ya (Fo.len yk) yc) ∧ w'.cell? ⟨kb, 0, none⟩ = some (.int .i64 k0) ∧ w'.cell? ⟨kb, 1, none⟩ = some (.int .i64 k1) ∧ w'.cell? ⟨kb, 2, none⟩ = some (.int .i64 k2))
        (first
          | (with_reducible exact ⟨grow_cell hcur _ _ t0, grow_cell hcur _ _ t1, grow_cell hcur _ _ t2, grow_cell hcur _ _ g0, grow_cell hcur _ _ g1, grow_cell hcur _ _ g2⟩)
          | go_keep)
        (first
          | (go_at_call 21; refine (keyP_call h6 (x := (yv, yn)) Hyk.out (HSx.out.below hcur) Hys.out).mono ?_; rintro e wz ⟨rfl, hb⟩; replace hcur := below_step hcur hb; clear hb)
          | (go_at_call 23; refine (unifyP_any8 _ _ _ _ _ _ _).mono ?_; rintro e wz ⟨rfl, hb⟩; replace hcur := below_step hcur hb; clear hb))
      all_goals
        rename_i hwz
        have HBz := hide (below_step HBx.out hcur)
        have Hoz := hide (owns_keep Hor.out (fun g hg => HBz.out.block g (owns_at Hor.out g hg).2))
        have HBw := hide (below_step HBr.out HBz.out)
        clear hcur t0 t1 t2 g0 g1 g2 hwz
        cases hm : uniK [y0, y1, y2] [k0, k1, k2] with
        | false =>
          rw [hm] at HLn
          have HL2 : Hid (L = fndL [k0, k1, k2] (F.list.take (j + 1)) 0) := by rw [Hid, HLn.out]; simp
          clear hm HLn
          go_wp2_with fail
          go_roundw
          case rel => exact ⟨j + 1, L, z1, z3, by omega, by go_num, rfl, HL2.out, HBw.out, Hoz.out⟩
          case measure => simp [intOf]; omega
        | true =>
          rw [hm] at HLn
          have HL2 : Hid (L ++ [(j : Int)] = fndL [k0, k1, k2] (F.list.take (j + 1)) 0) := by rw [Hid, HLn.out]; simp
          have Hob2 : Hid ((wz.alloc (.cells #[.int .i64 j] 3)).ownsRow wk.heap.size 3 1 (.slice z1 L.length z3) L.length (vals L)) := owns_keep Hoz.out (fun g hg => (below_alloc _ _).block g (owns_at Hoz.out g hg).2)
          have Hnews : Hid (∀ q u, [Value.int .i64 j][q]? = some u → (wz.alloc (.cells #[.int .i64 j] 3)).cell? ((⟨wz.heap.size, 0, none⟩ : Addr).add q) = some u) := by
            have h := World.news_of_block (cs := #[.int .i64 j]) (heap_alloc_new wz (.cells #[.int .i64 j] 3))
            intro q u hu
            exact h q u hu
          have hsz := HBw.out.size
          have hlj := HLj.out
          have hl1 : L.length + 1 ≤ maxLen := by unfold maxLen; omega
          have hl2 : (L.length + 1) * 8 ≤ 140737488355328 := by omega
          clear hm HLn hlj
          go_wp2_with (at_builtin; refine wpList_append_lies _ rfl (.tmp 22) (.tmp 24) 22 rfl wk.heap.size 3 i3 (.int .i64 0) 1 8 Try.underlying22 hi3 hy0 hy1 hy2 rfl (by decide) (.slice z1 L.length z3) L.length (vals L) rfl Hob2.out ⟨wz.heap.size, 0, none⟩ 1 1 [.int .i64 j] rfl rfl Hnews.out (by simp [Value.oneCell']) (by decide) hl1 hl2 (by simp; omega) (wz.heap.size + 1) (by simp) ?_; intro g cap w5 hown2 hg2 hat2 hlt2)
          have HBn : Hid (Below wk.heap.size wk w5) := (HBw.out.trans ((below_alloc _ _).mono (by omega))).grown hg2 (by simp; omega) (fun g hg => (owns_at Hor.out g hg).1)
          have Ho5 := hide (owns_snoc hown2)
          have hle : (L ++ [(j : Int)]).length = L.length + 1 := by simp
          clear hown2 hg2 hat2 hlt2 Hob2 Hnews
          go_wp2_with fail
          go_roundw
          case rel => exact ⟨j + 1, L ++ [(j : Int)], _, cap, by omega, by go_num, by rw [hle], HL2.out, HBn.out, by rw [hle]; rw [hle] at Ho5; exact Ho5.out⟩
          case measure => simp [intOf]; omega
    · have Hfin : Hid (fndL [k0, k1, k2] F.list 0 = L) := by
        have e : j = F.list.length := by rw [Fo.len_list]; omega
        rw [Hid, HL.out, e, List.take_length]
      clear had
      go_wp2_with fail
      go_ret
      have e := Hfin.out
      rw [e]
      exact ⟨z1, z3, rfl, own_nin Hor.out, below_step HBk.out HBr.out⟩
end Go.Proofs.Ytiilckjnggeeoad

namespace Go.Proofs.Ytiilckjnggeeoad
open Go.RowKit Go.Deep Go.ChangeShapes Go.WideShapes
def Cs (w : World) (lv : Value) (m size : Nat) (news : List Value) : Prop :=
  ∃ (a : Option Addr) (c : Nat), lv = .slice a m c ∧ news.length = m * size ∧ (∀ u ∈ news, u.oneCell' = true) ∧ (a = none → m = 0) ∧ ∀ ad, a = some ad → ∀ j u, news[j]? = some u → w.cell? (ad.add j) = some u
end Go.Proofs.Ytiilckjnggeeoad

namespace Go.Proofs.Ytiilckjnggeeoad
open Go.RowKit Go.Deep Go.ChangeShapes Go.WideShapes
attribute [local go_sem ↓] Go.wp_at_zero Go.wp_at_succ
theorem Cs.below {w w' : World} {lv : Value} {m size : Nat} {news : List Value} (h : Cs w lv m size news) (hb : Below w.heap.size w w') : Cs w' lv m size news := by
  obtain ⟨a, c, h1, h2, h3, h4, h5⟩ := h
  exact ⟨a, c, h1, h2, h3, h4, fun ad e j u hj => grow_cell hb _ _ (h5 ad e j u hj)⟩
end Go.Proofs.Ytiilckjnggeeoad

namespace Go.Proofs.Ytiilckjnggeeoad
open Go.RowKit Go.Deep Go.ChangeShapes Go.WideShapes
theorem runU_step {m : Nat} {s s' : Sb} {p : Tm × Tm} {L L' : List (Tm × Tm)} {R : Option Sb} (h : stepU s p.1 p.2 L = some (s', L')) : runU (m + 1) s (p :: L) = some R ↔ runU m s' L' = some R := by
  simp [runU, h]
theorem runU_stop {m : Nat} {s : Sb} {p : Tm × Tm} {L : List (Tm × Tm)} {R : Option Sb} (h : stepU s p.1 p.2 L = none) : runU (m + 1) s (p :: L) = some R ↔ R = none := by
  simp [runU, h, eq_comm]
theorem sub_var {s : Sb} {t : Tm} (h : t.1.1 = true) (hf : look s t.1.2 = none) : subT (bnd s) t = vr t.1.2 := by
  unfold subT
  rw [if_pos h]
  exact bnd_none hf
theorem sub_sym {s : Sb} {t : Tm} (h : ¬ t.1.1 = true) : subT (bnd s) t = ((false, t.1.2), subF (bnd s) t.2) := by
  unfold subT
  rw [if_neg h]
theorem run_var {n : Nat} {s : Sb} {p : Tm × Tm} {L : List (Tm × Tm)} {R : Option Sb} {u v : Tm} (h : UI s (p :: L)) (hr : runU n s (p :: L) = some R) (hne : subT (bnd s) p.1 ≠ subT (bnd s) p.2)
    (huv : (u = subT (bnd s) p.1 ∧ v = subT (bnd s) p.2 ∧ u.1.1 = true) ∨ (u = subT (bnd s) p.2 ∧ v = subT (bnd s) p.1 ∧ u.1.1 = true ∧ ¬ v.1.1 = true)) :
    (addS s u.1.2 v = none → R = none) ∧ ∀ s1, addS s u.1.2 v = some s1 → ∃ m, m < n ∧ UI s1 L ∧ runU m s1 L = some R ∧ Ref s s1 := by
  cases n with
  | zero => simp [runU] at hr
  | succ n =>
    have t1 := top_sub h.idem (ui_ok h) p.1
    have t2 := top_sub h.idem (ui_ok h) p.2
    have key : ∃ x y, (x = top s p.1 ∧ y = top s p.2 ∨ x = top s p.2 ∧ y = top s p.1) ∧ x.1.1 = true ∧ x.1.2 = u.1.2 ∧ subT (bnd s) y = v ∧ stepU s p.1 p.2 L = (addS s x.1.2 (subT (bnd s) y)).map fun s' => (s', L) := by
      rcases huv with ⟨hu, hv, h1⟩ | ⟨hu, hv, h1, h2⟩
      · rw [← t1] at hu
        rw [← t2] at hv
        have hx : (top s p.1).1.1 = true := by
          by_cases e : (top s p.1).1.1 = true
          · exact e
          · rw [hu, sub_sym e] at h1; simp at h1
        have hun : (top s p.1).1.2 = u.1.2 := by rw [hu, sub_var hx (top_free h.idem hx)]; rfl
        refine ⟨_, _, .inl ⟨rfl, rfl⟩, hx, hun, hv.symm, ?_⟩
        unfold stepU
        rw [if_neg, if_pos hx]
        rintro ⟨_, hy, hxy⟩
        apply hne
        rw [← t1, ← t2, sub_var hx (top_free h.idem hx), sub_var hy (top_free h.idem hy), hxy]
      · rw [← t2] at hu
        rw [← t1] at hv
        have hy : (top s p.2).1.1 = true := by
          by_cases e : (top s p.2).1.1 = true
          · exact e
          · rw [hu, sub_sym e] at h1; simp at h1
        have hx : ¬ (top s p.1).1.1 = true := fun e => h2 (by rw [hv, sub_var e (top_free h.idem e)]; rfl)
        have hun : (top s p.2).1.2 = u.1.2 := by rw [hu, sub_var hy (top_free h.idem hy)]; rfl
        refine ⟨_, _, .inr ⟨rfl, rfl⟩, hy, hun, hv.symm, ?_⟩
        unfold stepU
        rw [if_neg (fun e => hx e.1), if_neg hx, if_pos hy]
    obtain ⟨x, y, hxy, hxv, hxn, hyv, hst⟩ := key
    rw [hyv, hxn] at hst
    refine ⟨fun e => ?_, fun s1 e => ?_⟩
    · rw [e] at hst
      exact (runU_stop hst).1 hr
    · have ha : addS s x.1.2 (subT (bnd s) y) = some s1 := by rw [hyv, hxn]; exact e
      rw [e] at hst
      obtain ⟨k1, _, k3, _⟩ := step_add h hxy hxv ha
      exact ⟨n, Nat.lt_succ_self n, k1, (runU_step hst).1 hr, k3⟩
end Go.Proofs.Ytiilckjnggeeoad
