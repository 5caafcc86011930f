/- P8b P8c RGen RMore BS RSolP -/
import Derived.Test.YtiilckjnggeeoadG10
import Derived.Deep.RegionHeld3
namespace Go.Proofs.Ytiilckjnggeeoad
open Go.RowKit Go.Deep Go.ChangeShapes Go.WideShapes
attribute [local go_sem ↓] Go.wp_at_zero Go.wp_at_succ
set_option maxRecDepth 100000 in
set_option maxHeartbeats 2000000 in
theorem matchP_any8 (a b c x y z : Int) (w : World) :
    Calls Try.prog 25 #[.agg #[.int .i64 a, .int .i64 b, .int .i64 c], .agg #[.int .i64 x, .int .i64 y, .int .i64 z]] w fun e w' => e = .returned (.bool (matK [a, b, c] [x, y, z])) ∧ Below w.heap.size w w' := by
  go_enter Try.func25, Try.ntmps25
  go_upto_region 1 with fail
  generalize hW1 : w.alloc (.cells #[.int .i64 a, .int .i64 b, .int .i64 c] 42) = w1
  generalize hW2 : w1.alloc (.cells #[.int .i64 x, .int .i64 y, .int .i64 z] 42) = w2
  have e1 : w1.heap.size = w.heap.size + 1 := by rw [← hW1]; simp
  have hb1 : Below w.heap.size w w1 := by rw [← hW1]; exact below_alloc _ _
  have hb2 : Below w1.heap.size w1 w2 := by rw [← hW2]; exact below_alloc _ _
  have HA : Hid (∀ k, k < 3 → w2.cell? ⟨w.heap.size, k, none⟩ = some (.int .i64 (nth3 a b c k))) := fun k hk => grow_cell hb2 _ _ (by rw [← hW1]; exact key_cell hk)
  have HX : Hid (∀ k, k < 3 → w2.cell? ⟨w.heap.size + 1, k, none⟩ = some (.int .i64 (nth3 x y z k))) := fun k hk => by rw [← e1, ← hW2]; exact key_cell hk
  have HB := hide (below_step hb1 hb2)
  clear hW1 hW2 hb1 hb2 e1
  go_wp2_with fail
  go_loopw [6] (fun i wr => ∃ j : Nat, j ≤ 3 ∧ i = .int .i64 j ∧ Below w2.heap.size w2 wr ∧ ∀ k, k < j → matN (nth3 a b c k) (nth3 x y z k) = true) (fun i _ => 3 - (intOf i).toNat)
  case atStart => exact ⟨0, Nat.zero_le _, rfl, Below.refl _ _, fun k hk => absurd hk (by omega)⟩
  case round =>
    obtain ⟨j, hj, rfl, hBr, hall⟩ := hrel
    have HBr := hide hBr
    have Hall := hide hall
    clear hall
    by_cases hlt : j < 3
    · have hlt' : (j : Int) < 3 := by omega
      have c1 := grow_cell hBr _ _ (HA.out j hlt)
      have c2 := grow_cell hBr _ _ (HX.out j hlt)
      have hu : Hid (matN (nth3 a b c j) (nth3 x y z j) = false → matK [a, b, c] [x, y, z] = false) := fun h => matK_not hlt h
      have hn : Hid (matN (nth3 a b c j) (nth3 x y z j) = true → ∀ k, k < j + 1 → matN (nth3 a b c k) (nth3 x y z k) = true) := fun h k hk => by
        by_cases e : k = j
        · subst e; exact h
        · exact Hall.out k (by omega)
      clear hBr
      go_upto_region 4 with fail
      generalize nth3 a b c j = X at *
      generalize nth3 x y z j = Y at *
      have hcur : Below wr.heap.size wr wr.drew := (Below.refl _ _).drew
      go_region_held3 (fun w' => w'.cell? ⟨w.heap.size, j, none⟩ = some (.int .i64 X) ∧ w'.cell? ⟨w.heap.size + 1, j, none⟩ = some (.int .i64 Y))
        (first
          | (with_reducible exact ⟨grow_cell hcur _ _ c1, grow_cell hcur _ _ c2⟩)
          | go_keep)
        (first | (go_at_call 58; refine (coversP_any8 _ _ _).mono ?_; rintro e _ ⟨rfl, rfl⟩))
      all_goals
        have HBd := hide (below_step HBr.out hcur)
        clear hcur
        cases hm : matN X Y with
        | true =>
          have Hn := hide (hn.out hm)
          clear hm hn hu
          go_wp2_with fail
          go_roundw
          case rel => exact ⟨j + 1, by omega, by go_num, HBd.out, Hn.out⟩
          case measure => simp [intOf]; omega
        | false =>
          have Hu := hide (hu.out hm)
          clear hm hn hu
          go_wp2_with fail
          refine bodyPost_ret (v := .bool false) ?hha0 ?hhb0 ?hhc0
          case hha0 => exact results_tmp (t := 4) rfl _ _ _
          case hhb0 => rfl
          case hhc0 => exact ⟨by rw [Hu.out], below_step HB.out HBd.out⟩
    · have hall : matK [a, b, c] [x, y, z] = true := matK_all fun k hk => Hall.out k (by omega)
      have Hu := hide hall
      clear hall
      go_wp2_with fail
      refine bodyPost_ret (v := .bool true) ?hha3 ?hhb3 ?hhc3
      case hha3 => exact results_tmp (t := 4) rfl _ _ _
      case hhb3 => rfl
      case hhc3 => exact ⟨by rw [Hu.out], below_step HB.out HBr.out⟩
theorem uni_mat (x y : Int) : uniN x y = (matN x y || matN y x) := by
  have e : (y == x) = (x == y) := by
    by_cases h : x = y
    · subst h; rfl
    · rw [beq_eq_false_iff_ne.2 h, beq_eq_false_iff_ne.2 (fun e => h e.symm)]
  unfold uniN matN
  rw [e]
  cases (x == y) <;> cases (x == -1) <;> cases (y == -1) <;> cases (x == 0) <;> cases (y == 0) <;> simp
structure RU8 (W : World) (b : Nat) (j : Nat) (X Y : Int) (D : Nat → Bool) (w : World) (s9 s10 s11 s12 s13 s14 s15 s16 s17 s18 s19 s20 s21 s22 s23 s24 s25 s26 : Value) : Prop where
  hb : Below W.heap.size W w
  h0 : D 0 = true → s9 = .int .i64 j
  h1 : D 1 = true → s10 = .pointer (some ⟨b, j, none⟩)
  h2 : D 2 = true → s11 = .int .i64 X
  h3 : D 3 = true → s12 = .int .i64 j
  h4 : D 4 = true → s13 = .pointer (some ⟨b + 1, j, none⟩)
  h5 : D 5 = true → s14 = .int .i64 Y
  h6 : D 6 = true → s15 = .bool true
  h7 : D 7 = true → s16 = .bool false
  h8 : D 8 = true → s17 = .bool false
  h9 : True
  h10 : True
  h11 : True
  h12 : True
  h13 : True
  h14 : True
  h15 : True
  h16 : True
  h17 : D 17 = true → s26 = .bool false
section
variable {W : World} {b : Nat} {j : Nat} {X Y : Int} {D : Nat → Bool} {w w' : World} {s9 s10 s11 s12 s13 s14 s15 s16 s17 s18 s19 s20 s21 s22 s23 s24 s25 s26 : Value}
theorem RU8.at0 (h : RU8 W b j X Y D w s9 s10 s11 s12 s13 s14 s15 s16 s17 s18 s19 s20 s21 s22 s23 s24 s25 s26) : RU8 W b j X Y (fun j => j == 0 || D j) w (.int .i64 j) s10 s11 s12 s13 s14 s15 s16 s17 s18 s19 s20 s21 s22 s23 s24 s25 s26 :=
  ⟨h.hb, fun _ => rfl, h.h1, h.h2, h.h3, h.h4, h.h5, h.h6, h.h7, h.h8, h.h9, h.h10, h.h11, h.h12, h.h13, h.h14, h.h15, h.h16, h.h17⟩
theorem RU8.at1 (h : RU8 W b j X Y D w s9 s10 s11 s12 s13 s14 s15 s16 s17 s18 s19 s20 s21 s22 s23 s24 s25 s26) : RU8 W b j X Y (fun j => j == 1 || D j) w s9 (.pointer (some ⟨b, j, none⟩)) s11 s12 s13 s14 s15 s16 s17 s18 s19 s20 s21 s22 s23 s24 s25 s26 :=
  ⟨h.hb, h.h0, fun _ => rfl, h.h2, h.h3, h.h4, h.h5, h.h6, h.h7, h.h8, h.h9, h.h10, h.h11, h.h12, h.h13, h.h14, h.h15, h.h16, h.h17⟩
theorem RU8.at2 (h : RU8 W b j X Y D w s9 s10 s11 s12 s13 s14 s15 s16 s17 s18 s19 s20 s21 s22 s23 s24 s25 s26) : RU8 W b j X Y (fun j => j == 2 || D j) w s9 s10 (.int .i64 X) s12 s13 s14 s15 s16 s17 s18 s19 s20 s21 s22 s23 s24 s25 s26 :=
  ⟨h.hb, h.h0, h.h1, fun _ => rfl, h.h3, h.h4, h.h5, h.h6, h.h7, h.h8, h.h9, h.h10, h.h11, h.h12, h.h13, h.h14, h.h15, h.h16, h.h17⟩
theorem RU8.at3 (h : RU8 W b j X Y D w s9 s10 s11 s12 s13 s14 s15 s16 s17 s18 s19 s20 s21 s22 s23 s24 s25 s26) : RU8 W b j X Y (fun j => j == 3 || D j) w s9 s10 s11 (.int .i64 j) s13 s14 s15 s16 s17 s18 s19 s20 s21 s22 s23 s24 s25 s26 :=
  ⟨h.hb, h.h0, h.h1, h.h2, fun _ => rfl, h.h4, h.h5, h.h6, h.h7, h.h8, h.h9, h.h10, h.h11, h.h12, h.h13, h.h14, h.h15, h.h16, h.h17⟩
theorem RU8.at4 (h : RU8 W b j X Y D w s9 s10 s11 s12 s13 s14 s15 s16 s17 s18 s19 s20 s21 s22 s23 s24 s25 s26) : RU8 W b j X Y (fun j => j == 4 || D j) w s9 s10 s11 s12 (.pointer (some ⟨b + 1, j, none⟩)) s14 s15 s16 s17 s18 s19 s20 s21 s22 s23 s24 s25 s26 :=
  ⟨h.hb, h.h0, h.h1, h.h2, h.h3, fun _ => rfl, h.h5, h.h6, h.h7, h.h8, h.h9, h.h10, h.h11, h.h12, h.h13, h.h14, h.h15, h.h16, h.h17⟩
theorem RU8.at5 (h : RU8 W b j X Y D w s9 s10 s11 s12 s13 s14 s15 s16 s17 s18 s19 s20 s21 s22 s23 s24 s25 s26) : RU8 W b j X Y (fun j => j == 5 || D j) w s9 s10 s11 s12 s13 (.int .i64 Y) s15 s16 s17 s18 s19 s20 s21 s22 s23 s24 s25 s26 :=
  ⟨h.hb, h.h0, h.h1, h.h2, h.h3, h.h4, fun _ => rfl, h.h6, h.h7, h.h8, h.h9, h.h10, h.h11, h.h12, h.h13, h.h14, h.h15, h.h16, h.h17⟩
theorem RU8.at6 (h : RU8 W b j X Y D w s9 s10 s11 s12 s13 s14 s15 s16 s17 s18 s19 s20 s21 s22 s23 s24 s25 s26) : RU8 W b j X Y (fun j => j == 6 || D j) w s9 s10 s11 s12 s13 s14 (.bool true) s16 s17 s18 s19 s20 s21 s22 s23 s24 s25 s26 :=
  ⟨h.hb, h.h0, h.h1, h.h2, h.h3, h.h4, h.h5, fun _ => rfl, h.h7, h.h8, h.h9, h.h10, h.h11, h.h12, h.h13, h.h14, h.h15, h.h16, h.h17⟩
theorem RU8.at7 (h : RU8 W b j X Y D w s9 s10 s11 s12 s13 s14 s15 s16 s17 s18 s19 s20 s21 s22 s23 s24 s25 s26) : RU8 W b j X Y (fun j => j == 7 || D j) w s9 s10 s11 s12 s13 s14 s15 (.bool false) s17 s18 s19 s20 s21 s22 s23 s24 s25 s26 :=
  ⟨h.hb, h.h0, h.h1, h.h2, h.h3, h.h4, h.h5, h.h6, fun _ => rfl, h.h8, h.h9, h.h10, h.h11, h.h12, h.h13, h.h14, h.h15, h.h16, h.h17⟩
theorem RU8.at8 (h : RU8 W b j X Y D w s9 s10 s11 s12 s13 s14 s15 s16 s17 s18 s19 s20 s21 s22 s23 s24 s25 s26) : RU8 W b j X Y (fun j => j == 8 || D j) w s9 s10 s11 s12 s13 s14 s15 s16 (.bool false) s18 s19 s20 s21 s22 s23 s24 s25 s26 :=
  ⟨h.hb, h.h0, h.h1, h.h2, h.h3, h.h4, h.h5, h.h6, h.h7, fun _ => rfl, h.h9, h.h10, h.h11, h.h12, h.h13, h.h14, h.h15, h.h16, h.h17⟩
theorem RU8.at9 (h : RU8 W b j X Y D w s9 s10 s11 s12 s13 s14 s15 s16 s17 s18 s19 s20 s21 s22 s23 s24 s25 s26) : RU8 W b j X Y (fun j => j == 9 || D j) w s9 s10 s11 s12 s13 s14 s15 s16 s17 (undef) s19 s20 s21 s22 s23 s24 s25 s26 :=
  ⟨h.hb, h.h0, h.h1, h.h2, h.h3, h.h4, h.h5, h.h6, h.h7, h.h8, trivial, h.h10, h.h11, h.h12, h.h13, h.h14, h.h15, h.h16, h.h17⟩
theorem RU8.at10 (h : RU8 W b j X Y D w s9 s10 s11 s12 s13 s14 s15 s16 s17 s18 s19 s20 s21 s22 s23 s24 s25 s26) : RU8 W b j X Y (fun j => j == 10 || D j) w s9 s10 s11 s12 s13 s14 s15 s16 s17 s18 (undef) s20 s21 s22 s23 s24 s25 s26 :=
  ⟨h.hb, h.h0, h.h1, h.h2, h.h3, h.h4, h.h5, h.h6, h.h7, h.h8, h.h9, trivial, h.h11, h.h12, h.h13, h.h14, h.h15, h.h16, h.h17⟩
theorem RU8.at11 (h : RU8 W b j X Y D w s9 s10 s11 s12 s13 s14 s15 s16 s17 s18 s19 s20 s21 s22 s23 s24 s25 s26) : RU8 W b j X Y (fun j => j == 11 || D j) w s9 s10 s11 s12 s13 s14 s15 s16 s17 s18 s19 (undef) s21 s22 s23 s24 s25 s26 :=
  ⟨h.hb, h.h0, h.h1, h.h2, h.h3, h.h4, h.h5, h.h6, h.h7, h.h8, h.h9, h.h10, trivial, h.h12, h.h13, h.h14, h.h15, h.h16, h.h17⟩
theorem RU8.at12 (h : RU8 W b j X Y D w s9 s10 s11 s12 s13 s14 s15 s16 s17 s18 s19 s20 s21 s22 s23 s24 s25 s26) : RU8 W b j X Y (fun j => j == 12 || D j) w s9 s10 s11 s12 s13 s14 s15 s16 s17 s18 s19 s20 (undef) s22 s23 s24 s25 s26 :=
  ⟨h.hb, h.h0, h.h1, h.h2, h.h3, h.h4, h.h5, h.h6, h.h7, h.h8, h.h9, h.h10, h.h11, trivial, h.h13, h.h14, h.h15, h.h16, h.h17⟩
theorem RU8.at13 (h : RU8 W b j X Y D w s9 s10 s11 s12 s13 s14 s15 s16 s17 s18 s19 s20 s21 s22 s23 s24 s25 s26) : RU8 W b j X Y (fun j => j == 13 || D j) w s9 s10 s11 s12 s13 s14 s15 s16 s17 s18 s19 s20 s21 (undef) s23 s24 s25 s26 :=
  ⟨h.hb, h.h0, h.h1, h.h2, h.h3, h.h4, h.h5, h.h6, h.h7, h.h8, h.h9, h.h10, h.h11, h.h12, trivial, h.h14, h.h15, h.h16, h.h17⟩
theorem RU8.at14 (h : RU8 W b j X Y D w s9 s10 s11 s12 s13 s14 s15 s16 s17 s18 s19 s20 s21 s22 s23 s24 s25 s26) : RU8 W b j X Y (fun j => j == 14 || D j) w s9 s10 s11 s12 s13 s14 s15 s16 s17 s18 s19 s20 s21 s22 (undef) s24 s25 s26 :=
  ⟨h.hb, h.h0, h.h1, h.h2, h.h3, h.h4, h.h5, h.h6, h.h7, h.h8, h.h9, h.h10, h.h11, h.h12, h.h13, trivial, h.h15, h.h16, h.h17⟩
theorem RU8.at15 (h : RU8 W b j X Y D w s9 s10 s11 s12 s13 s14 s15 s16 s17 s18 s19 s20 s21 s22 s23 s24 s25 s26) : RU8 W b j X Y (fun j => j == 15 || D j) w s9 s10 s11 s12 s13 s14 s15 s16 s17 s18 s19 s20 s21 s22 s23 (undef) s25 s26 :=
  ⟨h.hb, h.h0, h.h1, h.h2, h.h3, h.h4, h.h5, h.h6, h.h7, h.h8, h.h9, h.h10, h.h11, h.h12, h.h13, h.h14, trivial, h.h16, h.h17⟩
theorem RU8.at16 (h : RU8 W b j X Y D w s9 s10 s11 s12 s13 s14 s15 s16 s17 s18 s19 s20 s21 s22 s23 s24 s25 s26) : RU8 W b j X Y (fun j => j == 16 || D j) w s9 s10 s11 s12 s13 s14 s15 s16 s17 s18 s19 s20 s21 s22 s23 s24 (undef) s26 :=
  ⟨h.hb, h.h0, h.h1, h.h2, h.h3, h.h4, h.h5, h.h6, h.h7, h.h8, h.h9, h.h10, h.h11, h.h12, h.h13, h.h14, h.h15, trivial, h.h17⟩
theorem RU8.at17 (h : RU8 W b j X Y D w s9 s10 s11 s12 s13 s14 s15 s16 s17 s18 s19 s20 s21 s22 s23 s24 s25 s26) : RU8 W b j X Y (fun j => j == 17 || D j) w s9 s10 s11 s12 s13 s14 s15 s16 s17 s18 s19 s20 s21 s22 s23 s24 s25 (.bool false) :=
  ⟨h.hb, h.h0, h.h1, h.h2, h.h3, h.h4, h.h5, h.h6, h.h7, h.h8, h.h9, h.h10, h.h11, h.h12, h.h13, h.h14, h.h15, h.h16, fun _ => rfl⟩
theorem RU8.start (h : Below W.heap.size W w) : RU8 W b j X Y (fun _ => false) w s9 s10 s11 s12 s13 s14 s15 s16 s17 s18 s19 s20 s21 s22 s23 s24 s25 s26 :=
  ⟨h, fun e => (by cases e), fun e => (by cases e), fun e => (by cases e), fun e => (by cases e), fun e => (by cases e), fun e => (by cases e), fun e => (by cases e), fun e => (by cases e), fun e => (by cases e), trivial, trivial, trivial, trivial, trivial, trivial, trivial, trivial, fun e => (by cases e)⟩
end
set_option maxRecDepth 100000 in
set_option maxHeartbeats 2000000 in
theorem unifyP_any8 (ka kb kc x y z : Int) (w : World) :
    Calls Try.prog 23 #[.agg #[.int .i64 ka, .int .i64 kb, .int .i64 kc], .agg #[.int .i64 x, .int .i64 y, .int .i64 z]] w fun e w' => e = .returned (.bool (uniK [ka, kb, kc] [x, y, z])) ∧ Below w.heap.size w w' := by
  go_enter Try.func23, Try.ntmps23
  go_upto_region 1 with fail
  generalize hW1 : w.alloc (.cells #[.int .i64 ka, .int .i64 kb, .int .i64 kc] 42) = w1
  generalize hW2 : w1.alloc (.cells #[.int .i64 x, .int .i64 y, .int .i64 z] 42) = w2
  have e1 : w1.heap.size = w.heap.size + 1 := by rw [← hW1]; simp
  have hb1 : Below w.heap.size w w1 := by rw [← hW1]; exact below_alloc _ _
  have hb2 : Below w1.heap.size w1 w2 := by rw [← hW2]; exact below_alloc _ _
  have HA : Hid (∀ k, k < 3 → w2.cell? ⟨w.heap.size, k, none⟩ = some (.int .i64 (nth3 ka kb kc k))) := fun k hk => grow_cell hb2 _ _ (by rw [← hW1]; exact key_cell hk)
  have HX : Hid (∀ k, k < 3 → w2.cell? ⟨w.heap.size + 1, k, none⟩ = some (.int .i64 (nth3 x y z k))) := fun k hk => by rw [← e1, ← hW2]; exact key_cell hk
  have HB := hide (below_step hb1 hb2)
  clear hW1 hW2 hb1 hb2 e1
  go_wp2_with fail
  go_loopw [6] (fun i wr => ∃ j : Nat, j ≤ 3 ∧ i = .int .i64 j ∧ Below w2.heap.size w2 wr ∧ ∀ k, k < j → uniN (nth3 ka kb kc k) (nth3 x y z k) = true) (fun i _ => 3 - (intOf i).toNat)
  case atStart => exact ⟨0, Nat.zero_le _, rfl, Below.refl _ _, fun k hk => absurd hk (by omega)⟩
  case round =>
    obtain ⟨j, hj, rfl, hBr, hall⟩ := hrel
    have HBr := hide hBr
    have Hall := hide hall
    clear hall
    by_cases hlt : j < 3
    · have hlt' : (j : Int) < 3 := by omega
      have c1 := grow_cell hBr _ _ (HA.out j hlt)
      have c2 := grow_cell hBr _ _ (HX.out j hlt)
      have hu : Hid (uniN (nth3 ka kb kc j) (nth3 x y z j) = false → uniK [ka, kb, kc] [x, y, z] = false) := fun h => uniK_not hlt h
      have hn : Hid (uniN (nth3 ka kb kc j) (nth3 x y z j) = true → ∀ k, k < j + 1 → uniN (nth3 ka kb kc k) (nth3 x y z k) = true) := fun h k hk => by
        by_cases e : k = j
        · subst e; exact h
        · exact Hall.out k (by omega)
      clear hBr
      go_upto_region 4 with fail
      generalize nth3 ka kb kc j = X at *
      generalize nth3 x y z j = Y at *
      cases hm : matN X Y with
      | true =>
        have Hn := hide (hn.out (by rw [uni_mat, hm]; rfl))
        have Hc : Hid (∀ w', Calls Try.prog 58 #[.int .i64 X, .int .i64 Y] w' fun e w'' => e = .returned (.bool true) ∧ w'' = w') := fun w' => by
          have h := coversP_any8 X Y w'
          rw [hm] at h
          exact h
        clear hn hu hm
        refine region_inv (fun D a w' => ∃ s9 s10 s11 s12 s13 s14 s15 s16 s17 s18 s19 s20 s21 s22 s23 s24 s25 s26 : Value, a = ⟨#[.agg #[.int .i64 ka, .int .i64 kb, .int .i64 kc], .agg #[.int .i64 x, .int .i64 y, .int .i64 z], .pointer (some ⟨w.heap.size, 0, none⟩), .pointer (some ⟨w.heap.size + 1, 0, none⟩), u4, .int .i64 j, .int .i64 j, .bool true, .int .i64 j, s9, s10, s11, s12, s13, s14, s15, s16, s17, s18, s19, s20, s21, s22, s23, s24, s25, s26, u27], []⟩ ∧ RU8 wr w.heap.size j X Y D w' s9 s10 s11 s12 s13 s14 s15 s16 s17 s18 s19 s20 s21 s22 s23 s24 s25 s26) (by kernel_rfl) (by kernel_rfl) ?_ ?_ ⟨_, _, _, _, _, _, _, _, _, _, _, _, _, _, _, _, _, _, rfl, RU8.start (Below.refl _ _).drew⟩
        · rintro D a w' i o hi ⟨s9, s10, s11, s12, s13, s14, s15, s16, s17, s18, s19, s20, s21, s22, s23, s24, s25, s26, rfl, hI⟩ hD ho hdep
          have HI := hide hI
          replace c1 := grow_cell hI.hb _ _ c1
          replace c2 := grow_cell hI.hb _ _ c2
          clear hI
          have hi' : i < 18 := hi
          clear hi
          rcases (by omega : i = 0 ∨ i = 1 ∨ i = 2 ∨ i = 3 ∨ i = 4 ∨ i = 5 ∨ i = 6 ∨ i = 7 ∨ i = 8 ∨ i = 9 ∨ i = 10 ∨ i = 11 ∨ i = 12 ∨ i = 13 ∨ i = 14 ∨ i = 15 ∨ i = 16 ∨ i = 17) with rfl | rfl | rfl | rfl | rfl | rfl | rfl | rfl | rfl | rfl | rfl | rfl | rfl | rfl | rfl | rfl | rfl | rfl
          · obtain rfl := Option.some.inj ho
            clear ho hdep hD
            refine wpOp_step rfl (fun K hK => ?_)
            go_simp
            exact hK _ _ ⟨_, _, _, _, _, _, _, _, _, _, _, _, _, _, _, _, _, _, rfl, HI.out.at0⟩
          · obtain rfl := Option.some.inj ho
            have d0 := HI.out.h0 (hdep ⟨0, .data⟩ (by simp) rfl)
            subst d0
            clear ho hdep hD
            refine wpOp_step rfl (fun K hK => ?_)
            go_simp
            exact hK _ _ ⟨_, _, _, _, _, _, _, _, _, _, _, _, _, _, _, _, _, _, rfl, HI.out.at1⟩
          · obtain rfl := Option.some.inj ho
            have d1 := HI.out.h1 (hdep ⟨1, .data⟩ (by simp) rfl)
            subst d1
            clear ho hdep hD
            refine wpOp_step rfl (fun K hK => ?_)
            go_simp
            exact hK _ _ ⟨_, _, _, _, _, _, _, _, _, _, _, _, _, _, _, _, _, _, rfl, HI.out.at2⟩
          · obtain rfl := Option.some.inj ho
            clear ho hdep hD
            refine wpOp_step rfl (fun K hK => ?_)
            go_simp
            exact hK _ _ ⟨_, _, _, _, _, _, _, _, _, _, _, _, _, _, _, _, _, _, rfl, HI.out.at3⟩
          · obtain rfl := Option.some.inj ho
            have d3 := HI.out.h3 (hdep ⟨3, .data⟩ (by simp) rfl)
            subst d3
            clear ho hdep hD
            refine wpOp_step rfl (fun K hK => ?_)
            go_simp
            exact hK _ _ ⟨_, _, _, _, _, _, _, _, _, _, _, _, _, _, _, _, _, _, rfl, HI.out.at4⟩
          · obtain rfl := Option.some.inj ho
            have d4 := HI.out.h4 (hdep ⟨4, .data⟩ (by simp) rfl)
            subst d4
            clear ho hdep hD
            refine wpOp_step rfl (fun K hK => ?_)
            go_simp
            exact hK _ _ ⟨_, _, _, _, _, _, _, _, _, _, _, _, _, _, _, _, _, _, rfl, HI.out.at5⟩
          · obtain rfl := Option.some.inj ho
            have d2 := HI.out.h2 (hdep ⟨2, .data⟩ (by simp) rfl)
            subst d2
            have d5 := HI.out.h5 (hdep ⟨5, .data⟩ (by simp) rfl)
            subst d5
            clear ho hdep hD
            refine wpOp_step rfl (fun K hK => ?_)
            go_simp
            refine (Hc.out _).mono ?_
            rintro e _ ⟨rfl, rfl⟩
            exact hK _ _ ⟨_, _, _, _, _, _, _, _, _, _, _, _, _, _, _, _, _, _, rfl, HI.out.at6⟩
          · obtain rfl := Option.some.inj ho
            have d6 := HI.out.h6 (hdep ⟨6, .data⟩ (by simp) rfl)
            subst d6
            clear ho hdep hD
            refine wpOp_step rfl (fun K hK => ?_)
            go_simp
            exact hK _ _ ⟨_, _, _, _, _, _, _, _, _, _, _, _, _, _, _, _, _, _, rfl, HI.out.at7⟩
          · obtain rfl := Option.some.inj ho
            have d7 := HI.out.h7 (hdep ⟨7, .data⟩ (by simp) rfl)
            subst d7
            clear ho hdep hD
            refine wpOp_step rfl (fun K hK => ?_)
            go_simp
            exact hK _ _ ⟨_, _, _, _, _, _, _, _, _, _, _, _, _, _, _, _, _, _, rfl, HI.out.at8⟩
          · obtain rfl := Option.some.inj ho
            have d8 := HI.out.h8 (hdep ⟨8, .guard⟩ (by simp) rfl)
            subst d8
            clear ho hdep hD
            refine wpOp_step rfl (fun K hK => ?_)
            go_simp
            exact hK _ _ ⟨_, _, _, _, _, _, _, _, _, _, _, _, _, _, _, _, _, _, rfl, HI.out.at9⟩
          · obtain rfl := Option.some.inj ho
            have d8 := HI.out.h8 (hdep ⟨8, .guard⟩ (by simp) rfl)
            subst d8
            clear ho hdep hD
            refine wpOp_step rfl (fun K hK => ?_)
            go_simp
            exact hK _ _ ⟨_, _, _, _, _, _, _, _, _, _, _, _, _, _, _, _, _, _, rfl, HI.out.at10⟩
          · obtain rfl := Option.some.inj ho
            have d8 := HI.out.h8 (hdep ⟨8, .guard⟩ (by simp) rfl)
            subst d8
            clear ho hdep hD
            refine wpOp_step rfl (fun K hK => ?_)
            go_simp
            exact hK _ _ ⟨_, _, _, _, _, _, _, _, _, _, _, _, _, _, _, _, _, _, rfl, HI.out.at11⟩
          · obtain rfl := Option.some.inj ho
            have d8 := HI.out.h8 (hdep ⟨8, .guard⟩ (by simp) rfl)
            subst d8
            clear ho hdep hD
            refine wpOp_step rfl (fun K hK => ?_)
            go_simp
            exact hK _ _ ⟨_, _, _, _, _, _, _, _, _, _, _, _, _, _, _, _, _, _, rfl, HI.out.at12⟩
          · obtain rfl := Option.some.inj ho
            have d8 := HI.out.h8 (hdep ⟨8, .guard⟩ (by simp) rfl)
            subst d8
            clear ho hdep hD
            refine wpOp_step rfl (fun K hK => ?_)
            go_simp
            exact hK _ _ ⟨_, _, _, _, _, _, _, _, _, _, _, _, _, _, _, _, _, _, rfl, HI.out.at13⟩
          · obtain rfl := Option.some.inj ho
            have d8 := HI.out.h8 (hdep ⟨8, .guard⟩ (by simp) rfl)
            subst d8
            clear ho hdep hD
            refine wpOp_step rfl (fun K hK => ?_)
            go_simp
            exact hK _ _ ⟨_, _, _, _, _, _, _, _, _, _, _, _, _, _, _, _, _, _, rfl, HI.out.at14⟩
          · obtain rfl := Option.some.inj ho
            have d8 := HI.out.h8 (hdep ⟨8, .guard⟩ (by simp) rfl)
            subst d8
            clear ho hdep hD
            refine wpOp_step rfl (fun K hK => ?_)
            go_simp
            exact hK _ _ ⟨_, _, _, _, _, _, _, _, _, _, _, _, _, _, _, _, _, _, rfl, HI.out.at15⟩
          · obtain rfl := Option.some.inj ho
            have d8 := HI.out.h8 (hdep ⟨8, .guard⟩ (by simp) rfl)
            subst d8
            clear ho hdep hD
            refine wpOp_step rfl (fun K hK => ?_)
            go_simp
            exact hK _ _ ⟨_, _, _, _, _, _, _, _, _, _, _, _, _, _, _, _, _, _, rfl, HI.out.at16⟩
          · obtain rfl := Option.some.inj ho
            have d8 := HI.out.h8 (hdep ⟨8, .data⟩ (by simp) rfl)
            subst d8
            clear ho hdep hD
            refine wpOp_step rfl (fun K hK => ?_)
            go_simp
            exact hK _ _ ⟨_, _, _, _, _, _, _, _, _, _, _, _, _, _, _, _, _, _, rfl, HI.out.at17⟩
        · rintro D a w' ⟨s9, s10, s11, s12, s13, s14, s15, s16, s17, s18, s19, s20, s21, s22, s23, s24, s25, s26, rfl, hI⟩ hall
          have h17 := hI.h17 (hall 17 (by decide))
          subst h17
          have HBd := hide (below_step HBr.out hI.hb)
          clear hI hall c1 c2
          go_wp2_with fail
          go_roundw
          case rel => exact ⟨j + 1, by omega, by go_num, HBd.out, Hn.out⟩
          case measure => simp [intOf]; omega
      | false =>
        have Hc : Hid (∀ w', Calls Try.prog 58 #[.int .i64 X, .int .i64 Y] w' fun e w'' => e = .returned (.bool false) ∧ w'' = w') := fun w' => by
          have h := coversP_any8 X Y w'
          rw [hm] at h
          exact h
        have Hu2 : Hid (uniN X Y = matN Y X) := by rw [Hid, uni_mat, hm]; rfl
        have Hc2 : Hid (∀ w', Calls Try.prog 58 #[.int .i64 Y, .int .i64 X] w' fun e w'' => e = .returned (.bool (matN Y X)) ∧ w'' = w') := fun w' => coversP_any8 Y X w'
        generalize matN Y X = m2 at *
        clear hm
        have hcur : Below wr.heap.size wr wr.drew := (Below.refl _ _).drew
        go_region_held3 (fun w' => w'.cell? ⟨w.heap.size, j, none⟩ = some (.int .i64 X) ∧ w'.cell? ⟨w.heap.size + 1, j, none⟩ = some (.int .i64 Y))
          (first
            | (with_reducible exact ⟨grow_cell hcur _ _ c1, grow_cell hcur _ _ c2⟩)
            | go_keep)
          (first
            | (go_at_call 58; with_reducible refine (Hc.out _).mono ?_; rintro e _ ⟨rfl, rfl⟩)
            | (go_at_call 58; with_reducible refine (Hc2.out _).mono ?_; rintro e _ ⟨rfl, rfl⟩))
        all_goals
          have HBd := hide (below_step HBr.out hcur)
          clear hcur
          cases m2 with
          | true =>
            have Hn := hide (hn.out Hu2.out)
            clear hn hu
            go_wp2_with fail
            go_roundw
            case rel => exact ⟨j + 1, by omega, by go_num, HBd.out, Hn.out⟩
            case measure => simp [intOf]; omega
          | false =>
            have Hu := hide (hu.out Hu2.out)
            clear hn hu
            go_wp2_with fail
            refine bodyPost_ret (v := .bool false) ?hha1 ?hhb1 ?hhc1
            case hha1 => exact results_tmp (t := 4) rfl _ _ _
            case hhb1 => rfl
            case hhc1 => exact ⟨by rw [Hu.out], below_step HB.out HBd.out⟩
    · have hall : uniK [ka, kb, kc] [x, y, z] = true := uniK_all fun k hk => Hall.out k (by omega)
      have Hu := hide hall
      clear hall
      go_wp2_with fail
      refine bodyPost_ret (v := .bool true) ?hha3 ?hhb3 ?hhc3
      case hha3 => exact results_tmp (t := 4) rfl _ _ _
      case hhb3 => rfl
      case hhc3 => exact ⟨by rw [Hu.out], below_step HB.out HBr.out⟩
end Go.Proofs.Ytiilckjnggeeoad

namespace Go.Proofs.Ytiilckjnggeeoad
open Go.RowKit Go.Deep Go.ChangeShapes Go.WideShapes
attribute [local go_sem ↓] Go.wp_at_zero Go.wp_at_succ
def fndL (K : List Int) : List Tm → Nat → List Int
  | [], _ => []
  | t :: r, i => if uniK (keyT t) K then (i : Int) :: fndL K r (i + 1) else fndL K r (i + 1)
theorem fndL_snoc (K : List Int) : ∀ (l : List Tm) (i j : Nat) (t : Tm), l[j]? = some t → fndL K (l.take (j + 1)) i = fndL K (l.take j) i ++ (if uniK (keyT t) K then [((i + j : Nat) : Int)] else [])
  | [], _, _, _, h => by simp at h
  | y :: r, i, 0, t, h => by
    simp only [List.getElem?_cons_zero, Option.some.injEq] at h
    subst h
    simp [fndL]
  | y :: r, i, j + 1, t, h => by
    have h1 := fndL_snoc K r (i + 1) j t (by simpa using h)
    simp only [List.take_succ_cons, fndL]
    rw [h1, show i + 1 + j = i + (j + 1) by omega]
    split <;> simp
theorem fndL_len (K : List Int) : ∀ (l : List Tm) (i : Nat), (fndL K l i).length ≤ l.length
  | [], _ => Nat.le_refl _
  | y :: r, i => by
    have h := fndL_len K r (i + 1)
    simp only [fndL]
    split <;> simp <;> omega
theorem keyP_call {s : List Int} (h6 : s.length ≤ 6) {x : Bool × Int} {k : Fo} {a : Value} {w : World} {k0 k1 k2 : Int} (h : keyT (x, k) = [k0, k1, k2]) (hS : SIn w k a) (hg : sigT s (x, k)) :
    Calls Try.prog 21 #[.agg #[.bool x.1, .int .i64 x.2, a]] w fun e w' => e = .returned (.agg #[.int .i64 k0, .int .i64 k1, .int .i64 k2]) ∧ Below w.heap.size w w' := by
  have h1 := keyP_any h6 x k a w hS hg
  simp only [keyT, List.cons.injEq, and_true] at h
  unfold keyV at h1
  rw [h.1, h.2.1, h.2.2] at h1
  exact h1
theorem keyT_is (t : Tm) : ∃ k0 k1 k2, keyT t = [k0, k1, k2] := ⟨_, _, _, rfl⟩
set_option maxRecDepth 100000 in
set_option maxHeartbeats 2000000 in
theorem findP_any {s : List Int} (h6 : s.length ≤ 6) (F : Fo) (fv : Value) (x : Bool × Int) (k : Fo) (a : Value) (w : World) (hF : SIn w F fv) (hS : SIn w k a) (hr : ∀ y ∈ F.list, sigT s y) (hg : sigT s (x, k)) (hl : Fo.len F * 8 ≤ 140737488355320) :
    Calls Try.prog 28 #[fv, .agg #[.bool x.1, .int .i64 x.2, a]] w fun e w' => ∃ z1 z3, e = .returned (.slice z1 (fndL (keyT (x, k)) F.list 0).length z3) ∧ NIn w' (fndL (keyT (x, k)) F.list 0) (.slice z1 (fndL (keyT (x, k)) F.list 0).length z3) ∧ Below w.heap.size w w' := by
  obtain ⟨xv, xn⟩ := x
  obtain ⟨k0, k1, k2, hk⟩ := keyT_is ((xv, xn), k)
  have HR := hide hr
  have Hk := hide (keyP_call h6 hk (hS.alloc (.cells #[.bool xv, .int .i64 xn, a] 33)) hg)
  rw [hk]
  obtain ⟨ad, c, b, o, rfl, had, hlc, hcm, hFF⟩ := hF
  have HF := hide hFF
  obtain ⟨kd, kc, _, _, rfl, -, -, -, -⟩ := hS
  obtain ⟨i3, hi3, hy0, hy1, hy2⟩ := info_parts Try.info3
  have Hflen := hide (Fo.len_list F)
  unfold maxLen at hcm
  clear hFF hg hr hk
  go_enter Try.func28, Try.ntmps28
  go_wp2_with fail
  refine Hk.out.mono ?_
  rintro e w2 ⟨rfl, hb⟩
  have hB2 := below_box hb
  clear hb Hk
  go_upto_region 3 with fail
  generalize hwk : w2.alloc (.cells #[.int .i64 k0, .int .i64 k1, .int .i64 k2] 42) = wk
  have HBk : Hid (Below w.heap.size w wk) := by rw [← hwk]; exact below_step hB2 (below_alloc _ _)
  have HK : Hid (B3 wk w2.heap.size (.int .i64 k0) (.int .i64 k1) (.int .i64 k2)) := by rw [← hwk]; exact B3.new _ _ _ _ _
  have HFk := hide (HF.out.below HBk.out)
  clear hwk hB2 HF
  generalize w2.heap.size = kb at *
  clear w2
  go_wp2_with fail
  go_loopw [5, 13] (fun v i wr => ∃ (j : Nat) (L : List Int) (z1 : Option Addr) (z3 : Nat), j ≤ Fo.len F ∧ i = .int .i64 j ∧ v = .slice z1 L.length z3 ∧ L = fndL [k0, k1, k2] (F.list.take j) 0 ∧ Below wk.heap.size wk wr ∧ wr.ownsRow wk.heap.size 3 1 (.slice z1 L.length z3) L.length (vals L)) (fun _ i _ => Fo.len F - (intOf i).toNat)
  case atStart => exact ⟨0, [], none, 0, Nat.zero_le _, rfl, rfl, rfl, Below.refl _ _, World.ownsRow_nil _ _ _ _⟩
  case round =>
    obtain ⟨j, L, z1, z3, hj, rfl, rfl, hL, hBr, hor⟩ := hrel
    have HL := hide hL
    have Hor := hide hor
    have HBr := hide hBr
    clear hL hor
    by_cases hlt : j < Fo.len F
    · have hlt' : (j : Int) < (Fo.len F : Int) := by omega
      obtain ⟨⟨⟨yv, yn⟩, yk⟩, hy⟩ : ∃ y, F.list[j]? = some y := ⟨F.list[j]'(by rw [Fo.len_list]; exact hlt), by simp⟩
      obtain ⟨c0, c1, yv', c2, hSy⟩ := (HFk.out.below hBr).at hy
      obtain ⟨g0, g1, g2, -⟩ := HK.out.below hBr
      have HSy := hide hSy
      obtain ⟨ya, yc, yb, yo, rfl, -, -, -, -⟩ := hSy
      have ha : ad = some ⟨b, o, none⟩ := had (by omega)
      subst ha
      obtain ⟨y0, y1, y2, hyk⟩ := keyT_is ((yv, yn), yk)
      have Hyk := hide hyk
      have Hys := hide (HR.out ((yv, yn), yk) (List.mem_of_getElem? hy))
      have HLn : Hid (fndL [k0, k1, k2] (F.list.take (j + 1)) 0 = L ++ (if uniK [y0, y1, y2] [k0, k1, k2] then [(j : Int)] else [])) := by
        rw [Hid, fndL_snoc _ _ _ _ _ hy, HL.out, hyk, Nat.zero_add]
      have HLj : Hid (L.length ≤ j) := by
        rw [Hid, HL.out]
        have := fndL_len [k0, k1, k2] (F.list.take j) 0
        rw [List.length_take] at this
        omega
      clear hy had hyk hBr
      go_upto_region 6 with fail
      generalize hwx : wr.alloc (.cells #[.bool yv, .int .i64 yn, .slice ya (Fo.len yk) yc] 33) = wx
      have HBx : Hid (Below wr.heap.size wr wx) := by rw [← hwx]; exact below_alloc _ _
      have t0 : wx.cell? ⟨wr.heap.size, 0, none⟩ = some (.bool yv) := by rw [← hwx]; exact new_cell rfl
      have t1 : wx.cell? ⟨wr.heap.size, 1, none⟩ = some (.int .i64 yn) := by rw [← hwx]; exact new_cell rfl
      have t2 : wx.cell? ⟨wr.heap.size, 2, none⟩ = some (.slice ya (Fo.len yk) yc) := by rw [← hwx]; exact new_cell rfl
      replace g0 := grow_cell HBx.out _ _ g0
      replace g1 := grow_cell HBx.out _ _ g1
      replace g2 := grow_cell HBx.out _ _ g2
      have HSx := hide (HSy.out.below HBx.out)
      clear hwx c0 c1 c2 HSy
      have hcur : Below wx.heap.size wx wx.drew := (Below.refl _ _).drew
      go_region_held3 (fun w' => w'.cell? ⟨wr.heap.size, 0, none⟩ = some (.bool yv) ∧ w'.cell? ⟨wr.heap.size, 1, none⟩ = some (.int .i64 yn) ∧ w'.cell? ⟨wr.heap.size, 2, none⟩ = some (.slice ya (Fo.len yk) yc) ∧ w'.cell? ⟨kb, 0, none⟩ = some (.int .i64 k0) ∧ w'.cell? ⟨kb, 1, none⟩ = some (.int .i64 k1) ∧ w'.cell? ⟨kb, 2, none⟩ = some (.int .i64 k2))
        (first
          | (with_reducible exact ⟨grow_cell hcur _ _ t0, grow_cell hcur _ _ t1, grow_cell hcur _ _ t2, grow_cell hcur _ _ g0, grow_cell hcur _ _ g1, grow_cell hcur _ _ g2⟩)
          | go_keep)
        (first
          | (go_at_call 21; refine (keyP_call h6 (x := (yv, yn)) Hyk.out (HSx.out.below hcur) Hys.out).mono ?_; rintro e wz ⟨rfl, hb⟩; replace hcur := below_step hcur hb; clear hb)
          | (go_at_call 23; refine (unifyP_any8 _ _ _ _ _ _ _).mono ?_; rintro e wz ⟨rfl, hb⟩; replace hcur := below_step hcur hb; clear hb))
      all_goals
        rename_i hwz
        have HBz := hide (below_step HBx.out hcur)
        have Hoz := hide (owns_keep Hor.out (fun g hg => HBz.out.block g (owns_at Hor.out g hg).2))
        have HBw := hide (below_step HBr.out HBz.out)
        clear hcur t0 t1 t2 g0 g1 g2 hwz
        cases hm : uniK [y0, y1, y2] [k0, k1, k2] with
        | false =>
          rw [hm] at HLn
          have HL2 : Hid (L = fndL [k0, k1, k2] (F.list.take (j + 1)) 0) := by rw [Hid, HLn.out]; simp
          clear hm HLn
          go_wp2_with fail
          go_roundw
          case rel => exact ⟨j + 1, L, z1, z3, by omega, by go_num, rfl, HL2.out, HBw.out, Hoz.out⟩
          case measure => simp [intOf]; omega
        | true =>
          rw [hm] at HLn
          have HL2 : Hid (L ++ [(j : Int)] = fndL [k0, k1, k2] (F.list.take (j + 1)) 0) := by rw [Hid, HLn.out]; simp
          have Hob2 : Hid ((wz.alloc (.cells #[.int .i64 j] 3)).ownsRow wk.heap.size 3 1 (.slice z1 L.length z3) L.length (vals L)) := owns_keep Hoz.out (fun g hg => (below_alloc _ _).block g (owns_at Hoz.out g hg).2)
          have Hnews : Hid (∀ q u, [Value.int .i64 j][q]? = some u → (wz.alloc (.cells #[.int .i64 j] 3)).cell? ((⟨wz.heap.size, 0, none⟩ : Addr).add q) = some u) := by
            have h := World.news_of_block (cs := #[.int .i64 j]) (heap_alloc_new wz (.cells #[.int .i64 j] 3))
            intro q u hu
            exact h q u hu
          have hsz := HBw.out.size
          have hlj := HLj.out
          have hl1 : L.length + 1 ≤ maxLen := by unfold maxLen; omega
          have hl2 : (L.length + 1) * 8 ≤ 140737488355328 := by omega
          clear hm HLn hlj
          go_wp2_with (at_builtin; refine wpList_append_lies _ rfl (.tmp 22) (.tmp 24) 22 rfl wk.heap.size 3 i3 (.int .i64 0) 1 8 Try.underlying22 hi3 hy0 hy1 hy2 rfl (by decide) (.slice z1 L.length z3) L.length (vals L) rfl Hob2.out ⟨wz.heap.size, 0, none⟩ 1 1 [.int .i64 j] rfl rfl Hnews.out (by simp [Value.oneCell']) (by decide) hl1 hl2 (by simp; omega) (wz.heap.size + 1) (by simp) ?_; intro g cap w5 hown2 hg2 hat2 hlt2)
          have HBn : Hid (Below wk.heap.size wk w5) := (HBw.out.trans ((below_alloc _ _).mono (by omega))).grown hg2 (by simp; omega) (fun g hg => (owns_at Hor.out g hg).1)
          have Ho5 := hide (owns_snoc hown2)
          have hle : (L ++ [(j : Int)]).length = L.length + 1 := by simp
          clear hown2 hg2 hat2 hlt2 Hob2 Hnews
          go_wp2_with fail
          go_roundw
          case rel => exact ⟨j + 1, L ++ [(j : Int)], _, cap, by omega, by go_num, by rw [hle], HL2.out, HBn.out, by rw [hle]; rw [hle] at Ho5; exact Ho5.out⟩
          case measure => simp [intOf]; omega
    · have Hfin : Hid (fndL [k0, k1, k2] F.list 0 = L) := by
        have e : j = F.list.length := by rw [Fo.len_list]; omega
        rw [Hid, HL.out, e, List.take_length]
      clear had
      go_wp2_with fail
      go_ret
      have e := Hfin.out
      rw [e]
      exact ⟨z1, z3, rfl, own_nin Hor.out, below_step HBk.out HBr.out⟩
end Go.Proofs.Ytiilckjnggeeoad

namespace Go.Proofs.Ytiilckjnggeeoad
open Go.RowKit Go.Deep Go.ChangeShapes Go.WideShapes
def Cs (w : World) (lv : Value) (m size : Nat) (news : List Value) : Prop :=
  ∃ (a : Option Addr) (c : Nat), lv = .slice a m c ∧ news.length = m * size ∧ (∀ u ∈ news, u.oneCell' = true) ∧ (a = none → m = 0) ∧ ∀ ad, a = some ad → ∀ j u, news[j]? = some u → w.cell? (ad.add j) = some u
theorem append_nothing {w : World} (base : Nat) (t ty e : TypeId) (i : TypeInfo) (size : Nat) (ht : Try.prog.underlying t = some (.slice e)) (hi : Try.prog.info? e = some i) (v : Value) (n c : Nat) (xs : List Value) (hown : w.ownsRow base e size v n xs) :
    (Builtin.append_ #[t, t] ty #[v, .slice none 0 c]).run Try.prog w = .ok v w := by
  rcases hown.2 with ⟨rfl, rfl⟩ | ⟨g, cap, cur, rfl, _, _, hnc, _⟩
  · simp [Builtin.append_, run_underlying ht, sizeOf, typeInfo, hi, Builtin.lenOf, Builtin.firstCells]
  · simp [Builtin.append_, run_underlying ht, sizeOf, typeInfo, hi, Builtin.lenOf, Builtin.firstCells, hnc, storeCells]
theorem run_append_gen {w : World} (base : Nat) (t ty e : TypeId) (i : TypeInfo) (z : Value) (size bytes : Nat) (ht : Try.prog.underlying t = some (.slice e)) (hi : Try.prog.info? e = some i) (hz : i.zero = some z) (hsize : i.size = size) (hby : i.bytes = bytes) (hzs : z.cells.size = size) (hsz : 0 < size)
    (v : Value) (n : Nat) (xs : List Value) (hown : w.ownsRow base e size v n xs) (lv : Value) (m : Nat) (news : List Value) (hC : Cs w lv m size news) (h63 : n + m ≤ maxLen) (hb : (n + m) * bytes ≤ 140737488355328) (hbase : base ≤ w.heap.size) :
    ∃ v' w', (Builtin.append_ #[t, t] ty #[v, lv]).run Try.prog w = .ok v' w' ∧ w'.ownsRow base e size v' (n + m) (xs ++ news) ∧ w.grownBy w' v.ownBlock ∧ (v'.ownBlock = v.ownBlock ∨ v'.ownBlock = some w.heap.size) := by
  obtain ⟨a, c, rfl, hl, h1, h0, hc⟩ := hC
  cases a with
  | none =>
    have hm := h0 rfl
    subst hm
    have hn : news = [] := List.length_eq_zero_iff.1 (by rw [hl]; simp)
    subst hn
    exact ⟨v, w, append_nothing base t ty e i size ht hi v n c xs hown, by simpa using hown, ⟨rfl, rfl, rfl, Nat.le_refl _, fun _ _ _ => rfl⟩, .inl rfl⟩
  | some ad =>
    obtain ⟨v', w', hr, h2, h3, _, h5⟩ := run_append_own_at (P := Try.prog) w base t ty e i z size bytes ht hi hz hsize hby hzs hsz v n xs hown ad m c news hl (hc ad rfl) h1 h63 hb hbase
    exact ⟨v', w', hr, h2, h3, h5⟩
theorem wp_append_gen {w : World} {o : Oper} {a : Act} {K : Act → World → Prop} {Q : Exit → Act → World → Prop} (s x : Operand) (t : TypeId)
    (ho : o.op = .call { callee := .builtin .append, args := #[s, x], argTypes := #[t, t] }) (base : Nat) (e : TypeId) (i : TypeInfo) (z : Value) (size bytes : Nat) (ht : Try.prog.underlying t = some (.slice e)) (hi : Try.prog.info? e = some i) (hz : i.zero = some z) (hsize : i.size = size) (hby : i.bytes = bytes) (hzs : z.cells.size = size) (hsz : 0 < size)
    (v : Value) (n : Nat) (xs : List Value) (hs : a.eval s = v) (hown : w.ownsRow base e size v n xs) (lv : Value) (m : Nat) (news : List Value) (hx : a.eval x = lv) (hC : Cs w lv m size news) (h63 : n + m ≤ maxLen) (hb : (n + m) * bytes ≤ 140737488355328) (hbase : base ≤ w.heap.size)
    (h : ∀ v' w', w'.ownsRow base e size v' (n + m) (xs ++ news) → w.grownBy w' v.ownBlock → (v'.ownBlock = v.ownBlock ∨ v'.ownBlock = some w.heap.size) → K (a.put o.dst v') w') : o.wp Try.prog a w K Q := by
  obtain ⟨v', w', hr, h2, h3, h4⟩ := run_append_gen base t o.type e i z size bytes ht hi hz hsize hby hzs hsz v n xs hown lv m news hC h63 hb hbase
  unfold Oper.wp execOp
  simp only [ho, resolve, invoke, builtin, Sem.run_bind, Sem.run_pure, Result.andThen_ok, List.map_toArray, List.map_cons, List.map_nil, hs, hx, hr]
  exact h v' w' h2 h3 h4
theorem step_append_gen {w : World} {ops : Array Oper} {o : Oper} {a : Act} {K : Act → World → Prop} {Q : Exit → Act → World → Prop} {E : Prop} (hgd : o.guard = none) (s x : Operand) (t : TypeId)
    (ho : o.op = .call { callee := .builtin .append, args := #[s, x], argTypes := #[t, t] }) (base : Nat) (e : TypeId) (i : TypeInfo) (z : Value) (size bytes : Nat) (ht : Try.prog.underlying t = some (.slice e)) (hi : Try.prog.info? e = some i) (hz : i.zero = some z) (hsize : i.size = size) (hby : i.bytes = bytes) (hzs : z.cells.size = size) (hsz : 0 < size)
    (v : Value) (n : Nat) (xs : List Value) (hs : a.eval s = v) (hown : w.ownsRow base e size v n xs) (lv : Value) (m : Nat) (news : List Value) (hx : a.eval x = lv) (hC : Cs w lv m size news) (h63 : n + m ≤ maxLen) (hb : (n + m) * bytes ≤ 140737488355328) (hbase : base ≤ w.heap.size)
    (h : ∀ v' w', w'.ownsRow base e size v' (n + m) (xs ++ news) → w.grownBy w' v.ownBlock → (v'.ownBlock = v.ownBlock ∨ v'.ownBlock = some w.heap.size) → K (a.put o.dst v') w') :
    if Region.wanted o (yielded ops a.tmps) = true then Oper.wp Try.prog o a w K Q else E := by
  have hw : Region.wanted o (yielded ops a.tmps) = true := by simp [Region.wanted, hgd]
  rw [if_pos hw]
  exact wp_append_gen s x t ho base e i z size bytes ht hi hz hsize hby hzs hsz v n xs hs hown lv m news hx hC h63 hb hbase h
theorem wpList_append_gen {w : World} {ops : Array Oper} {rest : List Oper} {o : Oper} {a : Act} {Q : Exit → Act → World → Prop} (hgd : o.guard = none) (s x : Operand) (t : TypeId)
    (ho : o.op = .call { callee := .builtin .append, args := #[s, x], argTypes := #[t, t] }) (base : Nat) (e : TypeId) (i : TypeInfo) (z : Value) (size bytes : Nat) (ht : Try.prog.underlying t = some (.slice e)) (hi : Try.prog.info? e = some i) (hz : i.zero = some z) (hsize : i.size = size) (hby : i.bytes = bytes) (hzs : z.cells.size = size) (hsz : 0 < size)
    (v : Value) (n : Nat) (xs : List Value) (hs : a.eval s = v) (hown : w.ownsRow base e size v n xs) (lv : Value) (m : Nat) (news : List Value) (hx : a.eval x = lv) (hC : Cs w lv m size news) (h63 : n + m ≤ maxLen) (hb : (n + m) * bytes ≤ 140737488355328) (hbase : base ≤ w.heap.size)
    (h : ∀ v' w', w'.ownsRow base e size v' (n + m) (xs ++ news) → w.grownBy w' v.ownBlock → (v'.ownBlock = v.ownBlock ∨ v'.ownBlock = some w.heap.size) → wpList Try.prog ops Q rest (a.put o.dst v') w') : wpList Try.prog ops Q (o :: rest) a w :=
  wpList_plain hgd fun _ hK => wp_append_gen s x t ho base e i z size bytes ht hi hz hsize hby hzs hsz v n xs hs hown lv m news hx hC h63 hb hbase fun v' w' h2 h3 h4 => hK _ _ (h v' w' h2 h3 h4)
theorem own_bare {w : World} {base b : Nat} {e : TypeId} {size : Nat} (h : w.heap[b]? = some (.cells #[] e)) (hb : base ≤ b) : w.ownsRow base e size (.slice (some ⟨b, 0, none⟩) 0 0) 0 [] :=
  ⟨by simp, .inr ⟨b, 0, #[], rfl, hb, h, Nat.le_refl _, Nat.zero_le _, by simp, by simp⟩⟩
theorem pin_cells {w : World} {b : Nat} : ∀ {s : Sb} {o : Nat}, PIn w s b o → ∃ news : List Value, news.length = s.length * 4 ∧ PC (fun q => q < w.heap.size) w s news ∧ ∀ j u, news[j]? = some u → w.cell? ⟨b, o + j, none⟩ = some u
  | [], _, _ => ⟨[], rfl, rfl, fun j u h => by simp at h⟩
  | p :: s, o, ⟨h0, h1, h2, ⟨v, h3, h4⟩, h5⟩ => by
    obtain ⟨news, hl, hP, hc⟩ := pin_cells h5
    refine ⟨.int .i64 p.1 :: .bool p.2.1.1 :: .int .i64 p.2.1.2 :: v :: news, by simp only [List.length_cons, hl]; omega, ⟨v, news, rfl, h4.toB, hP⟩, fun j u hj => ?_⟩
    match j, hj with
    | 0, hj => simp at hj; subst hj; simpa using h0
    | 1, hj => simp at hj; subst hj; simpa using h1
    | 2, hj => simp at hj; subst hj; simpa using h2
    | 3, hj => simp at hj; subst hj; simpa using h3
    | j + 4, hj =>
      have := hc j u (by simpa using hj)
      rw [show o + (j + 4) = o + 4 + j by omega]
      exact this
theorem PC.onecell {X : Nat → Prop} {w : World} : ∀ {s : Sb} {xs : List Value}, PC X w s xs → ∀ u ∈ xs, u.oneCell' = true
  | [], _, h, u, hu => by rw [PC] at h; subst h; simp at hu
  | _ :: _, _, ⟨a, ys, h1, h2, h3⟩, u, hu => by
    subst h1
    obtain ⟨_, _, _, _, rfl, _⟩ := h2
    simp only [List.mem_cons] at hu
    rcases hu with rfl | rfl | rfl | rfl | hu
    · rfl
    · rfl
    · rfl
    · rfl
    · exact h3.onecell u hu
theorem sub_cells {w : World} {s : Sb} {v : Value} (h : SubIn w s v) : ∃ news, Cs w v s.length 4 news ∧ PC (fun q => q < w.heap.size) w s news := by
  obtain ⟨a, c, b, o, rfl, h1, h2, h3, h4⟩ := h
  obtain ⟨news, hl, hP, hc⟩ := pin_cells h4
  refine ⟨news, ⟨a, c, rfl, hl, hP.onecell, fun e => ?_, fun ad e j u hj => ?_⟩, hP⟩
  · subst e
    cases s with
    | nil => rfl
    | cons p s => have := h1 (by simp); cases this
  · have hj' := (List.getElem?_eq_some_iff.1 hj).1
    have hae : ad = ⟨b, o, none⟩ := by
      have := h1 (by omega)
      rw [e] at this
      exact Option.some.inj this
    rw [hae, add_plain]
    exact hc j u hj
theorem fin_cells {w : World} {b : Nat} : ∀ {F : Fo} {o : Nat}, FIn w F b o → ∃ news : List Value, news.length = Fo.len F * 3 ∧ CellsOf (fun q => q < w.heap.size) w F news ∧ ∀ j u, news[j]? = some u → w.cell? ⟨b, o + j, none⟩ = some u
  | .nil, _, _ => ⟨[], rfl, rfl, fun j u h => by simp at h⟩
  | .node p q x k r, o, h => by
    obtain ⟨h0, h1, ⟨v, h2, h3⟩, h4⟩ := FIn.node h
    obtain ⟨news, hl, hP, hc⟩ := fin_cells h4
    refine ⟨.bool x.1 :: .int .i64 x.2 :: v :: news, by simp only [List.length_cons, hl, Fo.len]; omega, ⟨v, news, rfl, h3.toB, hP⟩, fun j u hj => ?_⟩
    match j, hj with
    | 0, hj => simp at hj; subst hj; simpa using h0
    | 1, hj => simp at hj; subst hj; simpa using h1
    | 2, hj => simp at hj; subst hj; simpa using h2
    | j + 3, hj =>
      have := hc j u (by simpa using hj)
      rw [show o + (j + 3) = o + 3 + j by omega]
      exact this
theorem terms_cells {w : World} {F : Fo} {v : Value} (h : SIn w F v) : ∃ news, Cs w v (Fo.len F) 3 news ∧ CellsOf (fun q => q < w.heap.size) w F news := by
  obtain ⟨a, c, b, o, rfl, h1, h2, h3, h4⟩ := h
  obtain ⟨news, hl, hP, hc⟩ := fin_cells h4
  refine ⟨news, ⟨a, c, rfl, hl, hP.one, fun e => ?_, fun ad e j u hj => ?_⟩, hP⟩
  · subst e
    rcases Nat.eq_zero_or_pos (Fo.len F) with h | h
    · exact h
    · have := h1 h; cases this
  · have hj' := (List.getElem?_eq_some_iff.1 hj).1
    have hae : ad = ⟨b, o, none⟩ := by
      have := h1 (by omega)
      rw [e] at this
      exact Option.some.inj this
    rw [hae, add_plain]
    exact hc j u hj
end Go.Proofs.Ytiilckjnggeeoad

namespace Go.Proofs.Ytiilckjnggeeoad
open Go.RowKit Go.Deep Go.ChangeShapes Go.WideShapes
attribute [local go_sem ↓] Go.wp_at_zero Go.wp_at_succ
theorem Cs.below {w w' : World} {lv : Value} {m size : Nat} {news : List Value} (h : Cs w lv m size news) (hb : Below w.heap.size w w') : Cs w' lv m size news := by
  obtain ⟨a, c, h1, h2, h3, h4, h5⟩ := h
  exact ⟨a, c, h1, h2, h3, h4, fun ad e j u hj => grow_cell hb _ _ (h5 ad e j u hj)⟩
theorem cs_pair {w : World} {e : Nat} {n yn : Int} {yv : Bool} {a : Option Addr} {l c : Nat} (h : w.heap[e]? = some (.cells #[.int .i64 n, .bool yv, .int .i64 yn, .slice a l c] 92)) : Cs w (.slice (some ⟨e, 0, none⟩) 1 1) 1 4 [.int .i64 n, .bool yv, .int .i64 yn, .slice a l c] :=
  ⟨_, 1, rfl, rfl, by simp [Value.oneCell'], fun e => by (cases e), fun ad hh j u hj => by cases hh; exact World.news_of_block (cs := #[.int .i64 n, .bool yv, .int .i64 yn, .slice a l c]) h j u hj⟩
theorem pairs_row {lo : Nat} {w w' : World} {v : Value} {s s' : Sb} {news ys : List Value} (hb : Below w.heap.size w w') (h : PC (fun q => q < w.heap.size) w s news) (h' : PC (fun q => q < w.heap.size) w s' ys) (ho : w'.ownsRow lo 92 4 v (0 + s.length + s'.length) (([] ++ news) ++ ys)) : SubIn w' (s ++ s') v := by
  refine row_sub (lo := lo) (X := fun q => q < w.heap.size) (xs := news ++ ys) (by simpa using ho) (PC.append (h'.frame (fun _ hq => hq) (fun q i hq => hb.cell hq)) (h.frame (fun _ hq => hq) (fun q i hq => hb.cell hq)))
def MoreRPost (w : World) (s : Sb) (t u : Tm) (e : Ending) (w' : World) : Prop :=
  Below w.heap.size w w' ∧ ∃ (z1 : Option Addr) (z3 : Nat) (s' : Sb) (ok : Bool), e = .returned (.tuple #[.slice z1 s'.length z3, .bool ok]) ∧ SubIn w' s' (.slice z1 s'.length z3) ∧ extT s t u = (if ok then some s' else none) ∧ (ok = false → s' = [] ∨ s' = s)
def MoreRSaid (x : Bool × Int) (k : Fo) : Prop := ∀ (s : Sb) (vs : Value) (y : Bool × Int) (l : Fo) (a c : Value) (w : World),
    SubIn w s vs → SIn w k a → SIn w l c → (s.length + tszR k) * 48 ≤ 140737488355328 →
    Calls Try.prog 35 #[vs, .agg #[.bool x.1, .int .i64 x.2, a], .agg #[.bool y.1, .int .i64 y.2, c]] w (MoreRPost w s (x, k) (y, l))
theorem moreR_fails {w w' : World} {s : Sb} {t u : Tm} (hf : Below w.heap.size w w') (h : extT s t u = none) : MoreRPost w s t u (.returned (.tuple #[.slice none 0 0, .bool false])) w' :=
  ⟨hf, none, 0, [], false, rfl, SubIn.nil _, h, fun _ => .inl rfl⟩
theorem moreR_holds {w w' : World} {s s' : Sb} {t u : Tm} {z1 : Option Addr} {m z3 : Nat} (hf : Below w.heap.size w w') (h : extT s t u = some s') (hm : m = s'.length) (hS : SubIn w' s' (.slice z1 m z3)) : MoreRPost w s t u (.returned (.tuple #[.slice z1 m z3, .bool true])) w' := by
  subst hm
  exact ⟨hf, z1, z3, s', true, rfl, hS, h, fun e => by (cases e)⟩
set_option maxRecDepth 100000 in
set_option maxHeartbeats 2000000 in
theorem moreR_any (x : Bool × Int) (k : Fo) : MoreRSaid x k := by
  refine Fo.ind1 (p := MoreRSaid) ?_ x k
  clear x k
  intro x k ih s vs y l a c w hO hS hU hlen
  obtain ⟨v, n⟩ := x
  obtain ⟨yv, yn⟩ := y
  have HI := hide ih
  have HO := hide hO
  have HU := hide hU
  obtain ⟨z1, z3, sb, so, rfl, hz1, hzc, hzm, hP⟩ := hO
  obtain ⟨ad, ac, b, o, rfl, had, hlc, hcm, hF⟩ := hS
  obtain ⟨ud, uc, ub, uo, rfl, hud, hulc, hucm, hG⟩ := hU
  have HP := hide hP
  have HF := hide hF
  have HG := hide hG
  have hlent : 0 < tszR k := by unfold tszR; omega
  have hzm' := hzm
  unfold maxLen at hcm hucm hzm
  clear ih hF hG hP
  cases v
  · clear hz1
    by_cases hc : yv = false ∧ yn = n ∧ Fo.len l = Fo.len k
    · obtain ⟨rfl, rfl, hll⟩ := hc
      have Hres : Hid (extT s ((false, yn), k) ((false, yn), l) = extF k l s) := extT_in hll
      have hllb : ((Fo.len l : Int) != (Fo.len k : Int)) = false := by simp [hll]
      have hnb : (yn != yn) = false := by simp
      have Hll := hide hll
      have hll1 : Fo.len l ≤ Fo.len k := by omega
      have hll2 : Fo.len k ≤ Fo.len l := by omega
      have Hl := hide (Fo.len_list k)
      have Hl2 := hide (Fo.len_list l)
      clear hll
      go_enter Try.func35, Try.ntmps35
      go_wp2_with fail
      generalize hW2 : (w.alloc (.cells #[.bool false, .int .i64 yn, .slice ad (Fo.len k) ac] 33)).alloc (.cells #[.bool false, .int .i64 yn, .slice ud (Fo.len l) uc] 33) = W2
      have hs2 : W2.heap.size = w.heap.size + 1 + 1 := by rw [← hW2]; simp
      have hB2 : Below w.heap.size w W2 := by rw [← hW2]; exact (below_alloc _ _).alloc (by simp) _
      have q2 : W2.cell? ⟨w.heap.size, 2, none⟩ = some (.slice ad (Fo.len k) ac) := by rw [← hW2, World.cell?_alloc_lt _ _ _ (by simp)]; exact new_cell rfl
      have r2 : W2.cell? ⟨w.heap.size + 1, 2, none⟩ = some (.slice ud (Fo.len l) uc) := by rw [← hW2]; exact new_cell (World.size_alloc _ _)
      have Hq2 := hide q2
      have Hr2 := hide r2
      have HB2 := hide hB2
      clear hW2 q2 r2 hB2
      go_loopw [0, 62] (fun vj i wr => ∃ (j : Nat) (sj : Sb) (y1 : Option Addr) (y3 : Nat), j ≤ Fo.len k ∧ i = .int .i64 j ∧ vj = .slice y1 sj.length y3 ∧ extF (Fo.take j k) (Fo.take j l) s = some sj ∧ SubIn wr sj (.slice y1 sj.length y3) ∧ Below W2.heap.size W2 wr) (fun _ i _ => Fo.len k - (intOf i).toNat)
      case atStart => exact ⟨0, s, z1, z3, Nat.zero_le _, rfl, rfl, rfl, HO.out.below HB2.out, Below.refl _ _⟩
      case round =>
        obtain ⟨j, sj, y1, y3, hj, rfl, rfl, hex, hOj, hFj⟩ := hrel
        have Hex := hide hex
        have HOj := hide hOj
        have HFj := hide hFj
        clear hex hOj hFj
        have hBw := below_step HB2.out HFj.out
        have HBw := hide hBw
        by_cases hlt : j < Fo.len k
        · have hlt' : (j : Int) < (Fo.len k : Int) := by omega
          have hlt2 : (j : Int) < (Fo.len l : Int) := by omega
          have hj0 : (0 : Int) ≤ (j : Int) := by omega
          have had' := had (by omega)
          have hud' := hud (by omega)
          subst had' hud'
          obtain ⟨⟨⟨pv, pn⟩, pk⟩, hp⟩ : ∃ y, k.list[j]? = some y := ⟨k.list[j]'(by rw [Hl.out]; exact hlt), by simp⟩
          obtain ⟨⟨⟨tv, tn⟩, tk⟩, ht⟩ : ∃ y, l.list[j]? = some y := ⟨l.list[j]'(by rw [Hl2.out]; omega), by simp⟩
          obtain ⟨c0, c1, pa, c2, hSp⟩ := HF.out.at hp
          obtain ⟨d0, d1, ta, d2, hSt⟩ := HG.out.at ht
          have c0' := grow_cell hBw _ _ c0
          have c1' := grow_cell hBw _ _ c1
          have c2' := grow_cell hBw _ _ c2
          have d0' := grow_cell hBw _ _ d0
          have d1' := grow_cell hBw _ _ d1
          have d2' := grow_cell hBw _ _ d2
          have e2 := grow_cell HFj.out _ _ Hq2.out
          have f2 := grow_cell HFj.out _ _ Hr2.out
          have HSp := hide (hSp.below hBw).drew
          have HSt := hide (hSt.below hBw).drew
          obtain ⟨pa1, pc, pb, po, rfl, -, -, -, -⟩ := hSp
          obtain ⟨ta1, tc, tb, t4, rfl, -, -, -, -⟩ := hSt
          have Hbd : Hid ((sj.length + tszR pk) * 48 ≤ 140737488355328) := by
            have h1 := extF_len Hex.out
            have h2 := sizesR_take j k
            rw [hp] at h2
            simp only at h2
            unfold tszR at h2 hlen
            unfold tszR Hid
            omega
          have Hstep : Hid (extF (Fo.take (j + 1) k) (Fo.take (j + 1) l) s = extT sj ((pv, pn), pk) ((tv, tn), tk)) := by
            rw [Hid, ext_snoc s hp ht, Hex.out]; rfl
          have hcall : Calls Try.prog 35 #[.slice y1 sj.length y3, .agg #[.bool pv, .int .i64 pn, .slice pa1 (Fo.len pk) pc], .agg #[.bool tv, .int .i64 tn, .slice ta1 (Fo.len tk) tc]] wr.drew (MoreRPost wr.drew sj ((pv, pn), pk) ((tv, tn), tk)) :=
            HI.out ((pv, pn), pk) (List.mem_of_getElem? hp) sj _ (tv, tn) tk _ _ wr.drew HOj.out.drew HSp.out HSt.out Hbd.out
          have Hcall := hide hcall
          clear c0 c1 c2 d0 d1 d2 hp ht had hud hcall hBw
          go_upto_region 14 with fail
          go_region_with (first
            | (go_at_call 35; refine Hcall.out.mono ?_; rintro e w2 ⟨hb2, x1, x3, s2, ok, rfl, hS2, hyes, -⟩))
          all_goals
            have Hb2 := hide (below_step HFj.out ((Below.refl _ _).drew.trans hb2))
            cases ok
            · have Hf : Hid (MoreRPost w s ((false, yn), k) ((false, yn), l) (.returned (.tuple #[.slice none 0 0, .bool false])) w2) :=
                moreR_fails (below_step HB2.out Hb2.out) (Hres.out.trans (ext_none (j := j + 1) Hll.out.symm (Hstep.out.trans hyes)))
              clear hyes hS2 hb2
              go_wp2_with fail
              go_ret2
              exact Hf.out
            · have HS2 := hide hS2
              have Hs2 : Hid (extF (Fo.take (j + 1) k) (Fo.take (j + 1) l) s = some s2) := Hstep.out.trans hyes
              clear hyes hS2 hb2
              go_wp2_with fail
              go_roundw
              case rel => exact ⟨j + 1, s2, x1, x3, by omega, by go_num, rfl, Hs2.out, HS2.out, Hb2.out⟩
              case measure => simp [intOf]; omega
        · have Hf : Hid (MoreRPost w s ((false, yn), k) ((false, yn), l) (.returned (.tuple #[.slice y1 sj.length y3, .bool true])) wr) := by
            refine moreR_holds HBw.out (Hres.out.trans ?_) rfl HOj.out
            have e : j = Fo.len k := by omega
            have := Hex.out
            rw [e, take_all, ← Hll.out, take_all] at this
            exact this
          clear had hud
          go_wp2_with fail
          go_ret2
          exact Hf.out
    · have Hres : Hid (extT s ((false, n), k) ((yv, yn), l) = none) := extT_no hc
      have Hf : Hid (∀ w', Below w.heap.size w w' → MoreRPost w s ((false, n), k) ((yv, yn), l) (.returned (.tuple #[.slice none 0 0, .bool false])) w') := fun w' hb => moreR_fails hb Hres.out
      have Hb : Hid (Below w.heap.size w ((w.alloc (.cells #[.bool false, .int .i64 n, .slice ad (Fo.len k) ac] 33)).alloc (.cells #[.bool yv, .int .i64 yn, .slice ud (Fo.len l) uc] 33))) := (below_alloc _ _).alloc (by simp) _
      cases yv
      · by_cases hn : yn = n
        · have hl : ¬ Fo.len l = Fo.len k := fun e => hc ⟨rfl, hn, e⟩
          have hnb : (yn != n) = false := by simp [hn]
          have hlb : ((Fo.len l : Int) != (Fo.len k : Int)) = true := by simp; omega
          clear hc hn hl
          go_enter Try.func35, Try.ntmps35
          go_wp2_with fail
          go_ret2
          exact Hf.out _ Hb.out
        · have hnb : (yn != n) = true := by simp [hn]
          clear hc hn
          go_enter Try.func35, Try.ntmps35
          go_wp2_with fail
          go_ret2
          exact Hf.out _ Hb.out
      · clear hc
        go_enter Try.func35, Try.ntmps35
        go_wp2_with fail
        go_ret2
        exact Hf.out _ Hb.out
  · clear had hud
    go_enter Try.func35, Try.ntmps35
    go_wp2_with fail
    generalize hW2 : (w.alloc (.cells #[.bool true, .int .i64 n, .slice ad (Fo.len k) ac] 33)).alloc (.cells #[.bool yv, .int .i64 yn, .slice ud (Fo.len l) uc] 33) = W2
    have hs2 : W2.heap.size = w.heap.size + 1 + 1 := by rw [← hW2]; simp
    have hB2 : Below w.heap.size w W2 := by rw [← hW2]; exact (below_alloc _ _).alloc (by simp) _
    have q1 : W2.cell? ⟨w.heap.size, 1, none⟩ = some (.int .i64 n) := by rw [← hW2, World.cell?_alloc_lt _ _ _ (by simp)]; exact new_cell rfl
    have r0 : W2.cell? ⟨w.heap.size + 1, 0, none⟩ = some (.bool yv) := by rw [← hW2]; exact new_cell (World.size_alloc _ _)
    have r1 : W2.cell? ⟨w.heap.size + 1, 1, none⟩ = some (.int .i64 yn) := by rw [← hW2]; exact new_cell (World.size_alloc _ _)
    have r2 : W2.cell? ⟨w.heap.size + 1, 2, none⟩ = some (.slice ud (Fo.len l) uc) := by rw [← hW2]; exact new_cell (World.size_alloc _ _)
    have HR := hide (And.intro q1 (And.intro r0 (And.intro r1 r2)))
    have HB2 := hide hB2
    clear hW2 q1 r0 r1 r2 hB2
    go_loopw [17] (fun i wr => ∃ j : Nat, j ≤ s.length ∧ i = .int .i64 j ∧ (∀ q p, q < j → s[q]? = some p → p.1 ≠ n) ∧ Below W2.heap.size W2 wr) (fun i _ => s.length - (intOf i).toNat)
    case atStart => exact ⟨0, Nat.zero_le _, rfl, fun q p hq => by omega, Below.refl _ _⟩
    case round =>
      obtain ⟨j, hj, rfl, hno, hBr⟩ := hrel
      have Hno := hide hno
      have hBw := below_step HB2.out hBr
      have HBr := hide hBr
      have HBw := hide hBw
      obtain ⟨q1, r0, r1, r2⟩ := HR.out
      have q1' := grow_cell hBr _ _ q1
      have r0' := grow_cell hBr _ _ r0
      have r1' := grow_cell hBr _ _ r1
      have r2' := grow_cell hBr _ _ r2
      have hsr := hBr.size
      clear hno q1 r0 r1 r2 hBr
      by_cases hlt : j < s.length
      · have hlt' : (j : Int) < (s.length : Int) := by omega
        have hj0 : (0 : Int) ≤ (j : Int) := by omega
        obtain ⟨⟨m, ⟨tv, tn⟩, tk⟩, hy⟩ : ∃ y, s[j]? = some y := ⟨s[j], by simp [hlt]⟩
        have hz := hz1 (by omega)
        subst hz
        obtain ⟨c0, c1, c2, yv', c3, hSy⟩ := (HP.out.below hBw).at hy
        have HSy := hide hSy
        obtain ⟨ya, yc, yb, yo, rfl, -, -, -, -⟩ := hSy
        have HUr := hide (HU.out.below hBw)
        have Hnx : Hid (m ≠ n → ∀ q p, q < j + 1 → s[q]? = some p → p.1 ≠ n) := fun h q p hq hp => by
          by_cases e : q = j
          · subst e; rw [hy] at hp; cases hp; exact h
          · exact Hno.out q p (by omega) hp
        have Hlk : Hid (m = n → look s n = some ((tv, tn), tk)) := fun h => by subst h; exact look_first Hno.out hy
        clear hz1 hy hBw
        go_upto_region 5 with fail
        generalize hwa : wr.alloc (.cells #[.int .i64 m, .bool tv, .int .i64 tn, .slice ya (Fo.len tk) yc] 92) = wa
        have a0 : wa.cell? ⟨wr.heap.size, 0, none⟩ = some (.int .i64 m) := by rw [← hwa]; exact new_cell rfl
        have a1 : wa.cell? ⟨wr.heap.size, 1, none⟩ = some (.bool tv) := by rw [← hwa]; exact new_cell rfl
        have a2 : wa.cell? ⟨wr.heap.size, 2, none⟩ = some (.int .i64 tn) := by rw [← hwa]; exact new_cell rfl
        have a3 : wa.cell? ⟨wr.heap.size, 3, none⟩ = some (.slice ya (Fo.len tk) yc) := by rw [← hwa]; exact new_cell rfl
        have hba : Below wr.heap.size wr wa := by rw [← hwa]; exact below_alloc _ _
        have f1 := grow_cell hba _ _ q1'
        have g0 := grow_cell hba _ _ r0'
        have g1 := grow_cell hba _ _ r1'
        have g2 := grow_cell hba _ _ r2'
        have HSa := hide (HSy.out.below hba)
        have HUa := hide (HUr.out.below hba)
        have Hba := hide hba
        clear hwa c0 c1 c2 c3 q1' r0' r1' r2' hba
        by_cases he : m = n
        · have heb : (m == n) = true := by simp [he]
          have Hres : Hid (extT s ((true, n), k) ((yv, yn), l) = if sameT (tv, tn) tk (yv, yn) l then some s else none) := extT_old (Hlk.out he)
          clear he
          go_wp2_with fail
          refine (sameR_any (tv, tn) tk (yv, yn) l _ _ wa HSa.out HUa.out).mono ?_
          rintro e w2 ⟨rfl, hb2⟩
          have Hb2 := hide (below_step HBw.out (below_step Hba.out hb2))
          clear hb2
          cases hsm : sameT (tv, tn) tk (yv, yn) l
          · have Hf : Hid (MoreRPost w s ((true, n), k) ((yv, yn), l) (.returned (.tuple #[.slice (some ⟨sb, so, none⟩) s.length z3, .bool false])) w2) :=
              ⟨Hb2.out, _, _, s, false, rfl, HO.out.below Hb2.out, by rw [Hres.out, hsm], fun _ => .inr rfl⟩
            clear hsm
            go_wp2_with fail
            go_ret2
            exact Hf.out
          · have Hf : Hid (MoreRPost w s ((true, n), k) ((yv, yn), l) (.returned (.tuple #[.slice (some ⟨sb, so, none⟩) s.length z3, .bool true])) w2) :=
              ⟨Hb2.out, _, _, s, true, rfl, HO.out.below Hb2.out, by rw [Hres.out, hsm], fun e => by (cases e)⟩
            clear hsm
            go_wp2_with fail
            go_ret2
            exact Hf.out
        · have heb : (m == n) = false := by simp [he]
          have Hn := hide (Hnx.out he)
          clear he
          go_wp2_with fail
          go_roundw
          case rel => exact ⟨j + 1, by omega, by go_num, Hn.out, below_step HBr.out Hba.out⟩
          case measure => simp [intOf]; omega
      · have Hres : Hid (extT s ((true, n), k) ((yv, yn), l) = some (s ++ [(n, ((yv, yn), l))])) := extT_new (look_all (fun q p hq => Hno.out q p (by omega)))
        obtain ⟨i52, hi52, hz0, hz1', hz2⟩ := info_parts Try.info92
        obtain ⟨news, hCs, hPC⟩ := sub_cells HO.out
        have HCs := hide hCs
        have HPC := hide hPC
        have hn1 : 0 + s.length ≤ maxLen := by unfold maxLen; omega
        have hn2 : (0 + s.length) * 48 ≤ 140737488355328 := by omega
        have hn3 : 0 + s.length + 1 ≤ maxLen := by unfold maxLen; omega
        have hn4 : (0 + s.length + 1) * 48 ≤ 140737488355328 := by omega
        clear hz1 hBw hCs hPC
        have hsw : w.heap.size ≤ wr.heap.size := by omega
        have A1 : Hid ((wr.alloc (.cells #[] 92)).drew.ownsRow w.heap.size 92 4 (.slice (some ⟨wr.heap.size, 0, none⟩) 0 0) 0 []) := own_bare (heap_alloc_new wr _) hsw
        have A2 : Hid (((wr.alloc (.cells #[] 92)).alloc (.cells #[.int .i64 n, .bool yv, .int .i64 yn, .slice ud (Fo.len l) uc] 92)).drew.ownsRow w.heap.size 92 4 (.slice (some ⟨wr.heap.size, 0, none⟩) 0 0) 0 []) := own_bare ((Below.heap_alloc _ _ _ (by simp)).trans (heap_alloc_new wr _)) hsw
        have A3 : Hid (((wr.alloc (.cells #[.int .i64 n, .bool yv, .int .i64 yn, .slice ud (Fo.len l) uc] 92)).alloc (.cells #[] 92)).drew.ownsRow w.heap.size 92 4 (.slice (some ⟨wr.heap.size + 1, 0, none⟩) 0 0) 0 []) := own_bare (by have := heap_alloc_new (wr.alloc (.cells #[.int .i64 n, .bool yv, .int .i64 yn, .slice ud (Fo.len l) uc] 92)) (.cells #[] 92); rw [World.size_alloc] at this; exact this) (by omega)
        have B1 : Hid (Below wr.heap.size wr (wr.alloc (.cells #[] 92)).drew) := (below_alloc _ _).drew
        have B2 : Hid (Below wr.heap.size wr ((wr.alloc (.cells #[] 92)).alloc (.cells #[.int .i64 n, .bool yv, .int .i64 yn, .slice ud (Fo.len l) uc] 92)).drew) := ((below_alloc _ _).alloc (by simp) _).drew
        have B3 : Hid (Below wr.heap.size wr ((wr.alloc (.cells #[.int .i64 n, .bool yv, .int .i64 yn, .slice ud (Fo.len l) uc] 92)).alloc (.cells #[] 92)).drew) := ((below_alloc _ _).alloc (by simp) _).drew
        have M2 : Hid (∀ wA : World, ((wr.alloc (.cells #[] 92)).alloc (.cells #[.int .i64 n, .bool yv, .int .i64 yn, .slice ud (Fo.len l) uc] 92)).drew.grownBy wA (some wr.heap.size) → Cs wA (.slice (some ⟨wr.heap.size + 1, 0, none⟩) 1 1) 1 4 [.int .i64 n, .bool yv, .int .i64 yn, .slice ud (Fo.len l) uc]) := fun wA hg => cs_pair (by
          rw [hg.block (wr.heap.size + 1) (by simp) (by simp)]
          have := heap_alloc_new (wr.alloc (.cells #[] 92)) (.cells #[.int .i64 n, .bool yv, .int .i64 yn, .slice ud (Fo.len l) uc] 92)
          rw [World.size_alloc] at this
          exact this)
        have M3 : Hid (∀ wA : World, ((wr.alloc (.cells #[.int .i64 n, .bool yv, .int .i64 yn, .slice ud (Fo.len l) uc] 92)).alloc (.cells #[] 92)).drew.grownBy wA (some (wr.heap.size + 1)) → Cs wA (.slice (some ⟨wr.heap.size, 0, none⟩) 1 1) 1 4 [.int .i64 n, .bool yv, .int .i64 yn, .slice ud (Fo.len l) uc]) := fun wA hg => cs_pair (by
          rw [hg.block wr.heap.size (by show wr.heap.size < ((wr.alloc _).alloc _).heap.size; rw [size2]; omega) (by simp)]
          exact (Below.heap_alloc _ _ _ (by simp)).trans (heap_alloc_new wr _))
        go_upto_region 8 with fail
        go_region_held3 (fun w' => w'.cell? ⟨w.heap.size, 1, none⟩ = some (.int .i64 n) ∧ w'.cell? ⟨w.heap.size + 1, 0, none⟩ = some (.bool yv) ∧ w'.cell? ⟨w.heap.size + 1, 1, none⟩ = some (.int .i64 yn) ∧ w'.cell? ⟨w.heap.size + 1, 2, none⟩ = some (.slice ud (Fo.len l) uc))
          (first
            | exact ⟨grow_cell BB _ _ q1', grow_cell BB _ _ r0', grow_cell BB _ _ r1', grow_cell BB _ _ r2'⟩
            | exact ⟨grow_cell BA _ _ q1', grow_cell BA _ _ r0', grow_cell BA _ _ r1', grow_cell BA _ _ r2'⟩
            | go_keep)
          (first
            | (refine step_append_gen (by rfl) _ _ _ (by rfl) w.heap.size 92 i52 (.agg #[.int .i64 0, .bool false, .int .i64 0, .slice none 0 0]) 4 48 Try.underlying58 hi52 hz0 hz1' hz2 rfl (by decide) (.slice (some ⟨wr.heap.size, 0, none⟩) 0 0) 0 [] (by rfl) A1.out (.slice z1 s.length z3) s.length news (by rfl) (HCs.out.below (below_step HBw.out B1.out)) hn1 hn2 ?hb ?_; (case hb => simp; omega); intro vA wA hoA hgA hatA; obtain ⟨BA, VA, SA⟩ := vars_row B1.out hgA hatA (by simp [Value.ownBlock]); have Q1 : Hid True := trivial)
            | (refine step_append_gen (by rfl) _ _ _ (by rfl) w.heap.size 92 i52 (.agg #[.int .i64 0, .bool false, .int .i64 0, .slice none 0 0]) 4 48 Try.underlying58 hi52 hz0 hz1' hz2 rfl (by decide) (.slice (some ⟨wr.heap.size, 0, none⟩) 0 0) 0 [] (by rfl) A2.out (.slice z1 s.length z3) s.length news (by rfl) (HCs.out.below (below_step HBw.out B2.out)) hn1 hn2 ?hb ?_; (case hb => simp; omega); intro vA wA hoA hgA hatA; obtain ⟨BA, VA, SA⟩ := vars_row B2.out hgA hatA (by simp [Value.ownBlock]); have Q2 := hide (M2.out wA hgA))
            | (refine step_append_gen (by rfl) _ _ _ (by rfl) w.heap.size 92 i52 (.agg #[.int .i64 0, .bool false, .int .i64 0, .slice none 0 0]) 4 48 Try.underlying58 hi52 hz0 hz1' hz2 rfl (by decide) (.slice (some ⟨wr.heap.size + 1, 0, none⟩) 0 0) 0 [] (by rfl) A3.out (.slice z1 s.length z3) s.length news (by rfl) (HCs.out.below (below_step HBw.out B3.out)) hn1 hn2 ?hb ?_; (case hb => simp; omega); intro vA wA hoA hgA hatA; obtain ⟨BA, VA, SA⟩ := vars_row B3.out hgA hatA (by simp [Value.ownBlock]); have Q3 := hide (M3.out wA hgA))
            | (refine step_append_gen (by rfl) _ _ _ (by rfl) w.heap.size 92 i52 (.agg #[.int .i64 0, .bool false, .int .i64 0, .slice none 0 0]) 4 48 Try.underlying58 hi52 hz0 hz1' hz2 rfl (by decide) vA (0 + s.length) ([] ++ news) (by rfl) ?own (.slice (some ⟨wA.heap.size, 0, none⟩) 1 1) 1 [.int .i64 n, .bool yv, .int .i64 yn, .slice ud (Fo.len l) uc] (by rfl) ?nin hn3 hn4 ?hb ?_; (case own => exact owns_keep hoA (fun g hg => Below.heap_alloc _ _ _ (owns_at hoA g hg).2)); (case nin => exact cs_pair (heap_alloc_new wA _)); (case hb => simp; omega); intro vB wB hoB hgB hatB; have BB := vars_row2 ((BA.alloc BA.size _)) hgB VA)
            | (refine step_append_gen (by rfl) _ _ _ (by rfl) w.heap.size 92 i52 (.agg #[.int .i64 0, .bool false, .int .i64 0, .slice none 0 0]) 4 48 Try.underlying58 hi52 hz0 hz1' hz2 rfl (by decide) vA (0 + s.length) ([] ++ news) (by rfl) hoA _ 1 [.int .i64 n, .bool yv, .int .i64 yn, .slice ud (Fo.len l) uc] (by rfl) Q2.out hn3 hn4 ?hb ?_; (case hb => omega); intro vB wB hoB hgB hatB; have BB := vars_row2 BA hgB VA)
            | (refine step_append_gen (by rfl) _ _ _ (by rfl) w.heap.size 92 i52 (.agg #[.int .i64 0, .bool false, .int .i64 0, .slice none 0 0]) 4 48 Try.underlying58 hi52 hz0 hz1' hz2 rfl (by decide) vA (0 + s.length) ([] ++ news) (by rfl) hoA _ 1 [.int .i64 n, .bool yv, .int .i64 yn, .slice ud (Fo.len l) uc] (by rfl) Q3.out hn3 hn4 ?hb ?_; (case hb => omega); intro vB wB hoB hgB hatB; have BB := vars_row2 BA hgB VA))
        all_goals
          have HBB := hide (below_step HBw.out BB)
          have HSB := hide (pairs_row (s' := [(n, ((yv, yn), l))]) HBB.out HPC.out (PC.one HU.out.toB) hoB)
          obtain ⟨x1, x3, rfl⟩ := slice_of_sub HSB.out
          have Hf : Hid (MoreRPost w s ((true, n), k) ((yv, yn), l) (.returned (.tuple #[.slice x1 (s ++ [(n, ((yv, yn), l))]).length x3, .bool true])) wB) := moreR_holds HBB.out Hres.out rfl HSB.out
          clear hoA hoB hgA hgB hatA hatB BA BB VA SA
          go_wp2_with fail
          go_ret2
          exact Hf.out
end Go.Proofs.Ytiilckjnggeeoad

namespace Go.Proofs.Ytiilckjnggeeoad
open Go.RowKit Go.Deep Go.ChangeShapes Go.WideShapes
theorem runU_step {m : Nat} {s s' : Sb} {p : Tm × Tm} {L L' : List (Tm × Tm)} {R : Option Sb} (h : stepU s p.1 p.2 L = some (s', L')) : runU (m + 1) s (p :: L) = some R ↔ runU m s' L' = some R := by
  simp [runU, h]
theorem runU_stop {m : Nat} {s : Sb} {p : Tm × Tm} {L : List (Tm × Tm)} {R : Option Sb} (h : stepU s p.1 p.2 L = none) : runU (m + 1) s (p :: L) = some R ↔ R = none := by
  simp [runU, h, eq_comm]
theorem sub_var {s : Sb} {t : Tm} (h : t.1.1 = true) (hf : look s t.1.2 = none) : subT (bnd s) t = vr t.1.2 := by
  unfold subT
  rw [if_pos h]
  exact bnd_none hf
theorem sub_sym {s : Sb} {t : Tm} (h : ¬ t.1.1 = true) : subT (bnd s) t = ((false, t.1.2), subF (bnd s) t.2) := by
  unfold subT
  rw [if_neg h]
theorem run_skip : ∀ (n : Nat) (s : Sb) (p : Tm × Tm) (L : List (Tm × Tm)) (R : Option Sb), UI s (p :: L) → runU n s (p :: L) = some R → subT (bnd s) p.1 = subT (bnd s) p.2 → ∃ m, m < n ∧ runU m s L = some R := by
  intro n
  induction n using Nat.strongRecOn with
  | _ n ih =>
    intro s p L R h hr he
    cases n with
    | zero => simp [runU] at hr
    | succ n =>
      have t1 := top_sub h.idem (ui_ok h) p.1
      have t2 := top_sub h.idem (ui_ok h) p.2
      have exy : subT (bnd s) (top s p.1) = subT (bnd s) (top s p.2) := by rw [t1, t2, he]
      by_cases hx : (top s p.1).1.1 = true
      · have ex := sub_var hx (top_free h.idem hx)
        by_cases hy : (top s p.2).1.1 = true
        · have ey := sub_var hy (top_free h.idem hy)
          rw [ex, ey] at exy
          have hst : stepU s p.1 p.2 L = some (s, L) := by
            unfold stepU
            rw [if_pos ⟨hx, hy, by simpa [vr] using exy⟩]
          exact ⟨n, Nat.lt_succ_self n, (runU_step hst).1 hr⟩
        · rw [ex, sub_sym hy] at exy
          simp [vr] at exy
      · by_cases hy : (top s p.2).1.1 = true
        · rw [sub_var hy (top_free h.idem hy), sub_sym hx] at exy
          simp [vr] at exy
        · rw [sub_sym hx, sub_sym hy] at exy
          simp only [Prod.mk.injEq, true_and] at exy
          have hl : Fo.len (top s p.1).2 = Fo.len (top s p.2).2 := by rw [← subF_len (bnd s), exy.2, subF_len]
          have hst : stepU s p.1 p.2 L = some (s, (top s p.1).2.list.zip (top s p.2).2.list ++ L) := by
            unfold stepU
            rw [if_neg (fun e => hx e.1), if_neg hx, if_neg hy, if_pos ⟨exy.1, hl⟩]
          have hU := (step_keeps h hst).1
          have hz := subF_zip exy.2
          have hr' := (runU_step hst).1 hr
          -- all of them, one after the other
          have all : ∀ (M : List (Tm × Tm)) (k : Nat), k ≤ n → UI s (M ++ L) → (∀ q ∈ M, subT (bnd s) q.1 = subT (bnd s) q.2) → runU k s (M ++ L) = some R → ∃ m, m ≤ n ∧ runU m s L = some R := by
            intro M
            induction M with
            | nil => intro k hk _ _ hk2; exact ⟨k, hk, hk2⟩
            | cons q M ihM =>
              intro k hk hUk hq hk2
              obtain ⟨m, hm, hm2⟩ := ih k (by omega) s q (M ++ L) R hUk hk2 (hq q (by simp))
              exact ihM m (by omega) (ui_tail hUk) (fun z hz => hq z (by simp [hz])) hm2
          obtain ⟨m, hm, hm2⟩ := all _ n (Nat.le_refl _) hU hz hr'
          exact ⟨m, by omega, hm2⟩
theorem run_sym {n : Nat} {s : Sb} {p : Tm × Tm} {L : List (Tm × Tm)} {R : Option Sb} (h : UI s (p :: L)) (hr : runU n s (p :: L) = some R) (hx : ¬ (subT (bnd s) p.1).1.1 = true) (hy : ¬ (subT (bnd s) p.2).1.1 = true) :
    (¬ ((subT (bnd s) p.1).1.2 = (subT (bnd s) p.2).1.2 ∧ Fo.len (subT (bnd s) p.1).2 = Fo.len (subT (bnd s) p.2).2) → R = none) ∧
    ((subT (bnd s) p.1).1.2 = (subT (bnd s) p.2).1.2 ∧ Fo.len (subT (bnd s) p.1).2 = Fo.len (subT (bnd s) p.2).2 → ∃ m M, m < n ∧ UI s (M ++ L) ∧ runU m s (M ++ L) = some R ∧ M.map (fun q => subT (bnd s) q.1) = (subT (bnd s) p.1).2.list ∧ M.map (fun q => subT (bnd s) q.2) = (subT (bnd s) p.2).2.list) := by
  cases n with
  | zero => simp [runU] at hr
  | succ n =>
    have t1 := top_sub h.idem (ui_ok h) p.1
    have t2 := top_sub h.idem (ui_ok h) p.2
    rw [← t1] at hx ⊢
    rw [← t2] at hy ⊢
    have hx' : ¬ (top s p.1).1.1 = true := fun e => hx (by rw [sub_var e (top_free h.idem e)]; rfl)
    have hy' : ¬ (top s p.2).1.1 = true := fun e => hy (by rw [sub_var e (top_free h.idem e)]; rfl)
    rw [sub_sym hx', sub_sym hy']
    simp only [subF_len]
    refine ⟨fun hc => ?_, fun hc => ?_⟩
    · have hst : stepU s p.1 p.2 L = none := by
        unfold stepU
        rw [if_neg (fun e => hx' e.1), if_neg hx', if_neg hy', if_neg hc]
      exact (runU_stop hst).1 hr
    · have hst : stepU s p.1 p.2 L = some (s, (top s p.1).2.list.zip (top s p.2).2.list ++ L) := by
        unfold stepU
        rw [if_neg (fun e => hx' e.1), if_neg hx', if_neg hy', if_pos hc]
      refine ⟨n, _, Nat.lt_succ_self n, (step_keeps h hst).1, (runU_step hst).1 hr, ?_, ?_⟩
      · have e : ((top s p.1).2.list.zip (top s p.2).2.list).map Prod.fst = (top s p.1).2.list := by
          rw [List.map_fst_zip]
          rw [Fo.len_list, Fo.len_list]; omega
        have e2 := congrArg (List.map (subT (bnd s))) e
        rw [List.map_map] at e2
        rw [subF_list]
        exact e2
      · have e : ((top s p.1).2.list.zip (top s p.2).2.list).map Prod.snd = (top s p.2).2.list := by
          rw [List.map_snd_zip]
          rw [Fo.len_list, Fo.len_list]; omega
        have e2 := congrArg (List.map (subT (bnd s))) e
        rw [List.map_map] at e2
        rw [subF_list]
        exact e2
theorem run_var {n : Nat} {s : Sb} {p : Tm × Tm} {L : List (Tm × Tm)} {R : Option Sb} {u v : Tm} (h : UI s (p :: L)) (hr : runU n s (p :: L) = some R) (hne : subT (bnd s) p.1 ≠ subT (bnd s) p.2)
    (huv : (u = subT (bnd s) p.1 ∧ v = subT (bnd s) p.2 ∧ u.1.1 = true) ∨ (u = subT (bnd s) p.2 ∧ v = subT (bnd s) p.1 ∧ u.1.1 = true ∧ ¬ v.1.1 = true)) :
    (addS s u.1.2 v = none → R = none) ∧ ∀ s1, addS s u.1.2 v = some s1 → ∃ m, m < n ∧ UI s1 L ∧ runU m s1 L = some R ∧ Ref s s1 := by
  cases n with
  | zero => simp [runU] at hr
  | succ n =>
    have t1 := top_sub h.idem (ui_ok h) p.1
    have t2 := top_sub h.idem (ui_ok h) p.2
    have key : ∃ x y, (x = top s p.1 ∧ y = top s p.2 ∨ x = top s p.2 ∧ y = top s p.1) ∧ x.1.1 = true ∧ x.1.2 = u.1.2 ∧ subT (bnd s) y = v ∧ stepU s p.1 p.2 L = (addS s x.1.2 (subT (bnd s) y)).map fun s' => (s', L) := by
      rcases huv with ⟨hu, hv, h1⟩ | ⟨hu, hv, h1, h2⟩
      · rw [← t1] at hu
        rw [← t2] at hv
        have hx : (top s p.1).1.1 = true := by
          by_cases e : (top s p.1).1.1 = true
          · exact e
          · rw [hu, sub_sym e] at h1; simp at h1
        have hun : (top s p.1).1.2 = u.1.2 := by rw [hu, sub_var hx (top_free h.idem hx)]; rfl
        refine ⟨_, _, .inl ⟨rfl, rfl⟩, hx, hun, hv.symm, ?_⟩
        unfold stepU
        rw [if_neg, if_pos hx]
        rintro ⟨_, hy, hxy⟩
        apply hne
        rw [← t1, ← t2, sub_var hx (top_free h.idem hx), sub_var hy (top_free h.idem hy), hxy]
      · rw [← t2] at hu
        rw [← t1] at hv
        have hy : (top s p.2).1.1 = true := by
          by_cases e : (top s p.2).1.1 = true
          · exact e
          · rw [hu, sub_sym e] at h1; simp at h1
        have hx : ¬ (top s p.1).1.1 = true := fun e => h2 (by rw [hv, sub_var e (top_free h.idem e)]; rfl)
        have hun : (top s p.2).1.2 = u.1.2 := by rw [hu, sub_var hy (top_free h.idem hy)]; rfl
        refine ⟨_, _, .inr ⟨rfl, rfl⟩, hy, hun, hv.symm, ?_⟩
        unfold stepU
        rw [if_neg (fun e => hx e.1), if_neg hx, if_pos hy]
    obtain ⟨x, y, hxy, hxv, hxn, hyv, hst⟩ := key
    rw [hyv, hxn] at hst
    refine ⟨fun e => ?_, fun s1 e => ?_⟩
    · rw [e] at hst
      exact (runU_stop hst).1 hr
    · have ha : addS s x.1.2 (subT (bnd s) y) = some s1 := by rw [hyv, hxn]; exact e
      rw [e] at hst
      obtain ⟨k1, _, k3, _⟩ := step_add h hxy hxv ha
      exact ⟨n, Nat.lt_succ_self n, k1, (runU_step hst).1 hr, k3⟩
end Go.Proofs.Ytiilckjnggeeoad

namespace Go.Proofs.Ytiilckjnggeeoad
open Go.RowKit Go.Deep Go.ChangeShapes Go.WideShapes
def foOf : List Tm → Fo
  | [] => .nil
  | t :: ts => .node 0 0 t.1 t.2 (foOf ts)
theorem foOf_list : ∀ ts : List Tm, (foOf ts).list = ts
  | [] => rfl
  | t :: ts => by simp [foOf, Fo.list, foOf_list ts]
theorem foOf_len (ts : List Tm) : Fo.len (foOf ts) = ts.length := by rw [← Fo.len_list, foOf_list]
theorem foOf_of_ok : ∀ {F : Fo}, Fo.ok F → foOf F.list = F
  | .nil, _ => rfl
  | .node p q x k r, h => by
    obtain ⟨rfl, rfl, _, h4⟩ := ok_node.1 h
    simp [foOf, Fo.list, foOf_of_ok h4]
theorem CellsOf.app {X : Nat → Prop} {w : World} {b : List Tm} {ys : List Value} (h' : CellsOf X w (foOf b) ys) : ∀ {a : List Tm} {xs : List Value}, CellsOf X w (foOf a) xs → CellsOf X w (foOf (a ++ b)) (xs ++ ys)
  | [], xs, h => by
    have e : xs = [] := h
    subst e
    exact h'
  | t :: a, _, ⟨v, zs, h1, h2, h3⟩ => by
    subst h1
    exact ⟨v, zs ++ ys, rfl, h2, CellsOf.app h' h3⟩
def Row (lo : Nat) (w : World) (v : Value) (ts : List Tm) : Prop := ∃ xs, w.ownsRow lo 33 3 v ts.length xs ∧ CellsOf (fun q => q < lo) w (foOf ts) xs
def Apart (v u : Value) : Prop := ∀ g, v.ownBlock = some g → u.ownBlock ≠ some g
theorem Row.nil (lo : Nat) (w : World) : Row lo w (.slice none 0 0) [] := ⟨[], World.ownsRow_nil _ _ _ _, rfl⟩
theorem Row.alloc {lo : Nat} {w : World} {v : Value} {ts : List Tm} (h : Row lo w v ts) (hl : lo ≤ w.heap.size) (ob : Obj) : Row lo (w.alloc ob) v ts := by
  obtain ⟨xs, h1, h2⟩ := h
  exact ⟨xs, owns_keep h1 (fun g hg => Below.heap_alloc _ _ _ (owns_at h1 g hg).2), h2.frame (fun _ h => h) (fun q i hq => World.cell?_alloc_lt _ _ _ (by show q < _; omega))⟩
theorem Row.grown {lo : Nat} {w w' : World} {v u : Value} {ts : List Tm} (h : Row lo w v ts) (hl : lo ≤ w.heap.size) (hg : w.grownBy w' u.ownBlock) (ha : Apart v u) (hu : ∀ g, u.ownBlock = some g → lo ≤ g) : Row lo w' v ts := by
  obtain ⟨xs, h1, h2⟩ := h
  exact ⟨xs, owns_keep h1 (fun g hgg => hg.block g (owns_at h1 g hgg).2 (fun e => ha g hgg e.symm)), h2.frame (fun _ h => h) (fun q i hq => World.cell?_of_block (hg.block q (by show q < _; omega) (fun e => by have := hu q e.symm; omega)))⟩
theorem Row.sin {lo : Nat} {w : World} {v : Value} {ts : List Tm} (h : Row lo w v ts) : SIn w (foOf ts) v := by
  obtain ⟨xs, h1, h2⟩ := h
  rw [← foOf_len] at h1
  exact (row_sb (Y := fun _ => True) h1 h2 (fun _ _ => trivial) (fun _ _ => trivial)).toS
structure Side (wx w : World) (va : Value) (a : List Tm) (vb : Value) (b : List Tm) : Prop where
  below : Below wx.heap.size wx w
  ra : Row wx.heap.size w va a
  rb : Row wx.heap.size w vb b
  ap : Apart va vb
theorem Side.bareA {wx w : World} {vb : Value} {b : List Tm} {n : Nat} (h : Side wx w (.slice none 0 0) [] vb b) (hn : n = w.heap.size) : Side wx (w.alloc (.cells #[] 33)) (.slice (some ⟨n, 0, none⟩) 0 0) [] vb b := by
  subst hn
  refine ⟨h.below.alloc h.below.size _, ⟨[], own_bare (heap_alloc_new w _) h.below.size, rfl⟩, h.rb.alloc h.below.size _, fun g hg e => ?_⟩
  simp [Value.ownBlock] at hg
  obtain ⟨xs, h1, _⟩ := h.rb
  have := (owns_at h1 g e).2
  omega
theorem Side.swap {wx w : World} {va vb : Value} {a b : List Tm} (h : Side wx w va a vb b) : Side wx w vb b va a := ⟨h.below, h.rb, h.ra, fun g h1 h2 => h.ap g h2 h1⟩
theorem Side.bareB {wx w : World} {va : Value} {a : List Tm} {n : Nat} (h : Side wx w va a (.slice none 0 0) []) (hn : n = w.heap.size) : Side wx (w.alloc (.cells #[] 33)) va a (.slice (some ⟨n, 0, none⟩) 0 0) [] := (h.swap.bareA hn).swap
theorem step_app {wx w : World} {ops : Array Oper} {o : Oper} {c : Act} {K : Act → World → Prop} {Q : Exit → Act → World → Prop} {E : Prop} {va vb lv : Value} {a b ts : List Tm} (h : Side wx w va a vb b) (hS : SIn wx (foOf ts) lv) (hb : a.length + ts.length ≤ 100000) (hgd : o.guard = none) (s x : Operand)
    (ho : o.op = .call { callee := .builtin .append, args := #[s, x], argTypes := #[31, 31] }) (hs : c.eval s = va) (hx : c.eval x = lv)
    (k : ∀ v' w', Side wx w' v' (a ++ ts) vb b → K (c.put o.dst v') w') :
    if Region.wanted o (yielded ops c.tmps) = true then Oper.wp Try.prog o c w K Q else E := by
  obtain ⟨i26, hi26, hz0, hz1, hz2⟩ := info_parts Try.info33
  obtain ⟨xs, h1, h2⟩ := h.ra
  have hl := h.below.size
  obtain ⟨news, hC, hN⟩ : ∃ news, Cs w lv ts.length 3 news ∧ CellsOf (fun q => q < wx.heap.size) w (foOf ts) news := by
    obtain ⟨news, hC, hN⟩ := terms_cells hS
    rw [foOf_len] at hC
    exact ⟨news, hC.below h.below, hN.frame (fun _ h => h) (fun q i hq => h.below.cell hq)⟩
  refine step_append_gen hgd s x 31 ho wx.heap.size 33 i26 _ 3 40 Try.underlying31 hi26 hz0 hz1 hz2 rfl (by decide) va a.length xs hs h1 lv ts.length news hx hC (by unfold maxLen; omega) (by omega) hl ?_
  intro v' w' ho' hg' hat'
  have hva : ∀ g, va.ownBlock = some g → wx.heap.size ≤ g := fun g hg => (owns_at h1 g hg).1
  have hb' : Below wx.heap.size wx w' := h.below.grown hg' hl hva
  have hfr : ∀ (q i : Nat), q < wx.heap.size → w'.cell? ⟨q, i, none⟩ = w.cell? ⟨q, i, none⟩ := fun q i hq => (hb'.cell (p := ⟨q, i, none⟩) hq).trans (h.below.cell (p := ⟨q, i, none⟩) hq).symm
  have hcs : CellsOf (fun q => q < wx.heap.size) w' (foOf (a ++ ts)) (xs ++ news) := CellsOf.app (hN.frame (fun _ h => h) hfr) (h2.frame (fun _ h => h) hfr)
  refine k v' w' ⟨hb', ⟨xs ++ news, by rw [List.length_append]; exact ho', hcs⟩, h.rb.grown hl hg' (fun g e1 e2 => h.ap g e2 e1) hva, fun g e1 e2 => ?_⟩
  rcases hat' with e | e
  · exact h.ap g (e ▸ e1) e2
  · rw [e] at e1
    simp at e1
    obtain ⟨ys, h3, _⟩ := h.rb
    have := (owns_at h3 g e2).2
    omega
end Go.Proofs.Ytiilckjnggeeoad
