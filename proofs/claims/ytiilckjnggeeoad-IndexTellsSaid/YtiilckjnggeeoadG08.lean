/- CK CMo D8a D8b D8c P8a -/
import Derived.Test.YtiilckjnggeeoadG07
import Derived.BigQuiet
namespace Go.Proofs.Ytiilckjnggeeoad
open Go.RowKit Go.Deep Go.ChangeShapes Go.WideShapes
structure GLx (l : Lt) : Prop where
  gl : Gd l.2.1
  gr : Gd l.2.2
  sl : tszR l.2.1.2 ≤ 4000000000000
  sr : tszR l.2.2.2 ≤ 4000000000000
def GX (c : Cl) : Prop := c.length ≤ 8 ∧ ∀ l ∈ c, GLx l
theorem GL.x {l : Lt} (h : GL l) : GLx l := ⟨h.gl, h.gr, by have := h.sl; omega, by have := h.sr; omega⟩
theorem GC.x {c : Cl} (h : GC c) : GX c := ⟨by have := h.1; omega, fun l hl => (h.2 l hl).x⟩
end Go.Proofs.Ytiilckjnggeeoad

namespace Go.Proofs.Ytiilckjnggeeoad
open Go.RowKit Go.Deep Go.ChangeShapes Go.WideShapes
def sigF (s : List Int) : Fo → Prop
  | .nil => True
  | .node _ _ x k r => (aloneF s x (Fo.len k) = 0 ∧ sigF s k) ∧ sigF s r
def sigT (s : List Int) (t : Tm) : Prop := aloneF s t.1 (Fo.len t.2) = 0 ∧ sigF s t.2
theorem sig_walkF {s : List Int} : ∀ {F : Fo} {d : Int}, walkF s F d = 0 → sigF s F
  | .nil, _, _ => trivial
  | .node _ _ x k r, d, h => by
    obtain ⟨hT, hr⟩ := walkF_ok h
    obtain ⟨_, ha, hk⟩ := walkT_ok hT
    exact ⟨⟨ha, sig_walkF hk⟩, sig_walkF hr⟩
theorem sig_walk {s : List Int} {t : Tm} {d : Int} (h : walkT s t.1 t.2 d = 0) : sigT s t := by
  obtain ⟨_, ha, hk⟩ := walkT_ok h
  exact ⟨ha, sig_walkF hk⟩
theorem sig_mem {s : List Int} : ∀ {F : Fo}, sigF s F → ∀ t ∈ F.list, sigT s t
  | .nil, _, t, h => by simp [Fo.list] at h
  | .node _ _ x k r, h, t, ht => by
    simp only [Fo.list, List.mem_cons] at ht
    rcases ht with rfl | ht
    · exact h.1
    · exact sig_mem h.2 t ht
end Go.Proofs.Ytiilckjnggeeoad

namespace Go.Proofs.Ytiilckjnggeeoad
open Go.RowKit Go.Deep Go.ChangeShapes Go.WideShapes
def mkT (t : Tm) : Int := if t.1.1 then 0 else t.1.2 + 1
theorem mkT_sym (n : Int) (k : Fo) : mkT ((false, n), k) = n + 1 := rfl
def mkA (t : Tm) (i : Nat) : Int := if t.1.1 then -1 else match t.2.list[i]? with
  | some y => mkT y
  | none => -2
def keyT (t : Tm) : List Int := [mkT t, mkA t 0, mkA t 1]
def uniN (x y : Int) : Bool := x == y || (x == -1) || (y == -1) || (x == 0 && decide (y > 0)) || (y == 0 && decide (x > 0))
def matN (p t : Int) : Bool := p == t || (p == -1) || (p == 0 && decide (t > 0))
def uniK : List Int → List Int → Bool
  | x :: a, y :: b => uniN x y && uniK a b
  | _, _ => true
def matK : List Int → List Int → Bool
  | x :: a, y :: b => matN x y && matK a b
  | _, _ => true
end Go.Proofs.Ytiilckjnggeeoad

namespace Go.Proofs.Ytiilckjnggeeoad
open Go.RowKit Go.Deep Go.ChangeShapes Go.WideShapes
attribute [local go_sem ↓] Go.wp_at_zero Go.wp_at_succ
def nth3 (x y z : Int) (k : Nat) : Int := if k = 0 then x else if k = 1 then y else z
theorem key_cell {w : World} {x y z : Int} {k : Nat} (hk : k < 3) {T : TypeId} : (w.alloc (.cells #[.int .i64 x, .int .i64 y, .int .i64 z] T)).cell? ⟨w.heap.size, k, none⟩ = some (.int .i64 (nth3 x y z k)) := by
  rcases (by omega : k = 0 ∨ k = 1 ∨ k = 2) with rfl | rfl | rfl <;> exact (new_cell rfl).trans (by simp [nth3])
theorem uniK_all {a b c x y z : Int} (h : ∀ k, k < 3 → uniN (nth3 a b c k) (nth3 x y z k) = true) : uniK [a, b, c] [x, y, z] = true := by
  have h0 := h 0 (by omega)
  have h1 := h 1 (by omega)
  have h2 := h 2 (by omega)
  simp only [nth3] at h0 h1 h2
  simp at h0 h1 h2
  simp [uniK, h0, h1, h2]
theorem uniK_not {a b c x y z : Int} {k : Nat} (hk : k < 3) (h : uniN (nth3 a b c k) (nth3 x y z k) = false) : uniK [a, b, c] [x, y, z] = false := by
  rcases (by omega : k = 0 ∨ k = 1 ∨ k = 2) with rfl | rfl | rfl <;> simp [nth3] at h <;> simp [uniK, h]
set_option maxRecDepth 100000 in
set_option maxHeartbeats 2000000 in
theorem mayUnifyR_any (a b c x y z : Int) (w : World) :
    Calls Try.prog 24 #[.agg #[.int .i64 a, .int .i64 b, .int .i64 c], .agg #[.int .i64 x, .int .i64 y, .int .i64 z]] w fun e w' => e = .returned (.bool (uniK [a, b, c] [x, y, z])) ∧ Below w.heap.size w w' := by
  go_enter Try.func24, Try.ntmps24
  go_upto_region 1 with fail
  generalize hW1 : w.alloc (.cells #[.int .i64 a, .int .i64 b, .int .i64 c] 42) = w1
  generalize hW2 : w1.alloc (.cells #[.int .i64 x, .int .i64 y, .int .i64 z] 42) = w2
  have e1 : w1.heap.size = w.heap.size + 1 := by rw [← hW1]; simp
  have hb1 : Below w.heap.size w w1 := by rw [← hW1]; exact below_alloc _ _
  have hb2 : Below w1.heap.size w1 w2 := by rw [← hW2]; exact below_alloc _ _
  have HA : Hid (∀ k, k < 3 → w2.cell? ⟨w.heap.size, k, none⟩ = some (.int .i64 (nth3 a b c k))) := fun k hk => grow_cell hb2 _ _ (by rw [← hW1]; exact key_cell hk)
  have HX : Hid (∀ k, k < 3 → w2.cell? ⟨w.heap.size + 1, k, none⟩ = some (.int .i64 (nth3 x y z k))) := fun k hk => by rw [← e1, ← hW2]; exact key_cell hk
  have HB := hide (below_step hb1 hb2)
  clear hW1 hW2 hb1 hb2 e1
  go_wp2_with fail
  go_loopw [8] (fun i wr => ∃ j : Nat, j ≤ 3 ∧ i = .int .i64 j ∧ Below w2.heap.size w2 wr ∧ ∀ k, k < j → uniN (nth3 a b c k) (nth3 x y z k) = true) (fun i _ => 3 - (intOf i).toNat)
  case atStart => exact ⟨0, Nat.zero_le _, rfl, Below.refl _ _, fun k hk => absurd hk (by omega)⟩
  case round =>
    obtain ⟨j, hj, rfl, hBr, hall⟩ := hrel
    have HBr := hide hBr
    have Hall := hide hall
    clear hall
    by_cases hlt : j < 3
    · have hlt' : (j : Int) < 3 := by omega
      have c1 := grow_cell hBr _ _ (HA.out j hlt)
      have c2 := grow_cell hBr _ _ (HX.out j hlt)
      have hu : Hid (uniN (nth3 a b c j) (nth3 x y z j) = false → uniK [a, b, c] [x, y, z] = false) := fun h => uniK_not hlt h
      have hn : Hid (uniN (nth3 a b c j) (nth3 x y z j) = true → ∀ k, k < j + 1 → uniN (nth3 a b c k) (nth3 x y z k) = true) := fun h k hk => by
        by_cases e : k = j
        · subst e; exact h
        · exact Hall.out k (by omega)
      clear hBr
      go_upto_region 4 with fail
      generalize nth3 a b c j = X at *
      generalize nth3 x y z j = Y at *
      have hcur : Below wr.heap.size wr wr.drew := (Below.refl _ _).drew
      go_region_held3 (fun w' => w'.cell? ⟨w.heap.size, j, none⟩ = some (.int .i64 X) ∧ w'.cell? ⟨w.heap.size + 1, j, none⟩ = some (.int .i64 Y))
        (first
          | (with_reducible exact ⟨grow_cell hcur _ _ c1, grow_cell hcur _ _ c2⟩)
          | go_keep)
        (fail)
      have HBd := hide (below_step HBr.out hcur)
      clear hcur
      by_cases q1 : X = Y
      case pos =>
        have ht : uniN X Y = true := by unfold uniN; simp [*]
        have Hn := hide (hn.out ht)
        clear ht hn hu
        go_wp2_with fail
        go_roundw
        case rel => exact ⟨j + 1, by omega, by go_num, HBd.out, Hn.out⟩
        case measure => simp [intOf]; omega
      case neg =>
        have r1 : (X == Y) = false := by simpa using q1
        by_cases q2 : X = -1
        case pos =>
          have ht : uniN X Y = true := by unfold uniN; simp [*]
          have Hn := hide (hn.out ht)
          clear ht hn hu
          go_wp2_with fail
          go_roundw
          case rel => exact ⟨j + 1, by omega, by go_num, HBd.out, Hn.out⟩
          case measure => simp [intOf]; omega
        case neg =>
          have r2 : (X == -1) = false := by simpa using q2
          by_cases q3 : Y = -1
          case pos =>
            have ht : uniN X Y = true := by unfold uniN; simp [*]
            have Hn := hide (hn.out ht)
            clear ht hn hu
            go_wp2_with fail
            go_roundw
            case rel => exact ⟨j + 1, by omega, by go_num, HBd.out, Hn.out⟩
            case measure => simp [intOf]; omega
          case neg =>
            have r3 : (Y == -1) = false := by simpa using q3
            by_cases q4 : X = 0
            case pos =>
              by_cases q5 : Y > 0
              case pos =>
                have ht : uniN X Y = true := by unfold uniN; simp [*]
                have Hn := hide (hn.out ht)
                clear ht hn hu
                go_wp2_with fail
                go_roundw
                case rel => exact ⟨j + 1, by omega, by go_num, HBd.out, Hn.out⟩
                case measure => simp [intOf]; omega
              case neg =>
                have q6 : ¬ Y = 0 := fun h => q1 (q4.trans h.symm)
                have r6 : (Y == 0) = false := by simpa using q6
                have ht : uniN X Y = false := by
                  have q8 : ¬ (0 : Int) = Y := fun h => q6 h.symm
                  unfold uniN; subst q4; simp [q3, q5, q8]
                have Hu := hide (hu.out ht)
                clear ht hn hu
                go_wp2_with fail
                refine bodyPost_ret (v := .bool false) ?hha0 ?hhb0 ?hhc0
                case hha0 => exact results_tmp (t := 4) rfl _ _ _
                case hhb0 => rfl
                case hhc0 => exact ⟨by rw [Hu.out], below_step HB.out HBd.out⟩
            case neg =>
              have r4 : (X == 0) = false := by simpa using q4
              by_cases q6 : Y = 0
              case pos =>
                by_cases q7 : X > 0
                case pos =>
                  have ht : uniN X Y = true := by unfold uniN; simp [*]
                  have Hn := hide (hn.out ht)
                  clear ht hn hu
                  go_wp2_with fail
                  go_roundw
                  case rel => exact ⟨j + 1, by omega, by go_num, HBd.out, Hn.out⟩
                  case measure => simp [intOf]; omega
                case neg =>
                  have ht : uniN X Y = false := by unfold uniN; simp [*]
                  have Hu := hide (hu.out ht)
                  clear ht hn hu
                  go_wp2_with fail
                  refine bodyPost_ret (v := .bool false) ?hha1 ?hhb1 ?hhc1
                  case hha1 => exact results_tmp (t := 4) rfl _ _ _
                  case hhb1 => rfl
                  case hhc1 => exact ⟨by rw [Hu.out], below_step HB.out HBd.out⟩
              case neg =>
                have r6 : (Y == 0) = false := by simpa using q6
                have ht : uniN X Y = false := by unfold uniN; simp [*]
                have Hu := hide (hu.out ht)
                clear ht hn hu
                go_wp2_with fail
                refine bodyPost_ret (v := .bool false) ?hha2 ?hhb2 ?hhc2
                case hha2 => exact results_tmp (t := 4) rfl _ _ _
                case hhb2 => rfl
                case hhc2 => exact ⟨by rw [Hu.out], below_step HB.out HBd.out⟩
    · have hall : uniK [a, b, c] [x, y, z] = true := uniK_all fun k hk => Hall.out k (by omega)
      have Hu := hide hall
      clear hall
      go_wp2_with fail
      refine bodyPost_ret (v := .bool true) ?hha3 ?hhb3 ?hhc3
      case hha3 => exact results_tmp (t := 4) rfl _ _ _
      case hhb3 => rfl
      case hhc3 => exact ⟨by rw [Hu.out], below_step HB.out HBr.out⟩
theorem matK_all {a b c x y z : Int} (h : ∀ k, k < 3 → matN (nth3 a b c k) (nth3 x y z k) = true) : matK [a, b, c] [x, y, z] = true := by
  have h0 := h 0 (by omega)
  have h1 := h 1 (by omega)
  have h2 := h 2 (by omega)
  simp only [nth3] at h0 h1 h2
  simp at h0 h1 h2
  simp [matK, h0, h1, h2]
theorem matK_not {a b c x y z : Int} {k : Nat} (hk : k < 3) (h : matN (nth3 a b c k) (nth3 x y z k) = false) : matK [a, b, c] [x, y, z] = false := by
  rcases (by omega : k = 0 ∨ k = 1 ∨ k = 2) with rfl | rfl | rfl <;> simp [nth3] at h <;> simp [matK, h]
set_option maxRecDepth 100000 in
set_option maxHeartbeats 2000000 in
theorem mayMatchR_any (a b c x y z : Int) (w : World) :
    Calls Try.prog 26 #[.agg #[.int .i64 a, .int .i64 b, .int .i64 c], .agg #[.int .i64 x, .int .i64 y, .int .i64 z]] w fun e w' => e = .returned (.bool (matK [a, b, c] [x, y, z])) ∧ Below w.heap.size w w' := by
  go_enter Try.func26, Try.ntmps26
  go_upto_region 1 with fail
  generalize hW1 : w.alloc (.cells #[.int .i64 a, .int .i64 b, .int .i64 c] 42) = w1
  generalize hW2 : w1.alloc (.cells #[.int .i64 x, .int .i64 y, .int .i64 z] 42) = w2
  have e1 : w1.heap.size = w.heap.size + 1 := by rw [← hW1]; simp
  have hb1 : Below w.heap.size w w1 := by rw [← hW1]; exact below_alloc _ _
  have hb2 : Below w1.heap.size w1 w2 := by rw [← hW2]; exact below_alloc _ _
  have HA : Hid (∀ k, k < 3 → w2.cell? ⟨w.heap.size, k, none⟩ = some (.int .i64 (nth3 a b c k))) := fun k hk => grow_cell hb2 _ _ (by rw [← hW1]; exact key_cell hk)
  have HX : Hid (∀ k, k < 3 → w2.cell? ⟨w.heap.size + 1, k, none⟩ = some (.int .i64 (nth3 x y z k))) := fun k hk => by rw [← e1, ← hW2]; exact key_cell hk
  have HB := hide (below_step hb1 hb2)
  clear hW1 hW2 hb1 hb2 e1
  go_wp2_with fail
  go_loopw [6] (fun i wr => ∃ j : Nat, j ≤ 3 ∧ i = .int .i64 j ∧ Below w2.heap.size w2 wr ∧ ∀ k, k < j → matN (nth3 a b c k) (nth3 x y z k) = true) (fun i _ => 3 - (intOf i).toNat)
  case atStart => exact ⟨0, Nat.zero_le _, rfl, Below.refl _ _, fun k hk => absurd hk (by omega)⟩
  case round =>
    obtain ⟨j, hj, rfl, hBr, hall⟩ := hrel
    have HBr := hide hBr
    have Hall := hide hall
    clear hall
    by_cases hlt : j < 3
    · have hlt' : (j : Int) < 3 := by omega
      have c1 := grow_cell hBr _ _ (HA.out j hlt)
      have c2 := grow_cell hBr _ _ (HX.out j hlt)
      have hu : Hid (matN (nth3 a b c j) (nth3 x y z j) = false → matK [a, b, c] [x, y, z] = false) := fun h => matK_not hlt h
      have hn : Hid (matN (nth3 a b c j) (nth3 x y z j) = true → ∀ k, k < j + 1 → matN (nth3 a b c k) (nth3 x y z k) = true) := fun h k hk => by
        by_cases e : k = j
        · subst e; exact h
        · exact Hall.out k (by omega)
      clear hBr
      generalize nth3 a b c j = X at *
      generalize nth3 x y z j = Y at *
      by_cases q1 : X = Y
      case pos =>
        have r1 : (X != Y) = false := by simpa using q1
        have ht : matN X Y = true := by unfold matN; simp [*]
        have Hn := hide (hn.out ht)
        clear ht hn hu
        go_upto_region 4 with fail
        go_quiet (fail)
        go_wp2_with fail
        go_roundw
        case rel => exact ⟨j + 1, by omega, by go_num, below_drewN HBr.out _, Hn.out⟩
        case measure => simp [intOf]; omega
      case neg =>
        have r1 : (X != Y) = true := by simpa using q1
        have r0 : (X == Y) = false := by simpa using q1
        by_cases q2 : X = -1
        case pos =>
          have r2 : (X != -1) = false := by simpa using q2
          have ht : matN X Y = true := by unfold matN; simp [*]
          have Hn := hide (hn.out ht)
          clear ht hn hu q2
          go_upto_region 4 with fail
          go_quiet (fail)
          go_wp2_with fail
          go_roundw
          case rel => exact ⟨j + 1, by omega, by go_num, below_drewN HBr.out _, Hn.out⟩
          case measure => simp [intOf]; omega
        case neg =>
          have r2 : (X != -1) = true := by simpa using q2
          have r3 : (X == -1) = false := by simpa using q2
          by_cases q3 : X = 0
          case pos =>
            have r4 : (X != 0) = false := by simpa using q3
            by_cases q4 : Y ≤ 0
            case pos =>
              have r5 : ¬ Y > 0 := by omega
              have ht : matN X Y = false := by unfold matN; simp [r0, r3, r5]
              have Hu := hide (hu.out ht)
              clear ht hn hu q3
              go_upto_region 4 with fail
              go_quiet (fail)
              go_wp2_with fail
              refine bodyPost_ret (v := .bool false) ?hha20 ?hhb20 ?hhc20
              case hha20 => exact results_tmp (t := 4) rfl _ _ _
              case hhb20 => rfl
              case hhc20 => exact ⟨by rw [Hu.out], below_step HB.out (below_drewN HBr.out _)⟩
            case neg =>
              have r5 : Y > 0 := by omega
              have ht : matN X Y = true := by unfold matN; simp [*]
              have Hn := hide (hn.out ht)
              clear ht hn hu q3
              go_upto_region 4 with fail
              go_quiet (fail)
              go_wp2_with fail
              go_roundw
              case rel => exact ⟨j + 1, by omega, by go_num, below_drewN HBr.out _, Hn.out⟩
              case measure => simp [intOf]; omega
          case neg =>
            have r4 : (X != 0) = true := by simpa using q3
            have r5 : (X == 0) = false := by simpa using q3
            have ht : matN X Y = false := by unfold matN; simp [*]
            have Hu := hide (hu.out ht)
            clear ht hn hu
            go_upto_region 4 with fail
            go_quiet (fail)
            go_wp2_with fail
            refine bodyPost_ret (v := .bool false) ?hha21 ?hhb21 ?hhc21
            case hha21 => exact results_tmp (t := 4) rfl _ _ _
            case hhb21 => rfl
            case hhc21 => exact ⟨by rw [Hu.out], below_step HB.out (below_drewN HBr.out _)⟩
    · have hall : matK [a, b, c] [x, y, z] = true := matK_all fun k hk => Hall.out k (by omega)
      have Hu := hide hall
      clear hall
      go_wp2_with fail
      refine bodyPost_ret (v := .bool true) ?hha3 ?hhb3 ?hhc3
      case hha3 => exact results_tmp (t := 4) rfl _ _ _
      case hhb3 => rfl
      case hhc3 => exact ⟨by rw [Hu.out], below_step HB.out HBr.out⟩
end Go.Proofs.Ytiilckjnggeeoad

namespace Go.Proofs.Ytiilckjnggeeoad
open Go.RowKit Go.Deep Go.ChangeShapes Go.WideShapes
attribute [local go_sem ↓] Go.wp_at_zero Go.wp_at_succ
def mkP : List Int → Bool × Int → Fo → Int
  | [], x, k => mkT (x, k)
  | i :: p, x, k => if x.1 then -1 else match k.list[i.toNat]? with
    | some y => mkP p y.1 y.2
    | none => -2
theorem mkP_one {i : Int} {x : Bool × Int} {k : Fo} : mkP [i] x k = mkA (x, k) i.toNat := by
  unfold mkP mkA
  cases x.1 with
  | true => rfl
  | false =>
    simp only [Bool.false_eq_true, if_false]
    cases k.list[i.toNat]? <;> rfl
set_option maxRecDepth 100000 in
set_option maxHeartbeats 2000000 in
theorem markR_any {s : List Int} (h6 : s.length ≤ 6) (p : List Int) (hp : ∀ i ∈ p, 0 ≤ i) (x : Bool × Int) (k : Fo) (a pv : Value) (w : World) (hS : SIn w k a) (hg : sigT s (x, k)) (hN : NIn w p pv) :
    Calls Try.prog 57 #[.agg #[.bool x.1, .int .i64 x.2, a], pv] w fun e w' => e = .returned (.int .i64 (mkP p x k)) ∧ Below w.heap.size w w' := by
  obtain ⟨xv, xn⟩ := x
  have HS := hide hS
  have Hp := hide hp
  have Hg := hide hg
  obtain ⟨ad, c, b, o, rfl, -, -, -, -⟩ := hS
  obtain ⟨pa, pc, pb, po, rfl, hpa, hplc, hpcm, hpF⟩ := hN
  have HpF := hide hpF
  unfold maxLen at hpcm
  clear hpF hp hg
  go_enter Try.func57, Try.ntmps57
  go_upto_region 1 with fail
  generalize hW0 : w.alloc (.cells #[.bool xv, .int .i64 xn, .slice ad (Fo.len k) c] 33) = w0
  have hB0 : Below w.heap.size w w0 := by rw [← hW0]; exact below_alloc _ _
  have m0 : w0.cell? ⟨w.heap.size, 0, none⟩ = some (.bool xv) := by rw [← hW0]; exact new_cell rfl
  have m1 : w0.cell? ⟨w.heap.size, 1, none⟩ = some (.int .i64 xn) := by rw [← hW0]; exact new_cell rfl
  have m2 : w0.cell? ⟨w.heap.size, 2, none⟩ = some (.slice ad (Fo.len k) c) := by rw [← hW0]; exact new_cell rfl
  have mf : ∀ i, w0.frozen? ⟨w.heap.size, i, none⟩ = false := fun i => by rw [← hW0]; exact new_frozen rfl
  clear hW0
  go_wp2_with fail
  go_loopw [9] (fun i wr => ∃ (j : Nat) (y : Bool × Int) (l : Fo) (a1 : Option Addr) (a3 : Nat), j ≤ p.length ∧ i = .int .i64 j ∧ wr.cell? ⟨w.heap.size, 0, none⟩ = some (.bool y.1) ∧ wr.cell? ⟨w.heap.size, 1, none⟩ = some (.int .i64 y.2) ∧ wr.cell? ⟨w.heap.size, 2, none⟩ = some (.slice a1 (Fo.len l) a3) ∧ (∀ i, wr.frozen? ⟨w.heap.size, i, none⟩ = false) ∧ SIn w l (.slice a1 (Fo.len l) a3) ∧ sigT s (y, l) ∧ mkP p (xv, xn) k = mkP (p.drop j) y l ∧ Below w.heap.size w wr) (fun i _ => p.length - (intOf i).toNat)
  case atStart => exact ⟨0, (xv, xn), k, ad, c, Nat.zero_le _, rfl, m0, m1, m2, mf, HS.out, Hg.out, rfl, hB0⟩
  case round =>
    clear m0 m1 m2 mf hB0
    obtain ⟨j, ⟨yv, yn⟩, l, a1, a3, hj, rfl, m0, m1, m2, mf, hL, hsg, hmk, hB⟩ := hrel
    have Hsg := hide hsg
    clear hsg
    have HB := hide hB
    have HL := hide hL
    have Hmk := hide hmk
    have Hmf := hide mf
    have f0 := mf 0
    have f1 := mf 1
    have f2 := mf 2
    clear hmk mf
    by_cases hlt : j < p.length
    · have hlt' : (j : Int) < (p.length : Int) := by omega
      have hpa' : pa = some ⟨pb, po, none⟩ := hpa (by omega)
      subst hpa'
      have hd : p.drop j = p[j] :: p.drop (j + 1) := List.drop_eq_getElem_cons hlt
      have hn0 := Hp.out p[j] (List.getElem_mem hlt)
      have hc := grow_cell hB _ _ (HpF.out j hlt)
      rw [show p.getD j 0 = p[j] by simp [List.getD_eq_getElem?_getD, hlt]] at hc
      rw [Hid, hd] at Hmk
      generalize p[j] = n at *
      obtain ⟨m, rfl⟩ : ∃ m : Nat, n = m := ⟨n.toNat, by omega⟩
      clear hB hd hpa hL
      cases yv with
      | true =>
        have Hu : Hid (mkP p (xv, xn) k = -1) := Hmk
        clear Hmk
        go_wp2_with fail
        go_ret
        exact ⟨by rw [Hu.out]; rfl, HB.out⟩
      | false =>
        by_cases hm : (Fo.len l : Int) ≤ m
        · have hnone : l.list[m]? = none := List.getElem?_eq_none (by rw [Fo.len_list]; omega)
          have Hu : Hid (mkP p (xv, xn) k = -2) := by
            rw [Hid, Hmk]
            simp only [mkP, Int.toNat_natCast, hnone]
            rfl
          clear hnone Hmk
          go_wp2_with fail
          go_ret
          exact ⟨by rw [Hu.out]; rfl, HB.out⟩
        · have hm' : (m : Int) < (Fo.len l : Int) := by omega
          obtain ⟨⟨zx, zk⟩, hz⟩ : ∃ z, l.list[m]? = some z := ⟨l.list[m]'(by rw [Fo.len_list]; omega), by simp⟩
          have Hu : Hid (mkP p (xv, xn) k = mkP (p.drop (j + 1)) zx zk) := by
            rw [Hid, Hmk]
            simp only [mkP, Int.toNat_natCast, hz]
            rfl
          have Hzs : Hid (sigT s (zx, zk)) := sig_mem Hsg.out.2 _ (List.mem_of_getElem? hz)
          obtain ⟨_, _, lb, lo, hle, hla, hll, hlm, hLF⟩ := HL.out
          simp only [Value.slice.injEq, true_and] at hle
          obtain ⟨rfl, rfl⟩ := hle
          have ha1 := hla (by omega)
          subst ha1
          unfold maxLen at hlm
          obtain ⟨z0, z1, zv, z2, hZ⟩ := hLF.at hz
          obtain ⟨zx1, zx2⟩ := zx
          have HZ := hide hZ
          obtain ⟨za, zc, _, _, rfl, -, -, -, -⟩ := hZ
          replace z0 := grow_cell HB.out _ _ z0
          replace z1 := grow_cell HB.out _ _ z1
          replace z2 := grow_cell HB.out _ _ z2
          have hset := set3_cells (x := .bool zx1) (y := .int .i64 zx2) (z := .slice za (Fo.len zk) zc) m0 m1 m2
          have Hset := hide hset
          have Hbel : Hid (Below w.heap.size w (set3 wr w.heap.size 0 (.bool zx1) (.int .i64 zx2) (.slice za (Fo.len zk) zc))) := set3_below HB.out (Nat.le_refl _)
          have Hfr : Hid (∀ i, (set3 wr w.heap.size 0 (.bool zx1) (.int .i64 zx2) (.slice za (Fo.len zk) zc)).frozen? ⟨w.heap.size, i, none⟩ = false) := fun i => by rw [set3_frozen]; exact Hmf.out i
          clear hset hz hla hLF HL Hmk
          go_wp2_with fail
          go_roundw
          case rel => exact ⟨j + 1, (zx1, zx2), zk, za, zc, by omega, by go_num, Hset.out.1, Hset.out.2.1, Hset.out.2.2, Hfr.out, HZ.out, Hzs.out, Hu.out, Hbel.out⟩
          case measure => simp [intOf]; omega
    · have hje : j = p.length := by omega
      have Hu : Hid (mkP p (xv, xn) k = mkT ((yv, yn), l)) := by
        rw [Hid, Hmk.out, hje, List.drop_length]
        rfl
      clear hje hB hL hpa
      cases yv with
      | true =>
        go_wp2_with fail
        go_ret
        exact ⟨by rw [Hu.out]; rfl, HB.out⟩
      | false =>
        have hy := alone_sym Hsg.out.1
        have hw : wrap64 (yn + 1) = yn + 1 := wrap64_small (by omega) (by omega)
        have Hw := hide hw
        clear hw hy
        go_wp2_with fail
        go_ret
        exact ⟨by rw [Hu.out, mkT_sym]; exact congrArg (fun n => Ending.returned (.int .i64 n)) Hw.out, HB.out⟩
end Go.Proofs.Ytiilckjnggeeoad

namespace Go.Proofs.Ytiilckjnggeeoad
open Go.RowKit Go.Deep Go.ChangeShapes Go.WideShapes
attribute [local go_sem ↓] Go.wp_at_zero Go.wp_at_succ
set_option maxRecDepth 100000 in
set_option maxHeartbeats 400000 in
theorem headP_any {s : List Int} (h6 : s.length ≤ 6) (x : Bool × Int) (k : Fo) (a : Value) (w : World) (hg : sigT s (x, k)) :
    Calls Try.prog 55 #[.agg #[.bool x.1, .int .i64 x.2, a]] w fun e w' => e = .returned (.int .i64 (mkT (x, k))) ∧ Below w.heap.size w w' := by
  obtain ⟨xv, xn⟩ := x
  have hB := below_alloc w (.cells #[.bool xv, .int .i64 xn, a] 33)
  cases xv with
  | true =>
    go_enter Try.func55, Try.ntmps55
    go_wp2_with fail
    go_ret
    exact ⟨rfl, hB⟩
  | false =>
    have hy := alone_sym hg.1
    have hw : wrap64 (xn + 1) = xn + 1 := wrap64_small (by omega) (by omega)
    have Hw := hide hw
    clear hw hy hg
    go_enter Try.func55, Try.ntmps55
    go_wp2_with fail
    go_ret
    exact ⟨by rw [mkT_sym]; exact congrArg (fun n => Ending.returned (.int .i64 n)) Hw.out, hB⟩
set_option maxRecDepth 100000 in
set_option maxHeartbeats 1000000 in
theorem argumentP_any {s : List Int} (h6 : s.length ≤ 6) (m : Nat) (hm : m ≤ 2) (x : Bool × Int) (k : Fo) (a : Value) (w : World) (hS : SIn w k a) (hg : sigT s (x, k)) :
    Calls Try.prog 56 #[.agg #[.bool x.1, .int .i64 x.2, a], .int .i64 m] w fun e w' => e = .returned (.int .i64 (mkA (x, k) m)) ∧ Below w.heap.size w w' := by
  obtain ⟨xv, xn⟩ := x
  obtain ⟨ad, c, b, o, rfl, had, hlc, hcm, hF⟩ := hS
  have hB := below_alloc w (.cells #[.bool xv, .int .i64 xn, .slice ad (Fo.len k) c] 33)
  have HF := hide (hF.below hB)
  have Hg := hide hg
  unfold maxLen at hcm
  clear hF hg
  cases xv with
  | true =>
    go_enter Try.func56, Try.ntmps56
    go_wp2_with fail
    go_ret
    exact ⟨rfl, hB⟩
  | false =>
    by_cases hl : (Fo.len k : Int) ≤ m
    · have hnone : k.list[m]? = none := List.getElem?_eq_none (by rw [Fo.len_list]; omega)
      have Hu : Hid (mkA ((false, xn), k) m = -2) := by
        unfold mkA
        rw [Hid, hnone]
        rfl
      clear hnone
      go_enter Try.func56, Try.ntmps56
      go_wp2_with fail
      go_ret
      exact ⟨by rw [Hu.out]; rfl, hB⟩
    · have hl' : (m : Int) < (Fo.len k : Int) := by omega
      obtain ⟨⟨⟨zv, zn⟩, zk⟩, hz⟩ : ∃ z, k.list[m]? = some z := ⟨k.list[m]'(by rw [Fo.len_list]; omega), by simp⟩
      have Hu : Hid (mkA ((false, xn), k) m = mkT ((zv, zn), zk)) := by
        unfold mkA
        rw [Hid, hz]
        rfl
      have Hzs : Hid (sigT s ((zv, zn), zk)) := sig_mem Hg.out.2 _ (List.mem_of_getElem? hz)
      obtain ⟨z0, z1, zval, z2, hZ⟩ := HF.out.at hz
      have ha := had (by omega)
      subst ha
      clear hz hZ HF Hg had
      go_enter Try.func56, Try.ntmps56
      go_wp2_with fail
      refine (headP_any h6 (zv, zn) zk _ _ Hzs.out).mono ?_
      rintro e w2 ⟨rfl, hb⟩
      have hB2 := below_step hB hb
      clear hB hb
      go_wp2_with fail
      go_ret
      exact ⟨by rw [Hu.out]; rfl, hB2⟩
set_option maxRecDepth 100000 in
set_option maxHeartbeats 1000000 in
theorem coversP_any8 (p t : Int) (w : World) : Calls Try.prog 58 #[.int .i64 p, .int .i64 t] w fun e w' => e = .returned (.bool (matN p t)) ∧ w' = w := by
  by_cases q1 : p = t
  case pos =>
    have ht : matN p t = true := by unfold matN; simp [*]
    have Hu := hide ht
    clear ht
    go_enter Try.func58, Try.ntmps58
    go_wp2_with fail
    go_ret
    exact ⟨by rw [Hu.out]; rfl, rfl⟩
  case neg =>
    have r1 : (p == t) = false := by simpa using q1
    by_cases q2 : p = -1
    case pos =>
      have ht : matN p t = true := by unfold matN; simp [*]
      have Hu := hide ht
      clear ht
      go_enter Try.func58, Try.ntmps58
      go_wp2_with fail
      go_ret
      exact ⟨by rw [Hu.out]; rfl, rfl⟩
    case neg =>
      have r2 : (p == -1) = false := by simpa using q2
      by_cases q3 : p = 0
      case pos =>
        subst q3
        have r5 : ((0 : Int) == t) = false := r1
        clear r1
        by_cases q4 : t > 0
        case pos =>
          have ht : matN 0 t = true := by unfold matN; simp [*]
          have Hu := hide ht
          clear ht
          go_enter Try.func58, Try.ntmps58
          go_wp2_with fail
          go_ret
          exact ⟨by rw [Hu.out]; rfl, rfl⟩
        case neg =>
          have ht : matN 0 t = false := by unfold matN; simp [q4, q1]
          have Hu := hide ht
          clear ht
          go_enter Try.func58, Try.ntmps58
          go_wp2_with fail
          go_ret
          exact ⟨by rw [Hu.out]; rfl, rfl⟩
      case neg =>
        have r3 : (p == 0) = false := by simpa using q3
        have ht : matN p t = false := by unfold matN; simp [*]
        have Hu := hide ht
        clear ht
        go_enter Try.func58, Try.ntmps58
        go_wp2_with fail
        go_ret
        exact ⟨by rw [Hu.out]; rfl, rfl⟩
end Go.Proofs.Ytiilckjnggeeoad
