/- How many variables and symbols a term has: what Size answers, the project's and the document's. -/
import Derived.Test.YtegdfnfengnjlaaDoorBase
namespace Go.Proofs.YtegdfnfengnjlaaDoor
open Go.RowKit Go.Deep Go.ChangeShapes Go.WideShapes

/-- Variables and symbols; a variable's arguments don't count. -/
def Fo.sizes : Fo → Nat
  | .nil => 0
  | .node _ _ x k r => 1 + (if x.1 then 0 else Fo.sizes k) + Fo.sizes r
def tsz (x : Bool × Int) (k : Fo) : Nat := 1 + (if x.1 then 0 else Fo.sizes k)
/-- One, and the sizes of the first j terms. -/
def szTo (k : Fo) (j : Nat) : Nat := 1 + ((k.list.take j).map fun y => tsz y.1 y.2).sum

theorem sizes_list : ∀ F : Fo, Fo.sizes F = (F.list.map fun y => tsz y.1 y.2).sum
  | .nil => rfl
  | .node _ _ x k r => by simp [Fo.sizes, Fo.list, tsz, sizes_list r]

theorem szTo_zero (k : Fo) : szTo k 0 = 1 := rfl
theorem szTo_succ {k : Fo} {j : Nat} {x : Bool × Int} {y : Fo} (h : k.list[j]? = some (x, y)) : szTo k (j + 1) = szTo k j + tsz x y := by
  unfold szTo; rw [List.take_add_one, h]; simp; omega
theorem szTo_end (k : Fo) : szTo k (Fo.len k) = 1 + Fo.sizes k := by
  unfold szTo; rw [← Fo.len_list, List.take_length, sizes_list]
theorem wrap64_add (a b : Int) : wrap64 (wrap64 a + wrap64 b) = wrap64 (a + b) := by unfold wrap64; omega
theorem wrap64_small {n : Int} (h0 : 0 ≤ n) (h1 : n < 9223372036854775808) : wrap64 n = n := by unfold wrap64; omega

theorem wrap64_one : wrap64 ((1 : Nat) : Int) = 1 := by unfold wrap64; omega

def SizeSaid (x : Bool × Int) (k : Fo) : Prop := ∀ (a : Value) (w : World), SIn w k a →
    Calls Tryd.prog 18 #[.agg #[.bool x.1, .int .i64 x.2, a]] w fun e w' => e = .returned (.int .i64 (wrap64 (tsz x k : Nat))) ∧ Below w.heap.size w w'

set_option maxHeartbeats 400000 in
theorem size_any (x : Bool × Int) (k : Fo) : SizeSaid x k := by
  refine Fo.ind1 (p := SizeSaid) ?_ x k
  clear x k
  intro x k ih a w hS
  obtain ⟨v, n⟩ := x
  cases v
  · obtain ⟨ad, c, b, o, rfl, had, hlc, hcm, hF⟩ := hS
    have Hl := hide (Fo.len_list k)
    have Hend := hide (szTo_end k)
    have HI := hide ih
    have Hfin : Hid (tsz (false, n) k = 1 + Fo.sizes k) := by simp [tsz, Hid]
    clear ih
    unfold maxLen at hcm
    go_enter Tryd.func18, Tryd.ntmps18
    go_wp2_with (go_at_call 37; refine (arguments_any _ _ _ _).mono ?_; rintro e w1 ⟨rfl, hb1⟩)
    have hB : Below w.heap.size w w1 := below_box hb1
    clear hb1
    go_loopw [3, 9] (fun s i wr => ∃ j : Nat, j ≤ Fo.len k ∧ i = .int .i64 j ∧ s = .int .i64 (wrap64 (szTo k j : Nat)) ∧ Below w.heap.size w wr) (fun _ i _ => Fo.len k - (intOf i).toNat)
    case atStart => exact ⟨0, Nat.zero_le _, rfl, by rw [szTo_zero, wrap64_one], hB⟩
    case round =>
      obtain ⟨j, hj, rfl, rfl, hBr⟩ := hrel
      by_cases hlt : j < Fo.len k
      · have hlt' : (j : Int) < (Fo.len k : Int) := by omega
        obtain ⟨⟨⟨yv, yn⟩, yk⟩, hy⟩ : ∃ y, k.list[j]? = some y := ⟨k.list[j]'(by rw [Hl.out]; exact hlt), by simp⟩
        obtain ⟨c0, c1, yv', c2, hSy⟩ := (hF.below hBr).at hy
        have ha : ad = some ⟨b, o, none⟩ := had (by omega)
        subst ha
        have HS := hide hSy
        obtain ⟨ya, yc, yb, yo, rfl, -, -, -, -⟩ := hSy
        have Hy := hide hy
        clear hy
        go_wp2_with fail
        refine (HI.out ((yv, yn), yk) (List.mem_of_getElem? Hy.out) _ _ (HS.out.alloc _)).mono ?_
        rintro e w2 ⟨rfl, hb2⟩
        go_wp2_with fail
        go_roundw
        case rel => exact ⟨j + 1, by omega, by go_num, by rw [szTo_succ Hy.out, wrap64_add, Int.natCast_add], below_step hBr (below_box hb2)⟩
        case measure => simp [intOf]; omega
      · have hje : j = Fo.len k := by omega
        have Hj := hide hje
        clear hje
        go_wp2_with fail
        go_ret
        refine ⟨?_, hBr⟩
        rw [Hfin.out, ← Hend.out, ← Hj.out]; rfl
  · go_enter Tryd.func18, Tryd.ntmps18
    go_wp2_with (go_at_call 37; refine (arguments_any _ _ _ _).mono ?_; rintro e w1 ⟨rfl, hb1⟩)
    have hB : Below w.heap.size w w1 := below_box hb1
    clear hb1
    go_loopw [3, 9] (fun s i wr => i = .int .i64 0 ∧ s = .int .i64 1 ∧ Below w.heap.size w wr) (fun _ _ _ => 0)
    case atStart => exact ⟨rfl, rfl, hB⟩
    case round =>
      obtain ⟨rfl, rfl, hBr⟩ := hrel
      go_wp2_with fail
      go_ret
      exact ⟨by rw [show tsz (true, n) k = 1 from rfl, wrap64_one]; rfl, hBr⟩

/-- Variables and symbols, the document's count: of all that is there. -/
def Fo.sizesR : Fo → Nat
  | .nil => 0
  | .node _ _ _ k r => 1 + Fo.sizesR k + Fo.sizesR r
def tszR (k : Fo) : Nat := 1 + Fo.sizesR k
def szToR (k : Fo) (j : Nat) : Nat := 1 + ((k.list.take j).map fun y => tszR y.2).sum

theorem sizesR_list : ∀ F : Fo, Fo.sizesR F = (F.list.map fun y => tszR y.2).sum
  | .nil => rfl
  | .node _ _ x k r => by simp [Fo.sizesR, Fo.list, tszR, sizesR_list r]
theorem szToR_zero (k : Fo) : szToR k 0 = 1 := rfl
theorem szToR_succ {k : Fo} {j : Nat} {x : Bool × Int} {y : Fo} (h : k.list[j]? = some (x, y)) : szToR k (j + 1) = szToR k j + tszR y := by
  unfold szToR; rw [List.take_add_one, h]; simp; omega
theorem szToR_end (k : Fo) : szToR k (Fo.len k) = tszR k := by
  rw [szToR, tszR, ← Fo.len_list, List.take_length, sizesR_list]

def SizeRSaid (x : Bool × Int) (k : Fo) : Prop := ∀ (a : Value) (w : World), SIn w k a →
    Calls Tryd.prog 19 #[.agg #[.bool x.1, .int .i64 x.2, a]] w fun e w' => e = .returned (.int .i64 (wrap64 (tszR k : Nat))) ∧ Below w.heap.size w w'

set_option maxHeartbeats 400000 in
theorem sizeR_any (x : Bool × Int) (k : Fo) : SizeRSaid x k := by
  refine Fo.ind1 (p := SizeRSaid) ?_ x k
  clear x k
  intro x k ih a w hS
  obtain ⟨v, n⟩ := x
  obtain ⟨ad, c, b, o, rfl, had, hlc, hcm, hF⟩ := hS
  have Hl := hide (Fo.len_list k)
  have Hend := hide (szToR_end k)
  have HI := hide ih
  clear ih
  unfold maxLen at hcm
  go_enter Tryd.func19, Tryd.ntmps19
  go_wp2_with fail
  go_loopw [3, 8] (fun s i wr => ∃ j : Nat, j ≤ Fo.len k ∧ i = .int .i64 j ∧ s = .int .i64 (wrap64 (szToR k j : Nat)) ∧ Below (w.heap.size + 1) (w.alloc (.cells #[.bool v, .int .i64 n, .slice ad (Fo.len k) c] 26)) wr) (fun _ i _ => Fo.len k - (intOf i).toNat)
  case atStart => exact ⟨0, Nat.zero_le _, rfl, by rw [szToR_zero, wrap64_one], Below.refl _ _⟩
  case round =>
    obtain ⟨j, hj, rfl, rfl, hBx⟩ := hrel
    obtain ⟨q0, q1, q2, hBr, hlt0⟩ := box_cells hBx
    by_cases hlt : j < Fo.len k
    · have hlt' : (j : Int) < (Fo.len k : Int) := by omega
      obtain ⟨⟨⟨yv, yn⟩, yk⟩, hy⟩ : ∃ y, k.list[j]? = some y := ⟨k.list[j]'(by rw [Hl.out]; exact hlt), by simp⟩
      obtain ⟨c0, c1, yv', c2, hSy⟩ := (hF.below hBr).at hy
      have ha : ad = some ⟨b, o, none⟩ := had (by omega)
      subst ha
      have HS := hide hSy
      obtain ⟨ya, yc, yb, yo, rfl, -, -, -, -⟩ := hSy
      have Hy := hide hy
      clear hy
      go_wp2_with fail
      refine (HI.out ((yv, yn), yk) (List.mem_of_getElem? Hy.out) _ _ HS.out).mono ?_
      rintro e w2 ⟨rfl, hb2⟩
      go_wp2_with fail
      go_roundw
      case rel => exact ⟨j + 1, by omega, by go_num, by rw [szToR_succ Hy.out, wrap64_add, Int.natCast_add], hBx.trans (hb2.mono (by omega))⟩
      case measure => simp [intOf]; omega
    · have hje : j = Fo.len k := by omega
      have Hj := hide hje
      clear hje
      go_wp2_with fail
      go_ret
      refine ⟨?_, hBr⟩
      rw [← Hend.out, ← Hj.out]; rfl

end Go.Proofs.YtegdfnfengnjlaaDoor
