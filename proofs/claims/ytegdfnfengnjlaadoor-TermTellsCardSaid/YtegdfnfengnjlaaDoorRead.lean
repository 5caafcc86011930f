/- A text's first signs: signAhead, readSign, readVar. -/
import Derived.Test.YtegdfnfengnjlaaDoorPlaces
namespace Go.Proofs.YtegdfnfengnjlaaDoor
open Go.RowKit Go.Deep Go.ChangeShapes Go.WideShapes

abbrev str (l : List UInt8) : Value := .string ⟨l.toArray⟩

theorem byte_zero (d : UInt8) (r : List UInt8) (h : 0 < (⟨(d :: r).toArray⟩ : ByteArray).size) : (⟨(d :: r).toArray⟩ : ByteArray)[0]'h = d := rfl
theorem text_tail (d : UInt8) (r : List UInt8) : (⟨(d :: r).toArray⟩ : ByteArray).extract 1 (r.length + 1) = ⟨r.toArray⟩ := by
  apply ByteArray.ext
  rw [ByteArray.data_extract]
  simp
attribute [local go_sem] byte_zero text_tail

def signF (i : Int) : UInt8 := if i = 0 then 40 else 44

set_option maxHeartbeats 400000 in
theorem signAhead_any (i : Int) (w : World) : Calls Tryd.prog 46 #[.int .i64 i] w fun e w' => e = .returned (.int .u8 ((signF i).toNat : Int)) ∧ w' = w := by
  by_cases h : i = 0
  · have Hf : Hid (((signF i).toNat : Int) = 40) := by rw [Hid, signF, if_pos h]; rfl
    have hb : (i == 0) = true := by simp [h]
    clear h
    go_enter Tryd.func46, Tryd.ntmps46
    go_wp2_with fail
    go_ret
    exact ⟨by rw [Hf.out]; rfl, rfl⟩
  · have Hf : Hid (((signF i).toNat : Int) = 44) := by rw [Hid, signF, if_neg h]; rfl
    have hb : (i == 0) = false := by simp [h]
    clear h
    go_enter Tryd.func46, Tryd.ntmps46
    go_wp2_with fail
    go_ret
    exact ⟨by rw [Hf.out]; rfl, rfl⟩

/-- What stands behind a sign that must be; its error. -/
def sgn (c : UInt8) : List UInt8 → Int × List UInt8
  | [] => (8, [])
  | d :: r => if d = c then (0, r) else (2, [])

set_option maxHeartbeats 400000 in
theorem readSign_any (c : UInt8) (l : List UInt8) (w : World) (hl : l.length ≤ maxLen) : Calls Tryd.prog 45 #[.int .u8 (c.toNat : Int), str l] w fun e w' => e = .returned (.tuple #[str (sgn c l).2, .int .i64 (sgn c l).1]) ∧ w' = w := by
  unfold maxLen at hl
  cases l with
  | nil =>
    go_enter Tryd.func45, Tryd.ntmps45
    go_wp2_with fail
    go_ret2
    exact ⟨rfl, rfl⟩
  | cons d r =>
    by_cases h : d = c
    · have Hf : Hid (sgn c (d :: r) = (0, r)) := by simp [Hid, sgn, h]
      subst h
      go_enter Tryd.func45, Tryd.ntmps45
      go_wp2_with fail
      go_ret2
      exact ⟨by rw [Hf.out]; rfl, rfl⟩
    · have Hf : Hid (sgn c (d :: r) = (2, [])) := by simp [Hid, sgn, h]
      have hb : ((d.toNat : Int) != (c.toNat : Int)) = true := by
        simp only [bne_iff_ne, ne_eq, Int.natCast_inj]
        exact fun e => h (UInt8.toNat_inj.1 e)
      go_enter Tryd.func45, Tryd.ntmps45
      go_wp2_with fail
      go_ret2
      exact ⟨by rw [Hf.out]; rfl, rfl⟩

/-- A variable's number, of one digit; what is behind. -/
def rvar : List UInt8 → Int × (Bool × Int) × List UInt8
  | [] => (8, (false, 0), [])
  | d :: r => if (d.toNat : Int) - 48 < 0 ∨ 5 ≤ (d.toNat : Int) - 48 then (3, (false, 0), []) else (0, (true, (d.toNat : Int) - 48), r)

abbrev trm (x : Bool × Int) (a : Value) : Value := .agg #[.bool x.1, .int .i64 x.2, a]

set_option maxHeartbeats 400000 in
theorem readVar_any (l : List UInt8) (w : World) (hl : l.length ≤ maxLen) : Calls Tryd.prog 33 #[str l] w fun e w' => e = .returned (.tuple #[trm (rvar l).2.1 (.slice none 0 0), str (rvar l).2.2, .int .i64 (rvar l).1]) ∧ Below w.heap.size w w' := by
  unfold maxLen at hl
  cases l with
  | nil =>
    go_enter Tryd.func33, Tryd.ntmps33
    go_wp2_with fail
    exact bodyPost_ret (v := .tuple #[.agg #[.bool false, .int .i64 0, .slice none 0 0], .string ⟨#[]⟩, .int .i64 8]) (by simp [results, Tryd.results33, go_sem]) rfl ⟨rfl, below_alloc _ _⟩
  | cons d r =>
    have hd : (d.toNat : Int) < 256 := by have := d.toNat_lt; omega
    by_cases h1 : (d.toNat : Int) - 48 < 0
    · have Hf : Hid (rvar (d :: r) = (3, (false, 0), [])) := by simp [Hid, rvar, h1]
      go_enter Tryd.func33, Tryd.ntmps33
      go_wp2_with fail
      rw [Hf.out]
      exact bodyPost_ret (v := .tuple #[.agg #[.bool false, .int .i64 0, .slice none 0 0], .string ⟨#[]⟩, .int .i64 3]) (by simp [results, Tryd.results33, go_sem]) rfl ⟨rfl, below_alloc _ _⟩
    by_cases h2 : 5 ≤ (d.toNat : Int) - 48
    · have Hf : Hid (rvar (d :: r) = (3, (false, 0), [])) := by simp [Hid, rvar, h2]
      go_enter Tryd.func33, Tryd.ntmps33
      go_wp2_with fail
      rw [Hf.out]
      exact bodyPost_ret (v := .tuple #[.agg #[.bool false, .int .i64 0, .slice none 0 0], .string ⟨#[]⟩, .int .i64 3]) (by simp [results, Tryd.results33, go_sem]) rfl ⟨rfl, below_alloc _ _⟩
    have Hf : Hid (rvar (d :: r) = (0, (true, (d.toNat : Int) - 48), r)) := by rw [Hid, rvar, if_neg (by omega)]
    go_enter Tryd.func33, Tryd.ntmps33
    go_wp2_with fail
    go_region
    go_wp2_with fail
    rw [Hf.out]
    exact bodyPost_ret (v := .tuple #[.agg #[.bool true, .int .i64 ((d.toNat : Int) - 48), .slice none 0 0], .string ⟨r.toArray⟩, .int .i64 0]) (by simp [results, Tryd.results33, go_sem]) rfl ⟨rfl, (below_alloc _ _).drew⟩

end Go.Proofs.YtegdfnfengnjlaaDoor
