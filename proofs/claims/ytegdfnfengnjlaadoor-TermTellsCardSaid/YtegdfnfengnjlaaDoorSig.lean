/- What is wrong with symbols: WrongSig, the project's and the document's. -/
import Derived.Test.YtegdfnfengnjlaaDoorSize
namespace Go.Proofs.YtegdfnfengnjlaaDoor
open Go.RowKit Go.Deep Go.ChangeShapes Go.WideShapes

/-- The numbers l lie in w, as the value v says. -/
def NIn (w : World) (l : List Int) (v : Value) : Prop :=
  ∃ (a : Option Addr) (c b o : Nat), v = .slice a l.length c ∧ (0 < l.length → a = some ⟨b, o, none⟩) ∧ l.length ≤ c ∧ c ≤ maxLen ∧ ∀ i, i < l.length → w.cell? ⟨b, o + i, none⟩ = some (.int .i64 (l.getD i 0))

theorem NIn.later {w w' : World} (hc : ∀ a v, w.cell? a = some v → w'.cell? a = some v) {l : List Int} {v : Value} (h : NIn w l v) : NIn w' l v := by
  obtain ⟨a, c, b, o, rfl, h3, h4, h5, h6⟩ := h
  exact ⟨a, c, b, o, rfl, h3, h4, h5, fun i hi => hc _ _ (h6 i hi)⟩
theorem NIn.below {w w' : World} (hb : Below w.heap.size w w') {l : List Int} {v : Value} (h : NIn w l v) : NIn w' l v := h.later (grow_cell hb)
theorem NIn.alloc {w : World} {l : List Int} {v : Value} (h : NIn w l v) (ob : Obj) : NIn (w.alloc ob) l v := h.below (below_alloc w ob)

def okNum (x : Int) : Bool := decide (0 ≤ x ∧ x ≤ 2)
def wsig (s : List Int) : Int := if s.length = 0 ∨ 6 < s.length then 5 else if s.all okNum then 0 else 3
/-- The first j numbers are right. -/
def okTo (s : List Int) (j : Nat) : Prop := ∀ i, i < j → okNum (s.getD i 0) = true

theorem okTo_end {s : List Int} (h : okTo s s.length) : s.all okNum = true := by
  rw [List.all_eq_true]
  intro x hx
  obtain ⟨i, hi, rfl⟩ := List.mem_iff_getElem.1 hx
  have := h i hi
  simpa [List.getD_eq_getElem?_getD, hi] using this
theorem okTo_bad {s : List Int} {j : Nat} (hj : j < s.length) (h : okNum (s.getD j 0) = false) : s.all okNum = false := by
  rw [Bool.eq_false_iff]
  intro h2
  rw [List.all_eq_true] at h2
  have := h2 (s[j]) (List.getElem_mem hj)
  simp [List.getD_eq_getElem?_getD, hj] at h
  rw [this] at h; cases h

set_option maxHeartbeats 400000 in
theorem wsigR_any (s : List Int) (v : Value) (w : World) (h : NIn w s v) : Calls Tryd.prog 7 #[v] w fun e w' => e = .returned (.int .i64 (wsig s)) ∧ w' = w := by
  obtain ⟨ad, c, b, o, rfl, had, hlc, hcm, hF⟩ := h
  unfold maxLen at hcm
  by_cases h0 : s.length = 0
  · have Hf : Hid (wsig s = 5) := by simp [Hid, wsig, h0]
    have h0' : ((s.length : Int) == 0) = true := by rw [beq_iff_eq]; omega
    go_enter Tryd.func7, Tryd.ntmps7
    go_wp2_with fail
    go_ret
    exact ⟨by rw [Hf.out]; rfl, rfl⟩
  have h0' : ((s.length : Int) == 0) = false := by rw [beq_eq_false_iff_ne]; omega
  by_cases h6 : 6 < s.length
  · have Hf : Hid (wsig s = 5) := by simp [Hid, wsig, h6]
    have h6' : (6 : Int) < (s.length : Int) := by omega
    go_enter Tryd.func7, Tryd.ntmps7
    go_wp2_with fail
    go_ret
    exact ⟨by rw [Hf.out]; rfl, rfl⟩
  have ha : ad = some ⟨b, o, none⟩ := had (by omega)
  subst ha
  have h6' : ¬ (6 : Int) < (s.length : Int) := by omega
  have Hw : Hid (wsig s = if s.all okNum then 0 else 3) := by simp [Hid, wsig, h6, h0]
  have HF := hide hF
  clear had hF
  go_enter Tryd.func7, Tryd.ntmps7
  go_wp2_with fail
  go_loop [15] (fun i => ∃ j : Nat, j ≤ s.length ∧ i = .int .i64 j ∧ okTo s j) (fun i => s.length - (intOf i).toNat)
  case atStart => exact ⟨0, Nat.zero_le _, rfl, fun i hi => by omega⟩
  case round =>
    obtain ⟨j, hj, rfl, hok⟩ := hrel
    by_cases hlt : j < s.length
    · have hlt' : (j : Int) < (s.length : Int) := by omega
      have hc := HF.out j hlt
      have Hbad := hide (okTo_bad hlt)
      have hz : okNum (s.getD j 0) = decide (0 ≤ s.getD j 0 ∧ s.getD j 0 ≤ 2) := rfl
      have Hn : Hid (okNum (s.getD j 0) = true → okTo s (j + 1)) := fun h i hi => by
        by_cases e : i = j
        · rw [e]; exact h
        · exact hok i (by omega)
      generalize s.getD j 0 = z at *
      have Hz := hide hz
      clear hz hok
      by_cases hz0 : z < 0
      · have Hf : Hid (wsig s = 3) := by
          have : okNum z = false := by rw [Hz.out]; simp; omega
          have := Hbad.out this
          rw [Hid, Hw.out, this]; rfl
        go_wp2_with fail
        go_ret
        exact ⟨by rw [Hf.out]; rfl, rfl⟩
      by_cases hz2 : 2 < z
      · have Hf : Hid (wsig s = 3) := by
          have : okNum z = false := by rw [Hz.out]; simp; omega
          have := Hbad.out this
          rw [Hid, Hw.out, this]; rfl
        go_wp2_with fail
        go_ret
        exact ⟨by rw [Hf.out]; rfl, rfl⟩
      go_wp2_with fail
      go_round
      case rel => exact ⟨j + 1, by omega, by go_num, Hn.out (by rw [Hz.out]; simp; omega)⟩
      case measure => simp [intOf]; omega
    · have Hf : Hid (wsig s = 0) := by
        have e : j = s.length := by omega
        rw [e] at hok
        have := okTo_end hok
        rw [Hid, Hw.out, this]; rfl
      go_wp2_with fail
      go_ret
      exact ⟨by rw [Hf.out]; rfl, rfl⟩

set_option maxHeartbeats 400000 in
theorem wsig_any (s : List Int) (v : Value) (w : World) (h : NIn w s v) : Calls Tryd.prog 6 #[v] w fun e w' => e = .returned (.int .i64 (wsig s)) ∧ w' = w := by
  obtain ⟨ad, c, b, o, rfl, had, hlc, hcm, hF⟩ := h
  unfold maxLen at hcm
  by_cases h0 : s.length = 0
  · have Hf : Hid (wsig s = 5) := by simp [Hid, wsig, h0]
    have h0' : (s.length : Int) < 1 := by omega
    go_enter Tryd.func6, Tryd.ntmps6
    go_wp2_with fail
    go_ret
    exact ⟨by rw [Hf.out]; rfl, rfl⟩
  have h0' : ¬ (s.length : Int) < 1 := by omega
  by_cases h6 : 6 < s.length
  · have Hf : Hid (wsig s = 5) := by simp [Hid, wsig, h6]
    have h6' : (6 : Int) < (s.length : Int) := by omega
    go_enter Tryd.func6, Tryd.ntmps6
    go_wp2_with fail
    go_ret
    exact ⟨by rw [Hf.out]; rfl, rfl⟩
  have ha : ad = some ⟨b, o, none⟩ := had (by omega)
  subst ha
  have h6' : ¬ (6 : Int) < (s.length : Int) := by omega
  have Hw : Hid (wsig s = if s.all okNum then 0 else 3) := by simp [Hid, wsig, h6, h0]
  have HF := hide hF
  clear had hF
  go_enter Tryd.func6, Tryd.ntmps6
  go_wp2_with fail
  go_loop [15] (fun i => ∃ j : Nat, j ≤ s.length ∧ i = .int .i64 j ∧ okTo s j) (fun i => s.length - (intOf i).toNat)
  case atStart => exact ⟨0, Nat.zero_le _, rfl, fun i hi => by omega⟩
  case round =>
    obtain ⟨j, hj, rfl, hok⟩ := hrel
    by_cases hlt : j < s.length
    · have hlt' : (j : Int) < (s.length : Int) := by omega
      have hc := HF.out j hlt
      have Hbad := hide (okTo_bad hlt)
      have hz : okNum (s.getD j 0) = decide (0 ≤ s.getD j 0 ∧ s.getD j 0 ≤ 2) := rfl
      have Hn : Hid (okNum (s.getD j 0) = true → okTo s (j + 1)) := fun h i hi => by
        by_cases e : i = j
        · rw [e]; exact h
        · exact hok i (by omega)
      generalize s.getD j 0 = z at *
      have Hz := hide hz
      clear hz hok
      by_cases hz0 : z < 0
      · have Hf : Hid (wsig s = 3) := by
          have : okNum z = false := by rw [Hz.out]; simp; omega
          have := Hbad.out this
          rw [Hid, Hw.out, this]; rfl
        go_wp2_with fail
        go_ret
        exact ⟨by rw [Hf.out]; rfl, rfl⟩
      by_cases hz2 : 2 < z
      · have Hf : Hid (wsig s = 3) := by
          have : okNum z = false := by rw [Hz.out]; simp; omega
          have := Hbad.out this
          rw [Hid, Hw.out, this]; rfl
        go_wp2_with fail
        go_ret
        exact ⟨by rw [Hf.out]; rfl, rfl⟩
      go_wp2_with fail
      go_round
      case rel => exact ⟨j + 1, by omega, by go_num, Hn.out (by rw [Hz.out]; simp; omega)⟩
      case measure => simp [intOf]; omega
    · have Hf : Hid (wsig s = 0) := by
        have e : j = s.length := by omega
        rw [e] at hok
        have := okTo_end hok
        rw [Hid, Hw.out, this]; rfl
      go_wp2_with fail
      go_ret
      exact ⟨by rw [Hf.out]; rfl, rfl⟩

end Go.Proofs.YtegdfnfengnjlaaDoor
