/- What is wrong with a term: Wrong, the project's and the document's. -/
import Derived.Test.YtegdfnfengnjlaaDoorSig
import Derived.Deep.QuietTactic
import Derived.BigQuiet
namespace Go.Proofs.YtegdfnfengnjlaaDoor
open Go.RowKit Go.Deep Go.ChangeShapes Go.WideShapes

/-- What is wrong with a term that has n arguments, its arguments apart. -/
def aloneF (s : List Int) (x : Bool × Int) (n : Nat) : Int :=
  if x.1 then (if x.2 < 0 ∨ 4 < x.2 then 3 else if n = 0 then 0 else 5)
  else if x.2 < 0 ∨ (s.length : Int) ≤ x.2 then 7 else if (n : Int) = s.getD x.2.toNat 0 then 0 else 5
/-- What is wrong with terms, the first one's first. -/
def walkF (s : List Int) : Fo → Int → Int
  | .nil, _ => 0
  | .node _ _ x k r, d =>
    if (if 12 < d then 4 else if aloneF s x (Fo.len k) ≠ 0 then aloneF s x (Fo.len k) else walkF s k (d + 1)) ≠ 0
    then (if 12 < d then 4 else if aloneF s x (Fo.len k) ≠ 0 then aloneF s x (Fo.len k) else walkF s k (d + 1)) else walkF s r d
def walkT (s : List Int) (x : Bool × Int) (k : Fo) (d : Int) : Int :=
  if 12 < d then 4 else if aloneF s x (Fo.len k) ≠ 0 then aloneF s x (Fo.len k) else walkF s k (d + 1)

theorem walkF_node (s : List Int) (p q : Nat) (x : Bool × Int) (k r : Fo) (d : Int) : walkF s (.node p q x k r) d = if walkT s x k d ≠ 0 then walkT s x k d else walkF s r d := rfl

theorem len_zero : ∀ {k : Fo}, Fo.len k = 0 → k = .nil
  | .nil, _ => rfl
  | .node _ _ _ _ r, h => by simp [Fo.len] at h

/-- Nothing is wrong with the first j terms. -/
def wOk (s : List Int) (k : Fo) (d : Int) (j : Nat) : Prop := ∀ i, i < j → ∀ y, k.list[i]? = some y → walkT s y.1 y.2 d = 0

theorem walkF_end {s : List Int} {d : Int} : ∀ {k : Fo}, wOk s k d (Fo.len k) → walkF s k d = 0
  | .nil, _ => rfl
  | .node _ _ x k r, h => by
    have h0 := h 0 (by simp [Fo.len]) (x, k) (by simp [Fo.list])
    rw [walkF_node, h0]
    simp only [ne_eq, not_true_eq_false, if_false]
    exact walkF_end fun i hi y hy => h (i + 1) (by simp [Fo.len]; omega) y (by simpa [Fo.list] using hy)
theorem walkF_bad {s : List Int} {d : Int} : ∀ {k : Fo} {j : Nat} {y : (Bool × Int) × Fo}, wOk s k d j → k.list[j]? = some y → walkT s y.1 y.2 d ≠ 0 → walkF s k d = walkT s y.1 y.2 d
  | .nil, _, _, _, h, _ => by simp [Fo.list] at h
  | .node _ _ x k r, 0, y, _, h, he => by
    simp only [Fo.list, List.getElem?_cons_zero, Option.some.injEq] at h
    subst h
    rw [walkF_node, if_pos he]
  | .node _ _ x k r, j + 1, y, hok, h, he => by
    have h0 := hok 0 (by omega) (x, k) (by simp [Fo.list])
    rw [walkF_node, h0]
    simp only [ne_eq, not_true_eq_false, if_false]
    exact walkF_bad (j := j) (fun i hi y hy => hok (i + 1) (by omega) y (by simpa [Fo.list] using hy)) (by simpa [Fo.list] using h) he

theorem wOk_succ {s : List Int} {k : Fo} {d : Int} {j : Nat} {y : (Bool × Int) × Fo} (h : wOk s k d j) (hy : k.list[j]? = some y) (h0 : walkT s y.1 y.2 d = 0) : wOk s k d (j + 1) := by
  intro i hi z hz
  by_cases e : i = j
  · subst e; rw [hy] at hz; cases hz; exact h0
  · exact h i (by omega) z hz

def WalkRSaid (x : Bool × Int) (k : Fo) : Prop := ∀ (s : List Int) (sv a : Value) (d : Int) (w : World), NIn w s sv → SIn w k a → 0 ≤ d → d ≤ 13 →
    Calls Tryd.prog 31 #[sv, .agg #[.bool x.1, .int .i64 x.2, a], .int .i64 d] w fun e w' => e = .returned (.int .i64 (walkT s x k d)) ∧ Below w.heap.size w w'

set_option maxHeartbeats 1000000 in
theorem walkR_any (x : Bool × Int) (k : Fo) : WalkRSaid x k := by
  refine Fo.ind1 (p := WalkRSaid) ?_ x k
  clear x k
  intro x k ih s sv a d w hN hS hd0 hd13
  have HI := hide ih
  have HN := hide hN
  clear ih
  obtain ⟨v, n⟩ := x
  obtain ⟨ad, c, b, o, rfl, had, hlc, hcm, hF⟩ := hS
  obtain ⟨sa, sc, sb, so, rfl, hsa, hslc, hscm, hsF⟩ := hN
  unfold maxLen at hcm hscm
  have Hl := hide (Fo.len_list k)
  have HsF := hide hsF
  clear hsF
  by_cases hd : 12 < d
  · have Hf : Hid (walkT s (v, n) k d = 4) := by simp [Hid, walkT, hd]
    go_enter Tryd.func31, Tryd.ntmps31
    go_wp2_with fail
    go_ret
    exact ⟨by rw [Hf.out]; rfl, below_alloc _ _⟩
  have Ht : Hid (walkT s (v, n) k d = if aloneF s (v, n) (Fo.len k) ≠ 0 then aloneF s (v, n) (Fo.len k) else walkF s k (d + 1)) := by simp [Hid, walkT, hd]
  cases v
  · have Hal : Hid (aloneF s (false, n) (Fo.len k) = if n < 0 ∨ (s.length : Int) ≤ n then 7 else if (Fo.len k : Int) = s.getD n.toNat 0 then 0 else 5) := by simp [Hid, aloneF]
    by_cases hn0 : n < 0
    · have Hf : Hid (walkT s (false, n) k d = 7) := by rw [Hid, Ht.out, Hal.out]; simp [hn0]
      go_enter Tryd.func31, Tryd.ntmps31
      go_wp2_with fail
      go_ret
      exact ⟨by rw [Hf.out]; rfl, below_alloc _ _⟩
    by_cases hns : (s.length : Int) ≤ n
    · have Hf : Hid (walkT s (false, n) k d = 7) := by rw [Hid, Ht.out, Hal.out]; simp [hns]
      go_enter Tryd.func31, Tryd.ntmps31
      go_wp2_with fail
      go_ret
      exact ⟨by rw [Hf.out]; rfl, below_alloc _ _⟩
    have hns' : n < (s.length : Int) := by omega
    have hn0' : 0 ≤ n := by omega
    have hsa' : sa = some ⟨sb, so, none⟩ := hsa (by omega)
    subst hsa'
    have hcell := HsF.out n.toNat (by omega)
    have hcell1 : (w.alloc (.cells #[.bool false, .int .i64 n, .slice ad (Fo.len k) c] 26)).cell? ⟨sb, so + n.toNat, none⟩ = some (.int .i64 (s.getD n.toNat 0)) := grow_cell (below_alloc _ _) _ _ hcell
    generalize s.getD n.toNat 0 = m at *
    clear hsa
    by_cases hm : (Fo.len k : Int) = m
    · have hmb : ((Fo.len k : Int) != m) = false := by simp [hm]
      have Hf : Hid (walkT s (false, n) k d = walkF s k (d + 1)) := by rw [Hid, Ht.out, Hal.out]; simp [hn0, hns, hm]
      have HF := hide hF
      clear hm hF hcell
      go_enter Tryd.func31, Tryd.ntmps31
      go_wp2_with fail
      go_quiet (fail)
      go_wp2_with fail
      go_loopw [48] (fun i wr => ∃ j : Nat, j ≤ Fo.len k ∧ i = .int .i64 j ∧ wOk s k (d + 1) j ∧ Below w.heap.size w wr) (fun i _ => Fo.len k - (intOf i).toNat)
      case atStart => exact ⟨0, Nat.zero_le _, rfl, fun i hi => by omega, below_drewN (below_alloc _ _) _⟩
      case round =>
        obtain ⟨j, hj, rfl, hok, hBr⟩ := hrel
        have Hok := hide hok
        clear hok
        by_cases hlt : j < Fo.len k
        · have hlt' : (j : Int) < (Fo.len k : Int) := by omega
          obtain ⟨⟨⟨yv, yn⟩, yk⟩, hy⟩ : ∃ y, k.list[j]? = some y := ⟨k.list[j]'(by rw [Hl.out]; exact hlt), by simp⟩
          obtain ⟨c0, c1, yv', c2, hSy⟩ := (HF.out.below hBr).at hy
          have ha : ad = some ⟨b, o, none⟩ := had (by omega)
          subst ha
          have HS := hide hSy
          obtain ⟨ya, yc, yb, yo, rfl, -, -, -, -⟩ := hSy
          have Hy := hide hy
          have HNr := hide (HN.out.below hBr)
          clear hy
          go_wp2_with fail
          refine (HI.out ((yv, yn), yk) (List.mem_of_getElem? Hy.out) s _ _ _ _ (HNr.out.alloc _) (HS.out.alloc _) (by omega) (by omega)).mono ?_
          rintro e w2 ⟨rfl, hb2⟩
          have hB2 := below_step hBr (below_box hb2)
          by_cases he : walkT s (yv, yn) yk (d + 1) = 0
          · have Hok2 := hide (wOk_succ Hok.out Hy.out he)
            simp only [he]
            go_wp2_with fail
            go_roundw
            case rel => exact ⟨j + 1, by omega, by go_num, Hok2.out, hB2⟩
            case measure => simp [intOf]; omega
          · have Hfin := hide (Hf.out.trans (walkF_bad Hok.out Hy.out he))
            have heb : (walkT s (yv, yn) yk (d + 1) != 0) = true := by simpa using he
            simp only at Hfin heb ⊢
            generalize walkT s (yv, yn) yk (d + 1) = E at *
            clear he
            go_wp2_with fail
            go_ret
            exact ⟨by rw [Hfin.out]; rfl, hB2⟩
        · have hje : j = Fo.len k := by omega
          have Hf0 : Hid (walkT s (false, n) k d = 0) := by rw [Hid, Hf.out]; rw [hje] at Hok; exact walkF_end Hok.out
          clear hje
          go_wp2_with fail
          go_ret
          exact ⟨by rw [Hf0.out]; rfl, hBr⟩
    · have hmb : ((Fo.len k : Int) != m) = true := by simp [hm]
      have Hf : Hid (walkT s (false, n) k d = 5) := by rw [Hid, Ht.out, Hal.out]; simp [hn0, hns, hm]
      clear hm hF hcell
      go_enter Tryd.func31, Tryd.ntmps31
      go_wp2_with fail
      go_quiet (fail)
      go_wp2_with fail
      go_ret
      exact ⟨by rw [Hf.out]; rfl, below_drewN (below_alloc _ _) _⟩
  · have Hal : Hid (aloneF s (true, n) (Fo.len k) = if n < 0 ∨ 4 < n then 3 else if Fo.len k = 0 then 0 else 5) := by simp [Hid, aloneF]
    by_cases hn0 : n < 0
    · have Hf : Hid (walkT s (true, n) k d = 3) := by rw [Hid, Ht.out, Hal.out]; simp [hn0]
      go_enter Tryd.func31, Tryd.ntmps31
      go_wp2_with fail
      go_ret
      exact ⟨by rw [Hf.out]; rfl, below_alloc _ _⟩
    by_cases hn4 : 4 < n
    · have Hf : Hid (walkT s (true, n) k d = 3) := by rw [Hid, Ht.out, Hal.out]; simp [hn4]
      go_enter Tryd.func31, Tryd.ntmps31
      go_wp2_with fail
      go_ret
      exact ⟨by rw [Hf.out]; rfl, below_alloc _ _⟩
    by_cases hl0 : Fo.len k = 0
    · have Hf : Hid (walkT s (true, n) k d = 0) := by rw [Hid, Ht.out, Hal.out, len_zero hl0]; simp [hn0, hn4, Fo.len, walkF]
      have hl0' : ¬ (0 : Int) < (Fo.len k : Int) := by omega
      clear had
      go_enter Tryd.func31, Tryd.ntmps31
      go_wp2_with fail
      go_ret
      exact ⟨by rw [Hf.out]; rfl, below_alloc _ _⟩
    · have Hf : Hid (walkT s (true, n) k d = 5) := by rw [Hid, Ht.out, Hal.out]; simp [hn0, hn4, hl0]
      have hl0' : (0 : Int) < (Fo.len k : Int) := by omega
      clear had
      go_enter Tryd.func31, Tryd.ntmps31
      go_wp2_with fail
      go_ret
      exact ⟨by rw [Hf.out]; rfl, below_alloc _ _⟩

end Go.Proofs.YtegdfnfengnjlaaDoor
