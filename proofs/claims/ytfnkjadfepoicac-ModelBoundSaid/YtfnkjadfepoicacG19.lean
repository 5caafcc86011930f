/- Each term of a clause made anew: each, Apply, Rename. -/
import Derived.Test.YtfnkjadfepoicacG18
import Derived.Test.YtfnkjadfepoicacG11
import Derived.Deep.RegionHeld3
namespace Go.Proofs.Ytfnkjadfepoicac
open Go.RowKit Go.Deep Go.ChangeShapes Go.WideShapes

/-- Cells set, one after the other. -/
def setL (w : World) (b : Nat) : Nat → List Value → World
  | _, [] => w
  | o, x :: xs => setL (w.setCell ⟨b, o, none⟩ x) b (o + 1) xs
theorem setL_other {b q i : Nat} : ∀ {xs : List Value} {o : Nat} {w : World}, (q ≠ b ∨ i < o ∨ o + xs.length ≤ i) → (setL w b o xs).cell? ⟨q, i, none⟩ = w.cell? ⟨q, i, none⟩
  | [], _, _, _ => rfl
  | x :: xs, o, w, h => by
    rw [setL, setL_other (xs := xs) (by simp at h; omega), set_other (by intro e; simp only [Addr.mk.injEq] at e; simp at h; omega)]
theorem setL_frozen {b : Nat} {q : Addr} : ∀ {xs : List Value} {o : Nat} {w : World}, (setL w b o xs).frozen? q = w.frozen? q
  | [], _, _ => rfl
  | x :: xs, o, w => by rw [setL, setL_frozen (xs := xs)]; simp
theorem setL_size {b : Nat} : ∀ {xs : List Value} {o : Nat} {w : World}, (setL w b o xs).heap.size = w.heap.size
  | [], _, _ => rfl
  | x :: xs, o, w => by rw [setL, setL_size (xs := xs)]; simp [World.setCell]
theorem setL_below {B : Nat} {b : Nat} {w : World} (hb : B ≤ b) : ∀ {xs : List Value} {o : Nat} {w1 : World}, Below B w w1 → Below B w (setL w1 b o xs)
  | [], _, _, h => h
  | _ :: xs, _, _, h => setL_below hb (xs := xs) (h.setCell hb _)
theorem setL_at {b : Nat} : ∀ {xs : List Value} {o : Nat} {w : World}, (∀ i, i < xs.length → ∃ u, w.cell? ⟨b, o + i, none⟩ = some u) → ∀ i x, xs[i]? = some x → (setL w b o xs).cell? ⟨b, o + i, none⟩ = some x
  | [], _, _, _, i, x, h => by simp at h
  | y :: xs, o, w, hc, 0, x, h => by
    simp at h; subst h
    rw [setL, setL_other (.inr (.inl (by omega)))]
    obtain ⟨u, hu⟩ := hc 0 (by simp)
    exact set_same hu
  | y :: xs, o, w, hc, i + 1, x, h => by
    rw [setL, show o + (i + 1) = o + 1 + i by omega]
    refine setL_at (xs := xs) (fun q hq => ?_) i x (by simpa using h)
    obtain ⟨u, hu⟩ := hc (q + 1) (by simp; omega)
    exact ⟨u, by rw [set_other (by intro e; simp only [Addr.mk.injEq] at e; omega), show o + 1 + q = o + (q + 1) by omega]; exact hu⟩

theorem keep7 {w : World} {b o q i : Nat} {x0 x1 x2 x3 x4 x5 x6 v : Value} (hq : q ≠ b) (h : w.cell? ⟨q, i, none⟩ = some v) :
    (((((((w.setCell ⟨b, o, none⟩ x0).setCell ⟨b, o + 1, none⟩ x1).setCell ⟨b, o + 2, none⟩ x2).setCell ⟨b, o + 3, none⟩ x3).setCell ⟨b, o + 4, none⟩ x4).setCell ⟨b, o + 5, none⟩ x5).setCell ⟨b, o + 6, none⟩ x6).cell? ⟨q, i, none⟩ = some v :=
  (setL_other (xs := [x0, x1, x2, x3, x4, x5, x6]) (o := o) (w := w) (.inl hq)).trans h
/-- So much of a clause is made, in the row g. -/
def MkRel (g : Nat) (W2 : World) (T : Cl) (j : Nat) (wr : World) : Prop :=
  Below g W2 wr ∧ There wr g (T.length * 7) ∧ g + 1 ≤ wr.heap.size ∧ ∃ xs, LC (fun q => g + 1 ≤ q ∧ q < wr.heap.size) wr (T.take j) xs ∧ ∀ i, i < xs.length → wr.cell? ⟨g, i, none⟩ = xs[i]?
theorem mk_start {W2 : World} {T : Cl} {z : Array Value} : MkRel W2.heap.size W2 T 0 (W2.alloc (.cells (madeCells z (T.length * 7)) 37)) := by
  refine ⟨below_alloc _ _, fun i hi => ⟨?_, frozen_new _ _ _ _⟩, by simp, [], rfl, fun i hi => by simp at hi⟩
  have hs : i < (madeCells z (T.length * 7)).size := by simp [madeCells]; exact hi
  exact ⟨(madeCells z (T.length * 7))[i], by simp [hs]⟩
theorem mk_step {g : Nat} {W2 wr w2 : World} {T : Cl} {j : Nat} {l : Lt} {a d : Value} (h : MkRel g W2 T j wr) (hl : T[j]? = some l) (hb : Below wr.heap.size wr w2)
    (hA : SB (fun q => wr.heap.size ≤ q ∧ q < w2.heap.size) w2 l.2.1.2 a) (hD : SB (fun q => wr.heap.size ≤ q ∧ q < w2.heap.size) w2 l.2.2.2 d) : MkRel g W2 T (j + 1) (setL w2 g (j * 7) (litV l a d)) := by
  obtain ⟨hB, hT, hs, xs, hX, hc⟩ := h
  have hj : j < T.length := (List.getElem?_eq_some_iff.1 hl).1
  have hsz := hb.size
  have keep : ∀ q i, q < wr.heap.size → w2.cell? ⟨q, i, none⟩ = wr.cell? ⟨q, i, none⟩ ∧ w2.frozen? ⟨q, i, none⟩ = wr.frozen? ⟨q, i, none⟩ := fun q i hq => ⟨hb.cell hq, hb.frozen hq⟩
  have hT2 : There w2 g (T.length * 7) := fun i hi => by
    obtain ⟨⟨v, hv⟩, hf⟩ := hT i hi
    have := keep g i (by omega)
    exact ⟨⟨v, this.1.trans hv⟩, this.2.trans hf⟩
  have hxl : xs.length = j * 7 := by rw [hX.len, List.length_take]; rw [Nat.min_eq_left (by omega)]
  have at7 := setL_at (b := g) (xs := litV l a d) (o := j * 7) (w := w2) (fun i hi => (hT2 (j * 7 + i) (by simp at hi; omega)).1)
  have far : ∀ q i, q ≠ g → (setL w2 g (j * 7) (litV l a d)).cell? ⟨q, i, none⟩ = w2.cell? ⟨q, i, none⟩ := fun q i hq => setL_other (.inl hq)
  refine ⟨setL_below (Nat.le_refl _) (hB.trans (hb.mono (by omega))), fun i hi => ?_, by rw [setL_size]; omega, xs ++ litV l a d, ?_, fun i hi => ?_⟩
  · obtain ⟨⟨v, hv⟩, hf⟩ := hT2 i hi
    refine ⟨?_, by rw [setL_frozen]; exact hf⟩
    by_cases hc : i < j * 7 ∨ j * 7 + 7 ≤ i
    · exact ⟨v, by rw [setL_other (.inr hc)]; exact hv⟩
    · obtain ⟨q, rfl⟩ : ∃ q, i = j * 7 + q := ⟨i - j * 7, by omega⟩
      exact ⟨_, at7 q _ (List.getElem?_eq_getElem (by simp; omega))⟩
  · rw [List.take_add_one, hl]
    refine LC.append (LC.one ?_ ?_) ?_
    · refine hA.frame (fun q hq => ⟨by omega, by rw [setL_size]; omega⟩) (fun q i hq => far q i (by omega))
    · refine hD.frame (fun q hq => ⟨by omega, by rw [setL_size]; omega⟩) (fun q i hq => far q i (by omega))
    · refine hX.frame (fun q hq => ⟨by omega, by rw [setL_size]; omega⟩) (fun q i hq => (far q i (by omega)).trans (keep q i hq.2).1)
  · rw [List.getElem?_append]
    by_cases hc' : i < xs.length
    · rw [if_pos hc', setL_other (.inr (.inl (by omega))), (keep g i (by omega)).1]
      exact hc i hc'
    · rw [if_neg hc']
      have hi' : i - xs.length < 7 := by simp at hi; omega
      have := at7 (i - xs.length) _ (List.getElem?_eq_getElem (by simpa using hi'))
      rw [show j * 7 + (i - xs.length) = i by omega] at this
      rw [this, List.getElem?_eq_getElem (by simpa using hi')]
theorem mk_end {g : Nat} {W2 wr : World} {T : Cl} (h : MkRel g W2 T T.length wr) (hm : T.length ≤ maxLen) : CIn wr T (.slice (some ⟨g, 0, none⟩) T.length T.length) := by
  obtain ⟨_, _, _, xs, hX, hc⟩ := h
  rw [List.take_length] at hX
  exact ⟨_, _, g, 0, rfl, fun _ => rfl, Nat.le_refl _, hm, hX.at (fun j hj => by rw [Nat.zero_add]; exact hc j hj)⟩

/-- The closure's calls. -/
theorem ret_box {w w3 : World} {z1 : Option Addr} {z2 z3 : Nat} {tv : Bool} {tn : Int} {tk : Fo} {lo g : Nat} (hO : OwnV w3 lo w3.heap.size tk (.slice z1 z2 z3)) (hg : g < lo) (hlo : w.heap.size ≤ lo) :
    OwnV (set3 w3 g 0 (.bool tv) (.int .i64 tn) (.slice z1 z2 z3)) w.heap.size (set3 w3 g 0 (.bool tv) (.int .i64 tn) (.slice z1 z2 z3)).heap.size tk (.slice z1 z2 z3) := by
  have h2 : OwnV (set3 w3 g 0 (.bool tv) (.int .i64 tn) (.slice z1 z2 z3)) lo w3.heap.size tk (.slice z1 z2 z3) := hO.frame (fun q i q1 q2 => ⟨set3_other (.inl (by omega)), set3_frozen⟩)
  exact h2.mono hlo (by rw [set3_size]; exact Nat.le_refl _)

end Go.Proofs.Ytfnkjadfepoicac
