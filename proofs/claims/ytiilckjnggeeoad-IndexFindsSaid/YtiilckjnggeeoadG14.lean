/- CE -/
import Derived.Test.YtiilckjnggeeoadG13
import Derived.Deep.RegionHeld3
namespace Go.Proofs.Ytiilckjnggeeoad
open Go.RowKit Go.Deep Go.ChangeShapes Go.WideShapes
def setL (w : World) (b : Nat) : Nat → List Value → World
  | _, [] => w
  | o, x :: xs => setL (w.setCell ⟨b, o, none⟩ x) b (o + 1) xs
theorem setL_other {b q i : Nat} : ∀ {xs : List Value} {o : Nat} {w : World}, (q ≠ b ∨ i < o ∨ o + xs.length ≤ i) → (setL w b o xs).cell? ⟨q, i, none⟩ = w.cell? ⟨q, i, none⟩
  | [], _, _, _ => rfl
  | x :: xs, o, w, h => by
    rw [setL, setL_other (xs := xs) (by simp at h; omega), set_other (by intro e; simp only [Addr.mk.injEq] at e; simp at h; omega)]
theorem setL_size {b : Nat} : ∀ {xs : List Value} {o : Nat} {w : World}, (setL w b o xs).heap.size = w.heap.size
  | [], _, _ => rfl
  | x :: xs, o, w => by rw [setL, setL_size (xs := xs)]; simp [World.setCell]
theorem setL_below {B : Nat} {b : Nat} {w : World} (hb : B ≤ b) : ∀ {xs : List Value} {o : Nat} {w1 : World}, Below B w w1 → Below B w (setL w1 b o xs)
  | [], _, _, h => h
  | _ :: xs, _, _, h => setL_below hb (xs := xs) (h.setCell hb _)
theorem setL_at {b : Nat} : ∀ {xs : List Value} {o : Nat} {w : World}, (∀ i, i < xs.length → ∃ u, w.cell? ⟨b, o + i, none⟩ = some u) → ∀ i x, xs[i]? = some x → (setL w b o xs).cell? ⟨b, o + i, none⟩ = some x
  | [], _, _, _, i, x, h => by simp at h
  | y :: xs, o, w, hc, 0, x, h => by
    simp at h; subst h
    rw [setL, setL_other (.inr (.inl (by omega)))]
    obtain ⟨u, hu⟩ := hc 0 (by simp)
    exact set_same hu
  | y :: xs, o, w, hc, i + 1, x, h => by
    rw [setL, show o + (i + 1) = o + 1 + i by omega]
    refine setL_at (xs := xs) (fun q hq => ?_) i x (by simpa using h)
    obtain ⟨u, hu⟩ := hc (q + 1) (by simp; omega)
    exact ⟨u, by rw [set_other (by intro e; simp only [Addr.mk.injEq] at e; omega), show o + 1 + q = o + (q + 1) by omega]; exact hu⟩
end Go.Proofs.Ytiilckjnggeeoad
