/- What a text is read as; terms in new memory, by which blocks they lie in. -/
import Derived.Test.YtegdfnfengnjlaaDoorRead
namespace Go.Proofs.YtegdfnfengnjlaaDoor
open Go.RowKit Go.Deep Go.ChangeShapes Go.WideShapes

def Fo.snoc : Fo → Bool × Int → Fo → Fo
  | .nil, x, k => .node 0 0 x k .nil
  | .node p q y l r, x, k => .node p q y l (Fo.snoc r x k)
theorem snoc_len : ∀ (F : Fo) (x : Bool × Int) (k : Fo), Fo.len (Fo.snoc F x k) = Fo.len F + 1
  | .nil, _, _ => rfl
  | .node _ _ _ _ r, x, k => by simp [Fo.snoc, Fo.len, snoc_len r x k]

/-- So many terms that a text begins with, each behind its sign. -/
def readA (R : List UInt8 → Int × ((Bool × Int) × Fo) × List UInt8) : Nat → Int → Fo → List UInt8 → Int × Fo × List UInt8
  | 0, _, acc, t => (0, acc, t)
  | m + 1, i, acc, t =>
    if (sgn (signF i) t).1 ≠ 0 then ((sgn (signF i) t).1, .nil, []) else
    if (R (sgn (signF i) t).2).1 ≠ 0 then ((R (sgn (signF i) t).2).1, .nil, []) else
    readA R m (i + 1) (Fo.snoc acc (R (sgn (signF i) t).2).2.1.1 (R (sgn (signF i) t).2).2.1.2) (R (sgn (signF i) t).2).2.2
def argsT (R : List UInt8 → Int × ((Bool × Int) × Fo) × List UInt8) (many : Int) (t : List UInt8) : Int × Fo × List UInt8 :=
  if many ≤ 0 then (0, .nil, t) else
  if (readA R many.toNat 0 .nil t).1 ≠ 0 then ((readA R many.toNat 0 .nil t).1, .nil, []) else
  if (sgn 41 (readA R many.toNat 0 .nil t).2.2).1 ≠ 0 then ((sgn 41 (readA R many.toNat 0 .nil t).2.2).1, .nil, []) else
  (0, (readA R many.toNat 0 .nil t).2.1, (sgn 41 (readA R many.toNat 0 .nil t).2.2).2)
/-- The term that a text begins with: its error, the term, what is behind. -/
def readT (s : List Int) : Nat → List UInt8 → Int × ((Bool × Int) × Fo) × List UInt8
  | 0, _ => (8, ((false, 0), .nil), [])
  | _ + 1, [] => (8, ((false, 0), .nil), [])
  | f + 1, c :: r =>
    if c = 88 then ((rvar r).1, ((rvar r).2.1, .nil), (rvar r).2.2) else
    if (c.toNat : Int) - 97 < 0 ∨ (s.length : Int) ≤ (c.toNat : Int) - 97 then (7, ((false, 0), .nil), []) else
    if (argsT (readT s f) (s.getD ((c.toNat : Int) - 97).toNat 0) r).1 ≠ 0 then ((argsT (readT s f) (s.getD ((c.toNat : Int) - 97).toNat 0) r).1, ((false, 0), .nil), []) else
    (0, ((false, (c.toNat : Int) - 97), (argsT (readT s f) (s.getD ((c.toNat : Int) - 97).toNat 0) r).2.1), (argsT (readT s f) (s.getD ((c.toNat : Int) - 97).toNat 0) r).2.2)

theorem sgn_len (c : UInt8) (l : List UInt8) (h : (sgn c l).1 = 0) : (sgn c l).2.length + 1 = l.length := by
  cases l with
  | nil => simp [sgn] at h
  | cons d r =>
    simp only [sgn] at h ⊢
    by_cases e : d = c
    · simp [e]
    · simp [e] at h
theorem sgn_le (c : UInt8) (l : List UInt8) : (sgn c l).2.length ≤ l.length := by
  cases l with
  | nil => simp [sgn]
  | cons d r => simp only [sgn]; split <;> simp
theorem rvar_le (l : List UInt8) : (rvar l).2.2.length ≤ l.length := by
  cases l with
  | nil => simp [rvar]
  | cons d r => simp only [rvar]; split <;> simp
theorem readA_le {R : List UInt8 → Int × ((Bool × Int) × Fo) × List UInt8} : ∀ (m : Nat) (i : Int) (acc : Fo) (t : List UInt8), (∀ u, u.length < t.length → (R u).2.2.length ≤ u.length) → (readA R m i acc t).2.2.length ≤ t.length
  | 0, _, _, _, _ => Nat.le_refl _
  | m + 1, i, acc, t, hR => by
    rw [readA]
    by_cases h1 : (sgn (signF i) t).1 = 0
    · rw [if_neg (by simpa using h1)]
      have e1 := sgn_len _ _ h1
      by_cases h2 : (R (sgn (signF i) t).2).1 = 0
      · rw [if_neg (by simpa using h2)]
        have e2 := hR (sgn (signF i) t).2 (by omega)
        have := readA_le m (i + 1) (Fo.snoc acc (R (sgn (signF i) t).2).2.1.1 (R (sgn (signF i) t).2).2.1.2) (R (sgn (signF i) t).2).2.2 (fun u hu => hR u (by omega))
        omega
      · rw [if_pos h2]; simp
    · rw [if_pos h1]; simp
theorem readT_le (s : List Int) : ∀ (f : Nat) (t : List UInt8), (readT s f t).2.2.length ≤ t.length
  | 0, _ => by simp [readT]
  | _ + 1, [] => by simp [readT]
  | f + 1, c :: r => by
    rw [readT]
    split
    · have := rvar_le r; simp only [List.length_cons]; omega
    · split
      · simp
      · split
        · simp
        · unfold argsT
          split
          · simp
          · split
            · simp
            · split
              · simp
              · have h1 := readA_le (R := readT s f) (s.getD ((c.toNat : Int) - 97).toNat 0).toNat 0 .nil r (fun u _ => readT_le s f u)
                have h2 := sgn_le 41 (readA (readT s f) (s.getD ((c.toNat : Int) - 97).toNat 0).toNat 0 .nil r).2.2
                simp only [List.length_cons]
                omega

/-- The cells of terms, three each. -/
def CellsOf (X : Nat → Prop) (w : World) : Fo → List Value → Prop
  | .nil, xs => xs = []
  | .node _ _ x k r, xs => ∃ a ys, xs = .bool x.1 :: .int .i64 x.2 :: a :: ys ∧ SB X w k a ∧ CellsOf X w r ys

theorem CellsOf.frame {X Y : Nat → Prop} {w w' : World} (hXY : ∀ q, X q → Y q) (hr : ∀ q i, X q → w'.cell? ⟨q, i, none⟩ = w.cell? ⟨q, i, none⟩) : ∀ {F : Fo} {xs : List Value}, CellsOf X w F xs → CellsOf Y w' F xs
  | .nil, _, h => h
  | .node _ _ _ _ _, _, ⟨a, ys, h1, h2, h3⟩ => ⟨a, ys, h1, h2.frame hXY hr, CellsOf.frame hXY hr h3⟩
theorem CellsOf.snoc {X : Nat → Prop} {w : World} {x : Bool × Int} {k : Fo} {a : Value} (hk : SB X w k a) : ∀ {F : Fo} {xs : List Value}, CellsOf X w F xs → CellsOf X w (Fo.snoc F x k) (xs ++ [.bool x.1, .int .i64 x.2, a])
  | .nil, _, h => by rw [CellsOf] at h; subst h; exact ⟨a, [], rfl, hk, rfl⟩
  | .node _ _ _ _ _, _, ⟨b, ys, h1, h2, h3⟩ => by subst h1; exact ⟨b, ys ++ _, rfl, h2, CellsOf.snoc hk h3⟩
theorem CellsOf.len {X : Nat → Prop} {w : World} : ∀ {F : Fo} {xs : List Value}, CellsOf X w F xs → xs.length = Fo.len F * 3
  | .nil, _, h => by rw [CellsOf] at h; subst h; rfl
  | .node _ _ _ _ r, _, ⟨a, ys, h1, _, h3⟩ => by subst h1; simp only [List.length_cons, Fo.len, h3.len]; omega
theorem CellsOf.one {X : Nat → Prop} {w : World} : ∀ {F : Fo} {xs : List Value}, CellsOf X w F xs → ∀ u ∈ xs, u.oneCell' = true
  | .nil, _, h, u, hu => by rw [CellsOf] at h; subst h; simp at hu
  | .node _ _ _ _ r, _, ⟨a, ys, h1, h2, h3⟩, u, hu => by
    subst h1
    obtain ⟨_, _, _, _, rfl, _⟩ := h2
    simp only [List.mem_cons] at hu
    rcases hu with rfl | rfl | rfl | hu
    · rfl
    · rfl
    · rfl
    · exact h3.one u hu

theorem CellsOf.at {X Y : Nat → Prop} {w : World} (hXY : ∀ q, X q → Y q) {g : Nat} : ∀ {F : Fo} {xs : List Value} {o : Nat}, CellsOf X w F xs → (∀ j, j < xs.length → w.cell? ⟨g, o + j, none⟩ = xs[j]?) → BIn Y w F g o
  | .nil, _, _, _, _ => trivial
  | .node _ _ x k r, _, o, ⟨a, ys, h1, h2, h3⟩, hc => by
    subst h1
    have c0 := hc 0 (by simp)
    have c1 := hc 1 (by simp)
    have c2 := hc 2 (by simp)
    obtain ⟨aa, c, b', o', rfl, q2, q3, q4, q5⟩ := h2
    refine ⟨by simpa using c0, by simpa using c1, ⟨aa, c, b', o', by simpa using c2, fun h => ⟨(q2 h).1, hXY _ (q2 h).2⟩, q3, q4, BIn.frame hXY (fun _ _ _ => rfl) q5 (fun h => (q2 h).2)⟩, ?_⟩
    refine CellsOf.at hXY h3 (fun j hj => ?_)
    have := hc (j + 3) (by simp; omega)
    rw [show o + 3 + j = o + (j + 3) by omega, this]
    simp

/-- A row that holds a forest's cells is that forest. -/
theorem row_sb {X Y : Nat → Prop} {w : World} {lo : Nat} {v : Value} {F : Fo} {xs : List Value} (h : w.ownsRow lo 26 3 v (Fo.len F) xs) (hc : CellsOf X w F xs) (hXY : ∀ q, X q → Y q) (hg : ∀ g, v.ownBlock = some g → Y g) : SB Y w F v := by
  rcases h.2 with ⟨rfl, h0⟩ | ⟨g, cap, cur, rfl, hl, hh, hn, hm, hs, ht⟩
  · have := len_zero h0
    subst this
    exact SB.nil Y w
  · refine ⟨_, cap, g, 0, rfl, fun _ => ⟨rfl, hg g rfl⟩, hn, hm, hc.at hXY (fun j hj => ?_)⟩
    rw [hc.len] at hj
    rw [Nat.zero_add]
    exact h.cellAt j hj

end Go.Proofs.YtegdfnfengnjlaaDoor
