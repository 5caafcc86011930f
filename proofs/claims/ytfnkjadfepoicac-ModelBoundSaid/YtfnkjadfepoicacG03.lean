/- A place in a term: find. -/
import Derived.Test.YtfnkjadfepoicacG02
import Derived.Deep.AppendLies
namespace Go.Proofs.Ytfnkjadfepoicac
open Go.RowKit Go.Deep Go.ChangeShapes Go.WideShapes

/-- The term at (b, o). -/
def TIn (w : World) (b o : Nat) (x : Bool × Int) (k : Fo) : Prop :=
  w.cell? ⟨b, o, none⟩ = some (.bool x.1) ∧ w.cell? ⟨b, o + 1, none⟩ = some (.int .i64 x.2) ∧ ∃ v, w.cell? ⟨b, o + 2, none⟩ = some v ∧ SIn w k v

theorem TIn.below {w w' : World} (hb : Below w.heap.size w w') {b o : Nat} {x : Bool × Int} {k : Fo} (h : TIn w b o x k) : TIn w' b o x k := by
  obtain ⟨h0, h1, v, h2, h3⟩ := h
  exact ⟨grow_cell hb _ _ h0, grow_cell hb _ _ h1, v, grow_cell hb _ _ h2, h3.below hb⟩

/-- What stands at a place. -/
def atT : List Int → Bool × Int → Fo → Option ((Bool × Int) × Fo)
  | [], x, k => some (x, k)
  | n :: p, x, k => if x.1 = true ∨ n < 0 ∨ (Fo.len k : Int) ≤ n then none else match k.list[n.toNat]? with
    | some y => atT p y.1 y.2
    | none => none

/-- From (b, o) the way p leads to (c, d). -/
def Loc (w : World) : List Int → Nat → Nat → Nat → Nat → Prop
  | [], b, o, c, d => c = b ∧ d = o
  | n :: p, b, o, c, d => ∃ (g off len cap : Nat), w.cell? ⟨b, o + 2, none⟩ = some (.slice (some ⟨g, off, none⟩) len cap) ∧ 0 ≤ n ∧ n < (len : Int) ∧ Loc w p g (off + n.toNat * 3) c d

theorem Loc.snoc {w : World} {n : Int} {c d g off len cap : Nat} (hc : w.cell? ⟨c, d + 2, none⟩ = some (.slice (some ⟨g, off, none⟩) len cap)) (h0 : 0 ≤ n) (h1 : n < (len : Int)) :
    ∀ {p : List Int} {b o : Nat}, Loc w p b o c d → Loc w (p ++ [n]) b o g (off + n.toNat * 3)
  | [], b, o, ⟨e1, e2⟩ => by
    subst e1 e2
    exact ⟨g, off, len, cap, hc, h0, h1, rfl, rfl⟩
  | m :: p, b, o, ⟨g', off', len', cap', q1, q2, q3, q4⟩ => ⟨g', off', len', cap', q1, q2, q3, Loc.snoc hc h0 h1 q4⟩

theorem atT_cons {n : Int} {p : List Int} {x : Bool × Int} {k : Fo} {y : (Bool × Int) × Fo} (hx : x.1 = false) (h0 : 0 ≤ n) (hy : k.list[n.toNat]? = some y) (h1 : n < (Fo.len k : Int)) : atT (n :: p) x k = atT p y.1 y.2 := by
  rw [atT, if_neg (by simp [hx]; omega), hy]
theorem atT_none {n : Int} {p : List Int} {x : Bool × Int} {k : Fo} (h : x.1 = true ∨ n < 0 ∨ (Fo.len k : Int) ≤ n) : atT (n :: p) x k = none := by
  rw [atT, if_pos h]

theorem drop_cons {p : List Int} {j : Nat} (h : j < p.length) : p.drop j = p.getD j 0 :: p.drop (j + 1) := by
  rw [List.drop_eq_getElem_cons h]; simp [List.getD_eq_getElem?_getD, h]
theorem take_snoc {p : List Int} {j : Nat} (h : j < p.length) : p.take (j + 1) = p.take j ++ [p.getD j 0] := by
  rw [List.take_add_one]; simp [List.getD_eq_getElem?_getD, h]

end Go.Proofs.Ytfnkjadfepoicac

/- A term put into another one, in memory of its own. -/
namespace Go.Proofs.Ytfnkjadfepoicac
open Go.RowKit Go.Deep Go.ChangeShapes Go.WideShapes

def setF : Fo → Nat → ((Bool × Int) × Fo → (Bool × Int) × Fo) → Fo
  | .nil, _, _ => .nil
  | .node p q x k r, 0, f => .node p q (f (x, k)).1 (f (x, k)).2 r
  | .node p q x k r, i + 1, f => .node p q x k (setF r i f)
def putT : List Int → (Bool × Int) × Fo → (Bool × Int) × Fo → (Bool × Int) × Fo
  | [], _, u => u
  | n :: p, t, u => if t.1.1 = true ∨ n < 0 ∨ (Fo.len t.2 : Int) ≤ n then t else (t.1, setF t.2 n.toNat (fun s => putT p s u))

theorem setF_len : ∀ (F : Fo) (i : Nat) (f : (Bool × Int) × Fo → (Bool × Int) × Fo), Fo.len (setF F i f) = Fo.len F
  | .nil, _, _ => rfl
  | .node _ _ _ _ _, 0, _ => rfl
  | .node _ _ _ _ r, i + 1, f => by simp [setF, Fo.len, setF_len r i f]

theorem atT_some {n : Int} {p : List Int} {x : Bool × Int} {k : Fo} {z : (Bool × Int) × Fo} (h : atT (n :: p) x k = some z) : x.1 = false ∧ 0 ≤ n ∧ n < (Fo.len k : Int) ∧ ∃ y, k.list[n.toNat]? = some y ∧ atT p y.1 y.2 = some z := by
  by_cases hc : x.1 = true ∨ n < 0 ∨ (Fo.len k : Int) ≤ n
  · rw [atT_none hc] at h; cases h
  · have h1 : x.1 = false := by cases hx : x.1 <;> simp_all
    have h2 : 0 ≤ n := by omega
    have h3 : n < (Fo.len k : Int) := by omega
    obtain ⟨y, hy⟩ : ∃ y, k.list[n.toNat]? = some y := ⟨k.list[n.toNat]'(by rw [Fo.len_list]; omega), by simp⟩
    rw [atT_cons h1 h2 hy h3] at h
    exact ⟨h1, h2, h3, y, hy, h⟩

/-- What is the same but for three cells. -/
def But3 (w w' : World) (c d : Nat) (S : Nat → Nat → Prop) : Prop :=
  (∀ q i, S q i → (q ≠ c ∨ i < d ∨ d + 3 ≤ i) → w'.cell? ⟨q, i, none⟩ = w.cell? ⟨q, i, none⟩) ∧ ∀ q i, w'.frozen? ⟨q, i, none⟩ = w.frozen? ⟨q, i, none⟩

/-- The term at (b, o), its arguments' rows in blocks of X. -/
def TB (X : Nat → Prop) (w : World) (b o : Nat) (x : Bool × Int) (k : Fo) : Prop :=
  w.cell? ⟨b, o, none⟩ = some (.bool x.1) ∧ w.cell? ⟨b, o + 1, none⟩ = some (.int .i64 x.2) ∧ ∃ v, w.cell? ⟨b, o + 2, none⟩ = some v ∧ SB X w k v

/-- What a write at a place makes of a term: told of a way. -/
def PutSaid (X : Nat → Prop) (w w' : World) (u : (Bool × Int) × Fo) (p : List Int) : Prop := ∀ (x : Bool × Int) (k : Fo) (b o : Nat) (a : Value) (lo hi c d : Nat) (z : (Bool × Int) × Fo),
    w.cell? ⟨b, o, none⟩ = some (.bool x.1) → w.cell? ⟨b, o + 1, none⟩ = some (.int .i64 x.2) → w.cell? ⟨b, o + 2, none⟩ = some a → OwnV w lo hi k a → (b < lo ∨ hi ≤ b) → (∀ q, lo ≤ q → q < hi → X q) → atT p x k = some z → Loc w p b o c d →
    But3 w w' c d (fun q i => (q = b ∧ o ≤ i ∧ i < o + 3) ∨ (lo ≤ q ∧ q < hi)) → TB X w' c d u.1 u.2 →
    TB X w' b o (putT p (x, k) u).1 (putT p (x, k) u).2 ∧ ((c = b ∧ d = o) ∨ (lo ≤ c ∧ c < hi))

theorem put_forest {X : Nat → Prop} {w w' : World} {u : (Bool × Int) × Fo} {p : List Int} (ih : PutSaid X w w' u p) : ∀ (F : Fo) (g o lo hi i c d : Nat) (y z : (Bool × Int) × Fo),
    WIn w F g o lo hi → (g < lo ∨ hi ≤ g) → (∀ q, lo ≤ q → q < hi → X q) → F.list[i]? = some y → atT p y.1 y.2 = some z → Loc w p g (o + 3 * i) c d →
    But3 w w' c d (fun q j => (q = g ∧ o ≤ j ∧ j < o + 3 * Fo.len F) ∨ (lo ≤ q ∧ q < hi)) → TB X w' c d u.1 u.2 →
    BIn X w' (setF F i (fun s => putT p s u)) g o ∧ ((c = g ∧ o ≤ d ∧ d + 3 ≤ o + 3 * Fo.len F) ∨ (lo ≤ c ∧ c < hi))
  | .nil, _, _, _, _, _, _, _, _, _, _, _, _, h, _, _, _, _ => by simp [Fo.list] at h
  | .node _ _ x k r, g, o, lo, hi, 0, c, d, y, z, ⟨h0, h1, f0, f1, f2, m, g', a, hm1, hm2, h2, h3, h4⟩, hg, hX, hy, hat, hL, hB, hT => by
    simp only [Fo.list, List.getElem?_cons_zero, Option.some.injEq] at hy
    subst hy
    have hO : OwnV w lo m k a := by
      rcases h3 with h3 | ⟨e1, e2, e3, e4, e5, e6⟩
      · exact .inl h3
      · exact .inr ⟨g', e1, e2, e3, e4, e5, e6⟩
    obtain ⟨hT', hloc⟩ := ih x k g o a lo m c d z h0 h1 h2 hO (by omega) (fun q q1 q2 => hX q q1 (by omega)) hat (by simpa using hL)
      ⟨fun q i hq hi => hB.1 q i (by simp only [Fo.len]; omega) hi, hB.2⟩ hT
    refine ⟨?_, by simp only [Fo.len]; omega⟩
    obtain ⟨t0, t1, v, t2, t3⟩ := hT'
    refine BIn.mk t0 t1 t2 t3 (WIn.toB (lo := m) (hi := hi) (fun q q1 q2 => hX q (by omega) q2) (h4.frame ?_ ?_))
    · exact fun i i1 i2 => ⟨hB.1 g i (.inl ⟨rfl, by omega, by simp only [Fo.len]; omega⟩) (by omega), hB.2 _ _⟩
    · exact fun q i q1 q2 => ⟨hB.1 q i (by omega) (by omega), hB.2 _ _⟩
  | .node _ _ x k r, g, o, lo, hi, i + 1, c, d, y, z, ⟨h0, h1, f0, f1, f2, m, g', a, hm1, hm2, h2, h3, h4⟩, hg, hX, hy, hat, hL, hB, hT => by
    have hO : OwnV w lo m k a := by
      rcases h3 with h3 | ⟨e1, e2, e3, e4, e5, e6⟩
      · exact .inl h3
      · exact .inr ⟨g', e1, e2, e3, e4, e5, e6⟩
    obtain ⟨hF, hloc⟩ := put_forest ih r g (o + 3) m hi i c d y z h4 (by omega) (fun q q1 q2 => hX q (by omega) q2) (by simpa [Fo.list] using hy) hat (by rw [show o + 3 + 3 * i = o + 3 * (i + 1) by omega]; exact hL)
      ⟨fun q j hq hj => hB.1 q j (by simp only [Fo.len]; omega) hj, hB.2⟩ hT
    refine ⟨?_, by simp only [Fo.len]; omega⟩
    refine BIn.mk ((hB.1 g o (.inl ⟨rfl, by omega, by simp only [Fo.len]; omega⟩) (by omega)).trans h0) ((hB.1 g (o + 1) (.inl ⟨rfl, by omega, by simp only [Fo.len]; omega⟩) (by omega)).trans h1) ((hB.1 g (o + 2) (.inl ⟨rfl, by omega, by simp only [Fo.len]; omega⟩) (by omega)).trans h2) ?_ hF
    exact OwnV.toB (lo := lo) (hi := m) (fun q q1 q2 => hX q q1 (by omega)) (hO.frame fun q j q1 q2 => ⟨hB.1 q j (by omega) (by omega), hB.2 _ _⟩)

theorem put_root {X : Nat → Prop} {w w' : World} {u : (Bool × Int) × Fo} : ∀ p : List Int, PutSaid X w w' u p
  | [], x, k, b, o, a, lo, hi, c, d, z, h0, h1, h2, hO, hb, hX, hat, hL, hB, hT => by
    obtain ⟨rfl, rfl⟩ := hL
    exact ⟨hT, .inl ⟨rfl, rfl⟩⟩
  | n :: p, x, k, b, o, a, lo, hi, c, d, z, h0, h1, h2, hO, hb, hX, hat, hL, hB, hT => by
    obtain ⟨hx, hn0, hn1, y, hy, hat'⟩ := atT_some hat
    rcases hO with ⟨rfl, rfl⟩ | ⟨g, e1, e2, e3, e4, rfl, hk⟩
    · simp [Fo.len] at hn1; omega
    obtain ⟨g', off, len, cap, hc, _, _, hL'⟩ := hL
    rw [h2] at hc
    simp only [Option.some.injEq, Value.slice.injEq, Addr.mk.injEq] at hc
    obtain ⟨⟨rfl, rfl, _⟩, rfl, rfl⟩ := hc
    obtain ⟨hF, hloc⟩ := put_forest (put_root p) k g 0 (g + 1) hi n.toNat c d y z hk (by omega) (fun q q1 q2 => hX q (by omega) q2) hy hat' (by rw [show 0 + 3 * n.toNat = 0 + n.toNat * 3 by omega]; exact hL')
      ⟨fun q j hq hj => hB.1 q j (by omega) hj, hB.2⟩ hT
    refine ⟨?_, by omega⟩
    have e : putT (n :: p) (x, k) u = (x, setF k n.toNat (fun s => putT p s u)) := by rw [putT, if_neg (by simp [hx]; omega)]
    rw [e]
    refine ⟨(hB.1 b o (by omega) (by omega)).trans h0, (hB.1 b (o + 1) (by omega) (by omega)).trans h1, _, (hB.1 b (o + 2) (by omega) (by omega)).trans h2, ?_⟩
    exact ⟨_, _, g, 0, by rw [setF_len], fun _ => ⟨rfl, hX g e1 e2⟩, by rw [setF_len]; exact Nat.le_refl _, by unfold maxLen; omega, hF⟩

theorem WIn.at {w : World} : ∀ {F : Fo} {b o lo hi i : Nat} {x : Bool × Int} {k : Fo}, WIn w F b o lo hi → F.list[i]? = some (x, k) →
    ∃ lo' hi' a, lo ≤ lo' ∧ hi' ≤ hi ∧ w.cell? ⟨b, o + 3 * i + 2, none⟩ = some a ∧ w.frozen? ⟨b, o + 3 * i, none⟩ = false ∧ w.frozen? ⟨b, o + 3 * i + 1, none⟩ = false ∧ w.frozen? ⟨b, o + 3 * i + 2, none⟩ = false ∧ OwnV w lo' hi' k a
  | .nil, _, _, _, _, _, _, _, _, h => by simp [Fo.list] at h
  | .node _ _ y k' r, b, o, lo, hi, 0, x, k, ⟨_, _, f0, f1, f2, m, g, a, hm1, hm2, h2, h3, _⟩, h => by
    simp only [Fo.list, List.getElem?_cons_zero, Option.some.injEq, Prod.mk.injEq] at h
    obtain ⟨rfl, rfl⟩ := h
    refine ⟨lo, m, a, Nat.le_refl _, hm2, h2, f0, f1, f2, ?_⟩
    rcases h3 with h3 | ⟨e1, e2, e3, e4, e5, e6⟩
    · exact .inl h3
    · exact .inr ⟨g, e1, e2, e3, e4, e5, e6⟩
  | .node _ _ y k' r, b, o, lo, hi, i + 1, x, k, ⟨_, _, _, _, _, m, _, _, hm1, hm2, _, _, h4⟩, h => by
    obtain ⟨lo', hi', a, q1, q2, q3, q4, q5, q6, q7⟩ := WIn.at (i := i) h4 (by simpa [Fo.list] using h)
    have e : o + 3 + 3 * i = o + 3 * (i + 1) := by omega
    rw [e] at q3 q4 q5 q6
    exact ⟨lo', hi', a, by omega, q2, q3, q4, q5, q6, q7⟩

/-- What a way leads to may be written. -/
theorem loc_free {w : World} : ∀ (p : List Int) (x : Bool × Int) (k : Fo) (b o : Nat) (a : Value) (lo hi c d : Nat) (z : (Bool × Int) × Fo),
    w.cell? ⟨b, o + 2, none⟩ = some a → w.frozen? ⟨b, o, none⟩ = false → w.frozen? ⟨b, o + 1, none⟩ = false → w.frozen? ⟨b, o + 2, none⟩ = false → OwnV w lo hi k a → atT p x k = some z → Loc w p b o c d →
    w.frozen? ⟨c, d, none⟩ = false ∧ w.frozen? ⟨c, d + 1, none⟩ = false ∧ w.frozen? ⟨c, d + 2, none⟩ = false ∧ ((c = b ∧ d = o) ∨ (lo ≤ c ∧ c < hi))
  | [], _, _, _, _, _, _, _, _, _, _, _, f0, f1, f2, _, _, ⟨e1, e2⟩ => by subst e1 e2; exact ⟨f0, f1, f2, .inl ⟨rfl, rfl⟩⟩
  | n :: p, x, k, b, o, a, lo, hi, c, d, z, h2, _, _, _, hO, hat, hL => by
    obtain ⟨hx, hn0, hn1, ⟨y, l⟩, hy, hat'⟩ := atT_some hat
    rcases hO with ⟨rfl, rfl⟩ | ⟨g, e1, e2, e3, e4, rfl, hk⟩
    · simp [Fo.len] at hn1; omega
    obtain ⟨g', off, len, cap, hc, _, _, hL'⟩ := hL
    rw [h2] at hc
    simp only [Option.some.injEq, Value.slice.injEq, Addr.mk.injEq] at hc
    obtain ⟨⟨rfl, rfl, _⟩, rfl, rfl⟩ := hc
    obtain ⟨lo', hi', a', q1, q2, q3, q4, q5, q6, q7⟩ := hk.at hy
    have e : 0 + 3 * n.toNat = 0 + n.toNat * 3 := by omega
    rw [e] at q3 q4 q5 q6
    obtain ⟨r1, r2, r3, r4⟩ := loc_free p y l g (0 + n.toNat * 3) a' lo' hi' c d z q3 q4 q5 q6 q7 hat' hL'
    exact ⟨r1, r2, r3, by omega⟩

theorem putT_none {p : List Int} {t u : (Bool × Int) × Fo} : atT p t.1 t.2 = none → putT p t u = t := by
  induction p generalizing t with
  | nil => intro h; cases h
  | cons n p ih =>
    intro h
    rw [putT]
    by_cases hc : t.1.1 = true ∨ n < 0 ∨ (Fo.len t.2 : Int) ≤ n
    · rw [if_pos hc]
    · rw [if_neg hc]
      have h1 : t.1.1 = false := by cases hx : t.1.1 <;> simp_all
      obtain ⟨y, hy⟩ : ∃ y, t.2.list[n.toNat]? = some y := ⟨t.2.list[n.toNat]'(by rw [Fo.len_list]; omega), by simp⟩
      rw [atT_cons h1 (by omega) hy (by omega)] at h
      have e := ih h
      have : ∀ (F : Fo) (i : Nat), F.list[i]? = some y → setF F i (fun s => putT p s u) = F := by
        intro F
        induction F with
        | nil => intro i hi; rfl
        | node a b x k r _ ihr =>
          intro i hi
          cases i with
          | zero =>
            simp only [Fo.list, List.getElem?_cons_zero, Option.some.injEq] at hi
            subst hi
            simp only [setF, e]
          | succ i => simp only [setF]; rw [ihr i (by simpa [Fo.list] using hi)]
      rw [this t.2 n.toNat hy]

end Go.Proofs.Ytfnkjadfepoicac

/- What At and Put answer. -/
namespace Go.Proofs.Ytfnkjadfepoicac
open Go.RowKit Go.Deep Go.ChangeShapes Go.WideShapes

theorem atT_narrow : ∀ {p : List Int} {x : Bool × Int} {k : Fo} {y : Bool × Int} {l : Fo}, Fo.len k ≤ 1000 → Fo.narrow k → atT p x k = some (y, l) → Fo.len l ≤ 1000 ∧ Fo.narrow l
  | [], _, _, _, _, h1, h2, h => by cases h; exact ⟨h1, h2⟩
  | n :: p, _, _, _, _, h1, h2, h => by
    obtain ⟨_, _, _, ⟨y, l⟩, hy, hat⟩ := atT_some h
    obtain ⟨q1, q2⟩ := narrow_at h2 hy
    exact atT_narrow q1 q2 hat

theorem tin_box {w : World} {x : Bool × Int} {k : Fo} {a : Value} (h : SIn w k a) : TIn (w.alloc (.cells #[.bool x.1, .int .i64 x.2, a] 35)) w.heap.size 0 x k :=
  ⟨by simp, by simp, a, by simp, h.alloc _⟩

theorem Loc.below {w w' : World} (hb : Below w.heap.size w w') : ∀ {p : List Int} {b o c d : Nat}, Loc w p b o c d → Loc w' p b o c d
  | [], _, _, _, _, h => h
  | _ :: _, _, _, _, _, ⟨g, off, len, cap, h1, h2, h3, h4⟩ => ⟨g, off, len, cap, grow_cell hb _ _ h1, h2, h3, Loc.below hb h4⟩

/-- The end of Put: three cells written at a place, and what is then there. -/
theorem put_end {w7 w' : World} {p : List Int} {x : Bool × Int} {k : Fo} {y : Bool × Int} {l : Fo} {z : (Bool × Int) × Fo} {a b : Value} {B lo hi lo2 hi2 c d : Nat} {X0 X1 X2 : Value} {X : Nat → Prop}
    (hX : ∀ q, lo ≤ q → q < hi → X q) (hX2 : ∀ q, lo2 ≤ q → q < hi2 → X q) (t0 : w7.cell? ⟨B, 0, none⟩ = some (.bool x.1)) (t1 : w7.cell? ⟨B, 1, none⟩ = some (.int .i64 x.2)) (t2 : w7.cell? ⟨B, 2, none⟩ = some a) (hO : OwnV w7 lo hi k a) (hB : hi ≤ B) (hlB : lo ≤ B) (hat : atT p x k = some z) (hL : Loc w7 p B 0 c d)
    (hO2 : OwnV w7 lo2 hi2 l b) (hlo : B < lo2) (hc : c ≤ B)
    (g0 : w'.cell? ⟨c, d, none⟩ = some (.bool y.1)) (g1 : w'.cell? ⟨c, d + 1, none⟩ = some (.int .i64 y.2)) (g2 : w'.cell? ⟨c, d + 2, none⟩ = some b)
    (hk : ∀ q i, lo ≤ q → (q ≠ c ∨ i < d ∨ d + 3 ≤ i) → w'.cell? ⟨q, i, none⟩ = w7.cell? ⟨q, i, none⟩) (hf : ∀ q i, w'.frozen? ⟨q, i, none⟩ = w7.frozen? ⟨q, i, none⟩)
    (e0 : w'.cell? ⟨B, 0, none⟩ = some X0) (e1 : w'.cell? ⟨B, 1, none⟩ = some X1) (e2 : w'.cell? ⟨B, 2, none⟩ = some X2) :
    X0 = .bool (putT p (x, k) (y, l)).1.1 ∧ X1 = .int .i64 (putT p (x, k) (y, l)).1.2 ∧ SB X w' (putT p (x, k) (y, l)).2 X2 := by
  obtain ⟨h0, h1, v, h2, h3⟩ := (put_root (X := X) (w := w7) (w' := w') (u := (y, l)) p x k B 0 a lo hi c d z t0 t1 t2 hO (.inr hB) hX hat hL ⟨fun q i hS hq => hk q i (by omega) hq, hf⟩ ⟨g0, g1, b, g2, 
    OwnV.toB (lo := lo2) (hi := hi2) hX2 (hO2.frame fun q i q1 q2 => ⟨hk q i (by omega) (.inl (by omega)), hf q i⟩)⟩).1
  simp only [Nat.zero_add] at h0 h1 h2
  rw [e0] at h0; rw [e1] at h1; rw [e2] at h2
  exact ⟨Option.some.inj h0, Option.some.inj h1, by rw [Option.some.inj h2]; exact h3⟩

end Go.Proofs.Ytfnkjadfepoicac

/- A copy of numbers: slices.Clone. -/
namespace Go.Proofs.Ytfnkjadfepoicac
open Go.RowKit Go.Deep Go.ChangeShapes Go.WideShapes

theorem Try.info3 : (Try.prog.info? 3).map (fun i => (i.zero, i.size, i.bytes)) = some (some (.int .i64 0), 1, 8) := by kernel_rfl

abbrev vals (p : List Int) : List Value := p.map (Value.int .i64)

theorem own_nin {w : World} {lo : Nat} {p : List Int} {v : Value} (h : w.ownsRow lo 3 1 v p.length (vals p)) : NIn w p v := by
  obtain ⟨h1, h2⟩ := h
  rcases h2 with ⟨rfl, h0⟩ | ⟨g, cap, cur, rfl, hg, hh, hn, hc, hs, ht⟩
  · exact ⟨none, 0, 0, 0, by rw [h0], fun h => by omega, by omega, Nat.zero_le _, fun i hi => by omega⟩
  · refine ⟨_, cap, g, 0, rfl, fun _ => rfl, hn, hc, fun i hi => ?_⟩
    have e : cur.toList[i]? = (vals p)[i]? := by
      rw [← ht, List.getElem?_take_of_lt (by omega)]
    rw [Nat.zero_add]
    have : w.cell? ⟨g, i, none⟩ = cur.toList[i]? := by simp [World.cell?, hh]
    rw [this, e]
    simp [List.getD_eq_getElem?_getD, hi]

set_option maxHeartbeats 400000 in
theorem clone_any (p : List Int) (pv : Value) (w : World) (hN : NIn w p pv) (hb : p.length * 8 ≤ 140737488355328) :
    Calls Try.prog 68 #[pv] w fun e w' => ∃ v', e = .returned v' ∧ w'.ownsRow w.heap.size 3 1 v' p.length (vals p) ∧ Below w.heap.size w w' := by
  obtain ⟨pa, pc, pb, po, rfl, hpa, hplc, hpcm, hpF⟩ := hN
  have hnil := fun (w : World) (a : Option Addr) (n c : Nat) => Lib.run_eql_slice_nil (P := Try.prog) w 22 3 a n c 0 0 Try.underlying22
  cases pa with
  | none =>
    have h0 : p.length = 0 := by
      rcases Nat.eq_zero_or_pos p.length with h | h
      · exact h
      · have := hpa h; cases this
    go_enter Try.func68, Try.ntmps68
    go_wp2_with fail
    go_ret
    exact ⟨_, rfl, ⟨by simp, .inl ⟨rfl, h0⟩⟩, Below.refl _ _⟩
  | some ad =>
    obtain ⟨i3, hi, hz0, hz1, hz2⟩ := info_parts Try.info3
    have Hcells : Hid (∀ j u, (vals p)[j]? = some u → (w.alloc (.cells #[] 3)).cell? (ad.add j) = some u) := by
      intro j u hu
      have hj : j < p.length := by
        have := (List.getElem?_eq_some_iff.1 hu).1
        simpa using this
      have ha : ad = ⟨pb, po, none⟩ := by have := hpa (by omega); simpa using this
      have hc := hpF j hj
      have e : u = .int .i64 (p.getD j 0) := by
        simp [List.getD_eq_getElem?_getD, hj] at hu ⊢
        exact hu.symm
      rw [ha, add_plain, e]
      exact grow_cell (below_alloc _ _) _ _ hc
    have Hown : Hid ((w.alloc (.cells #[] 3)).ownsRow w.heap.size 3 1 (.slice (some ⟨w.heap.size, 0, none⟩) 0 0) 0 []) :=
      ⟨rfl, .inr ⟨w.heap.size, 0, #[], rfl, Nat.le_refl _, by show (w.heap.push _)[w.heap.size]? = _; simp, Nat.le_refl _, Nat.zero_le _, rfl, rfl⟩⟩
    have hlen : 0 + p.length ≤ maxLen := by omega
    have hbb : (0 + p.length) * 8 ≤ 140737488355328 := by omega
    clear hpF hpa
    go_enter Try.func68, Try.ntmps68
    go_wp2_with (at_builtin; refine wpList_append_own_at _ rfl (.tmp 5) (.tmp 6) 22 rfl w.heap.size 3 i3 (.int .i64 0) 1 8 Try.underlying22 hi hz0 hz1 hz2 rfl (by decide) (.slice (some ⟨w.heap.size, 0, none⟩) 0 0) 0 [] rfl Hown.out ad p.length pc (vals p) rfl (by simp) Hcells.out (ints_oneCell _ _) hlen hbb (by simp) ?_; intro v' w' hown hg hnn hat)
    go_ret
    refine ⟨v', rfl, by simpa using hown, ?_⟩
    exact (below_alloc w _).grown hg (by simp) (fun k hk => by simp [Value.ownBlock] at hk; omega)

end Go.Proofs.Ytfnkjadfepoicac
