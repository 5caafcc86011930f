/- Own OwnW Find Put PutW Clone -/
import Derived.Test.YtiilckjnggeeoadG01
import Derived.Deep.AppendLies
namespace Go.Proofs.Ytiilckjnggeeoad
open Go.RowKit Go.Deep Go.ChangeShapes Go.WideShapes
def WIn (w : World) : Fo → Nat → Nat → Nat → Nat → Prop
  | .nil, _, _, _, _ => True
  | .node _ _ x k r, b, o, lo, hi => w.cell? ⟨b, o, none⟩ = some (.bool x.1) ∧ w.cell? ⟨b, o + 1, none⟩ = some (.int .i64 x.2) ∧
      w.frozen? ⟨b, o, none⟩ = false ∧ w.frozen? ⟨b, o + 1, none⟩ = false ∧ w.frozen? ⟨b, o + 2, none⟩ = false ∧
      (∃ (m g : Nat) (a : Value), lo ≤ m ∧ m ≤ hi ∧ w.cell? ⟨b, o + 2, none⟩ = some a ∧
        ((k = .nil ∧ a = .slice none 0 0) ∨ (lo ≤ g ∧ g < m ∧ 0 < Fo.len k ∧ Fo.len k ≤ 1000 ∧ a = .slice (some ⟨g, 0, none⟩) (Fo.len k) (Fo.len k) ∧ WIn w k g 0 (g + 1) m)) ∧
        WIn w r b (o + 3) m hi)
def OwnV (w : World) (lo hi : Nat) (k : Fo) (a : Value) : Prop :=
  (k = .nil ∧ a = .slice none 0 0) ∨ ∃ g, lo ≤ g ∧ g < hi ∧ 0 < Fo.len k ∧ Fo.len k ≤ 1000 ∧ a = .slice (some ⟨g, 0, none⟩) (Fo.len k) (Fo.len k) ∧ WIn w k g 0 (g + 1) hi
theorem WIn.toF {w : World} : ∀ {F : Fo} {b o lo hi : Nat}, WIn w F b o lo hi → FIn w F b o
  | .nil, _, _, _, _, _ => trivial
  | .node _ _ x k r, b, o, lo, hi, ⟨h0, h1, _, _, _, m, g, a, _, _, h2, h3, h4⟩ => by
    refine FIn.mk h0 h1 h2 ?_ h4.toF
    rcases h3 with ⟨rfl, rfl⟩ | ⟨_, _, _, hl, rfl, hk⟩
    · exact ⟨none, 0, 0, 0, rfl, fun h => by simp [Fo.len] at h, Nat.le_refl _, Nat.zero_le _, trivial⟩
    · exact ⟨_, _, g, 0, rfl, fun _ => rfl, Nat.le_refl _, by unfold maxLen; omega, hk.toF⟩
theorem OwnV.toS {w : World} {lo hi : Nat} {k : Fo} {a : Value} (h : OwnV w lo hi k a) : SIn w k a := by
  rcases h with ⟨rfl, rfl⟩ | ⟨g, _, _, _, hl, rfl, hk⟩
  · exact ⟨none, 0, 0, 0, rfl, fun h => by simp [Fo.len] at h, Nat.le_refl _, Nat.zero_le _, trivial⟩
  · exact ⟨_, _, g, 0, rfl, fun _ => rfl, Nat.le_refl _, by unfold maxLen; omega, hk.toF⟩
def BIn (X : Nat → Prop) (w : World) : Fo → Nat → Nat → Prop
  | .nil, _, _ => True
  | .node _ _ x k r, b, o => w.cell? ⟨b, o, none⟩ = some (.bool x.1) ∧ w.cell? ⟨b, o + 1, none⟩ = some (.int .i64 x.2) ∧
      (∃ (a : Option Addr) (c b' o' : Nat), w.cell? ⟨b, o + 2, none⟩ = some (.slice a (Fo.len k) c) ∧ (0 < Fo.len k → a = some ⟨b', o', none⟩ ∧ X b') ∧ Fo.len k ≤ c ∧ c ≤ maxLen ∧ BIn X w k b' o') ∧ BIn X w r b (o + 3)
def SB (X : Nat → Prop) (w : World) (k : Fo) (v : Value) : Prop :=
  ∃ (a : Option Addr) (c b o : Nat), v = .slice a (Fo.len k) c ∧ (0 < Fo.len k → a = some ⟨b, o, none⟩ ∧ X b) ∧ Fo.len k ≤ c ∧ c ≤ maxLen ∧ BIn X w k b o
theorem BIn.toF {X : Nat → Prop} {w : World} : ∀ {F : Fo} {b o : Nat}, BIn X w F b o → FIn w F b o
  | .nil, _, _, _ => trivial
  | .node _ _ _ _ _, _, _, ⟨h0, h1, ⟨a, c, b', o', h2, h3, h4, h5, h6⟩, h7⟩ => ⟨h0, h1, ⟨a, c, b', o', h2, fun h => (h3 h).1, h4, h5, h6.toF⟩, h7.toF⟩
theorem SB.toS {X : Nat → Prop} {w : World} {k : Fo} {v : Value} (h : SB X w k v) : SIn w k v := by
  obtain ⟨a, c, b, o, h1, h2, h3, h4, h5⟩ := h
  exact ⟨a, c, b, o, h1, fun h => (h2 h).1, h3, h4, h5.toF⟩
theorem SB.nil (X : Nat → Prop) (w : World) : SB X w .nil (.slice none 0 0) := ⟨none, 0, 0, 0, rfl, fun h => by simp [Fo.len] at h, Nat.le_refl _, Nat.zero_le _, trivial⟩
theorem BIn.frame {X Y : Nat → Prop} {w w' : World} (hXY : ∀ q, X q → Y q) (hr : ∀ q i, X q → w'.cell? ⟨q, i, none⟩ = w.cell? ⟨q, i, none⟩) : ∀ {F : Fo} {b o : Nat}, BIn X w F b o → (0 < Fo.len F → X b) → BIn Y w' F b o
  | .nil, _, _, _, _ => trivial
  | .node _ _ x k r, b, o, ⟨h0, h1, ⟨a, c, b', o', h2, h3, h4, h5, h6⟩, h7⟩, hb => by
    have hX := hb (by simp [Fo.len])
    exact ⟨(hr b o hX).trans h0, (hr b _ hX).trans h1, ⟨a, c, b', o', (hr b _ hX).trans h2, fun h => ⟨(h3 h).1, hXY _ (h3 h).2⟩, h4, h5, BIn.frame hXY hr h6 (fun h => (h3 h).2)⟩, BIn.frame hXY hr h7 (fun _ => hX)⟩
theorem SB.frame {X Y : Nat → Prop} {w w' : World} {k : Fo} {v : Value} (h : SB X w k v) (hXY : ∀ q, X q → Y q) (hr : ∀ q i, X q → w'.cell? ⟨q, i, none⟩ = w.cell? ⟨q, i, none⟩) : SB Y w' k v := by
  obtain ⟨a, c, b, o, h1, h2, h3, h4, h5⟩ := h
  exact ⟨a, c, b, o, h1, fun h => ⟨(h2 h).1, hXY _ (h2 h).2⟩, h3, h4, BIn.frame hXY hr h5 (fun h => (h2 h).2)⟩
abbrev New (w w' : World) : Nat → Prop := fun q => w.heap.size ≤ q ∧ q < w'.heap.size
theorem BIn.mk {X : Nat → Prop} {w : World} {p q : Nat} {x : Bool × Int} {k r : Fo} {b o : Nat} {v : Value} (h0 : w.cell? ⟨b, o, none⟩ = some (.bool x.1)) (h1 : w.cell? ⟨b, o + 1, none⟩ = some (.int .i64 x.2))
    (h2 : w.cell? ⟨b, o + 2, none⟩ = some v) (h3 : SB X w k v) (h4 : BIn X w r b (o + 3)) : BIn X w (.node p q x k r) b o := by
  obtain ⟨a, c, b', o', rfl, h5, h6, h7, h8⟩ := h3
  exact ⟨h0, h1, ⟨a, c, b', o', h2, h5, h6, h7, h8⟩, h4⟩
theorem WIn.toB {w : World} {X : Nat → Prop} : ∀ {F : Fo} {b o lo hi : Nat}, (∀ q, lo ≤ q → q < hi → X q) → WIn w F b o lo hi → BIn X w F b o
  | .nil, _, _, _, _, _, _ => trivial
  | .node _ _ x k r, b, o, lo, hi, hX, ⟨h0, h1, _, _, _, m, g, a, hm1, hm2, h2, h3, h4⟩ => by
    refine BIn.mk h0 h1 h2 ?_ (WIn.toB (fun q q1 q2 => hX q (by omega) q2) h4)
    rcases h3 with ⟨rfl, rfl⟩ | ⟨e1, e2, _, hl, rfl, hk⟩
    · exact SB.nil X w
    · exact ⟨_, _, g, 0, rfl, fun _ => ⟨rfl, hX g (by omega) (by omega)⟩, Nat.le_refl _, by unfold maxLen; omega, WIn.toB (fun q q1 q2 => hX q (by omega) (by omega)) hk⟩
theorem OwnV.toB {w : World} {X : Nat → Prop} {lo hi : Nat} {k : Fo} {a : Value} (hX : ∀ q, lo ≤ q → q < hi → X q) (h : OwnV w lo hi k a) : SB X w k a := by
  rcases h with ⟨rfl, rfl⟩ | ⟨g, e1, e2, _, hl, rfl, hk⟩
  · exact SB.nil X w
  · exact ⟨_, _, g, 0, rfl, fun _ => ⟨rfl, hX g e1 e2⟩, Nat.le_refl _, by unfold maxLen; omega, WIn.toB (fun q q1 q2 => hX q (by omega) q2) hk⟩
theorem WIn.frame {w w' : World} : ∀ {F : Fo} {b o lo hi : Nat}, WIn w F b o lo hi →
    (∀ i, o ≤ i → i < o + 3 * Fo.len F → w'.cell? ⟨b, i, none⟩ = w.cell? ⟨b, i, none⟩ ∧ w'.frozen? ⟨b, i, none⟩ = w.frozen? ⟨b, i, none⟩) →
    (∀ q i, lo ≤ q → q < hi → w'.cell? ⟨q, i, none⟩ = w.cell? ⟨q, i, none⟩ ∧ w'.frozen? ⟨q, i, none⟩ = w.frozen? ⟨q, i, none⟩) → WIn w' F b o lo hi
  | .nil, _, _, _, _, _, _, _ => trivial
  | .node _ _ x k r, b, o, lo, hi, ⟨h0, h1, f0, f1, f2, m, g, a, hm1, hm2, h2, h3, h4⟩, hc, hr => by
    have hl : Fo.len (.node 0 0 x k r) = Fo.len r + 1 := rfl
    have c0 := hc o (by omega) (by simp only [Fo.len]; omega)
    have c1 := hc (o + 1) (by omega) (by simp only [Fo.len]; omega)
    have c2 := hc (o + 2) (by omega) (by simp only [Fo.len]; omega)
    refine ⟨c0.1.trans h0, c1.1.trans h1, c0.2.trans f0, c1.2.trans f1, c2.2.trans f2, m, g, a, hm1, hm2, c2.1.trans h2, ?_, ?_⟩
    · rcases h3 with h3 | ⟨e1, e2, e3, e4, e5, hk⟩
      · exact .inl h3
      · exact .inr ⟨e1, e2, e3, e4, e5, hk.frame (fun i _ _ => hr g i (by omega) (by omega)) (fun q i q1 q2 => hr q i (by omega) (by omega))⟩
    · exact h4.frame (fun i i1 i2 => hc i (by omega) (by simp only [Fo.len]; omega)) (fun q i q1 q2 => hr q i (by omega) q2)
theorem WIn.mono {w : World} : ∀ {F : Fo} {b o lo hi lo' hi' : Nat}, WIn w F b o lo hi → lo' ≤ lo → hi ≤ hi' → lo ≤ hi → WIn w F b o lo' hi'
  | .nil, _, _, _, _, _, _, _, _, _, _ => trivial
  | .node _ _ x k r, b, o, lo, hi, lo', hi', ⟨h0, h1, f0, f1, f2, m, g, a, hm1, hm2, h2, h3, h4⟩, e1, e2, e3 => by
    refine ⟨h0, h1, f0, f1, f2, m, g, a, by omega, by omega, h2, ?_, h4.mono (Nat.le_refl _) e2 hm2⟩
    rcases h3 with h3 | ⟨q1, q2, q3, q4, q5, hk⟩
    · exact .inl h3
    · exact .inr ⟨by omega, q2, q3, q4, q5, hk⟩
theorem OwnV.frame {w w' : World} {lo hi : Nat} {k : Fo} {a : Value} (h : OwnV w lo hi k a)
    (hr : ∀ q i, lo ≤ q → q < hi → w'.cell? ⟨q, i, none⟩ = w.cell? ⟨q, i, none⟩ ∧ w'.frozen? ⟨q, i, none⟩ = w.frozen? ⟨q, i, none⟩) : OwnV w' lo hi k a := by
  rcases h with h | ⟨g, e1, e2, e3, e4, e5, hk⟩
  · exact .inl h
  · exact .inr ⟨g, e1, e2, e3, e4, e5, hk.frame (fun i _ _ => hr g i e1 e2) (fun q i q1 q2 => hr q i (by omega) q2)⟩
theorem OwnV.mono {w : World} {lo hi lo' hi' : Nat} {k : Fo} {a : Value} (h : OwnV w lo hi k a) (h1 : lo' ≤ lo) (h2 : hi ≤ hi') : OwnV w lo' hi' k a := by
  rcases h with h | ⟨g, e1, e2, e3, e4, e5, hk⟩
  · exact .inl h
  · exact .inr ⟨g, by omega, by omega, e3, e4, e5, hk.mono (Nat.le_refl _) h2 (by omega)⟩
def Fo.take : Nat → Fo → Fo
  | 0, _ => .nil
  | _ + 1, .nil => .nil
  | j + 1, .node p q x k r => .node p q x k (Fo.take j r)
theorem take_len : ∀ (j : Nat) (k : Fo), j ≤ Fo.len k → Fo.len (Fo.take j k) = j
  | 0, _, _ => rfl
  | j + 1, .nil, h => by simp [Fo.len] at h
  | j + 1, .node _ _ _ _ r, h => by simp only [Fo.take, Fo.len]; rw [take_len j r (by simpa [Fo.len] using h)]
theorem take_all : ∀ (k : Fo), Fo.take (Fo.len k) k = k
  | .nil => rfl
  | .node _ _ _ _ r => by simp only [Fo.len, Fo.take]; rw [take_all r]
theorem WIn.snoc {w : World} : ∀ {j : Nat} {F : Fo} {x : Bool × Int} {k : Fo} {b o lo mid hi : Nat} {a : Value}, F.list[j]? = some (x, k) → WIn w (Fo.take j F) b o lo mid → lo ≤ mid → mid ≤ hi →
    w.cell? ⟨b, o + 3 * j, none⟩ = some (.bool x.1) → w.cell? ⟨b, o + 3 * j + 1, none⟩ = some (.int .i64 x.2) → w.cell? ⟨b, o + 3 * j + 2, none⟩ = some a →
    w.frozen? ⟨b, o + 3 * j, none⟩ = false → w.frozen? ⟨b, o + 3 * j + 1, none⟩ = false → w.frozen? ⟨b, o + 3 * j + 2, none⟩ = false → OwnV w mid hi k a → WIn w (Fo.take (j + 1) F) b o lo hi
  | _, .nil, _, _, _, _, _, _, _, _, h, _, _, _, _, _, _, _, _, _, _ => by simp [Fo.list] at h
  | 0, .node _ _ y l r, x, k, b, o, lo, mid, hi, a, h, _, m1, m2, c0, c1, c2, f0, f1, f2, hO => by
    simp only [Fo.list, List.getElem?_cons_zero, Option.some.injEq, Prod.mk.injEq] at h
    obtain ⟨rfl, rfl⟩ := h
    rcases hO with ⟨rfl, rfl⟩ | ⟨g, e1, e2, e3, e4, rfl, hk⟩
    · exact ⟨c0, c1, f0, f1, f2, hi, 0, _, by omega, by omega, c2, .inl ⟨rfl, rfl⟩, trivial⟩
    · exact ⟨c0, c1, f0, f1, f2, hi, g, _, by omega, by omega, c2, .inr ⟨by omega, by omega, e3, e4, rfl, hk⟩, trivial⟩
  | j + 1, .node _ _ y l r, x, k, b, o, lo, mid, hi, a, h, ⟨h0, h1, g0, g1, g2, m, g, a', hm1, hm2, h2, h3, h4⟩, m1, m2, c0, c1, c2, f0, f1, f2, hO => by
    refine ⟨h0, h1, g0, g1, g2, m, g, a', hm1, by omega, h2, h3, ?_⟩
    have e : o + 3 + 3 * j = o + 3 * (j + 1) := by omega
    exact WIn.snoc (j := j) (F := r) (by simpa [Fo.list] using h) h4 hm2 m2 (by rw [e]; exact c0) (by rw [e]; exact c1) (by rw [e]; exact c2) (by rw [e]; exact f0) (by rw [e]; exact f1) (by rw [e]; exact f2) hO
def Fo.narrow : Fo → Prop
  | .nil => True
  | .node _ _ _ k r => Fo.len k ≤ 1000 ∧ Fo.narrow k ∧ Fo.narrow r
theorem narrow_at : ∀ {F : Fo} {j : Nat} {x : Bool × Int} {k : Fo}, Fo.narrow F → F.list[j]? = some (x, k) → Fo.len k ≤ 1000 ∧ Fo.narrow k
  | .nil, _, _, _, _, h => by simp [Fo.list] at h
  | .node _ _ y l r, 0, x, k, hn, h => by
    simp only [Fo.list, List.getElem?_cons_zero, Option.some.injEq, Prod.mk.injEq] at h
    obtain ⟨rfl, rfl⟩ := h
    exact ⟨hn.1, hn.2.1⟩
  | .node _ _ y l r, j + 1, x, k, hn, h => narrow_at (F := r) hn.2.2 (by simpa [Fo.list] using h)
end Go.Proofs.Ytiilckjnggeeoad

namespace Go.Proofs.Ytiilckjnggeeoad
open Go.RowKit Go.Deep Go.ChangeShapes Go.WideShapes
theorem Try.info33 : (Try.prog.info? 33).map (fun i => (i.zero, i.size, i.bytes)) = some (some (.agg #[.bool false, .int .i64 0, .slice none 0 0]), 3, 40) := by kernel_rfl
def There (w : World) (g n : Nat) : Prop := ∀ i, i < n → (∃ v, w.cell? ⟨g, i, none⟩ = some v) ∧ w.frozen? ⟨g, i, none⟩ = false
theorem set_other {w : World} {a b : Addr} {v : Value} (h : a ≠ b) : (w.setCell a v).cell? b = w.cell? b := by apply World.cell?_setCell_other; exact h
theorem set_same {w : World} {a : Addr} {u v : Value} (h : w.cell? a = some u) : (w.setCell a v).cell? a = some v := by
  apply World.cell?_setCell_same; exact h
theorem frozen_new (w : World) (c : Array Value) (t : TypeId) (i : Nat) : (w.alloc (.cells c t)).frozen? ⟨w.heap.size, i, none⟩ = false := by simp
def set3 (w : World) (b o : Nat) (x y z : Value) : World := ((w.setCell ⟨b, o, none⟩ x).setCell ⟨b, o + 1, none⟩ y).setCell ⟨b, o + 2, none⟩ z
theorem set3_other {w : World} {b o : Nat} {x y z : Value} {q i : Nat} (h : q ≠ b ∨ i < o ∨ o + 3 ≤ i) : (set3 w b o x y z).cell? ⟨q, i, none⟩ = w.cell? ⟨q, i, none⟩ := by
  unfold set3
  rw [set_other (by intro e; simp only [Addr.mk.injEq] at e; omega), set_other (by intro e; simp only [Addr.mk.injEq] at e; omega), set_other (by intro e; simp only [Addr.mk.injEq] at e; omega)]
theorem set3_frozen {w : World} {b o : Nat} {x y z : Value} {q : Addr} : (set3 w b o x y z).frozen? q = w.frozen? q := by simp [set3]
theorem set3_size {w : World} {b o : Nat} {x y z : Value} : (set3 w b o x y z).heap.size = w.heap.size := by simp [set3, World.setCell]
theorem set3_cells {w : World} {b o : Nat} {x y z u0 u1 u2 : Value} (h0 : w.cell? ⟨b, o, none⟩ = some u0) (h1 : w.cell? ⟨b, o + 1, none⟩ = some u1) (h2 : w.cell? ⟨b, o + 2, none⟩ = some u2) :
    (set3 w b o x y z).cell? ⟨b, o, none⟩ = some x ∧ (set3 w b o x y z).cell? ⟨b, o + 1, none⟩ = some y ∧ (set3 w b o x y z).cell? ⟨b, o + 2, none⟩ = some z := by
  have e1 : (⟨b, o, none⟩ : Addr) ≠ ⟨b, o + 1, none⟩ := by intro e; simp only [Addr.mk.injEq] at e; omega
  have e2 : (⟨b, o, none⟩ : Addr) ≠ ⟨b, o + 2, none⟩ := by intro e; simp only [Addr.mk.injEq] at e; omega
  have e3 : (⟨b, o + 1, none⟩ : Addr) ≠ ⟨b, o + 2, none⟩ := by intro e; simp only [Addr.mk.injEq] at e; omega
  unfold set3
  refine ⟨?_, ?_, ?_⟩
  · rw [set_other e2.symm, set_other e1.symm, set_same h0]
  · rw [set_other e3.symm]
    exact set_same (by rw [set_other e1]; exact h1)
  · exact set_same (by rw [set_other e3, set_other e2]; exact h2)
theorem set3_below {B : Nat} {w w1 : World} {b o : Nat} {x y z : Value} (h : Below B w w1) (hb : B ≤ b) : Below B w (set3 w1 b o x y z) := ((h.setCell hb _).setCell hb _).setCell hb _
def OwnRel (w W2 : World) (k : Fo) (j : Nat) (wr : World) : Prop :=
  Below (w.heap.size + 2) W2 wr ∧ There wr (w.heap.size + 2) (Fo.len k * 3) ∧ WIn wr (Fo.take j k) (w.heap.size + 2) 0 (w.heap.size + 3) wr.heap.size ∧ w.heap.size + 3 ≤ wr.heap.size
theorem own_step {w W2 wr w2 : World} {k : Fo} {j : Nat} {yv : Bool} {yn : Int} {yk : Fo} {ob : Obj} {a : Value} (h : OwnRel w W2 k j wr) (hj : j < Fo.len k) (hy : k.list[j]? = some ((yv, yn), yk))
    (hb : Below (wr.heap.size + 1) (wr.alloc ob) w2) (hO : OwnV w2 (wr.heap.size + 1) w2.heap.size yk a) :
    OwnRel w W2 k (j + 1) (set3 w2 (w.heap.size + 2) (j * 3) (.bool yv) (.int .i64 yn) a) := by
  obtain ⟨hB, hT, hW, hs⟩ := h
  have hsz : wr.heap.size + 1 ≤ w2.heap.size := by have := hb.size; simpa using this
  have keep : ∀ q i, q < wr.heap.size → w2.cell? ⟨q, i, none⟩ = wr.cell? ⟨q, i, none⟩ ∧ w2.frozen? ⟨q, i, none⟩ = wr.frozen? ⟨q, i, none⟩ := fun q i hq => by
    rw [hb.cell (by show q < _; omega), hb.frozen (by show q < _; omega)]
    exact ⟨World.cell?_alloc_lt _ _ _ hq, (below_alloc wr ob).frozen (p := ⟨q, i, none⟩) hq⟩
  have hT2 : There w2 (w.heap.size + 2) (Fo.len k * 3) := fun i hi => by
    obtain ⟨⟨v, hv⟩, hf⟩ := hT i hi
    have := keep (w.heap.size + 2) i (by omega)
    exact ⟨⟨v, this.1.trans hv⟩, this.2.trans hf⟩
  obtain ⟨⟨u0, e0⟩, f0⟩ := hT2 (j * 3) (by omega)
  obtain ⟨⟨u1, e1⟩, f1⟩ := hT2 (j * 3 + 1) (by omega)
  obtain ⟨⟨u2, e2⟩, f2⟩ := hT2 (j * 3 + 2) (by omega)
  obtain ⟨g0, g1, g2⟩ := set3_cells (x := .bool yv) (y := .int .i64 yn) (z := a) e0 e1 e2
  refine ⟨set3_below (hB.trans ((below_box (hb.mono (by simp))).mono (by omega))) (Nat.le_refl _), ?_, ?_, by rw [set3_size]; omega⟩
  · intro i hi
    obtain ⟨⟨v, hv⟩, hf⟩ := hT2 i hi
    refine ⟨?_, by rw [set3_frozen]; exact hf⟩
    by_cases hc : i < j * 3 ∨ j * 3 + 3 ≤ i
    · exact ⟨v, by rw [set3_other (.inr hc)]; exact hv⟩
    · have : i = j * 3 ∨ i = j * 3 + 1 ∨ i = j * 3 + 2 := by omega
      rcases this with rfl | rfl | rfl
      · exact ⟨_, g0⟩
      · exact ⟨_, g1⟩
      · exact ⟨_, g2⟩
  · rw [set3_size]
    have e : j * 3 = 0 + 3 * j := by omega
    refine WIn.snoc (mid := wr.heap.size) (a := a) hy (hW.frame ?_ ?_) hs (by omega) (by rw [← e]; exact g0) (by rw [← e]; exact g1) (by rw [← e]; exact g2) (by rw [set3_frozen, ← e]; exact f0) (by rw [set3_frozen, ← e]; exact f1) (by rw [set3_frozen, ← e]; exact f2) ?_
    · intro i _ hi
      rw [take_len j k (by omega)] at hi
      rw [set3_other (.inr (.inl (by omega))), set3_frozen]
      exact keep _ _ (by omega)
    · intro q i q1 q2
      rw [set3_other (.inl (by omega)), set3_frozen]
      exact keep _ _ q2
    · refine (hO.mono (by omega) (Nat.le_refl _)).frame ?_
      intro q i q1 q2
      rw [set3_other (.inl (by omega)), set3_frozen]
      exact ⟨rfl, rfl⟩
theorem own_start (w W2 : World) (k : Fo) (z : Array Value) (h2 : W2.heap.size = w.heap.size + 2) : OwnRel w W2 k 0 (W2.alloc (.cells (madeCells z (Fo.len k * 3)) 33)) := by
  refine ⟨(Below.refl _ _).alloc (by omega) _, fun i hi => ⟨?_, ?_⟩, trivial, by simp; omega⟩
  · rw [← h2, World.cell?_alloc_new]
    exact ⟨_, Array.getElem?_eq_getElem (by rw [size_madeCells]; exact hi)⟩
  · rw [← h2]; exact frozen_new _ _ _ _
theorem own_end {w W2 wr w' : World} {k : Fo} (h : OwnRel w W2 k (Fo.len k) wr) (h0 : 0 < Fo.len k) (h1 : Fo.len k ≤ 1000) (hs : w'.heap.size = wr.heap.size)
    (hc : ∀ q i, w.heap.size + 2 ≤ q → w'.cell? ⟨q, i, none⟩ = wr.cell? ⟨q, i, none⟩ ∧ w'.frozen? ⟨q, i, none⟩ = wr.frozen? ⟨q, i, none⟩) :
    OwnV w' w.heap.size w'.heap.size k (.slice (some ⟨w.heap.size + 2, 0, none⟩) (Fo.len k) (Fo.len k)) := by
  obtain ⟨_, _, hW, hsz⟩ := h
  rw [take_all] at hW
  rw [hs]
  exact .inr ⟨w.heap.size + 2, by omega, by omega, h0, h1, rfl, hW.frame (fun i _ _ => hc _ _ (by omega)) (fun q i q1 q2 => hc _ _ (by omega))⟩
def OwnSaid (x : Bool × Int) (k : Fo) : Prop := ∀ (a : Value) (w : World), SIn w k a → Fo.len k ≤ 1000 → Fo.narrow k →
    Calls Try.prog 98 #[.agg #[.bool x.1, .int .i64 x.2, a]] w fun e w' => ∃ a', e = .returned (.agg #[.bool x.1, .int .i64 x.2, a']) ∧ OwnV w' w.heap.size w'.heap.size k a' ∧ Below w.heap.size w w'
set_option maxRecDepth 100000 in
set_option maxHeartbeats 1000000 in
theorem own_any (x : Bool × Int) (k : Fo) : OwnSaid x k := by
  refine Fo.ind1 (p := OwnSaid) ?_ x k
  clear x k
  intro x k ih a w hS hlen hnar
  obtain ⟨v, n⟩ := x
  obtain ⟨ad, c, b, o, rfl, had, hlc, hcm, hF⟩ := hS
  have Hl := hide (Fo.len_list k)
  have HI := hide ih
  have HF := hide hF
  have Hnar := hide hnar
  clear ih hF hnar
  unfold maxLen at hcm
  by_cases h0 : Fo.len k = 0
  · have h0' : ((Fo.len k : Int) == 0) = true := by simp [h0]
    have Hk := hide (len_zero h0)
    clear h0
    go_enter Try.func98, Try.ntmps98
    go_wp2_with fail
    refine bodyPost_ret (v := .agg #[.bool v, .int .i64 n, .slice none 0 0]) (by simp [results, Try.results98, go_sem]) rfl ⟨_, rfl, .inl ⟨Hk.out, rfl⟩, ?_⟩
    exact (below_alloc _ _).alloc (by simp) _
  · have h0' : ((Fo.len k : Int) == 0) = false := by simp [h0]
    have ha : ad = some ⟨b, o, none⟩ := had (by omega)
    subst ha
    clear h0 had
    obtain ⟨i26, hi, hz0, hz1, hz2⟩ := info_parts Try.info33
    have hmk := fun w : World => run_make (P := Try.prog) w 31 33 i26 _ Try.underlying31 hi hz0 .i64 .i64 (Fo.len k : Int) (Fo.len k : Int) (by omega) (by omega) (by rw [hz2]; omega) (by omega)
    rw [hz1] at hmk
    simp only [Int.toNat_natCast] at hmk
    go_enter Try.func98, Try.ntmps98
    go_wp2_with fail
    clear hmk hi hz0 hz1 hz2
    generalize hW2 : (w.alloc (.cells #[.bool v, .int .i64 n, .slice (some ⟨b, o, none⟩) (Fo.len k) c] 33)).alloc (.cells #[.bool false, .int .i64 0, .slice none 0 0] 33) = W2
    have hs2 : W2.heap.size = w.heap.size + 2 := by rw [← hW2]; simp
    have HB2 : Hid (Below w.heap.size w W2) := by rw [← hW2]; exact (below_alloc _ _).alloc (by simp) _
    have q0 : W2.cell? ⟨w.heap.size, 0, none⟩ = some (.bool v) := by rw [← hW2]; simp
    have q1 : W2.cell? ⟨w.heap.size, 1, none⟩ = some (.int .i64 n) := by rw [← hW2]; simp
    have q2 : W2.cell? ⟨w.heap.size, 2, none⟩ = some (.slice (some ⟨b, o, none⟩) (Fo.len k) c) := by rw [← hW2]; simp
    have fz : ∀ q i, q < W2.heap.size → w.heap.size ≤ q → W2.frozen? ⟨q, i, none⟩ = false := fun q i h1 h2 => by
      rw [hs2] at h1
      have : q = w.heap.size ∨ q = w.heap.size + 1 := by omega
      rw [← hW2]
      rcases this with rfl | rfl
      · rw [(below_alloc _ _).frozen (by simp)]; exact frozen_new _ _ _ _
      · simp
    have r0 : W2.cell? ⟨w.heap.size + 1, 0, none⟩ = some (.bool false) := by rw [← hW2]; simp
    have r1 : W2.cell? ⟨w.heap.size + 1, 1, none⟩ = some (.int .i64 0) := by rw [← hW2]; simp
    have r2 : W2.cell? ⟨w.heap.size + 1, 2, none⟩ = some (.slice none 0 0) := by rw [← hW2]; simp
    have HQ := hide (And.intro q0 (And.intro q1 (And.intro q2 (And.intro r0 (And.intro r1 r2)))))
    have Hfz := hide fz
    have Hs2 := hide hs2
    clear q0 q1 q2 r0 r1 r2 fz hs2 hW2
    go_loopw [19] (fun i wr => ∃ j : Nat, j ≤ Fo.len k ∧ i = .int .i64 j ∧ OwnRel w W2 k j wr) (fun i _ => Fo.len k - (intOf i).toNat)
    case atStart => exact ⟨0, Nat.zero_le _, rfl, own_start w W2 k _ Hs2.out⟩
    case round =>
      obtain ⟨j, hj, rfl, hR⟩ := hrel
      have HR := hide hR
      obtain ⟨hB, hT, -, hsz⟩ := hR
      have HB := hide hB
      have hBw : Below w.heap.size w wr := HB2.out.trans (hB.mono (by omega))
      by_cases hlt : j < Fo.len k
      · have hlt' : (j : Int) < (Fo.len k : Int) := by omega
        obtain ⟨⟨⟨yv, yn⟩, yk⟩, hy⟩ : ∃ y, k.list[j]? = some y := ⟨k.list[j]'(by rw [Hl.out]; exact hlt), by simp⟩
        obtain ⟨c0, c1, yv', c2, hSy⟩ := (HF.out.below hBw).at hy
        have HS := hide hSy
        obtain ⟨ya, yc, yb, yo, rfl, -, -, -, -⟩ := hSy
        have Hny := hide (narrow_at Hnar.out hy)
        have Hy := hide hy
        obtain ⟨⟨t0, e0⟩, f0⟩ := hT (j * 3) (by omega)
        obtain ⟨⟨t1, e1⟩, f1⟩ := hT (j * 3 + 1) (by omega)
        obtain ⟨⟨t2, e2⟩, f2⟩ := hT (j * 3 + 2) (by omega)
        clear hy hT hB
        go_wp2_with fail
        refine (HI.out ((yv, yn), yk) (List.mem_of_getElem? Hy.out) _ _ (HS.out.alloc _) Hny.out.1 Hny.out.2).mono ?_
        rintro e w2 ⟨a', rfl, hO2, hb2⟩
        have hb2' : Below (wr.heap.size + 1) (wr.alloc (.cells #[.bool yv, .int .i64 yn, .slice ya (Fo.len yk) yc] 33)) w2 := by simpa using hb2
        have hO2' : OwnV w2 (wr.heap.size + 1) w2.heap.size yk a' := by simpa using hO2
        have Hstep := hide (own_step HR.out hlt Hy.out hb2' hO2')
        have hb3 := below_box hb2
        have e0' := grow_cell hb3 _ _ e0
        have e1' := grow_cell hb3 _ _ e1
        have e2' := grow_cell hb3 _ _ e2
        have f0' : w2.frozen? ⟨w.heap.size + 2, j * 3, none⟩ = false := (hb3.frozen (by show w.heap.size + 2 < _; omega)).trans f0
        have f1' : w2.frozen? ⟨w.heap.size + 2, j * 3 + 1, none⟩ = false := (hb3.frozen (by show w.heap.size + 2 < _; omega)).trans f1
        have f2' : w2.frozen? ⟨w.heap.size + 2, j * 3 + 2, none⟩ = false := (hb3.frozen (by show w.heap.size + 2 < _; omega)).trans f2
        have hza : ∃ za zl zc, a' = .slice za zl zc := by
          rcases hO2 with ⟨_, rfl⟩ | ⟨g, _, _, _, _, rfl, _⟩
          · exact ⟨_, _, _, rfl⟩
          · exact ⟨_, _, _, rfl⟩
        obtain ⟨za, zl, zc, hza⟩ := hza
        subst hza
        clear hb2 hb2' hO2 hO2' hb3 e0 e1 e2 f0 f1 f2 hBw
        go_wp2_with fail
        go_roundw
        case rel => exact ⟨j + 1, by omega, by go_num, Hstep.out⟩
        case measure => simp [intOf]; omega
      · have hje : j = Fo.len k := by omega
        subst hje
        have hs2 := Hs2.out
        obtain ⟨q0, q1, q2, r0, r1, r2⟩ := HQ.out
        have p0 : wr.cell? ⟨w.heap.size, 0, none⟩ = some (.bool v) := (HB.out.cell (by show w.heap.size < _; omega)).trans q0
        have p1 : wr.cell? ⟨w.heap.size, 1, none⟩ = some (.int .i64 n) := (HB.out.cell (by show w.heap.size < _; omega)).trans q1
        have p2 : wr.cell? ⟨w.heap.size, 2, none⟩ = some (.slice (some ⟨b, o, none⟩) (Fo.len k) c) := (HB.out.cell (by show w.heap.size < _; omega)).trans q2
        have s0 : wr.cell? ⟨w.heap.size + 1, 0, none⟩ = some (.bool false) := (HB.out.cell (by show w.heap.size + 1 < _; omega)).trans r0
        have s1 : wr.cell? ⟨w.heap.size + 1, 1, none⟩ = some (.int .i64 0) := (HB.out.cell (by show w.heap.size + 1 < _; omega)).trans r1
        have s2 : wr.cell? ⟨w.heap.size + 1, 2, none⟩ = some (.slice none 0 0) := (HB.out.cell (by show w.heap.size + 1 < _; omega)).trans r2
        have z0 : wr.frozen? ⟨w.heap.size, 2, none⟩ = false := (HB.out.frozen (by show w.heap.size < _; omega)).trans (Hfz.out _ _ (by omega) (by omega))
        have z1 : wr.frozen? ⟨w.heap.size + 1, 0, none⟩ = false := (HB.out.frozen (by show w.heap.size + 1 < _; omega)).trans (Hfz.out _ _ (by omega) (by omega))
        have z2 : wr.frozen? ⟨w.heap.size + 1, 1, none⟩ = false := (HB.out.frozen (by show w.heap.size + 1 < _; omega)).trans (Hfz.out _ _ (by omega) (by omega))
        have z3 : wr.frozen? ⟨w.heap.size + 1, 2, none⟩ = false := (HB.out.frozen (by show w.heap.size + 1 < _; omega)).trans (Hfz.out _ _ (by omega) (by omega))
        clear q0 q1 q2 r0 r1 r2 hs2 hT hB
        go_wp2_with fail
        have e2 : ∀ q i, w.heap.size + 2 ≤ q → ((⟨w.heap.size, 2, none⟩ : Addr) ≠ ⟨q, i, none⟩ ∧ ∀ j, (⟨w.heap.size + 1, j, none⟩ : Addr) ≠ ⟨q, i, none⟩) := fun q i hq => ⟨by intro e; simp only [Addr.mk.injEq] at e; omega, fun j e => by simp only [Addr.mk.injEq] at e; omega⟩
        refine bodyPost_ret (v := .agg #[.bool v, .int .i64 n, .slice (some ⟨w.heap.size + 2, 0, none⟩) (Fo.len k) (Fo.len k)]) (by simp [results, Try.results98, go_sem, s0, s1, s2]) rfl ⟨_, rfl, ?_, ?_⟩
        · refine own_end HR.out (by simp at h0'; omega) hlen (by simp [World.setCell]) fun q i hq => ⟨?_, by simp⟩
          rw [set_other ((e2 q i hq).2 _), set_other ((e2 q i hq).2 _), set_other ((e2 q i hq).2 _), set_other (e2 q i hq).1]
        · exact (((hBw.setCell (Nat.le_refl _) _).setCell (by simp) _).setCell (by simp) _).setCell (by simp) _
end Go.Proofs.Ytiilckjnggeeoad

namespace Go.Proofs.Ytiilckjnggeeoad
open Go.RowKit Go.Deep Go.ChangeShapes Go.WideShapes
def TIn (w : World) (b o : Nat) (x : Bool × Int) (k : Fo) : Prop :=
  w.cell? ⟨b, o, none⟩ = some (.bool x.1) ∧ w.cell? ⟨b, o + 1, none⟩ = some (.int .i64 x.2) ∧ ∃ v, w.cell? ⟨b, o + 2, none⟩ = some v ∧ SIn w k v
theorem TIn.below {w w' : World} (hb : Below w.heap.size w w') {b o : Nat} {x : Bool × Int} {k : Fo} (h : TIn w b o x k) : TIn w' b o x k := by
  obtain ⟨h0, h1, v, h2, h3⟩ := h
  exact ⟨grow_cell hb _ _ h0, grow_cell hb _ _ h1, v, grow_cell hb _ _ h2, h3.below hb⟩
def atT : List Int → Bool × Int → Fo → Option ((Bool × Int) × Fo)
  | [], x, k => some (x, k)
  | n :: p, x, k => if x.1 = true ∨ n < 0 ∨ (Fo.len k : Int) ≤ n then none else match k.list[n.toNat]? with
    | some y => atT p y.1 y.2
    | none => none
def Loc (w : World) : List Int → Nat → Nat → Nat → Nat → Prop
  | [], b, o, c, d => c = b ∧ d = o
  | n :: p, b, o, c, d => ∃ (g off len cap : Nat), w.cell? ⟨b, o + 2, none⟩ = some (.slice (some ⟨g, off, none⟩) len cap) ∧ 0 ≤ n ∧ n < (len : Int) ∧ Loc w p g (off + n.toNat * 3) c d
theorem Loc.snoc {w : World} {n : Int} {c d g off len cap : Nat} (hc : w.cell? ⟨c, d + 2, none⟩ = some (.slice (some ⟨g, off, none⟩) len cap)) (h0 : 0 ≤ n) (h1 : n < (len : Int)) :
    ∀ {p : List Int} {b o : Nat}, Loc w p b o c d → Loc w (p ++ [n]) b o g (off + n.toNat * 3)
  | [], b, o, ⟨e1, e2⟩ => by
    subst e1 e2
    exact ⟨g, off, len, cap, hc, h0, h1, rfl, rfl⟩
  | m :: p, b, o, ⟨g', off', len', cap', q1, q2, q3, q4⟩ => ⟨g', off', len', cap', q1, q2, q3, Loc.snoc hc h0 h1 q4⟩
theorem atT_cons {n : Int} {p : List Int} {x : Bool × Int} {k : Fo} {y : (Bool × Int) × Fo} (hx : x.1 = false) (h0 : 0 ≤ n) (hy : k.list[n.toNat]? = some y) (h1 : n < (Fo.len k : Int)) : atT (n :: p) x k = atT p y.1 y.2 := by
  rw [atT, if_neg (by simp [hx]; omega), hy]
theorem atT_none {n : Int} {p : List Int} {x : Bool × Int} {k : Fo} (h : x.1 = true ∨ n < 0 ∨ (Fo.len k : Int) ≤ n) : atT (n :: p) x k = none := by
  rw [atT, if_pos h]
theorem drop_cons {p : List Int} {j : Nat} (h : j < p.length) : p.drop j = p.getD j 0 :: p.drop (j + 1) := by
  rw [List.drop_eq_getElem_cons h]; simp [List.getD_eq_getElem?_getD, h]
theorem take_snoc {p : List Int} {j : Nat} (h : j < p.length) : p.take (j + 1) = p.take j ++ [p.getD j 0] := by
  rw [List.take_add_one]; simp [List.getD_eq_getElem?_getD, h]
set_option maxRecDepth 100000 in
set_option maxHeartbeats 1000000 in
theorem find_any (x : Bool × Int) (k : Fo) (b o : Nat) (p : List Int) (pv : Value) (w : World) (hT : TIn w b o x k) (hN : NIn w p pv) :
    Calls Try.prog 97 #[.pointer (some ⟨b, o, none⟩), pv] w fun e w' => Below w.heap.size w w' ∧
      ((atT p x k = none ∧ e = .returned (.pointer none)) ∨ ∃ cb co y l, atT p x k = some (y, l) ∧ e = .returned (.pointer (some ⟨cb, co, none⟩)) ∧ Loc w p b o cb co ∧ TIn w cb co y l) := by
  obtain ⟨pa, pc, pb, po, rfl, hpa, hplc, hpcm, hpF⟩ := hN
  unfold maxLen at hpcm
  have HT := hide hT
  have HpF := hide hpF
  have Hfin : Hid (∀ e w', Below w.heap.size w w' → ((atT p x k = none ∧ e = Ending.returned (.pointer none)) ∨ ∃ cb co y l, atT p x k = some (y, l) ∧ e = Ending.returned (.pointer (some ⟨cb, co, none⟩)) ∧ Loc w p b o cb co ∧ TIn w cb co y l) → (Below w.heap.size w w' ∧
      ((atT p x k = none ∧ e = Ending.returned (.pointer none)) ∨ ∃ cb co y l, atT p x k = some (y, l) ∧ e = Ending.returned (.pointer (some ⟨cb, co, none⟩)) ∧ Loc w p b o cb co ∧ TIn w cb co y l))) := fun _ _ h1 h2 => ⟨h1, h2⟩
  clear hT hpF
  go_enter Try.func97, Try.ntmps97
  go_wp2_with fail
  go_loopw [0, 10] (fun t i wr => ∃ (j cb co : Nat) (y : Bool × Int) (l : Fo), j ≤ p.length ∧ i = .int .i64 j ∧ t = .pointer (some ⟨cb, co, none⟩) ∧ Loc w (p.take j) b o cb co ∧ TIn w cb co y l ∧ atT p x k = atT (p.drop j) y l ∧ Below w.heap.size w wr) (fun _ i _ => p.length - (intOf i).toNat)
  case atStart => exact ⟨0, b, o, x, k, Nat.zero_le _, rfl, rfl, ⟨rfl, rfl⟩, HT.out, rfl, Below.refl _ _⟩
  case round =>
    obtain ⟨j, cb, co, ⟨yv, yn⟩, l, hj, rfl, rfl, hL, hTy, hat, hBr⟩ := hrel
    have HL := hide hL
    have HTy := hide hTy
    have Hat := hide hat
    clear hL hat
    by_cases hlt : j < p.length
    · have hlt' : (j : Int) < (p.length : Int) := by omega
      have ha : pa = some ⟨pb, po, none⟩ := hpa (by omega)
      subst ha
      have hcell := grow_cell hBr _ _ (HpF.out j hlt)
      obtain ⟨c0, c1, v2, c2, hS⟩ := hTy.below hBr
      have Hdrop := hide (drop_cons hlt)
      have Htake := hide (take_snoc hlt)
      have Hc2 := hide hTy.2.2
      obtain ⟨la, lc, lb, lo, rfl, hla, hllc, hlcm, hlF⟩ := hS
      unfold maxLen at hlcm
      generalize p.getD j 0 = n at *
      clear hTy hlF hpa
      cases yv
      · by_cases hn0 : n < 0
        · have Hnone : Hid (atT p x k = none) := by rw [Hid, Hat.out, Hdrop.out]; exact atT_none (.inr (.inl hn0))
          go_wp2_with (go_at_call 108; refine (arguments_any _ _ _ _).mono ?_; rintro e w1 ⟨rfl, hb1⟩)
          go_ret
          exact Hfin.out _ _ (below_step hBr hb1) (.inl ⟨Hnone.out, rfl⟩)
        by_cases hnl : (Fo.len l : Int) ≤ n
        · have Hnone : Hid (atT p x k = none) := by rw [Hid, Hat.out, Hdrop.out]; exact atT_none (.inr (.inr hnl))
          go_wp2_with (go_at_call 108; refine (arguments_any _ _ _ _).mono ?_; rintro e w1 ⟨rfl, hb1⟩)
          go_ret
          exact Hfin.out _ _ (below_step hBr hb1) (.inl ⟨Hnone.out, rfl⟩)
        have hn0' : 0 ≤ n := by omega
        have hnl' : n < (Fo.len l : Int) := by omega
        have ha : la = some ⟨lb, lo, none⟩ := hla (by omega)
        subst ha
        obtain ⟨⟨⟨zv, zn⟩, zk⟩, hz⟩ : ∃ y, l.list[n.toNat]? = some y := ⟨l.list[n.toNat]'(by rw [Fo.len_list]; omega), by simp⟩
        have Hat2 : Hid (atT p x k = atT (p.drop (j + 1)) (zv, zn) zk) := by rw [Hid, Hat.out, Hdrop.out]; exact atT_cons rfl hn0' hz hnl'
        have Hnew : Hid (Loc w (p.take (j + 1)) b o lb (lo + n.toNat * 3) ∧ TIn w lb (lo + n.toNat * 3) (zv, zn) zk) := by
          obtain ⟨v', d2, hS'⟩ := Hc2.out
          have e := grow_cell hBr _ _ d2
          rw [c2] at e
          cases e
          obtain ⟨ma, mc, mb, mo, hm1, hm2, hm3, hm4, hm5⟩ := hS'
          simp only [Value.slice.injEq] at hm1
          have := hm2 (by omega)
          rw [← hm1.1] at this
          simp only [Option.some.injEq, Addr.mk.injEq] at this
          obtain ⟨rfl, rfl, _⟩ := this
          refine ⟨by rw [Htake.out]; exact Loc.snoc d2 hn0' hnl' HL.out, ?_⟩
          obtain ⟨g0, g1, g2⟩ := hm5.at hz
          exact ⟨g0, g1, g2⟩
        clear hla hz
        go_wp2_with (go_at_call 108; refine (arguments_any _ _ _ _).mono ?_; rintro e w1 ⟨rfl, hb1⟩)
        go_roundw
        case rel => exact ⟨j + 1, lb, lo + n.toNat * 3, (zv, zn), zk, by omega, by go_num, rfl, Hnew.out.1, Hnew.out.2, Hat2.out, below_step hBr hb1⟩
        case measure => simp [intOf]; omega
      · have Hnone : Hid (atT p x k = none) := by rw [Hid, Hat.out, Hdrop.out]; exact atT_none (.inl rfl)
        by_cases hn0 : n < 0
        · go_wp2_with (go_at_call 108; refine (arguments_any _ _ _ _).mono ?_; rintro e w1 ⟨rfl, hb1⟩)
          go_ret
          exact Hfin.out _ _ (below_step hBr hb1) (.inl ⟨Hnone.out, rfl⟩)
        · have hn0' : 0 ≤ n := by omega
          go_wp2_with (go_at_call 108; refine (arguments_any _ _ _ _).mono ?_; rintro e w1 ⟨rfl, hb1⟩)
          go_ret
          exact Hfin.out _ _ (below_step hBr hb1) (.inl ⟨Hnone.out, rfl⟩)
    · have Hend : Hid (atT p x k = some ((yv, yn), l) ∧ Loc w p b o cb co) := by
        have e : j = p.length := by omega
        have h1 := Hat.out
        have h2 := HL.out
        rw [e, List.drop_length] at h1
        rw [e, List.take_length] at h2
        exact ⟨h1, h2⟩
      go_wp2_with fail
      go_ret
      exact Hfin.out _ _ hBr (.inr ⟨cb, co, _, _, Hend.out.1, rfl, Hend.out.2, HTy.out⟩)
end Go.Proofs.Ytiilckjnggeeoad

namespace Go.Proofs.Ytiilckjnggeeoad
open Go.RowKit Go.Deep Go.ChangeShapes Go.WideShapes
theorem atT_some {n : Int} {p : List Int} {x : Bool × Int} {k : Fo} {z : (Bool × Int) × Fo} (h : atT (n :: p) x k = some z) : x.1 = false ∧ 0 ≤ n ∧ n < (Fo.len k : Int) ∧ ∃ y, k.list[n.toNat]? = some y ∧ atT p y.1 y.2 = some z := by
  by_cases hc : x.1 = true ∨ n < 0 ∨ (Fo.len k : Int) ≤ n
  · rw [atT_none hc] at h; cases h
  · have h1 : x.1 = false := by cases hx : x.1 <;> simp_all
    have h2 : 0 ≤ n := by omega
    have h3 : n < (Fo.len k : Int) := by omega
    obtain ⟨y, hy⟩ : ∃ y, k.list[n.toNat]? = some y := ⟨k.list[n.toNat]'(by rw [Fo.len_list]; omega), by simp⟩
    rw [atT_cons h1 h2 hy h3] at h
    exact ⟨h1, h2, h3, y, hy, h⟩
theorem WIn.at {w : World} : ∀ {F : Fo} {b o lo hi i : Nat} {x : Bool × Int} {k : Fo}, WIn w F b o lo hi → F.list[i]? = some (x, k) →
    ∃ lo' hi' a, lo ≤ lo' ∧ hi' ≤ hi ∧ w.cell? ⟨b, o + 3 * i + 2, none⟩ = some a ∧ w.frozen? ⟨b, o + 3 * i, none⟩ = false ∧ w.frozen? ⟨b, o + 3 * i + 1, none⟩ = false ∧ w.frozen? ⟨b, o + 3 * i + 2, none⟩ = false ∧ OwnV w lo' hi' k a
  | .nil, _, _, _, _, _, _, _, _, h => by simp [Fo.list] at h
  | .node _ _ y k' r, b, o, lo, hi, 0, x, k, ⟨_, _, f0, f1, f2, m, g, a, hm1, hm2, h2, h3, _⟩, h => by
    simp only [Fo.list, List.getElem?_cons_zero, Option.some.injEq, Prod.mk.injEq] at h
    obtain ⟨rfl, rfl⟩ := h
    refine ⟨lo, m, a, Nat.le_refl _, hm2, h2, f0, f1, f2, ?_⟩
    rcases h3 with h3 | ⟨e1, e2, e3, e4, e5, e6⟩
    · exact .inl h3
    · exact .inr ⟨g, e1, e2, e3, e4, e5, e6⟩
  | .node _ _ y k' r, b, o, lo, hi, i + 1, x, k, ⟨_, _, _, _, _, m, _, _, hm1, hm2, _, _, h4⟩, h => by
    obtain ⟨lo', hi', a, q1, q2, q3, q4, q5, q6, q7⟩ := WIn.at (i := i) h4 (by simpa [Fo.list] using h)
    have e : o + 3 + 3 * i = o + 3 * (i + 1) := by omega
    rw [e] at q3 q4 q5 q6
    exact ⟨lo', hi', a, by omega, q2, q3, q4, q5, q6, q7⟩
end Go.Proofs.Ytiilckjnggeeoad

namespace Go.Proofs.Ytiilckjnggeeoad
open Go.RowKit Go.Deep Go.ChangeShapes Go.WideShapes
theorem atT_narrow : ∀ {p : List Int} {x : Bool × Int} {k : Fo} {y : Bool × Int} {l : Fo}, Fo.len k ≤ 1000 → Fo.narrow k → atT p x k = some (y, l) → Fo.len l ≤ 1000 ∧ Fo.narrow l
  | [], _, _, _, _, h1, h2, h => by cases h; exact ⟨h1, h2⟩
  | n :: p, _, _, _, _, h1, h2, h => by
    obtain ⟨_, _, _, ⟨y, l⟩, hy, hat⟩ := atT_some h
    obtain ⟨q1, q2⟩ := narrow_at h2 hy
    exact atT_narrow q1 q2 hat
theorem tin_box {w : World} {x : Bool × Int} {k : Fo} {a : Value} (h : SIn w k a) : TIn (w.alloc (.cells #[.bool x.1, .int .i64 x.2, a] 33)) w.heap.size 0 x k :=
  ⟨by simp, by simp, a, by simp, h.alloc _⟩
set_option maxRecDepth 100000 in
set_option maxHeartbeats 1000000 in
theorem at_any (x : Bool × Int) (k : Fo) (a : Value) (p : List Int) (pv : Value) (w : World) (hS : SIn w k a) (hN : NIn w p pv) (hl : Fo.len k ≤ 1000) (hn : Fo.narrow k) :
    Calls Try.prog 79 #[.agg #[.bool x.1, .int .i64 x.2, a], pv] w fun e w' => Below w.heap.size w w' ∧
      ((atT p x k = none ∧ e = .returned (.tuple #[.agg #[.bool false, .int .i64 0, .slice none 0 0], .bool false])) ∨
       ∃ y l a', atT p x k = some (y, l) ∧ e = .returned (.tuple #[.agg #[.bool y.1, .int .i64 y.2, a'], .bool true]) ∧ SB (New w w') w' l a') := by
  obtain ⟨v, n⟩ := x
  have HS := hide hS
  have HN := hide hN
  have Hn := hide hn
  obtain ⟨ad, c, b, o, rfl, -, -, -, -⟩ := hS
  obtain ⟨pa, pc, pb, po, rfl, -, -, -, -⟩ := hN
  clear hn
  go_enter Try.func79, Try.ntmps79
  go_wp2_with fail
  refine (find_any (v, n) k w.heap.size 0 p _ _ ((tin_box HS.out).below (below_alloc _ _)) ((HN.out.alloc _).alloc _)).mono ?_
  rintro e w1 ⟨hb1, h1⟩
  have hb1' : Below (w.heap.size + 2) ((w.alloc (.cells #[.bool v, .int .i64 n, .slice ad (Fo.len k) c] 33)).alloc (.cells #[.bool false, .int .i64 0, .slice none 0 0] 33)) w1 := by simpa using hb1
  have hBw : Below w.heap.size w w1 := below_box (below_box hb1)
  have r0 : w1.cell? ⟨w.heap.size + 1, 0, none⟩ = some (.bool false) := by rw [hb1'.cell (by simp)]; simp
  have r1 : w1.cell? ⟨w.heap.size + 1, 1, none⟩ = some (.int .i64 0) := by rw [hb1'.cell (by simp)]; simp
  have r2 : w1.cell? ⟨w.heap.size + 1, 2, none⟩ = some (.slice none 0 0) := by rw [hb1'.cell (by simp)]; simp
  have z0 : ∀ i, w1.frozen? ⟨w.heap.size + 1, i, none⟩ = false := fun i => by rw [hb1'.frozen (by simp)]; simp
  have hsz : w.heap.size + 2 ≤ w1.heap.size := by have := hb1'.size; simpa using this
  rcases h1 with ⟨hat, rfl⟩ | ⟨cb, co, ⟨yv, yn⟩, l, hat, rfl, hL, hT⟩
  · have Hat := hide hat
    clear hat hb1 hb1'
    go_wp2_with fail
    refine bodyPost_ret (v := .tuple #[.agg #[.bool false, .int .i64 0, .slice none 0 0], .bool false]) (by simp [results, Try.results79, go_sem, r0, r1, r2]) rfl ⟨?_, .inl ⟨Hat.out, rfl⟩⟩
    exact ((hBw.setCell (by simp) _).setCell (by simp) _).setCell (by simp) _
  · have Hat := hide hat
    obtain ⟨t0, t1, v', t2, hSl⟩ := hT.below hb1
    have HSl := hide hSl
    obtain ⟨la, lc, lb, lo, rfl, -, -, -, -⟩ := hSl
    clear hat hL hT hb1 hb1'
    go_wp2_with fail
    refine (own_any (yv, yn) l _ _ HSl.out (atT_narrow hl Hn.out Hat.out).1 (atT_narrow hl Hn.out Hat.out).2).mono ?_
    rintro e w2 ⟨a', rfl, hO2, hb2⟩
    have r0' := grow_cell hb2 _ _ r0
    have r1' := grow_cell hb2 _ _ r1
    have r2' := grow_cell hb2 _ _ r2
    have z0' : ∀ i, w2.frozen? ⟨w.heap.size + 1, i, none⟩ = false := fun i => by rw [hb2.frozen (by show w.heap.size + 1 < _; omega)]; exact z0 i
    have hza : ∃ za zl zc, a' = .slice za zl zc := by
      rcases hO2 with ⟨_, rfl⟩ | ⟨g, _, _, _, _, rfl, _⟩
      · exact ⟨_, _, _, rfl⟩
      · exact ⟨_, _, _, rfl⟩
    obtain ⟨za, zl, zc, hza⟩ := hza
    subst hza
    have HO2 := hide hO2
    have hB2 := below_step hBw hb2
    clear hO2 r0 r1 r2 z0
    go_wp2_with fail
    refine bodyPost_ret (v := .tuple #[.agg #[.bool yv, .int .i64 yn, .slice za zl zc], .bool true]) (by simp [results, Try.results79, go_sem, r0', r1', r2']) rfl ⟨?_, .inr ⟨(yv, yn), l, _, Hat.out, rfl, ?_⟩⟩
    · exact ((hB2.setCell (by simp) _).setCell (by simp) _).setCell (by simp) _
    · refine OwnV.toB (lo := w1.heap.size) (hi := w2.heap.size) (fun q q1 q2 => ⟨by omega, by simp [World.setCell]; exact q2⟩) (HO2.out.frame fun q i q1 q2 => ?_)
      exact ⟨set3_other (w := w2) (b := w.heap.size + 1) (o := 0) (.inl (by omega)), by simp⟩
theorem Loc.below {w w' : World} (hb : Below w.heap.size w w') : ∀ {p : List Int} {b o c d : Nat}, Loc w p b o c d → Loc w' p b o c d
  | [], _, _, _, _, h => h
  | _ :: _, _, _, _, _, ⟨g, off, len, cap, h1, h2, h3, h4⟩ => ⟨g, off, len, cap, grow_cell hb _ _ h1, h2, h3, Loc.below hb h4⟩
end Go.Proofs.Ytiilckjnggeeoad

namespace Go.Proofs.Ytiilckjnggeeoad
open Go.RowKit Go.Deep Go.ChangeShapes Go.WideShapes
theorem Try.info3 : (Try.prog.info? 3).map (fun i => (i.zero, i.size, i.bytes)) = some (some (.int .i64 0), 1, 8) := by kernel_rfl
abbrev vals (p : List Int) : List Value := p.map (Value.int .i64)
theorem own_nin {w : World} {lo : Nat} {p : List Int} {v : Value} (h : w.ownsRow lo 3 1 v p.length (vals p)) : NIn w p v := by
  obtain ⟨h1, h2⟩ := h
  rcases h2 with ⟨rfl, h0⟩ | ⟨g, cap, cur, rfl, hg, hh, hn, hc, hs, ht⟩
  · exact ⟨none, 0, 0, 0, by rw [h0], fun h => by omega, by omega, Nat.zero_le _, fun i hi => by omega⟩
  · refine ⟨_, cap, g, 0, rfl, fun _ => rfl, hn, hc, fun i hi => ?_⟩
    have e : cur.toList[i]? = (vals p)[i]? := by
      rw [← ht, List.getElem?_take_of_lt (by omega)]
    rw [Nat.zero_add]
    have : w.cell? ⟨g, i, none⟩ = cur.toList[i]? := by simp [World.cell?, hh]
    rw [this, e]
    simp [List.getD_eq_getElem?_getD, hi]
set_option maxRecDepth 100000 in
set_option maxHeartbeats 400000 in
theorem clone_any (p : List Int) (pv : Value) (w : World) (hN : NIn w p pv) (hb : p.length * 8 ≤ 140737488355328) :
    Calls Try.prog 104 #[pv] w fun e w' => ∃ v', e = .returned v' ∧ w'.ownsRow w.heap.size 3 1 v' p.length (vals p) ∧ Below w.heap.size w w' := by
  obtain ⟨pa, pc, pb, po, rfl, hpa, hplc, hpcm, hpF⟩ := hN
  have hnil := fun (w : World) (a : Option Addr) (n c : Nat) => Lib.run_eql_slice_nil (P := Try.prog) w 22 3 a n c 0 0 Try.underlying22
  cases pa with
  | none =>
    have h0 : p.length = 0 := by
      rcases Nat.eq_zero_or_pos p.length with h | h
      · exact h
      · have := hpa h; cases this
    go_enter Try.func104, Try.ntmps104
    go_wp2_with fail
    go_ret
    exact ⟨_, rfl, ⟨by simp, .inl ⟨rfl, h0⟩⟩, Below.refl _ _⟩
  | some ad =>
    obtain ⟨i3, hi, hz0, hz1, hz2⟩ := info_parts Try.info3
    have Hcells : Hid (∀ j u, (vals p)[j]? = some u → (w.alloc (.cells #[] 3)).cell? (ad.add j) = some u) := by
      intro j u hu
      have hj : j < p.length := by
        have := (List.getElem?_eq_some_iff.1 hu).1
        simpa using this
      have ha : ad = ⟨pb, po, none⟩ := by have := hpa (by omega); simpa using this
      have hc := hpF j hj
      have e : u = .int .i64 (p.getD j 0) := by
        simp [List.getD_eq_getElem?_getD, hj] at hu ⊢
        exact hu.symm
      rw [ha, add_plain, e]
      exact grow_cell (below_alloc _ _) _ _ hc
    have Hown : Hid ((w.alloc (.cells #[] 3)).ownsRow w.heap.size 3 1 (.slice (some ⟨w.heap.size, 0, none⟩) 0 0) 0 []) :=
      ⟨rfl, .inr ⟨w.heap.size, 0, #[], rfl, Nat.le_refl _, by show (w.heap.push _)[w.heap.size]? = _; simp, Nat.le_refl _, Nat.zero_le _, rfl, rfl⟩⟩
    have hlen : 0 + p.length ≤ maxLen := by omega
    have hbb : (0 + p.length) * 8 ≤ 140737488355328 := by omega
    clear hpF hpa
    go_enter Try.func104, Try.ntmps104
    go_wp2_with (at_builtin; refine wpList_append_own_at _ rfl (.tmp 5) (.tmp 6) 22 rfl w.heap.size 3 i3 (.int .i64 0) 1 8 Try.underlying22 hi hz0 hz1 hz2 rfl (by decide) (.slice (some ⟨w.heap.size, 0, none⟩) 0 0) 0 [] rfl Hown.out ad p.length pc (vals p) rfl (by simp) Hcells.out (ints_oneCell _ _) hlen hbb (by simp) ?_; intro v' w' hown hg hnn hat)
    go_ret
    refine ⟨v', rfl, by simpa using hown, ?_⟩
    exact (below_alloc w _).grown hg (by simp) (fun k hk => by simp [Value.ownBlock] at hk; omega)
end Go.Proofs.Ytiilckjnggeeoad
