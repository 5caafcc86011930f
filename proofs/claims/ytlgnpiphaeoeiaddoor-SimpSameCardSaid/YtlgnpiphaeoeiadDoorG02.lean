/- Own OwnW Find Put Clone Rows2 -/
import Derived.Test.YtlgnpiphaeoeiadDoorG01
import Derived.Deep.AppendLies
namespace Go.Proofs.YtlgnpiphaeoeiadDoor
open Go.RowKit Go.Deep Go.ChangeShapes Go.WideShapes
def WIn (w : World) : Fo → Nat → Nat → Nat → Nat → Prop
  | .nil, _, _, _, _ => True
  | .node _ _ x k r, b, o, lo, hi => w.cell? ⟨b, o, none⟩ = some (.bool x.1) ∧ w.cell? ⟨b, o + 1, none⟩ = some (.int .i64 x.2) ∧
      w.frozen? ⟨b, o, none⟩ = false ∧ w.frozen? ⟨b, o + 1, none⟩ = false ∧ w.frozen? ⟨b, o + 2, none⟩ = false ∧
      (∃ (m g : Nat) (a : Value), lo ≤ m ∧ m ≤ hi ∧ w.cell? ⟨b, o + 2, none⟩ = some a ∧
        ((k = .nil ∧ a = .slice none 0 0) ∨ (lo ≤ g ∧ g < m ∧ 0 < Fo.len k ∧ Fo.len k ≤ 1000 ∧ a = .slice (some ⟨g, 0, none⟩) (Fo.len k) (Fo.len k) ∧ WIn w k g 0 (g + 1) m)) ∧
        WIn w r b (o + 3) m hi)
def OwnV (w : World) (lo hi : Nat) (k : Fo) (a : Value) : Prop :=
  (k = .nil ∧ a = .slice none 0 0) ∨ ∃ g, lo ≤ g ∧ g < hi ∧ 0 < Fo.len k ∧ Fo.len k ≤ 1000 ∧ a = .slice (some ⟨g, 0, none⟩) (Fo.len k) (Fo.len k) ∧ WIn w k g 0 (g + 1) hi
theorem WIn.toF {w : World} : ∀ {F : Fo} {b o lo hi : Nat}, WIn w F b o lo hi → FIn w F b o
  | .nil, _, _, _, _, _ => trivial
  | .node _ _ x k r, b, o, lo, hi, ⟨h0, h1, _, _, _, m, g, a, _, _, h2, h3, h4⟩ => by
    refine FIn.mk h0 h1 h2 ?_ h4.toF
    rcases h3 with ⟨rfl, rfl⟩ | ⟨_, _, _, hl, rfl, hk⟩
    · exact ⟨none, 0, 0, 0, rfl, fun h => by simp [Fo.len] at h, Nat.le_refl _, Nat.zero_le _, trivial⟩
    · exact ⟨_, _, g, 0, rfl, fun _ => rfl, Nat.le_refl _, by unfold maxLen; omega, hk.toF⟩
theorem OwnV.toS {w : World} {lo hi : Nat} {k : Fo} {a : Value} (h : OwnV w lo hi k a) : SIn w k a := by
  rcases h with ⟨rfl, rfl⟩ | ⟨g, _, _, _, hl, rfl, hk⟩
  · exact ⟨none, 0, 0, 0, rfl, fun h => by simp [Fo.len] at h, Nat.le_refl _, Nat.zero_le _, trivial⟩
  · exact ⟨_, _, g, 0, rfl, fun _ => rfl, Nat.le_refl _, by unfold maxLen; omega, hk.toF⟩
def BIn (X : Nat → Prop) (w : World) : Fo → Nat → Nat → Prop
  | .nil, _, _ => True
  | .node _ _ x k r, b, o => w.cell? ⟨b, o, none⟩ = some (.bool x.1) ∧ w.cell? ⟨b, o + 1, none⟩ = some (.int .i64 x.2) ∧
      (∃ (a : Option Addr) (c b' o' : Nat), w.cell? ⟨b, o + 2, none⟩ = some (.slice a (Fo.len k) c) ∧ (0 < Fo.len k → a = some ⟨b', o', none⟩ ∧ X b') ∧ Fo.len k ≤ c ∧ c ≤ maxLen ∧ BIn X w k b' o') ∧ BIn X w r b (o + 3)
def SB (X : Nat → Prop) (w : World) (k : Fo) (v : Value) : Prop :=
  ∃ (a : Option Addr) (c b o : Nat), v = .slice a (Fo.len k) c ∧ (0 < Fo.len k → a = some ⟨b, o, none⟩ ∧ X b) ∧ Fo.len k ≤ c ∧ c ≤ maxLen ∧ BIn X w k b o
theorem BIn.toF {X : Nat → Prop} {w : World} : ∀ {F : Fo} {b o : Nat}, BIn X w F b o → FIn w F b o
  | .nil, _, _, _ => trivial
  | .node _ _ _ _ _, _, _, ⟨h0, h1, ⟨a, c, b', o', h2, h3, h4, h5, h6⟩, h7⟩ => ⟨h0, h1, ⟨a, c, b', o', h2, fun h => (h3 h).1, h4, h5, h6.toF⟩, h7.toF⟩
theorem SB.toS {X : Nat → Prop} {w : World} {k : Fo} {v : Value} (h : SB X w k v) : SIn w k v := by
  obtain ⟨a, c, b, o, h1, h2, h3, h4, h5⟩ := h
  exact ⟨a, c, b, o, h1, fun h => (h2 h).1, h3, h4, h5.toF⟩
theorem SB.nil (X : Nat → Prop) (w : World) : SB X w .nil (.slice none 0 0) := ⟨none, 0, 0, 0, rfl, fun h => by simp [Fo.len] at h, Nat.le_refl _, Nat.zero_le _, trivial⟩
theorem BIn.frame {X Y : Nat → Prop} {w w' : World} (hXY : ∀ q, X q → Y q) (hr : ∀ q i, X q → w'.cell? ⟨q, i, none⟩ = w.cell? ⟨q, i, none⟩) : ∀ {F : Fo} {b o : Nat}, BIn X w F b o → (0 < Fo.len F → X b) → BIn Y w' F b o
  | .nil, _, _, _, _ => trivial
  | .node _ _ x k r, b, o, ⟨h0, h1, ⟨a, c, b', o', h2, h3, h4, h5, h6⟩, h7⟩, hb => by
    have hX := hb (by simp [Fo.len])
    exact ⟨(hr b o hX).trans h0, (hr b _ hX).trans h1, ⟨a, c, b', o', (hr b _ hX).trans h2, fun h => ⟨(h3 h).1, hXY _ (h3 h).2⟩, h4, h5, BIn.frame hXY hr h6 (fun h => (h3 h).2)⟩, BIn.frame hXY hr h7 (fun _ => hX)⟩
theorem SB.frame {X Y : Nat → Prop} {w w' : World} {k : Fo} {v : Value} (h : SB X w k v) (hXY : ∀ q, X q → Y q) (hr : ∀ q i, X q → w'.cell? ⟨q, i, none⟩ = w.cell? ⟨q, i, none⟩) : SB Y w' k v := by
  obtain ⟨a, c, b, o, h1, h2, h3, h4, h5⟩ := h
  exact ⟨a, c, b, o, h1, fun h => ⟨(h2 h).1, hXY _ (h2 h).2⟩, h3, h4, BIn.frame hXY hr h5 (fun h => (h2 h).2)⟩
abbrev New (w w' : World) : Nat → Prop := fun q => w.heap.size ≤ q ∧ q < w'.heap.size
theorem BIn.mk {X : Nat → Prop} {w : World} {p q : Nat} {x : Bool × Int} {k r : Fo} {b o : Nat} {v : Value} (h0 : w.cell? ⟨b, o, none⟩ = some (.bool x.1)) (h1 : w.cell? ⟨b, o + 1, none⟩ = some (.int .i64 x.2))
    (h2 : w.cell? ⟨b, o + 2, none⟩ = some v) (h3 : SB X w k v) (h4 : BIn X w r b (o + 3)) : BIn X w (.node p q x k r) b o := by
  obtain ⟨a, c, b', o', rfl, h5, h6, h7, h8⟩ := h3
  exact ⟨h0, h1, ⟨a, c, b', o', h2, h5, h6, h7, h8⟩, h4⟩
theorem WIn.toB {w : World} {X : Nat → Prop} : ∀ {F : Fo} {b o lo hi : Nat}, (∀ q, lo ≤ q → q < hi → X q) → WIn w F b o lo hi → BIn X w F b o
  | .nil, _, _, _, _, _, _ => trivial
  | .node _ _ x k r, b, o, lo, hi, hX, ⟨h0, h1, _, _, _, m, g, a, hm1, hm2, h2, h3, h4⟩ => by
    refine BIn.mk h0 h1 h2 ?_ (WIn.toB (fun q q1 q2 => hX q (by omega) q2) h4)
    rcases h3 with ⟨rfl, rfl⟩ | ⟨e1, e2, _, hl, rfl, hk⟩
    · exact SB.nil X w
    · exact ⟨_, _, g, 0, rfl, fun _ => ⟨rfl, hX g (by omega) (by omega)⟩, Nat.le_refl _, by unfold maxLen; omega, WIn.toB (fun q q1 q2 => hX q (by omega) (by omega)) hk⟩
theorem OwnV.toB {w : World} {X : Nat → Prop} {lo hi : Nat} {k : Fo} {a : Value} (hX : ∀ q, lo ≤ q → q < hi → X q) (h : OwnV w lo hi k a) : SB X w k a := by
  rcases h with ⟨rfl, rfl⟩ | ⟨g, e1, e2, _, hl, rfl, hk⟩
  · exact SB.nil X w
  · exact ⟨_, _, g, 0, rfl, fun _ => ⟨rfl, hX g e1 e2⟩, Nat.le_refl _, by unfold maxLen; omega, WIn.toB (fun q q1 q2 => hX q (by omega) q2) hk⟩
theorem WIn.frame {w w' : World} : ∀ {F : Fo} {b o lo hi : Nat}, WIn w F b o lo hi →
    (∀ i, o ≤ i → i < o + 3 * Fo.len F → w'.cell? ⟨b, i, none⟩ = w.cell? ⟨b, i, none⟩ ∧ w'.frozen? ⟨b, i, none⟩ = w.frozen? ⟨b, i, none⟩) →
    (∀ q i, lo ≤ q → q < hi → w'.cell? ⟨q, i, none⟩ = w.cell? ⟨q, i, none⟩ ∧ w'.frozen? ⟨q, i, none⟩ = w.frozen? ⟨q, i, none⟩) → WIn w' F b o lo hi
  | .nil, _, _, _, _, _, _, _ => trivial
  | .node _ _ x k r, b, o, lo, hi, ⟨h0, h1, f0, f1, f2, m, g, a, hm1, hm2, h2, h3, h4⟩, hc, hr => by
    have hl : Fo.len (.node 0 0 x k r) = Fo.len r + 1 := rfl
    have c0 := hc o (by omega) (by simp only [Fo.len]; omega)
    have c1 := hc (o + 1) (by omega) (by simp only [Fo.len]; omega)
    have c2 := hc (o + 2) (by omega) (by simp only [Fo.len]; omega)
    refine ⟨c0.1.trans h0, c1.1.trans h1, c0.2.trans f0, c1.2.trans f1, c2.2.trans f2, m, g, a, hm1, hm2, c2.1.trans h2, ?_, ?_⟩
    · rcases h3 with h3 | ⟨e1, e2, e3, e4, e5, hk⟩
      · exact .inl h3
      · exact .inr ⟨e1, e2, e3, e4, e5, hk.frame (fun i _ _ => hr g i (by omega) (by omega)) (fun q i q1 q2 => hr q i (by omega) (by omega))⟩
    · exact h4.frame (fun i i1 i2 => hc i (by omega) (by simp only [Fo.len]; omega)) (fun q i q1 q2 => hr q i (by omega) q2)
theorem WIn.mono {w : World} : ∀ {F : Fo} {b o lo hi lo' hi' : Nat}, WIn w F b o lo hi → lo' ≤ lo → hi ≤ hi' → lo ≤ hi → WIn w F b o lo' hi'
  | .nil, _, _, _, _, _, _, _, _, _, _ => trivial
  | .node _ _ x k r, b, o, lo, hi, lo', hi', ⟨h0, h1, f0, f1, f2, m, g, a, hm1, hm2, h2, h3, h4⟩, e1, e2, e3 => by
    refine ⟨h0, h1, f0, f1, f2, m, g, a, by omega, by omega, h2, ?_, h4.mono (Nat.le_refl _) e2 hm2⟩
    rcases h3 with h3 | ⟨q1, q2, q3, q4, q5, hk⟩
    · exact .inl h3
    · exact .inr ⟨by omega, q2, q3, q4, q5, hk⟩
theorem OwnV.frame {w w' : World} {lo hi : Nat} {k : Fo} {a : Value} (h : OwnV w lo hi k a)
    (hr : ∀ q i, lo ≤ q → q < hi → w'.cell? ⟨q, i, none⟩ = w.cell? ⟨q, i, none⟩ ∧ w'.frozen? ⟨q, i, none⟩ = w.frozen? ⟨q, i, none⟩) : OwnV w' lo hi k a := by
  rcases h with h | ⟨g, e1, e2, e3, e4, e5, hk⟩
  · exact .inl h
  · exact .inr ⟨g, e1, e2, e3, e4, e5, hk.frame (fun i _ _ => hr g i e1 e2) (fun q i q1 q2 => hr q i (by omega) q2)⟩
theorem OwnV.mono {w : World} {lo hi lo' hi' : Nat} {k : Fo} {a : Value} (h : OwnV w lo hi k a) (h1 : lo' ≤ lo) (h2 : hi ≤ hi') : OwnV w lo' hi' k a := by
  rcases h with h | ⟨g, e1, e2, e3, e4, e5, hk⟩
  · exact .inl h
  · exact .inr ⟨g, by omega, by omega, e3, e4, e5, hk.mono (Nat.le_refl _) h2 (by omega)⟩
def Fo.take : Nat → Fo → Fo
  | 0, _ => .nil
  | _ + 1, .nil => .nil
  | j + 1, .node p q x k r => .node p q x k (Fo.take j r)
theorem take_len : ∀ (j : Nat) (k : Fo), j ≤ Fo.len k → Fo.len (Fo.take j k) = j
  | 0, _, _ => rfl
  | j + 1, .nil, h => by simp [Fo.len] at h
  | j + 1, .node _ _ _ _ r, h => by simp only [Fo.take, Fo.len]; rw [take_len j r (by simpa [Fo.len] using h)]
theorem take_all : ∀ (k : Fo), Fo.take (Fo.len k) k = k
  | .nil => rfl
  | .node _ _ _ _ r => by simp only [Fo.len, Fo.take]; rw [take_all r]
theorem WIn.snoc {w : World} : ∀ {j : Nat} {F : Fo} {x : Bool × Int} {k : Fo} {b o lo mid hi : Nat} {a : Value}, F.list[j]? = some (x, k) → WIn w (Fo.take j F) b o lo mid → lo ≤ mid → mid ≤ hi →
    w.cell? ⟨b, o + 3 * j, none⟩ = some (.bool x.1) → w.cell? ⟨b, o + 3 * j + 1, none⟩ = some (.int .i64 x.2) → w.cell? ⟨b, o + 3 * j + 2, none⟩ = some a →
    w.frozen? ⟨b, o + 3 * j, none⟩ = false → w.frozen? ⟨b, o + 3 * j + 1, none⟩ = false → w.frozen? ⟨b, o + 3 * j + 2, none⟩ = false → OwnV w mid hi k a → WIn w (Fo.take (j + 1) F) b o lo hi
  | _, .nil, _, _, _, _, _, _, _, _, h, _, _, _, _, _, _, _, _, _, _ => by simp [Fo.list] at h
  | 0, .node _ _ y l r, x, k, b, o, lo, mid, hi, a, h, _, m1, m2, c0, c1, c2, f0, f1, f2, hO => by
    simp only [Fo.list, List.getElem?_cons_zero, Option.some.injEq, Prod.mk.injEq] at h
    obtain ⟨rfl, rfl⟩ := h
    rcases hO with ⟨rfl, rfl⟩ | ⟨g, e1, e2, e3, e4, rfl, hk⟩
    · exact ⟨c0, c1, f0, f1, f2, hi, 0, _, by omega, by omega, c2, .inl ⟨rfl, rfl⟩, trivial⟩
    · exact ⟨c0, c1, f0, f1, f2, hi, g, _, by omega, by omega, c2, .inr ⟨by omega, by omega, e3, e4, rfl, hk⟩, trivial⟩
  | j + 1, .node _ _ y l r, x, k, b, o, lo, mid, hi, a, h, ⟨h0, h1, g0, g1, g2, m, g, a', hm1, hm2, h2, h3, h4⟩, m1, m2, c0, c1, c2, f0, f1, f2, hO => by
    refine ⟨h0, h1, g0, g1, g2, m, g, a', hm1, by omega, h2, h3, ?_⟩
    have e : o + 3 + 3 * j = o + 3 * (j + 1) := by omega
    exact WIn.snoc (j := j) (F := r) (by simpa [Fo.list] using h) h4 hm2 m2 (by rw [e]; exact c0) (by rw [e]; exact c1) (by rw [e]; exact c2) (by rw [e]; exact f0) (by rw [e]; exact f1) (by rw [e]; exact f2) hO
def Fo.narrow : Fo → Prop
  | .nil => True
  | .node _ _ _ k r => Fo.len k ≤ 1000 ∧ Fo.narrow k ∧ Fo.narrow r
theorem narrow_at : ∀ {F : Fo} {j : Nat} {x : Bool × Int} {k : Fo}, Fo.narrow F → F.list[j]? = some (x, k) → Fo.len k ≤ 1000 ∧ Fo.narrow k
  | .nil, _, _, _, _, h => by simp [Fo.list] at h
  | .node _ _ y l r, 0, x, k, hn, h => by
    simp only [Fo.list, List.getElem?_cons_zero, Option.some.injEq, Prod.mk.injEq] at h
    obtain ⟨rfl, rfl⟩ := h
    exact ⟨hn.1, hn.2.1⟩
  | .node _ _ y l r, j + 1, x, k, hn, h => narrow_at (F := r) hn.2.2 (by simpa [Fo.list] using h)
end Go.Proofs.YtlgnpiphaeoeiadDoor

namespace Go.Proofs.YtlgnpiphaeoeiadDoor
open Go.RowKit Go.Deep Go.ChangeShapes Go.WideShapes
theorem Tryd.info37 : (Tryd.prog.info? 37).map (fun i => (i.zero, i.size, i.bytes)) = some (some (.agg #[.bool false, .int .i64 0, .slice none 0 0]), 3, 40) := by kernel_rfl
def There (w : World) (g n : Nat) : Prop := ∀ i, i < n → (∃ v, w.cell? ⟨g, i, none⟩ = some v) ∧ w.frozen? ⟨g, i, none⟩ = false
theorem set_other {w : World} {a b : Addr} {v : Value} (h : a ≠ b) : (w.setCell a v).cell? b = w.cell? b := by apply World.cell?_setCell_other; exact h
theorem set_same {w : World} {a : Addr} {u v : Value} (h : w.cell? a = some u) : (w.setCell a v).cell? a = some v := by
  apply World.cell?_setCell_same; exact h
theorem frozen_new (w : World) (c : Array Value) (t : TypeId) (i : Nat) : (w.alloc (.cells c t)).frozen? ⟨w.heap.size, i, none⟩ = false := by simp
def set3 (w : World) (b o : Nat) (x y z : Value) : World := ((w.setCell ⟨b, o, none⟩ x).setCell ⟨b, o + 1, none⟩ y).setCell ⟨b, o + 2, none⟩ z
theorem set3_other {w : World} {b o : Nat} {x y z : Value} {q i : Nat} (h : q ≠ b ∨ i < o ∨ o + 3 ≤ i) : (set3 w b o x y z).cell? ⟨q, i, none⟩ = w.cell? ⟨q, i, none⟩ := by
  unfold set3
  rw [set_other (by intro e; simp only [Addr.mk.injEq] at e; omega), set_other (by intro e; simp only [Addr.mk.injEq] at e; omega), set_other (by intro e; simp only [Addr.mk.injEq] at e; omega)]
theorem set3_frozen {w : World} {b o : Nat} {x y z : Value} {q : Addr} : (set3 w b o x y z).frozen? q = w.frozen? q := by simp [set3]
theorem set3_size {w : World} {b o : Nat} {x y z : Value} : (set3 w b o x y z).heap.size = w.heap.size := by simp [set3, World.setCell]
theorem set3_cells {w : World} {b o : Nat} {x y z u0 u1 u2 : Value} (h0 : w.cell? ⟨b, o, none⟩ = some u0) (h1 : w.cell? ⟨b, o + 1, none⟩ = some u1) (h2 : w.cell? ⟨b, o + 2, none⟩ = some u2) :
    (set3 w b o x y z).cell? ⟨b, o, none⟩ = some x ∧ (set3 w b o x y z).cell? ⟨b, o + 1, none⟩ = some y ∧ (set3 w b o x y z).cell? ⟨b, o + 2, none⟩ = some z := by
  have e1 : (⟨b, o, none⟩ : Addr) ≠ ⟨b, o + 1, none⟩ := by intro e; simp only [Addr.mk.injEq] at e; omega
  have e2 : (⟨b, o, none⟩ : Addr) ≠ ⟨b, o + 2, none⟩ := by intro e; simp only [Addr.mk.injEq] at e; omega
  have e3 : (⟨b, o + 1, none⟩ : Addr) ≠ ⟨b, o + 2, none⟩ := by intro e; simp only [Addr.mk.injEq] at e; omega
  unfold set3
  refine ⟨?_, ?_, ?_⟩
  · rw [set_other e2.symm, set_other e1.symm, set_same h0]
  · rw [set_other e3.symm]
    exact set_same (by rw [set_other e1]; exact h1)
  · exact set_same (by rw [set_other e3, set_other e2]; exact h2)
theorem set3_below {B : Nat} {w w1 : World} {b o : Nat} {x y z : Value} (h : Below B w w1) (hb : B ≤ b) : Below B w (set3 w1 b o x y z) := ((h.setCell hb _).setCell hb _).setCell hb _
end Go.Proofs.YtlgnpiphaeoeiadDoor

namespace Go.Proofs.YtlgnpiphaeoeiadDoor
open Go.RowKit Go.Deep Go.ChangeShapes Go.WideShapes
def TIn (w : World) (b o : Nat) (x : Bool × Int) (k : Fo) : Prop :=
  w.cell? ⟨b, o, none⟩ = some (.bool x.1) ∧ w.cell? ⟨b, o + 1, none⟩ = some (.int .i64 x.2) ∧ ∃ v, w.cell? ⟨b, o + 2, none⟩ = some v ∧ SIn w k v
theorem TIn.below {w w' : World} (hb : Below w.heap.size w w') {b o : Nat} {x : Bool × Int} {k : Fo} (h : TIn w b o x k) : TIn w' b o x k := by
  obtain ⟨h0, h1, v, h2, h3⟩ := h
  exact ⟨grow_cell hb _ _ h0, grow_cell hb _ _ h1, v, grow_cell hb _ _ h2, h3.below hb⟩
def atT : List Int → Bool × Int → Fo → Option ((Bool × Int) × Fo)
  | [], x, k => some (x, k)
  | n :: p, x, k => if x.1 = true ∨ n < 0 ∨ (Fo.len k : Int) ≤ n then none else match k.list[n.toNat]? with
    | some y => atT p y.1 y.2
    | none => none
theorem atT_cons {n : Int} {p : List Int} {x : Bool × Int} {k : Fo} {y : (Bool × Int) × Fo} (hx : x.1 = false) (h0 : 0 ≤ n) (hy : k.list[n.toNat]? = some y) (h1 : n < (Fo.len k : Int)) : atT (n :: p) x k = atT p y.1 y.2 := by
  rw [atT, if_neg (by simp [hx]; omega), hy]
theorem atT_none {n : Int} {p : List Int} {x : Bool × Int} {k : Fo} (h : x.1 = true ∨ n < 0 ∨ (Fo.len k : Int) ≤ n) : atT (n :: p) x k = none := by
  rw [atT, if_pos h]
end Go.Proofs.YtlgnpiphaeoeiadDoor

namespace Go.Proofs.YtlgnpiphaeoeiadDoor
open Go.RowKit Go.Deep Go.ChangeShapes Go.WideShapes
def setF : Fo → Nat → ((Bool × Int) × Fo → (Bool × Int) × Fo) → Fo
  | .nil, _, _ => .nil
  | .node p q x k r, 0, f => .node p q (f (x, k)).1 (f (x, k)).2 r
  | .node p q x k r, i + 1, f => .node p q x k (setF r i f)
def putT : List Int → (Bool × Int) × Fo → (Bool × Int) × Fo → (Bool × Int) × Fo
  | [], _, u => u
  | n :: p, t, u => if t.1.1 = true ∨ n < 0 ∨ (Fo.len t.2 : Int) ≤ n then t else (t.1, setF t.2 n.toNat (fun s => putT p s u))
theorem setF_len : ∀ (F : Fo) (i : Nat) (f : (Bool × Int) × Fo → (Bool × Int) × Fo), Fo.len (setF F i f) = Fo.len F
  | .nil, _, _ => rfl
  | .node _ _ _ _ _, 0, _ => rfl
  | .node _ _ _ _ r, i + 1, f => by simp [setF, Fo.len, setF_len r i f]
theorem atT_some {n : Int} {p : List Int} {x : Bool × Int} {k : Fo} {z : (Bool × Int) × Fo} (h : atT (n :: p) x k = some z) : x.1 = false ∧ 0 ≤ n ∧ n < (Fo.len k : Int) ∧ ∃ y, k.list[n.toNat]? = some y ∧ atT p y.1 y.2 = some z := by
  by_cases hc : x.1 = true ∨ n < 0 ∨ (Fo.len k : Int) ≤ n
  · rw [atT_none hc] at h; cases h
  · have h1 : x.1 = false := by cases hx : x.1 <;> simp_all
    have h2 : 0 ≤ n := by omega
    have h3 : n < (Fo.len k : Int) := by omega
    obtain ⟨y, hy⟩ : ∃ y, k.list[n.toNat]? = some y := ⟨k.list[n.toNat]'(by rw [Fo.len_list]; omega), by simp⟩
    rw [atT_cons h1 h2 hy h3] at h
    exact ⟨h1, h2, h3, y, hy, h⟩
end Go.Proofs.YtlgnpiphaeoeiadDoor

namespace Go.Proofs.YtlgnpiphaeoeiadDoor
open Go.RowKit Go.Deep Go.ChangeShapes Go.WideShapes
theorem Tryd.info3 : (Tryd.prog.info? 3).map (fun i => (i.zero, i.size, i.bytes)) = some (some (.int .i64 0), 1, 8) := by kernel_rfl
abbrev vals (p : List Int) : List Value := p.map (Value.int .i64)
theorem own_nin {w : World} {lo : Nat} {p : List Int} {v : Value} (h : w.ownsRow lo 3 1 v p.length (vals p)) : NIn w p v := by
  obtain ⟨h1, h2⟩ := h
  rcases h2 with ⟨rfl, h0⟩ | ⟨g, cap, cur, rfl, hg, hh, hn, hc, hs, ht⟩
  · exact ⟨none, 0, 0, 0, by rw [h0], fun h => by omega, by omega, Nat.zero_le _, fun i hi => by omega⟩
  · refine ⟨_, cap, g, 0, rfl, fun _ => rfl, hn, hc, fun i hi => ?_⟩
    have e : cur.toList[i]? = (vals p)[i]? := by
      rw [← ht, List.getElem?_take_of_lt (by omega)]
    rw [Nat.zero_add]
    have : w.cell? ⟨g, i, none⟩ = cur.toList[i]? := by simp [World.cell?, hh]
    rw [this, e]
    simp [List.getD_eq_getElem?_getD, hi]
set_option maxRecDepth 100000 in
set_option maxHeartbeats 400000 in
theorem clone_any (p : List Int) (pv : Value) (w : World) (hN : NIn w p pv) (hb : p.length * 8 ≤ 140737488355328) :
    Calls Tryd.prog 76 #[pv] w fun e w' => ∃ v', e = .returned v' ∧ w'.ownsRow w.heap.size 3 1 v' p.length (vals p) ∧ Below w.heap.size w w' := by
  obtain ⟨pa, pc, pb, po, rfl, hpa, hplc, hpcm, hpF⟩ := hN
  have hnil := fun (w : World) (a : Option Addr) (n c : Nat) => Lib.run_eql_slice_nil (P := Tryd.prog) w 22 3 a n c 0 0 Tryd.underlying22
  cases pa with
  | none =>
    have h0 : p.length = 0 := by
      rcases Nat.eq_zero_or_pos p.length with h | h
      · exact h
      · have := hpa h; cases this
    go_enter Tryd.func76, Tryd.ntmps76
    go_wp2_with fail
    go_ret
    exact ⟨_, rfl, ⟨by simp, .inl ⟨rfl, h0⟩⟩, Below.refl _ _⟩
  | some ad =>
    obtain ⟨i3, hi, hz0, hz1, hz2⟩ := info_parts Tryd.info3
    have Hcells : Hid (∀ j u, (vals p)[j]? = some u → (w.alloc (.cells #[] 3)).cell? (ad.add j) = some u) := by
      intro j u hu
      have hj : j < p.length := by
        have := (List.getElem?_eq_some_iff.1 hu).1
        simpa using this
      have ha : ad = ⟨pb, po, none⟩ := by have := hpa (by omega); simpa using this
      have hc := hpF j hj
      have e : u = .int .i64 (p.getD j 0) := by
        simp [List.getD_eq_getElem?_getD, hj] at hu ⊢
        exact hu.symm
      rw [ha, add_plain, e]
      exact grow_cell (below_alloc _ _) _ _ hc
    have Hown : Hid ((w.alloc (.cells #[] 3)).ownsRow w.heap.size 3 1 (.slice (some ⟨w.heap.size, 0, none⟩) 0 0) 0 []) :=
      ⟨rfl, .inr ⟨w.heap.size, 0, #[], rfl, Nat.le_refl _, by show (w.heap.push _)[w.heap.size]? = _; simp, Nat.le_refl _, Nat.zero_le _, rfl, rfl⟩⟩
    have hlen : 0 + p.length ≤ maxLen := by omega
    have hbb : (0 + p.length) * 8 ≤ 140737488355328 := by omega
    clear hpF hpa
    go_enter Tryd.func76, Tryd.ntmps76
    go_wp2_with (at_builtin; refine wpList_append_own_at _ rfl (.tmp 5) (.tmp 6) 22 rfl w.heap.size 3 i3 (.int .i64 0) 1 8 Tryd.underlying22 hi hz0 hz1 hz2 rfl (by decide) (.slice (some ⟨w.heap.size, 0, none⟩) 0 0) 0 [] rfl Hown.out ad p.length pc (vals p) rfl (by simp) Hcells.out (ints_oneCell _ _) hlen hbb (by simp) ?_; intro v' w' hown hg hnn hat)
    go_ret
    refine ⟨v', rfl, by simpa using hown, ?_⟩
    exact (below_alloc w _).grown hg (by simp) (fun k hk => by simp [Value.ownBlock] at hk; omega)
end Go.Proofs.YtlgnpiphaeoeiadDoor

namespace Go.Proofs.YtlgnpiphaeoeiadDoor
open Go.RowKit Go.Deep Go.ChangeShapes Go.WideShapes
structure Fr (w w' : World) (g1 g2 : Option Nat) : Prop where
  os : w'.os = w.os
  tape : w'.tape = w.tape
  output : w'.output = w.output
  size : w.heap.size ≤ w'.heap.size
  block : ∀ q, q < w.heap.size → some q ≠ g1 → some q ≠ g2 → w'.heap[q]? = w.heap[q]?
theorem Fr.refl (w : World) (g1 g2 : Option Nat) : Fr w w g1 g2 := ⟨rfl, rfl, rfl, Nat.le_refl _, fun _ _ _ _ => rfl⟩
theorem Fr.of_below {w w' : World} (h : Below w.heap.size w w') (g1 g2 : Option Nat) : Fr w w' g1 g2 := ⟨h.os, h.tape, h.output, h.size, fun q hq _ _ => h.block q hq⟩
theorem Fr.trans {w w1 w2 : World} {g1 g2 h1 h2 : Option Nat} (a : Fr w w1 g1 g2) (b : Fr w1 w2 h1 h2) (hr : ∀ q, q < w.heap.size → some q = h1 ∨ some q = h2 → some q = g1 ∨ some q = g2) : Fr w w2 g1 g2 := by
  refine ⟨b.os.trans a.os, b.tape.trans a.tape, b.output.trans a.output, Nat.le_trans a.size b.size, fun q hq e1 e2 => ?_⟩
  rw [b.block q (Nat.lt_of_lt_of_le hq a.size) (fun e => ?_) (fun e => ?_), a.block q hq e1 e2]
  · rcases hr q hq (.inl e) with h | h; exact e1 h; exact e2 h
  · rcases hr q hq (.inr e) with h | h; exact e1 h; exact e2 h
theorem Fr.below {B : Nat} {w w' : World} {g1 g2 : Option Nat} (h : Fr w w' g1 g2) (hB : B ≤ w.heap.size) (h1 : ∀ g, g1 = some g → B ≤ g) (h2 : ∀ g, g2 = some g → B ≤ g) : Below B w w' :=
  ⟨h.os, h.tape, h.output, h.size, fun q hq => h.block q (by omega) (fun e => by have := h1 q e.symm; omega) (fun e => by have := h2 q e.symm; omega)⟩
theorem owns_keep {w w' : World} {lo : Nat} {e : TypeId} {s : Nat} {v : Value} {n : Nat} {xs : List Value} (h : w.ownsRow lo e s v n xs) (hk : ∀ g, v.ownBlock = some g → w'.heap[g]? = w.heap[g]?) : w'.ownsRow lo e s v n xs := by
  obtain ⟨h1, h2⟩ := h
  refine ⟨h1, ?_⟩
  rcases h2 with h2 | ⟨g, cap, cur, rfl, hg, hh, r⟩
  · exact .inl h2
  · exact .inr ⟨g, cap, cur, rfl, hg, by rw [hk g rfl]; exact hh, r⟩
theorem owns_mono {w : World} {lo lo' : Nat} {e : TypeId} {s : Nat} {v : Value} {n : Nat} {xs : List Value} (h : w.ownsRow lo e s v n xs) (hl : lo' ≤ lo) : w.ownsRow lo' e s v n xs := by
  obtain ⟨h1, h2⟩ := h
  refine ⟨h1, ?_⟩
  rcases h2 with h2 | ⟨g, cap, cur, rfl, hg, hh, r⟩
  · exact .inl h2
  · exact .inr ⟨g, cap, cur, rfl, by omega, hh, r⟩
theorem owns_at {w : World} {lo : Nat} {e : TypeId} {s : Nat} {v : Value} {n : Nat} {xs : List Value} (h : w.ownsRow lo e s v n xs) : ∀ g, v.ownBlock = some g → lo ≤ g ∧ g < w.heap.size := by
  intro g hg
  rcases h.2 with ⟨rfl, _⟩ | ⟨g', cap, cur, rfl, h1, hh, _⟩
  · simp [Value.ownBlock] at hg
  · simp [Value.ownBlock] at hg
    subst hg
    refine ⟨h1, ?_⟩
    rcases Nat.lt_or_ge g' w.heap.size with h | h
    · exact h
    · rw [Array.getElem?_eq_none h] at hh; cases hh
end Go.Proofs.YtlgnpiphaeoeiadDoor
