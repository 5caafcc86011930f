/- What is known of terms that lie in memory: their cells, and how they stay. -/
import Derived.Test.YtegdfnfengnjlaaDoorRows
import Derived.WalkKit
import Derived.WalkSpells
import Derived.WalkLawsBesides
import Derived.Deep.Trees
import Derived.Deep.Slices
import Derived.ProofKit
namespace Go.Proofs.YtegdfnfengnjlaaDoor
open Go.RowKit Go.Deep Go.ChangeShapes Go.WideShapes

theorem Tryd.cells26 : Tryd.prog.cellsOf 26 = 3 := by kernel_rfl
theorem Tryd.cells24 : Tryd.prog.cellsOf 24 = 1 := by kernel_rfl
theorem Tryd.cells3 : Tryd.prog.cellsOf 3 = 1 := by kernel_rfl
theorem Tryd.cells4 : Tryd.prog.cellsOf 4 = 1 := by kernel_rfl

theorem hide {p : Prop} (h : p) : Hid p := h

/-- A forest: nothing, or a first term (is it a variable, its number, its arguments) and the others. -/
abbrev Fo := BT (Bool × Int)

def Fo.nd (v : Bool) (n : Int) (k r : Fo) : Fo := BT.node 0 0 (v, n) k r

def Fo.len : Fo → Nat
  | .nil => 0
  | .node _ _ _ _ r => Fo.len r + 1

/-- The forest lies in w, its first term at (b, o), three cells each. -/
def FIn (w : World) : Fo → Nat → Nat → Prop
  | .nil, _, _ => True
  | .node _ _ x k r, b, o => w.cell? ⟨b, o, none⟩ = some (.bool x.1) ∧ w.cell? ⟨b, o + 1, none⟩ = some (.int .i64 x.2) ∧
      (∃ (a : Option Addr) (c b' o' : Nat), w.cell? ⟨b, o + 2, none⟩ = some (.slice a (Fo.len k) c) ∧ (0 < Fo.len k → a = some ⟨b', o', none⟩) ∧ Fo.len k ≤ c ∧ c ≤ maxLen ∧ FIn w k b' o') ∧ FIn w r b (o + 3)

/-- The arguments k lie in w, as the value v says. -/
def SIn (w : World) (k : Fo) (v : Value) : Prop :=
  ∃ (a : Option Addr) (c b o : Nat), v = .slice a (Fo.len k) c ∧ (0 < Fo.len k → a = some ⟨b, o, none⟩) ∧ Fo.len k ≤ c ∧ c ≤ maxLen ∧ FIn w k b o

theorem FIn.node {w : World} {p q : Nat} {x : Bool × Int} {k r : Fo} {b o : Nat} (h : FIn w (.node p q x k r) b o) :
    w.cell? ⟨b, o, none⟩ = some (.bool x.1) ∧ w.cell? ⟨b, o + 1, none⟩ = some (.int .i64 x.2) ∧ (∃ v, w.cell? ⟨b, o + 2, none⟩ = some v ∧ SIn w k v) ∧ FIn w r b (o + 3) := by
  obtain ⟨h0, h1, ⟨a, c, b', o', h2, h3, h4, h5, h6⟩, h7⟩ := h
  exact ⟨h0, h1, ⟨_, h2, a, c, b', o', rfl, h3, h4, h5, h6⟩, h7⟩

theorem FIn.mk {w : World} {p q : Nat} {x : Bool × Int} {k r : Fo} {b o : Nat} {v : Value} (h0 : w.cell? ⟨b, o, none⟩ = some (.bool x.1)) (h1 : w.cell? ⟨b, o + 1, none⟩ = some (.int .i64 x.2))
    (h2 : w.cell? ⟨b, o + 2, none⟩ = some v) (h3 : SIn w k v) (h4 : FIn w r b (o + 3)) : FIn w (.node p q x k r) b o := by
  obtain ⟨a, c, b', o', rfl, h5, h6, h7, h8⟩ := h3
  exact ⟨h0, h1, ⟨a, c, b', o', h2, h5, h6, h7, h8⟩, h4⟩

/-- The world has grown: every cell that was there is there still. -/
theorem FIn.later {w w' : World} (hc : ∀ a v, w.cell? a = some v → w'.cell? a = some v) : ∀ {F : Fo} {b o : Nat}, FIn w F b o → FIn w' F b o
  | .nil, _, _, _ => trivial
  | .node _ _ _ _ _, _, _, ⟨h0, h1, ⟨a, c, b', o', h2, h3, h4, h5, h6⟩, h7⟩ => ⟨hc _ _ h0, hc _ _ h1, ⟨a, c, b', o', hc _ _ h2, h3, h4, h5, FIn.later hc h6⟩, FIn.later hc h7⟩

theorem SIn.later {w w' : World} (hc : ∀ a v, w.cell? a = some v → w'.cell? a = some v) {k : Fo} {v : Value} (h : SIn w k v) : SIn w' k v := by
  obtain ⟨a, c, b, o, rfl, h3, h4, h5, h6⟩ := h
  exact ⟨a, c, b, o, rfl, h3, h4, h5, FIn.later hc h6⟩

theorem grow_cell {w w' : World} (hb : Below w.heap.size w w') : ∀ a v, w.cell? a = some v → w'.cell? a = some v := by
  intro a v h
  rw [hb.cell (World.block_lt_of_cell? _ _ h)]; exact h

theorem SIn.below {w w' : World} (hb : Below w.heap.size w w') {k : Fo} {v : Value} (h : SIn w k v) : SIn w' k v := h.later (grow_cell hb)
theorem FIn.below {w w' : World} (hb : Below w.heap.size w w') {k : Fo} {b o : Nat} (h : FIn w k b o) : FIn w' k b o := FIn.later (grow_cell hb) h

/-- The terms of a forest, one after the other. -/
def Fo.list : Fo → List ((Bool × Int) × Fo)
  | .nil => []
  | .node _ _ x k r => (x, k) :: Fo.list r

theorem Fo.len_list : ∀ F : Fo, F.list.length = Fo.len F
  | .nil => rfl
  | .node _ _ _ _ r => by simp [Fo.list, Fo.len, Fo.len_list r]

/-- What holds of a term where it holds of its arguments holds of all. -/
theorem Fo.ind {p : Bool × Int → Fo → Prop} (h : ∀ x k, (∀ y ∈ k.list, p y.1 y.2) → p x k) : ∀ (F : Fo), ∀ y ∈ F.list, p y.1 y.2
  | .nil, y, hy => by simp [Fo.list] at hy
  | .node _ _ x k r, y, hy => by
    simp only [Fo.list, List.mem_cons] at hy
    rcases hy with rfl | hy
    · exact h x k (Fo.ind h k)
    · exact Fo.ind h r y hy

theorem Fo.ind1 {p : Bool × Int → Fo → Prop} (h : ∀ x k, (∀ y ∈ k.list, p y.1 y.2) → p x k) (x : Bool × Int) (k : Fo) : p x k := h x k (Fo.ind h k)

theorem FIn.at {w : World} : ∀ {F : Fo} {b o i : Nat} {x : Bool × Int} {k : Fo}, FIn w F b o → F.list[i]? = some (x, k) →
    w.cell? ⟨b, o + i * 3, none⟩ = some (.bool x.1) ∧ w.cell? ⟨b, o + i * 3 + 1, none⟩ = some (.int .i64 x.2) ∧ ∃ v, w.cell? ⟨b, o + i * 3 + 2, none⟩ = some v ∧ SIn w k v
  | .nil, _, _, _, _, _, _, h => by simp [Fo.list] at h
  | .node _ _ y k' r, b, o, 0, x, k, hF, h => by
    simp only [Fo.list, List.getElem?_cons_zero, Option.some.injEq, Prod.mk.injEq] at h
    obtain ⟨rfl, rfl⟩ := h
    obtain ⟨h0, h1, h2, _⟩ := hF.node
    simpa using ⟨h0, h1, h2⟩
  | .node _ _ y k' r, b, o, i + 1, x, k, hF, h => by
    simp only [Fo.list, List.getElem?_cons_succ] at h
    obtain ⟨_, _, _, h3⟩ := hF.node
    have := FIn.at h3 h
    have e : o + 3 + i * 3 = o + (i + 1) * 3 := by omega
    rwa [e] at this

/-- Behind a new block, and what came then, what was there is as it was. -/
theorem below_box {w w1 : World} {ob : Obj} (h : Below (w.alloc ob).heap.size (w.alloc ob) w1) : Below w.heap.size w w1 :=
  ((Below.refl w.heap.size w).alloc (Nat.le_refl _) ob).trans (h.mono (by simp))

theorem below_step {w w1 w2 : World} (h : Below w.heap.size w w1) (h2 : Below w1.heap.size w1 w2) : Below w.heap.size w w2 := h.trans (h2.mono h.size)

theorem below_alloc (w : World) (ob : Obj) : Below w.heap.size w (w.alloc ob) := (Below.refl _ _).alloc (Nat.le_refl _) ob

theorem SIn.alloc {w : World} {k : Fo} {v : Value} (h : SIn w k v) (ob : Obj) : SIn (w.alloc ob) k v := h.below (below_alloc w ob)
theorem FIn.alloc {w : World} {k : Fo} {b o : Nat} (h : FIn w k b o) (ob : Obj) : FIn (w.alloc ob) k b o := FIn.below (below_alloc w ob) h

/-- A term that was boxed, later: its three cells, and what was there. -/
theorem box_cells {w wr : World} {x y z : Value} {T : TypeId} (h : Below (w.heap.size + 1) (w.alloc (.cells #[x, y, z] T)) wr) :
    wr.cell? ⟨w.heap.size, 0, none⟩ = some x ∧ wr.cell? ⟨w.heap.size, 1, none⟩ = some y ∧ wr.cell? ⟨w.heap.size, 2, none⟩ = some z ∧ Below w.heap.size w wr ∧ w.heap.size < wr.heap.size := by
  refine ⟨?_, ?_, ?_, (below_alloc w _).trans (h.mono (by omega)), by have := h.size; simp at this; omega⟩
  · rw [h.cell (by simp)]; simp
  · rw [h.cell (by simp)]; simp
  · rw [h.cell (by simp)]; simp

set_option maxHeartbeats 400000 in
theorem arguments_any (v : Bool) (n : Int) (a : Value) (w : World) :
    Calls Tryd.prog 37 #[.agg #[.bool v, .int .i64 n, a]] w fun e w' => e = .returned (if v then .slice none 0 0 else a) ∧ Below w.heap.size w w' := by
  cases v
  · go_enter Tryd.func37, Tryd.ntmps37
    go_wp2
    go_ret
    exact ⟨rfl, (Below.refl _ _).alloc (Nat.le_refl _) _⟩
  · go_enter Tryd.func37, Tryd.ntmps37
    go_wp2
    go_ret
    exact ⟨rfl, (Below.refl _ _).alloc (Nat.le_refl _) _⟩

end Go.Proofs.YtegdfnfengnjlaaDoor
