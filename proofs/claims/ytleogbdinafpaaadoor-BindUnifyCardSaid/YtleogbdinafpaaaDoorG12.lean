/- What makes two terms the same: both rows of bind's Unify, step by step. -/
import Derived.Test.YtleogbdinafpaaaDoorG11
import Derived.Deep.LoopGhost
import Derived.Test.YtleogbdinafpaaaDoorG10
import Derived.Deep.RegionLaw
import Derived.Test.YtleogbdinafpaaaDoorG08
namespace Go.Proofs.YtleogbdinafpaaaDoor
open Go.RowKit Go.Deep Go.ChangeShapes Go.WideShapes

/-- All blocks but the two rows. -/
def XX (w : World) (v1 v2 : Value) : Nat → Prop := fun q => q < w.heap.size ∧ some q ≠ v1.ownBlock ∧ some q ≠ v2.ownBlock

theorem rows_differ {w : World} {lo lo' n m : Nat} {v1 v2 : Value} {xs ys : List Value} (h1 : w.ownsRow lo 52 4 v1 n xs) (h2 : w.ownsRow lo' 80 6 v2 m ys) : ∀ g, v1.ownBlock = some g → v2.ownBlock ≠ some g := by
  intro g e1 e2
  rcases h1.2 with ⟨rfl, _⟩ | ⟨g1, c1, cur1, rfl, _, hh1, _⟩
  · simp [Value.ownBlock] at e1
  · rcases h2.2 with ⟨rfl, _⟩ | ⟨g2, c2, cur2, rfl, _, hh2, _⟩
    · simp [Value.ownBlock] at e2
    · simp [Value.ownBlock] at e1 e2
      subst e1 e2
      rw [hh1] at hh2
      simp at hh2

/-- Both rows, as Unify has them. -/
structure Two (lo : Nat) (w : World) (s : Sb) (T : List (Tm × Tm)) (v1 v2 : Value) (xs ys : List Value) : Prop where
  sub : OwnS lo (XX w v1 v2) w s v1 xs
  cou : OwnC lo (XX w v1 v2) w T v2 ys

theorem Two.below {lo : Nat} {w w' : World} {s : Sb} {T : List (Tm × Tm)} {v1 v2 : Value} {xs ys : List Value} (h : Two lo w s T v1 v2 xs ys) (hb : Below w.heap.size w w') : Two lo w' s T v1 v2 xs ys := by
  have hs := hb.size
  refine ⟨(h.sub.below hb).wide (fun q hq => ⟨by have := hq.1; omega, hq.2⟩) (fun q hq => ⟨hq.1, hq.2.1⟩), (h.cou.below hb).wide (fun q hq => ⟨by have := hq.1; omega, hq.2⟩) (fun q hq => ⟨hq.1, hq.2.2⟩)⟩
theorem Two.xx {lo : Nat} {w w' : World} {s : Sb} {T : List (Tm × Tm)} {v1 v2 : Value} {xs ys : List Value} (_ : Two lo w s T v1 v2 xs ys) (hb : Below w.heap.size w w') {k : Fo} {a : Value} (hk : SB (XX w v1 v2) w k a) : SB (XX w' v1 v2) w' k a :=
  (hk.grow (fun _ hq => hq.1) hb).wide (fun _ hq => ⟨Nat.lt_of_lt_of_le hq.1 hb.size, hq.2⟩)
/-- What is new behind a call is in no row. -/
theorem Two.new {lo : Nat} {w w' : World} {s : Sb} {T : List (Tm × Tm)} {v1 v2 : Value} {xs ys : List Value} (h : Two lo w s T v1 v2 xs ys) {k : Fo} {a : Value} (hk : SB (fun q => w.heap.size ≤ q ∧ q < w'.heap.size) w' k a) : SB (XX w' v1 v2) w' k a :=
  hk.wide (fun q hq => ⟨hq.2, fun e => by have := (owns_at h.sub.row q e.symm).2; omega, fun e => by have := (owns_at h.cou.row q e.symm).2; omega⟩)

theorem two_add {lo : Nat} {wa w2 : World} {s s' : Sb} {T : List (Tm × Tm)} {v1 v1' v2 : Value} {xs xs' ys : List Value} (h : Two lo wa s T v1 v2 xs ys) (h1 : OwnS lo (Ex (XX wa v1 v2) wa w2 v1') w2 s' v1' xs') (hf : Fr wa w2 v1.ownBlock none) : Two lo w2 s' T v1' v2 xs' ys := by
  have hs := hf.size
  have hd := rows_differ h.sub.row h.cou.row
  have hrow : w2.ownsRow lo 80 6 v2 T.length ys := owns_keep h.cou.row (fun g hg => hf.block g (owns_at h.cou.row g hg).2 (fun e => hd g e.symm hg) (by simp))
  refine ⟨h1.wide (fun q hq => ?_) (fun q hq => ⟨hq.1, hq.2.1⟩), ⟨hrow, ?_, fun q hq => ⟨hq.1, hq.2.2⟩⟩⟩
  · have h2 := h1.off q hq
    refine ⟨h2.1, h2.2, fun e => ?_⟩
    rcases hq with hq | hq
    · exact hq.2.2 e
    · have := (owns_at h.cou.row q e.symm).2; omega
  · refine h.cou.cells.frame (fun q hq => ⟨by have := hq.1; omega, ?_, hq.2.2⟩) (fun q i hq => World.cell?_of_block (hf.block q hq.1 hq.2.1 (by simp)))
    exact fun e => (h1.off q (.inl hq)).2 e
theorem two_args {lo : Nat} {wa w2 : World} {s : Sb} {T T' : List (Tm × Tm)} {v1 v2 v2' : Value} {xs ys ys' : List Value} (h : Two lo wa s T v1 v2 xs ys) (h1 : OwnC lo (Ex (XX wa v1 v2) wa w2 v2') w2 T' v2' ys') (hf : Fr wa w2 v2.ownBlock none) : Two lo w2 s T' v1 v2' xs ys' := by
  have hs := hf.size
  have hd := rows_differ h.sub.row h.cou.row
  have hrow : w2.ownsRow lo 52 4 v1 s.length xs := owns_keep h.sub.row (fun g hg => hf.block g (owns_at h.sub.row g hg).2 (fun e => hd g hg e.symm) (by simp))
  refine ⟨⟨hrow, ?_, fun q hq => ⟨hq.1, hq.2.1⟩⟩, h1.wide (fun q hq => ?_) (fun q hq => ⟨hq.1, hq.2.2⟩)⟩
  · refine h.sub.cells.frame (fun q hq => ⟨by have := hq.1; omega, hq.2.1, ?_⟩) (fun q i hq => World.cell?_of_block (hf.block q hq.1 hq.2.2 (by simp)))
    exact fun e => (h1.off q (.inl hq)).2 e
  · have h2 := h1.off q hq
    refine ⟨h2.1, fun e => ?_, h2.2⟩
    rcases hq with hq | hq
    · exact hq.2.1 e
    · have := (owns_at h.sub.row q e.symm).2; omega

/-- The last couple is taken away. -/
theorem two_pop {lo : Nat} {w : World} {s : Sb} {T : List (Tm × Tm)} {p : Tm × Tm} {v1 : Value} {g cap : Nat} {xs ys : List Value} (h : Two lo w s (T ++ [p]) v1 (.slice (some ⟨g, 0, none⟩) (T.length + 1) cap) xs ys) :
    ∃ ys' a b, Two lo w s T v1 (.slice (some ⟨g, 0, none⟩) T.length cap) xs ys' ∧ SB (XX w v1 (.slice (some ⟨g, 0, none⟩) T.length cap)) w p.1.2 a ∧ SB (XX w v1 (.slice (some ⟨g, 0, none⟩) T.length cap)) w p.2.2 b ∧
      w.cell? ⟨g, T.length * 6, none⟩ = some (.bool p.1.1.1) ∧ w.cell? ⟨g, T.length * 6 + 1, none⟩ = some (.int .i64 p.1.1.2) ∧ w.cell? ⟨g, T.length * 6 + 2, none⟩ = some a ∧ w.cell? ⟨g, T.length * 6 + 3, none⟩ = some (.bool p.2.1.1) ∧ w.cell? ⟨g, T.length * 6 + 4, none⟩ = some (.int .i64 p.2.1.2) ∧ w.cell? ⟨g, T.length * 6 + 5, none⟩ = some b := by
  have hrow := h.cou.row
  rw [List.length_append, List.length_singleton] at hrow
  obtain ⟨ys', zs, rfl, h1, a, b, us, rfl, h2, h3, h4⟩ := CC.split h.cou.cells
  rw [CC] at h4
  subst h4
  have hl := h1.len
  have hc : ∀ i v, i < 6 → [Value.bool p.1.1.1, .int .i64 p.1.1.2, a, .bool p.2.1.1, .int .i64 p.2.1.2, b][i]? = some v → w.cell? ⟨g, T.length * 6 + i, none⟩ = some v := fun i v hi hv => by
    rw [hrow.cellAt (T.length * 6 + i) (by omega), List.getElem?_append_right (by omega), ← hv]
    congr 1
    omega
  refine ⟨ys', a, b, ⟨⟨h.sub.row, h.sub.cells, h.sub.off⟩, ⟨ownsRow_pop hl hrow, h1, h.cou.off⟩⟩, h2, h3, hc 0 _ (by omega) rfl, hc 1 _ (by omega) rfl, hc 2 _ (by omega) rfl, hc 3 _ (by omega) rfl, hc 4 _ (by omega) rfl, hc 5 _ (by omega) rfl⟩

/-- Where a pair's term lies. -/
theorem ownS_at {lo : Nat} {X : Nat → Prop} {w : World} {s : Sb} {v : Value} {xs : List Value} (h : OwnS lo X w s v xs) : ∀ (i : Nat) (p : Int × Tm) (c b o : Nat), v = .slice (some ⟨b, o, none⟩) s.length c → s[i]? = some p → ∃ u, w.cell? ⟨b, o + i * 4 + 3, none⟩ = some u ∧ SB X w p.2.2 u := by
  intro i p c b o e hi
  subst e
  have hrow := h.row
  have hil : i < s.length := by
    rcases Nat.lt_or_ge i s.length with h' | h'
    · exact h'
    · rw [List.getElem?_eq_none h'] at hi; cases hi
  obtain ⟨_, _, _, a, d3, hS⟩ := h.cells.cellsAt hi
  rcases hrow.2 with ⟨e, _⟩ | ⟨g, cap, cur, e, _⟩
  · cases e
  · simp only [Value.slice.injEq, Option.some.injEq, Addr.mk.injEq, true_and, and_true] at e
    obtain ⟨⟨rfl, rfl⟩, rfl⟩ := e
    refine ⟨a, ?_, hS⟩
    rw [Nat.zero_add, hrow.cellAt (i * 4 + 3) (by omega)]
    exact d3

theorem pop_run {n c g : Nat} (hc : n + 1 ≤ c) (w : World) : (Instr.slice 81 (.slice (some ⟨g, 0, none⟩) (n + 1) c) none (some (.int .i64 (n : Int))) none).run Tryd.prog w = .ok (.slice (some ⟨g, 0, none⟩) n c) w := by
  rw [run_slice_h (ht := by kernel_rfl) (h0 := by omega) (h2 := by omega)]
  have e : (sizeOf (Tryd.prog.elem 81)).run Tryd.prog w = .ok 6 w := by
    rw [show Tryd.prog.elem 81 = 80 by kernel_rfl]
    simp [go_sem]
  simp only [Result.andThen, sliced, e]
  simp [Addr.add]

theorem nodup_len : ∀ {l m : List Int}, l.Nodup → (∀ x ∈ l, x ∈ m) → l.length ≤ m.length
  | [], _, _, _ => Nat.zero_le _
  | x :: l, m, hn, hm => by
    have hx : x ∈ m := hm x (by simp)
    rw [List.nodup_cons] at hn
    have ih := nodup_len (l := l) (m := m.erase x) hn.2 (fun y hy => (List.mem_erase_of_ne (fun (e : y = x) => hn.1 (e ▸ hy))).2 (hm y (by simp [hy])))
    rw [List.length_erase_of_mem hx] at ih
    have := List.length_pos_of_mem hx
    simp only [List.length_cons]
    omega
theorem gd_vars {t : Tm} (h : Gd t) : (varsT t.1 t.2 []).length ≤ 5 := by
  have hn : (varsT t.1 t.2 []).Nodup := by
    unfold varsT
    split
    · simp [hasB]
    · exact varsF_nodup (by simp)
  have := nodup_len (m := [0, 1, 2, 3, 4]) hn (fun x hx => by
    have := h.few x (occ_varsT.1 hx)
    have e : x = 0 ∨ x = 1 ∨ x = 2 ∨ x = 3 ∨ x = 4 := by omega
    rcases e with rfl | rfl | rfl | rfl | rfl <;> simp)
  exact this

end Go.Proofs.YtleogbdinafpaaaDoor

/- What makes two terms the same: bind's Unify. -/
namespace Go.Proofs.YtleogbdinafpaaaDoor
open Go.RowKit Go.Deep Go.ChangeShapes Go.WideShapes
attribute [local go_sem ↓] Go.wp_at_zero Go.wp_at_succ

def UniPost (w : World) (R : Option Sb) (e : Ending) (w' : World) : Prop :=
  Below w.heap.size w w' ∧ ∃ (z1 : Option Addr) (m z3 : Nat) (ok : Bool), e = .returned (.tuple #[.slice z1 m z3, .bool ok]) ∧ (ok = false → R = none ∧ z1 = none ∧ m = 0 ∧ z3 = 0) ∧ (ok = true → ∃ s', R = some s' ∧ m = s'.length ∧ SubIn w' s' (.slice z1 m z3))

theorem uni_start {w W2 : World} {x y : Bool × Int} {k l : Fo} {a c : Value} (hB : Below w.heap.size w W2) (hS : SIn w k a) (hU : SIn w l c) (hs : w.heap.size + 1 + 1 = W2.heap.size) :
    Two w.heap.size (W2.alloc (.cells #[.bool x.1, .int .i64 x.2, a, .bool y.1, .int .i64 y.2, c] 80)) [] [((x, k), (y, l))] (.slice none 0 0) (.slice (some ⟨w.heap.size + 1 + 1, 0, none⟩) 1 1) [] [.bool x.1, .int .i64 x.2, a, .bool y.1, .int .i64 y.2, c] := by
  have hb3 : Below w.heap.size w (W2.alloc (.cells #[.bool x.1, .int .i64 x.2, a, .bool y.1, .int .i64 y.2, c] 80)) := hB.alloc hB.size _
  have hsz := hB.size
  have hw : ∀ q, q < w.heap.size → XX (W2.alloc (.cells #[.bool x.1, .int .i64 x.2, a, .bool y.1, .int .i64 y.2, c] 80)) (.slice none 0 0) (.slice (some ⟨w.heap.size + 1 + 1, 0, none⟩) 1 1) q := fun q hq => by
    refine ⟨by simp; omega, by simp [Value.ownBlock], ?_⟩
    intro e
    simp [Value.ownBlock] at e
    omega
  refine ⟨⟨World.ownsRow_nil _ _ _ _, rfl, fun q hq => ⟨hq.1, hq.2.1⟩⟩, ⟨?_, ?_, fun q hq => ⟨hq.1, hq.2.2⟩⟩⟩
  · have := World.ownsRow_lit (base := w.heap.size) (e := 80) (size := 6) W2 #[.bool x.1, .int .i64 x.2, a, .bool y.1, .int .i64 y.2, c] 1 hsz (by decide) rfl
    rw [← hs] at this
    exact this
  · exact CC.one (p := ((x, k), (y, l))) ((hS.toB.grow (fun _ h => h) hb3).wide hw) ((hU.toB.grow (fun _ h => h) hb3).wide hw)

/-- Boxes that were made ahead of a call, behind it. -/
def Bx (w : World) (q : Nat) : Prop := (∃ x, w.cell? ⟨q, 0, none⟩ = some x) ∧ (∃ x, w.cell? ⟨q, 1, none⟩ = some x) ∧ (∃ x, w.cell? ⟨q, 2, none⟩ = some x) ∧ ∀ i, w.frozen? ⟨q, i, none⟩ = false
theorem box1 {W w1 : World} {x y z : Value} (h : Below (W.alloc (.cells #[x, y, z] 26)).heap.size (W.alloc (.cells #[x, y, z] 26)) w1) : w1.cell? ⟨W.heap.size, 0, none⟩ = some x ∧ w1.cell? ⟨W.heap.size, 1, none⟩ = some y ∧ w1.cell? ⟨W.heap.size, 2, none⟩ = some z ∧ (∀ i, w1.frozen? ⟨W.heap.size, i, none⟩ = false) ∧ W.heap.size < w1.heap.size := by
  obtain ⟨a, b, c, d, _, e⟩ := box_full h
  exact ⟨a, b, c, d, e⟩
theorem box1d {W w1 : World} {x y z : Value} (h : Below (W.alloc (.cells #[x, y, z] 26)).drew.heap.size (W.alloc (.cells #[x, y, z] 26)).drew w1) : w1.cell? ⟨W.heap.size, 0, none⟩ = some x ∧ w1.cell? ⟨W.heap.size, 1, none⟩ = some y ∧ w1.cell? ⟨W.heap.size, 2, none⟩ = some z ∧ (∀ i, w1.frozen? ⟨W.heap.size, i, none⟩ = false) ∧ W.heap.size < w1.heap.size :=
  box1 ((Below.refl _ _).drew.trans h)
theorem box2 {W w1 : World} {x y z x' y' z' : Value} (h : Below ((W.alloc (.cells #[x, y, z] 26)).alloc (.cells #[x', y', z'] 26)).heap.size ((W.alloc (.cells #[x, y, z] 26)).alloc (.cells #[x', y', z'] 26)) w1) :
    (w1.cell? ⟨W.heap.size, 0, none⟩ = some x ∧ w1.cell? ⟨W.heap.size, 1, none⟩ = some y ∧ w1.cell? ⟨W.heap.size, 2, none⟩ = some z ∧ (∀ i, w1.frozen? ⟨W.heap.size, i, none⟩ = false)) ∧
    (w1.cell? ⟨W.heap.size + 1, 0, none⟩ = some x' ∧ w1.cell? ⟨W.heap.size + 1, 1, none⟩ = some y' ∧ w1.cell? ⟨W.heap.size + 1, 2, none⟩ = some z' ∧ (∀ i, w1.frozen? ⟨W.heap.size + 1, i, none⟩ = false)) ∧ W.heap.size + 1 < w1.heap.size := by
  obtain ⟨a, b, c, d, e1, e2⟩ := box_full h
  obtain ⟨a', b', c', d', _, _⟩ := box_full e1
  rw [World.size_alloc] at a b c d e2
  exact ⟨⟨a', b', c', d'⟩, ⟨a, b, c, d⟩, e2⟩
theorem box2d {W w1 : World} {x y z x' y' z' : Value} (h : Below ((W.alloc (.cells #[x, y, z] 26)).alloc (.cells #[x', y', z'] 26)).drew.heap.size ((W.alloc (.cells #[x, y, z] 26)).alloc (.cells #[x', y', z'] 26)).drew w1) :
    (w1.cell? ⟨W.heap.size, 0, none⟩ = some x ∧ w1.cell? ⟨W.heap.size, 1, none⟩ = some y ∧ w1.cell? ⟨W.heap.size, 2, none⟩ = some z ∧ (∀ i, w1.frozen? ⟨W.heap.size, i, none⟩ = false)) ∧
    (w1.cell? ⟨W.heap.size + 1, 0, none⟩ = some x' ∧ w1.cell? ⟨W.heap.size + 1, 1, none⟩ = some y' ∧ w1.cell? ⟨W.heap.size + 1, 2, none⟩ = some z' ∧ (∀ i, w1.frozen? ⟨W.heap.size + 1, i, none⟩ = false)) ∧ W.heap.size + 1 < w1.heap.size :=
  box2 ((Below.refl _ _).drew.trans h)

theorem thus {p q : Prop} (h : p) (k : p → q) : q := k h

/-- A box's three cells. -/
def C3 (w : World) (b : Nat) (x y z : Value) : Prop := w.cell? ⟨b, 0, none⟩ = some x ∧ w.cell? ⟨b, 1, none⟩ = some y ∧ w.cell? ⟨b, 2, none⟩ = some z
theorem fin0 {wn W : World} {x y z x' y' z' : Value} (h : Below wn.heap.size wn W) : C3 ((W.alloc (.cells #[x, y, z] 26)).alloc (.cells #[x', y', z'] 26)) W.heap.size x y z ∧ C3 ((W.alloc (.cells #[x, y, z] 26)).alloc (.cells #[x', y', z'] 26)) (W.heap.size + 1) x' y' z' ∧ Below wn.heap.size wn ((W.alloc (.cells #[x, y, z] 26)).alloc (.cells #[x', y', z'] 26)) := by
  have hs := h.size
  refine ⟨⟨?_, ?_, ?_⟩, ⟨new_cell (World.size_alloc _ _), new_cell (World.size_alloc _ _), new_cell (World.size_alloc _ _)⟩, (h.alloc hs _).alloc (by simp; omega) _⟩
  · rw [World.cell?_alloc_lt _ _ _ (by simp)]; exact new_cell rfl
  · rw [World.cell?_alloc_lt _ _ _ (by simp)]; exact new_cell rfl
  · rw [World.cell?_alloc_lt _ _ _ (by simp)]; exact new_cell rfl
theorem fin1 {wn W : World} {b : Nat} {x y z x' y' z' u0 u1 u2 : Value} (h : Below wn.heap.size wn W) (hb : wn.heap.size ≤ b) (h0 : W.cell? ⟨b, 0, none⟩ = some u0) (h1 : W.cell? ⟨b, 1, none⟩ = some u1) (h2 : W.cell? ⟨b, 2, none⟩ = some u2) :
    C3 ((((W.setCell ⟨b, 0, none⟩ x).setCell ⟨b, 1, none⟩ y).setCell ⟨b, 2, none⟩ z).alloc (.cells #[x', y', z'] 26)) b x y z ∧ C3 ((((W.setCell ⟨b, 0, none⟩ x).setCell ⟨b, 1, none⟩ y).setCell ⟨b, 2, none⟩ z).alloc (.cells #[x', y', z'] 26)) W.heap.size x' y' z' ∧ Below wn.heap.size wn ((((W.setCell ⟨b, 0, none⟩ x).setCell ⟨b, 1, none⟩ y).setCell ⟨b, 2, none⟩ z).alloc (.cells #[x', y', z'] 26)) := by
  have hs := h.size
  have hbl : b < W.heap.size := World.block_lt_of_cell? _ _ h0
  have hsz : (set3 W b 0 x y z).heap.size = W.heap.size := set3_size
  obtain ⟨g0, g1, g2⟩ := set3_cells (x := x) (y := y) (z := z) (o := 0) h0 h1 h2
  have e : (((W.setCell ⟨b, 0, none⟩ x).setCell ⟨b, 1, none⟩ y).setCell ⟨b, 2, none⟩ z) = set3 W b 0 x y z := rfl
  rw [e]
  refine ⟨⟨?_, ?_, ?_⟩, ⟨new_cell hsz, new_cell hsz, new_cell hsz⟩, (set3_below (o := 0) h hb).alloc (by rw [hsz]; exact hs) _⟩
  · rw [World.cell?_alloc_lt _ _ _ (by rw [hsz]; exact hbl)]; exact g0
  · rw [World.cell?_alloc_lt _ _ _ (by rw [hsz]; exact hbl)]; exact g1
  · rw [World.cell?_alloc_lt _ _ _ (by rw [hsz]; exact hbl)]; exact g2
theorem fin2 {wn W : World} {b d : Nat} {x y z x' y' z' u0 u1 u2 t0 t1 t2 : Value} (h : Below wn.heap.size wn W) (hb : wn.heap.size ≤ b) (hd : wn.heap.size ≤ d) (hn : b ≠ d) (h0 : W.cell? ⟨b, 0, none⟩ = some u0) (h1 : W.cell? ⟨b, 1, none⟩ = some u1) (h2 : W.cell? ⟨b, 2, none⟩ = some u2) (k0 : W.cell? ⟨d, 0, none⟩ = some t0) (k1 : W.cell? ⟨d, 1, none⟩ = some t1) (k2 : W.cell? ⟨d, 2, none⟩ = some t2) :
    C3 ((((((W.setCell ⟨b, 0, none⟩ x).setCell ⟨b, 1, none⟩ y).setCell ⟨b, 2, none⟩ z).setCell ⟨d, 0, none⟩ x').setCell ⟨d, 1, none⟩ y').setCell ⟨d, 2, none⟩ z') b x y z ∧ C3 ((((((W.setCell ⟨b, 0, none⟩ x).setCell ⟨b, 1, none⟩ y).setCell ⟨b, 2, none⟩ z).setCell ⟨d, 0, none⟩ x').setCell ⟨d, 1, none⟩ y').setCell ⟨d, 2, none⟩ z') d x' y' z' ∧ Below wn.heap.size wn ((((((W.setCell ⟨b, 0, none⟩ x).setCell ⟨b, 1, none⟩ y).setCell ⟨b, 2, none⟩ z).setCell ⟨d, 0, none⟩ x').setCell ⟨d, 1, none⟩ y').setCell ⟨d, 2, none⟩ z') := by
  obtain ⟨g0, g1, g2⟩ := set3_cells (x := x) (y := y) (z := z) (o := 0) h0 h1 h2
  have m0 : (set3 W b 0 x y z).cell? ⟨d, 0, none⟩ = some t0 := (set3_other (.inl (Ne.symm hn))).trans k0
  have m1 : (set3 W b 0 x y z).cell? ⟨d, 1, none⟩ = some t1 := (set3_other (.inl (Ne.symm hn))).trans k1
  have m2 : (set3 W b 0 x y z).cell? ⟨d, 2, none⟩ = some t2 := (set3_other (.inl (Ne.symm hn))).trans k2
  obtain ⟨l0, l1, l2⟩ := set3_cells (x := x') (y := y') (z := z') (o := 0) m0 m1 m2
  exact ⟨⟨(set3_other (o := 0) (.inl hn)).trans g0, (set3_other (o := 0) (.inl hn)).trans g1, (set3_other (o := 0) (.inl hn)).trans g2⟩, ⟨l0, l1, l2⟩, set3_below (o := 0) (set3_below (o := 0) h hb) hd⟩
theorem swap3 {p q r : Prop} (h : p ∧ q ∧ r) : q ∧ p ∧ r := ⟨h.2.1, h.1, h.2.2⟩

/-- What outermost answers, whenever it is called. -/
theorem top_call {lo : Nat} {wn : World} {s : Sb} {T : List (Tm × Tm)} {s1 : Option Addr} {s3 : Nat} {v2 : Value} {xs ys : List Value} {p z : Bool × Int} {k zk : Fo} {a1 : Option Addr} {a3 : Nat} (hT : Two lo wn s T (.slice s1 s.length s3) v2 xs ys) (hk : SB (XX wn (.slice s1 s.length s3) v2) wn k (.slice a1 (Fo.len k) a3)) (hz : (z, zk) = top s (p, k)) (w' : World) (hb : Below wn.heap.size wn w') :
    Calls Tryd.prog 56 #[.slice s1 s.length s3, .agg #[.bool p.1, .int .i64 p.2, .slice a1 (Fo.len k) a3]] w' fun e w'' => ∃ (x1 : Option Addr) (x3 : Nat), e = .returned (.agg #[.bool z.1, .int .i64 z.2, .slice x1 (Fo.len zk) x3]) ∧ SB (XX wn (.slice s1 s.length s3) v2) wn zk (.slice x1 (Fo.len zk) x3) ∧ Below w'.heap.size w' w'' := by
  have hO := hT.sub.below hb
  refine (outermost_any (XX wn (.slice s1 s.length s3) v2) s _ p k _ w' (fun q hq => Nat.lt_of_lt_of_le hq.1 hb.size) hO.sub (fun i q v b o e hi => ownS_at hO i q v b o e hi) (hk.grow (fun _ hq => hq.1) hb)).mono ?_
  rintro e w'' ⟨x1, x2, x3, rfl, hS, hb2⟩
  rw [← hz] at hS ⊢
  have hS' := hS
  obtain ⟨_, _, _, _, e, _⟩ := hS'
  simp only [Value.slice.injEq] at e
  obtain ⟨rfl, rfl, rfl⟩ := e
  exact ⟨_, _, rfl, hS.shrink (fun _ hq => hq.1) (below_step hb hb2), hb2⟩

theorem stepU_same {s : Sb} {a b x y : Tm} {L : List (Tm × Tm)} (hx : x = top s a) (hy : y = top s b) (h1 : x.1.1 = true) (h2 : y.1.1 = true) (h3 : x.1.2 = y.1.2) : stepU s a b L = some (s, L) := by
  subst hx hy
  unfold stepU
  rw [if_pos ⟨h1, h2, h3⟩]
theorem stepU_x {s : Sb} {a b x y : Tm} {L : List (Tm × Tm)} (hx : x = top s a) (hy : y = top s b) (h1 : x.1.1 = true) (h2 : ¬ (y.1.1 = true ∧ x.1.2 = y.1.2)) : stepU s a b L = (addS s x.1.2 (subT (bnd s) y)).map fun s' => (s', L) := by
  subst hx hy
  unfold stepU
  rw [if_neg (fun h => h2 h.2), if_pos h1]
theorem stepU_y {s : Sb} {a b x y : Tm} {L : List (Tm × Tm)} (hx : x = top s a) (hy : y = top s b) (h1 : x.1.1 = false) (h2 : y.1.1 = true) : stepU s a b L = (addS s y.1.2 (subT (bnd s) x)).map fun s' => (s', L) := by
  subst hx hy
  unfold stepU
  rw [if_neg (fun h => by rw [h1] at h; exact absurd h.1 (by decide)), if_neg (by rw [h1]; decide), if_pos h2]
theorem stepU_args {s : Sb} {a b x y : Tm} {L : List (Tm × Tm)} (hx : x = top s a) (hy : y = top s b) (h1 : x.1.1 = false) (h2 : y.1.1 = false) (h3 : x.1.2 = y.1.2) (h4 : Fo.len x.2 = Fo.len y.2) : stepU s a b L = some (s, x.2.list.zip y.2.list ++ L) := by
  subst hx hy
  unfold stepU
  rw [if_neg (fun h => by rw [h1] at h; exact absurd h.1 (by decide)), if_neg (by rw [h1]; decide), if_neg (by rw [h2]; decide), if_pos ⟨h3, h4⟩]
theorem stepU_bad {s : Sb} {a b x y : Tm} {L : List (Tm × Tm)} (hx : x = top s a) (hy : y = top s b) (h1 : x.1.1 = false) (h2 : y.1.1 = false) (h3 : ¬ (x.1.2 = y.1.2 ∧ Fo.len x.2 = Fo.len y.2)) : stepU s a b L = none := by
  subst hx hy
  unfold stepU
  rw [if_neg (fun h => by rw [h1] at h; exact absurd h.1 (by decide)), if_neg (by rw [h1]; decide), if_neg (by rw [h2]; decide), if_neg h3]
/-- One step of the run. -/
theorem run_on {m : Nat} {s s' : Sb} {p : Tm × Tm} {L L' : List (Tm × Tm)} {R : Option Sb} (hI : UI s (p :: L)) (hR : runU (m + 1) s (p :: L) = some R) (h : stepU s p.1 p.2 L = some (s', L')) : UI s' L' ∧ runU m s' L' = some R := by
  refine ⟨(step_keeps hI h).1, ?_⟩
  simpa [runU, h] using hR
theorem run_no {m : Nat} {s : Sb} {p : Tm × Tm} {L : List (Tm × Tm)} {R : Option Sb} (hR : runU (m + 1) s (p :: L) = some R) (h : stepU s p.1 p.2 L = none) : R = none := by
  simpa [runU, h] using hR.symm
theorem uni_no {w w' : World} {R : Option Sb} (hb : Below w.heap.size w w') (h : R = none) : UniPost w R (.returned (.tuple #[.slice none 0 0, .bool false])) w' := ⟨hb, none, 0, 0, false, rfl, fun _ => ⟨h, rfl, rfl, rfl⟩, fun e => by cases e⟩

/-- Apply and then add, as Unify calls them. -/
theorem uni_apply {lo : Nat} {wx w' : World} {s : Sb} {T : List (Tm × Tm)} {s1 : Option Addr} {s3 : Nat} {v2 : Value} {xs ys : List Value} {y t : Bool × Int} {yk tk : Fo} {y1 : Option Addr} {y3 : Nat} (hT : Two lo wx s T (.slice s1 s.length s3) v2 xs ys) (hs : ∀ p ∈ s, Gd p.2) (hk : SB (XX wx (.slice s1 s.length s3) v2) wx yk (.slice y1 (Fo.len yk) y3)) (hg : Gd (y, yk)) (ht : (t, tk) = subT (bnd s) (y, yk)) (hb : Below wx.heap.size wx w') :
    Calls Tryd.prog 35 #[.slice s1 s.length s3, .agg #[.bool y.1, .int .i64 y.2, .slice y1 (Fo.len yk) y3]] w' fun e w1 => ∃ (a1 : Option Addr) (a3 : Nat), e = .returned (.agg #[.bool t.1, .int .i64 t.2, .slice a1 (Fo.len tk) a3]) ∧ Two lo w1 s T (.slice s1 s.length s3) v2 xs ys ∧ SB (XX w1 (.slice s1 s.length s3) v2) w1 tk (.slice a1 (Fo.len tk) a3) ∧ Below wx.heap.size wx w1 := by
  have hT' := hT.below hb
  refine (apply_any s _ y yk _ w' hT'.sub.sub (fun p hp => ⟨(hs p hp).nar, (hs p hp).ok⟩) (hk.toS.below hb) hg.nar).mono ?_
  rintro e w1 ⟨a', rfl, hO, hb1⟩
  rw [← ht] at hO ⊢
  have hS := hO.toS
  obtain ⟨a1, a3, _, _, rfl, _⟩ := hS
  exact ⟨a1, a3, rfl, hT'.below hb1, hT'.new (hO.toB (fun q q1 q2 => ⟨q1, q2⟩)), below_step hb hb1⟩
theorem uni_add {w w1 : World} {s : Sb} {T : List (Tm × Tm)} {s1 : Option Addr} {s3 : Nat} {v2 : Value} {xs ys : List Value} {t : Bool × Int} {tk : Fo} {a1 : Option Addr} {a3 : Nat} (n : Int) (hw : Below w.heap.size w w1) (hT : Two w.heap.size w1 s T (.slice s1 s.length s3) v2 xs ys) (hs : ∀ p ∈ s, Gd p.2) (hl : s.length ≤ 5) (hk : SB (XX w1 (.slice s1 s.length s3) v2) w1 tk (.slice a1 (Fo.len tk) a3)) (hg : Gd (t, tk)) :
    Calls Tryd.prog 57 #[.slice s1 s.length s3, .int .i64 n, .agg #[.bool t.1, .int .i64 t.2, .slice a1 (Fo.len tk) a3]] w1 fun e w2 => ∃ (z1 : Option Addr) (m z3 : Nat) (ok : Bool), e = .returned (.tuple #[.slice z1 m z3, .bool ok]) ∧ Below w.heap.size w w2 ∧ (ok = false → addS s n (t, tk) = none) ∧
      (ok = true → ∃ s' xs', addS s n (t, tk) = some s' ∧ m = s'.length ∧ Two w.heap.size w2 s' T (.slice z1 m z3) v2 xs' ys) := by
  have hv := gd_vars hg
  refine (addB_any w.heap.size (XX w1 (.slice s1 s.length s3) v2) s _ xs n t tk _ w1 hT.sub hw.size hk (fun p hp => ⟨(hs p hp).nar, (hs p hp).ok⟩) hg.ok hg.nar (by simp only at hv; omega) (by omega)).mono ?_
  rintro e w2 ⟨hf, z1, m, z3, ok, rfl, hno, hyes⟩
  refine ⟨z1, m, z3, ok, rfl, hw.trans (hf.below hw.size (fun g hg => (owns_at hT.sub.row g hg).1) (fun g hg => by cases hg)), hno, fun e => ?_⟩
  obtain ⟨s', xs', h1, h2, h3, _⟩ := hyes e
  exact ⟨s', xs', h1, h2, two_add hT h3 hf⟩

set_option maxRecDepth 100000 in
set_option maxHeartbeats 4000000 in
theorem unify_any (x : Bool × Int) (k : Fo) (a : Value) (y : Bool × Int) (l : Fo) (c : Value) (w : World) (n : Nat) (R : Option Sb) (hr : runU n [] [((x, k), (y, l))] = some R) (hUI : UI [] [((x, k), (y, l))]) (hS : SIn w k a) (hU : SIn w l c) :
    Calls Tryd.prog 34 #[.agg #[.bool x.1, .int .i64 x.2, a], .agg #[.bool y.1, .int .i64 y.2, c]] w (UniPost w R) := by
  obtain ⟨xv, xn⟩ := x
  obtain ⟨yv, yn⟩ := y
  have HS := hide hS
  have HU := hide hU
  have Hr := hide hr
  have HUI := hide hUI
  obtain ⟨ad, ac, b, o, rfl, -, -, -, -⟩ := hS
  obtain ⟨ud, uc, ub, uo, rfl, -, -, -, -⟩ := hU
  clear hr hUI
  go_enter Tryd.func34, Tryd.ntmps34
  go_wp2_with fail
  generalize hW2 : (w.alloc (.cells #[.bool xv, .int .i64 xn, .slice ad (Fo.len k) ac] 26)).alloc (.cells #[.bool yv, .int .i64 yn, .slice ud (Fo.len l) uc] 26) = W2
  have hB2 : Below w.heap.size w W2 := by rw [← hW2]; exact (below_alloc _ _).alloc (by simp) _
  have hs2 : w.heap.size + 1 + 1 = W2.heap.size := by rw [← hW2]; simp
  have H0 := hide (uni_start (x := (xv, xn)) (y := (yv, yn)) hB2 HS.out HU.out hs2)
  have HB3 : Hid (Below w.heap.size w (W2.alloc (.cells #[.bool xv, .int .i64 xn, .slice ad (Fo.len k) ac, .bool yv, .int .i64 yn, .slice ud (Fo.len l) uc] 80))) := hB2.alloc hB2.size _
  clear hW2 hB2 hs2
  go_loopg [6, 7] n (fun m vs vt wr => ∃ (s : Sb) (T : List (Tm × Tm)) (s1 : Option Addr) (s3 : Nat) (t1 : Option Addr) (t3 : Nat) (xs ys : List Value), vs = .slice s1 s.length s3 ∧ vt = .slice t1 T.length t3 ∧ UI s T.reverse ∧ runU m s T.reverse = some R ∧ Two w.heap.size wr s T (.slice s1 s.length s3) (.slice t1 T.length t3) xs ys ∧ Below w.heap.size w wr)
  case atStart =>
    exact ⟨[], [(((xv, xn), k), ((yv, yn), l))], none, 0, some ⟨w.heap.size + 1 + 1, 0, none⟩, 1, [], _, rfl, rfl, HUI.out, Hr.out, H0.out, HB3.out⟩
  case round =>
    obtain ⟨s, T, s1, s3, t1, t3, xs, ys, rfl, rfl, hI, hR, hTwo, hBw⟩ := hrel
    have HTwo := hide hTwo
    have HI := hide hI
    have HR := hide hR
    clear H0 HB3 hTwo hI hR
    rcases List.eq_nil_or_concat T with rfl | ⟨T', p, rfl⟩
    · have Hfin : Hid (UniPost w R (.returned (.tuple #[.slice s1 s.length s3, .bool true])) wr) := by
        refine ⟨hBw, s1, s.length, s3, true, rfl, fun e => by (cases e), fun _ => ⟨s, ?_, rfl, HTwo.out.sub.sub⟩⟩
        have := HR.out
        cases gk with
        | zero => simp [runU] at this
        | succ m => simpa [runU] using this.symm
      go_wp2_with fail
      go_ret2
      exact Hfin.out
    · have hrev : (T' ++ [p]).reverse = p :: T'.reverse := by simp
      rw [List.concat_eq_append] at *
      have hll : (T' ++ [p]).length = T'.length + 1 := by simp
      rw [hll] at HTwo
      rw [hll]
      rw [hrev] at HI HR
      obtain ⟨g, hg⟩ : ∃ g, t1 = some ⟨g, 0, none⟩ := by
        rcases HTwo.out.cou.row.2 with ⟨_, h0⟩ | ⟨g, cap, cur, e, _⟩
        · simp at h0
        · simp only [Value.slice.injEq] at e
          exact ⟨g, e.1⟩
      subst hg
      have hcap : T'.length + 1 ≤ t3 := by
        rcases HTwo.out.cou.row.2 with ⟨e, _⟩ | ⟨g', cap, cur, e, _, _, h1, _⟩
        · cases e
        · simp only [Value.slice.injEq] at e
          simp only [List.length_append, List.length_singleton] at h1
          omega
      have hcap2 : t3 ≤ 2 ^ 63 - 1 := by
        rcases HTwo.out.cou.row.2 with ⟨e, _⟩ | ⟨g', cap, cur, e, _, _, _, h1, _⟩
        · cases e
        · simp only [Value.slice.injEq] at e
          unfold maxLen at h1
          omega
      obtain ⟨ys', pa, pb, hT2, hSa, hSb, c0, c1, c2, c3, c4, c5⟩ := two_pop HTwo.out
      obtain ⟨⟨⟨pv, pn⟩, pk⟩, ⟨⟨qv, qn⟩, qk⟩⟩ := p
      have HT2 := hide hT2
      have HSa := hide hSa
      have HSb := hide hSb
      obtain ⟨pa1, pa3, pab, pao, rfl, -, -, -, -⟩ := hSa
      obtain ⟨pb1, pb3, pbb, pbo, rfl, -, -, -, -⟩ := hSb
      have hpop := fun w => pop_run (n := T'.length) (c := t3) (g := g) hcap w
      clear hrev hll hT2
      go_upto_region 6 with fail
      generalize hwn : wr.alloc (.cells #[.bool pv, .int .i64 pn, .slice pa1 (Fo.len pk) pa3, .bool qv, .int .i64 qn, .slice pb1 (Fo.len qk) pb3] 80) = wn
      have hbn : Below wr.heap.size wr wn := by rw [← hwn]; exact below_alloc _ _
      have n0 : wn.cell? ⟨wr.heap.size, 0, none⟩ = some (.bool pv) := by rw [← hwn]; exact new_cell rfl
      have n1 : wn.cell? ⟨wr.heap.size, 1, none⟩ = some (.int .i64 pn) := by rw [← hwn]; exact new_cell rfl
      have n2 : wn.cell? ⟨wr.heap.size, 2, none⟩ = some (.slice pa1 (Fo.len pk) pa3) := by rw [← hwn]; exact new_cell rfl
      have n3 : wn.cell? ⟨wr.heap.size, 3, none⟩ = some (.bool qv) := by rw [← hwn]; exact new_cell rfl
      have n4 : wn.cell? ⟨wr.heap.size, 4, none⟩ = some (.int .i64 qn) := by rw [← hwn]; exact new_cell rfl
      have n5 : wn.cell? ⟨wr.heap.size, 5, none⟩ = some (.slice pb1 (Fo.len qk) pb3) := by rw [← hwn]; exact new_cell rfl
      have hnl : wr.heap.size < wn.heap.size := World.block_lt_of_cell? _ _ n0
      have HTn := hide (HT2.out.below hbn)
      obtain ⟨⟨⟨xv', xn'⟩, xk'⟩, hx⟩ : ∃ z, z = top s ((pv, pn), pk) := ⟨_, rfl⟩
      obtain ⟨⟨⟨yv', yn'⟩, yk'⟩, hy⟩ : ∃ z, z = top s ((qv, qn), qk) := ⟨_, rfl⟩
      have HcA := hide (fun w' hb => top_call HTn.out (HT2.out.xx hbn HSa.out) hx w' hb)
      have HcB := hide (fun w' hb => top_call HTn.out (HT2.out.xx hbn HSb.out) hy w' hb)
      have Hx := hide hx
      have Hy := hide hy
      have Hbn := hide hbn
      have hcur : Below wn.heap.size wn wn := Below.refl _ _
      clear hwn hx hy hbn c0 c1 c2 c3 c4 c5 hpop
      go_cut [6, 7, 9, 10] (fun s6 s7 s9 s10 wx => ∃ (bx bb : Nat) (x1 : Option Addr) (x3 : Nat) (y1 : Option Addr) (y3 : Nat), s6 = .slice s1 s.length s3 ∧ s7 = .slice (some ⟨g, 0, none⟩) T'.length t3 ∧ s9 = .pointer (some ⟨bx, 0, none⟩) ∧ s10 = .pointer (some ⟨bb, 0, none⟩) ∧
        SB (XX wn (.slice s1 s.length s3) (.slice (some ⟨g, 0, none⟩) T'.length t3)) wn xk' (.slice x1 (Fo.len xk') x3) ∧ SB (XX wn (.slice s1 s.length s3) (.slice (some ⟨g, 0, none⟩) T'.length t3)) wn yk' (.slice y1 (Fo.len yk') y3) ∧
        C3 wx bx (.bool xv') (.int .i64 xn') (.slice x1 (Fo.len xk') x3) ∧ C3 wx bb (.bool yv') (.int .i64 yn') (.slice y1 (Fo.len yk') y3) ∧ Below wn.heap.size wn wx)
      case first =>
        have neN : wn.heap.size ≠ wr.heap.size := Nat.ne_of_gt hnl
        have neN1 : wn.heap.size + 1 ≠ wr.heap.size := Nat.ne_of_gt (Nat.lt_succ_of_lt hnl)
        go_region_held3 (fun w' => w'.cell? ⟨wr.heap.size, 0, none⟩ = some (.bool pv) ∧ w'.cell? ⟨wr.heap.size, 1, none⟩ = some (.int .i64 pn) ∧ w'.cell? ⟨wr.heap.size, 2, none⟩ = some (.slice pa1 (Fo.len pk) pa3) ∧ w'.cell? ⟨wr.heap.size, 3, none⟩ = some (.bool qv) ∧ w'.cell? ⟨wr.heap.size, 4, none⟩ = some (.int .i64 qn) ∧ w'.cell? ⟨wr.heap.size, 5, none⟩ = some (.slice pb1 (Fo.len qk) pb3))
          (first
            | (with_reducible exact ⟨grow_cell hcur _ _ n0, grow_cell hcur _ _ n1, grow_cell hcur _ _ n2, grow_cell hcur _ _ n3, grow_cell hcur _ _ n4, grow_cell hcur _ _ n5⟩)
            | go_keep)
          (first
          | (go_at_call 56; with_reducible refine (HcA.out _ ?_).mono ?_; (with_reducible first | exact hcur | exact hcur.drew | exact (hcur.alloc hcur.size _).drew | exact hcur.alloc hcur.size _ | exact ((hcur.alloc hcur.size _).alloc (hcur.alloc hcur.size _).size _).drew | exact (hcur.alloc hcur.size _).alloc (hcur.alloc hcur.size _).size _); rintro e wA ⟨x1, x3, rfl, hSx, hbA⟩
             (with_reducible first | (refine thus (box2d hbA) ?_; rintro ⟨⟨fA0, fA1, fA2, fAf⟩, ⟨gA0, gA1, gA2, gAf⟩, fAl⟩; have fAk := Nat.lt_of_succ_lt fAl) | (refine thus (box2 hbA) ?_; rintro ⟨⟨fA0, fA1, fA2, fAf⟩, ⟨gA0, gA1, gA2, gAf⟩, fAl⟩; have fAk := Nat.lt_of_succ_lt fAl) | (refine thus (box1d hbA) ?_; rintro ⟨fA0, fA1, fA2, fAf, fAl⟩) | (refine thus (box1 hbA) ?_; rintro ⟨fA0, fA1, fA2, fAf, fAl⟩) | skip)
             (try (have hst : Below wB.heap.size wB wA := (by with_reducible first | exact hbA | exact below_box hbA | exact below_box (below_box hbA)); have hsl := hst.size; (try (have fB0' := grow_cell hst _ _ fB0; have fB1' := grow_cell hst _ _ fB1; have fB2' := grow_cell hst _ _ fB2; have ltfB0 := World.block_lt_of_cell? _ _ fB0; have ltfBc := World.block_lt_of_cell? _ _ fB0'; dsimp only at ltfBc; have fBf' := (fun i => (hst.frozen (p := ⟨_, i, none⟩) ltfB0).trans (fBf i)))); (try (have gB0' := grow_cell hst _ _ gB0; have gB1' := grow_cell hst _ _ gB1; have gB2' := grow_cell hst _ _ gB2; have ltgB0 := World.block_lt_of_cell? _ _ gB0; have ltgBc := World.block_lt_of_cell? _ _ gB0'; dsimp only at ltgBc; have gBf' := (fun i => (hst.frozen (p := ⟨_, i, none⟩) ltgB0).trans (gBf i))))))
             have hcurA : Below wn.heap.size wn wA := below_step (by with_reducible first | exact hcur | exact hcur.drew | exact (hcur.alloc hcur.size _).drew | exact hcur.alloc hcur.size _ | exact ((hcur.alloc hcur.size _).alloc (hcur.alloc hcur.size _).size _).drew | exact (hcur.alloc hcur.size _).alloc (hcur.alloc hcur.size _).size _) hbA
             replace hcur : Below wn.heap.size wn wA := below_step (by with_reducible first | exact hcur | exact hcur.drew | exact (hcur.alloc hcur.size _).drew | exact hcur.alloc hcur.size _ | exact ((hcur.alloc hcur.size _).alloc (hcur.alloc hcur.size _).size _).drew | exact (hcur.alloc hcur.size _).alloc (hcur.alloc hcur.size _).size _) hbA
             have hlA : wr.heap.size < wA.heap.size := Nat.lt_of_lt_of_le hnl hcur.size
             have neA : wA.heap.size ≠ wr.heap.size := Nat.ne_of_gt hlA
             have neA1 : wA.heap.size + 1 ≠ wr.heap.size := Nat.ne_of_gt (Nat.lt_succ_of_lt hlA)
             have mA0 := grow_cell hcur _ _ n0; have mA1 := grow_cell hcur _ _ n1; have mA2 := grow_cell hcur _ _ n2; have mA3 := grow_cell hcur _ _ n3; have mA4 := grow_cell hcur _ _ n4; have mA5 := grow_cell hcur _ _ n5)
          | (go_at_call 56; with_reducible refine (HcB.out _ ?_).mono ?_; (with_reducible first | exact hcur | exact hcur.drew | exact (hcur.alloc hcur.size _).drew | exact hcur.alloc hcur.size _ | exact ((hcur.alloc hcur.size _).alloc (hcur.alloc hcur.size _).size _).drew | exact (hcur.alloc hcur.size _).alloc (hcur.alloc hcur.size _).size _); rintro e wB ⟨y1, y3, rfl, hSy, hbB⟩
             (with_reducible first | (refine thus (box2d hbB) ?_; rintro ⟨⟨fB0, fB1, fB2, fBf⟩, ⟨gB0, gB1, gB2, gBf⟩, fBl⟩; have fBk := Nat.lt_of_succ_lt fBl) | (refine thus (box2 hbB) ?_; rintro ⟨⟨fB0, fB1, fB2, fBf⟩, ⟨gB0, gB1, gB2, gBf⟩, fBl⟩; have fBk := Nat.lt_of_succ_lt fBl) | (refine thus (box1d hbB) ?_; rintro ⟨fB0, fB1, fB2, fBf, fBl⟩) | (refine thus (box1 hbB) ?_; rintro ⟨fB0, fB1, fB2, fBf, fBl⟩) | skip)
             (try (have hst : Below wA.heap.size wA wB := (by with_reducible first | exact hbB | exact below_box hbB | exact below_box (below_box hbB)); have hsl := hst.size; (try (have fA0' := grow_cell hst _ _ fA0; have fA1' := grow_cell hst _ _ fA1; have fA2' := grow_cell hst _ _ fA2; have ltfA0 := World.block_lt_of_cell? _ _ fA0; have ltfAc := World.block_lt_of_cell? _ _ fA0'; dsimp only at ltfAc; have fAf' := (fun i => (hst.frozen (p := ⟨_, i, none⟩) ltfA0).trans (fAf i)))); (try (have gA0' := grow_cell hst _ _ gA0; have gA1' := grow_cell hst _ _ gA1; have gA2' := grow_cell hst _ _ gA2; have ltgA0 := World.block_lt_of_cell? _ _ gA0; have ltgAc := World.block_lt_of_cell? _ _ gA0'; dsimp only at ltgAc; have gAf' := (fun i => (hst.frozen (p := ⟨_, i, none⟩) ltgA0).trans (gAf i))))))
             replace hcur : Below wn.heap.size wn wB := below_step (by with_reducible first | exact hcur | exact hcur.drew | exact (hcur.alloc hcur.size _).drew | exact hcur.alloc hcur.size _ | exact ((hcur.alloc hcur.size _).alloc (hcur.alloc hcur.size _).size _).drew | exact (hcur.alloc hcur.size _).alloc (hcur.alloc hcur.size _).size _) hbB
             have hlB : wr.heap.size < wB.heap.size := Nat.lt_of_lt_of_le hnl hcur.size
             have neB : wB.heap.size ≠ wr.heap.size := Nat.ne_of_gt hlB
             have neB1 : wB.heap.size + 1 ≠ wr.heap.size := Nat.ne_of_gt (Nat.lt_succ_of_lt hlB)
             have mB0 := grow_cell hcur _ _ n0; have mB1 := grow_cell hcur _ _ n1; have mB2 := grow_cell hcur _ _ n2; have mB3 := grow_cell hcur _ _ n3; have mB4 := grow_cell hcur _ _ n4; have mB5 := grow_cell hcur _ _ n5))
        all_goals
          have hnA := hcurA.size
          have hnA1 : wn.heap.size ≤ wA.heap.size + 1 := Nat.le_succ_of_le hnA
          go_wp2_with fail
          go_meet
          case rel =>
            with_reducible first
              | exact ⟨wB.heap.size, wB.heap.size + 1, x1, x3, y1, y3, rfl, rfl, rfl, rfl, hSx, hSy, fin0 hcur⟩
              | exact ⟨wB.heap.size + 1, wB.heap.size, x1, x3, y1, y3, rfl, rfl, rfl, rfl, hSx, hSy, swap3 (fin0 hcur)⟩
              | exact ⟨wA.heap.size, wB.heap.size, x1, x3, y1, y3, rfl, rfl, rfl, rfl, hSx, hSy, fin1 hcur hnA fB0 fB1 fB2⟩
              | exact ⟨wB.heap.size, wA.heap.size, x1, x3, y1, y3, rfl, rfl, rfl, rfl, hSx, hSy, swap3 (fin1 hcur hnA fB0 fB1 fB2)⟩
              | exact ⟨wn.heap.size, wB.heap.size, x1, x3, y1, y3, rfl, rfl, rfl, rfl, hSx, hSy, fin1 hcur (Nat.le_refl _) fA0' fA1' fA2'⟩
              | exact ⟨wB.heap.size, wn.heap.size, x1, x3, y1, y3, rfl, rfl, rfl, rfl, hSx, hSy, swap3 (fin1 hcur (Nat.le_refl _) fA0' fA1' fA2')⟩
              | exact ⟨wA.heap.size, wA.heap.size + 1, x1, x3, y1, y3, rfl, rfl, rfl, rfl, hSx, hSy, fin2 hcur hnA hnA1 (Nat.ne_of_lt (Nat.lt_succ_self _)) fB0 fB1 fB2 gB0 gB1 gB2⟩
              | exact ⟨wA.heap.size + 1, wA.heap.size, x1, x3, y1, y3, rfl, rfl, rfl, rfl, hSx, hSy, fin2 hcur hnA1 hnA (Nat.ne_of_gt (Nat.lt_succ_self _)) gB0 gB1 gB2 fB0 fB1 fB2⟩
              | exact ⟨wn.heap.size, wA.heap.size, x1, x3, y1, y3, rfl, rfl, rfl, rfl, hSx, hSy, fin2 hcur (Nat.le_refl _) hnA (Nat.ne_of_lt fAl) fA0' fA1' fA2' fB0 fB1 fB2⟩
              | exact ⟨wA.heap.size, wn.heap.size, x1, x3, y1, y3, rfl, rfl, rfl, rfl, hSx, hSy, fin2 hcur hnA (Nat.le_refl _) (Nat.ne_of_gt fAl) fB0 fB1 fB2 fA0' fA1' fA2'⟩
              | exact ⟨wn.heap.size, wn.heap.size + 1, x1, x3, y1, y3, rfl, rfl, rfl, rfl, hSx, hSy, fin2 hcur (Nat.le_refl _) (Nat.le_succ _) (Nat.ne_of_lt (Nat.lt_succ_self _)) fA0' fA1' fA2' gA0' gA1' gA2'⟩
              | exact ⟨wn.heap.size + 1, wn.heap.size, x1, x3, y1, y3, rfl, rfl, rfl, rfl, hSx, hSy, fin2 hcur (Nat.le_succ _) (Nat.le_refl _) (Nat.ne_of_gt (Nat.lt_succ_self _)) gA0' gA1' gA2' fA0' fA1' fA2'⟩
      case rest =>
        obtain ⟨bx, bb, x1, x3, y1, y3, rfl, rfl, rfl, rfl, hSx, hSy, ⟨a0, a1, a2⟩, ⟨e0, e1, e2⟩, hbx⟩ := hcut
        generalize wc = wx at *
        have hBx : Below w.heap.size w wx := below_step hBw (below_step Hbn.out hbx)
        have HTx := hide (HTn.out.below hbx)
        have HSx := hide (HTn.out.xx hbx hSx)
        have HSy := hide (HTn.out.xx hbx hSy)
        have hgp := HI.out.gL (((pv, pn), pk), ((qv, qn), qk)) (by simp)
        have Hgx : Hid (Gd ((xv', xn'), xk')) := by rw [Hid, Hx.out]; exact gd_top HI.out.gs hgp.1
        have Hgy : Hid (Gd ((yv', yn'), yk')) := by rw [Hid, Hy.out]; exact gd_top HI.out.gs hgp.2
        have hscm : s3 ≤ 2 ^ 63 - 1 := by
          obtain ⟨_, _, _, _, e, _, _, h, _⟩ := HTx.out.sub.sub
          simp only [Value.slice.injEq] at e
          unfold maxLen at h
          omega
        obtain ⟨m, hm⟩ : ∃ m, gk = m + 1 := by
          cases gk with
          | zero => have := HR.out; simp [runU] at this
          | succ m => exact ⟨m, rfl⟩
        subst hm
        clear hSx hSy hgp n0 n1 n2 n3 n4 n5 hnl hcur HcA HcB HTn hbx
        cases xv'
        · cases yv'
          · by_cases hc : xn' = yn' ∧ Fo.len xk' = Fo.len yk'
            · obtain ⟨hc1, hc2⟩ := hc
              have Hon := hide (run_on HI.out HR.out (stepU_args Hx.out Hy.out rfl rfl hc1 hc2))
              have hnb : (xn' == yn') = true := by simp [hc1]
              have hlb : ((Fo.len xk' : Int) == (Fo.len yk' : Int)) = true := by simp [hc2]
              have Hc2 := hide hc2
              have Hlen := hide (ui_len HI.out)
              have Htwo := hide Hgx.out.two.1
              clear hc1 hc2
              go_wp2_with fail
              refine (addArgs_any w.heap.size (XX wx (.slice s1 s.length s3) (.slice (some ⟨g, 0, none⟩) T'.length t3)) T' _ ys' (false, xn') xk' _ (false, yn') yk' _ wx HTx.out.cou hBx.size HSx.out HSy.out Hc2.out (by have := Hlen.out.1; have := Htwo.out; simp only [List.length_cons, List.length_reverse] at *; omega)).mono ?_
              rintro e w2 ⟨M, z1, z3, xt', hM, rfl, hO2, hF2, hM2⟩
              have H3 := hide (two_args HTx.out hO2 hF2)
              have hBw2 : Below w.heap.size w w2 := hBx.trans (hF2.below hBx.size (fun q hq => (owns_at HTx.out.cou.row q hq).1) (fun q hq => by cases hq))
              have Hrev : Hid (M.reverse = xk'.list.zip yk'.list ++ T'.reverse) := by rw [Hid, hM]; simp
              clear hM hO2 hF2 hM2
              go_wp2_with fail
              go_roundg m
              case measure => omega
              case rel => exact ⟨s, M, s1, s3, z1, z3, xs, xt', rfl, rfl, by rw [Hrev.out]; exact Hon.out.1, by rw [Hrev.out]; exact Hon.out.2, H3.out, hBw2⟩
            · have Hf := hide (uni_no hBx (run_no HR.out (stepU_bad Hx.out Hy.out rfl rfl hc)))
              by_cases hc1 : xn' = yn'
              · have hnb : (xn' == yn') = true := by simp [hc1]
                have hlb : ((Fo.len xk' : Int) == (Fo.len yk' : Int)) = false := by
                  have : ¬ Fo.len xk' = Fo.len yk' := fun e => hc ⟨hc1, e⟩
                  simp; omega
                clear hc hc1
                go_wp2_with fail
                go_ret2
                exact Hf.out
              · have hnb : (xn' == yn') = false := by simp [hc1]
                clear hc hc1
                go_wp2_with fail
                go_ret2
                exact Hf.out
          · have Hst : Hid (stepU s ((pv, pn), pk) ((qv, qn), qk) T'.reverse = (addS s yn' (subT (bnd s) ((false, xn'), xk'))).map fun s' => (s', T'.reverse)) := stepU_y Hx.out Hy.out rfl rfl
            obtain ⟨⟨⟨tv, tn⟩, tk⟩, ht⟩ : ∃ z, z = subT (bnd s) ((false, xn'), xk') := ⟨_, rfl⟩
            have Ht := hide ht
            have Hgt : Hid (Gd ((tv, tn), tk)) := by rw [Hid, ht]; exact gd_sub HI.out.gs Hgx.out
            have Hap := hide (uni_apply HTx.out HI.out.gs HSx.out Hgx.out ht (w' := wx.drew) (Below.refl _ _).drew)
            clear ht
            go_upto_region 13 with fail
            go_region_with (first
              | (go_at_call 35; refine Hap.out.mono ?_; rintro e w1 ⟨b1, b3, rfl, hT1, hS1, hb1⟩; have hBw1 := below_step hBx hb1; have e1w := grow_cell hb1 _ _ e1)
              | (go_at_call 57; refine (uni_add yn' hBw1 hT1 HI.out.gs (ui_len HI.out).2 hS1 Hgt.out).mono ?_; rintro e w2 ⟨z1, zm, z3, ok, rfl, hBw2, hno, hyes⟩))
            all_goals
              cases ok
              · have Hf := hide (uni_no hBw2 (run_no HR.out (by rw [Hst.out, ← Ht.out, hno rfl]; rfl)))
                clear hno hyes hT1 hS1
                go_wp2_with fail
                go_ret2
                exact Hf.out
              · obtain ⟨s', xs', h1, h2, h3⟩ := hyes rfl
                have Hon := hide (run_on HI.out HR.out (s' := s') (L' := T'.reverse) (by rw [Hst.out, ← Ht.out, h1]; rfl))
                subst h2
                have H3 := hide h3
                clear hno hyes hT1 hS1 h1 h3
                go_wp2_with fail
                go_roundg m
                case measure => omega
                case rel => exact ⟨s', T', z1, z3, some ⟨g, 0, none⟩, t3, xs', ys', rfl, rfl, Hon.out.1, Hon.out.2, H3.out, hBw2⟩
        · by_cases hc : yv' = true ∧ xn' = yn'
          · obtain ⟨rfl, hc2⟩ := hc
            have Hon := hide (run_on HI.out HR.out (stepU_same Hx.out Hy.out rfl rfl hc2))
            have hnb : (xn' == yn') = true := by simp [hc2]
            clear hc2
            go_wp2_with fail
            go_roundg m
            case measure => omega
            case rel => exact ⟨s, T', s1, s3, some ⟨g, 0, none⟩, t3, xs, ys', rfl, rfl, Hon.out.1, Hon.out.2, HTx.out, hBx⟩
          · have Hst : Hid (stepU s ((pv, pn), pk) ((qv, qn), qk) T'.reverse = (addS s xn' (subT (bnd s) ((yv', yn'), yk'))).map fun s' => (s', T'.reverse)) := stepU_x Hx.out Hy.out rfl (fun h => hc ⟨h.1, h.2⟩)
            cases yv'
            · clear hc
              obtain ⟨⟨⟨tv, tn⟩, tk⟩, ht⟩ : ∃ z, z = subT (bnd s) ((false, yn'), yk') := ⟨_, rfl⟩
              have Ht := hide ht
              have Hgt : Hid (Gd ((tv, tn), tk)) := by rw [Hid, ht]; exact gd_sub HI.out.gs Hgy.out
              have Hap := hide (uni_apply HTx.out HI.out.gs HSy.out Hgy.out ht (w' := wx.drew) (Below.refl _ _).drew)
              clear ht
              go_upto_region 11 with fail
              go_region_with (first
                | (go_at_call 35; refine Hap.out.mono ?_; rintro e w1 ⟨b1, b3, rfl, hT1, hS1, hb1⟩; have hBw1 := below_step hBx hb1; have a1w := grow_cell hb1 _ _ a1)
                | (go_at_call 57; refine (uni_add xn' hBw1 hT1 HI.out.gs (ui_len HI.out).2 hS1 Hgt.out).mono ?_; rintro e w2 ⟨z1, zm, z3, ok, rfl, hBw2, hno, hyes⟩))
              all_goals
                cases ok
                · have Hf := hide (uni_no hBw2 (run_no HR.out (by rw [Hst.out, ← Ht.out, hno rfl]; rfl)))
                  clear hno hyes hT1 hS1
                  go_wp2_with fail
                  go_ret2
                  exact Hf.out
                · obtain ⟨s', xs', h1, h2, h3⟩ := hyes rfl
                  have Hon := hide (run_on HI.out HR.out (s' := s') (L' := T'.reverse) (by rw [Hst.out, ← Ht.out, h1]; rfl))
                  subst h2
                  have H3 := hide h3
                  clear hno hyes hT1 hS1 h1 h3
                  go_wp2_with fail
                  go_roundg m
                  case measure => omega
                  case rel => exact ⟨s', T', z1, z3, some ⟨g, 0, none⟩, t3, xs', ys', rfl, rfl, Hon.out.1, Hon.out.2, H3.out, hBw2⟩
            · have hnb : (xn' == yn') = false := by
                have : ¬ xn' = yn' := fun e => hc ⟨rfl, e⟩
                simp [this]
              clear hc
              obtain ⟨⟨⟨tv, tn⟩, tk⟩, ht⟩ : ∃ z, z = subT (bnd s) ((true, yn'), yk') := ⟨_, rfl⟩
              have Ht := hide ht
              have Hgt : Hid (Gd ((tv, tn), tk)) := by rw [Hid, ht]; exact gd_sub HI.out.gs Hgy.out
              have Hap := hide (uni_apply HTx.out HI.out.gs HSy.out Hgy.out ht (w' := wx.drew) (Below.refl _ _).drew)
              clear ht
              go_upto_region 11 with fail
              go_region_with (first
                | (go_at_call 35; refine Hap.out.mono ?_; rintro e w1 ⟨b1, b3, rfl, hT1, hS1, hb1⟩; have hBw1 := below_step hBx hb1; have a1w := grow_cell hb1 _ _ a1)
                | (go_at_call 57; refine (uni_add xn' hBw1 hT1 HI.out.gs (ui_len HI.out).2 hS1 Hgt.out).mono ?_; rintro e w2 ⟨z1, zm, z3, ok, rfl, hBw2, hno, hyes⟩))
              all_goals
                cases ok
                · have Hf := hide (uni_no hBw2 (run_no HR.out (by rw [Hst.out, ← Ht.out, hno rfl]; rfl)))
                  clear hno hyes hT1 hS1
                  go_wp2_with fail
                  go_ret2
                  exact Hf.out
                · obtain ⟨s', xs', h1, h2, h3⟩ := hyes rfl
                  have Hon := hide (run_on HI.out HR.out (s' := s') (L' := T'.reverse) (by rw [Hst.out, ← Ht.out, h1]; rfl))
                  subst h2
                  have H3 := hide h3
                  clear hno hyes hT1 hS1 h1 h3
                  go_wp2_with fail
                  go_roundg m
                  case measure => omega
                  case rel => exact ⟨s', T', z1, z3, some ⟨g, 0, none⟩, t3, xs', ys', rfl, rfl, Hon.out.1, Hon.out.2, H3.out, hBw2⟩

end Go.Proofs.YtleogbdinafpaaaDoor

/- What a term is by bindings: the document's Apply. -/
namespace Go.Proofs.YtleogbdinafpaaaDoor
open Go.RowKit Go.Deep Go.ChangeShapes Go.WideShapes
attribute [local go_sem ↓] Go.wp_at_zero Go.wp_at_succ

theorem fo_snoc : ∀ {T : Fo} {j : Nat} {x : Bool × Int} {k : Fo}, Fo.ok T → T.list[j]? = some (x, k) → Fo.snoc (Fo.take j T) x k = Fo.take (j + 1) T
  | .nil, _, _, _, _, h => by simp [Fo.list] at h
  | .node p q y l r, 0, x, k, hT, h => by
    simp only [Fo.list, List.getElem?_cons_zero, Option.some.injEq, Prod.mk.injEq] at h
    obtain ⟨rfl, rfl⟩ := h
    rw [ok_node] at hT
    obtain ⟨rfl, rfl, _, _⟩ := hT
    rfl
  | .node p q y l r, j + 1, x, k, hT, h => by
    rw [ok_node] at hT
    have := fo_snoc (T := r) (j := j) hT.2.2.2 (by simpa [Fo.list] using h)
    rw [Fo.take, Fo.snoc, this, Fo.take]

/-- So far: the answer's first j terms stand in the row whose head lies in the box B. -/
def AppRel (B : Nat) (W2 : World) (X : Nat → Prop) (T : Fo) (xn : Int) (j : Nat) (wr : World) : Prop :=
  ∃ (v : Value) (xs : List Value), wr.ownsRow (B + 1) 26 3 v j xs ∧ CellsOf (Rm B X wr v) wr (Fo.take j T) xs ∧
    wr.cell? ⟨B, 0, none⟩ = some (.bool false) ∧ wr.cell? ⟨B, 1, none⟩ = some (.int .i64 xn) ∧ wr.cell? ⟨B, 2, none⟩ = some v ∧ (∀ i, wr.frozen? ⟨B, i, none⟩ = false) ∧ Below B W2 wr

theorem app_next {B : Nat} {W2 wr w1 w3 : World} {X : Nat → Prop} {T : Fo} {xn : Int} {j : Nat} {v v' a : Value} {z : Bool × Int} {r : Fo} {g cap : Nat} {xs : List Value} {ob : Obj} (hT : Fo.ok T)
    (h1 : wr.ownsRow (B + 1) 26 3 v j xs) (h2 : CellsOf (Rm B X wr v) wr (Fo.take j T) xs) (hX : ∀ q, X q → q < B)
    (q0 : wr.cell? ⟨B, 0, none⟩ = some (.bool false)) (q1 : wr.cell? ⟨B, 1, none⟩ = some (.int .i64 xn)) (q2 : wr.cell? ⟨B, 2, none⟩ = some v) (qf : ∀ i, wr.frozen? ⟨B, i, none⟩ = false)
    (hB3 : Below B W2 wr) (hb : Below wr.heap.size wr w1) (hk : SB (fun q => X q ∨ (wr.heap.size ≤ q ∧ q < w1.heap.size)) w1 r a) (hTj : T.list[j]? = some (z, r))
    (hv' : v' = .slice (some ⟨g, 0, none⟩) (j + 1) cap) (ho : w3.ownsRow (B + 1) 26 3 v' (j + 1) (xs ++ [.bool z.1, .int .i64 z.2, a])) (hg : (w1.alloc ob).grownBy w3 v.ownBlock)
    (hat : v.ownBlock = some g ∨ g = w1.heap.size + 1) (hlt : g < w3.heap.size) : AppRel B W2 X T xn (j + 1) (w3.setCell ⟨B, 2, none⟩ v') := by
  have hBl : B < wr.heap.size := World.block_lt_of_cell? _ _ q0
  have hjl : j < Fo.len T := by
    rw [← Fo.len_list]
    rcases Nat.lt_or_ge j T.list.length with h | h
    · exact h
    · rw [List.getElem?_eq_none h] at hTj; cases hTj
  have hlj : Fo.len (Fo.take j T) = j := take_len j T (by omega)
  have hlj1 : Fo.len (Fo.take (j + 1) T) = j + 1 := take_len (j + 1) T (by omega)
  obtain ⟨r1, r2, r3, r4, r5, r6, r7⟩ := row_step (B := B) (X := X) (acc := Fo.take j T) (x := z) (k := r) (g := g) (cap := cap) (v' := v') (by rw [hlj]; exact h1) h2 hX hBl ⟨_, q2⟩ hb.size (fun q _ hq => hb.block q hq) hk (by rw [hlj]; exact hv') (by rw [hlj]; exact ho) hg hat hlt
  rw [fo_snoc hT hTj] at r1 r2
  rw [hlj1] at r1
  refine ⟨v', _, r1, r2, (r5 0 (by omega)).trans q0, (r5 1 (by omega)).trans q1, r3, fun i => (r6 i).trans (qf i), ?_⟩
  have hb1 : Below B W2 w1 := hB3.trans (hb.mono (by omega))
  have hb2 : Below B W2 (w1.alloc ob) := hb1.alloc (by have := hb.size; omega) _
  exact (hb2.grown hg (by simp; have := hb.size; omega) (fun q hq => by have := (owns_at h1 q hq).1; omega)).setCell (Nat.le_refl _) _

theorem app_zero {w0 : World} {X : Nat → Prop} {T : Fo} {xn : Int} {B : Nat} (hB : w0.heap.size = B) : AppRel B w0 X T xn 0 (w0.alloc (.cells #[.bool false, .int .i64 xn, .slice none 0 0] 26)) :=
  ⟨.slice none 0 0, [], ⟨rfl, .inl ⟨rfl, rfl⟩⟩, rfl, new_cell hB, new_cell hB, new_cell hB, fun _ => new_frozen hB, (Below.refl _ _).alloc (by omega) _⟩

theorem app_end {B : Nat} {W2 wr : World} {X : Nat → Prop} {T : Fo} {xn : Int} (h : AppRel B W2 X T xn (Fo.len T) wr) :
    ∃ z1 z3, wr.cell? ⟨B, 2, none⟩ = some (.slice z1 (Fo.len T) z3) ∧ SB (fun q => X q ∨ (B + 1 ≤ q ∧ q < wr.heap.size)) wr T (.slice z1 (Fo.len T) z3) := by
  obtain ⟨v, xs, h1, h2, _, _, q2, _, _⟩ := h
  rw [take_all] at h2
  obtain ⟨z1, z3, rfl⟩ := slice_of_owns h1
  exact ⟨z1, z3, q2, row_sb h1 h2 (fun q hq => by rcases hq with h | h; exact .inl h; exact .inr ⟨h.1, h.2.1⟩) (fun g hg => .inr (owns_at h1 g hg))⟩

def ApplyRSaid (x : Bool × Int) (k : Fo) : Prop := ∀ (s : Sb) (vs : Value) (W0 : World) (a : Value) (w : World), Below W0.heap.size W0 w → SubIn W0 s vs → (∀ p ∈ s, okT p.2) → SIn W0 k a → okT (x, k) → narT (x, k) →
    Calls Tryd.prog 36 #[vs, .agg #[.bool x.1, .int .i64 x.2, a]] w fun e w' => ∃ (a1 : Option Addr) (a2 a3 : Nat), e = .returned (.agg #[.bool (subT (bnd s) (x, k)).1.1, .int .i64 (subT (bnd s) (x, k)).1.2, .slice a1 a2 a3]) ∧
      SB (fun q => q < W0.heap.size ∨ (w.heap.size ≤ q ∧ q < w'.heap.size)) w' (subT (bnd s) (x, k)).2 (.slice a1 a2 a3) ∧ Below w.heap.size w w'

set_option maxRecDepth 100000 in
set_option maxHeartbeats 2000000 in
theorem applyR_any (x : Bool × Int) (k : Fo) : ApplyRSaid x k := by
  refine Fo.ind1 (p := ApplyRSaid) ?_ x k
  clear x k
  intro x k ih s vs W0 a w hW hV hs hS hok hnar
  obtain ⟨v, n⟩ := x
  have HI := hide ih
  have HW := hide hW
  have HV := hide hV
  have Hs := hide hs
  have Hok := hide hok
  have Hnar := hide hnar
  have HS := hide hS
  obtain ⟨ad, ac, b, o, rfl, had, hlc, hcm, hF⟩ := hS
  obtain ⟨vd, vc, vb, vo, rfl, hvd, hvlc, hvcm, hP⟩ := hV
  have HF := hide hF
  have HP := hide hP
  have hW0 := hW.size
  unfold maxLen at hcm hvcm
  clear ih hs hok hF hP hW
  cases v
  · have Hres : Hid (subT (bnd s) ((false, n), k) = ((false, n), subF (bnd s) k)) := rfl
    have HTok : Hid (Fo.ok (subF (bnd s) k)) := subF_ok (bnd_ok Hs.out) k
    have Hl := hide (Fo.len_list k)
    have Hl2 := hide (subF_len (bnd s) k)
    have hlen : Fo.len k ≤ 1000 := hnar.1
    clear hnar hvd
    go_enter Tryd.func36, Tryd.ntmps36
    go_wp2_with fail
    generalize hW2 : (w.alloc (.cells #[.bool false, .int .i64 n, .slice ad (Fo.len k) ac] 26)).alloc (.cells #[.bool false, .int .i64 0, .slice none 0 0] 26) = W2
    have hs2 : W2.heap.size = w.heap.size + 1 + 1 := by rw [← hW2]; simp
    have hB2 : Below w.heap.size w W2 := by rw [← hW2]; exact (below_alloc _ _).alloc (by simp) _
    have r0 : W2.cell? ⟨w.heap.size + 1, 0, none⟩ = some (.bool false) := by rw [← hW2]; exact new_cell (World.size_alloc _ _)
    have r1 : W2.cell? ⟨w.heap.size + 1, 1, none⟩ = some (.int .i64 0) := by rw [← hW2]; exact new_cell (World.size_alloc _ _)
    have r2 : W2.cell? ⟨w.heap.size + 1, 2, none⟩ = some (.slice none 0 0) := by rw [← hW2]; exact new_cell (World.size_alloc _ _)
    have rf : ∀ i, W2.frozen? ⟨w.heap.size + 1, i, none⟩ = false := fun i => by rw [← hW2]; exact new_frozen (World.size_alloc _ _)
    have HQ := hide (And.intro r0 (And.intro r1 (And.intro r2 rf)))
    have HB2 := hide hB2
    have Hs2 := hide hs2
    have H0 : Hid (AppRel (w.heap.size + 1 + 1) W2 (fun q => q < W0.heap.size) (subF (bnd s) k) n 0 (W2.alloc (.cells #[.bool false, .int .i64 n, .slice none 0 0] 26))) := app_zero hs2
    clear r0 r1 r2 rf hB2 hs2 hW2
    go_loopw [33] (fun i wr => ∃ j : Nat, j ≤ Fo.len k ∧ i = .int .i64 j ∧ AppRel (w.heap.size + 1 + 1) W2 (fun q => q < W0.heap.size) (subF (bnd s) k) n j wr) (fun i _ => Fo.len k - (intOf i).toNat)
    case atStart => exact ⟨0, Nat.zero_le _, rfl, H0.out⟩
    case round =>
      obtain ⟨j, hj, rfl, hR⟩ := hrel
      have HR := hide hR
      obtain ⟨vr', xs, h1, h2, q0, q1, q2, qf, hB⟩ := hR
      have H1 := hide h1
      have H2 := hide h2
      have HB := hide hB
      have Hqf := hide qf
      have hs2 := Hs2.out
      have hBw : Below w.heap.size w wr := HB2.out.trans (hB.mono (by omega))
      have hB0 : Below W0.heap.size W0 wr := HW.out.trans (hBw.mono hW0)
      have hBlt : w.heap.size + 1 + 1 < wr.heap.size := World.block_lt_of_cell? _ _ q0
      obtain ⟨z1, z3, rfl⟩ := slice_of_owns h1
      clear H0 h1 h2 hB
      by_cases hlt : j < Fo.len k
      · have hlt' : (j : Int) < (Fo.len k : Int) := by omega
        have had' : ad = some ⟨b, o, none⟩ := had (by omega)
        subst had'
        obtain ⟨⟨⟨ev, en⟩, ek⟩, hy⟩ : ∃ y, k.list[j]? = some y := ⟨k.list[j]'(by rw [Hl.out]; exact hlt), by simp⟩
        obtain ⟨c0, c1, yv', c2, hSy⟩ := HF.out.at hy
        have c0' := grow_cell hB0 _ _ c0
        have c1' := grow_cell hB0 _ _ c1
        have c2' := grow_cell hB0 _ _ c2
        have HSy := hide hSy
        obtain ⟨ya, yc, yb, yo, rfl, -, -, -, -⟩ := hSy
        have Hy := hide hy
        have Hy2 : Hid ((subF (bnd s) k).list[j]? = some (subT (bnd s) ((ev, en), ek))) := by rw [Hid, subF_list, List.getElem?_map, hy]; rfl
        obtain ⟨⟨⟨xv, xn⟩, xk⟩, hz⟩ : ∃ z, z = subT (bnd s) ((ev, en), ek) := ⟨_, rfl⟩
        have Hz := hide hz
        have Hoke : Hid (okT ((ev, en), ek)) := ok_mem Hok.out.2 (List.mem_of_getElem? hy)
        have Hnare : Hid (narT ((ev, en), ek)) := nar_mem Hnar.out.2 (List.mem_of_getElem? hy)
        clear hy had c0 c1 c2 hz
        obtain ⟨i26, hi26, hz0, hz1, hz2⟩ := info_parts Tryd.info26
        have hn1 : j + 1 ≤ maxLen := by unfold maxLen; omega
        have hn2 : (j + 1) * 40 ≤ 140737488355328 := by omega
        go_upto_region 13 with fail
        generalize hwa : wr.alloc (.cells #[.bool ev, .int .i64 en, .slice ya (Fo.len ek) yc] 26) = wa
        have e0 : wa.cell? ⟨wr.heap.size, 0, none⟩ = some (.bool ev) := by rw [← hwa]; exact new_cell rfl
        have e1 : wa.cell? ⟨wr.heap.size, 1, none⟩ = some (.int .i64 en) := by rw [← hwa]; exact new_cell rfl
        have e2 : wa.cell? ⟨wr.heap.size, 2, none⟩ = some (.slice ya (Fo.len ek) yc) := by rw [← hwa]; exact new_cell rfl
        have hba : Below wr.heap.size wr wa := by rw [← hwa]; exact below_alloc _ _
        have f2 := grow_cell hba _ _ q2
        have ff : ∀ i, wa.frozen? ⟨w.heap.size + 1 + 1, i, none⟩ = false := fun i => (hba.frozen hBlt).trans (Hqf.out i)
        have hBa : w.heap.size + 1 + 1 < wa.heap.size := Nat.lt_of_lt_of_le hBlt hba.size
        have Hno : Hid (some (w.heap.size + 1 + 1) ≠ (Value.slice z1 j z3).ownBlock) := fun e => by have := (owns_at H1.out _ e.symm).1; omega
        have hcall : Calls Tryd.prog 36 #[.slice vd s.length vc, .agg #[.bool ev, .int .i64 en, .slice ya (Fo.len ek) yc]] wa.drew fun e w' => ∃ (a1 : Option Addr) (a2 a3 : Nat), e = .returned (.agg #[.bool xv, .int .i64 xn, .slice a1 a2 a3]) ∧ SB (fun q => q < W0.heap.size ∨ (wa.heap.size ≤ q ∧ q < w'.heap.size)) w' xk (.slice a1 a2 a3) ∧ Below wa.heap.size wa w' := by
          refine (HI.out ((ev, en), ek) (List.mem_of_getElem? Hy.out) s _ W0 _ wa.drew ?_ HV.out Hs.out HSy.out Hoke.out Hnare.out).mono ?_
          · exact (hB0.trans (hba.mono hB0.size)).trans (Below.refl _ _).drew
          · rintro e w' ⟨a1, a2, a3, rfl, hk, hb⟩
            rw [← Hz.out] at hk ⊢
            exact ⟨a1, a2, a3, rfl, hk, (Below.refl _ _).drew.trans hb⟩
        have Hcall := hide hcall
        have Hba := hide hba
        clear hcall hwa c0' c1' c2' hba q2 qf
        go_region_law (first
          | (refine step_append_lies _ (by rfl) _ _ _ (by rfl) (w.heap.size + 1 + 1 + 1) 26 i26 (.agg #[.bool false, .int .i64 0, .slice none 0 0]) 3 40 Tryd.underlying24 hi26 hz0 hz1 hz2 rfl (by decide) (.slice z1 j z3) j xs (by rfl) Hown3.out ⟨w3.heap.size, 0, none⟩ 1 1 [.bool xv, .int .i64 xn, .slice a1 a2 a3] (by rfl) (by rfl) Hnews.out (by simp [Value.oneCell']) (by decide) hn1 hn2 (by simp; omega) (w3.heap.size + 1) (by simp) ?_; intro g cap w4 ho4 hg4 hat4 hlt4; have x2 := out_cell hg4 hB3 Hno.out g3; have xf := out_frozen hg4 hB3 Hno.out gf3)
          | (go_simp; go_at_call 36; refine Hcall.out.mono ?_; rintro e w3 ⟨a1, a2, a3, rfl, hk3, hb3⟩
             have hs3 := hb3.size; have g3 := grow_cell hb3 _ _ f2; have gf3 : ∀ i, w3.frozen? ⟨w.heap.size + 1 + 1, i, none⟩ = false := (fun i => (hb3.frozen hBa).trans (ff i)); have hB3 : w.heap.size + 1 + 1 < w3.heap.size := Nat.lt_of_lt_of_le hBa hs3
             have Hown3 : Hid ((w3.alloc (.cells #[.bool xv, .int .i64 xn, .slice a1 a2 a3] 26)).ownsRow (w.heap.size + 1 + 1 + 1) 26 3 (.slice z1 j z3) j xs) := (owns_keep H1.out (fun g hg => by have h := owns_at H1.out g hg; have hsz := Hba.out.size; rw [Below.heap_alloc _ _ _ (by omega), hb3.block g (by omega), Hba.out.block g h.2]))
             have Hnews : Hid (∀ j u, [Value.bool xv, .int .i64 xn, .slice a1 a2 a3][j]? = some u → (w3.alloc (.cells #[.bool xv, .int .i64 xn, .slice a1 a2 a3] 26)).cell? ((⟨w3.heap.size, 0, none⟩ : Addr).add j) = some u) := (World.news_of_block (cs := #[.bool xv, .int .i64 xn, .slice a1 a2 a3]) (heap_alloc_new w3 _))))
        all_goals
          have Hst := hide (app_next (B := w.heap.size + 1 + 1) (W2 := W2) (X := fun q => q < W0.heap.size) (T := subF (bnd s) k) (xn := n) (z := (xv, xn)) (r := xk) (a := .slice a1 a2 a3) HTok.out H1.out H2.out (fun q hq => by omega) q0 q1 (by have hc := HR.out; obtain ⟨_, _, _, _, _, _, q2, _, _⟩ := hc; exact (Hba.out.cell (p := ⟨w.heap.size + 1 + 1, 2, none⟩) hBlt).symm.trans f2) Hqf.out HB.out (below_step Hba.out hb3) (hk3.wide (fun q hq => by rcases hq with h | h; exact .inl h; exact .inr ⟨by have := Hba.out.size; omega, h.2⟩)) (by rw [Hy2.out, ← Hz.out]) rfl ho4 hg4 hat4 hlt4)
          clear hk3 hb3 ho4 hg4 hat4 hlt4 x2 xf g3 gf3 Hown3 Hnews hi26 hz0 hz1 hz2
          go_wp2_with fail
          go_roundw
          case rel => exact ⟨j + 1, by omega, by go_num, Hst.out⟩
          case measure => simp [intOf]; omega
      · have hje : j = Fo.len k := by omega
        have hRe : AppRel (w.heap.size + 1 + 1) W2 (fun q => q < W0.heap.size) (subF (bnd s) k) n (Fo.len (subF (bnd s) k)) wr := by rw [Hl2.out, ← hje]; exact HR.out
        obtain ⟨y1, y3, hc2, hSB⟩ := app_end hRe
        have HSB := hide hSB
        obtain ⟨p0, p1, p2, pf⟩ := HQ.out
        have s0 : wr.cell? ⟨w.heap.size + 1, 0, none⟩ = some (.bool false) := (HB.out.cell (by show w.heap.size + 1 < _; omega)).trans p0
        have s1 : wr.cell? ⟨w.heap.size + 1, 1, none⟩ = some (.int .i64 0) := (HB.out.cell (by show w.heap.size + 1 < _; omega)).trans p1
        have s2 : wr.cell? ⟨w.heap.size + 1, 2, none⟩ = some (.slice none 0 0) := (HB.out.cell (by show w.heap.size + 1 < _; omega)).trans p2
        have sf : ∀ i, wr.frozen? ⟨w.heap.size + 1, i, none⟩ = false := fun i => (HB.out.frozen (by show w.heap.size + 1 < _; omega)).trans (pf i)
        clear q2 hSB p0 p1 p2 pf hRe
        go_wp2_with fail
        refine bodyPost_ret (v := .agg #[.bool false, .int .i64 n, .slice y1 (Fo.len (subF (bnd s) k)) y3]) (by simp [results, Tryd.results36, go_sem, s0, s1, s2]) rfl ⟨y1, Fo.len (subF (bnd s) k), y3, by rw [Hres.out], ?_, set3_below (o := 0) hBw (by omega)⟩
        rw [Hres.out]
        refine (HSB.out.set3 (b := w.heap.size + 1) (o := 0) ?_).wide (fun q hq => ?_)
        · intro h
          rcases h with h | h <;> omega
        · rcases hq with h | h
          · exact .inl h
          · exact .inr ⟨by omega, by rw [World.size_setCell, World.size_setCell, World.size_setCell]; exact h.2⟩
  · have Hres : Hid (subT (bnd s) ((true, n), k) = bnd s n) := rfl
    have hk0 : k = .nil := Hok.out.1 rfl
    subst hk0
    clear had
    go_enter Tryd.func36, Tryd.ntmps36
    go_wp2_with fail
    generalize hW2 : (w.alloc (.cells #[.bool true, .int .i64 n, .slice ad (Fo.len .nil) ac] 26)).alloc (.cells #[.bool false, .int .i64 0, .slice none 0 0] 26) = W2
    have hs2 : W2.heap.size = w.heap.size + 1 + 1 := by rw [← hW2]; simp
    have hB2 : Below w.heap.size w W2 := by rw [← hW2]; exact (below_alloc _ _).alloc (by simp) _
    have p0 : W2.cell? ⟨w.heap.size, 0, none⟩ = some (.bool true) := by rw [← hW2, World.cell?_alloc_lt _ _ _ (by simp)]; exact new_cell rfl
    have p1 : W2.cell? ⟨w.heap.size, 1, none⟩ = some (.int .i64 n) := by rw [← hW2, World.cell?_alloc_lt _ _ _ (by simp)]; exact new_cell rfl
    have p2 : W2.cell? ⟨w.heap.size, 2, none⟩ = some (.slice ad (Fo.len .nil) ac) := by rw [← hW2, World.cell?_alloc_lt _ _ _ (by simp)]; exact new_cell rfl
    have r0 : W2.cell? ⟨w.heap.size + 1, 0, none⟩ = some (.bool false) := by rw [← hW2]; exact new_cell (World.size_alloc _ _)
    have r1 : W2.cell? ⟨w.heap.size + 1, 1, none⟩ = some (.int .i64 0) := by rw [← hW2]; exact new_cell (World.size_alloc _ _)
    have r2 : W2.cell? ⟨w.heap.size + 1, 2, none⟩ = some (.slice none 0 0) := by rw [← hW2]; exact new_cell (World.size_alloc _ _)
    have rf : ∀ i, W2.frozen? ⟨w.heap.size + 1, i, none⟩ = false := fun i => by rw [← hW2]; exact new_frozen (World.size_alloc _ _)
    have HQ := hide (And.intro p0 (And.intro p1 (And.intro p2 (And.intro r0 (And.intro r1 (And.intro r2 rf))))))
    have HB2 := hide hB2
    have Hs2 := hide hs2
    clear p0 p1 p2 r0 r1 r2 rf hB2 hs2 hW2
    go_loopw [14] (fun i wr => ∃ j : Nat, j ≤ s.length ∧ i = .int .i64 j ∧ (∀ q p, q < j → s[q]? = some p → p.1 ≠ n) ∧ Below W2.heap.size W2 wr) (fun i _ => s.length - (intOf i).toNat)
    case atStart => exact ⟨0, Nat.zero_le _, rfl, fun q _ hq => by omega, Below.refl _ _⟩
    case round =>
      obtain ⟨j, hj, rfl, hno, hB⟩ := hrel
      have Hno := hide hno
      have hs2 := Hs2.out
      have hBw : Below w.heap.size w wr := HB2.out.trans (hB.mono (by omega))
      have hB0 : Below W0.heap.size W0 wr := HW.out.trans (hBw.mono hW0)
      have hsz := hB.size
      obtain ⟨q0, q1, q2, q3, q4, q5, qf⟩ := HQ.out
      have p0 := grow_cell hB _ _ q0
      have p1 := grow_cell hB _ _ q1
      have p2 := grow_cell hB _ _ q2
      have s0 := grow_cell hB _ _ q3
      have s1 := grow_cell hB _ _ q4
      have s2 := grow_cell hB _ _ q5
      have sf : ∀ i, wr.frozen? ⟨w.heap.size + 1, i, none⟩ = false := fun i => (hB.frozen (by show w.heap.size + 1 < _; omega)).trans (qf i)
      clear hno q0 q1 q2 q3 q4 q5 qf
      by_cases hlt : j < s.length
      · have hlt' : (j : Int) < (s.length : Int) := by omega
        obtain ⟨⟨m, ⟨tv, tn⟩, tk⟩, hy⟩ : ∃ y, s[j]? = some y := ⟨s[j], by simp [hlt]⟩
        obtain ⟨c0, c1, c2, tv', c3, hSy⟩ := HP.out.at hy
        have c0' := grow_cell hB0 _ _ c0
        have c1' := grow_cell hB0 _ _ c1
        have c2' := grow_cell hB0 _ _ c2
        have c3' := grow_cell hB0 _ _ c3
        have HSy := hide hSy
        obtain ⟨ya, yc, yb, yo, rfl, -, -, -, -⟩ := hSy
        have ha : vd = some ⟨vb, vo, none⟩ := hvd (by omega)
        subst ha
        have Hy := hide hy
        have hx0 : w.heap.size < wr.heap.size := by omega
        have hx1 : w.heap.size + 1 < wr.heap.size := by omega
        clear hy hvd c0 c1 c2 c3
        by_cases hmn : m = n
        · have hmb : (m == n) = true := by simp [hmn]
          have Hl : Hid (bnd s n = ((tv, tn), tk)) := bnd_some (look_first Hno.out (by rw [Hy.out, hmn]))
          clear hmn
          obtain ⟨g0, g1, g2⟩ := set3_cells (w := wr) (b := w.heap.size + 1) (o := 0) (x := .bool tv) (y := .int .i64 tn) (z := .slice ya (Fo.len tk) yc) s0 s1 s2
          have k0 : ((((wr.setCell ⟨w.heap.size + 1, 0, none⟩ (.bool tv)).setCell ⟨w.heap.size + 1, 1, none⟩ (.int .i64 tn)).setCell ⟨w.heap.size + 1, 2, none⟩ (.slice ya (Fo.len tk) yc)).alloc (.cells #[.int .i64 m, .bool tv, .int .i64 tn, .slice ya (Fo.len tk) yc] 52)).cell? ⟨w.heap.size + 1, 0, none⟩ = some (.bool tv) := by
            rw [World.cell?_alloc_lt _ _ _ (by simpa using hx1)]; exact g0
          have k1 : ((((wr.setCell ⟨w.heap.size + 1, 0, none⟩ (.bool tv)).setCell ⟨w.heap.size + 1, 1, none⟩ (.int .i64 tn)).setCell ⟨w.heap.size + 1, 2, none⟩ (.slice ya (Fo.len tk) yc)).alloc (.cells #[.int .i64 m, .bool tv, .int .i64 tn, .slice ya (Fo.len tk) yc] 52)).cell? ⟨w.heap.size + 1, 1, none⟩ = some (.int .i64 tn) := by
            rw [World.cell?_alloc_lt _ _ _ (by simpa using hx1)]; exact g1
          have k2 : ((((wr.setCell ⟨w.heap.size + 1, 0, none⟩ (.bool tv)).setCell ⟨w.heap.size + 1, 1, none⟩ (.int .i64 tn)).setCell ⟨w.heap.size + 1, 2, none⟩ (.slice ya (Fo.len tk) yc)).alloc (.cells #[.int .i64 m, .bool tv, .int .i64 tn, .slice ya (Fo.len tk) yc] 52)).cell? ⟨w.heap.size + 1, 2, none⟩ = some (.slice ya (Fo.len tk) yc) := by
            rw [World.cell?_alloc_lt _ _ _ (by simpa using hx1)]; exact g2
          have hBe : Below w.heap.size w ((((wr.setCell ⟨w.heap.size + 1, 0, none⟩ (.bool tv)).setCell ⟨w.heap.size + 1, 1, none⟩ (.int .i64 tn)).setCell ⟨w.heap.size + 1, 2, none⟩ (.slice ya (Fo.len tk) yc)).alloc (.cells #[.int .i64 m, .bool tv, .int .i64 tn, .slice ya (Fo.len tk) yc] 52)) :=
            (set3_below (b := w.heap.size + 1) (o := 0) hBw (by omega)).alloc (by rw [set3_size]; omega) _
          have Hend := hide (And.intro k0 (And.intro k1 (And.intro k2 hBe)))
          clear k0 k1 k2 hBe g0 g1 g2
          go_wp2_with fail
          obtain ⟨k0, k1, k2, hBe⟩ := Hend.out
          refine bodyPost_ret (v := .agg #[.bool tv, .int .i64 tn, .slice ya (Fo.len tk) yc]) (by simp [results, Tryd.results36, go_sem, k0, k1, k2]) rfl ⟨ya, Fo.len tk, yc, by rw [Hres.out, Hl.out], ?_, hBe⟩
          rw [Hres.out, Hl.out]
          exact (HSy.out.toB.grow (fun _ h => h) (HW.out.trans (hBe.mono hW0))).wide (fun q hq => .inl hq)
        · have hmb : (m == n) = false := by simp [hmn]
          have Hno2 : Hid (∀ q p, q < j + 1 → s[q]? = some p → p.1 ≠ n) := fun q p hq hp => by
            by_cases e : q = j
            · subst e; rw [Hy.out] at hp; cases hp; exact hmn
            · exact Hno.out q p (by omega) hp
          clear hmn
          go_wp2_with fail
          go_roundw
          case rel => exact ⟨j + 1, by omega, by go_num, Hno2.out, hB.alloc hsz _⟩
          case measure => simp [intOf]; omega
      · have Hl : Hid (bnd s n = vr n) := bnd_none (look_all (fun q p hq hp => Hno.out q p (by omega) hp))
        clear hvd
        go_wp2_with fail
        refine bodyPost_ret (v := .agg #[.bool true, .int .i64 n, .slice ad (Fo.len .nil) ac]) (by simp [results, Tryd.results36, go_sem, s0, s1, s2]) rfl ⟨ad, Fo.len .nil, ac, by rw [Hres.out, Hl.out]; rfl, ?_, set3_below (o := 0) hBw (by omega)⟩
        rw [Hres.out, Hl.out]
        exact ⟨ad, ac, b, o, rfl, fun h => by simp [vr, Fo.len] at h, Nat.zero_le _, by unfold maxLen; exact hcm, trivial⟩

end Go.Proofs.YtleogbdinafpaaaDoor

/- Numbers appended to a row of the call's own. -/
namespace Go.Proofs.YtleogbdinafpaaaDoor
open Go.RowKit Go.Deep Go.ChangeShapes Go.WideShapes

theorem append_none {w : World} (base : Nat) (ty : TypeId) (i : TypeInfo) (hi : Tryd.prog.info? 3 = some i) (v : Value) (n c : Nat) (xs : List Value) (hown : w.ownsRow base 3 1 v n xs) :
    (Builtin.append_ #[22, 22] ty #[v, .slice none 0 c]).run Tryd.prog w = .ok v w := by
  have ht := Tryd.underlying22
  rcases hown.2 with ⟨rfl, rfl⟩ | ⟨g, cap, cur, rfl, _, _, hnc, _⟩
  · simp [Builtin.append_, run_underlying ht, sizeOf, typeInfo, hi, Builtin.lenOf, Builtin.firstCells]
  · simp [Builtin.append_, run_underlying ht, sizeOf, typeInfo, hi, Builtin.lenOf, Builtin.firstCells, hnc, storeCells]

theorem run_append_nums {w : World} (ty : TypeId) (base : Nat) (v : Value) (n : Nat) (xs : List Value) (hown : w.ownsRow base 3 1 v n xs) (l : List Int) (lv : Value) (hN : NIn w l lv) (hb : (n + l.length) * 8 ≤ 140737488355328) (hbase : base ≤ w.heap.size) :
    ∃ v' w', (Builtin.append_ #[22, 22] ty #[v, lv]).run Tryd.prog w = .ok v' w' ∧ w'.ownsRow base 3 1 v' (n + l.length) (xs ++ vals l) ∧ w.grownBy w' v.ownBlock ∧ (v'.ownBlock = v.ownBlock ∨ v'.ownBlock = some w.heap.size) := by
  obtain ⟨i3, hi3, hy0, hy1, hy2⟩ := info_parts Tryd.info3
  obtain ⟨a, c, b, o, rfl, ha, hlc, hcm, hF⟩ := hN
  cases a with
  | none =>
    have h0 : l = [] := by
      cases l with
      | nil => rfl
      | cons _ _ => have := ha (by simp); cases this
    subst h0
    exact ⟨v, w, append_none base ty i3 hi3 v n c xs hown, by simpa using hown, ⟨rfl, rfl, rfl, Nat.le_refl _, fun _ _ _ => rfl⟩, .inl rfl⟩
  | some ad =>
    obtain ⟨v', w', hr, h2, h3, _, h5⟩ := run_append_own_at (P := Tryd.prog) w base 22 ty 3 i3 (.int .i64 0) 1 8 Tryd.underlying22 hi3 hy0 hy1 hy2 rfl (by decide) v n xs hown ad l.length c (vals l) (by simp) (fun j u hu => by
        have hj : j < l.length := by
          have := (List.getElem?_eq_some_iff.1 hu).1
          simpa using this
        have hae : ad = ⟨b, o, none⟩ := by have := ha (by omega); simpa using this
        have hc := hF j hj
        have e : u = .int .i64 (l.getD j 0) := by
          simp [List.getD_eq_getElem?_getD, hj] at hu ⊢
          exact hu.symm
        rw [hae, add_plain, e]
        exact hc) (ints_oneCell _ _) (by unfold maxLen; omega) hb hbase
    exact ⟨v', w', hr, h2, h3, h5⟩

theorem wp_append_nums {w : World} {o : Oper} {a : Act} {K : Act → World → Prop} {Q : Exit → Act → World → Prop} (s x : Operand)
    (ho : o.op = .call { callee := .builtin .append, args := #[s, x], argTypes := #[22, 22] }) (base : Nat) (v : Value) (n : Nat) (xs : List Value) (hs : a.eval s = v) (hown : w.ownsRow base 3 1 v n xs) (l : List Int) (lv : Value) (hx : a.eval x = lv) (hN : NIn w l lv) (hb : (n + l.length) * 8 ≤ 140737488355328) (hbase : base ≤ w.heap.size)
    (h : ∀ v' w', w'.ownsRow base 3 1 v' (n + l.length) (xs ++ vals l) → w.grownBy w' v.ownBlock → (v'.ownBlock = v.ownBlock ∨ v'.ownBlock = some w.heap.size) → K (a.put o.dst v') w') : o.wp Tryd.prog a w K Q := by
  obtain ⟨v', w', hr, h2, h3, h4⟩ := run_append_nums o.type base v n xs hown l lv hN hb hbase
  unfold Oper.wp execOp
  simp only [ho, resolve, invoke, builtin, Sem.run_bind, Sem.run_pure, Result.andThen_ok, List.map_toArray, List.map_cons, List.map_nil, hs, hx, hr]
  exact h v' w' h2 h3 h4

theorem wpList_append_nums {w : World} {ops : Array Oper} {rest : List Oper} {o : Oper} {a : Act} {Q : Exit → Act → World → Prop} (hgd : o.guard = none) (s x : Operand)
    (ho : o.op = .call { callee := .builtin .append, args := #[s, x], argTypes := #[22, 22] }) (base : Nat) (v : Value) (n : Nat) (xs : List Value) (hs : a.eval s = v) (hown : w.ownsRow base 3 1 v n xs) (l : List Int) (lv : Value) (hx : a.eval x = lv) (hN : NIn w l lv) (hb : (n + l.length) * 8 ≤ 140737488355328) (hbase : base ≤ w.heap.size)
    (h : ∀ v' w', w'.ownsRow base 3 1 v' (n + l.length) (xs ++ vals l) → w.grownBy w' v.ownBlock → (v'.ownBlock = v.ownBlock ∨ v'.ownBlock = some w.heap.size) → wpList Tryd.prog ops Q rest (a.put o.dst v') w') : wpList Tryd.prog ops Q (o :: rest) a w :=
  wpList_plain hgd fun _ hK => wp_append_nums s x ho base v n xs hs hown l lv hx hN hb hbase fun v' w' h2 h3 h4 => hK _ _ (h v' w' h2 h3 h4)

theorem step_append_nums {w : World} {ops : Array Oper} {o : Oper} {a : Act} {K : Act → World → Prop} {Q : Exit → Act → World → Prop} {E : Prop} (hgd : o.guard = none) (s x : Operand)
    (ho : o.op = .call { callee := .builtin .append, args := #[s, x], argTypes := #[22, 22] }) (base : Nat) (v : Value) (n : Nat) (xs : List Value) (hs : a.eval s = v) (hown : w.ownsRow base 3 1 v n xs) (l : List Int) (lv : Value) (hx : a.eval x = lv) (hN : NIn w l lv) (hb : (n + l.length) * 8 ≤ 140737488355328) (hbase : base ≤ w.heap.size)
    (h : ∀ v' w', w'.ownsRow base 3 1 v' (n + l.length) (xs ++ vals l) → w.grownBy w' v.ownBlock → (v'.ownBlock = v.ownBlock ∨ v'.ownBlock = some w.heap.size) → K (a.put o.dst v') w') :
    if Region.wanted o (yielded ops a.tmps) = true then Oper.wp Tryd.prog o a w K Q else E := by
  have hw : Region.wanted o (yielded ops a.tmps) = true := by simp [Region.wanted, hgd]
  rw [if_pos hw]
  exact wp_append_nums s x ho base v n xs hs hown l lv hx hN hb hbase h

/-- An empty row that was laid. -/
theorem own_empty {w : World} {base e : Nat} (h : w.heap[e]? = some (.cells #[] 3)) (hb : base ≤ e) : w.ownsRow base 3 1 (.slice (some ⟨e, 0, none⟩) 0 0) 0 [] :=
  ⟨rfl, .inr ⟨e, 0, #[], rfl, hb, h, Nat.le_refl _, Nat.zero_le _, rfl, rfl⟩⟩
/-- One number that was laid. -/
theorem nin_one {w : World} {e : Nat} {n : Int} (h : w.heap[e]? = some (.cells #[.int .i64 n] 3)) : NIn w [n] (.slice (some ⟨e, 0, none⟩) 1 1) := by
  refine ⟨_, 1, e, 0, rfl, fun _ => rfl, Nat.le_refl _, by unfold maxLen; omega, fun i hi => ?_⟩
  have : i = 0 := by simpa using hi
  subst this
  simp [World.cell?, h]

end Go.Proofs.YtleogbdinafpaaaDoor
