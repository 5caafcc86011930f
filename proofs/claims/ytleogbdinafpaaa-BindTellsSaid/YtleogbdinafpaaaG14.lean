/- What makes two terms the same: both rows of bind's Unify, step by step. -/
import Derived.Test.YtleogbdinafpaaaG13
import Derived.Deep.LoopGhost
import Derived.Test.YtleogbdinafpaaaG12
import Derived.Test.YtleogbdinafpaaaG11
namespace Go.Proofs.Ytleogbdinafpaaa
open Go.RowKit Go.Deep Go.ChangeShapes Go.WideShapes

/-- All blocks but the two rows. -/
def XX (w : World) (v1 v2 : Value) : Nat → Prop := fun q => q < w.heap.size ∧ some q ≠ v1.ownBlock ∧ some q ≠ v2.ownBlock

theorem rows_differ {w : World} {lo lo' n m : Nat} {v1 v2 : Value} {xs ys : List Value} (h1 : w.ownsRow lo 48 4 v1 n xs) (h2 : w.ownsRow lo' 42 6 v2 m ys) : ∀ g, v1.ownBlock = some g → v2.ownBlock ≠ some g := by
  intro g e1 e2
  rcases h1.2 with ⟨rfl, _⟩ | ⟨g1, c1, cur1, rfl, _, hh1, _⟩
  · simp [Value.ownBlock] at e1
  · rcases h2.2 with ⟨rfl, _⟩ | ⟨g2, c2, cur2, rfl, _, hh2, _⟩
    · simp [Value.ownBlock] at e2
    · simp [Value.ownBlock] at e1 e2
      subst e1 e2
      rw [hh1] at hh2
      simp at hh2

/-- Both rows, as Unify has them. -/
structure Two (lo : Nat) (w : World) (s : Sb) (T : List (Tm × Tm)) (v1 v2 : Value) (xs ys : List Value) : Prop where
  sub : OwnS lo (XX w v1 v2) w s v1 xs
  cou : OwnC lo (XX w v1 v2) w T v2 ys

theorem Two.below {lo : Nat} {w w' : World} {s : Sb} {T : List (Tm × Tm)} {v1 v2 : Value} {xs ys : List Value} (h : Two lo w s T v1 v2 xs ys) (hb : Below w.heap.size w w') : Two lo w' s T v1 v2 xs ys := by
  have hs := hb.size
  refine ⟨(h.sub.below hb).wide (fun q hq => ⟨by have := hq.1; omega, hq.2⟩) (fun q hq => ⟨hq.1, hq.2.1⟩), (h.cou.below hb).wide (fun q hq => ⟨by have := hq.1; omega, hq.2⟩) (fun q hq => ⟨hq.1, hq.2.2⟩)⟩
theorem Two.xx {lo : Nat} {w w' : World} {s : Sb} {T : List (Tm × Tm)} {v1 v2 : Value} {xs ys : List Value} (_ : Two lo w s T v1 v2 xs ys) (hb : Below w.heap.size w w') {k : Fo} {a : Value} (hk : SB (XX w v1 v2) w k a) : SB (XX w' v1 v2) w' k a :=
  (hk.grow (fun _ hq => hq.1) hb).wide (fun _ hq => ⟨Nat.lt_of_lt_of_le hq.1 hb.size, hq.2⟩)
/-- What is new behind a call is in no row. -/
theorem Two.new {lo : Nat} {w w' : World} {s : Sb} {T : List (Tm × Tm)} {v1 v2 : Value} {xs ys : List Value} (h : Two lo w s T v1 v2 xs ys) {k : Fo} {a : Value} (hk : SB (fun q => w.heap.size ≤ q ∧ q < w'.heap.size) w' k a) : SB (XX w' v1 v2) w' k a :=
  hk.wide (fun q hq => ⟨hq.2, fun e => by have := (owns_at h.sub.row q e.symm).2; omega, fun e => by have := (owns_at h.cou.row q e.symm).2; omega⟩)

theorem two_add {lo : Nat} {wa w2 : World} {s s' : Sb} {T : List (Tm × Tm)} {v1 v1' v2 : Value} {xs xs' ys : List Value} (h : Two lo wa s T v1 v2 xs ys) (h1 : OwnS lo (Ex (XX wa v1 v2) wa w2 v1') w2 s' v1' xs') (hf : Fr wa w2 v1.ownBlock none) : Two lo w2 s' T v1' v2 xs' ys := by
  have hs := hf.size
  have hd := rows_differ h.sub.row h.cou.row
  have hrow : w2.ownsRow lo 42 6 v2 T.length ys := owns_keep h.cou.row (fun g hg => hf.block g (owns_at h.cou.row g hg).2 (fun e => hd g e.symm hg) (by simp))
  refine ⟨h1.wide (fun q hq => ?_) (fun q hq => ⟨hq.1, hq.2.1⟩), ⟨hrow, ?_, fun q hq => ⟨hq.1, hq.2.2⟩⟩⟩
  · have h2 := h1.off q hq
    refine ⟨h2.1, h2.2, fun e => ?_⟩
    rcases hq with hq | hq
    · exact hq.2.2 e
    · have := (owns_at h.cou.row q e.symm).2; omega
  · refine h.cou.cells.frame (fun q hq => ⟨by have := hq.1; omega, ?_, hq.2.2⟩) (fun q i hq => World.cell?_of_block (hf.block q hq.1 hq.2.1 (by simp)))
    exact fun e => (h1.off q (.inl hq)).2 e
theorem two_args {lo : Nat} {wa w2 : World} {s : Sb} {T T' : List (Tm × Tm)} {v1 v2 v2' : Value} {xs ys ys' : List Value} (h : Two lo wa s T v1 v2 xs ys) (h1 : OwnC lo (Ex (XX wa v1 v2) wa w2 v2') w2 T' v2' ys') (hf : Fr wa w2 v2.ownBlock none) : Two lo w2 s T' v1 v2' xs ys' := by
  have hs := hf.size
  have hd := rows_differ h.sub.row h.cou.row
  have hrow : w2.ownsRow lo 48 4 v1 s.length xs := owns_keep h.sub.row (fun g hg => hf.block g (owns_at h.sub.row g hg).2 (fun e => hd g hg e.symm) (by simp))
  refine ⟨⟨hrow, ?_, fun q hq => ⟨hq.1, hq.2.1⟩⟩, h1.wide (fun q hq => ?_) (fun q hq => ⟨hq.1, hq.2.2⟩)⟩
  · refine h.sub.cells.frame (fun q hq => ⟨by have := hq.1; omega, hq.2.1, ?_⟩) (fun q i hq => World.cell?_of_block (hf.block q hq.1 hq.2.2 (by simp)))
    exact fun e => (h1.off q (.inl hq)).2 e
  · have h2 := h1.off q hq
    refine ⟨h2.1, fun e => ?_, h2.2⟩
    rcases hq with hq | hq
    · exact hq.2.1 e
    · have := (owns_at h.sub.row q e.symm).2; omega

/-- The last couple is taken away. -/
theorem two_pop {lo : Nat} {w : World} {s : Sb} {T : List (Tm × Tm)} {p : Tm × Tm} {v1 : Value} {g cap : Nat} {xs ys : List Value} (h : Two lo w s (T ++ [p]) v1 (.slice (some ⟨g, 0, none⟩) (T.length + 1) cap) xs ys) :
    ∃ ys' a b, Two lo w s T v1 (.slice (some ⟨g, 0, none⟩) T.length cap) xs ys' ∧ SB (XX w v1 (.slice (some ⟨g, 0, none⟩) T.length cap)) w p.1.2 a ∧ SB (XX w v1 (.slice (some ⟨g, 0, none⟩) T.length cap)) w p.2.2 b ∧
      w.cell? ⟨g, T.length * 6, none⟩ = some (.bool p.1.1.1) ∧ w.cell? ⟨g, T.length * 6 + 1, none⟩ = some (.int .i64 p.1.1.2) ∧ w.cell? ⟨g, T.length * 6 + 2, none⟩ = some a ∧ w.cell? ⟨g, T.length * 6 + 3, none⟩ = some (.bool p.2.1.1) ∧ w.cell? ⟨g, T.length * 6 + 4, none⟩ = some (.int .i64 p.2.1.2) ∧ w.cell? ⟨g, T.length * 6 + 5, none⟩ = some b := by
  have hrow := h.cou.row
  rw [List.length_append, List.length_singleton] at hrow
  obtain ⟨ys', zs, rfl, h1, a, b, us, rfl, h2, h3, h4⟩ := CC.split h.cou.cells
  rw [CC] at h4
  subst h4
  have hl := h1.len
  have hc : ∀ i v, i < 6 → [Value.bool p.1.1.1, .int .i64 p.1.1.2, a, .bool p.2.1.1, .int .i64 p.2.1.2, b][i]? = some v → w.cell? ⟨g, T.length * 6 + i, none⟩ = some v := fun i v hi hv => by
    rw [hrow.cellAt (T.length * 6 + i) (by omega), List.getElem?_append_right (by omega), ← hv]
    congr 1
    omega
  refine ⟨ys', a, b, ⟨⟨h.sub.row, h.sub.cells, h.sub.off⟩, ⟨ownsRow_pop hl hrow, h1, h.cou.off⟩⟩, h2, h3, hc 0 _ (by omega) rfl, hc 1 _ (by omega) rfl, hc 2 _ (by omega) rfl, hc 3 _ (by omega) rfl, hc 4 _ (by omega) rfl, hc 5 _ (by omega) rfl⟩

/-- Where a pair's term lies. -/
theorem ownS_at {lo : Nat} {X : Nat → Prop} {w : World} {s : Sb} {v : Value} {xs : List Value} (h : OwnS lo X w s v xs) : ∀ (i : Nat) (p : Int × Tm) (c b o : Nat), v = .slice (some ⟨b, o, none⟩) s.length c → s[i]? = some p → ∃ u, w.cell? ⟨b, o + i * 4 + 3, none⟩ = some u ∧ SB X w p.2.2 u := by
  intro i p c b o e hi
  subst e
  have hrow := h.row
  have hil : i < s.length := by
    rcases Nat.lt_or_ge i s.length with h' | h'
    · exact h'
    · rw [List.getElem?_eq_none h'] at hi; cases hi
  obtain ⟨_, _, _, a, d3, hS⟩ := h.cells.cellsAt hi
  rcases hrow.2 with ⟨e, _⟩ | ⟨g, cap, cur, e, _⟩
  · cases e
  · simp only [Value.slice.injEq, Option.some.injEq, Addr.mk.injEq, true_and, and_true] at e
    obtain ⟨⟨rfl, rfl⟩, rfl⟩ := e
    refine ⟨a, ?_, hS⟩
    rw [Nat.zero_add, hrow.cellAt (i * 4 + 3) (by omega)]
    exact d3

theorem pop_run {n c g : Nat} (hc : n + 1 ≤ c) (w : World) : (Instr.slice 43 (.slice (some ⟨g, 0, none⟩) (n + 1) c) none (some (.int .i64 (n : Int))) none).run Try.prog w = .ok (.slice (some ⟨g, 0, none⟩) n c) w := by
  rw [run_slice_h (ht := by kernel_rfl) (h0 := by omega) (h2 := by omega)]
  have e : (sizeOf (Try.prog.elem 43)).run Try.prog w = .ok 6 w := by
    rw [show Try.prog.elem 43 = 42 by kernel_rfl]
    simp [go_sem]
  simp only [Result.andThen, sliced, e]
  simp [Addr.add]

theorem nodup_len : ∀ {l m : List Int}, l.Nodup → (∀ x ∈ l, x ∈ m) → l.length ≤ m.length
  | [], _, _, _ => Nat.zero_le _
  | x :: l, m, hn, hm => by
    have hx : x ∈ m := hm x (by simp)
    rw [List.nodup_cons] at hn
    have ih := nodup_len (l := l) (m := m.erase x) hn.2 (fun y hy => (List.mem_erase_of_ne (fun (e : y = x) => hn.1 (e ▸ hy))).2 (hm y (by simp [hy])))
    rw [List.length_erase_of_mem hx] at ih
    have := List.length_pos_of_mem hx
    simp only [List.length_cons]
    omega
theorem gd_vars {t : Tm} (h : Gd t) : (varsT t.1 t.2 []).length ≤ 5 := by
  have hn : (varsT t.1 t.2 []).Nodup := by
    unfold varsT
    split
    · simp [hasB]
    · exact varsF_nodup (by simp)
  have := nodup_len (m := [0, 1, 2, 3, 4]) hn (fun x hx => by
    have := h.few x (occ_varsT.1 hx)
    have e : x = 0 ∨ x = 1 ∨ x = 2 ∨ x = 3 ∨ x = 4 := by omega
    rcases e with rfl | rfl | rfl | rfl | rfl <;> simp)
  exact this

end Go.Proofs.Ytleogbdinafpaaa

/- What makes two terms the same: bind's Unify. -/
namespace Go.Proofs.Ytleogbdinafpaaa
open Go.RowKit Go.Deep Go.ChangeShapes Go.WideShapes
attribute [local go_sem ↓] Go.wp_at_zero Go.wp_at_succ

def UniPost (w : World) (R : Option Sb) (e : Ending) (w' : World) : Prop :=
  Below w.heap.size w w' ∧ ∃ (z1 : Option Addr) (m z3 : Nat) (ok : Bool), e = .returned (.tuple #[.slice z1 m z3, .bool ok]) ∧ (ok = false → R = none ∧ z1 = none ∧ m = 0 ∧ z3 = 0) ∧ (ok = true → ∃ s', R = some s' ∧ m = s'.length ∧ SubIn w' s' (.slice z1 m z3))

theorem uni_start {w W2 : World} {x y : Bool × Int} {k l : Fo} {a c : Value} (hB : Below w.heap.size w W2) (hS : SIn w k a) (hU : SIn w l c) (hs : w.heap.size + 1 + 1 = W2.heap.size) :
    Two w.heap.size (W2.alloc (.cells #[.bool x.1, .int .i64 x.2, a, .bool y.1, .int .i64 y.2, c] 42)) [] [((x, k), (y, l))] (.slice none 0 0) (.slice (some ⟨w.heap.size + 1 + 1, 0, none⟩) 1 1) [] [.bool x.1, .int .i64 x.2, a, .bool y.1, .int .i64 y.2, c] := by
  have hb3 : Below w.heap.size w (W2.alloc (.cells #[.bool x.1, .int .i64 x.2, a, .bool y.1, .int .i64 y.2, c] 42)) := hB.alloc hB.size _
  have hsz := hB.size
  have hw : ∀ q, q < w.heap.size → XX (W2.alloc (.cells #[.bool x.1, .int .i64 x.2, a, .bool y.1, .int .i64 y.2, c] 42)) (.slice none 0 0) (.slice (some ⟨w.heap.size + 1 + 1, 0, none⟩) 1 1) q := fun q hq => by
    refine ⟨by simp; omega, by simp [Value.ownBlock], ?_⟩
    intro e
    simp [Value.ownBlock] at e
    omega
  refine ⟨⟨World.ownsRow_nil _ _ _ _, rfl, fun q hq => ⟨hq.1, hq.2.1⟩⟩, ⟨?_, ?_, fun q hq => ⟨hq.1, hq.2.2⟩⟩⟩
  · have := World.ownsRow_lit (base := w.heap.size) (e := 42) (size := 6) W2 #[.bool x.1, .int .i64 x.2, a, .bool y.1, .int .i64 y.2, c] 1 hsz (by decide) rfl
    rw [← hs] at this
    exact this
  · exact CC.one (p := ((x, k), (y, l))) ((hS.toB.grow (fun _ h => h) hb3).wide hw) ((hU.toB.grow (fun _ h => h) hb3).wide hw)

/-- Boxes that were made ahead of a call, behind it. -/
def Bx (w : World) (q : Nat) : Prop := (∃ x, w.cell? ⟨q, 0, none⟩ = some x) ∧ (∃ x, w.cell? ⟨q, 1, none⟩ = some x) ∧ (∃ x, w.cell? ⟨q, 2, none⟩ = some x) ∧ ∀ i, w.frozen? ⟨q, i, none⟩ = false
theorem box1 {W w1 : World} {x y z : Value} (h : Below (W.alloc (.cells #[x, y, z] 26)).heap.size (W.alloc (.cells #[x, y, z] 26)) w1) : w1.cell? ⟨W.heap.size, 0, none⟩ = some x ∧ w1.cell? ⟨W.heap.size, 1, none⟩ = some y ∧ w1.cell? ⟨W.heap.size, 2, none⟩ = some z ∧ (∀ i, w1.frozen? ⟨W.heap.size, i, none⟩ = false) ∧ W.heap.size < w1.heap.size := by
  obtain ⟨a, b, c, d, _, e⟩ := box_full h
  exact ⟨a, b, c, d, e⟩
theorem box1d {W w1 : World} {x y z : Value} (h : Below (W.alloc (.cells #[x, y, z] 26)).drew.heap.size (W.alloc (.cells #[x, y, z] 26)).drew w1) : w1.cell? ⟨W.heap.size, 0, none⟩ = some x ∧ w1.cell? ⟨W.heap.size, 1, none⟩ = some y ∧ w1.cell? ⟨W.heap.size, 2, none⟩ = some z ∧ (∀ i, w1.frozen? ⟨W.heap.size, i, none⟩ = false) ∧ W.heap.size < w1.heap.size :=
  box1 ((Below.refl _ _).drew.trans h)
theorem box2 {W w1 : World} {x y z x' y' z' : Value} (h : Below ((W.alloc (.cells #[x, y, z] 26)).alloc (.cells #[x', y', z'] 26)).heap.size ((W.alloc (.cells #[x, y, z] 26)).alloc (.cells #[x', y', z'] 26)) w1) :
    (w1.cell? ⟨W.heap.size, 0, none⟩ = some x ∧ w1.cell? ⟨W.heap.size, 1, none⟩ = some y ∧ w1.cell? ⟨W.heap.size, 2, none⟩ = some z ∧ (∀ i, w1.frozen? ⟨W.heap.size, i, none⟩ = false)) ∧
    (w1.cell? ⟨W.heap.size + 1, 0, none⟩ = some x' ∧ w1.cell? ⟨W.heap.size + 1, 1, none⟩ = some y' ∧ w1.cell? ⟨W.heap.size + 1, 2, none⟩ = some z' ∧ (∀ i, w1.frozen? ⟨W.heap.size + 1, i, none⟩ = false)) ∧ W.heap.size + 1 < w1.heap.size := by
  obtain ⟨a, b, c, d, e1, e2⟩ := box_full h
  obtain ⟨a', b', c', d', _, _⟩ := box_full e1
  rw [World.size_alloc] at a b c d e2
  exact ⟨⟨a', b', c', d'⟩, ⟨a, b, c, d⟩, e2⟩
theorem box2d {W w1 : World} {x y z x' y' z' : Value} (h : Below ((W.alloc (.cells #[x, y, z] 26)).alloc (.cells #[x', y', z'] 26)).drew.heap.size ((W.alloc (.cells #[x, y, z] 26)).alloc (.cells #[x', y', z'] 26)).drew w1) :
    (w1.cell? ⟨W.heap.size, 0, none⟩ = some x ∧ w1.cell? ⟨W.heap.size, 1, none⟩ = some y ∧ w1.cell? ⟨W.heap.size, 2, none⟩ = some z ∧ (∀ i, w1.frozen? ⟨W.heap.size, i, none⟩ = false)) ∧
    (w1.cell? ⟨W.heap.size + 1, 0, none⟩ = some x' ∧ w1.cell? ⟨W.heap.size + 1, 1, none⟩ = some y' ∧ w1.cell? ⟨W.heap.size + 1, 2, none⟩ = some z' ∧ (∀ i, w1.frozen? ⟨W.heap.size + 1, i, none⟩ = false)) ∧ W.heap.size + 1 < w1.heap.size :=
  box2 ((Below.refl _ _).drew.trans h)

theorem thus {p q : Prop} (h : p) (k : p → q) : q := k h

/-- A box's three cells. -/
def C3 (w : World) (b : Nat) (x y z : Value) : Prop := w.cell? ⟨b, 0, none⟩ = some x ∧ w.cell? ⟨b, 1, none⟩ = some y ∧ w.cell? ⟨b, 2, none⟩ = some z
theorem fin0 {wn W : World} {x y z x' y' z' : Value} (h : Below wn.heap.size wn W) : C3 ((W.alloc (.cells #[x, y, z] 26)).alloc (.cells #[x', y', z'] 26)) W.heap.size x y z ∧ C3 ((W.alloc (.cells #[x, y, z] 26)).alloc (.cells #[x', y', z'] 26)) (W.heap.size + 1) x' y' z' ∧ Below wn.heap.size wn ((W.alloc (.cells #[x, y, z] 26)).alloc (.cells #[x', y', z'] 26)) := by
  have hs := h.size
  refine ⟨⟨?_, ?_, ?_⟩, ⟨new_cell (World.size_alloc _ _), new_cell (World.size_alloc _ _), new_cell (World.size_alloc _ _)⟩, (h.alloc hs _).alloc (by simp; omega) _⟩
  · rw [World.cell?_alloc_lt _ _ _ (by simp)]; exact new_cell rfl
  · rw [World.cell?_alloc_lt _ _ _ (by simp)]; exact new_cell rfl
  · rw [World.cell?_alloc_lt _ _ _ (by simp)]; exact new_cell rfl
theorem fin1 {wn W : World} {b : Nat} {x y z x' y' z' u0 u1 u2 : Value} (h : Below wn.heap.size wn W) (hb : wn.heap.size ≤ b) (h0 : W.cell? ⟨b, 0, none⟩ = some u0) (h1 : W.cell? ⟨b, 1, none⟩ = some u1) (h2 : W.cell? ⟨b, 2, none⟩ = some u2) :
    C3 ((((W.setCell ⟨b, 0, none⟩ x).setCell ⟨b, 1, none⟩ y).setCell ⟨b, 2, none⟩ z).alloc (.cells #[x', y', z'] 26)) b x y z ∧ C3 ((((W.setCell ⟨b, 0, none⟩ x).setCell ⟨b, 1, none⟩ y).setCell ⟨b, 2, none⟩ z).alloc (.cells #[x', y', z'] 26)) W.heap.size x' y' z' ∧ Below wn.heap.size wn ((((W.setCell ⟨b, 0, none⟩ x).setCell ⟨b, 1, none⟩ y).setCell ⟨b, 2, none⟩ z).alloc (.cells #[x', y', z'] 26)) := by
  have hs := h.size
  have hbl : b < W.heap.size := World.block_lt_of_cell? _ _ h0
  have hsz : (set3 W b 0 x y z).heap.size = W.heap.size := set3_size
  obtain ⟨g0, g1, g2⟩ := set3_cells (x := x) (y := y) (z := z) (o := 0) h0 h1 h2
  have e : (((W.setCell ⟨b, 0, none⟩ x).setCell ⟨b, 1, none⟩ y).setCell ⟨b, 2, none⟩ z) = set3 W b 0 x y z := rfl
  rw [e]
  refine ⟨⟨?_, ?_, ?_⟩, ⟨new_cell hsz, new_cell hsz, new_cell hsz⟩, (set3_below (o := 0) h hb).alloc (by rw [hsz]; exact hs) _⟩
  · rw [World.cell?_alloc_lt _ _ _ (by rw [hsz]; exact hbl)]; exact g0
  · rw [World.cell?_alloc_lt _ _ _ (by rw [hsz]; exact hbl)]; exact g1
  · rw [World.cell?_alloc_lt _ _ _ (by rw [hsz]; exact hbl)]; exact g2
theorem fin2 {wn W : World} {b d : Nat} {x y z x' y' z' u0 u1 u2 t0 t1 t2 : Value} (h : Below wn.heap.size wn W) (hb : wn.heap.size ≤ b) (hd : wn.heap.size ≤ d) (hn : b ≠ d) (h0 : W.cell? ⟨b, 0, none⟩ = some u0) (h1 : W.cell? ⟨b, 1, none⟩ = some u1) (h2 : W.cell? ⟨b, 2, none⟩ = some u2) (k0 : W.cell? ⟨d, 0, none⟩ = some t0) (k1 : W.cell? ⟨d, 1, none⟩ = some t1) (k2 : W.cell? ⟨d, 2, none⟩ = some t2) :
    C3 ((((((W.setCell ⟨b, 0, none⟩ x).setCell ⟨b, 1, none⟩ y).setCell ⟨b, 2, none⟩ z).setCell ⟨d, 0, none⟩ x').setCell ⟨d, 1, none⟩ y').setCell ⟨d, 2, none⟩ z') b x y z ∧ C3 ((((((W.setCell ⟨b, 0, none⟩ x).setCell ⟨b, 1, none⟩ y).setCell ⟨b, 2, none⟩ z).setCell ⟨d, 0, none⟩ x').setCell ⟨d, 1, none⟩ y').setCell ⟨d, 2, none⟩ z') d x' y' z' ∧ Below wn.heap.size wn ((((((W.setCell ⟨b, 0, none⟩ x).setCell ⟨b, 1, none⟩ y).setCell ⟨b, 2, none⟩ z).setCell ⟨d, 0, none⟩ x').setCell ⟨d, 1, none⟩ y').setCell ⟨d, 2, none⟩ z') := by
  obtain ⟨g0, g1, g2⟩ := set3_cells (x := x) (y := y) (z := z) (o := 0) h0 h1 h2
  have m0 : (set3 W b 0 x y z).cell? ⟨d, 0, none⟩ = some t0 := (set3_other (.inl (Ne.symm hn))).trans k0
  have m1 : (set3 W b 0 x y z).cell? ⟨d, 1, none⟩ = some t1 := (set3_other (.inl (Ne.symm hn))).trans k1
  have m2 : (set3 W b 0 x y z).cell? ⟨d, 2, none⟩ = some t2 := (set3_other (.inl (Ne.symm hn))).trans k2
  obtain ⟨l0, l1, l2⟩ := set3_cells (x := x') (y := y') (z := z') (o := 0) m0 m1 m2
  exact ⟨⟨(set3_other (o := 0) (.inl hn)).trans g0, (set3_other (o := 0) (.inl hn)).trans g1, (set3_other (o := 0) (.inl hn)).trans g2⟩, ⟨l0, l1, l2⟩, set3_below (o := 0) (set3_below (o := 0) h hb) hd⟩
theorem swap3 {p q r : Prop} (h : p ∧ q ∧ r) : q ∧ p ∧ r := ⟨h.2.1, h.1, h.2.2⟩

/-- What outermost answers, whenever it is called. -/
theorem top_call {lo : Nat} {wn : World} {s : Sb} {T : List (Tm × Tm)} {s1 : Option Addr} {s3 : Nat} {v2 : Value} {xs ys : List Value} {p z : Bool × Int} {k zk : Fo} {a1 : Option Addr} {a3 : Nat} (hT : Two lo wn s T (.slice s1 s.length s3) v2 xs ys) (hk : SB (XX wn (.slice s1 s.length s3) v2) wn k (.slice a1 (Fo.len k) a3)) (hz : (z, zk) = top s (p, k)) (w' : World) (hb : Below wn.heap.size wn w') :
    Calls Try.prog 18 #[.slice s1 s.length s3, .agg #[.bool p.1, .int .i64 p.2, .slice a1 (Fo.len k) a3]] w' fun e w'' => ∃ (x1 : Option Addr) (x3 : Nat), e = .returned (.agg #[.bool z.1, .int .i64 z.2, .slice x1 (Fo.len zk) x3]) ∧ SB (XX wn (.slice s1 s.length s3) v2) wn zk (.slice x1 (Fo.len zk) x3) ∧ Below w'.heap.size w' w'' := by
  have hO := hT.sub.below hb
  refine (outermost_any (XX wn (.slice s1 s.length s3) v2) s _ p k _ w' (fun q hq => Nat.lt_of_lt_of_le hq.1 hb.size) hO.sub (fun i q v b o e hi => ownS_at hO i q v b o e hi) (hk.grow (fun _ hq => hq.1) hb)).mono ?_
  rintro e w'' ⟨x1, x2, x3, rfl, hS, hb2⟩
  rw [← hz] at hS ⊢
  have hS' := hS
  obtain ⟨_, _, _, _, e, _⟩ := hS'
  simp only [Value.slice.injEq] at e
  obtain ⟨rfl, rfl, rfl⟩ := e
  exact ⟨_, _, rfl, hS.shrink (fun _ hq => hq.1) (below_step hb hb2), hb2⟩

theorem stepU_same {s : Sb} {a b x y : Tm} {L : List (Tm × Tm)} (hx : x = top s a) (hy : y = top s b) (h1 : x.1.1 = true) (h2 : y.1.1 = true) (h3 : x.1.2 = y.1.2) : stepU s a b L = some (s, L) := by
  subst hx hy
  unfold stepU
  rw [if_pos ⟨h1, h2, h3⟩]
theorem stepU_x {s : Sb} {a b x y : Tm} {L : List (Tm × Tm)} (hx : x = top s a) (hy : y = top s b) (h1 : x.1.1 = true) (h2 : ¬ (y.1.1 = true ∧ x.1.2 = y.1.2)) : stepU s a b L = (addS s x.1.2 (subT (bnd s) y)).map fun s' => (s', L) := by
  subst hx hy
  unfold stepU
  rw [if_neg (fun h => h2 h.2), if_pos h1]
theorem stepU_y {s : Sb} {a b x y : Tm} {L : List (Tm × Tm)} (hx : x = top s a) (hy : y = top s b) (h1 : x.1.1 = false) (h2 : y.1.1 = true) : stepU s a b L = (addS s y.1.2 (subT (bnd s) x)).map fun s' => (s', L) := by
  subst hx hy
  unfold stepU
  rw [if_neg (fun h => by rw [h1] at h; exact absurd h.1 (by decide)), if_neg (by rw [h1]; decide), if_pos h2]
theorem stepU_args {s : Sb} {a b x y : Tm} {L : List (Tm × Tm)} (hx : x = top s a) (hy : y = top s b) (h1 : x.1.1 = false) (h2 : y.1.1 = false) (h3 : x.1.2 = y.1.2) (h4 : Fo.len x.2 = Fo.len y.2) : stepU s a b L = some (s, x.2.list.zip y.2.list ++ L) := by
  subst hx hy
  unfold stepU
  rw [if_neg (fun h => by rw [h1] at h; exact absurd h.1 (by decide)), if_neg (by rw [h1]; decide), if_neg (by rw [h2]; decide), if_pos ⟨h3, h4⟩]
theorem stepU_bad {s : Sb} {a b x y : Tm} {L : List (Tm × Tm)} (hx : x = top s a) (hy : y = top s b) (h1 : x.1.1 = false) (h2 : y.1.1 = false) (h3 : ¬ (x.1.2 = y.1.2 ∧ Fo.len x.2 = Fo.len y.2)) : stepU s a b L = none := by
  subst hx hy
  unfold stepU
  rw [if_neg (fun h => by rw [h1] at h; exact absurd h.1 (by decide)), if_neg (by rw [h1]; decide), if_neg (by rw [h2]; decide), if_neg h3]
/-- One step of the run. -/
theorem run_on {m : Nat} {s s' : Sb} {p : Tm × Tm} {L L' : List (Tm × Tm)} {R : Option Sb} (hI : UI s (p :: L)) (hR : runU (m + 1) s (p :: L) = some R) (h : stepU s p.1 p.2 L = some (s', L')) : UI s' L' ∧ runU m s' L' = some R := by
  refine ⟨(step_keeps hI h).1, ?_⟩
  simpa [runU, h] using hR
theorem run_no {m : Nat} {s : Sb} {p : Tm × Tm} {L : List (Tm × Tm)} {R : Option Sb} (hR : runU (m + 1) s (p :: L) = some R) (h : stepU s p.1 p.2 L = none) : R = none := by
  simpa [runU, h] using hR.symm
theorem uni_no {w w' : World} {R : Option Sb} (hb : Below w.heap.size w w') (h : R = none) : UniPost w R (.returned (.tuple #[.slice none 0 0, .bool false])) w' := ⟨hb, none, 0, 0, false, rfl, fun _ => ⟨h, rfl, rfl, rfl⟩, fun e => by cases e⟩

/-- Apply and then add, as Unify calls them. -/
theorem uni_apply {lo : Nat} {wx w' : World} {s : Sb} {T : List (Tm × Tm)} {s1 : Option Addr} {s3 : Nat} {v2 : Value} {xs ys : List Value} {y t : Bool × Int} {yk tk : Fo} {y1 : Option Addr} {y3 : Nat} (hT : Two lo wx s T (.slice s1 s.length s3) v2 xs ys) (hs : ∀ p ∈ s, Gd p.2) (hk : SB (XX wx (.slice s1 s.length s3) v2) wx yk (.slice y1 (Fo.len yk) y3)) (hg : Gd (y, yk)) (ht : (t, tk) = subT (bnd s) (y, yk)) (hb : Below wx.heap.size wx w') :
    Calls Try.prog 9 #[.slice s1 s.length s3, .agg #[.bool y.1, .int .i64 y.2, .slice y1 (Fo.len yk) y3]] w' fun e w1 => ∃ (a1 : Option Addr) (a3 : Nat), e = .returned (.agg #[.bool t.1, .int .i64 t.2, .slice a1 (Fo.len tk) a3]) ∧ Two lo w1 s T (.slice s1 s.length s3) v2 xs ys ∧ SB (XX w1 (.slice s1 s.length s3) v2) w1 tk (.slice a1 (Fo.len tk) a3) ∧ Below wx.heap.size wx w1 := by
  have hT' := hT.below hb
  refine (apply_any s _ y yk _ w' hT'.sub.sub (fun p hp => ⟨(hs p hp).nar, (hs p hp).ok⟩) (hk.toS.below hb) hg.nar).mono ?_
  rintro e w1 ⟨a', rfl, hO, hb1⟩
  rw [← ht] at hO ⊢
  have hS := hO.toS
  obtain ⟨a1, a3, _, _, rfl, _⟩ := hS
  exact ⟨a1, a3, rfl, hT'.below hb1, hT'.new (hO.toB (fun q q1 q2 => ⟨q1, q2⟩)), below_step hb hb1⟩
theorem uni_add {w w1 : World} {s : Sb} {T : List (Tm × Tm)} {s1 : Option Addr} {s3 : Nat} {v2 : Value} {xs ys : List Value} {t : Bool × Int} {tk : Fo} {a1 : Option Addr} {a3 : Nat} (n : Int) (hw : Below w.heap.size w w1) (hT : Two w.heap.size w1 s T (.slice s1 s.length s3) v2 xs ys) (hs : ∀ p ∈ s, Gd p.2) (hl : s.length ≤ 5) (hk : SB (XX w1 (.slice s1 s.length s3) v2) w1 tk (.slice a1 (Fo.len tk) a3)) (hg : Gd (t, tk)) :
    Calls Try.prog 19 #[.slice s1 s.length s3, .int .i64 n, .agg #[.bool t.1, .int .i64 t.2, .slice a1 (Fo.len tk) a3]] w1 fun e w2 => ∃ (z1 : Option Addr) (m z3 : Nat) (ok : Bool), e = .returned (.tuple #[.slice z1 m z3, .bool ok]) ∧ Below w.heap.size w w2 ∧ (ok = false → addS s n (t, tk) = none) ∧
      (ok = true → ∃ s' xs', addS s n (t, tk) = some s' ∧ m = s'.length ∧ Two w.heap.size w2 s' T (.slice z1 m z3) v2 xs' ys) := by
  have hv := gd_vars hg
  refine (addB_any w.heap.size (XX w1 (.slice s1 s.length s3) v2) s _ xs n t tk _ w1 hT.sub hw.size hk (fun p hp => ⟨(hs p hp).nar, (hs p hp).ok⟩) hg.ok hg.nar (by simp only at hv; omega) (by omega)).mono ?_
  rintro e w2 ⟨hf, z1, m, z3, ok, rfl, hno, hyes⟩
  refine ⟨z1, m, z3, ok, rfl, hw.trans (hf.below hw.size (fun g hg => (owns_at hT.sub.row g hg).1) (fun g hg => by cases hg)), hno, fun e => ?_⟩
  obtain ⟨s', xs', h1, h2, h3, _⟩ := hyes e
  exact ⟨s', xs', h1, h2, two_add hT h3 hf⟩

set_option maxRecDepth 100000 in
set_option maxHeartbeats 4000000 in
theorem unify_any (x : Bool × Int) (k : Fo) (a : Value) (y : Bool × Int) (l : Fo) (c : Value) (w : World) (n : Nat) (R : Option Sb) (hr : runU n [] [((x, k), (y, l))] = some R) (hUI : UI [] [((x, k), (y, l))]) (hS : SIn w k a) (hU : SIn w l c) :
    Calls Try.prog 5 #[.agg #[.bool x.1, .int .i64 x.2, a], .agg #[.bool y.1, .int .i64 y.2, c]] w (UniPost w R) := by
  obtain ⟨xv, xn⟩ := x
  obtain ⟨yv, yn⟩ := y
  have HS := hide hS
  have HU := hide hU
  have Hr := hide hr
  have HUI := hide hUI
  obtain ⟨ad, ac, b, o, rfl, -, -, -, -⟩ := hS
  obtain ⟨ud, uc, ub, uo, rfl, -, -, -, -⟩ := hU
  clear hr hUI
  go_enter Try.func5, Try.ntmps5
  go_wp2_with fail
  generalize hW2 : (w.alloc (.cells #[.bool xv, .int .i64 xn, .slice ad (Fo.len k) ac] 26)).alloc (.cells #[.bool yv, .int .i64 yn, .slice ud (Fo.len l) uc] 26) = W2
  have hB2 : Below w.heap.size w W2 := by rw [← hW2]; exact (below_alloc _ _).alloc (by simp) _
  have hs2 : w.heap.size + 1 + 1 = W2.heap.size := by rw [← hW2]; simp
  have H0 := hide (uni_start (x := (xv, xn)) (y := (yv, yn)) hB2 HS.out HU.out hs2)
  have HB3 : Hid (Below w.heap.size w (W2.alloc (.cells #[.bool xv, .int .i64 xn, .slice ad (Fo.len k) ac, .bool yv, .int .i64 yn, .slice ud (Fo.len l) uc] 42))) := hB2.alloc hB2.size _
  clear hW2 hB2 hs2
  go_loopg [6, 7] n (fun m vs vt wr => ∃ (s : Sb) (T : List (Tm × Tm)) (s1 : Option Addr) (s3 : Nat) (t1 : Option Addr) (t3 : Nat) (xs ys : List Value), vs = .slice s1 s.length s3 ∧ vt = .slice t1 T.length t3 ∧ UI s T.reverse ∧ runU m s T.reverse = some R ∧ Two w.heap.size wr s T (.slice s1 s.length s3) (.slice t1 T.length t3) xs ys ∧ Below w.heap.size w wr)
  case atStart =>
    exact ⟨[], [(((xv, xn), k), ((yv, yn), l))], none, 0, some ⟨w.heap.size + 1 + 1, 0, none⟩, 1, [], _, rfl, rfl, HUI.out, Hr.out, H0.out, HB3.out⟩
  case round =>
    obtain ⟨s, T, s1, s3, t1, t3, xs, ys, rfl, rfl, hI, hR, hTwo, hBw⟩ := hrel
    have HTwo := hide hTwo
    have HI := hide hI
    have HR := hide hR
    clear H0 HB3 hTwo hI hR
    rcases List.eq_nil_or_concat T with rfl | ⟨T', p, rfl⟩
    · have Hfin : Hid (UniPost w R (.returned (.tuple #[.slice s1 s.length s3, .bool true])) wr) := by
        refine ⟨hBw, s1, s.length, s3, true, rfl, fun e => by (cases e), fun _ => ⟨s, ?_, rfl, HTwo.out.sub.sub⟩⟩
        have := HR.out
        cases gk with
        | zero => simp [runU] at this
        | succ m => simpa [runU] using this.symm
      go_wp2_with fail
      go_ret2
      exact Hfin.out
    · have hrev : (T' ++ [p]).reverse = p :: T'.reverse := by simp
      rw [List.concat_eq_append] at *
      have hll : (T' ++ [p]).length = T'.length + 1 := by simp
      rw [hll] at HTwo
      rw [hll]
      rw [hrev] at HI HR
      obtain ⟨g, hg⟩ : ∃ g, t1 = some ⟨g, 0, none⟩ := by
        rcases HTwo.out.cou.row.2 with ⟨_, h0⟩ | ⟨g, cap, cur, e, _⟩
        · simp at h0
        · simp only [Value.slice.injEq] at e
          exact ⟨g, e.1⟩
      subst hg
      have hcap : T'.length + 1 ≤ t3 := by
        rcases HTwo.out.cou.row.2 with ⟨e, _⟩ | ⟨g', cap, cur, e, _, _, h1, _⟩
        · cases e
        · simp only [Value.slice.injEq] at e
          simp only [List.length_append, List.length_singleton] at h1
          omega
      have hcap2 : t3 ≤ 2 ^ 63 - 1 := by
        rcases HTwo.out.cou.row.2 with ⟨e, _⟩ | ⟨g', cap, cur, e, _, _, _, h1, _⟩
        · cases e
        · simp only [Value.slice.injEq] at e
          unfold maxLen at h1
          omega
      obtain ⟨ys', pa, pb, hT2, hSa, hSb, c0, c1, c2, c3, c4, c5⟩ := two_pop HTwo.out
      obtain ⟨⟨⟨pv, pn⟩, pk⟩, ⟨⟨qv, qn⟩, qk⟩⟩ := p
      have HT2 := hide hT2
      have HSa := hide hSa
      have HSb := hide hSb
      obtain ⟨pa1, pa3, pab, pao, rfl, -, -, -, -⟩ := hSa
      obtain ⟨pb1, pb3, pbb, pbo, rfl, -, -, -, -⟩ := hSb
      have hpop := fun w => pop_run (n := T'.length) (c := t3) (g := g) hcap w
      clear hrev hll hT2
      go_upto_region 6 with fail
      generalize hwn : wr.alloc (.cells #[.bool pv, .int .i64 pn, .slice pa1 (Fo.len pk) pa3, .bool qv, .int .i64 qn, .slice pb1 (Fo.len qk) pb3] 42) = wn
      have hbn : Below wr.heap.size wr wn := by rw [← hwn]; exact below_alloc _ _
      have n0 : wn.cell? ⟨wr.heap.size, 0, none⟩ = some (.bool pv) := by rw [← hwn]; exact new_cell rfl
      have n1 : wn.cell? ⟨wr.heap.size, 1, none⟩ = some (.int .i64 pn) := by rw [← hwn]; exact new_cell rfl
      have n2 : wn.cell? ⟨wr.heap.size, 2, none⟩ = some (.slice pa1 (Fo.len pk) pa3) := by rw [← hwn]; exact new_cell rfl
      have n3 : wn.cell? ⟨wr.heap.size, 3, none⟩ = some (.bool qv) := by rw [← hwn]; exact new_cell rfl
      have n4 : wn.cell? ⟨wr.heap.size, 4, none⟩ = some (.int .i64 qn) := by rw [← hwn]; exact new_cell rfl
      have n5 : wn.cell? ⟨wr.heap.size, 5, none⟩ = some (.slice pb1 (Fo.len qk) pb3) := by rw [← hwn]; exact new_cell rfl
      have hnl : wr.heap.size < wn.heap.size := World.block_lt_of_cell? _ _ n0
      have HTn := hide (HT2.out.below hbn)
      obtain ⟨⟨⟨xv', xn'⟩, xk'⟩, hx⟩ : ∃ z, z = top s ((pv, pn), pk) := ⟨_, rfl⟩
      obtain ⟨⟨⟨yv', yn'⟩, yk'⟩, hy⟩ : ∃ z, z = top s ((qv, qn), qk) := ⟨_, rfl⟩
      have HcA := hide (fun w' hb => top_call HTn.out (HT2.out.xx hbn HSa.out) hx w' hb)
      have HcB := hide (fun w' hb => top_call HTn.out (HT2.out.xx hbn HSb.out) hy w' hb)
      have Hx := hide hx
      have Hy := hide hy
      have Hbn := hide hbn
      have hcur : Below wn.heap.size wn wn := Below.refl _ _
      clear hwn hx hy hbn c0 c1 c2 c3 c4 c5 hpop
      go_cut [6, 7, 9, 10] (fun s6 s7 s9 s10 wx => ∃ (bx bb : Nat) (x1 : Option Addr) (x3 : Nat) (y1 : Option Addr) (y3 : Nat), s6 = .slice s1 s.length s3 ∧ s7 = .slice (some ⟨g, 0, none⟩) T'.length t3 ∧ s9 = .pointer (some ⟨bx, 0, none⟩) ∧ s10 = .pointer (some ⟨bb, 0, none⟩) ∧
        SB (XX wn (.slice s1 s.length s3) (.slice (some ⟨g, 0, none⟩) T'.length t3)) wn xk' (.slice x1 (Fo.len xk') x3) ∧ SB (XX wn (.slice s1 s.length s3) (.slice (some ⟨g, 0, none⟩) T'.length t3)) wn yk' (.slice y1 (Fo.len yk') y3) ∧
        C3 wx bx (.bool xv') (.int .i64 xn') (.slice x1 (Fo.len xk') x3) ∧ C3 wx bb (.bool yv') (.int .i64 yn') (.slice y1 (Fo.len yk') y3) ∧ Below wn.heap.size wn wx)
      case first =>
        have neN : wn.heap.size ≠ wr.heap.size := Nat.ne_of_gt hnl
        have neN1 : wn.heap.size + 1 ≠ wr.heap.size := Nat.ne_of_gt (Nat.lt_succ_of_lt hnl)
        go_region_held3 (fun w' => w'.cell? ⟨wr.heap.size, 0, none⟩ = some (.bool pv) ∧ w'.cell? ⟨wr.heap.size, 1, none⟩ = some (.int .i64 pn) ∧ w'.cell? ⟨wr.heap.size, 2, none⟩ = some (.slice pa1 (Fo.len pk) pa3) ∧ w'.cell? ⟨wr.heap.size, 3, none⟩ = some (.bool qv) ∧ w'.cell? ⟨wr.heap.size, 4, none⟩ = some (.int .i64 qn) ∧ w'.cell? ⟨wr.heap.size, 5, none⟩ = some (.slice pb1 (Fo.len qk) pb3))
          (first
            | (with_reducible exact ⟨grow_cell hcur _ _ n0, grow_cell hcur _ _ n1, grow_cell hcur _ _ n2, grow_cell hcur _ _ n3, grow_cell hcur _ _ n4, grow_cell hcur _ _ n5⟩)
            | go_keep)
          (first
          | (go_at_call 18; with_reducible refine (HcA.out _ ?_).mono ?_; (with_reducible first | exact hcur | exact hcur.drew | exact (hcur.alloc hcur.size _).drew | exact hcur.alloc hcur.size _ | exact ((hcur.alloc hcur.size _).alloc (hcur.alloc hcur.size _).size _).drew | exact (hcur.alloc hcur.size _).alloc (hcur.alloc hcur.size _).size _); rintro e wA ⟨x1, x3, rfl, hSx, hbA⟩
             (with_reducible first | (refine thus (box2d hbA) ?_; rintro ⟨⟨fA0, fA1, fA2, fAf⟩, ⟨gA0, gA1, gA2, gAf⟩, fAl⟩; have fAk := Nat.lt_of_succ_lt fAl) | (refine thus (box2 hbA) ?_; rintro ⟨⟨fA0, fA1, fA2, fAf⟩, ⟨gA0, gA1, gA2, gAf⟩, fAl⟩; have fAk := Nat.lt_of_succ_lt fAl) | (refine thus (box1d hbA) ?_; rintro ⟨fA0, fA1, fA2, fAf, fAl⟩) | (refine thus (box1 hbA) ?_; rintro ⟨fA0, fA1, fA2, fAf, fAl⟩) | skip)
             (try (have hst : Below wB.heap.size wB wA := (by with_reducible first | exact hbA | exact below_box hbA | exact below_box (below_box hbA)); have hsl := hst.size; (try (have fB0' := grow_cell hst _ _ fB0; have fB1' := grow_cell hst _ _ fB1; have fB2' := grow_cell hst _ _ fB2; have ltfB0 := World.block_lt_of_cell? _ _ fB0; have ltfBc := World.block_lt_of_cell? _ _ fB0'; dsimp only at ltfBc; have fBf' := (fun i => (hst.frozen (p := ⟨_, i, none⟩) ltfB0).trans (fBf i)))); (try (have gB0' := grow_cell hst _ _ gB0; have gB1' := grow_cell hst _ _ gB1; have gB2' := grow_cell hst _ _ gB2; have ltgB0 := World.block_lt_of_cell? _ _ gB0; have ltgBc := World.block_lt_of_cell? _ _ gB0'; dsimp only at ltgBc; have gBf' := (fun i => (hst.frozen (p := ⟨_, i, none⟩) ltgB0).trans (gBf i))))))
             have hcurA : Below wn.heap.size wn wA := below_step (by with_reducible first | exact hcur | exact hcur.drew | exact (hcur.alloc hcur.size _).drew | exact hcur.alloc hcur.size _ | exact ((hcur.alloc hcur.size _).alloc (hcur.alloc hcur.size _).size _).drew | exact (hcur.alloc hcur.size _).alloc (hcur.alloc hcur.size _).size _) hbA
             replace hcur : Below wn.heap.size wn wA := below_step (by with_reducible first | exact hcur | exact hcur.drew | exact (hcur.alloc hcur.size _).drew | exact hcur.alloc hcur.size _ | exact ((hcur.alloc hcur.size _).alloc (hcur.alloc hcur.size _).size _).drew | exact (hcur.alloc hcur.size _).alloc (hcur.alloc hcur.size _).size _) hbA
             have hlA : wr.heap.size < wA.heap.size := Nat.lt_of_lt_of_le hnl hcur.size
             have neA : wA.heap.size ≠ wr.heap.size := Nat.ne_of_gt hlA
             have neA1 : wA.heap.size + 1 ≠ wr.heap.size := Nat.ne_of_gt (Nat.lt_succ_of_lt hlA)
             have mA0 := grow_cell hcur _ _ n0; have mA1 := grow_cell hcur _ _ n1; have mA2 := grow_cell hcur _ _ n2; have mA3 := grow_cell hcur _ _ n3; have mA4 := grow_cell hcur _ _ n4; have mA5 := grow_cell hcur _ _ n5)
          | (go_at_call 18; with_reducible refine (HcB.out _ ?_).mono ?_; (with_reducible first | exact hcur | exact hcur.drew | exact (hcur.alloc hcur.size _).drew | exact hcur.alloc hcur.size _ | exact ((hcur.alloc hcur.size _).alloc (hcur.alloc hcur.size _).size _).drew | exact (hcur.alloc hcur.size _).alloc (hcur.alloc hcur.size _).size _); rintro e wB ⟨y1, y3, rfl, hSy, hbB⟩
             (with_reducible first | (refine thus (box2d hbB) ?_; rintro ⟨⟨fB0, fB1, fB2, fBf⟩, ⟨gB0, gB1, gB2, gBf⟩, fBl⟩; have fBk := Nat.lt_of_succ_lt fBl) | (refine thus (box2 hbB) ?_; rintro ⟨⟨fB0, fB1, fB2, fBf⟩, ⟨gB0, gB1, gB2, gBf⟩, fBl⟩; have fBk := Nat.lt_of_succ_lt fBl) | (refine thus (box1d hbB) ?_; rintro ⟨fB0, fB1, fB2, fBf, fBl⟩) | (refine thus (box1 hbB) ?_; rintro ⟨fB0, fB1, fB2, fBf, fBl⟩) | skip)
             (try (have hst : Below wA.heap.size wA wB := (by with_reducible first | exact hbB | exact below_box hbB | exact below_box (below_box hbB)); have hsl := hst.size; (try (have fA0' := grow_cell hst _ _ fA0; have fA1' := grow_cell hst _ _ fA1; have fA2' := grow_cell hst _ _ fA2; have ltfA0 := World.block_lt_of_cell? _ _ fA0; have ltfAc := World.block_lt_of_cell? _ _ fA0'; dsimp only at ltfAc; have fAf' := (fun i => (hst.frozen (p := ⟨_, i, none⟩) ltfA0).trans (fAf i)))); (try (have gA0' := grow_cell hst _ _ gA0; have gA1' := grow_cell hst _ _ gA1; have gA2' := grow_cell hst _ _ gA2; have ltgA0 := World.block_lt_of_cell? _ _ gA0; have ltgAc := World.block_lt_of_cell? _ _ gA0'; dsimp only at ltgAc; have gAf' := (fun i => (hst.frozen (p := ⟨_, i, none⟩) ltgA0).trans (gAf i))))))
             replace hcur : Below wn.heap.size wn wB := below_step (by with_reducible first | exact hcur | exact hcur.drew | exact (hcur.alloc hcur.size _).drew | exact hcur.alloc hcur.size _ | exact ((hcur.alloc hcur.size _).alloc (hcur.alloc hcur.size _).size _).drew | exact (hcur.alloc hcur.size _).alloc (hcur.alloc hcur.size _).size _) hbB
             have hlB : wr.heap.size < wB.heap.size := Nat.lt_of_lt_of_le hnl hcur.size
             have neB : wB.heap.size ≠ wr.heap.size := Nat.ne_of_gt hlB
             have neB1 : wB.heap.size + 1 ≠ wr.heap.size := Nat.ne_of_gt (Nat.lt_succ_of_lt hlB)
             have mB0 := grow_cell hcur _ _ n0; have mB1 := grow_cell hcur _ _ n1; have mB2 := grow_cell hcur _ _ n2; have mB3 := grow_cell hcur _ _ n3; have mB4 := grow_cell hcur _ _ n4; have mB5 := grow_cell hcur _ _ n5))
        all_goals
          have hnA := hcurA.size
          have hnA1 : wn.heap.size ≤ wA.heap.size + 1 := Nat.le_succ_of_le hnA
          go_wp2_with fail
          go_meet
          case rel =>
            with_reducible first
              | exact ⟨wB.heap.size, wB.heap.size + 1, x1, x3, y1, y3, rfl, rfl, rfl, rfl, hSx, hSy, fin0 hcur⟩
              | exact ⟨wB.heap.size + 1, wB.heap.size, x1, x3, y1, y3, rfl, rfl, rfl, rfl, hSx, hSy, swap3 (fin0 hcur)⟩
              | exact ⟨wA.heap.size, wB.heap.size, x1, x3, y1, y3, rfl, rfl, rfl, rfl, hSx, hSy, fin1 hcur hnA fB0 fB1 fB2⟩
              | exact ⟨wB.heap.size, wA.heap.size, x1, x3, y1, y3, rfl, rfl, rfl, rfl, hSx, hSy, swap3 (fin1 hcur hnA fB0 fB1 fB2)⟩
              | exact ⟨wn.heap.size, wB.heap.size, x1, x3, y1, y3, rfl, rfl, rfl, rfl, hSx, hSy, fin1 hcur (Nat.le_refl _) fA0' fA1' fA2'⟩
              | exact ⟨wB.heap.size, wn.heap.size, x1, x3, y1, y3, rfl, rfl, rfl, rfl, hSx, hSy, swap3 (fin1 hcur (Nat.le_refl _) fA0' fA1' fA2')⟩
              | exact ⟨wA.heap.size, wA.heap.size + 1, x1, x3, y1, y3, rfl, rfl, rfl, rfl, hSx, hSy, fin2 hcur hnA hnA1 (Nat.ne_of_lt (Nat.lt_succ_self _)) fB0 fB1 fB2 gB0 gB1 gB2⟩
              | exact ⟨wA.heap.size + 1, wA.heap.size, x1, x3, y1, y3, rfl, rfl, rfl, rfl, hSx, hSy, fin2 hcur hnA1 hnA (Nat.ne_of_gt (Nat.lt_succ_self _)) gB0 gB1 gB2 fB0 fB1 fB2⟩
              | exact ⟨wn.heap.size, wA.heap.size, x1, x3, y1, y3, rfl, rfl, rfl, rfl, hSx, hSy, fin2 hcur (Nat.le_refl _) hnA (Nat.ne_of_lt fAl) fA0' fA1' fA2' fB0 fB1 fB2⟩
              | exact ⟨wA.heap.size, wn.heap.size, x1, x3, y1, y3, rfl, rfl, rfl, rfl, hSx, hSy, fin2 hcur hnA (Nat.le_refl _) (Nat.ne_of_gt fAl) fB0 fB1 fB2 fA0' fA1' fA2'⟩
              | exact ⟨wn.heap.size, wn.heap.size + 1, x1, x3, y1, y3, rfl, rfl, rfl, rfl, hSx, hSy, fin2 hcur (Nat.le_refl _) (Nat.le_succ _) (Nat.ne_of_lt (Nat.lt_succ_self _)) fA0' fA1' fA2' gA0' gA1' gA2'⟩
              | exact ⟨wn.heap.size + 1, wn.heap.size, x1, x3, y1, y3, rfl, rfl, rfl, rfl, hSx, hSy, fin2 hcur (Nat.le_succ _) (Nat.le_refl _) (Nat.ne_of_gt (Nat.lt_succ_self _)) gA0' gA1' gA2' fA0' fA1' fA2'⟩
      case rest =>
        obtain ⟨bx, bb, x1, x3, y1, y3, rfl, rfl, rfl, rfl, hSx, hSy, ⟨a0, a1, a2⟩, ⟨e0, e1, e2⟩, hbx⟩ := hcut
        generalize wc = wx at *
        have hBx : Below w.heap.size w wx := below_step hBw (below_step Hbn.out hbx)
        have HTx := hide (HTn.out.below hbx)
        have HSx := hide (HTn.out.xx hbx hSx)
        have HSy := hide (HTn.out.xx hbx hSy)
        have hgp := HI.out.gL (((pv, pn), pk), ((qv, qn), qk)) (by simp)
        have Hgx : Hid (Gd ((xv', xn'), xk')) := by rw [Hid, Hx.out]; exact gd_top HI.out.gs hgp.1
        have Hgy : Hid (Gd ((yv', yn'), yk')) := by rw [Hid, Hy.out]; exact gd_top HI.out.gs hgp.2
        have hscm : s3 ≤ 2 ^ 63 - 1 := by
          obtain ⟨_, _, _, _, e, _, _, h, _⟩ := HTx.out.sub.sub
          simp only [Value.slice.injEq] at e
          unfold maxLen at h
          omega
        obtain ⟨m, hm⟩ : ∃ m, gk = m + 1 := by
          cases gk with
          | zero => have := HR.out; simp [runU] at this
          | succ m => exact ⟨m, rfl⟩
        subst hm
        clear hSx hSy hgp n0 n1 n2 n3 n4 n5 hnl hcur HcA HcB HTn hbx
        cases xv'
        · cases yv'
          · by_cases hc : xn' = yn' ∧ Fo.len xk' = Fo.len yk'
            · obtain ⟨hc1, hc2⟩ := hc
              have Hon := hide (run_on HI.out HR.out (stepU_args Hx.out Hy.out rfl rfl hc1 hc2))
              have hnb : (xn' == yn') = true := by simp [hc1]
              have hlb : ((Fo.len xk' : Int) == (Fo.len yk' : Int)) = true := by simp [hc2]
              have Hc2 := hide hc2
              have Hlen := hide (ui_len HI.out)
              have Htwo := hide Hgx.out.two.1
              clear hc1 hc2
              go_wp2_with fail
              refine (addArgs_any w.heap.size (XX wx (.slice s1 s.length s3) (.slice (some ⟨g, 0, none⟩) T'.length t3)) T' _ ys' (false, xn') xk' _ (false, yn') yk' _ wx HTx.out.cou hBx.size HSx.out HSy.out Hc2.out (by have := Hlen.out.1; have := Htwo.out; simp only [List.length_cons, List.length_reverse] at *; omega)).mono ?_
              rintro e w2 ⟨M, z1, z3, xt', hM, rfl, hO2, hF2, hM2⟩
              have H3 := hide (two_args HTx.out hO2 hF2)
              have hBw2 : Below w.heap.size w w2 := hBx.trans (hF2.below hBx.size (fun q hq => (owns_at HTx.out.cou.row q hq).1) (fun q hq => by cases hq))
              have Hrev : Hid (M.reverse = xk'.list.zip yk'.list ++ T'.reverse) := by rw [Hid, hM]; simp
              clear hM hO2 hF2 hM2
              go_wp2_with fail
              go_roundg m
              case measure => omega
              case rel => exact ⟨s, M, s1, s3, z1, z3, xs, xt', rfl, rfl, by rw [Hrev.out]; exact Hon.out.1, by rw [Hrev.out]; exact Hon.out.2, H3.out, hBw2⟩
            · have Hf := hide (uni_no hBx (run_no HR.out (stepU_bad Hx.out Hy.out rfl rfl hc)))
              by_cases hc1 : xn' = yn'
              · have hnb : (xn' == yn') = true := by simp [hc1]
                have hlb : ((Fo.len xk' : Int) == (Fo.len yk' : Int)) = false := by
                  have : ¬ Fo.len xk' = Fo.len yk' := fun e => hc ⟨hc1, e⟩
                  simp; omega
                clear hc hc1
                go_wp2_with fail
                go_ret2
                exact Hf.out
              · have hnb : (xn' == yn') = false := by simp [hc1]
                clear hc hc1
                go_wp2_with fail
                go_ret2
                exact Hf.out
          · have Hst : Hid (stepU s ((pv, pn), pk) ((qv, qn), qk) T'.reverse = (addS s yn' (subT (bnd s) ((false, xn'), xk'))).map fun s' => (s', T'.reverse)) := stepU_y Hx.out Hy.out rfl rfl
            obtain ⟨⟨⟨tv, tn⟩, tk⟩, ht⟩ : ∃ z, z = subT (bnd s) ((false, xn'), xk') := ⟨_, rfl⟩
            have Ht := hide ht
            have Hgt : Hid (Gd ((tv, tn), tk)) := by rw [Hid, ht]; exact gd_sub HI.out.gs Hgx.out
            have Hap := hide (uni_apply HTx.out HI.out.gs HSx.out Hgx.out ht (w' := wx.drew) (Below.refl _ _).drew)
            clear ht
            go_upto_region 13 with fail
            go_region_with (first
              | (go_at_call 9; refine Hap.out.mono ?_; rintro e w1 ⟨b1, b3, rfl, hT1, hS1, hb1⟩; have hBw1 := below_step hBx hb1; have e1w := grow_cell hb1 _ _ e1)
              | (go_at_call 19; refine (uni_add yn' hBw1 hT1 HI.out.gs (ui_len HI.out).2 hS1 Hgt.out).mono ?_; rintro e w2 ⟨z1, zm, z3, ok, rfl, hBw2, hno, hyes⟩))
            all_goals
              cases ok
              · have Hf := hide (uni_no hBw2 (run_no HR.out (by rw [Hst.out, ← Ht.out, hno rfl]; rfl)))
                clear hno hyes hT1 hS1
                go_wp2_with fail
                go_ret2
                exact Hf.out
              · obtain ⟨s', xs', h1, h2, h3⟩ := hyes rfl
                have Hon := hide (run_on HI.out HR.out (s' := s') (L' := T'.reverse) (by rw [Hst.out, ← Ht.out, h1]; rfl))
                subst h2
                have H3 := hide h3
                clear hno hyes hT1 hS1 h1 h3
                go_wp2_with fail
                go_roundg m
                case measure => omega
                case rel => exact ⟨s', T', z1, z3, some ⟨g, 0, none⟩, t3, xs', ys', rfl, rfl, Hon.out.1, Hon.out.2, H3.out, hBw2⟩
        · by_cases hc : yv' = true ∧ xn' = yn'
          · obtain ⟨rfl, hc2⟩ := hc
            have Hon := hide (run_on HI.out HR.out (stepU_same Hx.out Hy.out rfl rfl hc2))
            have hnb : (xn' == yn') = true := by simp [hc2]
            clear hc2
            go_wp2_with fail
            go_roundg m
            case measure => omega
            case rel => exact ⟨s, T', s1, s3, some ⟨g, 0, none⟩, t3, xs, ys', rfl, rfl, Hon.out.1, Hon.out.2, HTx.out, hBx⟩
          · have Hst : Hid (stepU s ((pv, pn), pk) ((qv, qn), qk) T'.reverse = (addS s xn' (subT (bnd s) ((yv', yn'), yk'))).map fun s' => (s', T'.reverse)) := stepU_x Hx.out Hy.out rfl (fun h => hc ⟨h.1, h.2⟩)
            cases yv'
            · clear hc
              obtain ⟨⟨⟨tv, tn⟩, tk⟩, ht⟩ : ∃ z, z = subT (bnd s) ((false, yn'), yk') := ⟨_, rfl⟩
              have Ht := hide ht
              have Hgt : Hid (Gd ((tv, tn), tk)) := by rw [Hid, ht]; exact gd_sub HI.out.gs Hgy.out
              have Hap := hide (uni_apply HTx.out HI.out.gs HSy.out Hgy.out ht (w' := wx.drew) (Below.refl _ _).drew)
              clear ht
              go_upto_region 11 with fail
              go_region_with (first
                | (go_at_call 9; refine Hap.out.mono ?_; rintro e w1 ⟨b1, b3, rfl, hT1, hS1, hb1⟩; have hBw1 := below_step hBx hb1; have a1w := grow_cell hb1 _ _ a1)
                | (go_at_call 19; refine (uni_add xn' hBw1 hT1 HI.out.gs (ui_len HI.out).2 hS1 Hgt.out).mono ?_; rintro e w2 ⟨z1, zm, z3, ok, rfl, hBw2, hno, hyes⟩))
              all_goals
                cases ok
                · have Hf := hide (uni_no hBw2 (run_no HR.out (by rw [Hst.out, ← Ht.out, hno rfl]; rfl)))
                  clear hno hyes hT1 hS1
                  go_wp2_with fail
                  go_ret2
                  exact Hf.out
                · obtain ⟨s', xs', h1, h2, h3⟩ := hyes rfl
                  have Hon := hide (run_on HI.out HR.out (s' := s') (L' := T'.reverse) (by rw [Hst.out, ← Ht.out, h1]; rfl))
                  subst h2
                  have H3 := hide h3
                  clear hno hyes hT1 hS1 h1 h3
                  go_wp2_with fail
                  go_roundg m
                  case measure => omega
                  case rel => exact ⟨s', T', z1, z3, some ⟨g, 0, none⟩, t3, xs', ys', rfl, rfl, Hon.out.1, Hon.out.2, H3.out, hBw2⟩
            · have hnb : (xn' == yn') = false := by
                have : ¬ xn' = yn' := fun e => hc ⟨rfl, e⟩
                simp [this]
              clear hc
              obtain ⟨⟨⟨tv, tn⟩, tk⟩, ht⟩ : ∃ z, z = subT (bnd s) ((true, yn'), yk') := ⟨_, rfl⟩
              have Ht := hide ht
              have Hgt : Hid (Gd ((tv, tn), tk)) := by rw [Hid, ht]; exact gd_sub HI.out.gs Hgy.out
              have Hap := hide (uni_apply HTx.out HI.out.gs HSy.out Hgy.out ht (w' := wx.drew) (Below.refl _ _).drew)
              clear ht
              go_upto_region 11 with fail
              go_region_with (first
                | (go_at_call 9; refine Hap.out.mono ?_; rintro e w1 ⟨b1, b3, rfl, hT1, hS1, hb1⟩; have hBw1 := below_step hBx hb1; have a1w := grow_cell hb1 _ _ a1)
                | (go_at_call 19; refine (uni_add xn' hBw1 hT1 HI.out.gs (ui_len HI.out).2 hS1 Hgt.out).mono ?_; rintro e w2 ⟨z1, zm, z3, ok, rfl, hBw2, hno, hyes⟩))
              all_goals
                cases ok
                · have Hf := hide (uni_no hBw2 (run_no HR.out (by rw [Hst.out, ← Ht.out, hno rfl]; rfl)))
                  clear hno hyes hT1 hS1
                  go_wp2_with fail
                  go_ret2
                  exact Hf.out
                · obtain ⟨s', xs', h1, h2, h3⟩ := hyes rfl
                  have Hon := hide (run_on HI.out HR.out (s' := s') (L' := T'.reverse) (by rw [Hst.out, ← Ht.out, h1]; rfl))
                  subst h2
                  have H3 := hide h3
                  clear hno hyes hT1 hS1 h1 h3
                  go_wp2_with fail
                  go_roundg m
                  case measure => omega
                  case rel => exact ⟨s', T', z1, z3, some ⟨g, 0, none⟩, t3, xs', ys', rfl, rfl, Hon.out.1, Hon.out.2, H3.out, hBw2⟩

end Go.Proofs.Ytleogbdinafpaaa

/- What the laws of chapter 2 ask of terms: right ones, and without variables. -/
namespace Go.Proofs.Ytleogbdinafpaaa
open Go.RowKit Go.Deep Go.ChangeShapes Go.WideShapes
attribute [local go_sem ↓] Go.wp_at_zero Go.wp_at_succ

theorem fin_norm {w : World} : ∀ {F : Fo} {b o : Nat}, FIn w F b o → FIn w (Fo.norm F) b o
  | .nil, _, _, _ => trivial
  | .node _ _ _ k r, _, _, ⟨h0, h1, ⟨a, c, b', o', h2, h3, h4, h5, h6⟩, h7⟩ => by
    refine ⟨h0, h1, ⟨a, c, b', o', ?_, ?_, ?_, h5, fin_norm h6⟩, fin_norm h7⟩
    · rw [norm_len]; exact h2
    · rw [norm_len]; exact h3
    · rw [norm_len]; exact h4
theorem sin_norm {w : World} {k : Fo} {a : Value} (h : SIn w k a) : SIn w (Fo.norm k) a := by
  obtain ⟨a, c, b, o, rfl, h3, h4, h5, h6⟩ := h
  exact ⟨a, c, b, o, by rw [norm_len], by rw [norm_len]; exact h3, by rw [norm_len]; exact h4, h5, fin_norm h6⟩
theorem norm_sizes : ∀ F : Fo, Fo.sizesR (Fo.norm F) = Fo.sizesR F
  | .nil => rfl
  | .node _ _ _ k r => by simp [Fo.norm, Fo.sizesR, norm_sizes k, norm_sizes r]

/-- What is known of right terms, without what is no part of them. -/
theorem good_of_walk {s : List Int} (hs : s.all okNum = true) : ∀ {F : Fo} {n : Nat}, n ≤ 13 → walkF s F (13 - (n : Int)) = 0 → Fo.ok (Fo.norm F) ∧ twoF (Fo.norm F) ∧ (∀ m, occF m (Fo.norm F) → 0 ≤ m ∧ m ≤ 4) ∧ depF (Fo.norm F) ≤ n
  | .nil, _, _, _ => ⟨trivial, trivial, fun m hm => by simp [Fo.norm, occF] at hm, Nat.zero_le _⟩
  | .node _ _ ⟨v, z⟩ k r, n, hn, h => by
    obtain ⟨hT, hr⟩ := walkF_ok h
    obtain ⟨hd, ha, hk⟩ := walkT_ok hT
    have h2 := alone_len hs ha
    obtain ⟨m, rfl⟩ : ∃ m, n = m + 1 := ⟨n - 1, by omega⟩
    have e : (13 : Int) - ((m + 1 : Nat) : Int) + 1 = 13 - (m : Int) := by omega
    rw [e] at hk
    obtain ⟨i1, i2, i3, i4⟩ := good_of_walk hs (n := m) (by omega) hk
    obtain ⟨j1, j2, j3, j4⟩ := good_of_walk hs (n := m + 1) hn hr
    simp only [Fo.norm]
    refine ⟨?_, ⟨by rw [norm_len]; exact h2, i2, j2⟩, fun q hq => ?_, ?_⟩
    · rw [ok_node]
      refine ⟨rfl, rfl, ⟨fun hv => ?_, i1⟩, j1⟩
      have hv' : v = true := hv
      subst hv'
      obtain ⟨rfl, _, _⟩ := alone_var ha
      rfl
    · rcases hq with hq | hq
      · cases v
        · exact i3 q (by simpa using hq)
        · obtain ⟨_, h0, h4⟩ := alone_var ha
          have : z = q := by simpa using hq
          omega
      · exact j3 q hq
    · simp only [depF]; omega
theorem gd_of_right {s : List Int} (hs : s.all okNum = true) {x : Bool × Int} {k : Fo} (h : wrongF s x k = 0) : Gd (x, Fo.norm k) ∧ depT (x, Fo.norm k) ≤ 12 ∧ tszR (Fo.norm k) ≤ 12 := by
  obtain ⟨h1, _, _, _, hw⟩ := right_of hs h
  have hF : walkF s (.node 0 0 x k .nil) (13 - ((12 : Nat) : Int)) = 0 := by
    have : walkT s x k 1 = 0 := hw
    simp only [walkF]
    have h3 : ∀ z : Int, z = 0 → (if z ≠ 0 then z else 0) = 0 := fun z hz => by simp [hz]
    exact h3 _ this
  obtain ⟨i1, i2, i3, i4⟩ := good_of_walk hs (n := 12) (by omega) hF
  simp only [Fo.norm] at i1 i2 i3 i4
  rw [ok_node] at i1
  rw [two_node] at i2
  refine ⟨⟨i1.2.2.1, i2.1, fun m hm => i3 m (.inl hm)⟩, ?_, by unfold tszR at *; rw [norm_sizes]; exact h1⟩
  simp only [depF, depT] at *
  omega
/-- Right terms of symbols? -/
def rightB (s : List Int) (F : Fo) : Bool := decide (wsig s = 0) && F.list.all fun t => decide (wrongF s t.1 t.2 = 0)
def rightTo (s : List Int) (F : Fo) (j : Nat) : Bool := decide (wsig s = 0) && (F.list.take j).all fun t => decide (wrongF s t.1 t.2 = 0)
theorem rightTo_succ {s : List Int} {F : Fo} {j : Nat} {t : Tm} (h : F.list[j]? = some t) : rightTo s F (j + 1) = (rightTo s F j && decide (wrongF s t.1 t.2 = 0)) := by
  unfold rightTo
  rw [List.take_add_one, h]
  simp [Bool.and_assoc]
theorem rightTo_end (s : List Int) (F : Fo) : rightTo s F (Fo.len F) = rightB s F := by
  unfold rightTo rightB
  rw [← Fo.len_list, List.take_length]

set_option maxRecDepth 100000 in
set_option maxHeartbeats 1000000 in
theorem right_any (s : List Int) (sv : Value) (F : Fo) (v : Value) (w : World) (hN : NIn w s sv) (hS : SIn w F v) :
    Calls Try.prog 4 #[sv, v] w fun e w' => e = .returned (.bool (rightB s F)) ∧ Below w.heap.size w w' := by
  have HN := hide hN
  obtain ⟨sa, sc, sb, so, rfl, -, -, -, -⟩ := hN
  obtain ⟨ad, c, b, o, rfl, had, hlc, hcm, hF⟩ := hS
  have HF := hide hF
  have Hl := hide (Fo.len_list F)
  have Hend := hide (rightTo_end s F)
  unfold maxLen at hcm
  clear hF
  go_enter Try.func4, Try.ntmps4
  go_wp2_with fail
  refine (wsigR_any s _ w HN.out).mono ?_
  rintro e w1 ⟨rfl, hw1⟩
  rw [hw1]
  clear hw1 w1
  have h0 : (Value.bool (wsig s == 0)) = .bool (rightTo s F 0) := by
    simp only [rightTo, List.take_zero, List.all_nil, Bool.and_true]
    congr 1
  go_wp2_with fail
  go_loopw [5, 13] (fun ok i wr => ∃ j : Nat, j ≤ Fo.len F ∧ i = .int .i64 j ∧ ok = .bool (rightTo s F j) ∧ Below w.heap.size w wr) (fun _ i _ => Fo.len F - (intOf i).toNat)
  case atStart => exact ⟨0, Nat.zero_le _, rfl, rfl, Below.refl _ _⟩
  case round =>
    obtain ⟨j, hj, rfl, rfl, hBr⟩ := hrel
    clear h0
    by_cases hlt : j < Fo.len F
    · have hlt' : (j : Int) < (Fo.len F : Int) := by omega
      obtain ⟨⟨⟨yv, yn⟩, yk⟩, hy⟩ : ∃ y, F.list[j]? = some y := ⟨F.list[j]'(by rw [Hl.out]; exact hlt), by simp⟩
      obtain ⟨c0, c1, yv', c2, hSy⟩ := (HF.out.below hBr).at hy
      have HSy := hide hSy
      obtain ⟨ya, yc, yb, yo, rfl, -, -, -, -⟩ := hSy
      have ha : ad = some ⟨b, o, none⟩ := had (by omega)
      subst ha
      have Hs := hide (rightTo_succ (s := s) hy)
      clear hy had
      cases hr : rightTo s F j
      · rw [hr] at Hs
        clear hr
        go_wp2_with fail
        go_roundw
        case rel => exact ⟨j + 1, by omega, by go_num, by rw [Hs.out]; rfl, hBr.alloc hBr.size _⟩
        case measure => simp [intOf]; omega
      · rw [hr] at Hs
        clear hr
        go_wp2_with fail
        refine (wrongR_any s _ (yv, yn) yk _ _ ((HN.out.below hBr).alloc _) (HSy.out.alloc _)).mono ?_
        rintro e w2 ⟨rfl, hb2⟩
        have hB2 := below_step hBr (below_box hb2)
        have hv : (Value.bool (wrongF s (yv, yn) yk == 0)) = .bool (rightTo s F (j + 1)) := by
          rw [Hs.out]; rfl
        clear hb2
        go_wp2_with fail
        go_roundw
        case rel => exact ⟨j + 1, by omega, by go_num, rfl, hB2⟩
        case measure => simp [intOf]; omega
    · have hje : j = Fo.len F := by omega
      subst hje
      have He := Hend.out
      rw [He]
      clear He
      go_wp2_with fail
      go_ret
      exact ⟨rfl, hBr⟩

end Go.Proofs.Ytleogbdinafpaaa

/- Found by a pattern: what the law asks, told of terms alone. -/
namespace Go.Proofs.Ytleogbdinafpaaa
open Go.RowKit Go.Deep Go.ChangeShapes Go.WideShapes

theorem extF_nar : ∀ {k l : Fo} {s s' : Sb}, Fo.narrow l → (∀ p ∈ s, narT p.2) → extF k l s = some s' → ∀ p ∈ s', narT p.2
  | .nil, _, s, s', _, hs, h => by simp only [extF, Option.some.injEq] at h; subst h; exact hs
  | .node _ _ _ _ _, .nil, _, _, _, _, h => by simp [extF] at h
  | .node _ _ ⟨v, n⟩ k r, .node _ _ y l q, s, s', hl, hs, h => by
    rw [extF_node, Option.bind_eq_some_iff] at h
    obtain ⟨s1, h1, h2⟩ := h
    rw [nar_node] at hl
    refine extF_nar hl.2 ?_ h2
    cases v
    · unfold extT at h1
      simp only [Bool.false_eq_true, if_false] at h1
      split at h1
      · exact extF_nar hl.1.2 hs h1
      · cases h1
    · cases e : look s n with
      | none =>
        rw [extT_new e] at h1
        cases h1
        intro p hp
        simp only [List.mem_append, List.mem_singleton] at hp
        rcases hp with hp | rfl
        · exact hs p hp
        · exact hl.1
      | some z =>
        rw [extT_old e] at h1
        split at h1
        · cases h1; exact hs
        · cases h1
theorem extT_nar {t u : Tm} {s s' : Sb} (hu : narT u) (hs : ∀ p ∈ s, narT p.2) (h : extT s t u = some s') : ∀ p ∈ s', narT p.2 := by
  have h1 : extF (.node 0 0 t.1 t.2 .nil) (.node 0 0 u.1 u.2 .nil) s = some s' := by rw [extF_node, show extT s (t.1, t.2) (u.1, u.2) = some s' from h]; rfl
  exact extF_nar (k := .node 0 0 t.1 t.2 .nil) (l := .node 0 0 u.1 u.2 .nil) (nar_node.2 ⟨hu, trivial⟩) hs h1
/-- What Match finds, from right terms. -/
theorem match_ok {t u : Tm} {s : Sb} (hu : okT u) (hn : narT u) (h : extT [] t u = some s) : (∀ p ∈ s, narT p.2 ∧ okT p.2) ∧ subT (bnd s) t = u := by
  obtain ⟨h1, h2⟩ := extT_sound hu (fun p hp => by simp at hp) h
  have h3 := extT_nar hn (fun p hp => by simp at hp) h
  exact ⟨fun p hp => ⟨h3 p hp, h1 p hp⟩, h2⟩

theorem norm_norm : ∀ F : Fo, Fo.norm (Fo.norm F) = Fo.norm F
  | .nil => rfl
  | .node _ _ _ k r => by simp [Fo.norm, norm_norm k, norm_norm r]

/-- Terms laid side by side. -/
def two (t u : Tm) : Fo := .node 0 0 t.1 t.2 (.node 0 0 u.1 u.2 .nil)
def one1 (t : Tm) : Fo := .node 0 0 t.1 t.2 .nil
theorem right_two {s : List Int} {t u : Tm} (h : rightB s (two t u) = true) : s.all okNum = true ∧ wrongF s t.1 t.2 = 0 ∧ wrongF s u.1 u.2 = 0 := by
  simp only [rightB, two, Fo.list, List.all_cons, List.all_nil, Bool.and_eq_true, decide_eq_true_eq, Bool.and_true] at h
  exact ⟨(wsig_ok h.1).1, h.2.1, h.2.2⟩
theorem right_one {s : List Int} {t : Tm} (h : rightB s (one1 t) = true) : s.all okNum = true ∧ wrongF s t.1 t.2 = 0 := by
  simp only [rightB, one1, Fo.list, List.all_cons, List.all_nil, Bool.and_eq_true, decide_eq_true_eq, Bool.and_true] at h
  exact ⟨(wsig_ok h.1).1, h.2⟩
theorem two_in {w : World} {t u : Tm} {a c : Value} (h1 : SIn w t.2 a) (h2 : SIn w u.2 c) : SIn (w.alloc (.cells #[.bool t.1.1, .int .i64 t.1.2, a, .bool u.1.1, .int .i64 u.1.2, c] 26)) (two t u) (.slice (some ⟨w.heap.size, 0, none⟩) 2 2) :=
  ⟨_, 2, w.heap.size, 0, rfl, fun _ => rfl, Nat.le_refl _, by unfold maxLen; omega, FIn.mk (new_cell rfl) (new_cell rfl) (new_cell rfl) (h1.alloc _) (FIn.mk (new_cell rfl) (new_cell rfl) (new_cell rfl) (h2.alloc _) trivial)⟩
theorem one_in {w : World} {t : Tm} {a : Value} (h1 : SIn w t.2 a) : SIn (w.alloc (.cells #[.bool t.1.1, .int .i64 t.1.2, a] 26)) (one1 t) (.slice (some ⟨w.heap.size, 0, none⟩) 1 1) :=
  ⟨_, 1, w.heap.size, 0, rfl, fun _ => rfl, Nat.le_refl _, by unfold maxLen; omega, FIn.mk (new_cell rfl) (new_cell rfl) (new_cell rfl) (h1.alloc _) trivial⟩

/-- A right term that has been brought to one form is good. -/
theorem gd_right {s : List Int} {x : Bool × Int} {k : Fo} (hs : s.all okNum = true) (hk : Fo.norm k = k) (h : wrongF s x k = 0) : Gd (x, k) ∧ depT (x, k) ≤ 12 ∧ tszR k ≤ 12 := by
  have := gd_of_right hs h
  rwa [hk] at this

end Go.Proofs.Ytleogbdinafpaaa
