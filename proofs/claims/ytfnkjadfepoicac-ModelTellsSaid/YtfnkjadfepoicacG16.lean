/- Lists of terms in memory, and two rows of terms that are made side by side: for the document's solve. -/
import Derived.Test.YtfnkjadfepoicacG15
import Derived.Test.YtfnkjadfepoicacG13
import Derived.Test.YtfnkjadfepoicacG08
import Derived.Test.YtfnkjadfepoicacG09
import Derived.Deep.LoopGhost
namespace Go.Proofs.Ytfnkjadfepoicac
open Go.RowKit Go.Deep Go.ChangeShapes Go.WideShapes

/-- A list of terms, as what lies in memory. -/
def foOf : List Tm → Fo
  | [] => .nil
  | t :: ts => .node 0 0 t.1 t.2 (foOf ts)
theorem foOf_list : ∀ ts : List Tm, (foOf ts).list = ts
  | [] => rfl
  | t :: ts => by simp [foOf, Fo.list, foOf_list ts]
theorem foOf_len (ts : List Tm) : Fo.len (foOf ts) = ts.length := by rw [← Fo.len_list, foOf_list]
theorem foOf_of_ok : ∀ {F : Fo}, Fo.ok F → foOf F.list = F
  | .nil, _ => rfl
  | .node p q x k r, h => by
    obtain ⟨rfl, rfl, _, h4⟩ := ok_node.1 h
    simp [foOf, Fo.list, foOf_of_ok h4]
theorem CellsOf.app {X : Nat → Prop} {w : World} {b : List Tm} {ys : List Value} (h' : CellsOf X w (foOf b) ys) : ∀ {a : List Tm} {xs : List Value}, CellsOf X w (foOf a) xs → CellsOf X w (foOf (a ++ b)) (xs ++ ys)
  | [], xs, h => by
    have e : xs = [] := h
    subst e
    exact h'
  | t :: a, _, ⟨v, zs, h1, h2, h3⟩ => by
    subst h1
    exact ⟨v, zs ++ ys, rfl, h2, CellsOf.app h' h3⟩

/-- The terms ts are a row of the call's own; what they hold lies below lo. -/
def Row (lo : Nat) (w : World) (v : Value) (ts : List Tm) : Prop := ∃ xs, w.ownsRow lo 35 3 v ts.length xs ∧ CellsOf (fun q => q < lo) w (foOf ts) xs
def Apart (v u : Value) : Prop := ∀ g, v.ownBlock = some g → u.ownBlock ≠ some g

theorem Row.nil (lo : Nat) (w : World) : Row lo w (.slice none 0 0) [] := ⟨[], World.ownsRow_nil _ _ _ _, rfl⟩
theorem Row.alloc {lo : Nat} {w : World} {v : Value} {ts : List Tm} (h : Row lo w v ts) (hl : lo ≤ w.heap.size) (ob : Obj) : Row lo (w.alloc ob) v ts := by
  obtain ⟨xs, h1, h2⟩ := h
  exact ⟨xs, owns_keep h1 (fun g hg => Below.heap_alloc _ _ _ (owns_at h1 g hg).2), h2.frame (fun _ h => h) (fun q i hq => World.cell?_alloc_lt _ _ _ (by show q < _; omega))⟩
theorem Row.grown {lo : Nat} {w w' : World} {v u : Value} {ts : List Tm} (h : Row lo w v ts) (hl : lo ≤ w.heap.size) (hg : w.grownBy w' u.ownBlock) (ha : Apart v u) (hu : ∀ g, u.ownBlock = some g → lo ≤ g) : Row lo w' v ts := by
  obtain ⟨xs, h1, h2⟩ := h
  exact ⟨xs, owns_keep h1 (fun g hgg => hg.block g (owns_at h1 g hgg).2 (fun e => ha g hgg e.symm)), h2.frame (fun _ h => h) (fun q i hq => World.cell?_of_block (hg.block q (by show q < _; omega) (fun e => by have := hu q e.symm; omega)))⟩
theorem Row.sin {lo : Nat} {w : World} {v : Value} {ts : List Tm} (h : Row lo w v ts) : SIn w (foOf ts) v := by
  obtain ⟨xs, h1, h2⟩ := h
  rw [← foOf_len] at h1
  exact (row_sb (Y := fun _ => True) h1 h2 (fun _ _ => trivial) (fun _ _ => trivial)).toS

/-- Two rows that are made side by side, wx being the world ahead of them. -/
structure Side (wx w : World) (va : Value) (a : List Tm) (vb : Value) (b : List Tm) : Prop where
  below : Below wx.heap.size wx w
  ra : Row wx.heap.size w va a
  rb : Row wx.heap.size w vb b
  ap : Apart va vb

theorem Side.start (wx : World) : Side wx wx.drew (.slice none 0 0) [] (.slice none 0 0) [] := ⟨(Below.refl _ _).drew, Row.nil _ _, Row.nil _ _, fun g h => by simp [Value.ownBlock] at h⟩
theorem Side.bareA {wx w : World} {vb : Value} {b : List Tm} {n : Nat} (h : Side wx w (.slice none 0 0) [] vb b) (hn : n = w.heap.size) : Side wx (w.alloc (.cells #[] 35)) (.slice (some ⟨n, 0, none⟩) 0 0) [] vb b := by
  subst hn
  refine ⟨h.below.alloc h.below.size _, ⟨[], own_bare (heap_alloc_new w _) h.below.size, rfl⟩, h.rb.alloc h.below.size _, fun g hg e => ?_⟩
  simp [Value.ownBlock] at hg
  obtain ⟨xs, h1, _⟩ := h.rb
  have := (owns_at h1 g e).2
  omega
theorem Side.swap {wx w : World} {va vb : Value} {a b : List Tm} (h : Side wx w va a vb b) : Side wx w vb b va a := ⟨h.below, h.rb, h.ra, fun g h1 h2 => h.ap g h2 h1⟩
theorem Side.bareB {wx w : World} {va : Value} {a : List Tm} {n : Nat} (h : Side wx w va a (.slice none 0 0) []) (hn : n = w.heap.size) : Side wx (w.alloc (.cells #[] 35)) va a (.slice (some ⟨n, 0, none⟩) 0 0) [] := (h.swap.bareA hn).swap

/-- More terms behind the first row. -/
theorem step_app {wx w : World} {ops : Array Oper} {o : Oper} {c : Act} {K : Act → World → Prop} {Q : Exit → Act → World → Prop} {E : Prop} {va vb lv : Value} {a b ts : List Tm} (h : Side wx w va a vb b) (hS : SIn wx (foOf ts) lv) (hb : a.length + ts.length ≤ 100000) (hgd : o.guard = none) (s x : Operand)
    (ho : o.op = .call { callee := .builtin .append, args := #[s, x], argTypes := #[33, 33] }) (hs : c.eval s = va) (hx : c.eval x = lv)
    (k : ∀ v' w', Side wx w' v' (a ++ ts) vb b → K (c.put o.dst v') w') :
    if Region.wanted o (yielded ops c.tmps) = true then Oper.wp Try.prog o c w K Q else E := by
  obtain ⟨i26, hi26, hz0, hz1, hz2⟩ := info_parts Try.info35
  obtain ⟨xs, h1, h2⟩ := h.ra
  have hl := h.below.size
  obtain ⟨news, hC, hN⟩ : ∃ news, Cs w lv ts.length 3 news ∧ CellsOf (fun q => q < wx.heap.size) w (foOf ts) news := by
    obtain ⟨news, hC, hN⟩ := terms_cells hS
    rw [foOf_len] at hC
    exact ⟨news, hC.below h.below, hN.frame (fun _ h => h) (fun q i hq => h.below.cell hq)⟩
  refine step_append_gen hgd s x 33 ho wx.heap.size 35 i26 _ 3 40 Try.underlying33 hi26 hz0 hz1 hz2 rfl (by decide) va a.length xs hs h1 lv ts.length news hx hC (by unfold maxLen; omega) (by omega) hl ?_
  intro v' w' ho' hg' hat'
  have hva : ∀ g, va.ownBlock = some g → wx.heap.size ≤ g := fun g hg => (owns_at h1 g hg).1
  have hb' : Below wx.heap.size wx w' := h.below.grown hg' hl hva
  have hfr : ∀ (q i : Nat), q < wx.heap.size → w'.cell? ⟨q, i, none⟩ = w.cell? ⟨q, i, none⟩ := fun q i hq => (hb'.cell (p := ⟨q, i, none⟩) hq).trans (h.below.cell (p := ⟨q, i, none⟩) hq).symm
  have hcs : CellsOf (fun q => q < wx.heap.size) w' (foOf (a ++ ts)) (xs ++ news) := CellsOf.app (hN.frame (fun _ h => h) hfr) (h2.frame (fun _ h => h) hfr)
  refine k v' w' ⟨hb', ⟨xs ++ news, by rw [List.length_append]; exact ho', hcs⟩, h.rb.grown hl hg' (fun g e1 e2 => h.ap g e2 e1) hva, fun g e1 e2 => ?_⟩
  rcases hat' with e | e
  · exact h.ap g (e ▸ e1) e2
  · rw [e] at e1
    simp at e1
    obtain ⟨ys, h3, _⟩ := h.rb
    have := (owns_at h3 g e2).2
    omega

end Go.Proofs.Ytfnkjadfepoicac

/- Whether bindings are the same: the document's SameSub; is a variable in a term: its in. -/
namespace Go.Proofs.Ytfnkjadfepoicac
open Go.RowKit Go.Deep Go.ChangeShapes Go.WideShapes
attribute [local go_sem ↓] Go.wp_at_zero Go.wp_at_succ

set_option maxRecDepth 100000 in
set_option maxHeartbeats 1000000 in
theorem inR_any (n : Int) (x : Bool × Int) (k : Fo) (a : Value) (w : World) (T : List Int) (hT : T = varsT x k []) (hS : SIn w k a) (hv : T.length * 8 ≤ 140737488355328) :
    Calls Try.prog 70 #[.int .i64 n, .agg #[.bool x.1, .int .i64 x.2, a]] w fun e w' => e = .returned (.bool (hasB T n)) ∧ Below w.heap.size w w' := by
  obtain ⟨xv, xn⟩ := x
  have HS := hide hS
  obtain ⟨ad, ac, b, o, rfl, -, -, -, -⟩ := hS
  go_enter Try.func70, Try.ntmps70
  go_wp2_with fail
  refine (varsR_few (xv, xn) k _ [] (.slice none 0 0) _ T hT (HS.out.alloc _) ⟨none, 0, 0, 0, rfl, fun h => by simp at h, Nat.le_refl _, Nat.zero_le _, fun i hi => by simp at hi⟩ hv).mono ?_
  rintro e w1 ⟨v', rfl, hN, hb⟩
  have hB := below_box hb
  obtain ⟨la, lc, lb, lo, rfl, hla, hlc, hlm, hF⟩ := hN
  unfold maxLen at hlm
  have HF := hide hF
  clear hb hF hT hv
  go_wp2_with fail
  go_loop [10] (fun i => ∃ j : Nat, j ≤ T.length ∧ i = .int .i64 j ∧ ∀ q, q < j → T.getD q 0 ≠ n) (fun i => T.length - (intOf i).toNat)
  case atStart => exact ⟨0, Nat.zero_le _, rfl, fun q hq => by omega⟩
  case round =>
    obtain ⟨j, hj, rfl, hno⟩ := hrel
    have Hno := hide hno
    clear hno
    by_cases hlt : j < T.length
    · have hlt' : (j : Int) < (T.length : Int) := by omega
      have hc := HF.out j hlt
      have Hmem : Hid (T.getD j 0 ∈ T) := by
        rw [Hid, List.getD_eq_getElem?_getD, List.getElem?_eq_getElem hlt]; simp
      have ha : la = some ⟨lb, lo, none⟩ := hla (by omega)
      subst ha
      have Hnx : Hid (T.getD j 0 ≠ n → ∀ q, q < j + 1 → T.getD q 0 ≠ n) := fun h q hq => by
        by_cases e : q = j
        · rw [e]; exact h
        · exact Hno.out q (by omega)
      generalize T.getD j 0 = z at *
      by_cases he : z = n
      · have heb : (z == n) = true := by simp [he]
        have Hf : Hid (hasB T n = true) := by
          rw [Hid, hasB, ← he, decide_eq_true Hmem.out]
        clear he hla
        go_wp2_with fail
        go_ret
        exact ⟨by rw [Hf.out]; rfl, hB⟩
      · have heb : (z == n) = false := by simp [he]
        have Hn := hide (Hnx.out he)
        clear he hla
        go_wp2_with fail
        go_round
        case rel => exact ⟨j + 1, by omega, by go_num, Hn.out⟩
        case measure => simp [intOf]; omega
    · have Hf : Hid (hasB T n = false) := by
        have : n ∉ T := fun h => by
          obtain ⟨q, hq, e⟩ := List.mem_iff_getElem.1 h
          exact Hno.out q (by omega) (by rw [List.getD_eq_getElem?_getD, List.getElem?_eq_getElem hq]; exact e)
        rw [Hid, hasB, decide_eq_false this]
      clear hla
      go_wp2_with fail
      go_ret
      exact ⟨by rw [Hf.out]; rfl, hB⟩

end Go.Proofs.Ytfnkjadfepoicac

/- What makes two terms the same: bind's Unify. -/
namespace Go.Proofs.Ytfnkjadfepoicac
open Go.RowKit Go.Deep Go.ChangeShapes Go.WideShapes
attribute [local go_sem ↓] Go.wp_at_zero Go.wp_at_succ

def UniPost (w : World) (R : Option Sb) (e : Ending) (w' : World) : Prop :=
  Below w.heap.size w w' ∧ ∃ (z1 : Option Addr) (m z3 : Nat) (ok : Bool), e = .returned (.tuple #[.slice z1 m z3, .bool ok]) ∧ (ok = false → R = none ∧ z1 = none ∧ m = 0 ∧ z3 = 0) ∧ (ok = true → ∃ s', R = some s' ∧ m = s'.length ∧ SubIn w' s' (.slice z1 m z3))

/-- Boxes that were made ahead of a call, behind it. -/
def Bx (w : World) (q : Nat) : Prop := (∃ x, w.cell? ⟨q, 0, none⟩ = some x) ∧ (∃ x, w.cell? ⟨q, 1, none⟩ = some x) ∧ (∃ x, w.cell? ⟨q, 2, none⟩ = some x) ∧ ∀ i, w.frozen? ⟨q, i, none⟩ = false
theorem box1 {W w1 : World} {x y z : Value} (h : Below (W.alloc (.cells #[x, y, z] 35)).heap.size (W.alloc (.cells #[x, y, z] 35)) w1) : w1.cell? ⟨W.heap.size, 0, none⟩ = some x ∧ w1.cell? ⟨W.heap.size, 1, none⟩ = some y ∧ w1.cell? ⟨W.heap.size, 2, none⟩ = some z ∧ (∀ i, w1.frozen? ⟨W.heap.size, i, none⟩ = false) ∧ W.heap.size < w1.heap.size := by
  obtain ⟨a, b, c, d, _, e⟩ := box_full h
  exact ⟨a, b, c, d, e⟩
theorem box1d {W w1 : World} {x y z : Value} (h : Below (W.alloc (.cells #[x, y, z] 35)).drew.heap.size (W.alloc (.cells #[x, y, z] 35)).drew w1) : w1.cell? ⟨W.heap.size, 0, none⟩ = some x ∧ w1.cell? ⟨W.heap.size, 1, none⟩ = some y ∧ w1.cell? ⟨W.heap.size, 2, none⟩ = some z ∧ (∀ i, w1.frozen? ⟨W.heap.size, i, none⟩ = false) ∧ W.heap.size < w1.heap.size :=
  box1 ((Below.refl _ _).drew.trans h)
theorem box2 {W w1 : World} {x y z x' y' z' : Value} (h : Below ((W.alloc (.cells #[x, y, z] 35)).alloc (.cells #[x', y', z'] 35)).heap.size ((W.alloc (.cells #[x, y, z] 35)).alloc (.cells #[x', y', z'] 35)) w1) :
    (w1.cell? ⟨W.heap.size, 0, none⟩ = some x ∧ w1.cell? ⟨W.heap.size, 1, none⟩ = some y ∧ w1.cell? ⟨W.heap.size, 2, none⟩ = some z ∧ (∀ i, w1.frozen? ⟨W.heap.size, i, none⟩ = false)) ∧
    (w1.cell? ⟨W.heap.size + 1, 0, none⟩ = some x' ∧ w1.cell? ⟨W.heap.size + 1, 1, none⟩ = some y' ∧ w1.cell? ⟨W.heap.size + 1, 2, none⟩ = some z' ∧ (∀ i, w1.frozen? ⟨W.heap.size + 1, i, none⟩ = false)) ∧ W.heap.size + 1 < w1.heap.size := by
  obtain ⟨a, b, c, d, e1, e2⟩ := box_full h
  obtain ⟨a', b', c', d', _, _⟩ := box_full e1
  rw [World.size_alloc] at a b c d e2
  exact ⟨⟨a', b', c', d'⟩, ⟨a, b, c, d⟩, e2⟩
theorem box2d {W w1 : World} {x y z x' y' z' : Value} (h : Below ((W.alloc (.cells #[x, y, z] 35)).alloc (.cells #[x', y', z'] 35)).drew.heap.size ((W.alloc (.cells #[x, y, z] 35)).alloc (.cells #[x', y', z'] 35)).drew w1) :
    (w1.cell? ⟨W.heap.size, 0, none⟩ = some x ∧ w1.cell? ⟨W.heap.size, 1, none⟩ = some y ∧ w1.cell? ⟨W.heap.size, 2, none⟩ = some z ∧ (∀ i, w1.frozen? ⟨W.heap.size, i, none⟩ = false)) ∧
    (w1.cell? ⟨W.heap.size + 1, 0, none⟩ = some x' ∧ w1.cell? ⟨W.heap.size + 1, 1, none⟩ = some y' ∧ w1.cell? ⟨W.heap.size + 1, 2, none⟩ = some z' ∧ (∀ i, w1.frozen? ⟨W.heap.size + 1, i, none⟩ = false)) ∧ W.heap.size + 1 < w1.heap.size :=
  box2 ((Below.refl _ _).drew.trans h)

theorem thus {p q : Prop} (h : p) (k : p → q) : q := k h

/-- A box's three cells. -/
def C3 (w : World) (b : Nat) (x y z : Value) : Prop := w.cell? ⟨b, 0, none⟩ = some x ∧ w.cell? ⟨b, 1, none⟩ = some y ∧ w.cell? ⟨b, 2, none⟩ = some z
theorem fin0 {wn W : World} {x y z x' y' z' : Value} (h : Below wn.heap.size wn W) : C3 ((W.alloc (.cells #[x, y, z] 35)).alloc (.cells #[x', y', z'] 35)) W.heap.size x y z ∧ C3 ((W.alloc (.cells #[x, y, z] 35)).alloc (.cells #[x', y', z'] 35)) (W.heap.size + 1) x' y' z' ∧ Below wn.heap.size wn ((W.alloc (.cells #[x, y, z] 35)).alloc (.cells #[x', y', z'] 35)) := by
  have hs := h.size
  refine ⟨⟨?_, ?_, ?_⟩, ⟨new_cell (World.size_alloc _ _), new_cell (World.size_alloc _ _), new_cell (World.size_alloc _ _)⟩, (h.alloc hs _).alloc (by simp; omega) _⟩
  · rw [World.cell?_alloc_lt _ _ _ (by simp)]; exact new_cell rfl
  · rw [World.cell?_alloc_lt _ _ _ (by simp)]; exact new_cell rfl
  · rw [World.cell?_alloc_lt _ _ _ (by simp)]; exact new_cell rfl
theorem fin1 {wn W : World} {b : Nat} {x y z x' y' z' u0 u1 u2 : Value} (h : Below wn.heap.size wn W) (hb : wn.heap.size ≤ b) (h0 : W.cell? ⟨b, 0, none⟩ = some u0) (h1 : W.cell? ⟨b, 1, none⟩ = some u1) (h2 : W.cell? ⟨b, 2, none⟩ = some u2) :
    C3 ((((W.setCell ⟨b, 0, none⟩ x).setCell ⟨b, 1, none⟩ y).setCell ⟨b, 2, none⟩ z).alloc (.cells #[x', y', z'] 35)) b x y z ∧ C3 ((((W.setCell ⟨b, 0, none⟩ x).setCell ⟨b, 1, none⟩ y).setCell ⟨b, 2, none⟩ z).alloc (.cells #[x', y', z'] 35)) W.heap.size x' y' z' ∧ Below wn.heap.size wn ((((W.setCell ⟨b, 0, none⟩ x).setCell ⟨b, 1, none⟩ y).setCell ⟨b, 2, none⟩ z).alloc (.cells #[x', y', z'] 35)) := by
  have hs := h.size
  have hbl : b < W.heap.size := World.block_lt_of_cell? _ _ h0
  have hsz : (set3 W b 0 x y z).heap.size = W.heap.size := set3_size
  obtain ⟨g0, g1, g2⟩ := set3_cells (x := x) (y := y) (z := z) (o := 0) h0 h1 h2
  have e : (((W.setCell ⟨b, 0, none⟩ x).setCell ⟨b, 1, none⟩ y).setCell ⟨b, 2, none⟩ z) = set3 W b 0 x y z := rfl
  rw [e]
  refine ⟨⟨?_, ?_, ?_⟩, ⟨new_cell hsz, new_cell hsz, new_cell hsz⟩, (set3_below (o := 0) h hb).alloc (by rw [hsz]; exact hs) _⟩
  · rw [World.cell?_alloc_lt _ _ _ (by rw [hsz]; exact hbl)]; exact g0
  · rw [World.cell?_alloc_lt _ _ _ (by rw [hsz]; exact hbl)]; exact g1
  · rw [World.cell?_alloc_lt _ _ _ (by rw [hsz]; exact hbl)]; exact g2
theorem fin2 {wn W : World} {b d : Nat} {x y z x' y' z' u0 u1 u2 t0 t1 t2 : Value} (h : Below wn.heap.size wn W) (hb : wn.heap.size ≤ b) (hd : wn.heap.size ≤ d) (hn : b ≠ d) (h0 : W.cell? ⟨b, 0, none⟩ = some u0) (h1 : W.cell? ⟨b, 1, none⟩ = some u1) (h2 : W.cell? ⟨b, 2, none⟩ = some u2) (k0 : W.cell? ⟨d, 0, none⟩ = some t0) (k1 : W.cell? ⟨d, 1, none⟩ = some t1) (k2 : W.cell? ⟨d, 2, none⟩ = some t2) :
    C3 ((((((W.setCell ⟨b, 0, none⟩ x).setCell ⟨b, 1, none⟩ y).setCell ⟨b, 2, none⟩ z).setCell ⟨d, 0, none⟩ x').setCell ⟨d, 1, none⟩ y').setCell ⟨d, 2, none⟩ z') b x y z ∧ C3 ((((((W.setCell ⟨b, 0, none⟩ x).setCell ⟨b, 1, none⟩ y).setCell ⟨b, 2, none⟩ z).setCell ⟨d, 0, none⟩ x').setCell ⟨d, 1, none⟩ y').setCell ⟨d, 2, none⟩ z') d x' y' z' ∧ Below wn.heap.size wn ((((((W.setCell ⟨b, 0, none⟩ x).setCell ⟨b, 1, none⟩ y).setCell ⟨b, 2, none⟩ z).setCell ⟨d, 0, none⟩ x').setCell ⟨d, 1, none⟩ y').setCell ⟨d, 2, none⟩ z') := by
  obtain ⟨g0, g1, g2⟩ := set3_cells (x := x) (y := y) (z := z) (o := 0) h0 h1 h2
  have m0 : (set3 W b 0 x y z).cell? ⟨d, 0, none⟩ = some t0 := (set3_other (.inl (Ne.symm hn))).trans k0
  have m1 : (set3 W b 0 x y z).cell? ⟨d, 1, none⟩ = some t1 := (set3_other (.inl (Ne.symm hn))).trans k1
  have m2 : (set3 W b 0 x y z).cell? ⟨d, 2, none⟩ = some t2 := (set3_other (.inl (Ne.symm hn))).trans k2
  obtain ⟨l0, l1, l2⟩ := set3_cells (x := x') (y := y') (z := z') (o := 0) m0 m1 m2
  exact ⟨⟨(set3_other (o := 0) (.inl hn)).trans g0, (set3_other (o := 0) (.inl hn)).trans g1, (set3_other (o := 0) (.inl hn)).trans g2⟩, ⟨l0, l1, l2⟩, set3_below (o := 0) (set3_below (o := 0) h hb) hd⟩
theorem swap3 {p q r : Prop} (h : p ∧ q ∧ r) : q ∧ p ∧ r := ⟨h.2.1, h.1, h.2.2⟩

theorem stepU_same {s : Sb} {a b x y : Tm} {L : List (Tm × Tm)} (hx : x = top s a) (hy : y = top s b) (h1 : x.1.1 = true) (h2 : y.1.1 = true) (h3 : x.1.2 = y.1.2) : stepU s a b L = some (s, L) := by
  subst hx hy
  unfold stepU
  rw [if_pos ⟨h1, h2, h3⟩]
theorem stepU_x {s : Sb} {a b x y : Tm} {L : List (Tm × Tm)} (hx : x = top s a) (hy : y = top s b) (h1 : x.1.1 = true) (h2 : ¬ (y.1.1 = true ∧ x.1.2 = y.1.2)) : stepU s a b L = (addS s x.1.2 (subT (bnd s) y)).map fun s' => (s', L) := by
  subst hx hy
  unfold stepU
  rw [if_neg (fun h => h2 h.2), if_pos h1]
theorem stepU_y {s : Sb} {a b x y : Tm} {L : List (Tm × Tm)} (hx : x = top s a) (hy : y = top s b) (h1 : x.1.1 = false) (h2 : y.1.1 = true) : stepU s a b L = (addS s y.1.2 (subT (bnd s) x)).map fun s' => (s', L) := by
  subst hx hy
  unfold stepU
  rw [if_neg (fun h => by rw [h1] at h; exact absurd h.1 (by decide)), if_neg (by rw [h1]; decide), if_pos h2]
theorem stepU_args {s : Sb} {a b x y : Tm} {L : List (Tm × Tm)} (hx : x = top s a) (hy : y = top s b) (h1 : x.1.1 = false) (h2 : y.1.1 = false) (h3 : x.1.2 = y.1.2) (h4 : Fo.len x.2 = Fo.len y.2) : stepU s a b L = some (s, x.2.list.zip y.2.list ++ L) := by
  subst hx hy
  unfold stepU
  rw [if_neg (fun h => by rw [h1] at h; exact absurd h.1 (by decide)), if_neg (by rw [h1]; decide), if_neg (by rw [h2]; decide), if_pos ⟨h3, h4⟩]
theorem stepU_bad {s : Sb} {a b x y : Tm} {L : List (Tm × Tm)} (hx : x = top s a) (hy : y = top s b) (h1 : x.1.1 = false) (h2 : y.1.1 = false) (h3 : ¬ (x.1.2 = y.1.2 ∧ Fo.len x.2 = Fo.len y.2)) : stepU s a b L = none := by
  subst hx hy
  unfold stepU
  rw [if_neg (fun h => by rw [h1] at h; exact absurd h.1 (by decide)), if_neg (by rw [h1]; decide), if_neg (by rw [h2]; decide), if_neg h3]
/-- One step of the run. -/
theorem run_on {m : Nat} {s s' : Sb} {p : Tm × Tm} {L L' : List (Tm × Tm)} {R : Option Sb} (hI : UI s (p :: L)) (hR : runU (m + 1) s (p :: L) = some R) (h : stepU s p.1 p.2 L = some (s', L')) : UI s' L' ∧ runU m s' L' = some R := by
  refine ⟨(step_keeps hI h).1, ?_⟩
  simpa [runU, h] using hR
theorem run_no {m : Nat} {s : Sb} {p : Tm × Tm} {L : List (Tm × Tm)} {R : Option Sb} (hR : runU (m + 1) s (p :: L) = some R) (h : stepU s p.1 p.2 L = none) : R = none := by
  simpa [runU, h] using hR.symm
theorem uni_no {w w' : World} {R : Option Sb} (hb : Below w.heap.size w w') (h : R = none) : UniPost w R (.returned (.tuple #[.slice none 0 0, .bool false])) w' := ⟨hb, none, 0, 0, false, rfl, fun _ => ⟨h, rfl, rfl, rfl⟩, fun e => by cases e⟩

end Go.Proofs.Ytfnkjadfepoicac

/- Found by a pattern: what the law asks, told of terms alone. -/
namespace Go.Proofs.Ytfnkjadfepoicac
open Go.RowKit Go.Deep Go.ChangeShapes Go.WideShapes

theorem extF_nar : ∀ {k l : Fo} {s s' : Sb}, Fo.narrow l → (∀ p ∈ s, narT p.2) → extF k l s = some s' → ∀ p ∈ s', narT p.2
  | .nil, _, s, s', _, hs, h => by simp only [extF, Option.some.injEq] at h; subst h; exact hs
  | .node _ _ _ _ _, .nil, _, _, _, _, h => by simp [extF] at h
  | .node _ _ ⟨v, n⟩ k r, .node _ _ y l q, s, s', hl, hs, h => by
    rw [extF_node, Option.bind_eq_some_iff] at h
    obtain ⟨s1, h1, h2⟩ := h
    rw [nar_node] at hl
    refine extF_nar hl.2 ?_ h2
    cases v
    · unfold extT at h1
      simp only [Bool.false_eq_true, if_false] at h1
      split at h1
      · exact extF_nar hl.1.2 hs h1
      · cases h1
    · cases e : look s n with
      | none =>
        rw [extT_new e] at h1
        cases h1
        intro p hp
        simp only [List.mem_append, List.mem_singleton] at hp
        rcases hp with hp | rfl
        · exact hs p hp
        · exact hl.1
      | some z =>
        rw [extT_old e] at h1
        split at h1
        · cases h1; exact hs
        · cases h1
theorem extT_nar {t u : Tm} {s s' : Sb} (hu : narT u) (hs : ∀ p ∈ s, narT p.2) (h : extT s t u = some s') : ∀ p ∈ s', narT p.2 := by
  have h1 : extF (.node 0 0 t.1 t.2 .nil) (.node 0 0 u.1 u.2 .nil) s = some s' := by rw [extF_node, show extT s (t.1, t.2) (u.1, u.2) = some s' from h]; rfl
  exact extF_nar (k := .node 0 0 t.1 t.2 .nil) (l := .node 0 0 u.1 u.2 .nil) (nar_node.2 ⟨hu, trivial⟩) hs h1
/-- What Match finds, from right terms. -/
theorem match_ok {t u : Tm} {s : Sb} (hu : okT u) (hn : narT u) (h : extT [] t u = some s) : (∀ p ∈ s, narT p.2 ∧ okT p.2) ∧ subT (bnd s) t = u := by
  obtain ⟨h1, h2⟩ := extT_sound hu (fun p hp => by simp at hp) h
  have h3 := extT_nar hn (fun p hp => by simp at hp) h
  exact ⟨fun p hp => ⟨h3 p hp, h1 p hp⟩, h2⟩

theorem norm_norm : ∀ F : Fo, Fo.norm (Fo.norm F) = Fo.norm F
  | .nil => rfl
  | .node _ _ _ k r => by simp [Fo.norm, norm_norm k, norm_norm r]

/-- Terms laid side by side. -/
def two (t u : Tm) : Fo := .node 0 0 t.1 t.2 (.node 0 0 u.1 u.2 .nil)
def one1 (t : Tm) : Fo := .node 0 0 t.1 t.2 .nil
theorem right_two {s : List Int} {t u : Tm} (h : rightB s (two t u) = true) : s.all okNum = true ∧ wrongF s t.1 t.2 = 0 ∧ wrongF s u.1 u.2 = 0 := by
  simp only [rightB, two, Fo.list, List.all_cons, List.all_nil, Bool.and_eq_true, decide_eq_true_eq, Bool.and_true] at h
  exact ⟨(wsig_ok h.1).1, h.2.1, h.2.2⟩
theorem right_one {s : List Int} {t : Tm} (h : rightB s (one1 t) = true) : s.all okNum = true ∧ wrongF s t.1 t.2 = 0 := by
  simp only [rightB, one1, Fo.list, List.all_cons, List.all_nil, Bool.and_eq_true, decide_eq_true_eq, Bool.and_true] at h
  exact ⟨(wsig_ok h.1).1, h.2⟩
theorem two_in {w : World} {t u : Tm} {a c : Value} (h1 : SIn w t.2 a) (h2 : SIn w u.2 c) : SIn (w.alloc (.cells #[.bool t.1.1, .int .i64 t.1.2, a, .bool u.1.1, .int .i64 u.1.2, c] 35)) (two t u) (.slice (some ⟨w.heap.size, 0, none⟩) 2 2) :=
  ⟨_, 2, w.heap.size, 0, rfl, fun _ => rfl, Nat.le_refl _, by unfold maxLen; omega, FIn.mk (new_cell rfl) (new_cell rfl) (new_cell rfl) (h1.alloc _) (FIn.mk (new_cell rfl) (new_cell rfl) (new_cell rfl) (h2.alloc _) trivial)⟩
theorem one_in {w : World} {t : Tm} {a : Value} (h1 : SIn w t.2 a) : SIn (w.alloc (.cells #[.bool t.1.1, .int .i64 t.1.2, a] 35)) (one1 t) (.slice (some ⟨w.heap.size, 0, none⟩) 1 1) :=
  ⟨_, 1, w.heap.size, 0, rfl, fun _ => rfl, Nat.le_refl _, by unfold maxLen; omega, FIn.mk (new_cell rfl) (new_cell rfl) (new_cell rfl) (h1.alloc _) trivial⟩

/-- A right term that has been brought to one form is good. -/
theorem four_right {s : List Int} {x : Bool × Int} {k : Fo} (hs : s.all okNum = true) (hk : Fo.norm k = k) (h : wrongF s x k = 0) : ∀ m, occT m (x, k) → m ≤ 4 := fun m hm => by
  have := four_of_right hs h m (by rw [hk]; exact hm)
  exact this.2
theorem gd_right {s : List Int} {x : Bool × Int} {k : Fo} (hs : s.all okNum = true) (hk : Fo.norm k = k) (h : wrongF s x k = 0) : Gd (x, k) ∧ depT (x, k) ≤ 12 ∧ tszR k ≤ 12 := by
  have := gd_of_right hs h
  rwa [hk] at this

end Go.Proofs.Ytfnkjadfepoicac
