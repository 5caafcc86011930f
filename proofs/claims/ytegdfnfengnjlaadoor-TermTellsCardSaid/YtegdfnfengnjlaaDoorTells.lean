/- Terms told as the document tells them: the law's walk. -/
import Derived.Test.YtegdfnfengnjlaaDoorRRead
import Derived.Test.YtegdfnfengnjlaaDoorTurnsL
namespace Go.Proofs.YtegdfnfengnjlaaDoor
open Go.RowKit Go.Deep Go.ChangeShapes Go.WideShapes
attribute [local go_sem ↓] Go.wp_at_zero Go.wp_at_succ

/-- Three cells that are there. -/
def B3 (w : World) (b : Nat) (x y z : Value) : Prop := w.cell? ⟨b, 0, none⟩ = some x ∧ w.cell? ⟨b, 1, none⟩ = some y ∧ w.cell? ⟨b, 2, none⟩ = some z ∧ ∀ i, w.frozen? ⟨b, i, none⟩ = false
theorem B3.below {w w' : World} {b : Nat} {x y z : Value} (h : B3 w b x y z) (hb : Below w.heap.size w w') : B3 w' b x y z :=
  ⟨grow_cell hb _ _ h.1, grow_cell hb _ _ h.2.1, grow_cell hb _ _ h.2.2.1, fun i => (hb.frozen (p := ⟨b, i, none⟩) (by have := World.block_lt_of_cell? _ _ h.1; exact this)).trans (h.2.2.2 i)⟩
theorem B3.lt {w : World} {b : Nat} {x y z : Value} (h : B3 w b x y z) : b < w.heap.size := World.block_lt_of_cell? _ _ h.1
theorem B3.new (w : World) (x y z : Value) (t : TypeId) : B3 (w.alloc (.cells #[x, y, z] t)) w.heap.size x y z := ⟨by simp, by simp, by simp, fun i => by simp⟩

theorem B3.other {w : World} {b b' o : Nat} {x y z x' y' z' : Value} (h : B3 w b x y z) (hb : b ≠ b') : B3 (set3 w b' o x' y' z') b x y z :=
  ⟨by rw [set3_other (.inl hb)]; exact h.1, by rw [set3_other (.inl hb)]; exact h.2.1, by rw [set3_other (.inl hb)]; exact h.2.2.1, fun i => by rw [set3_frozen]; exact h.2.2.2 i⟩
theorem B3.set {w : World} {b : Nat} {x y z x' y' z' : Value} (h : B3 w b x y z) : B3 (set3 w b 0 x' y' z') b x' y' z' := by
  obtain ⟨h0, h1, h2, hf⟩ := h
  obtain ⟨e0, e1, e2⟩ := set3_cells (o := 0) (x := x') (y := y') (z := z') h0 h1 h2
  exact ⟨e0, e1, e2, fun i => by rw [set3_frozen]; exact hf i⟩

theorem tl_parse {s : List Int} {sv : Value} {tx : List UInt8} {w : World} {E zn : Int} {zv : Bool} {zk : Fo} (h : parseT s tx = (E, ((zv, zn), zk))) (hN : NIn w s sv) (hl : tx.length ≤ 2 ^ 48) :
    Calls Tryd.prog 12 #[sv, .string ⟨tx.toArray⟩] w fun e w' => ∃ a1 a2 a3, e = .returned (.tuple #[.agg #[.bool zv, .int .i64 zn, .slice a1 a2 a3], .int .i64 E]) ∧ SIn w' zk (.slice a1 a2 a3) ∧ Below w.heap.size w w' := by
  have hc := parse_any s sv tx w hN (by unfold maxLen; omega)
  rw [h] at hc
  refine hc.mono ?_
  rintro e w' ⟨a, he, h1, h2⟩
  obtain ⟨a1, a2, a3, rfl⟩ := slice_of_sin h1
  exact ⟨a1, a2, a3, he, h1, h2⟩
theorem tl_parseR {s : List Int} {sv : Value} {tx : List UInt8} {w : World} {E zn : Int} {zv : Bool} {zk : Fo} (h : parseT s tx = (E, ((zv, zn), zk))) (hN : NIn w s sv) (hl : tx.length ≤ 2 ^ 48) :
    Calls Tryd.prog 13 #[sv, .string ⟨tx.toArray⟩] w fun e w' => ∃ a1 a2 a3, e = .returned (.tuple #[.agg #[.bool zv, .int .i64 zn, .slice a1 a2 a3], .int .i64 E]) ∧ SIn w' zk (.slice a1 a2 a3) ∧ Below w.heap.size w w' := by
  have hc := parseR_any s sv tx w hN (by unfold maxLen; omega)
  rw [h] at hc
  refine hc.mono ?_
  rintro e w' ⟨a, he, h1, h2⟩
  obtain ⟨a1, a2, a3, rfl⟩ := slice_of_sin h1
  exact ⟨a1, a2, a3, he, h1, h2⟩
theorem tl_read {s : List Int} {sv : Value} {tx rest : List UInt8} {w : World} {E zn : Int} {zv : Bool} {zk : Fo} (h : readT s (tx.length + 1) tx = (E, ((zv, zn), zk), rest)) (hs : s.all okNum = true) (hN : NIn w s sv) (hl : tx.length ≤ 2 ^ 48) :
    Calls Tryd.prog 14 #[sv, .string ⟨tx.toArray⟩] w fun e w' => ∃ a1 a2 a3, e = .returned (.tuple #[.agg #[.bool zv, .int .i64 zn, .slice a1 a2 a3], .string ⟨rest.toArray⟩, .int .i64 E]) ∧ SB (New w w') w' zk (.slice a1 a2 a3) ∧ Below w.heap.size w w' := by
  have hc := read_any s (tx.length + 1) sv tx w hN hs (by omega) (by unfold maxLen; omega)
  rw [h] at hc
  refine hc.mono ?_
  rintro e w' ⟨a, he, h1, h2⟩
  obtain ⟨a1, a2, a3, rfl⟩ := slice_of_sin h1.toS
  exact ⟨a1, a2, a3, he, h1, h2⟩
theorem tl_readR {s : List Int} {sv : Value} {tx rest : List UInt8} {w : World} {E zn : Int} {zv : Bool} {zk : Fo} (h : readT s (tx.length + 1) tx = (E, ((zv, zn), zk), rest)) (hs : s.all okNum = true) (hN : NIn w s sv) (hl : tx.length ≤ 2 ^ 48) :
    Calls Tryd.prog 15 #[sv, .string ⟨tx.toArray⟩] w fun e w' => ∃ a1 a2 a3, e = .returned (.tuple #[.agg #[.bool zv, .int .i64 zn, .slice a1 a2 a3], .string ⟨rest.toArray⟩, .int .i64 E]) ∧ SB (New w w') w' zk (.slice a1 a2 a3) ∧ Below w.heap.size w w' := by
  have hc := readR_any s sv tx w hN hs (by unfold maxLen; omega)
  rw [h] at hc
  exact hc
theorem tl_same {x : Bool × Int} {k : Fo} {a c : Value} {w : World} (hS : SIn w k a) (hS2 : SIn w k c) :
    Calls Tryd.prog 11 #[.agg #[.bool x.1, .int .i64 x.2, a], .agg #[.bool x.1, .int .i64 x.2, c]] w fun e w' => e = .returned (.bool true) ∧ Below w.heap.size w w' := by
  have h := sameR_any x k x k a c w hS hS2
  rw [sameT_refl] at h
  exact h

/-- The ways Z lie in w, as the value v says. -/
def WIn2 (w : World) (Z : List (List Int)) (v : Value) : Prop :=
  ∃ (a : Option Addr) (c b : Nat), v = .slice a Z.length c ∧ (0 < Z.length → a = some ⟨b, 0, none⟩) ∧ Z.length ≤ c ∧ c ≤ maxLen ∧ ∀ i p, Z[i]? = some p → ∃ pv, w.cell? ⟨b, i, none⟩ = some pv ∧ NIn w p pv
theorem WIn2.below {w w' : World} (hb : Below w.heap.size w w') {Z : List (List Int)} {v : Value} (h : WIn2 w Z v) : WIn2 w' Z v := by
  obtain ⟨a, c, b, h1, h2, h3, h4, h5⟩ := h
  refine ⟨a, c, b, h1, h2, h3, h4, fun i p hp => ?_⟩
  obtain ⟨pv, k1, k2⟩ := h5 i p hp
  exact ⟨pv, grow_cell hb _ _ k1, k2.below hb⟩
theorem ways_in {w : World} {lo : Nat} {v : Value} {g : Option Nat} {ys : List Value} {Z : List (List Int)} (h : w.ownsRow lo 22 1 v ys.length ys) (hP : Pw w lo g ys Z) : WIn2 w Z v := by
  have hl := hP.1
  rcases h.2 with ⟨hv, h0⟩ | ⟨q, cap, cur, hv, _, _, hn, hm, _, _⟩
  · have hZ : Z.length = 0 := by omega
    refine ⟨none, 0, 0, by rw [hv, hZ], fun h => by omega, by omega, Nat.zero_le _, fun i p hp => ?_⟩
    have := (List.getElem?_eq_some_iff.1 hp).1
    omega
  · refine ⟨some ⟨q, 0, none⟩, cap, q, by rw [hv, hl], fun _ => rfl, by omega, hm, fun i p hp => ?_⟩
    have hi : i < Z.length := (List.getElem?_eq_some_iff.1 hp).1
    obtain ⟨pv, hpv⟩ : ∃ pv, ys[i]? = some pv := ⟨ys[i]'(by omega), by simp⟩
    refine ⟨pv, ?_, own_nin (hP.2 i pv p hpv hp).1⟩
    subst hv
    rw [h.cellAt i (by omega), hpv]
theorem tl_places {x : Bool × Int} {k : Fo} {a : Value} {w : World} {Z : List (List Int)} (hZ : Z = placesT x k []) (hS : SIn w k a) (hb : tszR k ≤ 12) :
    Calls Tryd.prog 16 #[.agg #[.bool x.1, .int .i64 x.2, a]] w fun e w' => ∃ z1 z3, e = .returned (.slice z1 Z.length z3) ∧ WIn2 w' Z (.slice z1 Z.length z3) ∧ Below w.heap.size w w' := by
  refine (places_any x k a w hS (by omega)).mono ?_
  rintro e w' ⟨vo, ys, rfl, h1, h2, h3⟩
  rw [← hZ] at h2
  have h4 := ways_in h1 h2
  obtain ⟨z1, z3, _, rfl, _⟩ := h4
  exact ⟨z1, z3, rfl, ways_in h1 h2, h3⟩
theorem tl_placesR {x : Bool × Int} {k : Fo} {a : Value} {w : World} {Z : List (List Int)} (hZ : Z = placesT x k []) (hS : SIn w k a) (hb : tszR k ≤ 12) :
    Calls Tryd.prog 17 #[.agg #[.bool x.1, .int .i64 x.2, a]] w fun e w' => ∃ z1 z3, e = .returned (.slice z1 Z.length z3) ∧ WIn2 w' Z (.slice z1 Z.length z3) ∧ Below w.heap.size w w' := by
  refine (placesR_any x k a w hS (by omega)).mono ?_
  rintro e w' ⟨vo, ys, rfl, h1, h2, h3⟩
  rw [← hZ] at h2
  have h4 := ways_in h1 h2
  obtain ⟨z1, z3, _, rfl, _⟩ := h4
  exact ⟨z1, z3, rfl, ways_in h1 h2, h3⟩

theorem tl_size {x : Bool × Int} {k : Fo} {a : Value} {w : World} (hA : tsz x k = tszR k) (hb : tszR k ≤ 12) (hS : SIn w k a) :
    Calls Tryd.prog 18 #[.agg #[.bool x.1, .int .i64 x.2, a]] w fun e w' => e = .returned (.int .i64 (tszR k : Int)) ∧ Below w.heap.size w w' := size_is hA (by omega) hS
theorem tl_sizeR {x : Bool × Int} {k : Fo} {a : Value} {w : World} (hb : tszR k ≤ 12) (hS : SIn w k a) :
    Calls Tryd.prog 19 #[.agg #[.bool x.1, .int .i64 x.2, a]] w fun e w' => e = .returned (.int .i64 (tszR k : Int)) ∧ Below w.heap.size w w' := by
  have h := sizeR_any x k a w hS
  rw [wrap64_small (by omega) (by omega)] at h
  exact h
theorem tl_textR {s : List Int} {x : Bool × Int} {k : Fo} {a : Value} {w : World} {B : ByteArray} (hB : B.data.toList = textT x k) (hs : s.all okNum = true) (h6 : s.length ≤ 6) (h : wrongF s x k = 0) (hS : SIn w k a) :
    Calls Tryd.prog 21 #[.agg #[.bool x.1, .int .i64 x.2, a]] w fun e w' => e = .returned (.string B) ∧ Below w.heap.size w w' := by
  obtain ⟨h1, _, _, _, hw⟩ := right_of hs h
  have hl := textT_len x k
  obtain ⟨t1, t2⟩ := text_okT h6 hw
  refine (textR_any x k a w hS t1 t2 (by omega)).mono ?_
  rintro e w' ⟨U, rfl, hU, hb⟩
  have : U = B := by
    apply ByteArray.ext
    apply Array.ext'
    rw [hU, hB]
  exact ⟨by rw [this], hb⟩
theorem tl_vars {x : Bool × Int} {k : Fo} {a : Value} {q : List Int} {qv : Value} {w : World} {T : List Int} (hT : T = varsT x k q) (hb : tszR k ≤ 12) (hq : (q.length + 100) * 8 ≤ 140737488355328) (hS : SIn w k a) (hN : NIn w q qv) :
    Calls Tryd.prog 23 #[qv, .agg #[.bool x.1, .int .i64 x.2, a]] w fun e w' => ∃ z1 z3, e = .returned (.slice z1 T.length z3) ∧ NIn w' T (.slice z1 T.length z3) ∧ Below w.heap.size w w' := by
  refine (vars_any x k a q qv w T hT hS hN (by omega)).mono ?_
  rintro e w' ⟨v', rfl, h1, h2⟩
  have h3 := own_nin h1
  obtain ⟨z1, z3, rfl⟩ := nin_slice h3
  exact ⟨z1, z3, rfl, h3, h2⟩
theorem tl_varsR {x : Bool × Int} {k : Fo} {a : Value} {q : List Int} {qv : Value} {w : World} {T : List Int} (hT : T = varsT x k q) (hb : tszR k ≤ 12) (hq : (q.length + 100) * 8 ≤ 140737488355328) (hS : SIn w k a) (hN : NIn w q qv) :
    Calls Tryd.prog 24 #[qv, .agg #[.bool x.1, .int .i64 x.2, a]] w fun e w' => ∃ z1 z3, e = .returned (.slice z1 T.length z3) ∧ NIn w' T (.slice z1 T.length z3) ∧ Below w.heap.size w w' := by
  refine (varsR_any x k a q qv w T hT hS hN (by omega)).mono ?_
  rintro e w' ⟨v', rfl, h1, h2⟩
  obtain ⟨z1, z3, rfl⟩ := nin_slice h1
  exact ⟨z1, z3, rfl, h1, h2⟩
theorem tl_nums {T : List Int} {v1 v2 : Value} {w : World} (h1 : NIn w T v1) (h2 : NIn w T v2) : Calls Tryd.prog 22 #[v1, v2] w fun e w' => e = .returned (.bool true) ∧ Below w.heap.size w w' := by
  have h := nums_any T T v1 v2 w h1 h2
  rw [decide_eq_true rfl] at h
  exact h

/-- What At answers, one way. -/
def AtIs (p : List Int) (x : Bool × Int) (k : Fo) (b : Bool) (z : Bool × Int) (m : Fo) : Prop := atT p x k = (if b then some (z, m) else none) ∧ (b = false → z = (false, 0) ∧ m = .nil)
theorem at_is (p : List Int) (x : Bool × Int) (k : Fo) : ∃ b z m, AtIs p x k b z m := by
  cases h : atT p x k with
  | none => exact ⟨false, (false, 0), .nil, h, fun _ => ⟨rfl, rfl⟩⟩
  | some y => exact ⟨true, y.1, y.2, h, fun h => by cases h⟩
theorem tl_at {p : List Int} {pv : Value} {x z : Bool × Int} {k m : Fo} {b : Bool} {a : Value} {w : World} (h : AtIs p x k b z m) (hS : SIn w k a) (hN : NIn w p pv) (hl : Fo.len k ≤ 1000) (hn : Fo.narrow k) :
    Calls Tryd.prog 25 #[.agg #[.bool x.1, .int .i64 x.2, a], pv] w fun e w' => ∃ a1 a2 a3, e = .returned (.tuple #[.agg #[.bool z.1, .int .i64 z.2, .slice a1 a2 a3], .bool b]) ∧ SB (New w w') w' m (.slice a1 a2 a3) ∧ Below w.heap.size w w' := by
  refine (at_any x k a p pv w hS hN hl hn).mono ?_
  rintro e w' ⟨hb, h1⟩
  cases b with
  | false =>
    obtain ⟨rfl, rfl⟩ := h.2 rfl
    rcases h1 with ⟨_, he⟩ | ⟨y, l, a', h2, _⟩
    · exact ⟨none, 0, 0, he, SB.nil _ _, hb⟩
    · rw [h.1] at h2; cases h2
  | true =>
    rcases h1 with ⟨h2, _⟩ | ⟨y, l, a', h2, he, h3⟩
    · rw [h.1] at h2; cases h2
    · rw [h.1] at h2
      cases h2
      obtain ⟨a1, a2, a3, rfl⟩ := slice_of_sin h3.toS
      exact ⟨a1, a2, a3, he, h3, hb⟩
theorem tl_atR {s : List Int} {X : Nat → Prop} {p : List Int} {pv : Value} {x z : Bool × Int} {k m : Fo} {b : Bool} {a : Value} {w : World} (h : AtIs p x k b z m) (hw : walkT s x k 1 = 0) (hX : ∀ q, X q → q < w.heap.size) (hS : SB X w k a) (hN : NIn w p pv) :
    Calls Tryd.prog 26 #[.agg #[.bool x.1, .int .i64 x.2, a], pv] w fun e w' => ∃ a1 a2 a3, e = .returned (.tuple #[.agg #[.bool z.1, .int .i64 z.2, .slice a1 a2 a3], .bool b]) ∧ SB X w' m (.slice a1 a2 a3) ∧ Below w.heap.size w w' := by
  refine (atR_any p X x k a pv w hX hS hN).mono ?_
  rintro e w' ⟨b', y, l, a1, a2, a3, rfl, h1, h2, h3, hb⟩
  rw [atR_atT hw, h.1] at h2
  have h1' := h1.grow hX hb
  cases b with
  | false =>
    obtain ⟨rfl, rfl⟩ := h.2 rfl
    cases b' with
    | false =>
      obtain ⟨rfl, rfl⟩ := h3 rfl
      exact ⟨a1, a2, a3, rfl, h1', hb⟩
    | true => cases h2
  | true =>
    cases b' with
    | false => cases h2
    | true =>
      cases h2
      exact ⟨a1, a2, a3, rfl, h1', hb⟩
theorem tl_putR {s : List Int} {X : Nat → Prop} {p : List Int} {pv : Value} {x y z : Bool × Int} {k l r : Fo} {a c : Value} {w : World} (hq : putT p (x, k) (y, l) = (z, r)) (hw : walkT s x k 1 = 0) (hX : ∀ q, X q → q < w.heap.size) (hS : SB X w k a) (hU : SB X w l c) (hN : NIn w p pv) (hl : Fo.len k ≤ 1000) (hn : Fo.narrow k) :
    Calls Tryd.prog 28 #[.agg #[.bool x.1, .int .i64 x.2, a], pv, .agg #[.bool y.1, .int .i64 y.2, c]] w fun e w' => ∃ r' a1 a2 a3, e = .returned (.agg #[.bool z.1, .int .i64 z.2, .slice a1 a2 a3]) ∧ SIn w' r' (.slice a1 a2 a3) ∧ Fo.norm r = Fo.norm r' ∧ Below w.heap.size w w' := by
  refine (putR_any p X x k a pv y l c w hX hS hU hN hl hn).mono ?_
  rintro e w' ⟨z', r', a1, a2, a3, rfl, h1, h2, h3, hb⟩
  rw [putR_putT hw, hq] at h2 h3
  subst h2
  exact ⟨r', a1, a2, a3, rfl, h1.toS, h3.symm, hb⟩
theorem tl_same2 {x : Bool × Int} {k k' : Fo} {a c : Value} {w : World} (hn : Fo.norm k = Fo.norm k') (hS : SIn w k a) (hS2 : SIn w k' c) :
    Calls Tryd.prog 11 #[.agg #[.bool x.1, .int .i64 x.2, a], .agg #[.bool x.1, .int .i64 x.2, c]] w fun e w' => e = .returned (.bool true) ∧ Below w.heap.size w w' := by
  have h := sameR_any x k x k' a c w hS hS2
  rw [sameT_norm rfl hn] at h
  exact h

theorem sameT_self (x : Bool × Int) (k : Fo) : sameT x k x k = true := sameT_refl x k

set_option maxHeartbeats 4000000 in
set_option maxRecDepth 100000 in
theorem termTells_any (s : List Int) (sv : Value) (x : Bool × Int) (k : Fo) (a : Value) (y : Bool × Int) (l : Fo) (c : Value) (p : List Int) (pv : Value) (tx : List UInt8) (q : List Int) (qv : Value) (w : World)
    (hN : NIn w s sv) (hS : SIn w k a) (hU : SIn w l c) (hP : NIn w p pv) (hT : tx.length ≤ 2 ^ 48) (hQ : NIn w q qv) (hQl : (q.length + 100) * 8 ≤ 140737488355328) :
    Calls Tryd.prog 3 #[sv, .agg #[.bool x.1, .int .i64 x.2, a], .agg #[.bool y.1, .int .i64 y.2, c], pv, str tx, qv] w fun e w' => e = .returned (.bool true) ∧ Below w.heap.size w w' := by
  obtain ⟨xv, xn⟩ := x
  obtain ⟨yv, yn⟩ := y
  have HN := hide hN
  have HS := hide hS
  have HU := hide hU
  have HP := hide hP
  have HQ := hide hQ
  obtain ⟨sa, sc, sb, so, rfl, -, -, -, -⟩ := hN
  obtain ⟨ta, tc, tb, tw, rfl, -, -, -, -⟩ := hS
  obtain ⟨ua, uc, ub, uo, rfl, -, -, -, -⟩ := hU
  obtain ⟨p1, p3, rfl⟩ := nin_slice hP
  obtain ⟨l1, l3, rfl⟩ := nin_slice hQ
  clear hP hQ
  go_enter Tryd.func3, Tryd.ntmps3
  go_upto_region 1 with fail
  generalize hw0 : (w.alloc (.cells #[.bool xv, .int .i64 xn, .slice ta (Fo.len k) tc] 26)).alloc (.cells #[.bool yv, .int .i64 yn, .slice ua (Fo.len l) uc] 26) = w0
  have hB0 : Below w.heap.size w w0 := by rw [← hw0]; exact (below_alloc _ _).alloc (by simp) _
  have Ht : Hid (B3 w0 w.heap.size (.bool xv) (.int .i64 xn) (.slice ta (Fo.len k) tc)) := by rw [← hw0]; exact (B3.new _ _ _ _ _).below (below_alloc _ _)
  have Hu : Hid (B3 w0 (w.heap.size + 1) (.bool yv) (.int .i64 yn) (.slice ua (Fo.len l) uc)) := by
    have := B3.new (w.alloc (.cells #[.bool xv, .int .i64 xn, .slice ta (Fo.len k) tc] 26)) (.bool yv) (.int .i64 yn) (.slice ua (Fo.len l) uc) 26
    rw [hw0, World.size_alloc] at this
    exact this
  clear hw0
  go_cut [46] (fun s46 wx => s46 = .bool false ∧ Below w0.heap.size w0 wx)
  case first =>
    obtain ⟨t0, t1, t2, -⟩ := Ht.out
    obtain ⟨u0, u1, u2, -⟩ := Hu.out
    have hcur : Below w0.heap.size w0 w0.drew := (Below.refl _ _).drew
    go_region_held3 (fun w' => w'.cell? ⟨w.heap.size, 0, none⟩ = some (.bool xv) ∧ w'.cell? ⟨w.heap.size, 1, none⟩ = some (.int .i64 xn) ∧ w'.cell? ⟨w.heap.size, 2, none⟩ = some (.slice ta (Fo.len k) tc) ∧ w'.cell? ⟨w.heap.size + 1, 0, none⟩ = some (.bool yv) ∧ w'.cell? ⟨w.heap.size + 1, 1, none⟩ = some (.int .i64 yn) ∧ w'.cell? ⟨w.heap.size + 1, 2, none⟩ = some (.slice ua (Fo.len l) uc))
      (first
        | exact ⟨grow_cell hcur _ _ t0, grow_cell hcur _ _ t1, grow_cell hcur _ _ t2, grow_cell hcur _ _ u0, grow_cell hcur _ _ u1, grow_cell hcur _ _ u2⟩
        | go_keep)
      (first
        | (go_at_call 6; refine (wsig_any s _ _ ?_).mono ?_; (exact HN.out.below (below_step hB0 hcur)); rintro e _ ⟨rfl, rfl⟩)
        | (go_at_call 7; refine (wsigR_any s _ _ ?_).mono ?_; (exact HN.out.below (below_step hB0 hcur)); rintro e _ ⟨rfl, rfl⟩)
        | (go_at_call 8; refine (wrong_any s _ (xv, xn) k _ _ ?_ ?_).mono ?_; (exact HN.out.below (below_step hB0 hcur)); (exact HS.out.below (below_step hB0 hcur)); rintro e w' ⟨rfl, hb⟩; replace hcur := below_step hcur hb; clear hb)
        | (go_at_call 9; refine (wrongR_any s _ (xv, xn) k _ _ ?_ ?_).mono ?_; (exact HN.out.below (below_step hB0 hcur)); (exact HS.out.below (below_step hB0 hcur)); rintro e w' ⟨rfl, hb⟩; replace hcur := below_step hcur hb; clear hb)
        | (go_at_call 10; refine (same_any (xv, xn) k (yv, yn) l _ _ _ ?_ ?_).mono ?_; (exact HS.out.below (below_step hB0 hcur)); (exact HU.out.below (below_step hB0 hcur)); rintro e w' ⟨rfl, hb⟩; replace hcur := below_step hcur hb; clear hb)
        | (go_at_call 11; refine (sameR_any (xv, xn) k (yv, yn) l _ _ _ ?_ ?_).mono ?_; (exact HS.out.below (below_step hB0 hcur)); (exact HU.out.below (below_step hB0 hcur)); rintro e w' ⟨rfl, hb⟩; replace hcur := below_step hcur hb; clear hb))
    all_goals
      go_wp2_with fail
      go_meet
      case rel => exact ⟨rfl, hcur⟩
  case rest =>
    obtain ⟨rfl, hb1⟩ := hcut
    generalize wc = w1 at *
    have hB1 := below_step hB0 hb1
    have Ht1 := hide (Ht.out.below hb1)
    have Hu1 := hide (Hu.out.below hb1)
    obtain ⟨⟨E, ⟨zv, zn⟩, zk⟩, hpt⟩ : ∃ z, parseT s tx = z := ⟨_, rfl⟩
    have Hpt := hide hpt
    have ht1 := Ht1.out.lt
    have hu1 := Hu1.out.lt
    clear hB0 hb1 Ht Hu hpt
    go_wp2_with fail
    refine (tl_parse Hpt.out (HN.out.below hB1) hT).mono ?_
    rintro e w2 ⟨a1, a2, a3, rfl, hSa, hb⟩
    have hB2 := below_step hB1 hb
    have Ht2 := hide (Ht1.out.below hb)
    have Hu2 := hide (Hu1.out.below hb)
    have hs2 := hb.size
    have HSa := hide hSa
    clear hB1 hb Ht1 Hu1 hSa
    go_upto_region 4 with fail
    generalize hw3 : w2.alloc (.cells #[.bool zv, .int .i64 zn, .slice a1 a2 a3] 26) = w3
    have hb : Below w2.heap.size w2 w3 := by rw [← hw3]; exact below_alloc _ _
    have Ha3 : Hid (B3 w3 w2.heap.size (.bool zv) (.int .i64 zn) (.slice a1 a2 a3)) := by rw [← hw3]; exact B3.new _ _ _ _ _
    have hs3 : w3.heap.size = w2.heap.size + 1 := by rw [← hw3]; simp
    have hB3 := below_step hB2 hb
    have Ht3 := hide (Ht2.out.below hb)
    have Hu3 := hide (Hu2.out.below hb)
    have HSa3 := hide (HSa.out.below hb)
    clear hB2 hb Ht2 Hu2 HSa hw3
    go_wp2_with fail
    refine (tl_parseR Hpt.out (HN.out.below hB3) hT).mono ?_
    rintro e w4 ⟨c1, c2, c3, rfl, hSb, hb⟩
    have hB4 := below_step hB3 hb
    have Ht4 := hide (Ht3.out.below hb)
    have Hu4 := hide (Hu3.out.below hb)
    have Ha4 := hide (Ha3.out.below hb)
    have HSa4 := hide (HSa3.out.below hb)
    have hs4 := hb.size
    have HSb := hide hSb
    clear hB3 hb Ht3 Hu3 HSa3 Ha3 hSb
    go_upto_region 5 with fail
    generalize hw5 : w4.alloc (.cells #[.bool zv, .int .i64 zn, .slice c1 c2 c3] 26) = w5
    have hb : Below w4.heap.size w4 w5 := by rw [← hw5]; exact below_alloc _ _
    have Hb5 : Hid (B3 w5 w4.heap.size (.bool zv) (.int .i64 zn) (.slice c1 c2 c3)) := by rw [← hw5]; exact B3.new _ _ _ _ _
    have hB5 := below_step hB4 hb
    have Ht5 := hide (Ht4.out.below hb)
    have Hu5 := hide (Hu4.out.below hb)
    have Ha5 := hide (Ha4.out.below hb)
    have HSa5 := hide (HSa4.out.below hb)
    have HSb5 := hide (HSb.out.below hb)
    have hs5 : w5.heap.size = w4.heap.size + 1 := by rw [← hw5]; simp
    clear hB4 hb Ht4 Hu4 Ha4 HSa4 HSb hw5
    obtain ⟨ac0, ac1, ac2, -⟩ := Ha5.out
    obtain ⟨bc0, bc1, bc2, -⟩ := Hb5.out
    go_wp2_with fail
    refine (tl_same (x := (zv, zn)) HSa5.out HSb5.out).mono ?_
    rintro e w6 ⟨rfl, hb⟩
    have hB6 := below_step hB5 hb
    have Ht6 := hide (Ht5.out.below hb)
    have Hu6 := hide (Hu5.out.below hb)
    have Ha6 := hide (Ha5.out.below hb)
    have Hb6 := hide (Hb5.out.below hb)
    have hs6 := hb.size
    clear hB5 hb Ht5 Hu5 Ha5 Hb5 HSa5 HSb5 ac0 ac1 ac2 bc0 bc1 bc2 Hpt
    go_wp2_with fail
    refine (wsigR_any s _ w6 (HN.out.below hB6)).mono ?_
    rintro e w' ⟨rfl, hw'⟩
    rw [hw']
    clear hw' w'
    by_cases hs : ¬ wsig s = 0
    · have hsb : (wsig s != 0) = true := by simpa using hs
      generalize wsig s = G at *
      clear hs
      go_wp2_with fail
      go_ret
      exact ⟨rfl, hB6⟩
    have hs := Decidable.not_not.1 hs
    have Hok := hide (wsig_ok hs)
    simp only [hs]
    clear hs
    by_cases hlen : 1000 < tx.length
    · have hlen' : (1000 : Int) < (tx.length : Int) := by omega
      go_wp2_with fail
      go_ret
      exact ⟨rfl, hB6⟩
    have hlen' : ¬ (1000 : Int) < (tx.length : Int) := by omega
    obtain ⟨⟨F, ⟨⟨rv, rn⟩, rk⟩, rest⟩, hrt⟩ : ∃ z, readT s (tx.length + 1) tx = z := ⟨_, rfl⟩
    have Hrt := hide hrt
    clear hrt
    go_wp2_with fail
    refine (tl_read Hrt.out Hok.out.1 (HN.out.below hB6) hT).mono ?_
    rintro e w7 ⟨d1, d2, d3, rfl, hSd, hb⟩
    have hB7 := below_step hB6 hb
    have Ht7 := hide (Ht6.out.below hb)
    have Hu7 := hide (Hu6.out.below hb)
    have Ha7 := hide (Ha6.out.below hb)
    have Hb7 := hide (Hb6.out.below hb)
    have hs7 := hb.size
    have HSd := hide hSd
    obtain ⟨ac0, ac1, ac2, acf⟩ := Ha7.out
    clear hB6 hb Ht6 Hu6 Ha6 Hb6 hSd
    go_upto_region 10 with fail
    generalize hw8 : ((w7.setCell ⟨w2.heap.size, 0, none⟩ (.bool rv)).setCell ⟨w2.heap.size, 1, none⟩ (.int .i64 rn)).setCell ⟨w2.heap.size, 2, none⟩ (.slice d1 d2 d3) = w8
    have hw8' : set3 w7 w2.heap.size 0 (.bool rv) (.int .i64 rn) (.slice d1 d2 d3) = w8 := hw8
    have hB8 : Below w.heap.size w w8 := by rw [← hw8']; exact set3_below hB7 (by omega)
    have Ht8 : Hid (B3 w8 w.heap.size (.bool xv) (.int .i64 xn) (.slice ta (Fo.len k) tc)) := by rw [← hw8']; exact Ht7.out.other (by omega)
    have Hu8 : Hid (B3 w8 (w.heap.size + 1) (.bool yv) (.int .i64 yn) (.slice ua (Fo.len l) uc)) := by rw [← hw8']; exact Hu7.out.other (by omega)
    have Ha8 : Hid (B3 w8 w2.heap.size (.bool rv) (.int .i64 rn) (.slice d1 d2 d3)) := by rw [← hw8']; exact Ha7.out.set
    have Hb8 : Hid (B3 w8 w4.heap.size (.bool zv) (.int .i64 zn) (.slice c1 c2 c3)) := by rw [← hw8']; exact Hb7.out.other (by omega)
    have HSd8 : Hid (SB (New w6 w7) w8 rk (.slice d1 d2 d3)) := by rw [← hw8']; exact HSd.out.set3 (fun h => by have := h.1; omega)
    have hs8 : w8.heap.size = w7.heap.size := by rw [← hw8', set3_size]
    clear hw8 hw8' Ht7 Hu7 Ha7 Hb7 HSd ac0 ac1 ac2 acf hB7
    go_wp2_with fail
    refine (tl_readR Hrt.out Hok.out.1 (HN.out.below hB8) hT).mono ?_
    rintro e w9 ⟨e1, e2, e3, rfl, hSe, hb⟩
    have hB9 := below_step hB8 hb
    have Ht9 := hide (Ht8.out.below hb)
    have Hu9 := hide (Hu8.out.below hb)
    have Ha9 := hide (Ha8.out.below hb)
    have Hb9 := hide (Hb8.out.below hb)
    have HSd9 := hide (HSd8.out.grow (fun q hq => by have := hq.2; omega) hb)
    have hs9 := hb.size
    have HSe := hide hSe
    obtain ⟨bc0, bc1, bc2, bcf⟩ := Hb9.out
    clear hB8 hb Ht8 Hu8 Ha8 Hb8 hSe HSd8
    go_upto_region 11 with fail
    generalize hw8 : ((w9.setCell ⟨w4.heap.size, 0, none⟩ (.bool rv)).setCell ⟨w4.heap.size, 1, none⟩ (.int .i64 rn)).setCell ⟨w4.heap.size, 2, none⟩ (.slice e1 e2 e3) = w10
    have hw8' : set3 w9 w4.heap.size 0 (.bool rv) (.int .i64 rn) (.slice e1 e2 e3) = w10 := hw8
    have hB10 : Below w.heap.size w w10 := by rw [← hw8']; exact set3_below hB9 (by omega)
    have Ht10 : Hid (B3 w10 w.heap.size (.bool xv) (.int .i64 xn) (.slice ta (Fo.len k) tc)) := by rw [← hw8']; exact Ht9.out.other (by omega)
    have Hu10 : Hid (B3 w10 (w.heap.size + 1) (.bool yv) (.int .i64 yn) (.slice ua (Fo.len l) uc)) := by rw [← hw8']; exact Hu9.out.other (by omega)
    have Ha10 : Hid (B3 w10 w2.heap.size (.bool rv) (.int .i64 rn) (.slice d1 d2 d3)) := by rw [← hw8']; exact Ha9.out.other (by omega)
    have Hb10 : Hid (B3 w10 w4.heap.size (.bool rv) (.int .i64 rn) (.slice e1 e2 e3)) := by rw [← hw8']; exact Hb9.out.set
    have HSd10 : Hid (SIn w10 rk (.slice d1 d2 d3)) := by rw [← hw8']; exact (HSd9.out.set3 (fun h => by have := h.1; omega)).toS
    have HSe10 : Hid (SIn w10 rk (.slice e1 e2 e3)) := by rw [← hw8']; exact (HSe.out.set3 (fun h => by have := h.1; omega)).toS
    have hs10 : w10.heap.size = w9.heap.size := by rw [← hw8', set3_size]
    clear hw8 hw8' Ht9 Hu9 Ha9 Hb9 HSd9 HSe bc0 bc1 bc2 bcf hB9
    obtain ⟨ac0, ac1, ac2, -⟩ := Ha10.out
    obtain ⟨bc0, bc1, bc2, -⟩ := Hb10.out
    go_wp2_with fail
    refine (tl_same (x := (rv, rn)) HSd10.out HSe10.out).mono ?_
    rintro e w11 ⟨rfl, hb⟩
    have hB11 := below_step hB10 hb
    have Ht11 := hide (Ht10.out.below hb)
    have Hu11 := hide (Hu10.out.below hb)
    have Ha11 := hide (Ha10.out.below hb)
    have Hb11 := hide (Hb10.out.below hb)
    have hs11 := hb.size
    obtain ⟨t0, t1, t2, -⟩ := Ht11.out
    obtain ⟨u0, u1, u2, -⟩ := Hu11.out
    clear hB10 hb Ht10 Hu10 Ha10 Hb10 HSd10 HSe10 ac0 ac1 ac2 bc0 bc1 bc2 Hrt
    go_wp2_with fail
    refine (wrongR_any s _ (xv, xn) k _ _ (HN.out.below hB11) (HS.out.below hB11)).mono ?_
    rintro e w12 ⟨rfl, hb⟩
    have hB12 := below_step hB11 hb
    have Ht12 := hide (Ht11.out.below hb)
    have Hu12 := hide (Hu11.out.below hb)
    have Ha12 := hide (Ha11.out.below hb)
    have Hb12 := hide (Hb11.out.below hb)
    have hs12 := hb.size
    have u0' := grow_cell hb _ _ u0
    have u1' := grow_cell hb _ _ u1
    have u2' := grow_cell hb _ _ u2
    clear hB11 hb Ht11 Hu11 Ha11 Hb11 t0 t1 t2 u0 u1 u2
    by_cases hx : ¬ wrongF s (xv, xn) k = 0
    · have hsb : (wrongF s (xv, xn) k != 0) = true := by simpa using hx
      generalize wrongF s (xv, xn) k = G at *
      clear hx
      go_wp2_with fail
      go_ret
      exact ⟨rfl, hB12⟩
    have hx := Decidable.not_not.1 hx
    have Hx := hide (right_of Hok.out.1 hx)
    have Hxw := hide hx
    simp only [hx]
    clear hx
    go_wp2_with fail
    refine (wrongR_any s _ (yv, yn) l _ _ (HN.out.below hB12) (HU.out.below hB12)).mono ?_
    rintro e w13 ⟨rfl, hb⟩
    have hB13 := below_step hB12 hb
    have Ht13 := hide (Ht12.out.below hb)
    have Hu13 := hide (Hu12.out.below hb)
    have Ha13 := hide (Ha12.out.below hb)
    have Hb13 := hide (Hb12.out.below hb)
    have hs13 := hb.size
    clear hB12 hb Ht12 Hu12 Ha12 Hb12 u0' u1' u2'
    by_cases hy : ¬ wrongF s (yv, yn) l = 0
    · have hsb : (wrongF s (yv, yn) l != 0) = true := by simpa using hy
      generalize wrongF s (yv, yn) l = G at *
      clear hy
      go_wp2_with fail
      go_ret
      exact ⟨rfl, hB13⟩
    have hy := Decidable.not_not.1 hy
    have Hy := hide (right_of Hok.out.1 hy)
    simp only [hy]
    clear hy
    obtain ⟨Z, hZ⟩ : ∃ Z, Z = placesT (xv, xn) k [] := ⟨_, rfl⟩
    have HZ := hide hZ
    have hZl : Z.length ≤ 12 := by
      have := placesT_len (xv, xn) k []
      have := Hx.out.1
      rw [← hZ] at *
      omega
    clear hZ
    go_upto_region 15 with fail
    go_cut [19, 20] (fun s19 s20 wx => ∃ (i1 : Option Addr) (i3 : Nat) (j1 : Option Addr) (j3 : Nat), s19 = .slice i1 Z.length i3 ∧ s20 = .slice j1 Z.length j3 ∧ WIn2 wx Z (.slice i1 Z.length i3) ∧ WIn2 wx Z (.slice j1 Z.length j3) ∧ Below w13.heap.size w13 wx)
    case first =>
      obtain ⟨t0, t1, t2, -⟩ := Ht13.out
      have hcur : Below w13.heap.size w13 w13.drew := (Below.refl _ _).drew
      go_region_held3 (fun w' => w'.cell? ⟨w.heap.size, 0, none⟩ = some (.bool xv) ∧ w'.cell? ⟨w.heap.size, 1, none⟩ = some (.int .i64 xn) ∧ w'.cell? ⟨w.heap.size, 2, none⟩ = some (.slice ta (Fo.len k) tc))
        (first
          | exact ⟨grow_cell hcur _ _ t0, grow_cell hcur _ _ t1, grow_cell hcur _ _ t2⟩
          | go_keep)
        (first
          | (go_at_call 16; refine (tl_places (x := (xv, xn)) HZ.out ?_ Hx.out.1).mono ?_; (exact HS.out.below (below_step hB13 hcur)); rintro e w' ⟨i1, i3, rfl, hX, hb⟩; replace hcur := below_step hcur hb; try replace hY := hY.below hb; clear hb)
          | (go_at_call 17; refine (tl_placesR (x := (xv, xn)) HZ.out ?_ Hx.out.1).mono ?_; (exact HS.out.below (below_step hB13 hcur)); rintro e w' ⟨j1, j3, rfl, hY, hb⟩; replace hcur := below_step hcur hb; try replace hX := hX.below hb; clear hb))
      all_goals
        go_wp2_with fail
        go_meet
        case rel => exact ⟨i1, i3, j1, j3, rfl, rfl, hX, hY, hcur⟩
    case rest =>
      obtain ⟨i1, i3, j1, j3, rfl, rfl, hX, hY, hb⟩ := hcut
      generalize wc = w14 at *
      have hB14 := below_step hB13 hb
      have Ht14 := hide (Ht13.out.below hb)
      have Hu14 := hide (Hu13.out.below hb)
      have Ha14 := hide (Ha13.out.below hb)
      have Hb14 := hide (Hb13.out.below hb)
      have hs14 := hb.size
      have HX := hide hX
      have HY := hide hY
      obtain ⟨T, hTT⟩ : ∃ T, T = varsT (xv, xn) k q := ⟨_, rfl⟩
      have HTT := hide hTT
      obtain ⟨B, hBt⟩ : ∃ B : ByteArray, B.data.toList = textT (xv, xn) k := ⟨⟨(textT (xv, xn) k).toArray⟩, rfl⟩
      have HBt := hide hBt
      clear hB13 hb Ht13 Hu13 Ha13 Hb13 hX hY hTT hBt
      go_upto_region 16 with fail
      go_cut [146] (fun s146 wx => s146 = .bool false ∧ Below w14.heap.size w14 wx)
      case first =>
        obtain ⟨t0, t1, t2, -⟩ := Ht14.out
        have hcur : Below w14.heap.size w14 w14.drew := (Below.refl _ _).drew
        go_region_held3 (fun w' => w'.cell? ⟨w.heap.size, 0, none⟩ = some (.bool xv) ∧ w'.cell? ⟨w.heap.size, 1, none⟩ = some (.int .i64 xn) ∧ w'.cell? ⟨w.heap.size, 2, none⟩ = some (.slice ta (Fo.len k) tc))
          (first
            | exact ⟨grow_cell hcur _ _ t0, grow_cell hcur _ _ t1, grow_cell hcur _ _ t2⟩
            | go_keep)
          (first
            | (go_at_call 18; refine (tl_size (x := (xv, xn)) Hx.out.2.1 Hx.out.1 ?_).mono ?_; (exact HS.out.below (below_step hB14 hcur)); rintro e w' ⟨rfl, hb⟩; replace hcur := below_step hcur hb; clear hb)
            | (go_at_call 19; refine (tl_sizeR (x := (xv, xn)) Hx.out.1 ?_).mono ?_; (exact HS.out.below (below_step hB14 hcur)); rintro e w' ⟨rfl, hb⟩; replace hcur := below_step hcur hb; clear hb)
            | (go_at_call 20; refine (tx_text (x := (xv, xn)) HBt.out Hok.out.1 Hok.out.2.1 Hxw.out ?_).mono ?_; (exact HS.out.below (below_step hB14 hcur)); rintro e w' ⟨rfl, hb⟩; replace hcur := below_step hcur hb; clear hb)
            | (go_at_call 21; refine (tl_textR (x := (xv, xn)) HBt.out Hok.out.1 Hok.out.2.1 Hxw.out ?_).mono ?_; (exact HS.out.below (below_step hB14 hcur)); rintro e w' ⟨rfl, hb⟩; replace hcur := below_step hcur hb; clear hb)
            | (go_at_call 23; refine (tl_vars (x := (xv, xn)) HTT.out Hx.out.1 hQl ?_ ?_).mono ?_; (exact HS.out.below (below_step hB14 hcur)); (exact HQ.out.below (below_step hB14 hcur)); rintro e w' ⟨v1, v3, rfl, hV, hb⟩; replace hcur := below_step hcur hb; try replace hW := hW.below hb; clear hb)
            | (go_at_call 24; refine (tl_varsR (x := (xv, xn)) HTT.out Hx.out.1 hQl ?_ ?_).mono ?_; (exact HS.out.below (below_step hB14 hcur)); (exact HQ.out.below (below_step hB14 hcur)); rintro e w' ⟨y1, y3, rfl, hW, hb⟩; replace hcur := below_step hcur hb; try replace hV := hV.below hb; clear hb)
            | (go_at_call 22; refine (tl_nums (T := T) ?_ ?_).mono ?_; (exact hV); (exact hW); rintro e w' ⟨rfl, hb⟩; replace hcur := below_step hcur hb; clear hb hV hW))
        all_goals
          go_wp2_with fail
          go_meet
          case rel => exact ⟨rfl, hcur⟩
      case rest =>
        obtain ⟨rfl, hb⟩ := hcut
        generalize wc = w15 at *
        have hB15 := below_step hB14 hb
        have Ht15 := hide (Ht14.out.below hb)
        have Hu15 := hide (Hu14.out.below hb)
        have Ha15 := hide (Ha14.out.below hb)
        have Hb15 := hide (Hb14.out.below hb)
        have hs15 := hb.size
        have HX15 := hide (HX.out.below hb)
        have HY15 := hide (HY.out.below hb)
        clear hB14 hb Ht14 Hu14 Ha14 Hb14 HX HY HTT HBt
        go_wp2_with fail
        go_loopw [149] (fun i wr => ∃ j : Nat, j ≤ Z.length ∧ i = .int .i64 j ∧ Below w15.heap.size w15 wr) (fun i _ => Z.length - (intOf i).toNat)
        case atStart => exact ⟨0, Nat.zero_le _, rfl, Below.refl _ _⟩
        case round =>
          obtain ⟨j, hj, rfl, hBr⟩ := hrel
          by_cases hjz : j < Z.length
          · have hjz' : (j : Int) < (Z.length : Int) := by omega
            have hj0 : (0 : Int) ≤ (j : Int) := by omega
            obtain ⟨ia, ic, ib, hie, hia, hilc, hicm, hic⟩ := HX15.out
            obtain ⟨ja, jc, jb, hje, hja, hjlc, hjcm, hjc⟩ := HY15.out
            simp only [Value.slice.injEq, true_and] at hie hje
            obtain ⟨rfl, rfl⟩ := hie
            obtain ⟨rfl, rfl⟩ := hje
            have hia' := hia (by omega)
            have hja' := hja (by omega)
            subst hia' hja'
            obtain ⟨pz, hpz⟩ : ∃ pz, Z[j]? = some pz := ⟨Z[j], by simp [hjz]⟩
            obtain ⟨v1, m1, n1⟩ := hic j pz hpz
            obtain ⟨v2, m2, n2⟩ := hjc j pz hpz
            have m1' := grow_cell hBr _ _ m1
            have m2' := grow_cell hBr _ _ m2
            have Hn1 := hide (n1.below hBr)
            have Hn2 := hide (n2.below hBr)
            obtain ⟨f1, f3, rfl⟩ := nin_slice n1
            obtain ⟨g1, g3, rfl⟩ := nin_slice n2
            unfold maxLen at hicm hjcm
            clear hic hjc hpz m1 m2 n1 n2 hia hja
            go_wp2_with fail
            go_region_held3 (fun w' => w'.cell? ⟨ib, j, none⟩ = some (.slice f1 pz.length f3) ∧ w'.cell? ⟨jb, j, none⟩ = some (.slice g1 pz.length g3))
              (first
                | go_keep
                | exact ⟨grow_cell hb _ _ m1', grow_cell hb _ _ m2'⟩)
              (first
                | (go_at_call 22; refine (tl_nums (T := pz) ?_ ?_).mono ?_; (exact Hn1.out.drew); (exact Hn2.out.drew); rintro e w' ⟨rfl, hb⟩))
            have hBr' : Below w15.heap.size w15 w' := below_step hBr (((Below.refl _ _).drew).trans hb)
            clear hb
            go_wp2_with fail
            go_roundw
            case rel => exact ⟨j + 1, by omega, by go_num, hBr'⟩
            case measure => simp [intOf]; omega
          · have hB16 := below_step hB15 hBr
            have Ht16 := hide (Ht15.out.below hBr)
            have Hu16 := hide (Hu15.out.below hBr)
            have Ha16 := hide (Ha15.out.below hBr)
            have Hb16 := hide (Hb15.out.below hBr)
            have hs16 := hBr.size
            have hje : ¬ (j : Int) < (Z.length : Int) := by omega
            generalize wr = w16 at *
            obtain ⟨t0, t1, t2, -⟩ := Ht16.out
            clear hB15 hBr Ht15 Hu15 Ha15 Hb15 HX15 HY15
            go_upto_region 24 with fail
            obtain ⟨b, ⟨gv, gn⟩, gk, hat⟩ := at_is p (xv, xn) k
            have Hat := hide hat
            have hl3 : Fo.len k ≤ 1000 := by have := Hx.out.2.2.1; omega
            have hl4 : Fo.len l ≤ 1000 := by have := Hy.out.2.2.1; omega
            clear hat
            go_wp2_with fail
            refine (tl_at (x := (xv, xn)) Hat.out (HS.out.below hB16) (HP.out.below hB16) hl3 Hx.out.2.2.2.1).mono ?_
            rintro e w17 ⟨k1, k2, k3, rfl, hSk, hb⟩
            have hB17 := below_step hB16 hb
            have Ht17 := hide (Ht16.out.below hb)
            have Hu17 := hide (Hu16.out.below hb)
            have Ha17 := hide (Ha16.out.below hb)
            have Hb17 := hide (Hb16.out.below hb)
            have hs17 := hb.size
            have HSk := hide hSk
            obtain ⟨ac0, ac1, ac2, acf⟩ := Ha17.out
            clear hB16 hb Ht16 Hu16 Ha16 Hb16 hSk t0 t1 t2
            go_upto_region 25 with fail
            generalize hw8 : ((w17.setCell ⟨w2.heap.size, 0, none⟩ (.bool gv)).setCell ⟨w2.heap.size, 1, none⟩ (.int .i64 gn)).setCell ⟨w2.heap.size, 2, none⟩ (.slice k1 k2 k3) = w18
            have hw8' : set3 w17 w2.heap.size 0 (.bool gv) (.int .i64 gn) (.slice k1 k2 k3) = w18 := hw8
            have hB18 : Below w.heap.size w w18 := by rw [← hw8']; exact set3_below hB17 (by omega)
            have Ht18 : Hid (B3 w18 w.heap.size (.bool xv) (.int .i64 xn) (.slice ta (Fo.len k) tc)) := by rw [← hw8']; exact Ht17.out.other (by omega)
            have Hu18 : Hid (B3 w18 (w.heap.size + 1) (.bool yv) (.int .i64 yn) (.slice ua (Fo.len l) uc)) := by rw [← hw8']; exact Hu17.out.other (by omega)
            have Ha18 : Hid (B3 w18 w2.heap.size (.bool gv) (.int .i64 gn) (.slice k1 k2 k3)) := by rw [← hw8']; exact Ha17.out.set
            have Hb18 : Hid (B3 w18 w4.heap.size (.bool rv) (.int .i64 rn) (.slice e1 e2 e3)) := by rw [← hw8']; exact Hb17.out.other (by omega)
            have HSk18 : Hid (SB (New w16 w17) w18 gk (.slice k1 k2 k3)) := by rw [← hw8']; exact HSk.out.set3 (fun h => by have := h.1; omega)
            have hs18 : w18.heap.size = w17.heap.size := by rw [← hw8', set3_size]
            clear hw8 hw8' Ht17 Hu17 Ha17 Hb17 HSk ac0 ac1 ac2 acf hB17
            obtain ⟨t0, t1, t2, -⟩ := Ht18.out
            have HXo : Hid (∀ q, q < w.heap.size → q < w18.heap.size) := fun q hq => by have := hB18.size; omega
            go_wp2_with fail
            refine (tl_atR (s := s) (X := fun q => q < w.heap.size) (x := (xv, xn)) Hat.out Hx.out.2.2.2.2 HXo.out (HS.out.toB.grow (fun q hq => hq) hB18) (HP.out.below hB18)).mono ?_
            rintro e w19 ⟨m1, m2, m3, rfl, hSm, hb⟩
            have hB19 := below_step hB18 hb
            have Ht19 := hide (Ht18.out.below hb)
            have Hu19 := hide (Hu18.out.below hb)
            have Ha19 := hide (Ha18.out.below hb)
            have Hb19 := hide (Hb18.out.below hb)
            have HSk19 := hide (HSk18.out.grow (fun q hq => by have := hq.2; omega) hb)
            have hs19 := hb.size
            have HSm := hide hSm
            obtain ⟨bc0, bc1, bc2, bcf⟩ := Hb19.out
            clear hB18 hb Ht18 Hu18 Ha18 Hb18 hSm HSk18 t0 t1 t2
            go_upto_region 26 with fail
            generalize hw8 : ((w19.setCell ⟨w4.heap.size, 0, none⟩ (.bool gv)).setCell ⟨w4.heap.size, 1, none⟩ (.int .i64 gn)).setCell ⟨w4.heap.size, 2, none⟩ (.slice m1 m2 m3) = w20
            have hw8' : set3 w19 w4.heap.size 0 (.bool gv) (.int .i64 gn) (.slice m1 m2 m3) = w20 := hw8
            have hB20 : Below w.heap.size w w20 := by rw [← hw8']; exact set3_below hB19 (by omega)
            have Ht20 : Hid (B3 w20 w.heap.size (.bool xv) (.int .i64 xn) (.slice ta (Fo.len k) tc)) := by rw [← hw8']; exact Ht19.out.other (by omega)
            have Hu20 : Hid (B3 w20 (w.heap.size + 1) (.bool yv) (.int .i64 yn) (.slice ua (Fo.len l) uc)) := by rw [← hw8']; exact Hu19.out.other (by omega)
            have Ha20 : Hid (B3 w20 w2.heap.size (.bool gv) (.int .i64 gn) (.slice k1 k2 k3)) := by rw [← hw8']; exact Ha19.out.other (by omega)
            have Hb20 : Hid (B3 w20 w4.heap.size (.bool gv) (.int .i64 gn) (.slice m1 m2 m3)) := by rw [← hw8']; exact Hb19.out.set
            have HSk20 : Hid (SIn w20 gk (.slice k1 k2 k3)) := by rw [← hw8']; exact (HSk19.out.set3 (fun h => by have := h.1; omega)).toS
            have HSm20 : Hid (SIn w20 gk (.slice m1 m2 m3)) := by rw [← hw8']; exact (HSm.out.set3 (fun h => by omega)).toS
            clear hw8 hw8' Ht19 Hu19 Ha19 Hb19 HSk19 HSm bc0 bc1 bc2 bcf hB19
            obtain ⟨⟨⟨qx, qn⟩, qr⟩, hq⟩ : ∃ z, putT p ((xv, xn), k) ((yv, yn), l) = z := ⟨_, rfl⟩
            have Hq := hide hq
            have hbb : (b == b) = true := by simp
            obtain ⟨t0, t1, t2, -⟩ := Ht20.out
            obtain ⟨u0, u1, u2, -⟩ := Hu20.out
            obtain ⟨ac0, ac1, ac2, -⟩ := Ha20.out
            obtain ⟨bc0, bc1, bc2, -⟩ := Hb20.out
            clear hq
            have hcur : Below w20.heap.size w20 w20.drew := (Below.refl _ _).drew
            go_region_held3 (fun w' => w'.cell? ⟨w.heap.size, 0, none⟩ = some (.bool xv) ∧ w'.cell? ⟨w.heap.size, 1, none⟩ = some (.int .i64 xn) ∧ w'.cell? ⟨w.heap.size, 2, none⟩ = some (.slice ta (Fo.len k) tc) ∧ w'.cell? ⟨w.heap.size + 1, 0, none⟩ = some (.bool yv) ∧ w'.cell? ⟨w.heap.size + 1, 1, none⟩ = some (.int .i64 yn) ∧ w'.cell? ⟨w.heap.size + 1, 2, none⟩ = some (.slice ua (Fo.len l) uc)
                ∧ w'.cell? ⟨w2.heap.size, 0, none⟩ = some (.bool gv) ∧ w'.cell? ⟨w2.heap.size, 1, none⟩ = some (.int .i64 gn) ∧ w'.cell? ⟨w2.heap.size, 2, none⟩ = some (.slice k1 k2 k3) ∧ w'.cell? ⟨w4.heap.size, 0, none⟩ = some (.bool gv) ∧ w'.cell? ⟨w4.heap.size, 1, none⟩ = some (.int .i64 gn) ∧ w'.cell? ⟨w4.heap.size, 2, none⟩ = some (.slice m1 m2 m3))
              (first
                | exact ⟨grow_cell hcur _ _ t0, grow_cell hcur _ _ t1, grow_cell hcur _ _ t2, grow_cell hcur _ _ u0, grow_cell hcur _ _ u1, grow_cell hcur _ _ u2, grow_cell hcur _ _ ac0, grow_cell hcur _ _ ac1, grow_cell hcur _ _ ac2, grow_cell hcur _ _ bc0, grow_cell hcur _ _ bc1, grow_cell hcur _ _ bc2⟩
                | go_keep)
              (first
                | (go_at_call 27; refine (put_some Hq.out ?_ ?_ ?_ hl3 Hx.out.2.2.2.1 hl4 Hy.out.2.2.2.1).mono ?_; (exact HS.out.below (below_step hB20 hcur)); (exact HP.out.below (below_step hB20 hcur)); (exact HU.out.below (below_step hB20 hcur)); rintro e w' ⟨f1, f2, f3, rfl, hV0, hb⟩; have hV := hV0.toS; replace hcur := below_step hcur hb; try replace hW := hW.below hb; clear hb hV0)
                | (go_at_call 28; refine (tl_putR (s := s) (X := fun q => q < w.heap.size) Hq.out Hx.out.2.2.2.2 ?_ ?_ ?_ ?_ hl3 Hx.out.2.2.2.1).mono ?_; (exact fun q hq => Nat.lt_of_lt_of_le hq (below_step hB20 hcur).size); (exact HS.out.toB.grow (fun q hq => hq) (below_step hB20 hcur)); (exact HU.out.toB.grow (fun q hq => hq) (below_step hB20 hcur)); (exact HP.out.below (below_step hB20 hcur)); rintro e w' ⟨r', g1, g2, g3, rfl, hW, hnm, hb⟩; replace hcur := below_step hcur hb; try replace hV := hV.below hb; clear hb)
                | (go_at_call_of 11 (Value.slice k1 k2 k3); refine (tl_same (x := (gv, gn)) (k := gk) ?_ ?_).mono ?_; (exact HSk20.out.below hcur); (exact HSm20.out.below hcur); rintro e w' ⟨rfl, hb⟩; replace hcur := below_step hcur hb; clear hb)
                | (go_at_call_of 11 (Value.slice f1 f2 f3); refine (tl_same2 (x := (qx, qn)) hnm ?_ ?_).mono ?_; (exact hV); (exact hW); rintro e w' ⟨rfl, hb⟩; replace hcur := below_step hcur hb; clear hb hV hW))
            all_goals
              have hBf := below_step hB20 hcur
              clear hcur
              go_wp2_with fail
              go_ret
              exact ⟨rfl, hBf⟩

end Go.Proofs.YtegdfnfengnjlaaDoor
