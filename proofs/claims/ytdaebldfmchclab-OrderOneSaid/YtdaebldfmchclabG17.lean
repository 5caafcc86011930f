/- Terms told as the document tells them: the law's walk. -/
import Derived.Test.YtdaebldfmchclabG15
import Derived.Test.YtdaebldfmchclabG16
import Derived.Test.YtdaebldfmchclabG13
import Derived.Deep.LoopGhost
import Derived.Test.YtdaebldfmchclabG14
namespace Go.Proofs.Ytdaebldfmchclab
open Go.RowKit Go.Deep Go.ChangeShapes Go.WideShapes
attribute [local go_sem ↓] Go.wp_at_zero Go.wp_at_succ

/-- Three cells that are there. -/
def B3 (w : World) (b : Nat) (x y z : Value) : Prop := w.cell? ⟨b, 0, none⟩ = some x ∧ w.cell? ⟨b, 1, none⟩ = some y ∧ w.cell? ⟨b, 2, none⟩ = some z ∧ ∀ i, w.frozen? ⟨b, i, none⟩ = false
theorem B3.below {w w' : World} {b : Nat} {x y z : Value} (h : B3 w b x y z) (hb : Below w.heap.size w w') : B3 w' b x y z :=
  ⟨grow_cell hb _ _ h.1, grow_cell hb _ _ h.2.1, grow_cell hb _ _ h.2.2.1, fun i => (hb.frozen (p := ⟨b, i, none⟩) (by have := World.block_lt_of_cell? _ _ h.1; exact this)).trans (h.2.2.2 i)⟩
theorem B3.lt {w : World} {b : Nat} {x y z : Value} (h : B3 w b x y z) : b < w.heap.size := World.block_lt_of_cell? _ _ h.1
theorem B3.new (w : World) (x y z : Value) (t : TypeId) : B3 (w.alloc (.cells #[x, y, z] t)) w.heap.size x y z := ⟨by simp, by simp, by simp, fun i => by simp⟩

theorem B3.other {w : World} {b b' o : Nat} {x y z x' y' z' : Value} (h : B3 w b x y z) (hb : b ≠ b') : B3 (set3 w b' o x' y' z') b x y z :=
  ⟨by rw [set3_other (.inl hb)]; exact h.1, by rw [set3_other (.inl hb)]; exact h.2.1, by rw [set3_other (.inl hb)]; exact h.2.2.1, fun i => by rw [set3_frozen]; exact h.2.2.2 i⟩
theorem B3.set {w : World} {b : Nat} {x y z x' y' z' : Value} (h : B3 w b x y z) : B3 (set3 w b 0 x' y' z') b x' y' z' := by
  obtain ⟨h0, h1, h2, hf⟩ := h
  obtain ⟨e0, e1, e2⟩ := set3_cells (o := 0) (x := x') (y := y') (z := z') h0 h1 h2
  exact ⟨e0, e1, e2, fun i => by rw [set3_frozen]; exact hf i⟩

theorem tl_parseR {s : List Int} {sv : Value} {tx : List UInt8} {w : World} {E zn : Int} {zv : Bool} {zk : Fo} (h : parseT s tx = (E, ((zv, zn), zk))) (hN : NIn w s sv) (hl : tx.length ≤ 2 ^ 48) :
    Calls Try.prog 29 #[sv, .string ⟨tx.toArray⟩] w fun e w' => ∃ a1 a2 a3, e = .returned (.tuple #[.agg #[.bool zv, .int .i64 zn, .slice a1 a2 a3], .int .i64 E]) ∧ SIn w' zk (.slice a1 a2 a3) ∧ Below w.heap.size w w' := by
  have hc := parseR_any s sv tx w hN (by unfold maxLen; omega)
  rw [h] at hc
  refine hc.mono ?_
  rintro e w' ⟨a, he, h1, h2⟩
  obtain ⟨a1, a2, a3, rfl⟩ := slice_of_sin h1
  exact ⟨a1, a2, a3, he, h1, h2⟩
theorem tl_readR {s : List Int} {sv : Value} {tx rest : List UInt8} {w : World} {E zn : Int} {zv : Bool} {zk : Fo} (h : readT s (tx.length + 1) tx = (E, ((zv, zn), zk), rest)) (hs : s.all okNum = true) (hN : NIn w s sv) (hl : tx.length ≤ 2 ^ 48) :
    Calls Try.prog 32 #[sv, .string ⟨tx.toArray⟩] w fun e w' => ∃ a1 a2 a3, e = .returned (.tuple #[.agg #[.bool zv, .int .i64 zn, .slice a1 a2 a3], .string ⟨rest.toArray⟩, .int .i64 E]) ∧ SB (New w w') w' zk (.slice a1 a2 a3) ∧ Below w.heap.size w w' := by
  have hc := readR_any s sv tx w hN hs (by unfold maxLen; omega)
  rw [h] at hc
  exact hc
theorem tl_same {x : Bool × Int} {k : Fo} {a c : Value} {w : World} (hS : SIn w k a) (hS2 : SIn w k c) :
    Calls Try.prog 10 #[.agg #[.bool x.1, .int .i64 x.2, a], .agg #[.bool x.1, .int .i64 x.2, c]] w fun e w' => e = .returned (.bool true) ∧ Below w.heap.size w w' := by
  have h := sameR_any x k x k a c w hS hS2
  rw [sameT_refl] at h
  exact h

/-- The ways Z lie in w, as the value v says. -/
def WIn2 (w : World) (Z : List (List Int)) (v : Value) : Prop :=
  ∃ (a : Option Addr) (c b : Nat), v = .slice a Z.length c ∧ (0 < Z.length → a = some ⟨b, 0, none⟩) ∧ Z.length ≤ c ∧ c ≤ maxLen ∧ ∀ i p, Z[i]? = some p → ∃ pv, w.cell? ⟨b, i, none⟩ = some pv ∧ NIn w p pv
theorem WIn2.below {w w' : World} (hb : Below w.heap.size w w') {Z : List (List Int)} {v : Value} (h : WIn2 w Z v) : WIn2 w' Z v := by
  obtain ⟨a, c, b, h1, h2, h3, h4, h5⟩ := h
  refine ⟨a, c, b, h1, h2, h3, h4, fun i p hp => ?_⟩
  obtain ⟨pv, k1, k2⟩ := h5 i p hp
  exact ⟨pv, grow_cell hb _ _ k1, k2.below hb⟩
theorem ways_in {w : World} {lo : Nat} {v : Value} {g : Option Nat} {ys : List Value} {Z : List (List Int)} (h : w.ownsRow lo 22 1 v ys.length ys) (hP : Pw w lo g ys Z) : WIn2 w Z v := by
  have hl := hP.1
  rcases h.2 with ⟨hv, h0⟩ | ⟨q, cap, cur, hv, _, _, hn, hm, _, _⟩
  · have hZ : Z.length = 0 := by omega
    refine ⟨none, 0, 0, by rw [hv, hZ], fun h => by omega, by omega, Nat.zero_le _, fun i p hp => ?_⟩
    have := (List.getElem?_eq_some_iff.1 hp).1
    omega
  · refine ⟨some ⟨q, 0, none⟩, cap, q, by rw [hv, hl], fun _ => rfl, by omega, hm, fun i p hp => ?_⟩
    have hi : i < Z.length := (List.getElem?_eq_some_iff.1 hp).1
    obtain ⟨pv, hpv⟩ : ∃ pv, ys[i]? = some pv := ⟨ys[i]'(by omega), by simp⟩
    refine ⟨pv, ?_, own_nin (hP.2 i pv p hpv hp).1⟩
    subst hv
    rw [h.cellAt i (by omega), hpv]
theorem tl_placesR {x : Bool × Int} {k : Fo} {a : Value} {w : World} {Z : List (List Int)} (hZ : Z = placesT x k []) (hS : SIn w k a) (hb : tszR k ≤ 12) :
    Calls Try.prog 12 #[.agg #[.bool x.1, .int .i64 x.2, a]] w fun e w' => ∃ z1 z3, e = .returned (.slice z1 Z.length z3) ∧ WIn2 w' Z (.slice z1 Z.length z3) ∧ Below w.heap.size w w' := by
  refine (placesR_any x k a w hS (by omega)).mono ?_
  rintro e w' ⟨vo, ys, rfl, h1, h2, h3⟩
  rw [← hZ] at h2
  have h4 := ways_in h1 h2
  obtain ⟨z1, z3, _, rfl, _⟩ := h4
  exact ⟨z1, z3, rfl, ways_in h1 h2, h3⟩

theorem tl_size {x : Bool × Int} {k : Fo} {a : Value} {w : World} (hA : tsz x k = tszR k) (hb : tszR k ≤ 12) (hS : SIn w k a) :
    Calls Try.prog 26 #[.agg #[.bool x.1, .int .i64 x.2, a]] w fun e w' => e = .returned (.int .i64 (tszR k : Int)) ∧ Below w.heap.size w w' := size_is hA (by omega) hS
theorem tl_sizeR {x : Bool × Int} {k : Fo} {a : Value} {w : World} (hb : tszR k ≤ 12) (hS : SIn w k a) :
    Calls Try.prog 23 #[.agg #[.bool x.1, .int .i64 x.2, a]] w fun e w' => e = .returned (.int .i64 (tszR k : Int)) ∧ Below w.heap.size w w' := by
  have h := sizeR_any x k a w hS
  rw [wrap64_small (by omega) (by omega)] at h
  exact h
theorem tl_varsR {x : Bool × Int} {k : Fo} {a : Value} {q : List Int} {qv : Value} {w : World} {T : List Int} (hT : T = varsT x k q) (hb : tszR k ≤ 12) (hq : (q.length + 100) * 8 ≤ 140737488355328) (hS : SIn w k a) (hN : NIn w q qv) :
    Calls Try.prog 11 #[qv, .agg #[.bool x.1, .int .i64 x.2, a]] w fun e w' => ∃ z1 z3, e = .returned (.slice z1 T.length z3) ∧ NIn w' T (.slice z1 T.length z3) ∧ Below w.heap.size w w' := by
  refine (varsR_any x k a q qv w T hT hS hN (by omega)).mono ?_
  rintro e w' ⟨v', rfl, h1, h2⟩
  obtain ⟨z1, z3, rfl⟩ := nin_slice h1
  exact ⟨z1, z3, rfl, h1, h2⟩

/-- What At answers, one way. -/
def AtIs (p : List Int) (x : Bool × Int) (k : Fo) (b : Bool) (z : Bool × Int) (m : Fo) : Prop := atT p x k = (if b then some (z, m) else none) ∧ (b = false → z = (false, 0) ∧ m = .nil)
theorem at_is (p : List Int) (x : Bool × Int) (k : Fo) : ∃ b z m, AtIs p x k b z m := by
  cases h : atT p x k with
  | none => exact ⟨false, (false, 0), .nil, h, fun _ => ⟨rfl, rfl⟩⟩
  | some y => exact ⟨true, y.1, y.2, h, fun h => by cases h⟩
theorem tl_atR {s : List Int} {X : Nat → Prop} {p : List Int} {pv : Value} {x z : Bool × Int} {k m : Fo} {b : Bool} {a : Value} {w : World} (h : AtIs p x k b z m) (hw : walkT s x k 1 = 0) (hX : ∀ q, X q → q < w.heap.size) (hS : SB X w k a) (hN : NIn w p pv) :
    Calls Try.prog 13 #[.agg #[.bool x.1, .int .i64 x.2, a], pv] w fun e w' => ∃ a1 a2 a3, e = .returned (.tuple #[.agg #[.bool z.1, .int .i64 z.2, .slice a1 a2 a3], .bool b]) ∧ SB X w' m (.slice a1 a2 a3) ∧ Below w.heap.size w w' := by
  refine (atR_any p X x k a pv w hX hS hN).mono ?_
  rintro e w' ⟨b', y, l, a1, a2, a3, rfl, h1, h2, h3, hb⟩
  rw [atR_atT hw, h.1] at h2
  have h1' := h1.grow hX hb
  cases b with
  | false =>
    obtain ⟨rfl, rfl⟩ := h.2 rfl
    cases b' with
    | false =>
      obtain ⟨rfl, rfl⟩ := h3 rfl
      exact ⟨a1, a2, a3, rfl, h1', hb⟩
    | true => cases h2
  | true =>
    cases b' with
    | false => cases h2
    | true =>
      cases h2
      exact ⟨a1, a2, a3, rfl, h1', hb⟩
theorem tl_putR {s : List Int} {X : Nat → Prop} {p : List Int} {pv : Value} {x y z : Bool × Int} {k l r : Fo} {a c : Value} {w : World} (hq : putT p (x, k) (y, l) = (z, r)) (hw : walkT s x k 1 = 0) (hX : ∀ q, X q → q < w.heap.size) (hS : SB X w k a) (hU : SB X w l c) (hN : NIn w p pv) (hl : Fo.len k ≤ 1000) (hn : Fo.narrow k) :
    Calls Try.prog 15 #[.agg #[.bool x.1, .int .i64 x.2, a], pv, .agg #[.bool y.1, .int .i64 y.2, c]] w fun e w' => ∃ r' a1 a2 a3, e = .returned (.agg #[.bool z.1, .int .i64 z.2, .slice a1 a2 a3]) ∧ SIn w' r' (.slice a1 a2 a3) ∧ Fo.norm r = Fo.norm r' ∧ Below w.heap.size w w' := by
  refine (putR_any p X x k a pv y l c w hX hS hU hN hl hn).mono ?_
  rintro e w' ⟨z', r', a1, a2, a3, rfl, h1, h2, h3, hb⟩
  rw [putR_putT hw, hq] at h2 h3
  subst h2
  exact ⟨r', a1, a2, a3, rfl, h1.toS, h3.symm, hb⟩
theorem tl_same2 {x : Bool × Int} {k k' : Fo} {a c : Value} {w : World} (hn : Fo.norm k = Fo.norm k') (hS : SIn w k a) (hS2 : SIn w k' c) :
    Calls Try.prog 10 #[.agg #[.bool x.1, .int .i64 x.2, a], .agg #[.bool x.1, .int .i64 x.2, c]] w fun e w' => e = .returned (.bool true) ∧ Below w.heap.size w w' := by
  have h := sameR_any x k x k' a c w hS hS2
  rw [sameT_norm rfl hn] at h
  exact h

theorem sameT_self (x : Bool × Int) (k : Fo) : sameT x k x k = true := sameT_refl x k

end Go.Proofs.Ytdaebldfmchclab

/- Bound, and within others, it stays: what the law asks, told of terms alone. -/
namespace Go.Proofs.Ytdaebldfmchclab
open Go.RowKit Go.Deep Go.ChangeShapes Go.WideShapes

def three (t u v : Tm) : Fo := .node 0 0 t.1 t.2 (two u v)
theorem right_three {s : List Int} {t u v : Tm} (h : rightB s (three t u v) = true) : s.all okNum = true ∧ wrongF s t.1 t.2 = 0 ∧ wrongF s u.1 u.2 = 0 ∧ wrongF s v.1 v.2 = 0 := by
  simp only [rightB, three, two, Fo.list, List.all_cons, List.all_nil, Bool.and_eq_true, decide_eq_true_eq, Bool.and_true] at h
  exact ⟨(wsig_ok h.1).1, h.2.1, h.2.2.1, h.2.2.2⟩
theorem three_in {w : World} {t u v : Tm} {a c d : Value} (h1 : SIn w t.2 a) (h2 : SIn w u.2 c) (h3 : SIn w v.2 d) :
    SIn (w.alloc (.cells #[.bool t.1.1, .int .i64 t.1.2, a, .bool u.1.1, .int .i64 u.1.2, c, .bool v.1.1, .int .i64 v.1.2, d] 26)) (three t u v) (.slice (some ⟨w.heap.size, 0, none⟩) 3 3) :=
  ⟨_, 3, w.heap.size, 0, rfl, fun _ => rfl, Nat.le_refl _, by unfold maxLen; omega, FIn.mk (new_cell rfl) (new_cell rfl) (new_cell rfl) (h1.alloc _) (FIn.mk (new_cell rfl) (new_cell rfl) (new_cell rfl) (h2.alloc _) (FIn.mk (new_cell rfl) (new_cell rfl) (new_cell rfl) (h3.alloc _) trivial))⟩

theorem gd_at : ∀ {p : List Int} {x : Bool × Int} {k : Fo} {z : Tm}, Gd (x, k) → atT p x k = some z → Gd z
  | [], x, k, z, hg, h => by
    simp only [atT, Option.some.injEq] at h
    subst h
    exact hg
  | n :: p, x, k, z, hg, h => by
    obtain ⟨hx, _, _, y, hy, hz⟩ := atT_some h
    exact gd_at (gd_mem hg hx (List.mem_of_getElem? hy)) hz
theorem place_ne {x : Bool × Int} {k : Fo} {i : Nat} {p : List Int} (h : (placesT x k [])[i]? = some p) (hi : 0 < i) : p ≠ [] := by
  unfold placesT at h
  split at h
  · simp at h
  · obtain ⟨j, rfl⟩ : ∃ j, i = j + 1 := ⟨i - 1, by omega⟩
    rw [List.getElem?_cons_succ] at h
    obtain ⟨n, y, p', z, e1, _⟩ := places_at (i := 0) (by simpa using List.mem_of_getElem? h)
    rw [e1]
    simp
theorem cmp_more {a b : Tm} (ha : okT a) (hb : okT b) (h : abvT a b = true) : cmpT a b = 3 := by
  unfold cmpT
  rw [if_neg (fun e => abv_ne ha h ((sameT_iff ha hb).1 e)), if_pos h]
theorem more_cmp {a b : Tm} (h : cmpT a b = 3) : abvT a b = true := by
  unfold cmpT at h
  split at h
  · exact absurd h (by decide)
  · split at h
    · assumption
    · split at h <;> exact absurd h (by decide)
theorem ok_norm : ∀ {F : Fo}, Fo.ok F → Fo.norm F = F
  | .nil, _ => rfl
  | .node p q x k r, h => by
    obtain ⟨rfl, rfl, h3, h4⟩ := ok_node.1 h
    simp [Fo.norm, ok_norm h3.2, ok_norm h4]
theorem setF_two {f : Tm → Tm} : ∀ {F : Fo} {i : Nat} {y : Tm}, twoF F → F.list[i]? = some y → twoT (f y) → twoF (setF F i f)
  | .nil, _, _, _, h, _ => by simp [Fo.list] at h
  | .node _ _ x k r, 0, y, ho, h, hf => by
    simp only [Fo.list, List.getElem?_cons_zero, Option.some.injEq] at h
    subst h
    rw [two_node] at ho
    rw [setF]
    exact two_node.2 ⟨hf, ho.2⟩
  | .node _ _ x k r, i + 1, y, ho, h, hf => by
    rw [two_node] at ho
    rw [setF]
    exact two_node.2 ⟨ho.1, setF_two ho.2 (by simpa [Fo.list] using h) hf⟩
theorem setF_occ {f : Tm → Tm} {m : Int} : ∀ {F : Fo} {i : Nat} {y : Tm}, F.list[i]? = some y → occF m (setF F i f) → occF m F ∨ occT m (f y)
  | .nil, _, _, h, _ => by simp [Fo.list] at h
  | .node _ _ x k r, 0, y, h, ho => by
    simp only [Fo.list, List.getElem?_cons_zero, Option.some.injEq] at h
    subst h
    rw [setF, occF] at ho
    rcases ho with ho | ho
    · exact .inr ho
    · exact .inl (by rw [occF]; exact .inr ho)
  | .node _ _ x k r, i + 1, y, h, ho => by
    rw [setF, occF] at ho
    rcases ho with ho | ho
    · exact .inl (by rw [occF]; exact .inl ho)
    · rcases setF_occ (by simpa [Fo.list] using h) ho with h1 | h1
      · exact .inl (by rw [occF]; exact .inr h1)
      · exact .inr h1
theorem gd_put {u : Tm} (hu : Gd u) : ∀ {p : List Int} {x : Bool × Int} {k : Fo} {z : Tm}, Gd (x, k) → atT p x k = some z → Gd (putT p (x, k) u) ∧ szT (putT p (x, k) u) ≤ szT (x, k) + szT u
  | [], _, _, _, _, _ => ⟨hu, Nat.le_add_left _ _⟩
  | n :: p, x, k, z, hg, h => by
    obtain ⟨hx, h0, h1, y, hy, hz⟩ := atT_some h
    obtain ⟨i1, i2⟩ := gd_put hu (gd_mem hg hx (List.mem_of_getElem? hy)) hz
    rw [putT_cons hx h0 h1]
    refine ⟨⟨⟨fun e => absurd (hx.symm.trans e) (by decide), setF_ok hg.ok.2 hy i1.ok⟩, ⟨by rw [setF_len]; exact hg.two.1, setF_two hg.two.2 hy i1.two⟩, fun m hm => ?_⟩, ?_⟩
    · unfold occT at hm
      simp only [hx, Bool.false_eq_true, if_false] at hm
      rcases setF_occ hy hm with h2 | h2
      · exact hg.few m (by unfold occT; simp only [hx, Bool.false_eq_true, if_false]; exact h2)
      · exact i1.few m h2
    · have h3 : Fo.sizesR (setF k n.toNat fun s => putT p s u) + szT y = Fo.sizesR k + szT (putT p y u) := setF_szR (fun s => putT p s u) hy
      have h4 : szT (putT p y u) ≤ szT y + szT u := i2
      show 1 + Fo.sizesR (setF k n.toNat fun s => putT p s u) ≤ 1 + Fo.sizesR k + szT u
      omega
theorem sub_szT {s : Sb} (hs : ∀ p ∈ s, szT p.2 ≤ 12) {t : Tm} (ht : Gd t) (h : szT t ≤ 12) : szT (subT (bnd s) t) ≤ 1000 := by
  have hc : ∀ n, Fo.sizesR (bnd s n).2 ≤ 12 := fun n => by
    cases e : look s n with
    | none => rw [bnd_none e]; simp [vr, Fo.sizesR]
    | some u =>
      rw [bnd_some e]
      have := hs _ (look_mem e)
      unfold szT tszR at this
      simp only at this
      omega
  rw [subT_size ht.ok, wgT_five ht]
  have q : ∀ n, timT n t * Fo.sizesR (bnd s n).2 ≤ 12 * 12 := fun n => Nat.mul_le_mul (Nat.le_trans (timT_le n t) h) (hc n)
  have q0 := q 0
  have q1 := q 1
  have q2 := q 2
  have q3 := q 3
  have q4 := q 4
  omega

end Go.Proofs.Ytdaebldfmchclab

/- What makes two terms the same: bind's Unify. -/
namespace Go.Proofs.Ytdaebldfmchclab
open Go.RowKit Go.Deep Go.ChangeShapes Go.WideShapes
attribute [local go_sem ↓] Go.wp_at_zero Go.wp_at_succ

def UniPost (w : World) (R : Option Sb) (e : Ending) (w' : World) : Prop :=
  Below w.heap.size w w' ∧ ∃ (z1 : Option Addr) (m z3 : Nat) (ok : Bool), e = .returned (.tuple #[.slice z1 m z3, .bool ok]) ∧ (ok = false → R = none ∧ z1 = none ∧ m = 0 ∧ z3 = 0) ∧ (ok = true → ∃ s', R = some s' ∧ m = s'.length ∧ SubIn w' s' (.slice z1 m z3))

/-- Boxes that were made ahead of a call, behind it. -/
def Bx (w : World) (q : Nat) : Prop := (∃ x, w.cell? ⟨q, 0, none⟩ = some x) ∧ (∃ x, w.cell? ⟨q, 1, none⟩ = some x) ∧ (∃ x, w.cell? ⟨q, 2, none⟩ = some x) ∧ ∀ i, w.frozen? ⟨q, i, none⟩ = false
theorem box1 {W w1 : World} {x y z : Value} (h : Below (W.alloc (.cells #[x, y, z] 26)).heap.size (W.alloc (.cells #[x, y, z] 26)) w1) : w1.cell? ⟨W.heap.size, 0, none⟩ = some x ∧ w1.cell? ⟨W.heap.size, 1, none⟩ = some y ∧ w1.cell? ⟨W.heap.size, 2, none⟩ = some z ∧ (∀ i, w1.frozen? ⟨W.heap.size, i, none⟩ = false) ∧ W.heap.size < w1.heap.size := by
  obtain ⟨a, b, c, d, _, e⟩ := box_full h
  exact ⟨a, b, c, d, e⟩
theorem box1d {W w1 : World} {x y z : Value} (h : Below (W.alloc (.cells #[x, y, z] 26)).drew.heap.size (W.alloc (.cells #[x, y, z] 26)).drew w1) : w1.cell? ⟨W.heap.size, 0, none⟩ = some x ∧ w1.cell? ⟨W.heap.size, 1, none⟩ = some y ∧ w1.cell? ⟨W.heap.size, 2, none⟩ = some z ∧ (∀ i, w1.frozen? ⟨W.heap.size, i, none⟩ = false) ∧ W.heap.size < w1.heap.size :=
  box1 ((Below.refl _ _).drew.trans h)
theorem box2 {W w1 : World} {x y z x' y' z' : Value} (h : Below ((W.alloc (.cells #[x, y, z] 26)).alloc (.cells #[x', y', z'] 26)).heap.size ((W.alloc (.cells #[x, y, z] 26)).alloc (.cells #[x', y', z'] 26)) w1) :
    (w1.cell? ⟨W.heap.size, 0, none⟩ = some x ∧ w1.cell? ⟨W.heap.size, 1, none⟩ = some y ∧ w1.cell? ⟨W.heap.size, 2, none⟩ = some z ∧ (∀ i, w1.frozen? ⟨W.heap.size, i, none⟩ = false)) ∧
    (w1.cell? ⟨W.heap.size + 1, 0, none⟩ = some x' ∧ w1.cell? ⟨W.heap.size + 1, 1, none⟩ = some y' ∧ w1.cell? ⟨W.heap.size + 1, 2, none⟩ = some z' ∧ (∀ i, w1.frozen? ⟨W.heap.size + 1, i, none⟩ = false)) ∧ W.heap.size + 1 < w1.heap.size := by
  obtain ⟨a, b, c, d, e1, e2⟩ := box_full h
  obtain ⟨a', b', c', d', _, _⟩ := box_full e1
  rw [World.size_alloc] at a b c d e2
  exact ⟨⟨a', b', c', d'⟩, ⟨a, b, c, d⟩, e2⟩
theorem box2d {W w1 : World} {x y z x' y' z' : Value} (h : Below ((W.alloc (.cells #[x, y, z] 26)).alloc (.cells #[x', y', z'] 26)).drew.heap.size ((W.alloc (.cells #[x, y, z] 26)).alloc (.cells #[x', y', z'] 26)).drew w1) :
    (w1.cell? ⟨W.heap.size, 0, none⟩ = some x ∧ w1.cell? ⟨W.heap.size, 1, none⟩ = some y ∧ w1.cell? ⟨W.heap.size, 2, none⟩ = some z ∧ (∀ i, w1.frozen? ⟨W.heap.size, i, none⟩ = false)) ∧
    (w1.cell? ⟨W.heap.size + 1, 0, none⟩ = some x' ∧ w1.cell? ⟨W.heap.size + 1, 1, none⟩ = some y' ∧ w1.cell? ⟨W.heap.size + 1, 2, none⟩ = some z' ∧ (∀ i, w1.frozen? ⟨W.heap.size + 1, i, none⟩ = false)) ∧ W.heap.size + 1 < w1.heap.size :=
  box2 ((Below.refl _ _).drew.trans h)

theorem thus {p q : Prop} (h : p) (k : p → q) : q := k h

/-- A box's three cells. -/
def C3 (w : World) (b : Nat) (x y z : Value) : Prop := w.cell? ⟨b, 0, none⟩ = some x ∧ w.cell? ⟨b, 1, none⟩ = some y ∧ w.cell? ⟨b, 2, none⟩ = some z
theorem fin0 {wn W : World} {x y z x' y' z' : Value} (h : Below wn.heap.size wn W) : C3 ((W.alloc (.cells #[x, y, z] 26)).alloc (.cells #[x', y', z'] 26)) W.heap.size x y z ∧ C3 ((W.alloc (.cells #[x, y, z] 26)).alloc (.cells #[x', y', z'] 26)) (W.heap.size + 1) x' y' z' ∧ Below wn.heap.size wn ((W.alloc (.cells #[x, y, z] 26)).alloc (.cells #[x', y', z'] 26)) := by
  have hs := h.size
  refine ⟨⟨?_, ?_, ?_⟩, ⟨new_cell (World.size_alloc _ _), new_cell (World.size_alloc _ _), new_cell (World.size_alloc _ _)⟩, (h.alloc hs _).alloc (by simp; omega) _⟩
  · rw [World.cell?_alloc_lt _ _ _ (by simp)]; exact new_cell rfl
  · rw [World.cell?_alloc_lt _ _ _ (by simp)]; exact new_cell rfl
  · rw [World.cell?_alloc_lt _ _ _ (by simp)]; exact new_cell rfl
theorem fin1 {wn W : World} {b : Nat} {x y z x' y' z' u0 u1 u2 : Value} (h : Below wn.heap.size wn W) (hb : wn.heap.size ≤ b) (h0 : W.cell? ⟨b, 0, none⟩ = some u0) (h1 : W.cell? ⟨b, 1, none⟩ = some u1) (h2 : W.cell? ⟨b, 2, none⟩ = some u2) :
    C3 ((((W.setCell ⟨b, 0, none⟩ x).setCell ⟨b, 1, none⟩ y).setCell ⟨b, 2, none⟩ z).alloc (.cells #[x', y', z'] 26)) b x y z ∧ C3 ((((W.setCell ⟨b, 0, none⟩ x).setCell ⟨b, 1, none⟩ y).setCell ⟨b, 2, none⟩ z).alloc (.cells #[x', y', z'] 26)) W.heap.size x' y' z' ∧ Below wn.heap.size wn ((((W.setCell ⟨b, 0, none⟩ x).setCell ⟨b, 1, none⟩ y).setCell ⟨b, 2, none⟩ z).alloc (.cells #[x', y', z'] 26)) := by
  have hs := h.size
  have hbl : b < W.heap.size := World.block_lt_of_cell? _ _ h0
  have hsz : (set3 W b 0 x y z).heap.size = W.heap.size := set3_size
  obtain ⟨g0, g1, g2⟩ := set3_cells (x := x) (y := y) (z := z) (o := 0) h0 h1 h2
  have e : (((W.setCell ⟨b, 0, none⟩ x).setCell ⟨b, 1, none⟩ y).setCell ⟨b, 2, none⟩ z) = set3 W b 0 x y z := rfl
  rw [e]
  refine ⟨⟨?_, ?_, ?_⟩, ⟨new_cell hsz, new_cell hsz, new_cell hsz⟩, (set3_below (o := 0) h hb).alloc (by rw [hsz]; exact hs) _⟩
  · rw [World.cell?_alloc_lt _ _ _ (by rw [hsz]; exact hbl)]; exact g0
  · rw [World.cell?_alloc_lt _ _ _ (by rw [hsz]; exact hbl)]; exact g1
  · rw [World.cell?_alloc_lt _ _ _ (by rw [hsz]; exact hbl)]; exact g2
theorem fin2 {wn W : World} {b d : Nat} {x y z x' y' z' u0 u1 u2 t0 t1 t2 : Value} (h : Below wn.heap.size wn W) (hb : wn.heap.size ≤ b) (hd : wn.heap.size ≤ d) (hn : b ≠ d) (h0 : W.cell? ⟨b, 0, none⟩ = some u0) (h1 : W.cell? ⟨b, 1, none⟩ = some u1) (h2 : W.cell? ⟨b, 2, none⟩ = some u2) (k0 : W.cell? ⟨d, 0, none⟩ = some t0) (k1 : W.cell? ⟨d, 1, none⟩ = some t1) (k2 : W.cell? ⟨d, 2, none⟩ = some t2) :
    C3 ((((((W.setCell ⟨b, 0, none⟩ x).setCell ⟨b, 1, none⟩ y).setCell ⟨b, 2, none⟩ z).setCell ⟨d, 0, none⟩ x').setCell ⟨d, 1, none⟩ y').setCell ⟨d, 2, none⟩ z') b x y z ∧ C3 ((((((W.setCell ⟨b, 0, none⟩ x).setCell ⟨b, 1, none⟩ y).setCell ⟨b, 2, none⟩ z).setCell ⟨d, 0, none⟩ x').setCell ⟨d, 1, none⟩ y').setCell ⟨d, 2, none⟩ z') d x' y' z' ∧ Below wn.heap.size wn ((((((W.setCell ⟨b, 0, none⟩ x).setCell ⟨b, 1, none⟩ y).setCell ⟨b, 2, none⟩ z).setCell ⟨d, 0, none⟩ x').setCell ⟨d, 1, none⟩ y').setCell ⟨d, 2, none⟩ z') := by
  obtain ⟨g0, g1, g2⟩ := set3_cells (x := x) (y := y) (z := z) (o := 0) h0 h1 h2
  have m0 : (set3 W b 0 x y z).cell? ⟨d, 0, none⟩ = some t0 := (set3_other (.inl (Ne.symm hn))).trans k0
  have m1 : (set3 W b 0 x y z).cell? ⟨d, 1, none⟩ = some t1 := (set3_other (.inl (Ne.symm hn))).trans k1
  have m2 : (set3 W b 0 x y z).cell? ⟨d, 2, none⟩ = some t2 := (set3_other (.inl (Ne.symm hn))).trans k2
  obtain ⟨l0, l1, l2⟩ := set3_cells (x := x') (y := y') (z := z') (o := 0) m0 m1 m2
  exact ⟨⟨(set3_other (o := 0) (.inl hn)).trans g0, (set3_other (o := 0) (.inl hn)).trans g1, (set3_other (o := 0) (.inl hn)).trans g2⟩, ⟨l0, l1, l2⟩, set3_below (o := 0) (set3_below (o := 0) h hb) hd⟩
theorem swap3 {p q r : Prop} (h : p ∧ q ∧ r) : q ∧ p ∧ r := ⟨h.2.1, h.1, h.2.2⟩

theorem stepU_same {s : Sb} {a b x y : Tm} {L : List (Tm × Tm)} (hx : x = top s a) (hy : y = top s b) (h1 : x.1.1 = true) (h2 : y.1.1 = true) (h3 : x.1.2 = y.1.2) : stepU s a b L = some (s, L) := by
  subst hx hy
  unfold stepU
  rw [if_pos ⟨h1, h2, h3⟩]
theorem stepU_x {s : Sb} {a b x y : Tm} {L : List (Tm × Tm)} (hx : x = top s a) (hy : y = top s b) (h1 : x.1.1 = true) (h2 : ¬ (y.1.1 = true ∧ x.1.2 = y.1.2)) : stepU s a b L = (addS s x.1.2 (subT (bnd s) y)).map fun s' => (s', L) := by
  subst hx hy
  unfold stepU
  rw [if_neg (fun h => h2 h.2), if_pos h1]
theorem stepU_y {s : Sb} {a b x y : Tm} {L : List (Tm × Tm)} (hx : x = top s a) (hy : y = top s b) (h1 : x.1.1 = false) (h2 : y.1.1 = true) : stepU s a b L = (addS s y.1.2 (subT (bnd s) x)).map fun s' => (s', L) := by
  subst hx hy
  unfold stepU
  rw [if_neg (fun h => by rw [h1] at h; exact absurd h.1 (by decide)), if_neg (by rw [h1]; decide), if_pos h2]
theorem stepU_args {s : Sb} {a b x y : Tm} {L : List (Tm × Tm)} (hx : x = top s a) (hy : y = top s b) (h1 : x.1.1 = false) (h2 : y.1.1 = false) (h3 : x.1.2 = y.1.2) (h4 : Fo.len x.2 = Fo.len y.2) : stepU s a b L = some (s, x.2.list.zip y.2.list ++ L) := by
  subst hx hy
  unfold stepU
  rw [if_neg (fun h => by rw [h1] at h; exact absurd h.1 (by decide)), if_neg (by rw [h1]; decide), if_neg (by rw [h2]; decide), if_pos ⟨h3, h4⟩]
theorem stepU_bad {s : Sb} {a b x y : Tm} {L : List (Tm × Tm)} (hx : x = top s a) (hy : y = top s b) (h1 : x.1.1 = false) (h2 : y.1.1 = false) (h3 : ¬ (x.1.2 = y.1.2 ∧ Fo.len x.2 = Fo.len y.2)) : stepU s a b L = none := by
  subst hx hy
  unfold stepU
  rw [if_neg (fun h => by rw [h1] at h; exact absurd h.1 (by decide)), if_neg (by rw [h1]; decide), if_neg (by rw [h2]; decide), if_neg h3]
/-- One step of the run. -/
theorem run_on {m : Nat} {s s' : Sb} {p : Tm × Tm} {L L' : List (Tm × Tm)} {R : Option Sb} (hI : UI s (p :: L)) (hR : runU (m + 1) s (p :: L) = some R) (h : stepU s p.1 p.2 L = some (s', L')) : UI s' L' ∧ runU m s' L' = some R := by
  refine ⟨(step_keeps hI h).1, ?_⟩
  simpa [runU, h] using hR
theorem run_no {m : Nat} {s : Sb} {p : Tm × Tm} {L : List (Tm × Tm)} {R : Option Sb} (hR : runU (m + 1) s (p :: L) = some R) (h : stepU s p.1 p.2 L = none) : R = none := by
  simpa [runU, h] using hR.symm
theorem uni_no {w w' : World} {R : Option Sb} (hb : Below w.heap.size w w') (h : R = none) : UniPost w R (.returned (.tuple #[.slice none 0 0, .bool false])) w' := ⟨hb, none, 0, 0, false, rfl, fun _ => ⟨h, rfl, rfl, rfl⟩, fun e => by cases e⟩

end Go.Proofs.Ytdaebldfmchclab

/- The closed fact that is asked first in chapter 2: alive. -/
namespace Go.Proofs.Ytdaebldfmchclab
open Go.RowKit Go.Deep Go.ChangeShapes Go.WideShapes
attribute [local go_sem ↓] Go.wp_at_zero Go.wp_at_succ

theorem parse_of {s : List Int} {l : List UInt8} {t : Tm} (h1 : wsig s = 0) (h2 : l.length ≤ 48) (h3 : readT s (l.length + 1) l = (0, t, [])) (h4 : wrongF s t.1 t.2 = 0) : parseT s l = (0, t) := by
  rw [parseT, h1, if_neg (by simp), if_neg (by omega), h3]
  simp [h4]

/-- Two right terms: where Unify begins. -/
theorem ui_of {t u : Tm} (ht : Gd t) (hu : Gd u) (h1 : depT t ≤ 12) (h2 : depT u ≤ 12) : UI [] [(t, u)] := by
  refine ⟨fun p hp => by simp at hp, fun p hp => by simp at hp, fun p hp => ?_, fun p hp => by simp at hp, by decide, ?_, fun p hp => by simp at hp⟩
  · simp only [List.mem_singleton] at hp
    subst hp
    exact ⟨ht, hu⟩
  · have e : ∀ z : Tm, Gd z → subT (bnd []) z = z := fun z hz => subT_vr hz.ok
    simp only [dpL, List.length_nil, Nat.add_zero, and_true]
    rw [e t ht, e u hu]
    simpa using ⟨h1, h2⟩

def ta : Tm := ((false, 0), .nil)
def tb (t : Tm) : Tm := ((false, 1), .node 0 0 t.1 t.2 .nil)
def tc (t u : Tm) : Tm := ((false, 2), .node 0 0 t.1 t.2 (.node 0 0 u.1 u.2 .nil))
theorem sg : ([0, 1, 2] : List Int).all okNum = true := by decide
theorem l1p : parseT [0, 1, 2] [99, 40, 88, 48, 44, 98, 40, 88, 49, 41, 41] = (0, tc (vr 0) (tb (vr 1))) := parse_of al_wsig (by decide) rfl (by decide +kernel)
theorem l2p : parseT [0, 1, 2] [99, 40, 98, 40, 97, 41, 44, 88, 48, 41] = (0, tc (tb ta) (vr 0)) := parse_of al_wsig (by decide) rfl (by decide +kernel)
theorem l3p : parseT [0, 1, 2] [99, 40, 88, 48, 44, 88, 49, 41] = (0, tc (vr 0) (vr 1)) := parse_of al_wsig (by decide) rfl (by decide +kernel)
theorem l4p : parseT [0, 1, 2] [99, 40, 97, 44, 98, 40, 97, 41, 41] = (0, tc ta (tb ta)) := parse_of al_wsig (by decide) rfl (by decide +kernel)
theorem l5p : parseT [0, 1, 2] [88, 48] = (0, vr 0) := parse_of al_wsig (by decide) rfl (by decide +kernel)
theorem l6p : parseT [0, 1, 2] [98, 40, 88, 48, 41] = (0, tb (vr 0)) := parse_of al_wsig (by decide) rfl (by decide +kernel)
theorem l7p : parseT [0, 1, 2] [88, 50] = (0, vr 2) := parse_of al_wsig (by decide) rfl (by decide +kernel)
theorem l8p : parseT [0, 1, 2] [97] = (0, ta) := parse_of al_wsig (by decide) rfl (by decide +kernel)
theorem l9p : parseT [0, 1, 2] [88, 49] = (0, vr 1) := parse_of al_wsig (by decide) rfl (by decide +kernel)
theorem g1 : Gd (tc (vr 0) (tb (vr 1))) ∧ depT (tc (vr 0) (tb (vr 1))) ≤ 12 ∧ tszR (tc (vr 0) (tb (vr 1))).2 ≤ 12 := gd_right sg rfl (by decide +kernel)
theorem g2 : Gd (tc (tb ta) (vr 0)) ∧ depT (tc (tb ta) (vr 0)) ≤ 12 ∧ tszR (tc (tb ta) (vr 0)).2 ≤ 12 := gd_right sg rfl (by decide +kernel)
theorem g3 : Gd (tc (vr 0) (vr 1)) ∧ depT (tc (vr 0) (vr 1)) ≤ 12 ∧ tszR (tc (vr 0) (vr 1)).2 ≤ 12 := gd_right sg rfl (by decide +kernel)
theorem g4 : Gd (tc ta (tb ta)) ∧ depT (tc ta (tb ta)) ≤ 12 ∧ tszR (tc ta (tb ta)).2 ≤ 12 := gd_right sg rfl (by decide +kernel)
theorem g5 : Gd (vr 0) ∧ depT (vr 0) ≤ 12 ∧ tszR (vr 0).2 ≤ 12 := gd_right (s := [0, 1, 2]) sg rfl (by decide +kernel)
theorem g6 : Gd (tb (vr 0)) ∧ depT (tb (vr 0)) ≤ 12 ∧ tszR (tb (vr 0)).2 ≤ 12 := gd_right sg rfl (by decide +kernel)
theorem g8 : Gd ta ∧ depT ta ≤ 12 ∧ tszR ta.2 ≤ 12 := gd_right sg rfl (by decide +kernel)
theorem g9 : Gd (tb ta) ∧ depT (tb ta) ≤ 12 ∧ tszR (tb ta).2 ≤ 12 := gd_right sg rfl (by decide +kernel)
theorem u1 : runU 10 [] [(tc (vr 0) (tb (vr 1)), tc (tb ta) (vr 0))] = some (some [(0, tb ta), (1, ta)]) := by kernel_rfl
theorem u2 : runU 10 [] [(vr 0, tb (vr 0))] = some none := by kernel_rfl
theorem e1 : extT [] (tc (vr 0) (vr 1)) (tc ta (tb ta)) = some [(0, ta), (1, tb ta)] := by kernel_rfl
theorem e2 : extT [(0, ta), (1, tb ta)] (vr 2) ta = some [(0, ta), (1, tb ta), (2, ta)] := by kernel_rfl
theorem s1 : subT (bnd [(0, tb ta), (1, ta)]) (tc (vr 0) (vr 1)) = tc (tb ta) ta := by kernel_rfl
theorem x1 : textT (tc (tb ta) ta).1 (tc (tb ta) ta).2 = [99, 40, 98, 40, 97, 41, 44, 97, 41] := by kernel_rfl
theorem byte_eq {U : ByteArray} {l : List UInt8} (h : U.data.toList = l) : U = ⟨l.toArray⟩ := by
  obtain ⟨d⟩ := U
  simp only at h
  subst h
  simp

theorem all2 : ∀ p ∈ ([(0, tb ta), (1, ta)] : Sb), narT p.2 ∧ okT p.2 := fun p hp => by
  simp only [List.mem_cons, List.not_mem_nil, or_false] at hp
  rcases hp with rfl | rfl
  · exact ⟨g9.1.nar, g9.1.ok⟩
  · exact ⟨g8.1.nar, g8.1.ok⟩
theorem all3 : ∀ p ∈ ([(0, ta), (1, tb ta)] : Sb), narT p.2 ∧ okT p.2 := fun p hp => by
  simp only [List.mem_cons, List.not_mem_nil, or_false] at hp
  rcases hp with rfl | rfl
  · exact ⟨g8.1.nar, g8.1.ok⟩
  · exact ⟨g9.1.nar, g9.1.ok⟩

end Go.Proofs.Ytdaebldfmchclab
