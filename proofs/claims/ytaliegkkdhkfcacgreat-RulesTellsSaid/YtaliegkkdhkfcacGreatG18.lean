/- D6j D6l D6k -/
import Derived.Test.YtaliegkkdhkfcacGreatG17
import Derived.BigQuiet
namespace Go.Proofs.YtaliegkkdhkfcacGreat
open Go.RowKit Go.Deep Go.ChangeShapes Go.WideShapes
theorem lc_set {X : Nat → Prop} {w : World} {l : Lt} {a d : Value} (hA : SB X w l.2.1.2 a) (hD : SB X w l.2.2.2 d) : ∀ {c : Cl} {xs : List Value} {j : Nat}, LC X w c xs → j < c.length → LC X w (c.set j l) (xs.take (j * 7) ++ litV l a d ++ xs.drop (j * 7 + 7))
  | [], _, _, _, hj => by simp at hj
  | q :: c, xs, 0, ⟨a', d', ys, h1, h2, h3, h4⟩, _ => by
    subst h1
    exact ⟨a, d, ys, by simp, hA, hD, h4⟩
  | q :: c, xs, j + 1, ⟨a', d', ys, h1, h2, h3, h4⟩, hj => by
    subst h1
    have ih := lc_set hA hD (c := c) (xs := ys) (j := j) h4 (by simpa using hj)
    refine ⟨a', d', ys.take (j * 7) ++ litV l a d ++ ys.drop (j * 7 + 7), ?_, h2, h3, ih⟩
    rw [show (j + 1) * 7 = j * 7 + 7 by omega]
    simp only [List.take_succ_cons, List.drop_succ_cons, List.cons_append]
theorem own_set {lo : Nat} {X : Nat → Prop} {w : World} {c : Cl} {v : Value} {xs : List Value} (h : OwnL lo X w c v xs) {g : Nat} (hg : v.ownBlock = some g) {j : Nat} (hj : j < c.length) {l : Lt} {a d : Value} (hA : SB X w l.2.1.2 a) (hD : SB X w l.2.2.2 d) :
    CIn (setL w g (j * 7) (litV l a d)) (c.set j l) v ∧ (∀ i, i < 7 → ∃ u, w.cell? ⟨g, j * 7 + i, none⟩ = some u) := by
  have hl := h.cells.len
  have hcell : ∀ i, i < xs.length → w.cell? ⟨g, i, none⟩ = xs[i]? := fun i hi => by
    have := h.row.cells hg i xs[i] (List.getElem?_eq_getElem hi)
    rw [add_plain, Nat.zero_add] at this
    rw [this, List.getElem?_eq_getElem hi]
  have hex : ∀ i, i < 7 → ∃ u, w.cell? ⟨g, j * 7 + i, none⟩ = some u := fun i hi => by
    have hlt : j * 7 + i < xs.length := by rw [hl]; omega
    exact ⟨xs[j * 7 + i], by rw [hcell _ hlt, List.getElem?_eq_getElem hlt]⟩
  refine ⟨?_, hex⟩
  obtain ⟨z1, z3, hv⟩ := h.slice
  have hz : z1 = some ⟨g, 0, none⟩ := by
    rcases h.row.2 with ⟨e, h0⟩ | ⟨g', cap, cur, e, _⟩
    · rw [e] at hg; cases hg
    · rw [e] at hg
      simp only [Value.ownBlock, Option.some.injEq] at hg
      subst hg
      rw [hv] at e
      simp only [Value.slice.injEq] at e
      exact e.1
  have hcap : c.length ≤ z3 ∧ z3 ≤ maxLen := by
    obtain ⟨_, k, _, _, e, _, h3, h4, _⟩ := h.cl
    rw [hv] at e
    simp only [Value.slice.injEq, true_and] at e
    rw [e.2]
    exact ⟨h3, h4⟩
  have hLC := lc_set (l := l) (a := a) (d := d) hA hD h.cells hj
  have hfr : LC X (setL w g (j * 7) (litV l a d)) (c.set j l) (xs.take (j * 7) ++ litV l a d ++ xs.drop (j * 7 + 7)) := hLC.frame (fun _ q => q) (fun q i hq => setL_other (.inl (fun e => (h.off q hq).2 (by rw [hg, e]))))
  refine ⟨z1, z3, g, 0, by rw [hv, List.length_set], fun _ => hz, by rw [List.length_set]; exact hcap.1, hcap.2, hfr.at (fun i hi => ?_)⟩
  rw [Nat.zero_add]
  have hlen : (xs.take (j * 7)).length = j * 7 := by rw [List.length_take, Nat.min_eq_left (by omega)]
  have hi2 : i < xs.length := by
    simp only [List.length_append, List.length_drop, hlen, List.length_cons, List.length_nil] at hi
    omega
  by_cases h1 : i < j * 7
  · rw [setL_other (.inr (.inl h1)), hcell i hi2, List.append_assoc, List.getElem?_append_left (by rw [hlen]; exact h1), List.getElem?_take_of_lt h1]
  · by_cases h2 : i < j * 7 + 7
    · obtain ⟨t, rfl⟩ : ∃ t, i = j * 7 + t := ⟨i - j * 7, by omega⟩
      have ht : t < 7 := by omega
      rw [List.append_assoc, List.getElem?_append_right (by omega), hlen, show j * 7 + t - j * 7 = t by omega, List.getElem?_append_left (by simpa using ht)]
      obtain ⟨u, hu⟩ : ∃ u, (litV l a d)[t]? = some u := ⟨(litV l a d)[t]'ht, List.getElem?_eq_getElem ht⟩
      rw [hu]
      exact setL_at (xs := litV l a d) (fun q hq => hex q (by simpa using hq)) t u hu
    · rw [setL_other (.inr (.inr (by simp; omega))), hcell i hi2, List.getElem?_append_right (by simp only [List.length_append, hlen, List.length_cons, List.length_nil]; omega)]
      simp only [List.length_append, hlen, List.length_cons, List.length_nil, List.getElem?_drop]
      congr 1
      omega
def PlaIn (lo : Nat) (w : World) (Z : List (List Int)) (v : Value) : Prop :=
  ∃ (a : Option Addr) (c g : Nat), v = .slice a Z.length c ∧ (0 < Z.length → a = some ⟨g, 0, none⟩ ∧ lo ≤ g ∧ g < w.heap.size) ∧ Z.length ≤ c ∧ c ≤ maxLen ∧ ∀ t q, Z[t]? = some q → ∃ y, w.cell? ⟨g, t, none⟩ = some y ∧ w.ownsRow lo 3 1 y q.length (vals q)
theorem PlaIn.keep {lo : Nat} {w w' : World} {Z : List (List Int)} {v : Value} (h : PlaIn lo w Z v) (hs : w.heap.size ≤ w'.heap.size) (hk : ∀ q, lo ≤ q → q < w.heap.size → w'.heap[q]? = w.heap[q]?) : PlaIn lo w' Z v := by
  obtain ⟨a, c, g, h1, h2, h3, h4, h5⟩ := h
  refine ⟨a, c, g, h1, fun hz => ⟨(h2 hz).1, (h2 hz).2.1, by have := (h2 hz).2.2; omega⟩, h3, h4, fun t q hq => ?_⟩
  obtain ⟨y, k1, k2⟩ := h5 t q hq
  have hz := h2 (by have := (List.getElem?_eq_some_iff.1 hq).1; omega)
  refine ⟨y, ?_, owns_keep k2 (fun b hb => hk b (owns_at k2 b hb).1 (owns_at k2 b hb).2)⟩
  rw [World.cell?_of_block (hk g hz.2.1 hz.2.2)]
  exact k1
theorem places_call {x : Bool × Int} {k : Fo} {a : Value} {w : World} {Z : List (List Int)} (hZ : Z = placesT x k []) (hS : SIn w k a) (hb : tszR k ≤ 12) :
    Calls Tryz.prog 29 #[.agg #[.bool x.1, .int .i64 x.2, a]] w fun e w' => ∃ z1 z3, e = .returned (.slice z1 Z.length z3) ∧ PlaIn w.heap.size w' Z (.slice z1 Z.length z3) ∧ Below w.heap.size w w' := by
  refine (placesR_any x k a w hS (by omega)).mono ?_
  rintro e w' ⟨vo, ys, rfl, h1, h2, h3⟩
  rw [← hZ] at h2
  have hcells := fun g hg => h1.cells (g := g) hg
  have hat := fun g hg => owns_at h1 g hg
  have hyl := h2.1
  rcases h1.2 with ⟨rfl, h0⟩ | ⟨g, cap, cur, rfl, q1, q2, q3, q4, q5, q6⟩
  · have hz : Z = [] := List.length_eq_zero_iff.1 (by omega)
    refine ⟨none, 0, by rw [hz]; rfl, ⟨none, 0, 0, rfl, fun h => by rw [hz] at h; simp at h, by rw [hz]; exact Nat.le_refl _, Nat.zero_le _, fun t q hq => by rw [hz] at hq; simp at hq⟩, h3⟩
  · rw [hyl]
    have hg := hat g rfl
    refine ⟨some ⟨g, 0, none⟩, cap, rfl, ⟨_, cap, g, rfl, fun _ => ⟨rfl, hg.1, hg.2⟩, by omega, q4, fun t q hq => ?_⟩, h3⟩
    have ht : t < ys.length := by have := (List.getElem?_eq_some_iff.1 hq).1; omega
    refine ⟨ys[t], ?_, (h2.2 t _ q (List.getElem?_eq_getElem ht) hq).1⟩
    have := hcells g rfl t ys[t] (List.getElem?_eq_getElem ht)
    rw [add_plain, Nat.zero_add] at this
    exact this
theorem LK.places {lo p : Nat} {W W1 : World} {V : Value} {st : List Cl × Bool} {v : Value} {xs : List Value} {w : World} (h : LK lo p W V st v xs w) {cs : List Cl} {lost : Bool} {ys : List Value} (hW : LSt lo W1 p cs lost V ys) {Z : List (List Int)} {u : Value} (hp : PlaIn W1.heap.size W Z u) : PlaIn W1.heap.size w Z u :=
  hp.keep h.fr.size (fun _ h1 h2 => h.block hW h1 h2)
end Go.Proofs.YtaliegkkdhkfcacGreat

namespace Go.Proofs.YtaliegkkdhkfcacGreat
open Go.RowKit Go.Deep Go.ChangeShapes Go.WideShapes
theorem bin_norm {X : Nat → Prop} {w : World} : ∀ {F : Fo} {b o : Nat}, BIn X w F b o → BIn X w (Fo.norm F) b o
  | .nil, _, _, _ => trivial
  | .node _ _ _ k r, _, _, ⟨h0, h1, ⟨a, c, b', o', h2, h3, h4, h5, h6⟩, h7⟩ => by
    refine ⟨h0, h1, ⟨a, c, b', o', ?_, ?_, ?_, h5, bin_norm h6⟩, bin_norm h7⟩
    · rw [norm_len]; exact h2
    · rw [norm_len]; exact h3
    · rw [norm_len]; exact h4
theorem sb_norm {X : Nat → Prop} {w : World} {k : Fo} {a : Value} (h : SB X w k a) : SB X w (Fo.norm k) a := by
  obtain ⟨a, c, b, o, rfl, h3, h4, h5, h6⟩ := h
  exact ⟨a, c, b, o, by rw [norm_len], by rw [norm_len]; exact h3, by rw [norm_len]; exact h4, h5, bin_norm h6⟩
theorem put_placeB {X : Nat → Prop} {p : List Int} {pv : Value} {x : Bool × Int} {k : Fo} {z : Tm} {a : Value} {y : Bool × Int} {l : Fo} {c : Value} {w : World} (h : atT p x k = some z) (hg : Gd (x, k)) (hu : Gd (y, l)) (hX : ∀ q, X q → q < w.heap.size) (hS : SB X w k a) (hU : SB X w l c) (hN : NIn w p pv) :
    Calls Tryz.prog 33 #[.agg #[.bool x.1, .int .i64 x.2, a], pv, .agg #[.bool y.1, .int .i64 y.2, c]] w fun e w' => ∃ (a1 : Option Addr) (a3 : Nat), e = .returned (.agg #[.bool (putT p (x, k) (y, l)).1.1, .int .i64 (putT p (x, k) (y, l)).1.2, .slice a1 (Fo.len (putT p (x, k) (y, l)).2) a3]) ∧
      SB (fun q => X q ∨ (w.heap.size ≤ q ∧ q < w'.heap.size)) w' (putT p (x, k) (y, l)).2 (.slice a1 (Fo.len (putT p (x, k) (y, l)).2) a3) ∧ Below w.heap.size w w' := by
  have hok := (gd_put hu hg h).1.ok
  refine (putR_any p X x k a pv y l c w hX hS hU hN hg.nar.1 hg.nar.2).mono ?_
  rintro e w' ⟨z', r, a1, a2, a3, rfl, h1, h2, h3, hb⟩
  rw [putR_of h] at h2 h3
  rw [ok_norm hok.2] at h3
  subst h2
  have h4 := sb_norm h1
  rw [h3] at h4
  have h5 := h4
  obtain ⟨q1, q3, _, _, e2, -, -, -, -⟩ := h5
  simp only [Value.slice.injEq] at e2
  obtain ⟨rfl, rfl, rfl⟩ := e2
  exact ⟨_, _, rfl, h4, hb⟩
theorem turn_callB {X : Nat → Prop} {l : Lt} (yes : Bool) {w : World} {a1 d1 : Option Addr} {a3 d3 : Nat} (hA : SB X w l.2.1.2 (.slice a1 (Fo.len l.2.1.2) a3)) (hD : SB X w l.2.2.2 (.slice d1 (Fo.len l.2.2.2) d3)) : ∃ (b1 : Option Addr) (b3 : Nat) (e1 : Option Addr) (e3 : Nat), SB X w (turnL yes l).2.1.2 (.slice b1 (Fo.len (turnL yes l).2.1.2) b3) ∧ SB X w (turnL yes l).2.2.2 (.slice e1 (Fo.len (turnL yes l).2.2.2) e3) ∧
    ∀ w' : World, Calls Tryz.prog 22 #[litA l (.slice a1 (Fo.len l.2.1.2) a3) (.slice d1 (Fo.len l.2.2.2) d3), .bool yes] w' fun e w'' => e = .returned (litA (turnL yes l) (.slice b1 (Fo.len (turnL yes l).2.1.2) b3) (.slice e1 (Fo.len (turnL yes l).2.2.2) e3)) ∧ Below w'.heap.size w' w'' := by
  cases yes
  · exact ⟨a1, a3, d1, d3, hA, hD, fun w' => turnR_any l false a1 d1 _ _ _ _ w'⟩
  · exact ⟨d1, d3, a1, a3, hD, hA, fun w' => turnR_any l true a1 d1 _ _ _ _ w'⟩
theorem own_form {w : World} {lo : Nat} {v : Value} {n : Nat} {xs : List Value} {g : Nat} (h : w.ownsRow lo 42 7 v n xs) (hg : v.ownBlock = some g) : ∃ k, v = .slice (some ⟨g, 0, none⟩) n k ∧ n ≤ k ∧ k ≤ maxLen ∧ ∀ i, w.frozen? ⟨g, i, none⟩ = false := by
  rcases h.2 with ⟨e, h0⟩ | ⟨g', cap, cur, e, q1, q2, q3, q4, q5⟩
  · rw [e] at hg; cases hg
  · rw [e] at hg
    simp only [Value.ownBlock, Option.some.injEq] at hg
    subst hg
    exact ⟨cap, e, q3, q4, fun i => by simp [World.frozen?, q2]⟩
end Go.Proofs.YtaliegkkdhkfcacGreat

namespace Go.Proofs.YtaliegkkdhkfcacGreat
open Go.RowKit Go.Deep Go.ChangeShapes Go.WideShapes
attribute [local go_sem ↓] Go.wp_at_zero Go.wp_at_succ
theorem one_is {k : Nat} : ((k : Int) == 1) = decide (k = 1) := by
  by_cases h : k = 1
  · subst h; rfl
  · have : ¬ (k : Int) = 1 := by omega
    simp [h, this]
theorem supI_eq {U : Tm → Tm → Option Sb} {c d : Cl} (st : List Cl × Bool) {i : Nat} {x : Lt} (hx : c[i]? = some x) : supI U c d st i = foldN (supK U c i x d) st 2 := by unfold supI; rw [hx]
theorem supJ_eq {U : Tm → Tm → Option Sb} {c : Cl} {i : Nat} {a : Lt} {d : Cl} (st : List Cl × Bool) {j : Nat} {y : Lt} (hy : d[j]? = some y) : supJ U c i a d st j = foldN (supD U c i a d j y) st 2 := by unfold supJ; rw [hy]
theorem supP_none {U : Tm → Tm → Option Sb} {c : Cl} {i : Nat} {a : Lt} {d : Cl} {j : Nat} {b : Lt} {side : Bool} {st : List Cl × Bool} {p : List Int} {z : Tm} (h : atT p b.2.1.1 b.2.1.2 = some z) (hU : U a.2.1 z = none) : supP U c i a d j b side st p = st := by
  unfold supP
  rw [h]
  simp only [hU]
theorem supP_some {U : Tm → Tm → Option Sb} {c : Cl} {i : Nat} {a : Lt} {d : Cl} {j : Nat} {b : Lt} {side : Bool} {st : List Cl × Bool} {p : List Int} {z : Tm} {s : Sb} (h : atT p b.2.1.1 b.2.1.2 = some z) (hU : U a.2.1 z = some s) :
    supP U c i a d j b side st p = if abvT (subT (bnd s) a.2.2) (subT (bnd s) a.2.1) = true ∨ abvT (subT (bnd s) b.2.2) (subT (bnd s) b.2.1) = true then st else addU st (some s) (butC c i ++ d.set j (turnL side (b.1, putT p b.2.1 a.2.2, b.2.2))) := by
  unfold supP
  rw [h]
  simp only [hU]
theorem places_few : ∀ {F : Fo} {p : List Int} {i : Int}, (placesF F p i).length ≤ Fo.sizesR F
  | .nil, _, _ => Nat.le_refl _
  | .node _ _ x k r, p, i => by
    have h1 := places_few (F := k) (p := p ++ [i]) (i := 0)
    have h2 := places_few (F := r) (p := p) (i := i + 1)
    simp only [placesF, List.length_append, Fo.sizesR]
    split
    · simp; omega
    · simp; omega
theorem places_12 {t : Tm} (h : G12 t) : (placesT t.1 t.2 []).length ≤ 12 := by
  have h1 := places_few (F := t.2) (p := []) (i := 0)
  have h2 := h.sz
  simp only [szT, tszR] at h2
  unfold placesT
  split
  · simp
  · simp; omega
theorem supD_len {U : Tm → Tm → Option Sb} {c : Cl} {i : Nat} {a : Lt} {d : Cl} {j : Nat} {y : Lt} (hy : G12L y) (st : List Cl × Bool) (side : Nat) : (supD U c i a d j y st side).1.length ≤ st.1.length + 12 := by
  have h1 := foldT_len (supP_len U c i a d j (turnL (decide (side = 1)) y) (decide (side = 1))) (placesT (turnL (decide (side = 1)) y).2.1.1 (turnL (decide (side = 1)) y).2.1.2 []) st
  have h2 := places_12 (turn_both (yes := decide (side = 1)) hy).1
  unfold supD
  omega
theorem supJ_len {U : Tm → Tm → Option Sb} {c : Cl} {i : Nat} {a : Lt} {d : Cl} (hd : ∀ l ∈ d, G12L l) (st : List Cl × Bool) (j : Nat) : (supJ U c i a d st j).1.length ≤ st.1.length + 24 := by
  unfold supJ
  split
  · rename_i y hy
    exact foldN_len (m := 12) (supD_len (hd y (List.mem_of_getElem? hy))) st 2
  · omega
theorem supK_len {U : Tm → Tm → Option Sb} {c : Cl} {i : Nat} {x : Lt} {d : Cl} (hd : ∀ l ∈ d, G12L l) (h4 : d.length ≤ 4) (st : List Cl × Bool) (k : Nat) : (supK U c i x d st k).1.length ≤ st.1.length + 96 := by
  unfold supK
  split
  · omega
  · have := foldN_len (m := 24) (supJ_len (U := U) (c := c) (i := i) (a := turnL (decide (k = 1)) x) hd) st d.length
    omega
theorem supI_len {U : Tm → Tm → Option Sb} {c d : Cl} (hd : ∀ l ∈ d, G12L l) (h4 : d.length ≤ 4) (st : List Cl × Bool) (i : Nat) : (supI U c d st i).1.length ≤ st.1.length + 192 := by
  unfold supI
  split
  · rename_i x hx
    exact foldN_len (m := 96) (supK_len (x := x) hd h4) st 2
  · omega
theorem supTo_len {U : Tm → Tm → Option Sb} {c d : Cl} (hd : ∀ l ∈ d, G12L l) (h4 : d.length ≤ 4) (i : Nat) : (supTo U c d i).1.length ≤ i * 192 := by
  have := foldN_len (m := 192) (supI_len (U := U) (c := c) hd h4) ([], false) i
  rw [List.length_nil, Nat.zero_add] at this
  exact this
structure RS1 (W : World) (BV : Value) (ga gb : Nat) (AR AL BR BL : Value) (qa qb qc qd : Tm) (A2 : Bool) (D : Nat → Bool) (w : World) (s84 s85 s86 s87 s88 s89 s90 s91 s92 s93 s94 s95 s96 s97 s98 s99 s100 s101 s102 s103 s104 s105 s106 s107 : Value) : Prop where
  hb : Below W.heap.size W w
  h0 : D 0 = true → s84 = .bool true
  h1 : D 1 = true → s85 = .bool false
  h2 : D 2 = true → s86 = .bool false
  h3 : D 3 = true → s87 = BV
  h4 : D 4 = true → s88 = .pointer (some ⟨ga, 4, none⟩)
  h5 : D 5 = true → s89 = AR
  h6 : D 6 = true → ∃ (z1 : Option Addr) (z3 : Nat), s90 = .agg #[.bool qa.1.1, .int .i64 qa.1.2, .slice z1 (Fo.len qa.2) z3] ∧ SIn w qa.2 (.slice z1 (Fo.len qa.2) z3)
  h7 : D 7 = true → s91 = BV
  h8 : D 8 = true → s92 = .pointer (some ⟨ga, 1, none⟩)
  h9 : D 9 = true → s93 = AL
  h10 : D 10 = true → ∃ (z1 : Option Addr) (z3 : Nat), s94 = .agg #[.bool qb.1.1, .int .i64 qb.1.2, .slice z1 (Fo.len qb.2) z3] ∧ SIn w qb.2 (.slice z1 (Fo.len qb.2) z3)
  h11 : D 11 = true → s95 = .bool true
  h12 : D 12 = true → s96 = .bool true
  h13 : D 13 = true → s97 = .bool true
  h14 : True
  h15 : True
  h16 : True
  h17 : True
  h18 : True
  h19 : True
  h20 : True
  h21 : True
  h22 : True
  h23 : D 23 = true → s107 = .bool true
section
variable {W : World} {BV : Value} {ga gb : Nat} {AR AL BR BL : Value} {qa qb qc qd : Tm} {A2 : Bool} {D : Nat → Bool} {w w' : World} {s84 s85 s86 s87 s88 s89 s90 s91 s92 s93 s94 s95 s96 s97 s98 s99 s100 s101 s102 s103 s104 s105 s106 s107 : Value}
theorem RS1.step (h : RS1 W BV ga gb AR AL BR BL qa qb qc qd A2 D w s84 s85 s86 s87 s88 s89 s90 s91 s92 s93 s94 s95 s96 s97 s98 s99 s100 s101 s102 s103 s104 s105 s106 s107) (hb : Below w.heap.size w w') : RS1 W BV ga gb AR AL BR BL qa qb qc qd A2 D w' s84 s85 s86 s87 s88 s89 s90 s91 s92 s93 s94 s95 s96 s97 s98 s99 s100 s101 s102 s103 s104 s105 s106 s107 := by
  refine ⟨below_step h.hb hb, h.h0, h.h1, h.h2, h.h3, h.h4, h.h5, fun e => ?_, h.h7, h.h8, h.h9, fun e => ?_, h.h11, h.h12, h.h13, h.h14, h.h15, h.h16, h.h17, h.h18, h.h19, h.h20, h.h21, h.h22, h.h23⟩
  · obtain ⟨z1, z3, h1, h2⟩ := h.h6 e
    exact ⟨z1, z3, h1, h2.below hb⟩
  · obtain ⟨z1, z3, h1, h2⟩ := h.h10 e
    exact ⟨z1, z3, h1, h2.below hb⟩
theorem RS1.at0 (h : RS1 W BV ga gb AR AL BR BL qa qb qc qd A2 D w s84 s85 s86 s87 s88 s89 s90 s91 s92 s93 s94 s95 s96 s97 s98 s99 s100 s101 s102 s103 s104 s105 s106 s107) : RS1 W BV ga gb AR AL BR BL qa qb qc qd A2 (fun j => j == 0 || D j) w (.bool true) s85 s86 s87 s88 s89 s90 s91 s92 s93 s94 s95 s96 s97 s98 s99 s100 s101 s102 s103 s104 s105 s106 s107 :=
  ⟨h.hb, fun _ => rfl, h.h1, h.h2, h.h3, h.h4, h.h5, h.h6, h.h7, h.h8, h.h9, h.h10, h.h11, h.h12, h.h13, h.h14, h.h15, h.h16, h.h17, h.h18, h.h19, h.h20, h.h21, h.h22, h.h23⟩
theorem RS1.at1 (h : RS1 W BV ga gb AR AL BR BL qa qb qc qd A2 D w s84 s85 s86 s87 s88 s89 s90 s91 s92 s93 s94 s95 s96 s97 s98 s99 s100 s101 s102 s103 s104 s105 s106 s107) : RS1 W BV ga gb AR AL BR BL qa qb qc qd A2 (fun j => j == 1 || D j) w s84 (.bool false) s86 s87 s88 s89 s90 s91 s92 s93 s94 s95 s96 s97 s98 s99 s100 s101 s102 s103 s104 s105 s106 s107 :=
  ⟨h.hb, h.h0, fun _ => rfl, h.h2, h.h3, h.h4, h.h5, h.h6, h.h7, h.h8, h.h9, h.h10, h.h11, h.h12, h.h13, h.h14, h.h15, h.h16, h.h17, h.h18, h.h19, h.h20, h.h21, h.h22, h.h23⟩
theorem RS1.at2 (h : RS1 W BV ga gb AR AL BR BL qa qb qc qd A2 D w s84 s85 s86 s87 s88 s89 s90 s91 s92 s93 s94 s95 s96 s97 s98 s99 s100 s101 s102 s103 s104 s105 s106 s107) : RS1 W BV ga gb AR AL BR BL qa qb qc qd A2 (fun j => j == 2 || D j) w s84 s85 (.bool false) s87 s88 s89 s90 s91 s92 s93 s94 s95 s96 s97 s98 s99 s100 s101 s102 s103 s104 s105 s106 s107 :=
  ⟨h.hb, h.h0, h.h1, fun _ => rfl, h.h3, h.h4, h.h5, h.h6, h.h7, h.h8, h.h9, h.h10, h.h11, h.h12, h.h13, h.h14, h.h15, h.h16, h.h17, h.h18, h.h19, h.h20, h.h21, h.h22, h.h23⟩
theorem RS1.at3 (h : RS1 W BV ga gb AR AL BR BL qa qb qc qd A2 D w s84 s85 s86 s87 s88 s89 s90 s91 s92 s93 s94 s95 s96 s97 s98 s99 s100 s101 s102 s103 s104 s105 s106 s107) : RS1 W BV ga gb AR AL BR BL qa qb qc qd A2 (fun j => j == 3 || D j) w s84 s85 s86 (BV) s88 s89 s90 s91 s92 s93 s94 s95 s96 s97 s98 s99 s100 s101 s102 s103 s104 s105 s106 s107 :=
  ⟨h.hb, h.h0, h.h1, h.h2, fun _ => rfl, h.h4, h.h5, h.h6, h.h7, h.h8, h.h9, h.h10, h.h11, h.h12, h.h13, h.h14, h.h15, h.h16, h.h17, h.h18, h.h19, h.h20, h.h21, h.h22, h.h23⟩
theorem RS1.at4 (h : RS1 W BV ga gb AR AL BR BL qa qb qc qd A2 D w s84 s85 s86 s87 s88 s89 s90 s91 s92 s93 s94 s95 s96 s97 s98 s99 s100 s101 s102 s103 s104 s105 s106 s107) : RS1 W BV ga gb AR AL BR BL qa qb qc qd A2 (fun j => j == 4 || D j) w s84 s85 s86 s87 (.pointer (some ⟨ga, 4, none⟩)) s89 s90 s91 s92 s93 s94 s95 s96 s97 s98 s99 s100 s101 s102 s103 s104 s105 s106 s107 :=
  ⟨h.hb, h.h0, h.h1, h.h2, h.h3, fun _ => rfl, h.h5, h.h6, h.h7, h.h8, h.h9, h.h10, h.h11, h.h12, h.h13, h.h14, h.h15, h.h16, h.h17, h.h18, h.h19, h.h20, h.h21, h.h22, h.h23⟩
theorem RS1.at5 (h : RS1 W BV ga gb AR AL BR BL qa qb qc qd A2 D w s84 s85 s86 s87 s88 s89 s90 s91 s92 s93 s94 s95 s96 s97 s98 s99 s100 s101 s102 s103 s104 s105 s106 s107) : RS1 W BV ga gb AR AL BR BL qa qb qc qd A2 (fun j => j == 5 || D j) w s84 s85 s86 s87 s88 (AR) s90 s91 s92 s93 s94 s95 s96 s97 s98 s99 s100 s101 s102 s103 s104 s105 s106 s107 :=
  ⟨h.hb, h.h0, h.h1, h.h2, h.h3, h.h4, fun _ => rfl, h.h6, h.h7, h.h8, h.h9, h.h10, h.h11, h.h12, h.h13, h.h14, h.h15, h.h16, h.h17, h.h18, h.h19, h.h20, h.h21, h.h22, h.h23⟩
theorem RS1.at6 (h : RS1 W BV ga gb AR AL BR BL qa qb qc qd A2 D w s84 s85 s86 s87 s88 s89 s90 s91 s92 s93 s94 s95 s96 s97 s98 s99 s100 s101 s102 s103 s104 s105 s106 s107) {z1 : Option Addr} {z3 : Nat} (hS : SIn w qa.2 (.slice z1 (Fo.len qa.2) z3)) : RS1 W BV ga gb AR AL BR BL qa qb qc qd A2 (fun j => j == 6 || D j) w s84 s85 s86 s87 s88 s89 (.agg #[.bool qa.1.1, .int .i64 qa.1.2, .slice z1 (Fo.len qa.2) z3]) s91 s92 s93 s94 s95 s96 s97 s98 s99 s100 s101 s102 s103 s104 s105 s106 s107 :=
  ⟨h.hb, h.h0, h.h1, h.h2, h.h3, h.h4, h.h5, fun _ => ⟨z1, z3, rfl, hS⟩, h.h7, h.h8, h.h9, h.h10, h.h11, h.h12, h.h13, h.h14, h.h15, h.h16, h.h17, h.h18, h.h19, h.h20, h.h21, h.h22, h.h23⟩
theorem RS1.at7 (h : RS1 W BV ga gb AR AL BR BL qa qb qc qd A2 D w s84 s85 s86 s87 s88 s89 s90 s91 s92 s93 s94 s95 s96 s97 s98 s99 s100 s101 s102 s103 s104 s105 s106 s107) : RS1 W BV ga gb AR AL BR BL qa qb qc qd A2 (fun j => j == 7 || D j) w s84 s85 s86 s87 s88 s89 s90 (BV) s92 s93 s94 s95 s96 s97 s98 s99 s100 s101 s102 s103 s104 s105 s106 s107 :=
  ⟨h.hb, h.h0, h.h1, h.h2, h.h3, h.h4, h.h5, h.h6, fun _ => rfl, h.h8, h.h9, h.h10, h.h11, h.h12, h.h13, h.h14, h.h15, h.h16, h.h17, h.h18, h.h19, h.h20, h.h21, h.h22, h.h23⟩
theorem RS1.at8 (h : RS1 W BV ga gb AR AL BR BL qa qb qc qd A2 D w s84 s85 s86 s87 s88 s89 s90 s91 s92 s93 s94 s95 s96 s97 s98 s99 s100 s101 s102 s103 s104 s105 s106 s107) : RS1 W BV ga gb AR AL BR BL qa qb qc qd A2 (fun j => j == 8 || D j) w s84 s85 s86 s87 s88 s89 s90 s91 (.pointer (some ⟨ga, 1, none⟩)) s93 s94 s95 s96 s97 s98 s99 s100 s101 s102 s103 s104 s105 s106 s107 :=
  ⟨h.hb, h.h0, h.h1, h.h2, h.h3, h.h4, h.h5, h.h6, h.h7, fun _ => rfl, h.h9, h.h10, h.h11, h.h12, h.h13, h.h14, h.h15, h.h16, h.h17, h.h18, h.h19, h.h20, h.h21, h.h22, h.h23⟩
theorem RS1.at9 (h : RS1 W BV ga gb AR AL BR BL qa qb qc qd A2 D w s84 s85 s86 s87 s88 s89 s90 s91 s92 s93 s94 s95 s96 s97 s98 s99 s100 s101 s102 s103 s104 s105 s106 s107) : RS1 W BV ga gb AR AL BR BL qa qb qc qd A2 (fun j => j == 9 || D j) w s84 s85 s86 s87 s88 s89 s90 s91 s92 (AL) s94 s95 s96 s97 s98 s99 s100 s101 s102 s103 s104 s105 s106 s107 :=
  ⟨h.hb, h.h0, h.h1, h.h2, h.h3, h.h4, h.h5, h.h6, h.h7, h.h8, fun _ => rfl, h.h10, h.h11, h.h12, h.h13, h.h14, h.h15, h.h16, h.h17, h.h18, h.h19, h.h20, h.h21, h.h22, h.h23⟩
theorem RS1.at10 (h : RS1 W BV ga gb AR AL BR BL qa qb qc qd A2 D w s84 s85 s86 s87 s88 s89 s90 s91 s92 s93 s94 s95 s96 s97 s98 s99 s100 s101 s102 s103 s104 s105 s106 s107) {z1 : Option Addr} {z3 : Nat} (hS : SIn w qb.2 (.slice z1 (Fo.len qb.2) z3)) : RS1 W BV ga gb AR AL BR BL qa qb qc qd A2 (fun j => j == 10 || D j) w s84 s85 s86 s87 s88 s89 s90 s91 s92 s93 (.agg #[.bool qb.1.1, .int .i64 qb.1.2, .slice z1 (Fo.len qb.2) z3]) s95 s96 s97 s98 s99 s100 s101 s102 s103 s104 s105 s106 s107 :=
  ⟨h.hb, h.h0, h.h1, h.h2, h.h3, h.h4, h.h5, h.h6, h.h7, h.h8, h.h9, fun _ => ⟨z1, z3, rfl, hS⟩, h.h11, h.h12, h.h13, h.h14, h.h15, h.h16, h.h17, h.h18, h.h19, h.h20, h.h21, h.h22, h.h23⟩
theorem RS1.at11 (h : RS1 W BV ga gb AR AL BR BL qa qb qc qd A2 D w s84 s85 s86 s87 s88 s89 s90 s91 s92 s93 s94 s95 s96 s97 s98 s99 s100 s101 s102 s103 s104 s105 s106 s107) : RS1 W BV ga gb AR AL BR BL qa qb qc qd A2 (fun j => j == 11 || D j) w s84 s85 s86 s87 s88 s89 s90 s91 s92 s93 s94 (.bool true) s96 s97 s98 s99 s100 s101 s102 s103 s104 s105 s106 s107 :=
  ⟨h.hb, h.h0, h.h1, h.h2, h.h3, h.h4, h.h5, h.h6, h.h7, h.h8, h.h9, h.h10, fun _ => rfl, h.h12, h.h13, h.h14, h.h15, h.h16, h.h17, h.h18, h.h19, h.h20, h.h21, h.h22, h.h23⟩
theorem RS1.at12 (h : RS1 W BV ga gb AR AL BR BL qa qb qc qd A2 D w s84 s85 s86 s87 s88 s89 s90 s91 s92 s93 s94 s95 s96 s97 s98 s99 s100 s101 s102 s103 s104 s105 s106 s107) : RS1 W BV ga gb AR AL BR BL qa qb qc qd A2 (fun j => j == 12 || D j) w s84 s85 s86 s87 s88 s89 s90 s91 s92 s93 s94 s95 (.bool true) s97 s98 s99 s100 s101 s102 s103 s104 s105 s106 s107 :=
  ⟨h.hb, h.h0, h.h1, h.h2, h.h3, h.h4, h.h5, h.h6, h.h7, h.h8, h.h9, h.h10, h.h11, fun _ => rfl, h.h13, h.h14, h.h15, h.h16, h.h17, h.h18, h.h19, h.h20, h.h21, h.h22, h.h23⟩
theorem RS1.at13 (h : RS1 W BV ga gb AR AL BR BL qa qb qc qd A2 D w s84 s85 s86 s87 s88 s89 s90 s91 s92 s93 s94 s95 s96 s97 s98 s99 s100 s101 s102 s103 s104 s105 s106 s107) : RS1 W BV ga gb AR AL BR BL qa qb qc qd A2 (fun j => j == 13 || D j) w s84 s85 s86 s87 s88 s89 s90 s91 s92 s93 s94 s95 s96 (.bool true) s98 s99 s100 s101 s102 s103 s104 s105 s106 s107 :=
  ⟨h.hb, h.h0, h.h1, h.h2, h.h3, h.h4, h.h5, h.h6, h.h7, h.h8, h.h9, h.h10, h.h11, h.h12, fun _ => rfl, h.h14, h.h15, h.h16, h.h17, h.h18, h.h19, h.h20, h.h21, h.h22, h.h23⟩
theorem RS1.at14 (h : RS1 W BV ga gb AR AL BR BL qa qb qc qd A2 D w s84 s85 s86 s87 s88 s89 s90 s91 s92 s93 s94 s95 s96 s97 s98 s99 s100 s101 s102 s103 s104 s105 s106 s107) : RS1 W BV ga gb AR AL BR BL qa qb qc qd A2 (fun j => j == 14 || D j) w s84 s85 s86 s87 s88 s89 s90 s91 s92 s93 s94 s95 s96 s97 (undef) s99 s100 s101 s102 s103 s104 s105 s106 s107 :=
  ⟨h.hb, h.h0, h.h1, h.h2, h.h3, h.h4, h.h5, h.h6, h.h7, h.h8, h.h9, h.h10, h.h11, h.h12, h.h13, trivial, h.h15, h.h16, h.h17, h.h18, h.h19, h.h20, h.h21, h.h22, h.h23⟩
theorem RS1.at15 (h : RS1 W BV ga gb AR AL BR BL qa qb qc qd A2 D w s84 s85 s86 s87 s88 s89 s90 s91 s92 s93 s94 s95 s96 s97 s98 s99 s100 s101 s102 s103 s104 s105 s106 s107) : RS1 W BV ga gb AR AL BR BL qa qb qc qd A2 (fun j => j == 15 || D j) w s84 s85 s86 s87 s88 s89 s90 s91 s92 s93 s94 s95 s96 s97 s98 (undef) s100 s101 s102 s103 s104 s105 s106 s107 :=
  ⟨h.hb, h.h0, h.h1, h.h2, h.h3, h.h4, h.h5, h.h6, h.h7, h.h8, h.h9, h.h10, h.h11, h.h12, h.h13, h.h14, trivial, h.h16, h.h17, h.h18, h.h19, h.h20, h.h21, h.h22, h.h23⟩
theorem RS1.at16 (h : RS1 W BV ga gb AR AL BR BL qa qb qc qd A2 D w s84 s85 s86 s87 s88 s89 s90 s91 s92 s93 s94 s95 s96 s97 s98 s99 s100 s101 s102 s103 s104 s105 s106 s107) : RS1 W BV ga gb AR AL BR BL qa qb qc qd A2 (fun j => j == 16 || D j) w s84 s85 s86 s87 s88 s89 s90 s91 s92 s93 s94 s95 s96 s97 s98 s99 (undef) s101 s102 s103 s104 s105 s106 s107 :=
  ⟨h.hb, h.h0, h.h1, h.h2, h.h3, h.h4, h.h5, h.h6, h.h7, h.h8, h.h9, h.h10, h.h11, h.h12, h.h13, h.h14, h.h15, trivial, h.h17, h.h18, h.h19, h.h20, h.h21, h.h22, h.h23⟩
theorem RS1.at17 (h : RS1 W BV ga gb AR AL BR BL qa qb qc qd A2 D w s84 s85 s86 s87 s88 s89 s90 s91 s92 s93 s94 s95 s96 s97 s98 s99 s100 s101 s102 s103 s104 s105 s106 s107) : RS1 W BV ga gb AR AL BR BL qa qb qc qd A2 (fun j => j == 17 || D j) w s84 s85 s86 s87 s88 s89 s90 s91 s92 s93 s94 s95 s96 s97 s98 s99 s100 (undef) s102 s103 s104 s105 s106 s107 :=
  ⟨h.hb, h.h0, h.h1, h.h2, h.h3, h.h4, h.h5, h.h6, h.h7, h.h8, h.h9, h.h10, h.h11, h.h12, h.h13, h.h14, h.h15, h.h16, trivial, h.h18, h.h19, h.h20, h.h21, h.h22, h.h23⟩
theorem RS1.at18 (h : RS1 W BV ga gb AR AL BR BL qa qb qc qd A2 D w s84 s85 s86 s87 s88 s89 s90 s91 s92 s93 s94 s95 s96 s97 s98 s99 s100 s101 s102 s103 s104 s105 s106 s107) : RS1 W BV ga gb AR AL BR BL qa qb qc qd A2 (fun j => j == 18 || D j) w s84 s85 s86 s87 s88 s89 s90 s91 s92 s93 s94 s95 s96 s97 s98 s99 s100 s101 (undef) s103 s104 s105 s106 s107 :=
  ⟨h.hb, h.h0, h.h1, h.h2, h.h3, h.h4, h.h5, h.h6, h.h7, h.h8, h.h9, h.h10, h.h11, h.h12, h.h13, h.h14, h.h15, h.h16, h.h17, trivial, h.h19, h.h20, h.h21, h.h22, h.h23⟩
theorem RS1.at19 (h : RS1 W BV ga gb AR AL BR BL qa qb qc qd A2 D w s84 s85 s86 s87 s88 s89 s90 s91 s92 s93 s94 s95 s96 s97 s98 s99 s100 s101 s102 s103 s104 s105 s106 s107) : RS1 W BV ga gb AR AL BR BL qa qb qc qd A2 (fun j => j == 19 || D j) w s84 s85 s86 s87 s88 s89 s90 s91 s92 s93 s94 s95 s96 s97 s98 s99 s100 s101 s102 (undef) s104 s105 s106 s107 :=
  ⟨h.hb, h.h0, h.h1, h.h2, h.h3, h.h4, h.h5, h.h6, h.h7, h.h8, h.h9, h.h10, h.h11, h.h12, h.h13, h.h14, h.h15, h.h16, h.h17, h.h18, trivial, h.h20, h.h21, h.h22, h.h23⟩
theorem RS1.at20 (h : RS1 W BV ga gb AR AL BR BL qa qb qc qd A2 D w s84 s85 s86 s87 s88 s89 s90 s91 s92 s93 s94 s95 s96 s97 s98 s99 s100 s101 s102 s103 s104 s105 s106 s107) : RS1 W BV ga gb AR AL BR BL qa qb qc qd A2 (fun j => j == 20 || D j) w s84 s85 s86 s87 s88 s89 s90 s91 s92 s93 s94 s95 s96 s97 s98 s99 s100 s101 s102 s103 (undef) s105 s106 s107 :=
  ⟨h.hb, h.h0, h.h1, h.h2, h.h3, h.h4, h.h5, h.h6, h.h7, h.h8, h.h9, h.h10, h.h11, h.h12, h.h13, h.h14, h.h15, h.h16, h.h17, h.h18, h.h19, trivial, h.h21, h.h22, h.h23⟩
theorem RS1.at21 (h : RS1 W BV ga gb AR AL BR BL qa qb qc qd A2 D w s84 s85 s86 s87 s88 s89 s90 s91 s92 s93 s94 s95 s96 s97 s98 s99 s100 s101 s102 s103 s104 s105 s106 s107) : RS1 W BV ga gb AR AL BR BL qa qb qc qd A2 (fun j => j == 21 || D j) w s84 s85 s86 s87 s88 s89 s90 s91 s92 s93 s94 s95 s96 s97 s98 s99 s100 s101 s102 s103 s104 (undef) s106 s107 :=
  ⟨h.hb, h.h0, h.h1, h.h2, h.h3, h.h4, h.h5, h.h6, h.h7, h.h8, h.h9, h.h10, h.h11, h.h12, h.h13, h.h14, h.h15, h.h16, h.h17, h.h18, h.h19, h.h20, trivial, h.h22, h.h23⟩
theorem RS1.at22 (h : RS1 W BV ga gb AR AL BR BL qa qb qc qd A2 D w s84 s85 s86 s87 s88 s89 s90 s91 s92 s93 s94 s95 s96 s97 s98 s99 s100 s101 s102 s103 s104 s105 s106 s107) : RS1 W BV ga gb AR AL BR BL qa qb qc qd A2 (fun j => j == 22 || D j) w s84 s85 s86 s87 s88 s89 s90 s91 s92 s93 s94 s95 s96 s97 s98 s99 s100 s101 s102 s103 s104 s105 (undef) s107 :=
  ⟨h.hb, h.h0, h.h1, h.h2, h.h3, h.h4, h.h5, h.h6, h.h7, h.h8, h.h9, h.h10, h.h11, h.h12, h.h13, h.h14, h.h15, h.h16, h.h17, h.h18, h.h19, h.h20, h.h21, trivial, h.h23⟩
theorem RS1.at23 (h : RS1 W BV ga gb AR AL BR BL qa qb qc qd A2 D w s84 s85 s86 s87 s88 s89 s90 s91 s92 s93 s94 s95 s96 s97 s98 s99 s100 s101 s102 s103 s104 s105 s106 s107) : RS1 W BV ga gb AR AL BR BL qa qb qc qd A2 (fun j => j == 23 || D j) w s84 s85 s86 s87 s88 s89 s90 s91 s92 s93 s94 s95 s96 s97 s98 s99 s100 s101 s102 s103 s104 s105 s106 (.bool true) :=
  ⟨h.hb, h.h0, h.h1, h.h2, h.h3, h.h4, h.h5, h.h6, h.h7, h.h8, h.h9, h.h10, h.h11, h.h12, h.h13, h.h14, h.h15, h.h16, h.h17, h.h18, h.h19, h.h20, h.h21, h.h22, fun _ => rfl⟩
theorem RS1.start (h : Below W.heap.size W w) : RS1 W BV ga gb AR AL BR BL qa qb qc qd A2 (fun _ => false) w s84 s85 s86 s87 s88 s89 s90 s91 s92 s93 s94 s95 s96 s97 s98 s99 s100 s101 s102 s103 s104 s105 s106 s107 :=
  ⟨h, fun e => (by cases e), fun e => (by cases e), fun e => (by cases e), fun e => (by cases e), fun e => (by cases e), fun e => (by cases e), fun e => (by cases e), fun e => (by cases e), fun e => (by cases e), fun e => (by cases e), fun e => (by cases e), fun e => (by cases e), fun e => (by cases e), fun e => (by cases e), trivial, trivial, trivial, trivial, trivial, trivial, trivial, trivial, trivial, fun e => (by cases e)⟩
end
structure RS0 (W : World) (BV : Value) (ga gb : Nat) (AR AL BR BL : Value) (qa qb qc qd : Tm) (A2 : Bool) (D : Nat → Bool) (w : World) (s84 s85 s86 s87 s88 s89 s90 s91 s92 s93 s94 s95 s96 s97 s98 s99 s100 s101 s102 s103 s104 s105 s106 s107 : Value) : Prop where
  hb : Below W.heap.size W w
  h0 : D 0 = true → s84 = .bool true
  h1 : D 1 = true → s85 = .bool false
  h2 : D 2 = true → s86 = .bool false
  h3 : D 3 = true → s87 = BV
  h4 : D 4 = true → s88 = .pointer (some ⟨ga, 4, none⟩)
  h5 : D 5 = true → s89 = AR
  h6 : D 6 = true → ∃ (z1 : Option Addr) (z3 : Nat), s90 = .agg #[.bool qa.1.1, .int .i64 qa.1.2, .slice z1 (Fo.len qa.2) z3] ∧ SIn w qa.2 (.slice z1 (Fo.len qa.2) z3)
  h7 : D 7 = true → s91 = BV
  h8 : D 8 = true → s92 = .pointer (some ⟨ga, 1, none⟩)
  h9 : D 9 = true → s93 = AL
  h10 : D 10 = true → ∃ (z1 : Option Addr) (z3 : Nat), s94 = .agg #[.bool qb.1.1, .int .i64 qb.1.2, .slice z1 (Fo.len qb.2) z3] ∧ SIn w qb.2 (.slice z1 (Fo.len qb.2) z3)
  h11 : D 11 = true → s95 = .bool false
  h12 : D 12 = true → s96 = .bool false
  h13 : D 13 = true → s97 = .bool false
  h14 : D 14 = true → s98 = BV
  h15 : D 15 = true → s99 = .pointer (some ⟨gb, 4, none⟩)
  h16 : D 16 = true → s100 = BR
  h17 : D 17 = true → ∃ (z1 : Option Addr) (z3 : Nat), s101 = .agg #[.bool qc.1.1, .int .i64 qc.1.2, .slice z1 (Fo.len qc.2) z3] ∧ SIn w qc.2 (.slice z1 (Fo.len qc.2) z3)
  h18 : D 18 = true → s102 = BV
  h19 : D 19 = true → s103 = .pointer (some ⟨gb, 1, none⟩)
  h20 : D 20 = true → s104 = BL
  h21 : D 21 = true → ∃ (z1 : Option Addr) (z3 : Nat), s105 = .agg #[.bool qd.1.1, .int .i64 qd.1.2, .slice z1 (Fo.len qd.2) z3] ∧ SIn w qd.2 (.slice z1 (Fo.len qd.2) z3)
  h22 : D 22 = true → s106 = .bool A2
  h23 : D 23 = true → s107 = .bool A2
section
variable {W : World} {BV : Value} {ga gb : Nat} {AR AL BR BL : Value} {qa qb qc qd : Tm} {A2 : Bool} {D : Nat → Bool} {w w' : World} {s84 s85 s86 s87 s88 s89 s90 s91 s92 s93 s94 s95 s96 s97 s98 s99 s100 s101 s102 s103 s104 s105 s106 s107 : Value}
theorem RS0.step (h : RS0 W BV ga gb AR AL BR BL qa qb qc qd A2 D w s84 s85 s86 s87 s88 s89 s90 s91 s92 s93 s94 s95 s96 s97 s98 s99 s100 s101 s102 s103 s104 s105 s106 s107) (hb : Below w.heap.size w w') : RS0 W BV ga gb AR AL BR BL qa qb qc qd A2 D w' s84 s85 s86 s87 s88 s89 s90 s91 s92 s93 s94 s95 s96 s97 s98 s99 s100 s101 s102 s103 s104 s105 s106 s107 := by
  refine ⟨below_step h.hb hb, h.h0, h.h1, h.h2, h.h3, h.h4, h.h5, fun e => ?_, h.h7, h.h8, h.h9, fun e => ?_, h.h11, h.h12, h.h13, h.h14, h.h15, h.h16, fun e => ?_, h.h18, h.h19, h.h20, fun e => ?_, h.h22, h.h23⟩
  · obtain ⟨z1, z3, h1, h2⟩ := h.h6 e
    exact ⟨z1, z3, h1, h2.below hb⟩
  · obtain ⟨z1, z3, h1, h2⟩ := h.h10 e
    exact ⟨z1, z3, h1, h2.below hb⟩
  · obtain ⟨z1, z3, h1, h2⟩ := h.h17 e
    exact ⟨z1, z3, h1, h2.below hb⟩
  · obtain ⟨z1, z3, h1, h2⟩ := h.h21 e
    exact ⟨z1, z3, h1, h2.below hb⟩
theorem RS0.at0 (h : RS0 W BV ga gb AR AL BR BL qa qb qc qd A2 D w s84 s85 s86 s87 s88 s89 s90 s91 s92 s93 s94 s95 s96 s97 s98 s99 s100 s101 s102 s103 s104 s105 s106 s107) : RS0 W BV ga gb AR AL BR BL qa qb qc qd A2 (fun j => j == 0 || D j) w (.bool true) s85 s86 s87 s88 s89 s90 s91 s92 s93 s94 s95 s96 s97 s98 s99 s100 s101 s102 s103 s104 s105 s106 s107 :=
  ⟨h.hb, fun _ => rfl, h.h1, h.h2, h.h3, h.h4, h.h5, h.h6, h.h7, h.h8, h.h9, h.h10, h.h11, h.h12, h.h13, h.h14, h.h15, h.h16, h.h17, h.h18, h.h19, h.h20, h.h21, h.h22, h.h23⟩
theorem RS0.at1 (h : RS0 W BV ga gb AR AL BR BL qa qb qc qd A2 D w s84 s85 s86 s87 s88 s89 s90 s91 s92 s93 s94 s95 s96 s97 s98 s99 s100 s101 s102 s103 s104 s105 s106 s107) : RS0 W BV ga gb AR AL BR BL qa qb qc qd A2 (fun j => j == 1 || D j) w s84 (.bool false) s86 s87 s88 s89 s90 s91 s92 s93 s94 s95 s96 s97 s98 s99 s100 s101 s102 s103 s104 s105 s106 s107 :=
  ⟨h.hb, h.h0, fun _ => rfl, h.h2, h.h3, h.h4, h.h5, h.h6, h.h7, h.h8, h.h9, h.h10, h.h11, h.h12, h.h13, h.h14, h.h15, h.h16, h.h17, h.h18, h.h19, h.h20, h.h21, h.h22, h.h23⟩
theorem RS0.at2 (h : RS0 W BV ga gb AR AL BR BL qa qb qc qd A2 D w s84 s85 s86 s87 s88 s89 s90 s91 s92 s93 s94 s95 s96 s97 s98 s99 s100 s101 s102 s103 s104 s105 s106 s107) : RS0 W BV ga gb AR AL BR BL qa qb qc qd A2 (fun j => j == 2 || D j) w s84 s85 (.bool false) s87 s88 s89 s90 s91 s92 s93 s94 s95 s96 s97 s98 s99 s100 s101 s102 s103 s104 s105 s106 s107 :=
  ⟨h.hb, h.h0, h.h1, fun _ => rfl, h.h3, h.h4, h.h5, h.h6, h.h7, h.h8, h.h9, h.h10, h.h11, h.h12, h.h13, h.h14, h.h15, h.h16, h.h17, h.h18, h.h19, h.h20, h.h21, h.h22, h.h23⟩
theorem RS0.at3 (h : RS0 W BV ga gb AR AL BR BL qa qb qc qd A2 D w s84 s85 s86 s87 s88 s89 s90 s91 s92 s93 s94 s95 s96 s97 s98 s99 s100 s101 s102 s103 s104 s105 s106 s107) : RS0 W BV ga gb AR AL BR BL qa qb qc qd A2 (fun j => j == 3 || D j) w s84 s85 s86 (BV) s88 s89 s90 s91 s92 s93 s94 s95 s96 s97 s98 s99 s100 s101 s102 s103 s104 s105 s106 s107 :=
  ⟨h.hb, h.h0, h.h1, h.h2, fun _ => rfl, h.h4, h.h5, h.h6, h.h7, h.h8, h.h9, h.h10, h.h11, h.h12, h.h13, h.h14, h.h15, h.h16, h.h17, h.h18, h.h19, h.h20, h.h21, h.h22, h.h23⟩
theorem RS0.at4 (h : RS0 W BV ga gb AR AL BR BL qa qb qc qd A2 D w s84 s85 s86 s87 s88 s89 s90 s91 s92 s93 s94 s95 s96 s97 s98 s99 s100 s101 s102 s103 s104 s105 s106 s107) : RS0 W BV ga gb AR AL BR BL qa qb qc qd A2 (fun j => j == 4 || D j) w s84 s85 s86 s87 (.pointer (some ⟨ga, 4, none⟩)) s89 s90 s91 s92 s93 s94 s95 s96 s97 s98 s99 s100 s101 s102 s103 s104 s105 s106 s107 :=
  ⟨h.hb, h.h0, h.h1, h.h2, h.h3, fun _ => rfl, h.h5, h.h6, h.h7, h.h8, h.h9, h.h10, h.h11, h.h12, h.h13, h.h14, h.h15, h.h16, h.h17, h.h18, h.h19, h.h20, h.h21, h.h22, h.h23⟩
theorem RS0.at5 (h : RS0 W BV ga gb AR AL BR BL qa qb qc qd A2 D w s84 s85 s86 s87 s88 s89 s90 s91 s92 s93 s94 s95 s96 s97 s98 s99 s100 s101 s102 s103 s104 s105 s106 s107) : RS0 W BV ga gb AR AL BR BL qa qb qc qd A2 (fun j => j == 5 || D j) w s84 s85 s86 s87 s88 (AR) s90 s91 s92 s93 s94 s95 s96 s97 s98 s99 s100 s101 s102 s103 s104 s105 s106 s107 :=
  ⟨h.hb, h.h0, h.h1, h.h2, h.h3, h.h4, fun _ => rfl, h.h6, h.h7, h.h8, h.h9, h.h10, h.h11, h.h12, h.h13, h.h14, h.h15, h.h16, h.h17, h.h18, h.h19, h.h20, h.h21, h.h22, h.h23⟩
theorem RS0.at6 (h : RS0 W BV ga gb AR AL BR BL qa qb qc qd A2 D w s84 s85 s86 s87 s88 s89 s90 s91 s92 s93 s94 s95 s96 s97 s98 s99 s100 s101 s102 s103 s104 s105 s106 s107) {z1 : Option Addr} {z3 : Nat} (hS : SIn w qa.2 (.slice z1 (Fo.len qa.2) z3)) : RS0 W BV ga gb AR AL BR BL qa qb qc qd A2 (fun j => j == 6 || D j) w s84 s85 s86 s87 s88 s89 (.agg #[.bool qa.1.1, .int .i64 qa.1.2, .slice z1 (Fo.len qa.2) z3]) s91 s92 s93 s94 s95 s96 s97 s98 s99 s100 s101 s102 s103 s104 s105 s106 s107 :=
  ⟨h.hb, h.h0, h.h1, h.h2, h.h3, h.h4, h.h5, fun _ => ⟨z1, z3, rfl, hS⟩, h.h7, h.h8, h.h9, h.h10, h.h11, h.h12, h.h13, h.h14, h.h15, h.h16, h.h17, h.h18, h.h19, h.h20, h.h21, h.h22, h.h23⟩
theorem RS0.at7 (h : RS0 W BV ga gb AR AL BR BL qa qb qc qd A2 D w s84 s85 s86 s87 s88 s89 s90 s91 s92 s93 s94 s95 s96 s97 s98 s99 s100 s101 s102 s103 s104 s105 s106 s107) : RS0 W BV ga gb AR AL BR BL qa qb qc qd A2 (fun j => j == 7 || D j) w s84 s85 s86 s87 s88 s89 s90 (BV) s92 s93 s94 s95 s96 s97 s98 s99 s100 s101 s102 s103 s104 s105 s106 s107 :=
  ⟨h.hb, h.h0, h.h1, h.h2, h.h3, h.h4, h.h5, h.h6, fun _ => rfl, h.h8, h.h9, h.h10, h.h11, h.h12, h.h13, h.h14, h.h15, h.h16, h.h17, h.h18, h.h19, h.h20, h.h21, h.h22, h.h23⟩
theorem RS0.at8 (h : RS0 W BV ga gb AR AL BR BL qa qb qc qd A2 D w s84 s85 s86 s87 s88 s89 s90 s91 s92 s93 s94 s95 s96 s97 s98 s99 s100 s101 s102 s103 s104 s105 s106 s107) : RS0 W BV ga gb AR AL BR BL qa qb qc qd A2 (fun j => j == 8 || D j) w s84 s85 s86 s87 s88 s89 s90 s91 (.pointer (some ⟨ga, 1, none⟩)) s93 s94 s95 s96 s97 s98 s99 s100 s101 s102 s103 s104 s105 s106 s107 :=
  ⟨h.hb, h.h0, h.h1, h.h2, h.h3, h.h4, h.h5, h.h6, h.h7, fun _ => rfl, h.h9, h.h10, h.h11, h.h12, h.h13, h.h14, h.h15, h.h16, h.h17, h.h18, h.h19, h.h20, h.h21, h.h22, h.h23⟩
theorem RS0.at9 (h : RS0 W BV ga gb AR AL BR BL qa qb qc qd A2 D w s84 s85 s86 s87 s88 s89 s90 s91 s92 s93 s94 s95 s96 s97 s98 s99 s100 s101 s102 s103 s104 s105 s106 s107) : RS0 W BV ga gb AR AL BR BL qa qb qc qd A2 (fun j => j == 9 || D j) w s84 s85 s86 s87 s88 s89 s90 s91 s92 (AL) s94 s95 s96 s97 s98 s99 s100 s101 s102 s103 s104 s105 s106 s107 :=
  ⟨h.hb, h.h0, h.h1, h.h2, h.h3, h.h4, h.h5, h.h6, h.h7, h.h8, fun _ => rfl, h.h10, h.h11, h.h12, h.h13, h.h14, h.h15, h.h16, h.h17, h.h18, h.h19, h.h20, h.h21, h.h22, h.h23⟩
theorem RS0.at10 (h : RS0 W BV ga gb AR AL BR BL qa qb qc qd A2 D w s84 s85 s86 s87 s88 s89 s90 s91 s92 s93 s94 s95 s96 s97 s98 s99 s100 s101 s102 s103 s104 s105 s106 s107) {z1 : Option Addr} {z3 : Nat} (hS : SIn w qb.2 (.slice z1 (Fo.len qb.2) z3)) : RS0 W BV ga gb AR AL BR BL qa qb qc qd A2 (fun j => j == 10 || D j) w s84 s85 s86 s87 s88 s89 s90 s91 s92 s93 (.agg #[.bool qb.1.1, .int .i64 qb.1.2, .slice z1 (Fo.len qb.2) z3]) s95 s96 s97 s98 s99 s100 s101 s102 s103 s104 s105 s106 s107 :=
  ⟨h.hb, h.h0, h.h1, h.h2, h.h3, h.h4, h.h5, h.h6, h.h7, h.h8, h.h9, fun _ => ⟨z1, z3, rfl, hS⟩, h.h11, h.h12, h.h13, h.h14, h.h15, h.h16, h.h17, h.h18, h.h19, h.h20, h.h21, h.h22, h.h23⟩
theorem RS0.at11 (h : RS0 W BV ga gb AR AL BR BL qa qb qc qd A2 D w s84 s85 s86 s87 s88 s89 s90 s91 s92 s93 s94 s95 s96 s97 s98 s99 s100 s101 s102 s103 s104 s105 s106 s107) : RS0 W BV ga gb AR AL BR BL qa qb qc qd A2 (fun j => j == 11 || D j) w s84 s85 s86 s87 s88 s89 s90 s91 s92 s93 s94 (.bool false) s96 s97 s98 s99 s100 s101 s102 s103 s104 s105 s106 s107 :=
  ⟨h.hb, h.h0, h.h1, h.h2, h.h3, h.h4, h.h5, h.h6, h.h7, h.h8, h.h9, h.h10, fun _ => rfl, h.h12, h.h13, h.h14, h.h15, h.h16, h.h17, h.h18, h.h19, h.h20, h.h21, h.h22, h.h23⟩
theorem RS0.at12 (h : RS0 W BV ga gb AR AL BR BL qa qb qc qd A2 D w s84 s85 s86 s87 s88 s89 s90 s91 s92 s93 s94 s95 s96 s97 s98 s99 s100 s101 s102 s103 s104 s105 s106 s107) : RS0 W BV ga gb AR AL BR BL qa qb qc qd A2 (fun j => j == 12 || D j) w s84 s85 s86 s87 s88 s89 s90 s91 s92 s93 s94 s95 (.bool false) s97 s98 s99 s100 s101 s102 s103 s104 s105 s106 s107 :=
  ⟨h.hb, h.h0, h.h1, h.h2, h.h3, h.h4, h.h5, h.h6, h.h7, h.h8, h.h9, h.h10, h.h11, fun _ => rfl, h.h13, h.h14, h.h15, h.h16, h.h17, h.h18, h.h19, h.h20, h.h21, h.h22, h.h23⟩
theorem RS0.at13 (h : RS0 W BV ga gb AR AL BR BL qa qb qc qd A2 D w s84 s85 s86 s87 s88 s89 s90 s91 s92 s93 s94 s95 s96 s97 s98 s99 s100 s101 s102 s103 s104 s105 s106 s107) : RS0 W BV ga gb AR AL BR BL qa qb qc qd A2 (fun j => j == 13 || D j) w s84 s85 s86 s87 s88 s89 s90 s91 s92 s93 s94 s95 s96 (.bool false) s98 s99 s100 s101 s102 s103 s104 s105 s106 s107 :=
  ⟨h.hb, h.h0, h.h1, h.h2, h.h3, h.h4, h.h5, h.h6, h.h7, h.h8, h.h9, h.h10, h.h11, h.h12, fun _ => rfl, h.h14, h.h15, h.h16, h.h17, h.h18, h.h19, h.h20, h.h21, h.h22, h.h23⟩
theorem RS0.at14 (h : RS0 W BV ga gb AR AL BR BL qa qb qc qd A2 D w s84 s85 s86 s87 s88 s89 s90 s91 s92 s93 s94 s95 s96 s97 s98 s99 s100 s101 s102 s103 s104 s105 s106 s107) : RS0 W BV ga gb AR AL BR BL qa qb qc qd A2 (fun j => j == 14 || D j) w s84 s85 s86 s87 s88 s89 s90 s91 s92 s93 s94 s95 s96 s97 (BV) s99 s100 s101 s102 s103 s104 s105 s106 s107 :=
  ⟨h.hb, h.h0, h.h1, h.h2, h.h3, h.h4, h.h5, h.h6, h.h7, h.h8, h.h9, h.h10, h.h11, h.h12, h.h13, fun _ => rfl, h.h15, h.h16, h.h17, h.h18, h.h19, h.h20, h.h21, h.h22, h.h23⟩
theorem RS0.at15 (h : RS0 W BV ga gb AR AL BR BL qa qb qc qd A2 D w s84 s85 s86 s87 s88 s89 s90 s91 s92 s93 s94 s95 s96 s97 s98 s99 s100 s101 s102 s103 s104 s105 s106 s107) : RS0 W BV ga gb AR AL BR BL qa qb qc qd A2 (fun j => j == 15 || D j) w s84 s85 s86 s87 s88 s89 s90 s91 s92 s93 s94 s95 s96 s97 s98 (.pointer (some ⟨gb, 4, none⟩)) s100 s101 s102 s103 s104 s105 s106 s107 :=
  ⟨h.hb, h.h0, h.h1, h.h2, h.h3, h.h4, h.h5, h.h6, h.h7, h.h8, h.h9, h.h10, h.h11, h.h12, h.h13, h.h14, fun _ => rfl, h.h16, h.h17, h.h18, h.h19, h.h20, h.h21, h.h22, h.h23⟩
theorem RS0.at16 (h : RS0 W BV ga gb AR AL BR BL qa qb qc qd A2 D w s84 s85 s86 s87 s88 s89 s90 s91 s92 s93 s94 s95 s96 s97 s98 s99 s100 s101 s102 s103 s104 s105 s106 s107) : RS0 W BV ga gb AR AL BR BL qa qb qc qd A2 (fun j => j == 16 || D j) w s84 s85 s86 s87 s88 s89 s90 s91 s92 s93 s94 s95 s96 s97 s98 s99 (BR) s101 s102 s103 s104 s105 s106 s107 :=
  ⟨h.hb, h.h0, h.h1, h.h2, h.h3, h.h4, h.h5, h.h6, h.h7, h.h8, h.h9, h.h10, h.h11, h.h12, h.h13, h.h14, h.h15, fun _ => rfl, h.h17, h.h18, h.h19, h.h20, h.h21, h.h22, h.h23⟩
theorem RS0.at17 (h : RS0 W BV ga gb AR AL BR BL qa qb qc qd A2 D w s84 s85 s86 s87 s88 s89 s90 s91 s92 s93 s94 s95 s96 s97 s98 s99 s100 s101 s102 s103 s104 s105 s106 s107) {z1 : Option Addr} {z3 : Nat} (hS : SIn w qc.2 (.slice z1 (Fo.len qc.2) z3)) : RS0 W BV ga gb AR AL BR BL qa qb qc qd A2 (fun j => j == 17 || D j) w s84 s85 s86 s87 s88 s89 s90 s91 s92 s93 s94 s95 s96 s97 s98 s99 s100 (.agg #[.bool qc.1.1, .int .i64 qc.1.2, .slice z1 (Fo.len qc.2) z3]) s102 s103 s104 s105 s106 s107 :=
  ⟨h.hb, h.h0, h.h1, h.h2, h.h3, h.h4, h.h5, h.h6, h.h7, h.h8, h.h9, h.h10, h.h11, h.h12, h.h13, h.h14, h.h15, h.h16, fun _ => ⟨z1, z3, rfl, hS⟩, h.h18, h.h19, h.h20, h.h21, h.h22, h.h23⟩
theorem RS0.at18 (h : RS0 W BV ga gb AR AL BR BL qa qb qc qd A2 D w s84 s85 s86 s87 s88 s89 s90 s91 s92 s93 s94 s95 s96 s97 s98 s99 s100 s101 s102 s103 s104 s105 s106 s107) : RS0 W BV ga gb AR AL BR BL qa qb qc qd A2 (fun j => j == 18 || D j) w s84 s85 s86 s87 s88 s89 s90 s91 s92 s93 s94 s95 s96 s97 s98 s99 s100 s101 (BV) s103 s104 s105 s106 s107 :=
  ⟨h.hb, h.h0, h.h1, h.h2, h.h3, h.h4, h.h5, h.h6, h.h7, h.h8, h.h9, h.h10, h.h11, h.h12, h.h13, h.h14, h.h15, h.h16, h.h17, fun _ => rfl, h.h19, h.h20, h.h21, h.h22, h.h23⟩
theorem RS0.at19 (h : RS0 W BV ga gb AR AL BR BL qa qb qc qd A2 D w s84 s85 s86 s87 s88 s89 s90 s91 s92 s93 s94 s95 s96 s97 s98 s99 s100 s101 s102 s103 s104 s105 s106 s107) : RS0 W BV ga gb AR AL BR BL qa qb qc qd A2 (fun j => j == 19 || D j) w s84 s85 s86 s87 s88 s89 s90 s91 s92 s93 s94 s95 s96 s97 s98 s99 s100 s101 s102 (.pointer (some ⟨gb, 1, none⟩)) s104 s105 s106 s107 :=
  ⟨h.hb, h.h0, h.h1, h.h2, h.h3, h.h4, h.h5, h.h6, h.h7, h.h8, h.h9, h.h10, h.h11, h.h12, h.h13, h.h14, h.h15, h.h16, h.h17, h.h18, fun _ => rfl, h.h20, h.h21, h.h22, h.h23⟩
theorem RS0.at20 (h : RS0 W BV ga gb AR AL BR BL qa qb qc qd A2 D w s84 s85 s86 s87 s88 s89 s90 s91 s92 s93 s94 s95 s96 s97 s98 s99 s100 s101 s102 s103 s104 s105 s106 s107) : RS0 W BV ga gb AR AL BR BL qa qb qc qd A2 (fun j => j == 20 || D j) w s84 s85 s86 s87 s88 s89 s90 s91 s92 s93 s94 s95 s96 s97 s98 s99 s100 s101 s102 s103 (BL) s105 s106 s107 :=
  ⟨h.hb, h.h0, h.h1, h.h2, h.h3, h.h4, h.h5, h.h6, h.h7, h.h8, h.h9, h.h10, h.h11, h.h12, h.h13, h.h14, h.h15, h.h16, h.h17, h.h18, h.h19, fun _ => rfl, h.h21, h.h22, h.h23⟩
theorem RS0.at21 (h : RS0 W BV ga gb AR AL BR BL qa qb qc qd A2 D w s84 s85 s86 s87 s88 s89 s90 s91 s92 s93 s94 s95 s96 s97 s98 s99 s100 s101 s102 s103 s104 s105 s106 s107) {z1 : Option Addr} {z3 : Nat} (hS : SIn w qd.2 (.slice z1 (Fo.len qd.2) z3)) : RS0 W BV ga gb AR AL BR BL qa qb qc qd A2 (fun j => j == 21 || D j) w s84 s85 s86 s87 s88 s89 s90 s91 s92 s93 s94 s95 s96 s97 s98 s99 s100 s101 s102 s103 s104 (.agg #[.bool qd.1.1, .int .i64 qd.1.2, .slice z1 (Fo.len qd.2) z3]) s106 s107 :=
  ⟨h.hb, h.h0, h.h1, h.h2, h.h3, h.h4, h.h5, h.h6, h.h7, h.h8, h.h9, h.h10, h.h11, h.h12, h.h13, h.h14, h.h15, h.h16, h.h17, h.h18, h.h19, h.h20, fun _ => ⟨z1, z3, rfl, hS⟩, h.h22, h.h23⟩
theorem RS0.at22 (h : RS0 W BV ga gb AR AL BR BL qa qb qc qd A2 D w s84 s85 s86 s87 s88 s89 s90 s91 s92 s93 s94 s95 s96 s97 s98 s99 s100 s101 s102 s103 s104 s105 s106 s107) : RS0 W BV ga gb AR AL BR BL qa qb qc qd A2 (fun j => j == 22 || D j) w s84 s85 s86 s87 s88 s89 s90 s91 s92 s93 s94 s95 s96 s97 s98 s99 s100 s101 s102 s103 s104 s105 (.bool A2) s107 :=
  ⟨h.hb, h.h0, h.h1, h.h2, h.h3, h.h4, h.h5, h.h6, h.h7, h.h8, h.h9, h.h10, h.h11, h.h12, h.h13, h.h14, h.h15, h.h16, h.h17, h.h18, h.h19, h.h20, h.h21, fun _ => rfl, h.h23⟩
theorem RS0.at23 (h : RS0 W BV ga gb AR AL BR BL qa qb qc qd A2 D w s84 s85 s86 s87 s88 s89 s90 s91 s92 s93 s94 s95 s96 s97 s98 s99 s100 s101 s102 s103 s104 s105 s106 s107) : RS0 W BV ga gb AR AL BR BL qa qb qc qd A2 (fun j => j == 23 || D j) w s84 s85 s86 s87 s88 s89 s90 s91 s92 s93 s94 s95 s96 s97 s98 s99 s100 s101 s102 s103 s104 s105 s106 (.bool A2) :=
  ⟨h.hb, h.h0, h.h1, h.h2, h.h3, h.h4, h.h5, h.h6, h.h7, h.h8, h.h9, h.h10, h.h11, h.h12, h.h13, h.h14, h.h15, h.h16, h.h17, h.h18, h.h19, h.h20, h.h21, h.h22, fun _ => rfl⟩
theorem RS0.start (h : Below W.heap.size W w) : RS0 W BV ga gb AR AL BR BL qa qb qc qd A2 (fun _ => false) w s84 s85 s86 s87 s88 s89 s90 s91 s92 s93 s94 s95 s96 s97 s98 s99 s100 s101 s102 s103 s104 s105 s106 s107 :=
  ⟨h, fun e => (by cases e), fun e => (by cases e), fun e => (by cases e), fun e => (by cases e), fun e => (by cases e), fun e => (by cases e), fun e => (by cases e), fun e => (by cases e), fun e => (by cases e), fun e => (by cases e), fun e => (by cases e), fun e => (by cases e), fun e => (by cases e), fun e => (by cases e), fun e => (by cases e), fun e => (by cases e), fun e => (by cases e), fun e => (by cases e), fun e => (by cases e), fun e => (by cases e), fun e => (by cases e), fun e => (by cases e), fun e => (by cases e), fun e => (by cases e)⟩
end
set_option maxRecDepth 100000 in
set_option maxHeartbeats 16000000 in
theorem supR_any (U : Tm → Tm → Option Sb) (hU : UOK U) (c : Cl) (cv : Value) (d : Cl) (dv : Value) (w : World) (hC : CIn w c cv) (hD : CIn w d dv) (hc : ∀ l ∈ c, G12L l) (h4 : c.length ≤ 4) (hd4 : d.length ≤ 4)
    (hd : ∀ l ∈ d, (okT l.2.1 ∧ narT l.2.1) ∧ (okT l.2.2 ∧ narT l.2.2)) (hdd : ∀ l ∈ d.map (mapL (subT (ren 5))), G12L l) :
    Calls Tryz.prog 11 #[cv, dv] w (RulePost (supTo U c (d.map (mapL (subT (ren 5)))) c.length) w) := by
  have HC := hide hC
  have HD := hide hD
  have Hc := hide hc
  have Hd := hide hd
  have Hdd := hide hdd
  have HU := hide hU
  obtain ⟨c1, c3, cb, co, rfl, had, hlc, hcm, hF⟩ := hC
  obtain ⟨d1, d3, rfl⟩ := slice_of_cl hD
  unfold maxLen at hcm
  have HF := hide hF
  clear hF hc hU hd hdd hD
  go_enter Tryz.func11, Tryz.ntmps11
  go_upto_region 2 with fail
  have Hst := hide (lst_start w 51)
  have hB1 : Below w.heap.size w (w.alloc (.cells #[.slice none 0 0, .bool false] 51)) := below_alloc _ _
  generalize w.alloc (.cells #[.slice none 0 0, .bool false] 51) = W1 at *
  go_wp2_with fail
  refine (eachDS_any (subT (ren 5)) (fun t => okT t ∧ narT t) d _ _ (cloDS_any _) (HD.out.below hB1) Hd.out (by omega)).mono ?_
  rintro e wd ⟨ev, exs, rfl, hO, hbd⟩
  have hBd := below_step hB1 hbd
  have hlm : (d.map (mapL (subT (ren 5)))).length = d.length := List.length_map _
  generalize d.map (mapL (subT (ren 5))) = dd at *
  have HE := hide hO.cl
  obtain ⟨e1, e3, eb, eo, hev, hed, hel, hem, hEF⟩ := hO.cl
  rw [hlm] at hev hed hel
  subst hev
  have HEF := hide hEF
  unfold maxLen at hem
  have HL0 := hide (Hst.out.below hbd)
  have HBd := hide hBd
  have Hlm := hide hlm
  clear hO hbd hB1 hBd hEF hlm Hst
  go_wp2_with fail
  go_loopw [27] (fun q wr => ∃ (i : Nat) (v : Value) (xs : List Value), i ≤ c.length ∧ q = .int .i64 i ∧ LK w.heap.size w.heap.size wd (.slice none 0 0) (supTo U c dd i) v xs wr) (fun q _ => c.length - (intOf q).toNat)
  case atStart => exact ⟨0, _, _, Nat.zero_le _, rfl, LK.start HL0.out⟩
  case round =>
    obtain ⟨i, v, xs, hi, rfl, hK⟩ := hrel
    have HK := hide hK
    have Hsc : Hid (supTo U c dd (i + 1) = supI U c dd (supTo U c dd i) i) := foldN_succ _ _ _
    have Hln : Hid ((supTo U c dd i).1.length ≤ 768) := by
      have h1 := supTo_len (U := U) (c := c) Hdd.out (by rw [Hlm.out]; exact hd4) i
      rw [Hid]; omega
    clear hK
    by_cases hlt : i < c.length
    · have hlt' : (i : Int) < (c.length : Int) := by omega
      have hi0 : (0 : Int) ≤ (i : Int) := by omega
      obtain ⟨x, hx⟩ : ∃ y, c[i]? = some y := ⟨c[i]'hlt, by simp⟩
      have Hx := hide hx
      have Hgx := hide (Hc.out _ (List.mem_of_getElem? hx))
      have Hsi := hide (supI_eq (U := U) (d := dd) (supTo U c dd i) hx)
      have ha1 : c1 = some ⟨cb, co, none⟩ := had (by omega)
      subst ha1
      clear hx had
      go_wp2_with fail
      generalize wr = wo at *
      go_loopw [30] (fun q wr => ∃ (k : Nat) (v : Value) (xs : List Value), k ≤ 2 ∧ q = .int .i64 k ∧ LK w.heap.size w.heap.size wd (.slice none 0 0) (foldN (supK U c i x dd) (supTo U c dd i) k) v xs wr) (fun q _ => 2 - (intOf q).toNat)
      case atStart => exact ⟨0, v, xs, by omega, rfl, HK.out⟩
      case round =>
        clear HK
        obtain ⟨k, v, xs, hk, rfl, hK⟩ := hrel
        have HK := hide hK
        have Hsk := hide (foldN_succ (supK U c i x dd) (supTo U c dd i) k)
        have Hln2 : Hid ((foldN (supK U c i x dd) (supTo U c dd i) k).1.length ≤ 1000) := by
          have h1 := foldN_len (m := 96) (supK_len (U := U) (c := c) (i := i) (x := x) Hdd.out (by rw [Hlm.out]; exact hd4)) (supTo U c dd i) k
          have h2 := Hln.out
          rw [Hid]; omega
        clear hK
        by_cases hkl : k < 2
        · have hkl' : (k : Int) < 2 := by omega
          have hBr := HK.out.under HL0.out HBd.out
          obtain ⟨p0, p1, p2, ⟨u3, p3, hA⟩, p4, p5, u6, p6, hD⟩ := (HF.out.below hBr).at Hx.out
          have hk1 : ((k : Int) == 1) = decide (k = 1) := one_is
          obtain ⟨ta1, ta3, td1, td3, hTA, hTD, hTc⟩ := turn_call (l := x) (decide (k = 1)) hA hD
          have Hsu : Hid (supK U c i x dd (foldN (supK U c i x dd) (supTo U c dd i) k) k = if (turnL (decide (k = 1)) x).1 = true ∨ (turnL (decide (k = 1)) x).2.1.1.1 = true then foldN (supK U c i x dd) (supTo U c dd i) k else foldN (supJ U c i (turnL (decide (k = 1)) x) dd) (foldN (supK U c i x dd) (supTo U c dd i) k) dd.length) := rfl
          have Hg1 := hide (turn_both (yes := decide (k = 1)) Hgx.out)
          generalize decide (k = 1) = kb at *
          generalize turnL kb x = tx at *
          obtain ⟨xn, ⟨⟨xv, xi⟩, xk⟩, ⟨⟨xv', xi'⟩, xk'⟩⟩ := x
          obtain ⟨tn, ⟨⟨tv, ti⟩, tk⟩, ⟨⟨tv', ti'⟩, tk'⟩⟩ := tx
          obtain ⟨xa, xc, _, _, rfl, -, -, -, -⟩ := hA
          obtain ⟨xd, xe, _, _, rfl, -, -, -, -⟩ := hD
          simp only at hTA hTD hTc Hsu Hg1 p0 p1 p2 p3 p4 p5 p6
          have HTA := hide hTA
          have HTD := hide hTD
          have HTc := hide hTc
          generalize foldN (supK U c i (xn, ((xv, xi), xk), ((xv', xi'), xk')) dd) (supTo U c dd i) k = stk at *
          clear hTA hTD hTc
          go_wp2_with fail
          refine (HTc.out _).mono ?_
          rintro e w2 ⟨rfl, hb2⟩
          clear p0 p1 p2 p3 p4 p5 p6 hk1
          go_upto_region 10 with fail
          generalize hwa : w2.alloc (.cells #[.bool tn, .bool tv, .int .i64 ti, .slice ta1 (Fo.len tk) ta3, .bool tv', .int .i64 ti', .slice td1 (Fo.len tk') td3] 42) = wa
          obtain ⟨g0, g1, g2, g3, g4, g5, g6, -, hba, -⟩ := lit_cells (T := 42) (w := w2) (wr := wa) (x0 := .bool tn) (x1 := .bool tv) (x2 := .int .i64 ti) (x3 := .slice ta1 (Fo.len tk) ta3) (x4 := .bool tv') (x5 := .int .i64 ti') (x6 := .slice td1 (Fo.len tk') td3) (by rw [← hwa]; exact Below.refl _ _)
          clear hwa
          have hba' := below_step hb2 hba
          replace HK := hide (HK.out.below hba')
          replace HTA := hide (HTA.out.below hba')
          replace HTD := hide (HTD.out.below hba')
          generalize w2.heap.size = ga at *
          clear hb2 hba hba'
          by_cases hsk : tn = true ∨ tv = true
          · have Hend : Hid (LK w.heap.size w.heap.size wd (.slice none 0 0) (foldN (supK U c i (xn, ((xv, xi), xk), ((xv', xi'), xk')) dd) (supTo U c dd i) (k + 1)) v xs wa) := by
              rw [Hid, Hsk.out, Hsu.out, if_pos hsk]; exact HK.out
            clear Hsu Hsk
            cases tn
            · have htv : tv = true := by rcases hsk with h | h; cases h; exact h
              subst htv
              clear hsk
              go_wp2_with fail
              go_roundw
              case rel => exact ⟨k + 1, v, xs, by omega, by go_num, Hend.out⟩
              case measure => simp [intOf]; omega
            · clear hsk
              go_wp2_with fail
              go_roundw
              case rel => exact ⟨k + 1, v, xs, by omega, by go_num, Hend.out⟩
              case measure => simp [intOf]; omega
          have htn : tn = false := by cases tn; rfl; exact absurd (.inl rfl) hsk
          have htv : tv = false := by cases tv; rfl; exact absurd (.inr rfl) hsk
          subst htn htv
          have Hsq : Hid (foldN (supK U c i (xn, ((xv, xi), xk), ((xv', xi'), xk')) dd) (supTo U c dd i) (k + 1) = foldN (supJ U c i (false, ((false, ti), tk), ((tv', ti'), tk')) dd) stk dd.length) := by
            rw [Hid, Hsk.out, Hsu.out, if_neg (by simp)]
          have Hga := hide (And.intro g0 g1)
          have HLa := hide HK.out.L
          clear hsk Hsu Hsk
          go_wp2_with fail
          go_loopw [49] (fun q wr => ∃ (j : Nat) (v2 : Value) (xs2 : List Value), j ≤ d.length ∧ q = .int .i64 j ∧ LK w.heap.size w.heap.size wa v (foldN (supJ U c i (false, ((false, ti), tk), ((tv', ti'), tk')) dd) stk j) v2 xs2 wr) (fun q _ => d.length - (intOf q).toNat)
          case atStart => exact ⟨0, v, xs, Nat.zero_le _, rfl, LK.start HLa.out⟩
          case round =>
            obtain ⟨j, v2, xs2, hj, rfl, hK2⟩ := hrel
            have HK2 := hide hK2
            have Hsj := hide (foldN_succ (supJ U c i (false, ((false, ti), tk), ((tv', ti'), tk')) dd) stk j)
            have Hln3 : Hid ((foldN (supJ U c i (false, ((false, ti), tk), ((tv', ti'), tk')) dd) stk j).1.length ≤ 1200) := by
              have h1 := foldN_len (m := 24) (supJ_len (U := U) (c := c) (i := i) (a := (false, ((false, ti), tk), ((tv', ti'), tk'))) Hdd.out) stk j
              have h2 := Hln2.out
              rw [Hid]; omega
            clear hK2
            by_cases hjl : j < d.length
            · have hjl' : (j : Int) < (d.length : Int) := by omega
              have hj0 : (0 : Int) ≤ (j : Int) := by omega
              obtain ⟨y, hy⟩ : ∃ y, dd[j]? = some y := ⟨dd[j]'(by rw [Hlm.out]; exact hjl), by simp⟩
              have Hy := hide hy
              have Hgy := hide (Hdd.out _ (List.mem_of_getElem? hy))
              have Hsy := hide (supJ_eq (U := U) (c := c) (i := i) (a := (false, ((false, ti), tk), ((tv', ti'), tk'))) (foldN (supJ U c i (false, ((false, ti), tk), ((tv', ti'), tk')) dd) stk j) hy)
              have he1 : e1 = some ⟨eb, eo, none⟩ := hed (by omega)
              subst he1
              generalize foldN (supJ U c i (false, ((false, ti), tk), ((tv', ti'), tk')) dd) stk j = stj at *
              clear hy hed
              go_wp2_with fail
              generalize wr = wp at *
              go_loopw [52] (fun q wr => ∃ (sd : Nat) (v2 : Value) (xs2 : List Value), sd ≤ 2 ∧ q = .int .i64 sd ∧ LK w.heap.size w.heap.size wa v (foldN (supD U c i (false, ((false, ti), tk), ((tv', ti'), tk')) dd j y) stj sd) v2 xs2 wr) (fun q _ => 2 - (intOf q).toNat)
              case atStart => exact ⟨0, v2, xs2, by omega, rfl, HK2.out⟩
              case round =>
                clear HK2
                obtain ⟨sd, v2, xs2, hsd, rfl, hK2⟩ := hrel
                have HK2 := hide hK2
                have Hss := hide (foldN_succ (supD U c i (false, ((false, ti), tk), ((tv', ti'), tk')) dd j y) stj sd)
                have Hln4 : Hid ((foldN (supD U c i (false, ((false, ti), tk), ((tv', ti'), tk')) dd j y) stj sd).1.length ≤ 1300) := by
                  have h1 := foldN_len (m := 12) (supD_len (U := U) (c := c) (i := i) (a := (false, ((false, ti), tk), ((tv', ti'), tk'))) (d := dd) (j := j) Hgy.out) stj sd
                  have h2 := Hln3.out
                  rw [Hid]; omega
                clear hK2
                by_cases hsl : sd < 2
                · have hsl' : (sd : Int) < 2 := by omega
                  have hkp := HK.out.kpt HL0.out
                  have hka := HK2.out.kpt HLa.out
                  obtain ⟨p0, p1, p2, ⟨u3, p3, hA⟩, p4, p5, u6, p6, hD⟩ := (hka.lin (hkp.lin HEF.out)).at Hy.out
                  have hs1 : ((sd : Int) == 1) = decide (sd = 1) := one_is
                  obtain ⟨sa1, sa3, sd1, sd3, hSA, hSD, hSc⟩ := turn_call (l := y) (decide (sd = 1)) hA hD
                  have Hsv : Hid (supD U c i (false, ((false, ti), tk), ((tv', ti'), tk')) dd j y (foldN (supD U c i (false, ((false, ti), tk), ((tv', ti'), tk')) dd j y) stj sd) sd = (placesT (turnL (decide (sd = 1)) y).2.1.1 (turnL (decide (sd = 1)) y).2.1.2 []).foldl (supP U c i (false, ((false, ti), tk), ((tv', ti'), tk')) dd j (turnL (decide (sd = 1)) y) (decide (sd = 1))) (foldN (supD U c i (false, ((false, ti), tk), ((tv', ti'), tk')) dd j y) stj sd)) := rfl
                  have Hg2 := hide (turn_both (yes := decide (sd = 1)) Hgy.out)
                  generalize decide (sd = 1) = sb at *
                  generalize turnL sb y = ty at *
                  obtain ⟨yn, ⟨⟨yv, yi⟩, yk⟩, ⟨⟨yv', yi'⟩, yk'⟩⟩ := y
                  obtain ⟨sn, ⟨⟨sv, si⟩, sk⟩, ⟨⟨sv', si'⟩, sk'⟩⟩ := ty
                  obtain ⟨ya, yc, _, _, rfl, -, -, -, -⟩ := hA
                  obtain ⟨yd, ye, _, _, rfl, -, -, -, -⟩ := hD
                  simp only at hSA hSD hSc Hsv Hg2 p0 p1 p2 p3 p4 p5 p6
                  have HSA := hide hSA
                  have HSD := hide hSD
                  have HSc := hide hSc
                  generalize foldN (supD U c i (false, ((false, ti), tk), ((tv', ti'), tk')) dd j (yn, ((yv, yi), yk), ((yv', yi'), yk'))) stj sd = sts at *
                  clear hSA hSD hSc
                  go_wp2_with fail
                  refine (HSc.out _).mono ?_
                  rintro e w4 ⟨rfl, hb4⟩
                  clear p0 p1 p2 p3 p4 p5 p6 hkp hka
                  go_upto_region 18 with fail
                  generalize hwa : w4.alloc (.cells #[.bool sn, .bool sv, .int .i64 si, .slice sa1 (Fo.len sk) sa3, .bool sv', .int .i64 si', .slice sd1 (Fo.len sk') sd3] 42) = wb
                  obtain ⟨f0, f1, f2, f3, f4, f5, f6, -, hba, -⟩ := lit_cells (T := 42) (w := w4) (wr := wb) (x0 := .bool sn) (x1 := .bool sv) (x2 := .int .i64 si) (x3 := .slice sa1 (Fo.len sk) sa3) (x4 := .bool sv') (x5 := .int .i64 si') (x6 := .slice sd1 (Fo.len sk') sd3) (by rw [← hwa]; exact Below.refl _ _)
                  clear hwa
                  have hbb' := below_step hb4 hba
                  replace HK2 := hide (HK2.out.below hbb')
                  replace HSA := hide (HSA.out.below hbb')
                  replace HSD := hide (HSD.out.below hbb')
                  generalize w4.heap.size = gb at *
                  clear hb4 hba hbb'
                  obtain ⟨Z, hZ⟩ : ∃ Z, Z = placesT (sv, si) sk [] := ⟨_, rfl⟩
                  have HZ := hide hZ
                  have HZ12 : Hid (Z.length ≤ 12) := by rw [Hid, hZ]; exact places_12 Hg2.out.1
                  have HLb := hide HK2.out.L
                  have Hpc := hide (places_call (w := wb) hZ HSA.out Hg2.out.1.sz)
                  clear hZ
                  go_wp2_with fail
                  refine Hpc.out.mono ?_
                  rintro e wP ⟨z1, z3, rfl, hP, hbP⟩
                  replace f0 := grow_cell hbP _ _ f0
                  replace f1 := grow_cell hbP _ _ f1
                  replace f2 := grow_cell hbP _ _ f2
                  replace f3 := grow_cell hbP _ _ f3
                  replace f4 := grow_cell hbP _ _ f4
                  replace f5 := grow_cell hbP _ _ f5
                  replace f6 := grow_cell hbP _ _ f6
                  replace HK2 := hide (HK2.out.below hbP)
                  replace HSA := hide (HSA.out.below hbP)
                  replace HSD := hide (HSD.out.below hbP)
                  have HP := hide hP
                  have HLP := hide (HLb.out.below hbP)
                  have Hsz : Hid (supD U c i (false, ((false, ti), tk), ((tv', ti'), tk')) dd j (yn, ((yv, yi), yk), ((yv', yi'), yk')) sts sd = foldT (supP U c i (false, ((false, ti), tk), ((tv', ti'), tk')) dd j (sn, ((sv, si), sk), ((sv', si'), sk')) sb) sts Z Z.length) := by
                    rw [Hid, Hsv.out, foldT, List.take_length, HZ.out]
                  clear hP hbP Hpc Hsv
                  go_wp2_with fail
                  go_loopw [66] (fun q wr => ∃ (t : Nat) (v3 : Value) (xs3 : List Value), t ≤ Z.length ∧ q = .int .i64 t ∧ LK w.heap.size w.heap.size wP v2 (foldT (supP U c i (false, ((false, ti), tk), ((tv', ti'), tk')) dd j (sn, ((sv, si), sk), ((sv', si'), sk')) sb) sts Z t) v3 xs3 wr) (fun q _ => Z.length - (intOf q).toNat)
                  case atStart => exact ⟨0, v2, xs2, Nat.zero_le _, rfl, LK.start HLP.out⟩
                  case round =>
                    obtain ⟨t, v3, xs3, ht, rfl, hK3⟩ := hrel
                    have HK3 := hide hK3
                    have Hln5 : Hid ((foldT (supP U c i (false, ((false, ti), tk), ((tv', ti'), tk')) dd j (sn, ((sv, si), sk), ((sv', si'), sk')) sb) sts Z t).1.length ≤ 1400) := by
                      have h1 := foldT_len (supP_len U c i (false, ((false, ti), tk), ((tv', ti'), tk')) dd j (sn, ((sv, si), sk), ((sv', si'), sk')) sb) (Z.take t) sts
                      have h2 := Hln4.out
                      have h3 := HZ12.out
                      have h4 : (Z.take t).length ≤ Z.length := by rw [List.length_take]; omega
                      unfold Hid foldT
                      omega
                    have hkP := HK3.out.kpt HLP.out
                    have hkA := hkP
                    clear hK3
                    by_cases htl : t < Z.length
                    · have htl' : (t : Int) < (Z.length : Int) := by omega
                      obtain ⟨pl, hpl⟩ : ∃ q, Z[t]? = some q := ⟨Z[t]'htl, by simp⟩
                      have Hpl := hide hpl
                      obtain ⟨zat, hzat, hzv⟩ := place_sym (x := (sv, si)) (k := sk) (p := pl) (by rw [← HZ.out]; exact List.mem_of_getElem? hpl)
                      have Hzat := hide hzat
                      obtain ⟨z1', z3', gp, hpe, hpad, hplc, hpcm, hpF⟩ := HK3.out.places HLb.out HP.out
                      simp only [Value.slice.injEq, true_and] at hpe
                      obtain ⟨rfl, rfl⟩ := hpe
                      obtain ⟨py, c0, hrow⟩ := hpF t pl hpl
                      have hz1 : z1 = some ⟨gp, 0, none⟩ := (hpad (by omega)).1
                      subst hz1
                      have HNp := hide (own_nin hrow)
                      obtain ⟨y1, y3, rfl⟩ := nin_slice HNp.out
                      unfold maxLen at hpcm
                      have Hst5 := hide (foldT_succ (f := supP U c i (false, ((false, ti), tk), ((tv', ti'), tk')) dd j (sn, ((sv, si), sk), ((sv', si'), sk')) sb) (s := sts) hpl)
                      have HkP := hide hkP
                      have k0 := kpt_lit hkP f0 f1 0 f0
                      have k1 := kpt_lit hkP f0 f1 1 f1
                      have k2 := kpt_lit hkP f0 f1 2 f2
                      have k3 := kpt_lit hkP f0 f1 3 f3
                      have k4 := kpt_lit hkP f0 f1 4 f4
                      have k5 := kpt_lit hkP f0 f1 5 f5
                      have k6 := kpt_lit hkP f0 f1 6 f6
                      have hkaP := HK2.out.kpt HLa.out
                      have HkaP := hide hkaP
                      have a0 := kpt_lit (hkaP.trans hkP) g0 g1 0 g0
                      have a1 := kpt_lit (hkaP.trans hkP) g0 g1 1 g1
                      have a2 := kpt_lit (hkaP.trans hkP) g0 g1 2 g2
                      have a3 := kpt_lit (hkaP.trans hkP) g0 g1 3 g3
                      have a4 := kpt_lit (hkaP.trans hkP) g0 g1 4 g4
                      have a5 := kpt_lit (hkaP.trans hkP) g0 g1 5 g5
                      have a6 := kpt_lit (hkaP.trans hkP) g0 g1 6 g6
                      have HSAr := hide (hkP.sin HSA.out)
                      have HSDr := hide (hkP.sin HSD.out)
                      have HTAr := hide ((hkaP.trans hkP).sin HTA.out)
                      have HTDr := hide ((hkaP.trans hkP).sin HTD.out)
                      generalize hsp : foldT (supP U c i (false, ((false, ti), tk), ((tv', ti'), tk')) dd j (sn, ((sv, si), sk), ((sv', si'), sk')) sb) sts Z t = stt at *
                      obtain ⟨⟨zv, zi⟩, zk⟩ := zat
                      have Hap := hide (at_place Hzat.out HSAr.out HNp.out)
                      simp only at Hap
                      clear hpl hzat hzv hpF hpad hrow hkaP hkP hkA hsp
                      go_wp2_with fail
                      refine Hap.out.mono ?_
                      rintro e w5 ⟨b1, b3, rfl, hSz, hb5⟩
                      go_upto_region 22 with fail
                      generalize hwz : w5.alloc (.cells #[.bool zv, .int .i64 zi, .slice b1 (Fo.len zk) b3] 40) = wz
                      have hbz : Below w5.heap.size w5 wz := by rw [← hwz]; exact below_alloc _ _
                      have r0 : wz.cell? ⟨w5.heap.size, 0, none⟩ = some (.bool zv) := by rw [← hwz]; exact new_cell rfl
                      have r1 : wz.cell? ⟨w5.heap.size, 1, none⟩ = some (.int .i64 zi) := by rw [← hwz]; exact new_cell rfl
                      have r2 : wz.cell? ⟨w5.heap.size, 2, none⟩ = some (.slice b1 (Fo.len zk) b3) := by rw [← hwz]; exact new_cell rfl
                      have hb6 := below_step hb5 hbz
                      replace a0 := grow_cell hb6 _ _ a0
                      replace a1 := grow_cell hb6 _ _ a1
                      replace a2 := grow_cell hb6 _ _ a2
                      replace a3 := grow_cell hb6 _ _ a3
                      replace a4 := grow_cell hb6 _ _ a4
                      replace a5 := grow_cell hb6 _ _ a5
                      replace a6 := grow_cell hb6 _ _ a6
                      replace k0 := grow_cell hb6 _ _ k0
                      replace k1 := grow_cell hb6 _ _ k1
                      replace k2 := grow_cell hb6 _ _ k2
                      replace k3 := grow_cell hb6 _ _ k3
                      replace k4 := grow_cell hb6 _ _ k4
                      replace k5 := grow_cell hb6 _ _ k5
                      replace k6 := grow_cell hb6 _ _ k6
                      replace HK3 := hide (HK3.out.below hb6)
                      replace HSAr := hide (HSAr.out.below hb6)
                      replace HSDr := hide (HSDr.out.below hb6)
                      replace HTAr := hide (HTAr.out.below hb6)
                      replace HTDr := hide (HTDr.out.below hb6)
                      replace HNp := hide (HNp.out.below hb6)
                      have HSz := hide (hSz.below hbz)
                      replace HkP := hide (HkP.out.trans (kpt_below hb6))
                      clear hwz hSz hb5 hbz hb6 Hap c0
                      generalize w5.heap.size = gz at *
                      have Hgz := hide (Hg2.out.1.at Hzat.out)
                      have Hui := hide (Hg1.out.1.ui Hgz.out)
                      obtain ⟨n, hn⟩ := HU.out _ _ Hui.out
                      have Hn := hide hn
                      obtain ⟨R, hR⟩ : ∃ R, U ((false, ti), tk) ((zv, zi), zk) = R := ⟨_, rfl⟩
                      rw [hR] at Hn
                      have HR := hide hR
                      have Hun := hide (unifyR_any (false, ti) tk (.slice ta1 (Fo.len tk) ta3) (zv, zi) zk (.slice b1 (Fo.len zk) b3) wz n R Hn.out Hui.out HTAr.out HSz.out)
                      simp only at Hun
                      clear hn hR
                      go_wp2_with fail
                      refine Hun.out.mono ?_
                      rintro e wk ⟨hb7, y1', m, y3', ok, rfl, hno, hyes⟩
                      replace a0 := grow_cell hb7 _ _ a0
                      replace a1 := grow_cell hb7 _ _ a1
                      replace a2 := grow_cell hb7 _ _ a2
                      replace a3 := grow_cell hb7 _ _ a3
                      replace a4 := grow_cell hb7 _ _ a4
                      replace a5 := grow_cell hb7 _ _ a5
                      replace a6 := grow_cell hb7 _ _ a6
                      replace k0 := grow_cell hb7 _ _ k0
                      replace k1 := grow_cell hb7 _ _ k1
                      replace k2 := grow_cell hb7 _ _ k2
                      replace k3 := grow_cell hb7 _ _ k3
                      replace k4 := grow_cell hb7 _ _ k4
                      replace k5 := grow_cell hb7 _ _ k5
                      replace k6 := grow_cell hb7 _ _ k6
                      replace HK3 := hide (HK3.out.below hb7)
                      replace HSAr := hide (HSAr.out.below hb7)
                      replace HSDr := hide (HSDr.out.below hb7)
                      replace HTAr := hide (HTAr.out.below hb7)
                      replace HTDr := hide (HTDr.out.below hb7)
                      replace HNp := hide (HNp.out.below hb7)
                      replace HkP := hide (HkP.out.trans (kpt_below hb7))
                      clear hb7 Hun r0 r1 r2
                      cases ok
                      · have Hend : Hid (LK w.heap.size w.heap.size wP v2 (foldT (supP U c i (false, ((false, ti), tk), ((tv', ti'), tk')) dd j (sn, ((sv, si), sk), ((sv', si'), sk')) sb) sts Z (t + 1)) v3 xs3 wk) := by
                          rw [Hid, Hst5.out, supP_none (b := (sn, ((sv, si), sk), ((sv', si'), sk'))) Hzat.out (HR.out.trans (hno rfl).1)]; exact HK3.out
                        clear hno hyes
                        go_upto_region 23 with fail
                        go_quiet (fail)
                        go_wp2_with fail
                        go_roundw
                        case rel => exact ⟨t + 1, v3, xs3, by omega, by go_num, Hend.out.below (below_drewN (Below.refl _ _) _)⟩
                        case measure => simp [intOf]; omega
                      · obtain ⟨sb', rfl, rfl, hSub⟩ := hyes rfl
                        have HV := hide hSub
                        have Hgs := hide (unify_ok Hui.out Hn.out).1
                        have Hsp := hide (supP_some (U := U) (c := c) (i := i) (a := (false, ((false, ti), tk), ((tv', ti'), tk'))) (d := dd) (j := j) (b := (sn, ((sv, si), sk), ((sv', si'), sk'))) (side := sb) (st := stt) Hzat.out HR.out)
                        clear hno hyes hSub
                        have Hsz2 : Hid (∀ q : Tm, G12 q → Gd (subT (bnd sb') q) ∧ tszR (subT (bnd sb') q).2 ≤ 4000000000000) := fun q hq => by
                          refine ⟨gd_sub Hgs.out hq.gd, ?_⟩
                          have h1 := sub_le (f := bnd sb') (M := 61917364224) (by omega) hq.gd.ok (fun m _ => mgu_size Hui.out Hn.out Hg1.out.1.sz Hgz.out.sz m)
                          have h2 := Nat.mul_le_mul_right 61917364224 hq.sz
                          simp only [szT] at h1 h2
                          omega
                        have Hp1 := hide (fun (w' : World) (hb : Below wk.heap.size wk w') => apply_good (x := (tv', ti')) (k := tk') (a := (.slice td1 (Fo.len tk') td3)) (HV.out.below hb) Hgs.out (HTDr.out.below hb) Hg1.out.2.gd)
                        have Hp2 := hide (fun (w' : World) (hb : Below wk.heap.size wk w') => apply_good (x := (false, ti)) (k := tk) (a := (.slice ta1 (Fo.len tk) ta3)) (HV.out.below hb) Hgs.out (HTAr.out.below hb) Hg1.out.1.gd)
                        have Hp3 := hide (fun (w' : World) (hb : Below wk.heap.size wk w') => apply_good (x := (sv', si')) (k := sk') (a := (.slice sd1 (Fo.len sk') sd3)) (HV.out.below hb) Hgs.out (HSDr.out.below hb) Hg2.out.2.gd)
                        have Hp4 := hide (fun (w' : World) (hb : Below wk.heap.size wk w') => apply_good (x := (sv, si)) (k := sk) (a := (.slice sa1 (Fo.len sk) sa3)) (HV.out.below hb) Hgs.out (HSAr.out.below hb) Hg2.out.1.gd)
                        have Hz1 := hide (And.intro (Hsz2.out _ Hg1.out.2).2 (And.intro (Hsz2.out _ Hg1.out.1).2 (And.intro (Hsz2.out _ Hg2.out.2).2 (Hsz2.out _ Hg2.out.1).2)))
                        simp only at Hp1 Hp2 Hp3 Hp4 Hsp
                        generalize hqa : subT (bnd sb') ((tv', ti'), tk') = qa at Hp1 Hp2 Hp3 Hp4 Hz1 Hsp
                        obtain ⟨⟨qav, qai⟩, qak⟩ := qa
                        clear hqa
                        generalize hqb : subT (bnd sb') ((false, ti), tk) = qb at Hp1 Hp2 Hp3 Hp4 Hz1 Hsp
                        obtain ⟨⟨qbv, qbi⟩, qbk⟩ := qb
                        clear hqb
                        generalize hqc : subT (bnd sb') ((sv', si'), sk') = qc at Hp1 Hp2 Hp3 Hp4 Hz1 Hsp
                        obtain ⟨⟨qcv, qci⟩, qck⟩ := qc
                        clear hqc
                        generalize hqd : subT (bnd sb') ((sv, si), sk) = qd at Hp1 Hp2 Hp3 Hp4 Hz1 Hsp
                        obtain ⟨⟨qdv, qdi⟩, qdk⟩ := qd
                        clear hqd
                        simp only at Hp1 Hp2 Hp3 Hp4 Hz1
                        obtain ⟨A1, hA1⟩ : ∃ b, abvT ((qav, qai), qak) ((qbv, qbi), qbk) = b := ⟨_, rfl⟩
                        obtain ⟨A2, hA2⟩ : ∃ b, abvT ((qcv, qci), qck) ((qdv, qdi), qdk) = b := ⟨_, rfl⟩
                        rw [hA1, hA2] at Hsp
                        have Hb1 := hide (fun (w' : World) (u1 u2 : Value) h1 h2 => aboveR_any (qav, qai) qak (qbv, qbi) qbk u1 u2 w' h1 h2 Hz1.out.1 Hz1.out.2.1)
                        have Hb2 := hide (fun (w' : World) (u1 u2 : Value) h1 h2 => aboveR_any (qcv, qci) qck (qdv, qdi) qdk u1 u2 w' h1 h2 Hz1.out.2.2.1 Hz1.out.2.2.2)
                        rw [hA1] at Hb1
                        rw [hA2] at Hb2
                        simp only at Hb1 Hb2
                        clear hA1 hA2 Hsz2
                        go_upto_region 23 with fail
                        cases A1
                        case' true =>
                          refine region_inv (fun D a w' => ∃ s84 s85 s86 s87 s88 s89 s90 s91 s92 s93 s94 s95 s96 s97 s98 s99 s100 s101 s102 s103 s104 s105 s106 s107 : Value, a = ⟨#[Value.slice (some { block := cb, off := co }) (List.length c) c3, Value.slice (some { block := eb, off := eo }) (List.length d) e3, undef, undef, Value.slice none 0 0, Value.bool false, Value.pointer (some { block := w.heap.size, off := 0 }), Value.int IntKind.i64 ↑i, Value.int IntKind.i64 ↑k, Value.pointer (some { block := ga, off := 0 }), Value.int IntKind.i64 ↑j, Value.int IntKind.i64 ↑sd, Value.pointer (some { block := gb, off := 0 }), undef, Value.slice y1 pl.length y3, Value.pointer (some { block := gz, off := 0 }), Value.bool true, Value.slice y1' (List.length sb') y3', Value.bool true, u19, u20, Value.agg #[Value.slice none 0 0, Value.bool false], Value.pointer (some { block := w.heap.size, off := 0 }), Value.slice d1 (List.length d) d3, Value.slice (some { block := eb, off := eo }) (List.length d) e3, Value.slice (some { block := cb, off := co }) (List.length c) c3, Value.int IntKind.i64 ↑(List.length c), Value.int IntKind.i64 ↑i, Value.bool true, Value.int IntKind.i64 ↑i, Value.int IntKind.i64 ↑k, Value.bool true, Value.int IntKind.i64 ↑k, Value.slice (some { block := cb, off := co }) (List.length c) c3, Value.int IntKind.i64 ↑i, Value.pointer (some { block := cb, off := co + i * 7 }), Value.agg #[Value.bool xn, Value.bool xv, Value.int IntKind.i64 xi, Value.slice xa xk.len xc, Value.bool xv', Value.int IntKind.i64 xi', Value.slice xd xk'.len xe], Value.int IntKind.i64 ↑k, Value.bool kb, litA (false, ((false, ti), tk), (tv', ti'), tk') (Value.slice ta1 tk.len ta3) (Value.slice td1 tk'.len td3), Value.pointer (some { block := ga, off := 0 }), Value.bool false, Value.bool false, Value.pointer (some { block := ga, off := 1 }), Value.pointer (some { block := ga, off := 1 }), Value.bool false, Value.bool false, Value.slice (some { block := eb, off := eo }) (List.length d) e3, Value.int IntKind.i64 ↑(List.length d), Value.int IntKind.i64 ↑j, Value.bool true, Value.int IntKind.i64 ↑j, Value.int IntKind.i64 ↑sd, Value.bool true, Value.int IntKind.i64 ↑sd, Value.slice (some { block := eb, off := eo }) (List.length d) e3, Value.int IntKind.i64 ↑j, Value.pointer (some { block := eb, off := eo + j * 7 }), Value.agg #[Value.bool yn, Value.bool yv, Value.int IntKind.i64 yi, Value.slice ya yk.len yc, Value.bool yv', Value.int IntKind.i64 yi', Value.slice yd yk'.len ye], Value.int IntKind.i64 ↑sd, Value.bool sb, litA (sn, ((sv, si), sk), (sv', si'), sk') (Value.slice sa1 sk.len sa3) (Value.slice sd1 sk'.len sd3), Value.pointer (some { block := gb, off := 1 }), Value.agg #[Value.bool sv, Value.int IntKind.i64 si, Value.slice sa1 sk.len sa3], Value.slice (some { block := gp, off := 0 }) Z.length z3, Value.int IntKind.i64 ↑Z.length, Value.int IntKind.i64 ↑t, Value.bool true, Value.pointer (some { block := gp, off := t }), Value.slice y1 pl.length y3, Value.tuple #[Value.agg #[Value.bool zv, Value.int IntKind.i64 zi, Value.slice b1 zk.len b3], Value.bool true], Value.pointer (some { block := gb, off := 1 }), Value.agg #[Value.bool sv, Value.int IntKind.i64 si, Value.slice sa1 sk.len sa3], Value.slice y1 pl.length y3, Value.tuple #[Value.agg #[Value.bool zv, Value.int IntKind.i64 zi, Value.slice b1 zk.len b3], Value.bool true], Value.agg #[Value.bool zv, Value.int IntKind.i64 zi, Value.slice b1 zk.len b3], Value.bool true, Value.tuple #[Value.slice y1' (List.length sb') y3', Value.bool true], Value.pointer (some { block := ga, off := 1 }), Value.agg #[Value.bool false, Value.int IntKind.i64 ti, Value.slice ta1 tk.len ta3], Value.agg #[Value.bool zv, Value.int IntKind.i64 zi, Value.slice b1 zk.len b3], Value.tuple #[Value.slice y1' (List.length sb') y3', Value.bool true], Value.slice y1' (List.length sb') y3', Value.bool true, s84, s85, s86, s87, s88, s89, s90, s91, s92, s93, s94, s95, s96, s97, s98, s99, s100, s101, s102, s103, s104, s105, s106, s107, u108, u109, u110, u111, u112, u113, u114, u115, u116, u117, u118, u119, u120, u121, u122, u123, u124, u125, u126, u127, u128, u129, u130, u131, u132, u133, u134, u135, u136, u137, u138, undef, undef, undef, undef, undef, undef, undef, undef], []⟩ ∧ RS1 wk (.slice y1' sb'.length y3') ga gb (.agg #[.bool tv', .int .i64 ti', (.slice td1 (Fo.len tk') td3)]) (.agg #[.bool false, .int .i64 ti, (.slice ta1 (Fo.len tk) ta3)]) (.agg #[.bool sv', .int .i64 si', (.slice sd1 (Fo.len sk') sd3)]) (.agg #[.bool sv, .int .i64 si, (.slice sa1 (Fo.len sk) sa3)]) ((qav, qai), qak) ((qbv, qbi), qbk) ((qcv, qci), qck) ((qdv, qdi), qdk) A2 D w' s84 s85 s86 s87 s88 s89 s90 s91 s92 s93 s94 s95 s96 s97 s98 s99 s100 s101 s102 s103 s104 s105 s106 s107) (by kernel_rfl) (by kernel_rfl) ?_ ?_ ⟨_, _, _, _, _, _, _, _, _, _, _, _, _, _, _, _, _, _, _, _, _, _, _, _, rfl, RS1.start (Below.refl _ _).drew⟩
                          · rintro D a w' i o hi ⟨s84, s85, s86, s87, s88, s89, s90, s91, s92, s93, s94, s95, s96, s97, s98, s99, s100, s101, s102, s103, s104, s105, s106, s107, rfl, hI⟩ hD ho hdep
                            have HI := hide hI
                            replace a1 := grow_cell hI.hb _ _ a1
                            replace a2 := grow_cell hI.hb _ _ a2
                            replace a3 := grow_cell hI.hb _ _ a3
                            replace a4 := grow_cell hI.hb _ _ a4
                            replace a5 := grow_cell hI.hb _ _ a5
                            replace a6 := grow_cell hI.hb _ _ a6
                            replace k1 := grow_cell hI.hb _ _ k1
                            replace k2 := grow_cell hI.hb _ _ k2
                            replace k3 := grow_cell hI.hb _ _ k3
                            replace k4 := grow_cell hI.hb _ _ k4
                            replace k5 := grow_cell hI.hb _ _ k5
                            replace k6 := grow_cell hI.hb _ _ k6
                            clear hI
                            have hi' : i < 24 := hi
                            clear hi
                            rcases (by omega : i = 0 ∨ i = 1 ∨ i = 2 ∨ i = 3 ∨ i = 4 ∨ i = 5 ∨ i = 6 ∨ i = 7 ∨ i = 8 ∨ i = 9 ∨ i = 10 ∨ i = 11 ∨ i = 12 ∨ i = 13 ∨ i = 14 ∨ i = 15 ∨ i = 16 ∨ i = 17 ∨ i = 18 ∨ i = 19 ∨ i = 20 ∨ i = 21 ∨ i = 22 ∨ i = 23) with rfl | rfl | rfl | rfl | rfl | rfl | rfl | rfl | rfl | rfl | rfl | rfl | rfl | rfl | rfl | rfl | rfl | rfl | rfl | rfl | rfl | rfl | rfl | rfl
                            · obtain rfl := Option.some.inj ho
                              clear ho hdep hD
                              refine wpOp_step rfl (fun K hK => ?_)
                              go_simp
                              exact hK _ _ ⟨_, _, _, _, _, _, _, _, _, _, _, _, _, _, _, _, _, _, _, _, _, _, _, _, rfl, HI.out.at0⟩
                            · obtain rfl := Option.some.inj ho
                              have d0 := HI.out.h0 (hdep ⟨0, .data⟩ (by simp) rfl)
                              subst d0
                              clear ho hdep hD
                              refine wpOp_step rfl (fun K hK => ?_)
                              go_simp
                              exact hK _ _ ⟨_, _, _, _, _, _, _, _, _, _, _, _, _, _, _, _, _, _, _, _, _, _, _, _, rfl, HI.out.at1⟩
                            · obtain rfl := Option.some.inj ho
                              have d1 := HI.out.h1 (hdep ⟨1, .data⟩ (by simp) rfl)
                              subst d1
                              clear ho hdep hD
                              refine wpOp_step rfl (fun K hK => ?_)
                              go_simp
                              exact hK _ _ ⟨_, _, _, _, _, _, _, _, _, _, _, _, _, _, _, _, _, _, _, _, _, _, _, _, rfl, HI.out.at2⟩
                            · obtain rfl := Option.some.inj ho
                              have d2 := HI.out.h2 (hdep ⟨2, .guard⟩ (by simp) rfl)
                              subst d2
                              clear ho hdep hD
                              refine wpOp_step rfl (fun K hK => ?_)
                              go_simp
                              exact hK _ _ ⟨_, _, _, _, _, _, _, _, _, _, _, _, _, _, _, _, _, _, _, _, _, _, _, _, rfl, HI.out.at3⟩
                            · obtain rfl := Option.some.inj ho
                              have d2 := HI.out.h2 (hdep ⟨2, .guard⟩ (by simp) rfl)
                              subst d2
                              clear ho hdep hD
                              refine wpOp_step rfl (fun K hK => ?_)
                              go_simp
                              exact hK _ _ ⟨_, _, _, _, _, _, _, _, _, _, _, _, _, _, _, _, _, _, _, _, _, _, _, _, rfl, HI.out.at4⟩
                            · obtain rfl := Option.some.inj ho
                              have d4 := HI.out.h4 (hdep ⟨4, .data⟩ (by simp) rfl)
                              subst d4
                              have d2 := HI.out.h2 (hdep ⟨2, .guard⟩ (by simp) rfl)
                              subst d2
                              clear ho hdep hD
                              refine wpOp_step rfl (fun K hK => ?_)
                              go_simp
                              exact hK _ _ ⟨_, _, _, _, _, _, _, _, _, _, _, _, _, _, _, _, _, _, _, _, _, _, _, _, rfl, HI.out.at5⟩
                            · obtain rfl := Option.some.inj ho
                              have d3 := HI.out.h3 (hdep ⟨3, .data⟩ (by simp) rfl)
                              subst d3
                              have d5 := HI.out.h5 (hdep ⟨5, .data⟩ (by simp) rfl)
                              subst d5
                              have d2 := HI.out.h2 (hdep ⟨2, .guard⟩ (by simp) rfl)
                              subst d2
                              clear ho hdep hD
                              refine wpOp_step rfl (fun K hK => ?_)
                              go_simp
                              refine (Hp1.out _ HI.out.hb).mono ?_
                              rintro e w2 ⟨z1, z3, rfl, hS, hb2⟩
                              exact hK _ _ ⟨_, _, _, _, _, _, _, _, _, _, _, _, _, _, _, _, _, _, _, _, _, _, _, _, rfl, (HI.out.step hb2).at6 hS⟩
                            · obtain rfl := Option.some.inj ho
                              have d2 := HI.out.h2 (hdep ⟨2, .guard⟩ (by simp) rfl)
                              subst d2
                              clear ho hdep hD
                              refine wpOp_step rfl (fun K hK => ?_)
                              go_simp
                              exact hK _ _ ⟨_, _, _, _, _, _, _, _, _, _, _, _, _, _, _, _, _, _, _, _, _, _, _, _, rfl, HI.out.at7⟩
                            · obtain rfl := Option.some.inj ho
                              have d2 := HI.out.h2 (hdep ⟨2, .guard⟩ (by simp) rfl)
                              subst d2
                              clear ho hdep hD
                              refine wpOp_step rfl (fun K hK => ?_)
                              go_simp
                              exact hK _ _ ⟨_, _, _, _, _, _, _, _, _, _, _, _, _, _, _, _, _, _, _, _, _, _, _, _, rfl, HI.out.at8⟩
                            · obtain rfl := Option.some.inj ho
                              have d8 := HI.out.h8 (hdep ⟨8, .data⟩ (by simp) rfl)
                              subst d8
                              have d2 := HI.out.h2 (hdep ⟨2, .guard⟩ (by simp) rfl)
                              subst d2
                              clear ho hdep hD
                              refine wpOp_step rfl (fun K hK => ?_)
                              go_simp
                              exact hK _ _ ⟨_, _, _, _, _, _, _, _, _, _, _, _, _, _, _, _, _, _, _, _, _, _, _, _, rfl, HI.out.at9⟩
                            · obtain rfl := Option.some.inj ho
                              have d7 := HI.out.h7 (hdep ⟨7, .data⟩ (by simp) rfl)
                              subst d7
                              have d9 := HI.out.h9 (hdep ⟨9, .data⟩ (by simp) rfl)
                              subst d9
                              have d2 := HI.out.h2 (hdep ⟨2, .guard⟩ (by simp) rfl)
                              subst d2
                              clear ho hdep hD
                              refine wpOp_step rfl (fun K hK => ?_)
                              go_simp
                              refine (Hp2.out _ HI.out.hb).mono ?_
                              rintro e w2 ⟨z1, z3, rfl, hS, hb2⟩
                              exact hK _ _ ⟨_, _, _, _, _, _, _, _, _, _, _, _, _, _, _, _, _, _, _, _, _, _, _, _, rfl, (HI.out.step hb2).at10 hS⟩
                            · obtain rfl := Option.some.inj ho
                              have d2 := HI.out.h2 (hdep ⟨2, .guard⟩ (by simp) rfl)
                              subst d2
                              obtain ⟨y1a, y3a, rfl, hSa⟩ := HI.out.h6 (hdep ⟨6, .data⟩ (by simp) rfl)
                              obtain ⟨y1b, y3b, rfl, hSb⟩ := HI.out.h10 (hdep ⟨10, .data⟩ (by simp) rfl)
                              have HSa := hide hSa
                              have HSb := hide hSb
                              clear hSa hSb
                              clear ho hdep hD
                              refine wpOp_step rfl (fun K hK => ?_)
                              go_simp
                              refine (Hb1.out _ _ _ HSa.out HSb.out).mono ?_
                              rintro e w2 ⟨rfl, hb2⟩
                              exact hK _ _ ⟨_, _, _, _, _, _, _, _, _, _, _, _, _, _, _, _, _, _, _, _, _, _, _, _, rfl, (HI.out.step hb2).at11⟩
                            · obtain rfl := Option.some.inj ho
                              have d2 := HI.out.h2 (hdep ⟨2, .data⟩ (by simp) rfl)
                              subst d2
                              have d11 := HI.out.h11 (hdep ⟨11, .data⟩ (by simp) rfl)
                              subst d11
                              clear ho hdep hD
                              refine wpOp_step rfl (fun K hK => ?_)
                              go_simp
                              exact hK _ _ ⟨_, _, _, _, _, _, _, _, _, _, _, _, _, _, _, _, _, _, _, _, _, _, _, _, rfl, HI.out.at12⟩
                            · obtain rfl := Option.some.inj ho
                              have d12 := HI.out.h12 (hdep ⟨12, .data⟩ (by simp) rfl)
                              subst d12
                              clear ho hdep hD
                              refine wpOp_step rfl (fun K hK => ?_)
                              go_simp
                              exact hK _ _ ⟨_, _, _, _, _, _, _, _, _, _, _, _, _, _, _, _, _, _, _, _, _, _, _, _, rfl, HI.out.at13⟩
                            · obtain rfl := Option.some.inj ho
                              have d13 := HI.out.h13 (hdep ⟨13, .guard⟩ (by simp) rfl)
                              subst d13
                              clear ho hdep hD
                              refine wpOp_step rfl (fun K hK => ?_)
                              go_simp
                              exact hK _ _ ⟨_, _, _, _, _, _, _, _, _, _, _, _, _, _, _, _, _, _, _, _, _, _, _, _, rfl, HI.out.at14⟩
                            · obtain rfl := Option.some.inj ho
                              have d13 := HI.out.h13 (hdep ⟨13, .guard⟩ (by simp) rfl)
                              subst d13
                              clear ho hdep hD
                              refine wpOp_step rfl (fun K hK => ?_)
                              go_simp
                              exact hK _ _ ⟨_, _, _, _, _, _, _, _, _, _, _, _, _, _, _, _, _, _, _, _, _, _, _, _, rfl, HI.out.at15⟩
                            · obtain rfl := Option.some.inj ho
                              have d13 := HI.out.h13 (hdep ⟨13, .guard⟩ (by simp) rfl)
                              subst d13
                              clear ho hdep hD
                              refine wpOp_step rfl (fun K hK => ?_)
                              go_simp
                              exact hK _ _ ⟨_, _, _, _, _, _, _, _, _, _, _, _, _, _, _, _, _, _, _, _, _, _, _, _, rfl, HI.out.at16⟩
                            · obtain rfl := Option.some.inj ho
                              have d13 := HI.out.h13 (hdep ⟨13, .guard⟩ (by simp) rfl)
                              subst d13
                              clear ho hdep hD
                              refine wpOp_step rfl (fun K hK => ?_)
                              go_simp
                              exact hK _ _ ⟨_, _, _, _, _, _, _, _, _, _, _, _, _, _, _, _, _, _, _, _, _, _, _, _, rfl, HI.out.at17⟩
                            · obtain rfl := Option.some.inj ho
                              have d13 := HI.out.h13 (hdep ⟨13, .guard⟩ (by simp) rfl)
                              subst d13
                              clear ho hdep hD
                              refine wpOp_step rfl (fun K hK => ?_)
                              go_simp
                              exact hK _ _ ⟨_, _, _, _, _, _, _, _, _, _, _, _, _, _, _, _, _, _, _, _, _, _, _, _, rfl, HI.out.at18⟩
                            · obtain rfl := Option.some.inj ho
                              have d13 := HI.out.h13 (hdep ⟨13, .guard⟩ (by simp) rfl)
                              subst d13
                              clear ho hdep hD
                              refine wpOp_step rfl (fun K hK => ?_)
                              go_simp
                              exact hK _ _ ⟨_, _, _, _, _, _, _, _, _, _, _, _, _, _, _, _, _, _, _, _, _, _, _, _, rfl, HI.out.at19⟩
                            · obtain rfl := Option.some.inj ho
                              have d13 := HI.out.h13 (hdep ⟨13, .guard⟩ (by simp) rfl)
                              subst d13
                              clear ho hdep hD
                              refine wpOp_step rfl (fun K hK => ?_)
                              go_simp
                              exact hK _ _ ⟨_, _, _, _, _, _, _, _, _, _, _, _, _, _, _, _, _, _, _, _, _, _, _, _, rfl, HI.out.at20⟩
                            · obtain rfl := Option.some.inj ho
                              have d13 := HI.out.h13 (hdep ⟨13, .guard⟩ (by simp) rfl)
                              subst d13
                              clear ho hdep hD
                              refine wpOp_step rfl (fun K hK => ?_)
                              go_simp
                              exact hK _ _ ⟨_, _, _, _, _, _, _, _, _, _, _, _, _, _, _, _, _, _, _, _, _, _, _, _, rfl, HI.out.at21⟩
                            · obtain rfl := Option.some.inj ho
                              have d13 := HI.out.h13 (hdep ⟨13, .guard⟩ (by simp) rfl)
                              subst d13
                              clear ho hdep hD
                              refine wpOp_step rfl (fun K hK => ?_)
                              go_simp
                              exact hK _ _ ⟨_, _, _, _, _, _, _, _, _, _, _, _, _, _, _, _, _, _, _, _, _, _, _, _, rfl, HI.out.at22⟩
                            · obtain rfl := Option.some.inj ho
                              have d13 := HI.out.h13 (hdep ⟨13, .data⟩ (by simp) rfl)
                              subst d13
                              clear ho hdep hD
                              refine wpOp_step rfl (fun K hK => ?_)
                              go_simp
                              exact hK _ _ ⟨_, _, _, _, _, _, _, _, _, _, _, _, _, _, _, _, _, _, _, _, _, _, _, _, rfl, HI.out.at23⟩
                          · rintro D a w' ⟨s84, s85, s86, s87, s88, s89, s90, s91, s92, s93, s94, s95, s96, s97, s98, s99, s100, s101, s102, s103, s104, s105, s106, s107, rfl, hI⟩ hall
                            have h23 := hI.h23 (hall 23 (by decide))
                            subst h23
                            have Hb := hide hI.hb
                            clear hI hall
                            have Hend : Hid (LK w.heap.size w.heap.size wP v2 (foldT (supP U c i (false, ((false, ti), tk), ((tv', ti'), tk')) dd j (sn, ((sv, si), sk), ((sv', si'), sk')) sb) sts Z (t + 1)) v3 xs3 w') := by
                              rw [Hid, Hst5.out, Hsp.out, if_pos (by simp)]; exact HK3.out.below Hb.out
                            clear Hsp
                            go_wp2_with fail
                            go_roundw
                            case rel => exact ⟨t + 1, v3, xs3, by omega, by go_num, Hend.out⟩
                            case measure => simp [intOf]; omega
                        refine region_inv (fun D a w' => ∃ s84 s85 s86 s87 s88 s89 s90 s91 s92 s93 s94 s95 s96 s97 s98 s99 s100 s101 s102 s103 s104 s105 s106 s107 : Value, a = ⟨#[Value.slice (some { block := cb, off := co }) (List.length c) c3, Value.slice (some { block := eb, off := eo }) (List.length d) e3, undef, undef, Value.slice none 0 0, Value.bool false, Value.pointer (some { block := w.heap.size, off := 0 }), Value.int IntKind.i64 ↑i, Value.int IntKind.i64 ↑k, Value.pointer (some { block := ga, off := 0 }), Value.int IntKind.i64 ↑j, Value.int IntKind.i64 ↑sd, Value.pointer (some { block := gb, off := 0 }), undef, Value.slice y1 pl.length y3, Value.pointer (some { block := gz, off := 0 }), Value.bool true, Value.slice y1' (List.length sb') y3', Value.bool true, u19, u20, Value.agg #[Value.slice none 0 0, Value.bool false], Value.pointer (some { block := w.heap.size, off := 0 }), Value.slice d1 (List.length d) d3, Value.slice (some { block := eb, off := eo }) (List.length d) e3, Value.slice (some { block := cb, off := co }) (List.length c) c3, Value.int IntKind.i64 ↑(List.length c), Value.int IntKind.i64 ↑i, Value.bool true, Value.int IntKind.i64 ↑i, Value.int IntKind.i64 ↑k, Value.bool true, Value.int IntKind.i64 ↑k, Value.slice (some { block := cb, off := co }) (List.length c) c3, Value.int IntKind.i64 ↑i, Value.pointer (some { block := cb, off := co + i * 7 }), Value.agg #[Value.bool xn, Value.bool xv, Value.int IntKind.i64 xi, Value.slice xa xk.len xc, Value.bool xv', Value.int IntKind.i64 xi', Value.slice xd xk'.len xe], Value.int IntKind.i64 ↑k, Value.bool kb, litA (false, ((false, ti), tk), (tv', ti'), tk') (Value.slice ta1 tk.len ta3) (Value.slice td1 tk'.len td3), Value.pointer (some { block := ga, off := 0 }), Value.bool false, Value.bool false, Value.pointer (some { block := ga, off := 1 }), Value.pointer (some { block := ga, off := 1 }), Value.bool false, Value.bool false, Value.slice (some { block := eb, off := eo }) (List.length d) e3, Value.int IntKind.i64 ↑(List.length d), Value.int IntKind.i64 ↑j, Value.bool true, Value.int IntKind.i64 ↑j, Value.int IntKind.i64 ↑sd, Value.bool true, Value.int IntKind.i64 ↑sd, Value.slice (some { block := eb, off := eo }) (List.length d) e3, Value.int IntKind.i64 ↑j, Value.pointer (some { block := eb, off := eo + j * 7 }), Value.agg #[Value.bool yn, Value.bool yv, Value.int IntKind.i64 yi, Value.slice ya yk.len yc, Value.bool yv', Value.int IntKind.i64 yi', Value.slice yd yk'.len ye], Value.int IntKind.i64 ↑sd, Value.bool sb, litA (sn, ((sv, si), sk), (sv', si'), sk') (Value.slice sa1 sk.len sa3) (Value.slice sd1 sk'.len sd3), Value.pointer (some { block := gb, off := 1 }), Value.agg #[Value.bool sv, Value.int IntKind.i64 si, Value.slice sa1 sk.len sa3], Value.slice (some { block := gp, off := 0 }) Z.length z3, Value.int IntKind.i64 ↑Z.length, Value.int IntKind.i64 ↑t, Value.bool true, Value.pointer (some { block := gp, off := t }), Value.slice y1 pl.length y3, Value.tuple #[Value.agg #[Value.bool zv, Value.int IntKind.i64 zi, Value.slice b1 zk.len b3], Value.bool true], Value.pointer (some { block := gb, off := 1 }), Value.agg #[Value.bool sv, Value.int IntKind.i64 si, Value.slice sa1 sk.len sa3], Value.slice y1 pl.length y3, Value.tuple #[Value.agg #[Value.bool zv, Value.int IntKind.i64 zi, Value.slice b1 zk.len b3], Value.bool true], Value.agg #[Value.bool zv, Value.int IntKind.i64 zi, Value.slice b1 zk.len b3], Value.bool true, Value.tuple #[Value.slice y1' (List.length sb') y3', Value.bool true], Value.pointer (some { block := ga, off := 1 }), Value.agg #[Value.bool false, Value.int IntKind.i64 ti, Value.slice ta1 tk.len ta3], Value.agg #[Value.bool zv, Value.int IntKind.i64 zi, Value.slice b1 zk.len b3], Value.tuple #[Value.slice y1' (List.length sb') y3', Value.bool true], Value.slice y1' (List.length sb') y3', Value.bool true, s84, s85, s86, s87, s88, s89, s90, s91, s92, s93, s94, s95, s96, s97, s98, s99, s100, s101, s102, s103, s104, s105, s106, s107, u108, u109, u110, u111, u112, u113, u114, u115, u116, u117, u118, u119, u120, u121, u122, u123, u124, u125, u126, u127, u128, u129, u130, u131, u132, u133, u134, u135, u136, u137, u138, undef, undef, undef, undef, undef, undef, undef, undef], []⟩ ∧ RS0 wk (.slice y1' sb'.length y3') ga gb (.agg #[.bool tv', .int .i64 ti', (.slice td1 (Fo.len tk') td3)]) (.agg #[.bool false, .int .i64 ti, (.slice ta1 (Fo.len tk) ta3)]) (.agg #[.bool sv', .int .i64 si', (.slice sd1 (Fo.len sk') sd3)]) (.agg #[.bool sv, .int .i64 si, (.slice sa1 (Fo.len sk) sa3)]) ((qav, qai), qak) ((qbv, qbi), qbk) ((qcv, qci), qck) ((qdv, qdi), qdk) A2 D w' s84 s85 s86 s87 s88 s89 s90 s91 s92 s93 s94 s95 s96 s97 s98 s99 s100 s101 s102 s103 s104 s105 s106 s107) (by kernel_rfl) (by kernel_rfl) ?_ ?_ ⟨_, _, _, _, _, _, _, _, _, _, _, _, _, _, _, _, _, _, _, _, _, _, _, _, rfl, RS0.start (Below.refl _ _).drew⟩
                        · rintro D a w' i o hi ⟨s84, s85, s86, s87, s88, s89, s90, s91, s92, s93, s94, s95, s96, s97, s98, s99, s100, s101, s102, s103, s104, s105, s106, s107, rfl, hI⟩ hD ho hdep
                          have HI := hide hI
                          replace a1 := grow_cell hI.hb _ _ a1
                          replace a2 := grow_cell hI.hb _ _ a2
                          replace a3 := grow_cell hI.hb _ _ a3
                          replace a4 := grow_cell hI.hb _ _ a4
                          replace a5 := grow_cell hI.hb _ _ a5
                          replace a6 := grow_cell hI.hb _ _ a6
                          replace k1 := grow_cell hI.hb _ _ k1
                          replace k2 := grow_cell hI.hb _ _ k2
                          replace k3 := grow_cell hI.hb _ _ k3
                          replace k4 := grow_cell hI.hb _ _ k4
                          replace k5 := grow_cell hI.hb _ _ k5
                          replace k6 := grow_cell hI.hb _ _ k6
                          clear hI
                          have hi' : i < 24 := hi
                          clear hi
                          rcases (by omega : i = 0 ∨ i = 1 ∨ i = 2 ∨ i = 3 ∨ i = 4 ∨ i = 5 ∨ i = 6 ∨ i = 7 ∨ i = 8 ∨ i = 9 ∨ i = 10 ∨ i = 11 ∨ i = 12 ∨ i = 13 ∨ i = 14 ∨ i = 15 ∨ i = 16 ∨ i = 17 ∨ i = 18 ∨ i = 19 ∨ i = 20 ∨ i = 21 ∨ i = 22 ∨ i = 23) with rfl | rfl | rfl | rfl | rfl | rfl | rfl | rfl | rfl | rfl | rfl | rfl | rfl | rfl | rfl | rfl | rfl | rfl | rfl | rfl | rfl | rfl | rfl | rfl
                          · obtain rfl := Option.some.inj ho
                            clear ho hdep hD
                            refine wpOp_step rfl (fun K hK => ?_)
                            go_simp
                            exact hK _ _ ⟨_, _, _, _, _, _, _, _, _, _, _, _, _, _, _, _, _, _, _, _, _, _, _, _, rfl, HI.out.at0⟩
                          · obtain rfl := Option.some.inj ho
                            have d0 := HI.out.h0 (hdep ⟨0, .data⟩ (by simp) rfl)
                            subst d0
                            clear ho hdep hD
                            refine wpOp_step rfl (fun K hK => ?_)
                            go_simp
                            exact hK _ _ ⟨_, _, _, _, _, _, _, _, _, _, _, _, _, _, _, _, _, _, _, _, _, _, _, _, rfl, HI.out.at1⟩
                          · obtain rfl := Option.some.inj ho
                            have d1 := HI.out.h1 (hdep ⟨1, .data⟩ (by simp) rfl)
                            subst d1
                            clear ho hdep hD
                            refine wpOp_step rfl (fun K hK => ?_)
                            go_simp
                            exact hK _ _ ⟨_, _, _, _, _, _, _, _, _, _, _, _, _, _, _, _, _, _, _, _, _, _, _, _, rfl, HI.out.at2⟩
                          · obtain rfl := Option.some.inj ho
                            have d2 := HI.out.h2 (hdep ⟨2, .guard⟩ (by simp) rfl)
                            subst d2
                            clear ho hdep hD
                            refine wpOp_step rfl (fun K hK => ?_)
                            go_simp
                            exact hK _ _ ⟨_, _, _, _, _, _, _, _, _, _, _, _, _, _, _, _, _, _, _, _, _, _, _, _, rfl, HI.out.at3⟩
                          · obtain rfl := Option.some.inj ho
                            have d2 := HI.out.h2 (hdep ⟨2, .guard⟩ (by simp) rfl)
                            subst d2
                            clear ho hdep hD
                            refine wpOp_step rfl (fun K hK => ?_)
                            go_simp
                            exact hK _ _ ⟨_, _, _, _, _, _, _, _, _, _, _, _, _, _, _, _, _, _, _, _, _, _, _, _, rfl, HI.out.at4⟩
                          · obtain rfl := Option.some.inj ho
                            have d4 := HI.out.h4 (hdep ⟨4, .data⟩ (by simp) rfl)
                            subst d4
                            have d2 := HI.out.h2 (hdep ⟨2, .guard⟩ (by simp) rfl)
                            subst d2
                            clear ho hdep hD
                            refine wpOp_step rfl (fun K hK => ?_)
                            go_simp
                            exact hK _ _ ⟨_, _, _, _, _, _, _, _, _, _, _, _, _, _, _, _, _, _, _, _, _, _, _, _, rfl, HI.out.at5⟩
                          · obtain rfl := Option.some.inj ho
                            have d3 := HI.out.h3 (hdep ⟨3, .data⟩ (by simp) rfl)
                            subst d3
                            have d5 := HI.out.h5 (hdep ⟨5, .data⟩ (by simp) rfl)
                            subst d5
                            have d2 := HI.out.h2 (hdep ⟨2, .guard⟩ (by simp) rfl)
                            subst d2
                            clear ho hdep hD
                            refine wpOp_step rfl (fun K hK => ?_)
                            go_simp
                            refine (Hp1.out _ HI.out.hb).mono ?_
                            rintro e w2 ⟨z1, z3, rfl, hS, hb2⟩
                            exact hK _ _ ⟨_, _, _, _, _, _, _, _, _, _, _, _, _, _, _, _, _, _, _, _, _, _, _, _, rfl, (HI.out.step hb2).at6 hS⟩
                          · obtain rfl := Option.some.inj ho
                            have d2 := HI.out.h2 (hdep ⟨2, .guard⟩ (by simp) rfl)
                            subst d2
                            clear ho hdep hD
                            refine wpOp_step rfl (fun K hK => ?_)
                            go_simp
                            exact hK _ _ ⟨_, _, _, _, _, _, _, _, _, _, _, _, _, _, _, _, _, _, _, _, _, _, _, _, rfl, HI.out.at7⟩
                          · obtain rfl := Option.some.inj ho
                            have d2 := HI.out.h2 (hdep ⟨2, .guard⟩ (by simp) rfl)
                            subst d2
                            clear ho hdep hD
                            refine wpOp_step rfl (fun K hK => ?_)
                            go_simp
                            exact hK _ _ ⟨_, _, _, _, _, _, _, _, _, _, _, _, _, _, _, _, _, _, _, _, _, _, _, _, rfl, HI.out.at8⟩
                          · obtain rfl := Option.some.inj ho
                            have d8 := HI.out.h8 (hdep ⟨8, .data⟩ (by simp) rfl)
                            subst d8
                            have d2 := HI.out.h2 (hdep ⟨2, .guard⟩ (by simp) rfl)
                            subst d2
                            clear ho hdep hD
                            refine wpOp_step rfl (fun K hK => ?_)
                            go_simp
                            exact hK _ _ ⟨_, _, _, _, _, _, _, _, _, _, _, _, _, _, _, _, _, _, _, _, _, _, _, _, rfl, HI.out.at9⟩
                          · obtain rfl := Option.some.inj ho
                            have d7 := HI.out.h7 (hdep ⟨7, .data⟩ (by simp) rfl)
                            subst d7
                            have d9 := HI.out.h9 (hdep ⟨9, .data⟩ (by simp) rfl)
                            subst d9
                            have d2 := HI.out.h2 (hdep ⟨2, .guard⟩ (by simp) rfl)
                            subst d2
                            clear ho hdep hD
                            refine wpOp_step rfl (fun K hK => ?_)
                            go_simp
                            refine (Hp2.out _ HI.out.hb).mono ?_
                            rintro e w2 ⟨z1, z3, rfl, hS, hb2⟩
                            exact hK _ _ ⟨_, _, _, _, _, _, _, _, _, _, _, _, _, _, _, _, _, _, _, _, _, _, _, _, rfl, (HI.out.step hb2).at10 hS⟩
                          · obtain rfl := Option.some.inj ho
                            have d2 := HI.out.h2 (hdep ⟨2, .guard⟩ (by simp) rfl)
                            subst d2
                            obtain ⟨y1a, y3a, rfl, hSa⟩ := HI.out.h6 (hdep ⟨6, .data⟩ (by simp) rfl)
                            obtain ⟨y1b, y3b, rfl, hSb⟩ := HI.out.h10 (hdep ⟨10, .data⟩ (by simp) rfl)
                            have HSa := hide hSa
                            have HSb := hide hSb
                            clear hSa hSb
                            clear ho hdep hD
                            refine wpOp_step rfl (fun K hK => ?_)
                            go_simp
                            refine (Hb1.out _ _ _ HSa.out HSb.out).mono ?_
                            rintro e w2 ⟨rfl, hb2⟩
                            exact hK _ _ ⟨_, _, _, _, _, _, _, _, _, _, _, _, _, _, _, _, _, _, _, _, _, _, _, _, rfl, (HI.out.step hb2).at11⟩
                          · obtain rfl := Option.some.inj ho
                            have d2 := HI.out.h2 (hdep ⟨2, .data⟩ (by simp) rfl)
                            subst d2
                            have d11 := HI.out.h11 (hdep ⟨11, .data⟩ (by simp) rfl)
                            subst d11
                            clear ho hdep hD
                            refine wpOp_step rfl (fun K hK => ?_)
                            go_simp
                            exact hK _ _ ⟨_, _, _, _, _, _, _, _, _, _, _, _, _, _, _, _, _, _, _, _, _, _, _, _, rfl, HI.out.at12⟩
                          · obtain rfl := Option.some.inj ho
                            have d12 := HI.out.h12 (hdep ⟨12, .data⟩ (by simp) rfl)
                            subst d12
                            clear ho hdep hD
                            refine wpOp_step rfl (fun K hK => ?_)
                            go_simp
                            exact hK _ _ ⟨_, _, _, _, _, _, _, _, _, _, _, _, _, _, _, _, _, _, _, _, _, _, _, _, rfl, HI.out.at13⟩
                          · obtain rfl := Option.some.inj ho
                            have d13 := HI.out.h13 (hdep ⟨13, .guard⟩ (by simp) rfl)
                            subst d13
                            clear ho hdep hD
                            refine wpOp_step rfl (fun K hK => ?_)
                            go_simp
                            exact hK _ _ ⟨_, _, _, _, _, _, _, _, _, _, _, _, _, _, _, _, _, _, _, _, _, _, _, _, rfl, HI.out.at14⟩
                          · obtain rfl := Option.some.inj ho
                            have d13 := HI.out.h13 (hdep ⟨13, .guard⟩ (by simp) rfl)
                            subst d13
                            clear ho hdep hD
                            refine wpOp_step rfl (fun K hK => ?_)
                            go_simp
                            exact hK _ _ ⟨_, _, _, _, _, _, _, _, _, _, _, _, _, _, _, _, _, _, _, _, _, _, _, _, rfl, HI.out.at15⟩
                          · obtain rfl := Option.some.inj ho
                            have d15 := HI.out.h15 (hdep ⟨15, .data⟩ (by simp) rfl)
                            subst d15
                            have d13 := HI.out.h13 (hdep ⟨13, .guard⟩ (by simp) rfl)
                            subst d13
                            clear ho hdep hD
                            refine wpOp_step rfl (fun K hK => ?_)
                            go_simp
                            exact hK _ _ ⟨_, _, _, _, _, _, _, _, _, _, _, _, _, _, _, _, _, _, _, _, _, _, _, _, rfl, HI.out.at16⟩
                          · obtain rfl := Option.some.inj ho
                            have d14 := HI.out.h14 (hdep ⟨14, .data⟩ (by simp) rfl)
                            subst d14
                            have d16 := HI.out.h16 (hdep ⟨16, .data⟩ (by simp) rfl)
                            subst d16
                            have d13 := HI.out.h13 (hdep ⟨13, .guard⟩ (by simp) rfl)
                            subst d13
                            clear ho hdep hD
                            refine wpOp_step rfl (fun K hK => ?_)
                            go_simp
                            refine (Hp3.out _ HI.out.hb).mono ?_
                            rintro e w2 ⟨z1, z3, rfl, hS, hb2⟩
                            exact hK _ _ ⟨_, _, _, _, _, _, _, _, _, _, _, _, _, _, _, _, _, _, _, _, _, _, _, _, rfl, (HI.out.step hb2).at17 hS⟩
                          · obtain rfl := Option.some.inj ho
                            have d13 := HI.out.h13 (hdep ⟨13, .guard⟩ (by simp) rfl)
                            subst d13
                            clear ho hdep hD
                            refine wpOp_step rfl (fun K hK => ?_)
                            go_simp
                            exact hK _ _ ⟨_, _, _, _, _, _, _, _, _, _, _, _, _, _, _, _, _, _, _, _, _, _, _, _, rfl, HI.out.at18⟩
                          · obtain rfl := Option.some.inj ho
                            have d13 := HI.out.h13 (hdep ⟨13, .guard⟩ (by simp) rfl)
                            subst d13
                            clear ho hdep hD
                            refine wpOp_step rfl (fun K hK => ?_)
                            go_simp
                            exact hK _ _ ⟨_, _, _, _, _, _, _, _, _, _, _, _, _, _, _, _, _, _, _, _, _, _, _, _, rfl, HI.out.at19⟩
                          · obtain rfl := Option.some.inj ho
                            have d19 := HI.out.h19 (hdep ⟨19, .data⟩ (by simp) rfl)
                            subst d19
                            have d13 := HI.out.h13 (hdep ⟨13, .guard⟩ (by simp) rfl)
                            subst d13
                            clear ho hdep hD
                            refine wpOp_step rfl (fun K hK => ?_)
                            go_simp
                            exact hK _ _ ⟨_, _, _, _, _, _, _, _, _, _, _, _, _, _, _, _, _, _, _, _, _, _, _, _, rfl, HI.out.at20⟩
                          · obtain rfl := Option.some.inj ho
                            have d18 := HI.out.h18 (hdep ⟨18, .data⟩ (by simp) rfl)
                            subst d18
                            have d20 := HI.out.h20 (hdep ⟨20, .data⟩ (by simp) rfl)
                            subst d20
                            have d13 := HI.out.h13 (hdep ⟨13, .guard⟩ (by simp) rfl)
                            subst d13
                            clear ho hdep hD
                            refine wpOp_step rfl (fun K hK => ?_)
                            go_simp
                            refine (Hp4.out _ HI.out.hb).mono ?_
                            rintro e w2 ⟨z1, z3, rfl, hS, hb2⟩
                            exact hK _ _ ⟨_, _, _, _, _, _, _, _, _, _, _, _, _, _, _, _, _, _, _, _, _, _, _, _, rfl, (HI.out.step hb2).at21 hS⟩
                          · obtain rfl := Option.some.inj ho
                            have d13 := HI.out.h13 (hdep ⟨13, .guard⟩ (by simp) rfl)
                            subst d13
                            obtain ⟨y1a, y3a, rfl, hSa⟩ := HI.out.h17 (hdep ⟨17, .data⟩ (by simp) rfl)
                            obtain ⟨y1b, y3b, rfl, hSb⟩ := HI.out.h21 (hdep ⟨21, .data⟩ (by simp) rfl)
                            have HSa := hide hSa
                            have HSb := hide hSb
                            clear hSa hSb
                            clear ho hdep hD
                            refine wpOp_step rfl (fun K hK => ?_)
                            go_simp
                            refine (Hb2.out _ _ _ HSa.out HSb.out).mono ?_
                            rintro e w2 ⟨rfl, hb2⟩
                            exact hK _ _ ⟨_, _, _, _, _, _, _, _, _, _, _, _, _, _, _, _, _, _, _, _, _, _, _, _, rfl, (HI.out.step hb2).at22⟩
                          · obtain rfl := Option.some.inj ho
                            have d13 := HI.out.h13 (hdep ⟨13, .data⟩ (by simp) rfl)
                            subst d13
                            have d22 := HI.out.h22 (hdep ⟨22, .data⟩ (by simp) rfl)
                            subst d22
                            clear ho hdep hD
                            refine wpOp_step rfl (fun K hK => ?_)
                            go_simp
                            exact hK _ _ ⟨_, _, _, _, _, _, _, _, _, _, _, _, _, _, _, _, _, _, _, _, _, _, _, _, rfl, HI.out.at23⟩
                        · rintro D a w' ⟨s84, s85, s86, s87, s88, s89, s90, s91, s92, s93, s94, s95, s96, s97, s98, s99, s100, s101, s102, s103, s104, s105, s106, s107, rfl, hI⟩ hall
                          have h23 := hI.h23 (hall 23 (by decide))
                          subst h23
                          have Hb := hide hI.hb
                          have h0 := hI.h0 (hall 0 (by decide))
                          subst h0
                          have h1 := hI.h1 (hall 1 (by decide))
                          subst h1
                          have h2 := hI.h2 (hall 2 (by decide))
                          subst h2
                          have h3 := hI.h3 (hall 3 (by decide))
                          subst h3
                          have h4 := hI.h4 (hall 4 (by decide))
                          subst h4
                          have h5 := hI.h5 (hall 5 (by decide))
                          subst h5
                          obtain ⟨_, _, h6, -⟩ := hI.h6 (hall 6 (by decide))
                          subst h6
                          have h7 := hI.h7 (hall 7 (by decide))
                          subst h7
                          have h8 := hI.h8 (hall 8 (by decide))
                          subst h8
                          have h9 := hI.h9 (hall 9 (by decide))
                          subst h9
                          obtain ⟨_, _, h10, -⟩ := hI.h10 (hall 10 (by decide))
                          subst h10
                          have h11 := hI.h11 (hall 11 (by decide))
                          subst h11
                          have h12 := hI.h12 (hall 12 (by decide))
                          subst h12
                          have h13 := hI.h13 (hall 13 (by decide))
                          subst h13
                          have h14 := hI.h14 (hall 14 (by decide))
                          subst h14
                          have h15 := hI.h15 (hall 15 (by decide))
                          subst h15
                          have h16 := hI.h16 (hall 16 (by decide))
                          subst h16
                          obtain ⟨_, _, h17, -⟩ := hI.h17 (hall 17 (by decide))
                          subst h17
                          have h18 := hI.h18 (hall 18 (by decide))
                          subst h18
                          have h19 := hI.h19 (hall 19 (by decide))
                          subst h19
                          have h20 := hI.h20 (hall 20 (by decide))
                          subst h20
                          obtain ⟨_, _, h21, -⟩ := hI.h21 (hall 21 (by decide))
                          subst h21
                          have h22 := hI.h22 (hall 22 (by decide))
                          subst h22
                          clear hI hall
                          cases A2
                          case' true =>
                            have Hend : Hid (LK w.heap.size w.heap.size wP v2 (foldT (supP U c i (false, ((false, ti), tk), ((tv', ti'), tk')) dd j (sn, ((sv, si), sk), ((sv', si'), sk')) sb) sts Z (t + 1)) v3 xs3 w') := by
                              rw [Hid, Hst5.out, Hsp.out, if_pos (by simp)]; exact HK3.out.below Hb.out
                            clear Hsp
                            go_wp2_with fail
                            go_roundw
                            case rel => exact ⟨t + 1, v3, xs3, by omega, by go_num, Hend.out⟩
                            case measure => simp [intOf]; omega
                          replace Hsp : Hid (supP U c i (false, ((false, ti), tk), ((tv', ti'), tk')) dd j (sn, ((sv, si), sk), ((sv', si'), sk')) sb stt pl = addU stt (some sb') (butC c i ++ dd.set j (turnL sb (sn, putT pl ((sv, si), sk) ((tv', ti'), tk'), ((sv', si'), sk'))))) := by
                            rw [Hid, Hsp.out, if_neg (by simp)]
                          replace a0 := grow_cell Hb.out _ _ a0
                          replace a1 := grow_cell Hb.out _ _ a1
                          replace a2 := grow_cell Hb.out _ _ a2
                          replace a3 := grow_cell Hb.out _ _ a3
                          replace a4 := grow_cell Hb.out _ _ a4
                          replace a5 := grow_cell Hb.out _ _ a5
                          replace a6 := grow_cell Hb.out _ _ a6
                          replace k0 := grow_cell Hb.out _ _ k0
                          replace k1 := grow_cell Hb.out _ _ k1
                          replace k2 := grow_cell Hb.out _ _ k2
                          replace k3 := grow_cell Hb.out _ _ k3
                          replace k4 := grow_cell Hb.out _ _ k4
                          replace k5 := grow_cell Hb.out _ _ k5
                          replace k6 := grow_cell Hb.out _ _ k6
                          replace HK3 := hide (HK3.out.below Hb.out)
                          replace HSAr := hide (HSAr.out.below Hb.out)
                          replace HSDr := hide (HSDr.out.below Hb.out)
                          replace HTAr := hide (HTAr.out.below Hb.out)
                          replace HTDr := hide (HTDr.out.below Hb.out)
                          replace HNp := hide (HNp.out.below Hb.out)
                          replace HV := hide (HV.out.below Hb.out)
                          replace HkP := hide (HkP.out.trans (kpt_below Hb.out))
                          generalize w' = wx at *
                          clear Hp1 Hp2 Hp3 Hp4 Hb1 Hb2 Hz1 Hb
                          have hCd : CIn wx dd (.slice (some ⟨eb, eo, none⟩) dd.length e3) := by rw [Hlm.out]; exact HkP.out.cin (HkaP.out.cin ((HK.out.kpt HL0.out).cin HE.out))
                          obtain ⟨nd, LD, CD⟩ := cl_cs hCd
                          rw [Hlm.out] at CD
                          obtain ⟨iL, hi7, hz0, hz1, hz2⟩ := info_parts Tryz.info42
                          have Hr0 : Hid ((wx.alloc (.cells #[] 42)).ownsRow wx.heap.size 42 7 (.slice (some ⟨wx.heap.size, 0, none⟩) 0 0) 0 []) := own_bare (heap_alloc_new wx _) (Nat.le_refl _)
                          obtain ⟨v4, w9, hrun, ho4, hg4, hat4⟩ := run_append_gen (w := wx.alloc (.cells #[] 42)) wx.heap.size 25 25 42 iL (.agg #[.bool false, .bool false, .int .i64 0, .slice none 0 0, .bool false, .int .i64 0, .slice none 0 0]) 7 88 Tryz.underlying25 hi7 hz0 hz1 hz2 rfl (by decide) (.slice (some ⟨wx.heap.size, 0, none⟩) 0 0) 0 [] Hr0.out (.slice (some ⟨eb, eo, none⟩) d.length e3) d.length nd (CD _ (below_alloc _ _)) (by unfold maxLen; omega) (by omega) (by simp)
                          have hb9 : Below wx.heap.size wx w9 := (below_alloc wx _).grown hg4 (by simp) (fun k hk => by simp [Value.ownBlock] at hk; omega)
                          rw [Nat.zero_add, List.nil_append] at ho4
                          obtain ⟨gx, hgx⟩ : ∃ g, v4.ownBlock = some g := by
                            rcases hat4 with e | e
                            · exact ⟨wx.heap.size, e⟩
                            · exact ⟨_, e⟩
                          have hgx1 := (owns_at ho4 gx hgx).1
                          have hgx2 := (owns_at ho4 gx hgx).2
                          obtain ⟨x3, hv4, hx3, hx4, hfz⟩ := own_form ho4 hgx
                          subst hv4
                          have HO9 : Hid (OwnL wx.heap.size (fun q => q < wx.heap.size) w9 dd (.slice (some ⟨gx, 0, none⟩) d.length x3) nd) := ⟨by rw [Hlm.out]; exact ho4, LD.frame (fun _ h => h) (fun q _ hq => hb9.cell (p := ⟨q, _, none⟩) hq), fun q hq => ⟨by have := hb9.size; omega, fun e => by have := (owns_at ho4 q e.symm).1; omega⟩⟩
                          have Hrun := hide hrun
                          have Hfz := hide hfz
                          have HSAx := hide (HSAr.out.toB)
                          have HTDx := hide (HTDr.out.toB)
                          have HSDx := hide (HSDr.out.toB)
                          unfold maxLen at hx4
                          have Hib := hide (And.intro hi7 (And.intro hz0 (And.intro hz1 hz2)))
                          have HNx := hide (HNp.out.below hb9)
                          have Hgx := hide (And.intro hgx1 hgx2)
                          have Hb9 := hide hb9
                          clear hCd LD CD hi7 hz0 hz1 hz2 ho4 hg4 hat4 hrun hfz hgx Hr0 hgx1 hgx2
                          go_upto_region 25 with (at_builtin; refine wpList_append_is rfl (.tmp 108) (.tmp 109) 25 rfl _ _ _ w9 rfl rfl Hrun.out ?_)
                          replace a0 := grow_cell Hb9.out _ _ a0
                          replace a1 := grow_cell Hb9.out _ _ a1
                          replace a2 := grow_cell Hb9.out _ _ a2
                          replace a3 := grow_cell Hb9.out _ _ a3
                          replace a4 := grow_cell Hb9.out _ _ a4
                          replace a5 := grow_cell Hb9.out _ _ a5
                          replace a6 := grow_cell Hb9.out _ _ a6
                          replace k0 := grow_cell Hb9.out _ _ k0
                          replace k1 := grow_cell Hb9.out _ _ k1
                          replace k2 := grow_cell Hb9.out _ _ k2
                          replace k3 := grow_cell Hb9.out _ _ k3
                          replace k4 := grow_cell Hb9.out _ _ k4
                          replace k5 := grow_cell Hb9.out _ _ k5
                          replace k6 := grow_cell Hb9.out _ _ k6
                          clear Hrun hb9
                          go_upto_region 26 with fail
                          generalize hwa : w9.alloc (.cells #[.bool sn, .bool sv, .int .i64 si, .slice sa1 (Fo.len sk) sa3, .bool sv', .int .i64 si', .slice sd1 (Fo.len sk') sd3] 42) = wy
                          obtain ⟨h0, h1, h2, h3, h4', h5, h6, hfb, hba, hw9⟩ := lit_cells (T := 42) (w := w9) (wr := wy) (x0 := .bool sn) (x1 := .bool sv) (x2 := .int .i64 si) (x3 := .slice sa1 (Fo.len sk) sa3) (x4 := .bool sv') (x5 := .int .i64 si') (x6 := .slice sd1 (Fo.len sk') sd3) (by rw [← hwa]; exact Below.refl _ _)
                          clear hwa
                          replace a0 := grow_cell hba _ _ a0
                          replace a1 := grow_cell hba _ _ a1
                          replace a2 := grow_cell hba _ _ a2
                          replace a3 := grow_cell hba _ _ a3
                          replace a4 := grow_cell hba _ _ a4
                          replace a5 := grow_cell hba _ _ a5
                          replace a6 := grow_cell hba _ _ a6
                          replace k0 := grow_cell hba _ _ k0
                          replace k1 := grow_cell hba _ _ k1
                          replace k2 := grow_cell hba _ _ k2
                          replace k3 := grow_cell hba _ _ k3
                          replace k4 := grow_cell hba _ _ k4
                          replace k5 := grow_cell hba _ _ k5
                          replace k6 := grow_cell hba _ _ k6
                          have Hby := hide hba
                          have hbxy := below_step Hb9.out hba
                          obtain ⟨⟨⟨pv, pi⟩, pk⟩, hpt⟩ : ∃ q, q = putT pl ((sv, si), sk) ((tv', ti'), tk') := ⟨_, rfl⟩
                          have Hpp := hide (put_placeB (X := fun q => q < wx.heap.size) (w := wy) Hzat.out Hg2.out.1.gd Hg1.out.2.gd (fun q hq => Nat.lt_of_lt_of_le hq hbxy.size) (HSAx.out.grow (fun _ h => h) hbxy) (HTDx.out.grow (fun _ h => h) hbxy) (HNx.out.below hba))
                          rw [← hpt] at Hpp
                          have Hgp : Hid (Gd ((pv, pi), pk) ∧ szT ((pv, pi), pk) ≤ 24) := by
                            have h1 := gd_put Hg1.out.2.gd Hg2.out.1.gd Hzat.out
                            rw [← hpt] at h1
                            have h2 := Hg1.out.2.sz
                            have h3 := Hg2.out.1.sz
                            exact ⟨h1.1, by have := h1.2; omega⟩
                          rw [← hpt] at Hsp
                          simp only at Hpp
                          have Hbxy := hide hbxy
                          clear hba hpt hbxy
                          go_wp2_with fail
                          refine Hpp.out.mono ?_
                          rintro e w10 ⟨p1, p3, rfl, hSp, hb10⟩
                          replace a0 := grow_cell hb10 _ _ a0
                          replace a1 := grow_cell hb10 _ _ a1
                          replace a2 := grow_cell hb10 _ _ a2
                          replace a3 := grow_cell hb10 _ _ a3
                          replace a4 := grow_cell hb10 _ _ a4
                          replace a5 := grow_cell hb10 _ _ a5
                          replace a6 := grow_cell hb10 _ _ a6
                          replace k0 := grow_cell hb10 _ _ k0
                          replace k1 := grow_cell hb10 _ _ k1
                          replace k2 := grow_cell hb10 _ _ k2
                          replace k3 := grow_cell hb10 _ _ k3
                          replace k4 := grow_cell hb10 _ _ k4
                          replace k5 := grow_cell hb10 _ _ k5
                          replace k6 := grow_cell hb10 _ _ k6
                          replace h0 := grow_cell hb10 _ _ h0
                          replace h1 := grow_cell hb10 _ _ h1
                          replace h2 := grow_cell hb10 _ _ h2
                          replace h3 := grow_cell hb10 _ _ h3
                          replace h4' := grow_cell hb10 _ _ h4'
                          replace h5 := grow_cell hb10 _ _ h5
                          replace h6 := grow_cell hb10 _ _ h6
                          have hfb0 : ∀ i, w10.frozen? ⟨w9.heap.size, i, none⟩ = false := fun i => (hb10.frozen (p := ⟨w9.heap.size, i, none⟩) hw9).trans (hfb i)
                          clear Hpp
                          go_upto_region 27 with fail
                          generalize hw11 : ((w10.setCell ⟨w9.heap.size, 1, none⟩ (.bool pv)).setCell ⟨w9.heap.size, 2, none⟩ (.int .i64 pi)).setCell ⟨w9.heap.size, 3, none⟩ (.slice p1 (Fo.len pk) p3) = w11
                          have e11 : w11 = setL w10 w9.heap.size 1 [.bool pv, .int .i64 pi, .slice p1 (Fo.len pk) p3] := hw11.symm
                          have hny : wy.heap.size ≤ w10.heap.size := hb10.size
                          have hb11 : Below w9.heap.size w9 w11 := by rw [e11]; exact setL_below (Nat.le_refl _) (below_step Hby.out hb10)
                          have at11 := setL_at (b := w9.heap.size) (xs := [.bool pv, .int .i64 pi, .slice p1 (Fo.len pk) p3]) (o := 1) (w := w10) (fun i hi => by
                            simp at hi
                            rcases i with _ | _ | _ | i
                            · exact ⟨_, h1⟩
                            · exact ⟨_, h2⟩
                            · exact ⟨_, h3⟩
                            · omega)
                          have m0 : w11.cell? ⟨w9.heap.size, 0, none⟩ = some (.bool sn) := by rw [e11, setL_other (.inr (.inl (by omega)))]; exact h0
                          have m1 : w11.cell? ⟨w9.heap.size, 1, none⟩ = some (.bool pv) := by rw [e11]; exact at11 0 _ rfl
                          have m2 : w11.cell? ⟨w9.heap.size, 2, none⟩ = some (.int .i64 pi) := by rw [e11]; exact at11 1 _ rfl
                          have m3 : w11.cell? ⟨w9.heap.size, 3, none⟩ = some (.slice p1 (Fo.len pk) p3) := by rw [e11]; exact at11 2 _ rfl
                          have m4 : w11.cell? ⟨w9.heap.size, 4, none⟩ = some (.bool sv') := by rw [e11, setL_other (.inr (.inr (by simp)))]; exact h4'
                          have m5 : w11.cell? ⟨w9.heap.size, 5, none⟩ = some (.int .i64 si') := by rw [e11, setL_other (.inr (.inr (by simp)))]; exact h5
                          have m6 : w11.cell? ⟨w9.heap.size, 6, none⟩ = some (.slice sd1 (Fo.len sk') sd3) := by rw [e11, setL_other (.inr (.inr (by simp)))]; exact h6
                          have hs11 : w11.heap.size = w10.heap.size := by rw [e11]; exact setL_size
                          have hbx11 : Below wx.heap.size wx w11 := below_step Hb9.out hb11
                          have hg12 := Hgx.out
                          have hw9y : w9.heap.size < wy.heap.size := hw9
                          have hSP : SB (fun q => q < w11.heap.size ∧ q ≠ gx) w11 pk (.slice p1 (Fo.len pk) p3) := hSp.frame (fun q hq => ⟨by have := hbx11.size; omega, by omega⟩) (fun q i hq => by rw [e11, setL_other (.inl (by have := Hb9.out.size; omega))])
                          have hSD11 : SB (fun q => q < w11.heap.size ∧ q ≠ gx) w11 sk' (.slice sd1 (Fo.len sk') sd3) := (HSDx.out.grow (fun _ h => h) hbx11).frame (fun q hq => ⟨by have := hbx11.size; omega, by omega⟩) (fun _ _ _ => rfl)
                          obtain ⟨n1, n3, o1, o3, hNA, hND, hNc⟩ := turn_callB (l := (sn, ((pv, pi), pk), ((sv', si'), sk'))) sb hSP hSD11
                          have Hgn : Hid (G24 (turnL sb (sn, ((pv, pi), pk), ((sv', si'), sk')))) := by
                            have h1 : Gd ((sv', si'), sk') ∧ szT ((sv', si'), sk') ≤ 24 := ⟨Hg2.out.2.gd, by have := Hg2.out.2.sz; omega⟩
                            cases sb
                            · exact ⟨Hgp.out, h1⟩
                            · exact ⟨h1, Hgp.out⟩
                          generalize turnL sb (sn, ((pv, pi), pk), ((sv', si'), sk')) = nl at *
                          obtain ⟨nn, ⟨⟨nv, ni⟩, nk⟩, ⟨⟨nv', ni'⟩, nk'⟩⟩ := nl
                          simp only at hNA hND hNc
                          have HNA := hide hNA
                          have HND := hide hND
                          have HNc := hide hNc
                          have Hb11 := hide hb11
                          have Hbx11 := hide hbx11
                          have hs2 : ((sd : Int) == 1) = sb := hs1
                          clear hw11 e11 at11 h0 h1 h2 h3 h4' h5 h6 hSP hSD11 hNA hND hNc hSp hb10 hb11 hbx11 hfb hfb0 hs11 hny a0 a1 a2 a3 a4 a5 a6 k0 k1 k2 k3 k4 k5 k6
                          go_wp2_with fail
                          refine (HNc.out _).mono ?_
                          rintro e w12 ⟨rfl, hb12⟩
                          have hb912 := below_step Hb11.out hb12
                          have HO12 : Hid (OwnL wx.heap.size (fun q => q < w12.heap.size ∧ q ≠ gx) w12 dd (.slice (some ⟨gx, 0, none⟩) d.length x3) nd) := by
                            have h := HO9.out.below hb912
                            exact ⟨h.row, h.cells.frame (fun q hq => ⟨by have := (h.off q hq).1; exact this, by omega⟩) (fun _ _ _ => rfl), fun q hq => ⟨hq.1, fun e => hq.2 (by simpa [Value.ownBlock] using e)⟩⟩
                          have hw1112 := hb12.size
                          obtain ⟨hset, hex⟩ := own_set HO12.out (g := gx) rfl (j := j) (by rw [Hlm.out]; exact hjl) (l := (nn, ((nv, ni), nk), ((nv', ni'), nk'))) ((HNA.out.grow (fun q hq => hq.1) hb12).frame (fun q hq => ⟨by omega, hq.2⟩) (fun _ _ _ => rfl)) ((HND.out.grow (fun q hq => hq.1) hb12).frame (fun q hq => ⟨by omega, hq.2⟩) (fun _ _ _ => rfl))
                          obtain ⟨u0', x0'⟩ := hex 0 (by omega)
                          obtain ⟨u1', x1'⟩ := hex 1 (by omega)
                          obtain ⟨u2', x2'⟩ := hex 2 (by omega)
                          obtain ⟨u3', x3'⟩ := hex 3 (by omega)
                          obtain ⟨u4', x4'⟩ := hex 4 (by omega)
                          obtain ⟨u5', x5'⟩ := hex 5 (by omega)
                          obtain ⟨u6', x6'⟩ := hex 6 (by omega)
                          rw [Nat.add_zero] at x0'
                          have hfx : ∀ i, w12.frozen? ⟨gx, i, none⟩ = false := fun i => (hb912.frozen (p := ⟨gx, i, none⟩) hg12.2).trans (Hfz.out i)
                          have Hset := hide hset
                          have Hb12 := hide (below_step Hbx11.out hb12)
                          clear hset hex hb12 hb912 m0 m1 m2 m3 m4 m5 m6 hs2
                          go_upto_region 28 with fail
                          generalize hw13 : ((((((w12.setCell ⟨gx, j * 7, none⟩ (.bool nn)).setCell ⟨gx, j * 7 + 1, none⟩ (.bool nv)).setCell ⟨gx, j * 7 + 2, none⟩ (.int .i64 ni)).setCell ⟨gx, j * 7 + 3, none⟩ (.slice n1 (Fo.len nk) n3)).setCell ⟨gx, j * 7 + 4, none⟩ (.bool nv')).setCell ⟨gx, j * 7 + 5, none⟩ (.int .i64 ni')).setCell ⟨gx, j * 7 + 6, none⟩ (.slice o1 (Fo.len nk') o3) = w13
                          have e13 : w13 = setL w12 gx (j * 7) (litV (nn, ((nv, ni), nk), ((nv', ni'), nk')) (.slice n1 (Fo.len nk) n3) (.slice o1 (Fo.len nk') o3)) := hw13.symm
                          rw [← e13] at Hset
                          have hb13 : Below wx.heap.size wx w13 := by rw [e13]; exact setL_below hg12.1 Hb12.out
                          clear hw13 e13 x0' x1' x2' x3' x4' x5' x6'
                          have hBw : Below w.heap.size w wx := HK3.out.under HLP.out (HK2.out.under HLa.out (HK.out.under HL0.out HBd.out))
                          have hlset : (dd.set j (nn, ((nv, ni), nk), ((nv', ni'), nk'))).length = d.length := by rw [List.length_set]; exact Hlm.out
                          have hset2 : CIn w13 (dd.set j (nn, ((nv, ni), nk), ((nv', ni'), nk'))) (.slice (some ⟨gx, 0, none⟩) (dd.set j (nn, ((nv, ni), nk), ((nv', ni'), nk'))).length x3) := by rw [hlset]; exact Hset.out
                          obtain ⟨nx, LX, CX⟩ := cl_cs hset2
                          rw [hlset] at CX
                          have HLX := hide LX
                          have HCX := hide CX
                          have Hbut := hide (butR_any c (.slice (some ⟨cb, co, none⟩) c.length c3) i w13 (HC.out.below (below_step hBw hb13)) hlt (by omega))
                          have Hb13 := hide hb13
                          clear hset2 LX CX hb13 Hset
                          go_wp2_with fail
                          refine Hbut.out.mono ?_
                          rintro e w14 ⟨bv, bxs, rfl, hO, hb14⟩
                          have hbl := but_len (c := c) (i := i)
                          obtain ⟨v5, w15, hrun, ho5, hg5, hat5⟩ := run_append_gen (w := w14) w13.heap.size 25 25 42 iL (.agg #[.bool false, .bool false, .int .i64 0, .slice none 0 0, .bool false, .int .i64 0, .slice none 0 0]) 7 88 Tryz.underlying25 Hib.out.1 Hib.out.2.1 Hib.out.2.2.1 Hib.out.2.2.2 rfl (by decide) bv (butC c i).length bxs hO.row (.slice (some ⟨gx, 0, none⟩) d.length x3) d.length nx (HCX.out _ hb14) (by unfold maxLen; omega) (by omega) hb14.size
                          have hb15 : Below w13.heap.size w13 w15 := hb14.grown hg5 hb14.size (fun k hk => (owns_at hO.row k hk).1)
                          have hcl5 : CIn w15 (butC c i ++ dd.set j (nn, ((nv, ni), nk), ((nv', ni'), nk'))) v5 := by
                            refine row_cl (X := fun q => q < w15.heap.size) (lo := w13.heap.size) (xs := bxs ++ nx) (by rw [List.length_append, hlset]; exact ho5) (LC.append ?_ ?_)
                            · exact HLX.out.frame (fun q hq => Nat.lt_of_lt_of_le hq hb15.size) (fun q _ hq => hb15.cell (p := ⟨q, _, none⟩) hq)
                            · exact (lc_grown hO.cells hO.off hg5).frame (fun q hq => Nat.lt_of_lt_of_le (hO.off q hq).1 hg5.size) (fun _ _ _ => rfl)
                          have hbx15 := below_step Hb13.out hb15
                          have HK15 := hide (HK3.out.below hbx15)
                          have Had := hide (ruleAdd HK15.out.L (HV.out.below hbx15) hcl5 Hg1.out.1 Hgz.out Hn.out (fun l hl => by
                            rcases List.mem_append.1 hl with hl | hl
                            · exact (Hc.out l (but_mem hl)).x
                            · rcases List.mem_or_eq_of_mem_set hl with hl | hl
                              · exact (Hdd.out l hl).x
                              · rw [hl]; exact Hgn.out) (by rw [List.length_append, hlset]; omega) (by have := Hln5.out; omega))
                          have Hrun := hide hrun
                          clear hO hrun ho5 hg5 hat5 hcl5 hb15 hb14 hbx15 Hbut hlset hbl
                          go_wp2_with (at_builtin; refine wpList_append_is rfl (.tmp 130) (.tmp 131) 25 rfl _ _ _ w15 rfl rfl Hrun.out ?_)
                          with_reducible refine Had.out.mono ?_
                          intro e w16 hadd
                          obtain ⟨v6, xs6, hK6⟩ := HK15.out.add hadd
                          obtain ⟨rfl, -⟩ := hadd
                          have Hend : Hid (LK w.heap.size w.heap.size wP v2 (foldT (supP U c i (false, ((false, ti), tk), ((tv', ti'), tk')) dd j (sn, ((sv, si), sk), ((sv', si'), sk')) sb) sts Z (t + 1)) v6 xs6 w16) := by
                            rw [Hid, Hst5.out, Hsp.out]; exact hK6
                          clear hK6 Hsp Had
                          go_wp2_with fail
                          go_roundw
                          case rel => exact ⟨t + 1, v6, xs6, by omega, by go_num, Hend.out⟩
                          case measure => simp [intOf]; omega
                    · have hte : t = Z.length := by omega
                      subst hte
                      have Hend : Hid (LK w.heap.size w.heap.size wa v (foldN (supD U c i (false, ((false, ti), tk), ((tv', ti'), tk')) dd j (yn, ((yv, yi), yk), ((yv', yi'), yk'))) stj (sd + 1)) v3 xs3 wr) := by
                        rw [Hid, Hss.out, Hsz.out]; exact HK2.out.trans HK3.out
                      clear hkP hkA
                      go_wp2_with fail
                      go_roundw
                      case rel => exact ⟨sd + 1, v3, xs3, by omega, by go_num, Hend.out⟩
                      case measure => simp [intOf]; omega
                · have hse : sd = 2 := by omega
                  subst hse
                  have Hend : Hid (LK w.heap.size w.heap.size wa v (foldN (supJ U c i (false, ((false, ti), tk), ((tv', ti'), tk')) dd) stk (j + 1)) v2 xs2 wr) := by
                    rw [Hid, Hsj.out, Hsy.out]; exact HK2.out
                  go_wp2_with fail
                  go_roundw
                  case rel => exact ⟨j + 1, v2, xs2, by omega, by go_num, Hend.out⟩
                  case measure => simp [intOf]; omega
            · have hje : j = d.length := by omega
              subst hje
              have Hend : Hid (LK w.heap.size w.heap.size wd (.slice none 0 0) (foldN (supK U c i (xn, ((xv, xi), xk), ((xv', xi'), xk')) dd) (supTo U c dd i) (k + 1)) v2 xs2 wr) := by
                rw [Hid, Hsq.out, Hlm.out]; exact HK.out.trans HK2.out
              clear hed
              go_wp2_with fail
              go_roundw
              case rel => exact ⟨k + 1, v2, xs2, by omega, by go_num, Hend.out⟩
              case measure => simp [intOf]; omega
        · have hke : k = 2 := by omega
          subst hke
          have Hend : Hid (LK w.heap.size w.heap.size wd (.slice none 0 0) (supTo U c dd (i + 1)) v xs wr) := by
            rw [Hid, Hsc.out, Hsi.out]; exact HK.out
          clear hed
          go_wp2_with fail
          go_roundw
          case rel => exact ⟨i + 1, v, xs, by omega, by go_num, Hend.out⟩
          case measure => simp [intOf]; omega
    · have hie : i = c.length := by omega
      subst hie
      have HLf := hide HK.out.L
      have Hfin := hide HLf.out.csin
      have hBf := HK.out.under HL0.out HBd.out
      have q0 := HLf.out.c0
      have q1 := HLf.out.c1
      obtain ⟨z1, z3, hv⟩ := HLf.out.slice
      have Hvv := hide hv
      clear hv had hed
      go_upto_region 34 with fail
      go_region
      go_wp2_with fail
      go_ret2
      exact ⟨v, rfl, Hfin.out.below (Below.refl _ _).drew, hBf.drew⟩
end Go.Proofs.YtaliegkkdhkfcacGreat
