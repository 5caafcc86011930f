/- D6g Tells Stays3P D6h P6b P6c -/
import Derived.Test.YtaliegkkdhkfcacGreatDoorG15
import Derived.Deep.DeepCutAuto
import Derived.Laws.EntriesVeiled
namespace Go.Proofs.YtaliegkkdhkfcacGreatDoor
open Go.RowKit Go.Deep Go.ChangeShapes Go.WideShapes
attribute [local go_sem ↓] Go.wp_at_zero Go.wp_at_succ

/-- Factor, told alone. -/
def facK (U : Tm → Tm → Option Sb) (c : Cl) (i : Nat) (x y : Lt) (st : List Cl × Bool) (k : Nat) : List Cl × Bool :=
  addU st (U (turnL (decide (2 ≤ k)) x).2.1 (turnL (decide (k % 2 = 1)) y).2.1) (butC c i ++ [(true, (turnL (decide (2 ≤ k)) x).2.2, (turnL (decide (k % 2 = 1)) y).2.2)])
def facJ (U : Tm → Tm → Option Sb) (c : Cl) (i : Nat) (st : List Cl × Bool) (j : Nat) : List Cl × Bool := match c[i]?, c[j]? with
  | some x, some y => if j ≤ i ∨ x.1 = true ∨ y.1 = true then st else foldN (facK U c i x y) st 4
  | _, _ => st
def facI (U : Tm → Tm → Option Sb) (c : Cl) (st : List Cl × Bool) (i : Nat) : List Cl × Bool := foldN (facJ U c i) st c.length
def facTo (U : Tm → Tm → Option Sb) (c : Cl) (i : Nat) : List Cl × Bool := foldN (facI U c) ([], false) i
theorem facK_len (U : Tm → Tm → Option Sb) (c : Cl) (i : Nat) (x y : Lt) (st : List Cl × Bool) (k : Nat) : (facK U c i x y st k).1.length ≤ st.1.length + 1 := addU_len _ _ _
theorem facJ_len (U : Tm → Tm → Option Sb) (c : Cl) (i : Nat) (st : List Cl × Bool) (j : Nat) : (facJ U c i st j).1.length ≤ st.1.length + 4 := by
  unfold facJ
  split
  · rename_i x y _ _
    split
    · omega
    · have := foldN_len (m := 1) (facK_len U c i x y) st 4
      omega
  · omega
theorem facJ_eq {U : Tm → Tm → Option Sb} {c : Cl} {i : Nat} (st : List Cl × Bool) {j : Nat} {x y : Lt} (hx : c[i]? = some x) (hy : c[j]? = some y) : facJ U c i st j = if j ≤ i ∨ x.1 = true ∨ y.1 = true then st else foldN (facK U c i x y) st 4 := by
  unfold facJ
  rw [hx, hy]
theorem facI_len (U : Tm → Tm → Option Sb) (c : Cl) (st : List Cl × Bool) (i : Nat) : (facI U c st i).1.length ≤ st.1.length + c.length * 4 := foldN_len (m := 4) (facJ_len U c i) st c.length
theorem facTo_len (U : Tm → Tm → Option Sb) (c : Cl) (i : Nat) : (facTo U c i).1.length ≤ i * (c.length * 4) := by
  have := foldN_len (m := c.length * 4) (facI_len U c) ([], false) i
  rw [List.length_nil, Nat.zero_add] at this
  exact this

theorem turn_both {yes : Bool} {l : Lt} {P : Tm → Prop} (h : P l.2.1 ∧ P l.2.2) : P (turnL yes l).2.1 ∧ P (turnL yes l).2.2 := by
  cases yes
  · exact h
  · exact ⟨h.2, h.1⟩

section
variable {W : World} {cb co i j k : Nat} {CV XA YA TA TB : Value} {LA LB : List Value} {D : Nat → Bool} {w w' : World} {s44 s45 s46 s47 s48 s49 s50 s51 s52 s53 s54 s55 s56 s57 s58 s8 s9 : Value}
end
/-- What is done has all done that it needs. -/
def CLo (dep : Nat → List Nat) (D : Nat → Bool) : Prop := ∀ k, D k = true → ∀ m ∈ dep k, D m = true
theorem clo_set {dep : Nat → List Nat} {D : Nat → Bool} (h : CLo dep D) (k : Nat) (hk : ∀ m ∈ dep k, D m = true) : CLo dep (fun j => j == k || D j) := fun q hq m hm => by
  show (m == k || D m) = true
  by_cases e : q = k
  · subst e; rw [hk m hm]; simp
  · have : D q = true := by simpa [e] using hq
    rw [h q this m hm]; simp
section
variable {W : World} {PV BV CV : Value} {i g8 g9 : Nat} {R1 R2 LT : Value} {bc : Cl} {l : Lt} {a d : Value} {D : Nat → Bool} {w w' : World} {s68 s69 s70 s71 s72 s73 s74 s75 s76 s77 s78 s79 s80 : Value}
end

end Go.Proofs.YtaliegkkdhkfcacGreatDoor

namespace Go.Proofs.YtaliegkkdhkfcacGreatDoor
open Go.RowKit Go.Deep Go.ChangeShapes Go.WideShapes
attribute [local go_sem ↓] Go.wp_at_zero Go.wp_at_succ

/-- Three cells that are there. -/
def B3 (w : World) (b : Nat) (x y z : Value) : Prop := w.cell? ⟨b, 0, none⟩ = some x ∧ w.cell? ⟨b, 1, none⟩ = some y ∧ w.cell? ⟨b, 2, none⟩ = some z ∧ ∀ i, w.frozen? ⟨b, i, none⟩ = false
end Go.Proofs.YtaliegkkdhkfcacGreatDoor

namespace Go.Proofs.YtaliegkkdhkfcacGreatDoor
open Go.RowKit Go.Deep Go.ChangeShapes Go.WideShapes

theorem cmp_more {a b : Tm} (ha : okT a) (hb : okT b) (h : abvT a b = true) : cmpT a b = 3 := by
  unfold cmpT
  rw [if_neg (fun e => abv_ne ha h ((sameT_iff ha hb).1 e)), if_pos h]
theorem setF_two {f : Tm → Tm} : ∀ {F : Fo} {i : Nat} {y : Tm}, twoF F → F.list[i]? = some y → twoT (f y) → twoF (setF F i f)
  | .nil, _, _, _, h, _ => by simp [Fo.list] at h
  | .node _ _ x k r, 0, y, ho, h, hf => by
    simp only [Fo.list, List.getElem?_cons_zero, Option.some.injEq] at h
    subst h
    rw [two_node] at ho
    rw [setF]
    exact two_node.2 ⟨hf, ho.2⟩
  | .node _ _ x k r, i + 1, y, ho, h, hf => by
    rw [two_node] at ho
    rw [setF]
    exact two_node.2 ⟨ho.1, setF_two ho.2 (by simpa [Fo.list] using h) hf⟩
theorem setF_occ {f : Tm → Tm} {m : Int} : ∀ {F : Fo} {i : Nat} {y : Tm}, F.list[i]? = some y → occF m (setF F i f) → occF m F ∨ occT m (f y)
  | .nil, _, _, h, _ => by simp [Fo.list] at h
  | .node _ _ x k r, 0, y, h, ho => by
    simp only [Fo.list, List.getElem?_cons_zero, Option.some.injEq] at h
    subst h
    rw [setF, occF] at ho
    rcases ho with ho | ho
    · exact .inr ho
    · exact .inl (by rw [occF]; exact .inr ho)
  | .node _ _ x k r, i + 1, y, h, ho => by
    rw [setF, occF] at ho
    rcases ho with ho | ho
    · exact .inl (by rw [occF]; exact .inl ho)
    · rcases setF_occ (by simpa [Fo.list] using h) ho with h1 | h1
      · exact .inl (by rw [occF]; exact .inr h1)
      · exact .inr h1
theorem gd_put {u : Tm} (hu : Gd u) : ∀ {p : List Int} {x : Bool × Int} {k : Fo} {z : Tm}, Gd (x, k) → atT p x k = some z → Gd (putT p (x, k) u) ∧ szT (putT p (x, k) u) ≤ szT (x, k) + szT u
  | [], _, _, _, _, _ => ⟨hu, Nat.le_add_left _ _⟩
  | n :: p, x, k, z, hg, h => by
    obtain ⟨hx, h0, h1, y, hy, hz⟩ := atT_some h
    obtain ⟨i1, i2⟩ := gd_put hu (gd_mem hg hx (List.mem_of_getElem? hy)) hz
    rw [putT_cons hx h0 h1]
    refine ⟨⟨⟨fun e => absurd (hx.symm.trans e) (by decide), setF_ok hg.ok.2 hy i1.ok⟩, ⟨by rw [setF_len]; exact hg.two.1, setF_two hg.two.2 hy i1.two⟩, fun m hm => ?_⟩, ?_⟩
    · unfold occT at hm
      simp only [hx, Bool.false_eq_true, if_false] at hm
      rcases setF_occ hy hm with h2 | h2
      · exact hg.few m (by unfold occT; simp only [hx, Bool.false_eq_true, if_false]; exact h2)
      · exact i1.few m h2
    · have h3 : Fo.sizesR (setF k n.toNat fun s => putT p s u) + szT y = Fo.sizesR k + szT (putT p y u) := setF_szR (fun s => putT p s u) hy
      have h4 : szT (putT p y u) ≤ szT y + szT u := i2
      show 1 + Fo.sizesR (setF k n.toNat fun s => putT p s u) ≤ 1 + Fo.sizesR k + szT u
      omega
end Go.Proofs.YtaliegkkdhkfcacGreatDoor

namespace Go.Proofs.YtaliegkkdhkfcacGreatDoor
open Go.RowKit Go.Deep Go.ChangeShapes Go.WideShapes

theorem szF_mem : ∀ {F : Fo} {i : Nat} {y : Tm}, F.list[i]? = some y → szT y ≤ Fo.sizesR F
  | .nil, _, _, h => by simp [Fo.list] at h
  | .node _ _ x k r, 0, y, h => by
    simp only [Fo.list, List.getElem?_cons_zero, Option.some.injEq] at h
    subst h
    simp only [szT, tszR, Fo.sizesR]
    omega
  | .node _ _ x k r, i + 1, y, h => by
    have := szF_mem (F := r) (i := i) (by simpa [Fo.list] using h)
    simp only [Fo.sizesR]
    omega
theorem gdsz_at : ∀ {p : List Int} {x : Bool × Int} {k : Fo} {z : Tm}, Gd (x, k) → atT p x k = some z → Gd z ∧ szT z ≤ szT (x, k)
  | [], x, k, z, hg, h => by
    cases h
    exact ⟨hg, Nat.le_refl _⟩
  | n :: p, x, k, z, hg, h => by
    rw [atT] at h
    by_cases hn : x.1 = true ∨ n < 0 ∨ (Fo.len k : Int) ≤ n
    · rw [if_pos hn] at h; cases h
    · rw [if_neg hn] at h
      cases hy : k.list[n.toNat]? with
      | none => rw [hy] at h; cases h
      | some y =>
        rw [hy] at h
        have hx : x.1 = false := by cases e : x.1 <;> simp_all
        have hgy := gd_mem hg hx (List.mem_of_getElem? hy)
        obtain ⟨h1, h2⟩ := gdsz_at (x := y.1) (k := y.2) hgy h
        have h3 := szF_mem hy
        refine ⟨h1, ?_⟩
        simp only [szT, tszR] at h2 h3 ⊢
        omega
theorem G12.at {t z : Tm} {p : List Int} (h : G12 t) (ha : atT p t.1 t.2 = some z) : G12 z :=
  ⟨(gdsz_at h.gd ha).1, Nat.le_trans (gdsz_at h.gd ha).2 h.sz⟩

/-- Sup at one place, told alone. -/
def supP (U : Tm → Tm → Option Sb) (c : Cl) (i : Nat) (a : Lt) (d : Cl) (j : Nat) (b : Lt) (side : Bool) (st : List Cl × Bool) (p : List Int) : List Cl × Bool := match atT p b.2.1.1 b.2.1.2 with
  | some z => match U a.2.1 z with
    | some s => if abvT (subT (bnd s) a.2.2) (subT (bnd s) a.2.1) = true ∨ abvT (subT (bnd s) b.2.2) (subT (bnd s) b.2.1) = true then st else addU st (some s) (butC c i ++ d.set j (turnL side (b.1, putT p b.2.1 a.2.2, b.2.2)))
    | none => st
  | none => st
def foldT (f : List Cl × Bool → List Int → List Cl × Bool) (s : List Cl × Bool) (Z : List (List Int)) (t : Nat) : List Cl × Bool := (Z.take t).foldl f s
theorem foldT_succ {f : List Cl × Bool → List Int → List Cl × Bool} {s : List Cl × Bool} {Z : List (List Int)} {t : Nat} {p : List Int} (h : Z[t]? = some p) : foldT f s Z (t + 1) = f (foldT f s Z t) p := by
  unfold foldT
  rw [List.take_add_one, h]
  simp [List.foldl_append]
theorem foldT_len {f : List Cl × Bool → List Int → List Cl × Bool} (h : ∀ s p, (f s p).1.length ≤ s.1.length + 1) : ∀ (Z : List (List Int)) (s : List Cl × Bool), (Z.foldl f s).1.length ≤ s.1.length + Z.length
  | [], s => Nat.le_refl _
  | p :: Z, s => by
    have h1 := foldT_len h Z (f s p)
    have h2 := h s p
    simp only [List.foldl_cons, List.length_cons]
    omega
def supD (U : Tm → Tm → Option Sb) (c : Cl) (i : Nat) (a : Lt) (d : Cl) (j : Nat) (y : Lt) (st : List Cl × Bool) (side : Nat) : List Cl × Bool :=
  (placesT (turnL (decide (side = 1)) y).2.1.1 (turnL (decide (side = 1)) y).2.1.2 []).foldl (supP U c i a d j (turnL (decide (side = 1)) y) (decide (side = 1))) st
def supJ (U : Tm → Tm → Option Sb) (c : Cl) (i : Nat) (a : Lt) (d : Cl) (st : List Cl × Bool) (j : Nat) : List Cl × Bool := match d[j]? with
  | some y => foldN (supD U c i a d j y) st 2
  | none => st
def supK (U : Tm → Tm → Option Sb) (c : Cl) (i : Nat) (x : Lt) (d : Cl) (st : List Cl × Bool) (k : Nat) : List Cl × Bool :=
  if (turnL (decide (k = 1)) x).1 = true ∨ (turnL (decide (k = 1)) x).2.1.1.1 = true then st else foldN (supJ U c i (turnL (decide (k = 1)) x) d) st d.length
def supI (U : Tm → Tm → Option Sb) (c : Cl) (d : Cl) (st : List Cl × Bool) (i : Nat) : List Cl × Bool := match c[i]? with
  | some x => foldN (supK U c i x d) st 2
  | none => st
def supTo (U : Tm → Tm → Option Sb) (c d : Cl) (i : Nat) : List Cl × Bool := foldN (supI U c d) ([], false) i
theorem supP_len (U : Tm → Tm → Option Sb) (c : Cl) (i : Nat) (a : Lt) (d : Cl) (j : Nat) (b : Lt) (side : Bool) (st : List Cl × Bool) (p : List Int) : (supP U c i a d j b side st p).1.length ≤ st.1.length + 1 := by
  unfold supP
  split
  · split
    · split
      · omega
      · exact addU_len _ _ _
    · omega
  · omega

/-- Since W, with the list's row V there, only the list and its row have turned. -/
structure LK (lo p : Nat) (W : World) (V : Value) (st : List Cl × Bool) (v : Value) (xs : List Value) (w : World) : Prop where
  L : LSt lo w p st.1 st.2 v xs
  fr : Fr W w (some p) V.ownBlock
  ow : v.ownBlock = V.ownBlock ∨ ∃ g, v.ownBlock = some g ∧ W.heap.size ≤ g
section
variable {lo p : Nat} {W : World} {V : Value} {st : List Cl × Bool} {v : Value} {xs : List Value} {w w' : World}
theorem LK.start (h : LSt lo W p st.1 st.2 V xs) : LK lo p W V st V xs W := ⟨h, Fr.refl _ _ _, .inl rfl⟩
theorem LK.below (h : LK lo p W V st v xs w) (hb : Below w.heap.size w w') : LK lo p W V st v xs w' := by
  have hs := h.fr.size
  exact ⟨h.L.below hb, ⟨hb.os.trans h.fr.os, hb.tape.trans h.fr.tape, hb.output.trans h.fr.output, Nat.le_trans hs hb.size, fun q hq h1 h2 => (hb.block q (by omega)).trans (h.fr.block q hq h1 h2)⟩, h.ow⟩
theorem LK.trans (h : LK lo p W V st v xs w) {st' : List Cl × Bool} {v' : Value} {xs' : List Value} (k : LK lo p w v st' v' xs' w') : LK lo p W V st' v' xs' w' := by
  have hs := h.fr.size
  refine ⟨k.L, ⟨k.fr.os.trans h.fr.os, k.fr.tape.trans h.fr.tape, k.fr.output.trans h.fr.output, Nat.le_trans hs k.fr.size, fun q hq h1 h2 => ?_⟩, ?_⟩
  · rw [k.fr.block q (by omega) h1 (fun e => ?_)]
    · exact h.fr.block q hq h1 h2
    · rcases h.ow with e' | ⟨g, e', hg⟩
      · exact h2 (e.trans e')
      · rw [e'] at e
        simp only [Option.some.injEq] at e
        omega
  · rcases k.ow with e | ⟨g, e, hg⟩
    · rcases h.ow with e' | e'
      · exact .inl (e.trans e')
      · obtain ⟨g, e', hg⟩ := e'
        exact .inr ⟨g, e.trans e', hg⟩
    · exact .inr ⟨g, e, by omega⟩
theorem LK.add (h : LK lo p W V st v xs w) {n : Int × Cl} {e : Ending} (ha : AddLPost lo w p st n v e w') : ∃ v' xs', LK lo p W V (addP st n) v' xs' w' := by
  obtain ⟨_, v', xs', hL, hf, ho⟩ := ha
  exact ⟨v', xs', h.trans ⟨hL, hf, ho⟩⟩
theorem LK.kpt (h : LK lo p W V st v xs w) {cs : List Cl} {lost : Bool} {ys : List Value} (hW : LSt lo W p cs lost V ys) : Kpt W w := fr_kpt h.fr hW.not (fun g hg => (hW.sl g hg).not)
theorem LK.under (h : LK lo p W V st v xs w) {cs : List Cl} {lost : Bool} {ys : List Value} (hW : LSt lo W p cs lost V ys) {w0 : World} (hB : Below lo w0 W) : Below lo w0 w := (add_keeps hW hB h.fr).1
/-- A block behind all that the list was made of stays. -/
theorem LK.block (h : LK lo p W V st v xs w) {cs : List Cl} {lost : Bool} {ys : List Value} {W1 : World} (hW : LSt lo W1 p cs lost V ys) {q : Nat} (h1 : W1.heap.size ≤ q) (h2 : q < W.heap.size) : w.heap[q]? = W.heap[q]? := by
  refine h.fr.block q h2 (fun e => ?_) (fun e => ?_)
  · simp only [Option.some.injEq] at e
    have := hW.po.2
    omega
  · have := (owns_at hW.row q e.symm).2
    omega
end
/-- The cells of a literal stay. -/
theorem kpt_lit {w w' : World} (h : Kpt w w') {g : Nat} {x : Bool} {u : Value} (h0 : w.cell? ⟨g, 0, none⟩ = some (.bool x)) (h1 : w.cell? ⟨g, 1, none⟩ = some u) (t : Nat) {y : Value} (hy : w.cell? ⟨g, t, none⟩ = some y) : w'.cell? ⟨g, t, none⟩ = some y := by
  rw [h g (fun hn => by rw [hn 0 x h0] at h1; cases h1) t]
  exact hy

end Go.Proofs.YtaliegkkdhkfcacGreatDoor

namespace Go.Proofs.YtaliegkkdhkfcacGreatDoor
open Go.RowKit Go.Deep Go.ChangeShapes Go.WideShapes

/-- A block's first cells. -/
def RowAt (w : World) (g : Nat) (xs : List Value) : Prop := ∀ j u, xs[j]? = some u → w.cell? ⟨g, j, none⟩ = some u
theorem RowAt.below {w w' : World} {g : Nat} {xs : List Value} (h : RowAt w g xs) (hb : Below w.heap.size w w') : RowAt w' g xs := fun j u hj => grow_cell hb _ _ (h j u hj)
theorem RowAt.kpt {w w' : World} {g : Nat} {x : Bool} {y : Value} {r : List Value} (h : RowAt w g (.bool x :: y :: r)) (hk : Kpt w w') : RowAt w' g (.bool x :: y :: r) := fun j u hj => kpt_lit hk (h 0 _ rfl) (h 1 _ rfl) j (h j u hj)
theorem RowAt.new (w : World) (xs : Array Value) (T : TypeId) : RowAt (w.alloc (.cells xs T)) w.heap.size xs.toList := fun j u hj => by
  rw [new_cell rfl]
  simpa using hj
theorem RowAt.lt {w : World} {g : Nat} {x : Value} {r : List Value} (h : RowAt w g (x :: r)) : g < w.heap.size := World.block_lt_of_cell? _ _ (h 0 _ rfl)
/-- A row set over another one. -/
theorem RowAt.set {w : World} {g : Nat} {xs : Array Value} (h : ∀ i, i < xs.size → ∃ u, w.cell? ⟨g, i, none⟩ = some u) : RowAt (setL w g 0 xs.toList) g xs.toList := fun j u hj => by
  have := setL_at (b := g) (xs := xs.toList) (o := 0) (w := w) (fun i hi => by rw [Nat.zero_add]; exact h i (by simpa using hi)) j u hj
  rwa [Nat.zero_add] at this
theorem new_some {w : World} {n : Nat} {T : TypeId} {xs : Array Value} {g : Nat} (hg : w.heap.size = g) (hn : xs.size = n) : ∀ i, i < n → ∃ u, (w.alloc (.cells xs T)).cell? ⟨g, i, none⟩ = some u := fun i hi => by
  rw [new_cell hg]
  exact ⟨xs[i]'(by omega), Array.getElem?_eq_getElem _⟩

abbrev wayA (l : Lt) (a d f : Value) : Value := .agg #[.bool l.2.1.1.1, .int .i64 l.2.1.1.2, a, .bool l.2.2.1.1, .int .i64 l.2.2.1.2, d, f]
abbrev with1 (g : Nat) : Value := .func (.func 54) #[] #[.pointer (some ⟨g, 0, none⟩)]
abbrev with2 (g : Nat) : Value := .func (.func 55) #[] #[.pointer (some ⟨g, 0, none⟩)]

set_option maxRecDepth 100000 in
set_option maxHeartbeats 1000000 in
theorem with1_any (l : Lt) (a1 d1 t1 : Option Addr) (a2 a3 d2 d3 t2 t3 : Nat) (tv : Bool) (tn : Int) (tk : Fo) (g : Nat) (w : World) (h : RowAt w g (litV l (.slice a1 a2 a3) (.slice d1 d2 d3))) :
    Calls Tryz.prog 54 #[.agg #[.bool tv, .int .i64 tn, .slice t1 t2 t3], .pointer (some ⟨g, 0, none⟩)] w fun e w' => e = .returned (litA (l.1, ((tv, tn), tk), l.2.2) (.slice t1 t2 t3) (.slice d1 d2 d3)) ∧ Below w.heap.size w w' := by
  obtain ⟨ln, ⟨⟨lv, li⟩, lk⟩, ⟨lv', li'⟩, lk'⟩ := l
  have hlt := h.lt
  go_enter Tryz.func54, Tryz.ntmps54
  go_upto_region 1 with fail
  generalize hW1 : (w.alloc (.cells #[.bool tv, .int .i64 tn, .slice t1 t2 t3] 55)).alloc (.cells #[.bool false, .bool false, .int .i64 0, .slice none 0 0, .bool false, .int .i64 0, .slice none 0 0] 57) = W1
  have hB1 : Below w.heap.size w W1 := by rw [← hW1]; exact (below_alloc _ _).alloc (by simp) _
  have k0 : W1.cell? ⟨w.heap.size, 0, none⟩ = some (.bool tv) := by rw [← hW1, World.cell?_alloc_lt _ _ _ (by simp)]; exact new_cell rfl
  have k1 : W1.cell? ⟨w.heap.size, 1, none⟩ = some (.int .i64 tn) := by rw [← hW1, World.cell?_alloc_lt _ _ _ (by simp)]; exact new_cell rfl
  have k2 : W1.cell? ⟨w.heap.size, 2, none⟩ = some (.slice t1 t2 t3) := by rw [← hW1, World.cell?_alloc_lt _ _ _ (by simp)]; exact new_cell rfl
  have hR := h.below hB1
  have g0 : W1.cell? ⟨g, 0, none⟩ = some (.bool ln) := hR 0 _ rfl
  have g1 : W1.cell? ⟨g, 1, none⟩ = some (.bool lv) := hR 1 _ rfl
  have g2 : W1.cell? ⟨g, 2, none⟩ = some (.int .i64 li) := hR 2 _ rfl
  have g3 : W1.cell? ⟨g, 3, none⟩ = some (.slice a1 a2 a3) := hR 3 _ rfl
  have g4 : W1.cell? ⟨g, 4, none⟩ = some (.bool lv') := hR 4 _ rfl
  have g5 : W1.cell? ⟨g, 5, none⟩ = some (.int .i64 li') := hR 5 _ rfl
  have g6 : W1.cell? ⟨g, 6, none⟩ = some (.slice d1 d2 d3) := hR 6 _ rfl
  have rf : ∀ i, W1.frozen? ⟨w.heap.size + 1, i, none⟩ = false := fun i => by rw [← hW1]; exact new_frozen (World.size_alloc _ _)
  have hz : ∀ i, i < 7 → ∃ u, W1.cell? ⟨w.heap.size + 1, i, none⟩ = some u := by rw [← hW1]; exact new_some (World.size_alloc _ _) rfl
  obtain ⟨⟨_, r0⟩, ⟨_, r1⟩, ⟨_, r2⟩, ⟨_, r3⟩, ⟨_, r4⟩, ⟨_, r5⟩, ⟨_, r6⟩⟩ := And.intro (hz 0 (by omega)) (And.intro (hz 1 (by omega)) (And.intro (hz 2 (by omega)) (And.intro (hz 3 (by omega)) (And.intro (hz 4 (by omega)) (And.intro (hz 5 (by omega)) (hz 6 (by omega)))))))
  clear hW1 hR h
  go_wp2_with fail
  generalize hw3 : (((((((W1.setCell ⟨w.heap.size + 1, 0, none⟩ (.bool ln)).setCell ⟨w.heap.size + 1, 1, none⟩ (.bool tv)).setCell ⟨w.heap.size + 1, 2, none⟩ (.int .i64 tn)).setCell ⟨w.heap.size + 1, 3, none⟩ (.slice t1 t2 t3)).setCell ⟨w.heap.size + 1, 4, none⟩ (.bool lv')).setCell ⟨w.heap.size + 1, 5, none⟩ (.int .i64 li')).setCell ⟨w.heap.size + 1, 6, none⟩ (.slice d1 d2 d3)) = w3
  have hb3 : Below w.heap.size w w3 := by
    rw [← hw3]
    exact setL_below (b := w.heap.size + 1) (by omega) (xs := [.bool ln, .bool tv, .int .i64 tn, .slice t1 t2 t3, .bool lv', .int .i64 li', .slice d1 d2 d3]) (o := 0) hB1
  have e3 : w3 = setL W1 (w.heap.size + 1) 0 (#[.bool ln, .bool tv, .int .i64 tn, .slice t1 t2 t3, .bool lv', .int .i64 li', .slice d1 d2 d3] : Array Value).toList := hw3.symm
  have at6 : RowAt w3 (w.heap.size + 1) (#[.bool ln, .bool tv, .int .i64 tn, .slice t1 t2 t3, .bool lv', .int .i64 li', .slice d1 d2 d3] : Array Value).toList := by rw [e3]; exact RowAt.set (by simpa using hz)
  have q0 : w3.cell? ⟨w.heap.size + 1, 0, none⟩ = some (.bool ln) := at6 0 _ rfl
  have q1 : w3.cell? ⟨w.heap.size + 1, 1, none⟩ = some (.bool tv) := at6 1 _ rfl
  have q2 : w3.cell? ⟨w.heap.size + 1, 2, none⟩ = some (.int .i64 tn) := at6 2 _ rfl
  have q3 : w3.cell? ⟨w.heap.size + 1, 3, none⟩ = some (.slice t1 t2 t3) := at6 3 _ rfl
  have q4 : w3.cell? ⟨w.heap.size + 1, 4, none⟩ = some (.bool lv') := at6 4 _ rfl
  have q5 : w3.cell? ⟨w.heap.size + 1, 5, none⟩ = some (.int .i64 li') := at6 5 _ rfl
  have q6 : w3.cell? ⟨w.heap.size + 1, 6, none⟩ = some (.slice d1 d2 d3) := at6 6 _ rfl
  clear at6 e3 hw3
  exact bodyPost_ret (v := .agg #[.bool ln, .bool tv, .int .i64 tn, .slice t1 t2 t3, .bool lv', .int .i64 li', .slice d1 d2 d3]) (by simp [results, Tryz.results54, go_sem, q0, q1, q2, q3, q4, q5, q6]) rfl ⟨rfl, hb3⟩

set_option maxRecDepth 100000 in
set_option maxHeartbeats 1000000 in
theorem with2_any (l : Lt) (a1 d1 t1 : Option Addr) (a2 a3 d2 d3 t2 t3 : Nat) (tv : Bool) (tn : Int) (tk : Fo) (g : Nat) (w : World) (h : RowAt w g (litV l (.slice a1 a2 a3) (.slice d1 d2 d3))) :
    Calls Tryz.prog 55 #[.agg #[.bool tv, .int .i64 tn, .slice t1 t2 t3], .pointer (some ⟨g, 0, none⟩)] w fun e w' => e = .returned (litA (l.1, l.2.1, ((tv, tn), tk)) (.slice a1 a2 a3) (.slice t1 t2 t3)) ∧ Below w.heap.size w w' := by
  obtain ⟨ln, ⟨⟨lv, li⟩, lk⟩, ⟨lv', li'⟩, lk'⟩ := l
  have hlt := h.lt
  go_enter Tryz.func55, Tryz.ntmps55
  go_upto_region 1 with fail
  generalize hW1 : (w.alloc (.cells #[.bool tv, .int .i64 tn, .slice t1 t2 t3] 55)).alloc (.cells #[.bool false, .bool false, .int .i64 0, .slice none 0 0, .bool false, .int .i64 0, .slice none 0 0] 57) = W1
  have hB1 : Below w.heap.size w W1 := by rw [← hW1]; exact (below_alloc _ _).alloc (by simp) _
  have k0 : W1.cell? ⟨w.heap.size, 0, none⟩ = some (.bool tv) := by rw [← hW1, World.cell?_alloc_lt _ _ _ (by simp)]; exact new_cell rfl
  have k1 : W1.cell? ⟨w.heap.size, 1, none⟩ = some (.int .i64 tn) := by rw [← hW1, World.cell?_alloc_lt _ _ _ (by simp)]; exact new_cell rfl
  have k2 : W1.cell? ⟨w.heap.size, 2, none⟩ = some (.slice t1 t2 t3) := by rw [← hW1, World.cell?_alloc_lt _ _ _ (by simp)]; exact new_cell rfl
  have hR := h.below hB1
  have g0 : W1.cell? ⟨g, 0, none⟩ = some (.bool ln) := hR 0 _ rfl
  have g1 : W1.cell? ⟨g, 1, none⟩ = some (.bool lv) := hR 1 _ rfl
  have g2 : W1.cell? ⟨g, 2, none⟩ = some (.int .i64 li) := hR 2 _ rfl
  have g3 : W1.cell? ⟨g, 3, none⟩ = some (.slice a1 a2 a3) := hR 3 _ rfl
  have g4 : W1.cell? ⟨g, 4, none⟩ = some (.bool lv') := hR 4 _ rfl
  have g5 : W1.cell? ⟨g, 5, none⟩ = some (.int .i64 li') := hR 5 _ rfl
  have g6 : W1.cell? ⟨g, 6, none⟩ = some (.slice d1 d2 d3) := hR 6 _ rfl
  have rf : ∀ i, W1.frozen? ⟨w.heap.size + 1, i, none⟩ = false := fun i => by rw [← hW1]; exact new_frozen (World.size_alloc _ _)
  have hz : ∀ i, i < 7 → ∃ u, W1.cell? ⟨w.heap.size + 1, i, none⟩ = some u := by rw [← hW1]; exact new_some (World.size_alloc _ _) rfl
  obtain ⟨⟨_, r0⟩, ⟨_, r1⟩, ⟨_, r2⟩, ⟨_, r3⟩, ⟨_, r4⟩, ⟨_, r5⟩, ⟨_, r6⟩⟩ := And.intro (hz 0 (by omega)) (And.intro (hz 1 (by omega)) (And.intro (hz 2 (by omega)) (And.intro (hz 3 (by omega)) (And.intro (hz 4 (by omega)) (And.intro (hz 5 (by omega)) (hz 6 (by omega)))))))
  clear hW1 hR h
  go_wp2_with fail
  generalize hw3 : (((((((W1.setCell ⟨w.heap.size + 1, 0, none⟩ (.bool ln)).setCell ⟨w.heap.size + 1, 1, none⟩ (.bool lv)).setCell ⟨w.heap.size + 1, 2, none⟩ (.int .i64 li)).setCell ⟨w.heap.size + 1, 3, none⟩ (.slice a1 a2 a3)).setCell ⟨w.heap.size + 1, 4, none⟩ (.bool tv)).setCell ⟨w.heap.size + 1, 5, none⟩ (.int .i64 tn)).setCell ⟨w.heap.size + 1, 6, none⟩ (.slice t1 t2 t3)) = w3
  have hb3 : Below w.heap.size w w3 := by
    rw [← hw3]
    exact setL_below (b := w.heap.size + 1) (by omega) (xs := [.bool ln, .bool lv, .int .i64 li, .slice a1 a2 a3, .bool tv, .int .i64 tn, .slice t1 t2 t3]) (o := 0) hB1
  have e3 : w3 = setL W1 (w.heap.size + 1) 0 (#[.bool ln, .bool lv, .int .i64 li, .slice a1 a2 a3, .bool tv, .int .i64 tn, .slice t1 t2 t3] : Array Value).toList := hw3.symm
  have at6 : RowAt w3 (w.heap.size + 1) (#[.bool ln, .bool lv, .int .i64 li, .slice a1 a2 a3, .bool tv, .int .i64 tn, .slice t1 t2 t3] : Array Value).toList := by rw [e3]; exact RowAt.set (by simpa using hz)
  have q0 : w3.cell? ⟨w.heap.size + 1, 0, none⟩ = some (.bool ln) := at6 0 _ rfl
  have q1 : w3.cell? ⟨w.heap.size + 1, 1, none⟩ = some (.bool lv) := at6 1 _ rfl
  have q2 : w3.cell? ⟨w.heap.size + 1, 2, none⟩ = some (.int .i64 li) := at6 2 _ rfl
  have q3 : w3.cell? ⟨w.heap.size + 1, 3, none⟩ = some (.slice a1 a2 a3) := at6 3 _ rfl
  have q4 : w3.cell? ⟨w.heap.size + 1, 4, none⟩ = some (.bool tv) := at6 4 _ rfl
  have q5 : w3.cell? ⟨w.heap.size + 1, 5, none⟩ = some (.int .i64 tn) := at6 5 _ rfl
  have q6 : w3.cell? ⟨w.heap.size + 1, 6, none⟩ = some (.slice t1 t2 t3) := at6 6 _ rfl
  clear at6 e3 hw3
  exact bodyPost_ret (v := .agg #[.bool ln, .bool lv, .int .i64 li, .slice a1 a2 a3, .bool tv, .int .i64 tn, .slice t1 t2 t3]) (by simp [results, Tryz.results55, go_sem, q0, q1, q2, q3, q4, q5, q6]) rfl ⟨rfl, hb3⟩

/-- Both ways of a literal: Left, Right; then Right, Left. -/
abbrev waysA (l : Lt) (a d : Value) (g : Nat) : Value := .agg #[.bool l.2.1.1.1, .int .i64 l.2.1.1.2, a, .bool l.2.2.1.1, .int .i64 l.2.2.1.2, d, with1 g, .bool l.2.2.1.1, .int .i64 l.2.2.1.2, d, .bool l.2.1.1.1, .int .i64 l.2.1.1.2, a, with2 g]

set_option maxRecDepth 100000 in
set_option maxHeartbeats 2000000 in
theorem bothWays_any (l : Lt) (a1 d1 : Option Addr) (a2 a3 d2 d3 : Nat) (w : World) :
    Calls Tryz.prog 26 #[litA l (.slice a1 a2 a3) (.slice d1 d2 d3)] w fun e w' => e = .returned (waysA l (.slice a1 a2 a3) (.slice d1 d2 d3) w.heap.size) ∧ RowAt w' w.heap.size (litV l (.slice a1 a2 a3) (.slice d1 d2 d3)) ∧ Below w.heap.size w w' := by
  obtain ⟨ln, ⟨⟨lv, li⟩, lk⟩, ⟨lv', li'⟩, lk'⟩ := l
  go_enter Tryz.func26, Tryz.ntmps26
  go_upto_region 1 with fail
  generalize hW1 : (w.alloc (.cells #[.bool ln, .bool lv, .int .i64 li, .slice a1 a2 a3, .bool lv', .int .i64 li', .slice d1 d2 d3] 57)).alloc (.cells #[.bool false, .int .i64 0, .slice none 0 0, .bool false, .int .i64 0, .slice none 0 0, .nilFunc, .bool false, .int .i64 0, .slice none 0 0, .bool false, .int .i64 0, .slice none 0 0, .nilFunc] 68) = W1
  have hB1 : Below w.heap.size w W1 := by rw [← hW1]; exact (below_alloc _ _).alloc (by simp) _
  have hR : RowAt W1 w.heap.size (litV (ln, ((lv, li), lk), ((lv', li'), lk')) (.slice a1 a2 a3) (.slice d1 d2 d3)) := by
    rw [← hW1]
    exact (RowAt.new w #[.bool ln, .bool lv, .int .i64 li, .slice a1 a2 a3, .bool lv', .int .i64 li', .slice d1 d2 d3] 57).below (below_alloc _ _)
  have g0 : W1.cell? ⟨w.heap.size, 0, none⟩ = some (.bool ln) := hR 0 _ rfl
  have g1 : W1.cell? ⟨w.heap.size, 1, none⟩ = some (.bool lv) := hR 1 _ rfl
  have g2 : W1.cell? ⟨w.heap.size, 2, none⟩ = some (.int .i64 li) := hR 2 _ rfl
  have g3 : W1.cell? ⟨w.heap.size, 3, none⟩ = some (.slice a1 a2 a3) := hR 3 _ rfl
  have g4 : W1.cell? ⟨w.heap.size, 4, none⟩ = some (.bool lv') := hR 4 _ rfl
  have g5 : W1.cell? ⟨w.heap.size, 5, none⟩ = some (.int .i64 li') := hR 5 _ rfl
  have g6 : W1.cell? ⟨w.heap.size, 6, none⟩ = some (.slice d1 d2 d3) := hR 6 _ rfl
  have HR := hide hR
  clear hR
  have rf : ∀ i, W1.frozen? ⟨w.heap.size + 1, i, none⟩ = false := fun i => by rw [← hW1]; exact new_frozen (World.size_alloc _ _)
  have hz : ∀ i, i < 14 → ∃ u, W1.cell? ⟨w.heap.size + 1, i, none⟩ = some u := by rw [← hW1]; exact new_some (World.size_alloc _ _) rfl
  obtain ⟨_, r0⟩ := hz 0 (by omega)
  obtain ⟨_, r1⟩ := hz 1 (by omega)
  obtain ⟨_, r2⟩ := hz 2 (by omega)
  obtain ⟨_, r3⟩ := hz 3 (by omega)
  obtain ⟨_, r4⟩ := hz 4 (by omega)
  obtain ⟨_, r5⟩ := hz 5 (by omega)
  obtain ⟨_, r6⟩ := hz 6 (by omega)
  obtain ⟨_, r7⟩ := hz 7 (by omega)
  obtain ⟨_, r8⟩ := hz 8 (by omega)
  obtain ⟨_, r9⟩ := hz 9 (by omega)
  obtain ⟨_, r10⟩ := hz 10 (by omega)
  obtain ⟨_, r11⟩ := hz 11 (by omega)
  obtain ⟨_, r12⟩ := hz 12 (by omega)
  obtain ⟨_, r13⟩ := hz 13 (by omega)
  clear hW1
  go_wp2_with fail
  generalize hw3 : ((((((((((((((W1.setCell ⟨w.heap.size + 1, 0, none⟩ (.bool lv)).setCell ⟨w.heap.size + 1, 1, none⟩ (.int .i64 li)).setCell ⟨w.heap.size + 1, 2, none⟩ (.slice a1 a2 a3)).setCell ⟨w.heap.size + 1, 3, none⟩ (.bool lv')).setCell ⟨w.heap.size + 1, 4, none⟩ (.int .i64 li')).setCell ⟨w.heap.size + 1, 5, none⟩ (.slice d1 d2 d3)).setCell ⟨w.heap.size + 1, 6, none⟩ (with1 w.heap.size)).setCell ⟨w.heap.size + 1, 7, none⟩ (.bool lv')).setCell ⟨w.heap.size + 1, 8, none⟩ (.int .i64 li')).setCell ⟨w.heap.size + 1, 9, none⟩ (.slice d1 d2 d3)).setCell ⟨w.heap.size + 1, 10, none⟩ (.bool lv)).setCell ⟨w.heap.size + 1, 11, none⟩ (.int .i64 li)).setCell ⟨w.heap.size + 1, 12, none⟩ (.slice a1 a2 a3)).setCell ⟨w.heap.size + 1, 13, none⟩ (with2 w.heap.size)) = w3
  have hb3 : Below w.heap.size w w3 := by
    rw [← hw3]
    exact setL_below (b := w.heap.size + 1) (by omega) (xs := [.bool lv, .int .i64 li, .slice a1 a2 a3, .bool lv', .int .i64 li', .slice d1 d2 d3, with1 w.heap.size, .bool lv', .int .i64 li', .slice d1 d2 d3, .bool lv, .int .i64 li, .slice a1 a2 a3, with2 w.heap.size]) (o := 0) hB1
  have e3 : w3 = setL W1 (w.heap.size + 1) 0 (#[.bool lv, .int .i64 li, .slice a1 a2 a3, .bool lv', .int .i64 li', .slice d1 d2 d3, with1 w.heap.size, .bool lv', .int .i64 li', .slice d1 d2 d3, .bool lv, .int .i64 li, .slice a1 a2 a3, with2 w.heap.size] : Array Value).toList := hw3.symm
  have hr3 : RowAt w3 w.heap.size (litV (ln, ((lv, li), lk), ((lv', li'), lk')) (.slice a1 a2 a3) (.slice d1 d2 d3)) := fun j u hj => by
    rw [e3, setL_other (.inl (by omega))]
    exact HR.out j u hj
  have at6 : RowAt w3 (w.heap.size + 1) (#[.bool lv, .int .i64 li, .slice a1 a2 a3, .bool lv', .int .i64 li', .slice d1 d2 d3, with1 w.heap.size, .bool lv', .int .i64 li', .slice d1 d2 d3, .bool lv, .int .i64 li, .slice a1 a2 a3, with2 w.heap.size] : Array Value).toList := by rw [e3]; exact RowAt.set (by simpa using hz)
  have q0 : w3.cell? ⟨w.heap.size + 1, 0, none⟩ = some (.bool lv) := at6 0 _ rfl
  have q1 : w3.cell? ⟨w.heap.size + 1, 1, none⟩ = some (.int .i64 li) := at6 1 _ rfl
  have q2 : w3.cell? ⟨w.heap.size + 1, 2, none⟩ = some (.slice a1 a2 a3) := at6 2 _ rfl
  have q3 : w3.cell? ⟨w.heap.size + 1, 3, none⟩ = some (.bool lv') := at6 3 _ rfl
  have q4 : w3.cell? ⟨w.heap.size + 1, 4, none⟩ = some (.int .i64 li') := at6 4 _ rfl
  have q5 : w3.cell? ⟨w.heap.size + 1, 5, none⟩ = some (.slice d1 d2 d3) := at6 5 _ rfl
  have q6 : w3.cell? ⟨w.heap.size + 1, 6, none⟩ = some (with1 w.heap.size) := at6 6 _ rfl
  have q7 : w3.cell? ⟨w.heap.size + 1, 7, none⟩ = some (.bool lv') := at6 7 _ rfl
  have q8 : w3.cell? ⟨w.heap.size + 1, 8, none⟩ = some (.int .i64 li') := at6 8 _ rfl
  have q9 : w3.cell? ⟨w.heap.size + 1, 9, none⟩ = some (.slice d1 d2 d3) := at6 9 _ rfl
  have q10 : w3.cell? ⟨w.heap.size + 1, 10, none⟩ = some (.bool lv) := at6 10 _ rfl
  have q11 : w3.cell? ⟨w.heap.size + 1, 11, none⟩ = some (.int .i64 li) := at6 11 _ rfl
  have q12 : w3.cell? ⟨w.heap.size + 1, 12, none⟩ = some (.slice a1 a2 a3) := at6 12 _ rfl
  have q13 : w3.cell? ⟨w.heap.size + 1, 13, none⟩ = some (with2 w.heap.size) := at6 13 _ rfl
  clear at6 e3 hw3
  exact bodyPost_ret (v := .agg #[.bool lv, .int .i64 li, .slice a1 a2 a3, .bool lv', .int .i64 li', .slice d1 d2 d3, with1 w.heap.size, .bool lv', .int .i64 li', .slice d1 d2 d3, .bool lv, .int .i64 li, .slice a1 a2 a3, with2 w.heap.size]) (by simp [results, Tryz.results26, go_sem, q0, q1, q2, q3, q4, q5, q6, q7, q8, q9, q10, q11, q12, q13]) rfl ⟨rfl, hr3, hb3⟩

end Go.Proofs.YtaliegkkdhkfcacGreatDoor

namespace Go.Proofs.YtaliegkkdhkfcacGreatDoor
open Go.RowKit Go.Deep Go.ChangeShapes Go.WideShapes
attribute [local go_sem ↓] Go.wp_at_zero Go.wp_at_succ

set_option maxRecDepth 100000 in
set_option maxHeartbeats 1000000 in
theorem addClo_any (x d : Cl) (x1 d1 : Option Addr) (x3 d3 : Nat) (nb : Nat) (w : World) (hX : CIn w x (.slice x1 x.length x3)) (hD : CIn w d (.slice d1 d.length d3)) (hn : w.cell? ⟨nb, 0, none⟩ = some (.slice d1 d.length d3)) :
    Calls Tryz.prog 48 #[.slice x1 x.length x3, .pointer (some ⟨nb, 0, none⟩)] w fun e w' => e = .returned (.bool (sameC x d)) ∧ Below w.heap.size w w' := by
  have Hs := hide (sameC_any x d _ _ w hX hD)
  generalize hB : sameC x d = B at *
  clear hX hD hB
  go_enter Tryz.func48, Tryz.ntmps48
  go_wp2_with fail
  refine Hs.out.mono ?_
  rintro e w2 ⟨rfl, hb2⟩
  clear Hs
  go_wp2_with fail
  go_ret
  exact ⟨rfl, hb2⟩

set_option maxRecDepth 100000 in
set_option maxHeartbeats 1000000 in
theorem indexC_any (cs : List Cl) (d : Cl) (v : Value) (d1 : Option Addr) (d3 nb : Nat) (w : World) (hS : CsIn w cs v) (hD : CIn w d (.slice d1 d.length d3)) (hn : w.cell? ⟨nb, 0, none⟩ = some (.slice d1 d.length d3)) :
    Calls Tryz.prog 78 #[v, .func (.func 48) #[] #[.pointer (some ⟨nb, 0, none⟩)]] w fun e w' => ∃ i : Int, e = .returned (.int .i64 i) ∧ decide (0 ≤ i) = cs.any (fun x => sameC x d) ∧ Below w.heap.size w w' := by
  obtain ⟨a1, c1, gb, go, rfl, had, hlc, hcm, hEl⟩ := hS
  unfold maxLen at hcm
  have HEl := hide hEl
  have HN := hide hD
  have Hn := hide hn
  clear hEl hD hn
  go_enter Tryz.func78, Tryz.ntmps78
  go_wp2_with fail
  go_loopw [8] (fun i wr => ∃ j : Nat, j ≤ cs.length ∧ i = .int .i64 j ∧ (∀ i, i < j → ∀ x, cs[i]? = some x → sameC x d = false) ∧ Below w.heap.size w wr) (fun i _ => cs.length - (intOf i).toNat)
  case atStart => exact ⟨0, Nat.zero_le _, rfl, fun i hi => by omega, Below.refl _ _⟩
  case round =>
    obtain ⟨j, hj, rfl, hno, hBr⟩ := hrel
    have Hno := hide hno
    clear hno
    by_cases hlt : j < cs.length
    · have hlt' : (j : Int) < (cs.length : Int) := by omega
      obtain ⟨x, hx⟩ : ∃ x, cs[j]? = some x := ⟨cs[j]'hlt, by simp⟩
      obtain ⟨xv, p0, hX⟩ := HEl.out j x hx
      replace p0 := grow_cell hBr _ _ p0
      have HX := hide (hX.below hBr)
      obtain ⟨x1, x3, rfl⟩ := slice_of_cl hX
      have ha1 : a1 = some ⟨gb, go, none⟩ := had (by omega)
      subst ha1
      have Hx := hide hx
      clear hx had hX
      go_wp2_with fail
      refine (addClo_any x d x1 d1 x3 d3 nb wr HX.out (HN.out.below hBr) (grow_cell hBr _ _ Hn.out)).mono ?_
      rintro e w5 ⟨rfl, hb5⟩
      replace hBr := below_step hBr hb5
      clear hb5
      cases hs : sameC x d
      · have Hnx : Hid (∀ i, i < j + 1 → ∀ x, cs[i]? = some x → sameC x d = false) := fun i hi y hy => by
          by_cases e : i = j
          · rw [e, Hx.out] at hy; cases hy; exact hs
          · exact Hno.out i (by omega) y hy
        clear hs
        go_wp2_with fail
        go_roundw
        case rel => exact ⟨j + 1, by omega, by go_num, Hnx.out, hBr⟩
        case measure => simp [intOf]; omega
      · have Hf : Hid (decide ((0 : Int) ≤ (j : Int)) = cs.any (fun x => sameC x d)) := by
          rw [Hid, List.any_eq_true.2 ⟨x, List.mem_of_getElem? Hx.out, hs⟩]
          simp
        clear hs
        go_wp2_with fail
        go_ret
        exact ⟨_, rfl, Hf.out, hBr⟩
    · have Hf : Hid (decide ((0 : Int) ≤ -1) = cs.any (fun x => sameC x d)) := by
        have hany : cs.any (fun x => sameC x d) = false := by
          rw [List.any_eq_false]
          intro x hx
          obtain ⟨i, hi⟩ := List.mem_iff_getElem?.1 hx
          have := (List.getElem?_eq_some_iff.1 hi).1
          simp [Hno.out i (by omega) x hi]
        rw [Hid, hany]
        decide
      clear had
      go_wp2_with fail
      go_ret
      exact ⟨_, rfl, Hf.out, hBr⟩

set_option maxRecDepth 100000 in
set_option maxHeartbeats 1000000 in
theorem containsC_any (cs : List Cl) (d : Cl) (v : Value) (d1 : Option Addr) (d3 nb : Nat) (w : World) (hS : CsIn w cs v) (hD : CIn w d (.slice d1 d.length d3)) (hn : w.cell? ⟨nb, 0, none⟩ = some (.slice d1 d.length d3)) :
    Calls Tryz.prog 47 #[v, .func (.func 48) #[] #[.pointer (some ⟨nb, 0, none⟩)]] w fun e w' => e = .returned (.bool (cs.any (fun x => sameC x d))) ∧ Below w.heap.size w w' := by
  have Hi := hide (indexC_any cs d v d1 d3 nb w hS hD hn)
  obtain ⟨z1, z3, rfl⟩ := slice_of_cs hS
  clear hS hD hn
  go_enter Tryz.func47, Tryz.ntmps47
  go_wp2_with fail
  refine Hi.out.mono ?_
  rintro e w2 ⟨i, rfl, hi, hb2⟩
  have Hd := hide hi
  clear hi Hi
  go_wp2_with fail
  go_ret
  exact ⟨by rw [← Hd.out]; rfl, hb2⟩

theorem wp_append_is {w : World} {o : Oper} {a : Act} {K : Act → World → Prop} {Q : Exit → Act → World → Prop} (s x : Operand) (t : TypeId)
    (ho : o.op = .call { callee := .builtin .append, args := #[s, x], argTypes := #[t, t] }) (v lv v4 : Value) (w4 : World) (hs : a.eval s = v) (hx : a.eval x = lv) (hr : (Builtin.append_ #[t, t] o.type #[v, lv]).run Tryz.prog w = .ok v4 w4)
    (h : K (a.put o.dst v4) w4) : o.wp Tryz.prog a w K Q := by
  unfold Oper.wp execOp
  simp only [ho, resolve, invoke, builtin, Sem.run_bind, Sem.run_pure, Result.andThen_ok, List.map_toArray, List.map_cons, List.map_nil, hs, hx, hr]
  exact h
def dep5 : Nat → List Nat
  | 2 => [1]
  | 3 => [2]
  | 4 => [3]
  | 6 => [5]
  | 7 => [4, 6]
  | 8 => [0]
  | 9 => [8]
  | 10 => [9, 7]
  | _ => []
theorem all5 {D : Nat → Bool} (h : CLo dep5 D) (h9 : D 9 = true) (h7 : D 7 = true) : ∀ i, i < 11 → (i == 10 || D i) = true := by
  have h8 := h 9 h9 8 (by decide)
  have h0 := h 8 h8 0 (by decide)
  have h4 := h 7 h7 4 (by decide)
  have h6 := h 7 h7 6 (by decide)
  have h5 := h 6 h6 5 (by decide)
  have h3 := h 4 h4 3 (by decide)
  have h2 := h 3 h3 2 (by decide)
  have h1 := h 2 h2 1 (by decide)
  intro i hi
  rcases (by omega : i = 0 ∨ i = 1 ∨ i = 2 ∨ i = 3 ∨ i = 4 ∨ i = 5 ∨ i = 6 ∨ i = 7 ∨ i = 8 ∨ i = 9 ∨ i = 10) with rfl | rfl | rfl | rfl | rfl | rfl | rfl | rfl | rfl | rfl | rfl <;> simp [*]
structure RP5 (W : World) (p : Nat) (v kv : Value) (T7 : World → Value → Prop) (D : Nat → Bool) (w : World) (s29 s30 s31 s32 s33 s34 s35 s36 s37 s38 : Value) : Prop where
  hb : D 7 = false → Below W.heap.size W w
  h0 : D 0 = true → s29 = .pointer (some ⟨p, 0, none⟩)
  h1 : D 1 = true → s30 = .pointer (some ⟨p, 0, none⟩)
  h2 : D 2 = true → s31 = .pointer (some ⟨p, 0, none⟩)
  h3 : D 3 = true → s32 = .pointer (some ⟨p, 0, none⟩)
  h4 : D 4 = true → s33 = v
  h5 : D 5 = true → s34 = kv
  h6 : D 6 = true → D 7 = false → ∃ g, s35 = .slice (some ⟨g, 0, none⟩) 1 1 ∧ w.cell? ⟨g, 0, none⟩ = some kv
  h7 : D 7 = true → T7 w s36
  h8 : D 8 = true → s37 = .pointer (some ⟨p, 0, none⟩)
  h9 : D 9 = true → s38 = .pointer (some ⟨p, 0, none⟩)
section
variable {W : World} {p : Nat} {v kv : Value} {T7 : World → Value → Prop} {D : Nat → Bool} {w : World} {s29 s30 s31 s32 s33 s34 s35 s36 s37 s38 : Value}
theorem RP5.at0 (h : RP5 W p v kv T7 D w s29 s30 s31 s32 s33 s34 s35 s36 s37 s38) : RP5 W p v kv T7 (fun j => j == 0 || D j) w (.pointer (some ⟨p, 0, none⟩)) s30 s31 s32 s33 s34 s35 s36 s37 s38 :=
  ⟨h.hb, fun _ => rfl, h.h1, h.h2, h.h3, h.h4, h.h5, h.h6, h.h7, h.h8, h.h9⟩
theorem RP5.at1 (h : RP5 W p v kv T7 D w s29 s30 s31 s32 s33 s34 s35 s36 s37 s38) : RP5 W p v kv T7 (fun j => j == 1 || D j) w s29 (.pointer (some ⟨p, 0, none⟩)) s31 s32 s33 s34 s35 s36 s37 s38 :=
  ⟨h.hb, h.h0, fun _ => rfl, h.h2, h.h3, h.h4, h.h5, h.h6, h.h7, h.h8, h.h9⟩
theorem RP5.at2 (h : RP5 W p v kv T7 D w s29 s30 s31 s32 s33 s34 s35 s36 s37 s38) : RP5 W p v kv T7 (fun j => j == 2 || D j) w s29 s30 (.pointer (some ⟨p, 0, none⟩)) s32 s33 s34 s35 s36 s37 s38 :=
  ⟨h.hb, h.h0, h.h1, fun _ => rfl, h.h3, h.h4, h.h5, h.h6, h.h7, h.h8, h.h9⟩
theorem RP5.at3 (h : RP5 W p v kv T7 D w s29 s30 s31 s32 s33 s34 s35 s36 s37 s38) : RP5 W p v kv T7 (fun j => j == 3 || D j) w s29 s30 s31 (.pointer (some ⟨p, 0, none⟩)) s33 s34 s35 s36 s37 s38 :=
  ⟨h.hb, h.h0, h.h1, h.h2, fun _ => rfl, h.h4, h.h5, h.h6, h.h7, h.h8, h.h9⟩
theorem RP5.at4 (h : RP5 W p v kv T7 D w s29 s30 s31 s32 s33 s34 s35 s36 s37 s38) : RP5 W p v kv T7 (fun j => j == 4 || D j) w s29 s30 s31 s32 (v) s34 s35 s36 s37 s38 :=
  ⟨h.hb, h.h0, h.h1, h.h2, h.h3, fun _ => rfl, h.h5, h.h6, h.h7, h.h8, h.h9⟩
theorem RP5.at5 (h : RP5 W p v kv T7 D w s29 s30 s31 s32 s33 s34 s35 s36 s37 s38) : RP5 W p v kv T7 (fun j => j == 5 || D j) w s29 s30 s31 s32 s33 (kv) s35 s36 s37 s38 :=
  ⟨h.hb, h.h0, h.h1, h.h2, h.h3, h.h4, fun _ => rfl, h.h6, h.h7, h.h8, h.h9⟩
theorem RP5.at8 (h : RP5 W p v kv T7 D w s29 s30 s31 s32 s33 s34 s35 s36 s37 s38) : RP5 W p v kv T7 (fun j => j == 8 || D j) w s29 s30 s31 s32 s33 s34 s35 s36 (.pointer (some ⟨p, 0, none⟩)) s38 :=
  ⟨h.hb, h.h0, h.h1, h.h2, h.h3, h.h4, h.h5, h.h6, h.h7, fun _ => rfl, h.h9⟩
theorem RP5.at9 (h : RP5 W p v kv T7 D w s29 s30 s31 s32 s33 s34 s35 s36 s37 s38) : RP5 W p v kv T7 (fun j => j == 9 || D j) w s29 s30 s31 s32 s33 s34 s35 s36 s37 (.pointer (some ⟨p, 0, none⟩)) :=
  ⟨h.hb, h.h0, h.h1, h.h2, h.h3, h.h4, h.h5, h.h6, h.h7, h.h8, fun _ => rfl⟩
theorem RP5.at6 (h : RP5 W p v kv T7 D w s29 s30 s31 s32 s33 s34 s35 s36 s37 s38) (h7 : D 7 = false) : RP5 W p v kv T7 (fun j => j == 6 || D j) (w.alloc (.cells #[kv] 25)) s29 s30 s31 s32 s33 s34 (.slice (some ⟨w.heap.size, 0, none⟩) 1 1) s36 s37 s38 :=
  ⟨fun _ => (h.hb h7).alloc (h.hb h7).size _, h.h0, h.h1, h.h2, h.h3, h.h4, h.h5, fun _ _ => ⟨w.heap.size, rfl, new_cell rfl⟩, fun e => (by rw [show D 7 = true from e] at h7; cases h7), h.h8, h.h9⟩
theorem RP5.at7 (h : RP5 W p v kv T7 D w s29 s30 s31 s32 s33 s34 s35 s36 s37 s38) {w4 : World} {v4 : Value} (ht : T7 w4 v4) : RP5 W p v kv T7 (fun j => j == 7 || D j) w4 s29 s30 s31 s32 s33 s34 s35 v4 s37 s38 :=
  ⟨fun e => (by cases e), h.h0, h.h1, h.h2, h.h3, h.h4, h.h5, fun _ e => (by cases e), fun _ => ht, h.h8, h.h9⟩
theorem RP5.start (h : Below W.heap.size W w) : RP5 W p v kv T7 (fun _ => false) w s29 s30 s31 s32 s33 s34 s35 s36 s37 s38 :=
  ⟨fun _ => h, fun e => (by cases e), fun e => (by cases e), fun e => (by cases e), fun e => (by cases e), fun e => (by cases e), fun e => (by cases e), fun e => (by cases e), fun e => (by cases e), fun e => (by cases e), fun e => (by cases e)⟩
end

set_option maxRecDepth 100000 in
set_option maxHeartbeats 4000000 in
theorem comeAdd_any (lo p : Nat) (cs : List Cl) (lost : Bool) (v : Value) (xs : List Value) (b : Sb) (bv : Value) (c : Cl) (cv : Value) (w : World) (hL : LSt lo w p cs lost v xs) (hV : SubIn w b bv) (hC : CIn w c cv) (hb : ∀ q ∈ b, narT q.2 ∧ okT q.2)
    (hc : ∀ l ∈ c, narT l.2.1 ∧ narT l.2.2) (hlen : c.length ≤ 8) (hcl : cs.length ≤ 1000000) (hg : GX (c.map (mapL (subT (bnd b))))) :
    Calls Tryz.prog 22 #[.pointer (some ⟨p, 0, none⟩), bv, cv] w (AddLPost lo w p (cs, lost) (normC (c.map (mapL (subT (bnd b))))) v) := by
  have HL := hide hL
  have HV := hide hV
  have HC := hide hC
  have Hb := hide hb
  have Hc := hide hc
  have Hg := hide hg
  obtain ⟨c1, c3, rfl⟩ := slice_of_cl hC
  obtain ⟨b1, b3, rfl⟩ := slice_of_sub hV
  obtain ⟨v1, v3, rfl⟩ := hL.slice
  clear hL hV hC hb hc hg
  go_enter Tryz.func22, Tryz.ntmps22
  go_wp2_with fail
  refine (applyC_any b _ c _ w HV.out Hb.out HC.out Hc.out (by omega)).mono ?_
  rintro e w1 ⟨g, rfl, hO, hb1⟩
  have Hn := hide (norm_anyX (c.map (mapL (subT (bnd b)))) _ w1 hO Hg.out)
  clear hO
  go_wp2_with fail
  with_reducible refine Hn.out.mono ?_
  rintro e w2 ⟨nv, rfl, hN, hb2⟩
  have hB2 := below_step hb1 hb2
  have HN := hide hN
  obtain ⟨n1, n3, rfl⟩ := slice_of_cl hN
  replace HL := hide (HL.out.below hB2)
  clear hN hb2 hb1 Hn Hg
  generalize normC (c.map (mapL (subT (bnd b)))) = nc at *
  go_upto_region 1 with fail
  generalize hW3 : w2.alloc (.cells #[.slice n1 nc.2.length n3] 25) = W3
  have hB23 : Below w2.heap.size w2 W3 := by rw [← hW3]; exact below_alloc _ _
  have hB3 := below_step hB2 hB23
  have m0 : W3.cell? ⟨w2.heap.size, 0, none⟩ = some (.slice n1 nc.2.length n3) := by rw [← hW3]; exact new_cell rfl
  replace HL := hide (HL.out.below hB23)
  replace HN := hide (HN.out.below hB23)
  have Hw := hide hB3
  clear hW3
  have k1 := HL.out.c1
  have kf := HL.out.fz
  have k0 := HL.out.c0
  by_cases h4 : nc.1 = 4
  · have Hf := hide (addP_lost (st := (cs, lost)) h4)
    have Hs := hide HL.out.lose
    rw [h4]
    go_wp2_with fail
    refine bodyPost_ret (results_none rfl _ _ _) rfl ⟨rfl, _, xs, by rw [Hf.out]; exact Hs.out.1, ?_, .inl rfl⟩
    exact (Fr.of_below Hw.out (some p) _).trans Hs.out.2 (fun q hq h => h)
  by_cases h0 : nc.1 = 0
  case' neg =>
    have heb : (nc.1 != 0) = true := by simp [h0]
    have he4 : (nc.1 == 4) = false := by simp [h4]
    have Hf := hide (addP_none (st := (cs, lost)) h4 h0)
    clear h0 h4
    go_wp2_with fail
    refine bodyPost_ret (results_none rfl _ _ _) rfl ⟨rfl, _, xs, by rw [Hf.out]; exact HL.out, Fr.of_below Hw.out _ _, .inl rfl⟩
  case' pos =>
    have H0 := hide h0
    rw [h0]
    clear h4 h0
    have Hc2 := hide (containsC_any cs nc.2 _ n1 n3 w2.heap.size W3 HL.out.csin HN.out m0)
    generalize hany : cs.any (fun x => sameC x nc.2) = any at Hc2
    have Hany := hide hany
    clear hany
    go_wp2_with fail
    refine Hc2.out.mono ?_
    rintro e w4 ⟨rfl, hb4⟩
    have hB4 := below_step hB3 hb4
    replace HL := hide (HL.out.below hb4)
    replace HN := hide (HN.out.below hb4)
    replace Hw := hide hB4
    replace m0 := grow_cell hb4 _ _ m0
    clear Hc2 k0 k1 kf
    cases any
    · have Hf := hide (addP_new (st := (cs, lost)) H0.out Hany.out)
      have k0 := HL.out.c0
      have kf := HL.out.fz
      clear hb4 Hany
      go_upto_region 5 with fail
      have Hop := hide HL.out
      obtain ⟨iC, hiC, hz0, hz1, hz2⟩ := info_parts Tryz.info25
      have HiC := hide (And.intro hiC (And.intro hz0 (And.intro hz1 hz2)))
      clear hiC hz0 hz1 hz2
      refine region_inv (fun D a w' => ((D 10 = false ∧ CLo dep5 D) ∧ ∃ s29 s30 s31 s32 s33 s34 s35 s36 s37 s38 : Value, a = ⟨#[Value.pointer (some { block := p, off := 0 }), Value.slice b1 (List.length b) b3, Value.slice c1 (List.length c) c3, undef, undef, undef, Value.pointer (some { block := w2.heap.size, off := 0 }), Value.int IntKind.i64 0, Value.tuple #[Value.slice n1 (List.length nc.snd) n3, Value.int IntKind.i64 0], Value.slice b1 (List.length b) b3, Value.slice c1 (List.length c) c3, Value.slice (some { block := g, off := 0 }) (List.length c) (List.length c), Value.tuple #[Value.slice n1 (List.length nc.snd) n3, Value.int IntKind.i64 0], Value.slice n1 (List.length nc.snd) n3, Value.int IntKind.i64 0, Value.int IntKind.i64 0, Value.bool false, undef, undef, undef, Value.int IntKind.i64 0, Value.bool false, Value.pointer (some { block := p, off := 0 }), Value.pointer (some { block := p, off := 0 }), Value.pointer (some { block := p, off := 0 }), Value.slice v1 cs.length v3, Value.func (Fn.func 48) #[] #[Value.pointer (some { block := w2.heap.size, off := 0 })], Value.bool false, Value.bool true, s29, s30, s31, s32, s33, s34, s35, s36, s37, s38], []⟩ ∧ RP5 w4 p (.slice v1 cs.length v3) (.slice n1 nc.2.length n3) (fun (w5 : World) (u : Value) => ∃ w3, Below w4.heap.size w4 w3 ∧ w5.ownsRow lo 25 1 u (cs.length + 1) (xs ++ [.slice n1 nc.2.length n3]) ∧ w3.grownBy w5 (Value.slice v1 cs.length v3).ownBlock ∧ (u.ownBlock = (Value.slice v1 cs.length v3).ownBlock ∨ u.ownBlock = some w3.heap.size) ∧ ∀ g, u.ownBlock = some g → SlR w5 g) D w' s29 s30 s31 s32 s33 s34 s35 s36 s37 s38) ∨ ((∀ i, i < 11 → D i = true) ∧ AddLPost lo w p (cs, lost) nc (.slice v1 cs.length v3) (.returned (.tuple #[])) w' ∧ ∃ s29 s30 s31 s32 s33 s34 s35 s36 s37 s38 : Value, a = ⟨#[Value.pointer (some { block := p, off := 0 }), Value.slice b1 (List.length b) b3, Value.slice c1 (List.length c) c3, undef, undef, undef, Value.pointer (some { block := w2.heap.size, off := 0 }), Value.int IntKind.i64 0, Value.tuple #[Value.slice n1 (List.length nc.snd) n3, Value.int IntKind.i64 0], Value.slice b1 (List.length b) b3, Value.slice c1 (List.length c) c3, Value.slice (some { block := g, off := 0 }) (List.length c) (List.length c), Value.tuple #[Value.slice n1 (List.length nc.snd) n3, Value.int IntKind.i64 0], Value.slice n1 (List.length nc.snd) n3, Value.int IntKind.i64 0, Value.int IntKind.i64 0, Value.bool false, undef, undef, undef, Value.int IntKind.i64 0, Value.bool false, Value.pointer (some { block := p, off := 0 }), Value.pointer (some { block := p, off := 0 }), Value.pointer (some { block := p, off := 0 }), Value.slice v1 cs.length v3, Value.func (Fn.func 48) #[] #[Value.pointer (some { block := w2.heap.size, off := 0 })], Value.bool false, Value.bool true, s29, s30, s31, s32, s33, s34, s35, s36, s37, s38], []⟩)) (by kernel_rfl) (by kernel_rfl) ?_ ?_ (.inl ⟨⟨rfl, fun k hk => by cases hk⟩, _, _, _, _, _, _, _, _, _, _, rfl, RP5.start (Below.refl _ _).drew⟩)
      · rintro D a w' i hop hi (⟨⟨h10, hcl⟩, s29, s30, s31, s32, s33, s34, s35, s36, s37, s38, rfl, hI⟩ | ⟨hall, -⟩) hD ho hdep
        · have HI := hide hI
          have H10 := hide h10
          have Hcl := hide hcl
          clear hI h10 hcl
          have hi' : i < 11 := hi
          clear hi
          rcases (by omega : i = 0 ∨ i = 1 ∨ i = 2 ∨ i = 3 ∨ i = 4 ∨ i = 5 ∨ i = 6 ∨ i = 7 ∨ i = 8 ∨ i = 9 ∨ i = 10) with rfl | rfl | rfl | rfl | rfl | rfl | rfl | rfl | rfl | rfl | rfl
          · obtain rfl := Option.some.inj ho
            have Hc2 := hide (clo_set Hcl.out 0 (fun m hm => by simp only [dep5, List.not_mem_nil] at hm))
            clear ho hdep hD
            refine wpOp_step rfl (fun K hK => ?_)
            go_simp
            exact hK _ _ (.inl ⟨⟨H10.out, Hc2.out⟩, _, _, _, _, _, _, _, _, _, _, rfl, HI.out.at0⟩)
          · obtain rfl := Option.some.inj ho
            have Hc2 := hide (clo_set Hcl.out 1 (fun m hm => by simp only [dep5, List.not_mem_nil] at hm))
            clear ho hdep hD
            refine wpOp_step rfl (fun K hK => ?_)
            go_simp
            exact hK _ _ (.inl ⟨⟨H10.out, Hc2.out⟩, _, _, _, _, _, _, _, _, _, _, rfl, HI.out.at1⟩)
          · obtain rfl := Option.some.inj ho
            have x1 := hdep ⟨1, .data⟩ (by simp) rfl
            have Hc2 := hide (clo_set Hcl.out 2 (fun m hm => by simp only [dep5, List.mem_cons, List.not_mem_nil, or_false] at hm; subst hm; assumption))
            have d1 := HI.out.h1 x1
            subst d1
            clear ho hdep hD
            refine wpOp_step rfl (fun K hK => ?_)
            go_simp
            exact hK _ _ (.inl ⟨⟨H10.out, Hc2.out⟩, _, _, _, _, _, _, _, _, _, _, rfl, HI.out.at2⟩)
          · obtain rfl := Option.some.inj ho
            have x2 := hdep ⟨2, .data⟩ (by simp) rfl
            have Hc2 := hide (clo_set Hcl.out 3 (fun m hm => by simp only [dep5, List.mem_cons, List.not_mem_nil, or_false] at hm; subst hm; assumption))
            have d2 := HI.out.h2 x2
            subst d2
            clear ho hdep hD
            refine wpOp_step rfl (fun K hK => ?_)
            go_simp
            exact hK _ _ (.inl ⟨⟨H10.out, Hc2.out⟩, _, _, _, _, _, _, _, _, _, _, rfl, HI.out.at3⟩)
          · obtain rfl := Option.some.inj ho
            have x3 := hdep ⟨3, .data⟩ (by simp) rfl
            have Hc2 := hide (clo_set Hcl.out 4 (fun m hm => by simp only [dep5, List.mem_cons, List.not_mem_nil, or_false] at hm; subst hm; assumption))
            have d3 := HI.out.h3 x3
            subst d3
            have h7 : D 7 = false := by
              cases e : D 7
              · rfl
              · have := Hcl.out 7 e 4 (by decide); rw [hD] at this; cases this
            have c0 := grow_cell (HI.out.hb h7) _ _ k0
            clear ho hdep hD
            refine wpOp_step rfl (fun K hK => ?_)
            go_simp
            exact hK _ _ (.inl ⟨⟨H10.out, Hc2.out⟩, _, _, _, _, _, _, _, _, _, _, rfl, HI.out.at4⟩)
          · obtain rfl := Option.some.inj ho
            have Hc2 := hide (clo_set Hcl.out 5 (fun m hm => by simp only [dep5, List.not_mem_nil] at hm))
            have h7 : D 7 = false := by
              cases e : D 7
              · rfl
              · have := Hcl.out 6 (Hcl.out 7 e 6 (by decide)) 5 (by decide); rw [hD] at this; cases this
            have c0 := grow_cell (HI.out.hb h7) _ _ m0
            clear ho hdep hD
            refine wpOp_step rfl (fun K hK => ?_)
            go_simp
            exact hK _ _ (.inl ⟨⟨H10.out, Hc2.out⟩, _, _, _, _, _, _, _, _, _, _, rfl, HI.out.at5⟩)
          · obtain rfl := Option.some.inj ho
            have x5 := hdep ⟨5, .data⟩ (by simp) rfl
            have Hc2 := hide (clo_set Hcl.out 6 (fun m hm => by simp only [dep5, List.mem_cons, List.not_mem_nil, or_false] at hm; subst hm; assumption))
            have d5 := HI.out.h5 x5
            subst d5
            have h7 : D 7 = false := by
              cases e : D 7
              · rfl
              · have := Hcl.out 7 e 6 (by decide); rw [hD] at this; cases this
            have HI2 := hide (HI.out.at6 h7)
            clear ho hdep hD
            refine wpOp_step rfl (fun K hK => ?_)
            go_simp
            exact hK _ _ (.inl ⟨⟨H10.out, Hc2.out⟩, _, _, _, _, _, _, _, _, _, _, rfl, HI2.out⟩)
          · obtain rfl := Option.some.inj ho
            have x4 := hdep ⟨4, .data⟩ (by simp) rfl
            have x6 := hdep ⟨6, .data⟩ (by simp) rfl
            have Hc2 := hide (clo_set Hcl.out 7 (fun m hm => by simp only [dep5, List.mem_cons, List.not_mem_nil, or_false] at hm; rcases hm with rfl | rfl <;> assumption))
            have d4 := HI.out.h4 x4
            subst d4
            obtain ⟨g9, r1, r2⟩ := HI.out.h6 x6 hD
            have hb7 := HI.out.hb hD
            have HL7 := hide (Hop.out.below hb7)
            obtain ⟨v6, w6, hrun, ho6, hg6, hat6, hsl6⟩ := run_append_sl (P := Tryz.prog) w' 31 31 lo 25 iC 24 Tryz.underlying31 HiC.out.1 HiC.out.2.1 HiC.out.2.2.1 HiC.out.2.2.2 (.slice v1 cs.length v3) cs.length xs HL7.out.row HL7.out.sl ⟨g9, 0, none⟩ 1 1 [.slice n1 nc.2.length n3] rfl (fun j u hj => by cases j with | zero => (simp only [List.getElem?_cons_zero, Option.some.injEq] at hj; subst hj; rw [add_plain]; exact r2) | succ j => simp at hj) (fun u hu => by simp at hu; exact ⟨_, _, _, hu⟩) (by omega) (by unfold maxLen; omega) (by omega) (Nat.le_of_lt (Nat.lt_of_le_of_lt HL7.out.po.1 HL7.out.po.2))
            have HI2 := hide (HI.out.at7 (w4 := w6) (v4 := v6) ⟨w', hb7, ho6, hg6, hat6, hsl6⟩)
            have Hrun := hide hrun
            have Hr1 := hide r1
            clear ho6 hg6 hat6 hsl6 hrun r1 r2 hb7
            clear ho hdep hD
            refine wpOp_step rfl (fun K hK => ?_)
            rw [if_pos (show Region.wanted _ _ = true from rfl)]
            refine wp_append_is (.tmp 33) (.tmp 35) 31 rfl _ _ v6 w6 rfl Hr1.out Hrun.out ?_
            exact hK _ _ (.inl ⟨⟨H10.out, Hc2.out⟩, _, _, _, _, _, _, _, _, _, _, rfl, HI2.out⟩)
          · obtain rfl := Option.some.inj ho
            have x0 := hdep ⟨0, .data⟩ (by simp) rfl
            have Hc2 := hide (clo_set Hcl.out 8 (fun m hm => by simp only [dep5, List.mem_cons, List.not_mem_nil, or_false] at hm; subst hm; assumption))
            have d0 := HI.out.h0 x0
            subst d0
            clear ho hdep hD
            refine wpOp_step rfl (fun K hK => ?_)
            go_simp
            exact hK _ _ (.inl ⟨⟨H10.out, Hc2.out⟩, _, _, _, _, _, _, _, _, _, _, rfl, HI.out.at8⟩)
          · obtain rfl := Option.some.inj ho
            have x8 := hdep ⟨8, .data⟩ (by simp) rfl
            have Hc2 := hide (clo_set Hcl.out 9 (fun m hm => by simp only [dep5, List.mem_cons, List.not_mem_nil, or_false] at hm; subst hm; assumption))
            have d8 := HI.out.h8 x8
            subst d8
            clear ho hdep hD
            refine wpOp_step rfl (fun K hK => ?_)
            go_simp
            exact hK _ _ (.inl ⟨⟨H10.out, Hc2.out⟩, _, _, _, _, _, _, _, _, _, _, rfl, HI.out.at9⟩)
          · obtain rfl := Option.some.inj ho
            have x9 := hdep ⟨9, .data⟩ (by simp) rfl
            have x7 := hdep ⟨7, .data⟩ (by simp) rfl
            have Hc2 := hide (clo_set Hcl.out 10 (fun m hm => by simp only [dep5, List.mem_cons, List.not_mem_nil, or_false] at hm; rcases hm with rfl | rfl <;> assumption))
            have d9 := HI.out.h9 x9
            subst d9
            obtain ⟨w3, t1, t2, t3, t4, t5⟩ := HI.out.h7 x7
            obtain ⟨hP1, hP2, c0, cf⟩ := Hop.out.push HN.out t1 t2 t3 t4 t5
            obtain ⟨z1, z3, hu⟩ := hP1.slice
            rw [show (cs ++ [nc.2]).length = cs.length + 1 by simp] at hu
            subst hu
            have Hall := hide (all5 Hcl.out x9 x7)
            have Hfin : Hid (AddLPost lo w p (cs, lost) nc (.slice v1 cs.length v3) (.returned (.tuple #[])) (w'.setCell ⟨p, 0, none⟩ (.slice z1 (cs.length + 1) z3))) := by
                refine ⟨rfl, _, _, by rw [Hf.out]; exact hP1, (Fr.of_below Hw.out (some p) _).trans hP2 (fun q hq h => h), ?_⟩
                rcases t4 with e | e
                · exact .inl e
                · exact .inr ⟨_, e, by have := Hw.out.size; have := t1.size; omega⟩
            clear hP1 hP2 t1 t2 t3 t4 t5
            clear ho hdep hD
            refine wpOp_step rfl (fun K hK => ?_)
            go_simp
            exact hK _ _ (.inr ⟨Hall.out, Hfin.out, _, _, _, _, _, _, _, _, _, _, rfl⟩)
        · exact absurd (hall i hi) (by rw [hD]; decide)
      · rintro D a w' (⟨⟨h10, -⟩, -⟩ | ⟨-, hfin, s29, s30, s31, s32, s33, s34, s35, s36, s37, s38, rfl⟩) hall
        · rw [hall 10 (by decide)] at h10; cases h10
        · have Hfin := hide hfin
          clear hfin hall
          go_end0
          exact Hfin.out
    · have Hf := hide (addP_had (st := (cs, lost)) H0.out Hany.out)
      clear hb4 Hany
      go_wp2_with fail
      refine bodyPost_ret (results_none rfl _ _ _) rfl ⟨rfl, _, xs, by rw [Hf.out]; exact HL.out, Fr.of_below Hw.out _ _, .inl rfl⟩

end Go.Proofs.YtaliegkkdhkfcacGreatDoor
