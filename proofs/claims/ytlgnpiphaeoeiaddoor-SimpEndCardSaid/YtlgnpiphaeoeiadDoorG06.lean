/- RRow RPut RVars ROrd CP Rep -/
import Derived.Test.YtlgnpiphaeoeiadDoorG05
import Derived.Deep.RegionWith
import Derived.Deep.RegionHeld3
namespace Go.Proofs.YtlgnpiphaeoeiadDoor
open Go.RowKit Go.Deep Go.ChangeShapes Go.WideShapes
def Rm (B : Nat) (X : Nat → Prop) (w : World) (v : Value) : Nat → Prop := fun q => X q ∨ (B + 1 ≤ q ∧ q < w.heap.size ∧ some q ≠ v.ownBlock)
theorem row_step {B : Nat} {X : Nat → Prop} {wr w1 w3 : World} {acc : Fo} {v v' : Value} {x : Bool × Int} {k : Fo} {a : Value} {g cap : Nat} {xs : List Value} {ob : Obj}
    (h1 : wr.ownsRow (B + 1) 37 3 v (Fo.len acc) xs) (h2 : CellsOf (Rm B X wr v) wr acc xs) (hX : ∀ q, X q → q < B) (hBl : B < wr.heap.size) (hBc : ∃ u, wr.cell? ⟨B, 2, none⟩ = some u)
    (hsz : wr.heap.size ≤ w1.heap.size) (hb : ∀ q, X q ∨ B ≤ q → q < wr.heap.size → w1.heap[q]? = wr.heap[q]?) (hk : SB (fun q => X q ∨ (wr.heap.size ≤ q ∧ q < w1.heap.size)) w1 k a)
    (hv' : v' = .slice (some ⟨g, 0, none⟩) (Fo.len acc + 1) cap) (ho : w3.ownsRow (B + 1) 37 3 v' (Fo.len acc + 1) (xs ++ [.bool x.1, .int .i64 x.2, a])) (hg : (w1.alloc ob).grownBy w3 v.ownBlock)
    (hat : v.ownBlock = some g ∨ g = w1.heap.size + 1) (hlt : g < w3.heap.size) :
    (w3.setCell ⟨B, 2, none⟩ v').ownsRow (B + 1) 37 3 v' (Fo.len (Fo.snoc acc x k)) (xs ++ [.bool x.1, .int .i64 x.2, a]) ∧ CellsOf (Rm B X (w3.setCell ⟨B, 2, none⟩ v') v') (w3.setCell ⟨B, 2, none⟩ v') (Fo.snoc acc x k) (xs ++ [.bool x.1, .int .i64 x.2, a]) ∧
    (w3.setCell ⟨B, 2, none⟩ v').cell? ⟨B, 2, none⟩ = some v' ∧ (∀ q, q < w1.heap.size → some q ≠ v.ownBlock → q ≠ B → (w3.setCell ⟨B, 2, none⟩ v').heap[q]? = w1.heap[q]?) ∧
    (∀ i, i ≠ 2 → (w3.setCell ⟨B, 2, none⟩ v').cell? ⟨B, i, none⟩ = wr.cell? ⟨B, i, none⟩) ∧ (∀ i, (w3.setCell ⟨B, 2, none⟩ v').frozen? ⟨B, i, none⟩ = wr.frozen? ⟨B, i, none⟩) ∧ w1.heap.size < (w3.setCell ⟨B, 2, none⟩ v').heap.size := by
  have hs3 := hg.size
  simp at hs3
  have hBo : some B ≠ v.ownBlock := fun e => by have := (owns_at h1 B e.symm).1; omega
  have far : ∀ q, q < w1.heap.size → some q ≠ v.ownBlock → q ≠ B → (w3.setCell ⟨B, 2, none⟩ v').heap[q]? = w1.heap[q]? := fun q hq hn hqB => by
    rw [Below.heap_setCell _ _ _ _ hqB, hg.block q (by simp; omega) hn, Below.heap_alloc _ _ _ hq]
  have farB : w3.heap[B]? = wr.heap[B]? := by rw [hg.block B (by simp; omega) hBo, Below.heap_alloc _ _ _ (by omega), hb B (.inr (Nat.le_refl _)) hBl]
  have hv'g : v'.ownBlock = some g := by rw [hv']; rfl
  have hgB : B + 1 ≤ g := (owns_at ho g hv'g).1
  refine ⟨by rw [snoc_len]; exact ownsRow_setCell_below ho (by simp) _, ?_, ?_, far, ?_, ?_, by rw [World.size_setCell]; omega⟩
  · refine CellsOf.snoc ?_ ?_
    · refine hk.frame (fun q hq => ?_) (fun q i hq => World.cell?_of_block (far q ?_ ?_ ?_))
      · rcases hq with hq | ⟨q1, q2⟩
        · exact .inl hq
        · refine .inr ⟨by omega, by rw [World.size_setCell]; omega, ?_⟩
          rw [hv'g]
          intro e
          simp at e
          subst e
          rcases hat with e | e
          · have := (owns_at h1 _ e).2; omega
          · omega
      · rcases hq with hq | hq
        · have := hX q hq; omega
        · exact hq.2
      · intro e
        have h3 := owns_at h1 _ e.symm
        rcases hq with hq | hq
        · have := hX q hq; omega
        · omega
      · rcases hq with hq | hq
        · have := hX q hq; omega
        · omega
    · refine CellsOf.frame (fun q hq => ?_) (fun q i hq => ?_) h2
      · rcases hq with hq | ⟨q1, q2, q3⟩
        · exact .inl hq
        · refine .inr ⟨q1, by rw [World.size_setCell]; omega, ?_⟩
          rw [hv'g]
          intro e
          simp at e
          subst e
          rcases hat with e | e
          · exact q3 e.symm
          · omega
      · have hq' : q < wr.heap.size ∧ (X q ∨ B ≤ q) ∧ some q ≠ v.ownBlock ∧ q ≠ B := by
          rcases hq with hq | ⟨q1, q2, q3⟩
          · have := hX q hq
            exact ⟨by omega, .inl hq, fun e => by have := (owns_at h1 _ e.symm).1; omega, by omega⟩
          · exact ⟨q2, .inr (by omega), q3, by omega⟩
        exact World.cell?_of_block ((far q (by omega) hq'.2.2.1 hq'.2.2.2).trans (hb q hq'.2.1 hq'.1))
  · obtain ⟨u, hu⟩ := hBc
    exact set_same (u := u) (by rw [World.cell?_of_block farB]; exact hu)
  · intro i hi
    rw [set_other (by intro e; simp only [Addr.mk.injEq] at e; omega)]
    exact World.cell?_of_block farB
  · intro i
    rw [World.frozen?_setCell]
    exact World.frozen?_of_block farB
end Go.Proofs.YtlgnpiphaeoeiadDoor

namespace Go.Proofs.YtlgnpiphaeoeiadDoor
open Go.RowKit Go.Deep Go.ChangeShapes Go.WideShapes
attribute [local go_sem ↓] Go.wp_at_zero Go.wp_at_succ
theorem new_cell {w0 : World} {n i : Nat} {c : Array Value} {t : TypeId} (h : w0.heap.size = n) : (w0.alloc (.cells c t)).cell? ⟨n, i, none⟩ = c[i]? := by subst h; simp
theorem new_frozen {w0 : World} {n i : Nat} {c : Array Value} {t : TypeId} (h : w0.heap.size = n) : (w0.alloc (.cells c t)).frozen? ⟨n, i, none⟩ = false := by subst h; simp
theorem size2 (w : World) (o1 o2 : Obj) : ((w.alloc o1).alloc o2).heap.size = w.heap.size + 2 := by rw [World.size_alloc, World.size_alloc]
theorem out_cell {wa w3 : World} {ob : Obj} {row : Option Nat} {B i : Nat} {u : Value} (hg : (wa.alloc ob).grownBy w3 row) (hB : B < wa.heap.size) (hn : some B ≠ row) (h : wa.cell? ⟨B, i, none⟩ = some u) : w3.cell? ⟨B, i, none⟩ = some u := by
  rw [hg.cell_far ⟨B, i, none⟩ (by simp; omega) hn, World.cell?_alloc_lt _ _ _ hB]; exact h
theorem out_frozen {wa w3 : World} {ob : Obj} {row : Option Nat} {B : Nat} (hg : (wa.alloc ob).grownBy w3 row) (hB : B < wa.heap.size) (hn : some B ≠ row) (h : ∀ i, wa.frozen? ⟨B, i, none⟩ = false) : ∀ i, w3.frozen? ⟨B, i, none⟩ = false := fun i => by
  rw [hg.frozen_far ⟨B, i, none⟩ (by simp; omega) hn, World.frozen?_of_block (Below.heap_alloc wa ob B hB)]; exact h i
end Go.Proofs.YtlgnpiphaeoeiadDoor

namespace Go.Proofs.YtlgnpiphaeoeiadDoor
open Go.RowKit Go.Deep Go.ChangeShapes Go.WideShapes
attribute [local go_sem ↓] Go.wp_at_zero Go.wp_at_succ
theorem nin_slice {w : World} {l : List Int} {v : Value} (h : NIn w l v) : ∃ z1 z3, v = .slice z1 l.length z3 := by
  obtain ⟨_, _, _, _, rfl, _⟩ := h
  exact ⟨_, _, rfl⟩
end Go.Proofs.YtlgnpiphaeoeiadDoor

namespace Go.Proofs.YtlgnpiphaeoeiadDoor
open Go.RowKit Go.Deep Go.ChangeShapes Go.WideShapes
attribute [local go_sem ↓] Go.wp_at_zero Go.wp_at_succ
theorem timF_le (v : Int) : ∀ F : Fo, timF v F ≤ Fo.sizesR F
  | .nil => Nat.le_refl _
  | .node _ _ x k r => by
    have h1 := timF_le v k
    have h2 := timF_le v r
    rw [timF, Fo.sizesR]
    split <;> omega
theorem timT_le (v : Int) (t : Tm) : timT v t ≤ szT t := by
  have := timF_le v t.2
  unfold timT szT tszR
  split <;> omega
def tmTo (v : Int) (x : Bool × Int) (k : Fo) (j : Nat) : Nat := (if x.1 = true ∧ x.2 = v then 1 else 0) + ((k.list.take j).map (timT v)).sum
theorem tmTo_zero (v : Int) (x : Bool × Int) (k : Fo) : tmTo v x k 0 = if x.1 = true ∧ x.2 = v then 1 else 0 := by simp [tmTo]
theorem tmTo_succ {v : Int} {x : Bool × Int} {k : Fo} {j : Nat} {t : Tm} (h : k.list[j]? = some t) : tmTo v x k (j + 1) = tmTo v x k j + timT v t := by
  unfold tmTo; rw [List.take_add_one, h]; simp; omega
theorem tmTo_end (v : Int) (x : Bool × Int) (k : Fo) : tmTo v x k (Fo.len k) = timT v (x, k) := by
  show _ = (if x.1 = true ∧ x.2 = v then 1 else 0) + timF v k
  unfold tmTo; rw [← Fo.len_list, List.take_length, timF_list]
theorem lexF_at : ∀ {k l : Fo} {j : Nat} {t u : Tm}, (∀ q, q < j → ∀ t' u' : Tm, k.list[q]? = some t' → l.list[q]? = some u' → sameT t'.1 t'.2 u'.1 u'.2 = true) → k.list[j]? = some t → l.list[j]? = some u → sameT t.1 t.2 u.1 u.2 = false → lexF k l = abvT t u
  | .nil, _, _, _, _, _, h, _, _ => by simp [Fo.list] at h
  | .node _ _ _ _ _, .nil, _, _, _, _, _, h, _ => by simp [Fo.list] at h
  | .node _ _ x k r, .node _ _ y l q, 0, t, u, _, h1, h2, h3 => by
    simp only [Fo.list, List.getElem?_cons_zero, Option.some.injEq] at h1 h2
    subst h1 h2
    rw [lexF, if_neg (by rw [h3]; decide)]
    rfl
  | .node _ _ x k r, .node _ _ y l q, j + 1, t, u, ha, h1, h2, h3 => by
    rw [lexF, if_pos (ha 0 (by omega) (x, k) (y, l) rfl rfl)]
    exact lexF_at (j := j) (fun i hi t' u' e1 e2 => ha (i + 1) (by omega) t' u' (by simpa [Fo.list] using e1) (by simpa [Fo.list] using e2)) (by simpa [Fo.list] using h1) (by simpa [Fo.list] using h2) h3
theorem lexF_end : ∀ {k l : Fo}, (∀ q : Nat, ∀ t' u' : Tm, k.list[q]? = some t' → l.list[q]? = some u' → sameT t'.1 t'.2 u'.1 u'.2 = true) → lexF k l = false
  | .nil, _, _ => rfl
  | .node _ _ _ _ _, .nil, _ => rfl
  | .node _ _ x k r, .node _ _ y l q, ha => by
    rw [lexF, if_pos (ha 0 (x, k) (y, l) rfl rfl)]
    exact lexF_end (fun i t' u' e1 e2 => ha (i + 1) t' u' (by simpa [Fo.list] using e1) (by simpa [Fo.list] using e2))
theorem ne_dec (p q : Nat) : ((p : Int) != (q : Int)) = decide (p ≠ q) := by
  by_cases h : p = q
  · subst h; simp
  · rw [decide_eq_true h, bne_iff_ne]; omega
theorem abv_may {n : Int} {k : Fo} {b : Tm} (h : mayT ((false, n), k) b = false) : abvT ((false, n), k) b = false := by
  unfold abvT hdT
  simp [h]
theorem abv_size {n : Int} {k : Fo} {y : Bool × Int} {l : Fo} (h : mayT ((false, n), k) (y, l) = true) (hs : tszR k ≠ tszR l) : abvT ((false, n), k) (y, l) = decide (tszR l < tszR k) := by
  unfold abvT hdT
  simp only
  rw [if_neg (by decide), if_neg (by rw [h]; decide), if_pos hs]
theorem abv_less {n : Int} {k : Fo} {y : Bool × Int} {l : Fo} (h : mayT ((false, n), k) (y, l) = true) (hs : tszR k = tszR l) (hy : (y.1 || decide (n < y.2)) = true) : abvT ((false, n), k) (y, l) = false := by
  unfold abvT hdT
  simp only
  rw [if_neg (by decide), if_neg (by rw [h]; decide), if_neg (by simp [hs]), if_pos hy]
theorem abv_sym {n : Int} {k : Fo} {y : Bool × Int} {l : Fo} (h : mayT ((false, n), k) (y, l) = true) (hs : tszR k = tszR l) (hy : (y.1 || decide (n < y.2)) = false) (hn : y.2 < n) : abvT ((false, n), k) (y, l) = true := by
  unfold abvT hdT
  simp only
  rw [if_neg (by decide), if_neg (by rw [h]; decide), if_neg (by simp [hs]), if_neg (by rw [hy]; decide), if_pos hn]
theorem abv_args {n : Int} {k : Fo} {y : Bool × Int} {l : Fo} (h : mayT ((false, n), k) (y, l) = true) (hs : tszR k = tszR l) (hy : (y.1 || decide (n < y.2)) = false) (hn : ¬ y.2 < n) : abvT ((false, n), k) (y, l) = lexF k l := by
  unfold abvT hdT
  simp only
  rw [if_neg (by decide), if_neg (by rw [h]; decide), if_neg (by simp [hs]), if_neg (by rw [hy]; decide), if_neg hn]
def cmpT (a b : Tm) : Int := if sameT a.1 a.2 b.1 b.2 then 2 else if abvT a b then 3 else if abvT b a then 1 else 0
end Go.Proofs.YtlgnpiphaeoeiadDoor

namespace Go.Proofs.YtlgnpiphaeoeiadDoor
open Go.RowKit Go.Deep Go.ChangeShapes Go.WideShapes
abbrev Lt := Bool × Tm × Tm
abbrev Cl := List Lt
def sameL (a b : Lt) : Bool := a.1 == b.1 && sameT a.2.1.1 a.2.1.2 b.2.1.1 b.2.1.2 && sameT a.2.2.1 a.2.2.2 b.2.2.1 b.2.2.2
def sameC : Cl → Cl → Bool
  | [], [] => true
  | a :: c, b :: d => sameL a b && sameC c d
  | _, _ => false
theorem sameC_len : ∀ {c d : Cl}, c.length ≠ d.length → sameC c d = false
  | [], [], h => absurd rfl h
  | [], _ :: _, _ => rfl
  | _ :: _, [], _ => rfl
  | a :: c, b :: d, h => by rw [sameC, sameC_len (c := c) (d := d) (by simpa using h), Bool.and_false]
theorem sameC_no : ∀ {c d : Cl} {j : Nat} {a b : Lt}, c[j]? = some a → d[j]? = some b → sameL a b = false → sameC c d = false
  | [], _, _, _, _, h, _, _ => by simp at h
  | _ :: _, [], _, _, _, _, h, _ => by simp at h
  | x :: c, y :: d, 0, a, b, ha, hb, h => by
    simp only [List.getElem?_cons_zero, Option.some.injEq] at ha hb
    subst ha; subst hb
    rw [sameC, h, Bool.false_and]
  | x :: c, y :: d, j + 1, a, b, ha, hb, h => by
    rw [sameC, sameC_no (c := c) (d := d) (j := j) (by simpa using ha) (by simpa using hb) h, Bool.and_false]
theorem sameC_yes : ∀ {c d : Cl}, c.length = d.length → (∀ i, i < c.length → ∀ a b, c[i]? = some a → d[i]? = some b → sameL a b = true) → sameC c d = true
  | [], [], _, _ => rfl
  | [], _ :: _, h, _ => by simp at h
  | _ :: _, [], h, _ => by simp at h
  | x :: c, y :: d, hl, h => by
    rw [sameC, h 0 (by simp) x y (by simp) (by simp), sameC_yes (c := c) (d := d) (by simpa using hl) (fun i hi a b ha hb => h (i + 1) (by simpa using hi) a b (by simpa using ha) (by simpa using hb))]
    rfl
def varsL (l : Lt) (v : List Int) : List Int := varsT l.2.2.1 l.2.2.2 (varsT l.2.1.1 l.2.1.2 v)
def varsC (c : Cl) (v : List Int) : List Int := c.foldl (fun v l => varsL l v) v
theorem varsC_take {c : Cl} {j : Nat} {l : Lt} {v : List Int} (h : c[j]? = some l) : varsC (c.take (j + 1)) v = varsL l (varsC (c.take j) v) := by
  rw [List.take_add_one, h]
  simp [varsC, List.foldl_append]
def wrongL (s : List Int) (l : Lt) : Int := if wrongF s l.2.1.1 l.2.1.2 ≠ 0 then wrongF s l.2.1.1 l.2.1.2 else wrongF s l.2.2.1 l.2.2.2
def wrongLs (s : List Int) : Cl → Int
  | [] => 0
  | l :: c => if wrongL s l ≠ 0 then wrongL s l else wrongLs s c
def wrongC (s : List Int) (c : Cl) : Int := if 4 < c.length then 5 else wrongLs s c
theorem wrongLs_at {s : List Int} : ∀ {c : Cl} {j : Nat} {l : Lt}, (∀ i, i < j → ∀ a, c[i]? = some a → wrongL s a = 0) → c[j]? = some l → wrongL s l ≠ 0 → wrongLs s c = wrongL s l
  | [], _, _, _, h, _ => by simp at h
  | x :: c, 0, l, _, h, hn => by
    simp only [List.getElem?_cons_zero, Option.some.injEq] at h
    subst h
    rw [wrongLs, if_pos hn]
  | x :: c, j + 1, l, h0, h, hn => by
    rw [wrongLs, if_neg (by simp [h0 0 (by omega) x (by simp)])]
    exact wrongLs_at (j := j) (fun i hi a ha => h0 (i + 1) (by omega) a (by simpa using ha)) (by simpa using h) hn
theorem wrongLs_iff {s : List Int} : ∀ {c : Cl}, wrongLs s c = 0 ↔ ∀ l ∈ c, wrongL s l = 0
  | [] => by simp [wrongLs]
  | x :: c => by
    rw [wrongLs]
    by_cases h : wrongL s x = 0
    · rw [if_neg (by simp [h]), wrongLs_iff (c := c)]
      simp [h]
    · rw [if_pos h]
      simp [h]
theorem wrongL_iff {s : List Int} {l : Lt} : wrongL s l = 0 ↔ wrongF s l.2.1.1 l.2.1.2 = 0 ∧ wrongF s l.2.2.1 l.2.2.2 = 0 := by
  unfold wrongL
  by_cases h : wrongF s l.2.1.1 l.2.1.2 = 0
  · rw [if_neg (by simp [h])]; simp [h]
  · rw [if_pos h]; simp [h]
theorem wrongC_iff {s : List Int} {c : Cl} : wrongC s c = 0 ↔ c.length ≤ 4 ∧ ∀ l ∈ c, wrongF s l.2.1.1 l.2.1.2 = 0 ∧ wrongF s l.2.2.1 l.2.2.2 = 0 := by
  unfold wrongC
  by_cases h : 4 < c.length
  · rw [if_pos h]; constructor
    · intro e; simp at e
    · intro e; omega
  · rw [if_neg h, wrongLs_iff]
    constructor
    · exact fun e => ⟨by omega, fun l hl => wrongL_iff.1 (e l hl)⟩
    · exact fun e l hl => wrongL_iff.2 (e.2 l hl)
def mapL (f : Tm → Tm) (l : Lt) : Lt := (l.1, f l.2.1, f l.2.2)
def flipL (l : Lt) : Lt := if abvT l.2.2 l.2.1 then (l.1, l.2.2, l.2.1) else l
def tstep (o : Option Cl) (l : Lt) : Option Cl := o.bind fun out => if sameT l.2.1.1 l.2.1.2 l.2.2.1 l.2.2.2 then (if l.1 then some out else none) else some (out ++ [flipL l])
def turnC (c : Cl) : Option Cl := c.foldl tstep (some [])
def likeL (a b : Lt) : Bool := (sameT a.2.1.1 a.2.1.2 b.2.1.1 b.2.1.2 && sameT a.2.2.1 a.2.2.2 b.2.2.1 b.2.2.2) || (sameT a.2.1.1 a.2.1.2 b.2.2.1 b.2.2.2 && sameT a.2.2.1 a.2.2.2 b.2.1.1 b.2.1.2)
def dstep (o : Option Cl) (l : Lt) : Option Cl := o.bind fun out => match out.find? (fun f => likeL f l) with
  | none => some (out ++ [l])
  | some f => if f.1 = l.1 then some out else none
def distC (c : Cl) : Option Cl := c.foldl dstep (some [])
theorem fold_none {f : Option Cl → Lt → Option Cl} (hf : ∀ l, f none l = none) : ∀ c : Cl, c.foldl f none = none
  | [] => rfl
  | l :: c => by rw [List.foldl_cons, hf, fold_none hf c]
theorem fold_take {f : Option Cl → Lt → Option Cl} {c : Cl} {j : Nat} {l : Lt} {o : Option Cl} (h : c[j]? = some l) : (c.take (j + 1)).foldl f o = f ((c.take j).foldl f o) l := by
  rw [List.take_add_one, h]
  simp [List.foldl_append]
theorem fold_stop {f : Option Cl → Lt → Option Cl} (hf : ∀ l, f none l = none) {c : Cl} {j : Nat} {o : Option Cl} (h : (c.take j).foldl f o = none) : c.foldl f o = none := by
  rw [← List.take_append_drop j c, List.foldl_append, h, fold_none hf]
theorem turn_take {c : Cl} {j : Nat} {l : Lt} (h : c[j]? = some l) : turnC (c.take (j + 1)) = tstep (turnC (c.take j)) l := fold_take h
theorem turn_stop {c : Cl} {j : Nat} (h : turnC (c.take j) = none) : turnC c = none := fold_stop (fun _ => rfl) h
theorem dist_take {c : Cl} {j : Nat} {l : Lt} (h : c[j]? = some l) : distC (c.take (j + 1)) = dstep (distC (c.take j)) l := fold_take h
theorem dist_stop {c : Cl} {j : Nat} (h : distC (c.take j) = none) : distC c = none := fold_stop (fun _ => rfl) h
def numS (vs : List Int) : Sb := vs.mapIdx fun i v => (v, vr i)
def bigL (l : Lt) : Bool := decide (12 < tszR l.2.1.2) || decide (12 < tszR l.2.2.2)
def reN (d : Cl) : Cl := d.map (mapL (subT (bnd (numS (varsC d [])))))
def keepC (d e : Cl) : Int × Cl := if 4 < e.length ∨ 5 < (varsC d []).length ∨ e.any bigL = true then (4, []) else (0, e)
def normC (c : Cl) : Int × Cl := match turnC c with
  | none => (6, [])
  | some d => match distC (reN d) with
    | none => (6, [])
    | some e => keepC d e
structure GL (l : Lt) : Prop where
  gl : Gd l.2.1
  gr : Gd l.2.2
  fl : ∀ m, occT m l.2.1 → m ≤ 4
  fr : ∀ m, occT m l.2.2 → m ≤ 4
  sl : tszR l.2.1.2 ≤ 12
  sr : tszR l.2.2.2 ≤ 12
def GC (c : Cl) : Prop := c.length ≤ 4 ∧ ∀ l ∈ c, GL l
theorem GL.flip {l : Lt} (h : GL l) : GL (flipL l) := by
  unfold flipL
  split
  · exact ⟨h.gr, h.gl, h.fr, h.fl, h.sr, h.sl⟩
  · exact h
theorem tstep_mem {o : Option Cl} {l : Lt} {d : Cl} {p : Lt → Prop} (h : tstep o l = some d) (h0 : ∀ e, o = some e → ∀ x ∈ e, p x) (h1 : p (flipL l)) : ∀ x ∈ d, p x := by
  cases o with
  | none => simp [tstep] at h
  | some e =>
    simp only [tstep, Option.bind_some] at h
    split at h
    · split at h
      · obtain rfl := Option.some.inj h; exact h0 _ rfl
      · cases h
    · cases h
      intro x hx
      rcases List.mem_append.1 hx with hx | hx
      · exact h0 e rfl x hx
      · simp at hx; rw [hx]; exact h1
theorem turn_mem {p : Lt → Prop} : ∀ {c : Cl} {o : Option Cl} {d : Cl}, c.foldl tstep o = some d → (∀ e, o = some e → ∀ x ∈ e, p x) → (∀ l ∈ c, p (flipL l)) → ∀ x ∈ d, p x
  | [], o, d, h, h0, _ => h0 d h
  | l :: c, o, d, h, h0, h1 => turn_mem (c := c) (o := tstep o l) h (fun e he => tstep_mem he h0 (h1 l (by simp))) (fun x hx => h1 x (by simp [hx]))
theorem tstep_len {o : Option Cl} {l : Lt} {d : Cl} {n : Nat} (h : tstep o l = some d) (h0 : ∀ e, o = some e → e.length ≤ n) : d.length ≤ n + 1 := by
  cases o with
  | none => simp [tstep] at h
  | some e =>
    have := h0 e rfl
    simp only [tstep, Option.bind_some] at h
    split at h
    · split at h
      · cases h; omega
      · cases h
    · cases h; simp; omega
theorem turn_len : ∀ {c : Cl} {o : Option Cl} {d : Cl} {n : Nat}, c.foldl tstep o = some d → (∀ e, o = some e → e.length ≤ n) → d.length ≤ n + c.length
  | [], o, d, n, h, h0 => by have := h0 d h; simpa using this
  | l :: c, o, d, n, h, h0 => by
    have := turn_len (c := c) (o := tstep o l) (n := n + 1) h (fun e he => tstep_len he h0)
    simp; omega
theorem turn_gc {c d : Cl} (h : turnC c = some d) (hc : GC c) : GC d := by
  refine ⟨?_, turn_mem (p := GL) h (fun e he => by cases he; simp) (fun l hl => (hc.2 l hl).flip)⟩
  have := turn_len (n := 0) h (fun e he => by cases he; simp)
  have := hc.1
  omega
theorem dstep_mem {o : Option Cl} {l : Lt} {d : Cl} {p : Lt → Prop} (h : dstep o l = some d) (h0 : ∀ e, o = some e → ∀ x ∈ e, p x) (h1 : p l) : ∀ x ∈ d, p x := by
  cases o with
  | none => simp [dstep] at h
  | some e =>
    simp only [dstep, Option.bind_some] at h
    split at h
    · cases h
      intro x hx
      rcases List.mem_append.1 hx with hx | hx
      · exact h0 e rfl x hx
      · simp at hx; rw [hx]; exact h1
    · split at h
      · obtain rfl := Option.some.inj h; exact h0 _ rfl
      · cases h
theorem dist_mem {p : Lt → Prop} : ∀ {c : Cl} {o : Option Cl} {d : Cl}, c.foldl dstep o = some d → (∀ e, o = some e → ∀ x ∈ e, p x) → (∀ l ∈ c, p l) → ∀ x ∈ d, p x
  | [], o, d, h, h0, _ => h0 d h
  | l :: c, o, d, h, h0, h1 => dist_mem (c := c) (o := dstep o l) h (fun e he => dstep_mem he h0 (h1 l (by simp))) (fun x hx => h1 x (by simp [hx]))
theorem dstep_len {o : Option Cl} {l : Lt} {d : Cl} {n : Nat} (h : dstep o l = some d) (h0 : ∀ e, o = some e → e.length ≤ n) : d.length ≤ n + 1 := by
  cases o with
  | none => simp [dstep] at h
  | some e =>
    have := h0 e rfl
    simp only [dstep, Option.bind_some] at h
    split at h
    · cases h; simp; omega
    · split at h
      · cases h; omega
      · cases h
theorem dist_len : ∀ {c : Cl} {o : Option Cl} {d : Cl} {n : Nat}, c.foldl dstep o = some d → (∀ e, o = some e → e.length ≤ n) → d.length ≤ n + c.length
  | [], o, d, n, h, h0 => by have := h0 d h; simpa using this
  | l :: c, o, d, n, h, h0 => by
    have := dist_len (c := c) (o := dstep o l) (n := n + 1) h (fun e he => dstep_len he h0)
    simp; omega
theorem like_iff {a b : Lt} (ha : okT a.2.1 ∧ okT a.2.2) (hb : okT b.2.1 ∧ okT b.2.2) : likeL a b = true ↔ (a.2.1 = b.2.1 ∧ a.2.2 = b.2.2) ∨ (a.2.1 = b.2.2 ∧ a.2.2 = b.2.1) := by
  unfold likeL
  rw [Bool.or_eq_true, Bool.and_eq_true, Bool.and_eq_true, sameT_iff ha.1 hb.1, sameT_iff ha.2 hb.2, sameT_iff ha.1 hb.2, sameT_iff ha.2 hb.1]
abbrev okL (l : Lt) : Prop := okT l.2.1 ∧ okT l.2.2
theorem like_comm {a b : Lt} (ha : okL a) (hb : okL b) : likeL a b = likeL b a := by
  rw [Bool.eq_iff_iff, like_iff ha hb, like_iff hb ha]
  constructor <;> (rintro (⟨h1, h2⟩ | ⟨h1, h2⟩) <;> simp [h1, h2])
theorem like_trans {a b c : Lt} (ha : okL a) (hb : okL b) (hc : okL c) (h1 : likeL a b = true) (h2 : likeL b c = true) : likeL a c = true := by
  rw [like_iff ha hb] at h1
  rw [like_iff hb hc] at h2
  rw [like_iff ha hc]
  rcases h1 with ⟨e1, e2⟩ | ⟨e1, e2⟩ <;> rcases h2 with ⟨e3, e4⟩ | ⟨e3, e4⟩ <;> simp [e1, e2, e3, e4]
theorem pw_eq {f g : Lt} : ∀ {out : Cl}, (∀ x ∈ out, okL x) → out.Pairwise (fun a b => likeL a b = false) → f ∈ out → g ∈ out → likeL f g = true → f = g
  | [], _, _, h, _, _ => by cases h
  | x :: c, ho, hp, hf, hg, hl => by
    rw [List.pairwise_cons] at hp
    rcases List.mem_cons.1 hf with e | hf'
    · rcases List.mem_cons.1 hg with e' | hg'
      · rw [e, e']
      · rw [e, hp.1 g hg'] at hl; cases hl
    · rcases List.mem_cons.1 hg with e' | hg'
      · rw [e', like_comm (ho f hf) (ho x (by simp)), hp.1 f hf'] at hl; cases hl
      · exact pw_eq (fun y hy => ho y (by simp [hy])) hp.2 hf' hg' hl
def Kept (P out : Cl) : Prop := (∀ x ∈ out, x ∈ P) ∧ (∀ y ∈ P, ∃ f ∈ out, likeL f y = true ∧ f.1 = y.1) ∧ out.Pairwise fun a b => likeL a b = false
theorem kept_step {P out : Cl} {l : Lt} {o' : Option Cl} (hk : Kept P out) (hP : ∀ x ∈ P, okL x) (hl : okL l) (h : dstep (some out) l = o') :
    (∀ d, o' = some d → Kept (P ++ [l]) d) ∧ (o' = none ↔ ∃ y ∈ P, likeL l y = true ∧ y.1 ≠ l.1) ∧ (o' = some out ↔ (∃ y ∈ P, likeL l y = true) ∧ ¬ ∃ y ∈ P, likeL l y = true ∧ y.1 ≠ l.1) ∧ ((∀ y ∈ P, likeL l y = false) → o' = some (out ++ [l])) := by
  obtain ⟨k1, k2, k3⟩ := hk
  subst h
  simp only [dstep, Option.bind_some]
  cases hf : out.find? (fun f => likeL f l) with
  | none =>
    have hno : ∀ f ∈ out, likeL f l = false := fun f hf' => by
      have := List.find?_eq_none.1 hf f hf'
      simpa using this
    have hnoP : ∀ y ∈ P, likeL l y = false := fun y hy => by
      cases hh : likeL l y with
      | false => rfl
      | true =>
        obtain ⟨f, hf1, hf2, _⟩ := k2 y hy
        have := like_trans (hP f (k1 f hf1)) (hP y hy) hl hf2 (by rw [like_comm (hP y hy) hl]; exact hh)
        rw [hno f hf1] at this; cases this
    dsimp only
    refine ⟨fun d hd => ?_, ⟨fun h => (by cases h), fun ⟨y, hy, h1, _⟩ => (by rw [hnoP y hy] at h1; cases h1)⟩, ⟨fun h => (by simp at h), fun ⟨⟨y, hy, h1⟩, _⟩ => (by rw [hnoP y hy] at h1; cases h1)⟩, fun _ => rfl⟩
    cases hd
    refine ⟨fun x hx => ?_, fun y hy => ?_, ?_⟩
    · rcases List.mem_append.1 hx with hx | hx
      · exact List.mem_append_left _ (k1 x hx)
      · exact List.mem_append_right _ hx
    · rcases List.mem_append.1 hy with hy | hy
      · obtain ⟨f, h1, h2⟩ := k2 y hy
        exact ⟨f, List.mem_append_left _ h1, h2⟩
      · simp at hy; subst hy
        exact ⟨y, by simp, (like_iff hl hl).2 (.inl ⟨rfl, rfl⟩), rfl⟩
    · rw [List.pairwise_append]
      refine ⟨k3, by simp, fun a ha b hb => ?_⟩
      simp at hb; subst hb
      exact hno a ha
  | some f =>
    have hfm : f ∈ out := List.mem_of_find?_eq_some hf
    have hfl : likeL f l = true := by have := List.find?_some hf; simpa using this
    have hall : ∀ y ∈ P, likeL l y = true → y.1 = f.1 := fun y hy hly => by
      obtain ⟨g, g1, g2, g3⟩ := k2 y hy
      have h1 : likeL f g = true := like_trans (hP f (k1 f hfm)) hl (hP g (k1 g g1)) hfl (by
        rw [like_comm hl (hP g (k1 g g1))]
        exact like_trans (hP g (k1 g g1)) (hP y hy) hl g2 (by rw [like_comm (hP y hy) hl]; exact hly))
      have : f = g := pw_eq (fun x hx => hP x (k1 x hx)) k3 hfm g1 h1
      rw [this, g3]
    have hfl' : likeL l f = true := by rw [like_comm hl (hP f (k1 f hfm))]; exact hfl
    dsimp only
    by_cases he : f.1 = l.1
    · rw [if_pos he]
      have hn : ¬ ∃ y ∈ P, likeL l y = true ∧ y.1 ≠ l.1 := fun ⟨y, hy, h1, h2⟩ => h2 ((hall y hy h1).trans he)
      refine ⟨fun d hd => ?_, ⟨fun h => (by cases h), fun h => absurd h hn⟩, ⟨fun _ => ⟨⟨f, k1 f hfm, hfl'⟩, hn⟩, fun _ => rfl⟩, fun h => (by rw [h f (k1 f hfm)] at hfl'; cases hfl')⟩
      cases hd
      refine ⟨fun x hx => List.mem_append_left _ (k1 x hx), fun y hy => ?_, k3⟩
      rcases List.mem_append.1 hy with hy | hy
      · exact k2 y hy
      · simp at hy; subst hy
        exact ⟨f, hfm, hfl, he⟩
    · rw [if_neg he]
      refine ⟨fun d hd => (by cases hd), ⟨fun _ => ⟨f, k1 f hfm, hfl', he⟩, fun _ => rfl⟩, ⟨fun h => (by cases h), fun h => absurd ⟨f, k1 f hfm, hfl', he⟩ h.2⟩, fun h => (by rw [h f (k1 f hfm)] at hfl'; cases hfl')⟩
theorem kept_nil : Kept [] [] := ⟨fun _ h => h, fun _ h => (by cases h), List.Pairwise.nil⟩
theorem dist_kept {P out : Cl} (hP : ∀ x ∈ P, okL x) (h : distC P = some out) : Kept P out := by
  have key : ∀ (n : Nat) (out : Cl), n ≤ P.length → distC (P.take n) = some out → Kept (P.take n) out := by
    intro n
    induction n with
    | zero => intro out _ h; simp [distC] at h; subst h; exact kept_nil
    | succ n ih =>
      intro out hn h
      have hl : P[n]? = some P[n] := List.getElem?_eq_getElem (by omega)
      rw [dist_take hl] at h
      cases hd : distC (P.take n) with
      | none => rw [hd] at h; simp [dstep] at h
      | some e =>
        rw [hd] at h
        have := (kept_step (ih e (by omega) hd) (fun x hx => hP x (List.mem_of_mem_take hx)) (hP _ (List.getElem_mem _)) h).1 out rfl
        rwa [List.take_add_one, hl]
  have := key P.length out (Nat.le_refl _) (by rw [List.take_length]; exact h)
  rwa [List.take_length] at this
end Go.Proofs.YtlgnpiphaeoeiadDoor

namespace Go.Proofs.YtlgnpiphaeoeiadDoor
open Go.RowKit Go.Deep Go.ChangeShapes Go.WideShapes
attribute [local go_sem ↓] Go.wp_at_zero Go.wp_at_succ
set_option maxRecDepth 100000 in
set_option maxHeartbeats 400000 in
theorem variable_any (n : Int) (w : World) : Calls Tryd.prog 61 #[.int .i64 n] w fun e w' => ∃ a, e = .returned (.agg #[.bool (vr n).1.1, .int .i64 (vr n).1.2, a]) ∧ OwnV w' w.heap.size w'.heap.size (vr n).2 a ∧ Below w.heap.size w w' := by
  go_enter Tryd.func61, Tryd.ntmps61
  go_wp2_with fail
  refine bodyPost_ret (v := .agg #[.bool true, .int .i64 n, .slice none 0 0]) (by simp [results, Tryd.results61, go_sem]) rfl ⟨_, rfl, .inl ⟨rfl, rfl⟩, ?_⟩
  exact below_alloc _ _
def RepRel (g : Nat) (W2 : World) (k : Fo) (j : Nat) (wr : World) : Prop :=
  Below g W2 wr ∧ There wr g (Fo.len k * 3) ∧ WIn wr (Fo.take j k) g 0 (g + 1) wr.heap.size ∧ g + 1 ≤ wr.heap.size
theorem rep_step {g : Nat} {W2 wr w2 : World} {k : Fo} {j : Nat} {yv : Bool} {yn : Int} {yk : Fo} {ob : Obj} {a : Value} (h : RepRel g W2 k j wr) (hj : j < Fo.len k) (hy : k.list[j]? = some ((yv, yn), yk))
    (hb : Below (wr.heap.size + 1) (wr.alloc ob) w2) (hO : OwnV w2 (wr.heap.size + 1) w2.heap.size yk a) :
    RepRel g W2 k (j + 1) (set3 w2 g (j * 3) (.bool yv) (.int .i64 yn) a) := by
  obtain ⟨hB, hT, hW, hs⟩ := h
  have hsz : wr.heap.size + 1 ≤ w2.heap.size := by have := hb.size; simpa using this
  have keep : ∀ q i, q < wr.heap.size → w2.cell? ⟨q, i, none⟩ = wr.cell? ⟨q, i, none⟩ ∧ w2.frozen? ⟨q, i, none⟩ = wr.frozen? ⟨q, i, none⟩ := fun q i hq => by
    rw [hb.cell (by show q < _; omega), hb.frozen (by show q < _; omega)]
    exact ⟨World.cell?_alloc_lt _ _ _ hq, (below_alloc wr ob).frozen (p := ⟨q, i, none⟩) hq⟩
  have hT2 : There w2 g (Fo.len k * 3) := fun i hi => by
    obtain ⟨⟨v, hv⟩, hf⟩ := hT i hi
    have := keep g i (by omega)
    exact ⟨⟨v, this.1.trans hv⟩, this.2.trans hf⟩
  obtain ⟨⟨u0, e0⟩, f0⟩ := hT2 (j * 3) (by omega)
  obtain ⟨⟨u1, e1⟩, f1⟩ := hT2 (j * 3 + 1) (by omega)
  obtain ⟨⟨u2, e2⟩, f2⟩ := hT2 (j * 3 + 2) (by omega)
  obtain ⟨g0, g1, g2⟩ := set3_cells (x := .bool yv) (y := .int .i64 yn) (z := a) e0 e1 e2
  refine ⟨set3_below (hB.trans ((below_box (hb.mono (by simp))).mono (by omega))) (Nat.le_refl _), ?_, ?_, by rw [set3_size]; omega⟩
  · intro i hi
    obtain ⟨⟨v, hv⟩, hf⟩ := hT2 i hi
    refine ⟨?_, by rw [set3_frozen]; exact hf⟩
    by_cases hc : i < j * 3 ∨ j * 3 + 3 ≤ i
    · exact ⟨v, by rw [set3_other (.inr hc)]; exact hv⟩
    · have : i = j * 3 ∨ i = j * 3 + 1 ∨ i = j * 3 + 2 := by omega
      rcases this with rfl | rfl | rfl
      · exact ⟨_, g0⟩
      · exact ⟨_, g1⟩
      · exact ⟨_, g2⟩
  · rw [set3_size]
    have e : j * 3 = 0 + 3 * j := by omega
    refine WIn.snoc (mid := wr.heap.size) (a := a) hy (hW.frame ?_ ?_) hs (by omega) (by rw [← e]; exact g0) (by rw [← e]; exact g1) (by rw [← e]; exact g2) (by rw [set3_frozen, ← e]; exact f0) (by rw [set3_frozen, ← e]; exact f1) (by rw [set3_frozen, ← e]; exact f2) ?_
    · intro i _ hi
      rw [take_len j k (by omega)] at hi
      rw [set3_other (.inr (.inl (by omega))), set3_frozen]
      exact keep _ _ (by omega)
    · intro q i q1 q2
      rw [set3_other (.inl (by omega)), set3_frozen]
      exact keep _ _ q2
    · refine (hO.mono (by omega) (Nat.le_refl _)).frame ?_
      intro q i q1 q2
      rw [set3_other (.inl (by omega)), set3_frozen]
      exact ⟨rfl, rfl⟩
theorem rep_start (W2 : World) (k : Fo) (z : Array Value) : RepRel W2.heap.size W2 k 0 (W2.alloc (.cells (madeCells z (Fo.len k * 3)) 37)) := by
  refine ⟨(Below.refl _ _).alloc (Nat.le_refl _) _, fun i hi => ⟨?_, frozen_new _ _ _ _⟩, trivial, by simp⟩
  rw [World.cell?_alloc_new]
  exact ⟨_, Array.getElem?_eq_getElem (by rw [size_madeCells]; exact hi)⟩
theorem rep_end {lo g : Nat} {W2 wr w' : World} {k : Fo} (h : RepRel g W2 k (Fo.len k) wr) (h0 : 0 < Fo.len k) (h1 : Fo.len k ≤ 1000) (hlo : lo ≤ g) (hs : w'.heap.size = wr.heap.size)
    (hc : ∀ q i, g ≤ q → w'.cell? ⟨q, i, none⟩ = wr.cell? ⟨q, i, none⟩ ∧ w'.frozen? ⟨q, i, none⟩ = wr.frozen? ⟨q, i, none⟩) :
    OwnV w' lo w'.heap.size k (.slice (some ⟨g, 0, none⟩) (Fo.len k) (Fo.len k)) := by
  obtain ⟨_, _, hW, hsz⟩ := h
  rw [take_all] at hW
  rw [hs]
  exact .inr ⟨g, hlo, by omega, h0, h1, rfl, hW.frame (fun i _ _ => hc _ _ (by omega)) (fun q i q1 q2 => hc _ _ (by omega))⟩
end Go.Proofs.YtlgnpiphaeoeiadDoor
