/- Base Size Sig Walk Wrong Same -/
import Derived.Test.YtiilckjnggeeoadRows
import Derived.WalkKit
import Derived.WalkSpells
import Derived.WalkLawsBesides
import Derived.Deep.Trees
import Derived.Deep.Slices
import Derived.ProofKit
import Derived.Deep.QuietTactic
import Derived.BigQuiet
namespace Go.Proofs.Ytiilckjnggeeoad
open Go.RowKit Go.Deep Go.ChangeShapes Go.WideShapes
theorem Try.cells33 : Try.prog.cellsOf 33 = 3 := by kernel_rfl
theorem Try.cells31 : Try.prog.cellsOf 31 = 1 := by kernel_rfl
theorem Try.cells3 : Try.prog.cellsOf 3 = 1 := by kernel_rfl
theorem Try.cells4 : Try.prog.cellsOf 4 = 1 := by kernel_rfl
theorem hide {p : Prop} (h : p) : Hid p := h
abbrev Fo := BT (Bool × Int)
def Fo.len : Fo → Nat
  | .nil => 0
  | .node _ _ _ _ r => Fo.len r + 1
def FIn (w : World) : Fo → Nat → Nat → Prop
  | .nil, _, _ => True
  | .node _ _ x k r, b, o => w.cell? ⟨b, o, none⟩ = some (.bool x.1) ∧ w.cell? ⟨b, o + 1, none⟩ = some (.int .i64 x.2) ∧
      (∃ (a : Option Addr) (c b' o' : Nat), w.cell? ⟨b, o + 2, none⟩ = some (.slice a (Fo.len k) c) ∧ (0 < Fo.len k → a = some ⟨b', o', none⟩) ∧ Fo.len k ≤ c ∧ c ≤ maxLen ∧ FIn w k b' o') ∧ FIn w r b (o + 3)
def SIn (w : World) (k : Fo) (v : Value) : Prop :=
  ∃ (a : Option Addr) (c b o : Nat), v = .slice a (Fo.len k) c ∧ (0 < Fo.len k → a = some ⟨b, o, none⟩) ∧ Fo.len k ≤ c ∧ c ≤ maxLen ∧ FIn w k b o
theorem FIn.node {w : World} {p q : Nat} {x : Bool × Int} {k r : Fo} {b o : Nat} (h : FIn w (.node p q x k r) b o) :
    w.cell? ⟨b, o, none⟩ = some (.bool x.1) ∧ w.cell? ⟨b, o + 1, none⟩ = some (.int .i64 x.2) ∧ (∃ v, w.cell? ⟨b, o + 2, none⟩ = some v ∧ SIn w k v) ∧ FIn w r b (o + 3) := by
  obtain ⟨h0, h1, ⟨a, c, b', o', h2, h3, h4, h5, h6⟩, h7⟩ := h
  exact ⟨h0, h1, ⟨_, h2, a, c, b', o', rfl, h3, h4, h5, h6⟩, h7⟩
theorem FIn.mk {w : World} {p q : Nat} {x : Bool × Int} {k r : Fo} {b o : Nat} {v : Value} (h0 : w.cell? ⟨b, o, none⟩ = some (.bool x.1)) (h1 : w.cell? ⟨b, o + 1, none⟩ = some (.int .i64 x.2))
    (h2 : w.cell? ⟨b, o + 2, none⟩ = some v) (h3 : SIn w k v) (h4 : FIn w r b (o + 3)) : FIn w (.node p q x k r) b o := by
  obtain ⟨a, c, b', o', rfl, h5, h6, h7, h8⟩ := h3
  exact ⟨h0, h1, ⟨a, c, b', o', h2, h5, h6, h7, h8⟩, h4⟩
theorem FIn.later {w w' : World} (hc : ∀ a v, w.cell? a = some v → w'.cell? a = some v) : ∀ {F : Fo} {b o : Nat}, FIn w F b o → FIn w' F b o
  | .nil, _, _, _ => trivial
  | .node _ _ _ _ _, _, _, ⟨h0, h1, ⟨a, c, b', o', h2, h3, h4, h5, h6⟩, h7⟩ => ⟨hc _ _ h0, hc _ _ h1, ⟨a, c, b', o', hc _ _ h2, h3, h4, h5, FIn.later hc h6⟩, FIn.later hc h7⟩
theorem SIn.later {w w' : World} (hc : ∀ a v, w.cell? a = some v → w'.cell? a = some v) {k : Fo} {v : Value} (h : SIn w k v) : SIn w' k v := by
  obtain ⟨a, c, b, o, rfl, h3, h4, h5, h6⟩ := h
  exact ⟨a, c, b, o, rfl, h3, h4, h5, FIn.later hc h6⟩
theorem grow_cell {w w' : World} (hb : Below w.heap.size w w') : ∀ a v, w.cell? a = some v → w'.cell? a = some v := by
  intro a v h
  rw [hb.cell (World.block_lt_of_cell? _ _ h)]; exact h
theorem SIn.below {w w' : World} (hb : Below w.heap.size w w') {k : Fo} {v : Value} (h : SIn w k v) : SIn w' k v := h.later (grow_cell hb)
theorem FIn.below {w w' : World} (hb : Below w.heap.size w w') {k : Fo} {b o : Nat} (h : FIn w k b o) : FIn w' k b o := FIn.later (grow_cell hb) h
def Fo.list : Fo → List ((Bool × Int) × Fo)
  | .nil => []
  | .node _ _ x k r => (x, k) :: Fo.list r
theorem Fo.len_list : ∀ F : Fo, F.list.length = Fo.len F
  | .nil => rfl
  | .node _ _ _ _ r => by simp [Fo.list, Fo.len, Fo.len_list r]
theorem Fo.ind {p : Bool × Int → Fo → Prop} (h : ∀ x k, (∀ y ∈ k.list, p y.1 y.2) → p x k) : ∀ (F : Fo), ∀ y ∈ F.list, p y.1 y.2
  | .nil, y, hy => by simp [Fo.list] at hy
  | .node _ _ x k r, y, hy => by
    simp only [Fo.list, List.mem_cons] at hy
    rcases hy with rfl | hy
    · exact h x k (Fo.ind h k)
    · exact Fo.ind h r y hy
theorem Fo.ind1 {p : Bool × Int → Fo → Prop} (h : ∀ x k, (∀ y ∈ k.list, p y.1 y.2) → p x k) (x : Bool × Int) (k : Fo) : p x k := h x k (Fo.ind h k)
theorem FIn.at {w : World} : ∀ {F : Fo} {b o i : Nat} {x : Bool × Int} {k : Fo}, FIn w F b o → F.list[i]? = some (x, k) →
    w.cell? ⟨b, o + i * 3, none⟩ = some (.bool x.1) ∧ w.cell? ⟨b, o + i * 3 + 1, none⟩ = some (.int .i64 x.2) ∧ ∃ v, w.cell? ⟨b, o + i * 3 + 2, none⟩ = some v ∧ SIn w k v
  | .nil, _, _, _, _, _, _, h => by simp [Fo.list] at h
  | .node _ _ y k' r, b, o, 0, x, k, hF, h => by
    simp only [Fo.list, List.getElem?_cons_zero, Option.some.injEq, Prod.mk.injEq] at h
    obtain ⟨rfl, rfl⟩ := h
    obtain ⟨h0, h1, h2, _⟩ := hF.node
    simpa using ⟨h0, h1, h2⟩
  | .node _ _ y k' r, b, o, i + 1, x, k, hF, h => by
    simp only [Fo.list, List.getElem?_cons_succ] at h
    obtain ⟨_, _, _, h3⟩ := hF.node
    have := FIn.at h3 h
    have e : o + 3 + i * 3 = o + (i + 1) * 3 := by omega
    rwa [e] at this
theorem below_box {w w1 : World} {ob : Obj} (h : Below (w.alloc ob).heap.size (w.alloc ob) w1) : Below w.heap.size w w1 :=
  ((Below.refl w.heap.size w).alloc (Nat.le_refl _) ob).trans (h.mono (by simp))
theorem below_step {w w1 w2 : World} (h : Below w.heap.size w w1) (h2 : Below w1.heap.size w1 w2) : Below w.heap.size w w2 := h.trans (h2.mono h.size)
theorem below_alloc (w : World) (ob : Obj) : Below w.heap.size w (w.alloc ob) := (Below.refl _ _).alloc (Nat.le_refl _) ob
theorem SIn.alloc {w : World} {k : Fo} {v : Value} (h : SIn w k v) (ob : Obj) : SIn (w.alloc ob) k v := h.below (below_alloc w ob)
theorem FIn.alloc {w : World} {k : Fo} {b o : Nat} (h : FIn w k b o) (ob : Obj) : FIn (w.alloc ob) k b o := FIn.below (below_alloc w ob) h
theorem box_cells {w wr : World} {x y z : Value} {T : TypeId} (h : Below (w.heap.size + 1) (w.alloc (.cells #[x, y, z] T)) wr) :
    wr.cell? ⟨w.heap.size, 0, none⟩ = some x ∧ wr.cell? ⟨w.heap.size, 1, none⟩ = some y ∧ wr.cell? ⟨w.heap.size, 2, none⟩ = some z ∧ Below w.heap.size w wr ∧ w.heap.size < wr.heap.size := by
  refine ⟨?_, ?_, ?_, (below_alloc w _).trans (h.mono (by omega)), by have := h.size; simp at this; omega⟩
  · rw [h.cell (by simp)]; simp
  · rw [h.cell (by simp)]; simp
  · rw [h.cell (by simp)]; simp
set_option maxRecDepth 100000 in
set_option maxHeartbeats 400000 in
theorem arguments_any (v : Bool) (n : Int) (a : Value) (w : World) :
    Calls Try.prog 108 #[.agg #[.bool v, .int .i64 n, a]] w fun e w' => e = .returned (if v then .slice none 0 0 else a) ∧ Below w.heap.size w w' := by
  cases v
  · go_enter Try.func108, Try.ntmps108
    go_wp2
    go_ret
    exact ⟨rfl, (Below.refl _ _).alloc (Nat.le_refl _) _⟩
  · go_enter Try.func108, Try.ntmps108
    go_wp2
    go_ret
    exact ⟨rfl, (Below.refl _ _).alloc (Nat.le_refl _) _⟩
end Go.Proofs.Ytiilckjnggeeoad

namespace Go.Proofs.Ytiilckjnggeeoad
open Go.RowKit Go.Deep Go.ChangeShapes Go.WideShapes
def Fo.sizes : Fo → Nat
  | .nil => 0
  | .node _ _ x k r => 1 + (if x.1 then 0 else Fo.sizes k) + Fo.sizes r
def tsz (x : Bool × Int) (k : Fo) : Nat := 1 + (if x.1 then 0 else Fo.sizes k)
theorem wrap64_add (a b : Int) : wrap64 (wrap64 a + wrap64 b) = wrap64 (a + b) := by unfold wrap64; omega
theorem wrap64_small {n : Int} (h0 : 0 ≤ n) (h1 : n < 9223372036854775808) : wrap64 n = n := by unfold wrap64; omega
theorem wrap64_one : wrap64 ((1 : Nat) : Int) = 1 := by unfold wrap64; omega
def Fo.sizesR : Fo → Nat
  | .nil => 0
  | .node _ _ _ k r => 1 + Fo.sizesR k + Fo.sizesR r
def tszR (k : Fo) : Nat := 1 + Fo.sizesR k
def szToR (k : Fo) (j : Nat) : Nat := 1 + ((k.list.take j).map fun y => tszR y.2).sum
theorem sizesR_list : ∀ F : Fo, Fo.sizesR F = (F.list.map fun y => tszR y.2).sum
  | .nil => rfl
  | .node _ _ x k r => by simp [Fo.sizesR, Fo.list, tszR, sizesR_list r]
theorem szToR_zero (k : Fo) : szToR k 0 = 1 := rfl
theorem szToR_succ {k : Fo} {j : Nat} {x : Bool × Int} {y : Fo} (h : k.list[j]? = some (x, y)) : szToR k (j + 1) = szToR k j + tszR y := by
  unfold szToR; rw [List.take_add_one, h]; simp; omega
theorem szToR_end (k : Fo) : szToR k (Fo.len k) = tszR k := by
  rw [szToR, tszR, ← Fo.len_list, List.take_length, sizesR_list]
def SizeRSaid (x : Bool × Int) (k : Fo) : Prop := ∀ (a : Value) (w : World), SIn w k a →
    Calls Try.prog 54 #[.agg #[.bool x.1, .int .i64 x.2, a]] w fun e w' => e = .returned (.int .i64 (wrap64 (tszR k : Nat))) ∧ Below w.heap.size w w'
set_option maxRecDepth 100000 in
set_option maxHeartbeats 400000 in
theorem sizeR_any (x : Bool × Int) (k : Fo) : SizeRSaid x k := by
  refine Fo.ind1 (p := SizeRSaid) ?_ x k
  clear x k
  intro x k ih a w hS
  obtain ⟨v, n⟩ := x
  obtain ⟨ad, c, b, o, rfl, had, hlc, hcm, hF⟩ := hS
  have Hl := hide (Fo.len_list k)
  have Hend := hide (szToR_end k)
  have HI := hide ih
  clear ih
  unfold maxLen at hcm
  go_enter Try.func54, Try.ntmps54
  go_wp2_with fail
  go_loopw [3, 8] (fun s i wr => ∃ j : Nat, j ≤ Fo.len k ∧ i = .int .i64 j ∧ s = .int .i64 (wrap64 (szToR k j : Nat)) ∧ Below (w.heap.size + 1) (w.alloc (.cells #[.bool v, .int .i64 n, .slice ad (Fo.len k) c] 33)) wr) (fun _ i _ => Fo.len k - (intOf i).toNat)
  case atStart => exact ⟨0, Nat.zero_le _, rfl, by rw [szToR_zero, wrap64_one], Below.refl _ _⟩
  case round =>
    obtain ⟨j, hj, rfl, rfl, hBx⟩ := hrel
    obtain ⟨q0, q1, q2, hBr, hlt0⟩ := box_cells hBx
    by_cases hlt : j < Fo.len k
    · have hlt' : (j : Int) < (Fo.len k : Int) := by omega
      obtain ⟨⟨⟨yv, yn⟩, yk⟩, hy⟩ : ∃ y, k.list[j]? = some y := ⟨k.list[j]'(by rw [Hl.out]; exact hlt), by simp⟩
      obtain ⟨c0, c1, yv', c2, hSy⟩ := (hF.below hBr).at hy
      have ha : ad = some ⟨b, o, none⟩ := had (by omega)
      subst ha
      have HS := hide hSy
      obtain ⟨ya, yc, yb, yo, rfl, -, -, -, -⟩ := hSy
      have Hy := hide hy
      clear hy
      go_wp2_with fail
      refine (HI.out ((yv, yn), yk) (List.mem_of_getElem? Hy.out) _ _ HS.out).mono ?_
      rintro e w2 ⟨rfl, hb2⟩
      go_wp2_with fail
      go_roundw
      case rel => exact ⟨j + 1, by omega, by go_num, by rw [szToR_succ Hy.out, wrap64_add, Int.natCast_add], hBx.trans (hb2.mono (by omega))⟩
      case measure => simp [intOf]; omega
    · have hje : j = Fo.len k := by omega
      have Hj := hide hje
      clear hje
      go_wp2_with fail
      go_ret
      refine ⟨?_, hBr⟩
      rw [← Hend.out, ← Hj.out]; rfl
end Go.Proofs.Ytiilckjnggeeoad

namespace Go.Proofs.Ytiilckjnggeeoad
open Go.RowKit Go.Deep Go.ChangeShapes Go.WideShapes
def NIn (w : World) (l : List Int) (v : Value) : Prop :=
  ∃ (a : Option Addr) (c b o : Nat), v = .slice a l.length c ∧ (0 < l.length → a = some ⟨b, o, none⟩) ∧ l.length ≤ c ∧ c ≤ maxLen ∧ ∀ i, i < l.length → w.cell? ⟨b, o + i, none⟩ = some (.int .i64 (l.getD i 0))
theorem NIn.later {w w' : World} (hc : ∀ a v, w.cell? a = some v → w'.cell? a = some v) {l : List Int} {v : Value} (h : NIn w l v) : NIn w' l v := by
  obtain ⟨a, c, b, o, rfl, h3, h4, h5, h6⟩ := h
  exact ⟨a, c, b, o, rfl, h3, h4, h5, fun i hi => hc _ _ (h6 i hi)⟩
theorem NIn.below {w w' : World} (hb : Below w.heap.size w w') {l : List Int} {v : Value} (h : NIn w l v) : NIn w' l v := h.later (grow_cell hb)
theorem NIn.alloc {w : World} {l : List Int} {v : Value} (h : NIn w l v) (ob : Obj) : NIn (w.alloc ob) l v := h.below (below_alloc w ob)
def okNum (x : Int) : Bool := decide (0 ≤ x ∧ x ≤ 2)
def wsig (s : List Int) : Int := if s.length = 0 ∨ 6 < s.length then 5 else if s.all okNum then 0 else 3
def okTo (s : List Int) (j : Nat) : Prop := ∀ i, i < j → okNum (s.getD i 0) = true
theorem okTo_end {s : List Int} (h : okTo s s.length) : s.all okNum = true := by
  rw [List.all_eq_true]
  intro x hx
  obtain ⟨i, hi, rfl⟩ := List.mem_iff_getElem.1 hx
  have := h i hi
  simpa [List.getD_eq_getElem?_getD, hi] using this
theorem okTo_bad {s : List Int} {j : Nat} (hj : j < s.length) (h : okNum (s.getD j 0) = false) : s.all okNum = false := by
  rw [Bool.eq_false_iff]
  intro h2
  rw [List.all_eq_true] at h2
  have := h2 (s[j]) (List.getElem_mem hj)
  simp [List.getD_eq_getElem?_getD, hj] at h
  rw [this] at h; cases h
set_option maxRecDepth 100000 in
set_option maxHeartbeats 400000 in
theorem wsigR_any (s : List Int) (v : Value) (w : World) (h : NIn w s v) : Calls Try.prog 18 #[v] w fun e w' => e = .returned (.int .i64 (wsig s)) ∧ w' = w := by
  obtain ⟨ad, c, b, o, rfl, had, hlc, hcm, hF⟩ := h
  unfold maxLen at hcm
  by_cases h0 : s.length = 0
  · have Hf : Hid (wsig s = 5) := by simp [Hid, wsig, h0]
    have h0' : ((s.length : Int) == 0) = true := by rw [beq_iff_eq]; omega
    go_enter Try.func18, Try.ntmps18
    go_wp2_with fail
    go_ret
    exact ⟨by rw [Hf.out]; rfl, rfl⟩
  have h0' : ((s.length : Int) == 0) = false := by rw [beq_eq_false_iff_ne]; omega
  by_cases h6 : 6 < s.length
  · have Hf : Hid (wsig s = 5) := by simp [Hid, wsig, h6]
    have h6' : (6 : Int) < (s.length : Int) := by omega
    go_enter Try.func18, Try.ntmps18
    go_wp2_with fail
    go_ret
    exact ⟨by rw [Hf.out]; rfl, rfl⟩
  have ha : ad = some ⟨b, o, none⟩ := had (by omega)
  subst ha
  have h6' : ¬ (6 : Int) < (s.length : Int) := by omega
  have Hw : Hid (wsig s = if s.all okNum then 0 else 3) := by simp [Hid, wsig, h6, h0]
  have HF := hide hF
  clear had hF
  go_enter Try.func18, Try.ntmps18
  go_wp2_with fail
  go_loop [15] (fun i => ∃ j : Nat, j ≤ s.length ∧ i = .int .i64 j ∧ okTo s j) (fun i => s.length - (intOf i).toNat)
  case atStart => exact ⟨0, Nat.zero_le _, rfl, fun i hi => by omega⟩
  case round =>
    obtain ⟨j, hj, rfl, hok⟩ := hrel
    by_cases hlt : j < s.length
    · have hlt' : (j : Int) < (s.length : Int) := by omega
      have hc := HF.out j hlt
      have Hbad := hide (okTo_bad hlt)
      have hz : okNum (s.getD j 0) = decide (0 ≤ s.getD j 0 ∧ s.getD j 0 ≤ 2) := rfl
      have Hn : Hid (okNum (s.getD j 0) = true → okTo s (j + 1)) := fun h i hi => by
        by_cases e : i = j
        · rw [e]; exact h
        · exact hok i (by omega)
      generalize s.getD j 0 = z at *
      have Hz := hide hz
      clear hz hok
      by_cases hz0 : z < 0
      · have Hf : Hid (wsig s = 3) := by
          have : okNum z = false := by rw [Hz.out]; simp; omega
          have := Hbad.out this
          rw [Hid, Hw.out, this]; rfl
        go_wp2_with fail
        go_ret
        exact ⟨by rw [Hf.out]; rfl, rfl⟩
      by_cases hz2 : 2 < z
      · have Hf : Hid (wsig s = 3) := by
          have : okNum z = false := by rw [Hz.out]; simp; omega
          have := Hbad.out this
          rw [Hid, Hw.out, this]; rfl
        go_wp2_with fail
        go_ret
        exact ⟨by rw [Hf.out]; rfl, rfl⟩
      go_wp2_with fail
      go_round
      case rel => exact ⟨j + 1, by omega, by go_num, Hn.out (by rw [Hz.out]; simp; omega)⟩
      case measure => simp [intOf]; omega
    · have Hf : Hid (wsig s = 0) := by
        have e : j = s.length := by omega
        rw [e] at hok
        have := okTo_end hok
        rw [Hid, Hw.out, this]; rfl
      go_wp2_with fail
      go_ret
      exact ⟨by rw [Hf.out]; rfl, rfl⟩
end Go.Proofs.Ytiilckjnggeeoad

namespace Go.Proofs.Ytiilckjnggeeoad
open Go.RowKit Go.Deep Go.ChangeShapes Go.WideShapes
def aloneF (s : List Int) (x : Bool × Int) (n : Nat) : Int :=
  if x.1 then (if x.2 < 0 ∨ 4 < x.2 then 3 else if n = 0 then 0 else 5)
  else if x.2 < 0 ∨ (s.length : Int) ≤ x.2 then 7 else if (n : Int) = s.getD x.2.toNat 0 then 0 else 5
def walkF (s : List Int) : Fo → Int → Int
  | .nil, _ => 0
  | .node _ _ x k r, d =>
    if (if 12 < d then 4 else if aloneF s x (Fo.len k) ≠ 0 then aloneF s x (Fo.len k) else walkF s k (d + 1)) ≠ 0
    then (if 12 < d then 4 else if aloneF s x (Fo.len k) ≠ 0 then aloneF s x (Fo.len k) else walkF s k (d + 1)) else walkF s r d
def walkT (s : List Int) (x : Bool × Int) (k : Fo) (d : Int) : Int :=
  if 12 < d then 4 else if aloneF s x (Fo.len k) ≠ 0 then aloneF s x (Fo.len k) else walkF s k (d + 1)
theorem walkF_node (s : List Int) (p q : Nat) (x : Bool × Int) (k r : Fo) (d : Int) : walkF s (.node p q x k r) d = if walkT s x k d ≠ 0 then walkT s x k d else walkF s r d := rfl
theorem len_zero : ∀ {k : Fo}, Fo.len k = 0 → k = .nil
  | .nil, _ => rfl
  | .node _ _ _ _ r, h => by simp [Fo.len] at h
def wOk (s : List Int) (k : Fo) (d : Int) (j : Nat) : Prop := ∀ i, i < j → ∀ y, k.list[i]? = some y → walkT s y.1 y.2 d = 0
theorem walkF_end {s : List Int} {d : Int} : ∀ {k : Fo}, wOk s k d (Fo.len k) → walkF s k d = 0
  | .nil, _ => rfl
  | .node _ _ x k r, h => by
    have h0 := h 0 (by simp [Fo.len]) (x, k) (by simp [Fo.list])
    rw [walkF_node, h0]
    simp only [ne_eq, not_true_eq_false, if_false]
    exact walkF_end fun i hi y hy => h (i + 1) (by simp [Fo.len]; omega) y (by simpa [Fo.list] using hy)
theorem walkF_bad {s : List Int} {d : Int} : ∀ {k : Fo} {j : Nat} {y : (Bool × Int) × Fo}, wOk s k d j → k.list[j]? = some y → walkT s y.1 y.2 d ≠ 0 → walkF s k d = walkT s y.1 y.2 d
  | .nil, _, _, _, h, _ => by simp [Fo.list] at h
  | .node _ _ x k r, 0, y, _, h, he => by
    simp only [Fo.list, List.getElem?_cons_zero, Option.some.injEq] at h
    subst h
    rw [walkF_node, if_pos he]
  | .node _ _ x k r, j + 1, y, hok, h, he => by
    have h0 := hok 0 (by omega) (x, k) (by simp [Fo.list])
    rw [walkF_node, h0]
    simp only [ne_eq, not_true_eq_false, if_false]
    exact walkF_bad (j := j) (fun i hi y hy => hok (i + 1) (by omega) y (by simpa [Fo.list] using hy)) (by simpa [Fo.list] using h) he
theorem wOk_succ {s : List Int} {k : Fo} {d : Int} {j : Nat} {y : (Bool × Int) × Fo} (h : wOk s k d j) (hy : k.list[j]? = some y) (h0 : walkT s y.1 y.2 d = 0) : wOk s k d (j + 1) := by
  intro i hi z hz
  by_cases e : i = j
  · subst e; rw [hy] at hz; cases hz; exact h0
  · exact h i (by omega) z hz
def WalkRSaid (x : Bool × Int) (k : Fo) : Prop := ∀ (s : List Int) (sv a : Value) (d : Int) (w : World), NIn w s sv → SIn w k a → 0 ≤ d → d ≤ 13 →
    Calls Try.prog 53 #[sv, .agg #[.bool x.1, .int .i64 x.2, a], .int .i64 d] w fun e w' => e = .returned (.int .i64 (walkT s x k d)) ∧ Below w.heap.size w w'
set_option maxRecDepth 100000 in
set_option maxHeartbeats 1000000 in
theorem walkR_any (x : Bool × Int) (k : Fo) : WalkRSaid x k := by
  refine Fo.ind1 (p := WalkRSaid) ?_ x k
  clear x k
  intro x k ih s sv a d w hN hS hd0 hd13
  have HI := hide ih
  have HN := hide hN
  clear ih
  obtain ⟨v, n⟩ := x
  obtain ⟨ad, c, b, o, rfl, had, hlc, hcm, hF⟩ := hS
  obtain ⟨sa, sc, sb, so, rfl, hsa, hslc, hscm, hsF⟩ := hN
  unfold maxLen at hcm hscm
  have Hl := hide (Fo.len_list k)
  have HsF := hide hsF
  clear hsF
  by_cases hd : 12 < d
  · have Hf : Hid (walkT s (v, n) k d = 4) := by simp [Hid, walkT, hd]
    go_enter Try.func53, Try.ntmps53
    go_wp2_with fail
    go_ret
    exact ⟨by rw [Hf.out]; rfl, below_alloc _ _⟩
  have Ht : Hid (walkT s (v, n) k d = if aloneF s (v, n) (Fo.len k) ≠ 0 then aloneF s (v, n) (Fo.len k) else walkF s k (d + 1)) := by simp [Hid, walkT, hd]
  cases v
  · have Hal : Hid (aloneF s (false, n) (Fo.len k) = if n < 0 ∨ (s.length : Int) ≤ n then 7 else if (Fo.len k : Int) = s.getD n.toNat 0 then 0 else 5) := by simp [Hid, aloneF]
    by_cases hn0 : n < 0
    · have Hf : Hid (walkT s (false, n) k d = 7) := by rw [Hid, Ht.out, Hal.out]; simp [hn0]
      go_enter Try.func53, Try.ntmps53
      go_wp2_with fail
      go_ret
      exact ⟨by rw [Hf.out]; rfl, below_alloc _ _⟩
    by_cases hns : (s.length : Int) ≤ n
    · have Hf : Hid (walkT s (false, n) k d = 7) := by rw [Hid, Ht.out, Hal.out]; simp [hns]
      go_enter Try.func53, Try.ntmps53
      go_wp2_with fail
      go_ret
      exact ⟨by rw [Hf.out]; rfl, below_alloc _ _⟩
    have hns' : n < (s.length : Int) := by omega
    have hn0' : 0 ≤ n := by omega
    have hsa' : sa = some ⟨sb, so, none⟩ := hsa (by omega)
    subst hsa'
    have hcell := HsF.out n.toNat (by omega)
    have hcell1 : (w.alloc (.cells #[.bool false, .int .i64 n, .slice ad (Fo.len k) c] 33)).cell? ⟨sb, so + n.toNat, none⟩ = some (.int .i64 (s.getD n.toNat 0)) := grow_cell (below_alloc _ _) _ _ hcell
    generalize s.getD n.toNat 0 = m at *
    clear hsa
    by_cases hm : (Fo.len k : Int) = m
    · have hmb : ((Fo.len k : Int) != m) = false := by simp [hm]
      have Hf : Hid (walkT s (false, n) k d = walkF s k (d + 1)) := by rw [Hid, Ht.out, Hal.out]; simp [hn0, hns, hm]
      have HF := hide hF
      clear hm hF hcell
      go_enter Try.func53, Try.ntmps53
      go_wp2_with fail
      go_quiet (fail)
      go_wp2_with fail
      go_loopw [48] (fun i wr => ∃ j : Nat, j ≤ Fo.len k ∧ i = .int .i64 j ∧ wOk s k (d + 1) j ∧ Below w.heap.size w wr) (fun i _ => Fo.len k - (intOf i).toNat)
      case atStart => exact ⟨0, Nat.zero_le _, rfl, fun i hi => by omega, below_drewN (below_alloc _ _) _⟩
      case round =>
        obtain ⟨j, hj, rfl, hok, hBr⟩ := hrel
        have Hok := hide hok
        clear hok
        by_cases hlt : j < Fo.len k
        · have hlt' : (j : Int) < (Fo.len k : Int) := by omega
          obtain ⟨⟨⟨yv, yn⟩, yk⟩, hy⟩ : ∃ y, k.list[j]? = some y := ⟨k.list[j]'(by rw [Hl.out]; exact hlt), by simp⟩
          obtain ⟨c0, c1, yv', c2, hSy⟩ := (HF.out.below hBr).at hy
          have ha : ad = some ⟨b, o, none⟩ := had (by omega)
          subst ha
          have HS := hide hSy
          obtain ⟨ya, yc, yb, yo, rfl, -, -, -, -⟩ := hSy
          have Hy := hide hy
          have HNr := hide (HN.out.below hBr)
          clear hy
          go_wp2_with fail
          refine (HI.out ((yv, yn), yk) (List.mem_of_getElem? Hy.out) s _ _ _ _ (HNr.out.alloc _) (HS.out.alloc _) (by omega) (by omega)).mono ?_
          rintro e w2 ⟨rfl, hb2⟩
          have hB2 := below_step hBr (below_box hb2)
          by_cases he : walkT s (yv, yn) yk (d + 1) = 0
          · have Hok2 := hide (wOk_succ Hok.out Hy.out he)
            simp only [he]
            go_wp2_with fail
            go_roundw
            case rel => exact ⟨j + 1, by omega, by go_num, Hok2.out, hB2⟩
            case measure => simp [intOf]; omega
          · have Hfin := hide (Hf.out.trans (walkF_bad Hok.out Hy.out he))
            have heb : (walkT s (yv, yn) yk (d + 1) != 0) = true := by simpa using he
            simp only at Hfin heb ⊢
            generalize walkT s (yv, yn) yk (d + 1) = E at *
            clear he
            go_wp2_with fail
            go_ret
            exact ⟨by rw [Hfin.out]; rfl, hB2⟩
        · have hje : j = Fo.len k := by omega
          have Hf0 : Hid (walkT s (false, n) k d = 0) := by rw [Hid, Hf.out]; rw [hje] at Hok; exact walkF_end Hok.out
          clear hje
          go_wp2_with fail
          go_ret
          exact ⟨by rw [Hf0.out]; rfl, hBr⟩
    · have hmb : ((Fo.len k : Int) != m) = true := by simp [hm]
      have Hf : Hid (walkT s (false, n) k d = 5) := by rw [Hid, Ht.out, Hal.out]; simp [hn0, hns, hm]
      clear hm hF hcell
      go_enter Try.func53, Try.ntmps53
      go_wp2_with fail
      go_quiet (fail)
      go_wp2_with fail
      go_ret
      exact ⟨by rw [Hf.out]; rfl, below_drewN (below_alloc _ _) _⟩
  · have Hal : Hid (aloneF s (true, n) (Fo.len k) = if n < 0 ∨ 4 < n then 3 else if Fo.len k = 0 then 0 else 5) := by simp [Hid, aloneF]
    by_cases hn0 : n < 0
    · have Hf : Hid (walkT s (true, n) k d = 3) := by rw [Hid, Ht.out, Hal.out]; simp [hn0]
      go_enter Try.func53, Try.ntmps53
      go_wp2_with fail
      go_ret
      exact ⟨by rw [Hf.out]; rfl, below_alloc _ _⟩
    by_cases hn4 : 4 < n
    · have Hf : Hid (walkT s (true, n) k d = 3) := by rw [Hid, Ht.out, Hal.out]; simp [hn4]
      go_enter Try.func53, Try.ntmps53
      go_wp2_with fail
      go_ret
      exact ⟨by rw [Hf.out]; rfl, below_alloc _ _⟩
    by_cases hl0 : Fo.len k = 0
    · have Hf : Hid (walkT s (true, n) k d = 0) := by rw [Hid, Ht.out, Hal.out, len_zero hl0]; simp [hn0, hn4, Fo.len, walkF]
      have hl0' : ¬ (0 : Int) < (Fo.len k : Int) := by omega
      clear had
      go_enter Try.func53, Try.ntmps53
      go_wp2_with fail
      go_ret
      exact ⟨by rw [Hf.out]; rfl, below_alloc _ _⟩
    · have Hf : Hid (walkT s (true, n) k d = 5) := by rw [Hid, Ht.out, Hal.out]; simp [hn0, hn4, hl0]
      have hl0' : (0 : Int) < (Fo.len k : Int) := by omega
      clear had
      go_enter Try.func53, Try.ntmps53
      go_wp2_with fail
      go_ret
      exact ⟨by rw [Hf.out]; rfl, below_alloc _ _⟩
end Go.Proofs.Ytiilckjnggeeoad

namespace Go.Proofs.Ytiilckjnggeeoad
open Go.RowKit Go.Deep Go.ChangeShapes Go.WideShapes
theorem walkT_ok {s : List Int} {x : Bool × Int} {k : Fo} {d : Int} (h : walkT s x k d = 0) : d ≤ 12 ∧ aloneF s x (Fo.len k) = 0 ∧ walkF s k (d + 1) = 0 := by
  unfold walkT at h
  by_cases hd : 12 < d
  · rw [if_pos hd] at h; omega
  · rw [if_neg hd] at h
    by_cases ha : aloneF s x (Fo.len k) = 0
    · rw [if_neg (by simpa using ha)] at h; exact ⟨by omega, ha, h⟩
    · rw [if_pos ha] at h; exact absurd h ha
theorem walkF_ok {s : List Int} {p q : Nat} {x : Bool × Int} {k r : Fo} {d : Int} (h : walkF s (.node p q x k r) d = 0) : walkT s x k d = 0 ∧ walkF s r d = 0 := by
  rw [walkF_node] at h
  by_cases e : walkT s x k d = 0
  · rw [if_neg (by simpa using e)] at h; exact ⟨e, h⟩
  · rw [if_pos e] at h; exact absurd h e
theorem alone_var {s : List Int} {n : Int} {k : Fo} (h : aloneF s (true, n) (Fo.len k) = 0) : k = .nil ∧ 0 ≤ n ∧ n ≤ 4 := by
  simp only [aloneF, if_true] at h
  by_cases h1 : n < 0 ∨ 4 < n
  · rw [if_pos h1] at h; omega
  · rw [if_neg h1] at h
    by_cases h2 : Fo.len k = 0
    · exact ⟨len_zero h2, by omega, by omega⟩
    · rw [if_neg h2] at h; omega
theorem alone_sym {s : List Int} {n : Int} {m : Nat} (h : aloneF s (false, n) m = 0) : 0 ≤ n ∧ n < s.length ∧ (m : Int) = s.getD n.toNat 0 := by
  simp only [aloneF, Bool.false_eq_true, if_false] at h
  by_cases h1 : n < 0 ∨ (s.length : Int) ≤ n
  · rw [if_pos h1] at h; omega
  · rw [if_neg h1] at h
    by_cases h2 : (m : Int) = s.getD n.toNat 0
    · exact ⟨by omega, by omega, h2⟩
    · rw [if_neg h2] at h; omega
theorem sizes_same {s : List Int} : ∀ {F : Fo} {d : Int}, walkF s F d = 0 → Fo.sizes F = Fo.sizesR F
  | .nil, _, _ => rfl
  | .node _ _ (v, n) k r, d, h => by
    obtain ⟨hT, hr⟩ := walkF_ok h
    obtain ⟨_, ha, hk⟩ := walkT_ok hT
    have e1 := sizes_same hk
    have e2 := sizes_same hr
    cases v
    · simp [Fo.sizes, Fo.sizesR, e1, e2]
    · obtain ⟨rfl, _, _⟩ := alone_var ha
      simp [Fo.sizes, Fo.sizesR, e2]
theorem tsz_same {s : List Int} {x : Bool × Int} {k : Fo} {d : Int} (h : walkT s x k d = 0) : tsz x k = tszR k := by
  obtain ⟨v, n⟩ := x
  obtain ⟨_, ha, hk⟩ := walkT_ok h
  cases v
  · simp [tsz, tszR, sizes_same hk]
  · obtain ⟨rfl, _, _⟩ := alone_var ha
    simp [tsz, tszR, Fo.sizesR]
def wrongF (s : List Int) (x : Bool × Int) (k : Fo) : Int := if walkT s x k 1 ≠ 0 then walkT s x k 1 else if 12 < wrap64 (tszR k : Nat) then 4 else 0
set_option maxRecDepth 100000 in
set_option maxHeartbeats 400000 in
theorem wrongR_any (s : List Int) (sv : Value) (x : Bool × Int) (k : Fo) (a : Value) (w : World) (hN : NIn w s sv) (hS : SIn w k a) :
    Calls Try.prog 19 #[sv, .agg #[.bool x.1, .int .i64 x.2, a]] w fun e w' => e = .returned (.int .i64 (wrongF s x k)) ∧ Below w.heap.size w w' := by
  have HN := hide hN
  have HS := hide hS
  obtain ⟨v, n⟩ := x
  obtain ⟨sa, sc, sb, so, rfl, -, -, -, -⟩ := hN
  obtain ⟨ad, c, b, o, rfl, -, -, -, -⟩ := hS
  go_enter Try.func19, Try.ntmps19
  go_wp2_with fail
  refine (walkR_any (v, n) k s _ _ _ _ (HN.out.alloc _) (HS.out.alloc _) (by omega) (by omega)).mono ?_
  rintro e w1 ⟨rfl, hb1⟩
  obtain ⟨q0, q1, q2, hB1, hlt⟩ := box_cells (by simpa using hb1)
  by_cases he : walkT s (v, n) k 1 = 0
  · have Hf : Hid (wrongF s (v, n) k = if 12 < wrap64 (tszR k : Nat) then 4 else 0) := by simp [Hid, wrongF, he]
    simp only [he]
    go_wp2_with fail
    refine (sizeR_any (v, n) k _ _ (HS.out.below hB1)).mono ?_
    rintro e w2 ⟨rfl, hb2⟩
    have hB2 := below_step hB1 hb2
    generalize wrap64 (tszR k : Nat) = z at *
    by_cases hz : 12 < z
    · rw [if_pos hz] at Hf
      go_wp2_with fail
      go_ret
      exact ⟨by rw [Hf.out]; rfl, hB2⟩
    · rw [if_neg hz] at Hf
      go_wp2_with fail
      go_ret
      exact ⟨by rw [Hf.out]; rfl, hB2⟩
  · have Hf : Hid (wrongF s (v, n) k = walkT s (v, n) k 1) := by simp [Hid, wrongF, he]
    have heb : (walkT s (v, n) k 1 != 0) = true := by simpa using he
    simp only at Hf heb ⊢
    generalize walkT s (v, n) k 1 = E at *
    clear he
    go_wp2_with fail
    go_ret
    exact ⟨by rw [Hf.out]; rfl, hB1⟩
end Go.Proofs.Ytiilckjnggeeoad

namespace Go.Proofs.Ytiilckjnggeeoad
open Go.RowKit Go.Deep Go.ChangeShapes Go.WideShapes
def sameF : Fo → Fo → Bool
  | .nil, .nil => true
  | .node _ _ x k r, .node _ _ y l q => (x.1 == y.1 && x.2 == y.2 && sameF k l) && sameF r q
  | .nil, .node _ _ _ _ _ => false
  | .node _ _ _ _ _, .nil => false
def sameT (x : Bool × Int) (k : Fo) (y : Bool × Int) (l : Fo) : Bool := x.1 == y.1 && x.2 == y.2 && sameF k l
theorem sameF_len : ∀ {k l : Fo}, sameF k l = true → Fo.len k = Fo.len l
  | .nil, .nil, _ => rfl
  | .node _ _ x k r, .node _ _ y l q, h => by
    simp only [sameF, Bool.and_eq_true] at h
    simp [Fo.len, sameF_len h.2]
  | .nil, .node _ _ _ _ _, h => by simp [sameF] at h
  | .node _ _ _ _ _, .nil, h => by simp [sameF] at h
def eqOk (k l : Fo) (j : Nat) : Prop := ∀ i, i < j → ∀ y z, k.list[i]? = some y → l.list[i]? = some z → sameT y.1 y.2 z.1 z.2 = true
theorem sameF_end : ∀ {k l : Fo}, Fo.len k = Fo.len l → eqOk k l (Fo.len k) → sameF k l = true
  | .nil, .nil, _, _ => rfl
  | .node _ _ x k r, .node _ _ y l q, he, h => by
    have h0 := h 0 (by simp [Fo.len]) (x, k) (y, l) (by simp [Fo.list]) (by simp [Fo.list])
    have h1 := sameF_end (k := r) (l := q) (by simpa [Fo.len] using he) (fun i hi a b ha hb => h (i + 1) (by simp [Fo.len]; omega) a b (by simpa [Fo.list] using ha) (by simpa [Fo.list] using hb))
    simp only [sameF, Bool.and_eq_true]
    simp only [sameT, Bool.and_eq_true] at h0
    exact ⟨h0, h1⟩
  | .nil, .node _ _ _ _ _, h, _ => by simp [Fo.len] at h
  | .node _ _ _ _ _, .nil, h, _ => by simp [Fo.len] at h
theorem sameF_bad : ∀ {k l : Fo} {j : Nat} {y z : (Bool × Int) × Fo}, k.list[j]? = some y → l.list[j]? = some z → sameT y.1 y.2 z.1 z.2 = false → sameF k l = false
  | .nil, _, _, _, _, h, _, _ => by simp [Fo.list] at h
  | .node _ _ _ _ _, .nil, _, _, _, _, h, _ => by simp [Fo.list] at h
  | .node _ _ x k r, .node _ _ y l q, 0, _, _, h1, h2, h => by
    simp only [Fo.list, List.getElem?_cons_zero, Option.some.injEq] at h1 h2
    subst h1 h2
    simp only [sameT] at h
    simp only [sameF, h, Bool.false_and]
  | .node _ _ x k r, .node _ _ y l q, j + 1, _, _, h1, h2, h => by
    have := sameF_bad (k := r) (l := q) (j := j) (by simpa [Fo.list] using h1) (by simpa [Fo.list] using h2) h
    simp only [sameF, this, Bool.and_false]
theorem eqOk_succ {k l : Fo} {j : Nat} {y z : (Bool × Int) × Fo} (h : eqOk k l j) (hy : k.list[j]? = some y) (hz : l.list[j]? = some z) (h0 : sameT y.1 y.2 z.1 z.2 = true) : eqOk k l (j + 1) := by
  intro i hi a b ha hb
  by_cases e : i = j
  · subst e; rw [hy] at ha; rw [hz] at hb; cases ha; cases hb; exact h0
  · exact h i (by omega) a b ha hb
end Go.Proofs.Ytiilckjnggeeoad
