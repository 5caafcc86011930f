/- A region that draws its order, by an invariant: what is done so far, and what is known then. -/
import Derived.Test.YtfnkjadfepoicacRows
import Derived.WalkKit
import Derived.RegionTactic
import Derived.Test.YtfnkjadfepoicacG24
import Derived.Test.YtfnkjadfepoicacG26
import Derived.Test.YtfnkjadfepoicacG13
import Derived.Test.YtfnkjadfepoicacG11
namespace Go.Proofs.Ytfnkjadfepoicac
open Go.RowKit

theorem countP_less {α : Type} {f g : α → Bool} {i : α} : ∀ {l : List α}, (∀ x, g x = true → f x = true) → i ∈ l → f i = true → g i = false → l.countP g < l.countP f
  | [], _, h, _, _ => by cases h
  | y :: r, hfg, h, hf, hg => by
    have hle : r.countP g ≤ r.countP f := List.countP_mono_left (fun x _ hx => hfg x hx)
    rw [List.countP_cons, List.countP_cons]
    rcases List.mem_cons.1 h with rfl | h
    · rw [hf, hg]; simp; omega
    · have := countP_less (l := r) hfg h hf hg
      by_cases hy : g y = true
      · rw [hy, hfg y hy]; simp; omega
      · have : g y = false := by simpa using hy
        rw [this]
        simp only [Bool.false_eq_true, if_false]
        split <;> omega
theorem getD_set (l : Array Bool) (i j : Nat) (d : Bool) (hi : i < l.size) : (l.setIfInBounds i true).getD j d = (j == i || l.getD j d) := by
  by_cases e : j = i
  · subst e
    simp [Array.getD_eq_getD_getElem?, hi]
  · have e' : (j == i) = false := by simpa using e
    rw [e']
    simp only [Array.getD_eq_getD_getElem?, Array.getElem?_setIfInBounds, Bool.false_or]
    rw [if_neg (fun h => e h.symm)]
theorem getD_in (l : Array Bool) (j : Nat) (hj : j < l.size) (d d' : Bool) : l.getD j d = l.getD j d' := by
  simp [Array.getD_eq_getD_getElem?, hj]

section
variable {P : Program} {ops : Array Oper} {Q : Exit → Act → World → Prop} {md : Region.Mode}

/-- No edge leads forward. -/
def Region.back (ops : Array Oper) : Bool := (List.range ops.size).all fun i => ((ops[i]?).map (·.after.all fun e => decide (e.on < i))).getD true

theorem all_listed {listed : Array Bool} (hs : listed.size = ops.size) (hb : Region.back ops = true) (hr : Region.ready md ops listed = []) : ∀ i, i < ops.size → listed.getD i false = true := by
  intro i
  induction i using Nat.strongRecOn with
  | _ i ih =>
    intro hi
    by_cases h : listed.getD i false = true
    · exact h
    · exfalso
      have h0 : listed.getD i true = false := by
        rw [getD_in listed i (by omega) true false]
        simpa using h
      have ho : ops[i]? = some ops[i] := by simp [hi]
      have hm : i ∈ Region.ready md ops listed := by
        unfold Region.ready
        rw [List.mem_filter]
        refine ⟨List.mem_range.2 hi, ?_⟩
        rw [h0, ho]
        simp only [Bool.not_false, Bool.true_and, Option.map_some, Option.getD_some]
        rw [Array.all_eq_true']
        intro e he
        have h1 := List.all_eq_true.1 hb i (List.mem_range.2 hi)
        rw [ho] at h1
        simp only [Option.map_some, Option.getD_some] at h1
        rw [Array.all_eq_true'] at h1
        have h2 := of_decide_eq_true (h1 e he)
        rw [ih e.on h2 (by omega)]
        simp
      rw [hr] at hm
      cases hm

theorem wpAny_inv {Inv : (Nat → Bool) → Act → World → Prop} (hb : Region.back ops = true)
    (hstep : ∀ (D : Nat → Bool) (a : Act) (w : World) (i : Nat) (o : Oper), i < ops.size → Inv D a w → D i = false → ops[i]? = some o → (∀ e ∈ o.after, Region.binds md e = true → D e.on = true) → wpOp P ops Q i (Inv fun j => j == i || D j) a w)
    (hdone : ∀ (D : Nat → Bool) (a : Act) (w : World), Inv D a w → (∀ i, i < ops.size → D i = true) → Q .normal a w) :
    ∀ (fuel : Nat) (listed : Array Bool) (a : Act) (w : World), listed.size = ops.size → (List.range ops.size).countP (fun i => !listed.getD i false) ≤ fuel → Inv (fun j => listed.getD j false) a w → wpAny P md ops Q fuel listed a w := by
  intro fuel
  induction fuel with
  | zero =>
    intro listed a w hs hc hI
    have hall : ∀ i, i < ops.size → listed.getD i false = true := fun i hi => by
      have h0 : (List.range ops.size).countP (fun i => !listed.getD i false) = 0 := by omega
      rw [List.countP_eq_zero] at h0
      simpa using h0 i (List.mem_range.2 hi)
    refine ⟨?_, hdone _ a w hI hall⟩
    unfold Region.ready
    rw [List.filter_eq_nil_iff]
    intro i hi
    have hi' := List.mem_range.1 hi
    rw [getD_in listed i (by omega) true false, hall i hi']
    simp
  | succ fuel ih =>
    intro listed a w hs hc hI
    refine ⟨fun hr => hdone _ a w hI (all_listed hs hb hr), fun i hi => ?_⟩
    unfold Region.ready at hi
    rw [List.mem_filter] at hi
    obtain ⟨hi1, hi2⟩ := hi
    have hi' := List.mem_range.1 hi1
    have ho : ops[i]? = some ops[i] := by simp [hi']
    rw [ho] at hi2
    simp only [Option.map_some, Option.getD_some, Bool.and_eq_true, Bool.not_eq_true'] at hi2
    obtain ⟨h1, h2⟩ := hi2
    have h1' : listed.getD i false = false := by rw [getD_in listed i (by omega) false true]; exact h1
    have := hstep _ a w i _ hi' hI h1' ho (fun e he hbd => by
      rw [Array.all_eq_true'] at h2
      have := h2 e he
      rw [hbd] at this
      simpa using this)
    refine wpOp_mono (fun a' w' h => ?_) this
    refine ih _ a' w' (by simp [hs]) ?_ ?_
    · have hlt := countP_less (i := i) (f := fun j => !listed.getD j false) (g := fun j => !(listed.setIfInBounds i true).getD j false) (l := List.range ops.size) (fun x hx => by
        rw [getD_set _ _ _ _ (by omega)] at hx
        simp at hx
        simp [hx.2]) hi1 (by simp [h1']) (by rw [getD_set _ _ _ _ (by omega)]; simp)
      omega
    · have e : (fun j => (listed.setIfInBounds i true).getD j false) = fun j => j == i || listed.getD j false := by
        funext j
        exact getD_set _ _ _ _ (by omega)
      rw [e]
      exact h

/-- A region that draws its order: what is known stays known whatever comes next. -/
theorem region_inv {id : Nat} {a : Act} {w : World} (Inv : (Nat → Bool) → Act → World → Prop) (hm : P.follows .mixedOrders = true) (hb : Region.back ops = true)
    (hstep : ∀ (D : Nat → Bool) (a : Act) (w : World) (i : Nat) (o : Oper), i < ops.size → Inv D a w → D i = false → ops[i]? = some o → (∀ e ∈ o.after, Region.binds .any e = true → D e.on = true) → wpOp P ops Q i (Inv fun j => j == i || D j) a w)
    (hdone : ∀ (D : Nat → Bool) (a : Act) (w : World), Inv D a w → (∀ i, i < ops.size → D i = true) → Q .normal a w)
    (h0 : Inv (fun _ => false) a w.drew) : (Code.region id ops true).wp P Q a w := by
  refine wp_region_any hm ?_
  refine wpAny_inv hb hstep hdone _ _ a _ (by simp) ?_ ?_
  · exact Nat.le_trans List.countP_le_length (by simp)
  · have e : (fun j => (Array.replicate ops.size false).getD j false) = fun _ => false := by
      funext j
      simp only [Array.getD_eq_getD_getElem?, Array.getElem?_replicate]
      split <;> rfl
    rw [e]
    exact h0

end

end Go.Proofs.Ytfnkjadfepoicac

/- The document's WrongModel: what is wrong with a model. -/
namespace Go.Proofs.Ytfnkjadfepoicac
open Go.RowKit Go.Deep Go.ChangeShapes Go.WideShapes
attribute [local go_sem ↓] Go.wp_at_zero Go.wp_at_succ

theorem tri_cell {w : World} {m : Nat} {z : Int} (hm : m < 3) : (w.alloc (.cells #[.int .i64 1, .int .i64 z, .int .i64 (z * z)] 3)).cell? ⟨w.heap.size, m, none⟩ = some (.int .i64 (mlen z m)) := by
  rcases (by omega : m = 0 ∨ m = 1 ∨ m = 2) with rfl | rfl | rfl <;> exact (new_cell rfl).trans (by simp [mlen])
structure R6m (W : World) (B tk tq j m : Nat) (z : Int) (TV PV : Value) (q : Nat) (D : Nat → Bool) (w : World) (s32 s33 s34 s35 s36 s37 s38 s39 s40 s41 s42 s43 s44 s45 s46 s47 s48 s49 : Value) : Prop where
  hb : Below W.heap.size W w
  h0 : D 0 = true → s32 = .pointer (some ⟨B, 1, none⟩)
  h1 : D 1 = true → s33 = TV
  h2 : D 2 = true → s34 = .int .i64 j
  h3 : D 3 = true → s35 = .pointer (some ⟨tk, tq + j, none⟩)
  h4 : D 4 = true → s36 = PV
  h5 : D 5 = true → s37 = .int .i64 q
  h6 : D 6 = true → s38 = .pointer (some ⟨B, 0, none⟩)
  h7 : D 7 = true → s39 = .int .i64 z
  h8 : D 8 = true → s40 = .pointer (some ⟨B, 0, none⟩)
  h9 : D 9 = true → s41 = .int .i64 z
  h10 : D 10 = true → s42 = .pointer (some ⟨B, 0, none⟩)
  h11 : D 11 = true → s43 = .int .i64 z
  h12 : D 12 = true → s44 = .int .i64 (z * z)
  h13 : D 13 = true → ∃ g, s45 = .slice (some ⟨g, 0, none⟩) 3 3 ∧ w.cell? ⟨g, m, none⟩ = some (.int .i64 (mlen z m))
  h14 : D 14 = true → s46 = .int .i64 m
  h15 : D 15 = true → ∃ g, s47 = .pointer (some ⟨g, m, none⟩) ∧ w.cell? ⟨g, m, none⟩ = some (.int .i64 (mlen z m))
  h16 : D 16 = true → s48 = .int .i64 (mlen z m)
  h17 : D 17 = true → s49 = .bool ((q : Int) != mlen z m)
section
variable {W : World} {B tk tq j m : Nat} {z : Int} {TV PV : Value} {q : Nat} {D : Nat → Bool} {w w' : World} {s32 s33 s34 s35 s36 s37 s38 s39 s40 s41 s42 s43 s44 s45 s46 s47 s48 s49 : Value}
theorem R6m.at0 (h : R6m W B tk tq j m z TV PV q D w s32 s33 s34 s35 s36 s37 s38 s39 s40 s41 s42 s43 s44 s45 s46 s47 s48 s49) : R6m W B tk tq j m z TV PV q (fun j => j == 0 || D j) w (.pointer (some ⟨B, 1, none⟩)) s33 s34 s35 s36 s37 s38 s39 s40 s41 s42 s43 s44 s45 s46 s47 s48 s49 :=
  ⟨h.hb, fun _ => rfl, h.h1, h.h2, h.h3, h.h4, h.h5, h.h6, h.h7, h.h8, h.h9, h.h10, h.h11, h.h12, h.h13, h.h14, h.h15, h.h16, h.h17⟩
theorem R6m.at1 (h : R6m W B tk tq j m z TV PV q D w s32 s33 s34 s35 s36 s37 s38 s39 s40 s41 s42 s43 s44 s45 s46 s47 s48 s49) : R6m W B tk tq j m z TV PV q (fun j => j == 1 || D j) w s32 (TV) s34 s35 s36 s37 s38 s39 s40 s41 s42 s43 s44 s45 s46 s47 s48 s49 :=
  ⟨h.hb, h.h0, fun _ => rfl, h.h2, h.h3, h.h4, h.h5, h.h6, h.h7, h.h8, h.h9, h.h10, h.h11, h.h12, h.h13, h.h14, h.h15, h.h16, h.h17⟩
theorem R6m.at2 (h : R6m W B tk tq j m z TV PV q D w s32 s33 s34 s35 s36 s37 s38 s39 s40 s41 s42 s43 s44 s45 s46 s47 s48 s49) : R6m W B tk tq j m z TV PV q (fun j => j == 2 || D j) w s32 s33 (.int .i64 j) s35 s36 s37 s38 s39 s40 s41 s42 s43 s44 s45 s46 s47 s48 s49 :=
  ⟨h.hb, h.h0, h.h1, fun _ => rfl, h.h3, h.h4, h.h5, h.h6, h.h7, h.h8, h.h9, h.h10, h.h11, h.h12, h.h13, h.h14, h.h15, h.h16, h.h17⟩
theorem R6m.at3 (h : R6m W B tk tq j m z TV PV q D w s32 s33 s34 s35 s36 s37 s38 s39 s40 s41 s42 s43 s44 s45 s46 s47 s48 s49) : R6m W B tk tq j m z TV PV q (fun j => j == 3 || D j) w s32 s33 s34 (.pointer (some ⟨tk, tq + j, none⟩)) s36 s37 s38 s39 s40 s41 s42 s43 s44 s45 s46 s47 s48 s49 :=
  ⟨h.hb, h.h0, h.h1, h.h2, fun _ => rfl, h.h4, h.h5, h.h6, h.h7, h.h8, h.h9, h.h10, h.h11, h.h12, h.h13, h.h14, h.h15, h.h16, h.h17⟩
theorem R6m.at4 (h : R6m W B tk tq j m z TV PV q D w s32 s33 s34 s35 s36 s37 s38 s39 s40 s41 s42 s43 s44 s45 s46 s47 s48 s49) : R6m W B tk tq j m z TV PV q (fun j => j == 4 || D j) w s32 s33 s34 s35 (PV) s37 s38 s39 s40 s41 s42 s43 s44 s45 s46 s47 s48 s49 :=
  ⟨h.hb, h.h0, h.h1, h.h2, h.h3, fun _ => rfl, h.h5, h.h6, h.h7, h.h8, h.h9, h.h10, h.h11, h.h12, h.h13, h.h14, h.h15, h.h16, h.h17⟩
theorem R6m.at5 (h : R6m W B tk tq j m z TV PV q D w s32 s33 s34 s35 s36 s37 s38 s39 s40 s41 s42 s43 s44 s45 s46 s47 s48 s49) : R6m W B tk tq j m z TV PV q (fun j => j == 5 || D j) w s32 s33 s34 s35 s36 (.int .i64 q) s38 s39 s40 s41 s42 s43 s44 s45 s46 s47 s48 s49 :=
  ⟨h.hb, h.h0, h.h1, h.h2, h.h3, h.h4, fun _ => rfl, h.h6, h.h7, h.h8, h.h9, h.h10, h.h11, h.h12, h.h13, h.h14, h.h15, h.h16, h.h17⟩
theorem R6m.at6 (h : R6m W B tk tq j m z TV PV q D w s32 s33 s34 s35 s36 s37 s38 s39 s40 s41 s42 s43 s44 s45 s46 s47 s48 s49) : R6m W B tk tq j m z TV PV q (fun j => j == 6 || D j) w s32 s33 s34 s35 s36 s37 (.pointer (some ⟨B, 0, none⟩)) s39 s40 s41 s42 s43 s44 s45 s46 s47 s48 s49 :=
  ⟨h.hb, h.h0, h.h1, h.h2, h.h3, h.h4, h.h5, fun _ => rfl, h.h7, h.h8, h.h9, h.h10, h.h11, h.h12, h.h13, h.h14, h.h15, h.h16, h.h17⟩
theorem R6m.at7 (h : R6m W B tk tq j m z TV PV q D w s32 s33 s34 s35 s36 s37 s38 s39 s40 s41 s42 s43 s44 s45 s46 s47 s48 s49) : R6m W B tk tq j m z TV PV q (fun j => j == 7 || D j) w s32 s33 s34 s35 s36 s37 s38 (.int .i64 z) s40 s41 s42 s43 s44 s45 s46 s47 s48 s49 :=
  ⟨h.hb, h.h0, h.h1, h.h2, h.h3, h.h4, h.h5, h.h6, fun _ => rfl, h.h8, h.h9, h.h10, h.h11, h.h12, h.h13, h.h14, h.h15, h.h16, h.h17⟩
theorem R6m.at8 (h : R6m W B tk tq j m z TV PV q D w s32 s33 s34 s35 s36 s37 s38 s39 s40 s41 s42 s43 s44 s45 s46 s47 s48 s49) : R6m W B tk tq j m z TV PV q (fun j => j == 8 || D j) w s32 s33 s34 s35 s36 s37 s38 s39 (.pointer (some ⟨B, 0, none⟩)) s41 s42 s43 s44 s45 s46 s47 s48 s49 :=
  ⟨h.hb, h.h0, h.h1, h.h2, h.h3, h.h4, h.h5, h.h6, h.h7, fun _ => rfl, h.h9, h.h10, h.h11, h.h12, h.h13, h.h14, h.h15, h.h16, h.h17⟩
theorem R6m.at9 (h : R6m W B tk tq j m z TV PV q D w s32 s33 s34 s35 s36 s37 s38 s39 s40 s41 s42 s43 s44 s45 s46 s47 s48 s49) : R6m W B tk tq j m z TV PV q (fun j => j == 9 || D j) w s32 s33 s34 s35 s36 s37 s38 s39 s40 (.int .i64 z) s42 s43 s44 s45 s46 s47 s48 s49 :=
  ⟨h.hb, h.h0, h.h1, h.h2, h.h3, h.h4, h.h5, h.h6, h.h7, h.h8, fun _ => rfl, h.h10, h.h11, h.h12, h.h13, h.h14, h.h15, h.h16, h.h17⟩
theorem R6m.at10 (h : R6m W B tk tq j m z TV PV q D w s32 s33 s34 s35 s36 s37 s38 s39 s40 s41 s42 s43 s44 s45 s46 s47 s48 s49) : R6m W B tk tq j m z TV PV q (fun j => j == 10 || D j) w s32 s33 s34 s35 s36 s37 s38 s39 s40 s41 (.pointer (some ⟨B, 0, none⟩)) s43 s44 s45 s46 s47 s48 s49 :=
  ⟨h.hb, h.h0, h.h1, h.h2, h.h3, h.h4, h.h5, h.h6, h.h7, h.h8, h.h9, fun _ => rfl, h.h11, h.h12, h.h13, h.h14, h.h15, h.h16, h.h17⟩
theorem R6m.at11 (h : R6m W B tk tq j m z TV PV q D w s32 s33 s34 s35 s36 s37 s38 s39 s40 s41 s42 s43 s44 s45 s46 s47 s48 s49) : R6m W B tk tq j m z TV PV q (fun j => j == 11 || D j) w s32 s33 s34 s35 s36 s37 s38 s39 s40 s41 s42 (.int .i64 z) s44 s45 s46 s47 s48 s49 :=
  ⟨h.hb, h.h0, h.h1, h.h2, h.h3, h.h4, h.h5, h.h6, h.h7, h.h8, h.h9, h.h10, fun _ => rfl, h.h12, h.h13, h.h14, h.h15, h.h16, h.h17⟩
theorem R6m.at12 (h : R6m W B tk tq j m z TV PV q D w s32 s33 s34 s35 s36 s37 s38 s39 s40 s41 s42 s43 s44 s45 s46 s47 s48 s49) : R6m W B tk tq j m z TV PV q (fun j => j == 12 || D j) w s32 s33 s34 s35 s36 s37 s38 s39 s40 s41 s42 s43 (.int .i64 (z * z)) s45 s46 s47 s48 s49 :=
  ⟨h.hb, h.h0, h.h1, h.h2, h.h3, h.h4, h.h5, h.h6, h.h7, h.h8, h.h9, h.h10, h.h11, fun _ => rfl, h.h13, h.h14, h.h15, h.h16, h.h17⟩
theorem R6m.at13 (h : R6m W B tk tq j m z TV PV q D w s32 s33 s34 s35 s36 s37 s38 s39 s40 s41 s42 s43 s44 s45 s46 s47 s48 s49) (hm : m < 3) : R6m W B tk tq j m z TV PV q (fun j => j == 13 || D j) (w.alloc (.cells #[.int .i64 1, .int .i64 z, .int .i64 (z * z)] 3)) s32 s33 s34 s35 s36 s37 s38 s39 s40 s41 s42 s43 s44 (.slice (some ⟨w.heap.size, 0, none⟩) 3 3) s46 s47 s48 s49 := by
  have hb := below_alloc w (.cells #[.int .i64 1, .int .i64 z, .int .i64 (z * z)] 3)
  refine ⟨below_step h.hb hb, h.h0, h.h1, h.h2, h.h3, h.h4, h.h5, h.h6, h.h7, h.h8, h.h9, h.h10, h.h11, h.h12, ?_, h.h14, ?_, h.h16, h.h17⟩
  · exact fun _ => ⟨w.heap.size, rfl, tri_cell hm⟩
  · intro e
    obtain ⟨g, h1, h2⟩ := h.h15 e
    exact ⟨g, h1, grow_cell hb _ _ h2⟩
theorem R6m.at14 (h : R6m W B tk tq j m z TV PV q D w s32 s33 s34 s35 s36 s37 s38 s39 s40 s41 s42 s43 s44 s45 s46 s47 s48 s49) : R6m W B tk tq j m z TV PV q (fun j => j == 14 || D j) w s32 s33 s34 s35 s36 s37 s38 s39 s40 s41 s42 s43 s44 s45 (.int .i64 m) s47 s48 s49 :=
  ⟨h.hb, h.h0, h.h1, h.h2, h.h3, h.h4, h.h5, h.h6, h.h7, h.h8, h.h9, h.h10, h.h11, h.h12, h.h13, fun _ => rfl, h.h15, h.h16, h.h17⟩
theorem R6m.at15 (h : R6m W B tk tq j m z TV PV q D w s32 s33 s34 s35 s36 s37 s38 s39 s40 s41 s42 s43 s44 s45 s46 s47 s48 s49) {g : Nat} (hc : w.cell? ⟨g, m, none⟩ = some (.int .i64 (mlen z m))) : R6m W B tk tq j m z TV PV q (fun j => j == 15 || D j) w s32 s33 s34 s35 s36 s37 s38 s39 s40 s41 s42 s43 s44 s45 s46 (.pointer (some ⟨g, m, none⟩)) s48 s49 :=
  ⟨h.hb, h.h0, h.h1, h.h2, h.h3, h.h4, h.h5, h.h6, h.h7, h.h8, h.h9, h.h10, h.h11, h.h12, h.h13, h.h14, fun _ => ⟨g, rfl, hc⟩, h.h16, h.h17⟩
theorem R6m.at16 (h : R6m W B tk tq j m z TV PV q D w s32 s33 s34 s35 s36 s37 s38 s39 s40 s41 s42 s43 s44 s45 s46 s47 s48 s49) : R6m W B tk tq j m z TV PV q (fun j => j == 16 || D j) w s32 s33 s34 s35 s36 s37 s38 s39 s40 s41 s42 s43 s44 s45 s46 s47 (.int .i64 (mlen z m)) s49 :=
  ⟨h.hb, h.h0, h.h1, h.h2, h.h3, h.h4, h.h5, h.h6, h.h7, h.h8, h.h9, h.h10, h.h11, h.h12, h.h13, h.h14, h.h15, fun _ => rfl, h.h17⟩
theorem R6m.at17 (h : R6m W B tk tq j m z TV PV q D w s32 s33 s34 s35 s36 s37 s38 s39 s40 s41 s42 s43 s44 s45 s46 s47 s48 s49) : R6m W B tk tq j m z TV PV q (fun j => j == 17 || D j) w s32 s33 s34 s35 s36 s37 s38 s39 s40 s41 s42 s43 s44 s45 s46 s47 s48 (.bool ((q : Int) != mlen z m)) :=
  ⟨h.hb, h.h0, h.h1, h.h2, h.h3, h.h4, h.h5, h.h6, h.h7, h.h8, h.h9, h.h10, h.h11, h.h12, h.h13, h.h14, h.h15, h.h16, fun _ => rfl⟩
theorem R6m.start (h : Below W.heap.size W w) : R6m W B tk tq j m z TV PV q (fun _ => false) w s32 s33 s34 s35 s36 s37 s38 s39 s40 s41 s42 s43 s44 s45 s46 s47 s48 s49 :=
  ⟨h, fun e => (by cases e), fun e => (by cases e), fun e => (by cases e), fun e => (by cases e), fun e => (by cases e), fun e => (by cases e), fun e => (by cases e), fun e => (by cases e), fun e => (by cases e), fun e => (by cases e), fun e => (by cases e), fun e => (by cases e), fun e => (by cases e), fun e => (by cases e), fun e => (by cases e), fun e => (by cases e), fun e => (by cases e), fun e => (by cases e)⟩
end

set_option maxRecDepth 100000 in
set_option maxHeartbeats 2000000 in
theorem wrongMR_any (s : List Int) (sv : Value) (z : Int) (tb : List (List Int)) (mv : Value) (w : World) (hN : NIn w s sv) (hT : TbIn w tb mv) (hs : s.all okNum = true) :
    Calls Try.prog 9 #[sv, .agg #[.int .i64 z, mv]] w fun e w' => e = .returned (.int .i64 (wrongM s z tb)) ∧ Below w.heap.size w w' := by
  have HN := hide hN
  have HT := hide hT
  have Hs := hide hs
  obtain ⟨sa, sc, sb, so, rfl, hsad, hslc, hscm, hSF⟩ := hN
  obtain ⟨ta, tc, tk, tq, rfl, htad, htlc, htcm, hTF⟩ := hT
  have HSF := hide hSF
  have HTF := hide hTF
  unfold maxLen at hscm htcm
  clear hSF hTF hs
  go_enter Try.func9, Try.ntmps9
  go_upto_region 1 with fail
  generalize hW1 : w.alloc (.cells #[.int .i64 z, .slice ta tb.length tc] 26) = W1
  have hB1 : Below w.heap.size w W1 := by rw [← hW1]; exact below_alloc _ _
  have m0 : W1.cell? ⟨w.heap.size, 0, none⟩ = some (.int .i64 z) := by rw [← hW1]; exact new_cell rfl
  have m1 : W1.cell? ⟨w.heap.size, 1, none⟩ = some (.slice ta tb.length tc) := by rw [← hW1]; exact new_cell rfl
  clear hW1
  by_cases h1 : z < 1
  · have Hf : Hid (wrongM s z tb = 5) := if_pos (.inl h1)
    go_wp2_with fail
    go_ret
    exact ⟨by rw [Hf.out]; rfl, hB1⟩
  by_cases h8 : 8 < z
  · have Hf : Hid (wrongM s z tb = 5) := if_pos (.inr (.inl h8))
    go_wp2_with fail
    go_ret
    exact ⟨by rw [Hf.out]; rfl, hB1⟩
  by_cases hl : tb.length = s.length
  · have Hf : Hid (wrongM s z tb = rowsE z (s.zip tb)) := if_neg (by omega)
    have hlb : ((tb.length : Int) != (s.length : Int)) = false := by simp [hl]
    have Hl := hide hl
    clear hl
    go_wp2_with fail
    clear hlb
    go_loopw [27] (fun i wr => ∃ j : Nat, j ≤ s.length ∧ i = .int .i64 j ∧ (∀ i, i < j → ∀ a, (s.zip tb)[i]? = some a → rowE z a = 0) ∧ Below W1.heap.size W1 wr) (fun i _ => s.length - (intOf i).toNat)
    case atStart => exact ⟨0, Nat.zero_le _, rfl, fun i hi => by omega, Below.refl _ _⟩
    case round =>
      obtain ⟨j, hj, rfl, hok, hBx⟩ := hrel
      have Hok := hide hok
      clear hok
      have hBr := below_step hB1 hBx
      replace m0 := grow_cell hBx _ _ m0
      replace m1 := grow_cell hBx _ _ m1
      by_cases hlt : j < s.length
      · have hlt' : (j : Int) < (s.length : Int) := by omega
        have hjt : (j : Int) < (tb.length : Int) := by have := Hl.out; omega
        have hc := grow_cell hBr _ _ (HSF.out j hlt)
        obtain ⟨pv, p1, hP⟩ := HTF.out j (by omega)
        replace p1 := grow_cell hBr _ _ p1
        replace hP := hP.below hBr
        have hsj : s[j]? = some (s.getD j 0) := by rw [List.getD_eq_getElem?_getD, List.getElem?_eq_getElem hlt]; rfl
        have htj : tb[j]? = some (tb.getD j []) := by rw [List.getD_eq_getElem?_getD, List.getElem?_eq_getElem (by omega)]; rfl
        have Hzip : Hid ((s.zip tb)[j]? = some (s.getD j 0, tb.getD j [])) := by rw [Hid, List.getElem?_zip_eq_some]; exact ⟨hsj, htj⟩
        have hok2 : 0 ≤ s.getD j 0 ∧ s.getD j 0 ≤ 2 := by
          have := List.all_eq_true.1 Hs.out _ (List.mem_of_getElem? hsj)
          simpa [okNum] using this
        have HP := hide hP
        obtain ⟨ra, rc, rb, ro, rfl, hrad, hrlc, hrcm, hRF⟩ := hP
        have HRF := hide hRF
        unfold maxLen at hrcm
        generalize s.getD j 0 = n at *
        generalize tb.getD j [] = row at *
        have hsa : sa = some ⟨sb, so, none⟩ := hsad (by omega)
        subst hsa
        have hta : ta = some ⟨tk, tq, none⟩ := htad (by omega)
        subst hta
        clear hRF hsj htj hsad htad
        go_upto_region 6 with fail
        obtain ⟨m, rfl⟩ : ∃ m : Nat, n = m := ⟨n.toNat, by omega⟩
        have hm3 : m < 3 := by omega
        have hm3' : (m : Int) < 3 := by omega
        have HZ : Hid (z * z ≤ 64 ∧ 0 ≤ z * z) := ⟨Int.mul_le_mul (by omega : z ≤ 8) (by omega : z ≤ 8) (by omega) (by omega), Int.mul_nonneg (by omega) (by omega)⟩
        go_cut [49] (fun s49 wx => s49 = .bool ((row.length : Int) != mlen z m) ∧ Below wr.heap.size wr wx)
        case first =>
          refine region_inv (fun D a w' => ∃ s32 s33 s34 s35 s36 s37 s38 s39 s40 s41 s42 s43 s44 s45 s46 s47 s48 s49 : Value, a = ⟨#[.slice (some ⟨sb, so, none⟩) s.length sc, .agg #[.int .i64 z, .slice (some ⟨tk, tq, none⟩) tb.length tc], undef, .pointer (some ⟨w.heap.size, 0, none⟩), u4, .int .i64 j, .int .i64 m, undef, u8, .pointer (some ⟨w.heap.size, 0, none⟩), .int .i64 z, .bool false, .bool false, .pointer (some ⟨w.heap.size, 0, none⟩), .int .i64 z, .bool false, .bool false, .bool false, .pointer (some ⟨w.heap.size, 1, none⟩), .slice (some ⟨tk, tq, none⟩) tb.length tc, .int .i64 tb.length, .slice (some ⟨sb, so, none⟩) s.length sc, .int .i64 s.length, .bool false, .bool false, .slice (some ⟨sb, so, none⟩) s.length sc, .int .i64 s.length, .int .i64 j, .bool true, .int .i64 j, .pointer (some ⟨sb, so + j, none⟩), .int .i64 m, s32, s33, s34, s35, s36, s37, s38, s39, s40, s41, s42, s43, s44, s45, s46, s47, s48, s49, u50, u51, u52, u53, u54, u55, u56, u57, u58, u59, u60, u61, u62, u63, u64, u65, u66, u67, u68, u69], []⟩ ∧ R6m wr w.heap.size tk tq j m z (.slice (some ⟨tk, tq, none⟩) tb.length tc) (.slice ra row.length rc) row.length D w' s32 s33 s34 s35 s36 s37 s38 s39 s40 s41 s42 s43 s44 s45 s46 s47 s48 s49) (by kernel_rfl) (by kernel_rfl) ?_ ?_ ⟨_, _, _, _, _, _, _, _, _, _, _, _, _, _, _, _, _, _, rfl, R6m.start (Below.refl _ _).drew⟩
          · rintro D a w' i o hi ⟨s32, s33, s34, s35, s36, s37, s38, s39, s40, s41, s42, s43, s44, s45, s46, s47, s48, s49, rfl, hI⟩ hD ho hdep
            have HI := hide hI
            replace m0 := grow_cell hI.hb _ _ m0
            replace m1 := grow_cell hI.hb _ _ m1
            replace p1 := grow_cell hI.hb _ _ p1
            clear hI
            have hi' : i < 18 := hi
            clear hi
            rcases (by omega : i = 0 ∨ i = 1 ∨ i = 2 ∨ i = 3 ∨ i = 4 ∨ i = 5 ∨ i = 6 ∨ i = 7 ∨ i = 8 ∨ i = 9 ∨ i = 10 ∨ i = 11 ∨ i = 12 ∨ i = 13 ∨ i = 14 ∨ i = 15 ∨ i = 16 ∨ i = 17) with rfl | rfl | rfl | rfl | rfl | rfl | rfl | rfl | rfl | rfl | rfl | rfl | rfl | rfl | rfl | rfl | rfl | rfl
            · obtain rfl := Option.some.inj ho
              clear ho hdep hD
              refine wpOp_step rfl (fun K hK => ?_)
              go_simp
              exact hK _ _ ⟨_, _, _, _, _, _, _, _, _, _, _, _, _, _, _, _, _, _, rfl, HI.out.at0⟩
            · obtain rfl := Option.some.inj ho
              have d0 := HI.out.h0 (hdep ⟨0, .data⟩ (by simp) rfl)
              subst d0
              clear ho hdep hD
              refine wpOp_step rfl (fun K hK => ?_)
              go_simp
              exact hK _ _ ⟨_, _, _, _, _, _, _, _, _, _, _, _, _, _, _, _, _, _, rfl, HI.out.at1⟩
            · obtain rfl := Option.some.inj ho
              clear ho hdep hD
              refine wpOp_step rfl (fun K hK => ?_)
              go_simp
              exact hK _ _ ⟨_, _, _, _, _, _, _, _, _, _, _, _, _, _, _, _, _, _, rfl, HI.out.at2⟩
            · obtain rfl := Option.some.inj ho
              have d1 := HI.out.h1 (hdep ⟨1, .data⟩ (by simp) rfl)
              subst d1
              have d2 := HI.out.h2 (hdep ⟨2, .data⟩ (by simp) rfl)
              subst d2
              clear ho hdep hD
              refine wpOp_step rfl (fun K hK => ?_)
              go_simp
              exact hK _ _ ⟨_, _, _, _, _, _, _, _, _, _, _, _, _, _, _, _, _, _, rfl, HI.out.at3⟩
            · obtain rfl := Option.some.inj ho
              have d3 := HI.out.h3 (hdep ⟨3, .data⟩ (by simp) rfl)
              subst d3
              clear ho hdep hD
              refine wpOp_step rfl (fun K hK => ?_)
              go_simp
              exact hK _ _ ⟨_, _, _, _, _, _, _, _, _, _, _, _, _, _, _, _, _, _, rfl, HI.out.at4⟩
            · obtain rfl := Option.some.inj ho
              have d4 := HI.out.h4 (hdep ⟨4, .data⟩ (by simp) rfl)
              subst d4
              clear ho hdep hD
              refine wpOp_step rfl (fun K hK => ?_)
              go_simp
              exact hK _ _ ⟨_, _, _, _, _, _, _, _, _, _, _, _, _, _, _, _, _, _, rfl, HI.out.at5⟩
            · obtain rfl := Option.some.inj ho
              clear ho hdep hD
              refine wpOp_step rfl (fun K hK => ?_)
              go_simp
              exact hK _ _ ⟨_, _, _, _, _, _, _, _, _, _, _, _, _, _, _, _, _, _, rfl, HI.out.at6⟩
            · obtain rfl := Option.some.inj ho
              have d6 := HI.out.h6 (hdep ⟨6, .data⟩ (by simp) rfl)
              subst d6
              clear ho hdep hD
              refine wpOp_step rfl (fun K hK => ?_)
              go_simp
              exact hK _ _ ⟨_, _, _, _, _, _, _, _, _, _, _, _, _, _, _, _, _, _, rfl, HI.out.at7⟩
            · obtain rfl := Option.some.inj ho
              clear ho hdep hD
              refine wpOp_step rfl (fun K hK => ?_)
              go_simp
              exact hK _ _ ⟨_, _, _, _, _, _, _, _, _, _, _, _, _, _, _, _, _, _, rfl, HI.out.at8⟩
            · obtain rfl := Option.some.inj ho
              have d8 := HI.out.h8 (hdep ⟨8, .data⟩ (by simp) rfl)
              subst d8
              clear ho hdep hD
              refine wpOp_step rfl (fun K hK => ?_)
              go_simp
              exact hK _ _ ⟨_, _, _, _, _, _, _, _, _, _, _, _, _, _, _, _, _, _, rfl, HI.out.at9⟩
            · obtain rfl := Option.some.inj ho
              clear ho hdep hD
              refine wpOp_step rfl (fun K hK => ?_)
              go_simp
              exact hK _ _ ⟨_, _, _, _, _, _, _, _, _, _, _, _, _, _, _, _, _, _, rfl, HI.out.at10⟩
            · obtain rfl := Option.some.inj ho
              have d10 := HI.out.h10 (hdep ⟨10, .data⟩ (by simp) rfl)
              subst d10
              clear ho hdep hD
              refine wpOp_step rfl (fun K hK => ?_)
              go_simp
              exact hK _ _ ⟨_, _, _, _, _, _, _, _, _, _, _, _, _, _, _, _, _, _, rfl, HI.out.at11⟩
            · obtain rfl := Option.some.inj ho
              have d9 := HI.out.h9 (hdep ⟨9, .data⟩ (by simp) rfl)
              subst d9
              have d11 := HI.out.h11 (hdep ⟨11, .data⟩ (by simp) rfl)
              subst d11
              have hzz := HZ.out
              have hw : IntKind.i64.wrap (z * z) = z * z := by rw [IntKind.wrap_i64]; omega
              clear ho hdep hD
              refine wpOp_step rfl (fun K hK => ?_)
              go_simp
              exact hK _ _ ⟨_, _, _, _, _, _, _, _, _, _, _, _, _, _, _, _, _, _, rfl, HI.out.at12⟩
            · obtain rfl := Option.some.inj ho
              have d7 := HI.out.h7 (hdep ⟨7, .data⟩ (by simp) rfl)
              subst d7
              have d12 := HI.out.h12 (hdep ⟨12, .data⟩ (by simp) rfl)
              subst d12
              clear ho hdep hD
              refine wpOp_step rfl (fun K hK => ?_)
              go_simp
              exact hK _ _ ⟨_, _, _, _, _, _, _, _, _, _, _, _, _, _, _, _, _, _, rfl, HI.out.at13 hm3⟩
            · obtain rfl := Option.some.inj ho
              clear ho hdep hD
              refine wpOp_step rfl (fun K hK => ?_)
              go_simp
              exact hK _ _ ⟨_, _, _, _, _, _, _, _, _, _, _, _, _, _, _, _, _, _, rfl, HI.out.at14⟩
            · obtain rfl := Option.some.inj ho
              have d13 := HI.out.h13 (hdep ⟨13, .data⟩ (by simp) rfl)
              have d14 := HI.out.h14 (hdep ⟨14, .data⟩ (by simp) rfl)
              subst d14
              obtain ⟨g, rfl, hg⟩ := d13
              clear ho hdep hD
              refine wpOp_step rfl (fun K hK => ?_)
              go_simp
              exact hK _ _ ⟨_, _, _, _, _, _, _, _, _, _, _, _, _, _, _, _, _, _, rfl, HI.out.at15 hg⟩
            · obtain rfl := Option.some.inj ho
              have d15 := HI.out.h15 (hdep ⟨15, .data⟩ (by simp) rfl)
              obtain ⟨g, rfl, hg⟩ := d15
              clear ho hdep hD
              refine wpOp_step rfl (fun K hK => ?_)
              go_simp
              exact hK _ _ ⟨_, _, _, _, _, _, _, _, _, _, _, _, _, _, _, _, _, _, rfl, HI.out.at16⟩
            · obtain rfl := Option.some.inj ho
              have d5 := HI.out.h5 (hdep ⟨5, .data⟩ (by simp) rfl)
              subst d5
              have d16 := HI.out.h16 (hdep ⟨16, .data⟩ (by simp) rfl)
              subst d16
              clear ho hdep hD
              refine wpOp_step rfl (fun K hK => ?_)
              go_simp
              exact hK _ _ ⟨_, _, _, _, _, _, _, _, _, _, _, _, _, _, _, _, _, _, rfl, HI.out.at17⟩
          · rintro D a w' ⟨s32, s33, s34, s35, s36, s37, s38, s39, s40, s41, s42, s43, s44, s45, s46, s47, s48, s49, rfl, hI⟩ hall
            have h17 := hI.h17 (hall 17 (by decide))
            subst h17
            have Hb := hide hI.hb
            clear hI hall
            go_wp2_with fail
            go_meet
            case rel => exact ⟨rfl, Hb.out⟩
        case rest =>
          obtain ⟨rfl, hby⟩ := hcut
          generalize wc = wy at *
          replace m0 := grow_cell hby _ _ m0
          replace m1 := grow_cell hby _ _ m1
          replace p1 := grow_cell hby _ _ p1
          have hBy := below_step hBx hby
          have hBz := below_step hB1 hBy
          by_cases hlen : (row.length : Int) = mlen z m
          · have hlb : ((row.length : Int) != mlen z m) = false := by simp [hlen]
            have Hlen := hide hlen
            rw [hlb]
            clear hlen hlb
            go_wp2_with fail
            go_loopw [56] (fun i wx => ∃ q : Nat, q ≤ row.length ∧ i = .int .i64 q ∧ (∀ i, i < q → inZ z (row.getD i 0) = true) ∧ wy = wx) (fun i _ => row.length - (intOf i).toNat)
            case atStart => exact ⟨0, Nat.zero_le _, rfl, fun i hi => by omega, rfl⟩
            case round =>
              obtain ⟨q, hq, rfl, hin, rfl⟩ := hrel
              have Hin := hide hin
              clear hin
              by_cases hql : q < row.length
              · have hql' : (q : Int) < (row.length : Int) := by omega
                have c3 := grow_cell hby _ _ (HRF.out q hql)
                have hra : ra = some ⟨rb, ro, none⟩ := hrad (by omega)
                subst hra
                have Hmem : Hid (row.getD q 0 ∈ row) := by rw [Hid, List.getD_eq_getElem?_getD, List.getElem?_eq_getElem hql]; simp
                have Hnx : Hid (inZ z (row.getD q 0) = true → ∀ i, i < q + 1 → inZ z (row.getD i 0) = true) := fun h i hi => by
                  by_cases e : i = q
                  · rw [e]; exact h
                  · exact Hin.out i (by omega)
                generalize row.getD q 0 = x at *
                clear hrad
                by_cases hx : 0 ≤ x ∧ x < z
                · obtain ⟨x0, x1⟩ := hx
                  have Hn := hide (Hnx.out (by simp [inZ, x0, x1]))
                  go_wp2_with fail
                  go_roundw
                  case rel => exact ⟨q + 1, by omega, by go_num, Hn.out, trivial⟩
                  case measure => simp [intOf]; omega
                · have Hbad : Hid (rowsE z (s.zip tb) = 3) := by
                    have hr : rowE z ((m : Int), row) = 3 := by
                      unfold rowE
                      rw [if_pos Hlen.out, if_neg]
                      intro hall
                      have := List.all_eq_true.1 hall x Hmem.out
                      simp only [inZ, decide_eq_true_eq] at this
                      exact hx this
                    rw [Hid, rowsE_at Hok.out Hzip.out (by rw [hr]; decide), hr]
                  by_cases x0 : x < 0
                  · clear hx
                    go_wp2_with fail
                    go_ret
                    exact ⟨by rw [Hf.out, Hbad.out]; rfl, hBz⟩
                  · have x1 : z ≤ x := by omega
                    clear hx
                    go_wp2_with fail
                    go_ret
                    exact ⟨by rw [Hf.out, Hbad.out]; rfl, hBz⟩
              · have Hgood : Hid (rowE z ((m : Int), row) = 0) := by
                  rw [Hid, row_ok]
                  refine ⟨Hlen.out, fun x hx => ?_⟩
                  obtain ⟨i, hi, rfl⟩ := List.mem_iff_getElem.1 hx
                  have hi2 : i < row.length := hi
                  have := Hin.out i (by omega)
                  rw [List.getD_eq_getElem?_getD, List.getElem?_eq_getElem hi2] at this
                  simpa [inZ] using this
                have Hn : Hid (∀ i, i < j + 1 → ∀ a, (s.zip tb)[i]? = some a → rowE z a = 0) := fun i hi a ha => by
                  by_cases e : i = j
                  · rw [e, Hzip.out] at ha; cases ha; exact Hgood.out
                  · exact Hok.out i (by omega) a ha
                clear hrad
                go_wp2_with fail
                go_roundw
                case rel => exact ⟨j + 1, by omega, by go_num, Hn.out, hBy⟩
                case measure => simp [intOf]; omega
          · have hlb : ((row.length : Int) != mlen z m) = true := by simp [hlen]
            have Hbad : Hid (rowsE z (s.zip tb) = 5) := by
              have hr : rowE z ((m : Int), row) = 5 := by
                unfold rowE
                rw [if_neg hlen]
              rw [Hid, rowsE_at Hok.out Hzip.out (by rw [hr]; decide), hr]
            rw [hlb]
            clear hlen hlb
            go_wp2_with fail
            go_ret
            exact ⟨by rw [Hf.out, Hbad.out]; rfl, hBz⟩
      · have Hfin : Hid (rowsE z (s.zip tb) = 0) := by
          rw [Hid, rowsE_iff]
          intro p hp
          obtain ⟨i, hi⟩ := List.mem_iff_getElem?.1 hp
          have hil : i < (s.zip tb).length := (List.getElem?_eq_some_iff.1 hi).1
          rw [List.length_zip] at hil
          exact Hok.out i (by omega) p hi
        clear hsad htad
        go_wp2_with fail
        go_ret
        exact ⟨by rw [Hf.out, Hfin.out]; rfl, hBr⟩
  · have Hf : Hid (wrongM s z tb = 5) := if_pos (.inr (.inr hl))
    have hlb : ((tb.length : Int) != (s.length : Int)) = true := by simp; omega
    clear hl
    go_wp2_with fail
    go_ret
    exact ⟨by rw [Hf.out]; rfl, hB1⟩

end Go.Proofs.Ytfnkjadfepoicac

/- The law ModelEither. -/
namespace Go.Proofs.Ytfnkjadfepoicac
open Go.RowKit Go.Deep Go.ChangeShapes Go.WideShapes
attribute [local go_sem ↓] Go.wp_at_zero Go.wp_at_succ

/-- A clause of one literal, laid at once; of two. -/
theorem cl_one {w : World} {l : Lt} {a d : Value} {T : TypeId} (hA : SIn w l.2.1.2 a) (hD : SIn w l.2.2.2 d) : CIn (w.alloc (.cells #[.bool l.1, .bool l.2.1.1.1, .int .i64 l.2.1.1.2, a, .bool l.2.2.1.1, .int .i64 l.2.2.1.2, d] T)) [l] (.slice (some ⟨w.heap.size, 0, none⟩) 1 1) :=
  ⟨_, 1, w.heap.size, 0, rfl, fun _ => rfl, Nat.le_refl _, by unfold maxLen; omega, ⟨new_cell rfl, new_cell rfl, new_cell rfl, ⟨a, new_cell rfl, hA.alloc _⟩, new_cell rfl, new_cell rfl, d, new_cell rfl, hD.alloc _⟩, trivial⟩
theorem cl_two {w : World} {l m : Lt} {a d a' d' : Value} {T : TypeId} (hA : SIn w l.2.1.2 a) (hD : SIn w l.2.2.2 d) (hA' : SIn w m.2.1.2 a') (hD' : SIn w m.2.2.2 d') : CIn (w.alloc (.cells #[.bool l.1, .bool l.2.1.1.1, .int .i64 l.2.1.1.2, a, .bool l.2.2.1.1, .int .i64 l.2.2.1.2, d, .bool m.1, .bool m.2.1.1.1, .int .i64 m.2.1.1.2, a', .bool m.2.2.1.1, .int .i64 m.2.2.1.2, d'] T)) [l, m] (.slice (some ⟨w.heap.size, 0, none⟩) 2 2) :=
  ⟨_, 2, w.heap.size, 0, rfl, fun _ => rfl, Nat.le_refl _, by unfold maxLen; omega, ⟨new_cell rfl, new_cell rfl, new_cell rfl, ⟨a, new_cell rfl, hA.alloc _⟩, new_cell rfl, new_cell rfl, d, new_cell rfl, hD.alloc _⟩,
    ⟨new_cell rfl, new_cell rfl, new_cell rfl, ⟨a', new_cell rfl, hA'.alloc _⟩, new_cell rfl, new_cell rfl, d', new_cell rfl, hD'.alloc _⟩, trivial⟩
/-- Holds, of a clause however great. -/
theorem holds_sig {s : List Int} {z : Int} {tb : List (List Int)} (hm : MR s z tb) (hs : s.all okNum = true) (k : Cl) (mv a : Value) (w : World) (hT : TbIn w tb mv) (hS : CIn w k a) (hw : ∀ l ∈ k, sigT s l.2.1 ∧ sigT s l.2.2) :
    Calls Try.prog 15 #[.agg #[.int .i64 z, mv], a] w fun e w' => e = .returned (.bool (holdsB z tb k)) ∧ Below w.heap.size w w' :=
  holds_any hm hs k mv a w hT hS hw (sigC_vars hw).2 (sigC_vars hw).1
theorem holds_sigP {s : List Int} {z : Int} {tb : List (List Int)} {k : Cl} (hm : MR s z tb) (hw : ∀ l ∈ k, sigT s l.2.1 ∧ sigT s l.2.2) : holdsB z tb k = true ↔ holdsP z tb k := holds_iff hm.z1 (sigC_vars hw).1
theorem either_ok {s : List Int} {z : Int} {tb : List (List Int)} {l : Lt} (hm : MR s z tb) (hl : sigT s l.2.1 ∧ sigT s l.2.2) : holdsB z tb [l, notL l] = true ∧ holdsB z tb [] = false ∧ (holdsB z tb [l] = true → holdsB z tb [notL l] = true → False) := by
  have h1 : ∀ x ∈ [l], sigT s x.2.1 ∧ sigT s x.2.2 := fun x hx => by simp at hx; subst hx; exact hl
  have h2 : ∀ x ∈ [notL l], sigT s x.2.1 ∧ sigT s x.2.2 := fun x hx => by simp at hx; subst hx; exact hl
  have h3 : ∀ x ∈ [l, notL l], sigT s x.2.1 ∧ sigT s x.2.2 := fun x hx => by simp at hx; rcases hx with rfl | rfl <;> exact hl
  refine ⟨(holds_sigP hm h3).2 (holds_either z tb l), ?_, fun a b => holds_not hm.z1 ((holds_sigP hm h1).1 a) ((holds_sigP hm h2).1 b)⟩
  cases e : holdsB z tb []
  · rfl
  · exact absurd ((holds_sigP hm (k := []) (fun x hx => by cases hx)).1 e) (holds_none hm.z1 tb)

set_option maxRecDepth 100000 in
set_option maxHeartbeats 4000000 in
theorem modelEither_of (s : List Int) (sv : Value) (z : Int) (tb : List (List Int)) (mv : Value) (l : Lt) (a d : Value) (w : World) (hN : NIn w s sv) (hT : TbIn w tb mv) (hA : SIn w l.2.1.2 a) (hD : SIn w l.2.2.2 d) :
    Calls Try.prog 4 #[sv, .agg #[.int .i64 z, mv], litA l a d] w fun e w' => e = .returned (.bool true) ∧ Below w.heap.size w w' := by
  have HN := hide hN
  have HT := hide hT
  have HA := hide hA
  have HD := hide hD
  obtain ⟨yn, ⟨⟨yv, yi⟩, yk⟩, ⟨⟨yv', yi'⟩, yk'⟩⟩ := l
  obtain ⟨sa, sc, _, _, rfl, -, -, -, -⟩ := hN
  obtain ⟨ta, tc, rfl⟩ := tb_slice hT
  obtain ⟨ya, yc, _, _, rfl, -, -, -, -⟩ := hA
  obtain ⟨za, zc, _, _, rfl, -, -, -, -⟩ := hD
  simp only at *
  clear hT
  go_enter Try.func4, Try.ntmps4
  go_upto_region 1 with fail
  generalize hW0 : w.alloc (.cells #[.int .i64 z, .slice ta tb.length tc] 26) = W0
  have hB0 : Below w.heap.size w W0 := by rw [← hW0]; exact below_alloc _ _
  have s0 : W0.heap.size = w.heap.size + 1 := by rw [← hW0]; simp
  have m0 : W0.cell? ⟨w.heap.size, 0, none⟩ = some (.int .i64 z) := by rw [← hW0]; exact new_cell rfl
  have m1 : W0.cell? ⟨w.heap.size, 1, none⟩ = some (.slice ta tb.length tc) := by rw [← hW0]; exact new_cell rfl
  clear hW0
  generalize hW1 : W0.alloc (.cells #[.bool yn, .bool yv, .int .i64 yi, .slice ya (Fo.len yk) yc, .bool yv', .int .i64 yi', .slice za (Fo.len yk') zc] 37) = wn
  obtain ⟨g0, g1, g2, g3, g4, g5, g6, -, hba, -⟩ := lit_cells (T := 37) (x0 := .bool yn) (w := W0) (wr := wn) (x1 := .bool yv) (x2 := .int .i64 yi) (x3 := .slice ya (Fo.len yk) yc) (x4 := .bool yv') (x5 := .int .i64 yi') (x6 := .slice za (Fo.len yk') zc) (by rw [← hW1]; exact Below.refl _ _)
  replace m0 := grow_cell hba _ _ m0
  replace m1 := grow_cell hba _ _ m1
  have hB := below_step hB0 hba
  rw [s0] at g0 g1 g2 g3 g4 g5 g6
  clear hW1 hba hB0 s0
  generalize w.heap.size + 1 = bl at *
  clear W0
  go_wp2_with fail
  refine (alive5_any _).mono ?_
  rintro e w1 ⟨rfl, hb⟩
  replace hB := below_step hB hb
  replace m0 := grow_cell hb _ _ m0
  replace m1 := grow_cell hb _ _ m1
  replace g0 := grow_cell hb _ _ g0
  replace g1 := grow_cell hb _ _ g1
  replace g2 := grow_cell hb _ _ g2
  replace g3 := grow_cell hb _ _ g3
  replace g4 := grow_cell hb _ _ g4
  replace g5 := grow_cell hb _ _ g5
  replace g6 := grow_cell hb _ _ g6
  clear hb
  generalize w1 = wn at *
  go_wp2_with fail
  refine (wsigR_any s _ _ (HN.out.below hB)).mono ?_
  rintro e w' ⟨rfl, hw'⟩
  rw [hw']
  clear hw' w'
  by_cases hw : wsig s = 0
  · have Hw := hide hw
    simp only [hw]
    clear hw
    obtain ⟨ok, h6, _⟩ := wsig_ok Hw.out
    have Hok := hide ok
    clear ok h6
    go_wp2_with fail
    refine (wrongMR_any s _ z tb _ _ (HN.out.below hB) (HT.out.below hB) Hok.out).mono ?_
    rintro e w1 ⟨rfl, hb⟩
    replace hB := below_step hB hb
    replace m0 := grow_cell hb _ _ m0
    replace m1 := grow_cell hb _ _ m1
    replace g0 := grow_cell hb _ _ g0
    replace g1 := grow_cell hb _ _ g1
    replace g2 := grow_cell hb _ _ g2
    replace g3 := grow_cell hb _ _ g3
    replace g4 := grow_cell hb _ _ g4
    replace g5 := grow_cell hb _ _ g5
    replace g6 := grow_cell hb _ _ g6
    clear hb
    generalize w1 = wn at *
    by_cases hm : wrongM s z tb = 0
    · have Hm := hide (wrongM_ok hm)
      simp only [hm]
      clear hm
      have Hcl : Hid (CIn (wn.alloc (.cells #[.bool yn, .bool yv, .int .i64 yi, .slice ya (Fo.len yk) yc, .bool yv', .int .i64 yi', .slice za (Fo.len yk') zc] 37)) [(yn, ((yv, yi), yk), ((yv', yi'), yk'))] (.slice (some ⟨wn.heap.size, 0, none⟩) 1 1)) := cl_one (l := (yn, ((yv, yi), yk), ((yv', yi'), yk'))) (HA.out.below hB) (HD.out.below hB)
      go_wp2_with fail
      refine (wrongCR_any s _ [(yn, ((yv, yi), yk), ((yv', yi'), yk'))] _ _ ((HN.out.below hB).alloc _) Hcl.out).mono ?_
      rintro e w1 ⟨rfl, hb⟩
      replace hb := below_box hb
      replace hB := below_step hB hb
      replace m0 := grow_cell hb _ _ m0
      replace m1 := grow_cell hb _ _ m1
      replace g0 := grow_cell hb _ _ g0
      replace g1 := grow_cell hb _ _ g1
      replace g2 := grow_cell hb _ _ g2
      replace g3 := grow_cell hb _ _ g3
      replace g4 := grow_cell hb _ _ g4
      replace g5 := grow_cell hb _ _ g5
      replace g6 := grow_cell hb _ _ g6
      clear hb Hcl
      generalize w1 = wn at *
      by_cases hc : wrongC s [(yn, ((yv, yi), yk), ((yv', yi'), yk'))] = 0
      · have Hsl : Hid (sigT s ((yv, yi), yk) ∧ sigT s ((yv', yi'), yk')) := sigC_right hc (yn, ((yv, yi), yk), ((yv', yi'), yk')) List.mem_cons_self
        have Hei := hide (either_ok (l := (yn, ((yv, yi), yk), ((yv', yi'), yk'))) Hm.out Hsl.out)
        simp only [hc]
        clear hc
        go_upto_region 6 with fail
        generalize hW1 : wn.alloc (.cells #[.bool yn, .bool yv, .int .i64 yi, .slice ya (Fo.len yk) yc, .bool yv', .int .i64 yi', .slice za (Fo.len yk') zc] 37) = w1
        obtain ⟨q0, q1, q2, q3, q4, q5, q6, qf, hb, -⟩ := lit_cells (T := 37) (x0 := .bool yn) (w := wn) (wr := w1) (x1 := .bool yv) (x2 := .int .i64 yi) (x3 := .slice ya (Fo.len yk) yc) (x4 := .bool yv') (x5 := .int .i64 yi') (x6 := .slice za (Fo.len yk') zc) (by rw [← hW1]; exact Below.refl _ _)
        have qf0 := qf 0
        have Hbl : Hid (bl < wn.heap.size) := World.block_lt_of_cell? _ _ g0
        have Hbm : Hid (w.heap.size < wn.heap.size) := World.block_lt_of_cell? _ _ m0
        have HB0 := hide hB
        replace hB := below_step hB hb
        replace m0 := grow_cell hb _ _ m0
        replace m1 := grow_cell hb _ _ m1
        replace g0 := grow_cell hb _ _ g0
        replace g1 := grow_cell hb _ _ g1
        replace g2 := grow_cell hb _ _ g2
        replace g3 := grow_cell hb _ _ g3
        replace g4 := grow_cell hb _ _ g4
        replace g5 := grow_cell hb _ _ g5
        replace g6 := grow_cell hb _ _ g6
        have Hb := hide hb
        clear hW1 hb qf
        generalize hbn : wn.heap.size = bn at *
        go_upto_region 7 with fail
        generalize hW2 : w1.setCell _ _ = w2
        have keep : ∀ q i v, (q ≠ bn ∨ i ≠ 0) → w1.cell? ⟨q, i, none⟩ = some v → w2.cell? ⟨q, i, none⟩ = some v := fun q i v hq h => by
          rw [← hW2]
          exact (set_other (by intro e'; simp only [Addr.mk.injEq] at e'; omega)).trans h
        have r0 : w2.cell? ⟨bn, 0, none⟩ = some (.bool (!yn)) := by rw [← hW2]; exact set_same q0
        have h1 := Hbl.out
        have h2 := Hbm.out
        replace hB : Below w.heap.size w w2 := by rw [← hW2]; exact hB.setCell (by show w.heap.size ≤ bn; omega) _
        replace m0 := keep _ _ _ (.inl (by omega)) m0
        replace m1 := keep _ _ _ (.inl (by omega)) m1
        replace g0 := keep _ _ _ (.inl (by omega)) g0
        replace g1 := keep _ _ _ (.inl (by omega)) g1
        replace g2 := keep _ _ _ (.inl (by omega)) g2
        replace g3 := keep _ _ _ (.inl (by omega)) g3
        replace g4 := keep _ _ _ (.inl (by omega)) g4
        replace g5 := keep _ _ _ (.inl (by omega)) g5
        replace g6 := keep _ _ _ (.inl (by omega)) g6
        replace q1 := keep _ _ _ (.inr (by omega)) q1
        replace q2 := keep _ _ _ (.inr (by omega)) q2
        replace q3 := keep _ _ _ (.inr (by omega)) q3
        replace q4 := keep _ _ _ (.inr (by omega)) q4
        replace q5 := keep _ _ _ (.inr (by omega)) q5
        replace q6 := keep _ _ _ (.inr (by omega)) q6
        clear keep hW2 q0 qf0 h1 h2 Hbl Hbm HB0 Hb hbn
        clear wn w1
        generalize w2 = wn at *
        obtain ⟨h3, h4, h5⟩ := Hei.out
        have Hs1 : Hid (∀ x ∈ [(yn, ((yv, yi), yk), ((yv', yi'), yk'))], sigT s x.2.1 ∧ sigT s x.2.2) := fun x hx => by simp at hx; subst hx; exact Hsl.out
        have Hs2 : Hid (∀ x ∈ [(!yn, ((yv, yi), yk), ((yv', yi'), yk'))], sigT s x.2.1 ∧ sigT s x.2.2) := fun x hx => by simp at hx; subst hx; exact Hsl.out
        have Hs3 : Hid (∀ x ∈ [(yn, ((yv, yi), yk), ((yv', yi'), yk')), (!yn, ((yv, yi), yk), ((yv', yi'), yk'))], sigT s x.2.1 ∧ sigT s x.2.2) := fun x hx => by simp at hx; rcases hx with rfl | rfl <;> exact Hsl.out
        obtain ⟨V1, hV1⟩ : ∃ V, holdsB z tb [(yn, ((yv, yi), yk), ((yv', yi'), yk'))] = V := ⟨_, rfl⟩
        obtain ⟨V2, hV2⟩ : ∃ V, holdsB z tb [(!yn, ((yv, yi), yk), ((yv', yi'), yk'))] = V := ⟨_, rfl⟩
        have Hc1 : Hid (∀ w' : World, Below w.heap.size w w' → Calls Try.prog 15 #[.agg #[.int .i64 z, .slice ta tb.length tc], .slice (some ⟨w'.heap.size, 0, none⟩) 1 1] (w'.alloc (.cells #[.bool yn, .bool yv, .int .i64 yi, .slice ya (Fo.len yk) yc, .bool yv', .int .i64 yi', .slice za (Fo.len yk') zc] 37)) fun e w'' => e = .returned (.bool V1) ∧ Below w'.heap.size w' w'') := fun w' hb => by
          refine (holds_sig Hm.out Hok.out [(yn, ((yv, yi), yk), ((yv', yi'), yk'))] _ _ _ ((HT.out.below hb).alloc _) (cl_one (l := (yn, ((yv, yi), yk), ((yv', yi'), yk'))) (HA.out.below hb) (HD.out.below hb)) Hs1.out).mono ?_
          rintro e w2 ⟨rfl, hb2⟩
          exact ⟨by rw [hV1], below_box hb2⟩
        have Hc2 : Hid (∀ w' : World, Below w.heap.size w w' → Calls Try.prog 15 #[.agg #[.int .i64 z, .slice ta tb.length tc], .slice (some ⟨w'.heap.size, 0, none⟩) 1 1] (w'.alloc (.cells #[.bool (!yn), .bool yv, .int .i64 yi, .slice ya (Fo.len yk) yc, .bool yv', .int .i64 yi', .slice za (Fo.len yk') zc] 37)) fun e w'' => e = .returned (.bool V2) ∧ Below w'.heap.size w' w'') := fun w' hb => by
          refine (holds_sig Hm.out Hok.out [(!yn, ((yv, yi), yk), ((yv', yi'), yk'))] _ _ _ ((HT.out.below hb).alloc _) (cl_one (l := (!yn, ((yv, yi), yk), ((yv', yi'), yk'))) (HA.out.below hb) (HD.out.below hb)) Hs2.out).mono ?_
          rintro e w2 ⟨rfl, hb2⟩
          exact ⟨by rw [hV2], below_box hb2⟩
        have Hc3 : Hid (∀ w' : World, Below w.heap.size w w' → Calls Try.prog 15 #[.agg #[.int .i64 z, .slice ta tb.length tc], .slice (some ⟨w'.heap.size, 0, none⟩) 2 2] (w'.alloc (.cells #[.bool yn, .bool yv, .int .i64 yi, .slice ya (Fo.len yk) yc, .bool yv', .int .i64 yi', .slice za (Fo.len yk') zc, .bool (!yn), .bool yv, .int .i64 yi, .slice ya (Fo.len yk) yc, .bool yv', .int .i64 yi', .slice za (Fo.len yk') zc] 37)) fun e w'' => e = .returned (.bool true) ∧ Below w'.heap.size w' w'') := fun w' hb => by
          refine (holds_sig Hm.out Hok.out [(yn, ((yv, yi), yk), ((yv', yi'), yk')), (!yn, ((yv, yi), yk), ((yv', yi'), yk'))] _ _ _ ((HT.out.below hb).alloc _) (cl_two (l := (yn, ((yv, yi), yk), ((yv', yi'), yk'))) (m := (!yn, ((yv, yi), yk), ((yv', yi'), yk'))) (HA.out.below hb) (HD.out.below hb) (HA.out.below hb) (HD.out.below hb)) Hs3.out).mono ?_
          rintro e w2 ⟨rfl, hb2⟩
          exact ⟨by rw [show holdsB z tb [(yn, ((yv, yi), yk), ((yv', yi'), yk')), (!yn, ((yv, yi), yk), ((yv', yi'), yk'))] = true from h3], below_box hb2⟩
        have Hc4 : Hid (∀ w' : World, Below w.heap.size w w' → Calls Try.prog 15 #[.agg #[.int .i64 z, .slice ta tb.length tc], .slice none 0 0] w' fun e w'' => e = .returned (.bool false) ∧ Below w'.heap.size w' w'') := fun w' hb => by
          refine (holds_sig Hm.out Hok.out [] _ _ _ (HT.out.below hb) (CIn.nil _) (fun x hx => by cases hx)).mono ?_
          rintro e w2 ⟨rfl, hb2⟩
          exact ⟨by rw [h4], hb2⟩
        have Hno : Hid (V1 = true → V2 = true → False) := fun a b => h5 (hV1.trans a) (hV2.trans b)
        clear h3 h4 h5 hV1 hV2 Hs1 Hs2 Hs3 Hei
        go_wp2_with fail
        refine (Hc1.out _ hB).mono ?_
        rintro e w1 ⟨rfl, hb⟩
        replace hB := below_step hB hb
        replace m0 := grow_cell hb _ _ m0
        replace m1 := grow_cell hb _ _ m1
        replace g0 := grow_cell hb _ _ g0
        replace g1 := grow_cell hb _ _ g1
        replace g2 := grow_cell hb _ _ g2
        replace g3 := grow_cell hb _ _ g3
        replace g4 := grow_cell hb _ _ g4
        replace g5 := grow_cell hb _ _ g5
        replace g6 := grow_cell hb _ _ g6
        replace r0 := grow_cell hb _ _ r0
        replace q1 := grow_cell hb _ _ q1
        replace q2 := grow_cell hb _ _ q2
        replace q3 := grow_cell hb _ _ q3
        replace q4 := grow_cell hb _ _ q4
        replace q5 := grow_cell hb _ _ q5
        replace q6 := grow_cell hb _ _ q6
        clear hb
        generalize w1 = wn at *
        cases V1
        case' true =>
          go_wp2_with fail
          refine (Hc2.out _ hB).mono ?_
          rintro e w1 ⟨rfl, hb⟩
          replace hB := below_step hB hb
          replace m0 := grow_cell hb _ _ m0
          replace m1 := grow_cell hb _ _ m1
          replace g0 := grow_cell hb _ _ g0
          replace g1 := grow_cell hb _ _ g1
          replace g2 := grow_cell hb _ _ g2
          replace g3 := grow_cell hb _ _ g3
          replace g4 := grow_cell hb _ _ g4
          replace g5 := grow_cell hb _ _ g5
          replace g6 := grow_cell hb _ _ g6
          replace r0 := grow_cell hb _ _ r0
          replace q1 := grow_cell hb _ _ q1
          replace q2 := grow_cell hb _ _ q2
          replace q3 := grow_cell hb _ _ q3
          replace q4 := grow_cell hb _ _ q4
          replace q5 := grow_cell hb _ _ q5
          replace q6 := grow_cell hb _ _ q6
          clear hb
          generalize w1 = wn at *
          cases V2
          case' true => exact absurd Hno.out (by simp)
        all_goals
          clear Hno Hc1 Hc2
          go_wp2_with fail
          refine (Hc3.out _ hB).mono ?_
          rintro e w1 ⟨rfl, hb⟩
          replace hB := below_step hB hb
          replace m0 := grow_cell hb _ _ m0
          replace m1 := grow_cell hb _ _ m1
          clear hb
          generalize w1 = wn at *
          go_wp2_with fail
          refine (Hc4.out _ hB).mono ?_
          rintro e w1 ⟨rfl, hb⟩
          replace hB := below_step hB hb
          clear hb
          go_wp2_with fail
          go_ret
          exact ⟨rfl, hB⟩
      · have heb : (wrongC s [(yn, ((yv, yi), yk), ((yv', yi'), yk'))] != 0) = true := by simp [hc]
        generalize wrongC s [(yn, ((yv, yi), yk), ((yv', yi'), yk'))] = er at *
        clear hc
        go_wp2_with fail
        go_ret
        exact ⟨rfl, hB⟩
    · have heb : (wrongM s z tb != 0) = true := by simp [hm]
      generalize wrongM s z tb = er at *
      clear hm
      go_wp2_with fail
      go_ret
      exact ⟨rfl, hB⟩
  · have heb : (wsig s != 0) = true := by simp [hw]
    generalize wsig s = er at *
    clear hw
    go_wp2_with fail
    go_ret
    exact ⟨rfl, hB⟩

end Go.Proofs.Ytfnkjadfepoicac

/- A term with greater numbers: the document's Rename. -/
namespace Go.Proofs.Ytfnkjadfepoicac
open Go.RowKit Go.Deep Go.ChangeShapes Go.WideShapes
attribute [local go_sem ↓] Go.wp_at_zero Go.wp_at_succ

def RenRSaid (d : Int) (x : Bool × Int) (k : Fo) : Prop := ∀ (W0 : World) (a : Value) (w : World), Below W0.heap.size W0 w → SIn W0 k a → okT (x, k) → narT (x, k) →
    Calls Try.prog 48 #[.agg #[.bool x.1, .int .i64 x.2, a], .int .i64 d] w fun e w' => ∃ (a1 : Option Addr) (a2 a3 : Nat), e = .returned (.agg #[.bool (subT (ren d) (x, k)).1.1, .int .i64 (subT (ren d) (x, k)).1.2, .slice a1 a2 a3]) ∧
      SB (fun q => q < W0.heap.size ∨ (w.heap.size ≤ q ∧ q < w'.heap.size)) w' (subT (ren d) (x, k)).2 (.slice a1 a2 a3) ∧ Below w.heap.size w w'

set_option maxRecDepth 100000 in
set_option maxHeartbeats 2000000 in
theorem renameR_any (d : Int) (x : Bool × Int) (k : Fo) : RenRSaid d x k := by
  refine Fo.ind1 (p := RenRSaid d) ?_ x k
  clear x k
  intro x k ih W0 a w hW hS hok hnar
  obtain ⟨v, n⟩ := x
  have HI := hide ih
  have HW := hide hW
  have Hok := hide hok
  have Hnar := hide hnar
  have HS := hide hS
  obtain ⟨ad, ac, b, o, rfl, had, hlc, hcm, hF⟩ := hS
  have HF := hide hF
  have hW0 := hW.size
  unfold maxLen at hcm
  clear ih hok hF hW
  cases v
  · have Hres : Hid (subT (ren d) ((false, n), k) = ((false, n), subF (ren d) k)) := rfl
    have HTok : Hid (Fo.ok (subF (ren d) k)) := subF_ok (fun _ => ok_vr _) k
    have Hl := hide (Fo.len_list k)
    have Hl2 := hide (subF_len (ren d) k)
    have hlen : Fo.len k ≤ 1000 := hnar.1
    clear hnar
    go_enter Try.func48, Try.ntmps48
    go_wp2_with fail
    generalize hW2 : (w.alloc (.cells #[.bool false, .int .i64 n, .slice ad (Fo.len k) ac] 35)).alloc (.cells #[.bool false, .int .i64 0, .slice none 0 0] 35) = W2
    have hs2 : W2.heap.size = w.heap.size + 1 + 1 := by rw [← hW2]; simp
    have hB2 : Below w.heap.size w W2 := by rw [← hW2]; exact (below_alloc _ _).alloc (by simp) _
    have r0 : W2.cell? ⟨w.heap.size + 1, 0, none⟩ = some (.bool false) := by rw [← hW2]; exact new_cell (World.size_alloc _ _)
    have r1 : W2.cell? ⟨w.heap.size + 1, 1, none⟩ = some (.int .i64 0) := by rw [← hW2]; exact new_cell (World.size_alloc _ _)
    have r2 : W2.cell? ⟨w.heap.size + 1, 2, none⟩ = some (.slice none 0 0) := by rw [← hW2]; exact new_cell (World.size_alloc _ _)
    have rf : ∀ i, W2.frozen? ⟨w.heap.size + 1, i, none⟩ = false := fun i => by rw [← hW2]; exact new_frozen (World.size_alloc _ _)
    have HQ := hide (And.intro r0 (And.intro r1 (And.intro r2 rf)))
    have HB2 := hide hB2
    have Hs2 := hide hs2
    have H0 : Hid (AppRel (w.heap.size + 1 + 1) W2 (fun q => q < W0.heap.size) (subF (ren d) k) n 0 (W2.alloc (.cells #[.bool false, .int .i64 n, .slice none 0 0] 35))) := app_zero hs2
    clear r0 r1 r2 rf hB2 hs2 hW2
    go_loopw [23] (fun i wr => ∃ j : Nat, j ≤ Fo.len k ∧ i = .int .i64 j ∧ AppRel (w.heap.size + 1 + 1) W2 (fun q => q < W0.heap.size) (subF (ren d) k) n j wr) (fun i _ => Fo.len k - (intOf i).toNat)
    case atStart => exact ⟨0, Nat.zero_le _, rfl, H0.out⟩
    case round =>
      obtain ⟨j, hj, rfl, hR⟩ := hrel
      have HR := hide hR
      obtain ⟨vr', xs, h1, h2, q0, q1, q2, qf, hB⟩ := hR
      have H1 := hide h1
      have H2 := hide h2
      have HB := hide hB
      have Hqf := hide qf
      have hs2 := Hs2.out
      have hBw : Below w.heap.size w wr := HB2.out.trans (hB.mono (by omega))
      have hB0 : Below W0.heap.size W0 wr := HW.out.trans (hBw.mono hW0)
      have hBlt : w.heap.size + 1 + 1 < wr.heap.size := World.block_lt_of_cell? _ _ q0
      obtain ⟨z1, z3, rfl⟩ := slice_of_owns h1
      clear H0 h1 h2 hB
      by_cases hlt : j < Fo.len k
      · have hlt' : (j : Int) < (Fo.len k : Int) := by omega
        have had' : ad = some ⟨b, o, none⟩ := had (by omega)
        subst had'
        obtain ⟨⟨⟨ev, en⟩, ek⟩, hy⟩ : ∃ y, k.list[j]? = some y := ⟨k.list[j]'(by rw [Hl.out]; exact hlt), by simp⟩
        obtain ⟨c0, c1, yv', c2, hSy⟩ := HF.out.at hy
        have c0' := grow_cell hB0 _ _ c0
        have c1' := grow_cell hB0 _ _ c1
        have c2' := grow_cell hB0 _ _ c2
        have HSy := hide hSy
        obtain ⟨ya, yc, yb, yo, rfl, -, -, -, -⟩ := hSy
        have Hy := hide hy
        have Hy2 : Hid ((subF (ren d) k).list[j]? = some (subT (ren d) ((ev, en), ek))) := by rw [Hid, subF_list, List.getElem?_map, hy]; rfl
        obtain ⟨⟨⟨xv, xn⟩, xk⟩, hz⟩ : ∃ z, z = subT (ren d) ((ev, en), ek) := ⟨_, rfl⟩
        have Hz := hide hz
        have Hoke : Hid (okT ((ev, en), ek)) := ok_mem Hok.out.2 (List.mem_of_getElem? hy)
        have Hnare : Hid (narT ((ev, en), ek)) := nar_mem Hnar.out.2 (List.mem_of_getElem? hy)
        clear hy had c0 c1 c2 hz
        obtain ⟨i26, hi26, hz0, hz1, hz2⟩ := info_parts Try.info35
        have hn1 : j + 1 ≤ maxLen := by unfold maxLen; omega
        have hn2 : (j + 1) * 40 ≤ 140737488355328 := by omega
        go_upto_region 7 with fail
        generalize hwa : wr.alloc (.cells #[.bool ev, .int .i64 en, .slice ya (Fo.len ek) yc] 35) = wa
        have e0 : wa.cell? ⟨wr.heap.size, 0, none⟩ = some (.bool ev) := by rw [← hwa]; exact new_cell rfl
        have e1 : wa.cell? ⟨wr.heap.size, 1, none⟩ = some (.int .i64 en) := by rw [← hwa]; exact new_cell rfl
        have e2 : wa.cell? ⟨wr.heap.size, 2, none⟩ = some (.slice ya (Fo.len ek) yc) := by rw [← hwa]; exact new_cell rfl
        have hba : Below wr.heap.size wr wa := by rw [← hwa]; exact below_alloc _ _
        have f2 := grow_cell hba _ _ q2
        have ff : ∀ i, wa.frozen? ⟨w.heap.size + 1 + 1, i, none⟩ = false := fun i => (hba.frozen hBlt).trans (Hqf.out i)
        have hBa : w.heap.size + 1 + 1 < wa.heap.size := Nat.lt_of_lt_of_le hBlt hba.size
        have Hno : Hid (some (w.heap.size + 1 + 1) ≠ (Value.slice z1 j z3).ownBlock) := fun e => by have := (owns_at H1.out _ e.symm).1; omega
        have hcall : Calls Try.prog 48 #[.agg #[.bool ev, .int .i64 en, .slice ya (Fo.len ek) yc], .int .i64 d] wa.drew fun e w' => ∃ (a1 : Option Addr) (a2 a3 : Nat), e = .returned (.agg #[.bool xv, .int .i64 xn, .slice a1 a2 a3]) ∧ SB (fun q => q < W0.heap.size ∨ (wa.heap.size ≤ q ∧ q < w'.heap.size)) w' xk (.slice a1 a2 a3) ∧ Below wa.heap.size wa w' := by
          refine (HI.out ((ev, en), ek) (List.mem_of_getElem? Hy.out) W0 _ wa.drew ?_ HSy.out Hoke.out Hnare.out).mono ?_
          · exact (hB0.trans (hba.mono hB0.size)).trans (Below.refl _ _).drew
          · rintro e w' ⟨a1, a2, a3, rfl, hk, hb⟩
            rw [← Hz.out] at hk ⊢
            exact ⟨a1, a2, a3, rfl, hk, (Below.refl _ _).drew.trans hb⟩
        have Hcall := hide hcall
        have Hba := hide hba
        clear hcall hwa c0' c1' c2' hba q2 qf
        go_region_law (first
          | (refine step_append_lies _ (by rfl) _ _ _ (by rfl) (w.heap.size + 1 + 1 + 1) 35 i26 (.agg #[.bool false, .int .i64 0, .slice none 0 0]) 3 40 Try.underlying33 hi26 hz0 hz1 hz2 rfl (by decide) (.slice z1 j z3) j xs (by rfl) Hown3.out ⟨w3.heap.size, 0, none⟩ 1 1 [.bool xv, .int .i64 xn, .slice a1 a2 a3] (by rfl) (by rfl) Hnews.out (by simp [Value.oneCell']) (by decide) hn1 hn2 (by simp; omega) (w3.heap.size + 1) (by simp) ?_; intro g cap w4 ho4 hg4 hat4 hlt4; have x2 := out_cell hg4 hB3 Hno.out g3; have xf := out_frozen hg4 hB3 Hno.out gf3)
          | (go_simp; go_at_call 48; refine Hcall.out.mono ?_; rintro e w3 ⟨a1, a2, a3, rfl, hk3, hb3⟩
             have hs3 := hb3.size; have g3 := grow_cell hb3 _ _ f2; have gf3 : ∀ i, w3.frozen? ⟨w.heap.size + 1 + 1, i, none⟩ = false := (fun i => (hb3.frozen hBa).trans (ff i)); have hB3 : w.heap.size + 1 + 1 < w3.heap.size := Nat.lt_of_lt_of_le hBa hs3
             have Hown3 : Hid ((w3.alloc (.cells #[.bool xv, .int .i64 xn, .slice a1 a2 a3] 35)).ownsRow (w.heap.size + 1 + 1 + 1) 35 3 (.slice z1 j z3) j xs) := (owns_keep H1.out (fun g hg => by have h := owns_at H1.out g hg; have hsz := Hba.out.size; rw [Below.heap_alloc _ _ _ (by omega), hb3.block g (by omega), Hba.out.block g h.2]))
             have Hnews : Hid (∀ j u, [Value.bool xv, .int .i64 xn, .slice a1 a2 a3][j]? = some u → (w3.alloc (.cells #[.bool xv, .int .i64 xn, .slice a1 a2 a3] 35)).cell? ((⟨w3.heap.size, 0, none⟩ : Addr).add j) = some u) := (World.news_of_block (cs := #[.bool xv, .int .i64 xn, .slice a1 a2 a3]) (heap_alloc_new w3 _))))
        all_goals
          have Hst := hide (app_next (B := w.heap.size + 1 + 1) (W2 := W2) (X := fun q => q < W0.heap.size) (T := subF (ren d) k) (xn := n) (z := (xv, xn)) (r := xk) (a := .slice a1 a2 a3) HTok.out H1.out H2.out (fun q hq => by omega) q0 q1 (by have hc := HR.out; obtain ⟨_, _, _, _, _, _, q2, _, _⟩ := hc; exact (Hba.out.cell (p := ⟨w.heap.size + 1 + 1, 2, none⟩) hBlt).symm.trans f2) Hqf.out HB.out (below_step Hba.out hb3) (hk3.wide (fun q hq => by rcases hq with h | h; exact .inl h; exact .inr ⟨by have := Hba.out.size; omega, h.2⟩)) (by rw [Hy2.out, ← Hz.out]) rfl ho4 hg4 hat4 hlt4)
          clear hk3 hb3 ho4 hg4 hat4 hlt4 x2 xf g3 gf3 Hown3 Hnews hi26 hz0 hz1 hz2
          go_wp2_with fail
          go_roundw
          case rel => exact ⟨j + 1, by omega, by go_num, Hst.out⟩
          case measure => simp [intOf]; omega
      · have hje : j = Fo.len k := by omega
        have hRe : AppRel (w.heap.size + 1 + 1) W2 (fun q => q < W0.heap.size) (subF (ren d) k) n (Fo.len (subF (ren d) k)) wr := by rw [Hl2.out, ← hje]; exact HR.out
        obtain ⟨y1, y3, hc2, hSB⟩ := app_end hRe
        have HSB := hide hSB
        obtain ⟨p0, p1, p2, pf⟩ := HQ.out
        have s0 : wr.cell? ⟨w.heap.size + 1, 0, none⟩ = some (.bool false) := (HB.out.cell (by show w.heap.size + 1 < _; omega)).trans p0
        have s1 : wr.cell? ⟨w.heap.size + 1, 1, none⟩ = some (.int .i64 0) := (HB.out.cell (by show w.heap.size + 1 < _; omega)).trans p1
        have s2 : wr.cell? ⟨w.heap.size + 1, 2, none⟩ = some (.slice none 0 0) := (HB.out.cell (by show w.heap.size + 1 < _; omega)).trans p2
        have sf : ∀ i, wr.frozen? ⟨w.heap.size + 1, i, none⟩ = false := fun i => (HB.out.frozen (by show w.heap.size + 1 < _; omega)).trans (pf i)
        clear q2 hSB p0 p1 p2 pf hRe
        go_wp2_with fail
        refine bodyPost_ret (v := .agg #[.bool false, .int .i64 n, .slice y1 (Fo.len (subF (ren d) k)) y3]) (by simp [results, Try.results48, go_sem, s0, s1, s2]) rfl ⟨y1, Fo.len (subF (ren d) k), y3, by rw [Hres.out], ?_, set3_below (o := 0) hBw (by omega)⟩
        rw [Hres.out]
        refine (HSB.out.set3 (b := w.heap.size + 1) (o := 0) ?_).wide (fun q hq => ?_)
        · intro h
          rcases h with h | h <;> omega
        · rcases hq with h | h
          · exact .inl h
          · exact .inr ⟨by omega, by rw [World.size_setCell, World.size_setCell, World.size_setCell]; exact h.2⟩
  · have Hres : Hid (subT (ren d) ((true, n), k) = vr (wrap64 (n + d))) := rfl
    have hk0 : k = .nil := Hok.out.1 rfl
    subst hk0
    clear had
    go_enter Try.func48, Try.ntmps48
    go_wp2_with fail
    refine bodyPost_ret (v := .agg #[.bool true, .int .i64 (wrap64 (n + d)), .slice ad (Fo.len .nil) ac]) (by simp [results, Try.results48, go_sem, wrap64]) rfl ⟨ad, Fo.len .nil, ac, by rw [Hres.out]; rfl, ?_, (below_alloc _ _).alloc (by simp) _⟩
    rw [Hres.out]
    exact ⟨ad, ac, b, o, rfl, fun h => by simp [vr, Fo.len] at h, Nat.zero_le _, by unfold maxLen; exact hcm, trivial⟩

end Go.Proofs.Ytfnkjadfepoicac
