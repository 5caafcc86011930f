/- DText CER C4L Open2 Open4 C4TUp -/
import Derived.Test.YtfckelbdageenabGreatDoorG17
import Derived.Maps.StringElems
import Derived.BigQuiet
import Derived.Test.YtfckelbdageenabGreatDoorRows
import Derived.Test.YtfckelbdageenabGreatDoorChecked
import Derived.Lay
import Derived.LaidOnce
import Derived.SizedLaws
import Derived.ChangeMaps5
import Derived.Deep.DeepHandedRow
import Derived.Deep.DeepWitnessRowRef
namespace Go.Proofs.YtfckelbdageenabGreatDoor
open Go.RowKit Go.Deep Go.ChangeShapes Go.WideShapes Go.Maps
attribute [local go_sem ↓] Go.wp_at_zero Go.wp_at_succ

theorem keyed4 : Keyed Tryz.prog 4 := bool_keyed Tryz.underlying4
/-- A block that is a map of texts. -/
abbrev OMs (w : World) (b n : Nat) (D : MD) : Prop := w.ownsMap Tryz.prog 4 (plainElem (H := Unit) Tryz.prog 9) b n D
theorem oms_below {w w' : World} {b n : Nat} {D : MD} (h : OMs w b n D) (hb : Below w.heap.size w w') : OMs w' b n D := by
  have hlt := h.lt
  obtain ⟨es, clock, h1, h2⟩ := h
  exact ⟨es, clock, (hb.block b hlt).trans h1, h2⟩
def nS (D : Nat → Bool) : Nat := (D 4).toNat + (D 5).toNat
def TelS (Dm : MD) (D : Nat → Bool) : Prop := IsMap Dm ∧ (D 4 = true → Dm.atKey (.bool true) (.lit (.string [])) = .lit (.string [33, 61])) ∧ (D 5 = true → Dm.atKey (.bool false) (.lit (.string [])) = .lit (.string [61]))
def sgnB (yn : Bool) : ByteArray := if yn then ⟨#[33, 61]⟩ else ⟨#[61]⟩
theorem sgn_size (yn : Bool) : (sgnB yn).size ≤ 2 := by cases yn <;> decide
theorem sgnB_len (yn : Bool) : (sgnB yn).data.toList.length ≤ 2 := by cases yn <;> decide
theorem sgn_text (l : Lt) : (textT l.2.1.1 l.2.1.2 ++ (sgnB l.1).data.toList) ++ textT l.2.2.1 l.2.2.2 = textL l := by
  rw [textL, List.append_assoc]
  cases l.1 <;> rfl
structure RT (W : World) (B : Nat) (yn : Bool) (xa ya : Value) (TL TR : List UInt8) (D : Nat → Bool) (w : World) (s14 s15 s16 s17 s18 s19 s20 s21 s22 s23 s24 s25 s26 s6 : Value) : Prop where
  hb : Below W.heap.size W w
  h0 : D 0 = true → s14 = .pointer (some ⟨B, 1, none⟩)
  h1 : D 1 = true → s15 = xa
  h2 : D 2 = true → ∃ U : ByteArray, s16 = .string U ∧ U.data.toList = TL
  h3 : D 3 = true → ∃ (b : Nat) (Dm : MD), s17 = .map (some b) ∧ W.heap.size ≤ b ∧ OMs w b (nS D) Dm ∧ TelS Dm D
  h4 : D 3 = false → D 4 = false ∧ D 5 = false
  h5 : True
  h6 : D 6 = true → s18 = s17 ∧ D 3 = true ∧ D 4 = true ∧ D 5 = true
  h7 : D 7 = true → s19 = .pointer (some ⟨B, 0, none⟩)
  h8 : D 8 = true → s20 = .bool yn
  h9 : D 9 = true → s21 = .string (sgnB yn)
  h10 : D 10 = true → ∃ U : ByteArray, s22 = .string U ∧ U.data.toList = TL ++ (sgnB yn).data.toList
  h11 : D 11 = true → s23 = .pointer (some ⟨B, 4, none⟩)
  h12 : D 12 = true → s24 = ya
  h13 : D 13 = true → ∃ U : ByteArray, s25 = .string U ∧ U.data.toList = TR
  h14 : D 14 = true → ∃ U : ByteArray, s26 = .string U ∧ U.data.toList = (TL ++ (sgnB yn).data.toList) ++ TR
  h15 : D 15 = true → ∃ U : ByteArray, s6 = .string U ∧ U.data.toList = (TL ++ (sgnB yn).data.toList) ++ TR
section
variable {W : World} {B : Nat} {yn : Bool} {xa ya : Value} {TL TR : List UInt8} {D : Nat → Bool} {w w' : World} {s14 s15 s16 s17 s18 s19 s20 s21 s22 s23 s24 s25 s26 s6 : Value}
theorem RT.at0 (h : RT W B yn xa ya TL TR D w s14 s15 s16 s17 s18 s19 s20 s21 s22 s23 s24 s25 s26 s6) : RT W B yn xa ya TL TR (fun j => j == 0 || D j) w (.pointer (some ⟨B, 1, none⟩)) s15 s16 s17 s18 s19 s20 s21 s22 s23 s24 s25 s26 s6 :=
  ⟨h.hb, fun _ => rfl, h.h1, h.h2, h.h3, h.h4, h.h5, h.h6, h.h7, h.h8, h.h9, h.h10, h.h11, h.h12, h.h13, h.h14, h.h15⟩
theorem RT.at1 (h : RT W B yn xa ya TL TR D w s14 s15 s16 s17 s18 s19 s20 s21 s22 s23 s24 s25 s26 s6) : RT W B yn xa ya TL TR (fun j => j == 1 || D j) w s14 (xa) s16 s17 s18 s19 s20 s21 s22 s23 s24 s25 s26 s6 :=
  ⟨h.hb, h.h0, fun _ => rfl, h.h2, h.h3, h.h4, h.h5, h.h6, h.h7, h.h8, h.h9, h.h10, h.h11, h.h12, h.h13, h.h14, h.h15⟩
theorem RT.at2 (h : RT W B yn xa ya TL TR D w s14 s15 s16 s17 s18 s19 s20 s21 s22 s23 s24 s25 s26 s6) {U : ByteArray} (hU : U.data.toList = TL) (hb : Below w.heap.size w w') : RT W B yn xa ya TL TR (fun j => j == 2 || D j) w' s14 s15 (.string U) s17 s18 s19 s20 s21 s22 s23 s24 s25 s26 s6 :=
  ⟨below_step h.hb hb, h.h0, h.h1, fun _ => ⟨U, rfl, hU⟩, fun e => by
    obtain ⟨b, Dm, h1, h2, h3, h4⟩ := h.h3 e
    exact ⟨b, Dm, h1, h2, oms_below h3 hb, h4⟩, h.h4, h.h5, h.h6, h.h7, h.h8, h.h9, h.h10, h.h11, h.h12, h.h13, h.h14, h.h15⟩
theorem RT.at3 (h : RT W B yn xa ya TL TR D w s14 s15 s16 s17 s18 s19 s20 s21 s22 s23 s24 s25 s26 s6) (h3 : D 3 = false) : RT W B yn xa ya TL TR (fun j => j == 3 || D j) (w.alloc (.map #[] 0)) s14 s15 s16 (.map (some w.heap.size)) s18 s19 s20 s21 s22 s23 s24 s25 s26 s6 := by
  obtain ⟨d4, d5⟩ := h.h4 h3
  refine ⟨h.hb.alloc h.hb.size _, h.h0, h.h1, h.h2, fun _ => ⟨w.heap.size, .map [], rfl, h.hb.size, ?_, ?_⟩, fun e => absurd (show true = false from e) (by decide), trivial, fun e => ?_, h.h7, h.h8, h.h9, h.h10, h.h11, h.h12, h.h13, h.h14, h.h15⟩
  · have : nS (fun j => j == 3 || D j) = 0 := by
      show (D 4).toNat + (D 5).toNat = 0
      rw [d4, d5]; rfl
    rw [this]
    exact World.ownsMap_made _ _ _ _
  · exact ⟨isMap_empty, fun e => (by rw [show D 4 = true from e] at d4; cases d4), fun e => (by rw [show D 5 = true from e] at d5; cases d5)⟩
  · have := (h.h6 e).2.1
    rw [h3] at this
    cases this
theorem RT.at4 (h : RT W B yn xa ya TL TR D w s14 s15 s16 s17 s18 s19 s20 s21 s22 s23 s24 s25 s26 s6) (h3 : D 3 = true) (hD : D 4 = false) :
    ∃ (b : Nat) (w' : World), s17 = .map (some b) ∧ (Instr.mapUpdate 77 (.map (some b)) (.bool true) (.string ⟨#[33, 61]⟩)).run Tryz.prog w = .ok () w' ∧ RT W B yn xa ya TL TR (fun j => j == 4 || D j) w' s14 s15 s16 s17 s18 s19 s20 s21 s22 s23 s24 s25 s26 s6 := by
  obtain ⟨b, Dm, h1, h2, hO, hT⟩ := h.h3 h3
  have hnb : nS D < maxLen := by
    unfold nS maxLen
    have q : ∀ b : Bool, b.toNat ≤ 1 := fun b => by cases b <;> decide
    have := q (D 4)
    have := q (D 5)
    omega
  obtain ⟨w', hrun, hO', hg⟩ := hO.update keyed4 Tryz.underlying77 hnb (keyOf_bool_mk Tryz.underlying4 true) (plainElem_string Tryz.underlying9 (s := ⟨#[33, 61]⟩) (by unfold maxLen; decide))
  refine ⟨b, w', h1, hrun, ⟨h.hb.grown hg h.hb.size (fun j hj => by cases hj; exact h2), h.h0, h.h1, h.h2, fun _ => ⟨b, Dm.put (.bool true) (.lit (.string [33, 61])), h1, h2, ?_, ?_⟩, fun e => (by rw [show D 3 = false from e] at h3; cases h3), trivial, fun e => ?_, h.h7, h.h8, h.h9, h.h10, h.h11, h.h12, h.h13, h.h14, h.h15⟩⟩
  · have : nS (fun j => j == 4 || D j) = nS D + 1 := by
      show 1 + (D 5).toNat = nS D + 1
      unfold nS; rw [hD]; simp; omega
    rw [this]
    exact hO'
  · refine ⟨hT.1.put _ _, fun e => ?_, fun e => ?_⟩
    · exact atKey_put_same hT.1 (show WideAt.IsKeyLit (.bool true) from trivial) _ _
    · rw [atKey_put_other (by intro e; injection e with e; cases e)]; exact hT.2.2 e
  · obtain ⟨q1, q2, q3, q4⟩ := h.h6 e
    exact ⟨q1, q2, rfl, q4⟩
theorem RT.at5 (h : RT W B yn xa ya TL TR D w s14 s15 s16 s17 s18 s19 s20 s21 s22 s23 s24 s25 s26 s6) (h3 : D 3 = true) (hD : D 5 = false) :
    ∃ (b : Nat) (w' : World), s17 = .map (some b) ∧ (Instr.mapUpdate 77 (.map (some b)) (.bool false) (.string ⟨#[61]⟩)).run Tryz.prog w = .ok () w' ∧ RT W B yn xa ya TL TR (fun j => j == 5 || D j) w' s14 s15 s16 s17 s18 s19 s20 s21 s22 s23 s24 s25 s26 s6 := by
  obtain ⟨b, Dm, h1, h2, hO, hT⟩ := h.h3 h3
  have hnb : nS D < maxLen := by
    unfold nS maxLen
    have q : ∀ b : Bool, b.toNat ≤ 1 := fun b => by cases b <;> decide
    have := q (D 4)
    have := q (D 5)
    omega
  obtain ⟨w', hrun, hO', hg⟩ := hO.update keyed4 Tryz.underlying77 hnb (keyOf_bool_mk Tryz.underlying4 false) (plainElem_string Tryz.underlying9 (s := ⟨#[61]⟩) (by unfold maxLen; decide))
  refine ⟨b, w', h1, hrun, ⟨h.hb.grown hg h.hb.size (fun j hj => by cases hj; exact h2), h.h0, h.h1, h.h2, fun _ => ⟨b, Dm.put (.bool false) (.lit (.string [61])), h1, h2, ?_, ?_⟩, fun e => (by rw [show D 3 = false from e] at h3; cases h3), trivial, fun e => ?_, h.h7, h.h8, h.h9, h.h10, h.h11, h.h12, h.h13, h.h14, h.h15⟩⟩
  · have : nS (fun j => j == 5 || D j) = nS D + 1 := by
      show (D 4).toNat + 1 = nS D + 1
      unfold nS; rw [hD]; simp
    rw [this]
    exact hO'
  · refine ⟨hT.1.put _ _, fun e => ?_, fun e => ?_⟩
    · rw [atKey_put_other (by intro e; injection e with e; cases e)]; exact hT.2.1 e
    · exact atKey_put_same hT.1 (show WideAt.IsKeyLit (.bool false) from trivial) _ _
  · obtain ⟨q1, q2, q3, q4⟩ := h.h6 e
    exact ⟨q1, q2, q3, rfl⟩
theorem RT.at6 (h : RT W B yn xa ya TL TR D w s14 s15 s16 s17 s18 s19 s20 s21 s22 s23 s24 s25 s26 s6) (h3 : D 3 = true) (h4 : D 4 = true) (h5 : D 5 = true) : RT W B yn xa ya TL TR (fun j => j == 6 || D j) w s14 s15 s16 s17 (s17) s19 s20 s21 s22 s23 s24 s25 s26 s6 :=
  ⟨h.hb, h.h0, h.h1, h.h2, h.h3, h.h4, trivial, fun _ => ⟨rfl, h3, h4, h5⟩, h.h7, h.h8, h.h9, h.h10, h.h11, h.h12, h.h13, h.h14, h.h15⟩
theorem RT.at7 (h : RT W B yn xa ya TL TR D w s14 s15 s16 s17 s18 s19 s20 s21 s22 s23 s24 s25 s26 s6) : RT W B yn xa ya TL TR (fun j => j == 7 || D j) w s14 s15 s16 s17 s18 (.pointer (some ⟨B, 0, none⟩)) s20 s21 s22 s23 s24 s25 s26 s6 :=
  ⟨h.hb, h.h0, h.h1, h.h2, h.h3, h.h4, h.h5, h.h6, fun _ => rfl, h.h8, h.h9, h.h10, h.h11, h.h12, h.h13, h.h14, h.h15⟩
theorem RT.at8 (h : RT W B yn xa ya TL TR D w s14 s15 s16 s17 s18 s19 s20 s21 s22 s23 s24 s25 s26 s6) : RT W B yn xa ya TL TR (fun j => j == 8 || D j) w s14 s15 s16 s17 s18 s19 (.bool yn) s21 s22 s23 s24 s25 s26 s6 :=
  ⟨h.hb, h.h0, h.h1, h.h2, h.h3, h.h4, h.h5, h.h6, h.h7, fun _ => rfl, h.h9, h.h10, h.h11, h.h12, h.h13, h.h14, h.h15⟩
theorem RT.at9 (h : RT W B yn xa ya TL TR D w s14 s15 s16 s17 s18 s19 s20 s21 s22 s23 s24 s25 s26 s6) (h6 : D 6 = true) :
    ∃ b : Nat, s18 = .map (some b) ∧ (Instr.lookup 77 (.map (some b)) (.bool yn) false).run Tryz.prog w = .ok (.string (sgnB yn)) w ∧ RT W B yn xa ya TL TR (fun j => j == 9 || D j) w s14 s15 s16 s17 s18 s19 s20 (.string (sgnB yn)) s22 s23 s24 s25 s26 s6 := by
  obtain ⟨q1, q2, q3, q4⟩ := h.h6 h6
  obtain ⟨b, Dm, h1, h2, hO, hT⟩ := h.h3 q2
  obtain ⟨v, ps, hrun, hv⟩ := hO.lookup keyed4 Tryz.underlying77 (z := .string ⟨#[]⟩) (by kernel_rfl) (plainElem_string Tryz.underlying9 (s := ⟨#[]⟩) (by unfold maxLen; decide)) (keyOf_bool_mk Tryz.underlying4 yn)
  obtain ⟨s, rfl, hz, _⟩ := plainElem_string_inv Tryz.underlying9 hv
  have hs : s = sgnB yn := by
    simp only [Prod.mk.injEq] at hz
    have h2 := hz.1
    cases yn with
    | true => exact byte_eq (Lit.string.inj (DataW.lit.inj (h2.symm.trans (hT.2.1 q3))))
    | false => exact byte_eq (Lit.string.inj (DataW.lit.inj (h2.symm.trans (hT.2.2 q4))))
  subst hs
  exact ⟨b, q1.trans h1, hrun, ⟨h.hb, h.h0, h.h1, h.h2, h.h3, h.h4, trivial, h.h6, h.h7, h.h8, fun _ => rfl, h.h10, h.h11, h.h12, h.h13, h.h14, h.h15⟩⟩
theorem RT.at10 (h : RT W B yn xa ya TL TR D w s14 s15 s16 s17 s18 s19 s20 s21 s22 s23 s24 s25 s26 s6) {U : ByteArray} (hU : U.data.toList = TL ++ (sgnB yn).data.toList) : RT W B yn xa ya TL TR (fun j => j == 10 || D j) w s14 s15 s16 s17 s18 s19 s20 s21 (.string U) s23 s24 s25 s26 s6 :=
  ⟨h.hb, h.h0, h.h1, h.h2, h.h3, h.h4, h.h5, h.h6, h.h7, h.h8, h.h9, fun _ => ⟨U, rfl, hU⟩, h.h11, h.h12, h.h13, h.h14, h.h15⟩
theorem RT.at11 (h : RT W B yn xa ya TL TR D w s14 s15 s16 s17 s18 s19 s20 s21 s22 s23 s24 s25 s26 s6) : RT W B yn xa ya TL TR (fun j => j == 11 || D j) w s14 s15 s16 s17 s18 s19 s20 s21 s22 (.pointer (some ⟨B, 4, none⟩)) s24 s25 s26 s6 :=
  ⟨h.hb, h.h0, h.h1, h.h2, h.h3, h.h4, h.h5, h.h6, h.h7, h.h8, h.h9, h.h10, fun _ => rfl, h.h12, h.h13, h.h14, h.h15⟩
theorem RT.at12 (h : RT W B yn xa ya TL TR D w s14 s15 s16 s17 s18 s19 s20 s21 s22 s23 s24 s25 s26 s6) : RT W B yn xa ya TL TR (fun j => j == 12 || D j) w s14 s15 s16 s17 s18 s19 s20 s21 s22 s23 (ya) s25 s26 s6 :=
  ⟨h.hb, h.h0, h.h1, h.h2, h.h3, h.h4, h.h5, h.h6, h.h7, h.h8, h.h9, h.h10, h.h11, fun _ => rfl, h.h13, h.h14, h.h15⟩
theorem RT.at13 (h : RT W B yn xa ya TL TR D w s14 s15 s16 s17 s18 s19 s20 s21 s22 s23 s24 s25 s26 s6) {U : ByteArray} (hU : U.data.toList = TR) (hb : Below w.heap.size w w') : RT W B yn xa ya TL TR (fun j => j == 13 || D j) w' s14 s15 s16 s17 s18 s19 s20 s21 s22 s23 s24 (.string U) s26 s6 :=
  ⟨below_step h.hb hb, h.h0, h.h1, h.h2, fun e => by
    obtain ⟨b, Dm, h1, h2, h3, h4⟩ := h.h3 e
    exact ⟨b, Dm, h1, h2, oms_below h3 hb, h4⟩, h.h4, h.h5, h.h6, h.h7, h.h8, h.h9, h.h10, h.h11, h.h12, fun _ => ⟨U, rfl, hU⟩, h.h14, h.h15⟩
theorem RT.at14 (h : RT W B yn xa ya TL TR D w s14 s15 s16 s17 s18 s19 s20 s21 s22 s23 s24 s25 s26 s6) {U : ByteArray} (hU : U.data.toList = (TL ++ (sgnB yn).data.toList) ++ TR) : RT W B yn xa ya TL TR (fun j => j == 14 || D j) w s14 s15 s16 s17 s18 s19 s20 s21 s22 s23 s24 s25 (.string U) s6 :=
  ⟨h.hb, h.h0, h.h1, h.h2, h.h3, h.h4, h.h5, h.h6, h.h7, h.h8, h.h9, h.h10, h.h11, h.h12, h.h13, fun _ => ⟨U, rfl, hU⟩, h.h15⟩
theorem RT.at15 (h : RT W B yn xa ya TL TR D w s14 s15 s16 s17 s18 s19 s20 s21 s22 s23 s24 s25 s26 s6) {U : ByteArray} (hU : U.data.toList = (TL ++ (sgnB yn).data.toList) ++ TR) : RT W B yn xa ya TL TR (fun j => j == 15 || D j) w s14 s15 s16 s17 s18 s19 s20 s21 s22 s23 s24 s25 s26 (.string U) :=
  ⟨h.hb, h.h0, h.h1, h.h2, h.h3, h.h4, h.h5, h.h6, h.h7, h.h8, h.h9, h.h10, h.h11, h.h12, h.h13, h.h14, fun _ => ⟨U, rfl, hU⟩⟩
theorem RT.start (h : Below W.heap.size W w) : RT W B yn xa ya TL TR (fun _ => false) w s14 s15 s16 s17 s18 s19 s20 s21 s22 s23 s24 s25 s26 s6 :=
  ⟨h, fun e => (by cases e), fun e => (by cases e), fun e => (by cases e), fun e => (by cases e), fun _ => ⟨rfl, rfl⟩, trivial, fun e => (by cases e), fun e => (by cases e), fun e => (by cases e), fun e => (by cases e), fun e => (by cases e), fun e => (by cases e), fun e => (by cases e), fun e => (by cases e), fun e => (by cases e), fun e => (by cases e)⟩
end

theorem join_snoc {x : List UInt8} : ∀ {r : List (List UInt8)}, r ≠ [] → Lib.join (r ++ [x]) sepL = (Lib.join r sepL ++ sepL) ++ x
  | [], h => absurd rfl h
  | [y], _ => by
    show Lib.join (y :: x :: []) sepL = _
    rw [join_cons2, Lib.join_one, Lib.join_one, List.append_assoc]
  | y :: z :: r, _ => by
    show Lib.join (y :: z :: (r ++ [x])) sepL = _
    rw [join_cons2, join_cons2]
    have := join_snoc (x := x) (r := z :: r) (by simp)
    rw [List.cons_append] at this
    rw [this]
    simp only [List.append_assoc]
theorem textC_take {k : Cl} {j : Nat} {l : Lt} (h : k[j]? = some l) : textC (k.take (j + 1)) = if j = 0 then textL l else (textC (k.take j) ++ sepL) ++ textL l := by
  have hj : j < k.length := (List.getElem?_eq_some_iff.1 h).1
  have hl1 : ¬ (k.take (j + 1)).length = 0 := by rw [List.length_take]; omega
  rw [textC, if_neg hl1, List.take_add_one, h]
  by_cases h0 : j = 0
  · subst h0
    rw [if_pos rfl]
    simp [Lib.join_one]
  · rw [if_neg h0]
    have hl2 : ¬ (k.take j).length = 0 := by rw [List.length_take]; omega
    rw [textC, if_neg hl2]
    show Lib.join ((k.take j ++ [l]).map textL) sepL = _
    rw [List.map_append]
    exact join_snoc (fun e => hl2 (by rw [List.map_eq_nil_iff.1 e]; rfl))
theorem textC_le {k : Cl} (h : ∀ l ∈ k, TxT l.2.1 ∧ TxT l.2.2) : ∀ j, j ≤ k.length → (textC (k.take j)).length ≤ 2 + j * 2010
  | 0, _ => by simp [textC]
  | j + 1, hj => by
    have hy : k[j]? = some (k[j]'(by omega)) := by simp
    have ih := textC_le h j (by omega)
    have hl := textL_len4 (h _ (List.getElem_mem (by omega : j < k.length)))
    rw [textC_take hy]
    split
    · omega
    · simp only [List.length_append, List.length_cons, List.length_nil]
      omega

set_option maxRecDepth 100000 in
set_option maxHeartbeats 4000000 in
theorem textCR_any (k : Cl) (a : Value) (w : World) (hS : CIn w k a) (ht : ∀ l ∈ k, TxT l.2.1 ∧ TxT l.2.2) (hlen : k.length ≤ 1000) :
    Calls Tryz.prog 17 #[a] w fun e w' => ∃ D : ByteArray, e = .returned (.string D) ∧ D.data.toList = textC k ∧ Below w.heap.size w w' := by
  obtain ⟨a1, c1, b1, o1, rfl, had1, hlc1, hcm1, hF1⟩ := hS
  unfold maxLen at hcm1
  have HF1 := hide hF1
  have Ht := hide ht
  clear hF1 ht
  go_enter Tryz.func17, Tryz.ntmps17
  go_wp2_with fail
  go_loopw [3, 9] (fun s i wr => ∃ (j : Nat) (U : ByteArray), j ≤ k.length ∧ i = .int .i64 j ∧ s = .string U ∧ U.data.toList = textC (k.take j) ∧ Below w.heap.size w wr) (fun _ i _ => k.length - (intOf i).toNat)
  case atStart => exact ⟨0, _, Nat.zero_le _, rfl, rfl, rfl, Below.refl _ _⟩
  case round =>
    obtain ⟨j, U, hj, rfl, rfl, hU, hBr⟩ := hrel
    have HU := hide hU
    have hUs : U.size ≤ 2100000 := by rw [ba_size hU]; have := textC_le Ht.out j hj; omega
    clear hU
    by_cases hlt : j < k.length
    · have hlt' : (j : Int) < (k.length : Int) := by omega
      obtain ⟨⟨yn, ⟨⟨yv, yi⟩, yk⟩, ⟨yv', yi'⟩, yk'⟩, hy⟩ : ∃ y, k[j]? = some y := ⟨k[j]'hlt, by simp⟩
      obtain ⟨p0, p1, p2, ⟨u3, p3, hA⟩, p4, p5, u6, p6, hD⟩ := (HF1.out.below hBr).at hy
      have ha1 : a1 = some ⟨b1, o1, none⟩ := had1 (by omega)
      subst ha1
      have HA := hide hA
      have HD := hide hD
      obtain ⟨ya, yc, _, _, rfl, -, -, -, -⟩ := hA
      obtain ⟨za, zc, _, _, rfl, -, -, -, -⟩ := hD
      have hty := Ht.out _ (List.mem_of_getElem? hy)
      have Hl1 : Hid ((textT (yv, yi) yk).length ≤ 1000) := hty.1.2.2
      have Hl2 : Hid ((textT (yv', yi') yk').length ≤ 1000) := hty.2.2.2
      have Hty := hide hty
      have Htk := hide (textC_take hy)
      have Hsg : Hid ((textT (yv, yi) yk ++ (sgnB yn).data.toList) ++ textT (yv', yi') yk' = textL (yn, ((yv, yi), yk), ((yv', yi'), yk'))) := sgn_text (yn, ((yv, yi), yk), ((yv', yi'), yk'))
      have Hle : Hid ((textL (yn, ((yv, yi), yk), ((yv', yi'), yk'))).length ≤ 2002) := textL_len4 (l := (yn, ((yv, yi), yk), ((yv', yi'), yk'))) hty
      clear hy had1 hty
      simp only at *
      go_upto_region 5 with fail
      generalize hwa : wr.alloc (.cells #[.bool yn, .bool yv, .int .i64 yi, .slice ya (Fo.len yk) yc, .bool yv', .int .i64 yi', .slice za (Fo.len yk') zc] 44) = wa
      obtain ⟨g0, g1, g2, g3, g4, g5, g6, -, hba, hsa⟩ := lit_cells (T := 44) (x0 := .bool yn) (w := wr) (wr := wa) (x1 := .bool yv) (x2 := .int .i64 yi) (x3 := .slice ya (Fo.len yk) yc) (x4 := .bool yv') (x5 := .int .i64 yi') (x6 := .slice za (Fo.len yk') zc) (by rw [← hwa]; exact Below.refl _ _)
      have Hc1 := hide (fun (w' : World) (hb : Below wa.heap.size wa w') => textR_any (yv, yi) yk (.slice ya (Fo.len yk) yc) w' (HA.out.below (below_step hba hb)) Hty.out.1.1 Hty.out.1.2.1 (by have := Hl1.out; omega))
      have Hc2 := hide (fun (w' : World) (hb : Below wa.heap.size wa w') => textR_any (yv', yi') yk' (.slice za (Fo.len yk') zc) w' (HD.out.below (below_step hba hb)) Hty.out.2.1 Hty.out.2.2.1 (by have := Hl2.out; omega))
      simp only at Hc1 Hc2
      clear hwa p0 p1 p2 p3 p4 p5 p6
      go_cut [6] (fun s6 wx => ∃ V : ByteArray, s6 = .string V ∧ V.data.toList = textL (yn, ((yv, yi), yk), ((yv', yi'), yk')) ∧ Below wa.heap.size wa wx)
      case first =>
        refine region_inv (fun D a w' => ∃ s14 s15 s16 s17 s18 s19 s20 s21 s22 s23 s24 s25 s26 s6 : Value, a = ⟨#[.slice (some ⟨b1, o1, none⟩) k.length c1, undef, .string ⟨#[]⟩, .string U, .int .i64 j, .pointer (some ⟨wr.heap.size, 0, none⟩), s6, .slice (some ⟨b1, o1, none⟩) k.length c1, .int .i64 k.length, .int .i64 j, .bool true, .int .i64 j, .pointer (some ⟨b1, o1 + j * 7, none⟩), .agg #[.bool yn, .bool yv, .int .i64 yi, .slice ya (Fo.len yk) yc, .bool yv', .int .i64 yi', .slice za (Fo.len yk') zc], s14, s15, s16, s17, s18, s19, s20, s21, s22, s23, s24, s25, s26, u27, u28, u29, u30, u31, u32, u33, u34, undef], []⟩ ∧ RT wa wr.heap.size yn (.agg #[.bool yv, .int .i64 yi, .slice ya (Fo.len yk) yc]) (.agg #[.bool yv', .int .i64 yi', .slice za (Fo.len yk') zc]) (textT (yv, yi) yk) (textT (yv', yi') yk') D w' s14 s15 s16 s17 s18 s19 s20 s21 s22 s23 s24 s25 s26 s6) (by kernel_rfl) (by kernel_rfl) ?_ ?_ ⟨_, _, _, _, _, _, _, _, _, _, _, _, _, _, rfl, RT.start (Below.refl _ _).drew⟩
        · rintro D a w' i o hi ⟨s14, s15, s16, s17, s18, s19, s20, s21, s22, s23, s24, s25, s26, s6, rfl, hI⟩ hD ho hdep
          have HI := hide hI
          replace g0 := grow_cell hI.hb _ _ g0
          replace g1 := grow_cell hI.hb _ _ g1
          replace g2 := grow_cell hI.hb _ _ g2
          replace g3 := grow_cell hI.hb _ _ g3
          replace g4 := grow_cell hI.hb _ _ g4
          replace g5 := grow_cell hI.hb _ _ g5
          replace g6 := grow_cell hI.hb _ _ g6
          clear hI
          have hi' : i < 16 := hi
          clear hi
          rcases (by omega : i = 0 ∨ i = 1 ∨ i = 2 ∨ i = 3 ∨ i = 4 ∨ i = 5 ∨ i = 6 ∨ i = 7 ∨ i = 8 ∨ i = 9 ∨ i = 10 ∨ i = 11 ∨ i = 12 ∨ i = 13 ∨ i = 14 ∨ i = 15) with rfl | rfl | rfl | rfl | rfl | rfl | rfl | rfl | rfl | rfl | rfl | rfl | rfl | rfl | rfl | rfl
          · obtain rfl := Option.some.inj ho
            clear ho hdep hD
            refine wpOp_step rfl (fun K hK => ?_)
            go_simp
            exact hK _ _ ⟨_, _, _, _, _, _, _, _, _, _, _, _, _, _, rfl, HI.out.at0⟩
          · obtain rfl := Option.some.inj ho
            have d0 := HI.out.h0 (hdep ⟨0, .data⟩ (by simp) rfl)
            subst d0
            clear ho hdep hD
            refine wpOp_step rfl (fun K hK => ?_)
            go_simp
            exact hK _ _ ⟨_, _, _, _, _, _, _, _, _, _, _, _, _, _, rfl, HI.out.at1⟩
          · obtain rfl := Option.some.inj ho
            have d1 := HI.out.h1 (hdep ⟨1, .data⟩ (by simp) rfl)
            subst d1
            clear ho hdep hD
            refine wpOp_step rfl (fun K hK => ?_)
            go_simp
            refine (Hc1.out _ HI.out.hb).mono ?_
            rintro e w2 ⟨U, rfl, hU, hb2⟩
            exact hK _ _ ⟨_, _, _, _, _, _, _, _, _, _, _, _, _, _, rfl, HI.out.at2 hU hb2⟩
          · obtain rfl := Option.some.inj ho
            have HD := hide hD
            clear ho hdep hD
            have HI2 := hide (HI.out.at3 HD.out)
            refine wpOp_step rfl (fun K hK => ?_)
            go_simp
            exact hK _ _ ⟨_, _, _, _, _, _, _, _, _, _, _, _, _, _, rfl, HI2.out⟩
          · obtain rfl := Option.some.inj ho
            obtain ⟨bm, w2, rfl, hrun, hI2⟩ := HI.out.at4 (hdep ⟨3, .data⟩ (by simp) rfl) hD
            have HI2 := hide hI2
            clear hI2
            clear ho hdep hD
            refine wpOp_step rfl (fun K hK => ?_)
            go_simp
            exact hK _ _ ⟨_, _, _, _, _, _, _, _, _, _, _, _, _, _, rfl, HI2.out⟩
          · obtain rfl := Option.some.inj ho
            obtain ⟨bm, w2, rfl, hrun, hI2⟩ := HI.out.at5 (hdep ⟨3, .data⟩ (by simp) rfl) hD
            have HI2 := hide hI2
            clear hI2
            clear ho hdep hD
            refine wpOp_step rfl (fun K hK => ?_)
            go_simp
            exact hK _ _ ⟨_, _, _, _, _, _, _, _, _, _, _, _, _, _, rfl, HI2.out⟩
          · obtain rfl := Option.some.inj ho
            have HI2 := hide (HI.out.at6 (hdep ⟨3, .data⟩ (by simp) rfl) (hdep ⟨4, .data⟩ (by simp) rfl) (hdep ⟨5, .data⟩ (by simp) rfl))
            clear ho hdep hD
            refine wpOp_step rfl (fun K hK => ?_)
            go_simp
            exact hK _ _ ⟨_, _, _, _, _, _, _, _, _, _, _, _, _, _, rfl, HI2.out⟩
          · obtain rfl := Option.some.inj ho
            clear ho hdep hD
            refine wpOp_step rfl (fun K hK => ?_)
            go_simp
            exact hK _ _ ⟨_, _, _, _, _, _, _, _, _, _, _, _, _, _, rfl, HI.out.at7⟩
          · obtain rfl := Option.some.inj ho
            have d7 := HI.out.h7 (hdep ⟨7, .data⟩ (by simp) rfl)
            subst d7
            clear ho hdep hD
            refine wpOp_step rfl (fun K hK => ?_)
            go_simp
            exact hK _ _ ⟨_, _, _, _, _, _, _, _, _, _, _, _, _, _, rfl, HI.out.at8⟩
          · obtain rfl := Option.some.inj ho
            have d8 := HI.out.h8 (hdep ⟨8, .data⟩ (by simp) rfl)
            subst d8
            obtain ⟨bm, rfl, hrun, hI2⟩ := HI.out.at9 (hdep ⟨6, .data⟩ (by simp) rfl)
            have HI2 := hide hI2
            clear hI2
            clear ho hdep hD
            refine wpOp_step rfl (fun K hK => ?_)
            go_simp
            exact hK _ _ ⟨_, _, _, _, _, _, _, _, _, _, _, _, _, _, rfl, HI2.out⟩
          · obtain rfl := Option.some.inj ho
            have d2 := HI.out.h2 (hdep ⟨2, .data⟩ (by simp) rfl)
            have d9 := HI.out.h9 (hdep ⟨9, .data⟩ (by simp) rfl)
            subst d9
            obtain ⟨U, rfl, hU⟩ := d2
            have hUs : U.size ≤ 1000 := by rw [ba_size hU]; exact Hl1.out
            have hss := sgn_size yn
            have Hq : Hid ((U ++ sgnB yn).data.toList = textT (yv, yi) yk ++ (sgnB yn).data.toList) := by rw [Hid, ByteArray.data_append, Array.toList_append, hU]
            clear hU
            clear ho hdep hD
            refine wpOp_step rfl (fun K hK => ?_)
            go_simp
            rw [if_neg (by omega)]
            go_simp
            exact hK _ _ ⟨_, _, _, _, _, _, _, _, _, _, _, _, _, _, rfl, HI.out.at10 Hq.out⟩
          · obtain rfl := Option.some.inj ho
            clear ho hdep hD
            refine wpOp_step rfl (fun K hK => ?_)
            go_simp
            exact hK _ _ ⟨_, _, _, _, _, _, _, _, _, _, _, _, _, _, rfl, HI.out.at11⟩
          · obtain rfl := Option.some.inj ho
            have d11 := HI.out.h11 (hdep ⟨11, .data⟩ (by simp) rfl)
            subst d11
            clear ho hdep hD
            refine wpOp_step rfl (fun K hK => ?_)
            go_simp
            exact hK _ _ ⟨_, _, _, _, _, _, _, _, _, _, _, _, _, _, rfl, HI.out.at12⟩
          · obtain rfl := Option.some.inj ho
            have d12 := HI.out.h12 (hdep ⟨12, .data⟩ (by simp) rfl)
            subst d12
            clear ho hdep hD
            refine wpOp_step rfl (fun K hK => ?_)
            go_simp
            refine (Hc2.out _ HI.out.hb).mono ?_
            rintro e w2 ⟨U, rfl, hU, hb2⟩
            exact hK _ _ ⟨_, _, _, _, _, _, _, _, _, _, _, _, _, _, rfl, HI.out.at13 hU hb2⟩
          · obtain rfl := Option.some.inj ho
            have d10 := HI.out.h10 (hdep ⟨10, .data⟩ (by simp) rfl)
            have d13 := HI.out.h13 (hdep ⟨13, .data⟩ (by simp) rfl)
            obtain ⟨U, rfl, hU⟩ := d10
            obtain ⟨V, rfl, hV⟩ := d13
            have hUs : U.size ≤ 1002 := by rw [ba_size hU, List.length_append]; have := Hl1.out; have := sgnB_len yn; omega
            have hVs : V.size ≤ 1000 := by rw [ba_size hV]; exact Hl2.out
            have Hq : Hid ((U ++ V).data.toList = (textT (yv, yi) yk ++ (sgnB yn).data.toList) ++ textT (yv', yi') yk') := by rw [Hid, ByteArray.data_append, Array.toList_append, hU, hV]
            clear hU hV
            clear ho hdep hD
            refine wpOp_step rfl (fun K hK => ?_)
            go_simp
            rw [if_neg (by omega)]
            go_simp
            exact hK _ _ ⟨_, _, _, _, _, _, _, _, _, _, _, _, _, _, rfl, HI.out.at14 Hq.out⟩
          · obtain rfl := Option.some.inj ho
            have d14 := HI.out.h14 (hdep ⟨14, .data⟩ (by simp) rfl)
            obtain ⟨U, rfl, hU⟩ := d14
            have HU := hide hU
            clear hU
            clear ho hdep hD
            refine wpOp_step rfl (fun K hK => ?_)
            go_simp
            exact hK _ _ ⟨_, _, _, _, _, _, _, _, _, _, _, _, _, _, rfl, HI.out.at15 HU.out⟩
        · rintro D a w' ⟨s14, s15, s16, s17, s18, s19, s20, s21, s22, s23, s24, s25, s26, s6, rfl, hI⟩ hall
          have h15 := hI.h15 (hall 15 (by decide))
          obtain ⟨V, rfl, hV⟩ := h15
          have HVb := hide (And.intro hV hI.hb)
          clear hI hall hV
          go_wp2_with fail
          go_meet
          case rel => exact ⟨V, rfl, HVb.out.1.trans Hsg.out, HVb.out.2⟩
      case rest =>
        obtain ⟨V, rfl, hV, hbx⟩ := hcut
        generalize wc = wx at *
        have HV := hide hV
        have hVs : V.size ≤ 2002 := by rw [ba_size hV]; exact Hle.out
        have hBx := below_step hBr (below_step hba hbx)
        have hq1 : (U ++ (⟨#[32, 124, 32]⟩ : ByteArray)).size ≤ 2100003 := by rw [ByteArray.size_append]; show U.size + 3 ≤ _; omega
        clear hV hbx
        by_cases h0 : j = 0
        · have Hn : Hid (V.data.toList = textC (k.take (j + 1))) := by rw [Hid, Htk.out, if_pos h0, HV.out]
          subst h0
          go_wp2_with fail
          go_roundw
          case rel => exact ⟨1, V, by omega, by go_num, rfl, Hn.out, hBx⟩
          case measure => simp [intOf]; omega
        · have h0b : ((j : Int) == 0) = false := by simpa using h0
          have Hn : Hid ((U ++ (⟨#[32, 124, 32]⟩ : ByteArray) ++ V).data.toList = textC (k.take (j + 1))) := by
            rw [Hid, Htk.out, if_neg h0, ByteArray.data_append, ByteArray.data_append, Array.toList_append, Array.toList_append, HU.out, HV.out]
          clear h0
          go_wp2_with fail
          go_roundw
          case rel => exact ⟨j + 1, _, by omega, by go_num, rfl, Hn.out, hBx⟩
          case measure => simp [intOf]; omega
    · have Hfin : Hid (U.data.toList = textC k) := by
        have e : j = k.length := by omega
        have := HU.out
        rw [e, List.take_length] at this
        exact this
      clear had1
      go_wp2_with fail
      go_ret
      exact ⟨_, rfl, Hfin.out, hBr⟩

end Go.Proofs.YtfckelbdageenabGreatDoor

namespace Go.Proofs.YtfckelbdageenabGreatDoor
open Go.RowKit Go.Deep Go.ChangeShapes Go.WideShapes

set_option maxRecDepth 100000 in
set_option maxHeartbeats 2000000 in
theorem cloER_any (d : Int) (bb : Nat) (x : Bool × Int) (k : Fo) (a : Value) (w : World) (h : InvR d bb w) (hS : SIn w k a) (hn : narT (x, k)) :
    Calls Tryz.prog 58 #[.agg #[.bool x.1, .int .i64 x.2, a], .pointer (some ⟨bb, 0, none⟩)] w fun e w' => ∃ a', e = .returned (.agg #[.bool (subT (ren d) (x, k)).1.1, .int .i64 (subT (ren d) (x, k)).1.2, a']) ∧ OwnV w' w.heap.size w'.heap.size (subT (ren d) (x, k)).2 a' ∧ Below w.heap.size w w' := by
  obtain ⟨xv, xn⟩ := x
  have HS := hide hS
  have HI := hide h
  obtain ⟨ad, c, _, _, rfl, -, -, -, -⟩ := hS
  have hc : w.cell? ⟨bb, 0, none⟩ = some (.int .i64 d) := h
  clear h
  have hpb : bb < w.heap.size := World.block_lt_of_cell? _ _ hc
  have hc' : ((w.alloc (.cells #[.bool xv, .int .i64 xn, .slice ad (Fo.len k) c] 36)).alloc (.cells #[.bool false, .int .i64 0, .slice none 0 0] 36)).cell? ⟨bb, 0, none⟩ = some (.int .i64 d) := by rw [World.cell?_alloc_lt _ _ _ (by show bb < _; simp; omega), World.cell?_alloc_lt _ _ _ hpb]; exact hc
  go_enter Tryz.func58, Tryz.ntmps58
  go_wp2_with fail
  refine (rename_any d (xv, xn) k _ _ ((HS.out.alloc _).alloc _) hn).mono ?_
  rintro e w1 ⟨a', rfl, hO, hb⟩
  obtain ⟨⟨⟨tv, tn⟩, tk⟩, ht⟩ : ∃ t, t = subT (ren d) ((xv, xn), k) := ⟨_, rfl⟩
  rw [← ht] at hO ⊢
  have hO' := hO
  obtain ⟨z1, z2, z3, rfl⟩ := slice_of_sin hO.toS
  have hsz := hb.size
  simp only [World.size_alloc] at hsz
  have r0 : w1.cell? ⟨w.heap.size + 1, 0, none⟩ = some (.bool false) := grow_cell hb _ _ (new_cell (World.size_alloc _ _))
  have r1 : w1.cell? ⟨w.heap.size + 1, 1, none⟩ = some (.int .i64 0) := grow_cell hb _ _ (new_cell (World.size_alloc _ _))
  have r2 : w1.cell? ⟨w.heap.size + 1, 2, none⟩ = some (.slice none 0 0) := grow_cell hb _ _ (new_cell (World.size_alloc _ _))
  have rf : ∀ i, w1.frozen? ⟨w.heap.size + 1, i, none⟩ = false := fun i => (hb.frozen (by show w.heap.size + 1 < _; simp)).trans (new_frozen (World.size_alloc _ _))
  have hB := below_box (below_box hb)
  have HO : Hid (OwnV w1 (w.heap.size + 1 + 1) w1.heap.size tk (.slice z1 z2 z3)) := by
    have := hO
    simp only [World.size_alloc] at this
    exact this
  have Ht := hide ht
  clear hb hO hO' ht hc hc'
  simp only
  go_wp2_with fail
  refine bodyPost_ret (v := .agg #[.bool tv, .int .i64 tn, .slice z1 z2 z3]) (by simp [results, Tryz.results58, go_sem, r0, r1, r2]) rfl ⟨.slice z1 z2 z3, by rw [← Ht.out], ?_, set3_below (o := 0) hB (by omega)⟩
  rw [← Ht.out]
  exact ret_box HO.out (by omega) (by omega)

set_option maxRecDepth 100000 in
set_option maxHeartbeats 4000000 in
theorem eachR_any (d : Int) (bb : Nat) (k : Cl) (a : Value) (w : World) (h : InvR d bb w) (hS : CIn w k a) (hn : ∀ l ∈ k, narT l.2.1 ∧ narT l.2.2) (hlen : k.length ≤ 1000000) :
    Calls Tryz.prog 55 #[a, .func (.func 58) #[] #[.pointer (some ⟨bb, 0, none⟩)]] w fun e w' => ∃ g, e = .returned (.slice (some ⟨g, 0, none⟩) k.length k.length) ∧ CIn w' (k.map (mapL (subT (ren d)))) (.slice (some ⟨g, 0, none⟩) k.length k.length) ∧ Below w.heap.size w w' := by
  obtain ⟨a1, c1, b1, o1, rfl, had1, hlc1, hcm1, hF1⟩ := hS
  unfold maxLen at hcm1
  have HF1 := hide hF1
  have HI := hide h
  have Hn := hide hn
  clear hF1 h hn
  obtain ⟨iL, hi, hz0, hz1, hz2⟩ := info_parts Tryz.info44
  have hmk := fun w : World => run_make (P := Tryz.prog) w 25 44 iL _ Tryz.underlying25 hi hz0 .i64 .i64 (k.length : Int) (k.length : Int) (by omega) (by omega) (by rw [hz2]; omega) (by omega)
  rw [hz1] at hmk
  simp only [Int.toNat_natCast] at hmk
  go_enter Tryz.func55, Tryz.ntmps55
  go_wp2_with fail
  clear hmk hi hz0 hz1 hz2
  have H0 : Hid (MkRel w.heap.size w (k.map (mapL (subT (ren d)))) 0 (w.alloc (.cells (madeCells #[.bool false, .bool false, .int .i64 0, .slice none 0 0, .bool false, .int .i64 0, .slice none 0 0] (k.length * 7)) 44))) := by
    have := mk_start (W2 := w) (T := k.map (mapL (subT (ren d)))) (z := #[.bool false, .bool false, .int .i64 0, .slice none 0 0, .bool false, .int .i64 0, .slice none 0 0])
    rw [List.length_map] at this
    exact this
  go_loopw [13] (fun i wr => ∃ j : Nat, j ≤ k.length ∧ i = .int .i64 j ∧ MkRel w.heap.size w (k.map (mapL (subT (ren d)))) j wr) (fun i _ => k.length - (intOf i).toNat)
  case atStart => exact ⟨0, Nat.zero_le _, rfl, H0.out⟩
  case round =>
    obtain ⟨j, hj, rfl, hR⟩ := hrel
    have HR := hide hR
    obtain ⟨hB, hT, hsz, -⟩ := hR
    have hBw : Below w.heap.size w wr := hB
    by_cases hlt : j < k.length
    · have hlt' : (j : Int) < (k.length : Int) := by omega
      have hj0 : (0 : Int) ≤ (j : Int) := by omega
      obtain ⟨⟨yn, ⟨⟨yv, yi⟩, yk⟩, ⟨yv', yi'⟩, yk'⟩, hy⟩ : ∃ y, k[j]? = some y := ⟨k[j]'hlt, by simp⟩
      obtain ⟨p0, p1, p2, ⟨u3, p3, hA⟩, p4, p5, u6, p6, hD⟩ := (HF1.out.below hBw).at hy
      have ha1 : a1 = some ⟨b1, o1, none⟩ := had1 (by omega)
      subst ha1
      have HA := hide hA
      have HD := hide hD
      obtain ⟨ya, yc, _, _, rfl, -, -, -, -⟩ := hA
      obtain ⟨za, zc, _, _, rfl, -, -, -, -⟩ := hD
      have Hny := hide (Hn.out _ (List.mem_of_getElem? hy))
      obtain ⟨⟨⟨tv, ti⟩, tk⟩, ht⟩ : ∃ t, t = subT (ren d) ((yv, yi), yk) := ⟨_, rfl⟩
      obtain ⟨⟨⟨tv', ti'⟩, tk'⟩, ht'⟩ : ∃ t, t = subT (ren d) ((yv', yi'), yk') := ⟨_, rfl⟩
      have Hy2 : Hid ((k.map (mapL (subT (ren d))))[j]? = some (yn, ((tv, ti), tk), ((tv', ti'), tk'))) := by rw [Hid, List.getElem?_map, hy, ht, ht']; rfl
      have Ht := hide ht
      have Ht' := hide ht'
      have hT' : There wr w.heap.size (k.length * 7) := by rw [List.length_map] at hT; exact hT
      have hfz : ∀ i, i < 7 → (∃ v, wr.cell? ⟨w.heap.size, j * 7 + i, none⟩ = some v) ∧ wr.frozen? ⟨w.heap.size, j * 7 + i, none⟩ = false := fun i hi => hT' _ (by omega)
      have Hfz := hide hfz
      clear hy had1 hT hT' ht ht' hfz hB
      simp only at *
      go_upto_region 5 with fail
      generalize hwa : wr.alloc (.cells #[.bool yn, .bool yv, .int .i64 yi, .slice ya (Fo.len yk) yc, .bool yv', .int .i64 yi', .slice za (Fo.len yk') zc] 44) = wa
      obtain ⟨g0, g1, g2, g3, g4, g5, g6, -, hba, hsa⟩ := lit_cells (T := 44) (x0 := .bool yn) (w := wr) (wr := wa) (x1 := .bool yv) (x2 := .int .i64 yi) (x3 := .slice ya (Fo.len yk) yc) (x4 := .bool yv') (x5 := .int .i64 yi') (x6 := .slice za (Fo.len yk') zc) (by rw [hwa]; exact Below.refl _ _)
      clear hwa
      have hcur : Below wa.heap.size wa wa.drew := (Below.refl _ _).drew
      have hcall1 : ∀ w' : World, Below wa.heap.size wa w' → Calls Tryz.prog 58 #[.agg #[.bool yv, .int .i64 yi, .slice ya (Fo.len yk) yc], .pointer (some ⟨bb, 0, none⟩)] w' fun e w'' => ∃ (z1 : Option Addr) (z2 z3 : Nat), e = .returned (.agg #[.bool tv, .int .i64 ti, .slice z1 z2 z3]) ∧ OwnV w'' w'.heap.size w''.heap.size tk (.slice z1 z2 z3) ∧ Below w'.heap.size w' w'' := fun w' hb => by
        have hb' := below_step (below_step hBw hba) hb
        refine (cloER_any d bb (yv, yi) yk _ w' (invR_below d bb HI.out hb') (HA.out.below (below_step hba hb)) Hny.out.1).mono ?_
        rintro e w2 ⟨a', rfl, hO, hb⟩
        rw [← Ht.out] at hO
        obtain ⟨z1, z2, z3, rfl⟩ := slice_of_sin hO.toS
        exact ⟨z1, z2, z3, by rw [← Ht.out], hO, hb⟩
      have hcall2 : ∀ w' : World, Below wa.heap.size wa w' → Calls Tryz.prog 58 #[.agg #[.bool yv', .int .i64 yi', .slice za (Fo.len yk') zc], .pointer (some ⟨bb, 0, none⟩)] w' fun e w'' => ∃ (z1 : Option Addr) (z2 z3 : Nat), e = .returned (.agg #[.bool tv', .int .i64 ti', .slice z1 z2 z3]) ∧ OwnV w'' w'.heap.size w''.heap.size tk' (.slice z1 z2 z3) ∧ Below w'.heap.size w' w'' := fun w' hb => by
        have hb' := below_step (below_step hBw hba) hb
        refine (cloER_any d bb (yv', yi') yk' _ w' (invR_below d bb HI.out hb') (HD.out.below (below_step hba hb)) Hny.out.2).mono ?_
        rintro e w2 ⟨a', rfl, hO, hb⟩
        rw [← Ht'.out] at hO
        obtain ⟨z1, z2, z3, rfl⟩ := slice_of_sin hO.toS
        exact ⟨z1, z2, z3, by rw [← Ht'.out], hO, hb⟩
      have Hc1 := hide hcall1
      have Hc2 := hide hcall2
      clear hcall1 hcall2 p0 p1 p2 p3 p4 p5 p6
      have hgz : w.heap.size < wr.heap.size := by omega
      have hne : wr.heap.size ≠ w.heap.size := by omega
      go_region_held3 (fun w' => w'.cell? ⟨wr.heap.size, 0, none⟩ = some (.bool yn) ∧ w'.cell? ⟨wr.heap.size, 1, none⟩ = some (.bool yv) ∧ w'.cell? ⟨wr.heap.size, 2, none⟩ = some (.int .i64 yi) ∧ w'.cell? ⟨wr.heap.size, 3, none⟩ = some (.slice ya (Fo.len yk) yc) ∧ w'.cell? ⟨wr.heap.size, 4, none⟩ = some (.bool yv') ∧ w'.cell? ⟨wr.heap.size, 5, none⟩ = some (.int .i64 yi') ∧ w'.cell? ⟨wr.heap.size, 6, none⟩ = some (.slice za (Fo.len yk') zc))
        (first
          | (with_reducible exact ⟨grow_cell hcur _ _ g0, grow_cell hcur _ _ g1, grow_cell hcur _ _ g2, grow_cell hcur _ _ g3, grow_cell hcur _ _ g4, grow_cell hcur _ _ g5, grow_cell hcur _ _ g6⟩)
          | (with_reducible exact ⟨keep7 hne (grow_cell hcur _ _ g0), keep7 hne (grow_cell hcur _ _ g1), keep7 hne (grow_cell hcur _ _ g2), keep7 hne (grow_cell hcur _ _ g3), keep7 hne (grow_cell hcur _ _ g4), keep7 hne (grow_cell hcur _ _ g5), keep7 hne (grow_cell hcur _ _ g6)⟩)
          | go_keep)
        (first
          | (go_at_call 58; with_reducible refine (Hc1.out _ hcur).mono ?_; rintro e wS ⟨z1, z2, z3, rfl, hO1, hbS⟩; replace hcur := below_step hcur hbS; have HO1 := hide (And.intro hO1 hbS); clear hO1)
          | (go_at_call 58; with_reducible refine (Hc2.out _ hcur).mono ?_; rintro e wU ⟨y1, y2, y3, rfl, hO2, hbU⟩; have hcurS := hcur; replace hcur := below_step hcur hbU; have HO2 := hide (And.intro hO2 hbU); clear hO2; have hall := below_step hba hcur; obtain ⟨⟨t0, e0⟩, f0⟩ := Hfz.out 0 (by omega); obtain ⟨⟨t1, e1⟩, f1⟩ := Hfz.out 1 (by omega); obtain ⟨⟨t2, e2⟩, f2⟩ := Hfz.out 2 (by omega); obtain ⟨⟨t3, e3⟩, f3⟩ := Hfz.out 3 (by omega); obtain ⟨⟨t4, e4⟩, f4⟩ := Hfz.out 4 (by omega); obtain ⟨⟨t5, e5⟩, f5⟩ := Hfz.out 5 (by omega); obtain ⟨⟨t6, e6⟩, f6⟩ := Hfz.out 6 (by omega); replace e0 := grow_cell hall _ _ e0; replace e1 := grow_cell hall _ _ e1; replace e2 := grow_cell hall _ _ e2; replace e3 := grow_cell hall _ _ e3; replace e4 := grow_cell hall _ _ e4; replace e5 := grow_cell hall _ _ e5; replace e6 := grow_cell hall _ _ e6; replace f0 := (hall.frozen hgz).trans f0; replace f1 := (hall.frozen hgz).trans f1; replace f2 := (hall.frozen hgz).trans f2; replace f3 := (hall.frozen hgz).trans f3; replace f4 := (hall.frozen hgz).trans f4; replace f5 := (hall.frozen hgz).trans f5; replace f6 := (hall.frozen hgz).trans f6; simp only [Nat.add_zero] at e0 f0))
      all_goals
        have Hstep : Hid (MkRel w.heap.size w (k.map (mapL (subT (ren d)))) (j + 1) (setL wU w.heap.size (j * 7) (litV (yn, ((tv, ti), tk), ((tv', ti'), tk')) (.slice z1 z2 z3) (.slice y1 y2 y3)))) := by
          have s1 := hba.size
          have s2 := hcurS.size
          have s3 := HO1.out.2.size
          have s4 := HO2.out.2.size
          refine mk_step HR.out Hy2.out (below_step hba hcur) ?_ ?_
          · refine ((HO1.out.1.toB (X := fun q => wr.heap.size ≤ q ∧ q < wS.heap.size) (fun q q1 q2 => ⟨?_, q2⟩)).frame (fun q hq => ⟨hq.1, ?_⟩) (fun q i hq => HO2.out.2.cell ?_))
            · have q1' : wa.heap.size ≤ q := q1
              omega
            · have s4' : wS.heap.size ≤ wU.heap.size := s4
              have := hq.2
              omega
            · exact hq.2
          · refine HO2.out.1.toB (fun q q1 q2 => ⟨?_, q2⟩)
            have q1' : wS.heap.size ≤ q := q1
            omega
        go_wp2_with fail
        go_roundw
        case rel => exact ⟨j + 1, by omega, by go_num, Hstep.out⟩
        case measure => simp [intOf]; omega
    · have hje : j = k.length := by omega
      subst hje
      have Hfin : Hid (CIn wr (k.map (mapL (subT (ren d)))) (.slice (some ⟨w.heap.size, 0, none⟩) k.length k.length)) := by
        have := HR.out
        rw [show MkRel w.heap.size w (k.map (mapL (subT (ren d)))) k.length wr = MkRel w.heap.size w (k.map (mapL (subT (ren d)))) (k.map (mapL (subT (ren d)))).length wr by rw [List.length_map]] at this
        have := mk_end this (by rw [List.length_map]; unfold maxLen; omega)
        rw [List.length_map] at this
        exact this
      clear had1 hT hB
      go_wp2_with fail
      go_ret
      exact ⟨_, rfl, Hfin.out, hBw⟩

set_option maxRecDepth 100000 in
set_option maxHeartbeats 1000000 in
theorem renameC_any (d : Int) (k : Cl) (a : Value) (w : World) (hS : CIn w k a) (hn : ∀ l ∈ k, narT l.2.1 ∧ narT l.2.2) (hlen : k.length ≤ 1000000) :
    Calls Tryz.prog 26 #[a, .int .i64 d] w fun e w' => ∃ g, e = .returned (.slice (some ⟨g, 0, none⟩) k.length k.length) ∧ CIn w' (k.map (mapL (subT (ren d)))) (.slice (some ⟨g, 0, none⟩) k.length k.length) ∧ Below w.heap.size w w' := by
  have HS := hide hS
  obtain ⟨a1, a3, rfl⟩ := slice_of_cl hS
  clear hS
  go_enter Tryz.func26, Tryz.ntmps26
  go_wp2_with fail
  refine (eachR_any d w.heap.size k _ _ (by simp [InvR]) (HS.out.alloc _) hn hlen).mono ?_
  rintro e w1 ⟨g, rfl, hC, hb⟩
  have HC := hide hC
  clear hC
  go_wp2_with fail
  go_ret
  exact ⟨g, rfl, HC.out, below_box hb⟩

end Go.Proofs.YtfckelbdageenabGreatDoor

namespace Go.Proofs.YtfckelbdageenabGreatDoor
open Go.RowKit Go.Deep Go.ChangeShapes Go.WideShapes
attribute [local go_sem ↓] Go.wp_at_zero Go.wp_at_succ

theorem sameF_self : ∀ F : Fo, sameF F F = true
  | .nil => rfl
  | .node _ _ x k r => by simp [sameF, sameF_self k, sameF_self r]
theorem sameC_self : ∀ c : Cl, sameC c c = true
  | [] => rfl
  | l :: c => by simp [sameC, sameL, sameT, sameF_self, sameC_self c]

set_option maxRecDepth 100000 in
set_option maxHeartbeats 8000000 in
theorem clauseTells_any (s : List Int) (sv : Value) (c : Cl) (cv : Value) (d : Cl) (dv : Value) (b : Sb) (bv : Value) (n : Int) (T : ByteArray) (m : Int) (w : World) (hN : NIn w s sv) (hC : CIn w c cv) (hD : CIn w d dv) (hV : SubIn w b bv)
    (hn : ∀ l ∈ c, Fo.norm l.2.1.2 = l.2.1.2 ∧ Fo.norm l.2.2.2 = l.2.2.2) (hbn : ∀ p ∈ b, Fo.norm p.2.2 = p.2.2)
    (hM : w.cell? ⟨0, 0, none⟩ = some (.int .i64 m)) (hT : T.size < 4294967281) :
    Calls Tryz.prog 3 #[sv, cv, dv, bv, .int .i64 n, .string T] w fun e w' => e = .returned (.bool true) ∧ Below w.heap.size w w' := by
  have HN := hide hN
  have HC := hide hC
  have HD := hide hD
  have HV := hide hV
  have Hn := hide hn
  have Hbn := hide hbn
  have HM := hide hM
  have HT := hide hT
  obtain ⟨sa, sc, _, _, rfl, -, -, -, -⟩ := hN
  obtain ⟨c1, c3, rfl⟩ := slice_of_cl hC
  obtain ⟨d1, d3, rfl⟩ := slice_of_cl hD
  obtain ⟨v1, v3, rfl⟩ := slice_of_sub hV
  clear hC hD hV hn hbn hM hT
  have hnI : ∀ x : Int, (x != x) = false := fun x => by simp
  have hnB : ∀ x : Bool, (x != x) = false := fun x => by simp
  go_enter Tryz.func3, Tryz.ntmps3
  go_upto_region 1 with fail
  generalize hW1 : (w.alloc (.cells #[.slice v1 b.length v3] 27)).alloc (.cells #[.int .i64 n] 3) = W1
  have hB : Below w.heap.size w W1 := by rw [← hW1]; exact (below_alloc _ _).alloc (by simp) _
  have b0 : W1.cell? ⟨w.heap.size, 0, none⟩ = some (.slice v1 b.length v3) := by rw [← hW1, World.cell?_alloc_lt _ _ _ (by simp)]; exact new_cell rfl
  have n0 : W1.cell? ⟨w.heap.size + 1, 0, none⟩ = some (.int .i64 n) := by rw [← hW1]; exact new_cell (World.size_alloc _ _)
  clear hW1
  go_wp2_with fail
  refine (wsigR_any s _ _ (HN.out.below hB)).mono ?_
  rintro e w' ⟨rfl, hw'⟩
  rw [hw']
  clear hw' w'
  by_cases hw : wsig s = 0
  · have Hw := hide hw
    simp only [hw]
    clear hw
    obtain ⟨ok, h6, _⟩ := wsig_ok Hw.out
    have Hok := hide ok
    have H6 := hide h6
    clear ok h6
    go_wp2_with fail
    refine (parseCl_any s _ T m _ (HN.out.below hB) (grow_cell hB _ _ HM.out) HT.out).mono ?_
    rintro e w2 ⟨z1, z2, z3, rfl, hP, hb⟩
    replace b0 := grow_cell hb _ _ b0
    replace n0 := grow_cell hb _ _ n0
    replace hB := below_step hB hb
    have HP := hide hP
    clear hP hb
    go_wp2_with fail
    refine (parseCR_any s _ T _ (HN.out.below hB) HT.out).mono ?_
    rintro e w3 ⟨y1, y2, y3, rfl, hQ, hb⟩
    replace b0 := grow_cell hb _ _ b0
    replace n0 := grow_cell hb _ _ n0
    replace hB := below_step hB hb
    replace HP := hide (HP.out.below hb)
    have HQ := hide hQ
    clear hQ hb
    generalize parseC s T.data.toList = pc at *
    go_wp2_with fail
    refine (sameCR_any pc.2 pc.2 _ _ _ HP.out HQ.out).mono ?_
    rintro e w4 ⟨rfl, hb⟩
    rw [sameC_self]
    replace b0 := grow_cell hb _ _ b0
    replace n0 := grow_cell hb _ _ n0
    replace hB := below_step hB hb
    clear hb HP HQ
    go_wp2_with fail
    refine (wrongC_any s _ c _ _ (HN.out.below hB) (HC.out.below hB)).mono ?_
    rintro e w5 ⟨rfl, hb⟩
    replace b0 := grow_cell hb _ _ b0
    replace n0 := grow_cell hb _ _ n0
    replace hB := below_step hB hb
    clear hb
    go_wp2_with fail
    refine (wrongCR_any s _ c _ _ (HN.out.below hB) (HC.out.below hB)).mono ?_
    rintro e w6 ⟨rfl, hb⟩
    replace b0 := grow_cell hb _ _ b0
    replace n0 := grow_cell hb _ _ n0
    replace hB := below_step hB hb
    clear hb
    go_wp2_with fail
    refine (sameC_any c d _ _ _ (HC.out.below hB) (HD.out.below hB)).mono ?_
    rintro e w7 ⟨rfl, hb⟩
    replace b0 := grow_cell hb _ _ b0
    replace n0 := grow_cell hb _ _ n0
    replace hB := below_step hB hb
    clear hb
    go_wp2_with fail
    refine (sameCR_any c d _ _ _ (HC.out.below hB) (HD.out.below hB)).mono ?_
    rintro e w8 ⟨rfl, hb⟩
    replace b0 := grow_cell hb _ _ b0
    replace n0 := grow_cell hb _ _ n0
    replace hB := below_step hB hb
    clear hb
    generalize sameC c d = sB at *
    go_wp2_with fail
    refine (wrongCR_any s _ c _ _ (HN.out.below hB) (HC.out.below hB)).mono ?_
    rintro e w9 ⟨rfl, hb⟩
    replace b0 := grow_cell hb _ _ b0
    replace n0 := grow_cell hb _ _ n0
    replace hB := below_step hB hb
    clear hb
    by_cases he : wrongC s c = 0
    · have He := hide he
      simp only [he]
      clear he
      by_cases hn0 : n < 0
      · go_wp2_with fail
        go_ret
        exact ⟨rfl, hB⟩
      by_cases hn1 : 1000 < n
      · go_wp2_with fail
        go_ret
        exact ⟨rfl, hB⟩
      have Hg := hide (gc_rightN Hok.out Hn.out He.out)
      have Htx := hide (txC_right4 H6.out Hok.out He.out)
      have h4 := Hg.out.1
      have Hsz := hide (gc_sz Hg.out.2)
      have Hlen := hide (textC_len4 Htx.out h4)
      obtain ⟨bz1, bz3, bz4, bz5, hbe, hbad, hblc, hbcm, hbF⟩ := HV.out
      simp only [Value.slice.injEq, true_and] at hbe
      obtain ⟨rfl, rfl⟩ := hbe
      unfold maxLen at hbcm
      have HbF := hide hbF
      clear hbF
      generalize w9 = wq at *
      go_wp2_with fail
      go_loopw [91] (fun i wr => ∃ j : Nat, j ≤ b.length ∧ i = .int .i64 j ∧ (∀ i, i < j → ∀ p, b[i]? = some p → wrongF s p.2.1 p.2.2 = 0) ∧ Below wq.heap.size wq wr) (fun i _ => b.length - (intOf i).toNat)
      case atStart => exact ⟨0, Nat.zero_le _, rfl, fun i hi => by omega, Below.refl _ _⟩
      case round =>
        obtain ⟨j, hj, rfl, hok, hBx⟩ := hrel
        have Hbk := hide hok
        clear hok
        replace b0 := grow_cell hBx _ _ b0
        replace n0 := grow_cell hBx _ _ n0
        have hBr := below_step hB hBx
        by_cases hlt : j < b.length
        · have hlt' : (j : Int) < (b.length : Int) := by omega
          obtain ⟨⟨pi, ⟨pv, pn⟩, pk⟩, hp⟩ : ∃ p, b[j]? = some p := ⟨b[j]'hlt, by simp⟩
          obtain ⟨q0, q1, q2, u3, q3, hA⟩ := (HbF.out.below hBr).at hp
          have hb1 : v1 = some ⟨bz4, bz5, none⟩ := hbad (by omega)
          subst hb1
          have HA := hide hA
          obtain ⟨ya, yc, _, _, rfl, -, -, -, -⟩ := hA
          have Hp := hide hp
          clear hp hbad
          simp only at *
          go_wp2_with fail
          refine (wrongR_any s _ (pv, pn) pk _ _ ((HN.out.below hBr).alloc _) (HA.out.alloc _)).mono ?_
          rintro e w2 ⟨rfl, hb⟩
          replace hBx := below_step hBx (below_box hb)
          clear hb
          by_cases hpe : wrongF s (pv, pn) pk = 0
          · have Hn2 : Hid (∀ i, i < j + 1 → ∀ p, b[i]? = some p → wrongF s p.2.1 p.2.2 = 0) := fun i hi p hpi => by
              by_cases e : i = j
              · rw [e, Hp.out] at hpi; cases hpi; exact hpe
              · exact Hbk.out i (by omega) p hpi
            simp only [hpe]
            clear hpe
            go_wp2_with fail
            go_roundw
            case rel => exact ⟨j + 1, by omega, by go_num, Hn2.out, hBx⟩
            case measure => simp [intOf]; omega
          · have heb : (wrongF s (pv, pn) pk != 0) = true := by simp [hpe]
            generalize wrongF s (pv, pn) pk = er at *
            clear hpe
            go_wp2_with fail
            go_ret
            exact ⟨rfl, below_step hB hBx⟩
        · have Hbg : Hid (∀ p ∈ b, Gd p.2) := fun p hp => by
            obtain ⟨i, hi⟩ := List.mem_iff_getElem?.1 hp
            have hil := (List.getElem?_eq_some_iff.1 hi).1
            exact (gd_right Hok.out (Hbn.out p hp) (Hbk.out i (by omega) p hi)).1
          replace hB := hBr
          clear hbad Hbk hBx hBr
          go_wp2_with fail
          refine (norm_any c _ _ (HC.out.below hB) Hg.out).mono ?_
          rintro e w2 ⟨xv, rfl, hX, hb⟩
          replace b0 := grow_cell hb _ _ b0
          replace n0 := grow_cell hb _ _ n0
          replace hB := below_step hB hb
          have HX := hide hX
          obtain ⟨x1, x3, rfl⟩ := slice_of_cl hX
          clear hb hX
          go_wp2_with fail
          refine (normD_any c _ _ (HC.out.below hB) Hg.out).mono ?_
          rintro e w3 ⟨yv, rfl, hY, hb⟩
          replace b0 := grow_cell hb _ _ b0
          replace n0 := grow_cell hb _ _ n0
          replace hB := below_step hB hb
          replace HX := hide (HX.out.below hb)
          have HY := hide hY
          obtain ⟨y1, y3, rfl⟩ := slice_of_cl hY
          clear hb hY
          generalize normC c = nc at *
          go_wp2_with fail
          refine (sameCR_any nc.2 nc.2 _ _ _ HX.out HY.out).mono ?_
          rintro e w4 ⟨rfl, hb⟩
          rw [sameC_self]
          replace b0 := grow_cell hb _ _ b0
          replace n0 := grow_cell hb _ _ n0
          replace hB := below_step hB hb
          clear hb HX HY
          go_wp2_with fail
          refine (textCl_any c _ _ (HC.out.below hB) Htx.out (by omega) (by have := Hlen.out; omega)).mono ?_
          rintro e w5 ⟨U, rfl, hU, hb⟩
          replace b0 := grow_cell hb _ _ b0
          replace n0 := grow_cell hb _ _ n0
          replace hB := below_step hB hb
          clear hb
          have HU := hide hU
          clear hU
          go_wp2_with fail
          refine (textCR_any c _ _ (HC.out.below hB) Htx.out (by omega)).mono ?_
          rintro e w6 ⟨U', rfl, hU', hb⟩
          have hUU : U' = U := by rw [byte_eq hU', byte_eq HU.out]
          subst hUU
          replace b0 := grow_cell hb _ _ b0
          replace n0 := grow_cell hb _ _ n0
          replace hB := below_step hB hb
          clear hb hU' HU
          go_wp2_with fail
          refine (varsCl_any c _ _ (HC.out.below hB) (by have := gc_vars Hg.out.2; omega)).mono ?_
          rintro e w7 ⟨vv, rfl, hNv, hb⟩
          obtain ⟨vv1, vv3, rfl⟩ := nin_slice hNv
          replace b0 := grow_cell hb _ _ b0
          replace n0 := grow_cell hb _ _ n0
          replace hB := below_step hB hb
          clear hb hNv
          go_wp2_with fail
          refine (varsCR_any c _ _ (HC.out.below hB) (by have := gc_vars Hg.out.2; omega)).mono ?_
          rintro e w8 ⟨vv', rfl, hNv, hb⟩
          obtain ⟨vv1', vv3', rfl⟩ := nin_slice hNv
          replace b0 := grow_cell hb _ _ b0
          replace n0 := grow_cell hb _ _ n0
          replace hB := below_step hB hb
          clear hb hNv
          generalize (varsC c []).length = vl at *
          obtain ⟨cz1, cz3, cz4, cz5, hce, hcad, hclc, hccm, hcF⟩ := HC.out
          simp only [Value.slice.injEq, true_and] at hce
          obtain ⟨rfl, rfl⟩ := hce
          obtain ⟨dz1, dz3, dz4, dz5, hde, hdad, hdlc, hdcm, hdF⟩ := HD.out
          simp only [Value.slice.injEq, true_and] at hde
          obtain ⟨rfl, rfl⟩ := hde
          unfold maxLen at hccm hdcm
          have HcF := hide hcF
          have HdF := hide hdF
          clear hcF hdF
          generalize w8 = wp at *
          go_wp2_with fail
          go_loopw [138] (fun i wr => ∃ j : Nat, j ≤ c.length ∧ i = .int .i64 j ∧ Below wp.heap.size wp wr) (fun i _ => c.length - (intOf i).toNat)
          case atStart => exact ⟨0, Nat.zero_le _, rfl, Below.refl _ _⟩
          case round =>
            obtain ⟨j, hj, rfl, hBx⟩ := hrel
            replace b0 := grow_cell hBx _ _ b0
            replace n0 := grow_cell hBx _ _ n0
            have hBr := below_step hB hBx
            by_cases hlt : j < c.length
            · have hlt' : (j : Int) < (c.length : Int) := by omega
              obtain ⟨⟨yn, ⟨⟨yv, yi⟩, yk⟩, ⟨yv', yi'⟩, yk'⟩, hy⟩ : ∃ y, c[j]? = some y := ⟨c[j]'hlt, by simp⟩
              obtain ⟨p0, p1, p2, ⟨u3, p3, hA⟩, p4, p5, u6, p6, hD⟩ := (HcF.out.below hBr).at hy
              have ha1 : c1 = some ⟨cz4, cz5, none⟩ := hcad (by omega)
              subst ha1
              have HA := hide hA
              have HB := hide hD
              obtain ⟨ya, yc, _, _, rfl, -, -, -, -⟩ := hA
              obtain ⟨za, zc, _, _, rfl, -, -, -, -⟩ := hD
              clear hy hcad
              simp only at *
              go_upto_region 23 with fail
              generalize hwa : wr.alloc (.cells #[.bool yn, .bool yv, .int .i64 yi, .slice ya (Fo.len yk) yc, .bool yv', .int .i64 yi', .slice za (Fo.len yk') zc] 44) = wa
              obtain ⟨g0, g1, g2, g3, g4, g5, g6, -, hba, hsa⟩ := lit_cells (T := 44) (x0 := .bool yn) (w := wr) (wr := wa) (x1 := .bool yv) (x2 := .int .i64 yi) (x3 := .slice ya (Fo.len yk) yc) (x4 := .bool yv') (x5 := .int .i64 yi') (x6 := .slice za (Fo.len yk') zc) (by rw [← hwa]; exact Below.refl _ _)
              have hBa := below_step hBx hba
              clear hwa p0 p1 p2 p3 p4 p5 p6
              by_cases hjd : j < d.length
              · have hjd' : (j : Int) < (d.length : Int) := by omega
                obtain ⟨⟨qn, ⟨⟨qv, qi⟩, qk⟩, ⟨qv', qi'⟩, qk'⟩, hq⟩ : ∃ y, d[j]? = some y := ⟨d[j]'hjd, by simp⟩
                obtain ⟨e0, e1, e2, ⟨u3, e3, hE⟩, e4, e5, u6, e6, hF⟩ := (HdF.out.below (below_step hBr hba)).at hq
                have ha2 : d1 = some ⟨dz4, dz5, none⟩ := hdad (by omega)
                subst ha2
                have HE := hide hE
                have HF := hide hF
                obtain ⟨qa, qc, _, _, rfl, -, -, -, -⟩ := hE
                obtain ⟨ra, rc, _, _, rfl, -, -, -, -⟩ := hF
                have Hc1 := hide (fun (w' : World) (hb : Below wa.heap.size wa w') => sameLit_any (yn, ((yv, yi), yk), ((yv', yi'), yk')) (qn, ((qv, qi), qk), ((qv', qi'), qk')) _ _ _ _ w' (HA.out.below (below_step hba hb)) (HB.out.below (below_step hba hb)) (HE.out.below hb) (HF.out.below hb))
                have Hc2 := hide (fun (w' : World) (hb : Below wa.heap.size wa w') => sameLitR_any (yn, ((yv, yi), yk), ((yv', yi'), yk')) (qn, ((qv, qi), qk), ((qv', qi'), qk')) _ _ _ _ w' (HA.out.below (below_step hba hb)) (HB.out.below (below_step hba hb)) (HE.out.below hb) (HF.out.below hb))
                simp only at Hc1 Hc2 e0 e1 e2 e3 e4 e5 e6
                generalize sameL (yn, ((yv, yi), yk), ((yv', yi'), yk')) (qn, ((qv, qi), qk), ((qv', qi'), qk')) = sL at Hc1 Hc2
                have hj0 : (0 : Int) ≤ (j : Int) := by omega
                have hcur : Below wa.heap.size wa wa.drew := (Below.refl _ _).drew
                clear hq hdad
                go_region_held3 (fun w' => w'.cell? ⟨wr.heap.size, 0, none⟩ = some (.bool yn) ∧ w'.cell? ⟨wr.heap.size, 1, none⟩ = some (.bool yv) ∧ w'.cell? ⟨wr.heap.size, 2, none⟩ = some (.int .i64 yi) ∧ w'.cell? ⟨wr.heap.size, 3, none⟩ = some (.slice ya (Fo.len yk) yc) ∧ w'.cell? ⟨wr.heap.size, 4, none⟩ = some (.bool yv') ∧ w'.cell? ⟨wr.heap.size, 5, none⟩ = some (.int .i64 yi') ∧ w'.cell? ⟨wr.heap.size, 6, none⟩ = some (.slice za (Fo.len yk') zc) ∧ w'.cell? ⟨dz4, dz5 + j * 7, none⟩ = some (.bool qn) ∧ w'.cell? ⟨dz4, dz5 + j * 7 + 1, none⟩ = some (.bool qv) ∧ w'.cell? ⟨dz4, dz5 + j * 7 + 2, none⟩ = some (.int .i64 qi) ∧ w'.cell? ⟨dz4, dz5 + j * 7 + 3, none⟩ = some (.slice qa (Fo.len qk) qc) ∧ w'.cell? ⟨dz4, dz5 + j * 7 + 4, none⟩ = some (.bool qv') ∧ w'.cell? ⟨dz4, dz5 + j * 7 + 5, none⟩ = some (.int .i64 qi') ∧ w'.cell? ⟨dz4, dz5 + j * 7 + 6, none⟩ = some (.slice ra (Fo.len qk') rc))
                  (first
                    | (with_reducible exact ⟨grow_cell hcur _ _ g0, grow_cell hcur _ _ g1, grow_cell hcur _ _ g2, grow_cell hcur _ _ g3, grow_cell hcur _ _ g4, grow_cell hcur _ _ g5, grow_cell hcur _ _ g6, grow_cell hcur _ _ e0, grow_cell hcur _ _ e1, grow_cell hcur _ _ e2, grow_cell hcur _ _ e3, grow_cell hcur _ _ e4, grow_cell hcur _ _ e5, grow_cell hcur _ _ e6⟩)
                    | go_keep)
                  (first
                    | (go_at_call 20; with_reducible refine (Hc1.out _ hcur).mono ?_; rintro e wS ⟨rfl, hbS⟩; replace hcur := below_step hcur hbS)
                    | (go_at_call 21; with_reducible refine (Hc2.out _ hcur).mono ?_; rintro e wU ⟨rfl, hbU⟩; replace hcur := below_step hcur hbU))
                all_goals
                  have Hend := hide (below_step hBa hcur)
                  clear hcur hbS hbU
                  go_wp2_with fail
                  go_roundw
                  case rel => exact ⟨j + 1, by omega, by go_num, Hend.out⟩
                  case measure => simp [intOf]; omega
              · have hjd' : ¬ (j : Int) < (d.length : Int) := by omega
                go_quiet (fail)
                go_wp2_with fail
                go_roundw
                case rel => exact ⟨j + 1, by omega, by go_num, below_drewN hBa _⟩
                case measure => simp [intOf]; omega
            · have Hnar : Hid (∀ l ∈ c, narT l.2.1 ∧ narT l.2.2) := fun l hl => ⟨(Hg.out.2 l hl).gl.nar, (Hg.out.2 l hl).gr.nar⟩
              have HG : Hid (∀ l ∈ c, (okT l.2.1 ∧ narT l.2.1) ∧ (okT l.2.2 ∧ narT l.2.2)) := fun l hl => ⟨⟨(Hg.out.2 l hl).gl.ok, (Hg.out.2 l hl).gl.nar⟩, ⟨(Hg.out.2 l hl).gr.ok, (Hg.out.2 l hl).gr.nar⟩⟩
              clear hcad hdad hBx hB
              go_wp2_with fail
              refine (applyC_any b _ c _ _ (HV.out.below hBr) (fun p hp => ⟨(Hbg.out p hp).nar, (Hbg.out p hp).ok⟩) (HC.out.below hBr) Hnar.out (by omega)).mono ?_
              rintro e w2 ⟨ga, rfl, hX, hb⟩
              replace b0 := grow_cell hb _ _ b0
              replace n0 := grow_cell hb _ _ n0
              replace hBr := below_step hBr hb
              have HX := hide hX
              clear hb hX
              go_wp2_with fail
              refine (eachD1_any w.heap.size (subT (bnd b)) (fun t => okT t ∧ narT t) c _ _ (cloD1_any b _ w.heap.size _ b0 (HV.out.below hBr) (fun p hp => (Hbg.out p hp).ok)) (HC.out.below hBr) HG.out (by omega)).mono ?_
              rintro e w3 ⟨yv, xs, rfl, hO, hb⟩
              replace b0 := grow_cell hb _ _ b0
              replace n0 := grow_cell hb _ _ n0
              replace hBr := below_step hBr hb
              replace HX := hide (HX.out.below hb)
              obtain ⟨y1, y3, hyv⟩ := slice_of_cl hO.cl
              rw [List.length_map] at hyv
              subst hyv
              have HY := hide hO.cl
              have Hc := hide (sameCR_any (c.map (mapL (subT (bnd b)))) (c.map (mapL (subT (bnd b)))) _ _ _ HX.out HY.out)
              rw [sameC_self] at Hc
              clear hb hO
              go_wp2_with fail
              with_reducible refine Hc.out.mono ?_
              rintro e w4 ⟨rfl, hb⟩
              replace b0 := grow_cell hb _ _ b0
              replace n0 := grow_cell hb _ _ n0
              replace hBr := below_step hBr hb
              clear hb HX HY Hc
              go_wp2_with fail
              refine (renameC_any n c _ _ (HC.out.below hBr) Hnar.out (by omega)).mono ?_
              rintro e w5 ⟨gb, rfl, hX, hb⟩
              replace b0 := grow_cell hb _ _ b0
              replace n0 := grow_cell hb _ _ n0
              replace hBr := below_step hBr hb
              have HX := hide hX
              clear hb hX
              go_wp2_with fail
              refine (eachD2_any (w.heap.size + 1) (subT (ren n)) (fun t => okT t ∧ narT t) c _ _ (cloD2_any n (w.heap.size + 1) _ n0) (HC.out.below hBr) HG.out (by omega)).mono ?_
              rintro e w6 ⟨zv, zs, rfl, hO, hb⟩
              replace b0 := grow_cell hb _ _ b0
              replace n0 := grow_cell hb _ _ n0
              replace hBr := below_step hBr hb
              replace HX := hide (HX.out.below hb)
              obtain ⟨z1, z3, hyv⟩ := slice_of_cl hO.cl
              rw [List.length_map] at hyv
              subst hyv
              have HY := hide hO.cl
              have Hc := hide (sameCR_any (c.map (mapL (subT (ren n)))) (c.map (mapL (subT (ren n)))) _ _ _ HX.out HY.out)
              rw [sameC_self] at Hc
              clear hb hO
              go_wp2_with fail
              with_reducible refine Hc.out.mono ?_
              rintro e w7 ⟨rfl, hb⟩
              replace b0 := grow_cell hb _ _ b0
              replace n0 := grow_cell hb _ _ n0
              replace hBr := below_step hBr hb
              clear hb HX HY
              go_wp2_with fail
              go_ret
              exact ⟨rfl, hBr⟩
    · have heb : (wrongC s c != 0) = true := by simp [he]
      generalize wrongC s c = er at *
      clear he
      go_wp2_with fail
      go_ret
      exact ⟨rfl, hB⟩
  · have heb : (wsig s != 0) = true := by simp [hw]
    have Hp : Hid (parseC s T.data.toList = (wsig s, [])) := by rw [Hid, parseC, if_pos hw]
    have hee : ∀ x : Int, (x == x) = true := fun x => by simp
    go_wp2_with fail
    refine (parseCl_any s _ T m _ (HN.out.below hB) (grow_cell hB _ _ HM.out) HT.out).mono ?_
    rintro e w2 ⟨z1, z2, z3, rfl, hP, hb⟩
    rw [Hp.out]
    have hB2 := below_step hB hb
    clear hP
    go_wp2_with fail
    refine (wsigR_any s _ _ (HN.out.below hB2)).mono ?_
    rintro e w' ⟨rfl, hw'⟩
    rw [hw']
    clear hw' w'
    generalize wsig s = er at *
    clear hw
    go_wp2_with fail
    go_ret
    exact ⟨rfl, hB2⟩

end Go.Proofs.YtfckelbdageenabGreatDoor

namespace Go.Proofs.YtfckelbdageenabGreatDoor
open Go.ChangeShapes Go.WideShapes Go.ChangeAt Go.WideMaps Go.WideElems Go.RowKit Go.Deep Go.Joins

theorem Tryz.cells38 : Tryz.prog.cellsOf 38 = 4 := by kernel_rfl

section
variable {H : Type} {enc : TypeId × Value → H} {W : World} {sp : Nat → Bool} {held : Bool}

set_option maxRecDepth 100000 in
/-- A pair's four cells. -/
theorem open_pair {fuel : Nat} {cs : List Value} {x : DataW H × List MemPlace} (h : DataW.trod enc Tryz.prog W 0 sp held fuel 38 cs = some x) :
    ∃ (n : Int) (v : Bool) (m : Int) (a : Value) (k : Fo), cs = [.int .i64 n, .bool v, .int .i64 m, a] ∧ SIn W k a := by
  obtain ⟨xs, m, rfl, _, hl, hlen, hf⟩ := DataW.trod_struct Tryz.underlying38 h
  rw [Tryz.cells38] at hl
  match xs, hlen, cs, hl with
  | [y0, y1], _, [c0, c1, c2, c3], _ =>
    have q0 := hf 0 _ rfl
    have q1 := hf 1 _ rfl
    simp [Tryz.cells3, Tryz.cells36] at q0 q1
    obtain ⟨n, e0, _, _⟩ := DataW.trod_int Tryz.underlying3 q0
    obtain ⟨v, z, a, m', y, _, e1, hy⟩ := open_term q1
    obtain ⟨k, hk⟩ := open_terms _ _ _ hy
    simp only [List.cons.injEq, and_true] at e0 e1
    obtain ⟨rfl, rfl, rfl⟩ := e1
    subst e0
    exact ⟨n, v, z, c3, k, rfl, hk⟩

theorem build_sub {b : Nat} : ∀ (n o : Nat), (∀ i, i < n → ∃ (p : Int × Tm) (a : Value), W.cell? ⟨b, o + 4 * i, none⟩ = some (.int .i64 p.1) ∧ W.cell? ⟨b, o + 4 * i + 1, none⟩ = some (.bool p.2.1.1) ∧ W.cell? ⟨b, o + 4 * i + 2, none⟩ = some (.int .i64 p.2.1.2) ∧ W.cell? ⟨b, o + 4 * i + 3, none⟩ = some a ∧ SIn W p.2.2 a) → ∃ s : Sb, s.length = n ∧ PIn W s b o
  | 0, _, _ => ⟨[], rfl, trivial⟩
  | n + 1, o, h => by
    obtain ⟨s, hl, hP⟩ := build_sub n (o + 4) (fun i hi => by
      have := h (i + 1) (by omega)
      rw [show o + 4 * (i + 1) = o + 4 + 4 * i by omega] at this
      exact this)
    obtain ⟨p, a, h0, h1, h2, h3, h4⟩ := h 0 (by omega)
    exact ⟨p :: s, by simp [hl], by simpa using h0, by simpa using h1, by simpa using h2, ⟨a, by simpa using h3, h4⟩, hP⟩

set_option maxRecDepth 100000 in
/-- Bindings by value. -/
theorem open_sub {r : Reach} {b0 : Nat} {v : Value} {d : DataW H} {p : List MemPlace} (hv : Value.okWide Tryz.prog W r b0 27 v) (h : DataW.Trod enc Tryz.prog W 0 sp held 27 v d p) : ∃ s : Sb, SubIn W s v := by
  obtain ⟨a0, len0, cap0, rfl⟩ := okWide_slice Tryz.underlying27 hv
  obtain ⟨fuel, hf⟩ := h
  rcases DataW.trod_slice Tryz.underlying27 hf with ⟨hc, _⟩ | ⟨a, len, cap, elems, rest, n, hfuel, hc, _, _, hlc, hcm, hlen, hel, _, _⟩
  · simp [Value.cells] at hc
    obtain ⟨rfl, rfl, rfl⟩ := hc
    exact ⟨[], SubIn.nil W⟩
  · simp [Value.cells] at hc
    obtain ⟨rfl, rfl, rfl⟩ := hc
    rw [Tryz.cells38] at hel
    obtain ⟨b, o, spot⟩ := a
    have hone : ∀ i, i < len0 → ∃ (p : Int × Tm) (v : Value), W.cell? ((⟨b, o, spot⟩ : Addr).add (i * 4)) = some (.int .i64 p.1) ∧ W.cell? (((⟨b, o, spot⟩ : Addr).add (i * 4)).add 1) = some (.bool p.2.1.1) ∧ W.cell? (((⟨b, o, spot⟩ : Addr).add (i * 4)).add 2) = some (.int .i64 p.2.1.2) ∧ W.cell? (((⟨b, o, spot⟩ : Addr).add (i * 4)).add 3) = some v ∧ SIn W p.2.2 v := fun i hi => by
      have h1 := hel i hi
      have hi' : i < elems.length := by omega
      rw [List.getElem?_eq_getElem hi'] at h1
      obtain ⟨cs, h2, h3⟩ := Option.bind_eq_some_iff.1 h1
      obtain ⟨_, hl3, hcell⟩ := World.cells?_some h2
      obtain ⟨z, tv, tn, ta, k, rfl, hk⟩ := open_pair h3
      exact ⟨(z, ((tv, tn), k)), ta, by simpa [Addr.add] using hcell 0 (by omega), by simpa using hcell 1 (by omega), by simpa using hcell 2 (by omega), by simpa using hcell 3 (by omega), hk⟩
    by_cases h0 : len0 = 0
    · subst h0
      exact ⟨[], _, cap0, 0, 0, rfl, fun h => by simp at h, Nat.zero_le _, hcm, trivial⟩
    · have hspot : spot = none := by
        obtain ⟨x, v, q0, _⟩ := hone 0 (by omega)
        simpa [Addr.add] using World.cell?_spot q0
      subst hspot
      obtain ⟨s, hs1, hs2⟩ := build_sub (W := W) (b := b) len0 o (fun i hi => by
        obtain ⟨p, v, q0, q1, q2, q3, q4⟩ := hone i hi
        refine ⟨p, v, ?_, ?_, ?_, ?_, q4⟩
        · rw [add_plain] at q0; rw [Nat.mul_comm 4 i]; exact q0
        · rw [add_plain, add_plain] at q1; rw [Nat.mul_comm 4 i]; exact q1
        · rw [add_plain, add_plain] at q2; rw [Nat.mul_comm 4 i]; exact q2
        · rw [add_plain, add_plain] at q3; rw [Nat.mul_comm 4 i]; exact q3)
      exact ⟨s, _, cap0, b, o, by rw [hs1], fun _ => rfl, by omega, hcm, hs2⟩

end

/-- The same bindings, without what is no part of them. -/
def normS (s : Sb) : Sb := s.map fun p => (p.1, (p.2.1, Fo.norm p.2.2))
theorem pin_norm {w : World} : ∀ {s : Sb} {b o : Nat}, PIn w s b o → PIn w (normS s) b o
  | [], _, _, _ => trivial
  | _ :: _, _, _, ⟨h0, h1, h2, ⟨v, h3, h4⟩, h5⟩ => ⟨h0, h1, h2, ⟨v, h3, sin_norm h4⟩, pin_norm h5⟩
theorem sub_norm {w : World} {s : Sb} {v : Value} (h : SubIn w s v) : SubIn w (normS s) v := by
  obtain ⟨a, c, b, o, rfl, h2, h3, h4, h5⟩ := h
  exact ⟨a, c, b, o, by simp [normS], by simpa [normS] using h2, by simpa [normS] using h3, h4, pin_norm h5⟩
theorem normS_norm {s : Sb} : ∀ p ∈ normS s, Fo.norm p.2.2 = p.2.2 := fun p hp => by
  simp only [normS, List.mem_map] at hp
  obtain ⟨q, _, rfl⟩ := hp
  exact norm_norm _

end Go.Proofs.YtfckelbdageenabGreatDoor

namespace Go.Proofs.YtfckelbdageenabGreatDoor
open Go.ChangeShapes Go.WideShapes Go.ChangeAt Go.WideMaps Go.WideElems Go.RowKit Go.Deep Go.Joins

theorem Tryz.cells44 : Tryz.prog.cellsOf 44 = 7 := by kernel_rfl

section
variable {H : Type} {enc : TypeId × Value → H} {W : World} {sp : Nat → Bool} {held : Bool}

set_option maxRecDepth 100000 in
/-- A literal's seven cells. -/
theorem open_lit {fuel : Nat} {cs : List Value} {x : DataW H × List MemPlace} (h : DataW.trod enc Tryz.prog W 0 sp held fuel 44 cs = some x) :
    ∃ (l : Lt) (a d : Value), cs = litV l a d ∧ SIn W l.2.1.2 a ∧ SIn W l.2.2.2 d := by
  obtain ⟨xs, m, rfl, _, hl, hlen, hf⟩ := DataW.trod_struct Tryz.underlying44 h
  rw [Tryz.cells44] at hl
  match xs, hlen, cs, hl with
  | [y0, y1, y2], _, [c0, c1, c2, c3, c4, c5, c6], _ =>
    have q0 := hf 0 _ rfl
    have q1 := hf 1 _ rfl
    have q2 := hf 2 _ rfl
    simp [Tryz.cells4, Tryz.cells36] at q0 q1 q2
    obtain ⟨n, e0, _⟩ := DataW.trod_bool Tryz.underlying4 q0
    obtain ⟨v, z, a, m', y, _, e1, hy⟩ := open_term q1
    obtain ⟨k, hk⟩ := open_terms _ _ _ hy
    obtain ⟨v', z', a', m'', y', _, e2, hy'⟩ := open_term q2
    obtain ⟨k', hk'⟩ := open_terms _ _ _ hy'
    simp only [List.cons.injEq, and_true] at e0 e1 e2
    obtain ⟨rfl, rfl, rfl⟩ := e1
    obtain ⟨rfl, rfl, rfl⟩ := e2
    subst e0
    exact ⟨(n, ((v, z), k), ((v', z'), k')), c3, c6, rfl, hk, hk'⟩

theorem build_cl {b : Nat} : ∀ (n o : Nat), (∀ i, i < n → ∃ (l : Lt) (a d : Value), W.cell? ⟨b, o + 7 * i, none⟩ = some (.bool l.1) ∧ W.cell? ⟨b, o + 7 * i + 1, none⟩ = some (.bool l.2.1.1.1) ∧ W.cell? ⟨b, o + 7 * i + 2, none⟩ = some (.int .i64 l.2.1.1.2) ∧ W.cell? ⟨b, o + 7 * i + 3, none⟩ = some a ∧ W.cell? ⟨b, o + 7 * i + 4, none⟩ = some (.bool l.2.2.1.1) ∧ W.cell? ⟨b, o + 7 * i + 5, none⟩ = some (.int .i64 l.2.2.1.2) ∧ W.cell? ⟨b, o + 7 * i + 6, none⟩ = some d ∧ SIn W l.2.1.2 a ∧ SIn W l.2.2.2 d) → ∃ s : Cl, s.length = n ∧ LIn W s b o
  | 0, _, _ => ⟨[], rfl, trivial⟩
  | n + 1, o, h => by
    obtain ⟨s, hl, hP⟩ := build_cl n (o + 7) (fun i hi => by
      have := h (i + 1) (by omega)
      rw [show o + 7 * (i + 1) = o + 7 + 7 * i by omega] at this
      exact this)
    obtain ⟨l, a, d, h0, h1, h2, h3, h4, h5, h6, h7, h8⟩ := h 0 (by omega)
    exact ⟨l :: s, by simp [hl], ⟨by simpa using h0, by simpa using h1, by simpa using h2, ⟨a, by simpa using h3, h7⟩, by simpa using h4, by simpa using h5, d, by simpa using h6, h8⟩, hP⟩

set_option maxRecDepth 100000 in
/-- A clause by value. -/
theorem open_cl {r : Reach} {b0 : Nat} {v : Value} {d : DataW H} {p : List MemPlace} (hv : Value.okWide Tryz.prog W r b0 25 v) (h : DataW.Trod enc Tryz.prog W 0 sp held 25 v d p) : ∃ s : Cl, CIn W s v := by
  obtain ⟨a0, len0, cap0, rfl⟩ := okWide_slice Tryz.underlying25 hv
  obtain ⟨fuel, hf⟩ := h
  rcases DataW.trod_slice Tryz.underlying25 hf with ⟨hc, _⟩ | ⟨a, len, cap, elems, rest, n, hfuel, hc, _, _, hlc, hcm, hlen, hel, _, _⟩
  · simp [Value.cells] at hc
    obtain ⟨rfl, rfl, rfl⟩ := hc
    exact ⟨[], CIn.nil W⟩
  · simp [Value.cells] at hc
    obtain ⟨rfl, rfl, rfl⟩ := hc
    rw [Tryz.cells44] at hel
    obtain ⟨b, o, spot⟩ := a
    have hone : ∀ i, i < len0 → ∃ (l : Lt) (a d : Value), W.cell? ((⟨b, o, spot⟩ : Addr).add (i * 7)) = some (.bool l.1) ∧ W.cell? (((⟨b, o, spot⟩ : Addr).add (i * 7)).add 1) = some (.bool l.2.1.1.1) ∧ W.cell? (((⟨b, o, spot⟩ : Addr).add (i * 7)).add 2) = some (.int .i64 l.2.1.1.2) ∧ W.cell? (((⟨b, o, spot⟩ : Addr).add (i * 7)).add 3) = some a ∧ W.cell? (((⟨b, o, spot⟩ : Addr).add (i * 7)).add 4) = some (.bool l.2.2.1.1) ∧ W.cell? (((⟨b, o, spot⟩ : Addr).add (i * 7)).add 5) = some (.int .i64 l.2.2.1.2) ∧ W.cell? (((⟨b, o, spot⟩ : Addr).add (i * 7)).add 6) = some d ∧ SIn W l.2.1.2 a ∧ SIn W l.2.2.2 d := fun i hi => by
      have h1 := hel i hi
      have hi' : i < elems.length := by omega
      rw [List.getElem?_eq_getElem hi'] at h1
      obtain ⟨cs, h2, h3⟩ := Option.bind_eq_some_iff.1 h1
      obtain ⟨_, hl3, hcell⟩ := World.cells?_some h2
      obtain ⟨l, ta, td, rfl, hk, hk'⟩ := open_lit h3
      exact ⟨l, ta, td, by simpa [Addr.add] using hcell 0 (by omega), by simpa using hcell 1 (by omega), by simpa using hcell 2 (by omega), by simpa using hcell 3 (by omega), by simpa using hcell 4 (by omega), by simpa using hcell 5 (by omega), by simpa using hcell 6 (by omega), hk, hk'⟩
    by_cases h0 : len0 = 0
    · subst h0
      exact ⟨[], _, cap0, 0, 0, rfl, fun h => by simp at h, Nat.zero_le _, hcm, trivial⟩
    · have hspot : spot = none := by
        obtain ⟨x, v, _, q0, _⟩ := hone 0 (by omega)
        simpa [Addr.add] using World.cell?_spot q0
      subst hspot
      obtain ⟨s, hs1, hs2⟩ := build_cl (W := W) (b := b) len0 o (fun i hi => by
        obtain ⟨l, a, d, q0, q1, q2, q3, q4, q5, q6, q7, q8⟩ := hone i hi
        refine ⟨l, a, d, ?_, ?_, ?_, ?_, ?_, ?_, ?_, q7, q8⟩
        · rw [add_plain] at q0; rw [Nat.mul_comm 7 i]; exact q0
        · rw [add_plain, add_plain] at q1; rw [Nat.mul_comm 7 i]; exact q1
        · rw [add_plain, add_plain] at q2; rw [Nat.mul_comm 7 i]; exact q2
        · rw [add_plain, add_plain] at q3; rw [Nat.mul_comm 7 i]; exact q3
        · rw [add_plain, add_plain] at q4; rw [Nat.mul_comm 7 i]; exact q4
        · rw [add_plain, add_plain] at q5; rw [Nat.mul_comm 7 i]; exact q5
        · rw [add_plain, add_plain] at q6; rw [Nat.mul_comm 7 i]; exact q6)
      exact ⟨s, _, cap0, b, o, by rw [hs1], fun _ => rfl, by omega, hcm, hs2⟩

end

/-- The same clause, without what is no part of it. -/
def normCl (s : Cl) : Cl := s.map fun l => (l.1, (l.2.1.1, Fo.norm l.2.1.2), (l.2.2.1, Fo.norm l.2.2.2))
theorem lin_norm {w : World} : ∀ {s : Cl} {b o : Nat}, LIn w s b o → LIn w (normCl s) b o
  | [], _, _, _ => trivial
  | _ :: _, _, _, ⟨⟨h0, h1, h2, ⟨v, h3, h4⟩, h5, h6, u, h7, h8⟩, h9⟩ => ⟨⟨h0, h1, h2, ⟨v, h3, sin_norm h4⟩, h5, h6, u, h7, sin_norm h8⟩, lin_norm h9⟩
theorem cl_norm {w : World} {s : Cl} {v : Value} (h : CIn w s v) : CIn w (normCl s) v := by
  obtain ⟨a, c, b, o, rfl, h2, h3, h4, h5⟩ := h
  exact ⟨a, c, b, o, by simp [normCl], by simpa [normCl] using h2, by simpa [normCl] using h3, h4, lin_norm h5⟩
theorem normCl_norm {s : Cl} : ∀ l ∈ normCl s, Fo.norm l.2.1.2 = l.2.1.2 ∧ Fo.norm l.2.2.2 = l.2.2.2 := fun p hp => by
  simp only [normCl, List.mem_map] at hp
  obtain ⟨q, _, rfl⟩ := hp
  exact ⟨norm_norm _, norm_norm _⟩

end Go.Proofs.YtfckelbdageenabGreatDoor

namespace Go.Proofs.YtfckelbdageenabGreatDoor
open Go.ChangeMaps Go.ChangeShapes Go.WideShapes Go.ChangeAt Go.WideMaps Go.WideElems Go.RowKit Go.Deep Go.Joins

theorem own4 : ownKnob Tryz.prog.godebug = none := by kernel_rfl
theorem laidOut4 : laidOutB Tryz.prog = true := by kernel_rfl

theorem bulk_part {H : Type} {d : DataW H} {l : List (DataW H)} (h : d ∈ l) : Rows.uptoBulk d ≤ Rows.uptoBulkAll l := by
  induction l with
  | nil => cases h
  | cons x r ih =>
    simp only [Rows.uptoBulkAll]
    cases List.mem_cons.1 h with
    | inl e => subst e; omega
    | inr e => have := ih e; omega
theorem bulk_string {H : Type} (bytes : List UInt8) : Rows.uptoBulk (DataW.lit (H := H) (.string bytes)) = bytes.length + 1 := by
  simp [Rows.uptoBulk]
theorem bulk_bound {H : Type} {l : List (DataW H)} (hk : Rows.uptoSmall H l = true) : Rows.uptoBulkAll l ≤ 1048576 := by
  simpa [Rows.uptoSmall] using hk

end Go.Proofs.YtfckelbdageenabGreatDoor
