/- C4T DText A6 L6K Open4 L6KUp -/
import Derived.Test.YtaliegkkdhkfcacGreatDoorG21
import Derived.Maps.StringElems
import Derived.WalkKit
import Derived.ProofKit
import Derived.OpenShut
import Derived.Lib.SmallJoins
import Derived.Test.YtaliegkkdhkfcacGreatDoorRows
import Derived.Test.YtaliegkkdhkfcacGreatDoorChecked
import Derived.Lay
import Derived.LaidOnce
import Derived.SizedLaws
import Derived.ChangeMaps5
import Derived.Deep.DeepHandedRow
import Derived.Deep.DeepWitnessRowRef
namespace Go.Proofs.YtaliegkkdhkfcacGreatDoor
open Go.RowKit Go.Deep Go.ChangeShapes Go.WideShapes

theorem textL_len4 {l : Lt} (h : TxT l.2.1 ∧ TxT l.2.2) : (textL l).length ≤ 2002 := by
  have h1 := h.1.2.2
  have h2 := h.2.2.2
  simp only [textL, List.length_append]
  split <;> simp <;> omega
end Go.Proofs.YtaliegkkdhkfcacGreatDoor

namespace Go.Proofs.YtaliegkkdhkfcacGreatDoor
open Go.RowKit Go.Deep Go.ChangeShapes Go.WideShapes Go.Maps
attribute [local go_sem ↓] Go.wp_at_zero Go.wp_at_succ

theorem keyed4 : Keyed Tryz.prog 4 := bool_keyed Tryz.underlying4
/-- A block that is a map of texts. -/
abbrev OMs (w : World) (b n : Nat) (D : MD) : Prop := w.ownsMap Tryz.prog 4 (plainElem (H := Unit) Tryz.prog 9) b n D
theorem oms_below {w w' : World} {b n : Nat} {D : MD} (h : OMs w b n D) (hb : Below w.heap.size w w') : OMs w' b n D := by
  have hlt := h.lt
  obtain ⟨es, clock, h1, h2⟩ := h
  exact ⟨es, clock, (hb.block b hlt).trans h1, h2⟩
def nS (D : Nat → Bool) : Nat := (D 4).toNat + (D 5).toNat
def TelS (Dm : MD) (D : Nat → Bool) : Prop := IsMap Dm ∧ (D 4 = true → Dm.atKey (.bool true) (.lit (.string [])) = .lit (.string [33, 61])) ∧ (D 5 = true → Dm.atKey (.bool false) (.lit (.string [])) = .lit (.string [61]))
def sgnB (yn : Bool) : ByteArray := if yn then ⟨#[33, 61]⟩ else ⟨#[61]⟩
theorem sgn_size (yn : Bool) : (sgnB yn).size ≤ 2 := by cases yn <;> decide
theorem sgnB_len (yn : Bool) : (sgnB yn).data.toList.length ≤ 2 := by cases yn <;> decide
theorem sgn_text (l : Lt) : (textT l.2.1.1 l.2.1.2 ++ (sgnB l.1).data.toList) ++ textT l.2.2.1 l.2.2.2 = textL l := by
  rw [textL, List.append_assoc]
  cases l.1 <;> rfl
structure RT (W : World) (B : Nat) (yn : Bool) (xa ya : Value) (TL TR : List UInt8) (D : Nat → Bool) (w : World) (s14 s15 s16 s17 s18 s19 s20 s21 s22 s23 s24 s25 s26 s6 : Value) : Prop where
  hb : Below W.heap.size W w
  h0 : D 0 = true → s14 = .pointer (some ⟨B, 1, none⟩)
  h1 : D 1 = true → s15 = xa
  h2 : D 2 = true → ∃ U : ByteArray, s16 = .string U ∧ U.data.toList = TL
  h3 : D 3 = true → ∃ (b : Nat) (Dm : MD), s17 = .map (some b) ∧ W.heap.size ≤ b ∧ OMs w b (nS D) Dm ∧ TelS Dm D
  h4 : D 3 = false → D 4 = false ∧ D 5 = false
  h5 : True
  h6 : D 6 = true → s18 = s17 ∧ D 3 = true ∧ D 4 = true ∧ D 5 = true
  h7 : D 7 = true → s19 = .pointer (some ⟨B, 0, none⟩)
  h8 : D 8 = true → s20 = .bool yn
  h9 : D 9 = true → s21 = .string (sgnB yn)
  h10 : D 10 = true → ∃ U : ByteArray, s22 = .string U ∧ U.data.toList = TL ++ (sgnB yn).data.toList
  h11 : D 11 = true → s23 = .pointer (some ⟨B, 4, none⟩)
  h12 : D 12 = true → s24 = ya
  h13 : D 13 = true → ∃ U : ByteArray, s25 = .string U ∧ U.data.toList = TR
  h14 : D 14 = true → ∃ U : ByteArray, s26 = .string U ∧ U.data.toList = (TL ++ (sgnB yn).data.toList) ++ TR
  h15 : D 15 = true → ∃ U : ByteArray, s6 = .string U ∧ U.data.toList = (TL ++ (sgnB yn).data.toList) ++ TR
section
variable {W : World} {B : Nat} {yn : Bool} {xa ya : Value} {TL TR : List UInt8} {D : Nat → Bool} {w w' : World} {s14 s15 s16 s17 s18 s19 s20 s21 s22 s23 s24 s25 s26 s6 : Value}
theorem RT.at0 (h : RT W B yn xa ya TL TR D w s14 s15 s16 s17 s18 s19 s20 s21 s22 s23 s24 s25 s26 s6) : RT W B yn xa ya TL TR (fun j => j == 0 || D j) w (.pointer (some ⟨B, 1, none⟩)) s15 s16 s17 s18 s19 s20 s21 s22 s23 s24 s25 s26 s6 :=
  ⟨h.hb, fun _ => rfl, h.h1, h.h2, h.h3, h.h4, h.h5, h.h6, h.h7, h.h8, h.h9, h.h10, h.h11, h.h12, h.h13, h.h14, h.h15⟩
theorem RT.at1 (h : RT W B yn xa ya TL TR D w s14 s15 s16 s17 s18 s19 s20 s21 s22 s23 s24 s25 s26 s6) : RT W B yn xa ya TL TR (fun j => j == 1 || D j) w s14 (xa) s16 s17 s18 s19 s20 s21 s22 s23 s24 s25 s26 s6 :=
  ⟨h.hb, h.h0, fun _ => rfl, h.h2, h.h3, h.h4, h.h5, h.h6, h.h7, h.h8, h.h9, h.h10, h.h11, h.h12, h.h13, h.h14, h.h15⟩
theorem RT.at2 (h : RT W B yn xa ya TL TR D w s14 s15 s16 s17 s18 s19 s20 s21 s22 s23 s24 s25 s26 s6) {U : ByteArray} (hU : U.data.toList = TL) (hb : Below w.heap.size w w') : RT W B yn xa ya TL TR (fun j => j == 2 || D j) w' s14 s15 (.string U) s17 s18 s19 s20 s21 s22 s23 s24 s25 s26 s6 :=
  ⟨below_step h.hb hb, h.h0, h.h1, fun _ => ⟨U, rfl, hU⟩, fun e => by
    obtain ⟨b, Dm, h1, h2, h3, h4⟩ := h.h3 e
    exact ⟨b, Dm, h1, h2, oms_below h3 hb, h4⟩, h.h4, h.h5, h.h6, h.h7, h.h8, h.h9, h.h10, h.h11, h.h12, h.h13, h.h14, h.h15⟩
theorem RT.at3 (h : RT W B yn xa ya TL TR D w s14 s15 s16 s17 s18 s19 s20 s21 s22 s23 s24 s25 s26 s6) (h3 : D 3 = false) : RT W B yn xa ya TL TR (fun j => j == 3 || D j) (w.alloc (.map #[] 0)) s14 s15 s16 (.map (some w.heap.size)) s18 s19 s20 s21 s22 s23 s24 s25 s26 s6 := by
  obtain ⟨d4, d5⟩ := h.h4 h3
  refine ⟨h.hb.alloc h.hb.size _, h.h0, h.h1, h.h2, fun _ => ⟨w.heap.size, .map [], rfl, h.hb.size, ?_, ?_⟩, fun e => absurd (show true = false from e) (by decide), trivial, fun e => ?_, h.h7, h.h8, h.h9, h.h10, h.h11, h.h12, h.h13, h.h14, h.h15⟩
  · have : nS (fun j => j == 3 || D j) = 0 := by
      show (D 4).toNat + (D 5).toNat = 0
      rw [d4, d5]; rfl
    rw [this]
    exact World.ownsMap_made _ _ _ _
  · exact ⟨isMap_empty, fun e => (by rw [show D 4 = true from e] at d4; cases d4), fun e => (by rw [show D 5 = true from e] at d5; cases d5)⟩
  · have := (h.h6 e).2.1
    rw [h3] at this
    cases this
theorem RT.at4 (h : RT W B yn xa ya TL TR D w s14 s15 s16 s17 s18 s19 s20 s21 s22 s23 s24 s25 s26 s6) (h3 : D 3 = true) (hD : D 4 = false) :
    ∃ (b : Nat) (w' : World), s17 = .map (some b) ∧ (Instr.mapUpdate 82 (.map (some b)) (.bool true) (.string ⟨#[33, 61]⟩)).run Tryz.prog w = .ok () w' ∧ RT W B yn xa ya TL TR (fun j => j == 4 || D j) w' s14 s15 s16 s17 s18 s19 s20 s21 s22 s23 s24 s25 s26 s6 := by
  obtain ⟨b, Dm, h1, h2, hO, hT⟩ := h.h3 h3
  have hnb : nS D < maxLen := by
    unfold nS maxLen
    have q : ∀ b : Bool, b.toNat ≤ 1 := fun b => by cases b <;> decide
    have := q (D 4)
    have := q (D 5)
    omega
  obtain ⟨w', hrun, hO', hg⟩ := hO.update keyed4 Tryz.underlying82 hnb (keyOf_bool_mk Tryz.underlying4 true) (plainElem_string Tryz.underlying9 (s := ⟨#[33, 61]⟩) (by unfold maxLen; decide))
  refine ⟨b, w', h1, hrun, ⟨h.hb.grown hg h.hb.size (fun j hj => by cases hj; exact h2), h.h0, h.h1, h.h2, fun _ => ⟨b, Dm.put (.bool true) (.lit (.string [33, 61])), h1, h2, ?_, ?_⟩, fun e => (by rw [show D 3 = false from e] at h3; cases h3), trivial, fun e => ?_, h.h7, h.h8, h.h9, h.h10, h.h11, h.h12, h.h13, h.h14, h.h15⟩⟩
  · have : nS (fun j => j == 4 || D j) = nS D + 1 := by
      show 1 + (D 5).toNat = nS D + 1
      unfold nS; rw [hD]; simp; omega
    rw [this]
    exact hO'
  · refine ⟨hT.1.put _ _, fun e => ?_, fun e => ?_⟩
    · exact atKey_put_same hT.1 (show WideAt.IsKeyLit (.bool true) from trivial) _ _
    · rw [atKey_put_other (by intro e; injection e with e; cases e)]; exact hT.2.2 e
  · obtain ⟨q1, q2, q3, q4⟩ := h.h6 e
    exact ⟨q1, q2, rfl, q4⟩
theorem RT.at5 (h : RT W B yn xa ya TL TR D w s14 s15 s16 s17 s18 s19 s20 s21 s22 s23 s24 s25 s26 s6) (h3 : D 3 = true) (hD : D 5 = false) :
    ∃ (b : Nat) (w' : World), s17 = .map (some b) ∧ (Instr.mapUpdate 82 (.map (some b)) (.bool false) (.string ⟨#[61]⟩)).run Tryz.prog w = .ok () w' ∧ RT W B yn xa ya TL TR (fun j => j == 5 || D j) w' s14 s15 s16 s17 s18 s19 s20 s21 s22 s23 s24 s25 s26 s6 := by
  obtain ⟨b, Dm, h1, h2, hO, hT⟩ := h.h3 h3
  have hnb : nS D < maxLen := by
    unfold nS maxLen
    have q : ∀ b : Bool, b.toNat ≤ 1 := fun b => by cases b <;> decide
    have := q (D 4)
    have := q (D 5)
    omega
  obtain ⟨w', hrun, hO', hg⟩ := hO.update keyed4 Tryz.underlying82 hnb (keyOf_bool_mk Tryz.underlying4 false) (plainElem_string Tryz.underlying9 (s := ⟨#[61]⟩) (by unfold maxLen; decide))
  refine ⟨b, w', h1, hrun, ⟨h.hb.grown hg h.hb.size (fun j hj => by cases hj; exact h2), h.h0, h.h1, h.h2, fun _ => ⟨b, Dm.put (.bool false) (.lit (.string [61])), h1, h2, ?_, ?_⟩, fun e => (by rw [show D 3 = false from e] at h3; cases h3), trivial, fun e => ?_, h.h7, h.h8, h.h9, h.h10, h.h11, h.h12, h.h13, h.h14, h.h15⟩⟩
  · have : nS (fun j => j == 5 || D j) = nS D + 1 := by
      show (D 4).toNat + 1 = nS D + 1
      unfold nS; rw [hD]; simp
    rw [this]
    exact hO'
  · refine ⟨hT.1.put _ _, fun e => ?_, fun e => ?_⟩
    · rw [atKey_put_other (by intro e; injection e with e; cases e)]; exact hT.2.1 e
    · exact atKey_put_same hT.1 (show WideAt.IsKeyLit (.bool false) from trivial) _ _
  · obtain ⟨q1, q2, q3, q4⟩ := h.h6 e
    exact ⟨q1, q2, q3, rfl⟩
theorem RT.at6 (h : RT W B yn xa ya TL TR D w s14 s15 s16 s17 s18 s19 s20 s21 s22 s23 s24 s25 s26 s6) (h3 : D 3 = true) (h4 : D 4 = true) (h5 : D 5 = true) : RT W B yn xa ya TL TR (fun j => j == 6 || D j) w s14 s15 s16 s17 (s17) s19 s20 s21 s22 s23 s24 s25 s26 s6 :=
  ⟨h.hb, h.h0, h.h1, h.h2, h.h3, h.h4, trivial, fun _ => ⟨rfl, h3, h4, h5⟩, h.h7, h.h8, h.h9, h.h10, h.h11, h.h12, h.h13, h.h14, h.h15⟩
theorem RT.at7 (h : RT W B yn xa ya TL TR D w s14 s15 s16 s17 s18 s19 s20 s21 s22 s23 s24 s25 s26 s6) : RT W B yn xa ya TL TR (fun j => j == 7 || D j) w s14 s15 s16 s17 s18 (.pointer (some ⟨B, 0, none⟩)) s20 s21 s22 s23 s24 s25 s26 s6 :=
  ⟨h.hb, h.h0, h.h1, h.h2, h.h3, h.h4, h.h5, h.h6, fun _ => rfl, h.h8, h.h9, h.h10, h.h11, h.h12, h.h13, h.h14, h.h15⟩
theorem RT.at8 (h : RT W B yn xa ya TL TR D w s14 s15 s16 s17 s18 s19 s20 s21 s22 s23 s24 s25 s26 s6) : RT W B yn xa ya TL TR (fun j => j == 8 || D j) w s14 s15 s16 s17 s18 s19 (.bool yn) s21 s22 s23 s24 s25 s26 s6 :=
  ⟨h.hb, h.h0, h.h1, h.h2, h.h3, h.h4, h.h5, h.h6, h.h7, fun _ => rfl, h.h9, h.h10, h.h11, h.h12, h.h13, h.h14, h.h15⟩
theorem RT.at9 (h : RT W B yn xa ya TL TR D w s14 s15 s16 s17 s18 s19 s20 s21 s22 s23 s24 s25 s26 s6) (h6 : D 6 = true) :
    ∃ b : Nat, s18 = .map (some b) ∧ (Instr.lookup 82 (.map (some b)) (.bool yn) false).run Tryz.prog w = .ok (.string (sgnB yn)) w ∧ RT W B yn xa ya TL TR (fun j => j == 9 || D j) w s14 s15 s16 s17 s18 s19 s20 (.string (sgnB yn)) s22 s23 s24 s25 s26 s6 := by
  obtain ⟨q1, q2, q3, q4⟩ := h.h6 h6
  obtain ⟨b, Dm, h1, h2, hO, hT⟩ := h.h3 q2
  obtain ⟨v, ps, hrun, hv⟩ := hO.lookup keyed4 Tryz.underlying82 (z := .string ⟨#[]⟩) (by kernel_rfl) (plainElem_string Tryz.underlying9 (s := ⟨#[]⟩) (by unfold maxLen; decide)) (keyOf_bool_mk Tryz.underlying4 yn)
  obtain ⟨s, rfl, hz, _⟩ := plainElem_string_inv Tryz.underlying9 hv
  have hs : s = sgnB yn := by
    simp only [Prod.mk.injEq] at hz
    have h2 := hz.1
    cases yn with
    | true => exact byte_eq (Lit.string.inj (DataW.lit.inj (h2.symm.trans (hT.2.1 q3))))
    | false => exact byte_eq (Lit.string.inj (DataW.lit.inj (h2.symm.trans (hT.2.2 q4))))
  subst hs
  exact ⟨b, q1.trans h1, hrun, ⟨h.hb, h.h0, h.h1, h.h2, h.h3, h.h4, trivial, h.h6, h.h7, h.h8, fun _ => rfl, h.h10, h.h11, h.h12, h.h13, h.h14, h.h15⟩⟩
theorem RT.at10 (h : RT W B yn xa ya TL TR D w s14 s15 s16 s17 s18 s19 s20 s21 s22 s23 s24 s25 s26 s6) {U : ByteArray} (hU : U.data.toList = TL ++ (sgnB yn).data.toList) : RT W B yn xa ya TL TR (fun j => j == 10 || D j) w s14 s15 s16 s17 s18 s19 s20 s21 (.string U) s23 s24 s25 s26 s6 :=
  ⟨h.hb, h.h0, h.h1, h.h2, h.h3, h.h4, h.h5, h.h6, h.h7, h.h8, h.h9, fun _ => ⟨U, rfl, hU⟩, h.h11, h.h12, h.h13, h.h14, h.h15⟩
theorem RT.at11 (h : RT W B yn xa ya TL TR D w s14 s15 s16 s17 s18 s19 s20 s21 s22 s23 s24 s25 s26 s6) : RT W B yn xa ya TL TR (fun j => j == 11 || D j) w s14 s15 s16 s17 s18 s19 s20 s21 s22 (.pointer (some ⟨B, 4, none⟩)) s24 s25 s26 s6 :=
  ⟨h.hb, h.h0, h.h1, h.h2, h.h3, h.h4, h.h5, h.h6, h.h7, h.h8, h.h9, h.h10, fun _ => rfl, h.h12, h.h13, h.h14, h.h15⟩
theorem RT.at12 (h : RT W B yn xa ya TL TR D w s14 s15 s16 s17 s18 s19 s20 s21 s22 s23 s24 s25 s26 s6) : RT W B yn xa ya TL TR (fun j => j == 12 || D j) w s14 s15 s16 s17 s18 s19 s20 s21 s22 s23 (ya) s25 s26 s6 :=
  ⟨h.hb, h.h0, h.h1, h.h2, h.h3, h.h4, h.h5, h.h6, h.h7, h.h8, h.h9, h.h10, h.h11, fun _ => rfl, h.h13, h.h14, h.h15⟩
theorem RT.at13 (h : RT W B yn xa ya TL TR D w s14 s15 s16 s17 s18 s19 s20 s21 s22 s23 s24 s25 s26 s6) {U : ByteArray} (hU : U.data.toList = TR) (hb : Below w.heap.size w w') : RT W B yn xa ya TL TR (fun j => j == 13 || D j) w' s14 s15 s16 s17 s18 s19 s20 s21 s22 s23 s24 (.string U) s26 s6 :=
  ⟨below_step h.hb hb, h.h0, h.h1, h.h2, fun e => by
    obtain ⟨b, Dm, h1, h2, h3, h4⟩ := h.h3 e
    exact ⟨b, Dm, h1, h2, oms_below h3 hb, h4⟩, h.h4, h.h5, h.h6, h.h7, h.h8, h.h9, h.h10, h.h11, h.h12, fun _ => ⟨U, rfl, hU⟩, h.h14, h.h15⟩
theorem RT.at14 (h : RT W B yn xa ya TL TR D w s14 s15 s16 s17 s18 s19 s20 s21 s22 s23 s24 s25 s26 s6) {U : ByteArray} (hU : U.data.toList = (TL ++ (sgnB yn).data.toList) ++ TR) : RT W B yn xa ya TL TR (fun j => j == 14 || D j) w s14 s15 s16 s17 s18 s19 s20 s21 s22 s23 s24 s25 (.string U) s6 :=
  ⟨h.hb, h.h0, h.h1, h.h2, h.h3, h.h4, h.h5, h.h6, h.h7, h.h8, h.h9, h.h10, h.h11, h.h12, h.h13, fun _ => ⟨U, rfl, hU⟩, h.h15⟩
theorem RT.at15 (h : RT W B yn xa ya TL TR D w s14 s15 s16 s17 s18 s19 s20 s21 s22 s23 s24 s25 s26 s6) {U : ByteArray} (hU : U.data.toList = (TL ++ (sgnB yn).data.toList) ++ TR) : RT W B yn xa ya TL TR (fun j => j == 15 || D j) w s14 s15 s16 s17 s18 s19 s20 s21 s22 s23 s24 s25 s26 (.string U) :=
  ⟨h.hb, h.h0, h.h1, h.h2, h.h3, h.h4, h.h5, h.h6, h.h7, h.h8, h.h9, h.h10, h.h11, h.h12, h.h13, h.h14, fun _ => ⟨U, rfl, hU⟩⟩
theorem RT.start (h : Below W.heap.size W w) : RT W B yn xa ya TL TR (fun _ => false) w s14 s15 s16 s17 s18 s19 s20 s21 s22 s23 s24 s25 s26 s6 :=
  ⟨h, fun e => (by cases e), fun e => (by cases e), fun e => (by cases e), fun e => (by cases e), fun _ => ⟨rfl, rfl⟩, trivial, fun e => (by cases e), fun e => (by cases e), fun e => (by cases e), fun e => (by cases e), fun e => (by cases e), fun e => (by cases e), fun e => (by cases e), fun e => (by cases e), fun e => (by cases e), fun e => (by cases e)⟩
end

theorem join_snoc {x : List UInt8} : ∀ {r : List (List UInt8)}, r ≠ [] → Lib.join (r ++ [x]) sepL = (Lib.join r sepL ++ sepL) ++ x
  | [], h => absurd rfl h
  | [y], _ => by
    show Lib.join (y :: x :: []) sepL = _
    rw [join_cons2, Lib.join_one, Lib.join_one, List.append_assoc]
  | y :: z :: r, _ => by
    show Lib.join (y :: z :: (r ++ [x])) sepL = _
    rw [join_cons2, join_cons2]
    have := join_snoc (x := x) (r := z :: r) (by simp)
    rw [List.cons_append] at this
    rw [this]
    simp only [List.append_assoc]
theorem textC_take {k : Cl} {j : Nat} {l : Lt} (h : k[j]? = some l) : textC (k.take (j + 1)) = if j = 0 then textL l else (textC (k.take j) ++ sepL) ++ textL l := by
  have hj : j < k.length := (List.getElem?_eq_some_iff.1 h).1
  have hl1 : ¬ (k.take (j + 1)).length = 0 := by rw [List.length_take]; omega
  rw [textC, if_neg hl1, List.take_add_one, h]
  by_cases h0 : j = 0
  · subst h0
    rw [if_pos rfl]
    simp [Lib.join_one]
  · rw [if_neg h0]
    have hl2 : ¬ (k.take j).length = 0 := by rw [List.length_take]; omega
    rw [textC, if_neg hl2]
    show Lib.join ((k.take j ++ [l]).map textL) sepL = _
    rw [List.map_append]
    exact join_snoc (fun e => hl2 (by rw [List.map_eq_nil_iff.1 e]; rfl))
theorem textC_le {k : Cl} (h : ∀ l ∈ k, TxT l.2.1 ∧ TxT l.2.2) : ∀ j, j ≤ k.length → (textC (k.take j)).length ≤ 2 + j * 2010
  | 0, _ => by simp [textC]
  | j + 1, hj => by
    have hy : k[j]? = some (k[j]'(by omega)) := by simp
    have ih := textC_le h j (by omega)
    have hl := textL_len4 (h _ (List.getElem_mem (by omega : j < k.length)))
    rw [textC_take hy]
    split
    · omega
    · simp only [List.length_append, List.length_cons, List.length_nil]
      omega

set_option maxRecDepth 100000 in
set_option maxHeartbeats 4000000 in
theorem textCR_any (k : Cl) (a : Value) (w : World) (hS : CIn w k a) (ht : ∀ l ∈ k, TxT l.2.1 ∧ TxT l.2.2) (hlen : k.length ≤ 1000) :
    Calls Tryz.prog 17 #[a] w fun e w' => ∃ D : ByteArray, e = .returned (.string D) ∧ D.data.toList = textC k ∧ Below w.heap.size w w' := by
  obtain ⟨a1, c1, b1, o1, rfl, had1, hlc1, hcm1, hF1⟩ := hS
  unfold maxLen at hcm1
  have HF1 := hide hF1
  have Ht := hide ht
  clear hF1 ht
  go_enter Tryz.func17, Tryz.ntmps17
  go_wp2_with fail
  go_loopw [3, 9] (fun s i wr => ∃ (j : Nat) (U : ByteArray), j ≤ k.length ∧ i = .int .i64 j ∧ s = .string U ∧ U.data.toList = textC (k.take j) ∧ Below w.heap.size w wr) (fun _ i _ => k.length - (intOf i).toNat)
  case atStart => exact ⟨0, _, Nat.zero_le _, rfl, rfl, rfl, Below.refl _ _⟩
  case round =>
    obtain ⟨j, U, hj, rfl, rfl, hU, hBr⟩ := hrel
    have HU := hide hU
    have hUs : U.size ≤ 2100000 := by rw [ba_size hU]; have := textC_le Ht.out j hj; omega
    clear hU
    by_cases hlt : j < k.length
    · have hlt' : (j : Int) < (k.length : Int) := by omega
      obtain ⟨⟨yn, ⟨⟨yv, yi⟩, yk⟩, ⟨yv', yi'⟩, yk'⟩, hy⟩ : ∃ y, k[j]? = some y := ⟨k[j]'hlt, by simp⟩
      obtain ⟨p0, p1, p2, ⟨u3, p3, hA⟩, p4, p5, u6, p6, hD⟩ := (HF1.out.below hBr).at hy
      have ha1 : a1 = some ⟨b1, o1, none⟩ := had1 (by omega)
      subst ha1
      have HA := hide hA
      have HD := hide hD
      obtain ⟨ya, yc, _, _, rfl, -, -, -, -⟩ := hA
      obtain ⟨za, zc, _, _, rfl, -, -, -, -⟩ := hD
      have hty := Ht.out _ (List.mem_of_getElem? hy)
      have Hl1 : Hid ((textT (yv, yi) yk).length ≤ 1000) := hty.1.2.2
      have Hl2 : Hid ((textT (yv', yi') yk').length ≤ 1000) := hty.2.2.2
      have Hty := hide hty
      have Htk := hide (textC_take hy)
      have Hsg : Hid ((textT (yv, yi) yk ++ (sgnB yn).data.toList) ++ textT (yv', yi') yk' = textL (yn, ((yv, yi), yk), ((yv', yi'), yk'))) := sgn_text (yn, ((yv, yi), yk), ((yv', yi'), yk'))
      have Hle : Hid ((textL (yn, ((yv, yi), yk), ((yv', yi'), yk'))).length ≤ 2002) := textL_len4 (l := (yn, ((yv, yi), yk), ((yv', yi'), yk'))) hty
      clear hy had1 hty
      simp only at *
      go_upto_region 5 with fail
      generalize hwa : wr.alloc (.cells #[.bool yn, .bool yv, .int .i64 yi, .slice ya (Fo.len yk) yc, .bool yv', .int .i64 yi', .slice za (Fo.len yk') zc] 57) = wa
      obtain ⟨g0, g1, g2, g3, g4, g5, g6, -, hba, hsa⟩ := lit_cells (T := 57) (x0 := .bool yn) (w := wr) (wr := wa) (x1 := .bool yv) (x2 := .int .i64 yi) (x3 := .slice ya (Fo.len yk) yc) (x4 := .bool yv') (x5 := .int .i64 yi') (x6 := .slice za (Fo.len yk') zc) (by rw [← hwa]; exact Below.refl _ _)
      have Hc1 := hide (fun (w' : World) (hb : Below wa.heap.size wa w') => textR_any (yv, yi) yk (.slice ya (Fo.len yk) yc) w' (HA.out.below (below_step hba hb)) Hty.out.1.1 Hty.out.1.2.1 (by have := Hl1.out; omega))
      have Hc2 := hide (fun (w' : World) (hb : Below wa.heap.size wa w') => textR_any (yv', yi') yk' (.slice za (Fo.len yk') zc) w' (HD.out.below (below_step hba hb)) Hty.out.2.1 Hty.out.2.2.1 (by have := Hl2.out; omega))
      simp only at Hc1 Hc2
      clear hwa p0 p1 p2 p3 p4 p5 p6
      go_cut [6] (fun s6 wx => ∃ V : ByteArray, s6 = .string V ∧ V.data.toList = textL (yn, ((yv, yi), yk), ((yv', yi'), yk')) ∧ Below wa.heap.size wa wx)
      case first =>
        refine region_inv (fun D a w' => ∃ s14 s15 s16 s17 s18 s19 s20 s21 s22 s23 s24 s25 s26 s6 : Value, a = ⟨#[.slice (some ⟨b1, o1, none⟩) k.length c1, undef, .string ⟨#[]⟩, .string U, .int .i64 j, .pointer (some ⟨wr.heap.size, 0, none⟩), s6, .slice (some ⟨b1, o1, none⟩) k.length c1, .int .i64 k.length, .int .i64 j, .bool true, .int .i64 j, .pointer (some ⟨b1, o1 + j * 7, none⟩), .agg #[.bool yn, .bool yv, .int .i64 yi, .slice ya (Fo.len yk) yc, .bool yv', .int .i64 yi', .slice za (Fo.len yk') zc], s14, s15, s16, s17, s18, s19, s20, s21, s22, s23, s24, s25, s26, u27, u28, u29, u30, u31, u32, u33, u34, undef], []⟩ ∧ RT wa wr.heap.size yn (.agg #[.bool yv, .int .i64 yi, .slice ya (Fo.len yk) yc]) (.agg #[.bool yv', .int .i64 yi', .slice za (Fo.len yk') zc]) (textT (yv, yi) yk) (textT (yv', yi') yk') D w' s14 s15 s16 s17 s18 s19 s20 s21 s22 s23 s24 s25 s26 s6) (by kernel_rfl) (by kernel_rfl) ?_ ?_ ⟨_, _, _, _, _, _, _, _, _, _, _, _, _, _, rfl, RT.start (Below.refl _ _).drew⟩
        · rintro D a w' i o hi ⟨s14, s15, s16, s17, s18, s19, s20, s21, s22, s23, s24, s25, s26, s6, rfl, hI⟩ hD ho hdep
          have HI := hide hI
          replace g0 := grow_cell hI.hb _ _ g0
          replace g1 := grow_cell hI.hb _ _ g1
          replace g2 := grow_cell hI.hb _ _ g2
          replace g3 := grow_cell hI.hb _ _ g3
          replace g4 := grow_cell hI.hb _ _ g4
          replace g5 := grow_cell hI.hb _ _ g5
          replace g6 := grow_cell hI.hb _ _ g6
          clear hI
          have hi' : i < 16 := hi
          clear hi
          rcases (by omega : i = 0 ∨ i = 1 ∨ i = 2 ∨ i = 3 ∨ i = 4 ∨ i = 5 ∨ i = 6 ∨ i = 7 ∨ i = 8 ∨ i = 9 ∨ i = 10 ∨ i = 11 ∨ i = 12 ∨ i = 13 ∨ i = 14 ∨ i = 15) with rfl | rfl | rfl | rfl | rfl | rfl | rfl | rfl | rfl | rfl | rfl | rfl | rfl | rfl | rfl | rfl
          · obtain rfl := Option.some.inj ho
            clear ho hdep hD
            refine wpOp_step rfl (fun K hK => ?_)
            go_simp
            exact hK _ _ ⟨_, _, _, _, _, _, _, _, _, _, _, _, _, _, rfl, HI.out.at0⟩
          · obtain rfl := Option.some.inj ho
            have d0 := HI.out.h0 (hdep ⟨0, .data⟩ (by simp) rfl)
            subst d0
            clear ho hdep hD
            refine wpOp_step rfl (fun K hK => ?_)
            go_simp
            exact hK _ _ ⟨_, _, _, _, _, _, _, _, _, _, _, _, _, _, rfl, HI.out.at1⟩
          · obtain rfl := Option.some.inj ho
            have d1 := HI.out.h1 (hdep ⟨1, .data⟩ (by simp) rfl)
            subst d1
            clear ho hdep hD
            refine wpOp_step rfl (fun K hK => ?_)
            go_simp
            refine (Hc1.out _ HI.out.hb).mono ?_
            rintro e w2 ⟨U, rfl, hU, hb2⟩
            exact hK _ _ ⟨_, _, _, _, _, _, _, _, _, _, _, _, _, _, rfl, HI.out.at2 hU hb2⟩
          · obtain rfl := Option.some.inj ho
            have HD := hide hD
            clear ho hdep hD
            have HI2 := hide (HI.out.at3 HD.out)
            refine wpOp_step rfl (fun K hK => ?_)
            go_simp
            exact hK _ _ ⟨_, _, _, _, _, _, _, _, _, _, _, _, _, _, rfl, HI2.out⟩
          · obtain rfl := Option.some.inj ho
            obtain ⟨bm, w2, rfl, hrun, hI2⟩ := HI.out.at4 (hdep ⟨3, .data⟩ (by simp) rfl) hD
            have HI2 := hide hI2
            clear hI2
            clear ho hdep hD
            refine wpOp_step rfl (fun K hK => ?_)
            go_simp
            exact hK _ _ ⟨_, _, _, _, _, _, _, _, _, _, _, _, _, _, rfl, HI2.out⟩
          · obtain rfl := Option.some.inj ho
            obtain ⟨bm, w2, rfl, hrun, hI2⟩ := HI.out.at5 (hdep ⟨3, .data⟩ (by simp) rfl) hD
            have HI2 := hide hI2
            clear hI2
            clear ho hdep hD
            refine wpOp_step rfl (fun K hK => ?_)
            go_simp
            exact hK _ _ ⟨_, _, _, _, _, _, _, _, _, _, _, _, _, _, rfl, HI2.out⟩
          · obtain rfl := Option.some.inj ho
            have HI2 := hide (HI.out.at6 (hdep ⟨3, .data⟩ (by simp) rfl) (hdep ⟨4, .data⟩ (by simp) rfl) (hdep ⟨5, .data⟩ (by simp) rfl))
            clear ho hdep hD
            refine wpOp_step rfl (fun K hK => ?_)
            go_simp
            exact hK _ _ ⟨_, _, _, _, _, _, _, _, _, _, _, _, _, _, rfl, HI2.out⟩
          · obtain rfl := Option.some.inj ho
            clear ho hdep hD
            refine wpOp_step rfl (fun K hK => ?_)
            go_simp
            exact hK _ _ ⟨_, _, _, _, _, _, _, _, _, _, _, _, _, _, rfl, HI.out.at7⟩
          · obtain rfl := Option.some.inj ho
            have d7 := HI.out.h7 (hdep ⟨7, .data⟩ (by simp) rfl)
            subst d7
            clear ho hdep hD
            refine wpOp_step rfl (fun K hK => ?_)
            go_simp
            exact hK _ _ ⟨_, _, _, _, _, _, _, _, _, _, _, _, _, _, rfl, HI.out.at8⟩
          · obtain rfl := Option.some.inj ho
            have d8 := HI.out.h8 (hdep ⟨8, .data⟩ (by simp) rfl)
            subst d8
            obtain ⟨bm, rfl, hrun, hI2⟩ := HI.out.at9 (hdep ⟨6, .data⟩ (by simp) rfl)
            have HI2 := hide hI2
            clear hI2
            clear ho hdep hD
            refine wpOp_step rfl (fun K hK => ?_)
            go_simp
            exact hK _ _ ⟨_, _, _, _, _, _, _, _, _, _, _, _, _, _, rfl, HI2.out⟩
          · obtain rfl := Option.some.inj ho
            have d2 := HI.out.h2 (hdep ⟨2, .data⟩ (by simp) rfl)
            have d9 := HI.out.h9 (hdep ⟨9, .data⟩ (by simp) rfl)
            subst d9
            obtain ⟨U, rfl, hU⟩ := d2
            have hUs : U.size ≤ 1000 := by rw [ba_size hU]; exact Hl1.out
            have hss := sgn_size yn
            have Hq : Hid ((U ++ sgnB yn).data.toList = textT (yv, yi) yk ++ (sgnB yn).data.toList) := by rw [Hid, ByteArray.data_append, Array.toList_append, hU]
            clear hU
            clear ho hdep hD
            refine wpOp_step rfl (fun K hK => ?_)
            go_simp
            rw [if_neg (by omega)]
            go_simp
            exact hK _ _ ⟨_, _, _, _, _, _, _, _, _, _, _, _, _, _, rfl, HI.out.at10 Hq.out⟩
          · obtain rfl := Option.some.inj ho
            clear ho hdep hD
            refine wpOp_step rfl (fun K hK => ?_)
            go_simp
            exact hK _ _ ⟨_, _, _, _, _, _, _, _, _, _, _, _, _, _, rfl, HI.out.at11⟩
          · obtain rfl := Option.some.inj ho
            have d11 := HI.out.h11 (hdep ⟨11, .data⟩ (by simp) rfl)
            subst d11
            clear ho hdep hD
            refine wpOp_step rfl (fun K hK => ?_)
            go_simp
            exact hK _ _ ⟨_, _, _, _, _, _, _, _, _, _, _, _, _, _, rfl, HI.out.at12⟩
          · obtain rfl := Option.some.inj ho
            have d12 := HI.out.h12 (hdep ⟨12, .data⟩ (by simp) rfl)
            subst d12
            clear ho hdep hD
            refine wpOp_step rfl (fun K hK => ?_)
            go_simp
            refine (Hc2.out _ HI.out.hb).mono ?_
            rintro e w2 ⟨U, rfl, hU, hb2⟩
            exact hK _ _ ⟨_, _, _, _, _, _, _, _, _, _, _, _, _, _, rfl, HI.out.at13 hU hb2⟩
          · obtain rfl := Option.some.inj ho
            have d10 := HI.out.h10 (hdep ⟨10, .data⟩ (by simp) rfl)
            have d13 := HI.out.h13 (hdep ⟨13, .data⟩ (by simp) rfl)
            obtain ⟨U, rfl, hU⟩ := d10
            obtain ⟨V, rfl, hV⟩ := d13
            have hUs : U.size ≤ 1002 := by rw [ba_size hU, List.length_append]; have := Hl1.out; have := sgnB_len yn; omega
            have hVs : V.size ≤ 1000 := by rw [ba_size hV]; exact Hl2.out
            have Hq : Hid ((U ++ V).data.toList = (textT (yv, yi) yk ++ (sgnB yn).data.toList) ++ textT (yv', yi') yk') := by rw [Hid, ByteArray.data_append, Array.toList_append, hU, hV]
            clear hU hV
            clear ho hdep hD
            refine wpOp_step rfl (fun K hK => ?_)
            go_simp
            rw [if_neg (by omega)]
            go_simp
            exact hK _ _ ⟨_, _, _, _, _, _, _, _, _, _, _, _, _, _, rfl, HI.out.at14 Hq.out⟩
          · obtain rfl := Option.some.inj ho
            have d14 := HI.out.h14 (hdep ⟨14, .data⟩ (by simp) rfl)
            obtain ⟨U, rfl, hU⟩ := d14
            have HU := hide hU
            clear hU
            clear ho hdep hD
            refine wpOp_step rfl (fun K hK => ?_)
            go_simp
            exact hK _ _ ⟨_, _, _, _, _, _, _, _, _, _, _, _, _, _, rfl, HI.out.at15 HU.out⟩
        · rintro D a w' ⟨s14, s15, s16, s17, s18, s19, s20, s21, s22, s23, s24, s25, s26, s6, rfl, hI⟩ hall
          have h15 := hI.h15 (hall 15 (by decide))
          obtain ⟨V, rfl, hV⟩ := h15
          have HVb := hide (And.intro hV hI.hb)
          clear hI hall hV
          go_wp2_with fail
          go_meet
          case rel => exact ⟨V, rfl, HVb.out.1.trans Hsg.out, HVb.out.2⟩
      case rest =>
        obtain ⟨V, rfl, hV, hbx⟩ := hcut
        generalize wc = wx at *
        have HV := hide hV
        have hVs : V.size ≤ 2002 := by rw [ba_size hV]; exact Hle.out
        have hBx := below_step hBr (below_step hba hbx)
        have hq1 : (U ++ (⟨#[32, 124, 32]⟩ : ByteArray)).size ≤ 2100003 := by rw [ByteArray.size_append]; show U.size + 3 ≤ _; omega
        clear hV hbx
        by_cases h0 : j = 0
        · have Hn : Hid (V.data.toList = textC (k.take (j + 1))) := by rw [Hid, Htk.out, if_pos h0, HV.out]
          subst h0
          go_wp2_with fail
          go_roundw
          case rel => exact ⟨1, V, by omega, by go_num, rfl, Hn.out, hBx⟩
          case measure => simp [intOf]; omega
        · have h0b : ((j : Int) == 0) = false := by simpa using h0
          have Hn : Hid ((U ++ (⟨#[32, 124, 32]⟩ : ByteArray) ++ V).data.toList = textC (k.take (j + 1))) := by
            rw [Hid, Htk.out, if_neg h0, ByteArray.data_append, ByteArray.data_append, Array.toList_append, Array.toList_append, HU.out, HV.out]
          clear h0
          go_wp2_with fail
          go_roundw
          case rel => exact ⟨j + 1, _, by omega, by go_num, rfl, Hn.out, hBx⟩
          case measure => simp [intOf]; omega
    · have Hfin : Hid (U.data.toList = textC k) := by
        have e : j = k.length := by omega
        have := HU.out
        rw [e, List.take_length] at this
        exact this
      clear had1
      go_wp2_with fail
      go_ret
      exact ⟨_, rfl, Hfin.out, hBr⟩

end Go.Proofs.YtaliegkkdhkfcacGreatDoor

namespace Go.Proofs.YtaliegkkdhkfcacGreatDoor
open Go.RowKit Go.Deep Go.ChangeShapes Go.WideShapes

/-- What Unify answers, reckoned where that takes no more than a hundred steps. -/
def mkU (V : Tm → Tm → Option Sb) (a b : Tm) : Option Sb := match runU 100 [] [(a, b)] with
  | some R => R
  | none => V a b
theorem uok_mk {V : Tm → Tm → Option Sb} (h : UOK V) : UOK (mkU V) := fun a b hi => by
  cases e : runU 100 [] [(a, b)] with
  | some R => exact ⟨100, by simp [mkU, e]⟩
  | none =>
    obtain ⟨n, hn⟩ := h a b hi
    exact ⟨n, by simp [mkU, e, hn]⟩
def tcc (x y : Tm) : Tm := ((false, 2), .node 0 0 x.1 x.2 (.node 0 0 y.1 y.2 .nil))
def a6a : Cl := [(true, vr 0, ta), (false, tb (vr 0), ta)]
def a6b : Cl := [(false, vr 0, ta), (false, tb (vr 1), ta)]
def a6c : Cl := [(false, tb ta, ta)]
def a6d : Cl := [(false, tcc (tb (vr 0)) (vr 0), ta)]
def a6e : Cl := [(false, tcc ta ta, ta)]
theorem a6p1 : parseC [0, 1, 2] [88, 48, 33, 61, 97, 32, 124, 32, 98, 40, 88, 48, 41, 61, 97] = (0, a6a) := by kernel_rfl
theorem a6p2 : parseC [0, 1, 2] [88, 48, 61, 97, 32, 124, 32, 98, 40, 88, 49, 41, 61, 97] = (0, a6b) := by kernel_rfl
theorem a6p3 : parseC [0, 1, 2] [98, 40, 97, 41, 61, 97] = (0, a6c) := by kernel_rfl
theorem a6p4 : parseC [0, 1, 2] [99, 40, 98, 40, 88, 48, 41, 44, 88, 48, 41, 61, 97] = (0, a6d) := by kernel_rfl
theorem a6r1 (V : Tm → Tm → Option Sb) : resTo (mkU V) a6a 2 = ([a6c], false) := by kernel_rfl
theorem a6r2 (V : Tm → Tm → Option Sb) : facTo (mkU V) a6b 2 = ([[(false, tb (vr 0), ta)], [(false, tb (vr 0), ta), (true, vr 1, tb (vr 0))]], false) := by kernel_rfl
theorem a6r3 (V : Tm → Tm → Option Sb) : supTo (mkU V) a6c (a6d.map (mapL (subT (ren 5)))) 1 = ([a6e], false) := by kernel_rfl
theorem a6x1 : textC a6c = [98, 40, 97, 41, 61, 97] := by kernel_rfl
theorem a6x2 : textC a6e = [99, 40, 97, 44, 97, 41, 61, 97] := by kernel_rfl
theorem a6w1 : wrongC [0, 1, 2] a6a = 0 := by kernel_rfl
theorem a6w2 : wrongC [0, 1, 2] a6b = 0 := by kernel_rfl
theorem a6w3 : wrongC [0, 1, 2] a6c = 0 := by kernel_rfl
theorem a6w4 : wrongC [0, 1, 2] a6d = 0 := by kernel_rfl
theorem a6w5 : wrongC [0, 1, 2] a6e = 0 := by kernel_rfl
theorem a6g1 : GC a6a := gc_rightN6 (s := [0, 1, 2]) (by decide) (by intro l hl; simp only [a6a, List.mem_cons, List.not_mem_nil, or_false] at hl; rcases hl with rfl | rfl <;> exact ⟨rfl, rfl⟩) a6w1
theorem a6g2 : GC a6b := gc_rightN6 (s := [0, 1, 2]) (by decide) (by intro l hl; simp only [a6b, List.mem_cons, List.not_mem_nil, or_false] at hl; rcases hl with rfl | rfl <;> exact ⟨rfl, rfl⟩) a6w2
theorem a6g3 : GC a6c := gc_rightN6 (s := [0, 1, 2]) (by decide) (by intro l hl; simp only [a6c, List.mem_cons, List.not_mem_nil, or_false] at hl; rcases hl with rfl; exact ⟨rfl, rfl⟩) a6w3
theorem a6g4 : GC a6d := gc_rightN6 (s := [0, 1, 2]) (by decide) (by intro l hl; simp only [a6d, List.mem_cons, List.not_mem_nil, or_false] at hl; rcases hl with rfl; exact ⟨rfl, rfl⟩) a6w4

set_option maxRecDepth 100000 in
set_option maxHeartbeats 1000000 in
theorem read6_any {L : ByteArray} {l : List UInt8} {c : Cl} (hL : L.data.toList = l) (h : parseC [0, 1, 2] l = (0, c)) (hl : l.length ≤ 1000) (w : World) :
    Calls Tryz.prog 16 #[.string L] w fun e w' => ∃ z1 z3, e = .returned (.slice z1 c.length z3) ∧ CIn w' c (.slice z1 c.length z3) ∧ Below w.heap.size w w' := by
  have Hp := hide h
  have HN0 : Hid (NIn (w.alloc (.cells #[.int .i64 0, .int .i64 1, .int .i64 2] 3)) [0, 1, 2] (.slice (some ⟨w.heap.size, 0, none⟩) 3 3)) := nin_lit (w := w) [0, 1, 2] (by decide) (by decide) 3
  have HL := hide hL
  have hz : L.size < 4294967281 := by rw [ba_size hL]; omega
  clear h hL
  go_enter Tryz.func16, Tryz.ntmps16
  go_wp2_with fail
  refine (parseCR_any [0, 1, 2] _ L _ HN0.out hz).mono ?_
  rintro e w2 ⟨z1, z2, z3, rfl, hC, hb⟩
  rw [HL.out, Hp.out] at hC ⊢
  have HC := hide hC
  have hB := below_box hb
  clear hC hb
  go_wp2_with fail
  go_ret
  obtain ⟨y1, y3, e⟩ := slice_of_cl HC.out
  have HC2 := HC.out
  rw [e] at HC2
  exact ⟨y1, y3, by rw [← e]; rfl, HC2, hB⟩

set_option maxRecDepth 100000 in
set_option maxHeartbeats 8000000 in
theorem alive6_any (w : World) : Calls Tryz.prog 5 #[] w fun e w' => e = .returned (.bool true) ∧ Below w.heap.size w w' := by
  obtain ⟨V, hV⟩ := uok_some
  have HU := hide (uok_mk hV)
  have hB : Below w.heap.size w w := Below.refl _ _
  clear hV
  go_enter Tryz.func5, Tryz.ntmps5
  go_wp2_with fail
  refine (read6_any rfl a6p1 (by decide) _).mono ?_
  rintro e w1 ⟨z1, z3, rfl, h1, hb⟩
  replace hB := below_step hB hb
  have Hr := hide (progResolve_any HU.out a6a _ w1 h1 a6g1.g12 (by decide))
  rw [show a6a.length = 2 from rfl, a6r1 V] at Hr
  clear h1 hb
  go_wp2_with fail
  refine Hr.out.mono ?_
  rintro e w2 ⟨va, rfl, hA, hb⟩
  replace hB := below_step hB hb
  obtain ⟨a1, a3, rfl⟩ := slice_of_cs hA
  have HA := hide hA
  clear hA hb Hr
  generalize w2 = wn at *
  clear w1
  go_wp2_with fail
  refine (read6_any rfl a6p2 (by decide) _).mono ?_
  rintro e w1 ⟨y1, y3, rfl, h1, hb⟩
  replace hB := below_step hB hb
  replace HA := hide (HA.out.below hb)
  have Hr := hide (progFactor_any HU.out a6b _ w1 h1 a6g2.g12 (by decide))
  rw [show a6b.length = 2 from rfl, a6r2 V] at Hr
  clear h1 hb
  go_wp2_with fail
  refine Hr.out.mono ?_
  rintro e w2 ⟨vb, rfl, hA, hb⟩
  replace hB := below_step hB hb
  replace HA := hide (HA.out.below hb)
  obtain ⟨b1, b3, rfl⟩ := slice_of_cs hA
  clear hA hb Hr
  generalize w2 = wm at *
  clear w1 wn
  go_wp2_with fail
  refine (read6_any rfl a6p3 (by decide) _).mono ?_
  rintro e w1 ⟨x1, x3, rfl, h1, hb⟩
  replace hB := below_step hB hb
  replace HA := hide (HA.out.below hb)
  have H1 := hide h1
  clear h1 hb
  go_wp2_with fail
  refine (read6_any rfl a6p4 (by decide) _).mono ?_
  rintro e w2 ⟨u1, u3, rfl, h2, hb⟩
  replace hB := below_step hB hb
  replace HA := hide (HA.out.below hb)
  have Hr := hide (progSup_any HU.out a6c _ a6d _ w2 (H1.out.below hb) a6g3.g12 (by decide) h2 (by decide) (gc_oknar a6g4) (ren_g12L a6g4))
  rw [show a6c.length = 1 from rfl, show a6d.length = 1 from rfl, a6r3 V] at Hr
  clear h2 hb H1
  simp only [show a6c.length = 1 from rfl, show a6d.length = 1 from rfl]
  go_wp2_with fail
  refine Hr.out.mono ?_
  rintro e w3 ⟨vc, rfl, hC, hb⟩
  replace hB := below_step hB hb
  replace HA := hide (HA.out.below hb)
  obtain ⟨c1, c3, rfl⟩ := slice_of_cs hC
  have HC := hide hC
  clear hC hb Hr
  generalize w3 = wk at *
  obtain ⟨qa, qk, qb, qo, hqe, hqa, -, -, hqF⟩ := HA.out
  simp only [Value.slice.injEq] at hqe
  have hq1 : a1 = some ⟨qb, qo, none⟩ := by rw [hqe.1]; exact hqa (by decide)
  subst hq1
  obtain ⟨av, q0, hAv⟩ := hqF 0 a6c rfl
  rw [Nat.add_zero] at q0
  obtain ⟨ra, rk, rb, ro, hre, hra, -, -, hrF⟩ := HC.out
  simp only [Value.slice.injEq] at hre
  have hr1 : c1 = some ⟨rb, ro, none⟩ := by rw [hre.1]; exact hra (by decide)
  subst hr1
  obtain ⟨cv, r0, hCv⟩ := hrF 0 a6e rfl
  rw [Nat.add_zero] at r0
  have HAv := hide hAv
  have HCv := hide hCv
  obtain ⟨e1, e3, rfl⟩ := slice_of_cl hAv
  obtain ⟨f1, f3, rfl⟩ := slice_of_cl hCv
  have Ht1 : Hid (Calls Tryz.prog 17 #[.slice e1 a6c.length e3] wk fun e w'' => e = .returned (.string ⟨#[98, 40, 97, 41, 61, 97]⟩) ∧ Below wk.heap.size wk w'') := by
    refine (textCR_any a6c _ wk HAv.out (txC_right (s := [0, 1, 2]) (by decide) (by decide) a6w3) (by decide)).mono ?_
    rintro e w2 ⟨D, rfl, hD, hb2⟩
    rw [a6x1] at hD
    exact ⟨by rw [byte_eq hD], hb2⟩
  have Ht2 : Hid (∀ w', Below wk.heap.size wk w' → Calls Tryz.prog 17 #[.slice f1 a6e.length f3] w' fun e w'' => e = .returned (.string ⟨#[99, 40, 97, 44, 97, 41, 61, 97]⟩) ∧ Below w'.heap.size w' w'') := fun w' hb => by
    refine (textCR_any a6e _ w' (HCv.out.below hb) (txC_right (s := [0, 1, 2]) (by decide) (by decide) a6w5) (by decide)).mono ?_
    rintro e w2 ⟨D, rfl, hD, hb2⟩
    rw [a6x2] at hD
    exact ⟨by rw [byte_eq hD], hb2⟩
  clear hqe hqa hqF hAv hre hra hrF hCv HA HC HAv HCv
  go_wp2_with fail
  refine Ht1.out.mono ?_
  rintro e w4 ⟨rfl, hb⟩
  have Hb := hide hb
  replace hB := below_step hB hb
  replace r0 := grow_cell hb _ _ r0
  clear hb q0 Ht1
  go_wp2_with fail
  refine (Ht2.out _ Hb.out).mono ?_
  rintro e w5 ⟨rfl, hb⟩
  replace hB := below_step hB hb
  clear hb r0 Ht2 Hb
  go_wp2_with fail
  go_ret
  exact ⟨rfl, hB⟩

end Go.Proofs.YtaliegkkdhkfcacGreatDoor

namespace Go.Proofs.YtaliegkkdhkfcacGreatDoor
open Go.RowKit Go.Deep Go.ChangeShapes Go.WideShapes
attribute [local go_sem ↓] Go.wp_at_zero Go.wp_at_succ

/-- Kept as they must be, each once. -/
def AllK (s : List Int) (cs : List Cl) : Prop := (∀ d ∈ cs, KeptR s d) ∧ cs.Pairwise (fun a b => sameC a b = false)
theorem allk_of {s : List Int} {Q : Cl → Prop} {st : List Cl × Bool} (h : StOK s Q st) : AllK s st.1 := ⟨fun d hd => (h.1 d hd).1, h.2⟩
theorem sameF_flip : ∀ F G : Fo, sameF F G = sameF G F
  | .nil, .nil => rfl
  | .nil, .node _ _ _ _ _ => rfl
  | .node _ _ _ _ _, .nil => rfl
  | .node _ _ x k r, .node _ _ y l t => by
    simp only [sameF]
    rw [sameF_flip k l, sameF_flip r t, BEq.comm (a := x.1), BEq.comm (a := x.2)]
theorem sameL_flip (a b : Lt) : sameL a b = sameL b a := by
  simp only [sameL, sameT]
  rw [sameF_flip a.2.1.2, sameF_flip a.2.2.2, BEq.comm (a := a.1), BEq.comm (a := a.2.1.1.1), BEq.comm (a := a.2.1.1.2), BEq.comm (a := a.2.2.1.1), BEq.comm (a := a.2.2.1.2)]
theorem sameC_flip : ∀ c d : Cl, sameC c d = sameC d c
  | [], [] => rfl
  | [], _ :: _ => rfl
  | _ :: _, [] => rfl
  | a :: c, b :: d => by rw [sameC, sameC, sameL_flip a b, sameC_flip c d]
theorem cls_ahead {n j c b o : Nat} (hj : j ≤ n) (hc : n ≤ c) (w : World) : (Instr.slice 31 (.slice (some ⟨b, o, none⟩) n c) none (some (.int .i64 (j : Int))) none).run Tryz.prog w = .ok (.slice (some ⟨b, o, none⟩) j c) w := by
  rw [run_slice_h (ht := by kernel_rfl) (h0 := by omega) (h2 := by omega)]
  have e : (sizeOf (Tryz.prog.elem 31)).run Tryz.prog w = .ok 1 w := by
    rw [show Tryz.prog.elem 31 = 25 by kernel_rfl]
    simp [go_sem]
  simp only [Result.andThen, sliced, e]
  simp [Addr.add]
theorem allk_not {s : List Int} {cs : List Cl} (h : AllK s cs) {i j : Nat} {a b : Cl} (hj : j < i) (ha : cs[i]? = some a) (hb : cs[j]? = some b) : sameC a b = false := by
  have hi := (List.getElem?_eq_some_iff.1 ha)
  have hj' := (List.getElem?_eq_some_iff.1 hb)
  have := List.pairwise_iff_getElem.1 h.2 j i hj'.1 hi.1 hj
  rw [hj'.2, hi.2] at this
  rw [sameC_flip]
  exact this

set_option maxRecDepth 100000 in
set_option maxHeartbeats 8000000 in
theorem rulesKept_of (s : List Int) (sv : Value) (c : Cl) (cv : Value) (d : Cl) (dv : Value) (w : World) (hN : NIn w s sv) (hC : CIn w c cv) (hD : CIn w d dv) (hnc : ∀ l ∈ c, Fo.norm l.2.1.2 = l.2.1.2 ∧ Fo.norm l.2.2.2 = l.2.2.2) (hnd : ∀ l ∈ d, Fo.norm l.2.1.2 = l.2.1.2 ∧ Fo.norm l.2.2.2 = l.2.2.2) :
    Calls Tryz.prog 4 #[sv, cv, dv] w fun e w' => e = .returned (.bool true) ∧ Below w.heap.size w w' := by
  obtain ⟨U, hU⟩ := uok_some
  have HU := hide hU
  have HN := hide hN
  have HC := hide hC
  have HD := hide hD
  obtain ⟨sa, sc, _, _, rfl, -, -, -, -⟩ := hN
  obtain ⟨c1, c3, rfl⟩ := slice_of_cl hC
  obtain ⟨d1, d3, rfl⟩ := slice_of_cl hD
  have Hnc := hide hnc
  have Hnd := hide hnd
  clear hU hC hD hnc hnd
  go_enter Tryz.func4, Tryz.ntmps4
  go_wp2_with fail
  refine (alive6_any w).mono ?_
  rintro e w1 ⟨rfl, hB⟩
  generalize w1 = wn at *
  obtain ⟨B, hBe⟩ : ∃ B, rightC s [c, d] = B := ⟨_, rfl⟩
  have HBe := hide hBe
  have Hr : Hid (∀ wn : World, Below w.heap.size w wn → Calls Tryz.prog 6 #[.slice sa s.length sc, .slice (some ⟨wn.heap.size, 0, none⟩) 2 2] (wn.alloc (.cells #[.slice c1 c.length c3, .slice d1 d.length d3] 25)) fun e w' => e = .returned (.bool B) ∧ Below wn.heap.size wn w') := fun wn hb => by
    refine (rightR_any s _ [c, d] _ _ ((HN.out.below hb).alloc _) (cs_two (T := 25) (HC.out.below hb) (HD.out.below hb))).mono ?_
    rintro e w' ⟨rfl, hb'⟩
    exact ⟨by rw [hBe], below_box hb'⟩
  clear hBe
  go_wp2_with fail
  refine (Hr.out _ hB).mono ?_
  rintro e w1 ⟨rfl, hb⟩
  replace hB := below_step hB hb
  clear hb Hr
  generalize w1 = wn at *
  cases B
  · go_wp2_with fail
    go_ret
    exact ⟨rfl, hB⟩
  · have Hrt := hide (rightC_iff.1 HBe.out)
    have Hs : Hid (s.all okNum = true) := (wsig_ok Hrt.out.1).1
    have hwc : wrongC s c = 0 := Hrt.out.2.2 c (by simp)
    have hwd : wrongC s d = 0 := Hrt.out.2.2 d (by simp)
    have Hwc := hide hwc
    have Hwd := hide hwd
    have Hgc := hide (gc_rightN6 Hs.out Hnc.out hwc)
    have Hgd := hide (gc_rightN6 Hs.out Hnd.out hwd)
    have Hl4 : Hid (c.length ≤ 4) := Hgc.out.1
    have Hl4d : Hid (d.length ≤ 4) := Hgd.out.1
    clear hwc hwd
    have Hok1 := hide (allk_of (res_ok HU.out Hs.out Hgc.out.g12 Hl4.out (sym_right Hwc.out) c.length))
    have Hok2 := hide (allk_of (fac_ok HU.out Hs.out Hgc.out.g12 Hl4.out (sym_right Hwc.out) c.length))
    have Hok3 := hide (allk_of (sup_ok HU.out Hs.out Hgc.out.g12 Hl4.out (sym_right Hwc.out) (ren_g12L Hgd.out) (by rw [List.length_map]; exact Hl4d.out) (sym_ren Hwd.out) c.length))
    go_wp2_with fail
    refine (progResolve_any HU.out c _ _ (HC.out.below hB) Hgc.out.g12 Hl4.out).mono ?_
    rintro e w1 ⟨va, rfl, hA, hb⟩
    replace hB := below_step hB hb
    obtain ⟨za1, za3, rfl⟩ := slice_of_cs hA
    have HAa := hide hA
    generalize resTo U c c.length = sta at *
    clear hA hb
    generalize w1 = wn at *
    go_wp2_with fail
    refine (progFactor_any HU.out c _ _ (HC.out.below hB) Hgc.out.g12 Hl4.out).mono ?_
    rintro e w1 ⟨vb, rfl, hA, hb⟩
    replace hB := below_step hB hb
    replace HAa := hide (HAa.out.below hb)
    obtain ⟨zb1, zb3, rfl⟩ := slice_of_cs hA
    have HAb := hide hA
    generalize facTo U c c.length = stb at *
    clear hA hb
    generalize w1 = wn at *
    go_wp2_with fail
    refine (progSup_any HU.out c _ d _ _ (HC.out.below hB) Hgc.out.g12 Hl4.out (HD.out.below hB) Hl4d.out (gc_oknar Hgd.out) (ren_g12L Hgd.out)).mono ?_
    rintro e w1 ⟨vx, rfl, hA, hb⟩
    replace hB := below_step hB hb
    replace HAa := hide (HAa.out.below hb)
    replace HAb := hide (HAb.out.below hb)
    obtain ⟨zx1, zx3, rfl⟩ := slice_of_cs hA
    have HAx := hide hA
    generalize supTo U c (d.map (mapL (subT (ren 5)))) c.length = stx at *
    clear hA hb
    generalize w1 = wn at *
    go_upto_region 9 with fail
    generalize hW0 : wn.alloc (.cells #[.slice za1 sta.1.length za3, .slice zb1 stb.1.length zb3, .slice zx1 stx.1.length zx3] 31) = W0
    have hb0 : Below wn.heap.size wn W0 := by rw [← hW0]; exact below_alloc _ _
    have Hall : Hid (∀ t, t < 3 → ∃ (cs : List Cl) (z1 : Option Addr) (z3 : Nat), W0.cell? ⟨wn.heap.size, t, none⟩ = some (.slice z1 cs.length z3) ∧ CsIn W0 cs (.slice z1 cs.length z3) ∧ AllK s cs) := fun t ht => by
      have h0 : t = 0 ∨ t = 1 ∨ t = 2 := by omega
      rcases h0 with rfl | rfl | rfl
      · exact ⟨sta.1, za1, za3, by rw [← hW0]; exact new_cell rfl, HAa.out.below hb0, Hok1.out⟩
      · exact ⟨stb.1, zb1, zb3, by rw [← hW0]; exact new_cell rfl, HAb.out.below hb0, Hok2.out⟩
      · exact ⟨stx.1, zx1, zx3, by rw [← hW0]; exact new_cell rfl, HAx.out.below hb0, Hok3.out⟩
    have hB0 := below_step hB hb0
    generalize wn.heap.size = bl at *
    clear hW0 hb0 HAa HAb HAx hB
    go_loopw [50] (fun q wr => ∃ t : Nat, t ≤ 3 ∧ q = .int .i64 t ∧ Below W0.heap.size W0 wr) (fun q _ => 3 - (intOf q).toNat)
    case atStart => exact ⟨0, by omega, rfl, Below.refl _ _⟩
    case round =>
      obtain ⟨t, ht, rfl, hBr⟩ := hrel
      by_cases htl : t < 3
      · have htl' : (t : Int) < 3 := by omega
        obtain ⟨cs, z1, z3, p0, hCs, hK⟩ := Hall.out t htl
        replace p0 := grow_cell hBr _ _ p0
        have HCs := hide hCs
        have HK := hide hK
        obtain ⟨a1, k1, gb, go, hce, had, hlc, hcm, hEl⟩ := hCs
        simp only [Value.slice.injEq, true_and] at hce
        obtain ⟨rfl, rfl⟩ := hce
        unfold maxLen at hcm
        have HEl := hide hEl
        clear hK hEl
        go_wp2_with fail
        generalize wr = wo at *
        go_loopw [56] (fun q wr => ∃ j : Nat, j ≤ cs.length ∧ q = .int .i64 j ∧ Below W0.heap.size W0 wr) (fun q _ => cs.length - (intOf q).toNat)
        case atStart => exact ⟨0, Nat.zero_le _, rfl, hBr⟩
        case round =>
          clear hBr p0
          obtain ⟨j, hj, rfl, hBr⟩ := hrel
          by_cases hlt : j < cs.length
          · have hlt' : (j : Int) < (cs.length : Int) := by omega
            have hj0 : (0 : Int) ≤ (j : Int) := by omega
            obtain ⟨x, hx⟩ : ∃ x, cs[j]? = some x := ⟨cs[j]'hlt, by simp⟩
            obtain ⟨xv, q0, hX⟩ := HEl.out j x hx
            replace q0 := grow_cell hBr _ _ q0
            have HX := hide hX
            obtain ⟨x1, x3, rfl⟩ := slice_of_cl hX
            have ha1 : z1 = some ⟨gb, go, none⟩ := had (by omega)
            subst ha1
            have Hx := hide hx
            have hkx := HK.out.1 x (List.mem_of_getElem? hx)
            have Hkx := hide hkx
            have hsl := fun w => cls_ahead (n := cs.length) (j := j) (c := z3) (b := gb) (o := go) (by omega) hlc w
            have hn := hkx.nm
            have Hno : Hid (∀ w', Below W0.heap.size W0 w' → Calls Tryz.prog 13 #[.slice x1 x.length x3] w' fun e w'' => ∃ y1 y3, e = .returned (.tuple #[.slice y1 x.length y3, .int .i64 0]) ∧ CIn w'' x (.slice y1 x.length y3) ∧ Below w'.heap.size w' w'') := fun w' hb => by
              refine (normD_any x _ w' (HX.out.below hb) hkx.gc).mono ?_
              rintro e w2 ⟨v, rfl, hC2, hb2⟩
              rw [hn] at hC2 ⊢
              obtain ⟨y1, y3, rfl⟩ := slice_of_cl hC2
              exact ⟨y1, y3, rfl, hC2, hb2⟩
            have Hwr : Hid (∀ w', Below W0.heap.size W0 w' → Calls Tryz.prog 15 #[.slice sa s.length sc, .slice x1 x.length x3] w' fun e w'' => e = .returned (.int .i64 0) ∧ Below w'.heap.size w' w'') := fun w' hb => by
              refine (wrongCR_any s _ x _ w' (HN.out.below (below_step hB0 hb)) (HX.out.below hb)).mono ?_
              rintro e w2 ⟨rfl, hb2⟩
              exact ⟨by rw [hkx.rt], hb2⟩
            clear hx hX hkx hn
            go_wp2_with fail
            refine (Hno.out _ hBr).mono ?_
            rintro e w5 ⟨y1, y3, rfl, hY, hb5⟩
            have hB5 := below_step hBr hb5
            have Hsa := hide (sameCR_any x x _ _ w5 (HX.out.below hB5) hY)
            rw [sameC_me] at Hsa
            clear hY hb5 Hno q0
            go_wp2_with fail
            refine Hsa.out.mono ?_
            rintro e w6 ⟨rfl, hb6⟩
            have hB6 := below_step hB5 hb6
            clear hb6 Hsa hB5
            go_wp2_with fail
            refine (Hwr.out _ hB6).mono ?_
            rintro e w7 ⟨rfl, hb7⟩
            have hB7 := below_step hB6 hb7
            clear hb7 Hwr hB6
            go_wp2_with fail
            clear hBr
            generalize wr = wo2 at *
            go_loopw [84] (fun q wr => ∃ k : Nat, k ≤ j ∧ q = .int .i64 k ∧ Below W0.heap.size W0 wr) (fun q _ => j - (intOf q).toNat)
            case atStart => exact ⟨0, Nat.zero_le _, rfl, hB7⟩
            case round =>
              clear hB7
              obtain ⟨k, hk, rfl, hBr⟩ := hrel
              by_cases hkl : k < j
              · have hkl' : (k : Int) < (j : Int) := by omega
                obtain ⟨y, hy⟩ : ∃ y, cs[k]? = some y := ⟨cs[k]'(by omega), by simp⟩
                obtain ⟨yv, r0, hY⟩ := HEl.out k y hy
                replace r0 := grow_cell hBr _ _ r0
                have HY := hide hY
                obtain ⟨v1, v3, rfl⟩ := slice_of_cl hY
                have Hsa := hide (sameCR_any x y _ _ wr (HX.out.below hBr) (HY.out.below hBr))
                rw [allk_not HK.out hkl Hx.out hy] at Hsa
                clear hy hY
                go_wp2_with fail
                refine Hsa.out.mono ?_
                rintro e w8 ⟨rfl, hb8⟩
                have hB8 := below_step hBr hb8
                clear hb8 Hsa r0 hBr
                go_wp2_with fail
                go_roundw
                case rel => exact ⟨k + 1, by omega, by go_num, hB8⟩
                case measure => simp [intOf]; omega
              · have hkj : k = j := by omega
                subst hkj
                go_wp2_with fail
                go_roundw
                case rel => exact ⟨k + 1, by omega, by go_num, hBr⟩
                case measure => simp [intOf]; omega
          · have hje : j = cs.length := by omega
            subst hje
            clear had
            go_wp2_with fail
            go_roundw
            case rel => exact ⟨t + 1, by omega, by go_num, hBr⟩
            case measure => simp [intOf]; omega
      · have ht3 : t = 3 := by omega
        subst ht3
        go_wp2_with fail
        go_ret
        exact ⟨rfl, below_step hB0 hBr⟩

end Go.Proofs.YtaliegkkdhkfcacGreatDoor

namespace Go.Proofs.YtaliegkkdhkfcacGreatDoor
open Go.ChangeShapes Go.WideShapes Go.ChangeAt Go.WideMaps Go.WideElems Go.RowKit Go.Deep Go.Joins

theorem Tryz.cells57 : Tryz.prog.cellsOf 57 = 7 := by kernel_rfl

section
variable {H : Type} {enc : TypeId × Value → H} {W : World} {sp : Nat → Bool} {held : Bool}

set_option maxRecDepth 100000 in
/-- A literal's seven cells. -/
theorem open_lit {fuel : Nat} {cs : List Value} {x : DataW H × List MemPlace} (h : DataW.trod enc Tryz.prog W 0 sp held fuel 57 cs = some x) :
    ∃ (l : Lt) (a d : Value), cs = litV l a d ∧ SIn W l.2.1.2 a ∧ SIn W l.2.2.2 d := by
  obtain ⟨xs, m, rfl, _, hl, hlen, hf⟩ := DataW.trod_struct Tryz.underlying57 h
  rw [Tryz.cells57] at hl
  match xs, hlen, cs, hl with
  | [y0, y1, y2], _, [c0, c1, c2, c3, c4, c5, c6], _ =>
    have q0 := hf 0 _ rfl
    have q1 := hf 1 _ rfl
    have q2 := hf 2 _ rfl
    simp [Tryz.cells4, Tryz.cells55] at q0 q1 q2
    obtain ⟨n, e0, _⟩ := DataW.trod_bool Tryz.underlying4 q0
    obtain ⟨v, z, a, m', y, _, e1, hy⟩ := open_term q1
    obtain ⟨k, hk⟩ := open_terms _ _ _ hy
    obtain ⟨v', z', a', m'', y', _, e2, hy'⟩ := open_term q2
    obtain ⟨k', hk'⟩ := open_terms _ _ _ hy'
    simp only [List.cons.injEq, and_true] at e0 e1 e2
    obtain ⟨rfl, rfl, rfl⟩ := e1
    obtain ⟨rfl, rfl, rfl⟩ := e2
    subst e0
    exact ⟨(n, ((v, z), k), ((v', z'), k')), c3, c6, rfl, hk, hk'⟩

theorem build_cl {b : Nat} : ∀ (n o : Nat), (∀ i, i < n → ∃ (l : Lt) (a d : Value), W.cell? ⟨b, o + 7 * i, none⟩ = some (.bool l.1) ∧ W.cell? ⟨b, o + 7 * i + 1, none⟩ = some (.bool l.2.1.1.1) ∧ W.cell? ⟨b, o + 7 * i + 2, none⟩ = some (.int .i64 l.2.1.1.2) ∧ W.cell? ⟨b, o + 7 * i + 3, none⟩ = some a ∧ W.cell? ⟨b, o + 7 * i + 4, none⟩ = some (.bool l.2.2.1.1) ∧ W.cell? ⟨b, o + 7 * i + 5, none⟩ = some (.int .i64 l.2.2.1.2) ∧ W.cell? ⟨b, o + 7 * i + 6, none⟩ = some d ∧ SIn W l.2.1.2 a ∧ SIn W l.2.2.2 d) → ∃ s : Cl, s.length = n ∧ LIn W s b o
  | 0, _, _ => ⟨[], rfl, trivial⟩
  | n + 1, o, h => by
    obtain ⟨s, hl, hP⟩ := build_cl n (o + 7) (fun i hi => by
      have := h (i + 1) (by omega)
      rw [show o + 7 * (i + 1) = o + 7 + 7 * i by omega] at this
      exact this)
    obtain ⟨l, a, d, h0, h1, h2, h3, h4, h5, h6, h7, h8⟩ := h 0 (by omega)
    exact ⟨l :: s, by simp [hl], ⟨by simpa using h0, by simpa using h1, by simpa using h2, ⟨a, by simpa using h3, h7⟩, by simpa using h4, by simpa using h5, d, by simpa using h6, h8⟩, hP⟩

set_option maxRecDepth 100000 in
/-- A clause by value. -/
theorem open_cl {r : Reach} {b0 : Nat} {v : Value} {d : DataW H} {p : List MemPlace} (hv : Value.okWide Tryz.prog W r b0 25 v) (h : DataW.Trod enc Tryz.prog W 0 sp held 25 v d p) : ∃ s : Cl, CIn W s v := by
  obtain ⟨a0, len0, cap0, rfl⟩ := okWide_slice Tryz.underlying25 hv
  obtain ⟨fuel, hf⟩ := h
  rcases DataW.trod_slice Tryz.underlying25 hf with ⟨hc, _⟩ | ⟨a, len, cap, elems, rest, n, hfuel, hc, _, _, hlc, hcm, hlen, hel, _, _⟩
  · simp [Value.cells] at hc
    obtain ⟨rfl, rfl, rfl⟩ := hc
    exact ⟨[], CIn.nil W⟩
  · simp [Value.cells] at hc
    obtain ⟨rfl, rfl, rfl⟩ := hc
    rw [Tryz.cells57] at hel
    obtain ⟨b, o, spot⟩ := a
    have hone : ∀ i, i < len0 → ∃ (l : Lt) (a d : Value), W.cell? ((⟨b, o, spot⟩ : Addr).add (i * 7)) = some (.bool l.1) ∧ W.cell? (((⟨b, o, spot⟩ : Addr).add (i * 7)).add 1) = some (.bool l.2.1.1.1) ∧ W.cell? (((⟨b, o, spot⟩ : Addr).add (i * 7)).add 2) = some (.int .i64 l.2.1.1.2) ∧ W.cell? (((⟨b, o, spot⟩ : Addr).add (i * 7)).add 3) = some a ∧ W.cell? (((⟨b, o, spot⟩ : Addr).add (i * 7)).add 4) = some (.bool l.2.2.1.1) ∧ W.cell? (((⟨b, o, spot⟩ : Addr).add (i * 7)).add 5) = some (.int .i64 l.2.2.1.2) ∧ W.cell? (((⟨b, o, spot⟩ : Addr).add (i * 7)).add 6) = some d ∧ SIn W l.2.1.2 a ∧ SIn W l.2.2.2 d := fun i hi => by
      have h1 := hel i hi
      have hi' : i < elems.length := by omega
      rw [List.getElem?_eq_getElem hi'] at h1
      obtain ⟨cs, h2, h3⟩ := Option.bind_eq_some_iff.1 h1
      obtain ⟨_, hl3, hcell⟩ := World.cells?_some h2
      obtain ⟨l, ta, td, rfl, hk, hk'⟩ := open_lit h3
      exact ⟨l, ta, td, by simpa [Addr.add] using hcell 0 (by omega), by simpa using hcell 1 (by omega), by simpa using hcell 2 (by omega), by simpa using hcell 3 (by omega), by simpa using hcell 4 (by omega), by simpa using hcell 5 (by omega), by simpa using hcell 6 (by omega), hk, hk'⟩
    by_cases h0 : len0 = 0
    · subst h0
      exact ⟨[], _, cap0, 0, 0, rfl, fun h => by simp at h, Nat.zero_le _, hcm, trivial⟩
    · have hspot : spot = none := by
        obtain ⟨x, v, _, q0, _⟩ := hone 0 (by omega)
        simpa [Addr.add] using World.cell?_spot q0
      subst hspot
      obtain ⟨s, hs1, hs2⟩ := build_cl (W := W) (b := b) len0 o (fun i hi => by
        obtain ⟨l, a, d, q0, q1, q2, q3, q4, q5, q6, q7, q8⟩ := hone i hi
        refine ⟨l, a, d, ?_, ?_, ?_, ?_, ?_, ?_, ?_, q7, q8⟩
        · rw [add_plain] at q0; rw [Nat.mul_comm 7 i]; exact q0
        · rw [add_plain, add_plain] at q1; rw [Nat.mul_comm 7 i]; exact q1
        · rw [add_plain, add_plain] at q2; rw [Nat.mul_comm 7 i]; exact q2
        · rw [add_plain, add_plain] at q3; rw [Nat.mul_comm 7 i]; exact q3
        · rw [add_plain, add_plain] at q4; rw [Nat.mul_comm 7 i]; exact q4
        · rw [add_plain, add_plain] at q5; rw [Nat.mul_comm 7 i]; exact q5
        · rw [add_plain, add_plain] at q6; rw [Nat.mul_comm 7 i]; exact q6)
      exact ⟨s, _, cap0, b, o, by rw [hs1], fun _ => rfl, by omega, hcm, hs2⟩

end

/-- The same clause, without what is no part of it. -/
def normCl (s : Cl) : Cl := s.map fun l => (l.1, (l.2.1.1, Fo.norm l.2.1.2), (l.2.2.1, Fo.norm l.2.2.2))
theorem lin_norm {w : World} : ∀ {s : Cl} {b o : Nat}, LIn w s b o → LIn w (normCl s) b o
  | [], _, _, _ => trivial
  | _ :: _, _, _, ⟨⟨h0, h1, h2, ⟨v, h3, h4⟩, h5, h6, u, h7, h8⟩, h9⟩ => ⟨⟨h0, h1, h2, ⟨v, h3, sin_norm h4⟩, h5, h6, u, h7, sin_norm h8⟩, lin_norm h9⟩
theorem cl_norm {w : World} {s : Cl} {v : Value} (h : CIn w s v) : CIn w (normCl s) v := by
  obtain ⟨a, c, b, o, rfl, h2, h3, h4, h5⟩ := h
  exact ⟨a, c, b, o, by simp [normCl], by simpa [normCl] using h2, by simpa [normCl] using h3, h4, lin_norm h5⟩
theorem normCl_norm {s : Cl} : ∀ l ∈ normCl s, Fo.norm l.2.1.2 = l.2.1.2 ∧ Fo.norm l.2.2.2 = l.2.2.2 := fun p hp => by
  simp only [normCl, List.mem_map] at hp
  obtain ⟨q, _, rfl⟩ := hp
  exact ⟨norm_norm _, norm_norm _⟩

end Go.Proofs.YtaliegkkdhkfcacGreatDoor

namespace Go.Proofs.YtaliegkkdhkfcacGreatDoor
open Go.ChangeMaps Go.ChangeShapes Go.WideShapes Go.ChangeAt Go.WideMaps Go.WideElems Go.RowKit Go.Deep Go.Joins

theorem own6K : ownKnob Tryz.prog.godebug = none := by kernel_rfl
theorem laidOut6K : laidOutB Tryz.prog = true := by kernel_rfl

set_option maxRecDepth 100000 in
theorem laid6K_met (os : Os) (args : Array Value) : laidMetH Tryz.prog Rows.rulesKeptRow.laid ((World.laidAll Tryz.prog os Rows.rulesKeptRow.laid).forCall (fun _ _ => 0) ⟨#[], args, []⟩).memory := by
  rw [MakeChecks.laidMetH_plain _ _ _ (by kernel_rfl)]
  exact laidMet_laidAll _ (by kernel_rfl) (by kernel_rfl)

theorem reads6K (os : Os) {H : Type} (enc : TypeId × Value → H) : ∃ places, DataW.whole enc Tryz.prog ((World.laidAll Tryz.prog os Rows.rulesKeptRow.laid).forCall (fun _ _ => 0) ⟨#[], #[.slice none 0 0, .slice none 0 0, .slice none 0 0], []⟩).memory Tryz.f4.params.toList Rows.rulesKeptSpec.vars false #[Value.slice none 0 0, .slice none 0 0, .slice none 0 0].toList 8 = some ([.nil, .nil, .nil], [], places) :=
  ⟨[], by kernel_rfl⟩

set_option maxRecDepth 100000 in
theorem contract6K (H : Type) (enc : TypeId × Value → H) (W : World) (base : Nat) (args : Array Value) (ds gs : List (DataW H)) (before : List MemPlace)
    (hval0 : ∀ (j : Nat) t v, Tryz.f4.params[j]? = some t → args[j]? = some v → Value.okWide Tryz.prog W .any base t v)
    (hW : DataW.Whole enc Tryz.prog Tryz.f4.params.toList Rows.rulesKeptSpec.vars false W args.toList ds gs before) :
    Calls Tryz.prog 4 args W fun e W' => ∃ v, e = .returned v ∧ Rows.rulesKeptSpec.post enc Tryz.prog Tryz.f4 false true false false W args v W' := by
  have hval : ∀ (j : Nat) t v, Tryz.f4.params[j]? = some t → args[j]? = some v → Value.okWide Tryz.prog W .any base t v := hval0
  have hW' := hW
  obtain ⟨p, q, hA0, hV, rfl, hfz, hnd⟩ := hW
  have hA : DataW.TrodAll enc Tryz.prog W 0 (fun _ => true) true Tryz.f4.params.toList args.toList ds p := hA0
  rw [Tryz.params4] at hA hval
  obtain ⟨v0, v1, v2, d0, d1, d2, p0, p1, p2, rfl, rfl, rfl, h0, h1, h2⟩ := trodAll_three hA
  obtain ⟨rfl, rfl⟩ := trodVars_none hV
  have lt0 : ∀ x ∈ p0, x.block < W.heap.size := by obtain ⟨m, hm⟩ := h0; exact DataW.trod_lt m _ _ _ hm
  have lt1 : ∀ x ∈ p1, x.block < W.heap.size := by obtain ⟨m, hm⟩ := h1; exact DataW.trod_lt m _ _ _ hm
  have lt2 : ∀ x ∈ p2, x.block < W.heap.size := by obtain ⟨m, hm⟩ := h2; exact DataW.trod_lt m _ _ _ hm
  have k0 := h0
  have k1 := h1
  have k2 := h2
  obtain ⟨s0, hN0⟩ := open_nums Tryz.underlying23 (hval 0 23 v0 rfl rfl) h0
  obtain ⟨c1, hC1⟩ := open_cl (hval 1 25 v1 rfl rfl) h1
  obtain ⟨c2, hC2⟩ := open_cl (hval 2 25 v2 rfl rfl) h2
  clear hA0 hval0
  refine (rulesKept_of s0 v0 (normCl c1) v1 (normCl c2) v2 W hN0 (cl_norm hC1) (cl_norm hC2) normCl_norm normCl_norm).mono fun e W' ⟨he, bel⟩ => ?_
  subst he
  exact ⟨_, rfl, _, _, _, [], _, [], hW', trodAll_mk1 (shut_bool Tryz.underlying4 _),
    (trodAll_mk3 (Below.trod laidOut6K (by kernel_rfl) (of_decide_eq_true (by kernel_rfl)) k0 bel lt0) (Below.trod laidOut6K (by kernel_rfl) (of_decide_eq_true (by kernel_rfl)) k1 bel lt1) (Below.trod laidOut6K (by kernel_rfl) (of_decide_eq_true (by kernel_rfl)) k2 bel lt2)), rfl, bel.frame _, fun h => by cases h⟩

set_option maxRecDepth 100000 in
theorem lifted6K (os : Os) (started : os.Started) (H : Type) (enc : TypeId × Value → H) (F : Stop.Interp) :
    ReturnsInHanded {} Tryz.checked os 4 .any ((OpenSpec.ofChange Rows.rulesKeptSpec).preRow enc Tryz.prog Tryz.f4 Rows.rulesKeptRow.domain false Rows.rulesKeptRow.laid) (((OpenSpec.ofChange Rows.rulesKeptSpec).at F).post enc Tryz.prog Tryz.f4 false true false false) := by
  obtain ⟨places, hx⟩ := reads6K os enc
  refine returnsInHanded_of_row (C := Tryz.checked) (s := OpenSpec.ofChange Rows.rulesKeptSpec) own6K started (by kernel_rfl) Tryz.func4
    (witness_row_atRef (enc := enc) (C := Tryz.checked) false (World.laidAll Tryz.prog os Rows.rulesKeptRow.laid) #[.slice none 0 0, .slice none 0 0, .slice none 0 0] (World.laidAll_os _ _ _) (by kernel_rfl) (by kernel_rfl) (by kernel_rfl)
      (OpenSpec.preRow_of_cond 8 hx (by kernel_rfl) (fun k hk => by cases hk) (by kernel_rfl) (laid6K_met os _))) ?_
  intro W base args ds gs before hval hW _ _ _ _ _ _
  exact contract6K H enc W base args ds gs before hval hW

theorem said6K : Rows.RulesKeptSaid :=
  OpenClaim.holds_of_cond 4 Tryz.f4 rfl rfl rfl rfl rfl rfl rfl ⟨rfl, rfl, rfl, rfl, rfl⟩ rfl rfl rfl rfl rfl (by kernel_rfl) Tryz.func4 (by kernel_rfl)
    (of_decide_eq_true (by kernel_rfl)) (by unfold Func.isWrapper; first | (rw [if_pos (by decide +kernel)]; kernel_rfl) | (rw [if_neg (by decide +kernel)]; exact ⟨rfl, rfl⟩))
    (fun os started H enc _ F => by rw [OpenClaim.pre_eq_preRow]; exact lifted6K os started H enc F)

end Go.Proofs.YtaliegkkdhkfcacGreatDoor
