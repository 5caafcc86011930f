/- C4T DText A6 CMw CMh L6H -/
import Derived.Test.YtaliegkkdhkfcacGreatDoorG20
import Derived.Maps.StringElems
namespace Go.Proofs.YtaliegkkdhkfcacGreatDoor
open Go.RowKit Go.Deep Go.ChangeShapes Go.WideShapes

theorem textL_len4 {l : Lt} (h : TxT l.2.1 ∧ TxT l.2.2) : (textL l).length ≤ 2002 := by
  have h1 := h.1.2.2
  have h2 := h.2.2.2
  simp only [textL, List.length_append]
  split <;> simp <;> omega
end Go.Proofs.YtaliegkkdhkfcacGreatDoor

namespace Go.Proofs.YtaliegkkdhkfcacGreatDoor
open Go.RowKit Go.Deep Go.ChangeShapes Go.WideShapes Go.Maps
attribute [local go_sem ↓] Go.wp_at_zero Go.wp_at_succ

theorem keyed4 : Keyed Tryz.prog 4 := bool_keyed Tryz.underlying4
/-- A block that is a map of texts. -/
abbrev OMs (w : World) (b n : Nat) (D : MD) : Prop := w.ownsMap Tryz.prog 4 (plainElem (H := Unit) Tryz.prog 9) b n D
theorem oms_below {w w' : World} {b n : Nat} {D : MD} (h : OMs w b n D) (hb : Below w.heap.size w w') : OMs w' b n D := by
  have hlt := h.lt
  obtain ⟨es, clock, h1, h2⟩ := h
  exact ⟨es, clock, (hb.block b hlt).trans h1, h2⟩
def nS (D : Nat → Bool) : Nat := (D 4).toNat + (D 5).toNat
def TelS (Dm : MD) (D : Nat → Bool) : Prop := IsMap Dm ∧ (D 4 = true → Dm.atKey (.bool true) (.lit (.string [])) = .lit (.string [33, 61])) ∧ (D 5 = true → Dm.atKey (.bool false) (.lit (.string [])) = .lit (.string [61]))
def sgnB (yn : Bool) : ByteArray := if yn then ⟨#[33, 61]⟩ else ⟨#[61]⟩
theorem sgn_size (yn : Bool) : (sgnB yn).size ≤ 2 := by cases yn <;> decide
theorem sgnB_len (yn : Bool) : (sgnB yn).data.toList.length ≤ 2 := by cases yn <;> decide
theorem sgn_text (l : Lt) : (textT l.2.1.1 l.2.1.2 ++ (sgnB l.1).data.toList) ++ textT l.2.2.1 l.2.2.2 = textL l := by
  rw [textL, List.append_assoc]
  cases l.1 <;> rfl
structure RT (W : World) (B : Nat) (yn : Bool) (xa ya : Value) (TL TR : List UInt8) (D : Nat → Bool) (w : World) (s14 s15 s16 s17 s18 s19 s20 s21 s22 s23 s24 s25 s26 s6 : Value) : Prop where
  hb : Below W.heap.size W w
  h0 : D 0 = true → s14 = .pointer (some ⟨B, 1, none⟩)
  h1 : D 1 = true → s15 = xa
  h2 : D 2 = true → ∃ U : ByteArray, s16 = .string U ∧ U.data.toList = TL
  h3 : D 3 = true → ∃ (b : Nat) (Dm : MD), s17 = .map (some b) ∧ W.heap.size ≤ b ∧ OMs w b (nS D) Dm ∧ TelS Dm D
  h4 : D 3 = false → D 4 = false ∧ D 5 = false
  h5 : True
  h6 : D 6 = true → s18 = s17 ∧ D 3 = true ∧ D 4 = true ∧ D 5 = true
  h7 : D 7 = true → s19 = .pointer (some ⟨B, 0, none⟩)
  h8 : D 8 = true → s20 = .bool yn
  h9 : D 9 = true → s21 = .string (sgnB yn)
  h10 : D 10 = true → ∃ U : ByteArray, s22 = .string U ∧ U.data.toList = TL ++ (sgnB yn).data.toList
  h11 : D 11 = true → s23 = .pointer (some ⟨B, 4, none⟩)
  h12 : D 12 = true → s24 = ya
  h13 : D 13 = true → ∃ U : ByteArray, s25 = .string U ∧ U.data.toList = TR
  h14 : D 14 = true → ∃ U : ByteArray, s26 = .string U ∧ U.data.toList = (TL ++ (sgnB yn).data.toList) ++ TR
  h15 : D 15 = true → ∃ U : ByteArray, s6 = .string U ∧ U.data.toList = (TL ++ (sgnB yn).data.toList) ++ TR
section
variable {W : World} {B : Nat} {yn : Bool} {xa ya : Value} {TL TR : List UInt8} {D : Nat → Bool} {w w' : World} {s14 s15 s16 s17 s18 s19 s20 s21 s22 s23 s24 s25 s26 s6 : Value}
theorem RT.at0 (h : RT W B yn xa ya TL TR D w s14 s15 s16 s17 s18 s19 s20 s21 s22 s23 s24 s25 s26 s6) : RT W B yn xa ya TL TR (fun j => j == 0 || D j) w (.pointer (some ⟨B, 1, none⟩)) s15 s16 s17 s18 s19 s20 s21 s22 s23 s24 s25 s26 s6 :=
  ⟨h.hb, fun _ => rfl, h.h1, h.h2, h.h3, h.h4, h.h5, h.h6, h.h7, h.h8, h.h9, h.h10, h.h11, h.h12, h.h13, h.h14, h.h15⟩
theorem RT.at1 (h : RT W B yn xa ya TL TR D w s14 s15 s16 s17 s18 s19 s20 s21 s22 s23 s24 s25 s26 s6) : RT W B yn xa ya TL TR (fun j => j == 1 || D j) w s14 (xa) s16 s17 s18 s19 s20 s21 s22 s23 s24 s25 s26 s6 :=
  ⟨h.hb, h.h0, fun _ => rfl, h.h2, h.h3, h.h4, h.h5, h.h6, h.h7, h.h8, h.h9, h.h10, h.h11, h.h12, h.h13, h.h14, h.h15⟩
theorem RT.at2 (h : RT W B yn xa ya TL TR D w s14 s15 s16 s17 s18 s19 s20 s21 s22 s23 s24 s25 s26 s6) {U : ByteArray} (hU : U.data.toList = TL) (hb : Below w.heap.size w w') : RT W B yn xa ya TL TR (fun j => j == 2 || D j) w' s14 s15 (.string U) s17 s18 s19 s20 s21 s22 s23 s24 s25 s26 s6 :=
  ⟨below_step h.hb hb, h.h0, h.h1, fun _ => ⟨U, rfl, hU⟩, fun e => by
    obtain ⟨b, Dm, h1, h2, h3, h4⟩ := h.h3 e
    exact ⟨b, Dm, h1, h2, oms_below h3 hb, h4⟩, h.h4, h.h5, h.h6, h.h7, h.h8, h.h9, h.h10, h.h11, h.h12, h.h13, h.h14, h.h15⟩
theorem RT.at3 (h : RT W B yn xa ya TL TR D w s14 s15 s16 s17 s18 s19 s20 s21 s22 s23 s24 s25 s26 s6) (h3 : D 3 = false) : RT W B yn xa ya TL TR (fun j => j == 3 || D j) (w.alloc (.map #[] 0)) s14 s15 s16 (.map (some w.heap.size)) s18 s19 s20 s21 s22 s23 s24 s25 s26 s6 := by
  obtain ⟨d4, d5⟩ := h.h4 h3
  refine ⟨h.hb.alloc h.hb.size _, h.h0, h.h1, h.h2, fun _ => ⟨w.heap.size, .map [], rfl, h.hb.size, ?_, ?_⟩, fun e => absurd (show true = false from e) (by decide), trivial, fun e => ?_, h.h7, h.h8, h.h9, h.h10, h.h11, h.h12, h.h13, h.h14, h.h15⟩
  · have : nS (fun j => j == 3 || D j) = 0 := by
      show (D 4).toNat + (D 5).toNat = 0
      rw [d4, d5]; rfl
    rw [this]
    exact World.ownsMap_made _ _ _ _
  · exact ⟨isMap_empty, fun e => (by rw [show D 4 = true from e] at d4; cases d4), fun e => (by rw [show D 5 = true from e] at d5; cases d5)⟩
  · have := (h.h6 e).2.1
    rw [h3] at this
    cases this
theorem RT.at4 (h : RT W B yn xa ya TL TR D w s14 s15 s16 s17 s18 s19 s20 s21 s22 s23 s24 s25 s26 s6) (h3 : D 3 = true) (hD : D 4 = false) :
    ∃ (b : Nat) (w' : World), s17 = .map (some b) ∧ (Instr.mapUpdate 82 (.map (some b)) (.bool true) (.string ⟨#[33, 61]⟩)).run Tryz.prog w = .ok () w' ∧ RT W B yn xa ya TL TR (fun j => j == 4 || D j) w' s14 s15 s16 s17 s18 s19 s20 s21 s22 s23 s24 s25 s26 s6 := by
  obtain ⟨b, Dm, h1, h2, hO, hT⟩ := h.h3 h3
  have hnb : nS D < maxLen := by
    unfold nS maxLen
    have q : ∀ b : Bool, b.toNat ≤ 1 := fun b => by cases b <;> decide
    have := q (D 4)
    have := q (D 5)
    omega
  obtain ⟨w', hrun, hO', hg⟩ := hO.update keyed4 Tryz.underlying82 hnb (keyOf_bool_mk Tryz.underlying4 true) (plainElem_string Tryz.underlying9 (s := ⟨#[33, 61]⟩) (by unfold maxLen; decide))
  refine ⟨b, w', h1, hrun, ⟨h.hb.grown hg h.hb.size (fun j hj => by cases hj; exact h2), h.h0, h.h1, h.h2, fun _ => ⟨b, Dm.put (.bool true) (.lit (.string [33, 61])), h1, h2, ?_, ?_⟩, fun e => (by rw [show D 3 = false from e] at h3; cases h3), trivial, fun e => ?_, h.h7, h.h8, h.h9, h.h10, h.h11, h.h12, h.h13, h.h14, h.h15⟩⟩
  · have : nS (fun j => j == 4 || D j) = nS D + 1 := by
      show 1 + (D 5).toNat = nS D + 1
      unfold nS; rw [hD]; simp; omega
    rw [this]
    exact hO'
  · refine ⟨hT.1.put _ _, fun e => ?_, fun e => ?_⟩
    · exact atKey_put_same hT.1 (show WideAt.IsKeyLit (.bool true) from trivial) _ _
    · rw [atKey_put_other (by intro e; injection e with e; cases e)]; exact hT.2.2 e
  · obtain ⟨q1, q2, q3, q4⟩ := h.h6 e
    exact ⟨q1, q2, rfl, q4⟩
theorem RT.at5 (h : RT W B yn xa ya TL TR D w s14 s15 s16 s17 s18 s19 s20 s21 s22 s23 s24 s25 s26 s6) (h3 : D 3 = true) (hD : D 5 = false) :
    ∃ (b : Nat) (w' : World), s17 = .map (some b) ∧ (Instr.mapUpdate 82 (.map (some b)) (.bool false) (.string ⟨#[61]⟩)).run Tryz.prog w = .ok () w' ∧ RT W B yn xa ya TL TR (fun j => j == 5 || D j) w' s14 s15 s16 s17 s18 s19 s20 s21 s22 s23 s24 s25 s26 s6 := by
  obtain ⟨b, Dm, h1, h2, hO, hT⟩ := h.h3 h3
  have hnb : nS D < maxLen := by
    unfold nS maxLen
    have q : ∀ b : Bool, b.toNat ≤ 1 := fun b => by cases b <;> decide
    have := q (D 4)
    have := q (D 5)
    omega
  obtain ⟨w', hrun, hO', hg⟩ := hO.update keyed4 Tryz.underlying82 hnb (keyOf_bool_mk Tryz.underlying4 false) (plainElem_string Tryz.underlying9 (s := ⟨#[61]⟩) (by unfold maxLen; decide))
  refine ⟨b, w', h1, hrun, ⟨h.hb.grown hg h.hb.size (fun j hj => by cases hj; exact h2), h.h0, h.h1, h.h2, fun _ => ⟨b, Dm.put (.bool false) (.lit (.string [61])), h1, h2, ?_, ?_⟩, fun e => (by rw [show D 3 = false from e] at h3; cases h3), trivial, fun e => ?_, h.h7, h.h8, h.h9, h.h10, h.h11, h.h12, h.h13, h.h14, h.h15⟩⟩
  · have : nS (fun j => j == 5 || D j) = nS D + 1 := by
      show (D 4).toNat + 1 = nS D + 1
      unfold nS; rw [hD]; simp
    rw [this]
    exact hO'
  · refine ⟨hT.1.put _ _, fun e => ?_, fun e => ?_⟩
    · rw [atKey_put_other (by intro e; injection e with e; cases e)]; exact hT.2.1 e
    · exact atKey_put_same hT.1 (show WideAt.IsKeyLit (.bool false) from trivial) _ _
  · obtain ⟨q1, q2, q3, q4⟩ := h.h6 e
    exact ⟨q1, q2, q3, rfl⟩
theorem RT.at6 (h : RT W B yn xa ya TL TR D w s14 s15 s16 s17 s18 s19 s20 s21 s22 s23 s24 s25 s26 s6) (h3 : D 3 = true) (h4 : D 4 = true) (h5 : D 5 = true) : RT W B yn xa ya TL TR (fun j => j == 6 || D j) w s14 s15 s16 s17 (s17) s19 s20 s21 s22 s23 s24 s25 s26 s6 :=
  ⟨h.hb, h.h0, h.h1, h.h2, h.h3, h.h4, trivial, fun _ => ⟨rfl, h3, h4, h5⟩, h.h7, h.h8, h.h9, h.h10, h.h11, h.h12, h.h13, h.h14, h.h15⟩
theorem RT.at7 (h : RT W B yn xa ya TL TR D w s14 s15 s16 s17 s18 s19 s20 s21 s22 s23 s24 s25 s26 s6) : RT W B yn xa ya TL TR (fun j => j == 7 || D j) w s14 s15 s16 s17 s18 (.pointer (some ⟨B, 0, none⟩)) s20 s21 s22 s23 s24 s25 s26 s6 :=
  ⟨h.hb, h.h0, h.h1, h.h2, h.h3, h.h4, h.h5, h.h6, fun _ => rfl, h.h8, h.h9, h.h10, h.h11, h.h12, h.h13, h.h14, h.h15⟩
theorem RT.at8 (h : RT W B yn xa ya TL TR D w s14 s15 s16 s17 s18 s19 s20 s21 s22 s23 s24 s25 s26 s6) : RT W B yn xa ya TL TR (fun j => j == 8 || D j) w s14 s15 s16 s17 s18 s19 (.bool yn) s21 s22 s23 s24 s25 s26 s6 :=
  ⟨h.hb, h.h0, h.h1, h.h2, h.h3, h.h4, h.h5, h.h6, h.h7, fun _ => rfl, h.h9, h.h10, h.h11, h.h12, h.h13, h.h14, h.h15⟩
theorem RT.at9 (h : RT W B yn xa ya TL TR D w s14 s15 s16 s17 s18 s19 s20 s21 s22 s23 s24 s25 s26 s6) (h6 : D 6 = true) :
    ∃ b : Nat, s18 = .map (some b) ∧ (Instr.lookup 82 (.map (some b)) (.bool yn) false).run Tryz.prog w = .ok (.string (sgnB yn)) w ∧ RT W B yn xa ya TL TR (fun j => j == 9 || D j) w s14 s15 s16 s17 s18 s19 s20 (.string (sgnB yn)) s22 s23 s24 s25 s26 s6 := by
  obtain ⟨q1, q2, q3, q4⟩ := h.h6 h6
  obtain ⟨b, Dm, h1, h2, hO, hT⟩ := h.h3 q2
  obtain ⟨v, ps, hrun, hv⟩ := hO.lookup keyed4 Tryz.underlying82 (z := .string ⟨#[]⟩) (by kernel_rfl) (plainElem_string Tryz.underlying9 (s := ⟨#[]⟩) (by unfold maxLen; decide)) (keyOf_bool_mk Tryz.underlying4 yn)
  obtain ⟨s, rfl, hz, _⟩ := plainElem_string_inv Tryz.underlying9 hv
  have hs : s = sgnB yn := by
    simp only [Prod.mk.injEq] at hz
    have h2 := hz.1
    cases yn with
    | true => exact byte_eq (Lit.string.inj (DataW.lit.inj (h2.symm.trans (hT.2.1 q3))))
    | false => exact byte_eq (Lit.string.inj (DataW.lit.inj (h2.symm.trans (hT.2.2 q4))))
  subst hs
  exact ⟨b, q1.trans h1, hrun, ⟨h.hb, h.h0, h.h1, h.h2, h.h3, h.h4, trivial, h.h6, h.h7, h.h8, fun _ => rfl, h.h10, h.h11, h.h12, h.h13, h.h14, h.h15⟩⟩
theorem RT.at10 (h : RT W B yn xa ya TL TR D w s14 s15 s16 s17 s18 s19 s20 s21 s22 s23 s24 s25 s26 s6) {U : ByteArray} (hU : U.data.toList = TL ++ (sgnB yn).data.toList) : RT W B yn xa ya TL TR (fun j => j == 10 || D j) w s14 s15 s16 s17 s18 s19 s20 s21 (.string U) s23 s24 s25 s26 s6 :=
  ⟨h.hb, h.h0, h.h1, h.h2, h.h3, h.h4, h.h5, h.h6, h.h7, h.h8, h.h9, fun _ => ⟨U, rfl, hU⟩, h.h11, h.h12, h.h13, h.h14, h.h15⟩
theorem RT.at11 (h : RT W B yn xa ya TL TR D w s14 s15 s16 s17 s18 s19 s20 s21 s22 s23 s24 s25 s26 s6) : RT W B yn xa ya TL TR (fun j => j == 11 || D j) w s14 s15 s16 s17 s18 s19 s20 s21 s22 (.pointer (some ⟨B, 4, none⟩)) s24 s25 s26 s6 :=
  ⟨h.hb, h.h0, h.h1, h.h2, h.h3, h.h4, h.h5, h.h6, h.h7, h.h8, h.h9, h.h10, fun _ => rfl, h.h12, h.h13, h.h14, h.h15⟩
theorem RT.at12 (h : RT W B yn xa ya TL TR D w s14 s15 s16 s17 s18 s19 s20 s21 s22 s23 s24 s25 s26 s6) : RT W B yn xa ya TL TR (fun j => j == 12 || D j) w s14 s15 s16 s17 s18 s19 s20 s21 s22 s23 (ya) s25 s26 s6 :=
  ⟨h.hb, h.h0, h.h1, h.h2, h.h3, h.h4, h.h5, h.h6, h.h7, h.h8, h.h9, h.h10, h.h11, fun _ => rfl, h.h13, h.h14, h.h15⟩
theorem RT.at13 (h : RT W B yn xa ya TL TR D w s14 s15 s16 s17 s18 s19 s20 s21 s22 s23 s24 s25 s26 s6) {U : ByteArray} (hU : U.data.toList = TR) (hb : Below w.heap.size w w') : RT W B yn xa ya TL TR (fun j => j == 13 || D j) w' s14 s15 s16 s17 s18 s19 s20 s21 s22 s23 s24 (.string U) s26 s6 :=
  ⟨below_step h.hb hb, h.h0, h.h1, h.h2, fun e => by
    obtain ⟨b, Dm, h1, h2, h3, h4⟩ := h.h3 e
    exact ⟨b, Dm, h1, h2, oms_below h3 hb, h4⟩, h.h4, h.h5, h.h6, h.h7, h.h8, h.h9, h.h10, h.h11, h.h12, fun _ => ⟨U, rfl, hU⟩, h.h14, h.h15⟩
theorem RT.at14 (h : RT W B yn xa ya TL TR D w s14 s15 s16 s17 s18 s19 s20 s21 s22 s23 s24 s25 s26 s6) {U : ByteArray} (hU : U.data.toList = (TL ++ (sgnB yn).data.toList) ++ TR) : RT W B yn xa ya TL TR (fun j => j == 14 || D j) w s14 s15 s16 s17 s18 s19 s20 s21 s22 s23 s24 s25 (.string U) s6 :=
  ⟨h.hb, h.h0, h.h1, h.h2, h.h3, h.h4, h.h5, h.h6, h.h7, h.h8, h.h9, h.h10, h.h11, h.h12, h.h13, fun _ => ⟨U, rfl, hU⟩, h.h15⟩
theorem RT.at15 (h : RT W B yn xa ya TL TR D w s14 s15 s16 s17 s18 s19 s20 s21 s22 s23 s24 s25 s26 s6) {U : ByteArray} (hU : U.data.toList = (TL ++ (sgnB yn).data.toList) ++ TR) : RT W B yn xa ya TL TR (fun j => j == 15 || D j) w s14 s15 s16 s17 s18 s19 s20 s21 s22 s23 s24 s25 s26 (.string U) :=
  ⟨h.hb, h.h0, h.h1, h.h2, h.h3, h.h4, h.h5, h.h6, h.h7, h.h8, h.h9, h.h10, h.h11, h.h12, h.h13, h.h14, fun _ => ⟨U, rfl, hU⟩⟩
theorem RT.start (h : Below W.heap.size W w) : RT W B yn xa ya TL TR (fun _ => false) w s14 s15 s16 s17 s18 s19 s20 s21 s22 s23 s24 s25 s26 s6 :=
  ⟨h, fun e => (by cases e), fun e => (by cases e), fun e => (by cases e), fun e => (by cases e), fun _ => ⟨rfl, rfl⟩, trivial, fun e => (by cases e), fun e => (by cases e), fun e => (by cases e), fun e => (by cases e), fun e => (by cases e), fun e => (by cases e), fun e => (by cases e), fun e => (by cases e), fun e => (by cases e), fun e => (by cases e)⟩
end

theorem join_snoc {x : List UInt8} : ∀ {r : List (List UInt8)}, r ≠ [] → Lib.join (r ++ [x]) sepL = (Lib.join r sepL ++ sepL) ++ x
  | [], h => absurd rfl h
  | [y], _ => by
    show Lib.join (y :: x :: []) sepL = _
    rw [join_cons2, Lib.join_one, Lib.join_one, List.append_assoc]
  | y :: z :: r, _ => by
    show Lib.join (y :: z :: (r ++ [x])) sepL = _
    rw [join_cons2, join_cons2]
    have := join_snoc (x := x) (r := z :: r) (by simp)
    rw [List.cons_append] at this
    rw [this]
    simp only [List.append_assoc]
theorem textC_take {k : Cl} {j : Nat} {l : Lt} (h : k[j]? = some l) : textC (k.take (j + 1)) = if j = 0 then textL l else (textC (k.take j) ++ sepL) ++ textL l := by
  have hj : j < k.length := (List.getElem?_eq_some_iff.1 h).1
  have hl1 : ¬ (k.take (j + 1)).length = 0 := by rw [List.length_take]; omega
  rw [textC, if_neg hl1, List.take_add_one, h]
  by_cases h0 : j = 0
  · subst h0
    rw [if_pos rfl]
    simp [Lib.join_one]
  · rw [if_neg h0]
    have hl2 : ¬ (k.take j).length = 0 := by rw [List.length_take]; omega
    rw [textC, if_neg hl2]
    show Lib.join ((k.take j ++ [l]).map textL) sepL = _
    rw [List.map_append]
    exact join_snoc (fun e => hl2 (by rw [List.map_eq_nil_iff.1 e]; rfl))
theorem textC_le {k : Cl} (h : ∀ l ∈ k, TxT l.2.1 ∧ TxT l.2.2) : ∀ j, j ≤ k.length → (textC (k.take j)).length ≤ 2 + j * 2010
  | 0, _ => by simp [textC]
  | j + 1, hj => by
    have hy : k[j]? = some (k[j]'(by omega)) := by simp
    have ih := textC_le h j (by omega)
    have hl := textL_len4 (h _ (List.getElem_mem (by omega : j < k.length)))
    rw [textC_take hy]
    split
    · omega
    · simp only [List.length_append, List.length_cons, List.length_nil]
      omega

set_option maxRecDepth 100000 in
set_option maxHeartbeats 4000000 in
theorem textCR_any (k : Cl) (a : Value) (w : World) (hS : CIn w k a) (ht : ∀ l ∈ k, TxT l.2.1 ∧ TxT l.2.2) (hlen : k.length ≤ 1000) :
    Calls Tryz.prog 17 #[a] w fun e w' => ∃ D : ByteArray, e = .returned (.string D) ∧ D.data.toList = textC k ∧ Below w.heap.size w w' := by
  obtain ⟨a1, c1, b1, o1, rfl, had1, hlc1, hcm1, hF1⟩ := hS
  unfold maxLen at hcm1
  have HF1 := hide hF1
  have Ht := hide ht
  clear hF1 ht
  go_enter Tryz.func17, Tryz.ntmps17
  go_wp2_with fail
  go_loopw [3, 9] (fun s i wr => ∃ (j : Nat) (U : ByteArray), j ≤ k.length ∧ i = .int .i64 j ∧ s = .string U ∧ U.data.toList = textC (k.take j) ∧ Below w.heap.size w wr) (fun _ i _ => k.length - (intOf i).toNat)
  case atStart => exact ⟨0, _, Nat.zero_le _, rfl, rfl, rfl, Below.refl _ _⟩
  case round =>
    obtain ⟨j, U, hj, rfl, rfl, hU, hBr⟩ := hrel
    have HU := hide hU
    have hUs : U.size ≤ 2100000 := by rw [ba_size hU]; have := textC_le Ht.out j hj; omega
    clear hU
    by_cases hlt : j < k.length
    · have hlt' : (j : Int) < (k.length : Int) := by omega
      obtain ⟨⟨yn, ⟨⟨yv, yi⟩, yk⟩, ⟨yv', yi'⟩, yk'⟩, hy⟩ : ∃ y, k[j]? = some y := ⟨k[j]'hlt, by simp⟩
      obtain ⟨p0, p1, p2, ⟨u3, p3, hA⟩, p4, p5, u6, p6, hD⟩ := (HF1.out.below hBr).at hy
      have ha1 : a1 = some ⟨b1, o1, none⟩ := had1 (by omega)
      subst ha1
      have HA := hide hA
      have HD := hide hD
      obtain ⟨ya, yc, _, _, rfl, -, -, -, -⟩ := hA
      obtain ⟨za, zc, _, _, rfl, -, -, -, -⟩ := hD
      have hty := Ht.out _ (List.mem_of_getElem? hy)
      have Hl1 : Hid ((textT (yv, yi) yk).length ≤ 1000) := hty.1.2.2
      have Hl2 : Hid ((textT (yv', yi') yk').length ≤ 1000) := hty.2.2.2
      have Hty := hide hty
      have Htk := hide (textC_take hy)
      have Hsg : Hid ((textT (yv, yi) yk ++ (sgnB yn).data.toList) ++ textT (yv', yi') yk' = textL (yn, ((yv, yi), yk), ((yv', yi'), yk'))) := sgn_text (yn, ((yv, yi), yk), ((yv', yi'), yk'))
      have Hle : Hid ((textL (yn, ((yv, yi), yk), ((yv', yi'), yk'))).length ≤ 2002) := textL_len4 (l := (yn, ((yv, yi), yk), ((yv', yi'), yk'))) hty
      clear hy had1 hty
      simp only at *
      go_upto_region 5 with fail
      generalize hwa : wr.alloc (.cells #[.bool yn, .bool yv, .int .i64 yi, .slice ya (Fo.len yk) yc, .bool yv', .int .i64 yi', .slice za (Fo.len yk') zc] 57) = wa
      obtain ⟨g0, g1, g2, g3, g4, g5, g6, -, hba, hsa⟩ := lit_cells (T := 57) (x0 := .bool yn) (w := wr) (wr := wa) (x1 := .bool yv) (x2 := .int .i64 yi) (x3 := .slice ya (Fo.len yk) yc) (x4 := .bool yv') (x5 := .int .i64 yi') (x6 := .slice za (Fo.len yk') zc) (by rw [← hwa]; exact Below.refl _ _)
      have Hc1 := hide (fun (w' : World) (hb : Below wa.heap.size wa w') => textR_any (yv, yi) yk (.slice ya (Fo.len yk) yc) w' (HA.out.below (below_step hba hb)) Hty.out.1.1 Hty.out.1.2.1 (by have := Hl1.out; omega))
      have Hc2 := hide (fun (w' : World) (hb : Below wa.heap.size wa w') => textR_any (yv', yi') yk' (.slice za (Fo.len yk') zc) w' (HD.out.below (below_step hba hb)) Hty.out.2.1 Hty.out.2.2.1 (by have := Hl2.out; omega))
      simp only at Hc1 Hc2
      clear hwa p0 p1 p2 p3 p4 p5 p6
      go_cut [6] (fun s6 wx => ∃ V : ByteArray, s6 = .string V ∧ V.data.toList = textL (yn, ((yv, yi), yk), ((yv', yi'), yk')) ∧ Below wa.heap.size wa wx)
      case first =>
        refine region_inv (fun D a w' => ∃ s14 s15 s16 s17 s18 s19 s20 s21 s22 s23 s24 s25 s26 s6 : Value, a = ⟨#[.slice (some ⟨b1, o1, none⟩) k.length c1, undef, .string ⟨#[]⟩, .string U, .int .i64 j, .pointer (some ⟨wr.heap.size, 0, none⟩), s6, .slice (some ⟨b1, o1, none⟩) k.length c1, .int .i64 k.length, .int .i64 j, .bool true, .int .i64 j, .pointer (some ⟨b1, o1 + j * 7, none⟩), .agg #[.bool yn, .bool yv, .int .i64 yi, .slice ya (Fo.len yk) yc, .bool yv', .int .i64 yi', .slice za (Fo.len yk') zc], s14, s15, s16, s17, s18, s19, s20, s21, s22, s23, s24, s25, s26, u27, u28, u29, u30, u31, u32, u33, u34, undef], []⟩ ∧ RT wa wr.heap.size yn (.agg #[.bool yv, .int .i64 yi, .slice ya (Fo.len yk) yc]) (.agg #[.bool yv', .int .i64 yi', .slice za (Fo.len yk') zc]) (textT (yv, yi) yk) (textT (yv', yi') yk') D w' s14 s15 s16 s17 s18 s19 s20 s21 s22 s23 s24 s25 s26 s6) (by kernel_rfl) (by kernel_rfl) ?_ ?_ ⟨_, _, _, _, _, _, _, _, _, _, _, _, _, _, rfl, RT.start (Below.refl _ _).drew⟩
        · rintro D a w' i o hi ⟨s14, s15, s16, s17, s18, s19, s20, s21, s22, s23, s24, s25, s26, s6, rfl, hI⟩ hD ho hdep
          have HI := hide hI
          replace g0 := grow_cell hI.hb _ _ g0
          replace g1 := grow_cell hI.hb _ _ g1
          replace g2 := grow_cell hI.hb _ _ g2
          replace g3 := grow_cell hI.hb _ _ g3
          replace g4 := grow_cell hI.hb _ _ g4
          replace g5 := grow_cell hI.hb _ _ g5
          replace g6 := grow_cell hI.hb _ _ g6
          clear hI
          have hi' : i < 16 := hi
          clear hi
          rcases (by omega : i = 0 ∨ i = 1 ∨ i = 2 ∨ i = 3 ∨ i = 4 ∨ i = 5 ∨ i = 6 ∨ i = 7 ∨ i = 8 ∨ i = 9 ∨ i = 10 ∨ i = 11 ∨ i = 12 ∨ i = 13 ∨ i = 14 ∨ i = 15) with rfl | rfl | rfl | rfl | rfl | rfl | rfl | rfl | rfl | rfl | rfl | rfl | rfl | rfl | rfl | rfl
          · obtain rfl := Option.some.inj ho
            clear ho hdep hD
            refine wpOp_step rfl (fun K hK => ?_)
            go_simp
            exact hK _ _ ⟨_, _, _, _, _, _, _, _, _, _, _, _, _, _, rfl, HI.out.at0⟩
          · obtain rfl := Option.some.inj ho
            have d0 := HI.out.h0 (hdep ⟨0, .data⟩ (by simp) rfl)
            subst d0
            clear ho hdep hD
            refine wpOp_step rfl (fun K hK => ?_)
            go_simp
            exact hK _ _ ⟨_, _, _, _, _, _, _, _, _, _, _, _, _, _, rfl, HI.out.at1⟩
          · obtain rfl := Option.some.inj ho
            have d1 := HI.out.h1 (hdep ⟨1, .data⟩ (by simp) rfl)
            subst d1
            clear ho hdep hD
            refine wpOp_step rfl (fun K hK => ?_)
            go_simp
            refine (Hc1.out _ HI.out.hb).mono ?_
            rintro e w2 ⟨U, rfl, hU, hb2⟩
            exact hK _ _ ⟨_, _, _, _, _, _, _, _, _, _, _, _, _, _, rfl, HI.out.at2 hU hb2⟩
          · obtain rfl := Option.some.inj ho
            have HD := hide hD
            clear ho hdep hD
            have HI2 := hide (HI.out.at3 HD.out)
            refine wpOp_step rfl (fun K hK => ?_)
            go_simp
            exact hK _ _ ⟨_, _, _, _, _, _, _, _, _, _, _, _, _, _, rfl, HI2.out⟩
          · obtain rfl := Option.some.inj ho
            obtain ⟨bm, w2, rfl, hrun, hI2⟩ := HI.out.at4 (hdep ⟨3, .data⟩ (by simp) rfl) hD
            have HI2 := hide hI2
            clear hI2
            clear ho hdep hD
            refine wpOp_step rfl (fun K hK => ?_)
            go_simp
            exact hK _ _ ⟨_, _, _, _, _, _, _, _, _, _, _, _, _, _, rfl, HI2.out⟩
          · obtain rfl := Option.some.inj ho
            obtain ⟨bm, w2, rfl, hrun, hI2⟩ := HI.out.at5 (hdep ⟨3, .data⟩ (by simp) rfl) hD
            have HI2 := hide hI2
            clear hI2
            clear ho hdep hD
            refine wpOp_step rfl (fun K hK => ?_)
            go_simp
            exact hK _ _ ⟨_, _, _, _, _, _, _, _, _, _, _, _, _, _, rfl, HI2.out⟩
          · obtain rfl := Option.some.inj ho
            have HI2 := hide (HI.out.at6 (hdep ⟨3, .data⟩ (by simp) rfl) (hdep ⟨4, .data⟩ (by simp) rfl) (hdep ⟨5, .data⟩ (by simp) rfl))
            clear ho hdep hD
            refine wpOp_step rfl (fun K hK => ?_)
            go_simp
            exact hK _ _ ⟨_, _, _, _, _, _, _, _, _, _, _, _, _, _, rfl, HI2.out⟩
          · obtain rfl := Option.some.inj ho
            clear ho hdep hD
            refine wpOp_step rfl (fun K hK => ?_)
            go_simp
            exact hK _ _ ⟨_, _, _, _, _, _, _, _, _, _, _, _, _, _, rfl, HI.out.at7⟩
          · obtain rfl := Option.some.inj ho
            have d7 := HI.out.h7 (hdep ⟨7, .data⟩ (by simp) rfl)
            subst d7
            clear ho hdep hD
            refine wpOp_step rfl (fun K hK => ?_)
            go_simp
            exact hK _ _ ⟨_, _, _, _, _, _, _, _, _, _, _, _, _, _, rfl, HI.out.at8⟩
          · obtain rfl := Option.some.inj ho
            have d8 := HI.out.h8 (hdep ⟨8, .data⟩ (by simp) rfl)
            subst d8
            obtain ⟨bm, rfl, hrun, hI2⟩ := HI.out.at9 (hdep ⟨6, .data⟩ (by simp) rfl)
            have HI2 := hide hI2
            clear hI2
            clear ho hdep hD
            refine wpOp_step rfl (fun K hK => ?_)
            go_simp
            exact hK _ _ ⟨_, _, _, _, _, _, _, _, _, _, _, _, _, _, rfl, HI2.out⟩
          · obtain rfl := Option.some.inj ho
            have d2 := HI.out.h2 (hdep ⟨2, .data⟩ (by simp) rfl)
            have d9 := HI.out.h9 (hdep ⟨9, .data⟩ (by simp) rfl)
            subst d9
            obtain ⟨U, rfl, hU⟩ := d2
            have hUs : U.size ≤ 1000 := by rw [ba_size hU]; exact Hl1.out
            have hss := sgn_size yn
            have Hq : Hid ((U ++ sgnB yn).data.toList = textT (yv, yi) yk ++ (sgnB yn).data.toList) := by rw [Hid, ByteArray.data_append, Array.toList_append, hU]
            clear hU
            clear ho hdep hD
            refine wpOp_step rfl (fun K hK => ?_)
            go_simp
            rw [if_neg (by omega)]
            go_simp
            exact hK _ _ ⟨_, _, _, _, _, _, _, _, _, _, _, _, _, _, rfl, HI.out.at10 Hq.out⟩
          · obtain rfl := Option.some.inj ho
            clear ho hdep hD
            refine wpOp_step rfl (fun K hK => ?_)
            go_simp
            exact hK _ _ ⟨_, _, _, _, _, _, _, _, _, _, _, _, _, _, rfl, HI.out.at11⟩
          · obtain rfl := Option.some.inj ho
            have d11 := HI.out.h11 (hdep ⟨11, .data⟩ (by simp) rfl)
            subst d11
            clear ho hdep hD
            refine wpOp_step rfl (fun K hK => ?_)
            go_simp
            exact hK _ _ ⟨_, _, _, _, _, _, _, _, _, _, _, _, _, _, rfl, HI.out.at12⟩
          · obtain rfl := Option.some.inj ho
            have d12 := HI.out.h12 (hdep ⟨12, .data⟩ (by simp) rfl)
            subst d12
            clear ho hdep hD
            refine wpOp_step rfl (fun K hK => ?_)
            go_simp
            refine (Hc2.out _ HI.out.hb).mono ?_
            rintro e w2 ⟨U, rfl, hU, hb2⟩
            exact hK _ _ ⟨_, _, _, _, _, _, _, _, _, _, _, _, _, _, rfl, HI.out.at13 hU hb2⟩
          · obtain rfl := Option.some.inj ho
            have d10 := HI.out.h10 (hdep ⟨10, .data⟩ (by simp) rfl)
            have d13 := HI.out.h13 (hdep ⟨13, .data⟩ (by simp) rfl)
            obtain ⟨U, rfl, hU⟩ := d10
            obtain ⟨V, rfl, hV⟩ := d13
            have hUs : U.size ≤ 1002 := by rw [ba_size hU, List.length_append]; have := Hl1.out; have := sgnB_len yn; omega
            have hVs : V.size ≤ 1000 := by rw [ba_size hV]; exact Hl2.out
            have Hq : Hid ((U ++ V).data.toList = (textT (yv, yi) yk ++ (sgnB yn).data.toList) ++ textT (yv', yi') yk') := by rw [Hid, ByteArray.data_append, Array.toList_append, hU, hV]
            clear hU hV
            clear ho hdep hD
            refine wpOp_step rfl (fun K hK => ?_)
            go_simp
            rw [if_neg (by omega)]
            go_simp
            exact hK _ _ ⟨_, _, _, _, _, _, _, _, _, _, _, _, _, _, rfl, HI.out.at14 Hq.out⟩
          · obtain rfl := Option.some.inj ho
            have d14 := HI.out.h14 (hdep ⟨14, .data⟩ (by simp) rfl)
            obtain ⟨U, rfl, hU⟩ := d14
            have HU := hide hU
            clear hU
            clear ho hdep hD
            refine wpOp_step rfl (fun K hK => ?_)
            go_simp
            exact hK _ _ ⟨_, _, _, _, _, _, _, _, _, _, _, _, _, _, rfl, HI.out.at15 HU.out⟩
        · rintro D a w' ⟨s14, s15, s16, s17, s18, s19, s20, s21, s22, s23, s24, s25, s26, s6, rfl, hI⟩ hall
          have h15 := hI.h15 (hall 15 (by decide))
          obtain ⟨V, rfl, hV⟩ := h15
          have HVb := hide (And.intro hV hI.hb)
          clear hI hall hV
          go_wp2_with fail
          go_meet
          case rel => exact ⟨V, rfl, HVb.out.1.trans Hsg.out, HVb.out.2⟩
      case rest =>
        obtain ⟨V, rfl, hV, hbx⟩ := hcut
        generalize wc = wx at *
        have HV := hide hV
        have hVs : V.size ≤ 2002 := by rw [ba_size hV]; exact Hle.out
        have hBx := below_step hBr (below_step hba hbx)
        have hq1 : (U ++ (⟨#[32, 124, 32]⟩ : ByteArray)).size ≤ 2100003 := by rw [ByteArray.size_append]; show U.size + 3 ≤ _; omega
        clear hV hbx
        by_cases h0 : j = 0
        · have Hn : Hid (V.data.toList = textC (k.take (j + 1))) := by rw [Hid, Htk.out, if_pos h0, HV.out]
          subst h0
          go_wp2_with fail
          go_roundw
          case rel => exact ⟨1, V, by omega, by go_num, rfl, Hn.out, hBx⟩
          case measure => simp [intOf]; omega
        · have h0b : ((j : Int) == 0) = false := by simpa using h0
          have Hn : Hid ((U ++ (⟨#[32, 124, 32]⟩ : ByteArray) ++ V).data.toList = textC (k.take (j + 1))) := by
            rw [Hid, Htk.out, if_neg h0, ByteArray.data_append, ByteArray.data_append, Array.toList_append, Array.toList_append, HU.out, HV.out]
          clear h0
          go_wp2_with fail
          go_roundw
          case rel => exact ⟨j + 1, _, by omega, by go_num, rfl, Hn.out, hBx⟩
          case measure => simp [intOf]; omega
    · have Hfin : Hid (U.data.toList = textC k) := by
        have e : j = k.length := by omega
        have := HU.out
        rw [e, List.take_length] at this
        exact this
      clear had1
      go_wp2_with fail
      go_ret
      exact ⟨_, rfl, Hfin.out, hBr⟩

end Go.Proofs.YtaliegkkdhkfcacGreatDoor

namespace Go.Proofs.YtaliegkkdhkfcacGreatDoor
open Go.RowKit Go.Deep Go.ChangeShapes Go.WideShapes

/-- What Unify answers, reckoned where that takes no more than a hundred steps. -/
def mkU (V : Tm → Tm → Option Sb) (a b : Tm) : Option Sb := match runU 100 [] [(a, b)] with
  | some R => R
  | none => V a b
theorem uok_mk {V : Tm → Tm → Option Sb} (h : UOK V) : UOK (mkU V) := fun a b hi => by
  cases e : runU 100 [] [(a, b)] with
  | some R => exact ⟨100, by simp [mkU, e]⟩
  | none =>
    obtain ⟨n, hn⟩ := h a b hi
    exact ⟨n, by simp [mkU, e, hn]⟩
def tcc (x y : Tm) : Tm := ((false, 2), .node 0 0 x.1 x.2 (.node 0 0 y.1 y.2 .nil))
def a6a : Cl := [(true, vr 0, ta), (false, tb (vr 0), ta)]
def a6b : Cl := [(false, vr 0, ta), (false, tb (vr 1), ta)]
def a6c : Cl := [(false, tb ta, ta)]
def a6d : Cl := [(false, tcc (tb (vr 0)) (vr 0), ta)]
def a6e : Cl := [(false, tcc ta ta, ta)]
theorem a6p1 : parseC [0, 1, 2] [88, 48, 33, 61, 97, 32, 124, 32, 98, 40, 88, 48, 41, 61, 97] = (0, a6a) := by kernel_rfl
theorem a6p2 : parseC [0, 1, 2] [88, 48, 61, 97, 32, 124, 32, 98, 40, 88, 49, 41, 61, 97] = (0, a6b) := by kernel_rfl
theorem a6p3 : parseC [0, 1, 2] [98, 40, 97, 41, 61, 97] = (0, a6c) := by kernel_rfl
theorem a6p4 : parseC [0, 1, 2] [99, 40, 98, 40, 88, 48, 41, 44, 88, 48, 41, 61, 97] = (0, a6d) := by kernel_rfl
theorem a6r1 (V : Tm → Tm → Option Sb) : resTo (mkU V) a6a 2 = ([a6c], false) := by kernel_rfl
theorem a6r2 (V : Tm → Tm → Option Sb) : facTo (mkU V) a6b 2 = ([[(false, tb (vr 0), ta)], [(false, tb (vr 0), ta), (true, vr 1, tb (vr 0))]], false) := by kernel_rfl
theorem a6r3 (V : Tm → Tm → Option Sb) : supTo (mkU V) a6c (a6d.map (mapL (subT (ren 5)))) 1 = ([a6e], false) := by kernel_rfl
theorem a6x1 : textC a6c = [98, 40, 97, 41, 61, 97] := by kernel_rfl
theorem a6x2 : textC a6e = [99, 40, 97, 44, 97, 41, 61, 97] := by kernel_rfl
theorem a6w1 : wrongC [0, 1, 2] a6a = 0 := by kernel_rfl
theorem a6w2 : wrongC [0, 1, 2] a6b = 0 := by kernel_rfl
theorem a6w3 : wrongC [0, 1, 2] a6c = 0 := by kernel_rfl
theorem a6w4 : wrongC [0, 1, 2] a6d = 0 := by kernel_rfl
theorem a6w5 : wrongC [0, 1, 2] a6e = 0 := by kernel_rfl
theorem a6g1 : GC a6a := gc_rightN6 (s := [0, 1, 2]) (by decide) (by intro l hl; simp only [a6a, List.mem_cons, List.not_mem_nil, or_false] at hl; rcases hl with rfl | rfl <;> exact ⟨rfl, rfl⟩) a6w1
theorem a6g2 : GC a6b := gc_rightN6 (s := [0, 1, 2]) (by decide) (by intro l hl; simp only [a6b, List.mem_cons, List.not_mem_nil, or_false] at hl; rcases hl with rfl | rfl <;> exact ⟨rfl, rfl⟩) a6w2
theorem a6g3 : GC a6c := gc_rightN6 (s := [0, 1, 2]) (by decide) (by intro l hl; simp only [a6c, List.mem_cons, List.not_mem_nil, or_false] at hl; rcases hl with rfl; exact ⟨rfl, rfl⟩) a6w3
theorem a6g4 : GC a6d := gc_rightN6 (s := [0, 1, 2]) (by decide) (by intro l hl; simp only [a6d, List.mem_cons, List.not_mem_nil, or_false] at hl; rcases hl with rfl; exact ⟨rfl, rfl⟩) a6w4

set_option maxRecDepth 100000 in
set_option maxHeartbeats 1000000 in
theorem read6_any {L : ByteArray} {l : List UInt8} {c : Cl} (hL : L.data.toList = l) (h : parseC [0, 1, 2] l = (0, c)) (hl : l.length ≤ 1000) (w : World) :
    Calls Tryz.prog 16 #[.string L] w fun e w' => ∃ z1 z3, e = .returned (.slice z1 c.length z3) ∧ CIn w' c (.slice z1 c.length z3) ∧ Below w.heap.size w w' := by
  have Hp := hide h
  have HN0 : Hid (NIn (w.alloc (.cells #[.int .i64 0, .int .i64 1, .int .i64 2] 3)) [0, 1, 2] (.slice (some ⟨w.heap.size, 0, none⟩) 3 3)) := nin_lit (w := w) [0, 1, 2] (by decide) (by decide) 3
  have HL := hide hL
  have hz : L.size < 4294967281 := by rw [ba_size hL]; omega
  clear h hL
  go_enter Tryz.func16, Tryz.ntmps16
  go_wp2_with fail
  refine (parseCR_any [0, 1, 2] _ L _ HN0.out hz).mono ?_
  rintro e w2 ⟨z1, z2, z3, rfl, hC, hb⟩
  rw [HL.out, Hp.out] at hC ⊢
  have HC := hide hC
  have hB := below_box hb
  clear hC hb
  go_wp2_with fail
  go_ret
  obtain ⟨y1, y3, e⟩ := slice_of_cl HC.out
  have HC2 := HC.out
  rw [e] at HC2
  exact ⟨y1, y3, by rw [← e]; rfl, HC2, hB⟩

set_option maxRecDepth 100000 in
set_option maxHeartbeats 8000000 in
theorem alive6_any (w : World) : Calls Tryz.prog 5 #[] w fun e w' => e = .returned (.bool true) ∧ Below w.heap.size w w' := by
  obtain ⟨V, hV⟩ := uok_some
  have HU := hide (uok_mk hV)
  have hB : Below w.heap.size w w := Below.refl _ _
  clear hV
  go_enter Tryz.func5, Tryz.ntmps5
  go_wp2_with fail
  refine (read6_any rfl a6p1 (by decide) _).mono ?_
  rintro e w1 ⟨z1, z3, rfl, h1, hb⟩
  replace hB := below_step hB hb
  have Hr := hide (progResolve_any HU.out a6a _ w1 h1 a6g1.g12 (by decide))
  rw [show a6a.length = 2 from rfl, a6r1 V] at Hr
  clear h1 hb
  go_wp2_with fail
  refine Hr.out.mono ?_
  rintro e w2 ⟨va, rfl, hA, hb⟩
  replace hB := below_step hB hb
  obtain ⟨a1, a3, rfl⟩ := slice_of_cs hA
  have HA := hide hA
  clear hA hb Hr
  generalize w2 = wn at *
  clear w1
  go_wp2_with fail
  refine (read6_any rfl a6p2 (by decide) _).mono ?_
  rintro e w1 ⟨y1, y3, rfl, h1, hb⟩
  replace hB := below_step hB hb
  replace HA := hide (HA.out.below hb)
  have Hr := hide (progFactor_any HU.out a6b _ w1 h1 a6g2.g12 (by decide))
  rw [show a6b.length = 2 from rfl, a6r2 V] at Hr
  clear h1 hb
  go_wp2_with fail
  refine Hr.out.mono ?_
  rintro e w2 ⟨vb, rfl, hA, hb⟩
  replace hB := below_step hB hb
  replace HA := hide (HA.out.below hb)
  obtain ⟨b1, b3, rfl⟩ := slice_of_cs hA
  clear hA hb Hr
  generalize w2 = wm at *
  clear w1 wn
  go_wp2_with fail
  refine (read6_any rfl a6p3 (by decide) _).mono ?_
  rintro e w1 ⟨x1, x3, rfl, h1, hb⟩
  replace hB := below_step hB hb
  replace HA := hide (HA.out.below hb)
  have H1 := hide h1
  clear h1 hb
  go_wp2_with fail
  refine (read6_any rfl a6p4 (by decide) _).mono ?_
  rintro e w2 ⟨u1, u3, rfl, h2, hb⟩
  replace hB := below_step hB hb
  replace HA := hide (HA.out.below hb)
  have Hr := hide (progSup_any HU.out a6c _ a6d _ w2 (H1.out.below hb) a6g3.g12 (by decide) h2 (by decide) (gc_oknar a6g4) (ren_g12L a6g4))
  rw [show a6c.length = 1 from rfl, show a6d.length = 1 from rfl, a6r3 V] at Hr
  clear h2 hb H1
  simp only [show a6c.length = 1 from rfl, show a6d.length = 1 from rfl]
  go_wp2_with fail
  refine Hr.out.mono ?_
  rintro e w3 ⟨vc, rfl, hC, hb⟩
  replace hB := below_step hB hb
  replace HA := hide (HA.out.below hb)
  obtain ⟨c1, c3, rfl⟩ := slice_of_cs hC
  have HC := hide hC
  clear hC hb Hr
  generalize w3 = wk at *
  obtain ⟨qa, qk, qb, qo, hqe, hqa, -, -, hqF⟩ := HA.out
  simp only [Value.slice.injEq] at hqe
  have hq1 : a1 = some ⟨qb, qo, none⟩ := by rw [hqe.1]; exact hqa (by decide)
  subst hq1
  obtain ⟨av, q0, hAv⟩ := hqF 0 a6c rfl
  rw [Nat.add_zero] at q0
  obtain ⟨ra, rk, rb, ro, hre, hra, -, -, hrF⟩ := HC.out
  simp only [Value.slice.injEq] at hre
  have hr1 : c1 = some ⟨rb, ro, none⟩ := by rw [hre.1]; exact hra (by decide)
  subst hr1
  obtain ⟨cv, r0, hCv⟩ := hrF 0 a6e rfl
  rw [Nat.add_zero] at r0
  have HAv := hide hAv
  have HCv := hide hCv
  obtain ⟨e1, e3, rfl⟩ := slice_of_cl hAv
  obtain ⟨f1, f3, rfl⟩ := slice_of_cl hCv
  have Ht1 : Hid (Calls Tryz.prog 17 #[.slice e1 a6c.length e3] wk fun e w'' => e = .returned (.string ⟨#[98, 40, 97, 41, 61, 97]⟩) ∧ Below wk.heap.size wk w'') := by
    refine (textCR_any a6c _ wk HAv.out (txC_right (s := [0, 1, 2]) (by decide) (by decide) a6w3) (by decide)).mono ?_
    rintro e w2 ⟨D, rfl, hD, hb2⟩
    rw [a6x1] at hD
    exact ⟨by rw [byte_eq hD], hb2⟩
  have Ht2 : Hid (∀ w', Below wk.heap.size wk w' → Calls Tryz.prog 17 #[.slice f1 a6e.length f3] w' fun e w'' => e = .returned (.string ⟨#[99, 40, 97, 44, 97, 41, 61, 97]⟩) ∧ Below w'.heap.size w' w'') := fun w' hb => by
    refine (textCR_any a6e _ w' (HCv.out.below hb) (txC_right (s := [0, 1, 2]) (by decide) (by decide) a6w5) (by decide)).mono ?_
    rintro e w2 ⟨D, rfl, hD, hb2⟩
    rw [a6x2] at hD
    exact ⟨by rw [byte_eq hD], hb2⟩
  clear hqe hqa hqF hAv hre hra hrF hCv HA HC HAv HCv
  go_wp2_with fail
  refine Ht1.out.mono ?_
  rintro e w4 ⟨rfl, hb⟩
  have Hb := hide hb
  replace hB := below_step hB hb
  replace r0 := grow_cell hb _ _ r0
  clear hb q0 Ht1
  go_wp2_with fail
  refine (Ht2.out _ Hb.out).mono ?_
  rintro e w5 ⟨rfl, hb⟩
  replace hB := below_step hB hb
  clear hb r0 Ht2 Hb
  go_wp2_with fail
  go_ret
  exact ⟨rfl, hB⟩

end Go.Proofs.YtaliegkkdhkfcacGreatDoor

namespace Go.Proofs.YtaliegkkdhkfcacGreatDoor
open Go.RowKit Go.Deep Go.ChangeShapes Go.WideShapes
attribute [local go_sem ↓] Go.wp_at_zero Go.wp_at_succ

theorem tri_cell {w : World} {m : Nat} {z : Int} (hm : m < 3) : (w.alloc (.cells #[.int .i64 1, .int .i64 z, .int .i64 (z * z)] 3)).cell? ⟨w.heap.size, m, none⟩ = some (.int .i64 (mlen z m)) := by
  rcases (by omega : m = 0 ∨ m = 1 ∨ m = 2) with rfl | rfl | rfl <;> exact (new_cell rfl).trans (by simp [mlen])
structure R6m (W : World) (B tk tq j m : Nat) (z : Int) (TV PV : Value) (q : Nat) (D : Nat → Bool) (w : World) (s32 s33 s34 s35 s36 s37 s38 s39 s40 s41 s42 s43 s44 s45 s46 s47 s48 s49 : Value) : Prop where
  hb : Below W.heap.size W w
  h0 : D 0 = true → s32 = .pointer (some ⟨B, 1, none⟩)
  h1 : D 1 = true → s33 = TV
  h2 : D 2 = true → s34 = .int .i64 j
  h3 : D 3 = true → s35 = .pointer (some ⟨tk, tq + j, none⟩)
  h4 : D 4 = true → s36 = PV
  h5 : D 5 = true → s37 = .int .i64 q
  h6 : D 6 = true → s38 = .pointer (some ⟨B, 0, none⟩)
  h7 : D 7 = true → s39 = .int .i64 z
  h8 : D 8 = true → s40 = .pointer (some ⟨B, 0, none⟩)
  h9 : D 9 = true → s41 = .int .i64 z
  h10 : D 10 = true → s42 = .pointer (some ⟨B, 0, none⟩)
  h11 : D 11 = true → s43 = .int .i64 z
  h12 : D 12 = true → s44 = .int .i64 (z * z)
  h13 : D 13 = true → ∃ g, s45 = .slice (some ⟨g, 0, none⟩) 3 3 ∧ w.cell? ⟨g, m, none⟩ = some (.int .i64 (mlen z m))
  h14 : D 14 = true → s46 = .int .i64 m
  h15 : D 15 = true → ∃ g, s47 = .pointer (some ⟨g, m, none⟩) ∧ w.cell? ⟨g, m, none⟩ = some (.int .i64 (mlen z m))
  h16 : D 16 = true → s48 = .int .i64 (mlen z m)
  h17 : D 17 = true → s49 = .bool ((q : Int) != mlen z m)
section
variable {W : World} {B tk tq j m : Nat} {z : Int} {TV PV : Value} {q : Nat} {D : Nat → Bool} {w w' : World} {s32 s33 s34 s35 s36 s37 s38 s39 s40 s41 s42 s43 s44 s45 s46 s47 s48 s49 : Value}
theorem R6m.at0 (h : R6m W B tk tq j m z TV PV q D w s32 s33 s34 s35 s36 s37 s38 s39 s40 s41 s42 s43 s44 s45 s46 s47 s48 s49) : R6m W B tk tq j m z TV PV q (fun j => j == 0 || D j) w (.pointer (some ⟨B, 1, none⟩)) s33 s34 s35 s36 s37 s38 s39 s40 s41 s42 s43 s44 s45 s46 s47 s48 s49 :=
  ⟨h.hb, fun _ => rfl, h.h1, h.h2, h.h3, h.h4, h.h5, h.h6, h.h7, h.h8, h.h9, h.h10, h.h11, h.h12, h.h13, h.h14, h.h15, h.h16, h.h17⟩
theorem R6m.at1 (h : R6m W B tk tq j m z TV PV q D w s32 s33 s34 s35 s36 s37 s38 s39 s40 s41 s42 s43 s44 s45 s46 s47 s48 s49) : R6m W B tk tq j m z TV PV q (fun j => j == 1 || D j) w s32 (TV) s34 s35 s36 s37 s38 s39 s40 s41 s42 s43 s44 s45 s46 s47 s48 s49 :=
  ⟨h.hb, h.h0, fun _ => rfl, h.h2, h.h3, h.h4, h.h5, h.h6, h.h7, h.h8, h.h9, h.h10, h.h11, h.h12, h.h13, h.h14, h.h15, h.h16, h.h17⟩
theorem R6m.at2 (h : R6m W B tk tq j m z TV PV q D w s32 s33 s34 s35 s36 s37 s38 s39 s40 s41 s42 s43 s44 s45 s46 s47 s48 s49) : R6m W B tk tq j m z TV PV q (fun j => j == 2 || D j) w s32 s33 (.int .i64 j) s35 s36 s37 s38 s39 s40 s41 s42 s43 s44 s45 s46 s47 s48 s49 :=
  ⟨h.hb, h.h0, h.h1, fun _ => rfl, h.h3, h.h4, h.h5, h.h6, h.h7, h.h8, h.h9, h.h10, h.h11, h.h12, h.h13, h.h14, h.h15, h.h16, h.h17⟩
theorem R6m.at3 (h : R6m W B tk tq j m z TV PV q D w s32 s33 s34 s35 s36 s37 s38 s39 s40 s41 s42 s43 s44 s45 s46 s47 s48 s49) : R6m W B tk tq j m z TV PV q (fun j => j == 3 || D j) w s32 s33 s34 (.pointer (some ⟨tk, tq + j, none⟩)) s36 s37 s38 s39 s40 s41 s42 s43 s44 s45 s46 s47 s48 s49 :=
  ⟨h.hb, h.h0, h.h1, h.h2, fun _ => rfl, h.h4, h.h5, h.h6, h.h7, h.h8, h.h9, h.h10, h.h11, h.h12, h.h13, h.h14, h.h15, h.h16, h.h17⟩
theorem R6m.at4 (h : R6m W B tk tq j m z TV PV q D w s32 s33 s34 s35 s36 s37 s38 s39 s40 s41 s42 s43 s44 s45 s46 s47 s48 s49) : R6m W B tk tq j m z TV PV q (fun j => j == 4 || D j) w s32 s33 s34 s35 (PV) s37 s38 s39 s40 s41 s42 s43 s44 s45 s46 s47 s48 s49 :=
  ⟨h.hb, h.h0, h.h1, h.h2, h.h3, fun _ => rfl, h.h5, h.h6, h.h7, h.h8, h.h9, h.h10, h.h11, h.h12, h.h13, h.h14, h.h15, h.h16, h.h17⟩
theorem R6m.at5 (h : R6m W B tk tq j m z TV PV q D w s32 s33 s34 s35 s36 s37 s38 s39 s40 s41 s42 s43 s44 s45 s46 s47 s48 s49) : R6m W B tk tq j m z TV PV q (fun j => j == 5 || D j) w s32 s33 s34 s35 s36 (.int .i64 q) s38 s39 s40 s41 s42 s43 s44 s45 s46 s47 s48 s49 :=
  ⟨h.hb, h.h0, h.h1, h.h2, h.h3, h.h4, fun _ => rfl, h.h6, h.h7, h.h8, h.h9, h.h10, h.h11, h.h12, h.h13, h.h14, h.h15, h.h16, h.h17⟩
theorem R6m.at6 (h : R6m W B tk tq j m z TV PV q D w s32 s33 s34 s35 s36 s37 s38 s39 s40 s41 s42 s43 s44 s45 s46 s47 s48 s49) : R6m W B tk tq j m z TV PV q (fun j => j == 6 || D j) w s32 s33 s34 s35 s36 s37 (.pointer (some ⟨B, 0, none⟩)) s39 s40 s41 s42 s43 s44 s45 s46 s47 s48 s49 :=
  ⟨h.hb, h.h0, h.h1, h.h2, h.h3, h.h4, h.h5, fun _ => rfl, h.h7, h.h8, h.h9, h.h10, h.h11, h.h12, h.h13, h.h14, h.h15, h.h16, h.h17⟩
theorem R6m.at7 (h : R6m W B tk tq j m z TV PV q D w s32 s33 s34 s35 s36 s37 s38 s39 s40 s41 s42 s43 s44 s45 s46 s47 s48 s49) : R6m W B tk tq j m z TV PV q (fun j => j == 7 || D j) w s32 s33 s34 s35 s36 s37 s38 (.int .i64 z) s40 s41 s42 s43 s44 s45 s46 s47 s48 s49 :=
  ⟨h.hb, h.h0, h.h1, h.h2, h.h3, h.h4, h.h5, h.h6, fun _ => rfl, h.h8, h.h9, h.h10, h.h11, h.h12, h.h13, h.h14, h.h15, h.h16, h.h17⟩
theorem R6m.at8 (h : R6m W B tk tq j m z TV PV q D w s32 s33 s34 s35 s36 s37 s38 s39 s40 s41 s42 s43 s44 s45 s46 s47 s48 s49) : R6m W B tk tq j m z TV PV q (fun j => j == 8 || D j) w s32 s33 s34 s35 s36 s37 s38 s39 (.pointer (some ⟨B, 0, none⟩)) s41 s42 s43 s44 s45 s46 s47 s48 s49 :=
  ⟨h.hb, h.h0, h.h1, h.h2, h.h3, h.h4, h.h5, h.h6, h.h7, fun _ => rfl, h.h9, h.h10, h.h11, h.h12, h.h13, h.h14, h.h15, h.h16, h.h17⟩
theorem R6m.at9 (h : R6m W B tk tq j m z TV PV q D w s32 s33 s34 s35 s36 s37 s38 s39 s40 s41 s42 s43 s44 s45 s46 s47 s48 s49) : R6m W B tk tq j m z TV PV q (fun j => j == 9 || D j) w s32 s33 s34 s35 s36 s37 s38 s39 s40 (.int .i64 z) s42 s43 s44 s45 s46 s47 s48 s49 :=
  ⟨h.hb, h.h0, h.h1, h.h2, h.h3, h.h4, h.h5, h.h6, h.h7, h.h8, fun _ => rfl, h.h10, h.h11, h.h12, h.h13, h.h14, h.h15, h.h16, h.h17⟩
theorem R6m.at10 (h : R6m W B tk tq j m z TV PV q D w s32 s33 s34 s35 s36 s37 s38 s39 s40 s41 s42 s43 s44 s45 s46 s47 s48 s49) : R6m W B tk tq j m z TV PV q (fun j => j == 10 || D j) w s32 s33 s34 s35 s36 s37 s38 s39 s40 s41 (.pointer (some ⟨B, 0, none⟩)) s43 s44 s45 s46 s47 s48 s49 :=
  ⟨h.hb, h.h0, h.h1, h.h2, h.h3, h.h4, h.h5, h.h6, h.h7, h.h8, h.h9, fun _ => rfl, h.h11, h.h12, h.h13, h.h14, h.h15, h.h16, h.h17⟩
theorem R6m.at11 (h : R6m W B tk tq j m z TV PV q D w s32 s33 s34 s35 s36 s37 s38 s39 s40 s41 s42 s43 s44 s45 s46 s47 s48 s49) : R6m W B tk tq j m z TV PV q (fun j => j == 11 || D j) w s32 s33 s34 s35 s36 s37 s38 s39 s40 s41 s42 (.int .i64 z) s44 s45 s46 s47 s48 s49 :=
  ⟨h.hb, h.h0, h.h1, h.h2, h.h3, h.h4, h.h5, h.h6, h.h7, h.h8, h.h9, h.h10, fun _ => rfl, h.h12, h.h13, h.h14, h.h15, h.h16, h.h17⟩
theorem R6m.at12 (h : R6m W B tk tq j m z TV PV q D w s32 s33 s34 s35 s36 s37 s38 s39 s40 s41 s42 s43 s44 s45 s46 s47 s48 s49) : R6m W B tk tq j m z TV PV q (fun j => j == 12 || D j) w s32 s33 s34 s35 s36 s37 s38 s39 s40 s41 s42 s43 (.int .i64 (z * z)) s45 s46 s47 s48 s49 :=
  ⟨h.hb, h.h0, h.h1, h.h2, h.h3, h.h4, h.h5, h.h6, h.h7, h.h8, h.h9, h.h10, h.h11, fun _ => rfl, h.h13, h.h14, h.h15, h.h16, h.h17⟩
theorem R6m.at13 (h : R6m W B tk tq j m z TV PV q D w s32 s33 s34 s35 s36 s37 s38 s39 s40 s41 s42 s43 s44 s45 s46 s47 s48 s49) (hm : m < 3) : R6m W B tk tq j m z TV PV q (fun j => j == 13 || D j) (w.alloc (.cells #[.int .i64 1, .int .i64 z, .int .i64 (z * z)] 3)) s32 s33 s34 s35 s36 s37 s38 s39 s40 s41 s42 s43 s44 (.slice (some ⟨w.heap.size, 0, none⟩) 3 3) s46 s47 s48 s49 := by
  have hb := below_alloc w (.cells #[.int .i64 1, .int .i64 z, .int .i64 (z * z)] 3)
  refine ⟨below_step h.hb hb, h.h0, h.h1, h.h2, h.h3, h.h4, h.h5, h.h6, h.h7, h.h8, h.h9, h.h10, h.h11, h.h12, ?_, h.h14, ?_, h.h16, h.h17⟩
  · exact fun _ => ⟨w.heap.size, rfl, tri_cell hm⟩
  · intro e
    obtain ⟨g, h1, h2⟩ := h.h15 e
    exact ⟨g, h1, grow_cell hb _ _ h2⟩
theorem R6m.at14 (h : R6m W B tk tq j m z TV PV q D w s32 s33 s34 s35 s36 s37 s38 s39 s40 s41 s42 s43 s44 s45 s46 s47 s48 s49) : R6m W B tk tq j m z TV PV q (fun j => j == 14 || D j) w s32 s33 s34 s35 s36 s37 s38 s39 s40 s41 s42 s43 s44 s45 (.int .i64 m) s47 s48 s49 :=
  ⟨h.hb, h.h0, h.h1, h.h2, h.h3, h.h4, h.h5, h.h6, h.h7, h.h8, h.h9, h.h10, h.h11, h.h12, h.h13, fun _ => rfl, h.h15, h.h16, h.h17⟩
theorem R6m.at15 (h : R6m W B tk tq j m z TV PV q D w s32 s33 s34 s35 s36 s37 s38 s39 s40 s41 s42 s43 s44 s45 s46 s47 s48 s49) {g : Nat} (hc : w.cell? ⟨g, m, none⟩ = some (.int .i64 (mlen z m))) : R6m W B tk tq j m z TV PV q (fun j => j == 15 || D j) w s32 s33 s34 s35 s36 s37 s38 s39 s40 s41 s42 s43 s44 s45 s46 (.pointer (some ⟨g, m, none⟩)) s48 s49 :=
  ⟨h.hb, h.h0, h.h1, h.h2, h.h3, h.h4, h.h5, h.h6, h.h7, h.h8, h.h9, h.h10, h.h11, h.h12, h.h13, h.h14, fun _ => ⟨g, rfl, hc⟩, h.h16, h.h17⟩
theorem R6m.at16 (h : R6m W B tk tq j m z TV PV q D w s32 s33 s34 s35 s36 s37 s38 s39 s40 s41 s42 s43 s44 s45 s46 s47 s48 s49) : R6m W B tk tq j m z TV PV q (fun j => j == 16 || D j) w s32 s33 s34 s35 s36 s37 s38 s39 s40 s41 s42 s43 s44 s45 s46 s47 (.int .i64 (mlen z m)) s49 :=
  ⟨h.hb, h.h0, h.h1, h.h2, h.h3, h.h4, h.h5, h.h6, h.h7, h.h8, h.h9, h.h10, h.h11, h.h12, h.h13, h.h14, h.h15, fun _ => rfl, h.h17⟩
theorem R6m.at17 (h : R6m W B tk tq j m z TV PV q D w s32 s33 s34 s35 s36 s37 s38 s39 s40 s41 s42 s43 s44 s45 s46 s47 s48 s49) : R6m W B tk tq j m z TV PV q (fun j => j == 17 || D j) w s32 s33 s34 s35 s36 s37 s38 s39 s40 s41 s42 s43 s44 s45 s46 s47 s48 (.bool ((q : Int) != mlen z m)) :=
  ⟨h.hb, h.h0, h.h1, h.h2, h.h3, h.h4, h.h5, h.h6, h.h7, h.h8, h.h9, h.h10, h.h11, h.h12, h.h13, h.h14, h.h15, h.h16, fun _ => rfl⟩
theorem R6m.start (h : Below W.heap.size W w) : R6m W B tk tq j m z TV PV q (fun _ => false) w s32 s33 s34 s35 s36 s37 s38 s39 s40 s41 s42 s43 s44 s45 s46 s47 s48 s49 :=
  ⟨h, fun e => (by cases e), fun e => (by cases e), fun e => (by cases e), fun e => (by cases e), fun e => (by cases e), fun e => (by cases e), fun e => (by cases e), fun e => (by cases e), fun e => (by cases e), fun e => (by cases e), fun e => (by cases e), fun e => (by cases e), fun e => (by cases e), fun e => (by cases e), fun e => (by cases e), fun e => (by cases e), fun e => (by cases e), fun e => (by cases e)⟩
end

set_option maxRecDepth 100000 in
set_option maxHeartbeats 2000000 in
theorem wrongMR_any (s : List Int) (sv : Value) (z : Int) (tb : List (List Int)) (mv : Value) (w : World) (hN : NIn w s sv) (hT : TbIn w tb mv) (hs : s.all okNum = true) :
    Calls Tryz.prog 7 #[sv, .agg #[.int .i64 z, mv]] w fun e w' => e = .returned (.int .i64 (wrongM s z tb)) ∧ Below w.heap.size w w' := by
  have HN := hide hN
  have HT := hide hT
  have Hs := hide hs
  obtain ⟨sa, sc, sb, so, rfl, hsad, hslc, hscm, hSF⟩ := hN
  obtain ⟨ta, tc, tk, tq, rfl, htad, htlc, htcm, hTF⟩ := hT
  have HSF := hide hSF
  have HTF := hide hTF
  unfold maxLen at hscm htcm
  clear hSF hTF hs
  go_enter Tryz.func7, Tryz.ntmps7
  go_upto_region 1 with fail
  generalize hW1 : w.alloc (.cells #[.int .i64 z, .slice ta tb.length tc] 28) = W1
  have hB1 : Below w.heap.size w W1 := by rw [← hW1]; exact below_alloc _ _
  have m0 : W1.cell? ⟨w.heap.size, 0, none⟩ = some (.int .i64 z) := by rw [← hW1]; exact new_cell rfl
  have m1 : W1.cell? ⟨w.heap.size, 1, none⟩ = some (.slice ta tb.length tc) := by rw [← hW1]; exact new_cell rfl
  clear hW1
  by_cases h1 : z < 1
  · have Hf : Hid (wrongM s z tb = 5) := if_pos (.inl h1)
    go_wp2_with fail
    go_ret
    exact ⟨by rw [Hf.out]; rfl, hB1⟩
  by_cases h8 : 8 < z
  · have Hf : Hid (wrongM s z tb = 5) := if_pos (.inr (.inl h8))
    go_wp2_with fail
    go_ret
    exact ⟨by rw [Hf.out]; rfl, hB1⟩
  by_cases hl : tb.length = s.length
  · have Hf : Hid (wrongM s z tb = rowsE z (s.zip tb)) := if_neg (by omega)
    have hlb : ((tb.length : Int) != (s.length : Int)) = false := by simp [hl]
    have Hl := hide hl
    clear hl
    go_wp2_with fail
    clear hlb
    go_loopw [27] (fun i wr => ∃ j : Nat, j ≤ s.length ∧ i = .int .i64 j ∧ (∀ i, i < j → ∀ a, (s.zip tb)[i]? = some a → rowE z a = 0) ∧ Below W1.heap.size W1 wr) (fun i _ => s.length - (intOf i).toNat)
    case atStart => exact ⟨0, Nat.zero_le _, rfl, fun i hi => by omega, Below.refl _ _⟩
    case round =>
      obtain ⟨j, hj, rfl, hok, hBx⟩ := hrel
      have Hok := hide hok
      clear hok
      have hBr := below_step hB1 hBx
      replace m0 := grow_cell hBx _ _ m0
      replace m1 := grow_cell hBx _ _ m1
      by_cases hlt : j < s.length
      · have hlt' : (j : Int) < (s.length : Int) := by omega
        have hjt : (j : Int) < (tb.length : Int) := by have := Hl.out; omega
        have hc := grow_cell hBr _ _ (HSF.out j hlt)
        obtain ⟨pv, p1, hP⟩ := HTF.out j (by omega)
        replace p1 := grow_cell hBr _ _ p1
        replace hP := hP.below hBr
        have hsj : s[j]? = some (s.getD j 0) := by rw [List.getD_eq_getElem?_getD, List.getElem?_eq_getElem hlt]; rfl
        have htj : tb[j]? = some (tb.getD j []) := by rw [List.getD_eq_getElem?_getD, List.getElem?_eq_getElem (by omega)]; rfl
        have Hzip : Hid ((s.zip tb)[j]? = some (s.getD j 0, tb.getD j [])) := by rw [Hid, List.getElem?_zip_eq_some]; exact ⟨hsj, htj⟩
        have hok2 : 0 ≤ s.getD j 0 ∧ s.getD j 0 ≤ 2 := by
          have := List.all_eq_true.1 Hs.out _ (List.mem_of_getElem? hsj)
          simpa [okNum] using this
        have HP := hide hP
        obtain ⟨ra, rc, rb, ro, rfl, hrad, hrlc, hrcm, hRF⟩ := hP
        have HRF := hide hRF
        unfold maxLen at hrcm
        generalize s.getD j 0 = n at *
        generalize tb.getD j [] = row at *
        have hsa : sa = some ⟨sb, so, none⟩ := hsad (by omega)
        subst hsa
        have hta : ta = some ⟨tk, tq, none⟩ := htad (by omega)
        subst hta
        clear hRF hsj htj hsad htad
        go_upto_region 6 with fail
        obtain ⟨m, rfl⟩ : ∃ m : Nat, n = m := ⟨n.toNat, by omega⟩
        have hm3 : m < 3 := by omega
        have hm3' : (m : Int) < 3 := by omega
        have HZ : Hid (z * z ≤ 64 ∧ 0 ≤ z * z) := ⟨Int.mul_le_mul (by omega : z ≤ 8) (by omega : z ≤ 8) (by omega) (by omega), Int.mul_nonneg (by omega) (by omega)⟩
        go_cut [49] (fun s49 wx => s49 = .bool ((row.length : Int) != mlen z m) ∧ Below wr.heap.size wr wx)
        case first =>
          refine region_inv (fun D a w' => ∃ s32 s33 s34 s35 s36 s37 s38 s39 s40 s41 s42 s43 s44 s45 s46 s47 s48 s49 : Value, a = ⟨#[.slice (some ⟨sb, so, none⟩) s.length sc, .agg #[.int .i64 z, .slice (some ⟨tk, tq, none⟩) tb.length tc], undef, .pointer (some ⟨w.heap.size, 0, none⟩), u4, .int .i64 j, .int .i64 m, undef, u8, .pointer (some ⟨w.heap.size, 0, none⟩), .int .i64 z, .bool false, .bool false, .pointer (some ⟨w.heap.size, 0, none⟩), .int .i64 z, .bool false, .bool false, .bool false, .pointer (some ⟨w.heap.size, 1, none⟩), .slice (some ⟨tk, tq, none⟩) tb.length tc, .int .i64 tb.length, .slice (some ⟨sb, so, none⟩) s.length sc, .int .i64 s.length, .bool false, .bool false, .slice (some ⟨sb, so, none⟩) s.length sc, .int .i64 s.length, .int .i64 j, .bool true, .int .i64 j, .pointer (some ⟨sb, so + j, none⟩), .int .i64 m, s32, s33, s34, s35, s36, s37, s38, s39, s40, s41, s42, s43, s44, s45, s46, s47, s48, s49, u50, u51, u52, u53, u54, u55, u56, u57, u58, u59, u60, u61, u62, u63, u64, u65, u66, u67, u68, u69], []⟩ ∧ R6m wr w.heap.size tk tq j m z (.slice (some ⟨tk, tq, none⟩) tb.length tc) (.slice ra row.length rc) row.length D w' s32 s33 s34 s35 s36 s37 s38 s39 s40 s41 s42 s43 s44 s45 s46 s47 s48 s49) (by kernel_rfl) (by kernel_rfl) ?_ ?_ ⟨_, _, _, _, _, _, _, _, _, _, _, _, _, _, _, _, _, _, rfl, R6m.start (Below.refl _ _).drew⟩
          · rintro D a w' i o hi ⟨s32, s33, s34, s35, s36, s37, s38, s39, s40, s41, s42, s43, s44, s45, s46, s47, s48, s49, rfl, hI⟩ hD ho hdep
            have HI := hide hI
            replace m0 := grow_cell hI.hb _ _ m0
            replace m1 := grow_cell hI.hb _ _ m1
            replace p1 := grow_cell hI.hb _ _ p1
            clear hI
            have hi' : i < 18 := hi
            clear hi
            rcases (by omega : i = 0 ∨ i = 1 ∨ i = 2 ∨ i = 3 ∨ i = 4 ∨ i = 5 ∨ i = 6 ∨ i = 7 ∨ i = 8 ∨ i = 9 ∨ i = 10 ∨ i = 11 ∨ i = 12 ∨ i = 13 ∨ i = 14 ∨ i = 15 ∨ i = 16 ∨ i = 17) with rfl | rfl | rfl | rfl | rfl | rfl | rfl | rfl | rfl | rfl | rfl | rfl | rfl | rfl | rfl | rfl | rfl | rfl
            · obtain rfl := Option.some.inj ho
              clear ho hdep hD
              refine wpOp_step rfl (fun K hK => ?_)
              go_simp
              exact hK _ _ ⟨_, _, _, _, _, _, _, _, _, _, _, _, _, _, _, _, _, _, rfl, HI.out.at0⟩
            · obtain rfl := Option.some.inj ho
              have d0 := HI.out.h0 (hdep ⟨0, .data⟩ (by simp) rfl)
              subst d0
              clear ho hdep hD
              refine wpOp_step rfl (fun K hK => ?_)
              go_simp
              exact hK _ _ ⟨_, _, _, _, _, _, _, _, _, _, _, _, _, _, _, _, _, _, rfl, HI.out.at1⟩
            · obtain rfl := Option.some.inj ho
              clear ho hdep hD
              refine wpOp_step rfl (fun K hK => ?_)
              go_simp
              exact hK _ _ ⟨_, _, _, _, _, _, _, _, _, _, _, _, _, _, _, _, _, _, rfl, HI.out.at2⟩
            · obtain rfl := Option.some.inj ho
              have d1 := HI.out.h1 (hdep ⟨1, .data⟩ (by simp) rfl)
              subst d1
              have d2 := HI.out.h2 (hdep ⟨2, .data⟩ (by simp) rfl)
              subst d2
              clear ho hdep hD
              refine wpOp_step rfl (fun K hK => ?_)
              go_simp
              exact hK _ _ ⟨_, _, _, _, _, _, _, _, _, _, _, _, _, _, _, _, _, _, rfl, HI.out.at3⟩
            · obtain rfl := Option.some.inj ho
              have d3 := HI.out.h3 (hdep ⟨3, .data⟩ (by simp) rfl)
              subst d3
              clear ho hdep hD
              refine wpOp_step rfl (fun K hK => ?_)
              go_simp
              exact hK _ _ ⟨_, _, _, _, _, _, _, _, _, _, _, _, _, _, _, _, _, _, rfl, HI.out.at4⟩
            · obtain rfl := Option.some.inj ho
              have d4 := HI.out.h4 (hdep ⟨4, .data⟩ (by simp) rfl)
              subst d4
              clear ho hdep hD
              refine wpOp_step rfl (fun K hK => ?_)
              go_simp
              exact hK _ _ ⟨_, _, _, _, _, _, _, _, _, _, _, _, _, _, _, _, _, _, rfl, HI.out.at5⟩
            · obtain rfl := Option.some.inj ho
              clear ho hdep hD
              refine wpOp_step rfl (fun K hK => ?_)
              go_simp
              exact hK _ _ ⟨_, _, _, _, _, _, _, _, _, _, _, _, _, _, _, _, _, _, rfl, HI.out.at6⟩
            · obtain rfl := Option.some.inj ho
              have d6 := HI.out.h6 (hdep ⟨6, .data⟩ (by simp) rfl)
              subst d6
              clear ho hdep hD
              refine wpOp_step rfl (fun K hK => ?_)
              go_simp
              exact hK _ _ ⟨_, _, _, _, _, _, _, _, _, _, _, _, _, _, _, _, _, _, rfl, HI.out.at7⟩
            · obtain rfl := Option.some.inj ho
              clear ho hdep hD
              refine wpOp_step rfl (fun K hK => ?_)
              go_simp
              exact hK _ _ ⟨_, _, _, _, _, _, _, _, _, _, _, _, _, _, _, _, _, _, rfl, HI.out.at8⟩
            · obtain rfl := Option.some.inj ho
              have d8 := HI.out.h8 (hdep ⟨8, .data⟩ (by simp) rfl)
              subst d8
              clear ho hdep hD
              refine wpOp_step rfl (fun K hK => ?_)
              go_simp
              exact hK _ _ ⟨_, _, _, _, _, _, _, _, _, _, _, _, _, _, _, _, _, _, rfl, HI.out.at9⟩
            · obtain rfl := Option.some.inj ho
              clear ho hdep hD
              refine wpOp_step rfl (fun K hK => ?_)
              go_simp
              exact hK _ _ ⟨_, _, _, _, _, _, _, _, _, _, _, _, _, _, _, _, _, _, rfl, HI.out.at10⟩
            · obtain rfl := Option.some.inj ho
              have d10 := HI.out.h10 (hdep ⟨10, .data⟩ (by simp) rfl)
              subst d10
              clear ho hdep hD
              refine wpOp_step rfl (fun K hK => ?_)
              go_simp
              exact hK _ _ ⟨_, _, _, _, _, _, _, _, _, _, _, _, _, _, _, _, _, _, rfl, HI.out.at11⟩
            · obtain rfl := Option.some.inj ho
              have d9 := HI.out.h9 (hdep ⟨9, .data⟩ (by simp) rfl)
              subst d9
              have d11 := HI.out.h11 (hdep ⟨11, .data⟩ (by simp) rfl)
              subst d11
              have hzz := HZ.out
              have hw : IntKind.i64.wrap (z * z) = z * z := by rw [IntKind.wrap_i64]; omega
              clear ho hdep hD
              refine wpOp_step rfl (fun K hK => ?_)
              go_simp
              exact hK _ _ ⟨_, _, _, _, _, _, _, _, _, _, _, _, _, _, _, _, _, _, rfl, HI.out.at12⟩
            · obtain rfl := Option.some.inj ho
              have d7 := HI.out.h7 (hdep ⟨7, .data⟩ (by simp) rfl)
              subst d7
              have d12 := HI.out.h12 (hdep ⟨12, .data⟩ (by simp) rfl)
              subst d12
              clear ho hdep hD
              refine wpOp_step rfl (fun K hK => ?_)
              go_simp
              exact hK _ _ ⟨_, _, _, _, _, _, _, _, _, _, _, _, _, _, _, _, _, _, rfl, HI.out.at13 hm3⟩
            · obtain rfl := Option.some.inj ho
              clear ho hdep hD
              refine wpOp_step rfl (fun K hK => ?_)
              go_simp
              exact hK _ _ ⟨_, _, _, _, _, _, _, _, _, _, _, _, _, _, _, _, _, _, rfl, HI.out.at14⟩
            · obtain rfl := Option.some.inj ho
              have d13 := HI.out.h13 (hdep ⟨13, .data⟩ (by simp) rfl)
              have d14 := HI.out.h14 (hdep ⟨14, .data⟩ (by simp) rfl)
              subst d14
              obtain ⟨g, rfl, hg⟩ := d13
              clear ho hdep hD
              refine wpOp_step rfl (fun K hK => ?_)
              go_simp
              exact hK _ _ ⟨_, _, _, _, _, _, _, _, _, _, _, _, _, _, _, _, _, _, rfl, HI.out.at15 hg⟩
            · obtain rfl := Option.some.inj ho
              have d15 := HI.out.h15 (hdep ⟨15, .data⟩ (by simp) rfl)
              obtain ⟨g, rfl, hg⟩ := d15
              clear ho hdep hD
              refine wpOp_step rfl (fun K hK => ?_)
              go_simp
              exact hK _ _ ⟨_, _, _, _, _, _, _, _, _, _, _, _, _, _, _, _, _, _, rfl, HI.out.at16⟩
            · obtain rfl := Option.some.inj ho
              have d5 := HI.out.h5 (hdep ⟨5, .data⟩ (by simp) rfl)
              subst d5
              have d16 := HI.out.h16 (hdep ⟨16, .data⟩ (by simp) rfl)
              subst d16
              clear ho hdep hD
              refine wpOp_step rfl (fun K hK => ?_)
              go_simp
              exact hK _ _ ⟨_, _, _, _, _, _, _, _, _, _, _, _, _, _, _, _, _, _, rfl, HI.out.at17⟩
          · rintro D a w' ⟨s32, s33, s34, s35, s36, s37, s38, s39, s40, s41, s42, s43, s44, s45, s46, s47, s48, s49, rfl, hI⟩ hall
            have h17 := hI.h17 (hall 17 (by decide))
            subst h17
            have Hb := hide hI.hb
            clear hI hall
            go_wp2_with fail
            go_meet
            case rel => exact ⟨rfl, Hb.out⟩
        case rest =>
          obtain ⟨rfl, hby⟩ := hcut
          generalize wc = wy at *
          replace m0 := grow_cell hby _ _ m0
          replace m1 := grow_cell hby _ _ m1
          replace p1 := grow_cell hby _ _ p1
          have hBy := below_step hBx hby
          have hBz := below_step hB1 hBy
          by_cases hlen : (row.length : Int) = mlen z m
          · have hlb : ((row.length : Int) != mlen z m) = false := by simp [hlen]
            have Hlen := hide hlen
            rw [hlb]
            clear hlen hlb
            go_wp2_with fail
            go_loopw [56] (fun i wx => ∃ q : Nat, q ≤ row.length ∧ i = .int .i64 q ∧ (∀ i, i < q → inZ z (row.getD i 0) = true) ∧ wy = wx) (fun i _ => row.length - (intOf i).toNat)
            case atStart => exact ⟨0, Nat.zero_le _, rfl, fun i hi => by omega, rfl⟩
            case round =>
              obtain ⟨q, hq, rfl, hin, rfl⟩ := hrel
              have Hin := hide hin
              clear hin
              by_cases hql : q < row.length
              · have hql' : (q : Int) < (row.length : Int) := by omega
                have c3 := grow_cell hby _ _ (HRF.out q hql)
                have hra : ra = some ⟨rb, ro, none⟩ := hrad (by omega)
                subst hra
                have Hmem : Hid (row.getD q 0 ∈ row) := by rw [Hid, List.getD_eq_getElem?_getD, List.getElem?_eq_getElem hql]; simp
                have Hnx : Hid (inZ z (row.getD q 0) = true → ∀ i, i < q + 1 → inZ z (row.getD i 0) = true) := fun h i hi => by
                  by_cases e : i = q
                  · rw [e]; exact h
                  · exact Hin.out i (by omega)
                generalize row.getD q 0 = x at *
                clear hrad
                by_cases hx : 0 ≤ x ∧ x < z
                · obtain ⟨x0, x1⟩ := hx
                  have Hn := hide (Hnx.out (by simp [inZ, x0, x1]))
                  go_wp2_with fail
                  go_roundw
                  case rel => exact ⟨q + 1, by omega, by go_num, Hn.out, trivial⟩
                  case measure => simp [intOf]; omega
                · have Hbad : Hid (rowsE z (s.zip tb) = 3) := by
                    have hr : rowE z ((m : Int), row) = 3 := by
                      unfold rowE
                      rw [if_pos Hlen.out, if_neg]
                      intro hall
                      have := List.all_eq_true.1 hall x Hmem.out
                      simp only [inZ, decide_eq_true_eq] at this
                      exact hx this
                    rw [Hid, rowsE_at Hok.out Hzip.out (by rw [hr]; decide), hr]
                  by_cases x0 : x < 0
                  · clear hx
                    go_wp2_with fail
                    go_ret
                    exact ⟨by rw [Hf.out, Hbad.out]; rfl, hBz⟩
                  · have x1 : z ≤ x := by omega
                    clear hx
                    go_wp2_with fail
                    go_ret
                    exact ⟨by rw [Hf.out, Hbad.out]; rfl, hBz⟩
              · have Hgood : Hid (rowE z ((m : Int), row) = 0) := by
                  rw [Hid, row_ok]
                  refine ⟨Hlen.out, fun x hx => ?_⟩
                  obtain ⟨i, hi, rfl⟩ := List.mem_iff_getElem.1 hx
                  have hi2 : i < row.length := hi
                  have := Hin.out i (by omega)
                  rw [List.getD_eq_getElem?_getD, List.getElem?_eq_getElem hi2] at this
                  simpa [inZ] using this
                have Hn : Hid (∀ i, i < j + 1 → ∀ a, (s.zip tb)[i]? = some a → rowE z a = 0) := fun i hi a ha => by
                  by_cases e : i = j
                  · rw [e, Hzip.out] at ha; cases ha; exact Hgood.out
                  · exact Hok.out i (by omega) a ha
                clear hrad
                go_wp2_with fail
                go_roundw
                case rel => exact ⟨j + 1, by omega, by go_num, Hn.out, hBy⟩
                case measure => simp [intOf]; omega
          · have hlb : ((row.length : Int) != mlen z m) = true := by simp [hlen]
            have Hbad : Hid (rowsE z (s.zip tb) = 5) := by
              have hr : rowE z ((m : Int), row) = 5 := by
                unfold rowE
                rw [if_neg hlen]
              rw [Hid, rowsE_at Hok.out Hzip.out (by rw [hr]; decide), hr]
            rw [hlb]
            clear hlen hlb
            go_wp2_with fail
            go_ret
            exact ⟨by rw [Hf.out, Hbad.out]; rfl, hBz⟩
      · have Hfin : Hid (rowsE z (s.zip tb) = 0) := by
          rw [Hid, rowsE_iff]
          intro p hp
          obtain ⟨i, hi⟩ := List.mem_iff_getElem?.1 hp
          have hil : i < (s.zip tb).length := (List.getElem?_eq_some_iff.1 hi).1
          rw [List.length_zip] at hil
          exact Hok.out i (by omega) p hi
        clear hsad htad
        go_wp2_with fail
        go_ret
        exact ⟨by rw [Hf.out, Hfin.out]; rfl, hBr⟩
  · have Hf : Hid (wrongM s z tb = 5) := if_pos (.inr (.inr hl))
    have hlb : ((tb.length : Int) != (s.length : Int)) = true := by simp; omega
    clear hl
    go_wp2_with fail
    go_ret
    exact ⟨by rw [Hf.out]; rfl, hB1⟩

end Go.Proofs.YtaliegkkdhkfcacGreatDoor

namespace Go.Proofs.YtaliegkkdhkfcacGreatDoor
open Go.RowKit Go.Deep Go.ChangeShapes Go.WideShapes
attribute [local go_sem ↓] Go.wp_at_zero Go.wp_at_succ

/-- What is left of a number behind so many places. -/
def kd (z : Int) (n : Int) : Nat → Int
  | 0 => n
  | j + 1 => kd z n j / z
theorem kd_shift (z n : Int) : ∀ j, kd z (n / z) j = kd z n (j + 1)
  | 0 => rfl
  | j + 1 => by rw [kd, kd_shift z n j]; rfl
theorem envF_snoc {z v : Int} : ∀ (vs : List Int) (n : Int) (L : List Int), envF z (vs ++ [v]) n L = (envF z vs n L).set v.toNat (kd z n vs.length % z)
  | [], n, L => rfl
  | x :: vs, n, L => by
    rw [List.cons_append, envF, envF_snoc vs, envF, kd_shift]
    rfl
theorem envF_take {z v : Int} {vs : List Int} {j : Nat} {n : Int} {L : List Int} (h : vs[j]? = some v) : envF z (vs.take (j + 1)) n L = (envF z (vs.take j) n L).set v.toNat (kd z n j % z) := by
  have hj : j < vs.length := (List.getElem?_eq_some_iff.1 h).1
  rw [List.take_add_one, h]
  show envF z (vs.take j ++ [v]) n L = _
  rw [envF_snoc, List.length_take, Nat.min_eq_left (by omega)]
theorem kd_range {z n : Int} (hz : 1 ≤ z) (h0 : 0 ≤ n) : ∀ j, 0 ≤ kd z n j ∧ kd z n j ≤ n
  | 0 => ⟨h0, Int.le_refl _⟩
  | j + 1 => by
    have ih := kd_range hz h0 j
    rw [kd]
    have h1 := Int.ediv_nonneg ih.1 (show (0 : Int) ≤ z by omega)
    have h2 := Int.ediv_le_self z ih.1
    exact ⟨h1, by omega⟩
theorem pw_le {z : Int} (h1 : 1 ≤ z) (h8 : z ≤ 8) : ∀ j, pw z j ≤ pw 8 j
  | 0 => Int.le_refl _
  | j + 1 => by
    have ih := pw_le h1 h8 j
    have h0 := pw_pos h1 j
    rw [pw, pw]
    exact Int.mul_le_mul h8 ih (by omega) (by omega)
theorem pw_five {z : Int} (h1 : 1 ≤ z) (h8 : z ≤ 8) {j : Nat} (hj : j ≤ 5) : pw z j ≤ 32768 := by
  have := pw_le h1 h8 j
  have h2 : pw 8 j ≤ 32768 := by
    rcases (by omega : j = 0 ∨ j = 1 ∨ j = 2 ∨ j = 3 ∨ j = 4 ∨ j = 5) with rfl | rfl | rfl | rfl | rfl | rfl <;> decide
  omega

/-- The bindings L lie in the block that was made behind W. -/
def EB (W : World) (L : List Int) (wx : World) : Prop := Below W.heap.size W wx ∧ W.heap.size < wx.heap.size ∧ L.length = 5 ∧ ∀ i, i < 5 → wx.cell? ⟨W.heap.size, i, none⟩ = some (.int .i64 (L.getD i 0)) ∧ wx.frozen? ⟨W.heap.size, i, none⟩ = false
theorem eb_start (W : World) : EB W env0 (W.alloc (.cells (madeCells #[.int .i64 0] (5 * 1)) 3)) := by
  refine ⟨below_alloc _ _, by simp, rfl, fun i hi => ⟨?_, frozen_new _ _ _ _⟩⟩
  rcases (by omega : i = 0 ∨ i = 1 ∨ i = 2 ∨ i = 3 ∨ i = 4) with rfl | rfl | rfl | rfl | rfl <;> exact (new_cell rfl).trans (by simp [madeCells])
theorem eb_step {W wx : World} {L : List Int} {m : Nat} {x : Int} (h : EB W L wx) (hm : m < 5) : EB W (L.set m x) (wx.setCell ⟨W.heap.size, m, none⟩ (.int .i64 x)) := by
  obtain ⟨h1, h2, h3, h4⟩ := h
  refine ⟨h1.setCell (Nat.le_refl _) _, by simpa [World.setCell] using h2, by simp [h3], fun i hi => ⟨?_, by simpa using (h4 i hi).2⟩⟩
  by_cases e : i = m
  · subst e
    rw [set_same (h4 i hi).1, List.getD_eq_getElem?_getD, List.getElem?_set_self (by omega)]
    rfl
  · rw [set_other (by intro e'; simp only [Addr.mk.injEq] at e'; omega), (h4 i hi).1, List.getD_eq_getElem?_getD, List.getD_eq_getElem?_getD, List.getElem?_set_ne (fun e' => e e'.symm)]
theorem eb_nin {W wx : World} {L : List Int} (h : EB W L wx) : NIn wx L (.slice (some ⟨W.heap.size, 0, none⟩) 5 5) := by
  obtain ⟨h1, h2, h3, h4⟩ := h
  refine ⟨some ⟨W.heap.size, 0, none⟩, 5, W.heap.size, 0, by rw [h3], fun _ => rfl, by omega, by unfold maxLen; omega, fun i hi => ?_⟩
  rw [Nat.zero_add]
  exact (h4 i (by omega)).1

set_option maxRecDepth 100000 in
set_option maxHeartbeats 2000000 in
theorem holdsR_any {s : List Int} {z : Int} {tb : List (List Int)} (hm : MR s z tb) (hs : s.all okNum = true) (k : Cl) (mv a : Value) (w : World) (hT : TbIn w tb mv) (hS : CIn w k a)
    (hw : ∀ l ∈ k, sigT s l.2.1 ∧ sigT s l.2.2) (hv5 : (varsC k []).length ≤ 5) (hvr : ∀ n ∈ varsC k [], 0 ≤ n ∧ n ≤ 4) :
    Calls Tryz.prog 8 #[.agg #[.int .i64 z, mv], a] w fun e w' => e = .returned (.bool (holdsB z tb k)) ∧ Below w.heap.size w w' := by
  have HT := hide hT
  have HS := hide hS
  have z1 := hm.z1
  have z8 := hm.z8
  have Hsome := hide (fun (L : List Int) (hL : L.length = 5) (hr : ∀ x ∈ L, 0 ≤ x ∧ x < z) (ev : Value) (w' : World) (hb : Below w.heap.size w w') (hE : NIn w' L ev) => someR_any hm hs hL hr k mv ev a w' (hT.below hb) hE (hS.below hb) hw)
  obtain ⟨ta, tc, rfl⟩ := tb_slice hT
  obtain ⟨a1, a3, rfl⟩ := slice_of_cl hS
  have Hvr := hide hvr
  have Hpw : Hid (∀ j, j ≤ (varsC k []).length → 1 ≤ pw z j ∧ pw z j ≤ 32768) := fun j hj => ⟨pw_pos z1 j, pw_five z1 z8 (by omega)⟩
  obtain ⟨iI, hi, hz0, hz1, hz2⟩ := info_parts Tryz.info3
  clear hm hs hT hS hw hvr
  go_enter Tryz.func8, Tryz.ntmps8
  go_upto_region 1 with fail
  generalize hW1 : w.alloc (.cells #[.int .i64 z, .slice ta tb.length tc] 28) = W1
  have hB1 : Below w.heap.size w W1 := by rw [← hW1]; exact below_alloc _ _
  have m0 : W1.cell? ⟨w.heap.size, 0, none⟩ = some (.int .i64 z) := by rw [← hW1]; exact new_cell rfl
  have m1 : W1.cell? ⟨w.heap.size, 1, none⟩ = some (.slice ta tb.length tc) := by rw [← hW1]; exact new_cell rfl
  clear hW1
  go_wp2_with fail
  refine (varsCR_any k _ _ (HS.out.below hB1) (by omega)).mono ?_
  rintro e w2 ⟨vv, rfl, hN, hb2⟩
  have hB2 := below_step hB1 hb2
  replace m0 := grow_cell hb2 _ _ m0
  replace m1 := grow_cell hb2 _ _ m1
  have HN := hide hN
  obtain ⟨va, vc, vb, vo, rfl, hvad, hvlc, hvcm, hVF⟩ := hN
  unfold maxLen at hvcm
  have HVF := hide hVF
  have Hho : Hid (holdsB z tb k = (List.range (pw z (varsC k []).length).toNat).all fun n => someH z tb (envOf (envF z (varsC k []) n env0)) k) := rfl
  generalize varsC k [] = vs at *
  clear hVF hb2 hB1
  go_wp2_with fail
  go_loopw [6, 16] (fun p i wr => ∃ j : Nat, j ≤ vs.length ∧ i = .int .i64 j ∧ p = .int .i64 (pw z j) ∧ w2 = wr) (fun _ i _ => vs.length - (intOf i).toNat)
  case atStart => exact ⟨0, Nat.zero_le _, rfl, rfl, rfl⟩
  case round =>
    obtain ⟨j, hj, rfl, rfl, rfl⟩ := hrel
    by_cases hlt : j < vs.length
    · have hlt' : (j : Int) < (vs.length : Int) := by omega
      have h1 := Hpw.out j hj
      have h2 := Hpw.out (j + 1) (by omega)
      have Hst : Hid (wrap64 (pw z j * z) = pw z (j + 1)) := by
        unfold Hid wrap64
        rw [show pw z (j + 1) = pw z j * z by rw [pw, Int.mul_comm]]
        rw [show pw z (j + 1) = pw z j * z by rw [pw, Int.mul_comm]] at h2
        omega
      clear h1 h2
      go_wp2_with fail
      go_roundw
      case rel => exact ⟨j + 1, by omega, by go_num, by rw [← Hst.out], trivial⟩
      case measure => simp [intOf]; omega
    · have hje : j = vs.length := by omega
      subst hje
      have hp := Hpw.out vs.length (Nat.le_refl _)
      obtain ⟨all, hall⟩ : ∃ all : Nat, pw z vs.length = all := ⟨(pw z vs.length).toNat, by omega⟩
      rw [hall, Int.toNat_natCast] at Hho
      rw [hall] at hp ⊢
      clear hall Hpw
      go_wp2_with fail
      go_loopw [24] (fun i wr => ∃ n : Nat, n ≤ all ∧ i = .int .i64 n ∧ (∀ q, q < n → someH z tb (envOf (envF z vs (q : Nat) env0)) k = true) ∧ Below w2.heap.size w2 wr) (fun i _ => all - (intOf i).toNat)
      case atStart => exact ⟨0, Nat.zero_le _, rfl, fun q hq => by omega, Below.refl _ _⟩
      case round =>
        obtain ⟨n, hn, rfl, hok, hBx⟩ := hrel
        have Hok := hide hok
        clear hok
        replace m0 := grow_cell hBx _ _ m0
        replace m1 := grow_cell hBx _ _ m1
        have hBr := below_step hB2 hBx
        by_cases hnl : n < all
        · have hnl' : (n : Int) < (all : Int) := by omega
          have hq0 : (0 : Int) ≤ (n : Int) := by omega
          have Hkd := hide (fun j => kd_range z1 hq0 j)
          have Henv := hide (fun m => env_range z1 (vs := vs.take m) (n := (n : Int)) (L := env0) (fun x hx => by simp at hx; omega))
          have hmk := fun w : World => run_make (P := Tryz.prog) w 22 3 iI _ Tryz.underlying22 hi hz0 .i64 .i64 5 5 (by omega) (by omega) (by rw [hz2]; omega) (by omega)
          rw [hz1] at hmk
          go_wp2_with fail
          clear hmk
          generalize wr = wo at *
          go_loopw [9, 31] (fun q i wx => ∃ j : Nat, j ≤ vs.length ∧ i = .int .i64 j ∧ q = .int .i64 (kd z n j) ∧ EB wo (envF z (vs.take j) n env0) wx) (fun _ i _ => vs.length - (intOf i).toNat)
          case atStart => exact ⟨0, Nat.zero_le _, rfl, rfl, eb_start wo⟩
          case round =>
            obtain ⟨j, hj, rfl, rfl, hE⟩ := hrel
            have HE := hide hE
            have hBy := hE.1
            have hBz := below_step hBr hBy
            have hwo : w.heap.size < wo.heap.size := World.block_lt_of_cell? _ _ m0
            by_cases hjl : j < vs.length
            · have hjl' : (j : Int) < (vs.length : Int) := by omega
              have hvj : vs[j]? = some (vs.getD j 0) := by rw [List.getD_eq_getElem?_getD, List.getElem?_eq_getElem hjl]; rfl
              have hc := grow_cell (below_step hBx hBy) _ _ (HVF.out j hjl)
              have hvr := Hvr.out _ (List.mem_of_getElem? hvj)
              generalize vs.getD j 0 = v at hvj hc hvr
              obtain ⟨m, rfl⟩ : ∃ m : Nat, v = m := ⟨v.toNat, by omega⟩
              have Htk := hide (envF_take (z := z) (n := (n : Int)) (L := env0) hvj)
              have hva : va = some ⟨vb, vo, none⟩ := hvad (by omega)
              subst hva
              replace m0 := grow_cell hBy _ _ m0
              obtain ⟨e1, e2⟩ := hE.2.2.2 m (by omega)
              have hm5 : (m : Int) < 5 := by omega
              have hm0 : (0 : Int) ≤ (m : Int) := by omega
              have hk := Hkd.out j
              have Hkn : Hid (kd z n (j + 1) = kd z n j / z) := rfl
              rw [Int.toNat_natCast] at Htk
              generalize kd z n j = q at hk Hkn Htk
              obtain ⟨hk0, hk1⟩ := hk
              have hzz : z ≠ 0 := by omega
              have HS5 : Hid (EB wo (envF z (vs.take (j + 1)) n env0) (wr.setCell ⟨wo.heap.size, m, none⟩ (.int .i64 (q % z)))) := by
                rw [Htk.out]
                exact eb_step HE.out (by omega)
              have m0s : (wr.setCell ⟨wo.heap.size, m, none⟩ (.int .i64 (q % z))).cell? ⟨w.heap.size, 0, none⟩ = some (.int .i64 z) := (set_other (by intro e'; simp only [Addr.mk.injEq] at e'; omega)).trans m0
              clear hvj hvr hvad hE
              go_wp2_with fail
              go_roundw
              case rel => exact ⟨j + 1, by omega, by go_num, by rw [Hkn.out], HS5.out⟩
              case measure => simp [intOf]; omega
            · have hje : j = vs.length := by omega
              subst hje
              have Hq : Hid (NIn wr (envF z vs n env0) (.slice (some ⟨wo.heap.size, 0, none⟩) 5 5)) := by
                have := eb_nin HE.out
                rw [List.take_length] at this
                exact this
              have Hr : Hid (∀ x ∈ envF z vs n env0, 0 ≤ x ∧ x < z) := by
                have := Henv.out vs.length
                rw [List.take_length] at this
                exact this
              have Hc := hide (Hsome.out (envF z vs n env0) (by rw [envF_len]; rfl) Hr.out (.slice (some ⟨wo.heap.size, 0, none⟩) 5 5) wr hBz Hq.out)
              obtain ⟨V, hV⟩ : ∃ V, someH z tb (envOf (envF z vs n env0)) k = V := ⟨_, rfl⟩
              rw [hV] at Hc
              have HV := hide hV
              replace m0 := grow_cell hBy _ _ m0
              replace m1 := grow_cell hBy _ _ m1
              clear hE hV hvad
              go_wp2_with fail
              refine Hc.out.mono ?_
              rintro e w5 ⟨rfl, hb5⟩
              have Hend := hide (below_step (below_step hBx hBy) hb5)
              clear hb5
              cases V
              · have Hfin : Hid (holdsB z tb k = false) := by
                  rw [Hid, Hho.out, List.all_eq_false]
                  exact ⟨n, List.mem_range.2 (by omega), by rw [HV.out]; simp⟩
                go_wp2_with fail
                go_ret
                exact ⟨by rw [Hfin.out]; rfl, below_step hB2 Hend.out⟩
              · have Hnx : Hid (∀ q, q < n + 1 → someH z tb (envOf (envF z vs (q : Nat) env0)) k = true) := fun q hq => by
                  by_cases e : q = n
                  · rw [e]; exact HV.out
                  · exact Hok.out q (by omega)
                go_wp2_with fail
                go_roundw
                case rel => exact ⟨n + 1, by omega, by go_num, Hnx.out, Hend.out⟩
                case measure => simp [intOf]; omega
        · have Hfin : Hid (holdsB z tb k = true) := by
            rw [Hid, Hho.out, List.all_eq_true]
            intro q hq
            exact Hok.out q (by have := List.mem_range.1 hq; omega)
          go_wp2_with fail
          go_ret
          exact ⟨by rw [Hfin.out]; rfl, hBr⟩

end Go.Proofs.YtaliegkkdhkfcacGreatDoor

namespace Go.Proofs.YtaliegkkdhkfcacGreatDoor
open Go.RowKit Go.Deep Go.ChangeShapes Go.WideShapes
attribute [local go_sem ↓] Go.wp_at_zero Go.wp_at_succ

/-- Holds, of right clauses: the document's. -/
theorem holdsD_right {s : List Int} {z : Int} {tb : List (List Int)} (hm : MR s z tb) (hs : s.all okNum = true) {k : Cl} (hr : wrongC s k = 0) (mv a : Value) (w : World) (hT : TbIn w tb mv) (hS : CIn w k a) :
    Calls Tryz.prog 8 #[.agg #[.int .i64 z, mv], a] w fun e w' => e = .returned (.bool (holdsB z tb k)) ∧ Below w.heap.size w w' :=
  holdsR_any hm hs k mv a w hT hS (sigC_right hr) (sigC_vars (sigC_right hr)).2 (sigC_vars (sigC_right hr)).1
theorem holdsD_iff {s : List Int} {z : Int} {tb : List (List Int)} (hm : MR s z tb) {k : Cl} (hr : wrongC s k = 0) : holdsB z tb k = true ↔ holdsP z tb k := holds_iff hm.z1 (sigC_vars (sigC_right hr)).1

set_option maxRecDepth 100000 in
set_option maxHeartbeats 2000000 in
/-- Models, where all hold: the document's. -/
theorem modelsD_any {s : List Int} {z : Int} {tb : List (List Int)} (hm : MR s z tb) (hs : s.all okNum = true) (cs : List Cl) (hr : ∀ c ∈ cs, wrongC s c = 0 ∧ holdsB z tb c = true) (mv v : Value) (w : World) (hT : TbIn w tb mv) (hS : CsIn w cs v) :
    Calls Tryz.prog 11 #[.agg #[.int .i64 z, mv], v] w fun e w' => e = .returned (.bool true) ∧ Below w.heap.size w w' := by
  have HT := hide hT
  have Hm := hide hm
  have Hs := hide hs
  have Hr := hide hr
  obtain ⟨ta, tc, rfl⟩ := tb_slice hT
  obtain ⟨a1, c1, gb, go, rfl, had, hlc, hcm, hEl⟩ := hS
  unfold maxLen at hcm
  have HEl := hide hEl
  clear hT hm hs hr hEl
  go_enter Tryz.func11, Tryz.ntmps11
  go_upto_region 1 with fail
  generalize hW0 : w.alloc (.cells #[.int .i64 z, .slice ta tb.length tc] 28) = W0
  have hB0 : Below w.heap.size w W0 := by rw [← hW0]; exact below_alloc _ _
  have m0 : W0.cell? ⟨w.heap.size, 0, none⟩ = some (.int .i64 z) := by rw [← hW0]; exact new_cell rfl
  have m1 : W0.cell? ⟨w.heap.size, 1, none⟩ = some (.slice ta tb.length tc) := by rw [← hW0]; exact new_cell rfl
  clear hW0
  go_wp2_with fail
  go_loopw [9] (fun i wr => ∃ j : Nat, j ≤ cs.length ∧ i = .int .i64 j ∧ Below W0.heap.size W0 wr) (fun i _ => cs.length - (intOf i).toNat)
  case atStart => exact ⟨0, Nat.zero_le _, rfl, Below.refl _ _⟩
  case round =>
    obtain ⟨j, hj, rfl, hBr⟩ := hrel
    have hB1 := below_step hB0 hBr
    by_cases hlt : j < cs.length
    · have hlt' : (j : Int) < (cs.length : Int) := by omega
      obtain ⟨x, hx⟩ : ∃ x, cs[j]? = some x := ⟨cs[j]'hlt, by simp⟩
      obtain ⟨xv, p0, hX⟩ := HEl.out j x hx
      replace p0 := grow_cell hB1 _ _ p0
      have q0 := grow_cell hBr _ _ m0
      have q1 := grow_cell hBr _ _ m1
      have HX := hide (hX.below hB1)
      obtain ⟨x1, x3, rfl⟩ := slice_of_cl hX
      have ha1 : a1 = some ⟨gb, go, none⟩ := had (by omega)
      subst ha1
      have Hx := Hr.out x (List.mem_of_getElem? hx)
      have Hh := hide (holdsD_right Hm.out Hs.out Hx.1 _ _ wr (HT.out.below hB1) HX.out)
      rw [Hx.2] at Hh
      clear hx had hX Hx
      go_wp2_with fail
      refine Hh.out.mono ?_
      rintro e w5 ⟨rfl, hb5⟩
      replace hBr := below_step hBr hb5
      clear hb5 Hh
      go_wp2_with fail
      go_roundw
      case rel => exact ⟨j + 1, by omega, by go_num, hBr⟩
      case measure => simp [intOf]; omega
    · clear had
      go_wp2_with fail
      go_ret
      exact ⟨rfl, hB1⟩

set_option maxRecDepth 100000 in
set_option maxHeartbeats 8000000 in
theorem rulesHold_of (s : List Int) (sv : Value) (c : Cl) (cv : Value) (d : Cl) (dv : Value) (z : Int) (tb : List (List Int)) (mv : Value) (w : World) (hN : NIn w s sv) (hC : CIn w c cv) (hD : CIn w d dv) (hT : TbIn w tb mv) (hnc : ∀ l ∈ c, Fo.norm l.2.1.2 = l.2.1.2 ∧ Fo.norm l.2.2.2 = l.2.2.2) (hnd : ∀ l ∈ d, Fo.norm l.2.1.2 = l.2.1.2 ∧ Fo.norm l.2.2.2 = l.2.2.2) :
    Calls Tryz.prog 3 #[sv, cv, dv, .agg #[.int .i64 z, mv]] w fun e w' => e = .returned (.bool true) ∧ Below w.heap.size w w' := by
  obtain ⟨U, hU⟩ := uok_some
  have HU := hide hU
  have HN := hide hN
  have HC := hide hC
  have HD := hide hD
  have HT := hide hT
  obtain ⟨sa, sc, _, _, rfl, -, -, -, -⟩ := hN
  obtain ⟨c1, c3, rfl⟩ := slice_of_cl hC
  obtain ⟨d1, d3, rfl⟩ := slice_of_cl hD
  obtain ⟨ta, tc, rfl⟩ := tb_slice hT
  have Hnc := hide hnc
  have Hnd := hide hnd
  clear hU hC hD hT hnc hnd
  go_enter Tryz.func3, Tryz.ntmps3
  go_upto_region 1 with fail
  generalize hW0 : w.alloc (.cells #[.int .i64 z, .slice ta tb.length tc] 28) = wn
  have hB : Below w.heap.size w wn := by rw [← hW0]; exact below_alloc _ _
  have m0 : wn.cell? ⟨w.heap.size, 0, none⟩ = some (.int .i64 z) := by rw [← hW0]; exact new_cell rfl
  have m1 : wn.cell? ⟨w.heap.size, 1, none⟩ = some (.slice ta tb.length tc) := by rw [← hW0]; exact new_cell rfl
  generalize w.heap.size = bl at m0 m1 ⊢
  clear hW0
  go_wp2_with fail
  refine (alive6_any _).mono ?_
  rintro e w1 ⟨rfl, hb⟩
  replace hB := below_step hB hb
  replace m0 := grow_cell hb _ _ m0
  replace m1 := grow_cell hb _ _ m1
  clear hb
  generalize w1 = wn at *
  obtain ⟨B, hBe⟩ : ∃ B, rightC s [c, d] = B := ⟨_, rfl⟩
  have HBe := hide hBe
  have Hr : Hid (∀ wn : World, Below w.heap.size w wn → Calls Tryz.prog 6 #[.slice sa s.length sc, .slice (some ⟨wn.heap.size, 0, none⟩) 2 2] (wn.alloc (.cells #[.slice c1 c.length c3, .slice d1 d.length d3] 25)) fun e w' => e = .returned (.bool B) ∧ Below wn.heap.size wn w') := fun wn hb => by
    refine (rightR_any s _ [c, d] _ _ ((HN.out.below hb).alloc _) (cs_two (T := 25) (HC.out.below hb) (HD.out.below hb))).mono ?_
    rintro e w' ⟨rfl, hb'⟩
    exact ⟨by rw [hBe], below_box hb'⟩
  clear hBe
  go_wp2_with fail
  refine (Hr.out _ hB).mono ?_
  rintro e w1 ⟨rfl, hb⟩
  replace hB := below_step hB hb
  replace m0 := grow_cell hb _ _ m0
  replace m1 := grow_cell hb _ _ m1
  clear hb
  generalize w1 = wn at *
  clear Hr
  cases B
  · go_wp2_with fail
    go_ret
    exact ⟨rfl, hB⟩
  · have Hrt := hide (rightC_iff.1 HBe.out)
    have Hs : Hid (s.all okNum = true) := (wsig_ok Hrt.out.1).1
    have hwc : wrongC s c = 0 := Hrt.out.2.2 c (by simp)
    have hwd : wrongC s d = 0 := Hrt.out.2.2 d (by simp)
    have Hwc := hide hwc
    have Hwd := hide hwd
    have Hgc := hide (gc_rightN6 Hs.out Hnc.out hwc)
    have Hgd := hide (gc_rightN6 Hs.out Hnd.out hwd)
    have Hl4 : Hid (c.length ≤ 4) := Hgc.out.1
    have Hl4d : Hid (d.length ≤ 4) := Hgd.out.1
    clear hwc hwd
    go_wp2_with fail
    refine (wrongMR_any s _ z tb _ _ (HN.out.below hB) (HT.out.below hB) Hs.out).mono ?_
    rintro e w1 ⟨rfl, hb⟩
    replace hB := below_step hB hb
    replace m0 := grow_cell hb _ _ m0
    replace m1 := grow_cell hb _ _ m1
    clear hb
    generalize w1 = wn at *
    by_cases hm : wrongM s z tb = 0
    case neg =>
      have heb : (wrongM s z tb != 0) = true := by simp [hm]
      generalize wrongM s z tb = er at *
      clear hm
      go_wp2_with fail
      go_ret
      exact ⟨rfl, hB⟩
    case pos =>
      have Hm := hide (wrongM_ok hm)
      simp only [hm]
      clear hm
      have Hh : Hid (∀ wn : World, Below w.heap.size w wn → Calls Tryz.prog 8 #[.agg #[.int .i64 z, .slice ta tb.length tc], .slice c1 c.length c3] wn fun e w' => e = .returned (.bool (holdsB z tb c)) ∧ Below wn.heap.size wn w') := fun wn hb => holdsD_right Hm.out Hs.out Hwc.out _ _ wn (HT.out.below hb) (HC.out.below hb)
      obtain ⟨hc1, hc2⟩ : ∃ b, holdsB z tb c = b := ⟨_, rfl⟩
      rw [hc2] at Hh
      have Hc2 := hide hc2
      clear hc2
      go_wp2_with fail
      refine (Hh.out _ hB).mono ?_
      rintro e w1 ⟨rfl, hb⟩
      replace hB := below_step hB hb
      replace m0 := grow_cell hb _ _ m0
      replace m1 := grow_cell hb _ _ m1
      clear hb
      generalize w1 = wn at *
      cases hc1
      case false =>
        go_wp2_with fail
        go_ret
        exact ⟨rfl, hB⟩
      case true =>
        clear Hh
        have Hpc := hide ((holdsD_iff Hm.out Hwc.out).1 Hc2.out)
        have Hok1 : Hid (∀ x ∈ (resTo U c c.length).1, wrongC s x = 0 ∧ holdsB z tb x = true) := fun x hx => by
          obtain ⟨k1, k2⟩ := (res_ok HU.out Hs.out Hgc.out.g12 Hl4.out (sym_right Hwc.out) c.length).1 x hx
          exact ⟨k1.rt, (holdsD_iff Hm.out k1.rt).2 (k2 z tb Hm.out Hpc.out)⟩
        have Hok2 : Hid (∀ x ∈ (facTo U c c.length).1, wrongC s x = 0 ∧ holdsB z tb x = true) := fun x hx => by
          obtain ⟨k1, k2⟩ := (fac_ok HU.out Hs.out Hgc.out.g12 Hl4.out (sym_right Hwc.out) c.length).1 x hx
          exact ⟨k1.rt, (holdsD_iff Hm.out k1.rt).2 (k2 z tb Hm.out Hpc.out)⟩
        go_wp2_with fail
        refine (progResolve_any HU.out c _ _ (HC.out.below hB) Hgc.out.g12 Hl4.out).mono ?_
        rintro e w1 ⟨va, rfl, hA, hb⟩
        replace hB := below_step hB hb
        replace m0 := grow_cell hb _ _ m0
        replace m1 := grow_cell hb _ _ m1
        obtain ⟨za1, za3, rfl⟩ := slice_of_cs hA
        have HAa := hide hA
        generalize resTo U c c.length = sta at *
        clear hA hb
        generalize w1 = wn at *
        go_wp2_with fail
        refine (progFactor_any HU.out c _ _ (HC.out.below hB) Hgc.out.g12 Hl4.out).mono ?_
        rintro e w1 ⟨vb, rfl, hA, hb⟩
        replace hB := below_step hB hb
        replace m0 := grow_cell hb _ _ m0
        replace m1 := grow_cell hb _ _ m1
        replace HAa := hide (HAa.out.below hb)
        obtain ⟨zb1, zb3, rfl⟩ := slice_of_cs hA
        have HAb := hide hA
        generalize facTo U c c.length = stb at *
        clear hA hb
        generalize w1 = wn at *
        go_wp2_with fail
        refine (modelsD_any Hm.out Hs.out sta.1 Hok1.out _ _ _ (HT.out.below hB) HAa.out).mono ?_
        rintro e w1 ⟨rfl, hb⟩
        replace hB := below_step hB hb
        replace m0 := grow_cell hb _ _ m0
        replace m1 := grow_cell hb _ _ m1
        replace HAa := hide (HAa.out.below hb)
        replace HAb := hide (HAb.out.below hb)
        clear hb
        generalize w1 = wn at *
        go_wp2_with fail
        refine (modelsD_any Hm.out Hs.out stb.1 Hok2.out _ _ _ (HT.out.below hB) HAb.out).mono ?_
        rintro e w1 ⟨rfl, hb⟩
        replace hB := below_step hB hb
        replace m0 := grow_cell hb _ _ m0
        replace m1 := grow_cell hb _ _ m1
        replace HAa := hide (HAa.out.below hb)
        replace HAb := hide (HAb.out.below hb)
        clear hb
        generalize w1 = wn at *
        have Hh : Hid (∀ wn : World, Below w.heap.size w wn → Calls Tryz.prog 8 #[.agg #[.int .i64 z, .slice ta tb.length tc], .slice d1 d.length d3] wn fun e w' => e = .returned (.bool (holdsB z tb d)) ∧ Below wn.heap.size wn w') := fun wn hb => holdsD_right Hm.out Hs.out Hwd.out _ _ wn (HT.out.below hb) (HD.out.below hb)
        obtain ⟨hd1, hd2⟩ : ∃ b, holdsB z tb d = b := ⟨_, rfl⟩
        rw [hd2] at Hh
        have Hd2 := hide hd2
        clear hd2
        go_wp2_with fail
        refine (Hh.out _ hB).mono ?_
        rintro e w1 ⟨rfl, hb⟩
        replace hB := below_step hB hb
        replace m0 := grow_cell hb _ _ m0
        replace m1 := grow_cell hb _ _ m1
        replace HAa := hide (HAa.out.below hb)
        replace HAb := hide (HAb.out.below hb)
        clear hb
        generalize w1 = wn at *
        cases hd1
        case false =>
          go_wp2_with fail
          refine (modelsD_any Hm.out Hs.out sta.1 Hok1.out _ _ _ (HT.out.below hB) HAa.out).mono ?_
          rintro e w1 ⟨rfl, hb⟩
          replace hB := below_step hB hb
          replace m0 := grow_cell hb _ _ m0
          replace m1 := grow_cell hb _ _ m1
          replace HAb := hide (HAb.out.below hb)
          clear hb
          generalize w1 = wn at *
          go_wp2_with fail
          refine (modelsD_any Hm.out Hs.out stb.1 Hok2.out _ _ _ (HT.out.below hB) HAb.out).mono ?_
          rintro e w1 ⟨rfl, hb⟩
          replace hB := below_step hB hb
          replace m0 := grow_cell hb _ _ m0
          replace m1 := grow_cell hb _ _ m1
          clear hb
          generalize w1 = wn at *
          go_wp2_with fail
          go_ret
          exact ⟨rfl, hB⟩
        case true =>
          clear Hh
          have Hpd := hide ((holdsD_iff Hm.out Hwd.out).1 Hd2.out)
          have Hok3 : Hid (∀ x ∈ (supTo U c (d.map (mapL (subT (ren 5)))) c.length).1, wrongC s x = 0 ∧ holdsB z tb x = true) := fun x hx => by
            obtain ⟨k1, k2⟩ := (sup_ok HU.out Hs.out Hgc.out.g12 Hl4.out (sym_right Hwc.out) (ren_g12L Hgd.out) (by rw [List.length_map]; exact Hl4d.out) (sym_ren Hwd.out) c.length).1 x hx
            exact ⟨k1.rt, (holdsD_iff Hm.out k1.rt).2 (k2 z tb Hm.out Hpc.out (ren_holds Hpd.out))⟩
          have Hok4 : Hid (∀ x ∈ (supTo U d (c.map (mapL (subT (ren 5)))) d.length).1, wrongC s x = 0 ∧ holdsB z tb x = true) := fun x hx => by
            obtain ⟨k1, k2⟩ := (sup_ok HU.out Hs.out Hgd.out.g12 Hl4d.out (sym_right Hwd.out) (ren_g12L Hgc.out) (by rw [List.length_map]; exact Hl4.out) (sym_ren Hwc.out) d.length).1 x hx
            exact ⟨k1.rt, (holdsD_iff Hm.out k1.rt).2 (k2 z tb Hm.out Hpd.out (ren_holds Hpc.out))⟩
          clear HAa HAb Hok1 Hok2
          go_wp2_with fail
          refine (progSup_any HU.out c _ d _ _ (HC.out.below hB) Hgc.out.g12 Hl4.out (HD.out.below hB) Hl4d.out (gc_oknar Hgd.out) (ren_g12L Hgd.out)).mono ?_
          rintro e w1 ⟨vx, rfl, hA, hb⟩
          replace hB := below_step hB hb
          replace m0 := grow_cell hb _ _ m0
          replace m1 := grow_cell hb _ _ m1
          obtain ⟨zx1, zx3, rfl⟩ := slice_of_cs hA
          have HAx := hide hA
          generalize supTo U c (d.map (mapL (subT (ren 5)))) c.length = stx at *
          clear hA hb
          generalize w1 = wn at *
          go_wp2_with fail
          refine (progSup_any HU.out d _ c _ _ (HD.out.below hB) Hgd.out.g12 Hl4d.out (HC.out.below hB) Hl4.out (gc_oknar Hgc.out) (ren_g12L Hgc.out)).mono ?_
          rintro e w1 ⟨vy, rfl, hA, hb⟩
          replace hB := below_step hB hb
          replace m0 := grow_cell hb _ _ m0
          replace m1 := grow_cell hb _ _ m1
          replace HAx := hide (HAx.out.below hb)
          obtain ⟨zy1, zy3, rfl⟩ := slice_of_cs hA
          have HAy := hide hA
          generalize supTo U d (c.map (mapL (subT (ren 5)))) d.length = sty at *
          clear hA hb
          generalize w1 = wn at *
          go_wp2_with fail
          refine (modelsD_any Hm.out Hs.out stx.1 Hok3.out _ _ _ (HT.out.below hB) HAx.out).mono ?_
          rintro e w1 ⟨rfl, hb⟩
          replace hB := below_step hB hb
          replace m0 := grow_cell hb _ _ m0
          replace m1 := grow_cell hb _ _ m1
          replace HAy := hide (HAy.out.below hb)
          clear hb
          generalize w1 = wn at *
          go_wp2_with fail
          refine (modelsD_any Hm.out Hs.out sty.1 Hok4.out _ _ _ (HT.out.below hB) HAy.out).mono ?_
          rintro e w1 ⟨rfl, hb⟩
          replace hB := below_step hB hb
          replace m0 := grow_cell hb _ _ m0
          replace m1 := grow_cell hb _ _ m1
          clear hb
          generalize w1 = wn at *
          go_wp2_with fail
          go_ret
          exact ⟨rfl, hB⟩

end Go.Proofs.YtaliegkkdhkfcacGreatDoor
