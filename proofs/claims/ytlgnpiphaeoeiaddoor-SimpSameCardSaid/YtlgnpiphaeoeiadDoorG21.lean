/- C4T DText A6 A7 L7E CMw -/
import Derived.Test.YtlgnpiphaeoeiadDoorG20
import Derived.Maps.StringElems
namespace Go.Proofs.YtlgnpiphaeoeiadDoor
open Go.RowKit Go.Deep Go.ChangeShapes Go.WideShapes
theorem textL_len4 {l : Lt} (h : TxT l.2.1 ∧ TxT l.2.2) : (textL l).length ≤ 2002 := by
  have h1 := h.1.2.2
  have h2 := h.2.2.2
  simp only [textL, List.length_append]
  split <;> simp <;> omega
end Go.Proofs.YtlgnpiphaeoeiadDoor

namespace Go.Proofs.YtlgnpiphaeoeiadDoor
open Go.RowKit Go.Deep Go.ChangeShapes Go.WideShapes Go.Maps
attribute [local go_sem ↓] Go.wp_at_zero Go.wp_at_succ
theorem keyed4 : Keyed Tryd.prog 4 := bool_keyed Tryd.underlying4
abbrev OMs (w : World) (b n : Nat) (D : MD) : Prop := w.ownsMap Tryd.prog 4 (plainElem (H := Unit) Tryd.prog 9) b n D
theorem oms_below {w w' : World} {b n : Nat} {D : MD} (h : OMs w b n D) (hb : Below w.heap.size w w') : OMs w' b n D := by
  have hlt := h.lt
  obtain ⟨es, clock, h1, h2⟩ := h
  exact ⟨es, clock, (hb.block b hlt).trans h1, h2⟩
def nS (D : Nat → Bool) : Nat := (D 4).toNat + (D 5).toNat
def TelS (Dm : MD) (D : Nat → Bool) : Prop := IsMap Dm ∧ (D 4 = true → Dm.atKey (.bool true) (.lit (.string [])) = .lit (.string [33, 61])) ∧ (D 5 = true → Dm.atKey (.bool false) (.lit (.string [])) = .lit (.string [61]))
def sgnB (yn : Bool) : ByteArray := if yn then ⟨#[33, 61]⟩ else ⟨#[61]⟩
theorem sgn_size (yn : Bool) : (sgnB yn).size ≤ 2 := by cases yn <;> decide
theorem sgnB_len (yn : Bool) : (sgnB yn).data.toList.length ≤ 2 := by cases yn <;> decide
theorem sgn_text (l : Lt) : (textT l.2.1.1 l.2.1.2 ++ (sgnB l.1).data.toList) ++ textT l.2.2.1 l.2.2.2 = textL l := by
  rw [textL, List.append_assoc]
  cases l.1 <;> rfl
structure RT (W : World) (B : Nat) (yn : Bool) (xa ya : Value) (TL TR : List UInt8) (D : Nat → Bool) (w : World) (s14 s15 s16 s17 s18 s19 s20 s21 s22 s23 s24 s25 s26 s6 : Value) : Prop where
  hb : Below W.heap.size W w
  h0 : D 0 = true → s14 = .pointer (some ⟨B, 1, none⟩)
  h1 : D 1 = true → s15 = xa
  h2 : D 2 = true → ∃ U : ByteArray, s16 = .string U ∧ U.data.toList = TL
  h3 : D 3 = true → ∃ (b : Nat) (Dm : MD), s17 = .map (some b) ∧ W.heap.size ≤ b ∧ OMs w b (nS D) Dm ∧ TelS Dm D
  h4 : D 3 = false → D 4 = false ∧ D 5 = false
  h5 : True
  h6 : D 6 = true → s18 = s17 ∧ D 3 = true ∧ D 4 = true ∧ D 5 = true
  h7 : D 7 = true → s19 = .pointer (some ⟨B, 0, none⟩)
  h8 : D 8 = true → s20 = .bool yn
  h9 : D 9 = true → s21 = .string (sgnB yn)
  h10 : D 10 = true → ∃ U : ByteArray, s22 = .string U ∧ U.data.toList = TL ++ (sgnB yn).data.toList
  h11 : D 11 = true → s23 = .pointer (some ⟨B, 4, none⟩)
  h12 : D 12 = true → s24 = ya
  h13 : D 13 = true → ∃ U : ByteArray, s25 = .string U ∧ U.data.toList = TR
  h14 : D 14 = true → ∃ U : ByteArray, s26 = .string U ∧ U.data.toList = (TL ++ (sgnB yn).data.toList) ++ TR
  h15 : D 15 = true → ∃ U : ByteArray, s6 = .string U ∧ U.data.toList = (TL ++ (sgnB yn).data.toList) ++ TR
section
variable {W : World} {B : Nat} {yn : Bool} {xa ya : Value} {TL TR : List UInt8} {D : Nat → Bool} {w w' : World} {s14 s15 s16 s17 s18 s19 s20 s21 s22 s23 s24 s25 s26 s6 : Value}
theorem RT.at0 (h : RT W B yn xa ya TL TR D w s14 s15 s16 s17 s18 s19 s20 s21 s22 s23 s24 s25 s26 s6) : RT W B yn xa ya TL TR (fun j => j == 0 || D j) w (.pointer (some ⟨B, 1, none⟩)) s15 s16 s17 s18 s19 s20 s21 s22 s23 s24 s25 s26 s6 :=
  ⟨h.hb, fun _ => rfl, h.h1, h.h2, h.h3, h.h4, h.h5, h.h6, h.h7, h.h8, h.h9, h.h10, h.h11, h.h12, h.h13, h.h14, h.h15⟩
theorem RT.at1 (h : RT W B yn xa ya TL TR D w s14 s15 s16 s17 s18 s19 s20 s21 s22 s23 s24 s25 s26 s6) : RT W B yn xa ya TL TR (fun j => j == 1 || D j) w s14 (xa) s16 s17 s18 s19 s20 s21 s22 s23 s24 s25 s26 s6 :=
  ⟨h.hb, h.h0, fun _ => rfl, h.h2, h.h3, h.h4, h.h5, h.h6, h.h7, h.h8, h.h9, h.h10, h.h11, h.h12, h.h13, h.h14, h.h15⟩
theorem RT.at2 (h : RT W B yn xa ya TL TR D w s14 s15 s16 s17 s18 s19 s20 s21 s22 s23 s24 s25 s26 s6) {U : ByteArray} (hU : U.data.toList = TL) (hb : Below w.heap.size w w') : RT W B yn xa ya TL TR (fun j => j == 2 || D j) w' s14 s15 (.string U) s17 s18 s19 s20 s21 s22 s23 s24 s25 s26 s6 :=
  ⟨below_step h.hb hb, h.h0, h.h1, fun _ => ⟨U, rfl, hU⟩, fun e => by
    obtain ⟨b, Dm, h1, h2, h3, h4⟩ := h.h3 e
    exact ⟨b, Dm, h1, h2, oms_below h3 hb, h4⟩, h.h4, h.h5, h.h6, h.h7, h.h8, h.h9, h.h10, h.h11, h.h12, h.h13, h.h14, h.h15⟩
theorem RT.at3 (h : RT W B yn xa ya TL TR D w s14 s15 s16 s17 s18 s19 s20 s21 s22 s23 s24 s25 s26 s6) (h3 : D 3 = false) : RT W B yn xa ya TL TR (fun j => j == 3 || D j) (w.alloc (.map #[] 0)) s14 s15 s16 (.map (some w.heap.size)) s18 s19 s20 s21 s22 s23 s24 s25 s26 s6 := by
  obtain ⟨d4, d5⟩ := h.h4 h3
  refine ⟨h.hb.alloc h.hb.size _, h.h0, h.h1, h.h2, fun _ => ⟨w.heap.size, .map [], rfl, h.hb.size, ?_, ?_⟩, fun e => absurd (show true = false from e) (by decide), trivial, fun e => ?_, h.h7, h.h8, h.h9, h.h10, h.h11, h.h12, h.h13, h.h14, h.h15⟩
  · have : nS (fun j => j == 3 || D j) = 0 := by
      show (D 4).toNat + (D 5).toNat = 0
      rw [d4, d5]; rfl
    rw [this]
    exact World.ownsMap_made _ _ _ _
  · exact ⟨isMap_empty, fun e => (by rw [show D 4 = true from e] at d4; cases d4), fun e => (by rw [show D 5 = true from e] at d5; cases d5)⟩
  · have := (h.h6 e).2.1
    rw [h3] at this
    cases this
theorem RT.at4 (h : RT W B yn xa ya TL TR D w s14 s15 s16 s17 s18 s19 s20 s21 s22 s23 s24 s25 s26 s6) (h3 : D 3 = true) (hD : D 4 = false) :
    ∃ (b : Nat) (w' : World), s17 = .map (some b) ∧ (Instr.mapUpdate 76 (.map (some b)) (.bool true) (.string ⟨#[33, 61]⟩)).run Tryd.prog w = .ok () w' ∧ RT W B yn xa ya TL TR (fun j => j == 4 || D j) w' s14 s15 s16 s17 s18 s19 s20 s21 s22 s23 s24 s25 s26 s6 := by
  obtain ⟨b, Dm, h1, h2, hO, hT⟩ := h.h3 h3
  have hnb : nS D < maxLen := by
    unfold nS maxLen
    have q : ∀ b : Bool, b.toNat ≤ 1 := fun b => by cases b <;> decide
    have := q (D 4)
    have := q (D 5)
    omega
  obtain ⟨w', hrun, hO', hg⟩ := hO.update keyed4 Tryd.underlying76 hnb (keyOf_bool_mk Tryd.underlying4 true) (plainElem_string Tryd.underlying9 (s := ⟨#[33, 61]⟩) (by unfold maxLen; decide))
  refine ⟨b, w', h1, hrun, ⟨h.hb.grown hg h.hb.size (fun j hj => by cases hj; exact h2), h.h0, h.h1, h.h2, fun _ => ⟨b, Dm.put (.bool true) (.lit (.string [33, 61])), h1, h2, ?_, ?_⟩, fun e => (by rw [show D 3 = false from e] at h3; cases h3), trivial, fun e => ?_, h.h7, h.h8, h.h9, h.h10, h.h11, h.h12, h.h13, h.h14, h.h15⟩⟩
  · have : nS (fun j => j == 4 || D j) = nS D + 1 := by
      show 1 + (D 5).toNat = nS D + 1
      unfold nS; rw [hD]; simp; omega
    rw [this]
    exact hO'
  · refine ⟨hT.1.put _ _, fun e => ?_, fun e => ?_⟩
    · exact atKey_put_same hT.1 (show WideAt.IsKeyLit (.bool true) from trivial) _ _
    · rw [atKey_put_other (by intro e; injection e with e; cases e)]; exact hT.2.2 e
  · obtain ⟨q1, q2, q3, q4⟩ := h.h6 e
    exact ⟨q1, q2, rfl, q4⟩
theorem RT.at5 (h : RT W B yn xa ya TL TR D w s14 s15 s16 s17 s18 s19 s20 s21 s22 s23 s24 s25 s26 s6) (h3 : D 3 = true) (hD : D 5 = false) :
    ∃ (b : Nat) (w' : World), s17 = .map (some b) ∧ (Instr.mapUpdate 76 (.map (some b)) (.bool false) (.string ⟨#[61]⟩)).run Tryd.prog w = .ok () w' ∧ RT W B yn xa ya TL TR (fun j => j == 5 || D j) w' s14 s15 s16 s17 s18 s19 s20 s21 s22 s23 s24 s25 s26 s6 := by
  obtain ⟨b, Dm, h1, h2, hO, hT⟩ := h.h3 h3
  have hnb : nS D < maxLen := by
    unfold nS maxLen
    have q : ∀ b : Bool, b.toNat ≤ 1 := fun b => by cases b <;> decide
    have := q (D 4)
    have := q (D 5)
    omega
  obtain ⟨w', hrun, hO', hg⟩ := hO.update keyed4 Tryd.underlying76 hnb (keyOf_bool_mk Tryd.underlying4 false) (plainElem_string Tryd.underlying9 (s := ⟨#[61]⟩) (by unfold maxLen; decide))
  refine ⟨b, w', h1, hrun, ⟨h.hb.grown hg h.hb.size (fun j hj => by cases hj; exact h2), h.h0, h.h1, h.h2, fun _ => ⟨b, Dm.put (.bool false) (.lit (.string [61])), h1, h2, ?_, ?_⟩, fun e => (by rw [show D 3 = false from e] at h3; cases h3), trivial, fun e => ?_, h.h7, h.h8, h.h9, h.h10, h.h11, h.h12, h.h13, h.h14, h.h15⟩⟩
  · have : nS (fun j => j == 5 || D j) = nS D + 1 := by
      show (D 4).toNat + 1 = nS D + 1
      unfold nS; rw [hD]; simp
    rw [this]
    exact hO'
  · refine ⟨hT.1.put _ _, fun e => ?_, fun e => ?_⟩
    · rw [atKey_put_other (by intro e; injection e with e; cases e)]; exact hT.2.1 e
    · exact atKey_put_same hT.1 (show WideAt.IsKeyLit (.bool false) from trivial) _ _
  · obtain ⟨q1, q2, q3, q4⟩ := h.h6 e
    exact ⟨q1, q2, q3, rfl⟩
theorem RT.at6 (h : RT W B yn xa ya TL TR D w s14 s15 s16 s17 s18 s19 s20 s21 s22 s23 s24 s25 s26 s6) (h3 : D 3 = true) (h4 : D 4 = true) (h5 : D 5 = true) : RT W B yn xa ya TL TR (fun j => j == 6 || D j) w s14 s15 s16 s17 (s17) s19 s20 s21 s22 s23 s24 s25 s26 s6 :=
  ⟨h.hb, h.h0, h.h1, h.h2, h.h3, h.h4, trivial, fun _ => ⟨rfl, h3, h4, h5⟩, h.h7, h.h8, h.h9, h.h10, h.h11, h.h12, h.h13, h.h14, h.h15⟩
theorem RT.at7 (h : RT W B yn xa ya TL TR D w s14 s15 s16 s17 s18 s19 s20 s21 s22 s23 s24 s25 s26 s6) : RT W B yn xa ya TL TR (fun j => j == 7 || D j) w s14 s15 s16 s17 s18 (.pointer (some ⟨B, 0, none⟩)) s20 s21 s22 s23 s24 s25 s26 s6 :=
  ⟨h.hb, h.h0, h.h1, h.h2, h.h3, h.h4, h.h5, h.h6, fun _ => rfl, h.h8, h.h9, h.h10, h.h11, h.h12, h.h13, h.h14, h.h15⟩
theorem RT.at8 (h : RT W B yn xa ya TL TR D w s14 s15 s16 s17 s18 s19 s20 s21 s22 s23 s24 s25 s26 s6) : RT W B yn xa ya TL TR (fun j => j == 8 || D j) w s14 s15 s16 s17 s18 s19 (.bool yn) s21 s22 s23 s24 s25 s26 s6 :=
  ⟨h.hb, h.h0, h.h1, h.h2, h.h3, h.h4, h.h5, h.h6, h.h7, fun _ => rfl, h.h9, h.h10, h.h11, h.h12, h.h13, h.h14, h.h15⟩
theorem RT.at9 (h : RT W B yn xa ya TL TR D w s14 s15 s16 s17 s18 s19 s20 s21 s22 s23 s24 s25 s26 s6) (h6 : D 6 = true) :
    ∃ b : Nat, s18 = .map (some b) ∧ (Instr.lookup 76 (.map (some b)) (.bool yn) false).run Tryd.prog w = .ok (.string (sgnB yn)) w ∧ RT W B yn xa ya TL TR (fun j => j == 9 || D j) w s14 s15 s16 s17 s18 s19 s20 (.string (sgnB yn)) s22 s23 s24 s25 s26 s6 := by
  obtain ⟨q1, q2, q3, q4⟩ := h.h6 h6
  obtain ⟨b, Dm, h1, h2, hO, hT⟩ := h.h3 q2
  obtain ⟨v, ps, hrun, hv⟩ := hO.lookup keyed4 Tryd.underlying76 (z := .string ⟨#[]⟩) (by kernel_rfl) (plainElem_string Tryd.underlying9 (s := ⟨#[]⟩) (by unfold maxLen; decide)) (keyOf_bool_mk Tryd.underlying4 yn)
  obtain ⟨s, rfl, hz, _⟩ := plainElem_string_inv Tryd.underlying9 hv
  have hs : s = sgnB yn := by
    simp only [Prod.mk.injEq] at hz
    have h2 := hz.1
    cases yn with
    | true => exact byte_eq (Lit.string.inj (DataW.lit.inj (h2.symm.trans (hT.2.1 q3))))
    | false => exact byte_eq (Lit.string.inj (DataW.lit.inj (h2.symm.trans (hT.2.2 q4))))
  subst hs
  exact ⟨b, q1.trans h1, hrun, ⟨h.hb, h.h0, h.h1, h.h2, h.h3, h.h4, trivial, h.h6, h.h7, h.h8, fun _ => rfl, h.h10, h.h11, h.h12, h.h13, h.h14, h.h15⟩⟩
theorem RT.at10 (h : RT W B yn xa ya TL TR D w s14 s15 s16 s17 s18 s19 s20 s21 s22 s23 s24 s25 s26 s6) {U : ByteArray} (hU : U.data.toList = TL ++ (sgnB yn).data.toList) : RT W B yn xa ya TL TR (fun j => j == 10 || D j) w s14 s15 s16 s17 s18 s19 s20 s21 (.string U) s23 s24 s25 s26 s6 :=
  ⟨h.hb, h.h0, h.h1, h.h2, h.h3, h.h4, h.h5, h.h6, h.h7, h.h8, h.h9, fun _ => ⟨U, rfl, hU⟩, h.h11, h.h12, h.h13, h.h14, h.h15⟩
theorem RT.at11 (h : RT W B yn xa ya TL TR D w s14 s15 s16 s17 s18 s19 s20 s21 s22 s23 s24 s25 s26 s6) : RT W B yn xa ya TL TR (fun j => j == 11 || D j) w s14 s15 s16 s17 s18 s19 s20 s21 s22 (.pointer (some ⟨B, 4, none⟩)) s24 s25 s26 s6 :=
  ⟨h.hb, h.h0, h.h1, h.h2, h.h3, h.h4, h.h5, h.h6, h.h7, h.h8, h.h9, h.h10, fun _ => rfl, h.h12, h.h13, h.h14, h.h15⟩
theorem RT.at12 (h : RT W B yn xa ya TL TR D w s14 s15 s16 s17 s18 s19 s20 s21 s22 s23 s24 s25 s26 s6) : RT W B yn xa ya TL TR (fun j => j == 12 || D j) w s14 s15 s16 s17 s18 s19 s20 s21 s22 s23 (ya) s25 s26 s6 :=
  ⟨h.hb, h.h0, h.h1, h.h2, h.h3, h.h4, h.h5, h.h6, h.h7, h.h8, h.h9, h.h10, h.h11, fun _ => rfl, h.h13, h.h14, h.h15⟩
theorem RT.at13 (h : RT W B yn xa ya TL TR D w s14 s15 s16 s17 s18 s19 s20 s21 s22 s23 s24 s25 s26 s6) {U : ByteArray} (hU : U.data.toList = TR) (hb : Below w.heap.size w w') : RT W B yn xa ya TL TR (fun j => j == 13 || D j) w' s14 s15 s16 s17 s18 s19 s20 s21 s22 s23 s24 (.string U) s26 s6 :=
  ⟨below_step h.hb hb, h.h0, h.h1, h.h2, fun e => by
    obtain ⟨b, Dm, h1, h2, h3, h4⟩ := h.h3 e
    exact ⟨b, Dm, h1, h2, oms_below h3 hb, h4⟩, h.h4, h.h5, h.h6, h.h7, h.h8, h.h9, h.h10, h.h11, h.h12, fun _ => ⟨U, rfl, hU⟩, h.h14, h.h15⟩
theorem RT.at14 (h : RT W B yn xa ya TL TR D w s14 s15 s16 s17 s18 s19 s20 s21 s22 s23 s24 s25 s26 s6) {U : ByteArray} (hU : U.data.toList = (TL ++ (sgnB yn).data.toList) ++ TR) : RT W B yn xa ya TL TR (fun j => j == 14 || D j) w s14 s15 s16 s17 s18 s19 s20 s21 s22 s23 s24 s25 (.string U) s6 :=
  ⟨h.hb, h.h0, h.h1, h.h2, h.h3, h.h4, h.h5, h.h6, h.h7, h.h8, h.h9, h.h10, h.h11, h.h12, h.h13, fun _ => ⟨U, rfl, hU⟩, h.h15⟩
theorem RT.at15 (h : RT W B yn xa ya TL TR D w s14 s15 s16 s17 s18 s19 s20 s21 s22 s23 s24 s25 s26 s6) {U : ByteArray} (hU : U.data.toList = (TL ++ (sgnB yn).data.toList) ++ TR) : RT W B yn xa ya TL TR (fun j => j == 15 || D j) w s14 s15 s16 s17 s18 s19 s20 s21 s22 s23 s24 s25 s26 (.string U) :=
  ⟨h.hb, h.h0, h.h1, h.h2, h.h3, h.h4, h.h5, h.h6, h.h7, h.h8, h.h9, h.h10, h.h11, h.h12, h.h13, h.h14, fun _ => ⟨U, rfl, hU⟩⟩
theorem RT.start (h : Below W.heap.size W w) : RT W B yn xa ya TL TR (fun _ => false) w s14 s15 s16 s17 s18 s19 s20 s21 s22 s23 s24 s25 s26 s6 :=
  ⟨h, fun e => (by cases e), fun e => (by cases e), fun e => (by cases e), fun e => (by cases e), fun _ => ⟨rfl, rfl⟩, trivial, fun e => (by cases e), fun e => (by cases e), fun e => (by cases e), fun e => (by cases e), fun e => (by cases e), fun e => (by cases e), fun e => (by cases e), fun e => (by cases e), fun e => (by cases e), fun e => (by cases e)⟩
end
theorem join_snoc {x : List UInt8} : ∀ {r : List (List UInt8)}, r ≠ [] → Lib.join (r ++ [x]) sepL = (Lib.join r sepL ++ sepL) ++ x
  | [], h => absurd rfl h
  | [y], _ => by
    show Lib.join (y :: x :: []) sepL = _
    rw [join_cons2, Lib.join_one, Lib.join_one, List.append_assoc]
  | y :: z :: r, _ => by
    show Lib.join (y :: z :: (r ++ [x])) sepL = _
    rw [join_cons2, join_cons2]
    have := join_snoc (x := x) (r := z :: r) (by simp)
    rw [List.cons_append] at this
    rw [this]
    simp only [List.append_assoc]
theorem textC_take {k : Cl} {j : Nat} {l : Lt} (h : k[j]? = some l) : textC (k.take (j + 1)) = if j = 0 then textL l else (textC (k.take j) ++ sepL) ++ textL l := by
  have hj : j < k.length := (List.getElem?_eq_some_iff.1 h).1
  have hl1 : ¬ (k.take (j + 1)).length = 0 := by rw [List.length_take]; omega
  rw [textC, if_neg hl1, List.take_add_one, h]
  by_cases h0 : j = 0
  · subst h0
    rw [if_pos rfl]
    simp [Lib.join_one]
  · rw [if_neg h0]
    have hl2 : ¬ (k.take j).length = 0 := by rw [List.length_take]; omega
    rw [textC, if_neg hl2]
    show Lib.join ((k.take j ++ [l]).map textL) sepL = _
    rw [List.map_append]
    exact join_snoc (fun e => hl2 (by rw [List.map_eq_nil_iff.1 e]; rfl))
theorem textC_le {k : Cl} (h : ∀ l ∈ k, TxT l.2.1 ∧ TxT l.2.2) : ∀ j, j ≤ k.length → (textC (k.take j)).length ≤ 2 + j * 2010
  | 0, _ => by simp [textC]
  | j + 1, hj => by
    have hy : k[j]? = some (k[j]'(by omega)) := by simp
    have ih := textC_le h j (by omega)
    have hl := textL_len4 (h _ (List.getElem_mem (by omega : j < k.length)))
    rw [textC_take hy]
    split
    · omega
    · simp only [List.length_append, List.length_cons, List.length_nil]
      omega
set_option maxRecDepth 100000 in
set_option maxHeartbeats 4000000 in
theorem textCR_any (k : Cl) (a : Value) (w : World) (hS : CIn w k a) (ht : ∀ l ∈ k, TxT l.2.1 ∧ TxT l.2.2) (hlen : k.length ≤ 1000) :
    Calls Tryd.prog 20 #[a] w fun e w' => ∃ D : ByteArray, e = .returned (.string D) ∧ D.data.toList = textC k ∧ Below w.heap.size w w' := by
  obtain ⟨a1, c1, b1, o1, rfl, had1, hlc1, hcm1, hF1⟩ := hS
  unfold maxLen at hcm1
  have HF1 := hide hF1
  have Ht := hide ht
  clear hF1 ht
  go_enter Tryd.func20, Tryd.ntmps20
  go_wp2_with fail
  go_loopw [3, 9] (fun s i wr => ∃ (j : Nat) (U : ByteArray), j ≤ k.length ∧ i = .int .i64 j ∧ s = .string U ∧ U.data.toList = textC (k.take j) ∧ Below w.heap.size w wr) (fun _ i _ => k.length - (intOf i).toNat)
  case atStart => exact ⟨0, _, Nat.zero_le _, rfl, rfl, rfl, Below.refl _ _⟩
  case round =>
    obtain ⟨j, U, hj, rfl, rfl, hU, hBr⟩ := hrel
    have HU := hide hU
    have hUs : U.size ≤ 2100000 := by rw [ba_size hU]; have := textC_le Ht.out j hj; omega
    clear hU
    by_cases hlt : j < k.length
    · have hlt' : (j : Int) < (k.length : Int) := by omega
      obtain ⟨⟨yn, ⟨⟨yv, yi⟩, yk⟩, ⟨yv', yi'⟩, yk'⟩, hy⟩ : ∃ y, k[j]? = some y := ⟨k[j]'hlt, by simp⟩
      obtain ⟨p0, p1, p2, ⟨u3, p3, hA⟩, p4, p5, u6, p6, hD⟩ := (HF1.out.below hBr).at hy
      have ha1 : a1 = some ⟨b1, o1, none⟩ := had1 (by omega)
      subst ha1
      have HA := hide hA
      have HD := hide hD
      obtain ⟨ya, yc, _, _, rfl, -, -, -, -⟩ := hA
      obtain ⟨za, zc, _, _, rfl, -, -, -, -⟩ := hD
      have hty := Ht.out _ (List.mem_of_getElem? hy)
      have Hl1 : Hid ((textT (yv, yi) yk).length ≤ 1000) := hty.1.2.2
      have Hl2 : Hid ((textT (yv', yi') yk').length ≤ 1000) := hty.2.2.2
      have Hty := hide hty
      have Htk := hide (textC_take hy)
      have Hsg : Hid ((textT (yv, yi) yk ++ (sgnB yn).data.toList) ++ textT (yv', yi') yk' = textL (yn, ((yv, yi), yk), ((yv', yi'), yk'))) := sgn_text (yn, ((yv, yi), yk), ((yv', yi'), yk'))
      have Hle : Hid ((textL (yn, ((yv, yi), yk), ((yv', yi'), yk'))).length ≤ 2002) := textL_len4 (l := (yn, ((yv, yi), yk), ((yv', yi'), yk'))) hty
      clear hy had1 hty
      simp only at *
      go_upto_region 5 with fail
      generalize hwa : wr.alloc (.cells #[.bool yn, .bool yv, .int .i64 yi, .slice ya (Fo.len yk) yc, .bool yv', .int .i64 yi', .slice za (Fo.len yk') zc] 39) = wa
      obtain ⟨g0, g1, g2, g3, g4, g5, g6, -, hba, hsa⟩ := lit_cells (T := 39) (x0 := .bool yn) (w := wr) (wr := wa) (x1 := .bool yv) (x2 := .int .i64 yi) (x3 := .slice ya (Fo.len yk) yc) (x4 := .bool yv') (x5 := .int .i64 yi') (x6 := .slice za (Fo.len yk') zc) (by rw [← hwa]; exact Below.refl _ _)
      have Hc1 := hide (fun (w' : World) (hb : Below wa.heap.size wa w') => textR_any (yv, yi) yk (.slice ya (Fo.len yk) yc) w' (HA.out.below (below_step hba hb)) Hty.out.1.1 Hty.out.1.2.1 (by have := Hl1.out; omega))
      have Hc2 := hide (fun (w' : World) (hb : Below wa.heap.size wa w') => textR_any (yv', yi') yk' (.slice za (Fo.len yk') zc) w' (HD.out.below (below_step hba hb)) Hty.out.2.1 Hty.out.2.2.1 (by have := Hl2.out; omega))
      simp only at Hc1 Hc2
      clear hwa p0 p1 p2 p3 p4 p5 p6
      go_cut [6] (fun s6 wx => ∃ V : ByteArray, s6 = .string V ∧ V.data.toList = textL (yn, ((yv, yi), yk), ((yv', yi'), yk')) ∧ Below wa.heap.size wa wx)
      case first =>
        refine region_inv (fun D a w' => ∃ s14 s15 s16 s17 s18 s19 s20 s21 s22 s23 s24 s25 s26 s6 : Value, a = ⟨#[.slice (some ⟨b1, o1, none⟩) k.length c1, undef, .string ⟨#[]⟩, .string U, .int .i64 j, .pointer (some ⟨wr.heap.size, 0, none⟩), s6, .slice (some ⟨b1, o1, none⟩) k.length c1, .int .i64 k.length, .int .i64 j, .bool true, .int .i64 j, .pointer (some ⟨b1, o1 + j * 7, none⟩), .agg #[.bool yn, .bool yv, .int .i64 yi, .slice ya (Fo.len yk) yc, .bool yv', .int .i64 yi', .slice za (Fo.len yk') zc], s14, s15, s16, s17, s18, s19, s20, s21, s22, s23, s24, s25, s26, u27, u28, u29, u30, u31, u32, u33, u34, undef], []⟩ ∧ RT wa wr.heap.size yn (.agg #[.bool yv, .int .i64 yi, .slice ya (Fo.len yk) yc]) (.agg #[.bool yv', .int .i64 yi', .slice za (Fo.len yk') zc]) (textT (yv, yi) yk) (textT (yv', yi') yk') D w' s14 s15 s16 s17 s18 s19 s20 s21 s22 s23 s24 s25 s26 s6) (by kernel_rfl) (by kernel_rfl) ?_ ?_ ⟨_, _, _, _, _, _, _, _, _, _, _, _, _, _, rfl, RT.start (Below.refl _ _).drew⟩
        · rintro D a w' i o hi ⟨s14, s15, s16, s17, s18, s19, s20, s21, s22, s23, s24, s25, s26, s6, rfl, hI⟩ hD ho hdep
          have HI := hide hI
          replace g0 := grow_cell hI.hb _ _ g0
          replace g1 := grow_cell hI.hb _ _ g1
          replace g2 := grow_cell hI.hb _ _ g2
          replace g3 := grow_cell hI.hb _ _ g3
          replace g4 := grow_cell hI.hb _ _ g4
          replace g5 := grow_cell hI.hb _ _ g5
          replace g6 := grow_cell hI.hb _ _ g6
          clear hI
          have hi' : i < 16 := hi
          clear hi
          rcases (by omega : i = 0 ∨ i = 1 ∨ i = 2 ∨ i = 3 ∨ i = 4 ∨ i = 5 ∨ i = 6 ∨ i = 7 ∨ i = 8 ∨ i = 9 ∨ i = 10 ∨ i = 11 ∨ i = 12 ∨ i = 13 ∨ i = 14 ∨ i = 15) with rfl | rfl | rfl | rfl | rfl | rfl | rfl | rfl | rfl | rfl | rfl | rfl | rfl | rfl | rfl | rfl
          · obtain rfl := Option.some.inj ho
            clear ho hdep hD
            refine wpOp_step rfl (fun K hK => ?_)
            go_simp
            exact hK _ _ ⟨_, _, _, _, _, _, _, _, _, _, _, _, _, _, rfl, HI.out.at0⟩
          · obtain rfl := Option.some.inj ho
            have d0 := HI.out.h0 (hdep ⟨0, .data⟩ (by simp) rfl)
            subst d0
            clear ho hdep hD
            refine wpOp_step rfl (fun K hK => ?_)
            go_simp
            exact hK _ _ ⟨_, _, _, _, _, _, _, _, _, _, _, _, _, _, rfl, HI.out.at1⟩
          · obtain rfl := Option.some.inj ho
            have d1 := HI.out.h1 (hdep ⟨1, .data⟩ (by simp) rfl)
            subst d1
            clear ho hdep hD
            refine wpOp_step rfl (fun K hK => ?_)
            go_simp
            refine (Hc1.out _ HI.out.hb).mono ?_
            rintro e w2 ⟨U, rfl, hU, hb2⟩
            exact hK _ _ ⟨_, _, _, _, _, _, _, _, _, _, _, _, _, _, rfl, HI.out.at2 hU hb2⟩
          · obtain rfl := Option.some.inj ho
            have HD := hide hD
            clear ho hdep hD
            have HI2 := hide (HI.out.at3 HD.out)
            refine wpOp_step rfl (fun K hK => ?_)
            go_simp
            exact hK _ _ ⟨_, _, _, _, _, _, _, _, _, _, _, _, _, _, rfl, HI2.out⟩
          · obtain rfl := Option.some.inj ho
            obtain ⟨bm, w2, rfl, hrun, hI2⟩ := HI.out.at4 (hdep ⟨3, .data⟩ (by simp) rfl) hD
            have HI2 := hide hI2
            clear hI2
            clear ho hdep hD
            refine wpOp_step rfl (fun K hK => ?_)
            go_simp
            exact hK _ _ ⟨_, _, _, _, _, _, _, _, _, _, _, _, _, _, rfl, HI2.out⟩
          · obtain rfl := Option.some.inj ho
            obtain ⟨bm, w2, rfl, hrun, hI2⟩ := HI.out.at5 (hdep ⟨3, .data⟩ (by simp) rfl) hD
            have HI2 := hide hI2
            clear hI2
            clear ho hdep hD
            refine wpOp_step rfl (fun K hK => ?_)
            go_simp
            exact hK _ _ ⟨_, _, _, _, _, _, _, _, _, _, _, _, _, _, rfl, HI2.out⟩
          · obtain rfl := Option.some.inj ho
            have HI2 := hide (HI.out.at6 (hdep ⟨3, .data⟩ (by simp) rfl) (hdep ⟨4, .data⟩ (by simp) rfl) (hdep ⟨5, .data⟩ (by simp) rfl))
            clear ho hdep hD
            refine wpOp_step rfl (fun K hK => ?_)
            go_simp
            exact hK _ _ ⟨_, _, _, _, _, _, _, _, _, _, _, _, _, _, rfl, HI2.out⟩
          · obtain rfl := Option.some.inj ho
            clear ho hdep hD
            refine wpOp_step rfl (fun K hK => ?_)
            go_simp
            exact hK _ _ ⟨_, _, _, _, _, _, _, _, _, _, _, _, _, _, rfl, HI.out.at7⟩
          · obtain rfl := Option.some.inj ho
            have d7 := HI.out.h7 (hdep ⟨7, .data⟩ (by simp) rfl)
            subst d7
            clear ho hdep hD
            refine wpOp_step rfl (fun K hK => ?_)
            go_simp
            exact hK _ _ ⟨_, _, _, _, _, _, _, _, _, _, _, _, _, _, rfl, HI.out.at8⟩
          · obtain rfl := Option.some.inj ho
            have d8 := HI.out.h8 (hdep ⟨8, .data⟩ (by simp) rfl)
            subst d8
            obtain ⟨bm, rfl, hrun, hI2⟩ := HI.out.at9 (hdep ⟨6, .data⟩ (by simp) rfl)
            have HI2 := hide hI2
            clear hI2
            clear ho hdep hD
            refine wpOp_step rfl (fun K hK => ?_)
            go_simp
            exact hK _ _ ⟨_, _, _, _, _, _, _, _, _, _, _, _, _, _, rfl, HI2.out⟩
          · obtain rfl := Option.some.inj ho
            have d2 := HI.out.h2 (hdep ⟨2, .data⟩ (by simp) rfl)
            have d9 := HI.out.h9 (hdep ⟨9, .data⟩ (by simp) rfl)
            subst d9
            obtain ⟨U, rfl, hU⟩ := d2
            have hUs : U.size ≤ 1000 := by rw [ba_size hU]; exact Hl1.out
            have hss := sgn_size yn
            have Hq : Hid ((U ++ sgnB yn).data.toList = textT (yv, yi) yk ++ (sgnB yn).data.toList) := by rw [Hid, ByteArray.data_append, Array.toList_append, hU]
            clear hU
            clear ho hdep hD
            refine wpOp_step rfl (fun K hK => ?_)
            go_simp
            rw [if_neg (by omega)]
            go_simp
            exact hK _ _ ⟨_, _, _, _, _, _, _, _, _, _, _, _, _, _, rfl, HI.out.at10 Hq.out⟩
          · obtain rfl := Option.some.inj ho
            clear ho hdep hD
            refine wpOp_step rfl (fun K hK => ?_)
            go_simp
            exact hK _ _ ⟨_, _, _, _, _, _, _, _, _, _, _, _, _, _, rfl, HI.out.at11⟩
          · obtain rfl := Option.some.inj ho
            have d11 := HI.out.h11 (hdep ⟨11, .data⟩ (by simp) rfl)
            subst d11
            clear ho hdep hD
            refine wpOp_step rfl (fun K hK => ?_)
            go_simp
            exact hK _ _ ⟨_, _, _, _, _, _, _, _, _, _, _, _, _, _, rfl, HI.out.at12⟩
          · obtain rfl := Option.some.inj ho
            have d12 := HI.out.h12 (hdep ⟨12, .data⟩ (by simp) rfl)
            subst d12
            clear ho hdep hD
            refine wpOp_step rfl (fun K hK => ?_)
            go_simp
            refine (Hc2.out _ HI.out.hb).mono ?_
            rintro e w2 ⟨U, rfl, hU, hb2⟩
            exact hK _ _ ⟨_, _, _, _, _, _, _, _, _, _, _, _, _, _, rfl, HI.out.at13 hU hb2⟩
          · obtain rfl := Option.some.inj ho
            have d10 := HI.out.h10 (hdep ⟨10, .data⟩ (by simp) rfl)
            have d13 := HI.out.h13 (hdep ⟨13, .data⟩ (by simp) rfl)
            obtain ⟨U, rfl, hU⟩ := d10
            obtain ⟨V, rfl, hV⟩ := d13
            have hUs : U.size ≤ 1002 := by rw [ba_size hU, List.length_append]; have := Hl1.out; have := sgnB_len yn; omega
            have hVs : V.size ≤ 1000 := by rw [ba_size hV]; exact Hl2.out
            have Hq : Hid ((U ++ V).data.toList = (textT (yv, yi) yk ++ (sgnB yn).data.toList) ++ textT (yv', yi') yk') := by rw [Hid, ByteArray.data_append, Array.toList_append, hU, hV]
            clear hU hV
            clear ho hdep hD
            refine wpOp_step rfl (fun K hK => ?_)
            go_simp
            rw [if_neg (by omega)]
            go_simp
            exact hK _ _ ⟨_, _, _, _, _, _, _, _, _, _, _, _, _, _, rfl, HI.out.at14 Hq.out⟩
          · obtain rfl := Option.some.inj ho
            have d14 := HI.out.h14 (hdep ⟨14, .data⟩ (by simp) rfl)
            obtain ⟨U, rfl, hU⟩ := d14
            have HU := hide hU
            clear hU
            clear ho hdep hD
            refine wpOp_step rfl (fun K hK => ?_)
            go_simp
            exact hK _ _ ⟨_, _, _, _, _, _, _, _, _, _, _, _, _, _, rfl, HI.out.at15 HU.out⟩
        · rintro D a w' ⟨s14, s15, s16, s17, s18, s19, s20, s21, s22, s23, s24, s25, s26, s6, rfl, hI⟩ hall
          have h15 := hI.h15 (hall 15 (by decide))
          obtain ⟨V, rfl, hV⟩ := h15
          have HVb := hide (And.intro hV hI.hb)
          clear hI hall hV
          go_wp2_with fail
          go_meet
          case rel => exact ⟨V, rfl, HVb.out.1.trans Hsg.out, HVb.out.2⟩
      case rest =>
        obtain ⟨V, rfl, hV, hbx⟩ := hcut
        generalize wc = wx at *
        have HV := hide hV
        have hVs : V.size ≤ 2002 := by rw [ba_size hV]; exact Hle.out
        have hBx := below_step hBr (below_step hba hbx)
        have hq1 : (U ++ (⟨#[32, 124, 32]⟩ : ByteArray)).size ≤ 2100003 := by rw [ByteArray.size_append]; show U.size + 3 ≤ _; omega
        clear hV hbx
        by_cases h0 : j = 0
        · have Hn : Hid (V.data.toList = textC (k.take (j + 1))) := by rw [Hid, Htk.out, if_pos h0, HV.out]
          subst h0
          go_wp2_with fail
          go_roundw
          case rel => exact ⟨1, V, by omega, by go_num, rfl, Hn.out, hBx⟩
          case measure => simp [intOf]; omega
        · have h0b : ((j : Int) == 0) = false := by simpa using h0
          have Hn : Hid ((U ++ (⟨#[32, 124, 32]⟩ : ByteArray) ++ V).data.toList = textC (k.take (j + 1))) := by
            rw [Hid, Htk.out, if_neg h0, ByteArray.data_append, ByteArray.data_append, Array.toList_append, Array.toList_append, HU.out, HV.out]
          clear h0
          go_wp2_with fail
          go_roundw
          case rel => exact ⟨j + 1, _, by omega, by go_num, rfl, Hn.out, hBx⟩
          case measure => simp [intOf]; omega
    · have Hfin : Hid (U.data.toList = textC k) := by
        have e : j = k.length := by omega
        have := HU.out
        rw [e, List.take_length] at this
        exact this
      clear had1
      go_wp2_with fail
      go_ret
      exact ⟨_, rfl, Hfin.out, hBr⟩
end Go.Proofs.YtlgnpiphaeoeiadDoor

namespace Go.Proofs.YtlgnpiphaeoeiadDoor
open Go.RowKit Go.Deep Go.ChangeShapes Go.WideShapes
def tcc (x y : Tm) : Tm := ((false, 2), .node 0 0 x.1 x.2 (.node 0 0 y.1 y.2 .nil))
end Go.Proofs.YtlgnpiphaeoeiadDoor

namespace Go.Proofs.YtlgnpiphaeoeiadDoor
open Go.RowKit Go.Deep Go.ChangeShapes Go.WideShapes
def a7u : Lt := (false, tb (vr 0), vr 0)
def a7c : Cl := [(false, tcc (tb (tb ta)) ta, tb ta)]
def a7d : Cl := [(false, tcc ta ta, ta)]
def a7e : Cl := [(false, tb (tb ta), ta)]
def a7f : Cl := [(false, vr 0, ta)]
def a7g : Cl := [(false, tb ta, ta), (true, ta, tcc ta ta)]
def a7h : Cl := [(false, tb ta, ta)]
def a7i : Cl := [(false, tb (vr 0), ta)]
theorem a7p0 : parseC [0, 1, 2] [98, 40, 88, 48, 41, 61, 88, 48] = (0, [a7u]) := by kernel_rfl
theorem a7p1 : parseC [0, 1, 2] [99, 40, 98, 40, 98, 40, 97, 41, 41, 44, 97, 41, 61, 98, 40, 97, 41] = (0, a7c) := by kernel_rfl
theorem a7p2 : parseC [0, 1, 2] [98, 40, 98, 40, 97, 41, 41, 61, 97] = (0, a7e) := by kernel_rfl
theorem a7p3 : parseC [0, 1, 2] [88, 48, 61, 97] = (0, a7f) := by kernel_rfl
theorem a7p4 : parseC [0, 1, 2] [98, 40, 97, 41, 61, 97, 32, 124, 32, 97, 33, 61, 99, 40, 97, 44, 97, 41] = (0, a7g) := by kernel_rfl
theorem a7p5 : parseC [0, 1, 2] [98, 40, 97, 41, 61, 97] = (0, a7h) := by kernel_rfl
theorem a7p6 : parseC [0, 1, 2] [98, 40, 88, 48, 41, 61, 97] = (0, a7i) := by kernel_rfl
theorem a7n (c : Cl) (h : c = [a7u] ∨ c = a7c ∨ c = a7e ∨ c = a7f ∨ c = a7g ∨ c = a7h ∨ c = a7i) : ∀ l ∈ c, Fo.norm l.2.1.2 = l.2.1.2 ∧ Fo.norm l.2.2.2 = l.2.2.2 := by
  intro l hl
  rcases h with rfl | rfl | rfl | rfl | rfl | rfl | rfl <;> simp only [a7c, a7e, a7f, a7g, a7h, a7i, a7u, List.mem_cons, List.not_mem_nil, or_false] at hl <;> first | (rcases hl with rfl | rfl <;> exact ⟨rfl, rfl⟩) | (subst hl; exact ⟨rfl, rfl⟩)
theorem a7w0 : wrongC [0, 1, 2] [a7u] = 0 := by kernel_rfl
theorem a7w1 : wrongC [0, 1, 2] a7c = 0 := by kernel_rfl
theorem a7w2 : wrongC [0, 1, 2] a7e = 0 := by kernel_rfl
theorem a7w3 : wrongC [0, 1, 2] a7f = 0 := by kernel_rfl
theorem a7w4 : wrongC [0, 1, 2] a7g = 0 := by kernel_rfl
theorem a7w5 : wrongC [0, 1, 2] a7h = 0 := by kernel_rfl
theorem a7w6 : wrongC [0, 1, 2] a7i = 0 := by kernel_rfl
theorem a7w7 : wrongC [0, 1, 2] a7d = 0 := by kernel_rfl
theorem a7U : Uns [0, 1, 2] [a7u] := fun u hu => by
  rw [List.mem_singleton.1 hu]
  exact sm_rightN (s := [0, 1, 2]) (by decide) (by decide) (a7n _ (.inl rfl)) a7w0 a7u (by simp)
theorem a7sc : SmC [0, 1, 2] a7c := sm_rightN (by decide) (by decide) (a7n _ (.inr (.inl rfl))) a7w1
theorem a7se : SmC [0, 1, 2] a7e := sm_rightN (by decide) (by decide) (a7n _ (.inr (.inr (.inl rfl)))) a7w2
theorem a7step {t t' : Tm} (ht : Sm [0, 1, 2] t) (h : stepD [a7u] t = some t') : downT [a7u] t = downT [a7u] t' ∧ Sm [0, 1, 2] t' := by
  obtain ⟨_, _, _, _, _, _, _, _, _, _, hs⟩ := stepD_some (by decide) a7U ht h
  exact ⟨downT_step (by decide) a7U ht h, hs⟩
theorem a7d1 : downT [a7u] (tcc (tb (tb ta)) ta) = tcc ta ta := by
  obtain ⟨e1, h1⟩ := a7step (t := tcc (tb (tb ta)) ta) (t' := tcc (tb ta) ta) (a7sc (false, tcc (tb (tb ta)) ta, tb ta) (by simp [a7c])).1 (by kernel_rfl)
  obtain ⟨e2, h2⟩ := a7step (t := tcc (tb ta) ta) (t' := tcc ta ta) h1 (by kernel_rfl)
  rw [e1, e2, downT_stop (by kernel_rfl)]
theorem a7d2 : downT [a7u] (tb ta) = ta := by
  obtain ⟨e1, h1⟩ := a7step (t := tb ta) (t' := ta) (a7sc (false, tcc (tb (tb ta)) ta, tb ta) (by simp [a7c])).2 (by kernel_rfl)
  rw [e1, downT_stop (by kernel_rfl)]
theorem a7d3 : downT [a7u] (tb (tb ta)) = ta := by
  obtain ⟨e1, h1⟩ := a7step (t := tb (tb ta)) (t' := tb ta) (a7se (false, tb (tb ta), ta) (by simp [a7e])).1 (by kernel_rfl)
  rw [e1, a7d2]
theorem a7r : rwC [a7u] a7c = (0, a7d) := by
  unfold rwC downC
  rw [show a7c.map (mapL (downT [a7u])) = a7d by simp only [a7c, List.map_cons, List.map_nil, mapL]; rw [a7d1, a7d2]; rfl]
  kernel_rfl
theorem a7x1 : textC a7d = [99, 40, 97, 44, 97, 41, 61, 97] := by kernel_rfl
theorem a7c1 : covT a7f a7g = true := by kernel_rfl
theorem a7c2 : covT a7h a7i = false := by kernel_rfl
theorem a7gc (c : Cl) (h : ∀ l ∈ c, Fo.norm l.2.1.2 = l.2.1.2 ∧ Fo.norm l.2.2.2 = l.2.2.2) (hw : wrongC [0, 1, 2] c = 0) : GC c := gc_rightN6 (s := [0, 1, 2]) (by decide) h hw
set_option maxRecDepth 100000 in
set_option maxHeartbeats 1000000 in
theorem read7_any {L : ByteArray} {l : List UInt8} {c : Cl} (hL : L.data.toList = l) (h : parseC [0, 1, 2] l = (0, c)) (hl : l.length ≤ 1000) (w : World) :
    Calls Tryd.prog 19 #[.string L] w fun e w' => ∃ z1 z3, e = .returned (.slice z1 c.length z3) ∧ CIn w' c (.slice z1 c.length z3) ∧ Below w.heap.size w w' := by
  have Hp := hide h
  have HN0 : Hid (NIn (w.alloc (.cells #[.int .i64 0, .int .i64 1, .int .i64 2] 3)) [0, 1, 2] (.slice (some ⟨w.heap.size, 0, none⟩) 3 3)) := nin_lit (w := w) [0, 1, 2] (by decide) (by decide) 3
  have HL := hide hL
  have hz : L.size < 4294967281 := by rw [ba_size hL]; omega
  clear h hL
  go_enter Tryd.func19, Tryd.ntmps19
  go_wp2_with fail
  refine (parseCR_any [0, 1, 2] _ L _ HN0.out hz).mono ?_
  rintro e w2 ⟨z1, z2, z3, rfl, hC, hb⟩
  rw [HL.out, Hp.out] at hC ⊢
  have HC := hide hC
  have hB := below_box hb
  clear hC hb
  go_wp2_with fail
  go_ret
  obtain ⟨y1, y3, e⟩ := slice_of_cl HC.out
  have HC2 := HC.out
  rw [e] at HC2
  exact ⟨y1, y3, by rw [← e]; rfl, HC2, hB⟩
theorem cs_one {w : World} {c : Cl} {cv : Value} {T : TypeId} (hC : CIn w c cv) : CsIn (w.alloc (.cells #[cv] T)) [c] (.slice (some ⟨w.heap.size, 0, none⟩) 1 1) := by
  refine ⟨_, 1, w.heap.size, 0, rfl, fun _ => rfl, Nat.le_refl _, by unfold maxLen; omega, fun i x hx => ?_⟩
  match i, hx with
  | 0, hx =>
    simp only [List.getElem?_cons_zero, Option.some.injEq] at hx
    subst hx
    exact ⟨cv, new_cell rfl, hC.alloc _⟩
  | i + 1, hx => simp at hx
set_option maxRecDepth 100000 in
set_option maxHeartbeats 8000000 in
theorem alive7_any (w : World) : Calls Tryd.prog 6 #[] w fun e w' => e = .returned (.bool true) ∧ Below w.heap.size w w' := by
  have hB : Below w.heap.size w w := Below.refl _ _
  go_enter Tryd.func6, Tryd.ntmps6
  go_wp2_with fail
  refine (read7_any rfl a7p0 (by decide) _).mono ?_
  rintro e w1 ⟨z1, z3, rfl, h1, hb⟩
  have hb1 := below_step hb (below_alloc w1 (.cells #[.slice z1 [a7u].length z3] 25))
  have HU := hide (cs_one (T := 25) h1)
  replace hB := below_step hB hb1
  clear h1 hb hb1
  go_wp2_with fail
  generalize hw2 : w1.alloc (.cells #[.slice z1 [a7u].length z3] 25) = w2 at *
  generalize hg : w1.heap.size = g at *
  clear hw2 hg
  refine (read7_any rfl a7p1 (by decide) _).mono ?_
  rintro e w3 ⟨y1, y3, rfl, h1, hb⟩
  replace HU := hide (HU.out.below hb)
  replace hB := below_step hB hb
  have Hr := hide (rewriteP_any (s := [0, 1, 2]) (by decide) a7U (by decide) (fun u hu => by rw [List.mem_singleton.1 hu]; rfl) a7c _ _ w3 h1 HU.out a7sc (by decide))
  unfold RwPost at Hr
  rw [a7r] at Hr
  clear h1 hb
  go_wp2_with fail
  refine Hr.out.mono ?_
  rintro e w4 ⟨v4, rfl, hC, hb⟩
  replace HU := hide (HU.out.below hb)
  replace hB := below_step hB hb
  have HC := hide hC
  obtain ⟨x1, x3, rfl⟩ := slice_of_cl hC
  have Ht1 : Hid (Calls Tryd.prog 20 #[.slice x1 a7d.length x3] w4 fun e w'' => e = .returned (.string ⟨#[99, 40, 97, 44, 97, 41, 61, 97]⟩) ∧ Below w4.heap.size w4 w'') := by
    refine (textCR_any a7d _ w4 HC.out (txC_right (s := [0, 1, 2]) (by decide) (by decide) a7w7) (by decide)).mono ?_
    rintro e w2 ⟨D, rfl, hD, hb2⟩
    rw [a7x1] at hD
    exact ⟨by rw [byte_eq hD], hb2⟩
  clear hC hb Hr w3
  go_wp2_with fail
  refine Ht1.out.mono ?_
  rintro e w5 ⟨rfl, hb⟩
  replace HU := hide (HU.out.below hb)
  replace hB := below_step hB hb
  clear hb Ht1 HC w4
  obtain ⟨ua, uk, ub, uo, hue, hua, -, -, huF⟩ := HU.out
  simp only [Value.slice.injEq] at hue
  have hu1 : some ⟨g, 0, none⟩ = some (⟨ub, uo, none⟩ : Addr) := by rw [hue.1]; exact hua (by decide)
  simp only [Option.some.injEq, Addr.mk.injEq] at hu1
  obtain ⟨rfl, rfl, -⟩ := hu1
  obtain ⟨uv, q0, hUv⟩ := huF 0 [a7u] rfl
  rw [Nat.add_zero] at q0
  have Hun := hide (unitP_any [a7u] uv w5 hUv)
  obtain ⟨e1, e3, rfl⟩ := slice_of_cl hUv
  rw [show unitP [a7u] = true from rfl] at Hun
  clear hue hua huF hUv
  go_wp2_with fail
  refine Hun.out.mono ?_
  rintro e w6 ⟨rfl, rfl⟩
  clear Hun q0
  go_wp2_with fail
  refine (read7_any rfl a7p2 (by decide) _).mono ?_
  rintro e w7 ⟨b1, b3, rfl, h1, hb⟩
  replace HU := hide (HU.out.below hb)
  replace hB := below_step hB hb
  obtain ⟨_, _, cb, co, hce, hca, -, -, hcF⟩ := h1
  simp only [Value.slice.injEq, true_and] at hce
  obtain ⟨rfl, rfl⟩ := hce
  have hb1 := hca (by decide)
  subst hb1
  obtain ⟨p0, p1, p2, ⟨x3', p3, hA⟩, -, -, -, -, -⟩ := hcF.at (i := 0) (l := (false, tb (tb ta), ta)) rfl
  simp only [Nat.zero_mul, Nat.add_zero] at p0 p1 p2 p3
  have HA := hide hA
  obtain ⟨ya, yc, _, _, rfl, -, -, -, -⟩ := hA
  have Hd := hide (downPub_call (s := [0, 1, 2]) (us := [a7u]) (x := (tb (tb ta)).1) (z := ta.1) (k := (tb (tb ta)).2) (zk := ta.2) (by decide) a7U (by decide) (fun u hu => by rw [List.mem_singleton.1 hu]; rfl) a7d3.symm HA.out (a7se (false, tb (tb ta), ta) (by simp [a7e])).1 HU.out)
  clear hb hca hcF
  simp only [show a7e.length = 1 from rfl]
  go_wp2_with fail
  refine Hd.out.mono ?_
  rintro e w8 ⟨c1, c3, rfl, hO, hb⟩
  replace HU := hide (HU.out.below hb)
  replace hB := below_step hB hb
  have Ht2 : Hid (Calls Tryd.prog 22 #[.agg #[.bool ta.1.1, .int .i64 ta.1.2, .slice c1 (Fo.len ta.2) c3]] w8 fun e w'' => e = .returned (.string ⟨#[97]⟩) ∧ Below w8.heap.size w8 w'') := by
    refine (textR_any ta.1 ta.2 _ w8 hO ⟨by decide, by decide⟩ trivial (by decide)).mono ?_
    rintro e w2 ⟨D, rfl, hD, hb2⟩
    exact ⟨by rw [byte_eq (hD.trans (show textT ta.1 ta.2 = [97] by kernel_rfl))], hb2⟩
  clear hO hb Hd p0 p1 p2 p3 HA
  go_wp2_with fail
  refine Ht2.out.mono ?_
  rintro e w9 ⟨rfl, hb⟩
  replace hB := below_step hB hb
  clear hb Ht2 HU
  go_wp2_with fail
  refine (read7_any rfl a7p3 (by decide) _).mono ?_
  rintro e w10 ⟨f1, f3, rfl, h1, hb⟩
  replace hB := below_step hB hb
  have H1 := hide h1
  clear h1 hb
  go_wp2_with fail
  refine (read7_any rfl a7p4 (by decide) _).mono ?_
  rintro e w11 ⟨k1, k3, rfl, h2, hb⟩
  replace hB := below_step hB hb
  have gf := a7gc a7f (a7n _ (.inr (.inr (.inr (.inl rfl))))) a7w3
  have gg := a7gc a7g (a7n _ (.inr (.inr (.inr (.inr (.inl rfl)))))) a7w4
  have gh := a7gc a7h (a7n _ (.inr (.inr (.inr (.inr (.inr (.inl rfl))))))) a7w5
  have gi := a7gc a7i (a7n _ (.inr (.inr (.inr (.inr (.inr (.inr rfl))))))) a7w6
  have Hc1 := hide (coversP_any a7f a7g _ _ w11 (H1.out.below hb) h2 gf.1 (fun l hl => ⟨(gf.2 l hl).sl, (gf.2 l hl).sr⟩) (fun l hl => ⟨(gg.2 l hl).gl, (gg.2 l hl).gr⟩))
  have Hgh := hide gh
  have Hgi := hide gi
  rw [a7c1] at Hc1
  clear h2 hb H1 gf gg gh gi
  go_wp2_with fail
  refine Hc1.out.mono ?_
  rintro e w12 ⟨rfl, hb⟩
  replace hB := below_step hB hb
  clear hb Hc1
  go_wp2_with fail
  refine (read7_any rfl a7p5 (by decide) _).mono ?_
  rintro e w13 ⟨m1, m3, rfl, h1, hb⟩
  replace hB := below_step hB hb
  have H1 := hide h1
  clear h1 hb
  go_wp2_with fail
  refine (read7_any rfl a7p6 (by decide) _).mono ?_
  rintro e w14 ⟨n1, n3, rfl, h2, hb⟩
  replace hB := below_step hB hb
  have Hc2 := hide (coversP_any a7h a7i _ _ w14 (H1.out.below hb) h2 Hgh.out.1 (fun l hl => ⟨(Hgh.out.2 l hl).sl, (Hgh.out.2 l hl).sr⟩) (fun l hl => ⟨(Hgi.out.2 l hl).gl, (Hgi.out.2 l hl).gr⟩))
  rw [a7c2] at Hc2
  clear h2 hb H1 Hgh Hgi
  go_wp2_with fail
  refine Hc2.out.mono ?_
  rintro e w15 ⟨rfl, hb⟩
  replace hB := below_step hB hb
  clear hb Hc2
  go_wp2_with fail
  go_ret
  exact ⟨rfl, hB⟩
end Go.Proofs.YtlgnpiphaeoeiadDoor

namespace Go.Proofs.YtlgnpiphaeoeiadDoor
open Go.RowKit Go.Deep Go.ChangeShapes Go.WideShapes
attribute [local go_sem ↓] Go.wp_at_zero Go.wp_at_succ
theorem one_cells {w : World} {c : Cl} {cv : Value} (hC : CIn w c cv) : ∀ (i : Nat) (x : Cl), [c][i]? = some x → ∃ xv, [cv][i]? = some xv ∧ CIn w x xv := fun i x hx => by
  match i, hx with
  | 0, hx => simp only [List.getElem?_cons_zero, Option.some.injEq] at hx; subst hx; exact ⟨cv, rfl, hC⟩
  | i + 1, hx => simp at hx
theorem row_one {w : World} {x : Value} {T : TypeId} : (w.alloc (.cells #[x] T)).ownsRow w.heap.size T 1 (.slice (some ⟨w.heap.size, 0, none⟩) 1 1) 1 [x] :=
  ⟨rfl, .inr ⟨w.heap.size, 1, #[x], rfl, Nat.le_refl _, heap_alloc_new w _, Nat.le_refl _, by unfold maxLen; omega, rfl, rfl⟩⟩
theorem grown_row {w w1 w2 : World} {ob : Obj} (hb : w1 = w.alloc ob) (hg : w1.grownBy w2 (some w.heap.size)) : Below w.heap.size w w2 := by
  subst hb
  have h1 := below_alloc w ob
  have hs := h1.size
  refine ⟨hg.os.trans h1.os, hg.tape.trans h1.tape, hg.output.trans h1.output, by have := hg.size; omega, fun q hq => ?_⟩
  rw [hg.block q (by omega) (by intro e; simp at e; omega), h1.block q hq]
theorem rw_right {s : List Int} (h6 : s.length ≤ 6) {us : List Lt} (hus : Uns s us) {c : Cl} (hc : SmC s c) (h4 : c.length ≤ 4) (h : (rwC us c).1 = 0) : GC (rwC us c).2 ∧ wrongC s (rwC us c).2 = 0 ∧ SmC s (rwC us c).2 := by
  have hd := down_sm h6 hus hc
  have hg : GX (downC us c) := (hd.gc (by simpa [downC] using h4)).x
  have h1 := (norm_againX hg h).1
  have h2 := norm_rightX hg (fun l hl => ⟨sym_sig (hd l hl).1.sg, sym_sig (hd l hl).2.sg⟩) h
  exact ⟨h1, h2, sm_gc h6 h1 (sigC_right h2)⟩
end Go.Proofs.YtlgnpiphaeoeiadDoor

namespace Go.Proofs.YtlgnpiphaeoeiadDoor
open Go.RowKit Go.Deep Go.ChangeShapes Go.WideShapes
attribute [local go_sem ↓] Go.wp_at_zero Go.wp_at_succ
theorem tri_cell {w : World} {m : Nat} {z : Int} (hm : m < 3) : (w.alloc (.cells #[.int .i64 1, .int .i64 z, .int .i64 (z * z)] 3)).cell? ⟨w.heap.size, m, none⟩ = some (.int .i64 (mlen z m)) := by
  rcases (by omega : m = 0 ∨ m = 1 ∨ m = 2) with rfl | rfl | rfl <;> exact (new_cell rfl).trans (by simp [mlen])
structure R6m (W : World) (B tk tq j m : Nat) (z : Int) (TV PV : Value) (q : Nat) (D : Nat → Bool) (w : World) (s32 s33 s34 s35 s36 s37 s38 s39 s40 s41 s42 s43 s44 s45 s46 s47 s48 s49 : Value) : Prop where
  hb : Below W.heap.size W w
  h0 : D 0 = true → s32 = .pointer (some ⟨B, 1, none⟩)
  h1 : D 1 = true → s33 = TV
  h2 : D 2 = true → s34 = .int .i64 j
  h3 : D 3 = true → s35 = .pointer (some ⟨tk, tq + j, none⟩)
  h4 : D 4 = true → s36 = PV
  h5 : D 5 = true → s37 = .int .i64 q
  h6 : D 6 = true → s38 = .pointer (some ⟨B, 0, none⟩)
  h7 : D 7 = true → s39 = .int .i64 z
  h8 : D 8 = true → s40 = .pointer (some ⟨B, 0, none⟩)
  h9 : D 9 = true → s41 = .int .i64 z
  h10 : D 10 = true → s42 = .pointer (some ⟨B, 0, none⟩)
  h11 : D 11 = true → s43 = .int .i64 z
  h12 : D 12 = true → s44 = .int .i64 (z * z)
  h13 : D 13 = true → ∃ g, s45 = .slice (some ⟨g, 0, none⟩) 3 3 ∧ w.cell? ⟨g, m, none⟩ = some (.int .i64 (mlen z m))
  h14 : D 14 = true → s46 = .int .i64 m
  h15 : D 15 = true → ∃ g, s47 = .pointer (some ⟨g, m, none⟩) ∧ w.cell? ⟨g, m, none⟩ = some (.int .i64 (mlen z m))
  h16 : D 16 = true → s48 = .int .i64 (mlen z m)
  h17 : D 17 = true → s49 = .bool ((q : Int) != mlen z m)
section
variable {W : World} {B tk tq j m : Nat} {z : Int} {TV PV : Value} {q : Nat} {D : Nat → Bool} {w w' : World} {s32 s33 s34 s35 s36 s37 s38 s39 s40 s41 s42 s43 s44 s45 s46 s47 s48 s49 : Value}
theorem R6m.at0 (h : R6m W B tk tq j m z TV PV q D w s32 s33 s34 s35 s36 s37 s38 s39 s40 s41 s42 s43 s44 s45 s46 s47 s48 s49) : R6m W B tk tq j m z TV PV q (fun j => j == 0 || D j) w (.pointer (some ⟨B, 1, none⟩)) s33 s34 s35 s36 s37 s38 s39 s40 s41 s42 s43 s44 s45 s46 s47 s48 s49 :=
  ⟨h.hb, fun _ => rfl, h.h1, h.h2, h.h3, h.h4, h.h5, h.h6, h.h7, h.h8, h.h9, h.h10, h.h11, h.h12, h.h13, h.h14, h.h15, h.h16, h.h17⟩
theorem R6m.at1 (h : R6m W B tk tq j m z TV PV q D w s32 s33 s34 s35 s36 s37 s38 s39 s40 s41 s42 s43 s44 s45 s46 s47 s48 s49) : R6m W B tk tq j m z TV PV q (fun j => j == 1 || D j) w s32 (TV) s34 s35 s36 s37 s38 s39 s40 s41 s42 s43 s44 s45 s46 s47 s48 s49 :=
  ⟨h.hb, h.h0, fun _ => rfl, h.h2, h.h3, h.h4, h.h5, h.h6, h.h7, h.h8, h.h9, h.h10, h.h11, h.h12, h.h13, h.h14, h.h15, h.h16, h.h17⟩
theorem R6m.at2 (h : R6m W B tk tq j m z TV PV q D w s32 s33 s34 s35 s36 s37 s38 s39 s40 s41 s42 s43 s44 s45 s46 s47 s48 s49) : R6m W B tk tq j m z TV PV q (fun j => j == 2 || D j) w s32 s33 (.int .i64 j) s35 s36 s37 s38 s39 s40 s41 s42 s43 s44 s45 s46 s47 s48 s49 :=
  ⟨h.hb, h.h0, h.h1, fun _ => rfl, h.h3, h.h4, h.h5, h.h6, h.h7, h.h8, h.h9, h.h10, h.h11, h.h12, h.h13, h.h14, h.h15, h.h16, h.h17⟩
theorem R6m.at3 (h : R6m W B tk tq j m z TV PV q D w s32 s33 s34 s35 s36 s37 s38 s39 s40 s41 s42 s43 s44 s45 s46 s47 s48 s49) : R6m W B tk tq j m z TV PV q (fun j => j == 3 || D j) w s32 s33 s34 (.pointer (some ⟨tk, tq + j, none⟩)) s36 s37 s38 s39 s40 s41 s42 s43 s44 s45 s46 s47 s48 s49 :=
  ⟨h.hb, h.h0, h.h1, h.h2, fun _ => rfl, h.h4, h.h5, h.h6, h.h7, h.h8, h.h9, h.h10, h.h11, h.h12, h.h13, h.h14, h.h15, h.h16, h.h17⟩
theorem R6m.at4 (h : R6m W B tk tq j m z TV PV q D w s32 s33 s34 s35 s36 s37 s38 s39 s40 s41 s42 s43 s44 s45 s46 s47 s48 s49) : R6m W B tk tq j m z TV PV q (fun j => j == 4 || D j) w s32 s33 s34 s35 (PV) s37 s38 s39 s40 s41 s42 s43 s44 s45 s46 s47 s48 s49 :=
  ⟨h.hb, h.h0, h.h1, h.h2, h.h3, fun _ => rfl, h.h5, h.h6, h.h7, h.h8, h.h9, h.h10, h.h11, h.h12, h.h13, h.h14, h.h15, h.h16, h.h17⟩
theorem R6m.at5 (h : R6m W B tk tq j m z TV PV q D w s32 s33 s34 s35 s36 s37 s38 s39 s40 s41 s42 s43 s44 s45 s46 s47 s48 s49) : R6m W B tk tq j m z TV PV q (fun j => j == 5 || D j) w s32 s33 s34 s35 s36 (.int .i64 q) s38 s39 s40 s41 s42 s43 s44 s45 s46 s47 s48 s49 :=
  ⟨h.hb, h.h0, h.h1, h.h2, h.h3, h.h4, fun _ => rfl, h.h6, h.h7, h.h8, h.h9, h.h10, h.h11, h.h12, h.h13, h.h14, h.h15, h.h16, h.h17⟩
theorem R6m.at6 (h : R6m W B tk tq j m z TV PV q D w s32 s33 s34 s35 s36 s37 s38 s39 s40 s41 s42 s43 s44 s45 s46 s47 s48 s49) : R6m W B tk tq j m z TV PV q (fun j => j == 6 || D j) w s32 s33 s34 s35 s36 s37 (.pointer (some ⟨B, 0, none⟩)) s39 s40 s41 s42 s43 s44 s45 s46 s47 s48 s49 :=
  ⟨h.hb, h.h0, h.h1, h.h2, h.h3, h.h4, h.h5, fun _ => rfl, h.h7, h.h8, h.h9, h.h10, h.h11, h.h12, h.h13, h.h14, h.h15, h.h16, h.h17⟩
theorem R6m.at7 (h : R6m W B tk tq j m z TV PV q D w s32 s33 s34 s35 s36 s37 s38 s39 s40 s41 s42 s43 s44 s45 s46 s47 s48 s49) : R6m W B tk tq j m z TV PV q (fun j => j == 7 || D j) w s32 s33 s34 s35 s36 s37 s38 (.int .i64 z) s40 s41 s42 s43 s44 s45 s46 s47 s48 s49 :=
  ⟨h.hb, h.h0, h.h1, h.h2, h.h3, h.h4, h.h5, h.h6, fun _ => rfl, h.h8, h.h9, h.h10, h.h11, h.h12, h.h13, h.h14, h.h15, h.h16, h.h17⟩
theorem R6m.at8 (h : R6m W B tk tq j m z TV PV q D w s32 s33 s34 s35 s36 s37 s38 s39 s40 s41 s42 s43 s44 s45 s46 s47 s48 s49) : R6m W B tk tq j m z TV PV q (fun j => j == 8 || D j) w s32 s33 s34 s35 s36 s37 s38 s39 (.pointer (some ⟨B, 0, none⟩)) s41 s42 s43 s44 s45 s46 s47 s48 s49 :=
  ⟨h.hb, h.h0, h.h1, h.h2, h.h3, h.h4, h.h5, h.h6, h.h7, fun _ => rfl, h.h9, h.h10, h.h11, h.h12, h.h13, h.h14, h.h15, h.h16, h.h17⟩
theorem R6m.at9 (h : R6m W B tk tq j m z TV PV q D w s32 s33 s34 s35 s36 s37 s38 s39 s40 s41 s42 s43 s44 s45 s46 s47 s48 s49) : R6m W B tk tq j m z TV PV q (fun j => j == 9 || D j) w s32 s33 s34 s35 s36 s37 s38 s39 s40 (.int .i64 z) s42 s43 s44 s45 s46 s47 s48 s49 :=
  ⟨h.hb, h.h0, h.h1, h.h2, h.h3, h.h4, h.h5, h.h6, h.h7, h.h8, fun _ => rfl, h.h10, h.h11, h.h12, h.h13, h.h14, h.h15, h.h16, h.h17⟩
theorem R6m.at10 (h : R6m W B tk tq j m z TV PV q D w s32 s33 s34 s35 s36 s37 s38 s39 s40 s41 s42 s43 s44 s45 s46 s47 s48 s49) : R6m W B tk tq j m z TV PV q (fun j => j == 10 || D j) w s32 s33 s34 s35 s36 s37 s38 s39 s40 s41 (.pointer (some ⟨B, 0, none⟩)) s43 s44 s45 s46 s47 s48 s49 :=
  ⟨h.hb, h.h0, h.h1, h.h2, h.h3, h.h4, h.h5, h.h6, h.h7, h.h8, h.h9, fun _ => rfl, h.h11, h.h12, h.h13, h.h14, h.h15, h.h16, h.h17⟩
theorem R6m.at11 (h : R6m W B tk tq j m z TV PV q D w s32 s33 s34 s35 s36 s37 s38 s39 s40 s41 s42 s43 s44 s45 s46 s47 s48 s49) : R6m W B tk tq j m z TV PV q (fun j => j == 11 || D j) w s32 s33 s34 s35 s36 s37 s38 s39 s40 s41 s42 (.int .i64 z) s44 s45 s46 s47 s48 s49 :=
  ⟨h.hb, h.h0, h.h1, h.h2, h.h3, h.h4, h.h5, h.h6, h.h7, h.h8, h.h9, h.h10, fun _ => rfl, h.h12, h.h13, h.h14, h.h15, h.h16, h.h17⟩
theorem R6m.at12 (h : R6m W B tk tq j m z TV PV q D w s32 s33 s34 s35 s36 s37 s38 s39 s40 s41 s42 s43 s44 s45 s46 s47 s48 s49) : R6m W B tk tq j m z TV PV q (fun j => j == 12 || D j) w s32 s33 s34 s35 s36 s37 s38 s39 s40 s41 s42 s43 (.int .i64 (z * z)) s45 s46 s47 s48 s49 :=
  ⟨h.hb, h.h0, h.h1, h.h2, h.h3, h.h4, h.h5, h.h6, h.h7, h.h8, h.h9, h.h10, h.h11, fun _ => rfl, h.h13, h.h14, h.h15, h.h16, h.h17⟩
theorem R6m.at13 (h : R6m W B tk tq j m z TV PV q D w s32 s33 s34 s35 s36 s37 s38 s39 s40 s41 s42 s43 s44 s45 s46 s47 s48 s49) (hm : m < 3) : R6m W B tk tq j m z TV PV q (fun j => j == 13 || D j) (w.alloc (.cells #[.int .i64 1, .int .i64 z, .int .i64 (z * z)] 3)) s32 s33 s34 s35 s36 s37 s38 s39 s40 s41 s42 s43 s44 (.slice (some ⟨w.heap.size, 0, none⟩) 3 3) s46 s47 s48 s49 := by
  have hb := below_alloc w (.cells #[.int .i64 1, .int .i64 z, .int .i64 (z * z)] 3)
  refine ⟨below_step h.hb hb, h.h0, h.h1, h.h2, h.h3, h.h4, h.h5, h.h6, h.h7, h.h8, h.h9, h.h10, h.h11, h.h12, ?_, h.h14, ?_, h.h16, h.h17⟩
  · exact fun _ => ⟨w.heap.size, rfl, tri_cell hm⟩
  · intro e
    obtain ⟨g, h1, h2⟩ := h.h15 e
    exact ⟨g, h1, grow_cell hb _ _ h2⟩
theorem R6m.at14 (h : R6m W B tk tq j m z TV PV q D w s32 s33 s34 s35 s36 s37 s38 s39 s40 s41 s42 s43 s44 s45 s46 s47 s48 s49) : R6m W B tk tq j m z TV PV q (fun j => j == 14 || D j) w s32 s33 s34 s35 s36 s37 s38 s39 s40 s41 s42 s43 s44 s45 (.int .i64 m) s47 s48 s49 :=
  ⟨h.hb, h.h0, h.h1, h.h2, h.h3, h.h4, h.h5, h.h6, h.h7, h.h8, h.h9, h.h10, h.h11, h.h12, h.h13, fun _ => rfl, h.h15, h.h16, h.h17⟩
theorem R6m.at15 (h : R6m W B tk tq j m z TV PV q D w s32 s33 s34 s35 s36 s37 s38 s39 s40 s41 s42 s43 s44 s45 s46 s47 s48 s49) {g : Nat} (hc : w.cell? ⟨g, m, none⟩ = some (.int .i64 (mlen z m))) : R6m W B tk tq j m z TV PV q (fun j => j == 15 || D j) w s32 s33 s34 s35 s36 s37 s38 s39 s40 s41 s42 s43 s44 s45 s46 (.pointer (some ⟨g, m, none⟩)) s48 s49 :=
  ⟨h.hb, h.h0, h.h1, h.h2, h.h3, h.h4, h.h5, h.h6, h.h7, h.h8, h.h9, h.h10, h.h11, h.h12, h.h13, h.h14, fun _ => ⟨g, rfl, hc⟩, h.h16, h.h17⟩
theorem R6m.at16 (h : R6m W B tk tq j m z TV PV q D w s32 s33 s34 s35 s36 s37 s38 s39 s40 s41 s42 s43 s44 s45 s46 s47 s48 s49) : R6m W B tk tq j m z TV PV q (fun j => j == 16 || D j) w s32 s33 s34 s35 s36 s37 s38 s39 s40 s41 s42 s43 s44 s45 s46 s47 (.int .i64 (mlen z m)) s49 :=
  ⟨h.hb, h.h0, h.h1, h.h2, h.h3, h.h4, h.h5, h.h6, h.h7, h.h8, h.h9, h.h10, h.h11, h.h12, h.h13, h.h14, h.h15, fun _ => rfl, h.h17⟩
theorem R6m.at17 (h : R6m W B tk tq j m z TV PV q D w s32 s33 s34 s35 s36 s37 s38 s39 s40 s41 s42 s43 s44 s45 s46 s47 s48 s49) : R6m W B tk tq j m z TV PV q (fun j => j == 17 || D j) w s32 s33 s34 s35 s36 s37 s38 s39 s40 s41 s42 s43 s44 s45 s46 s47 s48 (.bool ((q : Int) != mlen z m)) :=
  ⟨h.hb, h.h0, h.h1, h.h2, h.h3, h.h4, h.h5, h.h6, h.h7, h.h8, h.h9, h.h10, h.h11, h.h12, h.h13, h.h14, h.h15, h.h16, fun _ => rfl⟩
theorem R6m.start (h : Below W.heap.size W w) : R6m W B tk tq j m z TV PV q (fun _ => false) w s32 s33 s34 s35 s36 s37 s38 s39 s40 s41 s42 s43 s44 s45 s46 s47 s48 s49 :=
  ⟨h, fun e => (by cases e), fun e => (by cases e), fun e => (by cases e), fun e => (by cases e), fun e => (by cases e), fun e => (by cases e), fun e => (by cases e), fun e => (by cases e), fun e => (by cases e), fun e => (by cases e), fun e => (by cases e), fun e => (by cases e), fun e => (by cases e), fun e => (by cases e), fun e => (by cases e), fun e => (by cases e), fun e => (by cases e), fun e => (by cases e)⟩
end
set_option maxRecDepth 100000 in
set_option maxHeartbeats 2000000 in
theorem wrongMR_any (s : List Int) (sv : Value) (z : Int) (tb : List (List Int)) (mv : Value) (w : World) (hN : NIn w s sv) (hT : TbIn w tb mv) (hs : s.all okNum = true) :
    Calls Tryd.prog 9 #[sv, .agg #[.int .i64 z, mv]] w fun e w' => e = .returned (.int .i64 (wrongM s z tb)) ∧ Below w.heap.size w w' := by
  have HN := hide hN
  have HT := hide hT
  have Hs := hide hs
  obtain ⟨sa, sc, sb, so, rfl, hsad, hslc, hscm, hSF⟩ := hN
  obtain ⟨ta, tc, tk, tq, rfl, htad, htlc, htcm, hTF⟩ := hT
  have HSF := hide hSF
  have HTF := hide hTF
  unfold maxLen at hscm htcm
  clear hSF hTF hs
  go_enter Tryd.func9, Tryd.ntmps9
  go_upto_region 1 with fail
  generalize hW1 : w.alloc (.cells #[.int .i64 z, .slice ta tb.length tc] 29) = W1
  have hB1 : Below w.heap.size w W1 := by rw [← hW1]; exact below_alloc _ _
  have m0 : W1.cell? ⟨w.heap.size, 0, none⟩ = some (.int .i64 z) := by rw [← hW1]; exact new_cell rfl
  have m1 : W1.cell? ⟨w.heap.size, 1, none⟩ = some (.slice ta tb.length tc) := by rw [← hW1]; exact new_cell rfl
  clear hW1
  by_cases h1 : z < 1
  · have Hf : Hid (wrongM s z tb = 5) := if_pos (.inl h1)
    go_wp2_with fail
    go_ret
    exact ⟨by rw [Hf.out]; rfl, hB1⟩
  by_cases h8 : 8 < z
  · have Hf : Hid (wrongM s z tb = 5) := if_pos (.inr (.inl h8))
    go_wp2_with fail
    go_ret
    exact ⟨by rw [Hf.out]; rfl, hB1⟩
  by_cases hl : tb.length = s.length
  · have Hf : Hid (wrongM s z tb = rowsE z (s.zip tb)) := if_neg (by omega)
    have hlb : ((tb.length : Int) != (s.length : Int)) = false := by simp [hl]
    have Hl := hide hl
    clear hl
    go_wp2_with fail
    clear hlb
    go_loopw [27] (fun i wr => ∃ j : Nat, j ≤ s.length ∧ i = .int .i64 j ∧ (∀ i, i < j → ∀ a, (s.zip tb)[i]? = some a → rowE z a = 0) ∧ Below W1.heap.size W1 wr) (fun i _ => s.length - (intOf i).toNat)
    case atStart => exact ⟨0, Nat.zero_le _, rfl, fun i hi => by omega, Below.refl _ _⟩
    case round =>
      obtain ⟨j, hj, rfl, hok, hBx⟩ := hrel
      have Hok := hide hok
      clear hok
      have hBr := below_step hB1 hBx
      replace m0 := grow_cell hBx _ _ m0
      replace m1 := grow_cell hBx _ _ m1
      by_cases hlt : j < s.length
      · have hlt' : (j : Int) < (s.length : Int) := by omega
        have hjt : (j : Int) < (tb.length : Int) := by have := Hl.out; omega
        have hc := grow_cell hBr _ _ (HSF.out j hlt)
        obtain ⟨pv, p1, hP⟩ := HTF.out j (by omega)
        replace p1 := grow_cell hBr _ _ p1
        replace hP := hP.below hBr
        have hsj : s[j]? = some (s.getD j 0) := by rw [List.getD_eq_getElem?_getD, List.getElem?_eq_getElem hlt]; rfl
        have htj : tb[j]? = some (tb.getD j []) := by rw [List.getD_eq_getElem?_getD, List.getElem?_eq_getElem (by omega)]; rfl
        have Hzip : Hid ((s.zip tb)[j]? = some (s.getD j 0, tb.getD j [])) := by rw [Hid, List.getElem?_zip_eq_some]; exact ⟨hsj, htj⟩
        have hok2 : 0 ≤ s.getD j 0 ∧ s.getD j 0 ≤ 2 := by
          have := List.all_eq_true.1 Hs.out _ (List.mem_of_getElem? hsj)
          simpa [okNum] using this
        have HP := hide hP
        obtain ⟨ra, rc, rb, ro, rfl, hrad, hrlc, hrcm, hRF⟩ := hP
        have HRF := hide hRF
        unfold maxLen at hrcm
        generalize s.getD j 0 = n at *
        generalize tb.getD j [] = row at *
        have hsa : sa = some ⟨sb, so, none⟩ := hsad (by omega)
        subst hsa
        have hta : ta = some ⟨tk, tq, none⟩ := htad (by omega)
        subst hta
        clear hRF hsj htj hsad htad
        go_upto_region 6 with fail
        obtain ⟨m, rfl⟩ : ∃ m : Nat, n = m := ⟨n.toNat, by omega⟩
        have hm3 : m < 3 := by omega
        have hm3' : (m : Int) < 3 := by omega
        have HZ : Hid (z * z ≤ 64 ∧ 0 ≤ z * z) := ⟨Int.mul_le_mul (by omega : z ≤ 8) (by omega : z ≤ 8) (by omega) (by omega), Int.mul_nonneg (by omega) (by omega)⟩
        go_cut [49] (fun s49 wx => s49 = .bool ((row.length : Int) != mlen z m) ∧ Below wr.heap.size wr wx)
        case first =>
          refine region_inv (fun D a w' => ∃ s32 s33 s34 s35 s36 s37 s38 s39 s40 s41 s42 s43 s44 s45 s46 s47 s48 s49 : Value, a = ⟨#[.slice (some ⟨sb, so, none⟩) s.length sc, .agg #[.int .i64 z, .slice (some ⟨tk, tq, none⟩) tb.length tc], undef, .pointer (some ⟨w.heap.size, 0, none⟩), u4, .int .i64 j, .int .i64 m, undef, u8, .pointer (some ⟨w.heap.size, 0, none⟩), .int .i64 z, .bool false, .bool false, .pointer (some ⟨w.heap.size, 0, none⟩), .int .i64 z, .bool false, .bool false, .bool false, .pointer (some ⟨w.heap.size, 1, none⟩), .slice (some ⟨tk, tq, none⟩) tb.length tc, .int .i64 tb.length, .slice (some ⟨sb, so, none⟩) s.length sc, .int .i64 s.length, .bool false, .bool false, .slice (some ⟨sb, so, none⟩) s.length sc, .int .i64 s.length, .int .i64 j, .bool true, .int .i64 j, .pointer (some ⟨sb, so + j, none⟩), .int .i64 m, s32, s33, s34, s35, s36, s37, s38, s39, s40, s41, s42, s43, s44, s45, s46, s47, s48, s49, u50, u51, u52, u53, u54, u55, u56, u57, u58, u59, u60, u61, u62, u63, u64, u65, u66, u67, u68, u69], []⟩ ∧ R6m wr w.heap.size tk tq j m z (.slice (some ⟨tk, tq, none⟩) tb.length tc) (.slice ra row.length rc) row.length D w' s32 s33 s34 s35 s36 s37 s38 s39 s40 s41 s42 s43 s44 s45 s46 s47 s48 s49) (by kernel_rfl) (by kernel_rfl) ?_ ?_ ⟨_, _, _, _, _, _, _, _, _, _, _, _, _, _, _, _, _, _, rfl, R6m.start (Below.refl _ _).drew⟩
          · rintro D a w' i o hi ⟨s32, s33, s34, s35, s36, s37, s38, s39, s40, s41, s42, s43, s44, s45, s46, s47, s48, s49, rfl, hI⟩ hD ho hdep
            have HI := hide hI
            replace m0 := grow_cell hI.hb _ _ m0
            replace m1 := grow_cell hI.hb _ _ m1
            replace p1 := grow_cell hI.hb _ _ p1
            clear hI
            have hi' : i < 18 := hi
            clear hi
            rcases (by omega : i = 0 ∨ i = 1 ∨ i = 2 ∨ i = 3 ∨ i = 4 ∨ i = 5 ∨ i = 6 ∨ i = 7 ∨ i = 8 ∨ i = 9 ∨ i = 10 ∨ i = 11 ∨ i = 12 ∨ i = 13 ∨ i = 14 ∨ i = 15 ∨ i = 16 ∨ i = 17) with rfl | rfl | rfl | rfl | rfl | rfl | rfl | rfl | rfl | rfl | rfl | rfl | rfl | rfl | rfl | rfl | rfl | rfl
            · obtain rfl := Option.some.inj ho
              clear ho hdep hD
              refine wpOp_step rfl (fun K hK => ?_)
              go_simp
              exact hK _ _ ⟨_, _, _, _, _, _, _, _, _, _, _, _, _, _, _, _, _, _, rfl, HI.out.at0⟩
            · obtain rfl := Option.some.inj ho
              have d0 := HI.out.h0 (hdep ⟨0, .data⟩ (by simp) rfl)
              subst d0
              clear ho hdep hD
              refine wpOp_step rfl (fun K hK => ?_)
              go_simp
              exact hK _ _ ⟨_, _, _, _, _, _, _, _, _, _, _, _, _, _, _, _, _, _, rfl, HI.out.at1⟩
            · obtain rfl := Option.some.inj ho
              clear ho hdep hD
              refine wpOp_step rfl (fun K hK => ?_)
              go_simp
              exact hK _ _ ⟨_, _, _, _, _, _, _, _, _, _, _, _, _, _, _, _, _, _, rfl, HI.out.at2⟩
            · obtain rfl := Option.some.inj ho
              have d1 := HI.out.h1 (hdep ⟨1, .data⟩ (by simp) rfl)
              subst d1
              have d2 := HI.out.h2 (hdep ⟨2, .data⟩ (by simp) rfl)
              subst d2
              clear ho hdep hD
              refine wpOp_step rfl (fun K hK => ?_)
              go_simp
              exact hK _ _ ⟨_, _, _, _, _, _, _, _, _, _, _, _, _, _, _, _, _, _, rfl, HI.out.at3⟩
            · obtain rfl := Option.some.inj ho
              have d3 := HI.out.h3 (hdep ⟨3, .data⟩ (by simp) rfl)
              subst d3
              clear ho hdep hD
              refine wpOp_step rfl (fun K hK => ?_)
              go_simp
              exact hK _ _ ⟨_, _, _, _, _, _, _, _, _, _, _, _, _, _, _, _, _, _, rfl, HI.out.at4⟩
            · obtain rfl := Option.some.inj ho
              have d4 := HI.out.h4 (hdep ⟨4, .data⟩ (by simp) rfl)
              subst d4
              clear ho hdep hD
              refine wpOp_step rfl (fun K hK => ?_)
              go_simp
              exact hK _ _ ⟨_, _, _, _, _, _, _, _, _, _, _, _, _, _, _, _, _, _, rfl, HI.out.at5⟩
            · obtain rfl := Option.some.inj ho
              clear ho hdep hD
              refine wpOp_step rfl (fun K hK => ?_)
              go_simp
              exact hK _ _ ⟨_, _, _, _, _, _, _, _, _, _, _, _, _, _, _, _, _, _, rfl, HI.out.at6⟩
            · obtain rfl := Option.some.inj ho
              have d6 := HI.out.h6 (hdep ⟨6, .data⟩ (by simp) rfl)
              subst d6
              clear ho hdep hD
              refine wpOp_step rfl (fun K hK => ?_)
              go_simp
              exact hK _ _ ⟨_, _, _, _, _, _, _, _, _, _, _, _, _, _, _, _, _, _, rfl, HI.out.at7⟩
            · obtain rfl := Option.some.inj ho
              clear ho hdep hD
              refine wpOp_step rfl (fun K hK => ?_)
              go_simp
              exact hK _ _ ⟨_, _, _, _, _, _, _, _, _, _, _, _, _, _, _, _, _, _, rfl, HI.out.at8⟩
            · obtain rfl := Option.some.inj ho
              have d8 := HI.out.h8 (hdep ⟨8, .data⟩ (by simp) rfl)
              subst d8
              clear ho hdep hD
              refine wpOp_step rfl (fun K hK => ?_)
              go_simp
              exact hK _ _ ⟨_, _, _, _, _, _, _, _, _, _, _, _, _, _, _, _, _, _, rfl, HI.out.at9⟩
            · obtain rfl := Option.some.inj ho
              clear ho hdep hD
              refine wpOp_step rfl (fun K hK => ?_)
              go_simp
              exact hK _ _ ⟨_, _, _, _, _, _, _, _, _, _, _, _, _, _, _, _, _, _, rfl, HI.out.at10⟩
            · obtain rfl := Option.some.inj ho
              have d10 := HI.out.h10 (hdep ⟨10, .data⟩ (by simp) rfl)
              subst d10
              clear ho hdep hD
              refine wpOp_step rfl (fun K hK => ?_)
              go_simp
              exact hK _ _ ⟨_, _, _, _, _, _, _, _, _, _, _, _, _, _, _, _, _, _, rfl, HI.out.at11⟩
            · obtain rfl := Option.some.inj ho
              have d9 := HI.out.h9 (hdep ⟨9, .data⟩ (by simp) rfl)
              subst d9
              have d11 := HI.out.h11 (hdep ⟨11, .data⟩ (by simp) rfl)
              subst d11
              have hzz := HZ.out
              have hw : IntKind.i64.wrap (z * z) = z * z := by rw [IntKind.wrap_i64]; omega
              clear ho hdep hD
              refine wpOp_step rfl (fun K hK => ?_)
              go_simp
              exact hK _ _ ⟨_, _, _, _, _, _, _, _, _, _, _, _, _, _, _, _, _, _, rfl, HI.out.at12⟩
            · obtain rfl := Option.some.inj ho
              have d7 := HI.out.h7 (hdep ⟨7, .data⟩ (by simp) rfl)
              subst d7
              have d12 := HI.out.h12 (hdep ⟨12, .data⟩ (by simp) rfl)
              subst d12
              clear ho hdep hD
              refine wpOp_step rfl (fun K hK => ?_)
              go_simp
              exact hK _ _ ⟨_, _, _, _, _, _, _, _, _, _, _, _, _, _, _, _, _, _, rfl, HI.out.at13 hm3⟩
            · obtain rfl := Option.some.inj ho
              clear ho hdep hD
              refine wpOp_step rfl (fun K hK => ?_)
              go_simp
              exact hK _ _ ⟨_, _, _, _, _, _, _, _, _, _, _, _, _, _, _, _, _, _, rfl, HI.out.at14⟩
            · obtain rfl := Option.some.inj ho
              have d13 := HI.out.h13 (hdep ⟨13, .data⟩ (by simp) rfl)
              have d14 := HI.out.h14 (hdep ⟨14, .data⟩ (by simp) rfl)
              subst d14
              obtain ⟨g, rfl, hg⟩ := d13
              clear ho hdep hD
              refine wpOp_step rfl (fun K hK => ?_)
              go_simp
              exact hK _ _ ⟨_, _, _, _, _, _, _, _, _, _, _, _, _, _, _, _, _, _, rfl, HI.out.at15 hg⟩
            · obtain rfl := Option.some.inj ho
              have d15 := HI.out.h15 (hdep ⟨15, .data⟩ (by simp) rfl)
              obtain ⟨g, rfl, hg⟩ := d15
              clear ho hdep hD
              refine wpOp_step rfl (fun K hK => ?_)
              go_simp
              exact hK _ _ ⟨_, _, _, _, _, _, _, _, _, _, _, _, _, _, _, _, _, _, rfl, HI.out.at16⟩
            · obtain rfl := Option.some.inj ho
              have d5 := HI.out.h5 (hdep ⟨5, .data⟩ (by simp) rfl)
              subst d5
              have d16 := HI.out.h16 (hdep ⟨16, .data⟩ (by simp) rfl)
              subst d16
              clear ho hdep hD
              refine wpOp_step rfl (fun K hK => ?_)
              go_simp
              exact hK _ _ ⟨_, _, _, _, _, _, _, _, _, _, _, _, _, _, _, _, _, _, rfl, HI.out.at17⟩
          · rintro D a w' ⟨s32, s33, s34, s35, s36, s37, s38, s39, s40, s41, s42, s43, s44, s45, s46, s47, s48, s49, rfl, hI⟩ hall
            have h17 := hI.h17 (hall 17 (by decide))
            subst h17
            have Hb := hide hI.hb
            clear hI hall
            go_wp2_with fail
            go_meet
            case rel => exact ⟨rfl, Hb.out⟩
        case rest =>
          obtain ⟨rfl, hby⟩ := hcut
          generalize wc = wy at *
          replace m0 := grow_cell hby _ _ m0
          replace m1 := grow_cell hby _ _ m1
          replace p1 := grow_cell hby _ _ p1
          have hBy := below_step hBx hby
          have hBz := below_step hB1 hBy
          by_cases hlen : (row.length : Int) = mlen z m
          · have hlb : ((row.length : Int) != mlen z m) = false := by simp [hlen]
            have Hlen := hide hlen
            rw [hlb]
            clear hlen hlb
            go_wp2_with fail
            go_loopw [56] (fun i wx => ∃ q : Nat, q ≤ row.length ∧ i = .int .i64 q ∧ (∀ i, i < q → inZ z (row.getD i 0) = true) ∧ wy = wx) (fun i _ => row.length - (intOf i).toNat)
            case atStart => exact ⟨0, Nat.zero_le _, rfl, fun i hi => by omega, rfl⟩
            case round =>
              obtain ⟨q, hq, rfl, hin, rfl⟩ := hrel
              have Hin := hide hin
              clear hin
              by_cases hql : q < row.length
              · have hql' : (q : Int) < (row.length : Int) := by omega
                have c3 := grow_cell hby _ _ (HRF.out q hql)
                have hra : ra = some ⟨rb, ro, none⟩ := hrad (by omega)
                subst hra
                have Hmem : Hid (row.getD q 0 ∈ row) := by rw [Hid, List.getD_eq_getElem?_getD, List.getElem?_eq_getElem hql]; simp
                have Hnx : Hid (inZ z (row.getD q 0) = true → ∀ i, i < q + 1 → inZ z (row.getD i 0) = true) := fun h i hi => by
                  by_cases e : i = q
                  · rw [e]; exact h
                  · exact Hin.out i (by omega)
                generalize row.getD q 0 = x at *
                clear hrad
                by_cases hx : 0 ≤ x ∧ x < z
                · obtain ⟨x0, x1⟩ := hx
                  have Hn := hide (Hnx.out (by simp [inZ, x0, x1]))
                  go_wp2_with fail
                  go_roundw
                  case rel => exact ⟨q + 1, by omega, by go_num, Hn.out, trivial⟩
                  case measure => simp [intOf]; omega
                · have Hbad : Hid (rowsE z (s.zip tb) = 3) := by
                    have hr : rowE z ((m : Int), row) = 3 := by
                      unfold rowE
                      rw [if_pos Hlen.out, if_neg]
                      intro hall
                      have := List.all_eq_true.1 hall x Hmem.out
                      simp only [inZ, decide_eq_true_eq] at this
                      exact hx this
                    rw [Hid, rowsE_at Hok.out Hzip.out (by rw [hr]; decide), hr]
                  by_cases x0 : x < 0
                  · clear hx
                    go_wp2_with fail
                    go_ret
                    exact ⟨by rw [Hf.out, Hbad.out]; rfl, hBz⟩
                  · have x1 : z ≤ x := by omega
                    clear hx
                    go_wp2_with fail
                    go_ret
                    exact ⟨by rw [Hf.out, Hbad.out]; rfl, hBz⟩
              · have Hgood : Hid (rowE z ((m : Int), row) = 0) := by
                  rw [Hid, row_ok]
                  refine ⟨Hlen.out, fun x hx => ?_⟩
                  obtain ⟨i, hi, rfl⟩ := List.mem_iff_getElem.1 hx
                  have hi2 : i < row.length := hi
                  have := Hin.out i (by omega)
                  rw [List.getD_eq_getElem?_getD, List.getElem?_eq_getElem hi2] at this
                  simpa [inZ] using this
                have Hn : Hid (∀ i, i < j + 1 → ∀ a, (s.zip tb)[i]? = some a → rowE z a = 0) := fun i hi a ha => by
                  by_cases e : i = j
                  · rw [e, Hzip.out] at ha; cases ha; exact Hgood.out
                  · exact Hok.out i (by omega) a ha
                clear hrad
                go_wp2_with fail
                go_roundw
                case rel => exact ⟨j + 1, by omega, by go_num, Hn.out, hBy⟩
                case measure => simp [intOf]; omega
          · have hlb : ((row.length : Int) != mlen z m) = true := by simp [hlen]
            have Hbad : Hid (rowsE z (s.zip tb) = 5) := by
              have hr : rowE z ((m : Int), row) = 5 := by
                unfold rowE
                rw [if_neg hlen]
              rw [Hid, rowsE_at Hok.out Hzip.out (by rw [hr]; decide), hr]
            rw [hlb]
            clear hlen hlb
            go_wp2_with fail
            go_ret
            exact ⟨by rw [Hf.out, Hbad.out]; rfl, hBz⟩
      · have Hfin : Hid (rowsE z (s.zip tb) = 0) := by
          rw [Hid, rowsE_iff]
          intro p hp
          obtain ⟨i, hi⟩ := List.mem_iff_getElem?.1 hp
          have hil : i < (s.zip tb).length := (List.getElem?_eq_some_iff.1 hi).1
          rw [List.length_zip] at hil
          exact Hok.out i (by omega) p hi
        clear hsad htad
        go_wp2_with fail
        go_ret
        exact ⟨by rw [Hf.out, Hfin.out]; rfl, hBr⟩
  · have Hf : Hid (wrongM s z tb = 5) := if_pos (.inr (.inr hl))
    have hlb : ((tb.length : Int) != (s.length : Int)) = true := by simp; omega
    clear hl
    go_wp2_with fail
    go_ret
    exact ⟨by rw [Hf.out]; rfl, hB1⟩
end Go.Proofs.YtlgnpiphaeoeiadDoor
