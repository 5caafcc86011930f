/- The table that is asked once, filled in whatever order. -/
import Derived.Test.YtdaebldfmchclabG18
import Derived.Test.YtdaebldfmchclabRows
import Derived.WalkKit
import Derived.ProofKit
import Derived.OpenShut
import Derived.Lib.SmallJoins
namespace Go.Proofs.Ytdaebldfmchclab
open Go.RowKit Go.Deep Go.ChangeShapes Go.WideShapes Go.Maps

def revC (c : Int) : Int := if c = 1 then 3 else if c = 3 then 1 else c
def nI (D : Nat → Bool) : Nat := (D 4).toNat + (D 5).toNat + (D 6).toNat + (D 7).toNat
/-- What the table tells, so far. -/
def tb4 (D : Nat → Bool) (v : Int) : Int := if D 5 = true ∧ v = 1 then 3 else if D 6 = true ∧ v = 2 then 2 else if D 7 = true ∧ v = 3 then 1 else 0
theorem tel_set {D : MD} {g : Int → Int} {x c : Int} (h : Tel D g) (hc : inR c) : Tel (D.put (.int .i64 x) (.lit (.int .i64 c))) (fun v => if v = x then c else g v) := by
  refine ⟨h.1.put _ _, fun v hv => ?_⟩
  by_cases e : v = x
  · subst e
    rw [atKey_put_same h.1 (key_lit _)]
    dsimp only
    rw [if_pos rfl, wrap64_of hc]
  · rw [atKey_put_other (by intro e'; injection e' with _ e'; exact e e'), h.2 v hv]
    dsimp only
    rw [if_neg e]
theorem om_below {w w' : World} {b n : Nat} {D : MD} (h : OM w b n D) (hb : Below w.heap.size w w') : OM w' b n D := by
  have hlt := h.lt
  obtain ⟨es, clock, h1, h2⟩ := h
  exact ⟨es, clock, (hb.block b hlt).trans h1, h2⟩
theorem tel_congr {D : MD} {g g' : Int → Int} (h : Tel D g) (e : ∀ v, g v = g' v) : Tel D g' := ⟨h.1, fun v hv => by rw [h.2 v hv, e v]⟩

structure R6 (wx : World) (C1 R : Int) (xa ya : Value) (D : Nat → Bool) (w : World) (s30 s31 s32 s33 s34 s35 s36 s37 : Value) : Prop where
  h0 : D 0 = true → s30 = ya
  h1 : D 1 = true → s31 = xa
  h2 : D 2 = true → s32 = .int .i64 R
  hb : Below wx.heap.size wx w
  h3 : D 3 = true → ∃ (b : Nat) (Dm : MD), s33 = .map (some b) ∧ wx.heap.size ≤ b ∧ OM w b (nI D) Dm ∧ Tel Dm (tb4 D)
  hn : D 3 = false → D 4 = false ∧ D 5 = false ∧ D 6 = false ∧ D 7 = false
  h8 : D 8 = true → s34 = s33 ∧ D 3 = true ∧ D 4 = true ∧ D 5 = true ∧ D 6 = true ∧ D 7 = true
  h9 : D 9 = true → s35 = .int .i64 C1
  h10 : D 10 = true → s36 = .int .i64 R
  h11 : D 11 = true → s37 = .bool false

section
variable {wx : World} {C1 R : Int} {xa ya : Value} {D : Nat → Bool} {w w' : World} {s30 s31 s32 s33 s34 s35 s36 s37 : Value}

theorem R6.at0 (h : R6 wx C1 R xa ya D w s30 s31 s32 s33 s34 s35 s36 s37) : R6 wx C1 R xa ya (fun j => j == 0 || D j) w ya s31 s32 s33 s34 s35 s36 s37 :=
  ⟨fun _ => rfl, h.h1, h.h2, h.hb, h.h3, h.hn, h.h8, h.h9, h.h10, h.h11⟩
theorem R6.at1 (h : R6 wx C1 R xa ya D w s30 s31 s32 s33 s34 s35 s36 s37) : R6 wx C1 R xa ya (fun j => j == 1 || D j) w s30 xa s32 s33 s34 s35 s36 s37 :=
  ⟨h.h0, fun _ => rfl, h.h2, h.hb, h.h3, h.hn, h.h8, h.h9, h.h10, h.h11⟩
theorem R6.at2 (h : R6 wx C1 R xa ya D w s30 s31 s32 s33 s34 s35 s36 s37) (hb : Below w.heap.size w w') : R6 wx C1 R xa ya (fun j => j == 2 || D j) w' s30 s31 (.int .i64 R) s33 s34 s35 s36 s37 :=
  ⟨h.h0, h.h1, fun _ => rfl, below_step h.hb hb, fun e => by
    obtain ⟨b, Dm, h1, h2, h3, h4⟩ := h.h3 e
    exact ⟨b, Dm, h1, h2, om_below h3 hb, h4⟩, h.hn, h.h8, h.h9, h.h10, h.h11⟩
theorem R6.at3 (h : R6 wx C1 R xa ya D w s30 s31 s32 s33 s34 s35 s36 s37) (h3 : D 3 = false) : R6 wx C1 R xa ya (fun j => j == 3 || D j) (w.alloc (.map #[] 0)) s30 s31 s32 (.map (some w.heap.size)) s34 s35 s36 s37 := by
  obtain ⟨d4, d5, d6, d7⟩ := h.hn h3
  refine ⟨h.h0, h.h1, h.h2, h.hb.alloc h.hb.size _, fun _ => ⟨w.heap.size, .map [], rfl, h.hb.size, ?_, ?_⟩, fun e => absurd (show true = false from e) (by decide), fun e => ?_, h.h9, h.h10, h.h11⟩
  · have : nI (fun j => j == 3 || D j) = 0 := by
      show (D 4).toNat + (D 5).toNat + (D 6).toNat + (D 7).toNat = 0
      rw [d4, d5, d6, d7]; rfl
    rw [this]
    exact World.ownsMap_made _ _ _ _
  · refine ⟨isMap_empty, fun v _ => ?_⟩
    have : tb4 (fun j => j == 3 || D j) v = 0 := by
      show (if D 5 = true ∧ v = 1 then (3 : Int) else if D 6 = true ∧ v = 2 then 2 else if D 7 = true ∧ v = 3 then 1 else 0) = 0
      rw [d5, d6, d7]; simp
    rw [this]
    simp [wrap64, DataW.atKey]
  · have := (h.h8 e).2.1
    rw [h3] at this
    cases this
/-- Something is laid into the table. -/
theorem R6.ins (h : R6 wx C1 R xa ya D w s30 s31 s32 s33 s34 s35 s36 s37) (D' : Nat → Bool) (h3 : D 3 = true) (x c : Int) (hx : inR x) (hc : inR c)
    (e0 : D' 0 = D 0) (e1 : D' 1 = D 1) (e2 : D' 2 = D 2) (e3 : D' 3 = D 3) (e8 : D' 8 = D 8) (e9 : D' 9 = D 9) (e10 : D' 10 = D 10) (e11 : D' 11 = D 11) (m4 : D 4 = true → D' 4 = true) (m5 : D 5 = true → D' 5 = true) (m6 : D 6 = true → D' 6 = true) (m7 : D 7 = true → D' 7 = true)
    (hn : nI D' = nI D + 1) (ht : ∀ v, (if v = x then c else tb4 D v) = tb4 D' v) :
    ∃ (b : Nat) (w' : World), s33 = .map (some b) ∧ (Instr.mapUpdate 31 (.map (some b)) (.int .i64 x) (.int .i64 c)).run Try.prog w = .ok () w' ∧ R6 wx C1 R xa ya D' w' s30 s31 s32 s33 s34 s35 s36 s37 := by
  obtain ⟨b, Dm, h1, h2, hO, hT⟩ := h.h3 h3
  have hwx : (Lit.int .i64 x).wf = true := WalkArith.wf_i64 (by unfold inR at hx; omega)
  have hwc : (Lit.int .i64 c).wf = true := WalkArith.wf_i64 (by unfold inR at hc; omega)
  have hnb : nI D < maxLen := by
    unfold nI maxLen
    have q : ∀ b : Bool, b.toNat ≤ 1 := fun b => by cases b <;> decide
    have := q (D 4)
    have := q (D 5)
    have := q (D 6)
    have := q (D 7)
    omega
  obtain ⟨w', hrun, hO', hg⟩ := hO.update keyed3 Try.underlying31 hnb (keyOf_int_mk Try.underlying3 hwx) (plainElem_int Try.underlying3 hwc)
  refine ⟨b, w', h1, hrun, ⟨fun e => h.h0 (e0 ▸ e), fun e => h.h1 (e1 ▸ e), fun e => h.h2 (e2 ▸ e), h.hb.grown hg h.hb.size (fun j hj => by cases hj; exact h2), fun _ => ⟨b, _, h1, h2, by rw [hn]; exact hO', tel_congr (tel_set hT hc) ht⟩, fun e => ?_, fun e => ?_, fun e => h.h9 (e9 ▸ e), fun e => h.h10 (e10 ▸ e), fun e => h.h11 (e11 ▸ e)⟩⟩
  · rw [e3, h3] at e; cases e
  · obtain ⟨q1, q2, q3, q4, q5, q6⟩ := h.h8 (e8 ▸ e)
    exact ⟨q1, e3.trans q2, m4 q3, m5 q4, m6 q5, m7 q6⟩
theorem R6.at4 (h : R6 wx C1 R xa ya D w s30 s31 s32 s33 s34 s35 s36 s37) (h3 : D 3 = true) (hD : D 4 = false) :
    ∃ (b : Nat) (w' : World), s33 = .map (some b) ∧ (Instr.mapUpdate 31 (.map (some b)) (.int .i64 0) (.int .i64 0)).run Try.prog w = .ok () w' ∧ R6 wx C1 R xa ya (fun j => j == 4 || D j) w' s30 s31 s32 s33 s34 s35 s36 s37 := by
  refine h.ins (fun j => j == 4 || D j) h3 0 0 (by unfold inR; omega) (by unfold inR; omega) rfl rfl rfl rfl rfl rfl rfl rfl (fun _ => rfl) (fun e => e) (fun e => e) (fun e => e) ?_ (fun v => ?_)
  · show 1 + (D 5).toNat + (D 6).toNat + (D 7).toNat = nI D + 1
    unfold nI; rw [hD]; simp; omega
  · show _ = tb4 D v
    by_cases e : v = 0
    · subst e; simp [tb4]
    · rw [if_neg e]
theorem R6.at5 (h : R6 wx C1 R xa ya D w s30 s31 s32 s33 s34 s35 s36 s37) (h3 : D 3 = true) (hD : D 5 = false) :
    ∃ (b : Nat) (w' : World), s33 = .map (some b) ∧ (Instr.mapUpdate 31 (.map (some b)) (.int .i64 1) (.int .i64 3)).run Try.prog w = .ok () w' ∧ R6 wx C1 R xa ya (fun j => j == 5 || D j) w' s30 s31 s32 s33 s34 s35 s36 s37 := by
  refine h.ins (fun j => j == 5 || D j) h3 1 3 (by unfold inR; omega) (by unfold inR; omega) rfl rfl rfl rfl rfl rfl rfl rfl (fun e => e) (fun _ => rfl) (fun e => e) (fun e => e) ?_ (fun v => ?_)
  · show (D 4).toNat + 1 + (D 6).toNat + (D 7).toNat = nI D + 1
    unfold nI; rw [hD]; simp; omega
  · show _ = (if true = true ∧ v = 1 then (3 : Int) else if D 6 = true ∧ v = 2 then 2 else if D 7 = true ∧ v = 3 then 1 else 0)
    unfold tb4
    by_cases e : v = 1
    · subst e; simp
    · simp [e]
theorem R6.at6 (h : R6 wx C1 R xa ya D w s30 s31 s32 s33 s34 s35 s36 s37) (h3 : D 3 = true) (hD : D 6 = false) :
    ∃ (b : Nat) (w' : World), s33 = .map (some b) ∧ (Instr.mapUpdate 31 (.map (some b)) (.int .i64 2) (.int .i64 2)).run Try.prog w = .ok () w' ∧ R6 wx C1 R xa ya (fun j => j == 6 || D j) w' s30 s31 s32 s33 s34 s35 s36 s37 := by
  refine h.ins (fun j => j == 6 || D j) h3 2 2 (by unfold inR; omega) (by unfold inR; omega) rfl rfl rfl rfl rfl rfl rfl rfl (fun e => e) (fun e => e) (fun _ => rfl) (fun e => e) ?_ (fun v => ?_)
  · show (D 4).toNat + (D 5).toNat + 1 + (D 7).toNat = nI D + 1
    unfold nI; rw [hD]; simp; omega
  · show _ = (if D 5 = true ∧ v = 1 then (3 : Int) else if true = true ∧ v = 2 then 2 else if D 7 = true ∧ v = 3 then 1 else 0)
    unfold tb4
    by_cases e : v = 2
    · subst e; simp
    · simp [e]
theorem R6.at7 (h : R6 wx C1 R xa ya D w s30 s31 s32 s33 s34 s35 s36 s37) (h3 : D 3 = true) (hD : D 7 = false) :
    ∃ (b : Nat) (w' : World), s33 = .map (some b) ∧ (Instr.mapUpdate 31 (.map (some b)) (.int .i64 3) (.int .i64 1)).run Try.prog w = .ok () w' ∧ R6 wx C1 R xa ya (fun j => j == 7 || D j) w' s30 s31 s32 s33 s34 s35 s36 s37 := by
  refine h.ins (fun j => j == 7 || D j) h3 3 1 (by unfold inR; omega) (by unfold inR; omega) rfl rfl rfl rfl rfl rfl rfl rfl (fun e => e) (fun e => e) (fun e => e) (fun _ => rfl) ?_ (fun v => ?_)
  · show (D 4).toNat + (D 5).toNat + (D 6).toNat + 1 = nI D + 1
    unfold nI; rw [hD]; simp
  · show _ = (if D 5 = true ∧ v = 1 then (3 : Int) else if D 6 = true ∧ v = 2 then 2 else if true = true ∧ v = 3 then 1 else 0)
    unfold tb4
    by_cases e : v = 3
    · subst e; simp
    · simp [e]
theorem R6.at8 (h : R6 wx C1 R xa ya D w s30 s31 s32 s33 s34 s35 s36 s37) (h3 : D 3 = true) (h4 : D 4 = true) (h5 : D 5 = true) (h6 : D 6 = true) (h7 : D 7 = true) : R6 wx C1 R xa ya (fun j => j == 8 || D j) w s30 s31 s32 s33 s33 s35 s36 s37 :=
  ⟨h.h0, h.h1, h.h2, h.hb, h.h3, h.hn, fun _ => ⟨rfl, h3, h4, h5, h6, h7⟩, h.h9, h.h10, h.h11⟩
theorem R6.at9 (h : R6 wx C1 R xa ya D w s30 s31 s32 s33 s34 s35 s36 s37) : R6 wx C1 R xa ya (fun j => j == 9 || D j) w s30 s31 s32 s33 s34 (.int .i64 C1) s36 s37 :=
  ⟨h.h0, h.h1, h.h2, h.hb, h.h3, h.hn, h.h8, fun _ => rfl, h.h10, h.h11⟩
theorem R6.at10 (h : R6 wx C1 R xa ya D w s30 s31 s32 s33 s34 s35 s36 s37) (h8 : D 8 = true) (hC : C1 = 0 ∨ C1 = 1 ∨ C1 = 2 ∨ C1 = 3) (hR : R = revC C1) :
    ∃ b : Nat, s34 = .map (some b) ∧ (Instr.lookup 31 (.map (some b)) (.int .i64 C1) false).run Try.prog w = .ok (.int .i64 R) w ∧ R6 wx C1 R xa ya (fun j => j == 10 || D j) w s30 s31 s32 s33 s34 s35 (.int .i64 R) s37 := by
  obtain ⟨q1, q2, q3, q4, q5, q6⟩ := h.h8 h8
  obtain ⟨b, Dm, h1, h2, hO, hT⟩ := h.h3 q2
  have hin : inR C1 := by unfold inR; omega
  obtain ⟨c, hrun, hat, _⟩ := hO.lookup_int keyed3 Try.underlying31 Try.underlying3 (zero3 _) (keyOf_int_mk Try.underlying3 (show (Lit.int .i64 C1).wf = true from WalkArith.wf_i64 (by unfold inR at hin; omega)))
  have hc : c = R := by
    rw [hT.2 C1 hin] at hat
    injection hat with hat
    injection hat with _ hat
    rw [← hat, hR]
    unfold tb4 revC
    rw [q4, q5, q6]
    rcases hC with rfl | rfl | rfl | rfl <;> simp [wrap64]
  subst hc
  exact ⟨b, q1.trans h1, hrun, ⟨h.h0, h.h1, h.h2, h.hb, h.h3, h.hn, h.h8, h.h9, fun _ => rfl, h.h11⟩⟩
theorem R6.at11 (h : R6 wx C1 R xa ya D w s30 s31 s32 s33 s34 s35 s36 s37) : R6 wx C1 R xa ya (fun j => j == 11 || D j) w s30 s31 s32 s33 s34 s35 s36 (.bool false) :=
  ⟨h.h0, h.h1, h.h2, h.hb, h.h3, h.hn, h.h8, h.h9, h.h10, fun _ => rfl⟩
theorem R6.start (h : Below wx.heap.size wx w) : R6 wx C1 R xa ya (fun _ => false) w s30 s31 s32 s33 s34 s35 s36 s37 :=
  ⟨fun e => (by cases e), fun e => (by cases e), fun e => (by cases e), h, fun e => (by cases e), fun _ => ⟨rfl, rfl, rfl, rfl⟩, fun e => (by cases e), fun e => (by cases e), fun e => (by cases e), fun e => (by cases e)⟩
end

/-- The last test, in whatever order. -/
structure V10 (wz : World) (C1 : Int) (xa ya : Value) (T1 T2 : List Int) (B : Bool) (D : Nat → Bool) (w : World) (s8 s56 s57 s58 s59 s60 s61 s62 s63 s64 s65 : Value) : Prop where
  h0 : D 0 = true → s56 = xa
  h1 : D 1 = true → NIn w T1 s57
  h2 : D 2 = true → s58 = ya
  h3 : D 3 = true → ∃ y1 y3, s59 = .slice y1 T2.length y3
  h4 : D 4 = true → s60 = .int .i64 (T2.length : Nat)
  h5 : D 5 = true → s61 = .bool B
  h6 : D 6 = true → s62 = .bool B
  h7 : D 7 = true → B = false → s63 = .int .i64 C1
  h8 : D 8 = true → B = false → s64 = .bool true
  h9 : D 9 = true → s65 = .bool true
  h10 : D 10 = true → s8 = .bool true
  hb : Below wz.heap.size wz w

section
variable {wz : World} {C1 : Int} {xa ya : Value} {T1 T2 : List Int} {B : Bool} {D : Nat → Bool} {w w' : World} {s8 s56 s57 s58 s59 s60 s61 s62 s63 s64 s65 : Value}
theorem V10.at0 (h : V10 wz C1 xa ya T1 T2 B D w s8 s56 s57 s58 s59 s60 s61 s62 s63 s64 s65) : V10 wz C1 xa ya T1 T2 B (fun j => j == 0 || D j) w s8 xa s57 s58 s59 s60 s61 s62 s63 s64 s65 :=
  ⟨fun _ => rfl, h.h1, h.h2, h.h3, h.h4, h.h5, h.h6, h.h7, h.h8, h.h9, h.h10, h.hb⟩
theorem V10.at1 (h : V10 wz C1 xa ya T1 T2 B D w s8 s56 s57 s58 s59 s60 s61 s62 s63 s64 s65) {v : Value} (hb : Below w.heap.size w w') (hN : NIn w' T1 v) : V10 wz C1 xa ya T1 T2 B (fun j => j == 1 || D j) w' s8 s56 v s58 s59 s60 s61 s62 s63 s64 s65 :=
  ⟨h.h0, fun _ => hN, h.h2, h.h3, h.h4, h.h5, h.h6, h.h7, h.h8, h.h9, h.h10, below_step h.hb hb⟩
theorem V10.at2 (h : V10 wz C1 xa ya T1 T2 B D w s8 s56 s57 s58 s59 s60 s61 s62 s63 s64 s65) : V10 wz C1 xa ya T1 T2 B (fun j => j == 2 || D j) w s8 s56 s57 ya s59 s60 s61 s62 s63 s64 s65 :=
  ⟨h.h0, h.h1, fun _ => rfl, h.h3, h.h4, h.h5, h.h6, h.h7, h.h8, h.h9, h.h10, h.hb⟩
theorem V10.at3 (h : V10 wz C1 xa ya T1 T2 B D w s8 s56 s57 s58 s59 s60 s61 s62 s63 s64 s65) {y1 : Option Addr} {y3 : Nat} (hb : Below w.heap.size w w') : V10 wz C1 xa ya T1 T2 B (fun j => j == 3 || D j) w' s8 s56 s57 s58 (.slice y1 T2.length y3) s60 s61 s62 s63 s64 s65 :=
  ⟨h.h0, fun e => (h.h1 e).below hb, h.h2, fun _ => ⟨y1, y3, rfl⟩, h.h4, h.h5, h.h6, h.h7, h.h8, h.h9, h.h10, below_step h.hb hb⟩
theorem V10.at4 (h : V10 wz C1 xa ya T1 T2 B D w s8 s56 s57 s58 s59 s60 s61 s62 s63 s64 s65) : V10 wz C1 xa ya T1 T2 B (fun j => j == 4 || D j) w s8 s56 s57 s58 s59 (.int .i64 (T2.length : Nat)) s61 s62 s63 s64 s65 :=
  ⟨h.h0, h.h1, h.h2, h.h3, fun _ => rfl, h.h5, h.h6, h.h7, h.h8, h.h9, h.h10, h.hb⟩
theorem V10.at5 (h : V10 wz C1 xa ya T1 T2 B D w s8 s56 s57 s58 s59 s60 s61 s62 s63 s64 s65) {v : Value} (hv : v = .bool B) : V10 wz C1 xa ya T1 T2 B (fun j => j == 5 || D j) w s8 s56 s57 s58 s59 s60 v s62 s63 s64 s65 :=
  ⟨h.h0, h.h1, h.h2, h.h3, h.h4, fun _ => hv, h.h6, h.h7, h.h8, h.h9, h.h10, h.hb⟩
theorem V10.at6 (h : V10 wz C1 xa ya T1 T2 B D w s8 s56 s57 s58 s59 s60 s61 s62 s63 s64 s65) : V10 wz C1 xa ya T1 T2 B (fun j => j == 6 || D j) w s8 s56 s57 s58 s59 s60 s61 (.bool B) s63 s64 s65 :=
  ⟨h.h0, h.h1, h.h2, h.h3, h.h4, h.h5, fun _ => rfl, h.h7, h.h8, h.h9, h.h10, h.hb⟩
theorem V10.at7 (h : V10 wz C1 xa ya T1 T2 B D w s8 s56 s57 s58 s59 s60 s61 s62 s63 s64 s65) {v : Value} (hv : B = false → v = .int .i64 C1) : V10 wz C1 xa ya T1 T2 B (fun j => j == 7 || D j) w s8 s56 s57 s58 s59 s60 s61 s62 v s64 s65 :=
  ⟨h.h0, h.h1, h.h2, h.h3, h.h4, h.h5, h.h6, fun _ => hv, h.h8, h.h9, h.h10, h.hb⟩
theorem V10.at8 (h : V10 wz C1 xa ya T1 T2 B D w s8 s56 s57 s58 s59 s60 s61 s62 s63 s64 s65) {v : Value} (hv : B = false → v = .bool true) : V10 wz C1 xa ya T1 T2 B (fun j => j == 8 || D j) w s8 s56 s57 s58 s59 s60 s61 s62 s63 v s65 :=
  ⟨h.h0, h.h1, h.h2, h.h3, h.h4, h.h5, h.h6, h.h7, fun _ => hv, h.h9, h.h10, h.hb⟩
theorem V10.at9 (h : V10 wz C1 xa ya T1 T2 B D w s8 s56 s57 s58 s59 s60 s61 s62 s63 s64 s65) : V10 wz C1 xa ya T1 T2 B (fun j => j == 9 || D j) w s8 s56 s57 s58 s59 s60 s61 s62 s63 s64 (.bool true) :=
  ⟨h.h0, h.h1, h.h2, h.h3, h.h4, h.h5, h.h6, h.h7, h.h8, fun _ => rfl, h.h10, h.hb⟩
theorem V10.at10 (h : V10 wz C1 xa ya T1 T2 B D w s8 s56 s57 s58 s59 s60 s61 s62 s63 s64 s65) : V10 wz C1 xa ya T1 T2 B (fun j => j == 10 || D j) w (.bool true) s56 s57 s58 s59 s60 s61 s62 s63 s64 s65 :=
  ⟨h.h0, h.h1, h.h2, h.h3, h.h4, h.h5, h.h6, h.h7, h.h8, h.h9, fun _ => rfl, h.hb⟩
theorem V10.start (h : Below wz.heap.size wz w) : V10 wz C1 xa ya T1 T2 B (fun _ => false) w s8 s56 s57 s58 s59 s60 s61 s62 s63 s64 s65 :=
  ⟨fun e => (by cases e), fun e => (by cases e), fun e => (by cases e), fun e => (by cases e), fun e => (by cases e), fun e => (by cases e), fun e => (by cases e), fun e => (by cases e), fun e => (by cases e), fun e => (by cases e), fun e => (by cases e), h⟩
end

end Go.Proofs.Ytdaebldfmchclab

/- One way alone: the law's own walk. -/
namespace Go.Proofs.Ytdaebldfmchclab
open Go.RowKit Go.Deep Go.ChangeShapes Go.WideShapes Go.Maps
attribute [local go_sem ↓] Go.wp_at_zero Go.wp_at_succ

theorem cmp_rev {a b : Tm} (ha : okT a) (hb : okT b) : cmpT b a = revC (cmpT a b) := by
  have hs : sameT b.1 b.2 a.1 a.2 = sameT a.1 a.2 b.1 b.2 := by
    rw [Bool.eq_iff_iff, sameT_iff hb ha, sameT_iff ha hb]
    exact ⟨fun e => e.symm, fun e => e.symm⟩
  unfold cmpT
  rw [hs]
  by_cases h1 : sameT a.1 a.2 b.1 b.2 = true
  · rw [if_pos h1, if_pos h1]; rfl
  · rw [if_neg h1, if_neg h1]
    by_cases h2 : abvT a b = true
    · have h3 := abv_asym ha hb h2
      rw [if_neg h3, if_pos h2, if_pos h2]; rfl
    · by_cases h3 : abvT b a = true
      · rw [if_pos h3, if_neg h2, if_pos h3]; rfl
      · rw [if_neg h3, if_neg h2, if_neg h2, if_neg h3]; rfl
theorem cmp_same {a b : Tm} : (cmpT a b == 2) = sameT a.1 a.2 b.1 b.2 := by
  unfold cmpT
  cases h1 : sameT a.1 a.2 b.1 b.2
  · cases h2 : abvT a b
    · cases h3 : abvT b a <;> simp
    · simp
  · simp
theorem cmp_rng {a b : Tm} : cmpT a b = 0 ∨ cmpT a b = 1 ∨ cmpT a b = 2 ∨ cmpT a b = 3 := by
  unfold cmpT
  split
  · simp
  · split
    · simp
    · split <;> simp
theorem cmp_none {a b : Tm} (ha : okT a) (hb : okT b) (ga : ∀ v, timT v a = 0) (gb : ∀ v, timT v b = 0) : cmpT a b ≠ 0 := by
  unfold cmpT
  by_cases h1 : sameT a.1 a.2 b.1 b.2 = true
  · rw [if_pos h1]; decide
  · rw [if_neg h1]
    rcases abv_total _ rfl ha hb ga gb (fun e => h1 ((sameT_iff ha hb).2 e)) with h | h
    · rw [if_pos h]; decide
    · by_cases h2 : abvT a b = true
      · rw [if_pos h2]; decide
      · rw [if_neg h2, if_pos h]; decide
theorem vars_mem {m : Int} {y : Bool × Int} {l : Fo} {L : List Int} : m ∈ varsT y l L ↔ m ∈ L ∨ occT m (y, l) := by
  have h := occ_varsF (m := m) (F := .node 0 0 y l .nil) (l := L)
  rw [occF, show occF m .nil = False from rfl, or_false] at h
  exact h
theorem no_vars {x : Bool × Int} {k : Fo} {y : Bool × Int} {l : Fo} (hx : okT (x, k)) (hy : okT (y, l)) (h : varsT y l (varsT x k []) = []) : (∀ v, timT v (x, k) = 0) ∧ ∀ v, timT v (y, l) = 0 := by
  constructor
  · intro v
    by_cases e : 0 < timT v (x, k)
    · have h1 : v ∈ varsT y l (varsT x k []) := vars_mem.2 (.inl (vars_mem.2 (.inr (tim_occ hx e))))
      rw [h] at h1
      simp at h1
    · omega
  · intro v
    by_cases e : 0 < timT v (y, l)
    · have h1 : v ∈ varsT y l (varsT x k []) := vars_mem.2 (.inr (tim_occ hy e))
      rw [h] at h1
      simp at h1
    · omega

set_option maxRecDepth 100000 in
set_option maxHeartbeats 4000000 in
theorem orderOne_any (s : List Int) (sv : Value) (x : Bool × Int) (k : Fo) (a : Value) (y : Bool × Int) (l : Fo) (c : Value) (z : Bool × Int) (m : Fo) (d : Value) (w : World) (hN : NIn w s sv) (hS : SIn w k a) (hU : SIn w l c) (hM : SIn w m d) (hk : Fo.norm k = k) (hl : Fo.norm l = l) (hm : Fo.norm m = m) :
    Calls Try.prog 4 #[sv, .agg #[.bool x.1, .int .i64 x.2, a], .agg #[.bool y.1, .int .i64 y.2, c], .agg #[.bool z.1, .int .i64 z.2, d]] w (LawPost3 w) := by
  obtain ⟨xv, xn⟩ := x
  obtain ⟨yv, yn⟩ := y
  obtain ⟨zv, zn⟩ := z
  have HN := hide hN
  have HS := hide hS
  have HU := hide hU
  have HM := hide hM
  have Hk := hide hk
  have Hl := hide hl
  have Hm := hide hm
  obtain ⟨sa, sc, sb, so, rfl, -, -, -, -⟩ := hN
  obtain ⟨ad, ac, b, o, rfl, -, -, -, -⟩ := hS
  obtain ⟨ud, uc, ub, uo, rfl, -, -, -, -⟩ := hU
  obtain ⟨md, mc, mb, mo, rfl, -, -, -, -⟩ := hM
  clear hk hl hm
  go_enter Try.func4, Try.ntmps4
  go_wp2_with fail
  generalize hW3 : ((w.alloc (.cells #[.bool xv, .int .i64 xn, .slice ad (Fo.len k) ac] 26)).alloc (.cells #[.bool yv, .int .i64 yn, .slice ud (Fo.len l) uc] 26)).alloc (.cells #[.bool zv, .int .i64 zn, .slice md (Fo.len m) mc] 26) = W3
  have hB3 : Below w.heap.size w W3 := by rw [← hW3]; exact ((below_alloc _ _).alloc (by simp) _).alloc (by rw [size2]; omega) _
  have HX : Hid (Bx3 W3 w.heap.size (xv, xn) (yv, yn) (zv, zn) (.slice ad (Fo.len k) ac) (.slice ud (Fo.len l) uc) (.slice md (Fo.len m) mc)) := by rw [← hW3]; exact Bx3.new w (xv, xn) (yv, yn) (zv, zn) _ _ _
  clear hW3
  refine (alive3_any W3).mono ?_
  rintro e w4 ⟨rfl, hb4⟩
  have hB4 := below_step hB3 hb4
  replace HX := hide (HX.out.below hb4)
  obtain ⟨a0, a1, a2, b0, b1, b2, c0, c1, c2⟩ := HX.out
  clear hb4 hB3
  go_wp2_with fail
  refine (right3_any s _ (three ((xv, xn), k) ((yv, yn), l) ((zv, zn), m)) _ _ ((HN.out.below hB4).alloc _) (three_in (t := ((xv, xn), k)) (u := ((yv, yn), l)) (v := ((zv, zn), m)) (HS.out.below hB4) (HU.out.below hB4) (HM.out.below hB4))).mono ?_
  rintro e w5 ⟨rfl, hb5⟩
  have hB45 := below_box hb5
  have HB5 := hide (below_step hB4 hB45)
  replace HX := hide (HX.out.below hB45)
  clear a0 a1 a2 b0 b1 b2 c0 c1 c2 hb5 hB45 hB4
  cases hr : rightB s (three ((xv, xn), k) ((yv, yn), l) ((zv, zn), m))
  · clear hr
    go_wp2_with fail
    go_ret
    exact ⟨rfl, HB5.out⟩
  obtain ⟨hsn, hw1, hw2, hw3⟩ := right_three hr
  have Hg1 := hide (gd_right hsn Hk.out hw1)
  have Hg2 := hide (gd_right hsn Hl.out hw2)
  have Hg3 := hide (gd_right hsn Hm.out hw3)
  obtain ⟨a0, a1, a2, b0, b1, b2, c0, c1, c2⟩ := HX.out
  obtain ⟨C1, hC1⟩ : ∃ C, cmpT ((xv, xn), k) ((yv, yn), l) = C := ⟨_, rfl⟩
  obtain ⟨C2, hC2⟩ : ∃ C, cmpT ((yv, yn), l) ((zv, zn), m) = C := ⟨_, rfl⟩
  obtain ⟨C3, hC3⟩ : ∃ C, cmpT ((xv, xn), k) ((zv, zn), m) = C := ⟨_, rfl⟩
  have HcA := hide (fun w' hb => cmp_is hC1 Hg1.out.1 Hg2.out.1 (by have := Hg1.out.2.2; omega) (by have := Hg2.out.2.2; omega) (HS.out.below HB5.out) (HU.out.below HB5.out) w' hb)
  have HcB := hide (fun w' hb => cmp_is hC2 Hg2.out.1 Hg3.out.1 (by have := Hg2.out.2.2; omega) (by have := Hg3.out.2.2; omega) (HU.out.below HB5.out) (HM.out.below HB5.out) w' hb)
  have HcC := hide (fun w' hb => cmp_is hC3 Hg1.out.1 Hg3.out.1 (by have := Hg1.out.2.2; omega) (by have := Hg3.out.2.2; omega) (HS.out.below HB5.out) (HM.out.below HB5.out) w' hb)
  have HC1 := hide hC1
  have HC2 := hide hC2
  have HC3 := hide hC3
  have hcur : Below w5.heap.size w5 w5.drew := (Below.refl _ _).drew
  clear hr hsn hw1 hw2 hw3 hC1 hC2 hC3
  go_upto_region 5 with fail
  go_cut [9, 10, 11] (fun s9 s10 s11 wx => s9 = .int .i64 C1 ∧ s10 = .int .i64 C2 ∧ s11 = .int .i64 C3 ∧ Below w5.heap.size w5 wx)
  case first =>
    go_region_held3 (fun w' => w'.cell? ⟨w.heap.size, 0, none⟩ = some (.bool xv) ∧ w'.cell? ⟨w.heap.size, 1, none⟩ = some (.int .i64 xn) ∧ w'.cell? ⟨w.heap.size, 2, none⟩ = some (.slice ad (Fo.len k) ac) ∧ w'.cell? ⟨w.heap.size + 1, 0, none⟩ = some (.bool yv) ∧ w'.cell? ⟨w.heap.size + 1, 1, none⟩ = some (.int .i64 yn) ∧ w'.cell? ⟨w.heap.size + 1, 2, none⟩ = some (.slice ud (Fo.len l) uc) ∧ w'.cell? ⟨w.heap.size + 1 + 1, 0, none⟩ = some (.bool zv) ∧ w'.cell? ⟨w.heap.size + 1 + 1, 1, none⟩ = some (.int .i64 zn) ∧ w'.cell? ⟨w.heap.size + 1 + 1, 2, none⟩ = some (.slice md (Fo.len m) mc))
      (first
        | (with_reducible exact ⟨grow_cell hcur _ _ a0, grow_cell hcur _ _ a1, grow_cell hcur _ _ a2, grow_cell hcur _ _ b0, grow_cell hcur _ _ b1, grow_cell hcur _ _ b2, grow_cell hcur _ _ c0, grow_cell hcur _ _ c1, grow_cell hcur _ _ c2⟩)
        | go_keep)
      (first
        | (go_at_call 7; with_reducible refine (HcA.out _ hcur).mono ?_; rintro e wA ⟨rfl, hbA⟩; replace hcur := below_step hcur hbA)
        | (go_at_call 7; with_reducible refine (HcB.out _ hcur).mono ?_; rintro e wB ⟨rfl, hbB⟩; replace hcur := below_step hcur hbB)
        | (go_at_call 7; with_reducible refine (HcC.out _ hcur).mono ?_; rintro e wC ⟨rfl, hbC⟩; replace hcur := below_step hcur hbC))
    all_goals
      go_wp2_with fail
      go_meet
      case rel => exact ⟨rfl, rfl, rfl, hcur⟩
  case rest =>
    obtain ⟨rfl, rfl, rfl, hbx⟩ := hcut
    generalize wc = wx at *
    have HBx := hide (below_step HB5.out hbx)
    have HXx := hide (HX.out.below hbx)
    clear hcur a0 a1 a2 b0 b1 b2 c0 c1 c2 HX HcA HcB HcC hbx
    go_upto_region 6 with fail
    go_cut [37] (fun s37 wy => s37 = .bool false ∧ Below wx.heap.size wx wy)
    case first =>
      have HcR := hide (fun (w' : World) hb => cmp_is (cmp_rev Hg1.out.1.ok Hg2.out.1.ok) Hg2.out.1 Hg1.out.1 (by have := Hg2.out.2.2; omega) (by have := Hg1.out.2.2; omega) (HU.out.below HBx.out) (HS.out.below HBx.out) w' hb)
      have HC : Hid (C1 = 0 ∨ C1 = 1 ∨ C1 = 2 ∨ C1 = 3) := by rw [Hid, ← HC1.out]; exact cmp_rng
      rw [HC1.out] at HcR
      obtain ⟨R, hR⟩ : ∃ R, R = revC C1 := ⟨_, rfl⟩
      rw [← hR] at HcR
      have HR := hide hR
      clear hR
      have hmm := @run_makeMap Try.prog
      refine region_inv (fun D a w' => ∃ s30 s31 s32 s33 s34 s35 s36 s37 : Value, a = ⟨#[.slice sa s.length sc, .agg #[.bool xv, .int .i64 xn, .slice ad (Fo.len k) ac], .agg #[.bool yv, .int .i64 yn, .slice ud (Fo.len l) uc], .agg #[.bool zv, .int .i64 zn, .slice md (Fo.len m) mc], undef, .pointer (some ⟨w.heap.size, 0, none⟩), .pointer (some ⟨w.heap.size + 1, 0, none⟩), .pointer (some ⟨w.heap.size + 1 + 1, 0, none⟩), .bool false, .int .i64 C1, .int .i64 C2, .int .i64 C3, u12, u13, u14, u15, u16, u17, u18, u19, u20, u21, u22, u23, u24, u25, u26, u27, u28, u29, s30, s31, s32, s33, s34, s35, s36, s37, u38, u39, u40, u41, u42, u43, u44, u45, u46, u47, u48, u49, u50, u51, u52, u53, u54, u55, u56, u57, u58, u59, u60, u61, u62, u63, u64, u65], []⟩ ∧ R6 wx C1 R (.agg #[.bool xv, .int .i64 xn, .slice ad (Fo.len k) ac]) (.agg #[.bool yv, .int .i64 yn, .slice ud (Fo.len l) uc]) D w' s30 s31 s32 s33 s34 s35 s36 s37) (by kernel_rfl) (by kernel_rfl) ?_ ?_ ⟨_, _, _, _, _, _, _, _, rfl, R6.start (Below.refl _ _).drew⟩
      · rintro D a w' i o hi ⟨s30, s31, s32, s33, s34, s35, s36, s37, rfl, hI⟩ hD ho hdep
        have HI := hide hI
        have a0 := grow_cell hI.hb _ _ HXx.out.a0
        have a1 := grow_cell hI.hb _ _ HXx.out.a1
        have a2 := grow_cell hI.hb _ _ HXx.out.a2
        have b0 := grow_cell hI.hb _ _ HXx.out.b0
        have b1 := grow_cell hI.hb _ _ HXx.out.b1
        have b2 := grow_cell hI.hb _ _ HXx.out.b2
        clear hI
        have hi' : i < 12 := hi
        clear hi
        rcases (by omega : i = 0 ∨ i = 1 ∨ i = 2 ∨ i = 3 ∨ i = 4 ∨ i = 5 ∨ i = 6 ∨ i = 7 ∨ i = 8 ∨ i = 9 ∨ i = 10 ∨ i = 11) with rfl | rfl | rfl | rfl | rfl | rfl | rfl | rfl | rfl | rfl | rfl | rfl
        · obtain rfl := Option.some.inj ho
          clear ho hdep hD
          refine wpOp_step rfl (fun K hK => ?_)
          go_simp
          exact hK _ _ ⟨_, _, _, _, _, _, _, _, rfl, HI.out.at0⟩
        · obtain rfl := Option.some.inj ho
          clear ho hdep hD
          refine wpOp_step rfl (fun K hK => ?_)
          go_simp
          exact hK _ _ ⟨_, _, _, _, _, _, _, _, rfl, HI.out.at1⟩
        · obtain rfl := Option.some.inj ho
          have d0 := HI.out.h0 (hdep ⟨0, .data⟩ (by simp) rfl)
          have d1 := HI.out.h1 (hdep ⟨1, .data⟩ (by simp) rfl)
          subst d0 d1
          clear ho hdep hD
          refine wpOp_step rfl (fun K hK => ?_)
          go_simp
          refine (HcR.out _ HI.out.hb).mono ?_
          rintro e w2 ⟨rfl, hb2⟩
          exact hK _ _ ⟨_, _, _, _, _, _, _, _, rfl, HI.out.at2 hb2⟩
        · obtain rfl := Option.some.inj ho
          have HI2 := hide (HI.out.at3 hD)
          clear ho hdep hD
          refine wpOp_step rfl (fun K hK => ?_)
          go_simp
          exact hK _ _ ⟨_, _, _, _, _, _, _, _, rfl, HI2.out⟩
        · obtain rfl := Option.some.inj ho
          obtain ⟨bm, w2, rfl, hrun, hI2⟩ := HI.out.at4 (hdep ⟨3, .data⟩ (by simp) rfl) hD
          have HI2 := hide hI2
          clear ho hdep hD hI2
          refine wpOp_step rfl (fun K hK => ?_)
          go_simp
          exact hK _ _ ⟨_, _, _, _, _, _, _, _, rfl, HI2.out⟩
        · obtain rfl := Option.some.inj ho
          obtain ⟨bm, w2, rfl, hrun, hI2⟩ := HI.out.at5 (hdep ⟨3, .data⟩ (by simp) rfl) hD
          have HI2 := hide hI2
          clear ho hdep hD hI2
          refine wpOp_step rfl (fun K hK => ?_)
          go_simp
          exact hK _ _ ⟨_, _, _, _, _, _, _, _, rfl, HI2.out⟩
        · obtain rfl := Option.some.inj ho
          obtain ⟨bm, w2, rfl, hrun, hI2⟩ := HI.out.at6 (hdep ⟨3, .data⟩ (by simp) rfl) hD
          have HI2 := hide hI2
          clear ho hdep hD hI2
          refine wpOp_step rfl (fun K hK => ?_)
          go_simp
          exact hK _ _ ⟨_, _, _, _, _, _, _, _, rfl, HI2.out⟩
        · obtain rfl := Option.some.inj ho
          obtain ⟨bm, w2, rfl, hrun, hI2⟩ := HI.out.at7 (hdep ⟨3, .data⟩ (by simp) rfl) hD
          have HI2 := hide hI2
          clear ho hdep hD hI2
          refine wpOp_step rfl (fun K hK => ?_)
          go_simp
          exact hK _ _ ⟨_, _, _, _, _, _, _, _, rfl, HI2.out⟩
        · obtain rfl := Option.some.inj ho
          have HI2 := hide (HI.out.at8 (hdep ⟨3, .data⟩ (by simp) rfl) (hdep ⟨4, .data⟩ (by simp) rfl) (hdep ⟨5, .data⟩ (by simp) rfl) (hdep ⟨6, .data⟩ (by simp) rfl) (hdep ⟨7, .data⟩ (by simp) rfl))
          clear ho hdep hD
          refine wpOp_step rfl (fun K hK => ?_)
          go_simp
          exact hK _ _ ⟨_, _, _, _, _, _, _, _, rfl, HI2.out⟩
        · obtain rfl := Option.some.inj ho
          clear ho hdep hD
          refine wpOp_step rfl (fun K hK => ?_)
          go_simp
          exact hK _ _ ⟨_, _, _, _, _, _, _, _, rfl, HI.out.at9⟩
        · obtain rfl := Option.some.inj ho
          have d9 := HI.out.h9 (hdep ⟨9, .data⟩ (by simp) rfl)
          obtain ⟨bm, rfl, hrun, hI2⟩ := HI.out.at10 (hdep ⟨8, .data⟩ (by simp) rfl) HC.out HR.out
          subst d9
          have HI2 := hide hI2
          clear ho hdep hD hI2
          refine wpOp_step rfl (fun K hK => ?_)
          go_simp
          exact hK _ _ ⟨_, _, _, _, _, _, _, _, rfl, HI2.out⟩
        · obtain rfl := Option.some.inj ho
          have d2 := HI.out.h2 (hdep ⟨2, .data⟩ (by simp) rfl)
          have d10 := HI.out.h10 (hdep ⟨10, .data⟩ (by simp) rfl)
          subst d2 d10
          have hRR : (R != R) = false := by simp
          clear ho hdep hD
          refine wpOp_step rfl (fun K hK => ?_)
          go_simp
          exact hK _ _ ⟨_, _, _, _, _, _, _, _, rfl, HI.out.at11⟩
      · rintro D a w' ⟨s30, s31, s32, s33, s34, s35, s36, s37, rfl, hI⟩ hall
        have h11 := hI.h11 (hall 11 (by decide))
        subst h11
        have Hb := hide hI.hb
        clear hI hall
        go_wp2_with fail
        go_meet
        case rel => exact ⟨rfl, Hb.out⟩
    case rest =>
      obtain ⟨rfl, hby⟩ := hcut
      generalize wc = wy at *
      have HBy := hide (below_step HBx.out hby)
      have HXy := hide (HXx.out.below hby)
      obtain ⟨a0, a1, a2, b0, b1, b2, c0, c1, c2⟩ := HXy.out
      have HcS := hide (sameR_any (xv, xn) k (yv, yn) l _ _ wy (HS.out.below HBy.out) (HU.out.below HBy.out))
      obtain ⟨S, hS⟩ : ∃ S, sameT (xv, xn) k (yv, yn) l = S := ⟨_, rfl⟩
      rw [hS] at HcS
      have hC12 : (C1 == 2) = S := by rw [← HC1.out, ← hS]; exact cmp_same
      have hSS : (S != S) = false := by simp
      have HC : Hid (C1 = 0 ∨ C1 = 1 ∨ C1 = 2 ∨ C1 = 3) := by rw [Hid, ← HC1.out]; exact cmp_rng
      clear hS hby HXx c0 c1 c2
      go_upto_region 8 with fail
      go_cut [55] (fun s55 wz => s55 = .bool false ∧ Below wy.heap.size wy wz)
      case first =>
        by_cases h1 : C1 = 3
        · by_cases h2 : C2 = 3
          · have h3 : C3 = 3 := by
              rw [← HC3.out]
              exact cmp_more Hg1.out.1.ok Hg3.out.1.ok (abv_trans _ rfl Hg1.out.1.ok Hg2.out.1.ok Hg3.out.1.ok (more_cmp (HC1.out.trans h1)) (more_cmp (HC2.out.trans h2)))
            subst h1 h2 h3
            go_wp2_with fail
            refine HcS.out.mono ?_
            rintro e wz ⟨rfl, hbz⟩
            go_wp2_with fail
            go_meet
            case rel => exact ⟨rfl, hbz⟩
          · have hd2 : (C2 == 3) = false := by simpa using h2
            subst h1
            clear h2
            go_wp2_with fail
            refine HcS.out.mono ?_
            rintro e wz ⟨rfl, hbz⟩
            go_wp2_with fail
            go_meet
            case rel => exact ⟨rfl, hbz⟩
        · have hd1 : (C1 == 3) = false := by simpa using h1
          clear h1
          go_wp2_with fail
          refine HcS.out.mono ?_
          rintro e wz ⟨rfl, hbz⟩
          go_wp2_with fail
          go_meet
          case rel => exact ⟨rfl, hbz⟩
      case rest =>
        obtain ⟨rfl, hbz⟩ := hcut
        generalize wc = wz at *
        have HBz := hide (below_step HBy.out hbz)
        replace a0 := grow_cell hbz _ _ a0
        replace a1 := grow_cell hbz _ _ a1
        replace a2 := grow_cell hbz _ _ a2
        replace b0 := grow_cell hbz _ _ b0
        replace b1 := grow_cell hbz _ _ b1
        replace b2 := grow_cell hbz _ _ b2
        obtain ⟨T1, hT1⟩ : ∃ T, T = varsT (xv, xn) k [] := ⟨_, rfl⟩
        obtain ⟨T2, hT2⟩ : ∃ T, T = varsT (yv, yn) l T1 := ⟨_, rfl⟩
        have Hno : Hid (T2.length = 0 → C1 ≠ 0) := fun h0 => by
          have h1 : varsT (yv, yn) l (varsT (xv, xn) k []) = [] := by rw [← hT1, ← hT2]; exact List.length_eq_zero_iff.1 h0
          obtain ⟨g1, g2⟩ := no_vars Hg1.out.1.ok Hg2.out.1.ok h1
          rw [← HC1.out]
          exact cmp_none Hg1.out.1.ok Hg2.out.1.ok g1 g2
        have Hl1 : Hid (T1.length ≤ 12) := by have := varsT_len (xv, xn) k []; rw [← hT1] at this; have := Hg1.out.2.2; unfold Hid; simp only [List.length_nil] at *; omega
        have HcA := hide (fun (w' : World) (hb : Below wz.heap.size wz w') => varsR_any (xv, xn) k _ [] (.slice none 0 0) w' T1 hT1 (HS.out.below (below_step HBz.out hb)) ⟨none, 0, 0, 0, rfl, fun h => by simp at h, Nat.le_refl _, Nat.zero_le _, fun i hi => by simp at hi⟩ (by have := Hg1.out.2.2; simp only [List.length_nil]; omega))
        have HcB := hide (fun (w' : World) (v : Value) (hb : Below wz.heap.size wz w') (hN : NIn w' T1 v) => varsR_any (yv, yn) l _ T1 v w' T2 hT2 (HU.out.below (below_step HBz.out hb)) hN (by have := Hg2.out.2.2; have := Hl1.out; omega))
        have hcur : Below wz.heap.size wz wz.drew := (Below.refl _ _).drew
        clear hT1 hT2 hbz HcS
        obtain ⟨B, hB⟩ : ∃ B, B = decide (0 < T2.length) := ⟨_, rfl⟩
        have HBq := hide hB
        have HnoB : Hid (B = false → (C1 != 0) = true) := fun e => by
          rw [hB] at e
          have := Hno.out (by have := of_decide_eq_false e; omega)
          simpa using this
        clear hB hcur
        go_upto_region 10 with fail
        refine region_inv (fun D a w' => ∃ s8 s56 s57 s58 s59 s60 s61 s62 s63 s64 s65 : Value, a = ⟨#[.slice sa s.length sc, .agg #[.bool xv, .int .i64 xn, .slice ad (Fo.len k) ac], .agg #[.bool yv, .int .i64 yn, .slice ud (Fo.len l) uc], .agg #[.bool zv, .int .i64 zn, .slice md (Fo.len m) mc], undef, .pointer (some ⟨w.heap.size, 0, none⟩), .pointer (some ⟨w.heap.size + 1, 0, none⟩), .pointer (some ⟨w.heap.size + 1 + 1, 0, none⟩), s8, .int .i64 C1, .int .i64 C2, .int .i64 C3, u12, u13, u14, u15, u16, u17, u18, u19, u20, u21, u22, u23, u24, u25, u26, u27, u28, u29, u30, u31, u32, u33, u34, u35, u36, u37, u38, u39, u40, u41, u42, u43, u44, u45, u46, u47, u48, u49, u50, u51, u52, u53, u54, .bool false, s56, s57, s58, s59, s60, s61, s62, s63, s64, s65], []⟩ ∧ V10 wz C1 (.agg #[.bool xv, .int .i64 xn, .slice ad (Fo.len k) ac]) (.agg #[.bool yv, .int .i64 yn, .slice ud (Fo.len l) uc]) T1 T2 B D w' s8 s56 s57 s58 s59 s60 s61 s62 s63 s64 s65) (by kernel_rfl) (by kernel_rfl) ?_ ?_ ⟨_, _, _, _, _, _, _, _, _, _, _, rfl, V10.start (Below.refl _ _).drew⟩
        · rintro D a w' i o hi ⟨s8, s56, s57, s58, s59, s60, s61, s62, s63, s64, s65, rfl, hI⟩ hD ho hdep
          have HI := hide hI
          replace a0 := grow_cell hI.hb _ _ a0
          replace a1 := grow_cell hI.hb _ _ a1
          replace a2 := grow_cell hI.hb _ _ a2
          replace b0 := grow_cell hI.hb _ _ b0
          replace b1 := grow_cell hI.hb _ _ b1
          replace b2 := grow_cell hI.hb _ _ b2
          clear hI
          have hi' : i < 11 := hi
          clear hi
          rcases (by omega : i = 0 ∨ i = 1 ∨ i = 2 ∨ i = 3 ∨ i = 4 ∨ i = 5 ∨ i = 6 ∨ i = 7 ∨ i = 8 ∨ i = 9 ∨ i = 10) with rfl | rfl | rfl | rfl | rfl | rfl | rfl | rfl | rfl | rfl | rfl
          · obtain rfl := Option.some.inj ho
            clear ho hdep hD
            refine wpOp_step rfl (fun K hK => ?_)
            go_simp
            exact hK _ _ ⟨_, _, _, _, _, _, _, _, _, _, _, rfl, HI.out.at0⟩
          · obtain rfl := Option.some.inj ho
            have d0 := HI.out.h0 (hdep ⟨0, .data⟩ (by simp) rfl)
            subst d0
            clear ho hdep hD
            refine wpOp_step rfl (fun K hK => ?_)
            go_simp
            refine (HcA.out _ HI.out.hb).mono ?_
            rintro e w2 ⟨v2, rfl, hN2, hb2⟩
            exact hK _ _ ⟨_, _, _, _, _, _, _, _, _, _, _, rfl, HI.out.at1 hb2 hN2⟩
          · obtain rfl := Option.some.inj ho
            clear ho hdep hD
            refine wpOp_step rfl (fun K hK => ?_)
            go_simp
            exact hK _ _ ⟨_, _, _, _, _, _, _, _, _, _, _, rfl, HI.out.at2⟩
          · obtain rfl := Option.some.inj ho
            have d1 := HI.out.h1 (hdep ⟨1, .data⟩ (by simp) rfl)
            have d2 := HI.out.h2 (hdep ⟨2, .data⟩ (by simp) rfl)
            subst d2
            clear ho hdep hD
            refine wpOp_step rfl (fun K hK => ?_)
            go_simp
            refine (HcB.out _ _ HI.out.hb d1).mono ?_
            rintro e w2 ⟨v2, rfl, hN2, hb2⟩
            obtain ⟨y1, y3, rfl⟩ := nin_slice hN2
            exact hK _ _ ⟨_, _, _, _, _, _, _, _, _, _, _, rfl, HI.out.at3 hb2⟩
          · obtain rfl := Option.some.inj ho
            obtain ⟨y1, y3, rfl⟩ := HI.out.h3 (hdep ⟨3, .data⟩ (by simp) rfl)
            clear ho hdep hD
            refine wpOp_step rfl (fun K hK => ?_)
            go_simp
            exact hK _ _ ⟨_, _, _, _, _, _, _, _, _, _, _, rfl, HI.out.at4⟩
          · obtain rfl := Option.some.inj ho
            have d4 := HI.out.h4 (hdep ⟨4, .data⟩ (by simp) rfl)
            subst d4
            clear ho hdep hD
            refine wpOp_step rfl (fun K hK => ?_)
            go_simp
            exact hK _ _ ⟨_, _, _, _, _, _, _, _, _, _, _, rfl, HI.out.at5 (by rw [HBq.out])⟩
          · obtain rfl := Option.some.inj ho
            have d5 := HI.out.h5 (hdep ⟨5, .data⟩ (by simp) rfl)
            subst d5
            clear ho hdep hD
            refine wpOp_step rfl (fun K hK => ?_)
            go_simp
            exact hK _ _ ⟨_, _, _, _, _, _, _, _, _, _, _, rfl, HI.out.at6⟩
          · obtain rfl := Option.some.inj ho
            have d6 := HI.out.h6 (hdep ⟨6, .guard⟩ (by simp) rfl)
            subst d6
            clear ho hdep hD
            cases B
            · refine wpOp_step rfl (fun K hK => ?_)
              go_simp
              exact hK _ _ ⟨_, _, _, _, _, _, _, _, _, _, _, rfl, HI.out.at7 (fun _ => rfl)⟩
            · refine wpOp_step rfl (fun K hK => ?_)
              go_simp
              exact hK _ _ ⟨_, _, _, _, _, _, _, _, _, _, _, rfl, HI.out.at7 (fun e => by cases e)⟩
          · obtain rfl := Option.some.inj ho
            have d6 := HI.out.h6 (hdep ⟨6, .guard⟩ (by simp) rfl)
            have d7 := HI.out.h7 (hdep ⟨7, .data⟩ (by simp) rfl)
            subst d6
            clear ho hdep hD
            cases B
            · have d7' := d7 rfl
              subst d7'
              have hCb := HnoB.out rfl
              refine wpOp_step rfl (fun K hK => ?_)
              go_simp
              exact hK _ _ ⟨_, _, _, _, _, _, _, _, _, _, _, rfl, HI.out.at8 (fun _ => rfl)⟩
            · refine wpOp_step rfl (fun K hK => ?_)
              go_simp
              exact hK _ _ ⟨_, _, _, _, _, _, _, _, _, _, _, rfl, HI.out.at8 (fun e => by cases e)⟩
          · obtain rfl := Option.some.inj ho
            have d6 := HI.out.h6 (hdep ⟨6, .data⟩ (by simp) rfl)
            have d8 := HI.out.h8 (hdep ⟨8, .data⟩ (by simp) rfl)
            subst d6
            clear ho hdep hD
            cases B
            · have d8' := d8 rfl
              subst d8'
              refine wpOp_step rfl (fun K hK => ?_)
              go_simp
              exact hK _ _ ⟨_, _, _, _, _, _, _, _, _, _, _, rfl, HI.out.at9⟩
            · refine wpOp_step rfl (fun K hK => ?_)
              go_simp
              exact hK _ _ ⟨_, _, _, _, _, _, _, _, _, _, _, rfl, HI.out.at9⟩
          · obtain rfl := Option.some.inj ho
            have d9 := HI.out.h9 (hdep ⟨9, .data⟩ (by simp) rfl)
            subst d9
            clear ho hdep hD
            refine wpOp_step rfl (fun K hK => ?_)
            go_simp
            exact hK _ _ ⟨_, _, _, _, _, _, _, _, _, _, _, rfl, HI.out.at10⟩
        · rintro D a w' ⟨s8, s56, s57, s58, s59, s60, s61, s62, s63, s64, s65, rfl, hI⟩ hall
          have h10 := hI.h10 (hall 10 (by decide))
          subst h10
          have Hb := hide (below_step HBz.out hI.hb)
          clear hI hall
          go_wp2_with fail
          go_ret
          exact ⟨rfl, Hb.out⟩

end Go.Proofs.Ytdaebldfmchclab

/- Readings of five and more arguments, taken apart and put together (made by gentrods.py). -/
namespace Go.Proofs.Ytdaebldfmchclab
open Go.ChangeShapes Go.WideShapes Go.ChangeAt Go.WideMaps Go.WideElems Go.RowKit Go.Joins

section
variable {H : Type} {enc : TypeId × Value → H} {held : Bool} {P : Program} {w : World} {base : Nat} {spare : Nat → Bool}
theorem tra5 {t0 t1 t2 t3 t4 : TypeId} {args : Array Value} {ds : List (DataW H)} {ps : List MemPlace} (h : DataW.TrodAll enc P w base spare held [t0, t1, t2, t3, t4] args.toList ds ps) :
    ∃ v0 v1 v2 v3 v4 d0 d1 d2 d3 d4 p0 p1 p2 p3 p4, args = #[v0, v1, v2, v3, v4] ∧ ds = [d0, d1, d2, d3, d4] ∧ ps = p0 ++ (p1 ++ (p2 ++ (p3 ++ p4))) ∧ DataW.Trod enc P w base spare held t0 v0 d0 p0 ∧ DataW.Trod enc P w base spare held t1 v1 d1 p1 ∧ DataW.Trod enc P w base spare held t2 v2 d2 p2 ∧ DataW.Trod enc P w base spare held t3 v3 d3 p3 ∧ DataW.Trod enc P w base spare held t4 v4 d4 p4 := by
  obtain ⟨v0, vs0, d0, ds0, p0, q0, hargs, rfl, rfl, h0, r0⟩ := trodAll_cons h
  obtain ⟨v1, vs1, d1, ds1, p1, q1, rfl, rfl, rfl, h1, r1⟩ := trodAll_cons r0
  obtain ⟨v2, vs2, d2, ds2, p2, q2, rfl, rfl, rfl, h2, r2⟩ := trodAll_cons r1
  obtain ⟨v3, vs3, d3, ds3, p3, q3, rfl, rfl, rfl, h3, r3⟩ := trodAll_cons r2
  obtain ⟨v4, vs4, d4, ds4, p4, q4, rfl, rfl, rfl, h4, r4⟩ := trodAll_cons r3
  obtain ⟨rfl, rfl, rfl⟩ := trodAll_nil r4
  exact ⟨v0, v1, v2, v3, v4, d0, d1, d2, d3, d4, p0, p1, p2, p3, p4, by cases args; simp_all, rfl, by simp, h0, h1, h2, h3, h4⟩
theorem trm5 {t0 t1 t2 t3 t4 : TypeId} {v0 v1 v2 v3 v4 : Value} {d0 d1 d2 d3 d4 : DataW H} {p0 p1 p2 p3 p4 : List MemPlace} (h0 : DataW.Trod enc P w base spare held t0 v0 d0 p0) (h1 : DataW.Trod enc P w base spare held t1 v1 d1 p1) (h2 : DataW.Trod enc P w base spare held t2 v2 d2 p2) (h3 : DataW.Trod enc P w base spare held t3 v3 d3 p3) (h4 : DataW.Trod enc P w base spare held t4 v4 d4 p4) :
    DataW.TrodAll enc P w base spare held [t0, t1, t2, t3, t4] [v0, v1, v2, v3, v4] [d0, d1, d2, d3, d4] (p0 ++ (p1 ++ (p2 ++ (p3 ++ p4)))) :=
  ⟨p0, _, h0, trodAll_mk4 h1 h2 h3 h4, rfl⟩
theorem tra6 {t0 t1 t2 t3 t4 t5 : TypeId} {args : Array Value} {ds : List (DataW H)} {ps : List MemPlace} (h : DataW.TrodAll enc P w base spare held [t0, t1, t2, t3, t4, t5] args.toList ds ps) :
    ∃ v0 v1 v2 v3 v4 v5 d0 d1 d2 d3 d4 d5 p0 p1 p2 p3 p4 p5, args = #[v0, v1, v2, v3, v4, v5] ∧ ds = [d0, d1, d2, d3, d4, d5] ∧ ps = p0 ++ (p1 ++ (p2 ++ (p3 ++ (p4 ++ p5)))) ∧ DataW.Trod enc P w base spare held t0 v0 d0 p0 ∧ DataW.Trod enc P w base spare held t1 v1 d1 p1 ∧ DataW.Trod enc P w base spare held t2 v2 d2 p2 ∧ DataW.Trod enc P w base spare held t3 v3 d3 p3 ∧ DataW.Trod enc P w base spare held t4 v4 d4 p4 ∧ DataW.Trod enc P w base spare held t5 v5 d5 p5 := by
  obtain ⟨v0, vs0, d0, ds0, p0, q0, hargs, rfl, rfl, h0, r0⟩ := trodAll_cons h
  obtain ⟨v1, vs1, d1, ds1, p1, q1, rfl, rfl, rfl, h1, r1⟩ := trodAll_cons r0
  obtain ⟨v2, vs2, d2, ds2, p2, q2, rfl, rfl, rfl, h2, r2⟩ := trodAll_cons r1
  obtain ⟨v3, vs3, d3, ds3, p3, q3, rfl, rfl, rfl, h3, r3⟩ := trodAll_cons r2
  obtain ⟨v4, vs4, d4, ds4, p4, q4, rfl, rfl, rfl, h4, r4⟩ := trodAll_cons r3
  obtain ⟨v5, vs5, d5, ds5, p5, q5, rfl, rfl, rfl, h5, r5⟩ := trodAll_cons r4
  obtain ⟨rfl, rfl, rfl⟩ := trodAll_nil r5
  exact ⟨v0, v1, v2, v3, v4, v5, d0, d1, d2, d3, d4, d5, p0, p1, p2, p3, p4, p5, by cases args; simp_all, rfl, by simp, h0, h1, h2, h3, h4, h5⟩
theorem trm6 {t0 t1 t2 t3 t4 t5 : TypeId} {v0 v1 v2 v3 v4 v5 : Value} {d0 d1 d2 d3 d4 d5 : DataW H} {p0 p1 p2 p3 p4 p5 : List MemPlace} (h0 : DataW.Trod enc P w base spare held t0 v0 d0 p0) (h1 : DataW.Trod enc P w base spare held t1 v1 d1 p1) (h2 : DataW.Trod enc P w base spare held t2 v2 d2 p2) (h3 : DataW.Trod enc P w base spare held t3 v3 d3 p3) (h4 : DataW.Trod enc P w base spare held t4 v4 d4 p4) (h5 : DataW.Trod enc P w base spare held t5 v5 d5 p5) :
    DataW.TrodAll enc P w base spare held [t0, t1, t2, t3, t4, t5] [v0, v1, v2, v3, v4, v5] [d0, d1, d2, d3, d4, d5] (p0 ++ (p1 ++ (p2 ++ (p3 ++ (p4 ++ p5))))) :=
  ⟨p0, _, h0, trm5 h1 h2 h3 h4 h5, rfl⟩
theorem tra7 {t0 t1 t2 t3 t4 t5 t6 : TypeId} {args : Array Value} {ds : List (DataW H)} {ps : List MemPlace} (h : DataW.TrodAll enc P w base spare held [t0, t1, t2, t3, t4, t5, t6] args.toList ds ps) :
    ∃ v0 v1 v2 v3 v4 v5 v6 d0 d1 d2 d3 d4 d5 d6 p0 p1 p2 p3 p4 p5 p6, args = #[v0, v1, v2, v3, v4, v5, v6] ∧ ds = [d0, d1, d2, d3, d4, d5, d6] ∧ ps = p0 ++ (p1 ++ (p2 ++ (p3 ++ (p4 ++ (p5 ++ p6))))) ∧ DataW.Trod enc P w base spare held t0 v0 d0 p0 ∧ DataW.Trod enc P w base spare held t1 v1 d1 p1 ∧ DataW.Trod enc P w base spare held t2 v2 d2 p2 ∧ DataW.Trod enc P w base spare held t3 v3 d3 p3 ∧ DataW.Trod enc P w base spare held t4 v4 d4 p4 ∧ DataW.Trod enc P w base spare held t5 v5 d5 p5 ∧ DataW.Trod enc P w base spare held t6 v6 d6 p6 := by
  obtain ⟨v0, vs0, d0, ds0, p0, q0, hargs, rfl, rfl, h0, r0⟩ := trodAll_cons h
  obtain ⟨v1, vs1, d1, ds1, p1, q1, rfl, rfl, rfl, h1, r1⟩ := trodAll_cons r0
  obtain ⟨v2, vs2, d2, ds2, p2, q2, rfl, rfl, rfl, h2, r2⟩ := trodAll_cons r1
  obtain ⟨v3, vs3, d3, ds3, p3, q3, rfl, rfl, rfl, h3, r3⟩ := trodAll_cons r2
  obtain ⟨v4, vs4, d4, ds4, p4, q4, rfl, rfl, rfl, h4, r4⟩ := trodAll_cons r3
  obtain ⟨v5, vs5, d5, ds5, p5, q5, rfl, rfl, rfl, h5, r5⟩ := trodAll_cons r4
  obtain ⟨v6, vs6, d6, ds6, p6, q6, rfl, rfl, rfl, h6, r6⟩ := trodAll_cons r5
  obtain ⟨rfl, rfl, rfl⟩ := trodAll_nil r6
  exact ⟨v0, v1, v2, v3, v4, v5, v6, d0, d1, d2, d3, d4, d5, d6, p0, p1, p2, p3, p4, p5, p6, by cases args; simp_all, rfl, by simp, h0, h1, h2, h3, h4, h5, h6⟩
theorem trm7 {t0 t1 t2 t3 t4 t5 t6 : TypeId} {v0 v1 v2 v3 v4 v5 v6 : Value} {d0 d1 d2 d3 d4 d5 d6 : DataW H} {p0 p1 p2 p3 p4 p5 p6 : List MemPlace} (h0 : DataW.Trod enc P w base spare held t0 v0 d0 p0) (h1 : DataW.Trod enc P w base spare held t1 v1 d1 p1) (h2 : DataW.Trod enc P w base spare held t2 v2 d2 p2) (h3 : DataW.Trod enc P w base spare held t3 v3 d3 p3) (h4 : DataW.Trod enc P w base spare held t4 v4 d4 p4) (h5 : DataW.Trod enc P w base spare held t5 v5 d5 p5) (h6 : DataW.Trod enc P w base spare held t6 v6 d6 p6) :
    DataW.TrodAll enc P w base spare held [t0, t1, t2, t3, t4, t5, t6] [v0, v1, v2, v3, v4, v5, v6] [d0, d1, d2, d3, d4, d5, d6] (p0 ++ (p1 ++ (p2 ++ (p3 ++ (p4 ++ (p5 ++ p6)))))) :=
  ⟨p0, _, h0, trm6 h1 h2 h3 h4 h5 h6, rfl⟩
theorem tra8 {t0 t1 t2 t3 t4 t5 t6 t7 : TypeId} {args : Array Value} {ds : List (DataW H)} {ps : List MemPlace} (h : DataW.TrodAll enc P w base spare held [t0, t1, t2, t3, t4, t5, t6, t7] args.toList ds ps) :
    ∃ v0 v1 v2 v3 v4 v5 v6 v7 d0 d1 d2 d3 d4 d5 d6 d7 p0 p1 p2 p3 p4 p5 p6 p7, args = #[v0, v1, v2, v3, v4, v5, v6, v7] ∧ ds = [d0, d1, d2, d3, d4, d5, d6, d7] ∧ ps = p0 ++ (p1 ++ (p2 ++ (p3 ++ (p4 ++ (p5 ++ (p6 ++ p7)))))) ∧ DataW.Trod enc P w base spare held t0 v0 d0 p0 ∧ DataW.Trod enc P w base spare held t1 v1 d1 p1 ∧ DataW.Trod enc P w base spare held t2 v2 d2 p2 ∧ DataW.Trod enc P w base spare held t3 v3 d3 p3 ∧ DataW.Trod enc P w base spare held t4 v4 d4 p4 ∧ DataW.Trod enc P w base spare held t5 v5 d5 p5 ∧ DataW.Trod enc P w base spare held t6 v6 d6 p6 ∧ DataW.Trod enc P w base spare held t7 v7 d7 p7 := by
  obtain ⟨v0, vs0, d0, ds0, p0, q0, hargs, rfl, rfl, h0, r0⟩ := trodAll_cons h
  obtain ⟨v1, vs1, d1, ds1, p1, q1, rfl, rfl, rfl, h1, r1⟩ := trodAll_cons r0
  obtain ⟨v2, vs2, d2, ds2, p2, q2, rfl, rfl, rfl, h2, r2⟩ := trodAll_cons r1
  obtain ⟨v3, vs3, d3, ds3, p3, q3, rfl, rfl, rfl, h3, r3⟩ := trodAll_cons r2
  obtain ⟨v4, vs4, d4, ds4, p4, q4, rfl, rfl, rfl, h4, r4⟩ := trodAll_cons r3
  obtain ⟨v5, vs5, d5, ds5, p5, q5, rfl, rfl, rfl, h5, r5⟩ := trodAll_cons r4
  obtain ⟨v6, vs6, d6, ds6, p6, q6, rfl, rfl, rfl, h6, r6⟩ := trodAll_cons r5
  obtain ⟨v7, vs7, d7, ds7, p7, q7, rfl, rfl, rfl, h7, r7⟩ := trodAll_cons r6
  obtain ⟨rfl, rfl, rfl⟩ := trodAll_nil r7
  exact ⟨v0, v1, v2, v3, v4, v5, v6, v7, d0, d1, d2, d3, d4, d5, d6, d7, p0, p1, p2, p3, p4, p5, p6, p7, by cases args; simp_all, rfl, by simp, h0, h1, h2, h3, h4, h5, h6, h7⟩
theorem trm8 {t0 t1 t2 t3 t4 t5 t6 t7 : TypeId} {v0 v1 v2 v3 v4 v5 v6 v7 : Value} {d0 d1 d2 d3 d4 d5 d6 d7 : DataW H} {p0 p1 p2 p3 p4 p5 p6 p7 : List MemPlace} (h0 : DataW.Trod enc P w base spare held t0 v0 d0 p0) (h1 : DataW.Trod enc P w base spare held t1 v1 d1 p1) (h2 : DataW.Trod enc P w base spare held t2 v2 d2 p2) (h3 : DataW.Trod enc P w base spare held t3 v3 d3 p3) (h4 : DataW.Trod enc P w base spare held t4 v4 d4 p4) (h5 : DataW.Trod enc P w base spare held t5 v5 d5 p5) (h6 : DataW.Trod enc P w base spare held t6 v6 d6 p6) (h7 : DataW.Trod enc P w base spare held t7 v7 d7 p7) :
    DataW.TrodAll enc P w base spare held [t0, t1, t2, t3, t4, t5, t6, t7] [v0, v1, v2, v3, v4, v5, v6, v7] [d0, d1, d2, d3, d4, d5, d6, d7] (p0 ++ (p1 ++ (p2 ++ (p3 ++ (p4 ++ (p5 ++ (p6 ++ p7))))))) :=
  ⟨p0, _, h0, trm7 h1 h2 h3 h4 h5 h6 h7, rfl⟩
theorem tra9 {t0 t1 t2 t3 t4 t5 t6 t7 t8 : TypeId} {args : Array Value} {ds : List (DataW H)} {ps : List MemPlace} (h : DataW.TrodAll enc P w base spare held [t0, t1, t2, t3, t4, t5, t6, t7, t8] args.toList ds ps) :
    ∃ v0 v1 v2 v3 v4 v5 v6 v7 v8 d0 d1 d2 d3 d4 d5 d6 d7 d8 p0 p1 p2 p3 p4 p5 p6 p7 p8, args = #[v0, v1, v2, v3, v4, v5, v6, v7, v8] ∧ ds = [d0, d1, d2, d3, d4, d5, d6, d7, d8] ∧ ps = p0 ++ (p1 ++ (p2 ++ (p3 ++ (p4 ++ (p5 ++ (p6 ++ (p7 ++ p8))))))) ∧ DataW.Trod enc P w base spare held t0 v0 d0 p0 ∧ DataW.Trod enc P w base spare held t1 v1 d1 p1 ∧ DataW.Trod enc P w base spare held t2 v2 d2 p2 ∧ DataW.Trod enc P w base spare held t3 v3 d3 p3 ∧ DataW.Trod enc P w base spare held t4 v4 d4 p4 ∧ DataW.Trod enc P w base spare held t5 v5 d5 p5 ∧ DataW.Trod enc P w base spare held t6 v6 d6 p6 ∧ DataW.Trod enc P w base spare held t7 v7 d7 p7 ∧ DataW.Trod enc P w base spare held t8 v8 d8 p8 := by
  obtain ⟨v0, vs0, d0, ds0, p0, q0, hargs, rfl, rfl, h0, r0⟩ := trodAll_cons h
  obtain ⟨v1, vs1, d1, ds1, p1, q1, rfl, rfl, rfl, h1, r1⟩ := trodAll_cons r0
  obtain ⟨v2, vs2, d2, ds2, p2, q2, rfl, rfl, rfl, h2, r2⟩ := trodAll_cons r1
  obtain ⟨v3, vs3, d3, ds3, p3, q3, rfl, rfl, rfl, h3, r3⟩ := trodAll_cons r2
  obtain ⟨v4, vs4, d4, ds4, p4, q4, rfl, rfl, rfl, h4, r4⟩ := trodAll_cons r3
  obtain ⟨v5, vs5, d5, ds5, p5, q5, rfl, rfl, rfl, h5, r5⟩ := trodAll_cons r4
  obtain ⟨v6, vs6, d6, ds6, p6, q6, rfl, rfl, rfl, h6, r6⟩ := trodAll_cons r5
  obtain ⟨v7, vs7, d7, ds7, p7, q7, rfl, rfl, rfl, h7, r7⟩ := trodAll_cons r6
  obtain ⟨v8, vs8, d8, ds8, p8, q8, rfl, rfl, rfl, h8, r8⟩ := trodAll_cons r7
  obtain ⟨rfl, rfl, rfl⟩ := trodAll_nil r8
  exact ⟨v0, v1, v2, v3, v4, v5, v6, v7, v8, d0, d1, d2, d3, d4, d5, d6, d7, d8, p0, p1, p2, p3, p4, p5, p6, p7, p8, by cases args; simp_all, rfl, by simp, h0, h1, h2, h3, h4, h5, h6, h7, h8⟩
theorem trm9 {t0 t1 t2 t3 t4 t5 t6 t7 t8 : TypeId} {v0 v1 v2 v3 v4 v5 v6 v7 v8 : Value} {d0 d1 d2 d3 d4 d5 d6 d7 d8 : DataW H} {p0 p1 p2 p3 p4 p5 p6 p7 p8 : List MemPlace} (h0 : DataW.Trod enc P w base spare held t0 v0 d0 p0) (h1 : DataW.Trod enc P w base spare held t1 v1 d1 p1) (h2 : DataW.Trod enc P w base spare held t2 v2 d2 p2) (h3 : DataW.Trod enc P w base spare held t3 v3 d3 p3) (h4 : DataW.Trod enc P w base spare held t4 v4 d4 p4) (h5 : DataW.Trod enc P w base spare held t5 v5 d5 p5) (h6 : DataW.Trod enc P w base spare held t6 v6 d6 p6) (h7 : DataW.Trod enc P w base spare held t7 v7 d7 p7) (h8 : DataW.Trod enc P w base spare held t8 v8 d8 p8) :
    DataW.TrodAll enc P w base spare held [t0, t1, t2, t3, t4, t5, t6, t7, t8] [v0, v1, v2, v3, v4, v5, v6, v7, v8] [d0, d1, d2, d3, d4, d5, d6, d7, d8] (p0 ++ (p1 ++ (p2 ++ (p3 ++ (p4 ++ (p5 ++ (p6 ++ (p7 ++ p8)))))))) :=
  ⟨p0, _, h0, trm8 h1 h2 h3 h4 h5 h6 h7 h8, rfl⟩
end

end Go.Proofs.Ytdaebldfmchclab
