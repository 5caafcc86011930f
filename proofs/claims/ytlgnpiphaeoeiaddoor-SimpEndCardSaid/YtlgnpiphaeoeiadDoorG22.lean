/- Open7 L7EUp -/
import Derived.Test.YtlgnpiphaeoeiadDoorG21
import Derived.WalkKit
import Derived.ProofKit
import Derived.OpenShut
import Derived.Lib.SmallJoins
import Derived.Test.YtlgnpiphaeoeiadDoorRows
import Derived.Test.YtlgnpiphaeoeiadDoorChecked
import Derived.Lay
import Derived.LaidOnce
import Derived.SizedLaws
import Derived.ChangeMaps5
import Derived.Deep.DeepHandedRow
import Derived.Deep.DeepWitnessRowRef
namespace Go.Proofs.YtlgnpiphaeoeiadDoor
open Go.ChangeShapes Go.WideShapes Go.ChangeAt Go.WideMaps Go.WideElems Go.RowKit Go.Deep Go.Joins
theorem Tryd.cells25 : Tryd.prog.cellsOf 25 = 1 := by kernel_rfl
section
variable {H : Type} {enc : TypeId × Value → H} {W : World} {sp : Nat → Bool} {held : Bool}
set_option maxRecDepth 100000 in
theorem open_clf {fuel : Nat} {cs : List Value} {x : DataW H × List MemPlace} (hf : DataW.trod enc Tryd.prog W 0 sp held fuel 25 cs = some x) : ∃ (v : Value) (s : Cl), cs = [v] ∧ CIn W s v := by
  rcases DataW.trod_slice Tryd.underlying25 hf with ⟨hc, _⟩ | ⟨a, len, cap, elems, rest, n, hfuel, hc, _, _, hlc, hcm, hlen, hel, _, _⟩
  · exact ⟨.slice none 0 0, [], hc, CIn.nil W⟩
  · subst hc
    rw [Tryd.cells39] at hel
    obtain ⟨b, o, spot⟩ := a
    have hone : ∀ i, i < len → ∃ (l : Lt) (a d : Value), W.cell? ((⟨b, o, spot⟩ : Addr).add (i * 7)) = some (.bool l.1) ∧ W.cell? (((⟨b, o, spot⟩ : Addr).add (i * 7)).add 1) = some (.bool l.2.1.1.1) ∧ W.cell? (((⟨b, o, spot⟩ : Addr).add (i * 7)).add 2) = some (.int .i64 l.2.1.1.2) ∧ W.cell? (((⟨b, o, spot⟩ : Addr).add (i * 7)).add 3) = some a ∧ W.cell? (((⟨b, o, spot⟩ : Addr).add (i * 7)).add 4) = some (.bool l.2.2.1.1) ∧ W.cell? (((⟨b, o, spot⟩ : Addr).add (i * 7)).add 5) = some (.int .i64 l.2.2.1.2) ∧ W.cell? (((⟨b, o, spot⟩ : Addr).add (i * 7)).add 6) = some d ∧ SIn W l.2.1.2 a ∧ SIn W l.2.2.2 d := fun i hi => by
      have h1 := hel i hi
      have hi' : i < elems.length := by omega
      rw [List.getElem?_eq_getElem hi'] at h1
      obtain ⟨cs, h2, h3⟩ := Option.bind_eq_some_iff.1 h1
      obtain ⟨_, hl3, hcell⟩ := World.cells?_some h2
      obtain ⟨l, ta, td, rfl, hk, hk'⟩ := open_lit h3
      exact ⟨l, ta, td, by simpa [Addr.add] using hcell 0 (by omega), by simpa using hcell 1 (by omega), by simpa using hcell 2 (by omega), by simpa using hcell 3 (by omega), by simpa using hcell 4 (by omega), by simpa using hcell 5 (by omega), by simpa using hcell 6 (by omega), hk, hk'⟩
    by_cases h0 : len = 0
    · subst h0
      exact ⟨_, [], rfl, _, cap, 0, 0, rfl, fun h => by simp at h, Nat.zero_le _, hcm, trivial⟩
    · have hspot : spot = none := by
        obtain ⟨x, v, _, q0, _⟩ := hone 0 (by omega)
        simpa [Addr.add] using World.cell?_spot q0
      subst hspot
      obtain ⟨s, hs1, hs2⟩ := build_cl (W := W) (b := b) len o (fun i hi => by
        obtain ⟨l, a, d, q0, q1, q2, q3, q4, q5, q6, q7, q8⟩ := hone i hi
        refine ⟨l, a, d, ?_, ?_, ?_, ?_, ?_, ?_, ?_, q7, q8⟩
        · rw [add_plain] at q0; rw [Nat.mul_comm 7 i]; exact q0
        · rw [add_plain, add_plain] at q1; rw [Nat.mul_comm 7 i]; exact q1
        · rw [add_plain, add_plain] at q2; rw [Nat.mul_comm 7 i]; exact q2
        · rw [add_plain, add_plain] at q3; rw [Nat.mul_comm 7 i]; exact q3
        · rw [add_plain, add_plain] at q4; rw [Nat.mul_comm 7 i]; exact q4
        · rw [add_plain, add_plain] at q5; rw [Nat.mul_comm 7 i]; exact q5
        · rw [add_plain, add_plain] at q6; rw [Nat.mul_comm 7 i]; exact q6)
      exact ⟨_, s, rfl, _, cap, b, o, by rw [hs1], fun _ => rfl, by omega, hcm, hs2⟩
theorem build_cs {b : Nat} : ∀ (n o : Nat), (∀ i, i < n → ∃ (v : Value) (s : Cl), W.cell? ⟨b, o + i, none⟩ = some v ∧ CIn W s v) → ∃ cs : List Cl, cs.length = n ∧ ∀ i c, cs[i]? = some c → ∃ cv, W.cell? ⟨b, o + i, none⟩ = some cv ∧ CIn W c cv
  | 0, _, _ => ⟨[], rfl, fun i c h => by simp at h⟩
  | n + 1, o, h => by
    obtain ⟨cs, hl, hP⟩ := build_cs n (o + 1) (fun i hi => by
      have := h (i + 1) (by omega)
      rw [show o + (i + 1) = o + 1 + i by omega] at this
      exact this)
    obtain ⟨v, s, h0, h1⟩ := h 0 (by omega)
    refine ⟨s :: cs, by simp [hl], fun i c hc => ?_⟩
    match i, hc with
    | 0, hc =>
      simp only [List.getElem?_cons_zero, Option.some.injEq] at hc
      subst hc
      exact ⟨v, h0, h1⟩
    | i + 1, hc =>
      obtain ⟨cv, q1, q2⟩ := hP i c (by simpa using hc)
      exact ⟨cv, by rw [show o + (i + 1) = o + 1 + i by omega]; exact q1, q2⟩
set_option maxRecDepth 100000 in
theorem open_cs {r : Reach} {b0 : Nat} {v : Value} {d : DataW H} {p : List MemPlace} (hv : Value.okWide Tryd.prog W r b0 26 v) (h : DataW.Trod enc Tryd.prog W 0 sp held 26 v d p) : ∃ cs : List Cl, CsIn W cs v ∧ (cs = [] ∨ ∃ elems spare, d = .slice elems spare ∧ elems.length = cs.length) := by
  obtain ⟨a0, len0, cap0, rfl⟩ := okWide_slice Tryd.underlying26 hv
  obtain ⟨fuel, hf⟩ := h
  rcases DataW.trod_slice Tryd.underlying26 hf with ⟨hc, _⟩ | ⟨a, len, cap, elems, rest, n, hfuel, hc, hx, _, hlc, hcm, hlen, hel, _, _⟩
  · simp [Value.cells] at hc
    obtain ⟨rfl, rfl, rfl⟩ := hc
    exact ⟨[], CsIn.nil W, .inl rfl⟩
  · simp [Value.cells] at hc
    obtain ⟨rfl, rfl, rfl⟩ := hc
    rw [Tryd.cells25] at hel
    obtain ⟨b, o, spot⟩ := a
    have hone : ∀ i, i < len0 → ∃ (v : Value) (s : Cl), W.cell? ((⟨b, o, spot⟩ : Addr).add i) = some v ∧ CIn W s v := fun i hi => by
      have h1 := hel i hi
      have hi' : i < elems.length := by omega
      rw [List.getElem?_eq_getElem hi'] at h1
      obtain ⟨cs, h2, h3⟩ := Option.bind_eq_some_iff.1 h1
      obtain ⟨_, hl3, hcell⟩ := World.cells?_some h2
      obtain ⟨v, s, rfl, hs⟩ := open_clf h3
      refine ⟨v, s, ?_, hs⟩
      have := hcell 0 (by omega)
      simpa [Addr.add] using this
    by_cases h0 : len0 = 0
    · subst h0
      exact ⟨[], ⟨_, cap0, 0, 0, rfl, fun h => by simp at h, Nat.zero_le _, hcm, fun i c h => by simp at h⟩, .inl rfl⟩
    · have hspot : spot = none := by
        obtain ⟨v, s, q0, _⟩ := hone 0 (by omega)
        simpa [Addr.add] using World.cell?_spot q0
      subst hspot
      obtain ⟨cs, hs1, hs2⟩ := build_cs (W := W) (b := b) len0 o (fun i hi => by
        obtain ⟨v, s, q0, q1⟩ := hone i hi
        rw [add_plain] at q0
        exact ⟨v, s, q0, q1⟩)
      exact ⟨cs, ⟨_, cap0, b, o, by rw [hs1], fun _ => rfl, by omega, hcm, hs2⟩, .inr ⟨_, _, congrArg Prod.fst hx, by rw [List.length_map, hs1]; exact hlen⟩⟩
end
def normCs (cs : List Cl) : List Cl := cs.map normCl
theorem cs_norm {w : World} {cs : List Cl} {v : Value} (h : CsIn w cs v) : CsIn w (normCs cs) v := by
  obtain ⟨a, k, b, o, rfl, h2, h3, h4, h5⟩ := h
  refine ⟨a, k, b, o, by simp [normCs], by simpa [normCs] using h2, by simpa [normCs] using h3, h4, fun i c hc => ?_⟩
  rw [normCs, List.getElem?_map] at hc
  obtain ⟨c', hc', rfl⟩ := Option.map_eq_some_iff.1 hc
  obtain ⟨cv, q1, q2⟩ := h5 i c' hc'
  exact ⟨cv, q1, cl_norm q2⟩
theorem normCs_norm {cs : List Cl} : ∀ c ∈ normCs cs, ∀ l ∈ c, Fo.norm l.2.1.2 = l.2.1.2 ∧ Fo.norm l.2.2.2 = l.2.2.2 := fun c hc => by
  simp only [normCs, List.mem_map] at hc
  obtain ⟨q, _, rfl⟩ := hc
  exact normCl_norm
end Go.Proofs.YtlgnpiphaeoeiadDoor

namespace Go.Proofs.YtlgnpiphaeoeiadDoor
open Go.ChangeMaps Go.ChangeShapes Go.WideShapes Go.ChangeAt Go.WideMaps Go.WideElems Go.RowKit Go.Deep Go.Joins
theorem own7E : ownKnob Tryd.prog.godebug = none := by kernel_rfl
theorem laidOut7E : laidOutB Tryd.prog = true := by kernel_rfl
set_option maxRecDepth 100000 in
theorem laid7E_met (os : Os) (args : Array Value) : laidMetH Tryd.prog Rows.simpEndRow.laid ((World.laidAll Tryd.prog os Rows.simpEndRow.laid).forCall (fun _ _ => 0) ⟨#[], args, []⟩).memory := by
  rw [MakeChecks.laidMetH_plain _ _ _ (by kernel_rfl)]
  exact laidMet_laidAll _ (by kernel_rfl) (by kernel_rfl)
theorem reads7E (os : Os) {H : Type} (enc : TypeId × Value → H) : ∃ places, DataW.whole enc Tryd.prog ((World.laidAll Tryd.prog os Rows.simpEndRow.laid).forCall (fun _ _ => 0) ⟨#[], #[.slice none 0 0, .slice none 0 0, .slice none 0 0], []⟩).memory Tryd.f4.params.toList Rows.simpEndSpec.vars false #[Value.slice none 0 0, .slice none 0 0, .slice none 0 0].toList 8 = some ([.nil, .nil, .nil], [], places) :=
  ⟨[], by kernel_rfl⟩
set_option maxRecDepth 100000 in
theorem contract7E (H : Type) (enc : TypeId × Value → H) (W : World) (base : Nat) (args : Array Value) (ds gs : List (DataW H)) (before : List MemPlace)
    (hval0 : ∀ (j : Nat) t v, Tryd.f4.params[j]? = some t → args[j]? = some v → Value.okWide Tryd.prog W .any base t v)
    (hW : DataW.Whole enc Tryd.prog Tryd.f4.params.toList Rows.simpEndSpec.vars false W args.toList ds gs before) {ts2 : List TypeId} (hwt : (DataW.weightsEach Tryd.checked.prog (Tryd.f4.params.toList ++ ts2) (ds ++ gs)).all (· ≤ reachBytes) = true) :
    Calls Tryd.prog 4 args W fun e W' => ∃ v, e = .returned v ∧ Rows.simpEndSpec.post enc Tryd.prog Tryd.f4 false true false false W args v W' := by
  have hval : ∀ (j : Nat) t v, Tryd.f4.params[j]? = some t → args[j]? = some v → Value.okWide Tryd.prog W .any base t v := hval0
  have hW' := hW
  obtain ⟨p, q, hA0, hV, rfl, hfz, hnd⟩ := hW
  have hA : DataW.TrodAll enc Tryd.prog W 0 (fun _ => true) true Tryd.f4.params.toList args.toList ds p := hA0
  rw [Tryd.params4] at hA hval
  obtain ⟨v0, v1, v2, d0, d1, d2, p0, p1, p2, rfl, rfl, rfl, h0, h1, h2⟩ := trodAll_three hA
  obtain ⟨rfl, rfl⟩ := trodVars_none hV
  have lt0 : ∀ x ∈ p0, x.block < W.heap.size := by obtain ⟨m, hm⟩ := h0; exact DataW.trod_lt m _ _ _ hm
  have lt1 : ∀ x ∈ p1, x.block < W.heap.size := by obtain ⟨m, hm⟩ := h1; exact DataW.trod_lt m _ _ _ hm
  have lt2 : ∀ x ∈ p2, x.block < W.heap.size := by obtain ⟨m, hm⟩ := h2; exact DataW.trod_lt m _ _ _ hm
  have k0 := h0
  have k1 := h1
  have k2 := h2
  obtain ⟨s0, hN0⟩ := open_nums Tryd.underlying23 (hval 0 23 v0 rfl rfl) h0
  obtain ⟨c1, hC1⟩ := open_cl (hval 1 25 v1 rfl rfl) h1
  obtain ⟨c2, hC2, hZ2⟩ := open_cs (hval 2 26 v2 rfl rfl) h2
  have hL2 : (normCs c2).length * 24 ≤ 140737488351232 := by
    rw [normCs, List.length_map]
    rcases hZ2 with rfl | ⟨elems, spare, rfl, he⟩
    · simp
    · have h1 := sized_slice (P := Tryd.checked.prog) (ts := Tryd.f4.params.toList ++ _) hwt (j := 2) (t := 26) (e := 25) rfl rfl Tryd.underlying26
      rw [show Tryd.checked.prog.bytesOf 25 = 24 by kernel_rfl] at h1
      have h2 : reachBytes = 140737488351232 := rfl
      omega
  clear hA0 hval0
  refine (simpEnd_of s0 v0 (normCl c1) v1 (normCs c2) v2 W hN0 (cl_norm hC1) (cs_norm hC2) normCl_norm normCs_norm hL2).mono fun e W' ⟨he, bel⟩ => ?_
  subst he
  exact ⟨_, rfl, _, _, _, [], _, [], hW', trodAll_mk1 (shut_bool Tryd.underlying4 _),
    (trodAll_mk3 (Below.trod laidOut7E (by kernel_rfl) (of_decide_eq_true (by kernel_rfl)) k0 bel lt0) (Below.trod laidOut7E (by kernel_rfl) (of_decide_eq_true (by kernel_rfl)) k1 bel lt1) (Below.trod laidOut7E (by kernel_rfl) (of_decide_eq_true (by kernel_rfl)) k2 bel lt2)), rfl, bel.frame _, fun h => by cases h⟩
set_option maxRecDepth 100000 in
theorem lifted7E (os : Os) (started : os.Started) (H : Type) (enc : TypeId × Value → H) (F : Stop.Interp) :
    ReturnsInHanded {} Tryd.checked os 4 .any ((OpenSpec.ofChange Rows.simpEndSpec).preRow enc Tryd.prog Tryd.f4 Rows.simpEndRow.domain false Rows.simpEndRow.laid) (((OpenSpec.ofChange Rows.simpEndSpec).at F).post enc Tryd.prog Tryd.f4 false true false false) := by
  obtain ⟨places, hx⟩ := reads7E os enc
  refine returnsInHanded_of_row (C := Tryd.checked) (s := OpenSpec.ofChange Rows.simpEndSpec) own7E started (by kernel_rfl) Tryd.func4
    (witness_row_atRef (enc := enc) (C := Tryd.checked) false (World.laidAll Tryd.prog os Rows.simpEndRow.laid) #[.slice none 0 0, .slice none 0 0, .slice none 0 0] (World.laidAll_os _ _ _) (by kernel_rfl) (by kernel_rfl) (by kernel_rfl)
      (OpenSpec.preRow_of_cond 8 hx (by kernel_rfl) (fun k hk => by cases hk) (by kernel_rfl) (laid7E_met os _))) ?_
  intro W base args ds gs before hval hW _ _ hwt _ _ _
  exact contract7E H enc W base args ds gs before hval hW hwt
theorem said7E : Rows.SimpEndSaid :=
  OpenClaim.holds_of_cond 4 Tryd.f4 rfl rfl rfl rfl rfl rfl rfl ⟨rfl, rfl, rfl, rfl, rfl⟩ rfl rfl rfl rfl rfl (by kernel_rfl) Tryd.func4 (by kernel_rfl)
    (of_decide_eq_true (by kernel_rfl)) (by unfold Func.isWrapper; first | (rw [if_pos (by decide +kernel)]; kernel_rfl) | (rw [if_neg (by decide +kernel)]; exact ⟨rfl, rfl⟩))
    (fun os started H enc _ F => by rw [OpenClaim.pre_eq_preRow]; exact lifted7E os started H enc F)
end Go.Proofs.YtlgnpiphaeoeiadDoor
