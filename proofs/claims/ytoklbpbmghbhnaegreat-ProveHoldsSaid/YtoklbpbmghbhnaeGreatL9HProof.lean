/- Proved: of whatever model all right clauses hold that a search began with, all its steps do, whatever is picked, and nothing is found then: mplaw9.ProveHolds answers true for every input that can be read, at the landed code. Its conditions: the row's own (finite readings). -/
import Derived.Test.YtoklbpbmghbhnaeGreatG30
import Derived.Test.YtoklbpbmghbhnaeGreatRows
import Derived.WalkKit
import Derived.ProofKit
import Derived.OpenShut
import Derived.SizedLaws
namespace Go.Proofs.YtoklbpbmghbhnaeGreat
open Go.ChangeShapes Go.WideShapes Go.ChangeAt Go.WideMaps Go.WideElems Go.RowKit Go.Deep Go.Joins
theorem own : ownKnob Tryz.prog.godebug = none := by kernel_rfl
theorem laidOut : laidOutB Tryz.prog = true := by kernel_rfl
set_option maxRecDepth 100000 in
theorem proveHolds_lifted (os : Os) (started : os.Started) (H : Type) (enc : TypeId × Value → H) :
    ReturnsInHanded {} Tryz.checked os 4 .any (Rows.proveHoldsSpec.pre6 enc Tryz.prog Tryz.f4 Rows.proveHoldsRow.domain false) (Rows.proveHoldsSpec.post enc Tryz.prog Tryz.f4 false true false false) := by
  refine returnsInHanded_of_change_sized (C := Tryz.checked) own started (by kernel_rfl) Tryz.func4
    (ChangeSpec.witness6 (enc := enc) (C := Tryz.checked) false ⟨#[], #[.slice none 0 0, .slice none 0 0, .slice none 0 0, .agg #[.int .i64 0, .slice none 0 0]], []⟩ 8 (by kernel_rfl) (by kernel_rfl) (by kernel_rfl) (by kernel_rfl)) ?_
  intro W base args ds gs before hval0 hW _ hwt _
  have hval : ∀ (j : Nat) t v, Tryz.f4.params[j]? = some t → args[j]? = some v → Value.okWide Tryz.prog W .any base t v := hval0
  have hW' := hW
  obtain ⟨p, q, hA0, hV, rfl, hfz, hnd⟩ := hW
  have hA : DataW.TrodAll enc Tryz.prog W 0 (fun _ => true) true Tryz.f4.params.toList args.toList ds p := hA0
  rw [Tryz.params4] at hA hval
  obtain ⟨v0, v1, v2, v3, d0, d1, d2, d3, p0, p1, p2, p3, rfl, rfl, rfl, h0, h1, h2, h3⟩ := trodAll_four hA
  obtain ⟨rfl, rfl⟩ := trodVars_none hV
  have lt0 : ∀ x ∈ p0, x.block < W.heap.size := by obtain ⟨m, hm⟩ := h0; exact DataW.trod_lt m _ _ _ hm
  have lt1 : ∀ x ∈ p1, x.block < W.heap.size := by obtain ⟨m, hm⟩ := h1; exact DataW.trod_lt m _ _ _ hm
  have lt2 : ∀ x ∈ p2, x.block < W.heap.size := by obtain ⟨m, hm⟩ := h2; exact DataW.trod_lt m _ _ _ hm
  have lt3 : ∀ x ∈ p3, x.block < W.heap.size := by obtain ⟨m, hm⟩ := h3; exact DataW.trod_lt m _ _ _ hm
  have k0 := h0
  have k1 := h1
  have k2 := h2
  have k3 := h3
  obtain ⟨s0, hN0⟩ := OZ Tryz.underlying23 (hval 0 23 v0 rfl rfl) h0
  obtain ⟨c1, hC1, hZ1⟩ := aL6 (hval 1 24 v1 rfl rfl) h1
  have hL1 : (rC c1).length * 24 ≤ 140737488351232 := by
    rw [rC, List.length_map]
    rcases hZ1 with rfl | ⟨elems, spare, rfl, he⟩
    · simp
    · have h1 := sized_slice (P := Tryz.checked.prog) (ts := Tryz.f4.params.toList ++ _) hwt (j := 1) (t := 24) (e := 44) rfl rfl Tryz.underlying24
      rw [show Tryz.checked.prog.bytesOf 44 = 24 by kernel_rfl] at h1
      have h2 : reachBytes = 140737488351232 := rfl
      omega
  obtain ⟨s2, hN2⟩ := OZ Tryz.underlying22 (hval 2 22 v2 rfl rfl) h2
  obtain ⟨z3, tb3, mv3, rfl, hT3⟩ := aJD (hval 3 38 v3 rfl rfl) h3
  clear hA0 hval0
  refine (MX s0 v0 (rC c1) v1 s2 v2 z3 tb3 mv3 W hN0 (aM2 hC1) hN2 hT3 YF hL1).mono fun e W' ⟨he, bel⟩ => ?_
  subst he
  exact ⟨_, rfl, _, _, _, [], _, [], hW', trodAll_mk1 (shut_bool Tryz.underlying4 _),
    (trodAll_mk4 (Below.trod laidOut (by kernel_rfl) (of_decide_eq_true (by kernel_rfl)) k0 bel lt0) (Below.trod laidOut (by kernel_rfl) (of_decide_eq_true (by kernel_rfl)) k1 bel lt1) (Below.trod laidOut (by kernel_rfl) (of_decide_eq_true (by kernel_rfl)) k2 bel lt2) (Below.trod laidOut (by kernel_rfl) (of_decide_eq_true (by kernel_rfl)) k3 bel lt3)), rfl, bel.frame _, fun h => by cases h⟩
theorem proveHolds_said : Rows.ProveHoldsSaid :=
  OpenClaim.holds_of_wide 4 Tryz.f4 rfl rfl rfl rfl rfl rfl rfl ⟨rfl, rfl, rfl, rfl, rfl⟩ rfl rfl rfl rfl rfl (by kernel_rfl) Tryz.func4 (by kernel_rfl)
    (of_decide_eq_true (by kernel_rfl)) (by unfold Func.isWrapper; first | (rw [if_pos (by decide +kernel)]; kernel_rfl) | (rw [if_neg (by decide +kernel)]; exact ⟨rfl, rfl⟩))
    (fun os started H enc _ => proveHolds_lifted os started H enc)
#print axioms proveHolds_said
end Go.Proofs.YtoklbpbmghbhnaeGreat
