/- A copy of numbers: slices.Clone. -/
import Derived.Test.YtegdfnfengnjlaaDoorPutW
import Derived.Deep.AppendLies
namespace Go.Proofs.YtegdfnfengnjlaaDoor
open Go.RowKit Go.Deep Go.ChangeShapes Go.WideShapes

theorem Tryd.info3 : (Tryd.prog.info? 3).map (fun i => (i.zero, i.size, i.bytes)) = some (some (.int .i64 0), 1, 8) := by kernel_rfl

abbrev vals (p : List Int) : List Value := p.map (Value.int .i64)

theorem own_nin {w : World} {lo : Nat} {p : List Int} {v : Value} (h : w.ownsRow lo 3 1 v p.length (vals p)) : NIn w p v := by
  obtain ⟨h1, h2⟩ := h
  rcases h2 with ⟨rfl, h0⟩ | ⟨g, cap, cur, rfl, hg, hh, hn, hc, hs, ht⟩
  · exact ⟨none, 0, 0, 0, by rw [h0], fun h => by omega, by omega, Nat.zero_le _, fun i hi => by omega⟩
  · refine ⟨_, cap, g, 0, rfl, fun _ => rfl, hn, hc, fun i hi => ?_⟩
    have e : cur.toList[i]? = (vals p)[i]? := by
      rw [← ht, List.getElem?_take_of_lt (by omega)]
    rw [Nat.zero_add]
    have : w.cell? ⟨g, i, none⟩ = cur.toList[i]? := by simp [World.cell?, hh]
    rw [this, e]
    simp [List.getD_eq_getElem?_getD, hi]

set_option maxHeartbeats 400000 in
theorem clone_any (p : List Int) (pv : Value) (w : World) (hN : NIn w p pv) (hb : p.length * 8 ≤ 140737488355328) :
    Calls Tryd.prog 41 #[pv] w fun e w' => ∃ v', e = .returned v' ∧ w'.ownsRow w.heap.size 3 1 v' p.length (vals p) ∧ Below w.heap.size w w' := by
  obtain ⟨pa, pc, pb, po, rfl, hpa, hplc, hpcm, hpF⟩ := hN
  have hnil := fun (w : World) (a : Option Addr) (n c : Nat) => Lib.run_eql_slice_nil (P := Tryd.prog) w 22 3 a n c 0 0 Tryd.underlying22
  cases pa with
  | none =>
    have h0 : p.length = 0 := by
      rcases Nat.eq_zero_or_pos p.length with h | h
      · exact h
      · have := hpa h; cases this
    go_enter Tryd.func41, Tryd.ntmps41
    go_wp2_with fail
    go_ret
    exact ⟨_, rfl, ⟨by simp, .inl ⟨rfl, h0⟩⟩, Below.refl _ _⟩
  | some ad =>
    obtain ⟨i3, hi, hz0, hz1, hz2⟩ := info_parts Tryd.info3
    have Hcells : Hid (∀ j u, (vals p)[j]? = some u → (w.alloc (.cells #[] 3)).cell? (ad.add j) = some u) := by
      intro j u hu
      have hj : j < p.length := by
        have := (List.getElem?_eq_some_iff.1 hu).1
        simpa using this
      have ha : ad = ⟨pb, po, none⟩ := by have := hpa (by omega); simpa using this
      have hc := hpF j hj
      have e : u = .int .i64 (p.getD j 0) := by
        simp [List.getD_eq_getElem?_getD, hj] at hu ⊢
        exact hu.symm
      rw [ha, add_plain, e]
      exact grow_cell (below_alloc _ _) _ _ hc
    have Hown : Hid ((w.alloc (.cells #[] 3)).ownsRow w.heap.size 3 1 (.slice (some ⟨w.heap.size, 0, none⟩) 0 0) 0 []) :=
      ⟨rfl, .inr ⟨w.heap.size, 0, #[], rfl, Nat.le_refl _, by show (w.heap.push _)[w.heap.size]? = _; simp, Nat.le_refl _, Nat.zero_le _, rfl, rfl⟩⟩
    have hlen : 0 + p.length ≤ maxLen := by omega
    have hbb : (0 + p.length) * 8 ≤ 140737488355328 := by omega
    clear hpF hpa
    go_enter Tryd.func41, Tryd.ntmps41
    go_wp2_with (at_builtin; refine wpList_append_own_at _ rfl (.tmp 5) (.tmp 6) 22 rfl w.heap.size 3 i3 (.int .i64 0) 1 8 Tryd.underlying22 hi hz0 hz1 hz2 rfl (by decide) (.slice (some ⟨w.heap.size, 0, none⟩) 0 0) 0 [] rfl Hown.out ad p.length pc (vals p) rfl (by simp) Hcells.out (ints_oneCell _ _) hlen hbb (by simp) ?_; intro v' w' hown hg hnn hat)
    go_ret
    refine ⟨v', rfl, by simpa using hown, ?_⟩
    exact (below_alloc w _).grown hg (by simp) (fun k hk => by simp [Value.ownBlock] at hk; omega)

end Go.Proofs.YtegdfnfengnjlaaDoor
