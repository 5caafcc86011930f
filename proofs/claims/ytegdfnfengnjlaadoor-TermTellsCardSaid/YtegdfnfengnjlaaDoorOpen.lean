/- Terms that came in: what a reading of them says of the memory. -/
import Derived.Test.YtegdfnfengnjlaaDoorPutL
import Derived.Lib.SmallJoins
import Derived.Deep.Strs
import Derived.LaidMore
import Derived.OpenShut
import Derived.Stop.Joined
namespace Go.Proofs.YtegdfnfengnjlaaDoor
open Go.ChangeShapes Go.WideShapes Go.ChangeAt Go.WideMaps Go.WideElems Go.RowKit Go.Deep Go.Joins

section
variable {H : Type} {enc : TypeId × Value → H} {W : World} {sp : Nat → Bool} {held : Bool}

/-- The struct's three cells, each with its reading. -/
theorem open_term {fuel : Nat} {cs : List Value} {x : DataW H × List MemPlace} (h : DataW.trod enc Tryd.prog W 0 sp held fuel 26 cs = some x) :
    ∃ (v : Bool) (n : Int) (a : Value) (m : Nat) (y : DataW H × List MemPlace), m < fuel ∧ cs = [.bool v, .int .i64 n, a] ∧ DataW.trod enc Tryd.prog W 0 sp held m 24 [a] = some y := by
  obtain ⟨xs, m, rfl, _, hl, hlen, hf⟩ := DataW.trod_struct Tryd.underlying26 h
  rw [Tryd.cells26] at hl
  match xs, hlen, cs, hl with
  | [y0, y1, y2], _, [c0, c1, c2], _ =>
    have g0 := hf 0 _ rfl
    have g1 := hf 1 _ rfl
    have g2 := hf 2 _ rfl
    simp [Tryd.cells4, Tryd.cells3, Tryd.cells24] at g0 g1 g2
    obtain ⟨v, e0, _⟩ := DataW.trod_bool Tryd.underlying4 g0
    obtain ⟨n, e1, _, _⟩ := DataW.trod_int Tryd.underlying3 g1
    simp only [List.cons.injEq, and_true] at e0 e1
    exact ⟨v, n, c2, m, y2, by omega, by rw [e0, e1], g2⟩

theorem build_forest {b : Nat} : ∀ (n o : Nat), (∀ i, i < n → ∃ (x : Bool × Int) (k : Fo) (a : Value), W.cell? ⟨b, o + 3 * i, none⟩ = some (.bool x.1) ∧ W.cell? ⟨b, o + 3 * i + 1, none⟩ = some (.int .i64 x.2) ∧ W.cell? ⟨b, o + 3 * i + 2, none⟩ = some a ∧ SIn W k a) → ∃ F : Fo, Fo.len F = n ∧ FIn W F b o
  | 0, _, _ => ⟨.nil, rfl, trivial⟩
  | n + 1, o, h => by
    obtain ⟨F, hl, hF⟩ := build_forest n (o + 3) (fun i hi => by
      have := h (i + 1) (by omega)
      rw [show o + 3 * (i + 1) = o + 3 + 3 * i by omega] at this
      exact this)
    obtain ⟨x, k, a, h0, h1, h2, h3⟩ := h 0 (by omega)
    exact ⟨.node 0 0 x k F, by simp [Fo.len, hl], FIn.mk (by simpa using h0) (by simpa using h1) (by simpa using h2) h3 hF⟩

/-- A slice of terms that reads as data is a forest. -/
theorem open_terms : ∀ (fuel : Nat) (v : Value) (x : DataW H × List MemPlace), DataW.trod enc Tryd.prog W 0 sp held fuel 24 [v] = some x → ∃ k : Fo, SIn W k v := by
  intro fuel
  induction fuel using Nat.strongRecOn with
  | _ fuel ih =>
    intro v x h
    rcases DataW.trod_slice Tryd.underlying24 h with ⟨hc, _⟩ | ⟨a, len, cap, elems, rest, n, hfuel, hc, _, _, hlc, hcm, hlen, hel, _, _⟩
    · simp only [List.cons.injEq, and_true] at hc
      subst hc
      exact ⟨.nil, SIn.nil W⟩
    · simp only [List.cons.injEq, and_true] at hc
      subst hc
      rw [Tryd.cells26] at hel
      obtain ⟨b, o, spot⟩ := a
      have hone : ∀ i, i < len → ∃ (x : Bool × Int) (k : Fo) (v : Value), W.cell? ((⟨b, o, spot⟩ : Addr).add (i * 3)) = some (.bool x.1) ∧ W.cell? (((⟨b, o, spot⟩ : Addr).add (i * 3)).add 1) = some (.int .i64 x.2) ∧ W.cell? (((⟨b, o, spot⟩ : Addr).add (i * 3)).add 2) = some v ∧ SIn W k v := fun i hi => by
        have h1 := hel i hi
        have hi' : i < elems.length := by omega
        rw [List.getElem?_eq_getElem hi'] at h1
        obtain ⟨cs, h2, h3⟩ := Option.bind_eq_some_iff.1 h1
        obtain ⟨_, hl3, hcell⟩ := World.cells?_some h2
        obtain ⟨tv, tn, ta, m, y, hm, rfl, hy⟩ := open_term h3
        obtain ⟨k, hk⟩ := ih m (by omega) ta y hy
        exact ⟨(tv, tn), k, ta, by simpa [Addr.add] using hcell 0 (by omega), by simpa using hcell 1 (by omega), by simpa using hcell 2 (by omega), hk⟩
      by_cases h0 : len = 0
      · subst h0
        exact ⟨.nil, _, cap, 0, 0, rfl, fun h => by simp [Fo.len] at h, Nat.zero_le _, hcm, trivial⟩
      · have hspot : spot = none := by
          obtain ⟨x, k, v, q0, _⟩ := hone 0 (by omega)
          simpa [Addr.add] using World.cell?_spot q0
        subst hspot
        obtain ⟨F, hF1, hF2⟩ := build_forest (W := W) (b := b) len o (fun i hi => by
          obtain ⟨x, k, v, q0, q1, q2, q3⟩ := hone i hi
          refine ⟨x, k, v, ?_, ?_, ?_, q3⟩
          · rw [add_plain] at q0; rw [Nat.mul_comm 3 i]; exact q0
          · rw [add_plain, add_plain] at q1; rw [Nat.mul_comm 3 i]; exact q1
          · rw [add_plain, add_plain] at q2; rw [Nat.mul_comm 3 i]; exact q2)
        exact ⟨F, _, cap, b, o, by rw [hF1], fun _ => rfl, by omega, hcm, hF2⟩

/-- A term by value. -/
theorem open_tval {r : Reach} {b0 : Nat} {v : Value} {d : DataW H} {p : List MemPlace} (hv : Value.okWide Tryd.prog W r b0 26 v) (h : DataW.Trod enc Tryd.prog W 0 sp held 26 v d p) :
    ∃ (x : Bool × Int) (k : Fo) (a : Value), v = .agg #[.bool x.1, .int .i64 x.2, a] ∧ SIn W k a := by
  obtain ⟨c0, c1, c2, y0, y1, y2, m, rfl, _, _, h0, h1, h2⟩ := open_agg3 Tryd.underlying26 (by kernel_rfl) Tryd.cells26 hv h
  obtain ⟨bv, e0, _⟩ := DataW.trod_bool Tryd.underlying4 h0
  obtain ⟨n, e1, _, _⟩ := DataW.trod_int Tryd.underlying3 h1
  simp only [List.cons.injEq, and_true] at e0 e1
  subst e0 e1
  obtain ⟨k, hk⟩ := open_terms m c2 y2 h2
  exact ⟨(bv, n), k, c2, rfl, hk⟩

/-- Numbers that came in. -/
theorem open_nums {T : TypeId} {r : Reach} {b0 : Nat} {v : Value} {d : DataW H} {p : List MemPlace} (hT : Tryd.prog.underlying T = some (.slice 3)) (hv : Value.okWide Tryd.prog W r b0 T v) (h : DataW.Trod enc Tryd.prog W 0 (fun _ => true) held T v d p) :
    ∃ l : List Int, NIn W l v := by
  obtain ⟨a0, len, cap, rfl⟩ := okWide_slice hT hv
  obtain ⟨fuel, hf⟩ := h
  rcases open_ints hT Tryd.underlying3 Tryd.cells3 hf with ⟨hcs, _⟩ | ⟨x, l, c, zs, hcs, _, hl, hm, hz, _, hcell, hwz⟩
  · simp [Value.cells] at hcs
    obtain ⟨rfl, rfl, rfl⟩ := hcs
    exact ⟨[], none, 0, 0, 0, rfl, fun h => by simp at h, Nat.le_refl _, Nat.zero_le _, fun i hi => by simp at hi⟩
  · simp [Value.cells] at hcs
    obtain ⟨rfl, rfl, rfl⟩ := hcs
    have hz' : zs.length = cap := by simpa using hz
    have htl : (zs.take len).length = len := by rw [List.length_take]; omega
    obtain ⟨b, o, spot⟩ := x
    refine ⟨zs.take len, _, cap, b, o, by rw [htl], fun h => ?_, by rw [htl]; exact hl, hm, fun i hi => ?_⟩
    · have := hcell 0 (by omega)
      have hspot : spot = none := by simpa [Addr.add] using World.cell?_spot this
      rw [hspot]
    · rw [htl] at hi
      have hc := hcell i (by omega)
      have hspot : spot = none := by
        have := hcell 0 (by omega)
        simpa [Addr.add] using World.cell?_spot this
      subst hspot
      rw [add_plain] at hc
      rw [hc]
      simp [List.getD_eq_getElem?_getD, hi]

end
end Go.Proofs.YtegdfnfengnjlaaDoor
