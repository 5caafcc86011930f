/- The closed fact that is asked first in chapter 3: alive. -/
import Derived.Test.YtdaebldfmchclabG16
import Derived.Test.YtdaebldfmchclabG17
import Derived.Test.YtdaebldfmchclabG14
import Derived.BigQuiet
import Derived.Test.YtdaebldfmchclabRows
import Derived.WalkKit
import Derived.RegionTactic
namespace Go.Proofs.Ytdaebldfmchclab
open Go.RowKit Go.Deep Go.ChangeShapes Go.WideShapes
attribute [local go_sem ↓] Go.wp_at_zero Go.wp_at_succ

theorem l6a : parseT [0, 1, 2] [98, 40, 97, 41] = (0, tb ta) := parse_of al_wsig (by decide) rfl (by decide +kernel)
set_option maxRecDepth 100000 in
theorem rt3a (w : World) : Calls Try.prog 21 #[.string ⟨#[98, 40, 88, 48, 41]⟩] w fun e w' => ∃ a1 a3, e = .returned (.agg #[.bool false, .int .i64 1, .slice a1 1 a3]) ∧ SIn w' (tb (vr 0)).2 (.slice a1 1 a3) ∧ Below w.heap.size w w' := rd3_any l6p (by decide) w
set_option maxRecDepth 100000 in
theorem rt3b (w : World) : Calls Try.prog 21 #[.string ⟨#[88, 48]⟩] w fun e w' => ∃ a1 a3, e = .returned (.agg #[.bool true, .int .i64 0, .slice a1 0 a3]) ∧ SIn w' .nil (.slice a1 0 a3) ∧ Below w.heap.size w w' := rd3_any l5p (by decide) w
set_option maxRecDepth 100000 in
theorem rt3c (w : World) : Calls Try.prog 21 #[.string ⟨#[88, 49]⟩] w fun e w' => ∃ a1 a3, e = .returned (.agg #[.bool true, .int .i64 1, .slice a1 0 a3]) ∧ SIn w' .nil (.slice a1 0 a3) ∧ Below w.heap.size w w' := rd3_any l9p (by decide) w
set_option maxRecDepth 100000 in
theorem rt3d (w : World) : Calls Try.prog 21 #[.string ⟨#[97]⟩] w fun e w' => ∃ a1 a3, e = .returned (.agg #[.bool false, .int .i64 0, .slice a1 0 a3]) ∧ SIn w' .nil (.slice a1 0 a3) ∧ Below w.heap.size w w' := rd3_any l8p (by decide) w
set_option maxRecDepth 100000 in
theorem rt3e (w : World) : Calls Try.prog 21 #[.string ⟨#[98, 40, 97, 41]⟩] w fun e w' => ∃ a1 a3, e = .returned (.agg #[.bool false, .int .i64 1, .slice a1 1 a3]) ∧ SIn w' (tb ta).2 (.slice a1 1 a3) ∧ Below w.heap.size w w' := rd3_any l6a (by decide) w
set_option maxRecDepth 100000 in
theorem cc0 {w : World} {a c : Value} (h1 : SIn w (tb (vr 0)).2 a) (h2 : SIn w .nil c) : Calls Try.prog 7 #[.agg #[.bool false, .int .i64 1, a], .agg #[.bool true, .int .i64 0, c]] w fun e w' => e = .returned (.int .i64 3) ∧ Below w.heap.size w w' := by
  have h := compare_any (false, 1) (tb (vr 0)).2 (true, 0) .nil a c w g6.1 g5.1 h1 h2 (by decide) (by decide)
  rwa [show cmpT ((false, 1), (tb (vr 0)).2) ((true, 0), .nil) = 3 by decide +kernel] at h
set_option maxRecDepth 100000 in
theorem cc1 {w : World} {a c : Value} (h1 : SIn w .nil a) (h2 : SIn w .nil c) : Calls Try.prog 7 #[.agg #[.bool true, .int .i64 0, a], .agg #[.bool true, .int .i64 1, c]] w fun e w' => e = .returned (.int .i64 0) ∧ Below w.heap.size w w' := by
  have h := compare_any (true, 0) .nil (true, 1) .nil a c w g5.1 (gd_vr (by decide)) h1 h2 (by decide) (by decide)
  rwa [show cmpT ((true, 0), .nil) ((true, 1), .nil) = 0 by decide +kernel] at h
set_option maxRecDepth 100000 in
theorem cc2 {w : World} {a c : Value} (h1 : SIn w .nil a) (h2 : SIn w (tb ta).2 c) : Calls Try.prog 7 #[.agg #[.bool false, .int .i64 0, a], .agg #[.bool false, .int .i64 1, c]] w fun e w' => e = .returned (.int .i64 1) ∧ Below w.heap.size w w' := by
  have h := compare_any (false, 0) .nil (false, 1) (tb ta).2 a c w g8.1 g9.1 h1 h2 (by decide) (by decide)
  rwa [show cmpT ((false, 0), .nil) ((false, 1), (tb ta).2) = 1 by decide +kernel] at h
set_option maxRecDepth 100000 in
theorem cc3 {w : World} {a c : Value} (h1 : SIn w .nil a) (h2 : SIn w .nil c) : Calls Try.prog 7 #[.agg #[.bool false, .int .i64 0, a], .agg #[.bool false, .int .i64 0, c]] w fun e w' => e = .returned (.int .i64 2) ∧ Below w.heap.size w w' := by
  have h := compare_any (false, 0) .nil (false, 0) .nil a c w g8.1 g8.1 h1 h2 (by decide) (by decide)
  rwa [show cmpT ((false, 0), .nil) ((false, 0), .nil) = 2 by decide +kernel] at h

set_option maxRecDepth 100000 in
set_option maxHeartbeats 4000000 in
theorem alive3_any (w : World) : Calls Try.prog 9 #[] w fun e w' => e = .returned (.bool true) ∧ Below w.heap.size w w' := by
  have hB : Below w.heap.size w w := Below.refl _ _
  go_enter Try.func9, Try.ntmps9
  go_wp2_with fail
  refine (rt3a _).mono ?_
  rintro e u0 ⟨a0, b0, rfl, h1, hb⟩
  replace hB := below_step hB hb
  have H1 := hide h1
  clear h1 hb
  go_wp2_with fail
  refine (rt3b _).mono ?_
  rintro e v0 ⟨c0, d0, rfl, h2, hb⟩
  replace hB := below_step hB hb
  replace H1 := hide (H1.out.below hb)
  have H2 := hide h2
  clear h2 hb
  go_wp2_with fail
  refine (cc0 H1.out H2.out).mono ?_
  rintro e x0 ⟨rfl, hb⟩
  replace hB := below_step hB hb
  clear H1 H2 hb
  go_wp2_with fail
  refine (rt3b _).mono ?_
  rintro e u1 ⟨a1, b1, rfl, h1, hb⟩
  replace hB := below_step hB hb
  have H1 := hide h1
  clear h1 hb
  go_wp2_with fail
  refine (rt3c _).mono ?_
  rintro e v1 ⟨c1, d1, rfl, h2, hb⟩
  replace hB := below_step hB hb
  replace H1 := hide (H1.out.below hb)
  have H2 := hide h2
  clear h2 hb
  go_wp2_with fail
  refine (cc1 H1.out H2.out).mono ?_
  rintro e x1 ⟨rfl, hb⟩
  replace hB := below_step hB hb
  clear H1 H2 hb
  go_wp2_with fail
  refine (rt3d _).mono ?_
  rintro e u2 ⟨a2, b2, rfl, h1, hb⟩
  replace hB := below_step hB hb
  have H1 := hide h1
  clear h1 hb
  go_wp2_with fail
  refine (rt3e _).mono ?_
  rintro e v2 ⟨c2, d2, rfl, h2, hb⟩
  replace hB := below_step hB hb
  replace H1 := hide (H1.out.below hb)
  have H2 := hide h2
  clear h2 hb
  go_wp2_with fail
  refine (cc2 H1.out H2.out).mono ?_
  rintro e x2 ⟨rfl, hb⟩
  replace hB := below_step hB hb
  clear H1 H2 hb
  go_wp2_with fail
  refine (rt3d _).mono ?_
  rintro e u3 ⟨a3, b3, rfl, h1, hb⟩
  replace hB := below_step hB hb
  have H1 := hide h1
  clear h1 hb
  go_wp2_with fail
  refine (rt3d _).mono ?_
  rintro e v3 ⟨c3, d3, rfl, h2, hb⟩
  replace hB := below_step hB hb
  replace H1 := hide (H1.out.below hb)
  have H2 := hide h2
  clear h2 hb
  go_wp2_with fail
  refine (cc3 H1.out H2.out).mono ?_
  rintro e x3 ⟨rfl, hb⟩
  replace hB := below_step hB hb
  clear H1 H2 hb
  go_wp2_with fail
  go_ret
  exact ⟨rfl, hB⟩

end Go.Proofs.Ytdaebldfmchclab

/- Bindings that came in: what a reading of them says of the memory. -/
namespace Go.Proofs.Ytdaebldfmchclab
open Go.ChangeShapes Go.WideShapes Go.ChangeAt Go.WideMaps Go.WideElems Go.RowKit Go.Deep Go.Joins

theorem Try.cells42 : Try.prog.cellsOf 42 = 4 := by kernel_rfl

section
variable {H : Type} {enc : TypeId × Value → H} {W : World} {sp : Nat → Bool} {held : Bool}

set_option maxRecDepth 100000 in
/-- A pair's four cells. -/
theorem open_pair {fuel : Nat} {cs : List Value} {x : DataW H × List MemPlace} (h : DataW.trod enc Try.prog W 0 sp held fuel 42 cs = some x) :
    ∃ (n : Int) (v : Bool) (m : Int) (a : Value) (k : Fo), cs = [.int .i64 n, .bool v, .int .i64 m, a] ∧ SIn W k a := by
  obtain ⟨xs, m, rfl, _, hl, hlen, hf⟩ := DataW.trod_struct Try.underlying42 h
  rw [Try.cells42] at hl
  match xs, hlen, cs, hl with
  | [y0, y1], _, [c0, c1, c2, c3], _ =>
    have q0 := hf 0 _ rfl
    have q1 := hf 1 _ rfl
    simp [Try.cells3, Try.cells26] at q0 q1
    obtain ⟨n, e0, _, _⟩ := DataW.trod_int Try.underlying3 q0
    obtain ⟨v, z, a, m', y, _, e1, hy⟩ := open_term q1
    obtain ⟨k, hk⟩ := open_terms _ _ _ hy
    simp only [List.cons.injEq, and_true] at e0 e1
    obtain ⟨rfl, rfl, rfl⟩ := e1
    subst e0
    exact ⟨n, v, z, c3, k, rfl, hk⟩

theorem build_sub {b : Nat} : ∀ (n o : Nat), (∀ i, i < n → ∃ (p : Int × Tm) (a : Value), W.cell? ⟨b, o + 4 * i, none⟩ = some (.int .i64 p.1) ∧ W.cell? ⟨b, o + 4 * i + 1, none⟩ = some (.bool p.2.1.1) ∧ W.cell? ⟨b, o + 4 * i + 2, none⟩ = some (.int .i64 p.2.1.2) ∧ W.cell? ⟨b, o + 4 * i + 3, none⟩ = some a ∧ SIn W p.2.2 a) → ∃ s : Sb, s.length = n ∧ PIn W s b o
  | 0, _, _ => ⟨[], rfl, trivial⟩
  | n + 1, o, h => by
    obtain ⟨s, hl, hP⟩ := build_sub n (o + 4) (fun i hi => by
      have := h (i + 1) (by omega)
      rw [show o + 4 * (i + 1) = o + 4 + 4 * i by omega] at this
      exact this)
    obtain ⟨p, a, h0, h1, h2, h3, h4⟩ := h 0 (by omega)
    exact ⟨p :: s, by simp [hl], by simpa using h0, by simpa using h1, by simpa using h2, ⟨a, by simpa using h3, h4⟩, hP⟩

set_option maxRecDepth 100000 in
/-- Bindings by value. -/
theorem open_sub {r : Reach} {b0 : Nat} {v : Value} {d : DataW H} {p : List MemPlace} (hv : Value.okWide Try.prog W r b0 36 v) (h : DataW.Trod enc Try.prog W 0 sp held 36 v d p) : ∃ s : Sb, SubIn W s v := by
  obtain ⟨a0, len0, cap0, rfl⟩ := okWide_slice Try.underlying36 hv
  obtain ⟨fuel, hf⟩ := h
  rcases DataW.trod_slice Try.underlying36 hf with ⟨hc, _⟩ | ⟨a, len, cap, elems, rest, n, hfuel, hc, _, _, hlc, hcm, hlen, hel, _, _⟩
  · simp [Value.cells] at hc
    obtain ⟨rfl, rfl, rfl⟩ := hc
    exact ⟨[], SubIn.nil W⟩
  · simp [Value.cells] at hc
    obtain ⟨rfl, rfl, rfl⟩ := hc
    rw [Try.cells42] at hel
    obtain ⟨b, o, spot⟩ := a
    have hone : ∀ i, i < len0 → ∃ (p : Int × Tm) (v : Value), W.cell? ((⟨b, o, spot⟩ : Addr).add (i * 4)) = some (.int .i64 p.1) ∧ W.cell? (((⟨b, o, spot⟩ : Addr).add (i * 4)).add 1) = some (.bool p.2.1.1) ∧ W.cell? (((⟨b, o, spot⟩ : Addr).add (i * 4)).add 2) = some (.int .i64 p.2.1.2) ∧ W.cell? (((⟨b, o, spot⟩ : Addr).add (i * 4)).add 3) = some v ∧ SIn W p.2.2 v := fun i hi => by
      have h1 := hel i hi
      have hi' : i < elems.length := by omega
      rw [List.getElem?_eq_getElem hi'] at h1
      obtain ⟨cs, h2, h3⟩ := Option.bind_eq_some_iff.1 h1
      obtain ⟨_, hl3, hcell⟩ := World.cells?_some h2
      obtain ⟨z, tv, tn, ta, k, rfl, hk⟩ := open_pair h3
      exact ⟨(z, ((tv, tn), k)), ta, by simpa [Addr.add] using hcell 0 (by omega), by simpa using hcell 1 (by omega), by simpa using hcell 2 (by omega), by simpa using hcell 3 (by omega), hk⟩
    by_cases h0 : len0 = 0
    · subst h0
      exact ⟨[], _, cap0, 0, 0, rfl, fun h => by simp at h, Nat.zero_le _, hcm, trivial⟩
    · have hspot : spot = none := by
        obtain ⟨x, v, q0, _⟩ := hone 0 (by omega)
        simpa [Addr.add] using World.cell?_spot q0
      subst hspot
      obtain ⟨s, hs1, hs2⟩ := build_sub (W := W) (b := b) len0 o (fun i hi => by
        obtain ⟨p, v, q0, q1, q2, q3, q4⟩ := hone i hi
        refine ⟨p, v, ?_, ?_, ?_, ?_, q4⟩
        · rw [add_plain] at q0; rw [Nat.mul_comm 4 i]; exact q0
        · rw [add_plain, add_plain] at q1; rw [Nat.mul_comm 4 i]; exact q1
        · rw [add_plain, add_plain] at q2; rw [Nat.mul_comm 4 i]; exact q2
        · rw [add_plain, add_plain] at q3; rw [Nat.mul_comm 4 i]; exact q3)
      exact ⟨s, _, cap0, b, o, by rw [hs1], fun _ => rfl, by omega, hcm, hs2⟩

end

/-- The same bindings, without what is no part of them. -/
def normS (s : Sb) : Sb := s.map fun p => (p.1, (p.2.1, Fo.norm p.2.2))
theorem pin_norm {w : World} : ∀ {s : Sb} {b o : Nat}, PIn w s b o → PIn w (normS s) b o
  | [], _, _, _ => trivial
  | _ :: _, _, _, ⟨h0, h1, h2, ⟨v, h3, h4⟩, h5⟩ => ⟨h0, h1, h2, ⟨v, h3, sin_norm h4⟩, pin_norm h5⟩
theorem sub_norm {w : World} {s : Sb} {v : Value} (h : SubIn w s v) : SubIn w (normS s) v := by
  obtain ⟨a, c, b, o, rfl, h2, h3, h4, h5⟩ := h
  exact ⟨a, c, b, o, by simp [normS], by simpa [normS] using h2, by simpa [normS] using h3, h4, pin_norm h5⟩
theorem normS_norm {s : Sb} : ∀ p ∈ normS s, Fo.norm p.2.2 = p.2.2 := fun p hp => by
  simp only [normS, List.mem_map] at hp
  obtain ⟨q, _, rfl⟩ := hp
  exact norm_norm _

end Go.Proofs.Ytdaebldfmchclab

/- Bound, and within others, it stays: the law's own walk. -/
namespace Go.Proofs.Ytdaebldfmchclab
open Go.RowKit Go.Deep Go.ChangeShapes Go.WideShapes
attribute [local go_sem ↓] Go.wp_at_zero Go.wp_at_succ

/-- Compare, where it is known. -/
theorem cmp_is {wn : World} {x y : Bool × Int} {k l : Fo} {a c : Value} {r : Int} (hr : cmpT (x, k) (y, l) = r) (ga : Gd (x, k)) (gb : Gd (y, l)) (hbk : tszR k ≤ 1000000000000) (hbl : tszR l ≤ 1000000000000) (hS : SIn wn k a) (hU : SIn wn l c) (w' : World) (h : Below wn.heap.size wn w') :
    Calls Try.prog 7 #[.agg #[.bool x.1, .int .i64 x.2, a], .agg #[.bool y.1, .int .i64 y.2, c]] w' fun e w'' => e = .returned (.int .i64 r) ∧ Below w'.heap.size w' w'' := by
  subst hr
  exact cmp_call ga gb hbk hbl hS hU w' h
theorem applyR_call3 {wn : World} {s : Sb} {vs : Value} {x z : Bool × Int} {k zk : Fo} {a : Value} (hV : SubIn wn s vs) (hs : ∀ p ∈ s, Gd p.2) (hS : SIn wn k a) (hok : okT (x, k)) (hnar : narT (x, k)) (hz : (z, zk) = subT (bnd s) (x, k)) (w' : World) (hb : Below wn.heap.size wn w') :
    Calls Try.prog 14 #[vs, .agg #[.bool x.1, .int .i64 x.2, a]] w' fun e w'' => ∃ (x1 : Option Addr) (x2 x3 : Nat), e = .returned (.agg #[.bool z.1, .int .i64 z.2, .slice x1 x2 x3]) ∧ SIn w'' zk (.slice x1 x2 x3) ∧ Below w'.heap.size w' w'' := by
  refine (applyR_any x k s vs wn a w' hb hV (fun p hp => (hs p hp).ok) hS hok hnar).mono ?_
  rintro e w'' ⟨x1, x2, x3, rfl, hSB, hb2⟩
  rw [← hz] at hSB ⊢
  exact ⟨x1, x2, x3, rfl, hSB.toS, hb2⟩
theorem putR_call3 {wn : World} {s : List Int} {p : List Int} {pv : Value} {x y z : Bool × Int} {k l r : Fo} {a c : Value} (hq : putT p (x, k) (y, l) = (z, r)) (hr : Fo.ok r) (hw : walkT s x k 1 = 0) (hS : SIn wn k a) (hU : SIn wn l c) (hN : NIn wn p pv) (hl : Fo.len k ≤ 1000) (hn : Fo.narrow k) (w' : World) (hb : Below wn.heap.size wn w') :
    Calls Try.prog 15 #[.agg #[.bool x.1, .int .i64 x.2, a], pv, .agg #[.bool y.1, .int .i64 y.2, c]] w' fun e w'' => ∃ (a1 : Option Addr) (a2 a3 : Nat), e = .returned (.agg #[.bool z.1, .int .i64 z.2, .slice a1 a2 a3]) ∧ SIn w'' r (.slice a1 a2 a3) ∧ Below w'.heap.size w' w'' := by
  refine (tl_putR hq hw (fun q hq => hq) (hS.below hb).toB (hU.below hb).toB (hN.below hb) hl hn).mono ?_
  rintro e w'' ⟨r', a1, a2, a3, rfl, h1, h2, hb2⟩
  refine ⟨a1, a2, a3, rfl, ?_, hb2⟩
  have := sin_norm h1
  rwa [← h2, ok_norm hr] at this
theorem atR_call3 {wn : World} {s : List Int} {p : List Int} {pv : Value} {x z : Bool × Int} {k m : Fo} {a : Value} (h : atT p x k = some (z, m)) (hw : walkT s x k 1 = 0) (hS : SIn wn k a) (hN : NIn wn p pv) :
    Calls Try.prog 13 #[.agg #[.bool x.1, .int .i64 x.2, a], pv] wn fun e w' => ∃ (a1 : Option Addr) (a2 a3 : Nat), e = .returned (.tuple #[.agg #[.bool z.1, .int .i64 z.2, .slice a1 a2 a3], .bool true]) ∧ SIn w' m (.slice a1 a2 a3) ∧ Below wn.heap.size wn w' := by
  refine (tl_atR (b := true) ⟨h, fun h => by cases h⟩ hw (fun q hq => hq) hS.toB hN).mono ?_
  rintro e w' ⟨a1, a2, a3, rfl, h1, hb⟩
  exact ⟨a1, a2, a3, rfl, h1.toS, hb⟩

/-- Three terms in boxes, one behind the other. -/
structure Bx3 (w : World) (B : Nat) (x y z : Bool × Int) (a c d : Value) : Prop where
  a0 : w.cell? ⟨B, 0, none⟩ = some (.bool x.1)
  a1 : w.cell? ⟨B, 1, none⟩ = some (.int .i64 x.2)
  a2 : w.cell? ⟨B, 2, none⟩ = some a
  b0 : w.cell? ⟨B + 1, 0, none⟩ = some (.bool y.1)
  b1 : w.cell? ⟨B + 1, 1, none⟩ = some (.int .i64 y.2)
  b2 : w.cell? ⟨B + 1, 2, none⟩ = some c
  c0 : w.cell? ⟨B + 1 + 1, 0, none⟩ = some (.bool z.1)
  c1 : w.cell? ⟨B + 1 + 1, 1, none⟩ = some (.int .i64 z.2)
  c2 : w.cell? ⟨B + 1 + 1, 2, none⟩ = some d
theorem Bx3.below {w w' : World} {B : Nat} {x y z : Bool × Int} {a c d : Value} (h : Bx3 w B x y z a c d) (hb : Below w.heap.size w w') : Bx3 w' B x y z a c d :=
  ⟨grow_cell hb _ _ h.a0, grow_cell hb _ _ h.a1, grow_cell hb _ _ h.a2, grow_cell hb _ _ h.b0, grow_cell hb _ _ h.b1, grow_cell hb _ _ h.b2, grow_cell hb _ _ h.c0, grow_cell hb _ _ h.c1, grow_cell hb _ _ h.c2⟩
theorem Bx3.new (w : World) (x y z : Bool × Int) (a c d : Value) : Bx3 (((w.alloc (.cells #[.bool x.1, .int .i64 x.2, a] 26)).alloc (.cells #[.bool y.1, .int .i64 y.2, c] 26)).alloc (.cells #[.bool z.1, .int .i64 z.2, d] 26)) w.heap.size x y z a c d := by
  refine ⟨?_, ?_, ?_, ?_, ?_, ?_, ?_, ?_, ?_⟩
  · rw [World.cell?_alloc_lt _ _ _ (by rw [size2]; simp only; omega), World.cell?_alloc_lt _ _ _ (by simp)]; exact new_cell rfl
  · rw [World.cell?_alloc_lt _ _ _ (by rw [size2]; simp only; omega), World.cell?_alloc_lt _ _ _ (by simp)]; exact new_cell rfl
  · rw [World.cell?_alloc_lt _ _ _ (by rw [size2]; simp only; omega), World.cell?_alloc_lt _ _ _ (by simp)]; exact new_cell rfl
  · rw [World.cell?_alloc_lt _ _ _ (by rw [size2]; simp only; omega)]; exact new_cell (World.size_alloc _ _)
  · rw [World.cell?_alloc_lt _ _ _ (by rw [size2]; simp only; omega)]; exact new_cell (World.size_alloc _ _)
  · rw [World.cell?_alloc_lt _ _ _ (by rw [size2]; simp only; omega)]; exact new_cell (World.size_alloc _ _)
  · exact new_cell (by rw [size2])
  · exact new_cell (by rw [size2])
  · exact new_cell (by rw [size2])

set_option maxRecDepth 100000 in
set_option maxHeartbeats 4000000 in
theorem orderStays_any (s : List Int) (sv : Value) (x : Bool × Int) (k : Fo) (a : Value) (y : Bool × Int) (l : Fo) (c : Value) (z : Bool × Int) (m : Fo) (d : Value) (by_ : Sb) (vs : Value) (n : Int) (w : World) (hN : NIn w s sv) (hS : SIn w k a) (hU : SIn w l c) (hM : SIn w m d) (hV : SubIn w by_ vs) (hk : Fo.norm k = k) (hl : Fo.norm l = l) (hm : Fo.norm m = m) (hb : ∀ p ∈ by_, Fo.norm p.2.2 = p.2.2) :
    Calls Try.prog 5 #[sv, .agg #[.bool x.1, .int .i64 x.2, a], .agg #[.bool y.1, .int .i64 y.2, c], .agg #[.bool z.1, .int .i64 z.2, d], vs, .int .i64 n] w (LawPost3 w) := by
  obtain ⟨xv, xn⟩ := x
  obtain ⟨yv, yn⟩ := y
  obtain ⟨zv, zn⟩ := z
  have HN := hide hN
  have HS := hide hS
  have HU := hide hU
  have HM := hide hM
  have HV := hide hV
  have Hk := hide hk
  have Hl := hide hl
  have Hm := hide hm
  have Hb := hide hb
  obtain ⟨sa, sc, sb, so, rfl, -, -, -, -⟩ := hN
  obtain ⟨ad, ac, b, o, rfl, -, -, -, -⟩ := hS
  obtain ⟨ud, uc, ub, uo, rfl, -, -, -, -⟩ := hU
  obtain ⟨md, mc, mb, mo, rfl, -, -, -, -⟩ := hM
  obtain ⟨vd, vc, vb, vo, rfl, hvd, hvlc, hvcm, hP⟩ := hV
  have HP := hide hP
  have Hvd := hide hvd
  unfold maxLen at hvcm
  clear hk hl hm hb hP hvd
  go_enter Try.func5, Try.ntmps5
  go_wp2_with fail
  generalize hW3 : ((w.alloc (.cells #[.bool xv, .int .i64 xn, .slice ad (Fo.len k) ac] 26)).alloc (.cells #[.bool yv, .int .i64 yn, .slice ud (Fo.len l) uc] 26)).alloc (.cells #[.bool zv, .int .i64 zn, .slice md (Fo.len m) mc] 26) = W3
  have hB3 : Below w.heap.size w W3 := by rw [← hW3]; exact ((below_alloc _ _).alloc (by simp) _).alloc (by rw [size2]; omega) _
  have HX : Hid (Bx3 W3 w.heap.size (xv, xn) (yv, yn) (zv, zn) (.slice ad (Fo.len k) ac) (.slice ud (Fo.len l) uc) (.slice md (Fo.len m) mc)) := by rw [← hW3]; exact Bx3.new w (xv, xn) (yv, yn) (zv, zn) _ _ _
  clear hW3
  refine (alive3_any W3).mono ?_
  rintro e w4 ⟨rfl, hb4⟩
  have hB4 := below_step hB3 hb4
  replace HX := hide (HX.out.below hb4)
  obtain ⟨a0, a1, a2, b0, b1, b2, c0, c1, c2⟩ := HX.out
  clear hb4 hB3
  go_wp2_with fail
  refine (right3_any s _ (three ((xv, xn), k) ((yv, yn), l) ((zv, zn), m)) _ _ ((HN.out.below hB4).alloc _) (three_in (t := ((xv, xn), k)) (u := ((yv, yn), l)) (v := ((zv, zn), m)) (HS.out.below hB4) (HU.out.below hB4) (HM.out.below hB4))).mono ?_
  rintro e w5 ⟨rfl, hb5⟩
  have hB45 := below_box hb5
  have HB5 := hide (below_step hB4 hB45)
  replace HX := hide (HX.out.below hB45)
  clear a0 a1 a2 b0 b1 b2 c0 c1 c2 hb5 hB45 hB4
  cases hr : rightB s (three ((xv, xn), k) ((yv, yn), l) ((zv, zn), m))
  · clear hr
    go_wp2_with fail
    go_ret
    exact ⟨rfl, HB5.out⟩
  obtain ⟨hsn, hw1, hw2, hw3⟩ := right_three hr
  have Hg1 := hide (gd_right hsn Hk.out hw1)
  have Hg2 := hide (gd_right hsn Hl.out hw2)
  have Hg3 := hide (gd_right hsn Hm.out hw3)
  have Hr1 := hide (right_of hsn hw1)
  have Hr3 := hide (right_of hsn hw3)
  have Hsn := hide hsn
  obtain ⟨Z, hZ⟩ : ∃ Z, Z = placesT (xv, xn) k [] := ⟨_, rfl⟩
  have HZ := hide hZ
  obtain ⟨a0, a1, a2, b0, b1, b2, c0, c1, c2⟩ := HX.out
  clear hr hsn hw1 hw2 hw3 hZ
  go_wp2_with fail
  refine (tl_placesR (x := (xv, xn)) HZ.out (HS.out.below HB5.out) Hr1.out.1).mono ?_
  rintro e w6 ⟨z1, z3, rfl, hZin, hb6⟩
  have HB6 := hide (below_step HB5.out hb6)
  replace HX := hide (HX.out.below hb6)
  have HZin := hide hZin
  obtain ⟨za, zc, zb, hze, hzd, hzc, hzm, hzi⟩ := hZin
  simp only [Value.slice.injEq, true_and] at hze
  obtain ⟨rfl, rfl⟩ := hze
  have Hzd := hide hzd
  have Hzi := hide hzi
  unfold maxLen at hzm
  clear a0 a1 a2 b0 b1 b2 c0 c1 c2 hb6 hzd hzi
  go_wp2_with fail
  go_loopw [32] (fun i wr => ∃ j : Nat, j ≤ Z.length ∧ i = .int .i64 j ∧ Below w6.heap.size w6 wr) (fun i _ => Z.length - (intOf i).toNat)
  case atStart => exact ⟨0, Nat.zero_le _, rfl, Below.refl _ _⟩
  case round =>
    obtain ⟨j, hj, rfl, hBr⟩ := hrel
    have HBr6 := hide hBr
    have HBr := hide (below_step HB6.out hBr)
    have HXr := hide (HX.out.below hBr)
    obtain ⟨a0, a1, a2, b0, b1, b2, c0, c1, c2⟩ := HXr.out
    by_cases hlt : j < Z.length
    · have hlt' : (j : Int) < (Z.length : Int) := by omega
      obtain ⟨p, hp⟩ : ∃ p, Z[j]? = some p := ⟨Z[j], by simp [hlt]⟩
      obtain ⟨pv, hpc, hpn⟩ := Hzi.out j p hp
      have hpc' := grow_cell hBr _ _ hpc
      have HpN := hide (hpn.below hBr)
      have e1 := Hzd.out (by omega)
      subst e1
      obtain ⟨p1, p3, rfl⟩ := nin_slice hpn
      obtain ⟨⟨⟨tv, tn⟩, tk⟩, hat, -⟩ := place_sym (HZ.out ▸ List.mem_of_getElem? hp)
      have Hat := hide hat
      have Hp := hide hp
      have Hgt := hide (gd_at Hg1.out.1 hat)
      have Hszt : Hid (tszR tk ≤ 12) := Nat.le_trans (at_less hat).1 Hg1.out.2.2
      clear hpc hpn hat hp hBr b0 b1 b2 c0 c1 c2
      go_wp2_with fail
      refine (atR_call3 Hat.out Hr1.out.2.2.2.2 (HS.out.below HBr.out) HpN.out).mono ?_
      rintro e w7 ⟨t1, t2, t3, rfl, hSt, hb7⟩
      replace a0 := grow_cell hb7 _ _ a0
      replace a1 := grow_cell hb7 _ _ a1
      replace a2 := grow_cell hb7 _ _ a2
      go_upto_region 9 with fail
      generalize hw8 : w7.alloc (.cells #[.bool tv, .int .i64 tn, .slice t1 t2 t3] 26) = w8
      have hb8 : Below w7.heap.size w7 w8 := by rw [← hw8]; exact below_alloc _ _
      have g0 : w8.cell? ⟨w7.heap.size, 0, none⟩ = some (.bool tv) := by rw [← hw8]; exact new_cell rfl
      have g1 : w8.cell? ⟨w7.heap.size, 1, none⟩ = some (.int .i64 tn) := by rw [← hw8]; exact new_cell rfl
      have g2 : w8.cell? ⟨w7.heap.size, 2, none⟩ = some (.slice t1 t2 t3) := by rw [← hw8]; exact new_cell rfl
      replace a0 := grow_cell hb8 _ _ a0
      replace a1 := grow_cell hb8 _ _ a1
      replace a2 := grow_cell hb8 _ _ a2
      have HSt := hide (hSt.below hb8)
      have HB8 := hide (below_step (below_step HBr6.out hb7) hb8)
      clear hSt hb7 hb8 hw8 HXr
      by_cases hj0 : 0 < j
      · have hj0' : (0 : Int) < (j : Int) := by omega
        have Hc : Hid (cmpT ((xv, xn), k) ((tv, tn), tk) = 3) := cmp_more Hg1.out.1.ok Hgt.out.ok (abv_part Hgt.out.ok Hat.out (place_ne (HZ.out ▸ Hp.out) hj0))
        have HcC := hide (cmp_is Hc.out Hg1.out.1 Hgt.out (by have := Hg1.out.2.2; omega) (by have := Hszt.out; omega) (HS.out.below (below_step HB6.out HB8.out)) HSt.out _ (Below.refl _ _))
        clear hj0
        go_wp2_with fail
        refine HcC.out.mono ?_
        rintro e w9 ⟨rfl, hb9⟩
        have HB9 := hide (below_step HB8.out hb9)
        clear hb9
        go_wp2_with fail
        go_roundw
        case rel => exact ⟨j + 1, by omega, by go_num, HB9.out⟩
        case measure => simp [intOf]; omega
      · have hj0' : j = 0 := by omega
        subst hj0'
        go_wp2_with fail
        go_roundw
        case rel => exact ⟨1, by omega, by go_num, HB8.out⟩
        case measure => simp [intOf]; omega
    · have hge : ¬ (j : Int) < (Z.length : Int) := by omega
      have HcC := hide (cmp_call Hg1.out.1 Hg2.out.1 (by have := Hg1.out.2.2; omega) (by have := Hg2.out.2.2; omega) (HS.out.below HBr.out) (HU.out.below HBr.out) _ (Below.refl _ _))
      obtain ⟨C, hC⟩ : ∃ C, cmpT ((xv, xn), k) ((yv, yn), l) = C := ⟨_, rfl⟩
      rw [hC] at HcC
      have HC := hide hC
      clear hBr hC HX HBr6 Hzi HZin Hzd
      go_wp2_with fail
      refine HcC.out.mono ?_
      rintro e w7 ⟨rfl, hb7⟩
      have HB7 := hide (below_step HBr.out hb7)
      replace HXr := hide (HXr.out.below hb7)
      clear a0 a1 a2 b0 b1 b2 c0 c1 c2 hb7
      by_cases hC3 : ¬ C = 3
      · have hC3' : (C != 3) = true := by simpa using hC3
        clear hC3
        go_wp2_with fail
        go_ret
        exact ⟨rfl, HB7.out⟩
      have hC3' : C = 3 := Decidable.not_not.1 hC3
      have HA : Hid (abvT ((xv, xn), k) ((yv, yn), l) = true) := more_cmp (HC.out.trans hC3')
      subst hC3'
      clear hC3 HC
      go_wp2_with fail
      go_loopw [58] (fun i wr => ∃ j : Nat, j ≤ by_.length ∧ i = .int .i64 j ∧ (∀ q p, q < j → by_[q]? = some p → Gd p.2 ∧ szT p.2 ≤ 12) ∧ Below w7.heap.size w7 wr) (fun i _ => by_.length - (intOf i).toNat)
      case atStart => exact ⟨0, Nat.zero_le _, rfl, fun q _ hq => by omega, Below.refl _ _⟩
      case round =>
        obtain ⟨j', hj', rfl, hall, hBr7⟩ := hrel
        have Hall := hide hall
        have HBr7 := hide hBr7
        have HBs := hide (below_step HB7.out hBr7)
        clear hall hBr7
        by_cases hlt2 : j' < by_.length
        · have hlt2' : (j' : Int) < (by_.length : Int) := by omega
          obtain ⟨⟨g, ⟨tv, tn⟩, tk⟩, hy⟩ : ∃ y, by_[j']? = some y := ⟨by_[j'], by simp [hlt2]⟩
          obtain ⟨d0, d1, d2, tv', d3, hSy⟩ := (HP.out.below HBs.out).at hy
          have HSy := hide hSy
          obtain ⟨ya, yc, yb, yo, rfl, -, -, -, -⟩ := hSy
          have ha := Hvd.out (by omega)
          subst ha
          have Hy := hide hy
          have Hnk : Hid (Fo.norm tk = tk) := Hb.out _ (List.mem_of_getElem? hy)
          clear hy
          go_wp2_with fail
          refine (right3_any s _ (one1 ((tv, tn), tk)) _ _ (((HN.out.below HBs.out).alloc _).alloc _) ?_).mono ?_
          · have h := one_in (w := wr.alloc (.cells #[.int .i64 g, .bool tv, .int .i64 tn, .slice ya (Fo.len tk) yc] 42)) (t := ((tv, tn), tk)) (a := .slice ya (Fo.len tk) yc) (HSy.out.alloc _)
            rw [World.size_alloc] at h
            exact h
          rintro e w8 ⟨rfl, hb8⟩
          have hb8' := below_box (below_box hb8)
          have HB8 := hide (below_step HBs.out hb8')
          have HB78 := hide (below_step HBr7.out hb8')
          cases hr : rightB s (one1 ((tv, tn), tk))
          · clear hr hb8 hb8'
            go_wp2_with fail
            go_ret
            exact ⟨rfl, HB8.out⟩
          · obtain ⟨hsn, hwr⟩ := right_one hr
            have Hall2 : Hid (∀ q p, q < j' + 1 → by_[q]? = some p → Gd p.2 ∧ szT p.2 ≤ 12) := fun q p hq hp => by
              by_cases e : q = j'
              · subst e
                rw [Hy.out] at hp
                cases hp
                have h := gd_right hsn Hnk.out hwr
                exact ⟨h.1, h.2.2⟩
              · exact Hall.out q p (by omega) hp
            clear hr hb8 hb8' hsn hwr
            go_wp2_with fail
            go_roundw
            case rel => exact ⟨j' + 1, by omega, by go_num, Hall2.out, HB78.out⟩
            case measure => simp [intOf]; omega
        · have hge2 : ¬ (j' : Int) < (by_.length : Int) := by omega
          have Hgd : Hid (∀ p ∈ by_, Gd p.2 ∧ szT p.2 ≤ 12) := fun p hp => by
            obtain ⟨i, hi, e⟩ := List.mem_iff_getElem.1 hp
            exact Hall.out i p (by omega) (by rw [List.getElem?_eq_getElem hi, e])
          have Hgd1 : Hid (∀ p ∈ by_, Gd p.2) := fun p hp => (Hgd.out p hp).1
          obtain ⟨⟨⟨pv, pn⟩, pk⟩, hp⟩ : ∃ z, z = subT (bnd by_) ((xv, xn), k) := ⟨_, rfl⟩
          obtain ⟨⟨⟨qv, qn⟩, qk⟩, hq⟩ : ∃ z, z = subT (bnd by_) ((yv, yn), l) := ⟨_, rfl⟩
          have Hgp : Hid (Gd ((pv, pn), pk)) := by rw [Hid, hp]; exact gd_sub Hgd1.out Hg1.out.1
          have Hgq : Hid (Gd ((qv, qn), qk)) := by rw [Hid, hq]; exact gd_sub Hgd1.out Hg2.out.1
          have Hzp : Hid (tszR pk ≤ 1000) := by have := sub_szT (fun p hp => (Hgd.out p hp).2) Hg1.out.1 Hg1.out.2.2; rw [← hp] at this; exact this
          have Hzq : Hid (tszR qk ≤ 1000) := by have := sub_szT (fun p hp => (Hgd.out p hp).2) Hg2.out.1 Hg2.out.2.2; rw [← hq] at this; exact this
          have Hpq : Hid (cmpT ((pv, pn), pk) ((qv, qn), qk) = 3) := by
            refine cmp_more Hgp.out.ok Hgq.out.ok ?_
            rw [hp, hq]
            exact abv_sub (bnd_ok fun p hp => (Hgd1.out p hp).ok) _ rfl Hg1.out.1 Hg2.out.1 HA.out
          have HcA := hide (fun w' hb => applyR_call3 (HV.out.below HBs.out) Hgd1.out (HS.out.below HBs.out) Hg1.out.1.ok Hg1.out.1.nar hp w' hb)
          have HcB := hide (fun w' hb => applyR_call3 (HV.out.below HBs.out) Hgd1.out (HU.out.below HBs.out) Hg2.out.1.ok Hg2.out.1.nar hq w' hb)
          have HcC := hide (fun (w' : World) (p1 : Option Addr) (p2 p3 : Nat) (q1 : Option Addr) (q2 q3 : Nat) (h1 : SIn w' pk (.slice p1 p2 p3)) (h2 : SIn w' qk (.slice q1 q2 q3)) => cmp_is Hpq.out Hgp.out Hgq.out (by have := Hzp.out; omega) (by have := Hzq.out; omega) h1 h2 w' (Below.refl _ _))
          have HXs := hide (HXr.out.below HBr7.out)
          obtain ⟨a0, a1, a2, b0, b1, b2, c0, c1, c2⟩ := HXs.out
          have hcur : Below wr.heap.size wr wr.drew := (Below.refl _ _).drew
          clear hp hq Hall HXr
          go_upto_region 20 with fail
          go_cut [76] (fun s76 wx => s76 = .bool false ∧ Below wr.heap.size wr wx)
          case first =>
            go_region_held3 (fun w' => w'.cell? ⟨w.heap.size, 0, none⟩ = some (.bool xv) ∧ w'.cell? ⟨w.heap.size, 1, none⟩ = some (.int .i64 xn) ∧ w'.cell? ⟨w.heap.size, 2, none⟩ = some (.slice ad (Fo.len k) ac) ∧ w'.cell? ⟨w.heap.size + 1, 0, none⟩ = some (.bool yv) ∧ w'.cell? ⟨w.heap.size + 1, 1, none⟩ = some (.int .i64 yn) ∧ w'.cell? ⟨w.heap.size + 1, 2, none⟩ = some (.slice ud (Fo.len l) uc))
              (first
                | (with_reducible exact ⟨grow_cell hcur _ _ a0, grow_cell hcur _ _ a1, grow_cell hcur _ _ a2, grow_cell hcur _ _ b0, grow_cell hcur _ _ b1, grow_cell hcur _ _ b2⟩)
                | go_keep)
              (first
                | (go_at_call 14; with_reducible refine (HcA.out _ hcur).mono ?_; rintro e wA ⟨p1, p2, p3, rfl, hSp, hbA⟩; replace hcur := below_step hcur hbA; (try (have hSq' := hSq.below hbA)))
                | (go_at_call 14; with_reducible refine (HcB.out _ hcur).mono ?_; rintro e wB ⟨q1, q2, q3, rfl, hSq, hbB⟩; replace hcur := below_step hcur hbB; (try (have hSp' := hSp.below hbB)))
                | (go_at_call 7; with_reducible refine (HcC.out _ _ _ _ _ _ _ hSp' hSq).mono ?_; rintro e wC ⟨rfl, hbC⟩; replace hcur := below_step hcur hbC)
                | (go_at_call 7; with_reducible refine (HcC.out _ _ _ _ _ _ _ hSp hSq').mono ?_; rintro e wC ⟨rfl, hbC⟩; replace hcur := below_step hcur hbC))
            all_goals
              go_wp2_with fail
              go_meet
              case rel => exact ⟨rfl, hcur⟩
          case rest =>
            obtain ⟨rfl, hbx⟩ := hcut
            generalize wc = wx at *
            have HBx := hide (below_step HBs.out hbx)
            have HXx := hide (HXs.out.below hbx)
            obtain ⟨Y, hY⟩ : ∃ Y, Y = placesT (zv, zn) m [] := ⟨_, rfl⟩
            have HY := hide hY
            clear hY hcur a0 a1 a2 b0 b1 b2 c0 c1 c2 HXs HcA HcB HcC hbx
            obtain ⟨a0, a1, a2, b0, b1, b2, c0, c1, c2⟩ := HXx.out
            go_wp2_with fail
            refine (tl_placesR (x := (zv, zn)) HY.out (HM.out.below HBx.out) Hr3.out.1).mono ?_
            rintro e w9 ⟨y1, y3, rfl, hYin, hb9⟩
            have HB9 := hide (below_step HBx.out hb9)
            have HX9 := hide (HXx.out.below hb9)
            obtain ⟨ya, yc, yb, hye, hyd, hyc, hym, hyi⟩ := hYin
            simp only [Value.slice.injEq, true_and] at hye
            obtain ⟨rfl, rfl⟩ := hye
            have Hyd := hide hyd
            have Hyi := hide hyi
            unfold maxLen at hym
            clear a0 a1 a2 b0 b1 b2 c0 c1 c2 hb9 hyd hyi HXx
            by_cases hn0 : n < 0
            · go_wp2_with fail
              go_quiet (fail)
              go_wp2_with fail
              go_ret
              exact ⟨rfl, below_drewN HB9.out _⟩
            have hd0 : decide (n < 0) = false := decide_eq_false hn0
            by_cases hn1 : (Y.length : Int) ≤ n
            · clear hn0
              go_wp2_with fail
              go_quiet (fail)
              go_wp2_with fail
              go_ret
              exact ⟨rfl, below_drewN HB9.out _⟩
            obtain ⟨nn, rfl⟩ : ∃ nn : Nat, n = (nn : Int) := ⟨n.toNat, by omega⟩
            have hn1' : (nn : Int) < (Y.length : Int) := by omega
            have hn0' : (0 : Int) ≤ (nn : Int) := by omega
            have hd1 : decide ((Y.length : Int) ≤ (nn : Int)) = false := decide_eq_false hn1
            have hd2 : decide (Y.length ≤ nn) = false := decide_eq_false (by omega)
            have hd3 : ¬ Y.length ≤ nn := by omega
            obtain ⟨p, hp⟩ : ∃ p, Y[nn]? = some p := ⟨Y[nn]'(by omega), by simp⟩
            obtain ⟨pc, hpc, hpn⟩ := Hyi.out nn p hp
            have HpN := hide hpn
            obtain ⟨p1, p3, rfl⟩ := nin_slice hpn
            have e1 := Hyd.out (by omega)
            subst e1
            obtain ⟨t0, hat, -⟩ := place_sym (HY.out ▸ List.mem_of_getElem? hp)
            obtain ⟨⟨⟨fv, fn⟩, fk⟩, hf⟩ : ∃ z, putT p ((zv, zn), m) ((xv, xn), k) = z := ⟨_, rfl⟩
            obtain ⟨⟨⟨gv, gn⟩, gk⟩, hg⟩ : ∃ z, putT p ((zv, zn), m) ((yv, yn), l) = z := ⟨_, rfl⟩
            have hgf := gd_put Hg1.out.1 Hg3.out.1 hat
            have hgg := gd_put Hg2.out.1 Hg3.out.1 hat
            have hfg := abv_put Hg1.out.1.ok Hg2.out.1.ok HA.out Hg3.out.1.ok hat
            rw [hf] at hgf hfg
            rw [hg] at hgg hfg
            have Hzf : Hid (tszR fk ≤ 1000) := by
              have h1 : szT ((fv, fn), fk) ≤ szT ((zv, zn), m) + szT ((xv, xn), k) := hgf.2
              have h2 : szT ((zv, zn), m) ≤ 12 := Hg3.out.2.2
              have h3 : szT ((xv, xn), k) ≤ 12 := Hg1.out.2.2
              show szT ((fv, fn), fk) ≤ 1000
              omega
            have Hzg : Hid (tszR gk ≤ 1000) := by
              have h1 : szT ((gv, gn), gk) ≤ szT ((zv, zn), m) + szT ((yv, yn), l) := hgg.2
              have h2 : szT ((zv, zn), m) ≤ 12 := Hg3.out.2.2
              have h3 : szT ((yv, yn), l) ≤ 12 := Hg2.out.2.2
              show szT ((gv, gn), gk) ≤ 1000
              omega
            have Hgf := hide hgf.1
            have Hgg := hide hgg.1
            have Hfg : Hid (cmpT ((fv, fn), fk) ((gv, gn), gk) = 3) := cmp_more Hgf.out.ok Hgg.out.ok hfg
            have HcP := hide (fun w' hb => putR_call3 hf Hgf.out.ok.2 Hr3.out.2.2.2.2 (HM.out.below HB9.out) (HS.out.below HB9.out) HpN.out (by have := Hr3.out.2.2.1; omega) Hr3.out.2.2.2.1 w' hb)
            have HcQ := hide (fun w' hb => putR_call3 hg Hgg.out.ok.2 Hr3.out.2.2.2.2 (HM.out.below HB9.out) (HU.out.below HB9.out) HpN.out (by have := Hr3.out.2.2.1; omega) Hr3.out.2.2.2.1 w' hb)
            have HcC := hide (fun (w' : World) (p1 : Option Addr) (p2 p3 : Nat) (q1 : Option Addr) (q2 q3 : Nat) (h1 : SIn w' fk (.slice p1 p2 p3)) (h2 : SIn w' gk (.slice q1 q2 q3)) => cmp_is Hfg.out Hgf.out Hgg.out (by have := Hzf.out; omega) (by have := Hzg.out; omega) h1 h2 w' (Below.refl _ _))
            obtain ⟨a0, a1, a2, b0, b1, b2, c0, c1, c2⟩ := HX9.out
            have hcur : Below w9.heap.size w9 w9.drew := (Below.refl _ _).drew
            clear hp hpn hat hf hg hgf hgg hfg hn0 hn1
            go_upto_region 23 with fail
            go_region_held3 (fun w' => w'.cell? ⟨w.heap.size, 0, none⟩ = some (.bool xv) ∧ w'.cell? ⟨w.heap.size, 1, none⟩ = some (.int .i64 xn) ∧ w'.cell? ⟨w.heap.size, 2, none⟩ = some (.slice ad (Fo.len k) ac) ∧ w'.cell? ⟨w.heap.size + 1, 0, none⟩ = some (.bool yv) ∧ w'.cell? ⟨w.heap.size + 1, 1, none⟩ = some (.int .i64 yn) ∧ w'.cell? ⟨w.heap.size + 1, 2, none⟩ = some (.slice ud (Fo.len l) uc) ∧ w'.cell? ⟨w.heap.size + 1 + 1, 0, none⟩ = some (.bool zv) ∧ w'.cell? ⟨w.heap.size + 1 + 1, 1, none⟩ = some (.int .i64 zn) ∧ w'.cell? ⟨w.heap.size + 1 + 1, 2, none⟩ = some (.slice md (Fo.len m) mc) ∧ w'.cell? ⟨yb, nn, none⟩ = some (.slice p1 p.length p3))
              (first
                | (with_reducible exact ⟨grow_cell hcur _ _ a0, grow_cell hcur _ _ a1, grow_cell hcur _ _ a2, grow_cell hcur _ _ b0, grow_cell hcur _ _ b1, grow_cell hcur _ _ b2, grow_cell hcur _ _ c0, grow_cell hcur _ _ c1, grow_cell hcur _ _ c2, grow_cell hcur _ _ hpc⟩)
                | go_keep)
              (first
                | (go_at_call 15; with_reducible refine (HcP.out _ hcur).mono ?_; rintro e wA ⟨f1, f2, f3, rfl, hSp, hbA⟩; replace hcur := below_step hcur hbA; (try (have hSq' := hSq.below hbA)))
                | (go_at_call 15; with_reducible refine (HcQ.out _ hcur).mono ?_; rintro e wB ⟨g1, g2, g3, rfl, hSq, hbB⟩; replace hcur := below_step hcur hbB; (try (have hSp' := hSp.below hbB)))
                | (go_at_call 7; with_reducible refine (HcC.out _ _ _ _ _ _ _ hSp' hSq).mono ?_; rintro e wC ⟨rfl, hbC⟩; replace hcur := below_step hcur hbC)
                | (go_at_call 7; with_reducible refine (HcC.out _ _ _ _ _ _ _ hSp hSq').mono ?_; rintro e wC ⟨rfl, hbC⟩; replace hcur := below_step hcur hbC))
            all_goals
              have Hend := hide (below_step HB9.out hcur)
              clear hcur
              go_wp2_with fail
              go_ret
              exact ⟨rfl, Hend.out⟩

end Go.Proofs.Ytdaebldfmchclab

/- A region that draws its order, by an invariant: what is done so far, and what is known then. -/
namespace Go.Proofs.Ytdaebldfmchclab
open Go.RowKit

theorem countP_less {α : Type} {f g : α → Bool} {i : α} : ∀ {l : List α}, (∀ x, g x = true → f x = true) → i ∈ l → f i = true → g i = false → l.countP g < l.countP f
  | [], _, h, _, _ => by cases h
  | y :: r, hfg, h, hf, hg => by
    have hle : r.countP g ≤ r.countP f := List.countP_mono_left (fun x _ hx => hfg x hx)
    rw [List.countP_cons, List.countP_cons]
    rcases List.mem_cons.1 h with rfl | h
    · rw [hf, hg]; simp; omega
    · have := countP_less (l := r) hfg h hf hg
      by_cases hy : g y = true
      · rw [hy, hfg y hy]; simp; omega
      · have : g y = false := by simpa using hy
        rw [this]
        simp only [Bool.false_eq_true, if_false]
        split <;> omega
theorem getD_set (l : Array Bool) (i j : Nat) (d : Bool) (hi : i < l.size) : (l.setIfInBounds i true).getD j d = (j == i || l.getD j d) := by
  by_cases e : j = i
  · subst e
    simp [Array.getD_eq_getD_getElem?, hi]
  · have e' : (j == i) = false := by simpa using e
    rw [e']
    simp only [Array.getD_eq_getD_getElem?, Array.getElem?_setIfInBounds, Bool.false_or]
    rw [if_neg (fun h => e h.symm)]
theorem getD_in (l : Array Bool) (j : Nat) (hj : j < l.size) (d d' : Bool) : l.getD j d = l.getD j d' := by
  simp [Array.getD_eq_getD_getElem?, hj]

section
variable {P : Program} {ops : Array Oper} {Q : Exit → Act → World → Prop} {md : Region.Mode}

/-- No edge leads forward. -/
def Region.back (ops : Array Oper) : Bool := (List.range ops.size).all fun i => ((ops[i]?).map (·.after.all fun e => decide (e.on < i))).getD true

theorem all_listed {listed : Array Bool} (hs : listed.size = ops.size) (hb : Region.back ops = true) (hr : Region.ready md ops listed = []) : ∀ i, i < ops.size → listed.getD i false = true := by
  intro i
  induction i using Nat.strongRecOn with
  | _ i ih =>
    intro hi
    by_cases h : listed.getD i false = true
    · exact h
    · exfalso
      have h0 : listed.getD i true = false := by
        rw [getD_in listed i (by omega) true false]
        simpa using h
      have ho : ops[i]? = some ops[i] := by simp [hi]
      have hm : i ∈ Region.ready md ops listed := by
        unfold Region.ready
        rw [List.mem_filter]
        refine ⟨List.mem_range.2 hi, ?_⟩
        rw [h0, ho]
        simp only [Bool.not_false, Bool.true_and, Option.map_some, Option.getD_some]
        rw [Array.all_eq_true']
        intro e he
        have h1 := List.all_eq_true.1 hb i (List.mem_range.2 hi)
        rw [ho] at h1
        simp only [Option.map_some, Option.getD_some] at h1
        rw [Array.all_eq_true'] at h1
        have h2 := of_decide_eq_true (h1 e he)
        rw [ih e.on h2 (by omega)]
        simp
      rw [hr] at hm
      cases hm

theorem wpAny_inv {Inv : (Nat → Bool) → Act → World → Prop} (hb : Region.back ops = true)
    (hstep : ∀ (D : Nat → Bool) (a : Act) (w : World) (i : Nat) (o : Oper), i < ops.size → Inv D a w → D i = false → ops[i]? = some o → (∀ e ∈ o.after, Region.binds md e = true → D e.on = true) → wpOp P ops Q i (Inv fun j => j == i || D j) a w)
    (hdone : ∀ (D : Nat → Bool) (a : Act) (w : World), Inv D a w → (∀ i, i < ops.size → D i = true) → Q .normal a w) :
    ∀ (fuel : Nat) (listed : Array Bool) (a : Act) (w : World), listed.size = ops.size → (List.range ops.size).countP (fun i => !listed.getD i false) ≤ fuel → Inv (fun j => listed.getD j false) a w → wpAny P md ops Q fuel listed a w := by
  intro fuel
  induction fuel with
  | zero =>
    intro listed a w hs hc hI
    have hall : ∀ i, i < ops.size → listed.getD i false = true := fun i hi => by
      have h0 : (List.range ops.size).countP (fun i => !listed.getD i false) = 0 := by omega
      rw [List.countP_eq_zero] at h0
      simpa using h0 i (List.mem_range.2 hi)
    refine ⟨?_, hdone _ a w hI hall⟩
    unfold Region.ready
    rw [List.filter_eq_nil_iff]
    intro i hi
    have hi' := List.mem_range.1 hi
    rw [getD_in listed i (by omega) true false, hall i hi']
    simp
  | succ fuel ih =>
    intro listed a w hs hc hI
    refine ⟨fun hr => hdone _ a w hI (all_listed hs hb hr), fun i hi => ?_⟩
    unfold Region.ready at hi
    rw [List.mem_filter] at hi
    obtain ⟨hi1, hi2⟩ := hi
    have hi' := List.mem_range.1 hi1
    have ho : ops[i]? = some ops[i] := by simp [hi']
    rw [ho] at hi2
    simp only [Option.map_some, Option.getD_some, Bool.and_eq_true, Bool.not_eq_true'] at hi2
    obtain ⟨h1, h2⟩ := hi2
    have h1' : listed.getD i false = false := by rw [getD_in listed i (by omega) false true]; exact h1
    have := hstep _ a w i _ hi' hI h1' ho (fun e he hbd => by
      rw [Array.all_eq_true'] at h2
      have := h2 e he
      rw [hbd] at this
      simpa using this)
    refine wpOp_mono (fun a' w' h => ?_) this
    refine ih _ a' w' (by simp [hs]) ?_ ?_
    · have hlt := countP_less (i := i) (f := fun j => !listed.getD j false) (g := fun j => !(listed.setIfInBounds i true).getD j false) (l := List.range ops.size) (fun x hx => by
        rw [getD_set _ _ _ _ (by omega)] at hx
        simp at hx
        simp [hx.2]) hi1 (by simp [h1']) (by rw [getD_set _ _ _ _ (by omega)]; simp)
      omega
    · have e : (fun j => (listed.setIfInBounds i true).getD j false) = fun j => j == i || listed.getD j false := by
        funext j
        exact getD_set _ _ _ _ (by omega)
      rw [e]
      exact h

/-- A region that draws its order: what is known stays known whatever comes next. -/
theorem region_inv {id : Nat} {a : Act} {w : World} (Inv : (Nat → Bool) → Act → World → Prop) (hm : P.follows .mixedOrders = true) (hb : Region.back ops = true)
    (hstep : ∀ (D : Nat → Bool) (a : Act) (w : World) (i : Nat) (o : Oper), i < ops.size → Inv D a w → D i = false → ops[i]? = some o → (∀ e ∈ o.after, Region.binds .any e = true → D e.on = true) → wpOp P ops Q i (Inv fun j => j == i || D j) a w)
    (hdone : ∀ (D : Nat → Bool) (a : Act) (w : World), Inv D a w → (∀ i, i < ops.size → D i = true) → Q .normal a w)
    (h0 : Inv (fun _ => false) a w.drew) : (Code.region id ops true).wp P Q a w := by
  refine wp_region_any hm ?_
  refine wpAny_inv hb hstep hdone _ _ a _ (by simp) ?_ ?_
  · exact Nat.le_trans List.countP_le_length (by simp)
  · have e : (fun j => (Array.replicate ops.size false).getD j false) = fun _ => false := by
      funext j
      simp only [Array.getD_eq_getD_getElem?, Array.getElem?_replicate]
      split <;> rfl
    rw [e]
    exact h0

end

end Go.Proofs.Ytdaebldfmchclab
