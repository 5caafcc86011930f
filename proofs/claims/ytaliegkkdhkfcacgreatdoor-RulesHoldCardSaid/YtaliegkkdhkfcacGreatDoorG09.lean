/- Uni Law2 MatchP RText RRd RTerm -/
import Derived.Test.YtaliegkkdhkfcacGreatDoorG08
import Derived.Deep.LoopGhost
import Derived.Deep.RegionLaw
namespace Go.Proofs.YtaliegkkdhkfcacGreatDoor
open Go.RowKit Go.Deep Go.ChangeShapes Go.WideShapes
attribute [local go_sem ↓] Go.wp_at_zero Go.wp_at_succ

def UniPost (w : World) (R : Option Sb) (e : Ending) (w' : World) : Prop :=
  Below w.heap.size w w' ∧ ∃ (z1 : Option Addr) (m z3 : Nat) (ok : Bool), e = .returned (.tuple #[.slice z1 m z3, .bool ok]) ∧ (ok = false → R = none ∧ z1 = none ∧ m = 0 ∧ z3 = 0) ∧ (ok = true → ∃ s', R = some s' ∧ m = s'.length ∧ SubIn w' s' (.slice z1 m z3))

theorem uni_start {w W2 : World} {x y : Bool × Int} {k l : Fo} {a c : Value} (hB : Below w.heap.size w W2) (hS : SIn w k a) (hU : SIn w l c) (hs : w.heap.size + 1 + 1 = W2.heap.size) :
    Two w.heap.size (W2.alloc (.cells #[.bool x.1, .int .i64 x.2, a, .bool y.1, .int .i64 y.2, c] 86)) [] [((x, k), (y, l))] (.slice none 0 0) (.slice (some ⟨w.heap.size + 1 + 1, 0, none⟩) 1 1) [] [.bool x.1, .int .i64 x.2, a, .bool y.1, .int .i64 y.2, c] := by
  have hb3 : Below w.heap.size w (W2.alloc (.cells #[.bool x.1, .int .i64 x.2, a, .bool y.1, .int .i64 y.2, c] 86)) := hB.alloc hB.size _
  have hsz := hB.size
  have hw : ∀ q, q < w.heap.size → XX (W2.alloc (.cells #[.bool x.1, .int .i64 x.2, a, .bool y.1, .int .i64 y.2, c] 86)) (.slice none 0 0) (.slice (some ⟨w.heap.size + 1 + 1, 0, none⟩) 1 1) q := fun q hq => by
    refine ⟨by simp; omega, by simp [Value.ownBlock], ?_⟩
    intro e
    simp [Value.ownBlock] at e
    omega
  refine ⟨⟨World.ownsRow_nil _ _ _ _, rfl, fun q hq => ⟨hq.1, hq.2.1⟩⟩, ⟨?_, ?_, fun q hq => ⟨hq.1, hq.2.2⟩⟩⟩
  · have := World.ownsRow_lit (base := w.heap.size) (e := 86) (size := 6) W2 #[.bool x.1, .int .i64 x.2, a, .bool y.1, .int .i64 y.2, c] 1 hsz (by decide) rfl
    rw [← hs] at this
    exact this
  · exact CC.one (p := ((x, k), (y, l))) ((hS.toB.grow (fun _ h => h) hb3).wide hw) ((hU.toB.grow (fun _ h => h) hb3).wide hw)

theorem box1 {W w1 : World} {x y z : Value} (h : Below (W.alloc (.cells #[x, y, z] 55)).heap.size (W.alloc (.cells #[x, y, z] 55)) w1) : w1.cell? ⟨W.heap.size, 0, none⟩ = some x ∧ w1.cell? ⟨W.heap.size, 1, none⟩ = some y ∧ w1.cell? ⟨W.heap.size, 2, none⟩ = some z ∧ (∀ i, w1.frozen? ⟨W.heap.size, i, none⟩ = false) ∧ W.heap.size < w1.heap.size := by
  obtain ⟨a, b, c, d, _, e⟩ := box_full h
  exact ⟨a, b, c, d, e⟩
theorem box1d {W w1 : World} {x y z : Value} (h : Below (W.alloc (.cells #[x, y, z] 55)).drew.heap.size (W.alloc (.cells #[x, y, z] 55)).drew w1) : w1.cell? ⟨W.heap.size, 0, none⟩ = some x ∧ w1.cell? ⟨W.heap.size, 1, none⟩ = some y ∧ w1.cell? ⟨W.heap.size, 2, none⟩ = some z ∧ (∀ i, w1.frozen? ⟨W.heap.size, i, none⟩ = false) ∧ W.heap.size < w1.heap.size :=
  box1 ((Below.refl _ _).drew.trans h)
theorem box2 {W w1 : World} {x y z x' y' z' : Value} (h : Below ((W.alloc (.cells #[x, y, z] 55)).alloc (.cells #[x', y', z'] 55)).heap.size ((W.alloc (.cells #[x, y, z] 55)).alloc (.cells #[x', y', z'] 55)) w1) :
    (w1.cell? ⟨W.heap.size, 0, none⟩ = some x ∧ w1.cell? ⟨W.heap.size, 1, none⟩ = some y ∧ w1.cell? ⟨W.heap.size, 2, none⟩ = some z ∧ (∀ i, w1.frozen? ⟨W.heap.size, i, none⟩ = false)) ∧
    (w1.cell? ⟨W.heap.size + 1, 0, none⟩ = some x' ∧ w1.cell? ⟨W.heap.size + 1, 1, none⟩ = some y' ∧ w1.cell? ⟨W.heap.size + 1, 2, none⟩ = some z' ∧ (∀ i, w1.frozen? ⟨W.heap.size + 1, i, none⟩ = false)) ∧ W.heap.size + 1 < w1.heap.size := by
  obtain ⟨a, b, c, d, e1, e2⟩ := box_full h
  obtain ⟨a', b', c', d', _, _⟩ := box_full e1
  rw [World.size_alloc] at a b c d e2
  exact ⟨⟨a', b', c', d'⟩, ⟨a, b, c, d⟩, e2⟩
theorem box2d {W w1 : World} {x y z x' y' z' : Value} (h : Below ((W.alloc (.cells #[x, y, z] 55)).alloc (.cells #[x', y', z'] 55)).drew.heap.size ((W.alloc (.cells #[x, y, z] 55)).alloc (.cells #[x', y', z'] 55)).drew w1) :
    (w1.cell? ⟨W.heap.size, 0, none⟩ = some x ∧ w1.cell? ⟨W.heap.size, 1, none⟩ = some y ∧ w1.cell? ⟨W.heap.size, 2, none⟩ = some z ∧ (∀ i, w1.frozen? ⟨W.heap.size, i, none⟩ = false)) ∧
    (w1.cell? ⟨W.heap.size + 1, 0, none⟩ = some x' ∧ w1.cell? ⟨W.heap.size + 1, 1, none⟩ = some y' ∧ w1.cell? ⟨W.heap.size + 1, 2, none⟩ = some z' ∧ (∀ i, w1.frozen? ⟨W.heap.size + 1, i, none⟩ = false)) ∧ W.heap.size + 1 < w1.heap.size :=
  box2 ((Below.refl _ _).drew.trans h)

theorem thus {p q : Prop} (h : p) (k : p → q) : q := k h

/-- A box's three cells. -/
def C3 (w : World) (b : Nat) (x y z : Value) : Prop := w.cell? ⟨b, 0, none⟩ = some x ∧ w.cell? ⟨b, 1, none⟩ = some y ∧ w.cell? ⟨b, 2, none⟩ = some z
theorem fin0 {wn W : World} {x y z x' y' z' : Value} (h : Below wn.heap.size wn W) : C3 ((W.alloc (.cells #[x, y, z] 55)).alloc (.cells #[x', y', z'] 55)) W.heap.size x y z ∧ C3 ((W.alloc (.cells #[x, y, z] 55)).alloc (.cells #[x', y', z'] 55)) (W.heap.size + 1) x' y' z' ∧ Below wn.heap.size wn ((W.alloc (.cells #[x, y, z] 55)).alloc (.cells #[x', y', z'] 55)) := by
  have hs := h.size
  refine ⟨⟨?_, ?_, ?_⟩, ⟨new_cell (World.size_alloc _ _), new_cell (World.size_alloc _ _), new_cell (World.size_alloc _ _)⟩, (h.alloc hs _).alloc (by simp; omega) _⟩
  · rw [World.cell?_alloc_lt _ _ _ (by simp)]; exact new_cell rfl
  · rw [World.cell?_alloc_lt _ _ _ (by simp)]; exact new_cell rfl
  · rw [World.cell?_alloc_lt _ _ _ (by simp)]; exact new_cell rfl
theorem fin1 {wn W : World} {b : Nat} {x y z x' y' z' u0 u1 u2 : Value} (h : Below wn.heap.size wn W) (hb : wn.heap.size ≤ b) (h0 : W.cell? ⟨b, 0, none⟩ = some u0) (h1 : W.cell? ⟨b, 1, none⟩ = some u1) (h2 : W.cell? ⟨b, 2, none⟩ = some u2) :
    C3 ((((W.setCell ⟨b, 0, none⟩ x).setCell ⟨b, 1, none⟩ y).setCell ⟨b, 2, none⟩ z).alloc (.cells #[x', y', z'] 55)) b x y z ∧ C3 ((((W.setCell ⟨b, 0, none⟩ x).setCell ⟨b, 1, none⟩ y).setCell ⟨b, 2, none⟩ z).alloc (.cells #[x', y', z'] 55)) W.heap.size x' y' z' ∧ Below wn.heap.size wn ((((W.setCell ⟨b, 0, none⟩ x).setCell ⟨b, 1, none⟩ y).setCell ⟨b, 2, none⟩ z).alloc (.cells #[x', y', z'] 55)) := by
  have hs := h.size
  have hbl : b < W.heap.size := World.block_lt_of_cell? _ _ h0
  have hsz : (set3 W b 0 x y z).heap.size = W.heap.size := set3_size
  obtain ⟨g0, g1, g2⟩ := set3_cells (x := x) (y := y) (z := z) (o := 0) h0 h1 h2
  have e : (((W.setCell ⟨b, 0, none⟩ x).setCell ⟨b, 1, none⟩ y).setCell ⟨b, 2, none⟩ z) = set3 W b 0 x y z := rfl
  rw [e]
  refine ⟨⟨?_, ?_, ?_⟩, ⟨new_cell hsz, new_cell hsz, new_cell hsz⟩, (set3_below (o := 0) h hb).alloc (by rw [hsz]; exact hs) _⟩
  · rw [World.cell?_alloc_lt _ _ _ (by rw [hsz]; exact hbl)]; exact g0
  · rw [World.cell?_alloc_lt _ _ _ (by rw [hsz]; exact hbl)]; exact g1
  · rw [World.cell?_alloc_lt _ _ _ (by rw [hsz]; exact hbl)]; exact g2
theorem fin2 {wn W : World} {b d : Nat} {x y z x' y' z' u0 u1 u2 t0 t1 t2 : Value} (h : Below wn.heap.size wn W) (hb : wn.heap.size ≤ b) (hd : wn.heap.size ≤ d) (hn : b ≠ d) (h0 : W.cell? ⟨b, 0, none⟩ = some u0) (h1 : W.cell? ⟨b, 1, none⟩ = some u1) (h2 : W.cell? ⟨b, 2, none⟩ = some u2) (k0 : W.cell? ⟨d, 0, none⟩ = some t0) (k1 : W.cell? ⟨d, 1, none⟩ = some t1) (k2 : W.cell? ⟨d, 2, none⟩ = some t2) :
    C3 ((((((W.setCell ⟨b, 0, none⟩ x).setCell ⟨b, 1, none⟩ y).setCell ⟨b, 2, none⟩ z).setCell ⟨d, 0, none⟩ x').setCell ⟨d, 1, none⟩ y').setCell ⟨d, 2, none⟩ z') b x y z ∧ C3 ((((((W.setCell ⟨b, 0, none⟩ x).setCell ⟨b, 1, none⟩ y).setCell ⟨b, 2, none⟩ z).setCell ⟨d, 0, none⟩ x').setCell ⟨d, 1, none⟩ y').setCell ⟨d, 2, none⟩ z') d x' y' z' ∧ Below wn.heap.size wn ((((((W.setCell ⟨b, 0, none⟩ x).setCell ⟨b, 1, none⟩ y).setCell ⟨b, 2, none⟩ z).setCell ⟨d, 0, none⟩ x').setCell ⟨d, 1, none⟩ y').setCell ⟨d, 2, none⟩ z') := by
  obtain ⟨g0, g1, g2⟩ := set3_cells (x := x) (y := y) (z := z) (o := 0) h0 h1 h2
  have m0 : (set3 W b 0 x y z).cell? ⟨d, 0, none⟩ = some t0 := (set3_other (.inl (Ne.symm hn))).trans k0
  have m1 : (set3 W b 0 x y z).cell? ⟨d, 1, none⟩ = some t1 := (set3_other (.inl (Ne.symm hn))).trans k1
  have m2 : (set3 W b 0 x y z).cell? ⟨d, 2, none⟩ = some t2 := (set3_other (.inl (Ne.symm hn))).trans k2
  obtain ⟨l0, l1, l2⟩ := set3_cells (x := x') (y := y') (z := z') (o := 0) m0 m1 m2
  exact ⟨⟨(set3_other (o := 0) (.inl hn)).trans g0, (set3_other (o := 0) (.inl hn)).trans g1, (set3_other (o := 0) (.inl hn)).trans g2⟩, ⟨l0, l1, l2⟩, set3_below (o := 0) (set3_below (o := 0) h hb) hd⟩
theorem swap3 {p q r : Prop} (h : p ∧ q ∧ r) : q ∧ p ∧ r := ⟨h.2.1, h.1, h.2.2⟩

/-- What outermost answers, whenever it is called. -/
theorem top_call {lo : Nat} {wn : World} {s : Sb} {T : List (Tm × Tm)} {s1 : Option Addr} {s3 : Nat} {v2 : Value} {xs ys : List Value} {p z : Bool × Int} {k zk : Fo} {a1 : Option Addr} {a3 : Nat} (hT : Two lo wn s T (.slice s1 s.length s3) v2 xs ys) (hk : SB (XX wn (.slice s1 s.length s3) v2) wn k (.slice a1 (Fo.len k) a3)) (hz : (z, zk) = top s (p, k)) (w' : World) (hb : Below wn.heap.size wn w') :
    Calls Tryz.prog 41 #[.slice s1 s.length s3, .agg #[.bool p.1, .int .i64 p.2, .slice a1 (Fo.len k) a3]] w' fun e w'' => ∃ (x1 : Option Addr) (x3 : Nat), e = .returned (.agg #[.bool z.1, .int .i64 z.2, .slice x1 (Fo.len zk) x3]) ∧ SB (XX wn (.slice s1 s.length s3) v2) wn zk (.slice x1 (Fo.len zk) x3) ∧ Below w'.heap.size w' w'' := by
  have hO := hT.sub.below hb
  refine (outermost_any (XX wn (.slice s1 s.length s3) v2) s _ p k _ w' (fun q hq => Nat.lt_of_lt_of_le hq.1 hb.size) hO.sub (fun i q v b o e hi => ownS_at hO i q v b o e hi) (hk.grow (fun _ hq => hq.1) hb)).mono ?_
  rintro e w'' ⟨x1, x2, x3, rfl, hS, hb2⟩
  rw [← hz] at hS ⊢
  have hS' := hS
  obtain ⟨_, _, _, _, e, _⟩ := hS'
  simp only [Value.slice.injEq] at e
  obtain ⟨rfl, rfl, rfl⟩ := e
  exact ⟨_, _, rfl, hS.shrink (fun _ hq => hq.1) (below_step hb hb2), hb2⟩

theorem stepU_same {s : Sb} {a b x y : Tm} {L : List (Tm × Tm)} (hx : x = top s a) (hy : y = top s b) (h1 : x.1.1 = true) (h2 : y.1.1 = true) (h3 : x.1.2 = y.1.2) : stepU s a b L = some (s, L) := by
  subst hx hy
  unfold stepU
  rw [if_pos ⟨h1, h2, h3⟩]
theorem stepU_x {s : Sb} {a b x y : Tm} {L : List (Tm × Tm)} (hx : x = top s a) (hy : y = top s b) (h1 : x.1.1 = true) (h2 : ¬ (y.1.1 = true ∧ x.1.2 = y.1.2)) : stepU s a b L = (addS s x.1.2 (subT (bnd s) y)).map fun s' => (s', L) := by
  subst hx hy
  unfold stepU
  rw [if_neg (fun h => h2 h.2), if_pos h1]
theorem stepU_y {s : Sb} {a b x y : Tm} {L : List (Tm × Tm)} (hx : x = top s a) (hy : y = top s b) (h1 : x.1.1 = false) (h2 : y.1.1 = true) : stepU s a b L = (addS s y.1.2 (subT (bnd s) x)).map fun s' => (s', L) := by
  subst hx hy
  unfold stepU
  rw [if_neg (fun h => by rw [h1] at h; exact absurd h.1 (by decide)), if_neg (by rw [h1]; decide), if_pos h2]
theorem stepU_args {s : Sb} {a b x y : Tm} {L : List (Tm × Tm)} (hx : x = top s a) (hy : y = top s b) (h1 : x.1.1 = false) (h2 : y.1.1 = false) (h3 : x.1.2 = y.1.2) (h4 : Fo.len x.2 = Fo.len y.2) : stepU s a b L = some (s, x.2.list.zip y.2.list ++ L) := by
  subst hx hy
  unfold stepU
  rw [if_neg (fun h => by rw [h1] at h; exact absurd h.1 (by decide)), if_neg (by rw [h1]; decide), if_neg (by rw [h2]; decide), if_pos ⟨h3, h4⟩]
theorem stepU_bad {s : Sb} {a b x y : Tm} {L : List (Tm × Tm)} (hx : x = top s a) (hy : y = top s b) (h1 : x.1.1 = false) (h2 : y.1.1 = false) (h3 : ¬ (x.1.2 = y.1.2 ∧ Fo.len x.2 = Fo.len y.2)) : stepU s a b L = none := by
  subst hx hy
  unfold stepU
  rw [if_neg (fun h => by rw [h1] at h; exact absurd h.1 (by decide)), if_neg (by rw [h1]; decide), if_neg (by rw [h2]; decide), if_neg h3]
/-- One step of the run. -/
theorem run_on {m : Nat} {s s' : Sb} {p : Tm × Tm} {L L' : List (Tm × Tm)} {R : Option Sb} (hI : UI s (p :: L)) (hR : runU (m + 1) s (p :: L) = some R) (h : stepU s p.1 p.2 L = some (s', L')) : UI s' L' ∧ runU m s' L' = some R := by
  refine ⟨(step_keeps hI h).1, ?_⟩
  simpa [runU, h] using hR
theorem run_no {m : Nat} {s : Sb} {p : Tm × Tm} {L : List (Tm × Tm)} {R : Option Sb} (hR : runU (m + 1) s (p :: L) = some R) (h : stepU s p.1 p.2 L = none) : R = none := by
  simpa [runU, h] using hR.symm
theorem uni_no {w w' : World} {R : Option Sb} (hb : Below w.heap.size w w') (h : R = none) : UniPost w R (.returned (.tuple #[.slice none 0 0, .bool false])) w' := ⟨hb, none, 0, 0, false, rfl, fun _ => ⟨h, rfl, rfl, rfl⟩, fun e => by cases e⟩

/-- Apply and then add, as Unify calls them. -/
theorem uni_apply {lo : Nat} {wx w' : World} {s : Sb} {T : List (Tm × Tm)} {s1 : Option Addr} {s3 : Nat} {v2 : Value} {xs ys : List Value} {y t : Bool × Int} {yk tk : Fo} {y1 : Option Addr} {y3 : Nat} (hT : Two lo wx s T (.slice s1 s.length s3) v2 xs ys) (hs : ∀ p ∈ s, Gd p.2) (hk : SB (XX wx (.slice s1 s.length s3) v2) wx yk (.slice y1 (Fo.len yk) y3)) (hg : Gd (y, yk)) (ht : (t, tk) = subT (bnd s) (y, yk)) (hb : Below wx.heap.size wx w') :
    Calls Tryz.prog 43 #[.slice s1 s.length s3, .agg #[.bool y.1, .int .i64 y.2, .slice y1 (Fo.len yk) y3]] w' fun e w1 => ∃ (a1 : Option Addr) (a3 : Nat), e = .returned (.agg #[.bool t.1, .int .i64 t.2, .slice a1 (Fo.len tk) a3]) ∧ Two lo w1 s T (.slice s1 s.length s3) v2 xs ys ∧ SB (XX w1 (.slice s1 s.length s3) v2) w1 tk (.slice a1 (Fo.len tk) a3) ∧ Below wx.heap.size wx w1 := by
  have hT' := hT.below hb
  refine (apply_any s _ y yk _ w' hT'.sub.sub (fun p hp => ⟨(hs p hp).nar, (hs p hp).ok⟩) (hk.toS.below hb) hg.nar).mono ?_
  rintro e w1 ⟨a', rfl, hO, hb1⟩
  rw [← ht] at hO ⊢
  have hS := hO.toS
  obtain ⟨a1, a3, _, _, rfl, _⟩ := hS
  exact ⟨a1, a3, rfl, hT'.below hb1, hT'.new (hO.toB (fun q q1 q2 => ⟨q1, q2⟩)), below_step hb hb1⟩
theorem uni_add {w w1 : World} {s : Sb} {T : List (Tm × Tm)} {s1 : Option Addr} {s3 : Nat} {v2 : Value} {xs ys : List Value} {t : Bool × Int} {tk : Fo} {a1 : Option Addr} {a3 : Nat} (n : Int) (hw : Below w.heap.size w w1) (hT : Two w.heap.size w1 s T (.slice s1 s.length s3) v2 xs ys) (hs : ∀ p ∈ s, Gd p.2) (hl : s.length ≤ 10) (hk : SB (XX w1 (.slice s1 s.length s3) v2) w1 tk (.slice a1 (Fo.len tk) a3)) (hg : Gd (t, tk)) :
    Calls Tryz.prog 42 #[.slice s1 s.length s3, .int .i64 n, .agg #[.bool t.1, .int .i64 t.2, .slice a1 (Fo.len tk) a3]] w1 fun e w2 => ∃ (z1 : Option Addr) (m z3 : Nat) (ok : Bool), e = .returned (.tuple #[.slice z1 m z3, .bool ok]) ∧ Below w.heap.size w w2 ∧ (ok = false → addS s n (t, tk) = none) ∧
      (ok = true → ∃ s' xs', addS s n (t, tk) = some s' ∧ m = s'.length ∧ Two w.heap.size w2 s' T (.slice z1 m z3) v2 xs' ys) := by
  have hv := gd_vars hg
  refine (addB_any w.heap.size (XX w1 (.slice s1 s.length s3) v2) s _ xs n t tk _ w1 hT.sub hw.size hk (fun p hp => ⟨(hs p hp).nar, (hs p hp).ok⟩) hg.ok hg.nar (by simp only at hv; omega) (by omega)).mono ?_
  rintro e w2 ⟨hf, z1, m, z3, ok, rfl, hno, hyes⟩
  refine ⟨z1, m, z3, ok, rfl, hw.trans (hf.below hw.size (fun g hg => (owns_at hT.sub.row g hg).1) (fun g hg => by cases hg)), hno, fun e => ?_⟩
  obtain ⟨s', xs', h1, h2, h3, _⟩ := hyes e
  exact ⟨s', xs', h1, h2, two_add hT h3 hf⟩

set_option maxRecDepth 100000 in
set_option maxHeartbeats 4000000 in
theorem unify_any (x : Bool × Int) (k : Fo) (a : Value) (y : Bool × Int) (l : Fo) (c : Value) (w : World) (n : Nat) (R : Option Sb) (hr : runU n [] [((x, k), (y, l))] = some R) (hUI : UI [] [((x, k), (y, l))]) (hS : SIn w k a) (hU : SIn w l c) :
    Calls Tryz.prog 21 #[.agg #[.bool x.1, .int .i64 x.2, a], .agg #[.bool y.1, .int .i64 y.2, c]] w (UniPost w R) := by
  obtain ⟨xv, xn⟩ := x
  obtain ⟨yv, yn⟩ := y
  have HS := hide hS
  have HU := hide hU
  have Hr := hide hr
  have HUI := hide hUI
  obtain ⟨ad, ac, b, o, rfl, -, -, -, -⟩ := hS
  obtain ⟨ud, uc, ub, uo, rfl, -, -, -, -⟩ := hU
  clear hr hUI
  go_enter Tryz.func21, Tryz.ntmps21
  go_wp2_with fail
  generalize hW2 : (w.alloc (.cells #[.bool xv, .int .i64 xn, .slice ad (Fo.len k) ac] 55)).alloc (.cells #[.bool yv, .int .i64 yn, .slice ud (Fo.len l) uc] 55) = W2
  have hB2 : Below w.heap.size w W2 := by rw [← hW2]; exact (below_alloc _ _).alloc (by simp) _
  have hs2 : w.heap.size + 1 + 1 = W2.heap.size := by rw [← hW2]; simp
  have H0 := hide (uni_start (x := (xv, xn)) (y := (yv, yn)) hB2 HS.out HU.out hs2)
  have HB3 : Hid (Below w.heap.size w (W2.alloc (.cells #[.bool xv, .int .i64 xn, .slice ad (Fo.len k) ac, .bool yv, .int .i64 yn, .slice ud (Fo.len l) uc] 86))) := hB2.alloc hB2.size _
  clear hW2 hB2 hs2
  go_loopg [6, 7] n (fun m vs vt wr => ∃ (s : Sb) (T : List (Tm × Tm)) (s1 : Option Addr) (s3 : Nat) (t1 : Option Addr) (t3 : Nat) (xs ys : List Value), vs = .slice s1 s.length s3 ∧ vt = .slice t1 T.length t3 ∧ UI s T.reverse ∧ runU m s T.reverse = some R ∧ Two w.heap.size wr s T (.slice s1 s.length s3) (.slice t1 T.length t3) xs ys ∧ Below w.heap.size w wr)
  case atStart =>
    exact ⟨[], [(((xv, xn), k), ((yv, yn), l))], none, 0, some ⟨w.heap.size + 1 + 1, 0, none⟩, 1, [], _, rfl, rfl, HUI.out, Hr.out, H0.out, HB3.out⟩
  case round =>
    obtain ⟨s, T, s1, s3, t1, t3, xs, ys, rfl, rfl, hI, hR, hTwo, hBw⟩ := hrel
    have HTwo := hide hTwo
    have HI := hide hI
    have HR := hide hR
    clear H0 HB3 hTwo hI hR
    rcases List.eq_nil_or_concat T with rfl | ⟨T', p, rfl⟩
    · have Hfin : Hid (UniPost w R (.returned (.tuple #[.slice s1 s.length s3, .bool true])) wr) := by
        refine ⟨hBw, s1, s.length, s3, true, rfl, fun e => by (cases e), fun _ => ⟨s, ?_, rfl, HTwo.out.sub.sub⟩⟩
        have := HR.out
        cases gk with
        | zero => simp [runU] at this
        | succ m => simpa [runU] using this.symm
      go_wp2_with fail
      go_ret2
      exact Hfin.out
    · have hrev : (T' ++ [p]).reverse = p :: T'.reverse := by simp
      rw [List.concat_eq_append] at *
      have hll : (T' ++ [p]).length = T'.length + 1 := by simp
      rw [hll] at HTwo
      rw [hll]
      rw [hrev] at HI HR
      obtain ⟨g, hg⟩ : ∃ g, t1 = some ⟨g, 0, none⟩ := by
        rcases HTwo.out.cou.row.2 with ⟨_, h0⟩ | ⟨g, cap, cur, e, _⟩
        · simp at h0
        · simp only [Value.slice.injEq] at e
          exact ⟨g, e.1⟩
      subst hg
      have hcap : T'.length + 1 ≤ t3 := by
        rcases HTwo.out.cou.row.2 with ⟨e, _⟩ | ⟨g', cap, cur, e, _, _, h1, _⟩
        · cases e
        · simp only [Value.slice.injEq] at e
          simp only [List.length_append, List.length_singleton] at h1
          omega
      have hcap2 : t3 ≤ 2 ^ 63 - 1 := by
        rcases HTwo.out.cou.row.2 with ⟨e, _⟩ | ⟨g', cap, cur, e, _, _, _, h1, _⟩
        · cases e
        · simp only [Value.slice.injEq] at e
          unfold maxLen at h1
          omega
      obtain ⟨ys', pa, pb, hT2, hSa, hSb, c0, c1, c2, c3, c4, c5⟩ := two_pop HTwo.out
      obtain ⟨⟨⟨pv, pn⟩, pk⟩, ⟨⟨qv, qn⟩, qk⟩⟩ := p
      have HT2 := hide hT2
      have HSa := hide hSa
      have HSb := hide hSb
      obtain ⟨pa1, pa3, pab, pao, rfl, -, -, -, -⟩ := hSa
      obtain ⟨pb1, pb3, pbb, pbo, rfl, -, -, -, -⟩ := hSb
      have hpop := fun w => pop_run (n := T'.length) (c := t3) (g := g) hcap w
      clear hrev hll hT2
      go_upto_region 6 with fail
      generalize hwn : wr.alloc (.cells #[.bool pv, .int .i64 pn, .slice pa1 (Fo.len pk) pa3, .bool qv, .int .i64 qn, .slice pb1 (Fo.len qk) pb3] 86) = wn
      have hbn : Below wr.heap.size wr wn := by rw [← hwn]; exact below_alloc _ _
      have n0 : wn.cell? ⟨wr.heap.size, 0, none⟩ = some (.bool pv) := by rw [← hwn]; exact new_cell rfl
      have n1 : wn.cell? ⟨wr.heap.size, 1, none⟩ = some (.int .i64 pn) := by rw [← hwn]; exact new_cell rfl
      have n2 : wn.cell? ⟨wr.heap.size, 2, none⟩ = some (.slice pa1 (Fo.len pk) pa3) := by rw [← hwn]; exact new_cell rfl
      have n3 : wn.cell? ⟨wr.heap.size, 3, none⟩ = some (.bool qv) := by rw [← hwn]; exact new_cell rfl
      have n4 : wn.cell? ⟨wr.heap.size, 4, none⟩ = some (.int .i64 qn) := by rw [← hwn]; exact new_cell rfl
      have n5 : wn.cell? ⟨wr.heap.size, 5, none⟩ = some (.slice pb1 (Fo.len qk) pb3) := by rw [← hwn]; exact new_cell rfl
      have hnl : wr.heap.size < wn.heap.size := World.block_lt_of_cell? _ _ n0
      have HTn := hide (HT2.out.below hbn)
      obtain ⟨⟨⟨xv', xn'⟩, xk'⟩, hx⟩ : ∃ z, z = top s ((pv, pn), pk) := ⟨_, rfl⟩
      obtain ⟨⟨⟨yv', yn'⟩, yk'⟩, hy⟩ : ∃ z, z = top s ((qv, qn), qk) := ⟨_, rfl⟩
      have HcA := hide (fun w' hb => top_call HTn.out (HT2.out.xx hbn HSa.out) hx w' hb)
      have HcB := hide (fun w' hb => top_call HTn.out (HT2.out.xx hbn HSb.out) hy w' hb)
      have Hx := hide hx
      have Hy := hide hy
      have Hbn := hide hbn
      have hcur : Below wn.heap.size wn wn := Below.refl _ _
      clear hwn hx hy hbn c0 c1 c2 c3 c4 c5 hpop
      go_cut [6, 7, 9, 10] (fun s6 s7 s9 s10 wx => ∃ (bx bb : Nat) (x1 : Option Addr) (x3 : Nat) (y1 : Option Addr) (y3 : Nat), s6 = .slice s1 s.length s3 ∧ s7 = .slice (some ⟨g, 0, none⟩) T'.length t3 ∧ s9 = .pointer (some ⟨bx, 0, none⟩) ∧ s10 = .pointer (some ⟨bb, 0, none⟩) ∧
        SB (XX wn (.slice s1 s.length s3) (.slice (some ⟨g, 0, none⟩) T'.length t3)) wn xk' (.slice x1 (Fo.len xk') x3) ∧ SB (XX wn (.slice s1 s.length s3) (.slice (some ⟨g, 0, none⟩) T'.length t3)) wn yk' (.slice y1 (Fo.len yk') y3) ∧
        C3 wx bx (.bool xv') (.int .i64 xn') (.slice x1 (Fo.len xk') x3) ∧ C3 wx bb (.bool yv') (.int .i64 yn') (.slice y1 (Fo.len yk') y3) ∧ Below wn.heap.size wn wx)
      case first =>
        have neN : wn.heap.size ≠ wr.heap.size := Nat.ne_of_gt hnl
        have neN1 : wn.heap.size + 1 ≠ wr.heap.size := Nat.ne_of_gt (Nat.lt_succ_of_lt hnl)
        go_region_held3 (fun w' => w'.cell? ⟨wr.heap.size, 0, none⟩ = some (.bool pv) ∧ w'.cell? ⟨wr.heap.size, 1, none⟩ = some (.int .i64 pn) ∧ w'.cell? ⟨wr.heap.size, 2, none⟩ = some (.slice pa1 (Fo.len pk) pa3) ∧ w'.cell? ⟨wr.heap.size, 3, none⟩ = some (.bool qv) ∧ w'.cell? ⟨wr.heap.size, 4, none⟩ = some (.int .i64 qn) ∧ w'.cell? ⟨wr.heap.size, 5, none⟩ = some (.slice pb1 (Fo.len qk) pb3))
          (first
            | (with_reducible exact ⟨grow_cell hcur _ _ n0, grow_cell hcur _ _ n1, grow_cell hcur _ _ n2, grow_cell hcur _ _ n3, grow_cell hcur _ _ n4, grow_cell hcur _ _ n5⟩)
            | go_keep)
          (first
          | (go_at_call 41; with_reducible refine (HcA.out _ ?_).mono ?_; (with_reducible first | exact hcur | exact hcur.drew | exact (hcur.alloc hcur.size _).drew | exact hcur.alloc hcur.size _ | exact ((hcur.alloc hcur.size _).alloc (hcur.alloc hcur.size _).size _).drew | exact (hcur.alloc hcur.size _).alloc (hcur.alloc hcur.size _).size _); rintro e wA ⟨x1, x3, rfl, hSx, hbA⟩
             (with_reducible first | (refine thus (box2d hbA) ?_; rintro ⟨⟨fA0, fA1, fA2, fAf⟩, ⟨gA0, gA1, gA2, gAf⟩, fAl⟩; have fAk := Nat.lt_of_succ_lt fAl) | (refine thus (box2 hbA) ?_; rintro ⟨⟨fA0, fA1, fA2, fAf⟩, ⟨gA0, gA1, gA2, gAf⟩, fAl⟩; have fAk := Nat.lt_of_succ_lt fAl) | (refine thus (box1d hbA) ?_; rintro ⟨fA0, fA1, fA2, fAf, fAl⟩) | (refine thus (box1 hbA) ?_; rintro ⟨fA0, fA1, fA2, fAf, fAl⟩) | skip)
             (try (have hst : Below wB.heap.size wB wA := (by with_reducible first | exact hbA | exact below_box hbA | exact below_box (below_box hbA)); have hsl := hst.size; (try (have fB0' := grow_cell hst _ _ fB0; have fB1' := grow_cell hst _ _ fB1; have fB2' := grow_cell hst _ _ fB2; have ltfB0 := World.block_lt_of_cell? _ _ fB0; have ltfBc := World.block_lt_of_cell? _ _ fB0'; dsimp only at ltfBc; have fBf' := (fun i => (hst.frozen (p := ⟨_, i, none⟩) ltfB0).trans (fBf i)))); (try (have gB0' := grow_cell hst _ _ gB0; have gB1' := grow_cell hst _ _ gB1; have gB2' := grow_cell hst _ _ gB2; have ltgB0 := World.block_lt_of_cell? _ _ gB0; have ltgBc := World.block_lt_of_cell? _ _ gB0'; dsimp only at ltgBc; have gBf' := (fun i => (hst.frozen (p := ⟨_, i, none⟩) ltgB0).trans (gBf i))))))
             have hcurA : Below wn.heap.size wn wA := below_step (by with_reducible first | exact hcur | exact hcur.drew | exact (hcur.alloc hcur.size _).drew | exact hcur.alloc hcur.size _ | exact ((hcur.alloc hcur.size _).alloc (hcur.alloc hcur.size _).size _).drew | exact (hcur.alloc hcur.size _).alloc (hcur.alloc hcur.size _).size _) hbA
             replace hcur : Below wn.heap.size wn wA := below_step (by with_reducible first | exact hcur | exact hcur.drew | exact (hcur.alloc hcur.size _).drew | exact hcur.alloc hcur.size _ | exact ((hcur.alloc hcur.size _).alloc (hcur.alloc hcur.size _).size _).drew | exact (hcur.alloc hcur.size _).alloc (hcur.alloc hcur.size _).size _) hbA
             have hlA : wr.heap.size < wA.heap.size := Nat.lt_of_lt_of_le hnl hcur.size
             have neA : wA.heap.size ≠ wr.heap.size := Nat.ne_of_gt hlA
             have neA1 : wA.heap.size + 1 ≠ wr.heap.size := Nat.ne_of_gt (Nat.lt_succ_of_lt hlA)
             have mA0 := grow_cell hcur _ _ n0; have mA1 := grow_cell hcur _ _ n1; have mA2 := grow_cell hcur _ _ n2; have mA3 := grow_cell hcur _ _ n3; have mA4 := grow_cell hcur _ _ n4; have mA5 := grow_cell hcur _ _ n5)
          | (go_at_call 41; with_reducible refine (HcB.out _ ?_).mono ?_; (with_reducible first | exact hcur | exact hcur.drew | exact (hcur.alloc hcur.size _).drew | exact hcur.alloc hcur.size _ | exact ((hcur.alloc hcur.size _).alloc (hcur.alloc hcur.size _).size _).drew | exact (hcur.alloc hcur.size _).alloc (hcur.alloc hcur.size _).size _); rintro e wB ⟨y1, y3, rfl, hSy, hbB⟩
             (with_reducible first | (refine thus (box2d hbB) ?_; rintro ⟨⟨fB0, fB1, fB2, fBf⟩, ⟨gB0, gB1, gB2, gBf⟩, fBl⟩; have fBk := Nat.lt_of_succ_lt fBl) | (refine thus (box2 hbB) ?_; rintro ⟨⟨fB0, fB1, fB2, fBf⟩, ⟨gB0, gB1, gB2, gBf⟩, fBl⟩; have fBk := Nat.lt_of_succ_lt fBl) | (refine thus (box1d hbB) ?_; rintro ⟨fB0, fB1, fB2, fBf, fBl⟩) | (refine thus (box1 hbB) ?_; rintro ⟨fB0, fB1, fB2, fBf, fBl⟩) | skip)
             (try (have hst : Below wA.heap.size wA wB := (by with_reducible first | exact hbB | exact below_box hbB | exact below_box (below_box hbB)); have hsl := hst.size; (try (have fA0' := grow_cell hst _ _ fA0; have fA1' := grow_cell hst _ _ fA1; have fA2' := grow_cell hst _ _ fA2; have ltfA0 := World.block_lt_of_cell? _ _ fA0; have ltfAc := World.block_lt_of_cell? _ _ fA0'; dsimp only at ltfAc; have fAf' := (fun i => (hst.frozen (p := ⟨_, i, none⟩) ltfA0).trans (fAf i)))); (try (have gA0' := grow_cell hst _ _ gA0; have gA1' := grow_cell hst _ _ gA1; have gA2' := grow_cell hst _ _ gA2; have ltgA0 := World.block_lt_of_cell? _ _ gA0; have ltgAc := World.block_lt_of_cell? _ _ gA0'; dsimp only at ltgAc; have gAf' := (fun i => (hst.frozen (p := ⟨_, i, none⟩) ltgA0).trans (gAf i))))))
             replace hcur : Below wn.heap.size wn wB := below_step (by with_reducible first | exact hcur | exact hcur.drew | exact (hcur.alloc hcur.size _).drew | exact hcur.alloc hcur.size _ | exact ((hcur.alloc hcur.size _).alloc (hcur.alloc hcur.size _).size _).drew | exact (hcur.alloc hcur.size _).alloc (hcur.alloc hcur.size _).size _) hbB
             have hlB : wr.heap.size < wB.heap.size := Nat.lt_of_lt_of_le hnl hcur.size
             have neB : wB.heap.size ≠ wr.heap.size := Nat.ne_of_gt hlB
             have neB1 : wB.heap.size + 1 ≠ wr.heap.size := Nat.ne_of_gt (Nat.lt_succ_of_lt hlB)
             have mB0 := grow_cell hcur _ _ n0; have mB1 := grow_cell hcur _ _ n1; have mB2 := grow_cell hcur _ _ n2; have mB3 := grow_cell hcur _ _ n3; have mB4 := grow_cell hcur _ _ n4; have mB5 := grow_cell hcur _ _ n5))
        all_goals
          have hnA := hcurA.size
          have hnA1 : wn.heap.size ≤ wA.heap.size + 1 := Nat.le_succ_of_le hnA
          go_wp2_with fail
          go_meet
          case rel =>
            with_reducible first
              | exact ⟨wB.heap.size, wB.heap.size + 1, x1, x3, y1, y3, rfl, rfl, rfl, rfl, hSx, hSy, fin0 hcur⟩
              | exact ⟨wB.heap.size + 1, wB.heap.size, x1, x3, y1, y3, rfl, rfl, rfl, rfl, hSx, hSy, swap3 (fin0 hcur)⟩
              | exact ⟨wA.heap.size, wB.heap.size, x1, x3, y1, y3, rfl, rfl, rfl, rfl, hSx, hSy, fin1 hcur hnA fB0 fB1 fB2⟩
              | exact ⟨wB.heap.size, wA.heap.size, x1, x3, y1, y3, rfl, rfl, rfl, rfl, hSx, hSy, swap3 (fin1 hcur hnA fB0 fB1 fB2)⟩
              | exact ⟨wn.heap.size, wB.heap.size, x1, x3, y1, y3, rfl, rfl, rfl, rfl, hSx, hSy, fin1 hcur (Nat.le_refl _) fA0' fA1' fA2'⟩
              | exact ⟨wB.heap.size, wn.heap.size, x1, x3, y1, y3, rfl, rfl, rfl, rfl, hSx, hSy, swap3 (fin1 hcur (Nat.le_refl _) fA0' fA1' fA2')⟩
              | exact ⟨wA.heap.size, wA.heap.size + 1, x1, x3, y1, y3, rfl, rfl, rfl, rfl, hSx, hSy, fin2 hcur hnA hnA1 (Nat.ne_of_lt (Nat.lt_succ_self _)) fB0 fB1 fB2 gB0 gB1 gB2⟩
              | exact ⟨wA.heap.size + 1, wA.heap.size, x1, x3, y1, y3, rfl, rfl, rfl, rfl, hSx, hSy, fin2 hcur hnA1 hnA (Nat.ne_of_gt (Nat.lt_succ_self _)) gB0 gB1 gB2 fB0 fB1 fB2⟩
              | exact ⟨wn.heap.size, wA.heap.size, x1, x3, y1, y3, rfl, rfl, rfl, rfl, hSx, hSy, fin2 hcur (Nat.le_refl _) hnA (Nat.ne_of_lt fAl) fA0' fA1' fA2' fB0 fB1 fB2⟩
              | exact ⟨wA.heap.size, wn.heap.size, x1, x3, y1, y3, rfl, rfl, rfl, rfl, hSx, hSy, fin2 hcur hnA (Nat.le_refl _) (Nat.ne_of_gt fAl) fB0 fB1 fB2 fA0' fA1' fA2'⟩
              | exact ⟨wn.heap.size, wn.heap.size + 1, x1, x3, y1, y3, rfl, rfl, rfl, rfl, hSx, hSy, fin2 hcur (Nat.le_refl _) (Nat.le_succ _) (Nat.ne_of_lt (Nat.lt_succ_self _)) fA0' fA1' fA2' gA0' gA1' gA2'⟩
              | exact ⟨wn.heap.size + 1, wn.heap.size, x1, x3, y1, y3, rfl, rfl, rfl, rfl, hSx, hSy, fin2 hcur (Nat.le_succ _) (Nat.le_refl _) (Nat.ne_of_gt (Nat.lt_succ_self _)) gA0' gA1' gA2' fA0' fA1' fA2'⟩
      case rest =>
        obtain ⟨bx, bb, x1, x3, y1, y3, rfl, rfl, rfl, rfl, hSx, hSy, ⟨a0, a1, a2⟩, ⟨e0, e1, e2⟩, hbx⟩ := hcut
        generalize wc = wx at *
        have hBx : Below w.heap.size w wx := below_step hBw (below_step Hbn.out hbx)
        have HTx := hide (HTn.out.below hbx)
        have HSx := hide (HTn.out.xx hbx hSx)
        have HSy := hide (HTn.out.xx hbx hSy)
        have hgp := HI.out.gL (((pv, pn), pk), ((qv, qn), qk)) (by simp)
        have Hgx : Hid (Gd ((xv', xn'), xk')) := by rw [Hid, Hx.out]; exact gd_top HI.out.gs hgp.1
        have Hgy : Hid (Gd ((yv', yn'), yk')) := by rw [Hid, Hy.out]; exact gd_top HI.out.gs hgp.2
        have hscm : s3 ≤ 2 ^ 63 - 1 := by
          obtain ⟨_, _, _, _, e, _, _, h, _⟩ := HTx.out.sub.sub
          simp only [Value.slice.injEq] at e
          unfold maxLen at h
          omega
        obtain ⟨m, hm⟩ : ∃ m, gk = m + 1 := by
          cases gk with
          | zero => have := HR.out; simp [runU] at this
          | succ m => exact ⟨m, rfl⟩
        subst hm
        clear hSx hSy hgp n0 n1 n2 n3 n4 n5 hnl hcur HcA HcB HTn hbx
        cases xv'
        · cases yv'
          · by_cases hc : xn' = yn' ∧ Fo.len xk' = Fo.len yk'
            · obtain ⟨hc1, hc2⟩ := hc
              have Hon := hide (run_on HI.out HR.out (stepU_args Hx.out Hy.out rfl rfl hc1 hc2))
              have hnb : (xn' == yn') = true := by simp [hc1]
              have hlb : ((Fo.len xk' : Int) == (Fo.len yk' : Int)) = true := by simp [hc2]
              have Hc2 := hide hc2
              have Hlen := hide (ui_len HI.out)
              have Htwo := hide Hgx.out.two.1
              clear hc1 hc2
              go_wp2_with fail
              refine (addArgs_any w.heap.size (XX wx (.slice s1 s.length s3) (.slice (some ⟨g, 0, none⟩) T'.length t3)) T' _ ys' (false, xn') xk' _ (false, yn') yk' _ wx HTx.out.cou hBx.size HSx.out HSy.out Hc2.out (by have := Hlen.out.1; have := Htwo.out; simp only [List.length_cons, List.length_reverse] at *; omega)).mono ?_
              rintro e w2 ⟨M, z1, z3, xt', hM, rfl, hO2, hF2, hM2⟩
              have H3 := hide (two_args HTx.out hO2 hF2)
              have hBw2 : Below w.heap.size w w2 := hBx.trans (hF2.below hBx.size (fun q hq => (owns_at HTx.out.cou.row q hq).1) (fun q hq => by cases hq))
              have Hrev : Hid (M.reverse = xk'.list.zip yk'.list ++ T'.reverse) := by rw [Hid, hM]; simp
              clear hM hO2 hF2 hM2
              go_wp2_with fail
              go_roundg m
              case measure => omega
              case rel => exact ⟨s, M, s1, s3, z1, z3, xs, xt', rfl, rfl, by rw [Hrev.out]; exact Hon.out.1, by rw [Hrev.out]; exact Hon.out.2, H3.out, hBw2⟩
            · have Hf := hide (uni_no hBx (run_no HR.out (stepU_bad Hx.out Hy.out rfl rfl hc)))
              by_cases hc1 : xn' = yn'
              · have hnb : (xn' == yn') = true := by simp [hc1]
                have hlb : ((Fo.len xk' : Int) == (Fo.len yk' : Int)) = false := by
                  have : ¬ Fo.len xk' = Fo.len yk' := fun e => hc ⟨hc1, e⟩
                  simp; omega
                clear hc hc1
                go_wp2_with fail
                go_ret2
                exact Hf.out
              · have hnb : (xn' == yn') = false := by simp [hc1]
                clear hc hc1
                go_wp2_with fail
                go_ret2
                exact Hf.out
          · have Hst : Hid (stepU s ((pv, pn), pk) ((qv, qn), qk) T'.reverse = (addS s yn' (subT (bnd s) ((false, xn'), xk'))).map fun s' => (s', T'.reverse)) := stepU_y Hx.out Hy.out rfl rfl
            obtain ⟨⟨⟨tv, tn⟩, tk⟩, ht⟩ : ∃ z, z = subT (bnd s) ((false, xn'), xk') := ⟨_, rfl⟩
            have Ht := hide ht
            have Hgt : Hid (Gd ((tv, tn), tk)) := by rw [Hid, ht]; exact gd_sub HI.out.gs Hgx.out
            have Hap := hide (uni_apply HTx.out HI.out.gs HSx.out Hgx.out ht (w' := wx.drew) (Below.refl _ _).drew)
            clear ht
            go_upto_region 13 with fail
            go_region_with (first
              | (go_at_call 43; refine Hap.out.mono ?_; rintro e w1 ⟨b1, b3, rfl, hT1, hS1, hb1⟩; have hBw1 := below_step hBx hb1; have e1w := grow_cell hb1 _ _ e1)
              | (go_at_call 42; refine (uni_add yn' hBw1 hT1 HI.out.gs (ui_len HI.out).2 hS1 Hgt.out).mono ?_; rintro e w2 ⟨z1, zm, z3, ok, rfl, hBw2, hno, hyes⟩))
            all_goals
              cases ok
              · have Hf := hide (uni_no hBw2 (run_no HR.out (by rw [Hst.out, ← Ht.out, hno rfl]; rfl)))
                clear hno hyes hT1 hS1
                go_wp2_with fail
                go_ret2
                exact Hf.out
              · obtain ⟨s', xs', h1, h2, h3⟩ := hyes rfl
                have Hon := hide (run_on HI.out HR.out (s' := s') (L' := T'.reverse) (by rw [Hst.out, ← Ht.out, h1]; rfl))
                subst h2
                have H3 := hide h3
                clear hno hyes hT1 hS1 h1 h3
                go_wp2_with fail
                go_roundg m
                case measure => omega
                case rel => exact ⟨s', T', z1, z3, some ⟨g, 0, none⟩, t3, xs', ys', rfl, rfl, Hon.out.1, Hon.out.2, H3.out, hBw2⟩
        · by_cases hc : yv' = true ∧ xn' = yn'
          · obtain ⟨rfl, hc2⟩ := hc
            have Hon := hide (run_on HI.out HR.out (stepU_same Hx.out Hy.out rfl rfl hc2))
            have hnb : (xn' == yn') = true := by simp [hc2]
            clear hc2
            go_wp2_with fail
            go_roundg m
            case measure => omega
            case rel => exact ⟨s, T', s1, s3, some ⟨g, 0, none⟩, t3, xs, ys', rfl, rfl, Hon.out.1, Hon.out.2, HTx.out, hBx⟩
          · have Hst : Hid (stepU s ((pv, pn), pk) ((qv, qn), qk) T'.reverse = (addS s xn' (subT (bnd s) ((yv', yn'), yk'))).map fun s' => (s', T'.reverse)) := stepU_x Hx.out Hy.out rfl (fun h => hc ⟨h.1, h.2⟩)
            cases yv'
            · clear hc
              obtain ⟨⟨⟨tv, tn⟩, tk⟩, ht⟩ : ∃ z, z = subT (bnd s) ((false, yn'), yk') := ⟨_, rfl⟩
              have Ht := hide ht
              have Hgt : Hid (Gd ((tv, tn), tk)) := by rw [Hid, ht]; exact gd_sub HI.out.gs Hgy.out
              have Hap := hide (uni_apply HTx.out HI.out.gs HSy.out Hgy.out ht (w' := wx.drew) (Below.refl _ _).drew)
              clear ht
              go_upto_region 11 with fail
              go_region_with (first
                | (go_at_call 43; refine Hap.out.mono ?_; rintro e w1 ⟨b1, b3, rfl, hT1, hS1, hb1⟩; have hBw1 := below_step hBx hb1; have a1w := grow_cell hb1 _ _ a1)
                | (go_at_call 42; refine (uni_add xn' hBw1 hT1 HI.out.gs (ui_len HI.out).2 hS1 Hgt.out).mono ?_; rintro e w2 ⟨z1, zm, z3, ok, rfl, hBw2, hno, hyes⟩))
              all_goals
                cases ok
                · have Hf := hide (uni_no hBw2 (run_no HR.out (by rw [Hst.out, ← Ht.out, hno rfl]; rfl)))
                  clear hno hyes hT1 hS1
                  go_wp2_with fail
                  go_ret2
                  exact Hf.out
                · obtain ⟨s', xs', h1, h2, h3⟩ := hyes rfl
                  have Hon := hide (run_on HI.out HR.out (s' := s') (L' := T'.reverse) (by rw [Hst.out, ← Ht.out, h1]; rfl))
                  subst h2
                  have H3 := hide h3
                  clear hno hyes hT1 hS1 h1 h3
                  go_wp2_with fail
                  go_roundg m
                  case measure => omega
                  case rel => exact ⟨s', T', z1, z3, some ⟨g, 0, none⟩, t3, xs', ys', rfl, rfl, Hon.out.1, Hon.out.2, H3.out, hBw2⟩
            · have hnb : (xn' == yn') = false := by
                have : ¬ xn' = yn' := fun e => hc ⟨rfl, e⟩
                simp [this]
              clear hc
              obtain ⟨⟨⟨tv, tn⟩, tk⟩, ht⟩ : ∃ z, z = subT (bnd s) ((true, yn'), yk') := ⟨_, rfl⟩
              have Ht := hide ht
              have Hgt : Hid (Gd ((tv, tn), tk)) := by rw [Hid, ht]; exact gd_sub HI.out.gs Hgy.out
              have Hap := hide (uni_apply HTx.out HI.out.gs HSy.out Hgy.out ht (w' := wx.drew) (Below.refl _ _).drew)
              clear ht
              go_upto_region 11 with fail
              go_region_with (first
                | (go_at_call 43; refine Hap.out.mono ?_; rintro e w1 ⟨b1, b3, rfl, hT1, hS1, hb1⟩; have hBw1 := below_step hBx hb1; have a1w := grow_cell hb1 _ _ a1)
                | (go_at_call 42; refine (uni_add xn' hBw1 hT1 HI.out.gs (ui_len HI.out).2 hS1 Hgt.out).mono ?_; rintro e w2 ⟨z1, zm, z3, ok, rfl, hBw2, hno, hyes⟩))
              all_goals
                cases ok
                · have Hf := hide (uni_no hBw2 (run_no HR.out (by rw [Hst.out, ← Ht.out, hno rfl]; rfl)))
                  clear hno hyes hT1 hS1
                  go_wp2_with fail
                  go_ret2
                  exact Hf.out
                · obtain ⟨s', xs', h1, h2, h3⟩ := hyes rfl
                  have Hon := hide (run_on HI.out HR.out (s' := s') (L' := T'.reverse) (by rw [Hst.out, ← Ht.out, h1]; rfl))
                  subst h2
                  have H3 := hide h3
                  clear hno hyes hT1 hS1 h1 h3
                  go_wp2_with fail
                  go_roundg m
                  case measure => omega
                  case rel => exact ⟨s', T', z1, z3, some ⟨g, 0, none⟩, t3, xs', ys', rfl, rfl, Hon.out.1, Hon.out.2, H3.out, hBw2⟩

end Go.Proofs.YtaliegkkdhkfcacGreatDoor

namespace Go.Proofs.YtaliegkkdhkfcacGreatDoor
open Go.RowKit Go.Deep Go.ChangeShapes Go.WideShapes
attribute [local go_sem ↓] Go.wp_at_zero Go.wp_at_succ

theorem fin_norm {w : World} : ∀ {F : Fo} {b o : Nat}, FIn w F b o → FIn w (Fo.norm F) b o
  | .nil, _, _, _ => trivial
  | .node _ _ _ k r, _, _, ⟨h0, h1, ⟨a, c, b', o', h2, h3, h4, h5, h6⟩, h7⟩ => by
    refine ⟨h0, h1, ⟨a, c, b', o', ?_, ?_, ?_, h5, fin_norm h6⟩, fin_norm h7⟩
    · rw [norm_len]; exact h2
    · rw [norm_len]; exact h3
    · rw [norm_len]; exact h4
theorem sin_norm {w : World} {k : Fo} {a : Value} (h : SIn w k a) : SIn w (Fo.norm k) a := by
  obtain ⟨a, c, b, o, rfl, h3, h4, h5, h6⟩ := h
  exact ⟨a, c, b, o, by rw [norm_len], by rw [norm_len]; exact h3, by rw [norm_len]; exact h4, h5, fin_norm h6⟩
theorem norm_sizes : ∀ F : Fo, Fo.sizesR (Fo.norm F) = Fo.sizesR F
  | .nil => rfl
  | .node _ _ _ k r => by simp [Fo.norm, Fo.sizesR, norm_sizes k, norm_sizes r]

/-- What is known of right terms, without what is no part of them. -/
theorem good_of_walk {s : List Int} (hs : s.all okNum = true) : ∀ {F : Fo} {n : Nat}, n ≤ 13 → walkF s F (13 - (n : Int)) = 0 → Fo.ok (Fo.norm F) ∧ twoF (Fo.norm F) ∧ (∀ m, occF m (Fo.norm F) → 0 ≤ m ∧ m ≤ 4) ∧ depF (Fo.norm F) ≤ n
  | .nil, _, _, _ => ⟨trivial, trivial, fun m hm => by simp [Fo.norm, occF] at hm, Nat.zero_le _⟩
  | .node _ _ ⟨v, z⟩ k r, n, hn, h => by
    obtain ⟨hT, hr⟩ := walkF_ok h
    obtain ⟨hd, ha, hk⟩ := walkT_ok hT
    have h2 := alone_len hs ha
    obtain ⟨m, rfl⟩ : ∃ m, n = m + 1 := ⟨n - 1, by omega⟩
    have e : (13 : Int) - ((m + 1 : Nat) : Int) + 1 = 13 - (m : Int) := by omega
    rw [e] at hk
    obtain ⟨i1, i2, i3, i4⟩ := good_of_walk hs (n := m) (by omega) hk
    obtain ⟨j1, j2, j3, j4⟩ := good_of_walk hs (n := m + 1) hn hr
    simp only [Fo.norm]
    refine ⟨?_, ⟨by rw [norm_len]; exact h2, i2, j2⟩, fun q hq => ?_, ?_⟩
    · rw [ok_node]
      refine ⟨rfl, rfl, ⟨fun hv => ?_, i1⟩, j1⟩
      have hv' : v = true := hv
      subst hv'
      obtain ⟨rfl, _, _⟩ := alone_var ha
      rfl
    · rcases hq with hq | hq
      · cases v
        · exact i3 q (by simpa using hq)
        · obtain ⟨_, h0, h4⟩ := alone_var ha
          have : z = q := by simpa using hq
          omega
      · exact j3 q hq
    · simp only [depF]; omega
theorem gd_of_right {s : List Int} (hs : s.all okNum = true) {x : Bool × Int} {k : Fo} (h : wrongF s x k = 0) : Gd (x, Fo.norm k) ∧ depT (x, Fo.norm k) ≤ 12 ∧ tszR (Fo.norm k) ≤ 12 := by
  obtain ⟨h1, _, _, _, hw⟩ := right_of hs h
  have hF : walkF s (.node 0 0 x k .nil) (13 - ((12 : Nat) : Int)) = 0 := by
    have : walkT s x k 1 = 0 := hw
    simp only [walkF]
    have h3 : ∀ z : Int, z = 0 → (if z ≠ 0 then z else 0) = 0 := fun z hz => by simp [hz]
    exact h3 _ this
  obtain ⟨i1, i2, i3, i4⟩ := good_of_walk hs (n := 12) (by omega) hF
  simp only [Fo.norm] at i1 i2 i3 i4
  rw [ok_node] at i1
  rw [two_node] at i2
  refine ⟨⟨i1.2.2.1, i2.1, fun m hm => by have := i3 m (.inl hm); omega⟩, ?_, by unfold tszR at *; rw [norm_sizes]; exact h1⟩
  simp only [depF, depT] at *
  omega
/-- Right terms are of the first five variables. -/
theorem four_of_right {s : List Int} (hs : s.all okNum = true) {x : Bool × Int} {k : Fo} (h : wrongF s x k = 0) (m : Int) (hm : occT m (x, Fo.norm k)) : 0 ≤ m ∧ m ≤ 4 := by
  obtain ⟨h1, _, _, _, hw⟩ := right_of hs h
  have hF : walkF s (.node 0 0 x k .nil) (13 - ((12 : Nat) : Int)) = 0 := by
    have : walkT s x k 1 = 0 := hw
    simp only [walkF]
    have h3 : ∀ z : Int, z = 0 → (if z ≠ 0 then z else 0) = 0 := fun z hz => by simp [hz]
    exact h3 _ this
  obtain ⟨_, _, i3, _⟩ := good_of_walk hs (n := 12) (by omega) hF
  simp only [Fo.norm] at i3
  exact i3 m (.inl hm)
end Go.Proofs.YtaliegkkdhkfcacGreatDoor

namespace Go.Proofs.YtaliegkkdhkfcacGreatDoor
open Go.RowKit Go.Deep Go.ChangeShapes Go.WideShapes

theorem norm_norm : ∀ F : Fo, Fo.norm (Fo.norm F) = Fo.norm F
  | .nil => rfl
  | .node _ _ _ k r => by simp [Fo.norm, norm_norm k, norm_norm r]

/-- Terms laid side by side. -/
def two (t u : Tm) : Fo := .node 0 0 t.1 t.2 (.node 0 0 u.1 u.2 .nil)
/-- A right term that has been brought to one form is good. -/
theorem four_right {s : List Int} {x : Bool × Int} {k : Fo} (hs : s.all okNum = true) (hk : Fo.norm k = k) (h : wrongF s x k = 0) : ∀ m, occT m (x, k) → m ≤ 4 := fun m hm => by
  have := four_of_right hs h m (by rw [hk]; exact hm)
  exact this.2
theorem gd_right {s : List Int} {x : Bool × Int} {k : Fo} (hs : s.all okNum = true) (hk : Fo.norm k = k) (h : wrongF s x k = 0) : Gd (x, k) ∧ depT (x, k) ≤ 12 ∧ tszR k ≤ 12 := by
  have := gd_of_right hs h
  rwa [hk] at this

end Go.Proofs.YtaliegkkdhkfcacGreatDoor

namespace Go.Proofs.YtaliegkkdhkfcacGreatDoor
open Go.RowKit Go.Deep Go.ChangeShapes Go.WideShapes
attribute [local go_sem ↓] Go.wp_at_zero Go.wp_at_succ

set_option maxRecDepth 100000 in
set_option maxHeartbeats 400000 in
theorem format_any (n : Int) (h0 : 0 ≤ n) (h4 : n ≤ 4) (w : World) : Calls Tryz.prog 103 #[.int .i64 n, .int .i64 10] w fun e w' => e = .returned (str [dig n]) ∧ w' = w := by
  have h1 : n < 100 := by omega
  go_enter Tryz.func103, Tryz.ntmps103
  go_wp2_with fail
  refine (small_any n h0 h4 w).mono ?_
  rintro e w' ⟨rfl, hw'⟩
  rw [hw']
  clear hw' w'
  go_wp2_with fail
  go_ret
  exact ⟨rfl, rfl⟩
set_option maxRecDepth 100000 in
set_option maxHeartbeats 400000 in
theorem itoaI_any (n : Int) (h0 : 0 ≤ n) (h4 : n ≤ 4) (w : World) : Calls Tryz.prog 89 #[.int .i64 n] w fun e w' => e = .returned (str [dig n]) ∧ w' = w := by
  go_enter Tryz.func89, Tryz.ntmps89
  go_wp2_with fail
  refine (format_any n h0 h4 w).mono ?_
  rintro e w' ⟨rfl, hw'⟩
  rw [hw']
  clear hw' w'
  go_wp2_with fail
  go_ret
  exact ⟨rfl, rfl⟩
set_option maxRecDepth 100000 in
set_option maxHeartbeats 400000 in
theorem itoa_any (n : Int) (h0 : 0 ≤ n) (h4 : n ≤ 4) (w : World) : Calls Tryz.prog 63 #[.int .i64 n] w fun e w' => e = .returned (str [dig n]) ∧ w' = w := by
  go_enter Tryz.func63, Tryz.ntmps63
  go_wp2_with fail
  refine (itoaI_any n h0 h4 w).mono ?_
  rintro e w' ⟨rfl, hw'⟩
  rw [hw']
  clear hw' w'
  go_wp2_with fail
  go_ret
  exact ⟨rfl, rfl⟩

theorem itoa_is (n : Int) (h0 : 0 ≤ n) (h4 : n ≤ 4) (w : World) : Calls Tryz.prog 63 #[.int .i64 n] w fun e w' => ∃ D : ByteArray, e = .returned (.string D) ∧ D.data.toList = [dig n] ∧ w' = w := by
  refine (itoa_any n h0 h4 w).mono ?_
  rintro e w' ⟨rfl, hw'⟩
  exact ⟨_, rfl, rfl, hw'⟩
/-- All terms but the first. -/
theorem terms_tail {n c b o : Nat} (hn : 2 ≤ n) (hlc : n ≤ c) (w : World) : (Instr.slice 53 (.slice (some ⟨b, o, none⟩) n c) (some (.int .i64 1)) none none).run Tryz.prog w = .ok (.slice (some ⟨b, o + 3, none⟩) (n - 1) (c - 1)) w := by
  rw [run_slice_l (ht := by kernel_rfl) (h0 := by omega) (h1 := by omega)]
  have e : (sizeOf (Tryz.prog.elem 53)).run Tryz.prog w = .ok 3 w := by
    rw [show Tryz.prog.elem 53 = 55 by kernel_rfl]
    simp [go_sem]
  have hc : ¬ c = 1 := by omega
  simp [Result.andThen, sliced, e, hc, Addr.add]
/-- A byte alone is a text. -/
theorem byte_text {w : World} {n : Int} (h0 : 0 ≤ n) (h1 : n ≤ 100) : (convert 106 9 (.slice (some ⟨w.heap.size, 0, none⟩) 1 1)).run Tryz.prog (w.alloc (.cells #[.int .u8 (97 + n)] 5)) = .ok (str [sym n]) (w.alloc (.cells #[.int .u8 (97 + n)] 5)) := by
  have h := World.ownsRow_lit (base := 0) (e := 5) (size := 1) w #[.int .u8 ((sym n).toNat : Int)] 1 (Nat.zero_le _) (by unfold maxLen; omega) rfl
  rw [sym_nat h0 h1] at h
  exact str_of_row (T := [sym n]) (by rw [show bytesV [sym n] = [.int .u8 (97 + n)] by simp [bytesV, sym_nat h0 h1]]; exact h)
theorem ba_size {B : ByteArray} {l : List UInt8} (h : B.data.toList = l) : B.size = l.length := by rw [← h]; exact Array.length_toList.symm

def TextRSaid (x : Bool × Int) (k : Fo) : Prop := ∀ (a : Value) (w : World), SIn w k a → (0 ≤ x.2 ∧ x.2 ≤ (if x.1 then 4 else 100)) → Fo.texts k → (textT x k).length ≤ 100000 →
    Calls Tryz.prog 38 #[.agg #[.bool x.1, .int .i64 x.2, a]] w fun e w' => ∃ U : ByteArray, e = .returned (.string U) ∧ U.data.toList = textT x k ∧ Below w.heap.size w w'

set_option maxHeartbeats 1000000 in
set_option maxRecDepth 100000 in
theorem textR_any (x : Bool × Int) (k : Fo) : TextRSaid x k := by
  refine Fo.ind1 (p := TextRSaid) ?_ x k
  clear x k
  intro x k ih a w hS hx ht hl
  obtain ⟨xv, xn⟩ := x
  have HI := hide ih
  have Ht := hide ht
  have Hl := hide hl
  obtain ⟨ad, c, b, o, rfl, had, hlc, hcm, hF⟩ := hS
  have HF := hide hF
  unfold maxLen at hcm
  clear ih hF ht hl
  cases xv
  · simp only [Bool.false_eq_true, if_false] at hx
    obtain ⟨hx0, hx1⟩ := hx
    have hcv := byte_text (w := w.alloc (.cells #[.bool false, .int .i64 xn, .slice ad (Fo.len k) c] 55)) hx0 hx1
    rw [World.size_alloc] at hcv
    obtain ⟨S, hS⟩ : ∃ S : ByteArray, S = ⟨[sym xn].toArray⟩ := ⟨_, rfl⟩
    have hcv' : (convert 106 9 (.slice (some ⟨w.heap.size + 1, 0, none⟩) 1 1)).run Tryz.prog ((w.alloc (.cells #[.bool false, .int .i64 xn, .slice ad (Fo.len k) c] 55)).alloc (.cells #[.int .u8 (97 + xn)] 5)) = .ok (.string S) ((w.alloc (.cells #[.bool false, .int .i64 xn, .slice ad (Fo.len k) c] 55)).alloc (.cells #[.int .u8 (97 + xn)] 5)) := by rw [hS]; exact hcv
    have HS : Hid (S.data.toList = [sym xn]) := by rw [hS]; rfl
    have hs1 : S.size = 1 := ba_size HS.out
    clear hS hcv
    go_enter Tryz.func38, Tryz.ntmps38
    go_upto_region 4 with fail
    generalize hwa : (w.alloc (.cells #[.bool false, .int .i64 xn, .slice ad (Fo.len k) c] 55)).alloc (.cells #[.int .u8 (97 + xn)] 5) = wa
    have t2 : wa.cell? ⟨w.heap.size, 2, none⟩ = some (.slice ad (Fo.len k) c) := by rw [← hwa]; simp
    have hba : Below w.heap.size w wa := by rw [← hwa]; exact (below_alloc _ _).alloc (by simp) _
    clear hwa hcv'
    by_cases h0 : Fo.len k = 0
    · have h0' : (Fo.len k : Int) = 0 := by omega
      have Hfin : Hid (textT (false, xn) k = [sym xn]) := by simp [Hid, textT, h0]
      clear had
      go_wp2_with fail
      go_ret
      exact ⟨S, rfl, by rw [HS.out, Hfin.out], hba⟩
    obtain ⟨⟨⟨yv, yn⟩, yk⟩, hy⟩ : ∃ y, k.list[0]? = some y := ⟨k.list[0]'(by rw [Fo.len_list]; omega), by simp⟩
    obtain ⟨c0, c1, yv', c2, hSy⟩ := (HF.out.below hba).at hy
    simp only [Nat.zero_mul, Nat.add_zero] at c0 c1 c2
    have HSy := hide hSy
    obtain ⟨ya, yc, yb, yo, rfl, -, -, -, -⟩ := hSy
    have ha : ad = some ⟨b, o, none⟩ := had (by omega)
    subst ha
    have Hty := hide (texts_at Ht.out hy)
    have Htl : Hid (sym xn :: textF k 0 ++ [41] = textT (false, xn) k) := by simp [Hid, textT, h0]
    have Hle : Hid ((textF k 0).length + 2 ≤ 100000) := by
      have := Hl.out
      rw [← Htl.out] at this
      simp at this
      unfold Hid
      omega
    have Hx1 : Hid (txTo k 1 = 40 :: textT (yv, yn) yk) := by
      have := txTo_succ hy
      rw [Hid, this]
      simp [txTo, Fo.take, textF, signF]
    have Hyl : Hid ((textT (yv, yn) yk).length ≤ 100000) := by
      have h1 := txTo_le k 1
      have h2 := Hle.out
      rw [Hx1.out] at h1
      simp at h1
      unfold Hid
      omega
    have Hy := hide hy
    clear had hy
    by_cases h1 : Fo.len k = 1
    · have h1b : ((Fo.len k : Int) == 1) = true := by rw [beq_iff_eq]; omega
      have h0b : ((Fo.len k : Int) == 0) = false := by simpa using h0
      have Hfin : Hid (textT (false, xn) k = [sym xn] ++ [40] ++ textT (yv, yn) yk ++ [41]) := by
        have : txTo k 1 = textF k 0 := by rw [← h1, txTo_end]
        rw [Hid, ← Htl.out, ← this, Hx1.out]
        simp
      have hkl : 0 < Fo.len k := by omega
      clear h0 h1
      go_wp2_with fail
      refine (HI.out ((yv, yn), yk) (List.mem_of_getElem? Hy.out) _ _ HSy.out Hty.out.1 Hty.out.2 Hyl.out).mono ?_
      rintro e w1 ⟨U, rfl, hU, hb1⟩
      have HU := hide hU
      have hUs : U.size ≤ 100000 := by rw [ba_size hU]; exact Hyl.out
      have hB1 := below_step hba hb1
      clear hU hb1
      have hq1 : (S ++ (⟨#[40]⟩ : ByteArray)).size ≤ 10 := by rw [ByteArray.size_append, hs1]; decide
      have hq2 : (S ++ (⟨#[40]⟩ : ByteArray) ++ U).size ≤ 100010 := by rw [ByteArray.size_append]; omega
      go_wp2_with fail
      go_ret
      refine ⟨_, rfl, ?_, hB1⟩
      rw [ByteArray.data_append, ByteArray.data_append, ByteArray.data_append, Array.toList_append, Array.toList_append, Array.toList_append, HS.out, HU.out, Hfin.out]
    · have h1b : ((Fo.len k : Int) == 1) = false := by simp; omega
      have h0b : ((Fo.len k : Int) == 0) = false := by simpa using h0
      have hkl : 2 ≤ Fo.len k := by omega
      have hkl' : 0 < Fo.len k := by omega
      have hsl := terms_tail (b := b) (o := o) hkl hlc
      clear h0 h1
      go_wp2_with fail
      refine (HI.out ((yv, yn), yk) (List.mem_of_getElem? Hy.out) _ _ HSy.out Hty.out.1 Hty.out.2 Hyl.out).mono ?_
      rintro e w1 ⟨U, rfl, hU, hb1⟩
      have hUs : U.size ≤ 100000 := by rw [ba_size hU]; exact Hyl.out
      have hB1 := below_step hba hb1
      have t2' := grow_cell hb1 _ _ t2
      have hq1 : (S ++ (⟨#[40]⟩ : ByteArray)).size ≤ 10 := by rw [ByteArray.size_append, hs1]; decide
      have HS1 : Hid ((S ++ (⟨#[40]⟩ : ByteArray) ++ U).data.toList = sym xn :: txTo k 1) := by
        rw [Hid, ByteArray.data_append, ByteArray.data_append, Array.toList_append, Array.toList_append, HS.out, hU, Hx1.out]
        rfl
      clear hU hb1 t2 c0 c1 c2
      go_wp2_with fail
      generalize S ++ (⟨#[40]⟩ : ByteArray) ++ U = S1 at *
      go_loopw [3, 47] (fun sv i wr => ∃ (j : Nat) (R : ByteArray), j ≤ Fo.len k - 1 ∧ i = .int .i64 j ∧ sv = .string R ∧ R.data.toList = sym xn :: txTo k (j + 1) ∧ Below w.heap.size w wr) (fun _ i _ => Fo.len k - 1 - (intOf i).toNat)
      case atStart => exact ⟨0, S1, Nat.zero_le _, rfl, rfl, HS1.out, hB1⟩
      case round =>
        obtain ⟨j, R, hj, rfl, rfl, hR, hBr⟩ := hrel
        have HR := hide hR
        have hRs : R.size ≤ 100000 := by
          rw [ba_size hR]
          have h1 := txTo_le k (j + 1)
          have h2 := Hle.out
          simp
          omega
        clear hR
        by_cases hlt : j < Fo.len k - 1
        · have hlt' : (j : Int) < ((Fo.len k - 1 : Nat) : Int) := by omega
          have hj0 : (0 : Int) ≤ (j : Int) := by omega
          obtain ⟨⟨⟨zv, zn⟩, zk⟩, hz⟩ : ∃ y, k.list[j + 1]? = some y := ⟨k.list[j + 1]'(by rw [Fo.len_list]; omega), by simp⟩
          obtain ⟨c0, c1, zv', c2, hSz⟩ := (HF.out.below hBr).at hz
          rw [show o + (j + 1) * 3 = o + 3 + j * 3 by omega] at c0 c1 c2
          have HSz := hide hSz
          obtain ⟨za, zc, zb, zo, rfl, -, -, -, -⟩ := hSz
          have Htz := hide (texts_at Ht.out hz)
          have Hnx := hide (txTo_succ hz)
          have Hzl : Hid ((textT (zv, zn) zk).length ≤ 100000) := by
            have h1 := txTo_le k (j + 1 + 1)
            have h2 := Hle.out
            rw [Hnx.out] at h1
            simp at h1
            unfold Hid
            omega
          have Hsg : Hid (signF ((j + 1 : Nat) : Int) = 44) := by rw [Hid, signF, if_neg (by omega)]
          have Hz := hide hz
          clear hz
          go_upto_region 13 with fail
          generalize hwa : wr.alloc (.cells #[.bool zv, .int .i64 zn, .slice za (Fo.len zk) zc] 55) = wb
          have e0 : wb.cell? ⟨wr.heap.size, 0, none⟩ = some (.bool zv) := by rw [← hwa]; simp
          have e1 : wb.cell? ⟨wr.heap.size, 1, none⟩ = some (.int .i64 zn) := by rw [← hwa]; simp
          have e2 : wb.cell? ⟨wr.heap.size, 2, none⟩ = some (.slice za (Fo.len zk) zc) := by rw [← hwa]; simp
          have hbb : Below wr.heap.size wr wb := by rw [← hwa]; exact below_alloc _ _
          clear hwa c0 c1 c2
          have hq2 : (R ++ (⟨#[44]⟩ : ByteArray)).size ≤ 100010 := by rw [ByteArray.size_append]; have : (⟨#[44]⟩ : ByteArray).size = 1 := rfl; omega
          go_wp2_with fail
          refine (HI.out ((zv, zn), zk) (List.mem_of_getElem? Hz.out) _ _ (HSz.out.below hbb) Htz.out.1 Htz.out.2 Hzl.out).mono ?_
          rintro e w2 ⟨V, rfl, hV, hb2⟩
          have hVs : V.size ≤ 100000 := by rw [ba_size hV]; exact Hzl.out
          have hB2 := below_step hBr (below_step hbb hb2)
          have HR2 : Hid ((R ++ (⟨#[44]⟩ : ByteArray) ++ V).data.toList = sym xn :: txTo k (j + 1 + 1)) := by
            rw [Hid, ByteArray.data_append, ByteArray.data_append, Array.toList_append, Array.toList_append, HR.out, hV, Hnx.out, Hsg.out]
            simp
          clear hV hb2
          go_wp2_with fail
          go_roundw
          case rel => exact ⟨j + 1, _, by omega, by go_num, rfl, HR2.out, hB2⟩
          case measure => simp [intOf]; omega
        · have Hfin : Hid (textT (false, xn) k = (sym xn :: txTo k (j + 1)) ++ [41]) := by
            have e : j + 1 = Fo.len k := by omega
            rw [Hid, ← Htl.out, e, txTo_end]
          have hge : ¬ ((j : Int) < ((Fo.len k - 1 : Nat) : Int)) := by omega
          go_wp2_with fail
          go_ret
          refine ⟨_, rfl, ?_, hBr⟩
          rw [ByteArray.data_append, Array.toList_append, HR.out, Hfin.out]
  · simp only [if_true] at hx
    obtain ⟨hx0, hx1⟩ := hx
    go_enter Tryz.func38, Tryz.ntmps38
    go_wp2_with fail
    refine (itoa_is xn hx0 hx1 _).mono ?_
    rintro e w' ⟨D, rfl, hD, hw'⟩
    rw [hw']
    have HD := hide hD
    have hs := ba_size hD
    simp only [List.length_cons, List.length_nil] at hs
    clear hw' w' hD
    go_wp2_with fail
    go_ret
    refine ⟨_, rfl, ?_, below_alloc _ _⟩
    rw [ByteArray.data_append, Array.toList_append, HD.out]
    rfl

end Go.Proofs.YtaliegkkdhkfcacGreatDoor

namespace Go.Proofs.YtaliegkkdhkfcacGreatDoor
open Go.RowKit Go.Deep Go.ChangeShapes Go.WideShapes
attribute [local go_sem ↓] Go.wp_at_zero Go.wp_at_succ
attribute [local go_sem] byte_zero text_tail

/-- The reader lies in the block rb: its symbols, what is left of the text, its error. -/
def RdAt (w : World) (rb : Nat) (sv : Value) (l : List UInt8) (e : Int) : Prop :=
  w.cell? ⟨rb, 0, none⟩ = some sv ∧ w.cell? ⟨rb, 1, none⟩ = some (str l) ∧ w.cell? ⟨rb, 2, none⟩ = some (.int .i64 e) ∧ ∀ i, w.frozen? ⟨rb, i, none⟩ = false

theorem RdAt.of_block {w w' : World} {rb : Nat} {sv : Value} {l : List UInt8} {e : Int} (h : RdAt w rb sv l e) (hb : w'.heap[rb]? = w.heap[rb]?) : RdAt w' rb sv l e :=
  ⟨(World.cell?_of_block hb).trans h.1, (World.cell?_of_block hb).trans h.2.1, (World.cell?_of_block hb).trans h.2.2.1, fun i => (World.frozen?_of_block hb).trans (h.2.2.2 i)⟩
theorem RdAt.setE {w : World} {rb : Nat} {sv : Value} {l : List UInt8} {e e' : Int} (h : RdAt w rb sv l e) : RdAt (w.setCell ⟨rb, 2, none⟩ (.int .i64 e')) rb sv l e' :=
  ⟨by rw [set_other (by simp)]; exact h.1, by rw [set_other (by simp)]; exact h.2.1, set_same h.2.2.1, fun i => by rw [World.frozen?_setCell]; exact h.2.2.2 i⟩
theorem RdAt.setS {w : World} {rb : Nat} {sv : Value} {l l' : List UInt8} {e : Int} (h : RdAt w rb sv l e) : RdAt (w.setCell ⟨rb, 1, none⟩ (str l')) rb sv l' e :=
  ⟨by rw [set_other (by simp)]; exact h.1, set_same h.2.1, by rw [set_other (by simp)]; exact h.2.2.1, fun i => by rw [World.frozen?_setCell]; exact h.2.2.2 i⟩
theorem RdAt.lt {w : World} {rb : Nat} {sv : Value} {l : List UInt8} {e : Int} (h : RdAt w rb sv l e) : rb < w.heap.size := World.block_lt_of_cell? _ _ h.1
theorem fr_set {w : World} {rb i : Nat} {v : Value} : Fr w (w.setCell ⟨rb, i, none⟩ v) (some rb) none :=
  ⟨rfl, rfl, rfl, by simp, fun q _ hq _ => Below.heap_setCell _ _ _ _ (fun e => hq (by rw [e]))⟩

set_option maxRecDepth 100000 in
set_option maxHeartbeats 400000 in
theorem fail_any (rb : Nat) (sv : Value) (l : List UInt8) (e' : Int) (w : World) (h : RdAt w rb sv l 0) :
    Calls Tryz.prog 106 #[.pointer (some ⟨rb, 0, none⟩), .int .i64 e'] w fun e w' => e = .returned (.tuple #[]) ∧ w' = w.setCell ⟨rb, 2, none⟩ (.int .i64 e') := by
  obtain ⟨h0, h1, h2, hf⟩ := h
  go_enter Tryz.func106, Tryz.ntmps106
  go_wp2_with fail
  exact bodyPost_end (v := .tuple #[]) (by simp [results, Tryz.results106, go_sem]) rfl ⟨rfl, rfl⟩

/-- The error behind a sign that must be. -/
def isE (c : UInt8) (l : List UInt8) (e : Int) : Int := if e ≠ 0 then e else (sgn c l).1

set_option maxRecDepth 100000 in
set_option maxHeartbeats 400000 in
theorem is_any (c : UInt8) (rb : Nat) (sv : Value) (l : List UInt8) (e : Int) (w : World) (h : RdAt w rb sv l e) (hl : e = 0 → l.length ≤ maxLen) :
    Calls Tryz.prog 107 #[.pointer (some ⟨rb, 0, none⟩), .int .u8 (c.toNat : Int)] w fun e' w' => e' = .returned (.tuple #[]) ∧ (∃ l', RdAt w' rb sv l' (isE c l e) ∧ (isE c l e = 0 → l' = (sgn c l).2)) ∧ Fr w w' (some rb) none ∧ w'.heap.size = w.heap.size := by
  have H := hide h
  obtain ⟨h0, h1, h2, hf⟩ := h
  by_cases he : e = 0
  · subst he
    have hl := hl rfl
    unfold maxLen at hl
    cases l with
    | nil =>
      have Hs : Hid (isE c [] 0 = 8) := by simp [Hid, isE, sgn]
      go_enter Tryz.func107, Tryz.ntmps107
      go_wp2_with fail
      refine (fail_any rb sv [] 8 w H.out).mono ?_
      rintro e w' ⟨rfl, hw'⟩
      rw [hw']
      clear hw' w'
      go_wp2_with fail
      refine bodyPost_end (v := .tuple #[]) (by simp [results, Tryz.results107, go_sem]) rfl ⟨rfl, ⟨[], ?_, fun h => ?_⟩, fr_set, by simp⟩
      · rw [Hs.out]; exact H.out.setE
      · rw [Hs.out] at h; cases h
    | cons d r =>
      by_cases hd : d = c
      · subst hd
        have Hs : Hid (isE d (d :: r) 0 = 0 ∧ (sgn d (d :: r)).2 = r) := by simp [Hid, isE, sgn]
        have hsl := run_tail d r
        go_enter Tryz.func107, Tryz.ntmps107
        go_wp2_with fail
        refine bodyPost_end (v := .tuple #[]) (by simp [results, Tryz.results107, go_sem]) rfl ⟨rfl, ⟨r, ?_, fun h => ?_⟩, fr_set, by simp⟩
        · rw [Hs.out.1]; exact H.out.setS
        · rw [Hs.out.2]
      · have Hs : Hid (isE c (d :: r) 0 = 2) := by simp [Hid, isE, sgn, hd]
        have hb : ((d.toNat : Int) != (c.toNat : Int)) = true := by
          simp only [bne_iff_ne, ne_eq, Int.natCast_inj]
          exact fun e => hd (UInt8.toNat_inj.1 e)
        clear hd
        go_enter Tryz.func107, Tryz.ntmps107
        go_wp2_with fail
        refine (fail_any rb sv (d :: r) 2 w H.out).mono ?_
        rintro e w' ⟨rfl, hw'⟩
        rw [hw']
        clear hw' w'
        go_wp2_with fail
        refine bodyPost_end (v := .tuple #[]) (by simp [results, Tryz.results107, go_sem]) rfl ⟨rfl, ⟨d :: r, ?_, fun h => ?_⟩, fr_set, by simp⟩
        · rw [Hs.out]; exact H.out.setE
        · rw [Hs.out] at h; cases h
  · have Hs : Hid (isE c l e = e) := by simp [Hid, isE, he]
    have heb : (e != 0) = true := by simpa using he
    have He := hide he
    clear he
    go_enter Tryz.func107, Tryz.ntmps107
    go_wp2_with fail
    refine bodyPost_end (v := .tuple #[]) (by simp [results, Tryz.results107, go_sem]) rfl ⟨rfl, ⟨l, ?_, fun h => ?_⟩, Fr.refl _ _ _, rfl⟩
    · rw [Hs.out]; exact H.out
    · rw [Hs.out] at h; exact absurd h He.out

end Go.Proofs.YtaliegkkdhkfcacGreatDoor

namespace Go.Proofs.YtaliegkkdhkfcacGreatDoor
open Go.RowKit Go.Deep Go.ChangeShapes Go.WideShapes
attribute [local go_sem ↓] Go.wp_at_zero Go.wp_at_succ
attribute [local go_sem] byte_zero text_tail

def rdE (s : List Int) (f : Nat) (l : List UInt8) (e : Int) : Int := if e ≠ 0 then e else (readT s f l).1

/-- Within a reading: the reader, what has stayed, the answer's box. -/
def Rs (w : World) (rb : Nat) (sv : Value) (l : List UInt8) (e : Int) (w1 : World) : Prop :=
  RdAt w1 rb sv l e ∧ Fr w w1 (some rb) none ∧ w1.cell? ⟨w.heap.size, 0, none⟩ = some (.bool false) ∧ w1.cell? ⟨w.heap.size, 1, none⟩ = some (.int .i64 0) ∧ w1.cell? ⟨w.heap.size, 2, none⟩ = some (.slice none 0 0) ∧ (∀ i, w1.frozen? ⟨w.heap.size, i, none⟩ = false) ∧ rb < w.heap.size

theorem Rs.start {w : World} {rb : Nat} {sv : Value} {l : List UInt8} {e : Int} (h : RdAt w rb sv l e) : Rs w rb sv l e (w.alloc (.cells #[.bool false, .int .i64 0, .slice none 0 0] 55)) :=
  ⟨h.of_block (Below.heap_alloc _ _ _ h.lt), Fr.of_below (below_alloc _ _) _ _, by simp, by simp, by simp, fun i => by simp, h.lt⟩
theorem Rs.set {w w1 : World} {rb i : Nat} {sv v : Value} {l l' : List UInt8} {e e' : Int} (h : Rs w rb sv l e w1) (hR : RdAt (w1.setCell ⟨rb, i, none⟩ v) rb sv l' e') : Rs w rb sv l' e' (w1.setCell ⟨rb, i, none⟩ v) := by
  obtain ⟨_, h2, h3, h4, h5, h6, h7⟩ := h
  refine ⟨hR, h2.trans fr_set (fun q _ hq => hq), ?_, ?_, ?_, fun i => by rw [World.frozen?_setCell]; exact h6 i, h7⟩
  · rw [set_other (by intro e; simp only [Addr.mk.injEq] at e; omega)]; exact h3
  · rw [set_other (by intro e; simp only [Addr.mk.injEq] at e; omega)]; exact h4
  · rw [set_other (by intro e; simp only [Addr.mk.injEq] at e; omega)]; exact h5
theorem Rs.setE {w w1 : World} {rb : Nat} {sv : Value} {l : List UInt8} {e : Int} (h : Rs w rb sv l e w1) (e' : Int) : Rs w rb sv l e' (w1.setCell ⟨rb, 2, none⟩ (.int .i64 e')) := h.set h.1.setE
theorem Rs.setS {w w1 : World} {rb : Nat} {sv : Value} {l : List UInt8} {e : Int} (h : Rs w rb sv l e w1) (l' : List UInt8) : Rs w rb sv l' e (w1.setCell ⟨rb, 1, none⟩ (str l')) := h.set h.1.setS
theorem set3_heapT {w : World} {b o q : Nat} {x y z : Value} (h : q ≠ b) : (set3 w b o x y z).heap[q]? = w.heap[q]? := by
  unfold set3
  rw [Below.heap_setCell _ _ _ _ h, Below.heap_setCell _ _ _ _ h, Below.heap_setCell _ _ _ _ h]
theorem Rs.fin {w w1 : World} {rb : Nat} {sv : Value} {l : List UInt8} {e : Int} (h : Rs w rb sv l e w1) (x y z : Value) : RdAt (set3 w1 w.heap.size 0 x y z) rb sv l e ∧ Fr w (set3 w1 w.heap.size 0 x y z) (some rb) none := by
  obtain ⟨h1, h2, _, _, _, _, h7⟩ := h
  refine ⟨h1.of_block (set3_heapT (by omega)), h2.os, h2.tape, h2.output, by rw [set3_size]; exact h2.size, fun q hq e1 e2 => ?_⟩
  rw [set3_heapT (by omega)]
  exact h2.block q hq e1 e2

/-- What Term leaves. -/
def TermPost (s : List Int) (f : Nat) (sv : Value) (l : List UInt8) (e : Int) (w : World) (rb : Nat) (er : Ending) (w' : World) : Prop :=
  ∃ (x : Bool × Int) (k : Fo) (a1 : Option Addr) (a2 a3 : Nat) (l' : List UInt8), er = .returned (.agg #[.bool x.1, .int .i64 x.2, .slice a1 a2 a3]) ∧ SB (New w w') w' k (.slice a1 a2 a3) ∧ Fr w w' (some rb) none ∧ RdAt w' rb sv l' (rdE s f l e) ∧ (rdE s f l e = 0 → (x, k) = (readT s f l).2.1 ∧ l' = (readT s f l).2.2)
theorem TermPost.mk {s : List Int} {f : Nat} {sv : Value} {l : List UInt8} {e : Int} {w : World} {rb : Nat} {er : Ending} {w' : World} (h : ∃ (x : Bool × Int) (k : Fo) (a1 : Option Addr) (a2 a3 : Nat) (l' : List UInt8), er = .returned (.agg #[.bool x.1, .int .i64 x.2, .slice a1 a2 a3]) ∧ SB (New w w') w' k (.slice a1 a2 a3) ∧ Fr w w' (some rb) none ∧ RdAt w' rb sv l' (rdE s f l e) ∧ (rdE s f l e = 0 → (x, k) = (readT s f l).2.1 ∧ l' = (readT s f l).2.2)) : TermPost s f sv l e w rb er w' := h

def TermSaid (s : List Int) (f : Nat) : Prop := ∀ (W : World) (sv : Value) (l : List UInt8) (e : Int) (w : World) (rb : Nat), NIn W s sv → s.all okNum = true → W.heap.size ≤ rb → Below W.heap.size W w → RdAt w rb sv l e → (e = 0 → l.length < f ∧ l.length ≤ maxLen) →
    Calls Tryz.prog 102 #[.pointer (some ⟨rb, 0, none⟩)] w (TermPost s f sv l e w rb)

set_option maxRecDepth 100000 in
set_option maxHeartbeats 400000 in
theorem term_bad (s : List Int) (f : Nat) (sv : Value) (l : List UInt8) (e : Int) (w : World) (rb : Nat) (hR : RdAt w rb sv l e) (he : e ≠ 0) :
    Calls Tryz.prog 102 #[.pointer (some ⟨rb, 0, none⟩)] w (TermPost s f sv l e w rb) := by
  have HS := hide (Rs.start hR)
  have He := hide he
  have heb : (e != 0) = true := by simpa using he
  have Hd : Hid (rdE s f l e = e) := by simp [Hid, rdE, he]
  clear he hR
  go_enter Tryz.func102, Tryz.ntmps102
  go_upto_region 1 with fail
  generalize w.alloc (.cells #[.bool false, .int .i64 0, .slice none 0 0] 55) = w0 at *
  obtain ⟨⟨h0, h1, h2, hf⟩, -, r0, r1, r2, rf, hlt⟩ := HS.out
  go_wp2_with fail
  refine bodyPost_ret (v := .agg #[.bool false, .int .i64 0, .slice none 0 0]) (by simp [results, Tryz.results102, go_sem, r0, r1, r2]) rfl (TermPost.mk ⟨(false, 0), .nil, none, 0, 0, l, rfl, SB.nil _ _, (HS.out.fin _ _ _).2, ?_, fun h => ?_⟩)
  · rw [Hd.out]; exact (HS.out.fin _ _ _).1
  · rw [Hd.out] at h; exact absurd h He.out

theorem is40 (rb : Nat) (sv : Value) (l : List UInt8) (e : Int) (w : World) (h : RdAt w rb sv l e) (hl : e = 0 → l.length ≤ maxLen) :
    Calls Tryz.prog 107 #[.pointer (some ⟨rb, 0, none⟩), .int .u8 40] w fun e' w' => e' = .returned (.tuple #[]) ∧ (∃ l', RdAt w' rb sv l' (isE 40 l e) ∧ (isE 40 l e = 0 → l' = (sgn 40 l).2)) ∧ Fr w w' (some rb) none ∧ w'.heap.size = w.heap.size := is_any 40 rb sv l e w h hl
theorem is44 (rb : Nat) (sv : Value) (l : List UInt8) (e : Int) (w : World) (h : RdAt w rb sv l e) (hl : e = 0 → l.length ≤ maxLen) :
    Calls Tryz.prog 107 #[.pointer (some ⟨rb, 0, none⟩), .int .u8 44] w fun e' w' => e' = .returned (.tuple #[]) ∧ (∃ l', RdAt w' rb sv l' (isE 44 l e) ∧ (isE 44 l e = 0 → l' = (sgn 44 l).2)) ∧ Fr w w' (some rb) none ∧ w'.heap.size = w.heap.size := is_any 44 rb sv l e w h hl
theorem is41 (rb : Nat) (sv : Value) (l : List UInt8) (e : Int) (w : World) (h : RdAt w rb sv l e) (hl : e = 0 → l.length ≤ maxLen) :
    Calls Tryz.prog 107 #[.pointer (some ⟨rb, 0, none⟩), .int .u8 41] w fun e' w' => e' = .returned (.tuple #[]) ∧ (∃ l', RdAt w' rb sv l' (isE 41 l e) ∧ (isE 41 l e = 0 → l' = (sgn 41 l).2)) ∧ Fr w w' (some rb) none ∧ w'.heap.size = w.heap.size := is_any 41 rb sv l e w h hl

/-- Where a loop over arguments stands: its error, what is read. -/
def Md (R : List UInt8 → Int × ((Bool × Int) × Fo) × List UInt8) (m : Nat) (r : List UInt8) (j : Nat) (acc : Fo) (E : Int) (l : List UInt8) : Prop :=
  (E ≠ 0 → (readA R m 0 .nil r).1 = E) ∧ (E = 0 → readA R m 0 .nil r = readA R (m - j) j acc l ∧ l.length ≤ r.length)

theorem Md.step {s : List Int} {f m : Nat} {r : List UInt8} {j : Nat} {acc k : Fo} {E E1 E2 : Int} {l l1 l2 : List UInt8} {x : Bool × Int} (h : Md (readT s f) m r j acc E l) (hj : j < m) (hE1 : E1 = isE (signF j) l E) (hl1 : E1 = 0 → l1 = (sgn (signF j) l).2)
    (hE2 : E2 = rdE s f l1 E1) (hl2 : E2 = 0 → (x, k) = (readT s f l1).2.1 ∧ l2 = (readT s f l1).2.2) : Md (readT s f) m r (j + 1) (Fo.snoc acc x k) E2 l2 := by
  by_cases h0 : E = 0
  · subst h0
    obtain ⟨h1, h2⟩ := h.2 rfl
    have e1 : E1 = (sgn (signF j) l).1 := by rw [hE1, isE]; simp
    have hA : readA (readT s f) m 0 .nil r = if (sgn (signF j) l).1 ≠ 0 then ((sgn (signF j) l).1, .nil, []) else
            if (readT s f (sgn (signF j) l).2).1 ≠ 0 then ((readT s f (sgn (signF j) l).2).1, .nil, []) else
            readA (readT s f) (m - (j + 1)) ((j : Int) + 1) (Fo.snoc acc (readT s f (sgn (signF j) l).2).2.1.1 (readT s f (sgn (signF j) l).2).2.1.2) (readT s f (sgn (signF j) l).2).2.2 := by
      rw [h1, show m - j = (m - (j + 1)) + 1 by omega]; rfl
    by_cases h3 : E1 = 0
    · have hl1' := hl1 h3
      have e2 : E2 = (readT s f l1).1 := by rw [hE2, rdE, h3]; simp
      rw [← e1, if_neg (by simpa using h3), ← hl1', ← e2] at hA
      have hle := sgn_len (signF j) l (by rw [← e1]; exact h3)
      rw [← hl1'] at hle
      have hle2 := readT_le s f l1
      refine ⟨fun h => ?_, fun h => ?_⟩
      · rw [hA, if_pos h]
      · obtain ⟨q1, q2⟩ := hl2 h
        rw [if_neg (by simpa using h), ← q1, ← q2] at hA
        exact ⟨by rw [hA]; simp, by rw [q2]; omega⟩
    · have e2 : E2 = E1 := by rw [hE2, rdE, if_pos h3]
      rw [← e1, if_pos h3] at hA
      refine ⟨fun _ => by rw [hA, e2], fun h => absurd (e2 ▸ h) h3⟩
  · have e1 : E1 = E := by rw [hE1, isE, if_pos h0]
    have e2 : E2 = E := by rw [hE2, rdE, e1, if_pos h0]
    exact ⟨fun _ => by rw [e2]; exact h.1 h0, fun h => absurd (e2 ▸ h) h0⟩
theorem Md.fin {s : List Int} {f m : Nat} {r : List UInt8} {acc : Fo} {E E3 : Int} {l l3 : List UInt8} (h : Md (readT s f) m r m acc E l) (hm : 0 < m) (hE3 : E3 = isE 41 l E) (hl3 : E3 = 0 → l3 = (sgn 41 l).2) :
    (argsT (readT s f) (m : Int) r).1 = E3 ∧ (E3 = 0 → argsT (readT s f) (m : Int) r = (0, acc, l3)) := by
  rw [argsT, if_neg (by omega), Int.toNat_natCast]
  by_cases h0 : E = 0
  · subst h0
    obtain ⟨h1, _⟩ := h.2 rfl
    rw [Nat.sub_self] at h1
    have e3 : E3 = (sgn 41 l).1 := by rw [hE3, isE]; simp
    have h1' : readA (readT s f) m 0 .nil r = (0, acc, l) := h1
    rw [h1']
    simp only [ne_eq, not_true_eq_false, if_false]
    by_cases h4 : (sgn 41 l).1 = 0
    · rw [if_neg (by simpa using h4)]
      exact ⟨by rw [e3, h4], fun h => by rw [hl3 h]⟩
    · rw [if_pos h4]
      exact ⟨e3.symm, fun h => absurd (e3 ▸ h) h4⟩
  · have e3 : E3 = E := by rw [hE3, isE, if_pos h0]
    have h1 := h.1 h0
    rw [if_pos (by rw [h1]; exact h0)]
    exact ⟨by rw [h1, e3], fun h => absurd (e3 ▸ h) h0⟩

/-- So far: j arguments are read, or there was an error. -/
def TmRel (s : List Int) (f m : Nat) (r : List UInt8) (w : World) (rb B : Nat) (sv : Value) (nn : Int) (j : Nat) (wr : World) : Prop :=
  ∃ (acc : Fo) (v : Value) (xs : List Value) (E : Int) (l : List UInt8), Fo.len acc = j ∧ Rs w rb sv l E wr ∧ Md (readT s f) m r j acc E l ∧ wr.ownsRow (B + 1) 55 3 v (Fo.len acc) xs ∧ CellsOf (Rm B (fun _ => False) wr v) wr acc xs ∧
    wr.cell? ⟨B, 0, none⟩ = some (.bool false) ∧ wr.cell? ⟨B, 1, none⟩ = some (.int .i64 nn) ∧ wr.cell? ⟨B, 2, none⟩ = some v ∧ (∀ i, wr.frozen? ⟨B, i, none⟩ = false)

theorem Rs.below {w w1 w2 : World} {rb : Nat} {sv : Value} {l : List UInt8} {e : Int} (h : Rs w rb sv l e w1) (hb : Below w1.heap.size w1 w2) : Rs w rb sv l e w2 := by
  obtain ⟨h1, h2, h3, h4, h5, h6, h7⟩ := h
  have hA : w.heap.size < w1.heap.size := World.block_lt_of_cell? _ _ h3
  exact ⟨h1.of_block (hb.block _ h1.lt), h2.trans (Fr.of_below hb none none) (fun q _ hq => by rcases hq with e | e <;> cases e), grow_cell hb _ _ h3, grow_cell hb _ _ h4, grow_cell hb _ _ h5, fun i => (hb.frozen hA).trans (h6 i), h7⟩
theorem Rs.fr {w w1 w2 : World} {rb : Nat} {sv : Value} {l l' : List UInt8} {e e' : Int} (h : Rs w rb sv l e w1) (hf : Fr w1 w2 (some rb) none) (hR : RdAt w2 rb sv l' e') : Rs w rb sv l' e' w2 := by
  obtain ⟨h1, h2, h3, h4, h5, h6, h7⟩ := h
  have hA : w.heap.size < w1.heap.size := World.block_lt_of_cell? _ _ h3
  have hb : w2.heap[w.heap.size]? = w1.heap[w.heap.size]? := hf.block _ hA (fun e => by simp at e; omega) (fun e => by cases e)
  exact ⟨hR, h2.trans hf (fun q _ hq => hq), (World.cell?_of_block hb).trans h3, (World.cell?_of_block hb).trans h4, (World.cell?_of_block hb).trans h5, fun i => (World.frozen?_of_block hb).trans (h6 i), h7⟩

theorem tm_next {s : List Int} {f m : Nat} {r : List UInt8} {w wr w2 w3 w4 : World} {rb B : Nat} {sv : Value} {nn : Int} {j : Nat} {acc k : Fo} {v v' a : Value} {xs : List Value} {E E1 : Int} {l l1 l2 : List UInt8} {x : Bool × Int} {g cap : Nat} {ob : Obj}
    (hacc : Fo.len acc = j) (hRs : Rs w rb sv l E wr) (hMd : Md (readT s f) m r j acc E l) (hj : j < m) (h1 : wr.ownsRow (B + 1) 55 3 v (Fo.len acc) xs) (h2 : CellsOf (Rm B (fun _ => False) wr v) wr acc xs)
    (q0 : wr.cell? ⟨B, 0, none⟩ = some (.bool false)) (q1 : wr.cell? ⟨B, 1, none⟩ = some (.int .i64 nn)) (q2 : wr.cell? ⟨B, 2, none⟩ = some v) (qf : ∀ i, wr.frozen? ⟨B, i, none⟩ = false) (hAB : w.heap.size < B)
    (hE1 : E1 = isE (signF j) l E) (hl1 : E1 = 0 → l1 = (sgn (signF j) l).2) (hf2 : Fr wr w2 (some rb) none) (hs2 : w2.heap.size = wr.heap.size) (hR2 : RdAt w2 rb sv l1 E1)
    (hk : SB (New w2 w3) w3 k a) (hf3 : Fr w2 w3 (some rb) none) (hR3 : RdAt w3 rb sv l2 (rdE s f l1 E1)) (hl2 : rdE s f l1 E1 = 0 → (x, k) = (readT s f l1).2.1 ∧ l2 = (readT s f l1).2.2)
    (hv' : v' = .slice (some ⟨g, 0, none⟩) (Fo.len acc + 1) cap) (ho : w4.ownsRow (B + 1) 55 3 v' (Fo.len acc + 1) (xs ++ [.bool x.1, .int .i64 x.2, a])) (hg : (w3.alloc ob).grownBy w4 v.ownBlock)
    (hat : v.ownBlock = some g ∨ g = w3.heap.size + 1) (hlt : g < w4.heap.size) : TmRel s f m r w rb B sv nn (j + 1) (w4.setCell ⟨B, 2, none⟩ v') := by
  have hrb := hRs.2.2.2.2.2.2
  have hBl : B < wr.heap.size := World.block_lt_of_cell? _ _ q0
  have hb2 : ∀ q, B ≤ q → q < wr.heap.size → w2.heap[q]? = wr.heap[q]? := fun q hq hlt => hf2.block q hlt (fun e => by simp at e; omega) (fun e => by cases e)
  have h1' : w2.ownsRow (B + 1) 55 3 v (Fo.len acc) xs := owns_keep h1 (fun g hg => by have := owns_at h1 g hg; exact hb2 g (by omega) this.2)
  have h2' : CellsOf (Rm B (fun _ => False) w2 v) w2 acc xs := CellsOf.frame (fun q hq => by rcases hq with h | ⟨p1, p2, p3⟩; exact h.elim; exact .inr ⟨p1, by omega, p3⟩) (fun q i hq => by
    rcases hq with h | ⟨p1, p2, p3⟩
    · exact h.elim
    · exact World.cell?_of_block (hb2 q (by omega) p2)) h2
  have eB := hb2 B (Nat.le_refl _) hBl
  have q2' := (World.cell?_of_block (a := ⟨B, 2, none⟩) eB).trans q2
  have hs3 := hf3.size
  obtain ⟨r1, r2, r3, r4, r5, r6, r7⟩ := row_step (B := B) (X := fun _ => False) (x := x) (k := k) h1' h2' (fun q hq => hq.elim) (by omega) ⟨_, q2'⟩ hs3 (fun q hq hlt => hf3.block q hlt (fun e => by simp at e; rcases hq with h | h; exact h.elim; omega) (fun e => by cases e)) (hk.frame (fun q hq => .inr hq) (fun _ _ _ => rfl)) hv' ho hg hat hlt
  have hno : ∀ q, q ≤ B → some q ≠ v.ownBlock := fun q hq e => by have := (owns_at h1 q e.symm).1; omega
  refine ⟨Fo.snoc acc x k, v', _, _, l2, by rw [snoc_len, hacc], ?_, hMd.step hj hE1 hl1 rfl hl2, r1, r2, (r5 0 (by omega)).trans ((World.cell?_of_block eB).trans q0), (r5 1 (by omega)).trans ((World.cell?_of_block eB).trans q1), r3, fun i => (r6 i).trans ((World.frozen?_of_block eB).trans (qf i))⟩
  have hRs3 := (hRs.fr hf2 hR2).fr hf3 hR3
  obtain ⟨a1, a2, a3, a4, a5, a6, a7⟩ := hRs3
  have hA3 : w.heap.size < w3.heap.size := World.block_lt_of_cell? _ _ a3
  have eA := r4 w.heap.size hA3 (hno _ (by omega)) (by omega)
  refine ⟨a1.of_block (r4 rb (by omega) (hno _ (by omega)) (by omega)), ⟨?_, ?_, ?_, by omega, fun q hq e1 e2 => ?_⟩, (World.cell?_of_block eA).trans a3, (World.cell?_of_block eA).trans a4, (World.cell?_of_block eA).trans a5, fun i => (World.frozen?_of_block eA).trans (a6 i), a7⟩
  · show w4.os = _; rw [hg.os]; exact a2.os
  · show w4.tape = _; rw [hg.tape]; exact a2.tape
  · show w4.output = _; rw [hg.output]; exact a2.output
  · rw [r4 q (by omega) (hno _ (by omega)) (by omega)]
    exact a2.block q hq e1 e2

theorem md_zero {s : List Int} {f m : Nat} {r : List UInt8} {acc : Fo} {E : Int} {l : List UInt8} (hm : m = 0) (h : Md (readT s f) m r m acc E l) : E = 0 ∧ acc = .nil ∧ l = r := by
  subst hm
  by_cases h0 : E = 0
  · obtain ⟨h1, _⟩ := h.2 h0
    simp only [readA, Nat.sub_self, Prod.mk.injEq, true_and] at h1
    exact ⟨h0, h1.1.symm, h1.2.symm⟩
  · have := h.1 h0
    simp only [readA] at this
    exact absurd this.symm h0
theorem row_fr {wr w2 : World} {B rb : Nat} {acc : Fo} {v : Value} {xs : List Value} (h1 : wr.ownsRow (B + 1) 55 3 v (Fo.len acc) xs) (h2 : CellsOf (Rm B (fun _ => False) wr v) wr acc xs) (hf : Fr wr w2 (some rb) none) (hr : rb < B) : SB (fun q => B + 1 ≤ q ∧ q < w2.heap.size) w2 acc v := by
  have hs := hf.size
  have hb : ∀ q, B + 1 ≤ q → q < wr.heap.size → w2.heap[q]? = wr.heap[q]? := fun q hq hlt => hf.block q hlt (fun e => by simp at e; omega) (fun e => by cases e)
  have h1' : w2.ownsRow (B + 1) 55 3 v (Fo.len acc) xs := owns_keep h1 (fun g hg => by have := owns_at h1 g hg; exact hb g (by omega) this.2)
  have h2' : CellsOf (fun q => B + 1 ≤ q ∧ q < w2.heap.size) w2 acc xs := CellsOf.frame (fun q hq => by rcases hq with h | ⟨p1, p2, p3⟩; exact h.elim; exact ⟨p1, by omega⟩) (fun q i hq => by
    rcases hq with h | ⟨p1, p2, p3⟩
    · exact h.elim
    · exact World.cell?_of_block (hb q p1 p2)) h2
  exact row_sb h1' h2' (fun q hq => hq) (fun g hg => by have := owns_at h1' g hg; exact this)

set_option maxHeartbeats 2000000 in
set_option maxRecDepth 100000 in
theorem term_any (s : List Int) : ∀ f, TermSaid s f := by
  intro f
  induction f with
  | zero =>
    intro W sv l e w rb _ _ _ _ hR hl
    by_cases he : e = 0
    · have := (hl he).1; omega
    · exact term_bad s 0 sv l e w rb hR he
  | succ f ih =>
    intro W sv l e w rb hN hs hWr hBW hR hl
    by_cases he : e = 0
    case neg => exact term_bad s (f + 1) sv l e w rb hR he
    subst he
    obtain ⟨hlf, hlm⟩ := hl rfl
    unfold maxLen at hlm
    have HI := hide ih
    have HS := hide (Rs.start hR)
    have Hd : Hid (rdE s (f + 1) l 0 = (readT s (f + 1) l).1) := by simp [Hid, rdE]
    have HN := hide hN
    have Hs := hide hs
    have HBW := hide hBW
    obtain ⟨sa, sc, sb, so, rfl, hsa, hslc, hscm, hsF⟩ := hN
    have HsF := hide hsF
    unfold maxLen at hscm
    clear hl ih hs hBW hsF hR
    go_enter Tryz.func102, Tryz.ntmps102
    go_upto_region 1 with fail
    generalize w.alloc (.cells #[.bool false, .int .i64 0, .slice none 0 0] 55) = w0 at *
    cases l with
    | nil =>
      have Hf : Hid ((readT s (f + 1) []).1 = 8) := rfl
      obtain ⟨⟨h0, h1, h2, hf⟩, -, r0, r1, r2, rf, hlt⟩ := HS.out
      go_wp2_with fail
      refine (fail_any rb _ [] 8 w0 HS.out.1).mono ?_
      rintro e w' ⟨rfl, hw'⟩
      have HS2 := hide (HS.out.setE 8)
      rw [← hw'] at HS2
      clear hw' h0 h1 h2 hf r0 r1 r2 rf
      obtain ⟨⟨h0, h1, h2, hf⟩, -, r0, r1, r2, rf, -⟩ := HS2.out
      go_wp2_with fail
      refine bodyPost_ret (v := .agg #[.bool false, .int .i64 0, .slice none 0 0]) (by simp [results, Tryz.results102, go_sem, r0, r1, r2]) rfl (TermPost.mk ⟨(false, 0), .nil, none, 0, 0, [], rfl, SB.nil _ _, (HS2.out.fin _ _ _).2, ?_, fun h => ?_⟩)
      · rw [Hd.out, Hf.out]; exact (HS2.out.fin _ _ _).1
      · rw [Hd.out, Hf.out] at h; cases h
    | cons c r =>
      simp only [List.length_cons] at hlf hlm
      have hc : (c.toNat : Int) < 256 := by have := c.toNat_lt; omega
      have hsl := run_tail c r
      have HS2 := hide (HS.out.setS r)
      obtain ⟨⟨h0, h1, h2, hf⟩, -, r0, r1, r2, rf, hlt⟩ := HS.out
      go_upto_region 8 with fail
      generalize w0.setCell ⟨rb, 1, none⟩ (.string ⟨r.toArray⟩) = w1 at *
      clear h0 h1 h2 hf r0 r1 r2 rf hsl HS
      obtain ⟨⟨h0, h1, h2, hf⟩, -, r0, r1, r2, rf, -⟩ := HS2.out
      by_cases h88 : c = 88
      · have hcb : ((c.toNat : Int) == 88) = true := by rw [h88]; rfl
        have Hf : Hid (readT s (f + 1) (c :: r) = ((rvar r).1, ((rvar r).2.1, .nil), (rvar r).2.2)) := by rw [Hid, readT, if_pos h88]
        clear h88
        cases r with
        | nil =>
          have Hv : Hid ((rvar []).1 = 8) := rfl
          go_wp2_with fail
          refine (fail_any rb _ [] 8 w1 HS2.out.1).mono ?_
          rintro e w' ⟨rfl, hw'⟩
          have HS3 := hide (HS2.out.setE 8)
          rw [← hw'] at HS3
          clear hw' h0 h1 h2 hf r0 r1 r2 rf
          obtain ⟨⟨h0, h1, h2, hf⟩, -, r0, r1, r2, rf, -⟩ := HS3.out
          go_wp2_with fail
          refine bodyPost_ret (v := .agg #[.bool false, .int .i64 0, .slice none 0 0]) (by simp [results, Tryz.results102, go_sem, r0, r1, r2]) rfl (TermPost.mk ⟨(false, 0), .nil, none, 0, 0, [], rfl, SB.nil _ _, (HS3.out.fin _ _ _).2, ?_, fun h => ?_⟩)
          · rw [Hd.out, Hf.out]; exact (HS3.out.fin _ _ _).1
          · rw [Hd.out, Hf.out] at h; cases h
        | cons d r =>
          have hd : (d.toNat : Int) < 256 := by have := d.toNat_lt; omega
          by_cases hdd : (d.toNat : Int) - 48 < 0 ∨ 5 ≤ (d.toNat : Int) - 48
          · have Hv : Hid ((readT s (f + 1) (c :: d :: r)).1 = 3) := by rw [Hid, Hf.out, rvar, if_pos hdd]
            by_cases hd0 : (d.toNat : Int) < 48
            · clear hdd
              go_wp2_with fail
              refine (fail_any rb _ (d :: r) 3 w1 HS2.out.1).mono ?_
              rintro e w' ⟨rfl, hw'⟩
              have HS3 := hide (HS2.out.setE 3)
              rw [← hw'] at HS3
              clear hw' h0 h1 h2 hf r0 r1 r2 rf
              obtain ⟨⟨h0, h1, h2, hf⟩, -, r0, r1, r2, rf, -⟩ := HS3.out
              go_wp2_with fail
              refine bodyPost_ret (v := .agg #[.bool false, .int .i64 0, .slice none 0 0]) (by simp [results, Tryz.results102, go_sem, r0, r1, r2]) rfl (TermPost.mk ⟨(false, 0), .nil, none, 0, 0, (d :: r), rfl, SB.nil _ _, (HS3.out.fin _ _ _).2, ?_, fun h => ?_⟩)
              · rw [Hd.out, Hv.out]; exact (HS3.out.fin _ _ _).1
              · rw [Hd.out, Hv.out] at h; cases h
            · have hd1 : (52 : Int) < (d.toNat : Int) := by omega
              clear hdd
              go_wp2_with fail
              refine (fail_any rb _ (d :: r) 3 w1 HS2.out.1).mono ?_
              rintro e w' ⟨rfl, hw'⟩
              have HS3 := hide (HS2.out.setE 3)
              rw [← hw'] at HS3
              clear hw' h0 h1 h2 hf r0 r1 r2 rf
              obtain ⟨⟨h0, h1, h2, hf⟩, -, r0, r1, r2, rf, -⟩ := HS3.out
              go_wp2_with fail
              refine bodyPost_ret (v := .agg #[.bool false, .int .i64 0, .slice none 0 0]) (by simp [results, Tryz.results102, go_sem, r0, r1, r2]) rfl (TermPost.mk ⟨(false, 0), .nil, none, 0, 0, (d :: r), rfl, SB.nil _ _, (HS3.out.fin _ _ _).2, ?_, fun h => ?_⟩)
              · rw [Hd.out, Hv.out]; exact (HS3.out.fin _ _ _).1
              · rw [Hd.out, Hv.out] at h; cases h
          · have Hv : Hid (readT s (f + 1) (c :: d :: r) = (0, ((true, (d.toNat : Int) - 48), .nil), r)) := by rw [Hid, Hf.out, rvar, if_neg hdd]
            have hd0 : ¬ (d.toNat : Int) < 48 := by omega
            have hd1 : ¬ (52 : Int) < (d.toNat : Int) := by omega
            have hsl := run_tail d r
            have HS3 := hide (HS2.out.setS r)
            clear hdd Hf
            simp only [List.length_cons] at hlf hlm
            go_upto_region 17 with fail
            generalize w1.setCell ⟨rb, 1, none⟩ (.string ⟨r.toArray⟩) = w2 at *
            clear h0 h1 h2 hf r0 r1 r2 rf hsl
            obtain ⟨⟨h0, h1, h2, hf⟩, -, r0, r1, r2, rf, -⟩ := HS3.out
            go_wp2_with fail
            refine bodyPost_ret (v := .agg #[.bool true, .int .i64 ((d.toNat : Int) - 48), .slice none 0 0]) (by simp [results, Tryz.results102, go_sem, r0, r1, r2]) rfl (TermPost.mk ⟨(true, (d.toNat : Int) - 48), .nil, none, 0, 0, r, rfl, SB.nil _ _, (HS3.out.fin _ _ _).2, ?_, fun _ => ?_⟩)
            · rw [Hd.out, Hv.out]; exact (HS3.out.fin _ _ _).1
            · rw [Hv.out]; exact ⟨rfl, rfl⟩
      · have hcb : ((c.toNat : Int) == 88) = false := by
          rw [beq_eq_false_iff_ne]
          intro e
          exact h88 (UInt8.toNat_inj.1 (by have : c.toNat = 88 := by omega
                                           rw [this]; rfl))
        have Ht : Hid (readT s (f + 1) (c :: r) = if (c.toNat : Int) - 97 < 0 ∨ (s.length : Int) ≤ (c.toNat : Int) - 97 then (7, ((false, 0), .nil), []) else
            if (argsT (readT s f) (s.getD ((c.toNat : Int) - 97).toNat 0) r).1 ≠ 0 then ((argsT (readT s f) (s.getD ((c.toNat : Int) - 97).toNat 0) r).1, ((false, 0), .nil), []) else
            (0, ((false, (c.toNat : Int) - 97), (argsT (readT s f) (s.getD ((c.toNat : Int) - 97).toNat 0) r).2.1), (argsT (readT s f) (s.getD ((c.toNat : Int) - 97).toNat 0) r).2.2)) := by rw [Hid, readT, if_neg h88]
        clear h88
        by_cases hc0 : (c.toNat : Int) < 97
        · have Hv : Hid ((readT s (f + 1) (c :: r)).1 = 7) := by rw [Hid, Ht.out, if_pos (.inl (by omega))]
          clear Ht
          go_wp2_with fail
          refine (fail_any rb _ r 7 w1 HS2.out.1).mono ?_
          rintro e w' ⟨rfl, hw'⟩
          have HS3 := hide (HS2.out.setE 7)
          rw [← hw'] at HS3
          clear hw' h0 h1 h2 hf r0 r1 r2 rf
          obtain ⟨⟨h0, h1, h2, hf⟩, -, r0, r1, r2, rf, -⟩ := HS3.out
          go_wp2_with fail
          refine bodyPost_ret (v := .agg #[.bool false, .int .i64 0, .slice none 0 0]) (by simp [results, Tryz.results102, go_sem, r0, r1, r2]) rfl (TermPost.mk ⟨(false, 0), .nil, none, 0, 0, r, rfl, SB.nil _ _, (HS3.out.fin _ _ _).2, ?_, fun h => ?_⟩)
          · rw [Hd.out, Hv.out]; exact (HS3.out.fin _ _ _).1
          · rw [Hd.out, Hv.out] at h; cases h
        by_cases hc1 : (s.length : Int) ≤ (c.toNat : Int) - 97
        · have Hv : Hid ((readT s (f + 1) (c :: r)).1 = 7) := by rw [Hid, Ht.out, if_pos (.inr hc1)]
          clear Ht
          go_wp2_with fail
          refine (fail_any rb _ r 7 w1 HS2.out.1).mono ?_
          rintro e w' ⟨rfl, hw'⟩
          have HS3 := hide (HS2.out.setE 7)
          rw [← hw'] at HS3
          clear hw' h0 h1 h2 hf r0 r1 r2 rf
          obtain ⟨⟨h0, h1, h2, hf⟩, -, r0, r1, r2, rf, -⟩ := HS3.out
          go_wp2_with fail
          refine bodyPost_ret (v := .agg #[.bool false, .int .i64 0, .slice none 0 0]) (by simp [results, Tryz.results102, go_sem, r0, r1, r2]) rfl (TermPost.mk ⟨(false, 0), .nil, none, 0, 0, r, rfl, SB.nil _ _, (HS3.out.fin _ _ _).2, ?_, fun h => ?_⟩)
          · rw [Hd.out, Hv.out]; exact (HS3.out.fin _ _ _).1
          · rw [Hd.out, Hv.out] at h; cases h
        rw [if_neg (by omega)] at Ht
        have hc0' : 97 ≤ (c.toNat : Int) := by omega
        have hc1' : (c.toNat : Int) - 97 < (s.length : Int) := by omega
        have hc2' : 0 ≤ (c.toNat : Int) - 97 := by omega
        have hsa' : sa = some ⟨sb, so, none⟩ := hsa (by omega)
        subst hsa'
        have hB1W : Below W.heap.size W w1 := HBW.out.trans (HS2.out.2.1.below HBW.out.size (fun g hg => by cases hg; exact hWr) (fun g hg => by cases hg))
        have hcell := grow_cell hB1W _ _ (HsF.out ((c.toNat : Int) - 97).toNat (by omega))
        have Hm := hide (sig_at Hs.out (i := ((c.toNat : Int) - 97).toNat) (by omega))
        have hcell1 := grow_cell (below_alloc w1 (.cells #[.bool false, .int .i64 ((c.toNat : Int) - 97), .slice none 0 0] 55)) _ _ hcell
        have hrb1 : rb < w1.heap.size := HS2.out.1.lt
        have k0 : (w1.alloc (.cells #[.bool false, .int .i64 ((c.toNat : Int) - 97), .slice none 0 0] 55)).cell? ⟨rb, 0, none⟩ = some (.slice (some ⟨sb, so, none⟩) s.length sc) := grow_cell (below_alloc _ _) _ _ h0
        generalize s.getD ((c.toNat : Int) - 97).toNat 0 = mm at *
        obtain ⟨m, rfl⟩ := Int.eq_ofNat_of_zero_le Hm.out.1
        have hm2 : m ≤ 2 := by have := Hm.out.2; omega
        clear hsa hcell hc1 hc0
        go_wp2_with fail
        go_quiet (fail)
        go_wp2_with fail
        have hAB : w.heap.size < w1.heap.size := World.block_lt_of_cell? _ _ r0
        have Hst : Hid (TmRel s f m r w rb w1.heap.size (.slice (some ⟨sb, so, none⟩) s.length sc) ((c.toNat : Int) - 97) 0 ((w1.alloc (.cells #[.bool false, .int .i64 ((c.toNat : Int) - 97), .slice none 0 0] 55)).drewN nq)) :=
          ⟨.nil, .slice none 0 0, [], 0, r, rfl, HS2.out.below (below_drewN (below_alloc _ _) _), ⟨fun h => absurd rfl h, fun _ => ⟨rfl, Nat.le_refl _⟩⟩, ⟨rfl, .inl ⟨rfl, rfl⟩⟩, rfl, by simp, by simp, by simp, fun i => by simp⟩
        clear hcell1 k0 h0 h1 h2 hf r0 r1 r2 rf hc1' hc2' hc0' hcb hc
        generalize (c.toNat : Int) - 97 = nn at *
        generalize w1.heap.size = B at *
        go_loopw [108] (fun i wr => ∃ j : Nat, j ≤ m ∧ i = .int .i64 j ∧ TmRel s f m r w rb B (.slice (some ⟨sb, so, none⟩) s.length sc) nn j wr) (fun i _ => m - (intOf i).toNat)
        case atStart => exact ⟨0, Nat.zero_le _, rfl, Hst.out⟩
        case round =>
          obtain ⟨j, hj, rfl, acc, v, xs, E, l, hacc, hRs, hMd, hR1, hR2, q0, q1, q2, qf⟩ := hrel
          clear Hst
          have HRs := hide hRs
          have HMd := hide hMd
          have HR1 := hide hR1
          have HR2 := hide hR2
          have Hqf := hide qf
          have Hacc := hide hacc
          obtain ⟨z1, z3, rfl⟩ := slice_of_owns hR1
          have hBl : B < wr.heap.size := World.block_lt_of_cell? _ _ q0
          have hrbw : rb < w.heap.size := hRs.2.2.2.2.2.2
          clear hMd hR1 hR2 qf hRs hacc
          by_cases hjm : j < m
          · have hjm' : (j : Int) < (m : Int) := by omega
            go_upto_if 112 with fail
            go_cut [108] (fun s108 wx => s108 = .int .i64 j ∧ ∃ l1, RdAt wx rb (.slice (some ⟨sb, so, none⟩) s.length sc) l1 (isE (signF j) l E) ∧ (isE (signF j) l E = 0 → l1 = (sgn (signF j) l).2) ∧ Fr wr wx (some rb) none ∧ wx.heap.size = wr.heap.size)
            case first =>
              have Hlm : Hid (E = 0 → l.length ≤ maxLen) := fun h => by
                have := (HMd.out.2 h).2
                unfold maxLen
                omega
              by_cases hj0 : j = 0
              · have hjb : ((j : Int) == 0) = true := by rw [beq_iff_eq]; omega
                have Hsg : Hid (signF (j : Int) = 40) := by rw [Hid, signF, if_pos (by omega)]
                clear hj0
                go_wp2_with fail
                refine (is40 rb _ l E wr HRs.out.1 Hlm.out).mono ?_
                rintro e w' ⟨rfl, hl1, hfr, hsz⟩
                go_wp2_with fail
                go_meet
                case rel =>
                  rw [Hsg.out]
                  obtain ⟨l1, h1, h2⟩ := hl1
                  exact ⟨rfl, l1, h1, h2, hfr, hsz⟩
              · have hjb : ((j : Int) == 0) = false := by rw [beq_eq_false_iff_ne]; omega
                have Hsg : Hid (signF (j : Int) = 44) := by rw [Hid, signF, if_neg (by omega)]
                clear hj0
                go_wp2_with fail
                refine (is44 rb _ l E wr HRs.out.1 Hlm.out).mono ?_
                rintro e w' ⟨rfl, hl1, hfr, hsz⟩
                go_wp2_with fail
                go_meet
                case rel =>
                  rw [Hsg.out]
                  obtain ⟨l1, h1, h2⟩ := hl1
                  exact ⟨rfl, l1, h1, h2, hfr, hsz⟩
            case rest =>
              obtain ⟨rfl, l1, hR2', hl1, hf2, hs2⟩ := hcut
              generalize wc = w2 at *
              have HR2' := hide hR2'
              have Hl1 := hide hl1
              have Hf2 := hide hf2
              have eB : w2.heap[B]? = wr.heap[B]? := hf2.block B hBl (fun e => by simp at e; omega) (fun e => by cases e)
              have g2 : w2.cell? ⟨B, 2, none⟩ = some (.slice z1 (Fo.len acc) z3) := (World.cell?_of_block eB).trans q2
              have gf : ∀ i, w2.frozen? ⟨B, i, none⟩ = false := fun i => (World.frozen?_of_block eB).trans (Hqf.out i)
              have hB2 : B < w2.heap.size := by omega
              have Hown2 : Hid (w2.ownsRow (B + 1) 55 3 (.slice z1 (Fo.len acc) z3) (Fo.len acc) xs) := owns_keep HR1.out (fun g hg => by
                have h := owns_at HR1.out g hg
                exact hf2.block g h.2 (fun e => by simp at e; omega) (fun e => by cases e))
              have HB2W : Hid (Below W.heap.size W w2) := HBW.out.trans (((HRs.out.fr hf2 hR2').2.1).below HBW.out.size (fun g hg => by cases hg; exact hWr) (fun g hg => by cases hg))
              have Hlen1 : Hid (isE (signF j) l E = 0 → l1.length < f ∧ l1.length ≤ maxLen) := fun h => by
                have h1 := Hl1.out h
                have hE : E = 0 := by
                  rcases Decidable.em (E = 0) with e | e
                  · exact e
                  · rw [isE, if_pos e] at h; exact absurd h e
                subst hE
                have h2 := (HMd.out.2 rfl).2
                have h3 := sgn_len (signF j) l (by rw [isE] at h; simpa using h)
                rw [h1]
                unfold maxLen
                omega
              obtain ⟨i26, hi26, hz0, hz1, hz2⟩ := info_parts Tryz.info55
              have hn1 : Fo.len acc + 1 ≤ maxLen := by rw [Hacc.out]; unfold maxLen; omega
              have hn2 : (Fo.len acc + 1) * 40 ≤ 140737488355328 := by rw [Hacc.out]; omega
              obtain ⟨E1, hE1⟩ : ∃ E1, E1 = isE (signF j) l E := ⟨_, rfl⟩
              have HE1 := hide hE1
              rw [← hE1] at HR2' Hlen1 Hl1
              clear hR2' hl1 hf2 hE1
              go_upto_region 29 with fail
              go_region_law (first
                | (refine step_append_lies _ (by rfl) _ _ _ (by rfl) (B + 1) 55 i26 (.agg #[.bool false, .int .i64 0, .slice none 0 0]) 3 40 Tryz.underlying53 hi26 hz0 hz1 hz2 rfl (by decide) (.slice z1 (Fo.len acc) z3) (Fo.len acc) xs (by rfl) Hown3.out ⟨w3.heap.size, 0, none⟩ 1 1 [.bool xv, .int .i64 xn, .slice a1 a2 a3] (by rfl) (by rfl) Hnews.out (by simp [Value.oneCell']) (by decide) hn1 hn2 (by simp; omega) (w3.heap.size + 1) (by simp) ?_; intro g cap w4 ho4 hg4 hat4 hlt4; have x2 := out_cell hg4 hB3 Hno.out g3; have xf := out_frozen hg4 hB3 Hno.out gf3)
                | (go_simp; go_at_call 102; refine (HI.out W _ l1 E1 _ rb HN.out Hs.out hWr ?_ ?_ Hlen1.out).mono ?_; (exact HB2W.out.drew); (exact HR2'.out.of_block rfl); rintro e w3 hT; obtain ⟨⟨xv, xn⟩, xk, a1, a2, a3, l2, rfl, hSk, hf3, hR3, hl2⟩ := hT
                   have hs3 := hf3.size; have eB3 : w3.heap[B]? = w2.heap[B]? := (hf3.block B hB2 (fun e => by simp at e; omega) (fun e => by cases e)); have g3 : w3.cell? ⟨B, 2, none⟩ = some (.slice z1 (Fo.len acc) z3) := ((World.cell?_of_block eB3).trans g2); have gf3 : ∀ i, w3.frozen? ⟨B, i, none⟩ = false := (fun i => (World.frozen?_of_block eB3).trans (gf i)); have hB3 : B < w3.heap.size := Nat.lt_of_lt_of_le hB2 hs3
                   have Hno : Hid (some B ≠ (Value.slice z1 (Fo.len acc) z3).ownBlock) := (fun e => by have := (owns_at Hown2.out _ e.symm).1; omega)
                   have Hown3 : Hid ((w3.alloc (.cells #[.bool xv, .int .i64 xn, .slice a1 a2 a3] 55)).ownsRow (B + 1) 55 3 (.slice z1 (Fo.len acc) z3) (Fo.len acc) xs) := (owns_keep Hown2.out (fun g hg => by have h := owns_at Hown2.out g hg; have hs : w2.heap.size ≤ w3.heap.size := hs3; rw [Below.heap_alloc _ _ _ (by omega)]; exact hf3.block g h.2 (fun e => by simp at e; omega) (fun e => by cases e)))
                   have Hnews : Hid (∀ j u, [Value.bool xv, .int .i64 xn, .slice a1 a2 a3][j]? = some u → (w3.alloc (.cells #[.bool xv, .int .i64 xn, .slice a1 a2 a3] 55)).cell? ((⟨w3.heap.size, 0, none⟩ : Addr).add j) = some u) := (World.news_of_block (cs := #[.bool xv, .int .i64 xn, .slice a1 a2 a3]) (heap_alloc_new w3 _))))
              all_goals
                have Hst := hide (tm_next (x := (xv, xn)) (k := xk) Hacc.out HRs.out HMd.out hjm HR1.out HR2.out q0 q1 q2 Hqf.out hAB HE1.out Hl1.out Hf2.out hs2 HR2'.out hSk ⟨hf3.os, hf3.tape, hf3.output, hf3.size, hf3.block⟩ hR3 hl2 rfl ho4 hg4 hat4 hlt4)
                clear hSk hf3 hR3 hl2 ho4 hg4 hat4 hlt4 x2 xf g3 gf3 Hown3 Hnews hi26 hz0 hz1 hz2
                go_wp2_with fail
                go_roundw
                case rel => exact ⟨j + 1, by omega, by go_num, Hst.out⟩
                case measure => simp [intOf]; omega
          · have hje : j = m := by omega
            subst hje
            by_cases hm0 : j = 0
            · have Hfin := hide (md_zero hm0 HMd.out)
              have Hv : Hid (readT s (f + 1) (c :: r) = (0, ((false, nn), acc), l)) := by
                have hA : argsT (readT s f) (j : Int) r = (0, .nil, r) := by rw [argsT, if_pos (by omega)]
                rw [Hid, Ht.out, hA, Hfin.out.2.1, Hfin.out.2.2]
                simp
              have HSB := hide (row_fr HR1.out HR2.out (Fr.refl wr (some rb) none) (by omega))
              have HRs0 : Hid (Rs w rb (.slice (some ⟨sb, so, none⟩) s.length sc) l 0 wr) := by
                have := HRs.out
                rw [Hfin.out.1] at this
                exact this
              obtain ⟨-, -, r0, r1, r2, rf, -⟩ := HRs.out
              have hj0 : ¬ (0 : Int) < (j : Int) := by omega
              have hge : ¬ ((j : Int) < (j : Int)) := by omega
              clear hjm hm0
              go_wp2_with fail
              refine bodyPost_ret (v := .agg #[.bool false, .int .i64 nn, .slice z1 (Fo.len acc) z3]) (by simp [results, Tryz.results102, go_sem, r0, r1, r2]) rfl (TermPost.mk ⟨(false, nn), acc, _, _, _, l, rfl, ?_, (HRs0.out.fin _ _ _).2, ?_, fun _ => ?_⟩)
              · exact (HSB.out.set3 (b := w.heap.size) (o := 0) (by omega)).frame (fun q hq => ⟨by omega, by rw [World.size_setCell, World.size_setCell, World.size_setCell]; exact hq.2⟩) (fun _ _ _ => rfl)
              · rw [Hd.out, Hv.out]; exact (HRs0.out.fin _ _ _).1
              · rw [Hv.out]; exact ⟨rfl, rfl⟩
            · have hm1 : (0 : Int) < (j : Int) := by omega
              have hge : ¬ ((j : Int) < (j : Int)) := by omega
              have Hlm : Hid (E = 0 → l.length ≤ maxLen) := fun h => by
                have := (HMd.out.2 h).2
                unfold maxLen
                omega
              have hj00 : 0 < j := by omega
              clear hjm hm0
              go_wp2_with fail
              refine (is41 rb _ l E wr HRs.out.1 Hlm.out).mono ?_
              rintro e w2 ⟨rfl, ⟨l3, hR3, hl3⟩, hf3, hs3⟩
              have HRs3 := hide (HRs.out.fr hf3 hR3)
              have HSB := hide (row_fr HR1.out HR2.out hf3 (by omega))
              have Hfin := hide (HMd.out.fin hj00 rfl hl3)
              obtain ⟨E3, hE3⟩ : ∃ E3, E3 = isE 41 l E := ⟨_, rfl⟩
              rw [← hE3] at Hfin HRs3
              have Hv : Hid ((readT s (f + 1) (c :: r)).1 = E3) := by
                rw [Hid, Ht.out]
                by_cases h : E3 = 0
                · rw [if_neg (by rw [Hfin.out.1]; simpa using h), h]
                · rw [if_pos (by rw [Hfin.out.1]; exact h), Hfin.out.1]
              have Hv2 : Hid (E3 = 0 → readT s (f + 1) (c :: r) = (0, ((false, nn), acc), l3)) := fun h => by
                rw [Ht.out, if_neg (by rw [Hfin.out.1]; simpa using h), Hfin.out.2 h]
              have eB : w2.heap[B]? = wr.heap[B]? := hf3.block B hBl (fun e => by simp at e; omega) (fun e => by cases e)
              have q0' := (World.cell?_of_block (a := ⟨B, 0, none⟩) eB).trans q0
              have q1' := (World.cell?_of_block (a := ⟨B, 1, none⟩) eB).trans q1
              have q2' := (World.cell?_of_block (a := ⟨B, 2, none⟩) eB).trans q2
              obtain ⟨-, -, r0, r1, r2, rf, -⟩ := HRs3.out
              clear hR3 hl3 hf3 hE3 q0 q1 q2
              go_wp2_with fail
              refine bodyPost_ret (v := .agg #[.bool false, .int .i64 nn, .slice z1 (Fo.len acc) z3]) (by simp [results, Tryz.results102, go_sem, r0, r1, r2]) rfl (TermPost.mk ⟨(false, nn), acc, _, _, _, l3, rfl, ?_, (HRs3.out.fin _ _ _).2, ?_, fun h => ?_⟩)
              · exact (HSB.out.set3 (b := w.heap.size) (o := 0) (by omega)).frame (fun q hq => ⟨by omega, by rw [World.size_setCell, World.size_setCell, World.size_setCell]; exact hq.2⟩) (fun _ _ _ => rfl)
              · rw [Hd.out, Hv.out]; exact (HRs3.out.fin _ _ _).1
              · rw [Hd.out, Hv.out] at h
                rw [Hv2.out h]; exact ⟨rfl, rfl⟩

end Go.Proofs.YtaliegkkdhkfcacGreatDoor
