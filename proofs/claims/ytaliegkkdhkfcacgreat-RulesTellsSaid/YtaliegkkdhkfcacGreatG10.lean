/- Uni Law2 MatchP RPlaces Alive2 UnifyP -/
import Derived.Test.YtaliegkkdhkfcacGreatG09
import Derived.Deep.LoopGhost
import Derived.Deep.RegionLaw
namespace Go.Proofs.YtaliegkkdhkfcacGreat
open Go.RowKit Go.Deep Go.ChangeShapes Go.WideShapes
attribute [local go_sem ↓] Go.wp_at_zero Go.wp_at_succ
def UniPost (w : World) (R : Option Sb) (e : Ending) (w' : World) : Prop :=
  Below w.heap.size w w' ∧ ∃ (z1 : Option Addr) (m z3 : Nat) (ok : Bool), e = .returned (.tuple #[.slice z1 m z3, .bool ok]) ∧ (ok = false → R = none ∧ z1 = none ∧ m = 0 ∧ z3 = 0) ∧ (ok = true → ∃ s', R = some s' ∧ m = s'.length ∧ SubIn w' s' (.slice z1 m z3))
theorem uni_start {w W2 : World} {x y : Bool × Int} {k l : Fo} {a c : Value} (hB : Below w.heap.size w W2) (hS : SIn w k a) (hU : SIn w l c) (hs : w.heap.size + 1 + 1 = W2.heap.size) :
    Two w.heap.size (W2.alloc (.cells #[.bool x.1, .int .i64 x.2, a, .bool y.1, .int .i64 y.2, c] 73)) [] [((x, k), (y, l))] (.slice none 0 0) (.slice (some ⟨w.heap.size + 1 + 1, 0, none⟩) 1 1) [] [.bool x.1, .int .i64 x.2, a, .bool y.1, .int .i64 y.2, c] := by
  have hb3 : Below w.heap.size w (W2.alloc (.cells #[.bool x.1, .int .i64 x.2, a, .bool y.1, .int .i64 y.2, c] 73)) := hB.alloc hB.size _
  have hsz := hB.size
  have hw : ∀ q, q < w.heap.size → XX (W2.alloc (.cells #[.bool x.1, .int .i64 x.2, a, .bool y.1, .int .i64 y.2, c] 73)) (.slice none 0 0) (.slice (some ⟨w.heap.size + 1 + 1, 0, none⟩) 1 1) q := fun q hq => by
    refine ⟨by simp; omega, by simp [Value.ownBlock], ?_⟩
    intro e
    simp [Value.ownBlock] at e
    omega
  refine ⟨⟨World.ownsRow_nil _ _ _ _, rfl, fun q hq => ⟨hq.1, hq.2.1⟩⟩, ⟨?_, ?_, fun q hq => ⟨hq.1, hq.2.2⟩⟩⟩
  · have := World.ownsRow_lit (base := w.heap.size) (e := 73) (size := 6) W2 #[.bool x.1, .int .i64 x.2, a, .bool y.1, .int .i64 y.2, c] 1 hsz (by decide) rfl
    rw [← hs] at this
    exact this
  · exact CC.one (p := ((x, k), (y, l))) ((hS.toB.grow (fun _ h => h) hb3).wide hw) ((hU.toB.grow (fun _ h => h) hb3).wide hw)
theorem box1 {W w1 : World} {x y z : Value} (h : Below (W.alloc (.cells #[x, y, z] 40)).heap.size (W.alloc (.cells #[x, y, z] 40)) w1) : w1.cell? ⟨W.heap.size, 0, none⟩ = some x ∧ w1.cell? ⟨W.heap.size, 1, none⟩ = some y ∧ w1.cell? ⟨W.heap.size, 2, none⟩ = some z ∧ (∀ i, w1.frozen? ⟨W.heap.size, i, none⟩ = false) ∧ W.heap.size < w1.heap.size := by
  obtain ⟨a, b, c, d, _, e⟩ := box_full h
  exact ⟨a, b, c, d, e⟩
theorem box1d {W w1 : World} {x y z : Value} (h : Below (W.alloc (.cells #[x, y, z] 40)).drew.heap.size (W.alloc (.cells #[x, y, z] 40)).drew w1) : w1.cell? ⟨W.heap.size, 0, none⟩ = some x ∧ w1.cell? ⟨W.heap.size, 1, none⟩ = some y ∧ w1.cell? ⟨W.heap.size, 2, none⟩ = some z ∧ (∀ i, w1.frozen? ⟨W.heap.size, i, none⟩ = false) ∧ W.heap.size < w1.heap.size :=
  box1 ((Below.refl _ _).drew.trans h)
theorem box2 {W w1 : World} {x y z x' y' z' : Value} (h : Below ((W.alloc (.cells #[x, y, z] 40)).alloc (.cells #[x', y', z'] 40)).heap.size ((W.alloc (.cells #[x, y, z] 40)).alloc (.cells #[x', y', z'] 40)) w1) :
    (w1.cell? ⟨W.heap.size, 0, none⟩ = some x ∧ w1.cell? ⟨W.heap.size, 1, none⟩ = some y ∧ w1.cell? ⟨W.heap.size, 2, none⟩ = some z ∧ (∀ i, w1.frozen? ⟨W.heap.size, i, none⟩ = false)) ∧
    (w1.cell? ⟨W.heap.size + 1, 0, none⟩ = some x' ∧ w1.cell? ⟨W.heap.size + 1, 1, none⟩ = some y' ∧ w1.cell? ⟨W.heap.size + 1, 2, none⟩ = some z' ∧ (∀ i, w1.frozen? ⟨W.heap.size + 1, i, none⟩ = false)) ∧ W.heap.size + 1 < w1.heap.size := by
  obtain ⟨a, b, c, d, e1, e2⟩ := box_full h
  obtain ⟨a', b', c', d', _, _⟩ := box_full e1
  rw [World.size_alloc] at a b c d e2
  exact ⟨⟨a', b', c', d'⟩, ⟨a, b, c, d⟩, e2⟩
theorem box2d {W w1 : World} {x y z x' y' z' : Value} (h : Below ((W.alloc (.cells #[x, y, z] 40)).alloc (.cells #[x', y', z'] 40)).drew.heap.size ((W.alloc (.cells #[x, y, z] 40)).alloc (.cells #[x', y', z'] 40)).drew w1) :
    (w1.cell? ⟨W.heap.size, 0, none⟩ = some x ∧ w1.cell? ⟨W.heap.size, 1, none⟩ = some y ∧ w1.cell? ⟨W.heap.size, 2, none⟩ = some z ∧ (∀ i, w1.frozen? ⟨W.heap.size, i, none⟩ = false)) ∧
    (w1.cell? ⟨W.heap.size + 1, 0, none⟩ = some x' ∧ w1.cell? ⟨W.heap.size + 1, 1, none⟩ = some y' ∧ w1.cell? ⟨W.heap.size + 1, 2, none⟩ = some z' ∧ (∀ i, w1.frozen? ⟨W.heap.size + 1, i, none⟩ = false)) ∧ W.heap.size + 1 < w1.heap.size :=
  box2 ((Below.refl _ _).drew.trans h)
theorem thus {p q : Prop} (h : p) (k : p → q) : q := k h
def C3 (w : World) (b : Nat) (x y z : Value) : Prop := w.cell? ⟨b, 0, none⟩ = some x ∧ w.cell? ⟨b, 1, none⟩ = some y ∧ w.cell? ⟨b, 2, none⟩ = some z
theorem fin0 {wn W : World} {x y z x' y' z' : Value} (h : Below wn.heap.size wn W) : C3 ((W.alloc (.cells #[x, y, z] 40)).alloc (.cells #[x', y', z'] 40)) W.heap.size x y z ∧ C3 ((W.alloc (.cells #[x, y, z] 40)).alloc (.cells #[x', y', z'] 40)) (W.heap.size + 1) x' y' z' ∧ Below wn.heap.size wn ((W.alloc (.cells #[x, y, z] 40)).alloc (.cells #[x', y', z'] 40)) := by
  have hs := h.size
  refine ⟨⟨?_, ?_, ?_⟩, ⟨new_cell (World.size_alloc _ _), new_cell (World.size_alloc _ _), new_cell (World.size_alloc _ _)⟩, (h.alloc hs _).alloc (by simp; omega) _⟩
  · rw [World.cell?_alloc_lt _ _ _ (by simp)]; exact new_cell rfl
  · rw [World.cell?_alloc_lt _ _ _ (by simp)]; exact new_cell rfl
  · rw [World.cell?_alloc_lt _ _ _ (by simp)]; exact new_cell rfl
theorem fin1 {wn W : World} {b : Nat} {x y z x' y' z' u0 u1 u2 : Value} (h : Below wn.heap.size wn W) (hb : wn.heap.size ≤ b) (h0 : W.cell? ⟨b, 0, none⟩ = some u0) (h1 : W.cell? ⟨b, 1, none⟩ = some u1) (h2 : W.cell? ⟨b, 2, none⟩ = some u2) :
    C3 ((((W.setCell ⟨b, 0, none⟩ x).setCell ⟨b, 1, none⟩ y).setCell ⟨b, 2, none⟩ z).alloc (.cells #[x', y', z'] 40)) b x y z ∧ C3 ((((W.setCell ⟨b, 0, none⟩ x).setCell ⟨b, 1, none⟩ y).setCell ⟨b, 2, none⟩ z).alloc (.cells #[x', y', z'] 40)) W.heap.size x' y' z' ∧ Below wn.heap.size wn ((((W.setCell ⟨b, 0, none⟩ x).setCell ⟨b, 1, none⟩ y).setCell ⟨b, 2, none⟩ z).alloc (.cells #[x', y', z'] 40)) := by
  have hs := h.size
  have hbl : b < W.heap.size := World.block_lt_of_cell? _ _ h0
  have hsz : (set3 W b 0 x y z).heap.size = W.heap.size := set3_size
  obtain ⟨g0, g1, g2⟩ := set3_cells (x := x) (y := y) (z := z) (o := 0) h0 h1 h2
  have e : (((W.setCell ⟨b, 0, none⟩ x).setCell ⟨b, 1, none⟩ y).setCell ⟨b, 2, none⟩ z) = set3 W b 0 x y z := rfl
  rw [e]
  refine ⟨⟨?_, ?_, ?_⟩, ⟨new_cell hsz, new_cell hsz, new_cell hsz⟩, (set3_below (o := 0) h hb).alloc (by rw [hsz]; exact hs) _⟩
  · rw [World.cell?_alloc_lt _ _ _ (by rw [hsz]; exact hbl)]; exact g0
  · rw [World.cell?_alloc_lt _ _ _ (by rw [hsz]; exact hbl)]; exact g1
  · rw [World.cell?_alloc_lt _ _ _ (by rw [hsz]; exact hbl)]; exact g2
theorem fin2 {wn W : World} {b d : Nat} {x y z x' y' z' u0 u1 u2 t0 t1 t2 : Value} (h : Below wn.heap.size wn W) (hb : wn.heap.size ≤ b) (hd : wn.heap.size ≤ d) (hn : b ≠ d) (h0 : W.cell? ⟨b, 0, none⟩ = some u0) (h1 : W.cell? ⟨b, 1, none⟩ = some u1) (h2 : W.cell? ⟨b, 2, none⟩ = some u2) (k0 : W.cell? ⟨d, 0, none⟩ = some t0) (k1 : W.cell? ⟨d, 1, none⟩ = some t1) (k2 : W.cell? ⟨d, 2, none⟩ = some t2) :
    C3 ((((((W.setCell ⟨b, 0, none⟩ x).setCell ⟨b, 1, none⟩ y).setCell ⟨b, 2, none⟩ z).setCell ⟨d, 0, none⟩ x').setCell ⟨d, 1, none⟩ y').setCell ⟨d, 2, none⟩ z') b x y z ∧ C3 ((((((W.setCell ⟨b, 0, none⟩ x).setCell ⟨b, 1, none⟩ y).setCell ⟨b, 2, none⟩ z).setCell ⟨d, 0, none⟩ x').setCell ⟨d, 1, none⟩ y').setCell ⟨d, 2, none⟩ z') d x' y' z' ∧ Below wn.heap.size wn ((((((W.setCell ⟨b, 0, none⟩ x).setCell ⟨b, 1, none⟩ y).setCell ⟨b, 2, none⟩ z).setCell ⟨d, 0, none⟩ x').setCell ⟨d, 1, none⟩ y').setCell ⟨d, 2, none⟩ z') := by
  obtain ⟨g0, g1, g2⟩ := set3_cells (x := x) (y := y) (z := z) (o := 0) h0 h1 h2
  have m0 : (set3 W b 0 x y z).cell? ⟨d, 0, none⟩ = some t0 := (set3_other (.inl (Ne.symm hn))).trans k0
  have m1 : (set3 W b 0 x y z).cell? ⟨d, 1, none⟩ = some t1 := (set3_other (.inl (Ne.symm hn))).trans k1
  have m2 : (set3 W b 0 x y z).cell? ⟨d, 2, none⟩ = some t2 := (set3_other (.inl (Ne.symm hn))).trans k2
  obtain ⟨l0, l1, l2⟩ := set3_cells (x := x') (y := y') (z := z') (o := 0) m0 m1 m2
  exact ⟨⟨(set3_other (o := 0) (.inl hn)).trans g0, (set3_other (o := 0) (.inl hn)).trans g1, (set3_other (o := 0) (.inl hn)).trans g2⟩, ⟨l0, l1, l2⟩, set3_below (o := 0) (set3_below (o := 0) h hb) hd⟩
theorem swap3 {p q r : Prop} (h : p ∧ q ∧ r) : q ∧ p ∧ r := ⟨h.2.1, h.1, h.2.2⟩
theorem top_call {lo : Nat} {wn : World} {s : Sb} {T : List (Tm × Tm)} {s1 : Option Addr} {s3 : Nat} {v2 : Value} {xs ys : List Value} {p z : Bool × Int} {k zk : Fo} {a1 : Option Addr} {a3 : Nat} (hT : Two lo wn s T (.slice s1 s.length s3) v2 xs ys) (hk : SB (XX wn (.slice s1 s.length s3) v2) wn k (.slice a1 (Fo.len k) a3)) (hz : (z, zk) = top s (p, k)) (w' : World) (hb : Below wn.heap.size wn w') :
    Calls Tryz.prog 35 #[.slice s1 s.length s3, .agg #[.bool p.1, .int .i64 p.2, .slice a1 (Fo.len k) a3]] w' fun e w'' => ∃ (x1 : Option Addr) (x3 : Nat), e = .returned (.agg #[.bool z.1, .int .i64 z.2, .slice x1 (Fo.len zk) x3]) ∧ SB (XX wn (.slice s1 s.length s3) v2) wn zk (.slice x1 (Fo.len zk) x3) ∧ Below w'.heap.size w' w'' := by
  have hO := hT.sub.below hb
  refine (outermost_any (XX wn (.slice s1 s.length s3) v2) s _ p k _ w' (fun q hq => Nat.lt_of_lt_of_le hq.1 hb.size) hO.sub (fun i q v b o e hi => ownS_at hO i q v b o e hi) (hk.grow (fun _ hq => hq.1) hb)).mono ?_
  rintro e w'' ⟨x1, x2, x3, rfl, hS, hb2⟩
  rw [← hz] at hS ⊢
  have hS' := hS
  obtain ⟨_, _, _, _, e, _⟩ := hS'
  simp only [Value.slice.injEq] at e
  obtain ⟨rfl, rfl, rfl⟩ := e
  exact ⟨_, _, rfl, hS.shrink (fun _ hq => hq.1) (below_step hb hb2), hb2⟩
theorem stepU_same {s : Sb} {a b x y : Tm} {L : List (Tm × Tm)} (hx : x = top s a) (hy : y = top s b) (h1 : x.1.1 = true) (h2 : y.1.1 = true) (h3 : x.1.2 = y.1.2) : stepU s a b L = some (s, L) := by
  subst hx hy
  unfold stepU
  rw [if_pos ⟨h1, h2, h3⟩]
theorem stepU_x {s : Sb} {a b x y : Tm} {L : List (Tm × Tm)} (hx : x = top s a) (hy : y = top s b) (h1 : x.1.1 = true) (h2 : ¬ (y.1.1 = true ∧ x.1.2 = y.1.2)) : stepU s a b L = (addS s x.1.2 (subT (bnd s) y)).map fun s' => (s', L) := by
  subst hx hy
  unfold stepU
  rw [if_neg (fun h => h2 h.2), if_pos h1]
theorem stepU_y {s : Sb} {a b x y : Tm} {L : List (Tm × Tm)} (hx : x = top s a) (hy : y = top s b) (h1 : x.1.1 = false) (h2 : y.1.1 = true) : stepU s a b L = (addS s y.1.2 (subT (bnd s) x)).map fun s' => (s', L) := by
  subst hx hy
  unfold stepU
  rw [if_neg (fun h => by rw [h1] at h; exact absurd h.1 (by decide)), if_neg (by rw [h1]; decide), if_pos h2]
theorem stepU_args {s : Sb} {a b x y : Tm} {L : List (Tm × Tm)} (hx : x = top s a) (hy : y = top s b) (h1 : x.1.1 = false) (h2 : y.1.1 = false) (h3 : x.1.2 = y.1.2) (h4 : Fo.len x.2 = Fo.len y.2) : stepU s a b L = some (s, x.2.list.zip y.2.list ++ L) := by
  subst hx hy
  unfold stepU
  rw [if_neg (fun h => by rw [h1] at h; exact absurd h.1 (by decide)), if_neg (by rw [h1]; decide), if_neg (by rw [h2]; decide), if_pos ⟨h3, h4⟩]
theorem stepU_bad {s : Sb} {a b x y : Tm} {L : List (Tm × Tm)} (hx : x = top s a) (hy : y = top s b) (h1 : x.1.1 = false) (h2 : y.1.1 = false) (h3 : ¬ (x.1.2 = y.1.2 ∧ Fo.len x.2 = Fo.len y.2)) : stepU s a b L = none := by
  subst hx hy
  unfold stepU
  rw [if_neg (fun h => by rw [h1] at h; exact absurd h.1 (by decide)), if_neg (by rw [h1]; decide), if_neg (by rw [h2]; decide), if_neg h3]
theorem run_on {m : Nat} {s s' : Sb} {p : Tm × Tm} {L L' : List (Tm × Tm)} {R : Option Sb} (hI : UI s (p :: L)) (hR : runU (m + 1) s (p :: L) = some R) (h : stepU s p.1 p.2 L = some (s', L')) : UI s' L' ∧ runU m s' L' = some R := by
  refine ⟨(step_keeps hI h).1, ?_⟩
  simpa [runU, h] using hR
theorem run_no {m : Nat} {s : Sb} {p : Tm × Tm} {L : List (Tm × Tm)} {R : Option Sb} (hR : runU (m + 1) s (p :: L) = some R) (h : stepU s p.1 p.2 L = none) : R = none := by
  simpa [runU, h] using hR.symm
theorem uni_no {w w' : World} {R : Option Sb} (hb : Below w.heap.size w w') (h : R = none) : UniPost w R (.returned (.tuple #[.slice none 0 0, .bool false])) w' := ⟨hb, none, 0, 0, false, rfl, fun _ => ⟨h, rfl, rfl, rfl⟩, fun e => by cases e⟩
theorem uni_apply {lo : Nat} {wx w' : World} {s : Sb} {T : List (Tm × Tm)} {s1 : Option Addr} {s3 : Nat} {v2 : Value} {xs ys : List Value} {y t : Bool × Int} {yk tk : Fo} {y1 : Option Addr} {y3 : Nat} (hT : Two lo wx s T (.slice s1 s.length s3) v2 xs ys) (hs : ∀ p ∈ s, Gd p.2) (hk : SB (XX wx (.slice s1 s.length s3) v2) wx yk (.slice y1 (Fo.len yk) y3)) (hg : Gd (y, yk)) (ht : (t, tk) = subT (bnd s) (y, yk)) (hb : Below wx.heap.size wx w') :
    Calls Tryz.prog 37 #[.slice s1 s.length s3, .agg #[.bool y.1, .int .i64 y.2, .slice y1 (Fo.len yk) y3]] w' fun e w1 => ∃ (a1 : Option Addr) (a3 : Nat), e = .returned (.agg #[.bool t.1, .int .i64 t.2, .slice a1 (Fo.len tk) a3]) ∧ Two lo w1 s T (.slice s1 s.length s3) v2 xs ys ∧ SB (XX w1 (.slice s1 s.length s3) v2) w1 tk (.slice a1 (Fo.len tk) a3) ∧ Below wx.heap.size wx w1 := by
  have hT' := hT.below hb
  refine (apply_any s _ y yk _ w' hT'.sub.sub (fun p hp => ⟨(hs p hp).nar, (hs p hp).ok⟩) (hk.toS.below hb) hg.nar).mono ?_
  rintro e w1 ⟨a', rfl, hO, hb1⟩
  rw [← ht] at hO ⊢
  have hS := hO.toS
  obtain ⟨a1, a3, _, _, rfl, _⟩ := hS
  exact ⟨a1, a3, rfl, hT'.below hb1, hT'.new (hO.toB (fun q q1 q2 => ⟨q1, q2⟩)), below_step hb hb1⟩
theorem uni_add {w w1 : World} {s : Sb} {T : List (Tm × Tm)} {s1 : Option Addr} {s3 : Nat} {v2 : Value} {xs ys : List Value} {t : Bool × Int} {tk : Fo} {a1 : Option Addr} {a3 : Nat} (n : Int) (hw : Below w.heap.size w w1) (hT : Two w.heap.size w1 s T (.slice s1 s.length s3) v2 xs ys) (hs : ∀ p ∈ s, Gd p.2) (hl : s.length ≤ 10) (hk : SB (XX w1 (.slice s1 s.length s3) v2) w1 tk (.slice a1 (Fo.len tk) a3)) (hg : Gd (t, tk)) :
    Calls Tryz.prog 36 #[.slice s1 s.length s3, .int .i64 n, .agg #[.bool t.1, .int .i64 t.2, .slice a1 (Fo.len tk) a3]] w1 fun e w2 => ∃ (z1 : Option Addr) (m z3 : Nat) (ok : Bool), e = .returned (.tuple #[.slice z1 m z3, .bool ok]) ∧ Below w.heap.size w w2 ∧ (ok = false → addS s n (t, tk) = none) ∧
      (ok = true → ∃ s' xs', addS s n (t, tk) = some s' ∧ m = s'.length ∧ Two w.heap.size w2 s' T (.slice z1 m z3) v2 xs' ys) := by
  have hv := gd_vars hg
  refine (addB_any w.heap.size (XX w1 (.slice s1 s.length s3) v2) s _ xs n t tk _ w1 hT.sub hw.size hk (fun p hp => ⟨(hs p hp).nar, (hs p hp).ok⟩) hg.ok hg.nar (by simp only at hv; omega) (by omega)).mono ?_
  rintro e w2 ⟨hf, z1, m, z3, ok, rfl, hno, hyes⟩
  refine ⟨z1, m, z3, ok, rfl, hw.trans (hf.below hw.size (fun g hg => (owns_at hT.sub.row g hg).1) (fun g hg => by cases hg)), hno, fun e => ?_⟩
  obtain ⟨s', xs', h1, h2, h3, _⟩ := hyes e
  exact ⟨s', xs', h1, h2, two_add hT h3 hf⟩
set_option maxRecDepth 100000 in
set_option maxHeartbeats 4000000 in
theorem unify_any (x : Bool × Int) (k : Fo) (a : Value) (y : Bool × Int) (l : Fo) (c : Value) (w : World) (n : Nat) (R : Option Sb) (hr : runU n [] [((x, k), (y, l))] = some R) (hUI : UI [] [((x, k), (y, l))]) (hS : SIn w k a) (hU : SIn w l c) :
    Calls Tryz.prog 14 #[.agg #[.bool x.1, .int .i64 x.2, a], .agg #[.bool y.1, .int .i64 y.2, c]] w (UniPost w R) := by
  obtain ⟨xv, xn⟩ := x
  obtain ⟨yv, yn⟩ := y
  have HS := hide hS
  have HU := hide hU
  have Hr := hide hr
  have HUI := hide hUI
  obtain ⟨ad, ac, b, o, rfl, -, -, -, -⟩ := hS
  obtain ⟨ud, uc, ub, uo, rfl, -, -, -, -⟩ := hU
  clear hr hUI
  go_enter Tryz.func14, Tryz.ntmps14
  go_wp2_with fail
  generalize hW2 : (w.alloc (.cells #[.bool xv, .int .i64 xn, .slice ad (Fo.len k) ac] 40)).alloc (.cells #[.bool yv, .int .i64 yn, .slice ud (Fo.len l) uc] 40) = W2
  have hB2 : Below w.heap.size w W2 := by rw [← hW2]; exact (below_alloc _ _).alloc (by simp) _
  have hs2 : w.heap.size + 1 + 1 = W2.heap.size := by rw [← hW2]; simp
  have H0 := hide (uni_start (x := (xv, xn)) (y := (yv, yn)) hB2 HS.out HU.out hs2)
  have HB3 : Hid (Below w.heap.size w (W2.alloc (.cells #[.bool xv, .int .i64 xn, .slice ad (Fo.len k) ac, .bool yv, .int .i64 yn, .slice ud (Fo.len l) uc] 73))) := hB2.alloc hB2.size _
  clear hW2 hB2 hs2
  go_loopg [6, 7] n (fun m vs vt wr => ∃ (s : Sb) (T : List (Tm × Tm)) (s1 : Option Addr) (s3 : Nat) (t1 : Option Addr) (t3 : Nat) (xs ys : List Value), vs = .slice s1 s.length s3 ∧ vt = .slice t1 T.length t3 ∧ UI s T.reverse ∧ runU m s T.reverse = some R ∧ Two w.heap.size wr s T (.slice s1 s.length s3) (.slice t1 T.length t3) xs ys ∧ Below w.heap.size w wr)
  case atStart =>
    exact ⟨[], [(((xv, xn), k), ((yv, yn), l))], none, 0, some ⟨w.heap.size + 1 + 1, 0, none⟩, 1, [], _, rfl, rfl, HUI.out, Hr.out, H0.out, HB3.out⟩
  case round =>
    obtain ⟨s, T, s1, s3, t1, t3, xs, ys, rfl, rfl, hI, hR, hTwo, hBw⟩ := hrel
    have HTwo := hide hTwo
    have HI := hide hI
    have HR := hide hR
    clear H0 HB3 hTwo hI hR
    rcases List.eq_nil_or_concat T with rfl | ⟨T', p, rfl⟩
    · have Hfin : Hid (UniPost w R (.returned (.tuple #[.slice s1 s.length s3, .bool true])) wr) := by
        refine ⟨hBw, s1, s.length, s3, true, rfl, fun e => by (cases e), fun _ => ⟨s, ?_, rfl, HTwo.out.sub.sub⟩⟩
        have := HR.out
        cases gk with
        | zero => simp [runU] at this
        | succ m => simpa [runU] using this.symm
      go_wp2_with fail
      go_ret2
      exact Hfin.out
    · have hrev : (T' ++ [p]).reverse = p :: T'.reverse := by simp
      rw [List.concat_eq_append] at *
      have hll : (T' ++ [p]).length = T'.length + 1 := by simp
      rw [hll] at HTwo
      rw [hll]
      rw [hrev] at HI HR
      obtain ⟨g, hg⟩ : ∃ g, t1 = some ⟨g, 0, none⟩ := by
        rcases HTwo.out.cou.row.2 with ⟨_, h0⟩ | ⟨g, cap, cur, e, _⟩
        · simp at h0
        · simp only [Value.slice.injEq] at e
          exact ⟨g, e.1⟩
      subst hg
      have hcap : T'.length + 1 ≤ t3 := by
        rcases HTwo.out.cou.row.2 with ⟨e, _⟩ | ⟨g', cap, cur, e, _, _, h1, _⟩
        · cases e
        · simp only [Value.slice.injEq] at e
          simp only [List.length_append, List.length_singleton] at h1
          omega
      have hcap2 : t3 ≤ 2 ^ 63 - 1 := by
        rcases HTwo.out.cou.row.2 with ⟨e, _⟩ | ⟨g', cap, cur, e, _, _, _, h1, _⟩
        · cases e
        · simp only [Value.slice.injEq] at e
          unfold maxLen at h1
          omega
      obtain ⟨ys', pa, pb, hT2, hSa, hSb, c0, c1, c2, c3, c4, c5⟩ := two_pop HTwo.out
      obtain ⟨⟨⟨pv, pn⟩, pk⟩, ⟨⟨qv, qn⟩, qk⟩⟩ := p
      have HT2 := hide hT2
      have HSa := hide hSa
      have HSb := hide hSb
      obtain ⟨pa1, pa3, pab, pao, rfl, -, -, -, -⟩ := hSa
      obtain ⟨pb1, pb3, pbb, pbo, rfl, -, -, -, -⟩ := hSb
      have hpop := fun w => pop_run (n := T'.length) (c := t3) (g := g) hcap w
      clear hrev hll hT2
      go_upto_region 6 with fail
      generalize hwn : wr.alloc (.cells #[.bool pv, .int .i64 pn, .slice pa1 (Fo.len pk) pa3, .bool qv, .int .i64 qn, .slice pb1 (Fo.len qk) pb3] 73) = wn
      have hbn : Below wr.heap.size wr wn := by rw [← hwn]; exact below_alloc _ _
      have n0 : wn.cell? ⟨wr.heap.size, 0, none⟩ = some (.bool pv) := by rw [← hwn]; exact new_cell rfl
      have n1 : wn.cell? ⟨wr.heap.size, 1, none⟩ = some (.int .i64 pn) := by rw [← hwn]; exact new_cell rfl
      have n2 : wn.cell? ⟨wr.heap.size, 2, none⟩ = some (.slice pa1 (Fo.len pk) pa3) := by rw [← hwn]; exact new_cell rfl
      have n3 : wn.cell? ⟨wr.heap.size, 3, none⟩ = some (.bool qv) := by rw [← hwn]; exact new_cell rfl
      have n4 : wn.cell? ⟨wr.heap.size, 4, none⟩ = some (.int .i64 qn) := by rw [← hwn]; exact new_cell rfl
      have n5 : wn.cell? ⟨wr.heap.size, 5, none⟩ = some (.slice pb1 (Fo.len qk) pb3) := by rw [← hwn]; exact new_cell rfl
      have hnl : wr.heap.size < wn.heap.size := World.block_lt_of_cell? _ _ n0
      have HTn := hide (HT2.out.below hbn)
      obtain ⟨⟨⟨xv', xn'⟩, xk'⟩, hx⟩ : ∃ z, z = top s ((pv, pn), pk) := ⟨_, rfl⟩
      obtain ⟨⟨⟨yv', yn'⟩, yk'⟩, hy⟩ : ∃ z, z = top s ((qv, qn), qk) := ⟨_, rfl⟩
      have HcA := hide (fun w' hb => top_call HTn.out (HT2.out.xx hbn HSa.out) hx w' hb)
      have HcB := hide (fun w' hb => top_call HTn.out (HT2.out.xx hbn HSb.out) hy w' hb)
      have Hx := hide hx
      have Hy := hide hy
      have Hbn := hide hbn
      have hcur : Below wn.heap.size wn wn := Below.refl _ _
      clear hwn hx hy hbn c0 c1 c2 c3 c4 c5 hpop
      go_cut [6, 7, 9, 10] (fun s6 s7 s9 s10 wx => ∃ (bx bb : Nat) (x1 : Option Addr) (x3 : Nat) (y1 : Option Addr) (y3 : Nat), s6 = .slice s1 s.length s3 ∧ s7 = .slice (some ⟨g, 0, none⟩) T'.length t3 ∧ s9 = .pointer (some ⟨bx, 0, none⟩) ∧ s10 = .pointer (some ⟨bb, 0, none⟩) ∧
        SB (XX wn (.slice s1 s.length s3) (.slice (some ⟨g, 0, none⟩) T'.length t3)) wn xk' (.slice x1 (Fo.len xk') x3) ∧ SB (XX wn (.slice s1 s.length s3) (.slice (some ⟨g, 0, none⟩) T'.length t3)) wn yk' (.slice y1 (Fo.len yk') y3) ∧
        C3 wx bx (.bool xv') (.int .i64 xn') (.slice x1 (Fo.len xk') x3) ∧ C3 wx bb (.bool yv') (.int .i64 yn') (.slice y1 (Fo.len yk') y3) ∧ Below wn.heap.size wn wx)
      case first =>
        have neN : wn.heap.size ≠ wr.heap.size := Nat.ne_of_gt hnl
        have neN1 : wn.heap.size + 1 ≠ wr.heap.size := Nat.ne_of_gt (Nat.lt_succ_of_lt hnl)
        go_region_held3 (fun w' => w'.cell? ⟨wr.heap.size, 0, none⟩ = some (.bool pv) ∧ w'.cell? ⟨wr.heap.size, 1, none⟩ = some (.int .i64 pn) ∧ w'.cell? ⟨wr.heap.size, 2, none⟩ = some (.slice pa1 (Fo.len pk) pa3) ∧ w'.cell? ⟨wr.heap.size, 3, none⟩ = some (.bool qv) ∧ w'.cell? ⟨wr.heap.size, 4, none⟩ = some (.int .i64 qn) ∧ w'.cell? ⟨wr.heap.size, 5, none⟩ = some (.slice pb1 (Fo.len qk) pb3))
          (first
            | (with_reducible exact ⟨grow_cell hcur _ _ n0, grow_cell hcur _ _ n1, grow_cell hcur _ _ n2, grow_cell hcur _ _ n3, grow_cell hcur _ _ n4, grow_cell hcur _ _ n5⟩)
            | go_keep)
          (first
          | (go_at_call 35; with_reducible refine (HcA.out _ ?_).mono ?_; (with_reducible first | exact hcur | exact hcur.drew | exact (hcur.alloc hcur.size _).drew | exact hcur.alloc hcur.size _ | exact ((hcur.alloc hcur.size _).alloc (hcur.alloc hcur.size _).size _).drew | exact (hcur.alloc hcur.size _).alloc (hcur.alloc hcur.size _).size _); rintro e wA ⟨x1, x3, rfl, hSx, hbA⟩
             (with_reducible first | (refine thus (box2d hbA) ?_; rintro ⟨⟨fA0, fA1, fA2, fAf⟩, ⟨gA0, gA1, gA2, gAf⟩, fAl⟩; have fAk := Nat.lt_of_succ_lt fAl) | (refine thus (box2 hbA) ?_; rintro ⟨⟨fA0, fA1, fA2, fAf⟩, ⟨gA0, gA1, gA2, gAf⟩, fAl⟩; have fAk := Nat.lt_of_succ_lt fAl) | (refine thus (box1d hbA) ?_; rintro ⟨fA0, fA1, fA2, fAf, fAl⟩) | (refine thus (box1 hbA) ?_; rintro ⟨fA0, fA1, fA2, fAf, fAl⟩) | skip)
             (try (have hst : Below wB.heap.size wB wA := (by with_reducible first | exact hbA | exact below_box hbA | exact below_box (below_box hbA)); have hsl := hst.size; (try (have fB0' := grow_cell hst _ _ fB0; have fB1' := grow_cell hst _ _ fB1; have fB2' := grow_cell hst _ _ fB2; have ltfB0 := World.block_lt_of_cell? _ _ fB0; have ltfBc := World.block_lt_of_cell? _ _ fB0'; dsimp only at ltfBc; have fBf' := (fun i => (hst.frozen (p := ⟨_, i, none⟩) ltfB0).trans (fBf i)))); (try (have gB0' := grow_cell hst _ _ gB0; have gB1' := grow_cell hst _ _ gB1; have gB2' := grow_cell hst _ _ gB2; have ltgB0 := World.block_lt_of_cell? _ _ gB0; have ltgBc := World.block_lt_of_cell? _ _ gB0'; dsimp only at ltgBc; have gBf' := (fun i => (hst.frozen (p := ⟨_, i, none⟩) ltgB0).trans (gBf i))))))
             have hcurA : Below wn.heap.size wn wA := below_step (by with_reducible first | exact hcur | exact hcur.drew | exact (hcur.alloc hcur.size _).drew | exact hcur.alloc hcur.size _ | exact ((hcur.alloc hcur.size _).alloc (hcur.alloc hcur.size _).size _).drew | exact (hcur.alloc hcur.size _).alloc (hcur.alloc hcur.size _).size _) hbA
             replace hcur : Below wn.heap.size wn wA := below_step (by with_reducible first | exact hcur | exact hcur.drew | exact (hcur.alloc hcur.size _).drew | exact hcur.alloc hcur.size _ | exact ((hcur.alloc hcur.size _).alloc (hcur.alloc hcur.size _).size _).drew | exact (hcur.alloc hcur.size _).alloc (hcur.alloc hcur.size _).size _) hbA
             have hlA : wr.heap.size < wA.heap.size := Nat.lt_of_lt_of_le hnl hcur.size
             have neA : wA.heap.size ≠ wr.heap.size := Nat.ne_of_gt hlA
             have neA1 : wA.heap.size + 1 ≠ wr.heap.size := Nat.ne_of_gt (Nat.lt_succ_of_lt hlA)
             have mA0 := grow_cell hcur _ _ n0; have mA1 := grow_cell hcur _ _ n1; have mA2 := grow_cell hcur _ _ n2; have mA3 := grow_cell hcur _ _ n3; have mA4 := grow_cell hcur _ _ n4; have mA5 := grow_cell hcur _ _ n5)
          | (go_at_call 35; with_reducible refine (HcB.out _ ?_).mono ?_; (with_reducible first | exact hcur | exact hcur.drew | exact (hcur.alloc hcur.size _).drew | exact hcur.alloc hcur.size _ | exact ((hcur.alloc hcur.size _).alloc (hcur.alloc hcur.size _).size _).drew | exact (hcur.alloc hcur.size _).alloc (hcur.alloc hcur.size _).size _); rintro e wB ⟨y1, y3, rfl, hSy, hbB⟩
             (with_reducible first | (refine thus (box2d hbB) ?_; rintro ⟨⟨fB0, fB1, fB2, fBf⟩, ⟨gB0, gB1, gB2, gBf⟩, fBl⟩; have fBk := Nat.lt_of_succ_lt fBl) | (refine thus (box2 hbB) ?_; rintro ⟨⟨fB0, fB1, fB2, fBf⟩, ⟨gB0, gB1, gB2, gBf⟩, fBl⟩; have fBk := Nat.lt_of_succ_lt fBl) | (refine thus (box1d hbB) ?_; rintro ⟨fB0, fB1, fB2, fBf, fBl⟩) | (refine thus (box1 hbB) ?_; rintro ⟨fB0, fB1, fB2, fBf, fBl⟩) | skip)
             (try (have hst : Below wA.heap.size wA wB := (by with_reducible first | exact hbB | exact below_box hbB | exact below_box (below_box hbB)); have hsl := hst.size; (try (have fA0' := grow_cell hst _ _ fA0; have fA1' := grow_cell hst _ _ fA1; have fA2' := grow_cell hst _ _ fA2; have ltfA0 := World.block_lt_of_cell? _ _ fA0; have ltfAc := World.block_lt_of_cell? _ _ fA0'; dsimp only at ltfAc; have fAf' := (fun i => (hst.frozen (p := ⟨_, i, none⟩) ltfA0).trans (fAf i)))); (try (have gA0' := grow_cell hst _ _ gA0; have gA1' := grow_cell hst _ _ gA1; have gA2' := grow_cell hst _ _ gA2; have ltgA0 := World.block_lt_of_cell? _ _ gA0; have ltgAc := World.block_lt_of_cell? _ _ gA0'; dsimp only at ltgAc; have gAf' := (fun i => (hst.frozen (p := ⟨_, i, none⟩) ltgA0).trans (gAf i))))))
             replace hcur : Below wn.heap.size wn wB := below_step (by with_reducible first | exact hcur | exact hcur.drew | exact (hcur.alloc hcur.size _).drew | exact hcur.alloc hcur.size _ | exact ((hcur.alloc hcur.size _).alloc (hcur.alloc hcur.size _).size _).drew | exact (hcur.alloc hcur.size _).alloc (hcur.alloc hcur.size _).size _) hbB
             have hlB : wr.heap.size < wB.heap.size := Nat.lt_of_lt_of_le hnl hcur.size
             have neB : wB.heap.size ≠ wr.heap.size := Nat.ne_of_gt hlB
             have neB1 : wB.heap.size + 1 ≠ wr.heap.size := Nat.ne_of_gt (Nat.lt_succ_of_lt hlB)
             have mB0 := grow_cell hcur _ _ n0; have mB1 := grow_cell hcur _ _ n1; have mB2 := grow_cell hcur _ _ n2; have mB3 := grow_cell hcur _ _ n3; have mB4 := grow_cell hcur _ _ n4; have mB5 := grow_cell hcur _ _ n5))
        all_goals
          have hnA := hcurA.size
          have hnA1 : wn.heap.size ≤ wA.heap.size + 1 := Nat.le_succ_of_le hnA
          go_wp2_with fail
          go_meet
          case rel =>
            with_reducible first
              | exact ⟨wB.heap.size, wB.heap.size + 1, x1, x3, y1, y3, rfl, rfl, rfl, rfl, hSx, hSy, fin0 hcur⟩
              | exact ⟨wB.heap.size + 1, wB.heap.size, x1, x3, y1, y3, rfl, rfl, rfl, rfl, hSx, hSy, swap3 (fin0 hcur)⟩
              | exact ⟨wA.heap.size, wB.heap.size, x1, x3, y1, y3, rfl, rfl, rfl, rfl, hSx, hSy, fin1 hcur hnA fB0 fB1 fB2⟩
              | exact ⟨wB.heap.size, wA.heap.size, x1, x3, y1, y3, rfl, rfl, rfl, rfl, hSx, hSy, swap3 (fin1 hcur hnA fB0 fB1 fB2)⟩
              | exact ⟨wn.heap.size, wB.heap.size, x1, x3, y1, y3, rfl, rfl, rfl, rfl, hSx, hSy, fin1 hcur (Nat.le_refl _) fA0' fA1' fA2'⟩
              | exact ⟨wB.heap.size, wn.heap.size, x1, x3, y1, y3, rfl, rfl, rfl, rfl, hSx, hSy, swap3 (fin1 hcur (Nat.le_refl _) fA0' fA1' fA2')⟩
              | exact ⟨wA.heap.size, wA.heap.size + 1, x1, x3, y1, y3, rfl, rfl, rfl, rfl, hSx, hSy, fin2 hcur hnA hnA1 (Nat.ne_of_lt (Nat.lt_succ_self _)) fB0 fB1 fB2 gB0 gB1 gB2⟩
              | exact ⟨wA.heap.size + 1, wA.heap.size, x1, x3, y1, y3, rfl, rfl, rfl, rfl, hSx, hSy, fin2 hcur hnA1 hnA (Nat.ne_of_gt (Nat.lt_succ_self _)) gB0 gB1 gB2 fB0 fB1 fB2⟩
              | exact ⟨wn.heap.size, wA.heap.size, x1, x3, y1, y3, rfl, rfl, rfl, rfl, hSx, hSy, fin2 hcur (Nat.le_refl _) hnA (Nat.ne_of_lt fAl) fA0' fA1' fA2' fB0 fB1 fB2⟩
              | exact ⟨wA.heap.size, wn.heap.size, x1, x3, y1, y3, rfl, rfl, rfl, rfl, hSx, hSy, fin2 hcur hnA (Nat.le_refl _) (Nat.ne_of_gt fAl) fB0 fB1 fB2 fA0' fA1' fA2'⟩
              | exact ⟨wn.heap.size, wn.heap.size + 1, x1, x3, y1, y3, rfl, rfl, rfl, rfl, hSx, hSy, fin2 hcur (Nat.le_refl _) (Nat.le_succ _) (Nat.ne_of_lt (Nat.lt_succ_self _)) fA0' fA1' fA2' gA0' gA1' gA2'⟩
              | exact ⟨wn.heap.size + 1, wn.heap.size, x1, x3, y1, y3, rfl, rfl, rfl, rfl, hSx, hSy, fin2 hcur (Nat.le_succ _) (Nat.le_refl _) (Nat.ne_of_gt (Nat.lt_succ_self _)) gA0' gA1' gA2' fA0' fA1' fA2'⟩
      case rest =>
        obtain ⟨bx, bb, x1, x3, y1, y3, rfl, rfl, rfl, rfl, hSx, hSy, ⟨a0, a1, a2⟩, ⟨e0, e1, e2⟩, hbx⟩ := hcut
        generalize wc = wx at *
        have hBx : Below w.heap.size w wx := below_step hBw (below_step Hbn.out hbx)
        have HTx := hide (HTn.out.below hbx)
        have HSx := hide (HTn.out.xx hbx hSx)
        have HSy := hide (HTn.out.xx hbx hSy)
        have hgp := HI.out.gL (((pv, pn), pk), ((qv, qn), qk)) (by simp)
        have Hgx : Hid (Gd ((xv', xn'), xk')) := by rw [Hid, Hx.out]; exact gd_top HI.out.gs hgp.1
        have Hgy : Hid (Gd ((yv', yn'), yk')) := by rw [Hid, Hy.out]; exact gd_top HI.out.gs hgp.2
        have hscm : s3 ≤ 2 ^ 63 - 1 := by
          obtain ⟨_, _, _, _, e, _, _, h, _⟩ := HTx.out.sub.sub
          simp only [Value.slice.injEq] at e
          unfold maxLen at h
          omega
        obtain ⟨m, hm⟩ : ∃ m, gk = m + 1 := by
          cases gk with
          | zero => have := HR.out; simp [runU] at this
          | succ m => exact ⟨m, rfl⟩
        subst hm
        clear hSx hSy hgp n0 n1 n2 n3 n4 n5 hnl hcur HcA HcB HTn hbx
        cases xv'
        · cases yv'
          · by_cases hc : xn' = yn' ∧ Fo.len xk' = Fo.len yk'
            · obtain ⟨hc1, hc2⟩ := hc
              have Hon := hide (run_on HI.out HR.out (stepU_args Hx.out Hy.out rfl rfl hc1 hc2))
              have hnb : (xn' == yn') = true := by simp [hc1]
              have hlb : ((Fo.len xk' : Int) == (Fo.len yk' : Int)) = true := by simp [hc2]
              have Hc2 := hide hc2
              have Hlen := hide (ui_len HI.out)
              have Htwo := hide Hgx.out.two.1
              clear hc1 hc2
              go_wp2_with fail
              refine (addArgs_any w.heap.size (XX wx (.slice s1 s.length s3) (.slice (some ⟨g, 0, none⟩) T'.length t3)) T' _ ys' (false, xn') xk' _ (false, yn') yk' _ wx HTx.out.cou hBx.size HSx.out HSy.out Hc2.out (by have := Hlen.out.1; have := Htwo.out; simp only [List.length_cons, List.length_reverse] at *; omega)).mono ?_
              rintro e w2 ⟨M, z1, z3, xt', hM, rfl, hO2, hF2, hM2⟩
              have H3 := hide (two_args HTx.out hO2 hF2)
              have hBw2 : Below w.heap.size w w2 := hBx.trans (hF2.below hBx.size (fun q hq => (owns_at HTx.out.cou.row q hq).1) (fun q hq => by cases hq))
              have Hrev : Hid (M.reverse = xk'.list.zip yk'.list ++ T'.reverse) := by rw [Hid, hM]; simp
              clear hM hO2 hF2 hM2
              go_wp2_with fail
              go_roundg m
              case measure => omega
              case rel => exact ⟨s, M, s1, s3, z1, z3, xs, xt', rfl, rfl, by rw [Hrev.out]; exact Hon.out.1, by rw [Hrev.out]; exact Hon.out.2, H3.out, hBw2⟩
            · have Hf := hide (uni_no hBx (run_no HR.out (stepU_bad Hx.out Hy.out rfl rfl hc)))
              by_cases hc1 : xn' = yn'
              · have hnb : (xn' == yn') = true := by simp [hc1]
                have hlb : ((Fo.len xk' : Int) == (Fo.len yk' : Int)) = false := by
                  have : ¬ Fo.len xk' = Fo.len yk' := fun e => hc ⟨hc1, e⟩
                  simp; omega
                clear hc hc1
                go_wp2_with fail
                go_ret2
                exact Hf.out
              · have hnb : (xn' == yn') = false := by simp [hc1]
                clear hc hc1
                go_wp2_with fail
                go_ret2
                exact Hf.out
          · have Hst : Hid (stepU s ((pv, pn), pk) ((qv, qn), qk) T'.reverse = (addS s yn' (subT (bnd s) ((false, xn'), xk'))).map fun s' => (s', T'.reverse)) := stepU_y Hx.out Hy.out rfl rfl
            obtain ⟨⟨⟨tv, tn⟩, tk⟩, ht⟩ : ∃ z, z = subT (bnd s) ((false, xn'), xk') := ⟨_, rfl⟩
            have Ht := hide ht
            have Hgt : Hid (Gd ((tv, tn), tk)) := by rw [Hid, ht]; exact gd_sub HI.out.gs Hgx.out
            have Hap := hide (uni_apply HTx.out HI.out.gs HSx.out Hgx.out ht (w' := wx.drew) (Below.refl _ _).drew)
            clear ht
            go_upto_region 13 with fail
            go_region_with (first
              | (go_at_call 37; refine Hap.out.mono ?_; rintro e w1 ⟨b1, b3, rfl, hT1, hS1, hb1⟩; have hBw1 := below_step hBx hb1; have e1w := grow_cell hb1 _ _ e1)
              | (go_at_call 36; refine (uni_add yn' hBw1 hT1 HI.out.gs (ui_len HI.out).2 hS1 Hgt.out).mono ?_; rintro e w2 ⟨z1, zm, z3, ok, rfl, hBw2, hno, hyes⟩))
            all_goals
              cases ok
              · have Hf := hide (uni_no hBw2 (run_no HR.out (by rw [Hst.out, ← Ht.out, hno rfl]; rfl)))
                clear hno hyes hT1 hS1
                go_wp2_with fail
                go_ret2
                exact Hf.out
              · obtain ⟨s', xs', h1, h2, h3⟩ := hyes rfl
                have Hon := hide (run_on HI.out HR.out (s' := s') (L' := T'.reverse) (by rw [Hst.out, ← Ht.out, h1]; rfl))
                subst h2
                have H3 := hide h3
                clear hno hyes hT1 hS1 h1 h3
                go_wp2_with fail
                go_roundg m
                case measure => omega
                case rel => exact ⟨s', T', z1, z3, some ⟨g, 0, none⟩, t3, xs', ys', rfl, rfl, Hon.out.1, Hon.out.2, H3.out, hBw2⟩
        · by_cases hc : yv' = true ∧ xn' = yn'
          · obtain ⟨rfl, hc2⟩ := hc
            have Hon := hide (run_on HI.out HR.out (stepU_same Hx.out Hy.out rfl rfl hc2))
            have hnb : (xn' == yn') = true := by simp [hc2]
            clear hc2
            go_wp2_with fail
            go_roundg m
            case measure => omega
            case rel => exact ⟨s, T', s1, s3, some ⟨g, 0, none⟩, t3, xs, ys', rfl, rfl, Hon.out.1, Hon.out.2, HTx.out, hBx⟩
          · have Hst : Hid (stepU s ((pv, pn), pk) ((qv, qn), qk) T'.reverse = (addS s xn' (subT (bnd s) ((yv', yn'), yk'))).map fun s' => (s', T'.reverse)) := stepU_x Hx.out Hy.out rfl (fun h => hc ⟨h.1, h.2⟩)
            cases yv'
            · clear hc
              obtain ⟨⟨⟨tv, tn⟩, tk⟩, ht⟩ : ∃ z, z = subT (bnd s) ((false, yn'), yk') := ⟨_, rfl⟩
              have Ht := hide ht
              have Hgt : Hid (Gd ((tv, tn), tk)) := by rw [Hid, ht]; exact gd_sub HI.out.gs Hgy.out
              have Hap := hide (uni_apply HTx.out HI.out.gs HSy.out Hgy.out ht (w' := wx.drew) (Below.refl _ _).drew)
              clear ht
              go_upto_region 11 with fail
              go_region_with (first
                | (go_at_call 37; refine Hap.out.mono ?_; rintro e w1 ⟨b1, b3, rfl, hT1, hS1, hb1⟩; have hBw1 := below_step hBx hb1; have a1w := grow_cell hb1 _ _ a1)
                | (go_at_call 36; refine (uni_add xn' hBw1 hT1 HI.out.gs (ui_len HI.out).2 hS1 Hgt.out).mono ?_; rintro e w2 ⟨z1, zm, z3, ok, rfl, hBw2, hno, hyes⟩))
              all_goals
                cases ok
                · have Hf := hide (uni_no hBw2 (run_no HR.out (by rw [Hst.out, ← Ht.out, hno rfl]; rfl)))
                  clear hno hyes hT1 hS1
                  go_wp2_with fail
                  go_ret2
                  exact Hf.out
                · obtain ⟨s', xs', h1, h2, h3⟩ := hyes rfl
                  have Hon := hide (run_on HI.out HR.out (s' := s') (L' := T'.reverse) (by rw [Hst.out, ← Ht.out, h1]; rfl))
                  subst h2
                  have H3 := hide h3
                  clear hno hyes hT1 hS1 h1 h3
                  go_wp2_with fail
                  go_roundg m
                  case measure => omega
                  case rel => exact ⟨s', T', z1, z3, some ⟨g, 0, none⟩, t3, xs', ys', rfl, rfl, Hon.out.1, Hon.out.2, H3.out, hBw2⟩
            · have hnb : (xn' == yn') = false := by
                have : ¬ xn' = yn' := fun e => hc ⟨rfl, e⟩
                simp [this]
              clear hc
              obtain ⟨⟨⟨tv, tn⟩, tk⟩, ht⟩ : ∃ z, z = subT (bnd s) ((true, yn'), yk') := ⟨_, rfl⟩
              have Ht := hide ht
              have Hgt : Hid (Gd ((tv, tn), tk)) := by rw [Hid, ht]; exact gd_sub HI.out.gs Hgy.out
              have Hap := hide (uni_apply HTx.out HI.out.gs HSy.out Hgy.out ht (w' := wx.drew) (Below.refl _ _).drew)
              clear ht
              go_upto_region 11 with fail
              go_region_with (first
                | (go_at_call 37; refine Hap.out.mono ?_; rintro e w1 ⟨b1, b3, rfl, hT1, hS1, hb1⟩; have hBw1 := below_step hBx hb1; have a1w := grow_cell hb1 _ _ a1)
                | (go_at_call 36; refine (uni_add xn' hBw1 hT1 HI.out.gs (ui_len HI.out).2 hS1 Hgt.out).mono ?_; rintro e w2 ⟨z1, zm, z3, ok, rfl, hBw2, hno, hyes⟩))
              all_goals
                cases ok
                · have Hf := hide (uni_no hBw2 (run_no HR.out (by rw [Hst.out, ← Ht.out, hno rfl]; rfl)))
                  clear hno hyes hT1 hS1
                  go_wp2_with fail
                  go_ret2
                  exact Hf.out
                · obtain ⟨s', xs', h1, h2, h3⟩ := hyes rfl
                  have Hon := hide (run_on HI.out HR.out (s' := s') (L' := T'.reverse) (by rw [Hst.out, ← Ht.out, h1]; rfl))
                  subst h2
                  have H3 := hide h3
                  clear hno hyes hT1 hS1 h1 h3
                  go_wp2_with fail
                  go_roundg m
                  case measure => omega
                  case rel => exact ⟨s', T', z1, z3, some ⟨g, 0, none⟩, t3, xs', ys', rfl, rfl, Hon.out.1, Hon.out.2, H3.out, hBw2⟩
end Go.Proofs.YtaliegkkdhkfcacGreat

namespace Go.Proofs.YtaliegkkdhkfcacGreat
open Go.RowKit Go.Deep Go.ChangeShapes Go.WideShapes
attribute [local go_sem ↓] Go.wp_at_zero Go.wp_at_succ
theorem fin_norm {w : World} : ∀ {F : Fo} {b o : Nat}, FIn w F b o → FIn w (Fo.norm F) b o
  | .nil, _, _, _ => trivial
  | .node _ _ _ k r, _, _, ⟨h0, h1, ⟨a, c, b', o', h2, h3, h4, h5, h6⟩, h7⟩ => by
    refine ⟨h0, h1, ⟨a, c, b', o', ?_, ?_, ?_, h5, fin_norm h6⟩, fin_norm h7⟩
    · rw [norm_len]; exact h2
    · rw [norm_len]; exact h3
    · rw [norm_len]; exact h4
theorem sin_norm {w : World} {k : Fo} {a : Value} (h : SIn w k a) : SIn w (Fo.norm k) a := by
  obtain ⟨a, c, b, o, rfl, h3, h4, h5, h6⟩ := h
  exact ⟨a, c, b, o, by rw [norm_len], by rw [norm_len]; exact h3, by rw [norm_len]; exact h4, h5, fin_norm h6⟩
theorem norm_sizes : ∀ F : Fo, Fo.sizesR (Fo.norm F) = Fo.sizesR F
  | .nil => rfl
  | .node _ _ _ k r => by simp [Fo.norm, Fo.sizesR, norm_sizes k, norm_sizes r]
theorem good_of_walk {s : List Int} (hs : s.all okNum = true) : ∀ {F : Fo} {n : Nat}, n ≤ 13 → walkF s F (13 - (n : Int)) = 0 → Fo.ok (Fo.norm F) ∧ twoF (Fo.norm F) ∧ (∀ m, occF m (Fo.norm F) → 0 ≤ m ∧ m ≤ 4) ∧ depF (Fo.norm F) ≤ n
  | .nil, _, _, _ => ⟨trivial, trivial, fun m hm => by simp [Fo.norm, occF] at hm, Nat.zero_le _⟩
  | .node _ _ ⟨v, z⟩ k r, n, hn, h => by
    obtain ⟨hT, hr⟩ := walkF_ok h
    obtain ⟨hd, ha, hk⟩ := walkT_ok hT
    have h2 := alone_len hs ha
    obtain ⟨m, rfl⟩ : ∃ m, n = m + 1 := ⟨n - 1, by omega⟩
    have e : (13 : Int) - ((m + 1 : Nat) : Int) + 1 = 13 - (m : Int) := by omega
    rw [e] at hk
    obtain ⟨i1, i2, i3, i4⟩ := good_of_walk hs (n := m) (by omega) hk
    obtain ⟨j1, j2, j3, j4⟩ := good_of_walk hs (n := m + 1) hn hr
    simp only [Fo.norm]
    refine ⟨?_, ⟨by rw [norm_len]; exact h2, i2, j2⟩, fun q hq => ?_, ?_⟩
    · rw [ok_node]
      refine ⟨rfl, rfl, ⟨fun hv => ?_, i1⟩, j1⟩
      have hv' : v = true := hv
      subst hv'
      obtain ⟨rfl, _, _⟩ := alone_var ha
      rfl
    · rcases hq with hq | hq
      · cases v
        · exact i3 q (by simpa using hq)
        · obtain ⟨_, h0, h4⟩ := alone_var ha
          have : z = q := by simpa using hq
          omega
      · exact j3 q hq
    · simp only [depF]; omega
theorem gd_of_right {s : List Int} (hs : s.all okNum = true) {x : Bool × Int} {k : Fo} (h : wrongF s x k = 0) : Gd (x, Fo.norm k) ∧ depT (x, Fo.norm k) ≤ 12 ∧ tszR (Fo.norm k) ≤ 12 := by
  obtain ⟨h1, _, _, _, hw⟩ := right_of hs h
  have hF : walkF s (.node 0 0 x k .nil) (13 - ((12 : Nat) : Int)) = 0 := by
    have : walkT s x k 1 = 0 := hw
    simp only [walkF]
    have h3 : ∀ z : Int, z = 0 → (if z ≠ 0 then z else 0) = 0 := fun z hz => by simp [hz]
    exact h3 _ this
  obtain ⟨i1, i2, i3, i4⟩ := good_of_walk hs (n := 12) (by omega) hF
  simp only [Fo.norm] at i1 i2 i3 i4
  rw [ok_node] at i1
  rw [two_node] at i2
  refine ⟨⟨i1.2.2.1, i2.1, fun m hm => by have := i3 m (.inl hm); omega⟩, ?_, by unfold tszR at *; rw [norm_sizes]; exact h1⟩
  simp only [depF, depT] at *
  omega
theorem four_of_right {s : List Int} (hs : s.all okNum = true) {x : Bool × Int} {k : Fo} (h : wrongF s x k = 0) (m : Int) (hm : occT m (x, Fo.norm k)) : 0 ≤ m ∧ m ≤ 4 := by
  obtain ⟨h1, _, _, _, hw⟩ := right_of hs h
  have hF : walkF s (.node 0 0 x k .nil) (13 - ((12 : Nat) : Int)) = 0 := by
    have : walkT s x k 1 = 0 := hw
    simp only [walkF]
    have h3 : ∀ z : Int, z = 0 → (if z ≠ 0 then z else 0) = 0 := fun z hz => by simp [hz]
    exact h3 _ this
  obtain ⟨_, _, i3, _⟩ := good_of_walk hs (n := 12) (by omega) hF
  simp only [Fo.norm] at i3
  exact i3 m (.inl hm)
end Go.Proofs.YtaliegkkdhkfcacGreat

namespace Go.Proofs.YtaliegkkdhkfcacGreat
open Go.RowKit Go.Deep Go.ChangeShapes Go.WideShapes
theorem norm_norm : ∀ F : Fo, Fo.norm (Fo.norm F) = Fo.norm F
  | .nil => rfl
  | .node _ _ _ k r => by simp [Fo.norm, norm_norm k, norm_norm r]
def two (t u : Tm) : Fo := .node 0 0 t.1 t.2 (.node 0 0 u.1 u.2 .nil)
def one1 (t : Tm) : Fo := .node 0 0 t.1 t.2 .nil
theorem one_in {w : World} {t : Tm} {a : Value} (h1 : SIn w t.2 a) : SIn (w.alloc (.cells #[.bool t.1.1, .int .i64 t.1.2, a] 40)) (one1 t) (.slice (some ⟨w.heap.size, 0, none⟩) 1 1) :=
  ⟨_, 1, w.heap.size, 0, rfl, fun _ => rfl, Nat.le_refl _, by unfold maxLen; omega, FIn.mk (new_cell rfl) (new_cell rfl) (new_cell rfl) (h1.alloc _) trivial⟩
theorem four_right {s : List Int} {x : Bool × Int} {k : Fo} (hs : s.all okNum = true) (hk : Fo.norm k = k) (h : wrongF s x k = 0) : ∀ m, occT m (x, k) → m ≤ 4 := fun m hm => by
  have := four_of_right hs h m (by rw [hk]; exact hm)
  exact this.2
theorem gd_right {s : List Int} {x : Bool × Int} {k : Fo} (hs : s.all okNum = true) (hk : Fo.norm k = k) (h : wrongF s x k = 0) : Gd (x, k) ∧ depT (x, k) ≤ 12 ∧ tszR k ≤ 12 := by
  have := gd_of_right hs h
  rwa [hk] at this
end Go.Proofs.YtaliegkkdhkfcacGreat

namespace Go.Proofs.YtaliegkkdhkfcacGreat
open Go.RowKit Go.Deep Go.ChangeShapes Go.WideShapes
attribute [local go_sem ↓] Go.wp_at_zero Go.wp_at_succ
theorem placesF_pre (q : List Int) : ∀ (F : Fo) (p : List Int) (i : Int), placesF F (q ++ p) i = (placesF F p i).map (q ++ ·)
  | .nil, _, _ => rfl
  | .node _ _ x k r, p, i => by
    have h1 := placesF_pre q k (p ++ [i]) 0
    have h2 := placesF_pre q r p (i + 1)
    simp only [placesF, List.map_append, h2]
    cases x.1
    · simp only [Bool.false_eq_true, if_false, List.map_cons, List.append_assoc] at h1 ⊢
      rw [h1]
    · simp
theorem placesT_pre (q : List Int) (x : Bool × Int) (k : Fo) : placesT x k q = (placesT x k []).map (q ++ ·) := by
  have := placesF_pre q k [] 0
  unfold placesT
  split
  · rfl
  · simp only [List.append_nil] at this
    simp [this]
theorem placesF_plen : ∀ (F : Fo) (q : List Int) (i : Int) (p : List Int), p ∈ placesF F q i → p.length ≤ q.length + Fo.sizesR F
  | .nil, _, _, _, h => by simp [placesF] at h
  | .node _ _ x k r, q, i, p, h => by
    simp only [placesF, List.mem_append] at h
    simp only [Fo.sizesR]
    rcases h with h | h
    · cases hx : x.1 with
      | true => simp [hx] at h
      | false =>
        simp only [hx, Bool.false_eq_true, if_false, List.mem_cons] at h
        rcases h with rfl | h
        · simp; omega
        · have := placesF_plen k _ _ _ h
          simp at this
          omega
    · have := placesF_plen r _ _ _ h
      omega
theorem placesT_plen {x : Bool × Int} {k : Fo} {p : List Int} (h : p ∈ placesT x k []) : p.length ≤ tszR k := by
  unfold placesT at h
  unfold tszR
  split at h
  · simp at h
  · simp only [List.mem_cons] at h
    rcases h with rfl | h
    · simp
    · have := placesF_plen k _ _ _ h
      simp at this
      omega
theorem pl_step {B0 : Nat} {wr wA w3 : World} {vj v' v3 : Value} {ys : List Value} {Q : List (List Int)} {j : Int} {p : List Int} {g : Nat} {ob ob2 : Obj} (ho : wr.ownsRow B0 22 1 vj ys.length ys) (hP : Pw wr B0 vj.ownBlock ys Q)
    (hoA : wA.ownsRow B0 3 1 v' (1 + p.length) ([.int .i64 j] ++ vals p)) (hgA : (wr.alloc ob).grownBy wA (some wr.heap.size)) (hatA : v'.ownBlock = some wr.heap.size ∨ v'.ownBlock = some (wr.alloc ob).heap.size)
    (hv3 : v3.ownBlock = some g) (hg3 : (wA.alloc ob2).grownBy w3 vj.ownBlock) (hat3 : vj.ownBlock = some g ∨ g = wA.heap.size + 1) :
    Pw w3 B0 v3.ownBlock (ys ++ [v']) (Q ++ [j :: p]) ∧ Fr wr w3 vj.ownBlock none := by
  have s1 := hgA.size
  have s3 := hg3.size
  simp at s1 s3
  have hfr : Fr wr w3 vj.ownBlock none := by
    refine ⟨by rw [hg3.os]; exact hgA.os, by rw [hg3.tape]; exact hgA.tape, by rw [hg3.output]; exact hgA.output, by omega, fun q hq h1 _ => ?_⟩
    rw [hg3.block q (by simp; omega) h1, Below.heap_alloc _ _ _ (by omega), hgA.block q (by simp; omega) (by simp; omega), Below.heap_alloc _ _ _ hq]
  have hvb : ∀ h, v'.ownBlock = some h → wr.heap.size ≤ h ∧ h < wA.heap.size := fun h hh => by
    refine ⟨?_, (owns_at hoA h hh).2⟩
    rcases hatA with e | e
    · rw [e] at hh; simp at hh; omega
    · rw [e] at hh; simp at hh; omega
  refine ⟨Pw.append (Pw.keep hP hfr (fun q _ q2 q3 => ⟨q3, fun e => (by cases e), ?_⟩) (Nat.le_refl _)) ⟨rfl, fun i y q hy hq => ?_⟩, hfr⟩
  · rw [hv3]
    intro e
    simp at e
    subst e
    rcases hat3 with e | e
    · exact q3 e.symm
    · omega
  · have : i = 0 := by
      have := (List.getElem?_eq_some_iff.1 hy).1
      simpa using this
    subst this
    simp only [List.getElem?_cons_zero, Option.some.injEq] at hy hq
    subst hy hq
    refine ⟨?_, fun h hh => ?_⟩
    · have : w3.ownsRow B0 3 1 v' (1 + p.length) ([.int .i64 j] ++ vals p) := owns_keep hoA (fun h hh => by
        have hb := hvb h hh
        rw [hg3.block h (by simp; omega) (fun e => by have := (owns_at ho _ e.symm).2; omega), Below.heap_alloc _ _ _ hb.2])
      rw [show (j :: p).length = 1 + p.length by simp; omega]
      exact this
    · rw [hv3]
      intro e
      simp at e
      subst e
      have hb := hvb _ hh
      rcases hat3 with e | e
      · have := (owns_at ho _ e).2; omega
      · omega
theorem box_grown {w w3 : World} {x y z : Value} {T : TypeId} {o1 o2 : Obj} (hg : (((w.alloc (.cells #[x, y, z] T)).alloc o1).alloc o2).grownBy w3 (Value.slice none 0 0).ownBlock) : w3.cell? ⟨w.heap.size, 2, none⟩ = some z := by
  rw [hg.cell_far ⟨w.heap.size, 2, none⟩ (by show w.heap.size < _; rw [size3]; omega) (by simp [Value.ownBlock]), World.cell?_alloc_lt _ _ _ (by show w.heap.size < _; rw [size2]; omega), World.cell?_alloc_lt _ _ _ (by simp)]
  simp
theorem pl_out {B0 : Nat} {wr wA : World} {ob ob2 : Obj} {vj : Value} {n : Nat} {ys : List Value} (ho : wr.ownsRow B0 22 1 vj n ys) (hgA : (wr.alloc ob).grownBy wA (some wr.heap.size)) : (wA.alloc ob2).ownsRow B0 22 1 vj n ys :=
  owns_keep ho (fun g hg => by
    have h1 := (owns_at ho g hg).2
    have h2 := hgA.size
    simp at h2
    rw [Below.heap_alloc _ _ _ (by omega), hgA.block g (by simp; omega) (by simp; omega), Below.heap_alloc _ _ _ h1])
theorem pl_news (w : World) (v : Value) : ∀ j u, [v][j]? = some u → (w.alloc (.cells #[v] 22)).cell? ((⟨w.heap.size, 0, none⟩ : Addr).add j) = some u :=
  World.news_of_block (cs := #[v]) (heap_alloc_new w _)
def PlIn (B0 lo1 hi1 : Nat) (W0 w1 : World) (L Z : List (List Int)) (j : Int) (m : Nat) (wr : World) (vj : Value) : Prop :=
  ∃ ys, wr.ownsRow B0 22 1 vj ys.length ys ∧ Pw wr B0 vj.ownBlock ys (L ++ (Z.take m).map (j :: ·)) ∧ Below B0 W0 wr ∧ (∀ g, vj.ownBlock = some g → g < lo1 ∨ hi1 ≤ g) ∧ (∀ q, lo1 ≤ q → q < hi1 → wr.heap[q]? = w1.heap[q]?) ∧ hi1 ≤ wr.heap.size
def PlacesRSaid (x : Bool × Int) (k : Fo) : Prop := ∀ (a : Value) (w : World), SIn w k a → tszR k ≤ 9000 →
    Calls Tryz.prog 29 #[.agg #[.bool x.1, .int .i64 x.2, a]] w fun e w' => ∃ vo ys, e = .returned vo ∧ w'.ownsRow w.heap.size 22 1 vo ys.length ys ∧ Pw w' w.heap.size vo.ownBlock ys (placesT x k []) ∧ Below w.heap.size w w'
set_option maxHeartbeats 1000000 in
set_option maxRecDepth 100000 in
theorem placesR_any (x : Bool × Int) (k : Fo) : PlacesRSaid x k := by
  refine Fo.ind1 (p := PlacesRSaid) ?_ x k
  clear x k
  intro x k ih a w hS hb
  obtain ⟨xv, xn⟩ := x
  have HI := hide ih
  obtain ⟨ad, c, b, o, rfl, had, hlc, hcm, hF⟩ := hS
  have HF := hide hF
  unfold maxLen at hcm
  obtain ⟨i22, hi22, hz0, hz1, hz2⟩ := info_parts Tryz.info22
  clear ih hF
  cases xv
  · have Htt : Hid (placesT (false, xn) k [] = plTo k [] (Fo.len k)) := by rw [Hid, plTo_end]; rfl
    have Hnews : Hid (∀ j u, [Value.slice (some ⟨w.heap.size + 1, 0, none⟩) 0 0][j]? = some u → (((w.alloc (.cells #[.bool false, .int .i64 xn, .slice ad (Fo.len k) c] 40)).alloc (.cells #[] 3)).alloc (.cells #[.slice (some ⟨w.heap.size + 1, 0, none⟩) 0 0] 22)).cell? ((⟨w.heap.size + 2, 0, none⟩ : Addr).add j) = some u) := by
      have h := World.news_of_block (cs := #[.slice (some ⟨w.heap.size + 1, 0, none⟩) 0 0]) (heap_alloc_new ((w.alloc (.cells #[.bool false, .int .i64 xn, .slice ad (Fo.len k) c] 40)).alloc (.cells #[] 3)) (.cells #[.slice (some ⟨w.heap.size + 1, 0, none⟩) 0 0] 22))
      intro j u hu
      have := h j u hu
      rw [size2] at this
      exact this
    have hn1 : 0 + 1 ≤ maxLen := by unfold maxLen; omega
    have hn2 : (0 + 1) * 24 ≤ 140737488355328 := by omega
    go_enter Tryz.func29, Tryz.ntmps29
    go_wp2_with (at_builtin; refine wpList_append_lies _ rfl (.tmp 10) (.tmp 12) 64 rfl (w.heap.size + 1) 22 i22 (.slice none 0 0) 1 24 Tryz.underlying64 hi22 hz0 hz1 hz2 rfl (by decide) (.slice none 0 0) 0 [] rfl ⟨rfl, .inl ⟨rfl, rfl⟩⟩ ⟨w.heap.size + 2, 0, none⟩ 1 1 [.slice (some ⟨w.heap.size + 1, 0, none⟩) 0 0] rfl rfl Hnews.out (by simp [Value.oneCell']) (by decide) hn1 hn2 (by rw [size3]; omega) (w.heap.size + 3) (by rw [size3]) ?_; intro g cap w3 ho3 hg3 hat3 hlt3; have x2 := box_grown hg3)
    have hb3 : Below (w.heap.size + 1) (w.alloc (.cells #[.bool false, .int .i64 xn, .slice ad (Fo.len k) c] 40)) w3 := (((Below.refl _ _).alloc (by simp) _).alloc (by simp) _).grown hg3 (by rw [size3]; omega) (fun g hg => by simp [Value.ownBlock] at hg)
    have hP3 : Pw w3 (w.heap.size + 1) (some g) [.slice (some ⟨w.heap.size + 1, 0, none⟩) 0 0] (plTo k [] 0) := by
      refine ⟨by simp [plTo, Fo.take, placesF], fun i y q hy hq => ?_⟩
      have : i = 0 := by
        have := (List.getElem?_eq_some_iff.1 hy).1
        simpa using this
      subst this
      have hq' : q = [] := by
        simp [plTo] at hq
        exact hq
      simp only [List.getElem?_cons_zero, Option.some.injEq] at hy
      subst hy hq'
      refine ⟨own_empty ?_ (Nat.le_refl _), fun h hh => ?_⟩
      · rw [hg3.block (w.heap.size + 1) (by rw [size3]; omega) (by simp [Value.ownBlock]), Below.heap_alloc _ _ _ (by rw [size2]; omega)]
        have := heap_alloc_new (w.alloc (.cells #[.bool false, .int .i64 xn, .slice ad (Fo.len k) c] 40)) (.cells #[] 3)
        rw [World.size_alloc] at this
        exact this
      · simp [Value.ownBlock] at hh
        rcases hat3 with e | e
        · simp [Value.ownBlock] at e
        · simp; omega
    have Ho3 : Hid (w3.ownsRow (w.heap.size + 1) 22 1 (.slice (some ⟨g, 0, none⟩) 1 cap) 1 [.slice (some ⟨w.heap.size + 1, 0, none⟩) 0 0]) := hide (by simpa using ho3)
    have HP3 := hide hP3
    have Hb3 := hide hb3
    clear ho3 hg3 hat3 hlt3 hb3 hP3 Hnews x2
    go_loopw [3, 17] (fun v i wr => ∃ (j : Nat) (ys : List Value) (z1 : Option Addr) (z3 : Nat), j ≤ Fo.len k ∧ i = .int .i64 j ∧ v = .slice z1 ys.length z3 ∧ wr.ownsRow (w.heap.size + 1) 22 1 (.slice z1 ys.length z3) ys.length ys ∧ Pw wr (w.heap.size + 1) (Value.slice z1 ys.length z3).ownBlock ys (plTo k [] j) ∧ Below (w.heap.size + 1) (w.alloc (.cells #[.bool false, .int .i64 xn, .slice ad (Fo.len k) c] 40)) wr) (fun _ i _ => Fo.len k - (intOf i).toNat)
    case atStart => exact ⟨0, _, _, _, Nat.zero_le _, rfl, rfl, Ho3.out, HP3.out, Hb3.out⟩
    case round =>
      obtain ⟨j, ys, z1, z3, hj, rfl, rfl, hor, hPr, hBx⟩ := hrel
      obtain ⟨-, -, t2, hBr, hlt0⟩ := box_cells hBx
      have Hor := hide hor
      have HPr := hide hPr
      have HBx := hide hBx
      clear hor hPr hBx Ho3 HP3 Hb3
      by_cases hlt : j < Fo.len k
      · have hlt' : (j : Int) < (Fo.len k : Int) := by omega
        obtain ⟨⟨⟨yv, yn⟩, yk⟩, hy⟩ : ∃ y, k.list[j]? = some y := ⟨k.list[j]'(by rw [Fo.len_list]; exact hlt), by simp⟩
        obtain ⟨c0, c1, yv', c2, hSy⟩ := (HF.out.below hBr).at hy
        have HSy := hide hSy
        obtain ⟨ya, yc, yb, yo, rfl, -, -, -, -⟩ := hSy
        have ha : ad = some ⟨b, o, none⟩ := had (by omega)
        subst ha
        have hsz : 1 + Fo.sizesR (Fo.take j k) + tszR yk ≤ 9000 := by
          have h2 := sizesR_take j k
          rw [hy] at h2
          simp only at h2
          unfold tszR at hb h2 ⊢
          omega
        have Hy := hide hy
        have hbk : tszR yk ≤ 9000 := by omega
        clear hy had
        go_wp2_with fail
        refine (HI.out ((yv, yn), yk) (List.mem_of_getElem? Hy.out) _ _ HSy.out hbk).mono ?_
        rintro e w1 ⟨vs, zs, rfl, hos, hPs, hb1⟩
        obtain ⟨s1, s3, rfl⟩ := slice_of_owns hos
        have hs1 := hb1.size
        have Hos := hide hos
        have HPs := hide hPs
        have Hb1 := hide hb1
        obtain ⟨Z, hZ⟩ : ∃ Z, Z = placesT (yv, yn) yk [] := ⟨_, rfl⟩
        have HZ := hide hZ
        have Hin : Hid (PlIn (w.heap.size + 1) wr.heap.size w1.heap.size (w.alloc (.cells #[.bool false, .int .i64 xn, .slice (some ⟨b, o, none⟩) (Fo.len k) c] 40)) w1 (plTo k [] j) Z j 0 w1 (.slice z1 ys.length z3)) :=
          ⟨ys, owns_keep Hor.out (fun g hg => hb1.block g (owns_at Hor.out g hg).2), by simpa using Pw.keep HPr.out (Fr.of_below hb1 none none) (fun q _ q2 q3 => ⟨fun e => (by cases e), fun e => (by cases e), q3⟩) (Nat.le_refl _), HBx.out.trans (hb1.mono (by omega)), fun g hg => .inl (owns_at Hor.out g hg).2, fun q _ _ => rfl, Nat.le_refl _⟩
        have hZl : zs.length = Z.length := by rw [HZ.out]; exact HPs.out.1
        have HZl := hide hZl
        have hzb : zs.length ≤ 9000 := by
          have h3 := placesT_len (yv, yn) yk []
          rw [← HZ.out] at h3
          omega
        have Hlen : Hid (∀ (m : Nat) (ys : List Value) (wq : World) (gq : Option Nat), Pw wq (w.heap.size + 1) gq ys (plTo k [] j ++ (Z.take m).map ((j : Int) :: ·)) → ys.length ≤ 9000) := fun m ys wq gq h => by
          have h1 := h.1
          have h2 := placesF_len (Fo.take j k) [] 0
          have h3 := placesT_len (yv, yn) yk []
          have h4 : (Z.take m).length ≤ Z.length := by rw [List.length_take]; omega
          rw [List.length_append, List.length_map, plTo, List.length_cons] at h1
          rw [← HZ.out] at h3
          omega
        have Hpl : Hid (∀ p ∈ Z, (1 + p.length) * 8 ≤ 140737488355328) := fun p hp => by
          have := placesT_plen (x := (yv, yn)) (k := yk) (p := p) (by rw [← HZ.out]; exact hp)
          omega
        have Hnx : Hid (plTo k [] j ++ (Z.take zs.length).map ((j : Int) :: ·) = plTo k [] (j + 1)) := by
          rw [Hid, plTo_succ Hy.out, placesT_pre, ← HZ.out, HZl.out, List.take_length]
          simp
        clear hos hPs hb1 hZ t2 c0 c1 c2 hZl
        generalize wr = wo at *
        go_wp2_with fail
        go_loopw [3, 27] (fun v i wr => ∃ (m : Nat) (l : Nat) (z1 : Option Addr) (z3 : Nat), m ≤ zs.length ∧ i = .int .i64 m ∧ v = .slice z1 l z3 ∧ PlIn (w.heap.size + 1) wo.heap.size w1.heap.size (w.alloc (.cells #[.bool false, .int .i64 xn, .slice (some ⟨b, o, none⟩) (Fo.len k) c] 40)) w1 (plTo k [] j) Z j m wr (.slice z1 l z3)) (fun _ i _ => zs.length - (intOf i).toNat)
        case atStart => exact ⟨0, _, _, _, Nat.zero_le _, rfl, rfl, Hin.out⟩
        case round =>
          obtain ⟨m, l, y1, y3, hm, rfl, rfl, hin⟩ := hrel
          have Hin2 := hide hin
          clear Hin hin
          by_cases hmt : m < zs.length
          · have hmt' : (m : Int) < (zs.length : Int) := by omega
            have hm0 : (0 : Int) ≤ (m : Int) := by omega
            obtain ⟨us, hou, hPu, hBu, hnu, hku, hsu⟩ := Hin2.out
            obtain ⟨gs, caps, hform, hgs1, hgs2⟩ := Hos.out.form (by omega)
            simp only [Value.slice.injEq, true_and] at hform
            obtain ⟨rfl, rfl⟩ := hform
            obtain ⟨pv, hpv⟩ : ∃ pv, zs[m]? = some pv := ⟨zs[m], by simp [hmt]⟩
            obtain ⟨p, hp⟩ : ∃ p, Z[m]? = some p := ⟨Z[m]'(by rw [← HZl.out]; exact hmt), by simp⟩
            have hpo := (HPs.out.2 m pv p hpv (by rw [← HZ.out]; exact hp)).1
            have hcell : wr.cell? ⟨gs, m, none⟩ = some pv := by
              rw [World.cell?_of_block (w := w1) (hku gs hgs1 hgs2), Hos.out.cellAt m (by omega), hpv]
            have HNp : Hid (NIn wr p pv) := own_nin (owns_keep hpo (fun g hg => by
              have h1 := owns_at hpo g hg
              exact hku g h1.1 h1.2))
            obtain ⟨p1, p3, rfl⟩ := nin_slice HNp.out
            have hlu : us.length = l := by
              obtain ⟨_, _, e⟩ := slice_of_owns hou
              simp only [Value.slice.injEq] at e
              exact e.2.1.symm
            subst hlu
            have hul := Hlen.out m us wr _ hPu
            have hpb := Hpl.out p (List.mem_of_getElem? hp)
            have Hou := hide hou
            have HPu := hide hPu
            have HBu := hide hBu
            have Hnu := hide hnu
            have Hku := hide hku
            have Hp := hide hp
            have hBs : w.heap.size + 1 ≤ wr.heap.size := by omega
            have Hown1 : Hid ((wr.alloc (.cells #[.int .i64 j] 3)).ownsRow (w.heap.size + 1) 3 1 (.slice (some ⟨wr.heap.size, 0, none⟩) 1 1) 1 [.int .i64 j]) := World.ownsRow_lit wr #[.int .i64 j] 1 hBs (by unfold maxLen; omega) rfl
            have Hn1 := hide (HNp.out.alloc (.cells #[.int .i64 j] 3))
            have hn1 : us.length + 1 ≤ maxLen := by unfold maxLen; omega
            have hn2 : (us.length + 1) * 24 ≤ 140737488355328 := by omega
            clear hou hPu hBu hnu hku hp hpv hpo
            go_wp2_with (first
              | (at_builtin; refine wpList_append_nums rfl (.tmp 33) (.tmp 34) rfl (w.heap.size + 1) (.slice (some ⟨wr.heap.size, 0, none⟩) 1 1) 1 [.int .i64 j] rfl Hown1.out p (.slice p1 p.length p3) rfl Hn1.out hpb (by simp; omega) ?_; intro vA wA hoA hgA hatA; obtain ⟨q1, q3, hvA⟩ := slice_of_owns hoA; subst hvA; have Hout := hide (pl_out (ob2 := .cells #[.slice q1 (1 + p.length) q3] 22) Hou.out hgA); have HnA := hide (pl_news wA (.slice q1 (1 + p.length) q3)); have hsA := hgA.size)
              | (at_builtin; refine wpList_append_lies _ rfl (.tmp 31) (.tmp 36) 64 rfl (w.heap.size + 1) 22 i22 (.slice none 0 0) 1 24 Tryz.underlying64 hi22 hz0 hz1 hz2 rfl (by decide) (.slice y1 us.length y3) us.length us rfl Hout.out ⟨wA.heap.size, 0, none⟩ 1 1 [.slice q1 (1 + p.length) q3] rfl rfl HnA.out (by simp [Value.oneCell']) (by decide) hn1 hn2 (by simp at hsA ⊢; omega) (wA.heap.size + 1) (by simp) ?_; intro g cap w3 ho3 hg3 hat3 hlt3))
            have Hstep := hide (pl_step (v3 := .slice (some ⟨g, 0, none⟩) (us.length + 1) cap) Hou.out HPu.out hoA hgA hatA rfl hg3 hat3)
            have Ho3 := hide ho3
            have Hg3 := hide hg3
            have Hat3 := hide hat3
            have HgA := hide hgA
            clear hoA hgA hatA ho3 hg3 hat3 hlt3
            go_roundw
            case rel =>
              refine ⟨m + 1, us.length + 1, _, _, by omega, by go_num, rfl, us ++ [.slice q1 (1 + p.length) q3], by simpa using Ho3.out, ?_, ?_, ?_, ?_, ?_⟩
              · have h := Hstep.out.1
                rw [List.take_add_one, Hp.out]
                simpa using h
              · exact HBu.out.trans (Hstep.out.2.below hBs (fun g hg => (owns_at Hou.out g hg).1) (fun g hg => by cases hg))
              · intro g' hg'
                simp [Value.ownBlock] at hg'
                subst hg'
                rcases Hat3.out with e | e
                · exact Hnu.out _ e
                · have := HgA.out.size
                  simp at this
                  exact .inr (by omega)
              · intro q h1 h2
                rw [Hstep.out.2.block q (by omega) (fun e => by rcases Hnu.out q e.symm with h | h; omega; omega) (fun e => by cases e)]
                exact Hku.out q h1 h2
              · have := Hstep.out.2.size
                omega
            case measure => simp [intOf]; omega
          · have Hend : Hid (PlIn (w.heap.size + 1) wo.heap.size w1.heap.size (w.alloc (.cells #[.bool false, .int .i64 xn, .slice (some ⟨b, o, none⟩) (Fo.len k) c] 40)) w1 (plTo k [] j) Z j zs.length wr (.slice y1 l y3)) := by
              have e : m = zs.length := by omega
              rw [← e]; exact Hin2.out
            go_wp2_with fail
            go_roundw
            case rel =>
              obtain ⟨us, hou, hPu, hBu, hnu, hku, hsu⟩ := Hend.out
              obtain ⟨y1', y3', e⟩ := slice_of_owns hou
              simp only [Value.slice.injEq] at e
              obtain ⟨rfl, rfl, rfl⟩ := e
              rw [Hnx.out] at hPu
              exact ⟨j + 1, us, _, _, by omega, by go_num, rfl, hou, hPu, hBu⟩
            case measure => simp [intOf]; omega
      · have Hend : Hid (plTo k [] j = placesT (false, xn) k []) := by
          have e : j = Fo.len k := by omega
          rw [Hid, e, Htt.out]
        clear had
        go_wp2_with fail
        go_ret
        refine ⟨_, ys, rfl, owns_mono Hor.out (by omega), ?_, hBr⟩
        rw [← Hend.out]
        exact Pw.keep HPr.out (Fr.refl wr none none) (fun q _ _ q3 => ⟨fun e => (by cases e), fun e => (by cases e), q3⟩) (by omega)
  · have Htt : Hid (placesT (true, xn) k [] = []) := rfl
    go_enter Tryz.func29, Tryz.ntmps29
    go_wp2_with fail
    go_ret
    refine ⟨_, [], rfl, ⟨rfl, .inl ⟨rfl, rfl⟩⟩, ?_, below_alloc _ _⟩
    rw [Htt.out]
    exact ⟨rfl, fun i y q hy => by simp at hy⟩
end Go.Proofs.YtaliegkkdhkfcacGreat

namespace Go.Proofs.YtaliegkkdhkfcacGreat
open Go.RowKit Go.Deep Go.ChangeShapes Go.WideShapes
attribute [local go_sem ↓] Go.wp_at_zero Go.wp_at_succ
theorem ui_of {t u : Tm} (ht : Gd t) (hu : Gd u) (h1 : depT t ≤ 12) (h2 : depT u ≤ 12) : UI [] [(t, u)] := by
  refine ⟨fun p hp => by simp at hp, fun p hp => by simp at hp, fun p hp => ?_, fun p hp => by simp at hp, by decide, ?_, fun p hp => by simp at hp⟩
  · simp only [List.mem_singleton] at hp
    subst hp
    exact ⟨ht, hu⟩
  · have e : ∀ z : Tm, Gd z → subT (bnd []) z = z := fun z hz => subT_vr hz.ok
    simp only [dpL, List.length_nil, Nat.add_zero, and_true]
    rw [e t ht, e u hu]
    simpa using ⟨h1, h2⟩
def ta : Tm := ((false, 0), .nil)
def tb (t : Tm) : Tm := ((false, 1), .node 0 0 t.1 t.2 .nil)
def tc (t u : Tm) : Tm := ((false, 2), .node 0 0 t.1 t.2 (.node 0 0 u.1 u.2 .nil))
theorem sg : ([0, 1, 2] : List Int).all okNum = true := by decide
theorem g1 : Gd (tc (vr 0) (tb (vr 1))) ∧ depT (tc (vr 0) (tb (vr 1))) ≤ 12 ∧ tszR (tc (vr 0) (tb (vr 1))).2 ≤ 12 := gd_right sg rfl (by decide +kernel)
theorem g2 : Gd (tc (tb ta) (vr 0)) ∧ depT (tc (tb ta) (vr 0)) ≤ 12 ∧ tszR (tc (tb ta) (vr 0)).2 ≤ 12 := gd_right sg rfl (by decide +kernel)
theorem g3 : Gd (tc (vr 0) (vr 1)) ∧ depT (tc (vr 0) (vr 1)) ≤ 12 ∧ tszR (tc (vr 0) (vr 1)).2 ≤ 12 := gd_right sg rfl (by decide +kernel)
theorem g4 : Gd (tc ta (tb ta)) ∧ depT (tc ta (tb ta)) ≤ 12 ∧ tszR (tc ta (tb ta)).2 ≤ 12 := gd_right sg rfl (by decide +kernel)
theorem g5 : Gd (vr 0) ∧ depT (vr 0) ≤ 12 ∧ tszR (vr 0).2 ≤ 12 := gd_right (s := [0, 1, 2]) sg rfl (by decide +kernel)
theorem g6 : Gd (tb (vr 0)) ∧ depT (tb (vr 0)) ≤ 12 ∧ tszR (tb (vr 0)).2 ≤ 12 := gd_right sg rfl (by decide +kernel)
theorem g8 : Gd ta ∧ depT ta ≤ 12 ∧ tszR ta.2 ≤ 12 := gd_right sg rfl (by decide +kernel)
theorem g9 : Gd (tb ta) ∧ depT (tb ta) ≤ 12 ∧ tszR (tb ta).2 ≤ 12 := gd_right sg rfl (by decide +kernel)
theorem u1 : runU 10 [] [(tc (vr 0) (tb (vr 1)), tc (tb ta) (vr 0))] = some (some [(0, tb ta), (1, ta)]) := by kernel_rfl
theorem u2 : runU 10 [] [(vr 0, tb (vr 0))] = some none := by kernel_rfl
theorem e1 : extT [] (tc (vr 0) (vr 1)) (tc ta (tb ta)) = some [(0, ta), (1, tb ta)] := by kernel_rfl
theorem e2 : extT [(0, ta), (1, tb ta)] (vr 2) ta = some [(0, ta), (1, tb ta), (2, ta)] := by kernel_rfl
theorem s1 : subT (bnd [(0, tb ta), (1, ta)]) (tc (vr 0) (vr 1)) = tc (tb ta) ta := by kernel_rfl
theorem x1 : textT (tc (tb ta) ta).1 (tc (tb ta) ta).2 = [99, 40, 98, 40, 97, 41, 44, 97, 41] := by kernel_rfl
theorem all2 : ∀ p ∈ ([(0, tb ta), (1, ta)] : Sb), narT p.2 ∧ okT p.2 := fun p hp => by
  simp only [List.mem_cons, List.not_mem_nil, or_false] at hp
  rcases hp with rfl | rfl
  · exact ⟨g9.1.nar, g9.1.ok⟩
  · exact ⟨g8.1.nar, g8.1.ok⟩
set_option maxRecDepth 100000 in
theorem cap {w : World} {vs a : Value} (hv : SubIn w [(0, tb ta), (1, ta)] vs) (h1 : SIn w (tc (vr 0) (vr 1)).2 a) : Calls Tryz.prog 37 #[vs, .agg #[.bool false, .int .i64 2, a]] w fun e w' => ∃ a1 a2 a3, e = .returned (.agg #[.bool false, .int .i64 2, .slice a1 a2 a3]) ∧ SIn w' (tc (tb ta) ta).2 (.slice a1 a2 a3) ∧ Below w.heap.size w w' := by
  refine (apply_any _ vs (false, 2) (tc (vr 0) (vr 1)).2 a w hv all2 h1 g3.1.nar).mono ?_
  rintro e w' ⟨a', rfl, hO, hb⟩
  have e : subT (bnd [(0, tb ta), (1, ta)]) ((false, 2), (tc (vr 0) (vr 1)).2) = tc (tb ta) ta := s1
  rw [e] at hO ⊢
  obtain ⟨z1, z2, z3, rfl⟩ := slice_of_sin hO.toS
  exact ⟨z1, z2, z3, rfl, hO.toS, hb⟩
end Go.Proofs.YtaliegkkdhkfcacGreat

namespace Go.Proofs.YtaliegkkdhkfcacGreat
open Go.RowKit Go.Deep Go.ChangeShapes Go.WideShapes
attribute [local go_sem ↓] Go.wp_at_zero Go.wp_at_succ
theorem unify_ok {n : Nat} {t u : Tm} {s : Sb} (hUI : UI [] [(t, u)]) (h : runU n [] [(t, u)] = some (some s)) : (∀ p ∈ s, Gd p.2) ∧ subT (bnd s) t = subT (bnd s) u := by
  obtain ⟨h1, _, h3⟩ := runU_sound n [] s [(t, u)] hUI h
  exact ⟨h1.gs, h3 (t, u) (by simp)⟩
end Go.Proofs.YtaliegkkdhkfcacGreat
