/- P6d P6e D6j D6k P6f CER -/
import Derived.Test.YtaliegkkdhkfcacGreatDoorG16
import Derived.Deep.RegionHeld3
import Derived.BigQuiet
namespace Go.Proofs.YtaliegkkdhkfcacGreatDoor
open Go.RowKit Go.Deep Go.ChangeShapes Go.WideShapes
attribute [local go_sem ↓] Go.wp_at_zero Go.wp_at_succ

theorem cmp_is3 {a b : Tm} (ha : okT a) (hb : okT b) : (cmpT a b == 3) = abvT a b := by
  cases h : abvT a b with
  | true => rw [cmp_more ha hb h]; rfl
  | false =>
    unfold cmpT
    split
    · rfl
    · rw [h]
      simp only [Bool.false_eq_true, if_false]
      split <;> rfl
theorem bound_sz {a b : Tm} {n : Nat} {s : Sb} (ha : G12 a) (hb : G12 b) (hr : runU n [] [(a, b)] = some (some s)) {t : Tm} (hg : Gd t) (hz : szT t ≤ 24) : Gd (subT (bnd s) t) ∧ tszR (subT (bnd s) t).2 ≤ 4000000000000 := by
  have h := (gx_bind ha hb hr (d := [(false, t, t)]) (by simp) (fun l hl => by rw [List.mem_singleton.1 hl]; exact ⟨⟨hg, hz⟩, ⟨hg, hz⟩⟩)).2 (mapL (subT (bnd s)) (false, t, t)) (by simp)
  exact ⟨h.gl, h.sl⟩
theorem applyP_call {wn : World} {s : Sb} {vs : Value} {x z : Bool × Int} {k zk : Fo} {a : Value} (hV : SubIn wn s vs) (hs : ∀ p ∈ s, Gd p.2) (hS : SIn wn k a) (hg : Gd (x, k)) (hz : (z, zk) = subT (bnd s) (x, k)) (w' : World) (hb : Below wn.heap.size wn w') :
    Calls Tryz.prog 43 #[vs, .agg #[.bool x.1, .int .i64 x.2, a]] w' fun e w'' => ∃ (x1 : Option Addr) (x2 x3 : Nat), e = .returned (.agg #[.bool z.1, .int .i64 z.2, .slice x1 x2 x3]) ∧ SIn w'' zk (.slice x1 x2 x3) ∧ Below w'.heap.size w' w'' := by
  refine (apply_any s vs x k a w' (hV.below hb) (fun p hp => ⟨(hs p hp).nar, (hs p hp).ok⟩) (hS.below hb) hg.nar).mono ?_
  rintro e w'' ⟨a', rfl, hO, hb2⟩
  rw [← hz] at hO ⊢
  obtain ⟨z1, z2, z3, rfl⟩ := slice_of_sin hO.toS
  exact ⟨z1, z2, z3, rfl, hO.toS, hb2⟩
theorem cmpP_call {x y : Bool × Int} {k l : Fo} {B : Bool} (hB : abvT (x, k) (y, l) = B) (ga : Gd (x, k)) (gb : Gd (y, l)) (hbk : tszR k ≤ 4000000000000) (hbl : tszR l ≤ 4000000000000) {a c : Value} (w : World) (hS : SIn w k a) (hU : SIn w l c) :
    Calls Tryz.prog 95 #[.agg #[.bool x.1, .int .i64 x.2, a], .agg #[.bool y.1, .int .i64 y.2, c]] w fun e w'' => ∃ r : Int, e = .returned (.int .i64 r) ∧ (r == 3) = B ∧ Below w.heap.size w w'' := by
  refine (compare_any x k y l a c w ga gb hS hU hbk hbl).mono ?_
  rintro e w' ⟨rfl, hb⟩
  exact ⟨_, rfl, by rw [cmp_is3 ga.ok gb.ok, hB], hb⟩

set_option maxRecDepth 100000 in
set_option maxHeartbeats 4000000 in
theorem rises_any (l : Lt) (a1 d1 : Option Addr) (a3 d3 : Nat) (f : Value) (s : Sb) (vs : Value) (w : World) (hA : SIn w l.2.1.2 (.slice a1 (Fo.len l.2.1.2) a3)) (hD : SIn w l.2.2.2 (.slice d1 (Fo.len l.2.2.2) d3)) (hV : SubIn w s vs) (hs : ∀ p ∈ s, Gd p.2)
    (h1 : Gd l.2.1 ∧ Gd (subT (bnd s) l.2.1) ∧ tszR (subT (bnd s) l.2.1).2 ≤ 4000000000000) (h2 : Gd l.2.2 ∧ Gd (subT (bnd s) l.2.2) ∧ tszR (subT (bnd s) l.2.2).2 ≤ 4000000000000) :
    Calls Tryz.prog 85 #[wayA l (.slice a1 (Fo.len l.2.1.2) a3) (.slice d1 (Fo.len l.2.2.2) d3) f, vs] w fun e w' => e = .returned (.bool (abvT (subT (bnd s) l.2.2) (subT (bnd s) l.2.1))) ∧ Below w.heap.size w w' := by
  obtain ⟨ln, ⟨⟨lv, li⟩, lk⟩, ⟨lv', li'⟩, lk'⟩ := l
  obtain ⟨v1, v3, rfl⟩ := slice_of_sub hV
  obtain ⟨⟨⟨pv, pn⟩, pk⟩, hp⟩ : ∃ z, z = subT (bnd s) ((lv, li), lk) := ⟨_, rfl⟩
  obtain ⟨⟨⟨qv, qn⟩, qk⟩, hq⟩ : ∃ z, z = subT (bnd s) ((lv', li'), lk') := ⟨_, rfl⟩
  simp only at *
  rw [← hp] at h1
  rw [← hq] at h2
  rw [← hp, ← hq]
  obtain ⟨B, hB⟩ : ∃ B, abvT ((qv, qn), qk) ((pv, pn), pk) = B := ⟨_, rfl⟩
  rw [hB]
  have HcC := hide (fun (w' : World) (p1 : Option Addr) (p2 p3 : Nat) (q1 : Option Addr) (q2 q3 : Nat) (k1 : SIn w' pk (.slice p1 p2 p3)) (k2 : SIn w' qk (.slice q1 q2 q3)) => cmpP_call hB h2.2.1 h1.2.1 h2.2.2 h1.2.2 w' k2 k1)
  have HV := hide hV
  have Hs := hide hs
  have HA := hide hA
  have HD := hide hD
  have Hp := hide hp
  have Hq := hide hq
  have Hg1 := hide h1.1
  have Hg2 := hide h2.1
  clear hV hs hA hD h1 h2 hp hq hB
  go_enter Tryz.func85, Tryz.ntmps85
  go_upto_region 1 with fail
  generalize hW1 : w.alloc (.cells #[.bool lv, .int .i64 li, .slice a1 (Fo.len lk) a3, .bool lv', .int .i64 li', .slice d1 (Fo.len lk') d3, f] 67) = W1
  have hB1 : Below w.heap.size w W1 := by rw [← hW1]; exact below_alloc _ _
  have k0 : W1.cell? ⟨w.heap.size, 0, none⟩ = some (.bool lv) := by rw [← hW1]; exact new_cell rfl
  have k1 : W1.cell? ⟨w.heap.size, 1, none⟩ = some (.int .i64 li) := by rw [← hW1]; exact new_cell rfl
  have k2 : W1.cell? ⟨w.heap.size, 2, none⟩ = some (.slice a1 (Fo.len lk) a3) := by rw [← hW1]; exact new_cell rfl
  have k3 : W1.cell? ⟨w.heap.size, 3, none⟩ = some (.bool lv') := by rw [← hW1]; exact new_cell rfl
  have k4 : W1.cell? ⟨w.heap.size, 4, none⟩ = some (.int .i64 li') := by rw [← hW1]; exact new_cell rfl
  have k5 : W1.cell? ⟨w.heap.size, 5, none⟩ = some (.slice d1 (Fo.len lk') d3) := by rw [← hW1]; exact new_cell rfl
  have HcA := hide (fun w' hb => applyP_call (wn := W1) (HV.out.below hB1) Hs.out (HA.out.below hB1) Hg1.out Hp.out w' hb)
  have HcB := hide (fun w' hb => applyP_call (wn := W1) (HV.out.below hB1) Hs.out (HD.out.below hB1) Hg2.out Hq.out w' hb)
  simp only at HcA HcB HcC
  have hcur : Below W1.heap.size W1 W1.drew := (Below.refl _ _).drew
  clear hW1 HV Hs HA HD Hp Hq Hg1 Hg2
  go_region_held3 (fun w' => w'.cell? ⟨w.heap.size, 0, none⟩ = some (.bool lv) ∧ w'.cell? ⟨w.heap.size, 1, none⟩ = some (.int .i64 li) ∧ w'.cell? ⟨w.heap.size, 2, none⟩ = some (.slice a1 (Fo.len lk) a3) ∧ w'.cell? ⟨w.heap.size, 3, none⟩ = some (.bool lv') ∧ w'.cell? ⟨w.heap.size, 4, none⟩ = some (.int .i64 li') ∧ w'.cell? ⟨w.heap.size, 5, none⟩ = some (.slice d1 (Fo.len lk') d3))
    (first
      | (with_reducible exact ⟨grow_cell hcur _ _ k0, grow_cell hcur _ _ k1, grow_cell hcur _ _ k2, grow_cell hcur _ _ k3, grow_cell hcur _ _ k4, grow_cell hcur _ _ k5⟩)
      | go_keep)
    (first
      | (go_at_call 43; with_reducible refine (HcA.out _ hcur).mono ?_; rintro e wA ⟨p1, p2, p3, rfl, hSp, hbA⟩; replace hcur := below_step hcur hbA; (try (have hSq' := hSq.below hbA)))
      | (go_at_call 43; with_reducible refine (HcB.out _ hcur).mono ?_; rintro e wB ⟨q1, q2, q3, rfl, hSq, hbB⟩; replace hcur := below_step hcur hbB; (try (have hSp' := hSp.below hbB)))
      | (go_at_call 95; with_reducible refine (HcC.out _ _ _ _ _ _ _ hSp' hSq).mono ?_; rintro e wC ⟨r, rfl, hr, hbC⟩; have HR := hide hr; clear hr; replace hcur := below_step hcur hbC)
      | (go_at_call 95; with_reducible refine (HcC.out _ _ _ _ _ _ _ hSp hSq').mono ?_; rintro e wC ⟨r, rfl, hr, hbC⟩; have HR := hide hr; clear hr; replace hcur := below_step hcur hbC))
  all_goals
    go_wp2_with fail
    go_ret
    exact ⟨by rw [← HR.out]; rfl, below_step hB1 hcur⟩

/-- The bindings by which a's first term and the place p of b's first one are the same, where neither rises by them. -/
def meetT (U : Tm → Tm → Option Sb) (a b : Lt) (p : List Int) : Option Sb := match atT p b.2.1.1 b.2.1.2 with
  | some z => match U a.2.1 z with
    | some s => if abvT (subT (bnd s) a.2.2) (subT (bnd s) a.2.1) = true ∨ abvT (subT (bnd s) b.2.2) (subT (bnd s) b.2.1) = true then none else some s
    | none => none
  | none => none
theorem supP_meet (U : Tm → Tm → Option Sb) (c : Cl) (i : Nat) (a : Lt) (d : Cl) (j : Nat) (b : Lt) (side : Bool) (st : List Cl × Bool) (p : List Int) : supP U c i a d j b side st p = addU st (meetT U a b p) (butC c i ++ d.set j (turnL side (b.1, putT p b.2.1 a.2.2, b.2.2))) := by
  unfold supP meetT
  cases atT p b.2.1.1 b.2.1.2 with
  | none => rfl
  | some z =>
    dsimp only
    cases U a.2.1 z with
    | none => rfl
    | some s =>
      dsimp only
      split <;> rfl

/-- At, where there is such a place: the program's. -/
theorem atP_place {p : List Int} {pv : Value} {x : Bool × Int} {k : Fo} {z : Tm} {a : Value} {w : World} (h : atT p x k = some z) (hg : Gd (x, k)) (hS : SIn w k a) (hN : NIn w p pv) :
    Calls Tryz.prog 84 #[.agg #[.bool x.1, .int .i64 x.2, a], pv] w fun e w' => ∃ (a1 : Option Addr) (a3 : Nat), e = .returned (.tuple #[.agg #[.bool z.1.1, .int .i64 z.1.2, .slice a1 (Fo.len z.2) a3], .bool true]) ∧ SIn w' z.2 (.slice a1 (Fo.len z.2) a3) ∧ Below w.heap.size w w' := by
  refine (at_any x k a p pv w hS hN hg.nar.1 hg.nar.2).mono ?_
  rintro e w' ⟨hb, ⟨h1, _⟩ | ⟨y, l, a', h1, rfl, h2⟩⟩
  · rw [h] at h1; cases h1
  · rw [h] at h1
    cases h1
    have h4 := h2.toS
    obtain ⟨q1, q3, _, _, e2, -, -, -, -⟩ := h4
    subst e2
    exact ⟨q1, q3, rfl, h2.toS, hb⟩

set_option maxRecDepth 100000 in
set_option maxHeartbeats 4000000 in
theorem meet_any {U : Tm → Tm → Option Sb} (hU : UOK U) (a b : Lt) (a1 d1 e1 f1 : Option Addr) (a3 d3 e3 f3 : Nat) (fa fb : Value) (p : List Int) (p1 : Option Addr) (p2 p3 : Nat) (z : Tm) (w : World)
    (hA : SIn w a.2.1.2 (.slice a1 (Fo.len a.2.1.2) a3)) (hD : SIn w a.2.2.2 (.slice d1 (Fo.len a.2.2.2) d3)) (hE : SIn w b.2.1.2 (.slice e1 (Fo.len b.2.1.2) e3)) (hG : SIn w b.2.2.2 (.slice f1 (Fo.len b.2.2.2) f3)) (hN : NIn w p (.slice p1 p2 p3))
    (hz : atT p b.2.1.1 b.2.1.2 = some z) (ga : G12L a) (gb : G12L b) :
    Calls Tryz.prog 57 #[wayA a (.slice a1 (Fo.len a.2.1.2) a3) (.slice d1 (Fo.len a.2.2.2) d3) fa, wayA b (.slice e1 (Fo.len b.2.1.2) e3) (.slice f1 (Fo.len b.2.2.2) f3) fb, .slice p1 p2 p3] w (UniPost w (meetT U a b p)) := by
  have HA := hide hA
  have HD := hide hD
  have HE := hide hE
  have HG := hide hG
  have HN := hide hN
  have Hz := hide hz
  have Ga := hide ga
  have Gb := hide gb
  have Gz := hide (gb.1.at hz)
  have HU := hide hU
  obtain ⟨an, ⟨⟨av, ai⟩, ak⟩, ⟨av', ai'⟩, ak'⟩ := a
  obtain ⟨bn, ⟨⟨bv, bi⟩, bk⟩, ⟨bv', bi'⟩, bk'⟩ := b
  obtain ⟨⟨zv, zi⟩, zk⟩ := z
  simp only at *
  clear hA hD hE hG hN hz ga gb hU
  go_enter Tryz.func57, Tryz.ntmps57
  go_upto_region 1 with fail
  generalize hW1 : (w.alloc (.cells #[.bool av, .int .i64 ai, .slice a1 (Fo.len ak) a3, .bool av', .int .i64 ai', .slice d1 (Fo.len ak') d3, fa] 67)).alloc (.cells #[.bool bv, .int .i64 bi, .slice e1 (Fo.len bk) e3, .bool bv', .int .i64 bi', .slice f1 (Fo.len bk') f3, fb] 67) = W1
  have hB1 : Below w.heap.size w W1 := by rw [← hW1]; exact (below_alloc _ _).alloc (by simp) _
  have k0 : W1.cell? ⟨w.heap.size, 0, none⟩ = some (.bool av) := by rw [← hW1, World.cell?_alloc_lt _ _ _ (by simp)]; exact new_cell rfl
  have k1 : W1.cell? ⟨w.heap.size, 1, none⟩ = some (.int .i64 ai) := by rw [← hW1, World.cell?_alloc_lt _ _ _ (by simp)]; exact new_cell rfl
  have k2 : W1.cell? ⟨w.heap.size, 2, none⟩ = some (.slice a1 (Fo.len ak) a3) := by rw [← hW1, World.cell?_alloc_lt _ _ _ (by simp)]; exact new_cell rfl
  have k3 : W1.cell? ⟨w.heap.size, 3, none⟩ = some (.bool av') := by rw [← hW1, World.cell?_alloc_lt _ _ _ (by simp)]; exact new_cell rfl
  have k4 : W1.cell? ⟨w.heap.size, 4, none⟩ = some (.int .i64 ai') := by rw [← hW1, World.cell?_alloc_lt _ _ _ (by simp)]; exact new_cell rfl
  have k5 : W1.cell? ⟨w.heap.size, 5, none⟩ = some (.slice d1 (Fo.len ak') d3) := by rw [← hW1, World.cell?_alloc_lt _ _ _ (by simp)]; exact new_cell rfl
  have k6 : W1.cell? ⟨w.heap.size, 6, none⟩ = some (fa) := by rw [← hW1, World.cell?_alloc_lt _ _ _ (by simp)]; exact new_cell rfl
  have m0 : W1.cell? ⟨w.heap.size + 1, 0, none⟩ = some (.bool bv) := by rw [← hW1]; exact new_cell (World.size_alloc _ _)
  have m1 : W1.cell? ⟨w.heap.size + 1, 1, none⟩ = some (.int .i64 bi) := by rw [← hW1]; exact new_cell (World.size_alloc _ _)
  have m2 : W1.cell? ⟨w.heap.size + 1, 2, none⟩ = some (.slice e1 (Fo.len bk) e3) := by rw [← hW1]; exact new_cell (World.size_alloc _ _)
  have m3 : W1.cell? ⟨w.heap.size + 1, 3, none⟩ = some (.bool bv') := by rw [← hW1]; exact new_cell (World.size_alloc _ _)
  have m4 : W1.cell? ⟨w.heap.size + 1, 4, none⟩ = some (.int .i64 bi') := by rw [← hW1]; exact new_cell (World.size_alloc _ _)
  have m5 : W1.cell? ⟨w.heap.size + 1, 5, none⟩ = some (.slice f1 (Fo.len bk') f3) := by rw [← hW1]; exact new_cell (World.size_alloc _ _)
  have m6 : W1.cell? ⟨w.heap.size + 1, 6, none⟩ = some (fb) := by rw [← hW1]; exact new_cell (World.size_alloc _ _)
  clear hW1
  go_wp2_with fail
  refine (atP_place (x := (bv, bi)) (k := bk) Hz.out Gb.out.1.gd (HE.out.below hB1) (HN.out.below hB1)).mono ?_
  rintro e w2 ⟨z1, z3, rfl, hZ, hb2⟩
  have hB2 := below_step hB1 hb2
  replace k0 := grow_cell hb2 _ _ k0
  replace k1 := grow_cell hb2 _ _ k1
  replace k2 := grow_cell hb2 _ _ k2
  replace k3 := grow_cell hb2 _ _ k3
  replace k4 := grow_cell hb2 _ _ k4
  replace k5 := grow_cell hb2 _ _ k5
  replace k6 := grow_cell hb2 _ _ k6
  replace m0 := grow_cell hb2 _ _ m0
  replace m1 := grow_cell hb2 _ _ m1
  replace m2 := grow_cell hb2 _ _ m2
  replace m3 := grow_cell hb2 _ _ m3
  replace m4 := grow_cell hb2 _ _ m4
  replace m5 := grow_cell hb2 _ _ m5
  replace m6 := grow_cell hb2 _ _ m6
  have HZ := hide hZ
  clear hZ hb2
  simp only
  go_upto_region 2 with fail
  generalize hW3 : w2.alloc (.cells #[.bool zv, .int .i64 zi, .slice z1 (Fo.len zk) z3] 55) = W3
  have hb3 : Below w2.heap.size w2 W3 := by rw [← hW3]; exact below_alloc _ _
  have n0 : W3.cell? ⟨w2.heap.size, 0, none⟩ = some (.bool zv) := by rw [← hW3]; exact new_cell rfl
  have n1 : W3.cell? ⟨w2.heap.size, 1, none⟩ = some (.int .i64 zi) := by rw [← hW3]; exact new_cell rfl
  have n2 : W3.cell? ⟨w2.heap.size, 2, none⟩ = some (.slice z1 (Fo.len zk) z3) := by rw [← hW3]; exact new_cell rfl
  replace k0 := grow_cell hb3 _ _ k0
  replace k1 := grow_cell hb3 _ _ k1
  replace k2 := grow_cell hb3 _ _ k2
  replace k3 := grow_cell hb3 _ _ k3
  replace k4 := grow_cell hb3 _ _ k4
  replace k5 := grow_cell hb3 _ _ k5
  replace k6 := grow_cell hb3 _ _ k6
  replace m0 := grow_cell hb3 _ _ m0
  replace m1 := grow_cell hb3 _ _ m1
  replace m2 := grow_cell hb3 _ _ m2
  replace m3 := grow_cell hb3 _ _ m3
  replace m4 := grow_cell hb3 _ _ m4
  replace m5 := grow_cell hb3 _ _ m5
  replace m6 := grow_cell hb3 _ _ m6
  have hB3 := below_step hB2 hb3
  have Hui := hide (Ga.out.1.ui Gz.out)
  obtain ⟨n, hn⟩ := HU.out _ _ Hui.out
  have Hn := hide hn
  obtain ⟨R, hR⟩ : ∃ R, U ((av, ai), ak) ((zv, zi), zk) = R := ⟨_, rfl⟩
  rw [hR] at Hn
  have Hm0 : Hid (R = none → meetT U (an, ((av, ai), ak), ((av', ai'), ak')) (bn, ((bv, bi), bk), ((bv', bi'), bk')) p = none) := fun e => by
    unfold meetT
    rw [Hz.out]
    dsimp only
    rw [hR, e]
  have Hm1 : Hid (∀ s, R = some s → meetT U (an, ((av, ai), ak), ((av', ai'), ak')) (bn, ((bv, bi), bk), ((bv', bi'), bk')) p = if abvT (subT (bnd s) ((av', ai'), ak')) (subT (bnd s) ((av, ai), ak)) = true ∨ abvT (subT (bnd s) ((bv', bi'), bk')) (subT (bnd s) ((bv, bi), bk)) = true then none else some s) := fun s e => by
    unfold meetT
    rw [Hz.out]
    dsimp only
    rw [hR, e]
  have Hun := hide (unify_any (av, ai) ak (.slice a1 (Fo.len ak) a3) (zv, zi) zk (.slice z1 (Fo.len zk) z3) W3 n R Hn.out Hui.out (HA.out.below hB3) (HZ.out.below hb3))
  simp only at Hun
  clear hW3 hn hR hb3
  generalize meetT U (an, ((av, ai), ak), ((av', ai'), ak')) (bn, ((bv, bi), bk), ((bv', bi'), bk')) p = MT at *
  go_wp2_with fail
  refine Hun.out.mono ?_
  rintro e w4 ⟨hb4, u1, mm, u3, ok, rfl, hno, hyes⟩
  have hB4 := below_step hB3 hb4
  replace k0 := grow_cell hb4 _ _ k0
  replace k1 := grow_cell hb4 _ _ k1
  replace k2 := grow_cell hb4 _ _ k2
  replace k3 := grow_cell hb4 _ _ k3
  replace k4 := grow_cell hb4 _ _ k4
  replace k5 := grow_cell hb4 _ _ k5
  replace k6 := grow_cell hb4 _ _ k6
  replace m0 := grow_cell hb4 _ _ m0
  replace m1 := grow_cell hb4 _ _ m1
  replace m2 := grow_cell hb4 _ _ m2
  replace m3 := grow_cell hb4 _ _ m3
  replace m4 := grow_cell hb4 _ _ m4
  replace m5 := grow_cell hb4 _ _ m5
  replace m6 := grow_cell hb4 _ _ m6
  clear Hun hb4 n0 n1 n2
  cases ok
  · have Hno := hide (hno rfl)
    clear hno hyes
    obtain ⟨e1, rfl, rfl, rfl⟩ := Hno.out
    have He := hide e1
    clear e1 Hno
    go_wp2_with fail
    go_ret2
    exact ⟨hB4, none, 0, 0, false, rfl, fun _ => ⟨Hm0.out He.out, rfl, rfl, rfl⟩, fun h => by cases h⟩
  · obtain ⟨s', rfl, rfl, hSub⟩ := hyes rfl
    have HV := hide hSub
    have Hgs := hide (unify_ok Hui.out Hn.out).1
    have Hb1 := hide (bound_sz Ga.out.1 Gz.out Hn.out Ga.out.1.gd (by have := Ga.out.1.sz; omega))
    have Hb2 := hide (bound_sz Ga.out.1 Gz.out Hn.out Ga.out.2.gd (by have := Ga.out.2.sz; omega))
    have Hb3 := hide (bound_sz Ga.out.1 Gz.out Hn.out Gb.out.1.gd (by have := Gb.out.1.sz; omega))
    have Hb4 := hide (bound_sz Ga.out.1 Gz.out Hn.out Gb.out.2.gd (by have := Gb.out.2.sz; omega))
    have Hr1 := hide (rises_any (an, ((av, ai), ak), ((av', ai'), ak')) a1 d1 a3 d3 fa s' _ w4 (HA.out.below hB4) (HD.out.below hB4) HV.out Hgs.out ⟨Ga.out.1.gd, Hb1.out⟩ ⟨Ga.out.2.gd, Hb2.out⟩)
    have Hr2 := hide (fun (w' : World) (hb : Below w4.heap.size w4 w') => rises_any (bn, ((bv, bi), bk), ((bv', bi'), bk')) e1 f1 e3 f3 fb s' _ w' (HE.out.below (below_step hB4 hb)) (HG.out.below (below_step hB4 hb)) (HV.out.below hb) Hgs.out ⟨Gb.out.1.gd, Hb3.out⟩ ⟨Gb.out.2.gd, Hb4.out⟩)
    have Hm := hide (Hm1.out s' rfl)
    simp only at Hr1 Hr2
    clear hno hyes hSub Hm0 Hm1 Hb1 Hb2 Hb3 Hb4 Hn Hui
    generalize abvT (subT (bnd s') ((av', ai'), ak')) (subT (bnd s') ((av, ai), ak)) = B1 at Hr1 Hm
    generalize abvT (subT (bnd s') ((bv', bi'), bk')) (subT (bnd s') ((bv, bi), bk)) = B2 at Hr2 Hm
    go_wp2_with fail
    refine Hr1.out.mono ?_
    rintro e w5 ⟨rfl, hb5⟩
    have hB5 := below_step hB4 hb5
    replace k0 := grow_cell hb5 _ _ k0
    replace k1 := grow_cell hb5 _ _ k1
    replace k2 := grow_cell hb5 _ _ k2
    replace k3 := grow_cell hb5 _ _ k3
    replace k4 := grow_cell hb5 _ _ k4
    replace k5 := grow_cell hb5 _ _ k5
    replace k6 := grow_cell hb5 _ _ k6
    replace m0 := grow_cell hb5 _ _ m0
    replace m1 := grow_cell hb5 _ _ m1
    replace m2 := grow_cell hb5 _ _ m2
    replace m3 := grow_cell hb5 _ _ m3
    replace m4 := grow_cell hb5 _ _ m4
    replace m5 := grow_cell hb5 _ _ m5
    replace m6 := grow_cell hb5 _ _ m6
    cases B1
    · clear Hr1
      go_wp2_with fail
      refine (Hr2.out _ hb5).mono ?_
      rintro e w6 ⟨rfl, hb6⟩
      have hB6 := below_step hB5 hb6
      have hV6 := hide (HV.out.below (below_step hb5 hb6))
      clear Hr2 hb5 hb6 k0 k1 k2 k3 k4 k5 k6 m0 m1 m2 m3 m4 m5 m6
      cases B2
      · go_wp2_with fail
        go_ret2
        exact ⟨hB6, u1, s'.length, u3, true, rfl, fun h => (by cases h), fun _ => ⟨s', by rw [Hm.out]; simp, rfl, hV6.out⟩⟩
      · go_wp2_with fail
        go_ret2
        exact ⟨hB6, none, 0, 0, false, rfl, fun _ => ⟨by rw [Hm.out]; simp, rfl, rfl, rfl⟩, fun h => by cases h⟩
    · clear Hr1 Hr2 hb5
      go_wp2_with fail
      go_ret2
      exact ⟨hB5, none, 0, 0, false, rfl, fun _ => ⟨by rw [Hm.out]; simp, rfl, rfl, rfl⟩, fun h => by cases h⟩

end Go.Proofs.YtaliegkkdhkfcacGreatDoor

namespace Go.Proofs.YtaliegkkdhkfcacGreatDoor
open Go.RowKit Go.Deep Go.ChangeShapes Go.WideShapes
attribute [local go_sem ↓] Go.wp_at_zero Go.wp_at_succ

/-- The program's add, by what makes two terms the same. -/
theorem ruleAddP {lo p : Nat} {cs : List Cl} {lost : Bool} {v : Value} {xs : List Value} {b : Sb} {bv : Value} {d : Cl} {dv : Value} {w : World} {a1 a2 : Tm} {n : Nat} (hL : LSt lo w p cs lost v xs) (hV : SubIn w b bv) (hC : CIn w d dv) (ha : G12 a1) (hb : G12 a2) (hr : runU n [] [(a1, a2)] = some (some b))
    (hd : ∀ l ∈ d, G24 l) (hlen : d.length ≤ 8) (hcl : cs.length ≤ 1000000) :
    Calls Tryz.prog 22 #[.pointer (some ⟨p, 0, none⟩), bv, dv] w (AddLPost lo w p (cs, lost) (normC (d.map (mapL (subT (bnd b))))) v) :=
  comeAdd_any lo p cs lost v xs b bv d dv w hL hV hC (fun q hq => ⟨((unify_ok (ha.ui hb) hr).1 q hq).nar, ((unify_ok (ha.ui hb) hr).1 q hq).ok⟩) (fun l hl => ⟨(hd l hl).1.1.nar, (hd l hl).2.1.nar⟩) hlen hcl (gx_bind ha hb hr hlen hd)

/-- What puts another first term in the place of the first one, of the way k. -/
def withF (k g : Nat) : Value := .func (.func (if k = 1 then 55 else 54)) #[] #[.pointer (some ⟨g, 0, none⟩)]
theorem run_way (l : Lt) (a d : Value) (g k : Nat) (hk : k < 2) (w : World) : (Instr.index 68 (waysA l a d g) (.int .i64 (k : Int))).run Tryz.prog w = .ok (.agg #[.bool (turnL (decide (k = 1)) l).2.1.1.1, .int .i64 (turnL (decide (k = 1)) l).2.1.1.2, if k = 1 then d else a, .bool (turnL (decide (k = 1)) l).2.2.1.1, .int .i64 (turnL (decide (k = 1)) l).2.2.1.2, if k = 1 then a else d, withF k g]) w := by
  obtain rfl | rfl : k = 0 ∨ k = 1 := by omega
  · simp [go_sem, Instr.index, turnL, withF]
  · simp [go_sem, Instr.index, turnL, withF]
theorem way_at {l : Lt} {k : Nat} (hk : k < 2) {w : World} {a d : Value} (hA : SIn w l.2.1.2 a) (hD : SIn w l.2.2.2 d) : ∃ (a1 : Option Addr) (a3 : Nat) (d1 : Option Addr) (d3 : Nat), SIn w (turnL (decide (k = 1)) l).2.1.2 (.slice a1 (Fo.len (turnL (decide (k = 1)) l).2.1.2) a3) ∧ SIn w (turnL (decide (k = 1)) l).2.2.2 (.slice d1 (Fo.len (turnL (decide (k = 1)) l).2.2.2) d3) ∧
    ∀ (g : Nat) (w' : World), (Instr.index 68 (waysA l a d g) (.int .i64 (k : Int))).run Tryz.prog w' = .ok (wayA (turnL (decide (k = 1)) l) (.slice a1 (Fo.len (turnL (decide (k = 1)) l).2.1.2) a3) (.slice d1 (Fo.len (turnL (decide (k = 1)) l).2.2.2) d3) (withF k g)) w' := by
  have H1 := hA
  have H2 := hD
  obtain ⟨a1, a3, _, _, rfl, -, -, -, -⟩ := hA
  obtain ⟨d1, d3, _, _, rfl, -, -, -, -⟩ := hD
  obtain rfl | rfl : k = 0 ∨ k = 1 := by omega
  · exact ⟨a1, a3, d1, d3, H1, H2, fun g w' => run_way l _ _ g 0 (by omega) w'⟩
  · exact ⟨d1, d3, a1, a3, H2, H1, fun g w' => run_way l _ _ g 1 (by omega) w'⟩
theorem cl_lit {w : World} {l : Lt} {a d : Value} {T : TypeId} (hA : SIn w l.2.1.2 a) (hD : SIn w l.2.2.2 d) : CIn (w.alloc (.cells #[.bool l.1, .bool l.2.1.1.1, .int .i64 l.2.1.1.2, a, .bool l.2.2.1.1, .int .i64 l.2.2.1.2, d] T)) [l] (.slice (some ⟨w.heap.size, 0, none⟩) 1 1) :=
  ⟨_, 1, w.heap.size, 0, rfl, fun _ => rfl, Nat.le_refl _, by unfold maxLen; omega, ⟨new_cell rfl, new_cell rfl, new_cell rfl, ⟨a, new_cell rfl, hA.alloc _⟩, new_cell rfl, new_cell rfl, d, new_cell rfl, hD.alloc _⟩, trivial⟩
theorem facK_at {U : Tm → Tm → Option Sb} {c : Cl} {i : Nat} {x y : Lt} {st : List Cl × Bool} {k m : Nat} (hk : k < 2) (hm : m < 2) : facK U c i x y st (2 * k + m) = addU st (U (turnL (decide (k = 1)) x).2.1 (turnL (decide (m = 1)) y).2.1) (butC c i ++ [(true, (turnL (decide (k = 1)) x).2.2, (turnL (decide (m = 1)) y).2.2)]) := by
  obtain rfl | rfl : k = 0 ∨ k = 1 := by omega
  · obtain rfl | rfl : m = 0 ∨ m = 1 := by omega
    · rfl
    · rfl
  · obtain rfl | rfl : m = 0 ∨ m = 1 := by omega
    · rfl
    · rfl

set_option maxRecDepth 100000 in
set_option maxHeartbeats 8000000 in
theorem comeFactor_any {U : Tm → Tm → Option Sb} (hU : UOK U) {lo p : Nat} {c : Cl} {i : Nat} {x y : Lt} {st : List Cl × Bool} {v : Value} {xs : List Value} {rv : Value} {a1 d1 e1 f1 : Option Addr} {a3 d3 e3 f3 : Nat} {w : World} (hL : LSt lo w p st.1 st.2 v xs) (hR : CIn w (butC c i) rv)
    (hA : SIn w x.2.1.2 (.slice a1 (Fo.len x.2.1.2) a3)) (hD : SIn w x.2.2.2 (.slice d1 (Fo.len x.2.2.2) d3)) (hE : SIn w y.2.1.2 (.slice e1 (Fo.len y.2.1.2) e3)) (hG : SIn w y.2.2.2 (.slice f1 (Fo.len y.2.2.2) f3)) (hc : ∀ l ∈ c, G12L l) (hx : G12L x) (hy : G12L y) (h4 : c.length ≤ 4) (hn : st.1.length ≤ 100000) :
    Calls Tryz.prog 24 #[.pointer (some ⟨p, 0, none⟩), rv, litA x (.slice a1 (Fo.len x.2.1.2) a3) (.slice d1 (Fo.len x.2.2.2) d3), litA y (.slice e1 (Fo.len y.2.1.2) e3) (.slice f1 (Fo.len y.2.2.2) f3)] w fun e w' => e = .returned (.tuple #[]) ∧ ∃ v' xs', LK lo p w v (foldN (facK U c i x y) st 4) v' xs' w' := by
  obtain ⟨xn, ⟨⟨xv, xi⟩, xk⟩, ⟨xv', xi'⟩, xk'⟩ := x
  obtain ⟨yn, ⟨⟨yv, yi⟩, yk⟩, ⟨yv', yi'⟩, yk'⟩ := y
  obtain ⟨rw1, rw3, rfl⟩ := slice_of_cl hR
  have HU := hide hU
  have HL := hide hL
  have HR := hide hR
  have HA := hide hA
  have HD := hide hD
  have HE := hide hE
  have HG := hide hG
  have Hc := hide hc
  have Hx := hide hx
  have Hy := hide hy
  have Hlen : Hid (∀ q, (foldN (facK U c i (xn, ((xv, xi), xk), ((xv', xi'), xk')) (yn, ((yv, yi), yk), ((yv', yi'), yk'))) st q).1.length ≤ st.1.length + q) := fun q => by
    have := foldN_len (m := 1) (facK_len U c i (xn, ((xv, xi), xk), ((xv', xi'), xk')) (yn, ((yv, yi), yk), ((yv', yi'), yk'))) st q
    omega
  have Hn := hide hn
  have hbl : (butC c i).length ≤ 4 := by have := but_len (c := c) (i := i); omega
  simp only at *
  clear hU hL hR hA hD hE hG hc hx hy hn
  go_enter Tryz.func24, Tryz.ntmps24
  go_upto_region 1 with fail
  generalize hW1 : (w.alloc (.cells #[.bool xn, .bool xv, .int .i64 xi, .slice a1 (Fo.len xk) a3, .bool xv', .int .i64 xi', .slice d1 (Fo.len xk') d3] 57)).alloc (.cells #[.bool yn, .bool yv, .int .i64 yi, .slice e1 (Fo.len yk) e3, .bool yv', .int .i64 yi', .slice f1 (Fo.len yk') f3] 57) = W1
  have hB1 : Below w.heap.size w W1 := by rw [← hW1]; exact (below_alloc _ _).alloc (by simp) _
  have HX1 : Hid (RowAt W1 w.heap.size [.bool xn, .bool xv, .int .i64 xi, .slice a1 (Fo.len xk) a3, .bool xv', .int .i64 xi', .slice d1 (Fo.len xk') d3]) := by
    rw [Hid, ← hW1]
    exact (RowAt.new w #[.bool xn, .bool xv, .int .i64 xi, .slice a1 (Fo.len xk) a3, .bool xv', .int .i64 xi', .slice d1 (Fo.len xk') d3] 57).below (below_alloc _ _)
  have HY1 : Hid (RowAt W1 (w.heap.size + 1) [.bool yn, .bool yv, .int .i64 yi, .slice e1 (Fo.len yk) e3, .bool yv', .int .i64 yi', .slice f1 (Fo.len yk') f3]) := by
    have h2 := RowAt.new (w.alloc (.cells #[.bool xn, .bool xv, .int .i64 xi, .slice a1 (Fo.len xk) a3, .bool xv', .int .i64 xi', .slice d1 (Fo.len xk') d3] 57)) #[.bool yn, .bool yv, .int .i64 yi, .slice e1 (Fo.len yk) e3, .bool yv', .int .i64 yi', .slice f1 (Fo.len yk') f3] 57
    rw [World.size_alloc] at h2
    rw [Hid, ← hW1]
    exact h2
  clear hW1
  have p0 : W1.cell? ⟨w.heap.size, 0, none⟩ = some (.bool xn) := HX1.out 0 _ rfl
  have p1 : W1.cell? ⟨w.heap.size, 1, none⟩ = some (.bool xv) := HX1.out 1 _ rfl
  have p2 : W1.cell? ⟨w.heap.size, 2, none⟩ = some (.int .i64 xi) := HX1.out 2 _ rfl
  have p3 : W1.cell? ⟨w.heap.size, 3, none⟩ = some (.slice a1 (Fo.len xk) a3) := HX1.out 3 _ rfl
  have p4 : W1.cell? ⟨w.heap.size, 4, none⟩ = some (.bool xv') := HX1.out 4 _ rfl
  have p5 : W1.cell? ⟨w.heap.size, 5, none⟩ = some (.int .i64 xi') := HX1.out 5 _ rfl
  have p6 : W1.cell? ⟨w.heap.size, 6, none⟩ = some (.slice d1 (Fo.len xk') d3) := HX1.out 6 _ rfl
  go_wp2_with fail
  refine (bothWays_any (xn, ((xv, xi), xk), ((xv', xi'), xk')) a1 d1 _ _ _ _ W1).mono ?_
  rintro e w2 ⟨rfl, -, hb2⟩
  have hB2 := below_step hB1 hb2
  have HY2 := hide (HY1.out.below hb2)
  have HL2 := hide (HL.out.below hB2)
  have HLK := hide ((LK.start HL.out).below hB2)
  replace HR := hide (HR.out.below hB2)
  replace HA := hide (HA.out.below hB2)
  replace HD := hide (HD.out.below hB2)
  replace HE := hide (HE.out.below hB2)
  replace HG := hide (HG.out.below hB2)
  clear hb2 p0 p1 p2 p3 p4 p5 p6 HX1 HY1
  generalize W1.heap.size = gx at *
  clear hB1
  simp only
  go_wp2_with fail
  go_loopw [17] (fun q wr => ∃ (k : Nat) (v' : Value) (xs' : List Value), k ≤ 2 ∧ q = .int .i64 k ∧ LK lo p w2 v (foldN (facK U c i (xn, ((xv, xi), xk), ((xv', xi'), xk')) (yn, ((yv, yi), yk), ((yv', yi'), yk'))) st (2 * k)) v' xs' wr) (fun q _ => 2 - (intOf q).toNat)
  case atStart => exact ⟨0, v, xs, by omega, rfl, LK.start HL2.out⟩
  case round =>
    obtain ⟨k, v', xs', hk, rfl, hK⟩ := hrel
    have HK := hide hK
    clear hK
    by_cases hkl : k < 2
    · have hkl' : (k : Int) < 2 := by omega
      have Hkp := hide (HK.out.kpt HL2.out)
      have HYr := hide (HY2.out.kpt Hkp.out)
      obtain ⟨ta1, ta3, td1, td3, hTA, hTD, hTx⟩ := way_at (l := (xn, ((xv, xi), xk), ((xv', xi'), xk'))) hkl (Hkp.out.sin HA.out) (Hkp.out.sin HD.out)
      have Hgx := hide (turn_both (yes := decide (k = 1)) Hx.out)
      have Hfk : Hid (∀ m s, m < 2 → facK U c i (xn, ((xv, xi), xk), ((xv', xi'), xk')) (yn, ((yv, yi), yk), ((yv', yi'), yk')) s (2 * k + m) = addU s (U (turnL (decide (k = 1)) (xn, ((xv, xi), xk), ((xv', xi'), xk'))).2.1 (turnL (decide (m = 1)) (yn, ((yv, yi), yk), ((yv', yi'), yk'))).2.1) (butC c i ++ [(true, (turnL (decide (k = 1)) (xn, ((xv, xi), xk), ((xv', xi'), xk'))).2.2, (turnL (decide (m = 1)) (yn, ((yv, yi), yk), ((yv', yi'), yk'))).2.2)])) := fun m s hm => facK_at hkl hm
      generalize turnL (decide (k = 1)) (xn, ((xv, xi), xk), ((xv', xi'), xk')) = tx at *
      obtain ⟨tn, ⟨⟨tv, ti⟩, tk⟩, ⟨⟨tv', ti'⟩, tk'⟩⟩ := tx
      simp only at hTA hTD hTx Hgx Hfk
      have HTA := hide hTA
      have HTD := hide hTD
      have hix := fun w' => hTx gx w'
      unfold withF at hix
      generalize (if k = 1 then 55 else 54) = fn at hix
      clear hTA hTD hTx
      have q0 : wr.cell? ⟨w.heap.size + 1, 0, none⟩ = some (.bool yn) := HYr.out 0 _ rfl
      have q1 : wr.cell? ⟨w.heap.size + 1, 1, none⟩ = some (.bool yv) := HYr.out 1 _ rfl
      have q2 : wr.cell? ⟨w.heap.size + 1, 2, none⟩ = some (.int .i64 yi) := HYr.out 2 _ rfl
      have q3 : wr.cell? ⟨w.heap.size + 1, 3, none⟩ = some (.slice e1 (Fo.len yk) e3) := HYr.out 3 _ rfl
      have q4 : wr.cell? ⟨w.heap.size + 1, 4, none⟩ = some (.bool yv') := HYr.out 4 _ rfl
      have q5 : wr.cell? ⟨w.heap.size + 1, 5, none⟩ = some (.int .i64 yi') := HYr.out 5 _ rfl
      have q6 : wr.cell? ⟨w.heap.size + 1, 6, none⟩ = some (.slice f1 (Fo.len yk') f3) := HYr.out 6 _ rfl
      go_upto_region 4 with fail
      generalize hW4 : wr.alloc (.cells #[.bool tv, .int .i64 ti, .slice ta1 (Fo.len tk) ta3, .bool tv', .int .i64 ti', .slice td1 (Fo.len tk') td3, .func (.func fn) #[] #[.pointer (some ⟨gx, 0, none⟩)]] 67) = W4
      have hb4 : Below wr.heap.size wr W4 := by rw [← hW4]; exact below_alloc _ _
      have HX4 : Hid (RowAt W4 wr.heap.size [.bool tv, .int .i64 ti, .slice ta1 (Fo.len tk) ta3, .bool tv', .int .i64 ti', .slice td1 (Fo.len tk') td3, .func (.func fn) #[] #[.pointer (some ⟨gx, 0, none⟩)]]) := by
        rw [Hid, ← hW4]
        exact RowAt.new wr #[.bool tv, .int .i64 ti, .slice ta1 (Fo.len tk) ta3, .bool tv', .int .i64 ti', .slice td1 (Fo.len tk') td3, .func (.func fn) #[] #[.pointer (some ⟨gx, 0, none⟩)]] 67
      replace q0 := grow_cell hb4 _ _ q0
      replace q1 := grow_cell hb4 _ _ q1
      replace q2 := grow_cell hb4 _ _ q2
      replace q3 := grow_cell hb4 _ _ q3
      replace q4 := grow_cell hb4 _ _ q4
      replace q5 := grow_cell hb4 _ _ q5
      replace q6 := grow_cell hb4 _ _ q6
      clear hW4
      go_wp2_with fail
      refine (bothWays_any (yn, ((yv, yi), yk), ((yv', yi'), yk')) e1 f1 _ _ _ _ W4).mono ?_
      rintro e w5 ⟨rfl, -, hb5⟩
      have hb45 := below_step hb4 hb5
      have HX5 := hide (HX4.out.below hb5)
      have HK5 := hide (HK.out.below hb45)
      have HL5 := hide HK5.out.L
      have Hkp5 := hide (Hkp.out.trans (kpt_below hb45))
      replace HTA := hide (HTA.out.below hb45)
      replace HTD := hide (HTD.out.below hb45)
      have HE5 := hide (Hkp5.out.sin HE.out)
      have HG5 := hide (Hkp5.out.sin HG.out)
      have HR5 := hide (Hkp5.out.cin HR.out)
      generalize W4.heap.size = gy at *
      clear q0 q1 q2 q3 q4 q5 q6 HX4 hb4 hb5 hb45 HYr Hkp hix
      simp only
      go_wp2_with fail
      generalize hgw : wr.heap.size = gw at *
      generalize wr = wo at *
      go_loopw [22] (fun q wr => ∃ (m : Nat) (v2 : Value) (xs2 : List Value), m ≤ 2 ∧ q = .int .i64 m ∧ LK lo p w5 v' (foldN (facK U c i (xn, ((xv, xi), xk), ((xv', xi'), xk')) (yn, ((yv, yi), yk), ((yv', yi'), yk'))) st (2 * k + m)) v2 xs2 wr) (fun q _ => 2 - (intOf q).toNat)
      case atStart => exact ⟨0, v', xs', by omega, rfl, LK.start HL5.out⟩
      case round =>
        obtain ⟨m, v2, xs2, hm, rfl, hK2⟩ := hrel
        have HK2 := hide hK2
        clear hK2
        by_cases hml : m < 2
        · have hml' : (m : Int) < 2 := by omega
          have Hkp2 := hide (HK2.out.kpt HL5.out)
          have HXr := hide (HX5.out.kpt Hkp2.out)
          obtain ⟨sa1, sa3, sd1, sd3, hSA, hSD, hSx⟩ := way_at (l := (yn, ((yv, yi), yk), ((yv', yi'), yk'))) hml (Hkp2.out.sin HE5.out) (Hkp2.out.sin HG5.out)
          have Hgy := hide (turn_both (yes := decide (m = 1)) Hy.out)
          have Hfm := hide (Hfk.out m (foldN (facK U c i (xn, ((xv, xi), xk), ((xv', xi'), xk')) (yn, ((yv, yi), yk), ((yv', yi'), yk'))) st (2 * k + m)) hml)
          have Hsc := hide (foldN_succ (facK U c i (xn, ((xv, xi), xk), ((xv', xi'), xk')) (yn, ((yv, yi), yk), ((yv', yi'), yk'))) st (2 * k + m))
          generalize turnL (decide (m = 1)) (yn, ((yv, yi), yk), ((yv', yi'), yk')) = ty at *
          obtain ⟨sn, ⟨⟨sv, si⟩, sk⟩, ⟨⟨sv', si'⟩, sk'⟩⟩ := ty
          simp only at hSA hSD hSx Hgy Hfm
          have HSA := hide hSA
          have HSD := hide hSD
          have hiy := fun w' => hSx gy w'
          unfold withF at hiy
          generalize (if m = 1 then 55 else 54) = fm at hiy
          have Hst : Hid ((foldN (facK U c i (xn, ((xv, xi), xk), ((xv', xi'), xk')) (yn, ((yv, yi), yk), ((yv', yi'), yk'))) st (2 * k + m)).1.length ≤ 1000000) := by have := Hlen.out (2 * k + m); have := Hn.out; rw [Hid]; omega
          generalize foldN (facK U c i (xn, ((xv, xi), xk), ((xv', xi'), xk')) (yn, ((yv, yi), yk), ((yv', yi'), yk'))) st (2 * k + m) = stm at *
          clear hSA hSD hSx
          have r0 : wr.cell? ⟨gw, 0, none⟩ = some (.bool tv) := HXr.out 0 _ rfl
          have r1 : wr.cell? ⟨gw, 1, none⟩ = some (.int .i64 ti) := HXr.out 1 _ rfl
          have r2 : wr.cell? ⟨gw, 2, none⟩ = some (.slice ta1 (Fo.len tk) ta3) := HXr.out 2 _ rfl
          have r3 : wr.cell? ⟨gw, 3, none⟩ = some (.bool tv') := HXr.out 3 _ rfl
          have r4 : wr.cell? ⟨gw, 4, none⟩ = some (.int .i64 ti') := HXr.out 4 _ rfl
          have r5 : wr.cell? ⟨gw, 5, none⟩ = some (.slice td1 (Fo.len tk') td3) := HXr.out 5 _ rfl
          have r6 : wr.cell? ⟨gw, 6, none⟩ = some (.func (.func fn) #[] #[.pointer (some ⟨gx, 0, none⟩)]) := HXr.out 6 _ rfl
          go_upto_region 7 with fail
          generalize hW6 : wr.alloc (.cells #[.bool sv, .int .i64 si, .slice sa1 (Fo.len sk) sa3, .bool sv', .int .i64 si', .slice sd1 (Fo.len sk') sd3, .func (.func fm) #[] #[.pointer (some ⟨gy, 0, none⟩)]] 67) = W6
          have hb6 : Below wr.heap.size wr W6 := by rw [← hW6]; exact below_alloc _ _
          have HY6 : Hid (RowAt W6 wr.heap.size [.bool sv, .int .i64 si, .slice sa1 (Fo.len sk) sa3, .bool sv', .int .i64 si', .slice sd1 (Fo.len sk') sd3, .func (.func fm) #[] #[.pointer (some ⟨gy, 0, none⟩)]]) := by
            rw [Hid, ← hW6]
            exact RowAt.new wr #[.bool sv, .int .i64 si, .slice sa1 (Fo.len sk) sa3, .bool sv', .int .i64 si', .slice sd1 (Fo.len sk') sd3, .func (.func fm) #[] #[.pointer (some ⟨gy, 0, none⟩)]] 67
          clear hW6
          replace r0 := grow_cell hb6 _ _ r0
          replace r1 := grow_cell hb6 _ _ r1
          replace r2 := grow_cell hb6 _ _ r2
          replace r3 := grow_cell hb6 _ _ r3
          replace r4 := grow_cell hb6 _ _ r4
          replace r5 := grow_cell hb6 _ _ r5
          replace r6 := grow_cell hb6 _ _ r6
          have t0 : W6.cell? ⟨wr.heap.size, 0, none⟩ = some (.bool sv) := HY6.out 0 _ rfl
          have t1 : W6.cell? ⟨wr.heap.size, 1, none⟩ = some (.int .i64 si) := HY6.out 1 _ rfl
          have t2 : W6.cell? ⟨wr.heap.size, 2, none⟩ = some (.slice sa1 (Fo.len sk) sa3) := HY6.out 2 _ rfl
          have t3 : W6.cell? ⟨wr.heap.size, 3, none⟩ = some (.bool sv') := HY6.out 3 _ rfl
          have t4 : W6.cell? ⟨wr.heap.size, 4, none⟩ = some (.int .i64 si') := HY6.out 4 _ rfl
          have t5 : W6.cell? ⟨wr.heap.size, 5, none⟩ = some (.slice sd1 (Fo.len sk') sd3) := HY6.out 5 _ rfl
          have t6 : W6.cell? ⟨wr.heap.size, 6, none⟩ = some (.func (.func fm) #[] #[.pointer (some ⟨gy, 0, none⟩)]) := HY6.out 6 _ rfl
          have Hui := hide (Hgx.out.1.ui Hgy.out.1)
          obtain ⟨n, hnn⟩ := HU.out _ _ Hui.out
          have Hnn := hide hnn
          obtain ⟨R, hR⟩ : ∃ R, U ((tv, ti), tk) ((sv, si), sk) = R := ⟨_, rfl⟩
          rw [hR] at Hnn Hfm
          have Hun := hide (unify_any (tv, ti) tk (.slice ta1 (Fo.len tk) ta3) (sv, si) sk (.slice sa1 (Fo.len sk) sa3) W6 n R Hnn.out Hui.out (Hkp2.out.trans (kpt_below hb6) |>.sin HTA.out) (HSA.out.below hb6))
          simp only at Hun
          clear hnn hR
          go_wp2_with fail
          refine Hun.out.mono ?_
          rintro e w7 ⟨hb7, z1, mm, z3, ok, rfl, hno, hyes⟩
          have hb67 := below_step hb6 hb7
          have HK7 := hide (HK2.out.below hb67)
          have Hkp7 := hide (Hkp2.out.trans (kpt_below hb67))
          replace HSA := hide (HSA.out.below hb67)
          replace HSD := hide (HSD.out.below hb67)
          replace r0 := grow_cell hb7 _ _ r0
          replace r1 := grow_cell hb7 _ _ r1
          replace r2 := grow_cell hb7 _ _ r2
          replace r3 := grow_cell hb7 _ _ r3
          replace r4 := grow_cell hb7 _ _ r4
          replace r5 := grow_cell hb7 _ _ r5
          replace r6 := grow_cell hb7 _ _ r6
          replace t0 := grow_cell hb7 _ _ t0
          replace t1 := grow_cell hb7 _ _ t1
          replace t2 := grow_cell hb7 _ _ t2
          replace t3 := grow_cell hb7 _ _ t3
          replace t4 := grow_cell hb7 _ _ t4
          replace t5 := grow_cell hb7 _ _ t5
          replace t6 := grow_cell hb7 _ _ t6
          clear Hun hb6 hb7 hb67 HXr HY6 Hkp2 HK2 hiy
          cases ok
          · have Hend : Hid (LK lo p w5 v' (foldN (facK U c i (xn, ((xv, xi), xk), ((xv', xi'), xk')) (yn, ((yv, yi), yk), ((yv', yi'), yk'))) st (2 * k + m + 1)) v2 xs2 w7) := by
              have := HK7.out
              rw [Hid, Hsc.out, Hfm.out, (hno rfl).1]
              exact this
            clear hno hyes r0 r1 r2 r3 r4 r5 r6 t0 t1 t2 t3 t4 t5 t6
            go_wp2_with fail
            go_roundw
            case rel => exact ⟨m + 1, v2, xs2, by omega, by go_num, Hend.out⟩
            case measure => simp [intOf]; omega
          · obtain ⟨s', rfl, rfl, hSub⟩ := hyes rfl
            have HV := hide hSub
            clear hno hyes hSub
            go_upto_region 10 with fail
            generalize hW8 : w7.alloc (.cells #[.bool true, .bool tv', .int .i64 ti', .slice td1 (Fo.len tk') td3, .bool sv', .int .i64 si', .slice sd1 (Fo.len sk') sd3] 57) = W8
            have hb8 : Below w7.heap.size w7 W8 := by rw [← hW8]; exact below_alloc _ _
            have HU8 : Hid (RowAt W8 w7.heap.size [.bool true, .bool tv', .int .i64 ti', .slice td1 (Fo.len tk') td3, .bool sv', .int .i64 si', .slice sd1 (Fo.len sk') sd3]) := by
              rw [Hid, ← hW8]
              exact RowAt.new w7 #[.bool true, .bool tv', .int .i64 ti', .slice td1 (Fo.len tk') td3, .bool sv', .int .i64 si', .slice sd1 (Fo.len sk') sd3] 57
            clear hW8 r0 r1 r2 r3 r4 r5 r6 t0 t1 t2 t3 t4 t5 t6
            have u0 : W8.cell? ⟨w7.heap.size, 0, none⟩ = some (.bool true) := HU8.out 0 _ rfl
            have u1 : W8.cell? ⟨w7.heap.size, 1, none⟩ = some (.bool tv') := HU8.out 1 _ rfl
            have u2 : W8.cell? ⟨w7.heap.size, 2, none⟩ = some (.int .i64 ti') := HU8.out 2 _ rfl
            have u3 : W8.cell? ⟨w7.heap.size, 3, none⟩ = some (.slice td1 (Fo.len tk') td3) := HU8.out 3 _ rfl
            have u4 : W8.cell? ⟨w7.heap.size, 4, none⟩ = some (.bool sv') := HU8.out 4 _ rfl
            have u5 : W8.cell? ⟨w7.heap.size, 5, none⟩ = some (.int .i64 si') := HU8.out 5 _ rfl
            have u6 : W8.cell? ⟨w7.heap.size, 6, none⟩ = some (.slice sd1 (Fo.len sk') sd3) := HU8.out 6 _ rfl
            have hb9 : Below W8.heap.size W8 ((W8.alloc (.cells #[.bool true, .bool tv', .int .i64 ti', .slice td1 (Fo.len tk') td3, .bool sv', .int .i64 si', .slice sd1 (Fo.len sk') sd3] 57)).alloc (.cells #[.slice rw1 (butC c i).length rw3, .slice (some ⟨W8.heap.size, 0, none⟩) 1 1] 25)) := (below_alloc _ _).alloc (by simp) _
            have hNL : CIn (W8.alloc (.cells #[.bool true, .bool tv', .int .i64 ti', .slice td1 (Fo.len tk') td3, .bool sv', .int .i64 si', .slice sd1 (Fo.len sk') sd3] 57)) [(true, ((tv', ti'), tk'), ((sv', si'), sk'))] (.slice (some ⟨W8.heap.size, 0, none⟩) 1 1) := cl_lit (l := (true, ((tv', ti'), tk'), ((sv', si'), sk'))) ((Hkp7.out.sin HTD.out).below hb8) (HSD.out.below hb8)
            have Hcc := hide (concat_any (butC c i) [(true, ((tv', ti'), tk'), ((sv', si'), sk'))] (.slice rw1 (butC c i).length rw3) (.slice (some ⟨W8.heap.size, 0, none⟩) 1 1) (W8.heap.size + 1) 0 2 _ (((Hkp7.out.cin HR5.out).below hb8).below hb9) (hNL.below (below_alloc _ _)) (new_cell (World.size_alloc _ _)) (new_cell (World.size_alloc _ _)) (by have := hbl; simp only [List.length_cons, List.length_nil]; omega))
            have Hb9 := hide (below_step hb8 hb9)
            clear hb8 hb9 hNL
            go_wp2_with fail
            with_reducible refine Hcc.out.mono ?_
            rintro e w9 ⟨dv, rfl, hCC, hb10⟩
            have HK9 := hide (HK7.out.below (below_step Hb9.out hb10))
            have Had := hide (ruleAddP HK9.out.L (HV.out.below (below_step Hb9.out hb10)) hCC Hgx.out.1 Hgy.out.1 Hnn.out (fun l hl => by
              rcases List.mem_append.1 hl with hl | hl
              · exact (Hc.out l (but_mem hl)).x
              · rw [List.mem_singleton.1 hl]; exact G12L.x ⟨Hgx.out.2, Hgy.out.2⟩) (by have := hbl; rw [List.length_append]; simp only [List.length_cons, List.length_nil]; omega) Hst.out)
            clear hCC hb10 Hcc u0 u1 u2 u3 u4 u5 u6
            go_wp2_with fail
            refine Had.out.mono ?_
            rintro e w11 hpost
            obtain ⟨v3, xs3, hK3⟩ := HK9.out.add hpost
            obtain ⟨rfl, -⟩ := hpost
            have Hend : Hid (LK lo p w5 v' (foldN (facK U c i (xn, ((xv, xi), xk), ((xv', xi'), xk')) (yn, ((yv, yi), yk), ((yv', yi'), yk'))) st (2 * k + m + 1)) v3 xs3 w11) := by
              have := hK3
              rw [Hid, Hsc.out, Hfm.out]
              exact this
            clear hK3 Had
            go_wp2_with fail
            go_roundw
            case rel => exact ⟨m + 1, v3, xs3, by omega, by go_num, Hend.out⟩
            case measure => simp [intOf]; omega
        · have hm2 : m = 2 := by omega
          subst hm2
          have Hend : Hid (LK lo p w2 v (foldN (facK U c i (xn, ((xv, xi), xk), ((xv', xi'), xk')) (yn, ((yv, yi), yk), ((yv', yi'), yk'))) st (2 * (k + 1))) v2 xs2 wr) := HK5.out.trans HK2.out
          go_wp2_with fail
          go_roundw
          case rel => exact ⟨k + 1, v2, xs2, by omega, by go_num, Hend.out⟩
          case measure => simp [intOf]; omega
    · have hk2 : k = 2 := by omega
      subst hk2
      have Hend : Hid (LK lo p w v (foldN (facK U c i (xn, ((xv, xi), xk), ((xv', xi'), xk')) (yn, ((yv, yi), yk), ((yv', yi'), yk'))) st 4) v' xs' wr) := HLK.out.trans HK.out
      go_wp2_with fail
      go_end0
      exact ⟨rfl, v', xs', Hend.out⟩

end Go.Proofs.YtaliegkkdhkfcacGreatDoor

namespace Go.Proofs.YtaliegkkdhkfcacGreatDoor
open Go.RowKit Go.Deep Go.ChangeShapes Go.WideShapes

theorem lc_set {X : Nat → Prop} {w : World} {l : Lt} {a d : Value} (hA : SB X w l.2.1.2 a) (hD : SB X w l.2.2.2 d) : ∀ {c : Cl} {xs : List Value} {j : Nat}, LC X w c xs → j < c.length → LC X w (c.set j l) (xs.take (j * 7) ++ litV l a d ++ xs.drop (j * 7 + 7))
  | [], _, _, _, hj => by simp at hj
  | q :: c, xs, 0, ⟨a', d', ys, h1, h2, h3, h4⟩, _ => by
    subst h1
    exact ⟨a, d, ys, by simp, hA, hD, h4⟩
  | q :: c, xs, j + 1, ⟨a', d', ys, h1, h2, h3, h4⟩, hj => by
    subst h1
    have ih := lc_set hA hD (c := c) (xs := ys) (j := j) h4 (by simpa using hj)
    refine ⟨a', d', ys.take (j * 7) ++ litV l a d ++ ys.drop (j * 7 + 7), ?_, h2, h3, ih⟩
    rw [show (j + 1) * 7 = j * 7 + 7 by omega]
    simp only [List.take_succ_cons, List.drop_succ_cons, List.cons_append]
theorem own_set {lo : Nat} {X : Nat → Prop} {w : World} {c : Cl} {v : Value} {xs : List Value} (h : OwnL lo X w c v xs) {g : Nat} (hg : v.ownBlock = some g) {j : Nat} (hj : j < c.length) {l : Lt} {a d : Value} (hA : SB X w l.2.1.2 a) (hD : SB X w l.2.2.2 d) :
    CIn (setL w g (j * 7) (litV l a d)) (c.set j l) v ∧ (∀ i, i < 7 → ∃ u, w.cell? ⟨g, j * 7 + i, none⟩ = some u) := by
  have hl := h.cells.len
  have hcell : ∀ i, i < xs.length → w.cell? ⟨g, i, none⟩ = xs[i]? := fun i hi => by
    have := h.row.cells hg i xs[i] (List.getElem?_eq_getElem hi)
    rw [add_plain, Nat.zero_add] at this
    rw [this, List.getElem?_eq_getElem hi]
  have hex : ∀ i, i < 7 → ∃ u, w.cell? ⟨g, j * 7 + i, none⟩ = some u := fun i hi => by
    have hlt : j * 7 + i < xs.length := by rw [hl]; omega
    exact ⟨xs[j * 7 + i], by rw [hcell _ hlt, List.getElem?_eq_getElem hlt]⟩
  refine ⟨?_, hex⟩
  obtain ⟨z1, z3, hv⟩ := h.slice
  have hz : z1 = some ⟨g, 0, none⟩ := by
    rcases h.row.2 with ⟨e, h0⟩ | ⟨g', cap, cur, e, _⟩
    · rw [e] at hg; cases hg
    · rw [e] at hg
      simp only [Value.ownBlock, Option.some.injEq] at hg
      subst hg
      rw [hv] at e
      simp only [Value.slice.injEq] at e
      exact e.1
  have hcap : c.length ≤ z3 ∧ z3 ≤ maxLen := by
    obtain ⟨_, k, _, _, e, _, h3, h4, _⟩ := h.cl
    rw [hv] at e
    simp only [Value.slice.injEq, true_and] at e
    rw [e.2]
    exact ⟨h3, h4⟩
  have hLC := lc_set (l := l) (a := a) (d := d) hA hD h.cells hj
  have hfr : LC X (setL w g (j * 7) (litV l a d)) (c.set j l) (xs.take (j * 7) ++ litV l a d ++ xs.drop (j * 7 + 7)) := hLC.frame (fun _ q => q) (fun q i hq => setL_other (.inl (fun e => (h.off q hq).2 (by rw [hg, e]))))
  refine ⟨z1, z3, g, 0, by rw [hv, List.length_set], fun _ => hz, by rw [List.length_set]; exact hcap.1, hcap.2, hfr.at (fun i hi => ?_)⟩
  rw [Nat.zero_add]
  have hlen : (xs.take (j * 7)).length = j * 7 := by rw [List.length_take, Nat.min_eq_left (by omega)]
  have hi2 : i < xs.length := by
    simp only [List.length_append, List.length_drop, hlen, List.length_cons, List.length_nil] at hi
    omega
  by_cases h1 : i < j * 7
  · rw [setL_other (.inr (.inl h1)), hcell i hi2, List.append_assoc, List.getElem?_append_left (by rw [hlen]; exact h1), List.getElem?_take_of_lt h1]
  · by_cases h2 : i < j * 7 + 7
    · obtain ⟨t, rfl⟩ : ∃ t, i = j * 7 + t := ⟨i - j * 7, by omega⟩
      have ht : t < 7 := by omega
      rw [List.append_assoc, List.getElem?_append_right (by omega), hlen, show j * 7 + t - j * 7 = t by omega, List.getElem?_append_left (by simpa using ht)]
      obtain ⟨u, hu⟩ : ∃ u, (litV l a d)[t]? = some u := ⟨(litV l a d)[t]'ht, List.getElem?_eq_getElem ht⟩
      rw [hu]
      exact setL_at (xs := litV l a d) (fun q hq => hex q (by simpa using hq)) t u hu
    · rw [setL_other (.inr (.inr (by simp; omega))), hcell i hi2, List.getElem?_append_right (by simp only [List.length_append, hlen, List.length_cons, List.length_nil]; omega)]
      simp only [List.length_append, hlen, List.length_cons, List.length_nil, List.getElem?_drop]
      congr 1
      omega

/-- The places Z lie in w, as the value v says, in blocks from lo on. -/
def PlaIn (lo : Nat) (w : World) (Z : List (List Int)) (v : Value) : Prop :=
  ∃ (a : Option Addr) (c g : Nat), v = .slice a Z.length c ∧ (0 < Z.length → a = some ⟨g, 0, none⟩ ∧ lo ≤ g ∧ g < w.heap.size) ∧ Z.length ≤ c ∧ c ≤ maxLen ∧ ∀ t q, Z[t]? = some q → ∃ y, w.cell? ⟨g, t, none⟩ = some y ∧ w.ownsRow lo 3 1 y q.length (vals q)
theorem PlaIn.keep {lo : Nat} {w w' : World} {Z : List (List Int)} {v : Value} (h : PlaIn lo w Z v) (hs : w.heap.size ≤ w'.heap.size) (hk : ∀ q, lo ≤ q → q < w.heap.size → w'.heap[q]? = w.heap[q]?) : PlaIn lo w' Z v := by
  obtain ⟨a, c, g, h1, h2, h3, h4, h5⟩ := h
  refine ⟨a, c, g, h1, fun hz => ⟨(h2 hz).1, (h2 hz).2.1, by have := (h2 hz).2.2; omega⟩, h3, h4, fun t q hq => ?_⟩
  obtain ⟨y, k1, k2⟩ := h5 t q hq
  have hz := h2 (by have := (List.getElem?_eq_some_iff.1 hq).1; omega)
  refine ⟨y, ?_, owns_keep k2 (fun b hb => hk b (owns_at k2 b hb).1 (owns_at k2 b hb).2)⟩
  rw [World.cell?_of_block (hk g hz.2.1 hz.2.2)]
  exact k1
theorem LK.places {lo p : Nat} {W W1 : World} {V : Value} {st : List Cl × Bool} {v : Value} {xs : List Value} {w : World} (h : LK lo p W V st v xs w) {cs : List Cl} {lost : Bool} {ys : List Value} (hW : LSt lo W1 p cs lost V ys) {Z : List (List Int)} {u : Value} (hp : PlaIn W1.heap.size W Z u) : PlaIn W1.heap.size w Z u :=
  hp.keep h.fr.size (fun _ h1 h2 => h.block hW h1 h2)

end Go.Proofs.YtaliegkkdhkfcacGreatDoor

namespace Go.Proofs.YtaliegkkdhkfcacGreatDoor
open Go.RowKit Go.Deep Go.ChangeShapes Go.WideShapes
attribute [local go_sem ↓] Go.wp_at_zero Go.wp_at_succ

theorem supI_eq {U : Tm → Tm → Option Sb} {c d : Cl} (st : List Cl × Bool) {i : Nat} {x : Lt} (hx : c[i]? = some x) : supI U c d st i = foldN (supK U c i x d) st 2 := by unfold supI; rw [hx]
theorem supJ_eq {U : Tm → Tm → Option Sb} {c : Cl} {i : Nat} {a : Lt} {d : Cl} (st : List Cl × Bool) {j : Nat} {y : Lt} (hy : d[j]? = some y) : supJ U c i a d st j = foldN (supD U c i a d j y) st 2 := by unfold supJ; rw [hy]
theorem places_few : ∀ {F : Fo} {p : List Int} {i : Int}, (placesF F p i).length ≤ Fo.sizesR F
  | .nil, _, _ => Nat.le_refl _
  | .node _ _ x k r, p, i => by
    have h1 := places_few (F := k) (p := p ++ [i]) (i := 0)
    have h2 := places_few (F := r) (p := p) (i := i + 1)
    simp only [placesF, List.length_append, Fo.sizesR]
    split
    · simp; omega
    · simp; omega
theorem places_12 {t : Tm} (h : G12 t) : (placesT t.1 t.2 []).length ≤ 12 := by
  have h1 := places_few (F := t.2) (p := []) (i := 0)
  have h2 := h.sz
  simp only [szT, tszR] at h2
  unfold placesT
  split
  · simp
  · simp; omega
theorem supD_len {U : Tm → Tm → Option Sb} {c : Cl} {i : Nat} {a : Lt} {d : Cl} {j : Nat} {y : Lt} (hy : G12L y) (st : List Cl × Bool) (side : Nat) : (supD U c i a d j y st side).1.length ≤ st.1.length + 12 := by
  have h1 := foldT_len (supP_len U c i a d j (turnL (decide (side = 1)) y) (decide (side = 1))) (placesT (turnL (decide (side = 1)) y).2.1.1 (turnL (decide (side = 1)) y).2.1.2 []) st
  have h2 := places_12 (turn_both (yes := decide (side = 1)) hy).1
  unfold supD
  omega
theorem supJ_len {U : Tm → Tm → Option Sb} {c : Cl} {i : Nat} {a : Lt} {d : Cl} (hd : ∀ l ∈ d, G12L l) (st : List Cl × Bool) (j : Nat) : (supJ U c i a d st j).1.length ≤ st.1.length + 24 := by
  unfold supJ
  split
  · rename_i y hy
    exact foldN_len (m := 12) (supD_len (hd y (List.mem_of_getElem? hy))) st 2
  · omega
theorem supK_len {U : Tm → Tm → Option Sb} {c : Cl} {i : Nat} {x : Lt} {d : Cl} (hd : ∀ l ∈ d, G12L l) (h4 : d.length ≤ 4) (st : List Cl × Bool) (k : Nat) : (supK U c i x d st k).1.length ≤ st.1.length + 96 := by
  unfold supK
  split
  · omega
  · have := foldN_len (m := 24) (supJ_len (U := U) (c := c) (i := i) (a := turnL (decide (k = 1)) x) hd) st d.length
    omega
theorem supI_len {U : Tm → Tm → Option Sb} {c d : Cl} (hd : ∀ l ∈ d, G12L l) (h4 : d.length ≤ 4) (st : List Cl × Bool) (i : Nat) : (supI U c d st i).1.length ≤ st.1.length + 192 := by
  unfold supI
  split
  · rename_i x hx
    exact foldN_len (m := 96) (supK_len (x := x) hd h4) st 2
  · omega
theorem supTo_len {U : Tm → Tm → Option Sb} {c d : Cl} (hd : ∀ l ∈ d, G12L l) (h4 : d.length ≤ 4) (i : Nat) : (supTo U c d i).1.length ≤ i * 192 := by
  have := foldN_len (m := 192) (supI_len (U := U) (c := c) hd h4) ([], false) i
  rw [List.length_nil, Nat.zero_add] at this
  exact this

section
variable {W : World} {BV : Value} {ga gb : Nat} {AR AL BR BL : Value} {qa qb qc qd : Tm} {A2 : Bool} {D : Nat → Bool} {w w' : World} {s84 s85 s86 s87 s88 s89 s90 s91 s92 s93 s94 s95 s96 s97 s98 s99 s100 s101 s102 s103 s104 s105 s106 s107 : Value}
end
section
variable {W : World} {BV : Value} {ga gb : Nat} {AR AL BR BL : Value} {qa qb qc qd : Tm} {A2 : Bool} {D : Nat → Bool} {w w' : World} {s84 s85 s86 s87 s88 s89 s90 s91 s92 s93 s94 s95 s96 s97 s98 s99 s100 s101 s102 s103 s104 s105 s106 s107 : Value}
end

end Go.Proofs.YtaliegkkdhkfcacGreatDoor

namespace Go.Proofs.YtaliegkkdhkfcacGreatDoor
open Go.RowKit Go.Deep Go.ChangeShapes Go.WideShapes
attribute [local go_sem ↓] Go.wp_at_zero Go.wp_at_succ

theorem placesP_call {x : Bool × Int} {k : Fo} {a : Value} {w : World} {Z : List (List Int)} (hZ : Z = placesT x k []) (hS : SIn w k a) (hb : tszR k ≤ 12) :
    Calls Tryz.prog 56 #[.agg #[.bool x.1, .int .i64 x.2, a]] w fun e w' => ∃ z1 z3, e = .returned (.slice z1 Z.length z3) ∧ PlaIn w.heap.size w' Z (.slice z1 Z.length z3) ∧ Below w.heap.size w w' := by
  refine (places_any x k a w hS (by omega)).mono ?_
  rintro e w' ⟨vo, ys, rfl, h1, h2, h3⟩
  rw [← hZ] at h2
  have hcells := fun g hg => h1.cells (g := g) hg
  have hat := fun g hg => owns_at h1 g hg
  have hyl := h2.1
  rcases h1.2 with ⟨rfl, h0⟩ | ⟨g, cap, cur, rfl, q1, q2, q3, q4, q5, q6⟩
  · have hz : Z = [] := List.length_eq_zero_iff.1 (by omega)
    refine ⟨none, 0, by rw [hz]; rfl, ⟨none, 0, 0, rfl, fun h => by rw [hz] at h; simp at h, by rw [hz]; exact Nat.le_refl _, Nat.zero_le _, fun t q hq => by rw [hz] at hq; simp at hq⟩, h3⟩
  · rw [hyl]
    have hg := hat g rfl
    refine ⟨some ⟨g, 0, none⟩, cap, rfl, ⟨_, cap, g, rfl, fun _ => ⟨rfl, hg.1, hg.2⟩, by omega, q4, fun t q hq => ?_⟩, h3⟩
    have ht : t < ys.length := by have := (List.getElem?_eq_some_iff.1 hq).1; omega
    refine ⟨ys[t], ?_, (h2.2 t _ q (List.getElem?_eq_getElem ht) hq).1⟩
    have := hcells g rfl t ys[t] (List.getElem?_eq_getElem ht)
    rw [add_plain, Nat.zero_add] at this
    exact this
theorem own_ex {w : World} {lo : Nat} {v : Value} {n : Nat} {xs : List Value} (h : w.ownsRow lo 57 7 v n xs) (hn : 0 < n) : ∃ g k, v = .slice (some ⟨g, 0, none⟩) n k ∧ lo ≤ g ∧ g < w.heap.size ∧ ∀ i, w.frozen? ⟨g, i, none⟩ = false := by
  have hat := fun g hg => owns_at h g hg
  rcases h.2 with ⟨e, h0⟩ | ⟨g, cap, cur, e, q1, q2, q3, q4, q5⟩
  · omega
  · have hg := hat g (by rw [e]; rfl)
    exact ⟨g, cap, e, hg.1, hg.2, fun i => by simp [World.frozen?, q2]⟩
theorem own_cells {lo : Nat} {X : Nat → Prop} {w : World} {c : Cl} {v : Value} {xs : List Value} (h : OwnL lo X w c v xs) {g : Nat} (hg : v.ownBlock = some g) {j : Nat} (hj : j < c.length) : ∀ i, i < 7 → ∃ u, w.cell? ⟨g, j * 7 + i, none⟩ = some u := fun i hi => by
  have hl := h.cells.len
  have hlt : j * 7 + i < xs.length := by rw [hl]; omega
  refine ⟨xs[j * 7 + i], ?_⟩
  have := h.row.cells hg (j * 7 + i) xs[j * 7 + i] (List.getElem?_eq_getElem hlt)
  rw [add_plain, Nat.zero_add] at this
  exact this
theorem meet_some {U : Tm → Tm → Option Sb} {a b : Lt} {p : List Int} {z : Tm} {s : Sb} (hz : atT p b.2.1.1 b.2.1.2 = some z) (h : meetT U a b p = some s) : U a.2.1 z = some s := by
  unfold meetT at h
  rw [hz] at h
  dsimp only at h
  cases hU : U a.2.1 z with
  | none => rw [hU] at h; cases h
  | some r =>
    rw [hU] at h
    dsimp only at h
    split at h
    · cases h
    · exact h
/-- Put, where there is such a place: the program's, all anew. -/
theorem putP_place {p : List Int} {pv : Value} {x : Bool × Int} {k : Fo} {q : Tm} {a : Value} {y : Bool × Int} {l : Fo} {c : Value} {w : World} (hq : putT p (x, k) (y, l) = q) (hg : Gd (x, k)) (hu : Gd (y, l)) (hS : SIn w k a) (hU : SIn w l c) (hN : NIn w p pv) :
    Calls Tryz.prog 59 #[.agg #[.bool x.1, .int .i64 x.2, a], pv, .agg #[.bool y.1, .int .i64 y.2, c]] w fun e w' => ∃ (a1 : Option Addr) (a3 : Nat), e = .returned (.agg #[.bool q.1.1, .int .i64 q.1.2, .slice a1 (Fo.len q.2) a3]) ∧
      SB (New w w') w' q.2 (.slice a1 (Fo.len q.2) a3) ∧ Below w.heap.size w w' := by
  subst hq
  refine (put_any x k a p pv y l c w hS hN hU hg.nar.1 hg.nar.2 hu.nar.1 hu.nar.2).mono ?_
  rintro e w' ⟨hb, a', rfl, h1⟩
  have h5 := h1.toS
  obtain ⟨q1, q3, _, _, e2, -, -, -, -⟩ := h5
  subst e2
  exact ⟨q1, q3, rfl, h1, hb⟩

set_option maxRecDepth 100000 in
set_option maxHeartbeats 16000000 in
theorem comeSup_any {U : Tm → Tm → Option Sb} (hU : UOK U) {lo p : Nat} {c : Cl} {i : Nat} {a : Lt} {d : Cl} {st : List Cl × Bool} {v : Value} {xs : List Value} {rv dv : Value} {a1 d1 : Option Addr} {a3 d3 fn g0 : Nat} {w : World} (hL : LSt lo w p st.1 st.2 v xs) (hR : CIn w (butC c i) rv)
    (hA : SIn w a.2.1.2 (.slice a1 (Fo.len a.2.1.2) a3)) (hB : SIn w a.2.2.2 (.slice d1 (Fo.len a.2.2.2) d3)) (hD : CIn w d dv) (hc : ∀ l ∈ c, G12L l) (ha : G12L a) (hd : ∀ l ∈ d, G12L l) (h4 : c.length ≤ 4) (hd4 : d.length ≤ 4) (hn : st.1.length ≤ 100000) :
    Calls Tryz.prog 27 #[.pointer (some ⟨p, 0, none⟩), rv, wayA a (.slice a1 (Fo.len a.2.1.2) a3) (.slice d1 (Fo.len a.2.2.2) d3) (.func (.func fn) #[] #[.pointer (some ⟨g0, 0, none⟩)]), dv] w fun e w' => e = .returned (.tuple #[]) ∧ ∃ v' xs', LK lo p w v (foldN (supJ U c i a d) st d.length) v' xs' w' := by
  obtain ⟨an, ⟨⟨av, ai⟩, ak⟩, ⟨av', ai'⟩, ak'⟩ := a
  obtain ⟨rw1, rw3, rfl⟩ := slice_of_cl hR
  obtain ⟨dd1, dd3, rfl⟩ := slice_of_cl hD
  have HU := hide hU
  have HL := hide hL
  have HR := hide hR
  have HA := hide hA
  have HB := hide hB
  have HD := hide hD
  have Hc := hide hc
  have Ha := hide ha
  have Hd := hide hd
  have Hn := hide hn
  have hbl : (butC c i).length ≤ 4 := by have := but_len (c := c) (i := i); omega
  have Hlen : Hid (∀ q, q ≤ 4 → (foldN (supJ U c i (an, ((av, ai), ak), ((av', ai'), ak')) d) st q).1.length ≤ st.1.length + 96) := fun q hq => by
    have := foldN_len (m := 24) (supJ_len (U := U) (c := c) (i := i) (a := (an, ((av, ai), ak), ((av', ai'), ak'))) hd) st q
    omega
  simp only at *
  clear hU hL hR hA hB hD hc ha hd hn
  go_enter Tryz.func27, Tryz.ntmps27
  go_upto_region 1 with fail
  generalize hW1 : w.alloc (.cells #[.bool av, .int .i64 ai, .slice a1 (Fo.len ak) a3, .bool av', .int .i64 ai', .slice d1 (Fo.len ak') d3, .func (.func fn) #[] #[.pointer (some ⟨g0, 0, none⟩)]] 67) = W1
  have hB1 : Below w.heap.size w W1 := by rw [← hW1]; exact below_alloc _ _
  have HX1 : Hid (RowAt W1 w.heap.size [.bool av, .int .i64 ai, .slice a1 (Fo.len ak) a3, .bool av', .int .i64 ai', .slice d1 (Fo.len ak') d3, .func (.func fn) #[] #[.pointer (some ⟨g0, 0, none⟩)]]) := by
    rw [Hid, ← hW1]
    exact RowAt.new w #[.bool av, .int .i64 ai, .slice a1 (Fo.len ak) a3, .bool av', .int .i64 ai', .slice d1 (Fo.len ak') d3, .func (.func fn) #[] #[.pointer (some ⟨g0, 0, none⟩)]] 67
  clear hW1
  have HL1 := hide (HL.out.below hB1)
  have HLK := hide ((LK.start HL.out).below hB1)
  replace HR := hide (HR.out.below hB1)
  replace HA := hide (HA.out.below hB1)
  replace HB := hide (HB.out.below hB1)
  replace HD := hide (HD.out.below hB1)
  generalize hga : w.heap.size = ga at HX1 ⊢
  clear hB1
  go_wp2_with fail
  go_loopw [19] (fun q wr => ∃ (j : Nat) (v' : Value) (xs' : List Value), j ≤ d.length ∧ q = .int .i64 j ∧ LK lo p W1 v (foldN (supJ U c i (an, ((av, ai), ak), ((av', ai'), ak')) d) st j) v' xs' wr) (fun q _ => d.length - (intOf q).toNat)
  case atStart => exact ⟨0, v, xs, by omega, rfl, LK.start HL1.out⟩
  case round =>
    obtain ⟨j, v', xs', hj, rfl, hK⟩ := hrel
    have HK := hide hK
    clear hK
    by_cases hjl : j < d.length
    · have hjl' : (j : Int) < (d.length : Int) := by omega
      have Hkp := hide (HK.out.kpt HL1.out)
      obtain ⟨y, hy⟩ : ∃ y, d[j]? = some y := ⟨d[j]'hjl, by simp⟩
      have Hy := hide hy
      obtain ⟨q1, q3, db, od, hqe, hqad, hqlc, hqcm, hqF⟩ := Hkp.out.cin HD.out
      simp only [Value.slice.injEq, true_and] at hqe
      obtain ⟨rfl, rfl⟩ := hqe
      have hq1 := hqad (by omega)
      subst hq1
      unfold maxLen at hqcm
      have Hsj := hide (foldN_succ (supJ U c i (an, ((av, ai), ak), ((av', ai'), ak')) d) st j)
      have Hfj := hide (supJ_eq (U := U) (c := c) (i := i) (a := (an, ((av, ai), ak), ((av', ai'), ak'))) (foldN (supJ U c i (an, ((av, ai), ak), ((av', ai'), ak')) d) st j) Hy.out)
      have Hst : Hid ((foldN (supJ U c i (an, ((av, ai), ak), ((av', ai'), ak')) d) st j).1.length ≤ st.1.length + 96) := Hlen.out j (by omega)
      have Hgy := hide (Hd.out y (List.mem_of_getElem? hy))
      obtain ⟨yn, ⟨⟨yv, yi⟩, yk⟩, ⟨⟨yv', yi'⟩, yk'⟩⟩ := y
      obtain ⟨p0, p1, p2, ⟨u3, p3, hE⟩, p4, p5, u6, p6, hG⟩ := hqF.at hy
      have HE := hide hE
      have HG := hide hG
      obtain ⟨e1, e3, _, _, rfl, -, -, -, -⟩ := hE
      obtain ⟨f1, f3, _, _, rfl, -, -, -, -⟩ := hG
      simp only at p0 p1 p2 p3 p4 p5 p6 HE HG Hgy
      clear hy hqF hqad
      generalize foldN (supJ U c i (an, ((av, ai), ak), ((av', ai'), ak')) d) st j = stj at *
      go_upto_region 4 with fail
      generalize hW4 : wr.alloc (.cells #[.bool yn, .bool yv, .int .i64 yi, .slice e1 (Fo.len yk) e3, .bool yv', .int .i64 yi', .slice f1 (Fo.len yk') f3] 57) = W4
      have hb4 : Below wr.heap.size wr W4 := by rw [← hW4]; exact below_alloc _ _
      have HY4 : Hid (RowAt W4 wr.heap.size [.bool yn, .bool yv, .int .i64 yi, .slice e1 (Fo.len yk) e3, .bool yv', .int .i64 yi', .slice f1 (Fo.len yk') f3]) := by
        rw [Hid, ← hW4]
        exact RowAt.new wr #[.bool yn, .bool yv, .int .i64 yi, .slice e1 (Fo.len yk) e3, .bool yv', .int .i64 yi', .slice f1 (Fo.len yk') f3] 57
      clear hW4 p0 p1 p2 p3 p4 p5 p6
      have p0 : W4.cell? ⟨wr.heap.size, 0, none⟩ = some (.bool yn) := HY4.out 0 _ rfl
      have p1 : W4.cell? ⟨wr.heap.size, 1, none⟩ = some (.bool yv) := HY4.out 1 _ rfl
      have p2 : W4.cell? ⟨wr.heap.size, 2, none⟩ = some (.int .i64 yi) := HY4.out 2 _ rfl
      have p3 : W4.cell? ⟨wr.heap.size, 3, none⟩ = some (.slice e1 (Fo.len yk) e3) := HY4.out 3 _ rfl
      have p4 : W4.cell? ⟨wr.heap.size, 4, none⟩ = some (.bool yv') := HY4.out 4 _ rfl
      have p5 : W4.cell? ⟨wr.heap.size, 5, none⟩ = some (.int .i64 yi') := HY4.out 5 _ rfl
      have p6 : W4.cell? ⟨wr.heap.size, 6, none⟩ = some (.slice f1 (Fo.len yk') f3) := HY4.out 6 _ rfl
      go_wp2_with fail
      refine (bothWays_any (yn, ((yv, yi), yk), ((yv', yi'), yk')) e1 f1 _ _ _ _ W4).mono ?_
      rintro e w5 ⟨rfl, hRY, hb5⟩
      have hb45 := below_step hb4 hb5
      have HK5 := hide (HK.out.below hb45)
      have HL5 := hide HK5.out.L
      have Hkp5 := hide (Hkp.out.trans (kpt_below hb45))
      have HXa := hide (HX1.out.kpt Hkp5.out)
      have HYr := hide hRY
      have HE5 := hide (HE.out.below hb45)
      have HG5 := hide (HG.out.below hb45)
      have HR5 := hide (Hkp5.out.cin HR.out)
      have HD5 := hide (Hkp5.out.cin HD.out)
      have HA5 := hide (Hkp5.out.sin HA.out)
      have HB5 := hide (Hkp5.out.sin HB.out)
      clear hRY hb4 hb5 hb45 p0 p1 p2 p3 p4 p5 p6 HY4 HK Hkp HE HG
      generalize W4.heap.size = gy at *
      simp only
      go_wp2_with fail
      generalize hgw : wr.heap.size = gw at *
      generalize wr = wo at *
      go_loopw [26] (fun q wr => ∃ (m : Nat) (v2 : Value) (xs2 : List Value), m ≤ 2 ∧ q = .int .i64 m ∧ LK lo p w5 v' (foldN (supD U c i (an, ((av, ai), ak), ((av', ai'), ak')) d j (yn, ((yv, yi), yk), ((yv', yi'), yk'))) stj m) v2 xs2 wr) (fun q _ => 2 - (intOf q).toNat)
      case atStart => exact ⟨0, v', xs', by omega, rfl, LK.start HL5.out⟩
      case round =>
        obtain ⟨m, v2, xs2, hm, rfl, hK2⟩ := hrel
        have HK2 := hide hK2
        clear hK2
        obtain rfl | rfl | rfl : m = 0 ∨ m = 1 ∨ m = 2 := by omega
        · have Hkp2 := hide (HK2.out.kpt HL5.out)
          have Hgb : Hid (G12L (yn, ((yv, yi), yk), ((yv', yi'), yk'))) := Hgy.out
          have hix : ∀ w', (Instr.index 68 (waysA (yn, ((yv, yi), yk), ((yv', yi'), yk')) (.slice e1 (Fo.len yk) e3) (.slice f1 (Fo.len yk') f3) gy) (.int .i64 0)).run Tryz.prog w' = .ok (wayA (yn, ((yv, yi), yk), ((yv', yi'), yk')) (.slice e1 (Fo.len yk) e3) (.slice f1 (Fo.len yk') f3) (.func (.func 54) #[] #[.pointer (some ⟨gy, 0, none⟩)])) w' := fun w' => run_way (yn, ((yv, yi), yk), ((yv', yi'), yk')) _ _ gy 0 (by omega) w'
          have Hsd : Hid (foldN (supD U c i (an, ((av, ai), ak), ((av', ai'), ak')) d j (yn, ((yv, yi), yk), ((yv', yi'), yk'))) stj (0 + 1) = (placesT (yv, yi) yk []).foldl (supP U c i (an, ((av, ai), ak), ((av', ai'), ak')) d j (yn, ((yv, yi), yk), ((yv', yi'), yk')) false) (foldN (supD U c i (an, ((av, ai), ak), ((av', ai'), ak')) d j (yn, ((yv, yi), yk), ((yv', yi'), yk'))) stj 0)) := foldN_succ _ _ _
          have Hst2 : Hid ((foldN (supD U c i (an, ((av, ai), ak), ((av', ai'), ak')) d j (yn, ((yv, yi), yk), ((yv', yi'), yk'))) stj 0).1.length ≤ st.1.length + 200) := by
            have := foldN_len (m := 12) (supD_len (U := U) (c := c) (i := i) (a := (an, ((av, ai), ak), ((av', ai'), ak'))) (d := d) (j := j) Hgy.out) stj 0
            have := Hst.out
            rw [Hid]; omega
          generalize foldN (supD U c i (an, ((av, ai), ak), ((av', ai'), ak')) d j (yn, ((yv, yi), yk), ((yv', yi'), yk'))) stj 0 = st2 at *
          go_upto_region 7 with fail
          generalize hW6 : wr.alloc (.cells #[.bool yv, .int .i64 yi, .slice e1 (Fo.len yk) e3, .bool yv', .int .i64 yi', .slice f1 (Fo.len yk') f3, .func (.func 54) #[] #[.pointer (some ⟨gy, 0, none⟩)]] 67) = W6
          have hb6 : Below wr.heap.size wr W6 := by rw [← hW6]; exact below_alloc _ _
          have HXb6 : Hid (RowAt W6 wr.heap.size [.bool yv, .int .i64 yi, .slice e1 (Fo.len yk) e3, .bool yv', .int .i64 yi', .slice f1 (Fo.len yk') f3, .func (.func 54) #[] #[.pointer (some ⟨gy, 0, none⟩)]]) := by
            rw [Hid, ← hW6]
            exact RowAt.new wr #[.bool yv, .int .i64 yi, .slice e1 (Fo.len yk) e3, .bool yv', .int .i64 yi', .slice f1 (Fo.len yk') f3, .func (.func 54) #[] #[.pointer (some ⟨gy, 0, none⟩)]] 67
          clear hW6 hix
          have HK6 := hide (HK2.out.below hb6)
          have HL6 := hide HK6.out.L
          have HF6 := hide ((Hkp2.out.sin HE5.out).below hb6)
          have b0 : W6.cell? ⟨wr.heap.size, 0, none⟩ = some (.bool yv) := HXb6.out 0 _ rfl
          have b1 : W6.cell? ⟨wr.heap.size, 1, none⟩ = some (.int .i64 yi) := HXb6.out 1 _ rfl
          have b2 : W6.cell? ⟨wr.heap.size, 2, none⟩ = some (.slice e1 (Fo.len yk) e3) := HXb6.out 2 _ rfl
          have b3 : W6.cell? ⟨wr.heap.size, 3, none⟩ = some (.bool yv') := HXb6.out 3 _ rfl
          have b4 : W6.cell? ⟨wr.heap.size, 4, none⟩ = some (.int .i64 yi') := HXb6.out 4 _ rfl
          have b5 : W6.cell? ⟨wr.heap.size, 5, none⟩ = some (.slice f1 (Fo.len yk') f3) := HXb6.out 5 _ rfl
          have b6 : W6.cell? ⟨wr.heap.size, 6, none⟩ = some (.func (.func 54) #[] #[.pointer (some ⟨gy, 0, none⟩)]) := HXb6.out 6 _ rfl
          obtain ⟨Z, hZ⟩ : ∃ Z, Z = placesT (yv, yi) yk [] := ⟨_, rfl⟩
          have HZ := hide hZ
          have HZ12 : Hid (Z.length ≤ 12) := by rw [Hid, hZ]; exact places_12 Hgb.out.1
          have Hpc := hide (placesP_call (w := W6) hZ HF6.out Hgb.out.1.sz)
          clear hZ
          go_wp2_with fail
          refine Hpc.out.mono ?_
          rintro e wP ⟨z1, z3, rfl, hP, hbP⟩
          have hb6P := below_step hb6 hbP
          have HKP := hide (HK2.out.below hb6P)
          have HLP := hide HKP.out.L
          have HkpP := hide (Hkp2.out.trans (kpt_below hb6P))
          have HXbP := hide (HXb6.out.below hbP)
          have HXaP := hide (HXa.out.kpt HkpP.out)
          have HYrP := hide (HYr.out.kpt HkpP.out)
          have HEP := hide (HkpP.out.sin HE5.out)
          have HGP := hide (HkpP.out.sin HG5.out)
          have HRP := hide (HkpP.out.cin HR5.out)
          have HDP := hide (HkpP.out.cin HD5.out)
          have HAP := hide (HkpP.out.sin HA5.out)
          have HBP := hide (HkpP.out.sin HB5.out)
          have HP := hide hP
          have Hsz : Hid (foldN (supD U c i (an, ((av, ai), ak), ((av', ai'), ak')) d j (yn, ((yv, yi), yk), ((yv', yi'), yk'))) stj (0 + 1) = foldT (supP U c i (an, ((av, ai), ak), ((av', ai'), ak')) d j (yn, ((yv, yi), yk), ((yv', yi'), yk')) false) st2 Z Z.length) := by
            rw [Hid, Hsd.out, foldT, List.take_length, HZ.out]
          clear hP hbP hb6 hb6P Hpc Hsd b0 b1 b2 b3 b4 b5 b6 HXb6 HF6 Hkp2 HK2
          go_wp2_with fail
          generalize hgb : wr.heap.size = gb at *
          generalize wr = wo2 at *
          go_loopw [33] (fun q wr => ∃ (t : Nat) (v3 : Value) (xs3 : List Value), t ≤ Z.length ∧ q = .int .i64 t ∧ LK lo p wP v2 (foldT (supP U c i (an, ((av, ai), ak), ((av', ai'), ak')) d j (yn, ((yv, yi), yk), ((yv', yi'), yk')) false) st2 Z t) v3 xs3 wr) (fun q _ => Z.length - (intOf q).toNat)
          case atStart => exact ⟨0, v2, xs2, Nat.zero_le _, rfl, LK.start HLP.out⟩
          case round =>
            obtain ⟨t, v3, xs3, ht, rfl, hK3⟩ := hrel
            have HK3 := hide hK3
            have Hst3 : Hid ((foldT (supP U c i (an, ((av, ai), ak), ((av', ai'), ak')) d j (yn, ((yv, yi), yk), ((yv', yi'), yk')) false) st2 Z t).1.length ≤ 1000000) := by
              have h1 := foldT_len (supP_len U c i (an, ((av, ai), ak), ((av', ai'), ak')) d j (yn, ((yv, yi), yk), ((yv', yi'), yk')) false) (Z.take t) st2
              have h2 := Hst2.out
              have h3 := HZ12.out
              have h4 := Hn.out
              have h5 : (Z.take t).length ≤ Z.length := by rw [List.length_take]; omega
              unfold Hid foldT
              omega
            clear hK3
            by_cases htl : t < Z.length
            · have htl' : (t : Int) < (Z.length : Int) := by omega
              have Hkp3 := hide (HK3.out.kpt HLP.out)
              obtain ⟨pl, hpl⟩ : ∃ q, Z[t]? = some q := ⟨Z[t]'htl, by simp⟩
              have Hpl := hide hpl
              obtain ⟨zat, hzat, hzv⟩ := place_sym (x := (yv, yi)) (k := yk) (p := pl) (by rw [← HZ.out]; exact List.mem_of_getElem? hpl)
              have Hzat := hide hzat
              obtain ⟨z1', z3', gp, hpe, hpad, hplc, hpcm, hpF⟩ := HK3.out.places HL6.out HP.out
              simp only [Value.slice.injEq, true_and] at hpe
              obtain ⟨rfl, rfl⟩ := hpe
              obtain ⟨py, c0, hrow⟩ := hpF t pl hpl
              have hz1 : z1 = some ⟨gp, 0, none⟩ := (hpad (by omega)).1
              subst hz1
              have HNp := hide (own_nin hrow)
              obtain ⟨y1, y3, rfl⟩ := nin_slice HNp.out
              unfold maxLen at hpcm
              have Hst5 := hide (foldT_succ (f := (supP U c i (an, ((av, ai), ak), ((av', ai'), ak')) d j (yn, ((yv, yi), yk), ((yv', yi'), yk')) false)) (s := st2) hpl)
              have HXar := hide (HXaP.out.kpt Hkp3.out)
              have HXbr := hide (HXbP.out.kpt Hkp3.out)
              have Hsm := hide (supP_meet U c i (an, ((av, ai), ak), ((av', ai'), ak')) d j (yn, ((yv, yi), yk), ((yv', yi'), yk')) false (foldT (supP U c i (an, ((av, ai), ak), ((av', ai'), ak')) d j (yn, ((yv, yi), yk), ((yv', yi'), yk')) false) st2 Z t) pl)
              generalize foldT (supP U c i (an, ((av, ai), ak), ((av', ai'), ak')) d j (yn, ((yv, yi), yk), ((yv', yi'), yk')) false) st2 Z t = stt at *
              have Hme := hide (meet_any (U := U) HU.out (an, ((av, ai), ak), ((av', ai'), ak')) (yn, ((yv, yi), yk), ((yv', yi'), yk')) a1 d1 e1 f1 a3 d3 e3 f3 (.func (.func fn) #[] #[.pointer (some ⟨g0, 0, none⟩)]) (.func (.func 54) #[] #[.pointer (some ⟨gy, 0, none⟩)]) pl y1 pl.length y3 zat wr (Hkp3.out.sin HAP.out) (Hkp3.out.sin HBP.out) (Hkp3.out.sin HEP.out) (Hkp3.out.sin HGP.out) HNp.out Hzat.out Ha.out Hgb.out)
              simp only at Hme
              clear hpl hzat hzv hpF hpad hrow
              have ka0 : wr.cell? ⟨ga, 0, none⟩ = some (.bool av) := HXar.out 0 _ rfl
              have ka1 : wr.cell? ⟨ga, 1, none⟩ = some (.int .i64 ai) := HXar.out 1 _ rfl
              have ka2 : wr.cell? ⟨ga, 2, none⟩ = some (.slice a1 (Fo.len ak) a3) := HXar.out 2 _ rfl
              have ka3 : wr.cell? ⟨ga, 3, none⟩ = some (.bool av') := HXar.out 3 _ rfl
              have ka4 : wr.cell? ⟨ga, 4, none⟩ = some (.int .i64 ai') := HXar.out 4 _ rfl
              have ka5 : wr.cell? ⟨ga, 5, none⟩ = some (.slice d1 (Fo.len ak') d3) := HXar.out 5 _ rfl
              have ka6 : wr.cell? ⟨ga, 6, none⟩ = some (.func (.func fn) #[] #[.pointer (some ⟨g0, 0, none⟩)]) := HXar.out 6 _ rfl
              have kb0 : wr.cell? ⟨gb, 0, none⟩ = some (.bool yv) := HXbr.out 0 _ rfl
              have kb1 : wr.cell? ⟨gb, 1, none⟩ = some (.int .i64 yi) := HXbr.out 1 _ rfl
              have kb2 : wr.cell? ⟨gb, 2, none⟩ = some (.slice e1 (Fo.len yk) e3) := HXbr.out 2 _ rfl
              have kb3 : wr.cell? ⟨gb, 3, none⟩ = some (.bool yv') := HXbr.out 3 _ rfl
              have kb4 : wr.cell? ⟨gb, 4, none⟩ = some (.int .i64 yi') := HXbr.out 4 _ rfl
              have kb5 : wr.cell? ⟨gb, 5, none⟩ = some (.slice f1 (Fo.len yk') f3) := HXbr.out 5 _ rfl
              have kb6 : wr.cell? ⟨gb, 6, none⟩ = some (.func (.func 54) #[] #[.pointer (some ⟨gy, 0, none⟩)]) := HXbr.out 6 _ rfl
              go_wp2_with fail
              refine Hme.out.mono ?_
              rintro e w7 ⟨hb7, z5, mm, z6, ok, rfl, hno, hyes⟩
              have HK7 := hide (HK3.out.below hb7)
              have Hkp7 := hide (Hkp3.out.trans (kpt_below hb7))
              have HN7 := hide (HNp.out.below hb7)
              replace ka0 := grow_cell hb7 _ _ ka0
              replace ka1 := grow_cell hb7 _ _ ka1
              replace ka2 := grow_cell hb7 _ _ ka2
              replace ka3 := grow_cell hb7 _ _ ka3
              replace ka4 := grow_cell hb7 _ _ ka4
              replace ka5 := grow_cell hb7 _ _ ka5
              replace ka6 := grow_cell hb7 _ _ ka6
              replace kb0 := grow_cell hb7 _ _ kb0
              replace kb1 := grow_cell hb7 _ _ kb1
              replace kb2 := grow_cell hb7 _ _ kb2
              replace kb3 := grow_cell hb7 _ _ kb3
              replace kb4 := grow_cell hb7 _ _ kb4
              replace kb5 := grow_cell hb7 _ _ kb5
              replace kb6 := grow_cell hb7 _ _ kb6
              clear Hme hb7 HNp HXar HXbr Hkp3 HK3
              cases ok
              · have Hend : Hid (LK lo p wP v2 (foldT (supP U c i (an, ((av, ai), ak), ((av', ai'), ak')) d j (yn, ((yv, yi), yk), ((yv', yi'), yk')) false) st2 Z (t + 1)) v3 xs3 w7) := by
                  have := HK7.out
                  rw [Hid, Hst5.out, Hsm.out, (hno rfl).1]
                  exact this
                clear hno hyes ka0 ka1 ka2 ka3 ka4 ka5 ka6 kb0 kb1 kb2 kb3 kb4 kb5 kb6 c0
                go_wp2_with fail
                go_roundw
                case rel => exact ⟨t + 1, v3, xs3, by omega, by go_num, Hend.out⟩
                case measure => simp [intOf]; omega
              · obtain ⟨s', hmt, rfl, hSub⟩ := hyes rfl
                have HV := hide hSub
                have Hmt := hide hmt
                have Hgz := hide (Hgb.out.1.at Hzat.out)
                obtain ⟨n, hnn⟩ := HU.out _ _ (Ha.out.1.ui Hgz.out)
                rw [meet_some Hzat.out hmt] at hnn
                have Hnn := hide hnn
                obtain ⟨⟨⟨pv, pi⟩, pk⟩, hq⟩ : ∃ q, putT pl ((yv, yi), yk) ((av', ai'), ak') = q := ⟨_, rfl⟩
                have Hq := hide hq
                have Hgp := hide (gd_put Ha.out.2.gd Hgb.out.1.gd Hzat.out)
                have Hnew : Hid (turnL false (yn, putT pl ((yv, yi), yk) ((av', ai'), ak'), ((yv', yi'), yk')) = (yn, ((pv, pi), pk), ((yv', yi'), yk'))) := by rw [Hid, hq]; rfl
                have HF7 := hide (Hkp7.out.sin HEP.out)
                have HS7 := hide (Hkp7.out.sin HGP.out)
                have HB7 := hide (Hkp7.out.sin HBP.out)
                have HR7 := hide (Hkp7.out.cin HRP.out)
                have HY7 := hide (HYrP.out.kpt Hkp7.out)
                have Hcl := hide (cloneC_any d _ w7 (Hkp7.out.cin HDP.out) (by omega))
                have hga7 : ga < w7.heap.size := World.block_lt_of_cell? _ _ ka0
                have hgb7 : gb < w7.heap.size := World.block_lt_of_cell? _ _ kb0
                clear hno hyes hSub hmt hnn hq c0
                go_wp2_with fail
                refine Hcl.out.mono ?_
                rintro e w8 ⟨cv, nd, rfl, hO8, hb8⟩
                obtain ⟨gx, x3, rfl, hgx1, hgx2, hfx⟩ := own_ex hO8.row (by omega)
                have hex := own_cells hO8 (g := gx) rfl hjl
                have HO8 := hide hO8
                have hne1 : gb ≠ gx := by omega
                have hne2 : ga ≠ gx := by omega
                replace ka0 := grow_cell hb8 _ _ ka0
                replace ka1 := grow_cell hb8 _ _ ka1
                replace ka2 := grow_cell hb8 _ _ ka2
                replace ka3 := grow_cell hb8 _ _ ka3
                replace ka4 := grow_cell hb8 _ _ ka4
                replace ka5 := grow_cell hb8 _ _ ka5
                replace ka6 := grow_cell hb8 _ _ ka6
                replace kb0 := grow_cell hb8 _ _ kb0
                replace kb1 := grow_cell hb8 _ _ kb1
                replace kb2 := grow_cell hb8 _ _ kb2
                replace kb3 := grow_cell hb8 _ _ kb3
                replace kb4 := grow_cell hb8 _ _ kb4
                replace kb5 := grow_cell hb8 _ _ kb5
                replace kb6 := grow_cell hb8 _ _ kb6
                obtain ⟨u0, x0⟩ := hex 0 (by omega)
                obtain ⟨u1, x1⟩ := hex 1 (by omega)
                obtain ⟨u2, x2⟩ := hex 2 (by omega)
                obtain ⟨u3, x3'⟩ := hex 3 (by omega)
                obtain ⟨u4, x4⟩ := hex 4 (by omega)
                obtain ⟨u5, x5⟩ := hex 5 (by omega)
                obtain ⟨u6, x6⟩ := hex 6 (by omega)
                rw [Nat.add_zero] at x0
                have HcP := hide (fun (w' : World) (hb : Below w8.heap.size w8 w') => putP_place (w := w') Hq.out Hgb.out.1.gd Ha.out.2.gd (HF7.out.below (below_step hb8 hb)) (HB7.out.below (below_step hb8 hb)) (HN7.out.below (below_step hb8 hb)))
                have HcW := hide (fun (w' : World) (hb : Below w8.heap.size w8 w') (t1 : Option Addr) (t3 : Nat) => with1_any (yn, ((yv, yi), yk), ((yv', yi'), yk')) e1 f1 t1 (Fo.len yk) e3 (Fo.len yk') f3 (Fo.len pk) t3 pv pi pk gy w' (HY7.out.below (below_step hb8 hb)))
                simp only at HcP HcW
                have Hb8 := hide hb8
                have Hfx := hide hfx
                have hcur : Below w8.heap.size w8 w8.drew := (Below.refl _ _).drew
                clear hO8 hex Hcl hb8 hfx
                go_upto_region 13 with fail
                go_region_held3 (fun w' => w'.cell? ⟨gb, 0, none⟩ = some (.bool yv) ∧ w'.cell? ⟨gb, 1, none⟩ = some (.int .i64 yi) ∧ w'.cell? ⟨gb, 2, none⟩ = some (.slice e1 (Fo.len yk) e3) ∧ w'.cell? ⟨gb, 6, none⟩ = some (.func (.func 54) #[] #[.pointer (some ⟨gy, 0, none⟩)]) ∧ w'.cell? ⟨ga, 3, none⟩ = some (.bool av') ∧ w'.cell? ⟨ga, 4, none⟩ = some (.int .i64 ai') ∧ w'.cell? ⟨ga, 5, none⟩ = some (.slice d1 (Fo.len ak') d3))
                  (first
                    | (with_reducible exact ⟨grow_cell hcur _ _ kb0, grow_cell hcur _ _ kb1, grow_cell hcur _ _ kb2, grow_cell hcur _ _ kb6, grow_cell hcur _ _ ka3, grow_cell hcur _ _ ka4, grow_cell hcur _ _ ka5⟩)
                    | (with_reducible exact ⟨keep7 hne1 (grow_cell hcur _ _ kb0), keep7 hne1 (grow_cell hcur _ _ kb1), keep7 hne1 (grow_cell hcur _ _ kb2), keep7 hne1 (grow_cell hcur _ _ kb6), keep7 hne2 (grow_cell hcur _ _ ka3), keep7 hne2 (grow_cell hcur _ _ ka4), keep7 hne2 (grow_cell hcur _ _ ka5)⟩)
                    | go_keep)
                  (first
                    | (go_at_call 59; with_reducible refine (HcP.out _ hcur).mono ?_; rintro e wS ⟨q1, q3, rfl, hSP, hbS⟩; have hcurS := hcur; replace hcur := below_step hcur hbS; have HSP := hide hSP; clear hSP)
                    | (go_at_call 54; with_reducible refine (HcW.out _ hcur _ _).mono ?_; rintro e wU ⟨rfl, hbU⟩; replace hcur := below_step hcur hbU; replace x0 := grow_cell hcur _ _ x0; replace x1 := grow_cell hcur _ _ x1; replace x2 := grow_cell hcur _ _ x2; replace x3' := grow_cell hcur _ _ x3'; replace x4 := grow_cell hcur _ _ x4; replace x5 := grow_cell hcur _ _ x5; replace x6 := grow_cell hcur _ _ x6; have hfU : ∀ i, wU.frozen? ⟨gx, i, none⟩ = false := fun i => (hcur.frozen (p := ⟨gx, i, none⟩) hgx2).trans (Hfx.out i)))
                all_goals
                  generalize hw13 : (((((((wU.setCell ⟨gx, j * 7, none⟩ (.bool yn)).setCell ⟨gx, j * 7 + 1, none⟩ (.bool pv)).setCell ⟨gx, j * 7 + 2, none⟩ (.int .i64 pi)).setCell ⟨gx, j * 7 + 3, none⟩ (.slice q1 (Fo.len pk) q3)).setCell ⟨gx, j * 7 + 4, none⟩ (.bool yv')).setCell ⟨gx, j * 7 + 5, none⟩ (.int .i64 yi')).setCell ⟨gx, j * 7 + 6, none⟩ ((.slice f1 (Fo.len yk') f3))) = w13
                  have e13 : w13 = setL wU gx (j * 7) (litV (yn, ((pv, pi), pk), ((yv', yi'), yk')) (.slice q1 (Fo.len pk) q3) (.slice f1 (Fo.len yk') f3)) := hw13.symm
                  have hb7U := below_step Hb8.out hcur
                  have hb13 : Below w7.heap.size w7 w13 := by rw [e13]; exact setL_below hgx1 hb7U
                  have hs8 : gx < w8.heap.size := hgx2
                  have hsU := hcur.size
                  have hsS : wS.heap.size ≤ wU.heap.size := hbU.size
                  have HOU : OwnL w7.heap.size (fun q => q < wU.heap.size ∧ q ≠ gx) wU d (.slice (some ⟨gx, 0, none⟩) d.length x3) nd := by
                    have h := HO8.out.below hcur
                    exact ⟨h.row, h.cells.frame (fun q hq => ⟨(h.off q hq).1, by omega⟩) (fun _ _ _ => rfl), fun q hq => ⟨hq.1, fun e => hq.2 (by simpa [Value.ownBlock] using e)⟩⟩
                  have HNp1 : SB (fun q => q < wU.heap.size ∧ q ≠ gx) wU pk (.slice q1 (Fo.len pk) q3) := (HSP.out.grow (fun q hq => hq.2) hbU).frame (fun q hq => by
                    have h1 : w8.heap.size ≤ q := Nat.le_trans hcurS.size hq.1
                    have h2 : q < wS.heap.size := hq.2
                    exact ⟨by omega, by omega⟩) (fun _ _ _ => rfl)
                  have HNs1 : SB (fun q => q < wU.heap.size ∧ q ≠ gx) wU yk' (.slice f1 (Fo.len yk') f3) := (HS7.out.toB.grow (fun _ h => h) hb7U).frame (fun q hq => by
                    have h2 : w7.heap.size ≤ wU.heap.size := hb7U.size
                    exact ⟨by omega, by omega⟩) (fun _ _ _ => rfl)
                  have hset := (own_set HOU (g := gx) rfl (j := j) hjl (l := (yn, ((pv, pi), pk), ((yv', yi'), yk'))) (a := (.slice q1 (Fo.len pk) q3)) (d := (.slice f1 (Fo.len yk') f3)) HNp1 HNs1).1
                  rw [← e13] at hset
                  have HR13 := hide (HR7.out.below hb13)
                  have hb14 : Below w13.heap.size w13 (w13.alloc (.cells #[.slice rw1 (butC c i).length rw3, .slice (some ⟨gx, 0, none⟩) d.length x3] 25)) := below_alloc _ _
                  have Hcc := hide (concat_any (butC c i) (d.set j (yn, ((pv, pi), pk), ((yv', yi'), yk'))) (.slice rw1 (butC c i).length rw3) (.slice (some ⟨gx, 0, none⟩) d.length x3) w13.heap.size 0 2 _ (HR13.out.below hb14) (hset.below hb14) (new_cell rfl) (new_cell rfl) (by rw [List.length_set]; omega))
                  have Hb14 := hide (below_step hb13 hb14)
                  clear hw13 e13 x0 x1 x2 x3' x4 x5 x6 hfU HOU HNp1 HNs1 hset hb14 hb13 hb7U hbU hcur hcurS ka0 ka1 ka2 ka3 ka4 ka5 ka6 kb0 kb1 kb2 kb3 kb4 kb5 kb6 HcP HcW
                  go_wp2_with fail
                  with_reducible refine Hcc.out.mono ?_
                  rintro e w15 ⟨dv', rfl, hCC, hb15⟩
                  have hb715 := below_step Hb14.out hb15
                  have HK15 := hide (HK7.out.below hb715)
                  have Had := hide (ruleAddP HK15.out.L (HV.out.below hb715) hCC Ha.out.1 Hgz.out Hnn.out (fun l hl => by
                    rcases List.mem_append.1 hl with hl | hl
                    · exact (Hc.out l (but_mem hl)).x
                    · rcases List.mem_or_eq_of_mem_set hl with hl | hl
                      · exact (Hd.out l hl).x
                      · rw [hl]
                        have h1 := Hgp.out
                        rw [Hq.out] at h1
                        exact ⟨⟨h1.1, Nat.le_trans h1.2 (Nat.add_le_add Hgb.out.1.sz Ha.out.2.sz)⟩, ⟨Hgb.out.2.gd, Nat.le_trans Hgb.out.2.sz (by decide)⟩⟩) (by rw [List.length_append, List.length_set]; omega) Hst3.out)
                  clear hCC hb15 hb715 Hcc
                  go_wp2_with fail
                  refine Had.out.mono ?_
                  rintro e w16 hpost
                  obtain ⟨v4, xs4, hK4⟩ := HK15.out.add hpost
                  obtain ⟨rfl, -⟩ := hpost
                  have Hend : Hid (LK lo p wP v2 (foldT (supP U c i (an, ((av, ai), ak), ((av', ai'), ak')) d j (yn, ((yv, yi), yk), ((yv', yi'), yk')) false) st2 Z (t + 1)) v4 xs4 w16) := by
                    rw [Hid, Hst5.out, Hsm.out, Hmt.out, Hnew.out]
                    exact hK4
                  clear hK4 Had
                  go_wp2_with fail
                  go_roundw
                  case rel => exact ⟨t + 1, v4, xs4, by omega, by go_num, Hend.out⟩
                  case measure => simp [intOf]; omega
            · have hte : t = Z.length := by omega
              subst hte
              have Hend : Hid (LK lo p w5 v' (foldN (supD U c i (an, ((av, ai), ak), ((av', ai'), ak')) d j (yn, ((yv, yi), yk), ((yv', yi'), yk'))) stj (0 + 1)) v3 xs3 wr) := by
                rw [Hid, Hsz.out]
                exact HKP.out.trans HK3.out
              go_wp2_with fail
              go_roundw
              case rel => exact ⟨0 + 1, v3, xs3, by omega, by go_num, Hend.out⟩
              case measure => simp [intOf]
        · have Hkp2 := hide (HK2.out.kpt HL5.out)
          have Hgb : Hid (G12L (yn, ((yv', yi'), yk'), ((yv, yi), yk))) := Hgy.out.symm
          have hix : ∀ w', (Instr.index 68 (waysA (yn, ((yv, yi), yk), ((yv', yi'), yk')) (.slice e1 (Fo.len yk) e3) (.slice f1 (Fo.len yk') f3) gy) (.int .i64 1)).run Tryz.prog w' = .ok (wayA (yn, ((yv', yi'), yk'), ((yv, yi), yk)) (.slice f1 (Fo.len yk') f3) (.slice e1 (Fo.len yk) e3) (.func (.func 55) #[] #[.pointer (some ⟨gy, 0, none⟩)])) w' := fun w' => run_way (yn, ((yv, yi), yk), ((yv', yi'), yk')) _ _ gy 1 (by omega) w'
          have Hsd : Hid (foldN (supD U c i (an, ((av, ai), ak), ((av', ai'), ak')) d j (yn, ((yv, yi), yk), ((yv', yi'), yk'))) stj (1 + 1) = (placesT (yv', yi') yk' []).foldl (supP U c i (an, ((av, ai), ak), ((av', ai'), ak')) d j (yn, ((yv', yi'), yk'), ((yv, yi), yk)) true) (foldN (supD U c i (an, ((av, ai), ak), ((av', ai'), ak')) d j (yn, ((yv, yi), yk), ((yv', yi'), yk'))) stj 1)) := foldN_succ _ _ _
          have Hst2 : Hid ((foldN (supD U c i (an, ((av, ai), ak), ((av', ai'), ak')) d j (yn, ((yv, yi), yk), ((yv', yi'), yk'))) stj 1).1.length ≤ st.1.length + 200) := by
            have := foldN_len (m := 12) (supD_len (U := U) (c := c) (i := i) (a := (an, ((av, ai), ak), ((av', ai'), ak'))) (d := d) (j := j) Hgy.out) stj 1
            have := Hst.out
            rw [Hid]; omega
          generalize foldN (supD U c i (an, ((av, ai), ak), ((av', ai'), ak')) d j (yn, ((yv, yi), yk), ((yv', yi'), yk'))) stj 1 = st2 at *
          go_upto_region 7 with fail
          generalize hW6 : wr.alloc (.cells #[.bool yv', .int .i64 yi', .slice f1 (Fo.len yk') f3, .bool yv, .int .i64 yi, .slice e1 (Fo.len yk) e3, .func (.func 55) #[] #[.pointer (some ⟨gy, 0, none⟩)]] 67) = W6
          have hb6 : Below wr.heap.size wr W6 := by rw [← hW6]; exact below_alloc _ _
          have HXb6 : Hid (RowAt W6 wr.heap.size [.bool yv', .int .i64 yi', .slice f1 (Fo.len yk') f3, .bool yv, .int .i64 yi, .slice e1 (Fo.len yk) e3, .func (.func 55) #[] #[.pointer (some ⟨gy, 0, none⟩)]]) := by
            rw [Hid, ← hW6]
            exact RowAt.new wr #[.bool yv', .int .i64 yi', .slice f1 (Fo.len yk') f3, .bool yv, .int .i64 yi, .slice e1 (Fo.len yk) e3, .func (.func 55) #[] #[.pointer (some ⟨gy, 0, none⟩)]] 67
          clear hW6 hix
          have HK6 := hide (HK2.out.below hb6)
          have HL6 := hide HK6.out.L
          have HF6 := hide ((Hkp2.out.sin HG5.out).below hb6)
          have b0 : W6.cell? ⟨wr.heap.size, 0, none⟩ = some (.bool yv') := HXb6.out 0 _ rfl
          have b1 : W6.cell? ⟨wr.heap.size, 1, none⟩ = some (.int .i64 yi') := HXb6.out 1 _ rfl
          have b2 : W6.cell? ⟨wr.heap.size, 2, none⟩ = some (.slice f1 (Fo.len yk') f3) := HXb6.out 2 _ rfl
          have b3 : W6.cell? ⟨wr.heap.size, 3, none⟩ = some (.bool yv) := HXb6.out 3 _ rfl
          have b4 : W6.cell? ⟨wr.heap.size, 4, none⟩ = some (.int .i64 yi) := HXb6.out 4 _ rfl
          have b5 : W6.cell? ⟨wr.heap.size, 5, none⟩ = some (.slice e1 (Fo.len yk) e3) := HXb6.out 5 _ rfl
          have b6 : W6.cell? ⟨wr.heap.size, 6, none⟩ = some (.func (.func 55) #[] #[.pointer (some ⟨gy, 0, none⟩)]) := HXb6.out 6 _ rfl
          obtain ⟨Z, hZ⟩ : ∃ Z, Z = placesT (yv', yi') yk' [] := ⟨_, rfl⟩
          have HZ := hide hZ
          have HZ12 : Hid (Z.length ≤ 12) := by rw [Hid, hZ]; exact places_12 Hgb.out.1
          have Hpc := hide (placesP_call (w := W6) hZ HF6.out Hgb.out.1.sz)
          clear hZ
          go_wp2_with fail
          refine Hpc.out.mono ?_
          rintro e wP ⟨z1, z3, rfl, hP, hbP⟩
          have hb6P := below_step hb6 hbP
          have HKP := hide (HK2.out.below hb6P)
          have HLP := hide HKP.out.L
          have HkpP := hide (Hkp2.out.trans (kpt_below hb6P))
          have HXbP := hide (HXb6.out.below hbP)
          have HXaP := hide (HXa.out.kpt HkpP.out)
          have HYrP := hide (HYr.out.kpt HkpP.out)
          have HEP := hide (HkpP.out.sin HE5.out)
          have HGP := hide (HkpP.out.sin HG5.out)
          have HRP := hide (HkpP.out.cin HR5.out)
          have HDP := hide (HkpP.out.cin HD5.out)
          have HAP := hide (HkpP.out.sin HA5.out)
          have HBP := hide (HkpP.out.sin HB5.out)
          have HP := hide hP
          have Hsz : Hid (foldN (supD U c i (an, ((av, ai), ak), ((av', ai'), ak')) d j (yn, ((yv, yi), yk), ((yv', yi'), yk'))) stj (1 + 1) = foldT (supP U c i (an, ((av, ai), ak), ((av', ai'), ak')) d j (yn, ((yv', yi'), yk'), ((yv, yi), yk)) true) st2 Z Z.length) := by
            rw [Hid, Hsd.out, foldT, List.take_length, HZ.out]
          clear hP hbP hb6 hb6P Hpc Hsd b0 b1 b2 b3 b4 b5 b6 HXb6 HF6 Hkp2 HK2
          go_wp2_with fail
          generalize hgb : wr.heap.size = gb at *
          generalize wr = wo2 at *
          go_loopw [33] (fun q wr => ∃ (t : Nat) (v3 : Value) (xs3 : List Value), t ≤ Z.length ∧ q = .int .i64 t ∧ LK lo p wP v2 (foldT (supP U c i (an, ((av, ai), ak), ((av', ai'), ak')) d j (yn, ((yv', yi'), yk'), ((yv, yi), yk)) true) st2 Z t) v3 xs3 wr) (fun q _ => Z.length - (intOf q).toNat)
          case atStart => exact ⟨0, v2, xs2, Nat.zero_le _, rfl, LK.start HLP.out⟩
          case round =>
            obtain ⟨t, v3, xs3, ht, rfl, hK3⟩ := hrel
            have HK3 := hide hK3
            have Hst3 : Hid ((foldT (supP U c i (an, ((av, ai), ak), ((av', ai'), ak')) d j (yn, ((yv', yi'), yk'), ((yv, yi), yk)) true) st2 Z t).1.length ≤ 1000000) := by
              have h1 := foldT_len (supP_len U c i (an, ((av, ai), ak), ((av', ai'), ak')) d j (yn, ((yv', yi'), yk'), ((yv, yi), yk)) true) (Z.take t) st2
              have h2 := Hst2.out
              have h3 := HZ12.out
              have h4 := Hn.out
              have h5 : (Z.take t).length ≤ Z.length := by rw [List.length_take]; omega
              unfold Hid foldT
              omega
            clear hK3
            by_cases htl : t < Z.length
            · have htl' : (t : Int) < (Z.length : Int) := by omega
              have Hkp3 := hide (HK3.out.kpt HLP.out)
              obtain ⟨pl, hpl⟩ : ∃ q, Z[t]? = some q := ⟨Z[t]'htl, by simp⟩
              have Hpl := hide hpl
              obtain ⟨zat, hzat, hzv⟩ := place_sym (x := (yv', yi')) (k := yk') (p := pl) (by rw [← HZ.out]; exact List.mem_of_getElem? hpl)
              have Hzat := hide hzat
              obtain ⟨z1', z3', gp, hpe, hpad, hplc, hpcm, hpF⟩ := HK3.out.places HL6.out HP.out
              simp only [Value.slice.injEq, true_and] at hpe
              obtain ⟨rfl, rfl⟩ := hpe
              obtain ⟨py, c0, hrow⟩ := hpF t pl hpl
              have hz1 : z1 = some ⟨gp, 0, none⟩ := (hpad (by omega)).1
              subst hz1
              have HNp := hide (own_nin hrow)
              obtain ⟨y1, y3, rfl⟩ := nin_slice HNp.out
              unfold maxLen at hpcm
              have Hst5 := hide (foldT_succ (f := (supP U c i (an, ((av, ai), ak), ((av', ai'), ak')) d j (yn, ((yv', yi'), yk'), ((yv, yi), yk)) true)) (s := st2) hpl)
              have HXar := hide (HXaP.out.kpt Hkp3.out)
              have HXbr := hide (HXbP.out.kpt Hkp3.out)
              have Hsm := hide (supP_meet U c i (an, ((av, ai), ak), ((av', ai'), ak')) d j (yn, ((yv', yi'), yk'), ((yv, yi), yk)) true (foldT (supP U c i (an, ((av, ai), ak), ((av', ai'), ak')) d j (yn, ((yv', yi'), yk'), ((yv, yi), yk)) true) st2 Z t) pl)
              generalize foldT (supP U c i (an, ((av, ai), ak), ((av', ai'), ak')) d j (yn, ((yv', yi'), yk'), ((yv, yi), yk)) true) st2 Z t = stt at *
              have Hme := hide (meet_any (U := U) HU.out (an, ((av, ai), ak), ((av', ai'), ak')) (yn, ((yv', yi'), yk'), ((yv, yi), yk)) a1 d1 f1 e1 a3 d3 f3 e3 (.func (.func fn) #[] #[.pointer (some ⟨g0, 0, none⟩)]) (.func (.func 55) #[] #[.pointer (some ⟨gy, 0, none⟩)]) pl y1 pl.length y3 zat wr (Hkp3.out.sin HAP.out) (Hkp3.out.sin HBP.out) (Hkp3.out.sin HGP.out) (Hkp3.out.sin HEP.out) HNp.out Hzat.out Ha.out Hgb.out)
              simp only at Hme
              clear hpl hzat hzv hpF hpad hrow
              have ka0 : wr.cell? ⟨ga, 0, none⟩ = some (.bool av) := HXar.out 0 _ rfl
              have ka1 : wr.cell? ⟨ga, 1, none⟩ = some (.int .i64 ai) := HXar.out 1 _ rfl
              have ka2 : wr.cell? ⟨ga, 2, none⟩ = some (.slice a1 (Fo.len ak) a3) := HXar.out 2 _ rfl
              have ka3 : wr.cell? ⟨ga, 3, none⟩ = some (.bool av') := HXar.out 3 _ rfl
              have ka4 : wr.cell? ⟨ga, 4, none⟩ = some (.int .i64 ai') := HXar.out 4 _ rfl
              have ka5 : wr.cell? ⟨ga, 5, none⟩ = some (.slice d1 (Fo.len ak') d3) := HXar.out 5 _ rfl
              have ka6 : wr.cell? ⟨ga, 6, none⟩ = some (.func (.func fn) #[] #[.pointer (some ⟨g0, 0, none⟩)]) := HXar.out 6 _ rfl
              have kb0 : wr.cell? ⟨gb, 0, none⟩ = some (.bool yv') := HXbr.out 0 _ rfl
              have kb1 : wr.cell? ⟨gb, 1, none⟩ = some (.int .i64 yi') := HXbr.out 1 _ rfl
              have kb2 : wr.cell? ⟨gb, 2, none⟩ = some (.slice f1 (Fo.len yk') f3) := HXbr.out 2 _ rfl
              have kb3 : wr.cell? ⟨gb, 3, none⟩ = some (.bool yv) := HXbr.out 3 _ rfl
              have kb4 : wr.cell? ⟨gb, 4, none⟩ = some (.int .i64 yi) := HXbr.out 4 _ rfl
              have kb5 : wr.cell? ⟨gb, 5, none⟩ = some (.slice e1 (Fo.len yk) e3) := HXbr.out 5 _ rfl
              have kb6 : wr.cell? ⟨gb, 6, none⟩ = some (.func (.func 55) #[] #[.pointer (some ⟨gy, 0, none⟩)]) := HXbr.out 6 _ rfl
              go_wp2_with fail
              refine Hme.out.mono ?_
              rintro e w7 ⟨hb7, z5, mm, z6, ok, rfl, hno, hyes⟩
              have HK7 := hide (HK3.out.below hb7)
              have Hkp7 := hide (Hkp3.out.trans (kpt_below hb7))
              have HN7 := hide (HNp.out.below hb7)
              replace ka0 := grow_cell hb7 _ _ ka0
              replace ka1 := grow_cell hb7 _ _ ka1
              replace ka2 := grow_cell hb7 _ _ ka2
              replace ka3 := grow_cell hb7 _ _ ka3
              replace ka4 := grow_cell hb7 _ _ ka4
              replace ka5 := grow_cell hb7 _ _ ka5
              replace ka6 := grow_cell hb7 _ _ ka6
              replace kb0 := grow_cell hb7 _ _ kb0
              replace kb1 := grow_cell hb7 _ _ kb1
              replace kb2 := grow_cell hb7 _ _ kb2
              replace kb3 := grow_cell hb7 _ _ kb3
              replace kb4 := grow_cell hb7 _ _ kb4
              replace kb5 := grow_cell hb7 _ _ kb5
              replace kb6 := grow_cell hb7 _ _ kb6
              clear Hme hb7 HNp HXar HXbr Hkp3 HK3
              cases ok
              · have Hend : Hid (LK lo p wP v2 (foldT (supP U c i (an, ((av, ai), ak), ((av', ai'), ak')) d j (yn, ((yv', yi'), yk'), ((yv, yi), yk)) true) st2 Z (t + 1)) v3 xs3 w7) := by
                  have := HK7.out
                  rw [Hid, Hst5.out, Hsm.out, (hno rfl).1]
                  exact this
                clear hno hyes ka0 ka1 ka2 ka3 ka4 ka5 ka6 kb0 kb1 kb2 kb3 kb4 kb5 kb6 c0
                go_wp2_with fail
                go_roundw
                case rel => exact ⟨t + 1, v3, xs3, by omega, by go_num, Hend.out⟩
                case measure => simp [intOf]; omega
              · obtain ⟨s', hmt, rfl, hSub⟩ := hyes rfl
                have HV := hide hSub
                have Hmt := hide hmt
                have Hgz := hide (Hgb.out.1.at Hzat.out)
                obtain ⟨n, hnn⟩ := HU.out _ _ (Ha.out.1.ui Hgz.out)
                rw [meet_some Hzat.out hmt] at hnn
                have Hnn := hide hnn
                obtain ⟨⟨⟨pv, pi⟩, pk⟩, hq⟩ : ∃ q, putT pl ((yv', yi'), yk') ((av', ai'), ak') = q := ⟨_, rfl⟩
                have Hq := hide hq
                have Hgp := hide (gd_put Ha.out.2.gd Hgb.out.1.gd Hzat.out)
                have Hnew : Hid (turnL true (yn, putT pl ((yv', yi'), yk') ((av', ai'), ak'), ((yv, yi), yk)) = (yn, ((yv, yi), yk), ((pv, pi), pk))) := by rw [Hid, hq]; rfl
                have HF7 := hide (Hkp7.out.sin HGP.out)
                have HS7 := hide (Hkp7.out.sin HEP.out)
                have HB7 := hide (Hkp7.out.sin HBP.out)
                have HR7 := hide (Hkp7.out.cin HRP.out)
                have HY7 := hide (HYrP.out.kpt Hkp7.out)
                have Hcl := hide (cloneC_any d _ w7 (Hkp7.out.cin HDP.out) (by omega))
                have hga7 : ga < w7.heap.size := World.block_lt_of_cell? _ _ ka0
                have hgb7 : gb < w7.heap.size := World.block_lt_of_cell? _ _ kb0
                clear hno hyes hSub hmt hnn hq c0
                go_wp2_with fail
                refine Hcl.out.mono ?_
                rintro e w8 ⟨cv, nd, rfl, hO8, hb8⟩
                obtain ⟨gx, x3, rfl, hgx1, hgx2, hfx⟩ := own_ex hO8.row (by omega)
                have hex := own_cells hO8 (g := gx) rfl hjl
                have HO8 := hide hO8
                have hne1 : gb ≠ gx := by omega
                have hne2 : ga ≠ gx := by omega
                replace ka0 := grow_cell hb8 _ _ ka0
                replace ka1 := grow_cell hb8 _ _ ka1
                replace ka2 := grow_cell hb8 _ _ ka2
                replace ka3 := grow_cell hb8 _ _ ka3
                replace ka4 := grow_cell hb8 _ _ ka4
                replace ka5 := grow_cell hb8 _ _ ka5
                replace ka6 := grow_cell hb8 _ _ ka6
                replace kb0 := grow_cell hb8 _ _ kb0
                replace kb1 := grow_cell hb8 _ _ kb1
                replace kb2 := grow_cell hb8 _ _ kb2
                replace kb3 := grow_cell hb8 _ _ kb3
                replace kb4 := grow_cell hb8 _ _ kb4
                replace kb5 := grow_cell hb8 _ _ kb5
                replace kb6 := grow_cell hb8 _ _ kb6
                obtain ⟨u0, x0⟩ := hex 0 (by omega)
                obtain ⟨u1, x1⟩ := hex 1 (by omega)
                obtain ⟨u2, x2⟩ := hex 2 (by omega)
                obtain ⟨u3, x3'⟩ := hex 3 (by omega)
                obtain ⟨u4, x4⟩ := hex 4 (by omega)
                obtain ⟨u5, x5⟩ := hex 5 (by omega)
                obtain ⟨u6, x6⟩ := hex 6 (by omega)
                rw [Nat.add_zero] at x0
                have HcP := hide (fun (w' : World) (hb : Below w8.heap.size w8 w') => putP_place (w := w') Hq.out Hgb.out.1.gd Ha.out.2.gd (HF7.out.below (below_step hb8 hb)) (HB7.out.below (below_step hb8 hb)) (HN7.out.below (below_step hb8 hb)))
                have HcW := hide (fun (w' : World) (hb : Below w8.heap.size w8 w') (t1 : Option Addr) (t3 : Nat) => with2_any (yn, ((yv, yi), yk), ((yv', yi'), yk')) e1 f1 t1 (Fo.len yk) e3 (Fo.len yk') f3 (Fo.len pk) t3 pv pi pk gy w' (HY7.out.below (below_step hb8 hb)))
                simp only at HcP HcW
                have Hb8 := hide hb8
                have Hfx := hide hfx
                have hcur : Below w8.heap.size w8 w8.drew := (Below.refl _ _).drew
                clear hO8 hex Hcl hb8 hfx
                go_upto_region 13 with fail
                go_region_held3 (fun w' => w'.cell? ⟨gb, 0, none⟩ = some (.bool yv') ∧ w'.cell? ⟨gb, 1, none⟩ = some (.int .i64 yi') ∧ w'.cell? ⟨gb, 2, none⟩ = some (.slice f1 (Fo.len yk') f3) ∧ w'.cell? ⟨gb, 6, none⟩ = some (.func (.func 55) #[] #[.pointer (some ⟨gy, 0, none⟩)]) ∧ w'.cell? ⟨ga, 3, none⟩ = some (.bool av') ∧ w'.cell? ⟨ga, 4, none⟩ = some (.int .i64 ai') ∧ w'.cell? ⟨ga, 5, none⟩ = some (.slice d1 (Fo.len ak') d3))
                  (first
                    | (with_reducible exact ⟨grow_cell hcur _ _ kb0, grow_cell hcur _ _ kb1, grow_cell hcur _ _ kb2, grow_cell hcur _ _ kb6, grow_cell hcur _ _ ka3, grow_cell hcur _ _ ka4, grow_cell hcur _ _ ka5⟩)
                    | (with_reducible exact ⟨keep7 hne1 (grow_cell hcur _ _ kb0), keep7 hne1 (grow_cell hcur _ _ kb1), keep7 hne1 (grow_cell hcur _ _ kb2), keep7 hne1 (grow_cell hcur _ _ kb6), keep7 hne2 (grow_cell hcur _ _ ka3), keep7 hne2 (grow_cell hcur _ _ ka4), keep7 hne2 (grow_cell hcur _ _ ka5)⟩)
                    | go_keep)
                  (first
                    | (go_at_call 59; with_reducible refine (HcP.out _ hcur).mono ?_; rintro e wS ⟨q1, q3, rfl, hSP, hbS⟩; have hcurS := hcur; replace hcur := below_step hcur hbS; have HSP := hide hSP; clear hSP)
                    | (go_at_call 55; with_reducible refine (HcW.out _ hcur _ _).mono ?_; rintro e wU ⟨rfl, hbU⟩; replace hcur := below_step hcur hbU; replace x0 := grow_cell hcur _ _ x0; replace x1 := grow_cell hcur _ _ x1; replace x2 := grow_cell hcur _ _ x2; replace x3' := grow_cell hcur _ _ x3'; replace x4 := grow_cell hcur _ _ x4; replace x5 := grow_cell hcur _ _ x5; replace x6 := grow_cell hcur _ _ x6; have hfU : ∀ i, wU.frozen? ⟨gx, i, none⟩ = false := fun i => (hcur.frozen (p := ⟨gx, i, none⟩) hgx2).trans (Hfx.out i)))
                all_goals
                  generalize hw13 : (((((((wU.setCell ⟨gx, j * 7, none⟩ (.bool yn)).setCell ⟨gx, j * 7 + 1, none⟩ (.bool yv)).setCell ⟨gx, j * 7 + 2, none⟩ (.int .i64 yi)).setCell ⟨gx, j * 7 + 3, none⟩ (.slice e1 (Fo.len yk) e3)).setCell ⟨gx, j * 7 + 4, none⟩ (.bool pv)).setCell ⟨gx, j * 7 + 5, none⟩ (.int .i64 pi)).setCell ⟨gx, j * 7 + 6, none⟩ ((.slice q1 (Fo.len pk) q3))) = w13
                  have e13 : w13 = setL wU gx (j * 7) (litV (yn, ((yv, yi), yk), ((pv, pi), pk)) (.slice e1 (Fo.len yk) e3) (.slice q1 (Fo.len pk) q3)) := hw13.symm
                  have hb7U := below_step Hb8.out hcur
                  have hb13 : Below w7.heap.size w7 w13 := by rw [e13]; exact setL_below hgx1 hb7U
                  have hs8 : gx < w8.heap.size := hgx2
                  have hsU := hcur.size
                  have hsS : wS.heap.size ≤ wU.heap.size := hbU.size
                  have HOU : OwnL w7.heap.size (fun q => q < wU.heap.size ∧ q ≠ gx) wU d (.slice (some ⟨gx, 0, none⟩) d.length x3) nd := by
                    have h := HO8.out.below hcur
                    exact ⟨h.row, h.cells.frame (fun q hq => ⟨(h.off q hq).1, by omega⟩) (fun _ _ _ => rfl), fun q hq => ⟨hq.1, fun e => hq.2 (by simpa [Value.ownBlock] using e)⟩⟩
                  have HNp1 : SB (fun q => q < wU.heap.size ∧ q ≠ gx) wU pk (.slice q1 (Fo.len pk) q3) := (HSP.out.grow (fun q hq => hq.2) hbU).frame (fun q hq => by
                    have h1 : w8.heap.size ≤ q := Nat.le_trans hcurS.size hq.1
                    have h2 : q < wS.heap.size := hq.2
                    exact ⟨by omega, by omega⟩) (fun _ _ _ => rfl)
                  have HNs1 : SB (fun q => q < wU.heap.size ∧ q ≠ gx) wU yk (.slice e1 (Fo.len yk) e3) := (HS7.out.toB.grow (fun _ h => h) hb7U).frame (fun q hq => by
                    have h2 : w7.heap.size ≤ wU.heap.size := hb7U.size
                    exact ⟨by omega, by omega⟩) (fun _ _ _ => rfl)
                  have hset := (own_set HOU (g := gx) rfl (j := j) hjl (l := (yn, ((yv, yi), yk), ((pv, pi), pk))) (a := (.slice e1 (Fo.len yk) e3)) (d := (.slice q1 (Fo.len pk) q3)) HNs1 HNp1).1
                  rw [← e13] at hset
                  have HR13 := hide (HR7.out.below hb13)
                  have hb14 : Below w13.heap.size w13 (w13.alloc (.cells #[.slice rw1 (butC c i).length rw3, .slice (some ⟨gx, 0, none⟩) d.length x3] 25)) := below_alloc _ _
                  have Hcc := hide (concat_any (butC c i) (d.set j (yn, ((yv, yi), yk), ((pv, pi), pk))) (.slice rw1 (butC c i).length rw3) (.slice (some ⟨gx, 0, none⟩) d.length x3) w13.heap.size 0 2 _ (HR13.out.below hb14) (hset.below hb14) (new_cell rfl) (new_cell rfl) (by rw [List.length_set]; omega))
                  have Hb14 := hide (below_step hb13 hb14)
                  clear hw13 e13 x0 x1 x2 x3' x4 x5 x6 hfU HOU HNp1 HNs1 hset hb14 hb13 hb7U hbU hcur hcurS ka0 ka1 ka2 ka3 ka4 ka5 ka6 kb0 kb1 kb2 kb3 kb4 kb5 kb6 HcP HcW
                  go_wp2_with fail
                  with_reducible refine Hcc.out.mono ?_
                  rintro e w15 ⟨dv', rfl, hCC, hb15⟩
                  have hb715 := below_step Hb14.out hb15
                  have HK15 := hide (HK7.out.below hb715)
                  have Had := hide (ruleAddP HK15.out.L (HV.out.below hb715) hCC Ha.out.1 Hgz.out Hnn.out (fun l hl => by
                    rcases List.mem_append.1 hl with hl | hl
                    · exact (Hc.out l (but_mem hl)).x
                    · rcases List.mem_or_eq_of_mem_set hl with hl | hl
                      · exact (Hd.out l hl).x
                      · rw [hl]
                        have h1 := Hgp.out
                        rw [Hq.out] at h1
                        exact ⟨⟨Hgb.out.2.gd, Nat.le_trans Hgb.out.2.sz (by decide)⟩, ⟨h1.1, Nat.le_trans h1.2 (Nat.add_le_add Hgb.out.1.sz Ha.out.2.sz)⟩⟩) (by rw [List.length_append, List.length_set]; omega) Hst3.out)
                  clear hCC hb15 hb715 Hcc
                  go_wp2_with fail
                  refine Had.out.mono ?_
                  rintro e w16 hpost
                  obtain ⟨v4, xs4, hK4⟩ := HK15.out.add hpost
                  obtain ⟨rfl, -⟩ := hpost
                  have Hend : Hid (LK lo p wP v2 (foldT (supP U c i (an, ((av, ai), ak), ((av', ai'), ak')) d j (yn, ((yv', yi'), yk'), ((yv, yi), yk)) true) st2 Z (t + 1)) v4 xs4 w16) := by
                    rw [Hid, Hst5.out, Hsm.out, Hmt.out, Hnew.out]
                    exact hK4
                  clear hK4 Had
                  go_wp2_with fail
                  go_roundw
                  case rel => exact ⟨t + 1, v4, xs4, by omega, by go_num, Hend.out⟩
                  case measure => simp [intOf]; omega
            · have hte : t = Z.length := by omega
              subst hte
              have Hend : Hid (LK lo p w5 v' (foldN (supD U c i (an, ((av, ai), ak), ((av', ai'), ak')) d j (yn, ((yv, yi), yk), ((yv', yi'), yk'))) stj (1 + 1)) v3 xs3 wr) := by
                rw [Hid, Hsz.out]
                exact HKP.out.trans HK3.out
              go_wp2_with fail
              go_roundw
              case rel => exact ⟨1 + 1, v3, xs3, by omega, by go_num, Hend.out⟩
              case measure => simp [intOf]
        · have Hend : Hid (LK lo p W1 v (foldN (supJ U c i (an, ((av, ai), ak), ((av', ai'), ak')) d) st (j + 1)) v2 xs2 wr) := by
            rw [Hid, Hsj.out, Hfj.out]
            exact HK5.out.trans HK2.out
          go_wp2_with fail
          go_roundw
          case rel => exact ⟨j + 1, v2, xs2, by omega, by go_num, Hend.out⟩
          case measure => simp [intOf]; omega
    · have hje : j = d.length := by omega
      subst hje
      have Hend : Hid (LK lo p w v (foldN (supJ U c i (an, ((av, ai), ak), ((av', ai'), ak')) d) st d.length) v' xs' wr) := HLK.out.trans HK.out
      go_wp2_with fail
      go_end0
      exact ⟨rfl, v', xs', Hend.out⟩

end Go.Proofs.YtaliegkkdhkfcacGreatDoor

namespace Go.Proofs.YtaliegkkdhkfcacGreatDoor
open Go.RowKit Go.Deep Go.ChangeShapes Go.WideShapes

set_option maxRecDepth 100000 in
set_option maxHeartbeats 2000000 in
theorem cloER_any (d : Int) (bb : Nat) (x : Bool × Int) (k : Fo) (a : Value) (w : World) (h : InvR d bb w) (hS : SIn w k a) (hn : narT (x, k)) :
    Calls Tryz.prog 52 #[.agg #[.bool x.1, .int .i64 x.2, a], .pointer (some ⟨bb, 0, none⟩)] w fun e w' => ∃ a', e = .returned (.agg #[.bool (subT (ren d) (x, k)).1.1, .int .i64 (subT (ren d) (x, k)).1.2, a']) ∧ OwnV w' w.heap.size w'.heap.size (subT (ren d) (x, k)).2 a' ∧ Below w.heap.size w w' := by
  obtain ⟨xv, xn⟩ := x
  have HS := hide hS
  have HI := hide h
  obtain ⟨ad, c, _, _, rfl, -, -, -, -⟩ := hS
  have hc : w.cell? ⟨bb, 0, none⟩ = some (.int .i64 d) := h
  clear h
  have hpb : bb < w.heap.size := World.block_lt_of_cell? _ _ hc
  have hc' : ((w.alloc (.cells #[.bool xv, .int .i64 xn, .slice ad (Fo.len k) c] 55)).alloc (.cells #[.bool false, .int .i64 0, .slice none 0 0] 55)).cell? ⟨bb, 0, none⟩ = some (.int .i64 d) := by rw [World.cell?_alloc_lt _ _ _ (by show bb < _; simp; omega), World.cell?_alloc_lt _ _ _ hpb]; exact hc
  go_enter Tryz.func52, Tryz.ntmps52
  go_wp2_with fail
  refine (rename_any d (xv, xn) k _ _ ((HS.out.alloc _).alloc _) hn).mono ?_
  rintro e w1 ⟨a', rfl, hO, hb⟩
  obtain ⟨⟨⟨tv, tn⟩, tk⟩, ht⟩ : ∃ t, t = subT (ren d) ((xv, xn), k) := ⟨_, rfl⟩
  rw [← ht] at hO ⊢
  have hO' := hO
  obtain ⟨z1, z2, z3, rfl⟩ := slice_of_sin hO.toS
  have hsz := hb.size
  simp only [World.size_alloc] at hsz
  have r0 : w1.cell? ⟨w.heap.size + 1, 0, none⟩ = some (.bool false) := grow_cell hb _ _ (new_cell (World.size_alloc _ _))
  have r1 : w1.cell? ⟨w.heap.size + 1, 1, none⟩ = some (.int .i64 0) := grow_cell hb _ _ (new_cell (World.size_alloc _ _))
  have r2 : w1.cell? ⟨w.heap.size + 1, 2, none⟩ = some (.slice none 0 0) := grow_cell hb _ _ (new_cell (World.size_alloc _ _))
  have rf : ∀ i, w1.frozen? ⟨w.heap.size + 1, i, none⟩ = false := fun i => (hb.frozen (by show w.heap.size + 1 < _; simp)).trans (new_frozen (World.size_alloc _ _))
  have hB := below_box (below_box hb)
  have HO : Hid (OwnV w1 (w.heap.size + 1 + 1) w1.heap.size tk (.slice z1 z2 z3)) := by
    have := hO
    simp only [World.size_alloc] at this
    exact this
  have Ht := hide ht
  clear hb hO hO' ht hc hc'
  simp only
  go_wp2_with fail
  refine bodyPost_ret (v := .agg #[.bool tv, .int .i64 tn, .slice z1 z2 z3]) (by simp [results, Tryz.results52, go_sem, r0, r1, r2]) rfl ⟨.slice z1 z2 z3, by rw [← Ht.out], ?_, set3_below (o := 0) hB (by omega)⟩
  rw [← Ht.out]
  exact ret_box HO.out (by omega) (by omega)

set_option maxRecDepth 100000 in
set_option maxHeartbeats 4000000 in
theorem eachR_any (d : Int) (bb : Nat) (k : Cl) (a : Value) (w : World) (h : InvR d bb w) (hS : CIn w k a) (hn : ∀ l ∈ k, narT l.2.1 ∧ narT l.2.2) (hlen : k.length ≤ 1000000) :
    Calls Tryz.prog 51 #[a, .func (.func 52) #[] #[.pointer (some ⟨bb, 0, none⟩)]] w fun e w' => ∃ g, e = .returned (.slice (some ⟨g, 0, none⟩) k.length k.length) ∧ CIn w' (k.map (mapL (subT (ren d)))) (.slice (some ⟨g, 0, none⟩) k.length k.length) ∧ Below w.heap.size w w' := by
  obtain ⟨a1, c1, b1, o1, rfl, had1, hlc1, hcm1, hF1⟩ := hS
  unfold maxLen at hcm1
  have HF1 := hide hF1
  have HI := hide h
  have Hn := hide hn
  clear hF1 h hn
  obtain ⟨iL, hi, hz0, hz1, hz2⟩ := info_parts Tryz.info57
  have hmk := fun w : World => run_make (P := Tryz.prog) w 25 57 iL _ Tryz.underlying25 hi hz0 .i64 .i64 (k.length : Int) (k.length : Int) (by omega) (by omega) (by rw [hz2]; omega) (by omega)
  rw [hz1] at hmk
  simp only [Int.toNat_natCast] at hmk
  go_enter Tryz.func51, Tryz.ntmps51
  go_wp2_with fail
  clear hmk hi hz0 hz1 hz2
  have H0 : Hid (MkRel w.heap.size w (k.map (mapL (subT (ren d)))) 0 (w.alloc (.cells (madeCells #[.bool false, .bool false, .int .i64 0, .slice none 0 0, .bool false, .int .i64 0, .slice none 0 0] (k.length * 7)) 57))) := by
    have := mk_start (W2 := w) (T := k.map (mapL (subT (ren d)))) (z := #[.bool false, .bool false, .int .i64 0, .slice none 0 0, .bool false, .int .i64 0, .slice none 0 0])
    rw [List.length_map] at this
    exact this
  go_loopw [13] (fun i wr => ∃ j : Nat, j ≤ k.length ∧ i = .int .i64 j ∧ MkRel w.heap.size w (k.map (mapL (subT (ren d)))) j wr) (fun i _ => k.length - (intOf i).toNat)
  case atStart => exact ⟨0, Nat.zero_le _, rfl, H0.out⟩
  case round =>
    obtain ⟨j, hj, rfl, hR⟩ := hrel
    have HR := hide hR
    obtain ⟨hB, hT, hsz, -⟩ := hR
    have hBw : Below w.heap.size w wr := hB
    by_cases hlt : j < k.length
    · have hlt' : (j : Int) < (k.length : Int) := by omega
      have hj0 : (0 : Int) ≤ (j : Int) := by omega
      obtain ⟨⟨yn, ⟨⟨yv, yi⟩, yk⟩, ⟨yv', yi'⟩, yk'⟩, hy⟩ : ∃ y, k[j]? = some y := ⟨k[j]'hlt, by simp⟩
      obtain ⟨p0, p1, p2, ⟨u3, p3, hA⟩, p4, p5, u6, p6, hD⟩ := (HF1.out.below hBw).at hy
      have ha1 : a1 = some ⟨b1, o1, none⟩ := had1 (by omega)
      subst ha1
      have HA := hide hA
      have HD := hide hD
      obtain ⟨ya, yc, _, _, rfl, -, -, -, -⟩ := hA
      obtain ⟨za, zc, _, _, rfl, -, -, -, -⟩ := hD
      have Hny := hide (Hn.out _ (List.mem_of_getElem? hy))
      obtain ⟨⟨⟨tv, ti⟩, tk⟩, ht⟩ : ∃ t, t = subT (ren d) ((yv, yi), yk) := ⟨_, rfl⟩
      obtain ⟨⟨⟨tv', ti'⟩, tk'⟩, ht'⟩ : ∃ t, t = subT (ren d) ((yv', yi'), yk') := ⟨_, rfl⟩
      have Hy2 : Hid ((k.map (mapL (subT (ren d))))[j]? = some (yn, ((tv, ti), tk), ((tv', ti'), tk'))) := by rw [Hid, List.getElem?_map, hy, ht, ht']; rfl
      have Ht := hide ht
      have Ht' := hide ht'
      have hT' : There wr w.heap.size (k.length * 7) := by rw [List.length_map] at hT; exact hT
      have hfz : ∀ i, i < 7 → (∃ v, wr.cell? ⟨w.heap.size, j * 7 + i, none⟩ = some v) ∧ wr.frozen? ⟨w.heap.size, j * 7 + i, none⟩ = false := fun i hi => hT' _ (by omega)
      have Hfz := hide hfz
      clear hy had1 hT hT' ht ht' hfz hB
      simp only at *
      go_upto_region 5 with fail
      generalize hwa : wr.alloc (.cells #[.bool yn, .bool yv, .int .i64 yi, .slice ya (Fo.len yk) yc, .bool yv', .int .i64 yi', .slice za (Fo.len yk') zc] 57) = wa
      obtain ⟨g0, g1, g2, g3, g4, g5, g6, -, hba, hsa⟩ := lit_cells (T := 57) (x0 := .bool yn) (w := wr) (wr := wa) (x1 := .bool yv) (x2 := .int .i64 yi) (x3 := .slice ya (Fo.len yk) yc) (x4 := .bool yv') (x5 := .int .i64 yi') (x6 := .slice za (Fo.len yk') zc) (by rw [hwa]; exact Below.refl _ _)
      clear hwa
      have hcur : Below wa.heap.size wa wa.drew := (Below.refl _ _).drew
      have hcall1 : ∀ w' : World, Below wa.heap.size wa w' → Calls Tryz.prog 52 #[.agg #[.bool yv, .int .i64 yi, .slice ya (Fo.len yk) yc], .pointer (some ⟨bb, 0, none⟩)] w' fun e w'' => ∃ (z1 : Option Addr) (z2 z3 : Nat), e = .returned (.agg #[.bool tv, .int .i64 ti, .slice z1 z2 z3]) ∧ OwnV w'' w'.heap.size w''.heap.size tk (.slice z1 z2 z3) ∧ Below w'.heap.size w' w'' := fun w' hb => by
        have hb' := below_step (below_step hBw hba) hb
        refine (cloER_any d bb (yv, yi) yk _ w' (invR_below d bb HI.out hb') (HA.out.below (below_step hba hb)) Hny.out.1).mono ?_
        rintro e w2 ⟨a', rfl, hO, hb⟩
        rw [← Ht.out] at hO
        obtain ⟨z1, z2, z3, rfl⟩ := slice_of_sin hO.toS
        exact ⟨z1, z2, z3, by rw [← Ht.out], hO, hb⟩
      have hcall2 : ∀ w' : World, Below wa.heap.size wa w' → Calls Tryz.prog 52 #[.agg #[.bool yv', .int .i64 yi', .slice za (Fo.len yk') zc], .pointer (some ⟨bb, 0, none⟩)] w' fun e w'' => ∃ (z1 : Option Addr) (z2 z3 : Nat), e = .returned (.agg #[.bool tv', .int .i64 ti', .slice z1 z2 z3]) ∧ OwnV w'' w'.heap.size w''.heap.size tk' (.slice z1 z2 z3) ∧ Below w'.heap.size w' w'' := fun w' hb => by
        have hb' := below_step (below_step hBw hba) hb
        refine (cloER_any d bb (yv', yi') yk' _ w' (invR_below d bb HI.out hb') (HD.out.below (below_step hba hb)) Hny.out.2).mono ?_
        rintro e w2 ⟨a', rfl, hO, hb⟩
        rw [← Ht'.out] at hO
        obtain ⟨z1, z2, z3, rfl⟩ := slice_of_sin hO.toS
        exact ⟨z1, z2, z3, by rw [← Ht'.out], hO, hb⟩
      have Hc1 := hide hcall1
      have Hc2 := hide hcall2
      clear hcall1 hcall2 p0 p1 p2 p3 p4 p5 p6
      have hgz : w.heap.size < wr.heap.size := by omega
      have hne : wr.heap.size ≠ w.heap.size := by omega
      go_region_held3 (fun w' => w'.cell? ⟨wr.heap.size, 0, none⟩ = some (.bool yn) ∧ w'.cell? ⟨wr.heap.size, 1, none⟩ = some (.bool yv) ∧ w'.cell? ⟨wr.heap.size, 2, none⟩ = some (.int .i64 yi) ∧ w'.cell? ⟨wr.heap.size, 3, none⟩ = some (.slice ya (Fo.len yk) yc) ∧ w'.cell? ⟨wr.heap.size, 4, none⟩ = some (.bool yv') ∧ w'.cell? ⟨wr.heap.size, 5, none⟩ = some (.int .i64 yi') ∧ w'.cell? ⟨wr.heap.size, 6, none⟩ = some (.slice za (Fo.len yk') zc))
        (first
          | (with_reducible exact ⟨grow_cell hcur _ _ g0, grow_cell hcur _ _ g1, grow_cell hcur _ _ g2, grow_cell hcur _ _ g3, grow_cell hcur _ _ g4, grow_cell hcur _ _ g5, grow_cell hcur _ _ g6⟩)
          | (with_reducible exact ⟨keep7 hne (grow_cell hcur _ _ g0), keep7 hne (grow_cell hcur _ _ g1), keep7 hne (grow_cell hcur _ _ g2), keep7 hne (grow_cell hcur _ _ g3), keep7 hne (grow_cell hcur _ _ g4), keep7 hne (grow_cell hcur _ _ g5), keep7 hne (grow_cell hcur _ _ g6)⟩)
          | go_keep)
        (first
          | (go_at_call 52; with_reducible refine (Hc1.out _ hcur).mono ?_; rintro e wS ⟨z1, z2, z3, rfl, hO1, hbS⟩; replace hcur := below_step hcur hbS; have HO1 := hide (And.intro hO1 hbS); clear hO1)
          | (go_at_call 52; with_reducible refine (Hc2.out _ hcur).mono ?_; rintro e wU ⟨y1, y2, y3, rfl, hO2, hbU⟩; have hcurS := hcur; replace hcur := below_step hcur hbU; have HO2 := hide (And.intro hO2 hbU); clear hO2; have hall := below_step hba hcur; obtain ⟨⟨t0, e0⟩, f0⟩ := Hfz.out 0 (by omega); obtain ⟨⟨t1, e1⟩, f1⟩ := Hfz.out 1 (by omega); obtain ⟨⟨t2, e2⟩, f2⟩ := Hfz.out 2 (by omega); obtain ⟨⟨t3, e3⟩, f3⟩ := Hfz.out 3 (by omega); obtain ⟨⟨t4, e4⟩, f4⟩ := Hfz.out 4 (by omega); obtain ⟨⟨t5, e5⟩, f5⟩ := Hfz.out 5 (by omega); obtain ⟨⟨t6, e6⟩, f6⟩ := Hfz.out 6 (by omega); replace e0 := grow_cell hall _ _ e0; replace e1 := grow_cell hall _ _ e1; replace e2 := grow_cell hall _ _ e2; replace e3 := grow_cell hall _ _ e3; replace e4 := grow_cell hall _ _ e4; replace e5 := grow_cell hall _ _ e5; replace e6 := grow_cell hall _ _ e6; replace f0 := (hall.frozen hgz).trans f0; replace f1 := (hall.frozen hgz).trans f1; replace f2 := (hall.frozen hgz).trans f2; replace f3 := (hall.frozen hgz).trans f3; replace f4 := (hall.frozen hgz).trans f4; replace f5 := (hall.frozen hgz).trans f5; replace f6 := (hall.frozen hgz).trans f6; simp only [Nat.add_zero] at e0 f0))
      all_goals
        have Hstep : Hid (MkRel w.heap.size w (k.map (mapL (subT (ren d)))) (j + 1) (setL wU w.heap.size (j * 7) (litV (yn, ((tv, ti), tk), ((tv', ti'), tk')) (.slice z1 z2 z3) (.slice y1 y2 y3)))) := by
          have s1 := hba.size
          have s2 := hcurS.size
          have s3 := HO1.out.2.size
          have s4 := HO2.out.2.size
          refine mk_step HR.out Hy2.out (below_step hba hcur) ?_ ?_
          · refine ((HO1.out.1.toB (X := fun q => wr.heap.size ≤ q ∧ q < wS.heap.size) (fun q q1 q2 => ⟨?_, q2⟩)).frame (fun q hq => ⟨hq.1, ?_⟩) (fun q i hq => HO2.out.2.cell ?_))
            · have q1' : wa.heap.size ≤ q := q1
              omega
            · have s4' : wS.heap.size ≤ wU.heap.size := s4
              have := hq.2
              omega
            · exact hq.2
          · refine HO2.out.1.toB (fun q q1 q2 => ⟨?_, q2⟩)
            have q1' : wS.heap.size ≤ q := q1
            omega
        go_wp2_with fail
        go_roundw
        case rel => exact ⟨j + 1, by omega, by go_num, Hstep.out⟩
        case measure => simp [intOf]; omega
    · have hje : j = k.length := by omega
      subst hje
      have Hfin : Hid (CIn wr (k.map (mapL (subT (ren d)))) (.slice (some ⟨w.heap.size, 0, none⟩) k.length k.length)) := by
        have := HR.out
        rw [show MkRel w.heap.size w (k.map (mapL (subT (ren d)))) k.length wr = MkRel w.heap.size w (k.map (mapL (subT (ren d)))) (k.map (mapL (subT (ren d)))).length wr by rw [List.length_map]] at this
        have := mk_end this (by rw [List.length_map]; unfold maxLen; omega)
        rw [List.length_map] at this
        exact this
      clear had1 hT hB
      go_wp2_with fail
      go_ret
      exact ⟨_, rfl, Hfin.out, hBw⟩

set_option maxRecDepth 100000 in
set_option maxHeartbeats 1000000 in
theorem renameC_any (d : Int) (k : Cl) (a : Value) (w : World) (hS : CIn w k a) (hn : ∀ l ∈ k, narT l.2.1 ∧ narT l.2.2) (hlen : k.length ≤ 1000000) :
    Calls Tryz.prog 25 #[a, .int .i64 d] w fun e w' => ∃ g, e = .returned (.slice (some ⟨g, 0, none⟩) k.length k.length) ∧ CIn w' (k.map (mapL (subT (ren d)))) (.slice (some ⟨g, 0, none⟩) k.length k.length) ∧ Below w.heap.size w w' := by
  have HS := hide hS
  obtain ⟨a1, a3, rfl⟩ := slice_of_cl hS
  clear hS
  go_enter Tryz.func25, Tryz.ntmps25
  go_wp2_with fail
  refine (eachR_any d w.heap.size k _ _ (by simp [InvR]) (HS.out.alloc _) hn hlen).mono ?_
  rintro e w1 ⟨g, rfl, hC, hb⟩
  have HC := hide hC
  clear hC
  go_wp2_with fail
  go_ret
  exact ⟨g, rfl, HC.out, below_box hb⟩

end Go.Proofs.YtaliegkkdhkfcacGreatDoor
