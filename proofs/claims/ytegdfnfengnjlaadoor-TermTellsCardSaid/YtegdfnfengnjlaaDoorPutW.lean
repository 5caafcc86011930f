/- What At and Put answer. -/
import Derived.Test.YtegdfnfengnjlaaDoorPut
namespace Go.Proofs.YtegdfnfengnjlaaDoor
open Go.RowKit Go.Deep Go.ChangeShapes Go.WideShapes

theorem atT_narrow : ∀ {p : List Int} {x : Bool × Int} {k : Fo} {y : Bool × Int} {l : Fo}, Fo.len k ≤ 1000 → Fo.narrow k → atT p x k = some (y, l) → Fo.len l ≤ 1000 ∧ Fo.narrow l
  | [], _, _, _, _, h1, h2, h => by cases h; exact ⟨h1, h2⟩
  | n :: p, _, _, _, _, h1, h2, h => by
    obtain ⟨_, _, _, ⟨y, l⟩, hy, hat⟩ := atT_some h
    obtain ⟨q1, q2⟩ := narrow_at h2 hy
    exact atT_narrow q1 q2 hat

theorem tin_box {w : World} {x : Bool × Int} {k : Fo} {a : Value} (h : SIn w k a) : TIn (w.alloc (.cells #[.bool x.1, .int .i64 x.2, a] 26)) w.heap.size 0 x k :=
  ⟨by simp, by simp, a, by simp, h.alloc _⟩

set_option maxHeartbeats 1000000 in
theorem at_any (x : Bool × Int) (k : Fo) (a : Value) (p : List Int) (pv : Value) (w : World) (hS : SIn w k a) (hN : NIn w p pv) (hl : Fo.len k ≤ 1000) (hn : Fo.narrow k) :
    Calls Tryd.prog 25 #[.agg #[.bool x.1, .int .i64 x.2, a], pv] w fun e w' => Below w.heap.size w w' ∧
      ((atT p x k = none ∧ e = .returned (.tuple #[.agg #[.bool false, .int .i64 0, .slice none 0 0], .bool false])) ∨
       ∃ y l a', atT p x k = some (y, l) ∧ e = .returned (.tuple #[.agg #[.bool y.1, .int .i64 y.2, a'], .bool true]) ∧ SB (New w w') w' l a') := by
  obtain ⟨v, n⟩ := x
  have HS := hide hS
  have HN := hide hN
  have Hn := hide hn
  obtain ⟨ad, c, b, o, rfl, -, -, -, -⟩ := hS
  obtain ⟨pa, pc, pb, po, rfl, -, -, -, -⟩ := hN
  clear hn
  go_enter Tryd.func25, Tryd.ntmps25
  go_wp2_with fail
  refine (find_any (v, n) k w.heap.size 0 p _ _ ((tin_box HS.out).below (below_alloc _ _)) ((HN.out.alloc _).alloc _)).mono ?_
  rintro e w1 ⟨hb1, h1⟩
  have hb1' : Below (w.heap.size + 2) ((w.alloc (.cells #[.bool v, .int .i64 n, .slice ad (Fo.len k) c] 26)).alloc (.cells #[.bool false, .int .i64 0, .slice none 0 0] 26)) w1 := by simpa using hb1
  have hBw : Below w.heap.size w w1 := below_box (below_box hb1)
  have r0 : w1.cell? ⟨w.heap.size + 1, 0, none⟩ = some (.bool false) := by rw [hb1'.cell (by simp)]; simp
  have r1 : w1.cell? ⟨w.heap.size + 1, 1, none⟩ = some (.int .i64 0) := by rw [hb1'.cell (by simp)]; simp
  have r2 : w1.cell? ⟨w.heap.size + 1, 2, none⟩ = some (.slice none 0 0) := by rw [hb1'.cell (by simp)]; simp
  have z0 : ∀ i, w1.frozen? ⟨w.heap.size + 1, i, none⟩ = false := fun i => by rw [hb1'.frozen (by simp)]; simp
  have hsz : w.heap.size + 2 ≤ w1.heap.size := by have := hb1'.size; simpa using this
  rcases h1 with ⟨hat, rfl⟩ | ⟨cb, co, ⟨yv, yn⟩, l, hat, rfl, hL, hT⟩
  · have Hat := hide hat
    clear hat hb1 hb1'
    go_wp2_with fail
    refine bodyPost_ret (v := .tuple #[.agg #[.bool false, .int .i64 0, .slice none 0 0], .bool false]) (by simp [results, Tryd.results25, go_sem, r0, r1, r2]) rfl ⟨?_, .inl ⟨Hat.out, rfl⟩⟩
    exact ((hBw.setCell (by simp) _).setCell (by simp) _).setCell (by simp) _
  · have Hat := hide hat
    obtain ⟨t0, t1, v', t2, hSl⟩ := hT.below hb1
    have HSl := hide hSl
    obtain ⟨la, lc, lb, lo, rfl, -, -, -, -⟩ := hSl
    clear hat hL hT hb1 hb1'
    go_wp2_with fail
    refine (own_any (yv, yn) l _ _ HSl.out (atT_narrow hl Hn.out Hat.out).1 (atT_narrow hl Hn.out Hat.out).2).mono ?_
    rintro e w2 ⟨a', rfl, hO2, hb2⟩
    have r0' := grow_cell hb2 _ _ r0
    have r1' := grow_cell hb2 _ _ r1
    have r2' := grow_cell hb2 _ _ r2
    have z0' : ∀ i, w2.frozen? ⟨w.heap.size + 1, i, none⟩ = false := fun i => by rw [hb2.frozen (by show w.heap.size + 1 < _; omega)]; exact z0 i
    have hza : ∃ za zl zc, a' = .slice za zl zc := by
      rcases hO2 with ⟨_, rfl⟩ | ⟨g, _, _, _, _, rfl, _⟩
      · exact ⟨_, _, _, rfl⟩
      · exact ⟨_, _, _, rfl⟩
    obtain ⟨za, zl, zc, hza⟩ := hza
    subst hza
    have HO2 := hide hO2
    have hB2 := below_step hBw hb2
    clear hO2 r0 r1 r2 z0
    go_wp2_with fail
    refine bodyPost_ret (v := .tuple #[.agg #[.bool yv, .int .i64 yn, .slice za zl zc], .bool true]) (by simp [results, Tryd.results25, go_sem, r0', r1', r2']) rfl ⟨?_, .inr ⟨(yv, yn), l, _, Hat.out, rfl, ?_⟩⟩
    · exact ((hB2.setCell (by simp) _).setCell (by simp) _).setCell (by simp) _
    · refine OwnV.toB (lo := w1.heap.size) (hi := w2.heap.size) (fun q q1 q2 => ⟨by omega, by simp [World.setCell]; exact q2⟩) (HO2.out.frame fun q i q1 q2 => ?_)
      exact ⟨set3_other (w := w2) (b := w.heap.size + 1) (o := 0) (.inl (by omega)), by simp⟩

theorem Loc.below {w w' : World} (hb : Below w.heap.size w w') : ∀ {p : List Int} {b o c d : Nat}, Loc w p b o c d → Loc w' p b o c d
  | [], _, _, _, _, h => h
  | _ :: _, _, _, _, _, ⟨g, off, len, cap, h1, h2, h3, h4⟩ => ⟨g, off, len, cap, grow_cell hb _ _ h1, h2, h3, Loc.below hb h4⟩

/-- The end of Put: three cells written at a place, and what is then there. -/
theorem put_end {w7 w' : World} {p : List Int} {x : Bool × Int} {k : Fo} {y : Bool × Int} {l : Fo} {z : (Bool × Int) × Fo} {a b : Value} {B lo hi lo2 hi2 c d : Nat} {X0 X1 X2 : Value} {X : Nat → Prop}
    (hX : ∀ q, lo ≤ q → q < hi → X q) (hX2 : ∀ q, lo2 ≤ q → q < hi2 → X q) (t0 : w7.cell? ⟨B, 0, none⟩ = some (.bool x.1)) (t1 : w7.cell? ⟨B, 1, none⟩ = some (.int .i64 x.2)) (t2 : w7.cell? ⟨B, 2, none⟩ = some a) (hO : OwnV w7 lo hi k a) (hB : hi ≤ B) (hlB : lo ≤ B) (hat : atT p x k = some z) (hL : Loc w7 p B 0 c d)
    (hO2 : OwnV w7 lo2 hi2 l b) (hlo : B < lo2) (hc : c ≤ B)
    (g0 : w'.cell? ⟨c, d, none⟩ = some (.bool y.1)) (g1 : w'.cell? ⟨c, d + 1, none⟩ = some (.int .i64 y.2)) (g2 : w'.cell? ⟨c, d + 2, none⟩ = some b)
    (hk : ∀ q i, lo ≤ q → (q ≠ c ∨ i < d ∨ d + 3 ≤ i) → w'.cell? ⟨q, i, none⟩ = w7.cell? ⟨q, i, none⟩) (hf : ∀ q i, w'.frozen? ⟨q, i, none⟩ = w7.frozen? ⟨q, i, none⟩)
    (e0 : w'.cell? ⟨B, 0, none⟩ = some X0) (e1 : w'.cell? ⟨B, 1, none⟩ = some X1) (e2 : w'.cell? ⟨B, 2, none⟩ = some X2) :
    X0 = .bool (putT p (x, k) (y, l)).1.1 ∧ X1 = .int .i64 (putT p (x, k) (y, l)).1.2 ∧ SB X w' (putT p (x, k) (y, l)).2 X2 := by
  obtain ⟨h0, h1, v, h2, h3⟩ := (put_root (X := X) (w := w7) (w' := w') (u := (y, l)) p x k B 0 a lo hi c d z t0 t1 t2 hO (.inr hB) hX hat hL ⟨fun q i hS hq => hk q i (by omega) hq, hf⟩ ⟨g0, g1, b, g2, 
    OwnV.toB (lo := lo2) (hi := hi2) hX2 (hO2.frame fun q i q1 q2 => ⟨hk q i (by omega) (.inl (by omega)), hf q i⟩)⟩).1
  simp only [Nat.zero_add] at h0 h1 h2
  rw [e0] at h0; rw [e1] at h1; rw [e2] at h2
  exact ⟨Option.some.inj h0, Option.some.inj h1, by rw [Option.some.inj h2]; exact h3⟩

set_option maxHeartbeats 2000000 in
theorem put_any (x : Bool × Int) (k : Fo) (a : Value) (p : List Int) (pv : Value) (y : Bool × Int) (l : Fo) (c : Value) (w : World) (hS : SIn w k a) (hN : NIn w p pv) (hS2 : SIn w l c)
    (hl : Fo.len k ≤ 1000) (hn : Fo.narrow k) (hl2 : Fo.len l ≤ 1000) (hn2 : Fo.narrow l) :
    Calls Tryd.prog 27 #[.agg #[.bool x.1, .int .i64 x.2, a], pv, .agg #[.bool y.1, .int .i64 y.2, c]] w fun e w' => Below w.heap.size w w' ∧
      ∃ a', e = .returned (.agg #[.bool (putT p (x, k) (y, l)).1.1, .int .i64 (putT p (x, k) (y, l)).1.2, a']) ∧ SB (New w w') w' (putT p (x, k) (y, l)).2 a' := by
  obtain ⟨v, n⟩ := x
  obtain ⟨yv, yn⟩ := y
  have HS := hide hS
  have HS2 := hide hS2
  have HN := hide hN
  have Hn := hide hn
  have Hn2 := hide hn2
  obtain ⟨ad, cc, b, o, rfl, -, -, -, -⟩ := hS
  obtain ⟨ad2, c2, b2, o2, rfl, -, -, -, -⟩ := hS2
  obtain ⟨pa, pc, pb, po, rfl, -, -, -, -⟩ := hN
  clear hn hn2
  go_enter Tryd.func27, Tryd.ntmps27
  go_wp2_with fail
  generalize hW3 : ((w.alloc (.cells #[.bool v, .int .i64 n, .slice ad (Fo.len k) cc] 26)).alloc (.cells #[.bool yv, .int .i64 yn, .slice ad2 (Fo.len l) c2] 26)).alloc (.cells #[.bool false, .int .i64 0, .slice none 0 0] 26) = W3
  have hs3 : W3.heap.size = w.heap.size + 3 := by rw [← hW3]; simp
  have hB3 : Below w.heap.size w W3 := by rw [← hW3]; exact ((below_alloc _ _).alloc (by simp) _).alloc (by simp; omega) _
  have q0 : W3.cell? ⟨w.heap.size + 1, 0, none⟩ = some (.bool yv) := by rw [← hW3, World.cell?_alloc_lt _ _ _ (by simp)]; simp
  have q1 : W3.cell? ⟨w.heap.size + 1, 1, none⟩ = some (.int .i64 yn) := by rw [← hW3, World.cell?_alloc_lt _ _ _ (by simp)]; simp
  have q2 : W3.cell? ⟨w.heap.size + 1, 2, none⟩ = some (.slice ad2 (Fo.len l) c2) := by rw [← hW3, World.cell?_alloc_lt _ _ _ (by simp)]; simp
  have r0 : W3.cell? ⟨w.heap.size + 1 + 1, 0, none⟩ = some (.bool false) := by rw [← hW3, World.cell?_alloc_at _ _ _ _ (by simp)]; rfl
  have r1 : W3.cell? ⟨w.heap.size + 1 + 1, 1, none⟩ = some (.int .i64 0) := by rw [← hW3, World.cell?_alloc_at _ _ _ _ (by simp)]; rfl
  have r2 : W3.cell? ⟨w.heap.size + 1 + 1, 2, none⟩ = some (.slice none 0 0) := by rw [← hW3, World.cell?_alloc_at _ _ _ _ (by simp)]; rfl
  have z0 : ∀ i, W3.frozen? ⟨w.heap.size + 1 + 1, i, none⟩ = false := fun i => by rw [← hW3, World.frozen?_alloc_at _ _ _ _ (by simp)]
  clear hW3
  refine (own_any (v, n) k _ _ (HS.out.below hB3) hl Hn.out).mono ?_
  rintro e w4 ⟨a1, rfl, hO4, hb4⟩
  have hs4 := hb4.size
  have hza : ∃ za zl zc, a1 = .slice za zl zc := by
    rcases hO4 with ⟨_, rfl⟩ | ⟨g, _, _, _, _, rfl, _⟩
    · exact ⟨_, _, _, rfl⟩
    · exact ⟨_, _, _, rfl⟩
  obtain ⟨za, zl, zc, hza⟩ := hza
  subst hza
  have hB4 := below_step hB3 hb4
  have HO4 := hide hO4
  clear hO4
  go_wp2_with fail
  refine (find_any (v, n) k w4.heap.size 0 p _ _ (tin_box HO4.out.toS) ((HN.out.below hB4).alloc _)).mono ?_
  rintro e w6 ⟨hb6, h6⟩
  have hb6' : Below (w4.heap.size + 1) (w4.alloc (.cells #[.bool v, .int .i64 n, .slice za zl zc] 26)) w6 := by simpa using hb6
  obtain ⟨t0, t1, t2, hb46, hs6⟩ := box_cells hb6'
  have hB6 := below_step hB4 hb46
  have hb36 := below_step hb4 hb46
  have q0' := grow_cell hb36 _ _ q0
  have q1' := grow_cell hb36 _ _ q1
  have q2' := grow_cell hb36 _ _ q2
  have r0' := grow_cell hb36 _ _ r0
  have r1' := grow_cell hb36 _ _ r1
  have r2' := grow_cell hb36 _ _ r2
  have z0' : ∀ i, w6.frozen? ⟨w.heap.size + 1 + 1, i, none⟩ = false := fun i => by rw [hb36.frozen (by show w.heap.size + 1 + 1 < _; omega)]; exact z0 i
  have HO6 : Hid (OwnV w6 W3.heap.size w4.heap.size k (.slice za zl zc)) := HO4.out.frame fun q i _ q2 => ⟨hb46.cell q2, hb46.frozen q2⟩
  have f6 : ∀ i, w6.frozen? ⟨w4.heap.size, i, none⟩ = false := fun i => by rw [hb6'.frozen (by simp)]; simp
  clear q0 q1 q2 r0 r1 r2 z0
  rcases h6 with ⟨hat, rfl⟩ | ⟨cb, co, zy, zl', hat, rfl, hL, hT⟩
  · have Hput : Hid (putT p ((v, n), k) ((yv, yn), l) = ((v, n), k)) := putT_none hat
    clear hat hb6 hb6'
    go_wp2_with fail
    rw [Hput.out]
    refine bodyPost_ret (v := .agg #[.bool v, .int .i64 n, .slice za zl zc]) (by simp [results, Tryd.results27, go_sem, r0', r1', r2']) rfl ⟨?_, _, rfl, ?_⟩
    · exact ((hB6.setCell (by simp; omega) _).setCell (by simp; omega) _).setCell (by simp; omega) _
    · refine OwnV.toB (lo := W3.heap.size) (hi := w4.heap.size) (fun q q1 q2 => ⟨by omega, by simp [World.setCell]; omega⟩) (HO6.out.frame fun q i q1 q2 => ?_)
      exact ⟨set3_other (w := w6) (b := w.heap.size + 1 + 1) (o := 0) (.inl (by omega)), by simp⟩
  · have Hat := hide hat
    have hO5 : OwnV (w4.alloc (.cells #[.bool v, .int .i64 n, .slice za zl zc] 26)) W3.heap.size w4.heap.size k (.slice za zl zc) := HO4.out.frame fun q i _ q2 => ⟨(below_alloc _ _).cell q2, (below_alloc _ _).frozen q2⟩
    obtain ⟨g0, g1, g2, hloc⟩ := loc_free p (v, n) k w4.heap.size 0 _ _ _ cb co _ (by simp) (by simp) (by simp) (by simp) hO5 hat hL
    have hcb : cb < w4.heap.size + 1 := by omega
    obtain ⟨d0, d1, d2v, d2, -⟩ := hT.below hb6
    have d0f : w6.frozen? ⟨cb, co, none⟩ = false := (hb6'.frozen hcb).trans g0
    have d1f : w6.frozen? ⟨cb, co + 1, none⟩ = false := (hb6'.frozen hcb).trans g1
    have d2f : w6.frozen? ⟨cb, co + 2, none⟩ = false := (hb6'.frozen hcb).trans g2
    have HL := hide hL
    have HO5 := hide hO5
    have Hhb6 := hide hb6'
    clear hat hL hT hb6 hb6' g0 g1 g2 hO5
    go_wp2_with fail
    refine (own_any (yv, yn) l _ _ (HS2.out.below hB6) hl2 Hn2.out).mono ?_
    rintro e w7 ⟨a2, rfl, hO7, hb7⟩
    have hza2 : ∃ za zl zc, a2 = .slice za zl zc := by
      rcases hO7 with ⟨_, rfl⟩ | ⟨g, _, _, _, _, rfl, _⟩
      · exact ⟨_, _, _, rfl⟩
      · exact ⟨_, _, _, rfl⟩
    obtain ⟨ya, yl, yc, hza2⟩ := hza2
    subst hza2
    have HO7 := hide hO7
    have hB7 := below_step hB6 hb7
    have hs7 := hb7.size
    have u0 := grow_cell hb7 _ _ d0
    have u1 := grow_cell hb7 _ _ d1
    have u2 := grow_cell hb7 _ _ d2
    have u0f : w7.frozen? ⟨cb, co, none⟩ = false := (hb7.frozen (by show cb < _; omega)).trans d0f
    have u1f : w7.frozen? ⟨cb, co + 1, none⟩ = false := (hb7.frozen (by show cb < _; omega)).trans d1f
    have u2f : w7.frozen? ⟨cb, co + 2, none⟩ = false := (hb7.frozen (by show cb < _; omega)).trans d2f
    have HX := hide (And.intro (grow_cell hb7 _ _ t0) (And.intro (grow_cell hb7 _ _ t1) (grow_cell hb7 _ _ t2)))
    have HR := hide (And.intro (grow_cell hb7 _ _ r0') (And.intro (grow_cell hb7 _ _ r1') (grow_cell hb7 _ _ r2')))
    have HZ : Hid (∀ i, w7.frozen? ⟨w.heap.size + 1 + 1, i, none⟩ = false) := fun i => by rw [hb7.frozen (by show w.heap.size + 1 + 1 < _; omega)]; exact z0' i
    have Hhb7 := hide hb7
    have HO77 : OwnV w7 W3.heap.size w4.heap.size k (.slice za zl zc) := HO6.out.frame fun q i _ q2 => ⟨hb7.cell (by show q < _; omega), hb7.frozen (by show q < _; omega)⟩
    have hL7 : Loc w7 p w4.heap.size 0 cb co := Loc.below (Hhb6.out.trans (hb7.mono (by omega)) |> fun h => by simpa using h) HL.out
    have Hend := hide (fun (w' : World) X0 X1 X2 => put_end (w' := w') (y := (yv, yn)) (l := l) (X0 := X0) (X1 := X1) (X2 := X2) (X := New w w7) (fun q q1 q2 => ⟨by omega, by omega⟩) (fun q q1 q2 => ⟨by omega, q2⟩) HX.out.1 HX.out.2.1 HX.out.2.2 HO77 (Nat.le_refl _) (by omega) Hat.out hL7 HO7.out (by omega) (by omega))
    obtain ⟨m0, m1, m2⟩ := HX.out
    obtain ⟨k0, k1, k2⟩ := HR.out
    have k3 := HZ.out
    clear d0 d1 d2 d0f d1f d2f q0' q1' q2' t0 t1 t2 r0' r1' r2' z0' f6 hO7 hb7 hb36 hb46 hL7 HO77 HX HR HZ
    have Hfz : Hid (∀ (x y z x' y' z' : Value) q i, (set3 (set3 w7 cb co x y z) (w.heap.size + 1 + 1) 0 x' y' z').frozen? ⟨q, i, none⟩ = w7.frozen? ⟨q, i, none⟩) := fun _ _ _ _ _ _ q i => by rw [set3_frozen, set3_frozen]
    have Hkp : Hid (∀ (x y z x' y' z' : Value) q i, W3.heap.size ≤ q → (q ≠ cb ∨ i < co ∨ co + 3 ≤ i) → (set3 (set3 w7 cb co x y z) (w.heap.size + 1 + 1) 0 x' y' z').cell? ⟨q, i, none⟩ = w7.cell? ⟨q, i, none⟩) := fun _ _ _ _ _ _ q i h1 h2 => by rw [set3_other (.inl (by omega)), set3_other h2]
    have Hg : Hid (∀ (x y z x' y' z' : Value) i, (set3 (set3 w7 cb co x y z) (w.heap.size + 1 + 1) 0 x' y' z').cell? ⟨cb, i, none⟩ = (set3 w7 cb co x y z).cell? ⟨cb, i, none⟩) := fun _ _ _ _ _ _ i => by rw [set3_other (.inl (by omega))]
    have Hg3 := hide (fun (x y z : Value) => set3_cells (x := x) (y := y) (z := z) u0 u1 u2)
    rcases hloc with ⟨rfl, rfl⟩ | ⟨hc1, hc2⟩
    · clear hB3 hb4 hB4
      go_wp2_with fail
      obtain ⟨s0, s1, s2⟩ := Hg3.out (.bool yv) (.int .i64 yn) (.slice ya yl yc)
      have hE := Hend.out (set3 (set3 w7 w4.heap.size 0 (.bool yv) (.int .i64 yn) (.slice ya yl yc)) (w.heap.size + 1 + 1) 0 (.bool yv) (.int .i64 yn) (.slice ya yl yc)) (.bool yv) (.int .i64 yn) (.slice ya yl yc)
        ((Hg.out _ _ _ _ _ _ _).trans s0) ((Hg.out _ _ _ _ _ _ _).trans s1) ((Hg.out _ _ _ _ _ _ _).trans s2) (Hkp.out _ _ _ _ _ _) (Hfz.out _ _ _ _ _ _) ((Hg.out _ _ _ _ _ _ _).trans s0) ((Hg.out _ _ _ _ _ _ _).trans s1) ((Hg.out _ _ _ _ _ _ _).trans s2)
      refine bodyPost_ret (v := .agg #[.bool yv, .int .i64 yn, .slice ya yl yc]) (by simp [results, Tryd.results27, go_sem, k0, k1, k2]) rfl ⟨?_, _, ?_, hE.2.2.frame (fun q hq => ⟨hq.1, by have := hq.2; simp [World.setCell]; exact this⟩) (fun _ _ _ => rfl)⟩
      · exact set3_below (set3_below hB7 (by omega)) (by omega)
      · rw [← hE.1, ← hE.2.1]
    · have hne : ¬ cb = w4.heap.size := by omega
      have hne2 : ¬ cb = w.heap.size + 1 + 1 := by omega
      clear hB3 hb4 hB4
      go_wp2_with fail
      obtain ⟨s0, s1, s2⟩ := Hg3.out (.bool yv) (.int .i64 yn) (.slice ya yl yc)
      have hE := Hend.out (set3 (set3 w7 cb co (.bool yv) (.int .i64 yn) (.slice ya yl yc)) (w.heap.size + 1 + 1) 0 (.bool v) (.int .i64 n) (.slice za zl zc)) (.bool v) (.int .i64 n) (.slice za zl zc)
        ((Hg.out _ _ _ _ _ _ _).trans s0) ((Hg.out _ _ _ _ _ _ _).trans s1) ((Hg.out _ _ _ _ _ _ _).trans s2) (Hkp.out _ _ _ _ _ _) (Hfz.out _ _ _ _ _ _)
        ((Hkp.out _ _ _ _ _ _ _ _ (by omega) (.inl (by omega))).trans m0) ((Hkp.out _ _ _ _ _ _ _ _ (by omega) (.inl (by omega))).trans m1) ((Hkp.out _ _ _ _ _ _ _ _ (by omega) (.inl (by omega))).trans m2)
      refine bodyPost_ret (v := .agg #[.bool v, .int .i64 n, .slice za zl zc]) (by simp [results, Tryd.results27, go_sem, k0, k1, k2]) rfl ⟨?_, _, ?_, hE.2.2.frame (fun q hq => ⟨hq.1, by have := hq.2; simp [World.setCell]; exact this⟩) (fun _ _ _ => rfl)⟩
      · exact set3_below (set3_below hB7 (by omega)) (by omega)
      · rw [← hE.1, ← hE.2.1]

end Go.Proofs.YtegdfnfengnjlaaDoor
