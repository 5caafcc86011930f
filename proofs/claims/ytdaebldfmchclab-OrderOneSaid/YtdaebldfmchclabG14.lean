/- What a term is by bindings: the document's Apply. -/
import Derived.Test.YtdaebldfmchclabG12
import Derived.Deep.RegionLaw
import Derived.Test.YtdaebldfmchclabG13
import Derived.Test.YtdaebldfmchclabG09
namespace Go.Proofs.Ytdaebldfmchclab
open Go.RowKit Go.Deep Go.ChangeShapes Go.WideShapes
attribute [local go_sem ↓] Go.wp_at_zero Go.wp_at_succ

theorem fo_snoc : ∀ {T : Fo} {j : Nat} {x : Bool × Int} {k : Fo}, Fo.ok T → T.list[j]? = some (x, k) → Fo.snoc (Fo.take j T) x k = Fo.take (j + 1) T
  | .nil, _, _, _, _, h => by simp [Fo.list] at h
  | .node p q y l r, 0, x, k, hT, h => by
    simp only [Fo.list, List.getElem?_cons_zero, Option.some.injEq, Prod.mk.injEq] at h
    obtain ⟨rfl, rfl⟩ := h
    rw [ok_node] at hT
    obtain ⟨rfl, rfl, _, _⟩ := hT
    rfl
  | .node p q y l r, j + 1, x, k, hT, h => by
    rw [ok_node] at hT
    have := fo_snoc (T := r) (j := j) hT.2.2.2 (by simpa [Fo.list] using h)
    rw [Fo.take, Fo.snoc, this, Fo.take]

/-- So far: the answer's first j terms stand in the row whose head lies in the box B. -/
def AppRel (B : Nat) (W2 : World) (X : Nat → Prop) (T : Fo) (xn : Int) (j : Nat) (wr : World) : Prop :=
  ∃ (v : Value) (xs : List Value), wr.ownsRow (B + 1) 26 3 v j xs ∧ CellsOf (Rm B X wr v) wr (Fo.take j T) xs ∧
    wr.cell? ⟨B, 0, none⟩ = some (.bool false) ∧ wr.cell? ⟨B, 1, none⟩ = some (.int .i64 xn) ∧ wr.cell? ⟨B, 2, none⟩ = some v ∧ (∀ i, wr.frozen? ⟨B, i, none⟩ = false) ∧ Below B W2 wr

theorem app_next {B : Nat} {W2 wr w1 w3 : World} {X : Nat → Prop} {T : Fo} {xn : Int} {j : Nat} {v v' a : Value} {z : Bool × Int} {r : Fo} {g cap : Nat} {xs : List Value} {ob : Obj} (hT : Fo.ok T)
    (h1 : wr.ownsRow (B + 1) 26 3 v j xs) (h2 : CellsOf (Rm B X wr v) wr (Fo.take j T) xs) (hX : ∀ q, X q → q < B)
    (q0 : wr.cell? ⟨B, 0, none⟩ = some (.bool false)) (q1 : wr.cell? ⟨B, 1, none⟩ = some (.int .i64 xn)) (q2 : wr.cell? ⟨B, 2, none⟩ = some v) (qf : ∀ i, wr.frozen? ⟨B, i, none⟩ = false)
    (hB3 : Below B W2 wr) (hb : Below wr.heap.size wr w1) (hk : SB (fun q => X q ∨ (wr.heap.size ≤ q ∧ q < w1.heap.size)) w1 r a) (hTj : T.list[j]? = some (z, r))
    (hv' : v' = .slice (some ⟨g, 0, none⟩) (j + 1) cap) (ho : w3.ownsRow (B + 1) 26 3 v' (j + 1) (xs ++ [.bool z.1, .int .i64 z.2, a])) (hg : (w1.alloc ob).grownBy w3 v.ownBlock)
    (hat : v.ownBlock = some g ∨ g = w1.heap.size + 1) (hlt : g < w3.heap.size) : AppRel B W2 X T xn (j + 1) (w3.setCell ⟨B, 2, none⟩ v') := by
  have hBl : B < wr.heap.size := World.block_lt_of_cell? _ _ q0
  have hjl : j < Fo.len T := by
    rw [← Fo.len_list]
    rcases Nat.lt_or_ge j T.list.length with h | h
    · exact h
    · rw [List.getElem?_eq_none h] at hTj; cases hTj
  have hlj : Fo.len (Fo.take j T) = j := take_len j T (by omega)
  have hlj1 : Fo.len (Fo.take (j + 1) T) = j + 1 := take_len (j + 1) T (by omega)
  obtain ⟨r1, r2, r3, r4, r5, r6, r7⟩ := row_step (B := B) (X := X) (acc := Fo.take j T) (x := z) (k := r) (g := g) (cap := cap) (v' := v') (by rw [hlj]; exact h1) h2 hX hBl ⟨_, q2⟩ hb.size (fun q _ hq => hb.block q hq) hk (by rw [hlj]; exact hv') (by rw [hlj]; exact ho) hg hat hlt
  rw [fo_snoc hT hTj] at r1 r2
  rw [hlj1] at r1
  refine ⟨v', _, r1, r2, (r5 0 (by omega)).trans q0, (r5 1 (by omega)).trans q1, r3, fun i => (r6 i).trans (qf i), ?_⟩
  have hb1 : Below B W2 w1 := hB3.trans (hb.mono (by omega))
  have hb2 : Below B W2 (w1.alloc ob) := hb1.alloc (by have := hb.size; omega) _
  exact (hb2.grown hg (by simp; have := hb.size; omega) (fun q hq => by have := (owns_at h1 q hq).1; omega)).setCell (Nat.le_refl _) _

theorem app_zero {w0 : World} {X : Nat → Prop} {T : Fo} {xn : Int} {B : Nat} (hB : w0.heap.size = B) : AppRel B w0 X T xn 0 (w0.alloc (.cells #[.bool false, .int .i64 xn, .slice none 0 0] 26)) :=
  ⟨.slice none 0 0, [], ⟨rfl, .inl ⟨rfl, rfl⟩⟩, rfl, new_cell hB, new_cell hB, new_cell hB, fun _ => new_frozen hB, (Below.refl _ _).alloc (by omega) _⟩

theorem app_end {B : Nat} {W2 wr : World} {X : Nat → Prop} {T : Fo} {xn : Int} (h : AppRel B W2 X T xn (Fo.len T) wr) :
    ∃ z1 z3, wr.cell? ⟨B, 2, none⟩ = some (.slice z1 (Fo.len T) z3) ∧ SB (fun q => X q ∨ (B + 1 ≤ q ∧ q < wr.heap.size)) wr T (.slice z1 (Fo.len T) z3) := by
  obtain ⟨v, xs, h1, h2, _, _, q2, _, _⟩ := h
  rw [take_all] at h2
  obtain ⟨z1, z3, rfl⟩ := slice_of_owns h1
  exact ⟨z1, z3, q2, row_sb h1 h2 (fun q hq => by rcases hq with h | h; exact .inl h; exact .inr ⟨h.1, h.2.1⟩) (fun g hg => .inr (owns_at h1 g hg))⟩

def ApplyRSaid (x : Bool × Int) (k : Fo) : Prop := ∀ (s : Sb) (vs : Value) (W0 : World) (a : Value) (w : World), Below W0.heap.size W0 w → SubIn W0 s vs → (∀ p ∈ s, okT p.2) → SIn W0 k a → okT (x, k) → narT (x, k) →
    Calls Try.prog 14 #[vs, .agg #[.bool x.1, .int .i64 x.2, a]] w fun e w' => ∃ (a1 : Option Addr) (a2 a3 : Nat), e = .returned (.agg #[.bool (subT (bnd s) (x, k)).1.1, .int .i64 (subT (bnd s) (x, k)).1.2, .slice a1 a2 a3]) ∧
      SB (fun q => q < W0.heap.size ∨ (w.heap.size ≤ q ∧ q < w'.heap.size)) w' (subT (bnd s) (x, k)).2 (.slice a1 a2 a3) ∧ Below w.heap.size w w'

set_option maxRecDepth 100000 in
set_option maxHeartbeats 2000000 in
theorem applyR_any (x : Bool × Int) (k : Fo) : ApplyRSaid x k := by
  refine Fo.ind1 (p := ApplyRSaid) ?_ x k
  clear x k
  intro x k ih s vs W0 a w hW hV hs hS hok hnar
  obtain ⟨v, n⟩ := x
  have HI := hide ih
  have HW := hide hW
  have HV := hide hV
  have Hs := hide hs
  have Hok := hide hok
  have Hnar := hide hnar
  have HS := hide hS
  obtain ⟨ad, ac, b, o, rfl, had, hlc, hcm, hF⟩ := hS
  obtain ⟨vd, vc, vb, vo, rfl, hvd, hvlc, hvcm, hP⟩ := hV
  have HF := hide hF
  have HP := hide hP
  have hW0 := hW.size
  unfold maxLen at hcm hvcm
  clear ih hs hok hF hP hW
  cases v
  · have Hres : Hid (subT (bnd s) ((false, n), k) = ((false, n), subF (bnd s) k)) := rfl
    have HTok : Hid (Fo.ok (subF (bnd s) k)) := subF_ok (bnd_ok Hs.out) k
    have Hl := hide (Fo.len_list k)
    have Hl2 := hide (subF_len (bnd s) k)
    have hlen : Fo.len k ≤ 1000 := hnar.1
    clear hnar hvd
    go_enter Try.func14, Try.ntmps14
    go_wp2_with fail
    generalize hW2 : (w.alloc (.cells #[.bool false, .int .i64 n, .slice ad (Fo.len k) ac] 26)).alloc (.cells #[.bool false, .int .i64 0, .slice none 0 0] 26) = W2
    have hs2 : W2.heap.size = w.heap.size + 1 + 1 := by rw [← hW2]; simp
    have hB2 : Below w.heap.size w W2 := by rw [← hW2]; exact (below_alloc _ _).alloc (by simp) _
    have r0 : W2.cell? ⟨w.heap.size + 1, 0, none⟩ = some (.bool false) := by rw [← hW2]; exact new_cell (World.size_alloc _ _)
    have r1 : W2.cell? ⟨w.heap.size + 1, 1, none⟩ = some (.int .i64 0) := by rw [← hW2]; exact new_cell (World.size_alloc _ _)
    have r2 : W2.cell? ⟨w.heap.size + 1, 2, none⟩ = some (.slice none 0 0) := by rw [← hW2]; exact new_cell (World.size_alloc _ _)
    have rf : ∀ i, W2.frozen? ⟨w.heap.size + 1, i, none⟩ = false := fun i => by rw [← hW2]; exact new_frozen (World.size_alloc _ _)
    have HQ := hide (And.intro r0 (And.intro r1 (And.intro r2 rf)))
    have HB2 := hide hB2
    have Hs2 := hide hs2
    have H0 : Hid (AppRel (w.heap.size + 1 + 1) W2 (fun q => q < W0.heap.size) (subF (bnd s) k) n 0 (W2.alloc (.cells #[.bool false, .int .i64 n, .slice none 0 0] 26))) := app_zero hs2
    clear r0 r1 r2 rf hB2 hs2 hW2
    go_loopw [33] (fun i wr => ∃ j : Nat, j ≤ Fo.len k ∧ i = .int .i64 j ∧ AppRel (w.heap.size + 1 + 1) W2 (fun q => q < W0.heap.size) (subF (bnd s) k) n j wr) (fun i _ => Fo.len k - (intOf i).toNat)
    case atStart => exact ⟨0, Nat.zero_le _, rfl, H0.out⟩
    case round =>
      obtain ⟨j, hj, rfl, hR⟩ := hrel
      have HR := hide hR
      obtain ⟨vr', xs, h1, h2, q0, q1, q2, qf, hB⟩ := hR
      have H1 := hide h1
      have H2 := hide h2
      have HB := hide hB
      have Hqf := hide qf
      have hs2 := Hs2.out
      have hBw : Below w.heap.size w wr := HB2.out.trans (hB.mono (by omega))
      have hB0 : Below W0.heap.size W0 wr := HW.out.trans (hBw.mono hW0)
      have hBlt : w.heap.size + 1 + 1 < wr.heap.size := World.block_lt_of_cell? _ _ q0
      obtain ⟨z1, z3, rfl⟩ := slice_of_owns h1
      clear H0 h1 h2 hB
      by_cases hlt : j < Fo.len k
      · have hlt' : (j : Int) < (Fo.len k : Int) := by omega
        have had' : ad = some ⟨b, o, none⟩ := had (by omega)
        subst had'
        obtain ⟨⟨⟨ev, en⟩, ek⟩, hy⟩ : ∃ y, k.list[j]? = some y := ⟨k.list[j]'(by rw [Hl.out]; exact hlt), by simp⟩
        obtain ⟨c0, c1, yv', c2, hSy⟩ := HF.out.at hy
        have c0' := grow_cell hB0 _ _ c0
        have c1' := grow_cell hB0 _ _ c1
        have c2' := grow_cell hB0 _ _ c2
        have HSy := hide hSy
        obtain ⟨ya, yc, yb, yo, rfl, -, -, -, -⟩ := hSy
        have Hy := hide hy
        have Hy2 : Hid ((subF (bnd s) k).list[j]? = some (subT (bnd s) ((ev, en), ek))) := by rw [Hid, subF_list, List.getElem?_map, hy]; rfl
        obtain ⟨⟨⟨xv, xn⟩, xk⟩, hz⟩ : ∃ z, z = subT (bnd s) ((ev, en), ek) := ⟨_, rfl⟩
        have Hz := hide hz
        have Hoke : Hid (okT ((ev, en), ek)) := ok_mem Hok.out.2 (List.mem_of_getElem? hy)
        have Hnare : Hid (narT ((ev, en), ek)) := nar_mem Hnar.out.2 (List.mem_of_getElem? hy)
        clear hy had c0 c1 c2 hz
        obtain ⟨i26, hi26, hz0, hz1, hz2⟩ := info_parts Try.info26
        have hn1 : j + 1 ≤ maxLen := by unfold maxLen; omega
        have hn2 : (j + 1) * 40 ≤ 140737488355328 := by omega
        go_upto_region 13 with fail
        generalize hwa : wr.alloc (.cells #[.bool ev, .int .i64 en, .slice ya (Fo.len ek) yc] 26) = wa
        have e0 : wa.cell? ⟨wr.heap.size, 0, none⟩ = some (.bool ev) := by rw [← hwa]; exact new_cell rfl
        have e1 : wa.cell? ⟨wr.heap.size, 1, none⟩ = some (.int .i64 en) := by rw [← hwa]; exact new_cell rfl
        have e2 : wa.cell? ⟨wr.heap.size, 2, none⟩ = some (.slice ya (Fo.len ek) yc) := by rw [← hwa]; exact new_cell rfl
        have hba : Below wr.heap.size wr wa := by rw [← hwa]; exact below_alloc _ _
        have f2 := grow_cell hba _ _ q2
        have ff : ∀ i, wa.frozen? ⟨w.heap.size + 1 + 1, i, none⟩ = false := fun i => (hba.frozen hBlt).trans (Hqf.out i)
        have hBa : w.heap.size + 1 + 1 < wa.heap.size := Nat.lt_of_lt_of_le hBlt hba.size
        have Hno : Hid (some (w.heap.size + 1 + 1) ≠ (Value.slice z1 j z3).ownBlock) := fun e => by have := (owns_at H1.out _ e.symm).1; omega
        have hcall : Calls Try.prog 14 #[.slice vd s.length vc, .agg #[.bool ev, .int .i64 en, .slice ya (Fo.len ek) yc]] wa.drew fun e w' => ∃ (a1 : Option Addr) (a2 a3 : Nat), e = .returned (.agg #[.bool xv, .int .i64 xn, .slice a1 a2 a3]) ∧ SB (fun q => q < W0.heap.size ∨ (wa.heap.size ≤ q ∧ q < w'.heap.size)) w' xk (.slice a1 a2 a3) ∧ Below wa.heap.size wa w' := by
          refine (HI.out ((ev, en), ek) (List.mem_of_getElem? Hy.out) s _ W0 _ wa.drew ?_ HV.out Hs.out HSy.out Hoke.out Hnare.out).mono ?_
          · exact (hB0.trans (hba.mono hB0.size)).trans (Below.refl _ _).drew
          · rintro e w' ⟨a1, a2, a3, rfl, hk, hb⟩
            rw [← Hz.out] at hk ⊢
            exact ⟨a1, a2, a3, rfl, hk, (Below.refl _ _).drew.trans hb⟩
        have Hcall := hide hcall
        have Hba := hide hba
        clear hcall hwa c0' c1' c2' hba q2 qf
        go_region_law (first
          | (refine step_append_lies _ (by rfl) _ _ _ (by rfl) (w.heap.size + 1 + 1 + 1) 26 i26 (.agg #[.bool false, .int .i64 0, .slice none 0 0]) 3 40 Try.underlying24 hi26 hz0 hz1 hz2 rfl (by decide) (.slice z1 j z3) j xs (by rfl) Hown3.out ⟨w3.heap.size, 0, none⟩ 1 1 [.bool xv, .int .i64 xn, .slice a1 a2 a3] (by rfl) (by rfl) Hnews.out (by simp [Value.oneCell']) (by decide) hn1 hn2 (by simp; omega) (w3.heap.size + 1) (by simp) ?_; intro g cap w4 ho4 hg4 hat4 hlt4; have x2 := out_cell hg4 hB3 Hno.out g3; have xf := out_frozen hg4 hB3 Hno.out gf3)
          | (go_simp; go_at_call 14; refine Hcall.out.mono ?_; rintro e w3 ⟨a1, a2, a3, rfl, hk3, hb3⟩
             have hs3 := hb3.size; have g3 := grow_cell hb3 _ _ f2; have gf3 : ∀ i, w3.frozen? ⟨w.heap.size + 1 + 1, i, none⟩ = false := (fun i => (hb3.frozen hBa).trans (ff i)); have hB3 : w.heap.size + 1 + 1 < w3.heap.size := Nat.lt_of_lt_of_le hBa hs3
             have Hown3 : Hid ((w3.alloc (.cells #[.bool xv, .int .i64 xn, .slice a1 a2 a3] 26)).ownsRow (w.heap.size + 1 + 1 + 1) 26 3 (.slice z1 j z3) j xs) := (owns_keep H1.out (fun g hg => by have h := owns_at H1.out g hg; have hsz := Hba.out.size; rw [Below.heap_alloc _ _ _ (by omega), hb3.block g (by omega), Hba.out.block g h.2]))
             have Hnews : Hid (∀ j u, [Value.bool xv, .int .i64 xn, .slice a1 a2 a3][j]? = some u → (w3.alloc (.cells #[.bool xv, .int .i64 xn, .slice a1 a2 a3] 26)).cell? ((⟨w3.heap.size, 0, none⟩ : Addr).add j) = some u) := (World.news_of_block (cs := #[.bool xv, .int .i64 xn, .slice a1 a2 a3]) (heap_alloc_new w3 _))))
        all_goals
          have Hst := hide (app_next (B := w.heap.size + 1 + 1) (W2 := W2) (X := fun q => q < W0.heap.size) (T := subF (bnd s) k) (xn := n) (z := (xv, xn)) (r := xk) (a := .slice a1 a2 a3) HTok.out H1.out H2.out (fun q hq => by omega) q0 q1 (by have hc := HR.out; obtain ⟨_, _, _, _, _, _, q2, _, _⟩ := hc; exact (Hba.out.cell (p := ⟨w.heap.size + 1 + 1, 2, none⟩) hBlt).symm.trans f2) Hqf.out HB.out (below_step Hba.out hb3) (hk3.wide (fun q hq => by rcases hq with h | h; exact .inl h; exact .inr ⟨by have := Hba.out.size; omega, h.2⟩)) (by rw [Hy2.out, ← Hz.out]) rfl ho4 hg4 hat4 hlt4)
          clear hk3 hb3 ho4 hg4 hat4 hlt4 x2 xf g3 gf3 Hown3 Hnews hi26 hz0 hz1 hz2
          go_wp2_with fail
          go_roundw
          case rel => exact ⟨j + 1, by omega, by go_num, Hst.out⟩
          case measure => simp [intOf]; omega
      · have hje : j = Fo.len k := by omega
        have hRe : AppRel (w.heap.size + 1 + 1) W2 (fun q => q < W0.heap.size) (subF (bnd s) k) n (Fo.len (subF (bnd s) k)) wr := by rw [Hl2.out, ← hje]; exact HR.out
        obtain ⟨y1, y3, hc2, hSB⟩ := app_end hRe
        have HSB := hide hSB
        obtain ⟨p0, p1, p2, pf⟩ := HQ.out
        have s0 : wr.cell? ⟨w.heap.size + 1, 0, none⟩ = some (.bool false) := (HB.out.cell (by show w.heap.size + 1 < _; omega)).trans p0
        have s1 : wr.cell? ⟨w.heap.size + 1, 1, none⟩ = some (.int .i64 0) := (HB.out.cell (by show w.heap.size + 1 < _; omega)).trans p1
        have s2 : wr.cell? ⟨w.heap.size + 1, 2, none⟩ = some (.slice none 0 0) := (HB.out.cell (by show w.heap.size + 1 < _; omega)).trans p2
        have sf : ∀ i, wr.frozen? ⟨w.heap.size + 1, i, none⟩ = false := fun i => (HB.out.frozen (by show w.heap.size + 1 < _; omega)).trans (pf i)
        clear q2 hSB p0 p1 p2 pf hRe
        go_wp2_with fail
        refine bodyPost_ret (v := .agg #[.bool false, .int .i64 n, .slice y1 (Fo.len (subF (bnd s) k)) y3]) (by simp [results, Try.results14, go_sem, s0, s1, s2]) rfl ⟨y1, Fo.len (subF (bnd s) k), y3, by rw [Hres.out], ?_, set3_below (o := 0) hBw (by omega)⟩
        rw [Hres.out]
        refine (HSB.out.set3 (b := w.heap.size + 1) (o := 0) ?_).wide (fun q hq => ?_)
        · intro h
          rcases h with h | h <;> omega
        · rcases hq with h | h
          · exact .inl h
          · exact .inr ⟨by omega, by rw [World.size_setCell, World.size_setCell, World.size_setCell]; exact h.2⟩
  · have Hres : Hid (subT (bnd s) ((true, n), k) = bnd s n) := rfl
    have hk0 : k = .nil := Hok.out.1 rfl
    subst hk0
    clear had
    go_enter Try.func14, Try.ntmps14
    go_wp2_with fail
    generalize hW2 : (w.alloc (.cells #[.bool true, .int .i64 n, .slice ad (Fo.len .nil) ac] 26)).alloc (.cells #[.bool false, .int .i64 0, .slice none 0 0] 26) = W2
    have hs2 : W2.heap.size = w.heap.size + 1 + 1 := by rw [← hW2]; simp
    have hB2 : Below w.heap.size w W2 := by rw [← hW2]; exact (below_alloc _ _).alloc (by simp) _
    have p0 : W2.cell? ⟨w.heap.size, 0, none⟩ = some (.bool true) := by rw [← hW2, World.cell?_alloc_lt _ _ _ (by simp)]; exact new_cell rfl
    have p1 : W2.cell? ⟨w.heap.size, 1, none⟩ = some (.int .i64 n) := by rw [← hW2, World.cell?_alloc_lt _ _ _ (by simp)]; exact new_cell rfl
    have p2 : W2.cell? ⟨w.heap.size, 2, none⟩ = some (.slice ad (Fo.len .nil) ac) := by rw [← hW2, World.cell?_alloc_lt _ _ _ (by simp)]; exact new_cell rfl
    have r0 : W2.cell? ⟨w.heap.size + 1, 0, none⟩ = some (.bool false) := by rw [← hW2]; exact new_cell (World.size_alloc _ _)
    have r1 : W2.cell? ⟨w.heap.size + 1, 1, none⟩ = some (.int .i64 0) := by rw [← hW2]; exact new_cell (World.size_alloc _ _)
    have r2 : W2.cell? ⟨w.heap.size + 1, 2, none⟩ = some (.slice none 0 0) := by rw [← hW2]; exact new_cell (World.size_alloc _ _)
    have rf : ∀ i, W2.frozen? ⟨w.heap.size + 1, i, none⟩ = false := fun i => by rw [← hW2]; exact new_frozen (World.size_alloc _ _)
    have HQ := hide (And.intro p0 (And.intro p1 (And.intro p2 (And.intro r0 (And.intro r1 (And.intro r2 rf))))))
    have HB2 := hide hB2
    have Hs2 := hide hs2
    clear p0 p1 p2 r0 r1 r2 rf hB2 hs2 hW2
    go_loopw [14] (fun i wr => ∃ j : Nat, j ≤ s.length ∧ i = .int .i64 j ∧ (∀ q p, q < j → s[q]? = some p → p.1 ≠ n) ∧ Below W2.heap.size W2 wr) (fun i _ => s.length - (intOf i).toNat)
    case atStart => exact ⟨0, Nat.zero_le _, rfl, fun q _ hq => by omega, Below.refl _ _⟩
    case round =>
      obtain ⟨j, hj, rfl, hno, hB⟩ := hrel
      have Hno := hide hno
      have hs2 := Hs2.out
      have hBw : Below w.heap.size w wr := HB2.out.trans (hB.mono (by omega))
      have hB0 : Below W0.heap.size W0 wr := HW.out.trans (hBw.mono hW0)
      have hsz := hB.size
      obtain ⟨q0, q1, q2, q3, q4, q5, qf⟩ := HQ.out
      have p0 := grow_cell hB _ _ q0
      have p1 := grow_cell hB _ _ q1
      have p2 := grow_cell hB _ _ q2
      have s0 := grow_cell hB _ _ q3
      have s1 := grow_cell hB _ _ q4
      have s2 := grow_cell hB _ _ q5
      have sf : ∀ i, wr.frozen? ⟨w.heap.size + 1, i, none⟩ = false := fun i => (hB.frozen (by show w.heap.size + 1 < _; omega)).trans (qf i)
      clear hno q0 q1 q2 q3 q4 q5 qf
      by_cases hlt : j < s.length
      · have hlt' : (j : Int) < (s.length : Int) := by omega
        obtain ⟨⟨m, ⟨tv, tn⟩, tk⟩, hy⟩ : ∃ y, s[j]? = some y := ⟨s[j], by simp [hlt]⟩
        obtain ⟨c0, c1, c2, tv', c3, hSy⟩ := HP.out.at hy
        have c0' := grow_cell hB0 _ _ c0
        have c1' := grow_cell hB0 _ _ c1
        have c2' := grow_cell hB0 _ _ c2
        have c3' := grow_cell hB0 _ _ c3
        have HSy := hide hSy
        obtain ⟨ya, yc, yb, yo, rfl, -, -, -, -⟩ := hSy
        have ha : vd = some ⟨vb, vo, none⟩ := hvd (by omega)
        subst ha
        have Hy := hide hy
        have hx0 : w.heap.size < wr.heap.size := by omega
        have hx1 : w.heap.size + 1 < wr.heap.size := by omega
        clear hy hvd c0 c1 c2 c3
        by_cases hmn : m = n
        · have hmb : (m == n) = true := by simp [hmn]
          have Hl : Hid (bnd s n = ((tv, tn), tk)) := bnd_some (look_first Hno.out (by rw [Hy.out, hmn]))
          clear hmn
          obtain ⟨g0, g1, g2⟩ := set3_cells (w := wr) (b := w.heap.size + 1) (o := 0) (x := .bool tv) (y := .int .i64 tn) (z := .slice ya (Fo.len tk) yc) s0 s1 s2
          have k0 : ((((wr.setCell ⟨w.heap.size + 1, 0, none⟩ (.bool tv)).setCell ⟨w.heap.size + 1, 1, none⟩ (.int .i64 tn)).setCell ⟨w.heap.size + 1, 2, none⟩ (.slice ya (Fo.len tk) yc)).alloc (.cells #[.int .i64 m, .bool tv, .int .i64 tn, .slice ya (Fo.len tk) yc] 42)).cell? ⟨w.heap.size + 1, 0, none⟩ = some (.bool tv) := by
            rw [World.cell?_alloc_lt _ _ _ (by simpa using hx1)]; exact g0
          have k1 : ((((wr.setCell ⟨w.heap.size + 1, 0, none⟩ (.bool tv)).setCell ⟨w.heap.size + 1, 1, none⟩ (.int .i64 tn)).setCell ⟨w.heap.size + 1, 2, none⟩ (.slice ya (Fo.len tk) yc)).alloc (.cells #[.int .i64 m, .bool tv, .int .i64 tn, .slice ya (Fo.len tk) yc] 42)).cell? ⟨w.heap.size + 1, 1, none⟩ = some (.int .i64 tn) := by
            rw [World.cell?_alloc_lt _ _ _ (by simpa using hx1)]; exact g1
          have k2 : ((((wr.setCell ⟨w.heap.size + 1, 0, none⟩ (.bool tv)).setCell ⟨w.heap.size + 1, 1, none⟩ (.int .i64 tn)).setCell ⟨w.heap.size + 1, 2, none⟩ (.slice ya (Fo.len tk) yc)).alloc (.cells #[.int .i64 m, .bool tv, .int .i64 tn, .slice ya (Fo.len tk) yc] 42)).cell? ⟨w.heap.size + 1, 2, none⟩ = some (.slice ya (Fo.len tk) yc) := by
            rw [World.cell?_alloc_lt _ _ _ (by simpa using hx1)]; exact g2
          have hBe : Below w.heap.size w ((((wr.setCell ⟨w.heap.size + 1, 0, none⟩ (.bool tv)).setCell ⟨w.heap.size + 1, 1, none⟩ (.int .i64 tn)).setCell ⟨w.heap.size + 1, 2, none⟩ (.slice ya (Fo.len tk) yc)).alloc (.cells #[.int .i64 m, .bool tv, .int .i64 tn, .slice ya (Fo.len tk) yc] 42)) :=
            (set3_below (b := w.heap.size + 1) (o := 0) hBw (by omega)).alloc (by rw [set3_size]; omega) _
          have Hend := hide (And.intro k0 (And.intro k1 (And.intro k2 hBe)))
          clear k0 k1 k2 hBe g0 g1 g2
          go_wp2_with fail
          obtain ⟨k0, k1, k2, hBe⟩ := Hend.out
          refine bodyPost_ret (v := .agg #[.bool tv, .int .i64 tn, .slice ya (Fo.len tk) yc]) (by simp [results, Try.results14, go_sem, k0, k1, k2]) rfl ⟨ya, Fo.len tk, yc, by rw [Hres.out, Hl.out], ?_, hBe⟩
          rw [Hres.out, Hl.out]
          exact (HSy.out.toB.grow (fun _ h => h) (HW.out.trans (hBe.mono hW0))).wide (fun q hq => .inl hq)
        · have hmb : (m == n) = false := by simp [hmn]
          have Hno2 : Hid (∀ q p, q < j + 1 → s[q]? = some p → p.1 ≠ n) := fun q p hq hp => by
            by_cases e : q = j
            · subst e; rw [Hy.out] at hp; cases hp; exact hmn
            · exact Hno.out q p (by omega) hp
          clear hmn
          go_wp2_with fail
          go_roundw
          case rel => exact ⟨j + 1, by omega, by go_num, Hno2.out, hB.alloc hsz _⟩
          case measure => simp [intOf]; omega
      · have Hl : Hid (bnd s n = vr n) := bnd_none (look_all (fun q p hq hp => Hno.out q p (by omega) hp))
        clear hvd
        go_wp2_with fail
        refine bodyPost_ret (v := .agg #[.bool true, .int .i64 n, .slice ad (Fo.len .nil) ac]) (by simp [results, Try.results14, go_sem, s0, s1, s2]) rfl ⟨ad, Fo.len .nil, ac, by rw [Hres.out, Hl.out]; rfl, ?_, set3_below (o := 0) hBw (by omega)⟩
        rw [Hres.out, Hl.out]
        exact ⟨ad, ac, b, o, rfl, fun h => by simp [vr, Fo.len] at h, Nat.zero_le _, by unfold maxLen; exact hcm, trivial⟩

end Go.Proofs.Ytdaebldfmchclab

/- What the laws of chapter 2 ask of terms: right ones, and without variables. -/
namespace Go.Proofs.Ytdaebldfmchclab
open Go.RowKit Go.Deep Go.ChangeShapes Go.WideShapes
attribute [local go_sem ↓] Go.wp_at_zero Go.wp_at_succ

theorem fin_norm {w : World} : ∀ {F : Fo} {b o : Nat}, FIn w F b o → FIn w (Fo.norm F) b o
  | .nil, _, _, _ => trivial
  | .node _ _ _ k r, _, _, ⟨h0, h1, ⟨a, c, b', o', h2, h3, h4, h5, h6⟩, h7⟩ => by
    refine ⟨h0, h1, ⟨a, c, b', o', ?_, ?_, ?_, h5, fin_norm h6⟩, fin_norm h7⟩
    · rw [norm_len]; exact h2
    · rw [norm_len]; exact h3
    · rw [norm_len]; exact h4
theorem sin_norm {w : World} {k : Fo} {a : Value} (h : SIn w k a) : SIn w (Fo.norm k) a := by
  obtain ⟨a, c, b, o, rfl, h3, h4, h5, h6⟩ := h
  exact ⟨a, c, b, o, by rw [norm_len], by rw [norm_len]; exact h3, by rw [norm_len]; exact h4, h5, fin_norm h6⟩
theorem norm_sizes : ∀ F : Fo, Fo.sizesR (Fo.norm F) = Fo.sizesR F
  | .nil => rfl
  | .node _ _ _ k r => by simp [Fo.norm, Fo.sizesR, norm_sizes k, norm_sizes r]

/-- What is known of right terms, without what is no part of them. -/
theorem good_of_walk {s : List Int} (hs : s.all okNum = true) : ∀ {F : Fo} {n : Nat}, n ≤ 13 → walkF s F (13 - (n : Int)) = 0 → Fo.ok (Fo.norm F) ∧ twoF (Fo.norm F) ∧ (∀ m, occF m (Fo.norm F) → 0 ≤ m ∧ m ≤ 4) ∧ depF (Fo.norm F) ≤ n
  | .nil, _, _, _ => ⟨trivial, trivial, fun m hm => by simp [Fo.norm, occF] at hm, Nat.zero_le _⟩
  | .node _ _ ⟨v, z⟩ k r, n, hn, h => by
    obtain ⟨hT, hr⟩ := walkF_ok h
    obtain ⟨hd, ha, hk⟩ := walkT_ok hT
    have h2 := alone_len hs ha
    obtain ⟨m, rfl⟩ : ∃ m, n = m + 1 := ⟨n - 1, by omega⟩
    have e : (13 : Int) - ((m + 1 : Nat) : Int) + 1 = 13 - (m : Int) := by omega
    rw [e] at hk
    obtain ⟨i1, i2, i3, i4⟩ := good_of_walk hs (n := m) (by omega) hk
    obtain ⟨j1, j2, j3, j4⟩ := good_of_walk hs (n := m + 1) hn hr
    simp only [Fo.norm]
    refine ⟨?_, ⟨by rw [norm_len]; exact h2, i2, j2⟩, fun q hq => ?_, ?_⟩
    · rw [ok_node]
      refine ⟨rfl, rfl, ⟨fun hv => ?_, i1⟩, j1⟩
      have hv' : v = true := hv
      subst hv'
      obtain ⟨rfl, _, _⟩ := alone_var ha
      rfl
    · rcases hq with hq | hq
      · cases v
        · exact i3 q (by simpa using hq)
        · obtain ⟨_, h0, h4⟩ := alone_var ha
          have : z = q := by simpa using hq
          omega
      · exact j3 q hq
    · simp only [depF]; omega
theorem gd_of_right {s : List Int} (hs : s.all okNum = true) {x : Bool × Int} {k : Fo} (h : wrongF s x k = 0) : Gd (x, Fo.norm k) ∧ depT (x, Fo.norm k) ≤ 12 ∧ tszR (Fo.norm k) ≤ 12 := by
  obtain ⟨h1, _, _, _, hw⟩ := right_of hs h
  have hF : walkF s (.node 0 0 x k .nil) (13 - ((12 : Nat) : Int)) = 0 := by
    have : walkT s x k 1 = 0 := hw
    simp only [walkF]
    have h3 : ∀ z : Int, z = 0 → (if z ≠ 0 then z else 0) = 0 := fun z hz => by simp [hz]
    exact h3 _ this
  obtain ⟨i1, i2, i3, i4⟩ := good_of_walk hs (n := 12) (by omega) hF
  simp only [Fo.norm] at i1 i2 i3 i4
  rw [ok_node] at i1
  rw [two_node] at i2
  refine ⟨⟨i1.2.2.1, i2.1, fun m hm => i3 m (.inl hm)⟩, ?_, by unfold tszR at *; rw [norm_sizes]; exact h1⟩
  simp only [depF, depT] at *
  omega
/-- Right terms of symbols? -/
def rightB (s : List Int) (F : Fo) : Bool := decide (wsig s = 0) && F.list.all fun t => decide (wrongF s t.1 t.2 = 0)
def rightTo (s : List Int) (F : Fo) (j : Nat) : Bool := decide (wsig s = 0) && (F.list.take j).all fun t => decide (wrongF s t.1 t.2 = 0)
theorem rightTo_succ {s : List Int} {F : Fo} {j : Nat} {t : Tm} (h : F.list[j]? = some t) : rightTo s F (j + 1) = (rightTo s F j && decide (wrongF s t.1 t.2 = 0)) := by
  unfold rightTo
  rw [List.take_add_one, h]
  simp [Bool.and_assoc]
theorem rightTo_end (s : List Int) (F : Fo) : rightTo s F (Fo.len F) = rightB s F := by
  unfold rightTo rightB
  rw [← Fo.len_list, List.take_length]

end Go.Proofs.Ytdaebldfmchclab

/- Found by a pattern: what the law asks, told of terms alone. -/
namespace Go.Proofs.Ytdaebldfmchclab
open Go.RowKit Go.Deep Go.ChangeShapes Go.WideShapes

theorem extF_nar : ∀ {k l : Fo} {s s' : Sb}, Fo.narrow l → (∀ p ∈ s, narT p.2) → extF k l s = some s' → ∀ p ∈ s', narT p.2
  | .nil, _, s, s', _, hs, h => by simp only [extF, Option.some.injEq] at h; subst h; exact hs
  | .node _ _ _ _ _, .nil, _, _, _, _, h => by simp [extF] at h
  | .node _ _ ⟨v, n⟩ k r, .node _ _ y l q, s, s', hl, hs, h => by
    rw [extF_node, Option.bind_eq_some_iff] at h
    obtain ⟨s1, h1, h2⟩ := h
    rw [nar_node] at hl
    refine extF_nar hl.2 ?_ h2
    cases v
    · unfold extT at h1
      simp only [Bool.false_eq_true, if_false] at h1
      split at h1
      · exact extF_nar hl.1.2 hs h1
      · cases h1
    · cases e : look s n with
      | none =>
        rw [extT_new e] at h1
        cases h1
        intro p hp
        simp only [List.mem_append, List.mem_singleton] at hp
        rcases hp with hp | rfl
        · exact hs p hp
        · exact hl.1
      | some z =>
        rw [extT_old e] at h1
        split at h1
        · cases h1; exact hs
        · cases h1
theorem extT_nar {t u : Tm} {s s' : Sb} (hu : narT u) (hs : ∀ p ∈ s, narT p.2) (h : extT s t u = some s') : ∀ p ∈ s', narT p.2 := by
  have h1 : extF (.node 0 0 t.1 t.2 .nil) (.node 0 0 u.1 u.2 .nil) s = some s' := by rw [extF_node, show extT s (t.1, t.2) (u.1, u.2) = some s' from h]; rfl
  exact extF_nar (k := .node 0 0 t.1 t.2 .nil) (l := .node 0 0 u.1 u.2 .nil) (nar_node.2 ⟨hu, trivial⟩) hs h1
/-- What Match finds, from right terms. -/
theorem match_ok {t u : Tm} {s : Sb} (hu : okT u) (hn : narT u) (h : extT [] t u = some s) : (∀ p ∈ s, narT p.2 ∧ okT p.2) ∧ subT (bnd s) t = u := by
  obtain ⟨h1, h2⟩ := extT_sound hu (fun p hp => by simp at hp) h
  have h3 := extT_nar hn (fun p hp => by simp at hp) h
  exact ⟨fun p hp => ⟨h3 p hp, h1 p hp⟩, h2⟩

theorem norm_norm : ∀ F : Fo, Fo.norm (Fo.norm F) = Fo.norm F
  | .nil => rfl
  | .node _ _ _ k r => by simp [Fo.norm, norm_norm k, norm_norm r]

/-- Terms laid side by side. -/
def two (t u : Tm) : Fo := .node 0 0 t.1 t.2 (.node 0 0 u.1 u.2 .nil)
def one1 (t : Tm) : Fo := .node 0 0 t.1 t.2 .nil
theorem right_two {s : List Int} {t u : Tm} (h : rightB s (two t u) = true) : s.all okNum = true ∧ wrongF s t.1 t.2 = 0 ∧ wrongF s u.1 u.2 = 0 := by
  simp only [rightB, two, Fo.list, List.all_cons, List.all_nil, Bool.and_eq_true, decide_eq_true_eq, Bool.and_true] at h
  exact ⟨(wsig_ok h.1).1, h.2.1, h.2.2⟩
theorem right_one {s : List Int} {t : Tm} (h : rightB s (one1 t) = true) : s.all okNum = true ∧ wrongF s t.1 t.2 = 0 := by
  simp only [rightB, one1, Fo.list, List.all_cons, List.all_nil, Bool.and_eq_true, decide_eq_true_eq, Bool.and_true] at h
  exact ⟨(wsig_ok h.1).1, h.2⟩
theorem two_in {w : World} {t u : Tm} {a c : Value} (h1 : SIn w t.2 a) (h2 : SIn w u.2 c) : SIn (w.alloc (.cells #[.bool t.1.1, .int .i64 t.1.2, a, .bool u.1.1, .int .i64 u.1.2, c] 26)) (two t u) (.slice (some ⟨w.heap.size, 0, none⟩) 2 2) :=
  ⟨_, 2, w.heap.size, 0, rfl, fun _ => rfl, Nat.le_refl _, by unfold maxLen; omega, FIn.mk (new_cell rfl) (new_cell rfl) (new_cell rfl) (h1.alloc _) (FIn.mk (new_cell rfl) (new_cell rfl) (new_cell rfl) (h2.alloc _) trivial)⟩
theorem one_in {w : World} {t : Tm} {a : Value} (h1 : SIn w t.2 a) : SIn (w.alloc (.cells #[.bool t.1.1, .int .i64 t.1.2, a] 26)) (one1 t) (.slice (some ⟨w.heap.size, 0, none⟩) 1 1) :=
  ⟨_, 1, w.heap.size, 0, rfl, fun _ => rfl, Nat.le_refl _, by unfold maxLen; omega, FIn.mk (new_cell rfl) (new_cell rfl) (new_cell rfl) (h1.alloc _) trivial⟩

/-- A right term that has been brought to one form is good. -/
theorem gd_right {s : List Int} {x : Bool × Int} {k : Fo} (hs : s.all okNum = true) (hk : Fo.norm k = k) (h : wrongF s x k = 0) : Gd (x, k) ∧ depT (x, k) ≤ 12 ∧ tszR k ≤ 12 := by
  have := gd_of_right hs h
  rwa [hk] at this

end Go.Proofs.Ytdaebldfmchclab

/- Where symbols stand: the document's Places. -/
namespace Go.Proofs.Ytdaebldfmchclab
open Go.RowKit Go.Deep Go.ChangeShapes Go.WideShapes
attribute [local go_sem ↓] Go.wp_at_zero Go.wp_at_succ

theorem placesF_pre (q : List Int) : ∀ (F : Fo) (p : List Int) (i : Int), placesF F (q ++ p) i = (placesF F p i).map (q ++ ·)
  | .nil, _, _ => rfl
  | .node _ _ x k r, p, i => by
    have h1 := placesF_pre q k (p ++ [i]) 0
    have h2 := placesF_pre q r p (i + 1)
    simp only [placesF, List.map_append, h2]
    cases x.1
    · simp only [Bool.false_eq_true, if_false, List.map_cons, List.append_assoc] at h1 ⊢
      rw [h1]
    · simp
theorem placesT_pre (q : List Int) (x : Bool × Int) (k : Fo) : placesT x k q = (placesT x k []).map (q ++ ·) := by
  have := placesF_pre q k [] 0
  unfold placesT
  split
  · rfl
  · simp only [List.append_nil] at this
    simp [this]
theorem placesF_plen : ∀ (F : Fo) (q : List Int) (i : Int) (p : List Int), p ∈ placesF F q i → p.length ≤ q.length + Fo.sizesR F
  | .nil, _, _, _, h => by simp [placesF] at h
  | .node _ _ x k r, q, i, p, h => by
    simp only [placesF, List.mem_append] at h
    simp only [Fo.sizesR]
    rcases h with h | h
    · cases hx : x.1 with
      | true => simp [hx] at h
      | false =>
        simp only [hx, Bool.false_eq_true, if_false, List.mem_cons] at h
        rcases h with rfl | h
        · simp; omega
        · have := placesF_plen k _ _ _ h
          simp at this
          omega
    · have := placesF_plen r _ _ _ h
      omega
theorem placesT_plen {x : Bool × Int} {k : Fo} {p : List Int} (h : p ∈ placesT x k []) : p.length ≤ tszR k := by
  unfold placesT at h
  unfold tszR
  split at h
  · simp at h
  · simp only [List.mem_cons] at h
    rcases h with rfl | h
    · simp
    · have := placesF_plen k _ _ _ h
      simp at this
      omega

theorem pl_step {B0 : Nat} {wr wA w3 : World} {vj v' v3 : Value} {ys : List Value} {Q : List (List Int)} {j : Int} {p : List Int} {g : Nat} {ob ob2 : Obj} (ho : wr.ownsRow B0 22 1 vj ys.length ys) (hP : Pw wr B0 vj.ownBlock ys Q)
    (hoA : wA.ownsRow B0 3 1 v' (1 + p.length) ([.int .i64 j] ++ vals p)) (hgA : (wr.alloc ob).grownBy wA (some wr.heap.size)) (hatA : v'.ownBlock = some wr.heap.size ∨ v'.ownBlock = some (wr.alloc ob).heap.size)
    (hv3 : v3.ownBlock = some g) (hg3 : (wA.alloc ob2).grownBy w3 vj.ownBlock) (hat3 : vj.ownBlock = some g ∨ g = wA.heap.size + 1) :
    Pw w3 B0 v3.ownBlock (ys ++ [v']) (Q ++ [j :: p]) ∧ Fr wr w3 vj.ownBlock none := by
  have s1 := hgA.size
  have s3 := hg3.size
  simp at s1 s3
  have hfr : Fr wr w3 vj.ownBlock none := by
    refine ⟨by rw [hg3.os]; exact hgA.os, by rw [hg3.tape]; exact hgA.tape, by rw [hg3.output]; exact hgA.output, by omega, fun q hq h1 _ => ?_⟩
    rw [hg3.block q (by simp; omega) h1, Below.heap_alloc _ _ _ (by omega), hgA.block q (by simp; omega) (by simp; omega), Below.heap_alloc _ _ _ hq]
  have hvb : ∀ h, v'.ownBlock = some h → wr.heap.size ≤ h ∧ h < wA.heap.size := fun h hh => by
    refine ⟨?_, (owns_at hoA h hh).2⟩
    rcases hatA with e | e
    · rw [e] at hh; simp at hh; omega
    · rw [e] at hh; simp at hh; omega
  refine ⟨Pw.append (Pw.keep hP hfr (fun q _ q2 q3 => ⟨q3, fun e => (by cases e), ?_⟩) (Nat.le_refl _)) ⟨rfl, fun i y q hy hq => ?_⟩, hfr⟩
  · rw [hv3]
    intro e
    simp at e
    subst e
    rcases hat3 with e | e
    · exact q3 e.symm
    · omega
  · have : i = 0 := by
      have := (List.getElem?_eq_some_iff.1 hy).1
      simpa using this
    subst this
    simp only [List.getElem?_cons_zero, Option.some.injEq] at hy hq
    subst hy hq
    refine ⟨?_, fun h hh => ?_⟩
    · have : w3.ownsRow B0 3 1 v' (1 + p.length) ([.int .i64 j] ++ vals p) := owns_keep hoA (fun h hh => by
        have hb := hvb h hh
        rw [hg3.block h (by simp; omega) (fun e => by have := (owns_at ho _ e.symm).2; omega), Below.heap_alloc _ _ _ hb.2])
      rw [show (j :: p).length = 1 + p.length by simp; omega]
      exact this
    · rw [hv3]
      intro e
      simp at e
      subst e
      have hb := hvb _ hh
      rcases hat3 with e | e
      · have := (owns_at ho _ e).2; omega
      · omega

theorem box_grown {w w3 : World} {x y z : Value} {T : TypeId} {o1 o2 : Obj} (hg : (((w.alloc (.cells #[x, y, z] T)).alloc o1).alloc o2).grownBy w3 (Value.slice none 0 0).ownBlock) : w3.cell? ⟨w.heap.size, 2, none⟩ = some z := by
  rw [hg.cell_far ⟨w.heap.size, 2, none⟩ (by show w.heap.size < _; rw [size3]; omega) (by simp [Value.ownBlock]), World.cell?_alloc_lt _ _ _ (by show w.heap.size < _; rw [size2]; omega), World.cell?_alloc_lt _ _ _ (by simp)]
  simp

theorem pl_out {B0 : Nat} {wr wA : World} {ob ob2 : Obj} {vj : Value} {n : Nat} {ys : List Value} (ho : wr.ownsRow B0 22 1 vj n ys) (hgA : (wr.alloc ob).grownBy wA (some wr.heap.size)) : (wA.alloc ob2).ownsRow B0 22 1 vj n ys :=
  owns_keep ho (fun g hg => by
    have h1 := (owns_at ho g hg).2
    have h2 := hgA.size
    simp at h2
    rw [Below.heap_alloc _ _ _ (by omega), hgA.block g (by simp; omega) (by simp; omega), Below.heap_alloc _ _ _ h1])
theorem pl_news (w : World) (v : Value) : ∀ j u, [v][j]? = some u → (w.alloc (.cells #[v] 22)).cell? ((⟨w.heap.size, 0, none⟩ : Addr).add j) = some u :=
  World.news_of_block (cs := #[v]) (heap_alloc_new w _)

/-- So far: the first so many places of the j-th argument stand. -/
def PlIn (B0 lo1 hi1 : Nat) (W0 w1 : World) (L Z : List (List Int)) (j : Int) (m : Nat) (wr : World) (vj : Value) : Prop :=
  ∃ ys, wr.ownsRow B0 22 1 vj ys.length ys ∧ Pw wr B0 vj.ownBlock ys (L ++ (Z.take m).map (j :: ·)) ∧ Below B0 W0 wr ∧ (∀ g, vj.ownBlock = some g → g < lo1 ∨ hi1 ≤ g) ∧ (∀ q, lo1 ≤ q → q < hi1 → wr.heap[q]? = w1.heap[q]?) ∧ hi1 ≤ wr.heap.size

def PlacesRSaid (x : Bool × Int) (k : Fo) : Prop := ∀ (a : Value) (w : World), SIn w k a → tszR k ≤ 9000 →
    Calls Try.prog 12 #[.agg #[.bool x.1, .int .i64 x.2, a]] w fun e w' => ∃ vo ys, e = .returned vo ∧ w'.ownsRow w.heap.size 22 1 vo ys.length ys ∧ Pw w' w.heap.size vo.ownBlock ys (placesT x k []) ∧ Below w.heap.size w w'

set_option maxHeartbeats 1000000 in
set_option maxRecDepth 100000 in
theorem placesR_any (x : Bool × Int) (k : Fo) : PlacesRSaid x k := by
  refine Fo.ind1 (p := PlacesRSaid) ?_ x k
  clear x k
  intro x k ih a w hS hb
  obtain ⟨xv, xn⟩ := x
  have HI := hide ih
  obtain ⟨ad, c, b, o, rfl, had, hlc, hcm, hF⟩ := hS
  have HF := hide hF
  unfold maxLen at hcm
  obtain ⟨i22, hi22, hz0, hz1, hz2⟩ := info_parts Try.info22
  clear ih hF
  cases xv
  · have Htt : Hid (placesT (false, xn) k [] = plTo k [] (Fo.len k)) := by rw [Hid, plTo_end]; rfl
    have Hnews : Hid (∀ j u, [Value.slice (some ⟨w.heap.size + 1, 0, none⟩) 0 0][j]? = some u → (((w.alloc (.cells #[.bool false, .int .i64 xn, .slice ad (Fo.len k) c] 26)).alloc (.cells #[] 3)).alloc (.cells #[.slice (some ⟨w.heap.size + 1, 0, none⟩) 0 0] 22)).cell? ((⟨w.heap.size + 2, 0, none⟩ : Addr).add j) = some u) := by
      have h := World.news_of_block (cs := #[.slice (some ⟨w.heap.size + 1, 0, none⟩) 0 0]) (heap_alloc_new ((w.alloc (.cells #[.bool false, .int .i64 xn, .slice ad (Fo.len k) c] 26)).alloc (.cells #[] 3)) (.cells #[.slice (some ⟨w.heap.size + 1, 0, none⟩) 0 0] 22))
      intro j u hu
      have := h j u hu
      rw [size2] at this
      exact this
    have hn1 : 0 + 1 ≤ maxLen := by unfold maxLen; omega
    have hn2 : (0 + 1) * 24 ≤ 140737488355328 := by omega
    go_enter Try.func12, Try.ntmps12
    go_wp2_with (at_builtin; refine wpList_append_lies _ rfl (.tmp 10) (.tmp 12) 37 rfl (w.heap.size + 1) 22 i22 (.slice none 0 0) 1 24 Try.underlying37 hi22 hz0 hz1 hz2 rfl (by decide) (.slice none 0 0) 0 [] rfl ⟨rfl, .inl ⟨rfl, rfl⟩⟩ ⟨w.heap.size + 2, 0, none⟩ 1 1 [.slice (some ⟨w.heap.size + 1, 0, none⟩) 0 0] rfl rfl Hnews.out (by simp [Value.oneCell']) (by decide) hn1 hn2 (by rw [size3]; omega) (w.heap.size + 3) (by rw [size3]) ?_; intro g cap w3 ho3 hg3 hat3 hlt3; have x2 := box_grown hg3)
    have hb3 : Below (w.heap.size + 1) (w.alloc (.cells #[.bool false, .int .i64 xn, .slice ad (Fo.len k) c] 26)) w3 := (((Below.refl _ _).alloc (by simp) _).alloc (by simp) _).grown hg3 (by rw [size3]; omega) (fun g hg => by simp [Value.ownBlock] at hg)
    have hP3 : Pw w3 (w.heap.size + 1) (some g) [.slice (some ⟨w.heap.size + 1, 0, none⟩) 0 0] (plTo k [] 0) := by
      refine ⟨by simp [plTo, Fo.take, placesF], fun i y q hy hq => ?_⟩
      have : i = 0 := by
        have := (List.getElem?_eq_some_iff.1 hy).1
        simpa using this
      subst this
      have hq' : q = [] := by
        simp [plTo] at hq
        exact hq
      simp only [List.getElem?_cons_zero, Option.some.injEq] at hy
      subst hy hq'
      refine ⟨own_empty ?_ (Nat.le_refl _), fun h hh => ?_⟩
      · rw [hg3.block (w.heap.size + 1) (by rw [size3]; omega) (by simp [Value.ownBlock]), Below.heap_alloc _ _ _ (by rw [size2]; omega)]
        have := heap_alloc_new (w.alloc (.cells #[.bool false, .int .i64 xn, .slice ad (Fo.len k) c] 26)) (.cells #[] 3)
        rw [World.size_alloc] at this
        exact this
      · simp [Value.ownBlock] at hh
        rcases hat3 with e | e
        · simp [Value.ownBlock] at e
        · simp; omega
    have Ho3 : Hid (w3.ownsRow (w.heap.size + 1) 22 1 (.slice (some ⟨g, 0, none⟩) 1 cap) 1 [.slice (some ⟨w.heap.size + 1, 0, none⟩) 0 0]) := hide (by simpa using ho3)
    have HP3 := hide hP3
    have Hb3 := hide hb3
    clear ho3 hg3 hat3 hlt3 hb3 hP3 Hnews x2
    go_loopw [3, 17] (fun v i wr => ∃ (j : Nat) (ys : List Value) (z1 : Option Addr) (z3 : Nat), j ≤ Fo.len k ∧ i = .int .i64 j ∧ v = .slice z1 ys.length z3 ∧ wr.ownsRow (w.heap.size + 1) 22 1 (.slice z1 ys.length z3) ys.length ys ∧ Pw wr (w.heap.size + 1) (Value.slice z1 ys.length z3).ownBlock ys (plTo k [] j) ∧ Below (w.heap.size + 1) (w.alloc (.cells #[.bool false, .int .i64 xn, .slice ad (Fo.len k) c] 26)) wr) (fun _ i _ => Fo.len k - (intOf i).toNat)
    case atStart => exact ⟨0, _, _, _, Nat.zero_le _, rfl, rfl, Ho3.out, HP3.out, Hb3.out⟩
    case round =>
      obtain ⟨j, ys, z1, z3, hj, rfl, rfl, hor, hPr, hBx⟩ := hrel
      obtain ⟨-, -, t2, hBr, hlt0⟩ := box_cells hBx
      have Hor := hide hor
      have HPr := hide hPr
      have HBx := hide hBx
      clear hor hPr hBx Ho3 HP3 Hb3
      by_cases hlt : j < Fo.len k
      · have hlt' : (j : Int) < (Fo.len k : Int) := by omega
        obtain ⟨⟨⟨yv, yn⟩, yk⟩, hy⟩ : ∃ y, k.list[j]? = some y := ⟨k.list[j]'(by rw [Fo.len_list]; exact hlt), by simp⟩
        obtain ⟨c0, c1, yv', c2, hSy⟩ := (HF.out.below hBr).at hy
        have HSy := hide hSy
        obtain ⟨ya, yc, yb, yo, rfl, -, -, -, -⟩ := hSy
        have ha : ad = some ⟨b, o, none⟩ := had (by omega)
        subst ha
        have hsz : 1 + Fo.sizesR (Fo.take j k) + tszR yk ≤ 9000 := by
          have h2 := sizesR_take j k
          rw [hy] at h2
          simp only at h2
          unfold tszR at hb h2 ⊢
          omega
        have Hy := hide hy
        have hbk : tszR yk ≤ 9000 := by omega
        clear hy had
        go_wp2_with fail
        refine (HI.out ((yv, yn), yk) (List.mem_of_getElem? Hy.out) _ _ HSy.out hbk).mono ?_
        rintro e w1 ⟨vs, zs, rfl, hos, hPs, hb1⟩
        obtain ⟨s1, s3, rfl⟩ := slice_of_owns hos
        have hs1 := hb1.size
        have Hos := hide hos
        have HPs := hide hPs
        have Hb1 := hide hb1
        obtain ⟨Z, hZ⟩ : ∃ Z, Z = placesT (yv, yn) yk [] := ⟨_, rfl⟩
        have HZ := hide hZ
        have Hin : Hid (PlIn (w.heap.size + 1) wr.heap.size w1.heap.size (w.alloc (.cells #[.bool false, .int .i64 xn, .slice (some ⟨b, o, none⟩) (Fo.len k) c] 26)) w1 (plTo k [] j) Z j 0 w1 (.slice z1 ys.length z3)) :=
          ⟨ys, owns_keep Hor.out (fun g hg => hb1.block g (owns_at Hor.out g hg).2), by simpa using Pw.keep HPr.out (Fr.of_below hb1 none none) (fun q _ q2 q3 => ⟨fun e => (by cases e), fun e => (by cases e), q3⟩) (Nat.le_refl _), HBx.out.trans (hb1.mono (by omega)), fun g hg => .inl (owns_at Hor.out g hg).2, fun q _ _ => rfl, Nat.le_refl _⟩
        have hZl : zs.length = Z.length := by rw [HZ.out]; exact HPs.out.1
        have HZl := hide hZl
        have hzb : zs.length ≤ 9000 := by
          have h3 := placesT_len (yv, yn) yk []
          rw [← HZ.out] at h3
          omega
        have Hlen : Hid (∀ (m : Nat) (ys : List Value) (wq : World) (gq : Option Nat), Pw wq (w.heap.size + 1) gq ys (plTo k [] j ++ (Z.take m).map ((j : Int) :: ·)) → ys.length ≤ 9000) := fun m ys wq gq h => by
          have h1 := h.1
          have h2 := placesF_len (Fo.take j k) [] 0
          have h3 := placesT_len (yv, yn) yk []
          have h4 : (Z.take m).length ≤ Z.length := by rw [List.length_take]; omega
          rw [List.length_append, List.length_map, plTo, List.length_cons] at h1
          rw [← HZ.out] at h3
          omega
        have Hpl : Hid (∀ p ∈ Z, (1 + p.length) * 8 ≤ 140737488355328) := fun p hp => by
          have := placesT_plen (x := (yv, yn)) (k := yk) (p := p) (by rw [← HZ.out]; exact hp)
          omega
        have Hnx : Hid (plTo k [] j ++ (Z.take zs.length).map ((j : Int) :: ·) = plTo k [] (j + 1)) := by
          rw [Hid, plTo_succ Hy.out, placesT_pre, ← HZ.out, HZl.out, List.take_length]
          simp
        clear hos hPs hb1 hZ t2 c0 c1 c2 hZl
        generalize wr = wo at *
        go_wp2_with fail
        go_loopw [3, 27] (fun v i wr => ∃ (m : Nat) (l : Nat) (z1 : Option Addr) (z3 : Nat), m ≤ zs.length ∧ i = .int .i64 m ∧ v = .slice z1 l z3 ∧ PlIn (w.heap.size + 1) wo.heap.size w1.heap.size (w.alloc (.cells #[.bool false, .int .i64 xn, .slice (some ⟨b, o, none⟩) (Fo.len k) c] 26)) w1 (plTo k [] j) Z j m wr (.slice z1 l z3)) (fun _ i _ => zs.length - (intOf i).toNat)
        case atStart => exact ⟨0, _, _, _, Nat.zero_le _, rfl, rfl, Hin.out⟩
        case round =>
          obtain ⟨m, l, y1, y3, hm, rfl, rfl, hin⟩ := hrel
          have Hin2 := hide hin
          clear Hin hin
          by_cases hmt : m < zs.length
          · have hmt' : (m : Int) < (zs.length : Int) := by omega
            have hm0 : (0 : Int) ≤ (m : Int) := by omega
            obtain ⟨us, hou, hPu, hBu, hnu, hku, hsu⟩ := Hin2.out
            obtain ⟨gs, caps, hform, hgs1, hgs2⟩ := Hos.out.form (by omega)
            simp only [Value.slice.injEq, true_and] at hform
            obtain ⟨rfl, rfl⟩ := hform
            obtain ⟨pv, hpv⟩ : ∃ pv, zs[m]? = some pv := ⟨zs[m], by simp [hmt]⟩
            obtain ⟨p, hp⟩ : ∃ p, Z[m]? = some p := ⟨Z[m]'(by rw [← HZl.out]; exact hmt), by simp⟩
            have hpo := (HPs.out.2 m pv p hpv (by rw [← HZ.out]; exact hp)).1
            have hcell : wr.cell? ⟨gs, m, none⟩ = some pv := by
              rw [World.cell?_of_block (w := w1) (hku gs hgs1 hgs2), Hos.out.cellAt m (by omega), hpv]
            have HNp : Hid (NIn wr p pv) := own_nin (owns_keep hpo (fun g hg => by
              have h1 := owns_at hpo g hg
              exact hku g h1.1 h1.2))
            obtain ⟨p1, p3, rfl⟩ := nin_slice HNp.out
            have hlu : us.length = l := by
              obtain ⟨_, _, e⟩ := slice_of_owns hou
              simp only [Value.slice.injEq] at e
              exact e.2.1.symm
            subst hlu
            have hul := Hlen.out m us wr _ hPu
            have hpb := Hpl.out p (List.mem_of_getElem? hp)
            have Hou := hide hou
            have HPu := hide hPu
            have HBu := hide hBu
            have Hnu := hide hnu
            have Hku := hide hku
            have Hp := hide hp
            have hBs : w.heap.size + 1 ≤ wr.heap.size := by omega
            have Hown1 : Hid ((wr.alloc (.cells #[.int .i64 j] 3)).ownsRow (w.heap.size + 1) 3 1 (.slice (some ⟨wr.heap.size, 0, none⟩) 1 1) 1 [.int .i64 j]) := World.ownsRow_lit wr #[.int .i64 j] 1 hBs (by unfold maxLen; omega) rfl
            have Hn1 := hide (HNp.out.alloc (.cells #[.int .i64 j] 3))
            have hn1 : us.length + 1 ≤ maxLen := by unfold maxLen; omega
            have hn2 : (us.length + 1) * 24 ≤ 140737488355328 := by omega
            clear hou hPu hBu hnu hku hp hpv hpo
            go_wp2_with (first
              | (at_builtin; refine wpList_append_nums rfl (.tmp 33) (.tmp 34) rfl (w.heap.size + 1) (.slice (some ⟨wr.heap.size, 0, none⟩) 1 1) 1 [.int .i64 j] rfl Hown1.out p (.slice p1 p.length p3) rfl Hn1.out hpb (by simp; omega) ?_; intro vA wA hoA hgA hatA; obtain ⟨q1, q3, hvA⟩ := slice_of_owns hoA; subst hvA; have Hout := hide (pl_out (ob2 := .cells #[.slice q1 (1 + p.length) q3] 22) Hou.out hgA); have HnA := hide (pl_news wA (.slice q1 (1 + p.length) q3)); have hsA := hgA.size)
              | (at_builtin; refine wpList_append_lies _ rfl (.tmp 31) (.tmp 36) 37 rfl (w.heap.size + 1) 22 i22 (.slice none 0 0) 1 24 Try.underlying37 hi22 hz0 hz1 hz2 rfl (by decide) (.slice y1 us.length y3) us.length us rfl Hout.out ⟨wA.heap.size, 0, none⟩ 1 1 [.slice q1 (1 + p.length) q3] rfl rfl HnA.out (by simp [Value.oneCell']) (by decide) hn1 hn2 (by simp at hsA ⊢; omega) (wA.heap.size + 1) (by simp) ?_; intro g cap w3 ho3 hg3 hat3 hlt3))
            have Hstep := hide (pl_step (v3 := .slice (some ⟨g, 0, none⟩) (us.length + 1) cap) Hou.out HPu.out hoA hgA hatA rfl hg3 hat3)
            have Ho3 := hide ho3
            have Hg3 := hide hg3
            have Hat3 := hide hat3
            have HgA := hide hgA
            clear hoA hgA hatA ho3 hg3 hat3 hlt3
            go_roundw
            case rel =>
              refine ⟨m + 1, us.length + 1, _, _, by omega, by go_num, rfl, us ++ [.slice q1 (1 + p.length) q3], by simpa using Ho3.out, ?_, ?_, ?_, ?_, ?_⟩
              · have h := Hstep.out.1
                rw [List.take_add_one, Hp.out]
                simpa using h
              · exact HBu.out.trans (Hstep.out.2.below hBs (fun g hg => (owns_at Hou.out g hg).1) (fun g hg => by cases hg))
              · intro g' hg'
                simp [Value.ownBlock] at hg'
                subst hg'
                rcases Hat3.out with e | e
                · exact Hnu.out _ e
                · have := HgA.out.size
                  simp at this
                  exact .inr (by omega)
              · intro q h1 h2
                rw [Hstep.out.2.block q (by omega) (fun e => by rcases Hnu.out q e.symm with h | h; omega; omega) (fun e => by cases e)]
                exact Hku.out q h1 h2
              · have := Hstep.out.2.size
                omega
            case measure => simp [intOf]; omega
          · have Hend : Hid (PlIn (w.heap.size + 1) wo.heap.size w1.heap.size (w.alloc (.cells #[.bool false, .int .i64 xn, .slice (some ⟨b, o, none⟩) (Fo.len k) c] 26)) w1 (plTo k [] j) Z j zs.length wr (.slice y1 l y3)) := by
              have e : m = zs.length := by omega
              rw [← e]; exact Hin2.out
            go_wp2_with fail
            go_roundw
            case rel =>
              obtain ⟨us, hou, hPu, hBu, hnu, hku, hsu⟩ := Hend.out
              obtain ⟨y1', y3', e⟩ := slice_of_owns hou
              simp only [Value.slice.injEq] at e
              obtain ⟨rfl, rfl, rfl⟩ := e
              rw [Hnx.out] at hPu
              exact ⟨j + 1, us, _, _, by omega, by go_num, rfl, hou, hPu, hBu⟩
            case measure => simp [intOf]; omega
      · have Hend : Hid (plTo k [] j = placesT (false, xn) k []) := by
          have e : j = Fo.len k := by omega
          rw [Hid, e, Htt.out]
        clear had
        go_wp2_with fail
        go_ret
        refine ⟨_, ys, rfl, owns_mono Hor.out (by omega), ?_, hBr⟩
        rw [← Hend.out]
        exact Pw.keep HPr.out (Fr.refl wr none none) (fun q _ _ q3 => ⟨fun e => (by cases e), fun e => (by cases e), q3⟩) (by omega)
  · have Htt : Hid (placesT (true, xn) k [] = []) := rfl
    go_enter Try.func12, Try.ntmps12
    go_wp2_with fail
    go_ret
    refine ⟨_, [], rfl, ⟨rfl, .inl ⟨rfl, rfl⟩⟩, ?_, below_alloc _ _⟩
    rw [Htt.out]
    exact ⟨rfl, fun i y q hy => by simp at hy⟩

end Go.Proofs.Ytdaebldfmchclab
