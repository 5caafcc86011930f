/- Each term of a clause made anew: each, Apply, Rename. -/
import Derived.Test.YtfckelbdageenabGreatDoorG18
import Derived.Test.YtfckelbdageenabGreatDoorG11
import Derived.Deep.RegionHeld3
namespace Go.Proofs.YtfckelbdageenabGreatDoor
open Go.RowKit Go.Deep Go.ChangeShapes Go.WideShapes

/-- Cells set, one after the other. -/
def setL (w : World) (b : Nat) : Nat → List Value → World
  | _, [] => w
  | o, x :: xs => setL (w.setCell ⟨b, o, none⟩ x) b (o + 1) xs
theorem setL_other {b q i : Nat} : ∀ {xs : List Value} {o : Nat} {w : World}, (q ≠ b ∨ i < o ∨ o + xs.length ≤ i) → (setL w b o xs).cell? ⟨q, i, none⟩ = w.cell? ⟨q, i, none⟩
  | [], _, _, _ => rfl
  | x :: xs, o, w, h => by
    rw [setL, setL_other (xs := xs) (by simp at h; omega), set_other (by intro e; simp only [Addr.mk.injEq] at e; simp at h; omega)]
theorem setL_frozen {b : Nat} {q : Addr} : ∀ {xs : List Value} {o : Nat} {w : World}, (setL w b o xs).frozen? q = w.frozen? q
  | [], _, _ => rfl
  | x :: xs, o, w => by rw [setL, setL_frozen (xs := xs)]; simp
theorem setL_size {b : Nat} : ∀ {xs : List Value} {o : Nat} {w : World}, (setL w b o xs).heap.size = w.heap.size
  | [], _, _ => rfl
  | x :: xs, o, w => by rw [setL, setL_size (xs := xs)]; simp [World.setCell]
theorem setL_below {B : Nat} {b : Nat} {w : World} (hb : B ≤ b) : ∀ {xs : List Value} {o : Nat} {w1 : World}, Below B w w1 → Below B w (setL w1 b o xs)
  | [], _, _, h => h
  | _ :: xs, _, _, h => setL_below hb (xs := xs) (h.setCell hb _)
theorem setL_at {b : Nat} : ∀ {xs : List Value} {o : Nat} {w : World}, (∀ i, i < xs.length → ∃ u, w.cell? ⟨b, o + i, none⟩ = some u) → ∀ i x, xs[i]? = some x → (setL w b o xs).cell? ⟨b, o + i, none⟩ = some x
  | [], _, _, _, i, x, h => by simp at h
  | y :: xs, o, w, hc, 0, x, h => by
    simp at h; subst h
    rw [setL, setL_other (.inr (.inl (by omega)))]
    obtain ⟨u, hu⟩ := hc 0 (by simp)
    exact set_same hu
  | y :: xs, o, w, hc, i + 1, x, h => by
    rw [setL, show o + (i + 1) = o + 1 + i by omega]
    refine setL_at (xs := xs) (fun q hq => ?_) i x (by simpa using h)
    obtain ⟨u, hu⟩ := hc (q + 1) (by simp; omega)
    exact ⟨u, by rw [set_other (by intro e; simp only [Addr.mk.injEq] at e; omega), show o + 1 + q = o + (q + 1) by omega]; exact hu⟩

theorem keep7 {w : World} {b o q i : Nat} {x0 x1 x2 x3 x4 x5 x6 v : Value} (hq : q ≠ b) (h : w.cell? ⟨q, i, none⟩ = some v) :
    (((((((w.setCell ⟨b, o, none⟩ x0).setCell ⟨b, o + 1, none⟩ x1).setCell ⟨b, o + 2, none⟩ x2).setCell ⟨b, o + 3, none⟩ x3).setCell ⟨b, o + 4, none⟩ x4).setCell ⟨b, o + 5, none⟩ x5).setCell ⟨b, o + 6, none⟩ x6).cell? ⟨q, i, none⟩ = some v :=
  (setL_other (xs := [x0, x1, x2, x3, x4, x5, x6]) (o := o) (w := w) (.inl hq)).trans h
/-- So much of a clause is made, in the row g. -/
def MkRel (g : Nat) (W2 : World) (T : Cl) (j : Nat) (wr : World) : Prop :=
  Below g W2 wr ∧ There wr g (T.length * 7) ∧ g + 1 ≤ wr.heap.size ∧ ∃ xs, LC (fun q => g + 1 ≤ q ∧ q < wr.heap.size) wr (T.take j) xs ∧ ∀ i, i < xs.length → wr.cell? ⟨g, i, none⟩ = xs[i]?
theorem mk_start {W2 : World} {T : Cl} {z : Array Value} : MkRel W2.heap.size W2 T 0 (W2.alloc (.cells (madeCells z (T.length * 7)) 44)) := by
  refine ⟨below_alloc _ _, fun i hi => ⟨?_, frozen_new _ _ _ _⟩, by simp, [], rfl, fun i hi => by simp at hi⟩
  have hs : i < (madeCells z (T.length * 7)).size := by simp [madeCells]; exact hi
  exact ⟨(madeCells z (T.length * 7))[i], by simp [hs]⟩
theorem mk_step {g : Nat} {W2 wr w2 : World} {T : Cl} {j : Nat} {l : Lt} {a d : Value} (h : MkRel g W2 T j wr) (hl : T[j]? = some l) (hb : Below wr.heap.size wr w2)
    (hA : SB (fun q => wr.heap.size ≤ q ∧ q < w2.heap.size) w2 l.2.1.2 a) (hD : SB (fun q => wr.heap.size ≤ q ∧ q < w2.heap.size) w2 l.2.2.2 d) : MkRel g W2 T (j + 1) (setL w2 g (j * 7) (litV l a d)) := by
  obtain ⟨hB, hT, hs, xs, hX, hc⟩ := h
  have hj : j < T.length := (List.getElem?_eq_some_iff.1 hl).1
  have hsz := hb.size
  have keep : ∀ q i, q < wr.heap.size → w2.cell? ⟨q, i, none⟩ = wr.cell? ⟨q, i, none⟩ ∧ w2.frozen? ⟨q, i, none⟩ = wr.frozen? ⟨q, i, none⟩ := fun q i hq => ⟨hb.cell hq, hb.frozen hq⟩
  have hT2 : There w2 g (T.length * 7) := fun i hi => by
    obtain ⟨⟨v, hv⟩, hf⟩ := hT i hi
    have := keep g i (by omega)
    exact ⟨⟨v, this.1.trans hv⟩, this.2.trans hf⟩
  have hxl : xs.length = j * 7 := by rw [hX.len, List.length_take]; rw [Nat.min_eq_left (by omega)]
  have at7 := setL_at (b := g) (xs := litV l a d) (o := j * 7) (w := w2) (fun i hi => (hT2 (j * 7 + i) (by simp at hi; omega)).1)
  have far : ∀ q i, q ≠ g → (setL w2 g (j * 7) (litV l a d)).cell? ⟨q, i, none⟩ = w2.cell? ⟨q, i, none⟩ := fun q i hq => setL_other (.inl hq)
  refine ⟨setL_below (Nat.le_refl _) (hB.trans (hb.mono (by omega))), fun i hi => ?_, by rw [setL_size]; omega, xs ++ litV l a d, ?_, fun i hi => ?_⟩
  · obtain ⟨⟨v, hv⟩, hf⟩ := hT2 i hi
    refine ⟨?_, by rw [setL_frozen]; exact hf⟩
    by_cases hc : i < j * 7 ∨ j * 7 + 7 ≤ i
    · exact ⟨v, by rw [setL_other (.inr hc)]; exact hv⟩
    · obtain ⟨q, rfl⟩ : ∃ q, i = j * 7 + q := ⟨i - j * 7, by omega⟩
      exact ⟨_, at7 q _ (List.getElem?_eq_getElem (by simp; omega))⟩
  · rw [List.take_add_one, hl]
    refine LC.append (LC.one ?_ ?_) ?_
    · refine hA.frame (fun q hq => ⟨by omega, by rw [setL_size]; omega⟩) (fun q i hq => far q i (by omega))
    · refine hD.frame (fun q hq => ⟨by omega, by rw [setL_size]; omega⟩) (fun q i hq => far q i (by omega))
    · refine hX.frame (fun q hq => ⟨by omega, by rw [setL_size]; omega⟩) (fun q i hq => (far q i (by omega)).trans (keep q i hq.2).1)
  · rw [List.getElem?_append]
    by_cases hc' : i < xs.length
    · rw [if_pos hc', setL_other (.inr (.inl (by omega))), (keep g i (by omega)).1]
      exact hc i hc'
    · rw [if_neg hc']
      have hi' : i - xs.length < 7 := by simp at hi; omega
      have := at7 (i - xs.length) _ (List.getElem?_eq_getElem (by simpa using hi'))
      rw [show j * 7 + (i - xs.length) = i by omega] at this
      rw [this, List.getElem?_eq_getElem (by simpa using hi')]
theorem mk_end {g : Nat} {W2 wr : World} {T : Cl} (h : MkRel g W2 T T.length wr) (hm : T.length ≤ maxLen) : CIn wr T (.slice (some ⟨g, 0, none⟩) T.length T.length) := by
  obtain ⟨_, _, _, xs, hX, hc⟩ := h
  rw [List.take_length] at hX
  exact ⟨_, _, g, 0, rfl, fun _ => rfl, Nat.le_refl _, hm, hX.at (fun j hj => by rw [Nat.zero_add]; exact hc j hj)⟩

/-- The closure's calls. -/
theorem ret_box {w w3 : World} {z1 : Option Addr} {z2 z3 : Nat} {tv : Bool} {tn : Int} {tk : Fo} {lo g : Nat} (hO : OwnV w3 lo w3.heap.size tk (.slice z1 z2 z3)) (hg : g < lo) (hlo : w.heap.size ≤ lo) :
    OwnV (set3 w3 g 0 (.bool tv) (.int .i64 tn) (.slice z1 z2 z3)) w.heap.size (set3 w3 g 0 (.bool tv) (.int .i64 tn) (.slice z1 z2 z3)).heap.size tk (.slice z1 z2 z3) := by
  have h2 : OwnV (set3 w3 g 0 (.bool tv) (.int .i64 tn) (.slice z1 z2 z3)) lo w3.heap.size tk (.slice z1 z2 z3) := hO.frame (fun q i q1 q2 => ⟨set3_other (.inl (by omega)), set3_frozen⟩)
  exact h2.mono hlo (by rw [set3_size]; exact Nat.le_refl _)

set_option maxRecDepth 100000 in
set_option maxHeartbeats 2000000 in
theorem cloEA_any (s : Sb) (vs : Value) (sb : Nat) (x : Bool × Int) (k : Fo) (a : Value) (w : World) (h : InvA s vs sb w) (hS : SIn w k a) (hn : narT (x, k)) :
    Calls Tryz.prog 56 #[.agg #[.bool x.1, .int .i64 x.2, a], .pointer (some ⟨sb, 0, none⟩)] w fun e w' => ∃ a', e = .returned (.agg #[.bool (subT (bnd s) (x, k)).1.1, .int .i64 (subT (bnd s) (x, k)).1.2, a']) ∧ OwnV w' w.heap.size w'.heap.size (subT (bnd s) (x, k)).2 a' ∧ Below w.heap.size w w' := by
  obtain ⟨xv, xn⟩ := x
  have HS := hide hS
  have HI := hide h
  obtain ⟨ad, c, _, _, rfl, -, -, -, -⟩ := hS
  obtain ⟨hc, hV, hs⟩ := h
  have HV := hide hV
  obtain ⟨v1, v3, rfl⟩ := slice_of_sub hV
  clear hV
  have hpb : sb < w.heap.size := World.block_lt_of_cell? _ _ hc
  have hc' : ((w.alloc (.cells #[.bool xv, .int .i64 xn, .slice ad (Fo.len k) c] 36)).alloc (.cells #[.bool false, .int .i64 0, .slice none 0 0] 36)).cell? ⟨sb, 0, none⟩ = some (.slice v1 s.length v3) := by rw [World.cell?_alloc_lt _ _ _ (by show sb < _; simp; omega), World.cell?_alloc_lt _ _ _ hpb]; exact hc
  go_enter Tryz.func56, Tryz.ntmps56
  go_wp2_with fail
  refine (apply_any s _ (xv, xn) k _ _ ((HV.out.alloc _).alloc _) hs ((HS.out.alloc _).alloc _) hn).mono ?_
  rintro e w1 ⟨a', rfl, hO, hb⟩
  obtain ⟨⟨⟨tv, tn⟩, tk⟩, ht⟩ : ∃ t, t = subT (bnd s) ((xv, xn), k) := ⟨_, rfl⟩
  rw [← ht] at hO ⊢
  have hO' := hO
  obtain ⟨z1, z2, z3, rfl⟩ := slice_of_sin hO.toS
  have hsz := hb.size
  simp only [World.size_alloc] at hsz
  have r0 : w1.cell? ⟨w.heap.size + 1, 0, none⟩ = some (.bool false) := grow_cell hb _ _ (new_cell (World.size_alloc _ _))
  have r1 : w1.cell? ⟨w.heap.size + 1, 1, none⟩ = some (.int .i64 0) := grow_cell hb _ _ (new_cell (World.size_alloc _ _))
  have r2 : w1.cell? ⟨w.heap.size + 1, 2, none⟩ = some (.slice none 0 0) := grow_cell hb _ _ (new_cell (World.size_alloc _ _))
  have rf : ∀ i, w1.frozen? ⟨w.heap.size + 1, i, none⟩ = false := fun i => (hb.frozen (by show w.heap.size + 1 < _; simp)).trans (new_frozen (World.size_alloc _ _))
  have hB := below_box (below_box hb)
  have HO : Hid (OwnV w1 (w.heap.size + 1 + 1) w1.heap.size tk (.slice z1 z2 z3)) := by
    have := hO
    simp only [World.size_alloc] at this
    exact this
  have Ht := hide ht
  clear hb hO hO' ht hc hc'
  simp only
  go_wp2_with fail
  refine bodyPost_ret (v := .agg #[.bool tv, .int .i64 tn, .slice z1 z2 z3]) (by simp [results, Tryz.results56, go_sem, r0, r1, r2]) rfl ⟨.slice z1 z2 z3, by rw [← Ht.out], ?_, set3_below (o := 0) hB (by omega)⟩
  rw [← Ht.out]
  exact ret_box HO.out (by omega) (by omega)

set_option maxRecDepth 100000 in
set_option maxHeartbeats 4000000 in
theorem eachA_any (s : Sb) (vs : Value) (sb : Nat) (k : Cl) (a : Value) (w : World) (h : InvA s vs sb w) (hS : CIn w k a) (hn : ∀ l ∈ k, narT l.2.1 ∧ narT l.2.2) (hlen : k.length ≤ 1000000) :
    Calls Tryz.prog 55 #[a, .func (.func 56) #[] #[.pointer (some ⟨sb, 0, none⟩)]] w fun e w' => ∃ g, e = .returned (.slice (some ⟨g, 0, none⟩) k.length k.length) ∧ CIn w' (k.map (mapL (subT (bnd s)))) (.slice (some ⟨g, 0, none⟩) k.length k.length) ∧ Below w.heap.size w w' := by
  obtain ⟨a1, c1, b1, o1, rfl, had1, hlc1, hcm1, hF1⟩ := hS
  unfold maxLen at hcm1
  have HF1 := hide hF1
  have HI := hide h
  have Hn := hide hn
  clear hF1 h hn
  obtain ⟨iL, hi, hz0, hz1, hz2⟩ := info_parts Tryz.info44
  have hmk := fun w : World => run_make (P := Tryz.prog) w 25 44 iL _ Tryz.underlying25 hi hz0 .i64 .i64 (k.length : Int) (k.length : Int) (by omega) (by omega) (by rw [hz2]; omega) (by omega)
  rw [hz1] at hmk
  simp only [Int.toNat_natCast] at hmk
  go_enter Tryz.func55, Tryz.ntmps55
  go_wp2_with fail
  clear hmk hi hz0 hz1 hz2
  have H0 : Hid (MkRel w.heap.size w (k.map (mapL (subT (bnd s)))) 0 (w.alloc (.cells (madeCells #[.bool false, .bool false, .int .i64 0, .slice none 0 0, .bool false, .int .i64 0, .slice none 0 0] (k.length * 7)) 44))) := by
    have := mk_start (W2 := w) (T := k.map (mapL (subT (bnd s)))) (z := #[.bool false, .bool false, .int .i64 0, .slice none 0 0, .bool false, .int .i64 0, .slice none 0 0])
    rw [List.length_map] at this
    exact this
  go_loopw [13] (fun i wr => ∃ j : Nat, j ≤ k.length ∧ i = .int .i64 j ∧ MkRel w.heap.size w (k.map (mapL (subT (bnd s)))) j wr) (fun i _ => k.length - (intOf i).toNat)
  case atStart => exact ⟨0, Nat.zero_le _, rfl, H0.out⟩
  case round =>
    obtain ⟨j, hj, rfl, hR⟩ := hrel
    have HR := hide hR
    obtain ⟨hB, hT, hsz, -⟩ := hR
    have hBw : Below w.heap.size w wr := hB
    by_cases hlt : j < k.length
    · have hlt' : (j : Int) < (k.length : Int) := by omega
      have hj0 : (0 : Int) ≤ (j : Int) := by omega
      obtain ⟨⟨yn, ⟨⟨yv, yi⟩, yk⟩, ⟨yv', yi'⟩, yk'⟩, hy⟩ : ∃ y, k[j]? = some y := ⟨k[j]'hlt, by simp⟩
      obtain ⟨p0, p1, p2, ⟨u3, p3, hA⟩, p4, p5, u6, p6, hD⟩ := (HF1.out.below hBw).at hy
      have ha1 : a1 = some ⟨b1, o1, none⟩ := had1 (by omega)
      subst ha1
      have HA := hide hA
      have HD := hide hD
      obtain ⟨ya, yc, _, _, rfl, -, -, -, -⟩ := hA
      obtain ⟨za, zc, _, _, rfl, -, -, -, -⟩ := hD
      have Hny := hide (Hn.out _ (List.mem_of_getElem? hy))
      obtain ⟨⟨⟨tv, ti⟩, tk⟩, ht⟩ : ∃ t, t = subT (bnd s) ((yv, yi), yk) := ⟨_, rfl⟩
      obtain ⟨⟨⟨tv', ti'⟩, tk'⟩, ht'⟩ : ∃ t, t = subT (bnd s) ((yv', yi'), yk') := ⟨_, rfl⟩
      have Hy2 : Hid ((k.map (mapL (subT (bnd s))))[j]? = some (yn, ((tv, ti), tk), ((tv', ti'), tk'))) := by rw [Hid, List.getElem?_map, hy, ht, ht']; rfl
      have Ht := hide ht
      have Ht' := hide ht'
      have hT' : There wr w.heap.size (k.length * 7) := by rw [List.length_map] at hT; exact hT
      have hfz : ∀ i, i < 7 → (∃ v, wr.cell? ⟨w.heap.size, j * 7 + i, none⟩ = some v) ∧ wr.frozen? ⟨w.heap.size, j * 7 + i, none⟩ = false := fun i hi => hT' _ (by omega)
      have Hfz := hide hfz
      clear hy had1 hT hT' ht ht' hfz hB
      simp only at *
      go_upto_region 5 with fail
      generalize hwa : wr.alloc (.cells #[.bool yn, .bool yv, .int .i64 yi, .slice ya (Fo.len yk) yc, .bool yv', .int .i64 yi', .slice za (Fo.len yk') zc] 44) = wa
      obtain ⟨g0, g1, g2, g3, g4, g5, g6, -, hba, hsa⟩ := lit_cells (T := 44) (x0 := .bool yn) (w := wr) (wr := wa) (x1 := .bool yv) (x2 := .int .i64 yi) (x3 := .slice ya (Fo.len yk) yc) (x4 := .bool yv') (x5 := .int .i64 yi') (x6 := .slice za (Fo.len yk') zc) (by rw [hwa]; exact Below.refl _ _)
      clear hwa
      have hcur : Below wa.heap.size wa wa.drew := (Below.refl _ _).drew
      have hcall1 : ∀ w' : World, Below wa.heap.size wa w' → Calls Tryz.prog 56 #[.agg #[.bool yv, .int .i64 yi, .slice ya (Fo.len yk) yc], .pointer (some ⟨sb, 0, none⟩)] w' fun e w'' => ∃ (z1 : Option Addr) (z2 z3 : Nat), e = .returned (.agg #[.bool tv, .int .i64 ti, .slice z1 z2 z3]) ∧ OwnV w'' w'.heap.size w''.heap.size tk (.slice z1 z2 z3) ∧ Below w'.heap.size w' w'' := fun w' hb => by
        have hb' := below_step (below_step hBw hba) hb
        refine (cloEA_any s vs sb (yv, yi) yk _ w' (invA_below s vs sb HI.out hb') (HA.out.below (below_step hba hb)) Hny.out.1).mono ?_
        rintro e w2 ⟨a', rfl, hO, hb⟩
        rw [← Ht.out] at hO
        obtain ⟨z1, z2, z3, rfl⟩ := slice_of_sin hO.toS
        exact ⟨z1, z2, z3, by rw [← Ht.out], hO, hb⟩
      have hcall2 : ∀ w' : World, Below wa.heap.size wa w' → Calls Tryz.prog 56 #[.agg #[.bool yv', .int .i64 yi', .slice za (Fo.len yk') zc], .pointer (some ⟨sb, 0, none⟩)] w' fun e w'' => ∃ (z1 : Option Addr) (z2 z3 : Nat), e = .returned (.agg #[.bool tv', .int .i64 ti', .slice z1 z2 z3]) ∧ OwnV w'' w'.heap.size w''.heap.size tk' (.slice z1 z2 z3) ∧ Below w'.heap.size w' w'' := fun w' hb => by
        have hb' := below_step (below_step hBw hba) hb
        refine (cloEA_any s vs sb (yv', yi') yk' _ w' (invA_below s vs sb HI.out hb') (HD.out.below (below_step hba hb)) Hny.out.2).mono ?_
        rintro e w2 ⟨a', rfl, hO, hb⟩
        rw [← Ht'.out] at hO
        obtain ⟨z1, z2, z3, rfl⟩ := slice_of_sin hO.toS
        exact ⟨z1, z2, z3, by rw [← Ht'.out], hO, hb⟩
      have Hc1 := hide hcall1
      have Hc2 := hide hcall2
      clear hcall1 hcall2 p0 p1 p2 p3 p4 p5 p6
      have hgz : w.heap.size < wr.heap.size := by omega
      have hne : wr.heap.size ≠ w.heap.size := by omega
      go_region_held3 (fun w' => w'.cell? ⟨wr.heap.size, 0, none⟩ = some (.bool yn) ∧ w'.cell? ⟨wr.heap.size, 1, none⟩ = some (.bool yv) ∧ w'.cell? ⟨wr.heap.size, 2, none⟩ = some (.int .i64 yi) ∧ w'.cell? ⟨wr.heap.size, 3, none⟩ = some (.slice ya (Fo.len yk) yc) ∧ w'.cell? ⟨wr.heap.size, 4, none⟩ = some (.bool yv') ∧ w'.cell? ⟨wr.heap.size, 5, none⟩ = some (.int .i64 yi') ∧ w'.cell? ⟨wr.heap.size, 6, none⟩ = some (.slice za (Fo.len yk') zc))
        (first
          | (with_reducible exact ⟨grow_cell hcur _ _ g0, grow_cell hcur _ _ g1, grow_cell hcur _ _ g2, grow_cell hcur _ _ g3, grow_cell hcur _ _ g4, grow_cell hcur _ _ g5, grow_cell hcur _ _ g6⟩)
          | (with_reducible exact ⟨keep7 hne (grow_cell hcur _ _ g0), keep7 hne (grow_cell hcur _ _ g1), keep7 hne (grow_cell hcur _ _ g2), keep7 hne (grow_cell hcur _ _ g3), keep7 hne (grow_cell hcur _ _ g4), keep7 hne (grow_cell hcur _ _ g5), keep7 hne (grow_cell hcur _ _ g6)⟩)
          | go_keep)
        (first
          | (go_at_call 56; with_reducible refine (Hc1.out _ hcur).mono ?_; rintro e wS ⟨z1, z2, z3, rfl, hO1, hbS⟩; replace hcur := below_step hcur hbS; have HO1 := hide (And.intro hO1 hbS); clear hO1)
          | (go_at_call 56; with_reducible refine (Hc2.out _ hcur).mono ?_; rintro e wU ⟨y1, y2, y3, rfl, hO2, hbU⟩; have hcurS := hcur; replace hcur := below_step hcur hbU; have HO2 := hide (And.intro hO2 hbU); clear hO2; have hall := below_step hba hcur; obtain ⟨⟨t0, e0⟩, f0⟩ := Hfz.out 0 (by omega); obtain ⟨⟨t1, e1⟩, f1⟩ := Hfz.out 1 (by omega); obtain ⟨⟨t2, e2⟩, f2⟩ := Hfz.out 2 (by omega); obtain ⟨⟨t3, e3⟩, f3⟩ := Hfz.out 3 (by omega); obtain ⟨⟨t4, e4⟩, f4⟩ := Hfz.out 4 (by omega); obtain ⟨⟨t5, e5⟩, f5⟩ := Hfz.out 5 (by omega); obtain ⟨⟨t6, e6⟩, f6⟩ := Hfz.out 6 (by omega); replace e0 := grow_cell hall _ _ e0; replace e1 := grow_cell hall _ _ e1; replace e2 := grow_cell hall _ _ e2; replace e3 := grow_cell hall _ _ e3; replace e4 := grow_cell hall _ _ e4; replace e5 := grow_cell hall _ _ e5; replace e6 := grow_cell hall _ _ e6; replace f0 := (hall.frozen hgz).trans f0; replace f1 := (hall.frozen hgz).trans f1; replace f2 := (hall.frozen hgz).trans f2; replace f3 := (hall.frozen hgz).trans f3; replace f4 := (hall.frozen hgz).trans f4; replace f5 := (hall.frozen hgz).trans f5; replace f6 := (hall.frozen hgz).trans f6; simp only [Nat.add_zero] at e0 f0))
      all_goals
        have Hstep : Hid (MkRel w.heap.size w (k.map (mapL (subT (bnd s)))) (j + 1) (setL wU w.heap.size (j * 7) (litV (yn, ((tv, ti), tk), ((tv', ti'), tk')) (.slice z1 z2 z3) (.slice y1 y2 y3)))) := by
          have s1 := hba.size
          have s2 := hcurS.size
          have s3 := HO1.out.2.size
          have s4 := HO2.out.2.size
          refine mk_step HR.out Hy2.out (below_step hba hcur) ?_ ?_
          · refine ((HO1.out.1.toB (X := fun q => wr.heap.size ≤ q ∧ q < wS.heap.size) (fun q q1 q2 => ⟨?_, q2⟩)).frame (fun q hq => ⟨hq.1, ?_⟩) (fun q i hq => HO2.out.2.cell ?_))
            · have q1' : wa.heap.size ≤ q := q1
              omega
            · have s4' : wS.heap.size ≤ wU.heap.size := s4
              have := hq.2
              omega
            · exact hq.2
          · refine HO2.out.1.toB (fun q q1 q2 => ⟨?_, q2⟩)
            have q1' : wS.heap.size ≤ q := q1
            omega
        go_wp2_with fail
        go_roundw
        case rel => exact ⟨j + 1, by omega, by go_num, Hstep.out⟩
        case measure => simp [intOf]; omega
    · have hje : j = k.length := by omega
      subst hje
      have Hfin : Hid (CIn wr (k.map (mapL (subT (bnd s)))) (.slice (some ⟨w.heap.size, 0, none⟩) k.length k.length)) := by
        have := HR.out
        rw [show MkRel w.heap.size w (k.map (mapL (subT (bnd s)))) k.length wr = MkRel w.heap.size w (k.map (mapL (subT (bnd s)))) (k.map (mapL (subT (bnd s)))).length wr by rw [List.length_map]] at this
        have := mk_end this (by rw [List.length_map]; unfold maxLen; omega)
        rw [List.length_map] at this
        exact this
      clear had1 hT hB
      go_wp2_with fail
      go_ret
      exact ⟨_, rfl, Hfin.out, hBw⟩

set_option maxRecDepth 100000 in
set_option maxHeartbeats 1000000 in
theorem applyC_any (s : Sb) (vs : Value) (k : Cl) (a : Value) (w : World) (hV : SubIn w s vs) (hs : ∀ p ∈ s, narT p.2 ∧ okT p.2) (hS : CIn w k a) (hn : ∀ l ∈ k, narT l.2.1 ∧ narT l.2.2) (hlen : k.length ≤ 1000000) :
    Calls Tryz.prog 22 #[vs, a] w fun e w' => ∃ g, e = .returned (.slice (some ⟨g, 0, none⟩) k.length k.length) ∧ CIn w' (k.map (mapL (subT (bnd s)))) (.slice (some ⟨g, 0, none⟩) k.length k.length) ∧ Below w.heap.size w w' := by
  have HV := hide hV
  have HS := hide hS
  obtain ⟨a1, a3, rfl⟩ := slice_of_cl hS
  obtain ⟨v1, v3, rfl⟩ := slice_of_sub hV
  clear hV hS
  go_enter Tryz.func22, Tryz.ntmps22
  go_wp2_with fail
  refine (eachA_any s (.slice v1 s.length v3) w.heap.size k _ _ ⟨by simp, HV.out.alloc _, hs⟩ (HS.out.alloc _) hn hlen).mono ?_
  rintro e w1 ⟨g, rfl, hC, hb⟩
  have HC := hide hC
  clear hC
  go_wp2_with fail
  go_ret
  exact ⟨g, rfl, HC.out, below_box hb⟩

end Go.Proofs.YtfckelbdageenabGreatDoor
