/- More Law2 CN CK CMo CM5 -/
import Derived.Test.YtlgnpiphaeoeiadDoorG07
import Derived.Deep.RegionLaw
namespace Go.Proofs.YtlgnpiphaeoeiadDoor
open Go.RowKit Go.Deep Go.ChangeShapes Go.WideShapes
attribute [local go_sem ↓] Go.wp_at_zero Go.wp_at_succ
def set4 (w : World) (b o : Nat) (x y z u : Value) : World := (((w.setCell ⟨b, o, none⟩ x).setCell ⟨b, o + 1, none⟩ y).setCell ⟨b, o + 2, none⟩ z).setCell ⟨b, o + 3, none⟩ u
def lset4 (xs : List Value) (o : Nat) (x y z u : Value) : List Value := (((xs.set o x).set (o + 1) y).set (o + 2) z).set (o + 3) u
theorem set4_heap {w : World} {b o : Nat} {x y z u : Value} {q : Nat} (h : q ≠ b) : (set4 w b o x y z u).heap[q]? = w.heap[q]? := by
  unfold set4
  rw [Below.heap_setCell _ _ _ _ h, Below.heap_setCell _ _ _ _ h, Below.heap_setCell _ _ _ _ h, Below.heap_setCell _ _ _ _ h]
theorem set4_size {w : World} {b o : Nat} {x y z u : Value} : (set4 w b o x y z u).heap.size = w.heap.size := by simp [set4, World.setCell]
theorem set4_below {B : Nat} {w w1 : World} {b o : Nat} {x y z u : Value} (h : Below B w w1) (hb : B ≤ b) : Below B w (set4 w1 b o x y z u) := (((h.setCell hb _).setCell hb _).setCell hb _).setCell hb _
theorem set4_row {w : World} {lo : Nat} {e : TypeId} {size g n cap o : Nat} {xs : List Value} {x y z u : Value} (h : w.ownsRow lo e size (.slice (some ⟨g, 0, none⟩) n cap) n xs) :
    (set4 w g o x y z u).ownsRow lo e size (.slice (some ⟨g, 0, none⟩) n cap) n (lset4 xs o x y z u) := ((((h.stored o x).1).stored (o + 1) y).1.stored (o + 2) z).1.stored (o + 3) u |>.1
theorem lset4_take {x y z u : Value} : ∀ {j : Nat} {xs : List Value}, (j + 1) * 4 ≤ xs.length → (lset4 xs (j * 4) x y z u).take ((j + 1) * 4) = xs.take (j * 4) ++ [x, y, z, u]
  | 0, xs, h => by
    match xs, h with
    | [], h => simp at h
    | [_], h => simp at h
    | [_, _], h => simp at h
    | [_, _, _], h => simp at h
    | a :: b :: c :: d :: ys, _ => simp [lset4]
  | j + 1, xs, h => by
    match xs, h with
    | [], h => simp at h
    | [_], h => simp only [List.length_cons, List.length_nil] at h; omega
    | [_, _], h => simp only [List.length_cons, List.length_nil] at h; omega
    | [_, _, _], h => simp only [List.length_cons, List.length_nil] at h; omega
    | a :: b :: c :: d :: ys, h =>
      have ih := lset4_take (x := x) (y := y) (z := z) (u := u) (j := j) (xs := ys) (by simp only [List.length_cons] at h; omega)
      have e1 : (j + 1) * 4 = j * 4 + 4 := by omega
      have e2 : (j + 1 + 1) * 4 = (j + 1) * 4 + 4 := by omega
      have e3 : lset4 (a :: b :: c :: d :: ys) ((j + 1) * 4) x y z u = a :: b :: c :: d :: lset4 ys (j * 4) x y z u := by
        rw [e1]
        simp [lset4]
      rw [e3, e2]
      simp only [List.take_succ_cons]
      rw [ih, e1]
      simp
def CopyRel (lo g : Nat) (W2 : World) (s : Sb) (j : Nat) (wr : World) : Prop :=
  Below g W2 wr ∧ g < wr.heap.size ∧ ∃ xs, wr.ownsRow lo 98 4 (.slice (some ⟨g, 0, none⟩) s.length s.length) s.length xs ∧ PC (fun q => q < wr.heap.size ∧ q ≠ g) wr (s.take j) (xs.take (j * 4))
theorem copy_step {lo g : Nat} {W2 wr w2 : World} {s : Sb} {j : Nat} {n : Int} {t : Tm} {a : Value} (h : CopyRel lo g W2 s j wr) (hj : s[j]? = some (n, t)) (hb : Below wr.heap.size wr w2) (hO : SB (fun q => wr.heap.size ≤ q ∧ q < w2.heap.size) w2 t.2 a) :
    CopyRel lo g W2 s (j + 1) (set4 w2 g (j * 4) (.int .i64 n) (.bool t.1.1) (.int .i64 t.1.2) a) := by
  obtain ⟨hB, hg, xs, hr, hP⟩ := h
  have hs := hb.size
  have hW := hB.size
  have hjl : j < s.length := by
    rcases Nat.lt_or_ge j s.length with h | h
    · exact h
    · rw [List.getElem?_eq_none h] at hj; cases hj
  refine ⟨set4_below (hB.trans ((hb.mono (Nat.le_of_lt hg)))) (Nat.le_refl _), by rw [set4_size]; omega, _, set4_row (owns_keep hr (fun q hq => hb.block q (owns_at hr q hq).2)), ?_⟩
  rw [lset4_take (by rw [hr.1]; omega), List.take_add_one, hj]
  refine PC.append (PC.one (t := t) ?_) ?_
  · refine hO.frame (fun q hq => ⟨by rw [set4_size]; exact hq.2, by omega⟩) (fun q i hq => World.cell?_of_block (set4_heap (by show q ≠ g; omega)))
  · refine hP.frame (fun q hq => ⟨by rw [set4_size]; omega, hq.2⟩) (fun q i hq => World.cell?_of_block ?_)
    rw [set4_heap hq.2, hb.block q hq.1]
def MorePost (w : World) (s : Sb) (t u : Tm) (e : Ending) (w' : World) : Prop :=
  Below w.heap.size w w' ∧ ∃ (z1 : Option Addr) (m z3 : Nat) (ok : Bool), e = .returned (.tuple #[.slice z1 m z3, .bool ok]) ∧ (ok = false → extT s t u = none ∧ z1 = none ∧ m = 0 ∧ z3 = 0) ∧
    (ok = true → ∃ s', extT s t u = some s' ∧ m = s'.length ∧ SubIn w' s' (.slice z1 m z3))
set_option maxRecDepth 100000 in
set_option maxHeartbeats 2000000 in
theorem more_any (s : Sb) (vs : Value) (x : Bool × Int) (k : Fo) (a : Value) (y : Bool × Int) (l : Fo) (c : Value) (w : World) (hV : SubIn w s vs) (hs : ∀ p ∈ s, narT p.2 ∧ okT p.2) (hS : SIn w k a) (hU : SIn w l c) (hok : okT (y, l)) (hnar : narT (y, l)) (hlen : (s.length + tszR k) * 48 ≤ 140737488355328) :
    Calls Tryd.prog 53 #[vs, .agg #[.bool x.1, .int .i64 x.2, a], .agg #[.bool y.1, .int .i64 y.2, c]] w (MorePost w s (x, k) (y, l)) := by
  obtain ⟨xv, xn⟩ := x
  obtain ⟨yv, yn⟩ := y
  have HS := hide hS
  have HU := hide hU
  have Hs := hide hs
  have Hok := hide hok
  have Hnar := hide hnar
  obtain ⟨ad, ac, b, o, rfl, -, -, -, -⟩ := hS
  obtain ⟨ud, uc, ub, uo, rfl, -, -, -, -⟩ := hU
  obtain ⟨vd, vc, vb, vo, rfl, hvd, hvlc, hvcm, hP⟩ := hV
  unfold maxLen at hvcm
  have HP := hide hP
  clear hs hok hnar hP
  obtain ⟨i52, hi, hz0, hz1, hz2⟩ := info_parts Tryd.info98
  have hmk := fun w : World => run_make (P := Tryd.prog) w 68 98 i52 _ Tryd.underlying68 hi hz0 .i64 .i64 (s.length : Int) (s.length : Int) (by omega) (by omega) (by rw [hz2]; omega) (by omega)
  rw [hz1] at hmk
  simp only [Int.toNat_natCast] at hmk
  go_enter Tryd.func53, Tryd.ntmps53
  go_wp2_with fail
  clear hmk hi hz0 hz1 hz2
  generalize hW2 : (w.alloc (.cells #[.bool xv, .int .i64 xn, .slice ad (Fo.len k) ac] 37)).alloc (.cells #[.bool yv, .int .i64 yn, .slice ud (Fo.len l) uc] 37) = W2
  have hs2 : W2.heap.size = w.heap.size + 1 + 1 := by rw [← hW2]; simp
  have hB2 : Below w.heap.size w W2 := by rw [← hW2]; exact (below_alloc _ _).alloc (by simp) _
  have p0 : W2.cell? ⟨w.heap.size, 0, none⟩ = some (.bool xv) := by rw [← hW2, World.cell?_alloc_lt _ _ _ (by simp)]; exact new_cell rfl
  have p1 : W2.cell? ⟨w.heap.size, 1, none⟩ = some (.int .i64 xn) := by rw [← hW2, World.cell?_alloc_lt _ _ _ (by simp)]; exact new_cell rfl
  have p2 : W2.cell? ⟨w.heap.size, 2, none⟩ = some (.slice ad (Fo.len k) ac) := by rw [← hW2, World.cell?_alloc_lt _ _ _ (by simp)]; exact new_cell rfl
  have r0 : W2.cell? ⟨w.heap.size + 1, 0, none⟩ = some (.bool yv) := by rw [← hW2]; exact new_cell (World.size_alloc _ _)
  have r1 : W2.cell? ⟨w.heap.size + 1, 1, none⟩ = some (.int .i64 yn) := by rw [← hW2]; exact new_cell (World.size_alloc _ _)
  have r2 : W2.cell? ⟨w.heap.size + 1, 2, none⟩ = some (.slice ud (Fo.len l) uc) := by rw [← hW2]; exact new_cell (World.size_alloc _ _)
  have HQ := hide (And.intro p0 (And.intro p1 (And.intro p2 (And.intro r0 (And.intro r1 r2)))))
  have HB2 := hide hB2
  have Hs2 := hide hs2
  have H0 : Hid (CopyRel w.heap.size (w.heap.size + 1 + 1) W2 s 0 (W2.alloc (.cells (madeCells #[.int .i64 0, .bool false, .int .i64 0, .slice none 0 0] (s.length * 4)) 98))) := by
    refine ⟨(Below.refl _ _).alloc (by omega) _, by simp; omega, (madeCells #[.int .i64 0, .bool false, .int .i64 0, .slice none 0 0] (s.length * 4)).toList, ?_, by simp [PC]⟩
    have := World.ownsRow_lit (base := w.heap.size) (e := 98) (size := 4) W2 (madeCells #[.int .i64 0, .bool false, .int .i64 0, .slice none 0 0] (s.length * 4)) s.length (by omega) (by unfold maxLen; omega) (by rw [size_madeCells])
    rw [hs2] at this
    exact this
  clear p0 p1 p2 r0 r1 r2 hB2 hs2 hW2
  go_loopw [16] (fun i wr => ∃ j : Nat, j ≤ s.length ∧ i = .int .i64 j ∧ CopyRel w.heap.size (w.heap.size + 1 + 1) W2 s j wr) (fun i _ => s.length - (intOf i).toNat)
  case atStart => exact ⟨0, Nat.zero_le _, rfl, H0.out⟩
  case round =>
    obtain ⟨j, hj, rfl, hR⟩ := hrel
    have HR := hide hR
    obtain ⟨hB, hg, xs, hrow, hPC⟩ := hR
    have hs2 := Hs2.out
    have hBw : Below w.heap.size w wr := HB2.out.trans (hB.mono (by omega))
    clear H0
    by_cases hlt : j < s.length
    · have hlt' : (j : Int) < (s.length : Int) := by omega
      obtain ⟨⟨m, ⟨tv, tn⟩, tk⟩, hy⟩ : ∃ y, s[j]? = some y := ⟨s[j], by simp [hlt]⟩
      obtain ⟨c0, c1, c2, tv', c3, hSy⟩ := (HP.out.below hBw).at hy
      have HSy := hide hSy
      obtain ⟨ya, yc, yb, yo, rfl, -, -, -, -⟩ := hSy
      have ha : vd = some ⟨vb, vo, none⟩ := hvd (by omega)
      subst ha
      have Hy := hide hy
      have Hn := hide (Hs.out _ (List.mem_of_getElem? hy))
      have hxl := hrow.1
      have e0 : ∃ u, wr.cell? ⟨w.heap.size + 1 + 1, j * 4, none⟩ = some u := ⟨xs[j * 4]'(by omega), by rw [hrow.cellAt (j * 4) (by omega), List.getElem?_eq_getElem]⟩
      have e1 : ∃ u, wr.cell? ⟨w.heap.size + 1 + 1, j * 4 + 1, none⟩ = some u := ⟨xs[j * 4 + 1]'(by omega), by rw [hrow.cellAt (j * 4 + 1) (by omega), List.getElem?_eq_getElem]⟩
      have e2 : ∃ u, wr.cell? ⟨w.heap.size + 1 + 1, j * 4 + 2, none⟩ = some u := ⟨xs[j * 4 + 2]'(by omega), by rw [hrow.cellAt (j * 4 + 2) (by omega), List.getElem?_eq_getElem]⟩
      have e3 : ∃ u, wr.cell? ⟨w.heap.size + 1 + 1, j * 4 + 3, none⟩ = some u := ⟨xs[j * 4 + 3]'(by omega), by rw [hrow.cellAt (j * 4 + 3) (by omega), List.getElem?_eq_getElem]⟩
      obtain ⟨u0, e0⟩ := e0
      obtain ⟨u1, e1⟩ := e1
      obtain ⟨u2, e2⟩ := e2
      obtain ⟨u3, e3⟩ := e3
      have ff : ∀ i, wr.frozen? ⟨w.heap.size + 1 + 1, i, none⟩ = false := fun i => hrow.frozenAt i
      clear hy hvd hB hrow hPC hxl
      go_upto_region 5 with fail
      generalize hwa : wr.alloc (.cells #[.int .i64 m, .bool tv, .int .i64 tn, .slice ya (Fo.len tk) yc] 98) = wa
      have a0 : wa.cell? ⟨wr.heap.size, 0, none⟩ = some (.int .i64 m) := by rw [← hwa]; exact new_cell rfl
      have a1 : wa.cell? ⟨wr.heap.size, 1, none⟩ = some (.bool tv) := by rw [← hwa]; exact new_cell rfl
      have a2 : wa.cell? ⟨wr.heap.size, 2, none⟩ = some (.int .i64 tn) := by rw [← hwa]; exact new_cell rfl
      have a3 : wa.cell? ⟨wr.heap.size, 3, none⟩ = some (.slice ya (Fo.len tk) yc) := by rw [← hwa]; exact new_cell rfl
      have hba : Below wr.heap.size wr wa := by rw [← hwa]; exact below_alloc _ _
      have hsa := hba.size
      have e0' := grow_cell hba _ _ e0
      have e1' := grow_cell hba _ _ e1
      have e2' := grow_cell hba _ _ e2
      have e3' := grow_cell hba _ _ e3
      have ff' : ∀ i, wa.frozen? ⟨w.heap.size + 1 + 1, i, none⟩ = false := fun i => (hba.frozen hg).trans (ff i)
      have hlt4 : w.heap.size + 1 + 1 < wa.heap.size := by omega
      have hcall : Calls Tryd.prog 60 #[.agg #[.bool tv, .int .i64 tn, .slice ya (Fo.len tk) yc]] wa.drew fun e w' => ∃ (b1 : Option Addr) (b2 b3 : Nat), e = .returned (.agg #[.bool tv, .int .i64 tn, .slice b1 b2 b3]) ∧ OwnV w' wa.heap.size w'.heap.size tk (.slice b1 b2 b3) ∧ Below wa.heap.size wa w' := by
        refine (ownB_any (tv, tn) tk _ wa.drew (HSy.out.below hba).drew Hn.out.1.1 Hn.out.1.2).mono ?_
        rintro e w' ⟨a', rfl, hO', hb'⟩
        rw [subT_vr Hn.out.2] at hO' ⊢
        obtain ⟨b1, b2, b3, rfl⟩ := slice_of_sin hO'.toS
        exact ⟨b1, b2, b3, rfl, hO', (Below.refl _ _).drew.trans hb'⟩
      have Hcall := hide hcall
      have Hba := hide hba
      clear hcall hwa c0 c1 c2 c3 e0 e1 e2 e3 ff hba
      go_region_with (first
        | (go_at_call 60; refine Hcall.out.mono ?_; rintro e w2 ⟨b1, b2, b3, rfl, hO2, hb2⟩; have a0' := grow_cell hb2 _ _ a0; have e0'' := grow_cell hb2 _ _ e0'; have e1'' := grow_cell hb2 _ _ e1'; have e2'' := grow_cell hb2 _ _ e2'; have e3'' := grow_cell hb2 _ _ e3'; have ff'' : ∀ i, w2.frozen? ⟨w.heap.size + 1 + 1, i, none⟩ = false := (fun i => (hb2.frozen hlt4).trans (ff' i))))
      all_goals
        have Hstep : Hid (CopyRel w.heap.size (w.heap.size + 1 + 1) W2 s (j + 1) (set4 w2 (w.heap.size + 1 + 1) (j * 4) (.int .i64 m) (.bool tv) (.int .i64 tn) (.slice b1 b2 b3))) := copy_step (n := m) (t := ((tv, tn), tk)) (a := .slice b1 b2 b3) HR.out Hy.out (below_step Hba.out hb2) (hO2.toB (fun q q1 q2 => ⟨by omega, q2⟩))
        clear hO2 hb2 a0' e0' e1' e2' e3' ff'
        go_wp2_with fail
        go_roundw
        case rel => exact ⟨j + 1, by omega, by go_num, Hstep.out⟩
        case measure => simp [intOf]; omega
    · have hje : j = s.length := by omega
      subst hje
      obtain ⟨q0, q1, q2, q3, q4, q5⟩ := HQ.out
      have p0 : wr.cell? ⟨w.heap.size, 0, none⟩ = some (.bool xv) := (hB.cell (by show w.heap.size < _; omega)).trans q0
      have p1 : wr.cell? ⟨w.heap.size, 1, none⟩ = some (.int .i64 xn) := (hB.cell (by show w.heap.size < _; omega)).trans q1
      have p2 : wr.cell? ⟨w.heap.size, 2, none⟩ = some (.slice ad (Fo.len k) ac) := (hB.cell (by show w.heap.size < _; omega)).trans q2
      have r0 : wr.cell? ⟨w.heap.size + 1, 0, none⟩ = some (.bool yv) := (hB.cell (by show w.heap.size + 1 < _; omega)).trans q3
      have r1 : wr.cell? ⟨w.heap.size + 1, 1, none⟩ = some (.int .i64 yn) := (hB.cell (by show w.heap.size + 1 < _; omega)).trans q4
      have r2 : wr.cell? ⟨w.heap.size + 1, 2, none⟩ = some (.slice ud (Fo.len l) uc) := (hB.cell (by show w.heap.size + 1 < _; omega)).trans q5
      have HOw : Hid (OwnS w.heap.size (fun q => q < wr.heap.size ∧ q ≠ w.heap.size + 1 + 1) wr s (.slice (some ⟨w.heap.size + 1 + 1, 0, none⟩) s.length s.length) xs) := by
        refine ⟨hrow, ?_, fun q hq => ⟨hq.1, fun e => ?_⟩⟩
        · rw [List.take_length, ← hrow.1, List.take_length] at hPC
          exact hPC
        · simp [Value.ownBlock] at e
          exact hq.2 e
      have HSB : Hid (SB (fun q => q < wr.heap.size ∧ q ≠ w.heap.size + 1 + 1) wr k (.slice ad (Fo.len k) ac)) := (HS.out.toB.grow (fun _ h => h) hBw).wide (fun q hq => ⟨by have := hBw.size; omega, by omega⟩)
      have HUB : Hid (SB (fun q => q < wr.heap.size ∧ q ≠ w.heap.size + 1 + 1) wr l (.slice ud (Fo.len l) uc)) := (HU.out.toB.grow (fun _ h => h) hBw).wide (fun q hq => ⟨by have := hBw.size; omega, by omega⟩)
      clear q0 q1 q2 q3 q4 q5 hrow hPC hB
      go_wp2_with fail
      refine (extend_any (xv, xn) k w.heap.size _ s _ xs (yv, yn) l _ _ wr HOw.out hBw.size HSB.out HUB.out Hok.out Hnar.out hlen).mono ?_
      rintro e w2 ⟨hf2, x1, xm, x3, ok, rfl, hno, hyes⟩
      have Hf : Hid (MorePost w s ((xv, xn), k) ((yv, yn), l) (.returned (.tuple #[.slice x1 xm x3, .bool ok])) w2) := by
        refine ⟨?_, x1, xm, x3, ok, rfl, hno, fun e => ?_⟩
        · refine hBw.trans (hf2.below hBw.size (fun g hg => ?_) (fun g hg => by cases hg))
          simp [Value.ownBlock] at hg
          omega
        · obtain ⟨s', xs', h1, h2, h3, _⟩ := hyes e
          subst h2
          exact ⟨s', h1, rfl, h3.sub⟩
      clear hf2 hno hyes
      go_wp2_with fail
      go_ret2
      exact Hf.out
set_option maxRecDepth 100000 in
set_option maxHeartbeats 400000 in
theorem match_any (x : Bool × Int) (k : Fo) (a : Value) (y : Bool × Int) (l : Fo) (c : Value) (w : World) (hS : SIn w k a) (hU : SIn w l c) (hok : okT (y, l)) (hnar : narT (y, l)) (hlen : tszR k * 48 ≤ 140737488355328) :
    Calls Tryd.prog 64 #[.agg #[.bool x.1, .int .i64 x.2, a], .agg #[.bool y.1, .int .i64 y.2, c]] w (MorePost w [] (x, k) (y, l)) := by
  obtain ⟨xv, xn⟩ := x
  obtain ⟨yv, yn⟩ := y
  have HS := hide hS
  have HU := hide hU
  have Hok := hide hok
  have Hnar := hide hnar
  obtain ⟨ad, ac, b, o, rfl, -, -, -, -⟩ := hS
  obtain ⟨ud, uc, ub, uo, rfl, -, -, -, -⟩ := hU
  clear hok hnar
  go_enter Tryd.func64, Tryd.ntmps64
  go_wp2_with fail
  generalize hW2 : (w.alloc (.cells #[.bool xv, .int .i64 xn, .slice ad (Fo.len k) ac] 37)).alloc (.cells #[.bool yv, .int .i64 yn, .slice ud (Fo.len l) uc] 37) = W2
  have hB2 : Below w.heap.size w W2 := by rw [← hW2]; exact (below_alloc _ _).alloc (by simp) _
  refine (more_any [] (.slice none 0 0) (xv, xn) k _ (yv, yn) l _ W2 (SubIn.nil _) (fun p hp => by simp at hp) (HS.out.below hB2) (HU.out.below hB2) Hok.out Hnar.out (by simpa using hlen)).mono ?_
  rintro e w2 ⟨hb2, x1, xm, x3, ok, rfl, hno, hyes⟩
  have Hf : Hid (MorePost w [] ((xv, xn), k) ((yv, yn), l) (.returned (.tuple #[.slice x1 xm x3, .bool ok])) w2) := ⟨below_step hB2 hb2, x1, xm, x3, ok, rfl, hno, hyes⟩
  clear hno hyes hb2
  go_wp2_with fail
  go_ret2
  exact Hf.out
end Go.Proofs.YtlgnpiphaeoeiadDoor

namespace Go.Proofs.YtlgnpiphaeoeiadDoor
open Go.RowKit Go.Deep Go.ChangeShapes Go.WideShapes
attribute [local go_sem ↓] Go.wp_at_zero Go.wp_at_succ
theorem fin_norm {w : World} : ∀ {F : Fo} {b o : Nat}, FIn w F b o → FIn w (Fo.norm F) b o
  | .nil, _, _, _ => trivial
  | .node _ _ _ k r, _, _, ⟨h0, h1, ⟨a, c, b', o', h2, h3, h4, h5, h6⟩, h7⟩ => by
    refine ⟨h0, h1, ⟨a, c, b', o', ?_, ?_, ?_, h5, fin_norm h6⟩, fin_norm h7⟩
    · rw [norm_len]; exact h2
    · rw [norm_len]; exact h3
    · rw [norm_len]; exact h4
theorem sin_norm {w : World} {k : Fo} {a : Value} (h : SIn w k a) : SIn w (Fo.norm k) a := by
  obtain ⟨a, c, b, o, rfl, h3, h4, h5, h6⟩ := h
  exact ⟨a, c, b, o, by rw [norm_len], by rw [norm_len]; exact h3, by rw [norm_len]; exact h4, h5, fin_norm h6⟩
theorem norm_sizes : ∀ F : Fo, Fo.sizesR (Fo.norm F) = Fo.sizesR F
  | .nil => rfl
  | .node _ _ _ k r => by simp [Fo.norm, Fo.sizesR, norm_sizes k, norm_sizes r]
theorem good_of_walk {s : List Int} (hs : s.all okNum = true) : ∀ {F : Fo} {n : Nat}, n ≤ 13 → walkF s F (13 - (n : Int)) = 0 → Fo.ok (Fo.norm F) ∧ twoF (Fo.norm F) ∧ (∀ m, occF m (Fo.norm F) → 0 ≤ m ∧ m ≤ 4) ∧ depF (Fo.norm F) ≤ n
  | .nil, _, _, _ => ⟨trivial, trivial, fun m hm => by simp [Fo.norm, occF] at hm, Nat.zero_le _⟩
  | .node _ _ ⟨v, z⟩ k r, n, hn, h => by
    obtain ⟨hT, hr⟩ := walkF_ok h
    obtain ⟨hd, ha, hk⟩ := walkT_ok hT
    have h2 := alone_len hs ha
    obtain ⟨m, rfl⟩ : ∃ m, n = m + 1 := ⟨n - 1, by omega⟩
    have e : (13 : Int) - ((m + 1 : Nat) : Int) + 1 = 13 - (m : Int) := by omega
    rw [e] at hk
    obtain ⟨i1, i2, i3, i4⟩ := good_of_walk hs (n := m) (by omega) hk
    obtain ⟨j1, j2, j3, j4⟩ := good_of_walk hs (n := m + 1) hn hr
    simp only [Fo.norm]
    refine ⟨?_, ⟨by rw [norm_len]; exact h2, i2, j2⟩, fun q hq => ?_, ?_⟩
    · rw [ok_node]
      refine ⟨rfl, rfl, ⟨fun hv => ?_, i1⟩, j1⟩
      have hv' : v = true := hv
      subst hv'
      obtain ⟨rfl, _, _⟩ := alone_var ha
      rfl
    · rcases hq with hq | hq
      · cases v
        · exact i3 q (by simpa using hq)
        · obtain ⟨_, h0, h4⟩ := alone_var ha
          have : z = q := by simpa using hq
          omega
      · exact j3 q hq
    · simp only [depF]; omega
theorem gd_of_right {s : List Int} (hs : s.all okNum = true) {x : Bool × Int} {k : Fo} (h : wrongF s x k = 0) : Gd (x, Fo.norm k) ∧ depT (x, Fo.norm k) ≤ 12 ∧ tszR (Fo.norm k) ≤ 12 := by
  obtain ⟨h1, _, _, _, hw⟩ := right_of hs h
  have hF : walkF s (.node 0 0 x k .nil) (13 - ((12 : Nat) : Int)) = 0 := by
    have : walkT s x k 1 = 0 := hw
    simp only [walkF]
    have h3 : ∀ z : Int, z = 0 → (if z ≠ 0 then z else 0) = 0 := fun z hz => by simp [hz]
    exact h3 _ this
  obtain ⟨i1, i2, i3, i4⟩ := good_of_walk hs (n := 12) (by omega) hF
  simp only [Fo.norm] at i1 i2 i3 i4
  rw [ok_node] at i1
  rw [two_node] at i2
  refine ⟨⟨i1.2.2.1, i2.1, fun m hm => by have := i3 m (.inl hm); omega⟩, ?_, by unfold tszR at *; rw [norm_sizes]; exact h1⟩
  simp only [depF, depT] at *
  omega
theorem four_of_right {s : List Int} (hs : s.all okNum = true) {x : Bool × Int} {k : Fo} (h : wrongF s x k = 0) (m : Int) (hm : occT m (x, Fo.norm k)) : 0 ≤ m ∧ m ≤ 4 := by
  obtain ⟨h1, _, _, _, hw⟩ := right_of hs h
  have hF : walkF s (.node 0 0 x k .nil) (13 - ((12 : Nat) : Int)) = 0 := by
    have : walkT s x k 1 = 0 := hw
    simp only [walkF]
    have h3 : ∀ z : Int, z = 0 → (if z ≠ 0 then z else 0) = 0 := fun z hz => by simp [hz]
    exact h3 _ this
  obtain ⟨_, _, i3, _⟩ := good_of_walk hs (n := 12) (by omega) hF
  simp only [Fo.norm] at i3
  exact i3 m (.inl hm)
end Go.Proofs.YtlgnpiphaeoeiadDoor

namespace Go.Proofs.YtlgnpiphaeoeiadDoor
open Go.RowKit Go.Deep Go.ChangeShapes Go.WideShapes
theorem idx_cons {v n : Int} {vs : List Int} (h : ¬ v = n) : (v :: vs).idxOf n = vs.idxOf n + 1 := by
  have : (v == n) = false := by simp [h]
  rw [List.idxOf_cons, this, cond_false]
theorem look_num {n : Int} : ∀ {vs : List Int} {k : Nat}, look (vs.mapIdx fun i v => (v, vr ((i + k : Nat) : Int))) n = if n ∈ vs then some (vr ((vs.idxOf n + k : Nat) : Int)) else none
  | [], _ => rfl
  | v :: vs, k => by
    rw [List.mapIdx_cons, look]
    by_cases h : v = n
    · subst h
      simp
    · have hn : ¬ n = v := fun e => h e.symm
      rw [if_neg (by simpa using h)]
      have e : (fun i (v : Int) => (v, vr ((i + 1 + k : Nat) : Int))) = fun i v => (v, vr ((i + (k + 1) : Nat) : Int)) := by
        funext i v; rw [show i + 1 + k = i + (k + 1) by omega]
      rw [e, look_num (vs := vs) (k := k + 1)]
      by_cases hm : n ∈ vs
      · rw [if_pos hm, if_pos (by simp [hm]), idx_cons h]
        rw [show vs.idxOf n + (k + 1) = vs.idxOf n + 1 + k by omega]
      · rw [if_neg hm, if_neg (by simp [hm, hn])]
theorem bnd_num {vs : List Int} {n : Int} (h : n ∈ vs) : bnd (numS vs) n = vr (vs.idxOf n : Nat) := by
  have := look_num (n := n) (vs := vs) (k := 0)
  simp only [Nat.add_zero] at this
  rw [if_pos h] at this
  exact bnd_some this
theorem varsT_mem {x : Bool × Int} {k : Fo} {l : List Int} {m : Int} : m ∈ varsT x k l ↔ m ∈ l ∨ occT m (x, k) := by
  unfold varsT
  obtain ⟨v, n⟩ := x
  cases v with
  | true =>
    simp only [if_true, occT]
    by_cases h : hasB l n = true
    · rw [if_pos h]
      have hn : n ∈ l := by simpa [hasB] using h
      constructor
      · exact .inl
      · rintro (h | rfl); exact h; exact hn
    · rw [if_neg h]; simp [eq_comm]
  | false => simp only [Bool.false_eq_true, if_false, occT]; exact occ_varsF
def occL (m : Int) (l : Lt) : Prop := occT m l.2.1 ∨ occT m l.2.2
theorem varsL_mem {l : Lt} {v : List Int} {m : Int} : m ∈ varsL l v ↔ m ∈ v ∨ occL m l := by
  unfold varsL occL
  rw [varsT_mem, varsT_mem, or_assoc]
theorem varsC_mem {m : Int} : ∀ {c : Cl} {v : List Int}, m ∈ varsC c v ↔ m ∈ v ∨ ∃ l ∈ c, occL m l
  | [], v => by simp [varsC]
  | l :: c, v => by
    show m ∈ varsC c (varsL l v) ↔ _
    rw [varsC_mem, varsL_mem]
    simp [or_assoc]
theorem varsT_nodup {x : Bool × Int} {k : Fo} {l : List Int} (h : l.Nodup) : (varsT x k l).Nodup := by
  unfold varsT
  split
  · split
    · exact h
    · rename_i hh
      rw [List.nodup_append]
      refine ⟨h, by simp, fun a ha b hb => ?_⟩
      simp at hb
      intro e
      rw [hb] at e
      exact hh (by simp [hasB, ← e, ha])
  · exact varsF_nodup h
theorem varsC_nodup : ∀ {c : Cl} {v : List Int}, v.Nodup → (varsC c v).Nodup
  | [], _, h => h
  | _ :: c, _, h => varsC_nodup (c := c) (varsT_nodup (varsT_nodup h))
theorem idx_inj {vs : List Int} {m n : Int} (hm : m ∈ vs) (h : vs.idxOf m = vs.idxOf n) : m = n := by
  have h1 : vs.idxOf m < vs.length := List.idxOf_lt_length_of_mem hm
  have h2 : vs[vs.idxOf m]'h1 = m := List.getElem_idxOf h1
  have h3 : vs.idxOf n < vs.length := by rw [← h]; exact h1
  have h4 : vs[vs.idxOf n]'h3 = n := List.getElem_idxOf h3
  rw [← h2, ← h4]
  simp only [h]
end Go.Proofs.YtlgnpiphaeoeiadDoor

namespace Go.Proofs.YtlgnpiphaeoeiadDoor
open Go.RowKit Go.Deep Go.ChangeShapes Go.WideShapes
theorem nodup_le : ∀ {l m : List Int}, l.Nodup → (∀ x ∈ l, x ∈ m) → l.length ≤ m.length
  | [], _, _, _ => Nat.zero_le _
  | a :: l, m, hn, hs => by
    rw [List.nodup_cons] at hn
    have ha : a ∈ m := hs a (by simp)
    have h1 := nodup_le (l := l) (m := m.erase a) hn.2 (fun x hx => by
      have hne : x ≠ a := fun e => hn.1 (e ▸ hx)
      exact (List.mem_erase_of_ne hne).2 (hs x (by simp [hx])))
    rw [List.length_erase_of_mem ha] at h1
    have := List.length_pos_of_mem ha
    simp only [List.length_cons]
    omega
theorem gc_few {d : Cl} (h : ∀ l ∈ d, GL l) : ∀ n ∈ varsC d [], 0 ≤ n ∧ n ≤ 4 := fun n hn => by
  rcases varsC_mem.1 hn with hn | ⟨l, hl, hn⟩
  · cases hn
  · rcases hn with hn | hn
    · exact ⟨((h l hl).gl.few n hn).1, (h l hl).fl n hn⟩
    · exact ⟨((h l hl).gr.few n hn).1, (h l hl).fr n hn⟩
theorem gc_vars {d : Cl} (h : ∀ l ∈ d, GL l) : (varsC d []).length ≤ 5 := by
  refine nodup_le (m := [0, 1, 2, 3, 4]) (varsC_nodup List.nodup_nil) (fun x hx => ?_)
  have := gc_few h x hx
  simp
  omega
theorem wgF_zero {c : Int → Nat} (hc : ∀ n, c n = 0) : ∀ F : Fo, wgF c F = 0
  | .nil => rfl
  | .node _ _ x k r => by rw [wgF, wgF_zero hc k, wgF_zero hc r, hc]; simp
theorem num_nil (vs : List Int) (n : Int) : (bnd (numS vs) n).2 = .nil := by
  by_cases h : n ∈ vs
  · rw [bnd_num h]; rfl
  · have := look_num (n := n) (vs := vs) (k := 0)
    simp only [Nat.add_zero] at this
    rw [if_neg h] at this
    have e : bnd (numS vs) n = vr n := bnd_none this
    rw [e]; rfl
theorem num_size {vs : List Int} {t : Tm} (h : okT t) : tszR (subT (bnd (numS vs)) t).2 = tszR t.2 := by
  have := subT_size (f := bnd (numS vs)) h
  simp only [szT, wgT] at this
  rw [wgF_zero (fun n => by rw [num_nil]; rfl)] at this
  rw [this, num_nil]
  simp [Fo.sizesR]
theorem num_gd {vs : List Int} (hl : vs.length ≤ 10) : ∀ p ∈ numS vs, Gd p.2 := fun p hp => by
  simp only [numS, List.mem_mapIdx] at hp
  obtain ⟨i, hi, rfl⟩ := hp
  exact gd_vr ⟨by omega, by omega⟩
theorem num_four {vs : List Int} (hl : vs.length ≤ 5) {t : Tm} (h : ∀ m, occT m t → m ≤ 4) : ∀ m, occT m (subT (bnd (numS vs)) t) → m ≤ 4 := fun m hm => by
  obtain ⟨n, h1, h2⟩ := occT_sub.1 hm
  by_cases hn : n ∈ vs
  · rw [bnd_num hn, occ_vr] at h2
    have := List.idxOf_lt_length_of_mem hn
    omega
  · have := look_num (n := n) (vs := vs) (k := 0)
    simp only [Nat.add_zero] at this
    rw [if_neg hn] at this
    have e : bnd (numS vs) n = vr n := bnd_none this
    rw [e, occ_vr] at h2
    rw [← h2]
    exact h n h1
theorem GL.num {vs : List Int} (hl : vs.length ≤ 5) {l : Lt} (h : GL l) : GL (mapL (subT (bnd (numS vs))) l) :=
  ⟨gd_sub (num_gd (by omega)) h.gl, gd_sub (num_gd (by omega)) h.gr, num_four hl h.fl, num_four hl h.fr, by simp only [mapL]; rw [num_size h.gl.ok]; exact h.sl, by simp only [mapL]; rw [num_size h.gr.ok]; exact h.sr⟩
theorem GL.okl {l : Lt} (h : GL l) : okL l := ⟨h.gl.ok, h.gr.ok⟩
theorem gc_ren {d : Cl} (h : GC d) : GC (reN d) := by
  refine ⟨by rw [reN, List.length_map]; exact h.1, fun l hl => ?_⟩
  obtain ⟨x, hx, rfl⟩ := List.mem_map.1 hl
  exact (h.2 x hx).num (gc_vars h.2)
theorem gc_dist {d e : Cl} (h : GC d) (he : distC d = some e) : GC e := by
  refine ⟨?_, dist_mem (p := GL) he (fun e he => by cases he; simp) h.2⟩
  have := dist_len (n := 0) he (fun e he => by cases he; simp)
  have := h.1
  omega
theorem gc_big {e : Cl} (h : GC e) : e.any bigL = false := by
  rw [List.any_eq_false]
  intro x hx
  have h1 := (h.2 x hx).sl
  have h2 := (h.2 x hx).sr
  simp [bigL]
  omega
theorem gc_keep {d e : Cl} (hd : GC d) (he : GC e) : keepC d e = (0, e) := by
  unfold keepC
  rw [if_neg]
  rintro (h | h | h)
  · have := he.1; omega
  · have := gc_vars hd.2; omega
  · rw [gc_big he] at h; cases h
theorem norm_cases {c : Cl} (hc : GC c) : (turnC c = none ∧ normC c = (6, [])) ∨ ∃ d, turnC c = some d ∧ GC d ∧ GC (reN d) ∧ ((distC (reN d) = none ∧ normC c = (6, [])) ∨ ∃ e, distC (reN d) = some e ∧ GC e ∧ normC c = (0, e)) := by
  cases ht : turnC c with
  | none => exact .inl ⟨rfl, by simp [normC, ht]⟩
  | some d =>
    have hd := turn_gc ht hc
    have hr := gc_ren hd
    refine .inr ⟨d, rfl, hd, hr, ?_⟩
    cases he : distC (reN d) with
    | none => exact .inl ⟨rfl, by simp [normC, ht, he]⟩
    | some e =>
      have hE := gc_dist hr he
      exact .inr ⟨e, rfl, hE, by simp only [normC, ht, he]; exact gc_keep hd hE⟩
structure GLx (l : Lt) : Prop where
  gl : Gd l.2.1
  gr : Gd l.2.2
  sl : tszR l.2.1.2 ≤ 4000000000000
  sr : tszR l.2.2.2 ≤ 4000000000000
def GX (c : Cl) : Prop := c.length ≤ 8 ∧ ∀ l ∈ c, GLx l
theorem GL.x {l : Lt} (h : GL l) : GLx l := ⟨h.gl, h.gr, by have := h.sl; omega, by have := h.sr; omega⟩
theorem GC.x {c : Cl} (h : GC c) : GX c := ⟨by have := h.1; omega, fun l hl => (h.2 l hl).x⟩
theorem GLx.flip {l : Lt} (h : GLx l) : GLx (flipL l) := by
  unfold flipL
  split
  · exact ⟨h.gr, h.gl, h.sr, h.sl⟩
  · exact h
theorem GLx.okl {l : Lt} (h : GLx l) : okL l := ⟨h.gl.ok, h.gr.ok⟩
theorem turn_gx {c d : Cl} (h : turnC c = some d) (hc : GX c) : GX d := by
  refine ⟨?_, turn_mem (p := GLx) h (fun e he => by cases he; simp) (fun l hl => (hc.2 l hl).flip)⟩
  have := turn_len (n := 0) h (fun e he => by cases he; simp)
  have := hc.1
  omega
theorem gx_few {d : Cl} (h : ∀ l ∈ d, GLx l) : ∀ n ∈ varsC d [], 0 ≤ n ∧ n ≤ 9 := fun n hn => by
  rcases varsC_mem.1 hn with hn | ⟨l, hl, hn⟩
  · cases hn
  · rcases hn with hn | hn
    · exact (h l hl).gl.few n hn
    · exact (h l hl).gr.few n hn
theorem gx_vars {d : Cl} (h : ∀ l ∈ d, GLx l) : (varsC d []).length ≤ 10 := by
  refine nodup_le (m := [0, 1, 2, 3, 4, 5, 6, 7, 8, 9]) (varsC_nodup List.nodup_nil) (fun x hx => ?_)
  have := gx_few h x hx
  simp
  omega
theorem GLx.num {vs : List Int} (hl : vs.length ≤ 10) {l : Lt} (h : GLx l) : GLx (mapL (subT (bnd (numS vs))) l) :=
  ⟨gd_sub (num_gd hl) h.gl, gd_sub (num_gd hl) h.gr, by simp only [mapL]; rw [num_size h.gl.ok]; exact h.sl, by simp only [mapL]; rw [num_size h.gr.ok]; exact h.sr⟩
theorem gx_ren {d : Cl} (h : GX d) : GX (reN d) := by
  refine ⟨by rw [reN, List.length_map]; exact h.1, fun l hl => ?_⟩
  obtain ⟨x, hx, rfl⟩ := List.mem_map.1 hl
  exact (h.2 x hx).num (gx_vars h.2)
theorem gx_dist {d e : Cl} (h : GX d) (he : distC d = some e) : GX e := by
  refine ⟨?_, dist_mem (p := GLx) he (fun e he => by cases he; simp) h.2⟩
  have := dist_len (n := 0) he (fun e he => by cases he; simp)
  have := h.1
  omega
theorem norm_casesX {c : Cl} (hc : GX c) : (turnC c = none ∧ normC c = (6, [])) ∨ ∃ d, turnC c = some d ∧ GX d ∧ GX (reN d) ∧ ((distC (reN d) = none ∧ normC c = (6, [])) ∨ ∃ e, distC (reN d) = some e ∧ GX e ∧ normC c = keepC d e) := by
  cases ht : turnC c with
  | none => exact .inl ⟨rfl, by simp [normC, ht]⟩
  | some d =>
    have hd := turn_gx ht hc
    have hr := gx_ren hd
    refine .inr ⟨d, rfl, hd, hr, ?_⟩
    cases he : distC (reN d) with
    | none => exact .inl ⟨rfl, by simp [normC, ht, he]⟩
    | some e => exact .inr ⟨e, rfl, gx_dist hr he, by simp only [normC, ht, he]⟩
theorem keep_big {d e : Cl} (h : (4 < e.length ∨ 5 < (varsC d []).length) ∨ e.any bigL = true) : keepC d e = (4, []) := if_pos (by
  rcases h with (h | h) | h
  · exact .inl h
  · exact .inr (.inl h)
  · exact .inr (.inr h))
theorem keep_ok {d e : Cl} (h1 : ¬ 4 < e.length) (h2 : ¬ 5 < (varsC d []).length) (h3 : e.any bigL = false) : keepC d e = (0, e) := if_neg (by
  rintro (h | h | h)
  · exact h1 h
  · exact h2 h
  · rw [h3] at h; cases h)
end Go.Proofs.YtlgnpiphaeoeiadDoor

namespace Go.Proofs.YtlgnpiphaeoeiadDoor
open Go.RowKit Go.Deep Go.ChangeShapes Go.WideShapes
def sigF (s : List Int) : Fo → Prop
  | .nil => True
  | .node _ _ x k r => (aloneF s x (Fo.len k) = 0 ∧ sigF s k) ∧ sigF s r
def sigT (s : List Int) (t : Tm) : Prop := aloneF s t.1 (Fo.len t.2) = 0 ∧ sigF s t.2
theorem sig_walkF {s : List Int} : ∀ {F : Fo} {d : Int}, walkF s F d = 0 → sigF s F
  | .nil, _, _ => trivial
  | .node _ _ x k r, d, h => by
    obtain ⟨hT, hr⟩ := walkF_ok h
    obtain ⟨_, ha, hk⟩ := walkT_ok hT
    exact ⟨⟨ha, sig_walkF hk⟩, sig_walkF hr⟩
theorem sig_walk {s : List Int} {t : Tm} {d : Int} (h : walkT s t.1 t.2 d = 0) : sigT s t := by
  obtain ⟨_, ha, hk⟩ := walkT_ok h
  exact ⟨ha, sig_walkF hk⟩
theorem sig_mem {s : List Int} : ∀ {F : Fo}, sigF s F → ∀ t ∈ F.list, sigT s t
  | .nil, _, t, h => by simp [Fo.list] at h
  | .node _ _ x k r, h, t, ht => by
    simp only [Fo.list, List.mem_cons] at ht
    rcases ht with rfl | ht
    · exact h.1
    · exact sig_mem h.2 t ht
theorem sig_subF {s : List Int} {f : Int → Tm} : ∀ {F : Fo}, (∀ n, occF n F → sigT s (f n)) → sigF s F → sigF s (subF f F)
  | .nil, _, _ => trivial
  | .node p q (b, n) k r, hf, h => by
    have hl : ∀ m, occT m ((b, n), k) → sigT s (f m) := fun m hm => hf m (by rw [occ_mem]; exact ⟨((b, n), k), by simp [Fo.list], hm⟩)
    have hr : ∀ m, occF m r → sigT s (f m) := fun m hm => hf m (by
      rw [occ_mem] at hm ⊢
      obtain ⟨t, ht, h2⟩ := hm
      exact ⟨t, by simp [Fo.list, ht], h2⟩)
    rw [subF_node]
    refine ⟨?_, sig_subF hr h.2⟩
    cases b with
    | true => rw [subT_var]; exact hl n (by simp [occT])
    | false =>
      rw [subT_sym]
      refine ⟨?_, sig_subF (fun m hm => hl m (by simp [occT, hm])) h.1.2⟩
      rw [subF_len]; exact h.1.1
theorem sig_sub {s : List Int} {f : Int → Tm} {t : Tm} (hf : ∀ n, occT n t → sigT s (f n)) (h : sigT s t) : sigT s (subT f t) := by
  obtain ⟨⟨b, n⟩, k⟩ := t
  cases b with
  | true => rw [subT_var]; exact hf n (by simp [occT])
  | false =>
    rw [subT_sym]
    refine ⟨?_, sig_subF (fun m hm => hf m (by simp [occT, hm])) h.2⟩
    rw [subF_len]; exact h.1
end Go.Proofs.YtlgnpiphaeoeiadDoor

namespace Go.Proofs.YtlgnpiphaeoeiadDoor
open Go.RowKit Go.Deep Go.ChangeShapes Go.WideShapes
theorem sig_few {s : List Int} : ∀ {F : Fo}, sigF s F → ∀ m, occF m F → 0 ≤ m ∧ m ≤ 4
  | .nil, _, m, h => by simp [occF] at h
  | .node p q (b, n) k r, h, m, hm => by
    rw [occF] at hm
    rcases hm with hm | hm
    · cases b with
      | true =>
        obtain ⟨_, h0, h4⟩ := alone_var h.1.1
        have : n = m := by simpa using hm
        omega
      | false => exact sig_few h.1.2 m (by simpa using hm)
    · exact sig_few h.2 m hm
theorem sig_fewT {s : List Int} {t : Tm} (h : sigT s t) : ∀ m, occT m t → 0 ≤ m ∧ m ≤ 4 := fun m hm => by
  refine sig_few (F := .node 0 0 t.1 t.2 .nil) ⟨h, trivial⟩ m ?_
  rw [occ_mem]
  exact ⟨t, by simp [Fo.list], hm⟩
end Go.Proofs.YtlgnpiphaeoeiadDoor
