/- A copy of a term in memory of the call's own: what own answers. -/
import Derived.Test.YtegdfnfengnjlaaDoorOwn
namespace Go.Proofs.YtegdfnfengnjlaaDoor
open Go.RowKit Go.Deep Go.ChangeShapes Go.WideShapes

theorem Tryd.info26 : (Tryd.prog.info? 26).map (fun i => (i.zero, i.size, i.bytes)) = some (some (.agg #[.bool false, .int .i64 0, .slice none 0 0]), 3, 40) := by kernel_rfl

/-- n cells are there, and may be written. -/
def There (w : World) (g n : Nat) : Prop := ∀ i, i < n → (∃ v, w.cell? ⟨g, i, none⟩ = some v) ∧ w.frozen? ⟨g, i, none⟩ = false

theorem set_other {w : World} {a b : Addr} {v : Value} (h : a ≠ b) : (w.setCell a v).cell? b = w.cell? b := by apply World.cell?_setCell_other; exact h
theorem set_same {w : World} {a : Addr} {u v : Value} (h : w.cell? a = some u) : (w.setCell a v).cell? a = some v := by
  apply World.cell?_setCell_same; exact h

theorem frozen_new (w : World) (c : Array Value) (t : TypeId) (i : Nat) : (w.alloc (.cells c t)).frozen? ⟨w.heap.size, i, none⟩ = false := by simp

/-- Three cells set, one after the other. -/
def set3 (w : World) (b o : Nat) (x y z : Value) : World := ((w.setCell ⟨b, o, none⟩ x).setCell ⟨b, o + 1, none⟩ y).setCell ⟨b, o + 2, none⟩ z

theorem set3_other {w : World} {b o : Nat} {x y z : Value} {q i : Nat} (h : q ≠ b ∨ i < o ∨ o + 3 ≤ i) : (set3 w b o x y z).cell? ⟨q, i, none⟩ = w.cell? ⟨q, i, none⟩ := by
  unfold set3
  rw [set_other (by intro e; simp only [Addr.mk.injEq] at e; omega), set_other (by intro e; simp only [Addr.mk.injEq] at e; omega), set_other (by intro e; simp only [Addr.mk.injEq] at e; omega)]
theorem set3_frozen {w : World} {b o : Nat} {x y z : Value} {q : Addr} : (set3 w b o x y z).frozen? q = w.frozen? q := by simp [set3]
theorem set3_size {w : World} {b o : Nat} {x y z : Value} : (set3 w b o x y z).heap.size = w.heap.size := by simp [set3, World.setCell]
theorem set3_cells {w : World} {b o : Nat} {x y z u0 u1 u2 : Value} (h0 : w.cell? ⟨b, o, none⟩ = some u0) (h1 : w.cell? ⟨b, o + 1, none⟩ = some u1) (h2 : w.cell? ⟨b, o + 2, none⟩ = some u2) :
    (set3 w b o x y z).cell? ⟨b, o, none⟩ = some x ∧ (set3 w b o x y z).cell? ⟨b, o + 1, none⟩ = some y ∧ (set3 w b o x y z).cell? ⟨b, o + 2, none⟩ = some z := by
  have e1 : (⟨b, o, none⟩ : Addr) ≠ ⟨b, o + 1, none⟩ := by intro e; simp only [Addr.mk.injEq] at e; omega
  have e2 : (⟨b, o, none⟩ : Addr) ≠ ⟨b, o + 2, none⟩ := by intro e; simp only [Addr.mk.injEq] at e; omega
  have e3 : (⟨b, o + 1, none⟩ : Addr) ≠ ⟨b, o + 2, none⟩ := by intro e; simp only [Addr.mk.injEq] at e; omega
  unfold set3
  refine ⟨?_, ?_, ?_⟩
  · rw [set_other e2.symm, set_other e1.symm, set_same h0]
  · rw [set_other e3.symm]
    exact set_same (by rw [set_other e1]; exact h1)
  · exact set_same (by rw [set_other e3, set_other e2]; exact h2)
theorem set3_below {B : Nat} {w w1 : World} {b o : Nat} {x y z : Value} (h : Below B w w1) (hb : B ≤ b) : Below B w (set3 w1 b o x y z) := ((h.setCell hb _).setCell hb _).setCell hb _

/-- So much of the copy is made: the first j terms lie in the row. -/
def OwnRel (w W2 : World) (k : Fo) (j : Nat) (wr : World) : Prop :=
  Below (w.heap.size + 2) W2 wr ∧ There wr (w.heap.size + 2) (Fo.len k * 3) ∧ WIn wr (Fo.take j k) (w.heap.size + 2) 0 (w.heap.size + 3) wr.heap.size ∧ w.heap.size + 3 ≤ wr.heap.size

theorem own_step {w W2 wr w2 : World} {k : Fo} {j : Nat} {yv : Bool} {yn : Int} {yk : Fo} {ob : Obj} {a : Value} (h : OwnRel w W2 k j wr) (hj : j < Fo.len k) (hy : k.list[j]? = some ((yv, yn), yk))
    (hb : Below (wr.heap.size + 1) (wr.alloc ob) w2) (hO : OwnV w2 (wr.heap.size + 1) w2.heap.size yk a) :
    OwnRel w W2 k (j + 1) (set3 w2 (w.heap.size + 2) (j * 3) (.bool yv) (.int .i64 yn) a) := by
  obtain ⟨hB, hT, hW, hs⟩ := h
  have hsz : wr.heap.size + 1 ≤ w2.heap.size := by have := hb.size; simpa using this
  have keep : ∀ q i, q < wr.heap.size → w2.cell? ⟨q, i, none⟩ = wr.cell? ⟨q, i, none⟩ ∧ w2.frozen? ⟨q, i, none⟩ = wr.frozen? ⟨q, i, none⟩ := fun q i hq => by
    rw [hb.cell (by show q < _; omega), hb.frozen (by show q < _; omega)]
    exact ⟨World.cell?_alloc_lt _ _ _ hq, (below_alloc wr ob).frozen (p := ⟨q, i, none⟩) hq⟩
  have hT2 : There w2 (w.heap.size + 2) (Fo.len k * 3) := fun i hi => by
    obtain ⟨⟨v, hv⟩, hf⟩ := hT i hi
    have := keep (w.heap.size + 2) i (by omega)
    exact ⟨⟨v, this.1.trans hv⟩, this.2.trans hf⟩
  obtain ⟨⟨u0, e0⟩, f0⟩ := hT2 (j * 3) (by omega)
  obtain ⟨⟨u1, e1⟩, f1⟩ := hT2 (j * 3 + 1) (by omega)
  obtain ⟨⟨u2, e2⟩, f2⟩ := hT2 (j * 3 + 2) (by omega)
  obtain ⟨g0, g1, g2⟩ := set3_cells (x := .bool yv) (y := .int .i64 yn) (z := a) e0 e1 e2
  refine ⟨set3_below (hB.trans ((below_box (hb.mono (by simp))).mono (by omega))) (Nat.le_refl _), ?_, ?_, by rw [set3_size]; omega⟩
  · intro i hi
    obtain ⟨⟨v, hv⟩, hf⟩ := hT2 i hi
    refine ⟨?_, by rw [set3_frozen]; exact hf⟩
    by_cases hc : i < j * 3 ∨ j * 3 + 3 ≤ i
    · exact ⟨v, by rw [set3_other (.inr hc)]; exact hv⟩
    · have : i = j * 3 ∨ i = j * 3 + 1 ∨ i = j * 3 + 2 := by omega
      rcases this with rfl | rfl | rfl
      · exact ⟨_, g0⟩
      · exact ⟨_, g1⟩
      · exact ⟨_, g2⟩
  · rw [set3_size]
    have e : j * 3 = 0 + 3 * j := by omega
    refine WIn.snoc (mid := wr.heap.size) (a := a) hy (hW.frame ?_ ?_) hs (by omega) (by rw [← e]; exact g0) (by rw [← e]; exact g1) (by rw [← e]; exact g2) (by rw [set3_frozen, ← e]; exact f0) (by rw [set3_frozen, ← e]; exact f1) (by rw [set3_frozen, ← e]; exact f2) ?_
    · intro i _ hi
      rw [take_len j k (by omega)] at hi
      rw [set3_other (.inr (.inl (by omega))), set3_frozen]
      exact keep _ _ (by omega)
    · intro q i q1 q2
      rw [set3_other (.inl (by omega)), set3_frozen]
      exact keep _ _ q2
    · refine (hO.mono (by omega) (Nat.le_refl _)).frame ?_
      intro q i q1 q2
      rw [set3_other (.inl (by omega)), set3_frozen]
      exact ⟨rfl, rfl⟩

theorem own_start (w W2 : World) (k : Fo) (z : Array Value) (h2 : W2.heap.size = w.heap.size + 2) : OwnRel w W2 k 0 (W2.alloc (.cells (madeCells z (Fo.len k * 3)) 26)) := by
  refine ⟨(Below.refl _ _).alloc (by omega) _, fun i hi => ⟨?_, ?_⟩, trivial, by simp; omega⟩
  · rw [← h2, World.cell?_alloc_new]
    exact ⟨_, Array.getElem?_eq_getElem (by rw [size_madeCells]; exact hi)⟩
  · rw [← h2]; exact frozen_new _ _ _ _

/-- The copy is made; what is written then is no part of it. -/
theorem own_end {w W2 wr w' : World} {k : Fo} (h : OwnRel w W2 k (Fo.len k) wr) (h0 : 0 < Fo.len k) (h1 : Fo.len k ≤ 1000) (hs : w'.heap.size = wr.heap.size)
    (hc : ∀ q i, w.heap.size + 2 ≤ q → w'.cell? ⟨q, i, none⟩ = wr.cell? ⟨q, i, none⟩ ∧ w'.frozen? ⟨q, i, none⟩ = wr.frozen? ⟨q, i, none⟩) :
    OwnV w' w.heap.size w'.heap.size k (.slice (some ⟨w.heap.size + 2, 0, none⟩) (Fo.len k) (Fo.len k)) := by
  obtain ⟨_, _, hW, hsz⟩ := h
  rw [take_all] at hW
  rw [hs]
  exact .inr ⟨w.heap.size + 2, by omega, by omega, h0, h1, rfl, hW.frame (fun i _ _ => hc _ _ (by omega)) (fun q i q1 q2 => hc _ _ (by omega))⟩

def OwnSaid (x : Bool × Int) (k : Fo) : Prop := ∀ (a : Value) (w : World), SIn w k a → Fo.len k ≤ 1000 → Fo.narrow k →
    Calls Tryd.prog 43 #[.agg #[.bool x.1, .int .i64 x.2, a]] w fun e w' => ∃ a', e = .returned (.agg #[.bool x.1, .int .i64 x.2, a']) ∧ OwnV w' w.heap.size w'.heap.size k a' ∧ Below w.heap.size w w'

set_option maxHeartbeats 1000000 in
theorem own_any (x : Bool × Int) (k : Fo) : OwnSaid x k := by
  refine Fo.ind1 (p := OwnSaid) ?_ x k
  clear x k
  intro x k ih a w hS hlen hnar
  obtain ⟨v, n⟩ := x
  obtain ⟨ad, c, b, o, rfl, had, hlc, hcm, hF⟩ := hS
  have Hl := hide (Fo.len_list k)
  have HI := hide ih
  have HF := hide hF
  have Hnar := hide hnar
  clear ih hF hnar
  unfold maxLen at hcm
  by_cases h0 : Fo.len k = 0
  · have h0' : ((Fo.len k : Int) == 0) = true := by simp [h0]
    have Hk := hide (len_zero h0)
    clear h0
    go_enter Tryd.func43, Tryd.ntmps43
    go_wp2_with fail
    refine bodyPost_ret (v := .agg #[.bool v, .int .i64 n, .slice none 0 0]) (by simp [results, Tryd.results43, go_sem]) rfl ⟨_, rfl, .inl ⟨Hk.out, rfl⟩, ?_⟩
    exact (below_alloc _ _).alloc (by simp) _
  · have h0' : ((Fo.len k : Int) == 0) = false := by simp [h0]
    have ha : ad = some ⟨b, o, none⟩ := had (by omega)
    subst ha
    clear h0 had
    obtain ⟨i26, hi, hz0, hz1, hz2⟩ := info_parts Tryd.info26
    have hmk := fun w : World => run_make (P := Tryd.prog) w 24 26 i26 _ Tryd.underlying24 hi hz0 .i64 .i64 (Fo.len k : Int) (Fo.len k : Int) (by omega) (by omega) (by rw [hz2]; omega) (by omega)
    rw [hz1] at hmk
    simp only [Int.toNat_natCast] at hmk
    go_enter Tryd.func43, Tryd.ntmps43
    go_wp2_with fail
    clear hmk hi hz0 hz1 hz2
    generalize hW2 : (w.alloc (.cells #[.bool v, .int .i64 n, .slice (some ⟨b, o, none⟩) (Fo.len k) c] 26)).alloc (.cells #[.bool false, .int .i64 0, .slice none 0 0] 26) = W2
    have hs2 : W2.heap.size = w.heap.size + 2 := by rw [← hW2]; simp
    have HB2 : Hid (Below w.heap.size w W2) := by rw [← hW2]; exact (below_alloc _ _).alloc (by simp) _
    have q0 : W2.cell? ⟨w.heap.size, 0, none⟩ = some (.bool v) := by rw [← hW2]; simp
    have q1 : W2.cell? ⟨w.heap.size, 1, none⟩ = some (.int .i64 n) := by rw [← hW2]; simp
    have q2 : W2.cell? ⟨w.heap.size, 2, none⟩ = some (.slice (some ⟨b, o, none⟩) (Fo.len k) c) := by rw [← hW2]; simp
    have fz : ∀ q i, q < W2.heap.size → w.heap.size ≤ q → W2.frozen? ⟨q, i, none⟩ = false := fun q i h1 h2 => by
      rw [hs2] at h1
      have : q = w.heap.size ∨ q = w.heap.size + 1 := by omega
      rw [← hW2]
      rcases this with rfl | rfl
      · rw [(below_alloc _ _).frozen (by simp)]; exact frozen_new _ _ _ _
      · simp
    have r0 : W2.cell? ⟨w.heap.size + 1, 0, none⟩ = some (.bool false) := by rw [← hW2]; simp
    have r1 : W2.cell? ⟨w.heap.size + 1, 1, none⟩ = some (.int .i64 0) := by rw [← hW2]; simp
    have r2 : W2.cell? ⟨w.heap.size + 1, 2, none⟩ = some (.slice none 0 0) := by rw [← hW2]; simp
    have HQ := hide (And.intro q0 (And.intro q1 (And.intro q2 (And.intro r0 (And.intro r1 r2)))))
    have Hfz := hide fz
    have Hs2 := hide hs2
    clear q0 q1 q2 r0 r1 r2 fz hs2 hW2
    go_loopw [19] (fun i wr => ∃ j : Nat, j ≤ Fo.len k ∧ i = .int .i64 j ∧ OwnRel w W2 k j wr) (fun i _ => Fo.len k - (intOf i).toNat)
    case atStart => exact ⟨0, Nat.zero_le _, rfl, own_start w W2 k _ Hs2.out⟩
    case round =>
      obtain ⟨j, hj, rfl, hR⟩ := hrel
      have HR := hide hR
      obtain ⟨hB, hT, -, hsz⟩ := hR
      have HB := hide hB
      have hBw : Below w.heap.size w wr := HB2.out.trans (hB.mono (by omega))
      by_cases hlt : j < Fo.len k
      · have hlt' : (j : Int) < (Fo.len k : Int) := by omega
        obtain ⟨⟨⟨yv, yn⟩, yk⟩, hy⟩ : ∃ y, k.list[j]? = some y := ⟨k.list[j]'(by rw [Hl.out]; exact hlt), by simp⟩
        obtain ⟨c0, c1, yv', c2, hSy⟩ := (HF.out.below hBw).at hy
        have HS := hide hSy
        obtain ⟨ya, yc, yb, yo, rfl, -, -, -, -⟩ := hSy
        have Hny := hide (narrow_at Hnar.out hy)
        have Hy := hide hy
        obtain ⟨⟨t0, e0⟩, f0⟩ := hT (j * 3) (by omega)
        obtain ⟨⟨t1, e1⟩, f1⟩ := hT (j * 3 + 1) (by omega)
        obtain ⟨⟨t2, e2⟩, f2⟩ := hT (j * 3 + 2) (by omega)
        clear hy hT hB
        go_wp2_with fail
        refine (HI.out ((yv, yn), yk) (List.mem_of_getElem? Hy.out) _ _ (HS.out.alloc _) Hny.out.1 Hny.out.2).mono ?_
        rintro e w2 ⟨a', rfl, hO2, hb2⟩
        have hb2' : Below (wr.heap.size + 1) (wr.alloc (.cells #[.bool yv, .int .i64 yn, .slice ya (Fo.len yk) yc] 26)) w2 := by simpa using hb2
        have hO2' : OwnV w2 (wr.heap.size + 1) w2.heap.size yk a' := by simpa using hO2
        have Hstep := hide (own_step HR.out hlt Hy.out hb2' hO2')
        have hb3 := below_box hb2
        have e0' := grow_cell hb3 _ _ e0
        have e1' := grow_cell hb3 _ _ e1
        have e2' := grow_cell hb3 _ _ e2
        have f0' : w2.frozen? ⟨w.heap.size + 2, j * 3, none⟩ = false := (hb3.frozen (by show w.heap.size + 2 < _; omega)).trans f0
        have f1' : w2.frozen? ⟨w.heap.size + 2, j * 3 + 1, none⟩ = false := (hb3.frozen (by show w.heap.size + 2 < _; omega)).trans f1
        have f2' : w2.frozen? ⟨w.heap.size + 2, j * 3 + 2, none⟩ = false := (hb3.frozen (by show w.heap.size + 2 < _; omega)).trans f2
        have hza : ∃ za zl zc, a' = .slice za zl zc := by
          rcases hO2 with ⟨_, rfl⟩ | ⟨g, _, _, _, _, rfl, _⟩
          · exact ⟨_, _, _, rfl⟩
          · exact ⟨_, _, _, rfl⟩
        obtain ⟨za, zl, zc, hza⟩ := hza
        subst hza
        clear hb2 hb2' hO2 hO2' hb3 e0 e1 e2 f0 f1 f2 hBw
        go_wp2_with fail
        go_roundw
        case rel => exact ⟨j + 1, by omega, by go_num, Hstep.out⟩
        case measure => simp [intOf]; omega
      · have hje : j = Fo.len k := by omega
        subst hje
        have hs2 := Hs2.out
        obtain ⟨q0, q1, q2, r0, r1, r2⟩ := HQ.out
        have p0 : wr.cell? ⟨w.heap.size, 0, none⟩ = some (.bool v) := (HB.out.cell (by show w.heap.size < _; omega)).trans q0
        have p1 : wr.cell? ⟨w.heap.size, 1, none⟩ = some (.int .i64 n) := (HB.out.cell (by show w.heap.size < _; omega)).trans q1
        have p2 : wr.cell? ⟨w.heap.size, 2, none⟩ = some (.slice (some ⟨b, o, none⟩) (Fo.len k) c) := (HB.out.cell (by show w.heap.size < _; omega)).trans q2
        have s0 : wr.cell? ⟨w.heap.size + 1, 0, none⟩ = some (.bool false) := (HB.out.cell (by show w.heap.size + 1 < _; omega)).trans r0
        have s1 : wr.cell? ⟨w.heap.size + 1, 1, none⟩ = some (.int .i64 0) := (HB.out.cell (by show w.heap.size + 1 < _; omega)).trans r1
        have s2 : wr.cell? ⟨w.heap.size + 1, 2, none⟩ = some (.slice none 0 0) := (HB.out.cell (by show w.heap.size + 1 < _; omega)).trans r2
        have z0 : wr.frozen? ⟨w.heap.size, 2, none⟩ = false := (HB.out.frozen (by show w.heap.size < _; omega)).trans (Hfz.out _ _ (by omega) (by omega))
        have z1 : wr.frozen? ⟨w.heap.size + 1, 0, none⟩ = false := (HB.out.frozen (by show w.heap.size + 1 < _; omega)).trans (Hfz.out _ _ (by omega) (by omega))
        have z2 : wr.frozen? ⟨w.heap.size + 1, 1, none⟩ = false := (HB.out.frozen (by show w.heap.size + 1 < _; omega)).trans (Hfz.out _ _ (by omega) (by omega))
        have z3 : wr.frozen? ⟨w.heap.size + 1, 2, none⟩ = false := (HB.out.frozen (by show w.heap.size + 1 < _; omega)).trans (Hfz.out _ _ (by omega) (by omega))
        clear q0 q1 q2 r0 r1 r2 hs2 hT hB
        go_wp2_with fail
        have e2 : ∀ q i, w.heap.size + 2 ≤ q → ((⟨w.heap.size, 2, none⟩ : Addr) ≠ ⟨q, i, none⟩ ∧ ∀ j, (⟨w.heap.size + 1, j, none⟩ : Addr) ≠ ⟨q, i, none⟩) := fun q i hq => ⟨by intro e; simp only [Addr.mk.injEq] at e; omega, fun j e => by simp only [Addr.mk.injEq] at e; omega⟩
        refine bodyPost_ret (v := .agg #[.bool v, .int .i64 n, .slice (some ⟨w.heap.size + 2, 0, none⟩) (Fo.len k) (Fo.len k)]) (by simp [results, Tryd.results43, go_sem, s0, s1, s2]) rfl ⟨_, rfl, ?_, ?_⟩
        · refine own_end HR.out (by simp at h0'; omega) hlen (by simp [World.setCell]) fun q i hq => ⟨?_, by simp⟩
          rw [set_other ((e2 q i hq).2 _), set_other ((e2 q i hq).2 _), set_other ((e2 q i hq).2 _), set_other (e2 q i hq).1]
        · exact (((hBw.setCell (Nat.le_refl _) _).setCell (by simp) _).setCell (by simp) _).setCell (by simp) _

end Go.Proofs.YtegdfnfengnjlaaDoor
