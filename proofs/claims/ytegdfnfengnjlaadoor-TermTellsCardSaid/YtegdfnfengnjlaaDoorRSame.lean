/- Whether two terms are the same: the document's Same, and the law's own same. -/
import Derived.Test.YtegdfnfengnjlaaDoorOpen
namespace Go.Proofs.YtegdfnfengnjlaaDoor
open Go.RowKit Go.Deep Go.ChangeShapes Go.WideShapes
attribute [local go_sem ↓] Go.wp_at_zero Go.wp_at_succ

theorem box2_cells {w wr : World} {x y z x' y' z' : Value} {T T' : TypeId} (h : Below (w.heap.size + 2) ((w.alloc (.cells #[x, y, z] T)).alloc (.cells #[x', y', z'] T')) wr) :
    (wr.cell? ⟨w.heap.size, 0, none⟩ = some x ∧ wr.cell? ⟨w.heap.size, 1, none⟩ = some y ∧ wr.cell? ⟨w.heap.size, 2, none⟩ = some z) ∧
    (wr.cell? ⟨w.heap.size + 1, 0, none⟩ = some x' ∧ wr.cell? ⟨w.heap.size + 1, 1, none⟩ = some y' ∧ wr.cell? ⟨w.heap.size + 1, 2, none⟩ = some z') ∧ Below w.heap.size w wr ∧ w.heap.size + 1 < wr.heap.size := by
  have h2 : Below ((w.alloc (.cells #[x, y, z] T)).heap.size + 1) ((w.alloc (.cells #[x, y, z] T)).alloc (.cells #[x', y', z'] T')) wr := by simpa using h
  obtain ⟨a0, a1, a2, a3, a4⟩ := box_cells h2
  have a3' : Below (w.heap.size + 1) (w.alloc (.cells #[x, y, z] T)) wr := by simpa using a3
  obtain ⟨c0, c1, c2, c3, c4⟩ := box_cells a3'
  simp only [World.size_alloc] at a0 a1 a2 a4
  exact ⟨⟨c0, c1, c2⟩, ⟨a0, a1, a2⟩, c3, by simpa using a4⟩

def SameRSaid (x : Bool × Int) (k : Fo) : Prop := ∀ (y : Bool × Int) (l : Fo) (a c : Value) (w : World), SIn w k a → SIn w l c →
    Calls Tryd.prog 11 #[.agg #[.bool x.1, .int .i64 x.2, a], .agg #[.bool y.1, .int .i64 y.2, c]] w fun e w' => e = .returned (.bool (sameT x k y l)) ∧ Below w.heap.size w w'

set_option maxHeartbeats 1000000 in
theorem sameR_any (x : Bool × Int) (k : Fo) : SameRSaid x k := by
  refine Fo.ind1 (p := SameRSaid) ?_ x k
  clear x k
  intro x k ih y l a c w hS1 hS2
  obtain ⟨xv, xn⟩ := x
  obtain ⟨yv, yn⟩ := y
  have HS1 := hide hS1
  have HS2 := hide hS2
  obtain ⟨a1, c1, b1, o1, rfl, had1, hlc1, hcm1, hF1⟩ := hS1
  obtain ⟨a2, c2, b2, o2, rfl, had2, hlc2, hcm2, hF2⟩ := hS2
  unfold maxLen at hcm1 hcm2
  have HI := hide ih
  have Hl1 := hide (Fo.len_list k)
  have Hl2 := hide (Fo.len_list l)
  have HF1 := hide hF1
  have HF2 := hide hF2
  clear ih hF1 hF2
  by_cases hv : xv = yv
  · by_cases hn : xn = yn
    · by_cases hll : Fo.len k = Fo.len l
      · subst hv hn
        have Hf : Hid (sameT (xv, xn) k (xv, xn) l = sameF k l) := by simp [Hid, sameT]
        have hllb : ((Fo.len k : Int) != (Fo.len l : Int)) = false := by simp [hll]
        have Hll := hide hll
        have hll1 : Fo.len l ≤ Fo.len k := by omega
        have hll2 : Fo.len k ≤ Fo.len l := by omega
        clear hll
        go_enter Tryd.func11, Tryd.ntmps11
        go_wp2_with fail
        go_loopw [30] (fun i wr => ∃ j : Nat, j ≤ Fo.len k ∧ i = .int .i64 j ∧ eqOk k l j ∧ Below (w.heap.size + 2) ((w.alloc (.cells #[.bool xv, .int .i64 xn, .slice a1 (Fo.len k) c1] 26)).alloc (.cells #[.bool xv, .int .i64 xn, .slice a2 (Fo.len l) c2] 26)) wr) (fun i _ => Fo.len k - (intOf i).toNat)
        case atStart => exact ⟨0, Nat.zero_le _, rfl, fun i hi => by omega, Below.refl _ _⟩
        case round =>
          obtain ⟨j, hj, rfl, hok, hBx⟩ := hrel
          obtain ⟨⟨-, -, t2⟩, ⟨-, -, u2⟩, hBr, hlt0⟩ := box2_cells hBx
          have Hok := hide hok
          have HBx := hide hBx
          clear hok hBx
          by_cases hlt : j < Fo.len k
          · have hlt' : (j : Int) < (Fo.len k : Int) := by omega
            have hlt2 : (j : Int) < (Fo.len l : Int) := by omega
            have hj0 : (0 : Int) ≤ (j : Int) := by omega
            obtain ⟨⟨⟨yv, yn⟩, yk⟩, hy⟩ : ∃ y, k.list[j]? = some y := ⟨k.list[j]'(by rw [Hl1.out]; exact hlt), by simp⟩
            obtain ⟨⟨⟨zv, zn⟩, zk⟩, hz⟩ : ∃ y, l.list[j]? = some y := ⟨l.list[j]'(by rw [Hl2.out]; omega), by simp⟩
            obtain ⟨p0, p1, yv', p2, hSy⟩ := (HF1.out.below hBr).at hy
            obtain ⟨q0, q1, zv', q2, hSz⟩ := (HF2.out.below hBr).at hz
            have ha1 : a1 = some ⟨b1, o1, none⟩ := had1 (by omega)
            have ha2 : a2 = some ⟨b2, o2, none⟩ := had2 (by omega)
            subst ha1 ha2
            have HSy := hide hSy
            have HSz := hide hSz
            obtain ⟨ya, yc, yb, yo, rfl, -, -, -, -⟩ := hSy
            obtain ⟨za, zc, zb, zo, rfl, -, -, -, -⟩ := hSz
            have Hy := hide hy
            have Hz := hide hz
            clear hy hz had1 had2
            go_upto_region 6 with fail
            go_cut [44] (fun s44 wx => s44 = .bool (!(sameT (yv, yn) yk (zv, zn) zk)) ∧ Below wr.heap.size wr wx)
            case first =>
              go_region_held3 (fun w' => w'.cell? ⟨w.heap.size, 2, none⟩ = some (.slice (some ⟨b1, o1, none⟩) (Fo.len k) c1) ∧ w'.cell? ⟨w.heap.size + 1, 2, none⟩ = some (.slice (some ⟨b2, o2, none⟩) (Fo.len l) c2) ∧ w'.cell? ⟨b1, o1 + j * 3, none⟩ = some (.bool yv) ∧ w'.cell? ⟨b1, o1 + j * 3 + 1, none⟩ = some (.int .i64 yn) ∧ w'.cell? ⟨b1, o1 + j * 3 + 2, none⟩ = some (.slice ya (Fo.len yk) yc)
                  ∧ w'.cell? ⟨b2, o2 + j * 3, none⟩ = some (.bool zv) ∧ w'.cell? ⟨b2, o2 + j * 3 + 1, none⟩ = some (.int .i64 zn) ∧ w'.cell? ⟨b2, o2 + j * 3 + 2, none⟩ = some (.slice za (Fo.len zk) zc))
                (first
                  | go_keep
                  | exact ⟨grow_cell hb2 _ _ t2, grow_cell hb2 _ _ u2, grow_cell hb2 _ _ p0, grow_cell hb2 _ _ p1, grow_cell hb2 _ _ p2, grow_cell hb2 _ _ q0, grow_cell hb2 _ _ q1, grow_cell hb2 _ _ q2⟩)
                (first
                  | (go_at_call 11; refine (HI.out ((yv, yn), yk) (List.mem_of_getElem? Hy.out) (zv, zn) zk _ _ _ ?_ ?_).mono ?_; (exact HSy.out.drew); (exact HSz.out.drew); rintro e w2 ⟨rfl, hb2⟩))
              go_wp2_with fail
              go_meet
              case rel => exact ⟨rfl, ((Below.refl _ _).drew).trans hb2⟩
            case rest =>
              obtain ⟨rfl, hb2⟩ := hcut
              generalize wc = w2 at *
              have HB2 := hide (HBx.out.trans (hb2.mono (by omega)))
              cases he : sameT (yv, yn) yk (zv, zn) zk
              · have Hf2 : Hid (sameF k l = false) := sameF_bad Hy.out Hz.out he
                have hB2 := below_step hBr hb2
                clear he
                go_wp2_with fail
                go_ret
                exact ⟨by rw [Hf.out, Hf2.out]; rfl, hB2⟩
              · have Hok2 := hide (eqOk_succ Hok.out Hy.out Hz.out he)
                clear he
                go_wp2_with fail
                go_roundw
                case rel => exact ⟨j + 1, by omega, by go_num, Hok2.out, HB2.out⟩
                case measure => simp [intOf]; omega
          · have Hf2 : Hid (sameF k l = true) := by
              have e : j = Fo.len k := by omega
              have := Hok.out
              rw [e] at this
              exact sameF_end Hll.out this
            go_wp2_with fail
            go_ret
            exact ⟨by rw [Hf.out, Hf2.out]; rfl, hBr⟩
      · have hllb : ((Fo.len k : Int) != (Fo.len l : Int)) = true := by simp; omega
        have Hf : Hid (sameT (xv, xn) k (yv, yn) l = false) := by
          have : sameF k l = false := by rw [Bool.eq_false_iff]; exact fun h => hll (sameF_len h)
          simp [Hid, sameT, this]
        subst hv hn
        go_enter Tryd.func11, Tryd.ntmps11
        go_wp2_with fail
        go_ret
        exact ⟨by rw [Hf.out]; rfl, (below_alloc _ _).alloc (by simp) _⟩
    · have Hf : Hid (sameT (xv, xn) k (yv, yn) l = false) := by simp [Hid, sameT, hn]
      have hnb : (xn != yn) = true := by simpa using hn
      subst hv
      clear hn
      go_enter Tryd.func11, Tryd.ntmps11
      go_wp2_with fail
      go_ret
      exact ⟨by rw [Hf.out]; rfl, (below_alloc _ _).alloc (by simp) _⟩
  · have Hf : Hid (sameT (xv, xn) k (yv, yn) l = false) := by simp [Hid, sameT, hv]
    have e : yv = !xv := by cases xv <;> cases yv <;> simp_all
    subst e
    clear hv
    cases xv
    · go_enter Tryd.func11, Tryd.ntmps11
      go_wp2_with fail
      go_ret
      exact ⟨by rw [Hf.out]; rfl, (below_alloc _ _).alloc (by simp) _⟩
    · go_enter Tryd.func11, Tryd.ntmps11
      go_wp2_with fail
      go_ret
      exact ⟨by rw [Hf.out]; rfl, (below_alloc _ _).alloc (by simp) _⟩

/-- The law's own: the same numbers? -/
theorem nums_end {p q : List Int} (hl : p.length = q.length) (h : ∀ i, i < p.length → p.getD i 0 = q.getD i 0) : p = q := by
  apply List.ext_getElem hl
  intro i h1 h2
  have := h i h1
  simpa [List.getD_eq_getElem?_getD, h1, h2] using this

set_option maxHeartbeats 1000000 in
theorem nums_any (p q : List Int) (pv qv : Value) (w : World) (hp : NIn w p pv) (hq : NIn w q qv) :
    Calls Tryd.prog 22 #[pv, qv] w fun e w' => e = .returned (.bool (decide (p = q))) ∧ Below w.heap.size w w' := by
  obtain ⟨a1, c1, b1, o1, rfl, had1, hlc1, hcm1, hF1⟩ := hp
  obtain ⟨a2, c2, b2, o2, rfl, had2, hlc2, hcm2, hF2⟩ := hq
  unfold maxLen at hcm1 hcm2
  have HF1 := hide hF1
  have HF2 := hide hF2
  clear hF1 hF2
  by_cases hll : p.length = q.length
  · have hllb : ((p.length : Int) != (q.length : Int)) = false := by simp [hll]
    have Hll := hide hll
    have hll1 : q.length ≤ p.length := by omega
    have hll2 : p.length ≤ q.length := by omega
    clear hll
    go_enter Tryd.func22, Tryd.ntmps22
    go_wp2_with fail
    go_loopw [13] (fun i wr => ∃ j : Nat, j ≤ p.length ∧ i = .int .i64 j ∧ (∀ i, i < j → p.getD i 0 = q.getD i 0) ∧ Below w.heap.size w wr) (fun i _ => p.length - (intOf i).toNat)
    case atStart => exact ⟨0, Nat.zero_le _, rfl, fun i hi => by omega, Below.refl _ _⟩
    case round =>
      obtain ⟨j, hj, rfl, hok, hBr⟩ := hrel
      have Hok := hide hok
      clear hok
      by_cases hlt : j < p.length
      · have hlt' : (j : Int) < (p.length : Int) := by omega
        have hlt2 : (j : Int) < (q.length : Int) := by omega
        have hj0 : (0 : Int) ≤ (j : Int) := by omega
        have ha1 : a1 = some ⟨b1, o1, none⟩ := had1 (by omega)
        have ha2 : a2 = some ⟨b2, o2, none⟩ := had2 (by omega)
        subst ha1 ha2
        have p0 := grow_cell hBr _ _ (HF1.out j (by omega))
        have q0 := grow_cell hBr _ _ (HF2.out j (by omega))
        have Hne : Hid (p.getD j 0 ≠ q.getD j 0 → ¬ p = q) := fun h e => h (by rw [e])
        have Hst : Hid (p.getD j 0 = q.getD j 0 → ∀ i, i < j + 1 → p.getD i 0 = q.getD i 0) := fun h i hi => by
          by_cases e : i = j
          · rw [e]; exact h
          · exact Hok.out i (by omega)
        generalize p.getD j 0 = P at *
        generalize q.getD j 0 = Q at *
        clear had1 had2
        by_cases he : P = Q
        · have Hst2 := hide (Hst.out he)
          have heb : (P != Q) = false := by simp [he]
          clear he Hst Hne
          go_wp2_with fail
          go_quiet (fail)
          go_wp2_with fail
          go_roundw
          case rel => exact ⟨j + 1, by omega, by go_num, Hst2.out, below_drewN hBr _⟩
          case measure => simp [intOf]; omega
        · have Hne2 := hide (Hne.out he)
          have heb : (P != Q) = true := by simpa using he
          clear he Hst Hne
          go_wp2_with fail
          go_quiet (fail)
          go_wp2_with fail
          go_ret
          exact ⟨by rw [decide_eq_false Hne2.out]; rfl, below_drewN hBr _⟩
      · have He : Hid (p = q) := nums_end Hll.out (fun i hi => Hok.out i (by omega))
        go_wp2_with fail
        go_ret
        exact ⟨by rw [decide_eq_true He.out]; rfl, hBr⟩
  · have hllb : ((p.length : Int) != (q.length : Int)) = true := by simp; omega
    have Hne : Hid (¬ p = q) := fun e => hll (by rw [e])
    go_enter Tryd.func22, Tryd.ntmps22
    go_wp2_with fail
    go_ret
    exact ⟨by rw [decide_eq_false Hne.out]; rfl, Below.refl _ _⟩

end Go.Proofs.YtegdfnfengnjlaaDoor
