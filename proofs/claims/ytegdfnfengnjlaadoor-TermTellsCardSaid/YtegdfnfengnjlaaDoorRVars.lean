/- A term's variables: the document's Vars. -/
import Derived.Test.YtegdfnfengnjlaaDoorRNums
namespace Go.Proofs.YtegdfnfengnjlaaDoor
open Go.RowKit Go.Deep Go.ChangeShapes Go.WideShapes
attribute [local go_sem ↓] Go.wp_at_zero Go.wp_at_succ

theorem nin_slice {w : World} {l : List Int} {v : Value} (h : NIn w l v) : ∃ z1 z3, v = .slice z1 l.length z3 := by
  obtain ⟨_, _, _, _, rfl, _⟩ := h
  exact ⟨_, _, rfl⟩

theorem vars_row {wr w1 wA : World} {v v' : Value} (hb : Below wr.heap.size wr w1) (hg : w1.grownBy wA v.ownBlock) (hat : v'.ownBlock = v.ownBlock ∨ v'.ownBlock = some w1.heap.size) (hv : ∀ g, v.ownBlock = some g → wr.heap.size ≤ g) :
    Below wr.heap.size wr wA ∧ (∀ g, v'.ownBlock = some g → wr.heap.size ≤ g) ∧ wr.heap.size ≤ wA.heap.size := by
  have h1 := hb.size
  have h2 := hg.size
  refine ⟨hb.grown hg h1 hv, fun g hgg => ?_, by omega⟩
  rcases hat with e | e
  · exact hv g (by rw [← e]; exact hgg)
  · rw [e] at hgg; simp at hgg; omega
theorem vars_row2 {wr w1 wA : World} {v : Value} (hb : Below wr.heap.size wr w1) (hg : w1.grownBy wA v.ownBlock) (hv : ∀ g, v.ownBlock = some g → wr.heap.size ≤ g) : Below wr.heap.size wr wA := hb.grown hg hb.size hv

def VarsRSaid (x : Bool × Int) (k : Fo) : Prop := ∀ (a : Value) (l : List Int) (v : Value) (w : World) (T : List Int), T = varsT x k l → SIn w k a → NIn w l v → (l.length + tszR k) * 8 ≤ 140737488355328 →
    Calls Tryd.prog 24 #[v, .agg #[.bool x.1, .int .i64 x.2, a]] w fun e w' => ∃ v', e = .returned v' ∧ NIn w' T v' ∧ Below w.heap.size w w'

set_option maxHeartbeats 1000000 in
set_option maxRecDepth 100000 in
theorem varsR_any (x : Bool × Int) (k : Fo) : VarsRSaid x k := by
  refine Fo.ind1 (p := VarsRSaid) ?_ x k
  clear x k
  intro x k ih a l v w T hT hS hN hlen
  obtain ⟨xv, xn⟩ := x
  have HI := hide ih
  have HT := hide hT
  have HN := hide hN
  obtain ⟨ad, c, b, o, rfl, had, hlc, hcm, hF⟩ := hS
  have HF := hide hF
  unfold maxLen at hcm
  have hz : 0 < tszR k := by unfold tszR; omega
  clear ih hF hT
  cases xv
  · have Htt : Hid (varsT (false, xn) k l = varsF k l) := rfl
    obtain ⟨za, zc, rfl⟩ := nin_slice hN
    clear hN
    go_enter Tryd.func24, Tryd.ntmps24
    go_wp2_with fail
    go_loopw [0, 15] (fun vl i wr => ∃ (j : Nat) (L : List Int) (z1 : Option Addr) (z3 : Nat), j ≤ Fo.len k ∧ i = .int .i64 j ∧ vl = .slice z1 L.length z3 ∧ L = vsTo k l j ∧ Below w.heap.size w wr ∧ NIn wr L (.slice z1 L.length z3)) (fun _ i _ => Fo.len k - (intOf i).toNat)
    case atStart => exact ⟨0, l, za, zc, Nat.zero_le _, rfl, rfl, rfl, below_alloc _ _, HN.out.alloc _⟩
    case round =>
      obtain ⟨j, L, z1, z3, hj, rfl, rfl, hL, hBr, hor⟩ := hrel
      have HL := hide hL
      have Hor := hide hor
      clear hL hor
      by_cases hlt : j < Fo.len k
      · have hlt' : (j : Int) < (Fo.len k : Int) := by omega
        obtain ⟨⟨⟨yv, yn⟩, yk⟩, hy⟩ : ∃ y, k.list[j]? = some y := ⟨k.list[j]'(by rw [Fo.len_list]; exact hlt), by simp⟩
        obtain ⟨c0, c1, yv', c2, hSy⟩ := (HF.out.below hBr).at hy
        have HSy := hide hSy
        obtain ⟨ya, yc, yb, yo, rfl, -, -, -, -⟩ := hSy
        have ha : ad = some ⟨b, o, none⟩ := had (by omega)
        subst ha
        have Hbd : Hid ((L.length + tszR yk) * 8 ≤ 140737488355328) := by
          have h1 := varsF_len (Fo.take j k) l
          have h2 := sizesR_take j k
          rw [hy] at h2
          simp only at h2
          rw [Hid, HL.out, vsTo]
          unfold tszR at h2 hlen ⊢
          omega
        have Hy := hide hy
        obtain ⟨Tn, hTn⟩ : ∃ Tn, Tn = varsT (yv, yn) yk L := ⟨_, rfl⟩
        have HTn := hide hTn
        clear hy had hTn
        go_wp2_with fail
        refine (HI.out ((yv, yn), yk) (List.mem_of_getElem? Hy.out) _ L _ _ Tn HTn.out (HSy.out.alloc _) (Hor.out.alloc _) Hbd.out).mono ?_
        rintro e w2 ⟨vl', rfl, ho2, hb2⟩
        obtain ⟨y1, y3, rfl⟩ := nin_slice ho2
        have Ho2 := hide ho2
        have hB2 := below_step hBr (below_box hb2)
        clear ho2 hb2
        go_wp2_with fail
        go_roundw
        case rel => exact ⟨j + 1, Tn, y1, y3, by omega, by go_num, rfl, by rw [HTn.out, vsTo_succ Hy.out, HL.out], hB2, Ho2.out⟩
        case measure => simp [intOf]; omega
      · have Hfin : Hid (T = L) := by
          have e : j = Fo.len k := by omega
          rw [Hid, HT.out, Htt.out, HL.out, e, vsTo_end]
        clear had
        go_wp2_with fail
        go_ret
        have e := Hfin.out
        subst e
        exact ⟨_, rfl, Hor.out, hBr⟩
  · have Htt : Hid (varsT (true, xn) k l = if hasB l xn then l else l ++ [xn]) := rfl
    obtain ⟨la, lc, lb, lo, rfl, hla, hllc, hlcm, hlF⟩ := hN
    have HlF := hide hlF
    unfold maxLen at hlcm
    clear hlF
    go_enter Tryd.func24, Tryd.ntmps24
    go_wp2_with fail
    generalize hwa : w.alloc (.cells #[.bool true, .int .i64 xn, .slice ad (Fo.len k) c] 26) = wa
    have d1 : wa.cell? ⟨w.heap.size, 1, none⟩ = some (.int .i64 xn) := by rw [← hwa]; simp
    have Hba : Hid (Below w.heap.size w wa) := by rw [← hwa]; exact below_alloc _ _
    have hsa : w.heap.size < wa.heap.size := by rw [← hwa]; simp
    clear hwa
    go_loopw [26] (fun i wr => ∃ j : Nat, j ≤ l.length ∧ i = .int .i64 j ∧ (∀ q, q < j → l.getD q 0 ≠ xn) ∧ wr = wa) (fun i _ => l.length - (intOf i).toNat)
    case atStart => exact ⟨0, Nat.zero_le _, rfl, fun q hq => by omega, rfl⟩
    case round =>
      obtain ⟨j, hj, rfl, hno, rfl⟩ := hrel
      have Hno := hide hno
      clear hno
      by_cases hlt : j < l.length
      · have hlt' : (j : Int) < (l.length : Int) := by omega
        have hc := grow_cell Hba.out _ _ (HlF.out j hlt)
        have Hmem : Hid (l.getD j 0 ∈ l) := by
          rw [Hid, List.getD_eq_getElem?_getD, List.getElem?_eq_getElem hlt]; simp
        have ha : la = some ⟨lb, lo, none⟩ := hla (by omega)
        subst ha
        have Hnx : Hid (l.getD j 0 ≠ xn → ∀ q, q < j + 1 → l.getD q 0 ≠ xn) := fun h q hq => by
          by_cases e : q = j
          · rw [e]; exact h
          · exact Hno.out q (by omega)
        generalize l.getD j 0 = z at *
        by_cases he : z = xn
        · have heb : (z == xn) = true := by simp [he]
          have Hfin : Hid (T = l) := by
            rw [Hid, HT.out, Htt.out, if_pos]
            rw [hasB, ← he]; exact decide_eq_true Hmem.out
          clear he hla
          go_wp2_with fail
          go_ret
          have e := Hfin.out
          subst e
          exact ⟨_, rfl, HN.out.below Hba.out, Hba.out⟩
        · have heb : (z == xn) = false := by simp [he]
          have Hn := hide (Hnx.out he)
          clear he hla
          go_wp2_with fail
          go_roundw
          case rel => exact ⟨j + 1, by omega, by go_num, Hn.out, trivial⟩
          case measure => simp [intOf]; omega
      · have Hfin : Hid (T = l ++ [xn]) := by
          have : xn ∉ l := fun h => by
            obtain ⟨q, hq, e⟩ := List.mem_iff_getElem.1 h
            exact Hno.out q (by omega) (by rw [List.getD_eq_getElem?_getD, List.getElem?_eq_getElem hq]; exact e)
          rw [Hid, HT.out, Htt.out, if_neg]
          rw [hasB, decide_eq_false this]; simp
        clear hla
        go_wp2_with fail
        have hb0 : (0 + l.length) * 8 ≤ 140737488355328 := by omega
        have hb1 : (0 + l.length + [xn].length) * 8 ≤ 140737488355328 := by simp; omega
        have hsw : w.heap.size ≤ wr.heap.size := by omega
        have A1 : Hid ((wr.alloc (.cells #[] 3)).drew.ownsRow w.heap.size 3 1 (.slice (some ⟨wr.heap.size, 0, none⟩) 0 0) 0 []) := own_empty (heap_alloc_new wr _) hsw
        have A2 : Hid (((wr.alloc (.cells #[] 3)).alloc (.cells #[.int .i64 xn] 3)).drew.ownsRow w.heap.size 3 1 (.slice (some ⟨wr.heap.size, 0, none⟩) 0 0) 0 []) := own_empty ((Below.heap_alloc _ _ _ (by simp)).trans (heap_alloc_new wr _)) hsw
        have A3 : Hid (((wr.alloc (.cells #[.int .i64 xn] 3)).alloc (.cells #[] 3)).drew.ownsRow w.heap.size 3 1 (.slice (some ⟨wr.heap.size + 1, 0, none⟩) 0 0) 0 []) := own_empty (by have := heap_alloc_new (wr.alloc (.cells #[.int .i64 xn] 3)) (.cells #[] 3); rw [World.size_alloc] at this; exact this) (by omega)
        have N1 : Hid (NIn (wr.alloc (.cells #[] 3)).drew l (.slice la l.length lc)) := ((HN.out.below Hba.out).alloc _).drew
        have N2 : Hid (NIn ((wr.alloc (.cells #[] 3)).alloc (.cells #[.int .i64 xn] 3)).drew l (.slice la l.length lc)) := (((HN.out.below Hba.out).alloc _).alloc _).drew
        have N3 : Hid (NIn ((wr.alloc (.cells #[.int .i64 xn] 3)).alloc (.cells #[] 3)).drew l (.slice la l.length lc)) := (((HN.out.below Hba.out).alloc _).alloc _).drew
        have B1 : Hid (Below wr.heap.size wr (wr.alloc (.cells #[] 3)).drew) := (below_alloc _ _).drew
        have B2 : Hid (Below wr.heap.size wr ((wr.alloc (.cells #[] 3)).alloc (.cells #[.int .i64 xn] 3)).drew) := ((below_alloc _ _).alloc (by simp) _).drew
        have B3 : Hid (Below wr.heap.size wr ((wr.alloc (.cells #[.int .i64 xn] 3)).alloc (.cells #[] 3)).drew) := ((below_alloc _ _).alloc (by simp) _).drew
        have M2 : Hid (∀ wA : World, ((wr.alloc (.cells #[] 3)).alloc (.cells #[.int .i64 xn] 3)).drew.grownBy wA (some wr.heap.size) → NIn wA [xn] (.slice (some ⟨wr.heap.size + 1, 0, none⟩) 1 1)) := fun wA hg => nin_one (by
          rw [hg.block (wr.heap.size + 1) (by simp) (by simp)]
          have := heap_alloc_new (wr.alloc (.cells #[] 3)) (.cells #[.int .i64 xn] 3)
          rw [World.size_alloc] at this
          exact this)
        have M3 : Hid (∀ wA : World, ((wr.alloc (.cells #[.int .i64 xn] 3)).alloc (.cells #[] 3)).drew.grownBy wA (some (wr.heap.size + 1)) → NIn wA [xn] (.slice (some ⟨wr.heap.size, 0, none⟩) 1 1)) := fun wA hg => nin_one (by
          rw [hg.block wr.heap.size (by show wr.heap.size < ((wr.alloc _).alloc _).heap.size; rw [size2]; omega) (by simp)]
          exact (Below.heap_alloc _ _ _ (by simp)).trans (heap_alloc_new wr _))
        go_region_held3 (fun w' => w'.cell? ⟨w.heap.size, 1, none⟩ = some (.int .i64 xn))
          (first
            | exact grow_cell BB _ _ d1
            | exact grow_cell BA _ _ d1
            | go_keep)
          (first
            | (refine step_append_nums (by rfl) _ _ (by rfl) w.heap.size (.slice (some ⟨wr.heap.size, 0, none⟩) 0 0) 0 [] (by rfl) A1.out l (.slice la l.length lc) (by rfl) N1.out hb0 ?hb ?_; (case hb => simp; omega); intro vA wA hoA hgA hatA; obtain ⟨BA, VA, SA⟩ := vars_row B1.out hgA hatA (by simp [Value.ownBlock]); have Q1 : Hid True := trivial)
            | (refine step_append_nums (by rfl) _ _ (by rfl) w.heap.size (.slice (some ⟨wr.heap.size, 0, none⟩) 0 0) 0 [] (by rfl) A2.out l (.slice la l.length lc) (by rfl) N2.out hb0 ?hb ?_; (case hb => simp; omega); intro vA wA hoA hgA hatA; obtain ⟨BA, VA, SA⟩ := vars_row B2.out hgA hatA (by simp [Value.ownBlock]); have Q2 := hide (M2.out wA hgA))
            | (refine step_append_nums (by rfl) _ _ (by rfl) w.heap.size (.slice (some ⟨wr.heap.size + 1, 0, none⟩) 0 0) 0 [] (by rfl) A3.out l (.slice la l.length lc) (by rfl) N3.out hb0 ?hb ?_; (case hb => simp; omega); intro vA wA hoA hgA hatA; obtain ⟨BA, VA, SA⟩ := vars_row B3.out hgA hatA (by simp [Value.ownBlock]); have Q3 := hide (M3.out wA hgA))
            | (refine step_append_nums (by rfl) _ _ (by rfl) w.heap.size vA (0 + l.length) ([] ++ vals l) (by rfl) ?own [xn] (.slice (some ⟨wA.heap.size, 0, none⟩) 1 1) (by rfl) ?nin hb1 ?hb ?_; (case own => exact owns_keep hoA (fun g hg => Below.heap_alloc _ _ _ (owns_at hoA g hg).2)); (case nin => exact nin_one (heap_alloc_new wA _)); (case hb => simp; omega); intro vB wB hoB hgB hatB; have BB := vars_row2 ((BA.alloc BA.size _)) hgB VA)
            | (refine step_append_nums (by rfl) _ _ (by rfl) w.heap.size vA (0 + l.length) ([] ++ vals l) (by rfl) hoA [xn] _ (by rfl) Q2.out hb1 ?hb ?_; (case hb => omega); intro vB wB hoB hgB hatB; have BB := vars_row2 BA hgB VA)
            | (refine step_append_nums (by rfl) _ _ (by rfl) w.heap.size vA (0 + l.length) ([] ++ vals l) (by rfl) hoA [xn] _ (by rfl) Q3.out hb1 ?hb ?_; (case hb => omega); intro vB wB hoB hgB hatB; have BB := vars_row2 BA hgB VA))
        all_goals
          have HoB := hide (own_nin (p := l ++ [xn]) (by simpa using hoB))
          have HBB := hide (below_step Hba.out BB)
          obtain ⟨y1, y3, rfl⟩ := nin_slice HoB.out
          clear hoA hoB hgA hgB hatA hatB BA BB VA SA
          go_wp2_with fail
          go_ret
          have e := Hfin.out
          subst e
          exact ⟨_, rfl, HoB.out, HBB.out⟩

end Go.Proofs.YtegdfnfengnjlaaDoor
