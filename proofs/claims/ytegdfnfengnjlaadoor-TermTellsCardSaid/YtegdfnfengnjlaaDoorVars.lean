/- A term's variables: slices.Contains, addVars, Vars. -/
import Derived.Test.YtegdfnfengnjlaaDoorTextW
namespace Go.Proofs.YtegdfnfengnjlaaDoor
open Go.RowKit Go.Deep Go.ChangeShapes Go.WideShapes

def hasB (l : List Int) (x : Int) : Bool := decide (x ∈ l)

set_option maxHeartbeats 400000 in
theorem index_any (l : List Int) (x : Int) (v : Value) (w : World) (hN : NIn w l v) :
    Calls Tryd.prog 54 #[v, .int .i64 x] w fun e w' => ∃ i : Int, e = .returned (.int .i64 i) ∧ (decide (0 ≤ i) = hasB l x) ∧ w' = w := by
  obtain ⟨ad, c, b, o, rfl, had, hlc, hcm, hF⟩ := hN
  unfold maxLen at hcm
  have HF := hide hF
  clear hF
  go_enter Tryd.func54, Tryd.ntmps54
  go_wp2_with fail
  go_loop [8] (fun i => ∃ j : Nat, j ≤ l.length ∧ i = .int .i64 j ∧ ∀ q, q < j → l.getD q 0 ≠ x) (fun i => l.length - (intOf i).toNat)
  case atStart => exact ⟨0, Nat.zero_le _, rfl, fun q hq => by omega⟩
  case round =>
    obtain ⟨j, hj, rfl, hno⟩ := hrel
    have Hno := hide hno
    clear hno
    by_cases hlt : j < l.length
    · have hlt' : (j : Int) < (l.length : Int) := by omega
      have hc := HF.out j hlt
      have Hmem : Hid (l.getD j 0 ∈ l) := by
        rw [Hid, List.getD_eq_getElem?_getD, List.getElem?_eq_getElem hlt]; simp
      have ha : ad = some ⟨b, o, none⟩ := had (by omega)
      subst ha
      have Hnx : Hid (l.getD j 0 ≠ x → ∀ q, q < j + 1 → l.getD q 0 ≠ x) := fun h q hq => by
        by_cases e : q = j
        · rw [e]; exact h
        · exact Hno.out q (by omega)
      generalize l.getD j 0 = z at *
      by_cases he : x = z
      · have heb : (x == z) = true := by simp [he]
        have Hf : Hid (decide ((0 : Int) ≤ (j : Int)) = hasB l x) := by
          rw [Hid, hasB, he, decide_eq_true Hmem.out]; simp
        clear he had
        go_wp2_with fail
        go_ret
        exact ⟨_, rfl, Hf.out, rfl⟩
      · have heb : (x == z) = false := by simp [he]
        have Hn := hide (Hnx.out (fun e => he e.symm))
        clear he had
        go_wp2_with fail
        go_round
        case rel => exact ⟨j + 1, by omega, by go_num, Hn.out⟩
        case measure => simp [intOf]; omega
    · have Hf : Hid (decide ((0 : Int) ≤ -1) = hasB l x) := by
        have : x ∉ l := fun h => by
          obtain ⟨q, hq, e⟩ := List.mem_iff_getElem.1 h
          exact Hno.out q (by omega) (by rw [List.getD_eq_getElem?_getD, List.getElem?_eq_getElem hq]; exact e)
        rw [Hid, hasB, decide_eq_false this]; rfl
      clear had
      go_wp2_with fail
      go_ret
      exact ⟨_, rfl, Hf.out, rfl⟩

set_option maxHeartbeats 400000 in
theorem contains_any (l : List Int) (x : Int) (v : Value) (w : World) (hN : NIn w l v) :
    Calls Tryd.prog 51 #[v, .int .i64 x] w fun e w' => e = .returned (.bool (hasB l x)) ∧ w' = w := by
  have HN := hide hN
  obtain ⟨ad, c, b, o, rfl, -, -, -, -⟩ := hN
  go_enter Tryd.func51, Tryd.ntmps51
  go_wp2_with fail
  refine (index_any l x _ w HN.out).mono ?_
  rintro e w' ⟨i, rfl, hi, hw'⟩
  rw [hw']
  have Hi := hide hi
  clear hw' w' hi
  go_wp2_with fail
  go_ret
  exact ⟨by rw [← Hi.out]; rfl, rfl⟩

/-- Variables, behind others. -/
def varsF : Fo → List Int → List Int
  | .nil, l => l
  | .node _ _ x k r, l => varsF r (if x.1 then (if hasB l x.2 then l else l ++ [x.2]) else varsF k l)
def varsT (x : Bool × Int) (k : Fo) (l : List Int) : List Int := if x.1 then (if hasB l x.2 then l else l ++ [x.2]) else varsF k l
def vsTo (k : Fo) (l : List Int) (j : Nat) : List Int := varsF (Fo.take j k) l

theorem varsF_snoc : ∀ {F : Fo} {j : Nat} {x : Bool × Int} {k : Fo} (l : List Int), F.list[j]? = some (x, k) → varsF (Fo.take (j + 1) F) l = varsT x k (varsF (Fo.take j F) l)
  | .nil, _, _, _, _, h => by simp [Fo.list] at h
  | .node _ _ y m r, 0, x, k, l, h => by
    simp only [Fo.list, List.getElem?_cons_zero, Option.some.injEq, Prod.mk.injEq] at h
    obtain ⟨rfl, rfl⟩ := h
    simp [Fo.take, varsF, varsT]
  | .node _ _ y m r, j + 1, x, k, l, h => by
    have := varsF_snoc (F := r) (j := j) (if y.1 then (if hasB l y.2 then l else l ++ [y.2]) else varsF m l) (by simpa [Fo.list] using h)
    simp only [Fo.take, varsF] at this ⊢
    exact this
theorem vsTo_succ {k : Fo} {l : List Int} {j : Nat} {x : Bool × Int} {y : Fo} (h : k.list[j]? = some (x, y)) : vsTo k l (j + 1) = varsT x y (vsTo k l j) := varsF_snoc l h
theorem vsTo_end (k : Fo) (l : List Int) : vsTo k l (Fo.len k) = varsF k l := by rw [vsTo, take_all]
theorem varsF_len : ∀ (F : Fo) (l : List Int), (varsF F l).length ≤ l.length + Fo.sizesR F
  | .nil, l => by simp [varsF, Fo.sizesR]
  | .node _ _ x k r, l => by
    have h1 := varsF_len k l
    have h2 := varsF_len r (if x.1 then (if hasB l x.2 then l else l ++ [x.2]) else varsF k l)
    simp only [varsF, Fo.sizesR]
    have h3 : (if x.1 then (if hasB l x.2 then l else l ++ [x.2]) else varsF k l).length ≤ l.length + 1 + Fo.sizesR k := by
      split
      · split
        · omega
        · simp
      · omega
    omega

def AddVarsSaid (x : Bool × Int) (k : Fo) : Prop := ∀ (W : World) (a : Value) (w : World) (vl : Value) (l T : List Int), T = varsT x k l → SIn W k a → Below W.heap.size W w → w.ownsRow W.heap.size 3 1 vl l.length (vals l) → (l.length + tszR k) * 8 ≤ 140737488355328 →
    Calls Tryd.prog 40 #[vl, .agg #[.bool x.1, .int .i64 x.2, a]] w fun e w' => ∃ vl', e = .returned vl' ∧ w'.ownsRow W.heap.size 3 1 vl' T.length (vals T) ∧ Below W.heap.size W w'

set_option maxHeartbeats 1000000 in
theorem addVars_any (x : Bool × Int) (k : Fo) : AddVarsSaid x k := by
  refine Fo.ind1 (p := AddVarsSaid) ?_ x k
  clear x k
  intro x k ih W a w vl l T hT hS hB ho hlen
  obtain ⟨v, n⟩ := x
  have HI := hide ih
  have HT := hide hT
  have HB := hide hB
  have Ho := hide ho
  obtain ⟨ad, c, b, o, rfl, had, hlc, hcm, hF⟩ := hS
  have HF := hide hF
  unfold maxLen at hcm
  obtain ⟨za, zc, rfl⟩ := slice_of_owns ho
  have hWs := hB.size
  have Hvl : Hid (∀ g, (Value.slice za l.length zc).ownBlock = some g → W.heap.size ≤ g ∧ g < w.heap.size) := owns_at ho
  have hz : 0 < tszR k := by unfold tszR; omega
  clear ih hF ho hB hT
  cases v
  · have Htt : Hid (varsT (false, n) k l = varsF k l) := rfl
    go_enter Tryd.func40, Tryd.ntmps40
    go_wp2_with fail
    have H0 : Hid (Below W.heap.size W (w.alloc (.cells #[.bool false, .int .i64 n, .slice ad (Fo.len k) c] 26)) ∧ (w.alloc (.cells #[.bool false, .int .i64 n, .slice ad (Fo.len k) c] 26)).ownsRow W.heap.size 3 1 (.slice za l.length zc) l.length (vals l)) :=
      ⟨HB.out.trans ((below_alloc _ _).mono hWs), owns_keep Ho.out (fun g hg => (below_alloc _ _).block g (Hvl.out g hg).2)⟩
    go_loopw [0, 22] (fun vl' i wr => ∃ (j : Nat) (L : List Int) (z1 : Option Addr) (z3 : Nat), j ≤ Fo.len k ∧ i = .int .i64 j ∧ vl' = .slice z1 L.length z3 ∧ L = vsTo k l j ∧ Below W.heap.size W wr ∧ wr.ownsRow W.heap.size 3 1 (.slice z1 L.length z3) L.length (vals L)) (fun _ i _ => Fo.len k - (intOf i).toNat)
    case atStart => exact ⟨0, l, za, zc, Nat.zero_le _, rfl, rfl, rfl, H0.out.1, H0.out.2⟩
    case round =>
      obtain ⟨j, L, z1, z3, hj, rfl, rfl, hL, hBr, hor⟩ := hrel
      have HL := hide hL
      have Hor := hide hor
      clear hL hor H0
      by_cases hlt : j < Fo.len k
      · have hlt' : (j : Int) < (Fo.len k : Int) := by omega
        obtain ⟨⟨⟨yv, yn⟩, yk⟩, hy⟩ : ∃ y, k.list[j]? = some y := ⟨k.list[j]'(by rw [Fo.len_list]; exact hlt), by simp⟩
        obtain ⟨c0, c1, yv', c2, hSy⟩ := HF.out.at hy
        have HSy := hide hSy
        obtain ⟨ya, yc, yb, yo, rfl, -, -, -, -⟩ := hSy
        have c0' := grow_cell hBr _ _ c0
        have c1' := grow_cell hBr _ _ c1
        have c2' := grow_cell hBr _ _ c2
        have ha : ad = some ⟨b, o, none⟩ := had (by omega)
        subst ha
        have Hbd : Hid ((L.length + tszR yk) * 8 ≤ 140737488355328) := by
          have h1 := varsF_len (Fo.take j k) l
          have h2 := sizesR_take j k
          rw [hy] at h2
          simp only at h2
          rw [Hid, HL.out, vsTo]
          unfold tszR at h2 hlen ⊢
          omega
        have Hy := hide hy
        obtain ⟨Tn, hTn⟩ : ∃ Tn, Tn = varsT (yv, yn) yk L := ⟨_, rfl⟩
        have HTn := hide hTn
        have Hbb : Hid (Below W.heap.size W (wr.alloc (.cells #[.bool yv, .int .i64 yn, .slice ya (Fo.len yk) yc] 26))) := hBr.trans ((below_alloc _ _).mono hBr.size)
        have Hoo : Hid ((wr.alloc (.cells #[.bool yv, .int .i64 yn, .slice ya (Fo.len yk) yc] 26)).ownsRow W.heap.size 3 1 (.slice z1 L.length z3) L.length (vals L)) := owns_keep Hor.out (fun g hg => (below_alloc _ _).block g (owns_at Hor.out g hg).2)
        clear hy c0 c1 c2 had hTn
        go_wp2_with fail
        refine (HI.out ((yv, yn), yk) (List.mem_of_getElem? Hy.out) W _ _ _ L Tn HTn.out HSy.out Hbb.out Hoo.out Hbd.out).mono ?_
        rintro e w2 ⟨vl', rfl, ho2, hb2⟩
        obtain ⟨y1, y3, rfl⟩ := slice_of_owns ho2
        have Ho2 := hide ho2
        clear ho2
        go_wp2_with fail
        go_roundw
        case rel => exact ⟨j + 1, Tn, y1, y3, by omega, by go_num, rfl, by rw [HTn.out, vsTo_succ Hy.out, HL.out], hb2, Ho2.out⟩
        case measure => simp [intOf]; omega
      · have Hfin : Hid (T = L) := by
          have e : j = Fo.len k := by omega
          rw [Hid, HT.out, Htt.out, HL.out, e, vsTo_end]
        clear had
        go_wp2_with fail
        go_ret
        have e := Hfin.out
        subst e
        exact ⟨_, rfl, Hor.out, hBr⟩
  · have Htt : Hid (varsT (true, n) k l = if hasB l n then l else l ++ [n]) := rfl
    obtain ⟨i3, hi3, hy0, hy1, hy2⟩ := info_parts Tryd.info3
    have Hbw : Hid (Below W.heap.size W (w.alloc (.cells #[.bool true, .int .i64 n, .slice ad (Fo.len k) c] 26))) := HB.out.trans ((below_alloc _ _).mono hWs)
    have Hob : Hid ((w.alloc (.cells #[.bool true, .int .i64 n, .slice ad (Fo.len k) c] 26)).ownsRow W.heap.size 3 1 (.slice za l.length zc) l.length (vals l)) := owns_keep Ho.out (fun g hg => (below_alloc _ _).block g (Hvl.out g hg).2)
    clear had
    go_enter Tryd.func40, Tryd.ntmps40
    go_wp2_with fail
    refine (contains_any l n _ _ (own_nin Hob.out)).mono ?_
    rintro e w' ⟨rfl, hw'⟩
    rw [hw']
    clear hw' w'
    cases hh : hasB l n
    · rw [hh] at Htt
      have Hfin : Hid (T = l ++ [n]) := HT.out.trans Htt.out
      have Hob2 : Hid (((w.alloc (.cells #[.bool true, .int .i64 n, .slice ad (Fo.len k) c] 26)).alloc (.cells #[.int .i64 n] 3)).ownsRow W.heap.size 3 1 (.slice za l.length zc) l.length (vals l)) := owns_keep Hob.out (fun g hg => (below_alloc _ _).block g (owns_at Hob.out g hg).2)
      have Hnews : Hid (∀ j u, [Value.int .i64 n][j]? = some u → ((w.alloc (.cells #[.bool true, .int .i64 n, .slice ad (Fo.len k) c] 26)).alloc (.cells #[.int .i64 n] 3)).cell? ((⟨w.heap.size + 1, 0, none⟩ : Addr).add j) = some u) := by
        have h := World.news_of_block (cs := #[.int .i64 n]) (heap_alloc_new (w.alloc (.cells #[.bool true, .int .i64 n, .slice ad (Fo.len k) c] 26)) (.cells #[.int .i64 n] 3))
        intro j u hu
        have := h j u hu
        simpa using this
      have hl1 : l.length + 1 ≤ maxLen := by unfold maxLen; omega
      have hl2 : (l.length + 1) * 8 ≤ 140737488355328 := by omega
      clear hh
      go_wp2_with (at_builtin; refine wpList_append_lies _ rfl (.tmp 14) (.tmp 17) 22 rfl W.heap.size 3 i3 (.int .i64 0) 1 8 Tryd.underlying22 hi3 hy0 hy1 hy2 rfl (by decide) (.slice za l.length zc) l.length (vals l) rfl Hob2.out ⟨w.heap.size + 1, 0, none⟩ 1 1 [.int .i64 n] rfl rfl Hnews.out (by simp [Value.oneCell']) (by decide) hl1 hl2 (by simp; omega) (w.heap.size + 2) (by simp) ?_; intro g cap w2 hown2 hg2 hat2 hlt2)
      go_ret
      have e := Hfin.out
      subst e
      refine ⟨_, rfl, owns_snoc hown2, ?_⟩
      exact (Hbw.out.trans ((below_alloc _ _).mono (by simp; omega))).grown hg2 (by simp; omega) (fun g hg => (Hvl.out g hg).1)
    · rw [hh] at Htt
      have Hfin : Hid (T = l) := HT.out.trans Htt.out
      clear hh
      go_wp2_with fail
      go_ret
      have e := Hfin.out
      subst e
      exact ⟨_, rfl, Hob.out, Hbw.out⟩

theorem NIn.drew {w : World} {l : List Int} {v : Value} (h : NIn w l v) : NIn w.drew l v := h
theorem SIn.drew {w : World} {k : Fo} {v : Value} (h : SIn w k v) : SIn w.drew k v := h.below (Below.refl _ _).drew

set_option maxHeartbeats 1000000 in
theorem vars_any (x : Bool × Int) (k : Fo) (a : Value) (l : List Int) (v : Value) (w : World) (T : List Int) (hT : T = varsT x k l) (hS : SIn w k a) (hN : NIn w l v) (hlen : (l.length + tszR k) * 8 ≤ 140737488355328) :
    Calls Tryd.prog 23 #[v, .agg #[.bool x.1, .int .i64 x.2, a]] w fun e w' => ∃ v', e = .returned v' ∧ w'.ownsRow w.heap.size 3 1 v' T.length (vals T) ∧ Below w.heap.size w w' := by
  obtain ⟨xv, xn⟩ := x
  have HT := hide hT
  have HS := hide hS
  have HN := hide hN
  obtain ⟨ad, c, b, o, rfl, -, -, -, -⟩ := hS
  obtain ⟨la, lc, lb, lo, rfl, -, -, -, -⟩ := hN
  have hl8 : l.length * 8 ≤ 140737488355328 := by omega
  clear hT
  go_enter Tryd.func23, Tryd.ntmps23
  go_wp2_with fail
  generalize hwa : w.alloc (.cells #[.bool xv, .int .i64 xn, .slice ad (Fo.len k) c] 26) = wa
  have d0 : wa.cell? ⟨w.heap.size, 0, none⟩ = some (.bool xv) := by rw [← hwa]; simp
  have d1 : wa.cell? ⟨w.heap.size, 1, none⟩ = some (.int .i64 xn) := by rw [← hwa]; simp
  have d2 : wa.cell? ⟨w.heap.size, 2, none⟩ = some (.slice ad (Fo.len k) c) := by rw [← hwa]; simp
  have hla : w.heap.size < wa.heap.size := by rw [← hwa]; simp
  have Hba : Hid (Below w.heap.size w wa) := by rw [← hwa]; exact below_alloc _ _
  clear hwa
  go_region_held3 (fun w' => w'.cell? ⟨w.heap.size, 0, none⟩ = some (.bool xv) ∧ w'.cell? ⟨w.heap.size, 1, none⟩ = some (.int .i64 xn) ∧ w'.cell? ⟨w.heap.size, 2, none⟩ = some (.slice ad (Fo.len k) c))
    (first
      | go_keep
      | (go_split_ands
         refine ⟨?_, ?_, ?_⟩
         · (rw [hb2.cell (by show w.heap.size < _; simp; omega)]; assumption)
         · (rw [hb2.cell (by show w.heap.size < _; simp; omega)]; assumption)
         · (rw [hb2.cell (by show w.heap.size < _; simp; omega)]; assumption))
      | (go_split_ands
         refine ⟨?_, ?_, ?_⟩
         · (rw [hb1.cell (by show w.heap.size < _; simp; omega)]; assumption)
         · (rw [hb1.cell (by show w.heap.size < _; simp; omega)]; assumption)
         · (rw [hb1.cell (by show w.heap.size < _; simp; omega)]; assumption)))
    (first
      | (go_at_call 41; refine (clone_any l _ _ ?_ hl8).mono ?_; (exact (HN.out.below Hba.out).drew); rintro e w1 ⟨v', rfl, ho1, hb1⟩)
      | (go_at_call 40; refine (addVars_any (xv, xn) k wa.drew _ _ _ l T HT.out ?_ ?_ ho1 hlen).mono ?_; (exact (HS.out.below Hba.out).drew); (exact hb1); rintro e w2 ⟨v2, rfl, ho2, hb2⟩))
  have Hfin : Hid (w2.ownsRow w.heap.size 3 1 v2 T.length (vals T) ∧ Below w.heap.size w w2) := ⟨owns_mono ho2 Hba.out.size, Hba.out.trans (((Below.refl _ _).drew).trans (hb2.mono (Nat.le_of_lt hla)))⟩
  clear ho1 ho2 hb1 hb2
  go_wp2_with fail
  go_ret
  exact ⟨v2, rfl, Hfin.out.1, Hfin.out.2⟩

end Go.Proofs.YtegdfnfengnjlaaDoor
