/- Right terms, and what is read: chapter 3 (made by genlaw.py out of chapter 2's). -/
import Derived.Test.YtdaebldfmchclabG14
import Derived.Test.YtdaebldfmchclabG15
import Derived.Test.YtdaebldfmchclabG10
import Derived.Test.YtdaebldfmchclabG07
import Derived.Test.YtdaebldfmchclabG06
import Derived.Deep.DeepCutAuto
namespace Go.Proofs.Ytdaebldfmchclab
open Go.RowKit Go.Deep Go.ChangeShapes Go.WideShapes
attribute [local go_sem ↓] Go.wp_at_zero Go.wp_at_succ

set_option maxRecDepth 100000 in
set_option maxHeartbeats 1000000 in
theorem right3_any (s : List Int) (sv : Value) (F : Fo) (v : Value) (w : World) (hN : NIn w s sv) (hS : SIn w F v) :
    Calls Try.prog 6 #[sv, v] w fun e w' => e = .returned (.bool (rightB s F)) ∧ Below w.heap.size w w' := by
  have HN := hide hN
  obtain ⟨sa, sc, sb, so, rfl, -, -, -, -⟩ := hN
  obtain ⟨ad, c, b, o, rfl, had, hlc, hcm, hF⟩ := hS
  have HF := hide hF
  have Hl := hide (Fo.len_list F)
  have Hend := hide (rightTo_end s F)
  unfold maxLen at hcm
  clear hF
  go_enter Try.func6, Try.ntmps6
  go_wp2_with fail
  refine (wsigR_any s _ w HN.out).mono ?_
  rintro e w1 ⟨rfl, hw1⟩
  rw [hw1]
  clear hw1 w1
  have h0 : (Value.bool (wsig s == 0)) = .bool (rightTo s F 0) := by
    simp only [rightTo, List.take_zero, List.all_nil, Bool.and_true]
    congr 1
  go_wp2_with fail
  go_loopw [5, 13] (fun ok i wr => ∃ j : Nat, j ≤ Fo.len F ∧ i = .int .i64 j ∧ ok = .bool (rightTo s F j) ∧ Below w.heap.size w wr) (fun _ i _ => Fo.len F - (intOf i).toNat)
  case atStart => exact ⟨0, Nat.zero_le _, rfl, rfl, Below.refl _ _⟩
  case round =>
    obtain ⟨j, hj, rfl, rfl, hBr⟩ := hrel
    clear h0
    by_cases hlt : j < Fo.len F
    · have hlt' : (j : Int) < (Fo.len F : Int) := by omega
      obtain ⟨⟨⟨yv, yn⟩, yk⟩, hy⟩ : ∃ y, F.list[j]? = some y := ⟨F.list[j]'(by rw [Hl.out]; exact hlt), by simp⟩
      obtain ⟨c0, c1, yv', c2, hSy⟩ := (HF.out.below hBr).at hy
      have HSy := hide hSy
      obtain ⟨ya, yc, yb, yo, rfl, -, -, -, -⟩ := hSy
      have ha : ad = some ⟨b, o, none⟩ := had (by omega)
      subst ha
      have Hs := hide (rightTo_succ (s := s) hy)
      clear hy had
      cases hr : rightTo s F j
      · rw [hr] at Hs
        clear hr
        go_wp2_with fail
        go_roundw
        case rel => exact ⟨j + 1, by omega, by go_num, by rw [Hs.out]; rfl, hBr.alloc hBr.size _⟩
        case measure => simp [intOf]; omega
      · rw [hr] at Hs
        clear hr
        go_wp2_with fail
        refine (wrongR_any s _ (yv, yn) yk _ _ ((HN.out.below hBr).alloc _) (HSy.out.alloc _)).mono ?_
        rintro e w2 ⟨rfl, hb2⟩
        have hB2 := below_step hBr (below_box hb2)
        have hv : (Value.bool (wrongF s (yv, yn) yk == 0)) = .bool (rightTo s F (j + 1)) := by
          rw [Hs.out]; rfl
        clear hb2
        go_wp2_with fail
        go_roundw
        case rel => exact ⟨j + 1, by omega, by go_num, rfl, hB2⟩
        case measure => simp [intOf]; omega
    · have hje : j = Fo.len F := by omega
      subst hje
      have He := Hend.out
      rw [He]
      clear He
      go_wp2_with fail
      go_ret
      exact ⟨rfl, hBr⟩

set_option maxRecDepth 100000 in
set_option maxHeartbeats 400000 in
theorem rd3_any {l : List UInt8} {t : Tm} (h : parseT [0, 1, 2] l = (0, t)) (hl : l.length ≤ 48) (w : World) :
    Calls Try.prog 21 #[str l] w fun e w' => ∃ (a1 : Option Addr) (a3 : Nat), e = .returned (.agg #[.bool t.1.1, .int .i64 t.1.2, .slice a1 (Fo.len t.2) a3]) ∧ SIn w' t.2 (.slice a1 (Fo.len t.2) a3) ∧ Below w.heap.size w w' := by
  obtain ⟨⟨tv, tn⟩, tk⟩ := t
  have Hp := hide h
  have HN0 : Hid (NIn ((w.alloc (.cells #[.bool false, .int .i64 0, .slice none 0 0] 26)).alloc (.cells #[.int .i64 0, .int .i64 1, .int .i64 2] 3)) [0, 1, 2] (.slice (some ⟨w.heap.size + 1, 0, none⟩) 3 3)) := by
    have h := nin_lit (w := w.alloc (.cells #[.bool false, .int .i64 0, .slice none 0 0] 26)) [0, 1, 2] (by decide) (by decide) 3
    rw [World.size_alloc] at h
    exact h
  clear h
  go_enter Try.func21, Try.ntmps21
  go_wp2_with fail
  generalize hW : (w.alloc (.cells #[.bool false, .int .i64 0, .slice none 0 0] 26)).alloc (.cells #[.int .i64 0, .int .i64 1, .int .i64 2] 3) = W2 at *
  have hB2 : Below w.heap.size w W2 := by rw [← hW]; exact (below_alloc _ _).alloc (by simp) _
  have hs2 : W2.heap.size = w.heap.size + 1 + 1 := by rw [← hW]; simp
  have r0 : W2.cell? ⟨w.heap.size, 0, none⟩ = some (.bool false) := by rw [← hW, World.cell?_alloc_lt _ _ _ (by simp)]; exact new_cell rfl
  have r1 : W2.cell? ⟨w.heap.size, 1, none⟩ = some (.int .i64 0) := by rw [← hW, World.cell?_alloc_lt _ _ _ (by simp)]; exact new_cell rfl
  have r2 : W2.cell? ⟨w.heap.size, 2, none⟩ = some (.slice none 0 0) := by rw [← hW, World.cell?_alloc_lt _ _ _ (by simp)]; exact new_cell rfl
  have rf : ∀ i, W2.frozen? ⟨w.heap.size, i, none⟩ = false := fun i => by rw [← hW, (below_alloc _ _).frozen (by simp)]; exact new_frozen rfl
  clear hW
  refine (parseR_new [0, 1, 2] _ l W2 HN0.out (by unfold maxLen; omega)).mono ?_
  rintro e w2 ⟨a, rfl, hS, hb⟩
  rw [Hp.out] at hS ⊢
  have HNew := hide hS
  obtain ⟨a1, a3, _, _, rfl, -, -, -, -⟩ := hS
  have s0 := grow_cell hb _ _ r0
  have s1 := grow_cell hb _ _ r1
  have s2 := grow_cell hb _ _ r2
  have sf : ∀ i, w2.frozen? ⟨w.heap.size, i, none⟩ = false := fun i => (hb.frozen (by show w.heap.size < _; omega)).trans (rf i)
  have hB3 := below_step hB2 hb
  have hlt : w.heap.size < w2.heap.size := World.block_lt_of_cell? _ _ s0
  clear r0 r1 r2 rf hb hB2
  simp only [trm]
  go_wp2_with fail
  obtain ⟨g0, g1, g2⟩ := set3_cells (w := w2) (b := w.heap.size) (o := 0) (x := .bool tv) (y := .int .i64 tn) (z := .slice a1 (Fo.len tk) a3) s0 s1 s2
  have hsz : (set3 w2 w.heap.size 0 (.bool tv) (.int .i64 tn) (.slice a1 (Fo.len tk) a3)).heap.size = w2.heap.size := set3_size
  have k0 : ((((w2.setCell ⟨w.heap.size, 0, none⟩ (.bool tv)).setCell ⟨w.heap.size, 1, none⟩ (.int .i64 tn)).setCell ⟨w.heap.size, 2, none⟩ (.slice a1 (Fo.len tk) a3)).alloc (.cells #[.bool tv, .int .i64 tn, .slice a1 (Fo.len tk) a3] 26)).cell? ⟨w.heap.size, 0, none⟩ = some (.bool tv) := by
    rw [World.cell?_alloc_lt _ _ _ (by simpa using hlt)]; exact g0
  have k1 : ((((w2.setCell ⟨w.heap.size, 0, none⟩ (.bool tv)).setCell ⟨w.heap.size, 1, none⟩ (.int .i64 tn)).setCell ⟨w.heap.size, 2, none⟩ (.slice a1 (Fo.len tk) a3)).alloc (.cells #[.bool tv, .int .i64 tn, .slice a1 (Fo.len tk) a3] 26)).cell? ⟨w.heap.size, 1, none⟩ = some (.int .i64 tn) := by
    rw [World.cell?_alloc_lt _ _ _ (by simpa using hlt)]; exact g1
  have k2 : ((((w2.setCell ⟨w.heap.size, 0, none⟩ (.bool tv)).setCell ⟨w.heap.size, 1, none⟩ (.int .i64 tn)).setCell ⟨w.heap.size, 2, none⟩ (.slice a1 (Fo.len tk) a3)).alloc (.cells #[.bool tv, .int .i64 tn, .slice a1 (Fo.len tk) a3] 26)).cell? ⟨w.heap.size, 2, none⟩ = some (.slice a1 (Fo.len tk) a3) := by
    rw [World.cell?_alloc_lt _ _ _ (by simpa using hlt)]; exact g2
  refine bodyPost_ret (v := .agg #[.bool tv, .int .i64 tn, .slice a1 (Fo.len tk) a3]) (by simp [results, Try.results21, go_sem, k0, k1, k2]) rfl ⟨a1, a3, rfl, ?_, (set3_below (o := 0) hB3 (Nat.le_refl _)).alloc (by rw [set3_size]; exact Nat.le_of_lt hlt) _⟩
  have hO : SB (New W2 w2) w2 tk (.slice a1 (Fo.len tk) a3) := HNew.out
  exact ((hO.set3 (b := w.heap.size) (o := 0) (fun h => by have := h.1; omega)).toS).alloc _

end Go.Proofs.Ytdaebldfmchclab

/- Compare tells what the document tells: the law's own walk. -/
namespace Go.Proofs.Ytdaebldfmchclab
open Go.RowKit Go.Deep Go.ChangeShapes Go.WideShapes
attribute [local go_sem ↓] Go.wp_at_zero Go.wp_at_succ

def LawPost3 (w : World) (e : Ending) (w' : World) : Prop := e = .returned (.bool true) ∧ Below w.heap.size w w'
theorem cmp_call {wn : World} {x y : Bool × Int} {k l : Fo} {a c : Value} (ga : Gd (x, k)) (gb : Gd (y, l)) (hbk : tszR k ≤ 1000000000000) (hbl : tszR l ≤ 1000000000000) (hS : SIn wn k a) (hU : SIn wn l c) (w' : World) (h : Below wn.heap.size wn w') :
    Calls Try.prog 7 #[.agg #[.bool x.1, .int .i64 x.2, a], .agg #[.bool y.1, .int .i64 y.2, c]] w' fun e w'' => e = .returned (.int .i64 (cmpT (x, k) (y, l))) ∧ Below w'.heap.size w' w'' :=
  compare_any x k y l a c w' ga gb (hS.below h) (hU.below h) hbk hbl
theorem cmpR_call {wn : World} {x y : Bool × Int} {k l : Fo} {a c : Value} (hbk : tszR k ≤ 1000000000000) (hbl : tszR l ≤ 1000000000000) (hS : SIn wn k a) (hU : SIn wn l c) (w' : World) (h : Below wn.heap.size wn w') :
    Calls Try.prog 8 #[.agg #[.bool x.1, .int .i64 x.2, a], .agg #[.bool y.1, .int .i64 y.2, c]] w' fun e w'' => e = .returned (.int .i64 (cmpT (x, k) (y, l))) ∧ Below w'.heap.size w' w'' :=
  compareR_any x k y l a c w' (hS.below h) (hU.below h) hbk hbl

theorem right3_is {s : List Int} {sv : Value} {F : Fo} {v : Value} {w : World} {b : Bool} (hN : NIn w s sv) (hS : SIn w F v) (h : rightB s F = b) :
    Calls Try.prog 6 #[sv, v] w fun e w' => e = .returned (.bool b) ∧ Below w.heap.size w w' := by
  subst h
  exact right3_any s sv F v w hN hS

set_option maxRecDepth 100000 in
set_option maxHeartbeats 2000000 in
theorem orderTells_any (s : List Int) (sv : Value) (x : Bool × Int) (k : Fo) (a : Value) (y : Bool × Int) (l : Fo) (c : Value) (w : World) (hN : NIn w s sv) (hS : SIn w k a) (hU : SIn w l c) (hk : Fo.norm k = k) (hl : Fo.norm l = l) :
    Calls Try.prog 3 #[sv, .agg #[.bool x.1, .int .i64 x.2, a], .agg #[.bool y.1, .int .i64 y.2, c]] w (LawPost3 w) := by
  obtain ⟨xv, xn⟩ := x
  obtain ⟨yv, yn⟩ := y
  have HN := hide hN
  have HS := hide hS
  have HU := hide hU
  have Hk := hide hk
  have Hl := hide hl
  obtain ⟨sa, sc, sb, so, rfl, -, -, -, -⟩ := hN
  obtain ⟨ad, ac, b, o, rfl, -, -, -, -⟩ := hS
  obtain ⟨ud, uc, ub, uo, rfl, -, -, -, -⟩ := hU
  clear hk hl
  go_enter Try.func3, Try.ntmps3
  go_upto_region 1 with fail
  generalize hW2 : (w.alloc (.cells #[.bool xv, .int .i64 xn, .slice ad (Fo.len k) ac] 26)).alloc (.cells #[.bool yv, .int .i64 yn, .slice ud (Fo.len l) uc] 26) = w3
  have hB3 : Below w.heap.size w w3 := by rw [← hW2]; exact (below_alloc _ _).alloc (by simp) _
  have hs2 : w3.heap.size = w.heap.size + 1 + 1 := by rw [← hW2]; simp
  have p0 : w3.cell? ⟨w.heap.size, 0, none⟩ = some (.bool xv) := by rw [← hW2, World.cell?_alloc_lt _ _ _ (by simp)]; exact new_cell rfl
  have p1 : w3.cell? ⟨w.heap.size, 1, none⟩ = some (.int .i64 xn) := by rw [← hW2, World.cell?_alloc_lt _ _ _ (by simp)]; exact new_cell rfl
  have p2 : w3.cell? ⟨w.heap.size, 2, none⟩ = some (.slice ad (Fo.len k) ac) := by rw [← hW2, World.cell?_alloc_lt _ _ _ (by simp)]; exact new_cell rfl
  have r0 : w3.cell? ⟨w.heap.size + 1, 0, none⟩ = some (.bool yv) := by rw [← hW2]; exact new_cell (World.size_alloc _ _)
  have r1 : w3.cell? ⟨w.heap.size + 1, 1, none⟩ = some (.int .i64 yn) := by rw [← hW2]; exact new_cell (World.size_alloc _ _)
  have r2 : w3.cell? ⟨w.heap.size + 1, 2, none⟩ = some (.slice ud (Fo.len l) uc) := by rw [← hW2]; exact new_cell (World.size_alloc _ _)
  clear hW2
  have hrow := two_in (w := w3) (t := ((xv, xn), k)) (u := ((yv, yn), l)) (HS.out.below hB3) (HU.out.below hB3)
  rw [hs2] at hrow
  obtain ⟨wn, hwn⟩ : ∃ wn, wn = (w3.alloc (.cells #[.bool xv, .int .i64 xn, .slice ad (Fo.len k) ac, .bool yv, .int .i64 yn, .slice ud (Fo.len l) uc] 26)).drew := ⟨_, rfl⟩
  have hb0 : Below w3.heap.size w3 wn := by rw [hwn]; exact ((Below.refl _ _).alloc (Nat.le_refl _) _).drew
  have hrow2 : SIn wn (two ((xv, xn), k) ((yv, yn), l)) (.slice (some ⟨w.heap.size + 1 + 1, 0, none⟩) 2 2) := by rw [hwn]; exact hrow.below ((Below.refl _ _).drew)
  have HcR0 := hide (fun b h => right3_is (b := b) (HN.out.below (below_step hB3 hb0)) hrow2 h)
  have Hb0 := hide hb0
  rw [hwn] at HcR0 Hb0
  clear hrow2 hb0 hwn wn
  have HB3 := hide hB3
  cases hr : rightB s (two ((xv, xn), k) ((yv, yn), l))
  · have HcR := hide (HcR0.out _ hr)
    clear HcR0 hr hrow hB3
    go_region_with (first
      | (go_at_call 6; with_reducible refine HcR.out.mono ?_; rintro e wR ⟨rfl, hbR⟩; have hcur := below_step Hb0.out hbR))
    all_goals
      have Hend := hide (below_step HB3.out hcur)
      clear hcur hbR
      go_wp2_with fail
      go_ret
      exact ⟨rfl, Hend.out⟩
  · have HcR := hide (HcR0.out _ hr)
    obtain ⟨hsn, hw1, hw2⟩ := right_two hr
    have Hg1 := hide (gd_right hsn Hk.out hw1)
    have Hg2 := hide (gd_right hsn Hl.out hw2)
    have HcA := hide (fun w' hb => cmp_call Hg1.out.1 Hg2.out.1 (by have := Hg1.out.2.2; omega) (by have := Hg2.out.2.2; omega) (HS.out.below HB3.out) (HU.out.below HB3.out) w' hb)
    have HcB := hide (fun w' hb => cmpR_call (x := (xv, xn)) (y := (yv, yn)) (by have := Hg1.out.2.2; omega) (by have := Hg2.out.2.2; omega) (HS.out.below HB3.out) (HU.out.below HB3.out) w' hb)
    generalize cmpT ((xv, xn), k) ((yv, yn), l) = C at HcA HcB
    clear HcR0 hr hrow hB3 hsn hw1 hw2
    go_region_held3 (fun w' => w'.cell? ⟨w.heap.size, 0, none⟩ = some (.bool xv) ∧ w'.cell? ⟨w.heap.size, 1, none⟩ = some (.int .i64 xn) ∧ w'.cell? ⟨w.heap.size, 2, none⟩ = some (.slice ad (Fo.len k) ac) ∧ w'.cell? ⟨w.heap.size + 1, 0, none⟩ = some (.bool yv) ∧ w'.cell? ⟨w.heap.size + 1, 1, none⟩ = some (.int .i64 yn) ∧ w'.cell? ⟨w.heap.size + 1, 2, none⟩ = some (.slice ud (Fo.len l) uc))
      (first
        | (with_reducible exact ⟨grow_cell hcur _ _ p0, grow_cell hcur _ _ p1, grow_cell hcur _ _ p2, grow_cell hcur _ _ r0, grow_cell hcur _ _ r1, grow_cell hcur _ _ r2⟩)
        | (with_reducible exact ⟨grow_cell Hb0.out _ _ p0, grow_cell Hb0.out _ _ p1, grow_cell Hb0.out _ _ p2, grow_cell Hb0.out _ _ r0, grow_cell Hb0.out _ _ r1, grow_cell Hb0.out _ _ r2⟩)
        | go_keep)
      (first
        | (go_at_call 6; with_reducible refine HcR.out.mono ?_; rintro e wR ⟨rfl, hbR⟩; have hcur := below_step Hb0.out hbR)
        | (go_at_call 7; with_reducible refine (HcA.out _ hcur).mono ?_; rintro e wA ⟨rfl, hbA⟩; replace hcur := below_step hcur hbA)
        | (go_at_call 8; with_reducible refine (HcB.out _ hcur).mono ?_; rintro e wB ⟨rfl, hbB⟩; replace hcur := below_step hcur hbB))
    all_goals
      have Hend := hide (below_step HB3.out hcur)
      clear hcur hbR
      go_wp2_with fail
      go_ret
      exact ⟨by simp, Hend.out⟩

end Go.Proofs.Ytdaebldfmchclab

/- Written, and read again: the law's walk. -/
namespace Go.Proofs.Ytdaebldfmchclab
open Go.RowKit Go.Deep Go.ChangeShapes Go.WideShapes
attribute [local go_sem ↓] Go.wp_at_zero Go.wp_at_succ

theorem norm_walk (s : List Int) : ∀ (F : Fo) (d : Int), walkF s (Fo.norm F) d = walkF s F d
  | .nil, _ => rfl
  | .node _ _ x k r, d => by
    simp only [Fo.norm, walkF, norm_len k, norm_walk s k (d + 1), norm_walk s r d]
theorem norm_sizesR : ∀ F : Fo, Fo.sizesR (Fo.norm F) = Fo.sizesR F
  | .nil => rfl
  | .node _ _ x k r => by simp [Fo.norm, Fo.sizesR, norm_sizesR k, norm_sizesR r]
theorem norm_wrong (s : List Int) (x : Bool × Int) (k : Fo) : wrongF s x (Fo.norm k) = wrongF s x k := by
  have e1 : walkT s x (Fo.norm k) 1 = walkT s x k 1 := by simp only [walkT, norm_len, norm_walk]
  have e2 : tszR (Fo.norm k) = tszR k := by rw [tszR, norm_sizesR, tszR]
  rw [wrongF, e1, e2, wrongF]

theorem parse_text {s : List Int} (hs : wsig s = 0) {x : Bool × Int} {k : Fo} (h : wrongF s x k = 0) : parseT s (textT x k) = (0, (x, Fo.norm k)) := by
  obtain ⟨hok, h6, _⟩ := wsig_ok hs
  obtain ⟨h1, _, _, _, hw⟩ := right_of hok h
  have hl := textT_len x k
  have hr := read_text h6 x k 1 hw ((textT x k).length + 1) [] (by simp)
  rw [List.append_nil] at hr
  have hwn := (norm_wrong s x k).trans h
  rw [parseT, if_neg (by simpa using hs), if_neg (by omega), hr]
  simp [hwn]
theorem parse_back {s : List Int} {l : List UInt8} (h : (parseT s l).1 = 0) : textT (parseT s l).2.1 (parseT s l).2.2 = l ∧ wrongF s (parseT s l).2.1 (parseT s l).2.2 = 0 ∧ s.all okNum = true ∧ s.length ≤ 6 := by
  unfold parseT at h ⊢
  by_cases h0 : wsig s = 0
  · rw [if_neg (by simpa using h0)] at h ⊢
    by_cases h1 : 48 < l.length
    · rw [if_pos h1] at h; simp at h
    · rw [if_neg h1] at h ⊢
      by_cases h2 : (readT s (l.length + 1) l).1 = 0
      · rw [if_neg (by simpa using h2)] at h ⊢
        by_cases h3 : (readT s (l.length + 1) l).2.2 = []
        · rw [if_neg (by simpa using h3)] at h ⊢
          by_cases h4 : wrongF s (readT s (l.length + 1) l).2.1.1 (readT s (l.length + 1) l).2.1.2 = 0
          · rw [if_neg (by simpa using h4)]
            have hb := read_back _ _ h2
            rw [h3, List.append_nil] at hb
            exact ⟨hb.symm, h4, (wsig_ok h0).1, (wsig_ok h0).2.1⟩
          · rw [if_pos h4] at h; exact absurd h h4
        · rw [if_pos h3] at h; simp at h
      · rw [if_pos h2] at h; exact absurd h h2
  · rw [if_pos h0] at h; exact absurd h h0

theorem tx_same {x : Bool × Int} {k : Fo} {a c : Value} {w : World} (hS : SIn w k a) (hS2 : SIn w (Fo.norm k) c) :
    Calls Try.prog 18 #[.agg #[.bool x.1, .int .i64 x.2, a], .agg #[.bool x.1, .int .i64 x.2, c]] w fun e w' => e = .returned (.bool true) ∧ Below w.heap.size w w' := by
  have h := same_any x k x (Fo.norm k) a c w hS hS2
  rw [show sameT x k x (Fo.norm k) = true by simp [sameT, norm_same]] at h
  exact h

end Go.Proofs.Ytdaebldfmchclab

/- What is put is there: the law's walk. -/
namespace Go.Proofs.Ytdaebldfmchclab
open Go.RowKit Go.Deep Go.ChangeShapes Go.WideShapes
attribute [local go_sem ↓] Go.wp_at_zero Go.wp_at_succ

theorem new_not (w w' : World) (ob : Obj) : ¬ New (w.alloc ob).drew w' w.heap.size := fun h => by
  have h1 : (w.alloc ob).heap.size ≤ w.heap.size := h.1
  have h2 : (w.alloc ob).heap.size = w.heap.size + 1 := by simp
  omega

theorem size_is {x : Bool × Int} {k : Fo} {a : Value} {w : World} {A : Nat} (hA : tsz x k = A) (hb : A ≤ 1000) (hS : SIn w k a) :
    Calls Try.prog 26 #[.agg #[.bool x.1, .int .i64 x.2, a]] w fun e w' => e = .returned (.int .i64 (A : Int)) ∧ Below w.heap.size w w' := by
  have h := size_any x k a w hS
  rw [hA, wrap64_small (by omega) (by omega)] at h
  exact h
theorem same_is {x : Bool × Int} {k : Fo} {a c : Value} {w : World} (hS : SIn w k a) (hS2 : SIn w k c) :
    Calls Try.prog 18 #[.agg #[.bool x.1, .int .i64 x.2, a], .agg #[.bool x.1, .int .i64 x.2, c]] w fun e w' => e = .returned (.bool true) ∧ Below w.heap.size w w' := by
  have h := same_any x k x k a c w hS hS2
  rw [sameT_refl] at h
  exact h

end Go.Proofs.Ytdaebldfmchclab
