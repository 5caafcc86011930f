/- Right terms, and what is read: chapter 3 (made by genlaw.py out of chapter 2's). -/
import Derived.Test.YtdaebldfmchclabG14
import Derived.Test.YtdaebldfmchclabG15
import Derived.Test.YtdaebldfmchclabG10
namespace Go.Proofs.Ytdaebldfmchclab
open Go.RowKit Go.Deep Go.ChangeShapes Go.WideShapes
attribute [local go_sem ↓] Go.wp_at_zero Go.wp_at_succ

set_option maxRecDepth 100000 in
set_option maxHeartbeats 1000000 in
theorem right3_any (s : List Int) (sv : Value) (F : Fo) (v : Value) (w : World) (hN : NIn w s sv) (hS : SIn w F v) :
    Calls Try.prog 6 #[sv, v] w fun e w' => e = .returned (.bool (rightB s F)) ∧ Below w.heap.size w w' := by
  have HN := hide hN
  obtain ⟨sa, sc, sb, so, rfl, -, -, -, -⟩ := hN
  obtain ⟨ad, c, b, o, rfl, had, hlc, hcm, hF⟩ := hS
  have HF := hide hF
  have Hl := hide (Fo.len_list F)
  have Hend := hide (rightTo_end s F)
  unfold maxLen at hcm
  clear hF
  go_enter Try.func6, Try.ntmps6
  go_wp2_with fail
  refine (wsigR_any s _ w HN.out).mono ?_
  rintro e w1 ⟨rfl, hw1⟩
  rw [hw1]
  clear hw1 w1
  have h0 : (Value.bool (wsig s == 0)) = .bool (rightTo s F 0) := by
    simp only [rightTo, List.take_zero, List.all_nil, Bool.and_true]
    congr 1
  go_wp2_with fail
  go_loopw [5, 13] (fun ok i wr => ∃ j : Nat, j ≤ Fo.len F ∧ i = .int .i64 j ∧ ok = .bool (rightTo s F j) ∧ Below w.heap.size w wr) (fun _ i _ => Fo.len F - (intOf i).toNat)
  case atStart => exact ⟨0, Nat.zero_le _, rfl, rfl, Below.refl _ _⟩
  case round =>
    obtain ⟨j, hj, rfl, rfl, hBr⟩ := hrel
    clear h0
    by_cases hlt : j < Fo.len F
    · have hlt' : (j : Int) < (Fo.len F : Int) := by omega
      obtain ⟨⟨⟨yv, yn⟩, yk⟩, hy⟩ : ∃ y, F.list[j]? = some y := ⟨F.list[j]'(by rw [Hl.out]; exact hlt), by simp⟩
      obtain ⟨c0, c1, yv', c2, hSy⟩ := (HF.out.below hBr).at hy
      have HSy := hide hSy
      obtain ⟨ya, yc, yb, yo, rfl, -, -, -, -⟩ := hSy
      have ha : ad = some ⟨b, o, none⟩ := had (by omega)
      subst ha
      have Hs := hide (rightTo_succ (s := s) hy)
      clear hy had
      cases hr : rightTo s F j
      · rw [hr] at Hs
        clear hr
        go_wp2_with fail
        go_roundw
        case rel => exact ⟨j + 1, by omega, by go_num, by rw [Hs.out]; rfl, hBr.alloc hBr.size _⟩
        case measure => simp [intOf]; omega
      · rw [hr] at Hs
        clear hr
        go_wp2_with fail
        refine (wrongR_any s _ (yv, yn) yk _ _ ((HN.out.below hBr).alloc _) (HSy.out.alloc _)).mono ?_
        rintro e w2 ⟨rfl, hb2⟩
        have hB2 := below_step hBr (below_box hb2)
        have hv : (Value.bool (wrongF s (yv, yn) yk == 0)) = .bool (rightTo s F (j + 1)) := by
          rw [Hs.out]; rfl
        clear hb2
        go_wp2_with fail
        go_roundw
        case rel => exact ⟨j + 1, by omega, by go_num, rfl, hB2⟩
        case measure => simp [intOf]; omega
    · have hje : j = Fo.len F := by omega
      subst hje
      have He := Hend.out
      rw [He]
      clear He
      go_wp2_with fail
      go_ret
      exact ⟨rfl, hBr⟩

set_option maxRecDepth 100000 in
set_option maxHeartbeats 400000 in
theorem rd3_any {l : List UInt8} {t : Tm} (h : parseT [0, 1, 2] l = (0, t)) (hl : l.length ≤ 48) (w : World) :
    Calls Try.prog 21 #[str l] w fun e w' => ∃ (a1 : Option Addr) (a3 : Nat), e = .returned (.agg #[.bool t.1.1, .int .i64 t.1.2, .slice a1 (Fo.len t.2) a3]) ∧ SIn w' t.2 (.slice a1 (Fo.len t.2) a3) ∧ Below w.heap.size w w' := by
  obtain ⟨⟨tv, tn⟩, tk⟩ := t
  have Hp := hide h
  have HN0 : Hid (NIn ((w.alloc (.cells #[.bool false, .int .i64 0, .slice none 0 0] 26)).alloc (.cells #[.int .i64 0, .int .i64 1, .int .i64 2] 3)) [0, 1, 2] (.slice (some ⟨w.heap.size + 1, 0, none⟩) 3 3)) := by
    have h := nin_lit (w := w.alloc (.cells #[.bool false, .int .i64 0, .slice none 0 0] 26)) [0, 1, 2] (by decide) (by decide) 3
    rw [World.size_alloc] at h
    exact h
  clear h
  go_enter Try.func21, Try.ntmps21
  go_wp2_with fail
  generalize hW : (w.alloc (.cells #[.bool false, .int .i64 0, .slice none 0 0] 26)).alloc (.cells #[.int .i64 0, .int .i64 1, .int .i64 2] 3) = W2 at *
  have hB2 : Below w.heap.size w W2 := by rw [← hW]; exact (below_alloc _ _).alloc (by simp) _
  have hs2 : W2.heap.size = w.heap.size + 1 + 1 := by rw [← hW]; simp
  have r0 : W2.cell? ⟨w.heap.size, 0, none⟩ = some (.bool false) := by rw [← hW, World.cell?_alloc_lt _ _ _ (by simp)]; exact new_cell rfl
  have r1 : W2.cell? ⟨w.heap.size, 1, none⟩ = some (.int .i64 0) := by rw [← hW, World.cell?_alloc_lt _ _ _ (by simp)]; exact new_cell rfl
  have r2 : W2.cell? ⟨w.heap.size, 2, none⟩ = some (.slice none 0 0) := by rw [← hW, World.cell?_alloc_lt _ _ _ (by simp)]; exact new_cell rfl
  have rf : ∀ i, W2.frozen? ⟨w.heap.size, i, none⟩ = false := fun i => by rw [← hW, (below_alloc _ _).frozen (by simp)]; exact new_frozen rfl
  clear hW
  refine (parseR_new [0, 1, 2] _ l W2 HN0.out (by unfold maxLen; omega)).mono ?_
  rintro e w2 ⟨a, rfl, hS, hb⟩
  rw [Hp.out] at hS ⊢
  have HNew := hide hS
  obtain ⟨a1, a3, _, _, rfl, -, -, -, -⟩ := hS
  have s0 := grow_cell hb _ _ r0
  have s1 := grow_cell hb _ _ r1
  have s2 := grow_cell hb _ _ r2
  have sf : ∀ i, w2.frozen? ⟨w.heap.size, i, none⟩ = false := fun i => (hb.frozen (by show w.heap.size < _; omega)).trans (rf i)
  have hB3 := below_step hB2 hb
  have hlt : w.heap.size < w2.heap.size := World.block_lt_of_cell? _ _ s0
  clear r0 r1 r2 rf hb hB2
  simp only [trm]
  go_wp2_with fail
  obtain ⟨g0, g1, g2⟩ := set3_cells (w := w2) (b := w.heap.size) (o := 0) (x := .bool tv) (y := .int .i64 tn) (z := .slice a1 (Fo.len tk) a3) s0 s1 s2
  have hsz : (set3 w2 w.heap.size 0 (.bool tv) (.int .i64 tn) (.slice a1 (Fo.len tk) a3)).heap.size = w2.heap.size := set3_size
  have k0 : ((((w2.setCell ⟨w.heap.size, 0, none⟩ (.bool tv)).setCell ⟨w.heap.size, 1, none⟩ (.int .i64 tn)).setCell ⟨w.heap.size, 2, none⟩ (.slice a1 (Fo.len tk) a3)).alloc (.cells #[.bool tv, .int .i64 tn, .slice a1 (Fo.len tk) a3] 26)).cell? ⟨w.heap.size, 0, none⟩ = some (.bool tv) := by
    rw [World.cell?_alloc_lt _ _ _ (by simpa using hlt)]; exact g0
  have k1 : ((((w2.setCell ⟨w.heap.size, 0, none⟩ (.bool tv)).setCell ⟨w.heap.size, 1, none⟩ (.int .i64 tn)).setCell ⟨w.heap.size, 2, none⟩ (.slice a1 (Fo.len tk) a3)).alloc (.cells #[.bool tv, .int .i64 tn, .slice a1 (Fo.len tk) a3] 26)).cell? ⟨w.heap.size, 1, none⟩ = some (.int .i64 tn) := by
    rw [World.cell?_alloc_lt _ _ _ (by simpa using hlt)]; exact g1
  have k2 : ((((w2.setCell ⟨w.heap.size, 0, none⟩ (.bool tv)).setCell ⟨w.heap.size, 1, none⟩ (.int .i64 tn)).setCell ⟨w.heap.size, 2, none⟩ (.slice a1 (Fo.len tk) a3)).alloc (.cells #[.bool tv, .int .i64 tn, .slice a1 (Fo.len tk) a3] 26)).cell? ⟨w.heap.size, 2, none⟩ = some (.slice a1 (Fo.len tk) a3) := by
    rw [World.cell?_alloc_lt _ _ _ (by simpa using hlt)]; exact g2
  refine bodyPost_ret (v := .agg #[.bool tv, .int .i64 tn, .slice a1 (Fo.len tk) a3]) (by simp [results, Try.results21, go_sem, k0, k1, k2]) rfl ⟨a1, a3, rfl, ?_, (set3_below (o := 0) hB3 (Nat.le_refl _)).alloc (by rw [set3_size]; exact Nat.le_of_lt hlt) _⟩
  have hO : SB (New W2 w2) w2 tk (.slice a1 (Fo.len tk) a3) := HNew.out
  exact ((hO.set3 (b := w.heap.size) (o := 0) (fun h => by have := h.1; omega)).toS).alloc _

end Go.Proofs.Ytdaebldfmchclab

/- Compare tells what the document tells: the law's own walk. -/
namespace Go.Proofs.Ytdaebldfmchclab
open Go.RowKit Go.Deep Go.ChangeShapes Go.WideShapes
attribute [local go_sem ↓] Go.wp_at_zero Go.wp_at_succ

def LawPost3 (w : World) (e : Ending) (w' : World) : Prop := e = .returned (.bool true) ∧ Below w.heap.size w w'
theorem cmp_call {wn : World} {x y : Bool × Int} {k l : Fo} {a c : Value} (ga : Gd (x, k)) (gb : Gd (y, l)) (hbk : tszR k ≤ 1000000000000) (hbl : tszR l ≤ 1000000000000) (hS : SIn wn k a) (hU : SIn wn l c) (w' : World) (h : Below wn.heap.size wn w') :
    Calls Try.prog 7 #[.agg #[.bool x.1, .int .i64 x.2, a], .agg #[.bool y.1, .int .i64 y.2, c]] w' fun e w'' => e = .returned (.int .i64 (cmpT (x, k) (y, l))) ∧ Below w'.heap.size w' w'' :=
  compare_any x k y l a c w' ga gb (hS.below h) (hU.below h) hbk hbl
theorem cmpR_call {wn : World} {x y : Bool × Int} {k l : Fo} {a c : Value} (hbk : tszR k ≤ 1000000000000) (hbl : tszR l ≤ 1000000000000) (hS : SIn wn k a) (hU : SIn wn l c) (w' : World) (h : Below wn.heap.size wn w') :
    Calls Try.prog 8 #[.agg #[.bool x.1, .int .i64 x.2, a], .agg #[.bool y.1, .int .i64 y.2, c]] w' fun e w'' => e = .returned (.int .i64 (cmpT (x, k) (y, l))) ∧ Below w'.heap.size w' w'' :=
  compareR_any x k y l a c w' (hS.below h) (hU.below h) hbk hbl

theorem right3_is {s : List Int} {sv : Value} {F : Fo} {v : Value} {w : World} {b : Bool} (hN : NIn w s sv) (hS : SIn w F v) (h : rightB s F = b) :
    Calls Try.prog 6 #[sv, v] w fun e w' => e = .returned (.bool b) ∧ Below w.heap.size w w' := by
  subst h
  exact right3_any s sv F v w hN hS

set_option maxRecDepth 100000 in
set_option maxHeartbeats 2000000 in
theorem orderTells_any (s : List Int) (sv : Value) (x : Bool × Int) (k : Fo) (a : Value) (y : Bool × Int) (l : Fo) (c : Value) (w : World) (hN : NIn w s sv) (hS : SIn w k a) (hU : SIn w l c) (hk : Fo.norm k = k) (hl : Fo.norm l = l) :
    Calls Try.prog 3 #[sv, .agg #[.bool x.1, .int .i64 x.2, a], .agg #[.bool y.1, .int .i64 y.2, c]] w (LawPost3 w) := by
  obtain ⟨xv, xn⟩ := x
  obtain ⟨yv, yn⟩ := y
  have HN := hide hN
  have HS := hide hS
  have HU := hide hU
  have Hk := hide hk
  have Hl := hide hl
  obtain ⟨sa, sc, sb, so, rfl, -, -, -, -⟩ := hN
  obtain ⟨ad, ac, b, o, rfl, -, -, -, -⟩ := hS
  obtain ⟨ud, uc, ub, uo, rfl, -, -, -, -⟩ := hU
  clear hk hl
  go_enter Try.func3, Try.ntmps3
  go_upto_region 1 with fail
  generalize hW2 : (w.alloc (.cells #[.bool xv, .int .i64 xn, .slice ad (Fo.len k) ac] 26)).alloc (.cells #[.bool yv, .int .i64 yn, .slice ud (Fo.len l) uc] 26) = w3
  have hB3 : Below w.heap.size w w3 := by rw [← hW2]; exact (below_alloc _ _).alloc (by simp) _
  have hs2 : w3.heap.size = w.heap.size + 1 + 1 := by rw [← hW2]; simp
  have p0 : w3.cell? ⟨w.heap.size, 0, none⟩ = some (.bool xv) := by rw [← hW2, World.cell?_alloc_lt _ _ _ (by simp)]; exact new_cell rfl
  have p1 : w3.cell? ⟨w.heap.size, 1, none⟩ = some (.int .i64 xn) := by rw [← hW2, World.cell?_alloc_lt _ _ _ (by simp)]; exact new_cell rfl
  have p2 : w3.cell? ⟨w.heap.size, 2, none⟩ = some (.slice ad (Fo.len k) ac) := by rw [← hW2, World.cell?_alloc_lt _ _ _ (by simp)]; exact new_cell rfl
  have r0 : w3.cell? ⟨w.heap.size + 1, 0, none⟩ = some (.bool yv) := by rw [← hW2]; exact new_cell (World.size_alloc _ _)
  have r1 : w3.cell? ⟨w.heap.size + 1, 1, none⟩ = some (.int .i64 yn) := by rw [← hW2]; exact new_cell (World.size_alloc _ _)
  have r2 : w3.cell? ⟨w.heap.size + 1, 2, none⟩ = some (.slice ud (Fo.len l) uc) := by rw [← hW2]; exact new_cell (World.size_alloc _ _)
  clear hW2
  have hrow := two_in (w := w3) (t := ((xv, xn), k)) (u := ((yv, yn), l)) (HS.out.below hB3) (HU.out.below hB3)
  rw [hs2] at hrow
  obtain ⟨wn, hwn⟩ : ∃ wn, wn = (w3.alloc (.cells #[.bool xv, .int .i64 xn, .slice ad (Fo.len k) ac, .bool yv, .int .i64 yn, .slice ud (Fo.len l) uc] 26)).drew := ⟨_, rfl⟩
  have hb0 : Below w3.heap.size w3 wn := by rw [hwn]; exact ((Below.refl _ _).alloc (Nat.le_refl _) _).drew
  have hrow2 : SIn wn (two ((xv, xn), k) ((yv, yn), l)) (.slice (some ⟨w.heap.size + 1 + 1, 0, none⟩) 2 2) := by rw [hwn]; exact hrow.below ((Below.refl _ _).drew)
  have HcR0 := hide (fun b h => right3_is (b := b) (HN.out.below (below_step hB3 hb0)) hrow2 h)
  have Hb0 := hide hb0
  rw [hwn] at HcR0 Hb0
  clear hrow2 hb0 hwn wn
  have HB3 := hide hB3
  cases hr : rightB s (two ((xv, xn), k) ((yv, yn), l))
  · have HcR := hide (HcR0.out _ hr)
    clear HcR0 hr hrow hB3
    go_region_with (first
      | (go_at_call 6; with_reducible refine HcR.out.mono ?_; rintro e wR ⟨rfl, hbR⟩; have hcur := below_step Hb0.out hbR))
    all_goals
      have Hend := hide (below_step HB3.out hcur)
      clear hcur hbR
      go_wp2_with fail
      go_ret
      exact ⟨rfl, Hend.out⟩
  · have HcR := hide (HcR0.out _ hr)
    obtain ⟨hsn, hw1, hw2⟩ := right_two hr
    have Hg1 := hide (gd_right hsn Hk.out hw1)
    have Hg2 := hide (gd_right hsn Hl.out hw2)
    have HcA := hide (fun w' hb => cmp_call Hg1.out.1 Hg2.out.1 (by have := Hg1.out.2.2; omega) (by have := Hg2.out.2.2; omega) (HS.out.below HB3.out) (HU.out.below HB3.out) w' hb)
    have HcB := hide (fun w' hb => cmpR_call (x := (xv, xn)) (y := (yv, yn)) (by have := Hg1.out.2.2; omega) (by have := Hg2.out.2.2; omega) (HS.out.below HB3.out) (HU.out.below HB3.out) w' hb)
    generalize cmpT ((xv, xn), k) ((yv, yn), l) = C at HcA HcB
    clear HcR0 hr hrow hB3 hsn hw1 hw2
    go_region_held3 (fun w' => w'.cell? ⟨w.heap.size, 0, none⟩ = some (.bool xv) ∧ w'.cell? ⟨w.heap.size, 1, none⟩ = some (.int .i64 xn) ∧ w'.cell? ⟨w.heap.size, 2, none⟩ = some (.slice ad (Fo.len k) ac) ∧ w'.cell? ⟨w.heap.size + 1, 0, none⟩ = some (.bool yv) ∧ w'.cell? ⟨w.heap.size + 1, 1, none⟩ = some (.int .i64 yn) ∧ w'.cell? ⟨w.heap.size + 1, 2, none⟩ = some (.slice ud (Fo.len l) uc))
      (first
        | (with_reducible exact ⟨grow_cell hcur _ _ p0, grow_cell hcur _ _ p1, grow_cell hcur _ _ p2, grow_cell hcur _ _ r0, grow_cell hcur _ _ r1, grow_cell hcur _ _ r2⟩)
        | (with_reducible exact ⟨grow_cell Hb0.out _ _ p0, grow_cell Hb0.out _ _ p1, grow_cell Hb0.out _ _ p2, grow_cell Hb0.out _ _ r0, grow_cell Hb0.out _ _ r1, grow_cell Hb0.out _ _ r2⟩)
        | go_keep)
      (first
        | (go_at_call 6; with_reducible refine HcR.out.mono ?_; rintro e wR ⟨rfl, hbR⟩; have hcur := below_step Hb0.out hbR)
        | (go_at_call 7; with_reducible refine (HcA.out _ hcur).mono ?_; rintro e wA ⟨rfl, hbA⟩; replace hcur := below_step hcur hbA)
        | (go_at_call 8; with_reducible refine (HcB.out _ hcur).mono ?_; rintro e wB ⟨rfl, hbB⟩; replace hcur := below_step hcur hbB))
    all_goals
      have Hend := hide (below_step HB3.out hcur)
      clear hcur hbR
      go_wp2_with fail
      go_ret
      exact ⟨by simp, Hend.out⟩

end Go.Proofs.Ytdaebldfmchclab

/- Bindings that came in: what a reading of them says of the memory. -/
namespace Go.Proofs.Ytdaebldfmchclab
open Go.ChangeShapes Go.WideShapes Go.ChangeAt Go.WideMaps Go.WideElems Go.RowKit Go.Deep Go.Joins

theorem Try.cells42 : Try.prog.cellsOf 42 = 4 := by kernel_rfl

section
variable {H : Type} {enc : TypeId × Value → H} {W : World} {sp : Nat → Bool} {held : Bool}

set_option maxRecDepth 100000 in
/-- A pair's four cells. -/
theorem open_pair {fuel : Nat} {cs : List Value} {x : DataW H × List MemPlace} (h : DataW.trod enc Try.prog W 0 sp held fuel 42 cs = some x) :
    ∃ (n : Int) (v : Bool) (m : Int) (a : Value) (k : Fo), cs = [.int .i64 n, .bool v, .int .i64 m, a] ∧ SIn W k a := by
  obtain ⟨xs, m, rfl, _, hl, hlen, hf⟩ := DataW.trod_struct Try.underlying42 h
  rw [Try.cells42] at hl
  match xs, hlen, cs, hl with
  | [y0, y1], _, [c0, c1, c2, c3], _ =>
    have q0 := hf 0 _ rfl
    have q1 := hf 1 _ rfl
    simp [Try.cells3, Try.cells26] at q0 q1
    obtain ⟨n, e0, _, _⟩ := DataW.trod_int Try.underlying3 q0
    obtain ⟨v, z, a, m', y, _, e1, hy⟩ := open_term q1
    obtain ⟨k, hk⟩ := open_terms _ _ _ hy
    simp only [List.cons.injEq, and_true] at e0 e1
    obtain ⟨rfl, rfl, rfl⟩ := e1
    subst e0
    exact ⟨n, v, z, c3, k, rfl, hk⟩

theorem build_sub {b : Nat} : ∀ (n o : Nat), (∀ i, i < n → ∃ (p : Int × Tm) (a : Value), W.cell? ⟨b, o + 4 * i, none⟩ = some (.int .i64 p.1) ∧ W.cell? ⟨b, o + 4 * i + 1, none⟩ = some (.bool p.2.1.1) ∧ W.cell? ⟨b, o + 4 * i + 2, none⟩ = some (.int .i64 p.2.1.2) ∧ W.cell? ⟨b, o + 4 * i + 3, none⟩ = some a ∧ SIn W p.2.2 a) → ∃ s : Sb, s.length = n ∧ PIn W s b o
  | 0, _, _ => ⟨[], rfl, trivial⟩
  | n + 1, o, h => by
    obtain ⟨s, hl, hP⟩ := build_sub n (o + 4) (fun i hi => by
      have := h (i + 1) (by omega)
      rw [show o + 4 * (i + 1) = o + 4 + 4 * i by omega] at this
      exact this)
    obtain ⟨p, a, h0, h1, h2, h3, h4⟩ := h 0 (by omega)
    exact ⟨p :: s, by simp [hl], by simpa using h0, by simpa using h1, by simpa using h2, ⟨a, by simpa using h3, h4⟩, hP⟩

set_option maxRecDepth 100000 in
/-- Bindings by value. -/
theorem open_sub {r : Reach} {b0 : Nat} {v : Value} {d : DataW H} {p : List MemPlace} (hv : Value.okWide Try.prog W r b0 36 v) (h : DataW.Trod enc Try.prog W 0 sp held 36 v d p) : ∃ s : Sb, SubIn W s v := by
  obtain ⟨a0, len0, cap0, rfl⟩ := okWide_slice Try.underlying36 hv
  obtain ⟨fuel, hf⟩ := h
  rcases DataW.trod_slice Try.underlying36 hf with ⟨hc, _⟩ | ⟨a, len, cap, elems, rest, n, hfuel, hc, _, _, hlc, hcm, hlen, hel, _, _⟩
  · simp [Value.cells] at hc
    obtain ⟨rfl, rfl, rfl⟩ := hc
    exact ⟨[], SubIn.nil W⟩
  · simp [Value.cells] at hc
    obtain ⟨rfl, rfl, rfl⟩ := hc
    rw [Try.cells42] at hel
    obtain ⟨b, o, spot⟩ := a
    have hone : ∀ i, i < len0 → ∃ (p : Int × Tm) (v : Value), W.cell? ((⟨b, o, spot⟩ : Addr).add (i * 4)) = some (.int .i64 p.1) ∧ W.cell? (((⟨b, o, spot⟩ : Addr).add (i * 4)).add 1) = some (.bool p.2.1.1) ∧ W.cell? (((⟨b, o, spot⟩ : Addr).add (i * 4)).add 2) = some (.int .i64 p.2.1.2) ∧ W.cell? (((⟨b, o, spot⟩ : Addr).add (i * 4)).add 3) = some v ∧ SIn W p.2.2 v := fun i hi => by
      have h1 := hel i hi
      have hi' : i < elems.length := by omega
      rw [List.getElem?_eq_getElem hi'] at h1
      obtain ⟨cs, h2, h3⟩ := Option.bind_eq_some_iff.1 h1
      obtain ⟨_, hl3, hcell⟩ := World.cells?_some h2
      obtain ⟨z, tv, tn, ta, k, rfl, hk⟩ := open_pair h3
      exact ⟨(z, ((tv, tn), k)), ta, by simpa [Addr.add] using hcell 0 (by omega), by simpa using hcell 1 (by omega), by simpa using hcell 2 (by omega), by simpa using hcell 3 (by omega), hk⟩
    by_cases h0 : len0 = 0
    · subst h0
      exact ⟨[], _, cap0, 0, 0, rfl, fun h => by simp at h, Nat.zero_le _, hcm, trivial⟩
    · have hspot : spot = none := by
        obtain ⟨x, v, q0, _⟩ := hone 0 (by omega)
        simpa [Addr.add] using World.cell?_spot q0
      subst hspot
      obtain ⟨s, hs1, hs2⟩ := build_sub (W := W) (b := b) len0 o (fun i hi => by
        obtain ⟨p, v, q0, q1, q2, q3, q4⟩ := hone i hi
        refine ⟨p, v, ?_, ?_, ?_, ?_, q4⟩
        · rw [add_plain] at q0; rw [Nat.mul_comm 4 i]; exact q0
        · rw [add_plain, add_plain] at q1; rw [Nat.mul_comm 4 i]; exact q1
        · rw [add_plain, add_plain] at q2; rw [Nat.mul_comm 4 i]; exact q2
        · rw [add_plain, add_plain] at q3; rw [Nat.mul_comm 4 i]; exact q3)
      exact ⟨s, _, cap0, b, o, by rw [hs1], fun _ => rfl, by omega, hcm, hs2⟩

end

/-- The same bindings, without what is no part of them. -/
def normS (s : Sb) : Sb := s.map fun p => (p.1, (p.2.1, Fo.norm p.2.2))
theorem pin_norm {w : World} : ∀ {s : Sb} {b o : Nat}, PIn w s b o → PIn w (normS s) b o
  | [], _, _, _ => trivial
  | _ :: _, _, _, ⟨h0, h1, h2, ⟨v, h3, h4⟩, h5⟩ => ⟨h0, h1, h2, ⟨v, h3, sin_norm h4⟩, pin_norm h5⟩
theorem sub_norm {w : World} {s : Sb} {v : Value} (h : SubIn w s v) : SubIn w (normS s) v := by
  obtain ⟨a, c, b, o, rfl, h2, h3, h4, h5⟩ := h
  exact ⟨a, c, b, o, by simp [normS], by simpa [normS] using h2, by simpa [normS] using h3, h4, pin_norm h5⟩
theorem normS_norm {s : Sb} : ∀ p ∈ normS s, Fo.norm p.2.2 = p.2.2 := fun p hp => by
  simp only [normS, List.mem_map] at hp
  obtain ⟨q, _, rfl⟩ := hp
  exact norm_norm _

end Go.Proofs.Ytdaebldfmchclab
