/- CX CPa CPb CRp CW C4T -/
import Derived.Test.YtfckelbdageenabGreatDoorG15
namespace Go.Proofs.YtfckelbdageenabGreatDoor
open Go.RowKit Go.Deep Go.ChangeShapes Go.WideShapes

theorem Tryz.info9 : (Tryz.prog.info? 9).map (fun i => (i.zero, i.size, i.bytes)) = some (some (.string ByteArray.empty), 1, 16) := by kernel_rfl

/-- A term that can be written. -/
def TxT (t : Tm) : Prop := (0 ≤ t.1.2 ∧ t.1.2 ≤ (if t.1.1 then 4 else 100)) ∧ Fo.texts t.2 ∧ (textT t.1 t.2).length ≤ 1000
theorem text_call {wn : World} {x : Bool × Int} {k : Fo} {a : Value} (hS : SIn wn k a) (hx : TxT (x, k)) (w' : World) (hb : Below wn.heap.size wn w') :
    Calls Tryz.prog 74 #[.agg #[.bool x.1, .int .i64 x.2, a]] w' fun e w'' => ∃ D : ByteArray, e = .returned (.string D) ∧ D.data.toList = textT x k ∧ Below w'.heap.size w' w'' := by
  refine (text_any x k a w' (hS.below hb) hx.1 hx.2.1 (by have := hx.2.2; simp only at this; omega)).mono ?_
  rintro e w2 ⟨rfl, hb2⟩
  exact ⟨_, rfl, rfl, hb2⟩

set_option maxRecDepth 100000 in
set_option maxHeartbeats 2000000 in
theorem litText_any (p : Lt) (a d : Value) (w : World) (h1 : SIn w p.2.1.2 a) (h2 : SIn w p.2.2.2 d) (t1 : TxT p.2.1) (t2 : TxT p.2.2) :
    Calls Tryz.prog 49 #[litA p a d] w fun e w' => ∃ D : ByteArray, e = .returned (.string D) ∧ D.data.toList = textL p ∧ Below w.heap.size w w' := by
  obtain ⟨pn, ⟨⟨pv, pi⟩, pk⟩, ⟨⟨pv', pi'⟩, pk'⟩⟩ := p
  have H1 := hide h1
  have H2 := hide h2
  obtain ⟨ya, yc, _, _, rfl, -, -, -, -⟩ := h1
  obtain ⟨za, zc, _, _, rfl, -, -, -, -⟩ := h2
  simp only at *
  have T1 := hide t1
  have T2 := hide t2
  clear t1 t2
  have Hl1 : Hid ((textT (pv, pi) pk).length ≤ 1000) := T1.out.2.2
  have Hl2 : Hid ((textT (pv', pi') pk').length ≤ 1000) := T2.out.2.2
  generalize hwa : w.alloc (.cells #[.bool pn, .bool pv, .int .i64 pi, .slice ya (Fo.len pk) yc, .bool pv', .int .i64 pi', .slice za (Fo.len pk') zc] 44) = wa
  have hcs := lit_cells (T := 44) (x0 := .bool pn) (w := w) (wr := wa) (x1 := .bool pv) (x2 := .int .i64 pi) (x3 := .slice ya (Fo.len pk) yc) (x4 := .bool pv') (x5 := .int .i64 pi') (x6 := .slice za (Fo.len pk') zc) (by rw [hwa]; exact Below.refl _ _)
  obtain ⟨g0, g1, g2, g3, g4, g5, g6, -, hba, -⟩ := hcs
  have Hc1 := hide (text_call (H1.out.below hba) T1.out)
  have Hc2 := hide (text_call (H2.out.below hba) T2.out)
  have Hwa := hide hwa
  clear hwa
  have hcur : Below wa.heap.size wa wa.drew := (Below.refl _ _).drew
  cases pn
  all_goals
    go_enter Tryz.func49, Tryz.ntmps49
    go_upto_region 4 with fail
    rw [Hwa.out]
    clear Hwa
    go_region_held3 (fun w' => w'.cell? ⟨w.heap.size, 1, none⟩ = some (.bool pv) ∧ w'.cell? ⟨w.heap.size, 2, none⟩ = some (.int .i64 pi) ∧ w'.cell? ⟨w.heap.size, 3, none⟩ = some (.slice ya (Fo.len pk) yc) ∧ w'.cell? ⟨w.heap.size, 4, none⟩ = some (.bool pv') ∧ w'.cell? ⟨w.heap.size, 5, none⟩ = some (.int .i64 pi') ∧ w'.cell? ⟨w.heap.size, 6, none⟩ = some (.slice za (Fo.len pk') zc))
      (first
        | (with_reducible exact ⟨grow_cell hcur _ _ g1, grow_cell hcur _ _ g2, grow_cell hcur _ _ g3, grow_cell hcur _ _ g4, grow_cell hcur _ _ g5, grow_cell hcur _ _ g6⟩)
        | go_keep)
      (first
        | (go_at_call 74; with_reducible refine (Hc1.out _ hcur).mono ?_; rintro e wS ⟨D1, rfl, hD1, hbS⟩; replace hcur := below_step hcur hbS; have hz0 : D1.size ≤ 1000 := (by rw [ba_size hD1]; exact Hl1.out); have hz1 : (D1.size : Int) ≤ 8388608 := (by omega); have hy1 : (D1.size : Int) + 1 ≤ 8388608 := (by omega); have hy2 : (D1.size : Int) + 2 ≤ 8388608 := (by omega); have HD1 := hide hD1; clear hD1; have ha1 := (fun w => run_string_add_sum (P := Tryz.prog) w D1 ⟨#[61]⟩ (by rw [show (⟨#[61]⟩ : ByteArray).size = 1 from rfl]; omega)); have ha2 := (fun w => run_string_add_sum (P := Tryz.prog) w D1 ⟨#[33, 61]⟩ (by rw [show (⟨#[33, 61]⟩ : ByteArray).size = 2 from rfl]; omega)); clear hz1 hy1 hy2)
        | (go_at_call 74; with_reducible refine (Hc2.out _ hcur).mono ?_; rintro e wU ⟨D2, rfl, hD2, hbU⟩; replace hcur := below_step hcur hbU; have hz3 : D2.size ≤ 1000 := (by rw [ba_size hD2]; exact Hl2.out); have hz2 : (D2.size : Int) ≤ 8388608 := (by omega); have HD2 := hide hD2; clear hD2; have ha3 := (fun w => run_string_add_sum (P := Tryz.prog) w (D1 ++ ⟨#[61]⟩) D2 (by rw [ByteArray.size_append, show (⟨#[61]⟩ : ByteArray).size = 1 from rfl]; omega)); have ha4 := (fun w => run_string_add_sum (P := Tryz.prog) w (D1 ++ ⟨#[33, 61]⟩) D2 (by rw [ByteArray.size_append, show (⟨#[33, 61]⟩ : ByteArray).size = 2 from rfl]; omega)); clear hz2))
    all_goals
      go_wp2_with fail
      go_ret
      refine ⟨_, rfl, ?_, below_step hba hcur⟩
      rw [ByteArray.data_append, ByteArray.data_append, Array.toList_append, Array.toList_append, HD1.out, HD2.out]
      simp [textL]

/-- So many texts are written. -/
def TxRel (w : World) (k : Cl) (j : Nat) (wr : World) : Prop :=
  ∃ Ds : List ByteArray, Ds.map (·.data.toList) = (k.take j).map textL ∧ (∀ q x, Ds[q]? = some x → wr.cell? ⟨w.heap.size, q, none⟩ = some (.string x)) ∧ There wr w.heap.size k.length ∧ w.heap.size < wr.heap.size ∧ Below w.heap.size w wr

set_option maxRecDepth 100000 in
set_option maxHeartbeats 2000000 in
theorem textCl_any (k : Cl) (a : Value) (w : World) (hS : CIn w k a) (ht : ∀ l ∈ k, TxT l.2.1 ∧ TxT l.2.2) (hlen : k.length ≤ 1000) (hl : (textC k).length ≤ 100000000) :
    Calls Tryz.prog 16 #[a] w fun e w' => ∃ D : ByteArray, e = .returned (.string D) ∧ D.data.toList = textC k ∧ Below w.heap.size w w' := by
  obtain ⟨a1, c1, b1, o1, rfl, had1, hlc1, hcm1, hF1⟩ := hS
  unfold maxLen at hcm1
  have HF1 := hide hF1
  have HT := hide ht
  clear hF1 ht
  by_cases h0 : k.length = 0
  · have h0' : (k.length : Int) = 0 := by omega
    have Hf : Hid (textC k = [91, 93]) := by simp [Hid, textC, h0]
    clear had1
    go_enter Tryz.func16, Tryz.ntmps16
    go_wp2_with fail
    go_ret
    exact ⟨_, rfl, by rw [Hf.out], Below.refl _ _⟩
  · have h0' : ((k.length : Int) == 0) = false := by rw [beq_eq_false_iff_ne]; omega
    have hpos : 0 < k.length := by omega
    have ha1 : a1 = some ⟨b1, o1, none⟩ := had1 (by omega)
    subst ha1
    have Hf : Hid (textC k = Lib.join (k.map textL) sepL) := by simp [Hid, textC, h0]
    clear had1
    obtain ⟨iS, hi, hz0, hz1, hz2⟩ := info_parts Tryz.info9
    have hmk := fun w : World => run_make (P := Tryz.prog) w 61 9 iS _ Tryz.underlying61 hi hz0 .i64 .i64 (k.length : Int) (k.length : Int) (by omega) (by omega) (by rw [hz2]; omega) (by omega)
    rw [hz1] at hmk
    simp only [Int.toNat_natCast, Nat.mul_one] at hmk
    go_enter Tryz.func16, Tryz.ntmps16
    go_wp2_with fail
    clear hmk hi hz0 hz1 hz2
    go_loopw [14] (fun i wr => ∃ (j : Nat), j ≤ k.length ∧ i = .int .i64 j ∧ TxRel w k j wr) (fun i _ => k.length - (intOf i).toNat)
    case atStart =>
      refine ⟨0, Nat.zero_le _, rfl, [], rfl, fun q x h => by simp at h, fun i hi => ⟨?_, frozen_new _ _ _ _⟩, by simp, below_alloc _ _⟩
      have hs : i < (madeCells #[.string ByteArray.empty] k.length).size := by simp [madeCells]; exact hi
      exact ⟨(madeCells #[.string ByteArray.empty] k.length)[i], by simp [hs]⟩
    case round =>
      obtain ⟨j, hj, rfl, Ds, hD, hDc, hT, hsz, hBr⟩ := hrel
      have HD := hide hD
      have HDc := hide hDc
      have HTh := hide hT
      have hDl : Ds.length = j := by
        have := congrArg List.length hD
        rw [List.length_map, List.length_map, List.length_take] at this
        omega
      clear hD hDc
      by_cases hlt : j < k.length
      · have hlt' : (j : Int) < (k.length : Int) := by omega
        have hj0 : (0 : Int) ≤ (j : Int) := by omega
        obtain ⟨⟨yn, ⟨⟨yv, yi⟩, yk⟩, ⟨yv', yi'⟩, yk'⟩, hy⟩ : ∃ y, k[j]? = some y := ⟨k[j]'hlt, by simp⟩
        obtain ⟨p0, p1, p2, ⟨u3, p3, hA⟩, p4, p5, u6, p6, hE⟩ := (HF1.out.below hBr).at hy
        have HA := hide hA
        have HE := hide hE
        obtain ⟨ya, yc, _, _, rfl, -, -, -, -⟩ := hA
        obtain ⟨za, zc, _, _, rfl, -, -, -, -⟩ := hE
        have Hty := hide (HT.out _ (List.mem_of_getElem? hy))
        have Hy := hide hy
        clear hy hT
        simp only at *
        go_wp2_with fail
        refine (litText_any (yn, ((yv, yi), yk), ((yv', yi'), yk')) _ _ _ (HA.out.alloc _) (HE.out.alloc _) Hty.out.1 Hty.out.2).mono ?_
        rintro e w2 ⟨D, rfl, hDt, hb2⟩
        have hb2' := below_box hb2
        have hB2 := below_step hBr hb2'
        obtain ⟨⟨t0, e0⟩, f0⟩ := HTh.out j hlt
        have e0' := grow_cell hb2' _ _ e0
        have f0' : w2.frozen? ⟨w.heap.size, j, none⟩ = false := (hb2'.frozen hsz).trans f0
        have HDt := hide hDt
        have hsz2 : w.heap.size < w2.heap.size := Nat.lt_of_lt_of_le hsz hb2'.size
        have Hkeep : Hid ((∀ q x, (Ds ++ [D])[q]? = some x → (w2.setCell ⟨w.heap.size, j, none⟩ (.string D)).cell? ⟨w.heap.size, q, none⟩ = some (.string x)) ∧ There (w2.setCell ⟨w.heap.size, j, none⟩ (.string D)) w.heap.size k.length) := by
          refine ⟨fun q x hq => ?_, fun i hi => ?_⟩
          · rw [List.getElem?_append] at hq
            by_cases hc : q < Ds.length
            · rw [if_pos hc] at hq
              rw [set_other (by intro e; simp only [Addr.mk.injEq] at e; omega)]
              exact grow_cell hb2' _ _ (HDc.out q x hq)
            · rw [if_neg hc] at hq
              have hq1 : q - Ds.length < 1 := by
                have := (List.getElem?_eq_some_iff.1 hq).1
                simpa using this
              have e : q = j := by omega
              subst e
              rw [hDl, Nat.sub_self] at hq
              simp at hq
              rw [← hq]
              exact set_same e0'
          · obtain ⟨⟨v, hv⟩, hf⟩ := HTh.out i hi
            refine ⟨?_, by simp; exact (hb2'.frozen hsz).trans hf⟩
            by_cases e : i = j
            · subst e; exact ⟨_, set_same e0'⟩
            · exact ⟨v, by rw [set_other (by intro e; simp only [Addr.mk.injEq] at e; omega)]; exact grow_cell hb2' _ _ hv⟩
        have HB3 : Hid (Below w.heap.size w (w2.setCell ⟨w.heap.size, j, none⟩ (.string D))) := hB2.setCell (Nat.le_refl _) _
        clear hb2 hDt p0 p1 p2 p3 p4 p5 p6
        have Hrel : Hid (TxRel w k (j + 1) (w2.setCell ⟨w.heap.size, j, none⟩ (.string D))) := ⟨Ds ++ [D], by rw [List.map_append, HD.out, List.take_add_one, Hy.out]; simp [HDt.out], Hkeep.out.1, Hkeep.out.2, by simpa [World.setCell] using hsz2, HB3.out⟩
        go_wp2_with fail
        go_roundw
        case rel => exact ⟨j + 1, by omega, by go_num, Hrel.out⟩
        case measure => simp [intOf]; omega
      · have hje : j = k.length := by omega
        subst hje
        have Hall : Hid (Ds.map (·.data.toList) = k.map textL) := by rw [Hid, HD.out, List.take_length]
        clear hT
        have HDl := hide hDl
        clear hDl
        go_wp2_with fail
        have hDl := HDl.out
        have hjn := Tryz.strings_Join w.heap.size 0 k.length Ds ⟨#[32, 124, 32]⟩ wr (fun q x h => by rw [Nat.zero_add]; exact HDc.out q x h) hsz (by omega) (by omega) (by rw [Hall.out]; have := hl; rw [Hf.out] at this; exact Nat.le_trans this (by omega))
        rw [hDl] at hjn
        refine hjn.mono ?_
        rintro e w2 ⟨rfl, hb2⟩
        have hB2 := below_step hBr hb2
        clear hjn hDl
        rw [Hall.out]
        obtain ⟨D, hD⟩ : ∃ D : ByteArray, D = ⟨(Lib.join (k.map textL) sepL).toArray⟩ := ⟨_, rfl⟩
        have HDD : Hid (D.data.toList = textC k) := by rw [hD, Hf.out]; rfl
        have e : (⟨(Lib.join (k.map textL) (⟨#[32, 124, 32]⟩ : ByteArray).data.toList).toArray⟩ : ByteArray) = D := hD.symm
        rw [e]
        clear hD e
        go_wp2_with fail
        go_ret
        exact ⟨D, rfl, HDD.out, hB2⟩

end Go.Proofs.YtfckelbdageenabGreatDoor

namespace Go.Proofs.YtfckelbdageenabGreatDoor
open Go.RowKit Go.Deep Go.ChangeShapes Go.WideShapes

theorem parse_call {s : List Int} {sv : Value} {l : List UInt8} {A : ByteArray} {wn : World} {er : Int} {t : Tm} (hA : A.data.toList = l) (hN : NIn wn s sv) (hl : l.length ≤ maxLen) (hp : parseT s l = (er, t)) (w' : World) (hb : Below wn.heap.size wn w') :
    Calls Tryz.prog 65 #[sv, .string A] w' fun e w'' => ∃ z1 z2 z3, e = .returned (.tuple #[.agg #[.bool t.1.1, .int .i64 t.1.2, .slice z1 z2 z3], .int .i64 er]) ∧ SB (New w' w'') w'' t.2 (.slice z1 z2 z3) ∧ Below w'.heap.size w' w'' := by
  rw [byte_eq hA]
  refine (parseB_any s sv l w' (hN.below hb) hl).mono ?_
  rintro e w2 ⟨a, rfl, hS, hb2⟩
  rw [hp] at hS ⊢
  obtain ⟨z1, z2, z3, rfl⟩ := slice_of_sin hS.toS
  exact ⟨z1, z2, z3, rfl, hS, hb2⟩
theorem ba_cut (l : List UInt8) : ∃ A : ByteArray, A = ⟨l.toArray⟩ ∧ A.data.toList = l := ⟨_, rfl, rfl⟩
theorem cut_len {p q : List UInt8} : (Lib.cut p q).1.length ≤ p.length ∧ (Lib.cut p q).2.1.length ≤ p.length := by
  unfold Lib.cut
  split
  · simp only [List.length_take, List.length_drop]; omega
  · simp
theorem trim_len {p q : List UInt8} : (Lib.trimSuffix p q).length ≤ p.length := by
  unfold Lib.trimSuffix
  split
  · simp only [List.length_take]; omega
  · exact Nat.le_refl _
theorem drewN_below (w : World) (n : Nat) : Below w.heap.size w (w.drewN n) := below_drewN (Below.refl _ _) n

def LitPost (s : List Int) (l : List UInt8) (w : World) (e : Ending) (w' : World) : Prop :=
  ∃ a1 a2 a3 d1 d2 d3, e = .returned (.tuple #[litA (litP s l).2 (.slice a1 a2 a3) (.slice d1 d2 d3), .int .i64 (litP s l).1]) ∧ SB (New w w') w' (litP s l).2.2.1.2 (.slice a1 a2 a3) ∧ SB (New w w') w' (litP s l).2.2.2.2 (.slice d1 d2 d3) ∧ Below w.heap.size w w'

set_option maxRecDepth 100000 in
set_option maxHeartbeats 4000000 in
theorem parseLit_any (s : List Int) (sv : Value) (P : ByteArray) (m : Int) (w : World) (hN : NIn w s sv) (hM : w.cell? ⟨0, 0, none⟩ = some (.int .i64 m)) (hP : P.size < 4294967281) :
    Calls Tryz.prog 34 #[sv, .string P] w (LitPost s P.data.toList w) := by
  obtain ⟨l, hl⟩ : ∃ l, P.data.toList = l := ⟨_, rfl⟩
  have hll : l.length < 4294967281 := by rw [← ba_size hl]; exact hP
  have HN := hide hN
  obtain ⟨sa, sc, _, _, rfl, -, -, -, -⟩ := hN
  generalize hW1 : w.alloc (.cells #[.bool false, .bool false, .int .i64 0, .slice none 0 0, .bool false, .int .i64 0, .slice none 0 0] 44) = W1
  obtain ⟨g0, g1, g2, g3, g4, g5, g6, gf, hb1, hs1⟩ := lit_cells (T := 44) (x0 := .bool false) (w := w) (wr := W1) (x1 := .bool false) (x2 := .int .i64 0) (x3 := .slice none 0 0) (x4 := .bool false) (x5 := .int .i64 0) (x6 := .slice none 0 0) (by rw [hW1]; exact Below.refl _ _)
  have HW1 := hide hW1
  have Hcut := hide (Tryz.strings_Cut P ⟨#[61]⟩ m W1 hP (grow_cell hb1 _ _ hM))
  clear hW1 hM
  rw [hl] at Hcut ⊢
  have hcl := cut_len (p := l) (q := [61])
  have Hq : Hid (litP s l = if (Lib.cut l [61]).2.2 = false then (2, zeroL) else
    if (parseT s (Lib.trimSuffix (Lib.cut l [61]).1 [33])).1 ≠ 0 then ((parseT s (Lib.trimSuffix (Lib.cut l [61]).1 [33])).1, zeroL) else
    if (parseT s (Lib.cut l [61]).2.1).1 ≠ 0 then ((parseT s (Lib.cut l [61]).2.1).1, zeroL) else
    (0, (Lib.hasSuffix (Lib.cut l [61]).1 [33], (parseT s (Lib.trimSuffix (Lib.cut l [61]).1 [33])).2, (parseT s (Lib.cut l [61]).2.1).2))) := rfl
  go_enter Tryz.func34, Tryz.ntmps34
  go_upto_region 1 with fail
  rw [HW1.out]
  clear HW1
  go_wp2_with fail
  refine Hcut.out.mono ?_
  rintro e w2 ⟨rfl, n, rfl⟩
  clear Hcut
  obtain ⟨A, eA, hA⟩ := ba_cut (Lib.cut l [61]).1
  obtain ⟨B, eB, hB⟩ := ba_cut (Lib.cut l [61]).2.1
  rw [← eA, ← eB]
  generalize hw2 : W1.drewN n = w2
  have hb2 : Below W1.heap.size W1 w2 := by rw [← hw2]; exact drewN_below _ _
  clear hw2 eA eB
  have k0 := grow_cell hb2 _ _ g0
  have k1 := grow_cell hb2 _ _ g1
  have k2 := grow_cell hb2 _ _ g2
  have k3 := grow_cell hb2 _ _ g3
  have k4 := grow_cell hb2 _ _ g4
  have k5 := grow_cell hb2 _ _ g5
  have k6 := grow_cell hb2 _ _ g6
  have kf : ∀ i, w2.frozen? ⟨w.heap.size, i, none⟩ = false := fun i => (hb2.frozen hs1).trans (gf i)
  have hB2 : Below w.heap.size w w2 := below_step hb1 hb2
  have hs2 : w.heap.size < w2.heap.size := Nat.lt_of_lt_of_le hs1 hb2.size
  clear g0 g1 g2 g3 g4 g5 g6 gf hb1 hb2 hs1 W1
  generalize hq3 : (Lib.cut l [61]).2.2 = q3 at *
  have zst : ∀ (x : World) (er : Int), w.heap.size < x.heap.size → (∀ i, x.frozen? ⟨w.heap.size, i, none⟩ = false) → Below w.heap.size w x → litP s l = (er, zeroL) → LitPost s l w (.returned (.tuple #[litA zeroL (.slice none 0 0) (.slice none 0 0), .int .i64 er])) (setL x w.heap.size 0 [.bool false, .bool false, .int .i64 0, .slice none 0 0, .bool false, .int .i64 0, .slice none 0 0]) := fun x er _ _ hb he => by
    refine ⟨none, 0, 0, none, 0, 0, by rw [he], by rw [he]; exact SB.nil _ _, by rw [he]; exact SB.nil _ _, setL_below (Nat.le_refl _) hb⟩
  have Zst := hide zst
  clear zst
  cases q3 with
  | false =>
    have Hf : Hid (litP s l = (2, zeroL)) := by rw [Hid, Hq.out, if_pos rfl]
    clear hq3
    go_wp2_with fail
    exact bodyPost_ret (v := .tuple #[litA zeroL (.slice none 0 0) (.slice none 0 0), .int .i64 2]) (by simp [results, Tryz.results34, go_sem, k0, k1, k2, k3, k4, k5, k6, zeroL, zeroT]) rfl (Zst.out w2 2 hs2 kf hB2 Hf.out)
  | true =>
    rw [if_neg (by simp)] at Hq
    have hAz : A.size ≤ 9223372036854775807 := by rw [ba_size hA]; omega
    have Hsuf := hide (Tryz.strings_CutSuffix A ⟨#[33]⟩ w2 hAz)
    rw [hA] at Hsuf
    clear hq3
    go_wp2_with fail
    refine Hsuf.out.mono ?_
    rintro e w2' ⟨rfl, hw2'⟩
    rw [hw2']
    clear Hsuf hw2' w2'
    have htl := trim_len (p := (Lib.cut l [61]).1) (q := [33])
    obtain ⟨C, eC, hC⟩ := ba_cut (Lib.trimSuffix (Lib.cut l [61]).1 [33])
    rw [← eC]
    clear eC
    generalize Lib.hasSuffix (Lib.cut l [61]).1 [33] = neg at *
    generalize Lib.trimSuffix (Lib.cut l [61]).1 [33] = lc at *
    generalize (Lib.cut l [61]).2.1 = lb at *
    obtain ⟨⟨er1, ⟨tv, ti⟩, tk⟩, hp1⟩ : ∃ x, parseT s lc = x := ⟨_, rfl⟩
    obtain ⟨⟨er2, ⟨uv, ui⟩, uk⟩, hp2⟩ : ∃ x, parseT s lb = x := ⟨_, rfl⟩
    have Hp1 := hide (parse_call hC (HN.out.below hB2) (by unfold maxLen; omega) hp1)
    have Hp2 := hide (parse_call hB (HN.out.below hB2) (by unfold maxLen; omega) hp2)
    rw [hp1, hp2] at Hq
    clear hp1 hp2 hcl htl hA
    go_wp2_with fail
    refine (Hp1.out _ (Below.refl _ _)).mono ?_
    rintro e w3 ⟨z1, z2, z3, rfl, hS3, hb3⟩
    have HS3 := hide hS3
    simp only at *
    have j0 := grow_cell hb3 _ _ k0
    have j1 := grow_cell hb3 _ _ k1
    have j2 := grow_cell hb3 _ _ k2
    have j3 := grow_cell hb3 _ _ k3
    have j4 := grow_cell hb3 _ _ k4
    have j5 := grow_cell hb3 _ _ k5
    have j6 := grow_cell hb3 _ _ k6
    have jf : ∀ i, w3.frozen? ⟨w.heap.size, i, none⟩ = false := fun i => (hb3.frozen hs2).trans (kf i)
    have hB3 := below_step hB2 hb3
    have hs3 : w.heap.size < w3.heap.size := Nat.lt_of_lt_of_le hs2 hb3.size
    clear k0 k1 k2 k3 k4 k5 k6 kf hS3
    by_cases he : er1 = 0
    · subst he
      rw [if_neg (by simp)] at Hq
      generalize hw4 : w3.alloc (.cells #[.bool tv, .int .i64 ti, .slice z1 z2 z3] 36) = w4
      go_upto_region 8 with fail
      try rw [hw4]
      have hb4 : Below w3.heap.size w3 w4 := by rw [← hw4]; exact below_alloc _ _
      have t0 : w4.cell? ⟨w3.heap.size, 0, none⟩ = some (.bool tv) := by rw [← hw4]; exact new_cell rfl
      have t1 : w4.cell? ⟨w3.heap.size, 1, none⟩ = some (.int .i64 ti) := by rw [← hw4]; exact new_cell rfl
      have t2 : w4.cell? ⟨w3.heap.size, 2, none⟩ = some (.slice z1 z2 z3) := by rw [← hw4]; exact new_cell rfl
      have hs4 : w3.heap.size < w4.heap.size := by rw [← hw4]; simp
      clear hw4
      go_wp2_with fail
      refine (Hp2.out _ (below_step hb3 hb4)).mono ?_
      rintro e w5 ⟨y1, y2, y3, rfl, hS5, hb5⟩
      have HS5 := hide hS5
      simp only at *
      have hb45 := below_step hb4 hb5
      have i0 := grow_cell hb45 _ _ j0
      have i1 := grow_cell hb45 _ _ j1
      have i2 := grow_cell hb45 _ _ j2
      have i3 := grow_cell hb45 _ _ j3
      have i4 := grow_cell hb45 _ _ j4
      have i5 := grow_cell hb45 _ _ j5
      have i6 := grow_cell hb45 _ _ j6
      have if' : ∀ i, w5.frozen? ⟨w.heap.size, i, none⟩ = false := fun i => (hb45.frozen hs3).trans (jf i)
      have v0 := grow_cell hb5 _ _ t0
      have v1 := grow_cell hb5 _ _ t1
      have v2 := grow_cell hb5 _ _ t2
      have hB5 := below_step hB3 hb45
      have hs5 : w.heap.size < w5.heap.size := Nat.lt_of_lt_of_le hs3 hb45.size
      have hs35 : w3.heap.size < w5.heap.size := Nat.lt_of_lt_of_le hs4 hb5.size
      have hne : w3.heap.size ≠ w.heap.size := by omega
      clear j0 j1 j2 j3 j4 j5 j6 jf hS5 t0 t1 t2
      by_cases he : er2 = 0
      · subst he
        rw [if_neg (by simp)] at Hq
        generalize hw6 : w5.alloc (.cells #[.bool uv, .int .i64 ui, .slice y1 y2 y3] 36) = w6
        go_upto_region 11 with fail
        try rw [hw6]
        have hb6 : Below w5.heap.size w5 w6 := by rw [← hw6]; exact below_alloc _ _
        have x0 : w6.cell? ⟨w5.heap.size, 0, none⟩ = some (.bool uv) := by rw [← hw6]; exact new_cell rfl
        have x1 : w6.cell? ⟨w5.heap.size, 1, none⟩ = some (.int .i64 ui) := by rw [← hw6]; exact new_cell rfl
        have x2 : w6.cell? ⟨w5.heap.size, 2, none⟩ = some (.slice y1 y2 y3) := by rw [← hw6]; exact new_cell rfl
        have l0 := grow_cell hb6 _ _ i0
        have l1 := grow_cell hb6 _ _ i1
        have l2 := grow_cell hb6 _ _ i2
        have l3 := grow_cell hb6 _ _ i3
        have l4 := grow_cell hb6 _ _ i4
        have l5 := grow_cell hb6 _ _ i5
        have l6 := grow_cell hb6 _ _ i6
        have lf : ∀ i, w6.frozen? ⟨w.heap.size, i, none⟩ = false := fun i => (hb6.frozen hs5).trans (if' i)
        have o0 := grow_cell hb6 _ _ v0
        have o1 := grow_cell hb6 _ _ v1
        have o2 := grow_cell hb6 _ _ v2
        have hB6 := below_step hB5 hb6
        have hs56 : w5.heap.size < w6.heap.size := by rw [← hw6]; simp
        clear hw6 i0 i1 i2 i3 i4 i5 i6 if' v0 v1 v2
        have Hfin : Hid (LitPost s l w (.returned (.tuple #[litA (neg, ((tv, ti), tk), ((uv, ui), uk)) (.slice z1 z2 z3) (.slice y1 y2 y3), .int .i64 0])) (setL w6 w.heap.size 0 [.bool neg, .bool tv, .int .i64 ti, .slice z1 z2 z3, .bool uv, .int .i64 ui, .slice y1 y2 y3])) := by
          have a1 := hb45.size
          have a2 := hb3.size
          have a3 := hb4.size
          have a4 := hb5.size
          refine ⟨z1, z2, z3, y1, y2, y3, by rw [Hq.out], ?_, ?_, setL_below (Nat.le_refl _) hB6⟩
          · rw [Hq.out]
            refine HS3.out.frame (fun q hq => ⟨?_, ?_⟩) (fun q i hq => ?_)
            · have := hq.1; omega
            · rw [setL_size]; have := hq.2; omega
            · have h1 := hq.1
              have h2 := hq.2
              rw [setL_other (.inl (by omega)), hb6.cell (by show q < _; omega), hb45.cell h2]
          · rw [Hq.out]
            refine HS5.out.frame (fun q hq => ⟨?_, ?_⟩) (fun q i hq => ?_)
            · have := hq.1; omega
            · rw [setL_size]; have := hq.2; omega
            · have h1 := hq.1
              have h2 := hq.2
              rw [setL_other (.inl (by omega)), hb6.cell h2]
        go_wp2_with fail
        exact bodyPost_ret (v := .tuple #[litA (neg, ((tv, ti), tk), ((uv, ui), uk)) (.slice z1 z2 z3) (.slice y1 y2 y3), .int .i64 0]) (by simp [results, Tryz.results34, go_sem, l0, l1, l2, l3, l4, l5, l6]) rfl Hfin.out
      · rw [if_pos he] at Hq
        have heb : (er2 != 0) = true := by simp [he]
        generalize hw6 : w5.alloc (.cells #[.bool uv, .int .i64 ui, .slice y1 y2 y3] 36) = w6
        go_upto_region 9 with fail
        try rw [hw6]
        have hb6 : Below w5.heap.size w5 w6 := by rw [← hw6]; exact below_alloc _ _
        have l0 := grow_cell hb6 _ _ i0
        have l1 := grow_cell hb6 _ _ i1
        have l2 := grow_cell hb6 _ _ i2
        have l3 := grow_cell hb6 _ _ i3
        have l4 := grow_cell hb6 _ _ i4
        have l5 := grow_cell hb6 _ _ i5
        have l6 := grow_cell hb6 _ _ i6
        have lf : ∀ i, w6.frozen? ⟨w.heap.size, i, none⟩ = false := fun i => (hb6.frozen hs5).trans (if' i)
        have hB6 := below_step hB5 hb6
        have Hfin := hide (Zst.out w6 er2 (Nat.lt_of_lt_of_le hs5 hb6.size) lf hB6 Hq.out)
        clear hw6 i0 i1 i2 i3 i4 i5 i6 if' v0 v1 v2 he
        go_wp2_with fail
        exact bodyPost_ret (v := .tuple #[litA zeroL (.slice none 0 0) (.slice none 0 0), .int .i64 er2]) (by simp [results, Tryz.results34, go_sem, l0, l1, l2, l3, l4, l5, l6, zeroL, zeroT]) rfl Hfin.out
    · rw [if_pos he] at Hq
      have heb : (er1 != 0) = true := by simp [he]
      generalize hw4 : w3.alloc (.cells #[.bool tv, .int .i64 ti, .slice z1 z2 z3] 36) = w4
      go_upto_region 6 with fail
      try rw [hw4]
      have hb4 : Below w3.heap.size w3 w4 := by rw [← hw4]; exact below_alloc _ _
      have l0 := grow_cell hb4 _ _ j0
      have l1 := grow_cell hb4 _ _ j1
      have l2 := grow_cell hb4 _ _ j2
      have l3 := grow_cell hb4 _ _ j3
      have l4 := grow_cell hb4 _ _ j4
      have l5 := grow_cell hb4 _ _ j5
      have l6 := grow_cell hb4 _ _ j6
      have lf : ∀ i, w4.frozen? ⟨w.heap.size, i, none⟩ = false := fun i => (hb4.frozen hs3).trans (jf i)
      have hB4 := below_step hB3 hb4
      have Hfin := hide (Zst.out w4 er1 (Nat.lt_of_lt_of_le hs3 hb4.size) lf hB4 Hq.out)
      clear hw4 j0 j1 j2 j3 j4 j5 j6 jf he
      go_wp2_with fail
      exact bodyPost_ret (v := .tuple #[litA zeroL (.slice none 0 0) (.slice none 0 0), .int .i64 er1]) (by simp [results, Tryz.results34, go_sem, l0, l1, l2, l3, l4, l5, l6, zeroL, zeroT]) rfl Hfin.out

end Go.Proofs.YtfckelbdageenabGreatDoor

namespace Go.Proofs.YtfckelbdageenabGreatDoor
open Go.RowKit Go.Deep Go.ChangeShapes Go.WideShapes

theorem splitK_len : ∀ (k : Nat) (l : List UInt8), ∀ p ∈ Lib.splitK sepL 0 k l, p.length ≤ l.length := by
  intro k
  induction k with
  | zero => intro l p hp; rw [Lib.splitK] at hp; simp at hp; rw [hp]; exact Nat.le_refl _
  | succ k ih =>
    intro l p hp
    rcases index_two l with hi | ⟨i, hi, hr⟩
    · rw [splitK_miss hi] at hp; simp at hp; rw [hp]; exact Nat.le_refl _
    · rw [splitK_hit hi] at hp
      rcases List.mem_cons.1 hp with rfl | hp
      · simp only [List.length_take]; omega
      · have := ih _ p hp
        simp only [List.length_drop] at this
        omega
theorem cellsOf_at {ps : List ByteArray} {N j : Nat} {p : ByteArray} (h : ps[j]? = some p) : (Lib.cellsOf ps N)[j]? = some (.string p) := by
  unfold Lib.cellsOf
  rw [List.getElem?_toArray, List.getElem?_append_left (by rw [List.length_map]; exact (List.getElem?_eq_some_iff.1 h).1), List.getElem?_map, h]
  rfl
def ParsePost (s : List Int) (l : List UInt8) (w : World) (e : Ending) (w' : World) : Prop :=
  ∃ z1 z2 z3, e = .returned (.tuple #[.slice z1 z2 z3, .int .i64 (parseC s l).1]) ∧ CIn w' (parseC s l).2 (.slice z1 z2 z3) ∧ Below w.heap.size w w'
theorem parse_post {s : List Int} {l : List UInt8} {w w' : World} {er : Int} (h : parseC s l = (er, [])) (hb : Below w.heap.size w w') : ParsePost s l w (.returned (.tuple #[.slice none 0 0, .int .i64 er])) w' :=
  ⟨none, 0, 0, by rw [h], by rw [h]; exact CIn.nil _, hb⟩
set_option maxRecDepth 100000 in
set_option maxHeartbeats 4000000 in
theorem parseCl_any (s : List Int) (sv : Value) (T : ByteArray) (m : Int) (w : World) (hN : NIn w s sv) (hM : w.cell? ⟨0, 0, none⟩ = some (.int .i64 m)) (hT : T.size < 4294967281) :
    Calls Tryz.prog 7 #[sv, .string T] w (ParsePost s T.data.toList w) := by
  obtain ⟨l, hl⟩ : ∃ l, T.data.toList = l := ⟨_, rfl⟩
  have hll : l.length < 4294967281 := by rw [← ba_size hl]; exact hT
  have hTl : T.size = l.length := ba_size hl
  have HN := hide hN
  have HM := hide hM
  obtain ⟨sa, sc, _, _, rfl, -, -, -, -⟩ := hN
  rw [hl]
  clear hM
  go_enter Tryz.func7, Tryz.ntmps7
  go_wp2_with fail
  refine (wsig_any s _ _ HN.out).mono ?_
  rintro e w' ⟨rfl, hw'⟩
  rw [hw']
  clear hw' w'
  by_cases hw : wsig s = 0
  · have Hw := hide hw
    simp only [hw]
    clear hw
    by_cases h2 : T = ⟨#[91, 93]⟩
    · subst h2
      have Hf : Hid (parseC s l = (0, [])) := by rw [Hid, parseC, if_neg (by simp [Hw.out]), if_pos hl.symm]
      clear hl hTl
      go_wp2_with fail
      go_ret2
      exact parse_post Hf.out (Below.refl _ _)
    · have Hne : Hid (l ≠ [91, 93]) := fun e => h2 (by rw [e] at hl; exact byte_eq hl)
      have Hpc : Hid (parseC s l = partsC s (full l)) := by rw [Hid, parseC, if_neg (by simp [Hw.out]), if_neg Hne.out]
      have h2b : (T.toList == [91, 93]) = false := by rw [ByteArray.toList_eq, hl]; simpa using Hne.out
      have h2c : (T.data.toList == [91, 93]) = false := by rw [hl]; simpa using Hne.out
      have Hsp := hide (Tryz.strings_SplitN T ⟨#[32, 124, 32]⟩ 5 m w hT HM.out (by decide) (by omega) (by omega))
      obtain ⟨ps, hps⟩ : ∃ ps, ps = Lib.splitB (⟨#[32, 124, 32]⟩ : ByteArray) 0 (min 5 (T.size + 1) - 1) T := ⟨_, rfl⟩
      rw [← hps] at Hsp
      have hpd : ps.map (·.data.toList) = Lib.splitK sepL 0 (min 5 (l.length + 1) - 1) l := by
        rw [hps, Lib.splitB_data, hl, hTl]
      have hpl : ps.length = (Lib.splitK sepL 0 (min 5 (l.length + 1) - 1) l).length := by rw [← hpd, List.length_map]
      obtain ⟨N, hN5⟩ : ∃ N, N = min 5 (T.size + 1) := ⟨_, rfl⟩
      rw [← hN5] at Hsp
      have hpN : ps.length ≤ N := by
        have := Lib.splitB_length_le (⟨#[32, 124, 32]⟩ : ByteArray) 0 (min 5 (T.size + 1) - 1) T
        rw [← hps] at this
        omega
      have hN5' : N ≤ 5 := by omega
      obtain ⟨f1, f2⟩ := split_five l
      rw [← hpl] at f1
      have Hsm : Hid (∀ p ∈ ps, p.size < 4294967281) := fun p hp => by
        have h1 : p.data.toList ∈ Lib.splitK sepL 0 (min 5 (l.length + 1) - 1) l := by rw [← hpd]; exact List.mem_map_of_mem hp
        have := splitK_len _ _ _ h1
        rw [ba_size (B := p) rfl]
        omega
      have Hpd := hide hpd
      have Hf2 := hide f2
      have Hf1 := hide f1
      clear hps hpd f1 f2 hN5 hpl
      go_wp2_with fail
      refine Hsp.out.mono ?_
      rintro e w1 ⟨rfl, rfl⟩
      clear Hsp
      by_cases h4 : 4 < ps.length
      · have Hf : Hid (parseC s l = (5, [])) := by rw [Hid, Hpc.out, partsC, if_pos (Hf1.out.1 h4)]
        have h4' : (4 : Int) < (ps.length : Int) := by omega
        go_wp2_with fail
        go_ret2
        exact parse_post Hf.out (below_alloc _ _)
      · have h4' : ¬ (4 : Int) < (ps.length : Int) := by omega
        have hn4 : ¬ 4 < (full l).length := fun h => h4 (Hf1.out.2 h)
        have Hpf : Hid (ps.map (·.data.toList) = full l) := by rw [Hid, Hpd.out, Hf2.out hn4]
        have Hpc2 : Hid (parseC s l = if litsP s (full l) ≠ 0 then (litsP s (full l), []) else (0, (full l).map fun p => (litP s p).2)) := by rw [Hid, Hpc.out, partsC, if_neg hn4]
        obtain ⟨C, hC⟩ : ∃ C : Cl, C = (full l).map fun p => (litP s p).2 := ⟨_, rfl⟩
        have hCl : C.length = ps.length := by rw [hC, List.length_map, ← Hpf.out, List.length_map]
        have HC := hide hC
        clear hC hn4 Hf1 Hf2 Hpd
        generalize hW1 : w.alloc (.cells (Lib.cellsOf ps N) 9) = W1
        have hb1 : Below w.heap.size w W1 := by rw [← hW1]; exact below_alloc _ _
        have Hcs : Hid (∀ j p, ps[j]? = some p → W1.cell? ⟨w.heap.size, j, none⟩ = some (.string p)) := fun j p h => by
          rw [← hW1]
          have := cellsOf_at (N := N) h
          simp [this]
        clear hW1
        obtain ⟨iL, hi, hz0, hz1, hz2⟩ := info_parts Tryz.info44
        have hmk := fun w : World => run_make (P := Tryz.prog) w 25 44 iL _ Tryz.underlying25 hi hz0 .i64 .i64 (ps.length : Int) (ps.length : Int) (by omega) (by omega) (by rw [hz2]; omega) (by omega)
        rw [hz1] at hmk
        simp only [Int.toNat_natCast] at hmk
        go_wp2_with fail
        clear hmk hi hz0 hz1 hz2
        have H0 : Hid (MkRel W1.heap.size W1 C 0 (W1.alloc (.cells (madeCells #[.bool false, .bool false, .int .i64 0, .slice none 0 0, .bool false, .int .i64 0, .slice none 0 0] (ps.length * 7)) 44))) := by
          have := mk_start (W2 := W1) (T := C) (z := #[.bool false, .bool false, .int .i64 0, .slice none 0 0, .bool false, .int .i64 0, .slice none 0 0])
          rw [hCl] at this
          exact this
        go_loopw [30] (fun i wr => ∃ j : Nat, j ≤ ps.length ∧ i = .int .i64 j ∧ (∀ q, q < j → ∀ a, (full l)[q]? = some a → (litP s a).1 = 0) ∧ MkRel W1.heap.size W1 C j wr) (fun i _ => ps.length - (intOf i).toNat)
        case atStart => exact ⟨0, Nat.zero_le _, rfl, fun q hq => by omega, H0.out⟩
        case round =>
          obtain ⟨j, hj, rfl, hno, hR⟩ := hrel
          have Hno := hide hno
          have HR := hide hR
          obtain ⟨hBg, hTh, hsz, -⟩ := hR
          have hB1 : Below W1.heap.size W1 wr := hBg
          have hBw : Below w.heap.size w wr := below_step hb1 hB1
          clear hno
          by_cases hlt : j < ps.length
          · have hlt' : (j : Int) < (ps.length : Int) := by omega
            have hj0 : (0 : Int) ≤ (j : Int) := by omega
            obtain ⟨P, hP⟩ : ∃ P, ps[j]? = some P := ⟨ps[j]'hlt, by simp⟩
            have hc := grow_cell hB1 _ _ (Hcs.out j P hP)
            have Hfl : Hid ((full l)[j]? = some P.data.toList) := by rw [Hid, ← Hpf.out, List.getElem?_map, hP]; rfl
            have Hpz := hide (Hsm.out P (List.mem_of_getElem? hP))
            obtain ⟨⟨er, ln, ⟨⟨tv, ti⟩, tk⟩, ⟨uv, ui⟩, uk⟩, hlp⟩ : ∃ x, litP s P.data.toList = x := ⟨_, rfl⟩
            have HCj : Hid (C[j]? = some (ln, ((tv, ti), tk), ((uv, ui), uk))) := by rw [Hid, HC.out, List.getElem?_map, Hfl.out]; simp [hlp]
            have Hcall := hide (parseLit_any s (.slice sa s.length sc) P m wr (HN.out.below hBw) (grow_cell hBw _ _ HM.out) Hpz.out)
            have Hlp := hide hlp
            have hfz : ∀ i, i < 7 → (∃ v, wr.cell? ⟨W1.heap.size, j * 7 + i, none⟩ = some v) ∧ wr.frozen? ⟨W1.heap.size, j * 7 + i, none⟩ = false := fun i hi => hTh _ (by rw [hCl]; omega)
            have Hfz := hide hfz
            clear hP hfz hTh hlp hBg
            go_wp2_with fail
            refine Hcall.out.mono ?_
            rintro e w2 ⟨a1, a2, a3, d1, d2, d3, rfl, hA, hD, hb2⟩
            rw [Hlp.out] at hA hD ⊢
            have HA := hide hA
            have HD := hide hD
            simp only at *
            clear hA hD Hcall hc
            generalize hw3 : w2.alloc (.cells #[.bool ln, .bool tv, .int .i64 ti, .slice a1 a2 a3, .bool uv, .int .i64 ui, .slice d1 d2 d3] 44) = w3
            obtain ⟨g0, g1, g2, g3, g4, g5, g6, -, hb3, hs3⟩ := lit_cells (T := 44) (x0 := .bool ln) (w := w2) (wr := w3) (x1 := .bool tv) (x2 := .int .i64 ti) (x3 := .slice a1 a2 a3) (x4 := .bool uv) (x5 := .int .i64 ui) (x6 := .slice d1 d2 d3) (by rw [hw3]; exact Below.refl _ _)
            have hb23 := below_step hb2 hb3
            have hB3 := below_step hBw hb23
            by_cases he : er = 0
            · subst he
              go_upto_region 14 with fail
              try rw [hw3]
              have hall := hb23
              have hgz : W1.heap.size < wr.heap.size := by omega
              obtain ⟨⟨t0, e0⟩, f0⟩ := Hfz.out 0 (by omega)
              obtain ⟨⟨t1, e1⟩, f1⟩ := Hfz.out 1 (by omega)
              obtain ⟨⟨t2, e2⟩, f2⟩ := Hfz.out 2 (by omega)
              obtain ⟨⟨t3, e3⟩, f3⟩ := Hfz.out 3 (by omega)
              obtain ⟨⟨t4, e4⟩, f4⟩ := Hfz.out 4 (by omega)
              obtain ⟨⟨t5, e5⟩, f5⟩ := Hfz.out 5 (by omega)
              obtain ⟨⟨t6, e6⟩, f6⟩ := Hfz.out 6 (by omega)
              replace e0 := grow_cell hall _ _ e0
              replace e1 := grow_cell hall _ _ e1
              replace e2 := grow_cell hall _ _ e2
              replace e3 := grow_cell hall _ _ e3
              replace e4 := grow_cell hall _ _ e4
              replace e5 := grow_cell hall _ _ e5
              replace e6 := grow_cell hall _ _ e6
              replace f0 := (hall.frozen hgz).trans f0
              replace f1 := (hall.frozen hgz).trans f1
              replace f2 := (hall.frozen hgz).trans f2
              replace f3 := (hall.frozen hgz).trans f3
              replace f4 := (hall.frozen hgz).trans f4
              replace f5 := (hall.frozen hgz).trans f5
              replace f6 := (hall.frozen hgz).trans f6
              simp only [Nat.add_zero] at e0 f0
              have Hstep : Hid (MkRel W1.heap.size W1 C (j + 1) (setL w3 W1.heap.size (j * 7) (litV (ln, ((tv, ti), tk), ((uv, ui), uk)) (.slice a1 a2 a3) (.slice d1 d2 d3)))) := by
                have q3 := hb3.size
                refine mk_step HR.out HCj.out hb23 ?_ ?_
                · exact HA.out.frame (fun q hq => ⟨hq.1, by have := hq.2; omega⟩) (fun q i hq => hb3.cell hq.2)
                · exact HD.out.frame (fun q hq => ⟨hq.1, by have := hq.2; omega⟩) (fun q i hq => hb3.cell hq.2)
              clear hw3 hall
              go_wp2_with fail
              go_roundw
              case rel => exact ⟨j + 1, by omega, by go_num, fun q hq a ha => by
                by_cases e : q = j
                · subst e; rw [Hfl.out] at ha; cases ha; rw [Hlp.out]
                · exact Hno.out q (by omega) a ha, Hstep.out⟩
              case measure => simp [intOf]; omega
            · have heb : (er != 0) = true := by simp [he]
              have Hf : Hid (parseC s l = (er, [])) := by
                have h1 := litsP_at Hno.out Hfl.out (by rw [Hlp.out]; exact he)
                rw [Hlp.out] at h1
                rw [Hid, Hpc2.out, h1, if_pos he]
              clear he
              go_upto_region 14 with fail
              try rw [hw3]
              clear hw3
              go_wp2_with fail
              go_ret2
              exact parse_post Hf.out hB3
          · have hje : j = ps.length := by omega
            have Hf : Hid (parseC s l = (0, C)) := by
              have h1 : litsP s (full l) = 0 := litsP_iff.2 fun p hp => by
                obtain ⟨i, hi, e⟩ := List.mem_iff_getElem.1 hp
                have hfl : (full l).length = ps.length := by rw [← Hpf.out, List.length_map]
                exact Hno.out i (by omega) p (by rw [List.getElem?_eq_getElem hi, e])
              rw [Hid, Hpc2.out, if_neg (by simp [h1]), HC.out]
            have Hfin : Hid (CIn wr C (.slice (some ⟨W1.heap.size, 0, none⟩) ps.length ps.length)) := by
              have h1 := HR.out
              rw [hje, ← hCl] at h1
              have := mk_end h1 (by unfold maxLen; omega)
              rw [hCl] at this
              exact this
            clear hTh hBg
            go_wp2_with fail
            go_ret2
            exact ⟨some ⟨W1.heap.size, 0, none⟩, ps.length, ps.length, by rw [Hf.out]; rfl, by rw [Hf.out]; exact Hfin.out, hBw⟩
  · have Hf : Hid (parseC s l = (wsig s, [])) := by rw [Hid, parseC, if_pos hw]
    have heb : (wsig s != 0) = true := by simp [hw]
    generalize wsig s = er at *
    clear hw
    go_wp2_with fail
    go_ret2
    exact parse_post Hf.out (Below.refl _ _)

end Go.Proofs.YtfckelbdageenabGreatDoor

namespace Go.Proofs.YtfckelbdageenabGreatDoor
open Go.RowKit Go.Deep Go.ChangeShapes Go.WideShapes

/-- So much is looked at: the parts ps, then from f on no sign between up to i. -/
structure Scan (l : List UInt8) (i f : Nat) (ps : List (List UInt8)) : Prop where
  fi : f ≤ i
  il : i ≤ l.length
  all : ps ++ full (l.drop f) = full l
  no : Lib.NoOcc (l.drop f) sepL (i - f)
theorem scan_start (l : List UInt8) : Scan l 0 0 [] := ⟨Nat.le_refl _, Nat.zero_le _, by simp, Lib.NoOcc.zero _ _⟩
theorem occ_is {l : List UInt8} {i f : Nat} (h : f ≤ i) : Lib.occAt (l.drop f) sepL (i - f) = decide ((l.drop i).take 3 = sepL) := by
  unfold Lib.occAt
  rw [List.drop_drop, show f + (i - f) = i by omega, Bool.eq_iff_iff, List.isPrefixOf_iff_prefix, decide_eq_true_eq, List.prefix_iff_eq_take]
  exact ⟨fun h => h.symm, fun h => h.symm⟩
theorem Scan.miss {l : List UInt8} {i f : Nat} {ps : List (List UInt8)} (h : Scan l i f ps) (hi : i + 3 ≤ l.length) (hn : (l.drop i).take 3 ≠ sepL) : Scan l (i + 1) f ps := by
  refine ⟨by have := h.fi; omega, by omega, h.all, ?_⟩
  rw [show i + 1 - f = i - f + 1 by have := h.fi; omega]
  exact h.no.succ (by rw [occ_is h.fi]; simpa using hn)
theorem Scan.hit {l : List UInt8} {i f : Nat} {ps : List (List UInt8)} (h : Scan l i f ps) (hi : i + 3 ≤ l.length) (hn : (l.drop i).take 3 = sepL) : Scan l (i + 3) (i + 3) (ps ++ [(l.drop f).take (i - f)]) := by
  have hf := h.fi
  refine ⟨Nat.le_refl _, hi, ?_, by rw [Nat.sub_self]; exact Lib.NoOcc.zero _ _⟩
  have hx : Lib.index (l.drop f) sepL = ((i - f : Nat) : Int) := Lib.index_hit h.no (by simp only [List.length_drop]; omega) (by rw [occ_is hf]; simpa using hn)
  have := full_hit hx (by simp only [List.length_drop]; omega)
  rw [List.drop_drop, show f + (i - f + 3) = i + 3 by omega] at this
  rw [← h.all, this]
  simp
theorem Scan.last {l : List UInt8} {i f : Nat} {ps : List (List UInt8)} (h : Scan l i f ps) (hi : ¬ i + 3 ≤ l.length) : ps ++ [l.drop f] = full l := by
  have hf := h.fi
  have hx : Lib.index (l.drop f) sepL = -1 := Lib.index_past (by simp) h.no (by simp only [List.length_drop]; simp; omega)
  rw [← h.all, full_miss hx]

/-- The first sign of that kind. -/
theorem index_one {p : List UInt8} {k : Nat} (hk : k ≤ p.length) (hno : ∀ q, q < k → p[q]? ≠ some 61) : (k = p.length → Lib.index p [61] = -1) ∧ (p[k]? = some 61 → Lib.index p [61] = (k : Int)) := by
  have occ : ∀ j, Lib.occAt p [61] j = decide (p[j]? = some 61) := fun j => by
    unfold Lib.occAt
    cases hd : p.drop j with
    | nil =>
      have : p.length ≤ j := by rw [List.drop_eq_nil_iff] at hd; exact hd
      rw [List.getElem?_eq_none this]; rfl
    | cons b r =>
      have : p[j]? = some b := by
        have h2 : (p.drop j)[0]? = some b := by rw [hd]; rfl
        rw [List.getElem?_drop] at h2
        simpa using h2
      rw [this, Bool.eq_iff_iff]
      simp only [List.isPrefixOf, Bool.and_true, beq_iff_eq, decide_eq_true_eq, Option.some.injEq]
      exact ⟨Eq.symm, Eq.symm⟩
  have no : Lib.NoOcc p [61] k := fun j hj => by rw [occ]; simpa using hno j hj
  refine ⟨fun e => Lib.index_past (by simp) no (by simp; omega), fun h => Lib.index_hit no hk (by rw [occ]; simpa using h)⟩
theorem cut_miss {p : List UInt8} (h : Lib.index p [61] = -1) : (Lib.cut p [61]).2.2 = false := by
  unfold Lib.cut
  rw [h]; rfl
theorem cut_hit {p : List UInt8} {k : Nat} (h : Lib.index p [61] = (k : Int)) : Lib.cut p [61] = (p.take k, p.drop (k + 1), true) := by
  unfold Lib.cut
  rw [h, if_pos (by omega)]
  simp
theorem suffix_is {q : List UInt8} : Lib.hasSuffix q [33] = decide (0 < q.length ∧ q[q.length - 1]? = some 33) := by
  unfold Lib.hasSuffix
  rw [Bool.eq_iff_iff, List.isSuffixOf_iff_suffix, decide_eq_true_eq]
  constructor
  · rintro ⟨t, rfl⟩
    simp
  · rintro ⟨h0, h⟩
    refine ⟨q.take (q.length - 1), ?_⟩
    have h2 : q.drop (q.length - 1) = [33] := by
      rw [List.drop_eq_getElem_cons (by omega)]
      rw [List.getElem?_eq_getElem (by omega)] at h
      simp at h
      rw [h, show q.length - 1 + 1 = q.length by omega, List.drop_length]
    rw [← h2, List.take_append_drop]
theorem trim_is {q : List UInt8} : Lib.trimSuffix q [33] = if Lib.hasSuffix q [33] then q.take (q.length - 1) else q := rfl

end Go.Proofs.YtfckelbdageenabGreatDoor

namespace Go.Proofs.YtfckelbdageenabGreatDoor
open Go.RowKit Go.Deep Go.ChangeShapes Go.WideShapes

set_option maxRecDepth 100000 in
set_option maxHeartbeats 1000000 in
theorem wrongC_any (s : List Int) (sv : Value) (k : Cl) (a : Value) (w : World) (hN : NIn w s sv) (hS : CIn w k a) :
    Calls Tryz.prog 10 #[sv, a] w fun e w' => e = .returned (.int .i64 (wrongC s k)) ∧ Below w.heap.size w w' := by
  obtain ⟨a1, c1, b1, o1, rfl, had1, hlc1, hcm1, hF1⟩ := hS
  unfold maxLen at hcm1
  have HF1 := hide hF1
  have HN := hide hN
  obtain ⟨sa, sc, _, _, rfl, -, -, -, -⟩ := hN
  clear hF1
  by_cases h4 : 4 < k.length
  · have h4' : (4 : Int) < (k.length : Int) := by omega
    have Hf : Hid (wrongC s k = 5) := if_pos h4
    go_enter Tryz.func10, Tryz.ntmps10
    go_wp2_with fail
    go_ret
    exact ⟨by rw [Hf.out]; rfl, Below.refl _ _⟩
  · have h4' : ¬ (4 : Int) < (k.length : Int) := by omega
    have Hw : Hid (wrongC s k = wrongLs s k) := if_neg h4
    go_enter Tryz.func10, Tryz.ntmps10
    go_wp2_with fail
    go_loopw [14] (fun i wr => ∃ j : Nat, j ≤ k.length ∧ i = .int .i64 j ∧ (∀ i, i < j → ∀ a, k[i]? = some a → wrongL s a = 0) ∧ Below w.heap.size w wr) (fun i _ => k.length - (intOf i).toNat)
    case atStart => exact ⟨0, Nat.zero_le _, rfl, fun i hi => by omega, Below.refl _ _⟩
    case round =>
      obtain ⟨j, hj, rfl, hok, hBr⟩ := hrel
      have Hok := hide hok
      clear hok
      by_cases hlt : j < k.length
      · have hlt' : (j : Int) < (k.length : Int) := by omega
        obtain ⟨⟨yn, ⟨⟨yv, yi⟩, yk⟩, ⟨yv', yi'⟩, yk'⟩, hy⟩ : ∃ y, k[j]? = some y := ⟨k[j]'hlt, by simp⟩
        obtain ⟨p0, p1, p2, ⟨u3, p3, hA⟩, p4, p5, u6, p6, hD⟩ := (HF1.out.below hBr).at hy
        have ha1 : a1 = some ⟨b1, o1, none⟩ := had1 (by omega)
        subst ha1
        have HA := hide hA
        have HD := hide hD
        obtain ⟨_, _, _, _, rfl, -, -, -, -⟩ := hA
        obtain ⟨_, _, _, _, rfl, -, -, -, -⟩ := hD
        have Hy := hide hy
        clear hy had1
        simp only at *
        go_wp2_with fail
        refine (wrong_any s _ (yv, yi) yk _ _ ((HN.out.below hBr).alloc _) (HA.out.alloc _)).mono ?_
        rintro e w2 ⟨rfl, hb2⟩
        obtain ⟨-, -, -, -, e4, e5, e6, -, hb2', -⟩ := lit_cells hb2
        have hB2 := below_step hBr hb2'
        have HD2 := hide (HD.out.below hb2')
        have HN2 := hide (HN.out.below hB2)
        clear hb2
        by_cases he : wrongF s (yv, yi) yk = 0
        · have heb : (wrongF s (yv, yi) yk != 0) = false := by simp [he]
          have He := hide he
          clear he
          generalize wrongF s (yv, yi) yk = e1 at heb
          go_wp2_with fail
          refine (wrong_any s _ (yv', yi') yk' _ _ HN2.out HD2.out).mono ?_
          rintro e w3 ⟨rfl, hb3⟩
          have hB3 := below_step hB2 hb3
          by_cases he : wrongF s (yv', yi') yk' = 0
          · have heb2 : (wrongF s (yv', yi') yk' != 0) = false := by simp [he]
            have He2 := hide he
            clear he
            generalize wrongF s (yv', yi') yk' = e2 at heb2
            go_wp2_with fail
            go_roundw
            case rel => exact ⟨j + 1, by omega, by go_num, fun i hi a ha => by
              by_cases e : i = j
              · subst e; rw [Hy.out] at ha; cases ha; exact wrongL_iff.2 ⟨He.out, He2.out⟩
              · exact Hok.out i (by omega) a ha, hB3⟩
            case measure => simp [intOf]; omega
          · have heb2 : (wrongF s (yv', yi') yk' != 0) = true := by simp [he]
            have Hf : Hid (wrongF s (yv', yi') yk' = wrongC s k) := by
              have hl : wrongL s (yn, ((yv, yi), yk), ((yv', yi'), yk')) = wrongF s (yv', yi') yk' := by simp only [wrongL]; rw [if_neg (by simp [He.out])]
              rw [Hid, Hw.out, wrongLs_at Hok.out Hy.out (by rw [hl]; exact he), hl]
            clear he
            generalize wrongF s (yv', yi') yk' = e2 at heb2 Hf
            go_wp2_with fail
            go_ret
            exact ⟨by rw [Hf.out]; rfl, hB3⟩
        · have heb : (wrongF s (yv, yi) yk != 0) = true := by simp [he]
          have Hf : Hid (wrongF s (yv, yi) yk = wrongC s k) := by
            have hl : wrongL s (yn, ((yv, yi), yk), ((yv', yi'), yk')) = wrongF s (yv, yi) yk := by simp only [wrongL]; rw [if_pos he]
            rw [Hid, Hw.out, wrongLs_at Hok.out Hy.out (by rw [hl]; exact he), hl]
          clear he
          generalize wrongF s (yv, yi) yk = e1 at heb Hf
          go_wp2_with fail
          go_ret
          exact ⟨by rw [Hf.out]; rfl, hB2⟩
      · have Hf : Hid (wrongC s k = 0) := by
          rw [Hid, Hw.out, wrongLs_iff]
          intro l hl
          obtain ⟨i, hi, e⟩ := List.mem_iff_getElem.1 hl
          exact Hok.out i (by omega) l (by rw [List.getElem?_eq_getElem hi, e])
        go_wp2_with fail
        go_ret
        exact ⟨by rw [Hf.out]; rfl, hBr⟩

end Go.Proofs.YtfckelbdageenabGreatDoor

namespace Go.Proofs.YtfckelbdageenabGreatDoor
open Go.RowKit Go.Deep Go.ChangeShapes Go.WideShapes

theorem tx_right4 {s : List Int} (h6 : s.length ≤ 6) (hs : s.all okNum = true) {x : Bool × Int} {k : Fo} (h : wrongF s x k = 0) : TxT (x, k) := by
  obtain ⟨h1, _, _, _, hw⟩ := right_of hs h
  have hl := textT_len x k
  obtain ⟨t1, t2⟩ := text_okT h6 hw
  exact ⟨t1, t2, by simp only; omega⟩
theorem txC_right4 {s : List Int} (h6 : s.length ≤ 6) (hs : s.all okNum = true) {c : Cl} (h : wrongC s c = 0) : ∀ l ∈ c, TxT l.2.1 ∧ TxT l.2.2 := fun l hl =>
  ⟨tx_right4 h6 hs ((wrongC_iff.1 h).2 l hl).1, tx_right4 h6 hs ((wrongC_iff.1 h).2 l hl).2⟩
theorem textL_len4 {l : Lt} (h : TxT l.2.1 ∧ TxT l.2.2) : (textL l).length ≤ 2002 := by
  have h1 := h.1.2.2
  have h2 := h.2.2.2
  simp only [textL, List.length_append]
  split <;> simp <;> omega
theorem textC_len4 {c : Cl} (h : ∀ l ∈ c, TxT l.2.1 ∧ TxT l.2.2) (h4 : c.length ≤ 4) : (textC c).length ≤ 100000 := by
  have key : ∀ (r : List (List UInt8)), (∀ x ∈ r, x.length ≤ 2002) → (Lib.join r sepL).length ≤ r.length * 2010 := by
    intro r
    induction r with
    | nil => intro _; simp [Lib.join_nil]
    | cons x r ih =>
      intro hx
      have h1 := ih (fun y hy => hx y (by simp [hy]))
      have h2 := hx x (by simp)
      cases r with
      | nil => rw [Lib.join_one]; simp; omega
      | cons y r =>
        rw [join_cons2]
        simp only [List.length_append, List.length_cons, List.length_nil] at h1 ⊢
        omega
  unfold textC
  split
  · simp
  · have := key (c.map textL) (fun x hx => by
      obtain ⟨l, hl, rfl⟩ := List.mem_map.1 hx
      exact textL_len4 (h l hl))
    rw [List.length_map] at this
    omega
end Go.Proofs.YtfckelbdageenabGreatDoor
