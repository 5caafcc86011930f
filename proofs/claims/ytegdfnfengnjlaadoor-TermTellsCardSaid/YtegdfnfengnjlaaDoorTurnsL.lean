/- Written, and read again: the law's walk. -/
import Derived.Test.YtegdfnfengnjlaaDoorTurnsP
namespace Go.Proofs.YtegdfnfengnjlaaDoor
open Go.RowKit Go.Deep Go.ChangeShapes Go.WideShapes
attribute [local go_sem ↓] Go.wp_at_zero Go.wp_at_succ

theorem norm_walk (s : List Int) : ∀ (F : Fo) (d : Int), walkF s (Fo.norm F) d = walkF s F d
  | .nil, _ => rfl
  | .node _ _ x k r, d => by
    simp only [Fo.norm, walkF, norm_len k, norm_walk s k (d + 1), norm_walk s r d]
theorem norm_sizesR : ∀ F : Fo, Fo.sizesR (Fo.norm F) = Fo.sizesR F
  | .nil => rfl
  | .node _ _ x k r => by simp [Fo.norm, Fo.sizesR, norm_sizesR k, norm_sizesR r]
theorem norm_wrong (s : List Int) (x : Bool × Int) (k : Fo) : wrongF s x (Fo.norm k) = wrongF s x k := by
  have e1 : walkT s x (Fo.norm k) 1 = walkT s x k 1 := by simp only [walkT, norm_len, norm_walk]
  have e2 : tszR (Fo.norm k) = tszR k := by rw [tszR, norm_sizesR, tszR]
  rw [wrongF, e1, e2, wrongF]

theorem parse_text {s : List Int} (hs : wsig s = 0) {x : Bool × Int} {k : Fo} (h : wrongF s x k = 0) : parseT s (textT x k) = (0, (x, Fo.norm k)) := by
  obtain ⟨hok, h6, _⟩ := wsig_ok hs
  obtain ⟨h1, _, _, _, hw⟩ := right_of hok h
  have hl := textT_len x k
  have hr := read_text h6 x k 1 hw ((textT x k).length + 1) [] (by simp)
  rw [List.append_nil] at hr
  have hwn := (norm_wrong s x k).trans h
  rw [parseT, if_neg (by simpa using hs), if_neg (by omega), hr]
  simp [hwn]
theorem parse_back {s : List Int} {l : List UInt8} (h : (parseT s l).1 = 0) : textT (parseT s l).2.1 (parseT s l).2.2 = l ∧ wrongF s (parseT s l).2.1 (parseT s l).2.2 = 0 ∧ s.all okNum = true ∧ s.length ≤ 6 := by
  unfold parseT at h ⊢
  by_cases h0 : wsig s = 0
  · rw [if_neg (by simpa using h0)] at h ⊢
    by_cases h1 : 48 < l.length
    · rw [if_pos h1] at h; simp at h
    · rw [if_neg h1] at h ⊢
      by_cases h2 : (readT s (l.length + 1) l).1 = 0
      · rw [if_neg (by simpa using h2)] at h ⊢
        by_cases h3 : (readT s (l.length + 1) l).2.2 = []
        · rw [if_neg (by simpa using h3)] at h ⊢
          by_cases h4 : wrongF s (readT s (l.length + 1) l).2.1.1 (readT s (l.length + 1) l).2.1.2 = 0
          · rw [if_neg (by simpa using h4)]
            have hb := read_back _ _ h2
            rw [h3, List.append_nil] at hb
            exact ⟨hb.symm, h4, (wsig_ok h0).1, (wsig_ok h0).2.1⟩
          · rw [if_pos h4] at h; exact absurd h h4
        · rw [if_pos h3] at h; simp at h
      · rw [if_pos h2] at h; exact absurd h h2
  · rw [if_pos h0] at h; exact absurd h h0

theorem tx_text {s : List Int} {x : Bool × Int} {k : Fo} {a : Value} {w : World} {B : ByteArray} (hB : B.data.toList = textT x k) (hs : s.all okNum = true) (h6 : s.length ≤ 6) (h : wrongF s x k = 0) (hS : SIn w k a) :
    Calls Tryd.prog 20 #[.agg #[.bool x.1, .int .i64 x.2, a]] w fun e w' => e = .returned (.string B) ∧ Below w.heap.size w w' := by
  obtain ⟨h1, _, _, _, hw⟩ := right_of hs h
  have hl := textT_len x k
  obtain ⟨t1, t2⟩ := text_okT h6 hw
  have hc := text_any x k a w hS t1 t2 (by omega)
  rw [← hB] at hc
  exact hc
theorem tx_parse {s : List Int} {sv : Value} {x : Bool × Int} {k : Fo} {w : World} {B : ByteArray} (hB : B.data.toList = textT x k) (hs : wsig s = 0) (h : wrongF s x k = 0) (hN : NIn w s sv) :
    Calls Tryd.prog 12 #[sv, .string B] w fun e w' => ∃ a1 a2 a3, e = .returned (.tuple #[.agg #[.bool x.1, .int .i64 x.2, .slice a1 a2 a3], .int .i64 0]) ∧ SIn w' (Fo.norm k) (.slice a1 a2 a3) ∧ Below w.heap.size w w' := by
  obtain ⟨h1, _, _, _, hw⟩ := right_of (wsig_ok hs).1 h
  have hl := textT_len x k
  have hc := parse_any s sv (textT x k) w hN (by unfold maxLen; omega)
  rw [parse_text hs h, ← hB] at hc
  refine hc.mono ?_
  rintro e w' ⟨a, he, h1, h2⟩
  obtain ⟨a1, a2, a3, rfl⟩ := slice_of_sin h1
  exact ⟨a1, a2, a3, he, h1, h2⟩
theorem tx_read {s : List Int} {sv : Value} {x : Bool × Int} {k : Fo} {w : World} {B C : ByteArray} (hB : B.data.toList = textT x k) (hs : wsig s = 0) (h : wrongF s x k = 0) (hN : NIn w s sv) (hC : C.size ≤ 2 ^ 48) :
    Calls Tryd.prog 14 #[sv, .string (B ++ C)] w fun e w' => ∃ a1 a2 a3, e = .returned (.tuple #[.agg #[.bool x.1, .int .i64 x.2, .slice a1 a2 a3], .string C, .int .i64 0]) ∧ SIn w' (Fo.norm k) (.slice a1 a2 a3) ∧ Below w.heap.size w w' := by
  obtain ⟨hok, h6, _⟩ := wsig_ok hs
  obtain ⟨h1, _, _, _, hw⟩ := right_of hok h
  have hl := textT_len x k
  have hCl : C.data.toList.length = C.size := Array.length_toList
  have hlen : (textT x k ++ C.data.toList).length ≤ 2 ^ 48 + 36 := by rw [List.length_append]; omega
  have hc := read_any s ((textT x k ++ C.data.toList).length + 1) sv (textT x k ++ C.data.toList) w hN hok (by omega) (by unfold maxLen; omega)
  rw [read_text h6 x k 1 hw ((textT x k ++ C.data.toList).length + 1) C.data.toList (by omega)] at hc
  have e1 : str (textT x k ++ C.data.toList) = .string (B ++ C) := by
    rw [← hB]
    congr 1
  rw [e1] at hc
  refine hc.mono ?_
  rintro e w' ⟨a, he, h1, h2⟩
  obtain ⟨a1, a2, a3, rfl⟩ := slice_of_sin h1.toS
  exact ⟨a1, a2, a3, he, h1.toS, h2⟩
theorem tx_same {x : Bool × Int} {k : Fo} {a c : Value} {w : World} (hS : SIn w k a) (hS2 : SIn w (Fo.norm k) c) :
    Calls Tryd.prog 10 #[.agg #[.bool x.1, .int .i64 x.2, a], .agg #[.bool x.1, .int .i64 x.2, c]] w fun e w' => e = .returned (.bool true) ∧ Below w.heap.size w w' := by
  have h := same_any x k x (Fo.norm k) a c w hS hS2
  rw [show sameT x k x (Fo.norm k) = true by simp [sameT, norm_same]] at h
  exact h
theorem tx_any {s : List Int} {sv : Value} {w : World} {B : ByteArray} (hN : NIn w s sv) (hC : B.size ≤ 2 ^ 48) :
    Calls Tryd.prog 12 #[sv, .string B] w fun e w' => ∃ (E : Int) (x : Bool × Int) (k : Fo) (a1 : Option Addr) (a2 a3 : Nat), e = .returned (.tuple #[.agg #[.bool x.1, .int .i64 x.2, .slice a1 a2 a3], .int .i64 E]) ∧ SIn w' k (.slice a1 a2 a3) ∧ Below w.heap.size w w' ∧ (E = 0 → B.data.toList = textT x k ∧ wrongF s x k = 0 ∧ s.all okNum = true ∧ s.length ≤ 6) := by
  have hCl : B.data.toList.length = B.size := Array.length_toList
  refine (parse_any s sv B.data.toList w hN (by unfold maxLen; omega)).mono ?_
  rintro e w' ⟨a, he, h1, h2⟩
  obtain ⟨a1, a2, a3, rfl⟩ := slice_of_sin h1
  refine ⟨_, _, _, a1, a2, a3, he, h1, h2, fun h => ?_⟩
  obtain ⟨p1, p2⟩ := parse_back h
  exact ⟨p1.symm, p2⟩

set_option maxHeartbeats 2000000 in
set_option maxRecDepth 100000 in
theorem termTurns_any (s : List Int) (sv : Value) (x : Bool × Int) (k : Fo) (a : Value) (B : ByteArray) (w : World) (hN : NIn w s sv) (hS : SIn w k a) (hC : B.size ≤ 2 ^ 48) :
    Calls Tryd.prog 4 #[sv, .agg #[.bool x.1, .int .i64 x.2, a], .string B] w fun e w' => e = .returned (.bool true) ∧ Below w.heap.size w w' := by
  obtain ⟨xv, xn⟩ := x
  have HN := hide hN
  have HS := hide hS
  obtain ⟨sa, sc, sb, so, rfl, -, -, -, -⟩ := hN
  obtain ⟨ta, tc, tb, tw, rfl, -, -, -, -⟩ := hS
  go_enter Tryd.func4, Tryd.ntmps4
  go_wp2_with fail
  generalize hw0 : (w.alloc (.cells #[.bool xv, .int .i64 xn, .slice ta (Fo.len k) tc] 26)) = w0
  have hB0 : Below w.heap.size w w0 := by rw [← hw0]; exact (below_alloc _ _)
  have t0 : w0.cell? ⟨w.heap.size, 0, none⟩ = some (.bool xv) := by rw [← hw0]; simp
  have t1 : w0.cell? ⟨w.heap.size, 1, none⟩ = some (.int .i64 xn) := by rw [← hw0]; simp
  have t2 : w0.cell? ⟨w.heap.size, 2, none⟩ = some (.slice ta (Fo.len k) tc) := by rw [← hw0]; simp
  clear hw0
  refine (alive_any w0).mono ?_
  rintro e w1 ⟨rfl, hb⟩
  have t0' := grow_cell hb _ _ t0
  have t1' := grow_cell hb _ _ t1
  have t2' := grow_cell hb _ _ t2
  have hB1 := below_step hB0 hb
  clear t0 t1 t2 hB0 hb
  go_wp2_with fail
  refine (wsig_any s _ w1 (HN.out.below hB1)).mono ?_
  rintro e w' ⟨rfl, hw'⟩
  rw [hw']
  clear hw' w'
  by_cases hs : ¬ wsig s = 0
  · have hsb : (wsig s != 0) = true := by simpa using hs
    generalize wsig s = E at *
    clear hs
    go_wp2_with fail
    go_ret
    exact ⟨rfl, hB1⟩
  have hs := Decidable.not_not.1 hs
  have Hs := hide hs
  simp only [hs]
  clear hs
  go_wp2_with fail
  refine (wrong_any s _ (xv, xn) k _ _ (HN.out.below hB1) (HS.out.below hB1)).mono ?_
  rintro e w2 ⟨rfl, hb⟩
  have t0 := grow_cell hb _ _ t0'
  have t1 := grow_cell hb _ _ t1'
  have t2 := grow_cell hb _ _ t2'
  have hB2 := below_step hB1 hb
  clear t0' t1' t2' hB1 hb
  by_cases hx : wrongF s (xv, xn) k = 0
  · have Hx := hide hx
    simp only [hx]
    clear hx
    obtain ⟨T, hT⟩ : ∃ T : ByteArray, T.data.toList = textT (xv, xn) k := ⟨⟨(textT (xv, xn) k).toArray⟩, rfl⟩
    have HT := hide hT
    have hTs : T.size ≤ 100 := by
      have e : T.data.toList.length = T.size := Array.length_toList
      have h1 := textT_len (xv, xn) k
      have h2 := (right_of (wsig_ok Hs.out).1 Hx.out).1
      rw [hT] at e
      omega
    clear hT
    go_wp2_with fail
    refine (tx_text HT.out (wsig_ok Hs.out).1 (wsig_ok Hs.out).2.1 Hx.out (HS.out.below hB2)).mono ?_
    rintro e w3 ⟨rfl, hb⟩
    have t0' := grow_cell hb _ _ t0
    have t1' := grow_cell hb _ _ t1
    have t2' := grow_cell hb _ _ t2
    have hB3 := below_step hB2 hb
    clear t0 t1 t2 hB2 hb
    go_wp2_with fail
    refine (tx_parse HT.out Hs.out Hx.out (HN.out.below hB3)).mono ?_
    rintro e w4 ⟨a1, a2, a3, rfl, hSu, hb⟩
    have t0 := grow_cell hb _ _ t0'
    have t1 := grow_cell hb _ _ t1'
    have t2 := grow_cell hb _ _ t2'
    have hB4 := below_step hB3 hb
    have HSu := hide hSu
    clear t0' t1' t2' hB3 hb hSu
    have ne0 := World.new_ne w4 _ t0
    go_upto_region 7 with fail
    generalize hw5 : w4.alloc (.cells #[.bool xv, .int .i64 xn, .slice a1 a2 a3] 26) = w5
    have hb : Below w4.heap.size w4 w5 := by rw [← hw5]; exact below_alloc _ _
    have v0 : w5.cell? ⟨w4.heap.size, 0, none⟩ = some (.bool xv) := by rw [← hw5]; simp
    have v1 : w5.cell? ⟨w4.heap.size, 1, none⟩ = some (.int .i64 xn) := by rw [← hw5]; simp
    have v2 : w5.cell? ⟨w4.heap.size, 2, none⟩ = some (.slice a1 a2 a3) := by rw [← hw5]; simp
    have t0' := grow_cell hb _ _ t0
    have t1' := grow_cell hb _ _ t1
    have t2' := grow_cell hb _ _ t2
    have hB5 := below_step hB4 hb
    have HSu5 := hide (HSu.out.below hb)
    clear hw5 hb HSu t0 t1 t2 hB4 ne0
    go_wp2_with fail
    refine (tx_text HT.out (wsig_ok Hs.out).1 (wsig_ok Hs.out).2.1 Hx.out (HS.out.below hB5)).mono ?_
    rintro e w6 ⟨rfl, hb⟩
    have t0 := grow_cell hb _ _ t0'
    have t1 := grow_cell hb _ _ t1'
    have t2 := grow_cell hb _ _ t2'
    have v0' := grow_cell hb _ _ v0
    have v1' := grow_cell hb _ _ v1
    have v2' := grow_cell hb _ _ v2
    have hB6 := below_step hB5 hb
    have HSu6 := hide (HSu5.out.below hb)
    clear t0' t1' t2' v0 v1 v2 hB5 hb HSu5
    have hsum : T.size + B.size < 2 ^ 63 := by omega
    have Hsum := hide hsum
    have hsum' : (T ++ B).size ≤ maxLen := by rw [ByteArray.size_append]; unfold maxLen; omega
    go_wp2_with fail
    refine (tx_read HT.out Hs.out Hx.out (HN.out.below hB6) hC).mono ?_
    rintro e w7 ⟨c1, c2, c3, rfl, hSr, hb⟩
    have t0' := grow_cell hb _ _ t0
    have t1' := grow_cell hb _ _ t1
    have t2' := grow_cell hb _ _ t2
    have v0 := grow_cell hb _ _ v0'
    have v1 := grow_cell hb _ _ v1'
    have v2 := grow_cell hb _ _ v2'
    have hB7 := below_step hB6 hb
    have HSu7 := hide (HSu6.out.below hb)
    have HSr := hide hSr
    clear t0 t1 t2 v0' v1' v2' hB6 hb HSu6 hSr
    go_upto_region 8 with fail
    generalize hw5 : w7.alloc (.cells #[.bool xv, .int .i64 xn, .slice c1 c2 c3] 26) = w8
    have hb : Below w7.heap.size w7 w8 := by rw [← hw5]; exact below_alloc _ _
    have r0 : w8.cell? ⟨w7.heap.size, 0, none⟩ = some (.bool xv) := by rw [← hw5]; simp
    have r1 : w8.cell? ⟨w7.heap.size, 1, none⟩ = some (.int .i64 xn) := by rw [← hw5]; simp
    have r2 : w8.cell? ⟨w7.heap.size, 2, none⟩ = some (.slice c1 c2 c3) := by rw [← hw5]; simp
    have t0 := grow_cell hb _ _ t0'
    have t1 := grow_cell hb _ _ t1'
    have t2 := grow_cell hb _ _ t2'
    have v0' := grow_cell hb _ _ v0
    have v1' := grow_cell hb _ _ v1
    have v2' := grow_cell hb _ _ v2
    have hB8 := below_step hB7 hb
    have HSu8 := hide (HSu7.out.below hb)
    have HSr8 := hide (HSr.out.below hb)
    clear t0' t1' t2' v0 v1 v2 hB7 hb HSu7 HSr hw5
    go_wp2_with fail
    refine (tx_same (x := (xv, xn)) (HS.out.below hB8) HSu8.out).mono ?_
    rintro e w9 ⟨rfl, hb⟩
    have t0' := grow_cell hb _ _ t0
    have t1' := grow_cell hb _ _ t1
    have t2' := grow_cell hb _ _ t2
    have r0' := grow_cell hb _ _ r0
    have r1' := grow_cell hb _ _ r1
    have r2' := grow_cell hb _ _ r2
    have hB9 := below_step hB8 hb
    have HSr9 := hide (HSr8.out.below hb)
    clear t0 t1 t2 r0 r1 r2 v0' v1' v2' hB8 hb HSu8 HSr8
    go_wp2_with fail
    refine (tx_same (x := (xv, xn)) (HS.out.below hB9) HSr9.out).mono ?_
    rintro e w10 ⟨rfl, hb⟩
    have hB10 := below_step hB9 hb
    clear t0' t1' t2' r0' r1' r2' hB9 hb HSr9
    go_wp2_with fail
    refine (tx_any (HN.out.below hB10) hC).mono ?_
    rintro e w11 ⟨E, ⟨yv, yn⟩, l, d1, d2, d3, rfl, hSy, hb, hE⟩
    have hB11 := below_step hB10 hb
    have HSy := hide hSy
    have HE := hide hE
    clear hSy hb hE
    go_upto_region 11 with fail
    generalize hw5 : w11.alloc (.cells #[.bool yv, .int .i64 yn, .slice d1 d2 d3] 26) = w12
    have hb : Below w11.heap.size w11 w12 := by rw [← hw5]; exact below_alloc _ _
    have r0 : w12.cell? ⟨w11.heap.size, 0, none⟩ = some (.bool yv) := by rw [← hw5]; simp
    have r1 : w12.cell? ⟨w11.heap.size, 1, none⟩ = some (.int .i64 yn) := by rw [← hw5]; simp
    have r2 : w12.cell? ⟨w11.heap.size, 2, none⟩ = some (.slice d1 d2 d3) := by rw [← hw5]; simp
    have hB12 := below_step hB11 hb
    have HSy12 := hide (HSy.out.below hb)
    clear hw5 hb HSy hB11
    by_cases h0 : E = 0
    · subst h0
      have HE' := hide (HE.out rfl)
      clear HE
      go_wp2_with fail
      refine (tx_text (x := (yv, yn)) HE'.out.1 HE'.out.2.2.1 HE'.out.2.2.2 HE'.out.2.1 HSy12.out).mono ?_
      rintro e w13 ⟨rfl, hb⟩
      have r0' := grow_cell hb _ _ r0
      have r1' := grow_cell hb _ _ r1
      have r2' := grow_cell hb _ _ r2
      have hB13 := below_step hB12 hb
      have HSy13 := hide (HSy12.out.below hb)
      clear r0 r1 r2 hb HSy12 hB12
      go_wp2_with fail
      refine (wrong_any s _ (yv, yn) l _ _ (HN.out.below hB13) HSy13.out).mono ?_
      rintro e w14 ⟨rfl, hb⟩
      have hB14 := below_step hB13 hb
      rw [HE'.out.2.1]
      clear hb r0' r1' r2'
      go_wp2_with fail
      go_ret
      exact ⟨rfl, hB14⟩
    · have h0b : (E != 0) = true := by simpa using h0
      clear h0
      go_wp2_with fail
      go_ret
      exact ⟨rfl, hB12⟩
  · have hxb : (wrongF s (xv, xn) k == 0) = false := by simpa using hx
    generalize wrongF s (xv, xn) k = E at *
    clear hx
    go_wp2_with fail
    refine (tx_any (HN.out.below hB2) hC).mono ?_
    rintro e w11 ⟨E, ⟨yv, yn⟩, l, d1, d2, d3, rfl, hSy, hb, hE⟩
    have hB11 := below_step hB2 hb
    have HSy := hide hSy
    have HE := hide hE
    clear hSy hb hE
    go_upto_region 11 with fail
    generalize hw5 : w11.alloc (.cells #[.bool yv, .int .i64 yn, .slice d1 d2 d3] 26) = w12
    have hb : Below w11.heap.size w11 w12 := by rw [← hw5]; exact below_alloc _ _
    have r0 : w12.cell? ⟨w11.heap.size, 0, none⟩ = some (.bool yv) := by rw [← hw5]; simp
    have r1 : w12.cell? ⟨w11.heap.size, 1, none⟩ = some (.int .i64 yn) := by rw [← hw5]; simp
    have r2 : w12.cell? ⟨w11.heap.size, 2, none⟩ = some (.slice d1 d2 d3) := by rw [← hw5]; simp
    have hB12 := below_step hB11 hb
    have HSy12 := hide (HSy.out.below hb)
    clear hw5 hb HSy hB11
    by_cases h0 : E = 0
    · subst h0
      have HE' := hide (HE.out rfl)
      clear HE
      go_wp2_with fail
      refine (tx_text (x := (yv, yn)) HE'.out.1 HE'.out.2.2.1 HE'.out.2.2.2 HE'.out.2.1 HSy12.out).mono ?_
      rintro e w13 ⟨rfl, hb⟩
      have r0' := grow_cell hb _ _ r0
      have r1' := grow_cell hb _ _ r1
      have r2' := grow_cell hb _ _ r2
      have hB13 := below_step hB12 hb
      have HSy13 := hide (HSy12.out.below hb)
      clear r0 r1 r2 hb HSy12 hB12
      go_wp2_with fail
      refine (wrong_any s _ (yv, yn) l _ _ (HN.out.below hB13) HSy13.out).mono ?_
      rintro e w14 ⟨rfl, hb⟩
      have hB14 := below_step hB13 hb
      rw [HE'.out.2.1]
      clear hb r0' r1' r2'
      go_wp2_with fail
      go_ret
      exact ⟨rfl, hB14⟩
    · have h0b : (E != 0) = true := by simpa using h0
      clear h0
      go_wp2_with fail
      go_ret
      exact ⟨rfl, hB12⟩

end Go.Proofs.YtegdfnfengnjlaaDoor
