/- The document's: the same literals, the same clauses, like literals. -/
import Derived.Test.YtfckelbdageenabGreatDoorG20
import Derived.Test.YtfckelbdageenabGreatDoorG08
import Derived.Deep.RegionHeld3
import Derived.Test.YtfckelbdageenabGreatDoorG19
import Derived.Test.YtfckelbdageenabGreatDoorG14
namespace Go.Proofs.YtfckelbdageenabGreatDoor
open Go.RowKit Go.Deep Go.ChangeShapes Go.WideShapes

set_option maxRecDepth 100000 in
set_option maxHeartbeats 1000000 in
theorem sameLitR_any (p q : Lt) (a d b c : Value) (w : World) (h1 : SIn w p.2.1.2 a) (h2 : SIn w p.2.2.2 d) (h3 : SIn w q.2.1.2 b) (h4 : SIn w q.2.2.2 c) :
    Calls Tryz.prog 21 #[litA p a d, litA q b c] w fun e w' => e = .returned (.bool (sameL p q)) ∧ Below w.heap.size w w' := by
  obtain ⟨pn, ⟨⟨pv, pi⟩, pk⟩, ⟨⟨pv', pi'⟩, pk'⟩⟩ := p
  obtain ⟨qn, ⟨⟨qv, qi⟩, qk⟩, ⟨⟨qv', qi'⟩, qk'⟩⟩ := q
  have H1 := hide h1
  have H2 := hide h2
  have H3 := hide h3
  have H4 := hide h4
  obtain ⟨a1, a3, _, _, rfl, -, -, -, -⟩ := h1
  obtain ⟨d1, d3, _, _, rfl, -, -, -, -⟩ := h2
  obtain ⟨b1, b3, _, _, rfl, -, -, -, -⟩ := h3
  obtain ⟨c1, c3, _, _, rfl, -, -, -, -⟩ := h4
  simp only at *
  by_cases hn : pn = qn
  · subst hn
    go_enter Tryz.func21, Tryz.ntmps21
    go_wp2_with fail
    refine (sameR_any (pv, pi) pk (qv, qi) qk _ _ _ ((H1.out.alloc _).alloc _) ((H3.out.alloc _).alloc _)).mono ?_
    rintro e w1 ⟨rfl, hb1⟩
    obtain ⟨-, -, -, -, e4, e5, e6, -, hB1, hl1⟩ := lit_cells hb1
    obtain ⟨-, -, -, -, f4, f5, f6, -, hB2, hl2⟩ := lit_cells hB1
    simp only [World.size_alloc] at e4 e5 e6
    have H2' := hide (H2.out.below hB2)
    have H4' := hide (H4.out.below hB2)
    cases he : sameT (pv, pi) pk (qv, qi) qk
    · clear hb1 hB1
      go_wp2_with fail
      go_ret
      exact ⟨by simp [sameL, he], hB2⟩
    · clear hb1 hB1
      go_wp2_with fail
      refine (sameR_any (pv', pi') pk' (qv', qi') qk' _ _ _ H2'.out H4'.out).mono ?_
      rintro e w2 ⟨rfl, hb2⟩
      go_wp2_with fail
      go_ret
      exact ⟨by simp [sameL, he], below_step hB2 hb2⟩
  · have hnb : (pn == qn) = false := by simp [hn]
    go_enter Tryz.func21, Tryz.ntmps21
    go_wp2_with fail
    go_ret
    refine ⟨by simp [sameL, hnb], ?_⟩
    exact ((Below.refl w.heap.size w).alloc (Nat.le_refl _) _).alloc (by simp) _

set_option maxRecDepth 100000 in
set_option maxHeartbeats 2000000 in
theorem likeR_any (p q : Lt) (a d b c : Value) (w : World) (h1 : SIn w p.2.1.2 a) (h2 : SIn w p.2.2.2 d) (h3 : SIn w q.2.1.2 b) (h4 : SIn w q.2.2.2 c) :
    Calls Tryz.prog 48 #[litA p a d, litA q b c] w fun e w' => e = .returned (.bool (likeL p q)) ∧ Below w.heap.size w w' := by
  obtain ⟨pn, ⟨⟨pv, pi⟩, pk⟩, ⟨⟨pv', pi'⟩, pk'⟩⟩ := p
  obtain ⟨qn, ⟨⟨qv, qi⟩, qk⟩, ⟨⟨qv', qi'⟩, qk'⟩⟩ := q
  have H1 := hide h1
  have H2 := hide h2
  have H3 := hide h3
  have H4 := hide h4
  obtain ⟨a1, a3, _, _, rfl, -, -, -, -⟩ := h1
  obtain ⟨d1, d3, _, _, rfl, -, -, -, -⟩ := h2
  obtain ⟨b1, b3, _, _, rfl, -, -, -, -⟩ := h3
  obtain ⟨c1, c3, _, _, rfl, -, -, -, -⟩ := h4
  simp only at *
  go_enter Tryz.func48, Tryz.ntmps48
  go_wp2_with fail
  refine (sameR_any (pv, pi) pk (qv, qi) qk _ _ _ ((H1.out.alloc _).alloc _) ((H3.out.alloc _).alloc _)).mono ?_
  rintro e w1 ⟨rfl, hb1⟩
  obtain ⟨-, e1, e2, e3, e4, e5, e6, -, hB1, hl1⟩ := lit_cells hb1
  obtain ⟨-, f1, f2, f3, f4, f5, f6, -, hB2, hl2⟩ := lit_cells hB1
  simp only [World.size_alloc] at e1 e2 e3 e4 e5 e6
  clear hb1 hB1
  have H1' := hide (H1.out.below hB2)
  have H2' := hide (H2.out.below hB2)
  have H3' := hide (H3.out.below hB2)
  have H4' := hide (H4.out.below hB2)
  cases he : sameT (pv, pi) pk (qv, qi) qk
  · go_wp2_with fail
    refine (sameR_any (pv, pi) pk (qv', qi') qk' _ _ _ H1'.out H4'.out).mono ?_
    rintro e w2 ⟨rfl, hb2⟩
    have g4 := grow_cell hb2 _ _ e1
    have g5 := grow_cell hb2 _ _ e2
    have g6 := grow_cell hb2 _ _ e3
    have k4 := grow_cell hb2 _ _ f4
    have k5 := grow_cell hb2 _ _ f5
    have k6 := grow_cell hb2 _ _ f6
    clear e1 e2 e3 e4 e5 e6 f1 f2 f3 f4 f5 f6
    cases he2 : sameT (pv, pi) pk (qv', qi') qk'
    · go_wp2_with fail
      go_ret
      exact ⟨by simp [likeL, he, he2], below_step hB2 hb2⟩
    · go_wp2_with fail
      refine (sameR_any (pv', pi') pk' (qv, qi) qk _ _ _ (H2'.out.below hb2) (H3'.out.below hb2)).mono ?_
      rintro e w3 ⟨rfl, hb3⟩
      go_wp2_with fail
      go_ret
      exact ⟨by simp [likeL, he, he2], below_step (below_step hB2 hb2) hb3⟩
  · go_wp2_with fail
    refine (sameR_any (pv', pi') pk' (qv', qi') qk' _ _ _ H2'.out H4'.out).mono ?_
    rintro e w2 ⟨rfl, hb2⟩
    have g1 := grow_cell hb2 _ _ e1
    have g2 := grow_cell hb2 _ _ e2
    have g3 := grow_cell hb2 _ _ e3
    have g4 := grow_cell hb2 _ _ e4
    have g5 := grow_cell hb2 _ _ e5
    have g6 := grow_cell hb2 _ _ e6
    have k1 := grow_cell hb2 _ _ f1
    have k2 := grow_cell hb2 _ _ f2
    have k3 := grow_cell hb2 _ _ f3
    have k4 := grow_cell hb2 _ _ f4
    have k5 := grow_cell hb2 _ _ f5
    have k6 := grow_cell hb2 _ _ f6
    clear e1 e2 e3 e4 e5 e6 f1 f2 f3 f4 f5 f6
    cases he2 : sameT (pv', pi') pk' (qv', qi') qk'
    · go_wp2_with fail
      refine (sameR_any (pv, pi) pk (qv', qi') qk' _ _ _ (H1'.out.below hb2) (H4'.out.below hb2)).mono ?_
      rintro e w3 ⟨rfl, hb3⟩
      have g1' := grow_cell hb3 _ _ g1
      have g2' := grow_cell hb3 _ _ g2
      have g3' := grow_cell hb3 _ _ g3
      have k4' := grow_cell hb3 _ _ k4
      have k5' := grow_cell hb3 _ _ k5
      have k6' := grow_cell hb3 _ _ k6
      clear g1 g2 g3 g4 g5 g6 k1 k2 k3 k4 k5 k6
      cases he3 : sameT (pv, pi) pk (qv', qi') qk'
      · go_wp2_with fail
        go_ret
        exact ⟨by simp [likeL, he, he2, he3], below_step (below_step hB2 hb2) hb3⟩
      · go_wp2_with fail
        refine (sameR_any (pv', pi') pk' (qv, qi) qk _ _ _ ((H2'.out.below hb2).below hb3) ((H3'.out.below hb2).below hb3)).mono ?_
        rintro e w4 ⟨rfl, hb4⟩
        go_wp2_with fail
        go_ret
        exact ⟨by simp [likeL, he, he2, he3], below_step (below_step (below_step hB2 hb2) hb3) hb4⟩
    · go_wp2_with fail
      go_ret
      exact ⟨by simp [likeL, he, he2], below_step hB2 hb2⟩

set_option maxRecDepth 100000 in
set_option maxHeartbeats 2000000 in
theorem sameCR_any (k l : Cl) (a c : Value) (w : World) (hS1 : CIn w k a) (hS2 : CIn w l c) :
    Calls Tryz.prog 9 #[a, c] w fun e w' => e = .returned (.bool (sameC k l)) ∧ Below w.heap.size w w' := by
  obtain ⟨a1, c1, b1, o1, rfl, had1, hlc1, hcm1, hF1⟩ := hS1
  obtain ⟨a2, c2, b2, o2, rfl, had2, hlc2, hcm2, hF2⟩ := hS2
  unfold maxLen at hcm1 hcm2
  have HF1 := hide hF1
  have HF2 := hide hF2
  clear hF1 hF2
  by_cases hll : k.length = l.length
  · have hllb : ((k.length : Int) != (l.length : Int)) = false := by simp [hll]
    have Hll := hide hll
    have hll1 : l.length ≤ k.length := by omega
    have hll2 : k.length ≤ l.length := by omega
    clear hll
    go_enter Tryz.func9, Tryz.ntmps9
    go_wp2_with fail
    go_loopw [13] (fun i wr => ∃ j : Nat, j ≤ k.length ∧ i = .int .i64 j ∧ (∀ i, i < j → ∀ a b, k[i]? = some a → l[i]? = some b → sameL a b = true) ∧ Below w.heap.size w wr) (fun i _ => k.length - (intOf i).toNat)
    case atStart => exact ⟨0, Nat.zero_le _, rfl, fun i hi => by omega, Below.refl _ _⟩
    case round =>
      obtain ⟨j, hj, rfl, hok, hBr⟩ := hrel
      have Hok := hide hok
      clear hok
      by_cases hlt : j < k.length
      · have hlt' : (j : Int) < (k.length : Int) := by omega
        have hlt2 : (j : Int) < (l.length : Int) := by omega
        have hj0 : (0 : Int) ≤ (j : Int) := by omega
        obtain ⟨⟨yn, ⟨⟨yv, yi⟩, yk⟩, ⟨yv', yi'⟩, yk'⟩, hy⟩ : ∃ y, k[j]? = some y := ⟨k[j]'hlt, by simp⟩
        obtain ⟨⟨zn, ⟨⟨zv, zi⟩, zk⟩, ⟨zv', zi'⟩, zk'⟩, hz⟩ : ∃ y, l[j]? = some y := ⟨l[j]'(by omega), by simp⟩
        obtain ⟨p0, p1, p2, ⟨u3, p3, hA⟩, p4, p5, u6, p6, hD⟩ := (HF1.out.below hBr).at hy
        obtain ⟨q0, q1, q2, ⟨s3, q3, hB⟩, q4, q5, s6, q6, hC⟩ := (HF2.out.below hBr).at hz
        have ha1 : a1 = some ⟨b1, o1, none⟩ := had1 (by omega)
        have ha2 : a2 = some ⟨b2, o2, none⟩ := had2 (by omega)
        subst ha1 ha2
        have HA := hide hA
        have HB := hide hB
        have HC := hide hC
        have HD := hide hD
        obtain ⟨ya, yc, _, _, rfl, -, -, -, -⟩ := hA
        obtain ⟨za, zc, _, _, rfl, -, -, -, -⟩ := hB
        obtain ⟨ya', yc', _, _, rfl, -, -, -, -⟩ := hC
        obtain ⟨za', zc', _, _, rfl, -, -, -, -⟩ := hD
        have Hy := hide hy
        have Hz := hide hz
        clear hy hz had1 had2
        simp only at *
        have hcur : Below wr.heap.size wr wr.drew := (Below.refl _ _).drew
        go_upto_region 6 with fail
        go_cut [25] (fun s25 wx => s25 = .bool (!(sameL (yn, ((yv, yi), yk), ((yv', yi'), yk')) (zn, ((zv, zi), zk), ((zv', zi'), zk')))) ∧ Below wr.heap.size wr wx)
        case first =>
          go_region_held3 (fun w' => (w'.cell? ⟨b1, o1 + j * 7, none⟩ = some (.bool yn) ∧ w'.cell? ⟨b1, o1 + j * 7 + 1, none⟩ = some (.bool yv) ∧ w'.cell? ⟨b1, o1 + j * 7 + 2, none⟩ = some (.int .i64 yi) ∧ w'.cell? ⟨b1, o1 + j * 7 + 3, none⟩ = some (.slice ya (Fo.len yk) yc) ∧ w'.cell? ⟨b1, o1 + j * 7 + 4, none⟩ = some (.bool yv') ∧ w'.cell? ⟨b1, o1 + j * 7 + 5, none⟩ = some (.int .i64 yi') ∧ w'.cell? ⟨b1, o1 + j * 7 + 6, none⟩ = some (.slice za' (Fo.len yk') zc'))
              ∧ w'.cell? ⟨b2, o2 + j * 7, none⟩ = some (.bool zn) ∧ w'.cell? ⟨b2, o2 + j * 7 + 1, none⟩ = some (.bool zv) ∧ w'.cell? ⟨b2, o2 + j * 7 + 2, none⟩ = some (.int .i64 zi) ∧ w'.cell? ⟨b2, o2 + j * 7 + 3, none⟩ = some (.slice za (Fo.len zk) zc) ∧ w'.cell? ⟨b2, o2 + j * 7 + 4, none⟩ = some (.bool zv') ∧ w'.cell? ⟨b2, o2 + j * 7 + 5, none⟩ = some (.int .i64 zi') ∧ w'.cell? ⟨b2, o2 + j * 7 + 6, none⟩ = some (.slice ya' (Fo.len zk') yc'))
            (first
              | (with_reducible exact ⟨⟨grow_cell hcur _ _ p0, grow_cell hcur _ _ p1, grow_cell hcur _ _ p2, grow_cell hcur _ _ p3, grow_cell hcur _ _ p4, grow_cell hcur _ _ p5, grow_cell hcur _ _ p6⟩, grow_cell hcur _ _ q0, grow_cell hcur _ _ q1, grow_cell hcur _ _ q2, grow_cell hcur _ _ q3, grow_cell hcur _ _ q4, grow_cell hcur _ _ q5, grow_cell hcur _ _ q6⟩)
              | go_keep)
            (first
              | (go_at_call 21; with_reducible refine (sameLitR_any (yn, ((yv, yi), yk), ((yv', yi'), yk')) (zn, ((zv, zi), zk), ((zv', zi'), zk')) _ _ _ _ _ (HA.out.below hcur) (HD.out.below hcur) (HB.out.below hcur) (HC.out.below hcur)).mono ?_; rintro e wS ⟨rfl, hbS⟩; replace hcur := below_step hcur hbS))
          all_goals
            go_wp2_with fail
            go_meet
            case rel => exact ⟨rfl, hcur⟩
        case rest =>
          obtain ⟨rfl, hb2⟩ := hcut
          generalize wc = w2 at *
          have hB2 := below_step hBr hb2
          cases he : sameL (yn, ((yv, yi), yk), ((yv', yi'), yk')) (zn, ((zv, zi), zk), ((zv', zi'), zk'))
          · have Hf : Hid (sameC k l = false) := sameC_no Hy.out Hz.out he
            clear he
            go_wp2_with fail
            go_ret
            exact ⟨by rw [Hf.out]; rfl, hB2⟩
          · have Hok2 : Hid (∀ i, i < j + 1 → ∀ a b, k[i]? = some a → l[i]? = some b → sameL a b = true) := fun i hi a b ha hb => by
              by_cases e : i = j
              · subst e; rw [Hy.out] at ha; rw [Hz.out] at hb; cases ha; cases hb; exact he
              · exact Hok.out i (by omega) a b ha hb
            clear he
            go_wp2_with fail
            go_roundw
            case rel => exact ⟨j + 1, by omega, by go_num, Hok2.out, hB2⟩
            case measure => simp [intOf]; omega
      · have Hf : Hid (sameC k l = true) := sameC_yes Hll.out (fun i hi => Hok.out i (by omega))
        go_wp2_with fail
        go_ret
        exact ⟨by rw [Hf.out]; rfl, hBr⟩
  · have hllb : ((k.length : Int) != (l.length : Int)) = true := by simp; omega
    have Hf : Hid (sameC k l = false) := sameC_len hll
    go_enter Tryz.func9, Tryz.ntmps9
    go_wp2_with fail
    go_ret
    exact ⟨by rw [Hf.out]; rfl, Below.refl _ _⟩

end Go.Proofs.YtfckelbdageenabGreatDoor

/- The document's: what is wrong with a clause. -/
namespace Go.Proofs.YtfckelbdageenabGreatDoor
open Go.RowKit Go.Deep Go.ChangeShapes Go.WideShapes

set_option maxRecDepth 100000 in
set_option maxHeartbeats 1000000 in
theorem wrongCR_any (s : List Int) (sv : Value) (k : Cl) (a : Value) (w : World) (hN : NIn w s sv) (hS : CIn w k a) :
    Calls Tryz.prog 11 #[sv, a] w fun e w' => e = .returned (.int .i64 (wrongC s k)) ∧ Below w.heap.size w w' := by
  obtain ⟨a1, c1, b1, o1, rfl, had1, hlc1, hcm1, hF1⟩ := hS
  unfold maxLen at hcm1
  have HF1 := hide hF1
  have HN := hide hN
  obtain ⟨sa, sc, _, _, rfl, -, -, -, -⟩ := hN
  clear hF1
  by_cases h4 : 4 < k.length
  · have h4' : (4 : Int) < (k.length : Int) := by omega
    have Hf : Hid (wrongC s k = 5) := if_pos h4
    go_enter Tryz.func11, Tryz.ntmps11
    go_wp2_with fail
    go_ret
    exact ⟨by rw [Hf.out]; rfl, Below.refl _ _⟩
  · have h4' : ¬ (4 : Int) < (k.length : Int) := by omega
    have Hw : Hid (wrongC s k = wrongLs s k) := if_neg h4
    go_enter Tryz.func11, Tryz.ntmps11
    go_wp2_with fail
    go_loopw [14] (fun i wr => ∃ j : Nat, j ≤ k.length ∧ i = .int .i64 j ∧ (∀ i, i < j → ∀ a, k[i]? = some a → wrongL s a = 0) ∧ Below w.heap.size w wr) (fun i _ => k.length - (intOf i).toNat)
    case atStart => exact ⟨0, Nat.zero_le _, rfl, fun i hi => by omega, Below.refl _ _⟩
    case round =>
      obtain ⟨j, hj, rfl, hok, hBr⟩ := hrel
      have Hok := hide hok
      clear hok
      by_cases hlt : j < k.length
      · have hlt' : (j : Int) < (k.length : Int) := by omega
        obtain ⟨⟨yn, ⟨⟨yv, yi⟩, yk⟩, ⟨yv', yi'⟩, yk'⟩, hy⟩ : ∃ y, k[j]? = some y := ⟨k[j]'hlt, by simp⟩
        obtain ⟨p0, p1, p2, ⟨u3, p3, hA⟩, p4, p5, u6, p6, hD⟩ := (HF1.out.below hBr).at hy
        have ha1 : a1 = some ⟨b1, o1, none⟩ := had1 (by omega)
        subst ha1
        have HA := hide hA
        have HD := hide hD
        obtain ⟨_, _, _, _, rfl, -, -, -, -⟩ := hA
        obtain ⟨_, _, _, _, rfl, -, -, -, -⟩ := hD
        have Hy := hide hy
        clear hy had1
        simp only at *
        go_wp2_with fail
        refine (wrongR_any s _ (yv, yi) yk _ _ ((HN.out.below hBr).alloc _) (HA.out.alloc _)).mono ?_
        rintro e w2 ⟨rfl, hb2⟩
        obtain ⟨-, -, -, -, e4, e5, e6, -, hb2', -⟩ := lit_cells hb2
        have hB2 := below_step hBr hb2'
        have HD2 := hide (HD.out.below hb2')
        have HN2 := hide (HN.out.below hB2)
        clear hb2
        by_cases he : wrongF s (yv, yi) yk = 0
        · have heb : (wrongF s (yv, yi) yk != 0) = false := by simp [he]
          have He := hide he
          clear he
          generalize wrongF s (yv, yi) yk = e1 at heb
          go_wp2_with fail
          refine (wrongR_any s _ (yv', yi') yk' _ _ HN2.out HD2.out).mono ?_
          rintro e w3 ⟨rfl, hb3⟩
          have hB3 := below_step hB2 hb3
          by_cases he : wrongF s (yv', yi') yk' = 0
          · have heb2 : (wrongF s (yv', yi') yk' != 0) = false := by simp [he]
            have He2 := hide he
            clear he
            generalize wrongF s (yv', yi') yk' = e2 at heb2
            go_wp2_with fail
            go_roundw
            case rel => exact ⟨j + 1, by omega, by go_num, fun i hi a ha => by
              by_cases e : i = j
              · subst e; rw [Hy.out] at ha; cases ha; exact wrongL_iff.2 ⟨He.out, He2.out⟩
              · exact Hok.out i (by omega) a ha, hB3⟩
            case measure => simp [intOf]; omega
          · have heb2 : (wrongF s (yv', yi') yk' != 0) = true := by simp [he]
            have Hf : Hid (wrongF s (yv', yi') yk' = wrongC s k) := by
              have hl : wrongL s (yn, ((yv, yi), yk), ((yv', yi'), yk')) = wrongF s (yv', yi') yk' := by simp only [wrongL]; rw [if_neg (by simp [He.out])]
              rw [Hid, Hw.out, wrongLs_at Hok.out Hy.out (by rw [hl]; exact he), hl]
            clear he
            generalize wrongF s (yv', yi') yk' = e2 at heb2 Hf
            go_wp2_with fail
            go_ret
            exact ⟨by rw [Hf.out]; rfl, hB3⟩
        · have heb : (wrongF s (yv, yi) yk != 0) = true := by simp [he]
          have Hf : Hid (wrongF s (yv, yi) yk = wrongC s k) := by
            have hl : wrongL s (yn, ((yv, yi), yk), ((yv', yi'), yk')) = wrongF s (yv, yi) yk := by simp only [wrongL]; rw [if_pos he]
            rw [Hid, Hw.out, wrongLs_at Hok.out Hy.out (by rw [hl]; exact he), hl]
          clear he
          generalize wrongF s (yv, yi) yk = e1 at heb Hf
          go_wp2_with fail
          go_ret
          exact ⟨by rw [Hf.out]; rfl, hB2⟩
      · have Hf : Hid (wrongC s k = 0) := by
          rw [Hid, Hw.out, wrongLs_iff]
          intro l hl
          obtain ⟨i, hi, e⟩ := List.mem_iff_getElem.1 hl
          exact Hok.out i (by omega) l (by rw [List.getElem?_eq_getElem hi, e])
        go_wp2_with fail
        go_ret
        exact ⟨by rw [Hf.out]; rfl, hBr⟩

end Go.Proofs.YtfckelbdageenabGreatDoor

/- Models, told alone: what is wrong with them, which things terms are, all bindings counted. -/
namespace Go.Proofs.YtfckelbdageenabGreatDoor
open Go.RowKit Go.Deep Go.ChangeShapes Go.WideShapes

/-- How long the table of a symbol with so many arguments is. -/
def mlen (z : Int) (n : Int) : Int := if n = 0 then 1 else if n = 1 then z else z * z
def inZ (z : Int) (x : Int) : Bool := decide (0 ≤ x ∧ x < z)
def rowE (z : Int) (p : Int × List Int) : Int := if (p.2.length : Int) = mlen z p.1 then (if p.2.all (inZ z) then 0 else 3) else 5
def rowsE (z : Int) : List (Int × List Int) → Int
  | [] => 0
  | p :: ps => if rowE z p ≠ 0 then rowE z p else rowsE z ps
theorem rowsE_at {z : Int} : ∀ {c : List (Int × List Int)} {j : Nat} {p : Int × List Int}, (∀ i, i < j → ∀ a, c[i]? = some a → rowE z a = 0) → c[j]? = some p → rowE z p ≠ 0 → rowsE z c = rowE z p
  | [], _, _, _, h, _ => by simp at h
  | x :: c, 0, l, _, h, hn => by
    simp only [List.getElem?_cons_zero, Option.some.injEq] at h
    subst h
    rw [rowsE, if_pos hn]
  | x :: c, j + 1, l, h0, h, hn => by
    rw [rowsE, if_neg (by simp [h0 0 (by omega) x (by simp)])]
    exact rowsE_at (j := j) (fun i hi a ha => h0 (i + 1) (by omega) a (by simpa using ha)) (by simpa using h) hn
theorem rowsE_iff {z : Int} : ∀ {c : List (Int × List Int)}, rowsE z c = 0 ↔ ∀ p ∈ c, rowE z p = 0
  | [] => by simp [rowsE]
  | x :: c => by
    rw [rowsE]
    by_cases h : rowE z x = 0
    · rw [if_neg (by simp [h]), rowsE_iff (c := c)]
      simp [h]
    · rw [if_pos h]
      simp [h]
def wrongM (s : List Int) (z : Int) (tb : List (List Int)) : Int := if z < 1 ∨ 8 < z ∨ tb.length ≠ s.length then 5 else rowsE z (s.zip tb)

/-- A right model. -/
structure MR (s : List Int) (z : Int) (tb : List (List Int)) : Prop where
  z1 : 1 ≤ z
  z8 : z ≤ 8
  len : tb.length = s.length
  row : ∀ i, i < s.length → ((tb.getD i []).length : Int) = mlen z (s.getD i 0)
  all : ∀ i, i < s.length → ∀ x ∈ tb.getD i [], 0 ≤ x ∧ x < z
theorem row_ok {z : Int} {p : Int × List Int} : rowE z p = 0 ↔ (p.2.length : Int) = mlen z p.1 ∧ ∀ x ∈ p.2, 0 ≤ x ∧ x < z := by
  unfold rowE
  by_cases h1 : (p.2.length : Int) = mlen z p.1
  · rw [if_pos h1]
    by_cases h2 : p.2.all (inZ z) = true
    · rw [if_pos h2]
      simp only [h1, true_and, true_iff]
      intro x hx
      have := List.all_eq_true.1 h2 x hx
      simpa [inZ] using this
    · rw [if_neg h2]
      constructor
      · intro h; simp at h
      · intro h
        refine absurd (List.all_eq_true.2 fun x hx => ?_) h2
        have := h.2 x hx
        simpa [inZ] using this
  · rw [if_neg h1]
    constructor
    · intro h; simp at h
    · intro h; exact absurd h.1 h1
theorem wrongM_ok {s : List Int} {z : Int} {tb : List (List Int)} (h : wrongM s z tb = 0) : MR s z tb := by
  unfold wrongM at h
  by_cases h1 : z < 1 ∨ 8 < z ∨ tb.length ≠ s.length
  · rw [if_pos h1] at h; simp at h
  · rw [if_neg h1, rowsE_iff] at h
    have hl : tb.length = s.length := by
      by_cases e : tb.length = s.length
      · exact e
      · exact absurd (.inr (.inr e)) h1
    have key : ∀ i, i < s.length → rowE z (s.getD i 0, tb.getD i []) = 0 := fun i hi => by
      have h2 : (s.zip tb)[i]? = some (s.getD i 0, tb.getD i []) := by
        have hs : s[i]? = some (s.getD i 0) := by rw [List.getD_eq_getElem?_getD, List.getElem?_eq_getElem hi]; rfl
        have ht : tb[i]? = some (tb.getD i []) := by rw [List.getD_eq_getElem?_getD, List.getElem?_eq_getElem (by omega)]; rfl
        rw [List.getElem?_zip_eq_some]
        exact ⟨hs, ht⟩
      exact h _ (List.mem_of_getElem? h2)
    exact ⟨by omega, by omega, hl, fun i hi => (row_ok.1 (key i hi)).1, fun i hi => (row_ok.1 (key i hi)).2⟩

/-- So many arguments' numbers, the first one counts most. -/
def pw (z : Int) : Nat → Int
  | 0 => 1
  | n + 1 => z * pw z n
theorem pw_pos {z : Int} (h : 1 ≤ z) : ∀ n, 1 ≤ pw z n
  | 0 => by simp [pw]
  | n + 1 => by
    have := pw_pos h n
    rw [pw]
    have := Int.mul_le_mul h this (by omega) (by omega)
    simpa using this
theorem mlen_pw {z n : Int} {m : Nat} (h : (m : Int) = n) (hm : m ≤ 2) : mlen z n = pw z m := by
  subst h
  rcases (by omega : m = 0 ∨ m = 1 ∨ m = 2) with rfl | rfl | rfl
  · rfl
  · simp [mlen, pw]
  · simp [mlen, pw]
theorem digit_next {z a v p : Int} (hz : 1 ≤ z) (ha : 0 ≤ a) (hp : a < p) (hv : 0 ≤ v) (hvz : v < z) : 0 ≤ z * a + v ∧ z * a + v < z * p := by
  have h1 : 0 ≤ z * a := Int.mul_nonneg (by omega) ha
  have h2 : z * (a + 1) ≤ z * p := Int.mul_le_mul_of_nonneg_left (by omega) (by omega)
  rw [Int.mul_add] at h2
  omega
/-- The number of a term is one of a thing. -/
theorem val_range {s : List Int} {z : Int} {tb : List (List Int)} {e : Int → Int} (hm : MR s z tb) (hs : s.all okNum = true) (he : ∀ v, 0 ≤ v → v ≤ 4 → 0 ≤ e v ∧ e v < z) :
    ∀ {F : Fo} {d : Int}, walkF s F d = 0 → ∀ (a : Int) (i : Nat), 0 ≤ a → a < pw z i → 0 ≤ valF z tb e F a ∧ valF z tb e F a < pw z (Fo.len F + i)
  | .nil, d, _, a, i, h0, h1 => by simpa [valF, Fo.len] using ⟨h0, h1⟩
  | .node p q (b, n) k r, d, h, a, i, h0, h1 => by
    obtain ⟨hT, hr⟩ := walkF_ok h
    obtain ⟨_, ha, hk⟩ := walkT_ok hT
    have hv : 0 ≤ valT z tb e ((b, n), k) ∧ valT z tb e ((b, n), k) < z := by
      cases b with
      | true =>
        obtain ⟨_, hn0, hn4⟩ := alone_var ha
        simpa [valT] using he n hn0 hn4
      | false =>
        obtain ⟨n0, n1, n2⟩ := alone_sym ha
        have ih := val_range hm hs he hk 0 0 (by omega) (by simp [pw])
        have hn : n.toNat < s.length := by omega
        have ok := List.all_eq_true.1 hs (s.getD n.toNat 0) (by rw [List.getD_eq_getElem?_getD, List.getElem?_eq_getElem hn]; simp)
        have ok' : 0 ≤ s.getD n.toNat 0 ∧ s.getD n.toNat 0 ≤ 2 := by simpa [okNum] using ok
        have hl := hm.row n.toNat hn
        rw [mlen_pw n2 (by omega)] at hl
        rw [Nat.add_zero] at ih
        have hlt : (valF z tb e k 0).toNat < (tb.getD n.toNat []).length := by omega
        have : (tb.getD n.toNat []).getD (valF z tb e k 0).toNat 0 ∈ tb.getD n.toNat [] := by
          rw [List.getD_eq_getElem?_getD (l := tb.getD n.toNat []), List.getElem?_eq_getElem hlt]; simp
        have := hm.all n.toNat hn _ this
        simpa [valT] using this
    rw [valF_node]
    have hd := digit_next hm.z1 h0 h1 hv.1 hv.2
    have := val_range hm hs he hr (z * a + valT z tb e ((b, n), k)) (i + 1) hd.1 (by rw [pw]; exact hd.2)
    rw [show Fo.len (.node p q (b, n) k r) + i = Fo.len r + (i + 1) by simp [Fo.len]; omega]
    exact this
theorem val_args {s : List Int} {z : Int} {tb : List (List Int)} {e : Int → Int} (hm : MR s z tb) (hs : s.all okNum = true) (he : ∀ v, 0 ≤ v → v ≤ 4 → 0 ≤ e v ∧ e v < z) {n : Int} {k : Fo} {d : Int} (h : walkT s (false, n) k d = 0) :
    0 ≤ n ∧ n < s.length ∧ 0 ≤ valF z tb e k 0 ∧ valF z tb e k 0 < (tb.getD n.toNat []).length ∧ Fo.len k ≤ 2 := by
  obtain ⟨_, ha, hk⟩ := walkT_ok h
  obtain ⟨n0, n1, n2⟩ := alone_sym ha
  have ih := val_range hm hs he hk 0 0 (by omega) (by simp [pw])
  have hn : n.toNat < s.length := by omega
  have ok := List.all_eq_true.1 hs (s.getD n.toNat 0) (by rw [List.getD_eq_getElem?_getD, List.getElem?_eq_getElem hn]; simp)
  have ok' : 0 ≤ s.getD n.toNat 0 ∧ s.getD n.toNat 0 ≤ 2 := by simpa [okNum] using ok
  have hl := hm.row n.toNat hn
  rw [mlen_pw n2 (by omega)] at hl
  rw [Nat.add_zero] at ih
  exact ⟨n0, n1, ih.1, by omega, by omega⟩
theorem val_rangeT {s : List Int} {z : Int} {tb : List (List Int)} {e : Int → Int} (hm : MR s z tb) (hs : s.all okNum = true) (he : ∀ v, 0 ≤ v → v ≤ 4 → 0 ≤ e v ∧ e v < z) {t : Tm} {d : Int} (h : walkT s t.1 t.2 d = 0) : 0 ≤ valT z tb e t ∧ valT z tb e t < z := by
  have h2 : walkF s (.node 0 0 t.1 t.2 .nil) d = 0 := by rw [walkF_node, if_neg (by simpa using h)]; rfl
  have := val_range hm hs he h2 0 0 (by omega) (by simp [pw])
  rw [valF_node] at this
  simpa [valF, Fo.len, pw] using this

/-- All bindings, counted as numbers. -/
def envF (z : Int) : List Int → Int → List Int → List Int
  | [], _, L => L
  | v :: vs, n, L => envF z vs (n / z) (L.set v.toNat (n % z))
def envOf (L : List Int) (v : Int) : Int := L.getD v.toNat 0
abbrev env0 : List Int := [0, 0, 0, 0, 0]
def holdsB (z : Int) (tb : List (List Int)) (c : Cl) : Bool := (List.range (pw z (varsC c []).length).toNat).all fun n => someH z tb (envOf (envF z (varsC c []) n env0)) c
theorem envF_len {z : Int} : ∀ (vs : List Int) (n : Int) (L : List Int), (envF z vs n L).length = L.length
  | [], _, _ => rfl
  | v :: vs, n, L => by rw [envF, envF_len]; simp
theorem envF_other {z v : Int} : ∀ {vs : List Int} {n : Int} {L : List Int}, (∀ x ∈ vs, 0 ≤ x) → 0 ≤ v → v ∉ vs → envOf (envF z vs n L) v = envOf L v
  | [], _, _, _, _, _ => rfl
  | x :: vs, n, L, hx, h0, h => by
    have hne : x.toNat ≠ v.toNat := fun e => h (by have := hx x (by simp); rw [show v = x by omega]; simp)
    rw [envF, envF_other (fun y hy => hx y (by simp [hy])) h0 (fun hh => h (by simp [hh]))]
    unfold envOf
    rw [List.getD_eq_getElem?_getD, List.getD_eq_getElem?_getD, List.getElem?_set_ne hne]
theorem env_range {z : Int} (hz : 1 ≤ z) : ∀ {vs : List Int} {n : Int} {L : List Int}, (∀ x ∈ L, 0 ≤ x ∧ x < z) → ∀ x ∈ envF z vs n L, 0 ≤ x ∧ x < z
  | [], _, _, h => h
  | v :: vs, n, L, h => by
    rw [envF]
    refine env_range hz (fun x hx => ?_)
    rcases List.mem_or_eq_of_mem_set hx with hx | hx
    · exact h x hx
    · rw [hx]
      exact ⟨Int.emod_nonneg _ (by omega), Int.emod_lt_of_pos _ (by omega)⟩
theorem env_at {z : Int} (hz : 1 ≤ z) {vs : List Int} {n : Int} (v : Int) : 0 ≤ envOf (envF z vs n env0) v ∧ envOf (envF z vs n env0) v < z := by
  unfold envOf
  rw [List.getD_eq_getElem?_getD]
  cases h : (envF z vs n env0)[v.toNat]? with
  | none => simp; omega
  | some x =>
    have := env_range hz (vs := vs) (n := n) (L := env0) (fun x hx => by simp at hx; omega) x (List.mem_of_getElem? h)
    simpa using this
/-- Some number counts whatever bindings there are. -/
theorem env_some {z : Int} (hz : 1 ≤ z) {e : Int → Int} (he : ∀ v, 0 ≤ e v ∧ e v < z) : ∀ {vs : List Int}, vs.Nodup → (∀ x ∈ vs, 0 ≤ x ∧ x ≤ 4) → ∃ n : Int, 0 ≤ n ∧ n < pw z vs.length ∧ ∀ L : List Int, L.length = 5 → ∀ v ∈ vs, envOf (envF z vs n L) v = e v
  | [], _, _ => ⟨0, by omega, by simp [pw], fun _ _ _ h => by cases h⟩
  | v :: vs, hn, hx => by
    rw [List.nodup_cons] at hn
    obtain ⟨m, m0, m1, hm⟩ := env_some hz he hn.2 (fun x hx' => hx x (by simp [hx']))
    have hv := hx v (by simp)
    obtain ⟨e0, e1⟩ := he v
    have hd := digit_next hz m0 m1 e0 e1
    have hz' : (0 : Int) < z := by omega
    have q1 : (z * m + e v) / z = m := by
      rw [Int.add_comm, Int.add_mul_ediv_left _ _ (by omega), Int.ediv_eq_zero_of_lt e0 e1]; omega
    have q2 : (z * m + e v) % z = e v := by
      rw [Int.add_comm, Int.add_mul_emod_self_left, Int.emod_eq_of_lt e0 e1]
    refine ⟨z * m + e v, hd.1, by rw [List.length_cons, pw]; exact hd.2, fun L hL x hxm => ?_⟩
    rw [envF, q1, q2]
    rcases List.mem_cons.1 hxm with rfl | hxm
    · rw [envF_other (fun y hy => (hx y (by simp [hy])).1) hv.1 hn.1]
      unfold envOf
      rw [List.getD_eq_getElem?_getD, List.getElem?_set_self (by omega)]
      rfl
    · exact hm _ (by simp [hL]) x hxm
theorem some_congr {z : Int} {tb : List (List Int)} {e e' : Int → Int} {c : Cl} (h : ∀ n ∈ varsC c [], e n = e' n) : someH z tb e c = someH z tb e' c := by
  unfold someH
  rw [Bool.eq_iff_iff, List.any_eq_true, List.any_eq_true]
  refine exists_congr fun l => and_congr_right fun hl => ?_
  have h1 : ∀ n, occL n l → e n = e' n := fun n hn => h n (varsC_mem.2 (.inr ⟨l, hl, hn⟩))
  simp only [litH]
  rw [valT_congr (fun n hn => h1 n (.inl hn)), valT_congr (t := l.2.2) (fun n hn => h1 n (.inr hn))]
theorem holds_iff {z : Int} {tb : List (List Int)} {c : Cl} (hz : 1 ≤ z) (hv : ∀ n ∈ varsC c [], 0 ≤ n ∧ n ≤ 4) : holdsB z tb c = true ↔ holdsP z tb c := by
  unfold holdsB holdsP
  rw [List.all_eq_true]
  constructor
  · intro h e he
    obtain ⟨n, n0, n1, hn⟩ := env_some hz he (varsC_nodup (c := c) List.nodup_nil) hv
    have h1 := h n.toNat (List.mem_range.2 (by omega))
    rw [show ((n.toNat : Nat) : Int) = n by omega] at h1
    rw [← h1]
    exact some_congr fun v hvm => (hn env0 rfl v hvm).symm
  · intro h n _
    exact h _ (fun v => env_at hz v)

end Go.Proofs.YtfckelbdageenabGreatDoor

/- The document's Value: which thing a term is. -/
namespace Go.Proofs.YtfckelbdageenabGreatDoor
open Go.RowKit Go.Deep Go.ChangeShapes Go.WideShapes
attribute [local go_sem ↓] Go.wp_at_zero Go.wp_at_succ

/-- The tables Z lie in w, as the value v says. -/
def TbIn (w : World) (Z : List (List Int)) (v : Value) : Prop :=
  ∃ (a : Option Addr) (c b o : Nat), v = .slice a Z.length c ∧ (0 < Z.length → a = some ⟨b, o, none⟩) ∧ Z.length ≤ c ∧ c ≤ maxLen ∧ ∀ i, i < Z.length → ∃ pv, w.cell? ⟨b, o + i, none⟩ = some pv ∧ NIn w (Z.getD i []) pv
theorem TbIn.below {w w' : World} (hb : Below w.heap.size w w') {Z : List (List Int)} {v : Value} (h : TbIn w Z v) : TbIn w' Z v := by
  obtain ⟨a, c, b, o, h1, h2, h3, h4, h5⟩ := h
  refine ⟨a, c, b, o, h1, h2, h3, h4, fun i hi => ?_⟩
  obtain ⟨pv, k1, k2⟩ := h5 i hi
  exact ⟨pv, grow_cell hb _ _ k1, k2.below hb⟩
theorem TbIn.alloc {w : World} {Z : List (List Int)} {v : Value} (h : TbIn w Z v) (ob : Obj) : TbIn (w.alloc ob) Z v := h.below (below_alloc w ob)
theorem tb_slice {w : World} {Z : List (List Int)} {v : Value} (h : TbIn w Z v) : ∃ z1 z3, v = .slice z1 Z.length z3 := by
  obtain ⟨a, k, _, _, rfl, _⟩ := h
  exact ⟨a, k, rfl⟩

/-- The first j arguments' number. -/
def vTo (z : Int) (tb : List (List Int)) (e : Int → Int) (k : Fo) (j : Nat) : Int := (k.list.take j).foldl (fun a t => z * a + valT z tb e t) 0
theorem valF_list (z : Int) (tb : List (List Int)) (e : Int → Int) : ∀ (F : Fo) (a : Int), valF z tb e F a = F.list.foldl (fun a t => z * a + valT z tb e t) a
  | .nil, _ => rfl
  | .node _ _ x k r, a => by rw [valF_node, valF_list z tb e r]; rfl
theorem vTo_succ {z : Int} {tb : List (List Int)} {e : Int → Int} {k : Fo} {j : Nat} {t : Tm} (h : k.list[j]? = some t) : vTo z tb e k (j + 1) = z * vTo z tb e k j + valT z tb e t := by
  unfold vTo; rw [List.take_add_one, h]; simp [List.foldl_append]
theorem vTo_end (z : Int) (tb : List (List Int)) (e : Int → Int) (k : Fo) : vTo z tb e k (Fo.len k) = valF z tb e k 0 := by
  unfold vTo; rw [← Fo.len_list, List.take_length, valF_list]
theorem walk_mem {s : List Int} : ∀ {F : Fo} {d : Int}, walkF s F d = 0 → ∀ t ∈ F.list, walkT s t.1 t.2 d = 0
  | .nil, _, _, t, h => by simp [Fo.list] at h
  | .node _ _ x k r, d, h, t, ht => by
    obtain ⟨h1, h2⟩ := walkF_ok h
    simp only [Fo.list, List.mem_cons] at ht
    rcases ht with rfl | ht
    · exact h1
    · exact walk_mem h2 t ht
theorem vTo_range {z : Int} {tb : List (List Int)} {e : Int → Int} {k : Fo} (hz : 1 ≤ z) (h : ∀ t ∈ k.list, 0 ≤ valT z tb e t ∧ valT z tb e t < z) : ∀ j, j ≤ Fo.len k → 0 ≤ vTo z tb e k j ∧ vTo z tb e k j < pw z j
  | 0, _ => by simp [vTo, pw]
  | j + 1, hj => by
    have ih := vTo_range hz h j (by omega)
    have hl : j < k.list.length := by rw [Fo.len_list]; omega
    have hy : k.list[j]? = some k.list[j] := List.getElem?_eq_getElem hl
    have hv := h _ (List.getElem_mem hl)
    rw [vTo_succ hy, pw]
    exact digit_next hz ih.1 ih.2 hv.1 hv.2
theorem pw_small {z : Int} (h1 : 1 ≤ z) (h8 : z ≤ 8) {j : Nat} (hj : j ≤ 2) : pw z j ≤ 64 := by
  rcases (by omega : j = 0 ∨ j = 1 ∨ j = 2) with rfl | rfl | rfl
  · simp [pw]
  · simp [pw]; omega
  · have := Int.mul_le_mul h8 h8 (by omega) (by omega)
    simp [pw]; omega
theorem env_ok {z : Int} {L : List Int} (hz : 1 ≤ z) (hr : ∀ x ∈ L, 0 ≤ x ∧ x < z) (v : Int) : 0 ≤ envOf L v ∧ envOf L v < z := by
  unfold envOf
  rw [List.getD_eq_getElem?_getD]
  cases h : L[v.toNat]? with
  | none => simp; omega
  | some x => simpa using hr x (List.mem_of_getElem? h)

def ValRSaid (s : List Int) (z : Int) (tb : List (List Int)) (L : List Int) (x : Bool × Int) (k : Fo) : Prop := ∀ (mv ev a : Value) (w : World) (d : Int), TbIn w tb mv → NIn w L ev → SIn w k a → walkT s x k d = 0 →
    Calls Tryz.prog 88 #[.agg #[.int .i64 z, mv], ev, .agg #[.bool x.1, .int .i64 x.2, a]] w fun e w' => e = .returned (.int .i64 (valT z tb (envOf L) (x, k))) ∧ Below w.heap.size w w'

set_option maxRecDepth 100000 in
set_option maxHeartbeats 2000000 in
theorem valueR_any {s L : List Int} {z : Int} {tb : List (List Int)} (hm : MR s z tb) (hs : s.all okNum = true) (hL : L.length = 5) (hr : ∀ x ∈ L, 0 ≤ x ∧ x < z) (x : Bool × Int) (k : Fo) : ValRSaid s z tb L x k := by
  refine Fo.ind1 (p := ValRSaid s z tb L) ?_ x k
  clear x k
  intro x k ih mv ev a w d hT hE hS hw
  obtain ⟨xv, n⟩ := x
  have HI := hide ih
  have Hm := hide hm
  have Hs := hide hs
  have z1 := hm.z1
  have z8 := hm.z8
  have Hev : Hid (∀ v, 0 ≤ v → v ≤ 4 → 0 ≤ envOf L v ∧ envOf L v < z) := fun v _ _ => env_ok hm.z1 hr v
  have HT := hide hT
  have HE := hide hE
  have Hl := hide (Fo.len_list k)
  obtain ⟨ta, tc, tk, tq, rfl, -, -, -, -⟩ := hT
  obtain ⟨ea, ec, eb, eo, rfl, head, helc, hecm, hEF⟩ := hE
  obtain ⟨ad, c, b, o, rfl, had, hlc, hcm, hF⟩ := hS
  unfold maxLen at hcm hecm
  obtain ⟨hd12, hal, hwk⟩ := walkT_ok hw
  have Hal := hide hal
  have Hwk := hide hwk
  have Hw := hide hw
  have HF := hide hF
  have HEF := hide hEF
  have HL := hide hL
  have Hhead := hide head
  clear ih hm hs hr hal hwk hw hF hEF hL head
  go_enter Tryz.func88, Tryz.ntmps88
  go_upto_region 1 with fail
  generalize hW1 : (w.alloc (.cells #[.int .i64 z, .slice ta tb.length tc] 57)).alloc (.cells #[.bool xv, .int .i64 n, .slice ad (Fo.len k) c] 36) = W1
  have hB1 : Below w.heap.size w W1 := by rw [← hW1]; exact (below_alloc _ _).alloc (by simp) _
  have m0 : W1.cell? ⟨w.heap.size, 0, none⟩ = some (.int .i64 z) := by rw [← hW1, World.cell?_alloc_lt _ _ _ (by simp)]; exact new_cell rfl
  have m1 : W1.cell? ⟨w.heap.size, 1, none⟩ = some (.slice ta tb.length tc) := by rw [← hW1, World.cell?_alloc_lt _ _ _ (by simp)]; exact new_cell rfl
  have q0 : W1.cell? ⟨w.heap.size + 1, 0, none⟩ = some (.bool xv) := by rw [← hW1]; exact new_cell (World.size_alloc _ _)
  have q1 : W1.cell? ⟨w.heap.size + 1, 1, none⟩ = some (.int .i64 n) := by rw [← hW1]; exact new_cell (World.size_alloc _ _)
  have q2 : W1.cell? ⟨w.heap.size + 1, 2, none⟩ = some (.slice ad (Fo.len k) c) := by rw [← hW1]; exact new_cell (World.size_alloc _ _)
  clear hW1
  cases xv
  · obtain ⟨n0, n1, v0, v1, l2⟩ := val_args Hm.out Hs.out Hev.out Hw.out
    have Hv0 := hide v0
    have Hv1 := hide v1
    have Hvs : Hid (∀ t ∈ k.list, 0 ≤ valT z tb (envOf L) t ∧ valT z tb (envOf L) t < z) := fun t ht => val_rangeT Hm.out Hs.out Hev.out (walk_mem Hwk.out t ht)
    have Hvt : Hid (∀ j, j ≤ Fo.len k → 0 ≤ vTo z tb (envOf L) k j ∧ vTo z tb (envOf L) k j ≤ 64) := fun j hj => by
      have h1 := vTo_range z1 Hvs.out j hj
      have h2 := pw_small z1 z8 (j := j) (by omega)
      exact ⟨h1.1, by omega⟩
    clear v0 v1
    go_wp2_with fail
    go_loopw [7, 20] (fun s i wr => ∃ j : Nat, j ≤ Fo.len k ∧ i = .int .i64 j ∧ s = .int .i64 (vTo z tb (envOf L) k j) ∧ Below W1.heap.size W1 wr) (fun _ i _ => Fo.len k - (intOf i).toNat)
    case atStart => exact ⟨0, Nat.zero_le _, rfl, rfl, Below.refl _ _⟩
    case round =>
      obtain ⟨j, hj, rfl, rfl, hBx⟩ := hrel
      have hBr := below_step hB1 hBx
      have m0' := grow_cell hBx _ _ m0
      have m1' := grow_cell hBx _ _ m1
      have q1' := grow_cell hBx _ _ q1
      by_cases hlt : j < Fo.len k
      · have hlt' : (j : Int) < (Fo.len k : Int) := by omega
        obtain ⟨⟨⟨yv, yn⟩, yk⟩, hy⟩ : ∃ y, k.list[j]? = some y := ⟨k.list[j]'(by rw [Hl.out]; exact hlt), by simp⟩
        obtain ⟨c0, c1, yv', c2, hSy⟩ := (HF.out.below hBr).at hy
        have ha : ad = some ⟨b, o, none⟩ := had (by omega)
        subst ha
        have HS := hide hSy
        obtain ⟨ya, yc, yb, yo, rfl, -, -, -, -⟩ := hSy
        have hmem := List.mem_of_getElem? hy
        have hvy := Hvs.out _ hmem
        have hvj := Hvt.out j hj
        have Hst := hide (vTo_succ (z := z) (tb := tb) (e := envOf L) hy)
        have Hc := hide (fun (w' : World) (hb : Below wr.heap.size wr w') => HI.out ((yv, yn), yk) hmem (.slice ta tb.length tc) (.slice ea L.length ec) (.slice ya (Fo.len yk) yc) w' (d + 1) (HT.out.below (below_step hBr hb)) (HE.out.below (below_step hBr hb)) (HS.out.below hb) (walk_mem Hwk.out _ hmem))
        simp only at Hc
        generalize valT z tb (envOf L) ((yv, yn), yk) = V at hvy Hst Hc
        generalize vTo z tb (envOf L) k j = Aj at hvj Hst
        have hp0 : 0 ≤ z * Aj := Int.mul_nonneg (by omega) hvj.1
        have hp1 : z * Aj ≤ 8 * 64 := Int.mul_le_mul z8 hvj.2 hvj.1 (by omega)
        obtain ⟨hv1, hv2⟩ := hvy
        obtain ⟨hv3, hv4⟩ := hvj
        have Hwr : Hid (IntKind.i64.wrap (IntKind.i64.wrap (z * Aj) + V) = z * Aj + V) := by
          have e1 : IntKind.i64.wrap (z * Aj) = z * Aj := by rw [IntKind.wrap_i64]; omega
          rw [Hid, e1, IntKind.wrap_i64]
          omega
        clear hy had hmem
        go_upto_region 7 with fail
        generalize hwa : wr.alloc (.cells #[.bool yv, .int .i64 yn, .slice ya (Fo.len yk) yc] 36) = wa
        have hba : Below wr.heap.size wr wa := by rw [← hwa]; exact below_alloc _ _
        have g0 : wa.cell? ⟨wr.heap.size, 0, none⟩ = some (.bool yv) := by rw [← hwa]; exact new_cell rfl
        have g1 : wa.cell? ⟨wr.heap.size, 1, none⟩ = some (.int .i64 yn) := by rw [← hwa]; exact new_cell rfl
        have g2 : wa.cell? ⟨wr.heap.size, 2, none⟩ = some (.slice ya (Fo.len yk) yc) := by rw [← hwa]; exact new_cell rfl
        have m0'' := grow_cell hba _ _ m0'
        have m1'' := grow_cell hba _ _ m1'
        have hcur : Below wa.heap.size wa wa.drew := (Below.refl _ _).drew
        clear hwa c0 c1 c2 m0 m1 m0' m1' q1 q2 q1'
        go_region_held3 (fun w' => w'.cell? ⟨wr.heap.size, 0, none⟩ = some (.bool yv) ∧ w'.cell? ⟨wr.heap.size, 1, none⟩ = some (.int .i64 yn) ∧ w'.cell? ⟨wr.heap.size, 2, none⟩ = some (.slice ya (Fo.len yk) yc) ∧ w'.cell? ⟨w.heap.size, 0, none⟩ = some (.int .i64 z) ∧ w'.cell? ⟨w.heap.size, 1, none⟩ = some (.slice ta tb.length tc))
          (first
            | (with_reducible exact ⟨grow_cell hcur _ _ g0, grow_cell hcur _ _ g1, grow_cell hcur _ _ g2, grow_cell hcur _ _ m0'', grow_cell hcur _ _ m1''⟩)
            | go_keep)
          (first
            | (go_at_call 88; with_reducible refine (Hc.out _ (below_step hba hcur)).mono ?_; rintro e wS ⟨rfl, hbS⟩; replace hcur := below_step hcur hbS))
        all_goals
          have Hend := hide (below_step hBx (below_step hba hcur))
          clear hcur hbS
          go_wp2_with fail
          go_roundw
          case rel => exact ⟨j + 1, by omega, by go_num, by rw [Hst.out, Hwr.out], Hend.out⟩
          case measure => simp [intOf]; omega
      · have hje : j = Fo.len k := by omega
        subst hje
        have Hval : Hid (valT z tb (envOf L) ((false, n), k) = (tb.getD n.toNat []).getD (valF z tb (envOf L) k 0).toNat 0) := rfl
        have Hve := hide (vTo_end z tb (envOf L) k)
        rw [Hve.out]
        obtain ⟨m, rfl⟩ : ∃ m : Nat, n = m := ⟨n.toNat, by omega⟩
        have hml : m < tb.length := by have := Hm.out.len; omega
        obtain ⟨ta', tc', tk', tq', he1, htad, htlc, htcm, hTF⟩ := HT.out.below hBr
        simp only [Value.slice.injEq, true_and] at he1
        obtain ⟨rfl, rfl⟩ := he1
        obtain ⟨pv, p1, hP⟩ := hTF m hml
        have hta : ta = some ⟨tk', tq', none⟩ := htad (by omega)
        subst hta
        have Hv0' := Hv0.out
        have Hv1' := Hv1.out
        rw [Int.toNat_natCast] at Hv1'
        rw [Int.toNat_natCast] at Hval
        generalize tb.getD m [] = row at Hval hP Hv1'
        generalize valF z tb (envOf L) k 0 = vq at Hval Hv0' Hv1'
        obtain ⟨q, rfl⟩ : ∃ q : Nat, vq = q := ⟨vq.toNat, by omega⟩
        rw [Int.toNat_natCast] at Hval
        obtain ⟨ra, rc, rb, ro, rfl, hrad, hrlc, hrcm, hRF⟩ := hP
        have hq : q < row.length := by omega
        have p2 := hRF q hq
        have hra : ra = some ⟨rb, ro, none⟩ := hrad (by omega)
        subst hra
        unfold maxLen at htcm hrcm
        generalize row.getD q 0 = V at p2 Hval
        have hm' : (m : Int) < (tb.length : Int) := by omega
        have hq' : (q : Int) < (row.length : Int) := by omega
        clear hTF hRF htad hrad had m0 m1 q1 m0' q2
        go_wp2_with fail
        go_ret
        exact ⟨by rw [Hval.out]; rfl, hBr⟩
  · obtain ⟨rfl, n0, n4⟩ := alone_var Hal.out
    obtain ⟨m, rfl⟩ : ∃ m : Nat, n = m := ⟨n.toNat, by omega⟩
    have hc := grow_cell hB1 _ _ (HEF.out m (by have := HL.out; omega))
    have Hval : Hid (valT z tb (envOf L) ((true, (m : Int)), .nil) = L.getD m 0) := by
      show envOf L m = _
      unfold envOf
      rw [Int.toNat_natCast]
    have hea : ea = some ⟨eb, eo, none⟩ := Hhead.out (by have := HL.out; omega)
    subst hea
    generalize L.getD m 0 = V at hc Hval
    have hm' : (m : Int) < (L.length : Int) := by have := HL.out; omega
    clear m0 m1 q2
    go_wp2_with fail
    go_ret
    exact ⟨by rw [Hval.out]; rfl, hB1⟩

end Go.Proofs.YtfckelbdageenabGreatDoor
