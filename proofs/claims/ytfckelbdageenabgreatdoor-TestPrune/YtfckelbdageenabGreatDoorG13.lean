/- CNo CSR CWR CMo CMv RegInv -/
import Derived.Test.YtfckelbdageenabGreatDoorG12
import Derived.Deep.RegionHeld3
import Derived.Test.YtfckelbdageenabGreatDoorRows
import Derived.WalkKit
import Derived.RegionTactic
namespace Go.Proofs.YtfckelbdageenabGreatDoor
open Go.RowKit Go.Deep Go.ChangeShapes Go.WideShapes

theorem gc_sz : ∀ {c : Cl}, (∀ l ∈ c, GL l) → szC c ≤ c.length * 24
  | [], _ => by simp [szC]
  | l :: c, h => by
    have h1 := gc_sz (c := c) (fun x hx => h x (by simp [hx]))
    have h2 := (h l (by simp)).sl
    have h3 := (h l (by simp)).sr
    have e : szC (l :: c) = szL l + szC c := by simp [szC]
    rw [e]
    simp only [szL, List.length_cons]
    omega

set_option maxRecDepth 100000 in
set_option maxHeartbeats 4000000 in
theorem norm_anyX (k : Cl) (a : Value) (w : World) (hS : CIn w k a) (hg : GX k) :
    Calls Tryz.prog 14 #[a] w fun e w' => ∃ v, e = .returned (.tuple #[v, .int .i64 (normC k).1]) ∧ CIn w' (normC k).2 v ∧ Below w.heap.size w w' := by
  have HS := hide hS
  obtain ⟨a1, a3, rfl⟩ := slice_of_cl hS
  clear hS
  have Hcs := hide (norm_casesX hg)
  have hk4 := hg.1
  have HG : Hid (∀ l ∈ k, Gd l.2.1 ∧ Gd l.2.2 ∧ tszR l.2.1.2 ≤ 4000000000000 ∧ tszR l.2.2.2 ≤ 4000000000000) := fun l hl => ⟨(hg.2 l hl).gl, (hg.2 l hl).gr, (hg.2 l hl).sl, (hg.2 l hl).sr⟩
  go_enter Tryz.func14, Tryz.ntmps14
  go_wp2_with fail
  refine (turn_any k _ _ HS.out HG.out (by omega)).mono ?_
  rintro e w1 ⟨v1, er, d, rfl, hC1, hcs, hb1⟩
  rcases hcs with ⟨rfl, rfl, ht⟩ | ⟨rfl, ht⟩
  · have Hn : Hid (normC k = (6, [])) := by
      rcases Hcs.out with ⟨_, h⟩ | ⟨d, h, _⟩
      · exact h
      · rw [ht] at h; cases h
    obtain ⟨z1, z3, rfl⟩ := slice_of_cl hC1
    clear hC1 ht
    go_wp2_with fail
    go_ret2
    exact ⟨.slice none 0 0, by rw [Hn.out]; rfl, by rw [Hn.out]; exact CIn.nil _, hb1⟩
  · have Hrest : Hid (GX d ∧ GX (reN d) ∧ ((distC (reN d) = none ∧ normC k = (6, [])) ∨ ∃ e, distC (reN d) = some e ∧ GX e ∧ normC k = keepC d e)) := by
      rcases Hcs.out with ⟨h, _⟩ | ⟨d', h, h2⟩
      · rw [ht] at h; cases h
      · rw [ht] at h; cases h; exact h2
    have HC1 := hide hC1
    obtain ⟨z1, z3, rfl⟩ := slice_of_cl hC1
    clear hC1 ht
    have hd4 := Hrest.out.1.1
    have hv5 := gx_vars Hrest.out.1.2
    go_wp2_with fail
    refine (varsCl_any d _ _ HC1.out (by omega)).mono ?_
    rintro e w2 ⟨vv, rfl, hN, hb2⟩
    have HN := hide hN
    obtain ⟨y1, y3, rfl⟩ := nin_slice hN
    have hB2 := below_step hb1 hb2
    clear hN
    go_wp2_with fail
    refine (number_any d _ (varsC d []) _ _ (HC1.out.below hb2) HN.out (fun l hl => ⟨(Hrest.out.1.2 l hl).gl.nar, (Hrest.out.1.2 l hl).gr.nar⟩) (by omega) (by omega)).mono ?_
    rintro e w3 ⟨g, rfl, hC3, hb3⟩
    have HC3 : Hid (CIn w3 (reN d) (.slice (some ⟨g, 0, none⟩) d.length d.length)) := hC3
    have hB3 := below_step hB2 hb3
    clear hC3 hb2 hb3
    go_wp2_with fail
    refine (distinct_any (reN d) _ _ HC3.out (by have := Hrest.out.2.1.1; omega)).mono ?_
    rintro e w4 ⟨v4, er, f, rfl, hC4, hcs, hb4⟩
    have hB4 := below_step hB3 hb4
    rcases hcs with ⟨rfl, rfl, ht⟩ | ⟨rfl, ht⟩
    · have Hn : Hid (normC k = (6, [])) := by
        rcases Hrest.out.2.2 with ⟨_, h⟩ | ⟨d, h, _⟩
        · exact h
        · rw [ht] at h; cases h
      obtain ⟨x1, x3, rfl⟩ := slice_of_cl hC4
      clear hC4 ht
      go_wp2_with fail
      go_ret2
      exact ⟨.slice none 0 0, by rw [Hn.out]; rfl, by rw [Hn.out]; exact CIn.nil _, hB4⟩
    · have Hn : Hid (GX f ∧ normC k = keepC d f) := by
        rcases Hrest.out.2.2 with ⟨h, _⟩ | ⟨d, h, h2⟩
        · rw [ht] at h; cases h
        · rw [ht] at h; cases h; exact h2
      have HC4 := hide hC4
      obtain ⟨x1, x3, rfl⟩ := slice_of_cl hC4
      clear hC4 ht hb4
      have Hkb := hide (fun h => keep_big (d := d) (e := f) h)
      have Hko := hide (fun h1 h2 h3 => keep_ok (d := d) (e := f) h1 h2 h3)
      generalize hvl : (varsC d []).length = vl at *
      clear hvl
      by_cases c4 : 4 < f.length
      · have c4' : (4 : Int) < (f.length : Int) := by omega
        have Hk := hide (Hkb.out (.inl (.inl c4)))
        go_wp2_with fail
        go_ret2
        exact ⟨.slice none 0 0, by rw [Hn.out.2, Hk.out]; rfl, by rw [Hn.out.2, Hk.out]; exact CIn.nil _, hB4⟩
      have c4' : ¬ (4 : Int) < (f.length : Int) := by omega
      by_cases c5 : 5 < vl
      · have c5' : (5 : Int) < (vl : Int) := by omega
        have Hk := hide (Hkb.out (.inl (.inr c5)))
        go_wp2_with fail
        go_ret2
        exact ⟨.slice none 0 0, by rw [Hn.out.2, Hk.out]; rfl, by rw [Hn.out.2, Hk.out]; exact CIn.nil _, hB4⟩
      have c5' : ¬ (5 : Int) < (vl : Int) := by omega
      have hf4' : (f.length : Int) ≤ 4 := by omega
      have hv5' : (vl : Int) ≤ 5 := by omega
      go_wp2_with fail
      refine (containsG_any f _ _ HC4.out (fun p hp => ⟨(Hn.out.1.2 p hp).okl, (Hn.out.1.2 p hp).sl, (Hn.out.1.2 p hp).sr⟩)).mono ?_
      rintro e w5 ⟨rfl, hb5⟩
      have hB5 := below_step hB4 hb5
      have HC5 := hide (HC4.out.below hb5)
      clear hb5
      cases hbg : f.any bigL
      · have Hk := hide (Hko.out c4 c5 hbg)
        clear hbg
        go_wp2_with fail
        go_ret2
        exact ⟨.slice x1 f.length x3, by rw [Hn.out.2, Hk.out]; rfl, by rw [Hn.out.2, Hk.out]; exact HC5.out, hB5⟩
      · have Hk := hide (Hkb.out (.inr hbg))
        clear hbg
        go_wp2_with fail
        go_ret2
        exact ⟨.slice none 0 0, by rw [Hn.out.2, Hk.out]; rfl, by rw [Hn.out.2, Hk.out]; exact CIn.nil _, hB5⟩
theorem norm_any (k : Cl) (a : Value) (w : World) (hS : CIn w k a) (hg : GC k) :
    Calls Tryz.prog 14 #[a] w fun e w' => ∃ v, e = .returned (.tuple #[v, .int .i64 (normC k).1]) ∧ CIn w' (normC k).2 v ∧ Below w.heap.size w w' := norm_anyX k a w hS hg.x

end Go.Proofs.YtfckelbdageenabGreatDoor

namespace Go.Proofs.YtfckelbdageenabGreatDoor
open Go.RowKit Go.Deep Go.ChangeShapes Go.WideShapes

set_option maxRecDepth 100000 in
set_option maxHeartbeats 1000000 in
theorem sameLitR_any (p q : Lt) (a d b c : Value) (w : World) (h1 : SIn w p.2.1.2 a) (h2 : SIn w p.2.2.2 d) (h3 : SIn w q.2.1.2 b) (h4 : SIn w q.2.2.2 c) :
    Calls Tryz.prog 21 #[litA p a d, litA q b c] w fun e w' => e = .returned (.bool (sameL p q)) ∧ Below w.heap.size w w' := by
  obtain ⟨pn, ⟨⟨pv, pi⟩, pk⟩, ⟨⟨pv', pi'⟩, pk'⟩⟩ := p
  obtain ⟨qn, ⟨⟨qv, qi⟩, qk⟩, ⟨⟨qv', qi'⟩, qk'⟩⟩ := q
  have H1 := hide h1
  have H2 := hide h2
  have H3 := hide h3
  have H4 := hide h4
  obtain ⟨a1, a3, _, _, rfl, -, -, -, -⟩ := h1
  obtain ⟨d1, d3, _, _, rfl, -, -, -, -⟩ := h2
  obtain ⟨b1, b3, _, _, rfl, -, -, -, -⟩ := h3
  obtain ⟨c1, c3, _, _, rfl, -, -, -, -⟩ := h4
  simp only at *
  by_cases hn : pn = qn
  · subst hn
    go_enter Tryz.func21, Tryz.ntmps21
    go_wp2_with fail
    refine (sameR_any (pv, pi) pk (qv, qi) qk _ _ _ ((H1.out.alloc _).alloc _) ((H3.out.alloc _).alloc _)).mono ?_
    rintro e w1 ⟨rfl, hb1⟩
    obtain ⟨-, -, -, -, e4, e5, e6, -, hB1, hl1⟩ := lit_cells hb1
    obtain ⟨-, -, -, -, f4, f5, f6, -, hB2, hl2⟩ := lit_cells hB1
    simp only [World.size_alloc] at e4 e5 e6
    have H2' := hide (H2.out.below hB2)
    have H4' := hide (H4.out.below hB2)
    cases he : sameT (pv, pi) pk (qv, qi) qk
    · clear hb1 hB1
      go_wp2_with fail
      go_ret
      exact ⟨by simp [sameL, he], hB2⟩
    · clear hb1 hB1
      go_wp2_with fail
      refine (sameR_any (pv', pi') pk' (qv', qi') qk' _ _ _ H2'.out H4'.out).mono ?_
      rintro e w2 ⟨rfl, hb2⟩
      go_wp2_with fail
      go_ret
      exact ⟨by simp [sameL, he], below_step hB2 hb2⟩
  · have hnb : (pn == qn) = false := by simp [hn]
    go_enter Tryz.func21, Tryz.ntmps21
    go_wp2_with fail
    go_ret
    refine ⟨by simp [sameL, hnb], ?_⟩
    exact ((Below.refl w.heap.size w).alloc (Nat.le_refl _) _).alloc (by simp) _

set_option maxRecDepth 100000 in
set_option maxHeartbeats 2000000 in
theorem likeR_any (p q : Lt) (a d b c : Value) (w : World) (h1 : SIn w p.2.1.2 a) (h2 : SIn w p.2.2.2 d) (h3 : SIn w q.2.1.2 b) (h4 : SIn w q.2.2.2 c) :
    Calls Tryz.prog 48 #[litA p a d, litA q b c] w fun e w' => e = .returned (.bool (likeL p q)) ∧ Below w.heap.size w w' := by
  obtain ⟨pn, ⟨⟨pv, pi⟩, pk⟩, ⟨⟨pv', pi'⟩, pk'⟩⟩ := p
  obtain ⟨qn, ⟨⟨qv, qi⟩, qk⟩, ⟨⟨qv', qi'⟩, qk'⟩⟩ := q
  have H1 := hide h1
  have H2 := hide h2
  have H3 := hide h3
  have H4 := hide h4
  obtain ⟨a1, a3, _, _, rfl, -, -, -, -⟩ := h1
  obtain ⟨d1, d3, _, _, rfl, -, -, -, -⟩ := h2
  obtain ⟨b1, b3, _, _, rfl, -, -, -, -⟩ := h3
  obtain ⟨c1, c3, _, _, rfl, -, -, -, -⟩ := h4
  simp only at *
  go_enter Tryz.func48, Tryz.ntmps48
  go_wp2_with fail
  refine (sameR_any (pv, pi) pk (qv, qi) qk _ _ _ ((H1.out.alloc _).alloc _) ((H3.out.alloc _).alloc _)).mono ?_
  rintro e w1 ⟨rfl, hb1⟩
  obtain ⟨-, e1, e2, e3, e4, e5, e6, -, hB1, hl1⟩ := lit_cells hb1
  obtain ⟨-, f1, f2, f3, f4, f5, f6, -, hB2, hl2⟩ := lit_cells hB1
  simp only [World.size_alloc] at e1 e2 e3 e4 e5 e6
  clear hb1 hB1
  have H1' := hide (H1.out.below hB2)
  have H2' := hide (H2.out.below hB2)
  have H3' := hide (H3.out.below hB2)
  have H4' := hide (H4.out.below hB2)
  cases he : sameT (pv, pi) pk (qv, qi) qk
  · go_wp2_with fail
    refine (sameR_any (pv, pi) pk (qv', qi') qk' _ _ _ H1'.out H4'.out).mono ?_
    rintro e w2 ⟨rfl, hb2⟩
    have g4 := grow_cell hb2 _ _ e1
    have g5 := grow_cell hb2 _ _ e2
    have g6 := grow_cell hb2 _ _ e3
    have k4 := grow_cell hb2 _ _ f4
    have k5 := grow_cell hb2 _ _ f5
    have k6 := grow_cell hb2 _ _ f6
    clear e1 e2 e3 e4 e5 e6 f1 f2 f3 f4 f5 f6
    cases he2 : sameT (pv, pi) pk (qv', qi') qk'
    · go_wp2_with fail
      go_ret
      exact ⟨by simp [likeL, he, he2], below_step hB2 hb2⟩
    · go_wp2_with fail
      refine (sameR_any (pv', pi') pk' (qv, qi) qk _ _ _ (H2'.out.below hb2) (H3'.out.below hb2)).mono ?_
      rintro e w3 ⟨rfl, hb3⟩
      go_wp2_with fail
      go_ret
      exact ⟨by simp [likeL, he, he2], below_step (below_step hB2 hb2) hb3⟩
  · go_wp2_with fail
    refine (sameR_any (pv', pi') pk' (qv', qi') qk' _ _ _ H2'.out H4'.out).mono ?_
    rintro e w2 ⟨rfl, hb2⟩
    have g1 := grow_cell hb2 _ _ e1
    have g2 := grow_cell hb2 _ _ e2
    have g3 := grow_cell hb2 _ _ e3
    have g4 := grow_cell hb2 _ _ e4
    have g5 := grow_cell hb2 _ _ e5
    have g6 := grow_cell hb2 _ _ e6
    have k1 := grow_cell hb2 _ _ f1
    have k2 := grow_cell hb2 _ _ f2
    have k3 := grow_cell hb2 _ _ f3
    have k4 := grow_cell hb2 _ _ f4
    have k5 := grow_cell hb2 _ _ f5
    have k6 := grow_cell hb2 _ _ f6
    clear e1 e2 e3 e4 e5 e6 f1 f2 f3 f4 f5 f6
    cases he2 : sameT (pv', pi') pk' (qv', qi') qk'
    · go_wp2_with fail
      refine (sameR_any (pv, pi) pk (qv', qi') qk' _ _ _ (H1'.out.below hb2) (H4'.out.below hb2)).mono ?_
      rintro e w3 ⟨rfl, hb3⟩
      have g1' := grow_cell hb3 _ _ g1
      have g2' := grow_cell hb3 _ _ g2
      have g3' := grow_cell hb3 _ _ g3
      have k4' := grow_cell hb3 _ _ k4
      have k5' := grow_cell hb3 _ _ k5
      have k6' := grow_cell hb3 _ _ k6
      clear g1 g2 g3 g4 g5 g6 k1 k2 k3 k4 k5 k6
      cases he3 : sameT (pv, pi) pk (qv', qi') qk'
      · go_wp2_with fail
        go_ret
        exact ⟨by simp [likeL, he, he2, he3], below_step (below_step hB2 hb2) hb3⟩
      · go_wp2_with fail
        refine (sameR_any (pv', pi') pk' (qv, qi) qk _ _ _ ((H2'.out.below hb2).below hb3) ((H3'.out.below hb2).below hb3)).mono ?_
        rintro e w4 ⟨rfl, hb4⟩
        go_wp2_with fail
        go_ret
        exact ⟨by simp [likeL, he, he2, he3], below_step (below_step (below_step hB2 hb2) hb3) hb4⟩
    · go_wp2_with fail
      go_ret
      exact ⟨by simp [likeL, he, he2], below_step hB2 hb2⟩

set_option maxRecDepth 100000 in
set_option maxHeartbeats 2000000 in
theorem sameCR_any (k l : Cl) (a c : Value) (w : World) (hS1 : CIn w k a) (hS2 : CIn w l c) :
    Calls Tryz.prog 9 #[a, c] w fun e w' => e = .returned (.bool (sameC k l)) ∧ Below w.heap.size w w' := by
  obtain ⟨a1, c1, b1, o1, rfl, had1, hlc1, hcm1, hF1⟩ := hS1
  obtain ⟨a2, c2, b2, o2, rfl, had2, hlc2, hcm2, hF2⟩ := hS2
  unfold maxLen at hcm1 hcm2
  have HF1 := hide hF1
  have HF2 := hide hF2
  clear hF1 hF2
  by_cases hll : k.length = l.length
  · have hllb : ((k.length : Int) != (l.length : Int)) = false := by simp [hll]
    have Hll := hide hll
    have hll1 : l.length ≤ k.length := by omega
    have hll2 : k.length ≤ l.length := by omega
    clear hll
    go_enter Tryz.func9, Tryz.ntmps9
    go_wp2_with fail
    go_loopw [13] (fun i wr => ∃ j : Nat, j ≤ k.length ∧ i = .int .i64 j ∧ (∀ i, i < j → ∀ a b, k[i]? = some a → l[i]? = some b → sameL a b = true) ∧ Below w.heap.size w wr) (fun i _ => k.length - (intOf i).toNat)
    case atStart => exact ⟨0, Nat.zero_le _, rfl, fun i hi => by omega, Below.refl _ _⟩
    case round =>
      obtain ⟨j, hj, rfl, hok, hBr⟩ := hrel
      have Hok := hide hok
      clear hok
      by_cases hlt : j < k.length
      · have hlt' : (j : Int) < (k.length : Int) := by omega
        have hlt2 : (j : Int) < (l.length : Int) := by omega
        have hj0 : (0 : Int) ≤ (j : Int) := by omega
        obtain ⟨⟨yn, ⟨⟨yv, yi⟩, yk⟩, ⟨yv', yi'⟩, yk'⟩, hy⟩ : ∃ y, k[j]? = some y := ⟨k[j]'hlt, by simp⟩
        obtain ⟨⟨zn, ⟨⟨zv, zi⟩, zk⟩, ⟨zv', zi'⟩, zk'⟩, hz⟩ : ∃ y, l[j]? = some y := ⟨l[j]'(by omega), by simp⟩
        obtain ⟨p0, p1, p2, ⟨u3, p3, hA⟩, p4, p5, u6, p6, hD⟩ := (HF1.out.below hBr).at hy
        obtain ⟨q0, q1, q2, ⟨s3, q3, hB⟩, q4, q5, s6, q6, hC⟩ := (HF2.out.below hBr).at hz
        have ha1 : a1 = some ⟨b1, o1, none⟩ := had1 (by omega)
        have ha2 : a2 = some ⟨b2, o2, none⟩ := had2 (by omega)
        subst ha1 ha2
        have HA := hide hA
        have HB := hide hB
        have HC := hide hC
        have HD := hide hD
        obtain ⟨ya, yc, _, _, rfl, -, -, -, -⟩ := hA
        obtain ⟨za, zc, _, _, rfl, -, -, -, -⟩ := hB
        obtain ⟨ya', yc', _, _, rfl, -, -, -, -⟩ := hC
        obtain ⟨za', zc', _, _, rfl, -, -, -, -⟩ := hD
        have Hy := hide hy
        have Hz := hide hz
        clear hy hz had1 had2
        simp only at *
        have hcur : Below wr.heap.size wr wr.drew := (Below.refl _ _).drew
        go_upto_region 6 with fail
        go_cut [25] (fun s25 wx => s25 = .bool (!(sameL (yn, ((yv, yi), yk), ((yv', yi'), yk')) (zn, ((zv, zi), zk), ((zv', zi'), zk')))) ∧ Below wr.heap.size wr wx)
        case first =>
          go_region_held3 (fun w' => (w'.cell? ⟨b1, o1 + j * 7, none⟩ = some (.bool yn) ∧ w'.cell? ⟨b1, o1 + j * 7 + 1, none⟩ = some (.bool yv) ∧ w'.cell? ⟨b1, o1 + j * 7 + 2, none⟩ = some (.int .i64 yi) ∧ w'.cell? ⟨b1, o1 + j * 7 + 3, none⟩ = some (.slice ya (Fo.len yk) yc) ∧ w'.cell? ⟨b1, o1 + j * 7 + 4, none⟩ = some (.bool yv') ∧ w'.cell? ⟨b1, o1 + j * 7 + 5, none⟩ = some (.int .i64 yi') ∧ w'.cell? ⟨b1, o1 + j * 7 + 6, none⟩ = some (.slice za' (Fo.len yk') zc'))
              ∧ w'.cell? ⟨b2, o2 + j * 7, none⟩ = some (.bool zn) ∧ w'.cell? ⟨b2, o2 + j * 7 + 1, none⟩ = some (.bool zv) ∧ w'.cell? ⟨b2, o2 + j * 7 + 2, none⟩ = some (.int .i64 zi) ∧ w'.cell? ⟨b2, o2 + j * 7 + 3, none⟩ = some (.slice za (Fo.len zk) zc) ∧ w'.cell? ⟨b2, o2 + j * 7 + 4, none⟩ = some (.bool zv') ∧ w'.cell? ⟨b2, o2 + j * 7 + 5, none⟩ = some (.int .i64 zi') ∧ w'.cell? ⟨b2, o2 + j * 7 + 6, none⟩ = some (.slice ya' (Fo.len zk') yc'))
            (first
              | (with_reducible exact ⟨⟨grow_cell hcur _ _ p0, grow_cell hcur _ _ p1, grow_cell hcur _ _ p2, grow_cell hcur _ _ p3, grow_cell hcur _ _ p4, grow_cell hcur _ _ p5, grow_cell hcur _ _ p6⟩, grow_cell hcur _ _ q0, grow_cell hcur _ _ q1, grow_cell hcur _ _ q2, grow_cell hcur _ _ q3, grow_cell hcur _ _ q4, grow_cell hcur _ _ q5, grow_cell hcur _ _ q6⟩)
              | go_keep)
            (first
              | (go_at_call 21; with_reducible refine (sameLitR_any (yn, ((yv, yi), yk), ((yv', yi'), yk')) (zn, ((zv, zi), zk), ((zv', zi'), zk')) _ _ _ _ _ (HA.out.below hcur) (HD.out.below hcur) (HB.out.below hcur) (HC.out.below hcur)).mono ?_; rintro e wS ⟨rfl, hbS⟩; replace hcur := below_step hcur hbS))
          all_goals
            go_wp2_with fail
            go_meet
            case rel => exact ⟨rfl, hcur⟩
        case rest =>
          obtain ⟨rfl, hb2⟩ := hcut
          generalize wc = w2 at *
          have hB2 := below_step hBr hb2
          cases he : sameL (yn, ((yv, yi), yk), ((yv', yi'), yk')) (zn, ((zv, zi), zk), ((zv', zi'), zk'))
          · have Hf : Hid (sameC k l = false) := sameC_no Hy.out Hz.out he
            clear he
            go_wp2_with fail
            go_ret
            exact ⟨by rw [Hf.out]; rfl, hB2⟩
          · have Hok2 : Hid (∀ i, i < j + 1 → ∀ a b, k[i]? = some a → l[i]? = some b → sameL a b = true) := fun i hi a b ha hb => by
              by_cases e : i = j
              · subst e; rw [Hy.out] at ha; rw [Hz.out] at hb; cases ha; cases hb; exact he
              · exact Hok.out i (by omega) a b ha hb
            clear he
            go_wp2_with fail
            go_roundw
            case rel => exact ⟨j + 1, by omega, by go_num, Hok2.out, hB2⟩
            case measure => simp [intOf]; omega
      · have Hf : Hid (sameC k l = true) := sameC_yes Hll.out (fun i hi => Hok.out i (by omega))
        go_wp2_with fail
        go_ret
        exact ⟨by rw [Hf.out]; rfl, hBr⟩
  · have hllb : ((k.length : Int) != (l.length : Int)) = true := by simp; omega
    have Hf : Hid (sameC k l = false) := sameC_len hll
    go_enter Tryz.func9, Tryz.ntmps9
    go_wp2_with fail
    go_ret
    exact ⟨by rw [Hf.out]; rfl, Below.refl _ _⟩

end Go.Proofs.YtfckelbdageenabGreatDoor

namespace Go.Proofs.YtfckelbdageenabGreatDoor
open Go.RowKit Go.Deep Go.ChangeShapes Go.WideShapes

set_option maxRecDepth 100000 in
set_option maxHeartbeats 1000000 in
theorem wrongCR_any (s : List Int) (sv : Value) (k : Cl) (a : Value) (w : World) (hN : NIn w s sv) (hS : CIn w k a) :
    Calls Tryz.prog 11 #[sv, a] w fun e w' => e = .returned (.int .i64 (wrongC s k)) ∧ Below w.heap.size w w' := by
  obtain ⟨a1, c1, b1, o1, rfl, had1, hlc1, hcm1, hF1⟩ := hS
  unfold maxLen at hcm1
  have HF1 := hide hF1
  have HN := hide hN
  obtain ⟨sa, sc, _, _, rfl, -, -, -, -⟩ := hN
  clear hF1
  by_cases h4 : 4 < k.length
  · have h4' : (4 : Int) < (k.length : Int) := by omega
    have Hf : Hid (wrongC s k = 5) := if_pos h4
    go_enter Tryz.func11, Tryz.ntmps11
    go_wp2_with fail
    go_ret
    exact ⟨by rw [Hf.out]; rfl, Below.refl _ _⟩
  · have h4' : ¬ (4 : Int) < (k.length : Int) := by omega
    have Hw : Hid (wrongC s k = wrongLs s k) := if_neg h4
    go_enter Tryz.func11, Tryz.ntmps11
    go_wp2_with fail
    go_loopw [14] (fun i wr => ∃ j : Nat, j ≤ k.length ∧ i = .int .i64 j ∧ (∀ i, i < j → ∀ a, k[i]? = some a → wrongL s a = 0) ∧ Below w.heap.size w wr) (fun i _ => k.length - (intOf i).toNat)
    case atStart => exact ⟨0, Nat.zero_le _, rfl, fun i hi => by omega, Below.refl _ _⟩
    case round =>
      obtain ⟨j, hj, rfl, hok, hBr⟩ := hrel
      have Hok := hide hok
      clear hok
      by_cases hlt : j < k.length
      · have hlt' : (j : Int) < (k.length : Int) := by omega
        obtain ⟨⟨yn, ⟨⟨yv, yi⟩, yk⟩, ⟨yv', yi'⟩, yk'⟩, hy⟩ : ∃ y, k[j]? = some y := ⟨k[j]'hlt, by simp⟩
        obtain ⟨p0, p1, p2, ⟨u3, p3, hA⟩, p4, p5, u6, p6, hD⟩ := (HF1.out.below hBr).at hy
        have ha1 : a1 = some ⟨b1, o1, none⟩ := had1 (by omega)
        subst ha1
        have HA := hide hA
        have HD := hide hD
        obtain ⟨_, _, _, _, rfl, -, -, -, -⟩ := hA
        obtain ⟨_, _, _, _, rfl, -, -, -, -⟩ := hD
        have Hy := hide hy
        clear hy had1
        simp only at *
        go_wp2_with fail
        refine (wrongR_any s _ (yv, yi) yk _ _ ((HN.out.below hBr).alloc _) (HA.out.alloc _)).mono ?_
        rintro e w2 ⟨rfl, hb2⟩
        obtain ⟨-, -, -, -, e4, e5, e6, -, hb2', -⟩ := lit_cells hb2
        have hB2 := below_step hBr hb2'
        have HD2 := hide (HD.out.below hb2')
        have HN2 := hide (HN.out.below hB2)
        clear hb2
        by_cases he : wrongF s (yv, yi) yk = 0
        · have heb : (wrongF s (yv, yi) yk != 0) = false := by simp [he]
          have He := hide he
          clear he
          generalize wrongF s (yv, yi) yk = e1 at heb
          go_wp2_with fail
          refine (wrongR_any s _ (yv', yi') yk' _ _ HN2.out HD2.out).mono ?_
          rintro e w3 ⟨rfl, hb3⟩
          have hB3 := below_step hB2 hb3
          by_cases he : wrongF s (yv', yi') yk' = 0
          · have heb2 : (wrongF s (yv', yi') yk' != 0) = false := by simp [he]
            have He2 := hide he
            clear he
            generalize wrongF s (yv', yi') yk' = e2 at heb2
            go_wp2_with fail
            go_roundw
            case rel => exact ⟨j + 1, by omega, by go_num, fun i hi a ha => by
              by_cases e : i = j
              · subst e; rw [Hy.out] at ha; cases ha; exact wrongL_iff.2 ⟨He.out, He2.out⟩
              · exact Hok.out i (by omega) a ha, hB3⟩
            case measure => simp [intOf]; omega
          · have heb2 : (wrongF s (yv', yi') yk' != 0) = true := by simp [he]
            have Hf : Hid (wrongF s (yv', yi') yk' = wrongC s k) := by
              have hl : wrongL s (yn, ((yv, yi), yk), ((yv', yi'), yk')) = wrongF s (yv', yi') yk' := by simp only [wrongL]; rw [if_neg (by simp [He.out])]
              rw [Hid, Hw.out, wrongLs_at Hok.out Hy.out (by rw [hl]; exact he), hl]
            clear he
            generalize wrongF s (yv', yi') yk' = e2 at heb2 Hf
            go_wp2_with fail
            go_ret
            exact ⟨by rw [Hf.out]; rfl, hB3⟩
        · have heb : (wrongF s (yv, yi) yk != 0) = true := by simp [he]
          have Hf : Hid (wrongF s (yv, yi) yk = wrongC s k) := by
            have hl : wrongL s (yn, ((yv, yi), yk), ((yv', yi'), yk')) = wrongF s (yv, yi) yk := by simp only [wrongL]; rw [if_pos he]
            rw [Hid, Hw.out, wrongLs_at Hok.out Hy.out (by rw [hl]; exact he), hl]
          clear he
          generalize wrongF s (yv, yi) yk = e1 at heb Hf
          go_wp2_with fail
          go_ret
          exact ⟨by rw [Hf.out]; rfl, hB2⟩
      · have Hf : Hid (wrongC s k = 0) := by
          rw [Hid, Hw.out, wrongLs_iff]
          intro l hl
          obtain ⟨i, hi, e⟩ := List.mem_iff_getElem.1 hl
          exact Hok.out i (by omega) l (by rw [List.getElem?_eq_getElem hi, e])
        go_wp2_with fail
        go_ret
        exact ⟨by rw [Hf.out]; rfl, hBr⟩

end Go.Proofs.YtfckelbdageenabGreatDoor

namespace Go.Proofs.YtfckelbdageenabGreatDoor
open Go.RowKit Go.Deep Go.ChangeShapes Go.WideShapes

/-- How long the table of a symbol with so many arguments is. -/
def mlen (z : Int) (n : Int) : Int := if n = 0 then 1 else if n = 1 then z else z * z
end Go.Proofs.YtfckelbdageenabGreatDoor

namespace Go.Proofs.YtfckelbdageenabGreatDoor
open Go.RowKit Go.Deep Go.ChangeShapes Go.WideShapes
attribute [local go_sem ↓] Go.wp_at_zero Go.wp_at_succ

/-- The tables Z lie in w, as the value v says. -/
def TbIn (w : World) (Z : List (List Int)) (v : Value) : Prop :=
  ∃ (a : Option Addr) (c b o : Nat), v = .slice a Z.length c ∧ (0 < Z.length → a = some ⟨b, o, none⟩) ∧ Z.length ≤ c ∧ c ≤ maxLen ∧ ∀ i, i < Z.length → ∃ pv, w.cell? ⟨b, o + i, none⟩ = some pv ∧ NIn w (Z.getD i []) pv
theorem TbIn.below {w w' : World} (hb : Below w.heap.size w w') {Z : List (List Int)} {v : Value} (h : TbIn w Z v) : TbIn w' Z v := by
  obtain ⟨a, c, b, o, h1, h2, h3, h4, h5⟩ := h
  refine ⟨a, c, b, o, h1, h2, h3, h4, fun i hi => ?_⟩
  obtain ⟨pv, k1, k2⟩ := h5 i hi
  exact ⟨pv, grow_cell hb _ _ k1, k2.below hb⟩
theorem TbIn.alloc {w : World} {Z : List (List Int)} {v : Value} (h : TbIn w Z v) (ob : Obj) : TbIn (w.alloc ob) Z v := h.below (below_alloc w ob)
end Go.Proofs.YtfckelbdageenabGreatDoor

namespace Go.Proofs.YtfckelbdageenabGreatDoor
open Go.RowKit

theorem countP_less {α : Type} {f g : α → Bool} {i : α} : ∀ {l : List α}, (∀ x, g x = true → f x = true) → i ∈ l → f i = true → g i = false → l.countP g < l.countP f
  | [], _, h, _, _ => by cases h
  | y :: r, hfg, h, hf, hg => by
    have hle : r.countP g ≤ r.countP f := List.countP_mono_left (fun x _ hx => hfg x hx)
    rw [List.countP_cons, List.countP_cons]
    rcases List.mem_cons.1 h with rfl | h
    · rw [hf, hg]; simp; omega
    · have := countP_less (l := r) hfg h hf hg
      by_cases hy : g y = true
      · rw [hy, hfg y hy]; simp; omega
      · have : g y = false := by simpa using hy
        rw [this]
        simp only [Bool.false_eq_true, if_false]
        split <;> omega
theorem getD_set (l : Array Bool) (i j : Nat) (d : Bool) (hi : i < l.size) : (l.setIfInBounds i true).getD j d = (j == i || l.getD j d) := by
  by_cases e : j = i
  · subst e
    simp [Array.getD_eq_getD_getElem?, hi]
  · have e' : (j == i) = false := by simpa using e
    rw [e']
    simp only [Array.getD_eq_getD_getElem?, Array.getElem?_setIfInBounds, Bool.false_or]
    rw [if_neg (fun h => e h.symm)]
theorem getD_in (l : Array Bool) (j : Nat) (hj : j < l.size) (d d' : Bool) : l.getD j d = l.getD j d' := by
  simp [Array.getD_eq_getD_getElem?, hj]

section
variable {P : Program} {ops : Array Oper} {Q : Exit → Act → World → Prop} {md : Region.Mode}

/-- No edge leads forward. -/
def Region.back (ops : Array Oper) : Bool := (List.range ops.size).all fun i => ((ops[i]?).map (·.after.all fun e => decide (e.on < i))).getD true

theorem all_listed {listed : Array Bool} (hs : listed.size = ops.size) (hb : Region.back ops = true) (hr : Region.ready md ops listed = []) : ∀ i, i < ops.size → listed.getD i false = true := by
  intro i
  induction i using Nat.strongRecOn with
  | _ i ih =>
    intro hi
    by_cases h : listed.getD i false = true
    · exact h
    · exfalso
      have h0 : listed.getD i true = false := by
        rw [getD_in listed i (by omega) true false]
        simpa using h
      have ho : ops[i]? = some ops[i] := by simp [hi]
      have hm : i ∈ Region.ready md ops listed := by
        unfold Region.ready
        rw [List.mem_filter]
        refine ⟨List.mem_range.2 hi, ?_⟩
        rw [h0, ho]
        simp only [Bool.not_false, Bool.true_and, Option.map_some, Option.getD_some]
        rw [Array.all_eq_true']
        intro e he
        have h1 := List.all_eq_true.1 hb i (List.mem_range.2 hi)
        rw [ho] at h1
        simp only [Option.map_some, Option.getD_some] at h1
        rw [Array.all_eq_true'] at h1
        have h2 := of_decide_eq_true (h1 e he)
        rw [ih e.on h2 (by omega)]
        simp
      rw [hr] at hm
      cases hm

theorem wpAny_inv {Inv : (Nat → Bool) → Act → World → Prop} (hb : Region.back ops = true)
    (hstep : ∀ (D : Nat → Bool) (a : Act) (w : World) (i : Nat) (o : Oper), i < ops.size → Inv D a w → D i = false → ops[i]? = some o → (∀ e ∈ o.after, Region.binds md e = true → D e.on = true) → wpOp P ops Q i (Inv fun j => j == i || D j) a w)
    (hdone : ∀ (D : Nat → Bool) (a : Act) (w : World), Inv D a w → (∀ i, i < ops.size → D i = true) → Q .normal a w) :
    ∀ (fuel : Nat) (listed : Array Bool) (a : Act) (w : World), listed.size = ops.size → (List.range ops.size).countP (fun i => !listed.getD i false) ≤ fuel → Inv (fun j => listed.getD j false) a w → wpAny P md ops Q fuel listed a w := by
  intro fuel
  induction fuel with
  | zero =>
    intro listed a w hs hc hI
    have hall : ∀ i, i < ops.size → listed.getD i false = true := fun i hi => by
      have h0 : (List.range ops.size).countP (fun i => !listed.getD i false) = 0 := by omega
      rw [List.countP_eq_zero] at h0
      simpa using h0 i (List.mem_range.2 hi)
    refine ⟨?_, hdone _ a w hI hall⟩
    unfold Region.ready
    rw [List.filter_eq_nil_iff]
    intro i hi
    have hi' := List.mem_range.1 hi
    rw [getD_in listed i (by omega) true false, hall i hi']
    simp
  | succ fuel ih =>
    intro listed a w hs hc hI
    refine ⟨fun hr => hdone _ a w hI (all_listed hs hb hr), fun i hi => ?_⟩
    unfold Region.ready at hi
    rw [List.mem_filter] at hi
    obtain ⟨hi1, hi2⟩ := hi
    have hi' := List.mem_range.1 hi1
    have ho : ops[i]? = some ops[i] := by simp [hi']
    rw [ho] at hi2
    simp only [Option.map_some, Option.getD_some, Bool.and_eq_true, Bool.not_eq_true'] at hi2
    obtain ⟨h1, h2⟩ := hi2
    have h1' : listed.getD i false = false := by rw [getD_in listed i (by omega) false true]; exact h1
    have := hstep _ a w i _ hi' hI h1' ho (fun e he hbd => by
      rw [Array.all_eq_true'] at h2
      have := h2 e he
      rw [hbd] at this
      simpa using this)
    refine wpOp_mono (fun a' w' h => ?_) this
    refine ih _ a' w' (by simp [hs]) ?_ ?_
    · have hlt := countP_less (i := i) (f := fun j => !listed.getD j false) (g := fun j => !(listed.setIfInBounds i true).getD j false) (l := List.range ops.size) (fun x hx => by
        rw [getD_set _ _ _ _ (by omega)] at hx
        simp at hx
        simp [hx.2]) hi1 (by simp [h1']) (by rw [getD_set _ _ _ _ (by omega)]; simp)
      omega
    · have e : (fun j => (listed.setIfInBounds i true).getD j false) = fun j => j == i || listed.getD j false := by
        funext j
        exact getD_set _ _ _ _ (by omega)
      rw [e]
      exact h

/-- A region that draws its order: what is known stays known whatever comes next. -/
theorem region_inv {id : Nat} {a : Act} {w : World} (Inv : (Nat → Bool) → Act → World → Prop) (hm : P.follows .mixedOrders = true) (hb : Region.back ops = true)
    (hstep : ∀ (D : Nat → Bool) (a : Act) (w : World) (i : Nat) (o : Oper), i < ops.size → Inv D a w → D i = false → ops[i]? = some o → (∀ e ∈ o.after, Region.binds .any e = true → D e.on = true) → wpOp P ops Q i (Inv fun j => j == i || D j) a w)
    (hdone : ∀ (D : Nat → Bool) (a : Act) (w : World), Inv D a w → (∀ i, i < ops.size → D i = true) → Q .normal a w)
    (h0 : Inv (fun _ => false) a w.drew) : (Code.region id ops true).wp P Q a w := by
  refine wp_region_any hm ?_
  refine wpAny_inv hb hstep hdone _ _ a _ (by simp) ?_ ?_
  · exact Nat.le_trans List.countP_le_length (by simp)
  · have e : (fun j => (Array.replicate ops.size false).getD j false) = fun _ => false := by
      funext j
      simp only [Array.getD_eq_getD_getElem?, Array.getElem?_replicate]
      split <;> rfl
    rw [e]
    exact h0

end

end Go.Proofs.YtfckelbdageenabGreatDoor
