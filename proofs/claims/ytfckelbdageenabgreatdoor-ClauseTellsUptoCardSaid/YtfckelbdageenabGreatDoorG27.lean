/- Clauses written, and read again, told alone. -/
import Derived.Test.YtfckelbdageenabGreatDoorG26
import Derived.Test.YtfckelbdageenabGreatDoorG19
import Derived.Test.YtfckelbdageenabGreatDoorG14
import Derived.Test.YtfckelbdageenabGreatDoorG21
import Derived.Test.YtfckelbdageenabGreatDoorG22
import Derived.Test.YtfckelbdageenabGreatDoorG23
namespace Go.Proofs.YtfckelbdageenabGreatDoor
open Go.RowKit Go.Deep Go.ChangeShapes Go.WideShapes

theorem plain_right {s : List Int} (h6 : s.length ≤ 6) (hs : s.all okNum = true) {x : Bool × Int} {k : Fo} (h : wrongF s x k = 0) : Plain (textT x k) := by
  obtain ⟨_, _, _, _, hw⟩ := right_of hs h
  exact plain_text h6 x k _ hw
theorem lit_text {s : List Int} (hs : wsig s = 0) {l : Lt} (h : wrongL s l = 0) (h1 : Fo.norm l.2.1.2 = l.2.1.2) (h2 : Fo.norm l.2.2.2 = l.2.2.2) : litP s (textL l) = (0, l) := by
  obtain ⟨ok, h6, _⟩ := wsig_ok hs
  obtain ⟨w1, w2⟩ := wrongL_iff.1 h
  obtain ⟨neg, ⟨x, k⟩, ⟨y, m⟩⟩ := l
  simp only at *
  have pl := plain_right h6 ok w1
  obtain ⟨q, hq⟩ : ∃ q, q = textT x k ++ (if neg then [33] else []) := ⟨_, rfl⟩
  have hT : textL (neg, (x, k), (y, m)) = q ++ 61 :: textT y m := by
    rw [hq]
    cases neg <;> simp [textL]
  have no : ∀ i, i < q.length → (q ++ 61 :: textT y m)[i]? ≠ some 61 := fun i hi e => by
    rw [List.getElem?_append_left hi] at e
    have hm := List.mem_of_getElem? e
    rw [hq] at hm
    rcases List.mem_append.1 hm with hm | hm
    · exact (pl _ hm).2.2.1 rfl
    · cases neg <;> simp at hm
  have hk := (index_one (p := q ++ 61 :: textT y m) (k := q.length) (by simp) no).2 (by simp)
  have hc := cut_hit hk
  have e1 : (q ++ 61 :: textT y m).take q.length = q := by simp
  have e2 : (q ++ 61 :: textT y m).drop (q.length + 1) = textT y m := by simp
  rw [e1, e2] at hc
  have hsuf : Lib.hasSuffix q [33] = neg := by
    rw [suffix_is, hq]
    cases neg with
    | true => simp
    | false =>
      simp only [Bool.false_eq_true, if_false, List.append_nil, decide_eq_false_iff_not]
      rintro ⟨h0, h⟩
      exact (pl _ (List.mem_of_getElem? h)).2.1 rfl
  have htrim : Lib.trimSuffix q [33] = textT x k := by
    rw [trim_is, hsuf, hq]
    cases neg <;> simp
  rw [hT, litP, hc]
  simp only [htrim, hsuf]
  rw [if_neg (by simp), parse_text hs w1, parse_text hs w2, if_neg (by simp), if_neg (by simp), h1, h2]
theorem no32_index {x : List UInt8} (hx : ∀ b ∈ x, b ≠ 32) : Lib.index x sepL = -1 ∧ ∀ rest, Lib.index (x ++ (sepL ++ rest)) sepL = (x.length : Int) := by
  have occ : ∀ (y : List UInt8) (j : Nat), Lib.occAt y sepL j = true → y[j]? = some 32 := fun y j h => by
    unfold Lib.occAt at h
    cases hd : y.drop j with
    | nil => rw [hd] at h; simp [List.isPrefixOf] at h
    | cons b r =>
      rw [hd] at h
      simp only [List.isPrefixOf, Bool.and_eq_true, beq_iff_eq] at h
      have h2 : (y.drop j)[0]? = some b := by rw [hd]; rfl
      rw [List.getElem?_drop] at h2
      rw [← h.1] at h2
      simpa using h2
  constructor
  · rcases Lib.index_spec x sepL with ⟨h, _⟩ | ⟨i, h1, h2, h3, _⟩
    · exact h
    · exact absurd rfl (hx 32 (List.mem_of_getElem? (occ x i h3)))
  · intro rest
    refine Lib.index_hit (fun j hj => ?_) (by simp) (by simp [Lib.occAt, List.isPrefixOf])
    cases e : Lib.occAt (x ++ (sepL ++ rest)) sepL j with
    | false => rfl
    | true =>
      have := occ _ _ e
      rw [List.getElem?_append_left hj] at this
      exact absurd rfl (hx 32 (List.mem_of_getElem? this))
theorem full_join : ∀ {r : List (List UInt8)}, r ≠ [] → (∀ x ∈ r, ∀ b ∈ x, b ≠ 32) → full (Lib.join r sepL) = r
  | [], h, _ => absurd rfl h
  | [x], _, hx => by rw [Lib.join_one, full_miss (no32_index (hx x (by simp))).1]
  | x :: y :: r, _, hx => by
    have hi := (no32_index (hx x (by simp))).2 (Lib.join (y :: r) sepL)
    rw [join_cons2, full_hit hi (by simp)]
    have e1 : (x ++ (sepL ++ Lib.join (y :: r) sepL)).take x.length = x := by simp
    have e2 : (x ++ (sepL ++ Lib.join (y :: r) sepL)).drop (x.length + 3) = Lib.join (y :: r) sepL := by
      rw [← List.drop_drop, List.drop_left]; rfl
    rw [e1, e2, full_join (by simp) (fun z hz => hx z (by simp [List.mem_cons.1 hz]))]
theorem textL_no {s : List Int} (h6 : s.length ≤ 6) (hs : s.all okNum = true) {l : Lt} (h : wrongL s l = 0) : ∀ b ∈ textL l, b ≠ 32 := fun b hb => by
  obtain ⟨w1, w2⟩ := wrongL_iff.1 h
  simp only [textL, List.mem_append] at hb
  rcases hb with hb | hb | hb
  · exact (plain_right h6 hs w1 b hb).1
  · intro e; subst e; split at hb <;> simp at hb
  · exact (plain_right h6 hs w2 b hb).1
theorem textL_has (l : Lt) : (61 : UInt8) ∈ textL l := by
  simp only [textL, List.mem_append]
  refine .inr (.inl ?_)
  split <;> simp
theorem join_mem {b : UInt8} : ∀ {r : List (List UInt8)} {x : List UInt8}, x ∈ r → b ∈ x → b ∈ Lib.join r sepL
  | [y], x, hx, hb => by simp at hx; subst hx; rw [Lib.join_one]; exact hb
  | y :: z :: r, x, hx, hb => by
    rw [join_cons2, List.mem_append]
    rcases List.mem_cons.1 hx with rfl | hx
    · exact .inl hb
    · exact .inr (List.mem_append.2 (.inr (join_mem hx hb)))
theorem parse_textC {s : List Int} (hs : wsig s = 0) {c : Cl} (h : wrongC s c = 0) (hn : ∀ l ∈ c, Fo.norm l.2.1.2 = l.2.1.2 ∧ Fo.norm l.2.2.2 = l.2.2.2) : parseC s (textC c) = (0, c) := by
  obtain ⟨ok, h6, _⟩ := wsig_ok hs
  obtain ⟨h4, hw⟩ := wrongC_iff.1 h
  unfold parseC
  rw [if_neg (by simp [hs])]
  by_cases h0 : c.length = 0
  · have : c = [] := List.length_eq_zero_iff.1 h0
    subst this
    rfl
  · have e : textC c = Lib.join (c.map textL) sepL := by simp [textC, h0]
    have hne : c ≠ [] := fun e => h0 (by rw [e]; rfl)
    obtain ⟨l0, r0, hc0⟩ : ∃ l r, c = l :: r := by
      cases c with
      | nil => exact absurd rfl hne
      | cons l r => exact ⟨l, r, rfl⟩
    rw [if_neg (by
      intro e2
      have : (61 : UInt8) ∈ textC c := by rw [e]; exact join_mem (x := textL l0) (by rw [hc0]; simp) (textL_has l0)
      rw [e2] at this
      simp at this), e, full_join (by simpa using hne) (fun x hx => by
        obtain ⟨l, hl, rfl⟩ := List.mem_map.1 hx
        exact textL_no h6 ok (wrongL_iff.2 (hw l hl)))]
    unfold partsC
    have hl0 : litsP s (c.map textL) = 0 := litsP_iff.2 fun p hp => by
      obtain ⟨l, hl, rfl⟩ := List.mem_map.1 hp
      rw [lit_text hs (wrongL_iff.2 (hw l hl)) (hn l hl).1 (hn l hl).2]
    rw [if_neg (by rw [List.length_map]; omega), if_neg (by simp [hl0])]
    rw [List.map_map]
    congr 1
    conv => rhs; rw [← List.map_id c]
    refine List.map_congr_left fun l hl => ?_
    simp only [Function.comp, id]
    rw [lit_text hs (wrongL_iff.2 (hw l hl)) (hn l hl).1 (hn l hl).2]
theorem lit_back {s : List Int} {p : List UInt8} (h : (litP s p).1 = 0) : textL (litP s p).2 = p ∧ wrongL s (litP s p).2 = 0 := by
  rcases Lib.index_spec p [61] with ⟨h1, _⟩ | ⟨k, h1, h2, h3, _⟩
  · rw [litP, cut_miss h1] at h
    simp at h
  · have hc := cut_hit h1
    have hk : p[k]? = some 61 := by
      unfold Lib.occAt at h3
      cases hd : p.drop k with
      | nil => rw [hd] at h3; simp [List.isPrefixOf] at h3
      | cons b r =>
        rw [hd] at h3
        simp only [List.isPrefixOf, Bool.and_true, beq_iff_eq] at h3
        have h2 : (p.drop k)[0]? = some b := by rw [hd]; rfl
        rw [List.getElem?_drop] at h2
        rw [← h3] at h2
        simpa using h2
    have hp : p = p.take k ++ 61 :: p.drop (k + 1) := by
      have hlt : k < p.length := (List.getElem?_eq_some_iff.1 hk).1
      conv => lhs; rw [← List.take_append_drop k p]
      congr 1
      rw [List.drop_eq_getElem_cons hlt]
      congr 1
      rw [List.getElem?_eq_getElem hlt] at hk
      exact Option.some.inj hk
    have hL : litP s p = if (parseT s (Lib.trimSuffix (p.take k) [33])).1 ≠ 0 then ((parseT s (Lib.trimSuffix (p.take k) [33])).1, zeroL) else
        if (parseT s (p.drop (k + 1))).1 ≠ 0 then ((parseT s (p.drop (k + 1))).1, zeroL) else
        (0, (Lib.hasSuffix (p.take k) [33], (parseT s (Lib.trimSuffix (p.take k) [33])).2, (parseT s (p.drop (k + 1))).2)) := by
      rw [litP, hc, if_neg (by simp)]
    by_cases e1 : (parseT s (Lib.trimSuffix (p.take k) [33])).1 = 0
    · by_cases e2 : (parseT s (p.drop (k + 1))).1 = 0
      · rw [if_neg (by simp [e1]), if_neg (by simp [e2])] at hL
        obtain ⟨b1, b2, _, _⟩ := parse_back e1
        obtain ⟨c1, c2, _, _⟩ := parse_back e2
        rw [hL]
        refine ⟨?_, wrongL_iff.2 ⟨b2, c2⟩⟩
        simp only [textL, b1, c1]
        have hq : Lib.trimSuffix (p.take k) [33] ++ (if Lib.hasSuffix (p.take k) [33] = true then [33] else []) = p.take k := by
          rw [trim_is]
          by_cases e : Lib.hasSuffix (p.take k) [33] = true
          · rw [if_pos e, if_pos e]
            unfold Lib.hasSuffix at e
            rw [List.isSuffixOf_iff_suffix] at e
            obtain ⟨t, ht⟩ := e
            rw [← ht]
            simp
          · rw [if_neg e, if_neg e, List.append_nil]
        conv => rhs; rw [hp, ← hq]
        by_cases e : Lib.hasSuffix (p.take k) [33] = true
        · simp [e]
        · simp [e]
      · rw [if_neg (by simp [e1]), if_pos e2] at hL
        rw [hL] at h; exact absurd h e2
    · rw [if_pos e1] at hL
      rw [hL] at h; exact absurd h e1
theorem parse_backC {s : List Int} {l : List UInt8} (h : (parseC s l).1 = 0) : wsig s = 0 ∧ textC (parseC s l).2 = l ∧ wrongC s (parseC s l).2 = 0 := by
  unfold parseC at h ⊢
  by_cases hs : wsig s = 0
  · refine ⟨hs, ?_⟩
    rw [if_neg (by simp [hs])] at h ⊢
    by_cases h2 : l = [91, 93]
    · rw [if_pos h2]
      exact ⟨h2.symm, rfl⟩
    · rw [if_neg h2] at h ⊢
      unfold partsC at h ⊢
      by_cases h4 : 4 < (full l).length
      · rw [if_pos h4] at h; simp at h
      · rw [if_neg h4] at h ⊢
        by_cases h5 : litsP s (full l) = 0
        · rw [if_neg (by simp [h5])]
          have hall := litsP_iff.1 h5
          constructor
          · have hp := full_pos l
            unfold textC
            rw [if_neg (by simp; intro e; rw [e] at hp; simp at hp), List.map_map]
            have : (full l).map (textL ∘ fun p => (litP s p).2) = full l := by
              conv => rhs; rw [← List.map_id (full l)]
              exact List.map_congr_left fun p hp => (lit_back (hall p hp)).1
            rw [this]
            exact join_full _ l (Nat.le_refl _)
          · rw [wrongC_iff]
            refine ⟨by simp; omega, fun x hx => ?_⟩
            obtain ⟨p, hp, rfl⟩ := List.mem_map.1 hx
            exact wrongL_iff.1 (lit_back (hall p hp)).2
        · rw [if_pos h5] at h; exact absurd h h5
  · rw [if_pos hs] at h; exact absurd h hs

end Go.Proofs.YtfckelbdageenabGreatDoor

/- What is wrong with a clause. -/
namespace Go.Proofs.YtfckelbdageenabGreatDoor
open Go.RowKit Go.Deep Go.ChangeShapes Go.WideShapes

set_option maxRecDepth 100000 in
set_option maxHeartbeats 1000000 in
theorem wrongC_any (s : List Int) (sv : Value) (k : Cl) (a : Value) (w : World) (hN : NIn w s sv) (hS : CIn w k a) :
    Calls Tryz.prog 10 #[sv, a] w fun e w' => e = .returned (.int .i64 (wrongC s k)) ∧ Below w.heap.size w w' := by
  obtain ⟨a1, c1, b1, o1, rfl, had1, hlc1, hcm1, hF1⟩ := hS
  unfold maxLen at hcm1
  have HF1 := hide hF1
  have HN := hide hN
  obtain ⟨sa, sc, _, _, rfl, -, -, -, -⟩ := hN
  clear hF1
  by_cases h4 : 4 < k.length
  · have h4' : (4 : Int) < (k.length : Int) := by omega
    have Hf : Hid (wrongC s k = 5) := if_pos h4
    go_enter Tryz.func10, Tryz.ntmps10
    go_wp2_with fail
    go_ret
    exact ⟨by rw [Hf.out]; rfl, Below.refl _ _⟩
  · have h4' : ¬ (4 : Int) < (k.length : Int) := by omega
    have Hw : Hid (wrongC s k = wrongLs s k) := if_neg h4
    go_enter Tryz.func10, Tryz.ntmps10
    go_wp2_with fail
    go_loopw [14] (fun i wr => ∃ j : Nat, j ≤ k.length ∧ i = .int .i64 j ∧ (∀ i, i < j → ∀ a, k[i]? = some a → wrongL s a = 0) ∧ Below w.heap.size w wr) (fun i _ => k.length - (intOf i).toNat)
    case atStart => exact ⟨0, Nat.zero_le _, rfl, fun i hi => by omega, Below.refl _ _⟩
    case round =>
      obtain ⟨j, hj, rfl, hok, hBr⟩ := hrel
      have Hok := hide hok
      clear hok
      by_cases hlt : j < k.length
      · have hlt' : (j : Int) < (k.length : Int) := by omega
        obtain ⟨⟨yn, ⟨⟨yv, yi⟩, yk⟩, ⟨yv', yi'⟩, yk'⟩, hy⟩ : ∃ y, k[j]? = some y := ⟨k[j]'hlt, by simp⟩
        obtain ⟨p0, p1, p2, ⟨u3, p3, hA⟩, p4, p5, u6, p6, hD⟩ := (HF1.out.below hBr).at hy
        have ha1 : a1 = some ⟨b1, o1, none⟩ := had1 (by omega)
        subst ha1
        have HA := hide hA
        have HD := hide hD
        obtain ⟨_, _, _, _, rfl, -, -, -, -⟩ := hA
        obtain ⟨_, _, _, _, rfl, -, -, -, -⟩ := hD
        have Hy := hide hy
        clear hy had1
        simp only at *
        go_wp2_with fail
        refine (wrong_any s _ (yv, yi) yk _ _ ((HN.out.below hBr).alloc _) (HA.out.alloc _)).mono ?_
        rintro e w2 ⟨rfl, hb2⟩
        obtain ⟨-, -, -, -, e4, e5, e6, -, hb2', -⟩ := lit_cells hb2
        have hB2 := below_step hBr hb2'
        have HD2 := hide (HD.out.below hb2')
        have HN2 := hide (HN.out.below hB2)
        clear hb2
        by_cases he : wrongF s (yv, yi) yk = 0
        · have heb : (wrongF s (yv, yi) yk != 0) = false := by simp [he]
          have He := hide he
          clear he
          generalize wrongF s (yv, yi) yk = e1 at heb
          go_wp2_with fail
          refine (wrong_any s _ (yv', yi') yk' _ _ HN2.out HD2.out).mono ?_
          rintro e w3 ⟨rfl, hb3⟩
          have hB3 := below_step hB2 hb3
          by_cases he : wrongF s (yv', yi') yk' = 0
          · have heb2 : (wrongF s (yv', yi') yk' != 0) = false := by simp [he]
            have He2 := hide he
            clear he
            generalize wrongF s (yv', yi') yk' = e2 at heb2
            go_wp2_with fail
            go_roundw
            case rel => exact ⟨j + 1, by omega, by go_num, fun i hi a ha => by
              by_cases e : i = j
              · subst e; rw [Hy.out] at ha; cases ha; exact wrongL_iff.2 ⟨He.out, He2.out⟩
              · exact Hok.out i (by omega) a ha, hB3⟩
            case measure => simp [intOf]; omega
          · have heb2 : (wrongF s (yv', yi') yk' != 0) = true := by simp [he]
            have Hf : Hid (wrongF s (yv', yi') yk' = wrongC s k) := by
              have hl : wrongL s (yn, ((yv, yi), yk), ((yv', yi'), yk')) = wrongF s (yv', yi') yk' := by simp only [wrongL]; rw [if_neg (by simp [He.out])]
              rw [Hid, Hw.out, wrongLs_at Hok.out Hy.out (by rw [hl]; exact he), hl]
            clear he
            generalize wrongF s (yv', yi') yk' = e2 at heb2 Hf
            go_wp2_with fail
            go_ret
            exact ⟨by rw [Hf.out]; rfl, hB3⟩
        · have heb : (wrongF s (yv, yi) yk != 0) = true := by simp [he]
          have Hf : Hid (wrongF s (yv, yi) yk = wrongC s k) := by
            have hl : wrongL s (yn, ((yv, yi), yk), ((yv', yi'), yk')) = wrongF s (yv, yi) yk := by simp only [wrongL]; rw [if_pos he]
            rw [Hid, Hw.out, wrongLs_at Hok.out Hy.out (by rw [hl]; exact he), hl]
          clear he
          generalize wrongF s (yv, yi) yk = e1 at heb Hf
          go_wp2_with fail
          go_ret
          exact ⟨by rw [Hf.out]; rfl, hB2⟩
      · have Hf : Hid (wrongC s k = 0) := by
          rw [Hid, Hw.out, wrongLs_iff]
          intro l hl
          obtain ⟨i, hi, e⟩ := List.mem_iff_getElem.1 hl
          exact Hok.out i (by omega) l (by rw [List.getElem?_eq_getElem hi, e])
        go_wp2_with fail
        go_ret
        exact ⟨by rw [Hf.out]; rfl, hBr⟩

end Go.Proofs.YtfckelbdageenabGreatDoor

/- The law ClauseTurns. -/
namespace Go.Proofs.YtfckelbdageenabGreatDoor
open Go.RowKit Go.Deep Go.ChangeShapes Go.WideShapes

/-- The closed fact that is asked first. -/
def Alive4 : Prop := ∀ (m : Int) (w : World), w.cell? ⟨0, 0, none⟩ = some (.int .i64 m) → Calls Tryz.prog 29 #[] w fun e w' => e = .returned (.bool true) ∧ Below w.heap.size w w'
theorem tx_right4 {s : List Int} (h6 : s.length ≤ 6) (hs : s.all okNum = true) {x : Bool × Int} {k : Fo} (h : wrongF s x k = 0) : TxT (x, k) := by
  obtain ⟨h1, _, _, _, hw⟩ := right_of hs h
  have hl := textT_len x k
  obtain ⟨t1, t2⟩ := text_okT h6 hw
  exact ⟨t1, t2, by simp only; omega⟩
theorem txC_right4 {s : List Int} (h6 : s.length ≤ 6) (hs : s.all okNum = true) {c : Cl} (h : wrongC s c = 0) : ∀ l ∈ c, TxT l.2.1 ∧ TxT l.2.2 := fun l hl =>
  ⟨tx_right4 h6 hs ((wrongC_iff.1 h).2 l hl).1, tx_right4 h6 hs ((wrongC_iff.1 h).2 l hl).2⟩
theorem textL_len4 {l : Lt} (h : TxT l.2.1 ∧ TxT l.2.2) : (textL l).length ≤ 2002 := by
  have h1 := h.1.2.2
  have h2 := h.2.2.2
  simp only [textL, List.length_append]
  split <;> simp <;> omega
theorem textC_len4 {c : Cl} (h : ∀ l ∈ c, TxT l.2.1 ∧ TxT l.2.2) (h4 : c.length ≤ 4) : (textC c).length ≤ 100000 := by
  have key : ∀ (r : List (List UInt8)), (∀ x ∈ r, x.length ≤ 2002) → (Lib.join r sepL).length ≤ r.length * 2010 := by
    intro r
    induction r with
    | nil => intro _; simp [Lib.join_nil]
    | cons x r ih =>
      intro hx
      have h1 := ih (fun y hy => hx y (by simp [hy]))
      have h2 := hx x (by simp)
      cases r with
      | nil => rw [Lib.join_one]; simp; omega
      | cons y r =>
        rw [join_cons2]
        simp only [List.length_append, List.length_cons, List.length_nil] at h1 ⊢
        omega
  unfold textC
  split
  · simp
  · have := key (c.map textL) (fun x hx => by
      obtain ⟨l, hl, rfl⟩ := List.mem_map.1 hx
      exact textL_len4 (h l hl))
    rw [List.length_map] at this
    omega
theorem sameC_refl {c : Cl} (hn : ∀ l ∈ c, Fo.norm l.2.1.2 = l.2.1.2 ∧ Fo.norm l.2.2.2 = l.2.2.2) : sameC c c = true := by
  refine sameC_yes rfl fun i _ a b ha hb => ?_
  rw [ha] at hb
  cases hb
  have hm := hn a (List.mem_of_getElem? ha)
  have h1 := norm_same a.2.1.2
  have h2 := norm_same a.2.2.2
  rw [hm.1] at h1
  rw [hm.2] at h2
  simp [sameL, sameT, h1, h2]

set_option maxRecDepth 100000 in
set_option maxHeartbeats 2000000 in
theorem clauseTurns_of (hal : Alive4) (s : List Int) (sv : Value) (c : Cl) (cv : Value) (T : ByteArray) (m : Int) (w : World) (hN : NIn w s sv) (hC : CIn w c cv) (hn : ∀ l ∈ c, Fo.norm l.2.1.2 = l.2.1.2 ∧ Fo.norm l.2.2.2 = l.2.2.2)
    (hM : w.cell? ⟨0, 0, none⟩ = some (.int .i64 m)) (hT : T.size < 4294967281) :
    Calls Tryz.prog 4 #[sv, cv, .string T] w fun e w' => e = .returned (.bool true) ∧ Below w.heap.size w w' := by
  have HN := hide hN
  have HC := hide hC
  have HM := hide hM
  have Hn := hide hn
  have Hal := hide (hal m w hM)
  obtain ⟨sa, sc, _, _, rfl, -, -, -, -⟩ := hN
  obtain ⟨c1, c3, rfl⟩ := slice_of_cl hC
  clear hC hM hn hal
  go_enter Tryz.func4, Tryz.ntmps4
  go_wp2_with fail
  refine Hal.out.mono ?_
  rintro e w1 ⟨rfl, hb⟩
  replace HN := hide (HN.out.below hb)
  replace HC := hide (HC.out.below hb)
  replace HM := hide (grow_cell hb _ _ HM.out)
  have hB : Below w.heap.size w w1 := hb
  clear hb Hal
  go_wp2_with fail
  refine (wsigR_any s _ _ HN.out).mono ?_
  rintro e w' ⟨rfl, hw'⟩
  rw [hw']
  clear hw' w'
  by_cases hw : wsig s = 0
  · have Hw := hide hw
    simp only [hw]
    clear hw
    obtain ⟨ok, h6, _⟩ := wsig_ok Hw.out
    have Hok := hide ok
    have H6 := hide h6
    clear ok h6
    have Htail : Hid (∀ w2, Below w1.heap.size w1 w2 → Calls Tryz.prog 7 #[.slice sa s.length sc, .string T] w2 (ParsePost s T.data.toList w2)) := fun w2 hb => parseCl_any s _ T m w2 (HN.out.below hb) (grow_cell hb _ _ HM.out) hT
    go_wp2_with fail
    refine (wrongC_any s _ c _ _ HN.out HC.out).mono ?_
    rintro e w2 ⟨rfl, hb2⟩
    by_cases he : wrongC s c = 0
    · have He := hide he
      simp only [he]
      clear he
      have h4 := (wrongC_iff.1 He.out).1
      have Htx := hide (txC_right4 H6.out Hok.out He.out)
      have Hlen := hide (textC_len4 Htx.out h4)
      go_wp2_with fail
      refine (textCl_any c _ _ (HC.out.below hb2) Htx.out (by omega) (by have := Hlen.out; omega)).mono ?_
      rintro e w3 ⟨D, rfl, hD, hb3⟩
      have hb13 := below_step hb2 hb3
      have HD := hide hD
      have hDs : D.size < 4294967281 := by rw [ba_size hD]; have := Hlen.out; omega
      clear hD
      go_wp2_with fail
      refine (parseCl_any s _ D m w3 (HN.out.below hb13) (grow_cell hb13 _ _ HM.out) hDs).mono ?_
      rintro e w4 ⟨z1, z2, z3, rfl, hP, hb4⟩
      rw [HD.out, parse_textC Hw.out He.out Hn.out] at hP ⊢
      have HP := hide hP
      have hb14 := below_step hb13 hb4
      clear hP
      go_wp2_with fail
      refine (sameC_any c c _ _ _ (HC.out.below hb14) HP.out).mono ?_
      rintro e w5 ⟨rfl, hb5⟩
      rw [sameC_refl Hn.out]
      have hb15 := below_step hb14 hb5
      go_wp2_with fail
      refine (Htail.out w5 hb15).mono ?_
      rintro e w6 ⟨y1, y2, y3, rfl, hQ, hb6⟩
      have hb16 := below_step hb15 hb6
      by_cases her : (parseC s T.data.toList).1 = 0
      · obtain ⟨_, ht, hwr⟩ := parse_backC her
        rw [her]
        generalize (parseC s T.data.toList).2 = d at *
        have HQ := hide hQ
        have Hwr := hide hwr
        have Ht := hide ht
        have h4d := (wrongC_iff.1 hwr).1
        have Htd := hide (txC_right4 H6.out Hok.out hwr)
        have Hld := hide (textC_len4 Htd.out h4d)
        clear hQ ht hwr her
        go_wp2_with fail
        refine (textCl_any d _ _ HQ.out Htd.out (by omega) (by have := Hld.out; omega)).mono ?_
        rintro e w7 ⟨E, rfl, hE, hb7⟩
        have eE : E = T := by rw [byte_eq hE, Ht.out]
        subst eE
        have hb17 := below_step hb16 hb7
        clear hE
        go_wp2_with fail
        refine (wrongC_any s _ d _ _ (HN.out.below hb17) (HQ.out.below hb7)).mono ?_
        rintro e w8 ⟨rfl, hb8⟩
        rw [Hwr.out]
        go_wp2_with fail
        go_ret
        exact ⟨rfl, below_step hB (below_step hb17 hb8)⟩
      · have heb : ((parseC s T.data.toList).1 != 0) = true := by simp [her]
        generalize (parseC s T.data.toList).1 = er at *
        clear her hQ
        go_wp2_with fail
        go_ret
        exact ⟨rfl, below_step hB hb16⟩
    · have heb : (wrongC s c == 0) = false := by simp [he]
      generalize wrongC s c = er0 at *
      clear he
      go_wp2_with fail
      refine (Htail.out w2 hb2).mono ?_
      rintro e w6 ⟨y1, y2, y3, rfl, hQ, hb6⟩
      have hb16 := below_step hb2 hb6
      by_cases her : (parseC s T.data.toList).1 = 0
      · obtain ⟨_, ht, hwr⟩ := parse_backC her
        rw [her]
        generalize (parseC s T.data.toList).2 = d at *
        have HQ := hide hQ
        have Hwr := hide hwr
        have Ht := hide ht
        have h4d := (wrongC_iff.1 hwr).1
        have Htd := hide (txC_right4 H6.out Hok.out hwr)
        have Hld := hide (textC_len4 Htd.out h4d)
        clear hQ ht hwr her
        go_wp2_with fail
        refine (textCl_any d _ _ HQ.out Htd.out (by omega) (by have := Hld.out; omega)).mono ?_
        rintro e w7 ⟨E, rfl, hE, hb7⟩
        have eE : E = T := by rw [byte_eq hE, Ht.out]
        subst eE
        have hb17 := below_step hb16 hb7
        clear hE
        go_wp2_with fail
        refine (wrongC_any s _ d _ _ (HN.out.below hb17) (HQ.out.below hb7)).mono ?_
        rintro e w8 ⟨rfl, hb8⟩
        rw [Hwr.out]
        go_wp2_with fail
        go_ret
        exact ⟨rfl, below_step hB (below_step hb17 hb8)⟩
      · have heb2 : ((parseC s T.data.toList).1 != 0) = true := by simp [her]
        generalize (parseC s T.data.toList).1 = er at *
        clear her hQ
        go_wp2_with fail
        go_ret
        exact ⟨rfl, below_step hB hb16⟩
  · have heb : (wsig s != 0) = true := by simp [hw]
    generalize wsig s = er at *
    clear hw
    go_wp2_with fail
    go_ret
    exact ⟨rfl, hB⟩

end Go.Proofs.YtfckelbdageenabGreatDoor

/- The law ClauseNorm. -/
namespace Go.Proofs.YtfckelbdageenabGreatDoor
open Go.RowKit Go.Deep Go.ChangeShapes Go.WideShapes
attribute [local go_sem ↓] Go.wp_at_zero Go.wp_at_succ

theorem gc_rightN {s : List Int} {c : Cl} (hs : s.all okNum = true) (hn : ∀ l ∈ c, Fo.norm l.2.1.2 = l.2.1.2 ∧ Fo.norm l.2.2.2 = l.2.2.2) (h : wrongC s c = 0) : GC c := by
  rw [wrongC_iff] at h
  refine ⟨h.1, fun l hl => ?_⟩
  obtain ⟨g1, _, g2⟩ := gd_right hs (hn l hl).1 (h.2 l hl).1
  obtain ⟨g3, _, g4⟩ := gd_right hs (hn l hl).2 (h.2 l hl).2
  exact ⟨g1, g3, g2, g4⟩
theorem gc_same {c : Cl} (h : GC c) : sameC c c = true := by
  refine sameC_yes rfl fun i _ a b ha hb => ?_
  rw [ha] at hb
  cases hb
  have g := h.2 a (List.mem_of_getElem? ha)
  have h1 := (sameT_iff g.gl.ok g.gl.ok).2 rfl
  have h2 := (sameT_iff g.gr.ok g.gr.ok).2 rfl
  simp [sameL, h1, h2]
/-- Holds, of a right clause. -/
theorem holds_call {s : List Int} {z : Int} {tb : List (List Int)} {c : Cl} {mv cv : Value} {w : World} {B : Bool} (hm : MR s z tb) (hs : s.all okNum = true) (hT : TbIn w tb mv) (hC : CIn w c cv) (hg : GC c) (hw : wrongC s c = 0) (hB : holdsB z tb c = B) (w' : World) (hb : Below w.heap.size w w') :
    Calls Tryz.prog 31 #[.agg #[.int .i64 z, mv], cv] w' fun e w'' => e = .returned (.bool B) ∧ Below w'.heap.size w' w'' := by
  subst hB
  have h4 := hg.1
  have hz := gc_sz hg.2
  exact holdsR_any hm hs c mv cv w' (hT.below hb) (hC.below hb) (wrongC_iff.1 hw).2 (by omega) (gc_vars hg.2) (gc_few hg.2)
theorem kept_same {z : Int} {tb : List (List Int)} {c : Cl} (hz : 1 ≤ z) (hg : GC c) : ((normC c).1 = 6 ∧ holdsB z tb c = true) ∨ ((normC c).1 = 0 ∧ GC (normC c).2 ∧ normC (normC c).2 = (0, (normC c).2) ∧ holdsB z tb (normC c).2 = holdsB z tb c) := by
  have h6 : (normC c).1 = 6 ∨ (normC c).1 = 0 := by
    rcases norm_cases hg with ⟨_, hn⟩ | ⟨d, _, _, _, ⟨_, hn⟩ | ⟨e, _, _, hn⟩⟩
    · rw [hn]; exact .inl rfl
    · rw [hn]; exact .inl rfl
    · rw [hn]; exact .inr rfl
  have hh := norm_holds (z := z) (tb := tb) hg
  rcases h6 with h | h
  · exact .inl ⟨h, (holds_iff hz (gc_few hg.2)).2 (hh.1 h)⟩
  · obtain ⟨g, ha⟩ := norm_again hg h
    refine .inr ⟨h, g, ha, ?_⟩
    rw [Bool.eq_iff_iff, holds_iff hz (gc_few g.2), holds_iff hz (gc_few hg.2)]
    exact (hh.2 h).symm

set_option maxRecDepth 100000 in
set_option maxHeartbeats 2000000 in
theorem clauseNorm_of (hal : Alive4) (s : List Int) (sv : Value) (c : Cl) (cv : Value) (z : Int) (tb : List (List Int)) (mv : Value) (m : Int) (w : World) (hN : NIn w s sv) (hC : CIn w c cv) (hT : TbIn w tb mv) (hn : ∀ l ∈ c, Fo.norm l.2.1.2 = l.2.1.2 ∧ Fo.norm l.2.2.2 = l.2.2.2)
    (hM : w.cell? ⟨0, 0, none⟩ = some (.int .i64 m)) :
    Calls Tryz.prog 5 #[sv, cv, .agg #[.int .i64 z, mv]] w fun e w' => e = .returned (.bool true) ∧ Below w.heap.size w w' := by
  have HN := hide hN
  have HC := hide hC
  have HT := hide hT
  have Hn := hide hn
  obtain ⟨sa, sc, _, _, rfl, -, -, -, -⟩ := hN
  obtain ⟨c1, c3, rfl⟩ := slice_of_cl hC
  obtain ⟨ta, tc, rfl⟩ := tb_slice hT
  have HM := hide hM
  have Hal := hide hal
  clear hC hM hn hal hT
  go_enter Tryz.func5, Tryz.ntmps5
  go_upto_region 1 with fail
  generalize hW1 : w.alloc (.cells #[.int .i64 z, .slice ta tb.length tc] 57) = W1
  have hB1 : Below w.heap.size w W1 := by rw [← hW1]; exact below_alloc _ _
  have m0 : W1.cell? ⟨w.heap.size, 0, none⟩ = some (.int .i64 z) := by rw [← hW1]; exact new_cell rfl
  have m1 : W1.cell? ⟨w.heap.size, 1, none⟩ = some (.slice ta tb.length tc) := by rw [← hW1]; exact new_cell rfl
  clear hW1
  go_wp2_with fail
  refine (Hal.out m W1 (grow_cell hB1 _ _ HM.out)).mono ?_
  rintro e w1 ⟨rfl, hb⟩
  replace m0 := grow_cell hb _ _ m0
  replace m1 := grow_cell hb _ _ m1
  have hB := below_step hB1 hb
  clear hb hB1 Hal
  go_wp2_with fail
  refine (wsigR_any s _ _ (HN.out.below hB)).mono ?_
  rintro e w' ⟨rfl, hw'⟩
  rw [hw']
  clear hw' w'
  by_cases hw : wsig s = 0
  · have Hw := hide hw
    simp only [hw]
    clear hw
    obtain ⟨ok, h6, _⟩ := wsig_ok Hw.out
    have Hok := hide ok
    clear ok h6
    go_wp2_with fail
    refine (wrongCR_any s _ c _ _ (HN.out.below hB) (HC.out.below hB)).mono ?_
    rintro e w2 ⟨rfl, hb2⟩
    replace m0 := grow_cell hb2 _ _ m0
    replace m1 := grow_cell hb2 _ _ m1
    replace hB := below_step hB hb2
    clear hb2
    by_cases he : wrongC s c = 0
    · have He := hide he
      simp only [he]
      clear he
      go_wp2_with fail
      refine (wrongMR_any s _ z tb _ _ (HN.out.below hB) (HT.out.below hB) Hok.out).mono ?_
      rintro e w3 ⟨rfl, hb3⟩
      replace m0 := grow_cell hb3 _ _ m0
      replace m1 := grow_cell hb3 _ _ m1
      replace hB := below_step hB hb3
      clear hb3
      by_cases hm : wrongM s z tb = 0
      · have Hm := hide (wrongM_ok hm)
        simp only [hm]
        clear hm
        have Hg := hide (gc_rightN Hok.out Hn.out He.out)
        have Hcs := hide (kept_same (tb := tb) Hm.out.z1 Hg.out)
        have Hnr := hide (fun h => norm_right Hg.out He.out h)
        go_wp2_with fail
        refine (norm_any c _ _ (HC.out.below hB) Hg.out).mono ?_
        rintro e w4 ⟨dv, rfl, hD, hb4⟩
        replace m0 := grow_cell hb4 _ _ m0
        replace m1 := grow_cell hb4 _ _ m1
        replace hB := below_step hB hb4
        clear hb4
        obtain ⟨d1, d3, rfl⟩ := slice_of_cl hD
        rcases Hcs.out with ⟨h6, hh⟩ | ⟨h0, gd, hk, hh⟩
        · have Hh := hide hh
          rw [h6]
          have HcH := hide (fun (w' : World) hb => holds_call Hm.out Hok.out (HT.out.below hB) (HC.out.below hB) Hg.out He.out Hh.out w' hb)
          clear h6 hh hD Hcs Hnr
          go_wp2_with fail
          refine (HcH.out _ (Below.refl _ _)).mono ?_
          rintro e w5 ⟨rfl, hb5⟩
          go_wp2_with fail
          go_ret
          exact ⟨rfl, below_step hB hb5⟩
        · have Hgd := hide gd
          have Hk := hide hk
          have Hwd := hide (Hnr.out h0)
          have HD := hide hD
          rw [h0]
          obtain ⟨B, hBB⟩ : ∃ B, holdsB z tb c = B := ⟨_, rfl⟩
          have Hh1 := hide hBB
          have Hh2 := hide (hh.trans hBB)
          clear h0 gd hk hh hD Hcs Hnr hBB
          generalize (normC c).2 = d at *
          go_wp2_with fail
          refine (norm_any d _ _ HD.out Hgd.out).mono ?_
          rintro e w5 ⟨fv, rfl, hF, hb5⟩
          rw [Hk.out] at hF ⊢
          replace m0 := grow_cell hb5 _ _ m0
          replace m1 := grow_cell hb5 _ _ m1
          replace hB := below_step hB hb5
          replace HD := hide (HD.out.below hb5)
          have HF := hide hF
          obtain ⟨f1, f3, rfl⟩ := slice_of_cl hF
          clear hb5 hF Hk
          have Hc1 := hide (fun (w' : World) (hb : Below w5.heap.size w5 w') => sameCR_any d d _ _ w' (HD.out.below hb) (HF.out.below hb))
          rw [gc_same Hgd.out] at Hc1
          have Hc2 := hide (fun (w' : World) (hb : Below w5.heap.size w5 w') => wrongCR_any s _ d _ w' ((HN.out.below hB).below hb) (HD.out.below hb))
          rw [Hwd.out] at Hc2
          have Hc3 := hide (fun (w' : World) (hb : Below w5.heap.size w5 w') => holds_call Hm.out Hok.out (HT.out.below hB) (HC.out.below hB) Hg.out He.out Hh1.out w' hb)
          have Hc4 := hide (fun (w' : World) (hb : Below w5.heap.size w5 w') => holds_call Hm.out Hok.out (HT.out.below hB) HD.out Hgd.out Hwd.out Hh2.out w' hb)
          have hcur : Below w5.heap.size w5 w5.drew := (Below.refl _ _).drew
          go_upto_region 11 with fail
          go_region_held3 (fun w' => w'.cell? ⟨w.heap.size, 0, none⟩ = some (.int .i64 z) ∧ w'.cell? ⟨w.heap.size, 1, none⟩ = some (.slice ta tb.length tc))
            (first
              | (with_reducible exact ⟨grow_cell hcur _ _ m0, grow_cell hcur _ _ m1⟩)
              | go_keep)
            (first
              | (go_at_call 9; with_reducible refine (Hc1.out _ hcur).mono ?_; rintro e wS ⟨rfl, hbS⟩; replace hcur := below_step hcur hbS)
              | (go_at_call 11; with_reducible refine (Hc2.out _ hcur).mono ?_; rintro e wT ⟨rfl, hbT⟩; replace hcur := below_step hcur hbT)
              | (go_at_call 31; with_reducible refine (Hc3.out _ hcur).mono ?_; rintro e wU ⟨rfl, hbU⟩; replace hcur := below_step hcur hbU)
              | (go_at_call 31; with_reducible refine (Hc4.out _ hcur).mono ?_; rintro e wV ⟨rfl, hbV⟩; replace hcur := below_step hcur hbV))
          all_goals
            have Hend := hide (below_step hB hcur)
            clear hcur
            go_wp2_with fail
            go_ret
            exact ⟨by simp, Hend.out⟩
      · have heb : (wrongM s z tb != 0) = true := by simp [hm]
        generalize wrongM s z tb = er at *
        clear hm
        go_wp2_with fail
        go_ret
        exact ⟨rfl, hB⟩
    · have heb : (wrongC s c != 0) = true := by simp [he]
      generalize wrongC s c = er at *
      clear he
      go_wp2_with fail
      go_ret
      exact ⟨rfl, hB⟩
  · have heb : (wsig s != 0) = true := by simp [hw]
    generalize wsig s = er at *
    clear hw
    go_wp2_with fail
    go_ret
    exact ⟨rfl, hB⟩

end Go.Proofs.YtfckelbdageenabGreatDoor
