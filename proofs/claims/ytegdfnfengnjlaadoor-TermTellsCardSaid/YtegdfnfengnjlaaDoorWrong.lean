/- What is wrong with a term, and its size: Wrong, the project's and the document's. -/
import Derived.Test.YtegdfnfengnjlaaDoorWalk
namespace Go.Proofs.YtegdfnfengnjlaaDoor
open Go.RowKit Go.Deep Go.ChangeShapes Go.WideShapes

theorem walkT_ok {s : List Int} {x : Bool × Int} {k : Fo} {d : Int} (h : walkT s x k d = 0) : d ≤ 12 ∧ aloneF s x (Fo.len k) = 0 ∧ walkF s k (d + 1) = 0 := by
  unfold walkT at h
  by_cases hd : 12 < d
  · rw [if_pos hd] at h; omega
  · rw [if_neg hd] at h
    by_cases ha : aloneF s x (Fo.len k) = 0
    · rw [if_neg (by simpa using ha)] at h; exact ⟨by omega, ha, h⟩
    · rw [if_pos ha] at h; exact absurd h ha

theorem walkF_ok {s : List Int} {p q : Nat} {x : Bool × Int} {k r : Fo} {d : Int} (h : walkF s (.node p q x k r) d = 0) : walkT s x k d = 0 ∧ walkF s r d = 0 := by
  rw [walkF_node] at h
  by_cases e : walkT s x k d = 0
  · rw [if_neg (by simpa using e)] at h; exact ⟨e, h⟩
  · rw [if_pos e] at h; exact absurd h e

theorem alone_var {s : List Int} {n : Int} {k : Fo} (h : aloneF s (true, n) (Fo.len k) = 0) : k = .nil ∧ 0 ≤ n ∧ n ≤ 4 := by
  simp only [aloneF, if_true] at h
  by_cases h1 : n < 0 ∨ 4 < n
  · rw [if_pos h1] at h; omega
  · rw [if_neg h1] at h
    by_cases h2 : Fo.len k = 0
    · exact ⟨len_zero h2, by omega, by omega⟩
    · rw [if_neg h2] at h; omega
theorem alone_sym {s : List Int} {n : Int} {m : Nat} (h : aloneF s (false, n) m = 0) : 0 ≤ n ∧ n < s.length ∧ (m : Int) = s.getD n.toNat 0 := by
  simp only [aloneF, Bool.false_eq_true, if_false] at h
  by_cases h1 : n < 0 ∨ (s.length : Int) ≤ n
  · rw [if_pos h1] at h; omega
  · rw [if_neg h1] at h
    by_cases h2 : (m : Int) = s.getD n.toNat 0
    · exact ⟨by omega, by omega, h2⟩
    · rw [if_neg h2] at h; omega

theorem sizes_same {s : List Int} : ∀ {F : Fo} {d : Int}, walkF s F d = 0 → Fo.sizes F = Fo.sizesR F
  | .nil, _, _ => rfl
  | .node _ _ (v, n) k r, d, h => by
    obtain ⟨hT, hr⟩ := walkF_ok h
    obtain ⟨_, ha, hk⟩ := walkT_ok hT
    have e1 := sizes_same hk
    have e2 := sizes_same hr
    cases v
    · simp [Fo.sizes, Fo.sizesR, e1, e2]
    · obtain ⟨rfl, _, _⟩ := alone_var ha
      simp [Fo.sizes, Fo.sizesR, e2]
theorem tsz_same {s : List Int} {x : Bool × Int} {k : Fo} {d : Int} (h : walkT s x k d = 0) : tsz x k = tszR k := by
  obtain ⟨v, n⟩ := x
  obtain ⟨_, ha, hk⟩ := walkT_ok h
  cases v
  · simp [tsz, tszR, sizes_same hk]
  · obtain ⟨rfl, _, _⟩ := alone_var ha
    simp [tsz, tszR, Fo.sizesR]

def wrongF (s : List Int) (x : Bool × Int) (k : Fo) : Int := if walkT s x k 1 ≠ 0 then walkT s x k 1 else if 12 < wrap64 (tszR k : Nat) then 4 else 0

set_option maxHeartbeats 400000 in
theorem wrongR_any (s : List Int) (sv : Value) (x : Bool × Int) (k : Fo) (a : Value) (w : World) (hN : NIn w s sv) (hS : SIn w k a) :
    Calls Tryd.prog 9 #[sv, .agg #[.bool x.1, .int .i64 x.2, a]] w fun e w' => e = .returned (.int .i64 (wrongF s x k)) ∧ Below w.heap.size w w' := by
  have HN := hide hN
  have HS := hide hS
  obtain ⟨v, n⟩ := x
  obtain ⟨sa, sc, sb, so, rfl, -, -, -, -⟩ := hN
  obtain ⟨ad, c, b, o, rfl, -, -, -, -⟩ := hS
  go_enter Tryd.func9, Tryd.ntmps9
  go_wp2_with fail
  refine (walkR_any (v, n) k s _ _ _ _ (HN.out.alloc _) (HS.out.alloc _) (by omega) (by omega)).mono ?_
  rintro e w1 ⟨rfl, hb1⟩
  obtain ⟨q0, q1, q2, hB1, hlt⟩ := box_cells (by simpa using hb1)
  by_cases he : walkT s (v, n) k 1 = 0
  · have Hf : Hid (wrongF s (v, n) k = if 12 < wrap64 (tszR k : Nat) then 4 else 0) := by simp [Hid, wrongF, he]
    simp only [he]
    go_wp2_with fail
    refine (sizeR_any (v, n) k _ _ (HS.out.below hB1)).mono ?_
    rintro e w2 ⟨rfl, hb2⟩
    have hB2 := below_step hB1 hb2
    generalize wrap64 (tszR k : Nat) = z at *
    by_cases hz : 12 < z
    · rw [if_pos hz] at Hf
      go_wp2_with fail
      go_ret
      exact ⟨by rw [Hf.out]; rfl, hB2⟩
    · rw [if_neg hz] at Hf
      go_wp2_with fail
      go_ret
      exact ⟨by rw [Hf.out]; rfl, hB2⟩
  · have Hf : Hid (wrongF s (v, n) k = walkT s (v, n) k 1) := by simp [Hid, wrongF, he]
    have heb : (walkT s (v, n) k 1 != 0) = true := by simpa using he
    simp only at Hf heb ⊢
    generalize walkT s (v, n) k 1 = E at *
    clear he
    go_wp2_with fail
    go_ret
    exact ⟨by rw [Hf.out]; rfl, hB1⟩

set_option maxHeartbeats 400000 in
theorem alone_any (s : List Int) (sv : Value) (x : Bool × Int) (k : Fo) (a : Value) (w : World) (hN : NIn w s sv) (hS : SIn w k a) :
    Calls Tryd.prog 44 #[sv, .agg #[.bool x.1, .int .i64 x.2, a]] w fun e w' => e = .returned (.int .i64 (aloneF s x (Fo.len k))) ∧ Below w.heap.size w w' := by
  obtain ⟨v, n⟩ := x
  obtain ⟨sa, sc, sb, so, rfl, hsa, hslc, hscm, hsF⟩ := hN
  obtain ⟨ad, c, b, o, rfl, -, -, -, -⟩ := hS
  have HsF := hide hsF
  clear hsF
  cases v
  · have Hal : Hid (aloneF s (false, n) (Fo.len k) = if n < 0 ∨ (s.length : Int) ≤ n then 7 else if (Fo.len k : Int) = s.getD n.toNat 0 then 0 else 5) := by simp [Hid, aloneF]
    by_cases hn0 : n < 0
    · have Hf : Hid (aloneF s (false, n) (Fo.len k) = 7) := by rw [Hid, Hal.out]; simp [hn0]
      go_enter Tryd.func44, Tryd.ntmps44
      go_wp2_with fail
      go_ret
      exact ⟨by rw [Hf.out]; rfl, below_alloc _ _⟩
    by_cases hns : (s.length : Int) ≤ n
    · have Hf : Hid (aloneF s (false, n) (Fo.len k) = 7) := by rw [Hid, Hal.out]; simp [hns]
      go_enter Tryd.func44, Tryd.ntmps44
      go_wp2_with fail
      go_ret
      exact ⟨by rw [Hf.out]; rfl, below_alloc _ _⟩
    have hns' : n < (s.length : Int) := by omega
    have hn0' : 0 ≤ n := by omega
    have hsa' : sa = some ⟨sb, so, none⟩ := hsa (by omega)
    subst hsa'
    have hcell := HsF.out n.toNat (by omega)
    have hcell1 : (w.alloc (.cells #[.bool false, .int .i64 n, .slice ad (Fo.len k) c] 26)).cell? ⟨sb, so + n.toNat, none⟩ = some (.int .i64 (s.getD n.toNat 0)) := grow_cell (below_alloc _ _) _ _ hcell
    generalize s.getD n.toNat 0 = m at *
    clear hsa hcell
    by_cases hm : (Fo.len k : Int) = m
    · have hmb : ((Fo.len k : Int) != m) = false := by simp [hm]
      have Hf : Hid (aloneF s (false, n) (Fo.len k) = 0) := by rw [Hid, Hal.out]; simp [hn0, hns, hm]
      clear hm
      go_enter Tryd.func44, Tryd.ntmps44
      go_wp2_with fail
      go_ret
      exact ⟨by rw [Hf.out]; rfl, below_alloc _ _⟩
    · have hmb : ((Fo.len k : Int) != m) = true := by simp [hm]
      have Hf : Hid (aloneF s (false, n) (Fo.len k) = 5) := by rw [Hid, Hal.out]; simp [hn0, hns, hm]
      clear hm
      go_enter Tryd.func44, Tryd.ntmps44
      go_wp2_with fail
      go_ret
      exact ⟨by rw [Hf.out]; rfl, below_alloc _ _⟩
  · have Hal : Hid (aloneF s (true, n) (Fo.len k) = if n < 0 ∨ 4 < n then 3 else if Fo.len k = 0 then 0 else 5) := by simp [Hid, aloneF]
    by_cases hn0 : n < 0
    · have Hf : Hid (aloneF s (true, n) (Fo.len k) = 3) := by rw [Hid, Hal.out]; simp [hn0]
      go_enter Tryd.func44, Tryd.ntmps44
      go_wp2_with fail
      go_ret
      exact ⟨by rw [Hf.out]; rfl, below_alloc _ _⟩
    by_cases hn4 : 4 < n
    · have hn5 : 5 ≤ n := by omega
      have Hf : Hid (aloneF s (true, n) (Fo.len k) = 3) := by rw [Hid, Hal.out]; simp [hn4]
      go_enter Tryd.func44, Tryd.ntmps44
      go_wp2_with fail
      go_ret
      exact ⟨by rw [Hf.out]; rfl, below_alloc _ _⟩
    have hn5 : ¬ 5 ≤ n := by omega
    by_cases hl0 : Fo.len k = 0
    · have Hf : Hid (aloneF s (true, n) (Fo.len k) = 0) := by rw [Hid, Hal.out]; simp [hn0, hn4, hl0]
      have hl0' : ((Fo.len k : Int) != 0) = false := by simp [hl0]
      clear hl0
      go_enter Tryd.func44, Tryd.ntmps44
      go_wp2_with fail
      go_ret
      exact ⟨by rw [Hf.out]; rfl, below_alloc _ _⟩
    · have Hf : Hid (aloneF s (true, n) (Fo.len k) = 5) := by rw [Hid, Hal.out]; simp [hn0, hn4, hl0]
      have hl0' : ((Fo.len k : Int) != 0) = true := by simp [hl0]
      go_enter Tryd.func44, Tryd.ntmps44
      go_wp2_with fail
      go_ret
      exact ⟨by rw [Hf.out]; rfl, below_alloc _ _⟩

def WithinSaid (x : Bool × Int) (k : Fo) : Prop := ∀ (s : List Int) (sv a : Value) (d : Int) (w : World), NIn w s sv → SIn w k a → 0 ≤ d → d ≤ 12 →
    Calls Tryd.prog 30 #[sv, .agg #[.bool x.1, .int .i64 x.2, a], .int .i64 d] w fun e w' => e = .returned (.int .i64 (walkT s x k (d + 1))) ∧ Below w.heap.size w w'

set_option maxHeartbeats 1000000 in
theorem within_any (x : Bool × Int) (k : Fo) : WithinSaid x k := by
  refine Fo.ind1 (p := WithinSaid) ?_ x k
  clear x k
  intro x k ih s sv a d w hN hS hd0 hd13
  have HI := hide ih
  have HN := hide hN
  have HS0 := hide hS
  clear ih
  obtain ⟨v, n⟩ := x
  obtain ⟨ad, c, b, o, rfl, had, hlc, hcm, hF⟩ := hS
  obtain ⟨sa, sc, sb, so, rfl, -, -, -, -⟩ := hN
  unfold maxLen at hcm
  have Hl := hide (Fo.len_list k)
  by_cases hd : 11 < d
  · have Hf : Hid (walkT s (v, n) k (d + 1) = 4) := by rw [Hid, walkT, if_pos (by omega)]
    go_enter Tryd.func30, Tryd.ntmps30
    go_wp2_with fail
    go_ret
    exact ⟨by rw [Hf.out]; rfl, below_alloc _ _⟩
  have Ht : Hid (walkT s (v, n) k (d + 1) = if aloneF s (v, n) (Fo.len k) ≠ 0 then aloneF s (v, n) (Fo.len k) else walkF s k (d + 1 + 1)) := by rw [Hid, walkT, if_neg (by omega)]
  have HF := hide hF
  clear hF
  go_enter Tryd.func30, Tryd.ntmps30
  go_wp2_with fail
  refine (alone_any s _ (v, n) k _ _ (HN.out.alloc _) (HS0.out.alloc _)).mono ?_
  rintro e w1 ⟨rfl, hb1⟩
  obtain ⟨q0, q1, q2, hB1, hlt⟩ := box_cells (by simpa using hb1)
  by_cases he : aloneF s (v, n) (Fo.len k) = 0
  · have Hf : Hid (walkT s (v, n) k (d + 1) = walkF s k (d + 1 + 1)) := by rw [Hid, Ht.out, if_neg (by simpa using he)]
    simp only [he]
    go_wp2_with fail
    go_loopw [22] (fun i wr => ∃ j : Nat, j ≤ Fo.len k ∧ i = .int .i64 j ∧ wOk s k (d + 1 + 1) j ∧ Below w.heap.size w wr) (fun i _ => Fo.len k - (intOf i).toNat)
    case atStart => exact ⟨0, Nat.zero_le _, rfl, fun i hi => by omega, hB1⟩
    case round =>
      obtain ⟨j, hj, rfl, hok, hBr⟩ := hrel
      have Hok := hide hok
      clear hok he q0 q1 q2
      by_cases hlt : j < Fo.len k
      · have hlt' : (j : Int) < (Fo.len k : Int) := by omega
        obtain ⟨⟨⟨yv, yn⟩, yk⟩, hy⟩ : ∃ y, k.list[j]? = some y := ⟨k.list[j]'(by rw [Hl.out]; exact hlt), by simp⟩
        obtain ⟨c0, c1, yv', c2, hSy⟩ := (HF.out.below hBr).at hy
        have ha : ad = some ⟨b, o, none⟩ := had (by omega)
        subst ha
        have HS := hide hSy
        obtain ⟨ya, yc, yb, yo, rfl, -, -, -, -⟩ := hSy
        have Hy := hide hy
        have HNr := hide (HN.out.below hBr)
        clear hy
        go_wp2_with fail
        refine (HI.out ((yv, yn), yk) (List.mem_of_getElem? Hy.out) s _ _ _ _ (HNr.out.alloc _) (HS.out.alloc _) (by omega) (by omega)).mono ?_
        rintro e w2 ⟨rfl, hb2⟩
        have hB2 := below_step hBr (below_box hb2)
        by_cases he : walkT s (yv, yn) yk (d + 1 + 1) = 0
        · have Hok2 := hide (wOk_succ Hok.out Hy.out he)
          simp only [he]
          go_wp2_with fail
          go_roundw
          case rel => exact ⟨j + 1, by omega, by go_num, Hok2.out, hB2⟩
          case measure => simp [intOf]; omega
        · have Hfin := hide (Hf.out.trans (walkF_bad Hok.out Hy.out he))
          have heb : (walkT s (yv, yn) yk (d + 1 + 1) != 0) = true := by simpa using he
          simp only at Hfin heb ⊢
          generalize walkT s (yv, yn) yk (d + 1 + 1) = E at *
          clear he
          go_wp2_with fail
          go_ret
          exact ⟨by rw [Hfin.out]; rfl, hB2⟩
      · have hje : j = Fo.len k := by omega
        have Hf0 : Hid (walkT s (v, n) k (d + 1) = 0) := by rw [Hid, Hf.out]; rw [hje] at Hok; exact walkF_end Hok.out
        clear hje
        go_wp2_with fail
        go_ret
        exact ⟨by rw [Hf0.out]; rfl, hBr⟩
  · have Hf : Hid (walkT s (v, n) k (d + 1) = aloneF s (v, n) (Fo.len k)) := by rw [Hid, Ht.out, if_pos he]
    have heb : (aloneF s (v, n) (Fo.len k) != 0) = true := by simpa using he
    generalize aloneF s (v, n) (Fo.len k) = E at *
    clear he Ht
    go_wp2_with fail
    go_ret
    exact ⟨by rw [Hf.out]; rfl, hB1⟩

set_option maxHeartbeats 400000 in
theorem wrong_any (s : List Int) (sv : Value) (x : Bool × Int) (k : Fo) (a : Value) (w : World) (hN : NIn w s sv) (hS : SIn w k a) :
    Calls Tryd.prog 8 #[sv, .agg #[.bool x.1, .int .i64 x.2, a]] w fun e w' => e = .returned (.int .i64 (wrongF s x k)) ∧ Below w.heap.size w w' := by
  have HN := hide hN
  have HS := hide hS
  obtain ⟨v, n⟩ := x
  obtain ⟨sa, sc, sb, so, rfl, -, -, -, -⟩ := hN
  obtain ⟨ad, c, b, o, rfl, -, -, -, -⟩ := hS
  go_enter Tryd.func8, Tryd.ntmps8
  go_wp2_with fail
  refine (within_any (v, n) k s _ _ _ _ (HN.out.alloc _) (HS.out.alloc _) (by omega) (by omega)).mono ?_
  rintro e w1 ⟨rfl, hb1⟩
  obtain ⟨q0, q1, q2, hB1, hlt⟩ := box_cells (by simpa using hb1)
  rw [show (0 + 1 : Int) = 1 from rfl]
  by_cases he : walkT s (v, n) k 1 = 0
  · have Hf : Hid (wrongF s (v, n) k = if 12 < wrap64 (tsz (v, n) k : Nat) then 4 else 0) := by rw [tsz_same he]; simp [Hid, wrongF, he]
    simp only [he]
    go_wp2_with fail
    refine (size_any (v, n) k _ _ (HS.out.below hB1)).mono ?_
    rintro e w2 ⟨rfl, hb2⟩
    have hB2 := below_step hB1 hb2
    generalize wrap64 (tsz (v, n) k : Nat) = z at *
    by_cases hz : 12 < z
    · rw [if_pos hz] at Hf
      go_wp2_with fail
      go_ret
      exact ⟨by rw [Hf.out]; rfl, hB2⟩
    · rw [if_neg hz] at Hf
      go_wp2_with fail
      go_ret
      exact ⟨by rw [Hf.out]; rfl, hB2⟩
  · have Hf : Hid (wrongF s (v, n) k = walkT s (v, n) k 1) := by simp [Hid, wrongF, he]
    have heb : (walkT s (v, n) k 1 != 0) = true := by simpa using he
    generalize walkT s (v, n) k 1 = E at *
    clear he
    go_wp2_with fail
    go_ret
    exact ⟨by rw [Hf.out]; rfl, hB1⟩

end Go.Proofs.YtegdfnfengnjlaaDoor
