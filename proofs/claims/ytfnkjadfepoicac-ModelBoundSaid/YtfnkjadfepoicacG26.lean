/- Whether some literal holds: the closure of Some, IndexFunc, ContainsFunc, Some. -/
import Derived.Test.YtfnkjadfepoicacG25
import Derived.Laws.EntriesVeiled
import Derived.Test.YtfnkjadfepoicacG23
import Derived.Test.YtfnkjadfepoicacG24
import Derived.Test.YtfnkjadfepoicacG18
import Derived.Deep.RegionHeld3
namespace Go.Proofs.Ytfnkjadfepoicac
open Go.RowKit Go.Deep Go.ChangeShapes Go.WideShapes
attribute [local go_sem ↓] Go.wp_at_zero Go.wp_at_succ

set_option maxRecDepth 100000 in
set_option maxHeartbeats 2000000 in
theorem someClo_any {s L : List Int} {z : Int} {tb : List (List Int)} (hm : MR s z tb) (hs : s.all okNum = true) (hL : L.length = 5) (hr : ∀ x ∈ L, 0 ≤ x ∧ x < z) (l : Lt) (mv ev a d : Value) (bm be : Nat) (w : World)
    (hc0 : w.cell? ⟨bm, 0, none⟩ = some (.int .i64 z)) (hc1 : w.cell? ⟨bm, 1, none⟩ = some mv) (hc2 : w.cell? ⟨be, 0, none⟩ = some ev) (hT : TbIn w tb mv) (hE : NIn w L ev) (hA : SIn w l.2.1.2 a) (hD : SIn w l.2.2.2 d) (hw : sigT s l.2.1 ∧ sigT s l.2.2) :
    Calls Try.prog 34 #[litA l a d, .pointer (some ⟨bm, 0, none⟩), .pointer (some ⟨be, 0, none⟩)] w fun e w' => e = .returned (.bool (litH z tb (envOf L) l)) ∧ Below w.heap.size w w' := by
  obtain ⟨yn, ⟨⟨yv, yi⟩, yk⟩, ⟨⟨yv', yi'⟩, yk'⟩⟩ := l
  have HT := hide hT
  have HE := hide hE
  have HA := hide hA
  have HD := hide hD
  have Hval := hide (fun x k => value_any hm hs hL hr x k)
  obtain ⟨ta, tc, rfl⟩ := tb_slice hT
  obtain ⟨ea, ec, _, _, rfl, -, -, -, -⟩ := hE
  obtain ⟨ya, yc, _, _, rfl, -, -, -, -⟩ := hA
  obtain ⟨za, zc, _, _, rfl, -, -, -, -⟩ := hD
  have Hc1 := hide (fun (w' : World) (hb : Below w.heap.size w w') => Hval.out (yv, yi) yk (.slice ta tb.length tc) (.slice ea L.length ec) (.slice ya (Fo.len yk) yc) w' (HT.out.below hb) (HE.out.below hb) (HA.out.below hb) hw.1)
  have Hc2 := hide (fun (w' : World) (hb : Below w.heap.size w w') => Hval.out (yv', yi') yk' (.slice ta tb.length tc) (.slice ea L.length ec) (.slice za (Fo.len yk') zc) w' (HT.out.below hb) (HE.out.below hb) (HD.out.below hb) hw.2)
  have Hlt : Hid (litH z tb (envOf L) (yn, ((yv, yi), yk), ((yv', yi'), yk')) = (yn != (valT z tb (envOf L) ((yv, yi), yk) == valT z tb (envOf L) ((yv', yi'), yk')))) := rfl
  simp only at Hc1 Hc2
  generalize valT z tb (envOf L) ((yv, yi), yk) = V1 at Hc1 Hlt
  generalize valT z tb (envOf L) ((yv', yi'), yk') = V2 at Hc2 Hlt
  clear hw hm hs hL hr hT Hval
  simp only at *
  go_enter Try.func34, Try.ntmps34
  go_upto_region 1 with fail
  generalize hwa : w.alloc (.cells #[.bool yn, .bool yv, .int .i64 yi, .slice ya (Fo.len yk) yc, .bool yv', .int .i64 yi', .slice za (Fo.len yk') zc] 37) = wa
  obtain ⟨g0, g1, g2, g3, g4, g5, g6, -, hba, hsa⟩ := lit_cells (T := 37) (x0 := .bool yn) (w := w) (wr := wa) (x1 := .bool yv) (x2 := .int .i64 yi) (x3 := .slice ya (Fo.len yk) yc) (x4 := .bool yv') (x5 := .int .i64 yi') (x6 := .slice za (Fo.len yk') zc) (by rw [← hwa]; exact Below.refl _ _)
  replace hc0 := grow_cell hba _ _ hc0
  replace hc1 := grow_cell hba _ _ hc1
  replace hc2 := grow_cell hba _ _ hc2
  have hcur : Below wa.heap.size wa wa.drew := (Below.refl _ _).drew
  clear hwa
  go_region_held3 (fun w' => w'.cell? ⟨w.heap.size, 0, none⟩ = some (.bool yn) ∧ w'.cell? ⟨w.heap.size, 1, none⟩ = some (.bool yv) ∧ w'.cell? ⟨w.heap.size, 2, none⟩ = some (.int .i64 yi) ∧ w'.cell? ⟨w.heap.size, 3, none⟩ = some (.slice ya (Fo.len yk) yc) ∧ w'.cell? ⟨w.heap.size, 4, none⟩ = some (.bool yv') ∧ w'.cell? ⟨w.heap.size, 5, none⟩ = some (.int .i64 yi') ∧ w'.cell? ⟨w.heap.size, 6, none⟩ = some (.slice za (Fo.len yk') zc) ∧ w'.cell? ⟨bm, 0, none⟩ = some (.int .i64 z) ∧ w'.cell? ⟨bm, 1, none⟩ = some (.slice ta tb.length tc) ∧ w'.cell? ⟨be, 0, none⟩ = some (.slice ea L.length ec))
    (first
      | (with_reducible exact ⟨grow_cell hcur _ _ g0, grow_cell hcur _ _ g1, grow_cell hcur _ _ g2, grow_cell hcur _ _ g3, grow_cell hcur _ _ g4, grow_cell hcur _ _ g5, grow_cell hcur _ _ g6, grow_cell hcur _ _ hc0, grow_cell hcur _ _ hc1, grow_cell hcur _ _ hc2⟩)
      | go_keep)
    (first
      | (go_at_call 11; with_reducible refine (Hc1.out _ (below_step hba hcur)).mono ?_; rintro e wS ⟨rfl, hbS⟩; replace hcur := below_step hcur hbS)
      | (go_at_call 11; with_reducible refine (Hc2.out _ (below_step hba hcur)).mono ?_; rintro e wU ⟨rfl, hbU⟩; replace hcur := below_step hcur hbU))
  all_goals
    have Hend := hide (below_step hba hcur)
    clear hcur hbS hbU
    go_wp2_with fail
    go_ret
    refine ⟨?_, Hend.out⟩
    rw [Hlt.out]
    cases yn <;> cases (V1 == V2) <;> rfl

/-- The closure of Some answers H of each literal of k, in whatever has come of w. -/
def LitSaid (bm be : Nat) (H : Lt → Bool) (k : Cl) (w : World) : Prop := ∀ l ∈ k, ∀ (a d : Value) (w' : World), Below w.heap.size w w' → SIn w' l.2.1.2 a → SIn w' l.2.2.2 d →
    Calls Try.prog 34 #[litA l a d, .pointer (some ⟨bm, 0, none⟩), .pointer (some ⟨be, 0, none⟩)] w' fun e w'' => e = .returned (.bool (H l)) ∧ Below w'.heap.size w' w''

set_option maxRecDepth 100000 in
set_option maxHeartbeats 2000000 in
theorem indexSome_any (bm be : Nat) (H : Lt → Bool) (k : Cl) (a : Value) (w : World) (hcl : LitSaid bm be H k w) (hS : CIn w k a) :
    Calls Try.prog 54 #[a, .func (.func 34) #[] #[.pointer (some ⟨bm, 0, none⟩), .pointer (some ⟨be, 0, none⟩)]] w fun e w' => ∃ i : Int, e = .returned (.int .i64 i) ∧ (decide (0 ≤ i)) = k.any H ∧ Below w.heap.size w w' := by
  obtain ⟨a1, c1, b1, o1, rfl, had1, hlc1, hcm1, hF1⟩ := hS
  unfold maxLen at hcm1
  have HF1 := hide hF1
  have Hcl := hide hcl
  clear hF1 hcl
  go_enter Try.func54, Try.ntmps54
  go_wp2_with fail
  go_loopw [8] (fun i wr => ∃ j : Nat, j ≤ k.length ∧ i = .int .i64 j ∧ (k.take j).any H = false ∧ Below w.heap.size w wr) (fun i _ => k.length - (intOf i).toNat)
  case atStart => exact ⟨0, Nat.zero_le _, rfl, rfl, Below.refl _ _⟩
  case round =>
    obtain ⟨j, hj, rfl, hok, hBr⟩ := hrel
    have Hok := hide hok
    clear hok
    by_cases hlt : j < k.length
    · have hlt' : (j : Int) < (k.length : Int) := by omega
      obtain ⟨⟨yn, ⟨⟨yv, yi⟩, yk⟩, ⟨yv', yi'⟩, yk'⟩, hy⟩ : ∃ y, k[j]? = some y := ⟨k[j]'hlt, by simp⟩
      obtain ⟨p0, p1, p2, ⟨u3, p3, hA⟩, p4, p5, u6, p6, hD⟩ := (HF1.out.below hBr).at hy
      have ha1 : a1 = some ⟨b1, o1, none⟩ := had1 (by omega)
      subst ha1
      have HA := hide hA
      have HD := hide hD
      obtain ⟨ya, yc, _, _, rfl, -, -, -, -⟩ := hA
      obtain ⟨za, zc, _, _, rfl, -, -, -, -⟩ := hD
      have Hy := hide hy
      have Hc := hide (Hcl.out _ (List.mem_of_getElem? hy) _ _ wr hBr HA.out HD.out)
      have Htk : Hid ((k.take (j + 1)).any H = ((k.take j).any H || H (yn, ((yv, yi), yk), ((yv', yi'), yk')))) := by rw [Hid, List.take_add_one, hy]; simp
      have Hfd : Hid (H (yn, ((yv, yi), yk), ((yv', yi'), yk')) = true → k.any H = true) := fun h => List.any_eq_true.2 ⟨_, List.mem_of_getElem? hy, h⟩
      simp only at Hc
      generalize H (yn, ((yv, yi), yk), ((yv', yi'), yk')) = V at Hc Htk Hfd
      clear hy had1
      simp only at *
      go_wp2_with fail
      refine Hc.out.mono ?_
      rintro e w2 ⟨rfl, hb2⟩
      have hB2 := below_step hBr hb2
      clear hb2
      cases V
      · go_wp2_with fail
        go_roundw
        case rel => exact ⟨j + 1, by omega, by go_num, by rw [Htk.out, Hok.out]; rfl, hB2⟩
        case measure => simp [intOf]; omega
      · have Hk := hide (Hfd.out rfl)
        clear Hfd Htk
        go_wp2_with fail
        go_ret
        exact ⟨j, rfl, by rw [Hk.out]; simp, hB2⟩
    · have Hf : Hid (k.any H = false) := by
        have e : j = k.length := by omega
        have := Hok.out
        rw [e, List.take_length] at this
        exact this
      clear had1
      go_wp2_with fail
      go_ret
      exact ⟨-1, rfl, by rw [Hf.out]; rfl, hBr⟩

set_option maxRecDepth 100000 in
set_option maxHeartbeats 2000000 in
theorem containsSome_any (bm be : Nat) (H : Lt → Bool) (k : Cl) (a : Value) (w : World) (hcl : LitSaid bm be H k w) (hS : CIn w k a) :
    Calls Try.prog 33 #[a, .func (.func 34) #[] #[.pointer (some ⟨bm, 0, none⟩), .pointer (some ⟨be, 0, none⟩)]] w fun e w' => e = .returned (.bool (k.any H)) ∧ Below w.heap.size w w' := by
  have HS := hide hS
  have Hcl := hide hcl
  obtain ⟨a1, c1, b1, o1, rfl, -, -, -, -⟩ := hS
  clear hcl
  go_enter Try.func33, Try.ntmps33
  go_wp2_with fail
  refine (indexSome_any bm be H k _ _ Hcl.out HS.out).mono ?_
  rintro e w2 ⟨i, rfl, hi, hb2⟩
  have Hi := hide hi
  clear hi
  go_wp2_with fail
  go_ret
  exact ⟨by rw [← Hi.out]; rfl, hb2⟩

set_option maxRecDepth 100000 in
set_option maxHeartbeats 2000000 in
theorem some_any {s L : List Int} {z : Int} {tb : List (List Int)} (hm : MR s z tb) (hs : s.all okNum = true) (hL : L.length = 5) (hr : ∀ x ∈ L, 0 ≤ x ∧ x < z) (k : Cl) (mv ev a : Value) (w : World) (hT : TbIn w tb mv) (hE : NIn w L ev) (hS : CIn w k a)
    (hw : ∀ l ∈ k, sigT s l.2.1 ∧ sigT s l.2.2) :
    Calls Try.prog 13 #[.agg #[.int .i64 z, mv], ev, a] w fun e w' => e = .returned (.bool (someH z tb (envOf L) k)) ∧ Below w.heap.size w w' := by
  have HT := hide hT
  have HE := hide hE
  have HS := hide hS
  have Hclo := hide (fun l mv ev a d bm be w => someClo_any hm hs hL hr l mv ev a d bm be w)
  have Hw := hide hw
  obtain ⟨ta, tc, rfl⟩ := tb_slice hT
  obtain ⟨ea, ec, _, _, rfl, -, -, -, -⟩ := hE
  obtain ⟨a1, a3, rfl⟩ := slice_of_cl hS
  clear hm hs hL hr hT hS hw
  go_enter Try.func13, Try.ntmps13
  go_upto_region 1 with fail
  generalize hW1 : (w.alloc (.cells #[.int .i64 z, .slice ta tb.length tc] 26)).alloc (.cells #[.slice ea L.length ec] 22) = W1
  have hB1 : Below w.heap.size w W1 := by rw [← hW1]; exact (below_alloc _ _).alloc (by simp) _
  have m0 : W1.cell? ⟨w.heap.size, 0, none⟩ = some (.int .i64 z) := by rw [← hW1, World.cell?_alloc_lt _ _ _ (by simp)]; exact new_cell rfl
  have m1 : W1.cell? ⟨w.heap.size, 1, none⟩ = some (.slice ta tb.length tc) := by rw [← hW1, World.cell?_alloc_lt _ _ _ (by simp)]; exact new_cell rfl
  have q0 : W1.cell? ⟨w.heap.size + 1, 0, none⟩ = some (.slice ea L.length ec) := by rw [← hW1]; exact new_cell (World.size_alloc _ _)
  clear hW1
  have Hl : Hid (LitSaid w.heap.size (w.heap.size + 1) (litH z tb (envOf L)) k W1) := fun l hl a d w' hb hA hD =>
    Hclo.out l _ _ a d _ _ w' (grow_cell hb _ _ m0) (grow_cell hb _ _ m1) (grow_cell hb _ _ q0) (HT.out.below (below_step hB1 hb)) (HE.out.below (below_step hB1 hb)) hA hD (Hw.out l hl)
  clear m0 m1 q0
  go_wp2_with fail
  refine (containsSome_any _ _ _ k _ _ Hl.out (HS.out.below hB1)).mono ?_
  rintro e w2 ⟨rfl, hb2⟩
  have hB2 := below_step hB1 hb2
  clear hb2
  go_wp2_with fail
  go_ret
  exact ⟨rfl, hB2⟩

end Go.Proofs.Ytfnkjadfepoicac

/- Whether a clause holds: all bindings, one variable after the other: the closures of Holds and whatever, whatever, Holds. -/
namespace Go.Proofs.Ytfnkjadfepoicac
open Go.RowKit Go.Deep Go.ChangeShapes Go.WideShapes
attribute [local go_sem ↓] Go.wp_at_zero Go.wp_at_succ

/-- Whatever things the variables from n on are. -/
def allB (H : List Int → Bool) (vs : List Int) (z : Nat) : Nat → Nat → List Int → Bool
  | 0, _, L => H L
  | r + 1, n, L => if (n : Int) ∈ vs then (List.range z).all fun t => allB H vs z r (n + 1) (L.set n (t : Int)) else allB H vs z r (n + 1) L
/-- The same, but for variables from n on. -/
def Agr (vs : List Int) (n : Nat) (L M : List Int) : Prop := L.length = 5 ∧ M.length = 5 ∧ ∀ i, i < n ∨ (i : Int) ∉ vs → L.getD i 0 = M.getD i 0
theorem agr_refl {vs : List Int} {n : Nat} {L : List Int} (h : L.length = 5) : Agr vs n L L := ⟨h, h, fun _ _ => rfl⟩
theorem getD_put {L : List Int} {n i : Nat} {x : Int} (hn : n < L.length) : (L.set n x).getD i 0 = if i = n then x else L.getD i 0 := by
  rw [List.getD_eq_getElem?_getD, List.getD_eq_getElem?_getD]
  by_cases e : i = n
  · subst e; rw [if_pos rfl, List.getElem?_set_self hn]; rfl
  · rw [if_neg e, List.getElem?_set_ne (fun h => e h.symm)]
theorem agr_set {vs : List Int} {n : Nat} {L M : List Int} {x : Int} (h : Agr vs n L M) (hn : n < 5) : Agr vs (n + 1) (L.set n x) (M.set n x) := by
  obtain ⟨h1, h2, h3⟩ := h
  refine ⟨by simp [h1], by simp [h2], fun i hi => ?_⟩
  rw [getD_put (by omega), getD_put (by omega)]
  by_cases e : i = n
  · simp [e]
  · rw [if_neg e, if_neg e]
    exact h3 i (hi.imp (fun h => by omega) id)
theorem agr_next {vs : List Int} {n : Nat} {L M K : List Int} {x : Int} (h : Agr vs n L M) (hn : n < 5) (hv : (n : Int) ∈ vs) (k : Agr vs (n + 1) (M.set n x) K) : Agr vs n L K := by
  obtain ⟨h1, h2, h3⟩ := h
  obtain ⟨k1, k2, k3⟩ := k
  refine ⟨h1, k2, fun i hi => ?_⟩
  have hne : i ≠ n := fun e => by
    subst e
    rcases hi with hi | hi
    · omega
    · exact hi hv
  have := k3 i (hi.imp (fun h => by omega) id)
  rw [getD_put (by omega), if_neg hne] at this
  rw [h3 i hi, this]
theorem agr_skip {vs : List Int} {n : Nat} {L M : List Int} (k : Agr vs (n + 1) L M) : Agr vs n L M :=
  ⟨k.1, k.2.1, fun i hi => k.2.2 i (hi.imp (fun h => by omega) id)⟩
theorem agr_up {vs : List Int} {n : Nat} {L M : List Int} (hv : (n : Int) ∉ vs) (k : Agr vs n L M) : Agr vs (n + 1) L M := by
  refine ⟨k.1, k.2.1, fun i hi => ?_⟩
  by_cases e : i = n
  · subst e; exact k.2.2 i (.inr hv)
  · exact k.2.2 i (hi.imp (fun h => by omega) id)
theorem allB_congr {H : List Int → Bool} {vs : List Int} {z : Nat} : ∀ {r n : Nat} {L M : List Int}, n + r = 5 → Agr vs n L M → allB H vs z r n L = allB H vs z r n M
  | 0, n, L, M, hn, h => by
    have e : L = M := by
      refine List.ext_getElem (by rw [h.1, h.2.1]) fun i h1 h2 => ?_
      have := h.2.2 i (.inl (by have := h.1; omega))
      rw [List.getD_eq_getElem?_getD, List.getD_eq_getElem?_getD, List.getElem?_eq_getElem h1, List.getElem?_eq_getElem h2] at this
      simpa using this
    rw [e]
  | r + 1, n, L, M, hn, h => by
    rw [allB, allB]
    by_cases hv : (n : Int) ∈ vs
    · rw [if_pos hv, if_pos hv]
      congr 1
      funext t
      exact allB_congr (by omega) (agr_set h (by omega))
    · rw [if_neg hv, if_neg hv]
      exact allB_congr (by omega) (agr_up hv h)
theorem allB_of {H : List Int → Bool} {vs : List Int} {z : Nat} (hH : ∀ L : List Int, L.length = 5 → (∀ x ∈ L, 0 ≤ x ∧ x < (z : Int)) → H L = true) : ∀ {r n : Nat} {L : List Int}, L.length = 5 → (∀ x ∈ L, 0 ≤ x ∧ x < (z : Int)) → allB H vs z r n L = true
  | 0, n, L, h1, h2 => hH L h1 h2
  | r + 1, n, L, h1, h2 => by
    rw [allB]
    by_cases hv : (n : Int) ∈ vs
    · rw [if_pos hv, List.all_eq_true]
      intro t ht
      have ht' := List.mem_range.1 ht
      refine allB_of hH (by simp [h1]) (fun x hx => ?_)
      rcases List.mem_or_eq_of_mem_set hx with hx | hx
      · exact h2 x hx
      · rw [hx]; omega
    · rw [if_neg hv]
      exact allB_of hH h1 h2
theorem allB_to {H : List Int → Bool} {vs : List Int} {z : Nat} {e : Int → Int} (he : ∀ v, 0 ≤ e v ∧ e v < (z : Int)) : ∀ {r n : Nat} {L : List Int}, n + r = 5 → L.length = 5 → allB H vs z r n L = true → ∃ M : List Int, M.length = 5 ∧ (∀ i, i < n → M.getD i 0 = L.getD i 0) ∧ (∀ i, n ≤ i → i < 5 → (i : Int) ∈ vs → M.getD i 0 = e i) ∧ H M = true
  | 0, n, L, hn, h1, h => ⟨L, h1, fun _ _ => rfl, fun i hi h5 => by omega, h⟩
  | r + 1, n, L, hn, h1, h => by
    rw [allB] at h
    by_cases hv : (n : Int) ∈ vs
    · rw [if_pos hv, List.all_eq_true] at h
      obtain ⟨e0, e1⟩ := he n
      have ht := h (e n).toNat (List.mem_range.2 (by omega))
      rw [show (((e n).toNat : Nat) : Int) = e n by omega] at ht
      obtain ⟨M, m1, m2, m3, m4⟩ := allB_to he (r := r) (n := n + 1) (by omega) (by simp [h1]) ht
      refine ⟨M, m1, fun i hi => ?_, fun i hi h5 hm => ?_, m4⟩
      · rw [m2 i (by omega), getD_put (by omega), if_neg (by omega)]
      · by_cases e' : i = n
        · subst e'
          rw [m2 i (by omega), getD_put (by omega), if_pos rfl]
        · exact m3 i (by omega) h5 hm
    · rw [if_neg hv] at h
      obtain ⟨M, m1, m2, m3, m4⟩ := allB_to he (r := r) (n := n + 1) (by omega) h1 h
      refine ⟨M, m1, fun i hi => m2 i (by omega), fun i hi h5 hm => m3 i ?_ h5 hm, m4⟩
      by_cases e' : i = n
      · subst e'; exact absurd hm hv
      · omega
theorem allB_holds {z : Nat} {tb : List (List Int)} {c : Cl} (hz : 1 ≤ (z : Int)) (hv : ∀ n ∈ varsC c [], 0 ≤ n ∧ n ≤ 4) : allB (fun L => someH z tb (envOf L) c) (varsC c []) z 5 0 env0 = holdsB z tb c := by
  rw [Bool.eq_iff_iff, holds_iff hz hv]
  constructor
  · intro h e he
    obtain ⟨M, m1, -, m3, m4⟩ := allB_to he (n := 0) rfl rfl h
    rw [← m4]
    refine some_congr fun v hvm => ?_
    obtain ⟨v0, v4⟩ := hv v hvm
    have := m3 v.toNat (by omega) (by omega) (by rw [show ((v.toNat : Nat) : Int) = v by omega]; exact hvm)
    unfold envOf
    rw [this, show ((v.toNat : Nat) : Int) = v by omega]
  · intro h
    exact allB_of (fun L h1 h2 => h _ (fun v => env_ok hz h2 v)) rfl (fun x hx => by simp at hx; omega)

/-- Behind W only the block b has been written: there lie the bindings L. -/
structure FI (W : World) (b : Nat) (z : Nat) (L : List Int) (wx : World) : Prop where
  gr : W.grownBy wx (some b)
  len : L.length = 5
  rng : ∀ x ∈ L, 0 ≤ x ∧ x < (z : Int)
  cel : ∀ i, i < 5 → wx.cell? ⟨b, i, none⟩ = some (.int .i64 (L.getD i 0)) ∧ wx.frozen? ⟨b, i, none⟩ = false
theorem FI.cell {W : World} {b z : Nat} {L : List Int} {wx : World} (h : FI W b z L wx) {q i : Nat} {v : Value} (hq : q ≠ b) (hc : W.cell? ⟨q, i, none⟩ = some v) : wx.cell? ⟨q, i, none⟩ = some v := by
  rw [World.cell?_of_block (h.gr.block q (World.block_lt_of_cell? _ _ hc) (by simpa using hq))]
  exact hc
theorem FI.nin {W : World} {b z : Nat} {L : List Int} {wx : World} (h : FI W b z L wx) : NIn wx L (.slice (some ⟨b, 0, none⟩) 5 5) := by
  refine ⟨some ⟨b, 0, none⟩, 5, b, 0, by rw [h.len], fun _ => rfl, by have := h.len; omega, by unfold maxLen; omega, fun i hi => ?_⟩
  rw [Nat.zero_add]
  exact (h.cel i (by have := h.len; omega)).1
theorem FI.step {W : World} {b z : Nat} {L : List Int} {wx wy : World} (h : FI W b z L wx) (hb : Below wx.heap.size wx wy) : FI W b z L wy := by
  have hs := h.gr.size
  refine ⟨⟨hb.os.trans h.gr.os, hb.tape.trans h.gr.tape, hb.output.trans h.gr.output, by have := hb.size; omega, fun q hq hn => (hb.block q (by omega)).trans (h.gr.block q hq hn)⟩, h.len, h.rng, fun i hi => ?_⟩
  obtain ⟨c1, c2⟩ := h.cel i hi
  exact ⟨grow_cell hb _ _ c1, (hb.frozen (World.block_lt_of_cell? _ _ c1)).trans c2⟩
theorem FI.set {W : World} {b z : Nat} {L : List Int} {wx : World} (h : FI W b z L wx) {n t : Nat} (hn : n < 5) (ht : t < z) : FI W b z (L.set n (t : Int)) (wx.setCell ⟨b, n, none⟩ (.int .i64 t)) := by
  have hl := h.len
  refine ⟨⟨h.gr.os, h.gr.tape, h.gr.output, by have := h.gr.size; simpa [World.setCell] using this, fun q hq hne => ?_⟩, by simp [hl], fun x hx => ?_, fun i hi => ⟨?_, by simpa using (h.cel i hi).2⟩⟩
  · rw [Below.heap_setCell _ _ _ _ (by intro e; exact hne (by rw [e]))]
    exact h.gr.block q hq hne
  · rcases List.mem_or_eq_of_mem_set hx with hx | hx
    · exact h.rng x hx
    · rw [hx]; omega
  · rw [getD_put (by omega)]
    by_cases e : i = n
    · subst e; rw [if_pos rfl, set_same (h.cel i hi).1]
    · rw [if_neg e, set_other (by intro e'; simp only [Addr.mk.injEq] at e'; omega), (h.cel i hi).1]
theorem FI.below {W : World} {b z : Nat} {L : List Int} {wx : World} (h : FI W b z L wx) {w0 : World} (hB : Below w0.heap.size w0 W) (hb : w0.heap.size ≤ b) : Below w0.heap.size w0 wx :=
  hB.grown h.gr hB.size (fun k hk => by cases hk; exact hb)

/-- The closure of Holds answers H of whatever bindings, in whatever has come of w0. -/
def EnvSaid (bm bc : Nat) (H : List Int → Bool) (z : Nat) (w0 : World) : Prop := ∀ (L : List Int) (ev : Value) (w : World), Below w0.heap.size w0 w → L.length = 5 → (∀ x ∈ L, 0 ≤ x ∧ x < (z : Int)) → NIn w L ev →
    Calls Try.prog 37 #[ev, .pointer (some ⟨bm, 0, none⟩), .pointer (some ⟨bc, 0, none⟩)] w fun e w' => e = .returned (.bool (H L)) ∧ Below w.heap.size w w'

/-- What the closure of whatever has captured. -/
structure WS (W : World) (w0 : World) (b z bm bc pe ph pv pf pz : Nat) (vs : List Int) (v1 : Option Addr) (v3 : Nat) : Prop where
  hB : Below w0.heap.size w0 W
  hb : w0.heap.size ≤ b
  hV : NIn w0 vs (.slice v1 vs.length v3)
  he : W.cell? ⟨pe, 0, none⟩ = some (.slice (some ⟨b, 0, none⟩) 5 5)
  hh : W.cell? ⟨ph, 0, none⟩ = some (.func (.func 37) #[] #[.pointer (some ⟨bm, 0, none⟩), .pointer (some ⟨bc, 0, none⟩)])
  hv : W.cell? ⟨pv, 0, none⟩ = some (.slice v1 vs.length v3)
  hf : W.cell? ⟨pf, 0, none⟩ = some (.func (.func 55) #[] #[.pointer (some ⟨pe, 0, none⟩), .pointer (some ⟨ph, 0, none⟩), .pointer (some ⟨pv, 0, none⟩), .pointer (some ⟨pf, 0, none⟩), .pointer (some ⟨pz, 0, none⟩)])
  hz : W.cell? ⟨pz, 0, none⟩ = some (.int .i64 z)
  ne : pe ≠ b ∧ ph ≠ b ∧ pv ≠ b ∧ pf ≠ b ∧ pz ≠ b
def FromSaid (W : World) (b z pe ph pv pf pz : Nat) (H : List Int → Bool) (vs : List Int) (r n : Nat) : Prop := ∀ (L : List Int) (wx : World), FI W b z L wx →
    Calls Try.prog 55 #[.int .i64 n, .pointer (some ⟨pe, 0, none⟩), .pointer (some ⟨ph, 0, none⟩), .pointer (some ⟨pv, 0, none⟩), .pointer (some ⟨pf, 0, none⟩), .pointer (some ⟨pz, 0, none⟩)] wx fun e w' => e = .returned (.bool (allB H vs z r n L)) ∧ ∃ M, FI W b z M w' ∧ Agr vs n L M

set_option maxRecDepth 100000 in
set_option maxHeartbeats 2000000 in
theorem from_last {W w0 : World} {b z bm bc pe ph pv pf pz : Nat} {vs : List Int} {v1 : Option Addr} {v3 : Nat} {H : List Int → Bool} (hcl : EnvSaid bm bc H z w0) (hW : WS W w0 b z bm bc pe ph pv pf pz vs v1 v3) : FromSaid W b z pe ph pv pf pz H vs 0 5 := by
  intro L wx hI
  obtain ⟨n1, n2, n3, n4, n5⟩ := hW.ne
  have c1 := hI.cell n1 hW.he
  have c2 := hI.cell n2 hW.hh
  have HI := hide hI
  have Hc := hide (hcl L (.slice (some ⟨b, 0, none⟩) 5 5) wx (hI.below hW.hB hW.hb) hI.len hI.rng hI.nin)
  have Hb : Hid (allB H vs z 0 5 L = H L) := rfl
  have Hag : Hid (Agr vs 5 L L) := agr_refl hI.len
  generalize H L = V at Hc Hb
  clear hcl hW hI n1 n2 n3 n4 n5
  go_enter Try.func55, Try.ntmps55
  go_wp2_with fail
  refine Hc.out.mono ?_
  rintro e w2 ⟨rfl, hb2⟩
  have Hend := hide (HI.out.step hb2)
  clear hb2
  go_wp2_with fail
  go_ret
  exact ⟨by rw [Hb.out]; rfl, L, Hend.out, Hag.out⟩

set_option maxRecDepth 100000 in
set_option maxHeartbeats 2000000 in
theorem from_step {W w0 : World} {b z bm bc pe ph pv pf pz : Nat} {vs : List Int} {v1 : Option Addr} {v3 : Nat} {H : List Int → Bool} (hz1 : 1 ≤ z) (hz8 : z ≤ 8) (hW : WS W w0 b z bm bc pe ph pv pf pz vs v1 v3) {r n : Nat} (hn : n + (r + 1) = 5) (ih : FromSaid W b z pe ph pv pf pz H vs r (n + 1)) : FromSaid W b z pe ph pv pf pz H vs (r + 1) n := by
  intro L wx hI
  obtain ⟨n1, n2, n3, n4, n5⟩ := hW.ne
  have c1 := hI.cell n1 hW.he
  have c3 := hI.cell n3 hW.hv
  have c4 := hI.cell n4 hW.hf
  have c5 := hI.cell n5 hW.hz
  have HI := hide hI
  have HW := hide hW
  have Hih := hide ih
  have HV := hide (hW.hV.below (hI.below hW.hB hW.hb))
  have Hal : Hid (allB H vs z (r + 1) n L = if (n : Int) ∈ vs then (List.range z).all fun t => allB H vs z r (n + 1) (L.set n (t : Int)) else allB H vs z r (n + 1) L) := rfl
  have Hrn : Hid (n + (r + 1) = 5) := hn
  have hne : ((n : Int) == 5) = false := by simp; omega
  have hn5 : n < 5 := by omega
  have hn5' : (n : Int) < 5 := by omega
  have hn0 : (0 : Int) ≤ (n : Int) := by omega
  generalize hA : allB H vs z (r + 1) n L = A at *
  clear hW hI ih n1 n2 n3 n4 n5 hn hA
  go_enter Try.func55, Try.ntmps55
  go_wp2_with fail
  refine (contains_any vs n _ _ HV.out).mono ?_
  rintro e w' ⟨rfl, hw'⟩
  rw [hw']
  clear hw' w'
  by_cases hv : (n : Int) ∈ vs
  · have hvb : hasB vs n = true := by unfold hasB; simp [hv]
    rw [hvb]
    have Hv := hide hv
    replace Hal : Hid (A = (List.range z).all fun t => allB H vs z r (n + 1) (L.set n (t : Int))) := by
      have := Hal.out
      rw [if_pos Hv.out] at this
      exact this
    clear hv hvb hne
    go_wp2_with fail
    go_loopw [25] (fun i wr => ∃ t : Nat, t ≤ z ∧ i = .int .i64 t ∧ (∀ q, q < t → allB H vs z r (n + 1) (L.set n (q : Nat)) = true) ∧ ∃ M, FI W b z M wr ∧ Agr vs n L M) (fun i _ => z - (intOf i).toNat)
    case atStart => exact ⟨0, Nat.zero_le _, rfl, fun q hq => by omega, L, HI.out, agr_refl HI.out.len⟩
    case round =>
      obtain ⟨t, ht, rfl, hok, M, hM, hag⟩ := hrel
      have Hok := hide hok
      have HM := hide hM
      have Hag := hide hag
      have HWc := HW.out
      obtain ⟨n1, n2, n3, n4, n5⟩ := HWc.ne
      replace c1 := hM.cell n1 HWc.he
      replace c4 := hM.cell n4 HWc.hf
      obtain ⟨e1, e2⟩ := hM.cel n hn5
      clear hok hag hM c3 c5
      by_cases hlt : t < z
      · have hlt' : (t : Int) < (z : Int) := by omega
        have Hset := hide (HM.out.set hn5 hlt)
        have Hcg := hide (allB_congr (H := H) (z := z) (r := r) (n := n + 1) (by have := Hrn.out; omega) (agr_set (x := (t : Int)) Hag.out hn5))
        have c4' : (wr.setCell ⟨b, n, none⟩ (.int .i64 t)).cell? ⟨pf, 0, none⟩ = _ := Hset.out.cell n4 HWc.hf
        have Hc := hide (Hih.out _ _ Hset.out)
        rw [← Hcg.out] at Hc
        have Hnx : Hid (allB H vs z r (n + 1) (L.set n (t : Int)) = true → ∀ q, q < t + 1 → allB H vs z r (n + 1) (L.set n (q : Nat)) = true) := fun h q hq => by
          by_cases e : q = t
          · rw [e]; exact h
          · exact Hok.out q (by omega)
        have Hbd : Hid (allB H vs z r (n + 1) (L.set n (t : Int)) = false → A = false) := fun h => by
          rw [Hal.out, List.all_eq_false]
          exact ⟨t, List.mem_range.2 hlt, by rw [h]; simp⟩
        generalize allB H vs z r (n + 1) (L.set n (t : Int)) = V at Hc Hnx Hbd
        clear HWc n1 n2 n3 n4 n5 Hcg
        go_wp2_with fail
        refine Hc.out.mono ?_
        rintro e w2 ⟨rfl, K, hK, hagK⟩
        have HK := hide hK
        have HaK := hide (agr_next Hag.out hn5 Hv.out hagK)
        clear hK hagK
        cases V
        · have Hf := hide (Hbd.out rfl)
          clear Hbd Hnx
          go_wp2_with fail
          go_ret
          exact ⟨by rw [Hf.out]; rfl, K, HK.out, HaK.out⟩
        · have Hn := hide (Hnx.out rfl)
          clear Hbd Hnx
          go_wp2_with fail
          go_roundw
          case rel => exact ⟨t + 1, by omega, by go_num, Hn.out, K, HK.out, HaK.out⟩
          case measure => simp [intOf]; omega
      · have Hf : Hid (A = true) := by
          rw [Hid, Hal.out, List.all_eq_true]
          intro q hq
          exact Hok.out q (by have := List.mem_range.1 hq; omega)
        clear HWc n1 n2 n3 n4 n5
        go_wp2_with fail
        go_ret
        exact ⟨by rw [Hf.out]; rfl, M, HM.out, Hag.out⟩
  · have hvb : hasB vs n = false := by unfold hasB; simp [hv]
    rw [hvb]
    have Hv := hide hv
    replace Hal : Hid (A = allB H vs z r (n + 1) L) := by
      have := Hal.out
      rw [if_neg Hv.out] at this
      exact this
    have Hc := hide (Hih.out _ _ HI.out)
    rw [← Hal.out] at Hc
    clear hv hvb hne
    go_wp2_with fail
    refine Hc.out.mono ?_
    rintro e w2 ⟨rfl, K, hK, hagK⟩
    have HK := hide hK
    have HaK := hide (agr_skip hagK)
    clear hK hagK
    go_wp2_with fail
    go_ret
    exact ⟨rfl, K, HK.out, HaK.out⟩

theorem from_any {W w0 : World} {b z bm bc pe ph pv pf pz : Nat} {vs : List Int} {v1 : Option Addr} {v3 : Nat} {H : List Int → Bool} (hz1 : 1 ≤ z) (hz8 : z ≤ 8) (hcl : EnvSaid bm bc H z w0) (hW : WS W w0 b z bm bc pe ph pv pf pz vs v1 v3) : ∀ r n, n + r = 5 → FromSaid W b z pe ph pv pf pz H vs r n
  | 0, n, hn => by
    have e : n = 5 := by omega
    subst e
    exact from_last hcl hW
  | r + 1, n, hn => from_step hz1 hz8 hW hn (from_any hz1 hz8 hcl hW r (n + 1) (by omega))

set_option maxRecDepth 100000 in
set_option maxHeartbeats 2000000 in
theorem whatever_any (z : Nat) (vs : List Int) (vv : Value) (bm bc : Nat) (H : List Int → Bool) (w : World) (hz1 : 1 ≤ z) (hz8 : z ≤ 8) (hV : NIn w vs vv) (hcl : EnvSaid bm bc H z w) :
    Calls Try.prog 35 #[.int .i64 z, vv, .func (.func 37) #[] #[.pointer (some ⟨bm, 0, none⟩), .pointer (some ⟨bc, 0, none⟩)]] w fun e w' => e = .returned (.bool (allB H vs z 5 0 env0)) ∧ Below w.heap.size w w' := by
  have HV := hide hV
  have Hcl := hide hcl
  obtain ⟨v1, v3, _, _, rfl, -, -, -, -⟩ := hV
  obtain ⟨iI, hi, hq0, hq1, hq2⟩ := info_parts Try.info3
  have hmk := fun w : World => run_make (P := Try.prog) w 22 3 iI _ Try.underlying22 hi hq0 .i64 .i64 5 5 (by omega) (by omega) (by rw [hq2]; omega) (by omega)
  rw [hq1] at hmk
  clear hcl
  go_enter Try.func35, Try.ntmps35
  go_upto_region 3 with fail
  clear hmk
  generalize hA : w.alloc (Obj.cells #[Value.int IntKind.i64 ↑z] 3) = wA
  have sA : wA.heap.size = w.heap.size + 1 := by rw [← hA]; simp
  have bA : Below w.heap.size w wA := by rw [← hA]; exact below_alloc _ _
  have cA : wA.cell? ⟨w.heap.size, 0, none⟩ = some (.int .i64 z) := by rw [← hA]; exact new_cell rfl
  clear hA
  generalize hA : wA.alloc (Obj.cells #[Value.slice v1 vs.length v3] 22) = wB
  have sB : wB.heap.size = w.heap.size + 1 + 1 := by rw [← hA, World.size_alloc, sA]
  have bB : Below wA.heap.size wA wB := by rw [← hA]; exact below_alloc _ _
  have cB : wB.cell? ⟨w.heap.size + 1, 0, none⟩ = some (.slice v1 vs.length v3) := by rw [← hA]; exact new_cell sA
  clear hA
  generalize hA : wB.alloc (Obj.cells #[Value.func (Fn.func 37) #[] #[Value.pointer (some { block := bm, off := 0 }), Value.pointer (some { block := bc, off := 0 })]] _) = wC
  have sC : wC.heap.size = w.heap.size + 1 + 1 + 1 := by rw [← hA, World.size_alloc, sB]
  have bC : Below wB.heap.size wB wC := by rw [← hA]; exact below_alloc _ _
  have cC : wC.cell? ⟨w.heap.size + 1 + 1, 0, none⟩ = some (.func (.func 37) #[] #[.pointer (some ⟨bm, 0, none⟩), .pointer (some ⟨bc, 0, none⟩)]) := by rw [← hA]; exact new_cell sB
  clear hA
  generalize hA : wC.alloc (Obj.cells (madeCells #[Value.int IntKind.i64 0] 5) 3) = wD
  have sD : wD.heap.size = w.heap.size + 1 + 1 + 1 + 1 := by rw [← hA, World.size_alloc, sC]
  have bD : Below wC.heap.size wC wD := by rw [← hA]; exact below_alloc _ _
  have cD : ∀ i, i < 5 → wD.cell? ⟨w.heap.size + 1 + 1 + 1, i, none⟩ = some (.int .i64 (env0.getD i 0)) ∧ wD.frozen? ⟨w.heap.size + 1 + 1 + 1, i, none⟩ = false := fun i hi => by
    rw [← hA]
    refine ⟨?_, new_frozen sC⟩
    rcases (by omega : i = 0 ∨ i = 1 ∨ i = 2 ∨ i = 3 ∨ i = 4) with rfl | rfl | rfl | rfl | rfl <;> exact (new_cell sC).trans (by simp [madeCells])
  have HD := hide cD
  clear hA cD
  generalize hA : wD.alloc (Obj.cells #[Value.slice (some { block := w.heap.size + 1 + 1 + 1, off := 0 }) 5 5] 22) = wE
  have sE : wE.heap.size = w.heap.size + 1 + 1 + 1 + 1 + 1 := by rw [← hA, World.size_alloc, sD]
  have bE : Below wD.heap.size wD wE := by rw [← hA]; exact below_alloc _ _
  have cE : wE.cell? ⟨w.heap.size + 1 + 1 + 1 + 1, 0, none⟩ = some (.slice (some ⟨w.heap.size + 1 + 1 + 1, 0, none⟩) 5 5) := by rw [← hA]; exact new_cell sD
  clear hA
  generalize hA : wE.alloc (Obj.cells #[Value.nilFunc] _) = wF
  have sF : wF.heap.size = w.heap.size + 1 + 1 + 1 + 1 + 1 + 1 := by rw [← hA, World.size_alloc, sE]
  have bF : Below wE.heap.size wE wF := by rw [← hA]; exact below_alloc _ _
  have cF : wF.cell? ⟨w.heap.size + 1 + 1 + 1 + 1 + 1, 0, none⟩ = some Value.nilFunc := by rw [← hA]; exact new_cell sE
  have fF : wF.frozen? ⟨w.heap.size + 1 + 1 + 1 + 1 + 1, 0, none⟩ = false := by rw [← hA]; exact new_frozen sE
  clear hA
  have bEF := bF
  have bDF := below_step bE bEF
  have bCF := below_step bD bDF
  have bBF := below_step bC bCF
  have bAF := below_step bB bBF
  have bWF := below_step bA bAF
  have Hc1 := hide (grow_cell bAF _ _ cA)
  have Hc2 := hide (grow_cell bBF _ _ cB)
  have Hc3 := hide (grow_cell bCF _ _ cC)
  have Hc4 := hide (grow_cell bEF _ _ cE)
  have HDF : Hid (∀ i, i < 5 → wF.cell? ⟨w.heap.size + 1 + 1 + 1, i, none⟩ = some (.int .i64 (env0.getD i 0)) ∧ wF.frozen? ⟨w.heap.size + 1 + 1 + 1, i, none⟩ = false) := fun i hi => by
    obtain ⟨d1, d2⟩ := HD.out i hi
    exact ⟨grow_cell bDF _ _ d1, (bDF.frozen (World.block_lt_of_cell? _ _ d1)).trans d2⟩
  have HB := hide bWF
  clear bA bB bC bD bE bF bEF bDF bCF bBF bAF bWF cA cB cC cE sA sB sC sD sE HD
  go_upto_region 4 with fail
  generalize hA : wF.setCell _ _ = W
  have d6 : W.cell? ⟨w.heap.size + 1 + 1 + 1 + 1 + 1, 0, none⟩ = some (.func (.func 55) #[] #[.pointer (some ⟨w.heap.size + 1 + 1 + 1 + 1, 0, none⟩), .pointer (some ⟨w.heap.size + 1 + 1, 0, none⟩), .pointer (some ⟨w.heap.size + 1, 0, none⟩), .pointer (some ⟨w.heap.size + 1 + 1 + 1 + 1 + 1, 0, none⟩), .pointer (some ⟨w.heap.size, 0, none⟩)]) := by rw [← hA]; exact set_same cF
  have keep : ∀ q i v, q ≠ w.heap.size + 1 + 1 + 1 + 1 + 1 → wF.cell? ⟨q, i, none⟩ = some v → W.cell? ⟨q, i, none⟩ = some v := fun q i v hq h => by
    rw [← hA]
    exact (set_other (by intro e'; simp only [Addr.mk.injEq] at e'; omega)).trans h
  have HBW : Hid (Below w.heap.size w W) := by rw [Hid, ← hA]; exact HB.out.setCell (by show w.heap.size ≤ w.heap.size + 1 + 1 + 1 + 1 + 1; omega) _
  have HFI : Hid (FI W (w.heap.size + 1 + 1 + 1) z env0 W) := by
    refine ⟨World.grownBy.refl _ _, rfl, fun x hx => by simp at hx; omega, fun i hi => ?_⟩
    obtain ⟨d1, d2⟩ := HDF.out i hi
    exact ⟨keep _ _ _ (by omega) d1, by rw [← hA]; simpa using d2⟩
  have HWS : Hid (WS W w (w.heap.size + 1 + 1 + 1) z bm bc (w.heap.size + 1 + 1 + 1 + 1) (w.heap.size + 1 + 1) (w.heap.size + 1) (w.heap.size + 1 + 1 + 1 + 1 + 1) w.heap.size vs v1 v3) :=
    ⟨HBW.out, by omega, HV.out, keep _ _ _ (by omega) Hc4.out, keep _ _ _ (by omega) Hc3.out, keep _ _ _ (by omega) Hc2.out, d6, keep _ _ _ (by omega) Hc1.out, by omega⟩
  have Hfin := hide (from_any hz1 hz8 Hcl.out HWS.out 5 0 rfl env0 W HFI.out)
  obtain ⟨V, hVV⟩ : ∃ V, allB H vs z 5 0 env0 = V := ⟨_, rfl⟩
  rw [hVV] at Hfin
  have HVV := hide hVV
  clear hA keep cF fF sF hVV
  go_wp2_with fail
  refine Hfin.out.mono ?_
  rintro e w2 ⟨rfl, M, hM, -⟩
  have Hend := hide (hM.below HBW.out (by omega))
  clear hM
  go_wp2_with fail
  go_ret
  exact ⟨by rw [HVV.out]; rfl, Hend.out⟩

set_option maxRecDepth 100000 in
set_option maxHeartbeats 2000000 in
theorem holdsClo_any {s L : List Int} {z : Int} {tb : List (List Int)} (hm : MR s z tb) (hs : s.all okNum = true) (hL : L.length = 5) (hr : ∀ x ∈ L, 0 ≤ x ∧ x < z) (k : Cl) (mv ev a : Value) (bm bc : Nat) (w : World)
    (hc0 : w.cell? ⟨bm, 0, none⟩ = some (.int .i64 z)) (hc1 : w.cell? ⟨bm, 1, none⟩ = some mv) (hc2 : w.cell? ⟨bc, 0, none⟩ = some a) (hT : TbIn w tb mv) (hE : NIn w L ev) (hS : CIn w k a) (hw : ∀ l ∈ k, sigT s l.2.1 ∧ sigT s l.2.2) :
    Calls Try.prog 37 #[ev, .pointer (some ⟨bm, 0, none⟩), .pointer (some ⟨bc, 0, none⟩)] w fun e w' => e = .returned (.bool (someH z tb (envOf L) k)) ∧ Below w.heap.size w w' := by
  have Hsome := hide (some_any hm hs hL hr k mv ev a w hT hE hS hw)
  obtain ⟨ta, tc, rfl⟩ := tb_slice hT
  obtain ⟨ea, ec, _, _, rfl, -, -, -, -⟩ := hE
  obtain ⟨a1, a3, rfl⟩ := slice_of_cl hS
  clear hm hs hL hr hT hS hw
  go_enter Try.func37, Try.ntmps37
  go_wp2_with fail
  refine Hsome.out.mono ?_
  rintro e w2 ⟨rfl, hb2⟩
  go_wp2_with fail
  go_ret
  exact ⟨rfl, hb2⟩

set_option maxRecDepth 100000 in
set_option maxHeartbeats 2000000 in
theorem holds_any {s : List Int} {z : Int} {tb : List (List Int)} (hm : MR s z tb) (hs : s.all okNum = true) (k : Cl) (mv a : Value) (w : World) (hT : TbIn w tb mv) (hS : CIn w k a)
    (hw : ∀ l ∈ k, sigT s l.2.1 ∧ sigT s l.2.2) (hv5 : (varsC k []).length ≤ 5) (hvr : ∀ n ∈ varsC k [], 0 ≤ n ∧ n ≤ 4) :
    Calls Try.prog 15 #[.agg #[.int .i64 z, mv], a] w fun e w' => e = .returned (.bool (holdsB z tb k)) ∧ Below w.heap.size w w' := by
  have HT := hide hT
  have HS := hide hS
  have hz1 := hm.z1
  have hz8 := hm.z8
  obtain ⟨zn, rfl⟩ : ∃ n : Nat, z = n := ⟨z.toNat, by omega⟩
  have Hab := hide (allB_holds (tb := tb) hz1 hvr)
  have Hclo := hide (fun (L : List Int) mv ev a bm bc w (hL : L.length = 5) (hr : ∀ x ∈ L, 0 ≤ x ∧ x < (zn : Int)) hc0 hc1 hc2 hT hE hS => holdsClo_any hm hs hL hr k mv ev a bm bc w hc0 hc1 hc2 hT hE hS hw)
  obtain ⟨ta, tc, rfl⟩ := tb_slice hT
  obtain ⟨a1, a3, rfl⟩ := slice_of_cl hS
  clear hm hs hT hS hw hvr
  go_enter Try.func15, Try.ntmps15
  go_upto_region 1 with fail
  generalize hW1 : (w.alloc (.cells #[.int .i64 zn, .slice ta tb.length tc] 26)).alloc (.cells #[.slice a1 k.length a3] 28) = W1
  have hB1 : Below w.heap.size w W1 := by rw [← hW1]; exact (below_alloc _ _).alloc (by simp) _
  have m0 : W1.cell? ⟨w.heap.size, 0, none⟩ = some (.int .i64 zn) := by rw [← hW1, World.cell?_alloc_lt _ _ _ (by simp)]; exact new_cell rfl
  have m1 : W1.cell? ⟨w.heap.size, 1, none⟩ = some (.slice ta tb.length tc) := by rw [← hW1, World.cell?_alloc_lt _ _ _ (by simp)]; exact new_cell rfl
  have q0 : W1.cell? ⟨w.heap.size + 1, 0, none⟩ = some (.slice a1 k.length a3) := by rw [← hW1]; exact new_cell (World.size_alloc _ _)
  clear hW1
  have Hen : Hid (∀ w2 : World, Below W1.heap.size W1 w2 → EnvSaid w.heap.size (w.heap.size + 1) (fun L => someH zn tb (envOf L) k) zn w2) := fun w2 h2 L ev w' hb hL hr hE =>
    Hclo.out L _ ev _ _ _ w' hL hr (grow_cell (below_step h2 hb) _ _ m0) (grow_cell (below_step h2 hb) _ _ m1) (grow_cell (below_step h2 hb) _ _ q0) (HT.out.below (below_step hB1 (below_step h2 hb))) hE (HS.out.below (below_step hB1 (below_step h2 hb)))
  have Hvc := hide (fun (w' : World) (hb : Below W1.heap.size W1 w') => varsCl_any k (.slice a1 k.length a3) w' (HS.out.below (below_step hB1 hb)) (by omega))
  have Hwh := hide (fun (w' : World) vv (hb : Below W1.heap.size W1 w') hV => whatever_any zn (varsC k []) vv w.heap.size (w.heap.size + 1) (fun L => someH zn tb (envOf L) k) w' (by omega) (by omega) hV (Hen.out w' hb))
  rw [Hab.out] at Hwh
  have hcur : Below W1.heap.size W1 W1.drew := (Below.refl _ _).drew
  generalize varsC k [] = vs at *
  obtain ⟨V, hVV⟩ : ∃ V, holdsB zn tb k = V := ⟨_, rfl⟩
  rw [hVV] at Hwh
  have HVV := hide hVV
  clear hVV Hab hv5
  go_region_held3 (fun w' => w'.cell? ⟨w.heap.size, 0, none⟩ = some (.int .i64 zn) ∧ w'.cell? ⟨w.heap.size, 1, none⟩ = some (.slice ta tb.length tc) ∧ w'.cell? ⟨w.heap.size + 1, 0, none⟩ = some (.slice a1 k.length a3))
    (first
      | (with_reducible exact ⟨grow_cell hcur _ _ m0, grow_cell hcur _ _ m1, grow_cell hcur _ _ q0⟩)
      | go_keep)
    (first
      | (go_at_call 36; with_reducible refine (Hvc.out _ hcur).mono ?_; rintro e wS ⟨vv, rfl, hNv, hbS⟩; replace hcur := below_step hcur hbS; have HNv := hide hNv; obtain ⟨y1, y3, rfl⟩ := nin_slice HNv.out; clear hNv)
      | (go_at_call 35; with_reducible refine (Hwh.out _ _ hcur HNv.out).mono ?_; rintro e wU ⟨rfl, hbU⟩; replace hcur := below_step hcur hbU))
  all_goals
    have Hend := hide (below_step hB1 hcur)
    clear hcur
    go_wp2_with fail
    go_ret
    exact ⟨by rw [HVV.out]; rfl, Hend.out⟩

end Go.Proofs.Ytfnkjadfepoicac

/- What is alive: chapter 5's closed fact. -/
namespace Go.Proofs.Ytfnkjadfepoicac
open Go.RowKit Go.Deep Go.ChangeShapes Go.WideShapes
attribute [local go_sem ↓] Go.wp_at_zero Go.wp_at_succ

def a5c : Cl := [(false, tb (tb (vr 0)), vr 0)]
def a5d : Cl := [(false, tb (vr 0), ta)]
def a5t : List (List Int) := [[1], [1, 0]]
theorem a5p1 : parseC [0, 1] [98, 40, 98, 40, 88, 48, 41, 41, 61, 88, 48] = (0, a5c) := by kernel_rfl
theorem a5p2 : parseC [0, 1] [98, 40, 88, 48, 41, 61, 97] = (0, a5d) := by kernel_rfl
theorem a5m : wrongM [0, 1] 2 a5t = 0 := by kernel_rfl
theorem a5n : wrongM [0, 1] 0 [] = 5 := by kernel_rfl
theorem a5wc : wrongC [0, 1] a5c = 0 := by kernel_rfl
theorem a5wd : wrongC [0, 1] a5d = 0 := by kernel_rfl
theorem a5v : valT 2 a5t (envOf [0, 0, 0, 0, 0]) (tb (tb (vr 0))) = 0 := by kernel_rfl
theorem a5s1 : someH 2 a5t (envOf [0, 0, 0, 0, 0]) a5d = true := by kernel_rfl
theorem a5s2 : someH 2 a5t (envOf [1, 0, 0, 0, 0]) a5d = false := by kernel_rfl
theorem a5h1 : holdsB 2 a5t a5c = true := by kernel_rfl
theorem a5h2 : holdsB 2 a5t a5d = false := by kernel_rfl
theorem a5r : MR [0, 1] 2 a5t := wrongM_ok a5m
theorem a5vc : (∀ n ∈ varsC a5c [], 0 ≤ n ∧ n ≤ 4) ∧ (varsC a5c []).length ≤ 5 := sigC_vars (sigC_right a5wc)
theorem a5vd : (∀ n ∈ varsC a5d [], 0 ≤ n ∧ n ≤ 4) ∧ (varsC a5d []).length ≤ 5 := sigC_vars (sigC_right a5wd)

set_option maxRecDepth 100000 in
set_option maxHeartbeats 4000000 in
theorem alive5_any (w : World) : Calls Try.prog 17 #[] w fun e w' => e = .returned (.bool true) ∧ Below w.heap.size w w' := by
  go_enter Try.func17, Try.ntmps17
  go_upto_region 3 with fail
  generalize hA : w.alloc (Obj.cells #[Value.int IntKind.i64 0, Value.int IntKind.i64 1] 3) = wA
  have sA : wA.heap.size = w.heap.size + 1 := by rw [← hA]; simp
  have bA : Below w.heap.size w wA := by rw [← hA]; exact below_alloc _ _
  have nA : NIn wA [0, 1] (.slice (some ⟨w.heap.size, 0, none⟩) 2 2) := by rw [← hA]; exact nin_lit (w := w) [0, 1] (by decide) (by decide) 3
  clear hA
  generalize hA : wA.alloc (Obj.cells #[Value.int IntKind.i64 1] 3) = wB
  have sB : wB.heap.size = w.heap.size + 1 + 1 := by rw [← hA, World.size_alloc, sA]
  have bB : Below wA.heap.size wA wB := by rw [← hA]; exact below_alloc _ _
  have nB : NIn wB [1] (.slice (some ⟨w.heap.size + 1, 0, none⟩) 1 1) := by rw [← hA, ← sA]; exact nin_lit (w := wA) [1] (by decide) (by decide) 3
  clear hA
  generalize hA : wB.alloc (Obj.cells #[Value.int IntKind.i64 1, Value.int IntKind.i64 0] 3) = wC
  have sC : wC.heap.size = w.heap.size + 1 + 1 + 1 := by rw [← hA, World.size_alloc, sB]
  have bC : Below wB.heap.size wB wC := by rw [← hA]; exact below_alloc _ _
  have nC : NIn wC [1, 0] (.slice (some ⟨w.heap.size + 1 + 1, 0, none⟩) 2 2) := by rw [← hA, ← sB]; exact nin_lit (w := wB) [1, 0] (by decide) (by decide) 3
  clear hA
  generalize hA : wC.alloc (Obj.cells #[Value.slice (some { block := w.heap.size + 1, off := 0 }) 1 1, Value.slice (some { block := w.heap.size + 1 + 1, off := 0 }) 2 2] 22) = wD
  have sD : wD.heap.size = w.heap.size + 1 + 1 + 1 + 1 := by rw [← hA, World.size_alloc, sC]
  have bD : Below wC.heap.size wC wD := by rw [← hA]; exact below_alloc _ _
  have d0 : wD.cell? ⟨w.heap.size + 1 + 1 + 1, 0, none⟩ = some (.slice (some ⟨w.heap.size + 1, 0, none⟩) 1 1) := by rw [← hA]; exact new_cell sC
  have d1 : wD.cell? ⟨w.heap.size + 1 + 1 + 1, 1, none⟩ = some (.slice (some ⟨w.heap.size + 1 + 1, 0, none⟩) 2 2) := by rw [← hA]; exact new_cell sC
  clear hA
  have hT : TbIn wD a5t (.slice (some ⟨w.heap.size + 1 + 1 + 1, 0, none⟩) 2 2) := by
    refine ⟨_, 2, w.heap.size + 1 + 1 + 1, 0, rfl, fun _ => rfl, by decide, by unfold maxLen; omega, fun i hi => ?_⟩
    have hi2 : i < 2 := hi
    rcases (by omega : i = 0 ∨ i = 1) with rfl | rfl
    · exact ⟨_, d0, nB.below (below_step bC bD)⟩
    · exact ⟨_, d1, nC.below bD⟩
  generalize hA : wD.alloc (Obj.cells #[Value.int IntKind.i64 2, Value.slice (some { block := w.heap.size + 1 + 1 + 1, off := 0 }) 2 2] 26) = wn
  have bE : Below wD.heap.size wD wn := by rw [← hA]; exact below_alloc _ _
  have m0 : wn.cell? ⟨w.heap.size + 1 + 1 + 1 + 1, 0, none⟩ = some (.int .i64 2) := by rw [← hA]; exact new_cell sD
  have m1 : wn.cell? ⟨w.heap.size + 1 + 1 + 1 + 1, 1, none⟩ = some (.slice (some ⟨w.heap.size + 1 + 1 + 1, 0, none⟩) 2 2) := by rw [← hA]; exact new_cell sD
  have bAn := below_step bB (below_step bC (below_step bD bE))
  have hB := below_step bA bAn
  have HN := hide (nA.below bAn)
  have HT := hide (hT.below bE)
  clear hA bA bB bC bD bE bAn sA sB sC sD nA nB nC d0 d1 hT
  clear wA wB wC wD
  generalize w.heap.size + 1 + 1 + 1 + 1 = bm at *
  generalize w.heap.size + 1 + 1 + 1 = bt at *
  go_wp2_with fail
  refine (parseCR_any [0, 1] _ ⟨#[98, 40, 98, 40, 88, 48, 41, 41, 61, 88, 48]⟩ _ HN.out (by decide)).mono ?_
  rintro e w1 ⟨c1, c2, c3, rfl, h1, hb⟩
  replace hB := below_step hB hb
  replace m0 := grow_cell hb _ _ m0
  replace m1 := grow_cell hb _ _ m1
  replace HN := hide (HN.out.below hb)
  replace HT := hide (HT.out.below hb)
  rw [show (⟨#[98, 40, 98, 40, 88, 48, 41, 41, 61, 88, 48]⟩ : ByteArray).data.toList = [98, 40, 98, 40, 88, 48, 41, 41, 61, 88, 48] from rfl, a5p1] at h1 ⊢
  obtain ⟨d1, d3, hd⟩ := slice_of_cl h1
  rw [hd] at h1 ⊢
  have H1 := hide h1
  clear hd hb h1
  generalize w1 = wn at *
  go_wp2_with fail
  refine (parseCR_any [0, 1] _ ⟨#[98, 40, 88, 48, 41, 61, 97]⟩ _ HN.out (by decide)).mono ?_
  rintro e w1 ⟨c1', c2', c3', rfl, h2, hb⟩
  replace hB := below_step hB hb
  replace m0 := grow_cell hb _ _ m0
  replace m1 := grow_cell hb _ _ m1
  replace HN := hide (HN.out.below hb)
  replace HT := hide (HT.out.below hb)
  replace H1 := hide (H1.out.below hb)
  rw [show (⟨#[98, 40, 88, 48, 41, 61, 97]⟩ : ByteArray).data.toList = [98, 40, 88, 48, 41, 61, 97] from rfl, a5p2] at h2 ⊢
  obtain ⟨e1, e3, hd⟩ := slice_of_cl h2
  rw [hd] at h2 ⊢
  have H2 := hide h2
  clear hd hb h2
  generalize w1 = wn at *
  obtain ⟨q1, q3, qb, qo, hqe, hqa, -, -, hqF⟩ := H1.out
  have hd1 : d1 = some ⟨qb, qo, none⟩ := by
    have := hqa (by decide)
    simp only [Value.slice.injEq] at hqe
    rw [hqe.1]; exact this
  subst hd1
  obtain ⟨p0, p1, p2, ⟨u3, p3, hA⟩, p4, p5, u6, p6, hE⟩ := hqF.at (i := 0) (l := (false, tb (tb (vr 0)), vr 0)) rfl
  simp only [Nat.zero_mul, Nat.add_zero, tb, vr] at p1 p2 p3
  have HA := hide hA
  obtain ⟨ya, yc, _, _, rfl, -, -, -, -⟩ := hA
  rw [show Fo.len (tb (tb (vr 0))).2 = 1 from rfl] at p3 HA
  clear hqe hqa hqF p0 p4 p5 p6 hE
  have el1 : a5c.length = 1 := rfl
  have el2 : a5d.length = 1 := rfl
  rw [el1] at H1
  rw [el2] at H2
  go_upto_region 5 with fail
  try rw [el1, el2]
  have hcur : Below wn.heap.size wn wn.drew := (Below.refl _ _).drew
  have Hc1 : Hid (∀ w', Below wn.heap.size wn w' → Calls Try.prog 8 #[.slice (some ⟨w.heap.size, 0, none⟩) 2 2, .agg #[.int .i64 2, .slice (some ⟨bt, 0, none⟩) 2 2]] w' fun e w'' => e = .returned (.int .i64 0) ∧ Below w'.heap.size w' w'') := fun w' hb => by
    have := wrongMod_any [0, 1] _ 2 a5t _ w' (HN.out.below hb) (HT.out.below hb) (by decide)
    rw [a5m] at this
    exact this
  have Hc2 : Hid (∀ w', Below wn.heap.size wn w' → Calls Try.prog 8 #[.slice (some ⟨w.heap.size, 0, none⟩) 2 2, .agg #[.int .i64 0, .slice none 0 0]] w' fun e w'' => e = .returned (.int .i64 5) ∧ Below w'.heap.size w' w'') := fun w' hb => by
    have := wrongMod_any [0, 1] _ 0 [] (.slice none 0 0) w' (HN.out.below hb) ⟨none, 0, 0, 0, rfl, fun h => by simp at h, Nat.le_refl _, Nat.zero_le _, fun i hi => by simp at hi⟩ (by decide)
    rw [a5n] at this
    exact this
  have HN0 : ∀ w : World, NIn (w.alloc (.cells #[.int .i64 0, .int .i64 0, .int .i64 0, .int .i64 0, .int .i64 0] 3)) [0, 0, 0, 0, 0] (.slice (some ⟨w.heap.size, 0, none⟩) 5 5) := fun w => nin_lit (w := w) [0, 0, 0, 0, 0] (by decide) (by decide) 3
  have HN1 : ∀ w : World, NIn (w.alloc (.cells #[.int .i64 1, .int .i64 0, .int .i64 0, .int .i64 0, .int .i64 0] 3)) [1, 0, 0, 0, 0] (.slice (some ⟨w.heap.size, 0, none⟩) 5 5) := fun w => nin_lit (w := w) [1, 0, 0, 0, 0] (by decide) (by decide) 3
  have Hc3 : Hid (∀ w', Below wn.heap.size wn w' → Calls Try.prog 11 #[.agg #[.int .i64 2, .slice (some ⟨bt, 0, none⟩) 2 2], .slice (some ⟨w'.heap.size, 0, none⟩) 5 5, .agg #[.bool false, .int .i64 1, .slice ya 1 yc]] (w'.alloc (.cells #[.int .i64 0, .int .i64 0, .int .i64 0, .int .i64 0, .int .i64 0] 3)) fun e w'' => e = .returned (.int .i64 0) ∧ Below w'.heap.size w' w'') := fun w' hb => by
    have := value_any a5r (by decide) (L := [0, 0, 0, 0, 0]) rfl (fun x hx => by simp at hx; omega) (tb (tb (vr 0))).1 (tb (tb (vr 0))).2 _ _ _ (w'.alloc (.cells #[.int .i64 0, .int .i64 0, .int .i64 0, .int .i64 0, .int .i64 0] 3)) (((HT.out.below hb)).alloc _) (HN0 w') ((HA.out.below hb).alloc _) (sigC_right a5wc (false, tb (tb (vr 0)), vr 0) List.mem_cons_self).1
    refine this.mono ?_
    rintro e w2 ⟨rfl, hb2⟩
    exact ⟨by rw [show valT 2 a5t (envOf [0, 0, 0, 0, 0]) ((tb (tb (vr 0))).1, (tb (tb (vr 0))).2) = 0 from a5v], below_box hb2⟩
  have Hc4 : Hid (∀ w', Below wn.heap.size wn w' → Calls Try.prog 13 #[.agg #[.int .i64 2, .slice (some ⟨bt, 0, none⟩) 2 2], .slice (some ⟨w'.heap.size, 0, none⟩) 5 5, .slice e1 1 e3] (w'.alloc (.cells #[.int .i64 0, .int .i64 0, .int .i64 0, .int .i64 0, .int .i64 0] 3)) fun e w'' => e = .returned (.bool true) ∧ Below w'.heap.size w' w'') := fun w' hb => by
    have := some_any a5r (by decide) (L := [0, 0, 0, 0, 0]) rfl (fun x hx => by simp at hx; omega) a5d _ _ _ (w'.alloc (.cells #[.int .i64 0, .int .i64 0, .int .i64 0, .int .i64 0, .int .i64 0] 3)) (((HT.out.below hb)).alloc _) (HN0 w') ((H2.out.below hb).alloc _) (sigC_right a5wd)
    refine this.mono ?_
    rintro e w2 ⟨rfl, hb2⟩
    exact ⟨by rw [a5s1], below_box hb2⟩
  have Hc5 : Hid (∀ w', Below wn.heap.size wn w' → Calls Try.prog 13 #[.agg #[.int .i64 2, .slice (some ⟨bt, 0, none⟩) 2 2], .slice (some ⟨w'.heap.size, 0, none⟩) 5 5, .slice e1 1 e3] (w'.alloc (.cells #[.int .i64 1, .int .i64 0, .int .i64 0, .int .i64 0, .int .i64 0] 3)) fun e w'' => e = .returned (.bool false) ∧ Below w'.heap.size w' w'') := fun w' hb => by
    have := some_any a5r (by decide) (L := [1, 0, 0, 0, 0]) rfl (fun x hx => by simp at hx; omega) a5d _ _ _ (w'.alloc (.cells #[.int .i64 1, .int .i64 0, .int .i64 0, .int .i64 0, .int .i64 0] 3)) (((HT.out.below hb)).alloc _) (HN1 w') ((H2.out.below hb).alloc _) (sigC_right a5wd)
    refine this.mono ?_
    rintro e w2 ⟨rfl, hb2⟩
    exact ⟨by rw [a5s2], below_box hb2⟩
  have Hc6 : Hid (∀ w', Below wn.heap.size wn w' → Calls Try.prog 15 #[.agg #[.int .i64 2, .slice (some ⟨bt, 0, none⟩) 2 2], .slice (some ⟨qb, qo, none⟩) 1 d3] w' fun e w'' => e = .returned (.bool true) ∧ Below w'.heap.size w' w'') := fun w' hb => by
    have := holds_any a5r (by decide) a5c _ _ w' (HT.out.below hb) (H1.out.below hb) (sigC_right a5wc) a5vc.2 a5vc.1
    rw [a5h1] at this
    exact this
  have Hc7 : Hid (∀ w', Below wn.heap.size wn w' → Calls Try.prog 15 #[.agg #[.int .i64 2, .slice (some ⟨bt, 0, none⟩) 2 2], .slice e1 1 e3] w' fun e w'' => e = .returned (.bool false) ∧ Below w'.heap.size w' w'') := fun w' hb => by
    have := holds_any a5r (by decide) a5d _ _ w' (HT.out.below hb) (H2.out.below hb) (sigC_right a5wd) a5vd.2 a5vd.1
    rw [a5h2] at this
    exact this
  clear H1 H2 HA HN HT HN0 HN1 el1 el2
  go_region_held3 (fun w' => w'.cell? ⟨bm, 0, none⟩ = some (.int .i64 2) ∧ w'.cell? ⟨bm, 1, none⟩ = some (.slice (some ⟨bt, 0, none⟩) 2 2) ∧ w'.cell? ⟨qb, qo + 1, none⟩ = some (.bool false) ∧ w'.cell? ⟨qb, qo + 2, none⟩ = some (.int .i64 1) ∧ w'.cell? ⟨qb, qo + 3, none⟩ = some (.slice ya 1 yc))
    (first
      | (with_reducible exact ⟨grow_cell hcur _ _ m0, grow_cell hcur _ _ m1, grow_cell hcur _ _ p1, grow_cell hcur _ _ p2, grow_cell hcur _ _ p3⟩)
      | (with_reducible exact ⟨grow_cell (below_step hcur (below_alloc _ _)) _ _ m0, grow_cell (below_step hcur (below_alloc _ _)) _ _ m1, grow_cell (below_step hcur (below_alloc _ _)) _ _ p1, grow_cell (below_step hcur (below_alloc _ _)) _ _ p2, grow_cell (below_step hcur (below_alloc _ _)) _ _ p3⟩)
      | go_keep)
    (first
      | (go_at_call 8; with_reducible refine (Hc1.out _ hcur).mono ?_; rintro e wA ⟨rfl, hbA⟩; replace hcur := below_step hcur hbA)
      | (go_at_call 8; with_reducible refine (Hc2.out _ hcur).mono ?_; rintro e wB ⟨rfl, hbB⟩; replace hcur := below_step hcur hbB)
      | (go_at_call 11; with_reducible refine (Hc3.out _ hcur).mono ?_; rintro e wC ⟨rfl, hbC⟩; replace hcur := below_step hcur hbC)
      | (go_at_call 13; with_reducible refine (Hc4.out _ hcur).mono ?_; rintro e wD ⟨rfl, hbD⟩; replace hcur := below_step hcur hbD)
      | (go_at_call 13; with_reducible refine (Hc5.out _ hcur).mono ?_; rintro e wE ⟨rfl, hbE⟩; replace hcur := below_step hcur hbE)
      | (go_at_call 15; with_reducible refine (Hc6.out _ hcur).mono ?_; rintro e wF ⟨rfl, hbF⟩; replace hcur := below_step hcur hbF)
      | (go_at_call 15; with_reducible refine (Hc7.out _ hcur).mono ?_; rintro e wG ⟨rfl, hbG⟩; replace hcur := below_step hcur hbG))
  all_goals
    have Hend := hide (below_step hB hcur)
    clear hcur
    go_wp2_with fail
    go_ret
    exact ⟨rfl, Hend.out⟩

end Go.Proofs.Ytfnkjadfepoicac

/- The document's: what is wrong with a clause. -/
namespace Go.Proofs.Ytfnkjadfepoicac
open Go.RowKit Go.Deep Go.ChangeShapes Go.WideShapes

set_option maxRecDepth 100000 in
set_option maxHeartbeats 1000000 in
theorem wrongCR_any (s : List Int) (sv : Value) (k : Cl) (a : Value) (w : World) (hN : NIn w s sv) (hS : CIn w k a) :
    Calls Try.prog 10 #[sv, a] w fun e w' => e = .returned (.int .i64 (wrongC s k)) ∧ Below w.heap.size w w' := by
  obtain ⟨a1, c1, b1, o1, rfl, had1, hlc1, hcm1, hF1⟩ := hS
  unfold maxLen at hcm1
  have HF1 := hide hF1
  have HN := hide hN
  obtain ⟨sa, sc, _, _, rfl, -, -, -, -⟩ := hN
  clear hF1
  by_cases h4 : 4 < k.length
  · have h4' : (4 : Int) < (k.length : Int) := by omega
    have Hf : Hid (wrongC s k = 5) := if_pos h4
    go_enter Try.func10, Try.ntmps10
    go_wp2_with fail
    go_ret
    exact ⟨by rw [Hf.out]; rfl, Below.refl _ _⟩
  · have h4' : ¬ (4 : Int) < (k.length : Int) := by omega
    have Hw : Hid (wrongC s k = wrongLs s k) := if_neg h4
    go_enter Try.func10, Try.ntmps10
    go_wp2_with fail
    go_loopw [14] (fun i wr => ∃ j : Nat, j ≤ k.length ∧ i = .int .i64 j ∧ (∀ i, i < j → ∀ a, k[i]? = some a → wrongL s a = 0) ∧ Below w.heap.size w wr) (fun i _ => k.length - (intOf i).toNat)
    case atStart => exact ⟨0, Nat.zero_le _, rfl, fun i hi => by omega, Below.refl _ _⟩
    case round =>
      obtain ⟨j, hj, rfl, hok, hBr⟩ := hrel
      have Hok := hide hok
      clear hok
      by_cases hlt : j < k.length
      · have hlt' : (j : Int) < (k.length : Int) := by omega
        obtain ⟨⟨yn, ⟨⟨yv, yi⟩, yk⟩, ⟨yv', yi'⟩, yk'⟩, hy⟩ : ∃ y, k[j]? = some y := ⟨k[j]'hlt, by simp⟩
        obtain ⟨p0, p1, p2, ⟨u3, p3, hA⟩, p4, p5, u6, p6, hD⟩ := (HF1.out.below hBr).at hy
        have ha1 : a1 = some ⟨b1, o1, none⟩ := had1 (by omega)
        subst ha1
        have HA := hide hA
        have HD := hide hD
        obtain ⟨_, _, _, _, rfl, -, -, -, -⟩ := hA
        obtain ⟨_, _, _, _, rfl, -, -, -, -⟩ := hD
        have Hy := hide hy
        clear hy had1
        simp only at *
        go_wp2_with fail
        refine (wrongR_any s _ (yv, yi) yk _ _ ((HN.out.below hBr).alloc _) (HA.out.alloc _)).mono ?_
        rintro e w2 ⟨rfl, hb2⟩
        obtain ⟨-, -, -, -, e4, e5, e6, -, hb2', -⟩ := lit_cells hb2
        have hB2 := below_step hBr hb2'
        have HD2 := hide (HD.out.below hb2')
        have HN2 := hide (HN.out.below hB2)
        clear hb2
        by_cases he : wrongF s (yv, yi) yk = 0
        · have heb : (wrongF s (yv, yi) yk != 0) = false := by simp [he]
          have He := hide he
          clear he
          generalize wrongF s (yv, yi) yk = e1 at heb
          go_wp2_with fail
          refine (wrongR_any s _ (yv', yi') yk' _ _ HN2.out HD2.out).mono ?_
          rintro e w3 ⟨rfl, hb3⟩
          have hB3 := below_step hB2 hb3
          by_cases he : wrongF s (yv', yi') yk' = 0
          · have heb2 : (wrongF s (yv', yi') yk' != 0) = false := by simp [he]
            have He2 := hide he
            clear he
            generalize wrongF s (yv', yi') yk' = e2 at heb2
            go_wp2_with fail
            go_roundw
            case rel => exact ⟨j + 1, by omega, by go_num, fun i hi a ha => by
              by_cases e : i = j
              · subst e; rw [Hy.out] at ha; cases ha; exact wrongL_iff.2 ⟨He.out, He2.out⟩
              · exact Hok.out i (by omega) a ha, hB3⟩
            case measure => simp [intOf]; omega
          · have heb2 : (wrongF s (yv', yi') yk' != 0) = true := by simp [he]
            have Hf : Hid (wrongF s (yv', yi') yk' = wrongC s k) := by
              have hl : wrongL s (yn, ((yv, yi), yk), ((yv', yi'), yk')) = wrongF s (yv', yi') yk' := by simp only [wrongL]; rw [if_neg (by simp [He.out])]
              rw [Hid, Hw.out, wrongLs_at Hok.out Hy.out (by rw [hl]; exact he), hl]
            clear he
            generalize wrongF s (yv', yi') yk' = e2 at heb2 Hf
            go_wp2_with fail
            go_ret
            exact ⟨by rw [Hf.out]; rfl, hB3⟩
        · have heb : (wrongF s (yv, yi) yk != 0) = true := by simp [he]
          have Hf : Hid (wrongF s (yv, yi) yk = wrongC s k) := by
            have hl : wrongL s (yn, ((yv, yi), yk), ((yv', yi'), yk')) = wrongF s (yv, yi) yk := by simp only [wrongL]; rw [if_pos he]
            rw [Hid, Hw.out, wrongLs_at Hok.out Hy.out (by rw [hl]; exact he), hl]
          clear he
          generalize wrongF s (yv, yi) yk = e1 at heb Hf
          go_wp2_with fail
          go_ret
          exact ⟨by rw [Hf.out]; rfl, hB2⟩
      · have Hf : Hid (wrongC s k = 0) := by
          rw [Hid, Hw.out, wrongLs_iff]
          intro l hl
          obtain ⟨i, hi, e⟩ := List.mem_iff_getElem.1 hl
          exact Hok.out i (by omega) l (by rw [List.getElem?_eq_getElem hi, e])
        go_wp2_with fail
        go_ret
        exact ⟨by rw [Hf.out]; rfl, hBr⟩

end Go.Proofs.Ytfnkjadfepoicac
