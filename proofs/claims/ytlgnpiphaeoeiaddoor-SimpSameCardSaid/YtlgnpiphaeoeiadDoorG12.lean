/- D6a CE CTn CDi CNu CV -/
import Derived.Test.YtlgnpiphaeoeiadDoorG11
import Derived.Deep.RegionHeld3
import Derived.BigQuiet
namespace Go.Proofs.YtlgnpiphaeoeiadDoor
open Go.RowKit Go.Deep Go.ChangeShapes Go.WideShapes
attribute [local go_sem ↓] Go.wp_at_zero Go.wp_at_succ
def CsIn (w : World) (cs : List Cl) (v : Value) : Prop :=
  ∃ (a : Option Addr) (k b o : Nat), v = .slice a cs.length k ∧ (0 < cs.length → a = some ⟨b, o, none⟩) ∧ cs.length ≤ k ∧ k ≤ maxLen ∧ ∀ i c, cs[i]? = some c → ∃ cv, w.cell? ⟨b, o + i, none⟩ = some cv ∧ CIn w c cv
theorem CsIn.below {w w' : World} (hb : Below w.heap.size w w') {cs : List Cl} {v : Value} (h : CsIn w cs v) : CsIn w' cs v := by
  obtain ⟨a, k, b, o, h1, h2, h3, h4, h5⟩ := h
  refine ⟨a, k, b, o, h1, h2, h3, h4, fun i c hc => ?_⟩
  obtain ⟨cv, k1, k2⟩ := h5 i c hc
  exact ⟨cv, grow_cell hb _ _ k1, k2.below hb⟩
theorem CsIn.nil (w : World) : CsIn w [] (.slice none 0 0) := ⟨none, 0, 0, 0, rfl, fun h => by simp at h, Nat.le_refl _, Nat.zero_le _, fun i c h => by simp at h⟩
theorem slice_of_cs {w : World} {cs : List Cl} {v : Value} (h : CsIn w cs v) : ∃ z1 z3, v = .slice z1 cs.length z3 := by
  obtain ⟨a, k, _, _, rfl, _⟩ := h
  exact ⟨a, k, rfl⟩
def rightC (s : List Int) (cs : List Cl) : Bool := decide (wsig s = 0) && (decide (cs.length ≤ 8) && cs.all fun c => decide (wrongC s c = 0))
theorem rightC_iff {s : List Int} {cs : List Cl} : rightC s cs = true ↔ wsig s = 0 ∧ cs.length ≤ 8 ∧ ∀ c ∈ cs, wrongC s c = 0 := by
  simp [rightC, List.all_eq_true]
set_option maxRecDepth 100000 in
set_option maxHeartbeats 1000000 in
theorem rightR_any (s : List Int) (sv : Value) (cs : List Cl) (v : Value) (w : World) (hN : NIn w s sv) (hS : CsIn w cs v) :
    Calls Tryd.prog 7 #[sv, v] w fun e w' => e = .returned (.bool (rightC s cs)) ∧ Below w.heap.size w w' := by
  have HN := hide hN
  obtain ⟨sa, sc, _, _, rfl, -, -, -, -⟩ := hN
  obtain ⟨a1, c1, b1, o1, rfl, had1, hlc1, hcm1, hF1⟩ := hS
  unfold maxLen at hcm1
  have HF1 := hide hF1
  clear hF1
  go_enter Tryd.func7, Tryd.ntmps7
  go_wp2_with fail
  refine (wsigR_any s _ _ HN.out).mono ?_
  rintro e w' ⟨rfl, hw'⟩
  rw [hw']
  clear hw' w'
  by_cases hw : wsig s = 0
  · have Hw := hide hw
    simp only [hw]
    clear hw
    by_cases h8 : 8 < cs.length
    · have h8' : (8 : Int) < (cs.length : Int) := by omega
      have Hf : Hid (rightC s cs = false) := by
        rw [Hid, ← Bool.not_eq_true, rightC_iff]
        intro h; omega
      go_wp2_with fail
      go_ret
      exact ⟨by rw [Hf.out]; rfl, Below.refl _ _⟩
    · have h8' : ¬ (8 : Int) < (cs.length : Int) := by omega
      go_wp2_with fail
      go_loopw [17] (fun i wr => ∃ j : Nat, j ≤ cs.length ∧ i = .int .i64 j ∧ (∀ i, i < j → ∀ c, cs[i]? = some c → wrongC s c = 0) ∧ Below w.heap.size w wr) (fun i _ => cs.length - (intOf i).toNat)
      case atStart => exact ⟨0, Nat.zero_le _, rfl, fun i hi => by omega, Below.refl _ _⟩
      case round =>
        obtain ⟨j, hj, rfl, hok, hBr⟩ := hrel
        have Hok := hide hok
        clear hok
        by_cases hlt : j < cs.length
        · have hlt' : (j : Int) < (cs.length : Int) := by omega
          obtain ⟨c, hc⟩ : ∃ c, cs[j]? = some c := ⟨cs[j]'hlt, by simp⟩
          obtain ⟨cv, p0, hC⟩ := HF1.out j c hc
          replace p0 := grow_cell hBr _ _ p0
          have HC := hide (hC.below hBr)
          obtain ⟨q1, q3, rfl⟩ := slice_of_cl hC
          have ha1 : a1 = some ⟨b1, o1, none⟩ := had1 (by omega)
          subst ha1
          have Hc := hide hc
          clear hc had1 hC
          go_wp2_with fail
          refine (wrongCR_any s _ c _ _ (HN.out.below hBr) HC.out).mono ?_
          rintro e w2 ⟨rfl, hb2⟩
          replace hBr := below_step hBr hb2
          clear hb2
          by_cases he : wrongC s c = 0
          · have Hn : Hid (∀ i, i < j + 1 → ∀ c, cs[i]? = some c → wrongC s c = 0) := fun i hi d hd => by
              by_cases e : i = j
              · rw [e, Hc.out] at hd; cases hd; exact he
              · exact Hok.out i (by omega) d hd
            simp only [he]
            clear he
            go_wp2_with fail
            go_roundw
            case rel => exact ⟨j + 1, by omega, by go_num, Hn.out, hBr⟩
            case measure => simp [intOf]; omega
          · have heb : (wrongC s c != 0) = true := by simp [he]
            have Hf : Hid (rightC s cs = false) := by
              rw [Hid, ← Bool.not_eq_true, rightC_iff]
              intro h
              exact he (h.2.2 c (List.mem_of_getElem? Hc.out))
            generalize wrongC s c = er at *
            clear he
            go_wp2_with fail
            go_ret
            exact ⟨by rw [Hf.out]; rfl, hBr⟩
        · have Hf : Hid (rightC s cs = true) := by
            rw [Hid, rightC_iff]
            refine ⟨Hw.out, by omega, fun c hc => ?_⟩
            obtain ⟨i, hi⟩ := List.mem_iff_getElem?.1 hc
            have := (List.getElem?_eq_some_iff.1 hi).1
            exact Hok.out i (by omega) c hi
          clear had1
          go_wp2_with fail
          go_ret
          exact ⟨by rw [Hf.out]; rfl, hBr⟩
  · have heb : (wsig s != 0) = true := by simp [hw]
    have Hf : Hid (rightC s cs = false) := by
      rw [Hid, ← Bool.not_eq_true, rightC_iff]
      intro h; exact hw h.1
    generalize wsig s = er at heb
    clear hw
    go_wp2_with fail
    go_ret
    exact ⟨by rw [Hf.out]; rfl, Below.refl _ _⟩
end Go.Proofs.YtlgnpiphaeoeiadDoor

namespace Go.Proofs.YtlgnpiphaeoeiadDoor
open Go.RowKit Go.Deep Go.ChangeShapes Go.WideShapes
def setL (w : World) (b : Nat) : Nat → List Value → World
  | _, [] => w
  | o, x :: xs => setL (w.setCell ⟨b, o, none⟩ x) b (o + 1) xs
theorem setL_other {b q i : Nat} : ∀ {xs : List Value} {o : Nat} {w : World}, (q ≠ b ∨ i < o ∨ o + xs.length ≤ i) → (setL w b o xs).cell? ⟨q, i, none⟩ = w.cell? ⟨q, i, none⟩
  | [], _, _, _ => rfl
  | x :: xs, o, w, h => by
    rw [setL, setL_other (xs := xs) (by simp at h; omega), set_other (by intro e; simp only [Addr.mk.injEq] at e; simp at h; omega)]
theorem setL_frozen {b : Nat} {q : Addr} : ∀ {xs : List Value} {o : Nat} {w : World}, (setL w b o xs).frozen? q = w.frozen? q
  | [], _, _ => rfl
  | x :: xs, o, w => by rw [setL, setL_frozen (xs := xs)]; simp
theorem setL_size {b : Nat} : ∀ {xs : List Value} {o : Nat} {w : World}, (setL w b o xs).heap.size = w.heap.size
  | [], _, _ => rfl
  | x :: xs, o, w => by rw [setL, setL_size (xs := xs)]; simp [World.setCell]
theorem setL_below {B : Nat} {b : Nat} {w : World} (hb : B ≤ b) : ∀ {xs : List Value} {o : Nat} {w1 : World}, Below B w w1 → Below B w (setL w1 b o xs)
  | [], _, _, h => h
  | _ :: xs, _, _, h => setL_below hb (xs := xs) (h.setCell hb _)
theorem setL_at {b : Nat} : ∀ {xs : List Value} {o : Nat} {w : World}, (∀ i, i < xs.length → ∃ u, w.cell? ⟨b, o + i, none⟩ = some u) → ∀ i x, xs[i]? = some x → (setL w b o xs).cell? ⟨b, o + i, none⟩ = some x
  | [], _, _, _, i, x, h => by simp at h
  | y :: xs, o, w, hc, 0, x, h => by
    simp at h; subst h
    rw [setL, setL_other (.inr (.inl (by omega)))]
    obtain ⟨u, hu⟩ := hc 0 (by simp)
    exact set_same hu
  | y :: xs, o, w, hc, i + 1, x, h => by
    rw [setL, show o + (i + 1) = o + 1 + i by omega]
    refine setL_at (xs := xs) (fun q hq => ?_) i x (by simpa using h)
    obtain ⟨u, hu⟩ := hc (q + 1) (by simp; omega)
    exact ⟨u, by rw [set_other (by intro e; simp only [Addr.mk.injEq] at e; omega), show o + 1 + q = o + (q + 1) by omega]; exact hu⟩
theorem keep7 {w : World} {b o q i : Nat} {x0 x1 x2 x3 x4 x5 x6 v : Value} (hq : q ≠ b) (h : w.cell? ⟨q, i, none⟩ = some v) :
    (((((((w.setCell ⟨b, o, none⟩ x0).setCell ⟨b, o + 1, none⟩ x1).setCell ⟨b, o + 2, none⟩ x2).setCell ⟨b, o + 3, none⟩ x3).setCell ⟨b, o + 4, none⟩ x4).setCell ⟨b, o + 5, none⟩ x5).setCell ⟨b, o + 6, none⟩ x6).cell? ⟨q, i, none⟩ = some v :=
  (setL_other (xs := [x0, x1, x2, x3, x4, x5, x6]) (o := o) (w := w) (.inl hq)).trans h
def MkRel (g : Nat) (W2 : World) (T : Cl) (j : Nat) (wr : World) : Prop :=
  Below g W2 wr ∧ There wr g (T.length * 7) ∧ g + 1 ≤ wr.heap.size ∧ ∃ xs, LC (fun q => g + 1 ≤ q ∧ q < wr.heap.size) wr (T.take j) xs ∧ ∀ i, i < xs.length → wr.cell? ⟨g, i, none⟩ = xs[i]?
theorem mk_start {W2 : World} {T : Cl} {z : Array Value} : MkRel W2.heap.size W2 T 0 (W2.alloc (.cells (madeCells z (T.length * 7)) 39)) := by
  refine ⟨below_alloc _ _, fun i hi => ⟨?_, frozen_new _ _ _ _⟩, by simp, [], rfl, fun i hi => by simp at hi⟩
  have hs : i < (madeCells z (T.length * 7)).size := by simp [madeCells]; exact hi
  exact ⟨(madeCells z (T.length * 7))[i], by simp [hs]⟩
theorem mk_step {g : Nat} {W2 wr w2 : World} {T : Cl} {j : Nat} {l : Lt} {a d : Value} (h : MkRel g W2 T j wr) (hl : T[j]? = some l) (hb : Below wr.heap.size wr w2)
    (hA : SB (fun q => wr.heap.size ≤ q ∧ q < w2.heap.size) w2 l.2.1.2 a) (hD : SB (fun q => wr.heap.size ≤ q ∧ q < w2.heap.size) w2 l.2.2.2 d) : MkRel g W2 T (j + 1) (setL w2 g (j * 7) (litV l a d)) := by
  obtain ⟨hB, hT, hs, xs, hX, hc⟩ := h
  have hj : j < T.length := (List.getElem?_eq_some_iff.1 hl).1
  have hsz := hb.size
  have keep : ∀ q i, q < wr.heap.size → w2.cell? ⟨q, i, none⟩ = wr.cell? ⟨q, i, none⟩ ∧ w2.frozen? ⟨q, i, none⟩ = wr.frozen? ⟨q, i, none⟩ := fun q i hq => ⟨hb.cell hq, hb.frozen hq⟩
  have hT2 : There w2 g (T.length * 7) := fun i hi => by
    obtain ⟨⟨v, hv⟩, hf⟩ := hT i hi
    have := keep g i (by omega)
    exact ⟨⟨v, this.1.trans hv⟩, this.2.trans hf⟩
  have hxl : xs.length = j * 7 := by rw [hX.len, List.length_take]; rw [Nat.min_eq_left (by omega)]
  have at7 := setL_at (b := g) (xs := litV l a d) (o := j * 7) (w := w2) (fun i hi => (hT2 (j * 7 + i) (by simp at hi; omega)).1)
  have far : ∀ q i, q ≠ g → (setL w2 g (j * 7) (litV l a d)).cell? ⟨q, i, none⟩ = w2.cell? ⟨q, i, none⟩ := fun q i hq => setL_other (.inl hq)
  refine ⟨setL_below (Nat.le_refl _) (hB.trans (hb.mono (by omega))), fun i hi => ?_, by rw [setL_size]; omega, xs ++ litV l a d, ?_, fun i hi => ?_⟩
  · obtain ⟨⟨v, hv⟩, hf⟩ := hT2 i hi
    refine ⟨?_, by rw [setL_frozen]; exact hf⟩
    by_cases hc : i < j * 7 ∨ j * 7 + 7 ≤ i
    · exact ⟨v, by rw [setL_other (.inr hc)]; exact hv⟩
    · obtain ⟨q, rfl⟩ : ∃ q, i = j * 7 + q := ⟨i - j * 7, by omega⟩
      exact ⟨_, at7 q _ (List.getElem?_eq_getElem (by simp; omega))⟩
  · rw [List.take_add_one, hl]
    refine LC.append (LC.one ?_ ?_) ?_
    · refine hA.frame (fun q hq => ⟨by omega, by rw [setL_size]; omega⟩) (fun q i hq => far q i (by omega))
    · refine hD.frame (fun q hq => ⟨by omega, by rw [setL_size]; omega⟩) (fun q i hq => far q i (by omega))
    · refine hX.frame (fun q hq => ⟨by omega, by rw [setL_size]; omega⟩) (fun q i hq => (far q i (by omega)).trans (keep q i hq.2).1)
  · rw [List.getElem?_append]
    by_cases hc' : i < xs.length
    · rw [if_pos hc', setL_other (.inr (.inl (by omega))), (keep g i (by omega)).1]
      exact hc i hc'
    · rw [if_neg hc']
      have hi' : i - xs.length < 7 := by simp at hi; omega
      have := at7 (i - xs.length) _ (List.getElem?_eq_getElem (by simpa using hi'))
      rw [show j * 7 + (i - xs.length) = i by omega] at this
      rw [this, List.getElem?_eq_getElem (by simpa using hi')]
theorem mk_end {g : Nat} {W2 wr : World} {T : Cl} (h : MkRel g W2 T T.length wr) (hm : T.length ≤ maxLen) : CIn wr T (.slice (some ⟨g, 0, none⟩) T.length T.length) := by
  obtain ⟨_, _, _, xs, hX, hc⟩ := h
  rw [List.take_length] at hX
  exact ⟨_, _, g, 0, rfl, fun _ => rfl, Nat.le_refl _, hm, hX.at (fun j hj => by rw [Nat.zero_add]; exact hc j hj)⟩
theorem ret_box {w w3 : World} {z1 : Option Addr} {z2 z3 : Nat} {tv : Bool} {tn : Int} {tk : Fo} {lo g : Nat} (hO : OwnV w3 lo w3.heap.size tk (.slice z1 z2 z3)) (hg : g < lo) (hlo : w.heap.size ≤ lo) :
    OwnV (set3 w3 g 0 (.bool tv) (.int .i64 tn) (.slice z1 z2 z3)) w.heap.size (set3 w3 g 0 (.bool tv) (.int .i64 tn) (.slice z1 z2 z3)).heap.size tk (.slice z1 z2 z3) := by
  have h2 : OwnV (set3 w3 g 0 (.bool tv) (.int .i64 tn) (.slice z1 z2 z3)) lo w3.heap.size tk (.slice z1 z2 z3) := hO.frame (fun q i q1 q2 => ⟨set3_other (.inl (by omega)), set3_frozen⟩)
  exact h2.mono hlo (by rw [set3_size]; exact Nat.le_refl _)
set_option maxRecDepth 100000 in
set_option maxHeartbeats 2000000 in
theorem cloEA_any (s : Sb) (vs : Value) (sb : Nat) (x : Bool × Int) (k : Fo) (a : Value) (w : World) (h : InvA s vs sb w) (hS : SIn w k a) (hn : narT (x, k)) :
    Calls Tryd.prog 80 #[.agg #[.bool x.1, .int .i64 x.2, a], .pointer (some ⟨sb, 0, none⟩)] w fun e w' => ∃ a', e = .returned (.agg #[.bool (subT (bnd s) (x, k)).1.1, .int .i64 (subT (bnd s) (x, k)).1.2, a']) ∧ OwnV w' w.heap.size w'.heap.size (subT (bnd s) (x, k)).2 a' ∧ Below w.heap.size w w' := by
  obtain ⟨xv, xn⟩ := x
  have HS := hide hS
  have HI := hide h
  obtain ⟨ad, c, _, _, rfl, -, -, -, -⟩ := hS
  obtain ⟨hc, hV, hs⟩ := h
  have HV := hide hV
  obtain ⟨v1, v3, rfl⟩ := slice_of_sub hV
  clear hV
  have hpb : sb < w.heap.size := World.block_lt_of_cell? _ _ hc
  have hc' : ((w.alloc (.cells #[.bool xv, .int .i64 xn, .slice ad (Fo.len k) c] 37)).alloc (.cells #[.bool false, .int .i64 0, .slice none 0 0] 37)).cell? ⟨sb, 0, none⟩ = some (.slice v1 s.length v3) := by rw [World.cell?_alloc_lt _ _ _ (by show sb < _; simp; omega), World.cell?_alloc_lt _ _ _ hpb]; exact hc
  go_enter Tryd.func80, Tryd.ntmps80
  go_wp2_with fail
  refine (apply_any s _ (xv, xn) k _ _ ((HV.out.alloc _).alloc _) hs ((HS.out.alloc _).alloc _) hn).mono ?_
  rintro e w1 ⟨a', rfl, hO, hb⟩
  obtain ⟨⟨⟨tv, tn⟩, tk⟩, ht⟩ : ∃ t, t = subT (bnd s) ((xv, xn), k) := ⟨_, rfl⟩
  rw [← ht] at hO ⊢
  have hO' := hO
  obtain ⟨z1, z2, z3, rfl⟩ := slice_of_sin hO.toS
  have hsz := hb.size
  simp only [World.size_alloc] at hsz
  have r0 : w1.cell? ⟨w.heap.size + 1, 0, none⟩ = some (.bool false) := grow_cell hb _ _ (new_cell (World.size_alloc _ _))
  have r1 : w1.cell? ⟨w.heap.size + 1, 1, none⟩ = some (.int .i64 0) := grow_cell hb _ _ (new_cell (World.size_alloc _ _))
  have r2 : w1.cell? ⟨w.heap.size + 1, 2, none⟩ = some (.slice none 0 0) := grow_cell hb _ _ (new_cell (World.size_alloc _ _))
  have rf : ∀ i, w1.frozen? ⟨w.heap.size + 1, i, none⟩ = false := fun i => (hb.frozen (by show w.heap.size + 1 < _; simp)).trans (new_frozen (World.size_alloc _ _))
  have hB := below_box (below_box hb)
  have HO : Hid (OwnV w1 (w.heap.size + 1 + 1) w1.heap.size tk (.slice z1 z2 z3)) := by
    have := hO
    simp only [World.size_alloc] at this
    exact this
  have Ht := hide ht
  clear hb hO hO' ht hc hc'
  simp only
  go_wp2_with fail
  refine bodyPost_ret (v := .agg #[.bool tv, .int .i64 tn, .slice z1 z2 z3]) (by simp [results, Tryd.results80, go_sem, r0, r1, r2]) rfl ⟨.slice z1 z2 z3, by rw [← Ht.out], ?_, set3_below (o := 0) hB (by omega)⟩
  rw [← Ht.out]
  exact ret_box HO.out (by omega) (by omega)
set_option maxRecDepth 100000 in
set_option maxHeartbeats 4000000 in
theorem eachA_any (s : Sb) (vs : Value) (sb : Nat) (k : Cl) (a : Value) (w : World) (h : InvA s vs sb w) (hS : CIn w k a) (hn : ∀ l ∈ k, narT l.2.1 ∧ narT l.2.2) (hlen : k.length ≤ 1000000) :
    Calls Tryd.prog 79 #[a, .func (.func 80) #[] #[.pointer (some ⟨sb, 0, none⟩)]] w fun e w' => ∃ g, e = .returned (.slice (some ⟨g, 0, none⟩) k.length k.length) ∧ CIn w' (k.map (mapL (subT (bnd s)))) (.slice (some ⟨g, 0, none⟩) k.length k.length) ∧ Below w.heap.size w w' := by
  obtain ⟨a1, c1, b1, o1, rfl, had1, hlc1, hcm1, hF1⟩ := hS
  unfold maxLen at hcm1
  have HF1 := hide hF1
  have HI := hide h
  have Hn := hide hn
  clear hF1 h hn
  obtain ⟨iL, hi, hz0, hz1, hz2⟩ := info_parts Tryd.info39
  have hmk := fun w : World => run_make (P := Tryd.prog) w 25 39 iL _ Tryd.underlying25 hi hz0 .i64 .i64 (k.length : Int) (k.length : Int) (by omega) (by omega) (by rw [hz2]; omega) (by omega)
  rw [hz1] at hmk
  simp only [Int.toNat_natCast] at hmk
  go_enter Tryd.func79, Tryd.ntmps79
  go_wp2_with fail
  clear hmk hi hz0 hz1 hz2
  have H0 : Hid (MkRel w.heap.size w (k.map (mapL (subT (bnd s)))) 0 (w.alloc (.cells (madeCells #[.bool false, .bool false, .int .i64 0, .slice none 0 0, .bool false, .int .i64 0, .slice none 0 0] (k.length * 7)) 39))) := by
    have := mk_start (W2 := w) (T := k.map (mapL (subT (bnd s)))) (z := #[.bool false, .bool false, .int .i64 0, .slice none 0 0, .bool false, .int .i64 0, .slice none 0 0])
    rw [List.length_map] at this
    exact this
  go_loopw [13] (fun i wr => ∃ j : Nat, j ≤ k.length ∧ i = .int .i64 j ∧ MkRel w.heap.size w (k.map (mapL (subT (bnd s)))) j wr) (fun i _ => k.length - (intOf i).toNat)
  case atStart => exact ⟨0, Nat.zero_le _, rfl, H0.out⟩
  case round =>
    obtain ⟨j, hj, rfl, hR⟩ := hrel
    have HR := hide hR
    obtain ⟨hB, hT, hsz, -⟩ := hR
    have hBw : Below w.heap.size w wr := hB
    by_cases hlt : j < k.length
    · have hlt' : (j : Int) < (k.length : Int) := by omega
      have hj0 : (0 : Int) ≤ (j : Int) := by omega
      obtain ⟨⟨yn, ⟨⟨yv, yi⟩, yk⟩, ⟨yv', yi'⟩, yk'⟩, hy⟩ : ∃ y, k[j]? = some y := ⟨k[j]'hlt, by simp⟩
      obtain ⟨p0, p1, p2, ⟨u3, p3, hA⟩, p4, p5, u6, p6, hD⟩ := (HF1.out.below hBw).at hy
      have ha1 : a1 = some ⟨b1, o1, none⟩ := had1 (by omega)
      subst ha1
      have HA := hide hA
      have HD := hide hD
      obtain ⟨ya, yc, _, _, rfl, -, -, -, -⟩ := hA
      obtain ⟨za, zc, _, _, rfl, -, -, -, -⟩ := hD
      have Hny := hide (Hn.out _ (List.mem_of_getElem? hy))
      obtain ⟨⟨⟨tv, ti⟩, tk⟩, ht⟩ : ∃ t, t = subT (bnd s) ((yv, yi), yk) := ⟨_, rfl⟩
      obtain ⟨⟨⟨tv', ti'⟩, tk'⟩, ht'⟩ : ∃ t, t = subT (bnd s) ((yv', yi'), yk') := ⟨_, rfl⟩
      have Hy2 : Hid ((k.map (mapL (subT (bnd s))))[j]? = some (yn, ((tv, ti), tk), ((tv', ti'), tk'))) := by rw [Hid, List.getElem?_map, hy, ht, ht']; rfl
      have Ht := hide ht
      have Ht' := hide ht'
      have hT' : There wr w.heap.size (k.length * 7) := by rw [List.length_map] at hT; exact hT
      have hfz : ∀ i, i < 7 → (∃ v, wr.cell? ⟨w.heap.size, j * 7 + i, none⟩ = some v) ∧ wr.frozen? ⟨w.heap.size, j * 7 + i, none⟩ = false := fun i hi => hT' _ (by omega)
      have Hfz := hide hfz
      clear hy had1 hT hT' ht ht' hfz hB
      simp only at *
      go_upto_region 5 with fail
      generalize hwa : wr.alloc (.cells #[.bool yn, .bool yv, .int .i64 yi, .slice ya (Fo.len yk) yc, .bool yv', .int .i64 yi', .slice za (Fo.len yk') zc] 39) = wa
      obtain ⟨g0, g1, g2, g3, g4, g5, g6, -, hba, hsa⟩ := lit_cells (T := 39) (x0 := .bool yn) (w := wr) (wr := wa) (x1 := .bool yv) (x2 := .int .i64 yi) (x3 := .slice ya (Fo.len yk) yc) (x4 := .bool yv') (x5 := .int .i64 yi') (x6 := .slice za (Fo.len yk') zc) (by rw [hwa]; exact Below.refl _ _)
      clear hwa
      have hcur : Below wa.heap.size wa wa.drew := (Below.refl _ _).drew
      have hcall1 : ∀ w' : World, Below wa.heap.size wa w' → Calls Tryd.prog 80 #[.agg #[.bool yv, .int .i64 yi, .slice ya (Fo.len yk) yc], .pointer (some ⟨sb, 0, none⟩)] w' fun e w'' => ∃ (z1 : Option Addr) (z2 z3 : Nat), e = .returned (.agg #[.bool tv, .int .i64 ti, .slice z1 z2 z3]) ∧ OwnV w'' w'.heap.size w''.heap.size tk (.slice z1 z2 z3) ∧ Below w'.heap.size w' w'' := fun w' hb => by
        have hb' := below_step (below_step hBw hba) hb
        refine (cloEA_any s vs sb (yv, yi) yk _ w' (invA_below s vs sb HI.out hb') (HA.out.below (below_step hba hb)) Hny.out.1).mono ?_
        rintro e w2 ⟨a', rfl, hO, hb⟩
        rw [← Ht.out] at hO
        obtain ⟨z1, z2, z3, rfl⟩ := slice_of_sin hO.toS
        exact ⟨z1, z2, z3, by rw [← Ht.out], hO, hb⟩
      have hcall2 : ∀ w' : World, Below wa.heap.size wa w' → Calls Tryd.prog 80 #[.agg #[.bool yv', .int .i64 yi', .slice za (Fo.len yk') zc], .pointer (some ⟨sb, 0, none⟩)] w' fun e w'' => ∃ (z1 : Option Addr) (z2 z3 : Nat), e = .returned (.agg #[.bool tv', .int .i64 ti', .slice z1 z2 z3]) ∧ OwnV w'' w'.heap.size w''.heap.size tk' (.slice z1 z2 z3) ∧ Below w'.heap.size w' w'' := fun w' hb => by
        have hb' := below_step (below_step hBw hba) hb
        refine (cloEA_any s vs sb (yv', yi') yk' _ w' (invA_below s vs sb HI.out hb') (HD.out.below (below_step hba hb)) Hny.out.2).mono ?_
        rintro e w2 ⟨a', rfl, hO, hb⟩
        rw [← Ht'.out] at hO
        obtain ⟨z1, z2, z3, rfl⟩ := slice_of_sin hO.toS
        exact ⟨z1, z2, z3, by rw [← Ht'.out], hO, hb⟩
      have Hc1 := hide hcall1
      have Hc2 := hide hcall2
      clear hcall1 hcall2 p0 p1 p2 p3 p4 p5 p6
      have hgz : w.heap.size < wr.heap.size := by omega
      have hne : wr.heap.size ≠ w.heap.size := by omega
      go_region_held3 (fun w' => w'.cell? ⟨wr.heap.size, 0, none⟩ = some (.bool yn) ∧ w'.cell? ⟨wr.heap.size, 1, none⟩ = some (.bool yv) ∧ w'.cell? ⟨wr.heap.size, 2, none⟩ = some (.int .i64 yi) ∧ w'.cell? ⟨wr.heap.size, 3, none⟩ = some (.slice ya (Fo.len yk) yc) ∧ w'.cell? ⟨wr.heap.size, 4, none⟩ = some (.bool yv') ∧ w'.cell? ⟨wr.heap.size, 5, none⟩ = some (.int .i64 yi') ∧ w'.cell? ⟨wr.heap.size, 6, none⟩ = some (.slice za (Fo.len yk') zc))
        (first
          | (with_reducible exact ⟨grow_cell hcur _ _ g0, grow_cell hcur _ _ g1, grow_cell hcur _ _ g2, grow_cell hcur _ _ g3, grow_cell hcur _ _ g4, grow_cell hcur _ _ g5, grow_cell hcur _ _ g6⟩)
          | (with_reducible exact ⟨keep7 hne (grow_cell hcur _ _ g0), keep7 hne (grow_cell hcur _ _ g1), keep7 hne (grow_cell hcur _ _ g2), keep7 hne (grow_cell hcur _ _ g3), keep7 hne (grow_cell hcur _ _ g4), keep7 hne (grow_cell hcur _ _ g5), keep7 hne (grow_cell hcur _ _ g6)⟩)
          | go_keep)
        (first
          | (go_at_call 80; with_reducible refine (Hc1.out _ hcur).mono ?_; rintro e wS ⟨z1, z2, z3, rfl, hO1, hbS⟩; replace hcur := below_step hcur hbS; have HO1 := hide (And.intro hO1 hbS); clear hO1)
          | (go_at_call 80; with_reducible refine (Hc2.out _ hcur).mono ?_; rintro e wU ⟨y1, y2, y3, rfl, hO2, hbU⟩; have hcurS := hcur; replace hcur := below_step hcur hbU; have HO2 := hide (And.intro hO2 hbU); clear hO2; have hall := below_step hba hcur; obtain ⟨⟨t0, e0⟩, f0⟩ := Hfz.out 0 (by omega); obtain ⟨⟨t1, e1⟩, f1⟩ := Hfz.out 1 (by omega); obtain ⟨⟨t2, e2⟩, f2⟩ := Hfz.out 2 (by omega); obtain ⟨⟨t3, e3⟩, f3⟩ := Hfz.out 3 (by omega); obtain ⟨⟨t4, e4⟩, f4⟩ := Hfz.out 4 (by omega); obtain ⟨⟨t5, e5⟩, f5⟩ := Hfz.out 5 (by omega); obtain ⟨⟨t6, e6⟩, f6⟩ := Hfz.out 6 (by omega); replace e0 := grow_cell hall _ _ e0; replace e1 := grow_cell hall _ _ e1; replace e2 := grow_cell hall _ _ e2; replace e3 := grow_cell hall _ _ e3; replace e4 := grow_cell hall _ _ e4; replace e5 := grow_cell hall _ _ e5; replace e6 := grow_cell hall _ _ e6; replace f0 := (hall.frozen hgz).trans f0; replace f1 := (hall.frozen hgz).trans f1; replace f2 := (hall.frozen hgz).trans f2; replace f3 := (hall.frozen hgz).trans f3; replace f4 := (hall.frozen hgz).trans f4; replace f5 := (hall.frozen hgz).trans f5; replace f6 := (hall.frozen hgz).trans f6; simp only [Nat.add_zero] at e0 f0))
      all_goals
        have Hstep : Hid (MkRel w.heap.size w (k.map (mapL (subT (bnd s)))) (j + 1) (setL wU w.heap.size (j * 7) (litV (yn, ((tv, ti), tk), ((tv', ti'), tk')) (.slice z1 z2 z3) (.slice y1 y2 y3)))) := by
          have s1 := hba.size
          have s2 := hcurS.size
          have s3 := HO1.out.2.size
          have s4 := HO2.out.2.size
          refine mk_step HR.out Hy2.out (below_step hba hcur) ?_ ?_
          · refine ((HO1.out.1.toB (X := fun q => wr.heap.size ≤ q ∧ q < wS.heap.size) (fun q q1 q2 => ⟨?_, q2⟩)).frame (fun q hq => ⟨hq.1, ?_⟩) (fun q i hq => HO2.out.2.cell ?_))
            · have q1' : wa.heap.size ≤ q := q1
              omega
            · have s4' : wS.heap.size ≤ wU.heap.size := s4
              have := hq.2
              omega
            · exact hq.2
          · refine HO2.out.1.toB (fun q q1 q2 => ⟨?_, q2⟩)
            have q1' : wS.heap.size ≤ q := q1
            omega
        go_wp2_with fail
        go_roundw
        case rel => exact ⟨j + 1, by omega, by go_num, Hstep.out⟩
        case measure => simp [intOf]; omega
    · have hje : j = k.length := by omega
      subst hje
      have Hfin : Hid (CIn wr (k.map (mapL (subT (bnd s)))) (.slice (some ⟨w.heap.size, 0, none⟩) k.length k.length)) := by
        have := HR.out
        rw [show MkRel w.heap.size w (k.map (mapL (subT (bnd s)))) k.length wr = MkRel w.heap.size w (k.map (mapL (subT (bnd s)))) (k.map (mapL (subT (bnd s)))).length wr by rw [List.length_map]] at this
        have := mk_end this (by rw [List.length_map]; unfold maxLen; omega)
        rw [List.length_map] at this
        exact this
      clear had1 hT hB
      go_wp2_with fail
      go_ret
      exact ⟨_, rfl, Hfin.out, hBw⟩
set_option maxRecDepth 100000 in
set_option maxHeartbeats 1000000 in
theorem applyC_any (s : Sb) (vs : Value) (k : Cl) (a : Value) (w : World) (hV : SubIn w s vs) (hs : ∀ p ∈ s, narT p.2 ∧ okT p.2) (hS : CIn w k a) (hn : ∀ l ∈ k, narT l.2.1 ∧ narT l.2.2) (hlen : k.length ≤ 1000000) :
    Calls Tryd.prog 68 #[vs, a] w fun e w' => ∃ g, e = .returned (.slice (some ⟨g, 0, none⟩) k.length k.length) ∧ CIn w' (k.map (mapL (subT (bnd s)))) (.slice (some ⟨g, 0, none⟩) k.length k.length) ∧ Below w.heap.size w w' := by
  have HV := hide hV
  have HS := hide hS
  obtain ⟨a1, a3, rfl⟩ := slice_of_cl hS
  obtain ⟨v1, v3, rfl⟩ := slice_of_sub hV
  clear hV hS
  go_enter Tryd.func68, Tryd.ntmps68
  go_wp2_with fail
  refine (eachA_any s (.slice v1 s.length v3) w.heap.size k _ _ ⟨by simp, HV.out.alloc _, hs⟩ (HS.out.alloc _) hn hlen).mono ?_
  rintro e w1 ⟨g, rfl, hC, hb⟩
  have HC := hide hC
  clear hC
  go_wp2_with fail
  go_ret
  exact ⟨g, rfl, HC.out, below_box hb⟩
end Go.Proofs.YtlgnpiphaeoeiadDoor

namespace Go.Proofs.YtlgnpiphaeoeiadDoor
open Go.RowKit Go.Deep Go.ChangeShapes Go.WideShapes
theorem cs_lit {w : World} {l : Lt} {a1 d1 : Option Addr} {a2 a3 d2 d3 : Nat} : Cs (w.alloc (.cells #[.bool l.1, .bool l.2.1.1.1, .int .i64 l.2.1.1.2, .slice a1 a2 a3, .bool l.2.2.1.1, .int .i64 l.2.2.1.2, .slice d1 d2 d3] 39)) (.slice (some ⟨w.heap.size, 0, none⟩) 1 1) 1 7 (litV l (.slice a1 a2 a3) (.slice d1 d2 d3)) :=
  ⟨_, 1, rfl, rfl, by simp [Value.oneCell'], fun e => by (cases e), fun ad hh j u hj => by cases hh; exact World.news_of_block (cs := #[.bool l.1, .bool l.2.1.1.1, .int .i64 l.2.1.1.2, .slice a1 a2 a3, .bool l.2.2.1.1, .int .i64 l.2.2.1.2, .slice d1 d2 d3]) (heap_alloc_new w _) j u hj⟩
theorem ownL_more {lo : Nat} {wr w3 w4 : World} {s : Cl} {v v4 : Value} {xs : List Value} {l : Lt} {a d : Value} (h : OwnL lo (XO wr v) wr s v xs) (hb : Below wr.heap.size wr w3) (hlo : lo ≤ wr.heap.size)
    (hA : SB (fun q => q < lo) w3 l.2.1.2 a) (hD : SB (fun q => q < lo) w3 l.2.2.2 d)
    (ho : w4.ownsRow lo 39 7 v4 (s.length + 1) (xs ++ litV l a d)) (hg : w3.grownBy w4 v.ownBlock) (hat : v4.ownBlock = v.ownBlock ∨ v4.ownBlock = some w3.heap.size) :
    OwnL lo (XO w4 v4) w4 (s ++ [l]) v4 (xs ++ litV l a d) ∧ Below lo wr w4 := by
  have hs := hb.size
  have hs4 := hg.size
  have hv : ∀ q, v.ownBlock = some q → lo ≤ q ∧ q < wr.heap.size := fun q hq => owns_at h.row q hq
  have noq : ∀ q, q < w3.heap.size → some q ≠ v.ownBlock → q < w4.heap.size ∧ some q ≠ v4.ownBlock := fun q hq hn => by
    refine ⟨by omega, fun e => ?_⟩
    rcases hat with e' | e'
    · exact hn (e.trans e')
    · rw [e'] at e; simp at e; omega
  have ok : ∀ q, q < lo → q < w3.heap.size ∧ some q ≠ v.ownBlock := fun q hq => by
    refine ⟨by omega, fun e => ?_⟩
    have := hv q e.symm
    omega
  refine ⟨⟨by simpa using ho, ?_, fun q hq => hq⟩, ⟨hg.os.trans hb.os, hg.tape.trans hb.tape, hg.output.trans hb.output, by omega, fun q hq => ?_⟩⟩
  · refine LC.append (LC.one ?_ ?_) ?_
    · exact hA.frame (fun q hq => noq q (ok q hq).1 (ok q hq).2) (fun q i hq => World.cell?_of_block (hg.block q (ok q hq).1 (ok q hq).2))
    · exact hD.frame (fun q hq => noq q (ok q hq).1 (ok q hq).2) (fun q i hq => World.cell?_of_block (hg.block q (ok q hq).1 (ok q hq).2))
    · refine h.cells.frame (fun q hq => noq q (by have := hq.1; omega) hq.2) (fun q i hq => World.cell?_of_block ?_)
      rw [hg.block q (by have := hq.1; omega) hq.2, hb.block q hq.1]
  · have hn : some q ≠ v.ownBlock := fun e => by have := hv q e.symm; omega
    rw [hg.block q (by omega) hn, hb.block q (by omega)]
theorem cmp_cases (a b : Tm) : cmpT a b = 0 ∨ cmpT a b = 1 ∨ cmpT a b = 2 ∨ cmpT a b = 3 := by
  unfold cmpT
  split
  · simp
  · split
    · simp
    · split <;> simp
theorem cmp_same {a b : Tm} : cmpT a b = 2 ↔ sameT a.1 a.2 b.1 b.2 = true := by
  unfold cmpT
  by_cases h : sameT a.1 a.2 b.1 b.2 = true
  · simp [h]
  · rw [if_neg h]
    constructor
    · intro e
      split at e
      · omega
      · split at e <;> omega
    · exact fun e => absurd e h
theorem cmp_less {a b : Tm} (h : cmpT a b = 1) : abvT b a = true := by
  unfold cmpT at h
  split at h
  · omega
  · split at h
    · omega
    · split at h
      · assumption
      · omega
theorem cmp_else {a b : Tm} (ha : okT a) (hb : okT b) (h : cmpT a b = 0 ∨ cmpT a b = 3) : abvT b a = false := by
  unfold cmpT at h
  split at h
  · omega
  · split at h
    · rename_i h2
      cases e : abvT b a with
      | false => rfl
      | true => exact absurd e (abv_asym ha hb h2)
    · split at h
      · omega
      · rename_i h3; simpa using h3
set_option maxRecDepth 100000 in
set_option maxHeartbeats 4000000 in
theorem turn_any (k : Cl) (a : Value) (w : World) (hS : CIn w k a) (hg : ∀ l ∈ k, Gd l.2.1 ∧ Gd l.2.2 ∧ tszR l.2.1.2 ≤ 4000000000000 ∧ tszR l.2.2.2 ≤ 4000000000000) (hlen : k.length ≤ 1000000) :
    Calls Tryd.prog 46 #[a] w fun e w' => ∃ v er d, e = .returned (.tuple #[v, .int .i64 er]) ∧ CIn w' d v ∧ ((er = 6 ∧ d = [] ∧ turnC k = none) ∨ (er = 0 ∧ turnC k = some d)) ∧ Below w.heap.size w w' := by
  obtain ⟨a1, c1, b1, oo, rfl, had1, hlc1, hcm1, hF1⟩ := hS
  unfold maxLen at hcm1
  have HF1 := hide hF1
  have HG := hide hg
  clear hF1 hg
  obtain ⟨iL, hi, hz0, hz1, hz2⟩ := info_parts Tryd.info39
  go_enter Tryd.func46, Tryd.ntmps46
  go_wp2_with fail
  go_loopw [4, 9] (fun v i wr => ∃ (j : Nat) (out : Cl) (o1 : Option Addr) (o3 : Nat) (xs : List Value), j ≤ k.length ∧ i = .int .i64 j ∧ v = .slice o1 out.length o3 ∧ out.length ≤ j ∧ turnC (k.take j) = some out ∧ OwnL w.heap.size (XO wr v) wr out v xs ∧ Below w.heap.size w wr) (fun _ i _ => k.length - (intOf i).toNat)
  case atStart => exact ⟨0, [], none, 0, [], Nat.zero_le _, rfl, rfl, Nat.le_refl _, rfl, ownL_nil _ _, Below.refl _ _⟩
  case round =>
    obtain ⟨j, out, o1, o3, xs, hj, rfl, rfl, hol, hT, hO, hBr⟩ := hrel
    have HT := hide hT
    have HO := hide hO
    clear hT hO
    have hsr := hBr.size
    by_cases hlt : j < k.length
    · have hlt' : (j : Int) < (k.length : Int) := by omega
      obtain ⟨⟨yn, ⟨⟨yv, yi⟩, yk⟩, ⟨yv', yi'⟩, yk'⟩, hy⟩ : ∃ y, k[j]? = some y := ⟨k[j]'hlt, by simp⟩
      obtain ⟨-, -, -, ⟨u3', p3', hA0⟩, -, -, u6', p6', hD0⟩ := HF1.out.at hy
      obtain ⟨p0, p1, p2, ⟨u3, p3, hA⟩, p4, p5, u6, p6, hD⟩ := (HF1.out.below hBr).at hy
      have e3 : u3' = u3 := by have := grow_cell hBr _ _ p3'; rw [p3] at this; exact (Option.some.inj this).symm
      have e6 : u6' = u6 := by have := grow_cell hBr _ _ p6'; rw [p6] at this; exact (Option.some.inj this).symm
      subst e3 e6
      have ha1 : a1 = some ⟨b1, oo, none⟩ := had1 (by omega)
      subst ha1
      have HA := hide hA
      have HD := hide hD
      have HA0 := hide hA0.toB
      have HD0 := hide hD0.toB
      obtain ⟨ya, yc, _, _, rfl, -, -, -, -⟩ := hA
      obtain ⟨za, zc, _, _, rfl, -, -, -, -⟩ := hD
      have Hgy := hide (HG.out _ (List.mem_of_getElem? hy))
      have Hy := hide hy
      have Hstep : Hid (turnC (k.take (j + 1)) = tstep (some out) (yn, ((yv, yi), yk), ((yv', yi'), yk'))) := by rw [Hid, turn_take hy, HT.out]
      have hn1 : out.length + 1 ≤ maxLen := by unfold maxLen; omega
      have hn2 : (out.length + 1) * 88 ≤ 140737488355328 := by omega
      clear hy had1 p3' p6' hA0 hD0
      simp only at *
      go_wp2_with fail
      refine (compare_any (yv, yi) yk (yv', yi') yk' _ _ _ Hgy.out.1 Hgy.out.2.1 (HA.out.alloc _) (HD.out.alloc _) Hgy.out.2.2.1 Hgy.out.2.2.2).mono ?_
      rintro e w2 ⟨rfl, hb2⟩
      obtain ⟨g0, g1, g2, g3, g4, g5, g6, gf, hb2', hlt2⟩ := lit_cells hb2
      have hB2 := below_step hBr hb2'
      clear hb2 p0 p1 p2 p3 p4 p5 p6
      rcases cmp_cases ((yv, yi), yk) ((yv', yi'), yk') with hc | hc | hc | hc
      · have Hfl : Hid (flipL (yn, ((yv, yi), yk), ((yv', yi'), yk')) = (yn, ((yv, yi), yk), ((yv', yi'), yk'))) := by
          show flipL _ = _
          unfold flipL
          rw [if_neg (by rw [cmp_else Hgy.out.1.ok Hgy.out.2.1.ok (by omega)]; simp)]
        have Hst : Hid (turnC (k.take (j + 1)) = some (out ++ [(yn, ((yv, yi), yk), ((yv', yi'), yk'))])) := by
          show turnC _ = _
          have hns : ¬ sameT (yv, yi) yk (yv', yi') yk' = true := fun h => by have := (cmp_same (a := ((yv, yi), yk)) (b := ((yv', yi'), yk'))).2 h; rw [hc] at this; omega
          rw [Hstep.out, tstep, Option.bind_some, if_neg hns, Hfl.out]
        rw [hc]
        clear hc
        have hb5 : ∀ ob, Below wr.heap.size wr (w2.alloc ob) := fun ob => below_step hb2' (below_alloc _ _)
        go_wp2_with (at_builtin; refine wpList_append_gen rfl (.tmp 31) (.tmp 33) 25 rfl w.heap.size 39 iL (.agg #[.bool false, .bool false, .int .i64 0, .slice none 0 0, .bool false, .int .i64 0, .slice none 0 0]) 7 88 Tryd.underlying25 hi hz0 hz1 hz2 rfl (by decide) (.slice o1 out.length o3) out.length xs rfl (OwnL.below HO.out (hb5 _)).row _ 1 (litV (yn, ((yv, yi), yk), ((yv', yi'), yk')) (.slice ya (Fo.len yk) yc) (.slice za (Fo.len yk') zc)) rfl cs_lit hn1 hn2 (Nat.le_trans hsr (hb5 _).size) ?_; intro v4 w4 ho4 hg4 hat4)
        obtain ⟨hO4, hB4⟩ := ownL_more (l := (yn, ((yv, yi), yk), ((yv', yi'), yk'))) HO.out (hb5 _) hsr (HA0.out.kept (fun q hq => (below_step hBr (hb5 _)).block q hq)) (HD0.out.kept (fun q hq => (below_step hBr (hb5 _)).block q hq)) ho4 hg4 hat4
        obtain ⟨r1, r3, rfl⟩ := slice_of_cl hO4.cl
        have HO4 := hide hO4
        have hBB := hBr.trans hB4
        clear hO4 ho4 hg4 hat4
        go_wp2_with fail
        go_roundw
        case rel => exact ⟨j + 1, _, r1, r3, _, by omega, by go_num, rfl, by simp; omega, Hst.out, HO4.out, hBB⟩
        case measure => simp [intOf]; omega
      · have Hfl : Hid (flipL (yn, ((yv, yi), yk), ((yv', yi'), yk')) = (yn, ((yv', yi'), yk'), ((yv, yi), yk))) := by
          show flipL _ = _
          unfold flipL
          rw [if_pos (cmp_less hc)]
        have Hst : Hid (turnC (k.take (j + 1)) = some (out ++ [(yn, ((yv', yi'), yk'), ((yv, yi), yk))])) := by
          show turnC _ = _
          have hns : ¬ sameT (yv, yi) yk (yv', yi') yk' = true := fun h => by have := (cmp_same (a := ((yv, yi), yk)) (b := ((yv', yi'), yk'))).2 h; rw [hc] at this; omega
          rw [Hstep.out, tstep, Option.bind_some, if_neg hns, Hfl.out]
        rw [hc]
        clear hc
        go_upto_region 11 with fail
        generalize hw3 : ((((((w2.setCell ⟨wr.heap.size, 1, none⟩ (.bool yv')).setCell ⟨wr.heap.size, 2, none⟩ (.int .i64 yi')).setCell ⟨wr.heap.size, 3, none⟩ (.slice za (Fo.len yk') zc)).setCell ⟨wr.heap.size, 4, none⟩ (.bool yv)).setCell ⟨wr.heap.size, 5, none⟩ (.int .i64 yi)).setCell ⟨wr.heap.size, 6, none⟩ (.slice ya (Fo.len yk) yc)) = w3
        have e3 : w3 = setL w2 wr.heap.size 1 [.bool yv', .int .i64 yi', .slice za (Fo.len yk') zc, .bool yv, .int .i64 yi, .slice ya (Fo.len yk) yc] := hw3.symm
        have hb3 : Below wr.heap.size wr w3 := by rw [e3]; exact setL_below (Nat.le_refl _) hb2'
        have at6 := setL_at (b := wr.heap.size) (xs := [.bool yv', .int .i64 yi', .slice za (Fo.len yk') zc, .bool yv, .int .i64 yi, .slice ya (Fo.len yk) yc]) (o := 1) (w := w2) (fun i hi => by
          simp at hi
          rcases i with _ | _ | _ | _ | _ | _ | i
          · exact ⟨_, g1⟩
          · exact ⟨_, g2⟩
          · exact ⟨_, g3⟩
          · exact ⟨_, g4⟩
          · exact ⟨_, g5⟩
          · exact ⟨_, g6⟩
          · omega)
        have k0 : w3.cell? ⟨wr.heap.size, 0, none⟩ = some (.bool yn) := by rw [e3, setL_other (.inr (.inl (by omega)))]; exact g0
        have k1 : w3.cell? ⟨wr.heap.size, 1, none⟩ = some (.bool yv') := by rw [e3]; exact at6 0 _ rfl
        have k2 : w3.cell? ⟨wr.heap.size, 2, none⟩ = some (.int .i64 yi') := by rw [e3]; exact at6 1 _ rfl
        have k3 : w3.cell? ⟨wr.heap.size, 3, none⟩ = some (.slice za (Fo.len yk') zc) := by rw [e3]; exact at6 2 _ rfl
        have k4 : w3.cell? ⟨wr.heap.size, 4, none⟩ = some (.bool yv) := by rw [e3]; exact at6 3 _ rfl
        have k5 : w3.cell? ⟨wr.heap.size, 5, none⟩ = some (.int .i64 yi) := by rw [e3]; exact at6 4 _ rfl
        have k6 : w3.cell? ⟨wr.heap.size, 6, none⟩ = some (.slice ya (Fo.len yk) yc) := by rw [e3]; exact at6 5 _ rfl
        clear at6 e3 hw3 g0 g1 g2 g3 g4 g5 g6 gf
        have hb5 : ∀ ob, Below wr.heap.size wr (w3.alloc ob) := fun ob => below_step hb3 (below_alloc _ _)
        go_wp2_with (at_builtin; refine wpList_append_gen rfl (.tmp 31) (.tmp 33) 25 rfl w.heap.size 39 iL (.agg #[.bool false, .bool false, .int .i64 0, .slice none 0 0, .bool false, .int .i64 0, .slice none 0 0]) 7 88 Tryd.underlying25 hi hz0 hz1 hz2 rfl (by decide) (.slice o1 out.length o3) out.length xs rfl (OwnL.below HO.out (hb5 _)).row _ 1 (litV (yn, ((yv', yi'), yk'), ((yv, yi), yk)) (.slice za (Fo.len yk') zc) (.slice ya (Fo.len yk) yc)) rfl cs_lit hn1 hn2 (Nat.le_trans hsr (hb5 _).size) ?_; intro v4 w4 ho4 hg4 hat4)
        obtain ⟨hO4, hB4⟩ := ownL_more (l := (yn, ((yv', yi'), yk'), ((yv, yi), yk))) HO.out (hb5 _) hsr (HD0.out.kept (fun q hq => (below_step hBr (hb5 _)).block q hq)) (HA0.out.kept (fun q hq => (below_step hBr (hb5 _)).block q hq)) ho4 hg4 hat4
        obtain ⟨r1, r3, rfl⟩ := slice_of_cl hO4.cl
        have HO4 := hide hO4
        have hBB := hBr.trans hB4
        clear hO4 ho4 hg4 hat4
        go_wp2_with fail
        go_roundw
        case rel => exact ⟨j + 1, _, r1, r3, _, by omega, by go_num, rfl, by simp; omega, Hst.out, HO4.out, hBB⟩
        case measure => simp [intOf]; omega
      · have hss : sameT (yv, yi) yk (yv', yi') yk' = true := cmp_same.1 hc
        rw [hc]
        clear hc
        cases yn
        · have Hst : Hid (turnC k = none) := by
            refine turn_stop (j := j + 1) ?_
            rw [Hstep.out]
            simp [tstep, hss]
          clear hss
          go_wp2_with fail
          go_ret2
          exact ⟨_, _, [], rfl, CIn.nil _, .inl ⟨rfl, rfl, Hst.out⟩, hB2⟩
        · have Hst : Hid (turnC (k.take (j + 1)) = some out) := by
            show turnC _ = _
            rw [Hstep.out]
            simp [tstep, hss]
          clear hss
          have HO2 : Hid (OwnL w.heap.size (XO w2 (.slice o1 out.length o3)) w2 out (.slice o1 out.length o3) xs) := (HO.out.below hb2').wide (fun q hq => ⟨by have := hq.1; have := hb2'.size; omega, hq.2⟩) (fun _ h => h)
          go_wp2_with fail
          go_roundw
          case rel => exact ⟨j + 1, _, o1, o3, _, by omega, by go_num, rfl, by omega, Hst.out, HO2.out, hB2⟩
          case measure => simp [intOf]; omega
      · have Hfl : Hid (flipL (yn, ((yv, yi), yk), ((yv', yi'), yk')) = (yn, ((yv, yi), yk), ((yv', yi'), yk'))) := by
          show flipL _ = _
          unfold flipL
          rw [if_neg (by rw [cmp_else Hgy.out.1.ok Hgy.out.2.1.ok (by omega)]; simp)]
        have Hst : Hid (turnC (k.take (j + 1)) = some (out ++ [(yn, ((yv, yi), yk), ((yv', yi'), yk'))])) := by
          show turnC _ = _
          have hns : ¬ sameT (yv, yi) yk (yv', yi') yk' = true := fun h => by have := (cmp_same (a := ((yv, yi), yk)) (b := ((yv', yi'), yk'))).2 h; rw [hc] at this; omega
          rw [Hstep.out, tstep, Option.bind_some, if_neg hns, Hfl.out]
        rw [hc]
        clear hc
        have hb5 : ∀ ob, Below wr.heap.size wr (w2.alloc ob) := fun ob => below_step hb2' (below_alloc _ _)
        go_wp2_with (at_builtin; refine wpList_append_gen rfl (.tmp 31) (.tmp 33) 25 rfl w.heap.size 39 iL (.agg #[.bool false, .bool false, .int .i64 0, .slice none 0 0, .bool false, .int .i64 0, .slice none 0 0]) 7 88 Tryd.underlying25 hi hz0 hz1 hz2 rfl (by decide) (.slice o1 out.length o3) out.length xs rfl (OwnL.below HO.out (hb5 _)).row _ 1 (litV (yn, ((yv, yi), yk), ((yv', yi'), yk')) (.slice ya (Fo.len yk) yc) (.slice za (Fo.len yk') zc)) rfl cs_lit hn1 hn2 (Nat.le_trans hsr (hb5 _).size) ?_; intro v4 w4 ho4 hg4 hat4)
        obtain ⟨hO4, hB4⟩ := ownL_more (l := (yn, ((yv, yi), yk), ((yv', yi'), yk'))) HO.out (hb5 _) hsr (HA0.out.kept (fun q hq => (below_step hBr (hb5 _)).block q hq)) (HD0.out.kept (fun q hq => (below_step hBr (hb5 _)).block q hq)) ho4 hg4 hat4
        obtain ⟨r1, r3, rfl⟩ := slice_of_cl hO4.cl
        have HO4 := hide hO4
        have hBB := hBr.trans hB4
        clear hO4 ho4 hg4 hat4
        go_wp2_with fail
        go_roundw
        case rel => exact ⟨j + 1, _, r1, r3, _, by omega, by go_num, rfl, by simp; omega, Hst.out, HO4.out, hBB⟩
        case measure => simp [intOf]; omega
    · have hje : j = k.length := by omega
      have Hfin : Hid (turnC k = some out) := by
        have := HT.out
        rw [hje, List.take_length] at this
        exact this
      clear had1
      go_wp2_with fail
      go_ret2
      exact ⟨_, _, out, rfl, HO.out.cl, .inr ⟨rfl, Hfin.out⟩, hBr⟩
end Go.Proofs.YtlgnpiphaeoeiadDoor

namespace Go.Proofs.YtlgnpiphaeoeiadDoor
open Go.RowKit Go.Deep Go.ChangeShapes Go.WideShapes
set_option maxRecDepth 100000 in
set_option maxHeartbeats 4000000 in
theorem distinct_any (k : Cl) (a : Value) (w : World) (hS : CIn w k a) (hlen : k.length ≤ 1000000) :
    Calls Tryd.prog 48 #[a] w fun e w' => ∃ v er d, e = .returned (.tuple #[v, .int .i64 er]) ∧ CIn w' d v ∧ ((er = 6 ∧ d = [] ∧ distC k = none) ∨ (er = 0 ∧ distC k = some d)) ∧ Below w.heap.size w w' := by
  obtain ⟨a1, c1, b1, oo, rfl, had1, hlc1, hcm1, hF1⟩ := hS
  unfold maxLen at hcm1
  have HF1 := hide hF1
  clear hF1
  obtain ⟨iL, hi, hz0, hz1, hz2⟩ := info_parts Tryd.info39
  go_enter Tryd.func48, Tryd.ntmps48
  go_wp2_with fail
  go_loopw [4, 10] (fun v i wr => ∃ (j : Nat) (out : Cl) (o1 : Option Addr) (o3 : Nat) (xs : List Value), j ≤ k.length ∧ i = .int .i64 j ∧ v = .slice o1 out.length o3 ∧ out.length ≤ j ∧ distC (k.take j) = some out ∧ OwnL w.heap.size (XO wr v) wr out v xs ∧ Below w.heap.size w wr) (fun _ i _ => k.length - (intOf i).toNat)
  case atStart => exact ⟨0, [], none, 0, [], Nat.zero_le _, rfl, rfl, Nat.le_refl _, rfl, ownL_nil _ _, Below.refl _ _⟩
  case round =>
    obtain ⟨j, out, o1, o3, xs, hj, rfl, rfl, hol, hT, hO, hBr⟩ := hrel
    have HT := hide hT
    have HO := hide hO
    clear hT hO
    have hsr := hBr.size
    by_cases hlt : j < k.length
    · have hlt' : (j : Int) < (k.length : Int) := by omega
      obtain ⟨⟨yn, ⟨⟨yv, yi⟩, yk⟩, ⟨yv', yi'⟩, yk'⟩, hy⟩ : ∃ y, k[j]? = some y := ⟨k[j]'hlt, by simp⟩
      obtain ⟨-, -, -, ⟨u3', p3', hA0⟩, -, -, u6', p6', hD0⟩ := HF1.out.at hy
      obtain ⟨p0, p1, p2, ⟨u3, p3, hA⟩, p4, p5, u6, p6, hD⟩ := (HF1.out.below hBr).at hy
      have e3 : u3' = u3 := by have := grow_cell hBr _ _ p3'; rw [p3] at this; exact (Option.some.inj this).symm
      have e6 : u6' = u6 := by have := grow_cell hBr _ _ p6'; rw [p6] at this; exact (Option.some.inj this).symm
      subst e3 e6
      have ha1 : a1 = some ⟨b1, oo, none⟩ := had1 (by omega)
      subst ha1
      have HA := hide hA
      have HD := hide hD
      have HA0 := hide hA0.toB
      have HD0 := hide hD0.toB
      obtain ⟨ya, yc, _, _, rfl, -, -, -, -⟩ := hA
      obtain ⟨za, zc, _, _, rfl, -, -, -, -⟩ := hD
      have Hy := hide hy
      have Hstep : Hid (distC (k.take (j + 1)) = dstep (some out) (yn, ((yv, yi), yk), ((yv', yi'), yk'))) := by rw [Hid, dist_take hy, HT.out]
      have hn1 : out.length + 1 ≤ maxLen := by unfold maxLen; omega
      have hn2 : (out.length + 1) * 88 ≤ 140737488355328 := by omega
      clear hy had1 p3' p6' hA0 hD0
      simp only at *
      go_wp2_with fail
      obtain ⟨m0, m1, m2, m3, m4, m5, m6, -, hbm, -⟩ := lit_cells (T := 39) (x0 := .bool yn) (w := wr) (x1 := .bool yv) (x2 := .int .i64 yi) (x3 := .slice ya (Fo.len yk) yc) (x4 := .bool yv') (x5 := .int .i64 yi') (x6 := .slice za (Fo.len yk') zc) (Below.refl _ _)
      refine (indexD_any out (yn, ((yv, yi), yk), ((yv', yi'), yk')) wr.heap.size _ _ _ _ (HO.out.cl.below hbm) ⟨m0, m1, m2, m3, m4, m5, m6, HA.out.below hbm, HD.out.below hbm⟩).mono ?_
      rintro e w2 ⟨i, rfl, hf, hb2⟩
      obtain ⟨g0, g1, g2, g3, g4, g5, g6, gf, hb2', hlt2⟩ := lit_cells hb2
      have hB2 := below_step hBr hb2'
      clear hb2 p0 p1 p2 p3 p4 p5 p6 m0 m1 m2 m3 m4 m5 m6 hbm
      rcases hf with ⟨rfl, hf⟩ | ⟨q, f, rfl, hq, hf⟩
      · have Hst : Hid (distC (k.take (j + 1)) = some (out ++ [(yn, ((yv, yi), yk), ((yv', yi'), yk'))])) := by
          show distC _ = _
          rw [Hstep.out, dstep, Option.bind_some, hf]
        clear hf
        have hb5 : ∀ ob, Below wr.heap.size wr (w2.alloc ob) := fun ob => below_step hb2' (below_alloc _ _)
        go_wp2_with (at_builtin; refine wpList_append_gen rfl (.tmp 19) (.tmp 21) 25 rfl w.heap.size 39 iL (.agg #[.bool false, .bool false, .int .i64 0, .slice none 0 0, .bool false, .int .i64 0, .slice none 0 0]) 7 88 Tryd.underlying25 hi hz0 hz1 hz2 rfl (by decide) (.slice o1 out.length o3) out.length xs rfl (OwnL.below HO.out (hb5 _)).row _ 1 (litV (yn, ((yv, yi), yk), ((yv', yi'), yk')) (.slice ya (Fo.len yk) yc) (.slice za (Fo.len yk') zc)) rfl cs_lit hn1 hn2 (Nat.le_trans hsr (hb5 _).size) ?_; intro v4 w4 ho4 hg4 hat4)
        obtain ⟨hO4, hB4⟩ := ownL_more (l := (yn, ((yv, yi), yk), ((yv', yi'), yk'))) HO.out (hb5 _) hsr (HA0.out.kept (fun q hq => (below_step hBr (hb5 _)).block q hq)) (HD0.out.kept (fun q hq => (below_step hBr (hb5 _)).block q hq)) ho4 hg4 hat4
        obtain ⟨r1, r3, rfl⟩ := slice_of_cl hO4.cl
        have HO4 := hide hO4
        have hBB := hBr.trans hB4
        clear hO4 ho4 hg4 hat4
        go_wp2_with fail
        go_roundw
        case rel => exact ⟨j + 1, _, r1, r3, _, by omega, by go_num, rfl, by simp; omega, Hst.out, HO4.out, hBB⟩
        case measure => simp [intOf]; omega
      · have hql : q < out.length := (List.getElem?_eq_some_iff.1 hq).1
        have hql' : (q : Int) < (out.length : Int) := by omega
        have hq0 : (0 : Int) ≤ (q : Int) := by omega
        obtain ⟨fn, f⟩ := f
        have HO2 : Hid (OwnL w.heap.size (XO w2 (.slice o1 out.length o3)) w2 out (.slice o1 out.length o3) xs) := (HO.out.below hb2').wide (fun q hq => ⟨by have := hq.1; have := hb2'.size; omega, hq.2⟩) (fun _ h => h)
        obtain ⟨z1, z3, zb, zo, hze, hza, -, -, hzF⟩ := HO2.out.cl
        have hz1' : o1 = some ⟨zb, zo, none⟩ := by
          have := hza (by omega)
          simp only [Value.slice.injEq] at hze
          rw [hze.1]; exact this
        subst hz1'
        have n0 := (hzF.at hq).1
        simp only at n0
        have Hst : Hid (distC (k.take (j + 1)) = if fn = yn then some out else none) := by
          show distC _ = _
          rw [Hstep.out, dstep, Option.bind_some, hf]
        clear hf hq hze hza hzF z1 z3
        have HO3 : Hid (∀ nq, OwnL w.heap.size (XO (w2.drewN nq) (.slice (some ⟨zb, zo, none⟩) out.length o3)) (w2.drewN nq) out (.slice (some ⟨zb, zo, none⟩) out.length o3) xs) := fun nq => (HO2.out.below (below_drewN (Below.refl _ _) nq)).wide (fun q hq => ⟨Nat.lt_of_lt_of_le hq.1 (below_drewN (Below.refl w2.heap.size w2) nq).size, hq.2⟩) (fun _ h => h)
        cases fn <;> cases yn
        · have Hst2 : Hid (distC (k.take (j + 1)) = some out) := by rw [Hid, Hst.out]; rfl
          go_upto_region 8 with fail
          go_quiet (fail)
          go_wp2_with fail
          go_roundw
          case rel => exact ⟨j + 1, _, _, o3, _, by omega, by go_num, rfl, by omega, Hst2.out, HO3.out _, below_drewN hB2 _⟩
          case measure => simp [intOf]; omega
        · have Hst2 : Hid (distC k = none) := dist_stop (j := j + 1) (by rw [Hst.out]; rfl)
          go_upto_region 8 with fail
          go_quiet (fail)
          go_wp2_with fail
          go_ret2
          exact ⟨_, _, [], rfl, CIn.nil _, .inl ⟨rfl, rfl, Hst2.out⟩, below_drewN hB2 _⟩
        · have Hst2 : Hid (distC k = none) := dist_stop (j := j + 1) (by rw [Hst.out]; rfl)
          go_upto_region 8 with fail
          go_quiet (fail)
          go_wp2_with fail
          go_ret2
          exact ⟨_, _, [], rfl, CIn.nil _, .inl ⟨rfl, rfl, Hst2.out⟩, below_drewN hB2 _⟩
        · have Hst2 : Hid (distC (k.take (j + 1)) = some out) := by rw [Hid, Hst.out]; rfl
          go_upto_region 8 with fail
          go_quiet (fail)
          go_wp2_with fail
          go_roundw
          case rel => exact ⟨j + 1, _, _, o3, _, by omega, by go_num, rfl, by omega, Hst2.out, HO3.out _, below_drewN hB2 _⟩
          case measure => simp [intOf]; omega
    · have hje : j = k.length := by omega
      have Hfin : Hid (distC k = some out) := by
        have := HT.out
        rw [hje, List.take_length] at this
        exact this
      clear had1
      go_wp2_with fail
      go_ret2
      exact ⟨_, _, out, rfl, HO.out.cl, .inr ⟨rfl, Hfin.out⟩, hBr⟩
end Go.Proofs.YtlgnpiphaeoeiadDoor

namespace Go.Proofs.YtlgnpiphaeoeiadDoor
open Go.RowKit Go.Deep Go.ChangeShapes Go.WideShapes
def PkRel (g : Nat) (W2 : World) (S : Sb) (j : Nat) (wr : World) : Prop :=
  Below g W2 wr ∧ There wr g (S.length * 4) ∧ g + 1 ≤ wr.heap.size ∧ ∃ xs, PC (fun q => g + 1 ≤ q ∧ q < wr.heap.size) wr (S.take j) xs ∧ ∀ i, i < xs.length → wr.cell? ⟨g, i, none⟩ = xs[i]?
theorem pk_start {W2 : World} {S : Sb} {z : Array Value} : PkRel W2.heap.size W2 S 0 (W2.alloc (.cells (madeCells z (S.length * 4)) 98)) := by
  refine ⟨below_alloc _ _, fun i hi => ⟨?_, frozen_new _ _ _ _⟩, by simp, [], rfl, fun i hi => by simp at hi⟩
  have hs : i < (madeCells z (S.length * 4)).size := by simp [madeCells]; exact hi
  exact ⟨(madeCells z (S.length * 4))[i], by simp [hs]⟩
theorem pk_step {g : Nat} {W2 wr : World} {S : Sb} {j : Nat} {n m : Int} (h : PkRel g W2 S j wr) (hl : S[j]? = some (n, vr m)) : PkRel g W2 S (j + 1) (setL wr g (j * 4) [.int .i64 n, .bool true, .int .i64 m, .slice none 0 0]) := by
  obtain ⟨hB, hT2, hs, xs, hX, hc⟩ := h
  have hj : j < S.length := (List.getElem?_eq_some_iff.1 hl).1
  have hxl : xs.length = j * 4 := by rw [hX.len, List.length_take]; rw [Nat.min_eq_left (by omega)]
  have at7 := setL_at (b := g) (xs := [.int .i64 n, .bool true, .int .i64 m, .slice none 0 0]) (o := j * 4) (w := wr) (fun i hi => (hT2 (j * 4 + i) (by simp at hi; omega)).1)
  refine ⟨setL_below (Nat.le_refl _) hB, fun i hi => ?_, by rw [setL_size]; omega, xs ++ [.int .i64 n, .bool true, .int .i64 m, .slice none 0 0], ?_, fun i hi => ?_⟩
  · obtain ⟨⟨v, hv⟩, hf⟩ := hT2 i hi
    refine ⟨?_, by rw [setL_frozen]; exact hf⟩
    by_cases hc : i < j * 4 ∨ j * 4 + 4 ≤ i
    · exact ⟨v, by rw [setL_other (.inr hc)]; exact hv⟩
    · obtain ⟨q, rfl⟩ : ∃ q, i = j * 4 + q := ⟨i - j * 4, by omega⟩
      exact ⟨_, at7 q _ (List.getElem?_eq_getElem (by simp; omega))⟩
  · rw [List.take_add_one, hl]
    refine PC.append (PC.one (t := vr m) (SB.nil _ _)) ?_
    refine hX.frame (fun q hq => ⟨by omega, by rw [setL_size]; omega⟩) (fun q i hq => setL_other (.inl (by omega)))
  · rw [List.getElem?_append]
    by_cases hc' : i < xs.length
    · rw [if_pos hc', setL_other (.inr (.inl (by omega)))]
      exact hc i hc'
    · rw [if_neg hc']
      have hi' : i - xs.length < 4 := by simp at hi; omega
      have := at7 (i - xs.length) _ (List.getElem?_eq_getElem (by simpa using hi'))
      rw [show j * 4 + (i - xs.length) = i by omega] at this
      rw [this, List.getElem?_eq_getElem (by simpa using hi')]
theorem pk_end {g : Nat} {W2 wr : World} {S : Sb} (h : PkRel g W2 S S.length wr) (hm : S.length ≤ maxLen) : SubIn wr S (.slice (some ⟨g, 0, none⟩) S.length S.length) := by
  obtain ⟨_, _, _, xs, hX, hc⟩ := h
  rw [List.take_length] at hX
  exact ⟨_, _, g, 0, rfl, fun _ => rfl, Nat.le_refl _, hm, hX.at (fun j hj => by rw [Nat.zero_add]; exact hc j hj)⟩
theorem num_len (vs : List Int) : (numS vs).length = vs.length := by simp [numS]
theorem num_at {vs : List Int} {j : Nat} (h : j < vs.length) : (numS vs)[j]? = some (vs.getD j 0, vr j) := by
  simp [numS, List.getD_eq_getElem?_getD, h]
theorem num_all (vs : List Int) : ∀ p ∈ numS vs, narT p.2 ∧ okT p.2 := fun p hp => by
  simp only [numS, List.mem_mapIdx] at hp
  obtain ⟨i, hi, rfl⟩ := hp
  exact ⟨nar_vr _, ok_vr _⟩
set_option maxRecDepth 100000 in
set_option maxHeartbeats 4000000 in
theorem number_any (k : Cl) (a : Value) (vs : List Int) (vv : Value) (w : World) (hS : CIn w k a) (hN : NIn w vs vv) (hn : ∀ l ∈ k, narT l.2.1 ∧ narT l.2.2) (hlen : k.length ≤ 1000000) (hvl : vs.length ≤ 1000000) :
    Calls Tryd.prog 49 #[a, vv] w fun e w' => ∃ g, e = .returned (.slice (some ⟨g, 0, none⟩) k.length k.length) ∧ CIn w' (k.map (mapL (subT (bnd (numS vs))))) (.slice (some ⟨g, 0, none⟩) k.length k.length) ∧ Below w.heap.size w w' := by
  have HS := hide hS
  obtain ⟨a1, a3, rfl⟩ := slice_of_cl hS
  obtain ⟨n1, n3, nb, no, rfl, hna, hnlc, hncm, hnF⟩ := hN
  unfold maxLen at hncm
  have HnF := hide hnF
  have Hn := hide hn
  clear hS hnF hn
  obtain ⟨iP, hi, hz0, hz1, hz2⟩ := info_parts Tryd.info98
  have hmk := fun w : World => run_make (P := Tryd.prog) w 68 98 iP _ Tryd.underlying68 hi hz0 .i64 .i64 (vs.length : Int) (vs.length : Int) (by omega) (by omega) (by rw [hz2]; omega) (by omega)
  rw [hz1] at hmk
  simp only [Int.toNat_natCast] at hmk
  go_enter Tryd.func49, Tryd.ntmps49
  go_wp2_with fail
  clear hmk hi hz0 hz1 hz2
  have H0 : Hid (PkRel w.heap.size w (numS vs) 0 (w.alloc (.cells (madeCells #[.int .i64 0, .bool false, .int .i64 0, .slice none 0 0] (vs.length * 4)) 98))) := by
    have := pk_start (W2 := w) (S := numS vs) (z := #[.int .i64 0, .bool false, .int .i64 0, .slice none 0 0])
    rw [num_len] at this
    exact this
  go_loopw [13] (fun i wr => ∃ j : Nat, j ≤ vs.length ∧ i = .int .i64 j ∧ PkRel w.heap.size w (numS vs) j wr) (fun i _ => vs.length - (intOf i).toNat)
  case atStart => exact ⟨0, Nat.zero_le _, rfl, H0.out⟩
  case round =>
    obtain ⟨j, hj, rfl, hR⟩ := hrel
    have HR := hide hR
    obtain ⟨hB, hT, hsz, -⟩ := hR
    have hBw : Below w.heap.size w wr := hB
    by_cases hlt : j < vs.length
    · have hlt' : (j : Int) < (vs.length : Int) := by omega
      have hj0 : (0 : Int) ≤ (j : Int) := by omega
      have hc := grow_cell hBw _ _ (HnF.out j hlt)
      have ha : n1 = some ⟨nb, no, none⟩ := hna (by omega)
      subst ha
      have hT' : There wr w.heap.size (vs.length * 4) := by rw [num_len] at hT; exact hT
      obtain ⟨⟨t0, e0⟩, f0⟩ := hT' (j * 4) (by omega)
      obtain ⟨⟨t1, e1⟩, f1⟩ := hT' (j * 4 + 1) (by omega)
      obtain ⟨⟨t2, e2⟩, f2⟩ := hT' (j * 4 + 2) (by omega)
      obtain ⟨⟨t3, e3⟩, f3⟩ := hT' (j * 4 + 3) (by omega)
      have Hstep := hide (pk_step HR.out (num_at hlt))
      generalize vs.getD j 0 = nn at *
      clear hna hT hT' hB
      go_wp2_with fail
      go_roundw
      case rel => exact ⟨j + 1, by omega, by go_num, Hstep.out⟩
      case measure => simp [intOf]; omega
    · have hje : j = vs.length := by omega
      have Hfin : Hid (SubIn wr (numS vs) (.slice (some ⟨w.heap.size, 0, none⟩) vs.length vs.length)) := by
        have h1 := HR.out
        have e : j = (numS vs).length := by rw [num_len]; exact hje
        rw [e] at h1
        have := pk_end h1 (by rw [num_len]; unfold maxLen; omega)
        rw [num_len] at this
        exact this
      clear hna hT hB
      go_wp2_with fail
      refine (applyC_any (numS vs) _ k _ wr Hfin.out (num_all vs) (HS.out.below hBw) Hn.out hlen).mono ?_
      rintro e w2 ⟨g, rfl, hC, hb2⟩
      have HC := hide hC
      have hB2 := below_step hBw hb2
      clear hC hb2
      go_wp2_with fail
      go_ret
      exact ⟨g, rfl, HC.out, hB2⟩
end Go.Proofs.YtlgnpiphaeoeiadDoor

namespace Go.Proofs.YtlgnpiphaeoeiadDoor
open Go.RowKit Go.Deep Go.ChangeShapes Go.WideShapes
theorem nin_vals {w : World} {lo : Nat} {T : List Int} {v : Value} (h : w.ownsRow lo 3 1 v T.length (vals T)) : NIn w T v := own_nin h
theorem nin_nil (w : World) : NIn w [] (.slice none 0 0) := own_nin (lo := 0) (World.ownsRow_nil _ _ _ _)
theorem varsT_grow (x : Bool × Int) (k : Fo) (v : List Int) : v.length ≤ (varsT x k v).length := by
  have key : ∀ (F : Fo) (v : List Int), v.length ≤ (varsF F v).length := by
    intro F
    induction F with
    | nil => intro v; exact Nat.le_refl _
    | node p q y l r ihl ihr =>
      intro v
      have h1 : v.length ≤ (varsT y l v).length := by
        unfold varsT
        split
        · split
          · exact Nat.le_refl _
          · simp
        · exact ihl v
      exact Nat.le_trans h1 (ihr (varsT y l v))
  unfold varsT
  split
  · split
    · exact Nat.le_refl _
    · simp
  · exact key k v
theorem varsC_grow (c : Cl) (j : Nat) (v : List Int) : (varsC (c.take j) v).length ≤ (varsC c v).length := by
  have key : ∀ (c : Cl) (v : List Int), v.length ≤ (varsC c v).length := by
    intro c
    induction c with
    | nil => intro v; exact Nat.le_refl _
    | cons l c ih =>
      intro v
      have h1 := varsT_grow l.2.1.1 l.2.1.2 v
      have h2 := varsT_grow l.2.2.1 l.2.2.2 (varsT l.2.1.1 l.2.1.2 v)
      have h3 := ih (varsL l v)
      have e : varsC (l :: c) v = varsC c (varsL l v) := rfl
      rw [e]
      simp only [varsL] at h3 ⊢
      omega
  have e : varsC c v = varsC (c.drop j) (varsC (c.take j) v) := by
    have h : varsC (c.take j ++ c.drop j) v = varsC (c.drop j) (varsC (c.take j) v) := List.foldl_append
    rw [List.take_append_drop] at h
    exact h
  rw [e]
  exact key _ _
set_option maxRecDepth 100000 in
set_option maxHeartbeats 2000000 in
theorem varsCR_any (k : Cl) (a : Value) (w : World) (hS : CIn w k a) (hb : (varsC k []).length ≤ 1000000000000) :
    Calls Tryd.prog 31 #[a] w fun e w' => ∃ v, e = .returned v ∧ NIn w' (varsC k []) v ∧ Below w.heap.size w w' := by
  obtain ⟨a1, c1, b1, o1, rfl, had1, hlc1, hcm1, hF1⟩ := hS
  unfold maxLen at hcm1
  have HF1 := hide hF1
  clear hF1
  go_enter Tryd.func31, Tryd.ntmps31
  go_wp2_with fail
  go_loopw [3, 8] (fun v i wr => ∃ (j : Nat) (z1 : Option Addr) (n z3 : Nat), j ≤ k.length ∧ i = .int .i64 j ∧ v = .slice z1 n z3 ∧ NIn wr (varsC (k.take j) []) v ∧ Below w.heap.size w wr) (fun _ i _ => k.length - (intOf i).toNat)
  case atStart => exact ⟨0, none, 0, 0, Nat.zero_le _, rfl, rfl, nin_nil _, Below.refl _ _⟩
  case round =>
    obtain ⟨j, z1, n, z3, hj, rfl, rfl, hV, hBr⟩ := hrel
    have HV := hide hV
    clear hV
    by_cases hlt : j < k.length
    · have hlt' : (j : Int) < (k.length : Int) := by omega
      obtain ⟨⟨yn, ⟨⟨yv, yi⟩, yk⟩, ⟨yv', yi'⟩, yk'⟩, hy⟩ : ∃ y, k[j]? = some y := ⟨k[j]'hlt, by simp⟩
      obtain ⟨p0, p1, p2, ⟨u3, p3, hA⟩, p4, p5, u6, p6, hD⟩ := (HF1.out.below hBr).at hy
      have ha1 : a1 = some ⟨b1, o1, none⟩ := had1 (by omega)
      subst ha1
      have HA := hide hA
      have HD := hide hD
      obtain ⟨_, _, _, _, rfl, -, -, -, -⟩ := hA
      obtain ⟨_, _, _, _, rfl, -, -, -, -⟩ := hD
      have Hy := hide hy
      have Hln : Hid ((varsT (yv, yi) yk (varsC (k.take j) [])).length ≤ 1000000000000 ∧ (varsT (yv', yi') yk' (varsT (yv, yi) yk (varsC (k.take j) []))).length ≤ 1000000000000) := by
        have h1 := varsC_take (v := []) hy
        have h2 := varsC_grow k (j + 1) []
        have h3 := varsT_grow (yv', yi') yk' (varsT (yv, yi) yk (varsC (k.take j) []))
        rw [h1] at h2
        simp only [varsL] at h2
        exact ⟨by omega, by omega⟩
      clear hy had1
      simp only at *
      go_wp2_with fail
      refine (varsR_few (yv, yi) yk _ (varsC (k.take j) []) _ _ _ rfl (HA.out.alloc _) (HV.out.alloc _) (by have := Hln.out.1; omega)).mono ?_
      rintro e w2 ⟨v2, rfl, hV2, hb2⟩
      obtain ⟨-, -, -, -, e4, e5, e6, -, hb2', -⟩ := lit_cells hb2
      have hB2 := below_step hBr hb2'
      have HD2 := hide (HD.out.below hb2')
      have HV2 := hide hV2
      obtain ⟨y1, y3, rfl⟩ := nin_slice hV2
      have Hl2 := hide (varsT_len (yv, yi) yk (varsC (k.take j) []))
      clear hb2 hV2
      go_wp2_with fail
      refine (varsR_few (yv', yi') yk' _ (varsT (yv, yi) yk (varsC (k.take j) [])) _ _ _ rfl HD2.out HV2.out (by have := Hln.out.2; omega)).mono ?_
      rintro e w3 ⟨v3, rfl, hV3, hb3⟩
      have hB3 := below_step hB2 hb3
      have HV3 := hide hV3
      obtain ⟨x1, x3, rfl⟩ := nin_slice hV3
      clear hV3
      go_wp2_with fail
      go_roundw
      case rel => exact ⟨j + 1, x1, _, x3, by omega, by go_num, rfl, by rw [varsC_take Hy.out]; exact HV3.out, hB3⟩
      case measure => simp [intOf]; omega
    · have Hfin : Hid (NIn wr (varsC k []) (.slice z1 n z3)) := by
        have e : j = k.length := by omega
        have := HV.out
        rw [e, List.take_length] at this
        exact this
      clear had1
      go_wp2_with fail
      go_ret
      exact ⟨_, rfl, Hfin.out, hBr⟩
set_option maxRecDepth 100000 in
set_option maxHeartbeats 2000000 in
theorem varsCl_any (k : Cl) (a : Value) (w : World) (hS : CIn w k a) (hb : (varsC k []).length ≤ 1000000000000) :
    Calls Tryd.prog 47 #[a] w fun e w' => ∃ v, e = .returned v ∧ NIn w' (varsC k []) v ∧ Below w.heap.size w w' := by
  obtain ⟨a1, c1, b1, o1, rfl, had1, hlc1, hcm1, hF1⟩ := hS
  unfold maxLen at hcm1
  have HF1 := hide hF1
  clear hF1
  go_enter Tryd.func47, Tryd.ntmps47
  go_wp2_with fail
  go_loopw [3, 8] (fun v i wr => ∃ (j : Nat) (z1 : Option Addr) (n z3 : Nat), j ≤ k.length ∧ i = .int .i64 j ∧ v = .slice z1 n z3 ∧ NIn wr (varsC (k.take j) []) v ∧ Below w.heap.size w wr) (fun _ i _ => k.length - (intOf i).toNat)
  case atStart => exact ⟨0, none, 0, 0, Nat.zero_le _, rfl, rfl, nin_nil _, Below.refl _ _⟩
  case round =>
    obtain ⟨j, z1, n, z3, hj, rfl, rfl, hV, hBr⟩ := hrel
    have HV := hide hV
    clear hV
    by_cases hlt : j < k.length
    · have hlt' : (j : Int) < (k.length : Int) := by omega
      obtain ⟨⟨yn, ⟨⟨yv, yi⟩, yk⟩, ⟨yv', yi'⟩, yk'⟩, hy⟩ : ∃ y, k[j]? = some y := ⟨k[j]'hlt, by simp⟩
      obtain ⟨p0, p1, p2, ⟨u3, p3, hA⟩, p4, p5, u6, p6, hD⟩ := (HF1.out.below hBr).at hy
      have ha1 : a1 = some ⟨b1, o1, none⟩ := had1 (by omega)
      subst ha1
      have HA := hide hA
      have HD := hide hD
      obtain ⟨ya, yc, _, _, rfl, -, -, -, -⟩ := hA
      obtain ⟨za, zc, _, _, rfl, -, -, -, -⟩ := hD
      have Hy := hide hy
      have Hln : Hid ((varsT (yv, yi) yk (varsC (k.take j) [])).length ≤ 1000000000000 ∧ (varsT (yv', yi') yk' (varsT (yv, yi) yk (varsC (k.take j) []))).length ≤ 1000000000000) := by
        have h1 := varsC_take (v := []) hy
        have h2 := varsC_grow k (j + 1) []
        have h3 := varsT_grow (yv', yi') yk' (varsT (yv, yi) yk (varsC (k.take j) []))
        rw [h1] at h2
        simp only [varsL] at h2
        exact ⟨by omega, by omega⟩
      have Hl2 := hide (varsT_len (yv, yi) yk (varsC (k.take j) []))
      clear hy had1
      simp only at *
      go_upto_region 5 with fail
      generalize hwa : wr.alloc (.cells #[.bool yn, .bool yv, .int .i64 yi, .slice ya (Fo.len yk) yc, .bool yv', .int .i64 yi', .slice za (Fo.len yk') zc] 39) = wa
      obtain ⟨-, g1, g2, g3, g4, g5, g6, -, hba, -⟩ := lit_cells (T := 39) (x0 := .bool yn) (w := wr) (wr := wa) (x1 := .bool yv) (x2 := .int .i64 yi) (x3 := .slice ya (Fo.len yk) yc) (x4 := .bool yv') (x5 := .int .i64 yi') (x6 := .slice za (Fo.len yk') zc) (by rw [hwa]; exact Below.refl _ _)
      clear hwa
      have HAa := hide (HA.out.below hba)
      have HDa := hide (HD.out.below hba)
      have HVa := hide (HV.out.below hba)
      have hcur : Below wa.heap.size wa wa.drew := (Below.refl _ _).drew
      go_region_held3 (fun w' => w'.cell? ⟨wr.heap.size, 1, none⟩ = some (.bool yv) ∧ w'.cell? ⟨wr.heap.size, 2, none⟩ = some (.int .i64 yi) ∧ w'.cell? ⟨wr.heap.size, 3, none⟩ = some (.slice ya (Fo.len yk) yc) ∧ w'.cell? ⟨wr.heap.size, 4, none⟩ = some (.bool yv') ∧ w'.cell? ⟨wr.heap.size, 5, none⟩ = some (.int .i64 yi') ∧ w'.cell? ⟨wr.heap.size, 6, none⟩ = some (.slice za (Fo.len yk') zc))
          (first
            | (with_reducible exact ⟨grow_cell hcur _ _ g1, grow_cell hcur _ _ g2, grow_cell hcur _ _ g3, grow_cell hcur _ _ g4, grow_cell hcur _ _ g5, grow_cell hcur _ _ g6⟩)
            | go_keep)
          (first
            | (go_at_call 62; with_reducible refine (vars_few (yv, yi) yk (.slice ya (Fo.len yk) yc) (varsC (k.take j) []) (.slice z1 n z3) _ _ rfl (HAa.out.below hcur) (HVa.out.below hcur) (by have := Hln.out.1; omega)).mono ?_; rintro e wS ⟨vS, rfl, hoS, hbS⟩; replace hcur := below_step hcur hbS; have HoS := hide (nin_vals hoS); obtain ⟨y1, y3, rfl⟩ := nin_slice HoS.out; clear hoS)
            | (go_at_call 62; with_reducible refine (vars_few (yv', yi') yk' (.slice za (Fo.len yk') zc) (varsT (yv, yi) yk (varsC (k.take j) [])) _ _ _ rfl (HDa.out.below hcur) (HoS.out.below ?_) (by have := Hln.out.2; omega)).mono ?_; (first | exact Below.refl _ _ | exact (Below.refl _ _).drew); rintro e wU ⟨vU, rfl, hoU, hbU⟩; replace hcur := below_step hcur hbU; have HoU := hide (nin_vals hoU); obtain ⟨x1, x3, rfl⟩ := nin_slice HoU.out; clear hoU))
      all_goals
        have hB2 := below_step hBr (below_step hba hcur)
        go_wp2_with fail
        go_roundw
        case rel => exact ⟨j + 1, _, _, _, by omega, by go_num, rfl, by rw [varsC_take Hy.out]; exact HoU.out, hB2⟩
        case measure => simp [intOf]; omega
    · have Hfin : Hid (NIn wr (varsC k []) (.slice z1 n z3)) := by
        have e : j = k.length := by omega
        have := HV.out
        rw [e, List.take_length] at this
        exact this
      clear had1
      go_wp2_with fail
      go_ret
      exact ⟨_, rfl, Hfin.out, hBr⟩
end Go.Proofs.YtlgnpiphaeoeiadDoor
