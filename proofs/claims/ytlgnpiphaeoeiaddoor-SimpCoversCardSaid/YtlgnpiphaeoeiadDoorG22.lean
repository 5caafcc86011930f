/- L6H L7C Open4 Open5 Trods L7CUp -/
import Derived.Test.YtlgnpiphaeoeiadDoorG21
import Derived.Test.YtlgnpiphaeoeiadDoorRows
import Derived.WalkKit
import Derived.ProofKit
import Derived.OpenShut
import Derived.Lib.SmallJoins
import Derived.Test.YtlgnpiphaeoeiadDoorChecked
import Derived.Lay
import Derived.LaidOnce
import Derived.SizedLaws
import Derived.ChangeMaps5
import Derived.Deep.DeepHandedRow
import Derived.Deep.DeepWitnessRowRef
namespace Go.Proofs.YtlgnpiphaeoeiadDoor
open Go.RowKit Go.Deep Go.ChangeShapes Go.WideShapes
attribute [local go_sem ↓] Go.wp_at_zero Go.wp_at_succ
theorem holdsD_right {s : List Int} {z : Int} {tb : List (List Int)} (hm : MR s z tb) (hs : s.all okNum = true) {k : Cl} (hr : wrongC s k = 0) (mv a : Value) (w : World) (hT : TbIn w tb mv) (hS : CIn w k a) :
    Calls Tryd.prog 16 #[.agg #[.int .i64 z, mv], a] w fun e w' => e = .returned (.bool (holdsB z tb k)) ∧ Below w.heap.size w w' :=
  holdsR_any hm hs k mv a w hT hS (sigC_right hr) (sigC_vars (sigC_right hr)).2 (sigC_vars (sigC_right hr)).1
theorem holdsD_iff {s : List Int} {z : Int} {tb : List (List Int)} (hm : MR s z tb) {k : Cl} (hr : wrongC s k = 0) : holdsB z tb k = true ↔ holdsP z tb k := holds_iff hm.z1 (sigC_vars (sigC_right hr)).1
end Go.Proofs.YtlgnpiphaeoeiadDoor

namespace Go.Proofs.YtlgnpiphaeoeiadDoor
open Go.RowKit Go.Deep Go.ChangeShapes Go.WideShapes
attribute [local go_sem ↓] Go.wp_at_zero Go.wp_at_succ
theorem cs_three {w : World} {c d f : Cl} {cv dv fv : Value} {T : TypeId} (hC : CIn w c cv) (hD : CIn w d dv) (hF : CIn w f fv) : CsIn (w.alloc (.cells #[cv, dv, fv] T)) [c, d, f] (.slice (some ⟨w.heap.size, 0, none⟩) 3 3) := by
  refine ⟨_, 3, w.heap.size, 0, rfl, fun _ => rfl, Nat.le_refl _, by unfold maxLen; omega, fun i x hx => ?_⟩
  match i, hx with
  | 0, hx =>
    simp only [List.getElem?_cons_zero, Option.some.injEq] at hx
    subst hx
    exact ⟨cv, new_cell rfl, hC.alloc _⟩
  | 1, hx =>
    simp only [List.getElem?_cons_succ, List.getElem?_cons_zero, Option.some.injEq] at hx
    subst hx
    exact ⟨dv, new_cell rfl, hD.alloc _⟩
  | 2, hx =>
    simp only [List.getElem?_cons_succ, List.getElem?_cons_zero, Option.some.injEq] at hx
    subst hx
    exact ⟨fv, new_cell rfl, hF.alloc _⟩
  | i + 3, hx => simp at hx
set_option maxRecDepth 100000 in
set_option maxHeartbeats 8000000 in
theorem simpCovers_of (s : List Int) (sv : Value) (c : Cl) (cv : Value) (d : Cl) (dv : Value) (f : Cl) (fv : Value) (z : Int) (tb : List (List Int)) (mv : Value) (w : World) (hN : NIn w s sv) (hC : CIn w c cv) (hD : CIn w d dv) (hF : CIn w f fv) (hT : TbIn w tb mv) (hnc : ∀ l ∈ c, Fo.norm l.2.1.2 = l.2.1.2 ∧ Fo.norm l.2.2.2 = l.2.2.2) (hnd : ∀ l ∈ d, Fo.norm l.2.1.2 = l.2.1.2 ∧ Fo.norm l.2.2.2 = l.2.2.2) (hnf : ∀ l ∈ f, Fo.norm l.2.1.2 = l.2.1.2 ∧ Fo.norm l.2.2.2 = l.2.2.2) :
    Calls Tryd.prog 5 #[sv, cv, dv, fv, .agg #[.int .i64 z, mv]] w fun e w' => e = .returned (.bool true) ∧ Below w.heap.size w w' := by
  have HN := hide hN
  have HC := hide hC
  have HD := hide hD
  have HF := hide hF
  have HT := hide hT
  obtain ⟨sa, sc, _, _, rfl, -, -, -, -⟩ := hN
  obtain ⟨c1, c3, rfl⟩ := slice_of_cl hC
  obtain ⟨d1, d3, rfl⟩ := slice_of_cl hD
  obtain ⟨f1, f3, rfl⟩ := slice_of_cl hF
  obtain ⟨ta, tc, rfl⟩ := tb_slice hT
  have Hnc := hide hnc
  have Hnd := hide hnd
  have Hnf := hide hnf
  clear hC hD hF hT hnc hnd hnf
  go_enter Tryd.func5, Tryd.ntmps5
  go_upto_region 1 with fail
  generalize hW0 : w.alloc (.cells #[.int .i64 z, .slice ta tb.length tc] 29) = wn
  have hB : Below w.heap.size w wn := by rw [← hW0]; exact below_alloc _ _
  have m0 : wn.cell? ⟨w.heap.size, 0, none⟩ = some (.int .i64 z) := by rw [← hW0]; exact new_cell rfl
  have m1 : wn.cell? ⟨w.heap.size, 1, none⟩ = some (.slice ta tb.length tc) := by rw [← hW0]; exact new_cell rfl
  generalize w.heap.size = bl at m0 m1 ⊢
  clear hW0
  go_wp2_with fail
  refine (alive7_any _).mono ?_
  rintro e w1 ⟨rfl, hb⟩
  replace hB := below_step hB hb
  replace m0 := grow_cell hb _ _ m0
  replace m1 := grow_cell hb _ _ m1
  clear hb
  generalize w1 = wn at *
  obtain ⟨B, hBe⟩ : ∃ B, rightC s [c, d, f] = B := ⟨_, rfl⟩
  obtain ⟨er, her⟩ : ∃ er, wrongM s z tb = er := ⟨_, rfl⟩
  have HBe := hide hBe
  have Her := hide her
  have Hr : Hid (∀ wn : World, Below w.heap.size w wn → Calls Tryd.prog 7 #[.slice sa s.length sc, .slice (some ⟨wn.heap.size, 0, none⟩) 3 3] (wn.alloc (.cells #[.slice c1 c.length c3, .slice d1 d.length d3, .slice f1 f.length f3] 25)) fun e w' => e = .returned (.bool B) ∧ Below wn.heap.size wn w') := fun wn hb => by
    refine (rightR_any s _ [c, d, f] _ _ ((HN.out.below hb).alloc _) (cs_three (T := 25) (HC.out.below hb) (HD.out.below hb) (HF.out.below hb))).mono ?_
    rintro e w' ⟨rfl, hb'⟩
    exact ⟨by rw [hBe], below_box hb'⟩
  clear hBe her
  go_wp2_with fail
  refine (Hr.out _ hB).mono ?_
  rintro e w1 ⟨rfl, hb⟩
  replace hB := below_step hB hb
  replace m0 := grow_cell hb _ _ m0
  replace m1 := grow_cell hb _ _ m1
  clear hb
  generalize w1 = wn at *
  cases B
  · go_wp2_with fail
    refine (Hr.out _ hB).mono ?_
    rintro e w1 ⟨rfl, hb⟩
    replace hB := below_step hB hb
    clear hb Hr
    go_wp2_with fail
    go_ret
    exact ⟨rfl, hB⟩
  · have Hrt := hide (rightC_iff.1 HBe.out)
    have Hs : Hid (s.all okNum = true) := (wsig_ok Hrt.out.1).1
    have Hwc : Hid (wrongC s c = 0) := Hrt.out.2.2 c (by simp)
    have Hwd : Hid (wrongC s d = 0) := Hrt.out.2.2 d (by simp)
    have Hwf : Hid (wrongC s f = 0) := Hrt.out.2.2 f (by simp)
    have Hgc := hide (gc_rightN6 Hs.out Hnc.out Hwc.out)
    have Hgd := hide (gc_rightN6 Hs.out Hnd.out Hwd.out)
    have Hgf := hide (gc_rightN6 Hs.out Hnf.out Hwf.out)
    have Hwm : Hid (∀ wn : World, Below w.heap.size w wn → Calls Tryd.prog 9 #[.slice sa s.length sc, .agg #[.int .i64 z, .slice ta tb.length tc]] wn fun e w' => e = .returned (.int .i64 er) ∧ Below wn.heap.size wn w') := fun wn hb => by
      rw [← Her.out]
      exact wrongMR_any s _ z tb _ _ (HN.out.below hb) (HT.out.below hb) Hs.out
    go_wp2_with fail
    refine (Hwm.out _ hB).mono ?_
    rintro e w1 ⟨rfl, hb⟩
    replace hB := below_step hB hb
    replace m0 := grow_cell hb _ _ m0
    replace m1 := grow_cell hb _ _ m1
    clear hb
    generalize w1 = wn at *
    by_cases hm : er = 0
    case neg =>
      have heb : (er != 0) = true := by simp [hm]
      clear hm
      go_wp2_with fail
      refine (Hr.out _ hB).mono ?_
      rintro e w1 ⟨rfl, hb⟩
      replace hB := below_step hB hb
      replace m0 := grow_cell hb _ _ m0
      replace m1 := grow_cell hb _ _ m1
      clear hb
      generalize w1 = wn at *
      go_wp2_with fail
      refine (Hwm.out _ hB).mono ?_
      rintro e w1 ⟨rfl, hb⟩
      replace hB := below_step hB hb
      clear hb m0 m1 Hr Hwm
      go_wp2_with fail
      go_ret
      first | exact ⟨rfl, hB⟩ | exact ⟨by simp only [heb]; rfl, hB⟩
    case pos =>
      subst hm
      have Hm := hide (wrongM_ok Her.out)
      clear Hr Hwm
      have key : ∀ (x y : Cl) (xv yv : Value) (wn : World), Below w.heap.size w wn → GC x → GC y → CIn w x xv → CIn w y yv → Calls Tryd.prog 18 #[xv, yv] wn fun e w' => e = .returned (.bool (covT x y)) ∧ Below wn.heap.size wn w' := fun x y xv yv wn hb gx gy hX hY =>
        coversP_any x y _ _ wn (hX.below hb) (hY.below hb) gx.1 (fun l hl => ⟨(gx.2 l hl).sl, (gx.2 l hl).sr⟩) (fun l hl => ⟨(gy.2 l hl).gl, (gy.2 l hl).gr⟩)
      have K1 := hide (fun wn hb => key c c _ _ wn hb Hgc.out Hgc.out HC.out HC.out)
      rw [cov_self (fun l hl => (Hgc.out.2 l hl).okl)] at K1
      have K2 := hide (fun wn hb => key c d _ _ wn hb Hgc.out Hgd.out HC.out HD.out)
      have K3 := hide (fun wn hb => key d f _ _ wn hb Hgd.out Hgf.out HD.out HF.out)
      have K4 := hide (fun wn hb => key c f _ _ wn hb Hgc.out Hgf.out HC.out HF.out)
      clear key
      obtain ⟨b2, h2⟩ : ∃ b, covT c d = b := ⟨_, rfl⟩
      obtain ⟨b3, h3⟩ : ∃ b, covT d f = b := ⟨_, rfl⟩
      rw [h2] at K2
      rw [h3] at K3
      have H2 := hide h2
      have H3 := hide h3
      clear h2 h3
      have Hh : Hid (∀ wn : World, Below w.heap.size w wn → Calls Tryd.prog 16 #[.agg #[.int .i64 z, .slice ta tb.length tc], .slice c1 c.length c3] wn fun e w' => e = .returned (.bool (holdsB z tb c)) ∧ Below wn.heap.size wn w') := fun wn hb => holdsD_right Hm.out Hs.out Hwc.out _ _ wn (HT.out.below hb) (HC.out.below hb)
      have Hh2 : Hid (∀ wn : World, Below w.heap.size w wn → Calls Tryd.prog 16 #[.agg #[.int .i64 z, .slice ta tb.length tc], .slice d1 d.length d3] wn fun e w' => e = .returned (.bool (holdsB z tb d)) ∧ Below wn.heap.size wn w') := fun wn hb => holdsD_right Hm.out Hs.out Hwd.out _ _ wn (HT.out.below hb) (HD.out.below hb)
      obtain ⟨hc1, hc2⟩ : ∃ b, holdsB z tb c = b := ⟨_, rfl⟩
      rw [hc2] at Hh
      have Hc2 := hide hc2
      clear hc2
      go_wp2_with fail
      refine (K1.out _ hB).mono ?_
      rintro e w1 ⟨rfl, hb⟩
      replace hB := below_step hB hb
      replace m0 := grow_cell hb _ _ m0
      replace m1 := grow_cell hb _ _ m1
      clear hb K1
      generalize w1 = wn at *
      go_wp2_with fail
      refine (K2.out _ hB).mono ?_
      rintro e w1 ⟨rfl, hb⟩
      replace hB := below_step hB hb
      replace m0 := grow_cell hb _ _ m0
      replace m1 := grow_cell hb _ _ m1
      clear hb K2
      generalize w1 = wn at *
      cases b2
      case false =>
        go_wp2_with fail
        go_ret
        exact ⟨rfl, hB⟩
      case true =>
        go_wp2_with fail
        refine (Hh.out _ hB).mono ?_
        rintro e w1 ⟨rfl, hb⟩
        replace hB := below_step hB hb
        replace m0 := grow_cell hb _ _ m0
        replace m1 := grow_cell hb _ _ m1
        clear hb Hh
        generalize w1 = wn at *
        cases hc1
        case false =>
          go_wp2_with fail
          refine (K3.out _ hB).mono ?_
          rintro e w1 ⟨rfl, hb⟩
          replace hB := below_step hB hb
          clear hb K3
          generalize w1 = wn at *
          cases b3
          case false =>
            go_wp2_with fail
            go_ret
            exact ⟨rfl, hB⟩
          case true =>
            rw [cov_trans (fun l hl => (Hgd.out.2 l hl).okl) (fun l hl => (Hgf.out.2 l hl).okl) H2.out H3.out] at K4
            go_wp2_with fail
            refine (K4.out _ hB).mono ?_
            rintro e w1 ⟨rfl, hb⟩
            replace hB := below_step hB hb
            clear hb K4
            go_wp2_with fail
            go_ret
            exact ⟨rfl, hB⟩
        case true =>
          have hd : holdsB z tb d = true := (holdsD_iff Hm.out Hwd.out).2 (cov_holds Hm.out Hs.out (fun l hl => (Hgd.out.2 l hl).okl) (sym_right Hwd.out) H2.out ((holdsD_iff Hm.out Hwc.out).1 Hc2.out))
          rw [hd] at Hh2
          clear hd
          go_wp2_with fail
          refine (Hh2.out _ hB).mono ?_
          rintro e w1 ⟨rfl, hb⟩
          replace hB := below_step hB hb
          clear hb Hh2 m0 m1
          generalize w1 = wn at *
          go_wp2_with fail
          refine (K3.out _ hB).mono ?_
          rintro e w1 ⟨rfl, hb⟩
          replace hB := below_step hB hb
          clear hb K3
          generalize w1 = wn at *
          cases b3
          case false =>
            go_wp2_with fail
            go_ret
            exact ⟨rfl, hB⟩
          case true =>
            rw [cov_trans (fun l hl => (Hgd.out.2 l hl).okl) (fun l hl => (Hgf.out.2 l hl).okl) H2.out H3.out] at K4
            go_wp2_with fail
            refine (K4.out _ hB).mono ?_
            rintro e w1 ⟨rfl, hb⟩
            replace hB := below_step hB hb
            clear hb K4
            go_wp2_with fail
            go_ret
            exact ⟨rfl, hB⟩
end Go.Proofs.YtlgnpiphaeoeiadDoor

namespace Go.Proofs.YtlgnpiphaeoeiadDoor
open Go.ChangeShapes Go.WideShapes Go.ChangeAt Go.WideMaps Go.WideElems Go.RowKit Go.Deep Go.Joins
theorem Tryd.cells39 : Tryd.prog.cellsOf 39 = 7 := by kernel_rfl
section
variable {H : Type} {enc : TypeId × Value → H} {W : World} {sp : Nat → Bool} {held : Bool}
set_option maxRecDepth 100000 in
theorem open_lit {fuel : Nat} {cs : List Value} {x : DataW H × List MemPlace} (h : DataW.trod enc Tryd.prog W 0 sp held fuel 39 cs = some x) :
    ∃ (l : Lt) (a d : Value), cs = litV l a d ∧ SIn W l.2.1.2 a ∧ SIn W l.2.2.2 d := by
  obtain ⟨xs, m, rfl, _, hl, hlen, hf⟩ := DataW.trod_struct Tryd.underlying39 h
  rw [Tryd.cells39] at hl
  match xs, hlen, cs, hl with
  | [y0, y1, y2], _, [c0, c1, c2, c3, c4, c5, c6], _ =>
    have q0 := hf 0 _ rfl
    have q1 := hf 1 _ rfl
    have q2 := hf 2 _ rfl
    simp [Tryd.cells4, Tryd.cells37] at q0 q1 q2
    obtain ⟨n, e0, _⟩ := DataW.trod_bool Tryd.underlying4 q0
    obtain ⟨v, z, a, m', y, _, e1, hy⟩ := open_term q1
    obtain ⟨k, hk⟩ := open_terms _ _ _ hy
    obtain ⟨v', z', a', m'', y', _, e2, hy'⟩ := open_term q2
    obtain ⟨k', hk'⟩ := open_terms _ _ _ hy'
    simp only [List.cons.injEq, and_true] at e0 e1 e2
    obtain ⟨rfl, rfl, rfl⟩ := e1
    obtain ⟨rfl, rfl, rfl⟩ := e2
    subst e0
    exact ⟨(n, ((v, z), k), ((v', z'), k')), c3, c6, rfl, hk, hk'⟩
theorem build_cl {b : Nat} : ∀ (n o : Nat), (∀ i, i < n → ∃ (l : Lt) (a d : Value), W.cell? ⟨b, o + 7 * i, none⟩ = some (.bool l.1) ∧ W.cell? ⟨b, o + 7 * i + 1, none⟩ = some (.bool l.2.1.1.1) ∧ W.cell? ⟨b, o + 7 * i + 2, none⟩ = some (.int .i64 l.2.1.1.2) ∧ W.cell? ⟨b, o + 7 * i + 3, none⟩ = some a ∧ W.cell? ⟨b, o + 7 * i + 4, none⟩ = some (.bool l.2.2.1.1) ∧ W.cell? ⟨b, o + 7 * i + 5, none⟩ = some (.int .i64 l.2.2.1.2) ∧ W.cell? ⟨b, o + 7 * i + 6, none⟩ = some d ∧ SIn W l.2.1.2 a ∧ SIn W l.2.2.2 d) → ∃ s : Cl, s.length = n ∧ LIn W s b o
  | 0, _, _ => ⟨[], rfl, trivial⟩
  | n + 1, o, h => by
    obtain ⟨s, hl, hP⟩ := build_cl n (o + 7) (fun i hi => by
      have := h (i + 1) (by omega)
      rw [show o + 7 * (i + 1) = o + 7 + 7 * i by omega] at this
      exact this)
    obtain ⟨l, a, d, h0, h1, h2, h3, h4, h5, h6, h7, h8⟩ := h 0 (by omega)
    exact ⟨l :: s, by simp [hl], ⟨by simpa using h0, by simpa using h1, by simpa using h2, ⟨a, by simpa using h3, h7⟩, by simpa using h4, by simpa using h5, d, by simpa using h6, h8⟩, hP⟩
set_option maxRecDepth 100000 in
theorem open_cl {r : Reach} {b0 : Nat} {v : Value} {d : DataW H} {p : List MemPlace} (hv : Value.okWide Tryd.prog W r b0 25 v) (h : DataW.Trod enc Tryd.prog W 0 sp held 25 v d p) : ∃ s : Cl, CIn W s v := by
  obtain ⟨a0, len0, cap0, rfl⟩ := okWide_slice Tryd.underlying25 hv
  obtain ⟨fuel, hf⟩ := h
  rcases DataW.trod_slice Tryd.underlying25 hf with ⟨hc, _⟩ | ⟨a, len, cap, elems, rest, n, hfuel, hc, _, _, hlc, hcm, hlen, hel, _, _⟩
  · simp [Value.cells] at hc
    obtain ⟨rfl, rfl, rfl⟩ := hc
    exact ⟨[], CIn.nil W⟩
  · simp [Value.cells] at hc
    obtain ⟨rfl, rfl, rfl⟩ := hc
    rw [Tryd.cells39] at hel
    obtain ⟨b, o, spot⟩ := a
    have hone : ∀ i, i < len0 → ∃ (l : Lt) (a d : Value), W.cell? ((⟨b, o, spot⟩ : Addr).add (i * 7)) = some (.bool l.1) ∧ W.cell? (((⟨b, o, spot⟩ : Addr).add (i * 7)).add 1) = some (.bool l.2.1.1.1) ∧ W.cell? (((⟨b, o, spot⟩ : Addr).add (i * 7)).add 2) = some (.int .i64 l.2.1.1.2) ∧ W.cell? (((⟨b, o, spot⟩ : Addr).add (i * 7)).add 3) = some a ∧ W.cell? (((⟨b, o, spot⟩ : Addr).add (i * 7)).add 4) = some (.bool l.2.2.1.1) ∧ W.cell? (((⟨b, o, spot⟩ : Addr).add (i * 7)).add 5) = some (.int .i64 l.2.2.1.2) ∧ W.cell? (((⟨b, o, spot⟩ : Addr).add (i * 7)).add 6) = some d ∧ SIn W l.2.1.2 a ∧ SIn W l.2.2.2 d := fun i hi => by
      have h1 := hel i hi
      have hi' : i < elems.length := by omega
      rw [List.getElem?_eq_getElem hi'] at h1
      obtain ⟨cs, h2, h3⟩ := Option.bind_eq_some_iff.1 h1
      obtain ⟨_, hl3, hcell⟩ := World.cells?_some h2
      obtain ⟨l, ta, td, rfl, hk, hk'⟩ := open_lit h3
      exact ⟨l, ta, td, by simpa [Addr.add] using hcell 0 (by omega), by simpa using hcell 1 (by omega), by simpa using hcell 2 (by omega), by simpa using hcell 3 (by omega), by simpa using hcell 4 (by omega), by simpa using hcell 5 (by omega), by simpa using hcell 6 (by omega), hk, hk'⟩
    by_cases h0 : len0 = 0
    · subst h0
      exact ⟨[], _, cap0, 0, 0, rfl, fun h => by simp at h, Nat.zero_le _, hcm, trivial⟩
    · have hspot : spot = none := by
        obtain ⟨x, v, _, q0, _⟩ := hone 0 (by omega)
        simpa [Addr.add] using World.cell?_spot q0
      subst hspot
      obtain ⟨s, hs1, hs2⟩ := build_cl (W := W) (b := b) len0 o (fun i hi => by
        obtain ⟨l, a, d, q0, q1, q2, q3, q4, q5, q6, q7, q8⟩ := hone i hi
        refine ⟨l, a, d, ?_, ?_, ?_, ?_, ?_, ?_, ?_, q7, q8⟩
        · rw [add_plain] at q0; rw [Nat.mul_comm 7 i]; exact q0
        · rw [add_plain, add_plain] at q1; rw [Nat.mul_comm 7 i]; exact q1
        · rw [add_plain, add_plain] at q2; rw [Nat.mul_comm 7 i]; exact q2
        · rw [add_plain, add_plain] at q3; rw [Nat.mul_comm 7 i]; exact q3
        · rw [add_plain, add_plain] at q4; rw [Nat.mul_comm 7 i]; exact q4
        · rw [add_plain, add_plain] at q5; rw [Nat.mul_comm 7 i]; exact q5
        · rw [add_plain, add_plain] at q6; rw [Nat.mul_comm 7 i]; exact q6)
      exact ⟨s, _, cap0, b, o, by rw [hs1], fun _ => rfl, by omega, hcm, hs2⟩
end
def normCl (s : Cl) : Cl := s.map fun l => (l.1, (l.2.1.1, Fo.norm l.2.1.2), (l.2.2.1, Fo.norm l.2.2.2))
theorem lin_norm {w : World} : ∀ {s : Cl} {b o : Nat}, LIn w s b o → LIn w (normCl s) b o
  | [], _, _, _ => trivial
  | _ :: _, _, _, ⟨⟨h0, h1, h2, ⟨v, h3, h4⟩, h5, h6, u, h7, h8⟩, h9⟩ => ⟨⟨h0, h1, h2, ⟨v, h3, sin_norm h4⟩, h5, h6, u, h7, sin_norm h8⟩, lin_norm h9⟩
theorem cl_norm {w : World} {s : Cl} {v : Value} (h : CIn w s v) : CIn w (normCl s) v := by
  obtain ⟨a, c, b, o, rfl, h2, h3, h4, h5⟩ := h
  exact ⟨a, c, b, o, by simp [normCl], by simpa [normCl] using h2, by simpa [normCl] using h3, h4, lin_norm h5⟩
theorem normCl_norm {s : Cl} : ∀ l ∈ normCl s, Fo.norm l.2.1.2 = l.2.1.2 ∧ Fo.norm l.2.2.2 = l.2.2.2 := fun p hp => by
  simp only [normCl, List.mem_map] at hp
  obtain ⟨q, _, rfl⟩ := hp
  exact ⟨norm_norm _, norm_norm _⟩
end Go.Proofs.YtlgnpiphaeoeiadDoor

namespace Go.Proofs.YtlgnpiphaeoeiadDoor
open Go.ChangeShapes Go.WideShapes Go.ChangeAt Go.WideMaps Go.WideElems Go.RowKit Go.Deep Go.Joins
theorem Tryd.cells22 : Tryd.prog.cellsOf 22 = 1 := by kernel_rfl
theorem Tryd.cells29 : Tryd.prog.cellsOf 29 = 2 := by kernel_rfl
section
variable {H : Type} {enc : TypeId × Value → H} {W : World} {sp : Nat → Bool} {held : Bool}
theorem build_nums {b : Nat} : ∀ (n o : Nat), (∀ i, i < n → ∃ x : Int, W.cell? ⟨b, o + i, none⟩ = some (.int .i64 x)) → ∃ l : List Int, l.length = n ∧ ∀ i, i < n → W.cell? ⟨b, o + i, none⟩ = some (.int .i64 (l.getD i 0))
  | 0, _, _ => ⟨[], rfl, fun i hi => by omega⟩
  | n + 1, o, h => by
    obtain ⟨l, hl, hc⟩ := build_nums n (o + 1) (fun i hi => by
      have := h (i + 1) (by omega)
      rw [show o + (i + 1) = o + 1 + i by omega] at this
      exact this)
    obtain ⟨x, hx⟩ := h 0 (by omega)
    refine ⟨x :: l, by simp [hl], fun i hi => ?_⟩
    cases i with
    | zero => simpa using hx
    | succ i =>
      have := hc i (by omega)
      rw [show o + 1 + i = o + (i + 1) by omega] at this
      simpa using this
theorem build_rows {b : Nat} : ∀ (n o : Nat), (∀ i, i < n → ∃ (l : List Int) (v : Value), W.cell? ⟨b, o + i, none⟩ = some v ∧ NIn W l v) → ∃ L : List (List Int), L.length = n ∧ ∀ i, i < n → ∃ v, W.cell? ⟨b, o + i, none⟩ = some v ∧ NIn W (L.getD i []) v
  | 0, _, _ => ⟨[], rfl, fun i hi => by omega⟩
  | n + 1, o, h => by
    obtain ⟨L, hl, hc⟩ := build_rows n (o + 1) (fun i hi => by
      have := h (i + 1) (by omega)
      rw [show o + (i + 1) = o + 1 + i by omega] at this
      exact this)
    obtain ⟨l, v, hx, hv⟩ := h 0 (by omega)
    refine ⟨l :: L, by simp [hl], fun i hi => ?_⟩
    cases i with
    | zero => exact ⟨v, by simpa using hx, by simpa using hv⟩
    | succ i =>
      obtain ⟨u, hu, hN⟩ := hc i (by omega)
      rw [show o + 1 + i = o + (i + 1) by omega] at hu
      exact ⟨u, hu, by simpa using hN⟩
set_option maxRecDepth 100000 in
theorem open_row {fuel : Nat} {v : Value} {x : DataW H × List MemPlace} (h : DataW.trod enc Tryd.prog W 0 sp held fuel 22 [v] = some x) : ∃ l : List Int, NIn W l v := by
  rcases DataW.trod_slice Tryd.underlying22 h with ⟨hc, _⟩ | ⟨a, len, cap, elems, rest, n, hfuel, hc, _, _, hlc, hcm, hlen, hel, _, _⟩
  · simp only [List.cons.injEq, and_true] at hc
    subst hc
    exact ⟨[], none, 0, 0, 0, rfl, fun h => by simp at h, Nat.le_refl _, Nat.zero_le _, fun i hi => by simp at hi⟩
  · simp only [List.cons.injEq, and_true] at hc
    subst hc
    rw [Tryd.cells3] at hel
    obtain ⟨b, o, spot⟩ := a
    have hone : ∀ i, i < len → ∃ x : Int, W.cell? ((⟨b, o, spot⟩ : Addr).add (i * 1)) = some (.int .i64 x) := fun i hi => by
      have h1 := hel i hi
      have hi' : i < elems.length := by omega
      rw [List.getElem?_eq_getElem hi'] at h1
      obtain ⟨cs, h2, h3⟩ := Option.bind_eq_some_iff.1 h1
      obtain ⟨_, hl3, hcell⟩ := World.cells?_some h2
      obtain ⟨n, e1, _, _⟩ := DataW.trod_int Tryd.underlying3 h3
      subst e1
      exact ⟨n, by simpa [Addr.add] using hcell 0 (by omega)⟩
    by_cases h0 : len = 0
    · subst h0
      exact ⟨[], _, cap, 0, 0, rfl, fun h => by simp at h, Nat.zero_le _, hcm, fun i hi => by simp at hi⟩
    · have hspot : spot = none := by
        obtain ⟨x, q0⟩ := hone 0 (by omega)
        simpa [Addr.add] using World.cell?_spot q0
      subst hspot
      obtain ⟨l, hl1, hl2⟩ := build_nums (W := W) (b := b) len o (fun i hi => by
        obtain ⟨x, q0⟩ := hone i hi
        rw [add_plain, Nat.mul_one] at q0
        exact ⟨x, q0⟩)
      exact ⟨l, _, cap, b, o, by rw [hl1], fun _ => rfl, by omega, hcm, fun i hi => hl2 i (by omega)⟩
set_option maxRecDepth 100000 in
theorem open_tb {fuel : Nat} {v : Value} {x : DataW H × List MemPlace} (h : DataW.trod enc Tryd.prog W 0 sp held fuel 27 [v] = some x) : ∃ L : List (List Int), TbIn W L v := by
  rcases DataW.trod_slice Tryd.underlying27 h with ⟨hc, _⟩ | ⟨a, len, cap, elems, rest, n, hfuel, hc, _, _, hlc, hcm, hlen, hel, _, _⟩
  · simp only [List.cons.injEq, and_true] at hc
    subst hc
    exact ⟨[], none, 0, 0, 0, rfl, fun h => by simp at h, Nat.le_refl _, Nat.zero_le _, fun i hi => by simp at hi⟩
  · simp only [List.cons.injEq, and_true] at hc
    subst hc
    rw [Tryd.cells22] at hel
    obtain ⟨b, o, spot⟩ := a
    have hone : ∀ i, i < len → ∃ (l : List Int) (u : Value), W.cell? ((⟨b, o, spot⟩ : Addr).add (i * 1)) = some u ∧ NIn W l u := fun i hi => by
      have h1 := hel i hi
      have hi' : i < elems.length := by omega
      rw [List.getElem?_eq_getElem hi'] at h1
      obtain ⟨cs, h2, h3⟩ := Option.bind_eq_some_iff.1 h1
      obtain ⟨_, hl3, hcell⟩ := World.cells?_some h2
      match cs, hl3 with
      | [u], _ =>
        obtain ⟨l, hl⟩ := open_row h3
        exact ⟨l, u, by simpa [Addr.add] using hcell 0 (by omega), hl⟩
    by_cases h0 : len = 0
    · subst h0
      exact ⟨[], _, cap, 0, 0, rfl, fun h => by simp at h, Nat.zero_le _, hcm, fun i hi => by simp at hi⟩
    · have hspot : spot = none := by
        obtain ⟨x, u, q0, _⟩ := hone 0 (by omega)
        simpa [Addr.add] using World.cell?_spot q0
      subst hspot
      obtain ⟨L, hl1, hl2⟩ := build_rows (W := W) (b := b) len o (fun i hi => by
        obtain ⟨x, u, q0, q1⟩ := hone i hi
        rw [add_plain, Nat.mul_one] at q0
        exact ⟨x, u, q0, q1⟩)
      exact ⟨L, _, cap, b, o, by rw [hl1], fun _ => rfl, by omega, hcm, fun i hi => hl2 i (by omega)⟩
set_option maxRecDepth 100000 in
theorem open_mod {r : Reach} {b0 : Nat} {v : Value} {d : DataW H} {p : List MemPlace} (hv : Value.okWide Tryd.prog W r b0 29 v) (h : DataW.Trod enc Tryd.prog W 0 sp held 29 v d p) :
    ∃ (z : Int) (L : List (List Int)) (a : Value), v = .agg #[.int .i64 z, a] ∧ TbIn W L a := by
  obtain ⟨c0, c1, y0, y1, m, rfl, _, _, h0, h1⟩ := open_agg2 Tryd.underlying29 (by kernel_rfl) Tryd.cells29 hv h
  obtain ⟨n, e1, _, _⟩ := DataW.trod_int Tryd.underlying3 h0
  simp only [List.cons.injEq, and_true] at e1
  subst e1
  obtain ⟨L, hL⟩ := open_tb h1
  exact ⟨n, L, c1, rfl, hL⟩
end
end Go.Proofs.YtlgnpiphaeoeiadDoor

namespace Go.Proofs.YtlgnpiphaeoeiadDoor
open Go.ChangeShapes Go.WideShapes Go.ChangeAt Go.WideMaps Go.WideElems Go.RowKit Go.Joins
section
variable {H : Type} {enc : TypeId × Value → H} {held : Bool} {P : Program} {w : World} {base : Nat} {spare : Nat → Bool}
theorem tra5 {t0 t1 t2 t3 t4 : TypeId} {args : Array Value} {ds : List (DataW H)} {ps : List MemPlace} (h : DataW.TrodAll enc P w base spare held [t0, t1, t2, t3, t4] args.toList ds ps) :
    ∃ v0 v1 v2 v3 v4 d0 d1 d2 d3 d4 p0 p1 p2 p3 p4, args = #[v0, v1, v2, v3, v4] ∧ ds = [d0, d1, d2, d3, d4] ∧ ps = p0 ++ (p1 ++ (p2 ++ (p3 ++ p4))) ∧ DataW.Trod enc P w base spare held t0 v0 d0 p0 ∧ DataW.Trod enc P w base spare held t1 v1 d1 p1 ∧ DataW.Trod enc P w base spare held t2 v2 d2 p2 ∧ DataW.Trod enc P w base spare held t3 v3 d3 p3 ∧ DataW.Trod enc P w base spare held t4 v4 d4 p4 := by
  obtain ⟨v0, vs0, d0, ds0, p0, q0, hargs, rfl, rfl, h0, r0⟩ := trodAll_cons h
  obtain ⟨v1, vs1, d1, ds1, p1, q1, rfl, rfl, rfl, h1, r1⟩ := trodAll_cons r0
  obtain ⟨v2, vs2, d2, ds2, p2, q2, rfl, rfl, rfl, h2, r2⟩ := trodAll_cons r1
  obtain ⟨v3, vs3, d3, ds3, p3, q3, rfl, rfl, rfl, h3, r3⟩ := trodAll_cons r2
  obtain ⟨v4, vs4, d4, ds4, p4, q4, rfl, rfl, rfl, h4, r4⟩ := trodAll_cons r3
  obtain ⟨rfl, rfl, rfl⟩ := trodAll_nil r4
  exact ⟨v0, v1, v2, v3, v4, d0, d1, d2, d3, d4, p0, p1, p2, p3, p4, by cases args; simp_all, rfl, by simp, h0, h1, h2, h3, h4⟩
theorem trm5 {t0 t1 t2 t3 t4 : TypeId} {v0 v1 v2 v3 v4 : Value} {d0 d1 d2 d3 d4 : DataW H} {p0 p1 p2 p3 p4 : List MemPlace} (h0 : DataW.Trod enc P w base spare held t0 v0 d0 p0) (h1 : DataW.Trod enc P w base spare held t1 v1 d1 p1) (h2 : DataW.Trod enc P w base spare held t2 v2 d2 p2) (h3 : DataW.Trod enc P w base spare held t3 v3 d3 p3) (h4 : DataW.Trod enc P w base spare held t4 v4 d4 p4) :
    DataW.TrodAll enc P w base spare held [t0, t1, t2, t3, t4] [v0, v1, v2, v3, v4] [d0, d1, d2, d3, d4] (p0 ++ (p1 ++ (p2 ++ (p3 ++ p4)))) :=
  ⟨p0, _, h0, trodAll_mk4 h1 h2 h3 h4, rfl⟩
end
end Go.Proofs.YtlgnpiphaeoeiadDoor

namespace Go.Proofs.YtlgnpiphaeoeiadDoor
open Go.ChangeMaps Go.ChangeShapes Go.WideShapes Go.ChangeAt Go.WideMaps Go.WideElems Go.RowKit Go.Deep Go.Joins
theorem own7C : ownKnob Tryd.prog.godebug = none := by kernel_rfl
theorem laidOut7C : laidOutB Tryd.prog = true := by kernel_rfl
set_option maxRecDepth 100000 in
theorem laid7C_met (os : Os) (args : Array Value) : laidMetH Tryd.prog Rows.simpCoversRow.laid ((World.laidAll Tryd.prog os Rows.simpCoversRow.laid).forCall (fun _ _ => 0) ⟨#[], args, []⟩).memory := by
  rw [MakeChecks.laidMetH_plain _ _ _ (by kernel_rfl)]
  exact laidMet_laidAll _ (by kernel_rfl) (by kernel_rfl)
theorem reads7C (os : Os) {H : Type} (enc : TypeId × Value → H) : ∃ places, DataW.whole enc Tryd.prog ((World.laidAll Tryd.prog os Rows.simpCoversRow.laid).forCall (fun _ _ => 0) ⟨#[], #[.slice none 0 0, .slice none 0 0, .slice none 0 0, .slice none 0 0, .agg #[.int .i64 0, .slice none 0 0]], []⟩).memory Tryd.f5.params.toList Rows.simpCoversSpec.vars false #[Value.slice none 0 0, .slice none 0 0, .slice none 0 0, .slice none 0 0, .agg #[.int .i64 0, .slice none 0 0]].toList 8 = some ([.nil, .nil, .nil, .nil, .agg [.lit (.int .i64 0), .nil]], [], places) :=
  ⟨[], by kernel_rfl⟩
set_option maxRecDepth 100000 in
theorem contract7C (H : Type) (enc : TypeId × Value → H) (W : World) (base : Nat) (args : Array Value) (ds gs : List (DataW H)) (before : List MemPlace)
    (hval0 : ∀ (j : Nat) t v, Tryd.f5.params[j]? = some t → args[j]? = some v → Value.okWide Tryd.prog W .any base t v)
    (hW : DataW.Whole enc Tryd.prog Tryd.f5.params.toList Rows.simpCoversSpec.vars false W args.toList ds gs before) :
    Calls Tryd.prog 5 args W fun e W' => ∃ v, e = .returned v ∧ Rows.simpCoversSpec.post enc Tryd.prog Tryd.f5 false true false false W args v W' := by
  have hval : ∀ (j : Nat) t v, Tryd.f5.params[j]? = some t → args[j]? = some v → Value.okWide Tryd.prog W .any base t v := hval0
  have hW' := hW
  obtain ⟨p, q, hA0, hV, rfl, hfz, hnd⟩ := hW
  have hA : DataW.TrodAll enc Tryd.prog W 0 (fun _ => true) true Tryd.f5.params.toList args.toList ds p := hA0
  rw [Tryd.params5] at hA hval
  obtain ⟨v0, v1, v2, v3, v4, d0, d1, d2, d3, d4, p0, p1, p2, p3, p4, rfl, rfl, rfl, h0, h1, h2, h3, h4⟩ := tra5 hA
  obtain ⟨rfl, rfl⟩ := trodVars_none hV
  have lt0 : ∀ x ∈ p0, x.block < W.heap.size := by obtain ⟨m, hm⟩ := h0; exact DataW.trod_lt m _ _ _ hm
  have lt1 : ∀ x ∈ p1, x.block < W.heap.size := by obtain ⟨m, hm⟩ := h1; exact DataW.trod_lt m _ _ _ hm
  have lt2 : ∀ x ∈ p2, x.block < W.heap.size := by obtain ⟨m, hm⟩ := h2; exact DataW.trod_lt m _ _ _ hm
  have lt3 : ∀ x ∈ p3, x.block < W.heap.size := by obtain ⟨m, hm⟩ := h3; exact DataW.trod_lt m _ _ _ hm
  have lt4 : ∀ x ∈ p4, x.block < W.heap.size := by obtain ⟨m, hm⟩ := h4; exact DataW.trod_lt m _ _ _ hm
  have k0 := h0
  have k1 := h1
  have k2 := h2
  have k3 := h3
  have k4 := h4
  obtain ⟨s0, hN0⟩ := open_nums Tryd.underlying23 (hval 0 23 v0 rfl rfl) h0
  obtain ⟨c1, hC1⟩ := open_cl (hval 1 25 v1 rfl rfl) h1
  obtain ⟨c2, hC2⟩ := open_cl (hval 2 25 v2 rfl rfl) h2
  obtain ⟨c3, hC3⟩ := open_cl (hval 3 25 v3 rfl rfl) h3
  obtain ⟨z4, tb4, mv4, rfl, hT4⟩ := open_mod (hval 4 29 v4 rfl rfl) h4
  clear hA0 hval0
  refine (simpCovers_of s0 v0 (normCl c1) v1 (normCl c2) v2 (normCl c3) v3 z4 tb4 mv4 W hN0 (cl_norm hC1) (cl_norm hC2) (cl_norm hC3) hT4 normCl_norm normCl_norm normCl_norm).mono fun e W' ⟨he, bel⟩ => ?_
  subst he
  exact ⟨_, rfl, _, _, _, [], _, [], hW', trodAll_mk1 (shut_bool Tryd.underlying4 _),
    (trm5 (Below.trod laidOut7C (by kernel_rfl) (of_decide_eq_true (by kernel_rfl)) k0 bel lt0) (Below.trod laidOut7C (by kernel_rfl) (of_decide_eq_true (by kernel_rfl)) k1 bel lt1) (Below.trod laidOut7C (by kernel_rfl) (of_decide_eq_true (by kernel_rfl)) k2 bel lt2) (Below.trod laidOut7C (by kernel_rfl) (of_decide_eq_true (by kernel_rfl)) k3 bel lt3) (Below.trod laidOut7C (by kernel_rfl) (of_decide_eq_true (by kernel_rfl)) k4 bel lt4)), rfl, bel.frame _, fun h => by cases h⟩
set_option maxRecDepth 100000 in
theorem lifted7C (os : Os) (started : os.Started) (H : Type) (enc : TypeId × Value → H) (F : Stop.Interp) :
    ReturnsInHanded {} Tryd.checked os 5 .any ((OpenSpec.ofChange Rows.simpCoversSpec).preRow enc Tryd.prog Tryd.f5 Rows.simpCoversRow.domain false Rows.simpCoversRow.laid) (((OpenSpec.ofChange Rows.simpCoversSpec).at F).post enc Tryd.prog Tryd.f5 false true false false) := by
  obtain ⟨places, hx⟩ := reads7C os enc
  refine returnsInHanded_of_row (C := Tryd.checked) (s := OpenSpec.ofChange Rows.simpCoversSpec) own7C started (by kernel_rfl) Tryd.func5
    (witness_row_atRef (enc := enc) (C := Tryd.checked) false (World.laidAll Tryd.prog os Rows.simpCoversRow.laid) #[.slice none 0 0, .slice none 0 0, .slice none 0 0, .slice none 0 0, .agg #[.int .i64 0, .slice none 0 0]] (World.laidAll_os _ _ _) (by kernel_rfl) (by kernel_rfl) (by kernel_rfl)
      (OpenSpec.preRow_of_cond 8 hx (by kernel_rfl) (fun k hk => by cases hk) (by kernel_rfl) (laid7C_met os _))) ?_
  intro W base args ds gs before hval hW _ _ hwt _ _ _
  exact contract7C H enc W base args ds gs before hval hW
theorem said7C : Rows.SimpCoversSaid :=
  OpenClaim.holds_of_cond 5 Tryd.f5 rfl rfl rfl rfl rfl rfl rfl ⟨rfl, rfl, rfl, rfl, rfl⟩ rfl rfl rfl rfl rfl (by kernel_rfl) Tryd.func5 (by kernel_rfl)
    (of_decide_eq_true (by kernel_rfl)) (by unfold Func.isWrapper; first | (rw [if_pos (by decide +kernel)]; kernel_rfl) | (rw [if_neg (by decide +kernel)]; exact ⟨rfl, rfl⟩))
    (fun os started H enc _ F => by rw [OpenClaim.pre_eq_preRow]; exact lifted7C os started H enc F)
end Go.Proofs.YtlgnpiphaeoeiadDoor
