/- CS CWR Cnt Often Cmp CD -/
import Derived.Test.YtlgnpiphaeoeiadDoorG10
import Derived.Deep.RegionHeld3
import Derived.Maps.OwnOps
import Derived.Maps.RangeWalk
namespace Go.Proofs.YtlgnpiphaeoeiadDoor
open Go.RowKit Go.Deep Go.ChangeShapes Go.WideShapes
abbrev litA (l : Lt) (a d : Value) : Value := .agg #[.bool l.1, .bool l.2.1.1.1, .int .i64 l.2.1.1.2, a, .bool l.2.2.1.1, .int .i64 l.2.2.1.2, d]
theorem lit_cells {w wr : World} {x0 x1 x2 x3 x4 x5 x6 : Value} {T : TypeId} (h : Below (w.alloc (.cells #[x0, x1, x2, x3, x4, x5, x6] T)).heap.size (w.alloc (.cells #[x0, x1, x2, x3, x4, x5, x6] T)) wr) :
    wr.cell? ⟨w.heap.size, 0, none⟩ = some x0 ∧ wr.cell? ⟨w.heap.size, 1, none⟩ = some x1 ∧ wr.cell? ⟨w.heap.size, 2, none⟩ = some x2 ∧ wr.cell? ⟨w.heap.size, 3, none⟩ = some x3 ∧ wr.cell? ⟨w.heap.size, 4, none⟩ = some x4 ∧ wr.cell? ⟨w.heap.size, 5, none⟩ = some x5 ∧ wr.cell? ⟨w.heap.size, 6, none⟩ = some x6 ∧ (∀ i, wr.frozen? ⟨w.heap.size, i, none⟩ = false) ∧ Below w.heap.size w wr ∧ w.heap.size < wr.heap.size := by
  refine ⟨?_, ?_, ?_, ?_, ?_, ?_, ?_, fun i => ?_, (below_alloc w _).trans (h.mono (by simp)), by have := h.size; simp at this; omega⟩
  all_goals first | (rw [h.cell (by simp)]; simp; done) | exact (h.frozen (p := ⟨w.heap.size, i, none⟩) (by simp)).trans (new_frozen rfl)
end Go.Proofs.YtlgnpiphaeoeiadDoor

namespace Go.Proofs.YtlgnpiphaeoeiadDoor
open Go.RowKit Go.Deep Go.ChangeShapes Go.WideShapes
set_option maxRecDepth 100000 in
set_option maxHeartbeats 1000000 in
theorem wrongCR_any (s : List Int) (sv : Value) (k : Cl) (a : Value) (w : World) (hN : NIn w s sv) (hS : CIn w k a) :
    Calls Tryd.prog 24 #[sv, a] w fun e w' => e = .returned (.int .i64 (wrongC s k)) ∧ Below w.heap.size w w' := by
  obtain ⟨a1, c1, b1, o1, rfl, had1, hlc1, hcm1, hF1⟩ := hS
  unfold maxLen at hcm1
  have HF1 := hide hF1
  have HN := hide hN
  obtain ⟨sa, sc, _, _, rfl, -, -, -, -⟩ := hN
  clear hF1
  by_cases h4 : 4 < k.length
  · have h4' : (4 : Int) < (k.length : Int) := by omega
    have Hf : Hid (wrongC s k = 5) := if_pos h4
    go_enter Tryd.func24, Tryd.ntmps24
    go_wp2_with fail
    go_ret
    exact ⟨by rw [Hf.out]; rfl, Below.refl _ _⟩
  · have h4' : ¬ (4 : Int) < (k.length : Int) := by omega
    have Hw : Hid (wrongC s k = wrongLs s k) := if_neg h4
    go_enter Tryd.func24, Tryd.ntmps24
    go_wp2_with fail
    go_loopw [14] (fun i wr => ∃ j : Nat, j ≤ k.length ∧ i = .int .i64 j ∧ (∀ i, i < j → ∀ a, k[i]? = some a → wrongL s a = 0) ∧ Below w.heap.size w wr) (fun i _ => k.length - (intOf i).toNat)
    case atStart => exact ⟨0, Nat.zero_le _, rfl, fun i hi => by omega, Below.refl _ _⟩
    case round =>
      obtain ⟨j, hj, rfl, hok, hBr⟩ := hrel
      have Hok := hide hok
      clear hok
      by_cases hlt : j < k.length
      · have hlt' : (j : Int) < (k.length : Int) := by omega
        obtain ⟨⟨yn, ⟨⟨yv, yi⟩, yk⟩, ⟨yv', yi'⟩, yk'⟩, hy⟩ : ∃ y, k[j]? = some y := ⟨k[j]'hlt, by simp⟩
        obtain ⟨p0, p1, p2, ⟨u3, p3, hA⟩, p4, p5, u6, p6, hD⟩ := (HF1.out.below hBr).at hy
        have ha1 : a1 = some ⟨b1, o1, none⟩ := had1 (by omega)
        subst ha1
        have HA := hide hA
        have HD := hide hD
        obtain ⟨_, _, _, _, rfl, -, -, -, -⟩ := hA
        obtain ⟨_, _, _, _, rfl, -, -, -, -⟩ := hD
        have Hy := hide hy
        clear hy had1
        simp only at *
        go_wp2_with fail
        refine (wrongR_any s _ (yv, yi) yk _ _ ((HN.out.below hBr).alloc _) (HA.out.alloc _)).mono ?_
        rintro e w2 ⟨rfl, hb2⟩
        obtain ⟨-, -, -, -, e4, e5, e6, -, hb2', -⟩ := lit_cells hb2
        have hB2 := below_step hBr hb2'
        have HD2 := hide (HD.out.below hb2')
        have HN2 := hide (HN.out.below hB2)
        clear hb2
        by_cases he : wrongF s (yv, yi) yk = 0
        · have heb : (wrongF s (yv, yi) yk != 0) = false := by simp [he]
          have He := hide he
          clear he
          generalize wrongF s (yv, yi) yk = e1 at heb
          go_wp2_with fail
          refine (wrongR_any s _ (yv', yi') yk' _ _ HN2.out HD2.out).mono ?_
          rintro e w3 ⟨rfl, hb3⟩
          have hB3 := below_step hB2 hb3
          by_cases he : wrongF s (yv', yi') yk' = 0
          · have heb2 : (wrongF s (yv', yi') yk' != 0) = false := by simp [he]
            have He2 := hide he
            clear he
            generalize wrongF s (yv', yi') yk' = e2 at heb2
            go_wp2_with fail
            go_roundw
            case rel => exact ⟨j + 1, by omega, by go_num, fun i hi a ha => by
              by_cases e : i = j
              · subst e; rw [Hy.out] at ha; cases ha; exact wrongL_iff.2 ⟨He.out, He2.out⟩
              · exact Hok.out i (by omega) a ha, hB3⟩
            case measure => simp [intOf]; omega
          · have heb2 : (wrongF s (yv', yi') yk' != 0) = true := by simp [he]
            have Hf : Hid (wrongF s (yv', yi') yk' = wrongC s k) := by
              have hl : wrongL s (yn, ((yv, yi), yk), ((yv', yi'), yk')) = wrongF s (yv', yi') yk' := by simp only [wrongL]; rw [if_neg (by simp [He.out])]
              rw [Hid, Hw.out, wrongLs_at Hok.out Hy.out (by rw [hl]; exact he), hl]
            clear he
            generalize wrongF s (yv', yi') yk' = e2 at heb2 Hf
            go_wp2_with fail
            go_ret
            exact ⟨by rw [Hf.out]; rfl, hB3⟩
        · have heb : (wrongF s (yv, yi) yk != 0) = true := by simp [he]
          have Hf : Hid (wrongF s (yv, yi) yk = wrongC s k) := by
            have hl : wrongL s (yn, ((yv, yi), yk), ((yv', yi'), yk')) = wrongF s (yv, yi) yk := by simp only [wrongL]; rw [if_pos he]
            rw [Hid, Hw.out, wrongLs_at Hok.out Hy.out (by rw [hl]; exact he), hl]
          clear he
          generalize wrongF s (yv, yi) yk = e1 at heb Hf
          go_wp2_with fail
          go_ret
          exact ⟨by rw [Hf.out]; rfl, hB2⟩
      · have Hf : Hid (wrongC s k = 0) := by
          rw [Hid, Hw.out, wrongLs_iff]
          intro l hl
          obtain ⟨i, hi, e⟩ := List.mem_iff_getElem.1 hl
          exact Hok.out i (by omega) l (by rw [List.getElem?_eq_getElem hi, e])
        go_wp2_with fail
        go_ret
        exact ⟨by rw [Hf.out]; rfl, hBr⟩
end Go.Proofs.YtlgnpiphaeoeiadDoor

namespace Go.Proofs.YtlgnpiphaeoeiadDoor
open Go.RowKit Go.Deep Go.ChangeShapes Go.WideShapes Go.Maps
attribute [local go_sem ↓] Go.wp_at_zero Go.wp_at_succ
theorem keyed3 : Keyed Tryd.prog 3 := int_keyed Tryd.underlying3
theorem zero3 (w : World) : (zeroValue 3).run Tryd.prog w = .ok (.int .i64 0) w := by kernel_rfl
abbrev MD := DataW Unit
abbrev OM (w : World) (b n : Nat) (D : MD) : Prop := w.ownsMap Tryd.prog 3 (plainElem (H := Unit) Tryd.prog 3) b n D
def inR (v : Int) : Prop := -9223372036854775808 ≤ v ∧ v < 9223372036854775808
def Tel (D : MD) (g : Int → Int) : Prop := IsMap D ∧ ∀ v : Int, inR v → D.atKey (.int .i64 v) (.lit (.int .i64 0)) = .lit (.int .i64 (wrap64 (g v)))
theorem key_lit (v : Int) : WideAt.IsKeyLit (.int .i64 v) := trivial
theorem wrap64_of {n : Int} (h : inR n) : wrap64 n = n := by unfold inR at h; unfold wrap64; omega
theorem tel_put {D : MD} {g : Int → Int} {x c much : Int} (h : Tel D g) (hx : inR x) (hat : D.atKey (.int .i64 x) (.lit (.int .i64 0)) = .lit (.int .i64 c)) :
    Tel (D.put (.int .i64 x) (.lit (.int .i64 (wrap64 (c + much))))) (fun v => g v + much * (if x = v then 1 else 0 : Nat)) := by
  refine ⟨h.1.put _ _, fun v hv => ?_⟩
  by_cases e : x = v
  · subst e
    rw [atKey_put_same h.1 (key_lit _)]
    have h2 := h.2 x hx
    rw [hat] at h2
    have h3 : c = wrap64 (g x) := by injection h2 with h2; injection h2
    subst h3
    dsimp only
    rw [if_pos rfl]
    congr 2
    unfold wrap64
    omega
  · rw [atKey_put_other (by intro e'; injection e' with _ e'; exact e e'.symm), h.2 v hv]
    dsimp only
    rw [if_neg e]
    simp
theorem om_cell {w w' : World} {b n : Nat} {D : MD} (h : OM w b n D) (hg : w.grownBy w' (some b)) : ∀ a v, w.cell? a = some v → w'.cell? a = some v := by
  intro a v hc
  have hlt := World.block_lt_of_cell? _ _ hc
  by_cases e : a.block = b
  · obtain ⟨es, clock, hb, _⟩ := h
    simp [World.cell?, e, hb] at hc
  · rw [World.cell?_of_block (hg.block _ hlt (fun e' => e (by injection e')))]; exact hc
theorem grown_refl (w : World) (row : Option Nat) : w.grownBy w row := ⟨rfl, rfl, rfl, Nat.le_refl _, fun _ _ _ => rfl⟩
theorem szToR_take (k : Fo) (j : Nat) : szToR k j ≤ tszR k := by
  rw [← szToR_end k]
  unfold szToR
  rw [← Fo.len_list, List.take_length]
  have h := List.take_append_drop j k.list
  have : (k.list.map fun y => tszR y.2).sum = ((k.list.take j).map fun y => tszR y.2).sum + ((k.list.drop j).map fun y => tszR y.2).sum := by rw [← List.sum_append, ← List.map_append, h]
  omega
def CountSaid (x : Bool × Int) (k : Fo) : Prop := ∀ (a : Value) (much : Int) (w : World) (b n : Nat) (D : MD) (g : Int → Int), okT (x, k) → (∀ m, occT m (x, k) → 0 ≤ m ∧ m ≤ 9) → SIn w k a → OM w b n D → Tel D g → n + tszR k ≤ 10000000000000 →
    Calls Tryd.prog 99 #[.map (some b), .agg #[.bool x.1, .int .i64 x.2, a], .int .i64 much] w fun e w' => e = .returned (.tuple #[]) ∧ ∃ D', OM w' b (n + tszR k) D' ∧ Tel D' (fun v => g v + much * timT v (x, k)) ∧ w.grownBy w' (some b)
set_option maxRecDepth 100000 in
set_option maxHeartbeats 400000 in
theorem count_any (x : Bool × Int) (k : Fo) : CountSaid x k := by
  refine Fo.ind1 (p := CountSaid) ?_ x k
  clear x k
  intro x k ih a much w b n D g hok hfew hS hown htel hbd
  obtain ⟨xv, xn⟩ := x
  cases xv
  · obtain ⟨ad, c, kb, o, rfl, had, hlc, hcm, hF⟩ := hS
    have Hl := hide (Fo.len_list k)
    have Hend := hide (szToR_end k)
    have Hok := hide hok
    have Hfew := hide hfew
    have Htel := hide htel
    have HI := hide ih
    have HF := hide hF
    have Hown := hide hown
    have Hbd := hide hbd
    unfold maxLen at hcm
    clear ih hF hown htel hok hfew hbd
    go_enter Tryd.func99, Tryd.ntmps99
    go_wp2_with fail
    generalize hW1 : w.alloc (.cells #[.bool false, .int .i64 xn, .slice ad (Fo.len k) c] 37) = W1
    have HO1 : Hid (OM W1 b n D) := by rw [← hW1]; exact Hown.out.alloc _
    have HG1 : Hid (w.grownBy W1 (some b)) := by rw [← hW1]; exact World.grownBy_alloc _ _ _
    clear hW1
    go_loopw [19] (fun i wr => ∃ (j : Nat) (D' : MD), j ≤ Fo.len k ∧ i = .int .i64 j ∧ OM wr b (n + szToR k j) D' ∧ Tel D' (fun v => g v + much * tmTo v (false, xn) k j) ∧ W1.grownBy wr (some b)) (fun i _ => Fo.len k - (intOf i).toNat)
    case atStart => exact ⟨0, D, Nat.zero_le _, rfl, HO1.out.mono (Nat.le_add_right _ _), ⟨Htel.out.1, fun v hv => by rw [Htel.out.2 v hv]; dsimp only; rw [tmTo_zero]; simp⟩, grown_refl _ _⟩
    case round =>
      obtain ⟨j, D', hj, rfl, hO, hT, hG⟩ := hrel
      have HO := hide hO
      have HT := hide hT
      have HG := hide hG
      clear hO hT hG
      by_cases hlt : j < Fo.len k
      · have hlt' : (j : Int) < (Fo.len k : Int) := by omega
        obtain ⟨⟨⟨yv, yn⟩, yk⟩, hy⟩ : ∃ y, k.list[j]? = some y := ⟨k.list[j]'(by rw [Hl.out]; exact hlt), by simp⟩
        have HFr : Hid (FIn wr k kb o) := FIn.later (fun a v h => om_cell HO1.out HG.out a v (om_cell Hown.out HG1.out a v h)) HF.out
        obtain ⟨c0, c1, yv', c2, hSy⟩ := HFr.out.at hy
        have ha : ad = some ⟨kb, o, none⟩ := had (by omega)
        subst ha
        have HS := hide hSy
        obtain ⟨ya, yc, yb, yo, rfl, -, -, -, -⟩ := hSy
        have Hy := hide hy
        have Hmem := hide (List.mem_of_getElem? hy)
        have Hb2 : Hid (n + szToR k j + tszR yk ≤ 10000000000000) := by
          have h1 := szToR_succ hy
          have h2 := szToR_take k (j + 1)
          have h3 := Hbd.out
          unfold Hid
          omega
        clear hy had
        go_wp2_with fail
        refine (HI.out ((yv, yn), yk) Hmem.out _ much _ b _ D' _ (ok_mem Hok.out.2 Hmem.out) (fun m hm => Hfew.out m (by unfold occT; simp only [Bool.false_eq_true, if_false]; exact occ_mem.2 ⟨_, Hmem.out, hm⟩)) (HS.out.alloc _) (HO.out.alloc _) HT.out Hb2.out).mono ?_
        rintro e w2 ⟨rfl, D2, hO2, hT2, hG2⟩
        have HO2 := hide hO2
        have HT2 := hide hT2
        have HG2 := hide (HG.out.trans ((World.grownBy_alloc _ _ _).trans hG2))
        clear hO2 hT2 hG2
        go_wp2_with fail
        go_roundw
        case rel => exact ⟨j + 1, D2, by omega, by go_num, by rw [szToR_succ Hy.out, ← Nat.add_assoc]; exact HO2.out, ⟨HT2.out.1, fun v hv => by rw [HT2.out.2 v hv]; dsimp only; rw [tmTo_succ Hy.out, Int.natCast_add, Int.mul_add, Int.add_assoc]⟩, HG2.out⟩
        case measure => simp [intOf]; omega
      · have hje : j = Fo.len k := by omega
        have Hj := hide hje
        clear hje had
        go_wp2_with fail
        go_end0
        have e := Hj.out
        subst e
        refine ⟨rfl, D', ?_, ?_, HG1.out.trans HG.out⟩
        · rw [← Hend.out]; exact HO.out
        · have := HT.out
          simp only [tmTo_end] at this
          exact this
  · have hk : k = .nil := hok.1 rfl
    subst hk
    obtain ⟨ad, c, kb, o, rfl, -, -, -, -⟩ := hS
    have hx := hfew xn (by simp [occT])
    have hr : inR xn := by unfold inR; omega
    have hkey : keyOf Tryd.prog 3 (.int .i64 xn) = some (.int .i64 xn) := keyOf_int_mk Tryd.underlying3 (WalkArith.wf_i64 (by omega))
    have Htel := hide htel
    have Hbd := hide hbd
    have Hr := hide hr
    clear htel hbd hfew hok ih hr hx
    go_enter Tryd.func99, Tryd.ntmps99
    go_wp2_with (first
      | (at_lookup; refine wpList_lookup_own_int _ rfl _ _ 136 rfl 3 3 .i64 keyed3 Tryd.underlying136 Tryd.underlying3 (zero3 _) b n _ rfl (hown.alloc _) _ _ rfl hkey ?_; intro c hat hwc)
      | (at_mapUpdate; refine wpList_mapUpdate_own _ rfl _ _ _ 136 rfl 3 3 keyed3 Tryd.underlying136 _ b n _ rfl (hown.alloc _) (by have := Hbd.out; unfold maxLen; omega) _ _ _ rfl rfl hkey _ [] (plainElem_int Tryd.underlying3 (wrap64_wf _)) ?_; intro w1 hown1 hgrow1)
      | go_in)
    (try simp only [Exit.inBlock, Exit.then])
    refine bodyPost_ret (results_none rfl _ _ _) rfl ?_
    refine ⟨rfl, _, hown1, ?_, (World.grownBy_alloc _ _ _).trans hgrow1⟩
    have := tel_put (much := much) Htel.out Hr.out hat
    simpa [timT, timF] using this
end Go.Proofs.YtlgnpiphaeoeiadDoor

namespace Go.Proofs.YtlgnpiphaeoeiadDoor
open Go.RowKit Go.Deep Go.ChangeShapes Go.WideShapes Go.Maps
attribute [local go_sem ↓] Go.wp_at_zero Go.wp_at_succ
abbrev RG (w : World) (b r n : Nat) (D : MD) (left : Lit → Bool) (cnt : Nat) : Prop := w.ranges Tryd.prog 3 (plainElem (H := Unit) Tryd.prog 3) b r n D left cnt
def dif (a b : Tm) (v : Int) : Int := (timT v a : Int) - (timT v b : Int)
theorem dif_small {a b : Tm} (ha : szT a ≤ 4000000000000) (hb : szT b ≤ 4000000000000) (v : Int) : wrap64 (dif a b v) = dif a b v := by
  have h1 := timT_le v a
  have h2 := timT_le v b
  refine wrap64_of ?_
  unfold inR dif
  omega
theorem may_of {a b : Tm} (hb : Gd b) (h : ∀ v, inR v → 0 ≤ dif a b v) : mayT a b = true := by
  refine (may_iff hb.ok).2 fun v => ?_
  by_cases e : 0 < timT v b
  · have h1 := hb.few v (tim_occ hb.ok e)
    have h2 := h v (by unfold inR; omega)
    unfold dif at h2
    omega
  · omega
theorem may_not {a b : Tm} (hb : Gd b) {v : Int} (h : dif a b v < 0) : mayT a b = false := by
  rw [← Bool.not_eq_true, may_iff hb.ok]
  intro hh
  have := hh v
  unfold dif at h
  omega
def Seen (a b : Tm) (left : Lit → Bool) : Prop := ∀ v, inR v → left (.int .i64 v) = false → 0 ≤ dif a b v
theorem seen_start {a b : Tm} {D : MD} (ha : szT a ≤ 4000000000000) (hb : szT b ≤ 4000000000000) (h : Tel D (dif a b)) : Seen a b (Maps.has D) := fun v hv hl => by
  have h1 := h.2 v hv
  rw [atKey_of_not_has hl, dif_small ha hb] at h1
  injection h1 with h1
  injection h1 with _ h1
  omega
theorem seen_next {a b : Tm} {left : Lit → Bool} {x : Int} (h : Seen a b left) (hx : 0 ≤ dif a b x) : Seen a b (fun z => left z && !z.sameKey (.int .i64 x)) := fun v hv hl => by
  by_cases e : v = x
  · subst e; exact hx
  · dsimp only at hl
    rw [sameKey_ne (show (Lit.int .i64 v) ≠ .int .i64 x by intro e'; injection e' with _ e'; exact e e')] at hl
    simp only [Bool.not_false, Bool.and_true] at hl
    exact h v hv hl
theorem inR_wf {x : Int} (h : (Lit.int .i64 x).wf = true) : inR x := by
  simp [Lit.wf, IntKind.min, IntKind.max, IntKind.signed, IntKind.bits] at h
  unfold inR
  omega
theorem tel_is {D : MD} {a b : Tm} {x c : Int} (ha : szT a ≤ 4000000000000) (hb : szT b ≤ 4000000000000) (h : Tel D (dif a b)) (hx : inR x) (hat : ∀ zd, D.atKey (.int .i64 x) zd = .lit (.int .i64 c)) : c = dif a b x := by
  have h1 := h.2 x hx
  rw [hat, dif_small ha hb] at h1
  injection h1 with h1
  injection h1 with _ h1
set_option maxRecDepth 100000 in
set_option maxHeartbeats 1000000 in
theorem asOften_any (x : Bool × Int) (k : Fo) (y : Bool × Int) (l : Fo) (a c : Value) (w : World) (ga : Gd (x, k)) (gb : Gd (y, l)) (hbk : tszR k ≤ 4000000000000) (hbl : tszR l ≤ 4000000000000) (hS : SIn w k a) (hU : SIn w l c) :
    Calls Tryd.prog 89 #[.agg #[.bool x.1, .int .i64 x.2, a], .agg #[.bool y.1, .int .i64 y.2, c]] w fun e w' => e = .returned (.bool (mayT (x, k) (y, l))) ∧ Below w.heap.size w w' := by
  obtain ⟨xv, n⟩ := x
  obtain ⟨yv, m⟩ := y
  have HS := hide hS
  have HU := hide hU
  have Hbk := hide hbk
  have Hbl := hide hbl
  have Hga := hide ga
  have Hgb := hide gb
  obtain ⟨ad, ac, kb, o, rfl, -, -, -, -⟩ := hS
  obtain ⟨ud, uc, ub, uo, rfl, -, -, -, -⟩ := hU
  clear hbk hbl ga gb
  have hmm := @run_makeMap Tryd.prog
  go_enter Tryd.func89, Tryd.ntmps89
  go_wp2_with fail
  generalize hW2 : (w.alloc (.cells #[.bool xv, .int .i64 n, .slice ad (Fo.len k) ac] 37)).alloc (.cells #[.bool yv, .int .i64 m, .slice ud (Fo.len l) uc] 37) = W2
  have hB2 : Below w.heap.size w W2 := by rw [← hW2]; exact (below_alloc _ _).alloc (by simp) _
  have hs2 : W2.heap.size = w.heap.size + 1 + 1 := by rw [← hW2]; simp
  have r0 : W2.cell? ⟨w.heap.size + 1, 0, none⟩ = some (.bool yv) := by rw [← hW2]; exact new_cell (World.size_alloc _ _)
  have r1 : W2.cell? ⟨w.heap.size + 1, 1, none⟩ = some (.int .i64 m) := by rw [← hW2]; exact new_cell (World.size_alloc _ _)
  have r2 : W2.cell? ⟨w.heap.size + 1, 2, none⟩ = some (.slice ud (Fo.len l) uc) := by rw [← hW2]; exact new_cell (World.size_alloc _ _)
  clear hW2
  have hO0 : OM (W2.alloc (.map #[] 0)) (w.heap.size + 1 + 1) 0 (.map []) := by rw [← hs2]; exact World.ownsMap_made _ _ _ _
  have hB3 : Below w.heap.size w (W2.alloc (.map #[] 0)) := hB2.alloc (by omega) _
  have hT0 : Tel (.map []) (fun _ => 0) := ⟨isMap_empty, fun v _ => by simp [wrap64, DataW.atKey]⟩
  refine (count_any (xv, n) k _ 1 _ _ _ _ _ Hga.out.ok Hga.out.few (HS.out.below hB3) hO0 hT0 (by have := Hbk.out; omega)).mono ?_
  rintro e w4 ⟨rfl, D1, hO1, hT1, hG1⟩
  have hB4 : Below w.heap.size w w4 := hB3.grown hG1 hB3.size (fun j hj => by cases hj; omega)
  have q0 := om_cell hO0 hG1 _ _ (grow_cell (below_alloc _ _) _ _ r0)
  have q1 := om_cell hO0 hG1 _ _ (grow_cell (below_alloc _ _) _ _ r1)
  have q2 := om_cell hO0 hG1 _ _ (grow_cell (below_alloc _ _) _ _ r2)
  have HO1 := hide hO1
  have HT1 := hide hT1
  have HB4 := hide hB4
  clear r0 r1 r2 hO0 hT0 hO1 hT1 hG1 hB3 hB2 hB4
  go_wp2_with fail
  refine (count_any (yv, m) l _ (-1) _ _ _ _ _ Hgb.out.ok Hgb.out.few (HU.out.below HB4.out) HO1.out HT1.out (by have := Hbk.out; have := Hbl.out; omega)).mono ?_
  rintro e w5 ⟨rfl, D2, hO2, hT2, hG2⟩
  have hB5 : Below w.heap.size w w5 := HB4.out.grown hG2 HB4.out.size (fun j hj => by cases hj; omega)
  have HB5 := hide hB5
  have HTd : Hid (Tel D2 (dif ((xv, n), k) ((yv, m), l))) := ⟨hT2.1, fun v hv => by
    rw [hT2.2 v hv]
    congr 3
    dsimp only
    unfold dif
    omega⟩
  clear q0 q1 q2 hT2 hG2 hB5 HO1 HT1 HB4
  go_wp2_with (first
    | (at_range; refine wpList_range_own _ rfl _ 136 rfl 3 3 keyed3 Tryd.underlying136 _ (w.heap.size + 1 + 1) _ _ rfl hO2 ?_; intro w6 hrg0 hg0 hs0)
    | go_in)
  go_frame
  have HB6 : Hid (Below w.heap.size w w6) := HB5.out.grown hg0 HB5.out.size (fun j hj => by cases hj)
  have HR0 := hide hrg0
  have H55 : Hid (w.heap.size ≤ w5.heap.size) := HB5.out.size
  clear hrg0 hg0 hs0
  go_loopw [7] (fun _ wr => ∃ (left : Lit → Bool) (cnt : Nat), RG wr (w.heap.size + 1 + 1) w5.heap.size (tszR k + tszR l) D2 left cnt ∧ Seen ((xv, n), k) ((yv, m), l) left ∧ Below w.heap.size w wr)
    (fun _ wr => wr.rangeLeft (w.heap.size + 1 + 1) w5.heap.size)
  case atStart => exact ⟨_, _, by have := HR0.out; rwa [Nat.zero_add] at this, seen_start Hbk.out Hbl.out HTd.out, HB6.out⟩
  case round =>
    obtain ⟨left, cnt, hrg, hseen, hBr⟩ := hrel
    have Hseen := hide hseen
    have HBr := hide hBr
    clear hseen hBr
    go_wp2_with (first
      | (at_next; refine wpList_next_ranges_ii _ rfl _ rfl 3 3 .i64 .i64 keyed3 Tryd.underlying3 Tryd.underlying3 (w.heap.size + 1 + 1) w5.heap.size _ _ _ _ rfl hrg ?_ ?_)
      | go_in)
    · intro _ hl0
      have Hm := hide (may_of Hgb.out (fun v hv => Hseen.out v hv (hl0 _)))
      clear hl0 hrg
      go_wp2_with fail
      go_ret
      exact ⟨by rw [Hm.out]; rfl, HBr.out⟩
    · intro z d w7 cnt1 hwx hwc hlx hat hrg1 hlt hg1 hs1 hen
      have hd := tel_is (a := ((xv, n), k)) (b := ((yv, m), l)) Hbk.out Hbl.out HTd.out (inR_wf hwx) hat
      have HB7 : Hid (Below w.heap.size w w7) := HBr.out.grown hg1 HBr.out.size (fun j hj => by cases hj; exact H55.out)
      have HR1 := hide hrg1
      have HR := hide hrg
      have Hlt := hide hlt
      clear hat hrg hrg1 hlt hg1 hs1 hwx hwc hlx
      by_cases hneg : d < 0
      · have Hm : Hid (mayT ((xv, n), k) ((yv, m), l) = false) := may_not Hgb.out (hd ▸ hneg)
        clear hd
        go_wp2_with fail
        go_ret
        exact ⟨by rw [Hm.out]; rfl, HB7.out⟩
      · have Hs := hide (seen_next (x := z) Hseen.out (by rw [← hd]; omega))
        clear hd
        go_wp2_with fail
        go_roundw
        case rel => exact ⟨_, cnt1, HR1.out, Hs.out, HB7.out⟩
        case measure => rw [HR1.out.left_eq, HR.out.left_eq]; exact Hlt.out
end Go.Proofs.YtlgnpiphaeoeiadDoor

namespace Go.Proofs.YtlgnpiphaeoeiadDoor
open Go.RowKit Go.Deep Go.ChangeShapes Go.WideShapes
attribute [local go_sem ↓] Go.wp_at_zero Go.wp_at_succ
theorem sizes_ok : ∀ {F : Fo}, Fo.ok F → Fo.sizes F = Fo.sizesR F
  | .nil, _ => rfl
  | .node _ _ x k r, h => by
    obtain ⟨_, _, h3, h4⟩ := ok_node.1 h
    have h1 := sizes_ok h3.2
    have h2 := sizes_ok h4
    rw [Fo.sizes, Fo.sizesR, h2, h1]
    by_cases hx : x.1 = true
    · have hk : k = .nil := h3.1 hx
      subst hk
      simp [Fo.sizesR]
    · rw [if_neg hx]
theorem tsz_ok {x : Bool × Int} {k : Fo} (h : okT (x, k)) : tsz x k = tszR k := by
  unfold tsz tszR
  by_cases hx : x.1 = true
  · have hk : k = .nil := h.1 hx
    subst hk
    simp [Fo.sizesR, hx]
  · rw [if_neg hx, sizes_ok h.2]
theorem psize_call {wn : World} {x : Bool × Int} {k : Fo} {a : Value} (hok : okT (x, k)) (hS : SIn wn k a) (hb : tszR k ≤ 4000000000000) (w' : World) (h : Below wn.heap.size wn w') :
    Calls Tryd.prog 69 #[.agg #[.bool x.1, .int .i64 x.2, a]] w' fun e w'' => e = .returned (.int .i64 (tszR k : Nat)) ∧ Below w'.heap.size w' w'' := by
  refine (size_any x k a w' (hS.below h)).mono ?_
  rw [tsz_ok hok, wrap64_small (by omega) (by omega)]
  exact fun e w'' h => h
theorem psame_call {wn : World} {x y : Bool × Int} {k l : Fo} {a c : Value} (hS : SIn wn k a) (hU : SIn wn l c) (w' : World) (h : Below wn.heap.size wn w') :
    Calls Tryd.prog 77 #[.agg #[.bool x.1, .int .i64 x.2, a], .agg #[.bool y.1, .int .i64 y.2, c]] w' fun e w'' => e = .returned (.bool (sameT x k y l)) ∧ Below w'.heap.size w' w'' :=
  same_any x k y l a c w' (hS.below h) (hU.below h)
theorem run_min (p q : Nat) (w : World) : (Builtin.min_ #[3, 3] 3 #[.int .i64 (p : Nat), .int .i64 (q : Nat)]).run Tryd.prog w = .ok (.int .i64 (min p q : Nat)) w := by
  by_cases h : q < p
  · have e : min p q = q := by omega
    rw [e]
    simp [Builtin.min_, Builtin.min2, go_sem, h]
  · have e : min p q = p := by omega
    rw [e]
    simp [Builtin.min_, Builtin.min2, go_sem, h]
def AbvSaid (x : Bool × Int) (k : Fo) : Prop := ∀ (y : Bool × Int) (l : Fo) (a c : Value) (w : World), Gd (x, k) → Gd (y, l) → SIn w k a → SIn w l c → tszR k ≤ 4000000000000 → tszR l ≤ 4000000000000 →
    Calls Tryd.prog 78 #[.agg #[.bool x.1, .int .i64 x.2, a], .agg #[.bool y.1, .int .i64 y.2, c]] w fun e w' => e = .returned (.bool (abvT (x, k) (y, l))) ∧ Below w.heap.size w w'
set_option maxRecDepth 100000 in
set_option maxHeartbeats 1000000 in
theorem within_of (k : Fo) (ih : ∀ t ∈ k.list, AbvSaid t.1 t.2) (l : Fo) (a c : Value) (w : World) (gk : ∀ t ∈ k.list, Gd t) (gl : ∀ t ∈ l.list, Gd t) (hS : SIn w k a) (hU : SIn w l c) (hbk : tszR k ≤ 4000000000000) (hbl : tszR l ≤ 4000000000000) :
    Calls Tryd.prog 90 #[a, c] w fun e w' => e = .returned (.bool (lexF k l)) ∧ Below w.heap.size w w' := by
  have HI := hide ih
  have Hgk := hide gk
  have Hgl := hide gl
  have Hbk := hide hbk
  have Hbl := hide hbl
  obtain ⟨ad, ac, b, o, rfl, had, hlc, hcm, hF⟩ := hS
  obtain ⟨ud, uc, ub, uo, rfl, hud, hulc, hucm, hG⟩ := hU
  have HF := hide hF
  have HG := hide hG
  have Hl := hide (Fo.len_list k)
  have Hl2 := hide (Fo.len_list l)
  have Had := hide had
  have Hud := hide hud
  unfold maxLen at hcm hucm
  clear ih gk gl hbk hbl hF hG had hud
  obtain ⟨M, hM⟩ : ∃ M : Nat, M = min (Fo.len k) (Fo.len l) := ⟨_, rfl⟩
  have hmin := run_min (Fo.len k) (Fo.len l)
  rw [← hM] at hmin
  have hM1 : M ≤ Fo.len k := by omega
  have hM2 : M ≤ Fo.len l := by omega
  have HM3 : Hid (M = Fo.len k ∨ M = Fo.len l) := by unfold Hid; omega
  clear hM
  go_enter Tryd.func90, Tryd.ntmps90
  go_wp2_with fail
  go_loopw [11] (fun i wr => ∃ j : Nat, j ≤ M ∧ i = .int .i64 j ∧ (∀ q, q < j → ∀ t' u' : Tm, k.list[q]? = some t' → l.list[q]? = some u' → sameT t'.1 t'.2 u'.1 u'.2 = true) ∧ Below w.heap.size w wr) (fun i _ => M - (intOf i).toNat)
  case atStart => exact ⟨0, Nat.zero_le _, rfl, fun q hq => by omega, Below.refl _ _⟩
  case round =>
    obtain ⟨j, hj, rfl, hall, hBr⟩ := hrel
    have Hall := hide hall
    have HBr := hide hBr
    clear hall hBr
    by_cases hlt : j < M
    · have hlt' : (j : Int) < (M : Int) := by omega
      have hj1 : (j : Int) < (Fo.len k : Int) := by omega
      have hj2 : (j : Int) < (Fo.len l : Int) := by omega
      have hj0 : (0 : Int) ≤ (j : Int) := by omega
      have e1 := Had.out (by omega)
      have e2 := Hud.out (by omega)
      subst e1 e2
      obtain ⟨⟨⟨tv, tn⟩, tk⟩, ht⟩ : ∃ y, k.list[j]? = some y := ⟨k.list[j]'(by rw [Hl.out]; omega), by simp⟩
      obtain ⟨⟨⟨uv, un⟩, uk⟩, hu⟩ : ∃ y, l.list[j]? = some y := ⟨l.list[j]'(by rw [Hl2.out]; omega), by simp⟩
      obtain ⟨k0, k1, ta, k2, hSt⟩ := (HF.out.below HBr.out).at ht
      obtain ⟨l0, l1, ua, l2, hSu⟩ := (HG.out.below HBr.out).at hu
      have HSt := hide hSt
      have HSu := hide hSu
      obtain ⟨ta1, tc, tb, t4, rfl, -, -, -, -⟩ := hSt
      obtain ⟨ua1, uc1, ub1, u4, rfl, -, -, -, -⟩ := hSu
      have Ht := hide ht
      have Hu := hide hu
      have HcS := hide (fun w' hb => psame_call (x := (tv, tn)) (y := (uv, un)) HSt.out HSu.out w' hb)
      have Hbt : Hid (tszR tk ≤ 4000000000000) := Nat.le_trans (Nat.le_of_lt (sz_mem (x := (false, 0)) (List.mem_of_getElem? ht))) Hbk.out
      have Hbu : Hid (tszR uk ≤ 4000000000000) := Nat.le_trans (Nat.le_of_lt (sz_mem (x := (false, 0)) (List.mem_of_getElem? hu))) Hbl.out
      have HcAb := hide (fun (w' : World) (hb : Below wr.heap.size wr w') => HI.out ((tv, tn), tk) (List.mem_of_getElem? ht) (uv, un) uk _ _ w' (Hgk.out _ (List.mem_of_getElem? ht)) (Hgl.out _ (List.mem_of_getElem? hu)) (HSt.out.below hb) (HSu.out.below hb) Hbt.out Hbu.out)
      have hcur : Below wr.heap.size wr wr.drew := (Below.refl _ _).drew
      clear ht hu
      go_upto_region 4 with fail
      go_cut [23] (fun s23 wy => s23 = .bool (!(sameT (tv, tn) tk (uv, un) uk)) ∧ Below wr.heap.size wr wy)
      case first =>
        go_region_held3 (fun w' => w'.cell? ⟨b, o + j * 3, none⟩ = some (.bool tv) ∧ w'.cell? ⟨b, o + j * 3 + 1, none⟩ = some (.int .i64 tn) ∧ w'.cell? ⟨b, o + j * 3 + 2, none⟩ = some (.slice ta1 (Fo.len tk) tc) ∧ w'.cell? ⟨ub, uo + j * 3, none⟩ = some (.bool uv) ∧ w'.cell? ⟨ub, uo + j * 3 + 1, none⟩ = some (.int .i64 un) ∧ w'.cell? ⟨ub, uo + j * 3 + 2, none⟩ = some (.slice ua1 (Fo.len uk) uc1))
          (first
            | (with_reducible exact ⟨grow_cell hcur _ _ k0, grow_cell hcur _ _ k1, grow_cell hcur _ _ k2, grow_cell hcur _ _ l0, grow_cell hcur _ _ l1, grow_cell hcur _ _ l2⟩)
            | go_keep)
          (first
            | (go_at_call 77; with_reducible refine (HcS.out _ hcur).mono ?_; rintro e wS ⟨rfl, hbS⟩; replace hcur := below_step hcur hbS))
        all_goals
          go_wp2_with fail
          go_meet
          case rel => exact ⟨rfl, hcur⟩
      case rest =>
        obtain ⟨rfl, hby⟩ := hcut
        generalize wc = wy at *
        cases hs : sameT (tv, tn) tk (uv, un) uk
        · have Hlex := hide (lexF_at (t := ((tv, tn), tk)) (u := ((uv, un), uk)) Hall.out Ht.out Hu.out hs)
          have m0 := grow_cell hby _ _ k0
          have m1 := grow_cell hby _ _ k1
          have m2 := grow_cell hby _ _ k2
          have m3 := grow_cell hby _ _ l0
          have m4 := grow_cell hby _ _ l1
          have m5 := grow_cell hby _ _ l2
          have hcur2 : Below wr.heap.size wr wy.drew := hby.drew
          clear hs hcur k0 k1 k2 l0 l1 l2
          go_upto_region 5 with fail
          go_region_held3 (fun w' => w'.cell? ⟨b, o + j * 3, none⟩ = some (.bool tv) ∧ w'.cell? ⟨b, o + j * 3 + 1, none⟩ = some (.int .i64 tn) ∧ w'.cell? ⟨b, o + j * 3 + 2, none⟩ = some (.slice ta1 (Fo.len tk) tc) ∧ w'.cell? ⟨ub, uo + j * 3, none⟩ = some (.bool uv) ∧ w'.cell? ⟨ub, uo + j * 3 + 1, none⟩ = some (.int .i64 un) ∧ w'.cell? ⟨ub, uo + j * 3 + 2, none⟩ = some (.slice ua1 (Fo.len uk) uc1))
            (first
              | exact ⟨grow_cell hbS _ _ m0, grow_cell hbS _ _ m1, grow_cell hbS _ _ m2, grow_cell hbS _ _ m3, grow_cell hbS _ _ m4, grow_cell hbS _ _ m5⟩
              | go_keep)
            (first
              | (go_at_call 78; with_reducible refine (HcAb.out _ hcur2).mono ?_; rintro e wS ⟨rfl, hbS⟩; replace hcur2 := below_step hcur2 hbS))
          all_goals
            have Hend := hide (below_step HBr.out hcur2)
            clear hbS
            go_wp2_with fail
            go_ret
            exact ⟨by rw [Hlex.out]; rfl, Hend.out⟩
        · have Hnx : Hid (∀ q, q < j + 1 → ∀ t' u' : Tm, k.list[q]? = some t' → l.list[q]? = some u' → sameT t'.1 t'.2 u'.1 u'.2 = true) := fun q hq t' u' e1 e2 => by
            by_cases e : q = j
            · subst e
              rw [Ht.out] at e1
              rw [Hu.out] at e2
              cases e1
              cases e2
              exact hs
            · exact Hall.out q (by omega) t' u' e1 e2
          have Hb3 := hide (below_step HBr.out hby)
          clear hs hcur k0 k1 k2 l0 l1 l2
          go_wp2_with fail
          go_roundw
          case rel => exact ⟨j + 1, by omega, by go_num, Hnx.out, Hb3.out⟩
          case measure => simp [intOf]; omega
    · have Hlex : Hid (lexF k l = false) := lexF_end (fun q t' u' e1 e2 => Hall.out q (by
        have h1 := (List.getElem?_eq_some_iff.1 e1).1
        have h2 := (List.getElem?_eq_some_iff.1 e2).1
        rw [Hl.out] at h1
        rw [Hl2.out] at h2
        have h3 := HM3.out
        omega) t' u' e1 e2)
      have hlt' : ¬ (j : Int) < (M : Int) := by omega
      go_wp2_with fail
      go_ret
      exact ⟨by rw [Hlex.out]; rfl, HBr.out⟩
set_option maxRecDepth 100000 in
set_option maxHeartbeats 2000000 in
theorem above_any (x : Bool × Int) (k : Fo) : AbvSaid x k := by
  refine Fo.ind1 (p := AbvSaid) ?_ x k
  clear x k
  intro x k ih y l a c w ga gb hS hU hbk hbl
  obtain ⟨xv, n⟩ := x
  obtain ⟨yv, m⟩ := y
  have HI := hide ih
  have HS := hide hS
  have HU := hide hU
  have Hbk := hide hbk
  have Hbl := hide hbl
  have Hga := hide ga
  have Hgb := hide gb
  obtain ⟨ad, ac, b, o, rfl, -, -, -, -⟩ := hS
  obtain ⟨ud, uc, ub, uo, rfl, -, -, -, -⟩ := hU
  clear ih hbk hbl ga gb
  cases xv
  · go_enter Tryd.func78, Tryd.ntmps78
    go_wp2_with fail
    generalize hW2 : (w.alloc (.cells #[.bool false, .int .i64 n, .slice ad (Fo.len k) ac] 37)).alloc (.cells #[.bool yv, .int .i64 m, .slice ud (Fo.len l) uc] 37) = W2
    have hB2 : Below w.heap.size w W2 := by rw [← hW2]; exact (below_alloc _ _).alloc (by simp) _
    have p0 : W2.cell? ⟨w.heap.size, 0, none⟩ = some (.bool false) := by rw [← hW2, World.cell?_alloc_lt _ _ _ (by simp)]; exact new_cell rfl
    have p1 : W2.cell? ⟨w.heap.size, 1, none⟩ = some (.int .i64 n) := by rw [← hW2, World.cell?_alloc_lt _ _ _ (by simp)]; exact new_cell rfl
    have p2 : W2.cell? ⟨w.heap.size, 2, none⟩ = some (.slice ad (Fo.len k) ac) := by rw [← hW2, World.cell?_alloc_lt _ _ _ (by simp)]; exact new_cell rfl
    have r0 : W2.cell? ⟨w.heap.size + 1, 0, none⟩ = some (.bool yv) := by rw [← hW2]; exact new_cell (World.size_alloc _ _)
    have r1 : W2.cell? ⟨w.heap.size + 1, 1, none⟩ = some (.int .i64 m) := by rw [← hW2]; exact new_cell (World.size_alloc _ _)
    have r2 : W2.cell? ⟨w.heap.size + 1, 2, none⟩ = some (.slice ud (Fo.len l) uc) := by rw [← hW2]; exact new_cell (World.size_alloc _ _)
    clear hW2
    refine (asOften_any (false, n) k (yv, m) l _ _ W2 Hga.out Hgb.out Hbk.out Hbl.out (HS.out.below hB2) (HU.out.below hB2)).mono ?_
    rintro e w1 ⟨rfl, hb1⟩
    have HB1 := hide (below_step hB2 hb1)
    have q0 := grow_cell hb1 _ _ p0
    have q1 := grow_cell hb1 _ _ p1
    have q2 := grow_cell hb1 _ _ p2
    have t0 := grow_cell hb1 _ _ r0
    have t1 := grow_cell hb1 _ _ r1
    have t2 := grow_cell hb1 _ _ r2
    clear p0 p1 p2 r0 r1 r2 hb1 hB2
    cases hmay : mayT ((false, n), k) ((yv, m), l)
    · have Hf := hide (abv_may hmay)
      clear hmay
      go_wp2_with fail
      go_ret
      exact ⟨by rw [Hf.out]; rfl, HB1.out⟩
    · have Hmay := hide hmay
      have HsA := hide (fun w' hb => psize_call (x := (false, n)) Hga.out.ok (HS.out.below HB1.out) Hbk.out w' hb)
      have HsB := hide (fun w' hb => psize_call (x := (yv, m)) Hgb.out.ok (HU.out.below HB1.out) Hbl.out w' hb)
      have hcur : Below w1.heap.size w1 w1.drew := (Below.refl _ _).drew
      clear hmay
      go_upto_region 3 with fail
      go_cut [5, 6] (fun s5 s6 wx => s5 = .int .i64 (tszR k : Nat) ∧ s6 = .int .i64 (tszR l : Nat) ∧ Below w1.heap.size w1 wx)
      case first =>
        go_region_held3 (fun w' => w'.cell? ⟨w.heap.size, 0, none⟩ = some (.bool false) ∧ w'.cell? ⟨w.heap.size, 1, none⟩ = some (.int .i64 n) ∧ w'.cell? ⟨w.heap.size, 2, none⟩ = some (.slice ad (Fo.len k) ac) ∧ w'.cell? ⟨w.heap.size + 1, 0, none⟩ = some (.bool yv) ∧ w'.cell? ⟨w.heap.size + 1, 1, none⟩ = some (.int .i64 m) ∧ w'.cell? ⟨w.heap.size + 1, 2, none⟩ = some (.slice ud (Fo.len l) uc))
          (first
            | (with_reducible exact ⟨grow_cell hcur _ _ q0, grow_cell hcur _ _ q1, grow_cell hcur _ _ q2, grow_cell hcur _ _ t0, grow_cell hcur _ _ t1, grow_cell hcur _ _ t2⟩)
            | go_keep)
          (first
            | (go_at_call 69; with_reducible refine (HsA.out _ hcur).mono ?_; rintro e wA ⟨rfl, hbA⟩; replace hcur := below_step hcur hbA)
            | (go_at_call 69; with_reducible refine (HsB.out _ hcur).mono ?_; rintro e wB ⟨rfl, hbB⟩; replace hcur := below_step hcur hbB))
        all_goals
          go_wp2_with fail
          go_meet
          case rel => exact ⟨rfl, rfl, hcur⟩
      case rest =>
        obtain ⟨rfl, rfl, hbx⟩ := hcut
        generalize wc = wx at *
        replace q1 := grow_cell hbx _ _ q1
        replace q2 := grow_cell hbx _ _ q2
        replace t0 := grow_cell hbx _ _ t0
        replace t1 := grow_cell hbx _ _ t1
        replace t2 := grow_cell hbx _ _ t2
        have HBx := hide (below_step HB1.out hbx)
        clear hcur q0 hbx
        by_cases hsz : tszR k = tszR l
        · have hne : ((tszR k : Int) != (tszR l : Int)) = false := by rw [hsz]; simp
          have Hsz := hide hsz
          clear hsz
          cases yv
          · by_cases hnm : n = m
            · have Hf := hide (abv_args (y := (false, m)) Hmay.out Hsz.out (by simp [hnm]) (by simp [hnm]))
              have hnb : (n != m) = false := by simp [hnm]
              have HcW := hide (within_of k HI.out l _ _ wx (fun t ht => gd_mem Hga.out rfl ht) (fun t ht => gd_mem Hgb.out rfl ht) (HS.out.below HBx.out) (HU.out.below HBx.out) Hbk.out Hbl.out)
              clear hnm
              go_wp2_with fail
              refine HcW.out.mono ?_
              rintro e w3 ⟨rfl, hb3⟩
              have Hend := hide (below_step HBx.out hb3)
              clear hb3
              go_wp2_with fail
              go_ret
              exact ⟨by rw [Hf.out]; rfl, Hend.out⟩
            · have hnb : (n != m) = true := by simpa using hnm
              by_cases hlt : m < n
              · have Hf := hide (abv_sym (y := (false, m)) Hmay.out Hsz.out (by simp; omega) hlt)
                clear hnm
                go_wp2_with fail
                go_ret
                exact ⟨by rw [Hf.out]; simp, HBx.out⟩
              · have Hf := hide (abv_less (y := (false, m)) Hmay.out Hsz.out (by simp; omega))
                clear hnm
                go_wp2_with fail
                go_ret
                exact ⟨by rw [Hf.out]; simp, HBx.out⟩
          · have Hf := hide (abv_less (y := (true, m)) Hmay.out Hsz.out rfl)
            go_wp2_with fail
            go_ret
            exact ⟨by rw [Hf.out]; rfl, HBx.out⟩
        · have hne : ((tszR k : Int) != (tszR l : Int)) = true := by rw [ne_dec]; exact decide_eq_true hsz
          have Hf := hide (abv_size Hmay.out hsz)
          clear hsz
          go_wp2_with fail
          go_ret
          exact ⟨by rw [Hf.out]; simp, HBx.out⟩
  · go_enter Tryd.func78, Tryd.ntmps78
    have Hb2 : Hid (Below w.heap.size w ((w.alloc (.cells #[.bool true, .int .i64 n, .slice ad (Fo.len k) ac] 37)).alloc (.cells #[.bool yv, .int .i64 m, .slice ud (Fo.len l) uc] 37))) := (below_alloc _ _).alloc (by simp) _
    go_wp2_with fail
    go_ret
    exact ⟨rfl, Hb2.out⟩
set_option maxRecDepth 100000 in
set_option maxHeartbeats 1000000 in
theorem compare_any (x : Bool × Int) (k : Fo) (y : Bool × Int) (l : Fo) (a c : Value) (w : World) (ga : Gd (x, k)) (gb : Gd (y, l)) (hS : SIn w k a) (hU : SIn w l c) (hbk : tszR k ≤ 4000000000000) (hbl : tszR l ≤ 4000000000000) :
    Calls Tryd.prog 65 #[.agg #[.bool x.1, .int .i64 x.2, a], .agg #[.bool y.1, .int .i64 y.2, c]] w fun e w' => e = .returned (.int .i64 (cmpT (x, k) (y, l))) ∧ Below w.heap.size w w' := by
  obtain ⟨xv, n⟩ := x
  obtain ⟨yv, m⟩ := y
  have Hga := hide ga
  have Hgb := hide gb
  have HS := hide hS
  have HU := hide hU
  have Hbk := hide hbk
  have Hbl := hide hbl
  obtain ⟨ad, ac, b, o, rfl, -, -, -, -⟩ := hS
  obtain ⟨ud, uc, ub, uo, rfl, -, -, -, -⟩ := hU
  clear hbk hbl ga gb
  go_enter Tryd.func65, Tryd.ntmps65
  go_wp2_with fail
  generalize hW2 : (w.alloc (.cells #[.bool xv, .int .i64 n, .slice ad (Fo.len k) ac] 37)).alloc (.cells #[.bool yv, .int .i64 m, .slice ud (Fo.len l) uc] 37) = W2
  have hB2 : Below w.heap.size w W2 := by rw [← hW2]; exact (below_alloc _ _).alloc (by simp) _
  have p0 : W2.cell? ⟨w.heap.size, 0, none⟩ = some (.bool xv) := by rw [← hW2, World.cell?_alloc_lt _ _ _ (by simp)]; exact new_cell rfl
  have p1 : W2.cell? ⟨w.heap.size, 1, none⟩ = some (.int .i64 n) := by rw [← hW2, World.cell?_alloc_lt _ _ _ (by simp)]; exact new_cell rfl
  have p2 : W2.cell? ⟨w.heap.size, 2, none⟩ = some (.slice ad (Fo.len k) ac) := by rw [← hW2, World.cell?_alloc_lt _ _ _ (by simp)]; exact new_cell rfl
  have r0 : W2.cell? ⟨w.heap.size + 1, 0, none⟩ = some (.bool yv) := by rw [← hW2]; exact new_cell (World.size_alloc _ _)
  have r1 : W2.cell? ⟨w.heap.size + 1, 1, none⟩ = some (.int .i64 m) := by rw [← hW2]; exact new_cell (World.size_alloc _ _)
  have r2 : W2.cell? ⟨w.heap.size + 1, 2, none⟩ = some (.slice ud (Fo.len l) uc) := by rw [← hW2]; exact new_cell (World.size_alloc _ _)
  clear hW2
  refine (same_any (xv, n) k (yv, m) l _ _ W2 (HS.out.below hB2) (HU.out.below hB2)).mono ?_
  rintro e w3 ⟨rfl, hb3⟩
  have hB3 := below_step hB2 hb3
  cases hs : sameT (xv, n) k (yv, m) l
  · have q0 := grow_cell hb3 _ _ p0
    have q1 := grow_cell hb3 _ _ p1
    have q2 := grow_cell hb3 _ _ p2
    have t0 := grow_cell hb3 _ _ r0
    have t1 := grow_cell hb3 _ _ r1
    have t2 := grow_cell hb3 _ _ r2
    have Hs := hide hs
    clear p0 p1 p2 r0 r1 r2 hs hb3 hB2
    go_wp2_with fail
    refine (above_any (xv, n) k (yv, m) l _ _ w3 Hga.out Hgb.out (HS.out.below hB3) (HU.out.below hB3) Hbk.out Hbl.out).mono ?_
    rintro e w4 ⟨rfl, hb4⟩
    have hB4 := below_step hB3 hb4
    cases h1 : abvT ((xv, n), k) ((yv, m), l)
    · have a0 := grow_cell hb4 _ _ q0
      have a1 := grow_cell hb4 _ _ q1
      have a2 := grow_cell hb4 _ _ q2
      have a3 := grow_cell hb4 _ _ t0
      have a4 := grow_cell hb4 _ _ t1
      have a5 := grow_cell hb4 _ _ t2
      have H1 := hide h1
      clear q0 q1 q2 t0 t1 t2 h1 hb4 hB3
      go_wp2_with fail
      refine (above_any (yv, m) l (xv, n) k _ _ w4 Hgb.out Hga.out (HU.out.below hB4) (HS.out.below hB4) Hbl.out Hbk.out).mono ?_
      rintro e w5 ⟨rfl, hb5⟩
      have hB5 := below_step hB4 hb5
      cases h2 : abvT ((yv, m), l) ((xv, n), k)
      · have Hf : Hid (cmpT ((xv, n), k) ((yv, m), l) = 0) := by simp [Hid, cmpT, Hs.out, H1.out, h2]
        clear h2
        go_wp2_with fail
        go_ret
        exact ⟨by rw [Hf.out]; rfl, hB5⟩
      · have Hf : Hid (cmpT ((xv, n), k) ((yv, m), l) = 1) := by simp [Hid, cmpT, Hs.out, H1.out, h2]
        clear h2
        go_wp2_with fail
        go_ret
        exact ⟨by rw [Hf.out]; rfl, hB5⟩
    · have Hf : Hid (cmpT ((xv, n), k) ((yv, m), l) = 3) := by simp [Hid, cmpT, Hs.out, h1]
      clear h1
      go_wp2_with fail
      go_ret
      exact ⟨by rw [Hf.out]; rfl, hB4⟩
  · have Hf : Hid (cmpT ((xv, n), k) ((yv, m), l) = 2) := by simp [Hid, cmpT, hs]
    clear hs
    go_wp2_with fail
    go_ret
    exact ⟨by rw [Hf.out]; rfl, hB3⟩
end Go.Proofs.YtlgnpiphaeoeiadDoor

namespace Go.Proofs.YtlgnpiphaeoeiadDoor
open Go.RowKit Go.Deep Go.ChangeShapes Go.WideShapes
structure LBox (w : World) (b : Nat) (l : Lt) (a d : Value) : Prop where
  c0 : w.cell? ⟨b, 0, none⟩ = some (.bool l.1)
  c1 : w.cell? ⟨b, 1, none⟩ = some (.bool l.2.1.1.1)
  c2 : w.cell? ⟨b, 2, none⟩ = some (.int .i64 l.2.1.1.2)
  c3 : w.cell? ⟨b, 3, none⟩ = some a
  c4 : w.cell? ⟨b, 4, none⟩ = some (.bool l.2.2.1.1)
  c5 : w.cell? ⟨b, 5, none⟩ = some (.int .i64 l.2.2.1.2)
  c6 : w.cell? ⟨b, 6, none⟩ = some d
  sa : SIn w l.2.1.2 a
  sd : SIn w l.2.2.2 d
theorem LBox.below {w w' : World} (hb : Below w.heap.size w w') {b : Nat} {l : Lt} {a d : Value} (h : LBox w b l a d) : LBox w' b l a d :=
  ⟨grow_cell hb _ _ h.c0, grow_cell hb _ _ h.c1, grow_cell hb _ _ h.c2, grow_cell hb _ _ h.c3, grow_cell hb _ _ h.c4, grow_cell hb _ _ h.c5, grow_cell hb _ _ h.c6, h.sa.below hb, h.sd.below hb⟩
set_option maxRecDepth 100000 in
set_option maxHeartbeats 2000000 in
theorem ofSame_any (p q : Lt) (a d b c : Value) (w : World) (h1 : SIn w p.2.1.2 a) (h2 : SIn w p.2.2.2 d) (h3 : SIn w q.2.1.2 b) (h4 : SIn w q.2.2.2 c) :
    Calls Tryd.prog 67 #[litA p a d, litA q b c] w fun e w' => e = .returned (.bool (likeL p q)) ∧ Below w.heap.size w w' := by
  obtain ⟨pn, ⟨⟨pv, pi⟩, pk⟩, ⟨⟨pv', pi'⟩, pk'⟩⟩ := p
  obtain ⟨qn, ⟨⟨qv, qi⟩, qk⟩, ⟨⟨qv', qi'⟩, qk'⟩⟩ := q
  have H1 := hide h1
  have H2 := hide h2
  have H3 := hide h3
  have H4 := hide h4
  obtain ⟨a1, a3, _, _, rfl, -, -, -, -⟩ := h1
  obtain ⟨d1, d3, _, _, rfl, -, -, -, -⟩ := h2
  obtain ⟨b1, b3, _, _, rfl, -, -, -, -⟩ := h3
  obtain ⟨c1, c3, _, _, rfl, -, -, -, -⟩ := h4
  simp only at *
  go_enter Tryd.func67, Tryd.ntmps67
  go_wp2_with fail
  refine (same_any (pv, pi) pk (qv, qi) qk _ _ _ ((H1.out.alloc _).alloc _) ((H3.out.alloc _).alloc _)).mono ?_
  rintro e w1 ⟨rfl, hb1⟩
  obtain ⟨-, e1, e2, e3, e4, e5, e6, -, hB1, hl1⟩ := lit_cells hb1
  obtain ⟨-, f1, f2, f3, f4, f5, f6, -, hB2, hl2⟩ := lit_cells hB1
  simp only [World.size_alloc] at e1 e2 e3 e4 e5 e6
  clear hb1 hB1
  have H1' := hide (H1.out.below hB2)
  have H2' := hide (H2.out.below hB2)
  have H3' := hide (H3.out.below hB2)
  have H4' := hide (H4.out.below hB2)
  cases he : sameT (pv, pi) pk (qv, qi) qk
  · go_wp2_with fail
    refine (same_any (pv, pi) pk (qv', qi') qk' _ _ _ H1'.out H4'.out).mono ?_
    rintro e w2 ⟨rfl, hb2⟩
    have g4 := grow_cell hb2 _ _ e1
    have g5 := grow_cell hb2 _ _ e2
    have g6 := grow_cell hb2 _ _ e3
    have k4 := grow_cell hb2 _ _ f4
    have k5 := grow_cell hb2 _ _ f5
    have k6 := grow_cell hb2 _ _ f6
    clear e1 e2 e3 e4 e5 e6 f1 f2 f3 f4 f5 f6
    cases he2 : sameT (pv, pi) pk (qv', qi') qk'
    · go_wp2_with fail
      go_ret
      exact ⟨by simp [likeL, he, he2], below_step hB2 hb2⟩
    · go_wp2_with fail
      refine (same_any (pv', pi') pk' (qv, qi) qk _ _ _ (H2'.out.below hb2) (H3'.out.below hb2)).mono ?_
      rintro e w3 ⟨rfl, hb3⟩
      go_wp2_with fail
      go_ret
      exact ⟨by simp [likeL, he, he2], below_step (below_step hB2 hb2) hb3⟩
  · go_wp2_with fail
    refine (same_any (pv', pi') pk' (qv', qi') qk' _ _ _ H2'.out H4'.out).mono ?_
    rintro e w2 ⟨rfl, hb2⟩
    have g1 := grow_cell hb2 _ _ e1
    have g2 := grow_cell hb2 _ _ e2
    have g3 := grow_cell hb2 _ _ e3
    have g4 := grow_cell hb2 _ _ e4
    have g5 := grow_cell hb2 _ _ e5
    have g6 := grow_cell hb2 _ _ e6
    have k1 := grow_cell hb2 _ _ f1
    have k2 := grow_cell hb2 _ _ f2
    have k3 := grow_cell hb2 _ _ f3
    have k4 := grow_cell hb2 _ _ f4
    have k5 := grow_cell hb2 _ _ f5
    have k6 := grow_cell hb2 _ _ f6
    clear e1 e2 e3 e4 e5 e6 f1 f2 f3 f4 f5 f6
    cases he2 : sameT (pv', pi') pk' (qv', qi') qk'
    · go_wp2_with fail
      refine (same_any (pv, pi) pk (qv', qi') qk' _ _ _ (H1'.out.below hb2) (H4'.out.below hb2)).mono ?_
      rintro e w3 ⟨rfl, hb3⟩
      have g1' := grow_cell hb3 _ _ g1
      have g2' := grow_cell hb3 _ _ g2
      have g3' := grow_cell hb3 _ _ g3
      have k4' := grow_cell hb3 _ _ k4
      have k5' := grow_cell hb3 _ _ k5
      have k6' := grow_cell hb3 _ _ k6
      clear g1 g2 g3 g4 g5 g6 k1 k2 k3 k4 k5 k6
      cases he3 : sameT (pv, pi) pk (qv', qi') qk'
      · go_wp2_with fail
        go_ret
        exact ⟨by simp [likeL, he, he2, he3], below_step (below_step hB2 hb2) hb3⟩
      · go_wp2_with fail
        refine (same_any (pv', pi') pk' (qv, qi) qk _ _ _ ((H2'.out.below hb2).below hb3) ((H3'.out.below hb2).below hb3)).mono ?_
        rintro e w4 ⟨rfl, hb4⟩
        go_wp2_with fail
        go_ret
        exact ⟨by simp [likeL, he, he2, he3], below_step (below_step (below_step hB2 hb2) hb3) hb4⟩
    · go_wp2_with fail
      go_ret
      exact ⟨by simp [likeL, he, he2], below_step hB2 hb2⟩
set_option maxRecDepth 100000 in
set_option maxHeartbeats 1000000 in
theorem dclo_any (p l : Lt) (a d b c : Value) (lb : Nat) (w : World) (h1 : SIn w p.2.1.2 a) (h2 : SIn w p.2.2.2 d) (hl : LBox w lb l b c) :
    Calls Tryd.prog 66 #[litA p a d, .pointer (some ⟨lb, 0, none⟩)] w fun e w' => e = .returned (.bool (likeL p l)) ∧ Below w.heap.size w w' := by
  obtain ⟨pn, ⟨⟨pv, pi⟩, pk⟩, ⟨⟨pv', pi'⟩, pk'⟩⟩ := p
  obtain ⟨qn, ⟨⟨qv, qi⟩, qk⟩, ⟨⟨qv', qi'⟩, qk'⟩⟩ := l
  have H1 := hide h1
  have H2 := hide h2
  obtain ⟨q0, q1, q2, q3, q4, q5, q6, h3, h4⟩ := hl
  have H3 := hide h3
  have H4 := hide h4
  obtain ⟨a1, a3, _, _, rfl, -, -, -, -⟩ := h1
  obtain ⟨d1, d3, _, _, rfl, -, -, -, -⟩ := h2
  obtain ⟨b1, b3, _, _, rfl, -, -, -, -⟩ := h3
  obtain ⟨c1, c3, _, _, rfl, -, -, -, -⟩ := h4
  simp only at *
  have hlb : lb < w.heap.size := World.block_lt_of_cell? _ _ q0
  go_enter Tryd.func66, Tryd.ntmps66
  go_wp2_with fail
  refine (ofSame_any (pn, ((pv, pi), pk), ((pv', pi'), pk')) (qn, ((qv, qi), qk), ((qv', qi'), qk')) _ _ _ _ _ (H1.out.alloc _) (H2.out.alloc _) (H3.out.alloc _) (H4.out.alloc _)).mono ?_
  rintro e w1 ⟨rfl, hb1⟩
  go_wp2_with fail
  go_ret
  exact ⟨rfl, below_box hb1⟩
set_option maxRecDepth 100000 in
set_option maxHeartbeats 1000000 in
theorem large_any (p : Lt) (a d : Value) (w : World) (h1 : SIn w p.2.1.2 a) (h2 : SIn w p.2.2.2 d) (ok1 : okT p.2.1) (ok2 : okT p.2.2) (b1 : tszR p.2.1.2 ≤ 4000000000000) (b2 : tszR p.2.2.2 ≤ 4000000000000) :
    Calls Tryd.prog 50 #[litA p a d] w fun e w' => e = .returned (.bool (bigL p)) ∧ Below w.heap.size w w' := by
  obtain ⟨pn, ⟨⟨pv, pi⟩, pk⟩, ⟨⟨pv', pi'⟩, pk'⟩⟩ := p
  have H1 := hide h1
  have H2 := hide h2
  obtain ⟨a1, a3, _, _, rfl, -, -, -, -⟩ := h1
  obtain ⟨d1, d3, _, _, rfl, -, -, -, -⟩ := h2
  simp only at *
  go_enter Tryd.func50, Tryd.ntmps50
  go_wp2_with fail
  refine (psize_call ok1 (H1.out.alloc _) b1 _ (Below.refl _ _)).mono ?_
  rintro e w1 ⟨rfl, hb1⟩
  obtain ⟨-, e1, e2, e3, e4, e5, e6, -, hB1, hl1⟩ := lit_cells hb1
  have H2' := hide (H2.out.below hB1)
  clear hb1
  by_cases hl : 12 < tszR pk
  · go_wp2_with fail
    go_ret
    exact ⟨by simp [bigL, hl], hB1⟩
  · go_wp2_with fail
    refine (psize_call ok2 H2'.out b2 _ (Below.refl _ _)).mono ?_
    rintro e w2 ⟨rfl, hb2⟩
    have Hb : Hid (bigL (pn, ((pv, pi), pk), ((pv', pi'), pk')) = (decide ((12 : Int) < (tszR pk : Nat)) || decide ((12 : Int) < (tszR pk' : Nat)))) := by
      show bigL _ = _
      rw [Bool.eq_iff_iff]
      simp only [bigL, Bool.or_eq_true, decide_eq_true_eq]
      omega
    go_wp2_with fail
    go_ret
    refine ⟨?_, below_step hB1 hb2⟩
    rw [Hb.out]
    rfl
theorem find_first {pr : Lt → Bool} {f : Lt} : ∀ {s : Cl} {j : Nat}, (∀ q p, q < j → s[q]? = some p → pr p = false) → s[j]? = some f → pr f = true → s.find? pr = some f
  | [], _, _, h, _ => by simp at h
  | p :: s, 0, _, h, hp => by
    simp only [List.getElem?_cons_zero, Option.some.injEq] at h
    subst h
    simp [List.find?, hp]
  | p :: s, j + 1, hq, h, hp => by
    have h0 := hq 0 p (by omega) (by simp)
    rw [List.find?_cons, h0]
    exact find_first (j := j) (fun q r hqr hr => hq (q + 1) r (by omega) (by simpa using hr)) (by simpa using h) hp
theorem find_all {pr : Lt → Bool} {s : Cl} (h : ∀ q p, q < s.length → s[q]? = some p → pr p = false) : s.find? pr = none := by
  rw [List.find?_eq_none]
  intro p hp
  obtain ⟨i, hi, e⟩ := List.mem_iff_getElem.1 hp
  simp [h i p hi (by rw [List.getElem?_eq_getElem hi, e])]
def FoundL (s : Cl) (pr : Lt → Bool) (i : Int) : Prop := (i = -1 ∧ s.find? pr = none) ∨ ∃ (j : Nat) (f : Lt), i = j ∧ s[j]? = some f ∧ s.find? pr = some f
set_option maxRecDepth 100000 in
set_option maxHeartbeats 1000000 in
theorem indexD_any (s : Cl) (l : Lt) (lb : Nat) (lb1 lb2 : Value) (vs : Value) (w : World) (hS : CIn w s vs) (hl : LBox w lb l lb1 lb2) :
    Calls Tryd.prog 52 #[vs, .func (.func 66) #[] #[.pointer (some ⟨lb, 0, none⟩)]] w fun e w' => ∃ i, e = .returned (.int .i64 i) ∧ FoundL s (fun f => likeL f l) i ∧ Below w.heap.size w w' := by
  obtain ⟨ad, c, b, o, rfl, had, hlc, hcm, hP⟩ := hS
  unfold maxLen at hcm
  have HP := hide hP
  have HL := hide hl
  clear hl
  clear hP
  go_enter Tryd.func52, Tryd.ntmps52
  go_wp2_with fail
  go_loopw [8] (fun i wr => ∃ j : Nat, j ≤ s.length ∧ i = .int .i64 j ∧ (∀ q p, q < j → s[q]? = some p → likeL p l = false) ∧ Below w.heap.size w wr) (fun i _ => s.length - (intOf i).toNat)
  case atStart => exact ⟨0, Nat.zero_le _, rfl, fun q _ hq => by omega, Below.refl _ _⟩
  case round =>
    obtain ⟨j, hj, rfl, hno, hBr⟩ := hrel
    have Hno := hide hno
    clear hno
    by_cases hlt : j < s.length
    · have hlt' : (j : Int) < (s.length : Int) := by omega
      obtain ⟨⟨yn, ⟨⟨yv, yi⟩, yk⟩, ⟨yv', yi'⟩, yk'⟩, hy⟩ : ∃ y, s[j]? = some y := ⟨s[j], by simp [hlt]⟩
      obtain ⟨p0, p1, p2, ⟨u3, p3, hA⟩, p4, p5, u6, p6, hD⟩ := (HP.out.below hBr).at hy
      have HA := hide hA
      have HD := hide hD
      obtain ⟨_, _, _, _, rfl, -, -, -, -⟩ := hA
      obtain ⟨_, _, _, _, rfl, -, -, -, -⟩ := hD
      have ha : ad = some ⟨b, o, none⟩ := had (by omega)
      subst ha
      have Hy := hide hy
      clear hy had
      simp only at *
      go_wp2_with fail
      refine (dclo_any (yn, ((yv, yi), yk), ((yv', yi'), yk')) l _ _ _ _ lb _ HA.out HD.out (HL.out.below hBr)).mono ?_
      rintro e w2 ⟨rfl, hb2⟩
      have hB2 := below_step hBr hb2
      simp only
      cases hmb : likeL (yn, ((yv, yi), yk), ((yv', yi'), yk')) l
      · have Hm := hide hmb
        clear hmb hb2
        go_wp2_with fail
        go_roundw
        case rel => exact ⟨j + 1, by omega, by go_num, fun q p hq hp => by
          by_cases e : q = j
          · subst e; rw [Hy.out] at hp; cases hp; exact Hm.out
          · exact Hno.out q p (by omega) hp, hB2⟩
        case measure => simp [intOf]; omega
      · have Hf : Hid (FoundL s (fun f => likeL f l) (j : Int)) := .inr ⟨j, _, rfl, Hy.out, find_first Hno.out Hy.out hmb⟩
        clear hmb hb2
        go_wp2_with fail
        go_ret
        exact ⟨_, rfl, Hf.out, hB2⟩
    · have Hf : Hid (FoundL s (fun f => likeL f l) (-1)) := .inl ⟨rfl, find_all fun q p hq hp => Hno.out q p (by omega) hp⟩
      go_wp2_with fail
      go_ret
      exact ⟨_, rfl, Hf.out, hBr⟩
set_option maxRecDepth 100000 in
set_option maxHeartbeats 1000000 in
theorem indexG_any (s : Cl) (vs : Value) (w : World) (hS : CIn w s vs) (hg : ∀ p ∈ s, okL p ∧ tszR p.2.1.2 ≤ 4000000000000 ∧ tszR p.2.2.2 ≤ 4000000000000) :
    Calls Tryd.prog 52 #[vs, .func (.func 50) #[] #[]] w fun e w' => ∃ i, e = .returned (.int .i64 i) ∧ FoundL s bigL i ∧ Below w.heap.size w w' := by
  obtain ⟨ad, c, b, o, rfl, had, hlc, hcm, hP⟩ := hS
  unfold maxLen at hcm
  have HP := hide hP
  have HG := hide hg
  clear hg
  clear hP
  go_enter Tryd.func52, Tryd.ntmps52
  go_wp2_with fail
  go_loopw [8] (fun i wr => ∃ j : Nat, j ≤ s.length ∧ i = .int .i64 j ∧ (∀ q p, q < j → s[q]? = some p → bigL p = false) ∧ Below w.heap.size w wr) (fun i _ => s.length - (intOf i).toNat)
  case atStart => exact ⟨0, Nat.zero_le _, rfl, fun q _ hq => by omega, Below.refl _ _⟩
  case round =>
    obtain ⟨j, hj, rfl, hno, hBr⟩ := hrel
    have Hno := hide hno
    clear hno
    by_cases hlt : j < s.length
    · have hlt' : (j : Int) < (s.length : Int) := by omega
      obtain ⟨⟨yn, ⟨⟨yv, yi⟩, yk⟩, ⟨yv', yi'⟩, yk'⟩, hy⟩ : ∃ y, s[j]? = some y := ⟨s[j], by simp [hlt]⟩
      obtain ⟨p0, p1, p2, ⟨u3, p3, hA⟩, p4, p5, u6, p6, hD⟩ := (HP.out.below hBr).at hy
      have HA := hide hA
      have HD := hide hD
      obtain ⟨_, _, _, _, rfl, -, -, -, -⟩ := hA
      obtain ⟨_, _, _, _, rfl, -, -, -, -⟩ := hD
      have ha : ad = some ⟨b, o, none⟩ := had (by omega)
      subst ha
      have Hy := hide hy
      clear hy had
      simp only at *
      go_wp2_with fail
      refine (large_any (yn, ((yv, yi), yk), ((yv', yi'), yk')) _ _ _ HA.out HD.out (HG.out _ (List.mem_of_getElem? Hy.out)).1.1 (HG.out _ (List.mem_of_getElem? Hy.out)).1.2 (HG.out _ (List.mem_of_getElem? Hy.out)).2.1 (HG.out _ (List.mem_of_getElem? Hy.out)).2.2).mono ?_
      rintro e w2 ⟨rfl, hb2⟩
      have hB2 := below_step hBr hb2
      simp only
      cases hmb : bigL (yn, ((yv, yi), yk), ((yv', yi'), yk'))
      · have Hm := hide hmb
        clear hmb hb2
        go_wp2_with fail
        go_roundw
        case rel => exact ⟨j + 1, by omega, by go_num, fun q p hq hp => by
          by_cases e : q = j
          · subst e; rw [Hy.out] at hp; cases hp; exact Hm.out
          · exact Hno.out q p (by omega) hp, hB2⟩
        case measure => simp [intOf]; omega
      · have Hf : Hid (FoundL s bigL (j : Int)) := .inr ⟨j, _, rfl, Hy.out, find_first Hno.out Hy.out hmb⟩
        clear hmb hb2
        go_wp2_with fail
        go_ret
        exact ⟨_, rfl, Hf.out, hB2⟩
    · have Hf : Hid (FoundL s bigL (-1)) := .inl ⟨rfl, find_all fun q p hq hp => Hno.out q p (by omega) hp⟩
      go_wp2_with fail
      go_ret
      exact ⟨_, rfl, Hf.out, hBr⟩
set_option maxRecDepth 100000 in
set_option maxHeartbeats 1000000 in
theorem containsG_any (s : Cl) (vs : Value) (w : World) (hS : CIn w s vs) (hg : ∀ p ∈ s, okL p ∧ tszR p.2.1.2 ≤ 4000000000000 ∧ tszR p.2.2.2 ≤ 4000000000000) :
    Calls Tryd.prog 35 #[vs, .func (.func 50) #[] #[]] w fun e w' => e = .returned (.bool (s.any bigL)) ∧ Below w.heap.size w w' := by
  have HS := hide hS
  obtain ⟨a1, c1, b1, o1, rfl, -, -, -, -⟩ := hS
  go_enter Tryd.func35, Tryd.ntmps35
  go_wp2_with fail
  refine (indexG_any s _ _ HS.out hg).mono ?_
  rintro e w2 ⟨i, rfl, hf, hb2⟩
  rcases hf with ⟨rfl, hf⟩ | ⟨j, f, rfl, hj, hf⟩
  · have Hf : Hid (s.any bigL = false) := by
      rw [Hid, List.any_eq_false]
      exact fun x hx => List.find?_eq_none.1 hf x hx
    clear hf
    go_wp2_with fail
    go_ret
    exact ⟨by rw [Hf.out]; rfl, hb2⟩
  · have Hf : Hid (s.any bigL = true) := List.any_eq_true.2 ⟨f, List.mem_of_getElem? hj, List.find?_some hf⟩
    clear hf hj
    go_wp2_with fail
    go_ret
    refine ⟨?_, hb2⟩
    rw [Hf.out]
    simp
end Go.Proofs.YtlgnpiphaeoeiadDoor
