/- RRen DEach DClo CN CK CDi -/
import Derived.Test.YtaliegkkdhkfcacGreatG13
import Derived.Deep.RegionHeld3
namespace Go.Proofs.YtaliegkkdhkfcacGreat
open Go.RowKit Go.Deep Go.ChangeShapes Go.WideShapes
attribute [local go_sem ↓] Go.wp_at_zero Go.wp_at_succ
def RenRSaid (d : Int) (x : Bool × Int) (k : Fo) : Prop := ∀ (W0 : World) (a : Value) (w : World), Below W0.heap.size W0 w → SIn W0 k a → okT (x, k) → narT (x, k) →
    Calls Tryz.prog 28 #[.agg #[.bool x.1, .int .i64 x.2, a], .int .i64 d] w fun e w' => ∃ (a1 : Option Addr) (a2 a3 : Nat), e = .returned (.agg #[.bool (subT (ren d) (x, k)).1.1, .int .i64 (subT (ren d) (x, k)).1.2, .slice a1 a2 a3]) ∧
      SB (fun q => q < W0.heap.size ∨ (w.heap.size ≤ q ∧ q < w'.heap.size)) w' (subT (ren d) (x, k)).2 (.slice a1 a2 a3) ∧ Below w.heap.size w w'
set_option maxRecDepth 100000 in
set_option maxHeartbeats 2000000 in
theorem renameR_any (d : Int) (x : Bool × Int) (k : Fo) : RenRSaid d x k := by
  refine Fo.ind1 (p := RenRSaid d) ?_ x k
  clear x k
  intro x k ih W0 a w hW hS hok hnar
  obtain ⟨v, n⟩ := x
  have HI := hide ih
  have HW := hide hW
  have Hok := hide hok
  have Hnar := hide hnar
  have HS := hide hS
  obtain ⟨ad, ac, b, o, rfl, had, hlc, hcm, hF⟩ := hS
  have HF := hide hF
  have hW0 := hW.size
  unfold maxLen at hcm
  clear ih hok hF hW
  cases v
  · have Hres : Hid (subT (ren d) ((false, n), k) = ((false, n), subF (ren d) k)) := rfl
    have HTok : Hid (Fo.ok (subF (ren d) k)) := subF_ok (fun _ => ok_vr _) k
    have Hl := hide (Fo.len_list k)
    have Hl2 := hide (subF_len (ren d) k)
    have hlen : Fo.len k ≤ 1000 := hnar.1
    clear hnar
    go_enter Tryz.func28, Tryz.ntmps28
    go_wp2_with fail
    generalize hW2 : (w.alloc (.cells #[.bool false, .int .i64 n, .slice ad (Fo.len k) ac] 40)).alloc (.cells #[.bool false, .int .i64 0, .slice none 0 0] 40) = W2
    have hs2 : W2.heap.size = w.heap.size + 1 + 1 := by rw [← hW2]; simp
    have hB2 : Below w.heap.size w W2 := by rw [← hW2]; exact (below_alloc _ _).alloc (by simp) _
    have r0 : W2.cell? ⟨w.heap.size + 1, 0, none⟩ = some (.bool false) := by rw [← hW2]; exact new_cell (World.size_alloc _ _)
    have r1 : W2.cell? ⟨w.heap.size + 1, 1, none⟩ = some (.int .i64 0) := by rw [← hW2]; exact new_cell (World.size_alloc _ _)
    have r2 : W2.cell? ⟨w.heap.size + 1, 2, none⟩ = some (.slice none 0 0) := by rw [← hW2]; exact new_cell (World.size_alloc _ _)
    have rf : ∀ i, W2.frozen? ⟨w.heap.size + 1, i, none⟩ = false := fun i => by rw [← hW2]; exact new_frozen (World.size_alloc _ _)
    have HQ := hide (And.intro r0 (And.intro r1 (And.intro r2 rf)))
    have HB2 := hide hB2
    have Hs2 := hide hs2
    have H0 : Hid (AppRel (w.heap.size + 1 + 1) W2 (fun q => q < W0.heap.size) (subF (ren d) k) n 0 (W2.alloc (.cells #[.bool false, .int .i64 n, .slice none 0 0] 40))) := app_zero hs2
    clear r0 r1 r2 rf hB2 hs2 hW2
    go_loopw [23] (fun i wr => ∃ j : Nat, j ≤ Fo.len k ∧ i = .int .i64 j ∧ AppRel (w.heap.size + 1 + 1) W2 (fun q => q < W0.heap.size) (subF (ren d) k) n j wr) (fun i _ => Fo.len k - (intOf i).toNat)
    case atStart => exact ⟨0, Nat.zero_le _, rfl, H0.out⟩
    case round =>
      obtain ⟨j, hj, rfl, hR⟩ := hrel
      have HR := hide hR
      obtain ⟨vr', xs, h1, h2, q0, q1, q2, qf, hB⟩ := hR
      have H1 := hide h1
      have H2 := hide h2
      have HB := hide hB
      have Hqf := hide qf
      have hs2 := Hs2.out
      have hBw : Below w.heap.size w wr := HB2.out.trans (hB.mono (by omega))
      have hB0 : Below W0.heap.size W0 wr := HW.out.trans (hBw.mono hW0)
      have hBlt : w.heap.size + 1 + 1 < wr.heap.size := World.block_lt_of_cell? _ _ q0
      obtain ⟨z1, z3, rfl⟩ := slice_of_owns h1
      clear H0 h1 h2 hB
      by_cases hlt : j < Fo.len k
      · have hlt' : (j : Int) < (Fo.len k : Int) := by omega
        have had' : ad = some ⟨b, o, none⟩ := had (by omega)
        subst had'
        obtain ⟨⟨⟨ev, en⟩, ek⟩, hy⟩ : ∃ y, k.list[j]? = some y := ⟨k.list[j]'(by rw [Hl.out]; exact hlt), by simp⟩
        obtain ⟨c0, c1, yv', c2, hSy⟩ := HF.out.at hy
        have c0' := grow_cell hB0 _ _ c0
        have c1' := grow_cell hB0 _ _ c1
        have c2' := grow_cell hB0 _ _ c2
        have HSy := hide hSy
        obtain ⟨ya, yc, yb, yo, rfl, -, -, -, -⟩ := hSy
        have Hy := hide hy
        have Hy2 : Hid ((subF (ren d) k).list[j]? = some (subT (ren d) ((ev, en), ek))) := by rw [Hid, subF_list, List.getElem?_map, hy]; rfl
        obtain ⟨⟨⟨xv, xn⟩, xk⟩, hz⟩ : ∃ z, z = subT (ren d) ((ev, en), ek) := ⟨_, rfl⟩
        have Hz := hide hz
        have Hoke : Hid (okT ((ev, en), ek)) := ok_mem Hok.out.2 (List.mem_of_getElem? hy)
        have Hnare : Hid (narT ((ev, en), ek)) := nar_mem Hnar.out.2 (List.mem_of_getElem? hy)
        clear hy had c0 c1 c2 hz
        obtain ⟨i26, hi26, hz0, hz1, hz2⟩ := info_parts Tryz.info40
        have hn1 : j + 1 ≤ maxLen := by unfold maxLen; omega
        have hn2 : (j + 1) * 40 ≤ 140737488355328 := by omega
        go_upto_region 7 with fail
        generalize hwa : wr.alloc (.cells #[.bool ev, .int .i64 en, .slice ya (Fo.len ek) yc] 40) = wa
        have e0 : wa.cell? ⟨wr.heap.size, 0, none⟩ = some (.bool ev) := by rw [← hwa]; exact new_cell rfl
        have e1 : wa.cell? ⟨wr.heap.size, 1, none⟩ = some (.int .i64 en) := by rw [← hwa]; exact new_cell rfl
        have e2 : wa.cell? ⟨wr.heap.size, 2, none⟩ = some (.slice ya (Fo.len ek) yc) := by rw [← hwa]; exact new_cell rfl
        have hba : Below wr.heap.size wr wa := by rw [← hwa]; exact below_alloc _ _
        have f2 := grow_cell hba _ _ q2
        have ff : ∀ i, wa.frozen? ⟨w.heap.size + 1 + 1, i, none⟩ = false := fun i => (hba.frozen hBlt).trans (Hqf.out i)
        have hBa : w.heap.size + 1 + 1 < wa.heap.size := Nat.lt_of_lt_of_le hBlt hba.size
        have Hno : Hid (some (w.heap.size + 1 + 1) ≠ (Value.slice z1 j z3).ownBlock) := fun e => by have := (owns_at H1.out _ e.symm).1; omega
        have hcall : Calls Tryz.prog 28 #[.agg #[.bool ev, .int .i64 en, .slice ya (Fo.len ek) yc], .int .i64 d] wa.drew fun e w' => ∃ (a1 : Option Addr) (a2 a3 : Nat), e = .returned (.agg #[.bool xv, .int .i64 xn, .slice a1 a2 a3]) ∧ SB (fun q => q < W0.heap.size ∨ (wa.heap.size ≤ q ∧ q < w'.heap.size)) w' xk (.slice a1 a2 a3) ∧ Below wa.heap.size wa w' := by
          refine (HI.out ((ev, en), ek) (List.mem_of_getElem? Hy.out) W0 _ wa.drew ?_ HSy.out Hoke.out Hnare.out).mono ?_
          · exact (hB0.trans (hba.mono hB0.size)).trans (Below.refl _ _).drew
          · rintro e w' ⟨a1, a2, a3, rfl, hk, hb⟩
            rw [← Hz.out] at hk ⊢
            exact ⟨a1, a2, a3, rfl, hk, (Below.refl _ _).drew.trans hb⟩
        have Hcall := hide hcall
        have Hba := hide hba
        clear hcall hwa c0' c1' c2' hba q2 qf
        go_region_law (first
          | (refine step_append_lies _ (by rfl) _ _ _ (by rfl) (w.heap.size + 1 + 1 + 1) 40 i26 (.agg #[.bool false, .int .i64 0, .slice none 0 0]) 3 40 Tryz.underlying38 hi26 hz0 hz1 hz2 rfl (by decide) (.slice z1 j z3) j xs (by rfl) Hown3.out ⟨w3.heap.size, 0, none⟩ 1 1 [.bool xv, .int .i64 xn, .slice a1 a2 a3] (by rfl) (by rfl) Hnews.out (by simp [Value.oneCell']) (by decide) hn1 hn2 (by simp; omega) (w3.heap.size + 1) (by simp) ?_; intro g cap w4 ho4 hg4 hat4 hlt4; have x2 := out_cell hg4 hB3 Hno.out g3; have xf := out_frozen hg4 hB3 Hno.out gf3)
          | (go_simp; go_at_call 28; refine Hcall.out.mono ?_; rintro e w3 ⟨a1, a2, a3, rfl, hk3, hb3⟩
             have hs3 := hb3.size; have g3 := grow_cell hb3 _ _ f2; have gf3 : ∀ i, w3.frozen? ⟨w.heap.size + 1 + 1, i, none⟩ = false := (fun i => (hb3.frozen hBa).trans (ff i)); have hB3 : w.heap.size + 1 + 1 < w3.heap.size := Nat.lt_of_lt_of_le hBa hs3
             have Hown3 : Hid ((w3.alloc (.cells #[.bool xv, .int .i64 xn, .slice a1 a2 a3] 40)).ownsRow (w.heap.size + 1 + 1 + 1) 40 3 (.slice z1 j z3) j xs) := (owns_keep H1.out (fun g hg => by have h := owns_at H1.out g hg; have hsz := Hba.out.size; rw [Below.heap_alloc _ _ _ (by omega), hb3.block g (by omega), Hba.out.block g h.2]))
             have Hnews : Hid (∀ j u, [Value.bool xv, .int .i64 xn, .slice a1 a2 a3][j]? = some u → (w3.alloc (.cells #[.bool xv, .int .i64 xn, .slice a1 a2 a3] 40)).cell? ((⟨w3.heap.size, 0, none⟩ : Addr).add j) = some u) := (World.news_of_block (cs := #[.bool xv, .int .i64 xn, .slice a1 a2 a3]) (heap_alloc_new w3 _))))
        all_goals
          have Hst := hide (app_next (B := w.heap.size + 1 + 1) (W2 := W2) (X := fun q => q < W0.heap.size) (T := subF (ren d) k) (xn := n) (z := (xv, xn)) (r := xk) (a := .slice a1 a2 a3) HTok.out H1.out H2.out (fun q hq => by omega) q0 q1 (by have hc := HR.out; obtain ⟨_, _, _, _, _, _, q2, _, _⟩ := hc; exact (Hba.out.cell (p := ⟨w.heap.size + 1 + 1, 2, none⟩) hBlt).symm.trans f2) Hqf.out HB.out (below_step Hba.out hb3) (hk3.wide (fun q hq => by rcases hq with h | h; exact .inl h; exact .inr ⟨by have := Hba.out.size; omega, h.2⟩)) (by rw [Hy2.out, ← Hz.out]) rfl ho4 hg4 hat4 hlt4)
          clear hk3 hb3 ho4 hg4 hat4 hlt4 x2 xf g3 gf3 Hown3 Hnews hi26 hz0 hz1 hz2
          go_wp2_with fail
          go_roundw
          case rel => exact ⟨j + 1, by omega, by go_num, Hst.out⟩
          case measure => simp [intOf]; omega
      · have hje : j = Fo.len k := by omega
        have hRe : AppRel (w.heap.size + 1 + 1) W2 (fun q => q < W0.heap.size) (subF (ren d) k) n (Fo.len (subF (ren d) k)) wr := by rw [Hl2.out, ← hje]; exact HR.out
        obtain ⟨y1, y3, hc2, hSB⟩ := app_end hRe
        have HSB := hide hSB
        obtain ⟨p0, p1, p2, pf⟩ := HQ.out
        have s0 : wr.cell? ⟨w.heap.size + 1, 0, none⟩ = some (.bool false) := (HB.out.cell (by show w.heap.size + 1 < _; omega)).trans p0
        have s1 : wr.cell? ⟨w.heap.size + 1, 1, none⟩ = some (.int .i64 0) := (HB.out.cell (by show w.heap.size + 1 < _; omega)).trans p1
        have s2 : wr.cell? ⟨w.heap.size + 1, 2, none⟩ = some (.slice none 0 0) := (HB.out.cell (by show w.heap.size + 1 < _; omega)).trans p2
        have sf : ∀ i, wr.frozen? ⟨w.heap.size + 1, i, none⟩ = false := fun i => (HB.out.frozen (by show w.heap.size + 1 < _; omega)).trans (pf i)
        clear q2 hSB p0 p1 p2 pf hRe
        go_wp2_with fail
        refine bodyPost_ret (v := .agg #[.bool false, .int .i64 n, .slice y1 (Fo.len (subF (ren d) k)) y3]) (by simp [results, Tryz.results28, go_sem, s0, s1, s2]) rfl ⟨y1, Fo.len (subF (ren d) k), y3, by rw [Hres.out], ?_, set3_below (o := 0) hBw (by omega)⟩
        rw [Hres.out]
        refine (HSB.out.set3 (b := w.heap.size + 1) (o := 0) ?_).wide (fun q hq => ?_)
        · intro h
          rcases h with h | h <;> omega
        · rcases hq with h | h
          · exact .inl h
          · exact .inr ⟨by omega, by rw [World.size_setCell, World.size_setCell, World.size_setCell]; exact h.2⟩
  · have Hres : Hid (subT (ren d) ((true, n), k) = vr (wrap64 (n + d))) := rfl
    have hk0 : k = .nil := Hok.out.1 rfl
    subst hk0
    clear had
    go_enter Tryz.func28, Tryz.ntmps28
    go_wp2_with fail
    refine bodyPost_ret (v := .agg #[.bool true, .int .i64 (wrap64 (n + d)), .slice ad (Fo.len .nil) ac]) (by simp [results, Tryz.results28, go_sem, wrap64]) rfl ⟨ad, Fo.len .nil, ac, by rw [Hres.out]; rfl, ?_, (below_alloc _ _).alloc (by simp) _⟩
    rw [Hres.out]
    exact ⟨ad, ac, b, o, rfl, fun h => by simp [vr, Fo.len] at h, Nat.zero_le _, by unfold maxLen; exact hcm, trivial⟩
end Go.Proofs.YtaliegkkdhkfcacGreat

namespace Go.Proofs.YtaliegkkdhkfcacGreat
open Go.RowKit Go.Deep Go.ChangeShapes Go.WideShapes
def CloSaid (f bb : Nat) (g : Tm → Tm) (G : Tm → Prop) (W0 : World) : Prop := ∀ (x : Bool × Int) (k : Fo) (a : Value) (w : World), Below W0.heap.size W0 w → SIn W0 k a → G (x, k) →
    Calls Tryz.prog f #[.agg #[.bool x.1, .int .i64 x.2, a], .pointer (some ⟨bb, 0, none⟩)] w fun e w' => ∃ (a1 : Option Addr) (a2 a3 : Nat), e = .returned (.agg #[.bool (g (x, k)).1.1, .int .i64 (g (x, k)).1.2, .slice a1 a2 a3]) ∧
      SB (fun q => q < W0.heap.size ∨ (w.heap.size ≤ q ∧ q < w'.heap.size)) w' (g (x, k)).2 (.slice a1 a2 a3) ∧ Below w.heap.size w w'
theorem grown_cell {w w' : World} {o : Option Nat} {q i : Nat} {v : Value} (hg : w.grownBy w' o) (hn : some q ≠ o) (h : w.cell? ⟨q, i, none⟩ = some v) : w'.cell? ⟨q, i, none⟩ = some v := by
  rw [World.cell?_of_block (hg.block q (World.block_lt_of_cell? _ _ h) hn)]
  exact h
theorem ret_boxB {w w3 : World} {z1 : Option Addr} {z2 z3 : Nat} {tv : Bool} {tn : Int} {tk : Fo} {L lo g : Nat} (hO : SB (fun q => q < L ∨ (lo ≤ q ∧ q < w3.heap.size)) w3 tk (.slice z1 z2 z3)) (hL : L ≤ g) (hg : g < lo) (hlo : w.heap.size ≤ lo) :
    SB (fun q => q < L ∨ (w.heap.size ≤ q ∧ q < (set3 w3 g 0 (.bool tv) (.int .i64 tn) (.slice z1 z2 z3)).heap.size)) (set3 w3 g 0 (.bool tv) (.int .i64 tn) (.slice z1 z2 z3)) tk (.slice z1 z2 z3) := by
  refine hO.frame (fun q hq => ?_) (fun q i hq => set3_other (.inl (by omega)))
  rw [set3_size]
  omega
theorem ownL_more3 {lo : Nat} {wr w3 w4 : World} {s : Cl} {v v4 : Value} {xs : List Value} {l : Lt} {a d : Value} (h : OwnL lo (XO wr v) wr s v xs) (hb : Below wr.heap.size wr w3) (hlo : lo ≤ wr.heap.size)
    (hA : SB (fun q => q < lo ∨ (wr.heap.size ≤ q ∧ q < w3.heap.size)) w3 l.2.1.2 a) (hD : SB (fun q => q < lo ∨ (wr.heap.size ≤ q ∧ q < w3.heap.size)) w3 l.2.2.2 d)
    (ho : w4.ownsRow lo 42 7 v4 (s.length + 1) (xs ++ litV l a d)) (hg : w3.grownBy w4 v.ownBlock) (hat : v4.ownBlock = v.ownBlock ∨ v4.ownBlock = some w3.heap.size) :
    OwnL lo (XO w4 v4) w4 (s ++ [l]) v4 (xs ++ litV l a d) ∧ Below lo wr w4 := by
  have hs := hb.size
  have hs4 := hg.size
  have hv : ∀ q, v.ownBlock = some q → lo ≤ q ∧ q < wr.heap.size := fun q hq => owns_at h.row q hq
  have noq : ∀ q, q < w3.heap.size → some q ≠ v.ownBlock → q < w4.heap.size ∧ some q ≠ v4.ownBlock := fun q hq hn => by
    refine ⟨by omega, fun e => ?_⟩
    rcases hat with e' | e'
    · exact hn (e.trans e')
    · rw [e'] at e; simp at e; omega
  have ok : ∀ q, (q < lo ∨ (wr.heap.size ≤ q ∧ q < w3.heap.size)) → q < w3.heap.size ∧ some q ≠ v.ownBlock := fun q hq => by
    refine ⟨by omega, fun e => ?_⟩
    have := hv q e.symm
    omega
  refine ⟨⟨by simpa using ho, ?_, fun q hq => hq⟩, ⟨hg.os.trans hb.os, hg.tape.trans hb.tape, hg.output.trans hb.output, by omega, fun q hq => ?_⟩⟩
  · refine LC.append (LC.one ?_ ?_) ?_
    · exact hA.frame (fun q hq => noq q (ok q hq).1 (ok q hq).2) (fun q i hq => World.cell?_of_block (hg.block q (ok q hq).1 (ok q hq).2))
    · exact hD.frame (fun q hq => noq q (ok q hq).1 (ok q hq).2) (fun q i hq => World.cell?_of_block (hg.block q (ok q hq).1 (ok q hq).2))
    · refine h.cells.frame (fun q hq => noq q (by have := hq.1; omega) hq.2) (fun q i hq => World.cell?_of_block ?_)
      rw [hg.block q (by have := hq.1; omega) hq.2, hb.block q hq.1]
  · have hn : some q ≠ v.ownBlock := fun e => by have := hv q e.symm; omega
    rw [hg.block q (by omega) hn, hb.block q (by omega)]
set_option maxRecDepth 100000 in
set_option maxHeartbeats 4000000 in
theorem eachDN_any (bb : Nat) (g : Tm → Tm) (G : Tm → Prop) (k : Cl) (a : Value) (w : World) (hcl : CloSaid 83 bb g G w) (hS : CIn w k a) (hG : ∀ l ∈ k, G l.2.1 ∧ G l.2.2) (hlen : k.length ≤ 1000000) :
    Calls Tryz.prog 26 #[a, .func (.func 83) #[] #[.pointer (some ⟨bb, 0, none⟩)]] w fun e w' => ∃ v xs, e = .returned v ∧ OwnL w.heap.size (XO w' v) w' (k.map (mapL g)) v xs ∧ Below w.heap.size w w' := by
  obtain ⟨a1, c1, b1, oo, rfl, had1, hlc1, hcm1, hF1⟩ := hS
  unfold maxLen at hcm1
  have HF1 := hide hF1
  have HG := hide hG
  have Hcl := hide hcl
  clear hF1 hG hcl
  obtain ⟨iL, hi, hz0, hz1, hz2⟩ := info_parts Tryz.info42
  go_enter Tryz.func26, Tryz.ntmps26
  go_wp2_with fail
  go_loopw [5, 10] (fun v i wr => ∃ (j : Nat) (o1 : Option Addr) (o3 : Nat) (xs : List Value), j ≤ k.length ∧ i = .int .i64 j ∧ v = .slice o1 j o3 ∧ OwnL w.heap.size (XO wr v) wr ((k.map (mapL g)).take j) v xs ∧ Below w.heap.size w wr) (fun _ i _ => k.length - (intOf i).toNat)
  case atStart => exact ⟨0, none, 0, [], Nat.zero_le _, rfl, rfl, ownL_nil _ _, Below.refl _ _⟩
  case round =>
    obtain ⟨j, o1, o3, xs, hj, rfl, rfl, hO, hBr⟩ := hrel
    have HO := hide hO
    clear hO
    have hsr := hBr.size
    by_cases hlt : j < k.length
    · have hlt' : (j : Int) < (k.length : Int) := by omega
      obtain ⟨⟨yn, ⟨⟨yv, yi⟩, yk⟩, ⟨yv', yi'⟩, yk'⟩, hy⟩ : ∃ y, k[j]? = some y := ⟨k[j]'hlt, by simp⟩
      obtain ⟨-, -, -, ⟨u3', p3', hA0⟩, -, -, u6', p6', hD0⟩ := HF1.out.at hy
      obtain ⟨p0, p1, p2, ⟨u3, p3, hA⟩, p4, p5, u6, p6, hD⟩ := (HF1.out.below hBr).at hy
      have e3 : u3' = u3 := by have := grow_cell hBr _ _ p3'; rw [p3] at this; exact (Option.some.inj this).symm
      have e6 : u6' = u6 := by have := grow_cell hBr _ _ p6'; rw [p6] at this; exact (Option.some.inj this).symm
      subst e3 e6
      have ha1 : a1 = some ⟨b1, oo, none⟩ := had1 (by omega)
      subst ha1
      have HA0 := hide hA0
      have HD0 := hide hD0
      obtain ⟨ya, yc, _, _, rfl, -, -, -, -⟩ := hA
      obtain ⟨za, zc, _, _, rfl, -, -, -, -⟩ := hD
      have HGy := hide (HG.out _ (List.mem_of_getElem? hy))
      obtain ⟨⟨⟨tv, ti⟩, tk⟩, ht⟩ : ∃ t, t = g ((yv, yi), yk) := ⟨_, rfl⟩
      obtain ⟨⟨⟨tv', ti'⟩, tk'⟩, ht'⟩ : ∃ t, t = g ((yv', yi'), yk') := ⟨_, rfl⟩
      have Hy2 : Hid ((k.map (mapL g)).take (j + 1) = (k.map (mapL g)).take j ++ [(yn, ((tv, ti), tk), ((tv', ti'), tk'))]) := by
        rw [Hid, List.take_add_one, List.getElem?_map, hy, ht, ht']; rfl
      have Hl : Hid (((k.map (mapL g)).take j).length = j) := by rw [Hid, List.length_take, List.length_map]; omega
      have Ht := hide ht
      have Ht' := hide ht'
      have hn1 : j + 1 ≤ maxLen := by unfold maxLen; omega
      have hn2 : (j + 1) * 88 ≤ 140737488355328 := by omega
      have Hrow : Hid (wr.ownsRow w.heap.size 42 7 (.slice o1 j o3) j xs) := by
        have := HO.out.row
        rw [Hl.out] at this
        exact this
      have hnq : some wr.heap.size ≠ (Value.slice o1 j o3).ownBlock := fun e => by
        have := (owns_at Hrow.out _ e.symm).2
        omega
      clear hy had1 p3' p6' hA0 hD0 ht ht'
      simp only at *
      go_upto_region 5 with fail
      generalize hwa : wr.alloc (.cells #[.bool yn, .bool yv, .int .i64 yi, .slice ya (Fo.len yk) yc, .bool yv', .int .i64 yi', .slice za (Fo.len yk') zc] 42) = wa
      obtain ⟨g0, g1, g2, g3, g4, g5, g6, -, hba, hsa⟩ := lit_cells (T := 42) (x0 := .bool yn) (w := wr) (wr := wa) (x1 := .bool yv) (x2 := .int .i64 yi) (x3 := .slice ya (Fo.len yk) yc) (x4 := .bool yv') (x5 := .int .i64 yi') (x6 := .slice za (Fo.len yk') zc) (by rw [← hwa]; exact Below.refl _ _)
      clear hwa
      have hcur : Below wa.heap.size wa wa.drew := (Below.refl _ _).drew
      have hcall1 : ∀ w' : World, Below wa.heap.size wa w' → Calls Tryz.prog 83 #[.agg #[.bool yv, .int .i64 yi, .slice ya (Fo.len yk) yc], .pointer (some ⟨bb, 0, none⟩)] w' fun e w'' => ∃ (z1 : Option Addr) (z2 z3 : Nat), e = .returned (.agg #[.bool tv, .int .i64 ti, .slice z1 z2 z3]) ∧ SB (fun q => q < w.heap.size ∨ (w'.heap.size ≤ q ∧ q < w''.heap.size)) w'' tk (.slice z1 z2 z3) ∧ Below w'.heap.size w' w'' := fun w' hb => by
        refine (Hcl.out (yv, yi) yk _ w' (below_step (below_step hBr hba) hb) HA0.out HGy.out.1).mono ?_
        rintro e w2 ⟨z1, z2, z3, rfl, hO, hb⟩
        rw [← Ht.out] at hO
        exact ⟨z1, z2, z3, by rw [← Ht.out], hO, hb⟩
      have hcall2 : ∀ w' : World, Below wa.heap.size wa w' → Calls Tryz.prog 83 #[.agg #[.bool yv', .int .i64 yi', .slice za (Fo.len yk') zc], .pointer (some ⟨bb, 0, none⟩)] w' fun e w'' => ∃ (z1 : Option Addr) (z2 z3 : Nat), e = .returned (.agg #[.bool tv', .int .i64 ti', .slice z1 z2 z3]) ∧ SB (fun q => q < w.heap.size ∨ (w'.heap.size ≤ q ∧ q < w''.heap.size)) w'' tk' (.slice z1 z2 z3) ∧ Below w'.heap.size w' w'' := fun w' hb => by
        refine (Hcl.out (yv', yi') yk' _ w' (below_step (below_step hBr hba) hb) HD0.out HGy.out.2).mono ?_
        rintro e w2 ⟨z1, z2, z3, rfl, hO, hb⟩
        rw [← Ht'.out] at hO
        exact ⟨z1, z2, z3, by rw [← Ht'.out], hO, hb⟩
      have Hc1 := hide hcall1
      have Hc2 := hide hcall2
      clear hcall1 hcall2 p0 p1 p2 p3 p4 p5 p6
      go_region_held3 (fun w' => w'.cell? ⟨wr.heap.size, 0, none⟩ = some (.bool yn) ∧ w'.cell? ⟨wr.heap.size, 1, none⟩ = some (.bool yv) ∧ w'.cell? ⟨wr.heap.size, 2, none⟩ = some (.int .i64 yi) ∧ w'.cell? ⟨wr.heap.size, 3, none⟩ = some (.slice ya (Fo.len yk) yc) ∧ w'.cell? ⟨wr.heap.size, 4, none⟩ = some (.bool yv') ∧ w'.cell? ⟨wr.heap.size, 5, none⟩ = some (.int .i64 yi') ∧ w'.cell? ⟨wr.heap.size, 6, none⟩ = some (.slice za (Fo.len yk') zc))
        (first
          | (with_reducible exact ⟨grow_cell hcur _ _ g0, grow_cell hcur _ _ g1, grow_cell hcur _ _ g2, grow_cell hcur _ _ g3, grow_cell hcur _ _ g4, grow_cell hcur _ _ g5, grow_cell hcur _ _ g6⟩)
          | (with_reducible exact ⟨grow_cell (below_step hcur (below_alloc _ _)) _ _ g0, grow_cell (below_step hcur (below_alloc _ _)) _ _ g1, grow_cell (below_step hcur (below_alloc _ _)) _ _ g2, grow_cell (below_step hcur (below_alloc _ _)) _ _ g3, grow_cell (below_step hcur (below_alloc _ _)) _ _ g4, grow_cell (below_step hcur (below_alloc _ _)) _ _ g5, grow_cell (below_step hcur (below_alloc _ _)) _ _ g6⟩)
          | (with_reducible exact ⟨grown_cell HG4.out.2.1 hnq (grow_cell (below_step hcur (below_alloc _ _)) _ _ g0), grown_cell HG4.out.2.1 hnq (grow_cell (below_step hcur (below_alloc _ _)) _ _ g1), grown_cell HG4.out.2.1 hnq (grow_cell (below_step hcur (below_alloc _ _)) _ _ g2), grown_cell HG4.out.2.1 hnq (grow_cell (below_step hcur (below_alloc _ _)) _ _ g3), grown_cell HG4.out.2.1 hnq (grow_cell (below_step hcur (below_alloc _ _)) _ _ g4), grown_cell HG4.out.2.1 hnq (grow_cell (below_step hcur (below_alloc _ _)) _ _ g5), grown_cell HG4.out.2.1 hnq (grow_cell (below_step hcur (below_alloc _ _)) _ _ g6)⟩)
          | go_keep)
        (first
          | (go_at_call 83; with_reducible refine (Hc1.out _ hcur).mono ?_; rintro e wS ⟨z1, z2, z3, rfl, hO1, hbS⟩; have hcur0 := hcur; replace hcur := below_step hcur hbS; have HO1 := hide (And.intro hO1 hbS); clear hO1)
          | (go_at_call 83; with_reducible refine (Hc2.out _ hcur).mono ?_; rintro e wU ⟨y1, y2, y3, rfl, hO2, hbU⟩; have hcurS := hcur; replace hcur := below_step hcur hbU; have HO2 := hide (And.intro hO2 hbU); clear hO2)
          | (refine step_append_gen rfl (.tmp 14) (.tmp 26) 25 rfl w.heap.size 42 iL (.agg #[.bool false, .bool false, .int .i64 0, .slice none 0 0, .bool false, .int .i64 0, .slice none 0 0]) 7 88 Tryz.underlying25 hi hz0 hz1 hz2 rfl (by decide) (.slice o1 j o3) j xs rfl (owns_keep Hrow.out (fun g hg => (below_step (below_step hba hcur) (below_alloc _ _)).block g (owns_at Hrow.out g hg).2)) _ 1 (litV (yn, ((tv, ti), tk), ((tv', ti'), tk')) (.slice z1 z2 z3) (.slice y1 y2 y3)) rfl cs_lit hn1 hn2 (Nat.le_trans hsr (below_step (below_step hba hcur) (below_alloc _ _)).size) ?_; intro v4 w4 ho4 hg4 hat4; have HG4 := hide (And.intro ho4 (And.intro hg4 hat4)); clear ho4 hg4 hat4))
      all_goals
        have s0 := hcur0.size
        have s1 := hba.size
        have s2 := hcurS.size
        have s3 := HO1.out.2.size
        have s4 := HO2.out.2.size
        have Hstep : Hid (OwnL w.heap.size (XO w4 v4) w4 ((k.map (mapL g)).take (j + 1)) v4 (xs ++ litV (yn, ((tv, ti), tk), ((tv', ti'), tk')) (.slice z1 z2 z3) (.slice y1 y2 y3)) ∧ Below w.heap.size wr w4) := by
          rw [Hy2.out]
          refine ownL_more3 (l := (yn, ((tv, ti), tk), ((tv', ti'), tk'))) HO.out (below_step (below_step hba hcur) (below_alloc _ _)) hsr ?_ ?_ (by rw [Hl.out]; exact HG4.out.1) HG4.out.2.1 HG4.out.2.2
          · refine HO1.out.1.frame (fun q hq => ?_) (fun q i hq => (below_step HO2.out.2 (below_alloc _ _)).cell ?_)
            · simp only [World.size_alloc]
              omega
            · show q < _
              omega
          · refine HO2.out.1.frame (fun q hq => ?_) (fun q i hq => (below_alloc _ _).cell ?_)
            · simp only [World.size_alloc]
              omega
            · show q < _
              omega
        obtain ⟨r1, r3, hv4⟩ := slice_of_cl Hstep.out.1.cl
        have hl1 : ((k.map (mapL g)).take (j + 1)).length = j + 1 := by rw [Hy2.out, List.length_append, Hl.out]; rfl
        rw [hl1] at hv4
        subst hv4
        clear hl1
        go_wp2_with fail
        go_roundw
        case rel => exact ⟨j + 1, r1, r3, _, by omega, by go_num, rfl, Hstep.out.1, hBr.trans Hstep.out.2⟩
        case measure => simp [intOf]; omega
    · have hje : j = k.length := by omega
      subst hje
      have Hfin : Hid (OwnL w.heap.size (XO wr (.slice o1 k.length o3)) wr (k.map (mapL g)) (.slice o1 k.length o3) xs) := by
        have := HO.out
        rw [List.take_of_length_le (by simp)] at this
        exact this
      clear HO
      go_wp2_with fail
      go_ret
      exact ⟨_, _, rfl, Hfin.out, hBr⟩
set_option maxRecDepth 100000 in
set_option maxHeartbeats 4000000 in
theorem eachDL_any (bb : Nat) (g : Tm → Tm) (G : Tm → Prop) (k : Cl) (a : Value) (w : World) (hcl : CloSaid 47 bb g G w) (hS : CIn w k a) (hG : ∀ l ∈ k, G l.2.1 ∧ G l.2.2) (hlen : k.length ≤ 1000000) :
    Calls Tryz.prog 26 #[a, .func (.func 47) #[] #[.pointer (some ⟨bb, 0, none⟩)]] w fun e w' => ∃ v xs, e = .returned v ∧ OwnL w.heap.size (XO w' v) w' (k.map (mapL g)) v xs ∧ Below w.heap.size w w' := by
  obtain ⟨a1, c1, b1, oo, rfl, had1, hlc1, hcm1, hF1⟩ := hS
  unfold maxLen at hcm1
  have HF1 := hide hF1
  have HG := hide hG
  have Hcl := hide hcl
  clear hF1 hG hcl
  obtain ⟨iL, hi, hz0, hz1, hz2⟩ := info_parts Tryz.info42
  go_enter Tryz.func26, Tryz.ntmps26
  go_wp2_with fail
  go_loopw [5, 10] (fun v i wr => ∃ (j : Nat) (o1 : Option Addr) (o3 : Nat) (xs : List Value), j ≤ k.length ∧ i = .int .i64 j ∧ v = .slice o1 j o3 ∧ OwnL w.heap.size (XO wr v) wr ((k.map (mapL g)).take j) v xs ∧ Below w.heap.size w wr) (fun _ i _ => k.length - (intOf i).toNat)
  case atStart => exact ⟨0, none, 0, [], Nat.zero_le _, rfl, rfl, ownL_nil _ _, Below.refl _ _⟩
  case round =>
    obtain ⟨j, o1, o3, xs, hj, rfl, rfl, hO, hBr⟩ := hrel
    have HO := hide hO
    clear hO
    have hsr := hBr.size
    by_cases hlt : j < k.length
    · have hlt' : (j : Int) < (k.length : Int) := by omega
      obtain ⟨⟨yn, ⟨⟨yv, yi⟩, yk⟩, ⟨yv', yi'⟩, yk'⟩, hy⟩ : ∃ y, k[j]? = some y := ⟨k[j]'hlt, by simp⟩
      obtain ⟨-, -, -, ⟨u3', p3', hA0⟩, -, -, u6', p6', hD0⟩ := HF1.out.at hy
      obtain ⟨p0, p1, p2, ⟨u3, p3, hA⟩, p4, p5, u6, p6, hD⟩ := (HF1.out.below hBr).at hy
      have e3 : u3' = u3 := by have := grow_cell hBr _ _ p3'; rw [p3] at this; exact (Option.some.inj this).symm
      have e6 : u6' = u6 := by have := grow_cell hBr _ _ p6'; rw [p6] at this; exact (Option.some.inj this).symm
      subst e3 e6
      have ha1 : a1 = some ⟨b1, oo, none⟩ := had1 (by omega)
      subst ha1
      have HA0 := hide hA0
      have HD0 := hide hD0
      obtain ⟨ya, yc, _, _, rfl, -, -, -, -⟩ := hA
      obtain ⟨za, zc, _, _, rfl, -, -, -, -⟩ := hD
      have HGy := hide (HG.out _ (List.mem_of_getElem? hy))
      obtain ⟨⟨⟨tv, ti⟩, tk⟩, ht⟩ : ∃ t, t = g ((yv, yi), yk) := ⟨_, rfl⟩
      obtain ⟨⟨⟨tv', ti'⟩, tk'⟩, ht'⟩ : ∃ t, t = g ((yv', yi'), yk') := ⟨_, rfl⟩
      have Hy2 : Hid ((k.map (mapL g)).take (j + 1) = (k.map (mapL g)).take j ++ [(yn, ((tv, ti), tk), ((tv', ti'), tk'))]) := by
        rw [Hid, List.take_add_one, List.getElem?_map, hy, ht, ht']; rfl
      have Hl : Hid (((k.map (mapL g)).take j).length = j) := by rw [Hid, List.length_take, List.length_map]; omega
      have Ht := hide ht
      have Ht' := hide ht'
      have hn1 : j + 1 ≤ maxLen := by unfold maxLen; omega
      have hn2 : (j + 1) * 88 ≤ 140737488355328 := by omega
      have Hrow : Hid (wr.ownsRow w.heap.size 42 7 (.slice o1 j o3) j xs) := by
        have := HO.out.row
        rw [Hl.out] at this
        exact this
      have hnq : some wr.heap.size ≠ (Value.slice o1 j o3).ownBlock := fun e => by
        have := (owns_at Hrow.out _ e.symm).2
        omega
      clear hy had1 p3' p6' hA0 hD0 ht ht'
      simp only at *
      go_upto_region 5 with fail
      generalize hwa : wr.alloc (.cells #[.bool yn, .bool yv, .int .i64 yi, .slice ya (Fo.len yk) yc, .bool yv', .int .i64 yi', .slice za (Fo.len yk') zc] 42) = wa
      obtain ⟨g0, g1, g2, g3, g4, g5, g6, -, hba, hsa⟩ := lit_cells (T := 42) (x0 := .bool yn) (w := wr) (wr := wa) (x1 := .bool yv) (x2 := .int .i64 yi) (x3 := .slice ya (Fo.len yk) yc) (x4 := .bool yv') (x5 := .int .i64 yi') (x6 := .slice za (Fo.len yk') zc) (by rw [← hwa]; exact Below.refl _ _)
      clear hwa
      have hcur : Below wa.heap.size wa wa.drew := (Below.refl _ _).drew
      have hcall1 : ∀ w' : World, Below wa.heap.size wa w' → Calls Tryz.prog 47 #[.agg #[.bool yv, .int .i64 yi, .slice ya (Fo.len yk) yc], .pointer (some ⟨bb, 0, none⟩)] w' fun e w'' => ∃ (z1 : Option Addr) (z2 z3 : Nat), e = .returned (.agg #[.bool tv, .int .i64 ti, .slice z1 z2 z3]) ∧ SB (fun q => q < w.heap.size ∨ (w'.heap.size ≤ q ∧ q < w''.heap.size)) w'' tk (.slice z1 z2 z3) ∧ Below w'.heap.size w' w'' := fun w' hb => by
        refine (Hcl.out (yv, yi) yk _ w' (below_step (below_step hBr hba) hb) HA0.out HGy.out.1).mono ?_
        rintro e w2 ⟨z1, z2, z3, rfl, hO, hb⟩
        rw [← Ht.out] at hO
        exact ⟨z1, z2, z3, by rw [← Ht.out], hO, hb⟩
      have hcall2 : ∀ w' : World, Below wa.heap.size wa w' → Calls Tryz.prog 47 #[.agg #[.bool yv', .int .i64 yi', .slice za (Fo.len yk') zc], .pointer (some ⟨bb, 0, none⟩)] w' fun e w'' => ∃ (z1 : Option Addr) (z2 z3 : Nat), e = .returned (.agg #[.bool tv', .int .i64 ti', .slice z1 z2 z3]) ∧ SB (fun q => q < w.heap.size ∨ (w'.heap.size ≤ q ∧ q < w''.heap.size)) w'' tk' (.slice z1 z2 z3) ∧ Below w'.heap.size w' w'' := fun w' hb => by
        refine (Hcl.out (yv', yi') yk' _ w' (below_step (below_step hBr hba) hb) HD0.out HGy.out.2).mono ?_
        rintro e w2 ⟨z1, z2, z3, rfl, hO, hb⟩
        rw [← Ht'.out] at hO
        exact ⟨z1, z2, z3, by rw [← Ht'.out], hO, hb⟩
      have Hc1 := hide hcall1
      have Hc2 := hide hcall2
      clear hcall1 hcall2 p0 p1 p2 p3 p4 p5 p6
      go_region_held3 (fun w' => w'.cell? ⟨wr.heap.size, 0, none⟩ = some (.bool yn) ∧ w'.cell? ⟨wr.heap.size, 1, none⟩ = some (.bool yv) ∧ w'.cell? ⟨wr.heap.size, 2, none⟩ = some (.int .i64 yi) ∧ w'.cell? ⟨wr.heap.size, 3, none⟩ = some (.slice ya (Fo.len yk) yc) ∧ w'.cell? ⟨wr.heap.size, 4, none⟩ = some (.bool yv') ∧ w'.cell? ⟨wr.heap.size, 5, none⟩ = some (.int .i64 yi') ∧ w'.cell? ⟨wr.heap.size, 6, none⟩ = some (.slice za (Fo.len yk') zc))
        (first
          | (with_reducible exact ⟨grow_cell hcur _ _ g0, grow_cell hcur _ _ g1, grow_cell hcur _ _ g2, grow_cell hcur _ _ g3, grow_cell hcur _ _ g4, grow_cell hcur _ _ g5, grow_cell hcur _ _ g6⟩)
          | (with_reducible exact ⟨grow_cell (below_step hcur (below_alloc _ _)) _ _ g0, grow_cell (below_step hcur (below_alloc _ _)) _ _ g1, grow_cell (below_step hcur (below_alloc _ _)) _ _ g2, grow_cell (below_step hcur (below_alloc _ _)) _ _ g3, grow_cell (below_step hcur (below_alloc _ _)) _ _ g4, grow_cell (below_step hcur (below_alloc _ _)) _ _ g5, grow_cell (below_step hcur (below_alloc _ _)) _ _ g6⟩)
          | (with_reducible exact ⟨grown_cell HG4.out.2.1 hnq (grow_cell (below_step hcur (below_alloc _ _)) _ _ g0), grown_cell HG4.out.2.1 hnq (grow_cell (below_step hcur (below_alloc _ _)) _ _ g1), grown_cell HG4.out.2.1 hnq (grow_cell (below_step hcur (below_alloc _ _)) _ _ g2), grown_cell HG4.out.2.1 hnq (grow_cell (below_step hcur (below_alloc _ _)) _ _ g3), grown_cell HG4.out.2.1 hnq (grow_cell (below_step hcur (below_alloc _ _)) _ _ g4), grown_cell HG4.out.2.1 hnq (grow_cell (below_step hcur (below_alloc _ _)) _ _ g5), grown_cell HG4.out.2.1 hnq (grow_cell (below_step hcur (below_alloc _ _)) _ _ g6)⟩)
          | go_keep)
        (first
          | (go_at_call 47; with_reducible refine (Hc1.out _ hcur).mono ?_; rintro e wS ⟨z1, z2, z3, rfl, hO1, hbS⟩; have hcur0 := hcur; replace hcur := below_step hcur hbS; have HO1 := hide (And.intro hO1 hbS); clear hO1)
          | (go_at_call 47; with_reducible refine (Hc2.out _ hcur).mono ?_; rintro e wU ⟨y1, y2, y3, rfl, hO2, hbU⟩; have hcurS := hcur; replace hcur := below_step hcur hbU; have HO2 := hide (And.intro hO2 hbU); clear hO2)
          | (refine step_append_gen rfl (.tmp 14) (.tmp 26) 25 rfl w.heap.size 42 iL (.agg #[.bool false, .bool false, .int .i64 0, .slice none 0 0, .bool false, .int .i64 0, .slice none 0 0]) 7 88 Tryz.underlying25 hi hz0 hz1 hz2 rfl (by decide) (.slice o1 j o3) j xs rfl (owns_keep Hrow.out (fun g hg => (below_step (below_step hba hcur) (below_alloc _ _)).block g (owns_at Hrow.out g hg).2)) _ 1 (litV (yn, ((tv, ti), tk), ((tv', ti'), tk')) (.slice z1 z2 z3) (.slice y1 y2 y3)) rfl cs_lit hn1 hn2 (Nat.le_trans hsr (below_step (below_step hba hcur) (below_alloc _ _)).size) ?_; intro v4 w4 ho4 hg4 hat4; have HG4 := hide (And.intro ho4 (And.intro hg4 hat4)); clear ho4 hg4 hat4))
      all_goals
        have s0 := hcur0.size
        have s1 := hba.size
        have s2 := hcurS.size
        have s3 := HO1.out.2.size
        have s4 := HO2.out.2.size
        have Hstep : Hid (OwnL w.heap.size (XO w4 v4) w4 ((k.map (mapL g)).take (j + 1)) v4 (xs ++ litV (yn, ((tv, ti), tk), ((tv', ti'), tk')) (.slice z1 z2 z3) (.slice y1 y2 y3)) ∧ Below w.heap.size wr w4) := by
          rw [Hy2.out]
          refine ownL_more3 (l := (yn, ((tv, ti), tk), ((tv', ti'), tk'))) HO.out (below_step (below_step hba hcur) (below_alloc _ _)) hsr ?_ ?_ (by rw [Hl.out]; exact HG4.out.1) HG4.out.2.1 HG4.out.2.2
          · refine HO1.out.1.frame (fun q hq => ?_) (fun q i hq => (below_step HO2.out.2 (below_alloc _ _)).cell ?_)
            · simp only [World.size_alloc]
              omega
            · show q < _
              omega
          · refine HO2.out.1.frame (fun q hq => ?_) (fun q i hq => (below_alloc _ _).cell ?_)
            · simp only [World.size_alloc]
              omega
            · show q < _
              omega
        obtain ⟨r1, r3, hv4⟩ := slice_of_cl Hstep.out.1.cl
        have hl1 : ((k.map (mapL g)).take (j + 1)).length = j + 1 := by rw [Hy2.out, List.length_append, Hl.out]; rfl
        rw [hl1] at hv4
        subst hv4
        clear hl1
        go_wp2_with fail
        go_roundw
        case rel => exact ⟨j + 1, r1, r3, _, by omega, by go_num, rfl, Hstep.out.1, hBr.trans Hstep.out.2⟩
        case measure => simp [intOf]; omega
    · have hje : j = k.length := by omega
      subst hje
      have Hfin : Hid (OwnL w.heap.size (XO wr (.slice o1 k.length o3)) wr (k.map (mapL g)) (.slice o1 k.length o3) xs) := by
        have := HO.out
        rw [List.take_of_length_le (by simp)] at this
        exact this
      clear HO
      go_wp2_with fail
      go_ret
      exact ⟨_, _, rfl, Hfin.out, hBr⟩
end Go.Proofs.YtaliegkkdhkfcacGreat

namespace Go.Proofs.YtaliegkkdhkfcacGreat
open Go.RowKit Go.Deep Go.ChangeShapes Go.WideShapes
set_option maxRecDepth 100000 in
set_option maxHeartbeats 2000000 in
theorem cloDN_any (s : Sb) (vs : Value) (bb : Nat) (W0 : World) (hc : W0.cell? ⟨bb, 0, none⟩ = some vs) (hV : SubIn W0 s vs) (hs : ∀ p ∈ s, okT p.2) : CloSaid 83 bb (subT (bnd s)) (fun t => okT t ∧ narT t) W0 := by
  intro x k a w hW hS hG
  obtain ⟨xv, xn⟩ := x
  have HS := hide hS
  have HV := hide hV
  have Hs := hide hs
  have hsv : ∃ v1 v2 v3, vs = .slice v1 v2 v3 := by
    obtain ⟨v1, v3, _, _, rfl, _⟩ := hV
    exact ⟨_, _, _, rfl⟩
  obtain ⟨v1, v2, v3, rfl⟩ := hsv
  obtain ⟨ad, c, _, _, rfl, -, -, -, -⟩ := hS
  have hcw := grow_cell hW _ _ hc
  have hpb : bb < w.heap.size := World.block_lt_of_cell? _ _ hcw
  have hc' : ((w.alloc (.cells #[.bool xv, .int .i64 xn, .slice ad (Fo.len k) c] 40)).alloc (.cells #[.bool false, .int .i64 0, .slice none 0 0] 40)).cell? ⟨bb, 0, none⟩ = some (.slice v1 v2 v3) := by rw [World.cell?_alloc_lt _ _ _ (by simp; omega), World.cell?_alloc_lt _ _ _ (by simpa using hpb)]; exact hcw
  clear hV hs
  go_enter Tryz.func83, Tryz.ntmps83
  go_wp2_with fail
  refine (applyR_any (xv, xn) k s _ W0 _ _ (below_step hW (below_step (below_alloc _ _) (below_alloc _ _))) HV.out Hs.out HS.out hG.1 hG.2).mono ?_
  rintro e w1 ⟨z1, z2, z3, rfl, hO, hb⟩
  obtain ⟨⟨⟨tv, tn⟩, tk⟩, ht⟩ : ∃ t, t = subT (bnd s) ((xv, xn), k) := ⟨_, rfl⟩
  rw [← ht] at hO ⊢
  have hsz := hb.size
  simp only [World.size_alloc] at hsz
  have hsW := hW.size
  have r0 : w1.cell? ⟨w.heap.size + 1, 0, none⟩ = some (.bool false) := grow_cell hb _ _ (new_cell (World.size_alloc _ _))
  have r1 : w1.cell? ⟨w.heap.size + 1, 1, none⟩ = some (.int .i64 0) := grow_cell hb _ _ (new_cell (World.size_alloc _ _))
  have r2 : w1.cell? ⟨w.heap.size + 1, 2, none⟩ = some (.slice none 0 0) := grow_cell hb _ _ (new_cell (World.size_alloc _ _))
  have rf : ∀ i, w1.frozen? ⟨w.heap.size + 1, i, none⟩ = false := fun i => (hb.frozen (by show w.heap.size + 1 < _; simp)).trans (new_frozen (World.size_alloc _ _))
  have hB := below_box (below_box hb)
  have HO : Hid (SB (fun q => q < W0.heap.size ∨ (w.heap.size + 1 + 1 ≤ q ∧ q < w1.heap.size)) w1 tk (.slice z1 z2 z3)) := by
    have := hO
    simp only [World.size_alloc] at this
    exact this
  have Ht := hide ht
  clear hb hO ht hc hc' hcw
  simp only
  go_wp2_with fail
  refine bodyPost_ret (v := .agg #[.bool tv, .int .i64 tn, .slice z1 z2 z3]) (by simp [results, Tryz.results83, go_sem, r0, r1, r2]) rfl ⟨z1, z2, z3, by rw [← Ht.out], ?_, set3_below (o := 0) hB (by omega)⟩
  rw [← Ht.out]
  exact ret_boxB HO.out (by omega) (by omega) (by omega)
set_option maxRecDepth 100000 in
set_option maxHeartbeats 2000000 in
theorem cloDL_any (s : Sb) (vs : Value) (bb : Nat) (W0 : World) (hc : W0.cell? ⟨bb, 0, none⟩ = some vs) (hV : SubIn W0 s vs) (hs : ∀ p ∈ s, okT p.2) : CloSaid 47 bb (subT (bnd s)) (fun t => okT t ∧ narT t) W0 := by
  intro x k a w hW hS hG
  obtain ⟨xv, xn⟩ := x
  have HS := hide hS
  have HV := hide hV
  have Hs := hide hs
  have hsv : ∃ v1 v2 v3, vs = .slice v1 v2 v3 := by
    obtain ⟨v1, v3, _, _, rfl, _⟩ := hV
    exact ⟨_, _, _, rfl⟩
  obtain ⟨v1, v2, v3, rfl⟩ := hsv
  obtain ⟨ad, c, _, _, rfl, -, -, -, -⟩ := hS
  have hcw := grow_cell hW _ _ hc
  have hpb : bb < w.heap.size := World.block_lt_of_cell? _ _ hcw
  have hc' : ((w.alloc (.cells #[.bool xv, .int .i64 xn, .slice ad (Fo.len k) c] 40)).alloc (.cells #[.bool false, .int .i64 0, .slice none 0 0] 40)).cell? ⟨bb, 0, none⟩ = some (.slice v1 v2 v3) := by rw [World.cell?_alloc_lt _ _ _ (by simp; omega), World.cell?_alloc_lt _ _ _ (by simpa using hpb)]; exact hcw
  clear hV hs
  go_enter Tryz.func47, Tryz.ntmps47
  go_wp2_with fail
  refine (applyR_any (xv, xn) k s _ W0 _ _ (below_step hW (below_step (below_alloc _ _) (below_alloc _ _))) HV.out Hs.out HS.out hG.1 hG.2).mono ?_
  rintro e w1 ⟨z1, z2, z3, rfl, hO, hb⟩
  obtain ⟨⟨⟨tv, tn⟩, tk⟩, ht⟩ : ∃ t, t = subT (bnd s) ((xv, xn), k) := ⟨_, rfl⟩
  rw [← ht] at hO ⊢
  have hsz := hb.size
  simp only [World.size_alloc] at hsz
  have hsW := hW.size
  have r0 : w1.cell? ⟨w.heap.size + 1, 0, none⟩ = some (.bool false) := grow_cell hb _ _ (new_cell (World.size_alloc _ _))
  have r1 : w1.cell? ⟨w.heap.size + 1, 1, none⟩ = some (.int .i64 0) := grow_cell hb _ _ (new_cell (World.size_alloc _ _))
  have r2 : w1.cell? ⟨w.heap.size + 1, 2, none⟩ = some (.slice none 0 0) := grow_cell hb _ _ (new_cell (World.size_alloc _ _))
  have rf : ∀ i, w1.frozen? ⟨w.heap.size + 1, i, none⟩ = false := fun i => (hb.frozen (by show w.heap.size + 1 < _; simp)).trans (new_frozen (World.size_alloc _ _))
  have hB := below_box (below_box hb)
  have HO : Hid (SB (fun q => q < W0.heap.size ∨ (w.heap.size + 1 + 1 ≤ q ∧ q < w1.heap.size)) w1 tk (.slice z1 z2 z3)) := by
    have := hO
    simp only [World.size_alloc] at this
    exact this
  have Ht := hide ht
  clear hb hO ht hc hc' hcw
  simp only
  go_wp2_with fail
  refine bodyPost_ret (v := .agg #[.bool tv, .int .i64 tn, .slice z1 z2 z3]) (by simp [results, Tryz.results47, go_sem, r0, r1, r2]) rfl ⟨z1, z2, z3, by rw [← Ht.out], ?_, set3_below (o := 0) hB (by omega)⟩
  rw [← Ht.out]
  exact ret_boxB HO.out (by omega) (by omega) (by omega)
end Go.Proofs.YtaliegkkdhkfcacGreat

namespace Go.Proofs.YtaliegkkdhkfcacGreat
open Go.RowKit Go.Deep Go.ChangeShapes Go.WideShapes
theorem idx_cons {v n : Int} {vs : List Int} (h : ¬ v = n) : (v :: vs).idxOf n = vs.idxOf n + 1 := by
  have : (v == n) = false := by simp [h]
  rw [List.idxOf_cons, this, cond_false]
theorem look_num {n : Int} : ∀ {vs : List Int} {k : Nat}, look (vs.mapIdx fun i v => (v, vr ((i + k : Nat) : Int))) n = if n ∈ vs then some (vr ((vs.idxOf n + k : Nat) : Int)) else none
  | [], _ => rfl
  | v :: vs, k => by
    rw [List.mapIdx_cons, look]
    by_cases h : v = n
    · subst h
      simp
    · have hn : ¬ n = v := fun e => h e.symm
      rw [if_neg (by simpa using h)]
      have e : (fun i (v : Int) => (v, vr ((i + 1 + k : Nat) : Int))) = fun i v => (v, vr ((i + (k + 1) : Nat) : Int)) := by
        funext i v; rw [show i + 1 + k = i + (k + 1) by omega]
      rw [e, look_num (vs := vs) (k := k + 1)]
      by_cases hm : n ∈ vs
      · rw [if_pos hm, if_pos (by simp [hm]), idx_cons h]
        rw [show vs.idxOf n + (k + 1) = vs.idxOf n + 1 + k by omega]
      · rw [if_neg hm, if_neg (by simp [hm, hn])]
theorem bnd_num {vs : List Int} {n : Int} (h : n ∈ vs) : bnd (numS vs) n = vr (vs.idxOf n : Nat) := by
  have := look_num (n := n) (vs := vs) (k := 0)
  simp only [Nat.add_zero] at this
  rw [if_pos h] at this
  exact bnd_some this
theorem varsT_mem {x : Bool × Int} {k : Fo} {l : List Int} {m : Int} : m ∈ varsT x k l ↔ m ∈ l ∨ occT m (x, k) := by
  unfold varsT
  obtain ⟨v, n⟩ := x
  cases v with
  | true =>
    simp only [if_true, occT]
    by_cases h : hasB l n = true
    · rw [if_pos h]
      have hn : n ∈ l := by simpa [hasB] using h
      constructor
      · exact .inl
      · rintro (h | rfl); exact h; exact hn
    · rw [if_neg h]; simp [eq_comm]
  | false => simp only [Bool.false_eq_true, if_false, occT]; exact occ_varsF
def occL (m : Int) (l : Lt) : Prop := occT m l.2.1 ∨ occT m l.2.2
theorem varsL_mem {l : Lt} {v : List Int} {m : Int} : m ∈ varsL l v ↔ m ∈ v ∨ occL m l := by
  unfold varsL occL
  rw [varsT_mem, varsT_mem, or_assoc]
theorem varsC_mem {m : Int} : ∀ {c : Cl} {v : List Int}, m ∈ varsC c v ↔ m ∈ v ∨ ∃ l ∈ c, occL m l
  | [], v => by simp [varsC]
  | l :: c, v => by
    show m ∈ varsC c (varsL l v) ↔ _
    rw [varsC_mem, varsL_mem]
    simp [or_assoc]
theorem varsT_nodup {x : Bool × Int} {k : Fo} {l : List Int} (h : l.Nodup) : (varsT x k l).Nodup := by
  unfold varsT
  split
  · split
    · exact h
    · rename_i hh
      rw [List.nodup_append]
      refine ⟨h, by simp, fun a ha b hb => ?_⟩
      simp at hb
      intro e
      rw [hb] at e
      exact hh (by simp [hasB, ← e, ha])
  · exact varsF_nodup h
theorem varsC_nodup : ∀ {c : Cl} {v : List Int}, v.Nodup → (varsC c v).Nodup
  | [], _, h => h
  | _ :: c, _, h => varsC_nodup (c := c) (varsT_nodup (varsT_nodup h))
end Go.Proofs.YtaliegkkdhkfcacGreat

namespace Go.Proofs.YtaliegkkdhkfcacGreat
open Go.RowKit Go.Deep Go.ChangeShapes Go.WideShapes
theorem nodup_le : ∀ {l m : List Int}, l.Nodup → (∀ x ∈ l, x ∈ m) → l.length ≤ m.length
  | [], _, _, _ => Nat.zero_le _
  | a :: l, m, hn, hs => by
    rw [List.nodup_cons] at hn
    have ha : a ∈ m := hs a (by simp)
    have h1 := nodup_le (l := l) (m := m.erase a) hn.2 (fun x hx => by
      have hne : x ≠ a := fun e => hn.1 (e ▸ hx)
      exact (List.mem_erase_of_ne hne).2 (hs x (by simp [hx])))
    rw [List.length_erase_of_mem ha] at h1
    have := List.length_pos_of_mem ha
    simp only [List.length_cons]
    omega
theorem wgF_zero {c : Int → Nat} (hc : ∀ n, c n = 0) : ∀ F : Fo, wgF c F = 0
  | .nil => rfl
  | .node _ _ x k r => by rw [wgF, wgF_zero hc k, wgF_zero hc r, hc]; simp
theorem num_nil (vs : List Int) (n : Int) : (bnd (numS vs) n).2 = .nil := by
  by_cases h : n ∈ vs
  · rw [bnd_num h]; rfl
  · have := look_num (n := n) (vs := vs) (k := 0)
    simp only [Nat.add_zero] at this
    rw [if_neg h] at this
    have e : bnd (numS vs) n = vr n := bnd_none this
    rw [e]; rfl
theorem num_size {vs : List Int} {t : Tm} (h : okT t) : tszR (subT (bnd (numS vs)) t).2 = tszR t.2 := by
  have := subT_size (f := bnd (numS vs)) h
  simp only [szT, wgT] at this
  rw [wgF_zero (fun n => by rw [num_nil]; rfl)] at this
  rw [this, num_nil]
  simp [Fo.sizesR]
theorem num_gd {vs : List Int} (hl : vs.length ≤ 10) : ∀ p ∈ numS vs, Gd p.2 := fun p hp => by
  simp only [numS, List.mem_mapIdx] at hp
  obtain ⟨i, hi, rfl⟩ := hp
  exact gd_vr ⟨by omega, by omega⟩
structure GLx (l : Lt) : Prop where
  gl : Gd l.2.1
  gr : Gd l.2.2
  sl : tszR l.2.1.2 ≤ 4000000000000
  sr : tszR l.2.2.2 ≤ 4000000000000
def GX (c : Cl) : Prop := c.length ≤ 8 ∧ ∀ l ∈ c, GLx l
theorem GLx.flip {l : Lt} (h : GLx l) : GLx (flipL l) := by
  unfold flipL
  split
  · exact ⟨h.gr, h.gl, h.sr, h.sl⟩
  · exact h
theorem GLx.okl {l : Lt} (h : GLx l) : okL l := ⟨h.gl.ok, h.gr.ok⟩
theorem turn_gx {c d : Cl} (h : turnC c = some d) (hc : GX c) : GX d := by
  refine ⟨?_, turn_mem (p := GLx) h (fun e he => by cases he; simp) (fun l hl => (hc.2 l hl).flip)⟩
  have := turn_len (n := 0) h (fun e he => by cases he; simp)
  have := hc.1
  omega
theorem gx_few {d : Cl} (h : ∀ l ∈ d, GLx l) : ∀ n ∈ varsC d [], 0 ≤ n ∧ n ≤ 9 := fun n hn => by
  rcases varsC_mem.1 hn with hn | ⟨l, hl, hn⟩
  · cases hn
  · rcases hn with hn | hn
    · exact (h l hl).gl.few n hn
    · exact (h l hl).gr.few n hn
theorem gx_vars {d : Cl} (h : ∀ l ∈ d, GLx l) : (varsC d []).length ≤ 10 := by
  refine nodup_le (m := [0, 1, 2, 3, 4, 5, 6, 7, 8, 9]) (varsC_nodup List.nodup_nil) (fun x hx => ?_)
  have := gx_few h x hx
  simp
  omega
theorem GLx.num {vs : List Int} (hl : vs.length ≤ 10) {l : Lt} (h : GLx l) : GLx (mapL (subT (bnd (numS vs))) l) :=
  ⟨gd_sub (num_gd hl) h.gl, gd_sub (num_gd hl) h.gr, by simp only [mapL]; rw [num_size h.gl.ok]; exact h.sl, by simp only [mapL]; rw [num_size h.gr.ok]; exact h.sr⟩
theorem gx_ren {d : Cl} (h : GX d) : GX (reN d) := by
  refine ⟨by rw [reN, List.length_map]; exact h.1, fun l hl => ?_⟩
  obtain ⟨x, hx, rfl⟩ := List.mem_map.1 hl
  exact (h.2 x hx).num (gx_vars h.2)
theorem gx_dist {d e : Cl} (h : GX d) (he : distC d = some e) : GX e := by
  refine ⟨?_, dist_mem (p := GLx) he (fun e he => by cases he; simp) h.2⟩
  have := dist_len (n := 0) he (fun e he => by cases he; simp)
  have := h.1
  omega
theorem norm_casesX {c : Cl} (hc : GX c) : (turnC c = none ∧ normC c = (6, [])) ∨ ∃ d, turnC c = some d ∧ GX d ∧ GX (reN d) ∧ ((distC (reN d) = none ∧ normC c = (6, [])) ∨ ∃ e, distC (reN d) = some e ∧ GX e ∧ normC c = keepC d e) := by
  cases ht : turnC c with
  | none => exact .inl ⟨rfl, by simp [normC, ht]⟩
  | some d =>
    have hd := turn_gx ht hc
    have hr := gx_ren hd
    refine .inr ⟨d, rfl, hd, hr, ?_⟩
    cases he : distC (reN d) with
    | none => exact .inl ⟨rfl, by simp [normC, ht, he]⟩
    | some e => exact .inr ⟨e, rfl, gx_dist hr he, by simp only [normC, ht, he]⟩
theorem keep_big {d e : Cl} (h : (4 < e.length ∨ 5 < (varsC d []).length) ∨ e.any bigL = true) : keepC d e = (4, []) := if_pos (by
  rcases h with (h | h) | h
  · exact .inl h
  · exact .inr (.inl h)
  · exact .inr (.inr h))
theorem keep_ok {d e : Cl} (h1 : ¬ 4 < e.length) (h2 : ¬ 5 < (varsC d []).length) (h3 : e.any bigL = false) : keepC d e = (0, e) := if_neg (by
  rintro (h | h | h)
  · exact h1 h
  · exact h2 h
  · rw [h3] at h; cases h)
end Go.Proofs.YtaliegkkdhkfcacGreat

namespace Go.Proofs.YtaliegkkdhkfcacGreat
open Go.RowKit Go.Deep Go.ChangeShapes Go.WideShapes
set_option maxRecDepth 100000 in
set_option maxHeartbeats 4000000 in
theorem distinct_any (k : Cl) (a : Value) (w : World) (hS : CIn w k a) (hlen : k.length ≤ 1000000) :
    Calls Tryz.prog 72 #[a] w fun e w' => ∃ v er d, e = .returned (.tuple #[v, .int .i64 er]) ∧ CIn w' d v ∧ ((er = 6 ∧ d = [] ∧ distC k = none) ∨ (er = 0 ∧ distC k = some d)) ∧ Below w.heap.size w w' := by
  obtain ⟨a1, c1, b1, oo, rfl, had1, hlc1, hcm1, hF1⟩ := hS
  unfold maxLen at hcm1
  have HF1 := hide hF1
  clear hF1
  obtain ⟨iL, hi, hz0, hz1, hz2⟩ := info_parts Tryz.info42
  go_enter Tryz.func72, Tryz.ntmps72
  go_wp2_with fail
  go_loopw [4, 10] (fun v i wr => ∃ (j : Nat) (out : Cl) (o1 : Option Addr) (o3 : Nat) (xs : List Value), j ≤ k.length ∧ i = .int .i64 j ∧ v = .slice o1 out.length o3 ∧ out.length ≤ j ∧ distC (k.take j) = some out ∧ OwnL w.heap.size (XO wr v) wr out v xs ∧ Below w.heap.size w wr) (fun _ i _ => k.length - (intOf i).toNat)
  case atStart => exact ⟨0, [], none, 0, [], Nat.zero_le _, rfl, rfl, Nat.le_refl _, rfl, ownL_nil _ _, Below.refl _ _⟩
  case round =>
    obtain ⟨j, out, o1, o3, xs, hj, rfl, rfl, hol, hT, hO, hBr⟩ := hrel
    have HT := hide hT
    have HO := hide hO
    clear hT hO
    have hsr := hBr.size
    by_cases hlt : j < k.length
    · have hlt' : (j : Int) < (k.length : Int) := by omega
      obtain ⟨⟨yn, ⟨⟨yv, yi⟩, yk⟩, ⟨yv', yi'⟩, yk'⟩, hy⟩ : ∃ y, k[j]? = some y := ⟨k[j]'hlt, by simp⟩
      obtain ⟨-, -, -, ⟨u3', p3', hA0⟩, -, -, u6', p6', hD0⟩ := HF1.out.at hy
      obtain ⟨p0, p1, p2, ⟨u3, p3, hA⟩, p4, p5, u6, p6, hD⟩ := (HF1.out.below hBr).at hy
      have e3 : u3' = u3 := by have := grow_cell hBr _ _ p3'; rw [p3] at this; exact (Option.some.inj this).symm
      have e6 : u6' = u6 := by have := grow_cell hBr _ _ p6'; rw [p6] at this; exact (Option.some.inj this).symm
      subst e3 e6
      have ha1 : a1 = some ⟨b1, oo, none⟩ := had1 (by omega)
      subst ha1
      have HA := hide hA
      have HD := hide hD
      have HA0 := hide hA0.toB
      have HD0 := hide hD0.toB
      obtain ⟨ya, yc, _, _, rfl, -, -, -, -⟩ := hA
      obtain ⟨za, zc, _, _, rfl, -, -, -, -⟩ := hD
      have Hy := hide hy
      have Hstep : Hid (distC (k.take (j + 1)) = dstep (some out) (yn, ((yv, yi), yk), ((yv', yi'), yk'))) := by rw [Hid, dist_take hy, HT.out]
      have hn1 : out.length + 1 ≤ maxLen := by unfold maxLen; omega
      have hn2 : (out.length + 1) * 88 ≤ 140737488355328 := by omega
      clear hy had1 p3' p6' hA0 hD0
      simp only at *
      go_wp2_with fail
      obtain ⟨m0, m1, m2, m3, m4, m5, m6, -, hbm, -⟩ := lit_cells (T := 42) (x0 := .bool yn) (w := wr) (x1 := .bool yv) (x2 := .int .i64 yi) (x3 := .slice ya (Fo.len yk) yc) (x4 := .bool yv') (x5 := .int .i64 yi') (x6 := .slice za (Fo.len yk') zc) (Below.refl _ _)
      refine (indexD_any out (yn, ((yv, yi), yk), ((yv', yi'), yk')) wr.heap.size _ _ _ _ (HO.out.cl.below hbm) ⟨m0, m1, m2, m3, m4, m5, m6, HA.out.below hbm, HD.out.below hbm⟩).mono ?_
      rintro e w2 ⟨i, rfl, hf, hb2⟩
      obtain ⟨g0, g1, g2, g3, g4, g5, g6, gf, hb2', hlt2⟩ := lit_cells hb2
      have hB2 := below_step hBr hb2'
      clear hb2 p0 p1 p2 p3 p4 p5 p6 m0 m1 m2 m3 m4 m5 m6 hbm
      rcases hf with ⟨rfl, hf⟩ | ⟨q, f, rfl, hq, hf⟩
      · have Hst : Hid (distC (k.take (j + 1)) = some (out ++ [(yn, ((yv, yi), yk), ((yv', yi'), yk'))])) := by
          show distC _ = _
          rw [Hstep.out, dstep, Option.bind_some, hf]
        clear hf
        have hb5 : ∀ ob, Below wr.heap.size wr (w2.alloc ob) := fun ob => below_step hb2' (below_alloc _ _)
        go_wp2_with (at_builtin; refine wpList_append_gen rfl (.tmp 19) (.tmp 21) 25 rfl w.heap.size 42 iL (.agg #[.bool false, .bool false, .int .i64 0, .slice none 0 0, .bool false, .int .i64 0, .slice none 0 0]) 7 88 Tryz.underlying25 hi hz0 hz1 hz2 rfl (by decide) (.slice o1 out.length o3) out.length xs rfl (OwnL.below HO.out (hb5 _)).row _ 1 (litV (yn, ((yv, yi), yk), ((yv', yi'), yk')) (.slice ya (Fo.len yk) yc) (.slice za (Fo.len yk') zc)) rfl cs_lit hn1 hn2 (Nat.le_trans hsr (hb5 _).size) ?_; intro v4 w4 ho4 hg4 hat4)
        obtain ⟨hO4, hB4⟩ := ownL_more (l := (yn, ((yv, yi), yk), ((yv', yi'), yk'))) HO.out (hb5 _) hsr (HA0.out.kept (fun q hq => (below_step hBr (hb5 _)).block q hq)) (HD0.out.kept (fun q hq => (below_step hBr (hb5 _)).block q hq)) ho4 hg4 hat4
        obtain ⟨r1, r3, rfl⟩ := slice_of_cl hO4.cl
        have HO4 := hide hO4
        have hBB := hBr.trans hB4
        clear hO4 ho4 hg4 hat4
        go_wp2_with fail
        go_roundw
        case rel => exact ⟨j + 1, _, r1, r3, _, by omega, by go_num, rfl, by simp; omega, Hst.out, HO4.out, hBB⟩
        case measure => simp [intOf]; omega
      · have hql : q < out.length := (List.getElem?_eq_some_iff.1 hq).1
        have hql' : (q : Int) < (out.length : Int) := by omega
        have hq0 : (0 : Int) ≤ (q : Int) := by omega
        obtain ⟨fn, f⟩ := f
        have HO2 : Hid (OwnL w.heap.size (XO w2 (.slice o1 out.length o3)) w2 out (.slice o1 out.length o3) xs) := (HO.out.below hb2').wide (fun q hq => ⟨by have := hq.1; have := hb2'.size; omega, hq.2⟩) (fun _ h => h)
        obtain ⟨z1, z3, zb, zo, hze, hza, -, -, hzF⟩ := HO2.out.cl
        have hz1' : o1 = some ⟨zb, zo, none⟩ := by
          have := hza (by omega)
          simp only [Value.slice.injEq] at hze
          rw [hze.1]; exact this
        subst hz1'
        have n0 := (hzF.at hq).1
        simp only at n0
        have Hst : Hid (distC (k.take (j + 1)) = if fn = yn then some out else none) := by
          show distC _ = _
          rw [Hstep.out, dstep, Option.bind_some, hf]
        clear hf hq hze hza hzF z1 z3
        have HO3 : Hid (∀ nq, OwnL w.heap.size (XO (w2.drewN nq) (.slice (some ⟨zb, zo, none⟩) out.length o3)) (w2.drewN nq) out (.slice (some ⟨zb, zo, none⟩) out.length o3) xs) := fun nq => (HO2.out.below (below_drewN (Below.refl _ _) nq)).wide (fun q hq => ⟨Nat.lt_of_lt_of_le hq.1 (below_drewN (Below.refl w2.heap.size w2) nq).size, hq.2⟩) (fun _ h => h)
        cases fn <;> cases yn
        · have Hst2 : Hid (distC (k.take (j + 1)) = some out) := by rw [Hid, Hst.out]; rfl
          go_upto_region 8 with fail
          go_quiet (fail)
          go_wp2_with fail
          go_roundw
          case rel => exact ⟨j + 1, _, _, o3, _, by omega, by go_num, rfl, by omega, Hst2.out, HO3.out _, below_drewN hB2 _⟩
          case measure => simp [intOf]; omega
        · have Hst2 : Hid (distC k = none) := dist_stop (j := j + 1) (by rw [Hst.out]; rfl)
          go_upto_region 8 with fail
          go_quiet (fail)
          go_wp2_with fail
          go_ret2
          exact ⟨_, _, [], rfl, CIn.nil _, .inl ⟨rfl, rfl, Hst2.out⟩, below_drewN hB2 _⟩
        · have Hst2 : Hid (distC k = none) := dist_stop (j := j + 1) (by rw [Hst.out]; rfl)
          go_upto_region 8 with fail
          go_quiet (fail)
          go_wp2_with fail
          go_ret2
          exact ⟨_, _, [], rfl, CIn.nil _, .inl ⟨rfl, rfl, Hst2.out⟩, below_drewN hB2 _⟩
        · have Hst2 : Hid (distC (k.take (j + 1)) = some out) := by rw [Hid, Hst.out]; rfl
          go_upto_region 8 with fail
          go_quiet (fail)
          go_wp2_with fail
          go_roundw
          case rel => exact ⟨j + 1, _, _, o3, _, by omega, by go_num, rfl, by omega, Hst2.out, HO3.out _, below_drewN hB2 _⟩
          case measure => simp [intOf]; omega
    · have hje : j = k.length := by omega
      have Hfin : Hid (distC k = some out) := by
        have := HT.out
        rw [hje, List.take_length] at this
        exact this
      clear had1
      go_wp2_with fail
      go_ret2
      exact ⟨_, _, out, rfl, HO.out.cl, .inr ⟨rfl, Hfin.out⟩, hBr⟩
end Go.Proofs.YtaliegkkdhkfcacGreat
