/- C4N RRen CRt DEach DClo DNorm -/
import Derived.Test.YtfckelbdageenabGreatDoorG16
namespace Go.Proofs.YtfckelbdageenabGreatDoor
open Go.RowKit Go.Deep Go.ChangeShapes Go.WideShapes
attribute [local go_sem ↓] Go.wp_at_zero Go.wp_at_succ

theorem gc_rightN {s : List Int} {c : Cl} (hs : s.all okNum = true) (hn : ∀ l ∈ c, Fo.norm l.2.1.2 = l.2.1.2 ∧ Fo.norm l.2.2.2 = l.2.2.2) (h : wrongC s c = 0) : GC c := by
  rw [wrongC_iff] at h
  refine ⟨h.1, fun l hl => ?_⟩
  obtain ⟨g1, _, g2⟩ := gd_right hs (hn l hl).1 (h.2 l hl).1
  obtain ⟨g3, _, g4⟩ := gd_right hs (hn l hl).2 (h.2 l hl).2
  exact ⟨g1, g3, four_right hs (hn l hl).1 (h.2 l hl).1, four_right hs (hn l hl).2 (h.2 l hl).2, g2, g4⟩
end Go.Proofs.YtfckelbdageenabGreatDoor

namespace Go.Proofs.YtfckelbdageenabGreatDoor
open Go.RowKit Go.Deep Go.ChangeShapes Go.WideShapes
attribute [local go_sem ↓] Go.wp_at_zero Go.wp_at_succ

def RenRSaid (d : Int) (x : Bool × Int) (k : Fo) : Prop := ∀ (W0 : World) (a : Value) (w : World), Below W0.heap.size W0 w → SIn W0 k a → okT (x, k) → narT (x, k) →
    Calls Tryz.prog 28 #[.agg #[.bool x.1, .int .i64 x.2, a], .int .i64 d] w fun e w' => ∃ (a1 : Option Addr) (a2 a3 : Nat), e = .returned (.agg #[.bool (subT (ren d) (x, k)).1.1, .int .i64 (subT (ren d) (x, k)).1.2, .slice a1 a2 a3]) ∧
      SB (fun q => q < W0.heap.size ∨ (w.heap.size ≤ q ∧ q < w'.heap.size)) w' (subT (ren d) (x, k)).2 (.slice a1 a2 a3) ∧ Below w.heap.size w w'

set_option maxRecDepth 100000 in
set_option maxHeartbeats 2000000 in
theorem renameR_any (d : Int) (x : Bool × Int) (k : Fo) : RenRSaid d x k := by
  refine Fo.ind1 (p := RenRSaid d) ?_ x k
  clear x k
  intro x k ih W0 a w hW hS hok hnar
  obtain ⟨v, n⟩ := x
  have HI := hide ih
  have HW := hide hW
  have Hok := hide hok
  have Hnar := hide hnar
  have HS := hide hS
  obtain ⟨ad, ac, b, o, rfl, had, hlc, hcm, hF⟩ := hS
  have HF := hide hF
  have hW0 := hW.size
  unfold maxLen at hcm
  clear ih hok hF hW
  cases v
  · have Hres : Hid (subT (ren d) ((false, n), k) = ((false, n), subF (ren d) k)) := rfl
    have HTok : Hid (Fo.ok (subF (ren d) k)) := subF_ok (fun _ => ok_vr _) k
    have Hl := hide (Fo.len_list k)
    have Hl2 := hide (subF_len (ren d) k)
    have hlen : Fo.len k ≤ 1000 := hnar.1
    clear hnar
    go_enter Tryz.func28, Tryz.ntmps28
    go_wp2_with fail
    generalize hW2 : (w.alloc (.cells #[.bool false, .int .i64 n, .slice ad (Fo.len k) ac] 36)).alloc (.cells #[.bool false, .int .i64 0, .slice none 0 0] 36) = W2
    have hs2 : W2.heap.size = w.heap.size + 1 + 1 := by rw [← hW2]; simp
    have hB2 : Below w.heap.size w W2 := by rw [← hW2]; exact (below_alloc _ _).alloc (by simp) _
    have r0 : W2.cell? ⟨w.heap.size + 1, 0, none⟩ = some (.bool false) := by rw [← hW2]; exact new_cell (World.size_alloc _ _)
    have r1 : W2.cell? ⟨w.heap.size + 1, 1, none⟩ = some (.int .i64 0) := by rw [← hW2]; exact new_cell (World.size_alloc _ _)
    have r2 : W2.cell? ⟨w.heap.size + 1, 2, none⟩ = some (.slice none 0 0) := by rw [← hW2]; exact new_cell (World.size_alloc _ _)
    have rf : ∀ i, W2.frozen? ⟨w.heap.size + 1, i, none⟩ = false := fun i => by rw [← hW2]; exact new_frozen (World.size_alloc _ _)
    have HQ := hide (And.intro r0 (And.intro r1 (And.intro r2 rf)))
    have HB2 := hide hB2
    have Hs2 := hide hs2
    have H0 : Hid (AppRel (w.heap.size + 1 + 1) W2 (fun q => q < W0.heap.size) (subF (ren d) k) n 0 (W2.alloc (.cells #[.bool false, .int .i64 n, .slice none 0 0] 36))) := app_zero hs2
    clear r0 r1 r2 rf hB2 hs2 hW2
    go_loopw [23] (fun i wr => ∃ j : Nat, j ≤ Fo.len k ∧ i = .int .i64 j ∧ AppRel (w.heap.size + 1 + 1) W2 (fun q => q < W0.heap.size) (subF (ren d) k) n j wr) (fun i _ => Fo.len k - (intOf i).toNat)
    case atStart => exact ⟨0, Nat.zero_le _, rfl, H0.out⟩
    case round =>
      obtain ⟨j, hj, rfl, hR⟩ := hrel
      have HR := hide hR
      obtain ⟨vr', xs, h1, h2, q0, q1, q2, qf, hB⟩ := hR
      have H1 := hide h1
      have H2 := hide h2
      have HB := hide hB
      have Hqf := hide qf
      have hs2 := Hs2.out
      have hBw : Below w.heap.size w wr := HB2.out.trans (hB.mono (by omega))
      have hB0 : Below W0.heap.size W0 wr := HW.out.trans (hBw.mono hW0)
      have hBlt : w.heap.size + 1 + 1 < wr.heap.size := World.block_lt_of_cell? _ _ q0
      obtain ⟨z1, z3, rfl⟩ := slice_of_owns h1
      clear H0 h1 h2 hB
      by_cases hlt : j < Fo.len k
      · have hlt' : (j : Int) < (Fo.len k : Int) := by omega
        have had' : ad = some ⟨b, o, none⟩ := had (by omega)
        subst had'
        obtain ⟨⟨⟨ev, en⟩, ek⟩, hy⟩ : ∃ y, k.list[j]? = some y := ⟨k.list[j]'(by rw [Hl.out]; exact hlt), by simp⟩
        obtain ⟨c0, c1, yv', c2, hSy⟩ := HF.out.at hy
        have c0' := grow_cell hB0 _ _ c0
        have c1' := grow_cell hB0 _ _ c1
        have c2' := grow_cell hB0 _ _ c2
        have HSy := hide hSy
        obtain ⟨ya, yc, yb, yo, rfl, -, -, -, -⟩ := hSy
        have Hy := hide hy
        have Hy2 : Hid ((subF (ren d) k).list[j]? = some (subT (ren d) ((ev, en), ek))) := by rw [Hid, subF_list, List.getElem?_map, hy]; rfl
        obtain ⟨⟨⟨xv, xn⟩, xk⟩, hz⟩ : ∃ z, z = subT (ren d) ((ev, en), ek) := ⟨_, rfl⟩
        have Hz := hide hz
        have Hoke : Hid (okT ((ev, en), ek)) := ok_mem Hok.out.2 (List.mem_of_getElem? hy)
        have Hnare : Hid (narT ((ev, en), ek)) := nar_mem Hnar.out.2 (List.mem_of_getElem? hy)
        clear hy had c0 c1 c2 hz
        obtain ⟨i26, hi26, hz0, hz1, hz2⟩ := info_parts Tryz.info36
        have hn1 : j + 1 ≤ maxLen := by unfold maxLen; omega
        have hn2 : (j + 1) * 40 ≤ 140737488355328 := by omega
        go_upto_region 7 with fail
        generalize hwa : wr.alloc (.cells #[.bool ev, .int .i64 en, .slice ya (Fo.len ek) yc] 36) = wa
        have e0 : wa.cell? ⟨wr.heap.size, 0, none⟩ = some (.bool ev) := by rw [← hwa]; exact new_cell rfl
        have e1 : wa.cell? ⟨wr.heap.size, 1, none⟩ = some (.int .i64 en) := by rw [← hwa]; exact new_cell rfl
        have e2 : wa.cell? ⟨wr.heap.size, 2, none⟩ = some (.slice ya (Fo.len ek) yc) := by rw [← hwa]; exact new_cell rfl
        have hba : Below wr.heap.size wr wa := by rw [← hwa]; exact below_alloc _ _
        have f2 := grow_cell hba _ _ q2
        have ff : ∀ i, wa.frozen? ⟨w.heap.size + 1 + 1, i, none⟩ = false := fun i => (hba.frozen hBlt).trans (Hqf.out i)
        have hBa : w.heap.size + 1 + 1 < wa.heap.size := Nat.lt_of_lt_of_le hBlt hba.size
        have Hno : Hid (some (w.heap.size + 1 + 1) ≠ (Value.slice z1 j z3).ownBlock) := fun e => by have := (owns_at H1.out _ e.symm).1; omega
        have hcall : Calls Tryz.prog 28 #[.agg #[.bool ev, .int .i64 en, .slice ya (Fo.len ek) yc], .int .i64 d] wa.drew fun e w' => ∃ (a1 : Option Addr) (a2 a3 : Nat), e = .returned (.agg #[.bool xv, .int .i64 xn, .slice a1 a2 a3]) ∧ SB (fun q => q < W0.heap.size ∨ (wa.heap.size ≤ q ∧ q < w'.heap.size)) w' xk (.slice a1 a2 a3) ∧ Below wa.heap.size wa w' := by
          refine (HI.out ((ev, en), ek) (List.mem_of_getElem? Hy.out) W0 _ wa.drew ?_ HSy.out Hoke.out Hnare.out).mono ?_
          · exact (hB0.trans (hba.mono hB0.size)).trans (Below.refl _ _).drew
          · rintro e w' ⟨a1, a2, a3, rfl, hk, hb⟩
            rw [← Hz.out] at hk ⊢
            exact ⟨a1, a2, a3, rfl, hk, (Below.refl _ _).drew.trans hb⟩
        have Hcall := hide hcall
        have Hba := hide hba
        clear hcall hwa c0' c1' c2' hba q2 qf
        go_region_law (first
          | (refine step_append_lies _ (by rfl) _ _ _ (by rfl) (w.heap.size + 1 + 1 + 1) 36 i26 (.agg #[.bool false, .int .i64 0, .slice none 0 0]) 3 40 Tryz.underlying34 hi26 hz0 hz1 hz2 rfl (by decide) (.slice z1 j z3) j xs (by rfl) Hown3.out ⟨w3.heap.size, 0, none⟩ 1 1 [.bool xv, .int .i64 xn, .slice a1 a2 a3] (by rfl) (by rfl) Hnews.out (by simp [Value.oneCell']) (by decide) hn1 hn2 (by simp; omega) (w3.heap.size + 1) (by simp) ?_; intro g cap w4 ho4 hg4 hat4 hlt4; have x2 := out_cell hg4 hB3 Hno.out g3; have xf := out_frozen hg4 hB3 Hno.out gf3)
          | (go_simp; go_at_call 28; refine Hcall.out.mono ?_; rintro e w3 ⟨a1, a2, a3, rfl, hk3, hb3⟩
             have hs3 := hb3.size; have g3 := grow_cell hb3 _ _ f2; have gf3 : ∀ i, w3.frozen? ⟨w.heap.size + 1 + 1, i, none⟩ = false := (fun i => (hb3.frozen hBa).trans (ff i)); have hB3 : w.heap.size + 1 + 1 < w3.heap.size := Nat.lt_of_lt_of_le hBa hs3
             have Hown3 : Hid ((w3.alloc (.cells #[.bool xv, .int .i64 xn, .slice a1 a2 a3] 36)).ownsRow (w.heap.size + 1 + 1 + 1) 36 3 (.slice z1 j z3) j xs) := (owns_keep H1.out (fun g hg => by have h := owns_at H1.out g hg; have hsz := Hba.out.size; rw [Below.heap_alloc _ _ _ (by omega), hb3.block g (by omega), Hba.out.block g h.2]))
             have Hnews : Hid (∀ j u, [Value.bool xv, .int .i64 xn, .slice a1 a2 a3][j]? = some u → (w3.alloc (.cells #[.bool xv, .int .i64 xn, .slice a1 a2 a3] 36)).cell? ((⟨w3.heap.size, 0, none⟩ : Addr).add j) = some u) := (World.news_of_block (cs := #[.bool xv, .int .i64 xn, .slice a1 a2 a3]) (heap_alloc_new w3 _))))
        all_goals
          have Hst := hide (app_next (B := w.heap.size + 1 + 1) (W2 := W2) (X := fun q => q < W0.heap.size) (T := subF (ren d) k) (xn := n) (z := (xv, xn)) (r := xk) (a := .slice a1 a2 a3) HTok.out H1.out H2.out (fun q hq => by omega) q0 q1 (by have hc := HR.out; obtain ⟨_, _, _, _, _, _, q2, _, _⟩ := hc; exact (Hba.out.cell (p := ⟨w.heap.size + 1 + 1, 2, none⟩) hBlt).symm.trans f2) Hqf.out HB.out (below_step Hba.out hb3) (hk3.wide (fun q hq => by rcases hq with h | h; exact .inl h; exact .inr ⟨by have := Hba.out.size; omega, h.2⟩)) (by rw [Hy2.out, ← Hz.out]) rfl ho4 hg4 hat4 hlt4)
          clear hk3 hb3 ho4 hg4 hat4 hlt4 x2 xf g3 gf3 Hown3 Hnews hi26 hz0 hz1 hz2
          go_wp2_with fail
          go_roundw
          case rel => exact ⟨j + 1, by omega, by go_num, Hst.out⟩
          case measure => simp [intOf]; omega
      · have hje : j = Fo.len k := by omega
        have hRe : AppRel (w.heap.size + 1 + 1) W2 (fun q => q < W0.heap.size) (subF (ren d) k) n (Fo.len (subF (ren d) k)) wr := by rw [Hl2.out, ← hje]; exact HR.out
        obtain ⟨y1, y3, hc2, hSB⟩ := app_end hRe
        have HSB := hide hSB
        obtain ⟨p0, p1, p2, pf⟩ := HQ.out
        have s0 : wr.cell? ⟨w.heap.size + 1, 0, none⟩ = some (.bool false) := (HB.out.cell (by show w.heap.size + 1 < _; omega)).trans p0
        have s1 : wr.cell? ⟨w.heap.size + 1, 1, none⟩ = some (.int .i64 0) := (HB.out.cell (by show w.heap.size + 1 < _; omega)).trans p1
        have s2 : wr.cell? ⟨w.heap.size + 1, 2, none⟩ = some (.slice none 0 0) := (HB.out.cell (by show w.heap.size + 1 < _; omega)).trans p2
        have sf : ∀ i, wr.frozen? ⟨w.heap.size + 1, i, none⟩ = false := fun i => (HB.out.frozen (by show w.heap.size + 1 < _; omega)).trans (pf i)
        clear q2 hSB p0 p1 p2 pf hRe
        go_wp2_with fail
        refine bodyPost_ret (v := .agg #[.bool false, .int .i64 n, .slice y1 (Fo.len (subF (ren d) k)) y3]) (by simp [results, Tryz.results28, go_sem, s0, s1, s2]) rfl ⟨y1, Fo.len (subF (ren d) k), y3, by rw [Hres.out], ?_, set3_below (o := 0) hBw (by omega)⟩
        rw [Hres.out]
        refine (HSB.out.set3 (b := w.heap.size + 1) (o := 0) ?_).wide (fun q hq => ?_)
        · intro h
          rcases h with h | h <;> omega
        · rcases hq with h | h
          · exact .inl h
          · exact .inr ⟨by omega, by rw [World.size_setCell, World.size_setCell, World.size_setCell]; exact h.2⟩
  · have Hres : Hid (subT (ren d) ((true, n), k) = vr (wrap64 (n + d))) := rfl
    have hk0 : k = .nil := Hok.out.1 rfl
    subst hk0
    clear had
    go_enter Tryz.func28, Tryz.ntmps28
    go_wp2_with fail
    refine bodyPost_ret (v := .agg #[.bool true, .int .i64 (wrap64 (n + d)), .slice ad (Fo.len .nil) ac]) (by simp [results, Tryz.results28, go_sem, wrap64]) rfl ⟨ad, Fo.len .nil, ac, by rw [Hres.out]; rfl, ?_, (below_alloc _ _).alloc (by simp) _⟩
    rw [Hres.out]
    exact ⟨ad, ac, b, o, rfl, fun h => by simp [vr, Fo.len] at h, Nat.zero_le _, by unfold maxLen; exact hcm, trivial⟩

end Go.Proofs.YtfckelbdageenabGreatDoor

namespace Go.Proofs.YtfckelbdageenabGreatDoor
open Go.RowKit Go.Deep Go.ChangeShapes Go.WideShapes

def SplRel (w : World) (l : List UInt8) (a b : Nat) (v : Value) (wr : World) : Prop :=
  ∃ Ps : List ByteArray, Scan l a b (Ps.map (·.data.toList)) ∧ wr.ownsRow w.heap.size 9 1 v Ps.length (Ps.map Value.string) ∧ Below w.heap.size w wr ∧ ∃ z1 z3, v = .slice z1 Ps.length z3
theorem spl_start (w : World) (l : List UInt8) : SplRel w l 0 0 (.slice none 0 0) w := ⟨[], scan_start l, World.ownsRow_nil _ _ _ _, Below.refl _ _, none, 0, rfl⟩
theorem cs_str {w : World} {X : ByteArray} : Cs (w.alloc (.cells #[.string X] 9)) (.slice (some ⟨w.heap.size, 0, none⟩) 1 1) 1 1 [.string X] :=
  ⟨_, 1, rfl, rfl, by simp [Value.oneCell'], fun e => by (cases e), fun ad hh j u hj => by cases hh; exact World.news_of_block (cs := #[.string X]) (heap_alloc_new w _) j u hj⟩
theorem own_slice {w : World} {lo e : Nat} {v : Value} {n : Nat} {xs : List Value} (h : w.ownsRow lo e 1 v n xs) : ∃ z1 z3, v = .slice z1 n z3 := by
  rcases h.2 with ⟨rfl, h0⟩ | ⟨g, cap, cur, rfl, _⟩
  · exact ⟨none, 0, by rw [h0]⟩
  · exact ⟨_, _, rfl⟩
theorem grown_below {w w3 w4 : World} {lo : Nat} {v : Value} {e n : Nat} {xs : List Value} (h : w.ownsRow lo e 1 v n xs) (hb : Below w.heap.size w w3) (hlo : lo ≤ w.heap.size) (hg : w3.grownBy w4 v.ownBlock) : Below lo w w4 := by
  have hs := hb.size
  refine ⟨hg.os.trans hb.os, hg.tape.trans hb.tape, hg.output.trans hb.output, by have := hg.size; omega, fun q hq => ?_⟩
  rw [hg.block q (by omega) (fun e => by have := (owns_at h q e.symm).1; omega), hb.block q (by omega)]

def RLRel (W2 : World) (s : List Int) (ps : List (List UInt8)) (j : Nat) (v : Value) (wr : World) : Prop :=
  ∃ (out : Cl) (xs : List Value), out = (ps.take j).map (fun p => (litP s p).2) ∧ (∀ q, q < j → ∀ a, ps[q]? = some a → (litP s a).1 = 0) ∧ OwnL W2.heap.size (XO wr v) wr out v xs ∧ Below W2.heap.size W2 wr ∧ ∃ z1 z3, v = .slice z1 out.length z3
theorem rl_start (W2 : World) (s : List Int) (ps : List (List UInt8)) : RLRel W2 s ps 0 (.slice none 0 0) W2 :=
  ⟨[], [], by simp, fun q hq => by omega, ownL_nil _ _, Below.refl _ _, none, 0, rfl⟩

theorem parseR_call {s : List Int} {sv : Value} {l : List UInt8} {A : ByteArray} {wn : World} {er : Int} {t : Tm} (hA : A.data.toList = l) (hN : NIn wn s sv) (hl : l.length ≤ maxLen) (hp : parseT s l = (er, t)) (w' : World) (hb : Below wn.heap.size wn w') :
    Calls Tryz.prog 35 #[sv, .string A] w' fun e w'' => ∃ z1 z2 z3, e = .returned (.tuple #[.agg #[.bool t.1.1, .int .i64 t.1.2, .slice z1 z2 z3], .int .i64 er]) ∧ SB (New w' w'') w'' t.2 (.slice z1 z2 z3) ∧ Below w'.heap.size w' w'' := by
  rw [byte_eq hA]
  refine (parseR_new s sv l w' (hN.below hb) hl).mono ?_
  rintro e w2 ⟨a, rfl, hS, hb2⟩
  rw [hp] at hS ⊢
  obtain ⟨z1, z2, z3, rfl⟩ := slice_of_sin hS.toS
  exact ⟨z1, z2, z3, rfl, hS, hb2⟩
/-- A literal's box with nothing in it but its sign. -/
structure ZBox (w : World) (b : Nat) (neg : Bool) : Prop where
  c0 : w.cell? ⟨b, 0, none⟩ = some (.bool neg)
  c1 : w.cell? ⟨b, 1, none⟩ = some (.bool false)
  c2 : w.cell? ⟨b, 2, none⟩ = some (.int .i64 0)
  c3 : w.cell? ⟨b, 3, none⟩ = some (.slice none 0 0)
  c4 : w.cell? ⟨b, 4, none⟩ = some (.bool false)
  c5 : w.cell? ⟨b, 5, none⟩ = some (.int .i64 0)
  c6 : w.cell? ⟨b, 6, none⟩ = some (.slice none 0 0)
  fz : ∀ i, w.frozen? ⟨b, i, none⟩ = false
  lt : b < w.heap.size
theorem ZBox.below {w w' : World} (hb : Below w.heap.size w w') {b : Nat} {neg : Bool} (h : ZBox w b neg) : ZBox w' b neg :=
  ⟨grow_cell hb _ _ h.c0, grow_cell hb _ _ h.c1, grow_cell hb _ _ h.c2, grow_cell hb _ _ h.c3, grow_cell hb _ _ h.c4, grow_cell hb _ _ h.c5, grow_cell hb _ _ h.c6, fun i => (hb.frozen h.lt).trans (h.fz i), Nat.lt_of_lt_of_le h.lt hb.size⟩
theorem zbox_new (w : World) (neg : Bool) : ZBox (w.alloc (.cells #[.bool neg, .bool false, .int .i64 0, .slice none 0 0, .bool false, .int .i64 0, .slice none 0 0] 44)) w.heap.size neg := by
  obtain ⟨g0, g1, g2, g3, g4, g5, g6, gf, _, hlt⟩ := lit_cells (T := 44) (x0 := .bool neg) (w := w) (x1 := .bool false) (x2 := .int .i64 0) (x3 := .slice none 0 0) (x4 := .bool false) (x5 := .int .i64 0) (x6 := .slice none 0 0) (Below.refl _ _)
  exact ⟨g0, g1, g2, g3, g4, g5, g6, gf, hlt⟩
theorem ZBox.set {w : World} {b : Nat} (h : ZBox w b false) : ZBox (w.setCell ⟨b, 0, none⟩ (.bool true)).drew b true := by
  have ne : ∀ i, i ≠ 0 → (⟨b, 0, none⟩ : Addr) ≠ ⟨b, i, none⟩ := fun i hi e => by simp only [Addr.mk.injEq] at e; omega
  exact ⟨set_same h.c0, (set_other (ne 1 (by decide))).trans h.c1, (set_other (ne 2 (by decide))).trans h.c2, (set_other (ne 3 (by decide))).trans h.c3, (set_other (ne 4 (by decide))).trans h.c4, (set_other (ne 5 (by decide))).trans h.c5, (set_other (ne 6 (by decide))).trans h.c6, fun i => (by simpa using h.fz i), by simpa [World.setCell] using h.lt⟩
theorem dcell (w : World) (a : Addr) : w.drew.cell? a = w.cell? a := rfl
theorem dheap (w : World) : w.drew.heap = w.heap := rfl
theorem byte_is {P : ByteArray} {p : List UInt8} (h : P.data.toList = p) {k : Nat} (hk : k < P.size) : p[k]? = some P[k] := by
  subst h
  rw [List.getElem?_eq_getElem (by rw [← ba_size (B := P) rfl]; exact hk)]
  rfl
/-- One literal more, whose terms are new. -/
theorem ownL_more2 {lo : Nat} {wr w3 w4 : World} {s : Cl} {v v4 : Value} {xs : List Value} {l : Lt} {a d : Value} (h : OwnL lo (XO wr v) wr s v xs) (hb : Below wr.heap.size wr w3) (hlo : lo ≤ wr.heap.size)
    (hA : SB (fun q => wr.heap.size ≤ q ∧ q < w3.heap.size) w3 l.2.1.2 a) (hD : SB (fun q => wr.heap.size ≤ q ∧ q < w3.heap.size) w3 l.2.2.2 d)
    (ho : w4.ownsRow lo 44 7 v4 (s.length + 1) (xs ++ litV l a d)) (hg : w3.grownBy w4 v.ownBlock) (hat : v4.ownBlock = v.ownBlock ∨ v4.ownBlock = some w3.heap.size) :
    OwnL lo (XO w4 v4) w4 (s ++ [l]) v4 (xs ++ litV l a d) ∧ Below lo wr w4 := by
  have hs := hb.size
  have hs4 := hg.size
  have hv : ∀ q, v.ownBlock = some q → lo ≤ q ∧ q < wr.heap.size := fun q hq => owns_at h.row q hq
  have noq : ∀ q, q < w3.heap.size → some q ≠ v.ownBlock → q < w4.heap.size ∧ some q ≠ v4.ownBlock := fun q hq hn => by
    refine ⟨by omega, fun e => ?_⟩
    rcases hat with e' | e'
    · exact hn (e.trans e')
    · rw [e'] at e; simp at e; omega
  have ok : ∀ q, (wr.heap.size ≤ q ∧ q < w3.heap.size) → q < w3.heap.size ∧ some q ≠ v.ownBlock := fun q hq => by
    refine ⟨by omega, fun e => ?_⟩
    have := hv q e.symm
    omega
  refine ⟨⟨by simpa using ho, ?_, fun q hq => hq⟩, ⟨hg.os.trans hb.os, hg.tape.trans hb.tape, hg.output.trans hb.output, by omega, fun q hq => ?_⟩⟩
  · refine LC.append (LC.one ?_ ?_) ?_
    · exact hA.frame (fun q hq => noq q (ok q hq).1 (ok q hq).2) (fun q i hq => World.cell?_of_block (hg.block q (ok q hq).1 (ok q hq).2))
    · exact hD.frame (fun q hq => noq q (ok q hq).1 (ok q hq).2) (fun q i hq => World.cell?_of_block (hg.block q (ok q hq).1 (ok q hq).2))
    · refine h.cells.frame (fun q hq => noq q (by have := hq.1; omega) hq.2) (fun q i hq => World.cell?_of_block ?_)
      rw [hg.block q (by have := hq.1; omega) hq.2, hb.block q hq.1]
  · have hn : some q ≠ v.ownBlock := fun e => by have := hv q e.symm; omega
    rw [hg.block q (by omega) hn, hb.block q (by omega)]

set_option maxRecDepth 100000 in
set_option maxHeartbeats 3000000 in
theorem parseCR_any (s : List Int) (sv : Value) (T : ByteArray) (w : World) (hN : NIn w s sv) (hT : T.size < 4294967281) :
    Calls Tryz.prog 8 #[sv, .string T] w (ParsePost s T.data.toList w) := by
  obtain ⟨l, hl⟩ : ∃ l, T.data.toList = l := ⟨_, rfl⟩
  have hTl : T.size = l.length := ba_size hl
  have HTl := hide hTl
  have HN := hide hN
  obtain ⟨sa, sc, _, _, rfl, -, -, -, -⟩ := hN
  rw [hl]
  go_enter Tryz.func8, Tryz.ntmps8
  go_wp2_with fail
  refine (wsigR_any s _ _ HN.out).mono ?_
  rintro e w' ⟨rfl, hw'⟩
  rw [hw']
  clear hw' w'
  by_cases hw : wsig s = 0
  · have Hw := hide hw
    simp only [hw]
    clear hw
    by_cases h2 : T = ⟨#[91, 93]⟩
    · subst h2
      have Hf : Hid (parseC s l = (0, [])) := by rw [Hid, parseC, if_neg (by simp [Hw.out]), if_pos hl.symm]
      clear hl hTl
      go_wp2_with fail
      go_ret2
      exact parse_post Hf.out (Below.refl _ _)
    · have Hne : Hid (l ≠ [91, 93]) := fun e => h2 (by rw [e] at hl; exact byte_eq hl)
      have Hpc : Hid (parseC s l = partsC s (full l)) := by rw [Hid, parseC, if_neg (by simp [Hw.out]), if_neg Hne.out]
      have h2b : (T.toList == [91, 93]) = false := by rw [ByteArray.toList_eq, hl]; simpa using Hne.out
      have Hl := hide hl
      clear hl h2 hTl
      obtain ⟨i9, hi9, hy0, hy1, hy2⟩ := info_parts Tryz.info9
      obtain ⟨iL, hiL, hl0, hl1, hl2⟩ := info_parts Tryz.info44
      go_wp2_with fail
      go_loopw [7, 8, 9] (fun v fr i wr => ∃ (a b : Nat), a ≤ T.size ∧ i = .int .i64 a ∧ fr = .int .i64 b ∧ SplRel w l a b v wr) (fun _ _ i _ => T.size - (intOf i).toNat)
      case atStart => exact ⟨0, 0, Nat.zero_le _, rfl, rfl, spl_start w l⟩
      case round =>
        obtain ⟨a, b, ha, rfl, rfl, Ps, hSc, hO, hBr, z1, z3, rfl⟩ := hrel
        have HSc := hide hSc
        have HO := hide hO
        have hba : b ≤ a := hSc.fi
        have hsr := hBr.size
        have hPl : Ps.length ≤ l.length + 1 := by
          have h1 := congrArg List.length hSc.all
          have h2 := full_le l
          simp only [List.length_append, List.length_map] at h1
          omega
        have hPl' : Ps.length ≤ T.size + 1 := by rw [HTl.out]; exact hPl
        clear hSc hO hPl
        have hn1 : Ps.length + 1 ≤ maxLen := by unfold maxLen; omega
        have hn2 : (Ps.length + 1) * 16 ≤ 140737488355328 := by omega
        have hB1 : (0 : Int) ≤ (b : Int) := by omega
        have hB2 : (b : Int) ≤ (a : Int) := by omega
        have hA1 : (0 : Int) ≤ (a : Int) := by omega
        have hA2 : (a : Int) ≤ (T.size : Int) := by omega
        by_cases hlt : a + 3 ≤ T.size
        · have hlt' : (a : Int) + 3 ≤ (T.size : Int) := by omega
          have hex : (T.extract a (a + 3)).toList = (l.drop a).take 3 := by
            rw [Lib.extract_toList, Hl.out, show a + 3 - a = 3 by omega]
          by_cases hs : (l.drop a).take 3 = sepL
          · have hc : ((T.extract a (a + 3)).toList == [32, 124, 32]) = true := by rw [hex, hs]; rfl
            have Hnx := hide (HSc.out.hit (by rw [← HTl.out]; exact hlt) hs)
            have Hxd : Hid ((T.extract b a).data.toList = (l.drop b).take (a - b)) := by rw [Hid, Lib.extract_data, Hl.out]
            clear hex hs
            have hb5 : ∀ ob, Below wr.heap.size wr (wr.alloc ob) := fun ob => below_alloc _ _
            go_wp2_with (at_builtin; refine wpList_append_gen rfl (.tmp 37) (.tmp 42) 61 rfl w.heap.size 9 i9 (.string ByteArray.empty) 1 16 Tryz.underlying61 hi9 hy0 hy1 hy2 rfl (by decide) (.slice z1 Ps.length z3) Ps.length (Ps.map Value.string) rfl (owns_keep HO.out (fun g hg => (hb5 _).block g (owns_at HO.out g hg).2)) _ 1 [.string (T.extract b a)] rfl cs_str hn1 hn2 (Nat.le_trans hsr (hb5 _).size) ?_; intro v4 w4 ho4 hg4 hat4)
            have hB4 := grown_below HO.out (hb5 _) hsr hg4
            obtain ⟨r1, r3, rfl⟩ := own_slice ho4
            have HR : Hid (SplRel w l (a + 3) (a + 3) (.slice r1 (Ps.length + 1) r3) w4) := by
              refine ⟨Ps ++ [T.extract b a], ?_, ?_, hBr.trans hB4, r1, r3, by simp⟩
              · rw [List.map_append, List.map_singleton, Hxd.out]; exact Hnx.out
              · rw [List.map_append, List.length_append]; exact ho4
            clear ho4 hg4 hat4 hB4 hc
            go_wp2_with fail
            go_roundw
            case rel => exact ⟨a + 3, a + 3, hlt, by go_num, by go_num, HR.out⟩
            case measure => simp [intOf]; omega
          · have hc : ((T.extract a (a + 3)).toList == [32, 124, 32]) = false := by rw [hex]; simpa using hs
            have HR : Hid (SplRel w l (a + 1) b (.slice z1 Ps.length z3) wr) := ⟨Ps, HSc.out.miss (by rw [← HTl.out]; exact hlt) hs, HO.out, hBr, z1, z3, rfl⟩
            clear hex hs
            go_wp2_with fail
            go_roundw
            case rel => exact ⟨a + 1, b, by omega, by go_num, rfl, HR.out⟩
            case measure => simp [intOf]; omega
        · have hlt' : ¬ (a : Int) + 3 ≤ (T.size : Int) := by omega
          have hB3 : (b : Int) ≤ (T.size : Int) := by omega
          have Hls := hide (HSc.out.last (by rw [← HTl.out]; exact hlt))
          have Hxd : Hid ((T.extract b T.size).data.toList = l.drop b) := by
            rw [Hid, Lib.extract_data, Hl.out, List.take_of_length_le (by rw [List.length_drop, HTl.out]; exact Nat.le_refl _)]
          have hb5 : ∀ ob, Below wr.heap.size wr (wr.alloc ob) := fun ob => below_alloc _ _
          go_upto_region 16 with (at_builtin; refine wpList_append_gen rfl (.tmp 49) (.tmp 53) 61 rfl w.heap.size 9 i9 (.string ByteArray.empty) 1 16 Tryz.underlying61 hi9 hy0 hy1 hy2 rfl (by decide) (.slice z1 Ps.length z3) Ps.length (Ps.map Value.string) rfl (owns_keep HO.out (fun g hg => (hb5 _).block g (owns_at HO.out g hg).2)) _ 1 [.string (T.extract b T.size)] rfl cs_str hn1 hn2 (Nat.le_trans hsr (hb5 _).size) ?_; intro v4 w4 ho4 hg4 hat4; obtain ⟨r1, r3, rfl⟩ := own_slice ho4)
          have hB4 := hBr.trans (grown_below HO.out (hb5 _) hsr hg4)
          obtain ⟨Qs, hQs⟩ : ∃ Qs, Qs = Ps ++ [T.extract b T.size] := ⟨_, rfl⟩
          have hQl : Qs.length = Ps.length + 1 := by rw [hQs]; simp
          have HQd : Hid (Qs.map (·.data.toList) = full l) := by rw [hQs, List.map_append, List.map_singleton, Hxd.out]; exact Hls.out
          have ho5 : w4.ownsRow w.heap.size 9 1 (.slice r1 (Ps.length + 1) r3) Qs.length (Qs.map Value.string) := by rw [hQl, hQs, List.map_append]; exact ho4
          rw [← hQl] at ho5 ⊢
          have HQc : Hid (∀ g, r1 = some ⟨g, 0, none⟩ → ∀ j x, Qs[j]? = some x → w4.cell? ⟨g, j, none⟩ = some (.string x)) := fun g hg j x hx => by
            have := ho5.cells (g := g) (by rw [hg]; rfl) j (.string x) (by rw [List.getElem?_map, hx]; rfl)
            rw [add_plain, Nat.zero_add] at this
            exact this
          have Hr1 : Hid (∃ g, r1 = some ⟨g, 0, none⟩) := by
            rcases ho5.2 with ⟨_, h0⟩ | ⟨g, cap, cur, he, _⟩
            · omega
            · simp only [Value.slice.injEq] at he
              exact ⟨g, he.1⟩
          have Hsm : Hid (∀ p ∈ Qs, p.size ≤ T.size) := fun p hp => by
            have h1 : p.data.toList ∈ full l := by rw [← HQd.out]; exact List.mem_map_of_mem hp
            rw [ba_size (B := p) rfl, HTl.out]
            exact splitK_len _ _ _ h1
          have hQm : (Qs.length : Int) ≤ 9223372036854775807 := by omega
          have HQl := hide hQl
          clear ho4 hg4 hat4 ho5 hQs hb5 HSc HO hQl
          by_cases h4 : 4 < Qs.length
          · have h4' : (4 : Int) < (Qs.length : Int) := by omega
            have Hf : Hid (parseC s l = (5, [])) := by rw [Hid, Hpc.out, partsC, if_pos (by rw [← HQd.out, List.length_map]; exact h4)]
            go_wp2_with fail
            go_ret2
            exact parse_post Hf.out hB4
          · have h4' : ¬ (4 : Int) < (Qs.length : Int) := by omega
            have Hpc2 : Hid (parseC s l = if litsP s (full l) ≠ 0 then (litsP s (full l), []) else (0, (full l).map fun p => (litP s p).2)) := by rw [Hid, Hpc.out, partsC, if_neg (by rw [← HQd.out, List.length_map]; exact h4)]
            go_wp2_with fail
            go_loopw [10, 60] (fun v i wx => ∃ (j : Nat), j ≤ Qs.length ∧ i = .int .i64 j ∧ RLRel w4 s (full l) j v wx) (fun _ i _ => Qs.length - (intOf i).toNat)
            case atStart => exact ⟨0, Nat.zero_le _, rfl, rl_start _ _ _⟩
            case round =>
              obtain ⟨j, hj, rfl, out, xs, hout, hno, hOw, hBx, o1, o3, rfl⟩ := hrel
              have Hout := hide hout
              have Hno := hide hno
              have HOw := hide hOw
              have hol : out.length ≤ j := by rw [hout, List.length_map, List.length_take]; omega
              have hsx := hBx.size
              have hBwx := hB4.trans (hBx.mono hB4.size)
              clear hout hno hOw
              obtain ⟨g, rfl⟩ := Hr1.out
              by_cases hlt : j < Qs.length
              · have hlt' : (j : Int) < (Qs.length : Int) := by omega
                have hj0 : (0 : Int) ≤ (j : Int) := by omega
                obtain ⟨P, hP⟩ : ∃ P, Qs[j]? = some P := ⟨Qs[j]'hlt, by simp⟩
                have hc := grow_cell hBx _ _ (HQc.out g rfl j P hP)
                have Hfl : Hid ((full l)[j]? = some P.data.toList) := by rw [Hid, ← HQd.out, List.getElem?_map, hP]; rfl
                have hPz := Hsm.out P (List.mem_of_getElem? hP)
                obtain ⟨p, hp⟩ : ∃ p, P.data.toList = p := ⟨_, rfl⟩
                have hpl : P.size = p.length := ba_size hp
                have Hp := hide hp
                have Hpl := hide hpl
                rw [hp] at Hfl
                clear hP hp hpl
                go_wp2_with fail
                go_loopw [13] (fun i wy => ∃ k : Nat, k ≤ P.size ∧ i = .int .i64 k ∧ (∀ q, q < k → p[q]? ≠ some 61) ∧ wy = wr) (fun i _ => P.size - (intOf i).toNat)
                case atStart => exact ⟨0, Nat.zero_le _, rfl, fun q hq => by omega, rfl⟩
                case round =>
                  obtain ⟨k, hk, rfl, hkn, rfl⟩ := hrel
                  have Hkn := hide hkn
                  clear hkn
                  have hk0 : (0 : Int) ≤ (k : Int) := by omega
                  by_cases hkl : k < P.size
                  · have hkl' : (k : Int) < (P.size : Int) := by omega
                    have Hbt := hide (byte_is Hp.out hkl)
                    by_cases h61 : P[k] = 61
                    · have h61b : ((P[k].toNat : Int) != 61) = false := by rw [h61]; rfl
                      have hkb : ((k : Int) == (P.size : Int)) = false := by rw [beq_eq_false_iff_ne]; omega
                      have Hcut : Hid (Lib.cut p [61] = (p.take k, p.drop (k + 1), true)) := cut_hit ((index_one (by rw [← Hpl.out]; omega) Hkn.out).2 (by rw [Hbt.out, h61]))
                      have HLit : Hid (litP s p = if (parseT s (Lib.trimSuffix (p.take k) [33])).1 ≠ 0 then ((parseT s (Lib.trimSuffix (p.take k) [33])).1, zeroL) else
                          if (parseT s (p.drop (k + 1))).1 ≠ 0 then ((parseT s (p.drop (k + 1))).1, zeroL) else
                          (0, (Lib.hasSuffix (p.take k) [33], (parseT s (Lib.trimSuffix (p.take k) [33])).2, (parseT s (p.drop (k + 1))).2))) := by
                        rw [Hid, litP, Hcut.out, if_neg (by simp)]
                      have Hxk : Hid ((P.extract 0 k).data.toList = p.take k) := by rw [Hid, Lib.extract_data, Hp.out]; simp
                      have hxs : (P.extract 0 k).size = k := by rw [ba_size Hxk.out, List.length_take, ← Hpl.out]; omega
                      have Hxd : Hid ((P.extract (k + 1) P.size).data.toList = p.drop (k + 1)) := by
                        rw [Hid, Lib.extract_data, Hp.out, List.take_of_length_le (by rw [List.length_drop, Hpl.out]; exact Nat.le_refl _)]
                      have hK1 : (k : Int) + 1 ≤ (P.size : Int) := by omega
                      clear h61 hc
                      go_upto_region 29 with fail
                      generalize hwa : wr.alloc (.cells #[.bool false, .bool false, .int .i64 0, .slice none 0 0, .bool false, .int .i64 0, .slice none 0 0] 44) = wa
                      have HZ : Hid (ZBox wa wr.heap.size false) := by rw [← hwa]; exact zbox_new wr false
                      have hba : Below wr.heap.size wr wa := by rw [← hwa]; exact below_alloc _ _
                      clear hwa
                      obtain ⟨neg, hneg⟩ : ∃ b, Lib.hasSuffix (p.take k) [33] = b := ⟨_, rfl⟩
                      obtain ⟨lc, hlc⟩ : ∃ b, Lib.trimSuffix (p.take k) [33] = b := ⟨_, rfl⟩
                      rw [hneg, hlc] at HLit
                      go_cut [92] (fun s92 wz => s92 = .bool neg ∧ wz = wa)
                      case first =>
                        by_cases hkz : k = 0
                        · have hk1 : ¬ 0 < k := by omega
                          have hk1' : ¬ (0 : Int) < (k : Int) := by omega
                          have hng : neg = false := by rw [← hneg, suffix_is, hkz]; rfl
                          subst hng
                          clear hkz
                          go_wp2_with fail
                          go_meet
                          case rel => exact ⟨rfl, rfl⟩
                        · have hk1 : 0 < k := by omega
                          have hk1' : (0 : Int) < (k : Int) := by omega
                          have hk2 : (0 : Int) ≤ (k : Int) - 1 := by omega
                          have hk3 : (k : Int) - 1 < (k : Int) := by omega
                          have hk4 : k - 1 < (P.extract 0 k).size := by omega
                          have Hb2 := hide (byte_is Hxk.out hk4)
                          have Hsuf : Hid (neg = decide ((P.extract 0 k)[k - 1] = 33)) := by
                            have hlen : (p.take k).length = k := by rw [List.length_take, ← Hpl.out]; omega
                            rw [Hid, ← hneg, suffix_is, hlen, Hb2.out, Bool.eq_iff_iff]
                            simp only [decide_eq_true_eq, Option.some.injEq]
                            exact ⟨fun h => h.2, fun h => ⟨hk1, h⟩⟩
                          by_cases h33 : (P.extract 0 k)[k - 1] = 33
                          · have h33b : (((P.extract 0 k)[k - 1].toNat : Int) == 33) = true := by rw [h33]; rfl
                            have hng : neg = true := by rw [Hsuf.out]; simpa using h33
                            subst hng
                            clear h33 hkz
                            go_wp2_with fail
                            go_meet
                            case rel => exact ⟨rfl, rfl⟩
                          · have h33b : (((P.extract 0 k)[k - 1].toNat : Int) == 33) = false := by
                              rw [beq_eq_false_iff_ne]
                              intro e
                              exact h33 (UInt8.toNat_inj.1 (by have : (P.extract 0 k)[k - 1].toNat = 33 := by omega
                                                               rw [this]; rfl))
                            have hng : neg = false := by rw [Hsuf.out]; simpa using h33
                            subst hng
                            clear h33 hkz
                            go_wp2_with fail
                            go_meet
                            case rel => exact ⟨rfl, rfl⟩
                      case rest =>
                       obtain ⟨rfl, rfl⟩ := hcut
                       generalize wc = wa at *
                       go_upto_if 92 with fail
                       go_cut [15] (fun s15 wz => ∃ L : ByteArray, s15 = .string L ∧ L.data.toList = lc ∧ ZBox wz wr.heap.size neg ∧ Below wr.heap.size wr wz)
                       case first =>
                        cases neg with
                        | false =>
                          have HL : Hid ((P.extract 0 k).data.toList = lc) := by rw [Hid, Hxk.out, ← hlc, trim_is, hneg]; rfl
                          go_wp2_with fail
                          go_meet
                          case rel => exact ⟨P.extract 0 k, rfl, HL.out, HZ.out, hba⟩
                        | true =>
                          have hk1 : 0 < k := by
                            rcases Nat.eq_zero_or_pos k with h | h
                            · rw [h, suffix_is] at hneg; simp at hneg
                            · exact h
                          have hk2 : (0 : Int) ≤ (k : Int) - 1 := by omega
                          have hk3 : (k : Int) - 1 ≤ (k : Int) := by omega
                          obtain ⟨z0, z1', z2', z3', z4', z5', z6', zf, zl⟩ := HZ.out
                          have HL : Hid (((P.extract 0 k).extract 0 (k - 1)).data.toList = lc) := by
                            rw [Hid, Lib.extract_data, Hxk.out, ← hlc, trim_is, hneg, if_pos rfl, List.drop_zero, List.length_take, ← Hpl.out, Nat.min_eq_left (by omega), Nat.sub_zero]
                          go_wp2_with fail
                          go_region
                          all_goals
                            go_wp2_with fail
                            go_meet
                            case rel => exact ⟨(P.extract 0 k).extract 0 (k - 1), rfl, HL.out, HZ.out.set, (hba.setCell (Nat.le_refl _) _).drew⟩
                       case rest =>
                        obtain ⟨L, rfl, hL, hZ, hbz⟩ := hcut
                        generalize wc = wz at *
                        have HZz := hide hZ
                        have HL := hide hL
                        have hBz := hBwx.trans (hbz.mono (Nat.le_trans hB4.size hsx))
                        obtain ⟨⟨er1, ⟨tv, ti⟩, tk⟩, hp1⟩ : ∃ x, parseT s lc = x := ⟨_, rfl⟩
                        obtain ⟨⟨er2, ⟨uv, ui⟩, uk⟩, hp2⟩ : ∃ x, parseT s (p.drop (k + 1)) = x := ⟨_, rfl⟩
                        have hlcl : lc.length ≤ maxLen := by
                          have h1 := trim_len (p := p.take k) (q := [33])
                          rw [hlc, List.length_take] at h1
                          have := Hpl.out
                          unfold maxLen
                          omega
                        have hldl : (p.drop (k + 1)).length ≤ maxLen := by
                          have := Hpl.out
                          rw [List.length_drop]
                          unfold maxLen
                          omega
                        have Hp1 := hide (parseR_call HL.out (HN.out.below hBz) hlcl hp1)
                        have Hp2 := hide (parseR_call Hxd.out (HN.out.below hBz) hldl hp2)
                        rw [hp1, hp2] at HLit
                        clear hp1 hp2 hlcl hldl hL hZ hneg hlc HZ hba
                        go_wp2_with fail
                        refine (Hp1.out _ (Below.refl _ _)).mono ?_
                        rintro e w5 ⟨z1, z2, z3, rfl, hS5, hb5⟩
                        have HS5 := hide hS5
                        simp only at *
                        have hB5 := below_step hBz hb5
                        clear hS5
                        generalize hw6 : w5.alloc (.cells #[.bool tv, .int .i64 ti, .slice z1 z2 z3] 36) = w6
                        have hb6 : Below w5.heap.size w5 w6 := by rw [← hw6]; exact below_alloc _ _
                        have t0 : w6.cell? ⟨w5.heap.size, 0, none⟩ = some (.bool tv) := by rw [← hw6]; exact new_cell rfl
                        have t1 : w6.cell? ⟨w5.heap.size, 1, none⟩ = some (.int .i64 ti) := by rw [← hw6]; exact new_cell rfl
                        have t2 : w6.cell? ⟨w5.heap.size, 2, none⟩ = some (.slice z1 z2 z3) := by rw [← hw6]; exact new_cell rfl
                        have hs6 : w5.heap.size < w6.heap.size := by rw [← hw6]; simp
                        have hB6 := below_step hB5 hb6
                        by_cases he : er1 = 0
                        · subst he
                          rw [if_neg (by simp)] at HLit
                          go_upto_region 34 with fail
                          try rw [hw6]
                          clear hw6
                          go_wp2_with fail
                          refine (Hp2.out _ (below_step hb5 hb6)).mono ?_
                          rintro e w7 ⟨y1, y2, y3, rfl, hS7, hb7⟩
                          have HS7 := hide hS7
                          simp only at *
                          clear hS7
                          generalize hw8 : w7.alloc (.cells #[.bool uv, .int .i64 ui, .slice y1 y2 y3] 36) = w8
                          have hb8 : Below w7.heap.size w7 w8 := by rw [← hw8]; exact below_alloc _ _
                          have x0 : w8.cell? ⟨w7.heap.size, 0, none⟩ = some (.bool uv) := by rw [← hw8]; exact new_cell rfl
                          have x1 : w8.cell? ⟨w7.heap.size, 1, none⟩ = some (.int .i64 ui) := by rw [← hw8]; exact new_cell rfl
                          have x2 : w8.cell? ⟨w7.heap.size, 2, none⟩ = some (.slice y1 y2 y3) := by rw [← hw8]; exact new_cell rfl
                          have hs8 : w7.heap.size < w8.heap.size := by rw [← hw8]; simp
                          have hb68 := below_step hb7 hb8
                          have v0 := grow_cell hb68 _ _ t0
                          have v1 := grow_cell hb68 _ _ t1
                          have v2 := grow_cell hb68 _ _ t2
                          have hb58 := below_step hb6 hb68
                          have hbz8 := below_step hb5 hb58
                          have HZ8 := hide (HZz.out.below hbz8)
                          have hB8 := below_step hB6 hb68
                          clear t0 t1 t2
                          by_cases he : er2 = 0
                          · subst he
                            rw [if_neg (by simp)] at HLit
                            go_upto_region 37 with fail
                            try rw [hw8]
                            clear hw8
                            have hlz := HZz.out.lt
                            have q5 := hb5.size
                            have q6 := hb6.size
                            have q7 := hb7.size
                            have hn5 : w5.heap.size ≠ wr.heap.size := by omega
                            have hn5' : wr.heap.size ≠ w5.heap.size := by omega
                            have hn7 : w7.heap.size ≠ wr.heap.size := by omega
                            have hn7' : wr.heap.size ≠ w7.heap.size := by omega
                            obtain ⟨g0, g1, g2, g3, g4, g5, g6, gf, gl⟩ := HZ8.out
                            go_region
                            all_goals
                              go_upto_region 38 with fail
                              generalize hw9 : ((((((w8.setCell ⟨wr.heap.size, 1, none⟩ (.bool tv)).setCell ⟨wr.heap.size, 2, none⟩ (.int .i64 ti)).setCell ⟨wr.heap.size, 3, none⟩ (.slice z1 z2 z3)).setCell ⟨wr.heap.size, 4, none⟩ (.bool uv)).setCell ⟨wr.heap.size, 5, none⟩ (.int .i64 ui)).setCell ⟨wr.heap.size, 6, none⟩ (.slice y1 y2 y3)).drew = w9
                              have e9 : w9 = (setL w8 wr.heap.size 1 [.bool tv, .int .i64 ti, .slice z1 z2 z3, .bool uv, .int .i64 ui, .slice y1 y2 y3]).drew := hw9.symm
                              have hbr8 : Below wr.heap.size wr w8 := hbz.trans (hbz8.mono (by omega))
                              have hb9 : Below wr.heap.size wr w9 := by rw [e9]; exact (setL_below (Nat.le_refl _) hbr8).drew
                              have at6 := setL_at (b := wr.heap.size) (xs := [.bool tv, .int .i64 ti, .slice z1 z2 z3, .bool uv, .int .i64 ui, .slice y1 y2 y3]) (o := 1) (w := w8) (fun i hi => by
                                simp at hi
                                rcases i with _ | _ | _ | _ | _ | _ | i
                                · exact ⟨_, g1⟩
                                · exact ⟨_, g2⟩
                                · exact ⟨_, g3⟩
                                · exact ⟨_, g4⟩
                                · exact ⟨_, g5⟩
                                · exact ⟨_, g6⟩
                                · omega)
                              have k0 : w9.cell? ⟨wr.heap.size, 0, none⟩ = some (.bool neg) := by rw [e9, dcell, setL_other (.inr (.inl (by omega)))]; exact g0
                              have k1 : w9.cell? ⟨wr.heap.size, 1, none⟩ = some (.bool tv) := by rw [e9, dcell]; exact at6 0 _ rfl
                              have k2 : w9.cell? ⟨wr.heap.size, 2, none⟩ = some (.int .i64 ti) := by rw [e9, dcell]; exact at6 1 _ rfl
                              have k3 : w9.cell? ⟨wr.heap.size, 3, none⟩ = some (.slice z1 z2 z3) := by rw [e9, dcell]; exact at6 2 _ rfl
                              have k4 : w9.cell? ⟨wr.heap.size, 4, none⟩ = some (.bool uv) := by rw [e9, dcell]; exact at6 3 _ rfl
                              have k5 : w9.cell? ⟨wr.heap.size, 5, none⟩ = some (.int .i64 ui) := by rw [e9, dcell]; exact at6 4 _ rfl
                              have k6 : w9.cell? ⟨wr.heap.size, 6, none⟩ = some (.slice y1 y2 y3) := by rw [e9, dcell]; exact at6 5 _ rfl
                              have s9 : w9.heap.size = w8.heap.size := by rw [e9, dheap, setL_size]
                              have q8 := hb8.size
                              have HA9 : Hid (SB (fun q => wr.heap.size ≤ q ∧ q < w9.heap.size) w9 tk (.slice z1 z2 z3)) := HS5.out.frame (fun q hq => ⟨by have := hq.1; omega, by have := hq.2; omega⟩) (fun q i hq => by
                                have h1 := hq.1
                                have h2 := hq.2
                                rw [e9, dcell, setL_other (.inl (by omega))]
                                exact hb58.cell h2)
                              have HD9 : Hid (SB (fun q => wr.heap.size ≤ q ∧ q < w9.heap.size) w9 uk (.slice y1 y2 y3)) := HS7.out.frame (fun q hq => ⟨by have := hq.1; omega, by have := hq.2; omega⟩) (fun q i hq => by
                                have h1 := hq.1
                                have h2 := hq.2
                                rw [e9, dcell, setL_other (.inl (by omega))]
                                exact hb8.cell h2)
                              clear s9 at6 e9 hw9 g0 g1 g2 g3 g4 g5 g6 gf
                              have hm1 : out.length + 1 ≤ maxLen := by unfold maxLen; omega
                              have hm2 : (out.length + 1) * 88 ≤ 140737488355328 := by omega
                              have hbo : ∀ ob, Below wr.heap.size wr (w9.alloc ob) := fun ob => below_step hb9 (below_alloc _ _)
                              go_wp2_with (at_builtin; refine wpList_append_gen rfl (.tmp 123) (.tmp 125) 25 rfl w4.heap.size 44 iL (.agg #[.bool false, .bool false, .int .i64 0, .slice none 0 0, .bool false, .int .i64 0, .slice none 0 0]) 7 88 Tryz.underlying25 hiL hl0 hl1 hl2 rfl (by decide) (.slice o1 out.length o3) out.length xs rfl (OwnL.below HOw.out (hbo _)).row _ 1 (litV (neg, ((tv, ti), tk), ((uv, ui), uk)) (.slice z1 z2 z3) (.slice y1 y2 y3)) rfl cs_lit hm1 hm2 (Nat.le_trans hsx (hbo _).size) ?_; intro vA wA hoA hgA hatA)
                              obtain ⟨hO4, hBA⟩ := ownL_more2 (l := (neg, ((tv, ti), tk), ((uv, ui), uk))) HOw.out (hbo _) hsx ((HA9.out.frame (fun q hq => ⟨hq.1, by simp; have := hq.2; omega⟩) (fun q i hq => (below_alloc _ _).cell hq.2))) ((HD9.out.frame (fun q hq => ⟨hq.1, by simp; have := hq.2; omega⟩) (fun q i hq => (below_alloc _ _).cell hq.2))) hoA hgA hatA
                              obtain ⟨c1, c3, rfl⟩ := slice_of_cl hO4.cl
                              have HR : Hid (RLRel w4 s (full l) (j + 1) (.slice c1 (out ++ [(neg, ((tv, ti), tk), ((uv, ui), uk))]).length c3) wA) := by
                                refine ⟨_, _, ?_, fun q hq a ha => ?_, hO4, hBx.trans hBA, c1, c3, rfl⟩
                                · rw [List.take_add_one, Hfl.out, List.map_append, ← Hout.out]
                                  simp [HLit.out]
                                · by_cases e : q = j
                                  · subst e; rw [Hfl.out] at ha; cases ha; rw [HLit.out]
                                  · exact Hno.out q (by omega) a ha
                              clear hO4 hoA hgA hatA hBA
                              go_wp2_with fail
                              go_roundw
                              case rel => exact ⟨j + 1, by omega, by go_num, HR.out⟩
                              case measure => simp [intOf]; omega
                          · rw [if_pos he] at HLit
                            have heb : (er2 != 0) = true := by simp [he]
                            have Hf : Hid (parseC s l = (er2, [])) := by
                              have h1 := litsP_at Hno.out Hfl.out (by rw [HLit.out]; exact he)
                              rw [HLit.out] at h1
                              rw [Hid, Hpc2.out, h1, if_pos he]
                            clear he
                            go_upto_region 35 with fail
                            try rw [hw8]
                            clear hw8
                            go_wp2_with fail
                            go_ret2
                            exact parse_post Hf.out hB8
                        · rw [if_pos he] at HLit
                          have heb : (er1 != 0) = true := by simp [he]
                          have Hf : Hid (parseC s l = (er1, [])) := by
                            have h1 := litsP_at Hno.out Hfl.out (by rw [HLit.out]; exact he)
                            rw [HLit.out] at h1
                            rw [Hid, Hpc2.out, h1, if_pos he]
                          clear he
                          go_upto_region 32 with fail
                          try rw [hw6]
                          clear hw6
                          go_wp2_with fail
                          go_ret2
                          exact parse_post Hf.out hB6
                    · have h61b : ((P[k].toNat : Int) != 61) = true := by
                        rw [bne_iff_ne]
                        intro e
                        exact h61 (UInt8.toNat_inj.1 (by have : P[k].toNat = 61 := by omega
                                                         rw [this]; rfl))
                      have Hkn2 : Hid (∀ q, q < k + 1 → p[q]? ≠ some 61) := fun q hq e => by
                        by_cases hqk : q = k
                        · rw [hqk, Hbt.out] at e; exact h61 (Option.some.inj e)
                        · exact Hkn.out q (by omega) e
                      clear h61
                      go_wp2_with fail
                      go_roundw
                      case rel => exact ⟨k + 1, by omega, by go_num, Hkn2.out, trivial⟩
                      case measure => simp [intOf]; omega
                  · have hke : k = P.size := by omega
                    have hkb : ((k : Int) == (P.size : Int)) = true := by rw [beq_iff_eq]; omega
                    have Hf : Hid (parseC s l = (2, [])) := by
                      have h0 : litP s p = (2, zeroL) := by
                        rw [litP, cut_miss ((index_one (by rw [← Hpl.out]; omega) Hkn.out).1 (by rw [← Hpl.out]; exact hke)), if_pos rfl]
                      have h1 := litsP_at Hno.out Hfl.out (by rw [h0]; decide)
                      rw [h0] at h1
                      rw [Hid, Hpc2.out, h1, if_pos (by decide)]
                    go_wp2_with fail
                    go_ret2
                    exact parse_post Hf.out hBwx
              · have hje : j = Qs.length := by omega
                have hfl : (full l).length = Qs.length := by rw [← HQd.out, List.length_map]
                have Hf : Hid (parseC s l = (0, out)) := by
                  have h1 : litsP s (full l) = 0 := litsP_iff.2 fun p hp => by
                    obtain ⟨i, hi, e⟩ := List.mem_iff_getElem.1 hp
                    exact Hno.out i (by omega) p (by rw [List.getElem?_eq_getElem hi, e])
                  rw [Hid, Hpc2.out, if_neg (by simp [h1]), Hout.out, hje, ← hfl, List.take_length]
                have Hfin := hide HOw.out.cl
                clear hfl
                go_wp2_with fail
                go_ret2
                exact ⟨o1, out.length, o3, by rw [Hf.out]; rfl, by rw [Hf.out]; exact Hfin.out, hBwx⟩
  · have Hf : Hid (parseC s l = (wsig s, [])) := by rw [Hid, parseC, if_pos hw]
    have heb : (wsig s != 0) = true := by simp [hw]
    generalize wsig s = er at *
    clear hw
    go_wp2_with fail
    go_ret2
    exact parse_post Hf.out (Below.refl _ _)

end Go.Proofs.YtfckelbdageenabGreatDoor

namespace Go.Proofs.YtfckelbdageenabGreatDoor
open Go.RowKit Go.Deep Go.ChangeShapes Go.WideShapes

/-- A closure answers g of a term, wherever G says so, in whatever has come of W0. -/
def CloSaid (f bb : Nat) (g : Tm → Tm) (G : Tm → Prop) (W0 : World) : Prop := ∀ (x : Bool × Int) (k : Fo) (a : Value) (w : World), Below W0.heap.size W0 w → SIn W0 k a → G (x, k) →
    Calls Tryz.prog f #[.agg #[.bool x.1, .int .i64 x.2, a], .pointer (some ⟨bb, 0, none⟩)] w fun e w' => ∃ (a1 : Option Addr) (a2 a3 : Nat), e = .returned (.agg #[.bool (g (x, k)).1.1, .int .i64 (g (x, k)).1.2, .slice a1 a2 a3]) ∧
      SB (fun q => q < W0.heap.size ∨ (w.heap.size ≤ q ∧ q < w'.heap.size)) w' (g (x, k)).2 (.slice a1 a2 a3) ∧ Below w.heap.size w w'

theorem grown_cell {w w' : World} {o : Option Nat} {q i : Nat} {v : Value} (hg : w.grownBy w' o) (hn : some q ≠ o) (h : w.cell? ⟨q, i, none⟩ = some v) : w'.cell? ⟨q, i, none⟩ = some v := by
  rw [World.cell?_of_block (hg.block q (World.block_lt_of_cell? _ _ h) hn)]
  exact h

theorem ret_boxB {w w3 : World} {z1 : Option Addr} {z2 z3 : Nat} {tv : Bool} {tn : Int} {tk : Fo} {L lo g : Nat} (hO : SB (fun q => q < L ∨ (lo ≤ q ∧ q < w3.heap.size)) w3 tk (.slice z1 z2 z3)) (hL : L ≤ g) (hg : g < lo) (hlo : w.heap.size ≤ lo) :
    SB (fun q => q < L ∨ (w.heap.size ≤ q ∧ q < (set3 w3 g 0 (.bool tv) (.int .i64 tn) (.slice z1 z2 z3)).heap.size)) (set3 w3 g 0 (.bool tv) (.int .i64 tn) (.slice z1 z2 z3)) tk (.slice z1 z2 z3) := by
  refine hO.frame (fun q hq => ?_) (fun q i hq => set3_other (.inl (by omega)))
  rw [set3_size]
  omega

/-- One literal more: what it holds was there at the call, or was made since. -/
theorem ownL_more3 {lo : Nat} {wr w3 w4 : World} {s : Cl} {v v4 : Value} {xs : List Value} {l : Lt} {a d : Value} (h : OwnL lo (XO wr v) wr s v xs) (hb : Below wr.heap.size wr w3) (hlo : lo ≤ wr.heap.size)
    (hA : SB (fun q => q < lo ∨ (wr.heap.size ≤ q ∧ q < w3.heap.size)) w3 l.2.1.2 a) (hD : SB (fun q => q < lo ∨ (wr.heap.size ≤ q ∧ q < w3.heap.size)) w3 l.2.2.2 d)
    (ho : w4.ownsRow lo 44 7 v4 (s.length + 1) (xs ++ litV l a d)) (hg : w3.grownBy w4 v.ownBlock) (hat : v4.ownBlock = v.ownBlock ∨ v4.ownBlock = some w3.heap.size) :
    OwnL lo (XO w4 v4) w4 (s ++ [l]) v4 (xs ++ litV l a d) ∧ Below lo wr w4 := by
  have hs := hb.size
  have hs4 := hg.size
  have hv : ∀ q, v.ownBlock = some q → lo ≤ q ∧ q < wr.heap.size := fun q hq => owns_at h.row q hq
  have noq : ∀ q, q < w3.heap.size → some q ≠ v.ownBlock → q < w4.heap.size ∧ some q ≠ v4.ownBlock := fun q hq hn => by
    refine ⟨by omega, fun e => ?_⟩
    rcases hat with e' | e'
    · exact hn (e.trans e')
    · rw [e'] at e; simp at e; omega
  have ok : ∀ q, (q < lo ∨ (wr.heap.size ≤ q ∧ q < w3.heap.size)) → q < w3.heap.size ∧ some q ≠ v.ownBlock := fun q hq => by
    refine ⟨by omega, fun e => ?_⟩
    have := hv q e.symm
    omega
  refine ⟨⟨by simpa using ho, ?_, fun q hq => hq⟩, ⟨hg.os.trans hb.os, hg.tape.trans hb.tape, hg.output.trans hb.output, by omega, fun q hq => ?_⟩⟩
  · refine LC.append (LC.one ?_ ?_) ?_
    · exact hA.frame (fun q hq => noq q (ok q hq).1 (ok q hq).2) (fun q i hq => World.cell?_of_block (hg.block q (ok q hq).1 (ok q hq).2))
    · exact hD.frame (fun q hq => noq q (ok q hq).1 (ok q hq).2) (fun q i hq => World.cell?_of_block (hg.block q (ok q hq).1 (ok q hq).2))
    · refine h.cells.frame (fun q hq => noq q (by have := hq.1; omega) hq.2) (fun q i hq => World.cell?_of_block ?_)
      rw [hg.block q (by have := hq.1; omega) hq.2, hb.block q hq.1]
  · have hn : some q ≠ v.ownBlock := fun e => by have := hv q e.symm; omega
    rw [hg.block q (by omega) hn, hb.block q (by omega)]

set_option maxRecDepth 100000 in
set_option maxHeartbeats 4000000 in
theorem eachD1_any (bb : Nat) (g : Tm → Tm) (G : Tm → Prop) (k : Cl) (a : Value) (w : World) (hcl : CloSaid 24 bb g G w) (hS : CIn w k a) (hG : ∀ l ∈ k, G l.2.1 ∧ G l.2.2) (hlen : k.length ≤ 1000000) :
    Calls Tryz.prog 23 #[a, .func (.func 24) #[] #[.pointer (some ⟨bb, 0, none⟩)]] w fun e w' => ∃ v xs, e = .returned v ∧ OwnL w.heap.size (XO w' v) w' (k.map (mapL g)) v xs ∧ Below w.heap.size w w' := by
  obtain ⟨a1, c1, b1, oo, rfl, had1, hlc1, hcm1, hF1⟩ := hS
  unfold maxLen at hcm1
  have HF1 := hide hF1
  have HG := hide hG
  have Hcl := hide hcl
  clear hF1 hG hcl
  obtain ⟨iL, hi, hz0, hz1, hz2⟩ := info_parts Tryz.info44
  go_enter Tryz.func23, Tryz.ntmps23
  go_wp2_with fail
  go_loopw [5, 10] (fun v i wr => ∃ (j : Nat) (o1 : Option Addr) (o3 : Nat) (xs : List Value), j ≤ k.length ∧ i = .int .i64 j ∧ v = .slice o1 j o3 ∧ OwnL w.heap.size (XO wr v) wr ((k.map (mapL g)).take j) v xs ∧ Below w.heap.size w wr) (fun _ i _ => k.length - (intOf i).toNat)
  case atStart => exact ⟨0, none, 0, [], Nat.zero_le _, rfl, rfl, ownL_nil _ _, Below.refl _ _⟩
  case round =>
    obtain ⟨j, o1, o3, xs, hj, rfl, rfl, hO, hBr⟩ := hrel
    have HO := hide hO
    clear hO
    have hsr := hBr.size
    by_cases hlt : j < k.length
    · have hlt' : (j : Int) < (k.length : Int) := by omega
      obtain ⟨⟨yn, ⟨⟨yv, yi⟩, yk⟩, ⟨yv', yi'⟩, yk'⟩, hy⟩ : ∃ y, k[j]? = some y := ⟨k[j]'hlt, by simp⟩
      obtain ⟨-, -, -, ⟨u3', p3', hA0⟩, -, -, u6', p6', hD0⟩ := HF1.out.at hy
      obtain ⟨p0, p1, p2, ⟨u3, p3, hA⟩, p4, p5, u6, p6, hD⟩ := (HF1.out.below hBr).at hy
      have e3 : u3' = u3 := by have := grow_cell hBr _ _ p3'; rw [p3] at this; exact (Option.some.inj this).symm
      have e6 : u6' = u6 := by have := grow_cell hBr _ _ p6'; rw [p6] at this; exact (Option.some.inj this).symm
      subst e3 e6
      have ha1 : a1 = some ⟨b1, oo, none⟩ := had1 (by omega)
      subst ha1
      have HA0 := hide hA0
      have HD0 := hide hD0
      obtain ⟨ya, yc, _, _, rfl, -, -, -, -⟩ := hA
      obtain ⟨za, zc, _, _, rfl, -, -, -, -⟩ := hD
      have HGy := hide (HG.out _ (List.mem_of_getElem? hy))
      obtain ⟨⟨⟨tv, ti⟩, tk⟩, ht⟩ : ∃ t, t = g ((yv, yi), yk) := ⟨_, rfl⟩
      obtain ⟨⟨⟨tv', ti'⟩, tk'⟩, ht'⟩ : ∃ t, t = g ((yv', yi'), yk') := ⟨_, rfl⟩
      have Hy2 : Hid ((k.map (mapL g)).take (j + 1) = (k.map (mapL g)).take j ++ [(yn, ((tv, ti), tk), ((tv', ti'), tk'))]) := by
        rw [Hid, List.take_add_one, List.getElem?_map, hy, ht, ht']; rfl
      have Hl : Hid (((k.map (mapL g)).take j).length = j) := by rw [Hid, List.length_take, List.length_map]; omega
      have Ht := hide ht
      have Ht' := hide ht'
      have hn1 : j + 1 ≤ maxLen := by unfold maxLen; omega
      have hn2 : (j + 1) * 88 ≤ 140737488355328 := by omega
      have Hrow : Hid (wr.ownsRow w.heap.size 44 7 (.slice o1 j o3) j xs) := by
        have := HO.out.row
        rw [Hl.out] at this
        exact this
      have hnq : some wr.heap.size ≠ (Value.slice o1 j o3).ownBlock := fun e => by
        have := (owns_at Hrow.out _ e.symm).2
        omega
      clear hy had1 p3' p6' hA0 hD0 ht ht'
      simp only at *
      go_upto_region 5 with fail
      generalize hwa : wr.alloc (.cells #[.bool yn, .bool yv, .int .i64 yi, .slice ya (Fo.len yk) yc, .bool yv', .int .i64 yi', .slice za (Fo.len yk') zc] 44) = wa
      obtain ⟨g0, g1, g2, g3, g4, g5, g6, -, hba, hsa⟩ := lit_cells (T := 44) (x0 := .bool yn) (w := wr) (wr := wa) (x1 := .bool yv) (x2 := .int .i64 yi) (x3 := .slice ya (Fo.len yk) yc) (x4 := .bool yv') (x5 := .int .i64 yi') (x6 := .slice za (Fo.len yk') zc) (by rw [← hwa]; exact Below.refl _ _)
      clear hwa
      have hcur : Below wa.heap.size wa wa.drew := (Below.refl _ _).drew
      have hcall1 : ∀ w' : World, Below wa.heap.size wa w' → Calls Tryz.prog 24 #[.agg #[.bool yv, .int .i64 yi, .slice ya (Fo.len yk) yc], .pointer (some ⟨bb, 0, none⟩)] w' fun e w'' => ∃ (z1 : Option Addr) (z2 z3 : Nat), e = .returned (.agg #[.bool tv, .int .i64 ti, .slice z1 z2 z3]) ∧ SB (fun q => q < w.heap.size ∨ (w'.heap.size ≤ q ∧ q < w''.heap.size)) w'' tk (.slice z1 z2 z3) ∧ Below w'.heap.size w' w'' := fun w' hb => by
        refine (Hcl.out (yv, yi) yk _ w' (below_step (below_step hBr hba) hb) HA0.out HGy.out.1).mono ?_
        rintro e w2 ⟨z1, z2, z3, rfl, hO, hb⟩
        rw [← Ht.out] at hO
        exact ⟨z1, z2, z3, by rw [← Ht.out], hO, hb⟩
      have hcall2 : ∀ w' : World, Below wa.heap.size wa w' → Calls Tryz.prog 24 #[.agg #[.bool yv', .int .i64 yi', .slice za (Fo.len yk') zc], .pointer (some ⟨bb, 0, none⟩)] w' fun e w'' => ∃ (z1 : Option Addr) (z2 z3 : Nat), e = .returned (.agg #[.bool tv', .int .i64 ti', .slice z1 z2 z3]) ∧ SB (fun q => q < w.heap.size ∨ (w'.heap.size ≤ q ∧ q < w''.heap.size)) w'' tk' (.slice z1 z2 z3) ∧ Below w'.heap.size w' w'' := fun w' hb => by
        refine (Hcl.out (yv', yi') yk' _ w' (below_step (below_step hBr hba) hb) HD0.out HGy.out.2).mono ?_
        rintro e w2 ⟨z1, z2, z3, rfl, hO, hb⟩
        rw [← Ht'.out] at hO
        exact ⟨z1, z2, z3, by rw [← Ht'.out], hO, hb⟩
      have Hc1 := hide hcall1
      have Hc2 := hide hcall2
      clear hcall1 hcall2 p0 p1 p2 p3 p4 p5 p6
      go_region_held3 (fun w' => w'.cell? ⟨wr.heap.size, 0, none⟩ = some (.bool yn) ∧ w'.cell? ⟨wr.heap.size, 1, none⟩ = some (.bool yv) ∧ w'.cell? ⟨wr.heap.size, 2, none⟩ = some (.int .i64 yi) ∧ w'.cell? ⟨wr.heap.size, 3, none⟩ = some (.slice ya (Fo.len yk) yc) ∧ w'.cell? ⟨wr.heap.size, 4, none⟩ = some (.bool yv') ∧ w'.cell? ⟨wr.heap.size, 5, none⟩ = some (.int .i64 yi') ∧ w'.cell? ⟨wr.heap.size, 6, none⟩ = some (.slice za (Fo.len yk') zc))
        (first
          | (with_reducible exact ⟨grow_cell hcur _ _ g0, grow_cell hcur _ _ g1, grow_cell hcur _ _ g2, grow_cell hcur _ _ g3, grow_cell hcur _ _ g4, grow_cell hcur _ _ g5, grow_cell hcur _ _ g6⟩)
          | (with_reducible exact ⟨grow_cell (below_step hcur (below_alloc _ _)) _ _ g0, grow_cell (below_step hcur (below_alloc _ _)) _ _ g1, grow_cell (below_step hcur (below_alloc _ _)) _ _ g2, grow_cell (below_step hcur (below_alloc _ _)) _ _ g3, grow_cell (below_step hcur (below_alloc _ _)) _ _ g4, grow_cell (below_step hcur (below_alloc _ _)) _ _ g5, grow_cell (below_step hcur (below_alloc _ _)) _ _ g6⟩)
          | (with_reducible exact ⟨grown_cell HG4.out.2.1 hnq (grow_cell (below_step hcur (below_alloc _ _)) _ _ g0), grown_cell HG4.out.2.1 hnq (grow_cell (below_step hcur (below_alloc _ _)) _ _ g1), grown_cell HG4.out.2.1 hnq (grow_cell (below_step hcur (below_alloc _ _)) _ _ g2), grown_cell HG4.out.2.1 hnq (grow_cell (below_step hcur (below_alloc _ _)) _ _ g3), grown_cell HG4.out.2.1 hnq (grow_cell (below_step hcur (below_alloc _ _)) _ _ g4), grown_cell HG4.out.2.1 hnq (grow_cell (below_step hcur (below_alloc _ _)) _ _ g5), grown_cell HG4.out.2.1 hnq (grow_cell (below_step hcur (below_alloc _ _)) _ _ g6)⟩)
          | go_keep)
        (first
          | (go_at_call 24; with_reducible refine (Hc1.out _ hcur).mono ?_; rintro e wS ⟨z1, z2, z3, rfl, hO1, hbS⟩; have hcur0 := hcur; replace hcur := below_step hcur hbS; have HO1 := hide (And.intro hO1 hbS); clear hO1)
          | (go_at_call 24; with_reducible refine (Hc2.out _ hcur).mono ?_; rintro e wU ⟨y1, y2, y3, rfl, hO2, hbU⟩; have hcurS := hcur; replace hcur := below_step hcur hbU; have HO2 := hide (And.intro hO2 hbU); clear hO2)
          | (refine step_append_gen rfl (.tmp 14) (.tmp 26) 25 rfl w.heap.size 44 iL (.agg #[.bool false, .bool false, .int .i64 0, .slice none 0 0, .bool false, .int .i64 0, .slice none 0 0]) 7 88 Tryz.underlying25 hi hz0 hz1 hz2 rfl (by decide) (.slice o1 j o3) j xs rfl (owns_keep Hrow.out (fun g hg => (below_step (below_step hba hcur) (below_alloc _ _)).block g (owns_at Hrow.out g hg).2)) _ 1 (litV (yn, ((tv, ti), tk), ((tv', ti'), tk')) (.slice z1 z2 z3) (.slice y1 y2 y3)) rfl cs_lit hn1 hn2 (Nat.le_trans hsr (below_step (below_step hba hcur) (below_alloc _ _)).size) ?_; intro v4 w4 ho4 hg4 hat4; have HG4 := hide (And.intro ho4 (And.intro hg4 hat4)); clear ho4 hg4 hat4))
      all_goals
        have s0 := hcur0.size
        have s1 := hba.size
        have s2 := hcurS.size
        have s3 := HO1.out.2.size
        have s4 := HO2.out.2.size
        have Hstep : Hid (OwnL w.heap.size (XO w4 v4) w4 ((k.map (mapL g)).take (j + 1)) v4 (xs ++ litV (yn, ((tv, ti), tk), ((tv', ti'), tk')) (.slice z1 z2 z3) (.slice y1 y2 y3)) ∧ Below w.heap.size wr w4) := by
          rw [Hy2.out]
          refine ownL_more3 (l := (yn, ((tv, ti), tk), ((tv', ti'), tk'))) HO.out (below_step (below_step hba hcur) (below_alloc _ _)) hsr ?_ ?_ (by rw [Hl.out]; exact HG4.out.1) HG4.out.2.1 HG4.out.2.2
          · refine HO1.out.1.frame (fun q hq => ?_) (fun q i hq => (below_step HO2.out.2 (below_alloc _ _)).cell ?_)
            · simp only [World.size_alloc]
              omega
            · show q < _
              omega
          · refine HO2.out.1.frame (fun q hq => ?_) (fun q i hq => (below_alloc _ _).cell ?_)
            · simp only [World.size_alloc]
              omega
            · show q < _
              omega
        obtain ⟨r1, r3, hv4⟩ := slice_of_cl Hstep.out.1.cl
        have hl1 : ((k.map (mapL g)).take (j + 1)).length = j + 1 := by rw [Hy2.out, List.length_append, Hl.out]; rfl
        rw [hl1] at hv4
        subst hv4
        clear hl1
        go_wp2_with fail
        go_roundw
        case rel => exact ⟨j + 1, r1, r3, _, by omega, by go_num, rfl, Hstep.out.1, hBr.trans Hstep.out.2⟩
        case measure => simp [intOf]; omega
    · have hje : j = k.length := by omega
      subst hje
      have Hfin : Hid (OwnL w.heap.size (XO wr (.slice o1 k.length o3)) wr (k.map (mapL g)) (.slice o1 k.length o3) xs) := by
        have := HO.out
        rw [List.take_of_length_le (by simp)] at this
        exact this
      clear HO
      go_wp2_with fail
      go_ret
      exact ⟨_, _, rfl, Hfin.out, hBr⟩

set_option maxRecDepth 100000 in
set_option maxHeartbeats 4000000 in
theorem eachD2_any (bb : Nat) (g : Tm → Tm) (G : Tm → Prop) (k : Cl) (a : Value) (w : World) (hcl : CloSaid 27 bb g G w) (hS : CIn w k a) (hG : ∀ l ∈ k, G l.2.1 ∧ G l.2.2) (hlen : k.length ≤ 1000000) :
    Calls Tryz.prog 23 #[a, .func (.func 27) #[] #[.pointer (some ⟨bb, 0, none⟩)]] w fun e w' => ∃ v xs, e = .returned v ∧ OwnL w.heap.size (XO w' v) w' (k.map (mapL g)) v xs ∧ Below w.heap.size w w' := by
  obtain ⟨a1, c1, b1, oo, rfl, had1, hlc1, hcm1, hF1⟩ := hS
  unfold maxLen at hcm1
  have HF1 := hide hF1
  have HG := hide hG
  have Hcl := hide hcl
  clear hF1 hG hcl
  obtain ⟨iL, hi, hz0, hz1, hz2⟩ := info_parts Tryz.info44
  go_enter Tryz.func23, Tryz.ntmps23
  go_wp2_with fail
  go_loopw [5, 10] (fun v i wr => ∃ (j : Nat) (o1 : Option Addr) (o3 : Nat) (xs : List Value), j ≤ k.length ∧ i = .int .i64 j ∧ v = .slice o1 j o3 ∧ OwnL w.heap.size (XO wr v) wr ((k.map (mapL g)).take j) v xs ∧ Below w.heap.size w wr) (fun _ i _ => k.length - (intOf i).toNat)
  case atStart => exact ⟨0, none, 0, [], Nat.zero_le _, rfl, rfl, ownL_nil _ _, Below.refl _ _⟩
  case round =>
    obtain ⟨j, o1, o3, xs, hj, rfl, rfl, hO, hBr⟩ := hrel
    have HO := hide hO
    clear hO
    have hsr := hBr.size
    by_cases hlt : j < k.length
    · have hlt' : (j : Int) < (k.length : Int) := by omega
      obtain ⟨⟨yn, ⟨⟨yv, yi⟩, yk⟩, ⟨yv', yi'⟩, yk'⟩, hy⟩ : ∃ y, k[j]? = some y := ⟨k[j]'hlt, by simp⟩
      obtain ⟨-, -, -, ⟨u3', p3', hA0⟩, -, -, u6', p6', hD0⟩ := HF1.out.at hy
      obtain ⟨p0, p1, p2, ⟨u3, p3, hA⟩, p4, p5, u6, p6, hD⟩ := (HF1.out.below hBr).at hy
      have e3 : u3' = u3 := by have := grow_cell hBr _ _ p3'; rw [p3] at this; exact (Option.some.inj this).symm
      have e6 : u6' = u6 := by have := grow_cell hBr _ _ p6'; rw [p6] at this; exact (Option.some.inj this).symm
      subst e3 e6
      have ha1 : a1 = some ⟨b1, oo, none⟩ := had1 (by omega)
      subst ha1
      have HA0 := hide hA0
      have HD0 := hide hD0
      obtain ⟨ya, yc, _, _, rfl, -, -, -, -⟩ := hA
      obtain ⟨za, zc, _, _, rfl, -, -, -, -⟩ := hD
      have HGy := hide (HG.out _ (List.mem_of_getElem? hy))
      obtain ⟨⟨⟨tv, ti⟩, tk⟩, ht⟩ : ∃ t, t = g ((yv, yi), yk) := ⟨_, rfl⟩
      obtain ⟨⟨⟨tv', ti'⟩, tk'⟩, ht'⟩ : ∃ t, t = g ((yv', yi'), yk') := ⟨_, rfl⟩
      have Hy2 : Hid ((k.map (mapL g)).take (j + 1) = (k.map (mapL g)).take j ++ [(yn, ((tv, ti), tk), ((tv', ti'), tk'))]) := by
        rw [Hid, List.take_add_one, List.getElem?_map, hy, ht, ht']; rfl
      have Hl : Hid (((k.map (mapL g)).take j).length = j) := by rw [Hid, List.length_take, List.length_map]; omega
      have Ht := hide ht
      have Ht' := hide ht'
      have hn1 : j + 1 ≤ maxLen := by unfold maxLen; omega
      have hn2 : (j + 1) * 88 ≤ 140737488355328 := by omega
      have Hrow : Hid (wr.ownsRow w.heap.size 44 7 (.slice o1 j o3) j xs) := by
        have := HO.out.row
        rw [Hl.out] at this
        exact this
      have hnq : some wr.heap.size ≠ (Value.slice o1 j o3).ownBlock := fun e => by
        have := (owns_at Hrow.out _ e.symm).2
        omega
      clear hy had1 p3' p6' hA0 hD0 ht ht'
      simp only at *
      go_upto_region 5 with fail
      generalize hwa : wr.alloc (.cells #[.bool yn, .bool yv, .int .i64 yi, .slice ya (Fo.len yk) yc, .bool yv', .int .i64 yi', .slice za (Fo.len yk') zc] 44) = wa
      obtain ⟨g0, g1, g2, g3, g4, g5, g6, -, hba, hsa⟩ := lit_cells (T := 44) (x0 := .bool yn) (w := wr) (wr := wa) (x1 := .bool yv) (x2 := .int .i64 yi) (x3 := .slice ya (Fo.len yk) yc) (x4 := .bool yv') (x5 := .int .i64 yi') (x6 := .slice za (Fo.len yk') zc) (by rw [← hwa]; exact Below.refl _ _)
      clear hwa
      have hcur : Below wa.heap.size wa wa.drew := (Below.refl _ _).drew
      have hcall1 : ∀ w' : World, Below wa.heap.size wa w' → Calls Tryz.prog 27 #[.agg #[.bool yv, .int .i64 yi, .slice ya (Fo.len yk) yc], .pointer (some ⟨bb, 0, none⟩)] w' fun e w'' => ∃ (z1 : Option Addr) (z2 z3 : Nat), e = .returned (.agg #[.bool tv, .int .i64 ti, .slice z1 z2 z3]) ∧ SB (fun q => q < w.heap.size ∨ (w'.heap.size ≤ q ∧ q < w''.heap.size)) w'' tk (.slice z1 z2 z3) ∧ Below w'.heap.size w' w'' := fun w' hb => by
        refine (Hcl.out (yv, yi) yk _ w' (below_step (below_step hBr hba) hb) HA0.out HGy.out.1).mono ?_
        rintro e w2 ⟨z1, z2, z3, rfl, hO, hb⟩
        rw [← Ht.out] at hO
        exact ⟨z1, z2, z3, by rw [← Ht.out], hO, hb⟩
      have hcall2 : ∀ w' : World, Below wa.heap.size wa w' → Calls Tryz.prog 27 #[.agg #[.bool yv', .int .i64 yi', .slice za (Fo.len yk') zc], .pointer (some ⟨bb, 0, none⟩)] w' fun e w'' => ∃ (z1 : Option Addr) (z2 z3 : Nat), e = .returned (.agg #[.bool tv', .int .i64 ti', .slice z1 z2 z3]) ∧ SB (fun q => q < w.heap.size ∨ (w'.heap.size ≤ q ∧ q < w''.heap.size)) w'' tk' (.slice z1 z2 z3) ∧ Below w'.heap.size w' w'' := fun w' hb => by
        refine (Hcl.out (yv', yi') yk' _ w' (below_step (below_step hBr hba) hb) HD0.out HGy.out.2).mono ?_
        rintro e w2 ⟨z1, z2, z3, rfl, hO, hb⟩
        rw [← Ht'.out] at hO
        exact ⟨z1, z2, z3, by rw [← Ht'.out], hO, hb⟩
      have Hc1 := hide hcall1
      have Hc2 := hide hcall2
      clear hcall1 hcall2 p0 p1 p2 p3 p4 p5 p6
      go_region_held3 (fun w' => w'.cell? ⟨wr.heap.size, 0, none⟩ = some (.bool yn) ∧ w'.cell? ⟨wr.heap.size, 1, none⟩ = some (.bool yv) ∧ w'.cell? ⟨wr.heap.size, 2, none⟩ = some (.int .i64 yi) ∧ w'.cell? ⟨wr.heap.size, 3, none⟩ = some (.slice ya (Fo.len yk) yc) ∧ w'.cell? ⟨wr.heap.size, 4, none⟩ = some (.bool yv') ∧ w'.cell? ⟨wr.heap.size, 5, none⟩ = some (.int .i64 yi') ∧ w'.cell? ⟨wr.heap.size, 6, none⟩ = some (.slice za (Fo.len yk') zc))
        (first
          | (with_reducible exact ⟨grow_cell hcur _ _ g0, grow_cell hcur _ _ g1, grow_cell hcur _ _ g2, grow_cell hcur _ _ g3, grow_cell hcur _ _ g4, grow_cell hcur _ _ g5, grow_cell hcur _ _ g6⟩)
          | (with_reducible exact ⟨grow_cell (below_step hcur (below_alloc _ _)) _ _ g0, grow_cell (below_step hcur (below_alloc _ _)) _ _ g1, grow_cell (below_step hcur (below_alloc _ _)) _ _ g2, grow_cell (below_step hcur (below_alloc _ _)) _ _ g3, grow_cell (below_step hcur (below_alloc _ _)) _ _ g4, grow_cell (below_step hcur (below_alloc _ _)) _ _ g5, grow_cell (below_step hcur (below_alloc _ _)) _ _ g6⟩)
          | (with_reducible exact ⟨grown_cell HG4.out.2.1 hnq (grow_cell (below_step hcur (below_alloc _ _)) _ _ g0), grown_cell HG4.out.2.1 hnq (grow_cell (below_step hcur (below_alloc _ _)) _ _ g1), grown_cell HG4.out.2.1 hnq (grow_cell (below_step hcur (below_alloc _ _)) _ _ g2), grown_cell HG4.out.2.1 hnq (grow_cell (below_step hcur (below_alloc _ _)) _ _ g3), grown_cell HG4.out.2.1 hnq (grow_cell (below_step hcur (below_alloc _ _)) _ _ g4), grown_cell HG4.out.2.1 hnq (grow_cell (below_step hcur (below_alloc _ _)) _ _ g5), grown_cell HG4.out.2.1 hnq (grow_cell (below_step hcur (below_alloc _ _)) _ _ g6)⟩)
          | go_keep)
        (first
          | (go_at_call 27; with_reducible refine (Hc1.out _ hcur).mono ?_; rintro e wS ⟨z1, z2, z3, rfl, hO1, hbS⟩; have hcur0 := hcur; replace hcur := below_step hcur hbS; have HO1 := hide (And.intro hO1 hbS); clear hO1)
          | (go_at_call 27; with_reducible refine (Hc2.out _ hcur).mono ?_; rintro e wU ⟨y1, y2, y3, rfl, hO2, hbU⟩; have hcurS := hcur; replace hcur := below_step hcur hbU; have HO2 := hide (And.intro hO2 hbU); clear hO2)
          | (refine step_append_gen rfl (.tmp 14) (.tmp 26) 25 rfl w.heap.size 44 iL (.agg #[.bool false, .bool false, .int .i64 0, .slice none 0 0, .bool false, .int .i64 0, .slice none 0 0]) 7 88 Tryz.underlying25 hi hz0 hz1 hz2 rfl (by decide) (.slice o1 j o3) j xs rfl (owns_keep Hrow.out (fun g hg => (below_step (below_step hba hcur) (below_alloc _ _)).block g (owns_at Hrow.out g hg).2)) _ 1 (litV (yn, ((tv, ti), tk), ((tv', ti'), tk')) (.slice z1 z2 z3) (.slice y1 y2 y3)) rfl cs_lit hn1 hn2 (Nat.le_trans hsr (below_step (below_step hba hcur) (below_alloc _ _)).size) ?_; intro v4 w4 ho4 hg4 hat4; have HG4 := hide (And.intro ho4 (And.intro hg4 hat4)); clear ho4 hg4 hat4))
      all_goals
        have s0 := hcur0.size
        have s1 := hba.size
        have s2 := hcurS.size
        have s3 := HO1.out.2.size
        have s4 := HO2.out.2.size
        have Hstep : Hid (OwnL w.heap.size (XO w4 v4) w4 ((k.map (mapL g)).take (j + 1)) v4 (xs ++ litV (yn, ((tv, ti), tk), ((tv', ti'), tk')) (.slice z1 z2 z3) (.slice y1 y2 y3)) ∧ Below w.heap.size wr w4) := by
          rw [Hy2.out]
          refine ownL_more3 (l := (yn, ((tv, ti), tk), ((tv', ti'), tk'))) HO.out (below_step (below_step hba hcur) (below_alloc _ _)) hsr ?_ ?_ (by rw [Hl.out]; exact HG4.out.1) HG4.out.2.1 HG4.out.2.2
          · refine HO1.out.1.frame (fun q hq => ?_) (fun q i hq => (below_step HO2.out.2 (below_alloc _ _)).cell ?_)
            · simp only [World.size_alloc]
              omega
            · show q < _
              omega
          · refine HO2.out.1.frame (fun q hq => ?_) (fun q i hq => (below_alloc _ _).cell ?_)
            · simp only [World.size_alloc]
              omega
            · show q < _
              omega
        obtain ⟨r1, r3, hv4⟩ := slice_of_cl Hstep.out.1.cl
        have hl1 : ((k.map (mapL g)).take (j + 1)).length = j + 1 := by rw [Hy2.out, List.length_append, Hl.out]; rfl
        rw [hl1] at hv4
        subst hv4
        clear hl1
        go_wp2_with fail
        go_roundw
        case rel => exact ⟨j + 1, r1, r3, _, by omega, by go_num, rfl, Hstep.out.1, hBr.trans Hstep.out.2⟩
        case measure => simp [intOf]; omega
    · have hje : j = k.length := by omega
      subst hje
      have Hfin : Hid (OwnL w.heap.size (XO wr (.slice o1 k.length o3)) wr (k.map (mapL g)) (.slice o1 k.length o3) xs) := by
        have := HO.out
        rw [List.take_of_length_le (by simp)] at this
        exact this
      clear HO
      go_wp2_with fail
      go_ret
      exact ⟨_, _, rfl, Hfin.out, hBr⟩

set_option maxRecDepth 100000 in
set_option maxHeartbeats 4000000 in
theorem eachDN_any (bb : Nat) (g : Tm → Tm) (G : Tm → Prop) (k : Cl) (a : Value) (w : World) (hcl : CloSaid 47 bb g G w) (hS : CIn w k a) (hG : ∀ l ∈ k, G l.2.1 ∧ G l.2.2) (hlen : k.length ≤ 1000000) :
    Calls Tryz.prog 23 #[a, .func (.func 47) #[] #[.pointer (some ⟨bb, 0, none⟩)]] w fun e w' => ∃ v xs, e = .returned v ∧ OwnL w.heap.size (XO w' v) w' (k.map (mapL g)) v xs ∧ Below w.heap.size w w' := by
  obtain ⟨a1, c1, b1, oo, rfl, had1, hlc1, hcm1, hF1⟩ := hS
  unfold maxLen at hcm1
  have HF1 := hide hF1
  have HG := hide hG
  have Hcl := hide hcl
  clear hF1 hG hcl
  obtain ⟨iL, hi, hz0, hz1, hz2⟩ := info_parts Tryz.info44
  go_enter Tryz.func23, Tryz.ntmps23
  go_wp2_with fail
  go_loopw [5, 10] (fun v i wr => ∃ (j : Nat) (o1 : Option Addr) (o3 : Nat) (xs : List Value), j ≤ k.length ∧ i = .int .i64 j ∧ v = .slice o1 j o3 ∧ OwnL w.heap.size (XO wr v) wr ((k.map (mapL g)).take j) v xs ∧ Below w.heap.size w wr) (fun _ i _ => k.length - (intOf i).toNat)
  case atStart => exact ⟨0, none, 0, [], Nat.zero_le _, rfl, rfl, ownL_nil _ _, Below.refl _ _⟩
  case round =>
    obtain ⟨j, o1, o3, xs, hj, rfl, rfl, hO, hBr⟩ := hrel
    have HO := hide hO
    clear hO
    have hsr := hBr.size
    by_cases hlt : j < k.length
    · have hlt' : (j : Int) < (k.length : Int) := by omega
      obtain ⟨⟨yn, ⟨⟨yv, yi⟩, yk⟩, ⟨yv', yi'⟩, yk'⟩, hy⟩ : ∃ y, k[j]? = some y := ⟨k[j]'hlt, by simp⟩
      obtain ⟨-, -, -, ⟨u3', p3', hA0⟩, -, -, u6', p6', hD0⟩ := HF1.out.at hy
      obtain ⟨p0, p1, p2, ⟨u3, p3, hA⟩, p4, p5, u6, p6, hD⟩ := (HF1.out.below hBr).at hy
      have e3 : u3' = u3 := by have := grow_cell hBr _ _ p3'; rw [p3] at this; exact (Option.some.inj this).symm
      have e6 : u6' = u6 := by have := grow_cell hBr _ _ p6'; rw [p6] at this; exact (Option.some.inj this).symm
      subst e3 e6
      have ha1 : a1 = some ⟨b1, oo, none⟩ := had1 (by omega)
      subst ha1
      have HA0 := hide hA0
      have HD0 := hide hD0
      obtain ⟨ya, yc, _, _, rfl, -, -, -, -⟩ := hA
      obtain ⟨za, zc, _, _, rfl, -, -, -, -⟩ := hD
      have HGy := hide (HG.out _ (List.mem_of_getElem? hy))
      obtain ⟨⟨⟨tv, ti⟩, tk⟩, ht⟩ : ∃ t, t = g ((yv, yi), yk) := ⟨_, rfl⟩
      obtain ⟨⟨⟨tv', ti'⟩, tk'⟩, ht'⟩ : ∃ t, t = g ((yv', yi'), yk') := ⟨_, rfl⟩
      have Hy2 : Hid ((k.map (mapL g)).take (j + 1) = (k.map (mapL g)).take j ++ [(yn, ((tv, ti), tk), ((tv', ti'), tk'))]) := by
        rw [Hid, List.take_add_one, List.getElem?_map, hy, ht, ht']; rfl
      have Hl : Hid (((k.map (mapL g)).take j).length = j) := by rw [Hid, List.length_take, List.length_map]; omega
      have Ht := hide ht
      have Ht' := hide ht'
      have hn1 : j + 1 ≤ maxLen := by unfold maxLen; omega
      have hn2 : (j + 1) * 88 ≤ 140737488355328 := by omega
      have Hrow : Hid (wr.ownsRow w.heap.size 44 7 (.slice o1 j o3) j xs) := by
        have := HO.out.row
        rw [Hl.out] at this
        exact this
      have hnq : some wr.heap.size ≠ (Value.slice o1 j o3).ownBlock := fun e => by
        have := (owns_at Hrow.out _ e.symm).2
        omega
      clear hy had1 p3' p6' hA0 hD0 ht ht'
      simp only at *
      go_upto_region 5 with fail
      generalize hwa : wr.alloc (.cells #[.bool yn, .bool yv, .int .i64 yi, .slice ya (Fo.len yk) yc, .bool yv', .int .i64 yi', .slice za (Fo.len yk') zc] 44) = wa
      obtain ⟨g0, g1, g2, g3, g4, g5, g6, -, hba, hsa⟩ := lit_cells (T := 44) (x0 := .bool yn) (w := wr) (wr := wa) (x1 := .bool yv) (x2 := .int .i64 yi) (x3 := .slice ya (Fo.len yk) yc) (x4 := .bool yv') (x5 := .int .i64 yi') (x6 := .slice za (Fo.len yk') zc) (by rw [← hwa]; exact Below.refl _ _)
      clear hwa
      have hcur : Below wa.heap.size wa wa.drew := (Below.refl _ _).drew
      have hcall1 : ∀ w' : World, Below wa.heap.size wa w' → Calls Tryz.prog 47 #[.agg #[.bool yv, .int .i64 yi, .slice ya (Fo.len yk) yc], .pointer (some ⟨bb, 0, none⟩)] w' fun e w'' => ∃ (z1 : Option Addr) (z2 z3 : Nat), e = .returned (.agg #[.bool tv, .int .i64 ti, .slice z1 z2 z3]) ∧ SB (fun q => q < w.heap.size ∨ (w'.heap.size ≤ q ∧ q < w''.heap.size)) w'' tk (.slice z1 z2 z3) ∧ Below w'.heap.size w' w'' := fun w' hb => by
        refine (Hcl.out (yv, yi) yk _ w' (below_step (below_step hBr hba) hb) HA0.out HGy.out.1).mono ?_
        rintro e w2 ⟨z1, z2, z3, rfl, hO, hb⟩
        rw [← Ht.out] at hO
        exact ⟨z1, z2, z3, by rw [← Ht.out], hO, hb⟩
      have hcall2 : ∀ w' : World, Below wa.heap.size wa w' → Calls Tryz.prog 47 #[.agg #[.bool yv', .int .i64 yi', .slice za (Fo.len yk') zc], .pointer (some ⟨bb, 0, none⟩)] w' fun e w'' => ∃ (z1 : Option Addr) (z2 z3 : Nat), e = .returned (.agg #[.bool tv', .int .i64 ti', .slice z1 z2 z3]) ∧ SB (fun q => q < w.heap.size ∨ (w'.heap.size ≤ q ∧ q < w''.heap.size)) w'' tk' (.slice z1 z2 z3) ∧ Below w'.heap.size w' w'' := fun w' hb => by
        refine (Hcl.out (yv', yi') yk' _ w' (below_step (below_step hBr hba) hb) HD0.out HGy.out.2).mono ?_
        rintro e w2 ⟨z1, z2, z3, rfl, hO, hb⟩
        rw [← Ht'.out] at hO
        exact ⟨z1, z2, z3, by rw [← Ht'.out], hO, hb⟩
      have Hc1 := hide hcall1
      have Hc2 := hide hcall2
      clear hcall1 hcall2 p0 p1 p2 p3 p4 p5 p6
      go_region_held3 (fun w' => w'.cell? ⟨wr.heap.size, 0, none⟩ = some (.bool yn) ∧ w'.cell? ⟨wr.heap.size, 1, none⟩ = some (.bool yv) ∧ w'.cell? ⟨wr.heap.size, 2, none⟩ = some (.int .i64 yi) ∧ w'.cell? ⟨wr.heap.size, 3, none⟩ = some (.slice ya (Fo.len yk) yc) ∧ w'.cell? ⟨wr.heap.size, 4, none⟩ = some (.bool yv') ∧ w'.cell? ⟨wr.heap.size, 5, none⟩ = some (.int .i64 yi') ∧ w'.cell? ⟨wr.heap.size, 6, none⟩ = some (.slice za (Fo.len yk') zc))
        (first
          | (with_reducible exact ⟨grow_cell hcur _ _ g0, grow_cell hcur _ _ g1, grow_cell hcur _ _ g2, grow_cell hcur _ _ g3, grow_cell hcur _ _ g4, grow_cell hcur _ _ g5, grow_cell hcur _ _ g6⟩)
          | (with_reducible exact ⟨grow_cell (below_step hcur (below_alloc _ _)) _ _ g0, grow_cell (below_step hcur (below_alloc _ _)) _ _ g1, grow_cell (below_step hcur (below_alloc _ _)) _ _ g2, grow_cell (below_step hcur (below_alloc _ _)) _ _ g3, grow_cell (below_step hcur (below_alloc _ _)) _ _ g4, grow_cell (below_step hcur (below_alloc _ _)) _ _ g5, grow_cell (below_step hcur (below_alloc _ _)) _ _ g6⟩)
          | (with_reducible exact ⟨grown_cell HG4.out.2.1 hnq (grow_cell (below_step hcur (below_alloc _ _)) _ _ g0), grown_cell HG4.out.2.1 hnq (grow_cell (below_step hcur (below_alloc _ _)) _ _ g1), grown_cell HG4.out.2.1 hnq (grow_cell (below_step hcur (below_alloc _ _)) _ _ g2), grown_cell HG4.out.2.1 hnq (grow_cell (below_step hcur (below_alloc _ _)) _ _ g3), grown_cell HG4.out.2.1 hnq (grow_cell (below_step hcur (below_alloc _ _)) _ _ g4), grown_cell HG4.out.2.1 hnq (grow_cell (below_step hcur (below_alloc _ _)) _ _ g5), grown_cell HG4.out.2.1 hnq (grow_cell (below_step hcur (below_alloc _ _)) _ _ g6)⟩)
          | go_keep)
        (first
          | (go_at_call 47; with_reducible refine (Hc1.out _ hcur).mono ?_; rintro e wS ⟨z1, z2, z3, rfl, hO1, hbS⟩; have hcur0 := hcur; replace hcur := below_step hcur hbS; have HO1 := hide (And.intro hO1 hbS); clear hO1)
          | (go_at_call 47; with_reducible refine (Hc2.out _ hcur).mono ?_; rintro e wU ⟨y1, y2, y3, rfl, hO2, hbU⟩; have hcurS := hcur; replace hcur := below_step hcur hbU; have HO2 := hide (And.intro hO2 hbU); clear hO2)
          | (refine step_append_gen rfl (.tmp 14) (.tmp 26) 25 rfl w.heap.size 44 iL (.agg #[.bool false, .bool false, .int .i64 0, .slice none 0 0, .bool false, .int .i64 0, .slice none 0 0]) 7 88 Tryz.underlying25 hi hz0 hz1 hz2 rfl (by decide) (.slice o1 j o3) j xs rfl (owns_keep Hrow.out (fun g hg => (below_step (below_step hba hcur) (below_alloc _ _)).block g (owns_at Hrow.out g hg).2)) _ 1 (litV (yn, ((tv, ti), tk), ((tv', ti'), tk')) (.slice z1 z2 z3) (.slice y1 y2 y3)) rfl cs_lit hn1 hn2 (Nat.le_trans hsr (below_step (below_step hba hcur) (below_alloc _ _)).size) ?_; intro v4 w4 ho4 hg4 hat4; have HG4 := hide (And.intro ho4 (And.intro hg4 hat4)); clear ho4 hg4 hat4))
      all_goals
        have s0 := hcur0.size
        have s1 := hba.size
        have s2 := hcurS.size
        have s3 := HO1.out.2.size
        have s4 := HO2.out.2.size
        have Hstep : Hid (OwnL w.heap.size (XO w4 v4) w4 ((k.map (mapL g)).take (j + 1)) v4 (xs ++ litV (yn, ((tv, ti), tk), ((tv', ti'), tk')) (.slice z1 z2 z3) (.slice y1 y2 y3)) ∧ Below w.heap.size wr w4) := by
          rw [Hy2.out]
          refine ownL_more3 (l := (yn, ((tv, ti), tk), ((tv', ti'), tk'))) HO.out (below_step (below_step hba hcur) (below_alloc _ _)) hsr ?_ ?_ (by rw [Hl.out]; exact HG4.out.1) HG4.out.2.1 HG4.out.2.2
          · refine HO1.out.1.frame (fun q hq => ?_) (fun q i hq => (below_step HO2.out.2 (below_alloc _ _)).cell ?_)
            · simp only [World.size_alloc]
              omega
            · show q < _
              omega
          · refine HO2.out.1.frame (fun q hq => ?_) (fun q i hq => (below_alloc _ _).cell ?_)
            · simp only [World.size_alloc]
              omega
            · show q < _
              omega
        obtain ⟨r1, r3, hv4⟩ := slice_of_cl Hstep.out.1.cl
        have hl1 : ((k.map (mapL g)).take (j + 1)).length = j + 1 := by rw [Hy2.out, List.length_append, Hl.out]; rfl
        rw [hl1] at hv4
        subst hv4
        clear hl1
        go_wp2_with fail
        go_roundw
        case rel => exact ⟨j + 1, r1, r3, _, by omega, by go_num, rfl, Hstep.out.1, hBr.trans Hstep.out.2⟩
        case measure => simp [intOf]; omega
    · have hje : j = k.length := by omega
      subst hje
      have Hfin : Hid (OwnL w.heap.size (XO wr (.slice o1 k.length o3)) wr (k.map (mapL g)) (.slice o1 k.length o3) xs) := by
        have := HO.out
        rw [List.take_of_length_le (by simp)] at this
        exact this
      clear HO
      go_wp2_with fail
      go_ret
      exact ⟨_, _, rfl, Hfin.out, hBr⟩

end Go.Proofs.YtfckelbdageenabGreatDoor

namespace Go.Proofs.YtfckelbdageenabGreatDoor
open Go.RowKit Go.Deep Go.ChangeShapes Go.WideShapes

set_option maxRecDepth 100000 in
set_option maxHeartbeats 2000000 in
theorem cloD1_any (s : Sb) (vs : Value) (bb : Nat) (W0 : World) (hc : W0.cell? ⟨bb, 0, none⟩ = some vs) (hV : SubIn W0 s vs) (hs : ∀ p ∈ s, okT p.2) : CloSaid 24 bb (subT (bnd s)) (fun t => okT t ∧ narT t) W0 := by
  intro x k a w hW hS hG
  obtain ⟨xv, xn⟩ := x
  have HS := hide hS
  have HV := hide hV
  have Hs := hide hs
  have hsv : ∃ v1 v2 v3, vs = .slice v1 v2 v3 := by
    obtain ⟨v1, v3, _, _, rfl, _⟩ := hV
    exact ⟨_, _, _, rfl⟩
  obtain ⟨v1, v2, v3, rfl⟩ := hsv
  obtain ⟨ad, c, _, _, rfl, -, -, -, -⟩ := hS
  have hcw := grow_cell hW _ _ hc
  have hpb : bb < w.heap.size := World.block_lt_of_cell? _ _ hcw
  have hc' : ((w.alloc (.cells #[.bool xv, .int .i64 xn, .slice ad (Fo.len k) c] 36)).alloc (.cells #[.bool false, .int .i64 0, .slice none 0 0] 36)).cell? ⟨bb, 0, none⟩ = some (.slice v1 v2 v3) := by rw [World.cell?_alloc_lt _ _ _ (by simp; omega), World.cell?_alloc_lt _ _ _ (by simpa using hpb)]; exact hcw
  clear hV hs
  go_enter Tryz.func24, Tryz.ntmps24
  go_wp2_with fail
  refine (applyR_any (xv, xn) k s _ W0 _ _ (below_step hW (below_step (below_alloc _ _) (below_alloc _ _))) HV.out Hs.out HS.out hG.1 hG.2).mono ?_
  rintro e w1 ⟨z1, z2, z3, rfl, hO, hb⟩
  obtain ⟨⟨⟨tv, tn⟩, tk⟩, ht⟩ : ∃ t, t = subT (bnd s) ((xv, xn), k) := ⟨_, rfl⟩
  rw [← ht] at hO ⊢
  have hsz := hb.size
  simp only [World.size_alloc] at hsz
  have hsW := hW.size
  have r0 : w1.cell? ⟨w.heap.size + 1, 0, none⟩ = some (.bool false) := grow_cell hb _ _ (new_cell (World.size_alloc _ _))
  have r1 : w1.cell? ⟨w.heap.size + 1, 1, none⟩ = some (.int .i64 0) := grow_cell hb _ _ (new_cell (World.size_alloc _ _))
  have r2 : w1.cell? ⟨w.heap.size + 1, 2, none⟩ = some (.slice none 0 0) := grow_cell hb _ _ (new_cell (World.size_alloc _ _))
  have rf : ∀ i, w1.frozen? ⟨w.heap.size + 1, i, none⟩ = false := fun i => (hb.frozen (by show w.heap.size + 1 < _; simp)).trans (new_frozen (World.size_alloc _ _))
  have hB := below_box (below_box hb)
  have HO : Hid (SB (fun q => q < W0.heap.size ∨ (w.heap.size + 1 + 1 ≤ q ∧ q < w1.heap.size)) w1 tk (.slice z1 z2 z3)) := by
    have := hO
    simp only [World.size_alloc] at this
    exact this
  have Ht := hide ht
  clear hb hO ht hc hc' hcw
  simp only
  go_wp2_with fail
  refine bodyPost_ret (v := .agg #[.bool tv, .int .i64 tn, .slice z1 z2 z3]) (by simp [results, Tryz.results24, go_sem, r0, r1, r2]) rfl ⟨z1, z2, z3, by rw [← Ht.out], ?_, set3_below (o := 0) hB (by omega)⟩
  rw [← Ht.out]
  exact ret_boxB HO.out (by omega) (by omega) (by omega)

set_option maxRecDepth 100000 in
set_option maxHeartbeats 2000000 in
theorem cloDN_any (s : Sb) (vs : Value) (bb : Nat) (W0 : World) (hc : W0.cell? ⟨bb, 0, none⟩ = some vs) (hV : SubIn W0 s vs) (hs : ∀ p ∈ s, okT p.2) : CloSaid 47 bb (subT (bnd s)) (fun t => okT t ∧ narT t) W0 := by
  intro x k a w hW hS hG
  obtain ⟨xv, xn⟩ := x
  have HS := hide hS
  have HV := hide hV
  have Hs := hide hs
  have hsv : ∃ v1 v2 v3, vs = .slice v1 v2 v3 := by
    obtain ⟨v1, v3, _, _, rfl, _⟩ := hV
    exact ⟨_, _, _, rfl⟩
  obtain ⟨v1, v2, v3, rfl⟩ := hsv
  obtain ⟨ad, c, _, _, rfl, -, -, -, -⟩ := hS
  have hcw := grow_cell hW _ _ hc
  have hpb : bb < w.heap.size := World.block_lt_of_cell? _ _ hcw
  have hc' : ((w.alloc (.cells #[.bool xv, .int .i64 xn, .slice ad (Fo.len k) c] 36)).alloc (.cells #[.bool false, .int .i64 0, .slice none 0 0] 36)).cell? ⟨bb, 0, none⟩ = some (.slice v1 v2 v3) := by rw [World.cell?_alloc_lt _ _ _ (by simp; omega), World.cell?_alloc_lt _ _ _ (by simpa using hpb)]; exact hcw
  clear hV hs
  go_enter Tryz.func47, Tryz.ntmps47
  go_wp2_with fail
  refine (applyR_any (xv, xn) k s _ W0 _ _ (below_step hW (below_step (below_alloc _ _) (below_alloc _ _))) HV.out Hs.out HS.out hG.1 hG.2).mono ?_
  rintro e w1 ⟨z1, z2, z3, rfl, hO, hb⟩
  obtain ⟨⟨⟨tv, tn⟩, tk⟩, ht⟩ : ∃ t, t = subT (bnd s) ((xv, xn), k) := ⟨_, rfl⟩
  rw [← ht] at hO ⊢
  have hsz := hb.size
  simp only [World.size_alloc] at hsz
  have hsW := hW.size
  have r0 : w1.cell? ⟨w.heap.size + 1, 0, none⟩ = some (.bool false) := grow_cell hb _ _ (new_cell (World.size_alloc _ _))
  have r1 : w1.cell? ⟨w.heap.size + 1, 1, none⟩ = some (.int .i64 0) := grow_cell hb _ _ (new_cell (World.size_alloc _ _))
  have r2 : w1.cell? ⟨w.heap.size + 1, 2, none⟩ = some (.slice none 0 0) := grow_cell hb _ _ (new_cell (World.size_alloc _ _))
  have rf : ∀ i, w1.frozen? ⟨w.heap.size + 1, i, none⟩ = false := fun i => (hb.frozen (by show w.heap.size + 1 < _; simp)).trans (new_frozen (World.size_alloc _ _))
  have hB := below_box (below_box hb)
  have HO : Hid (SB (fun q => q < W0.heap.size ∨ (w.heap.size + 1 + 1 ≤ q ∧ q < w1.heap.size)) w1 tk (.slice z1 z2 z3)) := by
    have := hO
    simp only [World.size_alloc] at this
    exact this
  have Ht := hide ht
  clear hb hO ht hc hc' hcw
  simp only
  go_wp2_with fail
  refine bodyPost_ret (v := .agg #[.bool tv, .int .i64 tn, .slice z1 z2 z3]) (by simp [results, Tryz.results47, go_sem, r0, r1, r2]) rfl ⟨z1, z2, z3, by rw [← Ht.out], ?_, set3_below (o := 0) hB (by omega)⟩
  rw [← Ht.out]
  exact ret_boxB HO.out (by omega) (by omega) (by omega)

set_option maxRecDepth 100000 in
set_option maxHeartbeats 2000000 in
theorem cloD2_any (d : Int) (bb : Nat) (W0 : World) (hc : W0.cell? ⟨bb, 0, none⟩ = some (.int .i64 d)) : CloSaid 27 bb (subT (ren d)) (fun t => okT t ∧ narT t) W0 := by
  intro x k a w hW hS hG
  obtain ⟨xv, xn⟩ := x
  have HS := hide hS
  obtain ⟨ad, c, _, _, rfl, -, -, -, -⟩ := hS
  have hcw := grow_cell hW _ _ hc
  have hpb : bb < w.heap.size := World.block_lt_of_cell? _ _ hcw
  have hc' : ((w.alloc (.cells #[.bool xv, .int .i64 xn, .slice ad (Fo.len k) c] 36)).alloc (.cells #[.bool false, .int .i64 0, .slice none 0 0] 36)).cell? ⟨bb, 0, none⟩ = some (.int .i64 d) := by rw [World.cell?_alloc_lt _ _ _ (by simp; omega), World.cell?_alloc_lt _ _ _ (by simpa using hpb)]; exact hcw
  go_enter Tryz.func27, Tryz.ntmps27
  go_wp2_with fail
  refine (renameR_any d (xv, xn) k W0 _ _ (below_step hW (below_step (below_alloc _ _) (below_alloc _ _))) HS.out hG.1 hG.2).mono ?_
  rintro e w1 ⟨z1, z2, z3, rfl, hO, hb⟩
  obtain ⟨⟨⟨tv, tn⟩, tk⟩, ht⟩ : ∃ t, t = subT (ren d) ((xv, xn), k) := ⟨_, rfl⟩
  rw [← ht] at hO ⊢
  have hsz := hb.size
  simp only [World.size_alloc] at hsz
  have hsW := hW.size
  have r0 : w1.cell? ⟨w.heap.size + 1, 0, none⟩ = some (.bool false) := grow_cell hb _ _ (new_cell (World.size_alloc _ _))
  have r1 : w1.cell? ⟨w.heap.size + 1, 1, none⟩ = some (.int .i64 0) := grow_cell hb _ _ (new_cell (World.size_alloc _ _))
  have r2 : w1.cell? ⟨w.heap.size + 1, 2, none⟩ = some (.slice none 0 0) := grow_cell hb _ _ (new_cell (World.size_alloc _ _))
  have rf : ∀ i, w1.frozen? ⟨w.heap.size + 1, i, none⟩ = false := fun i => (hb.frozen (by show w.heap.size + 1 < _; simp)).trans (new_frozen (World.size_alloc _ _))
  have hB := below_box (below_box hb)
  have HO : Hid (SB (fun q => q < W0.heap.size ∨ (w.heap.size + 1 + 1 ≤ q ∧ q < w1.heap.size)) w1 tk (.slice z1 z2 z3)) := by
    have := hO
    simp only [World.size_alloc] at this
    exact this
  have Ht := hide ht
  clear hb hO ht hc hc' hcw
  simp only
  go_wp2_with fail
  refine bodyPost_ret (v := .agg #[.bool tv, .int .i64 tn, .slice z1 z2 z3]) (by simp [results, Tryz.results27, go_sem, r0, r1, r2]) rfl ⟨z1, z2, z3, by rw [← Ht.out], ?_, set3_below (o := 0) hB (by omega)⟩
  rw [← Ht.out]
  exact ret_boxB HO.out (by omega) (by omega) (by omega)

end Go.Proofs.YtfckelbdageenabGreatDoor

namespace Go.Proofs.YtfckelbdageenabGreatDoor
open Go.RowKit Go.Deep Go.ChangeShapes Go.WideShapes

theorem lits_upto {n j c b o : Nat} (hj : j < n) (hc : n ≤ c) (w : World) : (Instr.slice 25 (.slice (some ⟨b, o, none⟩) n c) none (some (.int .i64 (j : Int))) none).run Tryz.prog w = .ok (.slice (some ⟨b, o, none⟩) j c) w := by
  rw [run_slice_h (ht := by kernel_rfl) (h0 := by omega) (h2 := by omega)]
  have e : (sizeOf (Tryz.prog.elem 25)).run Tryz.prog w = .ok 7 w := by
    rw [show Tryz.prog.elem 25 = 44 by kernel_rfl]
    simp [go_sem]
  simp only [Result.andThen, sliced, e]
  simp [Addr.add]

/-- So many of the pairs that number the variables, the box bb holding them. -/
def NumBox (lo bb : Nat) (w : World) (s : Sb) (v : Value) (xs : List Value) : Prop := OwnS lo (fun _ => False) w s v xs ∧ v.ownBlock ≠ some bb ∧ w.cell? ⟨bb, 0, none⟩ = some v ∧ w.frozen? ⟨bb, 0, none⟩ = false ∧ bb < w.heap.size
theorem num_take {vs : List Int} {j : Nat} {n : Int} (h : vs[j]? = some n) : (numS vs).take (j + 1) = (numS vs).take j ++ [(n, vr j)] := by
  rw [List.take_add_one, numS, List.getElem?_mapIdx, h]; rfl
theorem numbox_next {lo bb j : Nat} {wr w4 : World} {vs : List Int} {n : Int} {v v4 : Value} {xs : List Value} {ob : Obj} (h : NumBox lo bb wr ((numS vs).take j) v xs) (hn : vs[j]? = some n) (hl : lo ≤ bb)
    (ho : w4.ownsRow lo 38 4 v4 (j + 1) (xs ++ [.int .i64 n, .bool true, .int .i64 j, .slice none 0 0])) (hg : (wr.alloc ob).grownBy w4 v.ownBlock) (hat : v4.ownBlock = v.ownBlock ∨ v4.ownBlock = some (wr.alloc ob).heap.size) :
    NumBox lo bb (w4.setCell ⟨bb, 0, none⟩ v4) ((numS vs).take (j + 1)) v4 (xs ++ [.int .i64 n, .bool true, .int .i64 j, .slice none 0 0]) ∧ Below lo wr (w4.setCell ⟨bb, 0, none⟩ v4) ∧ w4.cell? ⟨bb, 0, none⟩ = some v ∧ w4.frozen? ⟨bb, 0, none⟩ = false := by
  obtain ⟨h1, h2, h3, h4, h5⟩ := h
  have hs := hg.size
  simp only [World.size_alloc] at hs
  have hlen : ((numS vs).take (j + 1)).length = j + 1 := by
    have : j < vs.length := (List.getElem?_eq_some_iff.1 hn).1
    simp [numS]; omega
  have hne : v4.ownBlock ≠ some bb := by
    rcases hat with e | e
    · rw [e]; exact h2
    · rw [e]; simp; omega
  have hbb : w4.heap[bb]? = wr.heap[bb]? := by
    rw [hg.block bb (by simp; omega) (Ne.symm h2)]
    exact (below_alloc wr ob).block bb h5
  have hc4 : w4.cell? ⟨bb, 0, none⟩ = some v := by rw [World.cell?_of_block hbb]; exact h3
  have hf4 : w4.frozen? ⟨bb, 0, none⟩ = false := by
    rw [← h4]
    simp only [World.frozen?, hbb]
  refine ⟨⟨⟨?_, ?_, fun _ h => h.elim⟩, hne, set_same hc4, by simpa using hf4, by simp [World.setCell]; omega⟩, ?_, hc4, hf4⟩
  · rw [hlen]
    exact owns_keep ho (fun g hgg => Below.heap_setCell _ _ _ g (fun e => hne (by rw [hgg]; exact congrArg some e)))
  · rw [num_take hn]
    exact PC.append (PC.one (t := vr j) (SB.nil _ _)) (h1.cells.frame (fun _ h => h) (fun _ _ h => h.elim))
  · have hb : Below lo wr w4 := ⟨hg.os, hg.tape, hg.output, by omega, fun q hq => by
      have hqv : some q ≠ v.ownBlock := fun e => by have := owns_at h1.row q e.symm; omega
      by_cases hqw : q < wr.heap.size
      · rw [hg.block q (by simp; omega) hqv]; exact (below_alloc wr ob).block q hqw
      · exact absurd hqw (by omega)⟩
    exact hb.setCell hl _

set_option maxRecDepth 100000 in
set_option maxHeartbeats 8000000 in
theorem normD_anyX (k : Cl) (a : Value) (w : World) (hS : CIn w k a) (hg : GX k) :
    Calls Tryz.prog 15 #[a] w fun e w' => ∃ v, e = .returned (.tuple #[v, .int .i64 (normC k).1]) ∧ CIn w' (normC k).2 v ∧ Below w.heap.size w w' := by
  obtain ⟨a1, c1, b1, oo, rfl, had1, hlc1, hcm1, hF1⟩ := hS
  unfold maxLen at hcm1
  have HF1 := hide hF1
  have Hcs := hide (norm_casesX hg)
  have hk4 := hg.1
  have HG := hide hg
  clear hF1 hg
  obtain ⟨iL, hi, hz0, hz1, hz2⟩ := info_parts Tryz.info44
  obtain ⟨iP, hiP, hy0, hy1, hy2⟩ := info_parts Tryz.info38
  go_enter Tryz.func15, Tryz.ntmps15
  go_wp2_with fail
  go_loopw [4, 22] (fun v i wr => ∃ (j : Nat) (out : Cl) (o1 : Option Addr) (o3 : Nat) (xs : List Value), j ≤ k.length ∧ i = .int .i64 j ∧ v = .slice o1 out.length o3 ∧ out.length ≤ j ∧ turnC (k.take j) = some out ∧ OwnL w.heap.size (XO wr v) wr out v xs ∧ Below w.heap.size w wr) (fun _ i _ => k.length - (intOf i).toNat)
  case atStart => exact ⟨0, [], none, 0, [], Nat.zero_le _, rfl, rfl, Nat.le_refl _, rfl, ownL_nil _ _, Below.refl _ _⟩
  case round =>
    obtain ⟨j, out, o1, o3, xs, hj, rfl, rfl, hol, hT, hO, hBr⟩ := hrel
    have HT := hide hT
    have HO := hide hO
    clear hT hO
    have hsr := hBr.size
    by_cases hlt : j < k.length
    · have hlt' : (j : Int) < (k.length : Int) := by omega
      obtain ⟨⟨yn, ⟨⟨yv, yi⟩, yk⟩, ⟨yv', yi'⟩, yk'⟩, hy⟩ : ∃ y, k[j]? = some y := ⟨k[j]'hlt, by simp⟩
      obtain ⟨-, -, -, ⟨u3', p3', hA0⟩, -, -, u6', p6', hD0⟩ := HF1.out.at hy
      obtain ⟨p0, p1, p2, ⟨u3, p3, hA⟩, p4, p5, u6, p6, hD⟩ := (HF1.out.below hBr).at hy
      have e3 : u3' = u3 := by have := grow_cell hBr _ _ p3'; rw [p3] at this; exact (Option.some.inj this).symm
      have e6 : u6' = u6 := by have := grow_cell hBr _ _ p6'; rw [p6] at this; exact (Option.some.inj this).symm
      subst e3 e6
      have ha1 : a1 = some ⟨b1, oo, none⟩ := had1 (by omega)
      subst ha1
      have HA := hide hA
      have HD := hide hD
      have HA0 := hide hA0.toB
      have HD0 := hide hD0.toB
      obtain ⟨ya, yc, _, _, rfl, -, -, -, -⟩ := hA
      obtain ⟨za, zc, _, _, rfl, -, -, -, -⟩ := hD
      have Hgy := hide (HG.out.2 _ (List.mem_of_getElem? hy))
      have Hstep : Hid (turnC (k.take (j + 1)) = tstep (some out) (yn, ((yv, yi), yk), ((yv', yi'), yk'))) := by rw [Hid, turn_take hy, HT.out]
      have hn1 : out.length + 1 ≤ maxLen := by unfold maxLen; omega
      have hn2 : (out.length + 1) * 88 ≤ 140737488355328 := by omega
      clear hy had1 p3' p6' hA0 hD0
      simp only at *
      go_wp2_with fail
      refine (sameR_any (yv, yi) yk (yv', yi') yk' _ _ _ (HA.out.alloc _) (HD.out.alloc _)).mono ?_
      rintro e w2 ⟨rfl, hb2⟩
      obtain ⟨g0, g1, g2, g3, g4, g5, g6, gf, hb2', hlt2⟩ := lit_cells hb2
      have hB2 := below_step hBr hb2'
      clear hb2 p0 p1 p2 p3 p4 p5 p6
      cases hss : sameT (yv, yi) yk (yv', yi') yk'
      · have Hss := hide hss
        clear hss
        go_wp2_with fail
        refine (aboveR_any (yv', yi') yk' (yv, yi) yk _ _ _ (HD.out.below hb2') (HA.out.below hb2') (by have := Hgy.out.sr; simp only at this; omega) (by have := Hgy.out.sl; simp only at this; omega)).mono ?_
        rintro e w5 ⟨rfl, hb5⟩
        replace g0 := grow_cell hb5 _ _ g0
        replace g1 := grow_cell hb5 _ _ g1
        replace g2 := grow_cell hb5 _ _ g2
        replace g3 := grow_cell hb5 _ _ g3
        replace g4 := grow_cell hb5 _ _ g4
        replace g5 := grow_cell hb5 _ _ g5
        replace g6 := grow_cell hb5 _ _ g6
        have gf5 : ∀ i, w5.frozen? ⟨wr.heap.size, i, none⟩ = false := fun i => (hb5.frozen (by show wr.heap.size < _; omega)).trans (gf i)
        have hb25 := below_step hb2' hb5
        clear gf hb5
        cases hab : abvT ((yv', yi'), yk') ((yv, yi), yk)
        · have Hfl : Hid (flipL (yn, ((yv, yi), yk), ((yv', yi'), yk')) = (yn, ((yv, yi), yk), ((yv', yi'), yk'))) := by
            show flipL _ = _
            unfold flipL
            rw [if_neg (by rw [hab]; simp)]
          have Hst : Hid (turnC (k.take (j + 1)) = some (out ++ [(yn, ((yv, yi), yk), ((yv', yi'), yk'))])) := by
            show turnC _ = _
            rw [Hstep.out, tstep, Option.bind_some, if_neg (by rw [Hss.out]; simp), Hfl.out]
          clear hab
          have hb6 : ∀ ob, Below wr.heap.size wr (w5.alloc ob) := fun ob => below_step hb25 (below_alloc _ _)
          go_wp2_with (at_builtin; refine wpList_append_gen rfl (.tmp 46) (.tmp 48) 25 rfl w.heap.size 44 iL (.agg #[.bool false, .bool false, .int .i64 0, .slice none 0 0, .bool false, .int .i64 0, .slice none 0 0]) 7 88 Tryz.underlying25 hi hz0 hz1 hz2 rfl (by decide) (.slice o1 out.length o3) out.length xs rfl (OwnL.below HO.out (hb6 _)).row _ 1 (litV (yn, ((yv, yi), yk), ((yv', yi'), yk')) (.slice ya (Fo.len yk) yc) (.slice za (Fo.len yk') zc)) rfl cs_lit hn1 hn2 (Nat.le_trans hsr (hb6 _).size) ?_; intro v4 w4 ho4 hg4 hat4)
          obtain ⟨hO4, hB4⟩ := ownL_more (l := (yn, ((yv, yi), yk), ((yv', yi'), yk'))) HO.out (hb6 _) hsr (HA0.out.kept (fun q hq => (below_step hBr (hb6 _)).block q hq)) (HD0.out.kept (fun q hq => (below_step hBr (hb6 _)).block q hq)) ho4 hg4 hat4
          obtain ⟨r1, r3, rfl⟩ := slice_of_cl hO4.cl
          have HO4 := hide hO4
          have hBB := hBr.trans hB4
          clear hO4 ho4 hg4 hat4
          go_wp2_with fail
          go_roundw
          case rel => exact ⟨j + 1, _, r1, r3, _, by omega, by go_num, rfl, by simp; omega, Hst.out, HO4.out, hBB⟩
          case measure => simp [intOf]; omega
        · have Hfl : Hid (flipL (yn, ((yv, yi), yk), ((yv', yi'), yk')) = (yn, ((yv', yi'), yk'), ((yv, yi), yk))) := by
            show flipL _ = _
            unfold flipL
            rw [if_pos hab]
          have Hst : Hid (turnC (k.take (j + 1)) = some (out ++ [(yn, ((yv', yi'), yk'), ((yv, yi), yk))])) := by
            show turnC _ = _
            rw [Hstep.out, tstep, Option.bind_some, if_neg (by rw [Hss.out]; simp), Hfl.out]
          clear hab
          go_upto_region 10 with fail
          generalize hw3 : (((((((w5.setCell ⟨wr.heap.size, 0, none⟩ (.bool yn)).setCell ⟨wr.heap.size, 1, none⟩ (.bool yv')).setCell ⟨wr.heap.size, 2, none⟩ (.int .i64 yi')).setCell ⟨wr.heap.size, 3, none⟩ (.slice za (Fo.len yk') zc)).setCell ⟨wr.heap.size, 4, none⟩ (.bool yv)).setCell ⟨wr.heap.size, 5, none⟩ (.int .i64 yi)).setCell ⟨wr.heap.size, 6, none⟩ (.slice ya (Fo.len yk) yc)) = w3
          have e3 : w3 = setL w5 wr.heap.size 0 [.bool yn, .bool yv', .int .i64 yi', .slice za (Fo.len yk') zc, .bool yv, .int .i64 yi, .slice ya (Fo.len yk) yc] := hw3.symm
          have hb3 : Below wr.heap.size wr w3 := by rw [e3]; exact setL_below (Nat.le_refl _) hb25
          have at6 := setL_at (b := wr.heap.size) (xs := [.bool yn, .bool yv', .int .i64 yi', .slice za (Fo.len yk') zc, .bool yv, .int .i64 yi, .slice ya (Fo.len yk) yc]) (o := 0) (w := w5) (fun i hi => by
            simp at hi
            rw [Nat.zero_add]
            rcases i with _ | _ | _ | _ | _ | _ | _ | i
            · exact ⟨_, g0⟩
            · exact ⟨_, g1⟩
            · exact ⟨_, g2⟩
            · exact ⟨_, g3⟩
            · exact ⟨_, g4⟩
            · exact ⟨_, g5⟩
            · exact ⟨_, g6⟩
            · omega)
          have k0 : w3.cell? ⟨wr.heap.size, 0, none⟩ = some (.bool yn) := by rw [e3]; exact at6 0 _ rfl
          have k1 : w3.cell? ⟨wr.heap.size, 1, none⟩ = some (.bool yv') := by rw [e3]; exact at6 1 _ rfl
          have k2 : w3.cell? ⟨wr.heap.size, 2, none⟩ = some (.int .i64 yi') := by rw [e3]; exact at6 2 _ rfl
          have k3 : w3.cell? ⟨wr.heap.size, 3, none⟩ = some (.slice za (Fo.len yk') zc) := by rw [e3]; exact at6 3 _ rfl
          have k4 : w3.cell? ⟨wr.heap.size, 4, none⟩ = some (.bool yv) := by rw [e3]; exact at6 4 _ rfl
          have k5 : w3.cell? ⟨wr.heap.size, 5, none⟩ = some (.int .i64 yi) := by rw [e3]; exact at6 5 _ rfl
          have k6 : w3.cell? ⟨wr.heap.size, 6, none⟩ = some (.slice ya (Fo.len yk) yc) := by rw [e3]; exact at6 6 _ rfl
          clear at6 e3 hw3 g0 g1 g2 g3 g4 g5 g6 gf5
          have hb6 : ∀ ob, Below wr.heap.size wr (w3.alloc ob) := fun ob => below_step hb3 (below_alloc _ _)
          go_wp2_with (at_builtin; refine wpList_append_gen rfl (.tmp 46) (.tmp 48) 25 rfl w.heap.size 44 iL (.agg #[.bool false, .bool false, .int .i64 0, .slice none 0 0, .bool false, .int .i64 0, .slice none 0 0]) 7 88 Tryz.underlying25 hi hz0 hz1 hz2 rfl (by decide) (.slice o1 out.length o3) out.length xs rfl (OwnL.below HO.out (hb6 _)).row _ 1 (litV (yn, ((yv', yi'), yk'), ((yv, yi), yk)) (.slice za (Fo.len yk') zc) (.slice ya (Fo.len yk) yc)) rfl cs_lit hn1 hn2 (Nat.le_trans hsr (hb6 _).size) ?_; intro v4 w4 ho4 hg4 hat4)
          obtain ⟨hO4, hB4⟩ := ownL_more (l := (yn, ((yv', yi'), yk'), ((yv, yi), yk))) HO.out (hb6 _) hsr (HD0.out.kept (fun q hq => (below_step hBr (hb6 _)).block q hq)) (HA0.out.kept (fun q hq => (below_step hBr (hb6 _)).block q hq)) ho4 hg4 hat4
          obtain ⟨r1, r3, rfl⟩ := slice_of_cl hO4.cl
          have HO4 := hide hO4
          have hBB := hBr.trans hB4
          clear hO4 ho4 hg4 hat4
          go_wp2_with fail
          go_roundw
          case rel => exact ⟨j + 1, _, r1, r3, _, by omega, by go_num, rfl, by simp; omega, Hst.out, HO4.out, hBB⟩
          case measure => simp [intOf]; omega
      · cases yn
        · have Hst : Hid (normC k = (6, [])) := by
            have ht : turnC k = none := turn_stop (j := j + 1) (by rw [Hstep.out]; simp [tstep, hss])
            rcases Hcs.out with ⟨_, h⟩ | ⟨d, h, _⟩
            · exact h
            · rw [ht] at h; cases h
          clear hss
          go_wp2_with fail
          go_ret2
          exact ⟨.slice none 0 0, by rw [Hst.out]; rfl, by rw [Hst.out]; exact CIn.nil _, hB2⟩
        · have Hst : Hid (turnC (k.take (j + 1)) = some out) := by
            show turnC _ = _
            rw [Hstep.out]
            simp [tstep, hss]
          clear hss
          have HO2 : Hid (OwnL w.heap.size (XO w2 (.slice o1 out.length o3)) w2 out (.slice o1 out.length o3) xs) := (HO.out.below hb2').wide (fun q hq => ⟨by have := hq.1; have := hb2'.size; omega, hq.2⟩) (fun _ h => h)
          go_wp2_with fail
          go_roundw
          case rel => exact ⟨j + 1, _, o1, o3, _, by omega, by go_num, rfl, by omega, Hst.out, HO2.out, hB2⟩
          case measure => simp [intOf]; omega
    · have hje : j = k.length := by omega
      subst hje
      have Hrest : Hid (GX out ∧ GX (reN out) ∧ ((distC (reN out) = none ∧ normC k = (6, [])) ∨ ∃ e, distC (reN out) = some e ∧ GX e ∧ normC k = keepC out e)) := by
        have ht := HT.out
        rw [List.take_length] at ht
        rcases Hcs.out with ⟨h, _⟩ | ⟨d', h, h2⟩
        · rw [ht] at h; cases h
        · rw [ht] at h; cases h; exact h2
      have HC1 := hide HO.out.cl
      clear HO HT Hcs
      have hd4 := Hrest.out.1.1
      have hv5 := gx_vars Hrest.out.1.2
      go_wp2_with fail
      refine (varsCR_any out _ _ HC1.out (by omega)).mono ?_
      rintro e w2 ⟨vv, rfl, hN, hb2⟩
      obtain ⟨n1, nc, nb, no, rfl, hnad, hnlc, hncm, hNF⟩ := hN
      unfold maxLen at hncm
      have HNF := hide hNF
      have hB2 := below_step hBr hb2
      have HC2 := hide (HC1.out.below hb2)
      have hs2 := hB2.size
      clear hNF hb2 HC1
      have Hvs : Hid (∀ i, i < (varsC out []).length → (varsC out [])[i]? = some ((varsC out []).getD i 0)) := fun i hi => by
        rw [List.getD_eq_getElem?_getD, List.getElem?_eq_getElem hi]; rfl
      generalize hvl : varsC out [] = vs at *
      have Hvl := hide hvl
      clear hvl
      go_upto_region 14 with fail
      have H0 : Hid (NumBox w2.heap.size (w2.heap.size + 1) ((w2.alloc (.cells #[] 38)).alloc (.cells #[.slice (some ⟨w2.heap.size, 0, none⟩) 0 0] 27)) ((numS vs).take 0) (.slice (some ⟨w2.heap.size, 0, none⟩) 0 0) []) := by
        refine ⟨⟨?_, rfl, fun _ h => h.elim⟩, ?_, ?_, ?_, ?_⟩
        · refine own_bare ?_ (Nat.le_refl _)
          rw [(below_alloc _ _).block _ (by simp)]
          exact heap_alloc_new _ _
        · simp [Value.ownBlock]
        · exact new_cell (World.size_alloc _ _)
        · exact new_frozen (World.size_alloc _ _)
        · simp
      have hB0 : Below w2.heap.size w2 ((w2.alloc (.cells #[] 38)).alloc (.cells #[.slice (some ⟨w2.heap.size, 0, none⟩) 0 0] 27)) := below_step (below_alloc _ _) (below_alloc _ _)
      generalize ((w2.alloc (.cells #[] 38)).alloc (.cells #[.slice (some ⟨w2.heap.size, 0, none⟩) 0 0] 27)) = w3 at *
      go_wp2_with fail
      go_loopw [56] (fun i wr => ∃ (m : Nat) (q1 : Option Addr) (q3 : Nat) (ys : List Value), m ≤ vs.length ∧ i = .int .i64 m ∧ NumBox w2.heap.size (w2.heap.size + 1) wr ((numS vs).take m) (.slice q1 m q3) ys ∧ Below w2.heap.size w2 wr) (fun i _ => vs.length - (intOf i).toNat)
      case atStart => exact ⟨0, _, _, [], Nat.zero_le _, rfl, H0.out, hB0⟩
      case round =>
        obtain ⟨m, q1, q3, ys, hm, rfl, hNB, hBx⟩ := hrel
        have HNB := hide hNB
        have hsx := hBx.size
        by_cases hmlt : m < vs.length
        · have hmlt' : (m : Int) < (vs.length : Int) := by omega
          have hn1a : n1 = some ⟨nb, no, none⟩ := hnad (by omega)
          subst hn1a
          obtain ⟨-, hqb, qc, qf, hqlt⟩ := hNB
          have HV := hide (Hvs.out m hmlt)
          have pv := grow_cell hBx _ _ (HNF.out m hmlt)
          generalize vs.getD m 0 = vm at *
          have hm1 : m + 1 ≤ maxLen := by unfold maxLen; omega
          have hm2 : (m + 1) * 48 ≤ 140737488355328 := by omega
          have Hrow : Hid (wr.ownsRow w2.heap.size 38 4 (.slice q1 m q3) m ys) := by
            have h := HNB.out.1.row
            have e : ((numS vs).take m).length = m := by simp [numS]; omega
            rw [e] at h
            exact h
          have hbx : ∀ ob, Below wr.heap.size wr (wr.alloc ob) := fun ob => below_alloc _ _
          clear hnad hqb
          have hlen1 : ((numS vs).take (m + 1)).length = m + 1 := by simp [numS]; omega
          have Hlen1 := hide hlen1
          clear hlen1
          go_wp2_with (at_builtin; refine wpList_append_gen rfl (.tmp 61) (.tmp 66) 27 rfl w2.heap.size 38 iP (.agg #[.int .i64 0, .bool false, .int .i64 0, .slice none 0 0]) 4 48 Tryz.underlying27 hiP hy0 hy1 hy2 rfl (by decide) (.slice q1 m q3) m ys rfl (owns_keep Hrow.out (fun g hg => (hbx _).block g (owns_at Hrow.out g hg).2)) _ 1 [.int .i64 vm, .bool true, .int .i64 m, .slice none 0 0] rfl (cs_pair (heap_alloc_new _ _)) hm1 hm2 (Nat.le_trans hsx (hbx _).size) ?_; intro v4 w4 ho4 hg4 hat4; obtain ⟨hNB4, hB4, qc4, qf4⟩ := numbox_next HNB.out HV.out (by omega) ho4 hg4 hat4; obtain ⟨r1, r3, hr⟩ := slice_of_sub hNB4.1.sub; rw [Hlen1.out] at hr; subst hr; have HNB4 := hide hNB4; clear hNB4 ho4 hg4 hat4)
          go_roundw
          case rel => exact ⟨m + 1, r1, r3, _, by omega, by go_num, HNB4.out, hBx.trans hB4⟩
          case measure => simp [intOf]; omega
        · have hme : m = vs.length := by omega
          subst hme
          have HNB' : Hid (SubIn wr (numS vs) (.slice q1 vs.length q3)) := by
            have := HNB.out.1.sub
            rw [List.take_of_length_le (by simp [numS])] at this
            exact this
          obtain ⟨-, -, qc, -, -⟩ := hNB
          have hB3 := below_step hB2 hBx
          have HC3 := hide (HC2.out.below hBx)
          clear HNB HC2 H0 hB0
          go_wp2_with fail
          refine (eachDN_any (w2.heap.size + 1) (subT (bnd (numS vs))) (fun t => okT t ∧ narT t) out _ wr (cloDN_any (numS vs) _ _ wr qc HNB'.out (fun p hp => (num_gd hv5 p hp).ok)) HC3.out (fun l hl => ⟨⟨(Hrest.out.1.2 l hl).gl.ok, (Hrest.out.1.2 l hl).gl.nar⟩, (Hrest.out.1.2 l hl).gr.ok, (Hrest.out.1.2 l hl).gr.nar⟩) (by omega)).mono ?_
          rintro e w5 ⟨v5, xs5, rfl, hO5, hb5⟩
          have hC5 : CIn w5 (reN out) v5 := by
            have := hO5.cl
            rw [reN, Hvl.out]
            exact this
          have hB5 := below_step hB3 hb5
          clear hO5 hb5 HC3 HNB' qc
          obtain ⟨P, hP⟩ : ∃ P, P = reN out := ⟨_, rfl⟩
          have HrP : Hid (GX P ∧ ((distC P = none ∧ normC k = (6, [])) ∨ ∃ e, distC P = some e ∧ GX e ∧ normC k = keepC out e)) := by rw [hP]; exact Hrest.out.2
          rw [← hP] at hC5
          clear hP
          obtain ⟨e1, ec, eb, eo, rfl, head5, helc, hecm, hEF⟩ := hC5
          unfold maxLen at hecm
          have HEF := hide hEF
          have hP4 := HrP.out.1.1
          clear hEF
          go_wp2_with fail
          go_loopw [11, 74] (fun v i wr => ∃ (j : Nat) (ou : Cl) (o1 : Option Addr) (o3 : Nat) (xs : List Value), j ≤ P.length ∧ i = .int .i64 j ∧ v = .slice o1 ou.length o3 ∧ ou.length ≤ j ∧ distC (P.take j) = some ou ∧ OwnL w5.heap.size (XO wr v) wr ou v xs ∧ Below w5.heap.size w5 wr) (fun _ i _ => P.length - (intOf i).toNat)
          case atStart => exact ⟨0, [], none, 0, [], Nat.zero_le _, rfl, rfl, Nat.le_refl _, rfl, ownL_nil _ _, Below.refl _ _⟩
          case round =>
            obtain ⟨j, ou, o1, o3, xs, hj, rfl, rfl, hol, hT, hO, hBo⟩ := hrel
            have HT := hide hT
            have HO := hide hO
            clear hT hO
            have hsr := hBo.size
            by_cases hlt : j < P.length
            · have hlt' : (j : Int) < (P.length : Int) := by omega
              have hj0 : (0 : Int) ≤ (j : Int) := by omega
              obtain ⟨⟨xn, ⟨⟨xv, xi⟩, xk⟩, ⟨xv', xi'⟩, xk'⟩, hx⟩ : ∃ y, P[j]? = some y := ⟨P[j]'hlt, by simp⟩
              obtain ⟨-, -, -, ⟨u3', p3', hA0⟩, -, -, u6', p6', hD0⟩ := HEF.out.at hx
              obtain ⟨p0, p1, p2, ⟨u3, p3, hA⟩, p4, p5, u6, p6, hD⟩ := (HEF.out.below hBo).at hx
              have e3 : u3' = u3 := by have := grow_cell hBo _ _ p3'; rw [p3] at this; exact (Option.some.inj this).symm
              have e6 : u6' = u6 := by have := grow_cell hBo _ _ p6'; rw [p6] at this; exact (Option.some.inj this).symm
              subst e3 e6
              have he1 : e1 = some ⟨eb, eo, none⟩ := head5 (by omega)
              subst he1
              have HA := hide hA
              have HD := hide hD
              have HA0 := hide hA0.toB
              have HD0 := hide hD0.toB
              obtain ⟨ya, yc, _, _, rfl, -, -, -, -⟩ := hA
              obtain ⟨za, zc, _, _, rfl, -, -, -, -⟩ := hD
              have Hkept : Hid ((∀ d, dstep (some ou) (xn, ((xv, xi), xk), ((xv', xi'), xk')) = some d → distC (P.take (j + 1)) = some d) ∧ (dstep (some ou) (xn, ((xv, xi), xk), ((xv', xi'), xk')) = none → normC k = (6, [])) ∧ (dstep (some ou) (xn, ((xv, xi), xk), ((xv', xi'), xk')) = none ↔ ∃ y ∈ P.take j, likeL (xn, ((xv, xi), xk), ((xv', xi'), xk')) y = true ∧ y.1 ≠ xn) ∧ (dstep (some ou) (xn, ((xv, xi), xk), ((xv', xi'), xk')) = some ou ↔ (∃ y ∈ P.take j, likeL (xn, ((xv, xi), xk), ((xv', xi'), xk')) y = true) ∧ ¬ ∃ y ∈ P.take j, likeL (xn, ((xv, xi), xk), ((xv', xi'), xk')) y = true ∧ y.1 ≠ xn) ∧ ((∀ y ∈ P.take j, likeL (xn, ((xv, xi), xk), ((xv', xi'), xk')) y = false) → dstep (some ou) (xn, ((xv, xi), xk), ((xv', xi'), xk')) = some (ou ++ [(xn, ((xv, xi), xk), ((xv', xi'), xk'))]))) := by
                have hok : ∀ y ∈ P.take j, okL y := fun y hy => (HrP.out.1.2 y (List.mem_of_mem_take hy)).okl
                have hkp := dist_kept hok HT.out
                have hst : distC (P.take (j + 1)) = dstep (some ou) (xn, ((xv, xi), xk), ((xv', xi'), xk')) := by rw [dist_take hx, HT.out]
                have h := kept_step (o' := dstep (some ou) (xn, ((xv, xi), xk), ((xv', xi'), xk'))) hkp hok (HrP.out.1.2 _ (List.mem_of_getElem? hx)).okl rfl
                refine ⟨fun d hd => by rw [hst, hd], fun hn => ?_, h.2.1, h.2.2.1, h.2.2.2⟩
                have : distC P = none := dist_stop (j := j + 1) (by rw [hst, hn])
                rcases HrP.out.2 with ⟨_, h⟩ | ⟨d, h, _⟩
                · exact h
                · rw [this] at h; cases h
              have hn1 : ou.length + 1 ≤ maxLen := by unfold maxLen; omega
              have hn2 : (ou.length + 1) * 88 ≤ 140737488355328 := by omega
              have hup := fun w => lits_upto (b := eb) (o := eo) hlt helc w
              clear hx head5 p3' p6' hA0 hD0
              simp only at *
              go_upto_region 24 with fail
              generalize hwa : wr.alloc (.cells #[.bool xn, .bool xv, .int .i64 xi, .slice ya (Fo.len xk) yc, .bool xv', .int .i64 xi', .slice za (Fo.len xk') zc] 44) = wa
              obtain ⟨g0, g1, g2, g3, g4, g5, g6, -, hba, hsa⟩ := lit_cells (T := 44) (x0 := .bool xn) (w := wr) (wr := wa) (x1 := .bool xv) (x2 := .int .i64 xi) (x3 := .slice ya (Fo.len xk) yc) (x4 := .bool xv') (x5 := .int .i64 xi') (x6 := .slice za (Fo.len xk') zc) (by rw [← hwa]; exact Below.refl _ _)
              have HX1 := hide (HA.out.below hba)
              have HX2 := hide (HD.out.below hba)
              have hBa := below_step hBo hba
              generalize hbx : wr.heap.size = bx at *
              generalize wr = wo at *
              clear hwa HA HD p0 p1 p2 p3 p4 p5 p6
              go_wp2_with fail
              go_loopw [14, 83] (fun v i wn => ∃ (t : Nat), t ≤ j ∧ i = .int .i64 t ∧ v = .bool ((P.take t).any (likeL (xn, ((xv, xi), xk), ((xv', xi'), xk')))) ∧ (∀ y ∈ P.take t, likeL (xn, ((xv, xi), xk), ((xv', xi'), xk')) y = true → y.1 = xn) ∧ Below wa.heap.size wa wn) (fun _ i _ => j - (intOf i).toNat)
              case atStart => exact ⟨0, Nat.zero_le _, rfl, rfl, fun y hy => (by simp at hy), Below.refl _ _⟩
              case round =>
                obtain ⟨t, ht, rfl, rfl, hno, hBn⟩ := hrel
                have Hno0 := hide hno
                clear hno
                replace g0 := grow_cell hBn _ _ g0
                replace g1 := grow_cell hBn _ _ g1
                replace g2 := grow_cell hBn _ _ g2
                replace g3 := grow_cell hBn _ _ g3
                replace g4 := grow_cell hBn _ _ g4
                replace g5 := grow_cell hBn _ _ g5
                replace g6 := grow_cell hBn _ _ g6
                by_cases htl : t < j
                · have htl' : (t : Int) < (j : Int) := by omega
                  have htP : t < P.length := by omega
                  obtain ⟨⟨yn, ⟨⟨yv, yi⟩, yk⟩, ⟨yv', yi'⟩, yk'⟩, hy⟩ : ∃ y, P[t]? = some y := ⟨P[t]'htP, by simp⟩
                  obtain ⟨p0, p1, p2, ⟨u3, p3, hA⟩, p4, p5, u6, p6, hD⟩ := (HEF.out.below (below_step hBa hBn)).at hy
                  have HY1 := hide hA
                  have HY2 := hide hD
                  obtain ⟨ta, tc, _, _, rfl, -, -, -, -⟩ := hA
                  obtain ⟨sa, sc, _, _, rfl, -, -, -, -⟩ := hD
                  have Htk : Hid (P.take (t + 1) = P.take t ++ [(yn, ((yv, yi), yk), ((yv', yi'), yk'))]) := by rw [Hid, List.take_add_one, hy]; rfl
                  clear hy
                  simp only at *
                  go_upto_region 28 with fail
                  generalize hwb : wr.alloc (.cells #[.bool yn, .bool yv, .int .i64 yi, .slice ta (Fo.len yk) tc, .bool yv', .int .i64 yi', .slice sa (Fo.len yk') sc] 44) = wb
                  obtain ⟨k0, k1, k2, k3, k4, k5, k6, -, hbn, hsb⟩ := lit_cells (T := 44) (x0 := .bool yn) (w := wr) (wr := wb) (x1 := .bool yv) (x2 := .int .i64 yi) (x3 := .slice ta (Fo.len yk) tc) (x4 := .bool yv') (x5 := .int .i64 yi') (x6 := .slice sa (Fo.len yk') sc) (by rw [← hwb]; exact Below.refl _ _)
                  replace hBn := below_step hBn hbn
                  replace HY1 := hide (HY1.out.below hbn)
                  replace HY2 := hide (HY2.out.below hbn)
                  replace g0 := grow_cell hbn _ _ g0
                  replace g1 := grow_cell hbn _ _ g1
                  replace g2 := grow_cell hbn _ _ g2
                  replace g3 := grow_cell hbn _ _ g3
                  replace g4 := grow_cell hbn _ _ g4
                  replace g5 := grow_cell hbn _ _ g5
                  replace g6 := grow_cell hbn _ _ g6
                  generalize wr.heap.size = by' at *
                  clear hwb hbn p0 p1 p2 p3 p4 p5 p6
                  go_wp2_with fail
                  refine (likeR_any (xn, ((xv, xi), xk), ((xv', xi'), xk')) (yn, ((yv, yi), yk), ((yv', yi'), yk')) _ _ _ _ _ (HX1.out.below hBn) (HX2.out.below hBn) HY1.out HY2.out).mono ?_
                  rintro e wn ⟨rfl, hbn⟩
                  replace hBn := below_step hBn hbn
                  replace g0 := grow_cell hbn _ _ g0
                  replace g1 := grow_cell hbn _ _ g1
                  replace g2 := grow_cell hbn _ _ g2
                  replace g3 := grow_cell hbn _ _ g3
                  replace g4 := grow_cell hbn _ _ g4
                  replace g5 := grow_cell hbn _ _ g5
                  replace g6 := grow_cell hbn _ _ g6
                  replace k0 := grow_cell hbn _ _ k0
                  replace k1 := grow_cell hbn _ _ k1
                  replace k2 := grow_cell hbn _ _ k2
                  replace k3 := grow_cell hbn _ _ k3
                  replace k4 := grow_cell hbn _ _ k4
                  replace k5 := grow_cell hbn _ _ k5
                  replace k6 := grow_cell hbn _ _ k6
                  cases hlk : likeL (xn, ((xv, xi), xk), ((xv', xi'), xk')) (yn, ((yv, yi), yk), ((yv', yi'), yk'))
                  · have Hlk := hide hlk
                    have Hno : Hid (∀ y ∈ P.take (t + 1), likeL (xn, ((xv, xi), xk), ((xv', xi'), xk')) y = true → y.1 = xn) := fun y hy h => by
                      rw [Htk.out, List.mem_append] at hy
                      rcases hy with hy | hy
                      · exact Hno0.out y hy h
                      · simp at hy; subst hy; rw [hlk] at h; cases h
                    clear hlk
                    obtain ⟨hd, hhad⟩ : ∃ hd, hd = (P.take t).any (likeL (xn, ((xv, xi), xk), ((xv', xi'), xk'))) := ⟨_, rfl⟩
                    rw [← hhad]
                    replace hhad := hhad.symm
                    cases hd
                    · have Hany : Hid ((P.take (t + 1)).any (likeL (xn, ((xv, xi), xk), ((xv', xi'), xk'))) = false) := by rw [Hid, Htk.out, List.any_append, hhad]; simp [Hlk.out]
                      clear hhad
                      go_wp2_with fail
                      refine (likeR_any (xn, ((xv, xi), xk), ((xv', xi'), xk')) (yn, ((yv, yi), yk), ((yv', yi'), yk')) _ _ _ _ _ (HX1.out.below hBn) (HX2.out.below hBn) (HY1.out.below hbn) (HY2.out.below hbn)).mono ?_
                      rintro e wn' ⟨rfl, hbn'⟩
                      rw [Hlk.out]
                      replace hBn := below_step hBn hbn'
                      clear hbn'
                      go_wp2_with fail
                      go_roundw
                      case rel => exact ⟨t + 1, by omega, by go_num, by rw [Hany.out], Hno.out, hBn⟩
                      case measure => simp [intOf]; omega
                    · have Hany : Hid ((P.take (t + 1)).any (likeL (xn, ((xv, xi), xk), ((xv', xi'), xk'))) = true) := by rw [Hid, Htk.out, List.any_append, hhad]; simp
                      clear hhad
                      go_wp2_with fail
                      go_roundw
                      case rel => exact ⟨t + 1, by omega, by go_num, by rw [Hany.out], Hno.out, hBn⟩
                      case measure => simp [intOf]; omega
                  · have Hlk := hide hlk
                    clear hlk
                    by_cases hne : xn = yn
                    · have Hno : Hid (∀ y ∈ P.take (t + 1), likeL (xn, ((xv, xi), xk), ((xv', xi'), xk')) y = true → y.1 = xn) := fun y hy h => by
                        rw [Htk.out, List.mem_append] at hy
                        rcases hy with hy | hy
                        · exact Hno0.out y hy h
                        · simp at hy; subst hy; exact hne.symm
                      subst hne
                      obtain ⟨hd, hhad⟩ : ∃ hd, hd = (P.take t).any (likeL (xn, ((xv, xi), xk), ((xv', xi'), xk'))) := ⟨_, rfl⟩
                      rw [← hhad]
                      replace hhad := hhad.symm
                      cases hd
                      · have Hany : Hid ((P.take (t + 1)).any (likeL (xn, ((xv, xi), xk), ((xv', xi'), xk'))) = true) := by rw [Hid, Htk.out, List.any_append, hhad]; simp [Hlk.out]
                        clear hhad
                        go_wp2_with fail
                        refine (likeR_any (xn, ((xv, xi), xk), ((xv', xi'), xk')) (xn, ((yv, yi), yk), ((yv', yi'), yk')) _ _ _ _ _ (HX1.out.below hBn) (HX2.out.below hBn) (HY1.out.below hbn) (HY2.out.below hbn)).mono ?_
                        rintro e wn' ⟨rfl, hbn'⟩
                        rw [Hlk.out]
                        replace hBn := below_step hBn hbn'
                        clear hbn'
                        go_wp2_with fail
                        go_roundw
                        case rel => exact ⟨t + 1, by omega, by go_num, by rw [Hany.out], Hno.out, hBn⟩
                        case measure => simp [intOf]; omega
                      · have Hany : Hid ((P.take (t + 1)).any (likeL (xn, ((xv, xi), xk), ((xv', xi'), xk'))) = true) := by rw [Hid, Htk.out, List.any_append, hhad]; simp
                        clear hhad
                        go_wp2_with fail
                        go_roundw
                        case rel => exact ⟨t + 1, by omega, by go_num, by rw [Hany.out], Hno.out, hBn⟩
                        case measure => simp [intOf]; omega
                    · have Hst : Hid (normC k = (6, [])) := Hkept.out.2.1 (Hkept.out.2.2.1.2 ⟨(yn, ((yv, yi), yk), ((yv', yi'), yk')), by
                        have hm : (yn, ((yv, yi), yk), ((yv', yi'), yk')) ∈ P.take (t + 1) := by rw [Htk.out]; simp
                        rw [show P.take (t + 1) = (P.take j).take (t + 1) by rw [List.take_take]; congr 1; omega] at hm
                        exact List.mem_of_mem_take hm, Hlk.out, fun e => hne e.symm⟩)
                      have hBfin := below_step (below_step hB5 hBa) hBn
                      have hyx : yn = !xn := by cases xn <;> cases yn <;> first | rfl | exact absurd rfl hne
                      subst hyx
                      clear hne
                      cases xn
                      all_goals
                        simp only [Bool.not_false, Bool.not_true] at *
                        go_wp2_with fail
                        go_ret2
                        exact ⟨.slice none 0 0, by rw [Hst.out]; rfl, by rw [Hst.out]; exact CIn.nil _, hBfin⟩
                · have hte : t = j := by omega
                  subst hte
                  have hbw : Below wo.heap.size wo wr := by
                    have hba2 := hba
                    rw [← hbx] at hba2
                    exact below_step hba2 hBn
                  have hsr' : w5.heap.size ≤ wo.heap.size := by rw [hbx]; exact hsr
                  obtain ⟨hd, hhad⟩ : ∃ hd, hd = (P.take t).any (likeL (xn, ((xv, xi), xk), ((xv', xi'), xk'))) := ⟨_, rfl⟩
                  rw [← hhad]
                  replace hhad := hhad.symm
                  cases hd
                  · have Hst : Hid (distC (P.take (t + 1)) = some (ou ++ [(xn, ((xv, xi), xk), ((xv', xi'), xk'))])) := Hkept.out.1 _ (Hkept.out.2.2.2.2 (fun y hy => by simpa using List.any_eq_false.1 hhad y hy))
                    have hb6 : ∀ ob, Below wo.heap.size wo (wr.alloc ob) := fun ob => below_step hbw (below_alloc _ _)
                    clear hhad
                    go_wp2_with (at_builtin; refine wpList_append_gen rfl (.tmp 106) (.tmp 108) 25 rfl w5.heap.size 44 iL (.agg #[.bool false, .bool false, .int .i64 0, .slice none 0 0, .bool false, .int .i64 0, .slice none 0 0]) 7 88 Tryz.underlying25 hi hz0 hz1 hz2 rfl (by decide) (.slice o1 ou.length o3) ou.length xs rfl (OwnL.below HO.out (hb6 _)).row _ 1 (litV (xn, ((xv, xi), xk), ((xv', xi'), xk')) (.slice ya (Fo.len xk) yc) (.slice za (Fo.len xk') zc)) rfl cs_lit hn1 hn2 (Nat.le_trans hsr' (hb6 _).size) ?_; intro v4 w4 ho4 hg4 hat4)
                    obtain ⟨hO4, hB4⟩ := ownL_more (l := (xn, ((xv, xi), xk), ((xv', xi'), xk'))) HO.out (hb6 _) hsr' (HA0.out.kept (fun q hq => (below_step hBo (hb6 _)).block q hq)) (HD0.out.kept (fun q hq => (below_step hBo (hb6 _)).block q hq)) ho4 hg4 hat4
                    obtain ⟨r1, r3, rfl⟩ := slice_of_cl hO4.cl
                    have HO4 := hide hO4
                    have hBB := hBo.trans hB4
                    clear hO4 ho4 hg4 hat4
                    go_wp2_with fail
                    go_roundw
                    case rel => exact ⟨t + 1, _, r1, r3, _, by omega, by go_num, rfl, by simp; omega, Hst.out, HO4.out, hBB⟩
                    case measure => simp [intOf]; omega
                  · have Hst : Hid (distC (P.take (t + 1)) = some ou) := Hkept.out.1 _ (Hkept.out.2.2.2.1.2 ⟨by
                      obtain ⟨y, hy, h⟩ := List.any_eq_true.1 hhad
                      exact ⟨y, hy, h⟩, fun ⟨y, hy, h, hne⟩ => hne (Hno0.out y hy h)⟩)
                    have HO2 : Hid (OwnL w5.heap.size (XO wr (.slice o1 ou.length o3)) wr ou (.slice o1 ou.length o3) xs) := (HO.out.below hbw).wide (fun q hq => ⟨by have := hq.1; have := hbw.size; omega, hq.2⟩) (fun _ h => h)
                    have hBB := below_step hBo hbw
                    clear hhad
                    go_wp2_with fail
                    go_roundw
                    case rel => exact ⟨t + 1, _, o1, o3, _, by omega, by go_num, rfl, by omega, Hst.out, HO2.out, hBB⟩
                    case measure => simp [intOf]; omega
            · have hje : j = P.length := by omega
              subst hje
              have Hn : Hid (GX ou ∧ normC k = keepC out ou) := by
                have ht := HT.out
                rw [List.take_length] at ht
                rcases HrP.out.2 with ⟨h, _⟩ | ⟨d, h, h2⟩
                · rw [ht] at h; cases h
                · rw [ht] at h; cases h; exact h2
              have HC6 := hide HO.out.cl
              have hB6 := below_step hB5 hBo
              clear HO HT
              obtain ⟨f1, fc, fb, fo, hfe, fad, flc, fcm, hFF⟩ := HC6.out
              simp only [Value.slice.injEq, true_and] at hfe
              obtain ⟨rfl, rfl⟩ := hfe
              unfold maxLen at fcm
              have HFF := hide hFF
              clear hFF
              obtain ⟨B0, hB0⟩ : ∃ B0, (decide (4 < ou.length) || decide (5 < vs.length)) = B0 := ⟨_, rfl⟩
              have HB0 := hide hB0
              clear hB0
              generalize wr = wq at *
              go_upto_region 35 with fail
              go_cut [17] (fun s17 wx => s17 = .bool B0 ∧ wq = wx)
              case first =>
                by_cases c4 : 4 < ou.length
                · have c4' : (4 : Int) < (ou.length : Int) := by omega
                  go_wp2_with fail
                  go_meet
                  case rel => exact ⟨by rw [← HB0.out, decide_eq_true c4]; rfl, rfl⟩
                have c4' : ¬ (4 : Int) < (ou.length : Int) := by omega
                by_cases c5 : 5 < vs.length
                · have c5' : (5 : Int) < (vs.length : Int) := by omega
                  go_wp2_with fail
                  go_meet
                  case rel => exact ⟨by rw [← HB0.out, decide_eq_true c5, Bool.or_true], rfl⟩
                · have c5' : ¬ (5 : Int) < (vs.length : Int) := by omega
                  go_wp2_with fail
                  go_meet
                  case rel => exact ⟨by rw [← HB0.out, decide_eq_false c4, decide_eq_false c5]; rfl, rfl⟩
              case rest =>
                obtain ⟨rfl, rfl⟩ := hcut
                have Hkb : Hid ((B0 || ou.any bigL) = true → keepC out ou = (4, [])) := fun h => keep_big (by
                  rw [← HB0.out, Bool.or_eq_true, Bool.or_eq_true, decide_eq_true_eq, decide_eq_true_eq, ← Hvl.out] at h
                  exact h)
                have Hko : Hid ((B0 || ou.any bigL) = false → keepC out ou = (0, ou)) := fun h => by
                  rw [← HB0.out, Bool.or_eq_false_iff, Bool.or_eq_false_iff, decide_eq_false_iff_not, decide_eq_false_iff_not, ← Hvl.out] at h
                  exact keep_ok h.1.1 h.1.2 h.2
                go_wp2_with fail
                go_loopw [17, 121] (fun v i wr => ∃ (t : Nat), t ≤ ou.length ∧ i = .int .i64 t ∧ v = .bool (B0 || (ou.take t).any bigL) ∧ Below wq.heap.size wq wr) (fun _ i _ => ou.length - (intOf i).toNat)
                case atStart => exact ⟨0, Nat.zero_le _, rfl, by simp, Below.refl _ _⟩
                case round =>
                  obtain ⟨t, ht, rfl, rfl, hBn⟩ := hrel
                  obtain ⟨cb, hcb⟩ : ∃ cb, (B0 || (ou.take t).any bigL) = cb := ⟨_, rfl⟩
                  rw [hcb]
                  have Hcb := hide hcb
                  clear hcb
                  by_cases htl : t < ou.length
                  · have htl' : (t : Int) < (ou.length : Int) := by omega
                    obtain ⟨⟨yn, ⟨⟨yv, yi⟩, yk⟩, ⟨yv', yi'⟩, yk'⟩, hy⟩ : ∃ y, ou[t]? = some y := ⟨ou[t]'htl, by simp⟩
                    obtain ⟨p0, p1, p2, ⟨u3, p3, hA⟩, p4, p5, u6, p6, hD⟩ := (HFF.out.below hBn).at hy
                    have hf1 : o1 = some ⟨fb, fo, none⟩ := fad (by omega)
                    subst hf1
                    have HY1 := hide hA
                    have HY2 := hide hD
                    obtain ⟨ta, tc, _, _, rfl, -, -, -, -⟩ := hA
                    obtain ⟨sa, sc, _, _, rfl, -, -, -, -⟩ := hD
                    have Hgl := hide (Hn.out.1.2 _ (List.mem_of_getElem? hy))
                    have hs1 : tszR yk ≤ 4000000000000 := Hgl.out.sl
                    have hs2 : tszR yk' ≤ 4000000000000 := Hgl.out.sr
                    have Hw1 : Hid (wrap64 (tszR yk : Nat) = (tszR yk : Nat)) := wrap64_small (by omega) (by omega)
                    have Hw2 : Hid (wrap64 (tszR yk' : Nat) = (tszR yk' : Nat)) := wrap64_small (by omega) (by omega)
                    have Hnx : Hid ((B0 || (ou.take (t + 1)).any bigL) = (cb || (decide (12 < tszR yk) || decide (12 < tszR yk')))) := by
                      rw [Hid, ← Hcb.out, List.take_add_one, hy]
                      simp [bigL, Bool.or_assoc]
                    clear hy fad
                    simp only at *
                    cases cb
                    · go_wp2_with fail
                      refine (sizeR_any (yv, yi) yk _ _ (HY1.out.alloc _)).mono ?_
                      rintro e w7 ⟨rfl, hb7⟩
                      rw [Hw1.out]
                      obtain ⟨g0, g1, g2, g3, g4, g5, g6, -, hb7', hlt7⟩ := lit_cells hb7
                      replace hBn := below_step hBn hb7'
                      replace HY2 := hide (HY2.out.below hb7')
                      clear hb7 hb7' p0 p1 p2 p3 p4 p5 p6
                      by_cases c1 : 12 < tszR yk
                      · have c1' : (12 : Int) < (tszR yk : Nat) := by omega
                        have hd1 : decide ((12 : Int) < (tszR yk : Nat)) = true := decide_eq_true c1'
                        go_wp2_with fail
                        go_roundw
                        case rel => exact ⟨t + 1, by omega, by go_num, by rw [Hnx.out, decide_eq_true c1]; rfl, hBn⟩
                        case measure => simp [intOf]; omega
                      · have c1' : ¬ (12 : Int) < (tszR yk : Nat) := by omega
                        have hd1 : decide ((12 : Int) < (tszR yk : Nat)) = false := decide_eq_false c1'
                        go_wp2_with fail
                        refine (sizeR_any (yv', yi') yk' _ _ HY2.out).mono ?_
                        rintro e w8 ⟨rfl, hb8⟩
                        rw [Hw2.out]
                        replace hBn := below_step hBn hb8
                        clear hb8
                        obtain ⟨c2, hc2⟩ : ∃ c2, decide ((12 : Int) < (tszR yk' : Nat)) = c2 := ⟨_, rfl⟩
                        have Hc2 : Hid (decide (12 < tszR yk') = c2) := by
                          rw [Hid, ← hc2, decide_eq_decide]
                          omega
                        go_wp2_with fail
                        go_roundw
                        case rel => exact ⟨t + 1, by omega, by go_num, by rw [Hnx.out, decide_eq_false c1, Hc2.out, ← hc2]; simp, hBn⟩
                        case measure => simp [intOf]; omega
                    · have hBn2 := below_step hBn (below_alloc wr (.cells #[.bool yn, .bool yv, .int .i64 yi, .slice ta (Fo.len yk) tc, .bool yv', .int .i64 yi', .slice sa (Fo.len yk') sc] 44))
                      go_wp2_with fail
                      go_roundw
                      case rel => exact ⟨t + 1, by omega, by go_num, by rw [Hnx.out]; rfl, hBn2⟩
                      case measure => simp [intOf]; omega
                  · have hte : t = ou.length := by omega
                    subst hte
                    have Hfin : Hid ((B0 || ou.any bigL) = cb) := by
                      have := Hcb.out
                      rw [List.take_length] at this
                      exact this
                    have HC7 := hide (HC6.out.below hBn)
                    have hBfin := below_step hB6 hBn
                    cases cb
                    · have Hk := hide (Hko.out Hfin.out)
                      go_wp2_with fail
                      go_ret2
                      exact ⟨.slice o1 ou.length o3, by rw [Hn.out.2, Hk.out]; rfl, by rw [Hn.out.2, Hk.out]; exact HC7.out, hBfin⟩
                    · have Hk := hide (Hkb.out Hfin.out)
                      go_wp2_with fail
                      go_ret2
                      exact ⟨.slice none 0 0, by rw [Hn.out.2, Hk.out]; rfl, by rw [Hn.out.2, Hk.out]; exact CIn.nil _, hBfin⟩

theorem normD_any (k : Cl) (a : Value) (w : World) (hS : CIn w k a) (hg : GC k) :
    Calls Tryz.prog 15 #[a] w fun e w' => ∃ v, e = .returned (.tuple #[v, .int .i64 (normC k).1]) ∧ CIn w' (normC k).2 v ∧ Below w.heap.size w w' := normD_anyX k a w hS hg.x

end Go.Proofs.YtfckelbdageenabGreatDoor
