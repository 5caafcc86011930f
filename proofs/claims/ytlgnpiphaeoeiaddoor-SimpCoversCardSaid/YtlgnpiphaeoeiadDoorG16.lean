/- P7b P7c P7d P7e P7f D7h -/
import Derived.Test.YtlgnpiphaeoeiadDoorG15
import Derived.Deep.RegionHeld3
import Derived.Laws.EntriesVeiled
import Derived.Deep.LoopGhost
namespace Go.Proofs.YtlgnpiphaeoeiadDoor
open Go.RowKit Go.Deep Go.ChangeShapes Go.WideShapes
attribute [local go_sem ↓] Go.wp_at_zero Go.wp_at_succ
theorem keep3 {w : World} {b o q i : Nat} {x0 x1 x2 v : Value} (hq : q ≠ b) (h : w.cell? ⟨q, i, none⟩ = some v) : (((w.setCell ⟨b, o, none⟩ x0).setCell ⟨b, o + 1, none⟩ x1).setCell ⟨b, o + 2, none⟩ x2).cell? ⟨q, i, none⟩ = some v :=
  (set3_other (.inl hq)).trans h
def FromPost (wy : Lt) (z : Tm) (w : World) (e : Ending) (w' : World) : Prop := ∃ (r : Tm) (a1 : Option Addr) (a3 : Nat) (ok : Bool), e = .returned (.tuple #[.agg #[.bool r.1.1, .int .i64 r.1.2, .slice a1 (Fo.len r.2) a3], .bool ok]) ∧
  tryW z wy = (if ok then some r else none) ∧ OwnV w' w.heap.size w'.heap.size r.2 (.slice a1 (Fo.len r.2) a3) ∧ Below w.heap.size w w'
set_option maxRecDepth 100000 in
set_option maxHeartbeats 4000000 in
theorem fromClo_any {s : List Int} (wy : Lt) (z : Tm) (f1 f2 : Nat) (a : Value) (w : World) (hw : Sm s wy.2.1 ∧ Sm s wy.2.2) (hn : newV wy = false) (hz : Sm s z) (h1 : TIn w f1 0 wy.2.1.1 wy.2.1.2) (h2 : TIn w f2 0 wy.2.2.1 wy.2.2.2) (hS : SIn w z.2 a) :
    Calls Tryd.prog 63 #[.agg #[.bool z.1.1, .int .i64 z.1.2, a], .pointer (some ⟨f1, 0, none⟩), .pointer (some ⟨f2, 0, none⟩)] w (FromPost wy z w) := by
  obtain ⟨wn, ⟨⟨lv, li⟩, lk⟩, ⟨lv', li'⟩, lk'⟩ := wy
  obtain ⟨⟨zv, zi⟩, zk⟩ := z
  have HS := hide hS
  have HW := hide hw
  have HZ := hide hz
  obtain ⟨za, zc, _, _, rfl, -, -, -, -⟩ := hS
  obtain ⟨c0, c1, cv, c2, hS1⟩ := h1
  obtain ⟨d0, d1, dv, d2, hS2⟩ := h2
  have HS1 := hide hS1
  have HS2 := hide hS2
  obtain ⟨la, lc, _, _, rfl, -, -, -, -⟩ := hS1
  obtain ⟨ra, rc, _, _, rfl, -, -, -, -⟩ := hS2
  simp only at *
  clear hw hz
  go_enter Tryd.func63, Tryd.ntmps63
  go_upto_region 1 with fail
  generalize hW1 : (w.alloc (.cells #[.bool zv, .int .i64 zi, .slice za (Fo.len zk) zc] 37)).alloc (.cells #[.bool false, .int .i64 0, .slice none 0 0] 37) = W1
  have hB1 : Below w.heap.size w W1 := by rw [← hW1]; exact (below_alloc _ _).alloc (by simp) _
  have hs1 : W1.heap.size = w.heap.size + 1 + 1 := by rw [← hW1]; simp
  have g0 : W1.cell? ⟨w.heap.size, 0, none⟩ = some (.bool zv) := by rw [← hW1, World.cell?_alloc_lt _ _ _ (by simp)]; exact new_cell rfl
  have g1 : W1.cell? ⟨w.heap.size, 1, none⟩ = some (.int .i64 zi) := by rw [← hW1, World.cell?_alloc_lt _ _ _ (by simp)]; exact new_cell rfl
  have g2 : W1.cell? ⟨w.heap.size, 2, none⟩ = some (.slice za (Fo.len zk) zc) := by rw [← hW1, World.cell?_alloc_lt _ _ _ (by simp)]; exact new_cell rfl
  have r0 : W1.cell? ⟨w.heap.size + 1, 0, none⟩ = some (.bool false) := by rw [← hW1]; exact new_cell (World.size_alloc _ _)
  have r1 : W1.cell? ⟨w.heap.size + 1, 1, none⟩ = some (.int .i64 0) := by rw [← hW1]; exact new_cell (World.size_alloc _ _)
  have r2 : W1.cell? ⟨w.heap.size + 1, 2, none⟩ = some (.slice none 0 0) := by rw [← hW1]; exact new_cell (World.size_alloc _ _)
  have rf : ∀ i, W1.frozen? ⟨w.heap.size + 1, i, none⟩ = false := fun i => by rw [← hW1]; exact new_frozen (World.size_alloc _ _)
  replace c0 := grow_cell hB1 _ _ c0
  replace c1 := grow_cell hB1 _ _ c1
  replace c2 := grow_cell hB1 _ _ c2
  replace d0 := grow_cell hB1 _ _ d0
  replace d1 := grow_cell hB1 _ _ d1
  replace d2 := grow_cell hB1 _ _ d2
  have Hm := hide (match_any (lv, li) lk _ (zv, zi) zk _ W1 (HS1.out.below hB1) (HS.out.below hB1) HZ.out.lw.gd.ok HZ.out.lw.gd.nar (by have := HW.out.1.lw.sz; simp only [szT] at this; omega))
  have HB1 := hide hB1
  clear hW1 hB1
  simp only at *
  go_wp2_with fail
  refine Hm.out.mono ?_
  rintro e w2 ⟨hb2, m1, m, m3, ok, rfl, hno, hyes⟩
  replace c0 := grow_cell hb2 _ _ c0
  replace c1 := grow_cell hb2 _ _ c1
  replace c2 := grow_cell hb2 _ _ c2
  replace d0 := grow_cell hb2 _ _ d0
  replace d1 := grow_cell hb2 _ _ d1
  replace d2 := grow_cell hb2 _ _ d2
  replace r0 := grow_cell hb2 _ _ r0
  replace r1 := grow_cell hb2 _ _ r1
  replace r2 := grow_cell hb2 _ _ r2
  replace g0 := grow_cell hb2 _ _ g0
  replace g1 := grow_cell hb2 _ _ g1
  replace g2 := grow_cell hb2 _ _ g2
  replace rf : ∀ i, w2.frozen? ⟨w.heap.size + 1, i, none⟩ = false := fun i => (hb2.frozen (by show w.heap.size + 1 < _; omega)).trans (rf i)
  have hz2 := hb2.size
  have HB2 := hide (below_step HB1.out hb2)
  cases ok
  · have Hex := hide (hno rfl).1
    clear hno hyes hb2
    go_wp2_with fail
    refine bodyPost_ret (v := .tuple #[.agg #[.bool false, .int .i64 0, .slice none 0 0], .bool false]) (by simp [results, Tryd.results63, go_sem, r0, r1, r2]) rfl ?_
    refine ⟨((false, 0), .nil), none, 0, false, rfl, ?_, .inl ⟨rfl, rfl⟩, set3_below (b := w.heap.size + 1) (o := 0) HB2.out (by omega)⟩
    unfold tryW
    simp only
    rw [Hex.out]
    rfl
  · obtain ⟨bs, hex, rfl, hSb⟩ := hyes rfl
    have Hex := hide hex
    have HSb := hide hSb
    have Hbs := hide (bs_small ⟨HZ.out.lw.gd, HZ.out.lw.sz⟩ hex)
    obtain ⟨⟨⟨rv, ri⟩, rk⟩, hr⟩ : ∃ r, r = subT (bnd bs) ((lv', li'), lk') := ⟨_, rfl⟩
    have Hr := hide hr
    have Hrs : Hid (Gd ((rv, ri), rk) ∧ tszR rk ≤ 4000000000000) := by
      have := sub_small Hbs.out HW.out.2.lw.gd HW.out.2.lw.sz
      rw [← hr] at this
      exact this
    have Hap := hide (apply_any bs (.slice m1 bs.length m3) (lv', li') lk' _ w2 HSb.out (fun p hp => ⟨(Hbs.out p hp).1.nar, (Hbs.out p hp).1.ok⟩) ((HS2.out.below HB2.out)) HW.out.2.lw.gd.nar)
    rw [← hr] at Hap
    clear hno hyes hex hSb hr hb2
    simp only at Hap
    go_wp2_with fail
    refine Hap.out.mono ?_
    rintro e w3 ⟨a', rfl, hO, hb3⟩
    obtain ⟨x1, x3, _, _, rfl, -, -, -, -⟩ := hO.toS
    replace r0 := grow_cell hb3 _ _ r0
    replace r1 := grow_cell hb3 _ _ r1
    replace r2 := grow_cell hb3 _ _ r2
    replace g0 := grow_cell hb3 _ _ g0
    replace g1 := grow_cell hb3 _ _ g1
    replace g2 := grow_cell hb3 _ _ g2
    replace rf : ∀ i, w3.frozen? ⟨w.heap.size + 1, i, none⟩ = false := fun i => (hb3.frozen (by show w.heap.size + 1 < _; omega)).trans (rf i)
    have hz3 := hb3.size
    have HO := hide hO
    have HB3 := hide (below_step HB2.out hb3)
    clear hO hb3 c0 c1 c2 d0 d1 d2
    go_upto_region 5 with fail
    generalize hwa : w3.alloc (.cells #[.bool rv, .int .i64 ri, .slice x1 (Fo.len rk) x3] 37) = wa
    have hba : Below w3.heap.size w3 wa := by rw [← hwa]; exact below_alloc _ _
    have l0 : wa.cell? ⟨w3.heap.size, 0, none⟩ = some (.bool rv) := by rw [← hwa]; exact new_cell rfl
    have l1 : wa.cell? ⟨w3.heap.size, 1, none⟩ = some (.int .i64 ri) := by rw [← hwa]; exact new_cell rfl
    have l2 : wa.cell? ⟨w3.heap.size, 2, none⟩ = some (.slice x1 (Fo.len rk) x3) := by rw [← hwa]; exact new_cell rfl
    replace r0 := grow_cell hba _ _ r0
    replace r1 := grow_cell hba _ _ r1
    replace r2 := grow_cell hba _ _ r2
    replace g0 := grow_cell hba _ _ g0
    replace g1 := grow_cell hba _ _ g1
    replace g2 := grow_cell hba _ _ g2
    replace rf : ∀ i, wa.frozen? ⟨w.heap.size + 1, i, none⟩ = false := fun i => (hba.frozen (by show w.heap.size + 1 < _; omega)).trans (rf i)
    have hz4 := hba.size
    have HOa : Hid (OwnV wa w2.heap.size w3.heap.size rk (.slice x1 (Fo.len rk) x3)) := HO.out.frame fun q i _ q2 => ⟨hba.cell q2, hba.frozen q2⟩
    have HBa := hide (below_step HB3.out hba)
    obtain ⟨B, hB⟩ : ∃ B, abvT ((zv, zi), zk) ((rv, ri), rk) = B := ⟨_, rfl⟩
    have Hc := hide (fun (w' : World) (hb : Below wa.heap.size wa w') => cmpP_call hB HZ.out.lw.gd Hrs.out.1 (by have := HZ.out.lw.sz; simp only [szT] at this; omega) Hrs.out.2 w' (HS.out.below (below_step HBa.out hb)) (HOa.out.toS.below hb))
    have HBB := hide hB
    have Htry : Hid (tryW ((zv, zi), zk) (wn, ((lv, li), lk), ((lv', li'), lk')) = if B then some ((rv, ri), rk) else none) := by
      unfold tryW
      simp only
      rw [Hid, Hex.out]
      simp only
      rw [hn, ← Hr.out, hB]
      rfl
    clear hwa hba hB
    have hcur : Below wa.heap.size wa wa.drew := (Below.refl _ _).drew
    have hne1 : w3.heap.size ≠ w.heap.size + 1 := by omega
    have hne2 : w.heap.size ≠ w.heap.size + 1 := by omega
    have hlt1 : w.heap.size + 1 < wa.heap.size := by omega
    have hst3 := hz3
    simp only at *
    go_region_held3 (fun w' => w'.cell? ⟨w3.heap.size, 0, none⟩ = some (.bool rv) ∧ w'.cell? ⟨w3.heap.size, 1, none⟩ = some (.int .i64 ri) ∧ w'.cell? ⟨w3.heap.size, 2, none⟩ = some (.slice x1 (Fo.len rk) x3) ∧ w'.cell? ⟨w.heap.size, 0, none⟩ = some (.bool zv) ∧ w'.cell? ⟨w.heap.size, 1, none⟩ = some (.int .i64 zi) ∧ w'.cell? ⟨w.heap.size, 2, none⟩ = some (.slice za (Fo.len zk) zc))
      (first
        | (with_reducible exact ⟨grow_cell hcur _ _ l0, grow_cell hcur _ _ l1, grow_cell hcur _ _ l2, grow_cell hcur _ _ g0, grow_cell hcur _ _ g1, grow_cell hcur _ _ g2⟩)
        | (with_reducible exact ⟨keep3 hne1 (grow_cell hcur _ _ l0), keep3 hne1 (grow_cell hcur _ _ l1), keep3 hne1 (grow_cell hcur _ _ l2), keep3 hne2 (grow_cell hcur _ _ g0), keep3 hne2 (grow_cell hcur _ _ g1), keep3 hne2 (grow_cell hcur _ _ g2)⟩)
        | go_keep)
      (first
        | (go_at_call 65; with_reducible refine (Hc.out _ hcur).mono ?_; rintro e w5 ⟨rr, rfl, hrr, hb5⟩; replace hcur := below_step hcur hb5; have e0 := grow_cell hcur _ _ r0; have e1 := grow_cell hcur _ _ r1; have e2 := grow_cell hcur _ _ r2; have ef : ∀ i, w5.frozen? ⟨w.heap.size + 1, i, none⟩ = false := fun i => (hcur.frozen hlt1).trans (rf i)))
    all_goals
      have Hend := hide hcur
      obtain ⟨t0, t1, t2⟩ := set3_cells (x := .bool rv) (y := .int .i64 ri) (z := .slice x1 (Fo.len rk) x3) e0 e1 e2
      have hz5 := Hend.out.size
      have Hbe := hide (set3_below (b := w.heap.size + 1) (o := 0) (x := .bool rv) (y := .int .i64 ri) (z := .slice x1 (Fo.len rk) x3) (below_step HBa.out Hend.out) (by omega))
      have HOe : Hid (OwnV (set3 w5 (w.heap.size + 1) 0 (.bool rv) (.int .i64 ri) (.slice x1 (Fo.len rk) x3)) w.heap.size (set3 w5 (w.heap.size + 1) 0 (.bool rv) (.int .i64 ri) (.slice x1 (Fo.len rk) x3)).heap.size rk (.slice x1 (Fo.len rk) x3)) := by
        have h1 : OwnV (set3 w5 (w.heap.size + 1) 0 (.bool rv) (.int .i64 ri) (.slice x1 (Fo.len rk) x3)) w2.heap.size w3.heap.size rk (.slice x1 (Fo.len rk) x3) := HOa.out.frame fun q i q1 q2 => ⟨(set3_other (.inl (by omega))).trans (Hend.out.cell (by show q < _; omega)), set3_frozen.trans (Hend.out.frozen (by show q < _; omega))⟩
        exact h1.mono (by omega) (by rw [set3_size]; omega)
      generalize hw6 : set3 w5 (w.heap.size + 1) 0 (.bool rv) (.int .i64 ri) (.slice x1 (Fo.len rk) x3) = w6 at t0 t1 t2 Hbe HOe
      have hw6' : ((w5.setCell { block := w.heap.size + 1, off := 0 } (.bool rv)).setCell { block := w.heap.size + 1, off := 1 } (.int .i64 ri)).setCell { block := w.heap.size + 1, off := 2 } (.slice x1 (Fo.len rk) x3) = w6 := hw6
      rw [hw6']
      clear hw6 hw6' e0 e1 e2 ef hcur hb5 g0 g1 g2 l0 l1 l2 r0 r1 r2 rf hrr
      simp only [Nat.zero_add] at t1 t2
      go_wp2_with fail
      refine bodyPost_ret (v := .tuple #[.agg #[.bool rv, .int .i64 ri, .slice x1 (Fo.len rk) x3], .bool B]) (by simp [results, Tryd.results63, go_sem, t0, t1, t2]) rfl ?_
      exact ⟨((rv, ri), rk), x1, x3, B, rfl, Htry.out, HOe.out, Hbe.out⟩
end Go.Proofs.YtlgnpiphaeoeiadDoor

namespace Go.Proofs.YtlgnpiphaeoeiadDoor
open Go.RowKit Go.Deep Go.ChangeShapes Go.WideShapes
attribute [local go_sem ↓] Go.wp_at_zero Go.wp_at_succ
theorem Tryd.info84 : (Tryd.prog.info? 84).map (fun i => (i.zero, i.size, i.bytes)) = some (some .nilFunc, 1, 8) := by kernel_rfl
abbrev fnV (f1 f2 : Nat) : Value := .func (.func 63) #[] #[.pointer (some ⟨f1, 0, none⟩), .pointer (some ⟨f2, 0, none⟩)]
def BoxT (W0 w : World) (f : Nat) (t : Tm) : Prop := ∃ a, w.cell? ⟨f, 0, none⟩ = some (.bool t.1.1) ∧ w.cell? ⟨f, 1, none⟩ = some (.int .i64 t.1.2) ∧ w.cell? ⟨f, 2, none⟩ = some a ∧ SIn W0 t.2 a
theorem BoxT.lt {W0 w : World} {f : Nat} {t : Tm} (h : BoxT W0 w f t) : f < w.heap.size := World.block_lt_of_cell? _ _ h.choose_spec.1
theorem BoxT.keep {W0 w w' : World} {f : Nat} {t : Tm} (h : BoxT W0 w f t) (hk : w'.heap[f]? = w.heap[f]?) : BoxT W0 w' f t := by
  obtain ⟨a, h0, h1, h2, h3⟩ := h
  exact ⟨a, by rw [World.cell?_of_block hk]; exact h0, by rw [World.cell?_of_block hk]; exact h1, by rw [World.cell?_of_block hk]; exact h2, h3⟩
theorem BoxT.tin {W0 w : World} {f : Nat} {t : Tm} (h : BoxT W0 w f t) (hb : Below W0.heap.size W0 w) : TIn w f 0 t.1 t.2 := by
  obtain ⟨a, h0, h1, h2, h3⟩ := h
  exact ⟨h0, h1, a, h2, h3.below hb⟩
set_option maxRecDepth 100000 in
set_option maxHeartbeats 1000000 in
theorem from_call (W0 : World) (l : Lt) (a1 d1 : Option Addr) (a3 d3 : Nat) (w : World) (hA : SIn W0 l.2.1.2 (.slice a1 (Fo.len l.2.1.2) a3)) (hD : SIn W0 l.2.2.2 (.slice d1 (Fo.len l.2.2.2) d3)) :
    Calls Tryd.prog 45 #[.agg #[.bool l.2.1.1.1, .int .i64 l.2.1.1.2, .slice a1 (Fo.len l.2.1.2) a3], .agg #[.bool l.2.2.1.1, .int .i64 l.2.2.1.2, .slice d1 (Fo.len l.2.2.2) d3]] w fun e w' => e = .returned (fnV w.heap.size (w.heap.size + 1)) ∧ BoxT W0 w' w.heap.size l.2.1 ∧ BoxT W0 w' (w.heap.size + 1) l.2.2 ∧ Below w.heap.size w w' := by
  obtain ⟨ln, ⟨⟨lv, li⟩, lk⟩, ⟨lv', li'⟩, lk'⟩ := l
  simp only at *
  have HA := hide hA
  have HD := hide hD
  clear hA hD
  go_enter Tryd.func45, Tryd.ntmps45
  go_wp2_with fail
  go_ret
  refine ⟨rfl, ⟨_, ?_, ?_, ?_, HA.out⟩, ⟨_, ?_, ?_, ?_, HD.out⟩, below_step (below_alloc _ _) (below_alloc _ _)⟩
  · rw [World.cell?_alloc_lt _ _ _ (by simp)]; exact new_cell rfl
  · rw [World.cell?_alloc_lt _ _ _ (by simp)]; exact new_cell rfl
  · rw [World.cell?_alloc_lt _ _ _ (by simp)]; exact new_cell rfl
  · exact new_cell (World.size_alloc _ _)
  · exact new_cell (World.size_alloc _ _)
  · exact new_cell (World.size_alloc _ _)
structure LeS (W0 w : World) (ws : List Lt) (v : Value) (xs : List Value) : Prop where
  row : w.ownsRow W0.heap.size 84 1 v ws.length xs
  el : ∀ (i : Nat) (wy : Lt), ws[i]? = some wy → ∃ f1 f2, xs[i]? = some (fnV f1 f2) ∧ some f1 ≠ v.ownBlock ∧ some f2 ≠ v.ownBlock ∧ BoxT W0 w f1 wy.2.1 ∧ BoxT W0 w f2 wy.2.2
  b : Below W0.heap.size W0 w
theorem LeS.nil (W0 : World) : LeS W0 W0 [] (.slice none 0 0) [] := ⟨World.ownsRow_nil _ _ _ _, fun i s h => by simp at h, Below.refl _ _⟩
theorem LeS.below {W0 w w' : World} {ws : List Lt} {v : Value} {xs : List Value} (h : LeS W0 w ws v xs) (hb : Below w.heap.size w w') : LeS W0 w' ws v xs where
  row := owns_keep h.row (fun g hg => hb.block g (owns_at h.row g hg).2)
  el := fun i wy hi => by
    obtain ⟨f1, f2, h1, h2, h3, h4, h5⟩ := h.el i wy hi
    exact ⟨f1, f2, h1, h2, h3, h4.keep (hb.block _ h4.lt), h5.keep (hb.block _ h5.lt)⟩
  b := below_step h.b hb
theorem LeS.slice {W0 w : World} {ws : List Lt} {v : Value} {xs : List Value} (h : LeS W0 w ws v xs) : ∃ z1 z3, v = .slice z1 ws.length z3 := by
  rcases h.row.2 with ⟨rfl, e⟩ | ⟨g, cap, cur, rfl, _⟩
  · exact ⟨none, 0, by rw [e]⟩
  · exact ⟨_, cap, rfl⟩
theorem LeS.push {W0 w : World} {ws : List Lt} {v : Value} {xs : List Value} (h : LeS W0 w ws v xs) {wy : Lt} {f1 f2 : Nat} {v4 : Value} {w3 w4 : World} (hb : Below w.heap.size w w3) (hf1 : w.heap.size ≤ f1) (hf2 : w.heap.size ≤ f2)
    (h1 : BoxT W0 w3 f1 wy.2.1) (h2 : BoxT W0 w3 f2 wy.2.2)
    (ho : w4.ownsRow W0.heap.size 84 1 v4 (ws.length + 1) (xs ++ [fnV f1 f2])) (hg : w3.grownBy w4 v.ownBlock) (hat : v4.ownBlock = v.ownBlock ∨ v4.ownBlock = some w3.heap.size) : LeS W0 w4 (ws ++ [wy]) v4 (xs ++ [fnV f1 f2]) := by
  have h3 := h.below hb
  have hxl : xs.length = ws.length := by have := h.row.1; omega
  have hown : ∀ q, v.ownBlock = some q → q < w.heap.size := fun q hq => (owns_at h.row q hq).2
  have ne : ∀ f, f < w3.heap.size → some f ≠ v.ownBlock → some f ≠ v4.ownBlock := fun f hf hn e => by
    rcases hat with e' | e'
    · exact hn (e.trans e')
    · rw [e'] at e; simp at e; omega
  have n1 : some f1 ≠ v.ownBlock := fun e => by have := hown f1 e.symm; omega
  have n2 : some f2 ≠ v.ownBlock := fun e => by have := hown f2 e.symm; omega
  refine ⟨by rw [List.length_append]; exact ho, fun i d hd => ?_, ⟨hg.os.trans h3.b.os, hg.tape.trans h3.b.tape, hg.output.trans h3.b.output, by have := hg.size; have := h3.b.size; omega, fun q hq => ?_⟩⟩
  · by_cases hi : i < ws.length
    · rw [List.getElem?_append_left hi] at hd
      obtain ⟨g1, g2, k1, k2, k3, k4, k5⟩ := h3.el i d hd
      exact ⟨g1, g2, by rw [List.getElem?_append_left (by omega)]; exact k1, ne _ k4.lt k2, ne _ k5.lt k3, k4.keep (hg.block _ k4.lt k2), k5.keep (hg.block _ k5.lt k3)⟩
    · have hil := (List.getElem?_eq_some_iff.1 hd).1
      simp only [List.length_append, List.length_cons, List.length_nil] at hil
      have hie : i = ws.length := by omega
      subst hie
      rw [List.getElem?_append_right (Nat.le_refl _), Nat.sub_self] at hd
      simp only [List.getElem?_cons_zero, Option.some.injEq] at hd
      subst hd
      refine ⟨f1, f2, ?_, ne _ h1.lt n1, ne _ h2.lt n2, h1.keep (hg.block _ h1.lt n1), h2.keep (hg.block _ h2.lt n2)⟩
      rw [List.getElem?_append_right (by omega), hxl, Nat.sub_self]
      rfl
  · have hqv : some q ≠ v.ownBlock := fun e => by have := owns_at h.row q e.symm; omega
    have := h3.b.size
    rw [hg.block q (by omega) hqv, h3.b.block q hq]
def ByIn (w : World) (ws : List Lt) (v : Value) : Prop :=
  ∃ (a : Option Addr) (k b o : Nat), v = .slice a ws.length k ∧ (0 < ws.length → a = some ⟨b, o, none⟩) ∧ ws.length ≤ k ∧ k ≤ maxLen ∧ ∀ i wy, ws[i]? = some wy → ∃ f1 f2, w.cell? ⟨b, o + i, none⟩ = some (fnV f1 f2) ∧ TIn w f1 0 wy.2.1.1 wy.2.1.2 ∧ TIn w f2 0 wy.2.2.1 wy.2.2.2
theorem ByIn.below {w w' : World} (hb : Below w.heap.size w w') {ws : List Lt} {v : Value} (h : ByIn w ws v) : ByIn w' ws v := by
  obtain ⟨a, k, b, o, h1, h2, h3, h4, h5⟩ := h
  refine ⟨a, k, b, o, h1, h2, h3, h4, fun i s hs => ?_⟩
  obtain ⟨f1, f2, k1, k2, k3⟩ := h5 i s hs
  exact ⟨f1, f2, grow_cell hb _ _ k1, k2.below hb, k3.below hb⟩
theorem LeS.by {W0 w : World} {ws : List Lt} {v : Value} {xs : List Value} (h : LeS W0 w ws v xs) : ByIn w ws v := by
  have hcells := fun g hg => h.row.cells (g := g) hg
  rcases h.row.2 with ⟨e, h0⟩ | ⟨g, cap, cur, e, _, _, hn, hm, _, _⟩
  · have : ws = [] := List.length_eq_zero_iff.1 h0
    rw [this, e]
    exact ⟨none, 0, 0, 0, rfl, fun h => by simp at h, Nat.le_refl _, Nat.zero_le _, fun i s h => by simp at h⟩
  · refine ⟨some ⟨g, 0, none⟩, cap, g, 0, e, fun _ => rfl, hn, hm, fun i c hc => ?_⟩
    obtain ⟨f1, f2, h1, _, _, h4, h5⟩ := h.el i c hc
    refine ⟨f1, f2, ?_, h4.tin h.b, h5.tin h.b⟩
    have := hcells g (by rw [e]; rfl) i _ h1
    rw [add_plain] at this
    exact this
def keepW (w : Lt) : List Lt := if newV w = true then [] else [w]
def byK (u : Lt) (k : Nat) : List Lt := (if 0 < k then keepW u else []) ++ (if 1 < k then keepW (turnL true u) else [])
theorem byK_next {u : Lt} {k : Nat} (hk : k < 2) : byK u (k + 1) = byK u k ++ keepW (turnL (decide (k = 1)) u) := by
  obtain rfl | rfl : k = 0 ∨ k = 1 := by omega
  · simp [byK]; rfl
  · simp [byK]
theorem keep_two {u v : Lt} : [u, v].filter (fun w => !newV w) = keepW u ++ keepW v := by
  cases h1 : newV u <;> cases h2 : newV v <;> simp [keepW, h1, h2]
theorem byL_next {us : List Lt} {j : Nat} {u : Lt} (h : us[j]? = some u) : byL (us.take (j + 1)) = byL (us.take j) ++ byK u 2 := by
  unfold byL
  rw [List.take_add_one, h, List.flatMap_append]
  congr 1
  rw [Option.toList_some, List.flatMap_cons, List.flatMap_nil, List.append_nil, keep_two]
  rfl
theorem cs_fn {w : World} {x : Value} {T : TypeId} (hx : x.oneCell' = true) : Cs (w.alloc (.cells #[x] T)) (.slice (some ⟨w.heap.size, 0, none⟩) 1 1) 1 1 [x] :=
  ⟨_, 1, rfl, rfl, by simpa using hx, fun e => by (cases e), fun ad hh j u hj => by cases hh; exact World.news_of_block (cs := #[x]) (heap_alloc_new w _) j u hj⟩
set_option maxRecDepth 100000 in
set_option maxHeartbeats 4000000 in
theorem lesseners_any {us : List Lt} {s : List Int} (hus : Uns s us) (h8 : us.length ≤ 8) (uv : Value) (w : World) (hC : CsIn w (us.map fun u => [u]) uv) (hpos : ∀ u ∈ us, u.1 = false) :
    Calls Tryd.prog 27 #[uv] w fun e w' => ∃ v, e = .returned v ∧ ByIn w' (byL us) v ∧ Below w.heap.size w w' := by
  obtain ⟨ua, uc, ub, uo, rfl, huad, hulc, hucm, hUF⟩ := hC
  unfold maxLen at hucm
  have HUF := hide hUF
  have HU := hide hus
  have HP := hide hpos
  rw [List.length_map] at *
  clear hUF hus hpos
  obtain ⟨iS, hi, hz0, hz1, hz2⟩ := info_parts Tryd.info84
  have HiS := hide (And.intro hi (And.intro hz0 (And.intro hz1 hz2)))
  clear hi hz0 hz1 hz2
  go_enter Tryd.func27, Tryd.ntmps27
  go_wp2_with fail
  go_loopw [3, 10] (fun v i wr => ∃ (j : Nat) (ws : List Lt) (z1 : Option Addr) (z3 : Nat) (xs : List Value), j ≤ us.length ∧ i = .int .i64 j ∧ v = .slice z1 ws.length z3 ∧ LeS w wr ws (.slice z1 ws.length z3) xs ∧ ws = byL (us.take j) ∧ ws.length ≤ 2 * j) (fun _ i _ => us.length - (intOf i).toNat)
  case atStart => exact ⟨0, [], none, 0, [], Nat.zero_le _, rfl, rfl, LeS.nil w, rfl, Nat.le_refl _⟩
  case round =>
    obtain ⟨j, ws, z1, z3, xs, hj, rfl, rfl, hL, hws, hwl⟩ := hrel
    have HL := hide hL
    have Hws := hide hws
    have hBr := hL.b
    clear hL hws
    by_cases hjl : j < us.length
    · have hjl' : (j : Int) < (us.length : Int) := by omega
      obtain ⟨u, hu⟩ : ∃ u, us[j]? = some u := ⟨us[j]'hjl, by simp⟩
      have Hum := hide (HU.out u (List.mem_of_getElem? hu))
      have Hup := hide (HP.out u (List.mem_of_getElem? hu))
      have Hnx := hide (byL_next hu)
      obtain ⟨cv, c0, hcv⟩ := HUF.out j [u] (by rw [List.getElem?_map, hu]; rfl)
      replace c0 := grow_cell hBr _ _ c0
      have Hun := hide (unitP_any [u] cv wr (hcv.below hBr))
      obtain ⟨ca, cc, cb, co, rfl, had, hlc, hcm, hF⟩ := hcv
      have hca : ca = some ⟨cb, co, none⟩ := had (by simp)
      subst hca
      obtain ⟨p0, p1, p2, ⟨u3, p3, hA⟩, p4, p5, u6, p6, hD⟩ := hF.at (i := 0) (l := u) rfl
      simp only [Nat.zero_mul, Nat.add_zero] at p0 p1 p2 p3 p4 p5 p6
      replace p0 := grow_cell hBr _ _ p0
      replace p1 := grow_cell hBr _ _ p1
      replace p2 := grow_cell hBr _ _ p2
      replace p3 := grow_cell hBr _ _ p3
      replace p4 := grow_cell hBr _ _ p4
      replace p5 := grow_cell hBr _ _ p5
      replace p6 := grow_cell hBr _ _ p6
      have HA := hide hA
      have HD := hide hD
      have Hlit := hide (fun (kk : Nat) (hk : kk < 2) => lit_at hk hA hD)
      obtain ⟨ya, yc, _, _, rfl, -, -, -, -⟩ := hA
      obtain ⟨za, zc, _, _, rfl, -, -, -, -⟩ := hD
      have hua : ua = some ⟨ub, uo, none⟩ := huad (by omega)
      subst hua
      have Hu1 : Hid (unitP [u] = true) := by rw [Hid, unitP, Hup.out]; rfl
      rw [Hu1.out] at Hun
      have Hbw := hide (fun (w' : World) => bothLits_any u ya za (Fo.len u.2.1.2) yc (Fo.len u.2.2.2) zc w')
      have HBr := hide hBr
      have HFw := hide hF
      clear hu had hF huad hBr
      obtain ⟨un, ⟨⟨uv, ui⟩, uk⟩, ⟨⟨uv', ui'⟩, uk'⟩⟩ := u
      unfold maxLen at hcm
      simp only [List.length_singleton] at *
      go_wp2_with fail
      refine Hun.out.mono ?_
      rintro e w1 ⟨rfl, rfl⟩
      go_wp2_with fail
      refine (Hbw.out _).mono ?_
      rintro e w2 ⟨rfl, hb2⟩
      have HL2 := hide (HL.out.below hb2)
      clear hb2 p0 p1 p2 p3 p4 p5 p6 c0
      go_wp2_with fail
      go_loopw [3, 21] (fun v i wr => ∃ (kk : Nat) (vs : List Lt) (z1 : Option Addr) (z3 : Nat) (xs : List Value), kk ≤ 2 ∧ i = .int .i64 kk ∧ v = .slice z1 vs.length z3 ∧ LeS w wr vs (.slice z1 vs.length z3) xs ∧ vs = ws ++ byK (un, ((uv, ui), uk), ((uv', ui'), uk')) kk ∧ vs.length ≤ 2 * j + kk) (fun _ i _ => 2 - (intOf i).toNat)
      case atStart => exact ⟨0, ws, z1, z3, xs, by omega, rfl, rfl, HL2.out, by simp [byK], by omega⟩
      case round =>
        obtain ⟨kk, vs, y1, y3, ys, hkk, rfl, rfl, hL, hvs, hvl⟩ := hrel
        have HLk := hide hL
        have Hvs := hide hvs
        have HBk := hide hL.b
        clear hL hvs
        by_cases hkl : kk < 2
        · have hkl' : (kk : Int) < 2 := by omega
          have hk0 : (0 : Int) ≤ (kk : Int) := by omega
          obtain ⟨b1, b3, e1, e3, hSA, hSD, hrun⟩ := Hlit.out kk hkl
          have Hnk := hide (byK_next (u := (un, ((uv, ui), uk), ((uv', ui'), uk'))) hkl)
          have Hsm := hide (turn_sm (u := (un, ((uv, ui), uk), ((uv', ui'), uk'))) (decide (kk = 1)) Hum.out)
          generalize turnL (decide (kk = 1)) (un, ((uv, ui), uk), ((uv', ui'), uk')) = ty at *
          obtain ⟨tn, ⟨⟨tv, ti⟩, tk⟩, ⟨⟨tv', ti'⟩, tk'⟩⟩ := ty
          simp only at hSA hSD hrun Hsm Hnk
          have hrun' := hrun wr
          have HSA := hide hSA
          have HSD := hide hSD
          clear hSA hSD hrun
          go_upto_region 9 with fail
          generalize hwa : wr.alloc (.cells #[.bool tn, .bool tv, .int .i64 ti, .slice b1 (Fo.len tk) b3, .bool tv', .int .i64 ti', .slice e1 (Fo.len tk') e3] 39) = wa
          obtain ⟨g0, g1, g2, g3, g4, g5, g6, -, hba, hsa⟩ := lit_cells (T := 39) (w := wr) (wr := wa) (x0 := .bool tn) (x1 := .bool tv) (x2 := .int .i64 ti) (x3 := .slice b1 (Fo.len tk) b3) (x4 := .bool tv') (x5 := .int .i64 ti') (x6 := .slice e1 (Fo.len tk') e3) (by rw [← hwa]; exact Below.refl _ _)
          have HLa := hide (HLk.out.below hba)
          have Hhv := hide (hasVars_any (tn, ((tv, ti), tk), ((tv', ti'), tk')) b1 e1 b3 e3 wa (HSA.out.below HLa.out.b) (HSD.out.below HLa.out.b) (by have := Hsm.out.1.lw.sz; simp only [szT] at this; omega) (by have := Hsm.out.2.lw.sz; simp only [szT] at this; omega))
          generalize wr.heap.size = gx at *
          clear hwa hba hrun'
          simp only at Hhv
          go_wp2_with fail
          refine Hhv.out.mono ?_
          rintro e w3 ⟨rfl, hb3⟩
          replace g1 := grow_cell hb3 _ _ g1
          replace g2 := grow_cell hb3 _ _ g2
          replace g3 := grow_cell hb3 _ _ g3
          replace g4 := grow_cell hb3 _ _ g4
          replace g5 := grow_cell hb3 _ _ g5
          replace g6 := grow_cell hb3 _ _ g6
          have HL3 := hide (HLa.out.below hb3)
          clear hb3 g0
          cases hnv : newV (tn, ((tv, ti), tk), ((tv', ti'), tk'))
          · have Hkp : Hid (vs ++ [(tn, ((tv, ti), tk), ((tv', ti'), tk'))] = ws ++ byK (un, ((uv, ui), uk), ((uv', ui'), uk')) (kk + 1)) := by
              rw [Hid, Hnk.out, Hvs.out, keepW, if_neg (by simp [hnv]), List.append_assoc]
            have Hfr := hide (from_call w (tn, ((tv, ti), tk), ((tv', ti'), tk')) b1 e1 b3 e3 w3 HSA.out HSD.out)
            simp only at Hfr
            clear hnv
            go_wp2_with fail
            refine Hfr.out.mono ?_
            rintro e w4 ⟨rfl, hx1, hx2, hb4⟩
            have hba4 := below_alloc w4 (.cells #[fnV w3.heap.size (w3.heap.size + 1)] 84)
            have hb34 := below_step hb4 hba4
            have HL4 := hide (HL3.out.below hb34)
            have hlo := HL4.out.b.size
            obtain ⟨hi, hz0, hz1, hz2⟩ := HiS.out
            have hn1 : vs.length + 1 ≤ maxLen := by unfold maxLen; omega
            have hn2 : (vs.length + 1) * 8 ≤ 140737488355328 := by omega
            have Hpush := hide (fun (v5 : Value) (w5 : World) (ho : w5.ownsRow w.heap.size 84 1 v5 (vs.length + 1) (ys ++ [fnV w3.heap.size (w3.heap.size + 1)])) (hg : (w4.alloc (.cells #[fnV w3.heap.size (w3.heap.size + 1)] 84)).grownBy w5 (Value.slice y1 vs.length y3).ownBlock) (hat : v5.ownBlock = (Value.slice y1 vs.length y3).ownBlock ∨ v5.ownBlock = some (w4.alloc (.cells #[fnV w3.heap.size (w3.heap.size + 1)] 84)).heap.size) => HL3.out.push (wy := (tn, ((tv, ti), tk), ((tv', ti'), tk'))) hb34 (Nat.le_refl _) (by omega) (hx1.keep (hba4.block _ hx1.lt)) (hx2.keep (hba4.block _ hx2.lt)) ho hg hat)
            clear hx1 hx2 hb4 hba4 hb34 g1 g2 g3 g4 g5 g6
            go_wp2_with (at_builtin; refine wpList_append_gen rfl (.tmp 29) (.tmp 35) 58 rfl w.heap.size 84 iS .nilFunc 1 8 Tryd.underlying58 hi hz0 hz1 hz2 rfl (by decide) (.slice y1 vs.length y3) vs.length ys rfl HL4.out.row _ 1 [fnV w3.heap.size (w3.heap.size + 1)] rfl (cs_fn rfl) hn1 hn2 hlo ?_; intro v5 w5 ho5 hg5 hat5)
            have hP := Hpush.out v5 w5 ho5 hg5 hat5
            obtain ⟨u1, u3, hv5⟩ := hP.slice
            subst hv5
            go_roundw
            case rel => exact ⟨kk + 1, vs ++ [(tn, ((tv, ti), tk), ((tv', ti'), tk'))], u1, u3, _, by omega, by go_num, rfl, hP, Hkp.out, by rw [List.length_append, List.length_singleton]; omega⟩
            case measure => simp [intOf]; omega
          · have Hkp : Hid (vs = ws ++ byK (un, ((uv, ui), uk), ((uv', ui'), uk')) (kk + 1)) := by
              rw [Hid, Hnk.out, keepW, if_pos (by simp [hnv]), List.append_nil]
              exact Hvs.out
            clear hnv g1 g2 g3 g4 g5 g6
            go_wp2_with fail
            go_roundw
            case rel => exact ⟨kk + 1, vs, y1, y3, ys, by omega, by go_num, rfl, HL3.out, Hkp.out, by omega⟩
            case measure => simp [intOf]; omega
        · have hk2 : kk = 2 := by omega
          subst hk2
          have Hn : Hid (vs = byL (us.take (j + 1))) := by rw [Hid, Hnx.out, ← Hws.out, Hvs.out]
          go_wp2_with fail
          go_roundw
          case rel => exact ⟨j + 1, vs, y1, y3, ys, by omega, by go_num, rfl, HLk.out, Hn.out, by omega⟩
          case measure => simp [intOf]; omega
    · have hje : j = us.length := by omega
      have Hf : Hid (ByIn wr (byL us) (.slice z1 ws.length z3)) := by
        have h := HL.out.by
        have e := Hws.out
        rw [hje, List.take_length] at e
        rw [e] at h ⊢
        exact h
      clear huad
      go_wp2_with fail
      go_ret
      exact ⟨_, rfl, Hf.out, hBr⟩
end Go.Proofs.YtlgnpiphaeoeiadDoor

namespace Go.Proofs.YtlgnpiphaeoeiadDoor
open Go.RowKit Go.Deep Go.ChangeShapes Go.WideShapes
def WL (w : World) : Fo → Nat → Nat → List Nat → Prop
  | .nil, _, _, L => L = []
  | .node _ _ x k r, b, o, L => w.cell? ⟨b, o, none⟩ = some (.bool x.1) ∧ w.cell? ⟨b, o + 1, none⟩ = some (.int .i64 x.2) ∧
      w.frozen? ⟨b, o, none⟩ = false ∧ w.frozen? ⟨b, o + 1, none⟩ = false ∧ w.frozen? ⟨b, o + 2, none⟩ = false ∧
      (∃ (g : Nat) (a : Value) (Lk Lr : List Nat), L = Lk ++ Lr ∧ w.cell? ⟨b, o + 2, none⟩ = some a ∧
        ((k = .nil ∧ a = .slice none 0 0 ∧ Lk = []) ∨ (∃ L' : List Nat, Lk = g :: L' ∧ 0 < Fo.len k ∧ Fo.len k ≤ 1000 ∧ a = .slice (some ⟨g, 0, none⟩) (Fo.len k) (Fo.len k) ∧ WL w k g 0 L')) ∧
        WL w r b (o + 3) Lr)
abbrev one (t : Tm) : Fo := .node 0 0 t.1 t.2 .nil
theorem WL.lt {w : World} : ∀ {F : Fo} {b o : Nat} {L : List Nat}, WL w F b o L → ∀ q ∈ L, q < w.heap.size
  | .nil, _, _, _, h, q, hq => by rw [WL] at h; subst h; cases hq
  | .node _ _ x k r, b, o, L, ⟨_, _, _, _, _, g, a, Lk, Lr, e, _, h3, h4⟩, q, hq => by
    subst e
    rcases List.mem_append.1 hq with hq | hq
    · rcases h3 with ⟨_, _, rfl⟩ | ⟨L', rfl, h0, _, _, hk⟩
      · cases hq
      · rcases List.mem_cons.1 hq with rfl | hq
        · match k, h0, hk with
          | .node _ _ _ _ _, _, hk => exact World.block_lt_of_cell? _ _ hk.1
        · exact hk.lt q hq
    · exact h4.lt q hq
theorem WL.toF {w : World} : ∀ {F : Fo} {b o : Nat} {L : List Nat}, WL w F b o L → FIn w F b o
  | .nil, _, _, _, _ => trivial
  | .node _ _ x k r, b, o, L, ⟨h0, h1, _, _, _, g, a, _, _, _, h2, h3, h4⟩ => by
    refine FIn.mk h0 h1 h2 ?_ h4.toF
    rcases h3 with ⟨rfl, rfl, _⟩ | ⟨_, _, _, hl, rfl, hk⟩
    · exact ⟨none, 0, 0, 0, rfl, fun h => by simp [Fo.len] at h, Nat.le_refl _, Nat.zero_le _, trivial⟩
    · exact ⟨_, _, g, 0, rfl, fun _ => rfl, Nat.le_refl _, by unfold maxLen; omega, hk.toF⟩
theorem WL.frame {w w' : World} : ∀ {F : Fo} {b o : Nat} {L : List Nat}, WL w F b o L →
    (∀ i, o ≤ i → i < o + 3 * Fo.len F → w'.cell? ⟨b, i, none⟩ = w.cell? ⟨b, i, none⟩ ∧ w'.frozen? ⟨b, i, none⟩ = w.frozen? ⟨b, i, none⟩) →
    (∀ q ∈ L, ∀ i, w'.cell? ⟨q, i, none⟩ = w.cell? ⟨q, i, none⟩ ∧ w'.frozen? ⟨q, i, none⟩ = w.frozen? ⟨q, i, none⟩) → WL w' F b o L
  | .nil, _, _, _, h, _, _ => h
  | .node _ _ x k r, b, o, L, ⟨h0, h1, f0, f1, f2, g, a, Lk, Lr, e, h2, h3, h4⟩, hc, hr => by
    have c0 := hc o (by omega) (by simp only [Fo.len]; omega)
    have c1 := hc (o + 1) (by omega) (by simp only [Fo.len]; omega)
    have c2 := hc (o + 2) (by omega) (by simp only [Fo.len]; omega)
    subst e
    refine ⟨c0.1.trans h0, c1.1.trans h1, c0.2.trans f0, c1.2.trans f1, c2.2.trans f2, g, a, Lk, Lr, rfl, c2.1.trans h2, ?_, ?_⟩
    · rcases h3 with h3 | ⟨L', rfl, e3, e4, e5, hk⟩
      · exact .inl h3
      · exact .inr ⟨L', rfl, e3, e4, e5, hk.frame (fun i _ _ => hr g (by simp) i) (fun q hq i => hr q (by simp [hq]) i)⟩
    · exact h4.frame (fun i i1 i2 => hc i (by omega) (by simp only [Fo.len]; omega)) (fun q hq i => hr q (by simp [hq]) i)
theorem WIn.toL {w : World} : ∀ {F : Fo} {b o lo hi : Nat}, WIn w F b o lo hi → ∃ L, WL w F b o L ∧ L.Nodup ∧ ∀ q ∈ L, lo ≤ q ∧ q < hi
  | .nil, _, _, _, _, _ => ⟨[], rfl, List.nodup_nil, fun _ h => by cases h⟩
  | .node _ _ x k r, b, o, lo, hi, ⟨h0, h1, f0, f1, f2, m, g, a, hm1, hm2, h2, h3, h4⟩ => by
    obtain ⟨Lr, r1, r2, r3⟩ := WIn.toL h4
    rcases h3 with ⟨e1, e2⟩ | ⟨e1, e2, e3, e4, e5, hk⟩
    · exact ⟨Lr, ⟨h0, h1, f0, f1, f2, g, a, [], Lr, rfl, h2, .inl ⟨e1, e2, rfl⟩, r1⟩, r2, fun q hq => by have := r3 q hq; omega⟩
    · obtain ⟨Lk, k1, k2, k3⟩ := WIn.toL hk
      refine ⟨(g :: Lk) ++ Lr, ⟨h0, h1, f0, f1, f2, g, a, g :: Lk, Lr, rfl, h2, .inr ⟨Lk, rfl, e3, e4, e5, k1⟩, r1⟩, ?_, fun q hq => ?_⟩
      · rw [List.nodup_append]
        refine ⟨List.nodup_cons.2 ⟨fun h => by have := k3 g h; omega, k2⟩, r2, fun p hp q hq e => ?_⟩
        subst e
        have := r3 p hq
        rcases List.mem_cons.1 hp with rfl | hp
        · omega
        · have := k3 p hp; omega
      · rcases List.mem_append.1 hq with hq | hq
        · rcases List.mem_cons.1 hq with rfl | hq
          · omega
          · have := k3 q hq; omega
        · have := r3 q hq; omega
theorem OwnV.toL {w : World} {lo hi b o : Nat} {t : Tm} {a : Value} (h : OwnV w lo hi t.2 a) (h0 : w.cell? ⟨b, o, none⟩ = some (.bool t.1.1)) (h1 : w.cell? ⟨b, o + 1, none⟩ = some (.int .i64 t.1.2)) (h2 : w.cell? ⟨b, o + 2, none⟩ = some a)
    (f0 : w.frozen? ⟨b, o, none⟩ = false) (f1 : w.frozen? ⟨b, o + 1, none⟩ = false) (f2 : w.frozen? ⟨b, o + 2, none⟩ = false) : ∃ L, WL w (one t) b o L ∧ L.Nodup ∧ ∀ q ∈ L, lo ≤ q ∧ q < hi := by
  rcases h with ⟨e1, e2⟩ | ⟨g, e1, e2, e3, e4, e5, hk⟩
  · exact ⟨[], ⟨h0, h1, f0, f1, f2, 0, a, [], [], rfl, h2, .inl ⟨e1, e2, rfl⟩, rfl⟩, List.nodup_nil, fun _ h => by cases h⟩
  · obtain ⟨Lk, k1, k2, k3⟩ := hk.toL
    refine ⟨g :: Lk, ⟨h0, h1, f0, f1, f2, g, a, g :: Lk, [], by simp, h2, .inr ⟨Lk, rfl, e3, e4, e5, k1⟩, rfl⟩, List.nodup_cons.2 ⟨fun h => by have := k3 g h; omega, k2⟩, fun q hq => ?_⟩
    rcases List.mem_cons.1 hq with rfl | hq
    · omega
    · have := k3 q hq; omega
theorem WL.child {w : World} : ∀ {F : Fo} {b o i : Nat} {L : List Nat} {y : Tm}, WL w F b o L → F.list[i]? = some y → ∃ L1 L2 L3, L = L1 ++ (L2 ++ L3) ∧ WL w (one y) b (o + 3 * i) L2 ∧
    ∀ (w' : World) (t : Tm) (L2' : List Nat), (∀ j, o ≤ j → j < o + 3 * Fo.len F → (j < o + 3 * i ∨ o + 3 * i + 3 ≤ j) → w'.cell? ⟨b, j, none⟩ = w.cell? ⟨b, j, none⟩ ∧ w'.frozen? ⟨b, j, none⟩ = w.frozen? ⟨b, j, none⟩) →
      (∀ q, q ∈ L1 ∨ q ∈ L3 → ∀ j, w'.cell? ⟨q, j, none⟩ = w.cell? ⟨q, j, none⟩ ∧ w'.frozen? ⟨q, j, none⟩ = w.frozen? ⟨q, j, none⟩) → WL w' (one t) b (o + 3 * i) L2' → WL w' (setF F i fun _ => t) b o (L1 ++ (L2' ++ L3))
  | .nil, _, _, _, _, _, _, h => by simp [Fo.list] at h
  | .node p q x k r, b, o, 0, L, y, ⟨h0, h1, f0, f1, f2, g, a, Lk, Lr, e, h2, h3, h4⟩, hy => by
    simp only [Fo.list, List.getElem?_cons_zero, Option.some.injEq] at hy
    subst hy
    refine ⟨[], Lk, Lr, by simpa using e, ⟨h0, h1, f0, f1, f2, g, a, Lk, [], by simp, h2, h3, rfl⟩, fun w' t L2' hc hr ht => ?_⟩
    obtain ⟨t0, t1, z0, z1, z2, g', a', Lk', Lr', e', t2, t3, t4⟩ := ht
    rw [WL] at t4
    subst t4
    rw [List.append_nil] at e'
    subst e'
    refine ⟨t0, t1, z0, z1, z2, g', a', L2', Lr, by simp, t2, t3, h4.frame (fun j j1 j2 => hc j (by omega) (by simp only [Fo.len]; omega) (by omega)) (fun q hq j => hr q (.inr hq) j)⟩
  | .node p q x k r, b, o, i + 1, L, y, ⟨h0, h1, f0, f1, f2, g, a, Lk, Lr, e, h2, h3, h4⟩, hy => by
    simp only [Fo.list, List.getElem?_cons_succ] at hy
    obtain ⟨L1, L2, L3, e2, k1, k2⟩ := WL.child h4 hy
    have eo : o + 3 + 3 * i = o + 3 * (i + 1) := by omega
    rw [eo] at k1 k2
    subst e2
    refine ⟨Lk ++ L1, L2, L3, by rw [e, List.append_assoc], k1, fun w' t L2' hc hr ht => ?_⟩
    have c0 := hc o (by omega) (by simp only [Fo.len]; omega) (by omega)
    have c1 := hc (o + 1) (by omega) (by simp only [Fo.len]; omega) (by omega)
    have c2 := hc (o + 2) (by omega) (by simp only [Fo.len]; omega) (by omega)
    refine ⟨c0.1.trans h0, c1.1.trans h1, c0.2.trans f0, c1.2.trans f1, c2.2.trans f2, g, a, Lk, L1 ++ (L2' ++ L3), by rw [List.append_assoc], c2.1.trans h2, ?_, ?_⟩
    · rcases h3 with h3 | ⟨L', rfl, e3, e4, e5, hk⟩
      · exact .inl h3
      · exact .inr ⟨L', rfl, e3, e4, e5, hk.frame (fun j _ _ => hr g (.inl (by simp)) j) (fun q hq j => hr q (.inl (by simp [hq])) j)⟩
    · exact k2 w' t L2' (fun j j1 j2 j3 => hc j (by omega) (by simp only [Fo.len]; omega) j3) (fun q hq j => hr q (hq.imp (fun h => by simp [h]) id) j) ht
structure Chg (b o : Nat) (L : List Nat) (w w' : World) : Prop where
  os : w'.os = w.os
  tape : w'.tape = w.tape
  output : w'.output = w.output
  size : w.heap.size ≤ w'.heap.size
  blk : ∀ q, q < w.heap.size → q ≠ b → q ∉ L → w'.heap[q]? = w.heap[q]?
  cel : ∀ i, (i < o ∨ o + 3 ≤ i) → w'.cell? ⟨b, i, none⟩ = w.cell? ⟨b, i, none⟩
  frz : ∀ q i, q < w.heap.size → w'.frozen? ⟨q, i, none⟩ = w.frozen? ⟨q, i, none⟩
theorem Chg.below {b o B : Nat} {L : List Nat} {w w' : World} (h : Chg b o L w w') (hB : B ≤ w.heap.size) (hb : B ≤ b) (hL : ∀ q ∈ L, B ≤ q) : Below B w w' :=
  ⟨h.os, h.tape, h.output, h.size, fun q hq => h.blk q (by omega) (by omega) (fun hm => by have := hL q hm; omega)⟩
theorem Chg.pre {b o : Nat} {L : List Nat} {w w1 w' : World} (hb : Below w.heap.size w w1) (hbl : b < w.heap.size) (h : Chg b o L w1 w') : Chg b o L w w' where
  os := h.os.trans hb.os
  tape := h.tape.trans hb.tape
  output := h.output.trans hb.output
  size := Nat.le_trans hb.size h.size
  blk := fun q hq h1 h2 => (h.blk q (Nat.lt_of_lt_of_le hq hb.size) h1 h2).trans (hb.block q hq)
  cel := fun i hi => (h.cel i hi).trans (hb.cell hbl)
  frz := fun q i hq => (h.frz q i (Nat.lt_of_lt_of_le hq hb.size)).trans (hb.frozen hq)
theorem chg_set {b o : Nat} {w : World} {x y z : Value} : Chg b o [] w (set3 w b o x y z) where
  os := rfl
  tape := rfl
  output := rfl
  size := by rw [set3_size]; exact Nat.le_refl _
  blk := fun q _ hq _ => by
    unfold set3
    rw [Below.heap_setCell _ _ _ _ (fun e => hq e), Below.heap_setCell _ _ _ _ (fun e => hq e), Below.heap_setCell _ _ _ _ (fun e => hq e)]
  cel := fun i hi => set3_other (.inr hi)
  frz := fun q i _ => set3_frozen
theorem Chg.wide {b o : Nat} {L L' : List Nat} {w w' : World} (h : Chg b o L w w') (hL : ∀ q ∈ L, q ∈ L') : Chg b o L' w w' :=
  ⟨h.os, h.tape, h.output, h.size, fun q hq h1 h2 => h.blk q hq h1 (fun hm => h2 (hL q hm)), h.cel, h.frz⟩
theorem Chg.up {b o g j : Nat} {L L' : List Nat} {w w' : World} (h : Chg g j L w w') (hL : ∀ q ∈ L, q ∈ L') (hg : g ∈ L') (hb : b < w.heap.size) (hbg : b ≠ g) (hbL : b ∉ L) : Chg b o L' w w' :=
  ⟨h.os, h.tape, h.output, h.size, fun q hq _ h2 => h.blk q hq (fun e => h2 (e ▸ hg)) (fun hm => h2 (hL q hm)), fun _ _ => World.cell?_of_block (h.blk b hb hbg hbL), h.frz⟩
def LesPost (us : List Lt) (t : Tm) (b o : Nat) (L : List Nat) (w : World) (e : Ending) (w' : World) : Prop :=
  (stepD us t = none ∧ e = .returned (.bool false) ∧ Below w.heap.size w w') ∨
  ∃ t', stepD us t = some t' ∧ e = .returned (.bool true) ∧ ∃ L', WL w' (one t') b o L' ∧ (b :: L').Nodup ∧ (∀ q ∈ L', q ∈ L ∨ w.heap.size ≤ q) ∧ Chg b o L w w'
theorem stepF_at {us : List Lt} {t y : Tm} : ∀ {k : Fo} {i : Nat}, (∀ i', i' < i → ∀ z, k.list[i']? = some z → stepD us z = none) → k.list[i]? = some y → stepD us y = some t → stepF us k = some (setF k i fun _ => t)
  | .nil, _, _, h, _ => by simp [Fo.list] at h
  | .node p q x k r, 0, _, h, ht => by
    simp only [Fo.list, List.getElem?_cons_zero, Option.some.injEq] at h
    subst h
    unfold stepF
    rw [ht]
    rfl
  | .node p q x k r, i + 1, hn, h, ht => by
    have h0 := hn 0 (by omega) (x, k) (by simp [Fo.list])
    have ih := stepF_at (k := r) (i := i) (fun i' hi z hz => hn (i' + 1) (by omega) z (by simpa [Fo.list] using hz)) (by simpa [Fo.list] using h) ht
    unfold stepF
    rw [h0, ih]
    rfl
theorem stepF_no {us : List Lt} : ∀ {k : Fo}, (∀ (i' : Nat) (z : Tm), k.list[i']? = some z → stepD us z = none) → stepF us k = none
  | .nil, _ => rfl
  | .node p q x k r, hn => by
    have h0 := hn 0 (x, k) (by simp [Fo.list])
    have ih := stepF_no (k := r) (fun i' z hz => hn (i' + 1) z (by simpa [Fo.list] using hz))
    unfold stepF
    rw [h0, ih]
    rfl
end Go.Proofs.YtlgnpiphaeoeiadDoor

namespace Go.Proofs.YtlgnpiphaeoeiadDoor
open Go.RowKit Go.Deep Go.ChangeShapes Go.WideShapes
attribute [local go_sem ↓] Go.wp_at_zero Go.wp_at_succ
theorem tryL_at {z : Tm} {ws : List Lt} {i : Nat} {wy : Lt} (h : ws[i]? = some wy) : tryL z (ws.drop i) = match tryW z wy with
    | some r => some r
    | none => tryL z (ws.drop (i + 1)) := by
  obtain ⟨hi, e⟩ := List.getElem?_eq_some_iff.1 h
  rw [List.drop_eq_getElem_cons hi, e]
  rfl
theorem byL_sm {s : List Int} {us : List Lt} (hus : Uns s us) : ∀ w ∈ byL us, (Sm s w.2.1 ∧ Sm s w.2.2) ∧ newV w = false := fun w hw => by
  unfold byL at hw
  obtain ⟨u, hu, hw⟩ := List.mem_flatMap.1 hw
  rw [List.mem_filter] at hw
  obtain ⟨h1, h2⟩ := hw
  refine ⟨?_, by simpa using h2⟩
  simp only [List.mem_cons, List.not_mem_nil, or_false] at h1
  rcases h1 with rfl | rfl
  · exact hus _ hu
  · exact turn_sm true (hus _ hu)
theorem Sm.arg {s : List Int} {n : Int} {k : Fo} {i : Nat} {y : Tm} (h : Sm s ((false, n), k)) (h6 : s.length ≤ 6) (hy : k.list[i]? = some y) : Sm s y := by
  have hl : (i : Int) < (Fo.len k : Int) := by
    have := (List.getElem?_eq_some_iff.1 hy).1
    rw [Fo.len_list] at this
    omega
  exact h.at h6 (p := [(i : Int)]) ((atT_cons (y := y) rfl (by omega) (by simpa using hy) hl).trans rfl)
theorem WL.below {w w' : World} (hb : Below w.heap.size w w') {F : Fo} {b o : Nat} {L : List Nat} (h : WL w F b o L) : WL w' F b o L := by
  match F, h with
  | .nil, h => exact h
  | .node p q x k r, h =>
    have hlt : b < w.heap.size := World.block_lt_of_cell? _ _ h.1
    exact h.frame (fun i _ _ => ⟨hb.cell hlt, hb.frozen hlt⟩) (fun q hq i => ⟨hb.cell (h.lt q hq), hb.frozen (h.lt q hq)⟩)
theorem les_arg {n : Int} {k : Fo} {i : Nat} {y : Tm} {b o g : Nat} {L' : List Nat} {w : World} (hW : WL w (one ((false, n), k)) b o (g :: L')) (hk : WL w k g 0 L') (h0 : 0 < Fo.len k) (h1 : Fo.len k ≤ 1000) (hc : w.cell? ⟨b, o + 2, none⟩ = some (.slice (some ⟨g, 0, none⟩) (Fo.len k) (Fo.len k)))
    (hnd : (b :: g :: L').Nodup) (hy : k.list[i]? = some y) : ∃ L2, WL w (one y) g (0 + 3 * i) L2 ∧ (g :: L2).Nodup ∧ ∀ (t : Tm) (w' : World) (L2' : List Nat), WL w' (one t) g (0 + 3 * i) L2' → (g :: L2').Nodup → (∀ q ∈ L2', q ∈ L2 ∨ w.heap.size ≤ q) → Chg g (0 + 3 * i) L2 w w' →
      ∃ L'', WL w' (one ((false, n), setF k i fun _ => t)) b o L'' ∧ (b :: L'').Nodup ∧ (∀ q ∈ L'', q ∈ g :: L' ∨ w.heap.size ≤ q) ∧ Chg b o (g :: L') w w' := by
  obtain ⟨L1, L2, L3, e, h2, h3⟩ := hk.child hy
  subst e
  have hlt := hW.lt
  have hbl : b < w.heap.size := World.block_lt_of_cell? _ _ hW.1
  have hgl : g < w.heap.size := hlt g (by simp)
  have n1 := List.nodup_cons.1 hnd
  have n2 := List.nodup_cons.1 n1.2
  have n3 := List.nodup_append.1 n2.2
  have n4 := List.nodup_append.1 n3.2.1
  have hbg : b ≠ g := fun h => n1.1 (by simp [h])
  have hb1 : b ∉ L1 := fun h => n1.1 (by simp [h])
  have hb2 : b ∉ L2 := fun h => n1.1 (by simp [h])
  have hb3 : b ∉ L3 := fun h => n1.1 (by simp [h])
  have hg1 : g ∉ L1 := fun h => n2.1 (by simp [h])
  have hg2 : g ∉ L2 := fun h => n2.1 (by simp [h])
  have hg3 : g ∉ L3 := fun h => n2.1 (by simp [h])
  have l1 : ∀ q ∈ L1, q < w.heap.size := fun q hq => hlt q (by simp [hq])
  have l3 : ∀ q ∈ L3, q < w.heap.size := fun q hq => hlt q (by simp [hq])
  have d12 : ∀ q ∈ L1, q ∉ L2 := fun q h1 h2 => n3.2.2 q h1 q (by simp [h2]) rfl
  have d13 : ∀ q ∈ L1, q ∉ L3 := fun q h1 h2 => n3.2.2 q h1 q (by simp [h2]) rfl
  have d23 : ∀ q ∈ L2, q ∉ L3 := fun q h1 h2 => n4.2.2 q h1 q h2 rfl
  refine ⟨L2, h2, List.nodup_cons.2 ⟨hg2, n4.1⟩, fun t w' L2' ht hnd' hm hC => ?_⟩
  obtain ⟨m1, m2⟩ := List.nodup_cons.1 hnd'
  have kept : ∀ q, q < w.heap.size → q ≠ g → q ∉ L2 → ∀ j, w'.cell? ⟨q, j, none⟩ = w.cell? ⟨q, j, none⟩ ∧ w'.frozen? ⟨q, j, none⟩ = w.frozen? ⟨q, j, none⟩ := fun q hq e1 e2 j => ⟨World.cell?_of_block (hC.blk q hq e1 e2), hC.frz q j hq⟩
  have hF := h3 w' t L2' (fun j _ _ hj => ⟨hC.cel j hj, hC.frz g j hgl⟩) (fun q hq j => by
    rcases hq with hq | hq
    · exact kept q (l1 q hq) (fun e => hg1 (e ▸ hq)) (d12 q hq) j
    · exact kept q (l3 q hq) (fun e => hg3 (e ▸ hq)) (fun h => d23 q h hq) j) ht
  have hkb := kept b hbl hbg hb2
  obtain ⟨w0, w1, z0, z1, z2, _⟩ := hW
  have r1 : ∀ q ∈ L2', q ∉ L1 := fun q hq h => by
    rcases hm q hq with h2 | h2
    · exact d12 q h h2
    · have := l1 q h; omega
  have r3 : ∀ q ∈ L2', q ∉ L3 := fun q hq h => by
    rcases hm q hq with h2 | h2
    · exact d23 q h2 h
    · have := l3 q h; omega
  have rb : b ∉ L2' := fun h => by
    rcases hm b h with h2 | h2
    · exact hb2 h2
    · omega
  refine ⟨g :: (L1 ++ (L2' ++ L3)), ⟨(hkb o).1.trans w0, (hkb (o + 1)).1.trans w1, (hkb o).2.trans z0, (hkb (o + 1)).2.trans z1, (hkb (o + 2)).2.trans z2, g, _, g :: (L1 ++ (L2' ++ L3)), [], by simp, (hkb (o + 2)).1.trans hc, .inr ⟨_, rfl, by rw [setF_len]; exact h0, by rw [setF_len]; exact h1, by rw [setF_len], hF⟩, rfl⟩, ?_, ?_, ?_⟩
  · refine List.nodup_cons.2 ⟨?_, List.nodup_cons.2 ⟨?_, List.nodup_append.2 ⟨n3.1, List.nodup_append.2 ⟨m2, n4.2.1, fun p hp q hq e => r3 p hp (e ▸ hq)⟩, fun p hp q hq e => ?_⟩⟩⟩
    · simp only [List.mem_cons, List.mem_append, not_or]
      exact ⟨hbg, hb1, rb, hb3⟩
    · simp only [List.mem_append, not_or]
      exact ⟨hg1, m1, hg3⟩
    · subst e
      rcases List.mem_append.1 hq with hq | hq
      · exact r1 p hq hp
      · exact d13 p hp hq
  · intro q hq
    simp only [List.mem_cons, List.mem_append] at hq ⊢
    rcases hq with h | h | h | h
    · exact .inl (.inl h)
    · exact .inl (.inr (.inl h))
    · rcases hm q h with h | h
      · exact .inl (.inr (.inr (.inl h)))
      · exact .inr h
    · exact .inl (.inr (.inr (.inr h)))
  · exact hC.up (fun q hq => by simp [hq]) (by simp) hbl hbg hb2
def LesSaid (s : List Int) (us : List Lt) (x : Bool × Int) (k : Fo) : Prop := ∀ (b o : Nat) (L : List Nat) (bv : Value) (w : World), WL w (one (x, k)) b o L → (b :: L).Nodup → Sm s (x, k) → ByIn w (byL us) bv →
    Calls Tryd.prog 43 #[.pointer (some ⟨b, o, none⟩), bv] w (LesPost us (x, k) b o L w)
set_option maxRecDepth 100000 in
set_option maxHeartbeats 4000000 in
theorem lessen_any {s : List Int} (h6 : s.length ≤ 6) {us : List Lt} (hus : Uns s us) (x : Bool × Int) (k : Fo) : LesSaid s us x k := by
  refine Fo.ind1 (p := LesSaid s us) ?_ x k
  clear x k
  intro x k ih b o L bv w hW hnd hsm hBy
  have HI := hide ih
  have HW := hide hW
  have Hnd := hide hnd
  have Hsm := hide hsm
  have HBy := hide hBy
  have HU := hide hus
  obtain ⟨ba, bc, bb, bo, rfl, hbad, hblc, hbcm, hbel⟩ := hBy
  unfold maxLen at hbcm
  have Hbel := hide hbel
  obtain ⟨q0, q1, z0, z1, z2, g, av, Lk, Lr, e, q2, hk, hr⟩ := hW
  rw [WL] at hr
  subst hr
  rw [List.append_nil] at e
  subst e
  clear ih hnd hus hbel
  obtain ⟨xv, xi⟩ := x
  simp only at q0 q1
  cases xv
  · have hav : ∃ a1 a3, av = .slice a1 (Fo.len k) a3 ∧ Fo.len k ≤ a3 ∧ a3 ≤ 1000 := by
      rcases hk with ⟨rfl, rfl, _⟩ | ⟨_, _, h1, h2, rfl, _⟩
      · exact ⟨none, 0, rfl, Nat.le_refl _, by omega⟩
      · exact ⟨_, _, rfl, Nat.le_refl _, h2⟩
    obtain ⟨a1, a3, rfl, hal, ham⟩ := hav
    have HK := hide hk
    have HQ2 := hide q2
    clear hk
    have hblt : b < w.heap.size := World.block_lt_of_cell? _ _ q0
    go_enter Tryd.func43, Tryd.ntmps43
    go_wp2_with fail
    generalize hbl : byL us = ws at *
    go_loopw [16] (fun i wr => ∃ j : Nat, j ≤ ws.length ∧ i = .int .i64 j ∧ tryUs ((false, xi), k) us = tryL ((false, xi), k) (ws.drop j) ∧ Below w.heap.size w wr) (fun i _ => ws.length - (intOf i).toNat)
    case atStart => exact ⟨0, Nat.zero_le _, rfl, by rw [List.drop_zero, ← hbl, tryL_by], Below.refl _ _⟩
    case round =>
      obtain ⟨j, hj, rfl, htr, hBr⟩ := hrel
      have Htr := hide htr
      have HBr := hide hBr
      have hbr := hBr.size
      clear htr
      have p0 := grow_cell hBr _ _ q0
      have p1 := grow_cell hBr _ _ q1
      have p2 := grow_cell hBr _ _ q2
      have f0 := (hBr.frozen (p := ⟨b, o, none⟩) hblt).trans z0
      have f1 := (hBr.frozen (p := ⟨b, o + 1, none⟩) hblt).trans z1
      have f2 := (hBr.frozen (p := ⟨b, o + 2, none⟩) hblt).trans z2
      by_cases hjl : j < ws.length
      · have hjl' : (j : Int) < (ws.length : Int) := by omega
        obtain ⟨wy, hwy⟩ : ∃ wy, ws[j]? = some wy := ⟨ws[j]'hjl, by simp⟩
        have Htj := hide (tryL_at (z := ((false, xi), k)) hwy)
        have hwm : wy ∈ byL us := by rw [hbl]; exact List.mem_of_getElem? hwy
        have Hwo := hide (byL_sm HU.out wy hwm)
        obtain ⟨f1', f2', e0, e1, e2⟩ := Hbel.out j wy hwy
        replace e0 := grow_cell hBr _ _ e0
        have hba : ba = some ⟨bb, bo, none⟩ := hbad (by omega)
        subst hba
        have HS : Hid (SIn wr k (.slice a1 (Fo.len k) a3)) := by
          have h := HW.out.toF.node.2.2.1
          obtain ⟨v, h1, h2⟩ := h
          rw [q2] at h1
          cases h1
          exact h2.below hBr
        have Hfc := hide (fromClo_any wy ((false, xi), k) f1' f2' (.slice a1 (Fo.len k) a3) wr Hwo.out.1 Hwo.out.2 Hsm.out (e1.below hBr) (e2.below hBr) HS.out)
        simp only at Hfc
        clear hwy hbad e1 e2 hwm hBr q0 q1 q2 z0 z1 z2
        go_wp2_with fail
        refine Hfc.out.mono ?_
        rintro e w1 ⟨⟨⟨rv, ri⟩, rk⟩, r1, r3, ok, rfl, hty, hO, hb1⟩
        replace p0 := grow_cell hb1 _ _ p0
        replace p1 := grow_cell hb1 _ _ p1
        replace p2 := grow_cell hb1 _ _ p2
        replace f0 := (hb1.frozen (p := ⟨b, o, none⟩) (by show b < _; omega)).trans f0
        replace f1 := (hb1.frozen (p := ⟨b, o + 1, none⟩) (by show b < _; omega)).trans f1
        replace f2 := (hb1.frozen (p := ⟨b, o + 2, none⟩) (by show b < _; omega)).trans f2
        have HO := hide hO
        have HB1 := hide (below_step HBr.out hb1)
        have hs1 := hb1.size
        simp only at *
        clear hO e0 hb1
        cases ok
        · have Hn : Hid (tryUs ((false, xi), k) us = tryL ((false, xi), k) (ws.drop (j + 1))) := by rw [Hid, Htr.out, Htj.out, hty]; rfl
          clear hty
          go_wp2_with fail
          go_roundw
          case rel => exact ⟨j + 1, by omega, by go_num, Hn.out, below_step HB1.out (below_alloc _ _)⟩
          case measure => simp [intOf]; omega
        · have Hy : Hid (tryUs ((false, xi), k) us = some ((rv, ri), rk)) := by rw [Hid, Htr.out, Htj.out, hty]; rfl
          clear hty
          go_upto_region 8 with fail
          generalize hwa : w1.alloc (.cells #[.bool rv, .int .i64 ri, .slice r1 (Fo.len rk) r3] 37) = wa
          have hba : Below w1.heap.size w1 wa := by rw [← hwa]; exact below_alloc _ _
          have l0 : wa.cell? ⟨w1.heap.size, 0, none⟩ = some (.bool rv) := by rw [← hwa]; exact new_cell rfl
          have l1 : wa.cell? ⟨w1.heap.size, 1, none⟩ = some (.int .i64 ri) := by rw [← hwa]; exact new_cell rfl
          have l2 : wa.cell? ⟨w1.heap.size, 2, none⟩ = some (.slice r1 (Fo.len rk) r3) := by rw [← hwa]; exact new_cell rfl
          replace p0 := grow_cell hba _ _ p0
          replace p1 := grow_cell hba _ _ p1
          replace p2 := grow_cell hba _ _ p2
          replace f0 := (hba.frozen (p := ⟨b, o, none⟩) (by show b < _; omega)).trans f0
          replace f1 := (hba.frozen (p := ⟨b, o + 1, none⟩) (by show b < _; omega)).trans f1
          replace f2 := (hba.frozen (p := ⟨b, o + 2, none⟩) (by show b < _; omega)).trans f2
          have Hba := hide hba
          have HBa := hide (below_step HB1.out hba)
          have Hpost : Hid (LesPost us ((false, xi), k) b o L w (.returned (.bool true)) (set3 wa b o (.bool rv) (.int .i64 ri) (.slice r1 (Fo.len rk) r3))) := by
            obtain ⟨t0, t1, t2⟩ := set3_cells (x := .bool rv) (y := .int .i64 ri) (z := .slice r1 (Fo.len rk) r3) p0 p1 p2
            have hO2 : OwnV (set3 wa b o (.bool rv) (.int .i64 ri) (.slice r1 (Fo.len rk) r3)) wr.heap.size w1.heap.size rk (.slice r1 (Fo.len rk) r3) := HO.out.frame fun q i q1 q2 => ⟨(set3_other (.inl (by omega))).trans (hba.cell q2), set3_frozen.trans (hba.frozen q2)⟩
            obtain ⟨L', k1, k2, k3⟩ := OwnV.toL (t := ((rv, ri), rk)) hO2 t0 t1 t2 (set3_frozen.trans f0) (set3_frozen.trans f1) (set3_frozen.trans f2)
            refine .inr ⟨((rv, ri), rk), by rw [stepD_sym, Hy.out], rfl, L', k1, List.nodup_cons.2 ⟨fun h => by have := k3 b h; omega, k2⟩, fun q hq => .inr (by have := k3 q hq; omega), ?_⟩
            exact (chg_set.pre HBa.out hblt).wide (fun q hq => by cases hq)
          clear hwa hba hsm
          go_wp2_with fail
          go_ret
          exact Hpost.out
      · have Hno : Hid (tryUs ((false, xi), k) us = none) := by
          rw [Hid, Htr.out, List.drop_eq_nil_iff.2 (by omega)]
          rfl
        clear q0 q1 q2 z0 z1 z2 hbad hBr
        have HByr := hide (HBy.out.below HBr.out)
        go_wp2_with fail
        clear p0 p1 p2 f0 f1 f2
        generalize wr = wo at *
        go_loopw [38] (fun i wr => ∃ q : Nat, q ≤ Fo.len k ∧ i = .int .i64 q ∧ (∀ i', i' < q → ∀ z, k.list[i']? = some z → stepD us z = none) ∧ Below w.heap.size w wr) (fun i _ => Fo.len k - (intOf i).toNat)
        case atStart => exact ⟨0, Nat.zero_le _, rfl, fun i' hi' => by omega, HBr.out⟩
        case round =>
          obtain ⟨q, hq, rfl, hnn, hBq⟩ := hrel
          have Hnn := hide hnn
          have HBq := hide hBq
          clear hnn
          by_cases hql : q < Fo.len k
          · have hql' : (q : Int) < (Fo.len k : Int) := by omega
            obtain ⟨L', rfl, hk0, hk1, hae, hkW⟩ : ∃ L', L = g :: L' ∧ 0 < Fo.len k ∧ Fo.len k ≤ 1000 ∧ Value.slice a1 (Fo.len k) a3 = .slice (some ⟨g, 0, none⟩) (Fo.len k) (Fo.len k) ∧ WL w k g 0 L' := by
              rcases HK.out with ⟨h, _⟩ | h
              · rw [h] at hql; simp [Fo.len] at hql
              · exact h
            simp only [Value.slice.injEq, true_and] at hae
            obtain ⟨rfl, rfl⟩ := hae
            obtain ⟨⟨⟨yv, yi⟩, yk⟩, hy⟩ : ∃ y, k.list[q]? = some y := ⟨k.list[q]'(by rw [Fo.len_list]; exact hql), by simp⟩
            have hsmy := Hsm.out.arg h6 hy
            have Hat := hide (fun (t : Tm) (h : stepD us ((yv, yi), yk) = some t) => stepF_at (us := us) (k := k) (i := q) Hnn.out hy h)
            obtain ⟨L2, hw2, hnd2, hass⟩ := les_arg HW.out hkW hk0 hk1 HQ2.out Hnd.out hy
            rw [show 0 + 3 * q = q * 3 by omega] at hw2 hass
            have Hass := hide hass
            have hglt : g < w.heap.size := HW.out.lt g (by simp)
            have Hcall := hide (HI.out ((yv, yi), yk) (List.mem_of_getElem? hy) g (q * 3) L2 _ wr (hw2.below hBq) hnd2 hsmy (by rw [hbl]; exact HBy.out.below hBq))
            have p2 := grow_cell hBq _ _ HQ2.out
            have p0 := grow_cell hBq _ _ HW.out.1
            have p1 := grow_cell hBq _ _ HW.out.2.1
            have Hyn : Hid (stepD us ((yv, yi), yk) = none → ∀ i', i' < q + 1 → ∀ z, k.list[i']? = some z → stepD us z = none) := fun h i' hi' z hz => by
              by_cases e : i' = q
              · subst e; rw [hy] at hz; cases hz; exact h
              · exact Hnn.out i' (by omega) z hz
            simp only at Hcall p0 p1
            clear hass hw2 hnd2 hy hkW hBq hsmy hsm
            go_wp2_with fail
            refine Hcall.out.mono ?_
            rintro e w2 (⟨hst, rfl, hb2⟩ | ⟨t', hst, rfl, L2', hw', hnd', hmem, hch⟩)
            · have Hn := hide (Hyn.out hst)
              have HB2 := hide (below_step HBq.out hb2)
              clear hst hb2
              go_wp2_with fail
              go_roundw
              case rel => exact ⟨q + 1, by omega, by go_num, Hn.out, HB2.out⟩
              case measure => simp [intOf]; omega
            · have Hpost : Hid (LesPost us ((false, xi), k) b o (g :: L') w (.returned (.bool true)) w2) := by
                have hs := HBq.out.size
                obtain ⟨L'', k1, k2, k3, k4⟩ := Hass.out t' w2 L2' hw' hnd' (fun p hp => (hmem p hp).imp id (fun h => by omega)) (hch.pre HBq.out hglt)
                refine .inr ⟨((false, xi), setF k q fun _ => t'), ?_, rfl, L'', k1, k2, k3, k4⟩
                rw [stepD_sym, Hno.out]
                simp only
                rw [Hat.out _ hst]
                rfl
              clear hst hw' hnd' hmem hch
              go_wp2_with fail
              go_ret
              exact Hpost.out
          · have hqe : q = Fo.len k := by omega
            have Hnone : Hid (stepD us ((false, xi), k) = none) := by
              rw [Hid, stepD_sym, Hno.out]
              simp only
              rw [stepF_no (fun i' z hz => Hnn.out i' (by have := (List.getElem?_eq_some_iff.1 hz).1; rw [Fo.len_list] at this; omega) z hz)]
              rfl
            clear hBq
            go_wp2_with fail
            go_ret
            exact .inl ⟨Hnone.out, rfl, HBq.out⟩
  · go_enter Tryd.func43, Tryd.ntmps43
    go_wp2_with fail
    go_ret
    exact .inl ⟨stepD_var, rfl, Below.refl _ _⟩
end Go.Proofs.YtlgnpiphaeoeiadDoor

namespace Go.Proofs.YtlgnpiphaeoeiadDoor
open Go.RowKit Go.Deep Go.ChangeShapes Go.WideShapes
attribute [local go_sem ↓] Go.wp_at_zero Go.wp_at_succ
theorem WL.toB {w : World} {X : Nat → Prop} : ∀ {F : Fo} {b o : Nat} {L : List Nat}, (∀ q ∈ L, X q) → WL w F b o L → BIn X w F b o
  | .nil, _, _, _, _, _ => trivial
  | .node _ _ x k r, b, o, L, hX, ⟨h0, h1, _, _, _, g, a, Lk, Lr, e, h2, h3, h4⟩ => by
    subst e
    refine BIn.mk h0 h1 h2 ?_ (WL.toB (fun q hq => hX q (by simp [hq])) h4)
    rcases h3 with ⟨rfl, rfl, _⟩ | ⟨L', rfl, _, hl, rfl, hk⟩
    · exact SB.nil X w
    · exact ⟨_, _, g, 0, rfl, fun _ => ⟨rfl, hX g (by simp)⟩, Nat.le_refl _, by unfold maxLen; omega, WL.toB (fun q hq => hX q (by simp [hq])) hk⟩
theorem WL.sb {w : World} {X : Nat → Prop} {t : Tm} {b o : Nat} {L : List Nat} (hX : ∀ q ∈ L, X q) (h : WL w (one t) b o L) : ∃ a1 a3, w.cell? ⟨b, o + 2, none⟩ = some (.slice a1 (Fo.len t.2) a3) ∧ SB X w t.2 (.slice a1 (Fo.len t.2) a3) := by
  obtain ⟨_, _, _, _, _, g, a, Lk, Lr, e, h2, h3, h4⟩ := h
  subst e
  rcases h3 with ⟨e1, rfl, _⟩ | ⟨L', rfl, _, hl, rfl, hk⟩
  · refine ⟨none, 0, ?_, ?_⟩
    · rw [h2, e1]; rfl
    · rw [e1]; exact SB.nil X w
  · exact ⟨_, _, h2, ⟨_, _, g, 0, rfl, fun _ => ⟨rfl, hX g (by simp)⟩, Nat.le_refl _, by unfold maxLen; omega, WL.toB (fun q hq => hX q (by simp [hq])) hk⟩⟩
theorem subT_nil {t : Tm} (h : okT t) : subT (bnd []) t = t := subT_vr h
def DownPost (us : List Lt) (t : Tm) (w : World) (e : Ending) (w' : World) : Prop := ∃ (a1 : Option Addr) (a3 : Nat), e = .returned (.agg #[.bool (downT us t).1.1, .int .i64 (downT us t).1.2, .slice a1 (Fo.len (downT us t).2) a3]) ∧ SB (New w w') w' (downT us t).2 (.slice a1 (Fo.len (downT us t).2) a3) ∧ Below w.heap.size w w'
set_option maxRecDepth 100000 in
set_option maxHeartbeats 4000000 in
theorem downP_any {s : List Int} (h6 : s.length ≤ 6) {us : List Lt} (hus : Uns s us) (x : Bool × Int) (k : Fo) (a bv : Value) (w : World) (hS : SIn w k a) (hsm : Sm s (x, k)) (hBy : ByIn w (byL us) bv) :
    Calls Tryd.prog 26 #[.agg #[.bool x.1, .int .i64 x.2, a], bv] w (DownPost us (x, k) w) := by
  obtain ⟨xv, xi⟩ := x
  have HS := hide hS
  have Hsm := hide hsm
  have HBy := hide hBy
  have HU := hide hus
  obtain ⟨ad, c, _, _, rfl, -, -, -, -⟩ := hS
  obtain ⟨ba, bc, bb, bo, rfl, -, -, -, -⟩ := hBy
  clear hsm hus
  go_enter Tryd.func26, Tryd.ntmps26
  go_wp2_with fail
  generalize hW2 : (w.alloc (.cells #[.bool xv, .int .i64 xi, .slice ad (Fo.len k) c] 37)).alloc (.cells #[.bool false, .int .i64 0, .slice none 0 0] 37) = W2
  have hB2 : Below w.heap.size w W2 := by rw [← hW2]; exact (below_alloc _ _).alloc (by simp) _
  have hs2 : W2.heap.size = w.heap.size + 1 + 1 := by rw [← hW2]; simp
  have r0 : W2.cell? ⟨w.heap.size + 1, 0, none⟩ = some (.bool false) := by rw [← hW2]; exact new_cell (World.size_alloc _ _)
  have r1 : W2.cell? ⟨w.heap.size + 1, 1, none⟩ = some (.int .i64 0) := by rw [← hW2]; exact new_cell (World.size_alloc _ _)
  have r2 : W2.cell? ⟨w.heap.size + 1, 2, none⟩ = some (.slice none 0 0) := by rw [← hW2]; exact new_cell (World.size_alloc _ _)
  have rf : ∀ i, W2.frozen? ⟨w.heap.size + 1, i, none⟩ = false := fun i => by rw [← hW2]; exact new_frozen (World.size_alloc _ _)
  have HR := hide (And.intro r0 (And.intro r1 (And.intro r2 rf)))
  have HB2 := hide hB2
  clear hW2 r0 r1 r2 rf hB2
  refine (apply_any [] _ (xv, xi) k _ W2 (SubIn.nil _) (fun p hp => by cases hp) (HS.out.below HB2.out) Hsm.out.lw.gd.nar).mono ?_
  rintro e w1 ⟨a', rfl, hO, hb1⟩
  rw [subT_nil Hsm.out.lw.gd.ok] at hO ⊢
  obtain ⟨x1, x3, _, _, rfl, -, -, -, -⟩ := hO.toS
  simp only at *
  go_upto_region 2 with fail
  generalize hwa : w1.alloc (.cells #[.bool xv, .int .i64 xi, .slice x1 (Fo.len k) x3] 37) = wa
  have hba : Below w1.heap.size w1 wa := by rw [← hwa]; exact below_alloc _ _
  have hsa : wa.heap.size = w1.heap.size + 1 := by rw [← hwa]; simp
  have hs1 := hb1.size
  have hst : ∃ L, WL wa (one ((xv, xi), k)) w1.heap.size 0 L ∧ L.Nodup ∧ ∀ q ∈ L, W2.heap.size ≤ q ∧ q < w1.heap.size := by
    refine OwnV.toL (t := ((xv, xi), k)) (hO.frame fun q i _ q2 => ⟨hba.cell q2, hba.frozen q2⟩) ?_ ?_ ?_ ?_ ?_ ?_
    · rw [← hwa]; exact new_cell rfl
    · rw [← hwa]; exact new_cell rfl
    · rw [← hwa]; exact new_cell rfl
    · rw [← hwa]; exact new_frozen rfl
    · rw [← hwa]; exact new_frozen rfl
    · rw [← hwa]; exact new_frozen rfl
  obtain ⟨L0, hL0, hnd0, hlo0⟩ := hst
  have HBa := hide (below_step HB2.out (below_step hb1 hba))
  have HB2a := hide (below_step hb1 hba)
  have HL0 := hide (And.intro hL0 (And.intro (List.nodup_cons.2 ⟨fun h => by have := hlo0 _ h; omega, hnd0⟩ : (w1.heap.size :: L0).Nodup) (fun q (hq : q ∈ L0) => (hlo0 q hq).1)))
  have hb1w : W2.heap.size ≤ w1.heap.size := hs1
  generalize w1.heap.size = g at *
  clear hO hb1 hba hwa hL0 hnd0 hlo0
  go_loopg [] (msr ((xv, xi), k)) (fun m wr => ∃ (t : Tm) (L : List Nat), WL wr (one t) g 0 L ∧ (g :: L).Nodup ∧ (∀ q ∈ L, W2.heap.size ≤ q) ∧ Sm s t ∧ downT us t = downT us ((xv, xi), k) ∧ msr t = m ∧ Below W2.heap.size W2 wr)
  case atStart => exact ⟨((xv, xi), k), L0, HL0.out.1, HL0.out.2.1, HL0.out.2.2, Hsm.out, rfl, rfl, HB2a.out⟩
  case round =>
    obtain ⟨t, L, hWt, hnd, hlo, hst, hdt, hm, hBr⟩ := hrel
    have HWt := hide hWt
    have Hlo := hide hlo
    have Hst := hide hst
    have Hdt := hide hdt
    have Hm := hide hm
    have HBr := hide hBr
    have Hc := hide (lessen_any h6 HU.out t.1 t.2 g 0 L _ wr hWt hnd hst (HBy.out.below (HB2.out.trans (hBr.mono (by omega)))))
    clear hWt hnd hlo hst hdt hm hBr
    go_wp2_with fail
    refine Hc.out.mono ?_
    rintro e w2 (⟨hst, rfl, hb2⟩ | ⟨t', hst, rfl, L', hw', hnd', hmem, hch⟩)
    · have hB2 := below_step HBr.out hb2
      obtain ⟨r0, r1, r2, rf⟩ := HR.out
      replace r0 := grow_cell hB2 _ _ r0
      replace r1 := grow_cell hB2 _ _ r1
      replace r2 := grow_cell hB2 _ _ r2
      replace rf : ∀ i, w2.frozen? ⟨w.heap.size + 1, i, none⟩ = false := fun i => (hB2.frozen (by show w.heap.size + 1 < _; omega)).trans (rf i)
      have hWf := HWt.out.below hb2
      have hlt := hWf.lt
      obtain ⟨y1, y3, c2, hSB⟩ := hWf.sb (X := fun q => W2.heap.size ≤ q ∧ q < w2.heap.size) (fun q hq => ⟨Hlo.out q hq, hlt q hq⟩)
      have c0 := hWf.1
      have c1 := hWf.2.1
      have Hd : Hid (downT us ((xv, xi), k) = t) := by rw [Hid, ← Hdt.out, downT_stop hst]
      obtain ⟨⟨tv, ti⟩, tk⟩ := t
      simp only at c0 c1 c2 hSB
      have HSB := hide hSB
      have HBf := hide (below_step HB2.out hB2)
      have hz2 := hB2.size
      clear hWf hlt hSB hst hb2 hB2
      simp only [Nat.zero_add] at c0 c1 c2
      go_wp2_with fail
      refine bodyPost_ret (v := .agg #[.bool tv, .int .i64 ti, .slice y1 (Fo.len tk) y3]) (by simp [results, Tryd.results26, go_sem, r0, r1, r2]) rfl ?_
      unfold DownPost
      rw [Hd.out]
      refine ⟨y1, y3, rfl, ?_, set3_below (b := w.heap.size + 1) (o := 0) HBf.out (by omega)⟩
      refine HSB.out.frame (fun q hq => ⟨by omega, ?_⟩) (fun q i hq => set3_other (w := w2) (b := w.heap.size + 1) (o := 0) (.inl (by omega)))
      have := hq.2
      simp only [World.size_setCell]
      exact this
    · obtain ⟨_, _, _, _, _, _, _, _, _, ha, hs'⟩ := stepD_some h6 HU.out Hst.out hst
      have hless := msr_less Hst.out.lw hs'.lw ha
      have Hd : Hid (downT us t' = downT us ((xv, xi), k)) := by rw [Hid, ← Hdt.out, downT_step h6 HU.out Hst.out hst]
      have hBs := HBr.out.size
      have HB2' := hide (HBr.out.trans (hch.below hBs hb1w Hlo.out))
      have Hlo' : Hid (∀ q ∈ L', W2.heap.size ≤ q) := fun q hq => by
        rcases hmem q hq with h | h
        · exact Hlo.out q h
        · omega
      have Hw := hide (And.intro hw' hnd')
      have Hs' := hide hs'
      have hm' := Hm.out
      clear hst hw' hnd' hmem hch hs' ha
      go_wp2_with fail
      go_roundg (msr t')
      case measure => omega
      case rel => exact ⟨t', L', Hw.out.1, Hw.out.2, Hlo'.out, Hs'.out, Hd.out, rfl, HB2'.out⟩
end Go.Proofs.YtlgnpiphaeoeiadDoor

namespace Go.Proofs.YtlgnpiphaeoeiadDoor
open Go.RowKit Go.Deep Go.ChangeShapes Go.WideShapes
theorem down_gx {s : List Int} (h6 : s.length ≤ 6) {us : List Lt} (hus : Uns s us) {c : Cl} (hc : SmC s c) (h4 : c.length ≤ 4) : GX (c.map (mapL (downT us))) :=
by
  have h := GC.x ((down_sm h6 hus hc).gc (by simpa [downC] using h4))
  unfold downC at h
  exact h
def RwPost (us : List Lt) (c : Cl) (w : World) (e : Ending) (w' : World) : Prop := ∃ v, e = .returned (.tuple #[v, .int .i64 (rwC us c).1]) ∧ CIn w' (rwC us c).2 v ∧ Below w.heap.size w w'
end Go.Proofs.YtlgnpiphaeoeiadDoor
