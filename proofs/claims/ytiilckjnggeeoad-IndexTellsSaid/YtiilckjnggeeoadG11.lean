/- RSolP P8d MatchP Alive2 RSolQ CIn -/
import Derived.Test.YtiilckjnggeeoadG10
import Derived.Deep.LoopGhost
namespace Go.Proofs.Ytiilckjnggeeoad
open Go.RowKit Go.Deep Go.ChangeShapes Go.WideShapes
def foOf : List Tm → Fo
  | [] => .nil
  | t :: ts => .node 0 0 t.1 t.2 (foOf ts)
theorem foOf_list : ∀ ts : List Tm, (foOf ts).list = ts
  | [] => rfl
  | t :: ts => by simp [foOf, Fo.list, foOf_list ts]
theorem foOf_len (ts : List Tm) : Fo.len (foOf ts) = ts.length := by rw [← Fo.len_list, foOf_list]
theorem CellsOf.app {X : Nat → Prop} {w : World} {b : List Tm} {ys : List Value} (h' : CellsOf X w (foOf b) ys) : ∀ {a : List Tm} {xs : List Value}, CellsOf X w (foOf a) xs → CellsOf X w (foOf (a ++ b)) (xs ++ ys)
  | [], xs, h => by
    have e : xs = [] := h
    subst e
    exact h'
  | t :: a, _, ⟨v, zs, h1, h2, h3⟩ => by
    subst h1
    exact ⟨v, zs ++ ys, rfl, h2, CellsOf.app h' h3⟩
def Row (lo : Nat) (w : World) (v : Value) (ts : List Tm) : Prop := ∃ xs, w.ownsRow lo 33 3 v ts.length xs ∧ CellsOf (fun q => q < lo) w (foOf ts) xs
def Apart (v u : Value) : Prop := ∀ g, v.ownBlock = some g → u.ownBlock ≠ some g
theorem Row.nil (lo : Nat) (w : World) : Row lo w (.slice none 0 0) [] := ⟨[], World.ownsRow_nil _ _ _ _, rfl⟩
theorem Row.alloc {lo : Nat} {w : World} {v : Value} {ts : List Tm} (h : Row lo w v ts) (hl : lo ≤ w.heap.size) (ob : Obj) : Row lo (w.alloc ob) v ts := by
  obtain ⟨xs, h1, h2⟩ := h
  exact ⟨xs, owns_keep h1 (fun g hg => Below.heap_alloc _ _ _ (owns_at h1 g hg).2), h2.frame (fun _ h => h) (fun q i hq => World.cell?_alloc_lt _ _ _ (by show q < _; omega))⟩
structure Side (wx w : World) (va : Value) (a : List Tm) (vb : Value) (b : List Tm) : Prop where
  below : Below wx.heap.size wx w
  ra : Row wx.heap.size w va a
  rb : Row wx.heap.size w vb b
  ap : Apart va vb
end Go.Proofs.Ytiilckjnggeeoad

namespace Go.Proofs.Ytiilckjnggeeoad
open Go.RowKit Go.Deep Go.ChangeShapes Go.WideShapes
attribute [local go_sem ↓] Go.wp_at_zero Go.wp_at_succ
def TsR (lo : Nat) (w : World) (v : Value) (L : List Tm) : Prop := ∃ xs, w.ownsRow lo 33 3 v L.length xs ∧ CellsOf (fun q => q < w.heap.size ∧ some q ≠ v.ownBlock) w (foOf L) xs
theorem TsR.none (lo : Nat) (w : World) : TsR lo w (.slice none 0 0) [] := ⟨[], World.ownsRow_nil _ _ _ _, rfl⟩
theorem TsR.below {lo : Nat} {w w' : World} {v : Value} {L : List Tm} (h : TsR lo w v L) (hb : Below w.heap.size w w') : TsR lo w' v L := by
  obtain ⟨xs, h1, h2⟩ := h
  exact ⟨xs, owns_keep h1 (fun g hg => hb.block g (owns_at h1 g hg).2), h2.frame (fun q hq => ⟨Nat.lt_of_lt_of_le hq.1 hb.size, hq.2⟩) (fun q i hq => hb.cell (p := ⟨q, i, Option.none⟩) hq.1)⟩
theorem TsR.sin {lo : Nat} {w : World} {v : Value} {L : List Tm} (h : TsR lo w v L) : SIn w (foOf L) v := by
  obtain ⟨xs, h1, h2⟩ := h
  rw [← foOf_len] at h1
  exact (row_sb (Y := fun _ => True) h1 h2 (fun _ _ => trivial) (fun _ _ => trivial)).toS
theorem TsR.own {lo : Nat} {w : World} {v : Value} {L : List Tm} (h : TsR lo w v L) : ∀ g, v.ownBlock = some g → lo ≤ g ∧ g < w.heap.size := by
  obtain ⟨xs, h1, _⟩ := h
  exact owns_at h1
theorem TsR.slice {lo : Nat} {w : World} {v : Value} {L : List Tm} (h : TsR lo w v L) : ∃ z1 z3, v = .slice z1 L.length z3 := by
  obtain ⟨xs, h1, _⟩ := h
  exact slice_of_owns h1
theorem TsR.snoc {lo : Nat} {w w3 w4 : World} {v : Value} {L : List Tm} {xs : List Value} {t : Tm} {a : Value} {g cap : Nat} {ob : Obj}
    (h1 : w.ownsRow lo 33 3 v L.length xs) (h2 : CellsOf (fun q => q < w.heap.size ∧ some q ≠ v.ownBlock) w (foOf L) xs) (hb : Below w.heap.size w w3) (hk : SB (fun q => w.heap.size ≤ q ∧ q < w3.heap.size) w3 t.2 a)
    (ho : w4.ownsRow lo 33 3 (.slice (some ⟨g, 0, Option.none⟩) (L.length + 1) cap) (L.length + 1) (xs ++ [.bool t.1.1, .int .i64 t.1.2, a])) (hg : (w3.alloc ob).grownBy w4 v.ownBlock) (hat : v.ownBlock = some g ∨ g = w3.heap.size + 1) :
    TsR lo w4 (.slice (some ⟨g, 0, Option.none⟩) (L.length + 1) cap) (L ++ [t]) := by
  have hs := hb.size
  have hs4 := hg.size
  rw [World.size_alloc] at hs4
  have hown := owns_at h1
  have far : ∀ q, q < w3.heap.size → some q ≠ v.ownBlock → w4.heap[q]? = w3.heap[q]? := fun q hq hn => by
    rw [hg.block q (by rw [World.size_alloc]; omega) hn, Below.heap_alloc _ _ _ hq]
  refine ⟨xs ++ [.bool t.1.1, .int .i64 t.1.2, a], by rw [List.length_append]; exact ho, CellsOf.app (b := [t]) ⟨a, [], rfl, ?_, rfl⟩ ?_⟩
  · refine hk.frame (fun q hq => ⟨by omega, fun e => ?_⟩) (fun q i hq => ?_)
    · simp [Value.ownBlock] at e
      subst e
      rcases hat with e | e
      · have := (hown _ e).2; omega
      · omega
    · have h9 := far q hq.2 (fun e => by have := (hown _ e.symm).2; omega)
      exact World.cell?_of_block h9
  · have hin : ∀ q, (q < w.heap.size ∧ some q ≠ v.ownBlock) → (q < w4.heap.size ∧ some q ≠ (Value.slice (some ⟨g, 0, Option.none⟩) (L.length + 1) cap).ownBlock) := fun q hq => ⟨by omega, fun e => by
      simp [Value.ownBlock] at e
      subst e
      rcases hat with e | e
      · exact hq.2 e.symm
      · omega⟩
    have hr : ∀ q i, (q < w.heap.size ∧ some q ≠ v.ownBlock) → w4.cell? ⟨q, i, Option.none⟩ = w.cell? ⟨q, i, Option.none⟩ := fun q i hq =>
      World.cell?_of_block (a := ⟨q, i, Option.none⟩) ((far q (by omega) hq.2).trans (hb.block q hq.1))
    exact h2.frame hin hr
def partT (t : Tm) (p : List Int) : Tm := (atT p t.1 t.2).getD ((false, 0), .nil)
theorem part_is {p : List Int} {x z : Bool × Int} {k m : Fo} {b : Bool} (h : AtIs p x k b z m) : partT (x, k) p = (z, m) := by
  unfold partT
  rw [h.1]
  cases b with
  | true => rfl
  | false =>
    obtain ⟨rfl, rfl⟩ := h.2 rfl
    rfl
def prtT (t : Tm) : List Tm := (placesT t.1 t.2 []).map (partT t)
theorem ways_keep {w2 wr : World} {lo B : Nat} {vo : Value} {ys : List Value} {Z : List (List Int)} {g0 : Option Nat} (h1 : w2.ownsRow lo 22 1 vo ys.length ys) (h2 : Pw w2 lo vo.ownBlock ys Z) (hf : Fr w2 wr g0 Option.none) (hB : ∀ g, g0 = some g → g < B) (hl : B ≤ lo) : WIn2 wr Z vo := by
  have k1 : wr.ownsRow lo 22 1 vo ys.length ys := owns_keep h1 (fun g hg => by
    have := owns_at h1 g hg
    exact hf.block g this.2 (fun e => by have := hB g e.symm; omega) (fun e => by cases e))
  exact ways_in k1 (h2.keep hf (fun q h3 h4 h5 => ⟨fun e => by have := hB q e.symm; omega, fun e => by (cases e), h5⟩) (Nat.le_refl _))
set_option maxRecDepth 100000 in
set_option maxHeartbeats 2000000 in
theorem addParts_any (x : Bool × Int) (k : Fo) (W : World) (a : Value) (w : World) (vl : Value) (L : List Tm) (hS : SIn W k a) (hB : Below W.heap.size W w) (hR : TsR W.heap.size w vl L) (hb : tszR k ≤ 12) (hL : L.length ≤ 1000) (hl : Fo.len k ≤ 1000) (hn : Fo.narrow k) :
    Calls Try.prog 59 #[vl, .agg #[.bool x.1, .int .i64 x.2, a]] w fun e w' => ∃ v', e = .returned v' ∧ TsR W.heap.size w' v' (L ++ prtT (x, k)) ∧ Below W.heap.size W w' ∧ Fr w w' vl.ownBlock none := by
  obtain ⟨xv, xn⟩ := x
  have HS := hide hS
  have HR := hide hR
  have HB0 := hide hB
  obtain ⟨kd, kc, _, _, rfl, -, -, -, -⟩ := hS
  obtain ⟨v1, v3, rfl⟩ := hR.slice
  obtain ⟨i26, hi26, hz0, hz1, hz2⟩ := info_parts Try.info33
  have Hown0 := hide hR.own
  clear hR
  go_enter Try.func59, Try.ntmps59
  go_wp2_with fail
  refine (places_any (xv, xn) k _ _ ((HS.out.below hB).alloc _) (by omega)).mono ?_
  rintro e w2 ⟨vo, ys, rfl, h1, h2, h3⟩
  have hZl : (placesT (xv, xn) k []).length ≤ 12 := Nat.le_trans (placesT_len _ _ _) hb
  have hHb := hide (fun t => show L ++ prtT ((xv, xn), k) = t → L ++ (placesT (xv, xn) k []).map (partT ((xv, xn), k)) = t from id)
  have hT : Hid (prtT ((xv, xn), k) = (placesT (xv, xn) k []).map (partT ((xv, xn), k))) := rfl
  generalize placesT (xv, xn) k [] = Z at *
  obtain ⟨z1, z3, rfl⟩ := slice_of_owns h1
  have hyl := h2.1
  have hbox := h3.size
  rw [World.size_alloc] at h1 h2 h3 hbox
  have t0 : w2.cell? ⟨w.heap.size, 0, none⟩ = some (.bool xv) := (h3.cell (by simp)).trans (new_cell rfl)
  have t1 : w2.cell? ⟨w.heap.size, 1, none⟩ = some (.int .i64 xn) := (h3.cell (by simp)).trans (new_cell rfl)
  have t2 : w2.cell? ⟨w.heap.size, 2, none⟩ = some (.slice kd (Fo.len k) kc) := (h3.cell (by simp)).trans (new_cell rfl)
  have HT0 := hide t0
  have HT1 := hide t1
  have HT2 := hide t2
  have H1 := hide h1
  have H2 := hide h2
  have hb2 : Below w.heap.size w w2 := (below_alloc _ _).trans (h3.mono (by omega))
  have HB2 := hide (below_step hB hb2)
  have HF2 := hide (Fr.of_below hb2 (Value.slice v1 L.length v3).ownBlock none)
  have HR2 := hide (HR.out.below hb2)
  have hWw := hB.size
  clear h1 h2 h3 hb2 hB t0 t1 t2 hHb
  rw [hyl]
  go_wp2_with fail
  go_loopw [0, 12] (fun v i wr => ∃ (j : Nat) (M : List Tm) (u1 : Option Addr) (u3 : Nat), j ≤ Z.length ∧ i = .int .i64 j ∧ v = .slice u1 M.length u3 ∧ M = L ++ (Z.take j).map (partT ((xv, xn), k)) ∧ TsR W.heap.size wr (.slice u1 M.length u3) M ∧ Below W.heap.size W wr ∧ Fr w2 wr (Value.slice v1 L.length v3).ownBlock none ∧ (∀ g, (Value.slice u1 M.length u3).ownBlock = some g → some g = (Value.slice v1 L.length v3).ownBlock ∨ w2.heap.size ≤ g)) (fun _ i _ => Z.length - (intOf i).toNat)
  case atStart => exact ⟨0, L, v1, v3, Nat.zero_le _, rfl, rfl, by simp, HR2.out, HB2.out, Fr.refl _ _ _, fun g hg => .inl hg.symm⟩
  case round =>
    obtain ⟨j, M, u1, u3, hj, rfl, rfl, hM, hRr, hBr, hFr, hgr⟩ := hrel
    have HM := hide hM
    have HRr := hide hRr
    have HBr := hide hBr
    have HFr := hide hFr
    have Hgr := hide hgr
    have HW := hide (ways_keep H1.out H2.out hFr (fun g hg => (Hown0.out g hg).2) (Nat.le_succ _))
    clear hM hgr
    by_cases hlt : j < Z.length
    · have hlt' : (j : Int) < (Z.length : Int) := by omega
      obtain ⟨p, hp⟩ : ∃ p, Z[j]? = some p := ⟨Z[j], by simp⟩
      obtain ⟨za, zc, zb, hze, hza, hzl, hzm, hzF⟩ := HW.out
      simp only [Value.slice.injEq] at hze
      obtain ⟨rfl, -, rfl⟩ := hze
      have ha := hza (by omega)
      subst ha
      obtain ⟨pv, c0, hN⟩ := hzF j p hp
      have HN := hide hN
      obtain ⟨n1, n3, rfl⟩ := nin_slice hN
      obtain ⟨bt, z, m, hat⟩ := at_is p (xv, xn) k
      have Hat := hide hat
      have HMn : Hid (M ++ [(z, m)] = L ++ (Z.take (j + 1)).map (partT ((xv, xn), k))) := by
        rw [Hid, HM.out, List.take_add_one, hp, List.map_append, ← List.append_assoc]
        simp [part_is hat]
      have HMl : Hid (M.length ≤ 1000 + 12) := by
        rw [Hid, HM.out, List.length_append, List.length_map, List.length_take]
        omega
      obtain ⟨xs, ho1, ho2⟩ := HRr.out
      have Ho1 := hide ho1
      have Ho2 := hide ho2
      have hnb : ∀ g, (Value.slice v1 L.length v3).ownBlock = some g → g < w.heap.size := fun g hg => (Hown0.out g hg).2
      have hne : some w.heap.size ≠ (Value.slice v1 L.length v3).ownBlock := fun e => by have := hnb _ e.symm; omega
      have h9 := hFr.block w.heap.size (by omega) hne (fun e => by cases e)
      have r0 : wr.cell? ⟨w.heap.size, 0, none⟩ = some (.bool xv) := (World.cell?_of_block (a := ⟨w.heap.size, 0, none⟩) h9).trans HT0.out
      have r1 : wr.cell? ⟨w.heap.size, 1, none⟩ = some (.int .i64 xn) := (World.cell?_of_block (a := ⟨w.heap.size, 1, none⟩) h9).trans HT1.out
      have r2 : wr.cell? ⟨w.heap.size, 2, none⟩ = some (.slice kd (Fo.len k) kc) := (World.cell?_of_block (a := ⟨w.heap.size, 2, none⟩) h9).trans HT2.out
      have hml := HMl.out
      have hl1 : M.length + 1 ≤ maxLen := by unfold maxLen; omega
      have hl2 : (M.length + 1) * 40 ≤ 140737488355328 := by omega
      clear hp hN hat hza hzF ho1 ho2 hFr hBr hRr hne hnb hml h9
      go_wp2_with fail
      refine (tl_at (x := (xv, xn)) Hat.out (HS.out.below HBr.out) HN.out hl hn).mono ?_
      rintro e w3 ⟨a1, a2, a3, rfl, hk3, hb3⟩
      have Hk3 := hide hk3
      have Hb3 := hide hb3
      clear hk3 hb3
      have HBw := hide ((below_alloc w3 (.cells #[.bool z.1, .int .i64 z.2, .slice a1 a2 a3] 33)))
      have Hown3 : Hid (((w3.alloc (.cells #[.bool z.1, .int .i64 z.2, .slice a1 a2 a3] 33)).alloc (.cells #[.bool z.1, .int .i64 z.2, .slice a1 a2 a3] 33)).ownsRow W.heap.size 33 3 (.slice u1 M.length u3) M.length xs) :=
        owns_keep Ho1.out (fun g hg => ((below_step Hb3.out ((below_alloc _ _).alloc (by simp) _)).block g (owns_at Ho1.out g hg).2))
      have Hnews : Hid (∀ q u, [Value.bool z.1, .int .i64 z.2, .slice a1 a2 a3][q]? = some u → ((w3.alloc (.cells #[.bool z.1, .int .i64 z.2, .slice a1 a2 a3] 33)).alloc (.cells #[.bool z.1, .int .i64 z.2, .slice a1 a2 a3] 33)).cell? ((⟨w3.heap.size + 1, 0, none⟩ : Addr).add q) = some u) := by
        have h := World.news_of_block (cs := #[.bool z.1, .int .i64 z.2, .slice a1 a2 a3]) (heap_alloc_new (w3.alloc (.cells #[.bool z.1, .int .i64 z.2, .slice a1 a2 a3] 33)) (.cells #[.bool z.1, .int .i64 z.2, .slice a1 a2 a3] 33))
        intro q u hu
        have := h q u hu
        simpa using this
      have hw3 : W.heap.size ≤ w3.heap.size := Nat.le_trans HBr.out.size Hb3.out.size
      go_wp2_with (at_builtin; refine wpList_append_lies _ rfl (.tmp 22) (.tmp 24) 31 rfl W.heap.size 33 i26 (.agg #[.bool false, .int .i64 0, .slice none 0 0]) 3 40 Try.underlying31 hi26 hz0 hz1 hz2 rfl (by decide) (.slice u1 M.length u3) M.length xs rfl Hown3.out ⟨w3.heap.size + 1, 0, none⟩ 1 1 [.bool z.1, .int .i64 z.2, .slice a1 a2 a3] rfl rfl Hnews.out (by simp [Value.oneCell']) (by decide) hl1 hl2 (by simp; omega) (w3.heap.size + 2) (by simp) ?_; intro g cap w5 hown5 hg5 hat5 hlt5)
      have hTs : TsR W.heap.size w5 (.slice (some ⟨g, 0, none⟩) (M.length + 1) cap) (M ++ [(z, m)]) := TsR.snoc (w3 := w3.alloc (.cells #[.bool z.1, .int .i64 z.2, .slice a1 a2 a3] 33)) (t := (z, m)) Ho1.out Ho2.out (below_step Hb3.out HBw.out) ((Hk3.out.frame (fun q hq => ⟨hq.1, by rw [World.size_alloc]; exact Nat.lt_succ_of_lt hq.2⟩) (fun q i hq => HBw.out.cell (p := ⟨q, i, none⟩) hq.2))) hown5 hg5 (by rw [World.size_alloc]; exact hat5)
      have HTs := hide hTs
      have HBn : Hid (Below W.heap.size W w5) := ((below_step HBr.out (below_step Hb3.out ((below_alloc _ _).alloc (by simp) _))).grown hg5 (by simp; omega) (fun g hg => (owns_at Ho1.out g hg).1))
      have HFn : Hid (Fr w2 w5 (Value.slice v1 L.length v3).ownBlock none) := by
        have f1 : Fr wr w5 (Value.slice u1 M.length u3).ownBlock none := (Fr.of_below (below_step Hb3.out ((below_alloc _ _).alloc (by simp) _)) _ _).trans (Fr.of_grown hg5 (fun q _ e => .inl e.symm)) (fun q _ e => e)
        refine HFr.out.trans f1 (fun q hq e => ?_)
        rcases e with e | e
        · rcases Hgr.out q e.symm with h | h
          · exact .inl h
          · omega
        · cases e
      have Hgn : Hid (∀ q, (Value.slice (some ⟨g, 0, none⟩) (M.length + 1) cap).ownBlock = some q → some q = (Value.slice v1 L.length v3).ownBlock ∨ w2.heap.size ≤ q) := by
        intro q hq
        simp [Value.ownBlock] at hq
        subst hq
        rcases hat5 with e | e
        · exact Hgr.out _ e
        · have := HFr.out.size
          have := Hb3.out.size
          exact .inr (by omega)
      have hle : (M ++ [(z, m)]).length = M.length + 1 := by simp
      clear hown5 hg5 hat5 hlt5 hTs Hown3 Hnews HBw r0 r1 r2
      go_wp2_with fail
      go_roundw
      case rel => exact ⟨j + 1, M ++ [(z, m)], _, cap, by omega, by go_num, by rw [hle], HMn.out, by rw [hle]; exact HTs.out, HBn.out, HFn.out, by rw [hle]; exact Hgn.out⟩
      case measure => simp [intOf]; omega
    · have hje : j = Z.length := by omega
      have Hfin : Hid (M = L ++ prtT ((xv, xn), k)) := by rw [Hid, HM.out, hT.out, hje, List.take_length]
      clear hje
      go_wp2_with fail
      go_ret
      have e := Hfin.out
      rw [← e]
      exact ⟨_, rfl, HRr.out, HBr.out, HF2.out.trans HFr.out (fun q _ e => e)⟩
end Go.Proofs.Ytiilckjnggeeoad

namespace Go.Proofs.Ytiilckjnggeeoad
open Go.RowKit Go.Deep Go.ChangeShapes Go.WideShapes
def two (t u : Tm) : Fo := .node 0 0 t.1 t.2 (.node 0 0 u.1 u.2 .nil)
theorem gd_right {s : List Int} {x : Bool × Int} {k : Fo} (hs : s.all okNum = true) (hk : Fo.norm k = k) (h : wrongF s x k = 0) : Gd (x, k) ∧ depT (x, k) ≤ 12 ∧ tszR k ≤ 12 := by
  have := gd_of_right hs h
  rwa [hk] at this
end Go.Proofs.Ytiilckjnggeeoad

namespace Go.Proofs.Ytiilckjnggeeoad
open Go.RowKit Go.Deep Go.ChangeShapes Go.WideShapes
attribute [local go_sem ↓] Go.wp_at_zero Go.wp_at_succ
def ta : Tm := ((false, 0), .nil)
def tb (t : Tm) : Tm := ((false, 1), .node 0 0 t.1 t.2 .nil)
def tc (t u : Tm) : Tm := ((false, 2), .node 0 0 t.1 t.2 (.node 0 0 u.1 u.2 .nil))
theorem sg : ([0, 1, 2] : List Int).all okNum = true := by decide
theorem g1 : Gd (tc (vr 0) (tb (vr 1))) ∧ depT (tc (vr 0) (tb (vr 1))) ≤ 12 ∧ tszR (tc (vr 0) (tb (vr 1))).2 ≤ 12 := gd_right sg rfl (by decide +kernel)
theorem g2 : Gd (tc (tb ta) (vr 0)) ∧ depT (tc (tb ta) (vr 0)) ≤ 12 ∧ tszR (tc (tb ta) (vr 0)).2 ≤ 12 := gd_right sg rfl (by decide +kernel)
theorem g3 : Gd (tc (vr 0) (vr 1)) ∧ depT (tc (vr 0) (vr 1)) ≤ 12 ∧ tszR (tc (vr 0) (vr 1)).2 ≤ 12 := gd_right sg rfl (by decide +kernel)
theorem g4 : Gd (tc ta (tb ta)) ∧ depT (tc ta (tb ta)) ≤ 12 ∧ tszR (tc ta (tb ta)).2 ≤ 12 := gd_right sg rfl (by decide +kernel)
theorem g5 : Gd (vr 0) ∧ depT (vr 0) ≤ 12 ∧ tszR (vr 0).2 ≤ 12 := gd_right (s := [0, 1, 2]) sg rfl (by decide +kernel)
theorem g6 : Gd (tb (vr 0)) ∧ depT (tb (vr 0)) ≤ 12 ∧ tszR (tb (vr 0)).2 ≤ 12 := gd_right sg rfl (by decide +kernel)
theorem g8 : Gd ta ∧ depT ta ≤ 12 ∧ tszR ta.2 ≤ 12 := gd_right sg rfl (by decide +kernel)
theorem g9 : Gd (tb ta) ∧ depT (tb ta) ≤ 12 ∧ tszR (tb ta).2 ≤ 12 := gd_right sg rfl (by decide +kernel)
theorem u1 : runU 10 [] [(tc (vr 0) (tb (vr 1)), tc (tb ta) (vr 0))] = some (some [(0, tb ta), (1, ta)]) := by kernel_rfl
theorem u2 : runU 10 [] [(vr 0, tb (vr 0))] = some none := by kernel_rfl
theorem e1 : extT [] (tc (vr 0) (vr 1)) (tc ta (tb ta)) = some [(0, ta), (1, tb ta)] := by kernel_rfl
theorem e2 : extT [(0, ta), (1, tb ta)] (vr 2) ta = some [(0, ta), (1, tb ta), (2, ta)] := by kernel_rfl
theorem s1 : subT (bnd [(0, tb ta), (1, ta)]) (tc (vr 0) (vr 1)) = tc (tb ta) ta := by kernel_rfl
theorem x1 : textT (tc (tb ta) ta).1 (tc (tb ta) ta).2 = [99, 40, 98, 40, 97, 41, 44, 97, 41] := by kernel_rfl
theorem all2 : ∀ p ∈ ([(0, tb ta), (1, ta)] : Sb), narT p.2 ∧ okT p.2 := fun p hp => by
  simp only [List.mem_cons, List.not_mem_nil, or_false] at hp
  rcases hp with rfl | rfl
  · exact ⟨g9.1.nar, g9.1.ok⟩
  · exact ⟨g8.1.nar, g8.1.ok⟩
set_option maxRecDepth 100000 in
theorem cap {w : World} {vs a : Value} (hv : SubIn w [(0, tb ta), (1, ta)] vs) (h1 : SIn w (tc (vr 0) (vr 1)).2 a) : Calls Try.prog 65 #[vs, .agg #[.bool false, .int .i64 2, a]] w fun e w' => ∃ a1 a2 a3, e = .returned (.agg #[.bool false, .int .i64 2, .slice a1 a2 a3]) ∧ SIn w' (tc (tb ta) ta).2 (.slice a1 a2 a3) ∧ Below w.heap.size w w' := by
  refine (apply_any _ vs (false, 2) (tc (vr 0) (vr 1)).2 a w hv all2 h1 g3.1.nar).mono ?_
  rintro e w' ⟨a', rfl, hO, hb⟩
  have e : subT (bnd [(0, tb ta), (1, ta)]) ((false, 2), (tc (vr 0) (vr 1)).2) = tc (tb ta) ta := s1
  rw [e] at hO ⊢
  obtain ⟨z1, z2, z3, rfl⟩ := slice_of_sin hO.toS
  exact ⟨z1, z2, z3, rfl, hO.toS, hb⟩
end Go.Proofs.Ytiilckjnggeeoad

namespace Go.Proofs.Ytiilckjnggeeoad
open Go.RowKit Go.Deep Go.ChangeShapes Go.WideShapes
structure Eqs (s : Sb) (L : List (Tm × Tm)) (ls rs : List Tm) : Prop where
  ui : UI s L
  el : ls.map (subT (bnd s)) = L.map fun p => subT (bnd s) p.1
  er : rs.map (subT (bnd s)) = L.map fun p => subT (bnd s) p.2
  gl : ∀ t ∈ ls, Gd t
  gr : ∀ t ∈ rs, Gd t
theorem Eqs.nil {s : Sb} {ls rs : List Tm} (h : Eqs s [] ls rs) : ls = [] ∧ rs = [] := ⟨by simpa using h.el, by simpa using h.er⟩
theorem Eqs.len {s : Sb} {L : List (Tm × Tm)} {ls rs : List Tm} (h : Eqs s L ls rs) : ls.length = L.length ∧ rs.length = L.length :=
  ⟨by simpa using congrArg List.length h.el, by simpa using congrArg List.length h.er⟩
theorem Eqs.cons {s : Sb} {p : Tm × Tm} {L : List (Tm × Tm)} {ls rs : List Tm} (h : Eqs s (p :: L) ls rs) :
    ∃ t lt u rt, ls = t :: lt ∧ rs = u :: rt ∧ Eqs s L lt rt ∧ subT (bnd s) t = subT (bnd s) p.1 ∧ subT (bnd s) u = subT (bnd s) p.2 ∧ Gd t ∧ Gd u := by
  obtain ⟨h0, h1, h2, h3, h4⟩ := h
  cases ls with
  | nil => simp at h1
  | cons t lt =>
    cases rs with
    | nil => simp at h2
    | cons u rt =>
      simp only [List.map_cons, List.cons.injEq] at h1 h2
      exact ⟨t, lt, u, rt, rfl, rfl, ⟨ui_tail h0, h1.2, h2.2, fun z hz => h3 z (by simp [hz]), fun z hz => h4 z (by simp [hz])⟩, h1.1, h2.1, h3 t (by simp), h4 u (by simp)⟩
theorem Eqs.bind {n : Nat} {s : Sb} {p : Tm × Tm} {L : List (Tm × Tm)} {R : Option Sb} {lt rt : List Tm} {t u X Y U V : Tm} (hp : UI s (p :: L)) (h : Eqs s L lt rt) (hr : runU n s (p :: L) = some R) (hX : X = subT (bnd s) t) (hY : Y = subT (bnd s) u) (et : subT (bnd s) t = subT (bnd s) p.1) (eu : subT (bnd s) u = subT (bnd s) p.2) (hne : X ≠ Y)
    (huv : (U = X ∧ V = Y ∧ U.1.1 = true) ∨ (U = Y ∧ V = X ∧ U.1.1 = true ∧ ¬ V.1.1 = true)) :
    (addS s U.1.2 V = none → R = none) ∧ ∀ s1, addS s U.1.2 V = some s1 → ∃ m, m < n ∧ Eqs s1 L lt rt ∧ runU m s1 L = some R := by
  have eX : X = subT (bnd s) p.1 := hX.trans et
  have eY : Y = subT (bnd s) p.2 := hY.trans eu
  rw [eX, eY] at huv hne
  obtain ⟨h1, h2⟩ := run_var hp hr hne huv
  refine ⟨h1, fun s1 e => ?_⟩
  obtain ⟨m, k1, k2, k3, k4⟩ := h2 s1 e
  have up : ∀ (f : Tm × Tm → Tm) (xs : List Tm), xs.map (subT (bnd s)) = L.map (fun p => subT (bnd s) (f p)) → xs.map (subT (bnd s1)) = L.map (fun p => subT (bnd s1) (f p)) := by
    intro f xs hh
    have e2 := congrArg (List.map (subT (bnd s1))) hh
    simp only [List.map_map] at e2
    have e3 : (subT (bnd s1)) ∘ (subT (bnd s)) = subT (bnd s1) := funext fun z => ref_sub k4 z
    have e4 : (subT (bnd s1)) ∘ (fun p => subT (bnd s) (f p)) = fun p => subT (bnd s1) (f p) := funext fun z => ref_sub k4 (f z)
    rw [e3, e4] at e2
    exact e2
  exact ⟨m, k1, ⟨k2, up Prod.fst lt h.el, up Prod.snd rt h.er, h.gl, h.gr⟩, k3⟩
theorem Row.drew {lo : Nat} {w : World} {v : Value} {ts : List Tm} (h : Row lo w v ts) : Row lo w.drew v ts := by
  obtain ⟨xs, h1, h2⟩ := h
  have hr : ∀ q i, q < lo → w.drew.cell? ⟨q, i, none⟩ = w.cell? ⟨q, i, none⟩ := fun q i _ => rfl
  exact ⟨xs, h1, h2.frame (fun _ h => h) hr⟩
theorem Side.drew {wx w : World} {va vb : Value} {a b : List Tm} (h : Side wx w va a vb b) : Side wx w.drew va a vb b := ⟨h.below.drew, h.ra.drew, h.rb.drew, h.ap⟩
end Go.Proofs.Ytiilckjnggeeoad

namespace Go.Proofs.Ytiilckjnggeeoad
open Go.RowKit Go.Deep Go.ChangeShapes Go.WideShapes
def LIn (w : World) : Cl → Nat → Nat → Prop
  | [], _, _ => True
  | l :: c, b, o => (w.cell? ⟨b, o, none⟩ = some (.bool l.1) ∧ w.cell? ⟨b, o + 1, none⟩ = some (.bool l.2.1.1.1) ∧ w.cell? ⟨b, o + 2, none⟩ = some (.int .i64 l.2.1.1.2) ∧ (∃ v, w.cell? ⟨b, o + 3, none⟩ = some v ∧ SIn w l.2.1.2 v) ∧
      w.cell? ⟨b, o + 4, none⟩ = some (.bool l.2.2.1.1) ∧ w.cell? ⟨b, o + 5, none⟩ = some (.int .i64 l.2.2.1.2) ∧ ∃ v, w.cell? ⟨b, o + 6, none⟩ = some v ∧ SIn w l.2.2.2 v) ∧ LIn w c b (o + 7)
def CIn (w : World) (c : Cl) (v : Value) : Prop :=
  ∃ (a : Option Addr) (k b o : Nat), v = .slice a c.length k ∧ (0 < c.length → a = some ⟨b, o, none⟩) ∧ c.length ≤ k ∧ k ≤ maxLen ∧ LIn w c b o
theorem LIn.later {w w' : World} (hc : ∀ a v, w.cell? a = some v → w'.cell? a = some v) : ∀ {c : Cl} {b o : Nat}, LIn w c b o → LIn w' c b o
  | [], _, _, _ => trivial
  | _ :: _, _, _, ⟨⟨h0, h1, h2, ⟨v, h3, h4⟩, h5, h6, u, h7, h8⟩, h9⟩ => ⟨⟨hc _ _ h0, hc _ _ h1, hc _ _ h2, ⟨v, hc _ _ h3, h4.later hc⟩, hc _ _ h5, hc _ _ h6, u, hc _ _ h7, h8.later hc⟩, LIn.later hc h9⟩
theorem CIn.later {w w' : World} (hc : ∀ a v, w.cell? a = some v → w'.cell? a = some v) {c : Cl} {v : Value} (h : CIn w c v) : CIn w' c v := by
  obtain ⟨a, k, b, o, h1, h2, h3, h4, h5⟩ := h
  exact ⟨a, k, b, o, h1, h2, h3, h4, h5.later hc⟩
theorem LIn.below {w w' : World} (hb : Below w.heap.size w w') {c : Cl} {b o : Nat} (h : LIn w c b o) : LIn w' c b o := h.later (grow_cell hb)
theorem CIn.below {w w' : World} (hb : Below w.heap.size w w') {c : Cl} {v : Value} (h : CIn w c v) : CIn w' c v := h.later (grow_cell hb)
theorem CIn.alloc {w : World} {c : Cl} {v : Value} (h : CIn w c v) (ob : Obj) : CIn (w.alloc ob) c v := h.below (below_alloc w ob)
theorem CIn.drew {w : World} {c : Cl} {v : Value} (h : CIn w c v) : CIn w.drew c v := h.below (Below.refl _ _).drew
theorem CIn.nil (w : World) : CIn w [] (.slice none 0 0) := ⟨none, 0, 0, 0, rfl, fun h => by simp at h, Nat.le_refl _, Nat.zero_le _, trivial⟩
theorem slice_of_cl {w : World} {c : Cl} {v : Value} (h : CIn w c v) : ∃ z1 z3, v = .slice z1 c.length z3 := by
  obtain ⟨a, k, _, _, rfl, _⟩ := h
  exact ⟨a, k, rfl⟩
theorem LIn.at {w : World} : ∀ {c : Cl} {b o i : Nat} {l : Lt}, LIn w c b o → c[i]? = some l →
    w.cell? ⟨b, o + i * 7, none⟩ = some (.bool l.1) ∧ w.cell? ⟨b, o + i * 7 + 1, none⟩ = some (.bool l.2.1.1.1) ∧ w.cell? ⟨b, o + i * 7 + 2, none⟩ = some (.int .i64 l.2.1.1.2) ∧ (∃ v, w.cell? ⟨b, o + i * 7 + 3, none⟩ = some v ∧ SIn w l.2.1.2 v) ∧
      w.cell? ⟨b, o + i * 7 + 4, none⟩ = some (.bool l.2.2.1.1) ∧ w.cell? ⟨b, o + i * 7 + 5, none⟩ = some (.int .i64 l.2.2.1.2) ∧ ∃ v, w.cell? ⟨b, o + i * 7 + 6, none⟩ = some v ∧ SIn w l.2.2.2 v
  | [], _, _, _, _, _, h => by simp at h
  | q :: s, b, o, 0, l, hP, h => by
    simp only [List.getElem?_cons_zero, Option.some.injEq] at h
    subst h
    simpa using hP.1
  | q :: s, b, o, i + 1, l, hP, h => by
    have := LIn.at hP.2 (i := i) (by simpa using h)
    have e : o + 7 + i * 7 = o + (i + 1) * 7 := by omega
    rwa [e] at this
def LC (X : Nat → Prop) (w : World) : Cl → List Value → Prop
  | [], xs => xs = []
  | l :: c, xs => ∃ a d ys, xs = .bool l.1 :: .bool l.2.1.1.1 :: .int .i64 l.2.1.1.2 :: a :: .bool l.2.2.1.1 :: .int .i64 l.2.2.1.2 :: d :: ys ∧ SB X w l.2.1.2 a ∧ SB X w l.2.2.2 d ∧ LC X w c ys
theorem LC.frame {X Y : Nat → Prop} {w w' : World} (hXY : ∀ q, X q → Y q) (hr : ∀ q i, X q → w'.cell? ⟨q, i, none⟩ = w.cell? ⟨q, i, none⟩) : ∀ {s : Cl} {xs : List Value}, LC X w s xs → LC Y w' s xs
  | [], _, h => h
  | _ :: _, _, ⟨a, d, ys, h1, h2, h3, h4⟩ => ⟨a, d, ys, h1, h2.frame hXY hr, h3.frame hXY hr, LC.frame hXY hr h4⟩
abbrev litV (l : Lt) (a d : Value) : List Value := [.bool l.1, .bool l.2.1.1.1, .int .i64 l.2.1.1.2, a, .bool l.2.2.1.1, .int .i64 l.2.2.1.2, d]
theorem LC.len {X : Nat → Prop} {w : World} : ∀ {s : Cl} {xs : List Value}, LC X w s xs → xs.length = s.length * 7
  | [], _, h => by rw [LC] at h; subst h; rfl
  | _ :: _, _, ⟨a, d, ys, h1, _, _, h3⟩ => by subst h1; simp only [List.length_cons, h3.len]; omega
theorem LC.at {X : Nat → Prop} {w : World} {g : Nat} : ∀ {s : Cl} {xs : List Value} {o : Nat}, LC X w s xs → (∀ j, j < xs.length → w.cell? ⟨g, o + j, none⟩ = xs[j]?) → LIn w s g o
  | [], _, _, _, _ => trivial
  | p :: s, _, o, ⟨a, d, ys, h1, h2, h2', h3⟩, hc => by
    subst h1
    have c0 := hc 0 (by simp)
    have c1 := hc 1 (by simp)
    have c2 := hc 2 (by simp)
    have c3 := hc 3 (by simp)
    have c4 := hc 4 (by simp)
    have c5 := hc 5 (by simp)
    have c6 := hc 6 (by simp)
    refine ⟨⟨by simpa using c0, by simpa using c1, by simpa using c2, ⟨a, by simpa using c3, h2.toS⟩, by simpa using c4, by simpa using c5, d, by simpa using c6, h2'.toS⟩, ?_⟩
    refine LC.at h3 (fun j hj => ?_)
    have := hc (j + 7) (by simp; omega)
    rw [show o + 7 + j = o + (j + 7) by omega, this]
    simp
theorem row_cl {X : Nat → Prop} {w : World} {lo : Nat} {v : Value} {s : Cl} {xs : List Value} (h : w.ownsRow lo 35 7 v s.length xs) (hc : LC X w s xs) : CIn w s v := by
  have hcells := fun g hg => h.cells (g := g) hg
  rcases h.2 with ⟨rfl, h0⟩ | ⟨g, cap, cur, rfl, hl, hh, hn, hm, hs, ht⟩
  · have : s = [] := List.length_eq_zero_iff.1 h0
    subst this
    exact CIn.nil w
  · refine ⟨_, cap, g, 0, rfl, fun _ => rfl, hn, hm, hc.at (fun j hj => ?_)⟩
    have := hcells g rfl j (xs[j]'hj) (List.getElem?_eq_getElem hj)
    rw [List.getElem?_eq_getElem hj]
    rw [add_plain] at this
    exact this
structure OwnL (lo : Nat) (X : Nat → Prop) (w : World) (s : Cl) (v : Value) (xs : List Value) : Prop where
  row : w.ownsRow lo 35 7 v s.length xs
  cells : LC X w s xs
  off : ∀ q, X q → q < w.heap.size ∧ some q ≠ v.ownBlock
theorem OwnL.cl {lo : Nat} {X : Nat → Prop} {w : World} {s : Cl} {v : Value} {xs : List Value} (h : OwnL lo X w s v xs) : CIn w s v := row_cl h.row h.cells
theorem OwnL.slice {lo : Nat} {X : Nat → Prop} {w : World} {s : Cl} {v : Value} {xs : List Value} (h : OwnL lo X w s v xs) : ∃ z1 z3, v = .slice z1 s.length z3 := slice_of_cl h.cl
theorem OwnL.below {lo : Nat} {X : Nat → Prop} {w w' : World} {s : Cl} {v : Value} {xs : List Value} (h : OwnL lo X w s v xs) (hb : Below w.heap.size w w') : OwnL lo X w' s v xs :=
  ⟨owns_keep h.row (fun g hg => hb.block g (owns_at h.row g hg).2), h.cells.frame (fun _ hq => hq) (fun q _ hq => World.cell?_of_block (hb.block q (h.off q hq).1)), fun q hq => ⟨Nat.lt_of_lt_of_le (h.off q hq).1 hb.size, (h.off q hq).2⟩⟩
end Go.Proofs.Ytiilckjnggeeoad
