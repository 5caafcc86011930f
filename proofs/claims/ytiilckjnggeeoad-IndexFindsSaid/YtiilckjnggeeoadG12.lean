/- P8d RSub Uni MatchP Alive2 UnifyL -/
import Derived.Test.YtiilckjnggeeoadG11
import Derived.Deep.LoopGhost
namespace Go.Proofs.Ytiilckjnggeeoad
open Go.RowKit Go.Deep Go.ChangeShapes Go.WideShapes
attribute [local go_sem ↓] Go.wp_at_zero Go.wp_at_succ
def TsR (lo : Nat) (w : World) (v : Value) (L : List Tm) : Prop := ∃ xs, w.ownsRow lo 33 3 v L.length xs ∧ CellsOf (fun q => q < w.heap.size ∧ some q ≠ v.ownBlock) w (foOf L) xs
theorem TsR.none (lo : Nat) (w : World) : TsR lo w (.slice none 0 0) [] := ⟨[], World.ownsRow_nil _ _ _ _, rfl⟩
theorem TsR.below {lo : Nat} {w w' : World} {v : Value} {L : List Tm} (h : TsR lo w v L) (hb : Below w.heap.size w w') : TsR lo w' v L := by
  obtain ⟨xs, h1, h2⟩ := h
  exact ⟨xs, owns_keep h1 (fun g hg => hb.block g (owns_at h1 g hg).2), h2.frame (fun q hq => ⟨Nat.lt_of_lt_of_le hq.1 hb.size, hq.2⟩) (fun q i hq => hb.cell (p := ⟨q, i, Option.none⟩) hq.1)⟩
theorem TsR.own {lo : Nat} {w : World} {v : Value} {L : List Tm} (h : TsR lo w v L) : ∀ g, v.ownBlock = some g → lo ≤ g ∧ g < w.heap.size := by
  obtain ⟨xs, h1, _⟩ := h
  exact owns_at h1
theorem TsR.slice {lo : Nat} {w : World} {v : Value} {L : List Tm} (h : TsR lo w v L) : ∃ z1 z3, v = .slice z1 L.length z3 := by
  obtain ⟨xs, h1, _⟩ := h
  exact slice_of_owns h1
theorem TsR.snoc {lo : Nat} {w w3 w4 : World} {v : Value} {L : List Tm} {xs : List Value} {t : Tm} {a : Value} {g cap : Nat} {ob : Obj}
    (h1 : w.ownsRow lo 33 3 v L.length xs) (h2 : CellsOf (fun q => q < w.heap.size ∧ some q ≠ v.ownBlock) w (foOf L) xs) (hb : Below w.heap.size w w3) (hk : SB (fun q => w.heap.size ≤ q ∧ q < w3.heap.size) w3 t.2 a)
    (ho : w4.ownsRow lo 33 3 (.slice (some ⟨g, 0, Option.none⟩) (L.length + 1) cap) (L.length + 1) (xs ++ [.bool t.1.1, .int .i64 t.1.2, a])) (hg : (w3.alloc ob).grownBy w4 v.ownBlock) (hat : v.ownBlock = some g ∨ g = w3.heap.size + 1) :
    TsR lo w4 (.slice (some ⟨g, 0, Option.none⟩) (L.length + 1) cap) (L ++ [t]) := by
  have hs := hb.size
  have hs4 := hg.size
  rw [World.size_alloc] at hs4
  have hown := owns_at h1
  have far : ∀ q, q < w3.heap.size → some q ≠ v.ownBlock → w4.heap[q]? = w3.heap[q]? := fun q hq hn => by
    rw [hg.block q (by rw [World.size_alloc]; omega) hn, Below.heap_alloc _ _ _ hq]
  refine ⟨xs ++ [.bool t.1.1, .int .i64 t.1.2, a], by rw [List.length_append]; exact ho, CellsOf.app (b := [t]) ⟨a, [], rfl, ?_, rfl⟩ ?_⟩
  · refine hk.frame (fun q hq => ⟨by omega, fun e => ?_⟩) (fun q i hq => ?_)
    · simp [Value.ownBlock] at e
      subst e
      rcases hat with e | e
      · have := (hown _ e).2; omega
      · omega
    · have h9 := far q hq.2 (fun e => by have := (hown _ e.symm).2; omega)
      exact World.cell?_of_block h9
  · have hin : ∀ q, (q < w.heap.size ∧ some q ≠ v.ownBlock) → (q < w4.heap.size ∧ some q ≠ (Value.slice (some ⟨g, 0, Option.none⟩) (L.length + 1) cap).ownBlock) := fun q hq => ⟨by omega, fun e => by
      simp [Value.ownBlock] at e
      subst e
      rcases hat with e | e
      · exact hq.2 e.symm
      · omega⟩
    have hr : ∀ q i, (q < w.heap.size ∧ some q ≠ v.ownBlock) → w4.cell? ⟨q, i, Option.none⟩ = w.cell? ⟨q, i, Option.none⟩ := fun q i hq =>
      World.cell?_of_block (a := ⟨q, i, Option.none⟩) ((far q (by omega) hq.2).trans (hb.block q hq.1))
    exact h2.frame hin hr
def partT (t : Tm) (p : List Int) : Tm := (atT p t.1 t.2).getD ((false, 0), .nil)
theorem part_is {p : List Int} {x z : Bool × Int} {k m : Fo} {b : Bool} (h : AtIs p x k b z m) : partT (x, k) p = (z, m) := by
  unfold partT
  rw [h.1]
  cases b with
  | true => rfl
  | false =>
    obtain ⟨rfl, rfl⟩ := h.2 rfl
    rfl
def prtT (t : Tm) : List Tm := (placesT t.1 t.2 []).map (partT t)
theorem ways_keep {w2 wr : World} {lo B : Nat} {vo : Value} {ys : List Value} {Z : List (List Int)} {g0 : Option Nat} (h1 : w2.ownsRow lo 22 1 vo ys.length ys) (h2 : Pw w2 lo vo.ownBlock ys Z) (hf : Fr w2 wr g0 Option.none) (hB : ∀ g, g0 = some g → g < B) (hl : B ≤ lo) : WIn2 wr Z vo := by
  have k1 : wr.ownsRow lo 22 1 vo ys.length ys := owns_keep h1 (fun g hg => by
    have := owns_at h1 g hg
    exact hf.block g this.2 (fun e => by have := hB g e.symm; omega) (fun e => by cases e))
  exact ways_in k1 (h2.keep hf (fun q h3 h4 h5 => ⟨fun e => by have := hB q e.symm; omega, fun e => by (cases e), h5⟩) (Nat.le_refl _))
set_option maxRecDepth 100000 in
set_option maxHeartbeats 2000000 in
theorem addParts_any (x : Bool × Int) (k : Fo) (W : World) (a : Value) (w : World) (vl : Value) (L : List Tm) (hS : SIn W k a) (hB : Below W.heap.size W w) (hR : TsR W.heap.size w vl L) (hb : tszR k ≤ 12) (hL : L.length ≤ 1000) (hl : Fo.len k ≤ 1000) (hn : Fo.narrow k) :
    Calls Try.prog 59 #[vl, .agg #[.bool x.1, .int .i64 x.2, a]] w fun e w' => ∃ v', e = .returned v' ∧ TsR W.heap.size w' v' (L ++ prtT (x, k)) ∧ Below W.heap.size W w' ∧ Fr w w' vl.ownBlock none := by
  obtain ⟨xv, xn⟩ := x
  have HS := hide hS
  have HR := hide hR
  have HB0 := hide hB
  obtain ⟨kd, kc, _, _, rfl, -, -, -, -⟩ := hS
  obtain ⟨v1, v3, rfl⟩ := hR.slice
  obtain ⟨i26, hi26, hz0, hz1, hz2⟩ := info_parts Try.info33
  have Hown0 := hide hR.own
  clear hR
  go_enter Try.func59, Try.ntmps59
  go_wp2_with fail
  refine (places_any (xv, xn) k _ _ ((HS.out.below hB).alloc _) (by omega)).mono ?_
  rintro e w2 ⟨vo, ys, rfl, h1, h2, h3⟩
  have hZl : (placesT (xv, xn) k []).length ≤ 12 := Nat.le_trans (placesT_len _ _ _) hb
  have hHb := hide (fun t => show L ++ prtT ((xv, xn), k) = t → L ++ (placesT (xv, xn) k []).map (partT ((xv, xn), k)) = t from id)
  have hT : Hid (prtT ((xv, xn), k) = (placesT (xv, xn) k []).map (partT ((xv, xn), k))) := rfl
  generalize placesT (xv, xn) k [] = Z at *
  obtain ⟨z1, z3, rfl⟩ := slice_of_owns h1
  have hyl := h2.1
  have hbox := h3.size
  rw [World.size_alloc] at h1 h2 h3 hbox
  have t0 : w2.cell? ⟨w.heap.size, 0, none⟩ = some (.bool xv) := (h3.cell (by simp)).trans (new_cell rfl)
  have t1 : w2.cell? ⟨w.heap.size, 1, none⟩ = some (.int .i64 xn) := (h3.cell (by simp)).trans (new_cell rfl)
  have t2 : w2.cell? ⟨w.heap.size, 2, none⟩ = some (.slice kd (Fo.len k) kc) := (h3.cell (by simp)).trans (new_cell rfl)
  have HT0 := hide t0
  have HT1 := hide t1
  have HT2 := hide t2
  have H1 := hide h1
  have H2 := hide h2
  have hb2 : Below w.heap.size w w2 := (below_alloc _ _).trans (h3.mono (by omega))
  have HB2 := hide (below_step hB hb2)
  have HF2 := hide (Fr.of_below hb2 (Value.slice v1 L.length v3).ownBlock none)
  have HR2 := hide (HR.out.below hb2)
  have hWw := hB.size
  clear h1 h2 h3 hb2 hB t0 t1 t2 hHb
  rw [hyl]
  go_wp2_with fail
  go_loopw [0, 12] (fun v i wr => ∃ (j : Nat) (M : List Tm) (u1 : Option Addr) (u3 : Nat), j ≤ Z.length ∧ i = .int .i64 j ∧ v = .slice u1 M.length u3 ∧ M = L ++ (Z.take j).map (partT ((xv, xn), k)) ∧ TsR W.heap.size wr (.slice u1 M.length u3) M ∧ Below W.heap.size W wr ∧ Fr w2 wr (Value.slice v1 L.length v3).ownBlock none ∧ (∀ g, (Value.slice u1 M.length u3).ownBlock = some g → some g = (Value.slice v1 L.length v3).ownBlock ∨ w2.heap.size ≤ g)) (fun _ i _ => Z.length - (intOf i).toNat)
  case atStart => exact ⟨0, L, v1, v3, Nat.zero_le _, rfl, rfl, by simp, HR2.out, HB2.out, Fr.refl _ _ _, fun g hg => .inl hg.symm⟩
  case round =>
    obtain ⟨j, M, u1, u3, hj, rfl, rfl, hM, hRr, hBr, hFr, hgr⟩ := hrel
    have HM := hide hM
    have HRr := hide hRr
    have HBr := hide hBr
    have HFr := hide hFr
    have Hgr := hide hgr
    have HW := hide (ways_keep H1.out H2.out hFr (fun g hg => (Hown0.out g hg).2) (Nat.le_succ _))
    clear hM hgr
    by_cases hlt : j < Z.length
    · have hlt' : (j : Int) < (Z.length : Int) := by omega
      obtain ⟨p, hp⟩ : ∃ p, Z[j]? = some p := ⟨Z[j], by simp⟩
      obtain ⟨za, zc, zb, hze, hza, hzl, hzm, hzF⟩ := HW.out
      simp only [Value.slice.injEq] at hze
      obtain ⟨rfl, -, rfl⟩ := hze
      have ha := hza (by omega)
      subst ha
      obtain ⟨pv, c0, hN⟩ := hzF j p hp
      have HN := hide hN
      obtain ⟨n1, n3, rfl⟩ := nin_slice hN
      obtain ⟨bt, z, m, hat⟩ := at_is p (xv, xn) k
      have Hat := hide hat
      have HMn : Hid (M ++ [(z, m)] = L ++ (Z.take (j + 1)).map (partT ((xv, xn), k))) := by
        rw [Hid, HM.out, List.take_add_one, hp, List.map_append, ← List.append_assoc]
        simp [part_is hat]
      have HMl : Hid (M.length ≤ 1000 + 12) := by
        rw [Hid, HM.out, List.length_append, List.length_map, List.length_take]
        omega
      obtain ⟨xs, ho1, ho2⟩ := HRr.out
      have Ho1 := hide ho1
      have Ho2 := hide ho2
      have hnb : ∀ g, (Value.slice v1 L.length v3).ownBlock = some g → g < w.heap.size := fun g hg => (Hown0.out g hg).2
      have hne : some w.heap.size ≠ (Value.slice v1 L.length v3).ownBlock := fun e => by have := hnb _ e.symm; omega
      have h9 := hFr.block w.heap.size (by omega) hne (fun e => by cases e)
      have r0 : wr.cell? ⟨w.heap.size, 0, none⟩ = some (.bool xv) := (World.cell?_of_block (a := ⟨w.heap.size, 0, none⟩) h9).trans HT0.out
      have r1 : wr.cell? ⟨w.heap.size, 1, none⟩ = some (.int .i64 xn) := (World.cell?_of_block (a := ⟨w.heap.size, 1, none⟩) h9).trans HT1.out
      have r2 : wr.cell? ⟨w.heap.size, 2, none⟩ = some (.slice kd (Fo.len k) kc) := (World.cell?_of_block (a := ⟨w.heap.size, 2, none⟩) h9).trans HT2.out
      have hml := HMl.out
      have hl1 : M.length + 1 ≤ maxLen := by unfold maxLen; omega
      have hl2 : (M.length + 1) * 40 ≤ 140737488355328 := by omega
      clear hp hN hat hza hzF ho1 ho2 hFr hBr hRr hne hnb hml h9
      go_wp2_with fail
      refine (tl_at (x := (xv, xn)) Hat.out (HS.out.below HBr.out) HN.out hl hn).mono ?_
      rintro e w3 ⟨a1, a2, a3, rfl, hk3, hb3⟩
      have Hk3 := hide hk3
      have Hb3 := hide hb3
      clear hk3 hb3
      have HBw := hide ((below_alloc w3 (.cells #[.bool z.1, .int .i64 z.2, .slice a1 a2 a3] 33)))
      have Hown3 : Hid (((w3.alloc (.cells #[.bool z.1, .int .i64 z.2, .slice a1 a2 a3] 33)).alloc (.cells #[.bool z.1, .int .i64 z.2, .slice a1 a2 a3] 33)).ownsRow W.heap.size 33 3 (.slice u1 M.length u3) M.length xs) :=
        owns_keep Ho1.out (fun g hg => ((below_step Hb3.out ((below_alloc _ _).alloc (by simp) _)).block g (owns_at Ho1.out g hg).2))
      have Hnews : Hid (∀ q u, [Value.bool z.1, .int .i64 z.2, .slice a1 a2 a3][q]? = some u → ((w3.alloc (.cells #[.bool z.1, .int .i64 z.2, .slice a1 a2 a3] 33)).alloc (.cells #[.bool z.1, .int .i64 z.2, .slice a1 a2 a3] 33)).cell? ((⟨w3.heap.size + 1, 0, none⟩ : Addr).add q) = some u) := by
        have h := World.news_of_block (cs := #[.bool z.1, .int .i64 z.2, .slice a1 a2 a3]) (heap_alloc_new (w3.alloc (.cells #[.bool z.1, .int .i64 z.2, .slice a1 a2 a3] 33)) (.cells #[.bool z.1, .int .i64 z.2, .slice a1 a2 a3] 33))
        intro q u hu
        have := h q u hu
        simpa using this
      have hw3 : W.heap.size ≤ w3.heap.size := Nat.le_trans HBr.out.size Hb3.out.size
      go_wp2_with (at_builtin; refine wpList_append_lies _ rfl (.tmp 22) (.tmp 24) 31 rfl W.heap.size 33 i26 (.agg #[.bool false, .int .i64 0, .slice none 0 0]) 3 40 Try.underlying31 hi26 hz0 hz1 hz2 rfl (by decide) (.slice u1 M.length u3) M.length xs rfl Hown3.out ⟨w3.heap.size + 1, 0, none⟩ 1 1 [.bool z.1, .int .i64 z.2, .slice a1 a2 a3] rfl rfl Hnews.out (by simp [Value.oneCell']) (by decide) hl1 hl2 (by simp; omega) (w3.heap.size + 2) (by simp) ?_; intro g cap w5 hown5 hg5 hat5 hlt5)
      have hTs : TsR W.heap.size w5 (.slice (some ⟨g, 0, none⟩) (M.length + 1) cap) (M ++ [(z, m)]) := TsR.snoc (w3 := w3.alloc (.cells #[.bool z.1, .int .i64 z.2, .slice a1 a2 a3] 33)) (t := (z, m)) Ho1.out Ho2.out (below_step Hb3.out HBw.out) ((Hk3.out.frame (fun q hq => ⟨hq.1, by rw [World.size_alloc]; exact Nat.lt_succ_of_lt hq.2⟩) (fun q i hq => HBw.out.cell (p := ⟨q, i, none⟩) hq.2))) hown5 hg5 (by rw [World.size_alloc]; exact hat5)
      have HTs := hide hTs
      have HBn : Hid (Below W.heap.size W w5) := ((below_step HBr.out (below_step Hb3.out ((below_alloc _ _).alloc (by simp) _))).grown hg5 (by simp; omega) (fun g hg => (owns_at Ho1.out g hg).1))
      have HFn : Hid (Fr w2 w5 (Value.slice v1 L.length v3).ownBlock none) := by
        have f1 : Fr wr w5 (Value.slice u1 M.length u3).ownBlock none := (Fr.of_below (below_step Hb3.out ((below_alloc _ _).alloc (by simp) _)) _ _).trans (Fr.of_grown hg5 (fun q _ e => .inl e.symm)) (fun q _ e => e)
        refine HFr.out.trans f1 (fun q hq e => ?_)
        rcases e with e | e
        · rcases Hgr.out q e.symm with h | h
          · exact .inl h
          · omega
        · cases e
      have Hgn : Hid (∀ q, (Value.slice (some ⟨g, 0, none⟩) (M.length + 1) cap).ownBlock = some q → some q = (Value.slice v1 L.length v3).ownBlock ∨ w2.heap.size ≤ q) := by
        intro q hq
        simp [Value.ownBlock] at hq
        subst hq
        rcases hat5 with e | e
        · exact Hgr.out _ e
        · have := HFr.out.size
          have := Hb3.out.size
          exact .inr (by omega)
      have hle : (M ++ [(z, m)]).length = M.length + 1 := by simp
      clear hown5 hg5 hat5 hlt5 hTs Hown3 Hnews HBw r0 r1 r2
      go_wp2_with fail
      go_roundw
      case rel => exact ⟨j + 1, M ++ [(z, m)], _, cap, by omega, by go_num, by rw [hle], HMn.out, by rw [hle]; exact HTs.out, HBn.out, HFn.out, by rw [hle]; exact Hgn.out⟩
      case measure => simp [intOf]; omega
    · have hje : j = Z.length := by omega
      have Hfin : Hid (M = L ++ prtT ((xv, xn), k)) := by rw [Hid, HM.out, hT.out, hje, List.take_length]
      clear hje
      go_wp2_with fail
      go_ret
      have e := Hfin.out
      rw [← e]
      exact ⟨_, rfl, HRr.out, HBr.out, HF2.out.trans HFr.out (fun q _ e => e)⟩
end Go.Proofs.Ytiilckjnggeeoad

namespace Go.Proofs.Ytiilckjnggeeoad
open Go.RowKit Go.Deep Go.ChangeShapes Go.WideShapes
attribute [local go_sem ↓] Go.wp_at_zero Go.wp_at_succ
set_option maxRecDepth 100000 in
set_option maxHeartbeats 1000000 in
theorem inR_any (n : Int) (x : Bool × Int) (k : Fo) (a : Value) (w : World) (T : List Int) (hT : T = varsT x k []) (hS : SIn w k a) (hv : T.length * 8 ≤ 140737488355328) :
    Calls Try.prog 81 #[.int .i64 n, .agg #[.bool x.1, .int .i64 x.2, a]] w fun e w' => e = .returned (.bool (hasB T n)) ∧ Below w.heap.size w w' := by
  obtain ⟨xv, xn⟩ := x
  have HS := hide hS
  obtain ⟨ad, ac, b, o, rfl, -, -, -, -⟩ := hS
  go_enter Try.func81, Try.ntmps81
  go_wp2_with fail
  refine (varsR_few (xv, xn) k _ [] (.slice none 0 0) _ T hT (HS.out.alloc _) ⟨none, 0, 0, 0, rfl, fun h => by simp at h, Nat.le_refl _, Nat.zero_le _, fun i hi => by simp at hi⟩ hv).mono ?_
  rintro e w1 ⟨v', rfl, hN, hb⟩
  have hB := below_box hb
  obtain ⟨la, lc, lb, lo, rfl, hla, hlc, hlm, hF⟩ := hN
  unfold maxLen at hlm
  have HF := hide hF
  clear hb hF hT hv
  go_wp2_with fail
  go_loop [10] (fun i => ∃ j : Nat, j ≤ T.length ∧ i = .int .i64 j ∧ ∀ q, q < j → T.getD q 0 ≠ n) (fun i => T.length - (intOf i).toNat)
  case atStart => exact ⟨0, Nat.zero_le _, rfl, fun q hq => by omega⟩
  case round =>
    obtain ⟨j, hj, rfl, hno⟩ := hrel
    have Hno := hide hno
    clear hno
    by_cases hlt : j < T.length
    · have hlt' : (j : Int) < (T.length : Int) := by omega
      have hc := HF.out j hlt
      have Hmem : Hid (T.getD j 0 ∈ T) := by
        rw [Hid, List.getD_eq_getElem?_getD, List.getElem?_eq_getElem hlt]; simp
      have ha : la = some ⟨lb, lo, none⟩ := hla (by omega)
      subst ha
      have Hnx : Hid (T.getD j 0 ≠ n → ∀ q, q < j + 1 → T.getD q 0 ≠ n) := fun h q hq => by
        by_cases e : q = j
        · rw [e]; exact h
        · exact Hno.out q (by omega)
      generalize T.getD j 0 = z at *
      by_cases he : z = n
      · have heb : (z == n) = true := by simp [he]
        have Hf : Hid (hasB T n = true) := by
          rw [Hid, hasB, ← he, decide_eq_true Hmem.out]
        clear he hla
        go_wp2_with fail
        go_ret
        exact ⟨by rw [Hf.out]; rfl, hB⟩
      · have heb : (z == n) = false := by simp [he]
        have Hn := hide (Hnx.out he)
        clear he hla
        go_wp2_with fail
        go_round
        case rel => exact ⟨j + 1, by omega, by go_num, Hn.out⟩
        case measure => simp [intOf]; omega
    · have Hf : Hid (hasB T n = false) := by
        have : n ∉ T := fun h => by
          obtain ⟨q, hq, e⟩ := List.mem_iff_getElem.1 h
          exact Hno.out q (by omega) (by rw [List.getD_eq_getElem?_getD, List.getElem?_eq_getElem hq]; exact e)
        rw [Hid, hasB, decide_eq_false this]
      clear hla
      go_wp2_with fail
      go_ret
      exact ⟨by rw [Hf.out]; rfl, hB⟩
end Go.Proofs.Ytiilckjnggeeoad

namespace Go.Proofs.Ytiilckjnggeeoad
open Go.RowKit Go.Deep Go.ChangeShapes Go.WideShapes
attribute [local go_sem ↓] Go.wp_at_zero Go.wp_at_succ
def UniPost (w : World) (R : Option Sb) (e : Ending) (w' : World) : Prop :=
  Below w.heap.size w w' ∧ ∃ (z1 : Option Addr) (m z3 : Nat) (ok : Bool), e = .returned (.tuple #[.slice z1 m z3, .bool ok]) ∧ (ok = false → R = none ∧ z1 = none ∧ m = 0 ∧ z3 = 0) ∧ (ok = true → ∃ s', R = some s' ∧ m = s'.length ∧ SubIn w' s' (.slice z1 m z3))
theorem box1 {W w1 : World} {x y z : Value} (h : Below (W.alloc (.cells #[x, y, z] 33)).heap.size (W.alloc (.cells #[x, y, z] 33)) w1) : w1.cell? ⟨W.heap.size, 0, none⟩ = some x ∧ w1.cell? ⟨W.heap.size, 1, none⟩ = some y ∧ w1.cell? ⟨W.heap.size, 2, none⟩ = some z ∧ (∀ i, w1.frozen? ⟨W.heap.size, i, none⟩ = false) ∧ W.heap.size < w1.heap.size := by
  obtain ⟨a, b, c, d, _, e⟩ := box_full h
  exact ⟨a, b, c, d, e⟩
theorem box1d {W w1 : World} {x y z : Value} (h : Below (W.alloc (.cells #[x, y, z] 33)).drew.heap.size (W.alloc (.cells #[x, y, z] 33)).drew w1) : w1.cell? ⟨W.heap.size, 0, none⟩ = some x ∧ w1.cell? ⟨W.heap.size, 1, none⟩ = some y ∧ w1.cell? ⟨W.heap.size, 2, none⟩ = some z ∧ (∀ i, w1.frozen? ⟨W.heap.size, i, none⟩ = false) ∧ W.heap.size < w1.heap.size :=
  box1 ((Below.refl _ _).drew.trans h)
theorem box2 {W w1 : World} {x y z x' y' z' : Value} (h : Below ((W.alloc (.cells #[x, y, z] 33)).alloc (.cells #[x', y', z'] 33)).heap.size ((W.alloc (.cells #[x, y, z] 33)).alloc (.cells #[x', y', z'] 33)) w1) :
    (w1.cell? ⟨W.heap.size, 0, none⟩ = some x ∧ w1.cell? ⟨W.heap.size, 1, none⟩ = some y ∧ w1.cell? ⟨W.heap.size, 2, none⟩ = some z ∧ (∀ i, w1.frozen? ⟨W.heap.size, i, none⟩ = false)) ∧
    (w1.cell? ⟨W.heap.size + 1, 0, none⟩ = some x' ∧ w1.cell? ⟨W.heap.size + 1, 1, none⟩ = some y' ∧ w1.cell? ⟨W.heap.size + 1, 2, none⟩ = some z' ∧ (∀ i, w1.frozen? ⟨W.heap.size + 1, i, none⟩ = false)) ∧ W.heap.size + 1 < w1.heap.size := by
  obtain ⟨a, b, c, d, e1, e2⟩ := box_full h
  obtain ⟨a', b', c', d', _, _⟩ := box_full e1
  rw [World.size_alloc] at a b c d e2
  exact ⟨⟨a', b', c', d'⟩, ⟨a, b, c, d⟩, e2⟩
theorem box2d {W w1 : World} {x y z x' y' z' : Value} (h : Below ((W.alloc (.cells #[x, y, z] 33)).alloc (.cells #[x', y', z'] 33)).drew.heap.size ((W.alloc (.cells #[x, y, z] 33)).alloc (.cells #[x', y', z'] 33)).drew w1) :
    (w1.cell? ⟨W.heap.size, 0, none⟩ = some x ∧ w1.cell? ⟨W.heap.size, 1, none⟩ = some y ∧ w1.cell? ⟨W.heap.size, 2, none⟩ = some z ∧ (∀ i, w1.frozen? ⟨W.heap.size, i, none⟩ = false)) ∧
    (w1.cell? ⟨W.heap.size + 1, 0, none⟩ = some x' ∧ w1.cell? ⟨W.heap.size + 1, 1, none⟩ = some y' ∧ w1.cell? ⟨W.heap.size + 1, 2, none⟩ = some z' ∧ (∀ i, w1.frozen? ⟨W.heap.size + 1, i, none⟩ = false)) ∧ W.heap.size + 1 < w1.heap.size :=
  box2 ((Below.refl _ _).drew.trans h)
theorem thus {p q : Prop} (h : p) (k : p → q) : q := k h
def C3 (w : World) (b : Nat) (x y z : Value) : Prop := w.cell? ⟨b, 0, none⟩ = some x ∧ w.cell? ⟨b, 1, none⟩ = some y ∧ w.cell? ⟨b, 2, none⟩ = some z
theorem fin0 {wn W : World} {x y z x' y' z' : Value} (h : Below wn.heap.size wn W) : C3 ((W.alloc (.cells #[x, y, z] 33)).alloc (.cells #[x', y', z'] 33)) W.heap.size x y z ∧ C3 ((W.alloc (.cells #[x, y, z] 33)).alloc (.cells #[x', y', z'] 33)) (W.heap.size + 1) x' y' z' ∧ Below wn.heap.size wn ((W.alloc (.cells #[x, y, z] 33)).alloc (.cells #[x', y', z'] 33)) := by
  have hs := h.size
  refine ⟨⟨?_, ?_, ?_⟩, ⟨new_cell (World.size_alloc _ _), new_cell (World.size_alloc _ _), new_cell (World.size_alloc _ _)⟩, (h.alloc hs _).alloc (by simp; omega) _⟩
  · rw [World.cell?_alloc_lt _ _ _ (by simp)]; exact new_cell rfl
  · rw [World.cell?_alloc_lt _ _ _ (by simp)]; exact new_cell rfl
  · rw [World.cell?_alloc_lt _ _ _ (by simp)]; exact new_cell rfl
theorem fin1 {wn W : World} {b : Nat} {x y z x' y' z' u0 u1 u2 : Value} (h : Below wn.heap.size wn W) (hb : wn.heap.size ≤ b) (h0 : W.cell? ⟨b, 0, none⟩ = some u0) (h1 : W.cell? ⟨b, 1, none⟩ = some u1) (h2 : W.cell? ⟨b, 2, none⟩ = some u2) :
    C3 ((((W.setCell ⟨b, 0, none⟩ x).setCell ⟨b, 1, none⟩ y).setCell ⟨b, 2, none⟩ z).alloc (.cells #[x', y', z'] 33)) b x y z ∧ C3 ((((W.setCell ⟨b, 0, none⟩ x).setCell ⟨b, 1, none⟩ y).setCell ⟨b, 2, none⟩ z).alloc (.cells #[x', y', z'] 33)) W.heap.size x' y' z' ∧ Below wn.heap.size wn ((((W.setCell ⟨b, 0, none⟩ x).setCell ⟨b, 1, none⟩ y).setCell ⟨b, 2, none⟩ z).alloc (.cells #[x', y', z'] 33)) := by
  have hs := h.size
  have hbl : b < W.heap.size := World.block_lt_of_cell? _ _ h0
  have hsz : (set3 W b 0 x y z).heap.size = W.heap.size := set3_size
  obtain ⟨g0, g1, g2⟩ := set3_cells (x := x) (y := y) (z := z) (o := 0) h0 h1 h2
  have e : (((W.setCell ⟨b, 0, none⟩ x).setCell ⟨b, 1, none⟩ y).setCell ⟨b, 2, none⟩ z) = set3 W b 0 x y z := rfl
  rw [e]
  refine ⟨⟨?_, ?_, ?_⟩, ⟨new_cell hsz, new_cell hsz, new_cell hsz⟩, (set3_below (o := 0) h hb).alloc (by rw [hsz]; exact hs) _⟩
  · rw [World.cell?_alloc_lt _ _ _ (by rw [hsz]; exact hbl)]; exact g0
  · rw [World.cell?_alloc_lt _ _ _ (by rw [hsz]; exact hbl)]; exact g1
  · rw [World.cell?_alloc_lt _ _ _ (by rw [hsz]; exact hbl)]; exact g2
theorem fin2 {wn W : World} {b d : Nat} {x y z x' y' z' u0 u1 u2 t0 t1 t2 : Value} (h : Below wn.heap.size wn W) (hb : wn.heap.size ≤ b) (hd : wn.heap.size ≤ d) (hn : b ≠ d) (h0 : W.cell? ⟨b, 0, none⟩ = some u0) (h1 : W.cell? ⟨b, 1, none⟩ = some u1) (h2 : W.cell? ⟨b, 2, none⟩ = some u2) (k0 : W.cell? ⟨d, 0, none⟩ = some t0) (k1 : W.cell? ⟨d, 1, none⟩ = some t1) (k2 : W.cell? ⟨d, 2, none⟩ = some t2) :
    C3 ((((((W.setCell ⟨b, 0, none⟩ x).setCell ⟨b, 1, none⟩ y).setCell ⟨b, 2, none⟩ z).setCell ⟨d, 0, none⟩ x').setCell ⟨d, 1, none⟩ y').setCell ⟨d, 2, none⟩ z') b x y z ∧ C3 ((((((W.setCell ⟨b, 0, none⟩ x).setCell ⟨b, 1, none⟩ y).setCell ⟨b, 2, none⟩ z).setCell ⟨d, 0, none⟩ x').setCell ⟨d, 1, none⟩ y').setCell ⟨d, 2, none⟩ z') d x' y' z' ∧ Below wn.heap.size wn ((((((W.setCell ⟨b, 0, none⟩ x).setCell ⟨b, 1, none⟩ y).setCell ⟨b, 2, none⟩ z).setCell ⟨d, 0, none⟩ x').setCell ⟨d, 1, none⟩ y').setCell ⟨d, 2, none⟩ z') := by
  obtain ⟨g0, g1, g2⟩ := set3_cells (x := x) (y := y) (z := z) (o := 0) h0 h1 h2
  have m0 : (set3 W b 0 x y z).cell? ⟨d, 0, none⟩ = some t0 := (set3_other (.inl (Ne.symm hn))).trans k0
  have m1 : (set3 W b 0 x y z).cell? ⟨d, 1, none⟩ = some t1 := (set3_other (.inl (Ne.symm hn))).trans k1
  have m2 : (set3 W b 0 x y z).cell? ⟨d, 2, none⟩ = some t2 := (set3_other (.inl (Ne.symm hn))).trans k2
  obtain ⟨l0, l1, l2⟩ := set3_cells (x := x') (y := y') (z := z') (o := 0) m0 m1 m2
  exact ⟨⟨(set3_other (o := 0) (.inl hn)).trans g0, (set3_other (o := 0) (.inl hn)).trans g1, (set3_other (o := 0) (.inl hn)).trans g2⟩, ⟨l0, l1, l2⟩, set3_below (o := 0) (set3_below (o := 0) h hb) hd⟩
theorem swap3 {p q r : Prop} (h : p ∧ q ∧ r) : q ∧ p ∧ r := ⟨h.2.1, h.1, h.2.2⟩
theorem uni_no {w w' : World} {R : Option Sb} (hb : Below w.heap.size w w') (h : R = none) : UniPost w R (.returned (.tuple #[.slice none 0 0, .bool false])) w' := ⟨hb, none, 0, 0, false, rfl, fun _ => ⟨h, rfl, rfl, rfl⟩, fun e => by cases e⟩
end Go.Proofs.Ytiilckjnggeeoad

namespace Go.Proofs.Ytiilckjnggeeoad
open Go.RowKit Go.Deep Go.ChangeShapes Go.WideShapes
theorem norm_norm : ∀ F : Fo, Fo.norm (Fo.norm F) = Fo.norm F
  | .nil => rfl
  | .node _ _ _ k r => by simp [Fo.norm, norm_norm k, norm_norm r]
def two (t u : Tm) : Fo := .node 0 0 t.1 t.2 (.node 0 0 u.1 u.2 .nil)
def one1 (t : Tm) : Fo := .node 0 0 t.1 t.2 .nil
theorem one_in {w : World} {t : Tm} {a : Value} (h1 : SIn w t.2 a) : SIn (w.alloc (.cells #[.bool t.1.1, .int .i64 t.1.2, a] 33)) (one1 t) (.slice (some ⟨w.heap.size, 0, none⟩) 1 1) :=
  ⟨_, 1, w.heap.size, 0, rfl, fun _ => rfl, Nat.le_refl _, by unfold maxLen; omega, FIn.mk (new_cell rfl) (new_cell rfl) (new_cell rfl) (h1.alloc _) trivial⟩
theorem gd_right {s : List Int} {x : Bool × Int} {k : Fo} (hs : s.all okNum = true) (hk : Fo.norm k = k) (h : wrongF s x k = 0) : Gd (x, k) ∧ depT (x, k) ≤ 12 ∧ tszR k ≤ 12 := by
  have := gd_of_right hs h
  rwa [hk] at this
end Go.Proofs.Ytiilckjnggeeoad

namespace Go.Proofs.Ytiilckjnggeeoad
open Go.RowKit Go.Deep Go.ChangeShapes Go.WideShapes
attribute [local go_sem ↓] Go.wp_at_zero Go.wp_at_succ
theorem parse_of {s : List Int} {l : List UInt8} {t : Tm} (h1 : wsig s = 0) (h2 : l.length ≤ 48) (h3 : readT s (l.length + 1) l = (0, t, [])) (h4 : wrongF s t.1 t.2 = 0) : parseT s l = (0, t) := by
  rw [parseT, h1, if_neg (by simp), if_neg (by omega), h3]
  simp [h4]
theorem ui_of {t u : Tm} (ht : Gd t) (hu : Gd u) (h1 : depT t ≤ 12) (h2 : depT u ≤ 12) : UI [] [(t, u)] := by
  refine ⟨fun p hp => by simp at hp, fun p hp => by simp at hp, fun p hp => ?_, fun p hp => by simp at hp, by decide, ?_, fun p hp => by simp at hp⟩
  · simp only [List.mem_singleton] at hp
    subst hp
    exact ⟨ht, hu⟩
  · have e : ∀ z : Tm, Gd z → subT (bnd []) z = z := fun z hz => subT_vr hz.ok
    simp only [dpL, List.length_nil, Nat.add_zero, and_true]
    rw [e t ht, e u hu]
    simpa using ⟨h1, h2⟩
def ta : Tm := ((false, 0), .nil)
def tb (t : Tm) : Tm := ((false, 1), .node 0 0 t.1 t.2 .nil)
def tc (t u : Tm) : Tm := ((false, 2), .node 0 0 t.1 t.2 (.node 0 0 u.1 u.2 .nil))
theorem sg : ([0, 1, 2] : List Int).all okNum = true := by decide
theorem l5p : parseT [0, 1, 2] [88, 48] = (0, vr 0) := parse_of al_wsig (by decide) rfl (by decide +kernel)
theorem l8p : parseT [0, 1, 2] [97] = (0, ta) := parse_of al_wsig (by decide) rfl (by decide +kernel)
theorem g1 : Gd (tc (vr 0) (tb (vr 1))) ∧ depT (tc (vr 0) (tb (vr 1))) ≤ 12 ∧ tszR (tc (vr 0) (tb (vr 1))).2 ≤ 12 := gd_right sg rfl (by decide +kernel)
theorem g2 : Gd (tc (tb ta) (vr 0)) ∧ depT (tc (tb ta) (vr 0)) ≤ 12 ∧ tszR (tc (tb ta) (vr 0)).2 ≤ 12 := gd_right sg rfl (by decide +kernel)
theorem g3 : Gd (tc (vr 0) (vr 1)) ∧ depT (tc (vr 0) (vr 1)) ≤ 12 ∧ tszR (tc (vr 0) (vr 1)).2 ≤ 12 := gd_right sg rfl (by decide +kernel)
theorem g4 : Gd (tc ta (tb ta)) ∧ depT (tc ta (tb ta)) ≤ 12 ∧ tszR (tc ta (tb ta)).2 ≤ 12 := gd_right sg rfl (by decide +kernel)
theorem g5 : Gd (vr 0) ∧ depT (vr 0) ≤ 12 ∧ tszR (vr 0).2 ≤ 12 := gd_right (s := [0, 1, 2]) sg rfl (by decide +kernel)
theorem g6 : Gd (tb (vr 0)) ∧ depT (tb (vr 0)) ≤ 12 ∧ tszR (tb (vr 0)).2 ≤ 12 := gd_right sg rfl (by decide +kernel)
theorem g8 : Gd ta ∧ depT ta ≤ 12 ∧ tszR ta.2 ≤ 12 := gd_right sg rfl (by decide +kernel)
theorem g9 : Gd (tb ta) ∧ depT (tb ta) ≤ 12 ∧ tszR (tb ta).2 ≤ 12 := gd_right sg rfl (by decide +kernel)
theorem u1 : runU 10 [] [(tc (vr 0) (tb (vr 1)), tc (tb ta) (vr 0))] = some (some [(0, tb ta), (1, ta)]) := by kernel_rfl
theorem u2 : runU 10 [] [(vr 0, tb (vr 0))] = some none := by kernel_rfl
theorem e1 : extT [] (tc (vr 0) (vr 1)) (tc ta (tb ta)) = some [(0, ta), (1, tb ta)] := by kernel_rfl
theorem e2 : extT [(0, ta), (1, tb ta)] (vr 2) ta = some [(0, ta), (1, tb ta), (2, ta)] := by kernel_rfl
theorem s1 : subT (bnd [(0, tb ta), (1, ta)]) (tc (vr 0) (vr 1)) = tc (tb ta) ta := by kernel_rfl
theorem x1 : textT (tc (tb ta) ta).1 (tc (tb ta) ta).2 = [99, 40, 98, 40, 97, 41, 44, 97, 41] := by kernel_rfl
theorem byte_eq {U : ByteArray} {l : List UInt8} (h : U.data.toList = l) : U = ⟨l.toArray⟩ := by
  obtain ⟨d⟩ := U
  simp only at h
  subst h
  simp
theorem all2 : ∀ p ∈ ([(0, tb ta), (1, ta)] : Sb), narT p.2 ∧ okT p.2 := fun p hp => by
  simp only [List.mem_cons, List.not_mem_nil, or_false] at hp
  rcases hp with rfl | rfl
  · exact ⟨g9.1.nar, g9.1.ok⟩
  · exact ⟨g8.1.nar, g8.1.ok⟩
set_option maxRecDepth 100000 in
theorem cap {w : World} {vs a : Value} (hv : SubIn w [(0, tb ta), (1, ta)] vs) (h1 : SIn w (tc (vr 0) (vr 1)).2 a) : Calls Try.prog 65 #[vs, .agg #[.bool false, .int .i64 2, a]] w fun e w' => ∃ a1 a2 a3, e = .returned (.agg #[.bool false, .int .i64 2, .slice a1 a2 a3]) ∧ SIn w' (tc (tb ta) ta).2 (.slice a1 a2 a3) ∧ Below w.heap.size w w' := by
  refine (apply_any _ vs (false, 2) (tc (vr 0) (vr 1)).2 a w hv all2 h1 g3.1.nar).mono ?_
  rintro e w' ⟨a', rfl, hO, hb⟩
  have e : subT (bnd [(0, tb ta), (1, ta)]) ((false, 2), (tc (vr 0) (vr 1)).2) = tc (tb ta) ta := s1
  rw [e] at hO ⊢
  obtain ⟨z1, z2, z3, rfl⟩ := slice_of_sin hO.toS
  exact ⟨z1, z2, z3, rfl, hO.toS, hb⟩
end Go.Proofs.Ytiilckjnggeeoad

namespace Go.Proofs.Ytiilckjnggeeoad
open Go.RowKit Go.Deep Go.ChangeShapes Go.WideShapes
attribute [local go_sem ↓] Go.wp_at_zero Go.wp_at_succ
theorem heap0 {W : World} {o1 o2 : Obj} {q : Nat} (h : q < W.heap.size) : ((W.alloc o1).alloc o2).heap[q]? = W.heap[q]? := by
  rw [Below.heap_alloc _ _ _ (by simp; omega), Below.heap_alloc _ _ _ h]
theorem heap1 {W : World} {b q : Nat} {x y z : Value} {o : Obj} (h : q < W.heap.size) (hn : q ≠ b) : ((((W.setCell ⟨b, 0, none⟩ x).setCell ⟨b, 1, none⟩ y).setCell ⟨b, 2, none⟩ z).alloc o).heap[q]? = W.heap[q]? := by
  have hs : (set3 W b 0 x y z).heap.size = W.heap.size := set3_size
  have e : (((W.setCell ⟨b, 0, none⟩ x).setCell ⟨b, 1, none⟩ y).setCell ⟨b, 2, none⟩ z) = set3 W b 0 x y z := rfl
  rw [e, Below.heap_alloc _ _ _ (by rw [hs]; exact h), set3_heap hn]
theorem heap2 {W : World} {b d q : Nat} {x y z x' y' z' : Value} (hn : q ≠ b) (hd : q ≠ d) : ((((((W.setCell ⟨b, 0, none⟩ x).setCell ⟨b, 1, none⟩ y).setCell ⟨b, 2, none⟩ z).setCell ⟨d, 0, none⟩ x').setCell ⟨d, 1, none⟩ y').setCell ⟨d, 2, none⟩ z').heap[q]? = W.heap[q]? := by
  have e : ((((((W.setCell ⟨b, 0, none⟩ x).setCell ⟨b, 1, none⟩ y).setCell ⟨b, 2, none⟩ z).setCell ⟨d, 0, none⟩ x').setCell ⟨d, 1, none⟩ y').setCell ⟨d, 2, none⟩ z') = set3 (set3 W b 0 x y z) d 0 x' y' z' := rfl
  rw [e, set3_heap hd, set3_heap hn]
theorem applyR_call {W wn : World} {s : Sb} {vs : Value} {x z : Bool × Int} {k zk : Fo} {a : Value} (hb0 : Below W.heap.size W wn) (hV : SubIn W s vs) (hs : ∀ p ∈ s, okT p.2) (hS : SIn W k a) (hok : okT (x, k)) (hnar : narT (x, k)) (hz : (z, zk) = subT (bnd s) (x, k)) (w' : World) (hb : Below wn.heap.size wn w') :
    Calls Try.prog 45 #[vs, .agg #[.bool x.1, .int .i64 x.2, a]] w' fun e w'' => ∃ (x1 : Option Addr) (x2 x3 m : Nat), m = w'.heap.size ∧ e = .returned (.agg #[.bool z.1, .int .i64 z.2, .slice x1 x2 x3]) ∧ SB (fun q => q < wn.heap.size ∨ (m ≤ q ∧ q < w''.heap.size)) w'' zk (.slice x1 x2 x3) ∧ Below w'.heap.size w' w'' := by
  refine (applyR_any x k s vs W a w' (below_step hb0 hb) hV hs hS hok hnar).mono ?_
  rintro e w'' ⟨x1, x2, x3, rfl, hSB, hb2⟩
  rw [← hz] at hSB ⊢
  have h0 := hb0.size
  exact ⟨x1, x2, x3, _, rfl, rfl, hSB.wide (fun q hq => by rcases hq with h | h; exact .inl (by omega); exact .inr h), hb2⟩
end Go.Proofs.Ytiilckjnggeeoad
