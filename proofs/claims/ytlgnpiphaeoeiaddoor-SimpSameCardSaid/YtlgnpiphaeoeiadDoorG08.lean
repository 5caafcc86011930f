/- Ext More Law2 CN CK CMo -/
import Derived.Test.YtlgnpiphaeoeiadDoorG07
import Derived.Deep.RegionLaw
namespace Go.Proofs.YtlgnpiphaeoeiadDoor
open Go.RowKit Go.Deep Go.ChangeShapes Go.WideShapes
attribute [local go_sem ↓] Go.wp_at_zero Go.wp_at_succ
def ExtPost (lo : Nat) (X : Nat → Prop) (w : World) (s : Sb) (vs : Value) (t u : Tm) (e : Ending) (w' : World) : Prop :=
  Fr w w' vs.ownBlock none ∧ ∃ (z1 : Option Addr) (m z3 : Nat) (ok : Bool), e = .returned (.tuple #[.slice z1 m z3, .bool ok]) ∧ (ok = false → extT s t u = none ∧ z1 = none ∧ m = 0 ∧ z3 = 0) ∧
    (ok = true → ∃ s' xs', extT s t u = some s' ∧ m = s'.length ∧ OwnS lo (Ex X w w' (.slice z1 m z3)) w' s' (.slice z1 m z3) xs' ∧ Mv w vs (.slice z1 m z3))
def ExtSaid (x : Bool × Int) (k : Fo) : Prop := ∀ (lo : Nat) (X : Nat → Prop) (s : Sb) (vs : Value) (xs : List Value) (y : Bool × Int) (l : Fo) (a c : Value) (w : World),
    OwnS lo X w s vs xs → lo ≤ w.heap.size → SB X w k a → SB X w l c → okT (y, l) → narT (y, l) → (s.length + tszR k) * 48 ≤ 140737488355328 →
    Calls Tryd.prog 70 #[vs, .agg #[.bool x.1, .int .i64 x.2, a], .agg #[.bool y.1, .int .i64 y.2, c]] w (ExtPost lo X w s vs (x, k) (y, l))
theorem ext_fails {lo : Nat} {X : Nat → Prop} {w w' : World} {s : Sb} {vs : Value} {t u : Tm} (hf : Fr w w' vs.ownBlock none) (h : extT s t u = none) : ExtPost lo X w s vs t u (.returned (.tuple #[.slice none 0 0, .bool false])) w' :=
  ⟨hf, none, 0, 0, false, rfl, fun _ => ⟨h, rfl, rfl, rfl⟩, fun e => by cases e⟩
theorem ext_holds {lo : Nat} {X : Nat → Prop} {w w' : World} {s s' : Sb} {vs : Value} {t u : Tm} {z1 : Option Addr} {z3 : Nat} {xs' : List Value} (h : extT s t u = some s')
    (hO : OwnS lo (Ex X w w' (.slice z1 s'.length z3)) w' s' (.slice z1 s'.length z3) xs' ∧ Fr w w' vs.ownBlock none ∧ Mv w vs (.slice z1 s'.length z3)) : ExtPost lo X w s vs t u (.returned (.tuple #[.slice z1 s'.length z3, .bool true])) w' :=
  ⟨hO.2.1, z1, s'.length, z3, true, rfl, fun e => by (cases e), fun _ => ⟨s', xs', h, rfl, hO.1, hO.2.2⟩⟩
set_option maxRecDepth 100000 in
set_option maxHeartbeats 2000000 in
theorem extend_any (x : Bool × Int) (k : Fo) : ExtSaid x k := by
  refine Fo.ind1 (p := ExtSaid) ?_ x k
  clear x k
  intro x k ih lo X s vs xs y l a c w hO hlo hS hU hok hnar hlen
  obtain ⟨v, n⟩ := x
  obtain ⟨yv, yn⟩ := y
  have HI := hide ih
  have HO := hide hO
  have Hok := hide hok
  have Hnar := hide hnar
  have HU := hide hU
  obtain ⟨z1, z3, rfl⟩ := hO.slice
  obtain ⟨ad, ac, b, o, rfl, had, hlc, hcm, hF⟩ := hS
  obtain ⟨ud, uc, ub, uo, rfl, hud, hulc, hucm, hG⟩ := hU
  have HF := hide hF
  have HG := hide hG
  unfold maxLen at hcm hucm
  have hlent : 0 < tszR k := by unfold tszR; omega
  clear ih hO hok hnar hF hG
  cases v
  · by_cases hc : yv = false ∧ yn = n ∧ Fo.len l = Fo.len k
    · obtain ⟨rfl, rfl, hll⟩ := hc
      have Hres : Hid (extT s ((false, yn), k) ((false, yn), l) = extF k l s) := extT_in hll
      have hllb : ((Fo.len l : Int) != (Fo.len k : Int)) = false := by simp [hll]
      have hnb : (yn != yn) = false := by simp
      have Hll := hide hll
      have hll1 : Fo.len l ≤ Fo.len k := by omega
      have hll2 : Fo.len k ≤ Fo.len l := by omega
      have Hl := hide (Fo.len_list k)
      have Hl2 := hide (Fo.len_list l)
      clear hll
      go_enter Tryd.func70, Tryd.ntmps70
      go_wp2_with fail
      generalize hW2 : (w.alloc (.cells #[.bool false, .int .i64 yn, .slice ad (Fo.len k) ac] 37)).alloc (.cells #[.bool false, .int .i64 yn, .slice ud (Fo.len l) uc] 37) = W2
      have hs2 : W2.heap.size = w.heap.size + 1 + 1 := by rw [← hW2]; simp
      have hB2 : Below w.heap.size w W2 := by rw [← hW2]; exact (below_alloc _ _).alloc (by simp) _
      have r2 : W2.cell? ⟨w.heap.size + 1, 2, none⟩ = some (.slice ud (Fo.len l) uc) := by rw [← hW2]; exact new_cell (World.size_alloc _ _)
      have Hr2 := hide r2
      have HB2 := hide hB2
      have hnv : ∀ q, (Value.slice z1 s.length z3).ownBlock = some q → q < w.heap.size := fun q hq => (owns_at HO.out.row q hq).2
      have Hnv := hide hnv
      have Hbeg := hide (own_begin hB2 HO.out)
      clear hW2 r2 hB2 hnv
      go_loopw [0, 58] (fun vj i wr => ∃ (j : Nat) (sj : Sb) (y1 : Option Addr) (y3 : Nat) (xsj : List Value), j ≤ Fo.len k ∧ i = .int .i64 j ∧ vj = .slice y1 sj.length y3 ∧ extF (Fo.take j k) (Fo.take j l) s = some sj ∧ OwnS lo (Ex X W2 wr (.slice y1 sj.length y3)) wr sj (.slice y1 sj.length y3) xsj ∧ Fr W2 wr (Value.slice z1 s.length z3).ownBlock none ∧ Mv W2 (.slice z1 s.length z3) (.slice y1 sj.length y3)) (fun _ i _ => Fo.len k - (intOf i).toNat)
      case atStart => exact ⟨0, s, z1, z3, xs, Nat.zero_le _, rfl, rfl, rfl, Hbeg.out.1, Hbeg.out.2.1, Hbeg.out.2.2⟩
      case round =>
        obtain ⟨j, sj, y1, y3, xsj, hj, rfl, rfl, hex, hOj, hFj, hMj⟩ := hrel
        have Hex := hide hex
        have HOj := hide hOj
        have HFj := hide hFj
        have HMj := hide hMj
        clear hex hOj hFj hMj Hbeg
        have hs3 := HFj.out.size
        by_cases hlt : j < Fo.len k
        · have hlt' : (j : Int) < (Fo.len k : Int) := by omega
          have hlt2 : (j : Int) < (Fo.len l : Int) := by omega
          obtain ⟨had', hXb⟩ := had (by omega)
          obtain ⟨hud', hXu⟩ := hud (by omega)
          subst had' hud'
          have Hkeep : Hid (∀ q, X q → wr.heap[q]? = w.heap[q]?) := fun q hq => by
            have h1 := HO.out.off q hq
            rw [HFj.out.block q (by omega) h1.2 (by simp), HB2.out.block q h1.1]
          obtain ⟨⟨⟨pv, pn⟩, pk⟩, hp⟩ : ∃ y, k.list[j]? = some y := ⟨k.list[j]'(by rw [Hl.out]; exact hlt), by simp⟩
          obtain ⟨⟨⟨tv, tn⟩, tk⟩, ht⟩ : ∃ y, l.list[j]? = some y := ⟨l.list[j]'(by rw [Hl2.out]; omega), by simp⟩
          obtain ⟨c0, c1, pa, c2, hSp⟩ := HF.out.at hp
          obtain ⟨d0, d1, ta, d2, hSt⟩ := HG.out.at ht
          have c0' := (World.cell?_of_block (a := ⟨b, o + j * 3, none⟩) (Hkeep.out b hXb)).trans c0
          have c1' := (World.cell?_of_block (a := ⟨b, o + j * 3 + 1, none⟩) (Hkeep.out b hXb)).trans c1
          have c2' := (World.cell?_of_block (a := ⟨b, o + j * 3 + 2, none⟩) (Hkeep.out b hXb)).trans c2
          have d0' := (World.cell?_of_block (a := ⟨ub, uo + j * 3, none⟩) (Hkeep.out ub hXu)).trans d0
          have d1' := (World.cell?_of_block (a := ⟨ub, uo + j * 3 + 1, none⟩) (Hkeep.out ub hXu)).trans d1
          have d2' := (World.cell?_of_block (a := ⟨ub, uo + j * 3 + 2, none⟩) (Hkeep.out ub hXu)).trans d2
          have HSp := hide ((hSp.kept Hkeep.out).wide (Y := Ex X W2 wr (.slice y1 sj.length y3)) (fun q hq => .inl hq))
          have HSt := hide ((hSt.kept Hkeep.out).wide (Y := Ex X W2 wr (.slice y1 sj.length y3)) (fun q hq => .inl hq))
          obtain ⟨pa1, pc, pb, po, rfl, -, -, -, -⟩ := hSp
          obtain ⟨ta1, tc, tb, t4, rfl, -, -, -, -⟩ := hSt
          have e2 : wr.cell? ⟨w.heap.size + 1, 2, none⟩ = some (.slice (some ⟨ub, uo, none⟩) (Fo.len l) uc) := by
            rw [World.cell?_of_block (a := ⟨w.heap.size + 1, 2, none⟩) (HFj.out.block (w.heap.size + 1) (by omega) (fun e => by have := Hnv.out _ e.symm; omega) (by simp))]
            exact Hr2.out
          have Hok2 : Hid (okT ((tv, tn), tk)) := ok_mem Hok.out.2 (List.mem_of_getElem? ht)
          have Hnar2 : Hid (narT ((tv, tn), tk)) := nar_mem Hnar.out.2 (List.mem_of_getElem? ht)
          have Hbd : Hid ((sj.length + tszR pk) * 48 ≤ 140737488355328) := by
            have h1 := extF_len Hex.out
            have h2 := sizesR_take j k
            rw [hp] at h2
            simp only at h2
            unfold tszR at h2 hlen
            unfold tszR Hid
            omega
          have Hstep : Hid (extF (Fo.take (j + 1) k) (Fo.take (j + 1) l) s = extT sj ((pv, pn), pk) ((tv, tn), tk)) := by
            rw [Hid, ext_snoc s hp ht, Hex.out]; rfl
          have Hp := hide hp
          have hub : ub < wr.heap.size := World.block_lt_of_cell? _ _ d0'
          clear c0 c1 c2 d0 d1 d2 hp ht had hud hXb hXu
          go_upto_region 14 with fail
          generalize hwa : wr.alloc (.cells #[.bool pv, .int .i64 pn, .slice pa1 (Fo.len pk) pc] 37) = wa
          have a0 : wa.cell? ⟨wr.heap.size, 0, none⟩ = some (.bool pv) := by rw [← hwa]; exact new_cell rfl
          have a1 : wa.cell? ⟨wr.heap.size, 1, none⟩ = some (.int .i64 pn) := by rw [← hwa]; exact new_cell rfl
          have a2 : wa.cell? ⟨wr.heap.size, 2, none⟩ = some (.slice pa1 (Fo.len pk) pc) := by rw [← hwa]; exact new_cell rfl
          have hba : Below wr.heap.size wr wa := by rw [← hwa]; exact below_alloc _ _
          have f0 := grow_cell hba _ _ d0'
          have f1 := grow_cell hba _ _ d1'
          have f2 := grow_cell hba _ _ d2'
          have f3 := grow_cell hba _ _ e2
          have Hba : Hid (Below wr.heap.size wr wa.drew) := hba.trans (Below.refl _ _).drew
          have hcall : Calls Tryd.prog 70 #[.slice y1 sj.length y3, .agg #[.bool pv, .int .i64 pn, .slice pa1 (Fo.len pk) pc], .agg #[.bool tv, .int .i64 tn, .slice ta1 (Fo.len tk) tc]] wa.drew (ExtPost lo (Ex X W2 wr (.slice y1 sj.length y3)) wa.drew sj (.slice y1 sj.length y3) ((pv, pn), pk) ((tv, tn), tk)) :=
            HI.out ((pv, pn), pk) (List.mem_of_getElem? Hp.out) lo _ sj _ xsj (tv, tn) tk _ _ wa.drew (HOj.out.below Hba.out) (by have := Hba.out.size; omega) (HSp.out.grow (fun q hq => (HOj.out.off q hq).1) Hba.out) (HSt.out.grow (fun q hq => (HOj.out.off q hq).1) Hba.out) Hok2.out Hnar2.out Hbd.out
          have Hcall := hide hcall
          clear hcall hwa c0' c1' c2' d0' d1' d2' e2 hba
          go_region_with (first
            | (go_at_call 70; refine Hcall.out.mono ?_; rintro e w2 ⟨hf2, x1, xm, x3, ok, rfl, hno, hyes⟩))
          all_goals
            cases ok
            · have Hf : Hid (ExtPost lo X w s (.slice z1 s.length z3) ((false, yn), k) ((false, yn), l) (.returned (.tuple #[.slice none 0 0, .bool false])) w2) := by
                refine ext_fails ?_ (Hres.out.trans (ext_none (j := j + 1) Hll.out.symm (Hstep.out.trans (hno rfl).1)))
                refine (Fr.of_below HB2.out _ _).trans ((HFj.out).trans ((Fr.of_below Hba.out _ _).trans hf2 (fun q _ h => h)) ?_) (fun q _ h => h)
                intro q hq h
                rcases h with h | h
                · rcases HMj.out with e | e
                  · rw [e] at h; exact .inl h
                  · have := e q h.symm; omega
                · cases h
              clear hno hyes hf2
              go_wp2_with fail
              go_ret2
              exact Hf.out
            · obtain ⟨s2, xs2, h1, rfl, h3, h4⟩ := hyes rfl
              have Hn := hide (own_next HFj.out HMj.out (fun q hq => by have := HO.out.off q hq; exact ⟨by omega, this.2⟩) Hba.out h3 hf2 h4)
              have Hs2 : Hid (extF (Fo.take (j + 1) k) (Fo.take (j + 1) l) s = some s2) := Hstep.out.trans h1
              clear hno hyes hf2 h1 h3 h4
              go_wp2_with fail
              go_roundw
              case rel => exact ⟨j + 1, s2, x1, x3, xs2, by omega, by go_num, rfl, Hs2.out, Hn.out.1, Hn.out.2.1, Hn.out.2.2⟩
              case measure => simp [intOf]; omega
        · have Hf : Hid (ExtPost lo X w s (.slice z1 s.length z3) ((false, yn), k) ((false, yn), l) (.returned (.tuple #[.slice y1 sj.length y3, .bool true])) wr) := by
            refine ext_holds (Hres.out.trans ?_) (own_back HB2.out HOj.out HFj.out HMj.out)
            have e : j = Fo.len k := by omega
            have := Hex.out
            rw [e, take_all, ← Hll.out, take_all] at this
            exact this
          go_wp2_with fail
          go_ret2
          exact Hf.out
    · have Hres : Hid (extT s ((false, n), k) ((yv, yn), l) = none) := extT_no hc
      have Hf : Hid (∀ w', Below w.heap.size w w' → ExtPost lo X w s (.slice z1 s.length z3) ((false, n), k) ((yv, yn), l) (.returned (.tuple #[.slice none 0 0, .bool false])) w') := fun w' hb => ext_fails (Fr.of_below hb _ _) Hres.out
      have Hb : Hid (Below w.heap.size w ((w.alloc (.cells #[.bool false, .int .i64 n, .slice ad (Fo.len k) ac] 37)).alloc (.cells #[.bool yv, .int .i64 yn, .slice ud (Fo.len l) uc] 37))) := (below_alloc _ _).alloc (by simp) _
      cases yv
      · by_cases hn : yn = n
        · have hl : ¬ Fo.len l = Fo.len k := fun e => hc ⟨rfl, hn, e⟩
          have hnb : (yn != n) = false := by simp [hn]
          have hlb : ((Fo.len l : Int) != (Fo.len k : Int)) = true := by simp; omega
          clear hc hn hl
          go_enter Tryd.func70, Tryd.ntmps70
          go_wp2_with fail
          go_ret2
          exact Hf.out _ Hb.out
        · have hnb : (yn != n) = true := by simp [hn]
          clear hc hn
          go_enter Tryd.func70, Tryd.ntmps70
          go_wp2_with fail
          go_ret2
          exact Hf.out _ Hb.out
      · clear hc
        go_enter Tryd.func70, Tryd.ntmps70
        go_wp2_with fail
        go_ret2
        exact Hf.out _ Hb.out
  · clear had hud
    go_enter Tryd.func70, Tryd.ntmps70
    go_wp2_with fail
    generalize hW2 : (w.alloc (.cells #[.bool true, .int .i64 n, .slice ad (Fo.len k) ac] 37)).alloc (.cells #[.bool yv, .int .i64 yn, .slice ud (Fo.len l) uc] 37) = W2
    have hs2 : W2.heap.size = w.heap.size + 1 + 1 := by rw [← hW2]; simp
    have hB2 : Below w.heap.size w W2 := by rw [← hW2]; exact (below_alloc _ _).alloc (by simp) _
    have q1 : W2.cell? ⟨w.heap.size, 1, none⟩ = some (.int .i64 n) := by rw [← hW2, World.cell?_alloc_lt _ _ _ (by simp)]; exact new_cell rfl
    have r0 : W2.cell? ⟨w.heap.size + 1, 0, none⟩ = some (.bool yv) := by rw [← hW2]; exact new_cell (World.size_alloc _ _)
    have r1 : W2.cell? ⟨w.heap.size + 1, 1, none⟩ = some (.int .i64 yn) := by rw [← hW2]; exact new_cell (World.size_alloc _ _)
    have r2 : W2.cell? ⟨w.heap.size + 1, 2, none⟩ = some (.slice ud (Fo.len l) uc) := by rw [← hW2]; exact new_cell (World.size_alloc _ _)
    clear hW2
    refine (findB_any s n _ W2 (HO.out.sub.below hB2)).mono ?_
    rintro e w1 ⟨i, rfl, hf, hb⟩
    have q1' := grow_cell hb _ _ q1
    have r0' := grow_cell hb _ _ r0
    have r1' := grow_cell hb _ _ r1
    have r2' := grow_cell hb _ _ r2
    have hB3 := below_step hB2 hb
    have HB3 : Hid (Below w.heap.size w w1.drew) := hB3.trans (Below.refl _ _).drew
    have hs3 := hb.size
    have HU1 := hide (HU.out.toS.below hB3).drew
    clear hb q1 r0 r1 r2 hB2
    rcases hf with ⟨rfl, hlk⟩ | ⟨j, ⟨⟨tv, tn⟩, tk⟩, rfl, hj, hlk⟩
    · have Hres : Hid (extT s ((true, n), k) ((yv, yn), l) = some (s ++ [(n, ((yv, yn), l))])) := extT_new hlk
      obtain ⟨i52, hi52, hz0, hz1, hz2⟩ := info_parts Tryd.info98
      have hn1 : s.length + 1 ≤ maxLen := by unfold maxLen; omega
      have hn2 : (s.length + 1) * 48 ≤ 140737488355328 := by omega
      clear hlk
      go_upto_region 4 with fail
      have hcall : Calls Tryd.prog 60 #[.agg #[.bool yv, .int .i64 yn, .slice ud (Fo.len l) uc]] w1.drew fun e w' => ∃ (b1 : Option Addr) (b2 b3 : Nat), e = .returned (.agg #[.bool yv, .int .i64 yn, .slice b1 b2 b3]) ∧ OwnV w' w1.heap.size w'.heap.size l (.slice b1 b2 b3) ∧ Below w1.heap.size w1 w' := by
        refine (ownB_any (yv, yn) l _ w1.drew HU1.out Hnar.out.1 Hnar.out.2).mono ?_
        rintro e w' ⟨a', rfl, hO', hb'⟩
        rw [subT_vr Hok.out] at hO' ⊢
        obtain ⟨b1, b2, b3, rfl⟩ := slice_of_sin hO'.toS
        exact ⟨b1, b2, b3, rfl, hO', (Below.refl _ _).drew.trans hb'⟩
      have Hcall := hide hcall
      clear hcall
      go_region_law (first
        | (refine step_append_lies _ (by rfl) _ _ _ (by rfl) lo 98 i52 (.agg #[.int .i64 0, .bool false, .int .i64 0, .slice none 0 0]) 4 48 Tryd.underlying68 hi52 hz0 hz1 hz2 rfl (by decide) (.slice z1 s.length z3) s.length xs (by rfl) Hown3.out ⟨w3.heap.size, 0, none⟩ 1 1 [.int .i64 n, .bool yv, .int .i64 yn, .slice b1 b2 b3] (by rfl) (by rfl) Hnews.out (by simp [Value.oneCell']) (by decide) hn1 hn2 (by simp; omega) (w3.heap.size + 1) (by simp) ?_; intro g cap w4 ho4 hg4 hat4 hlt4)
        | (go_simp; go_at_call 60; refine Hcall.out.mono ?_; rintro e w3 ⟨b1, b2, b3, rfl, hO3, hb3⟩
           have q1'' := grow_cell hb3 _ _ q1'; have hs4 := hb3.size
           have Hown3 : Hid ((w3.alloc (.cells #[.int .i64 n, .bool yv, .int .i64 yn, .slice b1 b2 b3] 98)).ownsRow lo 98 4 (.slice z1 s.length z3) s.length xs) := (owns_keep HO.out.row (fun g hg => by have h := owns_at HO.out.row g hg; rw [Below.heap_alloc _ _ _ (by omega), hb3.block g (by omega), hB3.block g h.2]))
           have Hnews : Hid (∀ j u, [Value.int .i64 n, .bool yv, .int .i64 yn, .slice b1 b2 b3][j]? = some u → (w3.alloc (.cells #[.int .i64 n, .bool yv, .int .i64 yn, .slice b1 b2 b3] 98)).cell? ((⟨w3.heap.size, 0, none⟩ : Addr).add j) = some u) := (World.news_of_block (cs := #[.int .i64 n, .bool yv, .int .i64 yn, .slice b1 b2 b3]) (heap_alloc_new w3 _))))
      all_goals
        have Hst := hide (own_snoc (n := n) (t := ((yv, yn), l)) HO.out (below_step hB3 hb3) (hO3.toB (fun q q1 q2 => ⟨by omega, q2⟩)) ho4 hg4 hat4 hlt4)
        have Hf : Hid (ExtPost lo X w s (.slice z1 s.length z3) ((true, n), k) ((yv, yn), l) (.returned (.tuple #[.slice (some ⟨g, 0, none⟩) (s.length + 1) cap, .bool true])) w4) := by
          have := ext_holds (z1 := some ⟨g, 0, none⟩) (z3 := cap) Hres.out (by simpa using Hst.out)
          exact hide (by simpa using this)
        clear ho4 hg4 hat4 hlt4 hO3 hb3 Hown3 Hnews hi52 hz0 hz1 hz2 Hst
        go_wp2_with fail
        go_ret2
        exact Hf.out
    · have Hres : Hid (extT s ((true, n), k) ((yv, yn), l) = if sameT (tv, tn) tk (yv, yn) l then some s else none) := extT_old hlk
      have hSub := HO.out.sub.below hB3
      obtain ⟨sa, sc, sb, so, hsl, hsa, hslc, hscm, hP⟩ := hSub
      simp only [Value.slice.injEq] at hsl
      obtain ⟨rfl, -, rfl⟩ := hsl
      have hjl : j < s.length := by
        rcases Nat.lt_or_ge j s.length with h | h
        · exact h
        · rw [List.getElem?_eq_none h] at hj; cases hj
      have ha : z1 = some ⟨sb, so, none⟩ := hsa (by omega)
      subst ha
      obtain ⟨c0, c1, c2, yv', c3, hSy⟩ := hP.at hj
      have HSy := hide hSy.drew
      obtain ⟨ya, yc, yb, yo, rfl, -, -, -, -⟩ := hSy
      have hj0 : (0 : Int) ≤ (j : Int) := by omega
      have hj1 : (j : Int) < (s.length : Int) := by omega
      unfold maxLen at hscm
      clear hlk hj hsa hP
      go_upto_region 5 with fail
      go_region_with (first
        | (go_at_call 77; refine (same_any (tv, tn) tk (yv, yn) l _ _ w1.drew HSy.out HU1.out).mono ?_; rintro e w2 ⟨rfl, hb2⟩))
      all_goals
        have Hb2 : Hid (Below w.heap.size w w2) := HB3.out.trans (hb2.mono HB3.out.size)
        clear hb2
        cases hsm : sameT (tv, tn) tk (yv, yn) l
        · have Hf : Hid (ExtPost lo X w s (.slice (some ⟨sb, so, none⟩) s.length z3) ((true, n), k) ((yv, yn), l) (.returned (.tuple #[.slice none 0 0, .bool false])) w2) := by
            refine ext_fails (Fr.of_below Hb2.out _ _) ?_
            rw [Hres.out, hsm]; rfl
          clear hsm
          go_wp2_with fail
          go_ret2
          exact Hf.out
        · have Hf : Hid (ExtPost lo X w s (.slice (some ⟨sb, so, none⟩) s.length z3) ((true, n), k) ((yv, yn), l) (.returned (.tuple #[.slice (some ⟨sb, so, none⟩) s.length z3, .bool true])) w2) := by
            refine ext_holds (s' := s) (xs' := xs) ?_ ⟨?_, Fr.of_below Hb2.out _ _, .inl rfl⟩
            · rw [Hres.out, hsm]; rfl
            · refine (HO.out.below Hb2.out).wide (fun q hq => .inl hq) (fun q hq => ?_)
              rcases hq with hq | hq
              · have := HO.out.off q hq; exact ⟨Nat.lt_of_lt_of_le this.1 Hb2.out.size, this.2⟩
              · exact hq.2
          clear hsm
          go_wp2_with fail
          go_ret2
          exact Hf.out
end Go.Proofs.YtlgnpiphaeoeiadDoor

namespace Go.Proofs.YtlgnpiphaeoeiadDoor
open Go.RowKit Go.Deep Go.ChangeShapes Go.WideShapes
attribute [local go_sem ↓] Go.wp_at_zero Go.wp_at_succ
def set4 (w : World) (b o : Nat) (x y z u : Value) : World := (((w.setCell ⟨b, o, none⟩ x).setCell ⟨b, o + 1, none⟩ y).setCell ⟨b, o + 2, none⟩ z).setCell ⟨b, o + 3, none⟩ u
def lset4 (xs : List Value) (o : Nat) (x y z u : Value) : List Value := (((xs.set o x).set (o + 1) y).set (o + 2) z).set (o + 3) u
theorem set4_heap {w : World} {b o : Nat} {x y z u : Value} {q : Nat} (h : q ≠ b) : (set4 w b o x y z u).heap[q]? = w.heap[q]? := by
  unfold set4
  rw [Below.heap_setCell _ _ _ _ h, Below.heap_setCell _ _ _ _ h, Below.heap_setCell _ _ _ _ h, Below.heap_setCell _ _ _ _ h]
theorem set4_size {w : World} {b o : Nat} {x y z u : Value} : (set4 w b o x y z u).heap.size = w.heap.size := by simp [set4, World.setCell]
theorem set4_below {B : Nat} {w w1 : World} {b o : Nat} {x y z u : Value} (h : Below B w w1) (hb : B ≤ b) : Below B w (set4 w1 b o x y z u) := (((h.setCell hb _).setCell hb _).setCell hb _).setCell hb _
theorem set4_row {w : World} {lo : Nat} {e : TypeId} {size g n cap o : Nat} {xs : List Value} {x y z u : Value} (h : w.ownsRow lo e size (.slice (some ⟨g, 0, none⟩) n cap) n xs) :
    (set4 w g o x y z u).ownsRow lo e size (.slice (some ⟨g, 0, none⟩) n cap) n (lset4 xs o x y z u) := ((((h.stored o x).1).stored (o + 1) y).1.stored (o + 2) z).1.stored (o + 3) u |>.1
theorem lset4_take {x y z u : Value} : ∀ {j : Nat} {xs : List Value}, (j + 1) * 4 ≤ xs.length → (lset4 xs (j * 4) x y z u).take ((j + 1) * 4) = xs.take (j * 4) ++ [x, y, z, u]
  | 0, xs, h => by
    match xs, h with
    | [], h => simp at h
    | [_], h => simp at h
    | [_, _], h => simp at h
    | [_, _, _], h => simp at h
    | a :: b :: c :: d :: ys, _ => simp [lset4]
  | j + 1, xs, h => by
    match xs, h with
    | [], h => simp at h
    | [_], h => simp only [List.length_cons, List.length_nil] at h; omega
    | [_, _], h => simp only [List.length_cons, List.length_nil] at h; omega
    | [_, _, _], h => simp only [List.length_cons, List.length_nil] at h; omega
    | a :: b :: c :: d :: ys, h =>
      have ih := lset4_take (x := x) (y := y) (z := z) (u := u) (j := j) (xs := ys) (by simp only [List.length_cons] at h; omega)
      have e1 : (j + 1) * 4 = j * 4 + 4 := by omega
      have e2 : (j + 1 + 1) * 4 = (j + 1) * 4 + 4 := by omega
      have e3 : lset4 (a :: b :: c :: d :: ys) ((j + 1) * 4) x y z u = a :: b :: c :: d :: lset4 ys (j * 4) x y z u := by
        rw [e1]
        simp [lset4]
      rw [e3, e2]
      simp only [List.take_succ_cons]
      rw [ih, e1]
      simp
def CopyRel (lo g : Nat) (W2 : World) (s : Sb) (j : Nat) (wr : World) : Prop :=
  Below g W2 wr ∧ g < wr.heap.size ∧ ∃ xs, wr.ownsRow lo 98 4 (.slice (some ⟨g, 0, none⟩) s.length s.length) s.length xs ∧ PC (fun q => q < wr.heap.size ∧ q ≠ g) wr (s.take j) (xs.take (j * 4))
theorem copy_step {lo g : Nat} {W2 wr w2 : World} {s : Sb} {j : Nat} {n : Int} {t : Tm} {a : Value} (h : CopyRel lo g W2 s j wr) (hj : s[j]? = some (n, t)) (hb : Below wr.heap.size wr w2) (hO : SB (fun q => wr.heap.size ≤ q ∧ q < w2.heap.size) w2 t.2 a) :
    CopyRel lo g W2 s (j + 1) (set4 w2 g (j * 4) (.int .i64 n) (.bool t.1.1) (.int .i64 t.1.2) a) := by
  obtain ⟨hB, hg, xs, hr, hP⟩ := h
  have hs := hb.size
  have hW := hB.size
  have hjl : j < s.length := by
    rcases Nat.lt_or_ge j s.length with h | h
    · exact h
    · rw [List.getElem?_eq_none h] at hj; cases hj
  refine ⟨set4_below (hB.trans ((hb.mono (Nat.le_of_lt hg)))) (Nat.le_refl _), by rw [set4_size]; omega, _, set4_row (owns_keep hr (fun q hq => hb.block q (owns_at hr q hq).2)), ?_⟩
  rw [lset4_take (by rw [hr.1]; omega), List.take_add_one, hj]
  refine PC.append (PC.one (t := t) ?_) ?_
  · refine hO.frame (fun q hq => ⟨by rw [set4_size]; exact hq.2, by omega⟩) (fun q i hq => World.cell?_of_block (set4_heap (by show q ≠ g; omega)))
  · refine hP.frame (fun q hq => ⟨by rw [set4_size]; omega, hq.2⟩) (fun q i hq => World.cell?_of_block ?_)
    rw [set4_heap hq.2, hb.block q hq.1]
def MorePost (w : World) (s : Sb) (t u : Tm) (e : Ending) (w' : World) : Prop :=
  Below w.heap.size w w' ∧ ∃ (z1 : Option Addr) (m z3 : Nat) (ok : Bool), e = .returned (.tuple #[.slice z1 m z3, .bool ok]) ∧ (ok = false → extT s t u = none ∧ z1 = none ∧ m = 0 ∧ z3 = 0) ∧
    (ok = true → ∃ s', extT s t u = some s' ∧ m = s'.length ∧ SubIn w' s' (.slice z1 m z3))
set_option maxRecDepth 100000 in
set_option maxHeartbeats 2000000 in
theorem more_any (s : Sb) (vs : Value) (x : Bool × Int) (k : Fo) (a : Value) (y : Bool × Int) (l : Fo) (c : Value) (w : World) (hV : SubIn w s vs) (hs : ∀ p ∈ s, narT p.2 ∧ okT p.2) (hS : SIn w k a) (hU : SIn w l c) (hok : okT (y, l)) (hnar : narT (y, l)) (hlen : (s.length + tszR k) * 48 ≤ 140737488355328) :
    Calls Tryd.prog 53 #[vs, .agg #[.bool x.1, .int .i64 x.2, a], .agg #[.bool y.1, .int .i64 y.2, c]] w (MorePost w s (x, k) (y, l)) := by
  obtain ⟨xv, xn⟩ := x
  obtain ⟨yv, yn⟩ := y
  have HS := hide hS
  have HU := hide hU
  have Hs := hide hs
  have Hok := hide hok
  have Hnar := hide hnar
  obtain ⟨ad, ac, b, o, rfl, -, -, -, -⟩ := hS
  obtain ⟨ud, uc, ub, uo, rfl, -, -, -, -⟩ := hU
  obtain ⟨vd, vc, vb, vo, rfl, hvd, hvlc, hvcm, hP⟩ := hV
  unfold maxLen at hvcm
  have HP := hide hP
  clear hs hok hnar hP
  obtain ⟨i52, hi, hz0, hz1, hz2⟩ := info_parts Tryd.info98
  have hmk := fun w : World => run_make (P := Tryd.prog) w 68 98 i52 _ Tryd.underlying68 hi hz0 .i64 .i64 (s.length : Int) (s.length : Int) (by omega) (by omega) (by rw [hz2]; omega) (by omega)
  rw [hz1] at hmk
  simp only [Int.toNat_natCast] at hmk
  go_enter Tryd.func53, Tryd.ntmps53
  go_wp2_with fail
  clear hmk hi hz0 hz1 hz2
  generalize hW2 : (w.alloc (.cells #[.bool xv, .int .i64 xn, .slice ad (Fo.len k) ac] 37)).alloc (.cells #[.bool yv, .int .i64 yn, .slice ud (Fo.len l) uc] 37) = W2
  have hs2 : W2.heap.size = w.heap.size + 1 + 1 := by rw [← hW2]; simp
  have hB2 : Below w.heap.size w W2 := by rw [← hW2]; exact (below_alloc _ _).alloc (by simp) _
  have p0 : W2.cell? ⟨w.heap.size, 0, none⟩ = some (.bool xv) := by rw [← hW2, World.cell?_alloc_lt _ _ _ (by simp)]; exact new_cell rfl
  have p1 : W2.cell? ⟨w.heap.size, 1, none⟩ = some (.int .i64 xn) := by rw [← hW2, World.cell?_alloc_lt _ _ _ (by simp)]; exact new_cell rfl
  have p2 : W2.cell? ⟨w.heap.size, 2, none⟩ = some (.slice ad (Fo.len k) ac) := by rw [← hW2, World.cell?_alloc_lt _ _ _ (by simp)]; exact new_cell rfl
  have r0 : W2.cell? ⟨w.heap.size + 1, 0, none⟩ = some (.bool yv) := by rw [← hW2]; exact new_cell (World.size_alloc _ _)
  have r1 : W2.cell? ⟨w.heap.size + 1, 1, none⟩ = some (.int .i64 yn) := by rw [← hW2]; exact new_cell (World.size_alloc _ _)
  have r2 : W2.cell? ⟨w.heap.size + 1, 2, none⟩ = some (.slice ud (Fo.len l) uc) := by rw [← hW2]; exact new_cell (World.size_alloc _ _)
  have HQ := hide (And.intro p0 (And.intro p1 (And.intro p2 (And.intro r0 (And.intro r1 r2)))))
  have HB2 := hide hB2
  have Hs2 := hide hs2
  have H0 : Hid (CopyRel w.heap.size (w.heap.size + 1 + 1) W2 s 0 (W2.alloc (.cells (madeCells #[.int .i64 0, .bool false, .int .i64 0, .slice none 0 0] (s.length * 4)) 98))) := by
    refine ⟨(Below.refl _ _).alloc (by omega) _, by simp; omega, (madeCells #[.int .i64 0, .bool false, .int .i64 0, .slice none 0 0] (s.length * 4)).toList, ?_, by simp [PC]⟩
    have := World.ownsRow_lit (base := w.heap.size) (e := 98) (size := 4) W2 (madeCells #[.int .i64 0, .bool false, .int .i64 0, .slice none 0 0] (s.length * 4)) s.length (by omega) (by unfold maxLen; omega) (by rw [size_madeCells])
    rw [hs2] at this
    exact this
  clear p0 p1 p2 r0 r1 r2 hB2 hs2 hW2
  go_loopw [16] (fun i wr => ∃ j : Nat, j ≤ s.length ∧ i = .int .i64 j ∧ CopyRel w.heap.size (w.heap.size + 1 + 1) W2 s j wr) (fun i _ => s.length - (intOf i).toNat)
  case atStart => exact ⟨0, Nat.zero_le _, rfl, H0.out⟩
  case round =>
    obtain ⟨j, hj, rfl, hR⟩ := hrel
    have HR := hide hR
    obtain ⟨hB, hg, xs, hrow, hPC⟩ := hR
    have hs2 := Hs2.out
    have hBw : Below w.heap.size w wr := HB2.out.trans (hB.mono (by omega))
    clear H0
    by_cases hlt : j < s.length
    · have hlt' : (j : Int) < (s.length : Int) := by omega
      obtain ⟨⟨m, ⟨tv, tn⟩, tk⟩, hy⟩ : ∃ y, s[j]? = some y := ⟨s[j], by simp [hlt]⟩
      obtain ⟨c0, c1, c2, tv', c3, hSy⟩ := (HP.out.below hBw).at hy
      have HSy := hide hSy
      obtain ⟨ya, yc, yb, yo, rfl, -, -, -, -⟩ := hSy
      have ha : vd = some ⟨vb, vo, none⟩ := hvd (by omega)
      subst ha
      have Hy := hide hy
      have Hn := hide (Hs.out _ (List.mem_of_getElem? hy))
      have hxl := hrow.1
      have e0 : ∃ u, wr.cell? ⟨w.heap.size + 1 + 1, j * 4, none⟩ = some u := ⟨xs[j * 4]'(by omega), by rw [hrow.cellAt (j * 4) (by omega), List.getElem?_eq_getElem]⟩
      have e1 : ∃ u, wr.cell? ⟨w.heap.size + 1 + 1, j * 4 + 1, none⟩ = some u := ⟨xs[j * 4 + 1]'(by omega), by rw [hrow.cellAt (j * 4 + 1) (by omega), List.getElem?_eq_getElem]⟩
      have e2 : ∃ u, wr.cell? ⟨w.heap.size + 1 + 1, j * 4 + 2, none⟩ = some u := ⟨xs[j * 4 + 2]'(by omega), by rw [hrow.cellAt (j * 4 + 2) (by omega), List.getElem?_eq_getElem]⟩
      have e3 : ∃ u, wr.cell? ⟨w.heap.size + 1 + 1, j * 4 + 3, none⟩ = some u := ⟨xs[j * 4 + 3]'(by omega), by rw [hrow.cellAt (j * 4 + 3) (by omega), List.getElem?_eq_getElem]⟩
      obtain ⟨u0, e0⟩ := e0
      obtain ⟨u1, e1⟩ := e1
      obtain ⟨u2, e2⟩ := e2
      obtain ⟨u3, e3⟩ := e3
      have ff : ∀ i, wr.frozen? ⟨w.heap.size + 1 + 1, i, none⟩ = false := fun i => hrow.frozenAt i
      clear hy hvd hB hrow hPC hxl
      go_upto_region 5 with fail
      generalize hwa : wr.alloc (.cells #[.int .i64 m, .bool tv, .int .i64 tn, .slice ya (Fo.len tk) yc] 98) = wa
      have a0 : wa.cell? ⟨wr.heap.size, 0, none⟩ = some (.int .i64 m) := by rw [← hwa]; exact new_cell rfl
      have a1 : wa.cell? ⟨wr.heap.size, 1, none⟩ = some (.bool tv) := by rw [← hwa]; exact new_cell rfl
      have a2 : wa.cell? ⟨wr.heap.size, 2, none⟩ = some (.int .i64 tn) := by rw [← hwa]; exact new_cell rfl
      have a3 : wa.cell? ⟨wr.heap.size, 3, none⟩ = some (.slice ya (Fo.len tk) yc) := by rw [← hwa]; exact new_cell rfl
      have hba : Below wr.heap.size wr wa := by rw [← hwa]; exact below_alloc _ _
      have hsa := hba.size
      have e0' := grow_cell hba _ _ e0
      have e1' := grow_cell hba _ _ e1
      have e2' := grow_cell hba _ _ e2
      have e3' := grow_cell hba _ _ e3
      have ff' : ∀ i, wa.frozen? ⟨w.heap.size + 1 + 1, i, none⟩ = false := fun i => (hba.frozen hg).trans (ff i)
      have hlt4 : w.heap.size + 1 + 1 < wa.heap.size := by omega
      have hcall : Calls Tryd.prog 60 #[.agg #[.bool tv, .int .i64 tn, .slice ya (Fo.len tk) yc]] wa.drew fun e w' => ∃ (b1 : Option Addr) (b2 b3 : Nat), e = .returned (.agg #[.bool tv, .int .i64 tn, .slice b1 b2 b3]) ∧ OwnV w' wa.heap.size w'.heap.size tk (.slice b1 b2 b3) ∧ Below wa.heap.size wa w' := by
        refine (ownB_any (tv, tn) tk _ wa.drew (HSy.out.below hba).drew Hn.out.1.1 Hn.out.1.2).mono ?_
        rintro e w' ⟨a', rfl, hO', hb'⟩
        rw [subT_vr Hn.out.2] at hO' ⊢
        obtain ⟨b1, b2, b3, rfl⟩ := slice_of_sin hO'.toS
        exact ⟨b1, b2, b3, rfl, hO', (Below.refl _ _).drew.trans hb'⟩
      have Hcall := hide hcall
      have Hba := hide hba
      clear hcall hwa c0 c1 c2 c3 e0 e1 e2 e3 ff hba
      go_region_with (first
        | (go_at_call 60; refine Hcall.out.mono ?_; rintro e w2 ⟨b1, b2, b3, rfl, hO2, hb2⟩; have a0' := grow_cell hb2 _ _ a0; have e0'' := grow_cell hb2 _ _ e0'; have e1'' := grow_cell hb2 _ _ e1'; have e2'' := grow_cell hb2 _ _ e2'; have e3'' := grow_cell hb2 _ _ e3'; have ff'' : ∀ i, w2.frozen? ⟨w.heap.size + 1 + 1, i, none⟩ = false := (fun i => (hb2.frozen hlt4).trans (ff' i))))
      all_goals
        have Hstep : Hid (CopyRel w.heap.size (w.heap.size + 1 + 1) W2 s (j + 1) (set4 w2 (w.heap.size + 1 + 1) (j * 4) (.int .i64 m) (.bool tv) (.int .i64 tn) (.slice b1 b2 b3))) := copy_step (n := m) (t := ((tv, tn), tk)) (a := .slice b1 b2 b3) HR.out Hy.out (below_step Hba.out hb2) (hO2.toB (fun q q1 q2 => ⟨by omega, q2⟩))
        clear hO2 hb2 a0' e0' e1' e2' e3' ff'
        go_wp2_with fail
        go_roundw
        case rel => exact ⟨j + 1, by omega, by go_num, Hstep.out⟩
        case measure => simp [intOf]; omega
    · have hje : j = s.length := by omega
      subst hje
      obtain ⟨q0, q1, q2, q3, q4, q5⟩ := HQ.out
      have p0 : wr.cell? ⟨w.heap.size, 0, none⟩ = some (.bool xv) := (hB.cell (by show w.heap.size < _; omega)).trans q0
      have p1 : wr.cell? ⟨w.heap.size, 1, none⟩ = some (.int .i64 xn) := (hB.cell (by show w.heap.size < _; omega)).trans q1
      have p2 : wr.cell? ⟨w.heap.size, 2, none⟩ = some (.slice ad (Fo.len k) ac) := (hB.cell (by show w.heap.size < _; omega)).trans q2
      have r0 : wr.cell? ⟨w.heap.size + 1, 0, none⟩ = some (.bool yv) := (hB.cell (by show w.heap.size + 1 < _; omega)).trans q3
      have r1 : wr.cell? ⟨w.heap.size + 1, 1, none⟩ = some (.int .i64 yn) := (hB.cell (by show w.heap.size + 1 < _; omega)).trans q4
      have r2 : wr.cell? ⟨w.heap.size + 1, 2, none⟩ = some (.slice ud (Fo.len l) uc) := (hB.cell (by show w.heap.size + 1 < _; omega)).trans q5
      have HOw : Hid (OwnS w.heap.size (fun q => q < wr.heap.size ∧ q ≠ w.heap.size + 1 + 1) wr s (.slice (some ⟨w.heap.size + 1 + 1, 0, none⟩) s.length s.length) xs) := by
        refine ⟨hrow, ?_, fun q hq => ⟨hq.1, fun e => ?_⟩⟩
        · rw [List.take_length, ← hrow.1, List.take_length] at hPC
          exact hPC
        · simp [Value.ownBlock] at e
          exact hq.2 e
      have HSB : Hid (SB (fun q => q < wr.heap.size ∧ q ≠ w.heap.size + 1 + 1) wr k (.slice ad (Fo.len k) ac)) := (HS.out.toB.grow (fun _ h => h) hBw).wide (fun q hq => ⟨by have := hBw.size; omega, by omega⟩)
      have HUB : Hid (SB (fun q => q < wr.heap.size ∧ q ≠ w.heap.size + 1 + 1) wr l (.slice ud (Fo.len l) uc)) := (HU.out.toB.grow (fun _ h => h) hBw).wide (fun q hq => ⟨by have := hBw.size; omega, by omega⟩)
      clear q0 q1 q2 q3 q4 q5 hrow hPC hB
      go_wp2_with fail
      refine (extend_any (xv, xn) k w.heap.size _ s _ xs (yv, yn) l _ _ wr HOw.out hBw.size HSB.out HUB.out Hok.out Hnar.out hlen).mono ?_
      rintro e w2 ⟨hf2, x1, xm, x3, ok, rfl, hno, hyes⟩
      have Hf : Hid (MorePost w s ((xv, xn), k) ((yv, yn), l) (.returned (.tuple #[.slice x1 xm x3, .bool ok])) w2) := by
        refine ⟨?_, x1, xm, x3, ok, rfl, hno, fun e => ?_⟩
        · refine hBw.trans (hf2.below hBw.size (fun g hg => ?_) (fun g hg => by cases hg))
          simp [Value.ownBlock] at hg
          omega
        · obtain ⟨s', xs', h1, h2, h3, _⟩ := hyes e
          subst h2
          exact ⟨s', h1, rfl, h3.sub⟩
      clear hf2 hno hyes
      go_wp2_with fail
      go_ret2
      exact Hf.out
set_option maxRecDepth 100000 in
set_option maxHeartbeats 400000 in
theorem match_any (x : Bool × Int) (k : Fo) (a : Value) (y : Bool × Int) (l : Fo) (c : Value) (w : World) (hS : SIn w k a) (hU : SIn w l c) (hok : okT (y, l)) (hnar : narT (y, l)) (hlen : tszR k * 48 ≤ 140737488355328) :
    Calls Tryd.prog 64 #[.agg #[.bool x.1, .int .i64 x.2, a], .agg #[.bool y.1, .int .i64 y.2, c]] w (MorePost w [] (x, k) (y, l)) := by
  obtain ⟨xv, xn⟩ := x
  obtain ⟨yv, yn⟩ := y
  have HS := hide hS
  have HU := hide hU
  have Hok := hide hok
  have Hnar := hide hnar
  obtain ⟨ad, ac, b, o, rfl, -, -, -, -⟩ := hS
  obtain ⟨ud, uc, ub, uo, rfl, -, -, -, -⟩ := hU
  clear hok hnar
  go_enter Tryd.func64, Tryd.ntmps64
  go_wp2_with fail
  generalize hW2 : (w.alloc (.cells #[.bool xv, .int .i64 xn, .slice ad (Fo.len k) ac] 37)).alloc (.cells #[.bool yv, .int .i64 yn, .slice ud (Fo.len l) uc] 37) = W2
  have hB2 : Below w.heap.size w W2 := by rw [← hW2]; exact (below_alloc _ _).alloc (by simp) _
  refine (more_any [] (.slice none 0 0) (xv, xn) k _ (yv, yn) l _ W2 (SubIn.nil _) (fun p hp => by simp at hp) (HS.out.below hB2) (HU.out.below hB2) Hok.out Hnar.out (by simpa using hlen)).mono ?_
  rintro e w2 ⟨hb2, x1, xm, x3, ok, rfl, hno, hyes⟩
  have Hf : Hid (MorePost w [] ((xv, xn), k) ((yv, yn), l) (.returned (.tuple #[.slice x1 xm x3, .bool ok])) w2) := ⟨below_step hB2 hb2, x1, xm, x3, ok, rfl, hno, hyes⟩
  clear hno hyes hb2
  go_wp2_with fail
  go_ret2
  exact Hf.out
end Go.Proofs.YtlgnpiphaeoeiadDoor

namespace Go.Proofs.YtlgnpiphaeoeiadDoor
open Go.RowKit Go.Deep Go.ChangeShapes Go.WideShapes
attribute [local go_sem ↓] Go.wp_at_zero Go.wp_at_succ
theorem fin_norm {w : World} : ∀ {F : Fo} {b o : Nat}, FIn w F b o → FIn w (Fo.norm F) b o
  | .nil, _, _, _ => trivial
  | .node _ _ _ k r, _, _, ⟨h0, h1, ⟨a, c, b', o', h2, h3, h4, h5, h6⟩, h7⟩ => by
    refine ⟨h0, h1, ⟨a, c, b', o', ?_, ?_, ?_, h5, fin_norm h6⟩, fin_norm h7⟩
    · rw [norm_len]; exact h2
    · rw [norm_len]; exact h3
    · rw [norm_len]; exact h4
theorem sin_norm {w : World} {k : Fo} {a : Value} (h : SIn w k a) : SIn w (Fo.norm k) a := by
  obtain ⟨a, c, b, o, rfl, h3, h4, h5, h6⟩ := h
  exact ⟨a, c, b, o, by rw [norm_len], by rw [norm_len]; exact h3, by rw [norm_len]; exact h4, h5, fin_norm h6⟩
theorem norm_sizes : ∀ F : Fo, Fo.sizesR (Fo.norm F) = Fo.sizesR F
  | .nil => rfl
  | .node _ _ _ k r => by simp [Fo.norm, Fo.sizesR, norm_sizes k, norm_sizes r]
theorem good_of_walk {s : List Int} (hs : s.all okNum = true) : ∀ {F : Fo} {n : Nat}, n ≤ 13 → walkF s F (13 - (n : Int)) = 0 → Fo.ok (Fo.norm F) ∧ twoF (Fo.norm F) ∧ (∀ m, occF m (Fo.norm F) → 0 ≤ m ∧ m ≤ 4) ∧ depF (Fo.norm F) ≤ n
  | .nil, _, _, _ => ⟨trivial, trivial, fun m hm => by simp [Fo.norm, occF] at hm, Nat.zero_le _⟩
  | .node _ _ ⟨v, z⟩ k r, n, hn, h => by
    obtain ⟨hT, hr⟩ := walkF_ok h
    obtain ⟨hd, ha, hk⟩ := walkT_ok hT
    have h2 := alone_len hs ha
    obtain ⟨m, rfl⟩ : ∃ m, n = m + 1 := ⟨n - 1, by omega⟩
    have e : (13 : Int) - ((m + 1 : Nat) : Int) + 1 = 13 - (m : Int) := by omega
    rw [e] at hk
    obtain ⟨i1, i2, i3, i4⟩ := good_of_walk hs (n := m) (by omega) hk
    obtain ⟨j1, j2, j3, j4⟩ := good_of_walk hs (n := m + 1) hn hr
    simp only [Fo.norm]
    refine ⟨?_, ⟨by rw [norm_len]; exact h2, i2, j2⟩, fun q hq => ?_, ?_⟩
    · rw [ok_node]
      refine ⟨rfl, rfl, ⟨fun hv => ?_, i1⟩, j1⟩
      have hv' : v = true := hv
      subst hv'
      obtain ⟨rfl, _, _⟩ := alone_var ha
      rfl
    · rcases hq with hq | hq
      · cases v
        · exact i3 q (by simpa using hq)
        · obtain ⟨_, h0, h4⟩ := alone_var ha
          have : z = q := by simpa using hq
          omega
      · exact j3 q hq
    · simp only [depF]; omega
theorem gd_of_right {s : List Int} (hs : s.all okNum = true) {x : Bool × Int} {k : Fo} (h : wrongF s x k = 0) : Gd (x, Fo.norm k) ∧ depT (x, Fo.norm k) ≤ 12 ∧ tszR (Fo.norm k) ≤ 12 := by
  obtain ⟨h1, _, _, _, hw⟩ := right_of hs h
  have hF : walkF s (.node 0 0 x k .nil) (13 - ((12 : Nat) : Int)) = 0 := by
    have : walkT s x k 1 = 0 := hw
    simp only [walkF]
    have h3 : ∀ z : Int, z = 0 → (if z ≠ 0 then z else 0) = 0 := fun z hz => by simp [hz]
    exact h3 _ this
  obtain ⟨i1, i2, i3, i4⟩ := good_of_walk hs (n := 12) (by omega) hF
  simp only [Fo.norm] at i1 i2 i3 i4
  rw [ok_node] at i1
  rw [two_node] at i2
  refine ⟨⟨i1.2.2.1, i2.1, fun m hm => by have := i3 m (.inl hm); omega⟩, ?_, by unfold tszR at *; rw [norm_sizes]; exact h1⟩
  simp only [depF, depT] at *
  omega
theorem four_of_right {s : List Int} (hs : s.all okNum = true) {x : Bool × Int} {k : Fo} (h : wrongF s x k = 0) (m : Int) (hm : occT m (x, Fo.norm k)) : 0 ≤ m ∧ m ≤ 4 := by
  obtain ⟨h1, _, _, _, hw⟩ := right_of hs h
  have hF : walkF s (.node 0 0 x k .nil) (13 - ((12 : Nat) : Int)) = 0 := by
    have : walkT s x k 1 = 0 := hw
    simp only [walkF]
    have h3 : ∀ z : Int, z = 0 → (if z ≠ 0 then z else 0) = 0 := fun z hz => by simp [hz]
    exact h3 _ this
  obtain ⟨_, _, i3, _⟩ := good_of_walk hs (n := 12) (by omega) hF
  simp only [Fo.norm] at i3
  exact i3 m (.inl hm)
end Go.Proofs.YtlgnpiphaeoeiadDoor

namespace Go.Proofs.YtlgnpiphaeoeiadDoor
open Go.RowKit Go.Deep Go.ChangeShapes Go.WideShapes
def valF (z : Int) (tb : List (List Int)) (e : Int → Int) : Fo → Int → Int
  | .nil, a => a
  | .node _ _ x k r, a => valF z tb e r (z * a + (if x.1 then e x.2 else (tb.getD x.2.toNat []).getD (valF z tb e k 0).toNat 0))
def valT (z : Int) (tb : List (List Int)) (e : Int → Int) (t : Tm) : Int := if t.1.1 then e t.1.2 else (tb.getD t.1.2.toNat []).getD (valF z tb e t.2 0).toNat 0
theorem valF_node (z : Int) (tb : List (List Int)) (e : Int → Int) (p q : Nat) (x : Bool × Int) (k r : Fo) (a : Int) : valF z tb e (.node p q x k r) a = valF z tb e r (z * a + valT z tb e (x, k)) := rfl
def litH (z : Int) (tb : List (List Int)) (e : Int → Int) (l : Lt) : Bool := l.1 != (valT z tb e l.2.1 == valT z tb e l.2.2)
def someH (z : Int) (tb : List (List Int)) (e : Int → Int) (c : Cl) : Bool := c.any (litH z tb e)
def holdsP (z : Int) (tb : List (List Int)) (c : Cl) : Prop := ∀ e : Int → Int, (∀ v, 0 ≤ e v ∧ e v < z) → someH z tb e c = true
theorem valF_congr {z : Int} {tb : List (List Int)} {e e' : Int → Int} : ∀ {F : Fo}, (∀ n, occF n F → e n = e' n) → ∀ a, valF z tb e F a = valF z tb e' F a
  | .nil, _, _ => rfl
  | .node p q x k r, h, a => by
    have hk : (∀ n, occT n (x, k) → e n = e' n) := fun n hn => h n (by rw [occ_mem]; exact ⟨(x, k), by simp [Fo.list], hn⟩)
    have hr : (∀ n, occF n r → e n = e' n) := fun n hn => h n (by
      rw [occ_mem] at hn ⊢
      obtain ⟨t, ht, h2⟩ := hn
      exact ⟨t, by simp [Fo.list, ht], h2⟩)
    rw [valF, valF, valF_congr hr]
    congr 2
    cases hx : x.1 with
    | true => simp; exact hk x.2 (by simp [occT, hx])
    | false =>
      simp only [Bool.false_eq_true, if_false]
      rw [valF_congr (F := k) (fun n hn => hk n (by simp [occT, hx, hn]))]
theorem valT_congr {z : Int} {tb : List (List Int)} {e e' : Int → Int} {t : Tm} (h : ∀ n, occT n t → e n = e' n) : valT z tb e t = valT z tb e' t := by
  obtain ⟨⟨v, m⟩, k⟩ := t
  cases v with
  | true => simp only [valT, if_true]; exact h m (by simp [occT])
  | false => simp only [valT, Bool.false_eq_true, if_false]; rw [valF_congr (F := k) (fun n hn => h n (by simp [occT, hn]))]
theorem valF_sub {z : Int} {tb : List (List Int)} {e : Int → Int} {f : Int → Tm} : ∀ (F : Fo) (a : Int), valF z tb e (subF f F) a = valF z tb (fun n => valT z tb e (f n)) F a
  | .nil, _ => rfl
  | .node p q x k r, a => by
    rw [subF_node, valF_node, valF_node, valF_sub r]
    congr 2
    obtain ⟨v, m⟩ := x
    cases v with
    | true => rw [subT_var]; simp [valT]
    | false => rw [subT_sym]; unfold valT; rw [if_neg (by simp), if_neg (by simp)]; dsimp only; rw [valF_sub k]; rfl
theorem valT_sub {z : Int} {tb : List (List Int)} {e : Int → Int} {f : Int → Tm} (t : Tm) : valT z tb e (subT f t) = valT z tb (fun n => valT z tb e (f n)) t := by
  obtain ⟨⟨v, m⟩, k⟩ := t
  cases v with
  | true => rw [subT_var]; simp [valT]
  | false => rw [subT_sym]; unfold valT; rw [if_neg (by simp), if_neg (by simp)]; dsimp only; rw [valF_sub k]; rfl
theorem beq_swap (a b : Int) : (a == b) = (b == a) := by
  rw [Bool.eq_iff_iff]
  simp only [beq_iff_eq]
  exact ⟨Eq.symm, Eq.symm⟩
theorem litH_flip {z : Int} {tb : List (List Int)} {e : Int → Int} (l : Lt) : litH z tb e (flipL l) = litH z tb e l := by
  unfold flipL
  split
  · simp only [litH]; rw [beq_swap]
  · rfl
theorem litH_like {z : Int} {tb : List (List Int)} {e : Int → Int} {a b : Lt} (ha : okL a) (hb : okL b) (h : likeL a b = true) (hs : a.1 = b.1) : litH z tb e a = litH z tb e b := by
  rw [like_iff ha hb] at h
  simp only [litH, hs]
  rcases h with ⟨h1, h2⟩ | ⟨h1, h2⟩
  · rw [h1, h2]
  · rw [h1, h2, beq_swap]
theorem litH_other {z : Int} {tb : List (List Int)} {e : Int → Int} {a b : Lt} (ha : okL a) (hb : okL b) (h : likeL a b = true) (hs : b.1 ≠ a.1) : litH z tb e a = true ∨ litH z tb e b = true := by
  have hl := litH_like (z := z) (tb := tb) (e := e) (a := a) (b := (a.1, b.2)) ha hb (by rw [← h]; rfl) rfl
  rw [hl]
  have : b.1 = !a.1 := by cases h1 : b.1 <;> cases h2 : a.1 <;> simp_all
  simp only [litH, this]
  cases a.1 <;> cases (valT z tb e b.2.1 == valT z tb e b.2.2) <;> simp
theorem some_step {z : Int} {tb : List (List Int)} {e : Int → Int} {o : Option Cl} {l : Lt} (hl : okL l) : ∀ out, o = some out → (∀ d, tstep o l = some d → someH z tb e d = (someH z tb e out || litH z tb e l)) ∧ (tstep o l = none → litH z tb e l = true) := by
  intro out ho
  subst ho
  simp only [tstep, Option.bind_some]
  by_cases hs : sameT l.2.1.1 l.2.1.2 l.2.2.1 l.2.2.2 = true
  · rw [if_pos hs]
    have he : l.2.1 = l.2.2 := (sameT_iff hl.1 hl.2).1 hs
    cases hn : l.1 with
    | true =>
      refine ⟨fun d hd => ?_, fun h => by simp at h⟩
      simp at hd
      subst hd
      simp [litH, hn, he]
    | false => exact ⟨fun d hd => by simp at hd, fun _ => by simp [litH, hn, he]⟩
  · rw [if_neg hs]
    refine ⟨fun d hd => ?_, fun h => by cases h⟩
    cases hd
    simp [someH, litH_flip]
theorem some_turn {z : Int} {tb : List (List Int)} {e : Int → Int} : ∀ {c : Cl} {o : Option Cl} {out : Cl}, (∀ l ∈ c, okL l) → o = some out → (∀ d, c.foldl tstep o = some d → someH z tb e d = (someH z tb e out || someH z tb e c)) ∧ (c.foldl tstep o = none → someH z tb e c = true)
  | [], o, out, _, ho => ⟨fun d hd => by subst ho; cases hd; simp [someH], fun h => by subst ho; cases h⟩
  | l :: c, o, out, hc, ho => by
    have h1 := some_step (z := z) (tb := tb) (e := e) (o := o) (l := l) (hc l (by simp)) out ho
    cases ht : tstep o l with
    | none =>
      have := h1.2 ht
      refine ⟨fun d hd => ?_, fun _ => by simp [someH, this]⟩
      rw [List.foldl_cons, ht, fold_none (fun _ => rfl)] at hd
      cases hd
    | some out2 =>
      have h2 := some_turn (z := z) (tb := tb) (e := e) (c := c) (o := some out2) (out := out2) (fun x hx => hc x (by simp [hx])) rfl
      have h3 := h1.1 out2 ht
      rw [List.foldl_cons, ht]
      refine ⟨fun d hd => ?_, fun h => ?_⟩
      · rw [h2.1 d hd, h3]
        simp [someH, Bool.or_assoc]
      · have := h2.2 h
        simp only [someH, List.any_cons] at this ⊢
        rw [this, Bool.or_true]
theorem holds_turn {z : Int} {tb : List (List Int)} {c : Cl} (hc : ∀ l ∈ c, okL l) : (∀ d, turnC c = some d → (holdsP z tb c ↔ holdsP z tb d)) ∧ (turnC c = none → holdsP z tb c) := by
  refine ⟨fun d hd => ?_, fun h e _ => (some_turn (o := some []) (out := []) hc rfl).2 h⟩
  have key : ∀ e, someH z tb e d = someH z tb e c := fun e => by
    have := (some_turn (z := z) (tb := tb) (e := e) (o := some []) (out := []) hc rfl).1 d hd
    simpa [someH] using this
  unfold holdsP
  simp only [key]
theorem holds_dist {z : Int} {tb : List (List Int)} {P : Cl} (hP : ∀ l ∈ P, okL l) : (∀ d, distC P = some d → (holdsP z tb P ↔ holdsP z tb d)) ∧ (distC P = none → holdsP z tb P) := by
  refine ⟨fun d hd => ?_, fun h e _ => ?_⟩
  · obtain ⟨k1, k2, _⟩ := dist_kept hP hd
    have key : ∀ e, someH z tb e d = someH z tb e P := fun e => by
      rw [Bool.eq_iff_iff]
      simp only [someH, List.any_eq_true]
      constructor
      · rintro ⟨x, hx, h⟩; exact ⟨x, k1 x hx, h⟩
      · rintro ⟨y, hy, h⟩
        obtain ⟨f, h1, h2, h3⟩ := k2 y hy
        exact ⟨f, h1, by rw [litH_like (hP f (k1 f h1)) (hP y hy) h2 h3]; exact h⟩
    unfold holdsP
    simp only [key]
  · have key : ∀ n, n ≤ P.length → distC (P.take n) = none → someH z tb e P = true := by
      intro n
      induction n with
      | zero => intro _ h; simp [distC] at h
      | succ n ih =>
        intro hn h
        have hl : P[n]? = some P[n] := List.getElem?_eq_getElem (by omega)
        cases hd : distC (P.take n) with
        | none => exact ih (by omega) hd
        | some out =>
          rw [dist_take hl, hd] at h
          have hk := dist_kept (fun x hx => hP x (List.mem_of_mem_take hx)) hd
          obtain ⟨y, hy, h1, h2⟩ := (kept_step hk (fun x hx => hP x (List.mem_of_mem_take hx)) (hP _ (List.getElem_mem _)) h).2.1.1 rfl
          have hyP := List.mem_of_mem_take hy
          simp only [someH, List.any_eq_true]
          rcases litH_other (z := z) (tb := tb) (e := e) (hP _ (List.getElem_mem _)) (hP y hyP) h1 h2 with h | h
          · exact ⟨_, List.getElem_mem _, h⟩
          · exact ⟨y, hyP, h⟩
    exact key P.length (Nat.le_refl _) (by rw [List.take_length]; exact h)
theorem idx_cons {v n : Int} {vs : List Int} (h : ¬ v = n) : (v :: vs).idxOf n = vs.idxOf n + 1 := by
  have : (v == n) = false := by simp [h]
  rw [List.idxOf_cons, this, cond_false]
theorem look_num {n : Int} : ∀ {vs : List Int} {k : Nat}, look (vs.mapIdx fun i v => (v, vr ((i + k : Nat) : Int))) n = if n ∈ vs then some (vr ((vs.idxOf n + k : Nat) : Int)) else none
  | [], _ => rfl
  | v :: vs, k => by
    rw [List.mapIdx_cons, look]
    by_cases h : v = n
    · subst h
      simp
    · have hn : ¬ n = v := fun e => h e.symm
      rw [if_neg (by simpa using h)]
      have e : (fun i (v : Int) => (v, vr ((i + 1 + k : Nat) : Int))) = fun i v => (v, vr ((i + (k + 1) : Nat) : Int)) := by
        funext i v; rw [show i + 1 + k = i + (k + 1) by omega]
      rw [e, look_num (vs := vs) (k := k + 1)]
      by_cases hm : n ∈ vs
      · rw [if_pos hm, if_pos (by simp [hm]), idx_cons h]
        rw [show vs.idxOf n + (k + 1) = vs.idxOf n + 1 + k by omega]
      · rw [if_neg hm, if_neg (by simp [hm, hn])]
theorem bnd_num {vs : List Int} {n : Int} (h : n ∈ vs) : bnd (numS vs) n = vr (vs.idxOf n : Nat) := by
  have := look_num (n := n) (vs := vs) (k := 0)
  simp only [Nat.add_zero] at this
  rw [if_pos h] at this
  exact bnd_some this
theorem varsT_mem {x : Bool × Int} {k : Fo} {l : List Int} {m : Int} : m ∈ varsT x k l ↔ m ∈ l ∨ occT m (x, k) := by
  unfold varsT
  obtain ⟨v, n⟩ := x
  cases v with
  | true =>
    simp only [if_true, occT]
    by_cases h : hasB l n = true
    · rw [if_pos h]
      have hn : n ∈ l := by simpa [hasB] using h
      constructor
      · exact .inl
      · rintro (h | rfl); exact h; exact hn
    · rw [if_neg h]; simp [eq_comm]
  | false => simp only [Bool.false_eq_true, if_false, occT]; exact occ_varsF
def occL (m : Int) (l : Lt) : Prop := occT m l.2.1 ∨ occT m l.2.2
theorem varsL_mem {l : Lt} {v : List Int} {m : Int} : m ∈ varsL l v ↔ m ∈ v ∨ occL m l := by
  unfold varsL occL
  rw [varsT_mem, varsT_mem, or_assoc]
theorem varsC_mem {m : Int} : ∀ {c : Cl} {v : List Int}, m ∈ varsC c v ↔ m ∈ v ∨ ∃ l ∈ c, occL m l
  | [], v => by simp [varsC]
  | l :: c, v => by
    show m ∈ varsC c (varsL l v) ↔ _
    rw [varsC_mem, varsL_mem]
    simp [or_assoc]
theorem varsT_nodup {x : Bool × Int} {k : Fo} {l : List Int} (h : l.Nodup) : (varsT x k l).Nodup := by
  unfold varsT
  split
  · split
    · exact h
    · rename_i hh
      rw [List.nodup_append]
      refine ⟨h, by simp, fun a ha b hb => ?_⟩
      simp at hb
      intro e
      rw [hb] at e
      exact hh (by simp [hasB, ← e, ha])
  · exact varsF_nodup h
theorem varsC_nodup : ∀ {c : Cl} {v : List Int}, v.Nodup → (varsC c v).Nodup
  | [], _, h => h
  | _ :: c, _, h => varsC_nodup (c := c) (varsT_nodup (varsT_nodup h))
theorem idx_inj {vs : List Int} {m n : Int} (hm : m ∈ vs) (h : vs.idxOf m = vs.idxOf n) : m = n := by
  have h1 : vs.idxOf m < vs.length := List.idxOf_lt_length_of_mem hm
  have h2 : vs[vs.idxOf m]'h1 = m := List.getElem_idxOf h1
  have h3 : vs.idxOf n < vs.length := by rw [← h]; exact h1
  have h4 : vs[vs.idxOf n]'h3 = n := List.getElem_idxOf h3
  rw [← h2, ← h4]
  simp only [h]
theorem holds_ren {z : Int} {tb : List (List Int)} {d : Cl} : holdsP z tb d ↔ holdsP z tb (reN d) := by
  have key : ∀ e, someH z tb e (reN d) = someH z tb (fun n => valT z tb e (bnd (numS (varsC d [])) n)) d := fun e => by
    unfold someH reN
    rw [List.any_map]
    congr 1
    funext l
    simp only [Function.comp, litH, mapL, valT_sub]
  have same : ∀ (e e' : Int → Int), (∀ n ∈ varsC d [], e n = e' n) → someH z tb e d = someH z tb e' d := fun e e' h => by
    unfold someH
    rw [Bool.eq_iff_iff, List.any_eq_true, List.any_eq_true]
    refine exists_congr fun l => and_congr_right fun hl => ?_
    have h1 : ∀ n, occL n l → e n = e' n := fun n hn => h n (varsC_mem.2 (.inr ⟨l, hl, hn⟩))
    simp only [litH]
    rw [valT_congr (fun n hn => h1 n (.inl hn)), valT_congr (t := l.2.2) (fun n hn => h1 n (.inr hn))]
  constructor
  · intro h e he
    rw [key]
    have := h (fun n => if n ∈ varsC d [] then e ((varsC d []).idxOf n : Nat) else e 0) (fun v => by split; exact he _; exact he _)
    rw [same _ _ ?_] at this
    · exact this
    · intro n hn
      simp only [hn, if_true]
      rw [bnd_num hn]
      simp [valT, vr]
  · intro h e he
    have := h (fun i => e ((varsC d []).getD i.toNat 0)) (fun v => he _)
    rw [key] at this
    rw [← this]
    refine same _ _ fun n hn => ?_
    rw [bnd_num hn]
    have h1 : (varsC d []).idxOf n < (varsC d []).length := List.idxOf_lt_length_of_mem hn
    simp only [valT, vr, if_true, Int.toNat_natCast]
    rw [List.getD_eq_getElem?_getD, List.getElem?_eq_getElem h1, Option.getD_some, List.getElem_idxOf h1]
end Go.Proofs.YtlgnpiphaeoeiadDoor

namespace Go.Proofs.YtlgnpiphaeoeiadDoor
open Go.RowKit Go.Deep Go.ChangeShapes Go.WideShapes
theorem nodup_le : ∀ {l m : List Int}, l.Nodup → (∀ x ∈ l, x ∈ m) → l.length ≤ m.length
  | [], _, _, _ => Nat.zero_le _
  | a :: l, m, hn, hs => by
    rw [List.nodup_cons] at hn
    have ha : a ∈ m := hs a (by simp)
    have h1 := nodup_le (l := l) (m := m.erase a) hn.2 (fun x hx => by
      have hne : x ≠ a := fun e => hn.1 (e ▸ hx)
      exact (List.mem_erase_of_ne hne).2 (hs x (by simp [hx])))
    rw [List.length_erase_of_mem ha] at h1
    have := List.length_pos_of_mem ha
    simp only [List.length_cons]
    omega
theorem gc_few {d : Cl} (h : ∀ l ∈ d, GL l) : ∀ n ∈ varsC d [], 0 ≤ n ∧ n ≤ 4 := fun n hn => by
  rcases varsC_mem.1 hn with hn | ⟨l, hl, hn⟩
  · cases hn
  · rcases hn with hn | hn
    · exact ⟨((h l hl).gl.few n hn).1, (h l hl).fl n hn⟩
    · exact ⟨((h l hl).gr.few n hn).1, (h l hl).fr n hn⟩
theorem gc_vars {d : Cl} (h : ∀ l ∈ d, GL l) : (varsC d []).length ≤ 5 := by
  refine nodup_le (m := [0, 1, 2, 3, 4]) (varsC_nodup List.nodup_nil) (fun x hx => ?_)
  have := gc_few h x hx
  simp
  omega
theorem wgF_zero {c : Int → Nat} (hc : ∀ n, c n = 0) : ∀ F : Fo, wgF c F = 0
  | .nil => rfl
  | .node _ _ x k r => by rw [wgF, wgF_zero hc k, wgF_zero hc r, hc]; simp
theorem num_nil (vs : List Int) (n : Int) : (bnd (numS vs) n).2 = .nil := by
  by_cases h : n ∈ vs
  · rw [bnd_num h]; rfl
  · have := look_num (n := n) (vs := vs) (k := 0)
    simp only [Nat.add_zero] at this
    rw [if_neg h] at this
    have e : bnd (numS vs) n = vr n := bnd_none this
    rw [e]; rfl
theorem num_size {vs : List Int} {t : Tm} (h : okT t) : tszR (subT (bnd (numS vs)) t).2 = tszR t.2 := by
  have := subT_size (f := bnd (numS vs)) h
  simp only [szT, wgT] at this
  rw [wgF_zero (fun n => by rw [num_nil]; rfl)] at this
  rw [this, num_nil]
  simp [Fo.sizesR]
theorem num_gd {vs : List Int} (hl : vs.length ≤ 10) : ∀ p ∈ numS vs, Gd p.2 := fun p hp => by
  simp only [numS, List.mem_mapIdx] at hp
  obtain ⟨i, hi, rfl⟩ := hp
  exact gd_vr ⟨by omega, by omega⟩
theorem num_four {vs : List Int} (hl : vs.length ≤ 5) {t : Tm} (h : ∀ m, occT m t → m ≤ 4) : ∀ m, occT m (subT (bnd (numS vs)) t) → m ≤ 4 := fun m hm => by
  obtain ⟨n, h1, h2⟩ := occT_sub.1 hm
  by_cases hn : n ∈ vs
  · rw [bnd_num hn, occ_vr] at h2
    have := List.idxOf_lt_length_of_mem hn
    omega
  · have := look_num (n := n) (vs := vs) (k := 0)
    simp only [Nat.add_zero] at this
    rw [if_neg hn] at this
    have e : bnd (numS vs) n = vr n := bnd_none this
    rw [e, occ_vr] at h2
    rw [← h2]
    exact h n h1
theorem GL.num {vs : List Int} (hl : vs.length ≤ 5) {l : Lt} (h : GL l) : GL (mapL (subT (bnd (numS vs))) l) :=
  ⟨gd_sub (num_gd (by omega)) h.gl, gd_sub (num_gd (by omega)) h.gr, num_four hl h.fl, num_four hl h.fr, by simp only [mapL]; rw [num_size h.gl.ok]; exact h.sl, by simp only [mapL]; rw [num_size h.gr.ok]; exact h.sr⟩
theorem GL.okl {l : Lt} (h : GL l) : okL l := ⟨h.gl.ok, h.gr.ok⟩
theorem gc_ren {d : Cl} (h : GC d) : GC (reN d) := by
  refine ⟨by rw [reN, List.length_map]; exact h.1, fun l hl => ?_⟩
  obtain ⟨x, hx, rfl⟩ := List.mem_map.1 hl
  exact (h.2 x hx).num (gc_vars h.2)
theorem gc_dist {d e : Cl} (h : GC d) (he : distC d = some e) : GC e := by
  refine ⟨?_, dist_mem (p := GL) he (fun e he => by cases he; simp) h.2⟩
  have := dist_len (n := 0) he (fun e he => by cases he; simp)
  have := h.1
  omega
theorem gc_big {e : Cl} (h : GC e) : e.any bigL = false := by
  rw [List.any_eq_false]
  intro x hx
  have h1 := (h.2 x hx).sl
  have h2 := (h.2 x hx).sr
  simp [bigL]
  omega
theorem gc_keep {d e : Cl} (hd : GC d) (he : GC e) : keepC d e = (0, e) := by
  unfold keepC
  rw [if_neg]
  rintro (h | h | h)
  · have := he.1; omega
  · have := gc_vars hd.2; omega
  · rw [gc_big he] at h; cases h
theorem norm_cases {c : Cl} (hc : GC c) : (turnC c = none ∧ normC c = (6, [])) ∨ ∃ d, turnC c = some d ∧ GC d ∧ GC (reN d) ∧ ((distC (reN d) = none ∧ normC c = (6, [])) ∨ ∃ e, distC (reN d) = some e ∧ GC e ∧ normC c = (0, e)) := by
  cases ht : turnC c with
  | none => exact .inl ⟨rfl, by simp [normC, ht]⟩
  | some d =>
    have hd := turn_gc ht hc
    have hr := gc_ren hd
    refine .inr ⟨d, rfl, hd, hr, ?_⟩
    cases he : distC (reN d) with
    | none => exact .inl ⟨rfl, by simp [normC, ht, he]⟩
    | some e =>
      have hE := gc_dist hr he
      exact .inr ⟨e, rfl, hE, by simp only [normC, ht, he]; exact gc_keep hd hE⟩
structure GLx (l : Lt) : Prop where
  gl : Gd l.2.1
  gr : Gd l.2.2
  sl : tszR l.2.1.2 ≤ 4000000000000
  sr : tszR l.2.2.2 ≤ 4000000000000
def GX (c : Cl) : Prop := c.length ≤ 8 ∧ ∀ l ∈ c, GLx l
theorem GL.x {l : Lt} (h : GL l) : GLx l := ⟨h.gl, h.gr, by have := h.sl; omega, by have := h.sr; omega⟩
theorem GC.x {c : Cl} (h : GC c) : GX c := ⟨by have := h.1; omega, fun l hl => (h.2 l hl).x⟩
theorem GLx.flip {l : Lt} (h : GLx l) : GLx (flipL l) := by
  unfold flipL
  split
  · exact ⟨h.gr, h.gl, h.sr, h.sl⟩
  · exact h
theorem GLx.okl {l : Lt} (h : GLx l) : okL l := ⟨h.gl.ok, h.gr.ok⟩
theorem turn_gx {c d : Cl} (h : turnC c = some d) (hc : GX c) : GX d := by
  refine ⟨?_, turn_mem (p := GLx) h (fun e he => by cases he; simp) (fun l hl => (hc.2 l hl).flip)⟩
  have := turn_len (n := 0) h (fun e he => by cases he; simp)
  have := hc.1
  omega
theorem gx_few {d : Cl} (h : ∀ l ∈ d, GLx l) : ∀ n ∈ varsC d [], 0 ≤ n ∧ n ≤ 9 := fun n hn => by
  rcases varsC_mem.1 hn with hn | ⟨l, hl, hn⟩
  · cases hn
  · rcases hn with hn | hn
    · exact (h l hl).gl.few n hn
    · exact (h l hl).gr.few n hn
theorem gx_vars {d : Cl} (h : ∀ l ∈ d, GLx l) : (varsC d []).length ≤ 10 := by
  refine nodup_le (m := [0, 1, 2, 3, 4, 5, 6, 7, 8, 9]) (varsC_nodup List.nodup_nil) (fun x hx => ?_)
  have := gx_few h x hx
  simp
  omega
theorem GLx.num {vs : List Int} (hl : vs.length ≤ 10) {l : Lt} (h : GLx l) : GLx (mapL (subT (bnd (numS vs))) l) :=
  ⟨gd_sub (num_gd hl) h.gl, gd_sub (num_gd hl) h.gr, by simp only [mapL]; rw [num_size h.gl.ok]; exact h.sl, by simp only [mapL]; rw [num_size h.gr.ok]; exact h.sr⟩
theorem gx_ren {d : Cl} (h : GX d) : GX (reN d) := by
  refine ⟨by rw [reN, List.length_map]; exact h.1, fun l hl => ?_⟩
  obtain ⟨x, hx, rfl⟩ := List.mem_map.1 hl
  exact (h.2 x hx).num (gx_vars h.2)
theorem gx_dist {d e : Cl} (h : GX d) (he : distC d = some e) : GX e := by
  refine ⟨?_, dist_mem (p := GLx) he (fun e he => by cases he; simp) h.2⟩
  have := dist_len (n := 0) he (fun e he => by cases he; simp)
  have := h.1
  omega
theorem norm_casesX {c : Cl} (hc : GX c) : (turnC c = none ∧ normC c = (6, [])) ∨ ∃ d, turnC c = some d ∧ GX d ∧ GX (reN d) ∧ ((distC (reN d) = none ∧ normC c = (6, [])) ∨ ∃ e, distC (reN d) = some e ∧ GX e ∧ normC c = keepC d e) := by
  cases ht : turnC c with
  | none => exact .inl ⟨rfl, by simp [normC, ht]⟩
  | some d =>
    have hd := turn_gx ht hc
    have hr := gx_ren hd
    refine .inr ⟨d, rfl, hd, hr, ?_⟩
    cases he : distC (reN d) with
    | none => exact .inl ⟨rfl, by simp [normC, ht, he]⟩
    | some e => exact .inr ⟨e, rfl, gx_dist hr he, by simp only [normC, ht, he]⟩
theorem keep_big {d e : Cl} (h : (4 < e.length ∨ 5 < (varsC d []).length) ∨ e.any bigL = true) : keepC d e = (4, []) := if_pos (by
  rcases h with (h | h) | h
  · exact .inl h
  · exact .inr (.inl h)
  · exact .inr (.inr h))
theorem keep_ok {d e : Cl} (h1 : ¬ 4 < e.length) (h2 : ¬ 5 < (varsC d []).length) (h3 : e.any bigL = false) : keepC d e = (0, e) := if_neg (by
  rintro (h | h | h)
  · exact h1 h
  · exact h2 h
  · rw [h3] at h; cases h)
theorem norm_holds {z : Int} {tb : List (List Int)} {c : Cl} (hc : GC c) : ((normC c).1 = 6 → holdsP z tb c) ∧ ((normC c).1 = 0 → (holdsP z tb c ↔ holdsP z tb (normC c).2)) := by
  have h1 := holds_turn (z := z) (tb := tb) (fun l hl => (hc.2 l hl).okl)
  rcases norm_cases hc with ⟨ht, hn⟩ | ⟨d, ht, hd, hr, hn⟩
  · rw [hn]; exact ⟨fun _ => h1.2 ht, fun h => by simp at h⟩
  · have h2 := h1.1 d ht
    have h3 := holds_ren (z := z) (tb := tb) (d := d)
    have h4 := holds_dist (z := z) (tb := tb) (fun l hl => (hr.2 l hl).okl)
    rcases hn with ⟨he, hn⟩ | ⟨e, he, hE, hn⟩
    · rw [hn]; exact ⟨fun _ => h2.2 (h3.2 (h4.2 he)), fun h => by simp at h⟩
    · rw [hn]; exact ⟨fun h => by simp at h, fun _ => h2.trans (h3.trans (h4.1 e he))⟩
end Go.Proofs.YtlgnpiphaeoeiadDoor

namespace Go.Proofs.YtlgnpiphaeoeiadDoor
open Go.RowKit Go.Deep Go.ChangeShapes Go.WideShapes
def mlen (z : Int) (n : Int) : Int := if n = 0 then 1 else if n = 1 then z else z * z
def inZ (z : Int) (x : Int) : Bool := decide (0 ≤ x ∧ x < z)
def rowE (z : Int) (p : Int × List Int) : Int := if (p.2.length : Int) = mlen z p.1 then (if p.2.all (inZ z) then 0 else 3) else 5
def rowsE (z : Int) : List (Int × List Int) → Int
  | [] => 0
  | p :: ps => if rowE z p ≠ 0 then rowE z p else rowsE z ps
theorem rowsE_at {z : Int} : ∀ {c : List (Int × List Int)} {j : Nat} {p : Int × List Int}, (∀ i, i < j → ∀ a, c[i]? = some a → rowE z a = 0) → c[j]? = some p → rowE z p ≠ 0 → rowsE z c = rowE z p
  | [], _, _, _, h, _ => by simp at h
  | x :: c, 0, l, _, h, hn => by
    simp only [List.getElem?_cons_zero, Option.some.injEq] at h
    subst h
    rw [rowsE, if_pos hn]
  | x :: c, j + 1, l, h0, h, hn => by
    rw [rowsE, if_neg (by simp [h0 0 (by omega) x (by simp)])]
    exact rowsE_at (j := j) (fun i hi a ha => h0 (i + 1) (by omega) a (by simpa using ha)) (by simpa using h) hn
theorem rowsE_iff {z : Int} : ∀ {c : List (Int × List Int)}, rowsE z c = 0 ↔ ∀ p ∈ c, rowE z p = 0
  | [] => by simp [rowsE]
  | x :: c => by
    rw [rowsE]
    by_cases h : rowE z x = 0
    · rw [if_neg (by simp [h]), rowsE_iff (c := c)]
      simp [h]
    · rw [if_pos h]
      simp [h]
def wrongM (s : List Int) (z : Int) (tb : List (List Int)) : Int := if z < 1 ∨ 8 < z ∨ tb.length ≠ s.length then 5 else rowsE z (s.zip tb)
structure MR (s : List Int) (z : Int) (tb : List (List Int)) : Prop where
  z1 : 1 ≤ z
  z8 : z ≤ 8
  len : tb.length = s.length
  row : ∀ i, i < s.length → ((tb.getD i []).length : Int) = mlen z (s.getD i 0)
  all : ∀ i, i < s.length → ∀ x ∈ tb.getD i [], 0 ≤ x ∧ x < z
theorem row_ok {z : Int} {p : Int × List Int} : rowE z p = 0 ↔ (p.2.length : Int) = mlen z p.1 ∧ ∀ x ∈ p.2, 0 ≤ x ∧ x < z := by
  unfold rowE
  by_cases h1 : (p.2.length : Int) = mlen z p.1
  · rw [if_pos h1]
    by_cases h2 : p.2.all (inZ z) = true
    · rw [if_pos h2]
      simp only [h1, true_and, true_iff]
      intro x hx
      have := List.all_eq_true.1 h2 x hx
      simpa [inZ] using this
    · rw [if_neg h2]
      constructor
      · intro h; simp at h
      · intro h
        refine absurd (List.all_eq_true.2 fun x hx => ?_) h2
        have := h.2 x hx
        simpa [inZ] using this
  · rw [if_neg h1]
    constructor
    · intro h; simp at h
    · intro h; exact absurd h.1 h1
theorem wrongM_ok {s : List Int} {z : Int} {tb : List (List Int)} (h : wrongM s z tb = 0) : MR s z tb := by
  unfold wrongM at h
  by_cases h1 : z < 1 ∨ 8 < z ∨ tb.length ≠ s.length
  · rw [if_pos h1] at h; simp at h
  · rw [if_neg h1, rowsE_iff] at h
    have hl : tb.length = s.length := by
      by_cases e : tb.length = s.length
      · exact e
      · exact absurd (.inr (.inr e)) h1
    have key : ∀ i, i < s.length → rowE z (s.getD i 0, tb.getD i []) = 0 := fun i hi => by
      have h2 : (s.zip tb)[i]? = some (s.getD i 0, tb.getD i []) := by
        have hs : s[i]? = some (s.getD i 0) := by rw [List.getD_eq_getElem?_getD, List.getElem?_eq_getElem hi]; rfl
        have ht : tb[i]? = some (tb.getD i []) := by rw [List.getD_eq_getElem?_getD, List.getElem?_eq_getElem (by omega)]; rfl
        rw [List.getElem?_zip_eq_some]
        exact ⟨hs, ht⟩
      exact h _ (List.mem_of_getElem? h2)
    exact ⟨by omega, by omega, hl, fun i hi => (row_ok.1 (key i hi)).1, fun i hi => (row_ok.1 (key i hi)).2⟩
def pw (z : Int) : Nat → Int
  | 0 => 1
  | n + 1 => z * pw z n
theorem pw_pos {z : Int} (h : 1 ≤ z) : ∀ n, 1 ≤ pw z n
  | 0 => by simp [pw]
  | n + 1 => by
    have := pw_pos h n
    rw [pw]
    have := Int.mul_le_mul h this (by omega) (by omega)
    simpa using this
theorem mlen_pw {z n : Int} {m : Nat} (h : (m : Int) = n) (hm : m ≤ 2) : mlen z n = pw z m := by
  subst h
  rcases (by omega : m = 0 ∨ m = 1 ∨ m = 2) with rfl | rfl | rfl
  · rfl
  · simp [mlen, pw]
  · simp [mlen, pw]
theorem digit_next {z a v p : Int} (hz : 1 ≤ z) (ha : 0 ≤ a) (hp : a < p) (hv : 0 ≤ v) (hvz : v < z) : 0 ≤ z * a + v ∧ z * a + v < z * p := by
  have h1 : 0 ≤ z * a := Int.mul_nonneg (by omega) ha
  have h2 : z * (a + 1) ≤ z * p := Int.mul_le_mul_of_nonneg_left (by omega) (by omega)
  rw [Int.mul_add] at h2
  omega
def sigF (s : List Int) : Fo → Prop
  | .nil => True
  | .node _ _ x k r => (aloneF s x (Fo.len k) = 0 ∧ sigF s k) ∧ sigF s r
def sigT (s : List Int) (t : Tm) : Prop := aloneF s t.1 (Fo.len t.2) = 0 ∧ sigF s t.2
theorem sig_walkF {s : List Int} : ∀ {F : Fo} {d : Int}, walkF s F d = 0 → sigF s F
  | .nil, _, _ => trivial
  | .node _ _ x k r, d, h => by
    obtain ⟨hT, hr⟩ := walkF_ok h
    obtain ⟨_, ha, hk⟩ := walkT_ok hT
    exact ⟨⟨ha, sig_walkF hk⟩, sig_walkF hr⟩
theorem sig_walk {s : List Int} {t : Tm} {d : Int} (h : walkT s t.1 t.2 d = 0) : sigT s t := by
  obtain ⟨_, ha, hk⟩ := walkT_ok h
  exact ⟨ha, sig_walkF hk⟩
theorem sig_mem {s : List Int} : ∀ {F : Fo}, sigF s F → ∀ t ∈ F.list, sigT s t
  | .nil, _, t, h => by simp [Fo.list] at h
  | .node _ _ x k r, h, t, ht => by
    simp only [Fo.list, List.mem_cons] at ht
    rcases ht with rfl | ht
    · exact h.1
    · exact sig_mem h.2 t ht
theorem sig_subF {s : List Int} {f : Int → Tm} : ∀ {F : Fo}, (∀ n, occF n F → sigT s (f n)) → sigF s F → sigF s (subF f F)
  | .nil, _, _ => trivial
  | .node p q (b, n) k r, hf, h => by
    have hl : ∀ m, occT m ((b, n), k) → sigT s (f m) := fun m hm => hf m (by rw [occ_mem]; exact ⟨((b, n), k), by simp [Fo.list], hm⟩)
    have hr : ∀ m, occF m r → sigT s (f m) := fun m hm => hf m (by
      rw [occ_mem] at hm ⊢
      obtain ⟨t, ht, h2⟩ := hm
      exact ⟨t, by simp [Fo.list, ht], h2⟩)
    rw [subF_node]
    refine ⟨?_, sig_subF hr h.2⟩
    cases b with
    | true => rw [subT_var]; exact hl n (by simp [occT])
    | false =>
      rw [subT_sym]
      refine ⟨?_, sig_subF (fun m hm => hl m (by simp [occT, hm])) h.1.2⟩
      rw [subF_len]; exact h.1.1
theorem sig_sub {s : List Int} {f : Int → Tm} {t : Tm} (hf : ∀ n, occT n t → sigT s (f n)) (h : sigT s t) : sigT s (subT f t) := by
  obtain ⟨⟨b, n⟩, k⟩ := t
  cases b with
  | true => rw [subT_var]; exact hf n (by simp [occT])
  | false =>
    rw [subT_sym]
    refine ⟨?_, sig_subF (fun m hm => hf m (by simp [occT, hm])) h.2⟩
    rw [subF_len]; exact h.1
theorem val_range {s : List Int} {z : Int} {tb : List (List Int)} {e : Int → Int} (hm : MR s z tb) (hs : s.all okNum = true) (he : ∀ v, 0 ≤ v → v ≤ 4 → 0 ≤ e v ∧ e v < z) :
    ∀ {F : Fo}, sigF s F → ∀ (a : Int) (i : Nat), 0 ≤ a → a < pw z i → 0 ≤ valF z tb e F a ∧ valF z tb e F a < pw z (Fo.len F + i)
  | .nil, _, a, i, h0, h1 => by simpa [valF, Fo.len] using ⟨h0, h1⟩
  | .node p q (b, n) k r, h, a, i, h0, h1 => by
    obtain ⟨⟨ha, hk⟩, hr⟩ := h
    have hv : 0 ≤ valT z tb e ((b, n), k) ∧ valT z tb e ((b, n), k) < z := by
      cases b with
      | true =>
        obtain ⟨_, hn0, hn4⟩ := alone_var ha
        simpa [valT] using he n hn0 hn4
      | false =>
        obtain ⟨n0, n1, n2⟩ := alone_sym ha
        have ih := val_range hm hs he hk 0 0 (by omega) (by simp [pw])
        have hn : n.toNat < s.length := by omega
        have ok := List.all_eq_true.1 hs (s.getD n.toNat 0) (by rw [List.getD_eq_getElem?_getD, List.getElem?_eq_getElem hn]; simp)
        have ok' : 0 ≤ s.getD n.toNat 0 ∧ s.getD n.toNat 0 ≤ 2 := by simpa [okNum] using ok
        have hl := hm.row n.toNat hn
        rw [mlen_pw n2 (by omega)] at hl
        rw [Nat.add_zero] at ih
        have hlt : (valF z tb e k 0).toNat < (tb.getD n.toNat []).length := by omega
        have : (tb.getD n.toNat []).getD (valF z tb e k 0).toNat 0 ∈ tb.getD n.toNat [] := by
          rw [List.getD_eq_getElem?_getD (l := tb.getD n.toNat []), List.getElem?_eq_getElem hlt]; simp
        have := hm.all n.toNat hn _ this
        simpa [valT] using this
    rw [valF_node]
    have hd := digit_next hm.z1 h0 h1 hv.1 hv.2
    have := val_range hm hs he hr (z * a + valT z tb e ((b, n), k)) (i + 1) hd.1 (by rw [pw]; exact hd.2)
    rw [show Fo.len (.node p q (b, n) k r) + i = Fo.len r + (i + 1) by simp [Fo.len]; omega]
    exact this
theorem val_args {s : List Int} {z : Int} {tb : List (List Int)} {e : Int → Int} (hm : MR s z tb) (hs : s.all okNum = true) (he : ∀ v, 0 ≤ v → v ≤ 4 → 0 ≤ e v ∧ e v < z) {n : Int} {k : Fo} (h : sigT s ((false, n), k)) :
    0 ≤ n ∧ n < s.length ∧ 0 ≤ valF z tb e k 0 ∧ valF z tb e k 0 < (tb.getD n.toNat []).length ∧ Fo.len k ≤ 2 := by
  have ha : aloneF s (false, n) (Fo.len k) = 0 := h.1
  have hk : sigF s k := h.2
  obtain ⟨n0, n1, n2⟩ := alone_sym ha
  have ih := val_range hm hs he hk 0 0 (by omega) (by simp [pw])
  have hn : n.toNat < s.length := by omega
  have ok := List.all_eq_true.1 hs (s.getD n.toNat 0) (by rw [List.getD_eq_getElem?_getD, List.getElem?_eq_getElem hn]; simp)
  have ok' : 0 ≤ s.getD n.toNat 0 ∧ s.getD n.toNat 0 ≤ 2 := by simpa [okNum] using ok
  have hl := hm.row n.toNat hn
  rw [mlen_pw n2 (by omega)] at hl
  rw [Nat.add_zero] at ih
  exact ⟨n0, n1, ih.1, by omega, by omega⟩
theorem val_rangeT {s : List Int} {z : Int} {tb : List (List Int)} {e : Int → Int} (hm : MR s z tb) (hs : s.all okNum = true) (he : ∀ v, 0 ≤ v → v ≤ 4 → 0 ≤ e v ∧ e v < z) {t : Tm} (h : sigT s t) : 0 ≤ valT z tb e t ∧ valT z tb e t < z := by
  have h2 : sigF s (.node 0 0 t.1 t.2 .nil) := ⟨h, trivial⟩
  have := val_range hm hs he h2 0 0 (by omega) (by simp [pw])
  rw [valF_node] at this
  simpa [valF, Fo.len, pw] using this
def envF (z : Int) : List Int → Int → List Int → List Int
  | [], _, L => L
  | v :: vs, n, L => envF z vs (n / z) (L.set v.toNat (n % z))
def envOf (L : List Int) (v : Int) : Int := L.getD v.toNat 0
abbrev env0 : List Int := [0, 0, 0, 0, 0]
def holdsB (z : Int) (tb : List (List Int)) (c : Cl) : Bool := (List.range (pw z (varsC c []).length).toNat).all fun n => someH z tb (envOf (envF z (varsC c []) n env0)) c
theorem envF_len {z : Int} : ∀ (vs : List Int) (n : Int) (L : List Int), (envF z vs n L).length = L.length
  | [], _, _ => rfl
  | v :: vs, n, L => by rw [envF, envF_len]; simp
theorem envF_other {z v : Int} : ∀ {vs : List Int} {n : Int} {L : List Int}, (∀ x ∈ vs, 0 ≤ x) → 0 ≤ v → v ∉ vs → envOf (envF z vs n L) v = envOf L v
  | [], _, _, _, _, _ => rfl
  | x :: vs, n, L, hx, h0, h => by
    have hne : x.toNat ≠ v.toNat := fun e => h (by have := hx x (by simp); rw [show v = x by omega]; simp)
    rw [envF, envF_other (fun y hy => hx y (by simp [hy])) h0 (fun hh => h (by simp [hh]))]
    unfold envOf
    rw [List.getD_eq_getElem?_getD, List.getD_eq_getElem?_getD, List.getElem?_set_ne hne]
theorem env_range {z : Int} (hz : 1 ≤ z) : ∀ {vs : List Int} {n : Int} {L : List Int}, (∀ x ∈ L, 0 ≤ x ∧ x < z) → ∀ x ∈ envF z vs n L, 0 ≤ x ∧ x < z
  | [], _, _, h => h
  | v :: vs, n, L, h => by
    rw [envF]
    refine env_range hz (fun x hx => ?_)
    rcases List.mem_or_eq_of_mem_set hx with hx | hx
    · exact h x hx
    · rw [hx]
      exact ⟨Int.emod_nonneg _ (by omega), Int.emod_lt_of_pos _ (by omega)⟩
theorem env_at {z : Int} (hz : 1 ≤ z) {vs : List Int} {n : Int} (v : Int) : 0 ≤ envOf (envF z vs n env0) v ∧ envOf (envF z vs n env0) v < z := by
  unfold envOf
  rw [List.getD_eq_getElem?_getD]
  cases h : (envF z vs n env0)[v.toNat]? with
  | none => simp; omega
  | some x =>
    have := env_range hz (vs := vs) (n := n) (L := env0) (fun x hx => by simp at hx; omega) x (List.mem_of_getElem? h)
    simpa using this
theorem env_some {z : Int} (hz : 1 ≤ z) {e : Int → Int} (he : ∀ v, 0 ≤ e v ∧ e v < z) : ∀ {vs : List Int}, vs.Nodup → (∀ x ∈ vs, 0 ≤ x ∧ x ≤ 4) → ∃ n : Int, 0 ≤ n ∧ n < pw z vs.length ∧ ∀ L : List Int, L.length = 5 → ∀ v ∈ vs, envOf (envF z vs n L) v = e v
  | [], _, _ => ⟨0, by omega, by simp [pw], fun _ _ _ h => by cases h⟩
  | v :: vs, hn, hx => by
    rw [List.nodup_cons] at hn
    obtain ⟨m, m0, m1, hm⟩ := env_some hz he hn.2 (fun x hx' => hx x (by simp [hx']))
    have hv := hx v (by simp)
    obtain ⟨e0, e1⟩ := he v
    have hd := digit_next hz m0 m1 e0 e1
    have hz' : (0 : Int) < z := by omega
    have q1 : (z * m + e v) / z = m := by
      rw [Int.add_comm, Int.add_mul_ediv_left _ _ (by omega), Int.ediv_eq_zero_of_lt e0 e1]; omega
    have q2 : (z * m + e v) % z = e v := by
      rw [Int.add_comm, Int.add_mul_emod_self_left, Int.emod_eq_of_lt e0 e1]
    refine ⟨z * m + e v, hd.1, by rw [List.length_cons, pw]; exact hd.2, fun L hL x hxm => ?_⟩
    rw [envF, q1, q2]
    rcases List.mem_cons.1 hxm with rfl | hxm
    · rw [envF_other (fun y hy => (hx y (by simp [hy])).1) hv.1 hn.1]
      unfold envOf
      rw [List.getD_eq_getElem?_getD, List.getElem?_set_self (by omega)]
      rfl
    · exact hm _ (by simp [hL]) x hxm
theorem some_congr {z : Int} {tb : List (List Int)} {e e' : Int → Int} {c : Cl} (h : ∀ n ∈ varsC c [], e n = e' n) : someH z tb e c = someH z tb e' c := by
  unfold someH
  rw [Bool.eq_iff_iff, List.any_eq_true, List.any_eq_true]
  refine exists_congr fun l => and_congr_right fun hl => ?_
  have h1 : ∀ n, occL n l → e n = e' n := fun n hn => h n (varsC_mem.2 (.inr ⟨l, hl, hn⟩))
  simp only [litH]
  rw [valT_congr (fun n hn => h1 n (.inl hn)), valT_congr (t := l.2.2) (fun n hn => h1 n (.inr hn))]
theorem holds_iff {z : Int} {tb : List (List Int)} {c : Cl} (hz : 1 ≤ z) (hv : ∀ n ∈ varsC c [], 0 ≤ n ∧ n ≤ 4) : holdsB z tb c = true ↔ holdsP z tb c := by
  unfold holdsB holdsP
  rw [List.all_eq_true]
  constructor
  · intro h e he
    obtain ⟨n, n0, n1, hn⟩ := env_some hz he (varsC_nodup (c := c) List.nodup_nil) hv
    have h1 := h n.toNat (List.mem_range.2 (by omega))
    rw [show ((n.toNat : Nat) : Int) = n by omega] at h1
    rw [← h1]
    exact some_congr fun v hvm => (hn env0 rfl v hvm).symm
  · intro h n _
    exact h _ (fun v => env_at hz v)
end Go.Proofs.YtlgnpiphaeoeiadDoor
