/- Ext More RApp Law2 CN CK -/
import Derived.Test.YtlgnpiphaeoeiadG07
import Derived.Deep.RegionLaw
namespace Go.Proofs.Ytlgnpiphaeoeiad
open Go.RowKit Go.Deep Go.ChangeShapes Go.WideShapes
attribute [local go_sem ↓] Go.wp_at_zero Go.wp_at_succ
def ExtPost (lo : Nat) (X : Nat → Prop) (w : World) (s : Sb) (vs : Value) (t u : Tm) (e : Ending) (w' : World) : Prop :=
  Fr w w' vs.ownBlock none ∧ ∃ (z1 : Option Addr) (m z3 : Nat) (ok : Bool), e = .returned (.tuple #[.slice z1 m z3, .bool ok]) ∧ (ok = false → extT s t u = none ∧ z1 = none ∧ m = 0 ∧ z3 = 0) ∧
    (ok = true → ∃ s' xs', extT s t u = some s' ∧ m = s'.length ∧ OwnS lo (Ex X w w' (.slice z1 m z3)) w' s' (.slice z1 m z3) xs' ∧ Mv w vs (.slice z1 m z3))
def ExtSaid (x : Bool × Int) (k : Fo) : Prop := ∀ (lo : Nat) (X : Nat → Prop) (s : Sb) (vs : Value) (xs : List Value) (y : Bool × Int) (l : Fo) (a c : Value) (w : World),
    OwnS lo X w s vs xs → lo ≤ w.heap.size → SB X w k a → SB X w l c → okT (y, l) → narT (y, l) → (s.length + tszR k) * 48 ≤ 140737488355328 →
    Calls Try.prog 57 #[vs, .agg #[.bool x.1, .int .i64 x.2, a], .agg #[.bool y.1, .int .i64 y.2, c]] w (ExtPost lo X w s vs (x, k) (y, l))
theorem ext_fails {lo : Nat} {X : Nat → Prop} {w w' : World} {s : Sb} {vs : Value} {t u : Tm} (hf : Fr w w' vs.ownBlock none) (h : extT s t u = none) : ExtPost lo X w s vs t u (.returned (.tuple #[.slice none 0 0, .bool false])) w' :=
  ⟨hf, none, 0, 0, false, rfl, fun _ => ⟨h, rfl, rfl, rfl⟩, fun e => by cases e⟩
theorem ext_holds {lo : Nat} {X : Nat → Prop} {w w' : World} {s s' : Sb} {vs : Value} {t u : Tm} {z1 : Option Addr} {z3 : Nat} {xs' : List Value} (h : extT s t u = some s')
    (hO : OwnS lo (Ex X w w' (.slice z1 s'.length z3)) w' s' (.slice z1 s'.length z3) xs' ∧ Fr w w' vs.ownBlock none ∧ Mv w vs (.slice z1 s'.length z3)) : ExtPost lo X w s vs t u (.returned (.tuple #[.slice z1 s'.length z3, .bool true])) w' :=
  ⟨hO.2.1, z1, s'.length, z3, true, rfl, fun e => by (cases e), fun _ => ⟨s', xs', h, rfl, hO.1, hO.2.2⟩⟩
set_option maxRecDepth 100000 in
set_option maxHeartbeats 2000000 in
theorem extend_any (x : Bool × Int) (k : Fo) : ExtSaid x k := by
  refine Fo.ind1 (p := ExtSaid) ?_ x k
  clear x k
  intro x k ih lo X s vs xs y l a c w hO hlo hS hU hok hnar hlen
  obtain ⟨v, n⟩ := x
  obtain ⟨yv, yn⟩ := y
  have HI := hide ih
  have HO := hide hO
  have Hok := hide hok
  have Hnar := hide hnar
  have HU := hide hU
  obtain ⟨z1, z3, rfl⟩ := hO.slice
  obtain ⟨ad, ac, b, o, rfl, had, hlc, hcm, hF⟩ := hS
  obtain ⟨ud, uc, ub, uo, rfl, hud, hulc, hucm, hG⟩ := hU
  have HF := hide hF
  have HG := hide hG
  unfold maxLen at hcm hucm
  have hlent : 0 < tszR k := by unfold tszR; omega
  clear ih hO hok hnar hF hG
  cases v
  · by_cases hc : yv = false ∧ yn = n ∧ Fo.len l = Fo.len k
    · obtain ⟨rfl, rfl, hll⟩ := hc
      have Hres : Hid (extT s ((false, yn), k) ((false, yn), l) = extF k l s) := extT_in hll
      have hllb : ((Fo.len l : Int) != (Fo.len k : Int)) = false := by simp [hll]
      have hnb : (yn != yn) = false := by simp
      have Hll := hide hll
      have hll1 : Fo.len l ≤ Fo.len k := by omega
      have hll2 : Fo.len k ≤ Fo.len l := by omega
      have Hl := hide (Fo.len_list k)
      have Hl2 := hide (Fo.len_list l)
      clear hll
      go_enter Try.func57, Try.ntmps57
      go_wp2_with fail
      generalize hW2 : (w.alloc (.cells #[.bool false, .int .i64 yn, .slice ad (Fo.len k) ac] 33)).alloc (.cells #[.bool false, .int .i64 yn, .slice ud (Fo.len l) uc] 33) = W2
      have hs2 : W2.heap.size = w.heap.size + 1 + 1 := by rw [← hW2]; simp
      have hB2 : Below w.heap.size w W2 := by rw [← hW2]; exact (below_alloc _ _).alloc (by simp) _
      have r2 : W2.cell? ⟨w.heap.size + 1, 2, none⟩ = some (.slice ud (Fo.len l) uc) := by rw [← hW2]; exact new_cell (World.size_alloc _ _)
      have Hr2 := hide r2
      have HB2 := hide hB2
      have hnv : ∀ q, (Value.slice z1 s.length z3).ownBlock = some q → q < w.heap.size := fun q hq => (owns_at HO.out.row q hq).2
      have Hnv := hide hnv
      have Hbeg := hide (own_begin hB2 HO.out)
      clear hW2 r2 hB2 hnv
      go_loopw [0, 58] (fun vj i wr => ∃ (j : Nat) (sj : Sb) (y1 : Option Addr) (y3 : Nat) (xsj : List Value), j ≤ Fo.len k ∧ i = .int .i64 j ∧ vj = .slice y1 sj.length y3 ∧ extF (Fo.take j k) (Fo.take j l) s = some sj ∧ OwnS lo (Ex X W2 wr (.slice y1 sj.length y3)) wr sj (.slice y1 sj.length y3) xsj ∧ Fr W2 wr (Value.slice z1 s.length z3).ownBlock none ∧ Mv W2 (.slice z1 s.length z3) (.slice y1 sj.length y3)) (fun _ i _ => Fo.len k - (intOf i).toNat)
      case atStart => exact ⟨0, s, z1, z3, xs, Nat.zero_le _, rfl, rfl, rfl, Hbeg.out.1, Hbeg.out.2.1, Hbeg.out.2.2⟩
      case round =>
        obtain ⟨j, sj, y1, y3, xsj, hj, rfl, rfl, hex, hOj, hFj, hMj⟩ := hrel
        have Hex := hide hex
        have HOj := hide hOj
        have HFj := hide hFj
        have HMj := hide hMj
        clear hex hOj hFj hMj Hbeg
        have hs3 := HFj.out.size
        by_cases hlt : j < Fo.len k
        · have hlt' : (j : Int) < (Fo.len k : Int) := by omega
          have hlt2 : (j : Int) < (Fo.len l : Int) := by omega
          obtain ⟨had', hXb⟩ := had (by omega)
          obtain ⟨hud', hXu⟩ := hud (by omega)
          subst had' hud'
          have Hkeep : Hid (∀ q, X q → wr.heap[q]? = w.heap[q]?) := fun q hq => by
            have h1 := HO.out.off q hq
            rw [HFj.out.block q (by omega) h1.2 (by simp), HB2.out.block q h1.1]
          obtain ⟨⟨⟨pv, pn⟩, pk⟩, hp⟩ : ∃ y, k.list[j]? = some y := ⟨k.list[j]'(by rw [Hl.out]; exact hlt), by simp⟩
          obtain ⟨⟨⟨tv, tn⟩, tk⟩, ht⟩ : ∃ y, l.list[j]? = some y := ⟨l.list[j]'(by rw [Hl2.out]; omega), by simp⟩
          obtain ⟨c0, c1, pa, c2, hSp⟩ := HF.out.at hp
          obtain ⟨d0, d1, ta, d2, hSt⟩ := HG.out.at ht
          have c0' := (World.cell?_of_block (a := ⟨b, o + j * 3, none⟩) (Hkeep.out b hXb)).trans c0
          have c1' := (World.cell?_of_block (a := ⟨b, o + j * 3 + 1, none⟩) (Hkeep.out b hXb)).trans c1
          have c2' := (World.cell?_of_block (a := ⟨b, o + j * 3 + 2, none⟩) (Hkeep.out b hXb)).trans c2
          have d0' := (World.cell?_of_block (a := ⟨ub, uo + j * 3, none⟩) (Hkeep.out ub hXu)).trans d0
          have d1' := (World.cell?_of_block (a := ⟨ub, uo + j * 3 + 1, none⟩) (Hkeep.out ub hXu)).trans d1
          have d2' := (World.cell?_of_block (a := ⟨ub, uo + j * 3 + 2, none⟩) (Hkeep.out ub hXu)).trans d2
          have HSp := hide ((hSp.kept Hkeep.out).wide (Y := Ex X W2 wr (.slice y1 sj.length y3)) (fun q hq => .inl hq))
          have HSt := hide ((hSt.kept Hkeep.out).wide (Y := Ex X W2 wr (.slice y1 sj.length y3)) (fun q hq => .inl hq))
          obtain ⟨pa1, pc, pb, po, rfl, -, -, -, -⟩ := hSp
          obtain ⟨ta1, tc, tb, t4, rfl, -, -, -, -⟩ := hSt
          have e2 : wr.cell? ⟨w.heap.size + 1, 2, none⟩ = some (.slice (some ⟨ub, uo, none⟩) (Fo.len l) uc) := by
            rw [World.cell?_of_block (a := ⟨w.heap.size + 1, 2, none⟩) (HFj.out.block (w.heap.size + 1) (by omega) (fun e => by have := Hnv.out _ e.symm; omega) (by simp))]
            exact Hr2.out
          have Hok2 : Hid (okT ((tv, tn), tk)) := ok_mem Hok.out.2 (List.mem_of_getElem? ht)
          have Hnar2 : Hid (narT ((tv, tn), tk)) := nar_mem Hnar.out.2 (List.mem_of_getElem? ht)
          have Hbd : Hid ((sj.length + tszR pk) * 48 ≤ 140737488355328) := by
            have h1 := extF_len Hex.out
            have h2 := sizesR_take j k
            rw [hp] at h2
            simp only at h2
            unfold tszR at h2 hlen
            unfold tszR Hid
            omega
          have Hstep : Hid (extF (Fo.take (j + 1) k) (Fo.take (j + 1) l) s = extT sj ((pv, pn), pk) ((tv, tn), tk)) := by
            rw [Hid, ext_snoc s hp ht, Hex.out]; rfl
          have Hp := hide hp
          have hub : ub < wr.heap.size := World.block_lt_of_cell? _ _ d0'
          clear c0 c1 c2 d0 d1 d2 hp ht had hud hXb hXu
          go_upto_region 14 with fail
          generalize hwa : wr.alloc (.cells #[.bool pv, .int .i64 pn, .slice pa1 (Fo.len pk) pc] 33) = wa
          have a0 : wa.cell? ⟨wr.heap.size, 0, none⟩ = some (.bool pv) := by rw [← hwa]; exact new_cell rfl
          have a1 : wa.cell? ⟨wr.heap.size, 1, none⟩ = some (.int .i64 pn) := by rw [← hwa]; exact new_cell rfl
          have a2 : wa.cell? ⟨wr.heap.size, 2, none⟩ = some (.slice pa1 (Fo.len pk) pc) := by rw [← hwa]; exact new_cell rfl
          have hba : Below wr.heap.size wr wa := by rw [← hwa]; exact below_alloc _ _
          have f0 := grow_cell hba _ _ d0'
          have f1 := grow_cell hba _ _ d1'
          have f2 := grow_cell hba _ _ d2'
          have f3 := grow_cell hba _ _ e2
          have Hba : Hid (Below wr.heap.size wr wa.drew) := hba.trans (Below.refl _ _).drew
          have hcall : Calls Try.prog 57 #[.slice y1 sj.length y3, .agg #[.bool pv, .int .i64 pn, .slice pa1 (Fo.len pk) pc], .agg #[.bool tv, .int .i64 tn, .slice ta1 (Fo.len tk) tc]] wa.drew (ExtPost lo (Ex X W2 wr (.slice y1 sj.length y3)) wa.drew sj (.slice y1 sj.length y3) ((pv, pn), pk) ((tv, tn), tk)) :=
            HI.out ((pv, pn), pk) (List.mem_of_getElem? Hp.out) lo _ sj _ xsj (tv, tn) tk _ _ wa.drew (HOj.out.below Hba.out) (by have := Hba.out.size; omega) (HSp.out.grow (fun q hq => (HOj.out.off q hq).1) Hba.out) (HSt.out.grow (fun q hq => (HOj.out.off q hq).1) Hba.out) Hok2.out Hnar2.out Hbd.out
          have Hcall := hide hcall
          clear hcall hwa c0' c1' c2' d0' d1' d2' e2 hba
          go_region_with (first
            | (go_at_call 57; refine Hcall.out.mono ?_; rintro e w2 ⟨hf2, x1, xm, x3, ok, rfl, hno, hyes⟩))
          all_goals
            cases ok
            · have Hf : Hid (ExtPost lo X w s (.slice z1 s.length z3) ((false, yn), k) ((false, yn), l) (.returned (.tuple #[.slice none 0 0, .bool false])) w2) := by
                refine ext_fails ?_ (Hres.out.trans (ext_none (j := j + 1) Hll.out.symm (Hstep.out.trans (hno rfl).1)))
                refine (Fr.of_below HB2.out _ _).trans ((HFj.out).trans ((Fr.of_below Hba.out _ _).trans hf2 (fun q _ h => h)) ?_) (fun q _ h => h)
                intro q hq h
                rcases h with h | h
                · rcases HMj.out with e | e
                  · rw [e] at h; exact .inl h
                  · have := e q h.symm; omega
                · cases h
              clear hno hyes hf2
              go_wp2_with fail
              go_ret2
              exact Hf.out
            · obtain ⟨s2, xs2, h1, rfl, h3, h4⟩ := hyes rfl
              have Hn := hide (own_next HFj.out HMj.out (fun q hq => by have := HO.out.off q hq; exact ⟨by omega, this.2⟩) Hba.out h3 hf2 h4)
              have Hs2 : Hid (extF (Fo.take (j + 1) k) (Fo.take (j + 1) l) s = some s2) := Hstep.out.trans h1
              clear hno hyes hf2 h1 h3 h4
              go_wp2_with fail
              go_roundw
              case rel => exact ⟨j + 1, s2, x1, x3, xs2, by omega, by go_num, rfl, Hs2.out, Hn.out.1, Hn.out.2.1, Hn.out.2.2⟩
              case measure => simp [intOf]; omega
        · have Hf : Hid (ExtPost lo X w s (.slice z1 s.length z3) ((false, yn), k) ((false, yn), l) (.returned (.tuple #[.slice y1 sj.length y3, .bool true])) wr) := by
            refine ext_holds (Hres.out.trans ?_) (own_back HB2.out HOj.out HFj.out HMj.out)
            have e : j = Fo.len k := by omega
            have := Hex.out
            rw [e, take_all, ← Hll.out, take_all] at this
            exact this
          go_wp2_with fail
          go_ret2
          exact Hf.out
    · have Hres : Hid (extT s ((false, n), k) ((yv, yn), l) = none) := extT_no hc
      have Hf : Hid (∀ w', Below w.heap.size w w' → ExtPost lo X w s (.slice z1 s.length z3) ((false, n), k) ((yv, yn), l) (.returned (.tuple #[.slice none 0 0, .bool false])) w') := fun w' hb => ext_fails (Fr.of_below hb _ _) Hres.out
      have Hb : Hid (Below w.heap.size w ((w.alloc (.cells #[.bool false, .int .i64 n, .slice ad (Fo.len k) ac] 33)).alloc (.cells #[.bool yv, .int .i64 yn, .slice ud (Fo.len l) uc] 33))) := (below_alloc _ _).alloc (by simp) _
      cases yv
      · by_cases hn : yn = n
        · have hl : ¬ Fo.len l = Fo.len k := fun e => hc ⟨rfl, hn, e⟩
          have hnb : (yn != n) = false := by simp [hn]
          have hlb : ((Fo.len l : Int) != (Fo.len k : Int)) = true := by simp; omega
          clear hc hn hl
          go_enter Try.func57, Try.ntmps57
          go_wp2_with fail
          go_ret2
          exact Hf.out _ Hb.out
        · have hnb : (yn != n) = true := by simp [hn]
          clear hc hn
          go_enter Try.func57, Try.ntmps57
          go_wp2_with fail
          go_ret2
          exact Hf.out _ Hb.out
      · clear hc
        go_enter Try.func57, Try.ntmps57
        go_wp2_with fail
        go_ret2
        exact Hf.out _ Hb.out
  · clear had hud
    go_enter Try.func57, Try.ntmps57
    go_wp2_with fail
    generalize hW2 : (w.alloc (.cells #[.bool true, .int .i64 n, .slice ad (Fo.len k) ac] 33)).alloc (.cells #[.bool yv, .int .i64 yn, .slice ud (Fo.len l) uc] 33) = W2
    have hs2 : W2.heap.size = w.heap.size + 1 + 1 := by rw [← hW2]; simp
    have hB2 : Below w.heap.size w W2 := by rw [← hW2]; exact (below_alloc _ _).alloc (by simp) _
    have q1 : W2.cell? ⟨w.heap.size, 1, none⟩ = some (.int .i64 n) := by rw [← hW2, World.cell?_alloc_lt _ _ _ (by simp)]; exact new_cell rfl
    have r0 : W2.cell? ⟨w.heap.size + 1, 0, none⟩ = some (.bool yv) := by rw [← hW2]; exact new_cell (World.size_alloc _ _)
    have r1 : W2.cell? ⟨w.heap.size + 1, 1, none⟩ = some (.int .i64 yn) := by rw [← hW2]; exact new_cell (World.size_alloc _ _)
    have r2 : W2.cell? ⟨w.heap.size + 1, 2, none⟩ = some (.slice ud (Fo.len l) uc) := by rw [← hW2]; exact new_cell (World.size_alloc _ _)
    clear hW2
    refine (findB_any s n _ W2 (HO.out.sub.below hB2)).mono ?_
    rintro e w1 ⟨i, rfl, hf, hb⟩
    have q1' := grow_cell hb _ _ q1
    have r0' := grow_cell hb _ _ r0
    have r1' := grow_cell hb _ _ r1
    have r2' := grow_cell hb _ _ r2
    have hB3 := below_step hB2 hb
    have HB3 : Hid (Below w.heap.size w w1.drew) := hB3.trans (Below.refl _ _).drew
    have hs3 := hb.size
    have HU1 := hide (HU.out.toS.below hB3).drew
    clear hb q1 r0 r1 r2 hB2
    rcases hf with ⟨rfl, hlk⟩ | ⟨j, ⟨⟨tv, tn⟩, tk⟩, rfl, hj, hlk⟩
    · have Hres : Hid (extT s ((true, n), k) ((yv, yn), l) = some (s ++ [(n, ((yv, yn), l))])) := extT_new hlk
      obtain ⟨i52, hi52, hz0, hz1, hz2⟩ := info_parts Try.info73
      have hn1 : s.length + 1 ≤ maxLen := by unfold maxLen; omega
      have hn2 : (s.length + 1) * 48 ≤ 140737488355328 := by omega
      clear hlk
      go_upto_region 4 with fail
      have hcall : Calls Try.prog 56 #[.agg #[.bool yv, .int .i64 yn, .slice ud (Fo.len l) uc]] w1.drew fun e w' => ∃ (b1 : Option Addr) (b2 b3 : Nat), e = .returned (.agg #[.bool yv, .int .i64 yn, .slice b1 b2 b3]) ∧ OwnV w' w1.heap.size w'.heap.size l (.slice b1 b2 b3) ∧ Below w1.heap.size w1 w' := by
        refine (ownB_any (yv, yn) l _ w1.drew HU1.out Hnar.out.1 Hnar.out.2).mono ?_
        rintro e w' ⟨a', rfl, hO', hb'⟩
        rw [subT_vr Hok.out] at hO' ⊢
        obtain ⟨b1, b2, b3, rfl⟩ := slice_of_sin hO'.toS
        exact ⟨b1, b2, b3, rfl, hO', (Below.refl _ _).drew.trans hb'⟩
      have Hcall := hide hcall
      clear hcall
      go_region_law (first
        | (refine step_append_lies _ (by rfl) _ _ _ (by rfl) lo 73 i52 (.agg #[.int .i64 0, .bool false, .int .i64 0, .slice none 0 0]) 4 48 Try.underlying46 hi52 hz0 hz1 hz2 rfl (by decide) (.slice z1 s.length z3) s.length xs (by rfl) Hown3.out ⟨w3.heap.size, 0, none⟩ 1 1 [.int .i64 n, .bool yv, .int .i64 yn, .slice b1 b2 b3] (by rfl) (by rfl) Hnews.out (by simp [Value.oneCell']) (by decide) hn1 hn2 (by simp; omega) (w3.heap.size + 1) (by simp) ?_; intro g cap w4 ho4 hg4 hat4 hlt4)
        | (go_simp; go_at_call 56; refine Hcall.out.mono ?_; rintro e w3 ⟨b1, b2, b3, rfl, hO3, hb3⟩
           have q1'' := grow_cell hb3 _ _ q1'; have hs4 := hb3.size
           have Hown3 : Hid ((w3.alloc (.cells #[.int .i64 n, .bool yv, .int .i64 yn, .slice b1 b2 b3] 73)).ownsRow lo 73 4 (.slice z1 s.length z3) s.length xs) := (owns_keep HO.out.row (fun g hg => by have h := owns_at HO.out.row g hg; rw [Below.heap_alloc _ _ _ (by omega), hb3.block g (by omega), hB3.block g h.2]))
           have Hnews : Hid (∀ j u, [Value.int .i64 n, .bool yv, .int .i64 yn, .slice b1 b2 b3][j]? = some u → (w3.alloc (.cells #[.int .i64 n, .bool yv, .int .i64 yn, .slice b1 b2 b3] 73)).cell? ((⟨w3.heap.size, 0, none⟩ : Addr).add j) = some u) := (World.news_of_block (cs := #[.int .i64 n, .bool yv, .int .i64 yn, .slice b1 b2 b3]) (heap_alloc_new w3 _))))
      all_goals
        have Hst := hide (own_snoc (n := n) (t := ((yv, yn), l)) HO.out (below_step hB3 hb3) (hO3.toB (fun q q1 q2 => ⟨by omega, q2⟩)) ho4 hg4 hat4 hlt4)
        have Hf : Hid (ExtPost lo X w s (.slice z1 s.length z3) ((true, n), k) ((yv, yn), l) (.returned (.tuple #[.slice (some ⟨g, 0, none⟩) (s.length + 1) cap, .bool true])) w4) := by
          have := ext_holds (z1 := some ⟨g, 0, none⟩) (z3 := cap) Hres.out (by simpa using Hst.out)
          exact hide (by simpa using this)
        clear ho4 hg4 hat4 hlt4 hO3 hb3 Hown3 Hnews hi52 hz0 hz1 hz2 Hst
        go_wp2_with fail
        go_ret2
        exact Hf.out
    · have Hres : Hid (extT s ((true, n), k) ((yv, yn), l) = if sameT (tv, tn) tk (yv, yn) l then some s else none) := extT_old hlk
      have hSub := HO.out.sub.below hB3
      obtain ⟨sa, sc, sb, so, hsl, hsa, hslc, hscm, hP⟩ := hSub
      simp only [Value.slice.injEq] at hsl
      obtain ⟨rfl, -, rfl⟩ := hsl
      have hjl : j < s.length := by
        rcases Nat.lt_or_ge j s.length with h | h
        · exact h
        · rw [List.getElem?_eq_none h] at hj; cases hj
      have ha : z1 = some ⟨sb, so, none⟩ := hsa (by omega)
      subst ha
      obtain ⟨c0, c1, c2, yv', c3, hSy⟩ := hP.at hj
      have HSy := hide hSy.drew
      obtain ⟨ya, yc, yb, yo, rfl, -, -, -, -⟩ := hSy
      have hj0 : (0 : Int) ≤ (j : Int) := by omega
      have hj1 : (j : Int) < (s.length : Int) := by omega
      unfold maxLen at hscm
      clear hlk hj hsa hP
      go_upto_region 5 with fail
      go_region_with (first
        | (go_at_call 70; refine (same_any (tv, tn) tk (yv, yn) l _ _ w1.drew HSy.out HU1.out).mono ?_; rintro e w2 ⟨rfl, hb2⟩))
      all_goals
        have Hb2 : Hid (Below w.heap.size w w2) := HB3.out.trans (hb2.mono HB3.out.size)
        clear hb2
        cases hsm : sameT (tv, tn) tk (yv, yn) l
        · have Hf : Hid (ExtPost lo X w s (.slice (some ⟨sb, so, none⟩) s.length z3) ((true, n), k) ((yv, yn), l) (.returned (.tuple #[.slice none 0 0, .bool false])) w2) := by
            refine ext_fails (Fr.of_below Hb2.out _ _) ?_
            rw [Hres.out, hsm]; rfl
          clear hsm
          go_wp2_with fail
          go_ret2
          exact Hf.out
        · have Hf : Hid (ExtPost lo X w s (.slice (some ⟨sb, so, none⟩) s.length z3) ((true, n), k) ((yv, yn), l) (.returned (.tuple #[.slice (some ⟨sb, so, none⟩) s.length z3, .bool true])) w2) := by
            refine ext_holds (s' := s) (xs' := xs) ?_ ⟨?_, Fr.of_below Hb2.out _ _, .inl rfl⟩
            · rw [Hres.out, hsm]; rfl
            · refine (HO.out.below Hb2.out).wide (fun q hq => .inl hq) (fun q hq => ?_)
              rcases hq with hq | hq
              · have := HO.out.off q hq; exact ⟨Nat.lt_of_lt_of_le this.1 Hb2.out.size, this.2⟩
              · exact hq.2
          clear hsm
          go_wp2_with fail
          go_ret2
          exact Hf.out
end Go.Proofs.Ytlgnpiphaeoeiad

namespace Go.Proofs.Ytlgnpiphaeoeiad
open Go.RowKit Go.Deep Go.ChangeShapes Go.WideShapes
attribute [local go_sem ↓] Go.wp_at_zero Go.wp_at_succ
def set4 (w : World) (b o : Nat) (x y z u : Value) : World := (((w.setCell ⟨b, o, none⟩ x).setCell ⟨b, o + 1, none⟩ y).setCell ⟨b, o + 2, none⟩ z).setCell ⟨b, o + 3, none⟩ u
def lset4 (xs : List Value) (o : Nat) (x y z u : Value) : List Value := (((xs.set o x).set (o + 1) y).set (o + 2) z).set (o + 3) u
theorem set4_heap {w : World} {b o : Nat} {x y z u : Value} {q : Nat} (h : q ≠ b) : (set4 w b o x y z u).heap[q]? = w.heap[q]? := by
  unfold set4
  rw [Below.heap_setCell _ _ _ _ h, Below.heap_setCell _ _ _ _ h, Below.heap_setCell _ _ _ _ h, Below.heap_setCell _ _ _ _ h]
theorem set4_size {w : World} {b o : Nat} {x y z u : Value} : (set4 w b o x y z u).heap.size = w.heap.size := by simp [set4, World.setCell]
theorem set4_below {B : Nat} {w w1 : World} {b o : Nat} {x y z u : Value} (h : Below B w w1) (hb : B ≤ b) : Below B w (set4 w1 b o x y z u) := (((h.setCell hb _).setCell hb _).setCell hb _).setCell hb _
theorem set4_row {w : World} {lo : Nat} {e : TypeId} {size g n cap o : Nat} {xs : List Value} {x y z u : Value} (h : w.ownsRow lo e size (.slice (some ⟨g, 0, none⟩) n cap) n xs) :
    (set4 w g o x y z u).ownsRow lo e size (.slice (some ⟨g, 0, none⟩) n cap) n (lset4 xs o x y z u) := ((((h.stored o x).1).stored (o + 1) y).1.stored (o + 2) z).1.stored (o + 3) u |>.1
theorem lset4_take {x y z u : Value} : ∀ {j : Nat} {xs : List Value}, (j + 1) * 4 ≤ xs.length → (lset4 xs (j * 4) x y z u).take ((j + 1) * 4) = xs.take (j * 4) ++ [x, y, z, u]
  | 0, xs, h => by
    match xs, h with
    | [], h => simp at h
    | [_], h => simp at h
    | [_, _], h => simp at h
    | [_, _, _], h => simp at h
    | a :: b :: c :: d :: ys, _ => simp [lset4]
  | j + 1, xs, h => by
    match xs, h with
    | [], h => simp at h
    | [_], h => simp only [List.length_cons, List.length_nil] at h; omega
    | [_, _], h => simp only [List.length_cons, List.length_nil] at h; omega
    | [_, _, _], h => simp only [List.length_cons, List.length_nil] at h; omega
    | a :: b :: c :: d :: ys, h =>
      have ih := lset4_take (x := x) (y := y) (z := z) (u := u) (j := j) (xs := ys) (by simp only [List.length_cons] at h; omega)
      have e1 : (j + 1) * 4 = j * 4 + 4 := by omega
      have e2 : (j + 1 + 1) * 4 = (j + 1) * 4 + 4 := by omega
      have e3 : lset4 (a :: b :: c :: d :: ys) ((j + 1) * 4) x y z u = a :: b :: c :: d :: lset4 ys (j * 4) x y z u := by
        rw [e1]
        simp [lset4]
      rw [e3, e2]
      simp only [List.take_succ_cons]
      rw [ih, e1]
      simp
def CopyRel (lo g : Nat) (W2 : World) (s : Sb) (j : Nat) (wr : World) : Prop :=
  Below g W2 wr ∧ g < wr.heap.size ∧ ∃ xs, wr.ownsRow lo 73 4 (.slice (some ⟨g, 0, none⟩) s.length s.length) s.length xs ∧ PC (fun q => q < wr.heap.size ∧ q ≠ g) wr (s.take j) (xs.take (j * 4))
theorem copy_step {lo g : Nat} {W2 wr w2 : World} {s : Sb} {j : Nat} {n : Int} {t : Tm} {a : Value} (h : CopyRel lo g W2 s j wr) (hj : s[j]? = some (n, t)) (hb : Below wr.heap.size wr w2) (hO : SB (fun q => wr.heap.size ≤ q ∧ q < w2.heap.size) w2 t.2 a) :
    CopyRel lo g W2 s (j + 1) (set4 w2 g (j * 4) (.int .i64 n) (.bool t.1.1) (.int .i64 t.1.2) a) := by
  obtain ⟨hB, hg, xs, hr, hP⟩ := h
  have hs := hb.size
  have hW := hB.size
  have hjl : j < s.length := by
    rcases Nat.lt_or_ge j s.length with h | h
    · exact h
    · rw [List.getElem?_eq_none h] at hj; cases hj
  refine ⟨set4_below (hB.trans ((hb.mono (Nat.le_of_lt hg)))) (Nat.le_refl _), by rw [set4_size]; omega, _, set4_row (owns_keep hr (fun q hq => hb.block q (owns_at hr q hq).2)), ?_⟩
  rw [lset4_take (by rw [hr.1]; omega), List.take_add_one, hj]
  refine PC.append (PC.one (t := t) ?_) ?_
  · refine hO.frame (fun q hq => ⟨by rw [set4_size]; exact hq.2, by omega⟩) (fun q i hq => World.cell?_of_block (set4_heap (by show q ≠ g; omega)))
  · refine hP.frame (fun q hq => ⟨by rw [set4_size]; omega, hq.2⟩) (fun q i hq => World.cell?_of_block ?_)
    rw [set4_heap hq.2, hb.block q hq.1]
def MorePost (w : World) (s : Sb) (t u : Tm) (e : Ending) (w' : World) : Prop :=
  Below w.heap.size w w' ∧ ∃ (z1 : Option Addr) (m z3 : Nat) (ok : Bool), e = .returned (.tuple #[.slice z1 m z3, .bool ok]) ∧ (ok = false → extT s t u = none ∧ z1 = none ∧ m = 0 ∧ z3 = 0) ∧
    (ok = true → ∃ s', extT s t u = some s' ∧ m = s'.length ∧ SubIn w' s' (.slice z1 m z3))
set_option maxRecDepth 100000 in
set_option maxHeartbeats 2000000 in
theorem more_any (s : Sb) (vs : Value) (x : Bool × Int) (k : Fo) (a : Value) (y : Bool × Int) (l : Fo) (c : Value) (w : World) (hV : SubIn w s vs) (hs : ∀ p ∈ s, narT p.2 ∧ okT p.2) (hS : SIn w k a) (hU : SIn w l c) (hok : okT (y, l)) (hnar : narT (y, l)) (hlen : (s.length + tszR k) * 48 ≤ 140737488355328) :
    Calls Try.prog 40 #[vs, .agg #[.bool x.1, .int .i64 x.2, a], .agg #[.bool y.1, .int .i64 y.2, c]] w (MorePost w s (x, k) (y, l)) := by
  obtain ⟨xv, xn⟩ := x
  obtain ⟨yv, yn⟩ := y
  have HS := hide hS
  have HU := hide hU
  have Hs := hide hs
  have Hok := hide hok
  have Hnar := hide hnar
  obtain ⟨ad, ac, b, o, rfl, -, -, -, -⟩ := hS
  obtain ⟨ud, uc, ub, uo, rfl, -, -, -, -⟩ := hU
  obtain ⟨vd, vc, vb, vo, rfl, hvd, hvlc, hvcm, hP⟩ := hV
  unfold maxLen at hvcm
  have HP := hide hP
  clear hs hok hnar hP
  obtain ⟨i52, hi, hz0, hz1, hz2⟩ := info_parts Try.info73
  have hmk := fun w : World => run_make (P := Try.prog) w 46 73 i52 _ Try.underlying46 hi hz0 .i64 .i64 (s.length : Int) (s.length : Int) (by omega) (by omega) (by rw [hz2]; omega) (by omega)
  rw [hz1] at hmk
  simp only [Int.toNat_natCast] at hmk
  go_enter Try.func40, Try.ntmps40
  go_wp2_with fail
  clear hmk hi hz0 hz1 hz2
  generalize hW2 : (w.alloc (.cells #[.bool xv, .int .i64 xn, .slice ad (Fo.len k) ac] 33)).alloc (.cells #[.bool yv, .int .i64 yn, .slice ud (Fo.len l) uc] 33) = W2
  have hs2 : W2.heap.size = w.heap.size + 1 + 1 := by rw [← hW2]; simp
  have hB2 : Below w.heap.size w W2 := by rw [← hW2]; exact (below_alloc _ _).alloc (by simp) _
  have p0 : W2.cell? ⟨w.heap.size, 0, none⟩ = some (.bool xv) := by rw [← hW2, World.cell?_alloc_lt _ _ _ (by simp)]; exact new_cell rfl
  have p1 : W2.cell? ⟨w.heap.size, 1, none⟩ = some (.int .i64 xn) := by rw [← hW2, World.cell?_alloc_lt _ _ _ (by simp)]; exact new_cell rfl
  have p2 : W2.cell? ⟨w.heap.size, 2, none⟩ = some (.slice ad (Fo.len k) ac) := by rw [← hW2, World.cell?_alloc_lt _ _ _ (by simp)]; exact new_cell rfl
  have r0 : W2.cell? ⟨w.heap.size + 1, 0, none⟩ = some (.bool yv) := by rw [← hW2]; exact new_cell (World.size_alloc _ _)
  have r1 : W2.cell? ⟨w.heap.size + 1, 1, none⟩ = some (.int .i64 yn) := by rw [← hW2]; exact new_cell (World.size_alloc _ _)
  have r2 : W2.cell? ⟨w.heap.size + 1, 2, none⟩ = some (.slice ud (Fo.len l) uc) := by rw [← hW2]; exact new_cell (World.size_alloc _ _)
  have HQ := hide (And.intro p0 (And.intro p1 (And.intro p2 (And.intro r0 (And.intro r1 r2)))))
  have HB2 := hide hB2
  have Hs2 := hide hs2
  have H0 : Hid (CopyRel w.heap.size (w.heap.size + 1 + 1) W2 s 0 (W2.alloc (.cells (madeCells #[.int .i64 0, .bool false, .int .i64 0, .slice none 0 0] (s.length * 4)) 73))) := by
    refine ⟨(Below.refl _ _).alloc (by omega) _, by simp; omega, (madeCells #[.int .i64 0, .bool false, .int .i64 0, .slice none 0 0] (s.length * 4)).toList, ?_, by simp [PC]⟩
    have := World.ownsRow_lit (base := w.heap.size) (e := 73) (size := 4) W2 (madeCells #[.int .i64 0, .bool false, .int .i64 0, .slice none 0 0] (s.length * 4)) s.length (by omega) (by unfold maxLen; omega) (by rw [size_madeCells])
    rw [hs2] at this
    exact this
  clear p0 p1 p2 r0 r1 r2 hB2 hs2 hW2
  go_loopw [16] (fun i wr => ∃ j : Nat, j ≤ s.length ∧ i = .int .i64 j ∧ CopyRel w.heap.size (w.heap.size + 1 + 1) W2 s j wr) (fun i _ => s.length - (intOf i).toNat)
  case atStart => exact ⟨0, Nat.zero_le _, rfl, H0.out⟩
  case round =>
    obtain ⟨j, hj, rfl, hR⟩ := hrel
    have HR := hide hR
    obtain ⟨hB, hg, xs, hrow, hPC⟩ := hR
    have hs2 := Hs2.out
    have hBw : Below w.heap.size w wr := HB2.out.trans (hB.mono (by omega))
    clear H0
    by_cases hlt : j < s.length
    · have hlt' : (j : Int) < (s.length : Int) := by omega
      obtain ⟨⟨m, ⟨tv, tn⟩, tk⟩, hy⟩ : ∃ y, s[j]? = some y := ⟨s[j], by simp [hlt]⟩
      obtain ⟨c0, c1, c2, tv', c3, hSy⟩ := (HP.out.below hBw).at hy
      have HSy := hide hSy
      obtain ⟨ya, yc, yb, yo, rfl, -, -, -, -⟩ := hSy
      have ha : vd = some ⟨vb, vo, none⟩ := hvd (by omega)
      subst ha
      have Hy := hide hy
      have Hn := hide (Hs.out _ (List.mem_of_getElem? hy))
      have hxl := hrow.1
      have e0 : ∃ u, wr.cell? ⟨w.heap.size + 1 + 1, j * 4, none⟩ = some u := ⟨xs[j * 4]'(by omega), by rw [hrow.cellAt (j * 4) (by omega), List.getElem?_eq_getElem]⟩
      have e1 : ∃ u, wr.cell? ⟨w.heap.size + 1 + 1, j * 4 + 1, none⟩ = some u := ⟨xs[j * 4 + 1]'(by omega), by rw [hrow.cellAt (j * 4 + 1) (by omega), List.getElem?_eq_getElem]⟩
      have e2 : ∃ u, wr.cell? ⟨w.heap.size + 1 + 1, j * 4 + 2, none⟩ = some u := ⟨xs[j * 4 + 2]'(by omega), by rw [hrow.cellAt (j * 4 + 2) (by omega), List.getElem?_eq_getElem]⟩
      have e3 : ∃ u, wr.cell? ⟨w.heap.size + 1 + 1, j * 4 + 3, none⟩ = some u := ⟨xs[j * 4 + 3]'(by omega), by rw [hrow.cellAt (j * 4 + 3) (by omega), List.getElem?_eq_getElem]⟩
      obtain ⟨u0, e0⟩ := e0
      obtain ⟨u1, e1⟩ := e1
      obtain ⟨u2, e2⟩ := e2
      obtain ⟨u3, e3⟩ := e3
      have ff : ∀ i, wr.frozen? ⟨w.heap.size + 1 + 1, i, none⟩ = false := fun i => hrow.frozenAt i
      clear hy hvd hB hrow hPC hxl
      go_upto_region 5 with fail
      generalize hwa : wr.alloc (.cells #[.int .i64 m, .bool tv, .int .i64 tn, .slice ya (Fo.len tk) yc] 73) = wa
      have a0 : wa.cell? ⟨wr.heap.size, 0, none⟩ = some (.int .i64 m) := by rw [← hwa]; exact new_cell rfl
      have a1 : wa.cell? ⟨wr.heap.size, 1, none⟩ = some (.bool tv) := by rw [← hwa]; exact new_cell rfl
      have a2 : wa.cell? ⟨wr.heap.size, 2, none⟩ = some (.int .i64 tn) := by rw [← hwa]; exact new_cell rfl
      have a3 : wa.cell? ⟨wr.heap.size, 3, none⟩ = some (.slice ya (Fo.len tk) yc) := by rw [← hwa]; exact new_cell rfl
      have hba : Below wr.heap.size wr wa := by rw [← hwa]; exact below_alloc _ _
      have hsa := hba.size
      have e0' := grow_cell hba _ _ e0
      have e1' := grow_cell hba _ _ e1
      have e2' := grow_cell hba _ _ e2
      have e3' := grow_cell hba _ _ e3
      have ff' : ∀ i, wa.frozen? ⟨w.heap.size + 1 + 1, i, none⟩ = false := fun i => (hba.frozen hg).trans (ff i)
      have hlt4 : w.heap.size + 1 + 1 < wa.heap.size := by omega
      have hcall : Calls Try.prog 56 #[.agg #[.bool tv, .int .i64 tn, .slice ya (Fo.len tk) yc]] wa.drew fun e w' => ∃ (b1 : Option Addr) (b2 b3 : Nat), e = .returned (.agg #[.bool tv, .int .i64 tn, .slice b1 b2 b3]) ∧ OwnV w' wa.heap.size w'.heap.size tk (.slice b1 b2 b3) ∧ Below wa.heap.size wa w' := by
        refine (ownB_any (tv, tn) tk _ wa.drew (HSy.out.below hba).drew Hn.out.1.1 Hn.out.1.2).mono ?_
        rintro e w' ⟨a', rfl, hO', hb'⟩
        rw [subT_vr Hn.out.2] at hO' ⊢
        obtain ⟨b1, b2, b3, rfl⟩ := slice_of_sin hO'.toS
        exact ⟨b1, b2, b3, rfl, hO', (Below.refl _ _).drew.trans hb'⟩
      have Hcall := hide hcall
      have Hba := hide hba
      clear hcall hwa c0 c1 c2 c3 e0 e1 e2 e3 ff hba
      go_region_with (first
        | (go_at_call 56; refine Hcall.out.mono ?_; rintro e w2 ⟨b1, b2, b3, rfl, hO2, hb2⟩; have a0' := grow_cell hb2 _ _ a0; have e0'' := grow_cell hb2 _ _ e0'; have e1'' := grow_cell hb2 _ _ e1'; have e2'' := grow_cell hb2 _ _ e2'; have e3'' := grow_cell hb2 _ _ e3'; have ff'' : ∀ i, w2.frozen? ⟨w.heap.size + 1 + 1, i, none⟩ = false := (fun i => (hb2.frozen hlt4).trans (ff' i))))
      all_goals
        have Hstep : Hid (CopyRel w.heap.size (w.heap.size + 1 + 1) W2 s (j + 1) (set4 w2 (w.heap.size + 1 + 1) (j * 4) (.int .i64 m) (.bool tv) (.int .i64 tn) (.slice b1 b2 b3))) := copy_step (n := m) (t := ((tv, tn), tk)) (a := .slice b1 b2 b3) HR.out Hy.out (below_step Hba.out hb2) (hO2.toB (fun q q1 q2 => ⟨by omega, q2⟩))
        clear hO2 hb2 a0' e0' e1' e2' e3' ff'
        go_wp2_with fail
        go_roundw
        case rel => exact ⟨j + 1, by omega, by go_num, Hstep.out⟩
        case measure => simp [intOf]; omega
    · have hje : j = s.length := by omega
      subst hje
      obtain ⟨q0, q1, q2, q3, q4, q5⟩ := HQ.out
      have p0 : wr.cell? ⟨w.heap.size, 0, none⟩ = some (.bool xv) := (hB.cell (by show w.heap.size < _; omega)).trans q0
      have p1 : wr.cell? ⟨w.heap.size, 1, none⟩ = some (.int .i64 xn) := (hB.cell (by show w.heap.size < _; omega)).trans q1
      have p2 : wr.cell? ⟨w.heap.size, 2, none⟩ = some (.slice ad (Fo.len k) ac) := (hB.cell (by show w.heap.size < _; omega)).trans q2
      have r0 : wr.cell? ⟨w.heap.size + 1, 0, none⟩ = some (.bool yv) := (hB.cell (by show w.heap.size + 1 < _; omega)).trans q3
      have r1 : wr.cell? ⟨w.heap.size + 1, 1, none⟩ = some (.int .i64 yn) := (hB.cell (by show w.heap.size + 1 < _; omega)).trans q4
      have r2 : wr.cell? ⟨w.heap.size + 1, 2, none⟩ = some (.slice ud (Fo.len l) uc) := (hB.cell (by show w.heap.size + 1 < _; omega)).trans q5
      have HOw : Hid (OwnS w.heap.size (fun q => q < wr.heap.size ∧ q ≠ w.heap.size + 1 + 1) wr s (.slice (some ⟨w.heap.size + 1 + 1, 0, none⟩) s.length s.length) xs) := by
        refine ⟨hrow, ?_, fun q hq => ⟨hq.1, fun e => ?_⟩⟩
        · rw [List.take_length, ← hrow.1, List.take_length] at hPC
          exact hPC
        · simp [Value.ownBlock] at e
          exact hq.2 e
      have HSB : Hid (SB (fun q => q < wr.heap.size ∧ q ≠ w.heap.size + 1 + 1) wr k (.slice ad (Fo.len k) ac)) := (HS.out.toB.grow (fun _ h => h) hBw).wide (fun q hq => ⟨by have := hBw.size; omega, by omega⟩)
      have HUB : Hid (SB (fun q => q < wr.heap.size ∧ q ≠ w.heap.size + 1 + 1) wr l (.slice ud (Fo.len l) uc)) := (HU.out.toB.grow (fun _ h => h) hBw).wide (fun q hq => ⟨by have := hBw.size; omega, by omega⟩)
      clear q0 q1 q2 q3 q4 q5 hrow hPC hB
      go_wp2_with fail
      refine (extend_any (xv, xn) k w.heap.size _ s _ xs (yv, yn) l _ _ wr HOw.out hBw.size HSB.out HUB.out Hok.out Hnar.out hlen).mono ?_
      rintro e w2 ⟨hf2, x1, xm, x3, ok, rfl, hno, hyes⟩
      have Hf : Hid (MorePost w s ((xv, xn), k) ((yv, yn), l) (.returned (.tuple #[.slice x1 xm x3, .bool ok])) w2) := by
        refine ⟨?_, x1, xm, x3, ok, rfl, hno, fun e => ?_⟩
        · refine hBw.trans (hf2.below hBw.size (fun g hg => ?_) (fun g hg => by cases hg))
          simp [Value.ownBlock] at hg
          omega
        · obtain ⟨s', xs', h1, h2, h3, _⟩ := hyes e
          subst h2
          exact ⟨s', h1, rfl, h3.sub⟩
      clear hf2 hno hyes
      go_wp2_with fail
      go_ret2
      exact Hf.out
set_option maxRecDepth 100000 in
set_option maxHeartbeats 400000 in
theorem match_any (x : Bool × Int) (k : Fo) (a : Value) (y : Bool × Int) (l : Fo) (c : Value) (w : World) (hS : SIn w k a) (hU : SIn w l c) (hok : okT (y, l)) (hnar : narT (y, l)) (hlen : tszR k * 48 ≤ 140737488355328) :
    Calls Try.prog 64 #[.agg #[.bool x.1, .int .i64 x.2, a], .agg #[.bool y.1, .int .i64 y.2, c]] w (MorePost w [] (x, k) (y, l)) := by
  obtain ⟨xv, xn⟩ := x
  obtain ⟨yv, yn⟩ := y
  have HS := hide hS
  have HU := hide hU
  have Hok := hide hok
  have Hnar := hide hnar
  obtain ⟨ad, ac, b, o, rfl, -, -, -, -⟩ := hS
  obtain ⟨ud, uc, ub, uo, rfl, -, -, -, -⟩ := hU
  clear hok hnar
  go_enter Try.func64, Try.ntmps64
  go_wp2_with fail
  generalize hW2 : (w.alloc (.cells #[.bool xv, .int .i64 xn, .slice ad (Fo.len k) ac] 33)).alloc (.cells #[.bool yv, .int .i64 yn, .slice ud (Fo.len l) uc] 33) = W2
  have hB2 : Below w.heap.size w W2 := by rw [← hW2]; exact (below_alloc _ _).alloc (by simp) _
  refine (more_any [] (.slice none 0 0) (xv, xn) k _ (yv, yn) l _ W2 (SubIn.nil _) (fun p hp => by simp at hp) (HS.out.below hB2) (HU.out.below hB2) Hok.out Hnar.out (by simpa using hlen)).mono ?_
  rintro e w2 ⟨hb2, x1, xm, x3, ok, rfl, hno, hyes⟩
  have Hf : Hid (MorePost w [] ((xv, xn), k) ((yv, yn), l) (.returned (.tuple #[.slice x1 xm x3, .bool ok])) w2) := ⟨below_step hB2 hb2, x1, xm, x3, ok, rfl, hno, hyes⟩
  clear hno hyes hb2
  go_wp2_with fail
  go_ret2
  exact Hf.out
end Go.Proofs.Ytlgnpiphaeoeiad

namespace Go.Proofs.Ytlgnpiphaeoeiad
open Go.RowKit Go.Deep Go.ChangeShapes Go.WideShapes
attribute [local go_sem ↓] Go.wp_at_zero Go.wp_at_succ
theorem fo_snoc : ∀ {T : Fo} {j : Nat} {x : Bool × Int} {k : Fo}, Fo.ok T → T.list[j]? = some (x, k) → Fo.snoc (Fo.take j T) x k = Fo.take (j + 1) T
  | .nil, _, _, _, _, h => by simp [Fo.list] at h
  | .node p q y l r, 0, x, k, hT, h => by
    simp only [Fo.list, List.getElem?_cons_zero, Option.some.injEq, Prod.mk.injEq] at h
    obtain ⟨rfl, rfl⟩ := h
    rw [ok_node] at hT
    obtain ⟨rfl, rfl, _, _⟩ := hT
    rfl
  | .node p q y l r, j + 1, x, k, hT, h => by
    rw [ok_node] at hT
    have := fo_snoc (T := r) (j := j) hT.2.2.2 (by simpa [Fo.list] using h)
    rw [Fo.take, Fo.snoc, this, Fo.take]
def AppRel (B : Nat) (W2 : World) (X : Nat → Prop) (T : Fo) (xn : Int) (j : Nat) (wr : World) : Prop :=
  ∃ (v : Value) (xs : List Value), wr.ownsRow (B + 1) 33 3 v j xs ∧ CellsOf (Rm B X wr v) wr (Fo.take j T) xs ∧
    wr.cell? ⟨B, 0, none⟩ = some (.bool false) ∧ wr.cell? ⟨B, 1, none⟩ = some (.int .i64 xn) ∧ wr.cell? ⟨B, 2, none⟩ = some v ∧ (∀ i, wr.frozen? ⟨B, i, none⟩ = false) ∧ Below B W2 wr
theorem app_next {B : Nat} {W2 wr w1 w3 : World} {X : Nat → Prop} {T : Fo} {xn : Int} {j : Nat} {v v' a : Value} {z : Bool × Int} {r : Fo} {g cap : Nat} {xs : List Value} {ob : Obj} (hT : Fo.ok T)
    (h1 : wr.ownsRow (B + 1) 33 3 v j xs) (h2 : CellsOf (Rm B X wr v) wr (Fo.take j T) xs) (hX : ∀ q, X q → q < B)
    (q0 : wr.cell? ⟨B, 0, none⟩ = some (.bool false)) (q1 : wr.cell? ⟨B, 1, none⟩ = some (.int .i64 xn)) (q2 : wr.cell? ⟨B, 2, none⟩ = some v) (qf : ∀ i, wr.frozen? ⟨B, i, none⟩ = false)
    (hB3 : Below B W2 wr) (hb : Below wr.heap.size wr w1) (hk : SB (fun q => X q ∨ (wr.heap.size ≤ q ∧ q < w1.heap.size)) w1 r a) (hTj : T.list[j]? = some (z, r))
    (hv' : v' = .slice (some ⟨g, 0, none⟩) (j + 1) cap) (ho : w3.ownsRow (B + 1) 33 3 v' (j + 1) (xs ++ [.bool z.1, .int .i64 z.2, a])) (hg : (w1.alloc ob).grownBy w3 v.ownBlock)
    (hat : v.ownBlock = some g ∨ g = w1.heap.size + 1) (hlt : g < w3.heap.size) : AppRel B W2 X T xn (j + 1) (w3.setCell ⟨B, 2, none⟩ v') := by
  have hBl : B < wr.heap.size := World.block_lt_of_cell? _ _ q0
  have hjl : j < Fo.len T := by
    rw [← Fo.len_list]
    rcases Nat.lt_or_ge j T.list.length with h | h
    · exact h
    · rw [List.getElem?_eq_none h] at hTj; cases hTj
  have hlj : Fo.len (Fo.take j T) = j := take_len j T (by omega)
  have hlj1 : Fo.len (Fo.take (j + 1) T) = j + 1 := take_len (j + 1) T (by omega)
  obtain ⟨r1, r2, r3, r4, r5, r6, r7⟩ := row_step (B := B) (X := X) (acc := Fo.take j T) (x := z) (k := r) (g := g) (cap := cap) (v' := v') (by rw [hlj]; exact h1) h2 hX hBl ⟨_, q2⟩ hb.size (fun q _ hq => hb.block q hq) hk (by rw [hlj]; exact hv') (by rw [hlj]; exact ho) hg hat hlt
  rw [fo_snoc hT hTj] at r1 r2
  rw [hlj1] at r1
  refine ⟨v', _, r1, r2, (r5 0 (by omega)).trans q0, (r5 1 (by omega)).trans q1, r3, fun i => (r6 i).trans (qf i), ?_⟩
  have hb1 : Below B W2 w1 := hB3.trans (hb.mono (by omega))
  have hb2 : Below B W2 (w1.alloc ob) := hb1.alloc (by have := hb.size; omega) _
  exact (hb2.grown hg (by simp; have := hb.size; omega) (fun q hq => by have := (owns_at h1 q hq).1; omega)).setCell (Nat.le_refl _) _
theorem app_zero {w0 : World} {X : Nat → Prop} {T : Fo} {xn : Int} {B : Nat} (hB : w0.heap.size = B) : AppRel B w0 X T xn 0 (w0.alloc (.cells #[.bool false, .int .i64 xn, .slice none 0 0] 33)) :=
  ⟨.slice none 0 0, [], ⟨rfl, .inl ⟨rfl, rfl⟩⟩, rfl, new_cell hB, new_cell hB, new_cell hB, fun _ => new_frozen hB, (Below.refl _ _).alloc (by omega) _⟩
theorem app_end {B : Nat} {W2 wr : World} {X : Nat → Prop} {T : Fo} {xn : Int} (h : AppRel B W2 X T xn (Fo.len T) wr) :
    ∃ z1 z3, wr.cell? ⟨B, 2, none⟩ = some (.slice z1 (Fo.len T) z3) ∧ SB (fun q => X q ∨ (B + 1 ≤ q ∧ q < wr.heap.size)) wr T (.slice z1 (Fo.len T) z3) := by
  obtain ⟨v, xs, h1, h2, _, _, q2, _, _⟩ := h
  rw [take_all] at h2
  obtain ⟨z1, z3, rfl⟩ := slice_of_owns h1
  exact ⟨z1, z3, q2, row_sb h1 h2 (fun q hq => by rcases hq with h | h; exact .inl h; exact .inr ⟨h.1, h.2.1⟩) (fun g hg => .inr (owns_at h1 g hg))⟩
def ApplyRSaid (x : Bool × Int) (k : Fo) : Prop := ∀ (s : Sb) (vs : Value) (W0 : World) (a : Value) (w : World), Below W0.heap.size W0 w → SubIn W0 s vs → (∀ p ∈ s, okT p.2) → SIn W0 k a → okT (x, k) → narT (x, k) →
    Calls Try.prog 30 #[vs, .agg #[.bool x.1, .int .i64 x.2, a]] w fun e w' => ∃ (a1 : Option Addr) (a2 a3 : Nat), e = .returned (.agg #[.bool (subT (bnd s) (x, k)).1.1, .int .i64 (subT (bnd s) (x, k)).1.2, .slice a1 a2 a3]) ∧
      SB (fun q => q < W0.heap.size ∨ (w.heap.size ≤ q ∧ q < w'.heap.size)) w' (subT (bnd s) (x, k)).2 (.slice a1 a2 a3) ∧ Below w.heap.size w w'
set_option maxRecDepth 100000 in
set_option maxHeartbeats 2000000 in
theorem applyR_any (x : Bool × Int) (k : Fo) : ApplyRSaid x k := by
  refine Fo.ind1 (p := ApplyRSaid) ?_ x k
  clear x k
  intro x k ih s vs W0 a w hW hV hs hS hok hnar
  obtain ⟨v, n⟩ := x
  have HI := hide ih
  have HW := hide hW
  have HV := hide hV
  have Hs := hide hs
  have Hok := hide hok
  have Hnar := hide hnar
  have HS := hide hS
  obtain ⟨ad, ac, b, o, rfl, had, hlc, hcm, hF⟩ := hS
  obtain ⟨vd, vc, vb, vo, rfl, hvd, hvlc, hvcm, hP⟩ := hV
  have HF := hide hF
  have HP := hide hP
  have hW0 := hW.size
  unfold maxLen at hcm hvcm
  clear ih hs hok hF hP hW
  cases v
  · have Hres : Hid (subT (bnd s) ((false, n), k) = ((false, n), subF (bnd s) k)) := rfl
    have HTok : Hid (Fo.ok (subF (bnd s) k)) := subF_ok (bnd_ok Hs.out) k
    have Hl := hide (Fo.len_list k)
    have Hl2 := hide (subF_len (bnd s) k)
    have hlen : Fo.len k ≤ 1000 := hnar.1
    clear hnar hvd
    go_enter Try.func30, Try.ntmps30
    go_wp2_with fail
    generalize hW2 : (w.alloc (.cells #[.bool false, .int .i64 n, .slice ad (Fo.len k) ac] 33)).alloc (.cells #[.bool false, .int .i64 0, .slice none 0 0] 33) = W2
    have hs2 : W2.heap.size = w.heap.size + 1 + 1 := by rw [← hW2]; simp
    have hB2 : Below w.heap.size w W2 := by rw [← hW2]; exact (below_alloc _ _).alloc (by simp) _
    have r0 : W2.cell? ⟨w.heap.size + 1, 0, none⟩ = some (.bool false) := by rw [← hW2]; exact new_cell (World.size_alloc _ _)
    have r1 : W2.cell? ⟨w.heap.size + 1, 1, none⟩ = some (.int .i64 0) := by rw [← hW2]; exact new_cell (World.size_alloc _ _)
    have r2 : W2.cell? ⟨w.heap.size + 1, 2, none⟩ = some (.slice none 0 0) := by rw [← hW2]; exact new_cell (World.size_alloc _ _)
    have rf : ∀ i, W2.frozen? ⟨w.heap.size + 1, i, none⟩ = false := fun i => by rw [← hW2]; exact new_frozen (World.size_alloc _ _)
    have HQ := hide (And.intro r0 (And.intro r1 (And.intro r2 rf)))
    have HB2 := hide hB2
    have Hs2 := hide hs2
    have H0 : Hid (AppRel (w.heap.size + 1 + 1) W2 (fun q => q < W0.heap.size) (subF (bnd s) k) n 0 (W2.alloc (.cells #[.bool false, .int .i64 n, .slice none 0 0] 33))) := app_zero hs2
    clear r0 r1 r2 rf hB2 hs2 hW2
    go_loopw [33] (fun i wr => ∃ j : Nat, j ≤ Fo.len k ∧ i = .int .i64 j ∧ AppRel (w.heap.size + 1 + 1) W2 (fun q => q < W0.heap.size) (subF (bnd s) k) n j wr) (fun i _ => Fo.len k - (intOf i).toNat)
    case atStart => exact ⟨0, Nat.zero_le _, rfl, H0.out⟩
    case round =>
      obtain ⟨j, hj, rfl, hR⟩ := hrel
      have HR := hide hR
      obtain ⟨vr', xs, h1, h2, q0, q1, q2, qf, hB⟩ := hR
      have H1 := hide h1
      have H2 := hide h2
      have HB := hide hB
      have Hqf := hide qf
      have hs2 := Hs2.out
      have hBw : Below w.heap.size w wr := HB2.out.trans (hB.mono (by omega))
      have hB0 : Below W0.heap.size W0 wr := HW.out.trans (hBw.mono hW0)
      have hBlt : w.heap.size + 1 + 1 < wr.heap.size := World.block_lt_of_cell? _ _ q0
      obtain ⟨z1, z3, rfl⟩ := slice_of_owns h1
      clear H0 h1 h2 hB
      by_cases hlt : j < Fo.len k
      · have hlt' : (j : Int) < (Fo.len k : Int) := by omega
        have had' : ad = some ⟨b, o, none⟩ := had (by omega)
        subst had'
        obtain ⟨⟨⟨ev, en⟩, ek⟩, hy⟩ : ∃ y, k.list[j]? = some y := ⟨k.list[j]'(by rw [Hl.out]; exact hlt), by simp⟩
        obtain ⟨c0, c1, yv', c2, hSy⟩ := HF.out.at hy
        have c0' := grow_cell hB0 _ _ c0
        have c1' := grow_cell hB0 _ _ c1
        have c2' := grow_cell hB0 _ _ c2
        have HSy := hide hSy
        obtain ⟨ya, yc, yb, yo, rfl, -, -, -, -⟩ := hSy
        have Hy := hide hy
        have Hy2 : Hid ((subF (bnd s) k).list[j]? = some (subT (bnd s) ((ev, en), ek))) := by rw [Hid, subF_list, List.getElem?_map, hy]; rfl
        obtain ⟨⟨⟨xv, xn⟩, xk⟩, hz⟩ : ∃ z, z = subT (bnd s) ((ev, en), ek) := ⟨_, rfl⟩
        have Hz := hide hz
        have Hoke : Hid (okT ((ev, en), ek)) := ok_mem Hok.out.2 (List.mem_of_getElem? hy)
        have Hnare : Hid (narT ((ev, en), ek)) := nar_mem Hnar.out.2 (List.mem_of_getElem? hy)
        clear hy had c0 c1 c2 hz
        obtain ⟨i26, hi26, hz0, hz1, hz2⟩ := info_parts Try.info33
        have hn1 : j + 1 ≤ maxLen := by unfold maxLen; omega
        have hn2 : (j + 1) * 40 ≤ 140737488355328 := by omega
        go_upto_region 13 with fail
        generalize hwa : wr.alloc (.cells #[.bool ev, .int .i64 en, .slice ya (Fo.len ek) yc] 33) = wa
        have e0 : wa.cell? ⟨wr.heap.size, 0, none⟩ = some (.bool ev) := by rw [← hwa]; exact new_cell rfl
        have e1 : wa.cell? ⟨wr.heap.size, 1, none⟩ = some (.int .i64 en) := by rw [← hwa]; exact new_cell rfl
        have e2 : wa.cell? ⟨wr.heap.size, 2, none⟩ = some (.slice ya (Fo.len ek) yc) := by rw [← hwa]; exact new_cell rfl
        have hba : Below wr.heap.size wr wa := by rw [← hwa]; exact below_alloc _ _
        have f2 := grow_cell hba _ _ q2
        have ff : ∀ i, wa.frozen? ⟨w.heap.size + 1 + 1, i, none⟩ = false := fun i => (hba.frozen hBlt).trans (Hqf.out i)
        have hBa : w.heap.size + 1 + 1 < wa.heap.size := Nat.lt_of_lt_of_le hBlt hba.size
        have Hno : Hid (some (w.heap.size + 1 + 1) ≠ (Value.slice z1 j z3).ownBlock) := fun e => by have := (owns_at H1.out _ e.symm).1; omega
        have hcall : Calls Try.prog 30 #[.slice vd s.length vc, .agg #[.bool ev, .int .i64 en, .slice ya (Fo.len ek) yc]] wa.drew fun e w' => ∃ (a1 : Option Addr) (a2 a3 : Nat), e = .returned (.agg #[.bool xv, .int .i64 xn, .slice a1 a2 a3]) ∧ SB (fun q => q < W0.heap.size ∨ (wa.heap.size ≤ q ∧ q < w'.heap.size)) w' xk (.slice a1 a2 a3) ∧ Below wa.heap.size wa w' := by
          refine (HI.out ((ev, en), ek) (List.mem_of_getElem? Hy.out) s _ W0 _ wa.drew ?_ HV.out Hs.out HSy.out Hoke.out Hnare.out).mono ?_
          · exact (hB0.trans (hba.mono hB0.size)).trans (Below.refl _ _).drew
          · rintro e w' ⟨a1, a2, a3, rfl, hk, hb⟩
            rw [← Hz.out] at hk ⊢
            exact ⟨a1, a2, a3, rfl, hk, (Below.refl _ _).drew.trans hb⟩
        have Hcall := hide hcall
        have Hba := hide hba
        clear hcall hwa c0' c1' c2' hba q2 qf
        go_region_law (first
          | (refine step_append_lies _ (by rfl) _ _ _ (by rfl) (w.heap.size + 1 + 1 + 1) 33 i26 (.agg #[.bool false, .int .i64 0, .slice none 0 0]) 3 40 Try.underlying31 hi26 hz0 hz1 hz2 rfl (by decide) (.slice z1 j z3) j xs (by rfl) Hown3.out ⟨w3.heap.size, 0, none⟩ 1 1 [.bool xv, .int .i64 xn, .slice a1 a2 a3] (by rfl) (by rfl) Hnews.out (by simp [Value.oneCell']) (by decide) hn1 hn2 (by simp; omega) (w3.heap.size + 1) (by simp) ?_; intro g cap w4 ho4 hg4 hat4 hlt4; have x2 := out_cell hg4 hB3 Hno.out g3; have xf := out_frozen hg4 hB3 Hno.out gf3)
          | (go_simp; go_at_call 30; refine Hcall.out.mono ?_; rintro e w3 ⟨a1, a2, a3, rfl, hk3, hb3⟩
             have hs3 := hb3.size; have g3 := grow_cell hb3 _ _ f2; have gf3 : ∀ i, w3.frozen? ⟨w.heap.size + 1 + 1, i, none⟩ = false := (fun i => (hb3.frozen hBa).trans (ff i)); have hB3 : w.heap.size + 1 + 1 < w3.heap.size := Nat.lt_of_lt_of_le hBa hs3
             have Hown3 : Hid ((w3.alloc (.cells #[.bool xv, .int .i64 xn, .slice a1 a2 a3] 33)).ownsRow (w.heap.size + 1 + 1 + 1) 33 3 (.slice z1 j z3) j xs) := (owns_keep H1.out (fun g hg => by have h := owns_at H1.out g hg; have hsz := Hba.out.size; rw [Below.heap_alloc _ _ _ (by omega), hb3.block g (by omega), Hba.out.block g h.2]))
             have Hnews : Hid (∀ j u, [Value.bool xv, .int .i64 xn, .slice a1 a2 a3][j]? = some u → (w3.alloc (.cells #[.bool xv, .int .i64 xn, .slice a1 a2 a3] 33)).cell? ((⟨w3.heap.size, 0, none⟩ : Addr).add j) = some u) := (World.news_of_block (cs := #[.bool xv, .int .i64 xn, .slice a1 a2 a3]) (heap_alloc_new w3 _))))
        all_goals
          have Hst := hide (app_next (B := w.heap.size + 1 + 1) (W2 := W2) (X := fun q => q < W0.heap.size) (T := subF (bnd s) k) (xn := n) (z := (xv, xn)) (r := xk) (a := .slice a1 a2 a3) HTok.out H1.out H2.out (fun q hq => by omega) q0 q1 (by have hc := HR.out; obtain ⟨_, _, _, _, _, _, q2, _, _⟩ := hc; exact (Hba.out.cell (p := ⟨w.heap.size + 1 + 1, 2, none⟩) hBlt).symm.trans f2) Hqf.out HB.out (below_step Hba.out hb3) (hk3.wide (fun q hq => by rcases hq with h | h; exact .inl h; exact .inr ⟨by have := Hba.out.size; omega, h.2⟩)) (by rw [Hy2.out, ← Hz.out]) rfl ho4 hg4 hat4 hlt4)
          clear hk3 hb3 ho4 hg4 hat4 hlt4 x2 xf g3 gf3 Hown3 Hnews hi26 hz0 hz1 hz2
          go_wp2_with fail
          go_roundw
          case rel => exact ⟨j + 1, by omega, by go_num, Hst.out⟩
          case measure => simp [intOf]; omega
      · have hje : j = Fo.len k := by omega
        have hRe : AppRel (w.heap.size + 1 + 1) W2 (fun q => q < W0.heap.size) (subF (bnd s) k) n (Fo.len (subF (bnd s) k)) wr := by rw [Hl2.out, ← hje]; exact HR.out
        obtain ⟨y1, y3, hc2, hSB⟩ := app_end hRe
        have HSB := hide hSB
        obtain ⟨p0, p1, p2, pf⟩ := HQ.out
        have s0 : wr.cell? ⟨w.heap.size + 1, 0, none⟩ = some (.bool false) := (HB.out.cell (by show w.heap.size + 1 < _; omega)).trans p0
        have s1 : wr.cell? ⟨w.heap.size + 1, 1, none⟩ = some (.int .i64 0) := (HB.out.cell (by show w.heap.size + 1 < _; omega)).trans p1
        have s2 : wr.cell? ⟨w.heap.size + 1, 2, none⟩ = some (.slice none 0 0) := (HB.out.cell (by show w.heap.size + 1 < _; omega)).trans p2
        have sf : ∀ i, wr.frozen? ⟨w.heap.size + 1, i, none⟩ = false := fun i => (HB.out.frozen (by show w.heap.size + 1 < _; omega)).trans (pf i)
        clear q2 hSB p0 p1 p2 pf hRe
        go_wp2_with fail
        refine bodyPost_ret (v := .agg #[.bool false, .int .i64 n, .slice y1 (Fo.len (subF (bnd s) k)) y3]) (by simp [results, Try.results30, go_sem, s0, s1, s2]) rfl ⟨y1, Fo.len (subF (bnd s) k), y3, by rw [Hres.out], ?_, set3_below (o := 0) hBw (by omega)⟩
        rw [Hres.out]
        refine (HSB.out.set3 (b := w.heap.size + 1) (o := 0) ?_).wide (fun q hq => ?_)
        · intro h
          rcases h with h | h <;> omega
        · rcases hq with h | h
          · exact .inl h
          · exact .inr ⟨by omega, by rw [World.size_setCell, World.size_setCell, World.size_setCell]; exact h.2⟩
  · have Hres : Hid (subT (bnd s) ((true, n), k) = bnd s n) := rfl
    have hk0 : k = .nil := Hok.out.1 rfl
    subst hk0
    clear had
    go_enter Try.func30, Try.ntmps30
    go_wp2_with fail
    generalize hW2 : (w.alloc (.cells #[.bool true, .int .i64 n, .slice ad (Fo.len .nil) ac] 33)).alloc (.cells #[.bool false, .int .i64 0, .slice none 0 0] 33) = W2
    have hs2 : W2.heap.size = w.heap.size + 1 + 1 := by rw [← hW2]; simp
    have hB2 : Below w.heap.size w W2 := by rw [← hW2]; exact (below_alloc _ _).alloc (by simp) _
    have p0 : W2.cell? ⟨w.heap.size, 0, none⟩ = some (.bool true) := by rw [← hW2, World.cell?_alloc_lt _ _ _ (by simp)]; exact new_cell rfl
    have p1 : W2.cell? ⟨w.heap.size, 1, none⟩ = some (.int .i64 n) := by rw [← hW2, World.cell?_alloc_lt _ _ _ (by simp)]; exact new_cell rfl
    have p2 : W2.cell? ⟨w.heap.size, 2, none⟩ = some (.slice ad (Fo.len .nil) ac) := by rw [← hW2, World.cell?_alloc_lt _ _ _ (by simp)]; exact new_cell rfl
    have r0 : W2.cell? ⟨w.heap.size + 1, 0, none⟩ = some (.bool false) := by rw [← hW2]; exact new_cell (World.size_alloc _ _)
    have r1 : W2.cell? ⟨w.heap.size + 1, 1, none⟩ = some (.int .i64 0) := by rw [← hW2]; exact new_cell (World.size_alloc _ _)
    have r2 : W2.cell? ⟨w.heap.size + 1, 2, none⟩ = some (.slice none 0 0) := by rw [← hW2]; exact new_cell (World.size_alloc _ _)
    have rf : ∀ i, W2.frozen? ⟨w.heap.size + 1, i, none⟩ = false := fun i => by rw [← hW2]; exact new_frozen (World.size_alloc _ _)
    have HQ := hide (And.intro p0 (And.intro p1 (And.intro p2 (And.intro r0 (And.intro r1 (And.intro r2 rf))))))
    have HB2 := hide hB2
    have Hs2 := hide hs2
    clear p0 p1 p2 r0 r1 r2 rf hB2 hs2 hW2
    go_loopw [14] (fun i wr => ∃ j : Nat, j ≤ s.length ∧ i = .int .i64 j ∧ (∀ q p, q < j → s[q]? = some p → p.1 ≠ n) ∧ Below W2.heap.size W2 wr) (fun i _ => s.length - (intOf i).toNat)
    case atStart => exact ⟨0, Nat.zero_le _, rfl, fun q _ hq => by omega, Below.refl _ _⟩
    case round =>
      obtain ⟨j, hj, rfl, hno, hB⟩ := hrel
      have Hno := hide hno
      have hs2 := Hs2.out
      have hBw : Below w.heap.size w wr := HB2.out.trans (hB.mono (by omega))
      have hB0 : Below W0.heap.size W0 wr := HW.out.trans (hBw.mono hW0)
      have hsz := hB.size
      obtain ⟨q0, q1, q2, q3, q4, q5, qf⟩ := HQ.out
      have p0 := grow_cell hB _ _ q0
      have p1 := grow_cell hB _ _ q1
      have p2 := grow_cell hB _ _ q2
      have s0 := grow_cell hB _ _ q3
      have s1 := grow_cell hB _ _ q4
      have s2 := grow_cell hB _ _ q5
      have sf : ∀ i, wr.frozen? ⟨w.heap.size + 1, i, none⟩ = false := fun i => (hB.frozen (by show w.heap.size + 1 < _; omega)).trans (qf i)
      clear hno q0 q1 q2 q3 q4 q5 qf
      by_cases hlt : j < s.length
      · have hlt' : (j : Int) < (s.length : Int) := by omega
        obtain ⟨⟨m, ⟨tv, tn⟩, tk⟩, hy⟩ : ∃ y, s[j]? = some y := ⟨s[j], by simp [hlt]⟩
        obtain ⟨c0, c1, c2, tv', c3, hSy⟩ := HP.out.at hy
        have c0' := grow_cell hB0 _ _ c0
        have c1' := grow_cell hB0 _ _ c1
        have c2' := grow_cell hB0 _ _ c2
        have c3' := grow_cell hB0 _ _ c3
        have HSy := hide hSy
        obtain ⟨ya, yc, yb, yo, rfl, -, -, -, -⟩ := hSy
        have ha : vd = some ⟨vb, vo, none⟩ := hvd (by omega)
        subst ha
        have Hy := hide hy
        have hx0 : w.heap.size < wr.heap.size := by omega
        have hx1 : w.heap.size + 1 < wr.heap.size := by omega
        clear hy hvd c0 c1 c2 c3
        by_cases hmn : m = n
        · have hmb : (m == n) = true := by simp [hmn]
          have Hl : Hid (bnd s n = ((tv, tn), tk)) := bnd_some (look_first Hno.out (by rw [Hy.out, hmn]))
          clear hmn
          obtain ⟨g0, g1, g2⟩ := set3_cells (w := wr) (b := w.heap.size + 1) (o := 0) (x := .bool tv) (y := .int .i64 tn) (z := .slice ya (Fo.len tk) yc) s0 s1 s2
          have k0 : ((((wr.setCell ⟨w.heap.size + 1, 0, none⟩ (.bool tv)).setCell ⟨w.heap.size + 1, 1, none⟩ (.int .i64 tn)).setCell ⟨w.heap.size + 1, 2, none⟩ (.slice ya (Fo.len tk) yc)).alloc (.cells #[.int .i64 m, .bool tv, .int .i64 tn, .slice ya (Fo.len tk) yc] 73)).cell? ⟨w.heap.size + 1, 0, none⟩ = some (.bool tv) := by
            rw [World.cell?_alloc_lt _ _ _ (by simpa using hx1)]; exact g0
          have k1 : ((((wr.setCell ⟨w.heap.size + 1, 0, none⟩ (.bool tv)).setCell ⟨w.heap.size + 1, 1, none⟩ (.int .i64 tn)).setCell ⟨w.heap.size + 1, 2, none⟩ (.slice ya (Fo.len tk) yc)).alloc (.cells #[.int .i64 m, .bool tv, .int .i64 tn, .slice ya (Fo.len tk) yc] 73)).cell? ⟨w.heap.size + 1, 1, none⟩ = some (.int .i64 tn) := by
            rw [World.cell?_alloc_lt _ _ _ (by simpa using hx1)]; exact g1
          have k2 : ((((wr.setCell ⟨w.heap.size + 1, 0, none⟩ (.bool tv)).setCell ⟨w.heap.size + 1, 1, none⟩ (.int .i64 tn)).setCell ⟨w.heap.size + 1, 2, none⟩ (.slice ya (Fo.len tk) yc)).alloc (.cells #[.int .i64 m, .bool tv, .int .i64 tn, .slice ya (Fo.len tk) yc] 73)).cell? ⟨w.heap.size + 1, 2, none⟩ = some (.slice ya (Fo.len tk) yc) := by
            rw [World.cell?_alloc_lt _ _ _ (by simpa using hx1)]; exact g2
          have hBe : Below w.heap.size w ((((wr.setCell ⟨w.heap.size + 1, 0, none⟩ (.bool tv)).setCell ⟨w.heap.size + 1, 1, none⟩ (.int .i64 tn)).setCell ⟨w.heap.size + 1, 2, none⟩ (.slice ya (Fo.len tk) yc)).alloc (.cells #[.int .i64 m, .bool tv, .int .i64 tn, .slice ya (Fo.len tk) yc] 73)) :=
            (set3_below (b := w.heap.size + 1) (o := 0) hBw (by omega)).alloc (by rw [set3_size]; omega) _
          have Hend := hide (And.intro k0 (And.intro k1 (And.intro k2 hBe)))
          clear k0 k1 k2 hBe g0 g1 g2
          go_wp2_with fail
          obtain ⟨k0, k1, k2, hBe⟩ := Hend.out
          refine bodyPost_ret (v := .agg #[.bool tv, .int .i64 tn, .slice ya (Fo.len tk) yc]) (by simp [results, Try.results30, go_sem, k0, k1, k2]) rfl ⟨ya, Fo.len tk, yc, by rw [Hres.out, Hl.out], ?_, hBe⟩
          rw [Hres.out, Hl.out]
          exact (HSy.out.toB.grow (fun _ h => h) (HW.out.trans (hBe.mono hW0))).wide (fun q hq => .inl hq)
        · have hmb : (m == n) = false := by simp [hmn]
          have Hno2 : Hid (∀ q p, q < j + 1 → s[q]? = some p → p.1 ≠ n) := fun q p hq hp => by
            by_cases e : q = j
            · subst e; rw [Hy.out] at hp; cases hp; exact hmn
            · exact Hno.out q p (by omega) hp
          clear hmn
          go_wp2_with fail
          go_roundw
          case rel => exact ⟨j + 1, by omega, by go_num, Hno2.out, hB.alloc hsz _⟩
          case measure => simp [intOf]; omega
      · have Hl : Hid (bnd s n = vr n) := bnd_none (look_all (fun q p hq hp => Hno.out q p (by omega) hp))
        clear hvd
        go_wp2_with fail
        refine bodyPost_ret (v := .agg #[.bool true, .int .i64 n, .slice ad (Fo.len .nil) ac]) (by simp [results, Try.results30, go_sem, s0, s1, s2]) rfl ⟨ad, Fo.len .nil, ac, by rw [Hres.out, Hl.out]; rfl, ?_, set3_below (o := 0) hBw (by omega)⟩
        rw [Hres.out, Hl.out]
        exact ⟨ad, ac, b, o, rfl, fun h => by simp [vr, Fo.len] at h, Nat.zero_le _, by unfold maxLen; exact hcm, trivial⟩
end Go.Proofs.Ytlgnpiphaeoeiad

namespace Go.Proofs.Ytlgnpiphaeoeiad
open Go.RowKit Go.Deep Go.ChangeShapes Go.WideShapes
attribute [local go_sem ↓] Go.wp_at_zero Go.wp_at_succ
theorem fin_norm {w : World} : ∀ {F : Fo} {b o : Nat}, FIn w F b o → FIn w (Fo.norm F) b o
  | .nil, _, _, _ => trivial
  | .node _ _ _ k r, _, _, ⟨h0, h1, ⟨a, c, b', o', h2, h3, h4, h5, h6⟩, h7⟩ => by
    refine ⟨h0, h1, ⟨a, c, b', o', ?_, ?_, ?_, h5, fin_norm h6⟩, fin_norm h7⟩
    · rw [norm_len]; exact h2
    · rw [norm_len]; exact h3
    · rw [norm_len]; exact h4
theorem sin_norm {w : World} {k : Fo} {a : Value} (h : SIn w k a) : SIn w (Fo.norm k) a := by
  obtain ⟨a, c, b, o, rfl, h3, h4, h5, h6⟩ := h
  exact ⟨a, c, b, o, by rw [norm_len], by rw [norm_len]; exact h3, by rw [norm_len]; exact h4, h5, fin_norm h6⟩
theorem norm_sizes : ∀ F : Fo, Fo.sizesR (Fo.norm F) = Fo.sizesR F
  | .nil => rfl
  | .node _ _ _ k r => by simp [Fo.norm, Fo.sizesR, norm_sizes k, norm_sizes r]
theorem good_of_walk {s : List Int} (hs : s.all okNum = true) : ∀ {F : Fo} {n : Nat}, n ≤ 13 → walkF s F (13 - (n : Int)) = 0 → Fo.ok (Fo.norm F) ∧ twoF (Fo.norm F) ∧ (∀ m, occF m (Fo.norm F) → 0 ≤ m ∧ m ≤ 4) ∧ depF (Fo.norm F) ≤ n
  | .nil, _, _, _ => ⟨trivial, trivial, fun m hm => by simp [Fo.norm, occF] at hm, Nat.zero_le _⟩
  | .node _ _ ⟨v, z⟩ k r, n, hn, h => by
    obtain ⟨hT, hr⟩ := walkF_ok h
    obtain ⟨hd, ha, hk⟩ := walkT_ok hT
    have h2 := alone_len hs ha
    obtain ⟨m, rfl⟩ : ∃ m, n = m + 1 := ⟨n - 1, by omega⟩
    have e : (13 : Int) - ((m + 1 : Nat) : Int) + 1 = 13 - (m : Int) := by omega
    rw [e] at hk
    obtain ⟨i1, i2, i3, i4⟩ := good_of_walk hs (n := m) (by omega) hk
    obtain ⟨j1, j2, j3, j4⟩ := good_of_walk hs (n := m + 1) hn hr
    simp only [Fo.norm]
    refine ⟨?_, ⟨by rw [norm_len]; exact h2, i2, j2⟩, fun q hq => ?_, ?_⟩
    · rw [ok_node]
      refine ⟨rfl, rfl, ⟨fun hv => ?_, i1⟩, j1⟩
      have hv' : v = true := hv
      subst hv'
      obtain ⟨rfl, _, _⟩ := alone_var ha
      rfl
    · rcases hq with hq | hq
      · cases v
        · exact i3 q (by simpa using hq)
        · obtain ⟨_, h0, h4⟩ := alone_var ha
          have : z = q := by simpa using hq
          omega
      · exact j3 q hq
    · simp only [depF]; omega
theorem gd_of_right {s : List Int} (hs : s.all okNum = true) {x : Bool × Int} {k : Fo} (h : wrongF s x k = 0) : Gd (x, Fo.norm k) ∧ depT (x, Fo.norm k) ≤ 12 ∧ tszR (Fo.norm k) ≤ 12 := by
  obtain ⟨h1, _, _, _, hw⟩ := right_of hs h
  have hF : walkF s (.node 0 0 x k .nil) (13 - ((12 : Nat) : Int)) = 0 := by
    have : walkT s x k 1 = 0 := hw
    simp only [walkF]
    have h3 : ∀ z : Int, z = 0 → (if z ≠ 0 then z else 0) = 0 := fun z hz => by simp [hz]
    exact h3 _ this
  obtain ⟨i1, i2, i3, i4⟩ := good_of_walk hs (n := 12) (by omega) hF
  simp only [Fo.norm] at i1 i2 i3 i4
  rw [ok_node] at i1
  rw [two_node] at i2
  refine ⟨⟨i1.2.2.1, i2.1, fun m hm => by have := i3 m (.inl hm); omega⟩, ?_, by unfold tszR at *; rw [norm_sizes]; exact h1⟩
  simp only [depF, depT] at *
  omega
theorem four_of_right {s : List Int} (hs : s.all okNum = true) {x : Bool × Int} {k : Fo} (h : wrongF s x k = 0) (m : Int) (hm : occT m (x, Fo.norm k)) : 0 ≤ m ∧ m ≤ 4 := by
  obtain ⟨h1, _, _, _, hw⟩ := right_of hs h
  have hF : walkF s (.node 0 0 x k .nil) (13 - ((12 : Nat) : Int)) = 0 := by
    have : walkT s x k 1 = 0 := hw
    simp only [walkF]
    have h3 : ∀ z : Int, z = 0 → (if z ≠ 0 then z else 0) = 0 := fun z hz => by simp [hz]
    exact h3 _ this
  obtain ⟨_, _, i3, _⟩ := good_of_walk hs (n := 12) (by omega) hF
  simp only [Fo.norm] at i3
  exact i3 m (.inl hm)
end Go.Proofs.Ytlgnpiphaeoeiad

namespace Go.Proofs.Ytlgnpiphaeoeiad
open Go.RowKit Go.Deep Go.ChangeShapes Go.WideShapes
theorem idx_cons {v n : Int} {vs : List Int} (h : ¬ v = n) : (v :: vs).idxOf n = vs.idxOf n + 1 := by
  have : (v == n) = false := by simp [h]
  rw [List.idxOf_cons, this, cond_false]
theorem look_num {n : Int} : ∀ {vs : List Int} {k : Nat}, look (vs.mapIdx fun i v => (v, vr ((i + k : Nat) : Int))) n = if n ∈ vs then some (vr ((vs.idxOf n + k : Nat) : Int)) else none
  | [], _ => rfl
  | v :: vs, k => by
    rw [List.mapIdx_cons, look]
    by_cases h : v = n
    · subst h
      simp
    · have hn : ¬ n = v := fun e => h e.symm
      rw [if_neg (by simpa using h)]
      have e : (fun i (v : Int) => (v, vr ((i + 1 + k : Nat) : Int))) = fun i v => (v, vr ((i + (k + 1) : Nat) : Int)) := by
        funext i v; rw [show i + 1 + k = i + (k + 1) by omega]
      rw [e, look_num (vs := vs) (k := k + 1)]
      by_cases hm : n ∈ vs
      · rw [if_pos hm, if_pos (by simp [hm]), idx_cons h]
        rw [show vs.idxOf n + (k + 1) = vs.idxOf n + 1 + k by omega]
      · rw [if_neg hm, if_neg (by simp [hm, hn])]
theorem bnd_num {vs : List Int} {n : Int} (h : n ∈ vs) : bnd (numS vs) n = vr (vs.idxOf n : Nat) := by
  have := look_num (n := n) (vs := vs) (k := 0)
  simp only [Nat.add_zero] at this
  rw [if_pos h] at this
  exact bnd_some this
theorem varsT_mem {x : Bool × Int} {k : Fo} {l : List Int} {m : Int} : m ∈ varsT x k l ↔ m ∈ l ∨ occT m (x, k) := by
  unfold varsT
  obtain ⟨v, n⟩ := x
  cases v with
  | true =>
    simp only [if_true, occT]
    by_cases h : hasB l n = true
    · rw [if_pos h]
      have hn : n ∈ l := by simpa [hasB] using h
      constructor
      · exact .inl
      · rintro (h | rfl); exact h; exact hn
    · rw [if_neg h]; simp [eq_comm]
  | false => simp only [Bool.false_eq_true, if_false, occT]; exact occ_varsF
def occL (m : Int) (l : Lt) : Prop := occT m l.2.1 ∨ occT m l.2.2
theorem varsL_mem {l : Lt} {v : List Int} {m : Int} : m ∈ varsL l v ↔ m ∈ v ∨ occL m l := by
  unfold varsL occL
  rw [varsT_mem, varsT_mem, or_assoc]
theorem varsC_mem {m : Int} : ∀ {c : Cl} {v : List Int}, m ∈ varsC c v ↔ m ∈ v ∨ ∃ l ∈ c, occL m l
  | [], v => by simp [varsC]
  | l :: c, v => by
    show m ∈ varsC c (varsL l v) ↔ _
    rw [varsC_mem, varsL_mem]
    simp [or_assoc]
theorem varsT_nodup {x : Bool × Int} {k : Fo} {l : List Int} (h : l.Nodup) : (varsT x k l).Nodup := by
  unfold varsT
  split
  · split
    · exact h
    · rename_i hh
      rw [List.nodup_append]
      refine ⟨h, by simp, fun a ha b hb => ?_⟩
      simp at hb
      intro e
      rw [hb] at e
      exact hh (by simp [hasB, ← e, ha])
  · exact varsF_nodup h
theorem varsC_nodup : ∀ {c : Cl} {v : List Int}, v.Nodup → (varsC c v).Nodup
  | [], _, h => h
  | _ :: c, _, h => varsC_nodup (c := c) (varsT_nodup (varsT_nodup h))
end Go.Proofs.Ytlgnpiphaeoeiad

namespace Go.Proofs.Ytlgnpiphaeoeiad
open Go.RowKit Go.Deep Go.ChangeShapes Go.WideShapes
theorem nodup_le : ∀ {l m : List Int}, l.Nodup → (∀ x ∈ l, x ∈ m) → l.length ≤ m.length
  | [], _, _, _ => Nat.zero_le _
  | a :: l, m, hn, hs => by
    rw [List.nodup_cons] at hn
    have ha : a ∈ m := hs a (by simp)
    have h1 := nodup_le (l := l) (m := m.erase a) hn.2 (fun x hx => by
      have hne : x ≠ a := fun e => hn.1 (e ▸ hx)
      exact (List.mem_erase_of_ne hne).2 (hs x (by simp [hx])))
    rw [List.length_erase_of_mem ha] at h1
    have := List.length_pos_of_mem ha
    simp only [List.length_cons]
    omega
theorem wgF_zero {c : Int → Nat} (hc : ∀ n, c n = 0) : ∀ F : Fo, wgF c F = 0
  | .nil => rfl
  | .node _ _ x k r => by rw [wgF, wgF_zero hc k, wgF_zero hc r, hc]; simp
theorem num_nil (vs : List Int) (n : Int) : (bnd (numS vs) n).2 = .nil := by
  by_cases h : n ∈ vs
  · rw [bnd_num h]; rfl
  · have := look_num (n := n) (vs := vs) (k := 0)
    simp only [Nat.add_zero] at this
    rw [if_neg h] at this
    have e : bnd (numS vs) n = vr n := bnd_none this
    rw [e]; rfl
theorem num_size {vs : List Int} {t : Tm} (h : okT t) : tszR (subT (bnd (numS vs)) t).2 = tszR t.2 := by
  have := subT_size (f := bnd (numS vs)) h
  simp only [szT, wgT] at this
  rw [wgF_zero (fun n => by rw [num_nil]; rfl)] at this
  rw [this, num_nil]
  simp [Fo.sizesR]
theorem num_gd {vs : List Int} (hl : vs.length ≤ 10) : ∀ p ∈ numS vs, Gd p.2 := fun p hp => by
  simp only [numS, List.mem_mapIdx] at hp
  obtain ⟨i, hi, rfl⟩ := hp
  exact gd_vr ⟨by omega, by omega⟩
structure GLx (l : Lt) : Prop where
  gl : Gd l.2.1
  gr : Gd l.2.2
  sl : tszR l.2.1.2 ≤ 4000000000000
  sr : tszR l.2.2.2 ≤ 4000000000000
def GX (c : Cl) : Prop := c.length ≤ 8 ∧ ∀ l ∈ c, GLx l
theorem GL.x {l : Lt} (h : GL l) : GLx l := ⟨h.gl, h.gr, by have := h.sl; omega, by have := h.sr; omega⟩
theorem GC.x {c : Cl} (h : GC c) : GX c := ⟨by have := h.1; omega, fun l hl => (h.2 l hl).x⟩
theorem GLx.flip {l : Lt} (h : GLx l) : GLx (flipL l) := by
  unfold flipL
  split
  · exact ⟨h.gr, h.gl, h.sr, h.sl⟩
  · exact h
theorem GLx.okl {l : Lt} (h : GLx l) : okL l := ⟨h.gl.ok, h.gr.ok⟩
theorem turn_gx {c d : Cl} (h : turnC c = some d) (hc : GX c) : GX d := by
  refine ⟨?_, turn_mem (p := GLx) h (fun e he => by cases he; simp) (fun l hl => (hc.2 l hl).flip)⟩
  have := turn_len (n := 0) h (fun e he => by cases he; simp)
  have := hc.1
  omega
theorem gx_few {d : Cl} (h : ∀ l ∈ d, GLx l) : ∀ n ∈ varsC d [], 0 ≤ n ∧ n ≤ 9 := fun n hn => by
  rcases varsC_mem.1 hn with hn | ⟨l, hl, hn⟩
  · cases hn
  · rcases hn with hn | hn
    · exact (h l hl).gl.few n hn
    · exact (h l hl).gr.few n hn
theorem gx_vars {d : Cl} (h : ∀ l ∈ d, GLx l) : (varsC d []).length ≤ 10 := by
  refine nodup_le (m := [0, 1, 2, 3, 4, 5, 6, 7, 8, 9]) (varsC_nodup List.nodup_nil) (fun x hx => ?_)
  have := gx_few h x hx
  simp
  omega
theorem GLx.num {vs : List Int} (hl : vs.length ≤ 10) {l : Lt} (h : GLx l) : GLx (mapL (subT (bnd (numS vs))) l) :=
  ⟨gd_sub (num_gd hl) h.gl, gd_sub (num_gd hl) h.gr, by simp only [mapL]; rw [num_size h.gl.ok]; exact h.sl, by simp only [mapL]; rw [num_size h.gr.ok]; exact h.sr⟩
theorem gx_ren {d : Cl} (h : GX d) : GX (reN d) := by
  refine ⟨by rw [reN, List.length_map]; exact h.1, fun l hl => ?_⟩
  obtain ⟨x, hx, rfl⟩ := List.mem_map.1 hl
  exact (h.2 x hx).num (gx_vars h.2)
theorem gx_dist {d e : Cl} (h : GX d) (he : distC d = some e) : GX e := by
  refine ⟨?_, dist_mem (p := GLx) he (fun e he => by cases he; simp) h.2⟩
  have := dist_len (n := 0) he (fun e he => by cases he; simp)
  have := h.1
  omega
theorem norm_casesX {c : Cl} (hc : GX c) : (turnC c = none ∧ normC c = (6, [])) ∨ ∃ d, turnC c = some d ∧ GX d ∧ GX (reN d) ∧ ((distC (reN d) = none ∧ normC c = (6, [])) ∨ ∃ e, distC (reN d) = some e ∧ GX e ∧ normC c = keepC d e) := by
  cases ht : turnC c with
  | none => exact .inl ⟨rfl, by simp [normC, ht]⟩
  | some d =>
    have hd := turn_gx ht hc
    have hr := gx_ren hd
    refine .inr ⟨d, rfl, hd, hr, ?_⟩
    cases he : distC (reN d) with
    | none => exact .inl ⟨rfl, by simp [normC, ht, he]⟩
    | some e => exact .inr ⟨e, rfl, gx_dist hr he, by simp only [normC, ht, he]⟩
theorem keep_big {d e : Cl} (h : (4 < e.length ∨ 5 < (varsC d []).length) ∨ e.any bigL = true) : keepC d e = (4, []) := if_pos (by
  rcases h with (h | h) | h
  · exact .inl h
  · exact .inr (.inl h)
  · exact .inr (.inr h))
theorem keep_ok {d e : Cl} (h1 : ¬ 4 < e.length) (h2 : ¬ 5 < (varsC d []).length) (h3 : e.any bigL = false) : keepC d e = (0, e) := if_neg (by
  rintro (h | h | h)
  · exact h1 h
  · exact h2 h
  · rw [h3] at h; cases h)
end Go.Proofs.Ytlgnpiphaeoeiad
