/- Which term is above: the project's above, aboveWithin and Compare. -/
import Derived.Test.YtfckelbdageenabGreatDoorG23
import Derived.Test.YtfckelbdageenabGreatDoorG02
import Derived.Test.YtfckelbdageenabGreatDoorG18
import Derived.Test.YtfckelbdageenabGreatDoorG19
import Derived.Test.YtfckelbdageenabGreatDoorG13
import Derived.BigQuiet
import Derived.Test.YtfckelbdageenabGreatDoorG21
namespace Go.Proofs.YtfckelbdageenabGreatDoor
open Go.RowKit Go.Deep Go.ChangeShapes Go.WideShapes
attribute [local go_sem ↓] Go.wp_at_zero Go.wp_at_succ

theorem sizes_ok : ∀ {F : Fo}, Fo.ok F → Fo.sizes F = Fo.sizesR F
  | .nil, _ => rfl
  | .node _ _ x k r, h => by
    obtain ⟨_, _, h3, h4⟩ := ok_node.1 h
    have h1 := sizes_ok h3.2
    have h2 := sizes_ok h4
    rw [Fo.sizes, Fo.sizesR, h2, h1]
    by_cases hx : x.1 = true
    · have hk : k = .nil := h3.1 hx
      subst hk
      simp [Fo.sizesR]
    · rw [if_neg hx]
theorem tsz_ok {x : Bool × Int} {k : Fo} (h : okT (x, k)) : tsz x k = tszR k := by
  unfold tsz tszR
  by_cases hx : x.1 = true
  · have hk : k = .nil := h.1 hx
    subst hk
    simp [Fo.sizesR, hx]
  · rw [if_neg hx, sizes_ok h.2]
theorem psize_call {wn : World} {x : Bool × Int} {k : Fo} {a : Value} (hok : okT (x, k)) (hS : SIn wn k a) (hb : tszR k ≤ 1000000000000) (w' : World) (h : Below wn.heap.size wn w') :
    Calls Tryz.prog 68 #[.agg #[.bool x.1, .int .i64 x.2, a]] w' fun e w'' => e = .returned (.int .i64 (tszR k : Nat)) ∧ Below w'.heap.size w' w'' := by
  refine (size_any x k a w' (hS.below h)).mono ?_
  rw [tsz_ok hok, wrap64_small (by omega) (by omega)]
  exact fun e w'' h => h
theorem psame_call {wn : World} {x y : Bool × Int} {k l : Fo} {a c : Value} (hS : SIn wn k a) (hU : SIn wn l c) (w' : World) (h : Below wn.heap.size wn w') :
    Calls Tryz.prog 54 #[.agg #[.bool x.1, .int .i64 x.2, a], .agg #[.bool y.1, .int .i64 y.2, c]] w' fun e w'' => e = .returned (.bool (sameT x k y l)) ∧ Below w'.heap.size w' w'' :=
  same_any x k y l a c w' (hS.below h) (hU.below h)

theorem run_min (p q : Nat) (w : World) : (Builtin.min_ #[3, 3] 3 #[.int .i64 (p : Nat), .int .i64 (q : Nat)]).run Tryz.prog w = .ok (.int .i64 (min p q : Nat)) w := by
  by_cases h : q < p
  · have e : min p q = q := by omega
    rw [e]
    simp [Builtin.min_, Builtin.min2, go_sem, h]
  · have e : min p q = p := by omega
    rw [e]
    simp [Builtin.min_, Builtin.min2, go_sem, h]

def AbvSaid (x : Bool × Int) (k : Fo) : Prop := ∀ (y : Bool × Int) (l : Fo) (a c : Value) (w : World), Gd (x, k) → Gd (y, l) → SIn w k a → SIn w l c → tszR k ≤ 1000000000000 → tszR l ≤ 1000000000000 →
    Calls Tryz.prog 98 #[.agg #[.bool x.1, .int .i64 x.2, a], .agg #[.bool y.1, .int .i64 y.2, c]] w fun e w' => e = .returned (.bool (abvT (x, k) (y, l))) ∧ Below w.heap.size w w'

set_option maxRecDepth 100000 in
set_option maxHeartbeats 1000000 in
theorem within_of (k : Fo) (ih : ∀ t ∈ k.list, AbvSaid t.1 t.2) (l : Fo) (a c : Value) (w : World) (gk : ∀ t ∈ k.list, Gd t) (gl : ∀ t ∈ l.list, Gd t) (hS : SIn w k a) (hU : SIn w l c) (hbk : tszR k ≤ 1000000000000) (hbl : tszR l ≤ 1000000000000) :
    Calls Tryz.prog 116 #[a, c] w fun e w' => e = .returned (.bool (lexF k l)) ∧ Below w.heap.size w w' := by
  have HI := hide ih
  have Hgk := hide gk
  have Hgl := hide gl
  have Hbk := hide hbk
  have Hbl := hide hbl
  obtain ⟨ad, ac, b, o, rfl, had, hlc, hcm, hF⟩ := hS
  obtain ⟨ud, uc, ub, uo, rfl, hud, hulc, hucm, hG⟩ := hU
  have HF := hide hF
  have HG := hide hG
  have Hl := hide (Fo.len_list k)
  have Hl2 := hide (Fo.len_list l)
  have Had := hide had
  have Hud := hide hud
  unfold maxLen at hcm hucm
  clear ih gk gl hbk hbl hF hG had hud
  obtain ⟨M, hM⟩ : ∃ M : Nat, M = min (Fo.len k) (Fo.len l) := ⟨_, rfl⟩
  have hmin := run_min (Fo.len k) (Fo.len l)
  rw [← hM] at hmin
  have hM1 : M ≤ Fo.len k := by omega
  have hM2 : M ≤ Fo.len l := by omega
  have HM3 : Hid (M = Fo.len k ∨ M = Fo.len l) := by unfold Hid; omega
  clear hM
  go_enter Tryz.func116, Tryz.ntmps116
  go_wp2_with fail
  go_loopw [11] (fun i wr => ∃ j : Nat, j ≤ M ∧ i = .int .i64 j ∧ (∀ q, q < j → ∀ t' u' : Tm, k.list[q]? = some t' → l.list[q]? = some u' → sameT t'.1 t'.2 u'.1 u'.2 = true) ∧ Below w.heap.size w wr) (fun i _ => M - (intOf i).toNat)
  case atStart => exact ⟨0, Nat.zero_le _, rfl, fun q hq => by omega, Below.refl _ _⟩
  case round =>
    obtain ⟨j, hj, rfl, hall, hBr⟩ := hrel
    have Hall := hide hall
    have HBr := hide hBr
    clear hall hBr
    by_cases hlt : j < M
    · have hlt' : (j : Int) < (M : Int) := by omega
      have hj1 : (j : Int) < (Fo.len k : Int) := by omega
      have hj2 : (j : Int) < (Fo.len l : Int) := by omega
      have hj0 : (0 : Int) ≤ (j : Int) := by omega
      have e1 := Had.out (by omega)
      have e2 := Hud.out (by omega)
      subst e1 e2
      obtain ⟨⟨⟨tv, tn⟩, tk⟩, ht⟩ : ∃ y, k.list[j]? = some y := ⟨k.list[j]'(by rw [Hl.out]; omega), by simp⟩
      obtain ⟨⟨⟨uv, un⟩, uk⟩, hu⟩ : ∃ y, l.list[j]? = some y := ⟨l.list[j]'(by rw [Hl2.out]; omega), by simp⟩
      obtain ⟨k0, k1, ta, k2, hSt⟩ := (HF.out.below HBr.out).at ht
      obtain ⟨l0, l1, ua, l2, hSu⟩ := (HG.out.below HBr.out).at hu
      have HSt := hide hSt
      have HSu := hide hSu
      obtain ⟨ta1, tc, tb, t4, rfl, -, -, -, -⟩ := hSt
      obtain ⟨ua1, uc1, ub1, u4, rfl, -, -, -, -⟩ := hSu
      have Ht := hide ht
      have Hu := hide hu
      have HcS := hide (fun w' hb => psame_call (x := (tv, tn)) (y := (uv, un)) HSt.out HSu.out w' hb)
      have Hbt : Hid (tszR tk ≤ 1000000000000) := Nat.le_trans (Nat.le_of_lt (sz_mem (x := (false, 0)) (List.mem_of_getElem? ht))) Hbk.out
      have Hbu : Hid (tszR uk ≤ 1000000000000) := Nat.le_trans (Nat.le_of_lt (sz_mem (x := (false, 0)) (List.mem_of_getElem? hu))) Hbl.out
      have HcAb := hide (fun (w' : World) (hb : Below wr.heap.size wr w') => HI.out ((tv, tn), tk) (List.mem_of_getElem? ht) (uv, un) uk _ _ w' (Hgk.out _ (List.mem_of_getElem? ht)) (Hgl.out _ (List.mem_of_getElem? hu)) (HSt.out.below hb) (HSu.out.below hb) Hbt.out Hbu.out)
      have hcur : Below wr.heap.size wr wr.drew := (Below.refl _ _).drew
      clear ht hu
      go_upto_region 4 with fail
      go_cut [23] (fun s23 wy => s23 = .bool (!(sameT (tv, tn) tk (uv, un) uk)) ∧ Below wr.heap.size wr wy)
      case first =>
        go_region_held3 (fun w' => w'.cell? ⟨b, o + j * 3, none⟩ = some (.bool tv) ∧ w'.cell? ⟨b, o + j * 3 + 1, none⟩ = some (.int .i64 tn) ∧ w'.cell? ⟨b, o + j * 3 + 2, none⟩ = some (.slice ta1 (Fo.len tk) tc) ∧ w'.cell? ⟨ub, uo + j * 3, none⟩ = some (.bool uv) ∧ w'.cell? ⟨ub, uo + j * 3 + 1, none⟩ = some (.int .i64 un) ∧ w'.cell? ⟨ub, uo + j * 3 + 2, none⟩ = some (.slice ua1 (Fo.len uk) uc1))
          (first
            | (with_reducible exact ⟨grow_cell hcur _ _ k0, grow_cell hcur _ _ k1, grow_cell hcur _ _ k2, grow_cell hcur _ _ l0, grow_cell hcur _ _ l1, grow_cell hcur _ _ l2⟩)
            | go_keep)
          (first
            | (go_at_call 54; with_reducible refine (HcS.out _ hcur).mono ?_; rintro e wS ⟨rfl, hbS⟩; replace hcur := below_step hcur hbS))
        all_goals
          go_wp2_with fail
          go_meet
          case rel => exact ⟨rfl, hcur⟩
      case rest =>
        obtain ⟨rfl, hby⟩ := hcut
        generalize wc = wy at *
        cases hs : sameT (tv, tn) tk (uv, un) uk
        · have Hlex := hide (lexF_at (t := ((tv, tn), tk)) (u := ((uv, un), uk)) Hall.out Ht.out Hu.out hs)
          have m0 := grow_cell hby _ _ k0
          have m1 := grow_cell hby _ _ k1
          have m2 := grow_cell hby _ _ k2
          have m3 := grow_cell hby _ _ l0
          have m4 := grow_cell hby _ _ l1
          have m5 := grow_cell hby _ _ l2
          have hcur2 : Below wr.heap.size wr wy.drew := hby.drew
          clear hs hcur k0 k1 k2 l0 l1 l2
          go_upto_region 5 with fail
          go_region_held3 (fun w' => w'.cell? ⟨b, o + j * 3, none⟩ = some (.bool tv) ∧ w'.cell? ⟨b, o + j * 3 + 1, none⟩ = some (.int .i64 tn) ∧ w'.cell? ⟨b, o + j * 3 + 2, none⟩ = some (.slice ta1 (Fo.len tk) tc) ∧ w'.cell? ⟨ub, uo + j * 3, none⟩ = some (.bool uv) ∧ w'.cell? ⟨ub, uo + j * 3 + 1, none⟩ = some (.int .i64 un) ∧ w'.cell? ⟨ub, uo + j * 3 + 2, none⟩ = some (.slice ua1 (Fo.len uk) uc1))
            (first
              | exact ⟨grow_cell hbS _ _ m0, grow_cell hbS _ _ m1, grow_cell hbS _ _ m2, grow_cell hbS _ _ m3, grow_cell hbS _ _ m4, grow_cell hbS _ _ m5⟩
              | go_keep)
            (first
              | (go_at_call 98; with_reducible refine (HcAb.out _ hcur2).mono ?_; rintro e wS ⟨rfl, hbS⟩; replace hcur2 := below_step hcur2 hbS))
          all_goals
            have Hend := hide (below_step HBr.out hcur2)
            clear hbS
            go_wp2_with fail
            go_ret
            exact ⟨by rw [Hlex.out]; rfl, Hend.out⟩
        · have Hnx : Hid (∀ q, q < j + 1 → ∀ t' u' : Tm, k.list[q]? = some t' → l.list[q]? = some u' → sameT t'.1 t'.2 u'.1 u'.2 = true) := fun q hq t' u' e1 e2 => by
            by_cases e : q = j
            · subst e
              rw [Ht.out] at e1
              rw [Hu.out] at e2
              cases e1
              cases e2
              exact hs
            · exact Hall.out q (by omega) t' u' e1 e2
          have Hb3 := hide (below_step HBr.out hby)
          clear hs hcur k0 k1 k2 l0 l1 l2
          go_wp2_with fail
          go_roundw
          case rel => exact ⟨j + 1, by omega, by go_num, Hnx.out, Hb3.out⟩
          case measure => simp [intOf]; omega
    · have Hlex : Hid (lexF k l = false) := lexF_end (fun q t' u' e1 e2 => Hall.out q (by
        have h1 := (List.getElem?_eq_some_iff.1 e1).1
        have h2 := (List.getElem?_eq_some_iff.1 e2).1
        rw [Hl.out] at h1
        rw [Hl2.out] at h2
        have h3 := HM3.out
        omega) t' u' e1 e2)
      have hlt' : ¬ (j : Int) < (M : Int) := by omega
      go_wp2_with fail
      go_ret
      exact ⟨by rw [Hlex.out]; rfl, HBr.out⟩

set_option maxRecDepth 100000 in
set_option maxHeartbeats 2000000 in
theorem above_any (x : Bool × Int) (k : Fo) : AbvSaid x k := by
  refine Fo.ind1 (p := AbvSaid) ?_ x k
  clear x k
  intro x k ih y l a c w ga gb hS hU hbk hbl
  obtain ⟨xv, n⟩ := x
  obtain ⟨yv, m⟩ := y
  have HI := hide ih
  have HS := hide hS
  have HU := hide hU
  have Hbk := hide hbk
  have Hbl := hide hbl
  have Hga := hide ga
  have Hgb := hide gb
  obtain ⟨ad, ac, b, o, rfl, -, -, -, -⟩ := hS
  obtain ⟨ud, uc, ub, uo, rfl, -, -, -, -⟩ := hU
  clear ih hbk hbl ga gb
  cases xv
  · go_enter Tryz.func98, Tryz.ntmps98
    go_wp2_with fail
    generalize hW2 : (w.alloc (.cells #[.bool false, .int .i64 n, .slice ad (Fo.len k) ac] 36)).alloc (.cells #[.bool yv, .int .i64 m, .slice ud (Fo.len l) uc] 36) = W2
    have hB2 : Below w.heap.size w W2 := by rw [← hW2]; exact (below_alloc _ _).alloc (by simp) _
    have p0 : W2.cell? ⟨w.heap.size, 0, none⟩ = some (.bool false) := by rw [← hW2, World.cell?_alloc_lt _ _ _ (by simp)]; exact new_cell rfl
    have p1 : W2.cell? ⟨w.heap.size, 1, none⟩ = some (.int .i64 n) := by rw [← hW2, World.cell?_alloc_lt _ _ _ (by simp)]; exact new_cell rfl
    have p2 : W2.cell? ⟨w.heap.size, 2, none⟩ = some (.slice ad (Fo.len k) ac) := by rw [← hW2, World.cell?_alloc_lt _ _ _ (by simp)]; exact new_cell rfl
    have r0 : W2.cell? ⟨w.heap.size + 1, 0, none⟩ = some (.bool yv) := by rw [← hW2]; exact new_cell (World.size_alloc _ _)
    have r1 : W2.cell? ⟨w.heap.size + 1, 1, none⟩ = some (.int .i64 m) := by rw [← hW2]; exact new_cell (World.size_alloc _ _)
    have r2 : W2.cell? ⟨w.heap.size + 1, 2, none⟩ = some (.slice ud (Fo.len l) uc) := by rw [← hW2]; exact new_cell (World.size_alloc _ _)
    clear hW2
    refine (asOften_any (false, n) k (yv, m) l _ _ W2 Hga.out Hgb.out Hbk.out Hbl.out (HS.out.below hB2) (HU.out.below hB2)).mono ?_
    rintro e w1 ⟨rfl, hb1⟩
    have HB1 := hide (below_step hB2 hb1)
    have q0 := grow_cell hb1 _ _ p0
    have q1 := grow_cell hb1 _ _ p1
    have q2 := grow_cell hb1 _ _ p2
    have t0 := grow_cell hb1 _ _ r0
    have t1 := grow_cell hb1 _ _ r1
    have t2 := grow_cell hb1 _ _ r2
    clear p0 p1 p2 r0 r1 r2 hb1 hB2
    cases hmay : mayT ((false, n), k) ((yv, m), l)
    · have Hf := hide (abv_may hmay)
      clear hmay
      go_wp2_with fail
      go_ret
      exact ⟨by rw [Hf.out]; rfl, HB1.out⟩
    · have Hmay := hide hmay
      have HsA := hide (fun w' hb => psize_call (x := (false, n)) Hga.out.ok (HS.out.below HB1.out) Hbk.out w' hb)
      have HsB := hide (fun w' hb => psize_call (x := (yv, m)) Hgb.out.ok (HU.out.below HB1.out) Hbl.out w' hb)
      have hcur : Below w1.heap.size w1 w1.drew := (Below.refl _ _).drew
      clear hmay
      go_upto_region 3 with fail
      go_cut [5, 6] (fun s5 s6 wx => s5 = .int .i64 (tszR k : Nat) ∧ s6 = .int .i64 (tszR l : Nat) ∧ Below w1.heap.size w1 wx)
      case first =>
        go_region_held3 (fun w' => w'.cell? ⟨w.heap.size, 0, none⟩ = some (.bool false) ∧ w'.cell? ⟨w.heap.size, 1, none⟩ = some (.int .i64 n) ∧ w'.cell? ⟨w.heap.size, 2, none⟩ = some (.slice ad (Fo.len k) ac) ∧ w'.cell? ⟨w.heap.size + 1, 0, none⟩ = some (.bool yv) ∧ w'.cell? ⟨w.heap.size + 1, 1, none⟩ = some (.int .i64 m) ∧ w'.cell? ⟨w.heap.size + 1, 2, none⟩ = some (.slice ud (Fo.len l) uc))
          (first
            | (with_reducible exact ⟨grow_cell hcur _ _ q0, grow_cell hcur _ _ q1, grow_cell hcur _ _ q2, grow_cell hcur _ _ t0, grow_cell hcur _ _ t1, grow_cell hcur _ _ t2⟩)
            | go_keep)
          (first
            | (go_at_call 68; with_reducible refine (HsA.out _ hcur).mono ?_; rintro e wA ⟨rfl, hbA⟩; replace hcur := below_step hcur hbA)
            | (go_at_call 68; with_reducible refine (HsB.out _ hcur).mono ?_; rintro e wB ⟨rfl, hbB⟩; replace hcur := below_step hcur hbB))
        all_goals
          go_wp2_with fail
          go_meet
          case rel => exact ⟨rfl, rfl, hcur⟩
      case rest =>
        obtain ⟨rfl, rfl, hbx⟩ := hcut
        generalize wc = wx at *
        replace q1 := grow_cell hbx _ _ q1
        replace q2 := grow_cell hbx _ _ q2
        replace t0 := grow_cell hbx _ _ t0
        replace t1 := grow_cell hbx _ _ t1
        replace t2 := grow_cell hbx _ _ t2
        have HBx := hide (below_step HB1.out hbx)
        clear hcur q0 hbx
        by_cases hsz : tszR k = tszR l
        · have hne : ((tszR k : Int) != (tszR l : Int)) = false := by rw [hsz]; simp
          have Hsz := hide hsz
          clear hsz
          cases yv
          · by_cases hnm : n = m
            · have Hf := hide (abv_args (y := (false, m)) Hmay.out Hsz.out (by simp [hnm]) (by simp [hnm]))
              have hnb : (n != m) = false := by simp [hnm]
              have HcW := hide (within_of k HI.out l _ _ wx (fun t ht => gd_mem Hga.out rfl ht) (fun t ht => gd_mem Hgb.out rfl ht) (HS.out.below HBx.out) (HU.out.below HBx.out) Hbk.out Hbl.out)
              clear hnm
              go_wp2_with fail
              refine HcW.out.mono ?_
              rintro e w3 ⟨rfl, hb3⟩
              have Hend := hide (below_step HBx.out hb3)
              clear hb3
              go_wp2_with fail
              go_ret
              exact ⟨by rw [Hf.out]; rfl, Hend.out⟩
            · have hnb : (n != m) = true := by simpa using hnm
              by_cases hlt : m < n
              · have Hf := hide (abv_sym (y := (false, m)) Hmay.out Hsz.out (by simp; omega) hlt)
                clear hnm
                go_wp2_with fail
                go_ret
                exact ⟨by rw [Hf.out]; simp, HBx.out⟩
              · have Hf := hide (abv_less (y := (false, m)) Hmay.out Hsz.out (by simp; omega))
                clear hnm
                go_wp2_with fail
                go_ret
                exact ⟨by rw [Hf.out]; simp, HBx.out⟩
          · have Hf := hide (abv_less (y := (true, m)) Hmay.out Hsz.out rfl)
            go_wp2_with fail
            go_ret
            exact ⟨by rw [Hf.out]; rfl, HBx.out⟩
        · have hne : ((tszR k : Int) != (tszR l : Int)) = true := by rw [ne_dec]; exact decide_eq_true hsz
          have Hf := hide (abv_size Hmay.out hsz)
          clear hsz
          go_wp2_with fail
          go_ret
          exact ⟨by rw [Hf.out]; simp, HBx.out⟩
  · go_enter Tryz.func98, Tryz.ntmps98
    have Hb2 : Hid (Below w.heap.size w ((w.alloc (.cells #[.bool true, .int .i64 n, .slice ad (Fo.len k) ac] 36)).alloc (.cells #[.bool yv, .int .i64 m, .slice ud (Fo.len l) uc] 36))) := (below_alloc _ _).alloc (by simp) _
    go_wp2_with fail
    go_ret
    exact ⟨rfl, Hb2.out⟩

set_option maxRecDepth 100000 in
set_option maxHeartbeats 1000000 in
theorem compare_any (x : Bool × Int) (k : Fo) (y : Bool × Int) (l : Fo) (a c : Value) (w : World) (ga : Gd (x, k)) (gb : Gd (y, l)) (hS : SIn w k a) (hU : SIn w l c) (hbk : tszR k ≤ 1000000000000) (hbl : tszR l ≤ 1000000000000) :
    Calls Tryz.prog 69 #[.agg #[.bool x.1, .int .i64 x.2, a], .agg #[.bool y.1, .int .i64 y.2, c]] w fun e w' => e = .returned (.int .i64 (cmpT (x, k) (y, l))) ∧ Below w.heap.size w w' := by
  obtain ⟨xv, n⟩ := x
  obtain ⟨yv, m⟩ := y
  have Hga := hide ga
  have Hgb := hide gb
  have HS := hide hS
  have HU := hide hU
  have Hbk := hide hbk
  have Hbl := hide hbl
  obtain ⟨ad, ac, b, o, rfl, -, -, -, -⟩ := hS
  obtain ⟨ud, uc, ub, uo, rfl, -, -, -, -⟩ := hU
  clear hbk hbl ga gb
  go_enter Tryz.func69, Tryz.ntmps69
  go_wp2_with fail
  generalize hW2 : (w.alloc (.cells #[.bool xv, .int .i64 n, .slice ad (Fo.len k) ac] 36)).alloc (.cells #[.bool yv, .int .i64 m, .slice ud (Fo.len l) uc] 36) = W2
  have hB2 : Below w.heap.size w W2 := by rw [← hW2]; exact (below_alloc _ _).alloc (by simp) _
  have p0 : W2.cell? ⟨w.heap.size, 0, none⟩ = some (.bool xv) := by rw [← hW2, World.cell?_alloc_lt _ _ _ (by simp)]; exact new_cell rfl
  have p1 : W2.cell? ⟨w.heap.size, 1, none⟩ = some (.int .i64 n) := by rw [← hW2, World.cell?_alloc_lt _ _ _ (by simp)]; exact new_cell rfl
  have p2 : W2.cell? ⟨w.heap.size, 2, none⟩ = some (.slice ad (Fo.len k) ac) := by rw [← hW2, World.cell?_alloc_lt _ _ _ (by simp)]; exact new_cell rfl
  have r0 : W2.cell? ⟨w.heap.size + 1, 0, none⟩ = some (.bool yv) := by rw [← hW2]; exact new_cell (World.size_alloc _ _)
  have r1 : W2.cell? ⟨w.heap.size + 1, 1, none⟩ = some (.int .i64 m) := by rw [← hW2]; exact new_cell (World.size_alloc _ _)
  have r2 : W2.cell? ⟨w.heap.size + 1, 2, none⟩ = some (.slice ud (Fo.len l) uc) := by rw [← hW2]; exact new_cell (World.size_alloc _ _)
  clear hW2
  refine (same_any (xv, n) k (yv, m) l _ _ W2 (HS.out.below hB2) (HU.out.below hB2)).mono ?_
  rintro e w3 ⟨rfl, hb3⟩
  have hB3 := below_step hB2 hb3
  cases hs : sameT (xv, n) k (yv, m) l
  · have q0 := grow_cell hb3 _ _ p0
    have q1 := grow_cell hb3 _ _ p1
    have q2 := grow_cell hb3 _ _ p2
    have t0 := grow_cell hb3 _ _ r0
    have t1 := grow_cell hb3 _ _ r1
    have t2 := grow_cell hb3 _ _ r2
    have Hs := hide hs
    clear p0 p1 p2 r0 r1 r2 hs hb3 hB2
    go_wp2_with fail
    refine (above_any (xv, n) k (yv, m) l _ _ w3 Hga.out Hgb.out (HS.out.below hB3) (HU.out.below hB3) Hbk.out Hbl.out).mono ?_
    rintro e w4 ⟨rfl, hb4⟩
    have hB4 := below_step hB3 hb4
    cases h1 : abvT ((xv, n), k) ((yv, m), l)
    · have a0 := grow_cell hb4 _ _ q0
      have a1 := grow_cell hb4 _ _ q1
      have a2 := grow_cell hb4 _ _ q2
      have a3 := grow_cell hb4 _ _ t0
      have a4 := grow_cell hb4 _ _ t1
      have a5 := grow_cell hb4 _ _ t2
      have H1 := hide h1
      clear q0 q1 q2 t0 t1 t2 h1 hb4 hB3
      go_wp2_with fail
      refine (above_any (yv, m) l (xv, n) k _ _ w4 Hgb.out Hga.out (HU.out.below hB4) (HS.out.below hB4) Hbl.out Hbk.out).mono ?_
      rintro e w5 ⟨rfl, hb5⟩
      have hB5 := below_step hB4 hb5
      cases h2 : abvT ((yv, m), l) ((xv, n), k)
      · have Hf : Hid (cmpT ((xv, n), k) ((yv, m), l) = 0) := by simp [Hid, cmpT, Hs.out, H1.out, h2]
        clear h2
        go_wp2_with fail
        go_ret
        exact ⟨by rw [Hf.out]; rfl, hB5⟩
      · have Hf : Hid (cmpT ((xv, n), k) ((yv, m), l) = 1) := by simp [Hid, cmpT, Hs.out, H1.out, h2]
        clear h2
        go_wp2_with fail
        go_ret
        exact ⟨by rw [Hf.out]; rfl, hB5⟩
    · have Hf : Hid (cmpT ((xv, n), k) ((yv, m), l) = 3) := by simp [Hid, cmpT, Hs.out, h1]
      clear h1
      go_wp2_with fail
      go_ret
      exact ⟨by rw [Hf.out]; rfl, hB4⟩
  · have Hf : Hid (cmpT ((xv, n), k) ((yv, m), l) = 2) := by simp [Hid, cmpT, hs]
    clear hs
    go_wp2_with fail
    go_ret
    exact ⟨by rw [Hf.out]; rfl, hB3⟩

end Go.Proofs.YtfckelbdageenabGreatDoor

/- Which literals tell of the same terms; which are large. -/
namespace Go.Proofs.YtfckelbdageenabGreatDoor
open Go.RowKit Go.Deep Go.ChangeShapes Go.WideShapes

/-- A literal in a box of its own. -/
structure LBox (w : World) (b : Nat) (l : Lt) (a d : Value) : Prop where
  c0 : w.cell? ⟨b, 0, none⟩ = some (.bool l.1)
  c1 : w.cell? ⟨b, 1, none⟩ = some (.bool l.2.1.1.1)
  c2 : w.cell? ⟨b, 2, none⟩ = some (.int .i64 l.2.1.1.2)
  c3 : w.cell? ⟨b, 3, none⟩ = some a
  c4 : w.cell? ⟨b, 4, none⟩ = some (.bool l.2.2.1.1)
  c5 : w.cell? ⟨b, 5, none⟩ = some (.int .i64 l.2.2.1.2)
  c6 : w.cell? ⟨b, 6, none⟩ = some d
  sa : SIn w l.2.1.2 a
  sd : SIn w l.2.2.2 d
theorem LBox.below {w w' : World} (hb : Below w.heap.size w w') {b : Nat} {l : Lt} {a d : Value} (h : LBox w b l a d) : LBox w' b l a d :=
  ⟨grow_cell hb _ _ h.c0, grow_cell hb _ _ h.c1, grow_cell hb _ _ h.c2, grow_cell hb _ _ h.c3, grow_cell hb _ _ h.c4, grow_cell hb _ _ h.c5, grow_cell hb _ _ h.c6, h.sa.below hb, h.sd.below hb⟩

set_option maxRecDepth 100000 in
set_option maxHeartbeats 2000000 in
theorem ofSame_any (p q : Lt) (a d b c : Value) (w : World) (h1 : SIn w p.2.1.2 a) (h2 : SIn w p.2.2.2 d) (h3 : SIn w q.2.1.2 b) (h4 : SIn w q.2.2.2 c) :
    Calls Tryz.prog 72 #[litA p a d, litA q b c] w fun e w' => e = .returned (.bool (likeL p q)) ∧ Below w.heap.size w w' := by
  obtain ⟨pn, ⟨⟨pv, pi⟩, pk⟩, ⟨⟨pv', pi'⟩, pk'⟩⟩ := p
  obtain ⟨qn, ⟨⟨qv, qi⟩, qk⟩, ⟨⟨qv', qi'⟩, qk'⟩⟩ := q
  have H1 := hide h1
  have H2 := hide h2
  have H3 := hide h3
  have H4 := hide h4
  obtain ⟨a1, a3, _, _, rfl, -, -, -, -⟩ := h1
  obtain ⟨d1, d3, _, _, rfl, -, -, -, -⟩ := h2
  obtain ⟨b1, b3, _, _, rfl, -, -, -, -⟩ := h3
  obtain ⟨c1, c3, _, _, rfl, -, -, -, -⟩ := h4
  simp only at *
  go_enter Tryz.func72, Tryz.ntmps72
  go_wp2_with fail
  refine (same_any (pv, pi) pk (qv, qi) qk _ _ _ ((H1.out.alloc _).alloc _) ((H3.out.alloc _).alloc _)).mono ?_
  rintro e w1 ⟨rfl, hb1⟩
  obtain ⟨-, e1, e2, e3, e4, e5, e6, -, hB1, hl1⟩ := lit_cells hb1
  obtain ⟨-, f1, f2, f3, f4, f5, f6, -, hB2, hl2⟩ := lit_cells hB1
  simp only [World.size_alloc] at e1 e2 e3 e4 e5 e6
  clear hb1 hB1
  have H1' := hide (H1.out.below hB2)
  have H2' := hide (H2.out.below hB2)
  have H3' := hide (H3.out.below hB2)
  have H4' := hide (H4.out.below hB2)
  cases he : sameT (pv, pi) pk (qv, qi) qk
  · go_wp2_with fail
    refine (same_any (pv, pi) pk (qv', qi') qk' _ _ _ H1'.out H4'.out).mono ?_
    rintro e w2 ⟨rfl, hb2⟩
    have g4 := grow_cell hb2 _ _ e1
    have g5 := grow_cell hb2 _ _ e2
    have g6 := grow_cell hb2 _ _ e3
    have k4 := grow_cell hb2 _ _ f4
    have k5 := grow_cell hb2 _ _ f5
    have k6 := grow_cell hb2 _ _ f6
    clear e1 e2 e3 e4 e5 e6 f1 f2 f3 f4 f5 f6
    cases he2 : sameT (pv, pi) pk (qv', qi') qk'
    · go_wp2_with fail
      go_ret
      exact ⟨by simp [likeL, he, he2], below_step hB2 hb2⟩
    · go_wp2_with fail
      refine (same_any (pv', pi') pk' (qv, qi) qk _ _ _ (H2'.out.below hb2) (H3'.out.below hb2)).mono ?_
      rintro e w3 ⟨rfl, hb3⟩
      go_wp2_with fail
      go_ret
      exact ⟨by simp [likeL, he, he2], below_step (below_step hB2 hb2) hb3⟩
  · go_wp2_with fail
    refine (same_any (pv', pi') pk' (qv', qi') qk' _ _ _ H2'.out H4'.out).mono ?_
    rintro e w2 ⟨rfl, hb2⟩
    have g1 := grow_cell hb2 _ _ e1
    have g2 := grow_cell hb2 _ _ e2
    have g3 := grow_cell hb2 _ _ e3
    have g4 := grow_cell hb2 _ _ e4
    have g5 := grow_cell hb2 _ _ e5
    have g6 := grow_cell hb2 _ _ e6
    have k1 := grow_cell hb2 _ _ f1
    have k2 := grow_cell hb2 _ _ f2
    have k3 := grow_cell hb2 _ _ f3
    have k4 := grow_cell hb2 _ _ f4
    have k5 := grow_cell hb2 _ _ f5
    have k6 := grow_cell hb2 _ _ f6
    clear e1 e2 e3 e4 e5 e6 f1 f2 f3 f4 f5 f6
    cases he2 : sameT (pv', pi') pk' (qv', qi') qk'
    · go_wp2_with fail
      refine (same_any (pv, pi) pk (qv', qi') qk' _ _ _ (H1'.out.below hb2) (H4'.out.below hb2)).mono ?_
      rintro e w3 ⟨rfl, hb3⟩
      have g1' := grow_cell hb3 _ _ g1
      have g2' := grow_cell hb3 _ _ g2
      have g3' := grow_cell hb3 _ _ g3
      have k4' := grow_cell hb3 _ _ k4
      have k5' := grow_cell hb3 _ _ k5
      have k6' := grow_cell hb3 _ _ k6
      clear g1 g2 g3 g4 g5 g6 k1 k2 k3 k4 k5 k6
      cases he3 : sameT (pv, pi) pk (qv', qi') qk'
      · go_wp2_with fail
        go_ret
        exact ⟨by simp [likeL, he, he2, he3], below_step (below_step hB2 hb2) hb3⟩
      · go_wp2_with fail
        refine (same_any (pv', pi') pk' (qv, qi) qk _ _ _ ((H2'.out.below hb2).below hb3) ((H3'.out.below hb2).below hb3)).mono ?_
        rintro e w4 ⟨rfl, hb4⟩
        go_wp2_with fail
        go_ret
        exact ⟨by simp [likeL, he, he2, he3], below_step (below_step (below_step hB2 hb2) hb3) hb4⟩
    · go_wp2_with fail
      go_ret
      exact ⟨by simp [likeL, he, he2], below_step hB2 hb2⟩

set_option maxRecDepth 100000 in
set_option maxHeartbeats 1000000 in
theorem dclo_any (p l : Lt) (a d b c : Value) (lb : Nat) (w : World) (h1 : SIn w p.2.1.2 a) (h2 : SIn w p.2.2.2 d) (hl : LBox w lb l b c) :
    Calls Tryz.prog 71 #[litA p a d, .pointer (some ⟨lb, 0, none⟩)] w fun e w' => e = .returned (.bool (likeL p l)) ∧ Below w.heap.size w w' := by
  obtain ⟨pn, ⟨⟨pv, pi⟩, pk⟩, ⟨⟨pv', pi'⟩, pk'⟩⟩ := p
  obtain ⟨qn, ⟨⟨qv, qi⟩, qk⟩, ⟨⟨qv', qi'⟩, qk'⟩⟩ := l
  have H1 := hide h1
  have H2 := hide h2
  obtain ⟨q0, q1, q2, q3, q4, q5, q6, h3, h4⟩ := hl
  have H3 := hide h3
  have H4 := hide h4
  obtain ⟨a1, a3, _, _, rfl, -, -, -, -⟩ := h1
  obtain ⟨d1, d3, _, _, rfl, -, -, -, -⟩ := h2
  obtain ⟨b1, b3, _, _, rfl, -, -, -, -⟩ := h3
  obtain ⟨c1, c3, _, _, rfl, -, -, -, -⟩ := h4
  simp only at *
  have hlb : lb < w.heap.size := World.block_lt_of_cell? _ _ q0
  go_enter Tryz.func71, Tryz.ntmps71
  go_wp2_with fail
  refine (ofSame_any (pn, ((pv, pi), pk), ((pv', pi'), pk')) (qn, ((qv, qi), qk), ((qv', qi'), qk')) _ _ _ _ _ (H1.out.alloc _) (H2.out.alloc _) (H3.out.alloc _) (H4.out.alloc _)).mono ?_
  rintro e w1 ⟨rfl, hb1⟩
  go_wp2_with fail
  go_ret
  exact ⟨rfl, below_box hb1⟩

set_option maxRecDepth 100000 in
set_option maxHeartbeats 1000000 in
theorem large_any (p : Lt) (a d : Value) (w : World) (h1 : SIn w p.2.1.2 a) (h2 : SIn w p.2.2.2 d) (ok1 : okT p.2.1) (ok2 : okT p.2.2) (b1 : tszR p.2.1.2 ≤ 1000000000000) (b2 : tszR p.2.2.2 ≤ 1000000000000) :
    Calls Tryz.prog 44 #[litA p a d] w fun e w' => e = .returned (.bool (bigL p)) ∧ Below w.heap.size w w' := by
  obtain ⟨pn, ⟨⟨pv, pi⟩, pk⟩, ⟨⟨pv', pi'⟩, pk'⟩⟩ := p
  have H1 := hide h1
  have H2 := hide h2
  obtain ⟨a1, a3, _, _, rfl, -, -, -, -⟩ := h1
  obtain ⟨d1, d3, _, _, rfl, -, -, -, -⟩ := h2
  simp only at *
  go_enter Tryz.func44, Tryz.ntmps44
  go_wp2_with fail
  refine (psize_call ok1 (H1.out.alloc _) b1 _ (Below.refl _ _)).mono ?_
  rintro e w1 ⟨rfl, hb1⟩
  obtain ⟨-, e1, e2, e3, e4, e5, e6, -, hB1, hl1⟩ := lit_cells hb1
  have H2' := hide (H2.out.below hB1)
  clear hb1
  by_cases hl : 12 < tszR pk
  · go_wp2_with fail
    go_ret
    exact ⟨by simp [bigL, hl], hB1⟩
  · go_wp2_with fail
    refine (psize_call ok2 H2'.out b2 _ (Below.refl _ _)).mono ?_
    rintro e w2 ⟨rfl, hb2⟩
    have Hb : Hid (bigL (pn, ((pv, pi), pk), ((pv', pi'), pk')) = (decide ((12 : Int) < (tszR pk : Nat)) || decide ((12 : Int) < (tszR pk' : Nat)))) := by
      show bigL _ = _
      rw [Bool.eq_iff_iff]
      simp only [bigL, Bool.or_eq_true, decide_eq_true_eq]
      omega
    go_wp2_with fail
    go_ret
    refine ⟨?_, below_step hB1 hb2⟩
    rw [Hb.out]
    rfl

theorem find_first {pr : Lt → Bool} {f : Lt} : ∀ {s : Cl} {j : Nat}, (∀ q p, q < j → s[q]? = some p → pr p = false) → s[j]? = some f → pr f = true → s.find? pr = some f
  | [], _, _, h, _ => by simp at h
  | p :: s, 0, _, h, hp => by
    simp only [List.getElem?_cons_zero, Option.some.injEq] at h
    subst h
    simp [List.find?, hp]
  | p :: s, j + 1, hq, h, hp => by
    have h0 := hq 0 p (by omega) (by simp)
    rw [List.find?_cons, h0]
    exact find_first (j := j) (fun q r hqr hr => hq (q + 1) r (by omega) (by simpa using hr)) (by simpa using h) hp
theorem find_all {pr : Lt → Bool} {s : Cl} (h : ∀ q p, q < s.length → s[q]? = some p → pr p = false) : s.find? pr = none := by
  rw [List.find?_eq_none]
  intro p hp
  obtain ⟨i, hi, e⟩ := List.mem_iff_getElem.1 hp
  simp [h i p hi (by rw [List.getElem?_eq_getElem hi, e])]
/-- Which literal is the first one of that kind. -/
def FoundL (s : Cl) (pr : Lt → Bool) (i : Int) : Prop := (i = -1 ∧ s.find? pr = none) ∨ ∃ (j : Nat) (f : Lt), i = j ∧ s[j]? = some f ∧ s.find? pr = some f

set_option maxRecDepth 100000 in
set_option maxHeartbeats 1000000 in
theorem indexD_any (s : Cl) (l : Lt) (lb : Nat) (lb1 lb2 : Value) (vs : Value) (w : World) (hS : CIn w s vs) (hl : LBox w lb l lb1 lb2) :
    Calls Tryz.prog 70 #[vs, .func (.func 71) #[] #[.pointer (some ⟨lb, 0, none⟩)]] w fun e w' => ∃ i, e = .returned (.int .i64 i) ∧ FoundL s (fun f => likeL f l) i ∧ Below w.heap.size w w' := by
  obtain ⟨ad, c, b, o, rfl, had, hlc, hcm, hP⟩ := hS
  unfold maxLen at hcm
  have HP := hide hP
  have HL := hide hl
  clear hl
  clear hP
  go_enter Tryz.func70, Tryz.ntmps70
  go_wp2_with fail
  go_loopw [8] (fun i wr => ∃ j : Nat, j ≤ s.length ∧ i = .int .i64 j ∧ (∀ q p, q < j → s[q]? = some p → likeL p l = false) ∧ Below w.heap.size w wr) (fun i _ => s.length - (intOf i).toNat)
  case atStart => exact ⟨0, Nat.zero_le _, rfl, fun q _ hq => by omega, Below.refl _ _⟩
  case round =>
    obtain ⟨j, hj, rfl, hno, hBr⟩ := hrel
    have Hno := hide hno
    clear hno
    by_cases hlt : j < s.length
    · have hlt' : (j : Int) < (s.length : Int) := by omega
      obtain ⟨⟨yn, ⟨⟨yv, yi⟩, yk⟩, ⟨yv', yi'⟩, yk'⟩, hy⟩ : ∃ y, s[j]? = some y := ⟨s[j], by simp [hlt]⟩
      obtain ⟨p0, p1, p2, ⟨u3, p3, hA⟩, p4, p5, u6, p6, hD⟩ := (HP.out.below hBr).at hy
      have HA := hide hA
      have HD := hide hD
      obtain ⟨_, _, _, _, rfl, -, -, -, -⟩ := hA
      obtain ⟨_, _, _, _, rfl, -, -, -, -⟩ := hD
      have ha : ad = some ⟨b, o, none⟩ := had (by omega)
      subst ha
      have Hy := hide hy
      clear hy had
      simp only at *
      go_wp2_with fail
      refine (dclo_any (yn, ((yv, yi), yk), ((yv', yi'), yk')) l _ _ _ _ lb _ HA.out HD.out (HL.out.below hBr)).mono ?_
      rintro e w2 ⟨rfl, hb2⟩
      have hB2 := below_step hBr hb2
      simp only
      cases hmb : likeL (yn, ((yv, yi), yk), ((yv', yi'), yk')) l
      · have Hm := hide hmb
        clear hmb hb2
        go_wp2_with fail
        go_roundw
        case rel => exact ⟨j + 1, by omega, by go_num, fun q p hq hp => by
          by_cases e : q = j
          · subst e; rw [Hy.out] at hp; cases hp; exact Hm.out
          · exact Hno.out q p (by omega) hp, hB2⟩
        case measure => simp [intOf]; omega
      · have Hf : Hid (FoundL s (fun f => likeL f l) (j : Int)) := .inr ⟨j, _, rfl, Hy.out, find_first Hno.out Hy.out hmb⟩
        clear hmb hb2
        go_wp2_with fail
        go_ret
        exact ⟨_, rfl, Hf.out, hB2⟩
    · have Hf : Hid (FoundL s (fun f => likeL f l) (-1)) := .inl ⟨rfl, find_all fun q p hq hp => Hno.out q p (by omega) hp⟩
      go_wp2_with fail
      go_ret
      exact ⟨_, rfl, Hf.out, hBr⟩

set_option maxRecDepth 100000 in
set_option maxHeartbeats 1000000 in
theorem indexG_any (s : Cl) (vs : Value) (w : World) (hS : CIn w s vs) (hg : ∀ p ∈ s, okL p ∧ tszR p.2.1.2 ≤ 1000000000000 ∧ tszR p.2.2.2 ≤ 1000000000000) :
    Calls Tryz.prog 70 #[vs, .func (.func 44) #[] #[]] w fun e w' => ∃ i, e = .returned (.int .i64 i) ∧ FoundL s bigL i ∧ Below w.heap.size w w' := by
  obtain ⟨ad, c, b, o, rfl, had, hlc, hcm, hP⟩ := hS
  unfold maxLen at hcm
  have HP := hide hP
  have HG := hide hg
  clear hg
  clear hP
  go_enter Tryz.func70, Tryz.ntmps70
  go_wp2_with fail
  go_loopw [8] (fun i wr => ∃ j : Nat, j ≤ s.length ∧ i = .int .i64 j ∧ (∀ q p, q < j → s[q]? = some p → bigL p = false) ∧ Below w.heap.size w wr) (fun i _ => s.length - (intOf i).toNat)
  case atStart => exact ⟨0, Nat.zero_le _, rfl, fun q _ hq => by omega, Below.refl _ _⟩
  case round =>
    obtain ⟨j, hj, rfl, hno, hBr⟩ := hrel
    have Hno := hide hno
    clear hno
    by_cases hlt : j < s.length
    · have hlt' : (j : Int) < (s.length : Int) := by omega
      obtain ⟨⟨yn, ⟨⟨yv, yi⟩, yk⟩, ⟨yv', yi'⟩, yk'⟩, hy⟩ : ∃ y, s[j]? = some y := ⟨s[j], by simp [hlt]⟩
      obtain ⟨p0, p1, p2, ⟨u3, p3, hA⟩, p4, p5, u6, p6, hD⟩ := (HP.out.below hBr).at hy
      have HA := hide hA
      have HD := hide hD
      obtain ⟨_, _, _, _, rfl, -, -, -, -⟩ := hA
      obtain ⟨_, _, _, _, rfl, -, -, -, -⟩ := hD
      have ha : ad = some ⟨b, o, none⟩ := had (by omega)
      subst ha
      have Hy := hide hy
      clear hy had
      simp only at *
      go_wp2_with fail
      refine (large_any (yn, ((yv, yi), yk), ((yv', yi'), yk')) _ _ _ HA.out HD.out (HG.out _ (List.mem_of_getElem? Hy.out)).1.1 (HG.out _ (List.mem_of_getElem? Hy.out)).1.2 (HG.out _ (List.mem_of_getElem? Hy.out)).2.1 (HG.out _ (List.mem_of_getElem? Hy.out)).2.2).mono ?_
      rintro e w2 ⟨rfl, hb2⟩
      have hB2 := below_step hBr hb2
      simp only
      cases hmb : bigL (yn, ((yv, yi), yk), ((yv', yi'), yk'))
      · have Hm := hide hmb
        clear hmb hb2
        go_wp2_with fail
        go_roundw
        case rel => exact ⟨j + 1, by omega, by go_num, fun q p hq hp => by
          by_cases e : q = j
          · subst e; rw [Hy.out] at hp; cases hp; exact Hm.out
          · exact Hno.out q p (by omega) hp, hB2⟩
        case measure => simp [intOf]; omega
      · have Hf : Hid (FoundL s bigL (j : Int)) := .inr ⟨j, _, rfl, Hy.out, find_first Hno.out Hy.out hmb⟩
        clear hmb hb2
        go_wp2_with fail
        go_ret
        exact ⟨_, rfl, Hf.out, hB2⟩
    · have Hf : Hid (FoundL s bigL (-1)) := .inl ⟨rfl, find_all fun q p hq hp => Hno.out q p (by omega) hp⟩
      go_wp2_with fail
      go_ret
      exact ⟨_, rfl, Hf.out, hBr⟩

set_option maxRecDepth 100000 in
set_option maxHeartbeats 1000000 in
theorem containsG_any (s : Cl) (vs : Value) (w : World) (hS : CIn w s vs) (hg : ∀ p ∈ s, okL p ∧ tszR p.2.1.2 ≤ 1000000000000 ∧ tszR p.2.2.2 ≤ 1000000000000) :
    Calls Tryz.prog 43 #[vs, .func (.func 44) #[] #[]] w fun e w' => e = .returned (.bool (s.any bigL)) ∧ Below w.heap.size w w' := by
  have HS := hide hS
  obtain ⟨a1, c1, b1, o1, rfl, -, -, -, -⟩ := hS
  go_enter Tryz.func43, Tryz.ntmps43
  go_wp2_with fail
  refine (indexG_any s _ _ HS.out hg).mono ?_
  rintro e w2 ⟨i, rfl, hf, hb2⟩
  rcases hf with ⟨rfl, hf⟩ | ⟨j, f, rfl, hj, hf⟩
  · have Hf : Hid (s.any bigL = false) := by
      rw [Hid, List.any_eq_false]
      exact fun x hx => List.find?_eq_none.1 hf x hx
    clear hf
    go_wp2_with fail
    go_ret
    exact ⟨by rw [Hf.out]; rfl, hb2⟩
  · have Hf : Hid (s.any bigL = true) := List.any_eq_true.2 ⟨f, List.mem_of_getElem? hj, List.find?_some hf⟩
    clear hf hj
    go_wp2_with fail
    go_ret
    refine ⟨?_, hb2⟩
    rw [Hf.out]
    simp

end Go.Proofs.YtfckelbdageenabGreatDoor

/- A clause as it is kept: turn, number, distinct. -/
namespace Go.Proofs.YtfckelbdageenabGreatDoor
open Go.RowKit Go.Deep Go.ChangeShapes Go.WideShapes

theorem cs_lit {w : World} {l : Lt} {a1 d1 : Option Addr} {a2 a3 d2 d3 : Nat} : Cs (w.alloc (.cells #[.bool l.1, .bool l.2.1.1.1, .int .i64 l.2.1.1.2, .slice a1 a2 a3, .bool l.2.2.1.1, .int .i64 l.2.2.1.2, .slice d1 d2 d3] 44)) (.slice (some ⟨w.heap.size, 0, none⟩) 1 1) 1 7 (litV l (.slice a1 a2 a3) (.slice d1 d2 d3)) :=
  ⟨_, 1, rfl, rfl, by simp [Value.oneCell'], fun e => by (cases e), fun ad hh j u hj => by cases hh; exact World.news_of_block (cs := #[.bool l.1, .bool l.2.1.1.1, .int .i64 l.2.1.1.2, .slice a1 a2 a3, .bool l.2.2.1.1, .int .i64 l.2.2.1.2, .slice d1 d2 d3]) (heap_alloc_new w _) j u hj⟩
/-- One literal more, whichever way append took. -/
theorem ownL_more {lo : Nat} {wr w3 w4 : World} {s : Cl} {v v4 : Value} {xs : List Value} {l : Lt} {a d : Value} (h : OwnL lo (XO wr v) wr s v xs) (hb : Below wr.heap.size wr w3) (hlo : lo ≤ wr.heap.size)
    (hA : SB (fun q => q < lo) w3 l.2.1.2 a) (hD : SB (fun q => q < lo) w3 l.2.2.2 d)
    (ho : w4.ownsRow lo 44 7 v4 (s.length + 1) (xs ++ litV l a d)) (hg : w3.grownBy w4 v.ownBlock) (hat : v4.ownBlock = v.ownBlock ∨ v4.ownBlock = some w3.heap.size) :
    OwnL lo (XO w4 v4) w4 (s ++ [l]) v4 (xs ++ litV l a d) ∧ Below lo wr w4 := by
  have hs := hb.size
  have hs4 := hg.size
  have hv : ∀ q, v.ownBlock = some q → lo ≤ q ∧ q < wr.heap.size := fun q hq => owns_at h.row q hq
  have noq : ∀ q, q < w3.heap.size → some q ≠ v.ownBlock → q < w4.heap.size ∧ some q ≠ v4.ownBlock := fun q hq hn => by
    refine ⟨by omega, fun e => ?_⟩
    rcases hat with e' | e'
    · exact hn (e.trans e')
    · rw [e'] at e; simp at e; omega
  have ok : ∀ q, q < lo → q < w3.heap.size ∧ some q ≠ v.ownBlock := fun q hq => by
    refine ⟨by omega, fun e => ?_⟩
    have := hv q e.symm
    omega
  refine ⟨⟨by simpa using ho, ?_, fun q hq => hq⟩, ⟨hg.os.trans hb.os, hg.tape.trans hb.tape, hg.output.trans hb.output, by omega, fun q hq => ?_⟩⟩
  · refine LC.append (LC.one ?_ ?_) ?_
    · exact hA.frame (fun q hq => noq q (ok q hq).1 (ok q hq).2) (fun q i hq => World.cell?_of_block (hg.block q (ok q hq).1 (ok q hq).2))
    · exact hD.frame (fun q hq => noq q (ok q hq).1 (ok q hq).2) (fun q i hq => World.cell?_of_block (hg.block q (ok q hq).1 (ok q hq).2))
    · refine h.cells.frame (fun q hq => noq q (by have := hq.1; omega) hq.2) (fun q i hq => World.cell?_of_block ?_)
      rw [hg.block q (by have := hq.1; omega) hq.2, hb.block q hq.1]
  · have hn : some q ≠ v.ownBlock := fun e => by have := hv q e.symm; omega
    rw [hg.block q (by omega) hn, hb.block q (by omega)]

theorem cmp_cases (a b : Tm) : cmpT a b = 0 ∨ cmpT a b = 1 ∨ cmpT a b = 2 ∨ cmpT a b = 3 := by
  unfold cmpT
  split
  · simp
  · split
    · simp
    · split <;> simp
theorem cmp_same {a b : Tm} : cmpT a b = 2 ↔ sameT a.1 a.2 b.1 b.2 = true := by
  unfold cmpT
  by_cases h : sameT a.1 a.2 b.1 b.2 = true
  · simp [h]
  · rw [if_neg h]
    constructor
    · intro e
      split at e
      · omega
      · split at e <;> omega
    · exact fun e => absurd e h
theorem cmp_less {a b : Tm} (h : cmpT a b = 1) : abvT b a = true := by
  unfold cmpT at h
  split at h
  · omega
  · split at h
    · omega
    · split at h
      · assumption
      · omega
theorem cmp_else {a b : Tm} (ha : okT a) (hb : okT b) (h : cmpT a b = 0 ∨ cmpT a b = 3) : abvT b a = false := by
  unfold cmpT at h
  split at h
  · omega
  · split at h
    · rename_i h2
      cases e : abvT b a with
      | false => rfl
      | true => exact absurd e (abv_asym ha hb h2)
    · split at h
      · omega
      · rename_i h3; simpa using h3

set_option maxRecDepth 100000 in
set_option maxHeartbeats 4000000 in
theorem turn_any (k : Cl) (a : Value) (w : World) (hS : CIn w k a) (hg : ∀ l ∈ k, Gd l.2.1 ∧ Gd l.2.2 ∧ tszR l.2.1.2 ≤ 1000000000000 ∧ tszR l.2.2.2 ≤ 1000000000000) (hlen : k.length ≤ 1000000) :
    Calls Tryz.prog 40 #[a] w fun e w' => ∃ v er d, e = .returned (.tuple #[v, .int .i64 er]) ∧ CIn w' d v ∧ ((er = 6 ∧ d = [] ∧ turnC k = none) ∨ (er = 0 ∧ turnC k = some d)) ∧ Below w.heap.size w w' := by
  obtain ⟨a1, c1, b1, oo, rfl, had1, hlc1, hcm1, hF1⟩ := hS
  unfold maxLen at hcm1
  have HF1 := hide hF1
  have HG := hide hg
  clear hF1 hg
  obtain ⟨iL, hi, hz0, hz1, hz2⟩ := info_parts Tryz.info44
  go_enter Tryz.func40, Tryz.ntmps40
  go_wp2_with fail
  go_loopw [4, 9] (fun v i wr => ∃ (j : Nat) (out : Cl) (o1 : Option Addr) (o3 : Nat) (xs : List Value), j ≤ k.length ∧ i = .int .i64 j ∧ v = .slice o1 out.length o3 ∧ out.length ≤ j ∧ turnC (k.take j) = some out ∧ OwnL w.heap.size (XO wr v) wr out v xs ∧ Below w.heap.size w wr) (fun _ i _ => k.length - (intOf i).toNat)
  case atStart => exact ⟨0, [], none, 0, [], Nat.zero_le _, rfl, rfl, Nat.le_refl _, rfl, ownL_nil _ _, Below.refl _ _⟩
  case round =>
    obtain ⟨j, out, o1, o3, xs, hj, rfl, rfl, hol, hT, hO, hBr⟩ := hrel
    have HT := hide hT
    have HO := hide hO
    clear hT hO
    have hsr := hBr.size
    by_cases hlt : j < k.length
    · have hlt' : (j : Int) < (k.length : Int) := by omega
      obtain ⟨⟨yn, ⟨⟨yv, yi⟩, yk⟩, ⟨yv', yi'⟩, yk'⟩, hy⟩ : ∃ y, k[j]? = some y := ⟨k[j]'hlt, by simp⟩
      obtain ⟨-, -, -, ⟨u3', p3', hA0⟩, -, -, u6', p6', hD0⟩ := HF1.out.at hy
      obtain ⟨p0, p1, p2, ⟨u3, p3, hA⟩, p4, p5, u6, p6, hD⟩ := (HF1.out.below hBr).at hy
      have e3 : u3' = u3 := by have := grow_cell hBr _ _ p3'; rw [p3] at this; exact (Option.some.inj this).symm
      have e6 : u6' = u6 := by have := grow_cell hBr _ _ p6'; rw [p6] at this; exact (Option.some.inj this).symm
      subst e3 e6
      have ha1 : a1 = some ⟨b1, oo, none⟩ := had1 (by omega)
      subst ha1
      have HA := hide hA
      have HD := hide hD
      have HA0 := hide hA0.toB
      have HD0 := hide hD0.toB
      obtain ⟨ya, yc, _, _, rfl, -, -, -, -⟩ := hA
      obtain ⟨za, zc, _, _, rfl, -, -, -, -⟩ := hD
      have Hgy := hide (HG.out _ (List.mem_of_getElem? hy))
      have Hy := hide hy
      have Hstep : Hid (turnC (k.take (j + 1)) = tstep (some out) (yn, ((yv, yi), yk), ((yv', yi'), yk'))) := by rw [Hid, turn_take hy, HT.out]
      have hn1 : out.length + 1 ≤ maxLen := by unfold maxLen; omega
      have hn2 : (out.length + 1) * 88 ≤ 140737488355328 := by omega
      clear hy had1 p3' p6' hA0 hD0
      simp only at *
      go_wp2_with fail
      refine (compare_any (yv, yi) yk (yv', yi') yk' _ _ _ Hgy.out.1 Hgy.out.2.1 (HA.out.alloc _) (HD.out.alloc _) Hgy.out.2.2.1 Hgy.out.2.2.2).mono ?_
      rintro e w2 ⟨rfl, hb2⟩
      obtain ⟨g0, g1, g2, g3, g4, g5, g6, gf, hb2', hlt2⟩ := lit_cells hb2
      have hB2 := below_step hBr hb2'
      clear hb2 p0 p1 p2 p3 p4 p5 p6
      rcases cmp_cases ((yv, yi), yk) ((yv', yi'), yk') with hc | hc | hc | hc
      · have Hfl : Hid (flipL (yn, ((yv, yi), yk), ((yv', yi'), yk')) = (yn, ((yv, yi), yk), ((yv', yi'), yk'))) := by
          show flipL _ = _
          unfold flipL
          rw [if_neg (by rw [cmp_else Hgy.out.1.ok Hgy.out.2.1.ok (by omega)]; simp)]
        have Hst : Hid (turnC (k.take (j + 1)) = some (out ++ [(yn, ((yv, yi), yk), ((yv', yi'), yk'))])) := by
          show turnC _ = _
          have hns : ¬ sameT (yv, yi) yk (yv', yi') yk' = true := fun h => by have := (cmp_same (a := ((yv, yi), yk)) (b := ((yv', yi'), yk'))).2 h; rw [hc] at this; omega
          rw [Hstep.out, tstep, Option.bind_some, if_neg hns, Hfl.out]
        rw [hc]
        clear hc
        have hb5 : ∀ ob, Below wr.heap.size wr (w2.alloc ob) := fun ob => below_step hb2' (below_alloc _ _)
        go_wp2_with (at_builtin; refine wpList_append_gen rfl (.tmp 31) (.tmp 33) 25 rfl w.heap.size 44 iL (.agg #[.bool false, .bool false, .int .i64 0, .slice none 0 0, .bool false, .int .i64 0, .slice none 0 0]) 7 88 Tryz.underlying25 hi hz0 hz1 hz2 rfl (by decide) (.slice o1 out.length o3) out.length xs rfl (OwnL.below HO.out (hb5 _)).row _ 1 (litV (yn, ((yv, yi), yk), ((yv', yi'), yk')) (.slice ya (Fo.len yk) yc) (.slice za (Fo.len yk') zc)) rfl cs_lit hn1 hn2 (Nat.le_trans hsr (hb5 _).size) ?_; intro v4 w4 ho4 hg4 hat4)
        obtain ⟨hO4, hB4⟩ := ownL_more (l := (yn, ((yv, yi), yk), ((yv', yi'), yk'))) HO.out (hb5 _) hsr (HA0.out.kept (fun q hq => (below_step hBr (hb5 _)).block q hq)) (HD0.out.kept (fun q hq => (below_step hBr (hb5 _)).block q hq)) ho4 hg4 hat4
        obtain ⟨r1, r3, rfl⟩ := slice_of_cl hO4.cl
        have HO4 := hide hO4
        have hBB := hBr.trans hB4
        clear hO4 ho4 hg4 hat4
        go_wp2_with fail
        go_roundw
        case rel => exact ⟨j + 1, _, r1, r3, _, by omega, by go_num, rfl, by simp; omega, Hst.out, HO4.out, hBB⟩
        case measure => simp [intOf]; omega
      · have Hfl : Hid (flipL (yn, ((yv, yi), yk), ((yv', yi'), yk')) = (yn, ((yv', yi'), yk'), ((yv, yi), yk))) := by
          show flipL _ = _
          unfold flipL
          rw [if_pos (cmp_less hc)]
        have Hst : Hid (turnC (k.take (j + 1)) = some (out ++ [(yn, ((yv', yi'), yk'), ((yv, yi), yk))])) := by
          show turnC _ = _
          have hns : ¬ sameT (yv, yi) yk (yv', yi') yk' = true := fun h => by have := (cmp_same (a := ((yv, yi), yk)) (b := ((yv', yi'), yk'))).2 h; rw [hc] at this; omega
          rw [Hstep.out, tstep, Option.bind_some, if_neg hns, Hfl.out]
        rw [hc]
        clear hc
        go_upto_region 11 with fail
        generalize hw3 : ((((((w2.setCell ⟨wr.heap.size, 1, none⟩ (.bool yv')).setCell ⟨wr.heap.size, 2, none⟩ (.int .i64 yi')).setCell ⟨wr.heap.size, 3, none⟩ (.slice za (Fo.len yk') zc)).setCell ⟨wr.heap.size, 4, none⟩ (.bool yv)).setCell ⟨wr.heap.size, 5, none⟩ (.int .i64 yi)).setCell ⟨wr.heap.size, 6, none⟩ (.slice ya (Fo.len yk) yc)) = w3
        have e3 : w3 = setL w2 wr.heap.size 1 [.bool yv', .int .i64 yi', .slice za (Fo.len yk') zc, .bool yv, .int .i64 yi, .slice ya (Fo.len yk) yc] := hw3.symm
        have hb3 : Below wr.heap.size wr w3 := by rw [e3]; exact setL_below (Nat.le_refl _) hb2'
        have at6 := setL_at (b := wr.heap.size) (xs := [.bool yv', .int .i64 yi', .slice za (Fo.len yk') zc, .bool yv, .int .i64 yi, .slice ya (Fo.len yk) yc]) (o := 1) (w := w2) (fun i hi => by
          simp at hi
          rcases i with _ | _ | _ | _ | _ | _ | i
          · exact ⟨_, g1⟩
          · exact ⟨_, g2⟩
          · exact ⟨_, g3⟩
          · exact ⟨_, g4⟩
          · exact ⟨_, g5⟩
          · exact ⟨_, g6⟩
          · omega)
        have k0 : w3.cell? ⟨wr.heap.size, 0, none⟩ = some (.bool yn) := by rw [e3, setL_other (.inr (.inl (by omega)))]; exact g0
        have k1 : w3.cell? ⟨wr.heap.size, 1, none⟩ = some (.bool yv') := by rw [e3]; exact at6 0 _ rfl
        have k2 : w3.cell? ⟨wr.heap.size, 2, none⟩ = some (.int .i64 yi') := by rw [e3]; exact at6 1 _ rfl
        have k3 : w3.cell? ⟨wr.heap.size, 3, none⟩ = some (.slice za (Fo.len yk') zc) := by rw [e3]; exact at6 2 _ rfl
        have k4 : w3.cell? ⟨wr.heap.size, 4, none⟩ = some (.bool yv) := by rw [e3]; exact at6 3 _ rfl
        have k5 : w3.cell? ⟨wr.heap.size, 5, none⟩ = some (.int .i64 yi) := by rw [e3]; exact at6 4 _ rfl
        have k6 : w3.cell? ⟨wr.heap.size, 6, none⟩ = some (.slice ya (Fo.len yk) yc) := by rw [e3]; exact at6 5 _ rfl
        clear at6 e3 hw3 g0 g1 g2 g3 g4 g5 g6 gf
        have hb5 : ∀ ob, Below wr.heap.size wr (w3.alloc ob) := fun ob => below_step hb3 (below_alloc _ _)
        go_wp2_with (at_builtin; refine wpList_append_gen rfl (.tmp 31) (.tmp 33) 25 rfl w.heap.size 44 iL (.agg #[.bool false, .bool false, .int .i64 0, .slice none 0 0, .bool false, .int .i64 0, .slice none 0 0]) 7 88 Tryz.underlying25 hi hz0 hz1 hz2 rfl (by decide) (.slice o1 out.length o3) out.length xs rfl (OwnL.below HO.out (hb5 _)).row _ 1 (litV (yn, ((yv', yi'), yk'), ((yv, yi), yk)) (.slice za (Fo.len yk') zc) (.slice ya (Fo.len yk) yc)) rfl cs_lit hn1 hn2 (Nat.le_trans hsr (hb5 _).size) ?_; intro v4 w4 ho4 hg4 hat4)
        obtain ⟨hO4, hB4⟩ := ownL_more (l := (yn, ((yv', yi'), yk'), ((yv, yi), yk))) HO.out (hb5 _) hsr (HD0.out.kept (fun q hq => (below_step hBr (hb5 _)).block q hq)) (HA0.out.kept (fun q hq => (below_step hBr (hb5 _)).block q hq)) ho4 hg4 hat4
        obtain ⟨r1, r3, rfl⟩ := slice_of_cl hO4.cl
        have HO4 := hide hO4
        have hBB := hBr.trans hB4
        clear hO4 ho4 hg4 hat4
        go_wp2_with fail
        go_roundw
        case rel => exact ⟨j + 1, _, r1, r3, _, by omega, by go_num, rfl, by simp; omega, Hst.out, HO4.out, hBB⟩
        case measure => simp [intOf]; omega
      · have hss : sameT (yv, yi) yk (yv', yi') yk' = true := cmp_same.1 hc
        rw [hc]
        clear hc
        cases yn
        · have Hst : Hid (turnC k = none) := by
            refine turn_stop (j := j + 1) ?_
            rw [Hstep.out]
            simp [tstep, hss]
          clear hss
          go_wp2_with fail
          go_ret2
          exact ⟨_, _, [], rfl, CIn.nil _, .inl ⟨rfl, rfl, Hst.out⟩, hB2⟩
        · have Hst : Hid (turnC (k.take (j + 1)) = some out) := by
            show turnC _ = _
            rw [Hstep.out]
            simp [tstep, hss]
          clear hss
          have HO2 : Hid (OwnL w.heap.size (XO w2 (.slice o1 out.length o3)) w2 out (.slice o1 out.length o3) xs) := (HO.out.below hb2').wide (fun q hq => ⟨by have := hq.1; have := hb2'.size; omega, hq.2⟩) (fun _ h => h)
          go_wp2_with fail
          go_roundw
          case rel => exact ⟨j + 1, _, o1, o3, _, by omega, by go_num, rfl, by omega, Hst.out, HO2.out, hB2⟩
          case measure => simp [intOf]; omega
      · have Hfl : Hid (flipL (yn, ((yv, yi), yk), ((yv', yi'), yk')) = (yn, ((yv, yi), yk), ((yv', yi'), yk'))) := by
          show flipL _ = _
          unfold flipL
          rw [if_neg (by rw [cmp_else Hgy.out.1.ok Hgy.out.2.1.ok (by omega)]; simp)]
        have Hst : Hid (turnC (k.take (j + 1)) = some (out ++ [(yn, ((yv, yi), yk), ((yv', yi'), yk'))])) := by
          show turnC _ = _
          have hns : ¬ sameT (yv, yi) yk (yv', yi') yk' = true := fun h => by have := (cmp_same (a := ((yv, yi), yk)) (b := ((yv', yi'), yk'))).2 h; rw [hc] at this; omega
          rw [Hstep.out, tstep, Option.bind_some, if_neg hns, Hfl.out]
        rw [hc]
        clear hc
        have hb5 : ∀ ob, Below wr.heap.size wr (w2.alloc ob) := fun ob => below_step hb2' (below_alloc _ _)
        go_wp2_with (at_builtin; refine wpList_append_gen rfl (.tmp 31) (.tmp 33) 25 rfl w.heap.size 44 iL (.agg #[.bool false, .bool false, .int .i64 0, .slice none 0 0, .bool false, .int .i64 0, .slice none 0 0]) 7 88 Tryz.underlying25 hi hz0 hz1 hz2 rfl (by decide) (.slice o1 out.length o3) out.length xs rfl (OwnL.below HO.out (hb5 _)).row _ 1 (litV (yn, ((yv, yi), yk), ((yv', yi'), yk')) (.slice ya (Fo.len yk) yc) (.slice za (Fo.len yk') zc)) rfl cs_lit hn1 hn2 (Nat.le_trans hsr (hb5 _).size) ?_; intro v4 w4 ho4 hg4 hat4)
        obtain ⟨hO4, hB4⟩ := ownL_more (l := (yn, ((yv, yi), yk), ((yv', yi'), yk'))) HO.out (hb5 _) hsr (HA0.out.kept (fun q hq => (below_step hBr (hb5 _)).block q hq)) (HD0.out.kept (fun q hq => (below_step hBr (hb5 _)).block q hq)) ho4 hg4 hat4
        obtain ⟨r1, r3, rfl⟩ := slice_of_cl hO4.cl
        have HO4 := hide hO4
        have hBB := hBr.trans hB4
        clear hO4 ho4 hg4 hat4
        go_wp2_with fail
        go_roundw
        case rel => exact ⟨j + 1, _, r1, r3, _, by omega, by go_num, rfl, by simp; omega, Hst.out, HO4.out, hBB⟩
        case measure => simp [intOf]; omega
    · have hje : j = k.length := by omega
      have Hfin : Hid (turnC k = some out) := by
        have := HT.out
        rw [hje, List.take_length] at this
        exact this
      clear had1
      go_wp2_with fail
      go_ret2
      exact ⟨_, _, out, rfl, HO.out.cl, .inr ⟨rfl, Hfin.out⟩, hBr⟩

end Go.Proofs.YtfckelbdageenabGreatDoor

/- The document's clause of a text. -/
namespace Go.Proofs.YtfckelbdageenabGreatDoor
open Go.RowKit Go.Deep Go.ChangeShapes Go.WideShapes

def SplRel (w : World) (l : List UInt8) (a b : Nat) (v : Value) (wr : World) : Prop :=
  ∃ Ps : List ByteArray, Scan l a b (Ps.map (·.data.toList)) ∧ wr.ownsRow w.heap.size 9 1 v Ps.length (Ps.map Value.string) ∧ Below w.heap.size w wr ∧ ∃ z1 z3, v = .slice z1 Ps.length z3
theorem spl_start (w : World) (l : List UInt8) : SplRel w l 0 0 (.slice none 0 0) w := ⟨[], scan_start l, World.ownsRow_nil _ _ _ _, Below.refl _ _, none, 0, rfl⟩
theorem cs_str {w : World} {X : ByteArray} : Cs (w.alloc (.cells #[.string X] 9)) (.slice (some ⟨w.heap.size, 0, none⟩) 1 1) 1 1 [.string X] :=
  ⟨_, 1, rfl, rfl, by simp [Value.oneCell'], fun e => by (cases e), fun ad hh j u hj => by cases hh; exact World.news_of_block (cs := #[.string X]) (heap_alloc_new w _) j u hj⟩
theorem own_slice {w : World} {lo e : Nat} {v : Value} {n : Nat} {xs : List Value} (h : w.ownsRow lo e 1 v n xs) : ∃ z1 z3, v = .slice z1 n z3 := by
  rcases h.2 with ⟨rfl, h0⟩ | ⟨g, cap, cur, rfl, _⟩
  · exact ⟨none, 0, by rw [h0]⟩
  · exact ⟨_, _, rfl⟩
theorem grown_below {w w3 w4 : World} {lo : Nat} {v : Value} {e n : Nat} {xs : List Value} (h : w.ownsRow lo e 1 v n xs) (hb : Below w.heap.size w w3) (hlo : lo ≤ w.heap.size) (hg : w3.grownBy w4 v.ownBlock) : Below lo w w4 := by
  have hs := hb.size
  refine ⟨hg.os.trans hb.os, hg.tape.trans hb.tape, hg.output.trans hb.output, by have := hg.size; omega, fun q hq => ?_⟩
  rw [hg.block q (by omega) (fun e => by have := (owns_at h q e.symm).1; omega), hb.block q (by omega)]

def RLRel (W2 : World) (s : List Int) (ps : List (List UInt8)) (j : Nat) (v : Value) (wr : World) : Prop :=
  ∃ (out : Cl) (xs : List Value), out = (ps.take j).map (fun p => (litP s p).2) ∧ (∀ q, q < j → ∀ a, ps[q]? = some a → (litP s a).1 = 0) ∧ OwnL W2.heap.size (XO wr v) wr out v xs ∧ Below W2.heap.size W2 wr ∧ ∃ z1 z3, v = .slice z1 out.length z3
theorem rl_start (W2 : World) (s : List Int) (ps : List (List UInt8)) : RLRel W2 s ps 0 (.slice none 0 0) W2 :=
  ⟨[], [], by simp, fun q hq => by omega, ownL_nil _ _, Below.refl _ _, none, 0, rfl⟩

theorem parseR_call {s : List Int} {sv : Value} {l : List UInt8} {A : ByteArray} {wn : World} {er : Int} {t : Tm} (hA : A.data.toList = l) (hN : NIn wn s sv) (hl : l.length ≤ maxLen) (hp : parseT s l = (er, t)) (w' : World) (hb : Below wn.heap.size wn w') :
    Calls Tryz.prog 35 #[sv, .string A] w' fun e w'' => ∃ z1 z2 z3, e = .returned (.tuple #[.agg #[.bool t.1.1, .int .i64 t.1.2, .slice z1 z2 z3], .int .i64 er]) ∧ SB (New w' w'') w'' t.2 (.slice z1 z2 z3) ∧ Below w'.heap.size w' w'' := by
  rw [byte_eq hA]
  refine (parseR_new s sv l w' (hN.below hb) hl).mono ?_
  rintro e w2 ⟨a, rfl, hS, hb2⟩
  rw [hp] at hS ⊢
  obtain ⟨z1, z2, z3, rfl⟩ := slice_of_sin hS.toS
  exact ⟨z1, z2, z3, rfl, hS, hb2⟩
/-- A literal's box with nothing in it but its sign. -/
structure ZBox (w : World) (b : Nat) (neg : Bool) : Prop where
  c0 : w.cell? ⟨b, 0, none⟩ = some (.bool neg)
  c1 : w.cell? ⟨b, 1, none⟩ = some (.bool false)
  c2 : w.cell? ⟨b, 2, none⟩ = some (.int .i64 0)
  c3 : w.cell? ⟨b, 3, none⟩ = some (.slice none 0 0)
  c4 : w.cell? ⟨b, 4, none⟩ = some (.bool false)
  c5 : w.cell? ⟨b, 5, none⟩ = some (.int .i64 0)
  c6 : w.cell? ⟨b, 6, none⟩ = some (.slice none 0 0)
  fz : ∀ i, w.frozen? ⟨b, i, none⟩ = false
  lt : b < w.heap.size
theorem ZBox.below {w w' : World} (hb : Below w.heap.size w w') {b : Nat} {neg : Bool} (h : ZBox w b neg) : ZBox w' b neg :=
  ⟨grow_cell hb _ _ h.c0, grow_cell hb _ _ h.c1, grow_cell hb _ _ h.c2, grow_cell hb _ _ h.c3, grow_cell hb _ _ h.c4, grow_cell hb _ _ h.c5, grow_cell hb _ _ h.c6, fun i => (hb.frozen h.lt).trans (h.fz i), Nat.lt_of_lt_of_le h.lt hb.size⟩
theorem zbox_new (w : World) (neg : Bool) : ZBox (w.alloc (.cells #[.bool neg, .bool false, .int .i64 0, .slice none 0 0, .bool false, .int .i64 0, .slice none 0 0] 44)) w.heap.size neg := by
  obtain ⟨g0, g1, g2, g3, g4, g5, g6, gf, _, hlt⟩ := lit_cells (T := 44) (x0 := .bool neg) (w := w) (x1 := .bool false) (x2 := .int .i64 0) (x3 := .slice none 0 0) (x4 := .bool false) (x5 := .int .i64 0) (x6 := .slice none 0 0) (Below.refl _ _)
  exact ⟨g0, g1, g2, g3, g4, g5, g6, gf, hlt⟩
theorem ZBox.set {w : World} {b : Nat} (h : ZBox w b false) : ZBox (w.setCell ⟨b, 0, none⟩ (.bool true)).drew b true := by
  have ne : ∀ i, i ≠ 0 → (⟨b, 0, none⟩ : Addr) ≠ ⟨b, i, none⟩ := fun i hi e => by simp only [Addr.mk.injEq] at e; omega
  exact ⟨set_same h.c0, (set_other (ne 1 (by decide))).trans h.c1, (set_other (ne 2 (by decide))).trans h.c2, (set_other (ne 3 (by decide))).trans h.c3, (set_other (ne 4 (by decide))).trans h.c4, (set_other (ne 5 (by decide))).trans h.c5, (set_other (ne 6 (by decide))).trans h.c6, fun i => (by simpa using h.fz i), by simpa [World.setCell] using h.lt⟩
theorem dcell (w : World) (a : Addr) : w.drew.cell? a = w.cell? a := rfl
theorem dheap (w : World) : w.drew.heap = w.heap := rfl
theorem byte_is {P : ByteArray} {p : List UInt8} (h : P.data.toList = p) {k : Nat} (hk : k < P.size) : p[k]? = some P[k] := by
  subst h
  rw [List.getElem?_eq_getElem (by rw [← ba_size (B := P) rfl]; exact hk)]
  rfl
/-- One literal more, whose terms are new. -/
theorem ownL_more2 {lo : Nat} {wr w3 w4 : World} {s : Cl} {v v4 : Value} {xs : List Value} {l : Lt} {a d : Value} (h : OwnL lo (XO wr v) wr s v xs) (hb : Below wr.heap.size wr w3) (hlo : lo ≤ wr.heap.size)
    (hA : SB (fun q => wr.heap.size ≤ q ∧ q < w3.heap.size) w3 l.2.1.2 a) (hD : SB (fun q => wr.heap.size ≤ q ∧ q < w3.heap.size) w3 l.2.2.2 d)
    (ho : w4.ownsRow lo 44 7 v4 (s.length + 1) (xs ++ litV l a d)) (hg : w3.grownBy w4 v.ownBlock) (hat : v4.ownBlock = v.ownBlock ∨ v4.ownBlock = some w3.heap.size) :
    OwnL lo (XO w4 v4) w4 (s ++ [l]) v4 (xs ++ litV l a d) ∧ Below lo wr w4 := by
  have hs := hb.size
  have hs4 := hg.size
  have hv : ∀ q, v.ownBlock = some q → lo ≤ q ∧ q < wr.heap.size := fun q hq => owns_at h.row q hq
  have noq : ∀ q, q < w3.heap.size → some q ≠ v.ownBlock → q < w4.heap.size ∧ some q ≠ v4.ownBlock := fun q hq hn => by
    refine ⟨by omega, fun e => ?_⟩
    rcases hat with e' | e'
    · exact hn (e.trans e')
    · rw [e'] at e; simp at e; omega
  have ok : ∀ q, (wr.heap.size ≤ q ∧ q < w3.heap.size) → q < w3.heap.size ∧ some q ≠ v.ownBlock := fun q hq => by
    refine ⟨by omega, fun e => ?_⟩
    have := hv q e.symm
    omega
  refine ⟨⟨by simpa using ho, ?_, fun q hq => hq⟩, ⟨hg.os.trans hb.os, hg.tape.trans hb.tape, hg.output.trans hb.output, by omega, fun q hq => ?_⟩⟩
  · refine LC.append (LC.one ?_ ?_) ?_
    · exact hA.frame (fun q hq => noq q (ok q hq).1 (ok q hq).2) (fun q i hq => World.cell?_of_block (hg.block q (ok q hq).1 (ok q hq).2))
    · exact hD.frame (fun q hq => noq q (ok q hq).1 (ok q hq).2) (fun q i hq => World.cell?_of_block (hg.block q (ok q hq).1 (ok q hq).2))
    · refine h.cells.frame (fun q hq => noq q (by have := hq.1; omega) hq.2) (fun q i hq => World.cell?_of_block ?_)
      rw [hg.block q (by have := hq.1; omega) hq.2, hb.block q hq.1]
  · have hn : some q ≠ v.ownBlock := fun e => by have := hv q e.symm; omega
    rw [hg.block q (by omega) hn, hb.block q (by omega)]

set_option maxRecDepth 100000 in
set_option maxHeartbeats 3000000 in
theorem parseCR_any (s : List Int) (sv : Value) (T : ByteArray) (w : World) (hN : NIn w s sv) (hT : T.size < 4294967281) :
    Calls Tryz.prog 8 #[sv, .string T] w (ParsePost s T.data.toList w) := by
  obtain ⟨l, hl⟩ : ∃ l, T.data.toList = l := ⟨_, rfl⟩
  have hTl : T.size = l.length := ba_size hl
  have HTl := hide hTl
  have HN := hide hN
  obtain ⟨sa, sc, _, _, rfl, -, -, -, -⟩ := hN
  rw [hl]
  go_enter Tryz.func8, Tryz.ntmps8
  go_wp2_with fail
  refine (wsigR_any s _ _ HN.out).mono ?_
  rintro e w' ⟨rfl, hw'⟩
  rw [hw']
  clear hw' w'
  by_cases hw : wsig s = 0
  · have Hw := hide hw
    simp only [hw]
    clear hw
    by_cases h2 : T = ⟨#[91, 93]⟩
    · subst h2
      have Hf : Hid (parseC s l = (0, [])) := by rw [Hid, parseC, if_neg (by simp [Hw.out]), if_pos hl.symm]
      clear hl hTl
      go_wp2_with fail
      go_ret2
      exact parse_post Hf.out (Below.refl _ _)
    · have Hne : Hid (l ≠ [91, 93]) := fun e => h2 (by rw [e] at hl; exact byte_eq hl)
      have Hpc : Hid (parseC s l = partsC s (full l)) := by rw [Hid, parseC, if_neg (by simp [Hw.out]), if_neg Hne.out]
      have h2b : (T.toList == [91, 93]) = false := by rw [ByteArray.toList_eq, hl]; simpa using Hne.out
      have Hl := hide hl
      clear hl h2 hTl
      obtain ⟨i9, hi9, hy0, hy1, hy2⟩ := info_parts Tryz.info9
      obtain ⟨iL, hiL, hl0, hl1, hl2⟩ := info_parts Tryz.info44
      go_wp2_with fail
      go_loopw [7, 8, 9] (fun v fr i wr => ∃ (a b : Nat), a ≤ T.size ∧ i = .int .i64 a ∧ fr = .int .i64 b ∧ SplRel w l a b v wr) (fun _ _ i _ => T.size - (intOf i).toNat)
      case atStart => exact ⟨0, 0, Nat.zero_le _, rfl, rfl, spl_start w l⟩
      case round =>
        obtain ⟨a, b, ha, rfl, rfl, Ps, hSc, hO, hBr, z1, z3, rfl⟩ := hrel
        have HSc := hide hSc
        have HO := hide hO
        have hba : b ≤ a := hSc.fi
        have hsr := hBr.size
        have hPl : Ps.length ≤ l.length + 1 := by
          have h1 := congrArg List.length hSc.all
          have h2 := full_le l
          simp only [List.length_append, List.length_map] at h1
          omega
        have hPl' : Ps.length ≤ T.size + 1 := by rw [HTl.out]; exact hPl
        clear hSc hO hPl
        have hn1 : Ps.length + 1 ≤ maxLen := by unfold maxLen; omega
        have hn2 : (Ps.length + 1) * 16 ≤ 140737488355328 := by omega
        have hB1 : (0 : Int) ≤ (b : Int) := by omega
        have hB2 : (b : Int) ≤ (a : Int) := by omega
        have hA1 : (0 : Int) ≤ (a : Int) := by omega
        have hA2 : (a : Int) ≤ (T.size : Int) := by omega
        by_cases hlt : a + 3 ≤ T.size
        · have hlt' : (a : Int) + 3 ≤ (T.size : Int) := by omega
          have hex : (T.extract a (a + 3)).toList = (l.drop a).take 3 := by
            rw [Lib.extract_toList, Hl.out, show a + 3 - a = 3 by omega]
          by_cases hs : (l.drop a).take 3 = sepL
          · have hc : ((T.extract a (a + 3)).toList == [32, 124, 32]) = true := by rw [hex, hs]; rfl
            have Hnx := hide (HSc.out.hit (by rw [← HTl.out]; exact hlt) hs)
            have Hxd : Hid ((T.extract b a).data.toList = (l.drop b).take (a - b)) := by rw [Hid, Lib.extract_data, Hl.out]
            clear hex hs
            have hb5 : ∀ ob, Below wr.heap.size wr (wr.alloc ob) := fun ob => below_alloc _ _
            go_wp2_with (at_builtin; refine wpList_append_gen rfl (.tmp 37) (.tmp 42) 61 rfl w.heap.size 9 i9 (.string ByteArray.empty) 1 16 Tryz.underlying61 hi9 hy0 hy1 hy2 rfl (by decide) (.slice z1 Ps.length z3) Ps.length (Ps.map Value.string) rfl (owns_keep HO.out (fun g hg => (hb5 _).block g (owns_at HO.out g hg).2)) _ 1 [.string (T.extract b a)] rfl cs_str hn1 hn2 (Nat.le_trans hsr (hb5 _).size) ?_; intro v4 w4 ho4 hg4 hat4)
            have hB4 := grown_below HO.out (hb5 _) hsr hg4
            obtain ⟨r1, r3, rfl⟩ := own_slice ho4
            have HR : Hid (SplRel w l (a + 3) (a + 3) (.slice r1 (Ps.length + 1) r3) w4) := by
              refine ⟨Ps ++ [T.extract b a], ?_, ?_, hBr.trans hB4, r1, r3, by simp⟩
              · rw [List.map_append, List.map_singleton, Hxd.out]; exact Hnx.out
              · rw [List.map_append, List.length_append]; exact ho4
            clear ho4 hg4 hat4 hB4 hc
            go_wp2_with fail
            go_roundw
            case rel => exact ⟨a + 3, a + 3, hlt, by go_num, by go_num, HR.out⟩
            case measure => simp [intOf]; omega
          · have hc : ((T.extract a (a + 3)).toList == [32, 124, 32]) = false := by rw [hex]; simpa using hs
            have HR : Hid (SplRel w l (a + 1) b (.slice z1 Ps.length z3) wr) := ⟨Ps, HSc.out.miss (by rw [← HTl.out]; exact hlt) hs, HO.out, hBr, z1, z3, rfl⟩
            clear hex hs
            go_wp2_with fail
            go_roundw
            case rel => exact ⟨a + 1, b, by omega, by go_num, rfl, HR.out⟩
            case measure => simp [intOf]; omega
        · have hlt' : ¬ (a : Int) + 3 ≤ (T.size : Int) := by omega
          have hB3 : (b : Int) ≤ (T.size : Int) := by omega
          have Hls := hide (HSc.out.last (by rw [← HTl.out]; exact hlt))
          have Hxd : Hid ((T.extract b T.size).data.toList = l.drop b) := by
            rw [Hid, Lib.extract_data, Hl.out, List.take_of_length_le (by rw [List.length_drop, HTl.out]; exact Nat.le_refl _)]
          have hb5 : ∀ ob, Below wr.heap.size wr (wr.alloc ob) := fun ob => below_alloc _ _
          go_upto_region 16 with (at_builtin; refine wpList_append_gen rfl (.tmp 49) (.tmp 53) 61 rfl w.heap.size 9 i9 (.string ByteArray.empty) 1 16 Tryz.underlying61 hi9 hy0 hy1 hy2 rfl (by decide) (.slice z1 Ps.length z3) Ps.length (Ps.map Value.string) rfl (owns_keep HO.out (fun g hg => (hb5 _).block g (owns_at HO.out g hg).2)) _ 1 [.string (T.extract b T.size)] rfl cs_str hn1 hn2 (Nat.le_trans hsr (hb5 _).size) ?_; intro v4 w4 ho4 hg4 hat4; obtain ⟨r1, r3, rfl⟩ := own_slice ho4)
          have hB4 := hBr.trans (grown_below HO.out (hb5 _) hsr hg4)
          obtain ⟨Qs, hQs⟩ : ∃ Qs, Qs = Ps ++ [T.extract b T.size] := ⟨_, rfl⟩
          have hQl : Qs.length = Ps.length + 1 := by rw [hQs]; simp
          have HQd : Hid (Qs.map (·.data.toList) = full l) := by rw [hQs, List.map_append, List.map_singleton, Hxd.out]; exact Hls.out
          have ho5 : w4.ownsRow w.heap.size 9 1 (.slice r1 (Ps.length + 1) r3) Qs.length (Qs.map Value.string) := by rw [hQl, hQs, List.map_append]; exact ho4
          rw [← hQl] at ho5 ⊢
          have HQc : Hid (∀ g, r1 = some ⟨g, 0, none⟩ → ∀ j x, Qs[j]? = some x → w4.cell? ⟨g, j, none⟩ = some (.string x)) := fun g hg j x hx => by
            have := ho5.cells (g := g) (by rw [hg]; rfl) j (.string x) (by rw [List.getElem?_map, hx]; rfl)
            rw [add_plain, Nat.zero_add] at this
            exact this
          have Hr1 : Hid (∃ g, r1 = some ⟨g, 0, none⟩) := by
            rcases ho5.2 with ⟨_, h0⟩ | ⟨g, cap, cur, he, _⟩
            · omega
            · simp only [Value.slice.injEq] at he
              exact ⟨g, he.1⟩
          have Hsm : Hid (∀ p ∈ Qs, p.size ≤ T.size) := fun p hp => by
            have h1 : p.data.toList ∈ full l := by rw [← HQd.out]; exact List.mem_map_of_mem hp
            rw [ba_size (B := p) rfl, HTl.out]
            exact splitK_len _ _ _ h1
          have hQm : (Qs.length : Int) ≤ 9223372036854775807 := by omega
          have HQl := hide hQl
          clear ho4 hg4 hat4 ho5 hQs hb5 HSc HO hQl
          by_cases h4 : 4 < Qs.length
          · have h4' : (4 : Int) < (Qs.length : Int) := by omega
            have Hf : Hid (parseC s l = (5, [])) := by rw [Hid, Hpc.out, partsC, if_pos (by rw [← HQd.out, List.length_map]; exact h4)]
            go_wp2_with fail
            go_ret2
            exact parse_post Hf.out hB4
          · have h4' : ¬ (4 : Int) < (Qs.length : Int) := by omega
            have Hpc2 : Hid (parseC s l = if litsP s (full l) ≠ 0 then (litsP s (full l), []) else (0, (full l).map fun p => (litP s p).2)) := by rw [Hid, Hpc.out, partsC, if_neg (by rw [← HQd.out, List.length_map]; exact h4)]
            go_wp2_with fail
            go_loopw [10, 60] (fun v i wx => ∃ (j : Nat), j ≤ Qs.length ∧ i = .int .i64 j ∧ RLRel w4 s (full l) j v wx) (fun _ i _ => Qs.length - (intOf i).toNat)
            case atStart => exact ⟨0, Nat.zero_le _, rfl, rl_start _ _ _⟩
            case round =>
              obtain ⟨j, hj, rfl, out, xs, hout, hno, hOw, hBx, o1, o3, rfl⟩ := hrel
              have Hout := hide hout
              have Hno := hide hno
              have HOw := hide hOw
              have hol : out.length ≤ j := by rw [hout, List.length_map, List.length_take]; omega
              have hsx := hBx.size
              have hBwx := hB4.trans (hBx.mono hB4.size)
              clear hout hno hOw
              obtain ⟨g, rfl⟩ := Hr1.out
              by_cases hlt : j < Qs.length
              · have hlt' : (j : Int) < (Qs.length : Int) := by omega
                have hj0 : (0 : Int) ≤ (j : Int) := by omega
                obtain ⟨P, hP⟩ : ∃ P, Qs[j]? = some P := ⟨Qs[j]'hlt, by simp⟩
                have hc := grow_cell hBx _ _ (HQc.out g rfl j P hP)
                have Hfl : Hid ((full l)[j]? = some P.data.toList) := by rw [Hid, ← HQd.out, List.getElem?_map, hP]; rfl
                have hPz := Hsm.out P (List.mem_of_getElem? hP)
                obtain ⟨p, hp⟩ : ∃ p, P.data.toList = p := ⟨_, rfl⟩
                have hpl : P.size = p.length := ba_size hp
                have Hp := hide hp
                have Hpl := hide hpl
                rw [hp] at Hfl
                clear hP hp hpl
                go_wp2_with fail
                go_loopw [13] (fun i wy => ∃ k : Nat, k ≤ P.size ∧ i = .int .i64 k ∧ (∀ q, q < k → p[q]? ≠ some 61) ∧ wy = wr) (fun i _ => P.size - (intOf i).toNat)
                case atStart => exact ⟨0, Nat.zero_le _, rfl, fun q hq => by omega, rfl⟩
                case round =>
                  obtain ⟨k, hk, rfl, hkn, rfl⟩ := hrel
                  have Hkn := hide hkn
                  clear hkn
                  have hk0 : (0 : Int) ≤ (k : Int) := by omega
                  by_cases hkl : k < P.size
                  · have hkl' : (k : Int) < (P.size : Int) := by omega
                    have Hbt := hide (byte_is Hp.out hkl)
                    by_cases h61 : P[k] = 61
                    · have h61b : ((P[k].toNat : Int) != 61) = false := by rw [h61]; rfl
                      have hkb : ((k : Int) == (P.size : Int)) = false := by rw [beq_eq_false_iff_ne]; omega
                      have Hcut : Hid (Lib.cut p [61] = (p.take k, p.drop (k + 1), true)) := cut_hit ((index_one (by rw [← Hpl.out]; omega) Hkn.out).2 (by rw [Hbt.out, h61]))
                      have HLit : Hid (litP s p = if (parseT s (Lib.trimSuffix (p.take k) [33])).1 ≠ 0 then ((parseT s (Lib.trimSuffix (p.take k) [33])).1, zeroL) else
                          if (parseT s (p.drop (k + 1))).1 ≠ 0 then ((parseT s (p.drop (k + 1))).1, zeroL) else
                          (0, (Lib.hasSuffix (p.take k) [33], (parseT s (Lib.trimSuffix (p.take k) [33])).2, (parseT s (p.drop (k + 1))).2))) := by
                        rw [Hid, litP, Hcut.out, if_neg (by simp)]
                      have Hxk : Hid ((P.extract 0 k).data.toList = p.take k) := by rw [Hid, Lib.extract_data, Hp.out]; simp
                      have hxs : (P.extract 0 k).size = k := by rw [ba_size Hxk.out, List.length_take, ← Hpl.out]; omega
                      have Hxd : Hid ((P.extract (k + 1) P.size).data.toList = p.drop (k + 1)) := by
                        rw [Hid, Lib.extract_data, Hp.out, List.take_of_length_le (by rw [List.length_drop, Hpl.out]; exact Nat.le_refl _)]
                      have hK1 : (k : Int) + 1 ≤ (P.size : Int) := by omega
                      clear h61 hc
                      go_upto_region 29 with fail
                      generalize hwa : wr.alloc (.cells #[.bool false, .bool false, .int .i64 0, .slice none 0 0, .bool false, .int .i64 0, .slice none 0 0] 44) = wa
                      have HZ : Hid (ZBox wa wr.heap.size false) := by rw [← hwa]; exact zbox_new wr false
                      have hba : Below wr.heap.size wr wa := by rw [← hwa]; exact below_alloc _ _
                      clear hwa
                      obtain ⟨neg, hneg⟩ : ∃ b, Lib.hasSuffix (p.take k) [33] = b := ⟨_, rfl⟩
                      obtain ⟨lc, hlc⟩ : ∃ b, Lib.trimSuffix (p.take k) [33] = b := ⟨_, rfl⟩
                      rw [hneg, hlc] at HLit
                      go_cut [92] (fun s92 wz => s92 = .bool neg ∧ wz = wa)
                      case first =>
                        by_cases hkz : k = 0
                        · have hk1 : ¬ 0 < k := by omega
                          have hk1' : ¬ (0 : Int) < (k : Int) := by omega
                          have hng : neg = false := by rw [← hneg, suffix_is, hkz]; rfl
                          subst hng
                          clear hkz
                          go_wp2_with fail
                          go_meet
                          case rel => exact ⟨rfl, rfl⟩
                        · have hk1 : 0 < k := by omega
                          have hk1' : (0 : Int) < (k : Int) := by omega
                          have hk2 : (0 : Int) ≤ (k : Int) - 1 := by omega
                          have hk3 : (k : Int) - 1 < (k : Int) := by omega
                          have hk4 : k - 1 < (P.extract 0 k).size := by omega
                          have Hb2 := hide (byte_is Hxk.out hk4)
                          have Hsuf : Hid (neg = decide ((P.extract 0 k)[k - 1] = 33)) := by
                            have hlen : (p.take k).length = k := by rw [List.length_take, ← Hpl.out]; omega
                            rw [Hid, ← hneg, suffix_is, hlen, Hb2.out, Bool.eq_iff_iff]
                            simp only [decide_eq_true_eq, Option.some.injEq]
                            exact ⟨fun h => h.2, fun h => ⟨hk1, h⟩⟩
                          by_cases h33 : (P.extract 0 k)[k - 1] = 33
                          · have h33b : (((P.extract 0 k)[k - 1].toNat : Int) == 33) = true := by rw [h33]; rfl
                            have hng : neg = true := by rw [Hsuf.out]; simpa using h33
                            subst hng
                            clear h33 hkz
                            go_wp2_with fail
                            go_meet
                            case rel => exact ⟨rfl, rfl⟩
                          · have h33b : (((P.extract 0 k)[k - 1].toNat : Int) == 33) = false := by
                              rw [beq_eq_false_iff_ne]
                              intro e
                              exact h33 (UInt8.toNat_inj.1 (by have : (P.extract 0 k)[k - 1].toNat = 33 := by omega
                                                               rw [this]; rfl))
                            have hng : neg = false := by rw [Hsuf.out]; simpa using h33
                            subst hng
                            clear h33 hkz
                            go_wp2_with fail
                            go_meet
                            case rel => exact ⟨rfl, rfl⟩
                      case rest =>
                       obtain ⟨rfl, rfl⟩ := hcut
                       generalize wc = wa at *
                       go_upto_if 92 with fail
                       go_cut [15] (fun s15 wz => ∃ L : ByteArray, s15 = .string L ∧ L.data.toList = lc ∧ ZBox wz wr.heap.size neg ∧ Below wr.heap.size wr wz)
                       case first =>
                        cases neg with
                        | false =>
                          have HL : Hid ((P.extract 0 k).data.toList = lc) := by rw [Hid, Hxk.out, ← hlc, trim_is, hneg]; rfl
                          go_wp2_with fail
                          go_meet
                          case rel => exact ⟨P.extract 0 k, rfl, HL.out, HZ.out, hba⟩
                        | true =>
                          have hk1 : 0 < k := by
                            rcases Nat.eq_zero_or_pos k with h | h
                            · rw [h, suffix_is] at hneg; simp at hneg
                            · exact h
                          have hk2 : (0 : Int) ≤ (k : Int) - 1 := by omega
                          have hk3 : (k : Int) - 1 ≤ (k : Int) := by omega
                          obtain ⟨z0, z1', z2', z3', z4', z5', z6', zf, zl⟩ := HZ.out
                          have HL : Hid (((P.extract 0 k).extract 0 (k - 1)).data.toList = lc) := by
                            rw [Hid, Lib.extract_data, Hxk.out, ← hlc, trim_is, hneg, if_pos rfl, List.drop_zero, List.length_take, ← Hpl.out, Nat.min_eq_left (by omega), Nat.sub_zero]
                          go_wp2_with fail
                          go_region
                          all_goals
                            go_wp2_with fail
                            go_meet
                            case rel => exact ⟨(P.extract 0 k).extract 0 (k - 1), rfl, HL.out, HZ.out.set, (hba.setCell (Nat.le_refl _) _).drew⟩
                       case rest =>
                        obtain ⟨L, rfl, hL, hZ, hbz⟩ := hcut
                        generalize wc = wz at *
                        have HZz := hide hZ
                        have HL := hide hL
                        have hBz := hBwx.trans (hbz.mono (Nat.le_trans hB4.size hsx))
                        obtain ⟨⟨er1, ⟨tv, ti⟩, tk⟩, hp1⟩ : ∃ x, parseT s lc = x := ⟨_, rfl⟩
                        obtain ⟨⟨er2, ⟨uv, ui⟩, uk⟩, hp2⟩ : ∃ x, parseT s (p.drop (k + 1)) = x := ⟨_, rfl⟩
                        have hlcl : lc.length ≤ maxLen := by
                          have h1 := trim_len (p := p.take k) (q := [33])
                          rw [hlc, List.length_take] at h1
                          have := Hpl.out
                          unfold maxLen
                          omega
                        have hldl : (p.drop (k + 1)).length ≤ maxLen := by
                          have := Hpl.out
                          rw [List.length_drop]
                          unfold maxLen
                          omega
                        have Hp1 := hide (parseR_call HL.out (HN.out.below hBz) hlcl hp1)
                        have Hp2 := hide (parseR_call Hxd.out (HN.out.below hBz) hldl hp2)
                        rw [hp1, hp2] at HLit
                        clear hp1 hp2 hlcl hldl hL hZ hneg hlc HZ hba
                        go_wp2_with fail
                        refine (Hp1.out _ (Below.refl _ _)).mono ?_
                        rintro e w5 ⟨z1, z2, z3, rfl, hS5, hb5⟩
                        have HS5 := hide hS5
                        simp only at *
                        have hB5 := below_step hBz hb5
                        clear hS5
                        generalize hw6 : w5.alloc (.cells #[.bool tv, .int .i64 ti, .slice z1 z2 z3] 36) = w6
                        have hb6 : Below w5.heap.size w5 w6 := by rw [← hw6]; exact below_alloc _ _
                        have t0 : w6.cell? ⟨w5.heap.size, 0, none⟩ = some (.bool tv) := by rw [← hw6]; exact new_cell rfl
                        have t1 : w6.cell? ⟨w5.heap.size, 1, none⟩ = some (.int .i64 ti) := by rw [← hw6]; exact new_cell rfl
                        have t2 : w6.cell? ⟨w5.heap.size, 2, none⟩ = some (.slice z1 z2 z3) := by rw [← hw6]; exact new_cell rfl
                        have hs6 : w5.heap.size < w6.heap.size := by rw [← hw6]; simp
                        have hB6 := below_step hB5 hb6
                        by_cases he : er1 = 0
                        · subst he
                          rw [if_neg (by simp)] at HLit
                          go_upto_region 34 with fail
                          try rw [hw6]
                          clear hw6
                          go_wp2_with fail
                          refine (Hp2.out _ (below_step hb5 hb6)).mono ?_
                          rintro e w7 ⟨y1, y2, y3, rfl, hS7, hb7⟩
                          have HS7 := hide hS7
                          simp only at *
                          clear hS7
                          generalize hw8 : w7.alloc (.cells #[.bool uv, .int .i64 ui, .slice y1 y2 y3] 36) = w8
                          have hb8 : Below w7.heap.size w7 w8 := by rw [← hw8]; exact below_alloc _ _
                          have x0 : w8.cell? ⟨w7.heap.size, 0, none⟩ = some (.bool uv) := by rw [← hw8]; exact new_cell rfl
                          have x1 : w8.cell? ⟨w7.heap.size, 1, none⟩ = some (.int .i64 ui) := by rw [← hw8]; exact new_cell rfl
                          have x2 : w8.cell? ⟨w7.heap.size, 2, none⟩ = some (.slice y1 y2 y3) := by rw [← hw8]; exact new_cell rfl
                          have hs8 : w7.heap.size < w8.heap.size := by rw [← hw8]; simp
                          have hb68 := below_step hb7 hb8
                          have v0 := grow_cell hb68 _ _ t0
                          have v1 := grow_cell hb68 _ _ t1
                          have v2 := grow_cell hb68 _ _ t2
                          have hb58 := below_step hb6 hb68
                          have hbz8 := below_step hb5 hb58
                          have HZ8 := hide (HZz.out.below hbz8)
                          have hB8 := below_step hB6 hb68
                          clear t0 t1 t2
                          by_cases he : er2 = 0
                          · subst he
                            rw [if_neg (by simp)] at HLit
                            go_upto_region 37 with fail
                            try rw [hw8]
                            clear hw8
                            have hlz := HZz.out.lt
                            have q5 := hb5.size
                            have q6 := hb6.size
                            have q7 := hb7.size
                            have hn5 : w5.heap.size ≠ wr.heap.size := by omega
                            have hn5' : wr.heap.size ≠ w5.heap.size := by omega
                            have hn7 : w7.heap.size ≠ wr.heap.size := by omega
                            have hn7' : wr.heap.size ≠ w7.heap.size := by omega
                            obtain ⟨g0, g1, g2, g3, g4, g5, g6, gf, gl⟩ := HZ8.out
                            go_region
                            all_goals
                              go_upto_region 38 with fail
                              generalize hw9 : ((((((w8.setCell ⟨wr.heap.size, 1, none⟩ (.bool tv)).setCell ⟨wr.heap.size, 2, none⟩ (.int .i64 ti)).setCell ⟨wr.heap.size, 3, none⟩ (.slice z1 z2 z3)).setCell ⟨wr.heap.size, 4, none⟩ (.bool uv)).setCell ⟨wr.heap.size, 5, none⟩ (.int .i64 ui)).setCell ⟨wr.heap.size, 6, none⟩ (.slice y1 y2 y3)).drew = w9
                              have e9 : w9 = (setL w8 wr.heap.size 1 [.bool tv, .int .i64 ti, .slice z1 z2 z3, .bool uv, .int .i64 ui, .slice y1 y2 y3]).drew := hw9.symm
                              have hbr8 : Below wr.heap.size wr w8 := hbz.trans (hbz8.mono (by omega))
                              have hb9 : Below wr.heap.size wr w9 := by rw [e9]; exact (setL_below (Nat.le_refl _) hbr8).drew
                              have at6 := setL_at (b := wr.heap.size) (xs := [.bool tv, .int .i64 ti, .slice z1 z2 z3, .bool uv, .int .i64 ui, .slice y1 y2 y3]) (o := 1) (w := w8) (fun i hi => by
                                simp at hi
                                rcases i with _ | _ | _ | _ | _ | _ | i
                                · exact ⟨_, g1⟩
                                · exact ⟨_, g2⟩
                                · exact ⟨_, g3⟩
                                · exact ⟨_, g4⟩
                                · exact ⟨_, g5⟩
                                · exact ⟨_, g6⟩
                                · omega)
                              have k0 : w9.cell? ⟨wr.heap.size, 0, none⟩ = some (.bool neg) := by rw [e9, dcell, setL_other (.inr (.inl (by omega)))]; exact g0
                              have k1 : w9.cell? ⟨wr.heap.size, 1, none⟩ = some (.bool tv) := by rw [e9, dcell]; exact at6 0 _ rfl
                              have k2 : w9.cell? ⟨wr.heap.size, 2, none⟩ = some (.int .i64 ti) := by rw [e9, dcell]; exact at6 1 _ rfl
                              have k3 : w9.cell? ⟨wr.heap.size, 3, none⟩ = some (.slice z1 z2 z3) := by rw [e9, dcell]; exact at6 2 _ rfl
                              have k4 : w9.cell? ⟨wr.heap.size, 4, none⟩ = some (.bool uv) := by rw [e9, dcell]; exact at6 3 _ rfl
                              have k5 : w9.cell? ⟨wr.heap.size, 5, none⟩ = some (.int .i64 ui) := by rw [e9, dcell]; exact at6 4 _ rfl
                              have k6 : w9.cell? ⟨wr.heap.size, 6, none⟩ = some (.slice y1 y2 y3) := by rw [e9, dcell]; exact at6 5 _ rfl
                              have s9 : w9.heap.size = w8.heap.size := by rw [e9, dheap, setL_size]
                              have q8 := hb8.size
                              have HA9 : Hid (SB (fun q => wr.heap.size ≤ q ∧ q < w9.heap.size) w9 tk (.slice z1 z2 z3)) := HS5.out.frame (fun q hq => ⟨by have := hq.1; omega, by have := hq.2; omega⟩) (fun q i hq => by
                                have h1 := hq.1
                                have h2 := hq.2
                                rw [e9, dcell, setL_other (.inl (by omega))]
                                exact hb58.cell h2)
                              have HD9 : Hid (SB (fun q => wr.heap.size ≤ q ∧ q < w9.heap.size) w9 uk (.slice y1 y2 y3)) := HS7.out.frame (fun q hq => ⟨by have := hq.1; omega, by have := hq.2; omega⟩) (fun q i hq => by
                                have h1 := hq.1
                                have h2 := hq.2
                                rw [e9, dcell, setL_other (.inl (by omega))]
                                exact hb8.cell h2)
                              clear s9 at6 e9 hw9 g0 g1 g2 g3 g4 g5 g6 gf
                              have hm1 : out.length + 1 ≤ maxLen := by unfold maxLen; omega
                              have hm2 : (out.length + 1) * 88 ≤ 140737488355328 := by omega
                              have hbo : ∀ ob, Below wr.heap.size wr (w9.alloc ob) := fun ob => below_step hb9 (below_alloc _ _)
                              go_wp2_with (at_builtin; refine wpList_append_gen rfl (.tmp 123) (.tmp 125) 25 rfl w4.heap.size 44 iL (.agg #[.bool false, .bool false, .int .i64 0, .slice none 0 0, .bool false, .int .i64 0, .slice none 0 0]) 7 88 Tryz.underlying25 hiL hl0 hl1 hl2 rfl (by decide) (.slice o1 out.length o3) out.length xs rfl (OwnL.below HOw.out (hbo _)).row _ 1 (litV (neg, ((tv, ti), tk), ((uv, ui), uk)) (.slice z1 z2 z3) (.slice y1 y2 y3)) rfl cs_lit hm1 hm2 (Nat.le_trans hsx (hbo _).size) ?_; intro vA wA hoA hgA hatA)
                              obtain ⟨hO4, hBA⟩ := ownL_more2 (l := (neg, ((tv, ti), tk), ((uv, ui), uk))) HOw.out (hbo _) hsx ((HA9.out.frame (fun q hq => ⟨hq.1, by simp; have := hq.2; omega⟩) (fun q i hq => (below_alloc _ _).cell hq.2))) ((HD9.out.frame (fun q hq => ⟨hq.1, by simp; have := hq.2; omega⟩) (fun q i hq => (below_alloc _ _).cell hq.2))) hoA hgA hatA
                              obtain ⟨c1, c3, rfl⟩ := slice_of_cl hO4.cl
                              have HR : Hid (RLRel w4 s (full l) (j + 1) (.slice c1 (out ++ [(neg, ((tv, ti), tk), ((uv, ui), uk))]).length c3) wA) := by
                                refine ⟨_, _, ?_, fun q hq a ha => ?_, hO4, hBx.trans hBA, c1, c3, rfl⟩
                                · rw [List.take_add_one, Hfl.out, List.map_append, ← Hout.out]
                                  simp [HLit.out]
                                · by_cases e : q = j
                                  · subst e; rw [Hfl.out] at ha; cases ha; rw [HLit.out]
                                  · exact Hno.out q (by omega) a ha
                              clear hO4 hoA hgA hatA hBA
                              go_wp2_with fail
                              go_roundw
                              case rel => exact ⟨j + 1, by omega, by go_num, HR.out⟩
                              case measure => simp [intOf]; omega
                          · rw [if_pos he] at HLit
                            have heb : (er2 != 0) = true := by simp [he]
                            have Hf : Hid (parseC s l = (er2, [])) := by
                              have h1 := litsP_at Hno.out Hfl.out (by rw [HLit.out]; exact he)
                              rw [HLit.out] at h1
                              rw [Hid, Hpc2.out, h1, if_pos he]
                            clear he
                            go_upto_region 35 with fail
                            try rw [hw8]
                            clear hw8
                            go_wp2_with fail
                            go_ret2
                            exact parse_post Hf.out hB8
                        · rw [if_pos he] at HLit
                          have heb : (er1 != 0) = true := by simp [he]
                          have Hf : Hid (parseC s l = (er1, [])) := by
                            have h1 := litsP_at Hno.out Hfl.out (by rw [HLit.out]; exact he)
                            rw [HLit.out] at h1
                            rw [Hid, Hpc2.out, h1, if_pos he]
                          clear he
                          go_upto_region 32 with fail
                          try rw [hw6]
                          clear hw6
                          go_wp2_with fail
                          go_ret2
                          exact parse_post Hf.out hB6
                    · have h61b : ((P[k].toNat : Int) != 61) = true := by
                        rw [bne_iff_ne]
                        intro e
                        exact h61 (UInt8.toNat_inj.1 (by have : P[k].toNat = 61 := by omega
                                                         rw [this]; rfl))
                      have Hkn2 : Hid (∀ q, q < k + 1 → p[q]? ≠ some 61) := fun q hq e => by
                        by_cases hqk : q = k
                        · rw [hqk, Hbt.out] at e; exact h61 (Option.some.inj e)
                        · exact Hkn.out q (by omega) e
                      clear h61
                      go_wp2_with fail
                      go_roundw
                      case rel => exact ⟨k + 1, by omega, by go_num, Hkn2.out, trivial⟩
                      case measure => simp [intOf]; omega
                  · have hke : k = P.size := by omega
                    have hkb : ((k : Int) == (P.size : Int)) = true := by rw [beq_iff_eq]; omega
                    have Hf : Hid (parseC s l = (2, [])) := by
                      have h0 : litP s p = (2, zeroL) := by
                        rw [litP, cut_miss ((index_one (by rw [← Hpl.out]; omega) Hkn.out).1 (by rw [← Hpl.out]; exact hke)), if_pos rfl]
                      have h1 := litsP_at Hno.out Hfl.out (by rw [h0]; decide)
                      rw [h0] at h1
                      rw [Hid, Hpc2.out, h1, if_pos (by decide)]
                    go_wp2_with fail
                    go_ret2
                    exact parse_post Hf.out hBwx
              · have hje : j = Qs.length := by omega
                have hfl : (full l).length = Qs.length := by rw [← HQd.out, List.length_map]
                have Hf : Hid (parseC s l = (0, out)) := by
                  have h1 : litsP s (full l) = 0 := litsP_iff.2 fun p hp => by
                    obtain ⟨i, hi, e⟩ := List.mem_iff_getElem.1 hp
                    exact Hno.out i (by omega) p (by rw [List.getElem?_eq_getElem hi, e])
                  rw [Hid, Hpc2.out, if_neg (by simp [h1]), Hout.out, hje, ← hfl, List.take_length]
                have Hfin := hide HOw.out.cl
                clear hfl
                go_wp2_with fail
                go_ret2
                exact ⟨o1, out.length, o3, by rw [Hf.out]; rfl, by rw [Hf.out]; exact Hfin.out, hBwx⟩
  · have Hf : Hid (parseC s l = (wsig s, [])) := by rw [Hid, parseC, if_pos hw]
    have heb : (wsig s != 0) = true := by simp [hw]
    generalize wsig s = er at *
    clear hw
    go_wp2_with fail
    go_ret2
    exact parse_post Hf.out (Below.refl _ _)

end Go.Proofs.YtfckelbdageenabGreatDoor
