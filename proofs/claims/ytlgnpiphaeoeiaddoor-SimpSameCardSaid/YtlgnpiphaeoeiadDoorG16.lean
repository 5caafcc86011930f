/- P6b P6d P7a P7m P7b P7c -/
import Derived.Test.YtlgnpiphaeoeiadDoorG15
import Derived.Laws.EntriesVeiled
import Derived.Deep.RegionHeld3
namespace Go.Proofs.YtlgnpiphaeoeiadDoor
open Go.RowKit Go.Deep Go.ChangeShapes Go.WideShapes
def RowAt (w : World) (g : Nat) (xs : List Value) : Prop := ∀ j u, xs[j]? = some u → w.cell? ⟨g, j, none⟩ = some u
theorem RowAt.below {w w' : World} {g : Nat} {xs : List Value} (h : RowAt w g xs) (hb : Below w.heap.size w w') : RowAt w' g xs := fun j u hj => grow_cell hb _ _ (h j u hj)
theorem RowAt.new (w : World) (xs : Array Value) (T : TypeId) : RowAt (w.alloc (.cells xs T)) w.heap.size xs.toList := fun j u hj => by
  rw [new_cell rfl]
  simpa using hj
theorem RowAt.set {w : World} {g : Nat} {xs : Array Value} (h : ∀ i, i < xs.size → ∃ u, w.cell? ⟨g, i, none⟩ = some u) : RowAt (setL w g 0 xs.toList) g xs.toList := fun j u hj => by
  have := setL_at (b := g) (xs := xs.toList) (o := 0) (w := w) (fun i hi => by rw [Nat.zero_add]; exact h i (by simpa using hi)) j u hj
  rwa [Nat.zero_add] at this
theorem new_some {w : World} {n : Nat} {T : TypeId} {xs : Array Value} {g : Nat} (hg : w.heap.size = g) (hn : xs.size = n) : ∀ i, i < n → ∃ u, (w.alloc (.cells xs T)).cell? ⟨g, i, none⟩ = some u := fun i hi => by
  rw [new_cell hg]
  exact ⟨xs[i]'(by omega), Array.getElem?_eq_getElem _⟩
end Go.Proofs.YtlgnpiphaeoeiadDoor

namespace Go.Proofs.YtlgnpiphaeoeiadDoor
open Go.RowKit Go.Deep Go.ChangeShapes Go.WideShapes
attribute [local go_sem ↓] Go.wp_at_zero Go.wp_at_succ
theorem cmp_is3 {a b : Tm} (ha : okT a) (hb : okT b) : (cmpT a b == 3) = abvT a b := by
  cases h : abvT a b with
  | true => rw [cmp_more ha hb h]; rfl
  | false =>
    unfold cmpT
    split
    · rfl
    · rw [h]
      simp only [Bool.false_eq_true, if_false]
      split <;> rfl
theorem cmpP_call {x y : Bool × Int} {k l : Fo} {B : Bool} (hB : abvT (x, k) (y, l) = B) (ga : Gd (x, k)) (gb : Gd (y, l)) (hbk : tszR k ≤ 4000000000000) (hbl : tszR l ≤ 4000000000000) {a c : Value} (w : World) (hS : SIn w k a) (hU : SIn w l c) :
    Calls Tryd.prog 65 #[.agg #[.bool x.1, .int .i64 x.2, a], .agg #[.bool y.1, .int .i64 y.2, c]] w fun e w'' => ∃ r : Int, e = .returned (.int .i64 r) ∧ (r == 3) = B ∧ Below w.heap.size w w'' := by
  refine (compare_any x k y l a c w ga gb hS hU hbk hbl).mono ?_
  rintro e w' ⟨rfl, hb⟩
  exact ⟨_, rfl, by rw [cmp_is3 ga.ok gb.ok, hB], hb⟩
end Go.Proofs.YtlgnpiphaeoeiadDoor

namespace Go.Proofs.YtlgnpiphaeoeiadDoor
open Go.RowKit Go.Deep Go.ChangeShapes Go.WideShapes
attribute [local go_sem ↓] Go.wp_at_zero Go.wp_at_succ
set_option maxRecDepth 100000 in
set_option maxHeartbeats 1000000 in
theorem unitP_any (c : Cl) (v : Value) (w : World) (h : CIn w c v) :
    Calls Tryd.prog 21 #[v] w fun e w' => e = .returned (.bool (unitP c)) ∧ w' = w := by
  obtain ⟨a1, c1, b1, o1, rfl, had, hlc, hcm, hF⟩ := h
  unfold maxLen at hcm
  by_cases h1 : c.length = 1
  · obtain ⟨l, rfl⟩ := List.length_eq_one_iff.1 h1
    have ha1 : a1 = some ⟨b1, o1, none⟩ := had (by simp)
    subst ha1
    obtain ⟨p0, -, -, -, -, -, -, -, -⟩ := hF.at (i := 0) (l := l) rfl
    simp only [Nat.zero_mul, Nat.add_zero] at p0
    obtain ⟨ln, lx, ly⟩ := l
    simp only [List.length_singleton] at *
    clear hF had h1
    go_enter Tryd.func21, Tryd.ntmps21
    go_wp2_with fail
    go_ret
    exact ⟨rfl, rfl⟩
  · have hb : ((c.length : Int) == 1) = false := by simp; omega
    have Hu := hide (unitP_len h1)
    clear had hF h1
    go_enter Tryd.func21, Tryd.ntmps21
    go_wp2_with fail
    go_ret
    exact ⟨by rw [Hu.out]; rfl, rfl⟩
abbrev litsA (l : Lt) (a d : Value) : Value := .agg #[.bool l.1, .bool l.2.1.1.1, .int .i64 l.2.1.1.2, a, .bool l.2.2.1.1, .int .i64 l.2.2.1.2, d, .bool l.1, .bool l.2.2.1.1, .int .i64 l.2.2.1.2, d, .bool l.2.1.1.1, .int .i64 l.2.1.1.2, a]
set_option maxRecDepth 100000 in
set_option maxHeartbeats 2000000 in
theorem bothLits_any (l : Lt) (a1 d1 : Option Addr) (a2 a3 d2 d3 : Nat) (w : World) :
    Calls Tryd.prog 37 #[litA l (.slice a1 a2 a3) (.slice d1 d2 d3)] w fun e w' => e = .returned (litsA l (.slice a1 a2 a3) (.slice d1 d2 d3)) ∧ Below w.heap.size w w' := by
  obtain ⟨ln, ⟨⟨lv, li⟩, lk⟩, ⟨lv', li'⟩, lk'⟩ := l
  go_enter Tryd.func37, Tryd.ntmps37
  go_upto_region 1 with fail
  generalize hW1 : (w.alloc (.cells #[.bool ln, .bool lv, .int .i64 li, .slice a1 a2 a3, .bool lv', .int .i64 li', .slice d1 d2 d3] 39)).alloc (.cells #[.bool false, .bool false, .int .i64 0, .slice none 0 0, .bool false, .int .i64 0, .slice none 0 0, .bool false, .bool false, .int .i64 0, .slice none 0 0, .bool false, .int .i64 0, .slice none 0 0] 70) = W1
  have hB1 : Below w.heap.size w W1 := by rw [← hW1]; exact (below_alloc _ _).alloc (by simp) _
  have hR : RowAt W1 w.heap.size (litV (ln, ((lv, li), lk), ((lv', li'), lk')) (.slice a1 a2 a3) (.slice d1 d2 d3)) := by
    rw [← hW1]
    exact (RowAt.new w #[.bool ln, .bool lv, .int .i64 li, .slice a1 a2 a3, .bool lv', .int .i64 li', .slice d1 d2 d3] 39).below (below_alloc _ _)
  have g0 : W1.cell? ⟨w.heap.size, 0, none⟩ = some (.bool ln) := hR 0 _ rfl
  have g1 : W1.cell? ⟨w.heap.size, 1, none⟩ = some (.bool lv) := hR 1 _ rfl
  have g2 : W1.cell? ⟨w.heap.size, 2, none⟩ = some (.int .i64 li) := hR 2 _ rfl
  have g3 : W1.cell? ⟨w.heap.size, 3, none⟩ = some (.slice a1 a2 a3) := hR 3 _ rfl
  have g4 : W1.cell? ⟨w.heap.size, 4, none⟩ = some (.bool lv') := hR 4 _ rfl
  have g5 : W1.cell? ⟨w.heap.size, 5, none⟩ = some (.int .i64 li') := hR 5 _ rfl
  have g6 : W1.cell? ⟨w.heap.size, 6, none⟩ = some (.slice d1 d2 d3) := hR 6 _ rfl
  clear hR
  have rf : ∀ i, W1.frozen? ⟨w.heap.size + 1, i, none⟩ = false := fun i => by rw [← hW1]; exact new_frozen (World.size_alloc _ _)
  have hz : ∀ i, i < 14 → ∃ u, W1.cell? ⟨w.heap.size + 1, i, none⟩ = some u := by rw [← hW1]; exact new_some (World.size_alloc _ _) rfl
  obtain ⟨_, r0⟩ := hz 0 (by omega)
  obtain ⟨_, r1⟩ := hz 1 (by omega)
  obtain ⟨_, r2⟩ := hz 2 (by omega)
  obtain ⟨_, r3⟩ := hz 3 (by omega)
  obtain ⟨_, r4⟩ := hz 4 (by omega)
  obtain ⟨_, r5⟩ := hz 5 (by omega)
  obtain ⟨_, r6⟩ := hz 6 (by omega)
  obtain ⟨_, r7⟩ := hz 7 (by omega)
  obtain ⟨_, r8⟩ := hz 8 (by omega)
  obtain ⟨_, r9⟩ := hz 9 (by omega)
  obtain ⟨_, r10⟩ := hz 10 (by omega)
  obtain ⟨_, r11⟩ := hz 11 (by omega)
  obtain ⟨_, r12⟩ := hz 12 (by omega)
  obtain ⟨_, r13⟩ := hz 13 (by omega)
  clear hW1
  go_wp2_with fail
  generalize hw3 : ((((((((((((((W1.setCell ⟨w.heap.size + 1, 0, none⟩ (.bool ln)).setCell ⟨w.heap.size + 1, 1, none⟩ (.bool lv)).setCell ⟨w.heap.size + 1, 2, none⟩ (.int .i64 li)).setCell ⟨w.heap.size + 1, 3, none⟩ (.slice a1 a2 a3)).setCell ⟨w.heap.size + 1, 4, none⟩ (.bool lv')).setCell ⟨w.heap.size + 1, 5, none⟩ (.int .i64 li')).setCell ⟨w.heap.size + 1, 6, none⟩ (.slice d1 d2 d3)).setCell ⟨w.heap.size + 1, 7, none⟩ (.bool ln)).setCell ⟨w.heap.size + 1, 8, none⟩ (.bool lv')).setCell ⟨w.heap.size + 1, 9, none⟩ (.int .i64 li')).setCell ⟨w.heap.size + 1, 10, none⟩ (.slice d1 d2 d3)).setCell ⟨w.heap.size + 1, 11, none⟩ (.bool lv)).setCell ⟨w.heap.size + 1, 12, none⟩ (.int .i64 li)).setCell ⟨w.heap.size + 1, 13, none⟩ (.slice a1 a2 a3)) = w3
  have hb3 : Below w.heap.size w w3 := by
    rw [← hw3]
    exact setL_below (b := w.heap.size + 1) (by omega) (xs := [.bool ln, .bool lv, .int .i64 li, .slice a1 a2 a3, .bool lv', .int .i64 li', .slice d1 d2 d3, .bool ln, .bool lv', .int .i64 li', .slice d1 d2 d3, .bool lv, .int .i64 li, .slice a1 a2 a3]) (o := 0) hB1
  have e3 : w3 = setL W1 (w.heap.size + 1) 0 (#[.bool ln, .bool lv, .int .i64 li, .slice a1 a2 a3, .bool lv', .int .i64 li', .slice d1 d2 d3, .bool ln, .bool lv', .int .i64 li', .slice d1 d2 d3, .bool lv, .int .i64 li, .slice a1 a2 a3] : Array Value).toList := hw3.symm
  have at6 : RowAt w3 (w.heap.size + 1) (#[.bool ln, .bool lv, .int .i64 li, .slice a1 a2 a3, .bool lv', .int .i64 li', .slice d1 d2 d3, .bool ln, .bool lv', .int .i64 li', .slice d1 d2 d3, .bool lv, .int .i64 li, .slice a1 a2 a3] : Array Value).toList := by rw [e3]; exact RowAt.set (by simpa using hz)
  have q0 : w3.cell? ⟨w.heap.size + 1, 0, none⟩ = some (.bool ln) := at6 0 _ rfl
  have q1 : w3.cell? ⟨w.heap.size + 1, 1, none⟩ = some (.bool lv) := at6 1 _ rfl
  have q2 : w3.cell? ⟨w.heap.size + 1, 2, none⟩ = some (.int .i64 li) := at6 2 _ rfl
  have q3 : w3.cell? ⟨w.heap.size + 1, 3, none⟩ = some (.slice a1 a2 a3) := at6 3 _ rfl
  have q4 : w3.cell? ⟨w.heap.size + 1, 4, none⟩ = some (.bool lv') := at6 4 _ rfl
  have q5 : w3.cell? ⟨w.heap.size + 1, 5, none⟩ = some (.int .i64 li') := at6 5 _ rfl
  have q6 : w3.cell? ⟨w.heap.size + 1, 6, none⟩ = some (.slice d1 d2 d3) := at6 6 _ rfl
  have q7 : w3.cell? ⟨w.heap.size + 1, 7, none⟩ = some (.bool ln) := at6 7 _ rfl
  have q8 : w3.cell? ⟨w.heap.size + 1, 8, none⟩ = some (.bool lv') := at6 8 _ rfl
  have q9 : w3.cell? ⟨w.heap.size + 1, 9, none⟩ = some (.int .i64 li') := at6 9 _ rfl
  have q10 : w3.cell? ⟨w.heap.size + 1, 10, none⟩ = some (.slice d1 d2 d3) := at6 10 _ rfl
  have q11 : w3.cell? ⟨w.heap.size + 1, 11, none⟩ = some (.bool lv) := at6 11 _ rfl
  have q12 : w3.cell? ⟨w.heap.size + 1, 12, none⟩ = some (.int .i64 li) := at6 12 _ rfl
  have q13 : w3.cell? ⟨w.heap.size + 1, 13, none⟩ = some (.slice a1 a2 a3) := at6 13 _ rfl
  clear at6 e3 hw3
  exact bodyPost_ret (v := .agg #[.bool ln, .bool lv, .int .i64 li, .slice a1 a2 a3, .bool lv', .int .i64 li', .slice d1 d2 d3, .bool ln, .bool lv', .int .i64 li', .slice d1 d2 d3, .bool lv, .int .i64 li, .slice a1 a2 a3]) (by simp [results, Tryd.results37, go_sem, q0, q1, q2, q3, q4, q5, q6, q7, q8, q9, q10, q11, q12, q13]) rfl ⟨rfl, hb3⟩
theorem run_lit (l : Lt) (a d : Value) (k : Nat) (hk : k < 2) (w : World) : (Instr.index 70 (litsA l a d) (.int .i64 (k : Int))).run Tryd.prog w = .ok (litA (turnL (decide (k = 1)) l) (if k = 1 then d else a) (if k = 1 then a else d)) w := by
  obtain rfl | rfl : k = 0 ∨ k = 1 := by omega
  · simp [go_sem, Instr.index, turnL]
  · simp [go_sem, Instr.index, turnL]
theorem lit_at {l : Lt} {k : Nat} (hk : k < 2) {w : World} {a d : Value} (hA : SIn w l.2.1.2 a) (hD : SIn w l.2.2.2 d) : ∃ (a1 : Option Addr) (a3 : Nat) (d1 : Option Addr) (d3 : Nat), SIn w (turnL (decide (k = 1)) l).2.1.2 (.slice a1 (Fo.len (turnL (decide (k = 1)) l).2.1.2) a3) ∧ SIn w (turnL (decide (k = 1)) l).2.2.2 (.slice d1 (Fo.len (turnL (decide (k = 1)) l).2.2.2) d3) ∧
    ∀ (w' : World), (Instr.index 70 (litsA l a d) (.int .i64 (k : Int))).run Tryd.prog w' = .ok (litA (turnL (decide (k = 1)) l) (.slice a1 (Fo.len (turnL (decide (k = 1)) l).2.1.2) a3) (.slice d1 (Fo.len (turnL (decide (k = 1)) l).2.2.2) d3)) w' := by
  have H1 := hA
  have H2 := hD
  obtain ⟨a1, a3, _, _, rfl, -, -, -, -⟩ := hA
  obtain ⟨d1, d3, _, _, rfl, -, -, -, -⟩ := hD
  obtain rfl | rfl : k = 0 ∨ k = 1 := by omega
  · exact ⟨a1, a3, d1, d3, H1, H2, fun w' => run_lit l _ _ 0 (by omega) w'⟩
  · exact ⟨d1, d3, a1, a3, H2, H1, fun w' => run_lit l _ _ 1 (by omega) w'⟩
theorem newV_is {w : Lt} : newV w = decide ((varsT w.2.1.1 w.2.1.2 []).length < (varsT w.2.2.1 w.2.2.2 (varsT w.2.1.1 w.2.1.2 [])).length) := rfl
set_option maxRecDepth 100000 in
set_option maxHeartbeats 2000000 in
theorem hasVars_any (l : Lt) (a1 d1 : Option Addr) (a3 d3 : Nat) (w : World) (hA : SIn w l.2.1.2 (.slice a1 (Fo.len l.2.1.2) a3)) (hD : SIn w l.2.2.2 (.slice d1 (Fo.len l.2.2.2) d3)) (h1 : tszR l.2.1.2 ≤ 12) (h2 : tszR l.2.2.2 ≤ 12) :
    Calls Tryd.prog 44 #[.agg #[.bool l.2.1.1.1, .int .i64 l.2.1.1.2, .slice a1 (Fo.len l.2.1.2) a3], .agg #[.bool l.2.2.1.1, .int .i64 l.2.2.1.2, .slice d1 (Fo.len l.2.2.2) d3]] w fun e w' => e = .returned (.bool (!newV l)) ∧ Below w.heap.size w w' := by
  obtain ⟨ln, ⟨⟨lv, li⟩, lk⟩, ⟨lv', li'⟩, lk'⟩ := l
  simp only at *
  have HA := hide hA
  have HD := hide hD
  obtain ⟨V, hV⟩ : ∃ V, V = varsT (lv, li) lk [] := ⟨_, rfl⟩
  obtain ⟨U, hU⟩ : ∃ U, U = varsT (lv', li') lk' V := ⟨_, rfl⟩
  have hVl := varsT_len (lv, li) lk []
  have hUl := varsT_len (lv', li') lk' V
  have hle := varsT_ge (lv', li') lk' V
  rw [← hV] at hVl
  rw [← hU] at hUl hle
  simp only [List.length_nil] at hVl
  have Hn : Hid (newV (ln, ((lv, li), lk), ((lv', li'), lk')) = decide (V.length < U.length)) := by rw [Hid, newV_is]; simp only; rw [← hV, ← hU]
  have HcV := hide (fun (w' : World) (hS : SIn w' lk (.slice a1 (Fo.len lk) a3)) => vars_any (lv, li) lk _ [] (.slice none 0 0) w' V hV hS (nin_nil w') (by simp only [List.length_nil]; omega))
  have HcU := hide (fun (w' : World) (v : Value) (hN : NIn w' V v) (hS : SIn w' lk' (.slice d1 (Fo.len lk') d3)) => vars_any (lv', li') lk' _ V v w' U hU hS hN (by omega))
  clear hA hD hV hU
  go_enter Tryd.func44, Tryd.ntmps44
  go_wp2_with fail
  refine (HcV.out _ (HA.out.below (below_step (below_alloc _ _) (below_alloc _ _)))).mono ?_
  rintro e w1 ⟨v1, rfl, ho1, hb1⟩
  have HN := hide (own_nin ho1)
  have hB1 := below_box (below_box hb1)
  have k0 : w1.cell? ⟨w.heap.size + 1, 0, none⟩ = some (.bool lv') := grow_cell hb1 _ _ (new_cell (World.size_alloc _ _))
  have k1 : w1.cell? ⟨w.heap.size + 1, 1, none⟩ = some (.int .i64 li') := grow_cell hb1 _ _ (new_cell (World.size_alloc _ _))
  have k2 : w1.cell? ⟨w.heap.size + 1, 2, none⟩ = some (.slice d1 (Fo.len lk') d3) := grow_cell hb1 _ _ (new_cell (World.size_alloc _ _))
  obtain ⟨y1, y3, rfl⟩ := nin_slice HN.out
  have HcU' := hide (HcU.out w1 _ HN.out (HD.out.below hB1))
  have Hd : Hid (((U.length : Int) == (V.length : Int)) = !decide (V.length < U.length)) := by
    rw [Hid, Bool.eq_iff_iff]
    simp
    omega
  clear ho1 hb1 HcV HcU
  go_wp2_with fail
  refine HcU'.out.mono ?_
  rintro e w2 ⟨v2, rfl, ho2, hb2⟩
  obtain ⟨x1, x3, rfl⟩ := nin_slice (own_nin ho2)
  have hB2 := below_step hB1 hb2
  clear ho2 hb2 k0 k1 k2
  go_wp2_with fail
  go_ret
  exact ⟨by rw [Hn.out, ← Hd.out]; rfl, hB2⟩
end Go.Proofs.YtlgnpiphaeoeiadDoor

namespace Go.Proofs.YtlgnpiphaeoeiadDoor
open Go.RowKit Go.Deep Go.ChangeShapes Go.WideShapes
def stepF (us : List Lt) : Fo → Option Fo
  | .nil => none
  | .node p q x k r => match stepD us (x, k) with
    | some t => some (.node p q t.1 t.2 r)
    | none => (stepF us r).map fun r' => .node p q x k r'
theorem tryP_cons {us : List Lt} {t : Tm} {p : List Int} {Z : List (List Int)} : tryP us t (p :: Z) = match atT p t.1 t.2 with
    | none => tryP us t Z
    | some z => match tryUs z us with
      | some r => some (putT p t r)
      | none => tryP us t Z := rfl
theorem tryP_arg {us : List Lt} {n : Int} {k : Fo} {i : Nat} {y : Tm} (hy : k.list[i]? = some y) : ∀ {Z : List (List Int)}, tryP us ((false, n), k) (Z.map (((i : Nat) : Int) :: ·)) = (tryP us y Z).map fun t => ((false, n), setF k i fun _ => t)
  | [] => rfl
  | p :: Z => by
    have hl : (i : Int) < (Fo.len k : Int) := by
      have := (List.getElem?_eq_some_iff.1 hy).1
      rw [Fo.len_list] at this
      omega
    have ih := tryP_arg hy (us := us) (n := n) (Z := Z)
    rw [List.map_cons, tryP_cons, tryP_cons, atT_cons (y := y) rfl (by omega) (by simpa using hy) hl]
    cases hz : atT p y.1 y.2 with
    | none => simpa using ih
    | some z =>
      cases hr : tryUs z us with
      | none => simpa [hr] using ih
      | some r =>
        simp only [hr, Option.map_some]
        rw [putT_cons rfl (by omega) hl]
        congr 2
        have : ∀ (F : Fo) (i : Nat), F.list[i]? = some y → setF F i (fun s => putT p s r) = setF F i (fun _ => putT p y r) := by
          intro F
          induction F with
          | nil => intro i h; simp [Fo.list] at h
          | node a b x k r' _ ihr =>
            intro i h
            cases i with
            | zero =>
              simp only [Fo.list, List.getElem?_cons_zero, Option.some.injEq] at h
              subst h
              rfl
            | succ i => simp only [setF]; rw [ihr i (by simpa [Fo.list] using h)]
        simpa using this k i hy
theorem tryP_append {us : List Lt} {t : Tm} : ∀ {Z Y : List (List Int)}, tryP us t (Z ++ Y) = match tryP us t Z with
    | some r => some r
    | none => tryP us t Y
  | [], _ => rfl
  | p :: Z, Y => by
    rw [List.cons_append, tryP_cons, tryP_cons]
    have ih := tryP_append (us := us) (t := t) (Z := Z) (Y := Y)
    cases atT p t.1 t.2 with
    | none => exact ih
    | some z =>
      cases h : tryUs z us with
      | none => simpa only [h] using ih
      | some r => simp only [h]
def catF : Fo → Fo → Fo
  | .nil, G => G
  | .node p q x k r, G => .node p q x k (catF r G)
theorem catF_list : ∀ {F G : Fo}, (catF F G).list = F.list ++ G.list
  | .nil, _ => rfl
  | .node _ _ _ _ r, G => by simp [catF, Fo.list, catF_list (F := r)]
theorem catF_len : ∀ {F G : Fo}, Fo.len (catF F G) = Fo.len F + Fo.len G
  | .nil, _ => by simp [catF, Fo.len]
  | .node _ _ _ _ r, G => by simp [catF, Fo.len, catF_len (F := r)]; omega
theorem catF_set {f : Tm → Tm} {p q : Nat} {x : Bool × Int} {k r : Fo} : ∀ {F : Fo}, setF (catF F (.node p q x k r)) (Fo.len F) f = catF F (.node p q (f (x, k)).1 (f (x, k)).2 r)
  | .nil => rfl
  | .node _ _ _ _ r' => by simp only [catF, Fo.len, setF]; rw [catF_set (F := r')]
theorem catF_snoc {p q : Nat} {x : Bool × Int} {k r : Fo} : ∀ {F : Fo}, catF (catF F (.node p q x k .nil)) r = catF F (.node p q x k r)
  | .nil => rfl
  | .node _ _ _ _ r' => by simp only [catF]; rw [catF_snoc (F := r')]
theorem stepF_go {us : List Lt} {n : Int} : ∀ {R F : Fo}, tryP us ((false, n), catF F R) (placesF R [] ((Fo.len F : Nat) : Int)) = (stepF us R).map fun R' => ((false, n), catF F R')
  | .nil, F => rfl
  | .node p q x k r, F => by
    have hy : (catF F (.node p q x k r)).list[Fo.len F]? = some (x, k) := by
      rw [catF_list, List.getElem?_append_right (by rw [Fo.len_list]; exact Nat.le_refl _), Fo.len_list]
      simp [Fo.list]
    have e : placesF (.node p q x k r) [] ((Fo.len F : Nat) : Int) = (placesT x k []).map (((Fo.len F : Nat) : Int) :: ·) ++ placesF r [] (((Fo.len F : Nat) : Int) + 1) := by
      have h1 : placesT x k [((Fo.len F : Nat) : Int)] = (placesT x k []).map (((Fo.len F : Nat) : Int) :: ·) := by
        rw [placesT_pre]; rfl
      rw [← h1]
      rfl
    rw [e, tryP_append, tryP_arg hy]
    have ih := stepF_go (us := us) (n := n) (R := r) (F := catF F (.node p q x k .nil))
    have hl : Fo.len (catF F (.node p q x k .nil)) = Fo.len F + 1 := by rw [catF_len]; rfl
    rw [hl, catF_snoc] at ih
    have e2 : stepF us (.node p q x k r) = match stepD us (x, k) with
        | some t => some (.node p q t.1 t.2 r)
        | none => (stepF us r).map fun r' => .node p q x k r' := rfl
    rw [e2]
    unfold stepD
    cases hs : tryP us (x, k) (placesT x k []) with
    | some t =>
      simp only [Option.map_some]
      rw [catF_set]
    | none =>
      simp only [Option.map_none]
      rw [show (((Fo.len F : Nat) : Int) + 1) = ((Fo.len F + 1 : Nat) : Int) by omega, ih]
      cases stepF us r with
      | none => rfl
      | some r' => simp only [Option.map_some]; rw [catF_snoc]
theorem stepD_var {us : List Lt} {n : Int} {k : Fo} : stepD us ((true, n), k) = none := by
  unfold stepD placesT
  simp [tryP]
theorem stepD_sym {us : List Lt} {n : Int} {k : Fo} : stepD us ((false, n), k) = match tryUs ((false, n), k) us with
    | some r => some r
    | none => (stepF us k).map fun k' => ((false, n), k') := by
  have h := stepF_go (us := us) (n := n) (R := k) (F := .nil)
  simp only [catF, Fo.len] at h
  unfold stepD placesT
  simp only [Bool.false_eq_true, if_false]
  rw [tryP_cons]
  simp only [atT]
  cases h2 : tryUs ((false, n), k) us with
  | some r => rfl
  | none => exact h
def byL (us : List Lt) : List Lt := us.flatMap fun u => [u, turnL true u].filter fun w => !newV w
theorem tryW_new {z : Tm} {w : Lt} (h : newV w = true) : tryW z w = none := by
  unfold tryW
  split
  · rfl
  · rw [if_pos h]
def tryL (z : Tm) : List Lt → Option Tm
  | [] => none
  | w :: l => match tryW z w with
    | some r => some r
    | none => tryL z l
theorem tryL_cons {z : Tm} {w : Lt} {l : List Lt} : tryL z (w :: l) = match tryW z w with
    | some r => some r
    | none => tryL z l := rfl
theorem tryL_append {z : Tm} : ∀ {a b : List Lt}, tryL z (a ++ b) = match tryL z a with
    | some r => some r
    | none => tryL z b
  | [], _ => rfl
  | w :: a, b => by
    rw [List.cons_append, tryL_cons, tryL_cons]
    have ih := tryL_append (z := z) (a := a) (b := b)
    cases h : tryW z w with
    | some r => rfl
    | none => simpa only [h] using ih
theorem tryL_by {z : Tm} : ∀ {us : List Lt}, tryL z (byL us) = tryUs z us
  | [] => rfl
  | u :: us => by
    have ih := tryL_by (z := z) (us := us)
    have e2 : tryUs z (u :: us) = match tryU z u with
        | some r => some r
        | none => tryUs z us := rfl
    have e3 : byL (u :: us) = ([u, turnL true u].filter fun w => !newV w) ++ byL us := rfl
    have e4 : tryL z ([u, turnL true u].filter fun w => !newV w) = tryU z u := by
      unfold tryU
      cases h1 : newV u with
      | true =>
        cases h2 : newV (turnL true u) with
        | true => simp [h1, h2, tryL, tryW_new h1, tryW_new h2]
        | false =>
          rw [tryW_new h1]
          simp only [h1, h2, List.filter_cons, Bool.not_true, Bool.not_false, Bool.false_eq_true, if_false, if_true, List.filter_nil, tryL]
          cases tryW z (turnL true u) <;> rfl
      | false =>
        cases h2 : newV (turnL true u) with
        | true =>
          rw [tryW_new h2]
          simp only [h1, h2, List.filter_cons, Bool.not_true, Bool.not_false, Bool.false_eq_true, if_false, if_true, List.filter_nil, tryL]
          cases tryW z u <;> rfl
        | false =>
          simp only [h1, h2, List.filter_cons, Bool.not_false, if_true, List.filter_nil, tryL]
          cases tryW z u <;> cases tryW z (turnL true u) <;> rfl
    rw [e3, tryL_append, e4, e2, ih]
end Go.Proofs.YtlgnpiphaeoeiadDoor

namespace Go.Proofs.YtlgnpiphaeoeiadDoor
open Go.RowKit Go.Deep Go.ChangeShapes Go.WideShapes
attribute [local go_sem ↓] Go.wp_at_zero Go.wp_at_succ
theorem keep3 {w : World} {b o q i : Nat} {x0 x1 x2 v : Value} (hq : q ≠ b) (h : w.cell? ⟨q, i, none⟩ = some v) : (((w.setCell ⟨b, o, none⟩ x0).setCell ⟨b, o + 1, none⟩ x1).setCell ⟨b, o + 2, none⟩ x2).cell? ⟨q, i, none⟩ = some v :=
  (set3_other (.inl hq)).trans h
def FromPost (wy : Lt) (z : Tm) (w : World) (e : Ending) (w' : World) : Prop := ∃ (r : Tm) (a1 : Option Addr) (a3 : Nat) (ok : Bool), e = .returned (.tuple #[.agg #[.bool r.1.1, .int .i64 r.1.2, .slice a1 (Fo.len r.2) a3], .bool ok]) ∧
  tryW z wy = (if ok then some r else none) ∧ OwnV w' w.heap.size w'.heap.size r.2 (.slice a1 (Fo.len r.2) a3) ∧ Below w.heap.size w w'
set_option maxRecDepth 100000 in
set_option maxHeartbeats 4000000 in
theorem fromClo_any {s : List Int} (wy : Lt) (z : Tm) (f1 f2 : Nat) (a : Value) (w : World) (hw : Sm s wy.2.1 ∧ Sm s wy.2.2) (hn : newV wy = false) (hz : Sm s z) (h1 : TIn w f1 0 wy.2.1.1 wy.2.1.2) (h2 : TIn w f2 0 wy.2.2.1 wy.2.2.2) (hS : SIn w z.2 a) :
    Calls Tryd.prog 63 #[.agg #[.bool z.1.1, .int .i64 z.1.2, a], .pointer (some ⟨f1, 0, none⟩), .pointer (some ⟨f2, 0, none⟩)] w (FromPost wy z w) := by
  obtain ⟨wn, ⟨⟨lv, li⟩, lk⟩, ⟨lv', li'⟩, lk'⟩ := wy
  obtain ⟨⟨zv, zi⟩, zk⟩ := z
  have HS := hide hS
  have HW := hide hw
  have HZ := hide hz
  obtain ⟨za, zc, _, _, rfl, -, -, -, -⟩ := hS
  obtain ⟨c0, c1, cv, c2, hS1⟩ := h1
  obtain ⟨d0, d1, dv, d2, hS2⟩ := h2
  have HS1 := hide hS1
  have HS2 := hide hS2
  obtain ⟨la, lc, _, _, rfl, -, -, -, -⟩ := hS1
  obtain ⟨ra, rc, _, _, rfl, -, -, -, -⟩ := hS2
  simp only at *
  clear hw hz
  go_enter Tryd.func63, Tryd.ntmps63
  go_upto_region 1 with fail
  generalize hW1 : (w.alloc (.cells #[.bool zv, .int .i64 zi, .slice za (Fo.len zk) zc] 37)).alloc (.cells #[.bool false, .int .i64 0, .slice none 0 0] 37) = W1
  have hB1 : Below w.heap.size w W1 := by rw [← hW1]; exact (below_alloc _ _).alloc (by simp) _
  have hs1 : W1.heap.size = w.heap.size + 1 + 1 := by rw [← hW1]; simp
  have g0 : W1.cell? ⟨w.heap.size, 0, none⟩ = some (.bool zv) := by rw [← hW1, World.cell?_alloc_lt _ _ _ (by simp)]; exact new_cell rfl
  have g1 : W1.cell? ⟨w.heap.size, 1, none⟩ = some (.int .i64 zi) := by rw [← hW1, World.cell?_alloc_lt _ _ _ (by simp)]; exact new_cell rfl
  have g2 : W1.cell? ⟨w.heap.size, 2, none⟩ = some (.slice za (Fo.len zk) zc) := by rw [← hW1, World.cell?_alloc_lt _ _ _ (by simp)]; exact new_cell rfl
  have r0 : W1.cell? ⟨w.heap.size + 1, 0, none⟩ = some (.bool false) := by rw [← hW1]; exact new_cell (World.size_alloc _ _)
  have r1 : W1.cell? ⟨w.heap.size + 1, 1, none⟩ = some (.int .i64 0) := by rw [← hW1]; exact new_cell (World.size_alloc _ _)
  have r2 : W1.cell? ⟨w.heap.size + 1, 2, none⟩ = some (.slice none 0 0) := by rw [← hW1]; exact new_cell (World.size_alloc _ _)
  have rf : ∀ i, W1.frozen? ⟨w.heap.size + 1, i, none⟩ = false := fun i => by rw [← hW1]; exact new_frozen (World.size_alloc _ _)
  replace c0 := grow_cell hB1 _ _ c0
  replace c1 := grow_cell hB1 _ _ c1
  replace c2 := grow_cell hB1 _ _ c2
  replace d0 := grow_cell hB1 _ _ d0
  replace d1 := grow_cell hB1 _ _ d1
  replace d2 := grow_cell hB1 _ _ d2
  have Hm := hide (match_any (lv, li) lk _ (zv, zi) zk _ W1 (HS1.out.below hB1) (HS.out.below hB1) HZ.out.lw.gd.ok HZ.out.lw.gd.nar (by have := HW.out.1.lw.sz; simp only [szT] at this; omega))
  have HB1 := hide hB1
  clear hW1 hB1
  simp only at *
  go_wp2_with fail
  refine Hm.out.mono ?_
  rintro e w2 ⟨hb2, m1, m, m3, ok, rfl, hno, hyes⟩
  replace c0 := grow_cell hb2 _ _ c0
  replace c1 := grow_cell hb2 _ _ c1
  replace c2 := grow_cell hb2 _ _ c2
  replace d0 := grow_cell hb2 _ _ d0
  replace d1 := grow_cell hb2 _ _ d1
  replace d2 := grow_cell hb2 _ _ d2
  replace r0 := grow_cell hb2 _ _ r0
  replace r1 := grow_cell hb2 _ _ r1
  replace r2 := grow_cell hb2 _ _ r2
  replace g0 := grow_cell hb2 _ _ g0
  replace g1 := grow_cell hb2 _ _ g1
  replace g2 := grow_cell hb2 _ _ g2
  replace rf : ∀ i, w2.frozen? ⟨w.heap.size + 1, i, none⟩ = false := fun i => (hb2.frozen (by show w.heap.size + 1 < _; omega)).trans (rf i)
  have hz2 := hb2.size
  have HB2 := hide (below_step HB1.out hb2)
  cases ok
  · have Hex := hide (hno rfl).1
    clear hno hyes hb2
    go_wp2_with fail
    refine bodyPost_ret (v := .tuple #[.agg #[.bool false, .int .i64 0, .slice none 0 0], .bool false]) (by simp [results, Tryd.results63, go_sem, r0, r1, r2]) rfl ?_
    refine ⟨((false, 0), .nil), none, 0, false, rfl, ?_, .inl ⟨rfl, rfl⟩, set3_below (b := w.heap.size + 1) (o := 0) HB2.out (by omega)⟩
    unfold tryW
    simp only
    rw [Hex.out]
    rfl
  · obtain ⟨bs, hex, rfl, hSb⟩ := hyes rfl
    have Hex := hide hex
    have HSb := hide hSb
    have Hbs := hide (bs_small ⟨HZ.out.lw.gd, HZ.out.lw.sz⟩ hex)
    obtain ⟨⟨⟨rv, ri⟩, rk⟩, hr⟩ : ∃ r, r = subT (bnd bs) ((lv', li'), lk') := ⟨_, rfl⟩
    have Hr := hide hr
    have Hrs : Hid (Gd ((rv, ri), rk) ∧ tszR rk ≤ 4000000000000) := by
      have := sub_small Hbs.out HW.out.2.lw.gd HW.out.2.lw.sz
      rw [← hr] at this
      exact this
    have Hap := hide (apply_any bs (.slice m1 bs.length m3) (lv', li') lk' _ w2 HSb.out (fun p hp => ⟨(Hbs.out p hp).1.nar, (Hbs.out p hp).1.ok⟩) ((HS2.out.below HB2.out)) HW.out.2.lw.gd.nar)
    rw [← hr] at Hap
    clear hno hyes hex hSb hr hb2
    simp only at Hap
    go_wp2_with fail
    refine Hap.out.mono ?_
    rintro e w3 ⟨a', rfl, hO, hb3⟩
    obtain ⟨x1, x3, _, _, rfl, -, -, -, -⟩ := hO.toS
    replace r0 := grow_cell hb3 _ _ r0
    replace r1 := grow_cell hb3 _ _ r1
    replace r2 := grow_cell hb3 _ _ r2
    replace g0 := grow_cell hb3 _ _ g0
    replace g1 := grow_cell hb3 _ _ g1
    replace g2 := grow_cell hb3 _ _ g2
    replace rf : ∀ i, w3.frozen? ⟨w.heap.size + 1, i, none⟩ = false := fun i => (hb3.frozen (by show w.heap.size + 1 < _; omega)).trans (rf i)
    have hz3 := hb3.size
    have HO := hide hO
    have HB3 := hide (below_step HB2.out hb3)
    clear hO hb3 c0 c1 c2 d0 d1 d2
    go_upto_region 5 with fail
    generalize hwa : w3.alloc (.cells #[.bool rv, .int .i64 ri, .slice x1 (Fo.len rk) x3] 37) = wa
    have hba : Below w3.heap.size w3 wa := by rw [← hwa]; exact below_alloc _ _
    have l0 : wa.cell? ⟨w3.heap.size, 0, none⟩ = some (.bool rv) := by rw [← hwa]; exact new_cell rfl
    have l1 : wa.cell? ⟨w3.heap.size, 1, none⟩ = some (.int .i64 ri) := by rw [← hwa]; exact new_cell rfl
    have l2 : wa.cell? ⟨w3.heap.size, 2, none⟩ = some (.slice x1 (Fo.len rk) x3) := by rw [← hwa]; exact new_cell rfl
    replace r0 := grow_cell hba _ _ r0
    replace r1 := grow_cell hba _ _ r1
    replace r2 := grow_cell hba _ _ r2
    replace g0 := grow_cell hba _ _ g0
    replace g1 := grow_cell hba _ _ g1
    replace g2 := grow_cell hba _ _ g2
    replace rf : ∀ i, wa.frozen? ⟨w.heap.size + 1, i, none⟩ = false := fun i => (hba.frozen (by show w.heap.size + 1 < _; omega)).trans (rf i)
    have hz4 := hba.size
    have HOa : Hid (OwnV wa w2.heap.size w3.heap.size rk (.slice x1 (Fo.len rk) x3)) := HO.out.frame fun q i _ q2 => ⟨hba.cell q2, hba.frozen q2⟩
    have HBa := hide (below_step HB3.out hba)
    obtain ⟨B, hB⟩ : ∃ B, abvT ((zv, zi), zk) ((rv, ri), rk) = B := ⟨_, rfl⟩
    have Hc := hide (fun (w' : World) (hb : Below wa.heap.size wa w') => cmpP_call hB HZ.out.lw.gd Hrs.out.1 (by have := HZ.out.lw.sz; simp only [szT] at this; omega) Hrs.out.2 w' (HS.out.below (below_step HBa.out hb)) (HOa.out.toS.below hb))
    have HBB := hide hB
    have Htry : Hid (tryW ((zv, zi), zk) (wn, ((lv, li), lk), ((lv', li'), lk')) = if B then some ((rv, ri), rk) else none) := by
      unfold tryW
      simp only
      rw [Hid, Hex.out]
      simp only
      rw [hn, ← Hr.out, hB]
      rfl
    clear hwa hba hB
    have hcur : Below wa.heap.size wa wa.drew := (Below.refl _ _).drew
    have hne1 : w3.heap.size ≠ w.heap.size + 1 := by omega
    have hne2 : w.heap.size ≠ w.heap.size + 1 := by omega
    have hlt1 : w.heap.size + 1 < wa.heap.size := by omega
    have hst3 := hz3
    simp only at *
    go_region_held3 (fun w' => w'.cell? ⟨w3.heap.size, 0, none⟩ = some (.bool rv) ∧ w'.cell? ⟨w3.heap.size, 1, none⟩ = some (.int .i64 ri) ∧ w'.cell? ⟨w3.heap.size, 2, none⟩ = some (.slice x1 (Fo.len rk) x3) ∧ w'.cell? ⟨w.heap.size, 0, none⟩ = some (.bool zv) ∧ w'.cell? ⟨w.heap.size, 1, none⟩ = some (.int .i64 zi) ∧ w'.cell? ⟨w.heap.size, 2, none⟩ = some (.slice za (Fo.len zk) zc))
      (first
        | (with_reducible exact ⟨grow_cell hcur _ _ l0, grow_cell hcur _ _ l1, grow_cell hcur _ _ l2, grow_cell hcur _ _ g0, grow_cell hcur _ _ g1, grow_cell hcur _ _ g2⟩)
        | (with_reducible exact ⟨keep3 hne1 (grow_cell hcur _ _ l0), keep3 hne1 (grow_cell hcur _ _ l1), keep3 hne1 (grow_cell hcur _ _ l2), keep3 hne2 (grow_cell hcur _ _ g0), keep3 hne2 (grow_cell hcur _ _ g1), keep3 hne2 (grow_cell hcur _ _ g2)⟩)
        | go_keep)
      (first
        | (go_at_call 65; with_reducible refine (Hc.out _ hcur).mono ?_; rintro e w5 ⟨rr, rfl, hrr, hb5⟩; replace hcur := below_step hcur hb5; have e0 := grow_cell hcur _ _ r0; have e1 := grow_cell hcur _ _ r1; have e2 := grow_cell hcur _ _ r2; have ef : ∀ i, w5.frozen? ⟨w.heap.size + 1, i, none⟩ = false := fun i => (hcur.frozen hlt1).trans (rf i)))
    all_goals
      have Hend := hide hcur
      obtain ⟨t0, t1, t2⟩ := set3_cells (x := .bool rv) (y := .int .i64 ri) (z := .slice x1 (Fo.len rk) x3) e0 e1 e2
      have hz5 := Hend.out.size
      have Hbe := hide (set3_below (b := w.heap.size + 1) (o := 0) (x := .bool rv) (y := .int .i64 ri) (z := .slice x1 (Fo.len rk) x3) (below_step HBa.out Hend.out) (by omega))
      have HOe : Hid (OwnV (set3 w5 (w.heap.size + 1) 0 (.bool rv) (.int .i64 ri) (.slice x1 (Fo.len rk) x3)) w.heap.size (set3 w5 (w.heap.size + 1) 0 (.bool rv) (.int .i64 ri) (.slice x1 (Fo.len rk) x3)).heap.size rk (.slice x1 (Fo.len rk) x3)) := by
        have h1 : OwnV (set3 w5 (w.heap.size + 1) 0 (.bool rv) (.int .i64 ri) (.slice x1 (Fo.len rk) x3)) w2.heap.size w3.heap.size rk (.slice x1 (Fo.len rk) x3) := HOa.out.frame fun q i q1 q2 => ⟨(set3_other (.inl (by omega))).trans (Hend.out.cell (by show q < _; omega)), set3_frozen.trans (Hend.out.frozen (by show q < _; omega))⟩
        exact h1.mono (by omega) (by rw [set3_size]; omega)
      generalize hw6 : set3 w5 (w.heap.size + 1) 0 (.bool rv) (.int .i64 ri) (.slice x1 (Fo.len rk) x3) = w6 at t0 t1 t2 Hbe HOe
      have hw6' : ((w5.setCell { block := w.heap.size + 1, off := 0 } (.bool rv)).setCell { block := w.heap.size + 1, off := 1 } (.int .i64 ri)).setCell { block := w.heap.size + 1, off := 2 } (.slice x1 (Fo.len rk) x3) = w6 := hw6
      rw [hw6']
      clear hw6 hw6' e0 e1 e2 ef hcur hb5 g0 g1 g2 l0 l1 l2 r0 r1 r2 rf hrr
      simp only [Nat.zero_add] at t1 t2
      go_wp2_with fail
      refine bodyPost_ret (v := .tuple #[.agg #[.bool rv, .int .i64 ri, .slice x1 (Fo.len rk) x3], .bool B]) (by simp [results, Tryd.results63, go_sem, t0, t1, t2]) rfl ?_
      exact ⟨((rv, ri), rk), x1, x3, B, rfl, Htry.out, HOe.out, Hbe.out⟩
end Go.Proofs.YtlgnpiphaeoeiadDoor

namespace Go.Proofs.YtlgnpiphaeoeiadDoor
open Go.RowKit Go.Deep Go.ChangeShapes Go.WideShapes
attribute [local go_sem ↓] Go.wp_at_zero Go.wp_at_succ
theorem Tryd.info84 : (Tryd.prog.info? 84).map (fun i => (i.zero, i.size, i.bytes)) = some (some .nilFunc, 1, 8) := by kernel_rfl
abbrev fnV (f1 f2 : Nat) : Value := .func (.func 63) #[] #[.pointer (some ⟨f1, 0, none⟩), .pointer (some ⟨f2, 0, none⟩)]
def BoxT (W0 w : World) (f : Nat) (t : Tm) : Prop := ∃ a, w.cell? ⟨f, 0, none⟩ = some (.bool t.1.1) ∧ w.cell? ⟨f, 1, none⟩ = some (.int .i64 t.1.2) ∧ w.cell? ⟨f, 2, none⟩ = some a ∧ SIn W0 t.2 a
theorem BoxT.lt {W0 w : World} {f : Nat} {t : Tm} (h : BoxT W0 w f t) : f < w.heap.size := World.block_lt_of_cell? _ _ h.choose_spec.1
theorem BoxT.keep {W0 w w' : World} {f : Nat} {t : Tm} (h : BoxT W0 w f t) (hk : w'.heap[f]? = w.heap[f]?) : BoxT W0 w' f t := by
  obtain ⟨a, h0, h1, h2, h3⟩ := h
  exact ⟨a, by rw [World.cell?_of_block hk]; exact h0, by rw [World.cell?_of_block hk]; exact h1, by rw [World.cell?_of_block hk]; exact h2, h3⟩
theorem BoxT.tin {W0 w : World} {f : Nat} {t : Tm} (h : BoxT W0 w f t) (hb : Below W0.heap.size W0 w) : TIn w f 0 t.1 t.2 := by
  obtain ⟨a, h0, h1, h2, h3⟩ := h
  exact ⟨h0, h1, a, h2, h3.below hb⟩
set_option maxRecDepth 100000 in
set_option maxHeartbeats 1000000 in
theorem from_call (W0 : World) (l : Lt) (a1 d1 : Option Addr) (a3 d3 : Nat) (w : World) (hA : SIn W0 l.2.1.2 (.slice a1 (Fo.len l.2.1.2) a3)) (hD : SIn W0 l.2.2.2 (.slice d1 (Fo.len l.2.2.2) d3)) :
    Calls Tryd.prog 45 #[.agg #[.bool l.2.1.1.1, .int .i64 l.2.1.1.2, .slice a1 (Fo.len l.2.1.2) a3], .agg #[.bool l.2.2.1.1, .int .i64 l.2.2.1.2, .slice d1 (Fo.len l.2.2.2) d3]] w fun e w' => e = .returned (fnV w.heap.size (w.heap.size + 1)) ∧ BoxT W0 w' w.heap.size l.2.1 ∧ BoxT W0 w' (w.heap.size + 1) l.2.2 ∧ Below w.heap.size w w' := by
  obtain ⟨ln, ⟨⟨lv, li⟩, lk⟩, ⟨lv', li'⟩, lk'⟩ := l
  simp only at *
  have HA := hide hA
  have HD := hide hD
  clear hA hD
  go_enter Tryd.func45, Tryd.ntmps45
  go_wp2_with fail
  go_ret
  refine ⟨rfl, ⟨_, ?_, ?_, ?_, HA.out⟩, ⟨_, ?_, ?_, ?_, HD.out⟩, below_step (below_alloc _ _) (below_alloc _ _)⟩
  · rw [World.cell?_alloc_lt _ _ _ (by simp)]; exact new_cell rfl
  · rw [World.cell?_alloc_lt _ _ _ (by simp)]; exact new_cell rfl
  · rw [World.cell?_alloc_lt _ _ _ (by simp)]; exact new_cell rfl
  · exact new_cell (World.size_alloc _ _)
  · exact new_cell (World.size_alloc _ _)
  · exact new_cell (World.size_alloc _ _)
structure LeS (W0 w : World) (ws : List Lt) (v : Value) (xs : List Value) : Prop where
  row : w.ownsRow W0.heap.size 84 1 v ws.length xs
  el : ∀ (i : Nat) (wy : Lt), ws[i]? = some wy → ∃ f1 f2, xs[i]? = some (fnV f1 f2) ∧ some f1 ≠ v.ownBlock ∧ some f2 ≠ v.ownBlock ∧ BoxT W0 w f1 wy.2.1 ∧ BoxT W0 w f2 wy.2.2
  b : Below W0.heap.size W0 w
theorem LeS.nil (W0 : World) : LeS W0 W0 [] (.slice none 0 0) [] := ⟨World.ownsRow_nil _ _ _ _, fun i s h => by simp at h, Below.refl _ _⟩
theorem LeS.below {W0 w w' : World} {ws : List Lt} {v : Value} {xs : List Value} (h : LeS W0 w ws v xs) (hb : Below w.heap.size w w') : LeS W0 w' ws v xs where
  row := owns_keep h.row (fun g hg => hb.block g (owns_at h.row g hg).2)
  el := fun i wy hi => by
    obtain ⟨f1, f2, h1, h2, h3, h4, h5⟩ := h.el i wy hi
    exact ⟨f1, f2, h1, h2, h3, h4.keep (hb.block _ h4.lt), h5.keep (hb.block _ h5.lt)⟩
  b := below_step h.b hb
theorem LeS.slice {W0 w : World} {ws : List Lt} {v : Value} {xs : List Value} (h : LeS W0 w ws v xs) : ∃ z1 z3, v = .slice z1 ws.length z3 := by
  rcases h.row.2 with ⟨rfl, e⟩ | ⟨g, cap, cur, rfl, _⟩
  · exact ⟨none, 0, by rw [e]⟩
  · exact ⟨_, cap, rfl⟩
theorem LeS.push {W0 w : World} {ws : List Lt} {v : Value} {xs : List Value} (h : LeS W0 w ws v xs) {wy : Lt} {f1 f2 : Nat} {v4 : Value} {w3 w4 : World} (hb : Below w.heap.size w w3) (hf1 : w.heap.size ≤ f1) (hf2 : w.heap.size ≤ f2)
    (h1 : BoxT W0 w3 f1 wy.2.1) (h2 : BoxT W0 w3 f2 wy.2.2)
    (ho : w4.ownsRow W0.heap.size 84 1 v4 (ws.length + 1) (xs ++ [fnV f1 f2])) (hg : w3.grownBy w4 v.ownBlock) (hat : v4.ownBlock = v.ownBlock ∨ v4.ownBlock = some w3.heap.size) : LeS W0 w4 (ws ++ [wy]) v4 (xs ++ [fnV f1 f2]) := by
  have h3 := h.below hb
  have hxl : xs.length = ws.length := by have := h.row.1; omega
  have hown : ∀ q, v.ownBlock = some q → q < w.heap.size := fun q hq => (owns_at h.row q hq).2
  have ne : ∀ f, f < w3.heap.size → some f ≠ v.ownBlock → some f ≠ v4.ownBlock := fun f hf hn e => by
    rcases hat with e' | e'
    · exact hn (e.trans e')
    · rw [e'] at e; simp at e; omega
  have n1 : some f1 ≠ v.ownBlock := fun e => by have := hown f1 e.symm; omega
  have n2 : some f2 ≠ v.ownBlock := fun e => by have := hown f2 e.symm; omega
  refine ⟨by rw [List.length_append]; exact ho, fun i d hd => ?_, ⟨hg.os.trans h3.b.os, hg.tape.trans h3.b.tape, hg.output.trans h3.b.output, by have := hg.size; have := h3.b.size; omega, fun q hq => ?_⟩⟩
  · by_cases hi : i < ws.length
    · rw [List.getElem?_append_left hi] at hd
      obtain ⟨g1, g2, k1, k2, k3, k4, k5⟩ := h3.el i d hd
      exact ⟨g1, g2, by rw [List.getElem?_append_left (by omega)]; exact k1, ne _ k4.lt k2, ne _ k5.lt k3, k4.keep (hg.block _ k4.lt k2), k5.keep (hg.block _ k5.lt k3)⟩
    · have hil := (List.getElem?_eq_some_iff.1 hd).1
      simp only [List.length_append, List.length_cons, List.length_nil] at hil
      have hie : i = ws.length := by omega
      subst hie
      rw [List.getElem?_append_right (Nat.le_refl _), Nat.sub_self] at hd
      simp only [List.getElem?_cons_zero, Option.some.injEq] at hd
      subst hd
      refine ⟨f1, f2, ?_, ne _ h1.lt n1, ne _ h2.lt n2, h1.keep (hg.block _ h1.lt n1), h2.keep (hg.block _ h2.lt n2)⟩
      rw [List.getElem?_append_right (by omega), hxl, Nat.sub_self]
      rfl
  · have hqv : some q ≠ v.ownBlock := fun e => by have := owns_at h.row q e.symm; omega
    have := h3.b.size
    rw [hg.block q (by omega) hqv, h3.b.block q hq]
def ByIn (w : World) (ws : List Lt) (v : Value) : Prop :=
  ∃ (a : Option Addr) (k b o : Nat), v = .slice a ws.length k ∧ (0 < ws.length → a = some ⟨b, o, none⟩) ∧ ws.length ≤ k ∧ k ≤ maxLen ∧ ∀ i wy, ws[i]? = some wy → ∃ f1 f2, w.cell? ⟨b, o + i, none⟩ = some (fnV f1 f2) ∧ TIn w f1 0 wy.2.1.1 wy.2.1.2 ∧ TIn w f2 0 wy.2.2.1 wy.2.2.2
theorem ByIn.below {w w' : World} (hb : Below w.heap.size w w') {ws : List Lt} {v : Value} (h : ByIn w ws v) : ByIn w' ws v := by
  obtain ⟨a, k, b, o, h1, h2, h3, h4, h5⟩ := h
  refine ⟨a, k, b, o, h1, h2, h3, h4, fun i s hs => ?_⟩
  obtain ⟨f1, f2, k1, k2, k3⟩ := h5 i s hs
  exact ⟨f1, f2, grow_cell hb _ _ k1, k2.below hb, k3.below hb⟩
theorem LeS.by {W0 w : World} {ws : List Lt} {v : Value} {xs : List Value} (h : LeS W0 w ws v xs) : ByIn w ws v := by
  have hcells := fun g hg => h.row.cells (g := g) hg
  rcases h.row.2 with ⟨e, h0⟩ | ⟨g, cap, cur, e, _, _, hn, hm, _, _⟩
  · have : ws = [] := List.length_eq_zero_iff.1 h0
    rw [this, e]
    exact ⟨none, 0, 0, 0, rfl, fun h => by simp at h, Nat.le_refl _, Nat.zero_le _, fun i s h => by simp at h⟩
  · refine ⟨some ⟨g, 0, none⟩, cap, g, 0, e, fun _ => rfl, hn, hm, fun i c hc => ?_⟩
    obtain ⟨f1, f2, h1, _, _, h4, h5⟩ := h.el i c hc
    refine ⟨f1, f2, ?_, h4.tin h.b, h5.tin h.b⟩
    have := hcells g (by rw [e]; rfl) i _ h1
    rw [add_plain] at this
    exact this
def keepW (w : Lt) : List Lt := if newV w = true then [] else [w]
def byK (u : Lt) (k : Nat) : List Lt := (if 0 < k then keepW u else []) ++ (if 1 < k then keepW (turnL true u) else [])
theorem byK_next {u : Lt} {k : Nat} (hk : k < 2) : byK u (k + 1) = byK u k ++ keepW (turnL (decide (k = 1)) u) := by
  obtain rfl | rfl : k = 0 ∨ k = 1 := by omega
  · simp [byK]; rfl
  · simp [byK]
theorem keep_two {u v : Lt} : [u, v].filter (fun w => !newV w) = keepW u ++ keepW v := by
  cases h1 : newV u <;> cases h2 : newV v <;> simp [keepW, h1, h2]
theorem byL_next {us : List Lt} {j : Nat} {u : Lt} (h : us[j]? = some u) : byL (us.take (j + 1)) = byL (us.take j) ++ byK u 2 := by
  unfold byL
  rw [List.take_add_one, h, List.flatMap_append]
  congr 1
  rw [Option.toList_some, List.flatMap_cons, List.flatMap_nil, List.append_nil, keep_two]
  rfl
theorem cs_fn {w : World} {x : Value} {T : TypeId} (hx : x.oneCell' = true) : Cs (w.alloc (.cells #[x] T)) (.slice (some ⟨w.heap.size, 0, none⟩) 1 1) 1 1 [x] :=
  ⟨_, 1, rfl, rfl, by simpa using hx, fun e => by (cases e), fun ad hh j u hj => by cases hh; exact World.news_of_block (cs := #[x]) (heap_alloc_new w _) j u hj⟩
set_option maxRecDepth 100000 in
set_option maxHeartbeats 4000000 in
theorem lesseners_any {us : List Lt} {s : List Int} (hus : Uns s us) (h8 : us.length ≤ 8) (uv : Value) (w : World) (hC : CsIn w (us.map fun u => [u]) uv) (hpos : ∀ u ∈ us, u.1 = false) :
    Calls Tryd.prog 27 #[uv] w fun e w' => ∃ v, e = .returned v ∧ ByIn w' (byL us) v ∧ Below w.heap.size w w' := by
  obtain ⟨ua, uc, ub, uo, rfl, huad, hulc, hucm, hUF⟩ := hC
  unfold maxLen at hucm
  have HUF := hide hUF
  have HU := hide hus
  have HP := hide hpos
  rw [List.length_map] at *
  clear hUF hus hpos
  obtain ⟨iS, hi, hz0, hz1, hz2⟩ := info_parts Tryd.info84
  have HiS := hide (And.intro hi (And.intro hz0 (And.intro hz1 hz2)))
  clear hi hz0 hz1 hz2
  go_enter Tryd.func27, Tryd.ntmps27
  go_wp2_with fail
  go_loopw [3, 10] (fun v i wr => ∃ (j : Nat) (ws : List Lt) (z1 : Option Addr) (z3 : Nat) (xs : List Value), j ≤ us.length ∧ i = .int .i64 j ∧ v = .slice z1 ws.length z3 ∧ LeS w wr ws (.slice z1 ws.length z3) xs ∧ ws = byL (us.take j) ∧ ws.length ≤ 2 * j) (fun _ i _ => us.length - (intOf i).toNat)
  case atStart => exact ⟨0, [], none, 0, [], Nat.zero_le _, rfl, rfl, LeS.nil w, rfl, Nat.le_refl _⟩
  case round =>
    obtain ⟨j, ws, z1, z3, xs, hj, rfl, rfl, hL, hws, hwl⟩ := hrel
    have HL := hide hL
    have Hws := hide hws
    have hBr := hL.b
    clear hL hws
    by_cases hjl : j < us.length
    · have hjl' : (j : Int) < (us.length : Int) := by omega
      obtain ⟨u, hu⟩ : ∃ u, us[j]? = some u := ⟨us[j]'hjl, by simp⟩
      have Hum := hide (HU.out u (List.mem_of_getElem? hu))
      have Hup := hide (HP.out u (List.mem_of_getElem? hu))
      have Hnx := hide (byL_next hu)
      obtain ⟨cv, c0, hcv⟩ := HUF.out j [u] (by rw [List.getElem?_map, hu]; rfl)
      replace c0 := grow_cell hBr _ _ c0
      have Hun := hide (unitP_any [u] cv wr (hcv.below hBr))
      obtain ⟨ca, cc, cb, co, rfl, had, hlc, hcm, hF⟩ := hcv
      have hca : ca = some ⟨cb, co, none⟩ := had (by simp)
      subst hca
      obtain ⟨p0, p1, p2, ⟨u3, p3, hA⟩, p4, p5, u6, p6, hD⟩ := hF.at (i := 0) (l := u) rfl
      simp only [Nat.zero_mul, Nat.add_zero] at p0 p1 p2 p3 p4 p5 p6
      replace p0 := grow_cell hBr _ _ p0
      replace p1 := grow_cell hBr _ _ p1
      replace p2 := grow_cell hBr _ _ p2
      replace p3 := grow_cell hBr _ _ p3
      replace p4 := grow_cell hBr _ _ p4
      replace p5 := grow_cell hBr _ _ p5
      replace p6 := grow_cell hBr _ _ p6
      have HA := hide hA
      have HD := hide hD
      have Hlit := hide (fun (kk : Nat) (hk : kk < 2) => lit_at hk hA hD)
      obtain ⟨ya, yc, _, _, rfl, -, -, -, -⟩ := hA
      obtain ⟨za, zc, _, _, rfl, -, -, -, -⟩ := hD
      have hua : ua = some ⟨ub, uo, none⟩ := huad (by omega)
      subst hua
      have Hu1 : Hid (unitP [u] = true) := by rw [Hid, unitP, Hup.out]; rfl
      rw [Hu1.out] at Hun
      have Hbw := hide (fun (w' : World) => bothLits_any u ya za (Fo.len u.2.1.2) yc (Fo.len u.2.2.2) zc w')
      have HBr := hide hBr
      have HFw := hide hF
      clear hu had hF huad hBr
      obtain ⟨un, ⟨⟨uv, ui⟩, uk⟩, ⟨⟨uv', ui'⟩, uk'⟩⟩ := u
      unfold maxLen at hcm
      simp only [List.length_singleton] at *
      go_wp2_with fail
      refine Hun.out.mono ?_
      rintro e w1 ⟨rfl, rfl⟩
      go_wp2_with fail
      refine (Hbw.out _).mono ?_
      rintro e w2 ⟨rfl, hb2⟩
      have HL2 := hide (HL.out.below hb2)
      clear hb2 p0 p1 p2 p3 p4 p5 p6 c0
      go_wp2_with fail
      go_loopw [3, 21] (fun v i wr => ∃ (kk : Nat) (vs : List Lt) (z1 : Option Addr) (z3 : Nat) (xs : List Value), kk ≤ 2 ∧ i = .int .i64 kk ∧ v = .slice z1 vs.length z3 ∧ LeS w wr vs (.slice z1 vs.length z3) xs ∧ vs = ws ++ byK (un, ((uv, ui), uk), ((uv', ui'), uk')) kk ∧ vs.length ≤ 2 * j + kk) (fun _ i _ => 2 - (intOf i).toNat)
      case atStart => exact ⟨0, ws, z1, z3, xs, by omega, rfl, rfl, HL2.out, by simp [byK], by omega⟩
      case round =>
        obtain ⟨kk, vs, y1, y3, ys, hkk, rfl, rfl, hL, hvs, hvl⟩ := hrel
        have HLk := hide hL
        have Hvs := hide hvs
        have HBk := hide hL.b
        clear hL hvs
        by_cases hkl : kk < 2
        · have hkl' : (kk : Int) < 2 := by omega
          have hk0 : (0 : Int) ≤ (kk : Int) := by omega
          obtain ⟨b1, b3, e1, e3, hSA, hSD, hrun⟩ := Hlit.out kk hkl
          have Hnk := hide (byK_next (u := (un, ((uv, ui), uk), ((uv', ui'), uk'))) hkl)
          have Hsm := hide (turn_sm (u := (un, ((uv, ui), uk), ((uv', ui'), uk'))) (decide (kk = 1)) Hum.out)
          generalize turnL (decide (kk = 1)) (un, ((uv, ui), uk), ((uv', ui'), uk')) = ty at *
          obtain ⟨tn, ⟨⟨tv, ti⟩, tk⟩, ⟨⟨tv', ti'⟩, tk'⟩⟩ := ty
          simp only at hSA hSD hrun Hsm Hnk
          have hrun' := hrun wr
          have HSA := hide hSA
          have HSD := hide hSD
          clear hSA hSD hrun
          go_upto_region 9 with fail
          generalize hwa : wr.alloc (.cells #[.bool tn, .bool tv, .int .i64 ti, .slice b1 (Fo.len tk) b3, .bool tv', .int .i64 ti', .slice e1 (Fo.len tk') e3] 39) = wa
          obtain ⟨g0, g1, g2, g3, g4, g5, g6, -, hba, hsa⟩ := lit_cells (T := 39) (w := wr) (wr := wa) (x0 := .bool tn) (x1 := .bool tv) (x2 := .int .i64 ti) (x3 := .slice b1 (Fo.len tk) b3) (x4 := .bool tv') (x5 := .int .i64 ti') (x6 := .slice e1 (Fo.len tk') e3) (by rw [← hwa]; exact Below.refl _ _)
          have HLa := hide (HLk.out.below hba)
          have Hhv := hide (hasVars_any (tn, ((tv, ti), tk), ((tv', ti'), tk')) b1 e1 b3 e3 wa (HSA.out.below HLa.out.b) (HSD.out.below HLa.out.b) (by have := Hsm.out.1.lw.sz; simp only [szT] at this; omega) (by have := Hsm.out.2.lw.sz; simp only [szT] at this; omega))
          generalize wr.heap.size = gx at *
          clear hwa hba hrun'
          simp only at Hhv
          go_wp2_with fail
          refine Hhv.out.mono ?_
          rintro e w3 ⟨rfl, hb3⟩
          replace g1 := grow_cell hb3 _ _ g1
          replace g2 := grow_cell hb3 _ _ g2
          replace g3 := grow_cell hb3 _ _ g3
          replace g4 := grow_cell hb3 _ _ g4
          replace g5 := grow_cell hb3 _ _ g5
          replace g6 := grow_cell hb3 _ _ g6
          have HL3 := hide (HLa.out.below hb3)
          clear hb3 g0
          cases hnv : newV (tn, ((tv, ti), tk), ((tv', ti'), tk'))
          · have Hkp : Hid (vs ++ [(tn, ((tv, ti), tk), ((tv', ti'), tk'))] = ws ++ byK (un, ((uv, ui), uk), ((uv', ui'), uk')) (kk + 1)) := by
              rw [Hid, Hnk.out, Hvs.out, keepW, if_neg (by simp [hnv]), List.append_assoc]
            have Hfr := hide (from_call w (tn, ((tv, ti), tk), ((tv', ti'), tk')) b1 e1 b3 e3 w3 HSA.out HSD.out)
            simp only at Hfr
            clear hnv
            go_wp2_with fail
            refine Hfr.out.mono ?_
            rintro e w4 ⟨rfl, hx1, hx2, hb4⟩
            have hba4 := below_alloc w4 (.cells #[fnV w3.heap.size (w3.heap.size + 1)] 84)
            have hb34 := below_step hb4 hba4
            have HL4 := hide (HL3.out.below hb34)
            have hlo := HL4.out.b.size
            obtain ⟨hi, hz0, hz1, hz2⟩ := HiS.out
            have hn1 : vs.length + 1 ≤ maxLen := by unfold maxLen; omega
            have hn2 : (vs.length + 1) * 8 ≤ 140737488355328 := by omega
            have Hpush := hide (fun (v5 : Value) (w5 : World) (ho : w5.ownsRow w.heap.size 84 1 v5 (vs.length + 1) (ys ++ [fnV w3.heap.size (w3.heap.size + 1)])) (hg : (w4.alloc (.cells #[fnV w3.heap.size (w3.heap.size + 1)] 84)).grownBy w5 (Value.slice y1 vs.length y3).ownBlock) (hat : v5.ownBlock = (Value.slice y1 vs.length y3).ownBlock ∨ v5.ownBlock = some (w4.alloc (.cells #[fnV w3.heap.size (w3.heap.size + 1)] 84)).heap.size) => HL3.out.push (wy := (tn, ((tv, ti), tk), ((tv', ti'), tk'))) hb34 (Nat.le_refl _) (by omega) (hx1.keep (hba4.block _ hx1.lt)) (hx2.keep (hba4.block _ hx2.lt)) ho hg hat)
            clear hx1 hx2 hb4 hba4 hb34 g1 g2 g3 g4 g5 g6
            go_wp2_with (at_builtin; refine wpList_append_gen rfl (.tmp 29) (.tmp 35) 58 rfl w.heap.size 84 iS .nilFunc 1 8 Tryd.underlying58 hi hz0 hz1 hz2 rfl (by decide) (.slice y1 vs.length y3) vs.length ys rfl HL4.out.row _ 1 [fnV w3.heap.size (w3.heap.size + 1)] rfl (cs_fn rfl) hn1 hn2 hlo ?_; intro v5 w5 ho5 hg5 hat5)
            have hP := Hpush.out v5 w5 ho5 hg5 hat5
            obtain ⟨u1, u3, hv5⟩ := hP.slice
            subst hv5
            go_roundw
            case rel => exact ⟨kk + 1, vs ++ [(tn, ((tv, ti), tk), ((tv', ti'), tk'))], u1, u3, _, by omega, by go_num, rfl, hP, Hkp.out, by rw [List.length_append, List.length_singleton]; omega⟩
            case measure => simp [intOf]; omega
          · have Hkp : Hid (vs = ws ++ byK (un, ((uv, ui), uk), ((uv', ui'), uk')) (kk + 1)) := by
              rw [Hid, Hnk.out, keepW, if_pos (by simp [hnv]), List.append_nil]
              exact Hvs.out
            clear hnv g1 g2 g3 g4 g5 g6
            go_wp2_with fail
            go_roundw
            case rel => exact ⟨kk + 1, vs, y1, y3, ys, by omega, by go_num, rfl, HL3.out, Hkp.out, by omega⟩
            case measure => simp [intOf]; omega
        · have hk2 : kk = 2 := by omega
          subst hk2
          have Hn : Hid (vs = byL (us.take (j + 1))) := by rw [Hid, Hnx.out, ← Hws.out, Hvs.out]
          go_wp2_with fail
          go_roundw
          case rel => exact ⟨j + 1, vs, y1, y3, ys, by omega, by go_num, rfl, HLk.out, Hn.out, by omega⟩
          case measure => simp [intOf]; omega
    · have hje : j = us.length := by omega
      have Hf : Hid (ByIn wr (byL us) (.slice z1 ws.length z3)) := by
        have h := HL.out.by
        have e := Hws.out
        rw [hje, List.take_length] at e
        rw [e] at h ⊢
        exact h
      clear huad
      go_wp2_with fail
      go_ret
      exact ⟨_, rfl, Hf.out, hBr⟩
end Go.Proofs.YtlgnpiphaeoeiadDoor
