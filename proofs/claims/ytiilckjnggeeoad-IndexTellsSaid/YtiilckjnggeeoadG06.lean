/- RPut RNums RVars CP Rep RepV -/
import Derived.Test.YtiilckjnggeeoadG05
import Derived.Deep.RegionWith
import Derived.Deep.RegionHeld3
namespace Go.Proofs.Ytiilckjnggeeoad
open Go.RowKit Go.Deep Go.ChangeShapes Go.WideShapes
attribute [local go_sem ↓] Go.wp_at_zero Go.wp_at_succ
theorem new_cell {w0 : World} {n i : Nat} {c : Array Value} {t : TypeId} (h : w0.heap.size = n) : (w0.alloc (.cells c t)).cell? ⟨n, i, none⟩ = c[i]? := by subst h; simp
theorem new_frozen {w0 : World} {n i : Nat} {c : Array Value} {t : TypeId} (h : w0.heap.size = n) : (w0.alloc (.cells c t)).frozen? ⟨n, i, none⟩ = false := by subst h; simp
theorem size2 (w : World) (o1 o2 : Obj) : ((w.alloc o1).alloc o2).heap.size = w.heap.size + 2 := by rw [World.size_alloc, World.size_alloc]
theorem size3 (w : World) (o1 o2 o3 : Obj) : (((w.alloc o1).alloc o2).alloc o3).heap.size = w.heap.size + 3 := by rw [World.size_alloc, size2]
end Go.Proofs.Ytiilckjnggeeoad

namespace Go.Proofs.Ytiilckjnggeeoad
open Go.RowKit Go.Deep Go.ChangeShapes Go.WideShapes
theorem append_none {w : World} (base : Nat) (ty : TypeId) (i : TypeInfo) (hi : Try.prog.info? 3 = some i) (v : Value) (n c : Nat) (xs : List Value) (hown : w.ownsRow base 3 1 v n xs) :
    (Builtin.append_ #[22, 22] ty #[v, .slice none 0 c]).run Try.prog w = .ok v w := by
  have ht := Try.underlying22
  rcases hown.2 with ⟨rfl, rfl⟩ | ⟨g, cap, cur, rfl, _, _, hnc, _⟩
  · simp [Builtin.append_, run_underlying ht, sizeOf, typeInfo, hi, Builtin.lenOf, Builtin.firstCells]
  · simp [Builtin.append_, run_underlying ht, sizeOf, typeInfo, hi, Builtin.lenOf, Builtin.firstCells, hnc, storeCells]
theorem run_append_nums {w : World} (ty : TypeId) (base : Nat) (v : Value) (n : Nat) (xs : List Value) (hown : w.ownsRow base 3 1 v n xs) (l : List Int) (lv : Value) (hN : NIn w l lv) (hb : (n + l.length) * 8 ≤ 140737488355328) (hbase : base ≤ w.heap.size) :
    ∃ v' w', (Builtin.append_ #[22, 22] ty #[v, lv]).run Try.prog w = .ok v' w' ∧ w'.ownsRow base 3 1 v' (n + l.length) (xs ++ vals l) ∧ w.grownBy w' v.ownBlock ∧ (v'.ownBlock = v.ownBlock ∨ v'.ownBlock = some w.heap.size) := by
  obtain ⟨i3, hi3, hy0, hy1, hy2⟩ := info_parts Try.info3
  obtain ⟨a, c, b, o, rfl, ha, hlc, hcm, hF⟩ := hN
  cases a with
  | none =>
    have h0 : l = [] := by
      cases l with
      | nil => rfl
      | cons _ _ => have := ha (by simp); cases this
    subst h0
    exact ⟨v, w, append_none base ty i3 hi3 v n c xs hown, by simpa using hown, ⟨rfl, rfl, rfl, Nat.le_refl _, fun _ _ _ => rfl⟩, .inl rfl⟩
  | some ad =>
    obtain ⟨v', w', hr, h2, h3, _, h5⟩ := run_append_own_at (P := Try.prog) w base 22 ty 3 i3 (.int .i64 0) 1 8 Try.underlying22 hi3 hy0 hy1 hy2 rfl (by decide) v n xs hown ad l.length c (vals l) (by simp) (fun j u hu => by
        have hj : j < l.length := by
          have := (List.getElem?_eq_some_iff.1 hu).1
          simpa using this
        have hae : ad = ⟨b, o, none⟩ := by have := ha (by omega); simpa using this
        have hc := hF j hj
        have e : u = .int .i64 (l.getD j 0) := by
          simp [List.getD_eq_getElem?_getD, hj] at hu ⊢
          exact hu.symm
        rw [hae, add_plain, e]
        exact hc) (ints_oneCell _ _) (by unfold maxLen; omega) hb hbase
    exact ⟨v', w', hr, h2, h3, h5⟩
theorem wp_append_nums {w : World} {o : Oper} {a : Act} {K : Act → World → Prop} {Q : Exit → Act → World → Prop} (s x : Operand)
    (ho : o.op = .call { callee := .builtin .append, args := #[s, x], argTypes := #[22, 22] }) (base : Nat) (v : Value) (n : Nat) (xs : List Value) (hs : a.eval s = v) (hown : w.ownsRow base 3 1 v n xs) (l : List Int) (lv : Value) (hx : a.eval x = lv) (hN : NIn w l lv) (hb : (n + l.length) * 8 ≤ 140737488355328) (hbase : base ≤ w.heap.size)
    (h : ∀ v' w', w'.ownsRow base 3 1 v' (n + l.length) (xs ++ vals l) → w.grownBy w' v.ownBlock → (v'.ownBlock = v.ownBlock ∨ v'.ownBlock = some w.heap.size) → K (a.put o.dst v') w') : o.wp Try.prog a w K Q := by
  obtain ⟨v', w', hr, h2, h3, h4⟩ := run_append_nums o.type base v n xs hown l lv hN hb hbase
  unfold Oper.wp execOp
  simp only [ho, resolve, invoke, builtin, Sem.run_bind, Sem.run_pure, Result.andThen_ok, List.map_toArray, List.map_cons, List.map_nil, hs, hx, hr]
  exact h v' w' h2 h3 h4
theorem wpList_append_nums {w : World} {ops : Array Oper} {rest : List Oper} {o : Oper} {a : Act} {Q : Exit → Act → World → Prop} (hgd : o.guard = none) (s x : Operand)
    (ho : o.op = .call { callee := .builtin .append, args := #[s, x], argTypes := #[22, 22] }) (base : Nat) (v : Value) (n : Nat) (xs : List Value) (hs : a.eval s = v) (hown : w.ownsRow base 3 1 v n xs) (l : List Int) (lv : Value) (hx : a.eval x = lv) (hN : NIn w l lv) (hb : (n + l.length) * 8 ≤ 140737488355328) (hbase : base ≤ w.heap.size)
    (h : ∀ v' w', w'.ownsRow base 3 1 v' (n + l.length) (xs ++ vals l) → w.grownBy w' v.ownBlock → (v'.ownBlock = v.ownBlock ∨ v'.ownBlock = some w.heap.size) → wpList Try.prog ops Q rest (a.put o.dst v') w') : wpList Try.prog ops Q (o :: rest) a w :=
  wpList_plain hgd fun _ hK => wp_append_nums s x ho base v n xs hs hown l lv hx hN hb hbase fun v' w' h2 h3 h4 => hK _ _ (h v' w' h2 h3 h4)
theorem own_empty {w : World} {base e : Nat} (h : w.heap[e]? = some (.cells #[] 3)) (hb : base ≤ e) : w.ownsRow base 3 1 (.slice (some ⟨e, 0, none⟩) 0 0) 0 [] :=
  ⟨rfl, .inr ⟨e, 0, #[], rfl, hb, h, Nat.le_refl _, Nat.zero_le _, rfl, rfl⟩⟩
end Go.Proofs.Ytiilckjnggeeoad

namespace Go.Proofs.Ytiilckjnggeeoad
open Go.RowKit Go.Deep Go.ChangeShapes Go.WideShapes
attribute [local go_sem ↓] Go.wp_at_zero Go.wp_at_succ
theorem nin_slice {w : World} {l : List Int} {v : Value} (h : NIn w l v) : ∃ z1 z3, v = .slice z1 l.length z3 := by
  obtain ⟨_, _, _, _, rfl, _⟩ := h
  exact ⟨_, _, rfl⟩
end Go.Proofs.Ytiilckjnggeeoad

namespace Go.Proofs.Ytiilckjnggeeoad
open Go.RowKit Go.Deep Go.ChangeShapes Go.WideShapes
abbrev Lt := Bool × Tm × Tm
abbrev Cl := List Lt
def wrongL (s : List Int) (l : Lt) : Int := if wrongF s l.2.1.1 l.2.1.2 ≠ 0 then wrongF s l.2.1.1 l.2.1.2 else wrongF s l.2.2.1 l.2.2.2
def wrongLs (s : List Int) : Cl → Int
  | [] => 0
  | l :: c => if wrongL s l ≠ 0 then wrongL s l else wrongLs s c
def wrongC (s : List Int) (c : Cl) : Int := if 4 < c.length then 5 else wrongLs s c
theorem wrongLs_at {s : List Int} : ∀ {c : Cl} {j : Nat} {l : Lt}, (∀ i, i < j → ∀ a, c[i]? = some a → wrongL s a = 0) → c[j]? = some l → wrongL s l ≠ 0 → wrongLs s c = wrongL s l
  | [], _, _, _, h, _ => by simp at h
  | x :: c, 0, l, _, h, hn => by
    simp only [List.getElem?_cons_zero, Option.some.injEq] at h
    subst h
    rw [wrongLs, if_pos hn]
  | x :: c, j + 1, l, h0, h, hn => by
    rw [wrongLs, if_neg (by simp [h0 0 (by omega) x (by simp)])]
    exact wrongLs_at (j := j) (fun i hi a ha => h0 (i + 1) (by omega) a (by simpa using ha)) (by simpa using h) hn
theorem wrongLs_iff {s : List Int} : ∀ {c : Cl}, wrongLs s c = 0 ↔ ∀ l ∈ c, wrongL s l = 0
  | [] => by simp [wrongLs]
  | x :: c => by
    rw [wrongLs]
    by_cases h : wrongL s x = 0
    · rw [if_neg (by simp [h]), wrongLs_iff (c := c)]
      simp [h]
    · rw [if_pos h]
      simp [h]
theorem wrongL_iff {s : List Int} {l : Lt} : wrongL s l = 0 ↔ wrongF s l.2.1.1 l.2.1.2 = 0 ∧ wrongF s l.2.2.1 l.2.2.2 = 0 := by
  unfold wrongL
  by_cases h : wrongF s l.2.1.1 l.2.1.2 = 0
  · rw [if_neg (by simp [h])]; simp [h]
  · rw [if_pos h]; simp [h]
theorem wrongC_iff {s : List Int} {c : Cl} : wrongC s c = 0 ↔ c.length ≤ 4 ∧ ∀ l ∈ c, wrongF s l.2.1.1 l.2.1.2 = 0 ∧ wrongF s l.2.2.1 l.2.2.2 = 0 := by
  unfold wrongC
  by_cases h : 4 < c.length
  · rw [if_pos h]; constructor
    · intro e; simp at e
    · intro e; omega
  · rw [if_neg h, wrongLs_iff]
    constructor
    · exact fun e => ⟨by omega, fun l hl => wrongL_iff.1 (e l hl)⟩
    · exact fun e l hl => wrongL_iff.2 (e.2 l hl)
structure GL (l : Lt) : Prop where
  gl : Gd l.2.1
  gr : Gd l.2.2
  fl : ∀ m, occT m l.2.1 → m ≤ 4
  fr : ∀ m, occT m l.2.2 → m ≤ 4
  sl : tszR l.2.1.2 ≤ 12
  sr : tszR l.2.2.2 ≤ 12
def GC (c : Cl) : Prop := c.length ≤ 4 ∧ ∀ l ∈ c, GL l
end Go.Proofs.Ytiilckjnggeeoad

namespace Go.Proofs.Ytiilckjnggeeoad
open Go.RowKit Go.Deep Go.ChangeShapes Go.WideShapes
attribute [local go_sem ↓] Go.wp_at_zero Go.wp_at_succ
set_option maxRecDepth 100000 in
set_option maxHeartbeats 400000 in
theorem variable_any (n : Int) (w : World) : Calls Try.prog 87 #[.int .i64 n] w fun e w' => ∃ a, e = .returned (.agg #[.bool (vr n).1.1, .int .i64 (vr n).1.2, a]) ∧ OwnV w' w.heap.size w'.heap.size (vr n).2 a ∧ Below w.heap.size w w' := by
  go_enter Try.func87, Try.ntmps87
  go_wp2_with fail
  refine bodyPost_ret (v := .agg #[.bool true, .int .i64 n, .slice none 0 0]) (by simp [results, Try.results87, go_sem]) rfl ⟨_, rfl, .inl ⟨rfl, rfl⟩, ?_⟩
  exact below_alloc _ _
def RepRel (g : Nat) (W2 : World) (k : Fo) (j : Nat) (wr : World) : Prop :=
  Below g W2 wr ∧ There wr g (Fo.len k * 3) ∧ WIn wr (Fo.take j k) g 0 (g + 1) wr.heap.size ∧ g + 1 ≤ wr.heap.size
theorem rep_step {g : Nat} {W2 wr w2 : World} {k : Fo} {j : Nat} {yv : Bool} {yn : Int} {yk : Fo} {ob : Obj} {a : Value} (h : RepRel g W2 k j wr) (hj : j < Fo.len k) (hy : k.list[j]? = some ((yv, yn), yk))
    (hb : Below (wr.heap.size + 1) (wr.alloc ob) w2) (hO : OwnV w2 (wr.heap.size + 1) w2.heap.size yk a) :
    RepRel g W2 k (j + 1) (set3 w2 g (j * 3) (.bool yv) (.int .i64 yn) a) := by
  obtain ⟨hB, hT, hW, hs⟩ := h
  have hsz : wr.heap.size + 1 ≤ w2.heap.size := by have := hb.size; simpa using this
  have keep : ∀ q i, q < wr.heap.size → w2.cell? ⟨q, i, none⟩ = wr.cell? ⟨q, i, none⟩ ∧ w2.frozen? ⟨q, i, none⟩ = wr.frozen? ⟨q, i, none⟩ := fun q i hq => by
    rw [hb.cell (by show q < _; omega), hb.frozen (by show q < _; omega)]
    exact ⟨World.cell?_alloc_lt _ _ _ hq, (below_alloc wr ob).frozen (p := ⟨q, i, none⟩) hq⟩
  have hT2 : There w2 g (Fo.len k * 3) := fun i hi => by
    obtain ⟨⟨v, hv⟩, hf⟩ := hT i hi
    have := keep g i (by omega)
    exact ⟨⟨v, this.1.trans hv⟩, this.2.trans hf⟩
  obtain ⟨⟨u0, e0⟩, f0⟩ := hT2 (j * 3) (by omega)
  obtain ⟨⟨u1, e1⟩, f1⟩ := hT2 (j * 3 + 1) (by omega)
  obtain ⟨⟨u2, e2⟩, f2⟩ := hT2 (j * 3 + 2) (by omega)
  obtain ⟨g0, g1, g2⟩ := set3_cells (x := .bool yv) (y := .int .i64 yn) (z := a) e0 e1 e2
  refine ⟨set3_below (hB.trans ((below_box (hb.mono (by simp))).mono (by omega))) (Nat.le_refl _), ?_, ?_, by rw [set3_size]; omega⟩
  · intro i hi
    obtain ⟨⟨v, hv⟩, hf⟩ := hT2 i hi
    refine ⟨?_, by rw [set3_frozen]; exact hf⟩
    by_cases hc : i < j * 3 ∨ j * 3 + 3 ≤ i
    · exact ⟨v, by rw [set3_other (.inr hc)]; exact hv⟩
    · have : i = j * 3 ∨ i = j * 3 + 1 ∨ i = j * 3 + 2 := by omega
      rcases this with rfl | rfl | rfl
      · exact ⟨_, g0⟩
      · exact ⟨_, g1⟩
      · exact ⟨_, g2⟩
  · rw [set3_size]
    have e : j * 3 = 0 + 3 * j := by omega
    refine WIn.snoc (mid := wr.heap.size) (a := a) hy (hW.frame ?_ ?_) hs (by omega) (by rw [← e]; exact g0) (by rw [← e]; exact g1) (by rw [← e]; exact g2) (by rw [set3_frozen, ← e]; exact f0) (by rw [set3_frozen, ← e]; exact f1) (by rw [set3_frozen, ← e]; exact f2) ?_
    · intro i _ hi
      rw [take_len j k (by omega)] at hi
      rw [set3_other (.inr (.inl (by omega))), set3_frozen]
      exact keep _ _ (by omega)
    · intro q i q1 q2
      rw [set3_other (.inl (by omega)), set3_frozen]
      exact keep _ _ q2
    · refine (hO.mono (by omega) (Nat.le_refl _)).frame ?_
      intro q i q1 q2
      rw [set3_other (.inl (by omega)), set3_frozen]
      exact ⟨rfl, rfl⟩
theorem rep_start (W2 : World) (k : Fo) (z : Array Value) : RepRel W2.heap.size W2 k 0 (W2.alloc (.cells (madeCells z (Fo.len k * 3)) 33)) := by
  refine ⟨(Below.refl _ _).alloc (Nat.le_refl _) _, fun i hi => ⟨?_, frozen_new _ _ _ _⟩, trivial, by simp⟩
  rw [World.cell?_alloc_new]
  exact ⟨_, Array.getElem?_eq_getElem (by rw [size_madeCells]; exact hi)⟩
theorem rep_end {lo g : Nat} {W2 wr w' : World} {k : Fo} (h : RepRel g W2 k (Fo.len k) wr) (h0 : 0 < Fo.len k) (h1 : Fo.len k ≤ 1000) (hlo : lo ≤ g) (hs : w'.heap.size = wr.heap.size)
    (hc : ∀ q i, g ≤ q → w'.cell? ⟨q, i, none⟩ = wr.cell? ⟨q, i, none⟩ ∧ w'.frozen? ⟨q, i, none⟩ = wr.frozen? ⟨q, i, none⟩) :
    OwnV w' lo w'.heap.size k (.slice (some ⟨g, 0, none⟩) (Fo.len k) (Fo.len k)) := by
  obtain ⟨_, _, hW, hsz⟩ := h
  rw [take_all] at hW
  rw [hs]
  exact .inr ⟨g, hlo, by omega, h0, h1, rfl, hW.frame (fun i _ _ => hc _ _ (by omega)) (fun q i q1 q2 => hc _ _ (by omega))⟩
end Go.Proofs.Ytiilckjnggeeoad

namespace Go.Proofs.Ytiilckjnggeeoad
open Go.RowKit Go.Deep Go.ChangeShapes Go.WideShapes
attribute [local go_sem ↓] Go.wp_at_zero Go.wp_at_succ
def InvV (_ : World) : Prop := True
theorem invV_below {w w' : World} (_ : InvV w) (_ : Below w.heap.size w w') : InvV w' := trivial
theorem cloV_any (n : Int) (w : World) (_ : InvV w) : Calls Try.prog 87 #[.int .i64 n] w fun e w' => ∃ a, e = .returned (.agg #[.bool (vr n).1.1, .int .i64 (vr n).1.2, a]) ∧ OwnV w' w.heap.size w'.heap.size (vr n).2 a ∧ Below w.heap.size w w' := variable_any n w
def RepVSaid (x : Bool × Int) (k : Fo) : Prop := ∀ (a : Value) (w : World), InvV w → SIn w k a → Fo.len k ≤ 1000 → Fo.narrow k →
    Calls Try.prog 84 #[.agg #[.bool x.1, .int .i64 x.2, a], .func (.func 87) #[] #[]] w fun e w' => ∃ a', e = .returned (.agg #[.bool (subT vr (x, k)).1.1, .int .i64 (subT vr (x, k)).1.2, a']) ∧ OwnV w' w.heap.size w'.heap.size (subT vr (x, k)).2 a' ∧ Below w.heap.size w w'
set_option maxRecDepth 100000 in
set_option maxHeartbeats 1000000 in
theorem repV_any (x : Bool × Int) (k : Fo) : RepVSaid x k := by
  refine Fo.ind1 (p := RepVSaid ) ?_ x k
  clear x k
  intro x k ih a w hInv hS hlen hnar
  obtain ⟨v, n⟩ := x
  obtain ⟨ad, c, b, o, rfl, had, hlc, hcm, hF⟩ := hS
  have Hl := hide (Fo.len_list k)
  have HI := hide ih
  have HF := hide hF
  have Hnar := hide hnar
  have HInv := hide hInv
  clear ih hF hnar hInv
  unfold maxLen at hcm
  cases v
  · have Hres : Hid (subT vr ((false, n), k) = ((false, n), subF vr k)) := rfl
    by_cases h0 : Fo.len k = 0
    · have h0' : ¬ (0 : Int) < (Fo.len k : Int) := by omega
      have Hk := hide (len_zero h0)
      clear h0
      go_enter Try.func84, Try.ntmps84
      go_wp2_with fail
      go_loopw [29] (fun i wr => i = .int .i64 0 ∧ wr = ((w.alloc (.cells #[.bool false, .int .i64 n, .slice ad (Fo.len k) c] 33)).alloc (.cells #[.bool false, .int .i64 0, .slice none 0 0] 33)).alloc (.cells #[.bool false, .int .i64 n, .slice none 0 0] 33)) (fun _ _ => 0)
      case atStart => exact ⟨rfl, rfl⟩
      case round =>
        obtain ⟨rfl, rfl⟩ := hrel
        go_wp2_with fail
        refine bodyPost_ret (v := .agg #[.bool false, .int .i64 n, .slice none 0 0]) (by simp [results, Try.results84, go_sem]) rfl ⟨.slice none 0 0, ?_, ?_, ?_⟩
        · rw [Hres.out]
        · rw [Hres.out]; exact .inl ⟨by rw [Hk.out]; rfl, rfl⟩
        · exact ((below_alloc _ _).alloc (by simp) _).alloc (by simp; omega) _
    · have h0' : (0 : Int) < (Fo.len k : Int) := by omega
      have ha : ad = some ⟨b, o, none⟩ := had (by omega)
      subst ha
      have Hpos : Hid (0 < Fo.len k) := by unfold Hid; omega
      have hdec : decide (0 < Fo.len k) = true := by simp; omega
      clear h0 had
      obtain ⟨i26, hi, hz0, hz1, hz2⟩ := info_parts Try.info33
      have hmk := fun w : World => run_make (P := Try.prog) w 31 33 i26 _ Try.underlying31 hi hz0 .i64 .i64 (Fo.len k : Int) (Fo.len k : Int) (by omega) (by omega) (by rw [hz2]; omega) (by omega)
      rw [hz1] at hmk
      simp only [Int.toNat_natCast] at hmk
      have Hl2 := hide (subF_len vr k)
      go_enter Try.func84, Try.ntmps84
      go_wp2_with fail
      clear hmk hi hz0 hz1 hz2
      generalize hW2 : ((w.alloc (.cells #[.bool false, .int .i64 n, .slice (some ⟨b, o, none⟩) (Fo.len k) c] 33)).alloc (.cells #[.bool false, .int .i64 0, .slice none 0 0] 33)).alloc (.cells #[.bool false, .int .i64 n, .slice (some ⟨w.heap.size + 1 + 1 + 1, 0, none⟩) (Fo.len k) (Fo.len k)] 33) = W2
      have hs2 : W2.heap.size = w.heap.size + 1 + 1 + 1 := by rw [← hW2]; simp
      have HB2 : Hid (Below w.heap.size w W2) := by rw [← hW2]; exact ((below_alloc _ _).alloc (by simp) _).alloc (by simp; omega) _
      have r0 : W2.cell? ⟨w.heap.size + 1, 0, none⟩ = some (.bool false) := by rw [← hW2, World.cell?_alloc_lt _ _ _ (by show w.heap.size + 1 < _; rw [size2]; omega)]; exact new_cell (World.size_alloc _ _)
      have r1 : W2.cell? ⟨w.heap.size + 1, 1, none⟩ = some (.int .i64 0) := by rw [← hW2, World.cell?_alloc_lt _ _ _ (by show w.heap.size + 1 < _; rw [size2]; omega)]; exact new_cell (World.size_alloc _ _)
      have r2 : W2.cell? ⟨w.heap.size + 1, 2, none⟩ = some (.slice none 0 0) := by rw [← hW2, World.cell?_alloc_lt _ _ _ (by show w.heap.size + 1 < _; rw [size2]; omega)]; exact new_cell (World.size_alloc _ _)
      have rf : ∀ i, W2.frozen? ⟨w.heap.size + 1, i, none⟩ = false := fun i => by rw [← hW2, (below_alloc _ _).frozen (by show w.heap.size + 1 < _; rw [size2]; omega)]; exact new_frozen (World.size_alloc _ _)
      have q0 : W2.cell? ⟨w.heap.size + 1 + 1, 0, none⟩ = some (.bool false) := by rw [← hW2]; exact new_cell (size2 _ _ _)
      have q1 : W2.cell? ⟨w.heap.size + 1 + 1, 1, none⟩ = some (.int .i64 n) := by rw [← hW2]; exact new_cell (size2 _ _ _)
      have q2 : W2.cell? ⟨w.heap.size + 1 + 1, 2, none⟩ = some (.slice (some ⟨w.heap.size + 1 + 1 + 1, 0, none⟩) (Fo.len k) (Fo.len k)) := by rw [← hW2]; exact new_cell (size2 _ _ _)
      have HQ := hide (And.intro q0 (And.intro q1 (And.intro q2 (And.intro r0 (And.intro r1 (And.intro r2 rf))))))
      have H0 : Hid (RepRel (w.heap.size + 1 + 1 + 1) W2 (subF vr k) 0 (W2.alloc (.cells (madeCells #[.bool false, .int .i64 0, .slice none 0 0] (Fo.len k * 3)) 33))) := by
        have := rep_start W2 (subF vr k) #[.bool false, .int .i64 0, .slice none 0 0]
        rw [Hl2.out, hs2] at this
        exact this
      have Hs2 := hide hs2
      clear q0 q1 q2 r0 r1 r2 rf hs2 hW2
      go_loopw [29] (fun i wr => ∃ j : Nat, j ≤ Fo.len k ∧ i = .int .i64 j ∧ RepRel (w.heap.size + 1 + 1 + 1) W2 (subF vr k) j wr) (fun i _ => Fo.len k - (intOf i).toNat)
      case atStart => exact ⟨0, Nat.zero_le _, rfl, H0.out⟩
      case round =>
        obtain ⟨j, hj, rfl, hR⟩ := hrel
        have HR := hide hR
        obtain ⟨hB, hT, -, hsz⟩ := hR
        have HB := hide hB
        have hs2 := Hs2.out
        have hBw : Below w.heap.size w wr := HB2.out.trans (hB.mono (by omega))
        obtain ⟨q0, q1, q2, r0, r1, r2, rf⟩ := HQ.out
        by_cases hlt : j < Fo.len k
        · have hlt' : (j : Int) < (Fo.len k : Int) := by omega
          obtain ⟨⟨⟨yv, yn⟩, yk⟩, hy⟩ : ∃ y, k.list[j]? = some y := ⟨k.list[j]'(by rw [Hl.out]; exact hlt), by simp⟩
          obtain ⟨c0, c1, yv', c2, hSy⟩ := (HF.out.below hBw).at hy
          have HS := hide hSy
          obtain ⟨ya, yc, yb, yo, rfl, -, -, -, -⟩ := hSy
          have Hny := hide (narrow_at Hnar.out hy)
          have Hy := hide hy
          have Hy2 : Hid ((subF vr k).list[j]? = some (subT vr ((yv, yn), yk))) := by rw [Hid, subF_list, List.getElem?_map, hy]; rfl
          have hT' : There wr (w.heap.size + 1 + 1 + 1) (Fo.len k * 3) := by rw [← Hl2.out]; exact hT
          obtain ⟨⟨t0, e0⟩, f0⟩ := hT' (j * 3) (by omega)
          obtain ⟨⟨t1, e1⟩, f1⟩ := hT' (j * 3 + 1) (by omega)
          obtain ⟨⟨t2, e2⟩, f2⟩ := hT' (j * 3 + 2) (by omega)
          have p2 : wr.cell? ⟨w.heap.size + 1 + 1, 2, none⟩ = some (.slice (some ⟨w.heap.size + 1 + 1 + 1, 0, none⟩) (Fo.len k) (Fo.len k)) := (HB.out.cell (by show w.heap.size + 1 + 1 < _; omega)).trans q2
          clear hy hT hT' hB q0 q1 q2 r0 r1 r2 rf
          go_upto_region 9 with fail
          generalize hwa : wr.alloc (.cells #[.bool yv, .int .i64 yn, .slice ya (Fo.len yk) yc] 33) = wa
          have a0 : wa.cell? ⟨wr.heap.size, 0, none⟩ = some (.bool yv) := by rw [← hwa]; simp
          have a1 : wa.cell? ⟨wr.heap.size, 1, none⟩ = some (.int .i64 yn) := by rw [← hwa]; simp
          have a2 : wa.cell? ⟨wr.heap.size, 2, none⟩ = some (.slice ya (Fo.len yk) yc) := by rw [← hwa]; simp
          have hba : Below wr.heap.size wr wa := by rw [← hwa]; exact below_alloc _ _
          have hsa : wa.heap.size = wr.heap.size + 1 := by rw [← hwa]; simp
          have Hwa : Hid (wr.alloc (.cells #[.bool yv, .int .i64 yn, .slice ya (Fo.len yk) yc] 33) = wa) := hwa
          have p2' := grow_cell hba _ _ p2
          have e0' := grow_cell hba _ _ e0
          have e1' := grow_cell hba _ _ e1
          have e2' := grow_cell hba _ _ e2
          have hlt3 : w.heap.size + 1 + 1 + 1 < wr.heap.size := by omega
          have g0' : wa.frozen? ⟨w.heap.size + 1 + 1 + 1, j * 3, none⟩ = false := (hba.frozen hlt3).trans f0
          have g1' : wa.frozen? ⟨w.heap.size + 1 + 1 + 1, j * 3 + 1, none⟩ = false := (hba.frozen hlt3).trans f1
          have g2' : wa.frozen? ⟨w.heap.size + 1 + 1 + 1, j * 3 + 2, none⟩ = false := (hba.frozen hlt3).trans f2
          have HIa : Hid (InvV wa.drew) := invV_below (invV_below HInv.out (below_step hBw hba)) (Below.refl _ _).drew
          have HSa : Hid (SIn wa.drew yk (.slice ya (Fo.len yk) yc)) := (HS.out.below hba).drew
          obtain ⟨⟨⟨zv, zn⟩, zk⟩, hz⟩ : ∃ z, z = subT vr ((yv, yn), yk) := ⟨_, rfl⟩
          have Hz := hide hz
          have hlt4 : w.heap.size + 1 + 1 + 1 < wa.heap.size := by omega
          have hcall : Calls Try.prog 84 #[.agg #[.bool yv, .int .i64 yn, .slice ya (Fo.len yk) yc], .func (.func 87) #[] #[]] wa.drew fun e w' => ∃ (a1 : Option Addr) (a2 a3 : Nat), e = .returned (.agg #[.bool zv, .int .i64 zn, .slice a1 a2 a3]) ∧ OwnV w' wa.heap.size w'.heap.size zk (.slice a1 a2 a3) ∧ Below wa.heap.size wa w' := by
            have h := HI.out ((yv, yn), yk) (List.mem_of_getElem? Hy.out) _ wa.drew HIa.out HSa.out Hny.out.1 Hny.out.2
            refine h.mono ?_
            rintro e w2 ⟨a', rfl, hO, hb⟩
            rw [← Hz.out] at hO
            obtain ⟨z1, z2, z3, rfl⟩ := slice_of_sin hO.toS
            exact ⟨z1, z2, z3, by rw [← Hz.out], hO, ((Below.refl _ _).drew).trans hb⟩
          have Hcall := hide hcall
          clear hwa hz hcall e0 e1 e2 f0 f1 f2 p2 c0 c1 c2 hBw hba
          go_region_with (first
            | (go_at_call 84; refine Hcall.out.mono ?_; rintro e w2 ⟨z1, z2, z3, rfl, hO2, hb2⟩; have p2'' := grow_cell hb2 _ _ p2'; have e0'' := grow_cell hb2 _ _ e0'; have e1'' := grow_cell hb2 _ _ e1'; have e2'' := grow_cell hb2 _ _ e2'; have g0'' := (hb2.frozen hlt4).trans g0'; have g1'' := (hb2.frozen hlt4).trans g1'; have g2'' := (hb2.frozen hlt4).trans g2'))
          all_goals
            have Hstep : Hid (RepRel (w.heap.size + 1 + 1 + 1) W2 (subF vr k) (j + 1) (set3 w2 (w.heap.size + 1 + 1 + 1) (j * 3) (.bool zv) (.int .i64 zn) (.slice z1 z2 z3))) := rep_step (ob := .cells #[.bool yv, .int .i64 yn, .slice ya (Fo.len yk) yc] 33) HR.out (by rw [Hl2.out]; exact hlt) (by rw [Hy2.out, ← Hz.out]) (by rw [Hwa.out, ← hsa]; exact hb2) (by rw [← hsa]; exact hO2)
            clear hO2 hb2 p2'' p2' e0' e1' e2' g0' g1' g2'
            go_wp2_with fail
            go_roundw
            case rel => exact ⟨j + 1, by omega, by go_num, Hstep.out⟩
            case measure => simp [intOf]; omega
        · have hje : j = Fo.len k := by omega
          subst hje
          have p0 : wr.cell? ⟨w.heap.size + 1 + 1, 0, none⟩ = some (.bool false) := (HB.out.cell (by show w.heap.size + 1 + 1 < _; omega)).trans q0
          have p1 : wr.cell? ⟨w.heap.size + 1 + 1, 1, none⟩ = some (.int .i64 n) := (HB.out.cell (by show w.heap.size + 1 + 1 < _; omega)).trans q1
          have p2 : wr.cell? ⟨w.heap.size + 1 + 1, 2, none⟩ = some (.slice (some ⟨w.heap.size + 1 + 1 + 1, 0, none⟩) (Fo.len k) (Fo.len k)) := (HB.out.cell (by show w.heap.size + 1 + 1 < _; omega)).trans q2
          have s0 : wr.cell? ⟨w.heap.size + 1, 0, none⟩ = some (.bool false) := (HB.out.cell (by show w.heap.size + 1 < _; omega)).trans r0
          have s1 : wr.cell? ⟨w.heap.size + 1, 1, none⟩ = some (.int .i64 0) := (HB.out.cell (by show w.heap.size + 1 < _; omega)).trans r1
          have s2 : wr.cell? ⟨w.heap.size + 1, 2, none⟩ = some (.slice none 0 0) := (HB.out.cell (by show w.heap.size + 1 < _; omega)).trans r2
          have sf : ∀ i, wr.frozen? ⟨w.heap.size + 1, i, none⟩ = false := fun i => (HB.out.frozen (by show w.heap.size + 1 < _; omega)).trans (rf i)
          clear q0 q1 q2 r0 r1 r2 rf hT hB
          go_wp2_with fail
          refine bodyPost_ret (v := .agg #[.bool false, .int .i64 n, .slice (some ⟨w.heap.size + 1 + 1 + 1, 0, none⟩) (Fo.len k) (Fo.len k)]) (by simp [results, Try.results84, go_sem, s0, s1, s2]) rfl ⟨.slice (some ⟨w.heap.size + 1 + 1 + 1, 0, none⟩) (Fo.len k) (Fo.len k), ?_, ?_, set3_below (o := 0) hBw (by omega)⟩
          · rw [Hres.out]
          · rw [Hres.out]
            have hRe : RepRel (w.heap.size + 1 + 1 + 1) W2 (subF vr k) (Fo.len (subF vr k)) wr := by rw [Hl2.out]; exact HR.out
            have := rep_end (lo := w.heap.size) (w' := set3 wr (w.heap.size + 1) 0 (.bool false) (.int .i64 n) (.slice (some ⟨w.heap.size + 1 + 1 + 1, 0, none⟩) (Fo.len k) (Fo.len k))) hRe (by rw [Hl2.out]; exact Hpos.out) (by rw [Hl2.out]; exact hlen) (by omega) set3_size (fun q i hq => ⟨set3_other (.inl (by omega)), set3_frozen⟩)
            rw [Hl2.out] at this
            exact this
  · have Hres : Hid (subT vr ((true, n), k) = vr n) := rfl
    obtain ⟨⟨⟨zv, zn⟩, zk⟩, hz⟩ : ∃ z, z = vr n := ⟨_, rfl⟩
    have Hz := hide hz
    clear hz
    go_enter Try.func84, Try.ntmps84
    go_wp2_with fail
    generalize hW2 : (w.alloc (.cells #[.bool true, .int .i64 n, .slice ad (Fo.len k) c] 33)).alloc (.cells #[.bool false, .int .i64 0, .slice none 0 0] 33) = W2
    have hs2 : W2.heap.size = w.heap.size + 1 + 1 := by rw [← hW2]; simp
    have hB2 : Below w.heap.size w W2 := by rw [← hW2]; exact (below_alloc _ _).alloc (by simp) _
    have r0 : W2.cell? ⟨w.heap.size + 1, 0, none⟩ = some (.bool false) := by rw [← hW2]; exact new_cell (World.size_alloc _ _)
    have r1 : W2.cell? ⟨w.heap.size + 1, 1, none⟩ = some (.int .i64 0) := by rw [← hW2]; exact new_cell (World.size_alloc _ _)
    have r2 : W2.cell? ⟨w.heap.size + 1, 2, none⟩ = some (.slice none 0 0) := by rw [← hW2]; exact new_cell (World.size_alloc _ _)
    have rf : ∀ i, W2.frozen? ⟨w.heap.size + 1, i, none⟩ = false := fun i => by rw [← hW2]; exact new_frozen (World.size_alloc _ _)
    clear hW2
    refine (cloV_any n W2 (invV_below HInv.out hB2)).mono ?_
    rintro e w2 ⟨a', rfl, hO, hb⟩
    rw [← Hz.out] at hO ⊢
    obtain ⟨z1, z2, z3, rfl⟩ := slice_of_sin hO.toS
    have s0 := grow_cell hb _ _ r0
    have s1 := grow_cell hb _ _ r1
    have s2 := grow_cell hb _ _ r2
    have sf : ∀ i, w2.frozen? ⟨w.heap.size + 1, i, none⟩ = false := fun i => (hb.frozen (by show w.heap.size + 1 < _; omega)).trans (rf i)
    have HO := hide hO
    have hB3 := below_step hB2 hb
    clear hO r0 r1 r2 rf hb
    go_wp2_with fail
    refine bodyPost_ret (v := .agg #[.bool zv, .int .i64 zn, .slice z1 z2 z3]) (by simp [results, Try.results84, go_sem, s0, s1, s2]) rfl ⟨.slice z1 z2 z3, ?_, ?_, set3_below (o := 0) hB3 (by omega)⟩
    · rw [Hres.out, ← Hz.out]
    · rw [Hres.out, ← Hz.out]
      have h2 : OwnV (set3 w2 (w.heap.size + 1) 0 (.bool zv) (.int .i64 zn) (.slice z1 z2 z3)) W2.heap.size w2.heap.size zk (.slice z1 z2 z3) := HO.out.frame (fun q i q1 q2 => ⟨set3_other (.inl (by omega)), set3_frozen⟩)
      have h3 := h2.mono (lo' := w.heap.size) (hi' := (set3 w2 (w.heap.size + 1) 0 (.bool zv) (.int .i64 zn) (.slice z1 z2 z3)).heap.size) (by omega) (by rw [set3_size]; exact Nat.le_refl _)
      exact h3
set_option maxRecDepth 100000 in
set_option maxHeartbeats 400000 in
theorem ownB_any (x : Bool × Int) (k : Fo) (a : Value) (w : World) (hS : SIn w k a) (hlen : Fo.len k ≤ 1000) (hnar : Fo.narrow k) :
    Calls Try.prog 82 #[.agg #[.bool x.1, .int .i64 x.2, a]] w fun e w' => ∃ a', e = .returned (.agg #[.bool (subT vr (x, k)).1.1, .int .i64 (subT vr (x, k)).1.2, a']) ∧ OwnV w' w.heap.size w'.heap.size (subT vr (x, k)).2 a' ∧ Below w.heap.size w w' := by
  obtain ⟨v, n⟩ := x
  have HS := hide hS
  obtain ⟨ad, c, b, o, rfl, -, -, -, -⟩ := hS
  obtain ⟨⟨⟨zv, zn⟩, zk⟩, hz⟩ : ∃ z, z = subT vr ((v, n), k) := ⟨_, rfl⟩
  have Hz := hide hz
  clear hz
  go_enter Try.func82, Try.ntmps82
  go_wp2_with fail
  generalize hW2 : (w.alloc (.cells #[.bool v, .int .i64 n, .slice ad (Fo.len k) c] 33)).alloc (.cells #[.bool false, .int .i64 0, .slice none 0 0] 33) = W2
  have hs2 : W2.heap.size = w.heap.size + 1 + 1 := by rw [← hW2]; simp
  have hB2 : Below w.heap.size w W2 := by rw [← hW2]; exact (below_alloc _ _).alloc (by simp) _
  have r0 : W2.cell? ⟨w.heap.size + 1, 0, none⟩ = some (.bool false) := by rw [← hW2]; exact new_cell (World.size_alloc _ _)
  have r1 : W2.cell? ⟨w.heap.size + 1, 1, none⟩ = some (.int .i64 0) := by rw [← hW2]; exact new_cell (World.size_alloc _ _)
  have r2 : W2.cell? ⟨w.heap.size + 1, 2, none⟩ = some (.slice none 0 0) := by rw [← hW2]; exact new_cell (World.size_alloc _ _)
  have rf : ∀ i, W2.frozen? ⟨w.heap.size + 1, i, none⟩ = false := fun i => by rw [← hW2]; exact new_frozen (World.size_alloc _ _)
  clear hW2
  refine (repV_any (v, n) k _ W2 trivial (HS.out.below hB2) hlen hnar).mono ?_
  rintro e w2 ⟨a', rfl, hO, hb⟩
  rw [← Hz.out] at hO ⊢
  obtain ⟨z1, z2, z3, rfl⟩ := slice_of_sin hO.toS
  have s0 := grow_cell hb _ _ r0
  have s1 := grow_cell hb _ _ r1
  have s2 := grow_cell hb _ _ r2
  have sf : ∀ i, w2.frozen? ⟨w.heap.size + 1, i, none⟩ = false := fun i => (hb.frozen (by show w.heap.size + 1 < _; omega)).trans (rf i)
  have HO := hide hO
  have hB3 := below_step hB2 hb
  clear hO r0 r1 r2 rf hb
  go_wp2_with fail
  refine bodyPost_ret (v := .agg #[.bool zv, .int .i64 zn, .slice z1 z2 z3]) (by simp [results, Try.results82, go_sem, s0, s1, s2]) rfl ⟨.slice z1 z2 z3, by rw [← Hz.out], ?_, set3_below (o := 0) hB3 (by omega)⟩
  rw [← Hz.out]
  have h2 : OwnV (set3 w2 (w.heap.size + 1) 0 (.bool zv) (.int .i64 zn) (.slice z1 z2 z3)) W2.heap.size w2.heap.size zk (.slice z1 z2 z3) := HO.out.frame (fun q i q1 q2 => ⟨set3_other (.inl (by omega)), set3_frozen⟩)
  have h3 := h2.mono (lo' := w.heap.size) (hi' := (set3 w2 (w.heap.size + 1) 0 (.bool zv) (.int .i64 zn) (.slice z1 z2 z3)).heap.size) (by omega) (by rw [set3_size]; exact Nat.le_refl _)
  exact h3
end Go.Proofs.Ytiilckjnggeeoad
