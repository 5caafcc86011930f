/- CMo CM5 D8a D8b P8a RText -/
import Derived.Test.YtiilckjnggeeoadG08
import Derived.BigQuiet
namespace Go.Proofs.Ytiilckjnggeeoad
open Go.RowKit Go.Deep Go.ChangeShapes Go.WideShapes
def sigF (s : List Int) : Fo → Prop
  | .nil => True
  | .node _ _ x k r => (aloneF s x (Fo.len k) = 0 ∧ sigF s k) ∧ sigF s r
def sigT (s : List Int) (t : Tm) : Prop := aloneF s t.1 (Fo.len t.2) = 0 ∧ sigF s t.2
theorem sig_walkF {s : List Int} : ∀ {F : Fo} {d : Int}, walkF s F d = 0 → sigF s F
  | .nil, _, _ => trivial
  | .node _ _ x k r, d, h => by
    obtain ⟨hT, hr⟩ := walkF_ok h
    obtain ⟨_, ha, hk⟩ := walkT_ok hT
    exact ⟨⟨ha, sig_walkF hk⟩, sig_walkF hr⟩
theorem sig_walk {s : List Int} {t : Tm} {d : Int} (h : walkT s t.1 t.2 d = 0) : sigT s t := by
  obtain ⟨_, ha, hk⟩ := walkT_ok h
  exact ⟨ha, sig_walkF hk⟩
theorem sig_mem {s : List Int} : ∀ {F : Fo}, sigF s F → ∀ t ∈ F.list, sigT s t
  | .nil, _, t, h => by simp [Fo.list] at h
  | .node _ _ x k r, h, t, ht => by
    simp only [Fo.list, List.mem_cons] at ht
    rcases ht with rfl | ht
    · exact h.1
    · exact sig_mem h.2 t ht
end Go.Proofs.Ytiilckjnggeeoad

namespace Go.Proofs.Ytiilckjnggeeoad
open Go.RowKit Go.Deep Go.ChangeShapes Go.WideShapes
theorem sig_few {s : List Int} : ∀ {F : Fo}, sigF s F → ∀ m, occF m F → 0 ≤ m ∧ m ≤ 4
  | .nil, _, m, h => by simp [occF] at h
  | .node p q (b, n) k r, h, m, hm => by
    rw [occF] at hm
    rcases hm with hm | hm
    · cases b with
      | true =>
        obtain ⟨_, h0, h4⟩ := alone_var h.1.1
        have : n = m := by simpa using hm
        omega
      | false => exact sig_few h.1.2 m (by simpa using hm)
    · exact sig_few h.2 m hm
theorem sig_fewT {s : List Int} {t : Tm} (h : sigT s t) : ∀ m, occT m t → 0 ≤ m ∧ m ≤ 4 := fun m hm => by
  refine sig_few (F := .node 0 0 t.1 t.2 .nil) ⟨h, trivial⟩ m ?_
  rw [occ_mem]
  exact ⟨t, by simp [Fo.list], hm⟩
end Go.Proofs.Ytiilckjnggeeoad

namespace Go.Proofs.Ytiilckjnggeeoad
open Go.RowKit Go.Deep Go.ChangeShapes Go.WideShapes
def mkT (t : Tm) : Int := if t.1.1 then 0 else t.1.2 + 1
theorem mkT_sym (n : Int) (k : Fo) : mkT ((false, n), k) = n + 1 := rfl
theorem mkT_var (n : Int) (k : Fo) : mkT ((true, n), k) = 0 := rfl
def mkA (t : Tm) (i : Nat) : Int := if t.1.1 then -1 else match t.2.list[i]? with
  | some y => mkT y
  | none => -2
def keyT (t : Tm) : List Int := [mkT t, mkA t 0, mkA t 1]
def uniN (x y : Int) : Bool := x == y || (x == -1) || (y == -1) || (x == 0 && decide (y > 0)) || (y == 0 && decide (x > 0))
def matN (p t : Int) : Bool := p == t || (p == -1) || (p == 0 && decide (t > 0))
def uniK : List Int → List Int → Bool
  | x :: a, y :: b => uniN x y && uniK a b
  | _, _ => true
def matK : List Int → List Int → Bool
  | x :: a, y :: b => matN x y && matK a b
  | _, _ => true
theorem uniN_flip (x y : Int) : uniN x y = uniN y x := by
  unfold uniN
  rw [Bool.eq_iff_iff]
  simp only [Bool.or_eq_true, beq_iff_eq, Bool.and_eq_true, decide_eq_true_eq]
  omega
theorem uniK_flip : ∀ a b : List Int, uniK a b = uniK b a
  | [], [] => rfl
  | [], _ :: _ => rfl
  | _ :: _, [] => rfl
  | x :: a, y :: b => by rw [uniK, uniK, uniN_flip, uniK_flip a b]
theorem mk_unify {s : List Int} {a b : Tm} (ha : sigT s a) (hb : sigT s b) {σ τ : Int → Tm} (h : subT σ a = subT τ b) : uniN (mkT a) (mkT b) = true := by
  obtain ⟨⟨v, n⟩, k⟩ := a
  obtain ⟨⟨u, m⟩, l⟩ := b
  unfold uniN
  simp only [Bool.or_eq_true, beq_iff_eq, Bool.and_eq_true, decide_eq_true_eq]
  cases v <;> cases u
  · rw [subT_sym, subT_sym] at h
    simp only [Prod.mk.injEq] at h
    simp only [mkT, Bool.false_eq_true, if_false]
    omega
  · have := (alone_sym ha.1).1
    rw [mkT_sym, mkT_var]
    omega
  · have := (alone_sym hb.1).1
    rw [mkT_sym, mkT_var]
    omega
  · simp [mkT]
theorem mkA_unify {s : List Int} {a b : Tm} (ha : sigT s a) (hb : sigT s b) {σ τ : Int → Tm} (h : subT σ a = subT τ b) (i : Nat) : uniN (mkA a i) (mkA b i) = true := by
  obtain ⟨⟨v, n⟩, k⟩ := a
  obtain ⟨⟨u, m⟩, l⟩ := b
  cases v <;> cases u
  · rw [subT_sym, subT_sym] at h
    simp only [Prod.mk.injEq] at h
    have hl : k.list.map (subT σ) = l.list.map (subT τ) := by rw [← subF_list, ← subF_list, h.2]
    have hi := congrArg (fun L => L[i]?) hl
    simp only [List.getElem?_map] at hi
    unfold mkA
    simp only [Bool.false_eq_true, if_false]
    cases e : k.list[i]? with
    | none =>
      cases e' : l.list[i]? with
      | none => rfl
      | some y => rw [e, e'] at hi; cases hi
    | some x =>
      cases e' : l.list[i]? with
      | none => rw [e, e'] at hi; cases hi
      | some y =>
        rw [e, e'] at hi
        exact mk_unify (sig_mem ha.2 x (List.mem_of_getElem? e)) (sig_mem hb.2 y (List.mem_of_getElem? e')) (Option.some.inj hi)
  all_goals simp [mkA, uniN]
theorem key_unify {s : List Int} {a b : Tm} (ha : sigT s a) (hb : sigT s b) {σ τ : Int → Tm} (h : subT σ a = subT τ b) : uniK (keyT a) (keyT b) = true := by
  simp only [keyT, uniK, Bool.and_true, mk_unify ha hb h, mkA_unify ha hb h]
theorem mk_match {s : List Int} {a b : Tm} (hb : sigT s b) {σ : Int → Tm} (h : subT σ a = b) : matN (mkT a) (mkT b) = true := by
  subst h
  obtain ⟨⟨v, n⟩, k⟩ := a
  unfold matN
  simp only [Bool.or_eq_true, beq_iff_eq, Bool.and_eq_true, decide_eq_true_eq]
  cases v
  · rw [subT_sym]
    exact .inl (.inl rfl)
  · rw [subT_var] at hb ⊢
    generalize σ n = u at *
    obtain ⟨⟨u, m⟩, l⟩ := u
    cases u
    · have := (alone_sym hb.1).1
      rw [mkT_sym, mkT_var]
      omega
    · simp [mkT]
theorem mkA_match {s : List Int} {a b : Tm} (hb : sigT s b) {σ : Int → Tm} (h : subT σ a = b) (i : Nat) : matN (mkA a i) (mkA b i) = true := by
  subst h
  obtain ⟨⟨v, n⟩, k⟩ := a
  cases v
  · rw [subT_sym] at hb ⊢
    unfold mkA
    simp only [Bool.false_eq_true, if_false]
    rw [subF_list, List.getElem?_map]
    cases e : k.list[i]? with
    | none => rfl
    | some x =>
      refine mk_match (σ := σ) (s := s) (sig_mem hb.2 _ ?_) rfl
      rw [subF_list]
      exact List.mem_map.2 ⟨x, List.mem_of_getElem? e, rfl⟩
  · simp [mkA, matN]
theorem key_match {s : List Int} {a b : Tm} (hb : sigT s b) {σ : Int → Tm} (h : subT σ a = b) : matK (keyT a) (keyT b) = true := by
  simp only [keyT, matK, Bool.and_true, mk_match hb h, mkA_match hb h]
end Go.Proofs.Ytiilckjnggeeoad

namespace Go.Proofs.Ytiilckjnggeeoad
open Go.RowKit Go.Deep Go.ChangeShapes Go.WideShapes
attribute [local go_sem ↓] Go.wp_at_zero Go.wp_at_succ
def nth3 (x y z : Int) (k : Nat) : Int := if k = 0 then x else if k = 1 then y else z
theorem key_cell {w : World} {x y z : Int} {k : Nat} (hk : k < 3) {T : TypeId} : (w.alloc (.cells #[.int .i64 x, .int .i64 y, .int .i64 z] T)).cell? ⟨w.heap.size, k, none⟩ = some (.int .i64 (nth3 x y z k)) := by
  rcases (by omega : k = 0 ∨ k = 1 ∨ k = 2) with rfl | rfl | rfl <;> exact (new_cell rfl).trans (by simp [nth3])
theorem uniK_all {a b c x y z : Int} (h : ∀ k, k < 3 → uniN (nth3 a b c k) (nth3 x y z k) = true) : uniK [a, b, c] [x, y, z] = true := by
  have h0 := h 0 (by omega)
  have h1 := h 1 (by omega)
  have h2 := h 2 (by omega)
  simp only [nth3] at h0 h1 h2
  simp at h0 h1 h2
  simp [uniK, h0, h1, h2]
theorem uniK_not {a b c x y z : Int} {k : Nat} (hk : k < 3) (h : uniN (nth3 a b c k) (nth3 x y z k) = false) : uniK [a, b, c] [x, y, z] = false := by
  rcases (by omega : k = 0 ∨ k = 1 ∨ k = 2) with rfl | rfl | rfl <;> simp [nth3] at h <;> simp [uniK, h]
theorem matK_all {a b c x y z : Int} (h : ∀ k, k < 3 → matN (nth3 a b c k) (nth3 x y z k) = true) : matK [a, b, c] [x, y, z] = true := by
  have h0 := h 0 (by omega)
  have h1 := h 1 (by omega)
  have h2 := h 2 (by omega)
  simp only [nth3] at h0 h1 h2
  simp at h0 h1 h2
  simp [matK, h0, h1, h2]
theorem matK_not {a b c x y z : Int} {k : Nat} (hk : k < 3) (h : matN (nth3 a b c k) (nth3 x y z k) = false) : matK [a, b, c] [x, y, z] = false := by
  rcases (by omega : k = 0 ∨ k = 1 ∨ k = 2) with rfl | rfl | rfl <;> simp [nth3] at h <;> simp [matK, h]
end Go.Proofs.Ytiilckjnggeeoad

namespace Go.Proofs.Ytiilckjnggeeoad
open Go.RowKit Go.Deep Go.ChangeShapes Go.WideShapes
attribute [local go_sem ↓] Go.wp_at_zero Go.wp_at_succ
set_option maxRecDepth 100000 in
set_option maxHeartbeats 400000 in
theorem headP_any {s : List Int} (h6 : s.length ≤ 6) (x : Bool × Int) (k : Fo) (a : Value) (w : World) (hg : sigT s (x, k)) :
    Calls Try.prog 55 #[.agg #[.bool x.1, .int .i64 x.2, a]] w fun e w' => e = .returned (.int .i64 (mkT (x, k))) ∧ Below w.heap.size w w' := by
  obtain ⟨xv, xn⟩ := x
  have hB := below_alloc w (.cells #[.bool xv, .int .i64 xn, a] 33)
  cases xv with
  | true =>
    go_enter Try.func55, Try.ntmps55
    go_wp2_with fail
    go_ret
    exact ⟨rfl, hB⟩
  | false =>
    have hy := alone_sym hg.1
    have hw : wrap64 (xn + 1) = xn + 1 := wrap64_small (by omega) (by omega)
    have Hw := hide hw
    clear hw hy hg
    go_enter Try.func55, Try.ntmps55
    go_wp2_with fail
    go_ret
    exact ⟨by rw [mkT_sym]; exact congrArg (fun n => Ending.returned (.int .i64 n)) Hw.out, hB⟩
set_option maxRecDepth 100000 in
set_option maxHeartbeats 1000000 in
theorem argumentP_any {s : List Int} (h6 : s.length ≤ 6) (m : Nat) (hm : m ≤ 2) (x : Bool × Int) (k : Fo) (a : Value) (w : World) (hS : SIn w k a) (hg : sigT s (x, k)) :
    Calls Try.prog 56 #[.agg #[.bool x.1, .int .i64 x.2, a], .int .i64 m] w fun e w' => e = .returned (.int .i64 (mkA (x, k) m)) ∧ Below w.heap.size w w' := by
  obtain ⟨xv, xn⟩ := x
  obtain ⟨ad, c, b, o, rfl, had, hlc, hcm, hF⟩ := hS
  have hB := below_alloc w (.cells #[.bool xv, .int .i64 xn, .slice ad (Fo.len k) c] 33)
  have HF := hide (hF.below hB)
  have Hg := hide hg
  unfold maxLen at hcm
  clear hF hg
  cases xv with
  | true =>
    go_enter Try.func56, Try.ntmps56
    go_wp2_with fail
    go_ret
    exact ⟨rfl, hB⟩
  | false =>
    by_cases hl : (Fo.len k : Int) ≤ m
    · have hnone : k.list[m]? = none := List.getElem?_eq_none (by rw [Fo.len_list]; omega)
      have Hu : Hid (mkA ((false, xn), k) m = -2) := by
        unfold mkA
        rw [Hid, hnone]
        rfl
      clear hnone
      go_enter Try.func56, Try.ntmps56
      go_wp2_with fail
      go_ret
      exact ⟨by rw [Hu.out]; rfl, hB⟩
    · have hl' : (m : Int) < (Fo.len k : Int) := by omega
      obtain ⟨⟨⟨zv, zn⟩, zk⟩, hz⟩ : ∃ z, k.list[m]? = some z := ⟨k.list[m]'(by rw [Fo.len_list]; omega), by simp⟩
      have Hu : Hid (mkA ((false, xn), k) m = mkT ((zv, zn), zk)) := by
        unfold mkA
        rw [Hid, hz]
        rfl
      have Hzs : Hid (sigT s ((zv, zn), zk)) := sig_mem Hg.out.2 _ (List.mem_of_getElem? hz)
      obtain ⟨z0, z1, zval, z2, hZ⟩ := HF.out.at hz
      have ha := had (by omega)
      subst ha
      clear hz hZ HF Hg had
      go_enter Try.func56, Try.ntmps56
      go_wp2_with fail
      refine (headP_any h6 (zv, zn) zk _ _ Hzs.out).mono ?_
      rintro e w2 ⟨rfl, hb⟩
      have hB2 := below_step hB hb
      clear hB hb
      go_wp2_with fail
      go_ret
      exact ⟨by rw [Hu.out]; rfl, hB2⟩
set_option maxRecDepth 100000 in
set_option maxHeartbeats 1000000 in
theorem coversP_any8 (p t : Int) (w : World) : Calls Try.prog 58 #[.int .i64 p, .int .i64 t] w fun e w' => e = .returned (.bool (matN p t)) ∧ w' = w := by
  by_cases q1 : p = t
  case pos =>
    have ht : matN p t = true := by unfold matN; simp [*]
    have Hu := hide ht
    clear ht
    go_enter Try.func58, Try.ntmps58
    go_wp2_with fail
    go_ret
    exact ⟨by rw [Hu.out]; rfl, rfl⟩
  case neg =>
    have r1 : (p == t) = false := by simpa using q1
    by_cases q2 : p = -1
    case pos =>
      have ht : matN p t = true := by unfold matN; simp [*]
      have Hu := hide ht
      clear ht
      go_enter Try.func58, Try.ntmps58
      go_wp2_with fail
      go_ret
      exact ⟨by rw [Hu.out]; rfl, rfl⟩
    case neg =>
      have r2 : (p == -1) = false := by simpa using q2
      by_cases q3 : p = 0
      case pos =>
        subst q3
        have r5 : ((0 : Int) == t) = false := r1
        clear r1
        by_cases q4 : t > 0
        case pos =>
          have ht : matN 0 t = true := by unfold matN; simp [*]
          have Hu := hide ht
          clear ht
          go_enter Try.func58, Try.ntmps58
          go_wp2_with fail
          go_ret
          exact ⟨by rw [Hu.out]; rfl, rfl⟩
        case neg =>
          have ht : matN 0 t = false := by unfold matN; simp [q4, q1]
          have Hu := hide ht
          clear ht
          go_enter Try.func58, Try.ntmps58
          go_wp2_with fail
          go_ret
          exact ⟨by rw [Hu.out]; rfl, rfl⟩
      case neg =>
        have r3 : (p == 0) = false := by simpa using q3
        have ht : matN p t = false := by unfold matN; simp [*]
        have Hu := hide ht
        clear ht
        go_enter Try.func58, Try.ntmps58
        go_wp2_with fail
        go_ret
        exact ⟨by rw [Hu.out]; rfl, rfl⟩
end Go.Proofs.Ytiilckjnggeeoad

namespace Go.Proofs.Ytiilckjnggeeoad
open Go.RowKit Go.Deep Go.ChangeShapes Go.WideShapes
attribute [local go_sem ↓] Go.wp_at_zero Go.wp_at_succ
theorem ba_size {B : ByteArray} {l : List UInt8} (h : B.data.toList = l) : B.size = l.length := by rw [← h]; exact Array.length_toList.symm
end Go.Proofs.Ytiilckjnggeeoad
