/- BP BU BV OP RSame RAt -/
import Derived.Test.YtlgnpiphaeoeiadDoorG04
import Derived.Deep.DeepCutAuto
namespace Go.Proofs.YtlgnpiphaeoeiadDoor
open Go.RowKit Go.Deep Go.ChangeShapes Go.WideShapes
abbrev Tm := (Bool × Int) × Fo
abbrev Sb := List (Int × Tm)
def vr (n : Int) : Tm := ((true, n), .nil)
def subF (f : Int → Tm) : Fo → Fo
  | .nil => .nil
  | .node _ _ x k r => if x.1 then .node 0 0 (f x.2).1 (f x.2).2 (subF f r) else .node 0 0 (false, x.2) (subF f k) (subF f r)
def subT (f : Int → Tm) (t : Tm) : Tm := if t.1.1 then f t.1.2 else ((false, t.1.2), subF f t.2)
theorem subF_node (f : Int → Tm) (p q : Nat) (x : Bool × Int) (k r : Fo) : subF f (.node p q x k r) = .node 0 0 (subT f (x, k)).1 (subT f (x, k)).2 (subF f r) := by
  obtain ⟨v, n⟩ := x
  cases v <;> simp [subF, subT]
theorem subT_var (f : Int → Tm) (n : Int) (k : Fo) : subT f ((true, n), k) = f n := rfl
theorem subT_sym (f : Int → Tm) (n : Int) (k : Fo) : subT f ((false, n), k) = ((false, n), subF f k) := rfl
theorem subF_list (f : Int → Tm) : ∀ F : Fo, (subF f F).list = F.list.map (subT f)
  | .nil => rfl
  | .node p q x k r => by rw [subF_node]; simp [Fo.list, subF_list f r]
theorem subF_len (f : Int → Tm) (F : Fo) : Fo.len (subF f F) = Fo.len F := by rw [← Fo.len_list, ← Fo.len_list, subF_list, List.length_map]
theorem subF_sub (f g : Int → Tm) : ∀ F : Fo, subF f (subF g F) = subF (fun n => subT f (g n)) F
  | .nil => rfl
  | .node p q ⟨v, n⟩ k r => by
    cases v
    · simp [subF, subF_sub f g k, subF_sub f g r]
    · rw [subF_node g, subF_node f, subF_sub f g r, subF_node]
      rfl
theorem subT_sub (f g : Int → Tm) (t : Tm) : subT f (subT g t) = subT (fun n => subT f (g n)) t := by
  obtain ⟨⟨v, n⟩, k⟩ := t
  cases v
  · simp [subT, subF_sub]
  · rfl
def Fo.ok : Fo → Prop
  | .nil => True
  | .node p q x k r => p = 0 ∧ q = 0 ∧ (x.1 = true → k = .nil) ∧ Fo.ok k ∧ Fo.ok r
def okT (t : Tm) : Prop := (t.1.1 = true → t.2 = .nil) ∧ Fo.ok t.2
theorem ok_node {p q : Nat} {x : Bool × Int} {k r : Fo} : Fo.ok (.node p q x k r) ↔ p = 0 ∧ q = 0 ∧ okT (x, k) ∧ Fo.ok r := by
  simp only [Fo.ok, okT]
  constructor
  · rintro ⟨a, b, c, d, e⟩; exact ⟨a, b, ⟨c, d⟩, e⟩
  · rintro ⟨a, b, ⟨c, d⟩, e⟩; exact ⟨a, b, c, d, e⟩
theorem ok_vr (n : Int) : okT (vr n) := ⟨fun _ => rfl, trivial⟩
theorem ok_mem : ∀ {F : Fo} {t : Tm}, Fo.ok F → t ∈ F.list → okT t
  | .nil, _, _, h => by simp [Fo.list] at h
  | .node p q x k r, t, hF, h => by
    rw [ok_node] at hF
    simp only [Fo.list, List.mem_cons] at h
    rcases h with rfl | h
    · exact hF.2.2.1
    · exact ok_mem hF.2.2.2 h
theorem subF_ok {f : Int → Tm} (hf : ∀ n, okT (f n)) : ∀ F : Fo, Fo.ok (subF f F)
  | .nil => trivial
  | .node p q ⟨v, n⟩ k r => by
    rw [subF_node, ok_node]
    refine ⟨rfl, rfl, ?_, subF_ok hf r⟩
    cases v
    · exact ⟨fun h => by simp [subT] at h, subF_ok hf k⟩
    · exact hf n
theorem subT_ok {f : Int → Tm} (hf : ∀ n, okT (f n)) (t : Tm) : okT (subT f t) := by
  obtain ⟨⟨v, n⟩, k⟩ := t
  cases v
  · exact ⟨fun h => by simp [subT] at h, subF_ok hf k⟩
  · exact hf n
theorem subF_vr : ∀ {F : Fo}, Fo.ok F → subF vr F = F
  | .nil, _ => rfl
  | .node p q ⟨v, n⟩ k r, h => by
    rw [ok_node] at h
    obtain ⟨rfl, rfl, hk, hr⟩ := h
    rw [subF_node, subF_vr hr]
    cases v
    · rw [subT_sym, subF_vr hk.2]
    · have : k = .nil := hk.1 rfl
      subst this
      rfl
theorem subT_vr {t : Tm} (h : okT t) : subT vr t = t := by
  obtain ⟨⟨v, n⟩, k⟩ := t
  cases v
  · rw [subT_sym, subF_vr h.2]
  · have : k = .nil := h.1 rfl
    subst this
    rfl
theorem same_eq : ∀ {F G : Fo}, Fo.ok F → Fo.ok G → sameF F G = true → F = G
  | .nil, .nil, _, _, _ => rfl
  | .nil, .node _ _ _ _ _, _, _, h => by simp [sameF] at h
  | .node _ _ _ _ _, .nil, _, _, h => by simp [sameF] at h
  | .node p q x k r, .node p' q' y l r', hF, hG, h => by
    simp only [sameF, Bool.and_eq_true, beq_iff_eq] at h
    obtain ⟨⟨⟨e1, e2⟩, e3⟩, e4⟩ := h
    rw [ok_node] at hF hG
    obtain ⟨rfl, rfl, hk, hr⟩ := hF
    obtain ⟨rfl, rfl, hl, hr'⟩ := hG
    have e5 : k = l := same_eq hk.2 hl.2 e3
    rw [show x = y from Prod.ext e1 e2, e5, same_eq hr hr' e4]
theorem sameT_eq {t u : Tm} (ht : okT t) (hu : okT u) (h : sameT t.1 t.2 u.1 u.2 = true) : t = u := by
  simp only [sameT, Bool.and_eq_true, beq_iff_eq] at h
  exact Prod.ext (Prod.ext h.1.1 h.1.2) (same_eq ht.2 hu.2 h.2)
theorem sameT_iff {t u : Tm} (ht : okT t) (hu : okT u) : sameT t.1 t.2 u.1 u.2 = true ↔ t = u :=
  ⟨fun h => sameT_eq ht hu h, fun h => by subst h; exact sameT_refl _ _⟩
def occF (n : Int) : Fo → Prop
  | .nil => False
  | .node _ _ x k r => (if x.1 then x.2 = n else occF n k) ∨ occF n r
def occT (n : Int) (t : Tm) : Prop := if t.1.1 then t.1.2 = n else occF n t.2
theorem occ_mem {n : Int} : ∀ {F : Fo}, occF n F ↔ ∃ t ∈ F.list, occT n t
  | .nil => by simp [occF, Fo.list]
  | .node p q x k r => by
    have := occ_mem (n := n) (F := r)
    simp only [occF, Fo.list, List.mem_cons, exists_eq_or_imp, this]
    rfl
theorem occ_vr {m n : Int} : occT m (vr n) ↔ n = m := by simp [occT, vr]
theorem occ_sym {m n : Int} {k : Fo} : occT m ((false, n), k) ↔ occF m k := by simp [occT]
theorem subF_congr {f g : Int → Tm} : ∀ {F : Fo}, (∀ n, occF n F → f n = g n) → subF f F = subF g F
  | .nil, _ => rfl
  | .node p q ⟨v, n⟩ k r, h => by
    have hr := subF_congr (F := r) (fun m hm => h m (.inr hm))
    cases v
    · have hk := subF_congr (F := k) (fun m hm => h m (.inl (by simpa using hm)))
      simp [subF, hr, hk]
    · simp [subF, hr, h n (.inl (by simp))]
theorem subT_congr {f g : Int → Tm} {t : Tm} (h : ∀ n, occT n t → f n = g n) : subT f t = subT g t := by
  obtain ⟨⟨v, n⟩, k⟩ := t
  cases v
  · rw [subT_sym, subT_sym, subF_congr (fun m hm => h m (occ_sym.2 hm))]
  · exact h n (by simp [occT])
theorem occF_sub {m : Int} {f : Int → Tm} : ∀ {F : Fo}, occF m (subF f F) ↔ ∃ n, occF n F ∧ occT m (f n)
  | .nil => by simp [occF, subF]
  | .node p q ⟨v, n⟩ k r => by
    have hr := occF_sub (m := m) (f := f) (F := r)
    cases v
    · have hk := occF_sub (m := m) (f := f) (F := k)
      simp only [subF, occF, Bool.false_eq_true, if_false, hr, hk]
      constructor
      · rintro (⟨i, h1, h2⟩ | ⟨i, h1, h2⟩)
        · exact ⟨i, .inl h1, h2⟩
        · exact ⟨i, .inr h1, h2⟩
      · rintro ⟨i, h1 | h1, h2⟩
        · exact .inl ⟨i, h1, h2⟩
        · exact .inr ⟨i, h1, h2⟩
    · simp only [subF, occF, if_true, hr]
      constructor
      · rintro (h | ⟨i, h1, h2⟩)
        · exact ⟨n, .inl rfl, h⟩
        · exact ⟨i, .inr h1, h2⟩
      · rintro ⟨i, h1 | h1, h2⟩
        · subst h1; exact .inl h2
        · exact .inr ⟨i, h1, h2⟩
theorem occT_sub {m : Int} {f : Int → Tm} {t : Tm} : occT m (subT f t) ↔ ∃ n, occT n t ∧ occT m (f n) := by
  obtain ⟨⟨v, n⟩, k⟩ := t
  cases v
  · rw [subT_sym, occ_sym, occF_sub]
    simp only [occ_sym]
  · rw [subT_var]
    simp [occT]
theorem occ_varsF {m : Int} : ∀ {F : Fo} {l : List Int}, m ∈ varsF F l ↔ m ∈ l ∨ occF m F
  | .nil, l => by simp [varsF, occF]
  | .node p q ⟨v, n⟩ k r, l => by
    rw [varsF, occ_varsF (F := r)]
    cases v
    · have hk := occ_varsF (m := m) (F := k) (l := l)
      simp only [Bool.false_eq_true, if_false, hk, occF, or_assoc]
    · simp only [if_true, occF]
      by_cases hh : hasB l n = true
      · rw [if_pos hh]
        have hm : n ∈ l := by simpa [hasB] using hh
        constructor
        · rintro (h | h); exact .inl h; exact .inr (.inr h)
        · rintro (h | h | h); exact .inl h; (subst h; exact .inl hm); exact .inr h
      · rw [if_neg hh]
        simp only [List.mem_append, List.mem_singleton]
        constructor
        · rintro ((h | h) | h); exact .inl h; (subst h; exact .inr (.inl rfl)); exact .inr (.inr h)
        · rintro (h | h | h); exact .inl (.inl h); (subst h; exact .inl (.inr rfl)); exact .inr h
theorem occ_varsT {m : Int} {t : Tm} : m ∈ varsT t.1 t.2 [] ↔ occT m t := by
  obtain ⟨⟨v, n⟩, k⟩ := t
  cases v
  · simp [varsT, occT, occ_varsF]
  · simp [varsT, occT, hasB, eq_comm]
theorem varsF_nodup : ∀ {F : Fo} {l : List Int}, l.Nodup → (varsF F l).Nodup
  | .nil, l, h => h
  | .node p q ⟨v, n⟩ k r, l, h => by
    rw [varsF]
    refine varsF_nodup ?_
    cases v
    · exact varsF_nodup (F := k) h
    · simp only [if_true]
      by_cases hh : hasB l n = true
      · rw [if_pos hh]; exact h
      · rw [if_neg hh, List.nodup_append]
        refine ⟨h, by simp, ?_⟩
        intro a ha b hb e
        simp only [List.mem_singleton] at hb
        subst e hb
        exact hh (by simpa [hasB] using ha)
def look : Sb → Int → Option Tm
  | [], _ => none
  | p :: s, n => if p.1 = n then some p.2 else look s n
def bnd (s : Sb) (n : Int) : Tm := (look s n).getD (vr n)
theorem look_mem {u : Tm} : ∀ {s : Sb} {n : Int}, look s n = some u → (n, u) ∈ s
  | [], n, h => by simp [look] at h
  | (m, t) :: s, n, h => by
    unfold look at h
    by_cases e : m = n
    · rw [if_pos e] at h; cases h; subst e; simp
    · rw [if_neg e] at h; exact List.mem_cons_of_mem _ (look_mem h)
theorem look_append (s s' : Sb) (n : Int) : look (s ++ s') n = (look s n).or (look s' n) := by
  induction s with
  | nil => rfl
  | cons p s ih =>
    simp only [List.cons_append, look]
    split
    · rfl
    · exact ih
theorem look_none {s : Sb} {n : Int} (h : ∀ p ∈ s, p.1 ≠ n) : look s n = none := by
  cases e : look s n with
  | none => rfl
  | some u => exact absurd rfl (h _ (look_mem e))
theorem bnd_some {s : Sb} {n : Int} {u : Tm} (h : look s n = some u) : bnd s n = u := by simp [bnd, h]
theorem bnd_none {s : Sb} {n : Int} (h : look s n = none) : bnd s n = vr n := by simp [bnd, h]
theorem bnd_ok {s : Sb} (h : ∀ p ∈ s, okT p.2) (n : Int) : okT (bnd s n) := by
  cases e : look s n with
  | none => rw [bnd_none e]; exact ok_vr n
  | some u => rw [bnd_some e]; exact h _ (look_mem e)
def narT (t : Tm) : Prop := Fo.len t.2 ≤ 1000 ∧ Fo.narrow t.2
theorem nar_vr (n : Int) : narT (vr n) := ⟨by simp [vr, Fo.len], trivial⟩
theorem nar_node {p q : Nat} {x : Bool × Int} {k r : Fo} : Fo.narrow (.node p q x k r) ↔ narT (x, k) ∧ Fo.narrow r := by
  simp only [Fo.narrow, narT]
  exact ⟨fun ⟨a, b, c⟩ => ⟨⟨a, b⟩, c⟩, fun ⟨⟨a, b⟩, c⟩ => ⟨a, b, c⟩⟩
theorem nar_mem : ∀ {F : Fo} {t : Tm}, Fo.narrow F → t ∈ F.list → narT t
  | .nil, _, _, h => by simp [Fo.list] at h
  | .node p q x k r, t, hF, h => by
    rw [nar_node] at hF
    simp only [Fo.list, List.mem_cons] at h
    rcases h with rfl | h
    · exact hF.1
    · exact nar_mem hF.2 h
end Go.Proofs.YtlgnpiphaeoeiadDoor

namespace Go.Proofs.YtlgnpiphaeoeiadDoor
open Go.RowKit Go.Deep Go.ChangeShapes Go.WideShapes
def addS (s : Sb) (n : Int) (t : Tm) : Option Sb :=
  if hasB (varsT t.1 t.2 []) n then none else some ((s.map fun p => (p.1, subT (bnd [(n, t)]) p.2)) ++ [(n, t)])
def top (s : Sb) (t : Tm) : Tm := if t.1.1 then (look s t.1.2).getD t else t
def stepU (s : Sb) (a b : Tm) (L : List (Tm × Tm)) : Option (Sb × List (Tm × Tm)) :=
  if (top s a).1.1 = true ∧ (top s b).1.1 = true ∧ (top s a).1.2 = (top s b).1.2 then some (s, L)
  else if (top s a).1.1 = true then (addS s (top s a).1.2 (subT (bnd s) (top s b))).map fun s' => (s', L)
  else if (top s b).1.1 = true then (addS s (top s b).1.2 (subT (bnd s) (top s a))).map fun s' => (s', L)
  else if (top s a).1.2 = (top s b).1.2 ∧ Fo.len (top s a).2 = Fo.len (top s b).2 then some (s, (top s a).2.list.zip (top s b).2.list ++ L)
  else none
def runU : Nat → Sb → List (Tm × Tm) → Option (Option Sb)
  | 0, _, _ => none
  | _ + 1, s, [] => some (some s)
  | n + 1, s, p :: L => match stepU s p.1 p.2 L with
    | none => some none
    | some q => runU n q.1 q.2
def depF : Fo → Nat
  | .nil => 0
  | .node _ _ _ k r => max (1 + depF k) (depF r)
def depT (t : Tm) : Nat := 1 + depF t.2
def twoF : Fo → Prop
  | .nil => True
  | .node _ _ _ k r => Fo.len k ≤ 2 ∧ twoF k ∧ twoF r
def twoT (t : Tm) : Prop := Fo.len t.2 ≤ 2 ∧ twoF t.2
theorem two_vr (n : Int) : twoT (vr n) := ⟨by simp [vr, Fo.len], trivial⟩
theorem two_node {p q : Nat} {x : Bool × Int} {k r : Fo} : twoF (.node p q x k r) ↔ twoT (x, k) ∧ twoF r := by
  simp only [twoF, twoT]
  exact ⟨fun ⟨a, b, c⟩ => ⟨⟨a, b⟩, c⟩, fun ⟨⟨a, b⟩, c⟩ => ⟨a, b, c⟩⟩
theorem two_mem : ∀ {F : Fo} {t : Tm}, twoF F → t ∈ F.list → twoT t
  | .nil, _, _, h => by simp [Fo.list] at h
  | .node p q x k r, t, hF, h => by
    rw [two_node] at hF
    simp only [Fo.list, List.mem_cons] at h
    rcases h with rfl | h
    · exact hF.1
    · exact two_mem hF.2 h
theorem two_nar : ∀ {F : Fo}, twoF F → Fo.narrow F
  | .nil, _ => trivial
  | .node p q x k r, h => ⟨by have := h.1; omega, two_nar h.2.1, two_nar h.2.2⟩
theorem twoT_nar {t : Tm} (h : twoT t) : narT t := ⟨by have := h.1; omega, two_nar h.2⟩
theorem subF_two {f : Int → Tm} (hf : ∀ n, twoT (f n)) : ∀ {F : Fo}, twoF F → twoF (subF f F)
  | .nil, _ => trivial
  | .node p q ⟨v, n⟩ k r, h => by
    rw [two_node] at h
    rw [subF_node, two_node]
    refine ⟨?_, subF_two hf h.2⟩
    cases v
    · rw [subT_sym]
      exact ⟨by rw [subF_len]; exact h.1.1, subF_two hf h.1.2⟩
    · exact hf n
theorem subT_two {f : Int → Tm} (hf : ∀ n, twoT (f n)) {t : Tm} (h : twoT t) : twoT (subT f t) := by
  obtain ⟨⟨v, n⟩, k⟩ := t
  cases v
  · rw [subT_sym]
    exact ⟨by rw [subF_len]; exact h.1, subF_two hf h.2⟩
  · exact hf n
theorem bnd_two {s : Sb} (h : ∀ p ∈ s, twoT p.2) (n : Int) : twoT (bnd s n) := by
  cases e : look s n with
  | none => rw [bnd_none e]; exact two_vr n
  | some u => rw [bnd_some e]; exact h _ (look_mem e)
structure Gd (t : Tm) : Prop where
  ok : okT t
  two : twoT t
  few : ∀ m, occT m t → 0 ≤ m ∧ m ≤ 9
theorem Gd.nar {t : Tm} (h : Gd t) : narT t := twoT_nar h.two
theorem gd_vr {n : Int} (h : 0 ≤ n ∧ n ≤ 9) : Gd (vr n) := ⟨ok_vr n, two_vr n, fun m hm => by rw [occ_vr] at hm; subst hm; exact h⟩
theorem gd_mem {F : Fo} {x : Bool × Int} {t : Tm} (h : Gd (x, F)) (hx : x.1 = false) (ht : t ∈ F.list) : Gd t := by
  refine ⟨ok_mem h.ok.2 ht, two_mem h.two.2 ht, fun m hm => h.few m ?_⟩
  unfold occT
  simp only [hx, Bool.false_eq_true, if_false]
  exact occ_mem.2 ⟨t, ht, hm⟩
theorem gd_bnd {s : Sb} (h : ∀ p ∈ s, Gd p.2) {n : Int} (hn : 0 ≤ n ∧ n ≤ 9) : Gd (bnd s n) := by
  cases e : look s n with
  | none => rw [bnd_none e]; exact gd_vr hn
  | some u => rw [bnd_some e]; exact h _ (look_mem e)
theorem gd_sub {s : Sb} (h : ∀ p ∈ s, Gd p.2) {t : Tm} (ht : Gd t) : Gd (subT (bnd s) t) := by
  refine ⟨subT_ok (bnd_ok fun p hp => (h p hp).ok) t, subT_two (bnd_two fun p hp => (h p hp).two) ht.two, fun m hm => ?_⟩
  obtain ⟨n, h1, h2⟩ := occT_sub.1 hm
  exact (gd_bnd h (ht.few n h1)).few m h2
end Go.Proofs.YtlgnpiphaeoeiadDoor

namespace Go.Proofs.YtlgnpiphaeoeiadDoor
open Go.RowKit Go.Deep Go.ChangeShapes Go.WideShapes
def szT (t : Tm) : Nat := tszR t.2
end Go.Proofs.YtlgnpiphaeoeiadDoor

namespace Go.Proofs.YtlgnpiphaeoeiadDoor
open Go.RowKit Go.Deep Go.ChangeShapes Go.WideShapes
def timF (v : Int) : Fo → Nat
  | .nil => 0
  | .node _ _ x k r => (if x.1 = true ∧ x.2 = v then 1 else 0) + timF v k + timF v r
def timT (v : Int) (t : Tm) : Nat := (if t.1.1 = true ∧ t.1.2 = v then 1 else 0) + timF v t.2
theorem timF_node (v : Int) (p q : Nat) (x : Bool × Int) (k r : Fo) : timF v (.node p q x k r) = timT v (x, k) + timF v r := rfl
def mayT (a b : Tm) : Bool := (varsT b.1 b.2 []).all fun v => decide (timT v b ≤ timT v a)
def hdT (x : Bool × Int) (k : Fo) (y : Bool × Int) (l : Fo) (rec : Bool) : Bool :=
  if x.1 then false else if !mayT (x, k) (y, l) then false else if tszR k ≠ tszR l then decide (tszR l < tszR k) else if y.1 || decide (x.2 < y.2) then false else if y.2 < x.2 then true else rec
def lexF : Fo → Fo → Bool
  | .node _ _ x k r, .node _ _ y l q => if sameT x k y l then lexF r q else hdT x k y l (lexF k l)
  | .nil, _ => false
  | .node _ _ _ _ _, .nil => false
def abvT (a b : Tm) : Bool := hdT a.1 a.2 b.1 b.2 (lexF a.2 b.2)
theorem tim_occF {v : Int} : ∀ {F : Fo}, Fo.ok F → 0 < timF v F → occF v F
  | .nil, _, h => by simp [timF] at h
  | .node p q x k r, ho, h => by
    obtain ⟨_, _, h3, h4⟩ := ok_node.1 ho
    rw [timF_node] at h
    by_cases hr : 0 < timF v r
    · rw [occF]; exact .inr (tim_occF h4 hr)
    · have h1 : 0 < timT v (x, k) := by omega
      rw [occF]
      refine .inl ?_
      unfold timT at h1
      simp only at h1
      by_cases hx : x.1 = true
      · rw [if_pos hx]
        have hk : k = .nil := h3.1 hx
        subst hk
        by_cases hv : x.2 = v
        · exact hv
        · rw [if_neg (fun e => hv e.2)] at h1
          simp [timF] at h1
      · rw [if_neg hx]
        rw [if_neg (fun e => hx e.1)] at h1
        exact tim_occF h3.2 (by omega)
theorem tim_occ {v : Int} {t : Tm} (h : okT t) (hv : 0 < timT v t) : occT v t := by
  have := tim_occF (v := v) (F := .node 0 0 t.1 t.2 .nil) (ok_node.2 ⟨rfl, rfl, h, trivial⟩) (by rw [timF_node]; exact Nat.lt_of_lt_of_le hv (Nat.le_add_right _ _))
  rw [occF] at this
  rcases this with h | h
  · exact h
  · exact absurd h (by simp [occF])
theorem may_iff {a b : Tm} (h : okT b) : mayT a b = true ↔ ∀ v, timT v b ≤ timT v a := by
  unfold mayT
  rw [List.all_eq_true]
  refine ⟨fun hh v => ?_, fun hh v _ => decide_eq_true (hh v)⟩
  by_cases hv : 0 < timT v b
  · exact of_decide_eq_true (hh v (occ_varsT.2 (tim_occ h hv)))
  · omega
theorem abv_iff {a b : Tm} (h : okT b) : abvT a b = true ↔ a.1.1 = false ∧ (∀ v, timT v b ≤ timT v a) ∧ (szT b < szT a ∨ (szT a = szT b ∧ b.1.1 = false ∧ (b.1.2 < a.1.2 ∨ (a.1.2 = b.1.2 ∧ lexF a.2 b.2 = true)))) := by
  unfold abvT hdT
  have hm := may_iff (a := a) h
  show (if a.1.1 then false else if !mayT a b then false else _) = true ↔ _
  by_cases h1 : a.1.1 = true
  · simp [h1]
  · have h1' : a.1.1 = false := by simpa using h1
    rw [if_neg h1]
    by_cases h2 : mayT a b = true
    · rw [if_neg (by simp [h2])]
      have hv := hm.1 h2
      by_cases h3 : tszR a.2 = tszR b.2
      · rw [if_neg (by simp [h3])]
        by_cases h4 : b.1.1 = true
        · rw [if_pos (by simp [h4])]
          simp only [Bool.false_eq_true, false_iff]
          rintro ⟨_, _, h | ⟨_, h, _⟩⟩
          · unfold szT at h; omega
          · rw [h4] at h; cases h
        · have h4' : b.1.1 = false := by simpa using h4
          by_cases h5 : a.1.2 < b.1.2
          · rw [if_pos (by simp [h5])]
            simp only [Bool.false_eq_true, false_iff]
            rintro ⟨_, _, h | ⟨_, _, h | h⟩⟩
            · unfold szT at h; omega
            · omega
            · omega
          · rw [if_neg (by simp [h4', h5])]
            by_cases h6 : b.1.2 < a.1.2
            · rw [if_pos h6]
              simp only [true_iff]
              exact ⟨h1', hv, .inr ⟨h3, h4', .inl h6⟩⟩
            · rw [if_neg h6]
              refine ⟨fun hl => ⟨h1', hv, .inr ⟨h3, h4', .inr ⟨by omega, hl⟩⟩⟩, ?_⟩
              rintro ⟨_, _, h | ⟨_, _, h | h⟩⟩
              · unfold szT at h; omega
              · omega
              · exact h.2
      · rw [if_pos h3]
        refine ⟨fun hl => ⟨h1', hv, .inl (of_decide_eq_true hl)⟩, ?_⟩
        rintro ⟨_, _, h | ⟨h, _⟩⟩
        · exact decide_eq_true h
        · exact absurd h h3
    · rw [if_pos (by simpa using h2)]
      simp only [Bool.false_eq_true, false_iff]
      rintro ⟨_, h, _⟩
      exact h2 (hm.2 h)
def LexP : List Tm → List Tm → Prop
  | a :: r, b :: q => (a = b ∧ LexP r q) ∨ (a ≠ b ∧ abvT a b = true)
  | [], _ => False
  | _ :: _, [] => False
theorem lex_iff : ∀ {k l : Fo}, Fo.ok k → Fo.ok l → (lexF k l = true ↔ LexP k.list l.list)
  | .nil, _, _, _ => by simp [lexF, Fo.list, LexP]
  | .node _ _ _ _ _, .nil, _, _ => by simp [lexF, Fo.list, LexP]
  | .node _ _ x k r, .node _ _ y l q, h1, h2 => by
    obtain ⟨_, _, h3, h4⟩ := ok_node.1 h1
    obtain ⟨_, _, h5, h6⟩ := ok_node.1 h2
    have hs := sameT_iff (t := (x, k)) (u := (y, l)) h3 h5
    simp only at hs
    rw [lexF, Fo.list, Fo.list, LexP]
    by_cases hh : sameT x k y l = true
    · rw [if_pos hh]
      have he := hs.1 hh
      refine ⟨fun h => .inl ⟨he, (lex_iff h4 h6).1 h⟩, ?_⟩
      rintro (⟨_, h⟩ | ⟨h, _⟩)
      · exact (lex_iff h4 h6).2 h
      · exact absurd he h
    · rw [if_neg hh]
      have hn : (x, k) ≠ (y, l) := fun e => hh (hs.2 e)
      refine ⟨fun h => .inr ⟨hn, h⟩, ?_⟩
      rintro (⟨h, _⟩ | ⟨_, h⟩)
      · exact absurd h hn
      · exact h
theorem lex_irr : ∀ {ks : List Tm}, ¬ LexP ks ks
  | [], h => h
  | a :: r, h => by
    rw [LexP] at h
    rcases h with ⟨_, h⟩ | ⟨h, _⟩
    · exact lex_irr h
    · exact h rfl
theorem abv_irr {a : Tm} (h : okT a) : ¬ abvT a a = true := fun hh => by
  obtain ⟨_, _, h1 | ⟨_, _, h1 | ⟨_, h1⟩⟩⟩ := (abv_iff h).1 hh
  · omega
  · omega
  · exact lex_irr ((lex_iff h.2 h.2).1 h1)
theorem abv_ne {a b : Tm} (h : okT a) (hh : abvT a b = true) : a ≠ b := fun e => by
  subst e
  exact abv_irr h hh
theorem lex_trans : ∀ {ks ls ms : List Tm}, (∀ a ∈ ks, okT a) → (∀ a ∈ ks, ∀ b ∈ ls, ∀ c ∈ ms, abvT a b = true → abvT b c = true → abvT a c = true) → LexP ks ls → LexP ls ms → LexP ks ms
  | [], _, _, _, _, h, _ => h.elim
  | _ :: _, [], _, _, _, h, _ => h.elim
  | _ :: _, _ :: _, [], _, _, _, h => h.elim
  | a :: r, b :: q, c :: p, ho, ht, h1, h2 => by
    rw [LexP] at h1 h2 ⊢
    rcases h1 with ⟨rfl, h1⟩ | ⟨n1, h1⟩
    · rcases h2 with ⟨rfl, h2⟩ | ⟨n2, h2⟩
      · exact .inl ⟨rfl, lex_trans (fun z hz => ho z (by simp [hz])) (fun x hx y hy z hz => ht x (by simp [hx]) y (by simp [hy]) z (by simp [hz])) h1 h2⟩
      · exact .inr ⟨n2, h2⟩
    · rcases h2 with ⟨rfl, h2⟩ | ⟨n2, h2⟩
      · exact .inr ⟨n1, h1⟩
      · have h3 := ht a (by simp) b (by simp) c (by simp) h1 h2
        exact .inr ⟨abv_ne (ho a (by simp)) h3, h3⟩
theorem sz_mem {x : Bool × Int} {k : Fo} {t : Tm} (h : t ∈ k.list) : szT t < szT (x, k) := by
  show tszR t.2 < tszR k
  have hm : ∀ (l : List Tm), t ∈ l → tszR t.2 ≤ (l.map fun y => tszR y.2).sum := by
    intro l
    induction l with
    | nil => intro h; simp at h
    | cons a l ih =>
      intro h
      simp only [List.mem_cons] at h
      simp only [List.map_cons, List.sum_cons]
      rcases h with rfl | h
      · omega
      · have := ih h; omega
  have := hm k.list h
  rw [← sizesR_list] at this
  unfold tszR at this ⊢
  omega
theorem abv_trans : ∀ (n : Nat) {a b c : Tm}, szT a = n → okT a → okT b → okT c → abvT a b = true → abvT b c = true → abvT a c = true := by
  intro n
  induction n using Nat.strongRecOn with
  | _ n ih =>
    intro a b c hn ha hb hc h1 h2
    obtain ⟨a1, a2, a3⟩ := (abv_iff hb).1 h1
    obtain ⟨b1, b2, b3⟩ := (abv_iff hc).1 h2
    refine (abv_iff hc).2 ⟨a1, fun v => Nat.le_trans (b2 v) (a2 v), ?_⟩
    rcases a3 with a3 | ⟨a3, _, a4⟩
    · rcases b3 with b3 | ⟨b3, _, _⟩
      · exact .inl (by omega)
      · exact .inl (by omega)
    · rcases b3 with b3 | ⟨b3, b5, b4⟩
      · exact .inl (by omega)
      · refine .inr ⟨by omega, b5, ?_⟩
        rcases a4 with a4 | ⟨a4, a6⟩
        · rcases b4 with b4 | ⟨b4, _⟩
          · exact .inl (by omega)
          · exact .inl (by omega)
        · rcases b4 with b4 | ⟨b4, b6⟩
          · exact .inl (by omega)
          · refine .inr ⟨by omega, (lex_iff ha.2 hc.2).2 (lex_trans (fun t ht => ok_mem ha.2 ht) (fun x hx y hy z hz p q => ?_) ((lex_iff ha.2 hb.2).1 a6) ((lex_iff hb.2 hc.2).1 b6))⟩
            have := sz_mem (x := a.1) hx
            exact ih (szT x) (by rw [← hn]; exact this) rfl (ok_mem ha.2 hx) (ok_mem hb.2 hy) (ok_mem hc.2 hz) p q
theorem abv_asym {a b : Tm} (ha : okT a) (hb : okT b) (h : abvT a b = true) : ¬ abvT b a = true := fun h2 => abv_irr ha (abv_trans _ rfl ha hb ha h h2)
theorem timF_list (v : Int) : ∀ F : Fo, timF v F = (F.list.map (timT v)).sum
  | .nil => rfl
  | .node p q x k r => by rw [timF_node, Fo.list, List.map_cons, List.sum_cons, timF_list v r]
def wgF (c : Int → Nat) : Fo → Nat
  | .nil => 0
  | .node _ _ x k r => (if x.1 = true then c x.2 else 0) + wgF c k + wgF c r
def wgT (c : Int → Nat) (t : Tm) : Nat := (if t.1.1 = true then c t.1.2 else 0) + wgF c t.2
theorem wgF_five {c : Int → Nat} : ∀ {F : Fo}, Fo.ok F → (∀ m, occF m F → 0 ≤ m ∧ m ≤ 9) → wgF c F = timF 0 F * c 0 + timF 1 F * c 1 + timF 2 F * c 2 + timF 3 F * c 3 + timF 4 F * c 4 + timF 5 F * c 5 + timF 6 F * c 6 + timF 7 F * c 7 + timF 8 F * c 8 + timF 9 F * c 9
  | .nil, _, _ => by simp [wgF, timF]
  | .node _ _ x k r, ho, hv => by
    obtain ⟨_, _, h3, h4⟩ := ok_node.1 ho
    have hr := wgF_five (c := c) h4 (fun m hm => hv m (by rw [occF]; exact .inr hm))
    by_cases hx : x.1 = true
    · have hk : k = .nil := h3.1 hx
      subst hk
      have hm := hv x.2 (by rw [occF, if_pos hx]; exact .inl rfl)
      have hc : x.2 = 0 ∨ x.2 = 1 ∨ x.2 = 2 ∨ x.2 = 3 ∨ x.2 = 4 ∨ x.2 = 5 ∨ x.2 = 6 ∨ x.2 = 7 ∨ x.2 = 8 ∨ x.2 = 9 := by omega
      rw [wgF, hr, if_pos hx]
      simp only [timF, hx, true_and]
      rcases hc with e | e | e | e | e | e | e | e | e | e <;> simp [e, wgF, Nat.add_mul] <;> omega
    · have hk := wgF_five (c := c) h3.2 (fun m hm => hv m (by rw [occF, if_neg hx]; exact .inl hm))
      rw [wgF, hr, hk, if_neg hx]
      simp only [timF, hx, Nat.add_mul]
      simp
      omega
theorem wgT_five {c : Int → Nat} {t : Tm} (h : Gd t) : wgT c t = timT 0 t * c 0 + timT 1 t * c 1 + timT 2 t * c 2 + timT 3 t * c 3 + timT 4 t * c 4 + timT 5 t * c 5 + timT 6 t * c 6 + timT 7 t * c 7 + timT 8 t * c 8 + timT 9 t * c 9 := by
  have := wgF_five (c := c) (F := .node 0 0 t.1 t.2 .nil) (ok_node.2 ⟨rfl, rfl, h.ok, trivial⟩) (fun m hm => h.few m (by
    rw [occF] at hm
    rcases hm with hm | hm
    · exact hm
    · exact absurd hm (by simp [occF])))
  exact this
theorem wg_mono {c : Int → Nat} {a b : Tm} (ha : Gd a) (hb : Gd b) (h : ∀ v, timT v b ≤ timT v a) : wgT c b ≤ wgT c a := by
  rw [wgT_five ha, wgT_five hb]
  have h0 := Nat.mul_le_mul_right (c 0) (h 0)
  have h1 := Nat.mul_le_mul_right (c 1) (h 1)
  have h2 := Nat.mul_le_mul_right (c 2) (h 2)
  have h3 := Nat.mul_le_mul_right (c 3) (h 3)
  have h4 := Nat.mul_le_mul_right (c 4) (h 4)
  have h5 := Nat.mul_le_mul_right (c 5) (h 5)
  have h6 := Nat.mul_le_mul_right (c 6) (h 6)
  have h7 := Nat.mul_le_mul_right (c 7) (h 7)
  have h8 := Nat.mul_le_mul_right (c 8) (h 8)
  have h9 := Nat.mul_le_mul_right (c 9) (h 9)
  omega
theorem subF_sizes {f : Int → Tm} : ∀ {F : Fo}, Fo.ok F → Fo.sizesR (subF f F) = Fo.sizesR F + wgF (fun n => Fo.sizesR (f n).2) F
  | .nil, _ => rfl
  | .node _ _ x k r, ho => by
    obtain ⟨_, _, h3, h4⟩ := ok_node.1 ho
    rw [subF_node, Fo.sizesR, Fo.sizesR, wgF, subF_sizes h4]
    unfold subT
    by_cases hx : x.1 = true
    · have hk : k = .nil := h3.1 hx
      subst hk
      simp only [hx, if_true, Fo.sizesR, wgF]
      omega
    · rw [if_neg hx, if_neg hx]
      simp only [subF_sizes h3.2]
      omega
theorem subT_size {f : Int → Tm} {t : Tm} (h : okT t) : szT (subT f t) = szT t + wgT (fun n => Fo.sizesR (f n).2) t := by
  unfold subT szT wgT tszR
  by_cases hx : t.1.1 = true
  · rw [if_pos hx, if_pos hx, h.1 hx]
    simp only [Fo.sizesR, wgF]
    omega
  · rw [if_neg hx, if_neg hx]
    simp only [subF_sizes h.2]
    omega
theorem subF_tim {f : Int → Tm} (v : Int) : ∀ {F : Fo}, Fo.ok F → timF v (subF f F) = wgF (fun n => timT v (f n)) F
  | .nil, _ => rfl
  | .node _ _ x k r, ho => by
    obtain ⟨_, _, h3, h4⟩ := ok_node.1 ho
    rw [subF_node, timF_node, wgF, subF_tim v h4]
    unfold subT
    by_cases hx : x.1 = true
    · have hk : k = .nil := h3.1 hx
      subst hk
      simp only [hx, if_true, wgF]
      rfl
    · rw [if_neg hx, if_neg hx]
      have e : timT v ((false, x.2), subF f k) = timF v (subF f k) := by simp [timT]
      show timT v ((false, x.2), subF f k) + _ = _
      rw [e, subF_tim v h3.2]
      simp only
      omega
theorem subT_tim {f : Int → Tm} (v : Int) {t : Tm} (h : okT t) : timT v (subT f t) = wgT (fun n => timT v (f n)) t := by
  unfold subT wgT
  by_cases hx : t.1.1 = true
  · rw [if_pos hx, if_pos hx, h.1 hx]
    simp only [wgF]
    rfl
  · rw [if_neg hx, if_neg hx]
    have e : timT v ((false, t.1.2), subF f t.2) = timF v (subF f t.2) := by simp [timT]
    rw [e, subF_tim v h.2]
    omega
theorem lex_sub {f : Int → Tm} (hf : ∀ n, okT (f n)) : ∀ {ks ls : List Tm}, (∀ a ∈ ks, ∀ b ∈ ls, abvT a b = true → abvT (subT f a) (subT f b) = true) → LexP ks ls → LexP (ks.map (subT f)) (ls.map (subT f))
  | [], _, _, h => h.elim
  | _ :: _, [], _, h => h.elim
  | a :: r, b :: q, ht, h => by
    rw [LexP] at h
    rw [List.map_cons, List.map_cons, LexP]
    rcases h with ⟨rfl, h⟩ | ⟨_, h⟩
    · exact .inl ⟨rfl, lex_sub hf (fun x hx y hy => ht x (by simp [hx]) y (by simp [hy])) h⟩
    · have h1 := ht a (by simp) b (by simp) h
      exact .inr ⟨abv_ne (subT_ok hf a) h1, h1⟩
theorem abv_sub {f : Int → Tm} (hf : ∀ n, okT (f n)) : ∀ (n : Nat) {a b : Tm}, szT a = n → Gd a → Gd b → abvT a b = true → abvT (subT f a) (subT f b) = true := by
  intro n
  induction n using Nat.strongRecOn with
  | _ n ih =>
    intro a b hn ga gb h
    obtain ⟨a1, a2, a3⟩ := (abv_iff gb.ok).1 h
    have ea : subT f a = ((false, a.1.2), subF f a.2) := by unfold subT; rw [if_neg (by simp [a1])]
    have hs : szT (subT f b) ≤ szT (subT f a) ∧ (szT b < szT a → szT (subT f b) < szT (subT f a)) := by
      have h1 := wg_mono (c := fun n => Fo.sizesR (f n).2) ga gb a2
      have h2 : szT b ≤ szT a := by rcases a3 with h | h <;> omega
      rw [subT_size ga.ok, subT_size gb.ok]
      exact ⟨by omega, fun _ => by omega⟩
    refine (abv_iff (subT_ok hf b)).2 ⟨by rw [ea], fun v => ?_, ?_⟩
    · rw [subT_tim v ga.ok, subT_tim v gb.ok]
      exact wg_mono ga gb a2
    · by_cases hlt : szT (subT f b) < szT (subT f a)
      · exact .inl hlt
      · rcases a3 with a3 | ⟨a3, b1, a4⟩
        · exact .inl (hs.2 a3)
        · have eb : subT f b = ((false, b.1.2), subF f b.2) := by unfold subT; rw [if_neg (by simp [b1])]
          refine .inr ⟨by omega, by rw [eb], ?_⟩
          rw [ea, eb]
          rcases a4 with a4 | ⟨a4, a5⟩
          · exact .inl a4
          · refine .inr ⟨a4, (lex_iff (subF_ok hf a.2) (subF_ok hf b.2)).2 ?_⟩
            rw [subF_list, subF_list]
            refine lex_sub hf (fun x hx y hy hxy => ?_) ((lex_iff ga.ok.2 gb.ok.2).1 a5)
            exact ih (szT x) (by rw [← hn]; exact sz_mem (x := a.1) hx) rfl (gd_mem (x := a.1) ga a1 hx) (gd_mem (x := b.1) gb b1 hy) hxy
theorem setF_tim (v : Int) : ∀ {F : Fo} {i : Nat} {y : Tm} (f : Tm → Tm), F.list[i]? = some y → timF v (setF F i f) + timT v y = timF v F + timT v (f y)
  | .nil, _, _, _, h => by simp [Fo.list] at h
  | .node _ _ x k r, 0, y, f, h => by
    simp only [Fo.list, List.getElem?_cons_zero, Option.some.injEq] at h
    subst h
    rw [setF, timF_node, timF_node]
    show timT v (f (x, k)) + timF v r + timT v (x, k) = timT v (x, k) + timF v r + timT v (f (x, k))
    omega
  | .node _ _ x k r, i + 1, y, f, h => by
    have := setF_tim v f (F := r) (i := i) (by simpa [Fo.list] using h)
    rw [setF, timF_node, timF_node]
    omega
theorem setF_szR : ∀ {F : Fo} {i : Nat} {y : Tm} (f : Tm → Tm), F.list[i]? = some y → Fo.sizesR (setF F i f) + szT y = Fo.sizesR F + szT (f y)
  | .nil, _, _, _, h => by simp [Fo.list] at h
  | .node _ _ x k r, 0, y, f, h => by
    simp only [Fo.list, List.getElem?_cons_zero, Option.some.injEq] at h
    subst h
    rw [setF, Fo.sizesR, Fo.sizesR]
    unfold szT tszR
    simp only
    omega
  | .node _ _ x k r, i + 1, y, f, h => by
    have := setF_szR f (F := r) (i := i) (by simpa [Fo.list] using h)
    rw [setF, Fo.sizesR, Fo.sizesR]
    omega
theorem setF_ok {f : Tm → Tm} : ∀ {F : Fo} {i : Nat} {y : Tm}, Fo.ok F → F.list[i]? = some y → okT (f y) → Fo.ok (setF F i f)
  | .nil, _, _, _, h, _ => by simp [Fo.list] at h
  | .node _ _ x k r, 0, y, ho, h, hf => by
    simp only [Fo.list, List.getElem?_cons_zero, Option.some.injEq] at h
    subst h
    obtain ⟨h1, h2, _, h4⟩ := ok_node.1 ho
    rw [setF]
    exact ok_node.2 ⟨h1, h2, hf, h4⟩
  | .node _ _ x k r, i + 1, y, ho, h, hf => by
    obtain ⟨h1, h2, h3, h4⟩ := ok_node.1 ho
    rw [setF]
    exact ok_node.2 ⟨h1, h2, h3, setF_ok h4 (by simpa [Fo.list] using h) hf⟩
theorem lex_set {f g : Tm → Tm} : ∀ {F : Fo} {i : Nat} {y : Tm}, F.list[i]? = some y → f y ≠ g y → abvT (f y) (g y) = true → LexP (setF F i f).list (setF F i g).list
  | .nil, _, _, h, _, _ => by simp [Fo.list] at h
  | .node _ _ x k r, 0, y, h, hn, ha => by
    simp only [Fo.list, List.getElem?_cons_zero, Option.some.injEq] at h
    subst h
    rw [setF, setF, Fo.list, Fo.list, LexP]
    exact .inr ⟨hn, ha⟩
  | .node _ _ x k r, i + 1, y, h, hn, ha => by
    rw [setF, setF, Fo.list, Fo.list, LexP]
    exact .inl ⟨rfl, lex_set (by simpa [Fo.list] using h) hn ha⟩
theorem put_ok {u : Tm} (hu : okT u) : ∀ {p : List Int} {x : Bool × Int} {k : Fo} {z : Tm}, okT (x, k) → atT p x k = some z → okT (putT p (x, k) u)
  | [], _, _, _, _, _ => hu
  | n :: p, x, k, z, ho, h => by
    obtain ⟨hx, h0, h1, y, hy, hz⟩ := atT_some h
    rw [putT_cons hx h0 h1]
    refine ⟨fun e => absurd (hx.symm.trans e) (by decide), setF_ok ho.2 hy ?_⟩
    exact put_ok hu (ok_mem ho.2 (List.mem_of_getElem? hy)) hz
theorem abv_put {a b : Tm} (ha : okT a) (hb : okT b) (h : abvT a b = true) : ∀ {p : List Int} {x : Bool × Int} {k : Fo} {z : Tm}, okT (x, k) → atT p x k = some z → abvT (putT p (x, k) a) (putT p (x, k) b) = true
  | [], _, _, _, _, _ => h
  | n :: p, x, k, z, ho, hz => by
    obtain ⟨hx, h0, h1, y, hy, hz'⟩ := atT_some hz
    have hoy := ok_mem ho.2 (List.mem_of_getElem? hy)
    have ih : abvT (putT p y a) (putT p y b) = true := abv_put ha hb h hoy hz'
    have oa : okT (putT p y a) := put_ok ha hoy hz'
    have ob : okT (putT p y b) := put_ok hb hoy hz'
    obtain ⟨_, i2, i3⟩ := (abv_iff ob).1 ih
    rw [putT_cons hx h0 h1, putT_cons hx h0 h1]
    have hle : szT (putT p y b) ≤ szT (putT p y a) := by rcases i3 with h | h <;> omega
    have key : ∀ (A B : Fo), A = setF k n.toNat (fun s => putT p s a) → B = setF k n.toNat (fun s => putT p s b) → abvT (x, A) (x, B) = true := by
      intro A B eA eB
      have oA : Fo.ok A := by rw [eA]; exact setF_ok ho.2 hy oa
      have oB : Fo.ok B := by rw [eB]; exact setF_ok ho.2 hy ob
      have hL : LexP A.list B.list := by rw [eA, eB]; exact lex_set hy (abv_ne oa ih) ih
      have hsa : Fo.sizesR A + szT y = Fo.sizesR k + szT (putT p y a) := by rw [eA]; exact setF_szR (fun s => putT p s a) hy
      have hsb : Fo.sizesR B + szT y = Fo.sizesR k + szT (putT p y b) := by rw [eB]; exact setF_szR (fun s => putT p s b) hy
      have okB : okT (x, B) := ⟨fun e => absurd (hx.symm.trans e) (by decide), oB⟩
      refine (abv_iff okB).2 ⟨hx, fun v => ?_, ?_⟩
      · have t1 : timF v A + timT v y = timF v k + timT v (putT p y a) := by rw [eA]; exact setF_tim v (fun s => putT p s a) hy
        have t2 : timF v B + timT v y = timF v k + timT v (putT p y b) := by rw [eB]; exact setF_tim v (fun s => putT p s b) hy
        have t3 := i2 v
        show _ + timF v B ≤ _ + timF v A
        simp only
        omega
      · show tszR B < tszR A ∨ (tszR A = tszR B ∧ _)
        unfold tszR
        by_cases hlt : Fo.sizesR B < Fo.sizesR A
        · exact .inl (by omega)
        · exact .inr ⟨by omega, hx, .inr ⟨rfl, (lex_iff oA oB).2 hL⟩⟩
    exact key _ _ rfl rfl
end Go.Proofs.YtlgnpiphaeoeiadDoor

namespace Go.Proofs.YtlgnpiphaeoeiadDoor
open Go.RowKit Go.Deep Go.ChangeShapes Go.WideShapes
attribute [local go_sem ↓] Go.wp_at_zero Go.wp_at_succ
theorem box2_cells {w wr : World} {x y z x' y' z' : Value} {T T' : TypeId} (h : Below (w.heap.size + 2) ((w.alloc (.cells #[x, y, z] T)).alloc (.cells #[x', y', z'] T')) wr) :
    (wr.cell? ⟨w.heap.size, 0, none⟩ = some x ∧ wr.cell? ⟨w.heap.size, 1, none⟩ = some y ∧ wr.cell? ⟨w.heap.size, 2, none⟩ = some z) ∧
    (wr.cell? ⟨w.heap.size + 1, 0, none⟩ = some x' ∧ wr.cell? ⟨w.heap.size + 1, 1, none⟩ = some y' ∧ wr.cell? ⟨w.heap.size + 1, 2, none⟩ = some z') ∧ Below w.heap.size w wr ∧ w.heap.size + 1 < wr.heap.size := by
  have h2 : Below ((w.alloc (.cells #[x, y, z] T)).heap.size + 1) ((w.alloc (.cells #[x, y, z] T)).alloc (.cells #[x', y', z'] T')) wr := by simpa using h
  obtain ⟨a0, a1, a2, a3, a4⟩ := box_cells h2
  have a3' : Below (w.heap.size + 1) (w.alloc (.cells #[x, y, z] T)) wr := by simpa using a3
  obtain ⟨c0, c1, c2, c3, c4⟩ := box_cells a3'
  simp only [World.size_alloc] at a0 a1 a2 a4
  exact ⟨⟨c0, c1, c2⟩, ⟨a0, a1, a2⟩, c3, by simpa using a4⟩
def SameRSaid (x : Bool × Int) (k : Fo) : Prop := ∀ (y : Bool × Int) (l : Fo) (a c : Value) (w : World), SIn w k a → SIn w l c →
    Calls Tryd.prog 11 #[.agg #[.bool x.1, .int .i64 x.2, a], .agg #[.bool y.1, .int .i64 y.2, c]] w fun e w' => e = .returned (.bool (sameT x k y l)) ∧ Below w.heap.size w w'
set_option maxRecDepth 100000 in
set_option maxHeartbeats 1000000 in
theorem sameR_any (x : Bool × Int) (k : Fo) : SameRSaid x k := by
  refine Fo.ind1 (p := SameRSaid) ?_ x k
  clear x k
  intro x k ih y l a c w hS1 hS2
  obtain ⟨xv, xn⟩ := x
  obtain ⟨yv, yn⟩ := y
  have HS1 := hide hS1
  have HS2 := hide hS2
  obtain ⟨a1, c1, b1, o1, rfl, had1, hlc1, hcm1, hF1⟩ := hS1
  obtain ⟨a2, c2, b2, o2, rfl, had2, hlc2, hcm2, hF2⟩ := hS2
  unfold maxLen at hcm1 hcm2
  have HI := hide ih
  have Hl1 := hide (Fo.len_list k)
  have Hl2 := hide (Fo.len_list l)
  have HF1 := hide hF1
  have HF2 := hide hF2
  clear ih hF1 hF2
  by_cases hv : xv = yv
  · by_cases hn : xn = yn
    · by_cases hll : Fo.len k = Fo.len l
      · subst hv hn
        have Hf : Hid (sameT (xv, xn) k (xv, xn) l = sameF k l) := by simp [Hid, sameT]
        have hllb : ((Fo.len k : Int) != (Fo.len l : Int)) = false := by simp [hll]
        have Hll := hide hll
        have hll1 : Fo.len l ≤ Fo.len k := by omega
        have hll2 : Fo.len k ≤ Fo.len l := by omega
        clear hll
        go_enter Tryd.func11, Tryd.ntmps11
        go_wp2_with fail
        go_loopw [30] (fun i wr => ∃ j : Nat, j ≤ Fo.len k ∧ i = .int .i64 j ∧ eqOk k l j ∧ Below (w.heap.size + 2) ((w.alloc (.cells #[.bool xv, .int .i64 xn, .slice a1 (Fo.len k) c1] 37)).alloc (.cells #[.bool xv, .int .i64 xn, .slice a2 (Fo.len l) c2] 37)) wr) (fun i _ => Fo.len k - (intOf i).toNat)
        case atStart => exact ⟨0, Nat.zero_le _, rfl, fun i hi => by omega, Below.refl _ _⟩
        case round =>
          obtain ⟨j, hj, rfl, hok, hBx⟩ := hrel
          obtain ⟨⟨-, -, t2⟩, ⟨-, -, u2⟩, hBr, hlt0⟩ := box2_cells hBx
          have Hok := hide hok
          have HBx := hide hBx
          clear hok hBx
          by_cases hlt : j < Fo.len k
          · have hlt' : (j : Int) < (Fo.len k : Int) := by omega
            have hlt2 : (j : Int) < (Fo.len l : Int) := by omega
            have hj0 : (0 : Int) ≤ (j : Int) := by omega
            obtain ⟨⟨⟨yv, yn⟩, yk⟩, hy⟩ : ∃ y, k.list[j]? = some y := ⟨k.list[j]'(by rw [Hl1.out]; exact hlt), by simp⟩
            obtain ⟨⟨⟨zv, zn⟩, zk⟩, hz⟩ : ∃ y, l.list[j]? = some y := ⟨l.list[j]'(by rw [Hl2.out]; omega), by simp⟩
            obtain ⟨p0, p1, yv', p2, hSy⟩ := (HF1.out.below hBr).at hy
            obtain ⟨q0, q1, zv', q2, hSz⟩ := (HF2.out.below hBr).at hz
            have ha1 : a1 = some ⟨b1, o1, none⟩ := had1 (by omega)
            have ha2 : a2 = some ⟨b2, o2, none⟩ := had2 (by omega)
            subst ha1 ha2
            have HSy := hide hSy
            have HSz := hide hSz
            obtain ⟨ya, yc, yb, yo, rfl, -, -, -, -⟩ := hSy
            obtain ⟨za, zc, zb, zo, rfl, -, -, -, -⟩ := hSz
            have Hy := hide hy
            have Hz := hide hz
            clear hy hz had1 had2
            go_upto_region 6 with fail
            go_cut [44] (fun s44 wx => s44 = .bool (!(sameT (yv, yn) yk (zv, zn) zk)) ∧ Below wr.heap.size wr wx)
            case first =>
              go_region_held3 (fun w' => w'.cell? ⟨w.heap.size, 2, none⟩ = some (.slice (some ⟨b1, o1, none⟩) (Fo.len k) c1) ∧ w'.cell? ⟨w.heap.size + 1, 2, none⟩ = some (.slice (some ⟨b2, o2, none⟩) (Fo.len l) c2) ∧ w'.cell? ⟨b1, o1 + j * 3, none⟩ = some (.bool yv) ∧ w'.cell? ⟨b1, o1 + j * 3 + 1, none⟩ = some (.int .i64 yn) ∧ w'.cell? ⟨b1, o1 + j * 3 + 2, none⟩ = some (.slice ya (Fo.len yk) yc)
                  ∧ w'.cell? ⟨b2, o2 + j * 3, none⟩ = some (.bool zv) ∧ w'.cell? ⟨b2, o2 + j * 3 + 1, none⟩ = some (.int .i64 zn) ∧ w'.cell? ⟨b2, o2 + j * 3 + 2, none⟩ = some (.slice za (Fo.len zk) zc))
                (first
                  | go_keep
                  | exact ⟨grow_cell hb2 _ _ t2, grow_cell hb2 _ _ u2, grow_cell hb2 _ _ p0, grow_cell hb2 _ _ p1, grow_cell hb2 _ _ p2, grow_cell hb2 _ _ q0, grow_cell hb2 _ _ q1, grow_cell hb2 _ _ q2⟩)
                (first
                  | (go_at_call 11; refine (HI.out ((yv, yn), yk) (List.mem_of_getElem? Hy.out) (zv, zn) zk _ _ _ ?_ ?_).mono ?_; (exact HSy.out.drew); (exact HSz.out.drew); rintro e w2 ⟨rfl, hb2⟩))
              go_wp2_with fail
              go_meet
              case rel => exact ⟨rfl, ((Below.refl _ _).drew).trans hb2⟩
            case rest =>
              obtain ⟨rfl, hb2⟩ := hcut
              generalize wc = w2 at *
              have HB2 := hide (HBx.out.trans (hb2.mono (by omega)))
              cases he : sameT (yv, yn) yk (zv, zn) zk
              · have Hf2 : Hid (sameF k l = false) := sameF_bad Hy.out Hz.out he
                have hB2 := below_step hBr hb2
                clear he
                go_wp2_with fail
                go_ret
                exact ⟨by rw [Hf.out, Hf2.out]; rfl, hB2⟩
              · have Hok2 := hide (eqOk_succ Hok.out Hy.out Hz.out he)
                clear he
                go_wp2_with fail
                go_roundw
                case rel => exact ⟨j + 1, by omega, by go_num, Hok2.out, HB2.out⟩
                case measure => simp [intOf]; omega
          · have Hf2 : Hid (sameF k l = true) := by
              have e : j = Fo.len k := by omega
              have := Hok.out
              rw [e] at this
              exact sameF_end Hll.out this
            go_wp2_with fail
            go_ret
            exact ⟨by rw [Hf.out, Hf2.out]; rfl, hBr⟩
      · have hllb : ((Fo.len k : Int) != (Fo.len l : Int)) = true := by simp; omega
        have Hf : Hid (sameT (xv, xn) k (yv, yn) l = false) := by
          have : sameF k l = false := by rw [Bool.eq_false_iff]; exact fun h => hll (sameF_len h)
          simp [Hid, sameT, this]
        subst hv hn
        go_enter Tryd.func11, Tryd.ntmps11
        go_wp2_with fail
        go_ret
        exact ⟨by rw [Hf.out]; rfl, (below_alloc _ _).alloc (by simp) _⟩
    · have Hf : Hid (sameT (xv, xn) k (yv, yn) l = false) := by simp [Hid, sameT, hn]
      have hnb : (xn != yn) = true := by simpa using hn
      subst hv
      clear hn
      go_enter Tryd.func11, Tryd.ntmps11
      go_wp2_with fail
      go_ret
      exact ⟨by rw [Hf.out]; rfl, (below_alloc _ _).alloc (by simp) _⟩
  · have Hf : Hid (sameT (xv, xn) k (yv, yn) l = false) := by simp [Hid, sameT, hv]
    have e : yv = !xv := by cases xv <;> cases yv <;> simp_all
    subst e
    clear hv
    cases xv
    · go_enter Tryd.func11, Tryd.ntmps11
      go_wp2_with fail
      go_ret
      exact ⟨by rw [Hf.out]; rfl, (below_alloc _ _).alloc (by simp) _⟩
    · go_enter Tryd.func11, Tryd.ntmps11
      go_wp2_with fail
      go_ret
      exact ⟨by rw [Hf.out]; rfl, (below_alloc _ _).alloc (by simp) _⟩
end Go.Proofs.YtlgnpiphaeoeiadDoor

namespace Go.Proofs.YtlgnpiphaeoeiadDoor
open Go.RowKit Go.Deep Go.ChangeShapes Go.WideShapes
attribute [local go_sem ↓] Go.wp_at_zero Go.wp_at_succ
theorem BIn.node {X : Nat → Prop} {w : World} {p q : Nat} {x : Bool × Int} {k r : Fo} {b o : Nat} (h : BIn X w (.node p q x k r) b o) :
    w.cell? ⟨b, o, none⟩ = some (.bool x.1) ∧ w.cell? ⟨b, o + 1, none⟩ = some (.int .i64 x.2) ∧ (∃ v, w.cell? ⟨b, o + 2, none⟩ = some v ∧ SB X w k v) ∧ BIn X w r b (o + 3) := by
  obtain ⟨h0, h1, ⟨a, c, b', o', h2, h3, h4, h5, h6⟩, h7⟩ := h
  exact ⟨h0, h1, ⟨_, h2, a, c, b', o', rfl, h3, h4, h5, h6⟩, h7⟩
theorem BIn.at {X : Nat → Prop} {w : World} : ∀ {F : Fo} {b o i : Nat} {x : Bool × Int} {k : Fo}, BIn X w F b o → F.list[i]? = some (x, k) →
    w.cell? ⟨b, o + i * 3, none⟩ = some (.bool x.1) ∧ w.cell? ⟨b, o + i * 3 + 1, none⟩ = some (.int .i64 x.2) ∧ ∃ v, w.cell? ⟨b, o + i * 3 + 2, none⟩ = some v ∧ SB X w k v
  | .nil, _, _, _, _, _, _, h => by simp [Fo.list] at h
  | .node _ _ y k' r, b, o, 0, x, k, hF, h => by
    simp only [Fo.list, List.getElem?_cons_zero, Option.some.injEq, Prod.mk.injEq] at h
    obtain ⟨rfl, rfl⟩ := h
    obtain ⟨h0, h1, h2, _⟩ := hF.node
    simpa using ⟨h0, h1, h2⟩
  | .node _ _ y k' r, b, o, i + 1, x, k, hF, h => by
    simp only [Fo.list, List.getElem?_cons_succ] at h
    obtain ⟨_, _, _, h3⟩ := hF.node
    have := BIn.at h3 h
    have e : o + 3 + i * 3 = o + (i + 1) * 3 := by omega
    rwa [e] at this
theorem FIn.toB {w : World} : ∀ {F : Fo} {b o : Nat}, FIn w F b o → BIn (fun q => q < w.heap.size) w F b o
  | .nil, _, _, _ => trivial
  | .node _ _ x k r, b, o, ⟨h0, h1, ⟨a, c, b', o', h2, h3, h4, h5, h6⟩, h7⟩ => by
    refine ⟨h0, h1, ⟨a, c, b', o', h2, fun h => ⟨h3 h, ?_⟩, h4, h5, h6.toB⟩, h7.toB⟩
    cases k with
    | nil => simp [Fo.len] at h
    | node _ _ _ _ _ => exact World.block_lt_of_cell? _ _ h6.1
theorem SIn.toB {w : World} {k : Fo} {v : Value} (h : SIn w k v) : SB (fun q => q < w.heap.size) w k v := by
  obtain ⟨a, c, b, o, rfl, h3, h4, h5, h6⟩ := h
  refine ⟨a, c, b, o, rfl, fun h => ⟨h3 h, ?_⟩, h4, h5, h6.toB⟩
  cases k with
  | nil => simp [Fo.len] at h
  | node _ _ _ _ _ => exact World.block_lt_of_cell? _ _ h6.1
theorem SB.grow {X : Nat → Prop} {w w' : World} {k : Fo} {v : Value} (h : SB X w k v) (hX : ∀ q, X q → q < w.heap.size) (hb : Below w.heap.size w w') : SB X w' k v :=
  h.frame (fun _ h => h) (fun q i hq => hb.cell (p := ⟨q, i, none⟩) (hX q hq))
end Go.Proofs.YtlgnpiphaeoeiadDoor
