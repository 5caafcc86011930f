/- TurnsP BP BU BV RSame RAt -/
import Derived.Test.YtiilckjnggeeoadG04
import Derived.Deep.DeepCutAuto
namespace Go.Proofs.Ytiilckjnggeeoad
open Go.RowKit Go.Deep Go.ChangeShapes Go.WideShapes
def Fo.norm : Fo → Fo
  | .nil => .nil
  | .node _ _ x k r => .node 0 0 x (Fo.norm k) (Fo.norm r)
theorem norm_len : ∀ F : Fo, Fo.len (Fo.norm F) = Fo.len F
  | .nil => rfl
  | .node _ _ x k r => by simp [Fo.len, Fo.norm, norm_len r]
end Go.Proofs.Ytiilckjnggeeoad

namespace Go.Proofs.Ytiilckjnggeeoad
open Go.RowKit Go.Deep Go.ChangeShapes Go.WideShapes
abbrev Tm := (Bool × Int) × Fo
abbrev Sb := List (Int × Tm)
def vr (n : Int) : Tm := ((true, n), .nil)
def subF (f : Int → Tm) : Fo → Fo
  | .nil => .nil
  | .node _ _ x k r => if x.1 then .node 0 0 (f x.2).1 (f x.2).2 (subF f r) else .node 0 0 (false, x.2) (subF f k) (subF f r)
def subT (f : Int → Tm) (t : Tm) : Tm := if t.1.1 then f t.1.2 else ((false, t.1.2), subF f t.2)
theorem subF_node (f : Int → Tm) (p q : Nat) (x : Bool × Int) (k r : Fo) : subF f (.node p q x k r) = .node 0 0 (subT f (x, k)).1 (subT f (x, k)).2 (subF f r) := by
  obtain ⟨v, n⟩ := x
  cases v <;> simp [subF, subT]
theorem subT_var (f : Int → Tm) (n : Int) (k : Fo) : subT f ((true, n), k) = f n := rfl
theorem subT_sym (f : Int → Tm) (n : Int) (k : Fo) : subT f ((false, n), k) = ((false, n), subF f k) := rfl
theorem subF_list (f : Int → Tm) : ∀ F : Fo, (subF f F).list = F.list.map (subT f)
  | .nil => rfl
  | .node p q x k r => by rw [subF_node]; simp [Fo.list, subF_list f r]
theorem subF_len (f : Int → Tm) (F : Fo) : Fo.len (subF f F) = Fo.len F := by rw [← Fo.len_list, ← Fo.len_list, subF_list, List.length_map]
theorem subF_sub (f g : Int → Tm) : ∀ F : Fo, subF f (subF g F) = subF (fun n => subT f (g n)) F
  | .nil => rfl
  | .node p q ⟨v, n⟩ k r => by
    cases v
    · simp [subF, subF_sub f g k, subF_sub f g r]
    · rw [subF_node g, subF_node f, subF_sub f g r, subF_node]
      rfl
theorem subT_sub (f g : Int → Tm) (t : Tm) : subT f (subT g t) = subT (fun n => subT f (g n)) t := by
  obtain ⟨⟨v, n⟩, k⟩ := t
  cases v
  · simp [subT, subF_sub]
  · rfl
def Fo.ok : Fo → Prop
  | .nil => True
  | .node p q x k r => p = 0 ∧ q = 0 ∧ (x.1 = true → k = .nil) ∧ Fo.ok k ∧ Fo.ok r
def okT (t : Tm) : Prop := (t.1.1 = true → t.2 = .nil) ∧ Fo.ok t.2
theorem ok_node {p q : Nat} {x : Bool × Int} {k r : Fo} : Fo.ok (.node p q x k r) ↔ p = 0 ∧ q = 0 ∧ okT (x, k) ∧ Fo.ok r := by
  simp only [Fo.ok, okT]
  constructor
  · rintro ⟨a, b, c, d, e⟩; exact ⟨a, b, ⟨c, d⟩, e⟩
  · rintro ⟨a, b, ⟨c, d⟩, e⟩; exact ⟨a, b, c, d, e⟩
theorem ok_vr (n : Int) : okT (vr n) := ⟨fun _ => rfl, trivial⟩
theorem ok_mem : ∀ {F : Fo} {t : Tm}, Fo.ok F → t ∈ F.list → okT t
  | .nil, _, _, h => by simp [Fo.list] at h
  | .node p q x k r, t, hF, h => by
    rw [ok_node] at hF
    simp only [Fo.list, List.mem_cons] at h
    rcases h with rfl | h
    · exact hF.2.2.1
    · exact ok_mem hF.2.2.2 h
theorem ok_eq : ∀ {F G : Fo}, Fo.ok F → Fo.ok G → F.list = G.list → F = G
  | .nil, .nil, _, _, _ => rfl
  | .nil, .node _ _ _ _ _, _, _, h => by simp [Fo.list] at h
  | .node _ _ _ _ _, .nil, _, _, h => by simp [Fo.list] at h
  | .node p q x k r, .node p' q' y l r', hF, hG, h => by
    rw [ok_node] at hF hG
    simp only [Fo.list, List.cons.injEq, Prod.mk.injEq] at h
    obtain ⟨⟨rfl, rfl⟩, h⟩ := h
    obtain ⟨rfl, rfl, _, hr⟩ := hF
    obtain ⟨rfl, rfl, _, hr'⟩ := hG
    rw [ok_eq hr hr' h]
theorem subF_ok {f : Int → Tm} (hf : ∀ n, okT (f n)) : ∀ F : Fo, Fo.ok (subF f F)
  | .nil => trivial
  | .node p q ⟨v, n⟩ k r => by
    rw [subF_node, ok_node]
    refine ⟨rfl, rfl, ?_, subF_ok hf r⟩
    cases v
    · exact ⟨fun h => by simp [subT] at h, subF_ok hf k⟩
    · exact hf n
theorem subT_ok {f : Int → Tm} (hf : ∀ n, okT (f n)) (t : Tm) : okT (subT f t) := by
  obtain ⟨⟨v, n⟩, k⟩ := t
  cases v
  · exact ⟨fun h => by simp [subT] at h, subF_ok hf k⟩
  · exact hf n
theorem subF_vr : ∀ {F : Fo}, Fo.ok F → subF vr F = F
  | .nil, _ => rfl
  | .node p q ⟨v, n⟩ k r, h => by
    rw [ok_node] at h
    obtain ⟨rfl, rfl, hk, hr⟩ := h
    rw [subF_node, subF_vr hr]
    cases v
    · rw [subT_sym, subF_vr hk.2]
    · have : k = .nil := hk.1 rfl
      subst this
      rfl
theorem subT_vr {t : Tm} (h : okT t) : subT vr t = t := by
  obtain ⟨⟨v, n⟩, k⟩ := t
  cases v
  · rw [subT_sym, subF_vr h.2]
  · have : k = .nil := h.1 rfl
    subst this
    rfl
theorem same_eq : ∀ {F G : Fo}, Fo.ok F → Fo.ok G → sameF F G = true → F = G
  | .nil, .nil, _, _, _ => rfl
  | .nil, .node _ _ _ _ _, _, _, h => by simp [sameF] at h
  | .node _ _ _ _ _, .nil, _, _, h => by simp [sameF] at h
  | .node p q x k r, .node p' q' y l r', hF, hG, h => by
    simp only [sameF, Bool.and_eq_true, beq_iff_eq] at h
    obtain ⟨⟨⟨e1, e2⟩, e3⟩, e4⟩ := h
    rw [ok_node] at hF hG
    obtain ⟨rfl, rfl, hk, hr⟩ := hF
    obtain ⟨rfl, rfl, hl, hr'⟩ := hG
    have e5 : k = l := same_eq hk.2 hl.2 e3
    rw [show x = y from Prod.ext e1 e2, e5, same_eq hr hr' e4]
theorem sameT_eq {t u : Tm} (ht : okT t) (hu : okT u) (h : sameT t.1 t.2 u.1 u.2 = true) : t = u := by
  simp only [sameT, Bool.and_eq_true, beq_iff_eq] at h
  exact Prod.ext (Prod.ext h.1.1 h.1.2) (same_eq ht.2 hu.2 h.2)
theorem sameT_iff {t u : Tm} (ht : okT t) (hu : okT u) : sameT t.1 t.2 u.1 u.2 = true ↔ t = u :=
  ⟨fun h => sameT_eq ht hu h, fun h => by subst h; exact sameT_refl _ _⟩
def occF (n : Int) : Fo → Prop
  | .nil => False
  | .node _ _ x k r => (if x.1 then x.2 = n else occF n k) ∨ occF n r
def occT (n : Int) (t : Tm) : Prop := if t.1.1 then t.1.2 = n else occF n t.2
theorem occ_mem {n : Int} : ∀ {F : Fo}, occF n F ↔ ∃ t ∈ F.list, occT n t
  | .nil => by simp [occF, Fo.list]
  | .node p q x k r => by
    have := occ_mem (n := n) (F := r)
    simp only [occF, Fo.list, List.mem_cons, exists_eq_or_imp, this]
    rfl
theorem occ_vr {m n : Int} : occT m (vr n) ↔ n = m := by simp [occT, vr]
theorem occ_sym {m n : Int} {k : Fo} : occT m ((false, n), k) ↔ occF m k := by simp [occT]
theorem subF_congr {f g : Int → Tm} : ∀ {F : Fo}, (∀ n, occF n F → f n = g n) → subF f F = subF g F
  | .nil, _ => rfl
  | .node p q ⟨v, n⟩ k r, h => by
    have hr := subF_congr (F := r) (fun m hm => h m (.inr hm))
    cases v
    · have hk := subF_congr (F := k) (fun m hm => h m (.inl (by simpa using hm)))
      simp [subF, hr, hk]
    · simp [subF, hr, h n (.inl (by simp))]
theorem subT_congr {f g : Int → Tm} {t : Tm} (h : ∀ n, occT n t → f n = g n) : subT f t = subT g t := by
  obtain ⟨⟨v, n⟩, k⟩ := t
  cases v
  · rw [subT_sym, subT_sym, subF_congr (fun m hm => h m (occ_sym.2 hm))]
  · exact h n (by simp [occT])
theorem occF_sub {m : Int} {f : Int → Tm} : ∀ {F : Fo}, occF m (subF f F) ↔ ∃ n, occF n F ∧ occT m (f n)
  | .nil => by simp [occF, subF]
  | .node p q ⟨v, n⟩ k r => by
    have hr := occF_sub (m := m) (f := f) (F := r)
    cases v
    · have hk := occF_sub (m := m) (f := f) (F := k)
      simp only [subF, occF, Bool.false_eq_true, if_false, hr, hk]
      constructor
      · rintro (⟨i, h1, h2⟩ | ⟨i, h1, h2⟩)
        · exact ⟨i, .inl h1, h2⟩
        · exact ⟨i, .inr h1, h2⟩
      · rintro ⟨i, h1 | h1, h2⟩
        · exact .inl ⟨i, h1, h2⟩
        · exact .inr ⟨i, h1, h2⟩
    · simp only [subF, occF, if_true, hr]
      constructor
      · rintro (h | ⟨i, h1, h2⟩)
        · exact ⟨n, .inl rfl, h⟩
        · exact ⟨i, .inr h1, h2⟩
      · rintro ⟨i, h1 | h1, h2⟩
        · subst h1; exact .inl h2
        · exact .inr ⟨i, h1, h2⟩
theorem occT_sub {m : Int} {f : Int → Tm} {t : Tm} : occT m (subT f t) ↔ ∃ n, occT n t ∧ occT m (f n) := by
  obtain ⟨⟨v, n⟩, k⟩ := t
  cases v
  · rw [subT_sym, occ_sym, occF_sub]
    simp only [occ_sym]
  · rw [subT_var]
    simp [occT]
theorem occ_varsF {m : Int} : ∀ {F : Fo} {l : List Int}, m ∈ varsF F l ↔ m ∈ l ∨ occF m F
  | .nil, l => by simp [varsF, occF]
  | .node p q ⟨v, n⟩ k r, l => by
    rw [varsF, occ_varsF (F := r)]
    cases v
    · have hk := occ_varsF (m := m) (F := k) (l := l)
      simp only [Bool.false_eq_true, if_false, hk, occF, or_assoc]
    · simp only [if_true, occF]
      by_cases hh : hasB l n = true
      · rw [if_pos hh]
        have hm : n ∈ l := by simpa [hasB] using hh
        constructor
        · rintro (h | h); exact .inl h; exact .inr (.inr h)
        · rintro (h | h | h); exact .inl h; (subst h; exact .inl hm); exact .inr h
      · rw [if_neg hh]
        simp only [List.mem_append, List.mem_singleton]
        constructor
        · rintro ((h | h) | h); exact .inl h; (subst h; exact .inr (.inl rfl)); exact .inr (.inr h)
        · rintro (h | h | h); exact .inl (.inl h); (subst h; exact .inl (.inr rfl)); exact .inr h
theorem occ_varsT {m : Int} {t : Tm} : m ∈ varsT t.1 t.2 [] ↔ occT m t := by
  obtain ⟨⟨v, n⟩, k⟩ := t
  cases v
  · simp [varsT, occT, occ_varsF]
  · simp [varsT, occT, hasB, eq_comm]
theorem occ_has {m : Int} {t : Tm} : hasB (varsT t.1 t.2 []) m = true ↔ occT m t := by
  rw [← occ_varsT]; simp [hasB]
theorem varsF_nodup : ∀ {F : Fo} {l : List Int}, l.Nodup → (varsF F l).Nodup
  | .nil, l, h => h
  | .node p q ⟨v, n⟩ k r, l, h => by
    rw [varsF]
    refine varsF_nodup ?_
    cases v
    · exact varsF_nodup (F := k) h
    · simp only [if_true]
      by_cases hh : hasB l n = true
      · rw [if_pos hh]; exact h
      · rw [if_neg hh, List.nodup_append]
        refine ⟨h, by simp, ?_⟩
        intro a ha b hb e
        simp only [List.mem_singleton] at hb
        subst e hb
        exact hh (by simpa [hasB] using ha)
def look : Sb → Int → Option Tm
  | [], _ => none
  | p :: s, n => if p.1 = n then some p.2 else look s n
def bnd (s : Sb) (n : Int) : Tm := (look s n).getD (vr n)
theorem look_mem {u : Tm} : ∀ {s : Sb} {n : Int}, look s n = some u → (n, u) ∈ s
  | [], n, h => by simp [look] at h
  | (m, t) :: s, n, h => by
    unfold look at h
    by_cases e : m = n
    · rw [if_pos e] at h; cases h; subst e; simp
    · rw [if_neg e] at h; exact List.mem_cons_of_mem _ (look_mem h)
theorem look_append (s s' : Sb) (n : Int) : look (s ++ s') n = (look s n).or (look s' n) := by
  induction s with
  | nil => rfl
  | cons p s ih =>
    simp only [List.cons_append, look]
    split
    · rfl
    · exact ih
theorem look_map (g : Tm → Tm) (s : Sb) (n : Int) : look (s.map fun p => (p.1, g p.2)) n = (look s n).map g := by
  induction s with
  | nil => rfl
  | cons p s ih =>
    simp only [List.map_cons, look]
    split
    · rfl
    · exact ih
theorem look_none {s : Sb} {n : Int} (h : ∀ p ∈ s, p.1 ≠ n) : look s n = none := by
  cases e : look s n with
  | none => rfl
  | some u => exact absurd rfl (h _ (look_mem e))
theorem bnd_some {s : Sb} {n : Int} {u : Tm} (h : look s n = some u) : bnd s n = u := by simp [bnd, h]
theorem bnd_none {s : Sb} {n : Int} (h : look s n = none) : bnd s n = vr n := by simp [bnd, h]
theorem bnd_ok {s : Sb} (h : ∀ p ∈ s, okT p.2) (n : Int) : okT (bnd s n) := by
  cases e : look s n with
  | none => rw [bnd_none e]; exact ok_vr n
  | some u => rw [bnd_some e]; exact h _ (look_mem e)
def narT (t : Tm) : Prop := Fo.len t.2 ≤ 1000 ∧ Fo.narrow t.2
theorem nar_node {p q : Nat} {x : Bool × Int} {k r : Fo} : Fo.narrow (.node p q x k r) ↔ narT (x, k) ∧ Fo.narrow r := by
  simp only [Fo.narrow, narT]
  exact ⟨fun ⟨a, b, c⟩ => ⟨⟨a, b⟩, c⟩, fun ⟨⟨a, b⟩, c⟩ => ⟨a, b, c⟩⟩
theorem nar_mem : ∀ {F : Fo} {t : Tm}, Fo.narrow F → t ∈ F.list → narT t
  | .nil, _, _, h => by simp [Fo.list] at h
  | .node p q x k r, t, hF, h => by
    rw [nar_node] at hF
    simp only [Fo.list, List.mem_cons] at h
    rcases h with rfl | h
    · exact hF.1
    · exact nar_mem hF.2 h
theorem subF_zip {f : Int → Tm} {F G : Fo} (h : subF f F = subF f G) : ∀ p ∈ F.list.zip G.list, subT f p.1 = subT f p.2 := by
  have e := congrArg Fo.list h
  rw [subF_list, subF_list] at e
  have : ∀ (l m : List Tm), l.map (subT f) = m.map (subT f) → ∀ p ∈ l.zip m, subT f p.1 = subT f p.2 := by
    intro l
    induction l with
    | nil => intro m _ p hp; simp at hp
    | cons a l ih =>
      intro m hm p hp
      cases m with
      | nil => simp at hp
      | cons b m =>
        simp only [List.map_cons, List.cons.injEq] at hm
        simp only [List.zip_cons_cons, List.mem_cons] at hp
        rcases hp with rfl | hp
        · exact hm.1
        · exact ih m hm.2 p hp
  exact this _ _ e
theorem subF_of_zip {f : Int → Tm} (hf : ∀ n, okT (f n)) {F G : Fo} (hl : Fo.len F = Fo.len G) (h : ∀ p ∈ F.list.zip G.list, subT f p.1 = subT f p.2) : subF f F = subF f G := by
  refine ok_eq (subF_ok hf F) (subF_ok hf G) ?_
  rw [subF_list, subF_list]
  rw [← Fo.len_list, ← Fo.len_list] at hl
  have : ∀ (l m : List Tm), l.length = m.length → (∀ p ∈ l.zip m, subT f p.1 = subT f p.2) → l.map (subT f) = m.map (subT f) := by
    intro l
    induction l with
    | nil => intro m hm _; cases m with
      | nil => rfl
      | cons b m => simp at hm
    | cons a l ih =>
      intro m hm hp
      cases m with
      | nil => simp at hm
      | cons b m =>
        simp only [List.map_cons, List.cons.injEq]
        refine ⟨hp (a, b) (by simp), ih m (by simpa using hm) (fun p h => hp p (by simp [h]))⟩
  exact this _ _ hl h
end Go.Proofs.Ytiilckjnggeeoad

namespace Go.Proofs.Ytiilckjnggeeoad
open Go.RowKit Go.Deep Go.ChangeShapes Go.WideShapes
def addS (s : Sb) (n : Int) (t : Tm) : Option Sb :=
  if hasB (varsT t.1 t.2 []) n then none else some ((s.map fun p => (p.1, subT (bnd [(n, t)]) p.2)) ++ [(n, t)])
def top (s : Sb) (t : Tm) : Tm := if t.1.1 then (look s t.1.2).getD t else t
def stepU (s : Sb) (a b : Tm) (L : List (Tm × Tm)) : Option (Sb × List (Tm × Tm)) :=
  if (top s a).1.1 = true ∧ (top s b).1.1 = true ∧ (top s a).1.2 = (top s b).1.2 then some (s, L)
  else if (top s a).1.1 = true then (addS s (top s a).1.2 (subT (bnd s) (top s b))).map fun s' => (s', L)
  else if (top s b).1.1 = true then (addS s (top s b).1.2 (subT (bnd s) (top s a))).map fun s' => (s', L)
  else if (top s a).1.2 = (top s b).1.2 ∧ Fo.len (top s a).2 = Fo.len (top s b).2 then some (s, (top s a).2.list.zip (top s b).2.list ++ L)
  else none
def runU : Nat → Sb → List (Tm × Tm) → Option (Option Sb)
  | 0, _, _ => none
  | _ + 1, s, [] => some (some s)
  | n + 1, s, p :: L => match stepU s p.1 p.2 L with
    | none => some none
    | some q => runU n q.1 q.2
def depF : Fo → Nat
  | .nil => 0
  | .node _ _ _ k r => max (1 + depF k) (depF r)
def depT (t : Tm) : Nat := 1 + depF t.2
theorem dep_mem : ∀ {F : Fo} {t : Tm}, t ∈ F.list → depT t ≤ depF F
  | .nil, _, h => by simp [Fo.list] at h
  | .node p q x k r, t, h => by
    simp only [Fo.list, List.mem_cons] at h
    rcases h with rfl | h
    · simp only [depF, depT]; omega
    · have := dep_mem h
      simp only [depF]; omega
theorem depF_sub {f : Int → Tm} {d : Nat} (hf : ∀ n, depT (f n) ≤ d + 1) : ∀ F : Fo, depF (subF f F) ≤ depF F + d
  | .nil => by simp [subF, depF]
  | .node p q ⟨v, n⟩ k r => by
    have hr := depF_sub hf r
    rw [subF_node]
    cases v
    · have hk := depF_sub hf k
      simp only [subT_sym, depF]; omega
    · have := hf n
      simp only [subT_var, depF]
      simp only [depT] at this
      omega
theorem depT_sub {f : Int → Tm} {d : Nat} (hf : ∀ n, depT (f n) ≤ d + 1) (t : Tm) : depT (subT f t) ≤ depT t + d := by
  obtain ⟨⟨v, n⟩, k⟩ := t
  cases v
  · have := depF_sub hf k
    simp only [subT_sym, depT]; omega
  · have := hf n
    rw [subT_var]
    simp only [depT] at this ⊢
    omega
def twoF : Fo → Prop
  | .nil => True
  | .node _ _ _ k r => Fo.len k ≤ 2 ∧ twoF k ∧ twoF r
def twoT (t : Tm) : Prop := Fo.len t.2 ≤ 2 ∧ twoF t.2
theorem two_vr (n : Int) : twoT (vr n) := ⟨by simp [vr, Fo.len], trivial⟩
theorem two_node {p q : Nat} {x : Bool × Int} {k r : Fo} : twoF (.node p q x k r) ↔ twoT (x, k) ∧ twoF r := by
  simp only [twoF, twoT]
  exact ⟨fun ⟨a, b, c⟩ => ⟨⟨a, b⟩, c⟩, fun ⟨⟨a, b⟩, c⟩ => ⟨a, b, c⟩⟩
theorem two_mem : ∀ {F : Fo} {t : Tm}, twoF F → t ∈ F.list → twoT t
  | .nil, _, _, h => by simp [Fo.list] at h
  | .node p q x k r, t, hF, h => by
    rw [two_node] at hF
    simp only [Fo.list, List.mem_cons] at h
    rcases h with rfl | h
    · exact hF.1
    · exact two_mem hF.2 h
theorem two_nar : ∀ {F : Fo}, twoF F → Fo.narrow F
  | .nil, _ => trivial
  | .node p q x k r, h => ⟨by have := h.1; omega, two_nar h.2.1, two_nar h.2.2⟩
theorem twoT_nar {t : Tm} (h : twoT t) : narT t := ⟨by have := h.1; omega, two_nar h.2⟩
theorem subF_two {f : Int → Tm} (hf : ∀ n, twoT (f n)) : ∀ {F : Fo}, twoF F → twoF (subF f F)
  | .nil, _ => trivial
  | .node p q ⟨v, n⟩ k r, h => by
    rw [two_node] at h
    rw [subF_node, two_node]
    refine ⟨?_, subF_two hf h.2⟩
    cases v
    · rw [subT_sym]
      exact ⟨by rw [subF_len]; exact h.1.1, subF_two hf h.1.2⟩
    · exact hf n
theorem subT_two {f : Int → Tm} (hf : ∀ n, twoT (f n)) {t : Tm} (h : twoT t) : twoT (subT f t) := by
  obtain ⟨⟨v, n⟩, k⟩ := t
  cases v
  · rw [subT_sym]
    exact ⟨by rw [subF_len]; exact h.1, subF_two hf h.2⟩
  · exact hf n
theorem bnd_two {s : Sb} (h : ∀ p ∈ s, twoT p.2) (n : Int) : twoT (bnd s n) := by
  cases e : look s n with
  | none => rw [bnd_none e]; exact two_vr n
  | some u => rw [bnd_some e]; exact h _ (look_mem e)
structure Gd (t : Tm) : Prop where
  ok : okT t
  two : twoT t
  few : ∀ m, occT m t → 0 ≤ m ∧ m ≤ 9
theorem Gd.nar {t : Tm} (h : Gd t) : narT t := twoT_nar h.two
theorem gd_vr {n : Int} (h : 0 ≤ n ∧ n ≤ 9) : Gd (vr n) := ⟨ok_vr n, two_vr n, fun m hm => by rw [occ_vr] at hm; subst hm; exact h⟩
theorem gd_mem {F : Fo} {x : Bool × Int} {t : Tm} (h : Gd (x, F)) (hx : x.1 = false) (ht : t ∈ F.list) : Gd t := by
  refine ⟨ok_mem h.ok.2 ht, two_mem h.two.2 ht, fun m hm => h.few m ?_⟩
  unfold occT
  simp only [hx, Bool.false_eq_true, if_false]
  exact occ_mem.2 ⟨t, ht, hm⟩
theorem gd_bnd {s : Sb} (h : ∀ p ∈ s, Gd p.2) {n : Int} (hn : 0 ≤ n ∧ n ≤ 9) : Gd (bnd s n) := by
  cases e : look s n with
  | none => rw [bnd_none e]; exact gd_vr hn
  | some u => rw [bnd_some e]; exact h _ (look_mem e)
theorem gd_sub {s : Sb} (h : ∀ p ∈ s, Gd p.2) {t : Tm} (ht : Gd t) : Gd (subT (bnd s) t) := by
  refine ⟨subT_ok (bnd_ok fun p hp => (h p hp).ok) t, subT_two (bnd_two fun p hp => (h p hp).two) ht.two, fun m hm => ?_⟩
  obtain ⟨n, h1, h2⟩ := occT_sub.1 hm
  exact (gd_bnd h (ht.few n h1)).few m h2
theorem gd_top {s : Sb} (h : ∀ p ∈ s, Gd p.2) {t : Tm} (ht : Gd t) : Gd (top s t) := by
  unfold top
  split
  · cases e : look s t.1.2 with
    | none => simpa using ht
    | some u => simpa using h _ (look_mem e)
  · exact ht
def Idem (s : Sb) : Prop := ∀ p ∈ s, ∀ m, occT m p.2 → look s m = none
theorem idem_same {s : Sb} {u : Tm} (hu : okT u) (h : ∀ m, occT m u → look s m = none) : subT (bnd s) u = u := by
  rw [subT_congr (g := vr) (fun m hm => bnd_none (h m hm)), subT_vr hu]
theorem top_sub {s : Sb} (hi : Idem s) (ho : ∀ p ∈ s, okT p.2) (t : Tm) : subT (bnd s) (top s t) = subT (bnd s) t := by
  unfold top
  split
  · rename_i hv
    cases e : look s t.1.2 with
    | none => rfl
    | some u =>
      simp only [Option.getD_some]
      have hm := look_mem e
      rw [idem_same (ho _ hm) (hi _ hm), subT, if_pos hv, bnd_some e]
  · rfl
theorem top_free {s : Sb} (hi : Idem s) {t : Tm} (h : (top s t).1.1 = true) : look s (top s t).1.2 = none := by
  unfold top at h ⊢
  split at h
  · rename_i hv
    rw [if_pos hv]
    cases e : look s t.1.2 with
    | none => simp [e]
    | some u =>
      simp only [e, Option.getD_some] at h ⊢
      refine hi _ (look_mem e) _ ?_
      unfold occT
      simp [h]
  · rename_i hv
    exact absurd h hv
theorem var_eq {t : Tm} (h : okT t) (hv : t.1.1 = true) : t = vr t.1.2 := by
  obtain ⟨⟨v, n⟩, k⟩ := t
  have : k = .nil := h.1 hv
  have hv' : v = true := hv
  subst this hv'
  rfl
theorem sym_eq {t : Tm} (hv : ¬ t.1.1 = true) : t = ((false, t.1.2), t.2) := by
  obtain ⟨⟨v, n⟩, k⟩ := t
  have hv' : v = false := by simpa using hv
  subst hv'
  rfl
theorem addS_some {s s' : Sb} {n : Int} {t : Tm} (h : addS s n t = some s') : ¬ occT n t ∧ s' = (s.map fun p => (p.1, subT (bnd [(n, t)]) p.2)) ++ [(n, t)] := by
  unfold addS at h
  split at h
  · cases h
  · rename_i hh
    exact ⟨fun e => hh (occ_has.2 e), (Option.some.inj h).symm⟩
theorem bnd_one (n : Int) (t : Tm) (m : Int) : bnd [(n, t)] m = if n = m then t else vr m := by
  unfold bnd look
  split
  · rfl
  · rfl
theorem add_look {s s' : Sb} {n : Int} {t : Tm} (h : addS s n t = some s') (m : Int) : look s' m = match look s m with
    | some u => some (subT (bnd [(n, t)]) u)
    | none => if n = m then some t else none := by
  rw [(addS_some h).2, look_append, look_map (subT (bnd [(n, t)]))]
  cases look s m with
  | none => simp [look]
  | some u => rfl
def Ref (s s' : Sb) : Prop := ∀ n, subT (bnd s') (bnd s n) = bnd s' n
theorem ref_sub {s s' : Sb} (h : Ref s s') (t : Tm) : subT (bnd s') (subT (bnd s) t) = subT (bnd s') t := by
  rw [subT_sub]; exact subT_congr fun n _ => h n
theorem ref_trans {s s1 s' : Sb} (h : Ref s s1) (h1 : Ref s1 s') : Ref s s' := fun n => by
  rw [← ref_sub h1, h n, h1 n]
theorem ref_refl {s : Sb} (hi : Idem s) (ho : ∀ p ∈ s, okT p.2) : Ref s s := fun n => by
  cases e : look s n with
  | none => rw [bnd_none e]; exact bnd_none e
  | some u => rw [bnd_some e]; exact idem_same (ho _ (look_mem e)) (hi _ (look_mem e))
theorem add_facts {s s' : Sb} {n : Int} {t : Tm} (h : addS s n t = some s') (hi : Idem s) (hn : look s n = none) (ht : okT t) (hf : ∀ m, occT m t → look s m = none) :
    Ref s s' ∧ Idem s' ∧ bnd s' n = t ∧ subT (bnd s') t = t ∧ (∀ u, (∀ m, occT m u → look s m = none) → subT (bnd s') u = subT (bnd [(n, t)]) u) := by
  have hno := (addS_some h).1
  have hl := add_look h
  have hb : ∀ m, look s m = none → bnd s' m = bnd [(n, t)] m := fun m hm => by
    have := hl m
    rw [hm] at this
    simp only at this
    rw [bnd, this, bnd_one]
    split <;> rfl
  have hs : ∀ u, (∀ m, occT m u → look s m = none) → subT (bnd s') u = subT (bnd [(n, t)]) u := fun u hu => subT_congr fun m hm => hb m (hu m hm)
  have ht1 : subT (bnd [(n, t)]) t = t := by
    rw [subT_congr (g := vr), subT_vr ht]
    intro m hm
    rw [bnd_one, if_neg]
    intro e
    subst e
    exact hno hm
  have hfree : ∀ m, (look s m = none) → n ≠ m → look s' m = none := fun m hm he => by
    have := hl m
    rw [hm] at this
    simpa [he] using this
  refine ⟨?_, ?_, ?_, ?_, hs⟩
  · intro m
    cases e : look s m with
    | none => rw [bnd_none e]; rfl
    | some u =>
      rw [bnd_some e, hs u (hi _ (look_mem e))]
      have := hl m
      rw [e] at this
      exact (bnd_some this).symm
  · intro p hp m hm
    rw [(addS_some h).2] at hp
    rw [List.mem_append, List.mem_map, List.mem_singleton] at hp
    rcases hp with ⟨q, hq, rfl⟩ | rfl
    · obtain ⟨j, h1, h2⟩ := occT_sub.1 hm
      rw [bnd_one] at h2
      split at h2
      · exact hfree m (hf m h2) (fun e => by subst e; exact hno h2)
      · rename_i hne
        rw [occ_vr] at h2
        subst h2
        exact hfree _ (hi q hq _ h1) hne
    · exact hfree m (hf m hm) (fun e => by subst e; exact hno hm)
  · rw [hb n hn, bnd_one, if_pos rfl]
  · rw [hs t hf, ht1]
theorem sub_free {s : Sb} (hi : Idem s) {t : Tm} {m : Int} (h : occT m (subT (bnd s) t)) : look s m = none := by
  obtain ⟨n, h1, h2⟩ := occT_sub.1 h
  cases e : look s n with
  | none =>
    rw [bnd_none e, occ_vr] at h2
    subst h2
    exact e
  | some u =>
    rw [bnd_some e] at h2
    exact hi _ (look_mem e) m h2
def fre (s : Sb) : Nat := ([0, 1, 2, 3, 4, 5, 6, 7, 8, 9].filter fun v : Int => (look s v).isNone).length
theorem filter_le {p q : Int → Bool} : ∀ {l : List Int}, (∀ m ∈ l, q m = true → p m = true) → (l.filter q).length ≤ (l.filter p).length
  | [], _ => by simp
  | b :: l, hi => by
    have ih := filter_le (l := l) (fun m hm => hi m (by simp [hm]))
    have hb := hi b (by simp)
    cases hq : q b
    · cases hp : p b
      · simpa [hp, hq] using ih
      · simp [hp, hq]; omega
    · simp [hb hq, hq]; omega
theorem filter_less {p q : Int → Bool} {n : Int} : ∀ {l : List Int}, n ∈ l → (∀ m ∈ l, q m = true → p m = true) → p n = true → q n = false → (l.filter q).length < (l.filter p).length
  | [], h, _, _, _ => by simp at h
  | a :: l, h, hi, hp, hq => by
    have hle := filter_le (l := l) (p := p) (q := q) (fun m hm => hi m (by simp [hm]))
    by_cases ea : a = n
    · subst ea
      simp [hp, hq]; omega
    · have ih := filter_less (n := n) (l := l) (by simpa [Ne.symm ea] using h) (fun m hm => hi m (by simp [hm])) hp hq
      have ha := hi a (by simp)
      cases e : q a
      · cases e' : p a
        · simpa [e, e'] using ih
        · simp [e, e']; omega
      · simp [ha e, e]; omega
theorem fre_add {s s' : Sb} {n : Int} {t : Tm} (h : addS s n t = some s') (hn : look s n = none) (hr : 0 ≤ n ∧ n ≤ 9) : fre s' < fre s := by
  refine filter_less (n := n) ?_ ?_ ?_ ?_
  · have : n = 0 ∨ n = 1 ∨ n = 2 ∨ n = 3 ∨ n = 4 ∨ n = 5 ∨ n = 6 ∨ n = 7 ∨ n = 8 ∨ n = 9 := by omega
    rcases this with rfl | rfl | rfl | rfl | rfl | rfl | rfl | rfl | rfl | rfl <;> decide
  · intro m _ hm
    rw [add_look h] at hm
    cases e : look s m with
    | none => rfl
    | some u => rw [e] at hm; simp at hm
  · simp [hn]
  · rw [add_look h, hn]
    simp
def dpL (s : Sb) (D : Nat) : List (Tm × Tm) → Prop
  | [] => True
  | p :: L => depT (subT (bnd s) p.1) + L.length ≤ D ∧ depT (subT (bnd s) p.2) + L.length ≤ D ∧ dpL s D L
structure UI (s : Sb) (L : List (Tm × Tm)) : Prop where
  gs : ∀ p ∈ s, Gd p.2
  vs : ∀ p ∈ s, 0 ≤ p.1 ∧ p.1 ≤ 9
  gL : ∀ p ∈ L, Gd p.1 ∧ Gd p.2
  idem : Idem s
  five : s.length + fre s ≤ 10
  dep : dpL s (12 * 2 ^ s.length) L
  deps : ∀ p ∈ s, depT p.2 ≤ 12 * 2 ^ s.length
theorem ui_ok {s : Sb} {L : List (Tm × Tm)} (h : UI s L) : ∀ p ∈ s, okT p.2 := fun p hp => (h.gs p hp).ok
theorem dpL_len {s : Sb} {D : Nat} : ∀ {L : List (Tm × Tm)}, dpL s D L → L.length ≤ D
  | [], _ => Nat.zero_le _
  | p :: L, h => by
    have := h.1
    simp only [depT, List.length_cons] at *
    omega
theorem ui_len {s : Sb} {L : List (Tm × Tm)} (h : UI s L) : L.length ≤ 12288 ∧ s.length ≤ 10 := by
  have h5 := h.five
  have h1 := dpL_len h.dep
  have h2 : 2 ^ s.length ≤ 2 ^ 10 := Nat.pow_le_pow_right (by decide) (by omega)
  omega
theorem dpL_zip {s : Sb} {D : Nat} {x y : Fo} {L : List (Tm × Tm)} (hx : depF (subF (bnd s) x) + L.length + 1 ≤ D) (hy : depF (subF (bnd s) y) + L.length + 1 ≤ D) (hl : Fo.len x ≤ 2) (h : dpL s D L) :
    dpL s D (x.list.zip y.list ++ L) := by
  have hz : ∀ p ∈ x.list.zip y.list, depT (subT (bnd s) p.1) ≤ depF (subF (bnd s) x) ∧ depT (subT (bnd s) p.2) ≤ depF (subF (bnd s) y) := by
    intro p hp
    have h1 := List.of_mem_zip hp
    refine ⟨dep_mem ?_, dep_mem ?_⟩
    · rw [subF_list]; exact List.mem_map_of_mem h1.1
    · rw [subF_list]; exact List.mem_map_of_mem h1.2
  have hlen : (x.list.zip y.list).length ≤ 2 := by
    rw [List.length_zip, Fo.len_list]; omega
  match hh : x.list.zip y.list, hlen with
  | [], _ => exact h
  | [p], _ =>
    rw [hh] at hz
    have := hz p (by simp)
    refine ⟨?_, ?_, h⟩
    · show _ + L.length ≤ D; omega
    · show _ + L.length ≤ D; omega
  | [p, q], _ =>
    rw [hh] at hz
    have h1 := hz p (by simp)
    have h2 := hz q (by simp)
    refine ⟨?_, ?_, ?_, ?_, h⟩
    · show _ + (L.length + 1) ≤ D; omega
    · show _ + (L.length + 1) ≤ D; omega
    · show _ + L.length ≤ D; omega
    · show _ + L.length ≤ D; omega
theorem dpL_add {s s' : Sb} {D d : Nat} {n : Int} {t : Tm} (hr : ∀ u, subT (bnd s') u = subT (bnd [(n, t)]) (subT (bnd s) u)) (hd : depT t ≤ d + 1) : ∀ {L : List (Tm × Tm)}, dpL s D L → dpL s' (D + d) L
  | [], _ => trivial
  | p :: L, h => by
    have ho : ∀ m, depT (bnd [(n, t)] m) ≤ d + 1 := fun m => by
      rw [bnd_one]
      split
      · exact hd
      · simp [vr, depT, depF]
    refine ⟨?_, ?_, dpL_add hr hd h.2.2⟩
    · rw [hr]
      have := depT_sub ho (subT (bnd s) p.1)
      have := h.1
      omega
    · rw [hr]
      have := depT_sub ho (subT (bnd s) p.2)
      have := h.2.1
      omega
end Go.Proofs.Ytiilckjnggeeoad

namespace Go.Proofs.Ytiilckjnggeeoad
open Go.RowKit Go.Deep Go.ChangeShapes Go.WideShapes
theorem stepU_cases {s s' : Sb} {a b : Tm} {L L' : List (Tm × Tm)} (h : stepU s a b L = some (s', L')) :
    ((top s a).1.1 = true ∧ (top s b).1.1 = true ∧ (top s a).1.2 = (top s b).1.2 ∧ s' = s ∧ L' = L) ∨
    (∃ x y, (x = top s a ∧ y = top s b ∨ x = top s b ∧ y = top s a) ∧ x.1.1 = true ∧ addS s x.1.2 (subT (bnd s) y) = some s' ∧ L' = L) ∨
    (¬ (top s a).1.1 = true ∧ ¬ (top s b).1.1 = true ∧ (top s a).1.2 = (top s b).1.2 ∧ Fo.len (top s a).2 = Fo.len (top s b).2 ∧ s' = s ∧ L' = (top s a).2.list.zip (top s b).2.list ++ L) := by
  unfold stepU at h
  split at h
  · rename_i hc
    simp only [Option.some.injEq, Prod.mk.injEq] at h
    exact .inl ⟨hc.1, hc.2.1, hc.2.2, h.1.symm, h.2.symm⟩
  · split at h
    · rename_i hv
      simp only [Option.map_eq_some_iff, Prod.mk.injEq] at h
      obtain ⟨s1, h1, rfl, rfl⟩ := h
      exact .inr (.inl ⟨_, _, .inl ⟨rfl, rfl⟩, hv, h1, rfl⟩)
    · split at h
      · rename_i hv
        simp only [Option.map_eq_some_iff, Prod.mk.injEq] at h
        obtain ⟨s1, h1, rfl, rfl⟩ := h
        exact .inr (.inl ⟨_, _, .inr ⟨rfl, rfl⟩, hv, h1, rfl⟩)
      · split at h
        · rename_i h1 h2 h3
          simp only [Option.some.injEq, Prod.mk.injEq] at h
          exact .inr (.inr ⟨h1, h2, h3.1, h3.2, h.1.symm, h.2.symm⟩)
        · cases h
theorem ui_tail {s : Sb} {p : Tm × Tm} {L : List (Tm × Tm)} (h : UI s (p :: L)) : UI s L :=
  ⟨h.gs, h.vs, fun q hq => h.gL q (by simp [hq]), h.idem, h.five, h.dep.2.2, h.deps⟩
theorem step_add {s s' : Sb} {p : Tm × Tm} {L : List (Tm × Tm)} {x y : Tm} (h : UI s (p :: L)) (hxy : x = top s p.1 ∧ y = top s p.2 ∨ x = top s p.2 ∧ y = top s p.1) (hv : x.1.1 = true) (ha : addS s x.1.2 (subT (bnd s) y) = some s') :
    UI s' L ∧ fre s' < fre s ∧ Ref s s' ∧ bnd s' x.1.2 = subT (bnd s') y := by
  have hp := h.gL p (by simp)
  have hgx : Gd x := by rcases hxy with ⟨rfl, _⟩ | ⟨rfl, _⟩; exact gd_top h.gs hp.1; exact gd_top h.gs hp.2
  have hgy : Gd y := by rcases hxy with ⟨_, rfl⟩ | ⟨_, rfl⟩; exact gd_top h.gs hp.2; exact gd_top h.gs hp.1
  have hfree : look s x.1.2 = none := by rcases hxy with ⟨rfl, _⟩ | ⟨rfl, _⟩ <;> exact top_free h.idem hv
  have hrng : 0 ≤ x.1.2 ∧ x.1.2 ≤ 9 := hgx.few _ (by unfold occT; simp [hv])
  have hdy : depT (subT (bnd s) y) ≤ 12 * 2 ^ s.length := by
    have h1 := h.dep.1
    have h2 := h.dep.2.1
    rcases hxy with ⟨_, rfl⟩ | ⟨_, rfl⟩
    · rw [top_sub h.idem (ui_ok h)]; omega
    · rw [top_sub h.idem (ui_ok h)]; omega
  have hgt := gd_sub h.gs hgy
  obtain ⟨f1, f2, f3, f4, f5⟩ := add_facts ha h.idem hfree hgt.ok (fun m hm => sub_free h.idem hm)
  have hlt := fre_add ha hfree hrng
  have e := (addS_some ha).2
  have hlen : s'.length = s.length + 1 := by rw [e]; simp
  have hpow : 12 * 2 ^ s'.length = 12 * 2 ^ s.length + 12 * 2 ^ s.length := by rw [hlen, Nat.pow_succ]; omega
  have hpos : 0 < 2 ^ s.length := Nat.pow_pos (by decide)
  have hone : ∀ q ∈ [(x.1.2, subT (bnd s) y)], Gd q.2 := fun q hq => by
    simp only [List.mem_singleton] at hq
    subst hq
    exact hgt
  have hd1 : ∀ m, depT (bnd [(x.1.2, subT (bnd s) y)] m) ≤ (12 * 2 ^ s.length - 1) + 1 := fun m => by
    rw [bnd_one]
    split
    · omega
    · simp [vr, depT, depF]
  have hr : ∀ u, subT (bnd s') u = subT (bnd [(x.1.2, subT (bnd s) y)]) (subT (bnd s) u) := fun u => by
    rw [← ref_sub f1, f5 _ (fun m hm => sub_free h.idem hm)]
  refine ⟨⟨?_, ?_, fun q hq => h.gL q (by simp [hq]), f2, by have := h.five; omega, ?_, ?_⟩, hlt, f1, ?_⟩
  · intro q hq
    rw [e, List.mem_append, List.mem_map, List.mem_singleton] at hq
    rcases hq with ⟨q, hq, rfl⟩ | rfl
    · exact gd_sub hone (h.gs q hq)
    · exact hgt
  · intro q hq
    rw [e, List.mem_append, List.mem_map, List.mem_singleton] at hq
    rcases hq with ⟨q, hq, rfl⟩ | rfl
    · exact h.vs q hq
    · exact hrng
  · rw [hpow]
    have := dpL_add (D := 12 * 2 ^ s.length) (d := 12 * 2 ^ s.length - 1) hr (by omega) h.dep.2.2
    have hm : ∀ {D D' : Nat} {M : List (Tm × Tm)}, D ≤ D' → dpL s' D M → dpL s' D' M := by
      intro D D' M hD
      induction M with
      | nil => exact fun _ => trivial
      | cons q M ih => exact fun hM => ⟨Nat.le_trans hM.1 hD, Nat.le_trans hM.2.1 hD, ih hM.2.2⟩
    exact hm (by omega) this
  · intro q hq
    rw [e, List.mem_append, List.mem_map, List.mem_singleton] at hq
    rcases hq with ⟨q, hq, rfl⟩ | rfl
    · have := depT_sub hd1 q.2
      have := h.deps q hq
      simp only
      omega
    · simp only; omega
  · rw [f3, ← ref_sub f1, f4]
def szT (t : Tm) : Nat := tszR t.2
def tot (s : Sb) : List (Tm × Tm) → Nat
  | [] => 0
  | p :: L => szT (subT (bnd s) p.1) + szT (subT (bnd s) p.2) + tot s L
theorem tot_append (s : Sb) : ∀ L M : List (Tm × Tm), tot s (L ++ M) = tot s L + tot s M
  | [], M => by simp [tot]
  | p :: L, M => by simp only [List.cons_append, tot, tot_append s L M]; omega
theorem tot_zip (s : Sb) : ∀ {F G : Fo}, Fo.len F = Fo.len G → tot s (F.list.zip G.list) = Fo.sizesR (subF (bnd s) F) + Fo.sizesR (subF (bnd s) G)
  | .nil, .nil, _ => rfl
  | .nil, .node _ _ _ _ _, h => by simp [Fo.len] at h
  | .node _ _ _ _ _, .nil, h => by simp [Fo.len] at h
  | .node p q x k r, .node p' q' y l r', h => by
    have := tot_zip s (F := r) (G := r') (by simpa [Fo.len] using h)
    rw [subF_node, subF_node]
    simp only [Fo.list, List.zip_cons_cons, tot, this, Fo.sizesR, szT, tszR]
    omega
theorem step_dec {s : Sb} {p : Tm × Tm} {L : List (Tm × Tm)} (h : UI s (p :: L)) (e1 : ¬ (top s p.1).1.1 = true) (e2 : ¬ (top s p.2).1.1 = true) (hl : Fo.len (top s p.1).2 = Fo.len (top s p.2).2) :
    UI s ((top s p.1).2.list.zip (top s p.2).2.list ++ L) ∧ tot s ((top s p.1).2.list.zip (top s p.2).2.list ++ L) < tot s (p :: L) := by
  have hp := h.gL p (by simp)
  have g1 := gd_top h.gs hp.1
  have g2 := gd_top h.gs hp.2
  have t1 := top_sub h.idem (ui_ok h) p.1
  have t2 := top_sub h.idem (ui_ok h) p.2
  have s1 := sym_eq e1
  have s2 := sym_eq e2
  generalize top s p.1 = x at *
  generalize top s p.2 = y at *
  obtain ⟨⟨xv, xn⟩, xk⟩ := x
  obtain ⟨⟨yv, yn⟩, yk⟩ := y
  have hxv : xv = false := by simpa using e1
  have hyv : yv = false := by simpa using e2
  subst hxv hyv
  rw [subT_sym] at t1 t2
  have d1 := h.dep.1
  have d2 := h.dep.2.1
  rw [← t1] at d1
  rw [← t2] at d2
  simp only [depT] at d1 d2
  refine ⟨⟨h.gs, h.vs, ?_, h.idem, h.five, ?_, h.deps⟩, ?_⟩
  · intro q hq
    rw [List.mem_append] at hq
    rcases hq with hq | hq
    · have := List.of_mem_zip hq
      exact ⟨gd_mem g1 rfl this.1, gd_mem g2 rfl this.2⟩
    · exact h.gL q (by simp [hq])
  · exact dpL_zip (x := xk) (y := yk) (by omega) (by omega) g1.two.1 h.dep.2.2
  · rw [tot_append, tot_zip s hl, tot, ← t1, ← t2]
    simp only [szT, tszR]
    omega
theorem step_keeps {s s' : Sb} {p : Tm × Tm} {L L' : List (Tm × Tm)} (h : UI s (p :: L)) (hst : stepU s p.1 p.2 L = some (s', L')) :
    UI s' L' ∧ (fre s' < fre s ∨ (fre s' = fre s ∧ tot s' L' < tot s (p :: L))) := by
  rcases stepU_cases hst with ⟨_, _, _, rfl, rfl⟩ | ⟨x, y, hxy, hv, ha, rfl⟩ | ⟨e1, e2, _, hl, rfl, rfl⟩
  · refine ⟨ui_tail h, .inr ⟨rfl, ?_⟩⟩
    simp only [tot, szT, tszR]; omega
  · have := step_add h hxy hv ha
    exact ⟨this.1, .inl this.2.1⟩
  · have := step_dec h e1 e2 hl
    exact ⟨this.1, .inr ⟨rfl, this.2⟩⟩
theorem runU_end : ∀ (u t : Nat) (s : Sb) (L : List (Tm × Tm)), fre s = u → tot s L = t → UI s L → ∃ n R, runU n s L = some R := by
  intro u
  induction u using Nat.strongRecOn with
  | _ u ihu =>
    intro t
    induction t using Nat.strongRecOn with
    | _ t iht =>
      intro s L hu ht h
      cases L with
      | nil => exact ⟨1, some s, rfl⟩
      | cons p L =>
        cases hst : stepU s p.1 p.2 L with
        | none => exact ⟨1, none, by simp [runU, hst]⟩
        | some q =>
          obtain ⟨s', L'⟩ := q
          obtain ⟨h', hd⟩ := step_keeps h hst
          have : ∃ n R, runU n s' L' = some R := by
            rcases hd with hd | ⟨he, hd⟩
            · exact ihu (fre s') (by omega) (tot s' L') s' L' rfl rfl h'
            · exact iht (tot s' L') (by omega) s' L' (by omega) rfl h'
          obtain ⟨n, R, hn⟩ := this
          exact ⟨n + 1, R, by simp [runU, hst, hn]⟩
theorem runU_sound : ∀ (n : Nat) (s s' : Sb) (L : List (Tm × Tm)), UI s L → runU n s L = some (some s') → UI s' [] ∧ Ref s s' ∧ ∀ p ∈ L, subT (bnd s') p.1 = subT (bnd s') p.2 := by
  intro n
  induction n with
  | zero => intro s s' L _ hr; simp [runU] at hr
  | succ n ih =>
    intro s s' L h hr
    cases L with
    | nil =>
      simp only [runU, Option.some.injEq] at hr
      subst hr
      exact ⟨h, ref_refl h.idem (ui_ok h), fun p hp => by simp at hp⟩
    | cons p L =>
      cases hst : stepU s p.1 p.2 L with
      | none => simp [runU, hst] at hr
      | some q =>
        obtain ⟨s1, L1⟩ := q
        simp only [runU, hst] at hr
        obtain ⟨h1, _⟩ := step_keeps h hst
        obtain ⟨i1, i2, i3⟩ := ih s1 s' L1 h1 hr
        rcases stepU_cases hst with ⟨e1, e2, e3, rfl, rfl⟩ | ⟨x, y, hxy, hv, ha, rfl⟩ | ⟨e1, e2, e3, hl, rfl, rfl⟩
        · refine ⟨i1, i2, fun q hq => ?_⟩
          simp only [List.mem_cons] at hq
          rcases hq with rfl | hq
          · have hp := h.gL q (by simp)
            have g1 := var_eq (gd_top h.gs hp.1).ok e1
            have g2 := var_eq (gd_top h.gs hp.2).ok e2
            have et : top s1 q.1 = top s1 q.2 := by rw [g1, g2, e3]
            rw [← ref_sub i2 q.1, ← ref_sub i2 q.2, ← top_sub h.idem (ui_ok h) q.1, ← top_sub h.idem (ui_ok h) q.2, et]
          · exact i3 q hq
        · obtain ⟨_, _, f1, f2⟩ := step_add h hxy hv ha
          have hsame : subT (bnd s1) (top s p.1) = subT (bnd s1) (top s p.2) := by
            have hx : subT (bnd s1) x = subT (bnd s1) y := by
              rw [← f2]
              unfold subT
              rw [if_pos hv]
            rcases hxy with ⟨rfl, rfl⟩ | ⟨rfl, rfl⟩
            · exact hx
            · exact hx.symm
          refine ⟨i1, ref_trans f1 i2, fun q hq => ?_⟩
          simp only [List.mem_cons] at hq
          rcases hq with rfl | hq
          · have k : ∀ t, subT (bnd s') t = subT (bnd s') (subT (bnd s1) (top s t)) := fun t => by
              rw [ref_sub i2, ← ref_sub (ref_trans f1 i2) t, ← top_sub h.idem (ui_ok h) t, ref_sub (ref_trans f1 i2)]
            rw [k q.1, k q.2, hsame]
          · exact i3 q hq
        · refine ⟨i1, i2, fun q hq => ?_⟩
          simp only [List.mem_cons] at hq
          rcases hq with rfl | hq
          · have hz := subF_of_zip (f := bnd s') (bnd_ok (ui_ok i1)) hl (fun r hr => i3 r (by simp [hr]))
            have k : ∀ t, subT (bnd s') t = subT (bnd s') (top s1 t) := fun t => by
              rw [← ref_sub i2 t, ← top_sub h.idem (ui_ok h) t, ref_sub i2]
            rw [k q.1, k q.2, sym_eq e1, sym_eq e2, subT_sym, subT_sym, hz, e3]
          · exact i3 q (by simp [hq])
end Go.Proofs.Ytiilckjnggeeoad

namespace Go.Proofs.Ytiilckjnggeeoad
open Go.RowKit Go.Deep Go.ChangeShapes Go.WideShapes
attribute [local go_sem ↓] Go.wp_at_zero Go.wp_at_succ
theorem box2_cells {w wr : World} {x y z x' y' z' : Value} {T T' : TypeId} (h : Below (w.heap.size + 2) ((w.alloc (.cells #[x, y, z] T)).alloc (.cells #[x', y', z'] T')) wr) :
    (wr.cell? ⟨w.heap.size, 0, none⟩ = some x ∧ wr.cell? ⟨w.heap.size, 1, none⟩ = some y ∧ wr.cell? ⟨w.heap.size, 2, none⟩ = some z) ∧
    (wr.cell? ⟨w.heap.size + 1, 0, none⟩ = some x' ∧ wr.cell? ⟨w.heap.size + 1, 1, none⟩ = some y' ∧ wr.cell? ⟨w.heap.size + 1, 2, none⟩ = some z') ∧ Below w.heap.size w wr ∧ w.heap.size + 1 < wr.heap.size := by
  have h2 : Below ((w.alloc (.cells #[x, y, z] T)).heap.size + 1) ((w.alloc (.cells #[x, y, z] T)).alloc (.cells #[x', y', z'] T')) wr := by simpa using h
  obtain ⟨a0, a1, a2, a3, a4⟩ := box_cells h2
  have a3' : Below (w.heap.size + 1) (w.alloc (.cells #[x, y, z] T)) wr := by simpa using a3
  obtain ⟨c0, c1, c2, c3, c4⟩ := box_cells a3'
  simp only [World.size_alloc] at a0 a1 a2 a4
  exact ⟨⟨c0, c1, c2⟩, ⟨a0, a1, a2⟩, c3, by simpa using a4⟩
def SameRSaid (x : Bool × Int) (k : Fo) : Prop := ∀ (y : Bool × Int) (l : Fo) (a c : Value) (w : World), SIn w k a → SIn w l c →
    Calls Try.prog 12 #[.agg #[.bool x.1, .int .i64 x.2, a], .agg #[.bool y.1, .int .i64 y.2, c]] w fun e w' => e = .returned (.bool (sameT x k y l)) ∧ Below w.heap.size w w'
set_option maxRecDepth 100000 in
set_option maxHeartbeats 1000000 in
theorem sameR_any (x : Bool × Int) (k : Fo) : SameRSaid x k := by
  refine Fo.ind1 (p := SameRSaid) ?_ x k
  clear x k
  intro x k ih y l a c w hS1 hS2
  obtain ⟨xv, xn⟩ := x
  obtain ⟨yv, yn⟩ := y
  have HS1 := hide hS1
  have HS2 := hide hS2
  obtain ⟨a1, c1, b1, o1, rfl, had1, hlc1, hcm1, hF1⟩ := hS1
  obtain ⟨a2, c2, b2, o2, rfl, had2, hlc2, hcm2, hF2⟩ := hS2
  unfold maxLen at hcm1 hcm2
  have HI := hide ih
  have Hl1 := hide (Fo.len_list k)
  have Hl2 := hide (Fo.len_list l)
  have HF1 := hide hF1
  have HF2 := hide hF2
  clear ih hF1 hF2
  by_cases hv : xv = yv
  · by_cases hn : xn = yn
    · by_cases hll : Fo.len k = Fo.len l
      · subst hv hn
        have Hf : Hid (sameT (xv, xn) k (xv, xn) l = sameF k l) := by simp [Hid, sameT]
        have hllb : ((Fo.len k : Int) != (Fo.len l : Int)) = false := by simp [hll]
        have Hll := hide hll
        have hll1 : Fo.len l ≤ Fo.len k := by omega
        have hll2 : Fo.len k ≤ Fo.len l := by omega
        clear hll
        go_enter Try.func12, Try.ntmps12
        go_wp2_with fail
        go_loopw [30] (fun i wr => ∃ j : Nat, j ≤ Fo.len k ∧ i = .int .i64 j ∧ eqOk k l j ∧ Below (w.heap.size + 2) ((w.alloc (.cells #[.bool xv, .int .i64 xn, .slice a1 (Fo.len k) c1] 33)).alloc (.cells #[.bool xv, .int .i64 xn, .slice a2 (Fo.len l) c2] 33)) wr) (fun i _ => Fo.len k - (intOf i).toNat)
        case atStart => exact ⟨0, Nat.zero_le _, rfl, fun i hi => by omega, Below.refl _ _⟩
        case round =>
          obtain ⟨j, hj, rfl, hok, hBx⟩ := hrel
          obtain ⟨⟨-, -, t2⟩, ⟨-, -, u2⟩, hBr, hlt0⟩ := box2_cells hBx
          have Hok := hide hok
          have HBx := hide hBx
          clear hok hBx
          by_cases hlt : j < Fo.len k
          · have hlt' : (j : Int) < (Fo.len k : Int) := by omega
            have hlt2 : (j : Int) < (Fo.len l : Int) := by omega
            have hj0 : (0 : Int) ≤ (j : Int) := by omega
            obtain ⟨⟨⟨yv, yn⟩, yk⟩, hy⟩ : ∃ y, k.list[j]? = some y := ⟨k.list[j]'(by rw [Hl1.out]; exact hlt), by simp⟩
            obtain ⟨⟨⟨zv, zn⟩, zk⟩, hz⟩ : ∃ y, l.list[j]? = some y := ⟨l.list[j]'(by rw [Hl2.out]; omega), by simp⟩
            obtain ⟨p0, p1, yv', p2, hSy⟩ := (HF1.out.below hBr).at hy
            obtain ⟨q0, q1, zv', q2, hSz⟩ := (HF2.out.below hBr).at hz
            have ha1 : a1 = some ⟨b1, o1, none⟩ := had1 (by omega)
            have ha2 : a2 = some ⟨b2, o2, none⟩ := had2 (by omega)
            subst ha1 ha2
            have HSy := hide hSy
            have HSz := hide hSz
            obtain ⟨ya, yc, yb, yo, rfl, -, -, -, -⟩ := hSy
            obtain ⟨za, zc, zb, zo, rfl, -, -, -, -⟩ := hSz
            have Hy := hide hy
            have Hz := hide hz
            clear hy hz had1 had2
            go_upto_region 6 with fail
            go_cut [44] (fun s44 wx => s44 = .bool (!(sameT (yv, yn) yk (zv, zn) zk)) ∧ Below wr.heap.size wr wx)
            case first =>
              go_region_held3 (fun w' => w'.cell? ⟨w.heap.size, 2, none⟩ = some (.slice (some ⟨b1, o1, none⟩) (Fo.len k) c1) ∧ w'.cell? ⟨w.heap.size + 1, 2, none⟩ = some (.slice (some ⟨b2, o2, none⟩) (Fo.len l) c2) ∧ w'.cell? ⟨b1, o1 + j * 3, none⟩ = some (.bool yv) ∧ w'.cell? ⟨b1, o1 + j * 3 + 1, none⟩ = some (.int .i64 yn) ∧ w'.cell? ⟨b1, o1 + j * 3 + 2, none⟩ = some (.slice ya (Fo.len yk) yc)
                  ∧ w'.cell? ⟨b2, o2 + j * 3, none⟩ = some (.bool zv) ∧ w'.cell? ⟨b2, o2 + j * 3 + 1, none⟩ = some (.int .i64 zn) ∧ w'.cell? ⟨b2, o2 + j * 3 + 2, none⟩ = some (.slice za (Fo.len zk) zc))
                (first
                  | go_keep
                  | exact ⟨grow_cell hb2 _ _ t2, grow_cell hb2 _ _ u2, grow_cell hb2 _ _ p0, grow_cell hb2 _ _ p1, grow_cell hb2 _ _ p2, grow_cell hb2 _ _ q0, grow_cell hb2 _ _ q1, grow_cell hb2 _ _ q2⟩)
                (first
                  | (go_at_call 12; refine (HI.out ((yv, yn), yk) (List.mem_of_getElem? Hy.out) (zv, zn) zk _ _ _ ?_ ?_).mono ?_; (exact HSy.out.drew); (exact HSz.out.drew); rintro e w2 ⟨rfl, hb2⟩))
              go_wp2_with fail
              go_meet
              case rel => exact ⟨rfl, ((Below.refl _ _).drew).trans hb2⟩
            case rest =>
              obtain ⟨rfl, hb2⟩ := hcut
              generalize wc = w2 at *
              have HB2 := hide (HBx.out.trans (hb2.mono (by omega)))
              cases he : sameT (yv, yn) yk (zv, zn) zk
              · have Hf2 : Hid (sameF k l = false) := sameF_bad Hy.out Hz.out he
                have hB2 := below_step hBr hb2
                clear he
                go_wp2_with fail
                go_ret
                exact ⟨by rw [Hf.out, Hf2.out]; rfl, hB2⟩
              · have Hok2 := hide (eqOk_succ Hok.out Hy.out Hz.out he)
                clear he
                go_wp2_with fail
                go_roundw
                case rel => exact ⟨j + 1, by omega, by go_num, Hok2.out, HB2.out⟩
                case measure => simp [intOf]; omega
          · have Hf2 : Hid (sameF k l = true) := by
              have e : j = Fo.len k := by omega
              have := Hok.out
              rw [e] at this
              exact sameF_end Hll.out this
            go_wp2_with fail
            go_ret
            exact ⟨by rw [Hf.out, Hf2.out]; rfl, hBr⟩
      · have hllb : ((Fo.len k : Int) != (Fo.len l : Int)) = true := by simp; omega
        have Hf : Hid (sameT (xv, xn) k (yv, yn) l = false) := by
          have : sameF k l = false := by rw [Bool.eq_false_iff]; exact fun h => hll (sameF_len h)
          simp [Hid, sameT, this]
        subst hv hn
        go_enter Try.func12, Try.ntmps12
        go_wp2_with fail
        go_ret
        exact ⟨by rw [Hf.out]; rfl, (below_alloc _ _).alloc (by simp) _⟩
    · have Hf : Hid (sameT (xv, xn) k (yv, yn) l = false) := by simp [Hid, sameT, hn]
      have hnb : (xn != yn) = true := by simpa using hn
      subst hv
      clear hn
      go_enter Try.func12, Try.ntmps12
      go_wp2_with fail
      go_ret
      exact ⟨by rw [Hf.out]; rfl, (below_alloc _ _).alloc (by simp) _⟩
  · have Hf : Hid (sameT (xv, xn) k (yv, yn) l = false) := by simp [Hid, sameT, hv]
    have e : yv = !xv := by cases xv <;> cases yv <;> simp_all
    subst e
    clear hv
    cases xv
    · go_enter Try.func12, Try.ntmps12
      go_wp2_with fail
      go_ret
      exact ⟨by rw [Hf.out]; rfl, (below_alloc _ _).alloc (by simp) _⟩
    · go_enter Try.func12, Try.ntmps12
      go_wp2_with fail
      go_ret
      exact ⟨by rw [Hf.out]; rfl, (below_alloc _ _).alloc (by simp) _⟩
end Go.Proofs.Ytiilckjnggeeoad

namespace Go.Proofs.Ytiilckjnggeeoad
open Go.RowKit Go.Deep Go.ChangeShapes Go.WideShapes
attribute [local go_sem ↓] Go.wp_at_zero Go.wp_at_succ
theorem BIn.node {X : Nat → Prop} {w : World} {p q : Nat} {x : Bool × Int} {k r : Fo} {b o : Nat} (h : BIn X w (.node p q x k r) b o) :
    w.cell? ⟨b, o, none⟩ = some (.bool x.1) ∧ w.cell? ⟨b, o + 1, none⟩ = some (.int .i64 x.2) ∧ (∃ v, w.cell? ⟨b, o + 2, none⟩ = some v ∧ SB X w k v) ∧ BIn X w r b (o + 3) := by
  obtain ⟨h0, h1, ⟨a, c, b', o', h2, h3, h4, h5, h6⟩, h7⟩ := h
  exact ⟨h0, h1, ⟨_, h2, a, c, b', o', rfl, h3, h4, h5, h6⟩, h7⟩
theorem BIn.at {X : Nat → Prop} {w : World} : ∀ {F : Fo} {b o i : Nat} {x : Bool × Int} {k : Fo}, BIn X w F b o → F.list[i]? = some (x, k) →
    w.cell? ⟨b, o + i * 3, none⟩ = some (.bool x.1) ∧ w.cell? ⟨b, o + i * 3 + 1, none⟩ = some (.int .i64 x.2) ∧ ∃ v, w.cell? ⟨b, o + i * 3 + 2, none⟩ = some v ∧ SB X w k v
  | .nil, _, _, _, _, _, _, h => by simp [Fo.list] at h
  | .node _ _ y k' r, b, o, 0, x, k, hF, h => by
    simp only [Fo.list, List.getElem?_cons_zero, Option.some.injEq, Prod.mk.injEq] at h
    obtain ⟨rfl, rfl⟩ := h
    obtain ⟨h0, h1, h2, _⟩ := hF.node
    simpa using ⟨h0, h1, h2⟩
  | .node _ _ y k' r, b, o, i + 1, x, k, hF, h => by
    simp only [Fo.list, List.getElem?_cons_succ] at h
    obtain ⟨_, _, _, h3⟩ := hF.node
    have := BIn.at h3 h
    have e : o + 3 + i * 3 = o + (i + 1) * 3 := by omega
    rwa [e] at this
theorem FIn.toB {w : World} : ∀ {F : Fo} {b o : Nat}, FIn w F b o → BIn (fun q => q < w.heap.size) w F b o
  | .nil, _, _, _ => trivial
  | .node _ _ x k r, b, o, ⟨h0, h1, ⟨a, c, b', o', h2, h3, h4, h5, h6⟩, h7⟩ => by
    refine ⟨h0, h1, ⟨a, c, b', o', h2, fun h => ⟨h3 h, ?_⟩, h4, h5, h6.toB⟩, h7.toB⟩
    cases k with
    | nil => simp [Fo.len] at h
    | node _ _ _ _ _ => exact World.block_lt_of_cell? _ _ h6.1
theorem SIn.toB {w : World} {k : Fo} {v : Value} (h : SIn w k v) : SB (fun q => q < w.heap.size) w k v := by
  obtain ⟨a, c, b, o, rfl, h3, h4, h5, h6⟩ := h
  refine ⟨a, c, b, o, rfl, fun h => ⟨h3 h, ?_⟩, h4, h5, h6.toB⟩
  cases k with
  | nil => simp [Fo.len] at h
  | node _ _ _ _ _ => exact World.block_lt_of_cell? _ _ h6.1
theorem SB.grow {X : Nat → Prop} {w w' : World} {k : Fo} {v : Value} (h : SB X w k v) (hX : ∀ q, X q → q < w.heap.size) (hb : Below w.heap.size w w') : SB X w' k v :=
  h.frame (fun _ h => h) (fun q i hq => hb.cell (p := ⟨q, i, none⟩) (hX q hq))
end Go.Proofs.Ytiilckjnggeeoad
