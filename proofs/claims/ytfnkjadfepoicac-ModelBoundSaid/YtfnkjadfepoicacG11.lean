/- What a term is where each variable is something else: bind's replace with variable; own. -/
import Derived.Test.YtfnkjadfepoicacG10
namespace Go.Proofs.Ytfnkjadfepoicac
open Go.RowKit Go.Deep Go.ChangeShapes Go.WideShapes
attribute [local go_sem ↓] Go.wp_at_zero Go.wp_at_succ

def InvV (_ : World) : Prop := True
theorem invV_below {w w' : World} (_ : InvV w) (_ : Below w.heap.size w w') : InvV w' := trivial

end Go.Proofs.Ytfnkjadfepoicac

/- Bindings that lie in memory; which pair is a variable's first: bind's find. -/
namespace Go.Proofs.Ytfnkjadfepoicac
open Go.RowKit Go.Deep Go.ChangeShapes Go.WideShapes
attribute [local go_sem ↓] Go.wp_at_zero Go.wp_at_succ

/-- Bindings lie in w, the first pair at (b, o), four cells each. -/
def PIn (w : World) : Sb → Nat → Nat → Prop
  | [], _, _ => True
  | p :: s, b, o => w.cell? ⟨b, o, none⟩ = some (.int .i64 p.1) ∧ w.cell? ⟨b, o + 1, none⟩ = some (.bool p.2.1.1) ∧ w.cell? ⟨b, o + 2, none⟩ = some (.int .i64 p.2.1.2) ∧
      (∃ v, w.cell? ⟨b, o + 3, none⟩ = some v ∧ SIn w p.2.2 v) ∧ PIn w s b (o + 4)
def SubIn (w : World) (s : Sb) (v : Value) : Prop :=
  ∃ (a : Option Addr) (c b o : Nat), v = .slice a s.length c ∧ (0 < s.length → a = some ⟨b, o, none⟩) ∧ s.length ≤ c ∧ c ≤ maxLen ∧ PIn w s b o

theorem PIn.later {w w' : World} (hc : ∀ a v, w.cell? a = some v → w'.cell? a = some v) : ∀ {s : Sb} {b o : Nat}, PIn w s b o → PIn w' s b o
  | [], _, _, _ => trivial
  | _ :: _, _, _, ⟨h0, h1, h2, ⟨v, h3, h4⟩, h5⟩ => ⟨hc _ _ h0, hc _ _ h1, hc _ _ h2, ⟨v, hc _ _ h3, h4.later hc⟩, PIn.later hc h5⟩
theorem PIn.below {w w' : World} (hb : Below w.heap.size w w') {s : Sb} {b o : Nat} (h : PIn w s b o) : PIn w' s b o := h.later (grow_cell hb)
theorem SubIn.later {w w' : World} (hc : ∀ a v, w.cell? a = some v → w'.cell? a = some v) {s : Sb} {v : Value} (h : SubIn w s v) : SubIn w' s v := by
  obtain ⟨a, c, b, o, h1, h2, h3, h4, h5⟩ := h
  exact ⟨a, c, b, o, h1, h2, h3, h4, h5.later hc⟩
theorem SubIn.below {w w' : World} (hb : Below w.heap.size w w') {s : Sb} {v : Value} (h : SubIn w s v) : SubIn w' s v := h.later (grow_cell hb)
theorem SubIn.alloc {w : World} {s : Sb} {v : Value} (h : SubIn w s v) (ob : Obj) : SubIn (w.alloc ob) s v := h.below (below_alloc w ob)
theorem SubIn.drew {w : World} {s : Sb} {v : Value} (h : SubIn w s v) : SubIn w.drew s v := h.below (Below.refl _ _).drew
theorem SubIn.nil (w : World) : SubIn w [] (.slice none 0 0) := ⟨none, 0, 0, 0, rfl, fun h => by simp at h, Nat.le_refl _, Nat.zero_le _, trivial⟩
theorem slice_of_sub {w : World} {s : Sb} {v : Value} (h : SubIn w s v) : ∃ z1 z3, v = .slice z1 s.length z3 := by
  obtain ⟨a, c, _, _, rfl, _⟩ := h
  exact ⟨a, c, rfl⟩
theorem PIn.at {w : World} : ∀ {s : Sb} {b o i : Nat} {p : Int × Tm}, PIn w s b o → s[i]? = some p →
    w.cell? ⟨b, o + i * 4, none⟩ = some (.int .i64 p.1) ∧ w.cell? ⟨b, o + i * 4 + 1, none⟩ = some (.bool p.2.1.1) ∧ w.cell? ⟨b, o + i * 4 + 2, none⟩ = some (.int .i64 p.2.1.2) ∧ ∃ v, w.cell? ⟨b, o + i * 4 + 3, none⟩ = some v ∧ SIn w p.2.2 v
  | [], _, _, _, _, _, h => by simp at h
  | q :: s, b, o, 0, p, hP, h => by
    simp only [List.getElem?_cons_zero, Option.some.injEq] at h
    subst h
    obtain ⟨h0, h1, h2, h3, _⟩ := hP
    simpa using ⟨h0, h1, h2, h3⟩
  | q :: s, b, o, i + 1, p, hP, h => by
    have := PIn.at hP.2.2.2.2 (i := i) (by simpa using h)
    have e : o + 4 + i * 4 = o + (i + 1) * 4 := by omega
    rwa [e] at this

theorem look_first {n : Int} {t : Tm} : ∀ {s : Sb} {j : Nat}, (∀ q p, q < j → s[q]? = some p → p.1 ≠ n) → s[j]? = some (n, t) → look s n = some t
  | [], _, _, h => by simp at h
  | p :: s, 0, _, h => by
    simp only [List.getElem?_cons_zero, Option.some.injEq] at h
    subst h
    simp [look]
  | p :: s, j + 1, hq, h => by
    have h0 := hq 0 p (by omega) (by simp)
    rw [look, if_neg h0]
    exact look_first (j := j) (fun q r hqr hr => hq (q + 1) r (by omega) (by simpa using hr)) (by simpa using h)
theorem look_all {n : Int} {s : Sb} (h : ∀ q p, q < s.length → s[q]? = some p → p.1 ≠ n) : look s n = none := by
  refine look_none fun p hp => ?_
  obtain ⟨i, hi, e⟩ := List.mem_iff_getElem.1 hp
  exact h i p hi (by rw [List.getElem?_eq_getElem hi, e])

/-- Which pair is the first one of a variable. -/
def Found (s : Sb) (n i : Int) : Prop := (i = -1 ∧ look s n = none) ∨ ∃ (j : Nat) (t : Tm), i = j ∧ s[j]? = some (n, t) ∧ look s n = some t

end Go.Proofs.Ytfnkjadfepoicac

/- What a term is where each variable is something else: bind's replace with what Apply binds a variable to; Apply. -/
namespace Go.Proofs.Ytfnkjadfepoicac
open Go.RowKit Go.Deep Go.ChangeShapes Go.WideShapes
attribute [local go_sem ↓] Go.wp_at_zero Go.wp_at_succ

def InvA (s : Sb) (vs : Value) (sb : Nat) (w : World) : Prop := w.cell? ⟨sb, 0, none⟩ = some vs ∧ SubIn w s vs ∧ ∀ p ∈ s, narT p.2 ∧ okT p.2
theorem invA_below (s : Sb) (vs : Value) (sb : Nat) {w w' : World} (h : InvA s vs sb w) (hb : Below w.heap.size w w') : InvA s vs sb w' := ⟨grow_cell hb _ _ h.1, h.2.1.below hb, h.2.2⟩

end Go.Proofs.Ytfnkjadfepoicac

/- What a term is where each variable is something else: bind's replace with what Rename makes of a variable; Rename. -/
namespace Go.Proofs.Ytfnkjadfepoicac
open Go.RowKit Go.Deep Go.ChangeShapes Go.WideShapes
attribute [local go_sem ↓] Go.wp_at_zero Go.wp_at_succ

def ren (d n : Int) : Tm := vr (wrap64 (n + d))
def InvR (d : Int) (bb : Nat) (w : World) : Prop := w.cell? ⟨bb, 0, none⟩ = some (.int .i64 d)
theorem invR_below (d : Int) (bb : Nat) {w w' : World} (h : InvR d bb w) (hb : Below w.heap.size w w') : InvR d bb w' := grow_cell hb _ _ h

end Go.Proofs.Ytfnkjadfepoicac
