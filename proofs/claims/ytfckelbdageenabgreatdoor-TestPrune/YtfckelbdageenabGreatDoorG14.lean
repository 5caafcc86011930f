/- CMw CT -/
import Derived.Test.YtfckelbdageenabGreatDoorG13
import Derived.Lib.Split
import Derived.Lib.Join
namespace Go.Proofs.YtfckelbdageenabGreatDoor
open Go.RowKit Go.Deep Go.ChangeShapes Go.WideShapes
attribute [local go_sem ↓] Go.wp_at_zero Go.wp_at_succ

theorem tri_cell {w : World} {m : Nat} {z : Int} (hm : m < 3) : (w.alloc (.cells #[.int .i64 1, .int .i64 z, .int .i64 (z * z)] 3)).cell? ⟨w.heap.size, m, none⟩ = some (.int .i64 (mlen z m)) := by
  rcases (by omega : m = 0 ∨ m = 1 ∨ m = 2) with rfl | rfl | rfl <;> exact (new_cell rfl).trans (by simp [mlen])
structure R6m (W : World) (B tk tq j m : Nat) (z : Int) (TV PV : Value) (q : Nat) (D : Nat → Bool) (w : World) (s32 s33 s34 s35 s36 s37 s38 s39 s40 s41 s42 s43 s44 s45 s46 s47 s48 s49 : Value) : Prop where
  hb : Below W.heap.size W w
  h0 : D 0 = true → s32 = .pointer (some ⟨B, 1, none⟩)
  h1 : D 1 = true → s33 = TV
  h2 : D 2 = true → s34 = .int .i64 j
  h3 : D 3 = true → s35 = .pointer (some ⟨tk, tq + j, none⟩)
  h4 : D 4 = true → s36 = PV
  h5 : D 5 = true → s37 = .int .i64 q
  h6 : D 6 = true → s38 = .pointer (some ⟨B, 0, none⟩)
  h7 : D 7 = true → s39 = .int .i64 z
  h8 : D 8 = true → s40 = .pointer (some ⟨B, 0, none⟩)
  h9 : D 9 = true → s41 = .int .i64 z
  h10 : D 10 = true → s42 = .pointer (some ⟨B, 0, none⟩)
  h11 : D 11 = true → s43 = .int .i64 z
  h12 : D 12 = true → s44 = .int .i64 (z * z)
  h13 : D 13 = true → ∃ g, s45 = .slice (some ⟨g, 0, none⟩) 3 3 ∧ w.cell? ⟨g, m, none⟩ = some (.int .i64 (mlen z m))
  h14 : D 14 = true → s46 = .int .i64 m
  h15 : D 15 = true → ∃ g, s47 = .pointer (some ⟨g, m, none⟩) ∧ w.cell? ⟨g, m, none⟩ = some (.int .i64 (mlen z m))
  h16 : D 16 = true → s48 = .int .i64 (mlen z m)
  h17 : D 17 = true → s49 = .bool ((q : Int) != mlen z m)
section
variable {W : World} {B tk tq j m : Nat} {z : Int} {TV PV : Value} {q : Nat} {D : Nat → Bool} {w w' : World} {s32 s33 s34 s35 s36 s37 s38 s39 s40 s41 s42 s43 s44 s45 s46 s47 s48 s49 : Value}
theorem R6m.at0 (h : R6m W B tk tq j m z TV PV q D w s32 s33 s34 s35 s36 s37 s38 s39 s40 s41 s42 s43 s44 s45 s46 s47 s48 s49) : R6m W B tk tq j m z TV PV q (fun j => j == 0 || D j) w (.pointer (some ⟨B, 1, none⟩)) s33 s34 s35 s36 s37 s38 s39 s40 s41 s42 s43 s44 s45 s46 s47 s48 s49 :=
  ⟨h.hb, fun _ => rfl, h.h1, h.h2, h.h3, h.h4, h.h5, h.h6, h.h7, h.h8, h.h9, h.h10, h.h11, h.h12, h.h13, h.h14, h.h15, h.h16, h.h17⟩
theorem R6m.at1 (h : R6m W B tk tq j m z TV PV q D w s32 s33 s34 s35 s36 s37 s38 s39 s40 s41 s42 s43 s44 s45 s46 s47 s48 s49) : R6m W B tk tq j m z TV PV q (fun j => j == 1 || D j) w s32 (TV) s34 s35 s36 s37 s38 s39 s40 s41 s42 s43 s44 s45 s46 s47 s48 s49 :=
  ⟨h.hb, h.h0, fun _ => rfl, h.h2, h.h3, h.h4, h.h5, h.h6, h.h7, h.h8, h.h9, h.h10, h.h11, h.h12, h.h13, h.h14, h.h15, h.h16, h.h17⟩
theorem R6m.at2 (h : R6m W B tk tq j m z TV PV q D w s32 s33 s34 s35 s36 s37 s38 s39 s40 s41 s42 s43 s44 s45 s46 s47 s48 s49) : R6m W B tk tq j m z TV PV q (fun j => j == 2 || D j) w s32 s33 (.int .i64 j) s35 s36 s37 s38 s39 s40 s41 s42 s43 s44 s45 s46 s47 s48 s49 :=
  ⟨h.hb, h.h0, h.h1, fun _ => rfl, h.h3, h.h4, h.h5, h.h6, h.h7, h.h8, h.h9, h.h10, h.h11, h.h12, h.h13, h.h14, h.h15, h.h16, h.h17⟩
theorem R6m.at3 (h : R6m W B tk tq j m z TV PV q D w s32 s33 s34 s35 s36 s37 s38 s39 s40 s41 s42 s43 s44 s45 s46 s47 s48 s49) : R6m W B tk tq j m z TV PV q (fun j => j == 3 || D j) w s32 s33 s34 (.pointer (some ⟨tk, tq + j, none⟩)) s36 s37 s38 s39 s40 s41 s42 s43 s44 s45 s46 s47 s48 s49 :=
  ⟨h.hb, h.h0, h.h1, h.h2, fun _ => rfl, h.h4, h.h5, h.h6, h.h7, h.h8, h.h9, h.h10, h.h11, h.h12, h.h13, h.h14, h.h15, h.h16, h.h17⟩
theorem R6m.at4 (h : R6m W B tk tq j m z TV PV q D w s32 s33 s34 s35 s36 s37 s38 s39 s40 s41 s42 s43 s44 s45 s46 s47 s48 s49) : R6m W B tk tq j m z TV PV q (fun j => j == 4 || D j) w s32 s33 s34 s35 (PV) s37 s38 s39 s40 s41 s42 s43 s44 s45 s46 s47 s48 s49 :=
  ⟨h.hb, h.h0, h.h1, h.h2, h.h3, fun _ => rfl, h.h5, h.h6, h.h7, h.h8, h.h9, h.h10, h.h11, h.h12, h.h13, h.h14, h.h15, h.h16, h.h17⟩
theorem R6m.at5 (h : R6m W B tk tq j m z TV PV q D w s32 s33 s34 s35 s36 s37 s38 s39 s40 s41 s42 s43 s44 s45 s46 s47 s48 s49) : R6m W B tk tq j m z TV PV q (fun j => j == 5 || D j) w s32 s33 s34 s35 s36 (.int .i64 q) s38 s39 s40 s41 s42 s43 s44 s45 s46 s47 s48 s49 :=
  ⟨h.hb, h.h0, h.h1, h.h2, h.h3, h.h4, fun _ => rfl, h.h6, h.h7, h.h8, h.h9, h.h10, h.h11, h.h12, h.h13, h.h14, h.h15, h.h16, h.h17⟩
theorem R6m.at6 (h : R6m W B tk tq j m z TV PV q D w s32 s33 s34 s35 s36 s37 s38 s39 s40 s41 s42 s43 s44 s45 s46 s47 s48 s49) : R6m W B tk tq j m z TV PV q (fun j => j == 6 || D j) w s32 s33 s34 s35 s36 s37 (.pointer (some ⟨B, 0, none⟩)) s39 s40 s41 s42 s43 s44 s45 s46 s47 s48 s49 :=
  ⟨h.hb, h.h0, h.h1, h.h2, h.h3, h.h4, h.h5, fun _ => rfl, h.h7, h.h8, h.h9, h.h10, h.h11, h.h12, h.h13, h.h14, h.h15, h.h16, h.h17⟩
theorem R6m.at7 (h : R6m W B tk tq j m z TV PV q D w s32 s33 s34 s35 s36 s37 s38 s39 s40 s41 s42 s43 s44 s45 s46 s47 s48 s49) : R6m W B tk tq j m z TV PV q (fun j => j == 7 || D j) w s32 s33 s34 s35 s36 s37 s38 (.int .i64 z) s40 s41 s42 s43 s44 s45 s46 s47 s48 s49 :=
  ⟨h.hb, h.h0, h.h1, h.h2, h.h3, h.h4, h.h5, h.h6, fun _ => rfl, h.h8, h.h9, h.h10, h.h11, h.h12, h.h13, h.h14, h.h15, h.h16, h.h17⟩
theorem R6m.at8 (h : R6m W B tk tq j m z TV PV q D w s32 s33 s34 s35 s36 s37 s38 s39 s40 s41 s42 s43 s44 s45 s46 s47 s48 s49) : R6m W B tk tq j m z TV PV q (fun j => j == 8 || D j) w s32 s33 s34 s35 s36 s37 s38 s39 (.pointer (some ⟨B, 0, none⟩)) s41 s42 s43 s44 s45 s46 s47 s48 s49 :=
  ⟨h.hb, h.h0, h.h1, h.h2, h.h3, h.h4, h.h5, h.h6, h.h7, fun _ => rfl, h.h9, h.h10, h.h11, h.h12, h.h13, h.h14, h.h15, h.h16, h.h17⟩
theorem R6m.at9 (h : R6m W B tk tq j m z TV PV q D w s32 s33 s34 s35 s36 s37 s38 s39 s40 s41 s42 s43 s44 s45 s46 s47 s48 s49) : R6m W B tk tq j m z TV PV q (fun j => j == 9 || D j) w s32 s33 s34 s35 s36 s37 s38 s39 s40 (.int .i64 z) s42 s43 s44 s45 s46 s47 s48 s49 :=
  ⟨h.hb, h.h0, h.h1, h.h2, h.h3, h.h4, h.h5, h.h6, h.h7, h.h8, fun _ => rfl, h.h10, h.h11, h.h12, h.h13, h.h14, h.h15, h.h16, h.h17⟩
theorem R6m.at10 (h : R6m W B tk tq j m z TV PV q D w s32 s33 s34 s35 s36 s37 s38 s39 s40 s41 s42 s43 s44 s45 s46 s47 s48 s49) : R6m W B tk tq j m z TV PV q (fun j => j == 10 || D j) w s32 s33 s34 s35 s36 s37 s38 s39 s40 s41 (.pointer (some ⟨B, 0, none⟩)) s43 s44 s45 s46 s47 s48 s49 :=
  ⟨h.hb, h.h0, h.h1, h.h2, h.h3, h.h4, h.h5, h.h6, h.h7, h.h8, h.h9, fun _ => rfl, h.h11, h.h12, h.h13, h.h14, h.h15, h.h16, h.h17⟩
theorem R6m.at11 (h : R6m W B tk tq j m z TV PV q D w s32 s33 s34 s35 s36 s37 s38 s39 s40 s41 s42 s43 s44 s45 s46 s47 s48 s49) : R6m W B tk tq j m z TV PV q (fun j => j == 11 || D j) w s32 s33 s34 s35 s36 s37 s38 s39 s40 s41 s42 (.int .i64 z) s44 s45 s46 s47 s48 s49 :=
  ⟨h.hb, h.h0, h.h1, h.h2, h.h3, h.h4, h.h5, h.h6, h.h7, h.h8, h.h9, h.h10, fun _ => rfl, h.h12, h.h13, h.h14, h.h15, h.h16, h.h17⟩
theorem R6m.at12 (h : R6m W B tk tq j m z TV PV q D w s32 s33 s34 s35 s36 s37 s38 s39 s40 s41 s42 s43 s44 s45 s46 s47 s48 s49) : R6m W B tk tq j m z TV PV q (fun j => j == 12 || D j) w s32 s33 s34 s35 s36 s37 s38 s39 s40 s41 s42 s43 (.int .i64 (z * z)) s45 s46 s47 s48 s49 :=
  ⟨h.hb, h.h0, h.h1, h.h2, h.h3, h.h4, h.h5, h.h6, h.h7, h.h8, h.h9, h.h10, h.h11, fun _ => rfl, h.h13, h.h14, h.h15, h.h16, h.h17⟩
theorem R6m.at13 (h : R6m W B tk tq j m z TV PV q D w s32 s33 s34 s35 s36 s37 s38 s39 s40 s41 s42 s43 s44 s45 s46 s47 s48 s49) (hm : m < 3) : R6m W B tk tq j m z TV PV q (fun j => j == 13 || D j) (w.alloc (.cells #[.int .i64 1, .int .i64 z, .int .i64 (z * z)] 3)) s32 s33 s34 s35 s36 s37 s38 s39 s40 s41 s42 s43 s44 (.slice (some ⟨w.heap.size, 0, none⟩) 3 3) s46 s47 s48 s49 := by
  have hb := below_alloc w (.cells #[.int .i64 1, .int .i64 z, .int .i64 (z * z)] 3)
  refine ⟨below_step h.hb hb, h.h0, h.h1, h.h2, h.h3, h.h4, h.h5, h.h6, h.h7, h.h8, h.h9, h.h10, h.h11, h.h12, ?_, h.h14, ?_, h.h16, h.h17⟩
  · exact fun _ => ⟨w.heap.size, rfl, tri_cell hm⟩
  · intro e
    obtain ⟨g, h1, h2⟩ := h.h15 e
    exact ⟨g, h1, grow_cell hb _ _ h2⟩
theorem R6m.at14 (h : R6m W B tk tq j m z TV PV q D w s32 s33 s34 s35 s36 s37 s38 s39 s40 s41 s42 s43 s44 s45 s46 s47 s48 s49) : R6m W B tk tq j m z TV PV q (fun j => j == 14 || D j) w s32 s33 s34 s35 s36 s37 s38 s39 s40 s41 s42 s43 s44 s45 (.int .i64 m) s47 s48 s49 :=
  ⟨h.hb, h.h0, h.h1, h.h2, h.h3, h.h4, h.h5, h.h6, h.h7, h.h8, h.h9, h.h10, h.h11, h.h12, h.h13, fun _ => rfl, h.h15, h.h16, h.h17⟩
theorem R6m.at15 (h : R6m W B tk tq j m z TV PV q D w s32 s33 s34 s35 s36 s37 s38 s39 s40 s41 s42 s43 s44 s45 s46 s47 s48 s49) {g : Nat} (hc : w.cell? ⟨g, m, none⟩ = some (.int .i64 (mlen z m))) : R6m W B tk tq j m z TV PV q (fun j => j == 15 || D j) w s32 s33 s34 s35 s36 s37 s38 s39 s40 s41 s42 s43 s44 s45 s46 (.pointer (some ⟨g, m, none⟩)) s48 s49 :=
  ⟨h.hb, h.h0, h.h1, h.h2, h.h3, h.h4, h.h5, h.h6, h.h7, h.h8, h.h9, h.h10, h.h11, h.h12, h.h13, h.h14, fun _ => ⟨g, rfl, hc⟩, h.h16, h.h17⟩
theorem R6m.start (h : Below W.heap.size W w) : R6m W B tk tq j m z TV PV q (fun _ => false) w s32 s33 s34 s35 s36 s37 s38 s39 s40 s41 s42 s43 s44 s45 s46 s47 s48 s49 :=
  ⟨h, fun e => (by cases e), fun e => (by cases e), fun e => (by cases e), fun e => (by cases e), fun e => (by cases e), fun e => (by cases e), fun e => (by cases e), fun e => (by cases e), fun e => (by cases e), fun e => (by cases e), fun e => (by cases e), fun e => (by cases e), fun e => (by cases e), fun e => (by cases e), fun e => (by cases e), fun e => (by cases e), fun e => (by cases e), fun e => (by cases e)⟩
end

end Go.Proofs.YtfckelbdageenabGreatDoor

namespace Go.Proofs.YtfckelbdageenabGreatDoor
open Go.RowKit Go.Deep Go.ChangeShapes Go.WideShapes

abbrev sepL : List UInt8 := [32, 124, 32]
def textL (l : Lt) : List UInt8 := textT l.2.1.1 l.2.1.2 ++ ((if l.1 then [33, 61] else [61]) ++ textT l.2.2.1 l.2.2.2)
def textC (c : Cl) : List UInt8 := if c.length = 0 then [91, 93] else Lib.join (c.map textL) sepL
abbrev zeroL : Lt := (false, zeroT, zeroT)
def litP (s : List Int) (p : List UInt8) : Int × Lt :=
  if (Lib.cut p [61]).2.2 = false then (2, zeroL) else
  if (parseT s (Lib.trimSuffix (Lib.cut p [61]).1 [33])).1 ≠ 0 then ((parseT s (Lib.trimSuffix (Lib.cut p [61]).1 [33])).1, zeroL) else
  if (parseT s (Lib.cut p [61]).2.1).1 ≠ 0 then ((parseT s (Lib.cut p [61]).2.1).1, zeroL) else
  (0, (Lib.hasSuffix (Lib.cut p [61]).1 [33], (parseT s (Lib.trimSuffix (Lib.cut p [61]).1 [33])).2, (parseT s (Lib.cut p [61]).2.1).2))
def litsP (s : List Int) : List (List UInt8) → Int
  | [] => 0
  | p :: ps => if (litP s p).1 ≠ 0 then (litP s p).1 else litsP s ps
/-- All parts. -/
def full (l : List UInt8) : List (List UInt8) := Lib.splitK sepL 0 l.length l
def partsC (s : List Int) (ps : List (List UInt8)) : Int × Cl := if 4 < ps.length then (5, []) else if litsP s ps ≠ 0 then (litsP s ps, []) else (0, ps.map fun p => (litP s p).2)
def parseC (s : List Int) (l : List UInt8) : Int × Cl :=
  if wsig s ≠ 0 then (wsig s, []) else if l = [91, 93] then (0, []) else partsC s (full l)

theorem litsP_at {s : List Int} : ∀ {c : List (List UInt8)} {j : Nat} {p : List UInt8}, (∀ i, i < j → ∀ a, c[i]? = some a → (litP s a).1 = 0) → c[j]? = some p → (litP s p).1 ≠ 0 → litsP s c = (litP s p).1
  | [], _, _, _, h, _ => by simp at h
  | x :: c, 0, l, _, h, hn => by
    simp only [List.getElem?_cons_zero, Option.some.injEq] at h
    subst h
    rw [litsP, if_pos hn]
  | x :: c, j + 1, l, h0, h, hn => by
    rw [litsP, if_neg (by simp [h0 0 (by omega) x (by simp)])]
    exact litsP_at (j := j) (fun i hi a ha => h0 (i + 1) (by omega) a (by simpa using ha)) (by simpa using h) hn
theorem litsP_iff {s : List Int} : ∀ {c : List (List UInt8)}, litsP s c = 0 ↔ ∀ p ∈ c, (litP s p).1 = 0
  | [] => by simp [litsP]
  | x :: c => by
    rw [litsP]
    by_cases h : (litP s x).1 = 0
    · rw [if_neg (by simp [h]), litsP_iff (c := c)]
      simp [h]
    · rw [if_pos h]
      simp [h]

theorem splitK_miss {k : Nat} {l : List UInt8} (h : Lib.index l sepL = -1) : Lib.splitK sepL 0 k l = [l] := by
  cases k with
  | zero => rfl
  | succ k => rw [Lib.splitK, if_pos (by rw [h]; rfl)]
theorem splitK_hit {k i : Nat} {l : List UInt8} (h : Lib.index l sepL = i) : Lib.splitK sepL 0 (k + 1) l = l.take i :: Lib.splitK sepL 0 k (l.drop (i + 3)) := by
  have hm : ¬ (Lib.index l sepL == -1) = true := fun e => by have := beq_iff_eq.1 e; omega
  have e : (Lib.index l sepL).toNat = i := by omega
  rw [Lib.splitK, if_neg hm, e]
  rfl
theorem index_two (l : List UInt8) : Lib.index l sepL = -1 ∨ ∃ i : Nat, Lib.index l sepL = i ∧ i + 3 ≤ l.length := by
  have h1 := Lib.index_ge l sepL
  rcases Classical.em (0 ≤ Lib.index l sepL) with h | h
  · refine .inr ⟨(Lib.index l sepL).toNat, by omega, ?_⟩
    have := Lib.index_room l sepL h
    simp at this
    omega
  · exact .inl (by omega)
theorem splitK_stable : ∀ (n : Nat) (l : List UInt8), l.length ≤ n → Lib.splitK sepL 0 n l = full l := by
  intro n
  induction n with
  | zero => intro l h; have : l.length = 0 := by omega
            rw [full, this]
  | succ n ih =>
    intro l h
    rcases index_two l with hi | ⟨i, hi, hr⟩
    · rw [full, splitK_miss hi, splitK_miss hi]
    · obtain ⟨m, hm⟩ : ∃ m, l.length = m + 1 := ⟨l.length - 1, by omega⟩
      rw [full, hm, splitK_hit hi, splitK_hit hi]
      rw [ih _ (by simp; omega)]
      rcases Nat.lt_or_ge m n with hmn | hmn
      · have : Lib.splitK sepL 0 n (l.drop (i + 3)) = full (l.drop (i + 3)) := ih _ (by simp; omega)
        congr 1
        rw [← this]
        clear this
        have key : ∀ (a b : Nat) (x : List UInt8), x.length ≤ a → a ≤ b → Lib.splitK sepL 0 b x = Lib.splitK sepL 0 a x := by
          intro a
          induction a with
          | zero => intro b x hx _
                    have : x = [] := List.length_eq_zero_iff.1 (by omega)
                    subst this
                    rw [splitK_miss (by rfl), splitK_miss (by rfl)]
          | succ a iha =>
            intro b x hx hb
            obtain ⟨b', rfl⟩ : ∃ b', b = b' + 1 := ⟨b - 1, by omega⟩
            rcases index_two x with hj | ⟨j, hj, hr'⟩
            · rw [splitK_miss hj, splitK_miss hj]
            · rw [splitK_hit hj, splitK_hit hj, iha b' _ (by simp; omega) (by omega)]
        exact key m n _ (by simp; omega) (by omega)
      · have : m = n := by omega
        rw [this, ih _ (by simp; omega)]
theorem full_miss {l : List UInt8} (h : Lib.index l sepL = -1) : full l = [l] := splitK_miss h
theorem full_hit {i : Nat} {l : List UInt8} (h : Lib.index l sepL = i) (hr : i + 3 ≤ l.length) : full l = l.take i :: full (l.drop (i + 3)) := by
  obtain ⟨m, hm⟩ : ∃ m, l.length = m + 1 := ⟨l.length - 1, by omega⟩
  rw [full, hm, splitK_hit h, splitK_stable m _ (by simp; omega)]
theorem full_pos (l : List UInt8) : 0 < (full l).length := by
  rcases index_two l with hi | ⟨i, hi, hr⟩
  · rw [full_miss hi]; simp
  · rw [full_hit hi hr]; simp
theorem splitK_few : ∀ (k : Nat) (l : List UInt8), ((full l).length ≤ k + 1 → Lib.splitK sepL 0 k l = full l) ∧ (k + 1 < (full l).length → (Lib.splitK sepL 0 k l).length = k + 1) := by
  intro k
  induction k with
  | zero =>
    intro l
    refine ⟨fun h => ?_, fun _ => rfl⟩
    rcases index_two l with hi | ⟨i, hi, hr⟩
    · rw [full_miss hi]; rfl
    · rw [full_hit hi hr] at h
      have := full_pos (l.drop (i + 3))
      rw [List.length_cons] at h; omega
  | succ k ih =>
    intro l
    rcases index_two l with hi | ⟨i, hi, hr⟩
    · rw [full_miss hi, splitK_miss hi]; simp
    · rw [full_hit hi hr, splitK_hit hi]
      obtain ⟨h1, h2⟩ := ih (l.drop (i + 3))
      simp only [List.length_cons]
      exact ⟨fun h => by rw [h1 (by omega)], fun h => by rw [h2 (by omega)]⟩
theorem full_le : ∀ (l : List UInt8), (full l).length ≤ l.length + 1 := by
  intro l
  have key : ∀ (k : Nat) (x : List UInt8), (Lib.splitK sepL 0 k x).length ≤ k + 1 := by
    intro k
    induction k with
    | zero => intro x; exact Nat.le_refl _
    | succ k ih =>
      intro x
      rcases index_two x with hi | ⟨i, hi, hr⟩
      · rw [splitK_miss hi]; simp
      · rw [splitK_hit hi]
        have := ih (x.drop (i + 3))
        simp; omega
  exact key _ _
/-- What SplitN tells is enough. -/
theorem split_five (l : List UInt8) : (4 < (Lib.splitK sepL 0 (min 5 (l.length + 1) - 1) l).length ↔ 4 < (full l).length) ∧ (¬ 4 < (full l).length → Lib.splitK sepL 0 (min 5 (l.length + 1) - 1) l = full l) := by
  rcases Nat.lt_or_ge l.length 4 with h | h
  · have e : min 5 (l.length + 1) - 1 = l.length := by omega
    rw [e]
    exact ⟨Iff.rfl, fun _ => rfl⟩
  · have e : min 5 (l.length + 1) - 1 = 4 := by omega
    rw [e]
    obtain ⟨h1, h2⟩ := splitK_few 4 l
    rcases Nat.lt_or_ge 5 (full l).length with h5 | h5
    · have := h2 h5
      exact ⟨⟨fun _ => by omega, fun _ => by omega⟩, fun h => by omega⟩
    · rw [h1 h5]
      exact ⟨Iff.rfl, fun _ => rfl⟩

theorem join_cons2 (x y : List UInt8) (r : List (List UInt8)) : Lib.join (x :: y :: r) sepL = x ++ (sepL ++ Lib.join (y :: r) sepL) := by
  rw [Lib.join_cons, Lib.join_cons]
  simp [Lib.joinTail]
end Go.Proofs.YtfckelbdageenabGreatDoor
