/- Texts of clauses, told alone: written, and read again. -/
import Derived.Test.YtfckelbdageenabGreatDoorG10
import Derived.Test.YtfckelbdageenabGreatDoorG14
import Derived.Lib.Split
import Derived.Lib.Join
namespace Go.Proofs.YtfckelbdageenabGreatDoor
open Go.RowKit Go.Deep Go.ChangeShapes Go.WideShapes

abbrev sepL : List UInt8 := [32, 124, 32]
def textL (l : Lt) : List UInt8 := textT l.2.1.1 l.2.1.2 ++ ((if l.1 then [33, 61] else [61]) ++ textT l.2.2.1 l.2.2.2)
def textC (c : Cl) : List UInt8 := if c.length = 0 then [91, 93] else Lib.join (c.map textL) sepL
abbrev zeroL : Lt := (false, zeroT, zeroT)
def litP (s : List Int) (p : List UInt8) : Int × Lt :=
  if (Lib.cut p [61]).2.2 = false then (2, zeroL) else
  if (parseT s (Lib.trimSuffix (Lib.cut p [61]).1 [33])).1 ≠ 0 then ((parseT s (Lib.trimSuffix (Lib.cut p [61]).1 [33])).1, zeroL) else
  if (parseT s (Lib.cut p [61]).2.1).1 ≠ 0 then ((parseT s (Lib.cut p [61]).2.1).1, zeroL) else
  (0, (Lib.hasSuffix (Lib.cut p [61]).1 [33], (parseT s (Lib.trimSuffix (Lib.cut p [61]).1 [33])).2, (parseT s (Lib.cut p [61]).2.1).2))
def litsP (s : List Int) : List (List UInt8) → Int
  | [] => 0
  | p :: ps => if (litP s p).1 ≠ 0 then (litP s p).1 else litsP s ps
/-- All parts. -/
def full (l : List UInt8) : List (List UInt8) := Lib.splitK sepL 0 l.length l
def partsC (s : List Int) (ps : List (List UInt8)) : Int × Cl := if 4 < ps.length then (5, []) else if litsP s ps ≠ 0 then (litsP s ps, []) else (0, ps.map fun p => (litP s p).2)
def parseC (s : List Int) (l : List UInt8) : Int × Cl :=
  if wsig s ≠ 0 then (wsig s, []) else if l = [91, 93] then (0, []) else partsC s (full l)

theorem litsP_at {s : List Int} : ∀ {c : List (List UInt8)} {j : Nat} {p : List UInt8}, (∀ i, i < j → ∀ a, c[i]? = some a → (litP s a).1 = 0) → c[j]? = some p → (litP s p).1 ≠ 0 → litsP s c = (litP s p).1
  | [], _, _, _, h, _ => by simp at h
  | x :: c, 0, l, _, h, hn => by
    simp only [List.getElem?_cons_zero, Option.some.injEq] at h
    subst h
    rw [litsP, if_pos hn]
  | x :: c, j + 1, l, h0, h, hn => by
    rw [litsP, if_neg (by simp [h0 0 (by omega) x (by simp)])]
    exact litsP_at (j := j) (fun i hi a ha => h0 (i + 1) (by omega) a (by simpa using ha)) (by simpa using h) hn
theorem litsP_iff {s : List Int} : ∀ {c : List (List UInt8)}, litsP s c = 0 ↔ ∀ p ∈ c, (litP s p).1 = 0
  | [] => by simp [litsP]
  | x :: c => by
    rw [litsP]
    by_cases h : (litP s x).1 = 0
    · rw [if_neg (by simp [h]), litsP_iff (c := c)]
      simp [h]
    · rw [if_pos h]
      simp [h]

theorem splitK_miss {k : Nat} {l : List UInt8} (h : Lib.index l sepL = -1) : Lib.splitK sepL 0 k l = [l] := by
  cases k with
  | zero => rfl
  | succ k => rw [Lib.splitK, if_pos (by rw [h]; rfl)]
theorem splitK_hit {k i : Nat} {l : List UInt8} (h : Lib.index l sepL = i) : Lib.splitK sepL 0 (k + 1) l = l.take i :: Lib.splitK sepL 0 k (l.drop (i + 3)) := by
  have hm : ¬ (Lib.index l sepL == -1) = true := fun e => by have := beq_iff_eq.1 e; omega
  have e : (Lib.index l sepL).toNat = i := by omega
  rw [Lib.splitK, if_neg hm, e]
  rfl
theorem index_two (l : List UInt8) : Lib.index l sepL = -1 ∨ ∃ i : Nat, Lib.index l sepL = i ∧ i + 3 ≤ l.length := by
  have h1 := Lib.index_ge l sepL
  rcases Classical.em (0 ≤ Lib.index l sepL) with h | h
  · refine .inr ⟨(Lib.index l sepL).toNat, by omega, ?_⟩
    have := Lib.index_room l sepL h
    simp at this
    omega
  · exact .inl (by omega)
theorem splitK_stable : ∀ (n : Nat) (l : List UInt8), l.length ≤ n → Lib.splitK sepL 0 n l = full l := by
  intro n
  induction n with
  | zero => intro l h; have : l.length = 0 := by omega
            rw [full, this]
  | succ n ih =>
    intro l h
    rcases index_two l with hi | ⟨i, hi, hr⟩
    · rw [full, splitK_miss hi, splitK_miss hi]
    · obtain ⟨m, hm⟩ : ∃ m, l.length = m + 1 := ⟨l.length - 1, by omega⟩
      rw [full, hm, splitK_hit hi, splitK_hit hi]
      rw [ih _ (by simp; omega)]
      rcases Nat.lt_or_ge m n with hmn | hmn
      · have : Lib.splitK sepL 0 n (l.drop (i + 3)) = full (l.drop (i + 3)) := ih _ (by simp; omega)
        congr 1
        rw [← this]
        clear this
        have key : ∀ (a b : Nat) (x : List UInt8), x.length ≤ a → a ≤ b → Lib.splitK sepL 0 b x = Lib.splitK sepL 0 a x := by
          intro a
          induction a with
          | zero => intro b x hx _
                    have : x = [] := List.length_eq_zero_iff.1 (by omega)
                    subst this
                    rw [splitK_miss (by rfl), splitK_miss (by rfl)]
          | succ a iha =>
            intro b x hx hb
            obtain ⟨b', rfl⟩ : ∃ b', b = b' + 1 := ⟨b - 1, by omega⟩
            rcases index_two x with hj | ⟨j, hj, hr'⟩
            · rw [splitK_miss hj, splitK_miss hj]
            · rw [splitK_hit hj, splitK_hit hj, iha b' _ (by simp; omega) (by omega)]
        exact key m n _ (by simp; omega) (by omega)
      · have : m = n := by omega
        rw [this, ih _ (by simp; omega)]
theorem full_miss {l : List UInt8} (h : Lib.index l sepL = -1) : full l = [l] := splitK_miss h
theorem full_hit {i : Nat} {l : List UInt8} (h : Lib.index l sepL = i) (hr : i + 3 ≤ l.length) : full l = l.take i :: full (l.drop (i + 3)) := by
  obtain ⟨m, hm⟩ : ∃ m, l.length = m + 1 := ⟨l.length - 1, by omega⟩
  rw [full, hm, splitK_hit h, splitK_stable m _ (by simp; omega)]
theorem full_pos (l : List UInt8) : 0 < (full l).length := by
  rcases index_two l with hi | ⟨i, hi, hr⟩
  · rw [full_miss hi]; simp
  · rw [full_hit hi hr]; simp
theorem splitK_few : ∀ (k : Nat) (l : List UInt8), ((full l).length ≤ k + 1 → Lib.splitK sepL 0 k l = full l) ∧ (k + 1 < (full l).length → (Lib.splitK sepL 0 k l).length = k + 1) := by
  intro k
  induction k with
  | zero =>
    intro l
    refine ⟨fun h => ?_, fun _ => rfl⟩
    rcases index_two l with hi | ⟨i, hi, hr⟩
    · rw [full_miss hi]; rfl
    · rw [full_hit hi hr] at h
      have := full_pos (l.drop (i + 3))
      rw [List.length_cons] at h; omega
  | succ k ih =>
    intro l
    rcases index_two l with hi | ⟨i, hi, hr⟩
    · rw [full_miss hi, splitK_miss hi]; simp
    · rw [full_hit hi hr, splitK_hit hi]
      obtain ⟨h1, h2⟩ := ih (l.drop (i + 3))
      simp only [List.length_cons]
      exact ⟨fun h => by rw [h1 (by omega)], fun h => by rw [h2 (by omega)]⟩
theorem full_le : ∀ (l : List UInt8), (full l).length ≤ l.length + 1 := by
  intro l
  have key : ∀ (k : Nat) (x : List UInt8), (Lib.splitK sepL 0 k x).length ≤ k + 1 := by
    intro k
    induction k with
    | zero => intro x; exact Nat.le_refl _
    | succ k ih =>
      intro x
      rcases index_two x with hi | ⟨i, hi, hr⟩
      · rw [splitK_miss hi]; simp
      · rw [splitK_hit hi]
        have := ih (x.drop (i + 3))
        simp; omega
  exact key _ _
/-- What SplitN tells is enough. -/
theorem split_five (l : List UInt8) : (4 < (Lib.splitK sepL 0 (min 5 (l.length + 1) - 1) l).length ↔ 4 < (full l).length) ∧ (¬ 4 < (full l).length → Lib.splitK sepL 0 (min 5 (l.length + 1) - 1) l = full l) := by
  rcases Nat.lt_or_ge l.length 4 with h | h
  · have e : min 5 (l.length + 1) - 1 = l.length := by omega
    rw [e]
    exact ⟨Iff.rfl, fun _ => rfl⟩
  · have e : min 5 (l.length + 1) - 1 = 4 := by omega
    rw [e]
    obtain ⟨h1, h2⟩ := splitK_few 4 l
    rcases Nat.lt_or_ge 5 (full l).length with h5 | h5
    · have := h2 h5
      exact ⟨⟨fun _ => by omega, fun _ => by omega⟩, fun h => by omega⟩
    · rw [h1 h5]
      exact ⟨Iff.rfl, fun _ => rfl⟩

theorem join_cons2 (x y : List UInt8) (r : List (List UInt8)) : Lib.join (x :: y :: r) sepL = x ++ (sepL ++ Lib.join (y :: r) sepL) := by
  rw [Lib.join_cons, Lib.join_cons]
  simp [Lib.joinTail]
theorem join_full : ∀ (n : Nat) (l : List UInt8), l.length ≤ n → Lib.join (full l) sepL = l := by
  intro n
  induction n with
  | zero =>
    intro l h
    have : l = [] := List.length_eq_zero_iff.1 (by omega)
    subst this
    rw [full_miss (by rfl), Lib.join_one]
  | succ n ih =>
    intro l h
    rcases index_two l with hi | ⟨i, hi, hr⟩
    · rw [full_miss hi, Lib.join_one]
    · rw [full_hit hi hr]
      have hp := full_pos (l.drop (i + 3))
      have hj := ih (l.drop (i + 3)) (by simp; omega)
      obtain ⟨y, r, e⟩ : ∃ y r, full (l.drop (i + 3)) = y :: r := by
        cases he : full (l.drop (i + 3)) with
        | nil => rw [he] at hp; simp at hp
        | cons y r => exact ⟨y, r, rfl⟩
      rw [e] at hj ⊢
      rw [join_cons2, hj]
      rcases Lib.index_spec l sepL with ⟨h1, _⟩ | ⟨j, h1, h2, h3, _⟩
      · rw [h1] at hi; omega
      · have : j = i := by rw [h1] at hi; omega
        subst this
        have hpre : sepL <+: l.drop j := List.isPrefixOf_iff_prefix.1 h3
        obtain ⟨t, ht⟩ := hpre
        have hd : l.drop (j + 3) = t := by
          rw [← List.drop_drop, ← ht]; rfl
        rw [hd, ht]
        exact List.take_append_drop j l

/-- No sign of a term is one between terms. -/
def Plain (l : List UInt8) : Prop := ∀ b ∈ l, b ≠ 32 ∧ b ≠ 33 ∧ b ≠ 61 ∧ b ≠ 124
theorem Plain.app {l m : List UInt8} (h : Plain l) (h' : Plain m) : Plain (l ++ m) := fun b hb => (List.mem_append.1 hb).elim (h b) (h' b)
theorem plain_sym {n : Int} (h : 0 ≤ n ∧ n ≤ 100) : (sym n ≠ 32 ∧ sym n ≠ 33 ∧ sym n ≠ 61 ∧ sym n ≠ 124) ∨ sym n = 124 := by
  have := sym_nat h.1 h.2
  have a : ∀ c : UInt8, c.toNat < 97 → sym n ≠ c := fun c hc e => by rw [e] at this; omega
  by_cases e : sym n = 124
  · exact .inr e
  · exact .inl ⟨a 32 (by decide), a 33 (by decide), a 61 (by decide), e⟩
theorem plain_one {b : UInt8} (h : b ≠ 32 ∧ b ≠ 33 ∧ b ≠ 61 ∧ b ≠ 124) : Plain [b] := fun c hc => by simp at hc; rw [hc]; exact h
theorem plain_dig {n : Int} (h0 : 0 ≤ n) (h4 : n ≤ 4) : Plain [dig n] := by
  have := dig_nat h0 h4
  have a : ∀ c : UInt8, (c.toNat < 48 ∨ 52 < c.toNat) → dig n ≠ c := fun c hc e => by rw [e] at this; omega
  exact plain_one ⟨a 32 (by decide), a 33 (by decide), a 61 (by decide), a 124 (by decide)⟩
theorem plain_sym6 {n : Int} (h0 : 0 ≤ n) (h6 : n < 6) : Plain [sym n] := by
  have := sym_nat h0 (by omega : n ≤ 100)
  have a : ∀ c : UInt8, (c.toNat < 97 ∨ 102 < c.toNat) → sym n ≠ c := fun c hc e => by rw [e] at this; omega
  exact plain_one ⟨a 32 (by decide), a 33 (by decide), a 61 (by decide), a 124 (by decide)⟩
theorem plain_text {s : List Int} (h6 : s.length ≤ 6) (x : Bool × Int) (k : Fo) : ∀ d, walkT s x k d = 0 → Plain (textT x k) := by
  refine Fo.ind1 (p := fun x k => ∀ d, walkT s x k d = 0 → Plain (textT x k)) ?_ x k
  clear x k
  intro x k ih d h
  have hx := (text_okT h6 h).1
  obtain ⟨v, n⟩ := x
  cases v with
  | true =>
    simp only [textT, if_true]
    simp at hx
    have e : ([88, dig n] : List UInt8) = [88] ++ [dig n] := rfl
    rw [e]
    exact (plain_one (by decide)).app (plain_dig hx.1 hx.2)
  | false =>
    have hw : walkT s (false, n) k d = 0 := h
    have hn : 0 ≤ n ∧ n < 6 ∧ walkF s k (d + 1) = 0 := by
      unfold walkT at hw
      by_cases c0 : 12 < d
      · rw [if_pos c0] at hw; omega
      · rw [if_neg c0] at hw
        by_cases c1 : aloneF s (false, n) (Fo.len k) = 0
        · rw [if_neg (by simp [c1])] at hw
          unfold aloneF at c1
          rw [if_neg (by simp)] at c1
          by_cases c2 : n < 0 ∨ (s.length : Int) ≤ n
          · rw [if_pos c2] at c1; omega
          · exact ⟨by omega, by omega, hw⟩
        · rw [if_pos c1] at hw; exact absurd hw c1
    simp only [textT, Bool.false_eq_true, if_false]
    have key : ∀ (F : Fo) (i : Int), (∀ y ∈ F.list, ∀ d, walkT s y.1 y.2 d = 0 → Plain (textT y.1 y.2)) → ∀ d, walkF s F d = 0 → Plain (textF F i) := by
      intro F
      induction F with
      | nil => intro i _ d _ b hb; simp [textF] at hb
      | node p q y l r _ ihr =>
        intro i hy d hd
        rw [walkF_node] at hd
        have h1 : walkT s y l d = 0 := by
          by_cases c : walkT s y l d = 0
          · exact c
          · rw [if_pos c] at hd; exact hd
        have h2 : walkF s r d = 0 := by
          rw [if_neg (by simp [h1])] at hd; exact hd
        rw [textF_node]
        refine Plain.app ?_ (ihr (i + 1) (fun z hz => hy z (by simp [Fo.list, hz])) d h2)
        have e : (signF i :: textT y l) = [signF i] ++ textT y l := rfl
        rw [e]
        refine Plain.app (plain_one ?_) (hy (y, l) (by simp [Fo.list]) d h1)
        unfold signF
        split <;> decide
    have e : (sym n :: if Fo.len k = 0 then [] else textF k 0 ++ [41]) = [sym n] ++ (if Fo.len k = 0 then [] else textF k 0 ++ [41]) := rfl
    rw [e]
    refine (plain_sym6 hn.1 hn.2.1).app ?_
    split
    · intro b hb; simp at hb
    · exact (key k 0 ih _ hn.2.2).app (plain_one (by decide))

end Go.Proofs.YtfckelbdageenabGreatDoor
