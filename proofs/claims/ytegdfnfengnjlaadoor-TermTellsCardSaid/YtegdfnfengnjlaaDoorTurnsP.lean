/- Written, and read again: told of terms and texts alone. -/
import Derived.Test.YtegdfnfengnjlaaDoorOpen
namespace Go.Proofs.YtegdfnfengnjlaaDoor
open Go.RowKit Go.Deep Go.ChangeShapes Go.WideShapes

/-- The same forest, without what is no part of it. -/
def Fo.norm : Fo → Fo
  | .nil => .nil
  | .node _ _ x k r => .node 0 0 x (Fo.norm k) (Fo.norm r)
def Fo.app : Fo → Fo → Fo
  | .nil, G => G
  | .node p q x k r, G => .node p q x k (Fo.app r G)

theorem norm_same : ∀ F : Fo, sameF F (Fo.norm F) = true
  | .nil => rfl
  | .node _ _ x k r => by simp [sameF, Fo.norm, norm_same k, norm_same r]
theorem norm_len : ∀ F : Fo, Fo.len (Fo.norm F) = Fo.len F
  | .nil => rfl
  | .node _ _ x k r => by simp [Fo.len, Fo.norm, norm_len r]
theorem app_snoc : ∀ (A : Fo) (x : Bool × Int) (k G : Fo), Fo.app (Fo.snoc A x k) G = Fo.app A (.node 0 0 x k G)
  | .nil, _, _, _ => rfl
  | .node _ _ _ _ r, x, k, G => by simp [Fo.snoc, Fo.app, app_snoc r x k G]
theorem app_nil : ∀ A : Fo, Fo.app A .nil = A
  | .nil => rfl
  | .node _ _ _ _ r => by simp [Fo.app, app_nil r]

theorem sgn_hit (c : UInt8) (r : List UInt8) : sgn c (c :: r) = (0, r) := by simp [sgn]
theorem dig_nat {n : Int} (h0 : 0 ≤ n) (h4 : n ≤ 4) : ((dig n).toNat : Int) = 48 + n := by
  rw [dig, UInt8.toNat_ofNat']; omega
theorem sym_nat {n : Int} (h0 : 0 ≤ n) (h4 : n ≤ 100) : ((sym n).toNat : Int) = 97 + n := by
  rw [sym, UInt8.toNat_ofNat']; omega

theorem textF_node (p q : Nat) (x : Bool × Int) (k r : Fo) (i : Int) : textF (.node p q x k r) i = (signF i :: textT x k) ++ textF r (i + 1) := rfl
theorem textT_pos (x : Bool × Int) (k : Fo) : 0 < (textT x k).length := by
  unfold textT
  split
  · simp
  · simp

/-- The terms of a forest, each read as it is. -/
def ReadsF (R : List UInt8 → Int × ((Bool × Int) × Fo) × List UInt8) (F : Fo) (N : Nat) : Prop := ∀ y ∈ F.list, ∀ rest, (textT y.1 y.2 ++ rest).length < N → R (textT y.1 y.2 ++ rest) = (0, (y.1, Fo.norm y.2), rest)

theorem readA_text {R : List UInt8 → Int × ((Bool × Int) × Fo) × List UInt8} {N : Nat} : ∀ (F : Fo) (i : Int) (acc : Fo) (rest : List UInt8), ReadsF R F N → (textF F i ++ rest).length ≤ N → readA R (Fo.len F) i acc (textF F i ++ rest) = (0, Fo.app acc (Fo.norm F), rest)
  | .nil, i, acc, rest, _, _ => by simp [readA, textF, Fo.len, Fo.norm, app_nil]
  | .node p q x k r, i, acc, rest, hR, hN => by
    rw [textF_node] at hN ⊢
    have e : (signF i :: textT x k) ++ textF r (i + 1) ++ rest = signF i :: (textT x k ++ (textF r (i + 1) ++ rest)) := by simp
    rw [e] at hN ⊢
    simp only [List.length_cons] at hN
    have h1 := hR (x, k) (by simp [Fo.list]) (textF r (i + 1) ++ rest) (by simp only; omega)
    simp only at h1
    show readA R (Fo.len r + 1) i acc _ = _
    rw [readA, sgn_hit]
    simp only [h1, ne_eq, not_true_eq_false, if_false]
    rw [readA_text r (i + 1) _ rest (fun y hy => hR y (by simp [Fo.list, hy])) (by simp only [List.length_append] at hN ⊢; omega), app_snoc]
    rfl

/-- A right term comes back from its text, whatever stands behind. -/
theorem read_text {s : List Int} (h6 : s.length ≤ 6) (x : Bool × Int) (k : Fo) : ∀ (d : Int), walkT s x k d = 0 → ∀ (f : Nat) (rest : List UInt8), (textT x k ++ rest).length < f → readT s f (textT x k ++ rest) = (0, (x, Fo.norm k), rest) := by
  refine Fo.ind1 (p := fun x k => ∀ (d : Int), walkT s x k d = 0 → ∀ (f : Nat) (rest : List UInt8), (textT x k ++ rest).length < f → readT s f (textT x k ++ rest) = (0, (x, Fo.norm k), rest)) ?_ x k
  clear x k
  intro x k ih d hw f rest hf
  obtain ⟨_, ha, hk⟩ := walkT_ok hw
  obtain ⟨v, n⟩ := x
  obtain ⟨f, rfl⟩ : ∃ g, f = g + 1 := ⟨f - 1, by omega⟩
  cases v
  · obtain ⟨h0, h1, h2⟩ := alone_sym ha
    have hsn := sym_nat h0 (by omega)
    have e : textT (false, n) k ++ rest = sym n :: ((if Fo.len k = 0 then [] else textF k 0 ++ [41]) ++ rest) := by simp [textT]
    rw [e] at hf ⊢
    have hne : sym n ≠ 88 := fun e => by rw [e] at hsn; simp at hsn; omega
    rw [readT, if_neg hne, hsn, show (97 + n - 97 : Int) = n by omega, if_neg (by omega), ← h2]
    simp only [List.length_cons] at hf
    have hA : argsT (readT s f) (Fo.len k : Int) ((if Fo.len k = 0 then [] else textF k 0 ++ [41]) ++ rest) = (0, Fo.norm k, rest) := by
      by_cases hl : Fo.len k = 0
      · rw [argsT, if_pos (by omega), if_pos hl, len_zero hl]; rfl
      · rw [if_neg hl] at hf
        rw [argsT, if_neg (by omega), if_neg hl]
        have hr := readA_text (R := readT s f) (N := f) k 0 .nil ([41] ++ rest) (fun y hy r hlen => by
          obtain ⟨j, hj⟩ := List.mem_iff_getElem?.1 hy
          have hz : walkT s y.1 y.2 (d + 1) = 0 := by
            have : ∀ (F : Fo) (j : Nat) (y : (Bool × Int) × Fo), walkF s F (d + 1) = 0 → F.list[j]? = some y → walkT s y.1 y.2 (d + 1) = 0 := by
              intro F
              induction F with
              | nil => intro j y _ h; simp [Fo.list] at h
              | node p q x k r _ ihr =>
                intro j y hF hj
                obtain ⟨q1, q2⟩ := walkF_ok hF
                cases j with
                | zero => simp [Fo.list] at hj; subst hj; exact q1
                | succ j => exact ihr j y q2 (by simpa [Fo.list] using hj)
            exact this k j y hk hj
          exact ih y hy (d + 1) hz f r hlen) (by simp only [List.length_append] at hf ⊢; omega)
        simp only [Int.toNat_natCast]
        rw [show textF k 0 ++ [41] ++ rest = textF k 0 ++ ([41] ++ rest) by simp, hr]
        have : sgn 41 (41 :: rest) = (0, rest) := sgn_hit 41 rest
        simp [this, Fo.app]
    rw [hA]
    simp
  · obtain ⟨rfl, h0, h4⟩ := alone_var ha
    have hdn := dig_nat h0 h4
    have e : textT (true, n) .nil ++ rest = 88 :: dig n :: rest := by simp [textT]
    rw [e, readT, if_pos rfl, rvar, hdn, if_neg (by omega), show (48 + n - 48 : Int) = n by omega]
    rfl

theorem byte_back {c : UInt8} {n : Int} (h : (c.toNat : Int) = 97 + n) (h0 : 0 ≤ n) : c = sym n := by
  apply UInt8.toNat_inj.1
  rw [sym, UInt8.toNat_ofNat']
  have := c.toNat_lt
  omega
theorem dig_back {c : UInt8} {n : Int} (h : (c.toNat : Int) = 48 + n) (h0 : 0 ≤ n) : c = dig n := by
  apply UInt8.toNat_inj.1
  rw [dig, UInt8.toNat_ofNat']
  have := c.toNat_lt
  omega
theorem sgn_back {c : UInt8} {l : List UInt8} (h : (sgn c l).1 = 0) : l = c :: (sgn c l).2 := by
  cases l with
  | nil => simp [sgn] at h
  | cons d r =>
    by_cases e : d = c
    · simp [sgn, e]
    · simp [sgn, e] at h

/-- What is read of so many terms is their text. -/
theorem readA_back {R : List UInt8 → Int × ((Bool × Int) × Fo) × List UInt8} (hR : ∀ t, (R t).1 = 0 → t = textT (R t).2.1.1 (R t).2.1.2 ++ (R t).2.2) : ∀ (m : Nat) (i : Int) (acc : Fo) (t : List UInt8), (readA R m i acc t).1 = 0 → ∃ G, (readA R m i acc t).2.1 = Fo.app acc G ∧ Fo.len G = m ∧ t = textF G i ++ (readA R m i acc t).2.2
  | 0, i, acc, t, _ => ⟨.nil, by simp [readA, app_nil], rfl, by simp [readA, textF]⟩
  | m + 1, i, acc, t, h => by
    rw [readA] at h ⊢
    by_cases h1 : (sgn (signF i) t).1 = 0
    · rw [if_neg (by simpa using h1)] at h ⊢
      have e1 := sgn_back h1
      by_cases h2 : (R (sgn (signF i) t).2).1 = 0
      · rw [if_neg (by simpa using h2)] at h ⊢
        have e2 := hR _ h2
        obtain ⟨G, g1, g2, g3⟩ := readA_back hR m (i + 1) _ _ h
        refine ⟨.node 0 0 (R (sgn (signF i) t).2).2.1.1 (R (sgn (signF i) t).2).2.1.2 G, by rw [g1, app_snoc], by simp [Fo.len, g2], ?_⟩
        rw [textF_node]
        conv => lhs; rw [e1, e2, g3]
        simp
      · rw [if_pos h2] at h; exact absurd h h2
    · rw [if_pos h1] at h; exact absurd h h1

/-- What is read of a text is its term's text, and what is behind. -/
theorem read_back {s : List Int} : ∀ (f : Nat) (t : List UInt8), (readT s f t).1 = 0 → t = textT (readT s f t).2.1.1 (readT s f t).2.1.2 ++ (readT s f t).2.2
  | 0, t, h => by simp [readT] at h
  | f + 1, [], h => by simp [readT] at h
  | f + 1, c :: r, h => by
    rw [readT] at h ⊢
    by_cases h88 : c = 88
    · rw [if_pos h88] at h ⊢
      cases r with
      | nil => simp [rvar] at h
      | cons d r =>
        rw [rvar] at h ⊢
        by_cases hd : (d.toNat : Int) - 48 < 0 ∨ 5 ≤ (d.toNat : Int) - 48
        · rw [if_pos hd] at h; simp at h
        · rw [if_neg hd]
          have := dig_back (c := d) (n := (d.toNat : Int) - 48) (by omega) (by omega)
          simp only [textT, if_true]
          rw [← this, h88]
          simp
    · rw [if_neg h88] at h ⊢
      by_cases hn : (c.toNat : Int) - 97 < 0 ∨ (s.length : Int) ≤ (c.toNat : Int) - 97
      · rw [if_pos hn] at h; simp at h
      · rw [if_neg hn] at h ⊢
        by_cases ha : (argsT (readT s f) (s.getD ((c.toNat : Int) - 97).toNat 0) r).1 = 0
        · rw [if_neg (by simpa using ha)]
          have hc := byte_back (c := c) (n := (c.toNat : Int) - 97) (by omega) (by omega)
          generalize s.getD ((c.toNat : Int) - 97).toNat 0 = many at *
          rw [argsT] at ha ⊢
          by_cases hm : many ≤ 0
          · simp only [if_pos hm, textT]
            simp [Fo.len, ← hc]
          · rw [if_neg hm] at ha ⊢
            by_cases h1 : (readA (readT s f) many.toNat 0 .nil r).1 = 0
            · rw [if_neg (by simpa using h1)] at ha ⊢
              obtain ⟨G, g1, g2, g3⟩ := readA_back (fun t ht => read_back f t ht) many.toNat 0 .nil r h1
              by_cases h2 : (sgn 41 (readA (readT s f) many.toNat 0 .nil r).2.2).1 = 0
              · rw [if_neg (by simpa using h2)]
                have e2 := sgn_back h2
                simp only [textT, g1, Fo.app]
                rw [if_neg (by simp), if_neg (by omega), ← hc]
                conv => lhs; rw [g3, e2]
                simp
              · rw [if_pos h2] at ha; exact absurd ha h2
            · rw [if_pos h1] at ha; exact absurd ha h1
        · rw [if_pos ha] at h; exact absurd h ha

/-- What a right term's text is like. -/
theorem texts_ok {s : List Int} (h6 : s.length ≤ 6) : ∀ {F : Fo} {d : Int}, walkF s F d = 0 → Fo.texts F
  | .nil, _, _ => trivial
  | .node _ _ (v, n) k r, d, h => by
    obtain ⟨hT, hr⟩ := walkF_ok h
    obtain ⟨_, ha, hk⟩ := walkT_ok hT
    refine ⟨?_, texts_ok h6 hk, texts_ok h6 hr⟩
    cases v
    · obtain ⟨h0, h1, _⟩ := alone_sym ha
      simp only [Bool.false_eq_true, if_false]; omega
    · obtain ⟨_, h0, h4⟩ := alone_var ha
      simp only [if_true]; omega
theorem text_okT {s : List Int} (h6 : s.length ≤ 6) {x : Bool × Int} {k : Fo} {d : Int} (h : walkT s x k d = 0) : (0 ≤ x.2 ∧ x.2 ≤ (if x.1 then 4 else 100)) ∧ Fo.texts k := by
  obtain ⟨_, ha, hk⟩ := walkT_ok h
  obtain ⟨v, n⟩ := x
  refine ⟨?_, texts_ok h6 hk⟩
  cases v
  · obtain ⟨h0, h1, _⟩ := alone_sym ha
    simp only [Bool.false_eq_true, if_false]; omega
  · obtain ⟨_, h0, h4⟩ := alone_var ha
    simp only [if_true]; omega
theorem textF_len : ∀ (F : Fo) (i : Int), (textF F i).length ≤ 3 * Fo.sizesR F
  | .nil, _ => by simp [textF]
  | .node _ _ x k r, i => by
    have h1 := textF_len k 0
    have h2 := textF_len r (i + 1)
    simp only [textF, Fo.sizesR, List.length_append, List.length_cons]
    split
    · simp; omega
    · split
      · simp; omega
      · simp; omega
theorem textT_len (x : Bool × Int) (k : Fo) : (textT x k).length ≤ 3 * tszR k := by
  have := textF_len k 0
  unfold textT tszR
  split
  · simp; omega
  · split
    · simp; omega
    · simp; omega

end Go.Proofs.YtegdfnfengnjlaaDoor
