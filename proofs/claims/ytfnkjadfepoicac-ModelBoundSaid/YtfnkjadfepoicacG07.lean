/- Written, and read again: told of terms and texts alone. -/
import Derived.Test.YtfnkjadfepoicacG06
namespace Go.Proofs.Ytfnkjadfepoicac
open Go.RowKit Go.Deep Go.ChangeShapes Go.WideShapes

/-- The same forest, without what is no part of it. -/
def Fo.norm : Fo → Fo
  | .nil => .nil
  | .node _ _ x k r => .node 0 0 x (Fo.norm k) (Fo.norm r)
def Fo.app : Fo → Fo → Fo
  | .nil, G => G
  | .node p q x k r, G => .node p q x k (Fo.app r G)

theorem norm_same : ∀ F : Fo, sameF F (Fo.norm F) = true
  | .nil => rfl
  | .node _ _ x k r => by simp [sameF, Fo.norm, norm_same k, norm_same r]
theorem norm_len : ∀ F : Fo, Fo.len (Fo.norm F) = Fo.len F
  | .nil => rfl
  | .node _ _ x k r => by simp [Fo.len, Fo.norm, norm_len r]
theorem app_snoc : ∀ (A : Fo) (x : Bool × Int) (k G : Fo), Fo.app (Fo.snoc A x k) G = Fo.app A (.node 0 0 x k G)
  | .nil, _, _, _ => rfl
  | .node _ _ _ _ r, x, k, G => by simp [Fo.snoc, Fo.app, app_snoc r x k G]
theorem app_nil : ∀ A : Fo, Fo.app A .nil = A
  | .nil => rfl
  | .node _ _ _ _ r => by simp [Fo.app, app_nil r]

theorem sgn_hit (c : UInt8) (r : List UInt8) : sgn c (c :: r) = (0, r) := by simp [sgn]
theorem dig_nat {n : Int} (h0 : 0 ≤ n) (h4 : n ≤ 4) : ((dig n).toNat : Int) = 48 + n := by
  rw [dig, UInt8.toNat_ofNat']; omega
theorem sym_nat {n : Int} (h0 : 0 ≤ n) (h4 : n ≤ 100) : ((sym n).toNat : Int) = 97 + n := by
  rw [sym, UInt8.toNat_ofNat']; omega

theorem textF_node (p q : Nat) (x : Bool × Int) (k r : Fo) (i : Int) : textF (.node p q x k r) i = (signF i :: textT x k) ++ textF r (i + 1) := rfl
theorem textT_pos (x : Bool × Int) (k : Fo) : 0 < (textT x k).length := by
  unfold textT
  split
  · simp
  · simp

/-- The terms of a forest, each read as it is. -/
def ReadsF (R : List UInt8 → Int × ((Bool × Int) × Fo) × List UInt8) (F : Fo) (N : Nat) : Prop := ∀ y ∈ F.list, ∀ rest, (textT y.1 y.2 ++ rest).length < N → R (textT y.1 y.2 ++ rest) = (0, (y.1, Fo.norm y.2), rest)

theorem readA_text {R : List UInt8 → Int × ((Bool × Int) × Fo) × List UInt8} {N : Nat} : ∀ (F : Fo) (i : Int) (acc : Fo) (rest : List UInt8), ReadsF R F N → (textF F i ++ rest).length ≤ N → readA R (Fo.len F) i acc (textF F i ++ rest) = (0, Fo.app acc (Fo.norm F), rest)
  | .nil, i, acc, rest, _, _ => by simp [readA, textF, Fo.len, Fo.norm, app_nil]
  | .node p q x k r, i, acc, rest, hR, hN => by
    rw [textF_node] at hN ⊢
    have e : (signF i :: textT x k) ++ textF r (i + 1) ++ rest = signF i :: (textT x k ++ (textF r (i + 1) ++ rest)) := by simp
    rw [e] at hN ⊢
    simp only [List.length_cons] at hN
    have h1 := hR (x, k) (by simp [Fo.list]) (textF r (i + 1) ++ rest) (by simp only; omega)
    simp only at h1
    show readA R (Fo.len r + 1) i acc _ = _
    rw [readA, sgn_hit]
    simp only [h1, ne_eq, not_true_eq_false, if_false]
    rw [readA_text r (i + 1) _ rest (fun y hy => hR y (by simp [Fo.list, hy])) (by simp only [List.length_append] at hN ⊢; omega), app_snoc]
    rfl

/-- A right term comes back from its text, whatever stands behind. -/
theorem read_text {s : List Int} (h6 : s.length ≤ 6) (x : Bool × Int) (k : Fo) : ∀ (d : Int), walkT s x k d = 0 → ∀ (f : Nat) (rest : List UInt8), (textT x k ++ rest).length < f → readT s f (textT x k ++ rest) = (0, (x, Fo.norm k), rest) := by
  refine Fo.ind1 (p := fun x k => ∀ (d : Int), walkT s x k d = 0 → ∀ (f : Nat) (rest : List UInt8), (textT x k ++ rest).length < f → readT s f (textT x k ++ rest) = (0, (x, Fo.norm k), rest)) ?_ x k
  clear x k
  intro x k ih d hw f rest hf
  obtain ⟨_, ha, hk⟩ := walkT_ok hw
  obtain ⟨v, n⟩ := x
  obtain ⟨f, rfl⟩ : ∃ g, f = g + 1 := ⟨f - 1, by omega⟩
  cases v
  · obtain ⟨h0, h1, h2⟩ := alone_sym ha
    have hsn := sym_nat h0 (by omega)
    have e : textT (false, n) k ++ rest = sym n :: ((if Fo.len k = 0 then [] else textF k 0 ++ [41]) ++ rest) := by simp [textT]
    rw [e] at hf ⊢
    have hne : sym n ≠ 88 := fun e => by rw [e] at hsn; simp at hsn; omega
    rw [readT, if_neg hne, hsn, show (97 + n - 97 : Int) = n by omega, if_neg (by omega), ← h2]
    simp only [List.length_cons] at hf
    have hA : argsT (readT s f) (Fo.len k : Int) ((if Fo.len k = 0 then [] else textF k 0 ++ [41]) ++ rest) = (0, Fo.norm k, rest) := by
      by_cases hl : Fo.len k = 0
      · rw [argsT, if_pos (by omega), if_pos hl, len_zero hl]; rfl
      · rw [if_neg hl] at hf
        rw [argsT, if_neg (by omega), if_neg hl]
        have hr := readA_text (R := readT s f) (N := f) k 0 .nil ([41] ++ rest) (fun y hy r hlen => by
          obtain ⟨j, hj⟩ := List.mem_iff_getElem?.1 hy
          have hz : walkT s y.1 y.2 (d + 1) = 0 := by
            have : ∀ (F : Fo) (j : Nat) (y : (Bool × Int) × Fo), walkF s F (d + 1) = 0 → F.list[j]? = some y → walkT s y.1 y.2 (d + 1) = 0 := by
              intro F
              induction F with
              | nil => intro j y _ h; simp [Fo.list] at h
              | node p q x k r _ ihr =>
                intro j y hF hj
                obtain ⟨q1, q2⟩ := walkF_ok hF
                cases j with
                | zero => simp [Fo.list] at hj; subst hj; exact q1
                | succ j => exact ihr j y q2 (by simpa [Fo.list] using hj)
            exact this k j y hk hj
          exact ih y hy (d + 1) hz f r hlen) (by simp only [List.length_append] at hf ⊢; omega)
        simp only [Int.toNat_natCast]
        rw [show textF k 0 ++ [41] ++ rest = textF k 0 ++ ([41] ++ rest) by simp, hr]
        have : sgn 41 (41 :: rest) = (0, rest) := sgn_hit 41 rest
        simp [this, Fo.app]
    rw [hA]
    simp
  · obtain ⟨rfl, h0, h4⟩ := alone_var ha
    have hdn := dig_nat h0 h4
    have e : textT (true, n) .nil ++ rest = 88 :: dig n :: rest := by simp [textT]
    rw [e, readT, if_pos rfl, rvar, hdn, if_neg (by omega), show (48 + n - 48 : Int) = n by omega]
    rfl

theorem byte_back {c : UInt8} {n : Int} (h : (c.toNat : Int) = 97 + n) (h0 : 0 ≤ n) : c = sym n := by
  apply UInt8.toNat_inj.1
  rw [sym, UInt8.toNat_ofNat']
  have := c.toNat_lt
  omega
theorem dig_back {c : UInt8} {n : Int} (h : (c.toNat : Int) = 48 + n) (h0 : 0 ≤ n) : c = dig n := by
  apply UInt8.toNat_inj.1
  rw [dig, UInt8.toNat_ofNat']
  have := c.toNat_lt
  omega
theorem sgn_back {c : UInt8} {l : List UInt8} (h : (sgn c l).1 = 0) : l = c :: (sgn c l).2 := by
  cases l with
  | nil => simp [sgn] at h
  | cons d r =>
    by_cases e : d = c
    · simp [sgn, e]
    · simp [sgn, e] at h

/-- What is read of so many terms is their text. -/
theorem readA_back {R : List UInt8 → Int × ((Bool × Int) × Fo) × List UInt8} (hR : ∀ t, (R t).1 = 0 → t = textT (R t).2.1.1 (R t).2.1.2 ++ (R t).2.2) : ∀ (m : Nat) (i : Int) (acc : Fo) (t : List UInt8), (readA R m i acc t).1 = 0 → ∃ G, (readA R m i acc t).2.1 = Fo.app acc G ∧ Fo.len G = m ∧ t = textF G i ++ (readA R m i acc t).2.2
  | 0, i, acc, t, _ => ⟨.nil, by simp [readA, app_nil], rfl, by simp [readA, textF]⟩
  | m + 1, i, acc, t, h => by
    rw [readA] at h ⊢
    by_cases h1 : (sgn (signF i) t).1 = 0
    · rw [if_neg (by simpa using h1)] at h ⊢
      have e1 := sgn_back h1
      by_cases h2 : (R (sgn (signF i) t).2).1 = 0
      · rw [if_neg (by simpa using h2)] at h ⊢
        have e2 := hR _ h2
        obtain ⟨G, g1, g2, g3⟩ := readA_back hR m (i + 1) _ _ h
        refine ⟨.node 0 0 (R (sgn (signF i) t).2).2.1.1 (R (sgn (signF i) t).2).2.1.2 G, by rw [g1, app_snoc], by simp [Fo.len, g2], ?_⟩
        rw [textF_node]
        conv => lhs; rw [e1, e2, g3]
        simp
      · rw [if_pos h2] at h; exact absurd h h2
    · rw [if_pos h1] at h; exact absurd h h1

/-- What is read of a text is its term's text, and what is behind. -/
theorem read_back {s : List Int} : ∀ (f : Nat) (t : List UInt8), (readT s f t).1 = 0 → t = textT (readT s f t).2.1.1 (readT s f t).2.1.2 ++ (readT s f t).2.2
  | 0, t, h => by simp [readT] at h
  | f + 1, [], h => by simp [readT] at h
  | f + 1, c :: r, h => by
    rw [readT] at h ⊢
    by_cases h88 : c = 88
    · rw [if_pos h88] at h ⊢
      cases r with
      | nil => simp [rvar] at h
      | cons d r =>
        rw [rvar] at h ⊢
        by_cases hd : (d.toNat : Int) - 48 < 0 ∨ 5 ≤ (d.toNat : Int) - 48
        · rw [if_pos hd] at h; simp at h
        · rw [if_neg hd]
          have := dig_back (c := d) (n := (d.toNat : Int) - 48) (by omega) (by omega)
          simp only [textT, if_true]
          rw [← this, h88]
          simp
    · rw [if_neg h88] at h ⊢
      by_cases hn : (c.toNat : Int) - 97 < 0 ∨ (s.length : Int) ≤ (c.toNat : Int) - 97
      · rw [if_pos hn] at h; simp at h
      · rw [if_neg hn] at h ⊢
        by_cases ha : (argsT (readT s f) (s.getD ((c.toNat : Int) - 97).toNat 0) r).1 = 0
        · rw [if_neg (by simpa using ha)]
          have hc := byte_back (c := c) (n := (c.toNat : Int) - 97) (by omega) (by omega)
          generalize s.getD ((c.toNat : Int) - 97).toNat 0 = many at *
          rw [argsT] at ha ⊢
          by_cases hm : many ≤ 0
          · simp only [if_pos hm, textT]
            simp [Fo.len, ← hc]
          · rw [if_neg hm] at ha ⊢
            by_cases h1 : (readA (readT s f) many.toNat 0 .nil r).1 = 0
            · rw [if_neg (by simpa using h1)] at ha ⊢
              obtain ⟨G, g1, g2, g3⟩ := readA_back (fun t ht => read_back f t ht) many.toNat 0 .nil r h1
              by_cases h2 : (sgn 41 (readA (readT s f) many.toNat 0 .nil r).2.2).1 = 0
              · rw [if_neg (by simpa using h2)]
                have e2 := sgn_back h2
                simp only [textT, g1, Fo.app]
                rw [if_neg (by simp), if_neg (by omega), ← hc]
                conv => lhs; rw [g3, e2]
                simp
              · rw [if_pos h2] at ha; exact absurd ha h2
            · rw [if_pos h1] at ha; exact absurd ha h1
        · rw [if_pos ha] at h; exact absurd h ha

/-- What a right term's text is like. -/
theorem texts_ok {s : List Int} (h6 : s.length ≤ 6) : ∀ {F : Fo} {d : Int}, walkF s F d = 0 → Fo.texts F
  | .nil, _, _ => trivial
  | .node _ _ (v, n) k r, d, h => by
    obtain ⟨hT, hr⟩ := walkF_ok h
    obtain ⟨_, ha, hk⟩ := walkT_ok hT
    refine ⟨?_, texts_ok h6 hk, texts_ok h6 hr⟩
    cases v
    · obtain ⟨h0, h1, _⟩ := alone_sym ha
      simp only [Bool.false_eq_true, if_false]; omega
    · obtain ⟨_, h0, h4⟩ := alone_var ha
      simp only [if_true]; omega
theorem text_okT {s : List Int} (h6 : s.length ≤ 6) {x : Bool × Int} {k : Fo} {d : Int} (h : walkT s x k d = 0) : (0 ≤ x.2 ∧ x.2 ≤ (if x.1 then 4 else 100)) ∧ Fo.texts k := by
  obtain ⟨_, ha, hk⟩ := walkT_ok h
  obtain ⟨v, n⟩ := x
  refine ⟨?_, texts_ok h6 hk⟩
  cases v
  · obtain ⟨h0, h1, _⟩ := alone_sym ha
    simp only [Bool.false_eq_true, if_false]; omega
  · obtain ⟨_, h0, h4⟩ := alone_var ha
    simp only [if_true]; omega
theorem textF_len : ∀ (F : Fo) (i : Int), (textF F i).length ≤ 3 * Fo.sizesR F
  | .nil, _ => by simp [textF]
  | .node _ _ x k r, i => by
    have h1 := textF_len k 0
    have h2 := textF_len r (i + 1)
    simp only [textF, Fo.sizesR, List.length_append, List.length_cons]
    split
    · simp; omega
    · split
      · simp; omega
      · simp; omega
theorem textT_len (x : Bool × Int) (k : Fo) : (textT x k).length ≤ 3 * tszR k := by
  have := textF_len k 0
  unfold textT tszR
  split
  · simp; omega
  · split
    · simp; omega
    · simp; omega

end Go.Proofs.Ytfnkjadfepoicac

/- Bindings, told of terms alone: what a term is by bindings, and which variables are in it. -/
namespace Go.Proofs.Ytfnkjadfepoicac
open Go.RowKit Go.Deep Go.ChangeShapes Go.WideShapes

abbrev Tm := (Bool × Int) × Fo
abbrev Sb := List (Int × Tm)

def vr (n : Int) : Tm := ((true, n), .nil)

/-- Each variable is what f says. -/
def subF (f : Int → Tm) : Fo → Fo
  | .nil => .nil
  | .node _ _ x k r => if x.1 then .node 0 0 (f x.2).1 (f x.2).2 (subF f r) else .node 0 0 (false, x.2) (subF f k) (subF f r)
def subT (f : Int → Tm) (t : Tm) : Tm := if t.1.1 then f t.1.2 else ((false, t.1.2), subF f t.2)

theorem subF_node (f : Int → Tm) (p q : Nat) (x : Bool × Int) (k r : Fo) : subF f (.node p q x k r) = .node 0 0 (subT f (x, k)).1 (subT f (x, k)).2 (subF f r) := by
  obtain ⟨v, n⟩ := x
  cases v <;> simp [subF, subT]
theorem subT_var (f : Int → Tm) (n : Int) (k : Fo) : subT f ((true, n), k) = f n := rfl
theorem subT_sym (f : Int → Tm) (n : Int) (k : Fo) : subT f ((false, n), k) = ((false, n), subF f k) := rfl
theorem subF_list (f : Int → Tm) : ∀ F : Fo, (subF f F).list = F.list.map (subT f)
  | .nil => rfl
  | .node p q x k r => by rw [subF_node]; simp [Fo.list, subF_list f r]
theorem subF_len (f : Int → Tm) (F : Fo) : Fo.len (subF f F) = Fo.len F := by rw [← Fo.len_list, ← Fo.len_list, subF_list, List.length_map]
theorem subF_sub (f g : Int → Tm) : ∀ F : Fo, subF f (subF g F) = subF (fun n => subT f (g n)) F
  | .nil => rfl
  | .node p q ⟨v, n⟩ k r => by
    cases v
    · simp [subF, subF_sub f g k, subF_sub f g r]
    · rw [subF_node g, subF_node f, subF_sub f g r, subF_node]
      rfl
theorem subT_sub (f g : Int → Tm) (t : Tm) : subT f (subT g t) = subT (fun n => subT f (g n)) t := by
  obtain ⟨⟨v, n⟩, k⟩ := t
  cases v
  · simp [subT, subF_sub]
  · rfl

/-- A term as it should be: nothing that is no part of it, no arguments of variables. -/
def Fo.ok : Fo → Prop
  | .nil => True
  | .node p q x k r => p = 0 ∧ q = 0 ∧ (x.1 = true → k = .nil) ∧ Fo.ok k ∧ Fo.ok r
def okT (t : Tm) : Prop := (t.1.1 = true → t.2 = .nil) ∧ Fo.ok t.2

theorem ok_node {p q : Nat} {x : Bool × Int} {k r : Fo} : Fo.ok (.node p q x k r) ↔ p = 0 ∧ q = 0 ∧ okT (x, k) ∧ Fo.ok r := by
  simp only [Fo.ok, okT]
  constructor
  · rintro ⟨a, b, c, d, e⟩; exact ⟨a, b, ⟨c, d⟩, e⟩
  · rintro ⟨a, b, ⟨c, d⟩, e⟩; exact ⟨a, b, c, d, e⟩
theorem ok_vr (n : Int) : okT (vr n) := ⟨fun _ => rfl, trivial⟩
theorem ok_mem : ∀ {F : Fo} {t : Tm}, Fo.ok F → t ∈ F.list → okT t
  | .nil, _, _, h => by simp [Fo.list] at h
  | .node p q x k r, t, hF, h => by
    rw [ok_node] at hF
    simp only [Fo.list, List.mem_cons] at h
    rcases h with rfl | h
    · exact hF.2.2.1
    · exact ok_mem hF.2.2.2 h
theorem ok_eq : ∀ {F G : Fo}, Fo.ok F → Fo.ok G → F.list = G.list → F = G
  | .nil, .nil, _, _, _ => rfl
  | .nil, .node _ _ _ _ _, _, _, h => by simp [Fo.list] at h
  | .node _ _ _ _ _, .nil, _, _, h => by simp [Fo.list] at h
  | .node p q x k r, .node p' q' y l r', hF, hG, h => by
    rw [ok_node] at hF hG
    simp only [Fo.list, List.cons.injEq, Prod.mk.injEq] at h
    obtain ⟨⟨rfl, rfl⟩, h⟩ := h
    obtain ⟨rfl, rfl, _, hr⟩ := hF
    obtain ⟨rfl, rfl, _, hr'⟩ := hG
    rw [ok_eq hr hr' h]
theorem subF_ok {f : Int → Tm} (hf : ∀ n, okT (f n)) : ∀ F : Fo, Fo.ok (subF f F)
  | .nil => trivial
  | .node p q ⟨v, n⟩ k r => by
    rw [subF_node, ok_node]
    refine ⟨rfl, rfl, ?_, subF_ok hf r⟩
    cases v
    · exact ⟨fun h => by simp [subT] at h, subF_ok hf k⟩
    · exact hf n
theorem subT_ok {f : Int → Tm} (hf : ∀ n, okT (f n)) (t : Tm) : okT (subT f t) := by
  obtain ⟨⟨v, n⟩, k⟩ := t
  cases v
  · exact ⟨fun h => by simp [subT] at h, subF_ok hf k⟩
  · exact hf n
theorem subF_vr : ∀ {F : Fo}, Fo.ok F → subF vr F = F
  | .nil, _ => rfl
  | .node p q ⟨v, n⟩ k r, h => by
    rw [ok_node] at h
    obtain ⟨rfl, rfl, hk, hr⟩ := h
    rw [subF_node, subF_vr hr]
    cases v
    · rw [subT_sym, subF_vr hk.2]
    · have : k = .nil := hk.1 rfl
      subst this
      rfl
theorem subT_vr {t : Tm} (h : okT t) : subT vr t = t := by
  obtain ⟨⟨v, n⟩, k⟩ := t
  cases v
  · rw [subT_sym, subF_vr h.2]
  · have : k = .nil := h.1 rfl
    subst this
    rfl

/-- Same terms, of those that are as they should be, are one. -/
theorem same_eq : ∀ {F G : Fo}, Fo.ok F → Fo.ok G → sameF F G = true → F = G
  | .nil, .nil, _, _, _ => rfl
  | .nil, .node _ _ _ _ _, _, _, h => by simp [sameF] at h
  | .node _ _ _ _ _, .nil, _, _, h => by simp [sameF] at h
  | .node p q x k r, .node p' q' y l r', hF, hG, h => by
    simp only [sameF, Bool.and_eq_true, beq_iff_eq] at h
    obtain ⟨⟨⟨e1, e2⟩, e3⟩, e4⟩ := h
    rw [ok_node] at hF hG
    obtain ⟨rfl, rfl, hk, hr⟩ := hF
    obtain ⟨rfl, rfl, hl, hr'⟩ := hG
    have e5 : k = l := same_eq hk.2 hl.2 e3
    rw [show x = y from Prod.ext e1 e2, e5, same_eq hr hr' e4]
theorem sameT_eq {t u : Tm} (ht : okT t) (hu : okT u) (h : sameT t.1 t.2 u.1 u.2 = true) : t = u := by
  simp only [sameT, Bool.and_eq_true, beq_iff_eq] at h
  exact Prod.ext (Prod.ext h.1.1 h.1.2) (same_eq ht.2 hu.2 h.2)
theorem sameT_iff {t u : Tm} (ht : okT t) (hu : okT u) : sameT t.1 t.2 u.1 u.2 = true ↔ t = u :=
  ⟨fun h => sameT_eq ht hu h, fun h => by subst h; exact sameT_refl _ _⟩

/-- Is a variable in a term? -/
def occF (n : Int) : Fo → Prop
  | .nil => False
  | .node _ _ x k r => (if x.1 then x.2 = n else occF n k) ∨ occF n r
def occT (n : Int) (t : Tm) : Prop := if t.1.1 then t.1.2 = n else occF n t.2

theorem occ_mem {n : Int} : ∀ {F : Fo}, occF n F ↔ ∃ t ∈ F.list, occT n t
  | .nil => by simp [occF, Fo.list]
  | .node p q x k r => by
    have := occ_mem (n := n) (F := r)
    simp only [occF, Fo.list, List.mem_cons, exists_eq_or_imp, this]
    rfl
theorem occ_vr {m n : Int} : occT m (vr n) ↔ n = m := by simp [occT, vr]
theorem occ_sym {m n : Int} {k : Fo} : occT m ((false, n), k) ↔ occF m k := by simp [occT]
theorem subF_congr {f g : Int → Tm} : ∀ {F : Fo}, (∀ n, occF n F → f n = g n) → subF f F = subF g F
  | .nil, _ => rfl
  | .node p q ⟨v, n⟩ k r, h => by
    have hr := subF_congr (F := r) (fun m hm => h m (.inr hm))
    cases v
    · have hk := subF_congr (F := k) (fun m hm => h m (.inl (by simpa using hm)))
      simp [subF, hr, hk]
    · simp [subF, hr, h n (.inl (by simp))]
theorem subT_congr {f g : Int → Tm} {t : Tm} (h : ∀ n, occT n t → f n = g n) : subT f t = subT g t := by
  obtain ⟨⟨v, n⟩, k⟩ := t
  cases v
  · rw [subT_sym, subT_sym, subF_congr (fun m hm => h m (occ_sym.2 hm))]
  · exact h n (by simp [occT])
theorem occF_sub {m : Int} {f : Int → Tm} : ∀ {F : Fo}, occF m (subF f F) ↔ ∃ n, occF n F ∧ occT m (f n)
  | .nil => by simp [occF, subF]
  | .node p q ⟨v, n⟩ k r => by
    have hr := occF_sub (m := m) (f := f) (F := r)
    cases v
    · have hk := occF_sub (m := m) (f := f) (F := k)
      simp only [subF, occF, Bool.false_eq_true, if_false, hr, hk]
      constructor
      · rintro (⟨i, h1, h2⟩ | ⟨i, h1, h2⟩)
        · exact ⟨i, .inl h1, h2⟩
        · exact ⟨i, .inr h1, h2⟩
      · rintro ⟨i, h1 | h1, h2⟩
        · exact .inl ⟨i, h1, h2⟩
        · exact .inr ⟨i, h1, h2⟩
    · simp only [subF, occF, if_true, hr]
      constructor
      · rintro (h | ⟨i, h1, h2⟩)
        · exact ⟨n, .inl rfl, h⟩
        · exact ⟨i, .inr h1, h2⟩
      · rintro ⟨i, h1 | h1, h2⟩
        · subst h1; exact .inl h2
        · exact .inr ⟨i, h1, h2⟩
theorem occT_sub {m : Int} {f : Int → Tm} {t : Tm} : occT m (subT f t) ↔ ∃ n, occT n t ∧ occT m (f n) := by
  obtain ⟨⟨v, n⟩, k⟩ := t
  cases v
  · rw [subT_sym, occ_sym, occF_sub]
    simp only [occ_sym]
  · rw [subT_var]
    simp [occT]
theorem occ_varsF {m : Int} : ∀ {F : Fo} {l : List Int}, m ∈ varsF F l ↔ m ∈ l ∨ occF m F
  | .nil, l => by simp [varsF, occF]
  | .node p q ⟨v, n⟩ k r, l => by
    rw [varsF, occ_varsF (F := r)]
    cases v
    · have hk := occ_varsF (m := m) (F := k) (l := l)
      simp only [Bool.false_eq_true, if_false, hk, occF, or_assoc]
    · simp only [if_true, occF]
      by_cases hh : hasB l n = true
      · rw [if_pos hh]
        have hm : n ∈ l := by simpa [hasB] using hh
        constructor
        · rintro (h | h); exact .inl h; exact .inr (.inr h)
        · rintro (h | h | h); exact .inl h; (subst h; exact .inl hm); exact .inr h
      · rw [if_neg hh]
        simp only [List.mem_append, List.mem_singleton]
        constructor
        · rintro ((h | h) | h); exact .inl h; (subst h; exact .inr (.inl rfl)); exact .inr (.inr h)
        · rintro (h | h | h); exact .inl (.inl h); (subst h; exact .inl (.inr rfl)); exact .inr h
theorem occ_varsT {m : Int} {t : Tm} : m ∈ varsT t.1 t.2 [] ↔ occT m t := by
  obtain ⟨⟨v, n⟩, k⟩ := t
  cases v
  · simp [varsT, occT, occ_varsF]
  · simp [varsT, occT, hasB, eq_comm]
theorem occ_has {m : Int} {t : Tm} : hasB (varsT t.1 t.2 []) m = true ↔ occT m t := by
  rw [← occ_varsT]; simp [hasB]

/-- No variable comes twice. -/
theorem varsF_nodup : ∀ {F : Fo} {l : List Int}, l.Nodup → (varsF F l).Nodup
  | .nil, l, h => h
  | .node p q ⟨v, n⟩ k r, l, h => by
    rw [varsF]
    refine varsF_nodup ?_
    cases v
    · exact varsF_nodup (F := k) h
    · simp only [if_true]
      by_cases hh : hasB l n = true
      · rw [if_pos hh]; exact h
      · rw [if_neg hh, List.nodup_append]
        refine ⟨h, by simp, ?_⟩
        intro a ha b hb e
        simp only [List.mem_singleton] at hb
        subst e hb
        exact hh (by simpa [hasB] using ha)

/-- Bindings: the first pair of a variable. -/
def look : Sb → Int → Option Tm
  | [], _ => none
  | p :: s, n => if p.1 = n then some p.2 else look s n
def bnd (s : Sb) (n : Int) : Tm := (look s n).getD (vr n)

theorem look_mem {u : Tm} : ∀ {s : Sb} {n : Int}, look s n = some u → (n, u) ∈ s
  | [], n, h => by simp [look] at h
  | (m, t) :: s, n, h => by
    unfold look at h
    by_cases e : m = n
    · rw [if_pos e] at h; cases h; subst e; simp
    · rw [if_neg e] at h; exact List.mem_cons_of_mem _ (look_mem h)
theorem look_append (s s' : Sb) (n : Int) : look (s ++ s') n = (look s n).or (look s' n) := by
  induction s with
  | nil => rfl
  | cons p s ih =>
    simp only [List.cons_append, look]
    split
    · rfl
    · exact ih
theorem look_map (g : Tm → Tm) (s : Sb) (n : Int) : look (s.map fun p => (p.1, g p.2)) n = (look s n).map g := by
  induction s with
  | nil => rfl
  | cons p s ih =>
    simp only [List.map_cons, look]
    split
    · rfl
    · exact ih
theorem look_none {s : Sb} {n : Int} (h : ∀ p ∈ s, p.1 ≠ n) : look s n = none := by
  cases e : look s n with
  | none => rfl
  | some u => exact absurd rfl (h _ (look_mem e))
theorem bnd_some {s : Sb} {n : Int} {u : Tm} (h : look s n = some u) : bnd s n = u := by simp [bnd, h]
theorem bnd_none {s : Sb} {n : Int} (h : look s n = none) : bnd s n = vr n := by simp [bnd, h]
theorem bnd_ok {s : Sb} (h : ∀ p ∈ s, okT p.2) (n : Int) : okT (bnd s n) := by
  cases e : look s n with
  | none => rw [bnd_none e]; exact ok_vr n
  | some u => rw [bnd_some e]; exact h _ (look_mem e)
theorem bnd_nil (n : Int) : bnd [] n = vr n := rfl

/-- No term has more than a thousand arguments. -/
def narT (t : Tm) : Prop := Fo.len t.2 ≤ 1000 ∧ Fo.narrow t.2
theorem nar_vr (n : Int) : narT (vr n) := ⟨by simp [vr, Fo.len], trivial⟩
theorem nar_node {p q : Nat} {x : Bool × Int} {k r : Fo} : Fo.narrow (.node p q x k r) ↔ narT (x, k) ∧ Fo.narrow r := by
  simp only [Fo.narrow, narT]
  exact ⟨fun ⟨a, b, c⟩ => ⟨⟨a, b⟩, c⟩, fun ⟨⟨a, b⟩, c⟩ => ⟨a, b, c⟩⟩
theorem nar_mem : ∀ {F : Fo} {t : Tm}, Fo.narrow F → t ∈ F.list → narT t
  | .nil, _, _, h => by simp [Fo.list] at h
  | .node p q x k r, t, hF, h => by
    rw [nar_node] at hF
    simp only [Fo.list, List.mem_cons] at h
    rcases h with rfl | h
    · exact hF.1
    · exact nar_mem hF.2 h
theorem subF_nar {f : Int → Tm} (hf : ∀ n, narT (f n)) : ∀ {F : Fo}, Fo.narrow F → Fo.narrow (subF f F)
  | .nil, _ => trivial
  | .node p q ⟨v, n⟩ k r, h => by
    rw [nar_node] at h
    rw [subF_node, nar_node]
    refine ⟨?_, subF_nar hf h.2⟩
    cases v
    · rw [subT_sym]
      exact ⟨by rw [subF_len]; exact h.1.1, subF_nar hf h.1.2⟩
    · exact hf n
theorem subT_nar {f : Int → Tm} (hf : ∀ n, narT (f n)) {t : Tm} (h : narT t) : narT (subT f t) := by
  obtain ⟨⟨v, n⟩, k⟩ := t
  cases v
  · rw [subT_sym]
    exact ⟨by rw [subF_len]; exact h.1, subF_nar hf h.2⟩
  · exact hf n
theorem bnd_nar {s : Sb} (h : ∀ p ∈ s, narT p.2) (n : Int) : narT (bnd s n) := by
  cases e : look s n with
  | none => rw [bnd_none e]; exact nar_vr n
  | some u => rw [bnd_some e]; exact h _ (look_mem e)

/-- One way to make all arguments the same. -/
theorem subF_zip {f : Int → Tm} {F G : Fo} (h : subF f F = subF f G) : ∀ p ∈ F.list.zip G.list, subT f p.1 = subT f p.2 := by
  have e := congrArg Fo.list h
  rw [subF_list, subF_list] at e
  have : ∀ (l m : List Tm), l.map (subT f) = m.map (subT f) → ∀ p ∈ l.zip m, subT f p.1 = subT f p.2 := by
    intro l
    induction l with
    | nil => intro m _ p hp; simp at hp
    | cons a l ih =>
      intro m hm p hp
      cases m with
      | nil => simp at hp
      | cons b m =>
        simp only [List.map_cons, List.cons.injEq] at hm
        simp only [List.zip_cons_cons, List.mem_cons] at hp
        rcases hp with rfl | hp
        · exact hm.1
        · exact ih m hm.2 p hp
  exact this _ _ e
theorem subF_of_zip {f : Int → Tm} (hf : ∀ n, okT (f n)) {F G : Fo} (hl : Fo.len F = Fo.len G) (h : ∀ p ∈ F.list.zip G.list, subT f p.1 = subT f p.2) : subF f F = subF f G := by
  refine ok_eq (subF_ok hf F) (subF_ok hf G) ?_
  rw [subF_list, subF_list]
  rw [← Fo.len_list, ← Fo.len_list] at hl
  have : ∀ (l m : List Tm), l.length = m.length → (∀ p ∈ l.zip m, subT f p.1 = subT f p.2) → l.map (subT f) = m.map (subT f) := by
    intro l
    induction l with
    | nil => intro m hm _; cases m with
      | nil => rfl
      | cons b m => simp at hm
    | cons a l ih =>
      intro m hm hp
      cases m with
      | nil => simp at hm
      | cons b m =>
        simp only [List.map_cons, List.cons.injEq]
        refine ⟨hp (a, b) (by simp), ih m (by simpa using hm) (fun p h => hp p (by simp [h]))⟩
  exact this _ _ hl h

end Go.Proofs.Ytfnkjadfepoicac

/- What makes two terms the same, told of terms alone: the program's way step by step; it ends; what it finds. -/
namespace Go.Proofs.Ytfnkjadfepoicac
open Go.RowKit Go.Deep Go.ChangeShapes Go.WideShapes

/-- One binding more: it is that in all that was bound. -/
def addS (s : Sb) (n : Int) (t : Tm) : Option Sb :=
  if hasB (varsT t.1 t.2 []) n then none else some ((s.map fun p => (p.1, subT (bnd [(n, t)]) p.2)) ++ [(n, t)])
def top (s : Sb) (t : Tm) : Tm := if t.1.1 then (look s t.1.2).getD t else t
def stepU (s : Sb) (a b : Tm) (L : List (Tm × Tm)) : Option (Sb × List (Tm × Tm)) :=
  if (top s a).1.1 = true ∧ (top s b).1.1 = true ∧ (top s a).1.2 = (top s b).1.2 then some (s, L)
  else if (top s a).1.1 = true then (addS s (top s a).1.2 (subT (bnd s) (top s b))).map fun s' => (s', L)
  else if (top s b).1.1 = true then (addS s (top s b).1.2 (subT (bnd s) (top s a))).map fun s' => (s', L)
  else if (top s a).1.2 = (top s b).1.2 ∧ Fo.len (top s a).2 = Fo.len (top s b).2 then some (s, (top s a).2.list.zip (top s b).2.list ++ L)
  else none
def runU : Nat → Sb → List (Tm × Tm) → Option (Option Sb)
  | 0, _, _ => none
  | _ + 1, s, [] => some (some s)
  | n + 1, s, p :: L => match stepU s p.1 p.2 L with
    | none => some none
    | some q => runU n q.1 q.2

/-- How deep a term is. -/
def depF : Fo → Nat
  | .nil => 0
  | .node _ _ _ k r => max (1 + depF k) (depF r)
def depT (t : Tm) : Nat := 1 + depF t.2

theorem dep_mem : ∀ {F : Fo} {t : Tm}, t ∈ F.list → depT t ≤ depF F
  | .nil, _, h => by simp [Fo.list] at h
  | .node p q x k r, t, h => by
    simp only [Fo.list, List.mem_cons] at h
    rcases h with rfl | h
    · simp only [depF, depT]; omega
    · have := dep_mem h
      simp only [depF]; omega
theorem depF_sub {f : Int → Tm} {d : Nat} (hf : ∀ n, depT (f n) ≤ d + 1) : ∀ F : Fo, depF (subF f F) ≤ depF F + d
  | .nil => by simp [subF, depF]
  | .node p q ⟨v, n⟩ k r => by
    have hr := depF_sub hf r
    rw [subF_node]
    cases v
    · have hk := depF_sub hf k
      simp only [subT_sym, depF]; omega
    · have := hf n
      simp only [subT_var, depF]
      simp only [depT] at this
      omega
theorem depT_sub {f : Int → Tm} {d : Nat} (hf : ∀ n, depT (f n) ≤ d + 1) (t : Tm) : depT (subT f t) ≤ depT t + d := by
  obtain ⟨⟨v, n⟩, k⟩ := t
  cases v
  · have := depF_sub hf k
    simp only [subT_sym, depT]; omega
  · have := hf n
    rw [subT_var]
    simp only [depT] at this ⊢
    omega

/-- No term has more than two arguments. -/
def twoF : Fo → Prop
  | .nil => True
  | .node _ _ _ k r => Fo.len k ≤ 2 ∧ twoF k ∧ twoF r
def twoT (t : Tm) : Prop := Fo.len t.2 ≤ 2 ∧ twoF t.2
theorem two_vr (n : Int) : twoT (vr n) := ⟨by simp [vr, Fo.len], trivial⟩
theorem two_node {p q : Nat} {x : Bool × Int} {k r : Fo} : twoF (.node p q x k r) ↔ twoT (x, k) ∧ twoF r := by
  simp only [twoF, twoT]
  exact ⟨fun ⟨a, b, c⟩ => ⟨⟨a, b⟩, c⟩, fun ⟨⟨a, b⟩, c⟩ => ⟨a, b, c⟩⟩
theorem two_mem : ∀ {F : Fo} {t : Tm}, twoF F → t ∈ F.list → twoT t
  | .nil, _, _, h => by simp [Fo.list] at h
  | .node p q x k r, t, hF, h => by
    rw [two_node] at hF
    simp only [Fo.list, List.mem_cons] at h
    rcases h with rfl | h
    · exact hF.1
    · exact two_mem hF.2 h
theorem two_nar : ∀ {F : Fo}, twoF F → Fo.narrow F
  | .nil, _ => trivial
  | .node p q x k r, h => ⟨by have := h.1; omega, two_nar h.2.1, two_nar h.2.2⟩
theorem twoT_nar {t : Tm} (h : twoT t) : narT t := ⟨by have := h.1; omega, two_nar h.2⟩
theorem subF_two {f : Int → Tm} (hf : ∀ n, twoT (f n)) : ∀ {F : Fo}, twoF F → twoF (subF f F)
  | .nil, _ => trivial
  | .node p q ⟨v, n⟩ k r, h => by
    rw [two_node] at h
    rw [subF_node, two_node]
    refine ⟨?_, subF_two hf h.2⟩
    cases v
    · rw [subT_sym]
      exact ⟨by rw [subF_len]; exact h.1.1, subF_two hf h.1.2⟩
    · exact hf n
theorem subT_two {f : Int → Tm} (hf : ∀ n, twoT (f n)) {t : Tm} (h : twoT t) : twoT (subT f t) := by
  obtain ⟨⟨v, n⟩, k⟩ := t
  cases v
  · rw [subT_sym]
    exact ⟨by rw [subF_len]; exact h.1, subF_two hf h.2⟩
  · exact hf n
theorem bnd_two {s : Sb} (h : ∀ p ∈ s, twoT p.2) (n : Int) : twoT (bnd s n) := by
  cases e : look s n with
  | none => rw [bnd_none e]; exact two_vr n
  | some u => rw [bnd_some e]; exact h _ (look_mem e)

/-- A term that is as it should be, not too wide, of the first ten variables. -/
structure Gd (t : Tm) : Prop where
  ok : okT t
  two : twoT t
  few : ∀ m, occT m t → 0 ≤ m ∧ m ≤ 9

theorem Gd.nar {t : Tm} (h : Gd t) : narT t := twoT_nar h.two
theorem gd_vr {n : Int} (h : 0 ≤ n ∧ n ≤ 9) : Gd (vr n) := ⟨ok_vr n, two_vr n, fun m hm => by rw [occ_vr] at hm; subst hm; exact h⟩
theorem gd_mem {F : Fo} {x : Bool × Int} {t : Tm} (h : Gd (x, F)) (hx : x.1 = false) (ht : t ∈ F.list) : Gd t := by
  refine ⟨ok_mem h.ok.2 ht, two_mem h.two.2 ht, fun m hm => h.few m ?_⟩
  unfold occT
  simp only [hx, Bool.false_eq_true, if_false]
  exact occ_mem.2 ⟨t, ht, hm⟩
theorem gd_bnd {s : Sb} (h : ∀ p ∈ s, Gd p.2) {n : Int} (hn : 0 ≤ n ∧ n ≤ 9) : Gd (bnd s n) := by
  cases e : look s n with
  | none => rw [bnd_none e]; exact gd_vr hn
  | some u => rw [bnd_some e]; exact h _ (look_mem e)
theorem gd_sub {s : Sb} (h : ∀ p ∈ s, Gd p.2) {t : Tm} (ht : Gd t) : Gd (subT (bnd s) t) := by
  refine ⟨subT_ok (bnd_ok fun p hp => (h p hp).ok) t, subT_two (bnd_two fun p hp => (h p hp).two) ht.two, fun m hm => ?_⟩
  obtain ⟨n, h1, h2⟩ := occT_sub.1 hm
  exact (gd_bnd h (ht.few n h1)).few m h2
theorem gd_top {s : Sb} (h : ∀ p ∈ s, Gd p.2) {t : Tm} (ht : Gd t) : Gd (top s t) := by
  unfold top
  split
  · cases e : look s t.1.2 with
    | none => simpa using ht
    | some u => simpa using h _ (look_mem e)
  · exact ht

/-- What is bound has none of the variables that are bound. -/
def Idem (s : Sb) : Prop := ∀ p ∈ s, ∀ m, occT m p.2 → look s m = none

theorem idem_same {s : Sb} {u : Tm} (hu : okT u) (h : ∀ m, occT m u → look s m = none) : subT (bnd s) u = u := by
  rw [subT_congr (g := vr) (fun m hm => bnd_none (h m hm)), subT_vr hu]
theorem top_sub {s : Sb} (hi : Idem s) (ho : ∀ p ∈ s, okT p.2) (t : Tm) : subT (bnd s) (top s t) = subT (bnd s) t := by
  unfold top
  split
  · rename_i hv
    cases e : look s t.1.2 with
    | none => rfl
    | some u =>
      simp only [Option.getD_some]
      have hm := look_mem e
      rw [idem_same (ho _ hm) (hi _ hm), subT, if_pos hv, bnd_some e]
  · rfl
/-- What is looked up is no variable that is bound. -/
theorem top_free {s : Sb} (hi : Idem s) {t : Tm} (h : (top s t).1.1 = true) : look s (top s t).1.2 = none := by
  unfold top at h ⊢
  split at h
  · rename_i hv
    rw [if_pos hv]
    cases e : look s t.1.2 with
    | none => simp [e]
    | some u =>
      simp only [e, Option.getD_some] at h ⊢
      refine hi _ (look_mem e) _ ?_
      unfold occT
      simp [h]
  · rename_i hv
    exact absurd h hv
theorem var_eq {t : Tm} (h : okT t) (hv : t.1.1 = true) : t = vr t.1.2 := by
  obtain ⟨⟨v, n⟩, k⟩ := t
  have : k = .nil := h.1 hv
  have hv' : v = true := hv
  subst this hv'
  rfl
theorem sym_eq {t : Tm} (hv : ¬ t.1.1 = true) : t = ((false, t.1.2), t.2) := by
  obtain ⟨⟨v, n⟩, k⟩ := t
  have hv' : v = false := by simpa using hv
  subst hv'
  rfl

theorem addS_some {s s' : Sb} {n : Int} {t : Tm} (h : addS s n t = some s') : ¬ occT n t ∧ s' = (s.map fun p => (p.1, subT (bnd [(n, t)]) p.2)) ++ [(n, t)] := by
  unfold addS at h
  split at h
  · cases h
  · rename_i hh
    exact ⟨fun e => hh (occ_has.2 e), (Option.some.inj h).symm⟩
theorem addS_none {s : Sb} {n : Int} {t : Tm} (h : addS s n t = none) : occT n t := by
  unfold addS at h
  split at h
  · rename_i hh; exact occ_has.1 hh
  · cases h
theorem bnd_one (n : Int) (t : Tm) (m : Int) : bnd [(n, t)] m = if n = m then t else vr m := by
  unfold bnd look
  split
  · rfl
  · rfl
theorem add_look {s s' : Sb} {n : Int} {t : Tm} (h : addS s n t = some s') (m : Int) : look s' m = match look s m with
    | some u => some (subT (bnd [(n, t)]) u)
    | none => if n = m then some t else none := by
  rw [(addS_some h).2, look_append, look_map (subT (bnd [(n, t)]))]
  cases look s m with
  | none => simp [look]
  | some u => rfl

/-- The bindings s and then more. -/
def Ref (s s' : Sb) : Prop := ∀ n, subT (bnd s') (bnd s n) = bnd s' n
theorem ref_sub {s s' : Sb} (h : Ref s s') (t : Tm) : subT (bnd s') (subT (bnd s) t) = subT (bnd s') t := by
  rw [subT_sub]; exact subT_congr fun n _ => h n
theorem ref_trans {s s1 s' : Sb} (h : Ref s s1) (h1 : Ref s1 s') : Ref s s' := fun n => by
  rw [← ref_sub h1, h n, h1 n]
theorem ref_refl {s : Sb} (hi : Idem s) (ho : ∀ p ∈ s, okT p.2) : Ref s s := fun n => by
  cases e : look s n with
  | none => rw [bnd_none e]; exact bnd_none e
  | some u => rw [bnd_some e]; exact idem_same (ho _ (look_mem e)) (hi _ (look_mem e))

/-- What one binding more makes of it. -/
theorem add_facts {s s' : Sb} {n : Int} {t : Tm} (h : addS s n t = some s') (hi : Idem s) (hn : look s n = none) (ht : okT t) (hf : ∀ m, occT m t → look s m = none) :
    Ref s s' ∧ Idem s' ∧ bnd s' n = t ∧ subT (bnd s') t = t ∧ (∀ u, (∀ m, occT m u → look s m = none) → subT (bnd s') u = subT (bnd [(n, t)]) u) := by
  have hno := (addS_some h).1
  have hl := add_look h
  have hb : ∀ m, look s m = none → bnd s' m = bnd [(n, t)] m := fun m hm => by
    have := hl m
    rw [hm] at this
    simp only at this
    rw [bnd, this, bnd_one]
    split <;> rfl
  have hs : ∀ u, (∀ m, occT m u → look s m = none) → subT (bnd s') u = subT (bnd [(n, t)]) u := fun u hu => subT_congr fun m hm => hb m (hu m hm)
  have ht1 : subT (bnd [(n, t)]) t = t := by
    rw [subT_congr (g := vr), subT_vr ht]
    intro m hm
    rw [bnd_one, if_neg]
    intro e
    subst e
    exact hno hm
  have hfree : ∀ m, (look s m = none) → n ≠ m → look s' m = none := fun m hm he => by
    have := hl m
    rw [hm] at this
    simpa [he] using this
  refine ⟨?_, ?_, ?_, ?_, hs⟩
  · intro m
    cases e : look s m with
    | none => rw [bnd_none e]; rfl
    | some u =>
      rw [bnd_some e, hs u (hi _ (look_mem e))]
      have := hl m
      rw [e] at this
      exact (bnd_some this).symm
  · intro p hp m hm
    rw [(addS_some h).2] at hp
    rw [List.mem_append, List.mem_map, List.mem_singleton] at hp
    rcases hp with ⟨q, hq, rfl⟩ | rfl
    · obtain ⟨j, h1, h2⟩ := occT_sub.1 hm
      rw [bnd_one] at h2
      split at h2
      · exact hfree m (hf m h2) (fun e => by subst e; exact hno h2)
      · rename_i hne
        rw [occ_vr] at h2
        subst h2
        exact hfree _ (hi q hq _ h1) hne
    · exact hfree m (hf m hm) (fun e => by subst e; exact hno hm)
  · rw [hb n hn, bnd_one, if_pos rfl]
  · rw [hs t hf, ht1]

theorem sub_free {s : Sb} (hi : Idem s) {t : Tm} {m : Int} (h : occT m (subT (bnd s) t)) : look s m = none := by
  obtain ⟨n, h1, h2⟩ := occT_sub.1 h
  cases e : look s n with
  | none =>
    rw [bnd_none e, occ_vr] at h2
    subst h2
    exact e
  | some u =>
    rw [bnd_some e] at h2
    exact hi _ (look_mem e) m h2

/-- How many of the first ten variables are not bound. -/
def fre (s : Sb) : Nat := ([0, 1, 2, 3, 4, 5, 6, 7, 8, 9].filter fun v : Int => (look s v).isNone).length

theorem filter_le {p q : Int → Bool} : ∀ {l : List Int}, (∀ m ∈ l, q m = true → p m = true) → (l.filter q).length ≤ (l.filter p).length
  | [], _ => by simp
  | b :: l, hi => by
    have ih := filter_le (l := l) (fun m hm => hi m (by simp [hm]))
    have hb := hi b (by simp)
    cases hq : q b
    · cases hp : p b
      · simpa [hp, hq] using ih
      · simp [hp, hq]; omega
    · simp [hb hq, hq]; omega
theorem filter_less {p q : Int → Bool} {n : Int} : ∀ {l : List Int}, n ∈ l → (∀ m ∈ l, q m = true → p m = true) → p n = true → q n = false → (l.filter q).length < (l.filter p).length
  | [], h, _, _, _ => by simp at h
  | a :: l, h, hi, hp, hq => by
    have hle := filter_le (l := l) (p := p) (q := q) (fun m hm => hi m (by simp [hm]))
    by_cases ea : a = n
    · subst ea
      simp [hp, hq]; omega
    · have ih := filter_less (n := n) (l := l) (by simpa [Ne.symm ea] using h) (fun m hm => hi m (by simp [hm])) hp hq
      have ha := hi a (by simp)
      cases e : q a
      · cases e' : p a
        · simpa [e, e'] using ih
        · simp [e, e']; omega
      · simp [ha e, e]; omega
theorem fre_add {s s' : Sb} {n : Int} {t : Tm} (h : addS s n t = some s') (hn : look s n = none) (hr : 0 ≤ n ∧ n ≤ 9) : fre s' < fre s := by
  refine filter_less (n := n) ?_ ?_ ?_ ?_
  · have : n = 0 ∨ n = 1 ∨ n = 2 ∨ n = 3 ∨ n = 4 ∨ n = 5 ∨ n = 6 ∨ n = 7 ∨ n = 8 ∨ n = 9 := by omega
    rcases this with rfl | rfl | rfl | rfl | rfl | rfl | rfl | rfl | rfl | rfl <;> decide
  · intro m _ hm
    rw [add_look h] at hm
    cases e : look s m with
    | none => rfl
    | some u => rw [e] at hm; simp at hm
  · simp [hn]
  · rw [add_look h, hn]
    simp

/-- All that waits, by what is bound: so deep, so far from the end. -/
def dpL (s : Sb) (D : Nat) : List (Tm × Tm) → Prop
  | [] => True
  | p :: L => depT (subT (bnd s) p.1) + L.length ≤ D ∧ depT (subT (bnd s) p.2) + L.length ≤ D ∧ dpL s D L

structure UI (s : Sb) (L : List (Tm × Tm)) : Prop where
  gs : ∀ p ∈ s, Gd p.2
  vs : ∀ p ∈ s, 0 ≤ p.1 ∧ p.1 ≤ 9
  gL : ∀ p ∈ L, Gd p.1 ∧ Gd p.2
  idem : Idem s
  five : s.length + fre s ≤ 10
  dep : dpL s (12 * 2 ^ s.length) L
  deps : ∀ p ∈ s, depT p.2 ≤ 12 * 2 ^ s.length

theorem ui_ok {s : Sb} {L : List (Tm × Tm)} (h : UI s L) : ∀ p ∈ s, okT p.2 := fun p hp => (h.gs p hp).ok
theorem dpL_len {s : Sb} {D : Nat} : ∀ {L : List (Tm × Tm)}, dpL s D L → L.length ≤ D
  | [], _ => Nat.zero_le _
  | p :: L, h => by
    have := h.1
    simp only [depT, List.length_cons] at *
    omega
theorem ui_len {s : Sb} {L : List (Tm × Tm)} (h : UI s L) : L.length ≤ 12288 ∧ s.length ≤ 10 := by
  have h5 := h.five
  have h1 := dpL_len h.dep
  have h2 : 2 ^ s.length ≤ 2 ^ 10 := Nat.pow_le_pow_right (by decide) (by omega)
  omega
theorem dep_bnd {s : Sb} {L : List (Tm × Tm)} (h : UI s L) (n : Int) : depT (bnd s n) ≤ 12 * 2 ^ s.length := by
  cases e : look s n with
  | none =>
    rw [bnd_none e]
    have : 0 < 2 ^ s.length := Nat.pow_pos (by decide)
    simp only [vr, depT, depF]; omega
  | some u => rw [bnd_some e]; exact h.deps _ (look_mem e)

theorem dpL_zip {s : Sb} {D : Nat} {x y : Fo} {L : List (Tm × Tm)} (hx : depF (subF (bnd s) x) + L.length + 1 ≤ D) (hy : depF (subF (bnd s) y) + L.length + 1 ≤ D) (hl : Fo.len x ≤ 2) (h : dpL s D L) :
    dpL s D (x.list.zip y.list ++ L) := by
  have hz : ∀ p ∈ x.list.zip y.list, depT (subT (bnd s) p.1) ≤ depF (subF (bnd s) x) ∧ depT (subT (bnd s) p.2) ≤ depF (subF (bnd s) y) := by
    intro p hp
    have h1 := List.of_mem_zip hp
    refine ⟨dep_mem ?_, dep_mem ?_⟩
    · rw [subF_list]; exact List.mem_map_of_mem h1.1
    · rw [subF_list]; exact List.mem_map_of_mem h1.2
  have hlen : (x.list.zip y.list).length ≤ 2 := by
    rw [List.length_zip, Fo.len_list]; omega
  match hh : x.list.zip y.list, hlen with
  | [], _ => exact h
  | [p], _ =>
    rw [hh] at hz
    have := hz p (by simp)
    refine ⟨?_, ?_, h⟩
    · show _ + L.length ≤ D; omega
    · show _ + L.length ≤ D; omega
  | [p, q], _ =>
    rw [hh] at hz
    have h1 := hz p (by simp)
    have h2 := hz q (by simp)
    refine ⟨?_, ?_, ?_, ?_, h⟩
    · show _ + (L.length + 1) ≤ D; omega
    · show _ + (L.length + 1) ≤ D; omega
    · show _ + L.length ≤ D; omega
    · show _ + L.length ≤ D; omega
theorem dpL_add {s s' : Sb} {D d : Nat} {n : Int} {t : Tm} (hr : ∀ u, subT (bnd s') u = subT (bnd [(n, t)]) (subT (bnd s) u)) (hd : depT t ≤ d + 1) : ∀ {L : List (Tm × Tm)}, dpL s D L → dpL s' (D + d) L
  | [], _ => trivial
  | p :: L, h => by
    have ho : ∀ m, depT (bnd [(n, t)] m) ≤ d + 1 := fun m => by
      rw [bnd_one]
      split
      · exact hd
      · simp [vr, depT, depF]
    refine ⟨?_, ?_, dpL_add hr hd h.2.2⟩
    · rw [hr]
      have := depT_sub ho (subT (bnd s) p.1)
      have := h.1
      omega
    · rw [hr]
      have := depT_sub ho (subT (bnd s) p.2)
      have := h.2.1
      omega

end Go.Proofs.Ytfnkjadfepoicac

/- What makes two terms the same, told of terms alone: each step keeps what is known; it ends; what is found makes them the same, and no more than it must. -/
namespace Go.Proofs.Ytfnkjadfepoicac
open Go.RowKit Go.Deep Go.ChangeShapes Go.WideShapes

/-- A step's four ways. -/
theorem stepU_cases {s s' : Sb} {a b : Tm} {L L' : List (Tm × Tm)} (h : stepU s a b L = some (s', L')) :
    ((top s a).1.1 = true ∧ (top s b).1.1 = true ∧ (top s a).1.2 = (top s b).1.2 ∧ s' = s ∧ L' = L) ∨
    (∃ x y, (x = top s a ∧ y = top s b ∨ x = top s b ∧ y = top s a) ∧ x.1.1 = true ∧ addS s x.1.2 (subT (bnd s) y) = some s' ∧ L' = L) ∨
    (¬ (top s a).1.1 = true ∧ ¬ (top s b).1.1 = true ∧ (top s a).1.2 = (top s b).1.2 ∧ Fo.len (top s a).2 = Fo.len (top s b).2 ∧ s' = s ∧ L' = (top s a).2.list.zip (top s b).2.list ++ L) := by
  unfold stepU at h
  split at h
  · rename_i hc
    simp only [Option.some.injEq, Prod.mk.injEq] at h
    exact .inl ⟨hc.1, hc.2.1, hc.2.2, h.1.symm, h.2.symm⟩
  · split at h
    · rename_i hv
      simp only [Option.map_eq_some_iff, Prod.mk.injEq] at h
      obtain ⟨s1, h1, rfl, rfl⟩ := h
      exact .inr (.inl ⟨_, _, .inl ⟨rfl, rfl⟩, hv, h1, rfl⟩)
    · split at h
      · rename_i hv
        simp only [Option.map_eq_some_iff, Prod.mk.injEq] at h
        obtain ⟨s1, h1, rfl, rfl⟩ := h
        exact .inr (.inl ⟨_, _, .inr ⟨rfl, rfl⟩, hv, h1, rfl⟩)
      · split at h
        · rename_i h1 h2 h3
          simp only [Option.some.injEq, Prod.mk.injEq] at h
          exact .inr (.inr ⟨h1, h2, h3.1, h3.2, h.1.symm, h.2.symm⟩)
        · cases h

theorem ui_tail {s : Sb} {p : Tm × Tm} {L : List (Tm × Tm)} (h : UI s (p :: L)) : UI s L :=
  ⟨h.gs, h.vs, fun q hq => h.gL q (by simp [hq]), h.idem, h.five, h.dep.2.2, h.deps⟩

theorem step_add {s s' : Sb} {p : Tm × Tm} {L : List (Tm × Tm)} {x y : Tm} (h : UI s (p :: L)) (hxy : x = top s p.1 ∧ y = top s p.2 ∨ x = top s p.2 ∧ y = top s p.1) (hv : x.1.1 = true) (ha : addS s x.1.2 (subT (bnd s) y) = some s') :
    UI s' L ∧ fre s' < fre s ∧ Ref s s' ∧ bnd s' x.1.2 = subT (bnd s') y := by
  have hp := h.gL p (by simp)
  have hgx : Gd x := by rcases hxy with ⟨rfl, _⟩ | ⟨rfl, _⟩; exact gd_top h.gs hp.1; exact gd_top h.gs hp.2
  have hgy : Gd y := by rcases hxy with ⟨_, rfl⟩ | ⟨_, rfl⟩; exact gd_top h.gs hp.2; exact gd_top h.gs hp.1
  have hfree : look s x.1.2 = none := by rcases hxy with ⟨rfl, _⟩ | ⟨rfl, _⟩ <;> exact top_free h.idem hv
  have hrng : 0 ≤ x.1.2 ∧ x.1.2 ≤ 9 := hgx.few _ (by unfold occT; simp [hv])
  have hdy : depT (subT (bnd s) y) ≤ 12 * 2 ^ s.length := by
    have h1 := h.dep.1
    have h2 := h.dep.2.1
    rcases hxy with ⟨_, rfl⟩ | ⟨_, rfl⟩
    · rw [top_sub h.idem (ui_ok h)]; omega
    · rw [top_sub h.idem (ui_ok h)]; omega
  have hgt := gd_sub h.gs hgy
  obtain ⟨f1, f2, f3, f4, f5⟩ := add_facts ha h.idem hfree hgt.ok (fun m hm => sub_free h.idem hm)
  have hlt := fre_add ha hfree hrng
  have e := (addS_some ha).2
  have hlen : s'.length = s.length + 1 := by rw [e]; simp
  have hpow : 12 * 2 ^ s'.length = 12 * 2 ^ s.length + 12 * 2 ^ s.length := by rw [hlen, Nat.pow_succ]; omega
  have hpos : 0 < 2 ^ s.length := Nat.pow_pos (by decide)
  have hone : ∀ q ∈ [(x.1.2, subT (bnd s) y)], Gd q.2 := fun q hq => by
    simp only [List.mem_singleton] at hq
    subst hq
    exact hgt
  have hd1 : ∀ m, depT (bnd [(x.1.2, subT (bnd s) y)] m) ≤ (12 * 2 ^ s.length - 1) + 1 := fun m => by
    rw [bnd_one]
    split
    · omega
    · simp [vr, depT, depF]
  have hr : ∀ u, subT (bnd s') u = subT (bnd [(x.1.2, subT (bnd s) y)]) (subT (bnd s) u) := fun u => by
    rw [← ref_sub f1, f5 _ (fun m hm => sub_free h.idem hm)]
  refine ⟨⟨?_, ?_, fun q hq => h.gL q (by simp [hq]), f2, by have := h.five; omega, ?_, ?_⟩, hlt, f1, ?_⟩
  · intro q hq
    rw [e, List.mem_append, List.mem_map, List.mem_singleton] at hq
    rcases hq with ⟨q, hq, rfl⟩ | rfl
    · exact gd_sub hone (h.gs q hq)
    · exact hgt
  · intro q hq
    rw [e, List.mem_append, List.mem_map, List.mem_singleton] at hq
    rcases hq with ⟨q, hq, rfl⟩ | rfl
    · exact h.vs q hq
    · exact hrng
  · rw [hpow]
    have := dpL_add (D := 12 * 2 ^ s.length) (d := 12 * 2 ^ s.length - 1) hr (by omega) h.dep.2.2
    have hm : ∀ {D D' : Nat} {M : List (Tm × Tm)}, D ≤ D' → dpL s' D M → dpL s' D' M := by
      intro D D' M hD
      induction M with
      | nil => exact fun _ => trivial
      | cons q M ih => exact fun hM => ⟨Nat.le_trans hM.1 hD, Nat.le_trans hM.2.1 hD, ih hM.2.2⟩
    exact hm (by omega) this
  · intro q hq
    rw [e, List.mem_append, List.mem_map, List.mem_singleton] at hq
    rcases hq with ⟨q, hq, rfl⟩ | rfl
    · have := depT_sub hd1 q.2
      have := h.deps q hq
      simp only
      omega
    · simp only; omega
  · rw [f3, ← ref_sub f1, f4]

/-- How much there is, by what is bound. -/
def szT (t : Tm) : Nat := tszR t.2
def tot (s : Sb) : List (Tm × Tm) → Nat
  | [] => 0
  | p :: L => szT (subT (bnd s) p.1) + szT (subT (bnd s) p.2) + tot s L
theorem tot_append (s : Sb) : ∀ L M : List (Tm × Tm), tot s (L ++ M) = tot s L + tot s M
  | [], M => by simp [tot]
  | p :: L, M => by simp only [List.cons_append, tot, tot_append s L M]; omega
theorem tot_zip (s : Sb) : ∀ {F G : Fo}, Fo.len F = Fo.len G → tot s (F.list.zip G.list) = Fo.sizesR (subF (bnd s) F) + Fo.sizesR (subF (bnd s) G)
  | .nil, .nil, _ => rfl
  | .nil, .node _ _ _ _ _, h => by simp [Fo.len] at h
  | .node _ _ _ _ _, .nil, h => by simp [Fo.len] at h
  | .node p q x k r, .node p' q' y l r', h => by
    have := tot_zip s (F := r) (G := r') (by simpa [Fo.len] using h)
    rw [subF_node, subF_node]
    simp only [Fo.list, List.zip_cons_cons, tot, this, Fo.sizesR, szT, tszR]
    omega

theorem step_dec {s : Sb} {p : Tm × Tm} {L : List (Tm × Tm)} (h : UI s (p :: L)) (e1 : ¬ (top s p.1).1.1 = true) (e2 : ¬ (top s p.2).1.1 = true) (hl : Fo.len (top s p.1).2 = Fo.len (top s p.2).2) :
    UI s ((top s p.1).2.list.zip (top s p.2).2.list ++ L) ∧ tot s ((top s p.1).2.list.zip (top s p.2).2.list ++ L) < tot s (p :: L) := by
  have hp := h.gL p (by simp)
  have g1 := gd_top h.gs hp.1
  have g2 := gd_top h.gs hp.2
  have t1 := top_sub h.idem (ui_ok h) p.1
  have t2 := top_sub h.idem (ui_ok h) p.2
  have s1 := sym_eq e1
  have s2 := sym_eq e2
  generalize top s p.1 = x at *
  generalize top s p.2 = y at *
  obtain ⟨⟨xv, xn⟩, xk⟩ := x
  obtain ⟨⟨yv, yn⟩, yk⟩ := y
  have hxv : xv = false := by simpa using e1
  have hyv : yv = false := by simpa using e2
  subst hxv hyv
  rw [subT_sym] at t1 t2
  have d1 := h.dep.1
  have d2 := h.dep.2.1
  rw [← t1] at d1
  rw [← t2] at d2
  simp only [depT] at d1 d2
  refine ⟨⟨h.gs, h.vs, ?_, h.idem, h.five, ?_, h.deps⟩, ?_⟩
  · intro q hq
    rw [List.mem_append] at hq
    rcases hq with hq | hq
    · have := List.of_mem_zip hq
      exact ⟨gd_mem g1 rfl this.1, gd_mem g2 rfl this.2⟩
    · exact h.gL q (by simp [hq])
  · exact dpL_zip (x := xk) (y := yk) (by omega) (by omega) g1.two.1 h.dep.2.2
  · rw [tot_append, tot_zip s hl, tot, ← t1, ← t2]
    simp only [szT, tszR]
    omega

theorem step_keeps {s s' : Sb} {p : Tm × Tm} {L L' : List (Tm × Tm)} (h : UI s (p :: L)) (hst : stepU s p.1 p.2 L = some (s', L')) :
    UI s' L' ∧ (fre s' < fre s ∨ (fre s' = fre s ∧ tot s' L' < tot s (p :: L))) := by
  rcases stepU_cases hst with ⟨_, _, _, rfl, rfl⟩ | ⟨x, y, hxy, hv, ha, rfl⟩ | ⟨e1, e2, _, hl, rfl, rfl⟩
  · refine ⟨ui_tail h, .inr ⟨rfl, ?_⟩⟩
    simp only [tot, szT, tszR]; omega
  · have := step_add h hxy hv ha
    exact ⟨this.1, .inl this.2.1⟩
  · have := step_dec h e1 e2 hl
    exact ⟨this.1, .inr ⟨rfl, this.2⟩⟩

/-- It ends. -/
theorem runU_end : ∀ (u t : Nat) (s : Sb) (L : List (Tm × Tm)), fre s = u → tot s L = t → UI s L → ∃ n R, runU n s L = some R := by
  intro u
  induction u using Nat.strongRecOn with
  | _ u ihu =>
    intro t
    induction t using Nat.strongRecOn with
    | _ t iht =>
      intro s L hu ht h
      cases L with
      | nil => exact ⟨1, some s, rfl⟩
      | cons p L =>
        cases hst : stepU s p.1 p.2 L with
        | none => exact ⟨1, none, by simp [runU, hst]⟩
        | some q =>
          obtain ⟨s', L'⟩ := q
          obtain ⟨h', hd⟩ := step_keeps h hst
          have : ∃ n R, runU n s' L' = some R := by
            rcases hd with hd | ⟨he, hd⟩
            · exact ihu (fre s') (by omega) (tot s' L') s' L' rfl rfl h'
            · exact iht (tot s' L') (by omega) s' L' (by omega) rfl h'
          obtain ⟨n, R, hn⟩ := this
          exact ⟨n + 1, R, by simp [runU, hst, hn]⟩

/-- What is found makes them the same. -/
theorem runU_sound : ∀ (n : Nat) (s s' : Sb) (L : List (Tm × Tm)), UI s L → runU n s L = some (some s') → UI s' [] ∧ Ref s s' ∧ ∀ p ∈ L, subT (bnd s') p.1 = subT (bnd s') p.2 := by
  intro n
  induction n with
  | zero => intro s s' L _ hr; simp [runU] at hr
  | succ n ih =>
    intro s s' L h hr
    cases L with
    | nil =>
      simp only [runU, Option.some.injEq] at hr
      subst hr
      exact ⟨h, ref_refl h.idem (ui_ok h), fun p hp => by simp at hp⟩
    | cons p L =>
      cases hst : stepU s p.1 p.2 L with
      | none => simp [runU, hst] at hr
      | some q =>
        obtain ⟨s1, L1⟩ := q
        simp only [runU, hst] at hr
        obtain ⟨h1, _⟩ := step_keeps h hst
        obtain ⟨i1, i2, i3⟩ := ih s1 s' L1 h1 hr
        rcases stepU_cases hst with ⟨e1, e2, e3, rfl, rfl⟩ | ⟨x, y, hxy, hv, ha, rfl⟩ | ⟨e1, e2, e3, hl, rfl, rfl⟩
        · refine ⟨i1, i2, fun q hq => ?_⟩
          simp only [List.mem_cons] at hq
          rcases hq with rfl | hq
          · have hp := h.gL q (by simp)
            have g1 := var_eq (gd_top h.gs hp.1).ok e1
            have g2 := var_eq (gd_top h.gs hp.2).ok e2
            have et : top s1 q.1 = top s1 q.2 := by rw [g1, g2, e3]
            rw [← ref_sub i2 q.1, ← ref_sub i2 q.2, ← top_sub h.idem (ui_ok h) q.1, ← top_sub h.idem (ui_ok h) q.2, et]
          · exact i3 q hq
        · obtain ⟨_, _, f1, f2⟩ := step_add h hxy hv ha
          have hsame : subT (bnd s1) (top s p.1) = subT (bnd s1) (top s p.2) := by
            have hx : subT (bnd s1) x = subT (bnd s1) y := by
              rw [← f2]
              unfold subT
              rw [if_pos hv]
            rcases hxy with ⟨rfl, rfl⟩ | ⟨rfl, rfl⟩
            · exact hx
            · exact hx.symm
          refine ⟨i1, ref_trans f1 i2, fun q hq => ?_⟩
          simp only [List.mem_cons] at hq
          rcases hq with rfl | hq
          · have k : ∀ t, subT (bnd s') t = subT (bnd s') (subT (bnd s1) (top s t)) := fun t => by
              rw [ref_sub i2, ← ref_sub (ref_trans f1 i2) t, ← top_sub h.idem (ui_ok h) t, ref_sub (ref_trans f1 i2)]
            rw [k q.1, k q.2, hsame]
          · exact i3 q hq
        · refine ⟨i1, i2, fun q hq => ?_⟩
          simp only [List.mem_cons] at hq
          rcases hq with rfl | hq
          · have hz := subF_of_zip (f := bnd s') (bnd_ok (ui_ok i1)) hl (fun r hr => i3 r (by simp [hr]))
            have k : ∀ t, subT (bnd s') t = subT (bnd s') (top s1 t) := fun t => by
              rw [← ref_sub i2 t, ← top_sub h.idem (ui_ok h) t, ref_sub i2]
            rw [k q.1, k q.2, sym_eq e1, sym_eq e2, subT_sym, subT_sym, hz, e3]
          · exact i3 q (by simp [hq])

theorem size_occF {n : Int} {f : Int → Tm} : ∀ {F : Fo}, occF n F → szT (f n) ≤ Fo.sizesR (subF f F)
  | .nil, h => by simp [occF] at h
  | .node p q ⟨v, m⟩ k r, h => by
    rw [subF_node]
    simp only [Fo.sizesR]
    rcases h with h | h
    · cases v
      · have := size_occF (f := f) (F := k) (by simpa using h)
        simp only [subT_sym]; omega
      · have e : m = n := by simpa using h
        subst e
        simp only [subT_var, szT, tszR]; omega
    · have := size_occF (f := f) (F := r) h
      omega

/-- And no more than it must: whatever makes them the same binds what was bound to the same. -/
theorem runU_most {σ : Int → Tm} : ∀ (n : Nat) (s : Sb) (R : Option Sb) (L : List (Tm × Tm)), UI s L → runU n s L = some R → (∀ p ∈ s, subT σ p.2 = σ p.1) → (∀ p ∈ L, subT σ p.1 = subT σ p.2) →
    ∃ s', R = some s' ∧ ∀ p ∈ s', subT σ p.2 = σ p.1 := by
  intro n
  induction n with
  | zero => intro s R L _ hr; simp [runU] at hr
  | succ n ih =>
    intro s R L h hr hs hL
    cases L with
    | nil =>
      simp only [runU, Option.some.injEq] at hr
      exact ⟨s, hr.symm, hs⟩
    | cons p L =>
      have hb : ∀ t, subT σ (subT (bnd s) t) = subT σ t := fun t => by
        rw [subT_sub]
        refine subT_congr fun m _ => ?_
        cases e : look s m with
        | none => rw [bnd_none e]; rfl
        | some u => rw [bnd_some e]; exact hs _ (look_mem e)
      have ht : ∀ t, subT σ (top s t) = subT σ t := fun t => by rw [← hb (top s t), top_sub h.idem (ui_ok h), hb]
      have heq : subT σ (top s p.1) = subT σ (top s p.2) := by rw [ht, ht]; exact hL p (by simp)
      have hp := h.gL p (by simp)
      have g1 := gd_top h.gs hp.1
      have g2 := gd_top h.gs hp.2
      -- a binding never fails
      have hadd : ∀ x y, (x = top s p.1 ∧ y = top s p.2 ∨ x = top s p.2 ∧ y = top s p.1) → x.1.1 = true → ¬ (y.1.1 = true ∧ x.1.2 = y.1.2) → ∀ z, addS s x.1.2 (subT (bnd s) y) = z → ∃ s', z = some s' ∧ ∀ q ∈ s', subT σ q.2 = σ q.1 := by
        intro x y hxy hv hne z hz
        have gx : Gd x := by rcases hxy with ⟨rfl, _⟩ | ⟨rfl, _⟩; exact g1; exact g2
        have gy : Gd y := by rcases hxy with ⟨_, rfl⟩ | ⟨_, rfl⟩; exact g2; exact g1
        have exy : σ x.1.2 = subT σ y := by
          have : subT σ x = subT σ y := by rcases hxy with ⟨rfl, rfl⟩ | ⟨rfl, rfl⟩; exact heq; exact heq.symm
          rw [← this]
          unfold subT
          rw [if_pos hv]
        have hyf : y.1.1 = true → look s y.1.2 = none := fun e => by rcases hxy with ⟨_, rfl⟩ | ⟨_, rfl⟩ <;> exact top_free h.idem e
        cases z with
        | none =>
          exfalso
          have ho := addS_none hz
          by_cases hyv : y.1.1 = true
          · have e1 : subT (bnd s) y = vr y.1.2 := by
              unfold subT
              rw [if_pos hyv]
              exact bnd_none (hyf hyv)
            rw [e1, occ_vr] at ho
            exact hne ⟨hyv, ho.symm⟩
          · have e2 : subT σ (subT (bnd s) y) = σ x.1.2 := by rw [hb, exy]
            have e3 := sym_eq hyv
            rw [e3, subT_sym] at e2 ho
            rw [occ_sym] at ho
            have h1 := size_occF (f := σ) ho
            rw [← e2, subT_sym] at h1
            simp only [szT, tszR] at h1
            omega
        | some s' =>
          refine ⟨s', rfl, fun q hq => ?_⟩
          have hone : ∀ t, subT σ (subT (bnd [(x.1.2, subT (bnd s) y)]) t) = subT σ t := fun t => by
            rw [subT_sub]
            refine subT_congr fun m _ => ?_
            rw [bnd_one]
            split
            · rename_i e
              subst e
              rw [hb, exy]
            · rfl
          rw [(addS_some hz).2, List.mem_append, List.mem_map, List.mem_singleton] at hq
          rcases hq with ⟨q, hq, rfl⟩ | rfl
          · simp only [hone]; exact hs q hq
          · simp only [hb, exy]
      cases hst : stepU s p.1 p.2 L with
      | none =>
        exfalso
        unfold stepU at hst
        split at hst
        · cases hst
        · rename_i hc
          split at hst
          · rename_i hv
            simp only [Option.map_eq_none_iff] at hst
            obtain ⟨_, e, _⟩ := hadd _ _ (.inl ⟨rfl, rfl⟩) hv (fun e => hc ⟨hv, e⟩) _ hst
            cases e
          · rename_i hnv
            split at hst
            · rename_i hv
              simp only [Option.map_eq_none_iff] at hst
              obtain ⟨_, e, _⟩ := hadd _ _ (.inr ⟨rfl, rfl⟩) hv (fun e => hnv e.1) _ hst
              cases e
            · rename_i hnv2
              rw [sym_eq hnv, sym_eq hnv2, subT_sym, subT_sym] at heq
              simp only [Prod.mk.injEq, true_and] at heq
              split at hst
              · cases hst
              · rename_i hne
                refine hne ⟨heq.1, ?_⟩
                rw [← subF_len σ, heq.2, subF_len]
      | some q =>
        obtain ⟨s1, L1⟩ := q
        simp only [runU, hst] at hr
        obtain ⟨h1, _⟩ := step_keeps h hst
        rcases stepU_cases hst with ⟨e1, e2, e3, rfl, rfl⟩ | ⟨x, y, hxy, hv, ha, rfl⟩ | ⟨e1, e2, e3, hl, rfl, rfl⟩
        · exact ih s1 R L1 h1 hr hs (fun q hq => hL q (by simp [hq]))
        · by_cases hne : y.1.1 = true ∧ x.1.2 = y.1.2
          · exfalso
            have : stepU s p.1 p.2 L1 = some (s, L1) := by
              unfold stepU
              rw [if_pos]
              rcases hxy with ⟨rfl, rfl⟩ | ⟨rfl, rfl⟩
              · exact ⟨hv, hne.1, hne.2⟩
              · exact ⟨hne.1, hv, hne.2.symm⟩
            rw [this] at hst
            simp only [Option.some.injEq, Prod.mk.injEq, and_true] at hst
            have := (step_add h hxy hv ha).2.1
            rw [hst] at this
            omega
          · obtain ⟨s2, e, hs2⟩ := hadd x y hxy hv hne _ ha
            cases e
            exact ih s1 R L1 h1 hr hs2 (fun q hq => hL q (by simp [hq]))
        · refine ih s1 R _ h1 hr hs (fun q hq => ?_)
          rw [List.mem_append] at hq
          rcases hq with hq | hq
          · rw [sym_eq e1, sym_eq e2, subT_sym, subT_sym] at heq
            simp only [Prod.mk.injEq, true_and] at heq
            exact subF_zip heq.2 q hq
          · exact hL q (by simp [hq])

end Go.Proofs.Ytfnkjadfepoicac
