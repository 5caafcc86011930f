/- Which terms are above others, told of terms alone: one way alone; bound, and within others, it stays. -/
import Derived.Test.YtfnkjadfepoicacG07
import Derived.Test.YtfnkjadfepoicacG06
import Derived.Deep.DeepCutAuto
namespace Go.Proofs.Ytfnkjadfepoicac
open Go.RowKit Go.Deep Go.ChangeShapes Go.WideShapes

/-- How often a variable is in terms. -/
def timF (v : Int) : Fo → Nat
  | .nil => 0
  | .node _ _ x k r => (if x.1 = true ∧ x.2 = v then 1 else 0) + timF v k + timF v r
def timT (v : Int) (t : Tm) : Nat := (if t.1.1 = true ∧ t.1.2 = v then 1 else 0) + timF v t.2
theorem timF_node (v : Int) (p q : Nat) (x : Bool × Int) (k r : Fo) : timF v (.node p q x k r) = timT v (x, k) + timF v r := rfl
def mayT (a b : Tm) : Bool := (varsT b.1 b.2 []).all fun v => decide (timT v b ≤ timT v a)
def hdT (x : Bool × Int) (k : Fo) (y : Bool × Int) (l : Fo) (rec : Bool) : Bool :=
  if x.1 then false else if !mayT (x, k) (y, l) then false else if tszR k ≠ tszR l then decide (tszR l < tszR k) else if y.1 || decide (x.2 < y.2) then false else if y.2 < x.2 then true else rec
/-- The first one of the arguments that is not the same is above the other one. -/
def lexF : Fo → Fo → Bool
  | .node _ _ x k r, .node _ _ y l q => if sameT x k y l then lexF r q else hdT x k y l (lexF k l)
  | .nil, _ => false
  | .node _ _ _ _ _, .nil => false
def abvT (a b : Tm) : Bool := hdT a.1 a.2 b.1 b.2 (lexF a.2 b.2)

theorem tim_occF {v : Int} : ∀ {F : Fo}, Fo.ok F → 0 < timF v F → occF v F
  | .nil, _, h => by simp [timF] at h
  | .node p q x k r, ho, h => by
    obtain ⟨_, _, h3, h4⟩ := ok_node.1 ho
    rw [timF_node] at h
    by_cases hr : 0 < timF v r
    · rw [occF]; exact .inr (tim_occF h4 hr)
    · have h1 : 0 < timT v (x, k) := by omega
      rw [occF]
      refine .inl ?_
      unfold timT at h1
      simp only at h1
      by_cases hx : x.1 = true
      · rw [if_pos hx]
        have hk : k = .nil := h3.1 hx
        subst hk
        by_cases hv : x.2 = v
        · exact hv
        · rw [if_neg (fun e => hv e.2)] at h1
          simp [timF] at h1
      · rw [if_neg hx]
        rw [if_neg (fun e => hx e.1)] at h1
        exact tim_occF h3.2 (by omega)
theorem tim_occ {v : Int} {t : Tm} (h : okT t) (hv : 0 < timT v t) : occT v t := by
  have := tim_occF (v := v) (F := .node 0 0 t.1 t.2 .nil) (ok_node.2 ⟨rfl, rfl, h, trivial⟩) (by rw [timF_node]; exact Nat.lt_of_lt_of_le hv (Nat.le_add_right _ _))
  rw [occF] at this
  rcases this with h | h
  · exact h
  · exact absurd h (by simp [occF])
theorem may_iff {a b : Tm} (h : okT b) : mayT a b = true ↔ ∀ v, timT v b ≤ timT v a := by
  unfold mayT
  rw [List.all_eq_true]
  refine ⟨fun hh v => ?_, fun hh v _ => decide_eq_true (hh v)⟩
  by_cases hv : 0 < timT v b
  · exact of_decide_eq_true (hh v (occ_varsT.2 (tim_occ h hv)))
  · omega
/-- What above means. -/
theorem abv_iff {a b : Tm} (h : okT b) : abvT a b = true ↔ a.1.1 = false ∧ (∀ v, timT v b ≤ timT v a) ∧ (szT b < szT a ∨ (szT a = szT b ∧ b.1.1 = false ∧ (b.1.2 < a.1.2 ∨ (a.1.2 = b.1.2 ∧ lexF a.2 b.2 = true)))) := by
  unfold abvT hdT
  have hm := may_iff (a := a) h
  show (if a.1.1 then false else if !mayT a b then false else _) = true ↔ _
  by_cases h1 : a.1.1 = true
  · simp [h1]
  · have h1' : a.1.1 = false := by simpa using h1
    rw [if_neg h1]
    by_cases h2 : mayT a b = true
    · rw [if_neg (by simp [h2])]
      have hv := hm.1 h2
      by_cases h3 : tszR a.2 = tszR b.2
      · rw [if_neg (by simp [h3])]
        by_cases h4 : b.1.1 = true
        · rw [if_pos (by simp [h4])]
          simp only [Bool.false_eq_true, false_iff]
          rintro ⟨_, _, h | ⟨_, h, _⟩⟩
          · unfold szT at h; omega
          · rw [h4] at h; cases h
        · have h4' : b.1.1 = false := by simpa using h4
          by_cases h5 : a.1.2 < b.1.2
          · rw [if_pos (by simp [h5])]
            simp only [Bool.false_eq_true, false_iff]
            rintro ⟨_, _, h | ⟨_, _, h | h⟩⟩
            · unfold szT at h; omega
            · omega
            · omega
          · rw [if_neg (by simp [h4', h5])]
            by_cases h6 : b.1.2 < a.1.2
            · rw [if_pos h6]
              simp only [true_iff]
              exact ⟨h1', hv, .inr ⟨h3, h4', .inl h6⟩⟩
            · rw [if_neg h6]
              refine ⟨fun hl => ⟨h1', hv, .inr ⟨h3, h4', .inr ⟨by omega, hl⟩⟩⟩, ?_⟩
              rintro ⟨_, _, h | ⟨_, _, h | h⟩⟩
              · unfold szT at h; omega
              · omega
              · exact h.2
      · rw [if_pos h3]
        refine ⟨fun hl => ⟨h1', hv, .inl (of_decide_eq_true hl)⟩, ?_⟩
        rintro ⟨_, _, h | ⟨h, _⟩⟩
        · exact decide_eq_true h
        · exact absurd h h3
    · rw [if_pos (by simpa using h2)]
      simp only [Bool.false_eq_true, false_iff]
      rintro ⟨_, h, _⟩
      exact h2 (hm.2 h)

/-- Lists of arguments. -/
def LexP : List Tm → List Tm → Prop
  | a :: r, b :: q => (a = b ∧ LexP r q) ∨ (a ≠ b ∧ abvT a b = true)
  | [], _ => False
  | _ :: _, [] => False
theorem lex_iff : ∀ {k l : Fo}, Fo.ok k → Fo.ok l → (lexF k l = true ↔ LexP k.list l.list)
  | .nil, _, _, _ => by simp [lexF, Fo.list, LexP]
  | .node _ _ _ _ _, .nil, _, _ => by simp [lexF, Fo.list, LexP]
  | .node _ _ x k r, .node _ _ y l q, h1, h2 => by
    obtain ⟨_, _, h3, h4⟩ := ok_node.1 h1
    obtain ⟨_, _, h5, h6⟩ := ok_node.1 h2
    have hs := sameT_iff (t := (x, k)) (u := (y, l)) h3 h5
    simp only at hs
    rw [lexF, Fo.list, Fo.list, LexP]
    by_cases hh : sameT x k y l = true
    · rw [if_pos hh]
      have he := hs.1 hh
      refine ⟨fun h => .inl ⟨he, (lex_iff h4 h6).1 h⟩, ?_⟩
      rintro (⟨_, h⟩ | ⟨h, _⟩)
      · exact (lex_iff h4 h6).2 h
      · exact absurd he h
    · rw [if_neg hh]
      have hn : (x, k) ≠ (y, l) := fun e => hh (hs.2 e)
      refine ⟨fun h => .inr ⟨hn, h⟩, ?_⟩
      rintro (⟨h, _⟩ | ⟨_, h⟩)
      · exact absurd h hn
      · exact h
theorem lex_irr : ∀ {ks : List Tm}, ¬ LexP ks ks
  | [], h => h
  | a :: r, h => by
    rw [LexP] at h
    rcases h with ⟨_, h⟩ | ⟨h, _⟩
    · exact lex_irr h
    · exact h rfl
/-- None is above itself. -/
theorem abv_irr {a : Tm} (h : okT a) : ¬ abvT a a = true := fun hh => by
  obtain ⟨_, _, h1 | ⟨_, _, h1 | ⟨_, h1⟩⟩⟩ := (abv_iff h).1 hh
  · omega
  · omega
  · exact lex_irr ((lex_iff h.2 h.2).1 h1)
theorem abv_ne {a b : Tm} (h : okT a) (hh : abvT a b = true) : a ≠ b := fun e => by
  subst e
  exact abv_irr h hh
theorem lex_trans : ∀ {ks ls ms : List Tm}, (∀ a ∈ ks, okT a) → (∀ a ∈ ks, ∀ b ∈ ls, ∀ c ∈ ms, abvT a b = true → abvT b c = true → abvT a c = true) → LexP ks ls → LexP ls ms → LexP ks ms
  | [], _, _, _, _, h, _ => h.elim
  | _ :: _, [], _, _, _, h, _ => h.elim
  | _ :: _, _ :: _, [], _, _, _, h => h.elim
  | a :: r, b :: q, c :: p, ho, ht, h1, h2 => by
    rw [LexP] at h1 h2 ⊢
    rcases h1 with ⟨rfl, h1⟩ | ⟨n1, h1⟩
    · rcases h2 with ⟨rfl, h2⟩ | ⟨n2, h2⟩
      · exact .inl ⟨rfl, lex_trans (fun z hz => ho z (by simp [hz])) (fun x hx y hy z hz => ht x (by simp [hx]) y (by simp [hy]) z (by simp [hz])) h1 h2⟩
      · exact .inr ⟨n2, h2⟩
    · rcases h2 with ⟨rfl, h2⟩ | ⟨n2, h2⟩
      · exact .inr ⟨n1, h1⟩
      · have h3 := ht a (by simp) b (by simp) c (by simp) h1 h2
        exact .inr ⟨abv_ne (ho a (by simp)) h3, h3⟩
theorem sz_mem {x : Bool × Int} {k : Fo} {t : Tm} (h : t ∈ k.list) : szT t < szT (x, k) := by
  show tszR t.2 < tszR k
  have hm : ∀ (l : List Tm), t ∈ l → tszR t.2 ≤ (l.map fun y => tszR y.2).sum := by
    intro l
    induction l with
    | nil => intro h; simp at h
    | cons a l ih =>
      intro h
      simp only [List.mem_cons] at h
      simp only [List.map_cons, List.sum_cons]
      rcases h with rfl | h
      · omega
      · have := ih h; omega
  have := hm k.list h
  rw [← sizesR_list] at this
  unfold tszR at this ⊢
  omega
/-- What is above what is above is above. -/
theorem abv_trans : ∀ (n : Nat) {a b c : Tm}, szT a = n → okT a → okT b → okT c → abvT a b = true → abvT b c = true → abvT a c = true := by
  intro n
  induction n using Nat.strongRecOn with
  | _ n ih =>
    intro a b c hn ha hb hc h1 h2
    obtain ⟨a1, a2, a3⟩ := (abv_iff hb).1 h1
    obtain ⟨b1, b2, b3⟩ := (abv_iff hc).1 h2
    refine (abv_iff hc).2 ⟨a1, fun v => Nat.le_trans (b2 v) (a2 v), ?_⟩
    rcases a3 with a3 | ⟨a3, _, a4⟩
    · rcases b3 with b3 | ⟨b3, _, _⟩
      · exact .inl (by omega)
      · exact .inl (by omega)
    · rcases b3 with b3 | ⟨b3, b5, b4⟩
      · exact .inl (by omega)
      · refine .inr ⟨by omega, b5, ?_⟩
        rcases a4 with a4 | ⟨a4, a6⟩
        · rcases b4 with b4 | ⟨b4, _⟩
          · exact .inl (by omega)
          · exact .inl (by omega)
        · rcases b4 with b4 | ⟨b4, b6⟩
          · exact .inl (by omega)
          · refine .inr ⟨by omega, (lex_iff ha.2 hc.2).2 (lex_trans (fun t ht => ok_mem ha.2 ht) (fun x hx y hy z hz p q => ?_) ((lex_iff ha.2 hb.2).1 a6) ((lex_iff hb.2 hc.2).1 b6))⟩
            have := sz_mem (x := a.1) hx
            exact ih (szT x) (by rw [← hn]; exact this) rfl (ok_mem ha.2 hx) (ok_mem hb.2 hy) (ok_mem hc.2 hz) p q
theorem abv_asym {a b : Tm} (ha : okT a) (hb : okT b) (h : abvT a b = true) : ¬ abvT b a = true := fun h2 => abv_irr ha (abv_trans _ rfl ha hb ha h h2)

/-- Of two without variables one is above, or they are the same. -/
theorem lex_total : ∀ {ks ls : List Tm}, (∀ a ∈ ks, ∀ b ∈ ls, a ≠ b → abvT a b = true ∨ abvT b a = true) → (ks.map szT).sum = (ls.map szT).sum → ks ≠ ls → LexP ks ls ∨ LexP ls ks
  | [], [], _, _, h => absurd rfl h
  | [], b :: q, _, h, _ => by simp [szT, tszR] at h; omega
  | a :: r, [], _, h, _ => by simp [szT, tszR] at h
  | a :: r, b :: q, ht, hs, hn => by
    rw [LexP, LexP]
    by_cases e : a = b
    · subst e
      simp only [List.map_cons, List.sum_cons] at hs
      rcases lex_total (ks := r) (ls := q) (fun x hx y hy => ht x (by simp [hx]) y (by simp [hy])) (by omega) (fun e => hn (by rw [e])) with h | h
      · exact .inl (.inl ⟨rfl, h⟩)
      · exact .inr (.inl ⟨rfl, h⟩)
    · rcases ht a (by simp) b (by simp) e with h | h
      · exact .inl (.inr ⟨e, h⟩)
      · exact .inr (.inr ⟨Ne.symm e, h⟩)
theorem timF_list (v : Int) : ∀ F : Fo, timF v F = (F.list.map (timT v)).sum
  | .nil => rfl
  | .node p q x k r => by rw [timF_node, Fo.list, List.map_cons, List.sum_cons, timF_list v r]
theorem tim_mem {v : Int} {x : Bool × Int} {k : Fo} {t : Tm} (h : t ∈ k.list) : timT v t ≤ timT v (x, k) := by
  have hm : ∀ (l : List Tm), t ∈ l → timT v t ≤ (l.map (timT v)).sum := by
    intro l
    induction l with
    | nil => intro h; simp at h
    | cons a l ih =>
      intro h
      simp only [List.mem_cons] at h
      simp only [List.map_cons, List.sum_cons]
      rcases h with rfl | h
      · omega
      · have := ih h; omega
  have := hm k.list h
  rw [← timF_list] at this
  show timT v t ≤ _ + timF v k
  omega
theorem abv_total : ∀ (n : Nat) {a b : Tm}, szT a = n → okT a → okT b → (∀ v, timT v a = 0) → (∀ v, timT v b = 0) → a ≠ b → abvT a b = true ∨ abvT b a = true := by
  intro n
  induction n using Nat.strongRecOn with
  | _ n ih =>
    intro a b hn ha hb ga gb hne
    have nv : ∀ t : Tm, (∀ v, timT v t = 0) → t.1.1 = false := fun t ht => by
      by_cases e : t.1.1 = true
      · have := ht t.1.2
        unfold timT at this
        rw [if_pos ⟨e, rfl⟩] at this
        omega
      · simpa using e
    have a1 := nv a ga
    have b1 := nv b gb
    rw [abv_iff hb, abv_iff ha]
    have ab : ∀ v, timT v b ≤ timT v a := fun v => by rw [ga, gb]; exact Nat.le_refl _
    have ba : ∀ v, timT v a ≤ timT v b := fun v => by rw [ga, gb]; exact Nat.le_refl _
    rcases Nat.lt_trichotomy (szT a) (szT b) with h | h | h
    · exact .inr ⟨b1, ba, .inl h⟩
    · rcases Int.lt_trichotomy a.1.2 b.1.2 with h2 | h2 | h2
      · exact .inr ⟨b1, ba, .inr ⟨h.symm, a1, .inl h2⟩⟩
      · have hl : a.2.list ≠ b.2.list := fun e => hne (by
          have e2 := ok_eq ha.2 hb.2 e
          obtain ⟨⟨av, an⟩, ak⟩ := a
          obtain ⟨⟨bv, bn⟩, bk⟩ := b
          simp only at a1 b1 h2 e2
          rw [a1, b1, h2, e2])
        have hs : (a.2.list.map szT).sum = (b.2.list.map szT).sum := by
          have e1 := sizesR_list a.2
          have e2 := sizesR_list b.2
          unfold szT tszR at h
          show (a.2.list.map fun y => tszR y.2).sum = (b.2.list.map fun y => tszR y.2).sum
          omega
        rcases lex_total (fun x hx y hy e => ih (szT x) (by rw [← hn]; exact sz_mem (x := a.1) hx) rfl (ok_mem ha.2 hx) (ok_mem hb.2 hy) (fun v => by have h1 : timT v x ≤ timT v a := tim_mem (x := a.1) hx; have := ga v; omega) (fun v => by have h1 : timT v y ≤ timT v b := tim_mem (x := b.1) hy; have := gb v; omega) e) hs hl with h3 | h3
        · exact .inl ⟨a1, ab, .inr ⟨h, b1, .inr ⟨h2, (lex_iff ha.2 hb.2).2 h3⟩⟩⟩
        · exact .inr ⟨b1, ba, .inr ⟨h.symm, a1, .inr ⟨h2.symm, (lex_iff hb.2 ha.2).2 h3⟩⟩⟩
      · exact .inl ⟨a1, ab, .inr ⟨h, b1, .inl h2⟩⟩
    · exact .inl ⟨a1, ab, .inl h⟩

/-- A part is no more than the whole, and less, if it is not the whole. -/
theorem at_less : ∀ {p : List Int} {x : Bool × Int} {k : Fo} {z : Tm}, atT p x k = some z → szT z ≤ szT (x, k) ∧ (p ≠ [] → szT z < szT (x, k)) ∧ ∀ v, timT v z ≤ timT v (x, k)
  | [], x, k, z, h => by
    simp only [atT, Option.some.injEq] at h
    subst h
    exact ⟨Nat.le_refl _, fun h => absurd rfl h, fun _ => Nat.le_refl _⟩
  | n :: p, x, k, z, h => by
    obtain ⟨_, _, _, y, hy, hz⟩ := atT_some h
    obtain ⟨h1, _, h3⟩ := at_less hz
    have h4 := sz_mem (x := x) (List.mem_of_getElem? hy)
    have h5 : szT z < szT (x, k) := Nat.lt_of_le_of_lt h1 h4
    exact ⟨Nat.le_of_lt h5, fun _ => h5, fun v => Nat.le_trans (h3 v) (tim_mem (List.mem_of_getElem? hy))⟩
/-- A term is above each part of it. -/
theorem abv_part {p : List Int} {x : Bool × Int} {k : Fo} {z : Tm} (hz : okT z) (h : atT p x k = some z) (hp : p ≠ []) : abvT (x, k) z = true := by
  obtain ⟨_, h2, h3⟩ := at_less h
  refine (abv_iff hz).2 ⟨?_, h3, .inl (h2 hp)⟩
  cases p with
  | nil => exact absurd rfl hp
  | cons n p => exact (atT_some h).1

/-- What the variables weigh. -/
def wgF (c : Int → Nat) : Fo → Nat
  | .nil => 0
  | .node _ _ x k r => (if x.1 = true then c x.2 else 0) + wgF c k + wgF c r
def wgT (c : Int → Nat) (t : Tm) : Nat := (if t.1.1 = true then c t.1.2 else 0) + wgF c t.2
theorem wgF_five {c : Int → Nat} : ∀ {F : Fo}, Fo.ok F → (∀ m, occF m F → 0 ≤ m ∧ m ≤ 9) → wgF c F = timF 0 F * c 0 + timF 1 F * c 1 + timF 2 F * c 2 + timF 3 F * c 3 + timF 4 F * c 4 + timF 5 F * c 5 + timF 6 F * c 6 + timF 7 F * c 7 + timF 8 F * c 8 + timF 9 F * c 9
  | .nil, _, _ => by simp [wgF, timF]
  | .node _ _ x k r, ho, hv => by
    obtain ⟨_, _, h3, h4⟩ := ok_node.1 ho
    have hr := wgF_five (c := c) h4 (fun m hm => hv m (by rw [occF]; exact .inr hm))
    by_cases hx : x.1 = true
    · have hk : k = .nil := h3.1 hx
      subst hk
      have hm := hv x.2 (by rw [occF, if_pos hx]; exact .inl rfl)
      have hc : x.2 = 0 ∨ x.2 = 1 ∨ x.2 = 2 ∨ x.2 = 3 ∨ x.2 = 4 ∨ x.2 = 5 ∨ x.2 = 6 ∨ x.2 = 7 ∨ x.2 = 8 ∨ x.2 = 9 := by omega
      rw [wgF, hr, if_pos hx]
      simp only [timF, hx, true_and]
      rcases hc with e | e | e | e | e | e | e | e | e | e <;> simp [e, wgF, Nat.add_mul] <;> omega
    · have hk := wgF_five (c := c) h3.2 (fun m hm => hv m (by rw [occF, if_neg hx]; exact .inl hm))
      rw [wgF, hr, hk, if_neg hx]
      simp only [timF, hx, Nat.add_mul]
      simp
      omega
theorem wgT_five {c : Int → Nat} {t : Tm} (h : Gd t) : wgT c t = timT 0 t * c 0 + timT 1 t * c 1 + timT 2 t * c 2 + timT 3 t * c 3 + timT 4 t * c 4 + timT 5 t * c 5 + timT 6 t * c 6 + timT 7 t * c 7 + timT 8 t * c 8 + timT 9 t * c 9 := by
  have := wgF_five (c := c) (F := .node 0 0 t.1 t.2 .nil) (ok_node.2 ⟨rfl, rfl, h.ok, trivial⟩) (fun m hm => h.few m (by
    rw [occF] at hm
    rcases hm with hm | hm
    · exact hm
    · exact absurd hm (by simp [occF])))
  exact this
theorem wg_mono {c : Int → Nat} {a b : Tm} (ha : Gd a) (hb : Gd b) (h : ∀ v, timT v b ≤ timT v a) : wgT c b ≤ wgT c a := by
  rw [wgT_five ha, wgT_five hb]
  have h0 := Nat.mul_le_mul_right (c 0) (h 0)
  have h1 := Nat.mul_le_mul_right (c 1) (h 1)
  have h2 := Nat.mul_le_mul_right (c 2) (h 2)
  have h3 := Nat.mul_le_mul_right (c 3) (h 3)
  have h4 := Nat.mul_le_mul_right (c 4) (h 4)
  have h5 := Nat.mul_le_mul_right (c 5) (h 5)
  have h6 := Nat.mul_le_mul_right (c 6) (h 6)
  have h7 := Nat.mul_le_mul_right (c 7) (h 7)
  have h8 := Nat.mul_le_mul_right (c 8) (h 8)
  have h9 := Nat.mul_le_mul_right (c 9) (h 9)
  omega
theorem subF_sizes {f : Int → Tm} : ∀ {F : Fo}, Fo.ok F → Fo.sizesR (subF f F) = Fo.sizesR F + wgF (fun n => Fo.sizesR (f n).2) F
  | .nil, _ => rfl
  | .node _ _ x k r, ho => by
    obtain ⟨_, _, h3, h4⟩ := ok_node.1 ho
    rw [subF_node, Fo.sizesR, Fo.sizesR, wgF, subF_sizes h4]
    unfold subT
    by_cases hx : x.1 = true
    · have hk : k = .nil := h3.1 hx
      subst hk
      simp only [hx, if_true, Fo.sizesR, wgF]
      omega
    · rw [if_neg hx, if_neg hx]
      simp only [subF_sizes h3.2]
      omega
theorem subT_size {f : Int → Tm} {t : Tm} (h : okT t) : szT (subT f t) = szT t + wgT (fun n => Fo.sizesR (f n).2) t := by
  unfold subT szT wgT tszR
  by_cases hx : t.1.1 = true
  · rw [if_pos hx, if_pos hx, h.1 hx]
    simp only [Fo.sizesR, wgF]
    omega
  · rw [if_neg hx, if_neg hx]
    simp only [subF_sizes h.2]
    omega
theorem subF_tim {f : Int → Tm} (v : Int) : ∀ {F : Fo}, Fo.ok F → timF v (subF f F) = wgF (fun n => timT v (f n)) F
  | .nil, _ => rfl
  | .node _ _ x k r, ho => by
    obtain ⟨_, _, h3, h4⟩ := ok_node.1 ho
    rw [subF_node, timF_node, wgF, subF_tim v h4]
    unfold subT
    by_cases hx : x.1 = true
    · have hk : k = .nil := h3.1 hx
      subst hk
      simp only [hx, if_true, wgF]
      rfl
    · rw [if_neg hx, if_neg hx]
      have e : timT v ((false, x.2), subF f k) = timF v (subF f k) := by simp [timT]
      show timT v ((false, x.2), subF f k) + _ = _
      rw [e, subF_tim v h3.2]
      simp only
      omega
theorem subT_tim {f : Int → Tm} (v : Int) {t : Tm} (h : okT t) : timT v (subT f t) = wgT (fun n => timT v (f n)) t := by
  unfold subT wgT
  by_cases hx : t.1.1 = true
  · rw [if_pos hx, if_pos hx, h.1 hx]
    simp only [wgF]
    rfl
  · rw [if_neg hx, if_neg hx]
    have e : timT v ((false, t.1.2), subF f t.2) = timF v (subF f t.2) := by simp [timT]
    rw [e, subF_tim v h.2]
    omega
theorem lex_sub {f : Int → Tm} (hf : ∀ n, okT (f n)) : ∀ {ks ls : List Tm}, (∀ a ∈ ks, ∀ b ∈ ls, abvT a b = true → abvT (subT f a) (subT f b) = true) → LexP ks ls → LexP (ks.map (subT f)) (ls.map (subT f))
  | [], _, _, h => h.elim
  | _ :: _, [], _, h => h.elim
  | a :: r, b :: q, ht, h => by
    rw [LexP] at h
    rw [List.map_cons, List.map_cons, LexP]
    rcases h with ⟨rfl, h⟩ | ⟨_, h⟩
    · exact .inl ⟨rfl, lex_sub hf (fun x hx y hy => ht x (by simp [hx]) y (by simp [hy])) h⟩
    · have h1 := ht a (by simp) b (by simp) h
      exact .inr ⟨abv_ne (subT_ok hf a) h1, h1⟩
/-- What is above is so by whatever bindings. -/
theorem abv_sub {f : Int → Tm} (hf : ∀ n, okT (f n)) : ∀ (n : Nat) {a b : Tm}, szT a = n → Gd a → Gd b → abvT a b = true → abvT (subT f a) (subT f b) = true := by
  intro n
  induction n using Nat.strongRecOn with
  | _ n ih =>
    intro a b hn ga gb h
    obtain ⟨a1, a2, a3⟩ := (abv_iff gb.ok).1 h
    have ea : subT f a = ((false, a.1.2), subF f a.2) := by unfold subT; rw [if_neg (by simp [a1])]
    have hs : szT (subT f b) ≤ szT (subT f a) ∧ (szT b < szT a → szT (subT f b) < szT (subT f a)) := by
      have h1 := wg_mono (c := fun n => Fo.sizesR (f n).2) ga gb a2
      have h2 : szT b ≤ szT a := by rcases a3 with h | h <;> omega
      rw [subT_size ga.ok, subT_size gb.ok]
      exact ⟨by omega, fun _ => by omega⟩
    refine (abv_iff (subT_ok hf b)).2 ⟨by rw [ea], fun v => ?_, ?_⟩
    · rw [subT_tim v ga.ok, subT_tim v gb.ok]
      exact wg_mono ga gb a2
    · by_cases hlt : szT (subT f b) < szT (subT f a)
      · exact .inl hlt
      · rcases a3 with a3 | ⟨a3, b1, a4⟩
        · exact .inl (hs.2 a3)
        · have eb : subT f b = ((false, b.1.2), subF f b.2) := by unfold subT; rw [if_neg (by simp [b1])]
          refine .inr ⟨by omega, by rw [eb], ?_⟩
          rw [ea, eb]
          rcases a4 with a4 | ⟨a4, a5⟩
          · exact .inl a4
          · refine .inr ⟨a4, (lex_iff (subF_ok hf a.2) (subF_ok hf b.2)).2 ?_⟩
            rw [subF_list, subF_list]
            refine lex_sub hf (fun x hx y hy hxy => ?_) ((lex_iff ga.ok.2 gb.ok.2).1 a5)
            exact ih (szT x) (by rw [← hn]; exact sz_mem (x := a.1) hx) rfl (gd_mem (x := a.1) ga a1 hx) (gd_mem (x := b.1) gb b1 hy) hxy

theorem setF_tim (v : Int) : ∀ {F : Fo} {i : Nat} {y : Tm} (f : Tm → Tm), F.list[i]? = some y → timF v (setF F i f) + timT v y = timF v F + timT v (f y)
  | .nil, _, _, _, h => by simp [Fo.list] at h
  | .node _ _ x k r, 0, y, f, h => by
    simp only [Fo.list, List.getElem?_cons_zero, Option.some.injEq] at h
    subst h
    rw [setF, timF_node, timF_node]
    show timT v (f (x, k)) + timF v r + timT v (x, k) = timT v (x, k) + timF v r + timT v (f (x, k))
    omega
  | .node _ _ x k r, i + 1, y, f, h => by
    have := setF_tim v f (F := r) (i := i) (by simpa [Fo.list] using h)
    rw [setF, timF_node, timF_node]
    omega
theorem setF_szR : ∀ {F : Fo} {i : Nat} {y : Tm} (f : Tm → Tm), F.list[i]? = some y → Fo.sizesR (setF F i f) + szT y = Fo.sizesR F + szT (f y)
  | .nil, _, _, _, h => by simp [Fo.list] at h
  | .node _ _ x k r, 0, y, f, h => by
    simp only [Fo.list, List.getElem?_cons_zero, Option.some.injEq] at h
    subst h
    rw [setF, Fo.sizesR, Fo.sizesR]
    unfold szT tszR
    simp only
    omega
  | .node _ _ x k r, i + 1, y, f, h => by
    have := setF_szR f (F := r) (i := i) (by simpa [Fo.list] using h)
    rw [setF, Fo.sizesR, Fo.sizesR]
    omega
theorem setF_ok {f : Tm → Tm} : ∀ {F : Fo} {i : Nat} {y : Tm}, Fo.ok F → F.list[i]? = some y → okT (f y) → Fo.ok (setF F i f)
  | .nil, _, _, _, h, _ => by simp [Fo.list] at h
  | .node _ _ x k r, 0, y, ho, h, hf => by
    simp only [Fo.list, List.getElem?_cons_zero, Option.some.injEq] at h
    subst h
    obtain ⟨h1, h2, _, h4⟩ := ok_node.1 ho
    rw [setF]
    exact ok_node.2 ⟨h1, h2, hf, h4⟩
  | .node _ _ x k r, i + 1, y, ho, h, hf => by
    obtain ⟨h1, h2, h3, h4⟩ := ok_node.1 ho
    rw [setF]
    exact ok_node.2 ⟨h1, h2, h3, setF_ok h4 (by simpa [Fo.list] using h) hf⟩
theorem lex_set {f g : Tm → Tm} : ∀ {F : Fo} {i : Nat} {y : Tm}, F.list[i]? = some y → f y ≠ g y → abvT (f y) (g y) = true → LexP (setF F i f).list (setF F i g).list
  | .nil, _, _, h, _, _ => by simp [Fo.list] at h
  | .node _ _ x k r, 0, y, h, hn, ha => by
    simp only [Fo.list, List.getElem?_cons_zero, Option.some.injEq] at h
    subst h
    rw [setF, setF, Fo.list, Fo.list, LexP]
    exact .inr ⟨hn, ha⟩
  | .node _ _ x k r, i + 1, y, h, hn, ha => by
    rw [setF, setF, Fo.list, Fo.list, LexP]
    exact .inl ⟨rfl, lex_set (by simpa [Fo.list] using h) hn ha⟩
theorem put_ok {u : Tm} (hu : okT u) : ∀ {p : List Int} {x : Bool × Int} {k : Fo} {z : Tm}, okT (x, k) → atT p x k = some z → okT (putT p (x, k) u)
  | [], _, _, _, _, _ => hu
  | n :: p, x, k, z, ho, h => by
    obtain ⟨hx, h0, h1, y, hy, hz⟩ := atT_some h
    rw [putT_cons hx h0 h1]
    refine ⟨fun e => absurd (hx.symm.trans e) (by decide), setF_ok ho.2 hy ?_⟩
    exact put_ok hu (ok_mem ho.2 (List.mem_of_getElem? hy)) hz
/-- What is above is so at a place of any term. -/
theorem abv_put {a b : Tm} (ha : okT a) (hb : okT b) (h : abvT a b = true) : ∀ {p : List Int} {x : Bool × Int} {k : Fo} {z : Tm}, okT (x, k) → atT p x k = some z → abvT (putT p (x, k) a) (putT p (x, k) b) = true
  | [], _, _, _, _, _ => h
  | n :: p, x, k, z, ho, hz => by
    obtain ⟨hx, h0, h1, y, hy, hz'⟩ := atT_some hz
    have hoy := ok_mem ho.2 (List.mem_of_getElem? hy)
    have ih : abvT (putT p y a) (putT p y b) = true := abv_put ha hb h hoy hz'
    have oa : okT (putT p y a) := put_ok ha hoy hz'
    have ob : okT (putT p y b) := put_ok hb hoy hz'
    obtain ⟨_, i2, i3⟩ := (abv_iff ob).1 ih
    rw [putT_cons hx h0 h1, putT_cons hx h0 h1]
    have hle : szT (putT p y b) ≤ szT (putT p y a) := by rcases i3 with h | h <;> omega
    have key : ∀ (A B : Fo), A = setF k n.toNat (fun s => putT p s a) → B = setF k n.toNat (fun s => putT p s b) → abvT (x, A) (x, B) = true := by
      intro A B eA eB
      have oA : Fo.ok A := by rw [eA]; exact setF_ok ho.2 hy oa
      have oB : Fo.ok B := by rw [eB]; exact setF_ok ho.2 hy ob
      have hL : LexP A.list B.list := by rw [eA, eB]; exact lex_set hy (abv_ne oa ih) ih
      have hsa : Fo.sizesR A + szT y = Fo.sizesR k + szT (putT p y a) := by rw [eA]; exact setF_szR (fun s => putT p s a) hy
      have hsb : Fo.sizesR B + szT y = Fo.sizesR k + szT (putT p y b) := by rw [eB]; exact setF_szR (fun s => putT p s b) hy
      have okB : okT (x, B) := ⟨fun e => absurd (hx.symm.trans e) (by decide), oB⟩
      refine (abv_iff okB).2 ⟨hx, fun v => ?_, ?_⟩
      · have t1 : timF v A + timT v y = timF v k + timT v (putT p y a) := by rw [eA]; exact setF_tim v (fun s => putT p s a) hy
        have t2 : timF v B + timT v y = timF v k + timT v (putT p y b) := by rw [eB]; exact setF_tim v (fun s => putT p s b) hy
        have t3 := i2 v
        show _ + timF v B ≤ _ + timF v A
        simp only
        omega
      · show tszR B < tszR A ∨ (tszR A = tszR B ∧ _)
        unfold tszR
        by_cases hlt : Fo.sizesR B < Fo.sizesR A
        · exact .inl (by omega)
        · exact .inr ⟨by omega, hx, .inr ⟨rfl, (lex_iff oA oB).2 hL⟩⟩
    exact key _ _ rfl rfl

end Go.Proofs.Ytfnkjadfepoicac

/- Whether two terms are the same: the document's Same, and the law's own same. -/
namespace Go.Proofs.Ytfnkjadfepoicac
open Go.RowKit Go.Deep Go.ChangeShapes Go.WideShapes
attribute [local go_sem ↓] Go.wp_at_zero Go.wp_at_succ

theorem box2_cells {w wr : World} {x y z x' y' z' : Value} {T T' : TypeId} (h : Below (w.heap.size + 2) ((w.alloc (.cells #[x, y, z] T)).alloc (.cells #[x', y', z'] T')) wr) :
    (wr.cell? ⟨w.heap.size, 0, none⟩ = some x ∧ wr.cell? ⟨w.heap.size, 1, none⟩ = some y ∧ wr.cell? ⟨w.heap.size, 2, none⟩ = some z) ∧
    (wr.cell? ⟨w.heap.size + 1, 0, none⟩ = some x' ∧ wr.cell? ⟨w.heap.size + 1, 1, none⟩ = some y' ∧ wr.cell? ⟨w.heap.size + 1, 2, none⟩ = some z') ∧ Below w.heap.size w wr ∧ w.heap.size + 1 < wr.heap.size := by
  have h2 : Below ((w.alloc (.cells #[x, y, z] T)).heap.size + 1) ((w.alloc (.cells #[x, y, z] T)).alloc (.cells #[x', y', z'] T')) wr := by simpa using h
  obtain ⟨a0, a1, a2, a3, a4⟩ := box_cells h2
  have a3' : Below (w.heap.size + 1) (w.alloc (.cells #[x, y, z] T)) wr := by simpa using a3
  obtain ⟨c0, c1, c2, c3, c4⟩ := box_cells a3'
  simp only [World.size_alloc] at a0 a1 a2 a4
  exact ⟨⟨c0, c1, c2⟩, ⟨a0, a1, a2⟩, c3, by simpa using a4⟩

def SameRSaid (x : Bool × Int) (k : Fo) : Prop := ∀ (y : Bool × Int) (l : Fo) (a c : Value) (w : World), SIn w k a → SIn w l c →
    Calls Try.prog 65 #[.agg #[.bool x.1, .int .i64 x.2, a], .agg #[.bool y.1, .int .i64 y.2, c]] w fun e w' => e = .returned (.bool (sameT x k y l)) ∧ Below w.heap.size w w'

set_option maxRecDepth 100000 in
set_option maxHeartbeats 1000000 in
theorem sameR_any (x : Bool × Int) (k : Fo) : SameRSaid x k := by
  refine Fo.ind1 (p := SameRSaid) ?_ x k
  clear x k
  intro x k ih y l a c w hS1 hS2
  obtain ⟨xv, xn⟩ := x
  obtain ⟨yv, yn⟩ := y
  have HS1 := hide hS1
  have HS2 := hide hS2
  obtain ⟨a1, c1, b1, o1, rfl, had1, hlc1, hcm1, hF1⟩ := hS1
  obtain ⟨a2, c2, b2, o2, rfl, had2, hlc2, hcm2, hF2⟩ := hS2
  unfold maxLen at hcm1 hcm2
  have HI := hide ih
  have Hl1 := hide (Fo.len_list k)
  have Hl2 := hide (Fo.len_list l)
  have HF1 := hide hF1
  have HF2 := hide hF2
  clear ih hF1 hF2
  by_cases hv : xv = yv
  · by_cases hn : xn = yn
    · by_cases hll : Fo.len k = Fo.len l
      · subst hv hn
        have Hf : Hid (sameT (xv, xn) k (xv, xn) l = sameF k l) := by simp [Hid, sameT]
        have hllb : ((Fo.len k : Int) != (Fo.len l : Int)) = false := by simp [hll]
        have Hll := hide hll
        have hll1 : Fo.len l ≤ Fo.len k := by omega
        have hll2 : Fo.len k ≤ Fo.len l := by omega
        clear hll
        go_enter Try.func65, Try.ntmps65
        go_wp2_with fail
        go_loopw [30] (fun i wr => ∃ j : Nat, j ≤ Fo.len k ∧ i = .int .i64 j ∧ eqOk k l j ∧ Below (w.heap.size + 2) ((w.alloc (.cells #[.bool xv, .int .i64 xn, .slice a1 (Fo.len k) c1] 35)).alloc (.cells #[.bool xv, .int .i64 xn, .slice a2 (Fo.len l) c2] 35)) wr) (fun i _ => Fo.len k - (intOf i).toNat)
        case atStart => exact ⟨0, Nat.zero_le _, rfl, fun i hi => by omega, Below.refl _ _⟩
        case round =>
          obtain ⟨j, hj, rfl, hok, hBx⟩ := hrel
          obtain ⟨⟨-, -, t2⟩, ⟨-, -, u2⟩, hBr, hlt0⟩ := box2_cells hBx
          have Hok := hide hok
          have HBx := hide hBx
          clear hok hBx
          by_cases hlt : j < Fo.len k
          · have hlt' : (j : Int) < (Fo.len k : Int) := by omega
            have hlt2 : (j : Int) < (Fo.len l : Int) := by omega
            have hj0 : (0 : Int) ≤ (j : Int) := by omega
            obtain ⟨⟨⟨yv, yn⟩, yk⟩, hy⟩ : ∃ y, k.list[j]? = some y := ⟨k.list[j]'(by rw [Hl1.out]; exact hlt), by simp⟩
            obtain ⟨⟨⟨zv, zn⟩, zk⟩, hz⟩ : ∃ y, l.list[j]? = some y := ⟨l.list[j]'(by rw [Hl2.out]; omega), by simp⟩
            obtain ⟨p0, p1, yv', p2, hSy⟩ := (HF1.out.below hBr).at hy
            obtain ⟨q0, q1, zv', q2, hSz⟩ := (HF2.out.below hBr).at hz
            have ha1 : a1 = some ⟨b1, o1, none⟩ := had1 (by omega)
            have ha2 : a2 = some ⟨b2, o2, none⟩ := had2 (by omega)
            subst ha1 ha2
            have HSy := hide hSy
            have HSz := hide hSz
            obtain ⟨ya, yc, yb, yo, rfl, -, -, -, -⟩ := hSy
            obtain ⟨za, zc, zb, zo, rfl, -, -, -, -⟩ := hSz
            have Hy := hide hy
            have Hz := hide hz
            clear hy hz had1 had2
            go_upto_region 6 with fail
            go_cut [44] (fun s44 wx => s44 = .bool (!(sameT (yv, yn) yk (zv, zn) zk)) ∧ Below wr.heap.size wr wx)
            case first =>
              go_region_held3 (fun w' => w'.cell? ⟨w.heap.size, 2, none⟩ = some (.slice (some ⟨b1, o1, none⟩) (Fo.len k) c1) ∧ w'.cell? ⟨w.heap.size + 1, 2, none⟩ = some (.slice (some ⟨b2, o2, none⟩) (Fo.len l) c2) ∧ w'.cell? ⟨b1, o1 + j * 3, none⟩ = some (.bool yv) ∧ w'.cell? ⟨b1, o1 + j * 3 + 1, none⟩ = some (.int .i64 yn) ∧ w'.cell? ⟨b1, o1 + j * 3 + 2, none⟩ = some (.slice ya (Fo.len yk) yc)
                  ∧ w'.cell? ⟨b2, o2 + j * 3, none⟩ = some (.bool zv) ∧ w'.cell? ⟨b2, o2 + j * 3 + 1, none⟩ = some (.int .i64 zn) ∧ w'.cell? ⟨b2, o2 + j * 3 + 2, none⟩ = some (.slice za (Fo.len zk) zc))
                (first
                  | go_keep
                  | exact ⟨grow_cell hb2 _ _ t2, grow_cell hb2 _ _ u2, grow_cell hb2 _ _ p0, grow_cell hb2 _ _ p1, grow_cell hb2 _ _ p2, grow_cell hb2 _ _ q0, grow_cell hb2 _ _ q1, grow_cell hb2 _ _ q2⟩)
                (first
                  | (go_at_call 65; refine (HI.out ((yv, yn), yk) (List.mem_of_getElem? Hy.out) (zv, zn) zk _ _ _ ?_ ?_).mono ?_; (exact HSy.out.drew); (exact HSz.out.drew); rintro e w2 ⟨rfl, hb2⟩))
              go_wp2_with fail
              go_meet
              case rel => exact ⟨rfl, ((Below.refl _ _).drew).trans hb2⟩
            case rest =>
              obtain ⟨rfl, hb2⟩ := hcut
              generalize wc = w2 at *
              have HB2 := hide (HBx.out.trans (hb2.mono (by omega)))
              cases he : sameT (yv, yn) yk (zv, zn) zk
              · have Hf2 : Hid (sameF k l = false) := sameF_bad Hy.out Hz.out he
                have hB2 := below_step hBr hb2
                clear he
                go_wp2_with fail
                go_ret
                exact ⟨by rw [Hf.out, Hf2.out]; rfl, hB2⟩
              · have Hok2 := hide (eqOk_succ Hok.out Hy.out Hz.out he)
                clear he
                go_wp2_with fail
                go_roundw
                case rel => exact ⟨j + 1, by omega, by go_num, Hok2.out, HB2.out⟩
                case measure => simp [intOf]; omega
          · have Hf2 : Hid (sameF k l = true) := by
              have e : j = Fo.len k := by omega
              have := Hok.out
              rw [e] at this
              exact sameF_end Hll.out this
            go_wp2_with fail
            go_ret
            exact ⟨by rw [Hf.out, Hf2.out]; rfl, hBr⟩
      · have hllb : ((Fo.len k : Int) != (Fo.len l : Int)) = true := by simp; omega
        have Hf : Hid (sameT (xv, xn) k (yv, yn) l = false) := by
          have : sameF k l = false := by rw [Bool.eq_false_iff]; exact fun h => hll (sameF_len h)
          simp [Hid, sameT, this]
        subst hv hn
        go_enter Try.func65, Try.ntmps65
        go_wp2_with fail
        go_ret
        exact ⟨by rw [Hf.out]; rfl, (below_alloc _ _).alloc (by simp) _⟩
    · have Hf : Hid (sameT (xv, xn) k (yv, yn) l = false) := by simp [Hid, sameT, hn]
      have hnb : (xn != yn) = true := by simpa using hn
      subst hv
      clear hn
      go_enter Try.func65, Try.ntmps65
      go_wp2_with fail
      go_ret
      exact ⟨by rw [Hf.out]; rfl, (below_alloc _ _).alloc (by simp) _⟩
  · have Hf : Hid (sameT (xv, xn) k (yv, yn) l = false) := by simp [Hid, sameT, hv]
    have e : yv = !xv := by cases xv <;> cases yv <;> simp_all
    subst e
    clear hv
    cases xv
    · go_enter Try.func65, Try.ntmps65
      go_wp2_with fail
      go_ret
      exact ⟨by rw [Hf.out]; rfl, (below_alloc _ _).alloc (by simp) _⟩
    · go_enter Try.func65, Try.ntmps65
      go_wp2_with fail
      go_ret
      exact ⟨by rw [Hf.out]; rfl, (below_alloc _ _).alloc (by simp) _⟩

/-- The law's own: the same numbers? -/
theorem nums_end {p q : List Int} (hl : p.length = q.length) (h : ∀ i, i < p.length → p.getD i 0 = q.getD i 0) : p = q := by
  apply List.ext_getElem hl
  intro i h1 h2
  have := h i h1
  simpa [List.getD_eq_getElem?_getD, h1, h2] using this

end Go.Proofs.Ytfnkjadfepoicac

/- What is at a place: the document's At. -/
namespace Go.Proofs.Ytfnkjadfepoicac
open Go.RowKit Go.Deep Go.ChangeShapes Go.WideShapes
attribute [local go_sem ↓] Go.wp_at_zero Go.wp_at_succ

def atR : List Int → Bool × Int → Fo → Option ((Bool × Int) × Fo)
  | [], x, k => some (x, k)
  | n :: p, _, k => if n < 0 ∨ (Fo.len k : Int) ≤ n then none else match k.list[n.toNat]? with
    | some y => atR p y.1 y.2
    | none => none

theorem walk_at {s : List Int} {d : Int} : ∀ {F : Fo} {j : Nat} {y : (Bool × Int) × Fo}, walkF s F d = 0 → F.list[j]? = some y → walkT s y.1 y.2 d = 0
  | .nil, _, _, _, h => by simp [Fo.list] at h
  | .node p q x k r, 0, y, hF, hj => by
    obtain ⟨q1, _⟩ := walkF_ok hF
    simp [Fo.list] at hj
    subst hj
    exact q1
  | .node p q x k r, j + 1, y, hF, hj => by
    obtain ⟨_, q2⟩ := walkF_ok hF
    exact walk_at q2 (by simpa [Fo.list] using hj)

theorem atR_atT {s : List Int} : ∀ {p : List Int} {x : Bool × Int} {k : Fo} {d : Int}, walkT s x k d = 0 → atR p x k = atT p x k
  | [], _, _, _, _ => rfl
  | n :: p, x, k, d, h => by
    obtain ⟨_, ha, hk⟩ := walkT_ok h
    rw [atR, atT]
    by_cases hn : n < 0 ∨ (Fo.len k : Int) ≤ n
    · rw [if_pos hn, if_pos (.inr hn)]
    · rw [if_neg hn]
      have hx : ¬ x.1 = true := fun hx => by
        obtain ⟨xv, xn⟩ := x
        simp only at hx
        subst hx
        obtain ⟨hl, _⟩ := alone_var ha
        rw [hl] at hn
        simp [Fo.len] at hn
        omega
      rw [if_neg (fun h => by rcases h with h | h; exact hx h; exact hn h)]
      cases hy : k.list[n.toNat]? with
      | none => rfl
      | some y => exact atR_atT (walk_at hk hy)

/-- All numbers but the first. -/
theorem nums_tail {n : Int} {p : List Int} {c b o : Nat} (hlc : p.length + 1 ≤ c) (hcm : c ≤ maxLen) : ∃ (a' : Option Addr) (c' : Nat), (∀ w, (Instr.slice 22 (.slice (some ⟨b, o, none⟩) (p.length + 1) c) (some (.int .i64 1)) none none).run Try.prog w = .ok (.slice a' p.length c') w) ∧
    ∀ w : World, (∀ i, i < p.length + 1 → w.cell? ⟨b, o + i, none⟩ = some (.int .i64 ((n :: p).getD i 0))) → NIn w p (.slice a' p.length c') := by
  refine ⟨if c = 1 then some ⟨b, o, none⟩ else some ⟨b, o + 1, none⟩, c - 1, fun w => ?_, fun w h => ?_⟩
  · rw [run_slice_l (ht := by kernel_rfl) (h0 := by omega) (h1 := by omega)]
    have e : (sizeOf (Try.prog.elem 22)).run Try.prog w = .ok 1 w := by
      rw [show Try.prog.elem 22 = 3 by kernel_rfl]
      simp [go_sem]
    simp only [Result.andThen, sliced, e]
    by_cases hc : c = 1
    · simp [hc]
    · simp [hc, Addr.add]
  · refine ⟨_, c - 1, b, o + 1, rfl, fun hp => ?_, by omega, by omega, fun i hi => ?_⟩
    · rw [if_neg (by omega)]
    · have := h (i + 1) (by omega)
      rw [show o + 1 + i = o + (i + 1) by omega, this]
      simp

theorem BIn.node {X : Nat → Prop} {w : World} {p q : Nat} {x : Bool × Int} {k r : Fo} {b o : Nat} (h : BIn X w (.node p q x k r) b o) :
    w.cell? ⟨b, o, none⟩ = some (.bool x.1) ∧ w.cell? ⟨b, o + 1, none⟩ = some (.int .i64 x.2) ∧ (∃ v, w.cell? ⟨b, o + 2, none⟩ = some v ∧ SB X w k v) ∧ BIn X w r b (o + 3) := by
  obtain ⟨h0, h1, ⟨a, c, b', o', h2, h3, h4, h5, h6⟩, h7⟩ := h
  exact ⟨h0, h1, ⟨_, h2, a, c, b', o', rfl, h3, h4, h5, h6⟩, h7⟩
theorem BIn.at {X : Nat → Prop} {w : World} : ∀ {F : Fo} {b o i : Nat} {x : Bool × Int} {k : Fo}, BIn X w F b o → F.list[i]? = some (x, k) →
    w.cell? ⟨b, o + i * 3, none⟩ = some (.bool x.1) ∧ w.cell? ⟨b, o + i * 3 + 1, none⟩ = some (.int .i64 x.2) ∧ ∃ v, w.cell? ⟨b, o + i * 3 + 2, none⟩ = some v ∧ SB X w k v
  | .nil, _, _, _, _, _, _, h => by simp [Fo.list] at h
  | .node _ _ y k' r, b, o, 0, x, k, hF, h => by
    simp only [Fo.list, List.getElem?_cons_zero, Option.some.injEq, Prod.mk.injEq] at h
    obtain ⟨rfl, rfl⟩ := h
    obtain ⟨h0, h1, h2, _⟩ := hF.node
    simpa using ⟨h0, h1, h2⟩
  | .node _ _ y k' r, b, o, i + 1, x, k, hF, h => by
    simp only [Fo.list, List.getElem?_cons_succ] at h
    obtain ⟨_, _, _, h3⟩ := hF.node
    have := BIn.at h3 h
    have e : o + 3 + i * 3 = o + (i + 1) * 3 := by omega
    rwa [e] at this
/-- What lies in memory lies in the blocks that there are. -/
theorem FIn.toB {w : World} : ∀ {F : Fo} {b o : Nat}, FIn w F b o → BIn (fun q => q < w.heap.size) w F b o
  | .nil, _, _, _ => trivial
  | .node _ _ x k r, b, o, ⟨h0, h1, ⟨a, c, b', o', h2, h3, h4, h5, h6⟩, h7⟩ => by
    refine ⟨h0, h1, ⟨a, c, b', o', h2, fun h => ⟨h3 h, ?_⟩, h4, h5, h6.toB⟩, h7.toB⟩
    cases k with
    | nil => simp [Fo.len] at h
    | node _ _ _ _ _ => exact World.block_lt_of_cell? _ _ h6.1
theorem SIn.toB {w : World} {k : Fo} {v : Value} (h : SIn w k v) : SB (fun q => q < w.heap.size) w k v := by
  obtain ⟨a, c, b, o, rfl, h3, h4, h5, h6⟩ := h
  refine ⟨a, c, b, o, rfl, fun h => ⟨h3 h, ?_⟩, h4, h5, h6.toB⟩
  cases k with
  | nil => simp [Fo.len] at h
  | node _ _ _ _ _ => exact World.block_lt_of_cell? _ _ h6.1
theorem SB.grow {X : Nat → Prop} {w w' : World} {k : Fo} {v : Value} (h : SB X w k v) (hX : ∀ q, X q → q < w.heap.size) (hb : Below w.heap.size w w') : SB X w' k v :=
  h.frame (fun _ h => h) (fun q i hq => hb.cell (p := ⟨q, i, none⟩) (hX q hq))
theorem SB.shrink {X : Nat → Prop} {w w' : World} {k : Fo} {v : Value} (h : SB X w' k v) (hX : ∀ q, X q → q < w.heap.size) (hb : Below w.heap.size w w') : SB X w k v :=
  h.frame (fun _ h => h) (fun q i hq => (hb.cell (p := ⟨q, i, none⟩) (hX q hq)).symm)

def AtRSaid (p : List Int) : Prop := ∀ (X : Nat → Prop) (x : Bool × Int) (k : Fo) (a pv : Value) (w : World), (∀ q, X q → q < w.heap.size) → SB X w k a → NIn w p pv →
    Calls Try.prog 50 #[.agg #[.bool x.1, .int .i64 x.2, a], pv] w fun e w' => ∃ (b : Bool) (y : Bool × Int) (l : Fo) (a1 : Option Addr) (a2 a3 : Nat), e = .returned (.tuple #[.agg #[.bool y.1, .int .i64 y.2, .slice a1 a2 a3], .bool b]) ∧ SB X w l (.slice a1 a2 a3) ∧ atR p x k = (if b then some (y, l) else none) ∧ (b = false → y = (false, 0) ∧ l = .nil) ∧ Below w.heap.size w w'

set_option maxRecDepth 100000 in
set_option maxHeartbeats 1000000 in
theorem atR_any : ∀ p : List Int, AtRSaid p := by
  intro p
  induction p with
  | nil =>
    intro X x k a pv w hX hS hN
    obtain ⟨xv, xn⟩ := x
    have HS := hide hS
    obtain ⟨ad, c, b, o, rfl, -, -, -, -⟩ := hS
    obtain ⟨pa, pc, pb, po, rfl, -, -, -, -⟩ := hN
    go_enter Try.func50, Try.ntmps50
    go_wp2_with fail
    exact bodyPost_ret (v := .tuple #[.agg #[.bool xv, .int .i64 xn, .slice ad (Fo.len k) c], .bool true]) (by simp [results, Try.results50, go_sem]) rfl ⟨true, (xv, xn), k, _, _, _, rfl, HS.out, rfl, (fun h => by cases h), (below_alloc _ _).alloc (by simp) _⟩
  | cons n p ih =>
    intro X x k a pv w hX hS hN
    obtain ⟨xv, xn⟩ := x
    have HS := hide hS
    have HI := hide ih
    have HX := hide hX
    obtain ⟨ad, c, b, o, rfl, had, hlc, hcm, hF⟩ := hS
    obtain ⟨pa, pc, pb, po, rfl, hpa, hplc, hpcm, hpF⟩ := hN
    have hpa' : pa = some ⟨pb, po, none⟩ := hpa (by simp)
    subst hpa'
    unfold maxLen at hcm
    have HF := hide hF
    have hp0 : w.cell? ⟨pb, po, none⟩ = some (.int .i64 n) := by simpa using hpF 0 (by simp)
    simp only [List.length_cons] at hplc ⊢
    obtain ⟨ta, tc, hsl, htl⟩ := nums_tail (n := n) (b := pb) (o := po) hplc hpcm
    have HN : Hid (NIn w p (.slice ta p.length tc)) := htl w (by simpa using hpF)
    have hpm : pc ≤ 9223372036854775807 := by unfold maxLen at hpcm; omega
    clear ih hF hpF hpa htl hpcm hX
    have hBB : Below w.heap.size w ((w.alloc (.cells #[.bool xv, .int .i64 xn, .slice ad (Fo.len k) c] 35)).alloc (.cells #[.bool false, .int .i64 0, .slice none 0 0] 35)) := (below_alloc _ _).alloc (by simp) _
    have hp0' := grow_cell hBB _ _ hp0
    by_cases hn0 : n < 0
    · have Hf : Hid (atR (n :: p) (xv, xn) k = none) := by rw [Hid, atR, if_pos (.inl hn0)]
      go_enter Try.func50, Try.ntmps50
      go_wp2_with fail
      go_quiet (fail)
      go_wp2_with fail
      rw [Hf.out]
      exact bodyPost_ret (v := .tuple #[.agg #[.bool false, .int .i64 0, .slice none 0 0], .bool false]) (by simp [results, Try.results50, go_sem]) rfl ⟨false, (false, 0), .nil, _, _, _, rfl, SB.nil _ _, rfl, fun _ => ⟨rfl, rfl⟩, set3_below (o := 0) (below_drewN hBB _) (by simp)⟩
    by_cases hns : (Fo.len k : Int) ≤ n
    · have Hf : Hid (atR (n :: p) (xv, xn) k = none) := by rw [Hid, atR, if_pos (.inr hns)]
      go_enter Try.func50, Try.ntmps50
      go_wp2_with fail
      go_quiet (fail)
      go_wp2_with fail
      rw [Hf.out]
      exact bodyPost_ret (v := .tuple #[.agg #[.bool false, .int .i64 0, .slice none 0 0], .bool false]) (by simp [results, Try.results50, go_sem]) rfl ⟨false, (false, 0), .nil, _, _, _, rfl, SB.nil _ _, rfl, fun _ => ⟨rfl, rfl⟩, set3_below (o := 0) (below_drewN hBB _) (by simp)⟩
    have hn0' : 0 ≤ n := by omega
    have hns' : n < (Fo.len k : Int) := by omega
    have had' : ad = some ⟨b, o, none⟩ := (had (by omega)).1
    subst had'
    obtain ⟨⟨⟨yv, yn⟩, yk⟩, hy⟩ : ∃ y, k.list[n.toNat]? = some y := ⟨k.list[n.toNat]'(by rw [Fo.len_list]; omega), by simp⟩
    obtain ⟨c0, c1, yv', c2, hSy⟩ := HF.out.at hy
    have HSy := hide hSy
    obtain ⟨ya, yc, yb, yo, rfl, -, -, -, -⟩ := hSy
    have Hf : Hid (atR (n :: p) (xv, xn) k = atR p (yv, yn) yk) := by rw [Hid, atR, if_neg (by omega), hy]
    have c0' := grow_cell hBB _ _ c0
    have c1' := grow_cell hBB _ _ c1
    have c2' := grow_cell hBB _ _ c2
    clear hy had
    go_enter Try.func50, Try.ntmps50
    go_wp2_with fail
    go_quiet (fail)
    go_wp2_with fail
    generalize hw5 : World.drewN _ _ = w5
    have d0 : w5.cell? ⟨pb, po, none⟩ = some (.int .i64 n) := by rw [← hw5]; exact hp0'
    have d1 : w5.cell? ⟨b, o + n.toNat * 3, none⟩ = some (.bool yv) := by rw [← hw5]; exact c0'
    have d2 : w5.cell? ⟨b, o + n.toNat * 3 + 1, none⟩ = some (.int .i64 yn) := by rw [← hw5]; exact c1'
    have d3 : w5.cell? ⟨b, o + n.toNat * 3 + 2, none⟩ = some (.slice ya (Fo.len yk) yc) := by rw [← hw5]; exact c2'
    have t2 : w5.cell? ⟨w.heap.size, 2, none⟩ = some (.slice (some ⟨b, o, none⟩) (Fo.len k) c) := by rw [← hw5]; simp
    have r0 : w5.cell? ⟨w.heap.size + 1, 0, none⟩ = some (.bool false) := by rw [← hw5]; simp
    have r1 : w5.cell? ⟨w.heap.size + 1, 1, none⟩ = some (.int .i64 0) := by rw [← hw5]; simp
    have r2 : w5.cell? ⟨w.heap.size + 1, 2, none⟩ = some (.slice none 0 0) := by rw [← hw5]; simp
    have rf : ∀ i, w5.frozen? ⟨w.heap.size + 1, i, none⟩ = false := fun i => by rw [← hw5]; simp
    have hB5 : Below w.heap.size w w5 := by rw [← hw5]; exact below_drewN hBB _
    have hs5 : w.heap.size + 1 < w5.heap.size := World.block_lt_of_cell? _ _ r0
    have hne1 : w.heap.size + 1 ≠ pb := by have := World.block_lt_of_cell? _ _ hp0; simp only at this; omega
    have hne2 : w.heap.size + 1 ≠ b := by have := World.block_lt_of_cell? _ _ c0; simp only at this; omega
    clear hw5 hp0' c0' c1' c2' hBB hp0 c0 c1 c2
    go_region_held3 (fun w' => w'.cell? ⟨w.heap.size, 2, none⟩ = some (.slice (some ⟨b, o, none⟩) (Fo.len k) c) ∧ w'.cell? ⟨pb, po, none⟩ = some (.int .i64 n) ∧ w'.cell? ⟨b, o + n.toNat * 3, none⟩ = some (.bool yv) ∧ w'.cell? ⟨b, o + n.toNat * 3 + 1, none⟩ = some (.int .i64 yn) ∧ w'.cell? ⟨b, o + n.toNat * 3 + 2, none⟩ = some (.slice ya (Fo.len yk) yc))
      (first
        | go_keep
        | exact ⟨t2', d0', d1', d2', d3'⟩)
      (first
        | (go_at_call 50; refine (HI.out X (yv, yn) yk _ _ _ ?_ ?_ ?_).mono ?_; (exact fun q hq => Nat.lt_of_lt_of_le (HX.out q hq) hB5.size); (exact (HSy.out.grow HX.out hB5).frame (fun _ h => h) (fun _ _ _ => rfl)); (exact (HN.out.below hB5).drew); rintro e w2 ⟨bb, ⟨zv, zn⟩, zl, a1, a2, a3, rfl, hSz, hat, hno, hb2⟩; have t2' := grow_cell hb2 _ _ t2; have d0' := grow_cell hb2 _ _ d0; have d1' := grow_cell hb2 _ _ d1; have d2' := grow_cell hb2 _ _ d2; have d3' := grow_cell hb2 _ _ d3
           have r0' := grow_cell hb2 _ _ r0; have r1' := grow_cell hb2 _ _ r1; have r2' := grow_cell hb2 _ _ r2; have rf' : ∀ i, w2.frozen? ⟨w.heap.size + 1, i, none⟩ = false := (fun i => (hb2.frozen hs5).trans (rf i)); have Hz := hide (And.intro (hSz.shrink (w := w) HX.out hB5.drew) (And.intro hat (And.intro hno (below_step hB5 (((Below.refl _ _).drew).trans hb2))))); clear hSz hat hno hb2))
    go_wp2_with fail
    rw [Hf.out]
    exact bodyPost_ret (v := .tuple #[.agg #[.bool zv, .int .i64 zn, .slice a1 a2 a3], .bool bb]) (by simp [results, Try.results50, go_sem, r0', r1', r2']) rfl ⟨bb, (zv, zn), zl, _, _, _, rfl, Hz.out.1, Hz.out.2.1, Hz.out.2.2.1, set3_below (o := 0) Hz.out.2.2.2 (by omega)⟩

end Go.Proofs.Ytfnkjadfepoicac

/- A row of terms whose head lies in a variable's box: one more term. -/
namespace Go.Proofs.Ytfnkjadfepoicac
open Go.RowKit Go.Deep Go.ChangeShapes Go.WideShapes

/-- Where a row's terms may lie: in X, or behind the box B, but not in the row itself. -/
def Rm (B : Nat) (X : Nat → Prop) (w : World) (v : Value) : Nat → Prop := fun q => X q ∨ (B + 1 ≤ q ∧ q < w.heap.size ∧ some q ≠ v.ownBlock)

theorem row_step {B : Nat} {X : Nat → Prop} {wr w1 w3 : World} {acc : Fo} {v v' : Value} {x : Bool × Int} {k : Fo} {a : Value} {g cap : Nat} {xs : List Value} {ob : Obj}
    (h1 : wr.ownsRow (B + 1) 35 3 v (Fo.len acc) xs) (h2 : CellsOf (Rm B X wr v) wr acc xs) (hX : ∀ q, X q → q < B) (hBl : B < wr.heap.size) (hBc : ∃ u, wr.cell? ⟨B, 2, none⟩ = some u)
    (hsz : wr.heap.size ≤ w1.heap.size) (hb : ∀ q, X q ∨ B ≤ q → q < wr.heap.size → w1.heap[q]? = wr.heap[q]?) (hk : SB (fun q => X q ∨ (wr.heap.size ≤ q ∧ q < w1.heap.size)) w1 k a)
    (hv' : v' = .slice (some ⟨g, 0, none⟩) (Fo.len acc + 1) cap) (ho : w3.ownsRow (B + 1) 35 3 v' (Fo.len acc + 1) (xs ++ [.bool x.1, .int .i64 x.2, a])) (hg : (w1.alloc ob).grownBy w3 v.ownBlock)
    (hat : v.ownBlock = some g ∨ g = w1.heap.size + 1) (hlt : g < w3.heap.size) :
    (w3.setCell ⟨B, 2, none⟩ v').ownsRow (B + 1) 35 3 v' (Fo.len (Fo.snoc acc x k)) (xs ++ [.bool x.1, .int .i64 x.2, a]) ∧ CellsOf (Rm B X (w3.setCell ⟨B, 2, none⟩ v') v') (w3.setCell ⟨B, 2, none⟩ v') (Fo.snoc acc x k) (xs ++ [.bool x.1, .int .i64 x.2, a]) ∧
    (w3.setCell ⟨B, 2, none⟩ v').cell? ⟨B, 2, none⟩ = some v' ∧ (∀ q, q < w1.heap.size → some q ≠ v.ownBlock → q ≠ B → (w3.setCell ⟨B, 2, none⟩ v').heap[q]? = w1.heap[q]?) ∧
    (∀ i, i ≠ 2 → (w3.setCell ⟨B, 2, none⟩ v').cell? ⟨B, i, none⟩ = wr.cell? ⟨B, i, none⟩) ∧ (∀ i, (w3.setCell ⟨B, 2, none⟩ v').frozen? ⟨B, i, none⟩ = wr.frozen? ⟨B, i, none⟩) ∧ w1.heap.size < (w3.setCell ⟨B, 2, none⟩ v').heap.size := by
  have hs3 := hg.size
  simp at hs3
  have hBo : some B ≠ v.ownBlock := fun e => by have := (owns_at h1 B e.symm).1; omega
  have far : ∀ q, q < w1.heap.size → some q ≠ v.ownBlock → q ≠ B → (w3.setCell ⟨B, 2, none⟩ v').heap[q]? = w1.heap[q]? := fun q hq hn hqB => by
    rw [Below.heap_setCell _ _ _ _ hqB, hg.block q (by simp; omega) hn, Below.heap_alloc _ _ _ hq]
  have farB : w3.heap[B]? = wr.heap[B]? := by rw [hg.block B (by simp; omega) hBo, Below.heap_alloc _ _ _ (by omega), hb B (.inr (Nat.le_refl _)) hBl]
  have hv'g : v'.ownBlock = some g := by rw [hv']; rfl
  have hgB : B + 1 ≤ g := (owns_at ho g hv'g).1
  refine ⟨by rw [snoc_len]; exact ownsRow_setCell_below ho (by simp) _, ?_, ?_, far, ?_, ?_, by rw [World.size_setCell]; omega⟩
  · refine CellsOf.snoc ?_ ?_
    · refine hk.frame (fun q hq => ?_) (fun q i hq => World.cell?_of_block (far q ?_ ?_ ?_))
      · rcases hq with hq | ⟨q1, q2⟩
        · exact .inl hq
        · refine .inr ⟨by omega, by rw [World.size_setCell]; omega, ?_⟩
          rw [hv'g]
          intro e
          simp at e
          subst e
          rcases hat with e | e
          · have := (owns_at h1 _ e).2; omega
          · omega
      · rcases hq with hq | hq
        · have := hX q hq; omega
        · exact hq.2
      · intro e
        have h3 := owns_at h1 _ e.symm
        rcases hq with hq | hq
        · have := hX q hq; omega
        · omega
      · rcases hq with hq | hq
        · have := hX q hq; omega
        · omega
    · refine CellsOf.frame (fun q hq => ?_) (fun q i hq => ?_) h2
      · rcases hq with hq | ⟨q1, q2, q3⟩
        · exact .inl hq
        · refine .inr ⟨q1, by rw [World.size_setCell]; omega, ?_⟩
          rw [hv'g]
          intro e
          simp at e
          subst e
          rcases hat with e | e
          · exact q3 e.symm
          · omega
      · have hq' : q < wr.heap.size ∧ (X q ∨ B ≤ q) ∧ some q ≠ v.ownBlock ∧ q ≠ B := by
          rcases hq with hq | ⟨q1, q2, q3⟩
          · have := hX q hq
            exact ⟨by omega, .inl hq, fun e => by have := (owns_at h1 _ e.symm).1; omega, by omega⟩
          · exact ⟨q2, .inr (by omega), q3, by omega⟩
        exact World.cell?_of_block ((far q (by omega) hq'.2.2.1 hq'.2.2.2).trans (hb q hq'.2.1 hq'.1))
  · obtain ⟨u, hu⟩ := hBc
    exact set_same (u := u) (by rw [World.cell?_of_block farB]; exact hu)
  · intro i hi
    rw [set_other (by intro e; simp only [Addr.mk.injEq] at e; omega)]
    exact World.cell?_of_block farB
  · intro i
    rw [World.frozen?_setCell]
    exact World.frozen?_of_block farB

/-- The terms of a forest, each without what is no part of it. -/
def Fo.nl (F : Fo) : List ((Bool × Int) × Fo) := F.list.map fun y => (y.1, Fo.norm y.2)
theorem nl_len (F : Fo) : (Fo.nl F).length = Fo.len F := by rw [Fo.nl, List.length_map, Fo.len_list]
theorem nl_snoc : ∀ (F : Fo) (x : Bool × Int) (k : Fo), Fo.nl (Fo.snoc F x k) = Fo.nl F ++ [(x, Fo.norm k)]
  | .nil, _, _ => rfl
  | .node _ _ y l r, x, k => by
    have := nl_snoc r x k
    unfold Fo.nl at this ⊢
    simp [Fo.snoc, Fo.list, this]
theorem nl_norm : ∀ {F G : Fo}, Fo.nl F = Fo.nl G → Fo.norm F = Fo.norm G
  | .nil, .nil, _ => rfl
  | .nil, .node _ _ _ _ _, h => by simp [Fo.nl, Fo.list] at h
  | .node _ _ _ _ _, .nil, h => by simp [Fo.nl, Fo.list] at h
  | .node _ _ x k r, .node _ _ y l q, h => by
    simp only [Fo.nl, Fo.list, List.map_cons, List.cons.injEq, Prod.mk.injEq] at h
    obtain ⟨⟨e1, e2⟩, e3⟩ := h
    simp [Fo.norm, e1, e2, nl_norm (F := r) (G := q) e3]
theorem norm_nl : ∀ {F G : Fo}, Fo.norm F = Fo.norm G → Fo.nl F = Fo.nl G
  | .nil, .nil, _ => rfl
  | .nil, .node _ _ _ _ _, h => by simp [Fo.norm] at h
  | .node _ _ _ _ _, .nil, h => by simp [Fo.norm] at h
  | .node _ _ x k r, .node _ _ y l q, h => by
    simp only [Fo.norm, BT.node.injEq, true_and] at h
    obtain ⟨e1, e2, e3⟩ := h
    have := norm_nl (F := r) (G := q) e3
    unfold Fo.nl at this
    simp [Fo.nl, Fo.list, e1, e2, this]
theorem same_norm : ∀ {F G : Fo}, Fo.norm F = Fo.norm G → sameF F G = true
  | .nil, .nil, _ => rfl
  | .nil, .node _ _ _ _ _, h => by simp [Fo.norm] at h
  | .node _ _ _ _ _, .nil, h => by simp [Fo.norm] at h
  | .node _ _ x k r, .node _ _ y l q, h => by
    simp only [Fo.norm, BT.node.injEq, true_and] at h
    obtain ⟨e1, e2, e3⟩ := h
    simp [sameF, e1, same_norm e2, same_norm e3]
theorem sameT_norm {x y : Bool × Int} {k l : Fo} (h : x = y) (hn : Fo.norm k = Fo.norm l) : sameT x k y l = true := by
  subst h; simp [sameT, same_norm hn]

end Go.Proofs.Ytfnkjadfepoicac
