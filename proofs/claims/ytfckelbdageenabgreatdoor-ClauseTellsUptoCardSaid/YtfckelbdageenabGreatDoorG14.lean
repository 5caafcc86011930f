/- Written, and read again: the law's walk. -/
import Derived.Test.YtfckelbdageenabGreatDoorG07
import Derived.Test.YtfckelbdageenabGreatDoorG10
import Derived.Test.YtfckelbdageenabGreatDoorG13
namespace Go.Proofs.YtfckelbdageenabGreatDoor
open Go.RowKit Go.Deep Go.ChangeShapes Go.WideShapes
attribute [local go_sem ↓] Go.wp_at_zero Go.wp_at_succ

theorem norm_walk (s : List Int) : ∀ (F : Fo) (d : Int), walkF s (Fo.norm F) d = walkF s F d
  | .nil, _ => rfl
  | .node _ _ x k r, d => by
    simp only [Fo.norm, walkF, norm_len k, norm_walk s k (d + 1), norm_walk s r d]
theorem norm_sizesR : ∀ F : Fo, Fo.sizesR (Fo.norm F) = Fo.sizesR F
  | .nil => rfl
  | .node _ _ x k r => by simp [Fo.norm, Fo.sizesR, norm_sizesR k, norm_sizesR r]
theorem norm_wrong (s : List Int) (x : Bool × Int) (k : Fo) : wrongF s x (Fo.norm k) = wrongF s x k := by
  have e1 : walkT s x (Fo.norm k) 1 = walkT s x k 1 := by simp only [walkT, norm_len, norm_walk]
  have e2 : tszR (Fo.norm k) = tszR k := by rw [tszR, norm_sizesR, tszR]
  rw [wrongF, e1, e2, wrongF]

theorem parse_text {s : List Int} (hs : wsig s = 0) {x : Bool × Int} {k : Fo} (h : wrongF s x k = 0) : parseT s (textT x k) = (0, (x, Fo.norm k)) := by
  obtain ⟨hok, h6, _⟩ := wsig_ok hs
  obtain ⟨h1, _, _, _, hw⟩ := right_of hok h
  have hl := textT_len x k
  have hr := read_text h6 x k 1 hw ((textT x k).length + 1) [] (by simp)
  rw [List.append_nil] at hr
  have hwn := (norm_wrong s x k).trans h
  rw [parseT, if_neg (by simpa using hs), if_neg (by omega), hr]
  simp [hwn]
theorem parse_back {s : List Int} {l : List UInt8} (h : (parseT s l).1 = 0) : textT (parseT s l).2.1 (parseT s l).2.2 = l ∧ wrongF s (parseT s l).2.1 (parseT s l).2.2 = 0 ∧ s.all okNum = true ∧ s.length ≤ 6 := by
  unfold parseT at h ⊢
  by_cases h0 : wsig s = 0
  · rw [if_neg (by simpa using h0)] at h ⊢
    by_cases h1 : 48 < l.length
    · rw [if_pos h1] at h; simp at h
    · rw [if_neg h1] at h ⊢
      by_cases h2 : (readT s (l.length + 1) l).1 = 0
      · rw [if_neg (by simpa using h2)] at h ⊢
        by_cases h3 : (readT s (l.length + 1) l).2.2 = []
        · rw [if_neg (by simpa using h3)] at h ⊢
          by_cases h4 : wrongF s (readT s (l.length + 1) l).2.1.1 (readT s (l.length + 1) l).2.1.2 = 0
          · rw [if_neg (by simpa using h4)]
            have hb := read_back _ _ h2
            rw [h3, List.append_nil] at hb
            exact ⟨hb.symm, h4, (wsig_ok h0).1, (wsig_ok h0).2.1⟩
          · rw [if_pos h4] at h; exact absurd h h4
        · rw [if_pos h3] at h; simp at h
      · rw [if_pos h2] at h; exact absurd h h2
  · rw [if_pos h0] at h; exact absurd h h0

theorem tx_text {s : List Int} {x : Bool × Int} {k : Fo} {a : Value} {w : World} {B : ByteArray} (hB : B.data.toList = textT x k) (hs : s.all okNum = true) (h6 : s.length ≤ 6) (h : wrongF s x k = 0) (hS : SIn w k a) :
    Calls Tryz.prog 74 #[.agg #[.bool x.1, .int .i64 x.2, a]] w fun e w' => e = .returned (.string B) ∧ Below w.heap.size w w' := by
  obtain ⟨h1, _, _, _, hw⟩ := right_of hs h
  have hl := textT_len x k
  obtain ⟨t1, t2⟩ := text_okT h6 hw
  have hc := text_any x k a w hS t1 t2 (by omega)
  rw [← hB] at hc
  exact hc
theorem tx_parse {s : List Int} {sv : Value} {x : Bool × Int} {k : Fo} {w : World} {B : ByteArray} (hB : B.data.toList = textT x k) (hs : wsig s = 0) (h : wrongF s x k = 0) (hN : NIn w s sv) :
    Calls Tryz.prog 65 #[sv, .string B] w fun e w' => ∃ a1 a2 a3, e = .returned (.tuple #[.agg #[.bool x.1, .int .i64 x.2, .slice a1 a2 a3], .int .i64 0]) ∧ SIn w' (Fo.norm k) (.slice a1 a2 a3) ∧ Below w.heap.size w w' := by
  obtain ⟨h1, _, _, _, hw⟩ := right_of (wsig_ok hs).1 h
  have hl := textT_len x k
  have hc := parse_any s sv (textT x k) w hN (by unfold maxLen; omega)
  rw [parse_text hs h, ← hB] at hc
  refine hc.mono ?_
  rintro e w' ⟨a, he, h1, h2⟩
  obtain ⟨a1, a2, a3, rfl⟩ := slice_of_sin h1
  exact ⟨a1, a2, a3, he, h1, h2⟩
theorem tx_read {s : List Int} {sv : Value} {x : Bool × Int} {k : Fo} {w : World} {B C : ByteArray} (hB : B.data.toList = textT x k) (hs : wsig s = 0) (h : wrongF s x k = 0) (hN : NIn w s sv) (hC : C.size ≤ 2 ^ 48) :
    Calls Tryz.prog 94 #[sv, .string (B ++ C)] w fun e w' => ∃ a1 a2 a3, e = .returned (.tuple #[.agg #[.bool x.1, .int .i64 x.2, .slice a1 a2 a3], .string C, .int .i64 0]) ∧ SIn w' (Fo.norm k) (.slice a1 a2 a3) ∧ Below w.heap.size w w' := by
  obtain ⟨hok, h6, _⟩ := wsig_ok hs
  obtain ⟨h1, _, _, _, hw⟩ := right_of hok h
  have hl := textT_len x k
  have hCl : C.data.toList.length = C.size := Array.length_toList
  have hlen : (textT x k ++ C.data.toList).length ≤ 2 ^ 48 + 36 := by rw [List.length_append]; omega
  have hc := read_any s ((textT x k ++ C.data.toList).length + 1) sv (textT x k ++ C.data.toList) w hN hok (by omega) (by unfold maxLen; omega)
  rw [read_text h6 x k 1 hw ((textT x k ++ C.data.toList).length + 1) C.data.toList (by omega)] at hc
  have e1 : str (textT x k ++ C.data.toList) = .string (B ++ C) := by
    rw [← hB]
    congr 1
  rw [e1] at hc
  refine hc.mono ?_
  rintro e w' ⟨a, he, h1, h2⟩
  obtain ⟨a1, a2, a3, rfl⟩ := slice_of_sin h1.toS
  exact ⟨a1, a2, a3, he, h1.toS, h2⟩
theorem tx_same {x : Bool × Int} {k : Fo} {a c : Value} {w : World} (hS : SIn w k a) (hS2 : SIn w (Fo.norm k) c) :
    Calls Tryz.prog 54 #[.agg #[.bool x.1, .int .i64 x.2, a], .agg #[.bool x.1, .int .i64 x.2, c]] w fun e w' => e = .returned (.bool true) ∧ Below w.heap.size w w' := by
  have h := same_any x k x (Fo.norm k) a c w hS hS2
  rw [show sameT x k x (Fo.norm k) = true by simp [sameT, norm_same]] at h
  exact h
theorem tx_any {s : List Int} {sv : Value} {w : World} {B : ByteArray} (hN : NIn w s sv) (hC : B.size ≤ 2 ^ 48) :
    Calls Tryz.prog 65 #[sv, .string B] w fun e w' => ∃ (E : Int) (x : Bool × Int) (k : Fo) (a1 : Option Addr) (a2 a3 : Nat), e = .returned (.tuple #[.agg #[.bool x.1, .int .i64 x.2, .slice a1 a2 a3], .int .i64 E]) ∧ SIn w' k (.slice a1 a2 a3) ∧ Below w.heap.size w w' ∧ (E = 0 → B.data.toList = textT x k ∧ wrongF s x k = 0 ∧ s.all okNum = true ∧ s.length ≤ 6) := by
  have hCl : B.data.toList.length = B.size := Array.length_toList
  refine (parse_any s sv B.data.toList w hN (by unfold maxLen; omega)).mono ?_
  rintro e w' ⟨a, he, h1, h2⟩
  obtain ⟨a1, a2, a3, rfl⟩ := slice_of_sin h1
  refine ⟨_, _, _, a1, a2, a3, he, h1, h2, fun h => ?_⟩
  obtain ⟨p1, p2⟩ := parse_back h
  exact ⟨p1.symm, p2⟩

end Go.Proofs.YtfckelbdageenabGreatDoor

/- Of which models a clause holds, told alone; as it is kept it tells the same. -/
namespace Go.Proofs.YtfckelbdageenabGreatDoor
open Go.RowKit Go.Deep Go.ChangeShapes Go.WideShapes

def valF (z : Int) (tb : List (List Int)) (e : Int → Int) : Fo → Int → Int
  | .nil, a => a
  | .node _ _ x k r, a => valF z tb e r (z * a + (if x.1 then e x.2 else (tb.getD x.2.toNat []).getD (valF z tb e k 0).toNat 0))
def valT (z : Int) (tb : List (List Int)) (e : Int → Int) (t : Tm) : Int := if t.1.1 then e t.1.2 else (tb.getD t.1.2.toNat []).getD (valF z tb e t.2 0).toNat 0
theorem valF_node (z : Int) (tb : List (List Int)) (e : Int → Int) (p q : Nat) (x : Bool × Int) (k r : Fo) (a : Int) : valF z tb e (.node p q x k r) a = valF z tb e r (z * a + valT z tb e (x, k)) := rfl
def litH (z : Int) (tb : List (List Int)) (e : Int → Int) (l : Lt) : Bool := l.1 != (valT z tb e l.2.1 == valT z tb e l.2.2)
def someH (z : Int) (tb : List (List Int)) (e : Int → Int) (c : Cl) : Bool := c.any (litH z tb e)
def holdsP (z : Int) (tb : List (List Int)) (c : Cl) : Prop := ∀ e : Int → Int, (∀ v, 0 ≤ e v ∧ e v < z) → someH z tb e c = true

theorem valF_congr {z : Int} {tb : List (List Int)} {e e' : Int → Int} : ∀ {F : Fo}, (∀ n, occF n F → e n = e' n) → ∀ a, valF z tb e F a = valF z tb e' F a
  | .nil, _, _ => rfl
  | .node p q x k r, h, a => by
    have hk : (∀ n, occT n (x, k) → e n = e' n) := fun n hn => h n (by rw [occ_mem]; exact ⟨(x, k), by simp [Fo.list], hn⟩)
    have hr : (∀ n, occF n r → e n = e' n) := fun n hn => h n (by
      rw [occ_mem] at hn ⊢
      obtain ⟨t, ht, h2⟩ := hn
      exact ⟨t, by simp [Fo.list, ht], h2⟩)
    rw [valF, valF, valF_congr hr]
    congr 2
    cases hx : x.1 with
    | true => simp; exact hk x.2 (by simp [occT, hx])
    | false =>
      simp only [Bool.false_eq_true, if_false]
      rw [valF_congr (F := k) (fun n hn => hk n (by simp [occT, hx, hn]))]
theorem valT_congr {z : Int} {tb : List (List Int)} {e e' : Int → Int} {t : Tm} (h : ∀ n, occT n t → e n = e' n) : valT z tb e t = valT z tb e' t := by
  obtain ⟨⟨v, m⟩, k⟩ := t
  cases v with
  | true => simp only [valT, if_true]; exact h m (by simp [occT])
  | false => simp only [valT, Bool.false_eq_true, if_false]; rw [valF_congr (F := k) (fun n hn => h n (by simp [occT, hn]))]
theorem valF_sub {z : Int} {tb : List (List Int)} {e : Int → Int} {f : Int → Tm} : ∀ (F : Fo) (a : Int), valF z tb e (subF f F) a = valF z tb (fun n => valT z tb e (f n)) F a
  | .nil, _ => rfl
  | .node p q x k r, a => by
    rw [subF_node, valF_node, valF_node, valF_sub r]
    congr 2
    obtain ⟨v, m⟩ := x
    cases v with
    | true => rw [subT_var]; simp [valT]
    | false => rw [subT_sym]; unfold valT; rw [if_neg (by simp), if_neg (by simp)]; dsimp only; rw [valF_sub k]; rfl
theorem valT_sub {z : Int} {tb : List (List Int)} {e : Int → Int} {f : Int → Tm} (t : Tm) : valT z tb e (subT f t) = valT z tb (fun n => valT z tb e (f n)) t := by
  obtain ⟨⟨v, m⟩, k⟩ := t
  cases v with
  | true => rw [subT_var]; simp [valT]
  | false => rw [subT_sym]; unfold valT; rw [if_neg (by simp), if_neg (by simp)]; dsimp only; rw [valF_sub k]; rfl

theorem beq_swap (a b : Int) : (a == b) = (b == a) := by
  rw [Bool.eq_iff_iff]
  simp only [beq_iff_eq]
  exact ⟨Eq.symm, Eq.symm⟩
theorem litH_flip {z : Int} {tb : List (List Int)} {e : Int → Int} (l : Lt) : litH z tb e (flipL l) = litH z tb e l := by
  unfold flipL
  split
  · simp only [litH]; rw [beq_swap]
  · rfl
theorem litH_like {z : Int} {tb : List (List Int)} {e : Int → Int} {a b : Lt} (ha : okL a) (hb : okL b) (h : likeL a b = true) (hs : a.1 = b.1) : litH z tb e a = litH z tb e b := by
  rw [like_iff ha hb] at h
  simp only [litH, hs]
  rcases h with ⟨h1, h2⟩ | ⟨h1, h2⟩
  · rw [h1, h2]
  · rw [h1, h2, beq_swap]
theorem litH_other {z : Int} {tb : List (List Int)} {e : Int → Int} {a b : Lt} (ha : okL a) (hb : okL b) (h : likeL a b = true) (hs : b.1 ≠ a.1) : litH z tb e a = true ∨ litH z tb e b = true := by
  have hl := litH_like (z := z) (tb := tb) (e := e) (a := a) (b := (a.1, b.2)) ha hb (by rw [← h]; rfl) rfl
  rw [hl]
  have : b.1 = !a.1 := by cases h1 : b.1 <;> cases h2 : a.1 <;> simp_all
  simp only [litH, this]
  cases a.1 <;> cases (valT z tb e b.2.1 == valT z tb e b.2.2) <;> simp

theorem some_step {z : Int} {tb : List (List Int)} {e : Int → Int} {o : Option Cl} {l : Lt} (hl : okL l) : ∀ out, o = some out → (∀ d, tstep o l = some d → someH z tb e d = (someH z tb e out || litH z tb e l)) ∧ (tstep o l = none → litH z tb e l = true) := by
  intro out ho
  subst ho
  simp only [tstep, Option.bind_some]
  by_cases hs : sameT l.2.1.1 l.2.1.2 l.2.2.1 l.2.2.2 = true
  · rw [if_pos hs]
    have he : l.2.1 = l.2.2 := (sameT_iff hl.1 hl.2).1 hs
    cases hn : l.1 with
    | true =>
      refine ⟨fun d hd => ?_, fun h => by simp at h⟩
      simp at hd
      subst hd
      simp [litH, hn, he]
    | false => exact ⟨fun d hd => by simp at hd, fun _ => by simp [litH, hn, he]⟩
  · rw [if_neg hs]
    refine ⟨fun d hd => ?_, fun h => by cases h⟩
    cases hd
    simp [someH, litH_flip]
theorem some_turn {z : Int} {tb : List (List Int)} {e : Int → Int} : ∀ {c : Cl} {o : Option Cl} {out : Cl}, (∀ l ∈ c, okL l) → o = some out → (∀ d, c.foldl tstep o = some d → someH z tb e d = (someH z tb e out || someH z tb e c)) ∧ (c.foldl tstep o = none → someH z tb e c = true)
  | [], o, out, _, ho => ⟨fun d hd => by subst ho; cases hd; simp [someH], fun h => by subst ho; cases h⟩
  | l :: c, o, out, hc, ho => by
    have h1 := some_step (z := z) (tb := tb) (e := e) (o := o) (l := l) (hc l (by simp)) out ho
    cases ht : tstep o l with
    | none =>
      have := h1.2 ht
      refine ⟨fun d hd => ?_, fun _ => by simp [someH, this]⟩
      rw [List.foldl_cons, ht, fold_none (fun _ => rfl)] at hd
      cases hd
    | some out2 =>
      have h2 := some_turn (z := z) (tb := tb) (e := e) (c := c) (o := some out2) (out := out2) (fun x hx => hc x (by simp [hx])) rfl
      have h3 := h1.1 out2 ht
      rw [List.foldl_cons, ht]
      refine ⟨fun d hd => ?_, fun h => ?_⟩
      · rw [h2.1 d hd, h3]
        simp [someH, Bool.or_assoc]
      · have := h2.2 h
        simp only [someH, List.any_cons] at this ⊢
        rw [this, Bool.or_true]
theorem holds_turn {z : Int} {tb : List (List Int)} {c : Cl} (hc : ∀ l ∈ c, okL l) : (∀ d, turnC c = some d → (holdsP z tb c ↔ holdsP z tb d)) ∧ (turnC c = none → holdsP z tb c) := by
  refine ⟨fun d hd => ?_, fun h e _ => (some_turn (o := some []) (out := []) hc rfl).2 h⟩
  have key : ∀ e, someH z tb e d = someH z tb e c := fun e => by
    have := (some_turn (z := z) (tb := tb) (e := e) (o := some []) (out := []) hc rfl).1 d hd
    simpa [someH] using this
  unfold holdsP
  simp only [key]
theorem holds_dist {z : Int} {tb : List (List Int)} {P : Cl} (hP : ∀ l ∈ P, okL l) : (∀ d, distC P = some d → (holdsP z tb P ↔ holdsP z tb d)) ∧ (distC P = none → holdsP z tb P) := by
  refine ⟨fun d hd => ?_, fun h e _ => ?_⟩
  · obtain ⟨k1, k2, _⟩ := dist_kept hP hd
    have key : ∀ e, someH z tb e d = someH z tb e P := fun e => by
      rw [Bool.eq_iff_iff]
      simp only [someH, List.any_eq_true]
      constructor
      · rintro ⟨x, hx, h⟩; exact ⟨x, k1 x hx, h⟩
      · rintro ⟨y, hy, h⟩
        obtain ⟨f, h1, h2, h3⟩ := k2 y hy
        exact ⟨f, h1, by rw [litH_like (hP f (k1 f h1)) (hP y hy) h2 h3]; exact h⟩
    unfold holdsP
    simp only [key]
  · have key : ∀ n, n ≤ P.length → distC (P.take n) = none → someH z tb e P = true := by
      intro n
      induction n with
      | zero => intro _ h; simp [distC] at h
      | succ n ih =>
        intro hn h
        have hl : P[n]? = some P[n] := List.getElem?_eq_getElem (by omega)
        cases hd : distC (P.take n) with
        | none => exact ih (by omega) hd
        | some out =>
          rw [dist_take hl, hd] at h
          have hk := dist_kept (fun x hx => hP x (List.mem_of_mem_take hx)) hd
          obtain ⟨y, hy, h1, h2⟩ := (kept_step hk (fun x hx => hP x (List.mem_of_mem_take hx)) (hP _ (List.getElem_mem _)) h).2.1.1 rfl
          have hyP := List.mem_of_mem_take hy
          simp only [someH, List.any_eq_true]
          rcases litH_other (z := z) (tb := tb) (e := e) (hP _ (List.getElem_mem _)) (hP y hyP) h1 h2 with h | h
          · exact ⟨_, List.getElem_mem _, h⟩
          · exact ⟨y, hyP, h⟩
    exact key P.length (Nat.le_refl _) (by rw [List.take_length]; exact h)

theorem idx_cons {v n : Int} {vs : List Int} (h : ¬ v = n) : (v :: vs).idxOf n = vs.idxOf n + 1 := by
  have : (v == n) = false := by simp [h]
  rw [List.idxOf_cons, this, cond_false]
/-- New numbers: which they are. -/
theorem look_num {n : Int} : ∀ {vs : List Int} {k : Nat}, look (vs.mapIdx fun i v => (v, vr ((i + k : Nat) : Int))) n = if n ∈ vs then some (vr ((vs.idxOf n + k : Nat) : Int)) else none
  | [], _ => rfl
  | v :: vs, k => by
    rw [List.mapIdx_cons, look]
    by_cases h : v = n
    · subst h
      simp
    · have hn : ¬ n = v := fun e => h e.symm
      rw [if_neg (by simpa using h)]
      have e : (fun i (v : Int) => (v, vr ((i + 1 + k : Nat) : Int))) = fun i v => (v, vr ((i + (k + 1) : Nat) : Int)) := by
        funext i v; rw [show i + 1 + k = i + (k + 1) by omega]
      rw [e, look_num (vs := vs) (k := k + 1)]
      by_cases hm : n ∈ vs
      · rw [if_pos hm, if_pos (by simp [hm]), idx_cons h]
        rw [show vs.idxOf n + (k + 1) = vs.idxOf n + 1 + k by omega]
      · rw [if_neg hm, if_neg (by simp [hm, hn])]
theorem bnd_num {vs : List Int} {n : Int} (h : n ∈ vs) : bnd (numS vs) n = vr (vs.idxOf n : Nat) := by
  have := look_num (n := n) (vs := vs) (k := 0)
  simp only [Nat.add_zero] at this
  rw [if_pos h] at this
  exact bnd_some this
theorem num_ok (vs : List Int) : ∀ p ∈ numS vs, okT p.2 := fun p hp => by
  simp only [numS, List.mem_mapIdx] at hp
  obtain ⟨i, hi, rfl⟩ := hp
  exact ok_vr _
theorem varsT_mem {x : Bool × Int} {k : Fo} {l : List Int} {m : Int} : m ∈ varsT x k l ↔ m ∈ l ∨ occT m (x, k) := by
  unfold varsT
  obtain ⟨v, n⟩ := x
  cases v with
  | true =>
    simp only [if_true, occT]
    by_cases h : hasB l n = true
    · rw [if_pos h]
      have hn : n ∈ l := by simpa [hasB] using h
      constructor
      · exact .inl
      · rintro (h | rfl); exact h; exact hn
    · rw [if_neg h]; simp [eq_comm]
  | false => simp only [Bool.false_eq_true, if_false, occT]; exact occ_varsF
def occL (m : Int) (l : Lt) : Prop := occT m l.2.1 ∨ occT m l.2.2
theorem varsL_mem {l : Lt} {v : List Int} {m : Int} : m ∈ varsL l v ↔ m ∈ v ∨ occL m l := by
  unfold varsL occL
  rw [varsT_mem, varsT_mem, or_assoc]
theorem varsC_mem {m : Int} : ∀ {c : Cl} {v : List Int}, m ∈ varsC c v ↔ m ∈ v ∨ ∃ l ∈ c, occL m l
  | [], v => by simp [varsC]
  | l :: c, v => by
    show m ∈ varsC c (varsL l v) ↔ _
    rw [varsC_mem, varsL_mem]
    simp [or_assoc]
theorem varsT_nodup {x : Bool × Int} {k : Fo} {l : List Int} (h : l.Nodup) : (varsT x k l).Nodup := by
  unfold varsT
  split
  · split
    · exact h
    · rename_i hh
      rw [List.nodup_append]
      refine ⟨h, by simp, fun a ha b hb => ?_⟩
      simp at hb
      intro e
      rw [hb] at e
      exact hh (by simp [hasB, ← e, ha])
  · exact varsF_nodup h
theorem varsC_nodup : ∀ {c : Cl} {v : List Int}, v.Nodup → (varsC c v).Nodup
  | [], _, h => h
  | _ :: c, _, h => varsC_nodup (c := c) (varsT_nodup (varsT_nodup h))
theorem idx_inj {vs : List Int} {m n : Int} (hm : m ∈ vs) (h : vs.idxOf m = vs.idxOf n) : m = n := by
  have h1 : vs.idxOf m < vs.length := List.idxOf_lt_length_of_mem hm
  have h2 : vs[vs.idxOf m]'h1 = m := List.getElem_idxOf h1
  have h3 : vs.idxOf n < vs.length := by rw [← h]; exact h1
  have h4 : vs[vs.idxOf n]'h3 = n := List.getElem_idxOf h3
  rw [← h2, ← h4]
  simp only [h]
theorem holds_ren {z : Int} {tb : List (List Int)} {d : Cl} : holdsP z tb d ↔ holdsP z tb (reN d) := by
  have key : ∀ e, someH z tb e (reN d) = someH z tb (fun n => valT z tb e (bnd (numS (varsC d [])) n)) d := fun e => by
    unfold someH reN
    rw [List.any_map]
    congr 1
    funext l
    simp only [Function.comp, litH, mapL, valT_sub]
  have same : ∀ (e e' : Int → Int), (∀ n ∈ varsC d [], e n = e' n) → someH z tb e d = someH z tb e' d := fun e e' h => by
    unfold someH
    rw [Bool.eq_iff_iff, List.any_eq_true, List.any_eq_true]
    refine exists_congr fun l => and_congr_right fun hl => ?_
    have h1 : ∀ n, occL n l → e n = e' n := fun n hn => h n (varsC_mem.2 (.inr ⟨l, hl, hn⟩))
    simp only [litH]
    rw [valT_congr (fun n hn => h1 n (.inl hn)), valT_congr (t := l.2.2) (fun n hn => h1 n (.inr hn))]
  constructor
  · intro h e he
    rw [key]
    have := h (fun n => if n ∈ varsC d [] then e ((varsC d []).idxOf n : Nat) else e 0) (fun v => by split; exact he _; exact he _)
    rw [same _ _ ?_] at this
    · exact this
    · intro n hn
      simp only [hn, if_true]
      rw [bnd_num hn]
      simp [valT, vr]
  · intro h e he
    have := h (fun i => e ((varsC d []).getD i.toNat 0)) (fun v => he _)
    rw [key] at this
    rw [← this]
    refine same _ _ fun n hn => ?_
    rw [bnd_num hn]
    have h1 : (varsC d []).idxOf n < (varsC d []).length := List.idxOf_lt_length_of_mem hn
    simp only [valT, vr, if_true, Int.toNat_natCast]
    rw [List.getD_eq_getElem?_getD, List.getElem?_eq_getElem h1, Option.getD_some, List.getElem_idxOf h1]

end Go.Proofs.YtfckelbdageenabGreatDoor

/- As it is kept: what a right clause's new numbers leave as it is; kept again it is as it is. -/
namespace Go.Proofs.YtfckelbdageenabGreatDoor
open Go.RowKit Go.Deep Go.ChangeShapes Go.WideShapes

theorem nodup_le : ∀ {l m : List Int}, l.Nodup → (∀ x ∈ l, x ∈ m) → l.length ≤ m.length
  | [], _, _, _ => Nat.zero_le _
  | a :: l, m, hn, hs => by
    rw [List.nodup_cons] at hn
    have ha : a ∈ m := hs a (by simp)
    have h1 := nodup_le (l := l) (m := m.erase a) hn.2 (fun x hx => by
      have hne : x ≠ a := fun e => hn.1 (e ▸ hx)
      exact (List.mem_erase_of_ne hne).2 (hs x (by simp [hx])))
    rw [List.length_erase_of_mem ha] at h1
    have := List.length_pos_of_mem ha
    simp only [List.length_cons]
    omega
theorem gc_few {d : Cl} (h : ∀ l ∈ d, GL l) : ∀ n ∈ varsC d [], 0 ≤ n ∧ n ≤ 4 := fun n hn => by
  rcases varsC_mem.1 hn with hn | ⟨l, hl, hn⟩
  · cases hn
  · rcases hn with hn | hn
    · exact (h l hl).gl.few n hn
    · exact (h l hl).gr.few n hn
theorem gc_vars {d : Cl} (h : ∀ l ∈ d, GL l) : (varsC d []).length ≤ 5 := by
  refine nodup_le (m := [0, 1, 2, 3, 4]) (varsC_nodup List.nodup_nil) (fun x hx => ?_)
  have := gc_few h x hx
  simp
  omega
theorem wgF_zero {c : Int → Nat} (hc : ∀ n, c n = 0) : ∀ F : Fo, wgF c F = 0
  | .nil => rfl
  | .node _ _ x k r => by rw [wgF, wgF_zero hc k, wgF_zero hc r, hc]; simp
theorem num_nil (vs : List Int) (n : Int) : (bnd (numS vs) n).2 = .nil := by
  by_cases h : n ∈ vs
  · rw [bnd_num h]; rfl
  · have := look_num (n := n) (vs := vs) (k := 0)
    simp only [Nat.add_zero] at this
    rw [if_neg h] at this
    have e : bnd (numS vs) n = vr n := bnd_none this
    rw [e]; rfl
theorem num_size {vs : List Int} {t : Tm} (h : okT t) : tszR (subT (bnd (numS vs)) t).2 = tszR t.2 := by
  have := subT_size (f := bnd (numS vs)) h
  simp only [szT, wgT] at this
  rw [wgF_zero (fun n => by rw [num_nil]; rfl)] at this
  rw [this, num_nil]
  simp [Fo.sizesR]
theorem num_gd {vs : List Int} (hl : vs.length ≤ 5) : ∀ p ∈ numS vs, Gd p.2 := fun p hp => by
  simp only [numS, List.mem_mapIdx] at hp
  obtain ⟨i, hi, rfl⟩ := hp
  exact gd_vr ⟨by omega, by omega⟩
theorem GL.num {vs : List Int} (hl : vs.length ≤ 5) {l : Lt} (h : GL l) : GL (mapL (subT (bnd (numS vs))) l) :=
  ⟨gd_sub (num_gd hl) h.gl, gd_sub (num_gd hl) h.gr, by simp only [mapL]; rw [num_size h.gl.ok]; exact h.sl, by simp only [mapL]; rw [num_size h.gr.ok]; exact h.sr⟩
theorem GL.okl {l : Lt} (h : GL l) : okL l := ⟨h.gl.ok, h.gr.ok⟩
theorem gc_ren {d : Cl} (h : GC d) : GC (reN d) := by
  refine ⟨by rw [reN, List.length_map]; exact h.1, fun l hl => ?_⟩
  obtain ⟨x, hx, rfl⟩ := List.mem_map.1 hl
  exact (h.2 x hx).num (gc_vars h.2)
theorem gc_dist {d e : Cl} (h : GC d) (he : distC d = some e) : GC e := by
  refine ⟨?_, dist_mem (p := GL) he (fun e he => by cases he; simp) h.2⟩
  have := dist_len (n := 0) he (fun e he => by cases he; simp)
  have := h.1
  omega
theorem gc_big {e : Cl} (h : GC e) : e.any bigL = false := by
  rw [List.any_eq_false]
  intro x hx
  have h1 := (h.2 x hx).sl
  have h2 := (h.2 x hx).sr
  simp [bigL]
  omega
theorem gc_keep {d e : Cl} (hd : GC d) (he : GC e) : keepC d e = (0, e) := by
  unfold keepC
  rw [if_neg]
  rintro (h | h | h)
  · have := he.1; omega
  · have := gc_vars hd.2; omega
  · rw [gc_big he] at h; cases h
/-- What Norm tells of a right clause. -/
theorem norm_cases {c : Cl} (hc : GC c) : (turnC c = none ∧ normC c = (6, [])) ∨ ∃ d, turnC c = some d ∧ GC d ∧ GC (reN d) ∧ ((distC (reN d) = none ∧ normC c = (6, [])) ∨ ∃ e, distC (reN d) = some e ∧ GC e ∧ normC c = (0, e)) := by
  cases ht : turnC c with
  | none => exact .inl ⟨rfl, by simp [normC, ht]⟩
  | some d =>
    have hd := turn_gc ht hc
    have hr := gc_ren hd
    refine .inr ⟨d, rfl, hd, hr, ?_⟩
    cases he : distC (reN d) with
    | none => exact .inl ⟨rfl, by simp [normC, ht, he]⟩
    | some e =>
      have hE := gc_dist hr he
      exact .inr ⟨e, rfl, hE, by simp only [normC, ht, he]; exact gc_keep hd hE⟩
theorem norm_holds {z : Int} {tb : List (List Int)} {c : Cl} (hc : GC c) : ((normC c).1 = 6 → holdsP z tb c) ∧ ((normC c).1 = 0 → (holdsP z tb c ↔ holdsP z tb (normC c).2)) := by
  have h1 := holds_turn (z := z) (tb := tb) (fun l hl => (hc.2 l hl).okl)
  rcases norm_cases hc with ⟨ht, hn⟩ | ⟨d, ht, hd, hr, hn⟩
  · rw [hn]; exact ⟨fun _ => h1.2 ht, fun h => by simp at h⟩
  · have h2 := h1.1 d ht
    have h3 := holds_ren (z := z) (tb := tb) (d := d)
    have h4 := holds_dist (z := z) (tb := tb) (fun l hl => (hr.2 l hl).okl)
    rcases hn with ⟨he, hn⟩ | ⟨e, he, hE, hn⟩
    · rw [hn]; exact ⟨fun _ => h2.2 (h3.2 (h4.2 he)), fun h => by simp at h⟩
    · rw [hn]; exact ⟨fun h => by simp at h, fun _ => h2.trans (h3.trans (h4.1 e he))⟩

end Go.Proofs.YtfckelbdageenabGreatDoor

/- Kept again it is as it is; what is kept is right. -/
namespace Go.Proofs.YtfckelbdageenabGreatDoor
open Go.RowKit Go.Deep Go.ChangeShapes Go.WideShapes

/-- A literal that stands as it must: it does not say that something is itself, and its right is not above its left. -/
def Tn (l : Lt) : Prop := l.2.1 ≠ l.2.2 ∧ abvT l.2.2 l.2.1 = false
theorem tn_flip {l : Lt} (h : okL l) (hs : ¬ l.2.1 = l.2.2) : Tn (flipL l) := by
  unfold flipL
  by_cases ha : abvT l.2.2 l.2.1 = true
  · rw [if_pos ha]
    exact ⟨fun e => hs e.symm, by simpa using abv_asym h.2 h.1 ha⟩
  · rw [if_neg ha]
    exact ⟨hs, by simpa using ha⟩
theorem tstep_tn {o : Option Cl} {l : Lt} {d : Cl} (h : tstep o l = some d) (hl : okL l) (h0 : ∀ e, o = some e → ∀ x ∈ e, Tn x) : ∀ x ∈ d, Tn x := by
  cases o with
  | none => simp [tstep] at h
  | some e =>
    simp only [tstep, Option.bind_some] at h
    by_cases hs : sameT l.2.1.1 l.2.1.2 l.2.2.1 l.2.2.2 = true
    · rw [if_pos hs] at h
      split at h
      · obtain rfl := Option.some.inj h; exact h0 _ rfl
      · cases h
    · rw [if_neg hs] at h
      cases h
      intro x hx
      rcases List.mem_append.1 hx with hx | hx
      · exact h0 e rfl x hx
      · simp at hx; rw [hx]; exact tn_flip hl (fun e => hs ((sameT_iff hl.1 hl.2).2 e))
theorem turn_tn : ∀ {c : Cl} {o : Option Cl} {d : Cl}, c.foldl tstep o = some d → (∀ l ∈ c, okL l) → (∀ e, o = some e → ∀ x ∈ e, Tn x) → ∀ x ∈ d, Tn x
  | [], o, d, h, _, h0 => h0 d h
  | l :: c, o, d, h, hc, h0 => turn_tn (c := c) (o := tstep o l) h (fun x hx => hc x (by simp [hx])) (fun e he => tstep_tn he (hc l (by simp)) h0)
theorem turn_fix : ∀ {c out : Cl}, (∀ l ∈ c, okL l ∧ Tn l) → c.foldl tstep (some out) = some (out ++ c)
  | [], out, _ => by simp
  | l :: c, out, h => by
    obtain ⟨ho, h1, h2⟩ := h l (by simp)
    have hs : ¬ sameT l.2.1.1 l.2.1.2 l.2.2.1 l.2.2.2 = true := fun e => h1 ((sameT_iff ho.1 ho.2).1 e)
    have e1 : tstep (some out) l = some (out ++ [l]) := by
      simp only [tstep, Option.bind_some]
      rw [if_neg hs]
      unfold flipL
      rw [if_neg (by rw [h2]; simp)]
    rw [List.foldl_cons, e1, turn_fix (fun x hx => h x (by simp [hx]))]
    simp

/-- New numbers, and back. -/
def bck (vs : List Int) (n : Int) : Tm := vr (vs.getD n.toNat 0)
theorem num_back {vs : List Int} {t : Tm} (ht : okT t) (h : ∀ n, occT n t → n ∈ vs) : subT (bck vs) (subT (bnd (numS vs)) t) = t := by
  rw [subT_sub]
  have : subT (fun n => subT (bck vs) (bnd (numS vs) n)) t = subT vr t := subT_congr fun n hn => by
    have hm := h n hn
    rw [bnd_num hm]
    have h1 : vs.idxOf n < vs.length := List.idxOf_lt_length_of_mem hm
    show bck vs (vs.idxOf n : Nat) = vr n
    unfold bck
    rw [Int.toNat_natCast, List.getD_eq_getElem?_getD, List.getElem?_eq_getElem h1, Option.getD_some, List.getElem_idxOf h1]
  rw [this, subT_vr ht]
theorem ren_tn {d : Cl} (hd : GC d) (h : ∀ l ∈ d, Tn l) : ∀ l ∈ reN d, Tn l := by
  intro l hl
  obtain ⟨x, hx, rfl⟩ := List.mem_map.1 hl
  obtain ⟨h1, h2⟩ := h x hx
  have g := hd.2 x hx
  have g' := g.num (gc_vars hd.2)
  have o1 : ∀ n, occT n x.2.1 → n ∈ varsC d [] := fun n hn => varsC_mem.2 (.inr ⟨x, hx, .inl hn⟩)
  have o2 : ∀ n, occT n x.2.2 → n ∈ varsC d [] := fun n hn => varsC_mem.2 (.inr ⟨x, hx, .inr hn⟩)
  refine ⟨fun e => h1 ?_, ?_⟩
  · have := congrArg (subT (bck (varsC d []))) e
    simp only [mapL] at this
    rw [num_back g.gl.ok o1, num_back g.gr.ok o2] at this
    exact this
  · cases ha : abvT (mapL (subT (bnd (numS (varsC d [])))) x).2.2 (mapL (subT (bnd (numS (varsC d [])))) x).2.1 with
    | false => rfl
    | true =>
      have := abv_sub (f := bck (varsC d [])) (fun n => ok_vr _) _ rfl g'.gr g'.gl ha
      simp only [mapL] at this
      rw [num_back g.gl.ok o1, num_back g.gr.ok o2, h2] at this
      cases this

theorem varsT_all {x : Bool × Int} {k : Fo} {v : List Int} (h : ∀ n, occT n (x, k) → n ∈ v) : varsT x k v = v := by
  have key : ∀ (F : Fo) (v : List Int), (∀ n, occF n F → n ∈ v) → varsF F v = v := by
    intro F
    induction F with
    | nil => intro v _; rfl
    | node p q y l r ihl ihr =>
      intro v hv
      have hl : ∀ n, occT n (y, l) → n ∈ v := fun n hn => hv n (by rw [occ_mem]; exact ⟨(y, l), by simp [Fo.list], hn⟩)
      have hr : ∀ n, occF n r → n ∈ v := fun n hn => hv n (by
        rw [occ_mem] at hn ⊢
        obtain ⟨t, ht, h2⟩ := hn
        exact ⟨t, by simp [Fo.list, ht], h2⟩)
      have e : varsT y l v = v := by
        obtain ⟨b, n⟩ := y
        cases b with
        | true =>
          have := hl n (by simp [occT])
          simp [varsT, hasB, this]
        | false => simp only [varsT, Bool.false_eq_true, if_false]; exact ihl v (fun n hn => hl n (by simp [occT, hn]))
      show varsF r (varsT y l v) = v
      rw [e, ihr v hr]
  obtain ⟨b, n⟩ := x
  cases b with
  | true =>
    have := h n (by simp [occT])
    simp [varsT, hasB, this]
  | false => simp only [varsT, Bool.false_eq_true, if_false]; exact key k v (fun n hn => h n (by simp [occT, hn]))
theorem varsL_all {l : Lt} {v : List Int} (h : ∀ n, occL n l → n ∈ v) : varsL l v = v := by
  unfold varsL
  rw [varsT_all (x := l.2.1.1) (k := l.2.1.2) (v := v) (fun n hn => h n (.inl hn)), varsT_all (fun n hn => h n (.inr hn))]
theorem varsC_append (c d : Cl) (v : List Int) : varsC (c ++ d) v = varsC d (varsC c v) := by simp [varsC, List.foldl_append]
theorem like_occ {f l : Lt} (hf : okL f) (hl : okL l) (h : likeL f l = true) (n : Int) : occL n l → occL n f := by
  rw [like_iff hf hl] at h
  unfold occL
  rcases h with ⟨h1, h2⟩ | ⟨h1, h2⟩
  · rw [h1, h2]; exact id
  · rw [h1, h2]; exact Or.symm
theorem dist_vars {P out : Cl} (hP : ∀ x ∈ P, okL x) (h : distC P = some out) : varsC out [] = varsC P [] := by
  have key : ∀ (n : Nat) (out : Cl), n ≤ P.length → distC (P.take n) = some out → varsC out [] = varsC (P.take n) [] := by
    intro n
    induction n with
    | zero => intro out _ h; simp [distC] at h; subst h; simp
    | succ n ih =>
      intro out hn h
      have hl : P[n]? = some P[n] := List.getElem?_eq_getElem (by omega)
      rw [dist_take hl] at h
      cases hd : distC (P.take n) with
      | none => rw [hd] at h; simp [dstep] at h
      | some e =>
        rw [hd] at h
        have he := ih e (by omega) hd
        have hm : ∀ x ∈ e, x ∈ P := dist_mem (p := fun x => x ∈ P) hd (fun e he => by cases he; simp) (fun x hx => List.mem_of_mem_take hx)
        rw [List.take_add_one, hl]
        simp only [dstep, Option.bind_some] at h
        cases hf : e.find? (fun f => likeL f P[n]) with
        | none =>
          rw [hf] at h
          cases h
          rw [varsC_append, varsC_append, he]
          rfl
        | some f =>
          rw [hf] at h
          simp only at h
          split at h
          · obtain rfl := Option.some.inj h
            have hfm : f ∈ e := List.mem_of_find?_eq_some hf
            have hfl : likeL f P[n] = true := by have := List.find?_some hf; simpa using this
            rw [varsC_append, ← he]
            show _ = varsL P[n] (varsC e [])
            rw [varsL_all]
            intro m hmm
            exact varsC_mem.2 (.inr ⟨f, hfm, like_occ (hP f (hm f hfm)) (hP _ (List.getElem_mem _)) hfl m hmm⟩)
          · cases h
  have := key P.length out (Nat.le_refl _) (by rw [List.take_length]; exact h)
  rwa [List.take_length] at this
theorem dist_fix : ∀ {c out : Cl}, (out ++ c).Pairwise (fun a b => likeL a b = false) → c.foldl dstep (some out) = some (out ++ c)
  | [], out, _ => by simp
  | l :: c, out, h => by
    have hno : out.find? (fun f => likeL f l) = none := by
      rw [List.find?_eq_none]
      intro f hf
      rw [List.pairwise_append] at h
      simp [h.2.2 f hf l (by simp)]
    have e1 : dstep (some out) l = some (out ++ [l]) := by
      simp only [dstep, Option.bind_some, hno]
    rw [List.foldl_cons, e1, dist_fix (by simpa using h)]
    simp

/-- The variables of what is numbered: so many, in turn. -/
theorem varsT_ren {ρ : Int → Int} {S : Int → Prop} (hi : ∀ m n, S m → S n → ρ m = ρ n → m = n) {x : Bool × Int} {k : Fo} {v : List Int} (h : ∀ n, occT n (x, k) → S n) (hv : ∀ n ∈ v, S n) :
    varsT (subT (fun n => vr (ρ n)) (x, k)).1 (subT (fun n => vr (ρ n)) (x, k)).2 (v.map ρ) = (varsT x k v).map ρ := by
  have one : ∀ (n : Int) (v : List Int), S n → (∀ m ∈ v, S m) → varsT (vr (ρ n)).1 (vr (ρ n)).2 (v.map ρ) = (varsT (true, n) .nil v).map ρ := by
    intro n v hn hv
    have e : hasB (v.map ρ) (ρ n) = hasB v n := by
      unfold hasB
      rw [decide_eq_decide, List.mem_map]
      constructor
      · rintro ⟨m, hm, e⟩; rw [← hi m n (hv m hm) hn e]; exact hm
      · exact fun hm => ⟨n, hm, rfl⟩
    simp only [vr, varsT, if_true, e]
    split <;> simp
  have key : ∀ (F : Fo) (v : List Int), (∀ n, occF n F → S n) → (∀ n ∈ v, S n) → varsF (subF (fun n => vr (ρ n)) F) (v.map ρ) = (varsF F v).map ρ := by
    intro F
    induction F with
    | nil => intro v _ _; rfl
    | node p q y l r ihl ihr =>
      intro v hv hs
      have hl : ∀ n, occT n (y, l) → S n := fun n hn => hv n (by rw [occ_mem]; exact ⟨(y, l), by simp [Fo.list], hn⟩)
      have hr : ∀ n, occF n r → S n := fun n hn => hv n (by
        rw [occ_mem] at hn ⊢
        obtain ⟨t, ht, h2⟩ := hn
        exact ⟨t, by simp [Fo.list, ht], h2⟩)
      have e : varsT (subT (fun n => vr (ρ n)) (y, l)).1 (subT (fun n => vr (ρ n)) (y, l)).2 (v.map ρ) = (varsT y l v).map ρ := by
        obtain ⟨b, n⟩ := y
        cases b with
        | true => rw [subT_var, one n v (hl n (by simp [occT])) hs]; rfl
        | false => rw [subT_sym]; simp only [varsT, Bool.false_eq_true, if_false]; exact ihl v (fun n hn => hl n (by simp [occT, hn])) hs
      rw [subF_node]
      show varsF (subF (fun n => vr (ρ n)) r) (varsT _ _ (v.map ρ)) = (varsF r (varsT y l v)).map ρ
      rw [e, ihr _ hr]
      intro n hn
      rcases varsT_mem.1 hn with hn | hn
      · exact hs n hn
      · exact hl n hn
  obtain ⟨b, n⟩ := x
  cases b with
  | true => rw [subT_var, one n v (h n (by simp [occT])) hv]; rfl
  | false => rw [subT_sym]; simp only [varsT, Bool.false_eq_true, if_false]; exact key k v (fun n hn => h n (by simp [occT, hn])) hv
theorem varsC_ren {ρ : Int → Int} {S : Int → Prop} (hi : ∀ m n, S m → S n → ρ m = ρ n → m = n) : ∀ {c : Cl} {v : List Int}, (∀ l ∈ c, ∀ n, occL n l → S n) → (∀ n ∈ v, S n) → varsC (c.map (mapL (subT fun n => vr (ρ n)))) (v.map ρ) = (varsC c v).map ρ
  | [], v, _, _ => by simp [varsC]
  | l :: c, v, h, hv => by
    have hl := h l (by simp)
    have e : varsL (mapL (subT fun n => vr (ρ n)) l) (v.map ρ) = (varsL l v).map ρ := by
      unfold varsL mapL
      rw [varsT_ren hi (x := l.2.1.1) (k := l.2.1.2) (fun n hn => hl n (.inl hn)) hv, varsT_ren hi (x := l.2.2.1) (k := l.2.2.2) (fun n hn => hl n (.inr hn))]
      intro n hn
      rcases varsT_mem.1 hn with hn | hn
      · exact hv n hn
      · exact hl n (.inl hn)
    show varsC (c.map _) (varsL (mapL (subT fun n => vr (ρ n)) l) (v.map ρ)) = (varsC c (varsL l v)).map ρ
    rw [e, varsC_ren hi (fun x hx => h x (by simp [hx]))]
    intro n hn
    rcases varsL_mem.1 hn with hn | hn
    · exact hv n hn
    · exact hl n hn
theorem idx_range {vs : List Int} (h : vs.Nodup) : vs.map (fun n => ((vs.idxOf n : Nat) : Int)) = (List.range vs.length).map (fun i : Nat => (i : Int)) := by
  apply List.ext_getElem
  · simp
  · intro i h1 h2
    simp only [List.length_map] at h1
    simp only [List.getElem_map, List.getElem_range]
    rw [h.idxOf_getElem i h1]
theorem ren_vars {d : Cl} : varsC (reN d) [] = (List.range (varsC d []).length).map (fun i : Nat => (i : Int)) := by
  have hi : ∀ m n, m ∈ varsC d [] → n ∈ varsC d [] → (((varsC d []).idxOf m : Nat) : Int) = (((varsC d []).idxOf n : Nat) : Int) → m = n := fun m n hm _ e => idx_inj hm (by omega)
  have ho : ∀ l ∈ d, ∀ n, occL n l → n ∈ varsC d [] := fun l hl n hn => varsC_mem.2 (.inr ⟨l, hl, hn⟩)
  have e : reN d = d.map (mapL (subT fun n => vr (((varsC d []).idxOf n : Nat) : Int))) := by
    unfold reN
    refine List.map_congr_left fun l hl => ?_
    unfold mapL
    rw [subT_congr (t := l.2.1) (fun n hn => bnd_num (ho l hl n (.inl hn))), subT_congr (t := l.2.2) (fun n hn => bnd_num (ho l hl n (.inr hn)))]
  have := varsC_ren (ρ := fun n => (((varsC d []).idxOf n : Nat) : Int)) (S := fun n => n ∈ varsC d []) hi (c := d) (v := []) ho (by simp)
  rw [List.map_nil] at this
  rw [e, this, idx_range (varsC_nodup List.nodup_nil)]
theorem range_idx {m : Nat} {n : Int} (h : n ∈ (List.range m).map (fun i : Nat => (i : Int))) : ((((List.range m).map (fun i : Nat => (i : Int))).idxOf n : Nat) : Int) = n := by
  have h1 := List.idxOf_lt_length_of_mem h
  have h2 := List.getElem_idxOf h1
  rw [List.getElem_map, List.getElem_range] at h2
  exact h2
theorem ren_fix {e : Cl} {m : Nat} (hv : varsC e [] = (List.range m).map (fun i : Nat => (i : Int))) (ho : ∀ l ∈ e, okL l) : reN e = e := by
  unfold reN
  rw [hv]
  conv => rhs; rw [← List.map_id e]
  refine List.map_congr_left fun l hl => ?_
  have key : ∀ t, okT t → (∀ n, occT n t → occL n l) → subT (bnd (numS ((List.range m).map (fun i : Nat => (i : Int))))) t = t := fun t ht h => by
    rw [subT_congr (g := vr) (fun n hn => ?_), subT_vr ht]
    have hm : n ∈ (List.range m).map (fun i : Nat => (i : Int)) := by rw [← hv]; exact varsC_mem.2 (.inr ⟨l, hl, h n hn⟩)
    rw [bnd_num hm, range_idx hm]
  unfold mapL
  rw [key _ (ho l hl).1 (fun n hn => .inl hn), key _ (ho l hl).2 (fun n hn => .inr hn)]
  rfl
theorem norm_again {c : Cl} (hc : GC c) (h : (normC c).1 = 0) : GC (normC c).2 ∧ normC (normC c).2 = (0, (normC c).2) := by
  rcases norm_cases hc with ⟨_, hn⟩ | ⟨d, ht, hd, hr, ⟨_, hn⟩ | ⟨e, he, hE, hn⟩⟩
  · rw [hn] at h; simp at h
  · rw [hn] at h; simp at h
  · rw [hn]
    refine ⟨hE, ?_⟩
    have hok : ∀ l ∈ reN d, okL l := fun l hl => (hr.2 l hl).okl
    have t1 : ∀ l ∈ d, Tn l := turn_tn (o := some []) ht (fun l hl => (hc.2 l hl).okl) (fun e he => by cases he; simp)
    have t2 := ren_tn hd t1
    obtain ⟨k1, _, k3⟩ := dist_kept hok he
    have f1 : turnC e = some e := by
      have := turn_fix (c := e) (out := []) (fun l hl => ⟨(hE.2 l hl).okl, t2 l (k1 l hl)⟩)
      simpa [turnC] using this
    have f2 : reN e = e := ren_fix (m := (varsC d []).length) ((dist_vars hok he).trans ren_vars) (fun l hl => (hE.2 l hl).okl)
    have f3 : distC e = some e := by
      have := dist_fix (c := e) (out := []) (by simpa using k3)
      simpa [distC] using this
    show normC e = (0, e)
    simp only [normC, f1, f2, f3]
    exact gc_keep hE hE

theorem walkT_mk {s : List Int} {x : Bool × Int} {k : Fo} {d : Int} (h1 : d ≤ 12) (h2 : aloneF s x (Fo.len k) = 0) (h3 : walkF s k (d + 1) = 0) : walkT s x k d = 0 := by
  unfold walkT
  rw [if_neg (by omega), if_neg (by simpa using h2), h3]
theorem walk_ren {s : List Int} {f : Int → Tm} : ∀ {F : Fo} {d : Int}, (∀ n, occF n F → ∃ m, f n = vr m ∧ 0 ≤ m ∧ m ≤ 4) → walkF s F d = 0 → walkF s (subF f F) d = 0
  | .nil, _, _, _ => rfl
  | .node p q (b, n) k r, d, hf, h => by
    obtain ⟨hT, hr⟩ := walkF_ok h
    obtain ⟨h12, ha, hk⟩ := walkT_ok hT
    have hl : ∀ m, occT m ((b, n), k) → ∃ j, f m = vr j ∧ 0 ≤ j ∧ j ≤ 4 := fun m hm => hf m (by rw [occ_mem]; exact ⟨((b, n), k), by simp [Fo.list], hm⟩)
    have hr' : ∀ m, occF m r → ∃ j, f m = vr j ∧ 0 ≤ j ∧ j ≤ 4 := fun m hm => hf m (by
      rw [occ_mem] at hm ⊢
      obtain ⟨t, ht, h2⟩ := hm
      exact ⟨t, by simp [Fo.list, ht], h2⟩)
    have e : walkT s (subT f ((b, n), k)).1 (subT f ((b, n), k)).2 d = 0 := by
      cases b with
      | true =>
        obtain ⟨j, hj, j0, j4⟩ := hl n (by simp [occT])
        rw [subT_var, hj]
        refine walkT_mk h12 ?_ rfl
        simp only [aloneF, vr, if_true, Fo.len]
        rw [if_neg (by omega)]
      | false =>
        rw [subT_sym]
        refine walkT_mk h12 ?_ (walk_ren (fun m hm => hl m (by simp [occT, hm])) hk)
        rw [subF_len]; exact ha
    rw [subF_node, walkF_node, if_neg (by simpa using e), walk_ren hr' hr]
theorem wrong_ren {s : List Int} {f : Int → Tm} {t : Tm} (hf : ∀ n, occT n t → ∃ m, f n = vr m ∧ 0 ≤ m ∧ m ≤ 4) (hsz : tszR (subT f t).2 = tszR t.2) (h : wrongF s t.1 t.2 = 0) : wrongF s (subT f t).1 (subT f t).2 = 0 := by
  have hT : walkT s t.1 t.2 1 = 0 := by
    unfold wrongF at h
    by_cases e : walkT s t.1 t.2 1 = 0
    · exact e
    · rw [if_pos e] at h; exact absurd h e
  have h2 : walkT s (subT f t).1 (subT f t).2 1 = 0 := by
    have := walk_ren (s := s) (f := f) (F := .node 0 0 t.1 t.2 .nil) (d := 1) (fun n hn => hf n (by
      rw [occ_mem] at hn
      obtain ⟨u, hu, h2⟩ := hn
      simp [Fo.list] at hu
      rw [hu] at h2
      exact h2)) (by rw [walkF_node, if_neg (by simpa using hT)]; rfl)
    rw [subF_node] at this
    exact (walkF_ok this).1
  unfold wrongF at h ⊢
  rw [if_neg (by simpa using hT)] at h
  rw [if_neg (by simpa using h2), hsz]
  exact h
theorem norm_right {s : List Int} {c : Cl} (hc : GC c) (hw : wrongC s c = 0) (h : (normC c).1 = 0) : wrongC s (normC c).2 = 0 := by
  rcases norm_cases hc with ⟨_, hn⟩ | ⟨d, ht, hd, hr, ⟨_, hn⟩ | ⟨e, he, hE, hn⟩⟩
  · rw [hn] at h; simp at h
  · rw [hn] at h; simp at h
  · rw [hn]
    rw [wrongC_iff] at hw ⊢
    refine ⟨hE.1, fun l hl => ?_⟩
    have hmem : l ∈ reN d := (dist_kept (fun l hl => (hr.2 l hl).okl) he).1 l hl
    obtain ⟨x, hx, rfl⟩ := List.mem_map.1 hmem
    have hx0 : wrongF s x.2.1.1 x.2.1.2 = 0 ∧ wrongF s x.2.2.1 x.2.2.2 = 0 := turn_mem (p := fun l => wrongF s l.2.1.1 l.2.1.2 = 0 ∧ wrongF s l.2.2.1 l.2.2.2 = 0) (o := some []) ht (fun e he => by cases he; simp) (fun l hl => by
      unfold flipL
      split
      · exact (hw.2 l hl).symm
      · exact hw.2 l hl) x hx
    have hv := gc_vars hd.2
    have hb : ∀ n, n ∈ varsC d [] → ∃ m, bnd (numS (varsC d [])) n = vr m ∧ 0 ≤ m ∧ m ≤ 4 := fun n hn => by
      have h1 := List.idxOf_lt_length_of_mem hn
      exact ⟨_, bnd_num hn, by omega, by omega⟩
    have g := hd.2 x hx
    exact ⟨wrong_ren (fun n hn => hb n (varsC_mem.2 (.inr ⟨x, hx, .inl hn⟩))) (num_size g.gl.ok) hx0.1, wrong_ren (fun n hn => hb n (varsC_mem.2 (.inr ⟨x, hx, .inr hn⟩))) (num_size g.gr.ok) hx0.2⟩

end Go.Proofs.YtfckelbdageenabGreatDoor
