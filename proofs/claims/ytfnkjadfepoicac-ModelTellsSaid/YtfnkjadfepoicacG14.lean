/- Written, and read again: the law's walk. -/
import Derived.Test.YtfnkjadfepoicacG07
import Derived.Test.YtfnkjadfepoicacG10
import Derived.Test.YtfnkjadfepoicacG13
namespace Go.Proofs.Ytfnkjadfepoicac
open Go.RowKit Go.Deep Go.ChangeShapes Go.WideShapes
attribute [local go_sem ↓] Go.wp_at_zero Go.wp_at_succ

theorem norm_walk (s : List Int) : ∀ (F : Fo) (d : Int), walkF s (Fo.norm F) d = walkF s F d
  | .nil, _ => rfl
  | .node _ _ x k r, d => by
    simp only [Fo.norm, walkF, norm_len k, norm_walk s k (d + 1), norm_walk s r d]
theorem norm_sizesR : ∀ F : Fo, Fo.sizesR (Fo.norm F) = Fo.sizesR F
  | .nil => rfl
  | .node _ _ x k r => by simp [Fo.norm, Fo.sizesR, norm_sizesR k, norm_sizesR r]
theorem norm_wrong (s : List Int) (x : Bool × Int) (k : Fo) : wrongF s x (Fo.norm k) = wrongF s x k := by
  have e1 : walkT s x (Fo.norm k) 1 = walkT s x k 1 := by simp only [walkT, norm_len, norm_walk]
  have e2 : tszR (Fo.norm k) = tszR k := by rw [tszR, norm_sizesR, tszR]
  rw [wrongF, e1, e2, wrongF]

theorem parse_text {s : List Int} (hs : wsig s = 0) {x : Bool × Int} {k : Fo} (h : wrongF s x k = 0) : parseT s (textT x k) = (0, (x, Fo.norm k)) := by
  obtain ⟨hok, h6, _⟩ := wsig_ok hs
  obtain ⟨h1, _, _, _, hw⟩ := right_of hok h
  have hl := textT_len x k
  have hr := read_text h6 x k 1 hw ((textT x k).length + 1) [] (by simp)
  rw [List.append_nil] at hr
  have hwn := (norm_wrong s x k).trans h
  rw [parseT, if_neg (by simpa using hs), if_neg (by omega), hr]
  simp [hwn]
theorem parse_back {s : List Int} {l : List UInt8} (h : (parseT s l).1 = 0) : textT (parseT s l).2.1 (parseT s l).2.2 = l ∧ wrongF s (parseT s l).2.1 (parseT s l).2.2 = 0 ∧ s.all okNum = true ∧ s.length ≤ 6 := by
  unfold parseT at h ⊢
  by_cases h0 : wsig s = 0
  · rw [if_neg (by simpa using h0)] at h ⊢
    by_cases h1 : 48 < l.length
    · rw [if_pos h1] at h; simp at h
    · rw [if_neg h1] at h ⊢
      by_cases h2 : (readT s (l.length + 1) l).1 = 0
      · rw [if_neg (by simpa using h2)] at h ⊢
        by_cases h3 : (readT s (l.length + 1) l).2.2 = []
        · rw [if_neg (by simpa using h3)] at h ⊢
          by_cases h4 : wrongF s (readT s (l.length + 1) l).2.1.1 (readT s (l.length + 1) l).2.1.2 = 0
          · rw [if_neg (by simpa using h4)]
            have hb := read_back _ _ h2
            rw [h3, List.append_nil] at hb
            exact ⟨hb.symm, h4, (wsig_ok h0).1, (wsig_ok h0).2.1⟩
          · rw [if_pos h4] at h; exact absurd h h4
        · rw [if_pos h3] at h; simp at h
      · rw [if_pos h2] at h; exact absurd h h2
  · rw [if_pos h0] at h; exact absurd h h0

end Go.Proofs.Ytfnkjadfepoicac

/- Of which models a clause holds, told alone; as it is kept it tells the same. -/
namespace Go.Proofs.Ytfnkjadfepoicac
open Go.RowKit Go.Deep Go.ChangeShapes Go.WideShapes

def valF (z : Int) (tb : List (List Int)) (e : Int → Int) : Fo → Int → Int
  | .nil, a => a
  | .node _ _ x k r, a => valF z tb e r (z * a + (if x.1 then e x.2 else (tb.getD x.2.toNat []).getD (valF z tb e k 0).toNat 0))
def valT (z : Int) (tb : List (List Int)) (e : Int → Int) (t : Tm) : Int := if t.1.1 then e t.1.2 else (tb.getD t.1.2.toNat []).getD (valF z tb e t.2 0).toNat 0
theorem valF_node (z : Int) (tb : List (List Int)) (e : Int → Int) (p q : Nat) (x : Bool × Int) (k r : Fo) (a : Int) : valF z tb e (.node p q x k r) a = valF z tb e r (z * a + valT z tb e (x, k)) := rfl
def litH (z : Int) (tb : List (List Int)) (e : Int → Int) (l : Lt) : Bool := l.1 != (valT z tb e l.2.1 == valT z tb e l.2.2)
def someH (z : Int) (tb : List (List Int)) (e : Int → Int) (c : Cl) : Bool := c.any (litH z tb e)
def holdsP (z : Int) (tb : List (List Int)) (c : Cl) : Prop := ∀ e : Int → Int, (∀ v, 0 ≤ e v ∧ e v < z) → someH z tb e c = true

theorem valF_congr {z : Int} {tb : List (List Int)} {e e' : Int → Int} : ∀ {F : Fo}, (∀ n, occF n F → e n = e' n) → ∀ a, valF z tb e F a = valF z tb e' F a
  | .nil, _, _ => rfl
  | .node p q x k r, h, a => by
    have hk : (∀ n, occT n (x, k) → e n = e' n) := fun n hn => h n (by rw [occ_mem]; exact ⟨(x, k), by simp [Fo.list], hn⟩)
    have hr : (∀ n, occF n r → e n = e' n) := fun n hn => h n (by
      rw [occ_mem] at hn ⊢
      obtain ⟨t, ht, h2⟩ := hn
      exact ⟨t, by simp [Fo.list, ht], h2⟩)
    rw [valF, valF, valF_congr hr]
    congr 2
    cases hx : x.1 with
    | true => simp; exact hk x.2 (by simp [occT, hx])
    | false =>
      simp only [Bool.false_eq_true, if_false]
      rw [valF_congr (F := k) (fun n hn => hk n (by simp [occT, hx, hn]))]
theorem valT_congr {z : Int} {tb : List (List Int)} {e e' : Int → Int} {t : Tm} (h : ∀ n, occT n t → e n = e' n) : valT z tb e t = valT z tb e' t := by
  obtain ⟨⟨v, m⟩, k⟩ := t
  cases v with
  | true => simp only [valT, if_true]; exact h m (by simp [occT])
  | false => simp only [valT, Bool.false_eq_true, if_false]; rw [valF_congr (F := k) (fun n hn => h n (by simp [occT, hn]))]
theorem valF_sub {z : Int} {tb : List (List Int)} {e : Int → Int} {f : Int → Tm} : ∀ (F : Fo) (a : Int), valF z tb e (subF f F) a = valF z tb (fun n => valT z tb e (f n)) F a
  | .nil, _ => rfl
  | .node p q x k r, a => by
    rw [subF_node, valF_node, valF_node, valF_sub r]
    congr 2
    obtain ⟨v, m⟩ := x
    cases v with
    | true => rw [subT_var]; simp [valT]
    | false => rw [subT_sym]; unfold valT; rw [if_neg (by simp), if_neg (by simp)]; dsimp only; rw [valF_sub k]; rfl
theorem valT_sub {z : Int} {tb : List (List Int)} {e : Int → Int} {f : Int → Tm} (t : Tm) : valT z tb e (subT f t) = valT z tb (fun n => valT z tb e (f n)) t := by
  obtain ⟨⟨v, m⟩, k⟩ := t
  cases v with
  | true => rw [subT_var]; simp [valT]
  | false => rw [subT_sym]; unfold valT; rw [if_neg (by simp), if_neg (by simp)]; dsimp only; rw [valF_sub k]; rfl

theorem beq_swap (a b : Int) : (a == b) = (b == a) := by
  rw [Bool.eq_iff_iff]
  simp only [beq_iff_eq]
  exact ⟨Eq.symm, Eq.symm⟩
theorem litH_flip {z : Int} {tb : List (List Int)} {e : Int → Int} (l : Lt) : litH z tb e (flipL l) = litH z tb e l := by
  unfold flipL
  split
  · simp only [litH]; rw [beq_swap]
  · rfl
theorem litH_like {z : Int} {tb : List (List Int)} {e : Int → Int} {a b : Lt} (ha : okL a) (hb : okL b) (h : likeL a b = true) (hs : a.1 = b.1) : litH z tb e a = litH z tb e b := by
  rw [like_iff ha hb] at h
  simp only [litH, hs]
  rcases h with ⟨h1, h2⟩ | ⟨h1, h2⟩
  · rw [h1, h2]
  · rw [h1, h2, beq_swap]
theorem litH_other {z : Int} {tb : List (List Int)} {e : Int → Int} {a b : Lt} (ha : okL a) (hb : okL b) (h : likeL a b = true) (hs : b.1 ≠ a.1) : litH z tb e a = true ∨ litH z tb e b = true := by
  have hl := litH_like (z := z) (tb := tb) (e := e) (a := a) (b := (a.1, b.2)) ha hb (by rw [← h]; rfl) rfl
  rw [hl]
  have : b.1 = !a.1 := by cases h1 : b.1 <;> cases h2 : a.1 <;> simp_all
  simp only [litH, this]
  cases a.1 <;> cases (valT z tb e b.2.1 == valT z tb e b.2.2) <;> simp

theorem some_step {z : Int} {tb : List (List Int)} {e : Int → Int} {o : Option Cl} {l : Lt} (hl : okL l) : ∀ out, o = some out → (∀ d, tstep o l = some d → someH z tb e d = (someH z tb e out || litH z tb e l)) ∧ (tstep o l = none → litH z tb e l = true) := by
  intro out ho
  subst ho
  simp only [tstep, Option.bind_some]
  by_cases hs : sameT l.2.1.1 l.2.1.2 l.2.2.1 l.2.2.2 = true
  · rw [if_pos hs]
    have he : l.2.1 = l.2.2 := (sameT_iff hl.1 hl.2).1 hs
    cases hn : l.1 with
    | true =>
      refine ⟨fun d hd => ?_, fun h => by simp at h⟩
      simp at hd
      subst hd
      simp [litH, hn, he]
    | false => exact ⟨fun d hd => by simp at hd, fun _ => by simp [litH, hn, he]⟩
  · rw [if_neg hs]
    refine ⟨fun d hd => ?_, fun h => by cases h⟩
    cases hd
    simp [someH, litH_flip]
theorem some_turn {z : Int} {tb : List (List Int)} {e : Int → Int} : ∀ {c : Cl} {o : Option Cl} {out : Cl}, (∀ l ∈ c, okL l) → o = some out → (∀ d, c.foldl tstep o = some d → someH z tb e d = (someH z tb e out || someH z tb e c)) ∧ (c.foldl tstep o = none → someH z tb e c = true)
  | [], o, out, _, ho => ⟨fun d hd => by subst ho; cases hd; simp [someH], fun h => by subst ho; cases h⟩
  | l :: c, o, out, hc, ho => by
    have h1 := some_step (z := z) (tb := tb) (e := e) (o := o) (l := l) (hc l (by simp)) out ho
    cases ht : tstep o l with
    | none =>
      have := h1.2 ht
      refine ⟨fun d hd => ?_, fun _ => by simp [someH, this]⟩
      rw [List.foldl_cons, ht, fold_none (fun _ => rfl)] at hd
      cases hd
    | some out2 =>
      have h2 := some_turn (z := z) (tb := tb) (e := e) (c := c) (o := some out2) (out := out2) (fun x hx => hc x (by simp [hx])) rfl
      have h3 := h1.1 out2 ht
      rw [List.foldl_cons, ht]
      refine ⟨fun d hd => ?_, fun h => ?_⟩
      · rw [h2.1 d hd, h3]
        simp [someH, Bool.or_assoc]
      · have := h2.2 h
        simp only [someH, List.any_cons] at this ⊢
        rw [this, Bool.or_true]
theorem holds_turn {z : Int} {tb : List (List Int)} {c : Cl} (hc : ∀ l ∈ c, okL l) : (∀ d, turnC c = some d → (holdsP z tb c ↔ holdsP z tb d)) ∧ (turnC c = none → holdsP z tb c) := by
  refine ⟨fun d hd => ?_, fun h e _ => (some_turn (o := some []) (out := []) hc rfl).2 h⟩
  have key : ∀ e, someH z tb e d = someH z tb e c := fun e => by
    have := (some_turn (z := z) (tb := tb) (e := e) (o := some []) (out := []) hc rfl).1 d hd
    simpa [someH] using this
  unfold holdsP
  simp only [key]
theorem holds_dist {z : Int} {tb : List (List Int)} {P : Cl} (hP : ∀ l ∈ P, okL l) : (∀ d, distC P = some d → (holdsP z tb P ↔ holdsP z tb d)) ∧ (distC P = none → holdsP z tb P) := by
  refine ⟨fun d hd => ?_, fun h e _ => ?_⟩
  · obtain ⟨k1, k2, _⟩ := dist_kept hP hd
    have key : ∀ e, someH z tb e d = someH z tb e P := fun e => by
      rw [Bool.eq_iff_iff]
      simp only [someH, List.any_eq_true]
      constructor
      · rintro ⟨x, hx, h⟩; exact ⟨x, k1 x hx, h⟩
      · rintro ⟨y, hy, h⟩
        obtain ⟨f, h1, h2, h3⟩ := k2 y hy
        exact ⟨f, h1, by rw [litH_like (hP f (k1 f h1)) (hP y hy) h2 h3]; exact h⟩
    unfold holdsP
    simp only [key]
  · have key : ∀ n, n ≤ P.length → distC (P.take n) = none → someH z tb e P = true := by
      intro n
      induction n with
      | zero => intro _ h; simp [distC] at h
      | succ n ih =>
        intro hn h
        have hl : P[n]? = some P[n] := List.getElem?_eq_getElem (by omega)
        cases hd : distC (P.take n) with
        | none => exact ih (by omega) hd
        | some out =>
          rw [dist_take hl, hd] at h
          have hk := dist_kept (fun x hx => hP x (List.mem_of_mem_take hx)) hd
          obtain ⟨y, hy, h1, h2⟩ := (kept_step hk (fun x hx => hP x (List.mem_of_mem_take hx)) (hP _ (List.getElem_mem _)) h).2.1.1 rfl
          have hyP := List.mem_of_mem_take hy
          simp only [someH, List.any_eq_true]
          rcases litH_other (z := z) (tb := tb) (e := e) (hP _ (List.getElem_mem _)) (hP y hyP) h1 h2 with h | h
          · exact ⟨_, List.getElem_mem _, h⟩
          · exact ⟨y, hyP, h⟩
    exact key P.length (Nat.le_refl _) (by rw [List.take_length]; exact h)

theorem idx_cons {v n : Int} {vs : List Int} (h : ¬ v = n) : (v :: vs).idxOf n = vs.idxOf n + 1 := by
  have : (v == n) = false := by simp [h]
  rw [List.idxOf_cons, this, cond_false]
/-- New numbers: which they are. -/
theorem look_num {n : Int} : ∀ {vs : List Int} {k : Nat}, look (vs.mapIdx fun i v => (v, vr ((i + k : Nat) : Int))) n = if n ∈ vs then some (vr ((vs.idxOf n + k : Nat) : Int)) else none
  | [], _ => rfl
  | v :: vs, k => by
    rw [List.mapIdx_cons, look]
    by_cases h : v = n
    · subst h
      simp
    · have hn : ¬ n = v := fun e => h e.symm
      rw [if_neg (by simpa using h)]
      have e : (fun i (v : Int) => (v, vr ((i + 1 + k : Nat) : Int))) = fun i v => (v, vr ((i + (k + 1) : Nat) : Int)) := by
        funext i v; rw [show i + 1 + k = i + (k + 1) by omega]
      rw [e, look_num (vs := vs) (k := k + 1)]
      by_cases hm : n ∈ vs
      · rw [if_pos hm, if_pos (by simp [hm]), idx_cons h]
        rw [show vs.idxOf n + (k + 1) = vs.idxOf n + 1 + k by omega]
      · rw [if_neg hm, if_neg (by simp [hm, hn])]
theorem bnd_num {vs : List Int} {n : Int} (h : n ∈ vs) : bnd (numS vs) n = vr (vs.idxOf n : Nat) := by
  have := look_num (n := n) (vs := vs) (k := 0)
  simp only [Nat.add_zero] at this
  rw [if_pos h] at this
  exact bnd_some this
theorem num_ok (vs : List Int) : ∀ p ∈ numS vs, okT p.2 := fun p hp => by
  simp only [numS, List.mem_mapIdx] at hp
  obtain ⟨i, hi, rfl⟩ := hp
  exact ok_vr _
theorem varsT_mem {x : Bool × Int} {k : Fo} {l : List Int} {m : Int} : m ∈ varsT x k l ↔ m ∈ l ∨ occT m (x, k) := by
  unfold varsT
  obtain ⟨v, n⟩ := x
  cases v with
  | true =>
    simp only [if_true, occT]
    by_cases h : hasB l n = true
    · rw [if_pos h]
      have hn : n ∈ l := by simpa [hasB] using h
      constructor
      · exact .inl
      · rintro (h | rfl); exact h; exact hn
    · rw [if_neg h]; simp [eq_comm]
  | false => simp only [Bool.false_eq_true, if_false, occT]; exact occ_varsF
def occL (m : Int) (l : Lt) : Prop := occT m l.2.1 ∨ occT m l.2.2
theorem varsL_mem {l : Lt} {v : List Int} {m : Int} : m ∈ varsL l v ↔ m ∈ v ∨ occL m l := by
  unfold varsL occL
  rw [varsT_mem, varsT_mem, or_assoc]
theorem varsC_mem {m : Int} : ∀ {c : Cl} {v : List Int}, m ∈ varsC c v ↔ m ∈ v ∨ ∃ l ∈ c, occL m l
  | [], v => by simp [varsC]
  | l :: c, v => by
    show m ∈ varsC c (varsL l v) ↔ _
    rw [varsC_mem, varsL_mem]
    simp [or_assoc]
theorem varsT_nodup {x : Bool × Int} {k : Fo} {l : List Int} (h : l.Nodup) : (varsT x k l).Nodup := by
  unfold varsT
  split
  · split
    · exact h
    · rename_i hh
      rw [List.nodup_append]
      refine ⟨h, by simp, fun a ha b hb => ?_⟩
      simp at hb
      intro e
      rw [hb] at e
      exact hh (by simp [hasB, ← e, ha])
  · exact varsF_nodup h
theorem varsC_nodup : ∀ {c : Cl} {v : List Int}, v.Nodup → (varsC c v).Nodup
  | [], _, h => h
  | _ :: c, _, h => varsC_nodup (c := c) (varsT_nodup (varsT_nodup h))
theorem idx_inj {vs : List Int} {m n : Int} (hm : m ∈ vs) (h : vs.idxOf m = vs.idxOf n) : m = n := by
  have h1 : vs.idxOf m < vs.length := List.idxOf_lt_length_of_mem hm
  have h2 : vs[vs.idxOf m]'h1 = m := List.getElem_idxOf h1
  have h3 : vs.idxOf n < vs.length := by rw [← h]; exact h1
  have h4 : vs[vs.idxOf n]'h3 = n := List.getElem_idxOf h3
  rw [← h2, ← h4]
  simp only [h]
theorem holds_ren {z : Int} {tb : List (List Int)} {d : Cl} : holdsP z tb d ↔ holdsP z tb (reN d) := by
  have key : ∀ e, someH z tb e (reN d) = someH z tb (fun n => valT z tb e (bnd (numS (varsC d [])) n)) d := fun e => by
    unfold someH reN
    rw [List.any_map]
    congr 1
    funext l
    simp only [Function.comp, litH, mapL, valT_sub]
  have same : ∀ (e e' : Int → Int), (∀ n ∈ varsC d [], e n = e' n) → someH z tb e d = someH z tb e' d := fun e e' h => by
    unfold someH
    rw [Bool.eq_iff_iff, List.any_eq_true, List.any_eq_true]
    refine exists_congr fun l => and_congr_right fun hl => ?_
    have h1 : ∀ n, occL n l → e n = e' n := fun n hn => h n (varsC_mem.2 (.inr ⟨l, hl, hn⟩))
    simp only [litH]
    rw [valT_congr (fun n hn => h1 n (.inl hn)), valT_congr (t := l.2.2) (fun n hn => h1 n (.inr hn))]
  constructor
  · intro h e he
    rw [key]
    have := h (fun n => if n ∈ varsC d [] then e ((varsC d []).idxOf n : Nat) else e 0) (fun v => by split; exact he _; exact he _)
    rw [same _ _ ?_] at this
    · exact this
    · intro n hn
      simp only [hn, if_true]
      rw [bnd_num hn]
      simp [valT, vr]
  · intro h e he
    have := h (fun i => e ((varsC d []).getD i.toNat 0)) (fun v => he _)
    rw [key] at this
    rw [← this]
    refine same _ _ fun n hn => ?_
    rw [bnd_num hn]
    have h1 : (varsC d []).idxOf n < (varsC d []).length := List.idxOf_lt_length_of_mem hn
    simp only [valT, vr, if_true, Int.toNat_natCast]
    rw [List.getD_eq_getElem?_getD, List.getElem?_eq_getElem h1, Option.getD_some, List.getElem_idxOf h1]

end Go.Proofs.Ytfnkjadfepoicac

/- As it is kept: what a right clause's new numbers leave as it is; kept again it is as it is. -/
namespace Go.Proofs.Ytfnkjadfepoicac
open Go.RowKit Go.Deep Go.ChangeShapes Go.WideShapes

theorem nodup_le : ∀ {l m : List Int}, l.Nodup → (∀ x ∈ l, x ∈ m) → l.length ≤ m.length
  | [], _, _, _ => Nat.zero_le _
  | a :: l, m, hn, hs => by
    rw [List.nodup_cons] at hn
    have ha : a ∈ m := hs a (by simp)
    have h1 := nodup_le (l := l) (m := m.erase a) hn.2 (fun x hx => by
      have hne : x ≠ a := fun e => hn.1 (e ▸ hx)
      exact (List.mem_erase_of_ne hne).2 (hs x (by simp [hx])))
    rw [List.length_erase_of_mem ha] at h1
    have := List.length_pos_of_mem ha
    simp only [List.length_cons]
    omega
theorem gc_few {d : Cl} (h : ∀ l ∈ d, GL l) : ∀ n ∈ varsC d [], 0 ≤ n ∧ n ≤ 4 := fun n hn => by
  rcases varsC_mem.1 hn with hn | ⟨l, hl, hn⟩
  · cases hn
  · rcases hn with hn | hn
    · exact ⟨((h l hl).gl.few n hn).1, (h l hl).fl n hn⟩
    · exact ⟨((h l hl).gr.few n hn).1, (h l hl).fr n hn⟩
theorem gc_vars {d : Cl} (h : ∀ l ∈ d, GL l) : (varsC d []).length ≤ 5 := by
  refine nodup_le (m := [0, 1, 2, 3, 4]) (varsC_nodup List.nodup_nil) (fun x hx => ?_)
  have := gc_few h x hx
  simp
  omega
theorem wgF_zero {c : Int → Nat} (hc : ∀ n, c n = 0) : ∀ F : Fo, wgF c F = 0
  | .nil => rfl
  | .node _ _ x k r => by rw [wgF, wgF_zero hc k, wgF_zero hc r, hc]; simp
theorem num_nil (vs : List Int) (n : Int) : (bnd (numS vs) n).2 = .nil := by
  by_cases h : n ∈ vs
  · rw [bnd_num h]; rfl
  · have := look_num (n := n) (vs := vs) (k := 0)
    simp only [Nat.add_zero] at this
    rw [if_neg h] at this
    have e : bnd (numS vs) n = vr n := bnd_none this
    rw [e]; rfl
theorem num_size {vs : List Int} {t : Tm} (h : okT t) : tszR (subT (bnd (numS vs)) t).2 = tszR t.2 := by
  have := subT_size (f := bnd (numS vs)) h
  simp only [szT, wgT] at this
  rw [wgF_zero (fun n => by rw [num_nil]; rfl)] at this
  rw [this, num_nil]
  simp [Fo.sizesR]
theorem num_gd {vs : List Int} (hl : vs.length ≤ 10) : ∀ p ∈ numS vs, Gd p.2 := fun p hp => by
  simp only [numS, List.mem_mapIdx] at hp
  obtain ⟨i, hi, rfl⟩ := hp
  exact gd_vr ⟨by omega, by omega⟩
theorem num_four {vs : List Int} (hl : vs.length ≤ 5) {t : Tm} (h : ∀ m, occT m t → m ≤ 4) : ∀ m, occT m (subT (bnd (numS vs)) t) → m ≤ 4 := fun m hm => by
  obtain ⟨n, h1, h2⟩ := occT_sub.1 hm
  by_cases hn : n ∈ vs
  · rw [bnd_num hn, occ_vr] at h2
    have := List.idxOf_lt_length_of_mem hn
    omega
  · have := look_num (n := n) (vs := vs) (k := 0)
    simp only [Nat.add_zero] at this
    rw [if_neg hn] at this
    have e : bnd (numS vs) n = vr n := bnd_none this
    rw [e, occ_vr] at h2
    rw [← h2]
    exact h n h1
theorem GL.num {vs : List Int} (hl : vs.length ≤ 5) {l : Lt} (h : GL l) : GL (mapL (subT (bnd (numS vs))) l) :=
  ⟨gd_sub (num_gd (by omega)) h.gl, gd_sub (num_gd (by omega)) h.gr, num_four hl h.fl, num_four hl h.fr, by simp only [mapL]; rw [num_size h.gl.ok]; exact h.sl, by simp only [mapL]; rw [num_size h.gr.ok]; exact h.sr⟩
theorem GL.okl {l : Lt} (h : GL l) : okL l := ⟨h.gl.ok, h.gr.ok⟩
theorem gc_ren {d : Cl} (h : GC d) : GC (reN d) := by
  refine ⟨by rw [reN, List.length_map]; exact h.1, fun l hl => ?_⟩
  obtain ⟨x, hx, rfl⟩ := List.mem_map.1 hl
  exact (h.2 x hx).num (gc_vars h.2)
theorem gc_dist {d e : Cl} (h : GC d) (he : distC d = some e) : GC e := by
  refine ⟨?_, dist_mem (p := GL) he (fun e he => by cases he; simp) h.2⟩
  have := dist_len (n := 0) he (fun e he => by cases he; simp)
  have := h.1
  omega
theorem gc_big {e : Cl} (h : GC e) : e.any bigL = false := by
  rw [List.any_eq_false]
  intro x hx
  have h1 := (h.2 x hx).sl
  have h2 := (h.2 x hx).sr
  simp [bigL]
  omega
theorem gc_keep {d e : Cl} (hd : GC d) (he : GC e) : keepC d e = (0, e) := by
  unfold keepC
  rw [if_neg]
  rintro (h | h | h)
  · have := he.1; omega
  · have := gc_vars hd.2; omega
  · rw [gc_big he] at h; cases h
/-- What Norm tells of a right clause. -/
theorem norm_cases {c : Cl} (hc : GC c) : (turnC c = none ∧ normC c = (6, [])) ∨ ∃ d, turnC c = some d ∧ GC d ∧ GC (reN d) ∧ ((distC (reN d) = none ∧ normC c = (6, [])) ∨ ∃ e, distC (reN d) = some e ∧ GC e ∧ normC c = (0, e)) := by
  cases ht : turnC c with
  | none => exact .inl ⟨rfl, by simp [normC, ht]⟩
  | some d =>
    have hd := turn_gc ht hc
    have hr := gc_ren hd
    refine .inr ⟨d, rfl, hd, hr, ?_⟩
    cases he : distC (reN d) with
    | none => exact .inl ⟨rfl, by simp [normC, ht, he]⟩
    | some e =>
      have hE := gc_dist hr he
      exact .inr ⟨e, rfl, hE, by simp only [normC, ht, he]; exact gc_keep hd hE⟩
/-- Literals of terms that can be reckoned with, though they be great. -/
structure GLx (l : Lt) : Prop where
  gl : Gd l.2.1
  gr : Gd l.2.2
  sl : tszR l.2.1.2 ≤ 4000000000000
  sr : tszR l.2.2.2 ≤ 4000000000000
def GX (c : Cl) : Prop := c.length ≤ 8 ∧ ∀ l ∈ c, GLx l
theorem GL.x {l : Lt} (h : GL l) : GLx l := ⟨h.gl, h.gr, by have := h.sl; omega, by have := h.sr; omega⟩
theorem GC.x {c : Cl} (h : GC c) : GX c := ⟨by have := h.1; omega, fun l hl => (h.2 l hl).x⟩
theorem GLx.flip {l : Lt} (h : GLx l) : GLx (flipL l) := by
  unfold flipL
  split
  · exact ⟨h.gr, h.gl, h.sr, h.sl⟩
  · exact h
theorem GLx.okl {l : Lt} (h : GLx l) : okL l := ⟨h.gl.ok, h.gr.ok⟩
theorem turn_gx {c d : Cl} (h : turnC c = some d) (hc : GX c) : GX d := by
  refine ⟨?_, turn_mem (p := GLx) h (fun e he => by cases he; simp) (fun l hl => (hc.2 l hl).flip)⟩
  have := turn_len (n := 0) h (fun e he => by cases he; simp)
  have := hc.1
  omega
theorem gx_few {d : Cl} (h : ∀ l ∈ d, GLx l) : ∀ n ∈ varsC d [], 0 ≤ n ∧ n ≤ 9 := fun n hn => by
  rcases varsC_mem.1 hn with hn | ⟨l, hl, hn⟩
  · cases hn
  · rcases hn with hn | hn
    · exact (h l hl).gl.few n hn
    · exact (h l hl).gr.few n hn
theorem gx_vars {d : Cl} (h : ∀ l ∈ d, GLx l) : (varsC d []).length ≤ 10 := by
  refine nodup_le (m := [0, 1, 2, 3, 4, 5, 6, 7, 8, 9]) (varsC_nodup List.nodup_nil) (fun x hx => ?_)
  have := gx_few h x hx
  simp
  omega
theorem GLx.num {vs : List Int} (hl : vs.length ≤ 10) {l : Lt} (h : GLx l) : GLx (mapL (subT (bnd (numS vs))) l) :=
  ⟨gd_sub (num_gd hl) h.gl, gd_sub (num_gd hl) h.gr, by simp only [mapL]; rw [num_size h.gl.ok]; exact h.sl, by simp only [mapL]; rw [num_size h.gr.ok]; exact h.sr⟩
theorem gx_ren {d : Cl} (h : GX d) : GX (reN d) := by
  refine ⟨by rw [reN, List.length_map]; exact h.1, fun l hl => ?_⟩
  obtain ⟨x, hx, rfl⟩ := List.mem_map.1 hl
  exact (h.2 x hx).num (gx_vars h.2)
theorem gx_dist {d e : Cl} (h : GX d) (he : distC d = some e) : GX e := by
  refine ⟨?_, dist_mem (p := GLx) he (fun e he => by cases he; simp) h.2⟩
  have := dist_len (n := 0) he (fun e he => by cases he; simp)
  have := h.1
  omega
/-- What Norm tells of a clause, however great. -/
theorem norm_casesX {c : Cl} (hc : GX c) : (turnC c = none ∧ normC c = (6, [])) ∨ ∃ d, turnC c = some d ∧ GX d ∧ GX (reN d) ∧ ((distC (reN d) = none ∧ normC c = (6, [])) ∨ ∃ e, distC (reN d) = some e ∧ GX e ∧ normC c = keepC d e) := by
  cases ht : turnC c with
  | none => exact .inl ⟨rfl, by simp [normC, ht]⟩
  | some d =>
    have hd := turn_gx ht hc
    have hr := gx_ren hd
    refine .inr ⟨d, rfl, hd, hr, ?_⟩
    cases he : distC (reN d) with
    | none => exact .inl ⟨rfl, by simp [normC, ht, he]⟩
    | some e => exact .inr ⟨e, rfl, gx_dist hr he, by simp only [normC, ht, he]⟩
theorem keep_big {d e : Cl} (h : (4 < e.length ∨ 5 < (varsC d []).length) ∨ e.any bigL = true) : keepC d e = (4, []) := if_pos (by
  rcases h with (h | h) | h
  · exact .inl h
  · exact .inr (.inl h)
  · exact .inr (.inr h))
theorem keep_ok {d e : Cl} (h1 : ¬ 4 < e.length) (h2 : ¬ 5 < (varsC d []).length) (h3 : e.any bigL = false) : keepC d e = (0, e) := if_neg (by
  rintro (h | h | h)
  · exact h1 h
  · exact h2 h
  · rw [h3] at h; cases h)
theorem norm_holdsX {z : Int} {tb : List (List Int)} {c : Cl} (hc : GX c) : ((normC c).1 = 6 → holdsP z tb c) ∧ ((normC c).1 = 0 → (holdsP z tb c ↔ holdsP z tb (normC c).2)) := by
  have h1 := holds_turn (z := z) (tb := tb) (fun l hl => (hc.2 l hl).okl)
  rcases norm_casesX hc with ⟨ht, hn⟩ | ⟨d, ht, hd, hr, hn⟩
  · rw [hn]; exact ⟨fun _ => h1.2 ht, fun h => by simp at h⟩
  · have h2 := h1.1 d ht
    have h3 := holds_ren (z := z) (tb := tb) (d := d)
    have h4 := holds_dist (z := z) (tb := tb) (fun l hl => (hr.2 l hl).okl)
    rcases hn with ⟨he, hn⟩ | ⟨e, he, hE, hn⟩
    · rw [hn]; exact ⟨fun _ => h2.2 (h3.2 (h4.2 he)), fun h => by simp at h⟩
    · rw [hn]
      unfold keepC
      split
      · exact ⟨fun h => by simp at h, fun h => by simp at h⟩
      · exact ⟨fun h => by simp at h, fun _ => h2.trans (h3.trans (h4.1 e he))⟩
theorem norm_holds {z : Int} {tb : List (List Int)} {c : Cl} (hc : GC c) : ((normC c).1 = 6 → holdsP z tb c) ∧ ((normC c).1 = 0 → (holdsP z tb c ↔ holdsP z tb (normC c).2)) := by
  have h1 := holds_turn (z := z) (tb := tb) (fun l hl => (hc.2 l hl).okl)
  rcases norm_cases hc with ⟨ht, hn⟩ | ⟨d, ht, hd, hr, hn⟩
  · rw [hn]; exact ⟨fun _ => h1.2 ht, fun h => by simp at h⟩
  · have h2 := h1.1 d ht
    have h3 := holds_ren (z := z) (tb := tb) (d := d)
    have h4 := holds_dist (z := z) (tb := tb) (fun l hl => (hr.2 l hl).okl)
    rcases hn with ⟨he, hn⟩ | ⟨e, he, hE, hn⟩
    · rw [hn]; exact ⟨fun _ => h2.2 (h3.2 (h4.2 he)), fun h => by simp at h⟩
    · rw [hn]; exact ⟨fun h => by simp at h, fun _ => h2.trans (h3.trans (h4.1 e he))⟩

end Go.Proofs.Ytfnkjadfepoicac

/- Models, told alone: what is wrong with them, which things terms are, all bindings counted. -/
namespace Go.Proofs.Ytfnkjadfepoicac
open Go.RowKit Go.Deep Go.ChangeShapes Go.WideShapes

/-- How long the table of a symbol with so many arguments is. -/
def mlen (z : Int) (n : Int) : Int := if n = 0 then 1 else if n = 1 then z else z * z
def inZ (z : Int) (x : Int) : Bool := decide (0 ≤ x ∧ x < z)
def rowE (z : Int) (p : Int × List Int) : Int := if (p.2.length : Int) = mlen z p.1 then (if p.2.all (inZ z) then 0 else 3) else 5
def rowsE (z : Int) : List (Int × List Int) → Int
  | [] => 0
  | p :: ps => if rowE z p ≠ 0 then rowE z p else rowsE z ps
theorem rowsE_at {z : Int} : ∀ {c : List (Int × List Int)} {j : Nat} {p : Int × List Int}, (∀ i, i < j → ∀ a, c[i]? = some a → rowE z a = 0) → c[j]? = some p → rowE z p ≠ 0 → rowsE z c = rowE z p
  | [], _, _, _, h, _ => by simp at h
  | x :: c, 0, l, _, h, hn => by
    simp only [List.getElem?_cons_zero, Option.some.injEq] at h
    subst h
    rw [rowsE, if_pos hn]
  | x :: c, j + 1, l, h0, h, hn => by
    rw [rowsE, if_neg (by simp [h0 0 (by omega) x (by simp)])]
    exact rowsE_at (j := j) (fun i hi a ha => h0 (i + 1) (by omega) a (by simpa using ha)) (by simpa using h) hn
theorem rowsE_iff {z : Int} : ∀ {c : List (Int × List Int)}, rowsE z c = 0 ↔ ∀ p ∈ c, rowE z p = 0
  | [] => by simp [rowsE]
  | x :: c => by
    rw [rowsE]
    by_cases h : rowE z x = 0
    · rw [if_neg (by simp [h]), rowsE_iff (c := c)]
      simp [h]
    · rw [if_pos h]
      simp [h]
def wrongM (s : List Int) (z : Int) (tb : List (List Int)) : Int := if z < 1 ∨ 8 < z ∨ tb.length ≠ s.length then 5 else rowsE z (s.zip tb)

/-- A right model. -/
structure MR (s : List Int) (z : Int) (tb : List (List Int)) : Prop where
  z1 : 1 ≤ z
  z8 : z ≤ 8
  len : tb.length = s.length
  row : ∀ i, i < s.length → ((tb.getD i []).length : Int) = mlen z (s.getD i 0)
  all : ∀ i, i < s.length → ∀ x ∈ tb.getD i [], 0 ≤ x ∧ x < z
theorem row_ok {z : Int} {p : Int × List Int} : rowE z p = 0 ↔ (p.2.length : Int) = mlen z p.1 ∧ ∀ x ∈ p.2, 0 ≤ x ∧ x < z := by
  unfold rowE
  by_cases h1 : (p.2.length : Int) = mlen z p.1
  · rw [if_pos h1]
    by_cases h2 : p.2.all (inZ z) = true
    · rw [if_pos h2]
      simp only [h1, true_and, true_iff]
      intro x hx
      have := List.all_eq_true.1 h2 x hx
      simpa [inZ] using this
    · rw [if_neg h2]
      constructor
      · intro h; simp at h
      · intro h
        refine absurd (List.all_eq_true.2 fun x hx => ?_) h2
        have := h.2 x hx
        simpa [inZ] using this
  · rw [if_neg h1]
    constructor
    · intro h; simp at h
    · intro h; exact absurd h.1 h1
theorem wrongM_ok {s : List Int} {z : Int} {tb : List (List Int)} (h : wrongM s z tb = 0) : MR s z tb := by
  unfold wrongM at h
  by_cases h1 : z < 1 ∨ 8 < z ∨ tb.length ≠ s.length
  · rw [if_pos h1] at h; simp at h
  · rw [if_neg h1, rowsE_iff] at h
    have hl : tb.length = s.length := by
      by_cases e : tb.length = s.length
      · exact e
      · exact absurd (.inr (.inr e)) h1
    have key : ∀ i, i < s.length → rowE z (s.getD i 0, tb.getD i []) = 0 := fun i hi => by
      have h2 : (s.zip tb)[i]? = some (s.getD i 0, tb.getD i []) := by
        have hs : s[i]? = some (s.getD i 0) := by rw [List.getD_eq_getElem?_getD, List.getElem?_eq_getElem hi]; rfl
        have ht : tb[i]? = some (tb.getD i []) := by rw [List.getD_eq_getElem?_getD, List.getElem?_eq_getElem (by omega)]; rfl
        rw [List.getElem?_zip_eq_some]
        exact ⟨hs, ht⟩
      exact h _ (List.mem_of_getElem? h2)
    exact ⟨by omega, by omega, hl, fun i hi => (row_ok.1 (key i hi)).1, fun i hi => (row_ok.1 (key i hi)).2⟩

/-- So many arguments' numbers, the first one counts most. -/
def pw (z : Int) : Nat → Int
  | 0 => 1
  | n + 1 => z * pw z n
theorem pw_pos {z : Int} (h : 1 ≤ z) : ∀ n, 1 ≤ pw z n
  | 0 => by simp [pw]
  | n + 1 => by
    have := pw_pos h n
    rw [pw]
    have := Int.mul_le_mul h this (by omega) (by omega)
    simpa using this
theorem mlen_pw {z n : Int} {m : Nat} (h : (m : Int) = n) (hm : m ≤ 2) : mlen z n = pw z m := by
  subst h
  rcases (by omega : m = 0 ∨ m = 1 ∨ m = 2) with rfl | rfl | rfl
  · rfl
  · simp [mlen, pw]
  · simp [mlen, pw]
theorem digit_next {z a v p : Int} (hz : 1 ≤ z) (ha : 0 ≤ a) (hp : a < p) (hv : 0 ≤ v) (hvz : v < z) : 0 ≤ z * a + v ∧ z * a + v < z * p := by
  have h1 : 0 ≤ z * a := Int.mul_nonneg (by omega) ha
  have h2 : z * (a + 1) ≤ z * p := Int.mul_le_mul_of_nonneg_left (by omega) (by omega)
  rw [Int.mul_add] at h2
  omega
/-- Of right symbols, with so many arguments as they must have, and few variables: however great. -/
def sigF (s : List Int) : Fo → Prop
  | .nil => True
  | .node _ _ x k r => (aloneF s x (Fo.len k) = 0 ∧ sigF s k) ∧ sigF s r
def sigT (s : List Int) (t : Tm) : Prop := aloneF s t.1 (Fo.len t.2) = 0 ∧ sigF s t.2
theorem sig_node {s : List Int} {p q : Nat} {x : Bool × Int} {k r : Fo} : sigF s (.node p q x k r) ↔ sigT s (x, k) ∧ sigF s r := Iff.rfl
theorem sig_walkF {s : List Int} : ∀ {F : Fo} {d : Int}, walkF s F d = 0 → sigF s F
  | .nil, _, _ => trivial
  | .node _ _ x k r, d, h => by
    obtain ⟨hT, hr⟩ := walkF_ok h
    obtain ⟨_, ha, hk⟩ := walkT_ok hT
    exact ⟨⟨ha, sig_walkF hk⟩, sig_walkF hr⟩
theorem sig_walk {s : List Int} {t : Tm} {d : Int} (h : walkT s t.1 t.2 d = 0) : sigT s t := by
  obtain ⟨_, ha, hk⟩ := walkT_ok h
  exact ⟨ha, sig_walkF hk⟩
theorem sig_mem {s : List Int} : ∀ {F : Fo}, sigF s F → ∀ t ∈ F.list, sigT s t
  | .nil, _, t, h => by simp [Fo.list] at h
  | .node _ _ x k r, h, t, ht => by
    simp only [Fo.list, List.mem_cons] at ht
    rcases ht with rfl | ht
    · exact h.1
    · exact sig_mem h.2 t ht
theorem sig_subF {s : List Int} {f : Int → Tm} : ∀ {F : Fo}, (∀ n, occF n F → sigT s (f n)) → sigF s F → sigF s (subF f F)
  | .nil, _, _ => trivial
  | .node p q (b, n) k r, hf, h => by
    have hl : ∀ m, occT m ((b, n), k) → sigT s (f m) := fun m hm => hf m (by rw [occ_mem]; exact ⟨((b, n), k), by simp [Fo.list], hm⟩)
    have hr : ∀ m, occF m r → sigT s (f m) := fun m hm => hf m (by
      rw [occ_mem] at hm ⊢
      obtain ⟨t, ht, h2⟩ := hm
      exact ⟨t, by simp [Fo.list, ht], h2⟩)
    rw [subF_node]
    refine ⟨?_, sig_subF hr h.2⟩
    cases b with
    | true => rw [subT_var]; exact hl n (by simp [occT])
    | false =>
      rw [subT_sym]
      refine ⟨?_, sig_subF (fun m hm => hl m (by simp [occT, hm])) h.1.2⟩
      rw [subF_len]; exact h.1.1
theorem sig_sub {s : List Int} {f : Int → Tm} {t : Tm} (hf : ∀ n, occT n t → sigT s (f n)) (h : sigT s t) : sigT s (subT f t) := by
  obtain ⟨⟨b, n⟩, k⟩ := t
  cases b with
  | true => rw [subT_var]; exact hf n (by simp [occT])
  | false =>
    rw [subT_sym]
    refine ⟨?_, sig_subF (fun m hm => hf m (by simp [occT, hm])) h.2⟩
    rw [subF_len]; exact h.1
/-- The number of a term is one of a thing. -/
theorem val_range {s : List Int} {z : Int} {tb : List (List Int)} {e : Int → Int} (hm : MR s z tb) (hs : s.all okNum = true) (he : ∀ v, 0 ≤ v → v ≤ 4 → 0 ≤ e v ∧ e v < z) :
    ∀ {F : Fo}, sigF s F → ∀ (a : Int) (i : Nat), 0 ≤ a → a < pw z i → 0 ≤ valF z tb e F a ∧ valF z tb e F a < pw z (Fo.len F + i)
  | .nil, _, a, i, h0, h1 => by simpa [valF, Fo.len] using ⟨h0, h1⟩
  | .node p q (b, n) k r, h, a, i, h0, h1 => by
    obtain ⟨⟨ha, hk⟩, hr⟩ := h
    have hv : 0 ≤ valT z tb e ((b, n), k) ∧ valT z tb e ((b, n), k) < z := by
      cases b with
      | true =>
        obtain ⟨_, hn0, hn4⟩ := alone_var ha
        simpa [valT] using he n hn0 hn4
      | false =>
        obtain ⟨n0, n1, n2⟩ := alone_sym ha
        have ih := val_range hm hs he hk 0 0 (by omega) (by simp [pw])
        have hn : n.toNat < s.length := by omega
        have ok := List.all_eq_true.1 hs (s.getD n.toNat 0) (by rw [List.getD_eq_getElem?_getD, List.getElem?_eq_getElem hn]; simp)
        have ok' : 0 ≤ s.getD n.toNat 0 ∧ s.getD n.toNat 0 ≤ 2 := by simpa [okNum] using ok
        have hl := hm.row n.toNat hn
        rw [mlen_pw n2 (by omega)] at hl
        rw [Nat.add_zero] at ih
        have hlt : (valF z tb e k 0).toNat < (tb.getD n.toNat []).length := by omega
        have : (tb.getD n.toNat []).getD (valF z tb e k 0).toNat 0 ∈ tb.getD n.toNat [] := by
          rw [List.getD_eq_getElem?_getD (l := tb.getD n.toNat []), List.getElem?_eq_getElem hlt]; simp
        have := hm.all n.toNat hn _ this
        simpa [valT] using this
    rw [valF_node]
    have hd := digit_next hm.z1 h0 h1 hv.1 hv.2
    have := val_range hm hs he hr (z * a + valT z tb e ((b, n), k)) (i + 1) hd.1 (by rw [pw]; exact hd.2)
    rw [show Fo.len (.node p q (b, n) k r) + i = Fo.len r + (i + 1) by simp [Fo.len]; omega]
    exact this
theorem val_args {s : List Int} {z : Int} {tb : List (List Int)} {e : Int → Int} (hm : MR s z tb) (hs : s.all okNum = true) (he : ∀ v, 0 ≤ v → v ≤ 4 → 0 ≤ e v ∧ e v < z) {n : Int} {k : Fo} (h : sigT s ((false, n), k)) :
    0 ≤ n ∧ n < s.length ∧ 0 ≤ valF z tb e k 0 ∧ valF z tb e k 0 < (tb.getD n.toNat []).length ∧ Fo.len k ≤ 2 := by
  have ha : aloneF s (false, n) (Fo.len k) = 0 := h.1
  have hk : sigF s k := h.2
  obtain ⟨n0, n1, n2⟩ := alone_sym ha
  have ih := val_range hm hs he hk 0 0 (by omega) (by simp [pw])
  have hn : n.toNat < s.length := by omega
  have ok := List.all_eq_true.1 hs (s.getD n.toNat 0) (by rw [List.getD_eq_getElem?_getD, List.getElem?_eq_getElem hn]; simp)
  have ok' : 0 ≤ s.getD n.toNat 0 ∧ s.getD n.toNat 0 ≤ 2 := by simpa [okNum] using ok
  have hl := hm.row n.toNat hn
  rw [mlen_pw n2 (by omega)] at hl
  rw [Nat.add_zero] at ih
  exact ⟨n0, n1, ih.1, by omega, by omega⟩
theorem val_rangeT {s : List Int} {z : Int} {tb : List (List Int)} {e : Int → Int} (hm : MR s z tb) (hs : s.all okNum = true) (he : ∀ v, 0 ≤ v → v ≤ 4 → 0 ≤ e v ∧ e v < z) {t : Tm} (h : sigT s t) : 0 ≤ valT z tb e t ∧ valT z tb e t < z := by
  have h2 : sigF s (.node 0 0 t.1 t.2 .nil) := ⟨h, trivial⟩
  have := val_range hm hs he h2 0 0 (by omega) (by simp [pw])
  rw [valF_node] at this
  simpa [valF, Fo.len, pw] using this

/-- All bindings, counted as numbers. -/
def envF (z : Int) : List Int → Int → List Int → List Int
  | [], _, L => L
  | v :: vs, n, L => envF z vs (n / z) (L.set v.toNat (n % z))
def envOf (L : List Int) (v : Int) : Int := L.getD v.toNat 0
abbrev env0 : List Int := [0, 0, 0, 0, 0]
def holdsB (z : Int) (tb : List (List Int)) (c : Cl) : Bool := (List.range (pw z (varsC c []).length).toNat).all fun n => someH z tb (envOf (envF z (varsC c []) n env0)) c
theorem envF_len {z : Int} : ∀ (vs : List Int) (n : Int) (L : List Int), (envF z vs n L).length = L.length
  | [], _, _ => rfl
  | v :: vs, n, L => by rw [envF, envF_len]; simp
theorem envF_other {z v : Int} : ∀ {vs : List Int} {n : Int} {L : List Int}, (∀ x ∈ vs, 0 ≤ x) → 0 ≤ v → v ∉ vs → envOf (envF z vs n L) v = envOf L v
  | [], _, _, _, _, _ => rfl
  | x :: vs, n, L, hx, h0, h => by
    have hne : x.toNat ≠ v.toNat := fun e => h (by have := hx x (by simp); rw [show v = x by omega]; simp)
    rw [envF, envF_other (fun y hy => hx y (by simp [hy])) h0 (fun hh => h (by simp [hh]))]
    unfold envOf
    rw [List.getD_eq_getElem?_getD, List.getD_eq_getElem?_getD, List.getElem?_set_ne hne]
theorem env_range {z : Int} (hz : 1 ≤ z) : ∀ {vs : List Int} {n : Int} {L : List Int}, (∀ x ∈ L, 0 ≤ x ∧ x < z) → ∀ x ∈ envF z vs n L, 0 ≤ x ∧ x < z
  | [], _, _, h => h
  | v :: vs, n, L, h => by
    rw [envF]
    refine env_range hz (fun x hx => ?_)
    rcases List.mem_or_eq_of_mem_set hx with hx | hx
    · exact h x hx
    · rw [hx]
      exact ⟨Int.emod_nonneg _ (by omega), Int.emod_lt_of_pos _ (by omega)⟩
theorem env_at {z : Int} (hz : 1 ≤ z) {vs : List Int} {n : Int} (v : Int) : 0 ≤ envOf (envF z vs n env0) v ∧ envOf (envF z vs n env0) v < z := by
  unfold envOf
  rw [List.getD_eq_getElem?_getD]
  cases h : (envF z vs n env0)[v.toNat]? with
  | none => simp; omega
  | some x =>
    have := env_range hz (vs := vs) (n := n) (L := env0) (fun x hx => by simp at hx; omega) x (List.mem_of_getElem? h)
    simpa using this
/-- Some number counts whatever bindings there are. -/
theorem env_some {z : Int} (hz : 1 ≤ z) {e : Int → Int} (he : ∀ v, 0 ≤ e v ∧ e v < z) : ∀ {vs : List Int}, vs.Nodup → (∀ x ∈ vs, 0 ≤ x ∧ x ≤ 4) → ∃ n : Int, 0 ≤ n ∧ n < pw z vs.length ∧ ∀ L : List Int, L.length = 5 → ∀ v ∈ vs, envOf (envF z vs n L) v = e v
  | [], _, _ => ⟨0, by omega, by simp [pw], fun _ _ _ h => by cases h⟩
  | v :: vs, hn, hx => by
    rw [List.nodup_cons] at hn
    obtain ⟨m, m0, m1, hm⟩ := env_some hz he hn.2 (fun x hx' => hx x (by simp [hx']))
    have hv := hx v (by simp)
    obtain ⟨e0, e1⟩ := he v
    have hd := digit_next hz m0 m1 e0 e1
    have hz' : (0 : Int) < z := by omega
    have q1 : (z * m + e v) / z = m := by
      rw [Int.add_comm, Int.add_mul_ediv_left _ _ (by omega), Int.ediv_eq_zero_of_lt e0 e1]; omega
    have q2 : (z * m + e v) % z = e v := by
      rw [Int.add_comm, Int.add_mul_emod_self_left, Int.emod_eq_of_lt e0 e1]
    refine ⟨z * m + e v, hd.1, by rw [List.length_cons, pw]; exact hd.2, fun L hL x hxm => ?_⟩
    rw [envF, q1, q2]
    rcases List.mem_cons.1 hxm with rfl | hxm
    · rw [envF_other (fun y hy => (hx y (by simp [hy])).1) hv.1 hn.1]
      unfold envOf
      rw [List.getD_eq_getElem?_getD, List.getElem?_set_self (by omega)]
      rfl
    · exact hm _ (by simp [hL]) x hxm
theorem some_congr {z : Int} {tb : List (List Int)} {e e' : Int → Int} {c : Cl} (h : ∀ n ∈ varsC c [], e n = e' n) : someH z tb e c = someH z tb e' c := by
  unfold someH
  rw [Bool.eq_iff_iff, List.any_eq_true, List.any_eq_true]
  refine exists_congr fun l => and_congr_right fun hl => ?_
  have h1 : ∀ n, occL n l → e n = e' n := fun n hn => h n (varsC_mem.2 (.inr ⟨l, hl, hn⟩))
  simp only [litH]
  rw [valT_congr (fun n hn => h1 n (.inl hn)), valT_congr (t := l.2.2) (fun n hn => h1 n (.inr hn))]
theorem holds_iff {z : Int} {tb : List (List Int)} {c : Cl} (hz : 1 ≤ z) (hv : ∀ n ∈ varsC c [], 0 ≤ n ∧ n ≤ 4) : holdsB z tb c = true ↔ holdsP z tb c := by
  unfold holdsB holdsP
  rw [List.all_eq_true]
  constructor
  · intro h e he
    obtain ⟨n, n0, n1, hn⟩ := env_some hz he (varsC_nodup (c := c) List.nodup_nil) hv
    have h1 := h n.toNat (List.mem_range.2 (by omega))
    rw [show ((n.toNat : Nat) : Int) = n by omega] at h1
    rw [← h1]
    exact some_congr fun v hvm => (hn env0 rfl v hvm).symm
  · intro h n _
    exact h _ (fun v => env_at hz v)

end Go.Proofs.Ytfnkjadfepoicac
