/- DClo CN CK CDi CNu CV -/
import Derived.Test.YtaliegkkdhkfcacGreatDoorG13
import Derived.Deep.RegionHeld3
namespace Go.Proofs.YtaliegkkdhkfcacGreatDoor
open Go.RowKit Go.Deep Go.ChangeShapes Go.WideShapes

set_option maxRecDepth 100000 in
set_option maxHeartbeats 2000000 in
theorem cloDN_any (s : Sb) (vs : Value) (bb : Nat) (W0 : World) (hc : W0.cell? ⟨bb, 0, none⟩ = some vs) (hV : SubIn W0 s vs) (hs : ∀ p ∈ s, okT p.2) : CloSaid 31 bb (subT (bnd s)) (fun t => okT t ∧ narT t) W0 := by
  intro x k a w hW hS hG
  obtain ⟨xv, xn⟩ := x
  have HS := hide hS
  have HV := hide hV
  have Hs := hide hs
  have hsv : ∃ v1 v2 v3, vs = .slice v1 v2 v3 := by
    obtain ⟨v1, v3, _, _, rfl, _⟩ := hV
    exact ⟨_, _, _, rfl⟩
  obtain ⟨v1, v2, v3, rfl⟩ := hsv
  obtain ⟨ad, c, _, _, rfl, -, -, -, -⟩ := hS
  have hcw := grow_cell hW _ _ hc
  have hpb : bb < w.heap.size := World.block_lt_of_cell? _ _ hcw
  have hc' : ((w.alloc (.cells #[.bool xv, .int .i64 xn, .slice ad (Fo.len k) c] 55)).alloc (.cells #[.bool false, .int .i64 0, .slice none 0 0] 55)).cell? ⟨bb, 0, none⟩ = some (.slice v1 v2 v3) := by rw [World.cell?_alloc_lt _ _ _ (by simp; omega), World.cell?_alloc_lt _ _ _ (by simpa using hpb)]; exact hcw
  clear hV hs
  go_enter Tryz.func31, Tryz.ntmps31
  go_wp2_with fail
  refine (applyR_any (xv, xn) k s _ W0 _ _ (below_step hW (below_step (below_alloc _ _) (below_alloc _ _))) HV.out Hs.out HS.out hG.1 hG.2).mono ?_
  rintro e w1 ⟨z1, z2, z3, rfl, hO, hb⟩
  obtain ⟨⟨⟨tv, tn⟩, tk⟩, ht⟩ : ∃ t, t = subT (bnd s) ((xv, xn), k) := ⟨_, rfl⟩
  rw [← ht] at hO ⊢
  have hsz := hb.size
  simp only [World.size_alloc] at hsz
  have hsW := hW.size
  have r0 : w1.cell? ⟨w.heap.size + 1, 0, none⟩ = some (.bool false) := grow_cell hb _ _ (new_cell (World.size_alloc _ _))
  have r1 : w1.cell? ⟨w.heap.size + 1, 1, none⟩ = some (.int .i64 0) := grow_cell hb _ _ (new_cell (World.size_alloc _ _))
  have r2 : w1.cell? ⟨w.heap.size + 1, 2, none⟩ = some (.slice none 0 0) := grow_cell hb _ _ (new_cell (World.size_alloc _ _))
  have rf : ∀ i, w1.frozen? ⟨w.heap.size + 1, i, none⟩ = false := fun i => (hb.frozen (by show w.heap.size + 1 < _; simp)).trans (new_frozen (World.size_alloc _ _))
  have hB := below_box (below_box hb)
  have HO : Hid (SB (fun q => q < W0.heap.size ∨ (w.heap.size + 1 + 1 ≤ q ∧ q < w1.heap.size)) w1 tk (.slice z1 z2 z3)) := by
    have := hO
    simp only [World.size_alloc] at this
    exact this
  have Ht := hide ht
  clear hb hO ht hc hc' hcw
  simp only
  go_wp2_with fail
  refine bodyPost_ret (v := .agg #[.bool tv, .int .i64 tn, .slice z1 z2 z3]) (by simp [results, Tryz.results31, go_sem, r0, r1, r2]) rfl ⟨z1, z2, z3, by rw [← Ht.out], ?_, set3_below (o := 0) hB (by omega)⟩
  rw [← Ht.out]
  exact ret_boxB HO.out (by omega) (by omega) (by omega)

end Go.Proofs.YtaliegkkdhkfcacGreatDoor

namespace Go.Proofs.YtaliegkkdhkfcacGreatDoor
open Go.RowKit Go.Deep Go.ChangeShapes Go.WideShapes

def valF (z : Int) (tb : List (List Int)) (e : Int → Int) : Fo → Int → Int
  | .nil, a => a
  | .node _ _ x k r, a => valF z tb e r (z * a + (if x.1 then e x.2 else (tb.getD x.2.toNat []).getD (valF z tb e k 0).toNat 0))
def valT (z : Int) (tb : List (List Int)) (e : Int → Int) (t : Tm) : Int := if t.1.1 then e t.1.2 else (tb.getD t.1.2.toNat []).getD (valF z tb e t.2 0).toNat 0
theorem valF_node (z : Int) (tb : List (List Int)) (e : Int → Int) (p q : Nat) (x : Bool × Int) (k r : Fo) (a : Int) : valF z tb e (.node p q x k r) a = valF z tb e r (z * a + valT z tb e (x, k)) := rfl
def litH (z : Int) (tb : List (List Int)) (e : Int → Int) (l : Lt) : Bool := l.1 != (valT z tb e l.2.1 == valT z tb e l.2.2)
def someH (z : Int) (tb : List (List Int)) (e : Int → Int) (c : Cl) : Bool := c.any (litH z tb e)
def holdsP (z : Int) (tb : List (List Int)) (c : Cl) : Prop := ∀ e : Int → Int, (∀ v, 0 ≤ e v ∧ e v < z) → someH z tb e c = true

theorem valF_congr {z : Int} {tb : List (List Int)} {e e' : Int → Int} : ∀ {F : Fo}, (∀ n, occF n F → e n = e' n) → ∀ a, valF z tb e F a = valF z tb e' F a
  | .nil, _, _ => rfl
  | .node p q x k r, h, a => by
    have hk : (∀ n, occT n (x, k) → e n = e' n) := fun n hn => h n (by rw [occ_mem]; exact ⟨(x, k), by simp [Fo.list], hn⟩)
    have hr : (∀ n, occF n r → e n = e' n) := fun n hn => h n (by
      rw [occ_mem] at hn ⊢
      obtain ⟨t, ht, h2⟩ := hn
      exact ⟨t, by simp [Fo.list, ht], h2⟩)
    rw [valF, valF, valF_congr hr]
    congr 2
    cases hx : x.1 with
    | true => simp; exact hk x.2 (by simp [occT, hx])
    | false =>
      simp only [Bool.false_eq_true, if_false]
      rw [valF_congr (F := k) (fun n hn => hk n (by simp [occT, hx, hn]))]
theorem valT_congr {z : Int} {tb : List (List Int)} {e e' : Int → Int} {t : Tm} (h : ∀ n, occT n t → e n = e' n) : valT z tb e t = valT z tb e' t := by
  obtain ⟨⟨v, m⟩, k⟩ := t
  cases v with
  | true => simp only [valT, if_true]; exact h m (by simp [occT])
  | false => simp only [valT, Bool.false_eq_true, if_false]; rw [valF_congr (F := k) (fun n hn => h n (by simp [occT, hn]))]
theorem valF_sub {z : Int} {tb : List (List Int)} {e : Int → Int} {f : Int → Tm} : ∀ (F : Fo) (a : Int), valF z tb e (subF f F) a = valF z tb (fun n => valT z tb e (f n)) F a
  | .nil, _ => rfl
  | .node p q x k r, a => by
    rw [subF_node, valF_node, valF_node, valF_sub r]
    congr 2
    obtain ⟨v, m⟩ := x
    cases v with
    | true => rw [subT_var]; simp [valT]
    | false => rw [subT_sym]; unfold valT; rw [if_neg (by simp), if_neg (by simp)]; dsimp only; rw [valF_sub k]; rfl
theorem valT_sub {z : Int} {tb : List (List Int)} {e : Int → Int} {f : Int → Tm} (t : Tm) : valT z tb e (subT f t) = valT z tb (fun n => valT z tb e (f n)) t := by
  obtain ⟨⟨v, m⟩, k⟩ := t
  cases v with
  | true => rw [subT_var]; simp [valT]
  | false => rw [subT_sym]; unfold valT; rw [if_neg (by simp), if_neg (by simp)]; dsimp only; rw [valF_sub k]; rfl

theorem beq_swap (a b : Int) : (a == b) = (b == a) := by
  rw [Bool.eq_iff_iff]
  simp only [beq_iff_eq]
  exact ⟨Eq.symm, Eq.symm⟩
theorem litH_flip {z : Int} {tb : List (List Int)} {e : Int → Int} (l : Lt) : litH z tb e (flipL l) = litH z tb e l := by
  unfold flipL
  split
  · simp only [litH]; rw [beq_swap]
  · rfl
theorem litH_like {z : Int} {tb : List (List Int)} {e : Int → Int} {a b : Lt} (ha : okL a) (hb : okL b) (h : likeL a b = true) (hs : a.1 = b.1) : litH z tb e a = litH z tb e b := by
  rw [like_iff ha hb] at h
  simp only [litH, hs]
  rcases h with ⟨h1, h2⟩ | ⟨h1, h2⟩
  · rw [h1, h2]
  · rw [h1, h2, beq_swap]
theorem litH_other {z : Int} {tb : List (List Int)} {e : Int → Int} {a b : Lt} (ha : okL a) (hb : okL b) (h : likeL a b = true) (hs : b.1 ≠ a.1) : litH z tb e a = true ∨ litH z tb e b = true := by
  have hl := litH_like (z := z) (tb := tb) (e := e) (a := a) (b := (a.1, b.2)) ha hb (by rw [← h]; rfl) rfl
  rw [hl]
  have : b.1 = !a.1 := by cases h1 : b.1 <;> cases h2 : a.1 <;> simp_all
  simp only [litH, this]
  cases a.1 <;> cases (valT z tb e b.2.1 == valT z tb e b.2.2) <;> simp

theorem some_step {z : Int} {tb : List (List Int)} {e : Int → Int} {o : Option Cl} {l : Lt} (hl : okL l) : ∀ out, o = some out → (∀ d, tstep o l = some d → someH z tb e d = (someH z tb e out || litH z tb e l)) ∧ (tstep o l = none → litH z tb e l = true) := by
  intro out ho
  subst ho
  simp only [tstep, Option.bind_some]
  by_cases hs : sameT l.2.1.1 l.2.1.2 l.2.2.1 l.2.2.2 = true
  · rw [if_pos hs]
    have he : l.2.1 = l.2.2 := (sameT_iff hl.1 hl.2).1 hs
    cases hn : l.1 with
    | true =>
      refine ⟨fun d hd => ?_, fun h => by simp at h⟩
      simp at hd
      subst hd
      simp [litH, hn, he]
    | false => exact ⟨fun d hd => by simp at hd, fun _ => by simp [litH, hn, he]⟩
  · rw [if_neg hs]
    refine ⟨fun d hd => ?_, fun h => by cases h⟩
    cases hd
    simp [someH, litH_flip]
theorem some_turn {z : Int} {tb : List (List Int)} {e : Int → Int} : ∀ {c : Cl} {o : Option Cl} {out : Cl}, (∀ l ∈ c, okL l) → o = some out → (∀ d, c.foldl tstep o = some d → someH z tb e d = (someH z tb e out || someH z tb e c)) ∧ (c.foldl tstep o = none → someH z tb e c = true)
  | [], o, out, _, ho => ⟨fun d hd => by subst ho; cases hd; simp [someH], fun h => by subst ho; cases h⟩
  | l :: c, o, out, hc, ho => by
    have h1 := some_step (z := z) (tb := tb) (e := e) (o := o) (l := l) (hc l (by simp)) out ho
    cases ht : tstep o l with
    | none =>
      have := h1.2 ht
      refine ⟨fun d hd => ?_, fun _ => by simp [someH, this]⟩
      rw [List.foldl_cons, ht, fold_none (fun _ => rfl)] at hd
      cases hd
    | some out2 =>
      have h2 := some_turn (z := z) (tb := tb) (e := e) (c := c) (o := some out2) (out := out2) (fun x hx => hc x (by simp [hx])) rfl
      have h3 := h1.1 out2 ht
      rw [List.foldl_cons, ht]
      refine ⟨fun d hd => ?_, fun h => ?_⟩
      · rw [h2.1 d hd, h3]
        simp [someH, Bool.or_assoc]
      · have := h2.2 h
        simp only [someH, List.any_cons] at this ⊢
        rw [this, Bool.or_true]
theorem holds_turn {z : Int} {tb : List (List Int)} {c : Cl} (hc : ∀ l ∈ c, okL l) : (∀ d, turnC c = some d → (holdsP z tb c ↔ holdsP z tb d)) ∧ (turnC c = none → holdsP z tb c) := by
  refine ⟨fun d hd => ?_, fun h e _ => (some_turn (o := some []) (out := []) hc rfl).2 h⟩
  have key : ∀ e, someH z tb e d = someH z tb e c := fun e => by
    have := (some_turn (z := z) (tb := tb) (e := e) (o := some []) (out := []) hc rfl).1 d hd
    simpa [someH] using this
  unfold holdsP
  simp only [key]
theorem holds_dist {z : Int} {tb : List (List Int)} {P : Cl} (hP : ∀ l ∈ P, okL l) : (∀ d, distC P = some d → (holdsP z tb P ↔ holdsP z tb d)) ∧ (distC P = none → holdsP z tb P) := by
  refine ⟨fun d hd => ?_, fun h e _ => ?_⟩
  · obtain ⟨k1, k2, _⟩ := dist_kept hP hd
    have key : ∀ e, someH z tb e d = someH z tb e P := fun e => by
      rw [Bool.eq_iff_iff]
      simp only [someH, List.any_eq_true]
      constructor
      · rintro ⟨x, hx, h⟩; exact ⟨x, k1 x hx, h⟩
      · rintro ⟨y, hy, h⟩
        obtain ⟨f, h1, h2, h3⟩ := k2 y hy
        exact ⟨f, h1, by rw [litH_like (hP f (k1 f h1)) (hP y hy) h2 h3]; exact h⟩
    unfold holdsP
    simp only [key]
  · have key : ∀ n, n ≤ P.length → distC (P.take n) = none → someH z tb e P = true := by
      intro n
      induction n with
      | zero => intro _ h; simp [distC] at h
      | succ n ih =>
        intro hn h
        have hl : P[n]? = some P[n] := List.getElem?_eq_getElem (by omega)
        cases hd : distC (P.take n) with
        | none => exact ih (by omega) hd
        | some out =>
          rw [dist_take hl, hd] at h
          have hk := dist_kept (fun x hx => hP x (List.mem_of_mem_take hx)) hd
          obtain ⟨y, hy, h1, h2⟩ := (kept_step hk (fun x hx => hP x (List.mem_of_mem_take hx)) (hP _ (List.getElem_mem _)) h).2.1.1 rfl
          have hyP := List.mem_of_mem_take hy
          simp only [someH, List.any_eq_true]
          rcases litH_other (z := z) (tb := tb) (e := e) (hP _ (List.getElem_mem _)) (hP y hyP) h1 h2 with h | h
          · exact ⟨_, List.getElem_mem _, h⟩
          · exact ⟨y, hyP, h⟩
    exact key P.length (Nat.le_refl _) (by rw [List.take_length]; exact h)

theorem idx_cons {v n : Int} {vs : List Int} (h : ¬ v = n) : (v :: vs).idxOf n = vs.idxOf n + 1 := by
  have : (v == n) = false := by simp [h]
  rw [List.idxOf_cons, this, cond_false]
/-- New numbers: which they are. -/
theorem look_num {n : Int} : ∀ {vs : List Int} {k : Nat}, look (vs.mapIdx fun i v => (v, vr ((i + k : Nat) : Int))) n = if n ∈ vs then some (vr ((vs.idxOf n + k : Nat) : Int)) else none
  | [], _ => rfl
  | v :: vs, k => by
    rw [List.mapIdx_cons, look]
    by_cases h : v = n
    · subst h
      simp
    · have hn : ¬ n = v := fun e => h e.symm
      rw [if_neg (by simpa using h)]
      have e : (fun i (v : Int) => (v, vr ((i + 1 + k : Nat) : Int))) = fun i v => (v, vr ((i + (k + 1) : Nat) : Int)) := by
        funext i v; rw [show i + 1 + k = i + (k + 1) by omega]
      rw [e, look_num (vs := vs) (k := k + 1)]
      by_cases hm : n ∈ vs
      · rw [if_pos hm, if_pos (by simp [hm]), idx_cons h]
        rw [show vs.idxOf n + (k + 1) = vs.idxOf n + 1 + k by omega]
      · rw [if_neg hm, if_neg (by simp [hm, hn])]
theorem bnd_num {vs : List Int} {n : Int} (h : n ∈ vs) : bnd (numS vs) n = vr (vs.idxOf n : Nat) := by
  have := look_num (n := n) (vs := vs) (k := 0)
  simp only [Nat.add_zero] at this
  rw [if_pos h] at this
  exact bnd_some this
theorem varsT_mem {x : Bool × Int} {k : Fo} {l : List Int} {m : Int} : m ∈ varsT x k l ↔ m ∈ l ∨ occT m (x, k) := by
  unfold varsT
  obtain ⟨v, n⟩ := x
  cases v with
  | true =>
    simp only [if_true, occT]
    by_cases h : hasB l n = true
    · rw [if_pos h]
      have hn : n ∈ l := by simpa [hasB] using h
      constructor
      · exact .inl
      · rintro (h | rfl); exact h; exact hn
    · rw [if_neg h]; simp [eq_comm]
  | false => simp only [Bool.false_eq_true, if_false, occT]; exact occ_varsF
def occL (m : Int) (l : Lt) : Prop := occT m l.2.1 ∨ occT m l.2.2
theorem varsL_mem {l : Lt} {v : List Int} {m : Int} : m ∈ varsL l v ↔ m ∈ v ∨ occL m l := by
  unfold varsL occL
  rw [varsT_mem, varsT_mem, or_assoc]
theorem varsC_mem {m : Int} : ∀ {c : Cl} {v : List Int}, m ∈ varsC c v ↔ m ∈ v ∨ ∃ l ∈ c, occL m l
  | [], v => by simp [varsC]
  | l :: c, v => by
    show m ∈ varsC c (varsL l v) ↔ _
    rw [varsC_mem, varsL_mem]
    simp [or_assoc]
theorem varsT_nodup {x : Bool × Int} {k : Fo} {l : List Int} (h : l.Nodup) : (varsT x k l).Nodup := by
  unfold varsT
  split
  · split
    · exact h
    · rename_i hh
      rw [List.nodup_append]
      refine ⟨h, by simp, fun a ha b hb => ?_⟩
      simp at hb
      intro e
      rw [hb] at e
      exact hh (by simp [hasB, ← e, ha])
  · exact varsF_nodup h
theorem varsC_nodup : ∀ {c : Cl} {v : List Int}, v.Nodup → (varsC c v).Nodup
  | [], _, h => h
  | _ :: c, _, h => varsC_nodup (c := c) (varsT_nodup (varsT_nodup h))
theorem idx_inj {vs : List Int} {m n : Int} (hm : m ∈ vs) (h : vs.idxOf m = vs.idxOf n) : m = n := by
  have h1 : vs.idxOf m < vs.length := List.idxOf_lt_length_of_mem hm
  have h2 : vs[vs.idxOf m]'h1 = m := List.getElem_idxOf h1
  have h3 : vs.idxOf n < vs.length := by rw [← h]; exact h1
  have h4 : vs[vs.idxOf n]'h3 = n := List.getElem_idxOf h3
  rw [← h2, ← h4]
  simp only [h]
theorem holds_ren {z : Int} {tb : List (List Int)} {d : Cl} : holdsP z tb d ↔ holdsP z tb (reN d) := by
  have key : ∀ e, someH z tb e (reN d) = someH z tb (fun n => valT z tb e (bnd (numS (varsC d [])) n)) d := fun e => by
    unfold someH reN
    rw [List.any_map]
    congr 1
    funext l
    simp only [Function.comp, litH, mapL, valT_sub]
  have same : ∀ (e e' : Int → Int), (∀ n ∈ varsC d [], e n = e' n) → someH z tb e d = someH z tb e' d := fun e e' h => by
    unfold someH
    rw [Bool.eq_iff_iff, List.any_eq_true, List.any_eq_true]
    refine exists_congr fun l => and_congr_right fun hl => ?_
    have h1 : ∀ n, occL n l → e n = e' n := fun n hn => h n (varsC_mem.2 (.inr ⟨l, hl, hn⟩))
    simp only [litH]
    rw [valT_congr (fun n hn => h1 n (.inl hn)), valT_congr (t := l.2.2) (fun n hn => h1 n (.inr hn))]
  constructor
  · intro h e he
    rw [key]
    have := h (fun n => if n ∈ varsC d [] then e ((varsC d []).idxOf n : Nat) else e 0) (fun v => by split; exact he _; exact he _)
    rw [same _ _ ?_] at this
    · exact this
    · intro n hn
      simp only [hn, if_true]
      rw [bnd_num hn]
      simp [valT, vr]
  · intro h e he
    have := h (fun i => e ((varsC d []).getD i.toNat 0)) (fun v => he _)
    rw [key] at this
    rw [← this]
    refine same _ _ fun n hn => ?_
    rw [bnd_num hn]
    have h1 : (varsC d []).idxOf n < (varsC d []).length := List.idxOf_lt_length_of_mem hn
    simp only [valT, vr, if_true, Int.toNat_natCast]
    rw [List.getD_eq_getElem?_getD, List.getElem?_eq_getElem h1, Option.getD_some, List.getElem_idxOf h1]

end Go.Proofs.YtaliegkkdhkfcacGreatDoor

namespace Go.Proofs.YtaliegkkdhkfcacGreatDoor
open Go.RowKit Go.Deep Go.ChangeShapes Go.WideShapes

theorem nodup_le : ∀ {l m : List Int}, l.Nodup → (∀ x ∈ l, x ∈ m) → l.length ≤ m.length
  | [], _, _, _ => Nat.zero_le _
  | a :: l, m, hn, hs => by
    rw [List.nodup_cons] at hn
    have ha : a ∈ m := hs a (by simp)
    have h1 := nodup_le (l := l) (m := m.erase a) hn.2 (fun x hx => by
      have hne : x ≠ a := fun e => hn.1 (e ▸ hx)
      exact (List.mem_erase_of_ne hne).2 (hs x (by simp [hx])))
    rw [List.length_erase_of_mem ha] at h1
    have := List.length_pos_of_mem ha
    simp only [List.length_cons]
    omega
theorem gc_few {d : Cl} (h : ∀ l ∈ d, GL l) : ∀ n ∈ varsC d [], 0 ≤ n ∧ n ≤ 4 := fun n hn => by
  rcases varsC_mem.1 hn with hn | ⟨l, hl, hn⟩
  · cases hn
  · rcases hn with hn | hn
    · exact ⟨((h l hl).gl.few n hn).1, (h l hl).fl n hn⟩
    · exact ⟨((h l hl).gr.few n hn).1, (h l hl).fr n hn⟩
theorem gc_vars {d : Cl} (h : ∀ l ∈ d, GL l) : (varsC d []).length ≤ 5 := by
  refine nodup_le (m := [0, 1, 2, 3, 4]) (varsC_nodup List.nodup_nil) (fun x hx => ?_)
  have := gc_few h x hx
  simp
  omega
theorem wgF_zero {c : Int → Nat} (hc : ∀ n, c n = 0) : ∀ F : Fo, wgF c F = 0
  | .nil => rfl
  | .node _ _ x k r => by rw [wgF, wgF_zero hc k, wgF_zero hc r, hc]; simp
theorem num_nil (vs : List Int) (n : Int) : (bnd (numS vs) n).2 = .nil := by
  by_cases h : n ∈ vs
  · rw [bnd_num h]; rfl
  · have := look_num (n := n) (vs := vs) (k := 0)
    simp only [Nat.add_zero] at this
    rw [if_neg h] at this
    have e : bnd (numS vs) n = vr n := bnd_none this
    rw [e]; rfl
theorem num_size {vs : List Int} {t : Tm} (h : okT t) : tszR (subT (bnd (numS vs)) t).2 = tszR t.2 := by
  have := subT_size (f := bnd (numS vs)) h
  simp only [szT, wgT] at this
  rw [wgF_zero (fun n => by rw [num_nil]; rfl)] at this
  rw [this, num_nil]
  simp [Fo.sizesR]
theorem num_gd {vs : List Int} (hl : vs.length ≤ 10) : ∀ p ∈ numS vs, Gd p.2 := fun p hp => by
  simp only [numS, List.mem_mapIdx] at hp
  obtain ⟨i, hi, rfl⟩ := hp
  exact gd_vr ⟨by omega, by omega⟩
theorem gc_big {e : Cl} (h : GC e) : e.any bigL = false := by
  rw [List.any_eq_false]
  intro x hx
  have h1 := (h.2 x hx).sl
  have h2 := (h.2 x hx).sr
  simp [bigL]
  omega
theorem gc_keep {d e : Cl} (hd : GC d) (he : GC e) : keepC d e = (0, e) := by
  unfold keepC
  rw [if_neg]
  rintro (h | h | h)
  · have := he.1; omega
  · have := gc_vars hd.2; omega
  · rw [gc_big he] at h; cases h
/-- Literals of terms that can be reckoned with, though they be great. -/
structure GLx (l : Lt) : Prop where
  gl : Gd l.2.1
  gr : Gd l.2.2
  sl : tszR l.2.1.2 ≤ 4000000000000
  sr : tszR l.2.2.2 ≤ 4000000000000
def GX (c : Cl) : Prop := c.length ≤ 8 ∧ ∀ l ∈ c, GLx l
theorem GL.x {l : Lt} (h : GL l) : GLx l := ⟨h.gl, h.gr, by have := h.sl; omega, by have := h.sr; omega⟩
theorem GC.x {c : Cl} (h : GC c) : GX c := ⟨by have := h.1; omega, fun l hl => (h.2 l hl).x⟩
theorem GLx.flip {l : Lt} (h : GLx l) : GLx (flipL l) := by
  unfold flipL
  split
  · exact ⟨h.gr, h.gl, h.sr, h.sl⟩
  · exact h
theorem GLx.okl {l : Lt} (h : GLx l) : okL l := ⟨h.gl.ok, h.gr.ok⟩
theorem turn_gx {c d : Cl} (h : turnC c = some d) (hc : GX c) : GX d := by
  refine ⟨?_, turn_mem (p := GLx) h (fun e he => by cases he; simp) (fun l hl => (hc.2 l hl).flip)⟩
  have := turn_len (n := 0) h (fun e he => by cases he; simp)
  have := hc.1
  omega
theorem gx_few {d : Cl} (h : ∀ l ∈ d, GLx l) : ∀ n ∈ varsC d [], 0 ≤ n ∧ n ≤ 9 := fun n hn => by
  rcases varsC_mem.1 hn with hn | ⟨l, hl, hn⟩
  · cases hn
  · rcases hn with hn | hn
    · exact (h l hl).gl.few n hn
    · exact (h l hl).gr.few n hn
theorem gx_vars {d : Cl} (h : ∀ l ∈ d, GLx l) : (varsC d []).length ≤ 10 := by
  refine nodup_le (m := [0, 1, 2, 3, 4, 5, 6, 7, 8, 9]) (varsC_nodup List.nodup_nil) (fun x hx => ?_)
  have := gx_few h x hx
  simp
  omega
theorem GLx.num {vs : List Int} (hl : vs.length ≤ 10) {l : Lt} (h : GLx l) : GLx (mapL (subT (bnd (numS vs))) l) :=
  ⟨gd_sub (num_gd hl) h.gl, gd_sub (num_gd hl) h.gr, by simp only [mapL]; rw [num_size h.gl.ok]; exact h.sl, by simp only [mapL]; rw [num_size h.gr.ok]; exact h.sr⟩
theorem gx_ren {d : Cl} (h : GX d) : GX (reN d) := by
  refine ⟨by rw [reN, List.length_map]; exact h.1, fun l hl => ?_⟩
  obtain ⟨x, hx, rfl⟩ := List.mem_map.1 hl
  exact (h.2 x hx).num (gx_vars h.2)
theorem gx_dist {d e : Cl} (h : GX d) (he : distC d = some e) : GX e := by
  refine ⟨?_, dist_mem (p := GLx) he (fun e he => by cases he; simp) h.2⟩
  have := dist_len (n := 0) he (fun e he => by cases he; simp)
  have := h.1
  omega
/-- What Norm tells of a clause, however great. -/
theorem norm_casesX {c : Cl} (hc : GX c) : (turnC c = none ∧ normC c = (6, [])) ∨ ∃ d, turnC c = some d ∧ GX d ∧ GX (reN d) ∧ ((distC (reN d) = none ∧ normC c = (6, [])) ∨ ∃ e, distC (reN d) = some e ∧ GX e ∧ normC c = keepC d e) := by
  cases ht : turnC c with
  | none => exact .inl ⟨rfl, by simp [normC, ht]⟩
  | some d =>
    have hd := turn_gx ht hc
    have hr := gx_ren hd
    refine .inr ⟨d, rfl, hd, hr, ?_⟩
    cases he : distC (reN d) with
    | none => exact .inl ⟨rfl, by simp [normC, ht, he]⟩
    | some e => exact .inr ⟨e, rfl, gx_dist hr he, by simp only [normC, ht, he]⟩
theorem keep_big {d e : Cl} (h : (4 < e.length ∨ 5 < (varsC d []).length) ∨ e.any bigL = true) : keepC d e = (4, []) := if_pos (by
  rcases h with (h | h) | h
  · exact .inl h
  · exact .inr (.inl h)
  · exact .inr (.inr h))
theorem keep_ok {d e : Cl} (h1 : ¬ 4 < e.length) (h2 : ¬ 5 < (varsC d []).length) (h3 : e.any bigL = false) : keepC d e = (0, e) := if_neg (by
  rintro (h | h | h)
  · exact h1 h
  · exact h2 h
  · rw [h3] at h; cases h)
theorem norm_holdsX {z : Int} {tb : List (List Int)} {c : Cl} (hc : GX c) : ((normC c).1 = 6 → holdsP z tb c) ∧ ((normC c).1 = 0 → (holdsP z tb c ↔ holdsP z tb (normC c).2)) := by
  have h1 := holds_turn (z := z) (tb := tb) (fun l hl => (hc.2 l hl).okl)
  rcases norm_casesX hc with ⟨ht, hn⟩ | ⟨d, ht, hd, hr, hn⟩
  · rw [hn]; exact ⟨fun _ => h1.2 ht, fun h => by simp at h⟩
  · have h2 := h1.1 d ht
    have h3 := holds_ren (z := z) (tb := tb) (d := d)
    have h4 := holds_dist (z := z) (tb := tb) (fun l hl => (hr.2 l hl).okl)
    rcases hn with ⟨he, hn⟩ | ⟨e, he, hE, hn⟩
    · rw [hn]; exact ⟨fun _ => h2.2 (h3.2 (h4.2 he)), fun h => by simp at h⟩
    · rw [hn]
      unfold keepC
      split
      · exact ⟨fun h => by simp at h, fun h => by simp at h⟩
      · exact ⟨fun h => by simp at h, fun _ => h2.trans (h3.trans (h4.1 e he))⟩
end Go.Proofs.YtaliegkkdhkfcacGreatDoor

namespace Go.Proofs.YtaliegkkdhkfcacGreatDoor
open Go.RowKit Go.Deep Go.ChangeShapes Go.WideShapes

set_option maxRecDepth 100000 in
set_option maxHeartbeats 4000000 in
theorem distinct_any (k : Cl) (a : Value) (w : World) (hS : CIn w k a) (hlen : k.length ≤ 1000000) :
    Calls Tryz.prog 73 #[a] w fun e w' => ∃ v er d, e = .returned (.tuple #[v, .int .i64 er]) ∧ CIn w' d v ∧ ((er = 6 ∧ d = [] ∧ distC k = none) ∨ (er = 0 ∧ distC k = some d)) ∧ Below w.heap.size w w' := by
  obtain ⟨a1, c1, b1, oo, rfl, had1, hlc1, hcm1, hF1⟩ := hS
  unfold maxLen at hcm1
  have HF1 := hide hF1
  clear hF1
  obtain ⟨iL, hi, hz0, hz1, hz2⟩ := info_parts Tryz.info57
  go_enter Tryz.func73, Tryz.ntmps73
  go_wp2_with fail
  go_loopw [4, 10] (fun v i wr => ∃ (j : Nat) (out : Cl) (o1 : Option Addr) (o3 : Nat) (xs : List Value), j ≤ k.length ∧ i = .int .i64 j ∧ v = .slice o1 out.length o3 ∧ out.length ≤ j ∧ distC (k.take j) = some out ∧ OwnL w.heap.size (XO wr v) wr out v xs ∧ Below w.heap.size w wr) (fun _ i _ => k.length - (intOf i).toNat)
  case atStart => exact ⟨0, [], none, 0, [], Nat.zero_le _, rfl, rfl, Nat.le_refl _, rfl, ownL_nil _ _, Below.refl _ _⟩
  case round =>
    obtain ⟨j, out, o1, o3, xs, hj, rfl, rfl, hol, hT, hO, hBr⟩ := hrel
    have HT := hide hT
    have HO := hide hO
    clear hT hO
    have hsr := hBr.size
    by_cases hlt : j < k.length
    · have hlt' : (j : Int) < (k.length : Int) := by omega
      obtain ⟨⟨yn, ⟨⟨yv, yi⟩, yk⟩, ⟨yv', yi'⟩, yk'⟩, hy⟩ : ∃ y, k[j]? = some y := ⟨k[j]'hlt, by simp⟩
      obtain ⟨-, -, -, ⟨u3', p3', hA0⟩, -, -, u6', p6', hD0⟩ := HF1.out.at hy
      obtain ⟨p0, p1, p2, ⟨u3, p3, hA⟩, p4, p5, u6, p6, hD⟩ := (HF1.out.below hBr).at hy
      have e3 : u3' = u3 := by have := grow_cell hBr _ _ p3'; rw [p3] at this; exact (Option.some.inj this).symm
      have e6 : u6' = u6 := by have := grow_cell hBr _ _ p6'; rw [p6] at this; exact (Option.some.inj this).symm
      subst e3 e6
      have ha1 : a1 = some ⟨b1, oo, none⟩ := had1 (by omega)
      subst ha1
      have HA := hide hA
      have HD := hide hD
      have HA0 := hide hA0.toB
      have HD0 := hide hD0.toB
      obtain ⟨ya, yc, _, _, rfl, -, -, -, -⟩ := hA
      obtain ⟨za, zc, _, _, rfl, -, -, -, -⟩ := hD
      have Hy := hide hy
      have Hstep : Hid (distC (k.take (j + 1)) = dstep (some out) (yn, ((yv, yi), yk), ((yv', yi'), yk'))) := by rw [Hid, dist_take hy, HT.out]
      have hn1 : out.length + 1 ≤ maxLen := by unfold maxLen; omega
      have hn2 : (out.length + 1) * 88 ≤ 140737488355328 := by omega
      clear hy had1 p3' p6' hA0 hD0
      simp only at *
      go_wp2_with fail
      obtain ⟨m0, m1, m2, m3, m4, m5, m6, -, hbm, -⟩ := lit_cells (T := 57) (x0 := .bool yn) (w := wr) (x1 := .bool yv) (x2 := .int .i64 yi) (x3 := .slice ya (Fo.len yk) yc) (x4 := .bool yv') (x5 := .int .i64 yi') (x6 := .slice za (Fo.len yk') zc) (Below.refl _ _)
      refine (indexD_any out (yn, ((yv, yi), yk), ((yv', yi'), yk')) wr.heap.size _ _ _ _ (HO.out.cl.below hbm) ⟨m0, m1, m2, m3, m4, m5, m6, HA.out.below hbm, HD.out.below hbm⟩).mono ?_
      rintro e w2 ⟨i, rfl, hf, hb2⟩
      obtain ⟨g0, g1, g2, g3, g4, g5, g6, gf, hb2', hlt2⟩ := lit_cells hb2
      have hB2 := below_step hBr hb2'
      clear hb2 p0 p1 p2 p3 p4 p5 p6 m0 m1 m2 m3 m4 m5 m6 hbm
      rcases hf with ⟨rfl, hf⟩ | ⟨q, f, rfl, hq, hf⟩
      · have Hst : Hid (distC (k.take (j + 1)) = some (out ++ [(yn, ((yv, yi), yk), ((yv', yi'), yk'))])) := by
          show distC _ = _
          rw [Hstep.out, dstep, Option.bind_some, hf]
        clear hf
        have hb5 : ∀ ob, Below wr.heap.size wr (w2.alloc ob) := fun ob => below_step hb2' (below_alloc _ _)
        go_wp2_with (at_builtin; refine wpList_append_gen rfl (.tmp 19) (.tmp 21) 25 rfl w.heap.size 57 iL (.agg #[.bool false, .bool false, .int .i64 0, .slice none 0 0, .bool false, .int .i64 0, .slice none 0 0]) 7 88 Tryz.underlying25 hi hz0 hz1 hz2 rfl (by decide) (.slice o1 out.length o3) out.length xs rfl (OwnL.below HO.out (hb5 _)).row _ 1 (litV (yn, ((yv, yi), yk), ((yv', yi'), yk')) (.slice ya (Fo.len yk) yc) (.slice za (Fo.len yk') zc)) rfl cs_lit hn1 hn2 (Nat.le_trans hsr (hb5 _).size) ?_; intro v4 w4 ho4 hg4 hat4)
        obtain ⟨hO4, hB4⟩ := ownL_more (l := (yn, ((yv, yi), yk), ((yv', yi'), yk'))) HO.out (hb5 _) hsr (HA0.out.kept (fun q hq => (below_step hBr (hb5 _)).block q hq)) (HD0.out.kept (fun q hq => (below_step hBr (hb5 _)).block q hq)) ho4 hg4 hat4
        obtain ⟨r1, r3, rfl⟩ := slice_of_cl hO4.cl
        have HO4 := hide hO4
        have hBB := hBr.trans hB4
        clear hO4 ho4 hg4 hat4
        go_wp2_with fail
        go_roundw
        case rel => exact ⟨j + 1, _, r1, r3, _, by omega, by go_num, rfl, by simp; omega, Hst.out, HO4.out, hBB⟩
        case measure => simp [intOf]; omega
      · have hql : q < out.length := (List.getElem?_eq_some_iff.1 hq).1
        have hql' : (q : Int) < (out.length : Int) := by omega
        have hq0 : (0 : Int) ≤ (q : Int) := by omega
        obtain ⟨fn, f⟩ := f
        have HO2 : Hid (OwnL w.heap.size (XO w2 (.slice o1 out.length o3)) w2 out (.slice o1 out.length o3) xs) := (HO.out.below hb2').wide (fun q hq => ⟨by have := hq.1; have := hb2'.size; omega, hq.2⟩) (fun _ h => h)
        obtain ⟨z1, z3, zb, zo, hze, hza, -, -, hzF⟩ := HO2.out.cl
        have hz1' : o1 = some ⟨zb, zo, none⟩ := by
          have := hza (by omega)
          simp only [Value.slice.injEq] at hze
          rw [hze.1]; exact this
        subst hz1'
        have n0 := (hzF.at hq).1
        simp only at n0
        have Hst : Hid (distC (k.take (j + 1)) = if fn = yn then some out else none) := by
          show distC _ = _
          rw [Hstep.out, dstep, Option.bind_some, hf]
        clear hf hq hze hza hzF z1 z3
        have HO3 : Hid (∀ nq, OwnL w.heap.size (XO (w2.drewN nq) (.slice (some ⟨zb, zo, none⟩) out.length o3)) (w2.drewN nq) out (.slice (some ⟨zb, zo, none⟩) out.length o3) xs) := fun nq => (HO2.out.below (below_drewN (Below.refl _ _) nq)).wide (fun q hq => ⟨Nat.lt_of_lt_of_le hq.1 (below_drewN (Below.refl w2.heap.size w2) nq).size, hq.2⟩) (fun _ h => h)
        cases fn <;> cases yn
        · have Hst2 : Hid (distC (k.take (j + 1)) = some out) := by rw [Hid, Hst.out]; rfl
          go_upto_region 8 with fail
          go_quiet (fail)
          go_wp2_with fail
          go_roundw
          case rel => exact ⟨j + 1, _, _, o3, _, by omega, by go_num, rfl, by omega, Hst2.out, HO3.out _, below_drewN hB2 _⟩
          case measure => simp [intOf]; omega
        · have Hst2 : Hid (distC k = none) := dist_stop (j := j + 1) (by rw [Hst.out]; rfl)
          go_upto_region 8 with fail
          go_quiet (fail)
          go_wp2_with fail
          go_ret2
          exact ⟨_, _, [], rfl, CIn.nil _, .inl ⟨rfl, rfl, Hst2.out⟩, below_drewN hB2 _⟩
        · have Hst2 : Hid (distC k = none) := dist_stop (j := j + 1) (by rw [Hst.out]; rfl)
          go_upto_region 8 with fail
          go_quiet (fail)
          go_wp2_with fail
          go_ret2
          exact ⟨_, _, [], rfl, CIn.nil _, .inl ⟨rfl, rfl, Hst2.out⟩, below_drewN hB2 _⟩
        · have Hst2 : Hid (distC (k.take (j + 1)) = some out) := by rw [Hid, Hst.out]; rfl
          go_upto_region 8 with fail
          go_quiet (fail)
          go_wp2_with fail
          go_roundw
          case rel => exact ⟨j + 1, _, _, o3, _, by omega, by go_num, rfl, by omega, Hst2.out, HO3.out _, below_drewN hB2 _⟩
          case measure => simp [intOf]; omega
    · have hje : j = k.length := by omega
      have Hfin : Hid (distC k = some out) := by
        have := HT.out
        rw [hje, List.take_length] at this
        exact this
      clear had1
      go_wp2_with fail
      go_ret2
      exact ⟨_, _, out, rfl, HO.out.cl, .inr ⟨rfl, Hfin.out⟩, hBr⟩

end Go.Proofs.YtaliegkkdhkfcacGreatDoor

namespace Go.Proofs.YtaliegkkdhkfcacGreatDoor
open Go.RowKit Go.Deep Go.ChangeShapes Go.WideShapes

/-- So much of the bindings is made. -/
def PkRel (g : Nat) (W2 : World) (S : Sb) (j : Nat) (wr : World) : Prop :=
  Below g W2 wr ∧ There wr g (S.length * 4) ∧ g + 1 ≤ wr.heap.size ∧ ∃ xs, PC (fun q => g + 1 ≤ q ∧ q < wr.heap.size) wr (S.take j) xs ∧ ∀ i, i < xs.length → wr.cell? ⟨g, i, none⟩ = xs[i]?
theorem pk_start {W2 : World} {S : Sb} {z : Array Value} : PkRel W2.heap.size W2 S 0 (W2.alloc (.cells (madeCells z (S.length * 4)) 73)) := by
  refine ⟨below_alloc _ _, fun i hi => ⟨?_, frozen_new _ _ _ _⟩, by simp, [], rfl, fun i hi => by simp at hi⟩
  have hs : i < (madeCells z (S.length * 4)).size := by simp [madeCells]; exact hi
  exact ⟨(madeCells z (S.length * 4))[i], by simp [hs]⟩
theorem pk_step {g : Nat} {W2 wr : World} {S : Sb} {j : Nat} {n m : Int} (h : PkRel g W2 S j wr) (hl : S[j]? = some (n, vr m)) : PkRel g W2 S (j + 1) (setL wr g (j * 4) [.int .i64 n, .bool true, .int .i64 m, .slice none 0 0]) := by
  obtain ⟨hB, hT2, hs, xs, hX, hc⟩ := h
  have hj : j < S.length := (List.getElem?_eq_some_iff.1 hl).1
  have hxl : xs.length = j * 4 := by rw [hX.len, List.length_take]; rw [Nat.min_eq_left (by omega)]
  have at7 := setL_at (b := g) (xs := [.int .i64 n, .bool true, .int .i64 m, .slice none 0 0]) (o := j * 4) (w := wr) (fun i hi => (hT2 (j * 4 + i) (by simp at hi; omega)).1)
  refine ⟨setL_below (Nat.le_refl _) hB, fun i hi => ?_, by rw [setL_size]; omega, xs ++ [.int .i64 n, .bool true, .int .i64 m, .slice none 0 0], ?_, fun i hi => ?_⟩
  · obtain ⟨⟨v, hv⟩, hf⟩ := hT2 i hi
    refine ⟨?_, by rw [setL_frozen]; exact hf⟩
    by_cases hc : i < j * 4 ∨ j * 4 + 4 ≤ i
    · exact ⟨v, by rw [setL_other (.inr hc)]; exact hv⟩
    · obtain ⟨q, rfl⟩ : ∃ q, i = j * 4 + q := ⟨i - j * 4, by omega⟩
      exact ⟨_, at7 q _ (List.getElem?_eq_getElem (by simp; omega))⟩
  · rw [List.take_add_one, hl]
    refine PC.append (PC.one (t := vr m) (SB.nil _ _)) ?_
    refine hX.frame (fun q hq => ⟨by omega, by rw [setL_size]; omega⟩) (fun q i hq => setL_other (.inl (by omega)))
  · rw [List.getElem?_append]
    by_cases hc' : i < xs.length
    · rw [if_pos hc', setL_other (.inr (.inl (by omega)))]
      exact hc i hc'
    · rw [if_neg hc']
      have hi' : i - xs.length < 4 := by simp at hi; omega
      have := at7 (i - xs.length) _ (List.getElem?_eq_getElem (by simpa using hi'))
      rw [show j * 4 + (i - xs.length) = i by omega] at this
      rw [this, List.getElem?_eq_getElem (by simpa using hi')]
theorem pk_end {g : Nat} {W2 wr : World} {S : Sb} (h : PkRel g W2 S S.length wr) (hm : S.length ≤ maxLen) : SubIn wr S (.slice (some ⟨g, 0, none⟩) S.length S.length) := by
  obtain ⟨_, _, _, xs, hX, hc⟩ := h
  rw [List.take_length] at hX
  exact ⟨_, _, g, 0, rfl, fun _ => rfl, Nat.le_refl _, hm, hX.at (fun j hj => by rw [Nat.zero_add]; exact hc j hj)⟩
theorem num_len (vs : List Int) : (numS vs).length = vs.length := by simp [numS]
theorem num_at {vs : List Int} {j : Nat} (h : j < vs.length) : (numS vs)[j]? = some (vs.getD j 0, vr j) := by
  simp [numS, List.getD_eq_getElem?_getD, h]
theorem num_all (vs : List Int) : ∀ p ∈ numS vs, narT p.2 ∧ okT p.2 := fun p hp => by
  simp only [numS, List.mem_mapIdx] at hp
  obtain ⟨i, hi, rfl⟩ := hp
  exact ⟨nar_vr _, ok_vr _⟩

set_option maxRecDepth 100000 in
set_option maxHeartbeats 4000000 in
theorem number_any (k : Cl) (a : Value) (vs : List Int) (vv : Value) (w : World) (hS : CIn w k a) (hN : NIn w vs vv) (hn : ∀ l ∈ k, narT l.2.1 ∧ narT l.2.2) (hlen : k.length ≤ 1000000) (hvl : vs.length ≤ 1000000) :
    Calls Tryz.prog 74 #[a, vv] w fun e w' => ∃ g, e = .returned (.slice (some ⟨g, 0, none⟩) k.length k.length) ∧ CIn w' (k.map (mapL (subT (bnd (numS vs))))) (.slice (some ⟨g, 0, none⟩) k.length k.length) ∧ Below w.heap.size w w' := by
  have HS := hide hS
  obtain ⟨a1, a3, rfl⟩ := slice_of_cl hS
  obtain ⟨n1, n3, nb, no, rfl, hna, hnlc, hncm, hnF⟩ := hN
  unfold maxLen at hncm
  have HnF := hide hnF
  have Hn := hide hn
  clear hS hnF hn
  obtain ⟨iP, hi, hz0, hz1, hz2⟩ := info_parts Tryz.info73
  have hmk := fun w : World => run_make (P := Tryz.prog) w 59 73 iP _ Tryz.underlying59 hi hz0 .i64 .i64 (vs.length : Int) (vs.length : Int) (by omega) (by omega) (by rw [hz2]; omega) (by omega)
  rw [hz1] at hmk
  simp only [Int.toNat_natCast] at hmk
  go_enter Tryz.func74, Tryz.ntmps74
  go_wp2_with fail
  clear hmk hi hz0 hz1 hz2
  have H0 : Hid (PkRel w.heap.size w (numS vs) 0 (w.alloc (.cells (madeCells #[.int .i64 0, .bool false, .int .i64 0, .slice none 0 0] (vs.length * 4)) 73))) := by
    have := pk_start (W2 := w) (S := numS vs) (z := #[.int .i64 0, .bool false, .int .i64 0, .slice none 0 0])
    rw [num_len] at this
    exact this
  go_loopw [13] (fun i wr => ∃ j : Nat, j ≤ vs.length ∧ i = .int .i64 j ∧ PkRel w.heap.size w (numS vs) j wr) (fun i _ => vs.length - (intOf i).toNat)
  case atStart => exact ⟨0, Nat.zero_le _, rfl, H0.out⟩
  case round =>
    obtain ⟨j, hj, rfl, hR⟩ := hrel
    have HR := hide hR
    obtain ⟨hB, hT, hsz, -⟩ := hR
    have hBw : Below w.heap.size w wr := hB
    by_cases hlt : j < vs.length
    · have hlt' : (j : Int) < (vs.length : Int) := by omega
      have hj0 : (0 : Int) ≤ (j : Int) := by omega
      have hc := grow_cell hBw _ _ (HnF.out j hlt)
      have ha : n1 = some ⟨nb, no, none⟩ := hna (by omega)
      subst ha
      have hT' : There wr w.heap.size (vs.length * 4) := by rw [num_len] at hT; exact hT
      obtain ⟨⟨t0, e0⟩, f0⟩ := hT' (j * 4) (by omega)
      obtain ⟨⟨t1, e1⟩, f1⟩ := hT' (j * 4 + 1) (by omega)
      obtain ⟨⟨t2, e2⟩, f2⟩ := hT' (j * 4 + 2) (by omega)
      obtain ⟨⟨t3, e3⟩, f3⟩ := hT' (j * 4 + 3) (by omega)
      have Hstep := hide (pk_step HR.out (num_at hlt))
      generalize vs.getD j 0 = nn at *
      clear hna hT hT' hB
      go_wp2_with fail
      go_roundw
      case rel => exact ⟨j + 1, by omega, by go_num, Hstep.out⟩
      case measure => simp [intOf]; omega
    · have hje : j = vs.length := by omega
      have Hfin : Hid (SubIn wr (numS vs) (.slice (some ⟨w.heap.size, 0, none⟩) vs.length vs.length)) := by
        have h1 := HR.out
        have e : j = (numS vs).length := by rw [num_len]; exact hje
        rw [e] at h1
        have := pk_end h1 (by rw [num_len]; unfold maxLen; omega)
        rw [num_len] at this
        exact this
      clear hna hT hB
      go_wp2_with fail
      refine (applyC_any (numS vs) _ k _ wr Hfin.out (num_all vs) (HS.out.below hBw) Hn.out hlen).mono ?_
      rintro e w2 ⟨g, rfl, hC, hb2⟩
      have HC := hide hC
      have hB2 := below_step hBw hb2
      clear hC hb2
      go_wp2_with fail
      go_ret
      exact ⟨g, rfl, HC.out, hB2⟩

end Go.Proofs.YtaliegkkdhkfcacGreatDoor

namespace Go.Proofs.YtaliegkkdhkfcacGreatDoor
open Go.RowKit Go.Deep Go.ChangeShapes Go.WideShapes

theorem nin_vals {w : World} {lo : Nat} {T : List Int} {v : Value} (h : w.ownsRow lo 3 1 v T.length (vals T)) : NIn w T v := own_nin h
theorem nin_nil (w : World) : NIn w [] (.slice none 0 0) := own_nin (lo := 0) (World.ownsRow_nil _ _ _ _)
theorem varsT_grow (x : Bool × Int) (k : Fo) (v : List Int) : v.length ≤ (varsT x k v).length := by
  have key : ∀ (F : Fo) (v : List Int), v.length ≤ (varsF F v).length := by
    intro F
    induction F with
    | nil => intro v; exact Nat.le_refl _
    | node p q y l r ihl ihr =>
      intro v
      have h1 : v.length ≤ (varsT y l v).length := by
        unfold varsT
        split
        · split
          · exact Nat.le_refl _
          · simp
        · exact ihl v
      exact Nat.le_trans h1 (ihr (varsT y l v))
  unfold varsT
  split
  · split
    · exact Nat.le_refl _
    · simp
  · exact key k v
theorem varsC_grow (c : Cl) (j : Nat) (v : List Int) : (varsC (c.take j) v).length ≤ (varsC c v).length := by
  have key : ∀ (c : Cl) (v : List Int), v.length ≤ (varsC c v).length := by
    intro c
    induction c with
    | nil => intro v; exact Nat.le_refl _
    | cons l c ih =>
      intro v
      have h1 := varsT_grow l.2.1.1 l.2.1.2 v
      have h2 := varsT_grow l.2.2.1 l.2.2.2 (varsT l.2.1.1 l.2.1.2 v)
      have h3 := ih (varsL l v)
      have e : varsC (l :: c) v = varsC c (varsL l v) := rfl
      rw [e]
      simp only [varsL] at h3 ⊢
      omega
  have e : varsC c v = varsC (c.drop j) (varsC (c.take j) v) := by
    have h : varsC (c.take j ++ c.drop j) v = varsC (c.drop j) (varsC (c.take j) v) := List.foldl_append
    rw [List.take_append_drop] at h
    exact h
  rw [e]
  exact key _ _
set_option maxRecDepth 100000 in
set_option maxHeartbeats 2000000 in
theorem varsCR_any (k : Cl) (a : Value) (w : World) (hS : CIn w k a) (hb : (varsC k []).length ≤ 1000000000000) :
    Calls Tryz.prog 19 #[a] w fun e w' => ∃ v, e = .returned v ∧ NIn w' (varsC k []) v ∧ Below w.heap.size w w' := by
  obtain ⟨a1, c1, b1, o1, rfl, had1, hlc1, hcm1, hF1⟩ := hS
  unfold maxLen at hcm1
  have HF1 := hide hF1
  clear hF1
  go_enter Tryz.func19, Tryz.ntmps19
  go_wp2_with fail
  go_loopw [3, 8] (fun v i wr => ∃ (j : Nat) (z1 : Option Addr) (n z3 : Nat), j ≤ k.length ∧ i = .int .i64 j ∧ v = .slice z1 n z3 ∧ NIn wr (varsC (k.take j) []) v ∧ Below w.heap.size w wr) (fun _ i _ => k.length - (intOf i).toNat)
  case atStart => exact ⟨0, none, 0, 0, Nat.zero_le _, rfl, rfl, nin_nil _, Below.refl _ _⟩
  case round =>
    obtain ⟨j, z1, n, z3, hj, rfl, rfl, hV, hBr⟩ := hrel
    have HV := hide hV
    clear hV
    by_cases hlt : j < k.length
    · have hlt' : (j : Int) < (k.length : Int) := by omega
      obtain ⟨⟨yn, ⟨⟨yv, yi⟩, yk⟩, ⟨yv', yi'⟩, yk'⟩, hy⟩ : ∃ y, k[j]? = some y := ⟨k[j]'hlt, by simp⟩
      obtain ⟨p0, p1, p2, ⟨u3, p3, hA⟩, p4, p5, u6, p6, hD⟩ := (HF1.out.below hBr).at hy
      have ha1 : a1 = some ⟨b1, o1, none⟩ := had1 (by omega)
      subst ha1
      have HA := hide hA
      have HD := hide hD
      obtain ⟨_, _, _, _, rfl, -, -, -, -⟩ := hA
      obtain ⟨_, _, _, _, rfl, -, -, -, -⟩ := hD
      have Hy := hide hy
      have Hln : Hid ((varsT (yv, yi) yk (varsC (k.take j) [])).length ≤ 1000000000000 ∧ (varsT (yv', yi') yk' (varsT (yv, yi) yk (varsC (k.take j) []))).length ≤ 1000000000000) := by
        have h1 := varsC_take (v := []) hy
        have h2 := varsC_grow k (j + 1) []
        have h3 := varsT_grow (yv', yi') yk' (varsT (yv, yi) yk (varsC (k.take j) []))
        rw [h1] at h2
        simp only [varsL] at h2
        exact ⟨by omega, by omega⟩
      clear hy had1
      simp only at *
      go_wp2_with fail
      refine (varsR_few (yv, yi) yk _ (varsC (k.take j) []) _ _ _ rfl (HA.out.alloc _) (HV.out.alloc _) (by have := Hln.out.1; omega)).mono ?_
      rintro e w2 ⟨v2, rfl, hV2, hb2⟩
      obtain ⟨-, -, -, -, e4, e5, e6, -, hb2', -⟩ := lit_cells hb2
      have hB2 := below_step hBr hb2'
      have HD2 := hide (HD.out.below hb2')
      have HV2 := hide hV2
      obtain ⟨y1, y3, rfl⟩ := nin_slice hV2
      have Hl2 := hide (varsT_len (yv, yi) yk (varsC (k.take j) []))
      clear hb2 hV2
      go_wp2_with fail
      refine (varsR_few (yv', yi') yk' _ (varsT (yv, yi) yk (varsC (k.take j) [])) _ _ _ rfl HD2.out HV2.out (by have := Hln.out.2; omega)).mono ?_
      rintro e w3 ⟨v3, rfl, hV3, hb3⟩
      have hB3 := below_step hB2 hb3
      have HV3 := hide hV3
      obtain ⟨x1, x3, rfl⟩ := nin_slice hV3
      clear hV3
      go_wp2_with fail
      go_roundw
      case rel => exact ⟨j + 1, x1, _, x3, by omega, by go_num, rfl, by rw [varsC_take Hy.out]; exact HV3.out, hB3⟩
      case measure => simp [intOf]; omega
    · have Hfin : Hid (NIn wr (varsC k []) (.slice z1 n z3)) := by
        have e : j = k.length := by omega
        have := HV.out
        rw [e, List.take_length] at this
        exact this
      clear had1
      go_wp2_with fail
      go_ret
      exact ⟨_, rfl, Hfin.out, hBr⟩

set_option maxRecDepth 100000 in
set_option maxHeartbeats 2000000 in
theorem varsCl_any (k : Cl) (a : Value) (w : World) (hS : CIn w k a) (hb : (varsC k []).length ≤ 1000000000000) :
    Calls Tryz.prog 72 #[a] w fun e w' => ∃ v, e = .returned v ∧ NIn w' (varsC k []) v ∧ Below w.heap.size w w' := by
  obtain ⟨a1, c1, b1, o1, rfl, had1, hlc1, hcm1, hF1⟩ := hS
  unfold maxLen at hcm1
  have HF1 := hide hF1
  clear hF1
  go_enter Tryz.func72, Tryz.ntmps72
  go_wp2_with fail
  go_loopw [3, 8] (fun v i wr => ∃ (j : Nat) (z1 : Option Addr) (n z3 : Nat), j ≤ k.length ∧ i = .int .i64 j ∧ v = .slice z1 n z3 ∧ NIn wr (varsC (k.take j) []) v ∧ Below w.heap.size w wr) (fun _ i _ => k.length - (intOf i).toNat)
  case atStart => exact ⟨0, none, 0, 0, Nat.zero_le _, rfl, rfl, nin_nil _, Below.refl _ _⟩
  case round =>
    obtain ⟨j, z1, n, z3, hj, rfl, rfl, hV, hBr⟩ := hrel
    have HV := hide hV
    clear hV
    by_cases hlt : j < k.length
    · have hlt' : (j : Int) < (k.length : Int) := by omega
      obtain ⟨⟨yn, ⟨⟨yv, yi⟩, yk⟩, ⟨yv', yi'⟩, yk'⟩, hy⟩ : ∃ y, k[j]? = some y := ⟨k[j]'hlt, by simp⟩
      obtain ⟨p0, p1, p2, ⟨u3, p3, hA⟩, p4, p5, u6, p6, hD⟩ := (HF1.out.below hBr).at hy
      have ha1 : a1 = some ⟨b1, o1, none⟩ := had1 (by omega)
      subst ha1
      have HA := hide hA
      have HD := hide hD
      obtain ⟨ya, yc, _, _, rfl, -, -, -, -⟩ := hA
      obtain ⟨za, zc, _, _, rfl, -, -, -, -⟩ := hD
      have Hy := hide hy
      have Hln : Hid ((varsT (yv, yi) yk (varsC (k.take j) [])).length ≤ 1000000000000 ∧ (varsT (yv', yi') yk' (varsT (yv, yi) yk (varsC (k.take j) []))).length ≤ 1000000000000) := by
        have h1 := varsC_take (v := []) hy
        have h2 := varsC_grow k (j + 1) []
        have h3 := varsT_grow (yv', yi') yk' (varsT (yv, yi) yk (varsC (k.take j) []))
        rw [h1] at h2
        simp only [varsL] at h2
        exact ⟨by omega, by omega⟩
      have Hl2 := hide (varsT_len (yv, yi) yk (varsC (k.take j) []))
      clear hy had1
      simp only at *
      go_upto_region 5 with fail
      generalize hwa : wr.alloc (.cells #[.bool yn, .bool yv, .int .i64 yi, .slice ya (Fo.len yk) yc, .bool yv', .int .i64 yi', .slice za (Fo.len yk') zc] 57) = wa
      obtain ⟨-, g1, g2, g3, g4, g5, g6, -, hba, -⟩ := lit_cells (T := 57) (x0 := .bool yn) (w := wr) (wr := wa) (x1 := .bool yv) (x2 := .int .i64 yi) (x3 := .slice ya (Fo.len yk) yc) (x4 := .bool yv') (x5 := .int .i64 yi') (x6 := .slice za (Fo.len yk') zc) (by rw [hwa]; exact Below.refl _ _)
      clear hwa
      have HAa := hide (HA.out.below hba)
      have HDa := hide (HD.out.below hba)
      have HVa := hide (HV.out.below hba)
      have hcur : Below wa.heap.size wa wa.drew := (Below.refl _ _).drew
      go_region_held3 (fun w' => w'.cell? ⟨wr.heap.size, 1, none⟩ = some (.bool yv) ∧ w'.cell? ⟨wr.heap.size, 2, none⟩ = some (.int .i64 yi) ∧ w'.cell? ⟨wr.heap.size, 3, none⟩ = some (.slice ya (Fo.len yk) yc) ∧ w'.cell? ⟨wr.heap.size, 4, none⟩ = some (.bool yv') ∧ w'.cell? ⟨wr.heap.size, 5, none⟩ = some (.int .i64 yi') ∧ w'.cell? ⟨wr.heap.size, 6, none⟩ = some (.slice za (Fo.len yk') zc))
          (first
            | (with_reducible exact ⟨grow_cell hcur _ _ g1, grow_cell hcur _ _ g2, grow_cell hcur _ _ g3, grow_cell hcur _ _ g4, grow_cell hcur _ _ g5, grow_cell hcur _ _ g6⟩)
            | go_keep)
          (first
            | (go_at_call 66; with_reducible refine (vars_few (yv, yi) yk (.slice ya (Fo.len yk) yc) (varsC (k.take j) []) (.slice z1 n z3) _ _ rfl (HAa.out.below hcur) (HVa.out.below hcur) (by have := Hln.out.1; omega)).mono ?_; rintro e wS ⟨vS, rfl, hoS, hbS⟩; replace hcur := below_step hcur hbS; have HoS := hide (nin_vals hoS); obtain ⟨y1, y3, rfl⟩ := nin_slice HoS.out; clear hoS)
            | (go_at_call 66; with_reducible refine (vars_few (yv', yi') yk' (.slice za (Fo.len yk') zc) (varsT (yv, yi) yk (varsC (k.take j) [])) _ _ _ rfl (HDa.out.below hcur) (HoS.out.below ?_) (by have := Hln.out.2; omega)).mono ?_; (first | exact Below.refl _ _ | exact (Below.refl _ _).drew); rintro e wU ⟨vU, rfl, hoU, hbU⟩; replace hcur := below_step hcur hbU; have HoU := hide (nin_vals hoU); obtain ⟨x1, x3, rfl⟩ := nin_slice HoU.out; clear hoU))
      all_goals
        have hB2 := below_step hBr (below_step hba hcur)
        go_wp2_with fail
        go_roundw
        case rel => exact ⟨j + 1, _, _, _, by omega, by go_num, rfl, by rw [varsC_take Hy.out]; exact HoU.out, hB2⟩
        case measure => simp [intOf]; omega
    · have Hfin : Hid (NIn wr (varsC k []) (.slice z1 n z3)) := by
        have e : j = k.length := by omega
        have := HV.out
        rw [e, List.take_length] at this
        exact this
      clear had1
      go_wp2_with fail
      go_ret
      exact ⟨_, rfl, Hfin.out, hBr⟩

end Go.Proofs.YtaliegkkdhkfcacGreatDoor
