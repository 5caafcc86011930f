/- BSz D6f RegInv D6g Tells Stays3P -/
import Derived.Test.YtaliegkkdhkfcacGreatG15
import Derived.Test.YtaliegkkdhkfcacGreatRows
import Derived.WalkKit
import Derived.RegionTactic
import Derived.Deep.DeepCutAuto
namespace Go.Proofs.YtaliegkkdhkfcacGreat
open Go.RowKit Go.Deep Go.ChangeShapes Go.WideShapes
def OrT (N : Nat) (s : Sb) (t : Tm) : Prop := ∃ u, okT u ∧ szT u ≤ N ∧ subT (bnd s) t = subT (bnd s) u
def OrB (N : Nat) (s : Sb) (t : Tm) : Prop := ∃ u, okT u ∧ szT u ≤ N ∧ t = subT (bnd s) u ∧ (u.1.1 = true → look s u.1.2 = none)
structure Org (N : Nat) (s : Sb) (L : List (Tm × Tm)) : Prop where
  ol : ∀ p ∈ L, OrT N s p.1 ∧ OrT N s p.2
  ob : ∀ p ∈ s, OrB N s p.2
theorem or_res {N : Nat} {s : Sb} (ho : ∀ p ∈ s, OrB N s p.2) {t : Tm} (ht : OrT N s t) : OrB N s (subT (bnd s) t) := by
  obtain ⟨u, h1, h2, h3⟩ := ht
  by_cases hv : u.1.1 = true
  · cases e : look s u.1.2 with
    | none => exact ⟨u, h1, h2, h3, fun _ => e⟩
    | some v =>
      obtain ⟨u', k1, k2, k3, k4⟩ := ho _ (look_mem e)
      refine ⟨u', k1, k2, ?_, k4⟩
      rw [h3]
      have : subT (bnd s) u = v := by
        unfold subT
        rw [if_pos hv]
        exact bnd_some e
      rw [this]
      exact k3
  · exact ⟨u, h1, h2, h3, fun e => absurd e hv⟩
theorem org_add {N : Nat} {s s' : Sb} {p : Tm × Tm} {L : List (Tm × Tm)} {x y : Tm} (h : UI s (p :: L)) (ho : Org N s (p :: L)) (hxy : x = top s p.1 ∧ y = top s p.2 ∨ x = top s p.2 ∧ y = top s p.1) (hv : x.1.1 = true) (ha : addS s x.1.2 (subT (bnd s) y) = some s') : Org N s' L := by
  obtain ⟨_, _, f1, f2⟩ := step_add h hxy hv ha
  have hp := h.gL p (by simp)
  have hgy : Gd y := by rcases hxy with ⟨_, rfl⟩ | ⟨_, rfl⟩; exact gd_top h.gs hp.2; exact gd_top h.gs hp.1
  have hfree : look s x.1.2 = none := by rcases hxy with ⟨rfl, _⟩ | ⟨rfl, _⟩ <;> exact top_free h.idem hv
  have hgt := gd_sub h.gs hgy
  obtain ⟨_, _, _, _, f5⟩ := add_facts ha h.idem hfree hgt.ok (fun m hm => sub_free h.idem hm)
  have hr : ∀ u, subT (bnd s') u = subT (bnd [(x.1.2, subT (bnd s) y)]) (subT (bnd s) u) := fun u => by
    rw [← ref_sub f1, f5 _ (fun m hm => sub_free h.idem hm)]
  have hOy : OrB N s (subT (bnd s) y) := by
    have hpo := ho.ol p (by simp)
    rcases hxy with ⟨_, rfl⟩ | ⟨_, rfl⟩
    · rw [top_sub h.idem (ui_ok h)]; exact or_res ho.ob hpo.2
    · rw [top_sub h.idem (ui_ok h)]; exact or_res ho.ob hpo.1
  obtain ⟨u, u1, u2, u3, u4⟩ := hOy
  have hno := (addS_some ha).1
  have hl : look s' x.1.2 = some (subT (bnd s) y) := by rw [add_look ha, hfree]; simp
  -- what is new, by all that is bound then
  have hy' : subT (bnd s) y = subT (bnd s') u := by
    have e1 : bnd s' x.1.2 = subT (bnd s) y := bnd_some hl
    rw [← ref_sub f1 u, ← u3, ref_sub f1 y, ← f2, e1]
  have hu' : u.1.1 = true → look s' u.1.2 = none := fun e => by
    have hne : x.1.2 ≠ u.1.2 := fun e' => hno (by
      rw [u3]
      have : subT (bnd s) u = vr u.1.2 := by
        unfold subT
        rw [if_pos e]
        exact bnd_none (u4 e)
      rw [this, occ_vr]
      exact e'.symm)
    rw [add_look ha, u4 e]
    simp [hne]
  refine ⟨fun q hq => ?_, fun q hq => ?_⟩
  · obtain ⟨⟨a, a1, a2, a3⟩, ⟨b, b1, b2, b3⟩⟩ := ho.ol q (by simp [hq])
    exact ⟨⟨a, a1, a2, by rw [← ref_sub f1 q.1, a3, ref_sub f1]⟩, ⟨b, b1, b2, by rw [← ref_sub f1 q.2, b3, ref_sub f1]⟩⟩
  · rw [(addS_some ha).2, List.mem_append, List.mem_map, List.mem_singleton] at hq
    rcases hq with ⟨q, hq, rfl⟩ | rfl
    · obtain ⟨a, a1, a2, a3, a4⟩ := ho.ob q hq
      by_cases hav : a.1.1 = true ∧ a.1.2 = x.1.2
      · refine ⟨u, u1, u2, ?_, hu'⟩
        have e1 : q.2 = vr x.1.2 := by
          rw [a3]
          unfold subT
          rw [if_pos hav.1, ← hav.2]
          exact bnd_none (a4 hav.1)
        show subT (bnd [(x.1.2, subT (bnd s) y)]) q.2 = _
        rw [e1, ← hy']
        show bnd [(x.1.2, subT (bnd s) y)] x.1.2 = _
        rw [bnd_one, if_pos rfl]
      · refine ⟨a, a1, a2, ?_, fun e => ?_⟩
        · show subT (bnd [(x.1.2, subT (bnd s) y)]) q.2 = _
          rw [a3, ← hr]
        · have hne : x.1.2 ≠ a.1.2 := fun e' => hav ⟨e, e'.symm⟩
          rw [add_look ha, a4 e]
          simp [hne]
    · exact ⟨u, u1, u2, hy', hu'⟩
theorem org_kids {N : Nat} {s : Sb} {L : List (Tm × Tm)} (h : UI s L) (ho : ∀ p ∈ s, OrB N s p.2) {t : Tm} (ht : OrT N s t) (e1 : ¬ (top s t).1.1 = true) : ∀ c ∈ (top s t).2.list, OrT N s c := by
  obtain ⟨u, u1, u2, u3, u4⟩ := or_res ho ht
  rw [← top_sub h.idem (ui_ok h) t, sym_eq e1, subT_sym] at u3
  have hu : ¬ u.1.1 = true := fun e => by
    have : subT (bnd s) u = vr u.1.2 := by
      unfold subT
      rw [if_pos e]
      exact bnd_none (u4 e)
    rw [this] at u3
    have := congrArg (fun t : Tm => t.1.1) u3
    simp [vr] at this
  rw [sym_eq hu, subT_sym] at u3
  have hF : subF (bnd s) (top s t).2 = subF (bnd s) u.2 := congrArg Prod.snd u3
  have hL : (top s t).2.list.map (subT (bnd s)) = u.2.list.map (subT (bnd s)) := by rw [← subF_list, ← subF_list, hF]
  intro c hc
  obtain ⟨i, hi, rfl⟩ := List.mem_iff_getElem.1 hc
  have hlen : (top s t).2.list.length = u.2.list.length := by
    have := congrArg List.length hL
    simpa using this
  have hi' : i < u.2.list.length := by omega
  refine ⟨u.2.list[i], ok_mem u1.2 (List.getElem_mem _), ?_, ?_⟩
  · have : szT u.2.list[i] < szT (u.1, u.2) := sz_mem (List.getElem_mem _)
    have e : szT (u.1, u.2) = szT u := rfl
    omega
  · have h1 : ((top s t).2.list.map (subT (bnd s)))[i]? = (u.2.list.map (subT (bnd s)))[i]? := by rw [hL]
    rw [List.getElem?_map, List.getElem?_map, List.getElem?_eq_getElem hi, List.getElem?_eq_getElem hi'] at h1
    simpa using h1
theorem org_step {N : Nat} {s s' : Sb} {p : Tm × Tm} {L L' : List (Tm × Tm)} (h : UI s (p :: L)) (ho : Org N s (p :: L)) (hst : stepU s p.1 p.2 L = some (s', L')) : Org N s' L' := by
  rcases stepU_cases hst with ⟨_, _, _, rfl, rfl⟩ | ⟨x, y, hxy, hv, ha, rfl⟩ | ⟨e1, e2, _, hl, rfl, rfl⟩
  · exact ⟨fun q hq => ho.ol q (by simp [hq]), ho.ob⟩
  · exact org_add h ho hxy hv ha
  · have hpo := ho.ol p (by simp)
    refine ⟨fun q hq => ?_, ho.ob⟩
    rw [List.mem_append] at hq
    rcases hq with hq | hq
    · have := List.of_mem_zip hq
      exact ⟨org_kids h ho.ob hpo.1 e1 _ this.1, org_kids h ho.ob hpo.2 e2 _ this.2⟩
    · exact ho.ol q (by simp [hq])
theorem org_run {N : Nat} : ∀ (n : Nat) (s s' : Sb) (L : List (Tm × Tm)), UI s L → Org N s L → runU n s L = some (some s') → UI s' [] ∧ Org N s' [] := by
  intro n
  induction n with
  | zero => intro s s' L _ _ hr; simp [runU] at hr
  | succ n ih =>
    intro s s' L h ho hr
    cases L with
    | nil =>
      simp only [runU, Option.some.injEq] at hr
      subst hr
      exact ⟨h, ho⟩
    | cons p L =>
      cases hst : stepU s p.1 p.2 L with
      | none => simp [runU, hst] at hr
      | some q =>
        obtain ⟨s1, L1⟩ := q
        simp only [runU, hst] at hr
        exact ih s1 s' L1 (step_keeps h hst).1 (org_step h ho hst) hr
theorem sub_leF {f : Int → Tm} {M : Nat} (hM : 1 ≤ M) : ∀ {F : Fo}, Fo.ok F → (∀ n, occF n F → szT (f n) ≤ M) → Fo.sizesR (subF f F) ≤ Fo.sizesR F * M
  | .nil, _, _ => by simp [subF, Fo.sizesR]
  | .node p q ⟨v, m⟩ k r, ho, h => by
    obtain ⟨_, _, h3, h4⟩ := ok_node.1 ho
    have hr := sub_leF hM h4 (fun n hn => h n (by rw [occF]; exact .inr hn))
    rw [subF_node]
    simp only [Fo.sizesR]
    cases v with
    | true =>
      have hk : k = .nil := h3.1 rfl
      subst hk
      have := h m (by rw [occF]; exact .inl (by simp))
      simp only [subT_var, szT, tszR] at this ⊢
      simp only [Fo.sizesR, Nat.add_mul, Nat.zero_mul, Nat.one_mul]
      omega
    | false =>
      have hk := sub_leF hM (F := k) h3.2 (fun n hn => h n (by rw [occF]; exact .inl (by simpa using hn)))
      simp only [subT_sym, Nat.add_mul, Nat.one_mul]
      omega
theorem sub_le {f : Int → Tm} {M : Nat} (hM : 1 ≤ M) {t : Tm} (ho : okT t) (h : ∀ n, occT n t → szT (f n) ≤ M) : szT (subT f t) ≤ szT t * M := by
  obtain ⟨⟨v, m⟩, k⟩ := t
  cases v with
  | true =>
    rw [subT_var]
    have := h m (by simp [occT])
    have h1 : 1 ≤ szT ((true, m), k) := by simp only [szT, tszR]; omega
    have := Nat.mul_le_mul_right M h1
    omega
  | false =>
    rw [subT_sym]
    have := sub_leF hM (F := k) ho.2 (fun n hn => h n (by simp [occT, hn]))
    simp only [szT, tszR, Nat.add_mul, Nat.one_mul]
    omega
theorem countS_less {f g : Int × Tm → Bool} {a : Int × Tm} : ∀ {l : Sb}, (∀ x, g x = true → f x = true) → a ∈ l → f a = true → g a = false → l.countP g < l.countP f
  | [], _, h, _, _ => by cases h
  | y :: r, hfg, h, hf, hg => by
    have hle : r.countP g ≤ r.countP f := List.countP_mono_left (fun x _ hx => hfg x hx)
    rw [List.countP_cons, List.countP_cons]
    rcases List.mem_cons.1 h with rfl | h
    · rw [hf, hg]; simp; omega
    · have := countS_less (l := r) hfg h hf hg
      by_cases hy : g y = true
      · rw [hy, hfg y hy]; simp; omega
      · have : g y = false := by simpa using hy
        rw [this]
        simp only [Bool.false_eq_true, if_false]
        split <;> omega
def rnk (s : Sb) (m : Int) : Nat := s.countP fun p => decide (szT p.2 < szT (bnd s m))
theorem org_size {N : Nat} (hN : 1 ≤ N) {s : Sb} (ho : ∀ p ∈ s, OrB N s p.2) : ∀ (k : Nat) (m : Int), rnk s m = k → szT (bnd s m) ≤ N ^ (k + 1) := by
  intro k
  induction k using Nat.strongRecOn with
  | _ k ih =>
    intro m hk
    have hpos : ∀ j, 1 ≤ N ^ j := fun j => Nat.one_le_iff_ne_zero.2 (Nat.pos_iff_ne_zero.1 (Nat.pow_pos (by omega)))
    cases e : look s m with
    | none =>
      rw [bnd_none e]
      have := hpos (k + 1)
      simp only [vr, szT, tszR, Fo.sizesR]
      omega
    | some t =>
      have hb := bnd_some e
      obtain ⟨u, u1, u2, u3, u4⟩ := ho _ (look_mem e)
      simp only at u3
      by_cases hv : u.1.1 = true
      · have : subT (bnd s) u = vr u.1.2 := by
          unfold subT
          rw [if_pos hv]
          exact bnd_none (u4 hv)
        rw [hb, u3, this]
        have := hpos (k + 1)
        simp only [vr, szT, tszR, Fo.sizesR]
        omega
      · have key : ∀ n, occT n u → szT (bnd s n) ≤ N ^ k := fun n hn => by
          cases e2 : look s n with
          | none =>
            rw [bnd_none e2]
            have := hpos k
            simp only [vr, szT, tszR, Fo.sizesR]
            omega
          | some v =>
            have hlt : szT (bnd s n) < szT (bnd s m) := by
              rw [hb, u3]
              have he := sym_eq hv
              rw [he] at hn ⊢
              rw [occ_sym] at hn
              rw [subT_sym]
              have := size_occF (f := bnd s) hn
              simp only [szT, tszR] at this ⊢
              omega
            have hr : rnk s n < rnk s m := countS_less (a := (n, v)) (fun x hx => by
              simp only [decide_eq_true_eq] at hx ⊢
              omega) (look_mem e2) (by
              simp only [decide_eq_true_eq]
              rw [bnd_some e2] at hlt
              exact hlt) (by
              simp only [decide_eq_false_iff_not]
              rw [bnd_some e2]
              omega)
            have h1 := ih (rnk s n) (by omega) n rfl
            have h2 : N ^ (rnk s n + 1) ≤ N ^ k := Nat.pow_le_pow_right hN (by omega)
            omega
        rw [hb, u3]
        have h1 := sub_le (hpos k) u1 key
        have h2 := Nat.mul_le_mul_right (N ^ k) u2
        rw [Nat.pow_succ, Nat.mul_comm (N ^ k) N]
        omega
theorem rnk_lt {s : Sb} {m : Int} {t : Tm} (h : look s m = some t) : rnk s m < s.length := by
  have := countS_less (f := fun _ => true) (g := fun p => decide (szT p.2 < szT (bnd s m))) (a := (m, t)) (l := s) (fun _ _ => rfl) (look_mem h) rfl (by
    simp only [decide_eq_false_iff_not]
    rw [bnd_some h]
    omega)
  rw [List.countP_true] at this
  exact this
theorem mgu_size {n : Nat} {a b : Tm} {s : Sb} (h : UI [] [(a, b)]) (hr : runU n [] [(a, b)] = some (some s)) (ha : szT a ≤ 12) (hb : szT b ≤ 12) (m : Int) : szT (bnd s m) ≤ 61917364224 := by
  have hg := h.gL (a, b) (by simp)
  obtain ⟨hu, ho⟩ := org_run (N := 12) n [] s [(a, b)] h ⟨fun p hp => by
    simp only [List.mem_singleton] at hp
    subst hp
    exact ⟨⟨a, hg.1.ok, ha, rfl⟩, ⟨b, hg.2.ok, hb, rfl⟩⟩, fun p hp => by cases hp⟩ hr
  cases e : look s m with
  | none => rw [bnd_none e]; simp only [vr, szT, tszR, Fo.sizesR]; omega
  | some t =>
    have h1 := org_size (N := 12) (by omega) ho.ob (rnk s m) m rfl
    have h2 := rnk_lt e
    have h3 := (ui_len hu).2
    have h4 : 12 ^ (rnk s m + 1) ≤ 12 ^ 10 := Nat.pow_le_pow_right (by omega) (by omega)
    have h5 : (12 : Nat) ^ 10 = 61917364224 := by decide
    omega
end Go.Proofs.YtaliegkkdhkfcacGreat

namespace Go.Proofs.YtaliegkkdhkfcacGreat
open Go.RowKit Go.Deep Go.ChangeShapes Go.WideShapes
attribute [local go_sem ↓] Go.wp_at_zero Go.wp_at_succ
def UOK (U : Tm → Tm → Option Sb) : Prop := ∀ a b, UI [] [(a, b)] → ∃ n, runU n [] [(a, b)] = some (U a b)
theorem uok_some : ∃ U, UOK U := by
  have key : ∀ a b : Tm, ∃ R : Option Sb, UI [] [(a, b)] → ∃ n, runU n [] [(a, b)] = some R := fun a b => by
    by_cases h : UI [] [(a, b)]
    · obtain ⟨n, R, hR⟩ := runU_end _ _ _ _ rfl rfl h
      exact ⟨R, fun _ => ⟨n, hR⟩⟩
    · exact ⟨none, fun h' => absurd h' h⟩
  exact ⟨fun a b => Classical.choose (key a b), fun a b => Classical.choose_spec (key a b)⟩
structure G12 (t : Tm) : Prop where
  gd : Gd t
  sz : szT t ≤ 12
theorem depF_le : ∀ F : Fo, depF F ≤ Fo.sizesR F
  | .nil => Nat.le_refl _
  | .node _ _ _ k r => by
    have h1 := depF_le k
    have h2 := depF_le r
    simp only [depF, Fo.sizesR]
    omega
theorem G12.dep {t : Tm} (h : G12 t) : depT t ≤ 12 := by
  have h1 := depF_le t.2
  have h2 := h.sz
  simp only [szT, tszR] at h2
  unfold depT
  omega
theorem G12.ui {a b : Tm} (ha : G12 a) (hb : G12 b) : UI [] [(a, b)] := ui_of ha.gd hb.gd ha.dep hb.dep
def G24 (l : Lt) : Prop := (Gd l.2.1 ∧ szT l.2.1 ≤ 24) ∧ (Gd l.2.2 ∧ szT l.2.2 ≤ 24)
def G12L (l : Lt) : Prop := G12 l.2.1 ∧ G12 l.2.2
theorem G12L.x {l : Lt} (h : G12L l) : G24 l := ⟨⟨h.1.gd, by have := h.1.sz; omega⟩, ⟨h.2.gd, by have := h.2.sz; omega⟩⟩
theorem GC.g12 {c : Cl} (h : GC c) : ∀ l ∈ c, G12L l := fun l hl => ⟨⟨(h.2 l hl).gl, (h.2 l hl).sl⟩, ⟨(h.2 l hl).gr, (h.2 l hl).sr⟩⟩
theorem gx_bind {a b : Tm} {n : Nat} {s : Sb} (ha : G12 a) (hb : G12 b) (hr : runU n [] [(a, b)] = some (some s)) {d : Cl} (hl : d.length ≤ 8) (hd : ∀ l ∈ d, G24 l) : GX (d.map (mapL (subT (bnd s)))) := by
  have hg := (unify_ok (ha.ui hb) hr).1
  have one : ∀ t : Tm, Gd t ∧ szT t ≤ 24 → Gd (subT (bnd s) t) ∧ tszR (subT (bnd s) t).2 ≤ 4000000000000 := fun t ht => by
    refine ⟨gd_sub hg ht.1, ?_⟩
    have h1 := sub_le (f := bnd s) (M := 61917364224) (by omega) ht.1.ok (fun m _ => mgu_size (ha.ui hb) hr ha.sz hb.sz m)
    have h2 := Nat.mul_le_mul_right 61917364224 ht.2
    simp only [szT] at h1 h2
    omega
  refine ⟨by simpa using hl, fun l hl => ?_⟩
  obtain ⟨q, hq, rfl⟩ := List.mem_map.1 hl
  obtain ⟨q1, q2⟩ := hd q hq
  exact ⟨(one _ q1).1, (one _ q2).1, (one _ q1).2, (one _ q2).2⟩
def addU (st : List Cl × Bool) (R : Option Sb) (d : Cl) : List Cl × Bool := match R with
  | some s => addP st (normC (d.map (mapL (subT (bnd s)))))
  | none => st
theorem addP_len (st : List Cl × Bool) (n : Int × Cl) : (addP st n).1.length ≤ st.1.length + 1 := by
  unfold addP
  split
  · simp
  · split
    · omega
    · split
      · omega
      · simp
theorem addU_len (st : List Cl × Bool) (R : Option Sb) (d : Cl) : (addU st R d).1.length ≤ st.1.length + 1 := by
  unfold addU
  split
  · exact addP_len _ _
  · omega
def foldN {S : Type} (f : S → Nat → S) (s : S) (j : Nat) : S := (List.range j).foldl f s
theorem foldN_succ {S : Type} (f : S → Nat → S) (s : S) (j : Nat) : foldN f s (j + 1) = f (foldN f s j) j := by
  unfold foldN
  rw [List.range_succ, List.foldl_append]
  rfl
theorem foldN_len {f : List Cl × Bool → Nat → List Cl × Bool} {m : Nat} (h : ∀ s j, (f s j).1.length ≤ s.1.length + m) (s : List Cl × Bool) : ∀ j, (foldN f s j).1.length ≤ s.1.length + j * m
  | 0 => by simp [foldN]
  | j + 1 => by
    rw [foldN_succ]
    have h1 := h (foldN f s j) j
    have h2 := foldN_len h s j
    rw [Nat.add_mul, Nat.one_mul]
    omega
def resS (U : Tm → Tm → Option Sb) (c : Cl) (st : List Cl × Bool) (i : Nat) : List Cl × Bool := match c[i]? with
  | some l => if l.1 then addU st (U l.2.1 l.2.2) (butC c i) else st
  | none => st
def resTo (U : Tm → Tm → Option Sb) (c : Cl) (j : Nat) : List Cl × Bool := foldN (resS U c) ([], false) j
theorem resS_len (U : Tm → Tm → Option Sb) (c : Cl) (st : List Cl × Bool) (i : Nat) : (resS U c st i).1.length ≤ st.1.length + 1 := by
  unfold resS
  split
  · split
    · exact addU_len _ _ _
    · omega
  · omega
theorem resTo_succ {U : Tm → Tm → Option Sb} {c : Cl} {j : Nat} : resTo U c (j + 1) = resS U c (resTo U c j) j := foldN_succ _ _ _
theorem resTo_len (U : Tm → Tm → Option Sb) (c : Cl) (j : Nat) : (resTo U c j).1.length ≤ j := by
  have := foldN_len (m := 1) (resS_len U c) ([], false) j
  rw [Nat.mul_one, List.length_nil, Nat.zero_add] at this
  exact this
theorem but_mem {c : Cl} {i : Nat} {l : Lt} (h : l ∈ butC c i) : l ∈ c := by
  rcases List.mem_append.1 h with h | h
  · exact List.mem_of_mem_take h
  · exact List.mem_of_mem_drop h
theorem but_len {c : Cl} {i : Nat} : (butC c i).length ≤ c.length := by
  rw [butC, List.length_append, List.length_take, List.length_drop]
  omega
theorem lst_start (w : World) (T : TypeId) : LSt w.heap.size (w.alloc (.cells #[.slice none 0 0, .bool false] T)) w.heap.size [] false (.slice none 0 0) [] where
  c0 := new_cell rfl
  c1 := new_cell rfl
  cn := new_cell rfl
  fz := fun i => new_frozen rfl
  row := World.ownsRow_nil _ _ _ _
  sl := fun g hg => by cases hg
  el := fun i c hc => by simp at hc
  po := ⟨Nat.le_refl _, by simp⟩
  ne := fun e => by cases e
theorem fr_kpt {w w' : World} {p : Nat} {o : Option Nat} (h : Fr w w' (some p) o) (hp : NoT w p) (ho : ∀ g, o = some g → NoT w g) : Kpt w w' :=
  kpt_of fun q hq hn => h.block q hq (fun e => hn (by cases e; exact hp)) (fun e => hn (ho q e.symm))
theorem add_keeps {lo : Nat} {w0 w w' : World} {p : Nat} {cs : List Cl} {lost : Bool} {v : Value} {xs : List Value} (hL : LSt lo w p cs lost v xs) (hB : Below lo w0 w) (hf : Fr w w' (some p) v.ownBlock) : Below lo w0 w' ∧ Kpt w w' := by
  refine ⟨⟨hf.os.trans hB.os, hf.tape.trans hB.tape, hf.output.trans hB.output, Nat.le_trans hB.size hf.size, fun k hk => ?_⟩, fr_kpt hf hL.not (fun g hg => (hL.sl g hg).not)⟩
  have hp := hL.po
  rw [hf.block k (by omega) (fun e => by cases e; omega) (fun e => by have := (owns_at hL.row k e.symm).1; omega)]
  exact hB.block k hk
theorem ruleAdd {lo p : Nat} {cs : List Cl} {lost : Bool} {v : Value} {xs : List Value} {b : Sb} {bv : Value} {d : Cl} {dv : Value} {w : World} {a1 a2 : Tm} {n : Nat} (hL : LSt lo w p cs lost v xs) (hV : SubIn w b bv) (hC : CIn w d dv) (ha : G12 a1) (hb : G12 a2) (hr : runU n [] [(a1, a2)] = some (some b))
    (hd : ∀ l ∈ d, G24 l) (hlen : d.length ≤ 8) (hcl : cs.length ≤ 1000000) :
    Calls Tryz.prog 18 #[.pointer (some ⟨p, 0, none⟩), bv, dv] w (AddLPost lo w p (cs, lost) (normC (d.map (mapL (subT (bnd b))))) v) :=
  addLR_any lo p cs lost v xs b bv d dv w hL hV hC (fun q hq => ((unify_ok (ha.ui hb) hr).1 q hq).ok) (fun l hl => ⟨⟨(hd l hl).1.1.ok, (hd l hl).1.1.nar⟩, ⟨(hd l hl).2.1.ok, (hd l hl).2.1.nar⟩⟩) hlen hcl (gx_bind ha hb hr hlen hd)
def RulePost (st : List Cl × Bool) (w : World) (e : Ending) (w' : World) : Prop := ∃ v, e = .returned (.tuple #[v, .bool st.2]) ∧ CsIn w' st.1 v ∧ Below w.heap.size w w'
set_option maxRecDepth 100000 in
set_option maxHeartbeats 4000000 in
theorem resolveR_any (U : Tm → Tm → Option Sb) (hU : UOK U) (c : Cl) (cv : Value) (w : World) (hC : CIn w c cv) (hc : ∀ l ∈ c, G12L l) (h4 : c.length ≤ 4) :
    Calls Tryz.prog 6 #[cv] w (RulePost (resTo U c c.length) w) := by
  have HC := hide hC
  have Hc := hide hc
  have HU := hide hU
  obtain ⟨c1, c3, cb, co, rfl, had, hlc, hcm, hF⟩ := hC
  unfold maxLen at hcm
  have HF := hide hF
  clear hF hc hU
  go_enter Tryz.func6, Tryz.ntmps6
  go_upto_region 2 with fail
  have Hst := hide (lst_start w 51)
  have hB1 : Below w.heap.size w (w.alloc (.cells #[.slice none 0 0, .bool false] 51)) := below_alloc _ _
  generalize w.alloc (.cells #[.slice none 0 0, .bool false] 51) = W1 at *
  go_wp2_with fail
  go_loopw [13] (fun i wr => ∃ (j : Nat) (v : Value) (xs : List Value), j ≤ c.length ∧ i = .int .i64 j ∧ LSt w.heap.size wr w.heap.size (resTo U c j).1 (resTo U c j).2 v xs ∧ Below w.heap.size w wr) (fun i _ => c.length - (intOf i).toNat)
  case atStart => exact ⟨0, _, _, Nat.zero_le _, rfl, Hst.out, hB1⟩
  case round =>
    obtain ⟨j, v, xs, hj, rfl, hL, hBr⟩ := hrel
    have HL := hide hL
    have Hln := hide (resTo_len U c j)
    have Hsc : Hid (resTo U c (j + 1) = resS U c (resTo U c j) j) := resTo_succ
    clear hL
    by_cases hlt : j < c.length
    · have hlt' : (j : Int) < (c.length : Int) := by omega
      obtain ⟨⟨yn, ⟨⟨yv, yi⟩, yk⟩, ⟨yv', yi'⟩, yk'⟩, hy⟩ : ∃ y, c[j]? = some y := ⟨c[j]'hlt, by simp⟩
      obtain ⟨p0, p1, p2, ⟨u3, p3, hA⟩, p4, p5, u6, p6, hD⟩ := (HF.out.below hBr).at hy
      have ha1 : c1 = some ⟨cb, co, none⟩ := had (by omega)
      subst ha1
      have HA := hide hA
      have HD := hide hD
      obtain ⟨ya, yc, _, _, rfl, -, -, -, -⟩ := hA
      obtain ⟨za, zc, _, _, rfl, -, -, -, -⟩ := hD
      have Hgy := hide (Hc.out _ (List.mem_of_getElem? hy))
      have Hrs : Hid (resS U c (resTo U c j) j = if yn then addU (resTo U c j) (U ((yv, yi), yk) ((yv', yi'), yk')) (butC c j) else resTo U c j) := by
        unfold Hid resS
        rw [hy]
      have hsl : w.heap.size < wr.heap.size := HL.out.po.2
      clear hy had
      simp only at *
      go_upto_region 5 with fail
      generalize hwa : wr.alloc (.cells #[.bool yn, .bool yv, .int .i64 yi, .slice ya (Fo.len yk) yc, .bool yv', .int .i64 yi', .slice za (Fo.len yk') zc] 42) = wa
      obtain ⟨g0, g1, g2, g3, g4, g5, g6, -, hba, -⟩ := lit_cells (T := 42) (x0 := .bool yn) (w := wr) (wr := wa) (x1 := .bool yv) (x2 := .int .i64 yi) (x3 := .slice ya (Fo.len yk) yc) (x4 := .bool yv') (x5 := .int .i64 yi') (x6 := .slice za (Fo.len yk') zc) (by rw [← hwa]; exact Below.refl _ _)
      clear hwa p0 p1 p2 p3 p4 p5 p6
      have hBa : Below w.heap.size w wa := below_step hBr hba
      replace HL := hide (HL.out.below hba)
      cases yn
      · have Hend : Hid (LSt w.heap.size wa w.heap.size (resTo U c (j + 1)).1 (resTo U c (j + 1)).2 v xs) := by
          have := HL.out
          rw [Hid, Hsc.out, Hrs.out]
          exact this
        clear Hrs
        go_wp2_with fail
        go_roundw
        case rel => exact ⟨j + 1, v, xs, by omega, by go_num, Hend.out, hBa⟩
        case measure => simp [intOf]; omega
      · have Hui := hide (Hgy.out.1.ui Hgy.out.2)
        obtain ⟨n, hn⟩ := HU.out _ _ Hui.out
        have Hn := hide hn
        obtain ⟨R, hR⟩ : ∃ R, U ((yv, yi), yk) ((yv', yi'), yk') = R := ⟨_, rfl⟩
        rw [hR] at Hn Hrs
        have Hun := hide (unifyR_any (yv, yi) yk (.slice ya (Fo.len yk) yc) (yv', yi') yk' (.slice za (Fo.len yk') zc) wa n R Hn.out Hui.out (HA.out.below hba) (HD.out.below hba))
        simp only at Hun
        clear hn hR
        go_wp2_with fail
        refine Hun.out.mono ?_
        rintro e w2 ⟨hb2, z1, m, z3, ok, rfl, hno, hyes⟩
        have hB2 := below_step hBa hb2
        replace HL := hide (HL.out.below hb2)
        clear g0 g1 g2 g3 g4 g5 g6 Hun hb2
        cases ok
        · have Hend : Hid (LSt w.heap.size w2 w.heap.size (resTo U c (j + 1)).1 (resTo U c (j + 1)).2 v xs) := by
            have := HL.out
            rw [Hid, Hsc.out, Hrs.out, (hno rfl).1]
            exact this
          clear Hrs hno hyes
          go_wp2_with fail
          go_roundw
          case rel => exact ⟨j + 1, v, xs, by omega, by go_num, Hend.out, hB2⟩
          case measure => simp [intOf]; omega
        · obtain ⟨s', rfl, rfl, hSub⟩ := hyes rfl
          have HV := hide hSub
          clear hno hSub
          go_wp2_with fail
          refine (butR_any c _ j _ (HC.out.below hB2) hlt (by omega)).mono ?_
          rintro e w3 ⟨bv, bxs, rfl, hO, hb3⟩
          have hB3 := below_step hB2 hb3
          obtain ⟨b1, b3, rfl⟩ := hO.slice
          have Had := hide (ruleAdd (HL.out.below hb3) (HV.out.below hb3) hO.cl Hgy.out.1 Hgy.out.2 Hn.out (fun l hl => (Hc.out l (but_mem hl)).x) (by have := but_len (c := c) (i := j); omega) (by have := Hln.out; omega))
          have HL3 := hide (HL.out.below hb3)
          have hlb : (butC c j).length = (butC c j).length := rfl
          generalize (butC c j).length = bl at Had
          clear hO hb3 hlb
          go_wp2_with fail
          refine Had.out.mono ?_
          rintro e w4 ⟨rfl, v', xs', hL', hf, -⟩
          have Hk := hide (add_keeps HL3.out hB3 hf)
          have Hend : Hid (LSt w.heap.size w4 w.heap.size (resTo U c (j + 1)).1 (resTo U c (j + 1)).2 v' xs') := by
            have := hL'
            rw [Hid, Hsc.out, Hrs.out]
            exact this
          clear hL' hf Hrs
          go_wp2_with fail
          go_roundw
          case rel => exact ⟨j + 1, v', xs', by omega, by go_num, Hend.out, Hk.out.1⟩
          case measure => simp [intOf]; omega
    · have hje : j = c.length := by omega
      subst hje
      have Hfin := hide HL.out.csin
      obtain ⟨z1, z3, hv⟩ := HL.out.slice
      have k0 := HL.out.c0
      have k1 := HL.out.c1
      have Hvv := hide hv
      clear hv had
      go_upto_region 10 with fail
      go_region
      go_wp2_with fail
      go_ret2
      exact ⟨v, rfl, Hfin.out.below (Below.refl _ _).drew, hBr.drew⟩
end Go.Proofs.YtaliegkkdhkfcacGreat

namespace Go.Proofs.YtaliegkkdhkfcacGreat
open Go.RowKit
theorem countP_less {α : Type} {f g : α → Bool} {i : α} : ∀ {l : List α}, (∀ x, g x = true → f x = true) → i ∈ l → f i = true → g i = false → l.countP g < l.countP f
  | [], _, h, _, _ => by cases h
  | y :: r, hfg, h, hf, hg => by
    have hle : r.countP g ≤ r.countP f := List.countP_mono_left (fun x _ hx => hfg x hx)
    rw [List.countP_cons, List.countP_cons]
    rcases List.mem_cons.1 h with rfl | h
    · rw [hf, hg]; simp; omega
    · have := countP_less (l := r) hfg h hf hg
      by_cases hy : g y = true
      · rw [hy, hfg y hy]; simp; omega
      · have : g y = false := by simpa using hy
        rw [this]
        simp only [Bool.false_eq_true, if_false]
        split <;> omega
theorem getD_set (l : Array Bool) (i j : Nat) (d : Bool) (hi : i < l.size) : (l.setIfInBounds i true).getD j d = (j == i || l.getD j d) := by
  by_cases e : j = i
  · subst e
    simp [Array.getD_eq_getD_getElem?, hi]
  · have e' : (j == i) = false := by simpa using e
    rw [e']
    simp only [Array.getD_eq_getD_getElem?, Array.getElem?_setIfInBounds, Bool.false_or]
    rw [if_neg (fun h => e h.symm)]
theorem getD_in (l : Array Bool) (j : Nat) (hj : j < l.size) (d d' : Bool) : l.getD j d = l.getD j d' := by
  simp [Array.getD_eq_getD_getElem?, hj]
section
variable {P : Program} {ops : Array Oper} {Q : Exit → Act → World → Prop} {md : Region.Mode}
def Region.back (ops : Array Oper) : Bool := (List.range ops.size).all fun i => ((ops[i]?).map (·.after.all fun e => decide (e.on < i))).getD true
theorem all_listed {listed : Array Bool} (hs : listed.size = ops.size) (hb : Region.back ops = true) (hr : Region.ready md ops listed = []) : ∀ i, i < ops.size → listed.getD i false = true := by
  intro i
  induction i using Nat.strongRecOn with
  | _ i ih =>
    intro hi
    by_cases h : listed.getD i false = true
    · exact h
    · exfalso
      have h0 : listed.getD i true = false := by
        rw [getD_in listed i (by omega) true false]
        simpa using h
      have ho : ops[i]? = some ops[i] := by simp [hi]
      have hm : i ∈ Region.ready md ops listed := by
        unfold Region.ready
        rw [List.mem_filter]
        refine ⟨List.mem_range.2 hi, ?_⟩
        rw [h0, ho]
        simp only [Bool.not_false, Bool.true_and, Option.map_some, Option.getD_some]
        rw [Array.all_eq_true']
        intro e he
        have h1 := List.all_eq_true.1 hb i (List.mem_range.2 hi)
        rw [ho] at h1
        simp only [Option.map_some, Option.getD_some] at h1
        rw [Array.all_eq_true'] at h1
        have h2 := of_decide_eq_true (h1 e he)
        rw [ih e.on h2 (by omega)]
        simp
      rw [hr] at hm
      cases hm
theorem wpAny_inv {Inv : (Nat → Bool) → Act → World → Prop} (hb : Region.back ops = true)
    (hstep : ∀ (D : Nat → Bool) (a : Act) (w : World) (i : Nat) (o : Oper), i < ops.size → Inv D a w → D i = false → ops[i]? = some o → (∀ e ∈ o.after, Region.binds md e = true → D e.on = true) → wpOp P ops Q i (Inv fun j => j == i || D j) a w)
    (hdone : ∀ (D : Nat → Bool) (a : Act) (w : World), Inv D a w → (∀ i, i < ops.size → D i = true) → Q .normal a w) :
    ∀ (fuel : Nat) (listed : Array Bool) (a : Act) (w : World), listed.size = ops.size → (List.range ops.size).countP (fun i => !listed.getD i false) ≤ fuel → Inv (fun j => listed.getD j false) a w → wpAny P md ops Q fuel listed a w := by
  intro fuel
  induction fuel with
  | zero =>
    intro listed a w hs hc hI
    have hall : ∀ i, i < ops.size → listed.getD i false = true := fun i hi => by
      have h0 : (List.range ops.size).countP (fun i => !listed.getD i false) = 0 := by omega
      rw [List.countP_eq_zero] at h0
      simpa using h0 i (List.mem_range.2 hi)
    refine ⟨?_, hdone _ a w hI hall⟩
    unfold Region.ready
    rw [List.filter_eq_nil_iff]
    intro i hi
    have hi' := List.mem_range.1 hi
    rw [getD_in listed i (by omega) true false, hall i hi']
    simp
  | succ fuel ih =>
    intro listed a w hs hc hI
    refine ⟨fun hr => hdone _ a w hI (all_listed hs hb hr), fun i hi => ?_⟩
    unfold Region.ready at hi
    rw [List.mem_filter] at hi
    obtain ⟨hi1, hi2⟩ := hi
    have hi' := List.mem_range.1 hi1
    have ho : ops[i]? = some ops[i] := by simp [hi']
    rw [ho] at hi2
    simp only [Option.map_some, Option.getD_some, Bool.and_eq_true, Bool.not_eq_true'] at hi2
    obtain ⟨h1, h2⟩ := hi2
    have h1' : listed.getD i false = false := by rw [getD_in listed i (by omega) false true]; exact h1
    have := hstep _ a w i _ hi' hI h1' ho (fun e he hbd => by
      rw [Array.all_eq_true'] at h2
      have := h2 e he
      rw [hbd] at this
      simpa using this)
    refine wpOp_mono (fun a' w' h => ?_) this
    refine ih _ a' w' (by simp [hs]) ?_ ?_
    · have hlt := countP_less (i := i) (f := fun j => !listed.getD j false) (g := fun j => !(listed.setIfInBounds i true).getD j false) (l := List.range ops.size) (fun x hx => by
        rw [getD_set _ _ _ _ (by omega)] at hx
        simp at hx
        simp [hx.2]) hi1 (by simp [h1']) (by rw [getD_set _ _ _ _ (by omega)]; simp)
      omega
    · have e : (fun j => (listed.setIfInBounds i true).getD j false) = fun j => j == i || listed.getD j false := by
        funext j
        exact getD_set _ _ _ _ (by omega)
      rw [e]
      exact h
theorem region_inv {id : Nat} {a : Act} {w : World} (Inv : (Nat → Bool) → Act → World → Prop) (hm : P.follows .mixedOrders = true) (hb : Region.back ops = true)
    (hstep : ∀ (D : Nat → Bool) (a : Act) (w : World) (i : Nat) (o : Oper), i < ops.size → Inv D a w → D i = false → ops[i]? = some o → (∀ e ∈ o.after, Region.binds .any e = true → D e.on = true) → wpOp P ops Q i (Inv fun j => j == i || D j) a w)
    (hdone : ∀ (D : Nat → Bool) (a : Act) (w : World), Inv D a w → (∀ i, i < ops.size → D i = true) → Q .normal a w)
    (h0 : Inv (fun _ => false) a w.drew) : (Code.region id ops true).wp P Q a w := by
  refine wp_region_any hm ?_
  refine wpAny_inv hb hstep hdone _ _ a _ (by simp) ?_ ?_
  · exact Nat.le_trans List.countP_le_length (by simp)
  · have e : (fun j => (Array.replicate ops.size false).getD j false) = fun _ => false := by
      funext j
      simp only [Array.getD_eq_getD_getElem?, Array.getElem?_replicate]
      split <;> rfl
    rw [e]
    exact h0
end
end Go.Proofs.YtaliegkkdhkfcacGreat

namespace Go.Proofs.YtaliegkkdhkfcacGreat
open Go.RowKit Go.Deep Go.ChangeShapes Go.WideShapes
attribute [local go_sem ↓] Go.wp_at_zero Go.wp_at_succ
def facK (U : Tm → Tm → Option Sb) (c : Cl) (i : Nat) (x y : Lt) (st : List Cl × Bool) (k : Nat) : List Cl × Bool :=
  addU st (U (turnL (decide (2 ≤ k)) x).2.1 (turnL (decide (k % 2 = 1)) y).2.1) (butC c i ++ [(true, (turnL (decide (2 ≤ k)) x).2.2, (turnL (decide (k % 2 = 1)) y).2.2)])
def facJ (U : Tm → Tm → Option Sb) (c : Cl) (i : Nat) (st : List Cl × Bool) (j : Nat) : List Cl × Bool := match c[i]?, c[j]? with
  | some x, some y => if j ≤ i ∨ x.1 = true ∨ y.1 = true then st else foldN (facK U c i x y) st 4
  | _, _ => st
def facI (U : Tm → Tm → Option Sb) (c : Cl) (st : List Cl × Bool) (i : Nat) : List Cl × Bool := foldN (facJ U c i) st c.length
def facTo (U : Tm → Tm → Option Sb) (c : Cl) (i : Nat) : List Cl × Bool := foldN (facI U c) ([], false) i
theorem facK_len (U : Tm → Tm → Option Sb) (c : Cl) (i : Nat) (x y : Lt) (st : List Cl × Bool) (k : Nat) : (facK U c i x y st k).1.length ≤ st.1.length + 1 := addU_len _ _ _
theorem facJ_len (U : Tm → Tm → Option Sb) (c : Cl) (i : Nat) (st : List Cl × Bool) (j : Nat) : (facJ U c i st j).1.length ≤ st.1.length + 4 := by
  unfold facJ
  split
  · rename_i x y _ _
    split
    · omega
    · have := foldN_len (m := 1) (facK_len U c i x y) st 4
      omega
  · omega
theorem facJ_eq {U : Tm → Tm → Option Sb} {c : Cl} {i : Nat} (st : List Cl × Bool) {j : Nat} {x y : Lt} (hx : c[i]? = some x) (hy : c[j]? = some y) : facJ U c i st j = if j ≤ i ∨ x.1 = true ∨ y.1 = true then st else foldN (facK U c i x y) st 4 := by
  unfold facJ
  rw [hx, hy]
theorem facI_len (U : Tm → Tm → Option Sb) (c : Cl) (st : List Cl × Bool) (i : Nat) : (facI U c st i).1.length ≤ st.1.length + c.length * 4 := foldN_len (m := 4) (facJ_len U c i) st c.length
theorem facTo_len (U : Tm → Tm → Option Sb) (c : Cl) (i : Nat) : (facTo U c i).1.length ≤ i * (c.length * 4) := by
  have := foldN_len (m := c.length * 4) (facI_len U c) ([], false) i
  rw [List.length_nil, Nat.zero_add] at this
  exact this
theorem turn_both {yes : Bool} {l : Lt} {P : Tm → Prop} (h : P l.2.1 ∧ P l.2.2) : P (turnL yes l).2.1 ∧ P (turnL yes l).2.2 := by
  cases yes
  · exact h
  · exact ⟨h.2, h.1⟩
theorem turn_call {l : Lt} (yes : Bool) {w : World} {a d : Value} (hA : SIn w l.2.1.2 a) (hD : SIn w l.2.2.2 d) : ∃ (a1 : Option Addr) (a3 : Nat) (d1 : Option Addr) (d3 : Nat), SIn w (turnL yes l).2.1.2 (.slice a1 (Fo.len (turnL yes l).2.1.2) a3) ∧ SIn w (turnL yes l).2.2.2 (.slice d1 (Fo.len (turnL yes l).2.2.2) d3) ∧
    ∀ w' : World, Calls Tryz.prog 22 #[litA l a d, .bool yes] w' fun e w'' => e = .returned (litA (turnL yes l) (.slice a1 (Fo.len (turnL yes l).2.1.2) a3) (.slice d1 (Fo.len (turnL yes l).2.2.2) d3)) ∧ Below w'.heap.size w' w'' := by
  have H1 := hA
  have H2 := hD
  obtain ⟨a1, a3, _, _, rfl, -, -, -, -⟩ := hA
  obtain ⟨d1, d3, _, _, rfl, -, -, -, -⟩ := hD
  cases yes
  · exact ⟨a1, a3, d1, d3, H1, H2, fun w' => turnR_any l false a1 d1 _ _ _ _ w'⟩
  · exact ⟨d1, d3, a1, a3, H2, H1, fun w' => turnR_any l true a1 d1 _ _ _ _ w'⟩
abbrev zeroL : List Value := [.bool false, .bool false, .int .i64 0, .slice none 0 0, .bool false, .int .i64 0, .slice none 0 0]
structure RF (W : World) (cb co i j k : Nat) (CV XA YA TA TB : Value) (LA LB : List Value) (D : Nat → Bool) (w : World) (s44 s45 s46 s47 s48 s49 s50 s51 s52 s53 s54 s55 s56 s57 s58 s8 s9 : Value) : Prop where
  hb : Below W.heap.size W w
  h0 : D 0 = true → s44 = CV
  h1 : D 1 = true → s45 = .int .i64 i
  h2 : D 2 = true → s46 = .pointer (some ⟨cb, co + i * 7, none⟩)
  h3 : D 3 = true → s47 = XA
  h4 : D 4 = true → s48 = .int .i64 k
  h5 : D 5 = true → s49 = .bool (decide (2 ≤ k))
  h6 : D 6 = true → s50 = TA
  h7 : D 7 = true → s51 = CV
  h8 : D 8 = true → s52 = .int .i64 j
  h9 : D 9 = true → s53 = .pointer (some ⟨cb, co + j * 7, none⟩)
  h10 : D 10 = true → s54 = YA
  h11 : D 11 = true → s55 = .int .i64 k
  h12 : D 12 = true → s56 = .int .i64 ((k % 2 : Nat) : Int)
  h13 : D 13 = true → s57 = .bool (decide (k % 2 = 1))
  h14 : D 14 = true → s58 = TB
  h15 : D 15 = true → ∃ g, s8 = .pointer (some ⟨g, 0, none⟩) ∧ W.heap.size ≤ g ∧ (∀ t, w.frozen? ⟨g, t, none⟩ = false) ∧ (∀ t u, (if D 17 = true then LA else zeroL)[t]? = some u → w.cell? ⟨g, t, none⟩ = some u) ∧ (D 16 = true → ∀ g', s9 = .pointer (some ⟨g', 0, none⟩) → g' ≠ g)
  h16 : D 16 = true → ∃ g, s9 = .pointer (some ⟨g, 0, none⟩) ∧ W.heap.size ≤ g ∧ (∀ t, w.frozen? ⟨g, t, none⟩ = false) ∧ (∀ t u, (if D 18 = true then LB else zeroL)[t]? = some u → w.cell? ⟨g, t, none⟩ = some u)
  h17 : D 17 = true → D 15 = true
  h18 : D 18 = true → D 16 = true
  hla : LA ≠ []
  hlb : LB ≠ []
section
variable {W : World} {cb co i j k : Nat} {CV XA YA TA TB : Value} {LA LB : List Value} {D : Nat → Bool} {w w' : World} {s44 s45 s46 s47 s48 s49 s50 s51 s52 s53 s54 s55 s56 s57 s58 s8 s9 : Value}
theorem RF.step (h : RF W cb co i j k CV XA YA TA TB LA LB D w s44 s45 s46 s47 s48 s49 s50 s51 s52 s53 s54 s55 s56 s57 s58 s8 s9) (hb : Below w.heap.size w w') : RF W cb co i j k CV XA YA TA TB LA LB D w' s44 s45 s46 s47 s48 s49 s50 s51 s52 s53 s54 s55 s56 s57 s58 s8 s9 := by
  refine ⟨below_step h.hb hb, h.h0, h.h1, h.h2, h.h3, h.h4, h.h5, h.h6, h.h7, h.h8, h.h9, h.h10, h.h11, h.h12, h.h13, h.h14, fun e => ?_, fun e => ?_, h.h17, h.h18, h.hla, h.hlb⟩
  · obtain ⟨g, h1, h2, h3, h4, h5⟩ := h.h15 e
    have hlt : g < w.heap.size := by
      have hh := h4 0
      split at hh
      · rename_i e7
        cases hla : LA with
        | nil => exact absurd (h.hla) (by rw [hla]; decide)
        | cons a r => exact World.block_lt_of_cell? _ _ (hh a (by rw [hla]; rfl))
      · exact World.block_lt_of_cell? _ _ (hh _ rfl)
    exact ⟨g, h1, h2, fun t => (hb.frozen (p := ⟨g, t, none⟩) hlt).trans (h3 t), fun t u ht => grow_cell hb _ _ (h4 t u ht), h5⟩
  · obtain ⟨g, h1, h2, h3, h4⟩ := h.h16 e
    have hlt : g < w.heap.size := by
      have hh := h4 0
      split at hh
      · rename_i e7
        cases hla : LB with
        | nil => exact absurd (h.hlb) (by rw [hla]; decide)
        | cons a r => exact World.block_lt_of_cell? _ _ (hh a (by rw [hla]; rfl))
      · exact World.block_lt_of_cell? _ _ (hh _ rfl)
    exact ⟨g, h1, h2, fun t => (hb.frozen (p := ⟨g, t, none⟩) hlt).trans (h3 t), fun t u ht => grow_cell hb _ _ (h4 t u ht)⟩
theorem RF.lt15 (h : RF W cb co i j k CV XA YA TA TB LA LB D w s44 s45 s46 s47 s48 s49 s50 s51 s52 s53 s54 s55 s56 s57 s58 s8 s9) (e : D 15 = true) {g : Nat} (hg : s8 = .pointer (some ⟨g, 0, none⟩)) : g < w.heap.size := by
  obtain ⟨g', h1, h2, h3, h4, h5⟩ := h.h15 e
  have e2 := h1.symm.trans hg
  simp only [Value.pointer.injEq, Option.some.injEq, Addr.mk.injEq] at e2
  obtain ⟨rfl, -⟩ := e2
  have hh := h4 0
  split at hh
  · cases hla : LA with
    | nil => exact absurd (h.hla) (by rw [hla]; decide)
    | cons a r => exact World.block_lt_of_cell? _ _ (hh a (by rw [hla]; rfl))
  · exact World.block_lt_of_cell? _ _ (hh _ rfl)
theorem RF.lt16 (h : RF W cb co i j k CV XA YA TA TB LA LB D w s44 s45 s46 s47 s48 s49 s50 s51 s52 s53 s54 s55 s56 s57 s58 s8 s9) (e : D 16 = true) {g : Nat} (hg : s9 = .pointer (some ⟨g, 0, none⟩)) : g < w.heap.size := by
  obtain ⟨g', h1, h2, h3, h4⟩ := h.h16 e
  have e2 := h1.symm.trans hg
  simp only [Value.pointer.injEq, Option.some.injEq, Addr.mk.injEq] at e2
  obtain ⟨rfl, -⟩ := e2
  have hh := h4 0
  split at hh
  · cases hla : LB with
    | nil => exact absurd (h.hlb) (by rw [hla]; decide)
    | cons a r => exact World.block_lt_of_cell? _ _ (hh a (by rw [hla]; rfl))
  · exact World.block_lt_of_cell? _ _ (hh _ rfl)
theorem RF.at0 (h : RF W cb co i j k CV XA YA TA TB LA LB D w s44 s45 s46 s47 s48 s49 s50 s51 s52 s53 s54 s55 s56 s57 s58 s8 s9) : RF W cb co i j k CV XA YA TA TB LA LB (fun j => j == 0 || D j) w (CV) s45 s46 s47 s48 s49 s50 s51 s52 s53 s54 s55 s56 s57 s58 s8 s9 :=
  ⟨h.hb, fun _ => rfl, h.h1, h.h2, h.h3, h.h4, h.h5, h.h6, h.h7, h.h8, h.h9, h.h10, h.h11, h.h12, h.h13, h.h14, h.h15, h.h16, h.h17, h.h18, h.hla, h.hlb⟩
theorem RF.at1 (h : RF W cb co i j k CV XA YA TA TB LA LB D w s44 s45 s46 s47 s48 s49 s50 s51 s52 s53 s54 s55 s56 s57 s58 s8 s9) : RF W cb co i j k CV XA YA TA TB LA LB (fun j => j == 1 || D j) w s44 (.int .i64 i) s46 s47 s48 s49 s50 s51 s52 s53 s54 s55 s56 s57 s58 s8 s9 :=
  ⟨h.hb, h.h0, fun _ => rfl, h.h2, h.h3, h.h4, h.h5, h.h6, h.h7, h.h8, h.h9, h.h10, h.h11, h.h12, h.h13, h.h14, h.h15, h.h16, h.h17, h.h18, h.hla, h.hlb⟩
theorem RF.at2 (h : RF W cb co i j k CV XA YA TA TB LA LB D w s44 s45 s46 s47 s48 s49 s50 s51 s52 s53 s54 s55 s56 s57 s58 s8 s9) : RF W cb co i j k CV XA YA TA TB LA LB (fun j => j == 2 || D j) w s44 s45 (.pointer (some ⟨cb, co + i * 7, none⟩)) s47 s48 s49 s50 s51 s52 s53 s54 s55 s56 s57 s58 s8 s9 :=
  ⟨h.hb, h.h0, h.h1, fun _ => rfl, h.h3, h.h4, h.h5, h.h6, h.h7, h.h8, h.h9, h.h10, h.h11, h.h12, h.h13, h.h14, h.h15, h.h16, h.h17, h.h18, h.hla, h.hlb⟩
theorem RF.at3 (h : RF W cb co i j k CV XA YA TA TB LA LB D w s44 s45 s46 s47 s48 s49 s50 s51 s52 s53 s54 s55 s56 s57 s58 s8 s9) : RF W cb co i j k CV XA YA TA TB LA LB (fun j => j == 3 || D j) w s44 s45 s46 (XA) s48 s49 s50 s51 s52 s53 s54 s55 s56 s57 s58 s8 s9 :=
  ⟨h.hb, h.h0, h.h1, h.h2, fun _ => rfl, h.h4, h.h5, h.h6, h.h7, h.h8, h.h9, h.h10, h.h11, h.h12, h.h13, h.h14, h.h15, h.h16, h.h17, h.h18, h.hla, h.hlb⟩
theorem RF.at4 (h : RF W cb co i j k CV XA YA TA TB LA LB D w s44 s45 s46 s47 s48 s49 s50 s51 s52 s53 s54 s55 s56 s57 s58 s8 s9) : RF W cb co i j k CV XA YA TA TB LA LB (fun j => j == 4 || D j) w s44 s45 s46 s47 (.int .i64 k) s49 s50 s51 s52 s53 s54 s55 s56 s57 s58 s8 s9 :=
  ⟨h.hb, h.h0, h.h1, h.h2, h.h3, fun _ => rfl, h.h5, h.h6, h.h7, h.h8, h.h9, h.h10, h.h11, h.h12, h.h13, h.h14, h.h15, h.h16, h.h17, h.h18, h.hla, h.hlb⟩
theorem RF.at5 (h : RF W cb co i j k CV XA YA TA TB LA LB D w s44 s45 s46 s47 s48 s49 s50 s51 s52 s53 s54 s55 s56 s57 s58 s8 s9) : RF W cb co i j k CV XA YA TA TB LA LB (fun j => j == 5 || D j) w s44 s45 s46 s47 s48 (.bool (decide (2 ≤ k))) s50 s51 s52 s53 s54 s55 s56 s57 s58 s8 s9 :=
  ⟨h.hb, h.h0, h.h1, h.h2, h.h3, h.h4, fun _ => rfl, h.h6, h.h7, h.h8, h.h9, h.h10, h.h11, h.h12, h.h13, h.h14, h.h15, h.h16, h.h17, h.h18, h.hla, h.hlb⟩
theorem RF.at6 (h : RF W cb co i j k CV XA YA TA TB LA LB D w s44 s45 s46 s47 s48 s49 s50 s51 s52 s53 s54 s55 s56 s57 s58 s8 s9) : RF W cb co i j k CV XA YA TA TB LA LB (fun j => j == 6 || D j) w s44 s45 s46 s47 s48 s49 (TA) s51 s52 s53 s54 s55 s56 s57 s58 s8 s9 :=
  ⟨h.hb, h.h0, h.h1, h.h2, h.h3, h.h4, h.h5, fun _ => rfl, h.h7, h.h8, h.h9, h.h10, h.h11, h.h12, h.h13, h.h14, h.h15, h.h16, h.h17, h.h18, h.hla, h.hlb⟩
theorem RF.at7 (h : RF W cb co i j k CV XA YA TA TB LA LB D w s44 s45 s46 s47 s48 s49 s50 s51 s52 s53 s54 s55 s56 s57 s58 s8 s9) : RF W cb co i j k CV XA YA TA TB LA LB (fun j => j == 7 || D j) w s44 s45 s46 s47 s48 s49 s50 (CV) s52 s53 s54 s55 s56 s57 s58 s8 s9 :=
  ⟨h.hb, h.h0, h.h1, h.h2, h.h3, h.h4, h.h5, h.h6, fun _ => rfl, h.h8, h.h9, h.h10, h.h11, h.h12, h.h13, h.h14, h.h15, h.h16, h.h17, h.h18, h.hla, h.hlb⟩
theorem RF.at8 (h : RF W cb co i j k CV XA YA TA TB LA LB D w s44 s45 s46 s47 s48 s49 s50 s51 s52 s53 s54 s55 s56 s57 s58 s8 s9) : RF W cb co i j k CV XA YA TA TB LA LB (fun j => j == 8 || D j) w s44 s45 s46 s47 s48 s49 s50 s51 (.int .i64 j) s53 s54 s55 s56 s57 s58 s8 s9 :=
  ⟨h.hb, h.h0, h.h1, h.h2, h.h3, h.h4, h.h5, h.h6, h.h7, fun _ => rfl, h.h9, h.h10, h.h11, h.h12, h.h13, h.h14, h.h15, h.h16, h.h17, h.h18, h.hla, h.hlb⟩
theorem RF.at9 (h : RF W cb co i j k CV XA YA TA TB LA LB D w s44 s45 s46 s47 s48 s49 s50 s51 s52 s53 s54 s55 s56 s57 s58 s8 s9) : RF W cb co i j k CV XA YA TA TB LA LB (fun j => j == 9 || D j) w s44 s45 s46 s47 s48 s49 s50 s51 s52 (.pointer (some ⟨cb, co + j * 7, none⟩)) s54 s55 s56 s57 s58 s8 s9 :=
  ⟨h.hb, h.h0, h.h1, h.h2, h.h3, h.h4, h.h5, h.h6, h.h7, h.h8, fun _ => rfl, h.h10, h.h11, h.h12, h.h13, h.h14, h.h15, h.h16, h.h17, h.h18, h.hla, h.hlb⟩
theorem RF.at10 (h : RF W cb co i j k CV XA YA TA TB LA LB D w s44 s45 s46 s47 s48 s49 s50 s51 s52 s53 s54 s55 s56 s57 s58 s8 s9) : RF W cb co i j k CV XA YA TA TB LA LB (fun j => j == 10 || D j) w s44 s45 s46 s47 s48 s49 s50 s51 s52 s53 (YA) s55 s56 s57 s58 s8 s9 :=
  ⟨h.hb, h.h0, h.h1, h.h2, h.h3, h.h4, h.h5, h.h6, h.h7, h.h8, h.h9, fun _ => rfl, h.h11, h.h12, h.h13, h.h14, h.h15, h.h16, h.h17, h.h18, h.hla, h.hlb⟩
theorem RF.at11 (h : RF W cb co i j k CV XA YA TA TB LA LB D w s44 s45 s46 s47 s48 s49 s50 s51 s52 s53 s54 s55 s56 s57 s58 s8 s9) : RF W cb co i j k CV XA YA TA TB LA LB (fun j => j == 11 || D j) w s44 s45 s46 s47 s48 s49 s50 s51 s52 s53 s54 (.int .i64 k) s56 s57 s58 s8 s9 :=
  ⟨h.hb, h.h0, h.h1, h.h2, h.h3, h.h4, h.h5, h.h6, h.h7, h.h8, h.h9, h.h10, fun _ => rfl, h.h12, h.h13, h.h14, h.h15, h.h16, h.h17, h.h18, h.hla, h.hlb⟩
theorem RF.at12 (h : RF W cb co i j k CV XA YA TA TB LA LB D w s44 s45 s46 s47 s48 s49 s50 s51 s52 s53 s54 s55 s56 s57 s58 s8 s9) : RF W cb co i j k CV XA YA TA TB LA LB (fun j => j == 12 || D j) w s44 s45 s46 s47 s48 s49 s50 s51 s52 s53 s54 s55 (.int .i64 ((k % 2 : Nat) : Int)) s57 s58 s8 s9 :=
  ⟨h.hb, h.h0, h.h1, h.h2, h.h3, h.h4, h.h5, h.h6, h.h7, h.h8, h.h9, h.h10, h.h11, fun _ => rfl, h.h13, h.h14, h.h15, h.h16, h.h17, h.h18, h.hla, h.hlb⟩
theorem RF.at13 (h : RF W cb co i j k CV XA YA TA TB LA LB D w s44 s45 s46 s47 s48 s49 s50 s51 s52 s53 s54 s55 s56 s57 s58 s8 s9) : RF W cb co i j k CV XA YA TA TB LA LB (fun j => j == 13 || D j) w s44 s45 s46 s47 s48 s49 s50 s51 s52 s53 s54 s55 s56 (.bool (decide (k % 2 = 1))) s58 s8 s9 :=
  ⟨h.hb, h.h0, h.h1, h.h2, h.h3, h.h4, h.h5, h.h6, h.h7, h.h8, h.h9, h.h10, h.h11, h.h12, fun _ => rfl, h.h14, h.h15, h.h16, h.h17, h.h18, h.hla, h.hlb⟩
theorem RF.at14 (h : RF W cb co i j k CV XA YA TA TB LA LB D w s44 s45 s46 s47 s48 s49 s50 s51 s52 s53 s54 s55 s56 s57 s58 s8 s9) : RF W cb co i j k CV XA YA TA TB LA LB (fun j => j == 14 || D j) w s44 s45 s46 s47 s48 s49 s50 s51 s52 s53 s54 s55 s56 s57 (TB) s8 s9 :=
  ⟨h.hb, h.h0, h.h1, h.h2, h.h3, h.h4, h.h5, h.h6, h.h7, h.h8, h.h9, h.h10, h.h11, h.h12, h.h13, fun _ => rfl, h.h15, h.h16, h.h17, h.h18, h.hla, h.hlb⟩
theorem RF.at15 (h : RF W cb co i j k CV XA YA TA TB LA LB D w s44 s45 s46 s47 s48 s49 s50 s51 s52 s53 s54 s55 s56 s57 s58 s8 s9) (h15 : D 15 = false) : RF W cb co i j k CV XA YA TA TB LA LB (fun j => j == 15 || D j) (w.alloc (.cells #[.bool false, .bool false, .int .i64 0, .slice none 0 0, .bool false, .int .i64 0, .slice none 0 0] 42)) s44 s45 s46 s47 s48 s49 s50 s51 s52 s53 s54 s55 s56 s57 s58 (.pointer (some ⟨w.heap.size, 0, none⟩)) s9 := by
  have k := h.step (below_alloc w (.cells #[.bool false, .bool false, .int .i64 0, .slice none 0 0, .bool false, .int .i64 0, .slice none 0 0] 42))
  have h17 : D 17 = false := by
    cases e : D 17
    · rfl
    · have := h.h17 e; rw [h15] at this; cases this
  refine ⟨k.hb, k.h0, k.h1, k.h2, k.h3, k.h4, k.h5, k.h6, k.h7, k.h8, k.h9, k.h10, k.h11, k.h12, k.h13, k.h14, fun _ => ⟨w.heap.size, rfl, h.hb.size, fun t => new_frozen rfl, fun t u ht => ?_, fun e g' hg => ?_⟩, k.h16, fun _ => rfl, k.h18, k.hla, k.hlb⟩
  · replace ht : (if D 17 = true then LA else zeroL)[t]? = some u := ht
    rw [if_neg (show ¬ D 17 = true by rw [h17]; decide)] at ht
    rw [new_cell rfl]
    simpa using ht
  · have := h.lt16 e hg
    omega
theorem RF.at16 (h : RF W cb co i j k CV XA YA TA TB LA LB D w s44 s45 s46 s47 s48 s49 s50 s51 s52 s53 s54 s55 s56 s57 s58 s8 s9) (h16 : D 16 = false) : RF W cb co i j k CV XA YA TA TB LA LB (fun j => j == 16 || D j) (w.alloc (.cells #[.bool false, .bool false, .int .i64 0, .slice none 0 0, .bool false, .int .i64 0, .slice none 0 0] 42)) s44 s45 s46 s47 s48 s49 s50 s51 s52 s53 s54 s55 s56 s57 s58 s8 (.pointer (some ⟨w.heap.size, 0, none⟩)) := by
  have k := h.step (below_alloc w (.cells #[.bool false, .bool false, .int .i64 0, .slice none 0 0, .bool false, .int .i64 0, .slice none 0 0] 42))
  have h18 : D 18 = false := by
    cases e : D 18
    · rfl
    · have := h.h18 e; rw [h16] at this; cases this
  refine ⟨k.hb, k.h0, k.h1, k.h2, k.h3, k.h4, k.h5, k.h6, k.h7, k.h8, k.h9, k.h10, k.h11, k.h12, k.h13, k.h14, fun e => ?_, fun _ => ⟨w.heap.size, rfl, h.hb.size, fun t => new_frozen rfl, fun t u ht => ?_⟩, k.h17, fun _ => rfl, k.hla, k.hlb⟩
  · obtain ⟨g, q1, q2, q3, q4, q5⟩ := k.h15 e
    refine ⟨g, q1, q2, q3, q4, fun _ g' hg => ?_⟩
    have h1 := h.lt15 e q1
    simp only [Value.pointer.injEq, Option.some.injEq, Addr.mk.injEq] at hg
    have := hg.1
    omega
  · replace ht : (if D 18 = true then LB else zeroL)[t]? = some u := ht
    rw [if_neg (show ¬ D 18 = true by rw [h18]; decide)] at ht
    rw [new_cell rfl]
    simpa using ht
theorem RF.at17 (h : RF W cb co i j k CV XA YA TA TB LA LB D w s44 s45 s46 s47 s48 s49 s50 s51 s52 s53 s54 s55 s56 s57 s58 s8 s9) (h17 : D 17 = false) (h15 : D 15 = true) {g : Nat} (hg : s8 = .pointer (some ⟨g, 0, none⟩)) (h7 : LA.length = 7) : RF W cb co i j k CV XA YA TA TB LA LB (fun j => j == 17 || D j) (setL w g 0 LA) s44 s45 s46 s47 s48 s49 s50 s51 s52 s53 s54 s55 s56 s57 s58 s8 s9 := by
  obtain ⟨g1, q1, q2, q3, q4, q5⟩ := h.h15 h15
  have e2 := q1.symm.trans hg
  simp only [Value.pointer.injEq, Option.some.injEq, Addr.mk.injEq] at e2
  obtain ⟨rfl, -⟩ := e2
  rw [if_neg (show ¬ D 17 = true by rw [h17]; decide)] at q4
  refine ⟨setL_below q2 h.hb, h.h0, h.h1, h.h2, h.h3, h.h4, h.h5, h.h6, h.h7, h.h8, h.h9, h.h10, h.h11, h.h12, h.h13, h.h14, fun _ => ⟨g1, q1, q2, fun t => by rw [setL_frozen]; exact q3 t, fun t u ht => ?_, q5⟩, fun e => ?_, fun _ => h15, h.h18, h.hla, h.hlb⟩
  · have ht' : LA[t]? = some u := by simpa using ht
    have := setL_at (b := g1) (xs := LA) (o := 0) (w := w) (fun i hi => by
      rw [h7] at hi
      rw [Nat.zero_add]
      obtain ⟨u, hu⟩ : ∃ u, zeroL[i]? = some u := ⟨zeroL[i]'hi, by simp⟩
      exact ⟨u, q4 i u hu⟩) t u ht'
    rwa [Nat.zero_add] at this
  · obtain ⟨g2, r1, r2, r3, r4⟩ := h.h16 e
    exact ⟨g2, r1, r2, fun t => by rw [setL_frozen]; exact r3 t, fun t u ht => by rw [setL_other (.inl (q5 e g2 r1))]; exact r4 t u ht⟩
theorem RF.at18 (h : RF W cb co i j k CV XA YA TA TB LA LB D w s44 s45 s46 s47 s48 s49 s50 s51 s52 s53 s54 s55 s56 s57 s58 s8 s9) (h18 : D 18 = false) (h16 : D 16 = true) {g : Nat} (hg : s9 = .pointer (some ⟨g, 0, none⟩)) (h7 : LB.length = 7) : RF W cb co i j k CV XA YA TA TB LA LB (fun j => j == 18 || D j) (setL w g 0 LB) s44 s45 s46 s47 s48 s49 s50 s51 s52 s53 s54 s55 s56 s57 s58 s8 s9 := by
  obtain ⟨g1, q1, q2, q3, q4⟩ := h.h16 h16
  have e2 := q1.symm.trans hg
  simp only [Value.pointer.injEq, Option.some.injEq, Addr.mk.injEq] at e2
  obtain ⟨rfl, -⟩ := e2
  rw [if_neg (show ¬ D 18 = true by rw [h18]; decide)] at q4
  refine ⟨setL_below q2 h.hb, h.h0, h.h1, h.h2, h.h3, h.h4, h.h5, h.h6, h.h7, h.h8, h.h9, h.h10, h.h11, h.h12, h.h13, h.h14, fun e => ?_, fun _ => ⟨g1, q1, q2, fun t => by rw [setL_frozen]; exact q3 t, fun t u ht => ?_⟩, h.h17, fun _ => h16, h.hla, h.hlb⟩
  · obtain ⟨g2, r1, r2, r3, r4, r5⟩ := h.h15 e
    exact ⟨g2, r1, r2, fun t => by rw [setL_frozen]; exact r3 t, fun t u ht => by rw [setL_other (.inl (fun e' => r5 h16 g1 q1 e'.symm))]; exact r4 t u ht, r5⟩
  · have ht' : LB[t]? = some u := by simpa using ht
    have := setL_at (b := g1) (xs := LB) (o := 0) (w := w) (fun i hi => by
      rw [h7] at hi
      rw [Nat.zero_add]
      obtain ⟨u, hu⟩ : ∃ u, zeroL[i]? = some u := ⟨zeroL[i]'hi, by simp⟩
      exact ⟨u, q4 i u hu⟩) t u ht'
    rwa [Nat.zero_add] at this
theorem RF.start (h : Below W.heap.size W w) (ha : LA ≠ []) (hb : LB ≠ []) : RF W cb co i j k CV XA YA TA TB LA LB (fun _ => false) w s44 s45 s46 s47 s48 s49 s50 s51 s52 s53 s54 s55 s56 s57 s58 s8 s9 :=
  ⟨h, fun e => (by cases e), fun e => (by cases e), fun e => (by cases e), fun e => (by cases e), fun e => (by cases e), fun e => (by cases e), fun e => (by cases e), fun e => (by cases e), fun e => (by cases e), fun e => (by cases e), fun e => (by cases e), fun e => (by cases e), fun e => (by cases e), fun e => (by cases e), fun e => (by cases e), fun e => (by cases e), fun e => (by cases e), fun e => (by cases e), fun e => (by cases e), ha, hb⟩
end
theorem lc_below {X : Nat → Prop} {w w' : World} {c : Cl} {xs : List Value} (h : LC X w c xs) (hX : ∀ q, X q → q < w.heap.size) (hb : Below w.heap.size w w') : LC X w' c xs := h.frame (fun _ h => h) (fun q _ hq => hb.cell (p := ⟨q, _, none⟩) (hX q hq))
theorem lc_grown {X : Nat → Prop} {w w' : World} {o : Option Nat} {c : Cl} {xs : List Value} (h : LC X w c xs) (hX : ∀ q, X q → q < w.heap.size ∧ some q ≠ o) (hg : w.grownBy w' o) : LC X w' c xs := h.frame (fun _ h => h) (fun q _ hq => World.cell?_of_block (hg.block q (hX q hq).1 (hX q hq).2))
def CLo (dep : Nat → List Nat) (D : Nat → Bool) : Prop := ∀ k, D k = true → ∀ m ∈ dep k, D m = true
theorem clo_set {dep : Nat → List Nat} {D : Nat → Bool} (h : CLo dep D) (k : Nat) (hk : ∀ m ∈ dep k, D m = true) : CLo dep (fun j => j == k || D j) := fun q hq m hm => by
  show (m == k || D m) = true
  by_cases e : q = k
  · subst e; rw [hk m hm]; simp
  · have : D q = true := by simpa [e] using hq
    rw [h q this m hm]; simp
def dep15 : Nat → List Nat
  | 4 => [2, 3]
  | 6 => [5]
  | 8 => [7]
  | 9 => [6, 8]
  | 10 => [9]
  | 11 => [4, 10]
  | 12 => [0, 1, 11]
  | _ => []
theorem all15 {D : Nat → Bool} (h : CLo dep15 D) (h0 : D 0 = true) (h1 : D 1 = true) (h11 : D 11 = true) : ∀ i, i < 13 → (i == 12 || D i) = true := by
  have h4 := h 11 h11 4 (by decide)
  have h10 := h 11 h11 10 (by decide)
  have h2 := h 4 h4 2 (by decide)
  have h3 := h 4 h4 3 (by decide)
  have h9 := h 10 h10 9 (by decide)
  have h6 := h 9 h9 6 (by decide)
  have h8 := h 9 h9 8 (by decide)
  have h5 := h 6 h6 5 (by decide)
  have h7 := h 8 h8 7 (by decide)
  intro i hi
  rcases (by omega : i = 0 ∨ i = 1 ∨ i = 2 ∨ i = 3 ∨ i = 4 ∨ i = 5 ∨ i = 6 ∨ i = 7 ∨ i = 8 ∨ i = 9 ∨ i = 10 ∨ i = 11 ∨ i = 12) with rfl | rfl | rfl | rfl | rfl | rfl | rfl | rfl | rfl | rfl | rfl | rfl | rfl <;> first | assumption | rfl
structure RV (W : World) (PV BV CV : Value) (i g8 g9 : Nat) (R1 R2 LT : Value) (bc : Cl) (l : Lt) (a d : Value) (D : Nat → Bool) (w : World) (s68 s69 s70 s71 s72 s73 s74 s75 s76 s77 s78 s79 s80 : Value) : Prop where
  hb : Below W.heap.size W w
  h0 : D 0 = true → s68 = PV
  h1 : D 1 = true → s69 = BV
  h2 : D 2 = true → s70 = CV
  h3 : D 3 = true → s71 = .int .i64 i
  h4 : D 4 = true → D 11 = false → ∃ X xs, OwnL W.heap.size X w bc s72 xs ∧ (D 10 = true → ∀ g', s78 = .slice (some ⟨g', 0, none⟩) 1 1 → some g' ≠ s72.ownBlock)
  h5 : D 5 = true → s73 = .pointer (some ⟨g8, 4, none⟩)
  h6 : D 6 = true → s74 = R1
  h7 : D 7 = true → s75 = .pointer (some ⟨g9, 4, none⟩)
  h8 : D 8 = true → s76 = R2
  h9 : D 9 = true → s77 = LT
  h10 : D 10 = true → ∃ g, s78 = .slice (some ⟨g, 0, none⟩) 1 1 ∧ (D 11 = false → ∀ j u, (litV l a d)[j]? = some u → w.cell? ⟨g, j, none⟩ = some u)
  h11 : D 11 = true → ∃ X xs, w.ownsRow W.heap.size 42 7 s79 (bc.length + 1) (xs ++ litV l a d) ∧ LC X w bc xs ∧ ∀ q, X q → q < w.heap.size
  h12 : True
section
variable {W : World} {PV BV CV : Value} {i g8 g9 : Nat} {R1 R2 LT : Value} {bc : Cl} {l : Lt} {a d : Value} {D : Nat → Bool} {w w' : World} {s68 s69 s70 s71 s72 s73 s74 s75 s76 s77 s78 s79 s80 : Value}
theorem RV.step (h : RV W PV BV CV i g8 g9 R1 R2 LT bc l a d D w s68 s69 s70 s71 s72 s73 s74 s75 s76 s77 s78 s79 s80) (hb : Below w.heap.size w w') : RV W PV BV CV i g8 g9 R1 R2 LT bc l a d D w' s68 s69 s70 s71 s72 s73 s74 s75 s76 s77 s78 s79 s80 := by
  refine ⟨below_step h.hb hb, h.h0, h.h1, h.h2, h.h3, fun e e2 => ?_, h.h5, h.h6, h.h7, h.h8, h.h9, fun e => ?_, fun e => ?_, trivial⟩
  · obtain ⟨X, xs, h1, h3⟩ := h.h4 e e2
    exact ⟨X, xs, h1.below hb, h3⟩
  · obtain ⟨g, h1, h2⟩ := h.h10 e
    exact ⟨g, h1, fun e2 j u hj => grow_cell hb _ _ (h2 e2 j u hj)⟩
  · obtain ⟨X, xs, h1, h2, h3⟩ := h.h11 e
    exact ⟨X, xs, owns_keep h1 (fun g hg => hb.block g (owns_at h1 g hg).2), lc_below h2 h3 hb, fun q hq => Nat.lt_of_lt_of_le (h3 q hq) hb.size⟩
theorem RV.at0 (h : RV W PV BV CV i g8 g9 R1 R2 LT bc l a d D w s68 s69 s70 s71 s72 s73 s74 s75 s76 s77 s78 s79 s80) : RV W PV BV CV i g8 g9 R1 R2 LT bc l a d (fun j => j == 0 || D j) w (PV) s69 s70 s71 s72 s73 s74 s75 s76 s77 s78 s79 s80 :=
  ⟨h.hb, fun _ => rfl, h.h1, h.h2, h.h3, h.h4, h.h5, h.h6, h.h7, h.h8, h.h9, h.h10, h.h11, h.h12⟩
theorem RV.at1 (h : RV W PV BV CV i g8 g9 R1 R2 LT bc l a d D w s68 s69 s70 s71 s72 s73 s74 s75 s76 s77 s78 s79 s80) : RV W PV BV CV i g8 g9 R1 R2 LT bc l a d (fun j => j == 1 || D j) w s68 (BV) s70 s71 s72 s73 s74 s75 s76 s77 s78 s79 s80 :=
  ⟨h.hb, h.h0, fun _ => rfl, h.h2, h.h3, h.h4, h.h5, h.h6, h.h7, h.h8, h.h9, h.h10, h.h11, h.h12⟩
theorem RV.at2 (h : RV W PV BV CV i g8 g9 R1 R2 LT bc l a d D w s68 s69 s70 s71 s72 s73 s74 s75 s76 s77 s78 s79 s80) : RV W PV BV CV i g8 g9 R1 R2 LT bc l a d (fun j => j == 2 || D j) w s68 s69 (CV) s71 s72 s73 s74 s75 s76 s77 s78 s79 s80 :=
  ⟨h.hb, h.h0, h.h1, fun _ => rfl, h.h3, h.h4, h.h5, h.h6, h.h7, h.h8, h.h9, h.h10, h.h11, h.h12⟩
theorem RV.at3 (h : RV W PV BV CV i g8 g9 R1 R2 LT bc l a d D w s68 s69 s70 s71 s72 s73 s74 s75 s76 s77 s78 s79 s80) : RV W PV BV CV i g8 g9 R1 R2 LT bc l a d (fun j => j == 3 || D j) w s68 s69 s70 (.int .i64 i) s72 s73 s74 s75 s76 s77 s78 s79 s80 :=
  ⟨h.hb, h.h0, h.h1, h.h2, fun _ => rfl, h.h4, h.h5, h.h6, h.h7, h.h8, h.h9, h.h10, h.h11, h.h12⟩
theorem RV.at4 (h : RV W PV BV CV i g8 g9 R1 R2 LT bc l a d D w s68 s69 s70 s71 s72 s73 s74 s75 s76 s77 s78 s79 s80) (h11 : D 11 = false) {v : Value} {xs : List Value} {X : Nat → Prop} (hb : Below w.heap.size w w') (ho : OwnL w.heap.size X w' bc v xs) : RV W PV BV CV i g8 g9 R1 R2 LT bc l a d (fun j => j == 4 || D j) w' s68 s69 s70 s71 v s73 s74 s75 s76 s77 s78 s79 s80 := by
  have k := h.step hb
  have hs := h.hb.size
  refine ⟨k.hb, k.h0, k.h1, k.h2, k.h3, fun _ _ => ⟨X, xs, ⟨?_, ho.cells, ho.off⟩, fun e g' e2 => ?_⟩, k.h5, k.h6, k.h7, k.h8, k.h9, k.h10, k.h11, trivial⟩
  · obtain ⟨q1, q2⟩ := ho.row
    refine ⟨q1, ?_⟩
    rcases q2 with q2 | ⟨g, cap, cur, e1, e2, e3⟩
    · exact .inl q2
    · exact .inr ⟨g, cap, cur, e1, by omega, e3⟩
  · obtain ⟨g, r1, r2⟩ := h.h10 e
    have e3 := r1.symm.trans e2
    simp only [Value.slice.injEq, Option.some.injEq, Addr.mk.injEq] at e3
    have e4 := e3.1.1
    have hlt : g < w.heap.size := World.block_lt_of_cell? _ _ (r2 h11 0 _ rfl)
    intro e5
    have := (owns_at ho.row g' e5.symm).1
    omega
theorem RV.at5 (h : RV W PV BV CV i g8 g9 R1 R2 LT bc l a d D w s68 s69 s70 s71 s72 s73 s74 s75 s76 s77 s78 s79 s80) : RV W PV BV CV i g8 g9 R1 R2 LT bc l a d (fun j => j == 5 || D j) w s68 s69 s70 s71 s72 (.pointer (some ⟨g8, 4, none⟩)) s74 s75 s76 s77 s78 s79 s80 :=
  ⟨h.hb, h.h0, h.h1, h.h2, h.h3, h.h4, fun _ => rfl, h.h6, h.h7, h.h8, h.h9, h.h10, h.h11, h.h12⟩
theorem RV.at6 (h : RV W PV BV CV i g8 g9 R1 R2 LT bc l a d D w s68 s69 s70 s71 s72 s73 s74 s75 s76 s77 s78 s79 s80) : RV W PV BV CV i g8 g9 R1 R2 LT bc l a d (fun j => j == 6 || D j) w s68 s69 s70 s71 s72 s73 (R1) s75 s76 s77 s78 s79 s80 :=
  ⟨h.hb, h.h0, h.h1, h.h2, h.h3, h.h4, h.h5, fun _ => rfl, h.h7, h.h8, h.h9, h.h10, h.h11, h.h12⟩
theorem RV.at7 (h : RV W PV BV CV i g8 g9 R1 R2 LT bc l a d D w s68 s69 s70 s71 s72 s73 s74 s75 s76 s77 s78 s79 s80) : RV W PV BV CV i g8 g9 R1 R2 LT bc l a d (fun j => j == 7 || D j) w s68 s69 s70 s71 s72 s73 s74 (.pointer (some ⟨g9, 4, none⟩)) s76 s77 s78 s79 s80 :=
  ⟨h.hb, h.h0, h.h1, h.h2, h.h3, h.h4, h.h5, h.h6, fun _ => rfl, h.h8, h.h9, h.h10, h.h11, h.h12⟩
theorem RV.at8 (h : RV W PV BV CV i g8 g9 R1 R2 LT bc l a d D w s68 s69 s70 s71 s72 s73 s74 s75 s76 s77 s78 s79 s80) : RV W PV BV CV i g8 g9 R1 R2 LT bc l a d (fun j => j == 8 || D j) w s68 s69 s70 s71 s72 s73 s74 s75 (R2) s77 s78 s79 s80 :=
  ⟨h.hb, h.h0, h.h1, h.h2, h.h3, h.h4, h.h5, h.h6, h.h7, fun _ => rfl, h.h9, h.h10, h.h11, h.h12⟩
theorem RV.at9 (h : RV W PV BV CV i g8 g9 R1 R2 LT bc l a d D w s68 s69 s70 s71 s72 s73 s74 s75 s76 s77 s78 s79 s80) : RV W PV BV CV i g8 g9 R1 R2 LT bc l a d (fun j => j == 9 || D j) w s68 s69 s70 s71 s72 s73 s74 s75 s76 (LT) s78 s79 s80 :=
  ⟨h.hb, h.h0, h.h1, h.h2, h.h3, h.h4, h.h5, h.h6, h.h7, h.h8, fun _ => rfl, h.h10, h.h11, h.h12⟩
theorem RV.at10 (h : RV W PV BV CV i g8 g9 R1 R2 LT bc l a d D w s68 s69 s70 s71 s72 s73 s74 s75 s76 s77 s78 s79 s80) (h11 : D 11 = false) : RV W PV BV CV i g8 g9 R1 R2 LT bc l a d (fun j => j == 10 || D j) (w.alloc (.cells #[.bool l.1, .bool l.2.1.1.1, .int .i64 l.2.1.1.2, a, .bool l.2.2.1.1, .int .i64 l.2.2.1.2, d] 42)) s68 s69 s70 s71 s72 s73 s74 s75 s76 s77 (.slice (some ⟨w.heap.size, 0, none⟩) 1 1) s79 s80 := by
  have k := h.step (below_alloc w (.cells #[.bool l.1, .bool l.2.1.1.1, .int .i64 l.2.1.1.2, a, .bool l.2.2.1.1, .int .i64 l.2.2.1.2, d] 42))
  refine ⟨k.hb, k.h0, k.h1, k.h2, k.h3, fun e e2 => ?_, k.h5, k.h6, k.h7, k.h8, k.h9, fun _ => ⟨w.heap.size, rfl, fun _ j u hj => ?_⟩, fun e => ?_, trivial⟩
  · obtain ⟨X, xs, q1, q3⟩ := k.h4 e e2
    obtain ⟨X', xs', r1, r3⟩ := h.h4 e e2
    refine ⟨X, xs, q1, fun _ g' e3 => ?_⟩
    simp only [Value.slice.injEq, Option.some.injEq, Addr.mk.injEq] at e3
    have e4 := e3.1.1
    intro e5
    have := (owns_at r1.row g' e5.symm).2
    omega
  · rw [new_cell rfl]
    simpa using hj
  · rw [show D 11 = true from e] at h11; cases h11
theorem RV.at11 (h : RV W PV BV CV i g8 g9 R1 R2 LT bc l a d D w s68 s69 s70 s71 s72 s73 s74 s75 s76 s77 s78 s79 s80) {v : Value} {X : Nat → Prop} {xs : List Value} {w4 : World} (hq : OwnL W.heap.size X w bc s72 xs) (ho : w4.ownsRow W.heap.size 42 7 v (bc.length + 1) (xs ++ litV l a d)) (hg : w.grownBy w4 s72.ownBlock) : RV W PV BV CV i g8 g9 R1 R2 LT bc l a d (fun j => j == 11 || D j) w4 s68 s69 s70 s71 s72 s73 s74 s75 s76 s77 s78 v s80 := by
  refine ⟨h.hb.grown hg h.hb.size (fun k hk => (owns_at hq.row k hk).1), h.h0, h.h1, h.h2, h.h3, fun _ e => (by cases e), h.h5, h.h6, h.h7, h.h8, h.h9, fun e => ?_, fun _ => ⟨X, xs, ho, lc_grown hq.cells hq.off hg, fun q hX => Nat.lt_of_lt_of_le (hq.off q hX).1 hg.size⟩, trivial⟩
  obtain ⟨g, r1, r2⟩ := h.h10 e
  exact ⟨g, r1, fun e2 => (by cases e2)⟩
theorem RV.start (h : Below W.heap.size W w) : RV W PV BV CV i g8 g9 R1 R2 LT bc l a d (fun _ => false) w s68 s69 s70 s71 s72 s73 s74 s75 s76 s77 s78 s79 s80 :=
  ⟨h, fun e => (by cases e), fun e => (by cases e), fun e => (by cases e), fun e => (by cases e), fun e => (by cases e), fun e => (by cases e), fun e => (by cases e), fun e => (by cases e), fun e => (by cases e), fun e => (by cases e), fun e => (by cases e), fun e => (by cases e), trivial⟩
end
set_option maxRecDepth 100000 in
set_option maxHeartbeats 8000000 in
theorem factorR_any (U : Tm → Tm → Option Sb) (hU : UOK U) (c : Cl) (cv : Value) (w : World) (hC : CIn w c cv) (hc : ∀ l ∈ c, G12L l) (h4 : c.length ≤ 4) :
    Calls Tryz.prog 9 #[cv] w (RulePost (facTo U c c.length) w) := by
  have HC := hide hC
  have Hc := hide hc
  have HU := hide hU
  obtain ⟨c1, c3, cb, co, rfl, had, hlc, hcm, hF⟩ := hC
  unfold maxLen at hcm
  have HF := hide hF
  clear hF hc hU
  go_enter Tryz.func9, Tryz.ntmps9
  go_upto_region 2 with fail
  have Hst := hide (lst_start w 51)
  have hB1 : Below w.heap.size w (w.alloc (.cells #[.slice none 0 0, .bool false] 51)) := below_alloc _ _
  generalize w.alloc (.cells #[.slice none 0 0, .bool false] 51) = W1 at *
  go_wp2_with fail
  go_loopw [16] (fun i wr => ∃ (j : Nat) (v : Value) (xs : List Value), j ≤ c.length ∧ i = .int .i64 j ∧ LSt w.heap.size wr w.heap.size (facTo U c j).1 (facTo U c j).2 v xs ∧ Below w.heap.size w wr) (fun i _ => c.length - (intOf i).toNat)
  case atStart => exact ⟨0, _, _, Nat.zero_le _, rfl, Hst.out, hB1⟩
  case round =>
    obtain ⟨i, v, xs, hi, rfl, hL, hBr⟩ := hrel
    have HL := hide hL
    have Hln : Hid ((facTo U c i).1.length ≤ 64) := by
      have h1 := facTo_len U c i
      have h2 : i * (c.length * 4) ≤ 4 * (4 * 4) := Nat.mul_le_mul (by omega) (Nat.mul_le_mul h4 (Nat.le_refl _))
      rw [Hid]; omega
    have Hsc : Hid (facTo U c (i + 1) = foldN (facJ U c i) (facTo U c i) c.length) := foldN_succ _ _ _
    clear hL
    by_cases hlt : i < c.length
    · have hlt' : (i : Int) < (c.length : Int) := by omega
      have hi0 : (0 : Int) ≤ (i : Int) := by omega
      obtain ⟨x, hx⟩ : ∃ y, c[i]? = some y := ⟨c[i]'hlt, by simp⟩
      have Hx := hide hx
      have ha1 : c1 = some ⟨cb, co, none⟩ := had (by omega)
      subst ha1
      clear hx had
      go_wp2_with fail
      generalize wr = wo at *
      go_loopw [21] (fun q wr => ∃ (j : Nat) (v : Value) (xs : List Value), j ≤ c.length ∧ q = .int .i64 j ∧ LSt w.heap.size wr w.heap.size (foldN (facJ U c i) (facTo U c i) j).1 (foldN (facJ U c i) (facTo U c i) j).2 v xs ∧ Below w.heap.size w wr) (fun i _ => c.length - (intOf i).toNat)
      case atStart => exact ⟨0, v, xs, Nat.zero_le _, rfl, HL.out, hBr⟩
      case round =>
        clear HL hBr
        obtain ⟨j, v, xs, hj, rfl, hL, hBr⟩ := hrel
        have HL := hide hL
        have Hln2 : Hid ((foldN (facJ U c i) (facTo U c i) j).1.length ≤ 80) := by
          have h1 := foldN_len (m := 4) (facJ_len U c i) (facTo U c i) j
          have h2 := Hln.out
          rw [Hid]; omega
        have Hsj := hide (foldN_succ (facJ U c i) (facTo U c i) j)
        clear hL
        by_cases hjl : j < c.length
        · have hjl' : (j : Int) < (c.length : Int) := by omega
          have hj0 : (0 : Int) ≤ (j : Int) := by omega
          obtain ⟨y, hy⟩ : ∃ y, c[j]? = some y := ⟨c[j]'hjl, by simp⟩
          have Hy := hide hy
          have Hfj := hide (facJ_eq (U := U) (foldN (facJ U c i) (facTo U c i) j) Hx.out hy)
          obtain ⟨xn, ⟨⟨xv, xi⟩, xk⟩, ⟨⟨xv', xi'⟩, xk'⟩⟩ := x
          obtain ⟨yn, ⟨⟨yv, yi⟩, yk⟩, ⟨⟨yv', yi'⟩, yk'⟩⟩ := y
          obtain ⟨p0, p1, p2, ⟨u3, p3, hA⟩, p4, p5, u6, p6, hD⟩ := (HF.out.below hBr).at Hx.out
          obtain ⟨q0, q1, q2, ⟨v3, q3, hE⟩, q4, q5, v6, q6, hG⟩ := (HF.out.below hBr).at Hy.out
          have HA := hide hA
          have HD := hide hD
          have HE := hide hE
          have HG := hide hG
          obtain ⟨xa, xc, _, _, rfl, -, -, -, -⟩ := hA
          obtain ⟨xd, xe, _, _, rfl, -, -, -, -⟩ := hD
          obtain ⟨ya, yc, _, _, rfl, -, -, -, -⟩ := hE
          obtain ⟨yd, ye, _, _, rfl, -, -, -, -⟩ := hG
          clear hy
          simp only at p0 p1 p2 p3 p4 p5 p6 q0 q1 q2 q3 q4 q5 q6 Hfj
          by_cases hji : j ≤ i
          · have Hend : Hid (LSt w.heap.size wr w.heap.size (foldN (facJ U c i) (facTo U c i) (j + 1)).1 (foldN (facJ U c i) (facTo U c i) (j + 1)).2 v xs) := by
              rw [Hid, Hsj.out, Hfj.out, if_pos (.inl hji)]; exact HL.out
            have hji' : (j : Int) ≤ (i : Int) := by omega
            clear Hfj
            go_wp2_with fail
            go_roundw
            case rel => exact ⟨j + 1, v, xs, by omega, by go_num, Hend.out, hBr⟩
            case measure => simp [intOf]; omega
          cases xn
          case' true =>
            have Hend : Hid (LSt w.heap.size wr w.heap.size (foldN (facJ U c i) (facTo U c i) (j + 1)).1 (foldN (facJ U c i) (facTo U c i) (j + 1)).2 v xs) := by
              rw [Hid, Hsj.out, Hfj.out, if_pos (.inr (.inl rfl))]; exact HL.out
            have hji' : ¬ (j : Int) ≤ (i : Int) := by omega
            clear Hfj
            go_wp2_with fail
            go_roundw
            case rel => exact ⟨j + 1, v, xs, by omega, by go_num, Hend.out, hBr⟩
            case measure => simp [intOf]; omega
          cases yn
          case' true =>
            have Hend : Hid (LSt w.heap.size wr w.heap.size (foldN (facJ U c i) (facTo U c i) (j + 1)).1 (foldN (facJ U c i) (facTo U c i) (j + 1)).2 v xs) := by
              rw [Hid, Hsj.out, Hfj.out, if_pos (.inr (.inr rfl))]; exact HL.out
            have hji' : ¬ (j : Int) ≤ (i : Int) := by omega
            clear Hfj
            go_wp2_with fail
            go_roundw
            case rel => exact ⟨j + 1, v, xs, by omega, by go_num, Hend.out, hBr⟩
            case measure => simp [intOf]; omega
          have Hfk : Hid (foldN (facJ U c i) (facTo U c i) (j + 1) = foldN (facK U c i (false, ((xv, xi), xk), ((xv', xi'), xk')) (false, ((yv, yi), yk), ((yv', yi'), yk'))) (foldN (facJ U c i) (facTo U c i) j) 4) := by
            rw [Hid, Hsj.out, Hfj.out, if_neg (by simp; omega)]
          have hji' : ¬ (j : Int) ≤ (i : Int) := by omega
          have Hgx := hide (Hc.out _ (List.mem_of_getElem? Hx.out))
          have Hgy := hide (Hc.out _ (List.mem_of_getElem? Hy.out))
          generalize foldN (facJ U c i) (facTo U c i) j = stj at *
          clear Hfj
          go_wp2_with fail
          clear hji'
          generalize wr = wp at *
          go_loopw [41] (fun q wr => ∃ (k : Nat) (v : Value) (xs : List Value), k ≤ 4 ∧ q = .int .i64 k ∧ LSt w.heap.size wr w.heap.size (foldN (facK U c i (false, ((xv, xi), xk), ((xv', xi'), xk')) (false, ((yv, yi), yk), ((yv', yi'), yk'))) stj k).1 (foldN (facK U c i (false, ((xv, xi), xk), ((xv', xi'), xk')) (false, ((yv, yi), yk), ((yv', yi'), yk'))) stj k).2 v xs ∧ Below w.heap.size w wr) (fun q _ => 4 - (intOf q).toNat)
          case atStart => exact ⟨0, v, xs, by omega, rfl, HL.out, hBr⟩
          case round =>
            clear HL hBr p0 p1 p2 p3 p4 p5 p6 q0 q1 q2 q3 q4 q5 q6 HA HD HE HG
            obtain ⟨k, v, xs, hk, rfl, hL, hBr⟩ := hrel
            obtain ⟨p0, p1, p2, ⟨u3, p3, hA⟩, p4, p5, u6, p6, hD⟩ := (HF.out.below hBr).at Hx.out
            obtain ⟨q0, q1, q2, ⟨v3, q3, hE⟩, q4, q5, v6, q6, hG⟩ := (HF.out.below hBr).at Hy.out
            have HA := hide hA
            have HD := hide hD
            have HE := hide hE
            have HG := hide hG
            obtain ⟨xa, xc, _, _, rfl, -, -, -, -⟩ := hA
            obtain ⟨xd, xe, _, _, rfl, -, -, -, -⟩ := hD
            obtain ⟨ya, yc, _, _, rfl, -, -, -, -⟩ := hE
            obtain ⟨yd, ye, _, _, rfl, -, -, -, -⟩ := hG
            simp only at p0 p1 p2 p3 p4 p5 p6 q0 q1 q2 q3 q4 q5 q6
            have HL := hide hL
            have Hln3 : Hid ((foldN (facK U c i (false, ((xv, xi), xk), ((xv', xi'), xk')) (false, ((yv, yi), yk), ((yv', yi'), yk'))) stj k).1.length ≤ 100) := by
              have h1 := foldN_len (m := 1) (facK_len U c i (false, ((xv, xi), xk), ((xv', xi'), xk')) (false, ((yv, yi), yk), ((yv', yi'), yk'))) stj k
              have h2 := Hln2.out
              rw [Hid]; omega
            have Hsk := hide (foldN_succ (facK U c i (false, ((xv, xi), xk), ((xv', xi'), xk')) (false, ((yv, yi), yk), ((yv', yi'), yk'))) stj k)
            clear hL
            by_cases hkl : k < 4
            · have hkl' : (k : Int) < 4 := by omega
              obtain ⟨ta1, ta3, td1, td3, hTA, hTD, hTc⟩ := turn_call (l := (false, ((xv, xi), xk), ((xv', xi'), xk'))) (decide (2 ≤ k)) HA.out HD.out
              obtain ⟨sa1, sa3, sd1, sd3, hSA, hSD, hSc⟩ := turn_call (l := (false, ((yv, yi), yk), ((yv', yi'), yk'))) (decide (k % 2 = 1)) HE.out HG.out
              have Hfk2 : Hid (facK U c i (false, ((xv, xi), xk), ((xv', xi'), xk')) (false, ((yv, yi), yk), ((yv', yi'), yk')) (foldN (facK U c i (false, ((xv, xi), xk), ((xv', xi'), xk')) (false, ((yv, yi), yk), ((yv', yi'), yk'))) stj k) k = addU (foldN (facK U c i (false, ((xv, xi), xk), ((xv', xi'), xk')) (false, ((yv, yi), yk), ((yv', yi'), yk'))) stj k) (U (turnL (decide (2 ≤ k)) (false, ((xv, xi), xk), ((xv', xi'), xk'))).2.1 (turnL (decide (k % 2 = 1)) (false, ((yv, yi), yk), ((yv', yi'), yk'))).2.1) (butC c i ++ [(true, (turnL (decide (2 ≤ k)) (false, ((xv, xi), xk), ((xv', xi'), xk'))).2.2, (turnL (decide (k % 2 = 1)) (false, ((yv, yi), yk), ((yv', yi'), yk'))).2.2)])) := rfl
              have Hg1 := hide (turn_both (yes := decide (2 ≤ k)) Hgx.out)
              have Hg2 := hide (turn_both (yes := decide (k % 2 = 1)) Hgy.out)
              generalize turnL (decide (2 ≤ k)) (false, ((xv, xi), xk), ((xv', xi'), xk')) = tx at *
              generalize turnL (decide (k % 2 = 1)) (false, ((yv, yi), yk), ((yv', yi'), yk')) = ty at *
              obtain ⟨tn, ⟨⟨tv, ti⟩, tk⟩, ⟨⟨tv', ti'⟩, tk'⟩⟩ := tx
              obtain ⟨sn, ⟨⟨sv, si⟩, sk⟩, ⟨⟨sv', si'⟩, sk'⟩⟩ := ty
              simp only at hTA hTD hSA hSD hTc hSc Hfk2 Hg1 Hg2
              have HTA := hide hTA
              have HTD := hide hTD
              have HSA := hide hSA
              have HSD := hide hSD
              have HTc := hide hTc
              have HSc := hide hSc
              generalize hst : foldN (facK U c i (false, ((xv, xi), xk), ((xv', xi'), xk')) (false, ((yv, yi), yk), ((yv', yi'), yk'))) stj k = stk at *
              clear hTA hTD hSA hSD hTc hSc hst Hln2 Hln
              go_upto_region 12 with fail
              have hk4 : k = 0 ∨ k = 1 ∨ k = 2 ∨ k = 3 := by omega
              refine region_inv (fun D a w' => ∃ s44 s45 s46 s47 s48 s49 s50 s51 s52 s53 s54 s55 s56 s57 s58 s8 s9 : Value, a = ⟨#[Value.slice (some { block := cb, off := co }) (List.length c) c3, undef, Value.slice none 0 0, Value.bool false, Value.pointer (some { block := w.heap.size, off := 0 }), Value.int IntKind.i64 ↑i, Value.int IntKind.i64 ↑j, Value.int IntKind.i64 ↑k, s8, s9, u10, u11, Value.agg #[Value.slice none 0 0, Value.bool false], Value.pointer (some { block := w.heap.size, off := 0 }), Value.slice (some { block := cb, off := co }) (List.length c) c3, Value.int IntKind.i64 ↑(List.length c), Value.int IntKind.i64 ↑i, Value.bool true, Value.int IntKind.i64 ↑i, Value.slice (some { block := cb, off := co }) (List.length c) c3, Value.int IntKind.i64 ↑(List.length c), Value.int IntKind.i64 ↑j, Value.bool true, Value.int IntKind.i64 ↑j, Value.int IntKind.i64 ↑j, Value.int IntKind.i64 ↑i, Value.bool false, Value.bool false, Value.slice (some { block := cb, off := co }) (List.length c) c3, Value.int IntKind.i64 ↑i, Value.pointer (some { block := cb, off := co + i * 7 }), Value.pointer (some { block := cb, off := co + i * 7 }), Value.bool false, Value.bool false, Value.bool false, Value.slice (some { block := cb, off := co }) (List.length c) c3, Value.int IntKind.i64 ↑j, Value.pointer (some { block := cb, off := co + j * 7 }), Value.pointer (some { block := cb, off := co + j * 7 }), Value.bool false, Value.bool false, Value.int IntKind.i64 ↑k, Value.bool true, Value.int IntKind.i64 ↑k, s44, s45, s46, s47, s48, s49, s50, s51, s52, s53, s54, s55, s56, s57, s58, u59, u60, u61, u62, u63, u64, u65, u66, u67, u68, u69, u70, u71, u72, u73, u74, u75, u76, u77, u78, u79, u80, u81, u82, u83, undef, undef, undef, undef, undef, undef, undef, undef], []⟩ ∧ RF wr cb co i j k (.slice (some ⟨cb, co, none⟩) c.length c3) (.agg #[.bool false, .bool xv, .int .i64 xi, .slice xa (Fo.len xk) xc, .bool xv', .int .i64 xi', .slice xd (Fo.len xk') xe]) (.agg #[.bool false, .bool yv, .int .i64 yi, .slice ya (Fo.len yk) yc, .bool yv', .int .i64 yi', .slice yd (Fo.len yk') ye]) (.agg #[.bool tn, .bool tv, .int .i64 ti, .slice ta1 (Fo.len tk) ta3, .bool tv', .int .i64 ti', .slice td1 (Fo.len tk') td3]) (.agg #[.bool sn, .bool sv, .int .i64 si, .slice sa1 (Fo.len sk) sa3, .bool sv', .int .i64 si', .slice sd1 (Fo.len sk') sd3]) [.bool tn, .bool tv, .int .i64 ti, .slice ta1 (Fo.len tk) ta3, .bool tv', .int .i64 ti', .slice td1 (Fo.len tk') td3] [.bool sn, .bool sv, .int .i64 si, .slice sa1 (Fo.len sk) sa3, .bool sv', .int .i64 si', .slice sd1 (Fo.len sk') sd3] D w' s44 s45 s46 s47 s48 s49 s50 s51 s52 s53 s54 s55 s56 s57 s58 s8 s9) (by kernel_rfl) (by kernel_rfl) ?_ ?_ ⟨_, _, _, _, _, _, _, _, _, _, _, _, _, _, _, _, _, rfl, RF.start (Below.refl _ _).drew (by simp) (by simp)⟩
              · rintro D a w' i o hi ⟨s44, s45, s46, s47, s48, s49, s50, s51, s52, s53, s54, s55, s56, s57, s58, s8, s9, rfl, hI⟩ hD ho hdep
                have HI := hide hI
                replace p0 := grow_cell hI.hb _ _ p0
                replace p1 := grow_cell hI.hb _ _ p1
                replace p2 := grow_cell hI.hb _ _ p2
                replace p3 := grow_cell hI.hb _ _ p3
                replace p4 := grow_cell hI.hb _ _ p4
                replace p5 := grow_cell hI.hb _ _ p5
                replace p6 := grow_cell hI.hb _ _ p6
                replace q0 := grow_cell hI.hb _ _ q0
                replace q1 := grow_cell hI.hb _ _ q1
                replace q2 := grow_cell hI.hb _ _ q2
                replace q3 := grow_cell hI.hb _ _ q3
                replace q4 := grow_cell hI.hb _ _ q4
                replace q5 := grow_cell hI.hb _ _ q5
                replace q6 := grow_cell hI.hb _ _ q6
                clear hI
                have hi' : i < 19 := hi
                clear hi
                rcases (by omega : i = 0 ∨ i = 1 ∨ i = 2 ∨ i = 3 ∨ i = 4 ∨ i = 5 ∨ i = 6 ∨ i = 7 ∨ i = 8 ∨ i = 9 ∨ i = 10 ∨ i = 11 ∨ i = 12 ∨ i = 13 ∨ i = 14 ∨ i = 15 ∨ i = 16 ∨ i = 17 ∨ i = 18) with rfl | rfl | rfl | rfl | rfl | rfl | rfl | rfl | rfl | rfl | rfl | rfl | rfl | rfl | rfl | rfl | rfl | rfl | rfl
                · obtain rfl := Option.some.inj ho
                  clear ho hdep hD
                  refine wpOp_step rfl (fun K hK => ?_)
                  go_simp
                  exact hK _ _ ⟨_, _, _, _, _, _, _, _, _, _, _, _, _, _, _, _, _, rfl, HI.out.at0⟩
                · obtain rfl := Option.some.inj ho
                  clear ho hdep hD
                  refine wpOp_step rfl (fun K hK => ?_)
                  go_simp
                  exact hK _ _ ⟨_, _, _, _, _, _, _, _, _, _, _, _, _, _, _, _, _, rfl, HI.out.at1⟩
                · obtain rfl := Option.some.inj ho
                  have d0 := HI.out.h0 (hdep ⟨0, .data⟩ (by simp) rfl)
                  subst d0
                  have d1 := HI.out.h1 (hdep ⟨1, .data⟩ (by simp) rfl)
                  subst d1
                  clear ho hdep hD
                  refine wpOp_step rfl (fun K hK => ?_)
                  go_simp
                  exact hK _ _ ⟨_, _, _, _, _, _, _, _, _, _, _, _, _, _, _, _, _, rfl, HI.out.at2⟩
                · obtain rfl := Option.some.inj ho
                  have d2 := HI.out.h2 (hdep ⟨2, .data⟩ (by simp) rfl)
                  subst d2
                  clear ho hdep hD
                  refine wpOp_step rfl (fun K hK => ?_)
                  go_simp
                  exact hK _ _ ⟨_, _, _, _, _, _, _, _, _, _, _, _, _, _, _, _, _, rfl, HI.out.at3⟩
                · obtain rfl := Option.some.inj ho
                  clear ho hdep hD
                  refine wpOp_step rfl (fun K hK => ?_)
                  go_simp
                  exact hK _ _ ⟨_, _, _, _, _, _, _, _, _, _, _, _, _, _, _, _, _, rfl, HI.out.at4⟩
                · obtain rfl := Option.some.inj ho
                  have d4 := HI.out.h4 (hdep ⟨4, .data⟩ (by simp) rfl)
                  subst d4
                  clear ho hdep hD
                  rcases hk4 with rfl | rfl | rfl | rfl
                  all_goals
                    refine wpOp_step rfl (fun K hK => ?_)
                    go_simp
                    exact hK _ _ ⟨_, _, _, _, _, _, _, _, _, _, _, _, _, _, _, _, _, rfl, HI.out.at5⟩
                · obtain rfl := Option.some.inj ho
                  have d3 := HI.out.h3 (hdep ⟨3, .data⟩ (by simp) rfl)
                  subst d3
                  have d5 := HI.out.h5 (hdep ⟨5, .data⟩ (by simp) rfl)
                  subst d5
                  clear ho hdep hD
                  refine wpOp_step rfl (fun K hK => ?_)
                  go_simp
                  refine (HTc.out _).mono ?_
                  rintro e w2 ⟨rfl, hb2⟩
                  exact hK _ _ ⟨_, _, _, _, _, _, _, _, _, _, _, _, _, _, _, _, _, rfl, (HI.out.step hb2).at6⟩
                · obtain rfl := Option.some.inj ho
                  clear ho hdep hD
                  refine wpOp_step rfl (fun K hK => ?_)
                  go_simp
                  exact hK _ _ ⟨_, _, _, _, _, _, _, _, _, _, _, _, _, _, _, _, _, rfl, HI.out.at7⟩
                · obtain rfl := Option.some.inj ho
                  clear ho hdep hD
                  refine wpOp_step rfl (fun K hK => ?_)
                  go_simp
                  exact hK _ _ ⟨_, _, _, _, _, _, _, _, _, _, _, _, _, _, _, _, _, rfl, HI.out.at8⟩
                · obtain rfl := Option.some.inj ho
                  have d7 := HI.out.h7 (hdep ⟨7, .data⟩ (by simp) rfl)
                  subst d7
                  have d8 := HI.out.h8 (hdep ⟨8, .data⟩ (by simp) rfl)
                  subst d8
                  clear ho hdep hD
                  refine wpOp_step rfl (fun K hK => ?_)
                  go_simp
                  exact hK _ _ ⟨_, _, _, _, _, _, _, _, _, _, _, _, _, _, _, _, _, rfl, HI.out.at9⟩
                · obtain rfl := Option.some.inj ho
                  have d9 := HI.out.h9 (hdep ⟨9, .data⟩ (by simp) rfl)
                  subst d9
                  clear ho hdep hD
                  refine wpOp_step rfl (fun K hK => ?_)
                  go_simp
                  exact hK _ _ ⟨_, _, _, _, _, _, _, _, _, _, _, _, _, _, _, _, _, rfl, HI.out.at10⟩
                · obtain rfl := Option.some.inj ho
                  clear ho hdep hD
                  refine wpOp_step rfl (fun K hK => ?_)
                  go_simp
                  exact hK _ _ ⟨_, _, _, _, _, _, _, _, _, _, _, _, _, _, _, _, _, rfl, HI.out.at11⟩
                · obtain rfl := Option.some.inj ho
                  have d11 := HI.out.h11 (hdep ⟨11, .data⟩ (by simp) rfl)
                  subst d11
                  clear ho hdep hD
                  rcases hk4 with rfl | rfl | rfl | rfl
                  all_goals
                    refine wpOp_step rfl (fun K hK => ?_)
                    go_simp
                    exact hK _ _ ⟨_, _, _, _, _, _, _, _, _, _, _, _, _, _, _, _, _, rfl, HI.out.at12⟩
                · obtain rfl := Option.some.inj ho
                  have d12 := HI.out.h12 (hdep ⟨12, .data⟩ (by simp) rfl)
                  subst d12
                  clear ho hdep hD
                  rcases hk4 with rfl | rfl | rfl | rfl
                  all_goals
                    refine wpOp_step rfl (fun K hK => ?_)
                    go_simp
                    exact hK _ _ ⟨_, _, _, _, _, _, _, _, _, _, _, _, _, _, _, _, _, rfl, HI.out.at13⟩
                · obtain rfl := Option.some.inj ho
                  have d10 := HI.out.h10 (hdep ⟨10, .data⟩ (by simp) rfl)
                  subst d10
                  have d13 := HI.out.h13 (hdep ⟨13, .data⟩ (by simp) rfl)
                  subst d13
                  clear ho hdep hD
                  refine wpOp_step rfl (fun K hK => ?_)
                  go_simp
                  refine (HSc.out _).mono ?_
                  rintro e w2 ⟨rfl, hb2⟩
                  exact hK _ _ ⟨_, _, _, _, _, _, _, _, _, _, _, _, _, _, _, _, _, rfl, (HI.out.step hb2).at14⟩
                · obtain rfl := Option.some.inj ho
                  have HI2 := hide (HI.out.at15 hD)
                  clear ho hdep hD
                  refine wpOp_step rfl (fun K hK => ?_)
                  go_simp
                  exact hK _ _ ⟨_, _, _, _, _, _, _, _, _, _, _, _, _, _, _, _, _, rfl, HI2.out⟩
                · obtain rfl := Option.some.inj ho
                  have HI2 := hide (HI.out.at16 hD)
                  clear ho hdep hD
                  refine wpOp_step rfl (fun K hK => ?_)
                  go_simp
                  exact hK _ _ ⟨_, _, _, _, _, _, _, _, _, _, _, _, _, _, _, _, _, rfl, HI2.out⟩
                · obtain rfl := Option.some.inj ho
                  have d6 := HI.out.h6 (hdep ⟨6, .data⟩ (by simp) rfl)
                  subst d6
                  have e1 := hdep ⟨15, .data⟩ (by simp) rfl
                  obtain ⟨g, rfl, q2, rf, q4, q5⟩ := HI.out.h15 e1
                  rw [if_neg (show ¬ D 17 = true by rw [hD]; decide)] at q4
                  have r0 := q4 0 _ rfl
                  have r1 := q4 1 _ rfl
                  have r2 := q4 2 _ rfl
                  have r3 := q4 3 _ rfl
                  have r4 := q4 4 _ rfl
                  have r5 := q4 5 _ rfl
                  have r6 := q4 6 _ rfl
                  have HI2 := hide (HI.out.at17 hD e1 rfl rfl)
                  clear ho hdep hD
                  clear q2 q4 q5 e1
                  refine wpOp_step rfl (fun K hK => ?_)
                  go_simp
                  exact hK _ _ ⟨_, _, _, _, _, _, _, _, _, _, _, _, _, _, _, _, _, rfl, HI2.out⟩
                · obtain rfl := Option.some.inj ho
                  have d14 := HI.out.h14 (hdep ⟨14, .data⟩ (by simp) rfl)
                  subst d14
                  have e1 := hdep ⟨16, .data⟩ (by simp) rfl
                  obtain ⟨g, rfl, q2, rf, q4⟩ := HI.out.h16 e1
                  rw [if_neg (show ¬ D 18 = true by rw [hD]; decide)] at q4
                  have r0 := q4 0 _ rfl
                  have r1 := q4 1 _ rfl
                  have r2 := q4 2 _ rfl
                  have r3 := q4 3 _ rfl
                  have r4 := q4 4 _ rfl
                  have r5 := q4 5 _ rfl
                  have r6 := q4 6 _ rfl
                  have HI2 := hide (HI.out.at18 hD e1 rfl rfl)
                  clear ho hdep hD
                  clear q2 q4 e1
                  refine wpOp_step rfl (fun K hK => ?_)
                  go_simp
                  exact hK _ _ ⟨_, _, _, _, _, _, _, _, _, _, _, _, _, _, _, _, _, rfl, HI2.out⟩
              · rintro D a w' ⟨s44, s45, s46, s47, s48, s49, s50, s51, s52, s53, s54, s55, s56, s57, s58, s8, s9, rfl, hI⟩ hall
                have h0 := hI.h0 (hall 0 (by decide))
                subst h0
                have h1 := hI.h1 (hall 1 (by decide))
                subst h1
                have h2 := hI.h2 (hall 2 (by decide))
                subst h2
                have h3 := hI.h3 (hall 3 (by decide))
                subst h3
                have h4 := hI.h4 (hall 4 (by decide))
                subst h4
                have h5 := hI.h5 (hall 5 (by decide))
                subst h5
                have h6 := hI.h6 (hall 6 (by decide))
                subst h6
                have h7 := hI.h7 (hall 7 (by decide))
                subst h7
                have h8 := hI.h8 (hall 8 (by decide))
                subst h8
                have h9 := hI.h9 (hall 9 (by decide))
                subst h9
                have h10 := hI.h10 (hall 10 (by decide))
                subst h10
                have h11 := hI.h11 (hall 11 (by decide))
                subst h11
                have h12 := hI.h12 (hall 12 (by decide))
                subst h12
                have h13 := hI.h13 (hall 13 (by decide))
                subst h13
                have h14 := hI.h14 (hall 14 (by decide))
                subst h14
                obtain ⟨g8, rfl, -, -, b8, -⟩ := hI.h15 (hall 15 (by decide))
                rw [if_pos (hall 17 (by decide))] at b8
                obtain ⟨g9, rfl, -, -, b9⟩ := hI.h16 (hall 16 (by decide))
                rw [if_pos (hall 18 (by decide))] at b9
                have e0 := b8 0 _ rfl
                have e1 := b8 1 _ rfl
                have e2 := b8 2 _ rfl
                have e3 := b8 3 _ rfl
                have e4 := b8 4 _ rfl
                have e5 := b8 5 _ rfl
                have e6 := b8 6 _ rfl
                have f0 := b9 0 _ rfl
                have f1 := b9 1 _ rfl
                have f2 := b9 2 _ rfl
                have f3 := b9 3 _ rfl
                have f4 := b9 4 _ rfl
                have f5 := b9 5 _ rfl
                have f6 := b9 6 _ rfl
                have hb12 := hI.hb
                clear hI hall b8 b9 p0 p1 p2 p3 p4 p5 p6 q0 q1 q2 q3 q4 q5 q6
                generalize w' = wk at *
                have hBk := below_step hBr hb12
                replace HL := hide (HL.out.below hb12)
                have Hui := hide (Hg1.out.1.ui Hg2.out.1)
                obtain ⟨n, hn⟩ := HU.out _ _ Hui.out
                have Hn := hide hn
                obtain ⟨R, hR⟩ : ∃ R, U ((tv, ti), tk) ((sv, si), sk) = R := ⟨_, rfl⟩
                rw [hR] at Hn Hfk2
                have Hun := hide (unifyR_any (tv, ti) tk (.slice ta1 (Fo.len tk) ta3) (sv, si) sk (.slice sa1 (Fo.len sk) sa3) wk n R Hn.out Hui.out (HTA.out.below hb12) (HSA.out.below hb12))
                simp only at Hun
                clear hn hR
                go_wp2_with fail
                refine Hun.out.mono ?_
                rintro e w2 ⟨hb2, z1, m, z3, ok, rfl, hno, hyes⟩
                have hB2 := below_step hBk hb2
                replace HL := hide (HL.out.below hb2)
                replace e0 := grow_cell hb2 _ _ e0
                replace f0 := grow_cell hb2 _ _ f0
                replace e1 := grow_cell hb2 _ _ e1
                replace f1 := grow_cell hb2 _ _ f1
                replace e2 := grow_cell hb2 _ _ e2
                replace f2 := grow_cell hb2 _ _ f2
                replace e3 := grow_cell hb2 _ _ e3
                replace f3 := grow_cell hb2 _ _ f3
                replace e4 := grow_cell hb2 _ _ e4
                replace f4 := grow_cell hb2 _ _ f4
                replace e5 := grow_cell hb2 _ _ e5
                replace f5 := grow_cell hb2 _ _ f5
                replace e6 := grow_cell hb2 _ _ e6
                replace f6 := grow_cell hb2 _ _ f6
                have Hb12 := hide (below_step hb12 hb2)
                clear Hun hb2 hb12
                cases ok
                · have Hend : Hid (LSt w.heap.size w2 w.heap.size (foldN (facK U c i (false, ((xv, xi), xk), ((xv', xi'), xk')) (false, ((yv, yi), yk), ((yv', yi'), yk'))) stj (k + 1)).1 (foldN (facK U c i (false, ((xv, xi), xk), ((xv', xi'), xk')) (false, ((yv, yi), yk), ((yv', yi'), yk'))) stj (k + 1)).2 v xs) := by
                    have := HL.out
                    rw [Hid, Hsk.out, Hfk2.out, (hno rfl).1]
                    exact this
                  clear hno hyes Hfk2
                  go_wp2_with fail
                  go_roundw
                  case rel => exact ⟨k + 1, v, xs, by omega, by go_num, Hend.out, hB2⟩
                  case measure => simp [intOf]; omega
                · obtain ⟨b', rfl, rfl, hSub⟩ := hyes rfl
                  have HV := hide hSub
                  clear hno hSub
                  generalize w2 = wk at *
                  go_upto_region 15 with fail
                  have HTDk := hide (HTD.out.below Hb12.out)
                  have HSDk := hide (HSD.out.below Hb12.out)
                  have Hbut := hide (fun (w' : World) (hb : Below wk.heap.size wk w') => butR_any c (.slice (some ⟨cb, co, none⟩) c.length c3) i w' (HC.out.below (below_step hB2 hb)) hlt (by omega))
                  have HaddA : Hid (∀ (w' : World) (vv : Value) (ys : List Value), Below wk.heap.size wk w' → w'.ownsRow wk.heap.size 42 7 vv ((butC c i).length + 1) (ys ++ litV (true, ((tv', ti'), tk'), ((sv', si'), sk')) (.slice td1 (Fo.len tk') td3) (.slice sd1 (Fo.len sk') sd3)) → (∃ X, LC X w' (butC c i) ys ∧ ∀ q, X q → q < w'.heap.size) → Calls Tryz.prog 18 #[.pointer (some ⟨w.heap.size, 0, none⟩), .slice z1 b'.length z3, vv] w' fun e w' => e = .returned (.tuple #[]) ∧ (∃ v2 xs2, LSt w.heap.size w' w.heap.size (foldN (facK U c i (false, ((xv, xi), xk), ((xv', xi'), xk')) (false, ((yv, yi), yk), ((yv', yi'), yk'))) stj (k + 1)).1 (foldN (facK U c i (false, ((xv, xi), xk), ((xv', xi'), xk')) (false, ((yv, yi), yk), ((yv', yi'), yk'))) stj (k + 1)).2 v2 xs2 ∧ Below w.heap.size w w')) := fun w' vv ys hb ho hl => by
                    obtain ⟨X, hl1, hl2⟩ := hl
                    have hcl : CIn w' (butC c i ++ [(true, ((tv', ti'), tk'), ((sv', si'), sk'))]) vv := row_cl (X := fun q => q < w'.heap.size) (by rw [List.length_append]; exact ho) (LC.append (LC.one (HTDk.out.below hb).toB (HSDk.out.below hb).toB) (hl1.frame hl2 (fun _ _ _ => rfl)))
                    have hL := HL.out.below hb
                    refine (ruleAdd hL (HV.out.below hb) hcl Hg1.out.1 Hg2.out.1 Hn.out (fun l hl => ?_) (by rw [List.length_append]; have := but_len (c := c) (i := i); simp only [List.length_cons, List.length_nil]; omega) (by have := Hln3.out; omega)).mono ?_
                    · rcases List.mem_append.1 hl with hl | hl
                      · exact (Hc.out l (but_mem hl)).x
                      · rw [List.mem_singleton.1 hl]
                        exact G12L.x ⟨Hg1.out.2, Hg2.out.2⟩
                    · rintro e w4 ⟨rfl, v2, xs2, hL2, hf, -⟩
                      refine ⟨rfl, v2, xs2, ?_, (add_keeps hL (below_step hB2 hb) hf).1⟩
                      rw [Hsk.out, Hfk2.out]
                      exact hL2
                  obtain ⟨iL, hi7, hz0, hz1, hz2⟩ := info_parts Tryz.info42
                  have hbl : (butC c i).length ≤ 4 := Nat.le_trans but_len h4
                  have HX : Hid ((butC c i).length + 1 ≤ maxLen ∧ ((butC c i).length + 1) * 88 ≤ 140737488355328) := ⟨by unfold maxLen; omega, by omega⟩
                  have Hi := hide (And.intro hi7 (And.intro hz0 (And.intro hz1 hz2)))
                  clear hi7 hz0 hz1 hz2 hbl
                  refine region_inv (fun D a w' => ((D 12 = false ∧ CLo dep15 D) ∧ ∃ s68 s69 s70 s71 s72 s73 s74 s75 s76 s77 s78 s79 s80 : Value, a = ⟨#[Value.slice (some { block := cb, off := co }) (List.length c) c3, undef, Value.slice none 0 0, Value.bool false, Value.pointer (some { block := w.heap.size, off := 0 }), Value.int IntKind.i64 ↑i, Value.int IntKind.i64 ↑j, Value.int IntKind.i64 ↑k, Value.pointer (some { block := g8, off := 0 }), Value.pointer (some { block := g9, off := 0 }), Value.slice z1 (List.length b') z3, Value.bool true, Value.agg #[Value.slice none 0 0, Value.bool false], Value.pointer (some { block := w.heap.size, off := 0 }), Value.slice (some { block := cb, off := co }) (List.length c) c3, Value.int IntKind.i64 ↑(List.length c), Value.int IntKind.i64 ↑i, Value.bool true, Value.int IntKind.i64 ↑i, Value.slice (some { block := cb, off := co }) (List.length c) c3, Value.int IntKind.i64 ↑(List.length c), Value.int IntKind.i64 ↑j, Value.bool true, Value.int IntKind.i64 ↑j, Value.int IntKind.i64 ↑j, Value.int IntKind.i64 ↑i, Value.bool false, Value.bool false, Value.slice (some { block := cb, off := co }) (List.length c) c3, Value.int IntKind.i64 ↑i, Value.pointer (some { block := cb, off := co + i * 7 }), Value.pointer (some { block := cb, off := co + i * 7 }), Value.bool false, Value.bool false, Value.bool false, Value.slice (some { block := cb, off := co }) (List.length c) c3, Value.int IntKind.i64 ↑j, Value.pointer (some { block := cb, off := co + j * 7 }), Value.pointer (some { block := cb, off := co + j * 7 }), Value.bool false, Value.bool false, Value.int IntKind.i64 ↑k, Value.bool true, Value.int IntKind.i64 ↑k, Value.slice (some { block := cb, off := co }) (List.length c) c3, Value.int IntKind.i64 ↑i, Value.pointer (some { block := cb, off := co + i * 7 }), Value.agg #[Value.bool false, Value.bool xv, Value.int IntKind.i64 xi, Value.slice xa xk.len xc, Value.bool xv', Value.int IntKind.i64 xi', Value.slice xd xk'.len xe], Value.int IntKind.i64 ↑k, Value.bool (decide (2 ≤ k)), Value.agg #[Value.bool tn, Value.bool tv, Value.int IntKind.i64 ti, Value.slice ta1 tk.len ta3, Value.bool tv', Value.int IntKind.i64 ti', Value.slice td1 tk'.len td3], Value.slice (some { block := cb, off := co }) (List.length c) c3, Value.int IntKind.i64 ↑j, Value.pointer (some { block := cb, off := co + j * 7 }), Value.agg #[Value.bool false, Value.bool yv, Value.int IntKind.i64 yi, Value.slice ya yk.len yc, Value.bool yv', Value.int IntKind.i64 yi', Value.slice yd yk'.len ye], Value.int IntKind.i64 ↑k, Value.int IntKind.i64 (↑k % 2), Value.bool (decide (k % 2 = 1)), Value.agg #[Value.bool sn, Value.bool sv, Value.int IntKind.i64 si, Value.slice sa1 sk.len sa3, Value.bool sv', Value.int IntKind.i64 si', Value.slice sd1 sk'.len sd3], Value.tuple #[Value.slice z1 (List.length b') z3, Value.bool true], Value.pointer (some { block := g8, off := 1 }), Value.agg #[Value.bool tv, Value.int IntKind.i64 ti, Value.slice ta1 tk.len ta3], Value.pointer (some { block := g9, off := 1 }), Value.agg #[Value.bool sv, Value.int IntKind.i64 si, Value.slice sa1 sk.len sa3], Value.tuple #[Value.slice z1 (List.length b') z3, Value.bool true], Value.slice z1 (List.length b') z3, Value.bool true, Value.bool true, s68, s69, s70, s71, s72, s73, s74, s75, s76, s77, s78, s79, s80, u81, u82, u83, undef, undef, undef, undef, undef, undef, undef, undef], []⟩ ∧ RV wk (.pointer (some ⟨w.heap.size, 0, none⟩)) (.slice z1 b'.length z3) (.slice (some ⟨cb, co, none⟩) c.length c3) i g8 g9 (.agg #[.bool tv', .int .i64 ti', .slice td1 (Fo.len tk') td3]) (.agg #[.bool sv', .int .i64 si', .slice sd1 (Fo.len sk') sd3]) (.agg #[.bool true, .bool tv', .int .i64 ti', .slice td1 (Fo.len tk') td3, .bool sv', .int .i64 si', .slice sd1 (Fo.len sk') sd3]) (butC c i) (true, ((tv', ti'), tk'), ((sv', si'), sk')) (.slice td1 (Fo.len tk') td3) (.slice sd1 (Fo.len sk') sd3) D w' s68 s69 s70 s71 s72 s73 s74 s75 s76 s77 s78 s79 s80) ∨ ((∀ i, i < 13 → D i = true) ∧ ∃ s68 s69 s70 s71 s72 s73 s74 s75 s76 s77 s78 s79 s80 : Value, a = ⟨#[Value.slice (some { block := cb, off := co }) (List.length c) c3, undef, Value.slice none 0 0, Value.bool false, Value.pointer (some { block := w.heap.size, off := 0 }), Value.int IntKind.i64 ↑i, Value.int IntKind.i64 ↑j, Value.int IntKind.i64 ↑k, Value.pointer (some { block := g8, off := 0 }), Value.pointer (some { block := g9, off := 0 }), Value.slice z1 (List.length b') z3, Value.bool true, Value.agg #[Value.slice none 0 0, Value.bool false], Value.pointer (some { block := w.heap.size, off := 0 }), Value.slice (some { block := cb, off := co }) (List.length c) c3, Value.int IntKind.i64 ↑(List.length c), Value.int IntKind.i64 ↑i, Value.bool true, Value.int IntKind.i64 ↑i, Value.slice (some { block := cb, off := co }) (List.length c) c3, Value.int IntKind.i64 ↑(List.length c), Value.int IntKind.i64 ↑j, Value.bool true, Value.int IntKind.i64 ↑j, Value.int IntKind.i64 ↑j, Value.int IntKind.i64 ↑i, Value.bool false, Value.bool false, Value.slice (some { block := cb, off := co }) (List.length c) c3, Value.int IntKind.i64 ↑i, Value.pointer (some { block := cb, off := co + i * 7 }), Value.pointer (some { block := cb, off := co + i * 7 }), Value.bool false, Value.bool false, Value.bool false, Value.slice (some { block := cb, off := co }) (List.length c) c3, Value.int IntKind.i64 ↑j, Value.pointer (some { block := cb, off := co + j * 7 }), Value.pointer (some { block := cb, off := co + j * 7 }), Value.bool false, Value.bool false, Value.int IntKind.i64 ↑k, Value.bool true, Value.int IntKind.i64 ↑k, Value.slice (some { block := cb, off := co }) (List.length c) c3, Value.int IntKind.i64 ↑i, Value.pointer (some { block := cb, off := co + i * 7 }), Value.agg #[Value.bool false, Value.bool xv, Value.int IntKind.i64 xi, Value.slice xa xk.len xc, Value.bool xv', Value.int IntKind.i64 xi', Value.slice xd xk'.len xe], Value.int IntKind.i64 ↑k, Value.bool (decide (2 ≤ k)), Value.agg #[Value.bool tn, Value.bool tv, Value.int IntKind.i64 ti, Value.slice ta1 tk.len ta3, Value.bool tv', Value.int IntKind.i64 ti', Value.slice td1 tk'.len td3], Value.slice (some { block := cb, off := co }) (List.length c) c3, Value.int IntKind.i64 ↑j, Value.pointer (some { block := cb, off := co + j * 7 }), Value.agg #[Value.bool false, Value.bool yv, Value.int IntKind.i64 yi, Value.slice ya yk.len yc, Value.bool yv', Value.int IntKind.i64 yi', Value.slice yd yk'.len ye], Value.int IntKind.i64 ↑k, Value.int IntKind.i64 (↑k % 2), Value.bool (decide (k % 2 = 1)), Value.agg #[Value.bool sn, Value.bool sv, Value.int IntKind.i64 si, Value.slice sa1 sk.len sa3, Value.bool sv', Value.int IntKind.i64 si', Value.slice sd1 sk'.len sd3], Value.tuple #[Value.slice z1 (List.length b') z3, Value.bool true], Value.pointer (some { block := g8, off := 1 }), Value.agg #[Value.bool tv, Value.int IntKind.i64 ti, Value.slice ta1 tk.len ta3], Value.pointer (some { block := g9, off := 1 }), Value.agg #[Value.bool sv, Value.int IntKind.i64 si, Value.slice sa1 sk.len sa3], Value.tuple #[Value.slice z1 (List.length b') z3, Value.bool true], Value.slice z1 (List.length b') z3, Value.bool true, Value.bool true, s68, s69, s70, s71, s72, s73, s74, s75, s76, s77, s78, s79, s80, u81, u82, u83, undef, undef, undef, undef, undef, undef, undef, undef], []⟩ ∧ (∃ v2 xs2, LSt w.heap.size w' w.heap.size (foldN (facK U c i (false, ((xv, xi), xk), ((xv', xi'), xk')) (false, ((yv, yi), yk), ((yv', yi'), yk'))) stj (k + 1)).1 (foldN (facK U c i (false, ((xv, xi), xk), ((xv', xi'), xk')) (false, ((yv, yi), yk), ((yv', yi'), yk'))) stj (k + 1)).2 v2 xs2 ∧ Below w.heap.size w w'))) (by kernel_rfl) (by kernel_rfl) ?_ ?_ (.inl ⟨⟨rfl, fun k hk => by cases hk⟩, _, _, _, _, _, _, _, _, _, _, _, _, _, rfl, RV.start (Below.refl _ _).drew⟩)
                  · rintro D a w' i' o hi (⟨⟨h12, hcl⟩, s68, s69, s70, s71, s72, s73, s74, s75, s76, s77, s78, s79, s80, rfl, hI⟩ | ⟨hall, -⟩) hD ho hdep
                    · have HI := hide hI
                      replace e4 := grow_cell hI.hb _ _ e4
                      replace e5 := grow_cell hI.hb _ _ e5
                      replace e6 := grow_cell hI.hb _ _ e6
                      replace f4 := grow_cell hI.hb _ _ f4
                      replace f5 := grow_cell hI.hb _ _ f5
                      replace f6 := grow_cell hI.hb _ _ f6
                      have H12 := hide h12
                      have Hcl := hide hcl
                      clear hI h12 hcl
                      have hi' : i' < 13 := hi
                      clear hi
                      rcases (by omega : i' = 0 ∨ i' = 1 ∨ i' = 2 ∨ i' = 3 ∨ i' = 4 ∨ i' = 5 ∨ i' = 6 ∨ i' = 7 ∨ i' = 8 ∨ i' = 9 ∨ i' = 10 ∨ i' = 11 ∨ i' = 12) with rfl | rfl | rfl | rfl | rfl | rfl | rfl | rfl | rfl | rfl | rfl | rfl | rfl
                      · obtain rfl := Option.some.inj ho
                        have Hc2 := hide (clo_set Hcl.out 0 (fun m hm => by simp only [dep15, List.not_mem_nil] at hm))
                        clear ho hdep hD
                        refine wpOp_step rfl (fun K hK => ?_)
                        go_simp
                        exact hK _ _ (.inl ⟨⟨H12.out, Hc2.out⟩, _, _, _, _, _, _, _, _, _, _, _, _, _, rfl, HI.out.at0⟩)
                      · obtain rfl := Option.some.inj ho
                        have Hc2 := hide (clo_set Hcl.out 1 (fun m hm => by simp only [dep15, List.not_mem_nil] at hm))
                        clear ho hdep hD
                        refine wpOp_step rfl (fun K hK => ?_)
                        go_simp
                        exact hK _ _ (.inl ⟨⟨H12.out, Hc2.out⟩, _, _, _, _, _, _, _, _, _, _, _, _, _, rfl, HI.out.at1⟩)
                      · obtain rfl := Option.some.inj ho
                        have Hc2 := hide (clo_set Hcl.out 2 (fun m hm => by simp only [dep15, List.not_mem_nil] at hm))
                        clear ho hdep hD
                        refine wpOp_step rfl (fun K hK => ?_)
                        go_simp
                        exact hK _ _ (.inl ⟨⟨H12.out, Hc2.out⟩, _, _, _, _, _, _, _, _, _, _, _, _, _, rfl, HI.out.at2⟩)
                      · obtain rfl := Option.some.inj ho
                        have Hc2 := hide (clo_set Hcl.out 3 (fun m hm => by simp only [dep15, List.not_mem_nil] at hm))
                        clear ho hdep hD
                        refine wpOp_step rfl (fun K hK => ?_)
                        go_simp
                        exact hK _ _ (.inl ⟨⟨H12.out, Hc2.out⟩, _, _, _, _, _, _, _, _, _, _, _, _, _, rfl, HI.out.at3⟩)
                      · obtain rfl := Option.some.inj ho
                        have x2 := hdep ⟨2, .data⟩ (by simp) rfl
                        have x3 := hdep ⟨3, .data⟩ (by simp) rfl
                        have Hc2 := hide (clo_set Hcl.out 4 (fun m hm => by simp only [dep15, List.mem_cons, List.not_mem_nil, or_false] at hm; rcases hm with rfl | rfl <;> assumption))
                        have d2 := HI.out.h2 x2
                        subst d2
                        have d3 := HI.out.h3 x3
                        subst d3
                        have h11 : D 11 = false := by
                          cases e : D 11
                          · rfl
                          · have := Hcl.out 11 e 4 (by decide); rw [hD] at this; cases this
                        have Hat := hide (fun v xs X w2 hb ho => HI.out.at4 (v := v) (xs := xs) (X := X) (w' := w2) h11 hb ho)
                        clear ho hdep hD h11
                        refine wpOp_step rfl (fun K hK => ?_)
                        go_simp
                        refine (Hbut.out _ HI.out.hb).mono ?_
                        rintro e w2 ⟨bv, bxs, rfl, hO, hb2⟩
                        exact hK _ _ (.inl ⟨⟨H12.out, Hc2.out⟩, _, _, _, _, _, _, _, _, _, _, _, _, _, rfl, Hat.out bv bxs _ w2 hb2 hO⟩)
                      · obtain rfl := Option.some.inj ho
                        have Hc2 := hide (clo_set Hcl.out 5 (fun m hm => by simp only [dep15, List.not_mem_nil] at hm))
                        clear ho hdep hD
                        refine wpOp_step rfl (fun K hK => ?_)
                        go_simp
                        exact hK _ _ (.inl ⟨⟨H12.out, Hc2.out⟩, _, _, _, _, _, _, _, _, _, _, _, _, _, rfl, HI.out.at5⟩)
                      · obtain rfl := Option.some.inj ho
                        have x5 := hdep ⟨5, .data⟩ (by simp) rfl
                        have Hc2 := hide (clo_set Hcl.out 6 (fun m hm => by simp only [dep15, List.mem_cons, List.not_mem_nil, or_false] at hm; subst hm; assumption))
                        have d5 := HI.out.h5 x5
                        subst d5
                        clear ho hdep hD
                        refine wpOp_step rfl (fun K hK => ?_)
                        go_simp
                        exact hK _ _ (.inl ⟨⟨H12.out, Hc2.out⟩, _, _, _, _, _, _, _, _, _, _, _, _, _, rfl, HI.out.at6⟩)
                      · obtain rfl := Option.some.inj ho
                        have Hc2 := hide (clo_set Hcl.out 7 (fun m hm => by simp only [dep15, List.not_mem_nil] at hm))
                        clear ho hdep hD
                        refine wpOp_step rfl (fun K hK => ?_)
                        go_simp
                        exact hK _ _ (.inl ⟨⟨H12.out, Hc2.out⟩, _, _, _, _, _, _, _, _, _, _, _, _, _, rfl, HI.out.at7⟩)
                      · obtain rfl := Option.some.inj ho
                        have x7 := hdep ⟨7, .data⟩ (by simp) rfl
                        have Hc2 := hide (clo_set Hcl.out 8 (fun m hm => by simp only [dep15, List.mem_cons, List.not_mem_nil, or_false] at hm; subst hm; assumption))
                        have d7 := HI.out.h7 x7
                        subst d7
                        clear ho hdep hD
                        refine wpOp_step rfl (fun K hK => ?_)
                        go_simp
                        exact hK _ _ (.inl ⟨⟨H12.out, Hc2.out⟩, _, _, _, _, _, _, _, _, _, _, _, _, _, rfl, HI.out.at8⟩)
                      · obtain rfl := Option.some.inj ho
                        have x6 := hdep ⟨6, .data⟩ (by simp) rfl
                        have x8 := hdep ⟨8, .data⟩ (by simp) rfl
                        have Hc2 := hide (clo_set Hcl.out 9 (fun m hm => by simp only [dep15, List.mem_cons, List.not_mem_nil, or_false] at hm; rcases hm with rfl | rfl <;> assumption))
                        have d6 := HI.out.h6 x6
                        subst d6
                        have d8 := HI.out.h8 x8
                        subst d8
                        clear ho hdep hD
                        refine wpOp_step rfl (fun K hK => ?_)
                        go_simp
                        exact hK _ _ (.inl ⟨⟨H12.out, Hc2.out⟩, _, _, _, _, _, _, _, _, _, _, _, _, _, rfl, HI.out.at9⟩)
                      · obtain rfl := Option.some.inj ho
                        have x9 := hdep ⟨9, .data⟩ (by simp) rfl
                        have Hc2 := hide (clo_set Hcl.out 10 (fun m hm => by simp only [dep15, List.mem_cons, List.not_mem_nil, or_false] at hm; subst hm; assumption))
                        have d9 := HI.out.h9 x9
                        subst d9
                        have h11 : D 11 = false := by
                          cases e : D 11
                          · rfl
                          · have := Hcl.out 11 e 10 (by decide); rw [hD] at this; cases this
                        have HI2 := hide (HI.out.at10 h11)
                        clear ho hdep hD h11
                        refine wpOp_step rfl (fun K hK => ?_)
                        go_simp
                        exact hK _ _ (.inl ⟨⟨H12.out, Hc2.out⟩, _, _, _, _, _, _, _, _, _, _, _, _, _, rfl, HI2.out⟩)
                      · obtain rfl := Option.some.inj ho
                        have x4 := hdep ⟨4, .data⟩ (by simp) rfl
                        have x10 := hdep ⟨10, .data⟩ (by simp) rfl
                        have Hc2 := hide (clo_set Hcl.out 11 (fun m hm => by simp only [dep15, List.mem_cons, List.not_mem_nil, or_false] at hm; rcases hm with rfl | rfl <;> assumption))
                        obtain ⟨X, ys, o1, o3⟩ := HI.out.h4 x4 hD
                        obtain ⟨g9', r1, r2⟩ := HI.out.h10 x10
                        have Hat := hide (fun v w4 ho hg => HI.out.at11 (v := v) (w4 := w4) o1 ho hg)
                        have Hcs : Hid (Cs w' s78 1 7 (litV (true, ((tv', ti'), tk'), ((sv', si'), sk')) (.slice td1 (Fo.len tk') td3) (.slice sd1 (Fo.len sk') sd3))) := ⟨some ⟨g9', 0, none⟩, 1, r1, rfl, by simp [Value.oneCell'], fun e => (by cases e), fun ad e j u hj => by cases e; rw [add_plain, Nat.zero_add]; exact r2 hD j u hj⟩
                        have Ho1 := hide o1.row
                        clear ho hdep hD o3 r1 r2 o1
                        refine wpOp_step rfl (fun K hK => ?_)
                        rw [if_pos (show Region.wanted _ _ = true from rfl)]
                        refine wp_append_gen (.tmp 72) (.tmp 78) 25 rfl wk.heap.size 42 iL (.agg #[.bool false, .bool false, .int .i64 0, .slice none 0 0, .bool false, .int .i64 0, .slice none 0 0]) 7 88 Tryz.underlying25 Hi.out.1 Hi.out.2.1 Hi.out.2.2.1 Hi.out.2.2.2 rfl (by decide) s72 _ ys rfl Ho1.out s78 1 _ rfl Hcs.out HX.out.1 HX.out.2 HI.out.hb.size ?_
                        intro v4 w4 ho4 hg4 hat4
                        exact hK _ _ (.inl ⟨⟨H12.out, Hc2.out⟩, _, _, _, _, _, _, _, _, _, _, _, _, _, rfl, Hat.out v4 w4 ho4 hg4⟩)
                      · obtain rfl := Option.some.inj ho
                        have x0 := hdep ⟨0, .data⟩ (by simp) rfl
                        have x1 := hdep ⟨1, .data⟩ (by simp) rfl
                        have x11 := hdep ⟨11, .data⟩ (by simp) rfl
                        have Hc2 := hide (clo_set Hcl.out 12 (fun m hm => by simp only [dep15, List.mem_cons, List.not_mem_nil, or_false] at hm; rcases hm with rfl | rfl | rfl <;> assumption))
                        have d0 := HI.out.h0 x0
                        subst d0
                        have d1 := HI.out.h1 x1
                        subst d1
                        obtain ⟨X, ys, o1, o2, o3⟩ := HI.out.h11 x11
                        have Hall := hide (all15 Hcl.out x0 x1 x11)
                        have Hca := hide (HaddA.out w' s79 ys HI.out.hb o1 ⟨X, o2, o3⟩)
                        clear ho hdep hD o1 o2 o3
                        refine wpOp_step rfl (fun K hK => ?_)
                        go_simp
                        refine Hca.out.mono ?_
                        rintro e w2 ⟨rfl, hfin⟩
                        exact hK _ _ (.inr ⟨Hall.out, _, _, _, _, _, _, _, _, _, _, _, _, _, rfl, hfin⟩)
                    · exact absurd (hall i' hi) (by rw [hD]; decide)
                  · rintro D a w' (⟨⟨h12, -⟩, -⟩ | ⟨-, s68, s69, s70, s71, s72, s73, s74, s75, s76, s77, s78, s79, s80, rfl, v2, xs2, hL2, hB4⟩) hall
                    · rw [hall 12 (by decide)] at h12; cases h12
                    · have HL2 := hide hL2
                      clear hall hL2
                      go_wp2_with fail
                      go_roundw
                      case rel => exact ⟨k + 1, v2, xs2, by omega, by go_num, HL2.out, hB4⟩
                      case measure => simp [intOf]; omega
            · have hk4 : k = 4 := by omega
              subst hk4
              have Hend : Hid (LSt w.heap.size wr w.heap.size (foldN (facJ U c i) (facTo U c i) (j + 1)).1 (foldN (facJ U c i) (facTo U c i) (j + 1)).2 v xs) := by
                rw [Hid, Hfk.out]; exact HL.out
              clear p0 p1 p2 p3 p4 p5 p6 q0 q1 q2 q3 q4 q5 q6
              go_wp2_with fail
              go_roundw
              case rel => exact ⟨j + 1, v, xs, by omega, by go_num, Hend.out, hBr⟩
              case measure => simp [intOf]; omega
        · have hje : j = c.length := by omega
          subst hje
          have Hend : Hid (LSt w.heap.size wr w.heap.size (facTo U c (i + 1)).1 (facTo U c (i + 1)).2 v xs) := by
            rw [Hid, Hsc.out]; exact HL.out
          go_wp2_with fail
          go_roundw
          case rel => exact ⟨i + 1, v, xs, by omega, by go_num, Hend.out, hBr⟩
          case measure => simp [intOf]; omega
    · have hje : i = c.length := by omega
      subst hje
      have Hfin := hide HL.out.csin
      have k0 := HL.out.c0
      have k1 := HL.out.c1
      obtain ⟨z1, z3, hv⟩ := HL.out.slice
      have Hvv := hide hv
      clear hv had
      go_upto_region 19 with fail
      go_region
      go_wp2_with fail
      go_ret2
      exact ⟨v, rfl, Hfin.out.below (Below.refl _ _).drew, hBr.drew⟩
end Go.Proofs.YtaliegkkdhkfcacGreat

namespace Go.Proofs.YtaliegkkdhkfcacGreat
open Go.RowKit Go.Deep Go.ChangeShapes Go.WideShapes
attribute [local go_sem ↓] Go.wp_at_zero Go.wp_at_succ
def B3 (w : World) (b : Nat) (x y z : Value) : Prop := w.cell? ⟨b, 0, none⟩ = some x ∧ w.cell? ⟨b, 1, none⟩ = some y ∧ w.cell? ⟨b, 2, none⟩ = some z ∧ ∀ i, w.frozen? ⟨b, i, none⟩ = false
end Go.Proofs.YtaliegkkdhkfcacGreat

namespace Go.Proofs.YtaliegkkdhkfcacGreat
open Go.RowKit Go.Deep Go.ChangeShapes Go.WideShapes
theorem cmp_more {a b : Tm} (ha : okT a) (hb : okT b) (h : abvT a b = true) : cmpT a b = 3 := by
  unfold cmpT
  rw [if_neg (fun e => abv_ne ha h ((sameT_iff ha hb).1 e)), if_pos h]
theorem ok_norm : ∀ {F : Fo}, Fo.ok F → Fo.norm F = F
  | .nil, _ => rfl
  | .node p q x k r, h => by
    obtain ⟨rfl, rfl, h3, h4⟩ := ok_node.1 h
    simp [Fo.norm, ok_norm h3.2, ok_norm h4]
theorem setF_two {f : Tm → Tm} : ∀ {F : Fo} {i : Nat} {y : Tm}, twoF F → F.list[i]? = some y → twoT (f y) → twoF (setF F i f)
  | .nil, _, _, _, h, _ => by simp [Fo.list] at h
  | .node _ _ x k r, 0, y, ho, h, hf => by
    simp only [Fo.list, List.getElem?_cons_zero, Option.some.injEq] at h
    subst h
    rw [two_node] at ho
    rw [setF]
    exact two_node.2 ⟨hf, ho.2⟩
  | .node _ _ x k r, i + 1, y, ho, h, hf => by
    rw [two_node] at ho
    rw [setF]
    exact two_node.2 ⟨ho.1, setF_two ho.2 (by simpa [Fo.list] using h) hf⟩
theorem setF_occ {f : Tm → Tm} {m : Int} : ∀ {F : Fo} {i : Nat} {y : Tm}, F.list[i]? = some y → occF m (setF F i f) → occF m F ∨ occT m (f y)
  | .nil, _, _, h, _ => by simp [Fo.list] at h
  | .node _ _ x k r, 0, y, h, ho => by
    simp only [Fo.list, List.getElem?_cons_zero, Option.some.injEq] at h
    subst h
    rw [setF, occF] at ho
    rcases ho with ho | ho
    · exact .inr ho
    · exact .inl (by rw [occF]; exact .inr ho)
  | .node _ _ x k r, i + 1, y, h, ho => by
    rw [setF, occF] at ho
    rcases ho with ho | ho
    · exact .inl (by rw [occF]; exact .inl ho)
    · rcases setF_occ (by simpa [Fo.list] using h) ho with h1 | h1
      · exact .inl (by rw [occF]; exact .inr h1)
      · exact .inr h1
theorem gd_put {u : Tm} (hu : Gd u) : ∀ {p : List Int} {x : Bool × Int} {k : Fo} {z : Tm}, Gd (x, k) → atT p x k = some z → Gd (putT p (x, k) u) ∧ szT (putT p (x, k) u) ≤ szT (x, k) + szT u
  | [], _, _, _, _, _ => ⟨hu, Nat.le_add_left _ _⟩
  | n :: p, x, k, z, hg, h => by
    obtain ⟨hx, h0, h1, y, hy, hz⟩ := atT_some h
    obtain ⟨i1, i2⟩ := gd_put hu (gd_mem hg hx (List.mem_of_getElem? hy)) hz
    rw [putT_cons hx h0 h1]
    refine ⟨⟨⟨fun e => absurd (hx.symm.trans e) (by decide), setF_ok hg.ok.2 hy i1.ok⟩, ⟨by rw [setF_len]; exact hg.two.1, setF_two hg.two.2 hy i1.two⟩, fun m hm => ?_⟩, ?_⟩
    · unfold occT at hm
      simp only [hx, Bool.false_eq_true, if_false] at hm
      rcases setF_occ hy hm with h2 | h2
      · exact hg.few m (by unfold occT; simp only [hx, Bool.false_eq_true, if_false]; exact h2)
      · exact i1.few m h2
    · have h3 : Fo.sizesR (setF k n.toNat fun s => putT p s u) + szT y = Fo.sizesR k + szT (putT p y u) := setF_szR (fun s => putT p s u) hy
      have h4 : szT (putT p y u) ≤ szT y + szT u := i2
      show 1 + Fo.sizesR (setF k n.toNat fun s => putT p s u) ≤ 1 + Fo.sizesR k + szT u
      omega
end Go.Proofs.YtaliegkkdhkfcacGreat
