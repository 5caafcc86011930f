/- What makes two terms the same, told of terms alone: each step keeps what is known; it ends; what is found makes them the same, and no more than it must. -/
import Derived.Test.YtleogbdinafpaaaG08
namespace Go.Proofs.Ytleogbdinafpaaa
open Go.RowKit Go.Deep Go.ChangeShapes Go.WideShapes

/-- A step's four ways. -/
theorem stepU_cases {s s' : Sb} {a b : Tm} {L L' : List (Tm × Tm)} (h : stepU s a b L = some (s', L')) :
    ((top s a).1.1 = true ∧ (top s b).1.1 = true ∧ (top s a).1.2 = (top s b).1.2 ∧ s' = s ∧ L' = L) ∨
    (∃ x y, (x = top s a ∧ y = top s b ∨ x = top s b ∧ y = top s a) ∧ x.1.1 = true ∧ addS s x.1.2 (subT (bnd s) y) = some s' ∧ L' = L) ∨
    (¬ (top s a).1.1 = true ∧ ¬ (top s b).1.1 = true ∧ (top s a).1.2 = (top s b).1.2 ∧ Fo.len (top s a).2 = Fo.len (top s b).2 ∧ s' = s ∧ L' = (top s a).2.list.zip (top s b).2.list ++ L) := by
  unfold stepU at h
  split at h
  · rename_i hc
    simp only [Option.some.injEq, Prod.mk.injEq] at h
    exact .inl ⟨hc.1, hc.2.1, hc.2.2, h.1.symm, h.2.symm⟩
  · split at h
    · rename_i hv
      simp only [Option.map_eq_some_iff, Prod.mk.injEq] at h
      obtain ⟨s1, h1, rfl, rfl⟩ := h
      exact .inr (.inl ⟨_, _, .inl ⟨rfl, rfl⟩, hv, h1, rfl⟩)
    · split at h
      · rename_i hv
        simp only [Option.map_eq_some_iff, Prod.mk.injEq] at h
        obtain ⟨s1, h1, rfl, rfl⟩ := h
        exact .inr (.inl ⟨_, _, .inr ⟨rfl, rfl⟩, hv, h1, rfl⟩)
      · split at h
        · rename_i h1 h2 h3
          simp only [Option.some.injEq, Prod.mk.injEq] at h
          exact .inr (.inr ⟨h1, h2, h3.1, h3.2, h.1.symm, h.2.symm⟩)
        · cases h

theorem ui_tail {s : Sb} {p : Tm × Tm} {L : List (Tm × Tm)} (h : UI s (p :: L)) : UI s L :=
  ⟨h.gs, h.vs, fun q hq => h.gL q (by simp [hq]), h.idem, h.five, h.dep.2.2, h.deps⟩

theorem step_add {s s' : Sb} {p : Tm × Tm} {L : List (Tm × Tm)} {x y : Tm} (h : UI s (p :: L)) (hxy : x = top s p.1 ∧ y = top s p.2 ∨ x = top s p.2 ∧ y = top s p.1) (hv : x.1.1 = true) (ha : addS s x.1.2 (subT (bnd s) y) = some s') :
    UI s' L ∧ fre s' < fre s ∧ Ref s s' ∧ bnd s' x.1.2 = subT (bnd s') y := by
  have hp := h.gL p (by simp)
  have hgx : Gd x := by rcases hxy with ⟨rfl, _⟩ | ⟨rfl, _⟩; exact gd_top h.gs hp.1; exact gd_top h.gs hp.2
  have hgy : Gd y := by rcases hxy with ⟨_, rfl⟩ | ⟨_, rfl⟩; exact gd_top h.gs hp.2; exact gd_top h.gs hp.1
  have hfree : look s x.1.2 = none := by rcases hxy with ⟨rfl, _⟩ | ⟨rfl, _⟩ <;> exact top_free h.idem hv
  have hrng : 0 ≤ x.1.2 ∧ x.1.2 ≤ 4 := hgx.few _ (by unfold occT; simp [hv])
  have hdy : depT (subT (bnd s) y) ≤ 12 * 2 ^ s.length := by
    have h1 := h.dep.1
    have h2 := h.dep.2.1
    rcases hxy with ⟨_, rfl⟩ | ⟨_, rfl⟩
    · rw [top_sub h.idem (ui_ok h)]; omega
    · rw [top_sub h.idem (ui_ok h)]; omega
  have hgt := gd_sub h.gs hgy
  obtain ⟨f1, f2, f3, f4, f5⟩ := add_facts ha h.idem hfree hgt.ok (fun m hm => sub_free h.idem hm)
  have hlt := fre_add ha hfree hrng
  have e := (addS_some ha).2
  have hlen : s'.length = s.length + 1 := by rw [e]; simp
  have hpow : 12 * 2 ^ s'.length = 12 * 2 ^ s.length + 12 * 2 ^ s.length := by rw [hlen, Nat.pow_succ]; omega
  have hpos : 0 < 2 ^ s.length := Nat.pow_pos (by decide)
  have hone : ∀ q ∈ [(x.1.2, subT (bnd s) y)], Gd q.2 := fun q hq => by
    simp only [List.mem_singleton] at hq
    subst hq
    exact hgt
  have hd1 : ∀ m, depT (bnd [(x.1.2, subT (bnd s) y)] m) ≤ (12 * 2 ^ s.length - 1) + 1 := fun m => by
    rw [bnd_one]
    split
    · omega
    · simp [vr, depT, depF]
  have hr : ∀ u, subT (bnd s') u = subT (bnd [(x.1.2, subT (bnd s) y)]) (subT (bnd s) u) := fun u => by
    rw [← ref_sub f1, f5 _ (fun m hm => sub_free h.idem hm)]
  refine ⟨⟨?_, ?_, fun q hq => h.gL q (by simp [hq]), f2, by have := h.five; omega, ?_, ?_⟩, hlt, f1, ?_⟩
  · intro q hq
    rw [e, List.mem_append, List.mem_map, List.mem_singleton] at hq
    rcases hq with ⟨q, hq, rfl⟩ | rfl
    · exact gd_sub hone (h.gs q hq)
    · exact hgt
  · intro q hq
    rw [e, List.mem_append, List.mem_map, List.mem_singleton] at hq
    rcases hq with ⟨q, hq, rfl⟩ | rfl
    · exact h.vs q hq
    · exact hrng
  · rw [hpow]
    have := dpL_add (D := 12 * 2 ^ s.length) (d := 12 * 2 ^ s.length - 1) hr (by omega) h.dep.2.2
    have hm : ∀ {D D' : Nat} {M : List (Tm × Tm)}, D ≤ D' → dpL s' D M → dpL s' D' M := by
      intro D D' M hD
      induction M with
      | nil => exact fun _ => trivial
      | cons q M ih => exact fun hM => ⟨Nat.le_trans hM.1 hD, Nat.le_trans hM.2.1 hD, ih hM.2.2⟩
    exact hm (by omega) this
  · intro q hq
    rw [e, List.mem_append, List.mem_map, List.mem_singleton] at hq
    rcases hq with ⟨q, hq, rfl⟩ | rfl
    · have := depT_sub hd1 q.2
      have := h.deps q hq
      simp only
      omega
    · simp only; omega
  · rw [f3, ← ref_sub f1, f4]

/-- How much there is, by what is bound. -/
def szT (t : Tm) : Nat := tszR t.2
def tot (s : Sb) : List (Tm × Tm) → Nat
  | [] => 0
  | p :: L => szT (subT (bnd s) p.1) + szT (subT (bnd s) p.2) + tot s L
theorem tot_append (s : Sb) : ∀ L M : List (Tm × Tm), tot s (L ++ M) = tot s L + tot s M
  | [], M => by simp [tot]
  | p :: L, M => by simp only [List.cons_append, tot, tot_append s L M]; omega
theorem tot_zip (s : Sb) : ∀ {F G : Fo}, Fo.len F = Fo.len G → tot s (F.list.zip G.list) = Fo.sizesR (subF (bnd s) F) + Fo.sizesR (subF (bnd s) G)
  | .nil, .nil, _ => rfl
  | .nil, .node _ _ _ _ _, h => by simp [Fo.len] at h
  | .node _ _ _ _ _, .nil, h => by simp [Fo.len] at h
  | .node p q x k r, .node p' q' y l r', h => by
    have := tot_zip s (F := r) (G := r') (by simpa [Fo.len] using h)
    rw [subF_node, subF_node]
    simp only [Fo.list, List.zip_cons_cons, tot, this, Fo.sizesR, szT, tszR]
    omega

theorem step_dec {s : Sb} {p : Tm × Tm} {L : List (Tm × Tm)} (h : UI s (p :: L)) (e1 : ¬ (top s p.1).1.1 = true) (e2 : ¬ (top s p.2).1.1 = true) (hl : Fo.len (top s p.1).2 = Fo.len (top s p.2).2) :
    UI s ((top s p.1).2.list.zip (top s p.2).2.list ++ L) ∧ tot s ((top s p.1).2.list.zip (top s p.2).2.list ++ L) < tot s (p :: L) := by
  have hp := h.gL p (by simp)
  have g1 := gd_top h.gs hp.1
  have g2 := gd_top h.gs hp.2
  have t1 := top_sub h.idem (ui_ok h) p.1
  have t2 := top_sub h.idem (ui_ok h) p.2
  have s1 := sym_eq e1
  have s2 := sym_eq e2
  generalize top s p.1 = x at *
  generalize top s p.2 = y at *
  obtain ⟨⟨xv, xn⟩, xk⟩ := x
  obtain ⟨⟨yv, yn⟩, yk⟩ := y
  have hxv : xv = false := by simpa using e1
  have hyv : yv = false := by simpa using e2
  subst hxv hyv
  rw [subT_sym] at t1 t2
  have d1 := h.dep.1
  have d2 := h.dep.2.1
  rw [← t1] at d1
  rw [← t2] at d2
  simp only [depT] at d1 d2
  refine ⟨⟨h.gs, h.vs, ?_, h.idem, h.five, ?_, h.deps⟩, ?_⟩
  · intro q hq
    rw [List.mem_append] at hq
    rcases hq with hq | hq
    · have := List.of_mem_zip hq
      exact ⟨gd_mem g1 rfl this.1, gd_mem g2 rfl this.2⟩
    · exact h.gL q (by simp [hq])
  · exact dpL_zip (x := xk) (y := yk) (by omega) (by omega) g1.two.1 h.dep.2.2
  · rw [tot_append, tot_zip s hl, tot, ← t1, ← t2]
    simp only [szT, tszR]
    omega

theorem step_keeps {s s' : Sb} {p : Tm × Tm} {L L' : List (Tm × Tm)} (h : UI s (p :: L)) (hst : stepU s p.1 p.2 L = some (s', L')) :
    UI s' L' ∧ (fre s' < fre s ∨ (fre s' = fre s ∧ tot s' L' < tot s (p :: L))) := by
  rcases stepU_cases hst with ⟨_, _, _, rfl, rfl⟩ | ⟨x, y, hxy, hv, ha, rfl⟩ | ⟨e1, e2, _, hl, rfl, rfl⟩
  · refine ⟨ui_tail h, .inr ⟨rfl, ?_⟩⟩
    simp only [tot, szT, tszR]; omega
  · have := step_add h hxy hv ha
    exact ⟨this.1, .inl this.2.1⟩
  · have := step_dec h e1 e2 hl
    exact ⟨this.1, .inr ⟨rfl, this.2⟩⟩

/-- It ends. -/
theorem runU_end : ∀ (u t : Nat) (s : Sb) (L : List (Tm × Tm)), fre s = u → tot s L = t → UI s L → ∃ n R, runU n s L = some R := by
  intro u
  induction u using Nat.strongRecOn with
  | _ u ihu =>
    intro t
    induction t using Nat.strongRecOn with
    | _ t iht =>
      intro s L hu ht h
      cases L with
      | nil => exact ⟨1, some s, rfl⟩
      | cons p L =>
        cases hst : stepU s p.1 p.2 L with
        | none => exact ⟨1, none, by simp [runU, hst]⟩
        | some q =>
          obtain ⟨s', L'⟩ := q
          obtain ⟨h', hd⟩ := step_keeps h hst
          have : ∃ n R, runU n s' L' = some R := by
            rcases hd with hd | ⟨he, hd⟩
            · exact ihu (fre s') (by omega) (tot s' L') s' L' rfl rfl h'
            · exact iht (tot s' L') (by omega) s' L' (by omega) rfl h'
          obtain ⟨n, R, hn⟩ := this
          exact ⟨n + 1, R, by simp [runU, hst, hn]⟩

/-- What is found makes them the same. -/
theorem runU_sound : ∀ (n : Nat) (s s' : Sb) (L : List (Tm × Tm)), UI s L → runU n s L = some (some s') → UI s' [] ∧ Ref s s' ∧ ∀ p ∈ L, subT (bnd s') p.1 = subT (bnd s') p.2 := by
  intro n
  induction n with
  | zero => intro s s' L _ hr; simp [runU] at hr
  | succ n ih =>
    intro s s' L h hr
    cases L with
    | nil =>
      simp only [runU, Option.some.injEq] at hr
      subst hr
      exact ⟨h, ref_refl h.idem (ui_ok h), fun p hp => by simp at hp⟩
    | cons p L =>
      cases hst : stepU s p.1 p.2 L with
      | none => simp [runU, hst] at hr
      | some q =>
        obtain ⟨s1, L1⟩ := q
        simp only [runU, hst] at hr
        obtain ⟨h1, _⟩ := step_keeps h hst
        obtain ⟨i1, i2, i3⟩ := ih s1 s' L1 h1 hr
        rcases stepU_cases hst with ⟨e1, e2, e3, rfl, rfl⟩ | ⟨x, y, hxy, hv, ha, rfl⟩ | ⟨e1, e2, e3, hl, rfl, rfl⟩
        · refine ⟨i1, i2, fun q hq => ?_⟩
          simp only [List.mem_cons] at hq
          rcases hq with rfl | hq
          · have hp := h.gL q (by simp)
            have g1 := var_eq (gd_top h.gs hp.1).ok e1
            have g2 := var_eq (gd_top h.gs hp.2).ok e2
            have et : top s1 q.1 = top s1 q.2 := by rw [g1, g2, e3]
            rw [← ref_sub i2 q.1, ← ref_sub i2 q.2, ← top_sub h.idem (ui_ok h) q.1, ← top_sub h.idem (ui_ok h) q.2, et]
          · exact i3 q hq
        · obtain ⟨_, _, f1, f2⟩ := step_add h hxy hv ha
          have hsame : subT (bnd s1) (top s p.1) = subT (bnd s1) (top s p.2) := by
            have hx : subT (bnd s1) x = subT (bnd s1) y := by
              rw [← f2]
              unfold subT
              rw [if_pos hv]
            rcases hxy with ⟨rfl, rfl⟩ | ⟨rfl, rfl⟩
            · exact hx
            · exact hx.symm
          refine ⟨i1, ref_trans f1 i2, fun q hq => ?_⟩
          simp only [List.mem_cons] at hq
          rcases hq with rfl | hq
          · have k : ∀ t, subT (bnd s') t = subT (bnd s') (subT (bnd s1) (top s t)) := fun t => by
              rw [ref_sub i2, ← ref_sub (ref_trans f1 i2) t, ← top_sub h.idem (ui_ok h) t, ref_sub (ref_trans f1 i2)]
            rw [k q.1, k q.2, hsame]
          · exact i3 q hq
        · refine ⟨i1, i2, fun q hq => ?_⟩
          simp only [List.mem_cons] at hq
          rcases hq with rfl | hq
          · have hz := subF_of_zip (f := bnd s') (bnd_ok (ui_ok i1)) hl (fun r hr => i3 r (by simp [hr]))
            have k : ∀ t, subT (bnd s') t = subT (bnd s') (top s1 t) := fun t => by
              rw [← ref_sub i2 t, ← top_sub h.idem (ui_ok h) t, ref_sub i2]
            rw [k q.1, k q.2, sym_eq e1, sym_eq e2, subT_sym, subT_sym, hz, e3]
          · exact i3 q (by simp [hq])

theorem size_occF {n : Int} {f : Int → Tm} : ∀ {F : Fo}, occF n F → szT (f n) ≤ Fo.sizesR (subF f F)
  | .nil, h => by simp [occF] at h
  | .node p q ⟨v, m⟩ k r, h => by
    rw [subF_node]
    simp only [Fo.sizesR]
    rcases h with h | h
    · cases v
      · have := size_occF (f := f) (F := k) (by simpa using h)
        simp only [subT_sym]; omega
      · have e : m = n := by simpa using h
        subst e
        simp only [subT_var, szT, tszR]; omega
    · have := size_occF (f := f) (F := r) h
      omega

/-- And no more than it must: whatever makes them the same binds what was bound to the same. -/
theorem runU_most {σ : Int → Tm} : ∀ (n : Nat) (s : Sb) (R : Option Sb) (L : List (Tm × Tm)), UI s L → runU n s L = some R → (∀ p ∈ s, subT σ p.2 = σ p.1) → (∀ p ∈ L, subT σ p.1 = subT σ p.2) →
    ∃ s', R = some s' ∧ ∀ p ∈ s', subT σ p.2 = σ p.1 := by
  intro n
  induction n with
  | zero => intro s R L _ hr; simp [runU] at hr
  | succ n ih =>
    intro s R L h hr hs hL
    cases L with
    | nil =>
      simp only [runU, Option.some.injEq] at hr
      exact ⟨s, hr.symm, hs⟩
    | cons p L =>
      have hb : ∀ t, subT σ (subT (bnd s) t) = subT σ t := fun t => by
        rw [subT_sub]
        refine subT_congr fun m _ => ?_
        cases e : look s m with
        | none => rw [bnd_none e]; rfl
        | some u => rw [bnd_some e]; exact hs _ (look_mem e)
      have ht : ∀ t, subT σ (top s t) = subT σ t := fun t => by rw [← hb (top s t), top_sub h.idem (ui_ok h), hb]
      have heq : subT σ (top s p.1) = subT σ (top s p.2) := by rw [ht, ht]; exact hL p (by simp)
      have hp := h.gL p (by simp)
      have g1 := gd_top h.gs hp.1
      have g2 := gd_top h.gs hp.2
      -- a binding never fails
      have hadd : ∀ x y, (x = top s p.1 ∧ y = top s p.2 ∨ x = top s p.2 ∧ y = top s p.1) → x.1.1 = true → ¬ (y.1.1 = true ∧ x.1.2 = y.1.2) → ∀ z, addS s x.1.2 (subT (bnd s) y) = z → ∃ s', z = some s' ∧ ∀ q ∈ s', subT σ q.2 = σ q.1 := by
        intro x y hxy hv hne z hz
        have gx : Gd x := by rcases hxy with ⟨rfl, _⟩ | ⟨rfl, _⟩; exact g1; exact g2
        have gy : Gd y := by rcases hxy with ⟨_, rfl⟩ | ⟨_, rfl⟩; exact g2; exact g1
        have exy : σ x.1.2 = subT σ y := by
          have : subT σ x = subT σ y := by rcases hxy with ⟨rfl, rfl⟩ | ⟨rfl, rfl⟩; exact heq; exact heq.symm
          rw [← this]
          unfold subT
          rw [if_pos hv]
        have hyf : y.1.1 = true → look s y.1.2 = none := fun e => by rcases hxy with ⟨_, rfl⟩ | ⟨_, rfl⟩ <;> exact top_free h.idem e
        cases z with
        | none =>
          exfalso
          have ho := addS_none hz
          by_cases hyv : y.1.1 = true
          · have e1 : subT (bnd s) y = vr y.1.2 := by
              unfold subT
              rw [if_pos hyv]
              exact bnd_none (hyf hyv)
            rw [e1, occ_vr] at ho
            exact hne ⟨hyv, ho.symm⟩
          · have e2 : subT σ (subT (bnd s) y) = σ x.1.2 := by rw [hb, exy]
            have e3 := sym_eq hyv
            rw [e3, subT_sym] at e2 ho
            rw [occ_sym] at ho
            have h1 := size_occF (f := σ) ho
            rw [← e2, subT_sym] at h1
            simp only [szT, tszR] at h1
            omega
        | some s' =>
          refine ⟨s', rfl, fun q hq => ?_⟩
          have hone : ∀ t, subT σ (subT (bnd [(x.1.2, subT (bnd s) y)]) t) = subT σ t := fun t => by
            rw [subT_sub]
            refine subT_congr fun m _ => ?_
            rw [bnd_one]
            split
            · rename_i e
              subst e
              rw [hb, exy]
            · rfl
          rw [(addS_some hz).2, List.mem_append, List.mem_map, List.mem_singleton] at hq
          rcases hq with ⟨q, hq, rfl⟩ | rfl
          · simp only [hone]; exact hs q hq
          · simp only [hb, exy]
      cases hst : stepU s p.1 p.2 L with
      | none =>
        exfalso
        unfold stepU at hst
        split at hst
        · cases hst
        · rename_i hc
          split at hst
          · rename_i hv
            simp only [Option.map_eq_none_iff] at hst
            obtain ⟨_, e, _⟩ := hadd _ _ (.inl ⟨rfl, rfl⟩) hv (fun e => hc ⟨hv, e⟩) _ hst
            cases e
          · rename_i hnv
            split at hst
            · rename_i hv
              simp only [Option.map_eq_none_iff] at hst
              obtain ⟨_, e, _⟩ := hadd _ _ (.inr ⟨rfl, rfl⟩) hv (fun e => hnv e.1) _ hst
              cases e
            · rename_i hnv2
              rw [sym_eq hnv, sym_eq hnv2, subT_sym, subT_sym] at heq
              simp only [Prod.mk.injEq, true_and] at heq
              split at hst
              · cases hst
              · rename_i hne
                refine hne ⟨heq.1, ?_⟩
                rw [← subF_len σ, heq.2, subF_len]
      | some q =>
        obtain ⟨s1, L1⟩ := q
        simp only [runU, hst] at hr
        obtain ⟨h1, _⟩ := step_keeps h hst
        rcases stepU_cases hst with ⟨e1, e2, e3, rfl, rfl⟩ | ⟨x, y, hxy, hv, ha, rfl⟩ | ⟨e1, e2, e3, hl, rfl, rfl⟩
        · exact ih s1 R L1 h1 hr hs (fun q hq => hL q (by simp [hq]))
        · by_cases hne : y.1.1 = true ∧ x.1.2 = y.1.2
          · exfalso
            have : stepU s p.1 p.2 L1 = some (s, L1) := by
              unfold stepU
              rw [if_pos]
              rcases hxy with ⟨rfl, rfl⟩ | ⟨rfl, rfl⟩
              · exact ⟨hv, hne.1, hne.2⟩
              · exact ⟨hne.1, hv, hne.2.symm⟩
            rw [this] at hst
            simp only [Option.some.injEq, Prod.mk.injEq, and_true] at hst
            have := (step_add h hxy hv ha).2.1
            rw [hst] at this
            omega
          · obtain ⟨s2, e, hs2⟩ := hadd x y hxy hv hne _ ha
            cases e
            exact ih s1 R L1 h1 hr hs2 (fun q hq => hL q (by simp [hq]))
        · refine ih s1 R _ h1 hr hs (fun q hq => ?_)
          rw [List.mem_append] at hq
          rcases hq with hq | hq
          · rw [sym_eq e1, sym_eq e2, subT_sym, subT_sym] at heq
            simp only [Prod.mk.injEq, true_and] at heq
            exact subF_zip heq.2 q hq
          · exact hL q (by simp [hq])

end Go.Proofs.Ytleogbdinafpaaa

/- What a term is where each variable is something else: bind's variable, replace with it, own. -/
namespace Go.Proofs.Ytleogbdinafpaaa
open Go.RowKit Go.Deep Go.ChangeShapes Go.WideShapes
attribute [local go_sem ↓] Go.wp_at_zero Go.wp_at_succ

set_option maxRecDepth 100000 in
set_option maxHeartbeats 400000 in
theorem variable_any (n : Int) (w : World) : Calls Try.prog 26 #[.int .i64 n] w fun e w' => ∃ a, e = .returned (.agg #[.bool (vr n).1.1, .int .i64 (vr n).1.2, a]) ∧ OwnV w' w.heap.size w'.heap.size (vr n).2 a ∧ Below w.heap.size w w' := by
  go_enter Try.func26, Try.ntmps26
  go_wp2_with fail
  refine bodyPost_ret (v := .agg #[.bool true, .int .i64 n, .slice none 0 0]) (by simp [results, Try.results26, go_sem]) rfl ⟨_, rfl, .inl ⟨rfl, rfl⟩, ?_⟩
  exact below_alloc _ _

/-- So much of the answer's row is made. -/
def RepRel (g : Nat) (W2 : World) (k : Fo) (j : Nat) (wr : World) : Prop :=
  Below g W2 wr ∧ There wr g (Fo.len k * 3) ∧ WIn wr (Fo.take j k) g 0 (g + 1) wr.heap.size ∧ g + 1 ≤ wr.heap.size

theorem rep_step {g : Nat} {W2 wr w2 : World} {k : Fo} {j : Nat} {yv : Bool} {yn : Int} {yk : Fo} {ob : Obj} {a : Value} (h : RepRel g W2 k j wr) (hj : j < Fo.len k) (hy : k.list[j]? = some ((yv, yn), yk))
    (hb : Below (wr.heap.size + 1) (wr.alloc ob) w2) (hO : OwnV w2 (wr.heap.size + 1) w2.heap.size yk a) :
    RepRel g W2 k (j + 1) (set3 w2 g (j * 3) (.bool yv) (.int .i64 yn) a) := by
  obtain ⟨hB, hT, hW, hs⟩ := h
  have hsz : wr.heap.size + 1 ≤ w2.heap.size := by have := hb.size; simpa using this
  have keep : ∀ q i, q < wr.heap.size → w2.cell? ⟨q, i, none⟩ = wr.cell? ⟨q, i, none⟩ ∧ w2.frozen? ⟨q, i, none⟩ = wr.frozen? ⟨q, i, none⟩ := fun q i hq => by
    rw [hb.cell (by show q < _; omega), hb.frozen (by show q < _; omega)]
    exact ⟨World.cell?_alloc_lt _ _ _ hq, (below_alloc wr ob).frozen (p := ⟨q, i, none⟩) hq⟩
  have hT2 : There w2 g (Fo.len k * 3) := fun i hi => by
    obtain ⟨⟨v, hv⟩, hf⟩ := hT i hi
    have := keep g i (by omega)
    exact ⟨⟨v, this.1.trans hv⟩, this.2.trans hf⟩
  obtain ⟨⟨u0, e0⟩, f0⟩ := hT2 (j * 3) (by omega)
  obtain ⟨⟨u1, e1⟩, f1⟩ := hT2 (j * 3 + 1) (by omega)
  obtain ⟨⟨u2, e2⟩, f2⟩ := hT2 (j * 3 + 2) (by omega)
  obtain ⟨g0, g1, g2⟩ := set3_cells (x := .bool yv) (y := .int .i64 yn) (z := a) e0 e1 e2
  refine ⟨set3_below (hB.trans ((below_box (hb.mono (by simp))).mono (by omega))) (Nat.le_refl _), ?_, ?_, by rw [set3_size]; omega⟩
  · intro i hi
    obtain ⟨⟨v, hv⟩, hf⟩ := hT2 i hi
    refine ⟨?_, by rw [set3_frozen]; exact hf⟩
    by_cases hc : i < j * 3 ∨ j * 3 + 3 ≤ i
    · exact ⟨v, by rw [set3_other (.inr hc)]; exact hv⟩
    · have : i = j * 3 ∨ i = j * 3 + 1 ∨ i = j * 3 + 2 := by omega
      rcases this with rfl | rfl | rfl
      · exact ⟨_, g0⟩
      · exact ⟨_, g1⟩
      · exact ⟨_, g2⟩
  · rw [set3_size]
    have e : j * 3 = 0 + 3 * j := by omega
    refine WIn.snoc (mid := wr.heap.size) (a := a) hy (hW.frame ?_ ?_) hs (by omega) (by rw [← e]; exact g0) (by rw [← e]; exact g1) (by rw [← e]; exact g2) (by rw [set3_frozen, ← e]; exact f0) (by rw [set3_frozen, ← e]; exact f1) (by rw [set3_frozen, ← e]; exact f2) ?_
    · intro i _ hi
      rw [take_len j k (by omega)] at hi
      rw [set3_other (.inr (.inl (by omega))), set3_frozen]
      exact keep _ _ (by omega)
    · intro q i q1 q2
      rw [set3_other (.inl (by omega)), set3_frozen]
      exact keep _ _ q2
    · refine (hO.mono (by omega) (Nat.le_refl _)).frame ?_
      intro q i q1 q2
      rw [set3_other (.inl (by omega)), set3_frozen]
      exact ⟨rfl, rfl⟩

theorem rep_start (W2 : World) (k : Fo) (z : Array Value) : RepRel W2.heap.size W2 k 0 (W2.alloc (.cells (madeCells z (Fo.len k * 3)) 26)) := by
  refine ⟨(Below.refl _ _).alloc (Nat.le_refl _) _, fun i hi => ⟨?_, frozen_new _ _ _ _⟩, trivial, by simp⟩
  rw [World.cell?_alloc_new]
  exact ⟨_, Array.getElem?_eq_getElem (by rw [size_madeCells]; exact hi)⟩

/-- The row is made; what is written then is no part of it. -/
theorem rep_end {lo g : Nat} {W2 wr w' : World} {k : Fo} (h : RepRel g W2 k (Fo.len k) wr) (h0 : 0 < Fo.len k) (h1 : Fo.len k ≤ 1000) (hlo : lo ≤ g) (hs : w'.heap.size = wr.heap.size)
    (hc : ∀ q i, g ≤ q → w'.cell? ⟨q, i, none⟩ = wr.cell? ⟨q, i, none⟩ ∧ w'.frozen? ⟨q, i, none⟩ = wr.frozen? ⟨q, i, none⟩) :
    OwnV w' lo w'.heap.size k (.slice (some ⟨g, 0, none⟩) (Fo.len k) (Fo.len k)) := by
  obtain ⟨_, _, hW, hsz⟩ := h
  rw [take_all] at hW
  rw [hs]
  exact .inr ⟨g, hlo, by omega, h0, h1, rfl, hW.frame (fun i _ _ => hc _ _ (by omega)) (fun q i q1 q2 => hc _ _ (by omega))⟩

end Go.Proofs.Ytleogbdinafpaaa

/- What a term is where each variable is something else: bind's replace with variable; own. -/
namespace Go.Proofs.Ytleogbdinafpaaa
open Go.RowKit Go.Deep Go.ChangeShapes Go.WideShapes
attribute [local go_sem ↓] Go.wp_at_zero Go.wp_at_succ

def InvV (_ : World) : Prop := True
theorem invV_below {w w' : World} (_ : InvV w) (_ : Below w.heap.size w w') : InvV w' := trivial
theorem cloV_any (n : Int) (w : World) (_ : InvV w) : Calls Try.prog 26 #[.int .i64 n] w fun e w' => ∃ a, e = .returned (.agg #[.bool (vr n).1.1, .int .i64 (vr n).1.2, a]) ∧ OwnV w' w.heap.size w'.heap.size (vr n).2 a ∧ Below w.heap.size w w' := variable_any n w

def RepVSaid (x : Bool × Int) (k : Fo) : Prop := ∀ (a : Value) (w : World), InvV w → SIn w k a → Fo.len k ≤ 1000 → Fo.narrow k →
    Calls Try.prog 22 #[.agg #[.bool x.1, .int .i64 x.2, a], .func (.func 26) #[] #[]] w fun e w' => ∃ a', e = .returned (.agg #[.bool (subT vr (x, k)).1.1, .int .i64 (subT vr (x, k)).1.2, a']) ∧ OwnV w' w.heap.size w'.heap.size (subT vr (x, k)).2 a' ∧ Below w.heap.size w w'

set_option maxRecDepth 100000 in
set_option maxHeartbeats 1000000 in
theorem repV_any (x : Bool × Int) (k : Fo) : RepVSaid x k := by
  refine Fo.ind1 (p := RepVSaid ) ?_ x k
  clear x k
  intro x k ih a w hInv hS hlen hnar
  obtain ⟨v, n⟩ := x
  obtain ⟨ad, c, b, o, rfl, had, hlc, hcm, hF⟩ := hS
  have Hl := hide (Fo.len_list k)
  have HI := hide ih
  have HF := hide hF
  have Hnar := hide hnar
  have HInv := hide hInv
  clear ih hF hnar hInv
  unfold maxLen at hcm
  cases v
  · have Hres : Hid (subT vr ((false, n), k) = ((false, n), subF vr k)) := rfl
    by_cases h0 : Fo.len k = 0
    · have h0' : ¬ (0 : Int) < (Fo.len k : Int) := by omega
      have Hk := hide (len_zero h0)
      clear h0
      go_enter Try.func22, Try.ntmps22
      go_wp2_with fail
      go_loopw [29] (fun i wr => i = .int .i64 0 ∧ wr = ((w.alloc (.cells #[.bool false, .int .i64 n, .slice ad (Fo.len k) c] 26)).alloc (.cells #[.bool false, .int .i64 0, .slice none 0 0] 26)).alloc (.cells #[.bool false, .int .i64 n, .slice none 0 0] 26)) (fun _ _ => 0)
      case atStart => exact ⟨rfl, rfl⟩
      case round =>
        obtain ⟨rfl, rfl⟩ := hrel
        go_wp2_with fail
        refine bodyPost_ret (v := .agg #[.bool false, .int .i64 n, .slice none 0 0]) (by simp [results, Try.results22, go_sem]) rfl ⟨.slice none 0 0, ?_, ?_, ?_⟩
        · rw [Hres.out]
        · rw [Hres.out]; exact .inl ⟨by rw [Hk.out]; rfl, rfl⟩
        · exact ((below_alloc _ _).alloc (by simp) _).alloc (by simp; omega) _
    · have h0' : (0 : Int) < (Fo.len k : Int) := by omega
      have ha : ad = some ⟨b, o, none⟩ := had (by omega)
      subst ha
      have Hpos : Hid (0 < Fo.len k) := by unfold Hid; omega
      have hdec : decide (0 < Fo.len k) = true := by simp; omega
      clear h0 had
      obtain ⟨i26, hi, hz0, hz1, hz2⟩ := info_parts Try.info26
      have hmk := fun w : World => run_make (P := Try.prog) w 24 26 i26 _ Try.underlying24 hi hz0 .i64 .i64 (Fo.len k : Int) (Fo.len k : Int) (by omega) (by omega) (by rw [hz2]; omega) (by omega)
      rw [hz1] at hmk
      simp only [Int.toNat_natCast] at hmk
      have Hl2 := hide (subF_len vr k)
      go_enter Try.func22, Try.ntmps22
      go_wp2_with fail
      clear hmk hi hz0 hz1 hz2
      generalize hW2 : ((w.alloc (.cells #[.bool false, .int .i64 n, .slice (some ⟨b, o, none⟩) (Fo.len k) c] 26)).alloc (.cells #[.bool false, .int .i64 0, .slice none 0 0] 26)).alloc (.cells #[.bool false, .int .i64 n, .slice (some ⟨w.heap.size + 1 + 1 + 1, 0, none⟩) (Fo.len k) (Fo.len k)] 26) = W2
      have hs2 : W2.heap.size = w.heap.size + 1 + 1 + 1 := by rw [← hW2]; simp
      have HB2 : Hid (Below w.heap.size w W2) := by rw [← hW2]; exact ((below_alloc _ _).alloc (by simp) _).alloc (by simp; omega) _
      have r0 : W2.cell? ⟨w.heap.size + 1, 0, none⟩ = some (.bool false) := by rw [← hW2, World.cell?_alloc_lt _ _ _ (by show w.heap.size + 1 < _; rw [size2]; omega)]; exact new_cell (World.size_alloc _ _)
      have r1 : W2.cell? ⟨w.heap.size + 1, 1, none⟩ = some (.int .i64 0) := by rw [← hW2, World.cell?_alloc_lt _ _ _ (by show w.heap.size + 1 < _; rw [size2]; omega)]; exact new_cell (World.size_alloc _ _)
      have r2 : W2.cell? ⟨w.heap.size + 1, 2, none⟩ = some (.slice none 0 0) := by rw [← hW2, World.cell?_alloc_lt _ _ _ (by show w.heap.size + 1 < _; rw [size2]; omega)]; exact new_cell (World.size_alloc _ _)
      have rf : ∀ i, W2.frozen? ⟨w.heap.size + 1, i, none⟩ = false := fun i => by rw [← hW2, (below_alloc _ _).frozen (by show w.heap.size + 1 < _; rw [size2]; omega)]; exact new_frozen (World.size_alloc _ _)
      have q0 : W2.cell? ⟨w.heap.size + 1 + 1, 0, none⟩ = some (.bool false) := by rw [← hW2]; exact new_cell (size2 _ _ _)
      have q1 : W2.cell? ⟨w.heap.size + 1 + 1, 1, none⟩ = some (.int .i64 n) := by rw [← hW2]; exact new_cell (size2 _ _ _)
      have q2 : W2.cell? ⟨w.heap.size + 1 + 1, 2, none⟩ = some (.slice (some ⟨w.heap.size + 1 + 1 + 1, 0, none⟩) (Fo.len k) (Fo.len k)) := by rw [← hW2]; exact new_cell (size2 _ _ _)
      have HQ := hide (And.intro q0 (And.intro q1 (And.intro q2 (And.intro r0 (And.intro r1 (And.intro r2 rf))))))
      have H0 : Hid (RepRel (w.heap.size + 1 + 1 + 1) W2 (subF vr k) 0 (W2.alloc (.cells (madeCells #[.bool false, .int .i64 0, .slice none 0 0] (Fo.len k * 3)) 26))) := by
        have := rep_start W2 (subF vr k) #[.bool false, .int .i64 0, .slice none 0 0]
        rw [Hl2.out, hs2] at this
        exact this
      have Hs2 := hide hs2
      clear q0 q1 q2 r0 r1 r2 rf hs2 hW2
      go_loopw [29] (fun i wr => ∃ j : Nat, j ≤ Fo.len k ∧ i = .int .i64 j ∧ RepRel (w.heap.size + 1 + 1 + 1) W2 (subF vr k) j wr) (fun i _ => Fo.len k - (intOf i).toNat)
      case atStart => exact ⟨0, Nat.zero_le _, rfl, H0.out⟩
      case round =>
        obtain ⟨j, hj, rfl, hR⟩ := hrel
        have HR := hide hR
        obtain ⟨hB, hT, -, hsz⟩ := hR
        have HB := hide hB
        have hs2 := Hs2.out
        have hBw : Below w.heap.size w wr := HB2.out.trans (hB.mono (by omega))
        obtain ⟨q0, q1, q2, r0, r1, r2, rf⟩ := HQ.out
        by_cases hlt : j < Fo.len k
        · have hlt' : (j : Int) < (Fo.len k : Int) := by omega
          obtain ⟨⟨⟨yv, yn⟩, yk⟩, hy⟩ : ∃ y, k.list[j]? = some y := ⟨k.list[j]'(by rw [Hl.out]; exact hlt), by simp⟩
          obtain ⟨c0, c1, yv', c2, hSy⟩ := (HF.out.below hBw).at hy
          have HS := hide hSy
          obtain ⟨ya, yc, yb, yo, rfl, -, -, -, -⟩ := hSy
          have Hny := hide (narrow_at Hnar.out hy)
          have Hy := hide hy
          have Hy2 : Hid ((subF vr k).list[j]? = some (subT vr ((yv, yn), yk))) := by rw [Hid, subF_list, List.getElem?_map, hy]; rfl
          have hT' : There wr (w.heap.size + 1 + 1 + 1) (Fo.len k * 3) := by rw [← Hl2.out]; exact hT
          obtain ⟨⟨t0, e0⟩, f0⟩ := hT' (j * 3) (by omega)
          obtain ⟨⟨t1, e1⟩, f1⟩ := hT' (j * 3 + 1) (by omega)
          obtain ⟨⟨t2, e2⟩, f2⟩ := hT' (j * 3 + 2) (by omega)
          have p2 : wr.cell? ⟨w.heap.size + 1 + 1, 2, none⟩ = some (.slice (some ⟨w.heap.size + 1 + 1 + 1, 0, none⟩) (Fo.len k) (Fo.len k)) := (HB.out.cell (by show w.heap.size + 1 + 1 < _; omega)).trans q2
          clear hy hT hT' hB q0 q1 q2 r0 r1 r2 rf
          go_upto_region 9 with fail
          generalize hwa : wr.alloc (.cells #[.bool yv, .int .i64 yn, .slice ya (Fo.len yk) yc] 26) = wa
          have a0 : wa.cell? ⟨wr.heap.size, 0, none⟩ = some (.bool yv) := by rw [← hwa]; simp
          have a1 : wa.cell? ⟨wr.heap.size, 1, none⟩ = some (.int .i64 yn) := by rw [← hwa]; simp
          have a2 : wa.cell? ⟨wr.heap.size, 2, none⟩ = some (.slice ya (Fo.len yk) yc) := by rw [← hwa]; simp
          have hba : Below wr.heap.size wr wa := by rw [← hwa]; exact below_alloc _ _
          have hsa : wa.heap.size = wr.heap.size + 1 := by rw [← hwa]; simp
          have Hwa : Hid (wr.alloc (.cells #[.bool yv, .int .i64 yn, .slice ya (Fo.len yk) yc] 26) = wa) := hwa
          have p2' := grow_cell hba _ _ p2
          have e0' := grow_cell hba _ _ e0
          have e1' := grow_cell hba _ _ e1
          have e2' := grow_cell hba _ _ e2
          have hlt3 : w.heap.size + 1 + 1 + 1 < wr.heap.size := by omega
          have g0' : wa.frozen? ⟨w.heap.size + 1 + 1 + 1, j * 3, none⟩ = false := (hba.frozen hlt3).trans f0
          have g1' : wa.frozen? ⟨w.heap.size + 1 + 1 + 1, j * 3 + 1, none⟩ = false := (hba.frozen hlt3).trans f1
          have g2' : wa.frozen? ⟨w.heap.size + 1 + 1 + 1, j * 3 + 2, none⟩ = false := (hba.frozen hlt3).trans f2
          have HIa : Hid (InvV wa.drew) := invV_below (invV_below HInv.out (below_step hBw hba)) (Below.refl _ _).drew
          have HSa : Hid (SIn wa.drew yk (.slice ya (Fo.len yk) yc)) := (HS.out.below hba).drew
          obtain ⟨⟨⟨zv, zn⟩, zk⟩, hz⟩ : ∃ z, z = subT vr ((yv, yn), yk) := ⟨_, rfl⟩
          have Hz := hide hz
          have hlt4 : w.heap.size + 1 + 1 + 1 < wa.heap.size := by omega
          have hcall : Calls Try.prog 22 #[.agg #[.bool yv, .int .i64 yn, .slice ya (Fo.len yk) yc], .func (.func 26) #[] #[]] wa.drew fun e w' => ∃ (a1 : Option Addr) (a2 a3 : Nat), e = .returned (.agg #[.bool zv, .int .i64 zn, .slice a1 a2 a3]) ∧ OwnV w' wa.heap.size w'.heap.size zk (.slice a1 a2 a3) ∧ Below wa.heap.size wa w' := by
            have h := HI.out ((yv, yn), yk) (List.mem_of_getElem? Hy.out) _ wa.drew HIa.out HSa.out Hny.out.1 Hny.out.2
            refine h.mono ?_
            rintro e w2 ⟨a', rfl, hO, hb⟩
            rw [← Hz.out] at hO
            obtain ⟨z1, z2, z3, rfl⟩ := slice_of_sin hO.toS
            exact ⟨z1, z2, z3, by rw [← Hz.out], hO, ((Below.refl _ _).drew).trans hb⟩
          have Hcall := hide hcall
          clear hwa hz hcall e0 e1 e2 f0 f1 f2 p2 c0 c1 c2 hBw hba
          go_region_with (first
            | (go_at_call 22; refine Hcall.out.mono ?_; rintro e w2 ⟨z1, z2, z3, rfl, hO2, hb2⟩; have p2'' := grow_cell hb2 _ _ p2'; have e0'' := grow_cell hb2 _ _ e0'; have e1'' := grow_cell hb2 _ _ e1'; have e2'' := grow_cell hb2 _ _ e2'; have g0'' := (hb2.frozen hlt4).trans g0'; have g1'' := (hb2.frozen hlt4).trans g1'; have g2'' := (hb2.frozen hlt4).trans g2'))
          all_goals
            have Hstep : Hid (RepRel (w.heap.size + 1 + 1 + 1) W2 (subF vr k) (j + 1) (set3 w2 (w.heap.size + 1 + 1 + 1) (j * 3) (.bool zv) (.int .i64 zn) (.slice z1 z2 z3))) := rep_step (ob := .cells #[.bool yv, .int .i64 yn, .slice ya (Fo.len yk) yc] 26) HR.out (by rw [Hl2.out]; exact hlt) (by rw [Hy2.out, ← Hz.out]) (by rw [Hwa.out, ← hsa]; exact hb2) (by rw [← hsa]; exact hO2)
            clear hO2 hb2 p2'' p2' e0' e1' e2' g0' g1' g2'
            go_wp2_with fail
            go_roundw
            case rel => exact ⟨j + 1, by omega, by go_num, Hstep.out⟩
            case measure => simp [intOf]; omega
        · have hje : j = Fo.len k := by omega
          subst hje
          have p0 : wr.cell? ⟨w.heap.size + 1 + 1, 0, none⟩ = some (.bool false) := (HB.out.cell (by show w.heap.size + 1 + 1 < _; omega)).trans q0
          have p1 : wr.cell? ⟨w.heap.size + 1 + 1, 1, none⟩ = some (.int .i64 n) := (HB.out.cell (by show w.heap.size + 1 + 1 < _; omega)).trans q1
          have p2 : wr.cell? ⟨w.heap.size + 1 + 1, 2, none⟩ = some (.slice (some ⟨w.heap.size + 1 + 1 + 1, 0, none⟩) (Fo.len k) (Fo.len k)) := (HB.out.cell (by show w.heap.size + 1 + 1 < _; omega)).trans q2
          have s0 : wr.cell? ⟨w.heap.size + 1, 0, none⟩ = some (.bool false) := (HB.out.cell (by show w.heap.size + 1 < _; omega)).trans r0
          have s1 : wr.cell? ⟨w.heap.size + 1, 1, none⟩ = some (.int .i64 0) := (HB.out.cell (by show w.heap.size + 1 < _; omega)).trans r1
          have s2 : wr.cell? ⟨w.heap.size + 1, 2, none⟩ = some (.slice none 0 0) := (HB.out.cell (by show w.heap.size + 1 < _; omega)).trans r2
          have sf : ∀ i, wr.frozen? ⟨w.heap.size + 1, i, none⟩ = false := fun i => (HB.out.frozen (by show w.heap.size + 1 < _; omega)).trans (rf i)
          clear q0 q1 q2 r0 r1 r2 rf hT hB
          go_wp2_with fail
          refine bodyPost_ret (v := .agg #[.bool false, .int .i64 n, .slice (some ⟨w.heap.size + 1 + 1 + 1, 0, none⟩) (Fo.len k) (Fo.len k)]) (by simp [results, Try.results22, go_sem, s0, s1, s2]) rfl ⟨.slice (some ⟨w.heap.size + 1 + 1 + 1, 0, none⟩) (Fo.len k) (Fo.len k), ?_, ?_, set3_below (o := 0) hBw (by omega)⟩
          · rw [Hres.out]
          · rw [Hres.out]
            have hRe : RepRel (w.heap.size + 1 + 1 + 1) W2 (subF vr k) (Fo.len (subF vr k)) wr := by rw [Hl2.out]; exact HR.out
            have := rep_end (lo := w.heap.size) (w' := set3 wr (w.heap.size + 1) 0 (.bool false) (.int .i64 n) (.slice (some ⟨w.heap.size + 1 + 1 + 1, 0, none⟩) (Fo.len k) (Fo.len k))) hRe (by rw [Hl2.out]; exact Hpos.out) (by rw [Hl2.out]; exact hlen) (by omega) set3_size (fun q i hq => ⟨set3_other (.inl (by omega)), set3_frozen⟩)
            rw [Hl2.out] at this
            exact this
  · have Hres : Hid (subT vr ((true, n), k) = vr n) := rfl
    obtain ⟨⟨⟨zv, zn⟩, zk⟩, hz⟩ : ∃ z, z = vr n := ⟨_, rfl⟩
    have Hz := hide hz
    clear hz
    go_enter Try.func22, Try.ntmps22
    go_wp2_with fail
    generalize hW2 : (w.alloc (.cells #[.bool true, .int .i64 n, .slice ad (Fo.len k) c] 26)).alloc (.cells #[.bool false, .int .i64 0, .slice none 0 0] 26) = W2
    have hs2 : W2.heap.size = w.heap.size + 1 + 1 := by rw [← hW2]; simp
    have hB2 : Below w.heap.size w W2 := by rw [← hW2]; exact (below_alloc _ _).alloc (by simp) _
    have r0 : W2.cell? ⟨w.heap.size + 1, 0, none⟩ = some (.bool false) := by rw [← hW2]; exact new_cell (World.size_alloc _ _)
    have r1 : W2.cell? ⟨w.heap.size + 1, 1, none⟩ = some (.int .i64 0) := by rw [← hW2]; exact new_cell (World.size_alloc _ _)
    have r2 : W2.cell? ⟨w.heap.size + 1, 2, none⟩ = some (.slice none 0 0) := by rw [← hW2]; exact new_cell (World.size_alloc _ _)
    have rf : ∀ i, W2.frozen? ⟨w.heap.size + 1, i, none⟩ = false := fun i => by rw [← hW2]; exact new_frozen (World.size_alloc _ _)
    clear hW2
    refine (cloV_any n W2 (invV_below HInv.out hB2)).mono ?_
    rintro e w2 ⟨a', rfl, hO, hb⟩
    rw [← Hz.out] at hO ⊢
    obtain ⟨z1, z2, z3, rfl⟩ := slice_of_sin hO.toS
    have s0 := grow_cell hb _ _ r0
    have s1 := grow_cell hb _ _ r1
    have s2 := grow_cell hb _ _ r2
    have sf : ∀ i, w2.frozen? ⟨w.heap.size + 1, i, none⟩ = false := fun i => (hb.frozen (by show w.heap.size + 1 < _; omega)).trans (rf i)
    have HO := hide hO
    have hB3 := below_step hB2 hb
    clear hO r0 r1 r2 rf hb
    go_wp2_with fail
    refine bodyPost_ret (v := .agg #[.bool zv, .int .i64 zn, .slice z1 z2 z3]) (by simp [results, Try.results22, go_sem, s0, s1, s2]) rfl ⟨.slice z1 z2 z3, ?_, ?_, set3_below (o := 0) hB3 (by omega)⟩
    · rw [Hres.out, ← Hz.out]
    · rw [Hres.out, ← Hz.out]
      have h2 : OwnV (set3 w2 (w.heap.size + 1) 0 (.bool zv) (.int .i64 zn) (.slice z1 z2 z3)) W2.heap.size w2.heap.size zk (.slice z1 z2 z3) := HO.out.frame (fun q i q1 q2 => ⟨set3_other (.inl (by omega)), set3_frozen⟩)
      have h3 := h2.mono (lo' := w.heap.size) (hi' := (set3 w2 (w.heap.size + 1) 0 (.bool zv) (.int .i64 zn) (.slice z1 z2 z3)).heap.size) (by omega) (by rw [set3_size]; exact Nat.le_refl _)
      exact h3

set_option maxRecDepth 100000 in
set_option maxHeartbeats 400000 in
theorem ownB_any (x : Bool × Int) (k : Fo) (a : Value) (w : World) (hS : SIn w k a) (hlen : Fo.len k ≤ 1000) (hnar : Fo.narrow k) :
    Calls Try.prog 25 #[.agg #[.bool x.1, .int .i64 x.2, a]] w fun e w' => ∃ a', e = .returned (.agg #[.bool (subT vr (x, k)).1.1, .int .i64 (subT vr (x, k)).1.2, a']) ∧ OwnV w' w.heap.size w'.heap.size (subT vr (x, k)).2 a' ∧ Below w.heap.size w w' := by
  obtain ⟨v, n⟩ := x
  have HS := hide hS
  obtain ⟨ad, c, b, o, rfl, -, -, -, -⟩ := hS
  obtain ⟨⟨⟨zv, zn⟩, zk⟩, hz⟩ : ∃ z, z = subT vr ((v, n), k) := ⟨_, rfl⟩
  have Hz := hide hz
  clear hz
  go_enter Try.func25, Try.ntmps25
  go_wp2_with fail
  generalize hW2 : (w.alloc (.cells #[.bool v, .int .i64 n, .slice ad (Fo.len k) c] 26)).alloc (.cells #[.bool false, .int .i64 0, .slice none 0 0] 26) = W2
  have hs2 : W2.heap.size = w.heap.size + 1 + 1 := by rw [← hW2]; simp
  have hB2 : Below w.heap.size w W2 := by rw [← hW2]; exact (below_alloc _ _).alloc (by simp) _
  have r0 : W2.cell? ⟨w.heap.size + 1, 0, none⟩ = some (.bool false) := by rw [← hW2]; exact new_cell (World.size_alloc _ _)
  have r1 : W2.cell? ⟨w.heap.size + 1, 1, none⟩ = some (.int .i64 0) := by rw [← hW2]; exact new_cell (World.size_alloc _ _)
  have r2 : W2.cell? ⟨w.heap.size + 1, 2, none⟩ = some (.slice none 0 0) := by rw [← hW2]; exact new_cell (World.size_alloc _ _)
  have rf : ∀ i, W2.frozen? ⟨w.heap.size + 1, i, none⟩ = false := fun i => by rw [← hW2]; exact new_frozen (World.size_alloc _ _)
  clear hW2
  refine (repV_any (v, n) k _ W2 trivial (HS.out.below hB2) hlen hnar).mono ?_
  rintro e w2 ⟨a', rfl, hO, hb⟩
  rw [← Hz.out] at hO ⊢
  obtain ⟨z1, z2, z3, rfl⟩ := slice_of_sin hO.toS
  have s0 := grow_cell hb _ _ r0
  have s1 := grow_cell hb _ _ r1
  have s2 := grow_cell hb _ _ r2
  have sf : ∀ i, w2.frozen? ⟨w.heap.size + 1, i, none⟩ = false := fun i => (hb.frozen (by show w.heap.size + 1 < _; omega)).trans (rf i)
  have HO := hide hO
  have hB3 := below_step hB2 hb
  clear hO r0 r1 r2 rf hb
  go_wp2_with fail
  refine bodyPost_ret (v := .agg #[.bool zv, .int .i64 zn, .slice z1 z2 z3]) (by simp [results, Try.results25, go_sem, s0, s1, s2]) rfl ⟨.slice z1 z2 z3, by rw [← Hz.out], ?_, set3_below (o := 0) hB3 (by omega)⟩
  rw [← Hz.out]
  have h2 : OwnV (set3 w2 (w.heap.size + 1) 0 (.bool zv) (.int .i64 zn) (.slice z1 z2 z3)) W2.heap.size w2.heap.size zk (.slice z1 z2 z3) := HO.out.frame (fun q i q1 q2 => ⟨set3_other (.inl (by omega)), set3_frozen⟩)
  have h3 := h2.mono (lo' := w.heap.size) (hi' := (set3 w2 (w.heap.size + 1) 0 (.bool zv) (.int .i64 zn) (.slice z1 z2 z3)).heap.size) (by omega) (by rw [set3_size]; exact Nat.le_refl _)
  exact h3

end Go.Proofs.Ytleogbdinafpaaa

/- Bindings that lie in memory; which pair is a variable's first: bind's find. -/
namespace Go.Proofs.Ytleogbdinafpaaa
open Go.RowKit Go.Deep Go.ChangeShapes Go.WideShapes
attribute [local go_sem ↓] Go.wp_at_zero Go.wp_at_succ

/-- Bindings lie in w, the first pair at (b, o), four cells each. -/
def PIn (w : World) : Sb → Nat → Nat → Prop
  | [], _, _ => True
  | p :: s, b, o => w.cell? ⟨b, o, none⟩ = some (.int .i64 p.1) ∧ w.cell? ⟨b, o + 1, none⟩ = some (.bool p.2.1.1) ∧ w.cell? ⟨b, o + 2, none⟩ = some (.int .i64 p.2.1.2) ∧
      (∃ v, w.cell? ⟨b, o + 3, none⟩ = some v ∧ SIn w p.2.2 v) ∧ PIn w s b (o + 4)
def SubIn (w : World) (s : Sb) (v : Value) : Prop :=
  ∃ (a : Option Addr) (c b o : Nat), v = .slice a s.length c ∧ (0 < s.length → a = some ⟨b, o, none⟩) ∧ s.length ≤ c ∧ c ≤ maxLen ∧ PIn w s b o

theorem PIn.later {w w' : World} (hc : ∀ a v, w.cell? a = some v → w'.cell? a = some v) : ∀ {s : Sb} {b o : Nat}, PIn w s b o → PIn w' s b o
  | [], _, _, _ => trivial
  | _ :: _, _, _, ⟨h0, h1, h2, ⟨v, h3, h4⟩, h5⟩ => ⟨hc _ _ h0, hc _ _ h1, hc _ _ h2, ⟨v, hc _ _ h3, h4.later hc⟩, PIn.later hc h5⟩
theorem PIn.below {w w' : World} (hb : Below w.heap.size w w') {s : Sb} {b o : Nat} (h : PIn w s b o) : PIn w' s b o := h.later (grow_cell hb)
theorem SubIn.later {w w' : World} (hc : ∀ a v, w.cell? a = some v → w'.cell? a = some v) {s : Sb} {v : Value} (h : SubIn w s v) : SubIn w' s v := by
  obtain ⟨a, c, b, o, h1, h2, h3, h4, h5⟩ := h
  exact ⟨a, c, b, o, h1, h2, h3, h4, h5.later hc⟩
theorem SubIn.below {w w' : World} (hb : Below w.heap.size w w') {s : Sb} {v : Value} (h : SubIn w s v) : SubIn w' s v := h.later (grow_cell hb)
theorem SubIn.alloc {w : World} {s : Sb} {v : Value} (h : SubIn w s v) (ob : Obj) : SubIn (w.alloc ob) s v := h.below (below_alloc w ob)
theorem SubIn.drew {w : World} {s : Sb} {v : Value} (h : SubIn w s v) : SubIn w.drew s v := h.below (Below.refl _ _).drew
theorem SubIn.nil (w : World) : SubIn w [] (.slice none 0 0) := ⟨none, 0, 0, 0, rfl, fun h => by simp at h, Nat.le_refl _, Nat.zero_le _, trivial⟩
theorem slice_of_sub {w : World} {s : Sb} {v : Value} (h : SubIn w s v) : ∃ z1 z3, v = .slice z1 s.length z3 := by
  obtain ⟨a, c, _, _, rfl, _⟩ := h
  exact ⟨a, c, rfl⟩
theorem PIn.at {w : World} : ∀ {s : Sb} {b o i : Nat} {p : Int × Tm}, PIn w s b o → s[i]? = some p →
    w.cell? ⟨b, o + i * 4, none⟩ = some (.int .i64 p.1) ∧ w.cell? ⟨b, o + i * 4 + 1, none⟩ = some (.bool p.2.1.1) ∧ w.cell? ⟨b, o + i * 4 + 2, none⟩ = some (.int .i64 p.2.1.2) ∧ ∃ v, w.cell? ⟨b, o + i * 4 + 3, none⟩ = some v ∧ SIn w p.2.2 v
  | [], _, _, _, _, _, h => by simp at h
  | q :: s, b, o, 0, p, hP, h => by
    simp only [List.getElem?_cons_zero, Option.some.injEq] at h
    subst h
    obtain ⟨h0, h1, h2, h3, _⟩ := hP
    simpa using ⟨h0, h1, h2, h3⟩
  | q :: s, b, o, i + 1, p, hP, h => by
    have := PIn.at hP.2.2.2.2 (i := i) (by simpa using h)
    have e : o + 4 + i * 4 = o + (i + 1) * 4 := by omega
    rwa [e] at this

theorem look_first {n : Int} {t : Tm} : ∀ {s : Sb} {j : Nat}, (∀ q p, q < j → s[q]? = some p → p.1 ≠ n) → s[j]? = some (n, t) → look s n = some t
  | [], _, _, h => by simp at h
  | p :: s, 0, _, h => by
    simp only [List.getElem?_cons_zero, Option.some.injEq] at h
    subst h
    simp [look]
  | p :: s, j + 1, hq, h => by
    have h0 := hq 0 p (by omega) (by simp)
    rw [look, if_neg h0]
    exact look_first (j := j) (fun q r hqr hr => hq (q + 1) r (by omega) (by simpa using hr)) (by simpa using h)
theorem look_all {n : Int} {s : Sb} (h : ∀ q p, q < s.length → s[q]? = some p → p.1 ≠ n) : look s n = none := by
  refine look_none fun p hp => ?_
  obtain ⟨i, hi, e⟩ := List.mem_iff_getElem.1 hp
  exact h i p hi (by rw [List.getElem?_eq_getElem hi, e])

/-- Which pair is the first one of a variable. -/
def Found (s : Sb) (n i : Int) : Prop := (i = -1 ∧ look s n = none) ∨ ∃ (j : Nat) (t : Tm), i = j ∧ s[j]? = some (n, t) ∧ look s n = some t

set_option maxRecDepth 100000 in
set_option maxHeartbeats 400000 in
theorem findC_any (n m : Int) (v : Bool) (k : Int) (a : Option Addr) (l c : Nat) (nb : Nat) (w : World) (hn : w.cell? ⟨nb, 0, none⟩ = some (.int .i64 n)) :
    Calls Try.prog 35 #[.agg #[.int .i64 m, .bool v, .int .i64 k, .slice a l c], .pointer (some ⟨nb, 0, none⟩)] w fun e w' => e = .returned (.bool (m == n)) ∧ Below w.heap.size w w' := by
  have hnb : nb < w.heap.size := World.block_lt_of_cell? _ _ hn
  have hn' : (w.alloc (.cells #[.int .i64 m, .bool v, .int .i64 k, .slice a l c] 48)).cell? ⟨nb, 0, none⟩ = some (.int .i64 n) := by rw [World.cell?_alloc_lt _ _ _ hnb]; exact hn
  go_enter Try.func35, Try.ntmps35
  go_wp2_with fail
  go_ret
  exact ⟨rfl, below_alloc _ _⟩

set_option maxRecDepth 100000 in
set_option maxHeartbeats 1000000 in
theorem indexFunc_any (s : Sb) (n : Int) (vs : Value) (nb : Nat) (w : World) (hS : SubIn w s vs) (hn : w.cell? ⟨nb, 0, none⟩ = some (.int .i64 n)) :
    Calls Try.prog 34 #[vs, .func (.func 35) #[] #[.pointer (some ⟨nb, 0, none⟩)]] w fun e w' => ∃ i, e = .returned (.int .i64 i) ∧ Found s n i ∧ Below w.heap.size w w' := by
  obtain ⟨ad, c, b, o, rfl, had, hlc, hcm, hP⟩ := hS
  unfold maxLen at hcm
  have HP := hide hP
  have Hn := hide hn
  clear hP hn
  go_enter Try.func34, Try.ntmps34
  go_wp2_with fail
  go_loopw [8] (fun i wr => ∃ j : Nat, j ≤ s.length ∧ i = .int .i64 j ∧ (∀ q p, q < j → s[q]? = some p → p.1 ≠ n) ∧ Below w.heap.size w wr) (fun i _ => s.length - (intOf i).toNat)
  case atStart => exact ⟨0, Nat.zero_le _, rfl, fun q _ hq => by omega, Below.refl _ _⟩
  case round =>
    obtain ⟨j, hj, rfl, hno, hBr⟩ := hrel
    have Hno := hide hno
    clear hno
    by_cases hlt : j < s.length
    · have hlt' : (j : Int) < (s.length : Int) := by omega
      obtain ⟨⟨m, ⟨yv, yn⟩, yk⟩, hy⟩ : ∃ y, s[j]? = some y := ⟨s[j], by simp [hlt]⟩
      obtain ⟨c0, c1, c2, yv', c3, hSy⟩ := (HP.out.below hBr).at hy
      obtain ⟨ya, yc, yb, yo, rfl, -, -, -, -⟩ := hSy
      have ha : ad = some ⟨b, o, none⟩ := had (by omega)
      subst ha
      have Hy := hide hy
      clear hy had
      go_wp2_with fail
      refine (findC_any n m yv yn ya (Fo.len yk) yc nb wr (grow_cell hBr _ _ Hn.out)).mono ?_
      rintro e w2 ⟨rfl, hb2⟩
      have hB2 := below_step hBr hb2
      simp only
      by_cases hmn : m = n
      · have hmb : (m == n) = true := by simp [hmn]
        have Hf : Hid (Found s n (j : Int)) := .inr ⟨j, _, rfl, by rw [Hy.out, hmn], look_first Hno.out (by rw [Hy.out, hmn])⟩
        rw [hmb]
        clear hmn hb2
        go_wp2_with fail
        go_ret
        exact ⟨_, rfl, Hf.out, hB2⟩
      · have hmb : (m == n) = false := by simp [hmn]
        have Hno2 : Hid (∀ q p, q < j + 1 → s[q]? = some p → p.1 ≠ n) := fun q p hq hp => by
          by_cases e : q = j
          · subst e; rw [Hy.out] at hp; cases hp; exact hmn
          · exact Hno.out q p (by omega) hp
        rw [hmb]
        clear hmn hb2
        go_wp2_with fail
        go_roundw
        case rel => exact ⟨j + 1, by omega, by go_num, Hno2.out, hB2⟩
        case measure => simp [intOf]; omega
    · have Hf : Hid (Found s n (-1)) := .inl ⟨rfl, look_all (fun q p hq hp => Hno.out q p (by omega) hp)⟩
      clear had
      go_wp2_with fail
      go_ret
      exact ⟨_, rfl, Hf.out, hBr⟩

set_option maxRecDepth 100000 in
set_option maxHeartbeats 400000 in
theorem findB_any (s : Sb) (n : Int) (vs : Value) (w : World) (hS : SubIn w s vs) :
    Calls Try.prog 24 #[vs, .int .i64 n] w fun e w' => ∃ i, e = .returned (.int .i64 i) ∧ Found s n i ∧ Below w.heap.size w w' := by
  have HS := hide hS
  obtain ⟨ad, c, b, o, rfl, -, -, -, -⟩ := hS
  go_enter Try.func24, Try.ntmps24
  go_wp2_with fail
  refine (indexFunc_any s n _ w.heap.size _ (HS.out.alloc _) (by simp)).mono ?_
  rintro e w2 ⟨i, rfl, hf, hb⟩
  have Hf := hide hf
  have hB := below_box hb
  clear hf hb
  go_wp2_with fail
  go_ret
  exact ⟨_, rfl, Hf.out, hB⟩

end Go.Proofs.Ytleogbdinafpaaa
