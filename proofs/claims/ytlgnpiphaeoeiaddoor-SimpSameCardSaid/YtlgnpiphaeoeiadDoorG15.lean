/- D6n D7a D7b D7d D7e D7f -/
import Derived.Test.YtlgnpiphaeoeiadDoorG14
import Derived.BigQuiet
namespace Go.Proofs.YtlgnpiphaeoeiadDoor
open Go.RowKit Go.Deep Go.ChangeShapes Go.WideShapes
theorem ren_tnX {d : Cl} (hd : GX d) (h : ∀ l ∈ d, Tn l) : ∀ l ∈ reN d, Tn l := by
  intro l hl
  obtain ⟨x, hx, rfl⟩ := List.mem_map.1 hl
  obtain ⟨h1, h2⟩ := h x hx
  have g := hd.2 x hx
  have g' := g.num (gx_vars hd.2)
  have o1 : ∀ n, occT n x.2.1 → n ∈ varsC d [] := fun n hn => varsC_mem.2 (.inr ⟨x, hx, .inl hn⟩)
  have o2 : ∀ n, occT n x.2.2 → n ∈ varsC d [] := fun n hn => varsC_mem.2 (.inr ⟨x, hx, .inr hn⟩)
  refine ⟨fun e => h1 ?_, ?_⟩
  · have := congrArg (subT (bck (varsC d []))) e
    simp only [mapL] at this
    rw [num_back g.gl.ok o1, num_back g.gr.ok o2] at this
    exact this
  · cases ha : abvT (mapL (subT (bnd (numS (varsC d [])))) x).2.2 (mapL (subT (bnd (numS (varsC d [])))) x).2.1 with
    | false => rfl
    | true =>
      have := abv_sub (f := bck (varsC d [])) (fun n => ok_vr _) _ rfl g'.gr g'.gl ha
      simp only [mapL] at this
      rw [num_back g.gl.ok o1, num_back g.gr.ok o2, h2] at this
      cases this
theorem norm_againX {c : Cl} (hc : GX c) (h : (normC c).1 = 0) : GC (normC c).2 ∧ normC (normC c).2 = (0, (normC c).2) := by
  rcases norm_casesX hc with ⟨_, hn⟩ | ⟨d, ht, hd, hr, ⟨_, hn⟩ | ⟨e, he, hE, hn⟩⟩
  · rw [hn] at h; simp at h
  · rw [hn] at h; simp at h
  · rw [hn] at h ⊢
    unfold keepC at h ⊢
    by_cases hk : 4 < e.length ∨ 5 < (varsC d []).length ∨ e.any bigL = true
    · rw [if_pos hk] at h; simp at h
    · rw [if_neg hk]
      have hok : ∀ l ∈ reN d, okL l := fun l hl => (hr.2 l hl).okl
      have hve : varsC e [] = (List.range (varsC d []).length).map (fun i : Nat => (i : Int)) := (dist_vars hok he).trans ren_vars
      have hsm : ∀ l ∈ e, tszR l.2.1.2 ≤ 12 ∧ tszR l.2.2.2 ≤ 12 := fun l hl => by
        have hb : bigL l = false := by
          cases hb : bigL l
          · rfl
          · exact absurd (.inr (.inr (List.any_eq_true.2 ⟨l, hl, hb⟩))) hk
        simp only [bigL, Bool.or_eq_false_iff, decide_eq_false_iff_not] at hb
        omega
      have hfew : ∀ l ∈ e, ∀ n, occL n l → n ≤ 4 := fun l hl n hn => by
        have hm : n ∈ varsC e [] := varsC_mem.2 (.inr ⟨l, hl, hn⟩)
        rw [hve] at hm
        obtain ⟨i, hi, rfl⟩ := List.mem_map.1 hm
        have := List.mem_range.1 hi
        have : ¬ 5 < (varsC d []).length := fun h => hk (.inr (.inl h))
        omega
      have hG : GC e := ⟨by have : ¬ 4 < e.length := fun h => hk (.inl h); omega, fun l hl => ⟨(hE.2 l hl).gl, (hE.2 l hl).gr, fun m hm => hfew l hl m (.inl hm), fun m hm => hfew l hl m (.inr hm), (hsm l hl).1, (hsm l hl).2⟩⟩
      refine ⟨hG, ?_⟩
      have t1 : ∀ l ∈ d, Tn l := turn_tn (o := some []) ht (fun l hl => (hc.2 l hl).okl) (fun e he => by cases he; simp)
      have t2 := ren_tnX hd t1
      obtain ⟨k1, _, k3⟩ := dist_kept hok he
      have f1 : turnC e = some e := by
        have := turn_fix (c := e) (out := []) (fun l hl => ⟨(hE.2 l hl).okl, t2 l (k1 l hl)⟩)
        simpa [turnC] using this
      have f2 : reN e = e := ren_fix (m := (varsC d []).length) hve (fun l hl => (hE.2 l hl).okl)
      have f3 : distC e = some e := by
        have := dist_fix (c := e) (out := []) (by simpa using k3)
        simpa [distC] using this
      show normC e = (0, e)
      simp only [normC, f1, f2, f3]
      exact gc_keep hG hG
theorem walkF_of {s : List Int} : ∀ {F : Fo} {d : Int}, symF s F → Fo.ok F → (∀ n, occF n F → 0 ≤ n ∧ n ≤ 4) → (depF F : Int) + d ≤ 13 → walkF s F d = 0
  | .nil, _, _, _, _, _ => rfl
  | .node p q (b, n) k r, d, h, ho, hv, hd => by
    obtain ⟨_, _, h3, h4⟩ := ok_node.1 ho
    have hdk : depF (.node p q (b, n) k r) = max (1 + depF k) (depF r) := rfl
    have hr := walkF_of (d := d) h.2 h4 (fun m hm => hv m (by rw [occF]; exact .inr hm)) (by rw [hdk] at hd; omega)
    have hT : walkT s (b, n) k d = 0 := by
      refine walkT_mk (by rw [hdk] at hd; omega) ?_ ?_
      · cases b with
        | true =>
          have hk : k = .nil := h3.1 rfl
          subst hk
          have := hv n (by rw [occF]; exact .inl (by simp))
          unfold aloneF
          simp [Fo.len]
          omega
        | false => exact h.1.1 rfl
      · cases b with
        | true =>
          have hk : k = .nil := h3.1 rfl
          subst hk
          rfl
        | false => exact walkF_of h.1.2 h3.2 (fun m hm => hv m (by rw [occF]; exact .inl (by simpa using hm))) (by rw [hdk] at hd; omega)
    simp only [walkF]
    have h5 : (if 12 < d then 4 else if aloneF s (b, n) (Fo.len k) ≠ 0 then aloneF s (b, n) (Fo.len k) else walkF s k (d + 1)) = 0 := hT
    rw [h5, hr]
    simp
theorem wrongF_of {s : List Int} {t : Tm} (h : symT s t) (hg : Gd t) (hv : ∀ n, occT n t → n ≤ 4) (hz : tszR t.2 ≤ 12) : wrongF s t.1 t.2 = 0 := by
  have hF : walkF s (.node 0 0 t.1 t.2 .nil) 1 = 0 := by
    refine walkF_of ⟨h, trivial⟩ (by rw [ok_node]; exact ⟨rfl, rfl, hg.ok, trivial⟩) (fun n hn => ?_) ?_
    · have hn' : occT n t := by
        rw [occ_mem] at hn
        obtain ⟨u, hu, h2⟩ := hn
        simp only [Fo.list, List.mem_singleton] at hu
        rw [hu] at h2
        exact h2
      exact ⟨(hg.few n hn').1, hv n hn'⟩
    · have h1 := depF_le t.2
      simp only [tszR] at hz
      have : depF (.node 0 0 t.1 t.2 .nil) = max (1 + depF t.2) 0 := rfl
      rw [this]
      omega
  have hT : walkT s t.1 t.2 1 = 0 := (walkF_ok hF).1
  unfold wrongF
  rw [if_neg (by simpa using hT)]
  rw [if_neg]
  unfold wrap64
  omega
theorem norm_rightX {s : List Int} {c : Cl} (hc : GX c) (hs : ∀ l ∈ c, symT s l.2.1 ∧ symT s l.2.2) (h : (normC c).1 = 0) : wrongC s (normC c).2 = 0 := by
  have hG := (norm_againX hc h).1
  rcases norm_casesX hc with ⟨_, hn⟩ | ⟨d, ht, hd, hr, ⟨_, hn⟩ | ⟨e, he, hE, hn⟩⟩
  · rw [hn] at h; simp at h
  · rw [hn] at h; simp at h
  · rw [hn] at h hG ⊢
    unfold keepC at h hG ⊢
    by_cases hk : 4 < e.length ∨ 5 < (varsC d []).length ∨ e.any bigL = true
    · rw [if_pos hk] at h; simp at h
    · rw [if_neg hk] at hG ⊢
      rw [wrongC_iff]
      refine ⟨hG.1, fun l hl => ?_⟩
      have hmem : l ∈ reN d := (dist_kept (fun l hl => (hr.2 l hl).okl) he).1 l hl
      obtain ⟨x, hx, rfl⟩ := List.mem_map.1 hmem
      have hx0 : symT s x.2.1 ∧ symT s x.2.2 := turn_mem (p := fun l => symT s l.2.1 ∧ symT s l.2.2) (o := some []) ht (fun e he => by cases he; simp) (fun l hl => by
        unfold flipL
        split
        · exact (hs l hl).symm
        · exact hs l hl) x hx
      have hb : ∀ p ∈ numS (varsC d []), symT s p.2 := fun p hp => by
        unfold numS at hp
        obtain ⟨q, _, rfl⟩ := List.mem_mapIdx.1 hp
        exact sym_vr _
      have g := hG.2 _ hl
      exact ⟨wrongF_of (sym_sub (sym_bnd hb) hx0.1) g.gl g.fl g.sl, wrongF_of (sym_sub (sym_bnd hb) hx0.2) g.gr g.fr g.sr⟩
end Go.Proofs.YtlgnpiphaeoeiadDoor

namespace Go.Proofs.YtlgnpiphaeoeiadDoor
open Go.RowKit Go.Deep Go.ChangeShapes Go.WideShapes
def sixF : Fo → Prop
  | .nil => True
  | .node _ _ x k r => ((x.1 = false → 0 ≤ x.2 ∧ x.2 < 6) ∧ sixF k) ∧ sixF r
def sixT (t : Tm) : Prop := (t.1.1 = false → 0 ≤ t.1.2 ∧ t.1.2 < 6) ∧ sixF t.2
theorem six_symF {s : List Int} (h6 : s.length ≤ 6) : ∀ {F : Fo}, symF s F → sixF F
  | .nil, _ => trivial
  | .node _ _ x k r, h => by
    refine ⟨⟨fun e => ?_, six_symF h6 h.1.2⟩, six_symF h6 h.2⟩
    have h1 := h.1.1 e
    obtain ⟨b, n⟩ := x
    simp only at e
    subst e
    obtain ⟨n0, n1, _⟩ := alone_sym h1
    simp only
    omega
theorem six_sym {s : List Int} (h6 : s.length ≤ 6) {t : Tm} (h : symT s t) : sixT t := by
  have : symF s (.node 0 0 t.1 t.2 .nil) := ⟨h, trivial⟩
  exact (six_symF h6 this).1
def allT : Nat → List Tm
  | 0 => []
  | n + 1 => ((List.range 10).map fun (i : Nat) => vr (i : Int)) ++ (List.range 6).flatMap fun (f : Nat) => ((false, (f : Int)), BT.nil) :: (((allT n).map fun x => ((false, (f : Int)), BT.node 0 0 x.1 x.2 .nil)) ++ (allT n).flatMap fun x => (allT n).map fun y => ((false, (f : Int)), BT.node 0 0 x.1 x.2 (.node 0 0 y.1 y.2 .nil)))
theorem mem_allT : ∀ (n : Nat) {t : Tm}, Gd t → sixT t → depT t ≤ n → t ∈ allT n
  | 0, t, _, _, h => by unfold depT at h; omega
  | n + 1, ((true, m), k), hg, _, _ => by
    have hk : k = .nil := hg.ok.1 rfl
    subst hk
    have hm := hg.few m (by simp [occT])
    simp only [allT, List.mem_append, List.mem_map, List.mem_range]
    exact .inl ⟨m.toNat, by omega, by simp only [vr]; congr; omega⟩
  | n + 1, ((false, m), k), hg, h6, hd => by
    have hm := h6.1 rfl
    simp only at hm
    have sub : ∀ y ∈ k.list, Gd y ∧ sixT y → depT y ≤ n → y ∈ allT n := fun y _ hy hd => mem_allT n hy.1 hy.2 hd
    have hdk : depF k ≤ n := by unfold depT at hd; simp only at hd; omega
    simp only [allT, List.mem_append, List.mem_flatMap, List.mem_range, List.mem_cons]
    refine .inr ⟨m.toNat, by omega, ?_⟩
    rw [show ((m.toNat : Nat) : Int) = m by omega]
    match k, hg, h6, hdk, sub with
    | .nil, _, _, _, _ => exact .inl rfl
    | .node p q x l .nil, hg, h6, hdk, sub =>
      obtain ⟨rfl, rfl, hx, _⟩ := ok_node.1 hg.ok.2
      have hgx := gd_mem hg rfl (show (x, l) ∈ Fo.list (BT.node 0 0 x l .nil) by simp [Fo.list])
      have hx6 : sixT (x, l) := h6.2.1
      have hdx : depT (x, l) ≤ n := by simp only [depF, depT] at hdk ⊢; omega
      refine .inr (.inl ?_)
      rw [List.mem_map]
      exact ⟨(x, l), sub _ (by simp [Fo.list]) ⟨hgx, hx6⟩ hdx, rfl⟩
    | .node p q x l (.node p' q' y r .nil), hg, h6, hdk, sub =>
      obtain ⟨rfl, rfl, hx, h2⟩ := ok_node.1 hg.ok.2
      obtain ⟨rfl, rfl, hy, _⟩ := ok_node.1 h2
      have hgx := gd_mem hg rfl (show (x, l) ∈ Fo.list (BT.node 0 0 x l (.node 0 0 y r .nil)) by simp [Fo.list])
      have hgy := gd_mem hg rfl (show (y, r) ∈ Fo.list (BT.node 0 0 x l (.node 0 0 y r .nil)) by simp [Fo.list])
      have hdx : depT (x, l) ≤ n := by simp only [depF, depT] at hdk ⊢; omega
      have hdy : depT (y, r) ≤ n := by simp only [depF, depT] at hdk ⊢; omega
      refine .inr (.inr ?_)
      exact ⟨(x, l), sub _ (by simp [Fo.list]) ⟨hgx, h6.2.1⟩ hdx, List.mem_map.2 ⟨(y, r), sub _ (by simp [Fo.list]) ⟨hgy, h6.2.2.1⟩ hdy, rfl⟩⟩
    | .node _ _ _ _ (.node _ _ _ _ (.node _ _ _ _ _)), hg, _, _, _ =>
      have := hg.two.1
      simp only [Fo.len] at this
      omega
theorem all_okT : ∀ (n : Nat) (t : Tm), t ∈ allT n → okT t
  | 0, _, h => by cases h
  | n + 1, t, h => by
    simp only [allT, List.mem_append, List.mem_map, List.mem_flatMap, List.mem_range, List.mem_cons] at h
    rcases h with ⟨i, _, rfl⟩ | ⟨f, _, rfl | ⟨x, hx, rfl⟩ | ⟨x, hx, y, hy, rfl⟩⟩
    · exact ok_vr _
    · exact ⟨fun h => (by cases h), trivial⟩
    · exact ⟨fun h => (by cases h), ok_node.2 ⟨rfl, rfl, all_okT n x hx, trivial⟩⟩
    · exact ⟨fun h => (by cases h), ok_node.2 ⟨rfl, rfl, all_okT n x hx, ok_node.2 ⟨rfl, rfl, all_okT n y hy, trivial⟩⟩⟩
theorem countP_lessM {α : Type} {f g : α → Bool} {i : α} : ∀ {l : List α}, (∀ x ∈ l, g x = true → f x = true) → i ∈ l → f i = true → g i = false → l.countP g < l.countP f
  | [], _, h, _, _ => by cases h
  | y :: r, hfg, h, hf, hg => by
    have hr : ∀ x ∈ r, g x = true → f x = true := fun x hx => hfg x (by simp [hx])
    have hle : r.countP g ≤ r.countP f := List.countP_mono_left (fun x hx => hr x hx)
    rw [List.countP_cons, List.countP_cons]
    rcases List.mem_cons.1 h with rfl | h
    · rw [hf, hg]; simp; omega
    · have := countP_lessM (l := r) hr h hf hg
      by_cases hy : g y = true
      · rw [hy, hfg y (by simp) hy]; simp; omega
      · have : g y = false := by simpa using hy
        rw [this]
        simp only [Bool.false_eq_true, if_false]
        split <;> omega
structure Lw (t : Tm) : Prop where
  gd : Gd t
  six : sixT t
  sz : szT t ≤ 12
theorem Lw.g12 {t : Tm} (h : Lw t) : G12 t := ⟨h.gd, h.sz⟩
def msr (t : Tm) : Nat := (allT 12).countP fun x => abvT t x
theorem msr_less {a b : Tm} (ha : Lw a) (hb : Lw b) (h : abvT a b = true) : msr b < msr a := by
  refine countP_lessM (i := b) (fun x hx hbx => abv_trans _ rfl ha.gd.ok hb.gd.ok (all_okT 12 x hx) h hbx) (mem_allT 12 hb.gd hb.six hb.g12.dep) h ?_
  cases e : abvT b b with
  | false => rfl
  | true => exact absurd e (abv_irr hb.gd.ok)
end Go.Proofs.YtlgnpiphaeoeiadDoor

namespace Go.Proofs.YtlgnpiphaeoeiadDoor
open Go.RowKit Go.Deep Go.ChangeShapes Go.WideShapes
theorem extF_all {P : Tm → Prop} (hP : ∀ t : Tm, P t → ∀ y ∈ t.2.list, P y) : ∀ {k l : Fo} {s s' : Sb}, (∀ y ∈ l.list, P y) → (∀ p ∈ s, P p.2) → extF k l s = some s' → ∀ p ∈ s', P p.2
  | .nil, .nil, s, s', _, hs, h => by
    have e : s = s' := by simpa [extF] using h
    rw [← e]; exact hs
  | .nil, .node _ _ _ _ _, s, s', _, hs, h => by
    have e : s = s' := by simpa [extF] using h
    rw [← e]; exact hs
  | .node _ _ _ _ _, .nil, s, s', _, hs, h => by
    simp [extF] at h
  | .node p q ⟨v, n⟩ k r, .node p' q' y l m, s, s', hl, hs, h => by
    rw [extF_node, Option.bind_eq_some_iff] at h
    obtain ⟨s1, h1, h2⟩ := h
    have hy : P (y, l) := hl (y, l) (by simp [Fo.list])
    have k1 : ∀ p ∈ s1, P p.2 := by
      cases v
      · unfold extT at h1
        simp only [Bool.false_eq_true, if_false] at h1
        split at h1
        · exact extF_all hP (hP _ hy) hs h1
        · cases h1
      · unfold extT at h1
        simp only [if_true] at h1
        split at h1
        · cases h1
          intro p hp
          rcases List.mem_append.1 hp with hp | hp
          · exact hs p hp
          · rw [List.mem_singleton.1 hp]; exact hy
        · split at h1
          · cases h1; exact hs
          · cases h1
    exact extF_all hP (fun z hz => hl z (by simp [Fo.list, hz])) k1 h2
theorem extT_all {P : Tm → Prop} (hP : ∀ t : Tm, P t → ∀ y ∈ t.2.list, P y) {t u : Tm} {s s' : Sb} (hu : P u) (hs : ∀ p ∈ s, P p.2) (h : extT s t u = some s') : ∀ p ∈ s', P p.2 := by
  have h1 : extF (.node 0 0 t.1 t.2 .nil) (.node 0 0 u.1 u.2 .nil) s = some s' := by rw [extF_node, show extT s (t.1, t.2) (u.1, u.2) = some s' from h]; rfl
  refine extF_all hP (fun y hy => ?_) hs h1
  simp only [Fo.list, List.mem_singleton] at hy
  rw [hy]
  exact hu
structure Sm (s : List Int) (t : Tm) : Prop where
  lw : Lw t
  sg : sigT s t
theorem sm_args {s : List Int} (t : Tm) (h : Gd t ∧ sigT s t) : ∀ y ∈ t.2.list, Gd y ∧ sigT s y := fun y hy => by
  obtain ⟨⟨v, n⟩, k⟩ := t
  cases v with
  | true => rw [h.1.ok.1 rfl] at hy; simp [Fo.list] at hy
  | false => exact ⟨gd_mem h.1 rfl hy, sig_mem h.2.2 y hy⟩
theorem sm_at {s : List Int} : ∀ {p : List Int} {x : Bool × Int} {k : Fo} {z : Tm}, Gd (x, k) ∧ sigT s (x, k) → atT p x k = some z → Gd z ∧ sigT s z
  | [], _, _, _, h, hz => by cases hz; exact h
  | n :: p, x, k, z, h, hz => by
    obtain ⟨_, _, _, y, hy, hz'⟩ := atT_some hz
    exact sm_at (x := y.1) (k := y.2) (sm_args _ h y (List.mem_of_getElem? hy)) hz'
theorem Sm.at {s : List Int} {p : List Int} {t z : Tm} (h : Sm s t) (h6 : s.length ≤ 6) (hz : atT p t.1 t.2 = some z) : Sm s z := by
  have h1 := sm_at ⟨h.lw.gd, h.sg⟩ hz
  exact ⟨⟨h1.1, six_sym h6 (sym_sig h1.2), Nat.le_trans (gdsz_at h.lw.gd hz).2 h.lw.sz⟩, h1.2⟩
theorem sig_setF {s : List Int} {f : Tm → Tm} : ∀ {F : Fo} {i : Nat}, sigF s F → (∀ y, sigT s y → sigT s (f y)) → sigF s (setF F i f)
  | .nil, _, _, _ => trivial
  | .node _ _ x k _, 0, h, hf => ⟨hf (x, k) h.1, h.2⟩
  | .node _ _ _ _ _, _ + 1, h, hf => ⟨h.1, sig_setF h.2 hf⟩
theorem sig_put {s : List Int} {u : Tm} (hu : sigT s u) : ∀ {p : List Int} {x : Bool × Int} {k : Fo}, sigT s (x, k) → sigT s (putT p (x, k) u)
  | [], _, _, _ => hu
  | n :: p, x, k, h => by
    rw [putT]
    split
    · exact h
    · refine ⟨?_, sig_setF h.2 (fun y hy => sig_put hu (x := y.1) (k := y.2) hy)⟩
      dsimp only
      rw [setF_len]
      exact h.1
theorem setF_same {f : Tm → Tm} : ∀ {F : Fo} {i : Nat} {y : Tm}, F.list[i]? = some y → f y = y → setF F i f = F
  | .nil, _, _, h, _ => by simp [Fo.list] at h
  | .node _ _ x k _, 0, y, h, e => by
    simp only [Fo.list, List.getElem?_cons_zero, Option.some.injEq] at h
    subst h
    simp only [setF]
    rw [e]
  | .node _ _ _ _ r, i + 1, y, h, e => by
    simp only [setF]
    rw [setF_same (F := r) (i := i) (by simpa [Fo.list] using h) e]
theorem put_same : ∀ {p : List Int} {x : Bool × Int} {k : Fo} {z : Tm}, atT p x k = some z → putT p (x, k) z = (x, k)
  | [], _, _, _, h => by cases h; rfl
  | n :: p, x, k, z, h => by
    obtain ⟨hx, h0, h1, y, hy, hz⟩ := atT_some h
    rw [putT, if_neg (by simp [hx]; omega)]
    dsimp only
    rw [setF_same (f := fun s => putT p s z) hy (put_same (x := y.1) (k := y.2) hz)]
theorem abv_le {a b : Tm} (hb : okT b) (h : abvT a b = true) : szT b ≤ szT a := by
  rcases ((abv_iff hb).1 h).2.2 with h | h
  · omega
  · omega
def newV (w : Lt) : Bool := decide ((varsT w.2.1.1 w.2.1.2 []).length < (varsT w.2.2.1 w.2.2.2 (varsT w.2.1.1 w.2.1.2 [])).length)
def tryW (z : Tm) (w : Lt) : Option Tm := match extT [] w.2.1 z with
  | none => none
  | some b => if newV w = true then none else if abvT z (subT (bnd b) w.2.2) = true then some (subT (bnd b) w.2.2) else none
def tryU (z : Tm) (u : Lt) : Option Tm := match tryW z u with
  | some r => some r
  | none => tryW z (turnL true u)
def tryUs (z : Tm) : List Lt → Option Tm
  | [] => none
  | u :: us => match tryU z u with
    | some r => some r
    | none => tryUs z us
def tryP (us : List Lt) (t : Tm) : List (List Int) → Option Tm
  | [] => none
  | p :: Z => match atT p t.1 t.2 with
    | none => tryP us t Z
    | some z => match tryUs z us with
      | some r => some (putT p t r)
      | none => tryP us t Z
def stepD (us : List Lt) (t : Tm) : Option Tm := tryP us t (placesT t.1 t.2 [])
theorem tryUs_some {z r : Tm} : ∀ {us : List Lt}, tryUs z us = some r → ∃ u ∈ us, ∃ k, tryW z (turnL k u) = some r
  | [], h => by cases h
  | u :: us, h => by
    unfold tryUs at h
    split at h
    · rename_i r' hr
      cases h
      unfold tryU at hr
      split at hr
      · rename_i r'' hw
        cases hr
        exact ⟨u, by simp, false, hw⟩
      · exact ⟨u, by simp, true, hr⟩
    · obtain ⟨u', hu, k, hk⟩ := tryUs_some h
      exact ⟨u', by simp [hu], k, hk⟩
theorem tryP_some {us : List Lt} {t t' : Tm} : ∀ {Z : List (List Int)}, tryP us t Z = some t' → ∃ p ∈ Z, ∃ z r, atT p t.1 t.2 = some z ∧ tryUs z us = some r ∧ t' = putT p t r
  | [], h => by cases h
  | p :: Z, h => by
    unfold tryP at h
    split at h
    · obtain ⟨p', hp, h'⟩ := tryP_some h
      exact ⟨p', by simp [hp], h'⟩
    · rename_i z hz
      split at h
      · rename_i r hr
        cases h
        exact ⟨p, by simp, z, r, hz, hr, rfl⟩
      · obtain ⟨p', hp, h'⟩ := tryP_some h
        exact ⟨p', by simp [hp], h'⟩
def Uns (s : List Int) (us : List Lt) : Prop := ∀ u ∈ us, Sm s u.2.1 ∧ Sm s u.2.2
theorem tryW_ok {s : List Int} (h6 : s.length ≤ 6) {z r : Tm} {w : Lt} (hz : Sm s z) (hw : Sm s w.2.1 ∧ Sm s w.2.2) (h : tryW z w = some r) : abvT z r = true ∧ Sm s r ∧ ∃ b : Sb, (∀ p ∈ b, sigT s p.2) ∧ subT (bnd b) w.2.1 = z ∧ subT (bnd b) w.2.2 = r := by
  unfold tryW at h
  split at h
  · cases h
  · rename_i b hb
    split at h
    · cases h
    · split at h
      · rename_i habv
        cases h
        have hP := extT_all (P := fun t => Gd t ∧ sigT s t) sm_args ⟨hz.lw.gd, hz.sg⟩ (fun p hp => by cases hp) hb
        have hs := extT_sound hz.lw.gd.ok (fun p hp => by cases hp) hb
        have hg : Gd (subT (bnd b) w.2.2) := gd_sub (fun p hp => (hP p hp).1) hw.2.lw.gd
        have hsg : sigT s (subT (bnd b) w.2.2) := sig_sub (fun n hn => by
          cases el : look b n with
          | some u => rw [bnd_some el]; exact (hP _ (look_mem el)).2
          | none =>
            rw [bnd_none el]
            have := sig_fewT hw.2.sg n hn
            refine ⟨?_, trivial⟩
            unfold aloneF vr
            simp [Fo.len]
            omega) hw.2.sg
        exact ⟨habv, ⟨⟨hg, six_sym h6 (sym_sig hsg), Nat.le_trans (abv_le hg.ok habv) hz.lw.sz⟩, hsg⟩, b, fun p hp => (hP p hp).2, hs.2, rfl⟩
      · cases h
theorem turn_sm {s : List Int} {u : Lt} (k : Bool) (h : Sm s u.2.1 ∧ Sm s u.2.2) : Sm s (turnL k u).2.1 ∧ Sm s (turnL k u).2.2 := by
  cases k
  · exact h
  · exact h.symm
theorem stepD_some {s : List Int} (h6 : s.length ≤ 6) {us : List Lt} (hus : Uns s us) {t t' : Tm} (ht : Sm s t) (h : stepD us t = some t') : ∃ (p : List Int) (z r : Tm) (u : Lt) (k : Bool), u ∈ us ∧ atT p t.1 t.2 = some z ∧ tryW z (turnL k u) = some r ∧ t' = putT p t r ∧ abvT t t' = true ∧ Sm s t' := by
  obtain ⟨p, _, z, r, hz, hr, rfl⟩ := tryP_some h
  obtain ⟨u, hu, k, hk⟩ := tryUs_some hr
  have hsz := ht.at h6 hz
  obtain ⟨ha, hsr, _⟩ := tryW_ok h6 hsz (turn_sm k (hus u hu)) hk
  have h1 := abv_put hsz.lw.gd.ok hsr.lw.gd.ok ha (x := t.1) (k := t.2) ht.lw.gd.ok hz
  rw [put_same hz] at h1
  have hgp := gd_put hsr.lw.gd (x := t.1) (k := t.2) ht.lw.gd hz
  have hsp := sig_put hsr.sg (p := p) (x := t.1) (k := t.2) ht.sg
  exact ⟨p, z, r, u, k, hu, hz, hk, rfl, h1, ⟨⟨hgp.1, six_sym h6 (sym_sig hsp), Nat.le_trans (abv_le hgp.1.ok h1) ht.lw.sz⟩, hsp⟩⟩
def downN (us : List Lt) : Nat → Tm → Tm
  | 0, t => t
  | n + 1, t => match stepD us t with
    | some t' => downN us n t'
    | none => t
def downT (us : List Lt) (t : Tm) : Tm := downN us (msr t) t
theorem downN_more {s : List Int} (h6 : s.length ≤ 6) {us : List Lt} (hus : Uns s us) : ∀ (n m : Nat) {t : Tm}, Sm s t → msr t ≤ n → msr t ≤ m → downN us n t = downN us m t := by
  intro n
  induction n with
  | zero =>
    intro m t ht h1 _
    cases m with
    | zero => rfl
    | succ m =>
      unfold downN
      cases e : stepD us t with
      | none => rfl
      | some t' =>
        obtain ⟨_, _, _, _, _, _, _, _, _, ha, hs⟩ := stepD_some h6 hus ht e
        have := msr_less ht.lw hs.lw ha
        omega
  | succ n ih =>
    intro m t ht h1 h2
    cases e : stepD us t with
    | none =>
      cases m with
      | zero => simp [downN, e]
      | succ m => simp [downN, e]
    | some t' =>
      obtain ⟨_, _, _, _, _, _, _, _, _, ha, hs⟩ := stepD_some h6 hus ht e
      have hl := msr_less ht.lw hs.lw ha
      cases m with
      | zero => omega
      | succ m =>
        simp only [downN, e]
        exact ih m hs (by omega) (by omega)
theorem downT_stop {us : List Lt} {t : Tm} (h : stepD us t = none) : downT us t = t := by
  unfold downT
  cases msr t with
  | zero => rfl
  | succ n => simp [downN, h]
theorem downT_step {s : List Int} (h6 : s.length ≤ 6) {us : List Lt} (hus : Uns s us) {t t' : Tm} (ht : Sm s t) (h : stepD us t = some t') : downT us t = downT us t' := by
  obtain ⟨_, _, _, _, _, _, _, _, _, ha, hs⟩ := stepD_some h6 hus ht h
  have hl := msr_less ht.lw hs.lw ha
  unfold downT
  obtain ⟨k, hk⟩ : ∃ k, msr t = k + 1 := ⟨msr t - 1, by omega⟩
  rw [hk]
  simp only [downN, h]
  exact downN_more h6 hus k (msr t') hs (by omega) (Nat.le_refl _)
theorem downT_ok {s : List Int} (h6 : s.length ≤ 6) {us : List Lt} (hus : Uns s us) : ∀ (n : Nat) {t : Tm}, msr t = n → Sm s t → Sm s (downT us t) ∧ stepD us (downT us t) = none ∧ (downT us t = t ∨ abvT t (downT us t) = true) := by
  intro n
  induction n using Nat.strongRecOn with
  | _ n ih =>
    intro t hn ht
    cases e : stepD us t with
    | none =>
      rw [downT_stop e]
      exact ⟨ht, e, .inl rfl⟩
    | some t' =>
      obtain ⟨_, _, _, _, _, _, _, _, _, ha, hs⟩ := stepD_some h6 hus ht e
      have hl := msr_less ht.lw hs.lw ha
      rw [downT_step h6 hus ht e]
      obtain ⟨k1, k2, k3⟩ := ih (msr t') (by omega) rfl hs
      refine ⟨k1, k2, .inr ?_⟩
      rcases k3 with k3 | k3
      · rw [k3]; exact ha
      · exact abv_trans _ rfl ht.lw.gd.ok hs.lw.gd.ok k1.lw.gd.ok ha k3
end Go.Proofs.YtlgnpiphaeoeiadDoor

namespace Go.Proofs.YtlgnpiphaeoeiadDoor
open Go.RowKit Go.Deep Go.ChangeShapes Go.WideShapes
def downC (us : List Lt) (c : Cl) : Cl := c.map (mapL (downT us))
def rwC (us : List Lt) (c : Cl) : Int × Cl := normC (downC us c)
def SmC (s : List Int) (c : Cl) : Prop := ∀ l ∈ c, Sm s l.2.1 ∧ Sm s l.2.2
theorem Sm.gl {s : List Int} {l : Lt} (h : Sm s l.2.1 ∧ Sm s l.2.2) : GL l :=
  ⟨h.1.lw.gd, h.2.lw.gd, fun m hm => (sig_fewT h.1.sg m hm).2, fun m hm => (sig_fewT h.2.sg m hm).2, h.1.lw.sz, h.2.lw.sz⟩
theorem SmC.gc {s : List Int} {c : Cl} (h : SmC s c) (h4 : c.length ≤ 4) : GC c := ⟨h4, fun l hl => Sm.gl (h l hl)⟩
theorem sm_gc {s : List Int} (h6 : s.length ≤ 6) {c : Cl} (hc : GC c) (hg : ∀ l ∈ c, sigT s l.2.1 ∧ sigT s l.2.2) : SmC s c := fun l hl =>
  ⟨⟨⟨(hc.2 l hl).gl, six_sym h6 (sym_sig (hg l hl).1), (hc.2 l hl).sl⟩, (hg l hl).1⟩, ⟨⟨(hc.2 l hl).gr, six_sym h6 (sym_sig (hg l hl).2), (hc.2 l hl).sr⟩, (hg l hl).2⟩⟩
theorem down_sm {s : List Int} (h6 : s.length ≤ 6) {us : List Lt} (hus : Uns s us) {c : Cl} (hc : SmC s c) : SmC s (downC us c) := fun l hl => by
  obtain ⟨x, hx, rfl⟩ := List.mem_map.1 hl
  exact ⟨(downT_ok h6 hus _ rfl (hc x hx).1).1, (downT_ok h6 hus _ rfl (hc x hx).2).1⟩
theorem rw_none {s : List Int} (h6 : s.length ≤ 6) {us : List Lt} (hus : Uns s us) {c : Cl} (hc : SmC s c) (h4 : c.length ≤ 4) (h : (rwC us c).1 ≠ 0) : rwC us c = (6, []) := by
  have hg : GC (downC us c) := (down_sm h6 hus hc).gc (by simpa [downC] using h4)
  unfold rwC at h ⊢
  rcases norm_cases hg with ⟨_, h1⟩ | ⟨t, ht, hgt, _, h1⟩
  · exact h1
  · rcases h1 with ⟨_, h1⟩ | ⟨e, he, _, h1⟩
    · exact h1
    · rw [h1] at h; exact absurd rfl h
theorem down_less {s : List Int} (h6 : s.length ≤ 6) {us : List Lt} (hus : Uns s us) {t : Tm} (ht : Sm s t) : (downT us t = t ∨ abvT t (downT us t) = true) ∧ szT (downT us t) ≤ szT t := by
  obtain ⟨k1, _, k3⟩ := downT_ok h6 hus _ rfl ht
  refine ⟨k3, ?_⟩
  rcases k3 with k3 | k3
  · rw [k3]; exact Nat.le_refl _
  · exact abv_le k1.lw.gd.ok k3
theorem step_val {s : List Int} (h6 : s.length ≤ 6) {us : List Lt} (hus : Uns s us) {z : Int} {tb : List (List Int)} (hm : MR s z tb) (hs : s.all okNum = true) (hu : ∀ u ∈ us, u.1 = false ∧ holdsP z tb [u]) {t t' : Tm} (ht : Sm s t) (h : stepD us t = some t') {e : Int → Int} (he : ∀ v, 0 ≤ e v ∧ e v < z) : valT z tb e t' = valT z tb e t := by
  obtain ⟨p, y, r, u, k, hmem, hat, hw, rfl, _, _⟩ := stepD_some h6 hus ht h
  obtain ⟨_, _, b, hb, e1, e2⟩ := tryW_ok h6 (ht.at h6 hat) (turn_sm k (hus u hmem)) hw
  obtain ⟨hn, hh⟩ := hu u hmem
  have h1 := hh (fun n => valT z tb e (bnd b n)) (fun v => val_sym hm hs he (sym_bnd (fun p hp => sym_sig (hb p hp)) v))
  have h2 : valT z tb (fun n => valT z tb e (bnd b n)) u.2.1 = valT z tb (fun n => valT z tb e (bnd b n)) u.2.2 := by
    simpa [someH, litH, hn] using h1
  have h3 : valT z tb e r = valT z tb e y := by
    rw [← e1, ← e2, valT_sub, valT_sub]
    cases k
    · exact h2.symm
    · exact h2
  exact val_put (x := t.1) (k := t.2) hat h3
theorem down_val {s : List Int} (h6 : s.length ≤ 6) {us : List Lt} (hus : Uns s us) {z : Int} {tb : List (List Int)} (hm : MR s z tb) (hs : s.all okNum = true) (hu : ∀ u ∈ us, u.1 = false ∧ holdsP z tb [u]) {e : Int → Int} (he : ∀ v, 0 ≤ e v ∧ e v < z) : ∀ (n : Nat) {t : Tm}, msr t = n → Sm s t → valT z tb e (downT us t) = valT z tb e t := by
  intro n
  induction n using Nat.strongRecOn with
  | _ n ih =>
    intro t hn ht
    cases hst : stepD us t with
    | none => rw [downT_stop hst]
    | some t' =>
      obtain ⟨_, _, _, _, _, _, _, _, _, ha, hs'⟩ := stepD_some h6 hus ht hst
      have hl := msr_less ht.lw hs'.lw ha
      rw [downT_step h6 hus ht hst, ih (msr t') (by omega) rfl hs']
      exact step_val h6 hus hm hs hu ht hst he
theorem rw_same {s : List Int} (h6 : s.length ≤ 6) {us : List Lt} (hus : Uns s us) {z : Int} {tb : List (List Int)} (hm : MR s z tb) (hs : s.all okNum = true) (hu : ∀ u ∈ us, u.1 = false ∧ holdsP z tb [u]) {c : Cl} (hc : SmC s c) (h4 : c.length ≤ 4) : ((rwC us c).1 = 6 → holdsP z tb c) ∧ ((rwC us c).1 = 0 → (holdsP z tb c ↔ holdsP z tb (rwC us c).2)) := by
  have hg : GC (downC us c) := (down_sm h6 hus hc).gc (by simpa [downC] using h4)
  have key : holdsP z tb (downC us c) ↔ holdsP z tb c := by
    unfold holdsP
    have : ∀ e : Int → Int, (∀ v, 0 ≤ e v ∧ e v < z) → someH z tb e (downC us c) = someH z tb e c := fun e he => by
      unfold someH downC
      rw [List.any_map, Bool.eq_iff_iff, List.any_eq_true, List.any_eq_true]
      have hl : ∀ l ∈ c, (litH z tb e ∘ mapL (downT us)) l = litH z tb e l := fun l hl => by
        simp only [Function.comp, mapL, litH]
        rw [down_val h6 hus hm hs hu he _ rfl (hc l hl).1, down_val h6 hus hm hs hu he _ rfl (hc l hl).2]
      constructor
      · rintro ⟨l, hl1, hl2⟩; exact ⟨l, hl1, by rw [← hl l hl1]; exact hl2⟩
      · rintro ⟨l, hl1, hl2⟩; exact ⟨l, hl1, by rw [hl l hl1]; exact hl2⟩
    constructor
    · intro h e he; rw [← this e he]; exact h e he
    · intro h e he; rw [this e he]; exact h e he
  have hn := norm_holds (z := z) (tb := tb) hg
  refine ⟨fun h => key.1 (hn.1 h), fun h => ?_⟩
  rw [← key]
  exact hn.2 h
end Go.Proofs.YtlgnpiphaeoeiadDoor

namespace Go.Proofs.YtlgnpiphaeoeiadDoor
open Go.RowKit Go.Deep Go.ChangeShapes Go.WideShapes
def wayC (x y : Lt) (s : Sb) : Option Sb := if y.1 = x.1 then (extT s x.2.1 y.2.1).bind fun a => extT a x.2.2 y.2.2 else none
def covS (x : Lt) (d : Cl) (s : Sb) : List Sb := d.flatMap fun y => (wayC x y s).toList ++ (wayC x (turnL true y) s).toList
def covN (d : Cl) : Cl → List Sb → List Sb
  | [], now => now
  | x :: c, now => covN d c (now.flatMap (covS x d))
def covT (c d : Cl) : Bool := !(covN d c [[]]).isEmpty
end Go.Proofs.YtlgnpiphaeoeiadDoor

namespace Go.Proofs.YtlgnpiphaeoeiadDoor
open Go.RowKit Go.Deep Go.ChangeShapes Go.WideShapes
attribute [local go_sem ↓] Go.wp_at_zero Go.wp_at_succ
def unitP : Cl → Bool
  | [l] => !l.1
  | _ => false
theorem unitP_len {c : Cl} (h : c.length ≠ 1) : unitP c = false := by
  match c with
  | [] => rfl
  | [_] => simp at h
  | _ :: _ :: _ => rfl
set_option maxRecDepth 100000 in
set_option maxHeartbeats 1000000 in
theorem unitR_any (c : Cl) (v : Value) (w : World) (h : CIn w c v) :
    Calls Tryd.prog 25 #[v] w fun e w' => e = .returned (.bool (unitP c)) ∧ w' = w := by
  obtain ⟨a1, c1, b1, o1, rfl, had, hlc, hcm, hF⟩ := h
  unfold maxLen at hcm
  by_cases h1 : c.length = 1
  · obtain ⟨l, rfl⟩ := List.length_eq_one_iff.1 h1
    have ha1 : a1 = some ⟨b1, o1, none⟩ := had (by simp)
    subst ha1
    obtain ⟨p0, -, -, -, -, -, -, -, -⟩ := hF.at (i := 0) (l := l) rfl
    simp only [Nat.zero_mul, Nat.add_zero] at p0
    obtain ⟨ln, lx, ly⟩ := l
    simp only [List.length_singleton] at *
    clear hF had h1
    go_enter Tryd.func25, Tryd.ntmps25
    go_wp2_with fail
    go_ret
    exact ⟨rfl, rfl⟩
  · have hb : ((c.length : Int) == 1) = false := by simp; omega
    have Hu := hide (unitP_len h1)
    clear had hF h1
    go_enter Tryd.func25, Tryd.ntmps25
    go_wp2_with fail
    go_ret
    exact ⟨by rw [Hu.out]; rfl, rfl⟩
theorem bs_small {t z : Tm} {bs : Sb} (hz : Gd z ∧ szT z ≤ 12) (h : extT [] t z = some bs) : ∀ p ∈ bs, Gd p.2 ∧ szT p.2 ≤ 12 := by
  refine extT_all (P := fun t => Gd t ∧ szT t ≤ 12) (fun t ht y hy => ?_) hz (fun p hp => by cases hp) h
  obtain ⟨⟨v, n⟩, k⟩ := t
  cases v with
  | true => rw [ht.1.ok.1 rfl] at hy; simp [Fo.list] at hy
  | false =>
    obtain ⟨i, hi⟩ := List.mem_iff_getElem?.1 hy
    have h3 := szF_mem hi
    have h4 := ht.2
    refine ⟨gd_mem ht.1 rfl hy, ?_⟩
    simp only [szT, tszR] at h3 h4 ⊢
    omega
theorem sub_small {t : Tm} {bs : Sb} (h : ∀ p ∈ bs, Gd p.2 ∧ szT p.2 ≤ 12) (ht : Gd t) (hs : szT t ≤ 12) : Gd (subT (bnd bs) t) ∧ tszR (subT (bnd bs) t).2 ≤ 4000000000000 := by
  refine ⟨gd_sub (fun p hp => (h p hp).1) ht, ?_⟩
  have h1 := sub_le (f := bnd bs) (M := 12) (by omega) ht.ok (fun m _ => by
    cases e : look bs m with
    | none => rw [bnd_none e]; simp [szT, vr, tszR, Fo.sizesR]
    | some u => rw [bnd_some e]; exact (h _ (look_mem e)).2)
  have h2 := Nat.mul_le_mul_right 12 hs
  simp only [szT] at h1 h2
  omega
end Go.Proofs.YtlgnpiphaeoeiadDoor
