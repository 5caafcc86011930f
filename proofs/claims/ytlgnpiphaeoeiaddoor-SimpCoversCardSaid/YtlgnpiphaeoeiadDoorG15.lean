/- D7e D7f P6b P6d P7a P7m -/
import Derived.Test.YtlgnpiphaeoeiadDoorG14
import Derived.BigQuiet
import Derived.Laws.EntriesVeiled
import Derived.Deep.RegionHeld3
namespace Go.Proofs.YtlgnpiphaeoeiadDoor
open Go.RowKit Go.Deep Go.ChangeShapes Go.WideShapes
def wayC (x y : Lt) (s : Sb) : Option Sb := if y.1 = x.1 then (extT s x.2.1 y.2.1).bind fun a => extT a x.2.2 y.2.2 else none
def covS (x : Lt) (d : Cl) (s : Sb) : List Sb := d.flatMap fun y => (wayC x y s).toList ++ (wayC x (turnL true y) s).toList
def covN (d : Cl) : Cl → List Sb → List Sb
  | [], now => now
  | x :: c, now => covN d c (now.flatMap (covS x d))
def covT (c d : Cl) : Bool := !(covN d c [[]]).isEmpty
def CovBy (σ : Int → Tm) (c d : Cl) : Prop := ∀ x ∈ c, ∃ y ∈ d, ∃ k, turnL k y = mapL (subT σ) x
theorem covS_mem {x : Lt} {d : Cl} {s s' : Sb} : s' ∈ covS x d s ↔ ∃ y ∈ d, ∃ k, wayC x (turnL k y) s = some s' := by
  unfold covS
  simp only [List.mem_flatMap, List.mem_append, Option.mem_toList]
  constructor
  · rintro ⟨y, hy, h | h⟩
    · exact ⟨y, hy, false, h⟩
    · exact ⟨y, hy, true, h⟩
  · rintro ⟨y, hy, k, h⟩
    cases k
    · exact ⟨y, hy, .inl h⟩
    · exact ⟨y, hy, .inr h⟩
theorem turn_okl {y : Lt} (k : Bool) (h : okL y) : okL (turnL k y) := by
  cases k
  · exact h
  · exact ⟨h.2, h.1⟩
theorem extT_grow {t u : Tm} {s s' : Sb} (hu : okT u) (hs : ∀ p ∈ s, okT p.2) (h : extT s t u = some s') : ∃ m, s' = s ++ m := by
  have h1 : extF (.node 0 0 t.1 t.2 .nil) (.node 0 0 u.1 u.2 .nil) s = some s' := by rw [extF_node, show extT s (t.1, t.2) (u.1, u.2) = some s' from h]; rfl
  exact (extF_sound (k := .node 0 0 t.1 t.2 .nil) (l := .node 0 0 u.1 u.2 .nil) rfl (ok_node.2 ⟨rfl, rfl, hu, trivial⟩) hs h1).2.1
theorem way_sound {x y : Lt} {s s' : Sb} (hy : okL y) (hs : ∀ p ∈ s, okT p.2) (h : wayC x y s = some s') : (∀ p ∈ s', okT p.2) ∧ (∃ m, s' = s ++ m) ∧ (∀ n, occL n x → (look s' n).isSome = true) ∧ y = mapL (subT (bnd s')) x := by
  unfold wayC at h
  split at h
  · rename_i e
    rw [Option.bind_eq_some_iff] at h
    obtain ⟨a, h1, h2⟩ := h
    obtain ⟨k1, k2⟩ := extT_sound hy.1 hs h1
    obtain ⟨m1, k3⟩ := extT_grow hy.1 hs h1
    have k4 := extT_bound hy.1 hs h1
    obtain ⟨j1, j2⟩ := extT_sound hy.2 k1 h2
    obtain ⟨m2, j3⟩ := extT_grow hy.2 k1 h2
    have j4 := extT_bound hy.2 k1 h2
    refine ⟨j1, ⟨m1 ++ m2, by rw [j3, k3, List.append_assoc]⟩, fun n hn => ?_, ?_⟩
    · rcases hn with hn | hn
      · obtain ⟨u, hu⟩ := Option.isSome_iff_exists.1 (k4 n hn)
        rw [j3, look_more hu]; rfl
      · exact j4 n hn
    · obtain ⟨y1, y2, y3⟩ := y
      unfold mapL
      simp only at e k2 j2
      rw [← e, j2, j3, sub_more k4, k2]
  · cases h
theorem way_whole {σ : Int → Tm} (hσ : ∀ n, okT (σ n)) {x y : Lt} {s : Sb} (hs : ∀ p ∈ s, p.2 = σ p.1) (h : y = mapL (subT σ) x) : ∃ s', wayC x y s = some s' ∧ ∀ p ∈ s', p.2 = σ p.1 := by
  have key : ∀ (t : Tm) (s : Sb), (∀ p ∈ s, p.2 = σ p.1) → ∃ s', extT s t (subT σ t) = some s' ∧ ∀ p ∈ s', p.2 = σ p.1 := fun t s hs => by
    obtain ⟨s', h, h2⟩ := extF_whole hσ (k := .node 0 0 t.1 t.2 .nil) hs
    rw [subF_node, extF_node, Option.bind_eq_some_iff] at h
    obtain ⟨s1, h1, h3⟩ := h
    have e : s1 = s' := by simpa [subF, extF] using h3
    subst e
    exact ⟨s1, h1, h2⟩
  obtain ⟨a, h1, h2⟩ := key x.2.1 s hs
  obtain ⟨b, h3, h4⟩ := key x.2.2 a h2
  subst h
  refine ⟨b, ?_, h4⟩
  unfold wayC mapL
  simp only [if_true]
  rw [h1]
  exact h3
theorem covN_whole {σ : Int → Tm} (hσ : ∀ n, okT (σ n)) {d : Cl} : ∀ {c : Cl} {now : List Sb}, CovBy σ c d → (∃ s ∈ now, ∀ p ∈ s, p.2 = σ p.1) → ∃ s ∈ covN d c now, ∀ p ∈ s, p.2 = σ p.1
  | [], _, _, h => h
  | x :: c, now, hc, ⟨s, hs, h⟩ => by
    obtain ⟨y, hy, k, e⟩ := hc x (by simp)
    obtain ⟨s', h1, h2⟩ := way_whole hσ h e
    exact covN_whole hσ (c := c) (now := now.flatMap (covS x d)) (fun q hq => hc q (by simp [hq])) ⟨s', List.mem_flatMap.2 ⟨s, hs, covS_mem.2 ⟨y, hy, k, h1⟩⟩, h2⟩
theorem covN_sound {d : Cl} (hd : ∀ y ∈ d, okL y) : ∀ {c : Cl} {now : List Sb}, (∀ s ∈ now, ∀ p ∈ s, okT p.2) → ∀ s' ∈ covN d c now, (∀ p ∈ s', okT p.2) ∧ (∃ s ∈ now, ∃ m, s' = s ++ m) ∧ CovBy (bnd s') c d
  | [], _, hn, s', h => ⟨hn s' h, ⟨s', h, [], by simp⟩, fun x hx => by cases hx⟩
  | x :: c, now, hn, s', h => by
    have h1 : ∀ s ∈ now.flatMap (covS x d), ∀ p ∈ s, okT p.2 := fun s hs => by
      obtain ⟨s0, h0, h1⟩ := List.mem_flatMap.1 hs
      obtain ⟨y, hy, k, h2⟩ := covS_mem.1 h1
      exact (way_sound (turn_okl k (hd y hy)) (hn s0 h0) h2).1
    obtain ⟨k1, ⟨s1, k2, m, k3⟩, k4⟩ := covN_sound hd h1 s' h
    obtain ⟨s0, h0, h2⟩ := List.mem_flatMap.1 k2
    obtain ⟨y, hy, k, h3⟩ := covS_mem.1 h2
    obtain ⟨_, ⟨m0, j1⟩, j2, j3⟩ := way_sound (turn_okl k (hd y hy)) (hn s0 h0) h3
    refine ⟨k1, ⟨s0, h0, m0 ++ m, by rw [k3, j1, List.append_assoc]⟩, fun q hq => ?_⟩
    rcases List.mem_cons.1 hq with rfl | hq
    · refine ⟨y, hy, k, ?_⟩
      rw [j3, k3]
      unfold mapL
      rw [sub_more (fun n hn => j2 n (.inl hn)), sub_more (fun n hn => j2 n (.inr hn))]
    · exact k4 q hq
theorem cov_sound {c d : Cl} (hd : ∀ y ∈ d, okL y) (h : covT c d = true) : ∃ b : Sb, (∀ p ∈ b, okT p.2) ∧ CovBy (bnd b) c d := by
  unfold covT at h
  cases e : covN d c [[]] with
  | nil => rw [e] at h; simp at h
  | cons s l =>
    obtain ⟨h1, _, h2⟩ := covN_sound hd (c := c) (now := [[]]) (fun s hs p hp => by rw [List.mem_singleton.1 hs] at hp; cases hp) s (by rw [e]; simp)
    exact ⟨s, h1, h2⟩
theorem cov_whole {c d : Cl} {σ : Int → Tm} (hσ : ∀ n, okT (σ n)) (h : CovBy σ c d) : covT c d = true := by
  obtain ⟨s, hs, _⟩ := covN_whole hσ h (now := [[]]) ⟨[], by simp, fun p hp => by cases hp⟩
  unfold covT
  cases e : covN d c [[]] with
  | nil => rw [e] at hs; cases hs
  | cons s l => rfl
theorem bnd_okT {b : Sb} (h : ∀ p ∈ b, okT p.2) (n : Int) : okT (bnd b n) := by
  cases e : look b n with
  | none => rw [bnd_none e]; exact ok_vr n
  | some u => rw [bnd_some e]; exact h _ (look_mem e)
theorem cov_self {c : Cl} (hc : ∀ l ∈ c, okL l) : covT c c = true :=
  cov_whole (σ := vr) ok_vr fun x hx => ⟨x, hx, false, by
    unfold mapL
    rw [subT_vr (hc x hx).1, subT_vr (hc x hx).2]
    rfl⟩
theorem turn_map {f : Tm → Tm} {k : Bool} {y : Lt} : turnL k (mapL f y) = mapL f (turnL k y) := by
  cases k <;> rfl
theorem turn_two (k j : Bool) (y : Lt) : turnL k (turnL j y) = turnL (k != j) y := by
  cases k <;> cases j <;> rfl
theorem cov_trans {c d f : Cl} (hd : ∀ l ∈ d, okL l) (hf : ∀ l ∈ f, okL l) (h1 : covT c d = true) (h2 : covT d f = true) : covT c f = true := by
  obtain ⟨a, ha, k1⟩ := cov_sound hd h1
  obtain ⟨b, hb, k2⟩ := cov_sound hf h2
  refine cov_whole (σ := fun n => subT (bnd b) (bnd a n)) (fun n => subT_ok (bnd_okT hb) _) fun x hx => ?_
  obtain ⟨y, hy, k, e⟩ := k1 x hx
  obtain ⟨z, hz, j, e2⟩ := k2 y hy
  refine ⟨z, hz, k != j, ?_⟩
  rw [← turn_two, e2, turn_map, e]
  unfold mapL
  simp only
  rw [subT_sub, subT_sub]
theorem litH_way {z : Int} {tb : List (List Int)} {e : Int → Int} (k : Bool) (l : Lt) : litH z tb e (turnL k l) = litH z tb e l := by
  cases k
  · rfl
  · simp only [turnL, litH, if_true]
    rw [beq_swap]
theorem sym_occ {s : List Int} {σ : Int → Tm} : ∀ {F : Fo}, symF s (subF σ F) → ∀ n, occF n F → symT s (σ n)
  | .nil, _, _, h => by cases h
  | .node p q ⟨v, i⟩ k r, h, n, hn => by
    rw [subF_node] at h
    rcases hn with hn | hn
    · cases v with
      | true =>
        have : i = n := by simpa [occT] using hn
        subst this
        exact h.1
      | false =>
        rw [subT_sym] at h
        exact sym_occ h.1.2 n (by simpa [occT] using hn)
    · exact sym_occ h.2 n hn
theorem sym_occT {s : List Int} {σ : Int → Tm} {t : Tm} (h : symT s (subT σ t)) {n : Int} (hn : occT n t) : symT s (σ n) :=
  sym_occ (F := .node 0 0 t.1 t.2 .nil) (by rw [subF_node]; exact ⟨h, trivial⟩) n (.inl hn)
theorem cov_holds {s : List Int} {z : Int} {tb : List (List Int)} (hm : MR s z tb) (hs : s.all okNum = true) {c d : Cl} (hd : ∀ l ∈ d, okL l) (hsd : ∀ l ∈ d, symT s l.2.1 ∧ symT s l.2.2) (h : covT c d = true) (hc : holdsP z tb c) : holdsP z tb d := by
  obtain ⟨b, _, hk⟩ := cov_sound hd h
  intro e he
  have hz := hm.z1
  have h1 := hc (fun n => if 0 ≤ valT z tb e (bnd b n) ∧ valT z tb e (bnd b n) < z then valT z tb e (bnd b n) else 0) (fun v => by
    split
    · assumption
    · omega)
  unfold someH at h1 ⊢
  rw [List.any_eq_true] at h1 ⊢
  obtain ⟨x, hx, hl⟩ := h1
  obtain ⟨y, hy, k, ek⟩ := hk x hx
  refine ⟨y, hy, ?_⟩
  rw [← litH_way k, ek]
  have hsy : symT s (subT (bnd b) x.2.1) ∧ symT s (subT (bnd b) x.2.2) := by
    have e1 : (turnL k y).2.1 = subT (bnd b) x.2.1 := by rw [ek]; rfl
    have e2 : (turnL k y).2.2 = subT (bnd b) x.2.2 := by rw [ek]; rfl
    rw [← e1, ← e2]
    cases k
    · exact hsd y hy
    · exact ⟨(hsd y hy).2, (hsd y hy).1⟩
  have hv : ∀ t : Tm, symT s (subT (bnd b) t) → valT z tb e (subT (bnd b) t) = valT z tb (fun n => if 0 ≤ valT z tb e (bnd b n) ∧ valT z tb e (bnd b n) < z then valT z tb e (bnd b n) else 0) t := fun t ht => by
    rw [valT_sub]
    exact valT_congr fun n hn => (if_pos (val_sym hm hs he (sym_occT ht hn))).symm
  have : litH z tb e (mapL (subT (bnd b)) x) = litH z tb (fun n => if 0 ≤ valT z tb e (bnd b n) ∧ valT z tb e (bnd b n) < z then valT z tb e (bnd b n) else 0) x := by
    simp only [litH, mapL]
    rw [hv _ hsy.1, hv _ hsy.2]
  rw [this]
  exact hl
end Go.Proofs.YtlgnpiphaeoeiadDoor

namespace Go.Proofs.YtlgnpiphaeoeiadDoor
open Go.RowKit Go.Deep Go.ChangeShapes Go.WideShapes
attribute [local go_sem ↓] Go.wp_at_zero Go.wp_at_succ
def unitP : Cl → Bool
  | [l] => !l.1
  | _ => false
theorem unitP_len {c : Cl} (h : c.length ≠ 1) : unitP c = false := by
  match c with
  | [] => rfl
  | [_] => simp at h
  | _ :: _ :: _ => rfl
theorem bs_small {t z : Tm} {bs : Sb} (hz : Gd z ∧ szT z ≤ 12) (h : extT [] t z = some bs) : ∀ p ∈ bs, Gd p.2 ∧ szT p.2 ≤ 12 := by
  refine extT_all (P := fun t => Gd t ∧ szT t ≤ 12) (fun t ht y hy => ?_) hz (fun p hp => by cases hp) h
  obtain ⟨⟨v, n⟩, k⟩ := t
  cases v with
  | true => rw [ht.1.ok.1 rfl] at hy; simp [Fo.list] at hy
  | false =>
    obtain ⟨i, hi⟩ := List.mem_iff_getElem?.1 hy
    have h3 := szF_mem hi
    have h4 := ht.2
    refine ⟨gd_mem ht.1 rfl hy, ?_⟩
    simp only [szT, tszR] at h3 h4 ⊢
    omega
theorem sub_small {t : Tm} {bs : Sb} (h : ∀ p ∈ bs, Gd p.2 ∧ szT p.2 ≤ 12) (ht : Gd t) (hs : szT t ≤ 12) : Gd (subT (bnd bs) t) ∧ tszR (subT (bnd bs) t).2 ≤ 4000000000000 := by
  refine ⟨gd_sub (fun p hp => (h p hp).1) ht, ?_⟩
  have h1 := sub_le (f := bnd bs) (M := 12) (by omega) ht.ok (fun m _ => by
    cases e : look bs m with
    | none => rw [bnd_none e]; simp [szT, vr, tszR, Fo.sizesR]
    | some u => rw [bnd_some e]; exact (h _ (look_mem e)).2)
  have h2 := Nat.mul_le_mul_right 12 hs
  simp only [szT] at h1 h2
  omega
end Go.Proofs.YtlgnpiphaeoeiadDoor

namespace Go.Proofs.YtlgnpiphaeoeiadDoor
open Go.RowKit Go.Deep Go.ChangeShapes Go.WideShapes
def RowAt (w : World) (g : Nat) (xs : List Value) : Prop := ∀ j u, xs[j]? = some u → w.cell? ⟨g, j, none⟩ = some u
theorem RowAt.below {w w' : World} {g : Nat} {xs : List Value} (h : RowAt w g xs) (hb : Below w.heap.size w w') : RowAt w' g xs := fun j u hj => grow_cell hb _ _ (h j u hj)
theorem RowAt.new (w : World) (xs : Array Value) (T : TypeId) : RowAt (w.alloc (.cells xs T)) w.heap.size xs.toList := fun j u hj => by
  rw [new_cell rfl]
  simpa using hj
theorem RowAt.set {w : World} {g : Nat} {xs : Array Value} (h : ∀ i, i < xs.size → ∃ u, w.cell? ⟨g, i, none⟩ = some u) : RowAt (setL w g 0 xs.toList) g xs.toList := fun j u hj => by
  have := setL_at (b := g) (xs := xs.toList) (o := 0) (w := w) (fun i hi => by rw [Nat.zero_add]; exact h i (by simpa using hi)) j u hj
  rwa [Nat.zero_add] at this
theorem new_some {w : World} {n : Nat} {T : TypeId} {xs : Array Value} {g : Nat} (hg : w.heap.size = g) (hn : xs.size = n) : ∀ i, i < n → ∃ u, (w.alloc (.cells xs T)).cell? ⟨g, i, none⟩ = some u := fun i hi => by
  rw [new_cell hg]
  exact ⟨xs[i]'(by omega), Array.getElem?_eq_getElem _⟩
end Go.Proofs.YtlgnpiphaeoeiadDoor

namespace Go.Proofs.YtlgnpiphaeoeiadDoor
open Go.RowKit Go.Deep Go.ChangeShapes Go.WideShapes
attribute [local go_sem ↓] Go.wp_at_zero Go.wp_at_succ
theorem cmp_is3 {a b : Tm} (ha : okT a) (hb : okT b) : (cmpT a b == 3) = abvT a b := by
  cases h : abvT a b with
  | true => rw [cmp_more ha hb h]; rfl
  | false =>
    unfold cmpT
    split
    · rfl
    · rw [h]
      simp only [Bool.false_eq_true, if_false]
      split <;> rfl
theorem cmpP_call {x y : Bool × Int} {k l : Fo} {B : Bool} (hB : abvT (x, k) (y, l) = B) (ga : Gd (x, k)) (gb : Gd (y, l)) (hbk : tszR k ≤ 4000000000000) (hbl : tszR l ≤ 4000000000000) {a c : Value} (w : World) (hS : SIn w k a) (hU : SIn w l c) :
    Calls Tryd.prog 65 #[.agg #[.bool x.1, .int .i64 x.2, a], .agg #[.bool y.1, .int .i64 y.2, c]] w fun e w'' => ∃ r : Int, e = .returned (.int .i64 r) ∧ (r == 3) = B ∧ Below w.heap.size w w'' := by
  refine (compare_any x k y l a c w ga gb hS hU hbk hbl).mono ?_
  rintro e w' ⟨rfl, hb⟩
  exact ⟨_, rfl, by rw [cmp_is3 ga.ok gb.ok, hB], hb⟩
end Go.Proofs.YtlgnpiphaeoeiadDoor

namespace Go.Proofs.YtlgnpiphaeoeiadDoor
open Go.RowKit Go.Deep Go.ChangeShapes Go.WideShapes
attribute [local go_sem ↓] Go.wp_at_zero Go.wp_at_succ
set_option maxRecDepth 100000 in
set_option maxHeartbeats 1000000 in
theorem unitP_any (c : Cl) (v : Value) (w : World) (h : CIn w c v) :
    Calls Tryd.prog 21 #[v] w fun e w' => e = .returned (.bool (unitP c)) ∧ w' = w := by
  obtain ⟨a1, c1, b1, o1, rfl, had, hlc, hcm, hF⟩ := h
  unfold maxLen at hcm
  by_cases h1 : c.length = 1
  · obtain ⟨l, rfl⟩ := List.length_eq_one_iff.1 h1
    have ha1 : a1 = some ⟨b1, o1, none⟩ := had (by simp)
    subst ha1
    obtain ⟨p0, -, -, -, -, -, -, -, -⟩ := hF.at (i := 0) (l := l) rfl
    simp only [Nat.zero_mul, Nat.add_zero] at p0
    obtain ⟨ln, lx, ly⟩ := l
    simp only [List.length_singleton] at *
    clear hF had h1
    go_enter Tryd.func21, Tryd.ntmps21
    go_wp2_with fail
    go_ret
    exact ⟨rfl, rfl⟩
  · have hb : ((c.length : Int) == 1) = false := by simp; omega
    have Hu := hide (unitP_len h1)
    clear had hF h1
    go_enter Tryd.func21, Tryd.ntmps21
    go_wp2_with fail
    go_ret
    exact ⟨by rw [Hu.out]; rfl, rfl⟩
abbrev litsA (l : Lt) (a d : Value) : Value := .agg #[.bool l.1, .bool l.2.1.1.1, .int .i64 l.2.1.1.2, a, .bool l.2.2.1.1, .int .i64 l.2.2.1.2, d, .bool l.1, .bool l.2.2.1.1, .int .i64 l.2.2.1.2, d, .bool l.2.1.1.1, .int .i64 l.2.1.1.2, a]
set_option maxRecDepth 100000 in
set_option maxHeartbeats 2000000 in
theorem bothLits_any (l : Lt) (a1 d1 : Option Addr) (a2 a3 d2 d3 : Nat) (w : World) :
    Calls Tryd.prog 37 #[litA l (.slice a1 a2 a3) (.slice d1 d2 d3)] w fun e w' => e = .returned (litsA l (.slice a1 a2 a3) (.slice d1 d2 d3)) ∧ Below w.heap.size w w' := by
  obtain ⟨ln, ⟨⟨lv, li⟩, lk⟩, ⟨lv', li'⟩, lk'⟩ := l
  go_enter Tryd.func37, Tryd.ntmps37
  go_upto_region 1 with fail
  generalize hW1 : (w.alloc (.cells #[.bool ln, .bool lv, .int .i64 li, .slice a1 a2 a3, .bool lv', .int .i64 li', .slice d1 d2 d3] 39)).alloc (.cells #[.bool false, .bool false, .int .i64 0, .slice none 0 0, .bool false, .int .i64 0, .slice none 0 0, .bool false, .bool false, .int .i64 0, .slice none 0 0, .bool false, .int .i64 0, .slice none 0 0] 70) = W1
  have hB1 : Below w.heap.size w W1 := by rw [← hW1]; exact (below_alloc _ _).alloc (by simp) _
  have hR : RowAt W1 w.heap.size (litV (ln, ((lv, li), lk), ((lv', li'), lk')) (.slice a1 a2 a3) (.slice d1 d2 d3)) := by
    rw [← hW1]
    exact (RowAt.new w #[.bool ln, .bool lv, .int .i64 li, .slice a1 a2 a3, .bool lv', .int .i64 li', .slice d1 d2 d3] 39).below (below_alloc _ _)
  have g0 : W1.cell? ⟨w.heap.size, 0, none⟩ = some (.bool ln) := hR 0 _ rfl
  have g1 : W1.cell? ⟨w.heap.size, 1, none⟩ = some (.bool lv) := hR 1 _ rfl
  have g2 : W1.cell? ⟨w.heap.size, 2, none⟩ = some (.int .i64 li) := hR 2 _ rfl
  have g3 : W1.cell? ⟨w.heap.size, 3, none⟩ = some (.slice a1 a2 a3) := hR 3 _ rfl
  have g4 : W1.cell? ⟨w.heap.size, 4, none⟩ = some (.bool lv') := hR 4 _ rfl
  have g5 : W1.cell? ⟨w.heap.size, 5, none⟩ = some (.int .i64 li') := hR 5 _ rfl
  have g6 : W1.cell? ⟨w.heap.size, 6, none⟩ = some (.slice d1 d2 d3) := hR 6 _ rfl
  clear hR
  have rf : ∀ i, W1.frozen? ⟨w.heap.size + 1, i, none⟩ = false := fun i => by rw [← hW1]; exact new_frozen (World.size_alloc _ _)
  have hz : ∀ i, i < 14 → ∃ u, W1.cell? ⟨w.heap.size + 1, i, none⟩ = some u := by rw [← hW1]; exact new_some (World.size_alloc _ _) rfl
  obtain ⟨_, r0⟩ := hz 0 (by omega)
  obtain ⟨_, r1⟩ := hz 1 (by omega)
  obtain ⟨_, r2⟩ := hz 2 (by omega)
  obtain ⟨_, r3⟩ := hz 3 (by omega)
  obtain ⟨_, r4⟩ := hz 4 (by omega)
  obtain ⟨_, r5⟩ := hz 5 (by omega)
  obtain ⟨_, r6⟩ := hz 6 (by omega)
  obtain ⟨_, r7⟩ := hz 7 (by omega)
  obtain ⟨_, r8⟩ := hz 8 (by omega)
  obtain ⟨_, r9⟩ := hz 9 (by omega)
  obtain ⟨_, r10⟩ := hz 10 (by omega)
  obtain ⟨_, r11⟩ := hz 11 (by omega)
  obtain ⟨_, r12⟩ := hz 12 (by omega)
  obtain ⟨_, r13⟩ := hz 13 (by omega)
  clear hW1
  go_wp2_with fail
  generalize hw3 : ((((((((((((((W1.setCell ⟨w.heap.size + 1, 0, none⟩ (.bool ln)).setCell ⟨w.heap.size + 1, 1, none⟩ (.bool lv)).setCell ⟨w.heap.size + 1, 2, none⟩ (.int .i64 li)).setCell ⟨w.heap.size + 1, 3, none⟩ (.slice a1 a2 a3)).setCell ⟨w.heap.size + 1, 4, none⟩ (.bool lv')).setCell ⟨w.heap.size + 1, 5, none⟩ (.int .i64 li')).setCell ⟨w.heap.size + 1, 6, none⟩ (.slice d1 d2 d3)).setCell ⟨w.heap.size + 1, 7, none⟩ (.bool ln)).setCell ⟨w.heap.size + 1, 8, none⟩ (.bool lv')).setCell ⟨w.heap.size + 1, 9, none⟩ (.int .i64 li')).setCell ⟨w.heap.size + 1, 10, none⟩ (.slice d1 d2 d3)).setCell ⟨w.heap.size + 1, 11, none⟩ (.bool lv)).setCell ⟨w.heap.size + 1, 12, none⟩ (.int .i64 li)).setCell ⟨w.heap.size + 1, 13, none⟩ (.slice a1 a2 a3)) = w3
  have hb3 : Below w.heap.size w w3 := by
    rw [← hw3]
    exact setL_below (b := w.heap.size + 1) (by omega) (xs := [.bool ln, .bool lv, .int .i64 li, .slice a1 a2 a3, .bool lv', .int .i64 li', .slice d1 d2 d3, .bool ln, .bool lv', .int .i64 li', .slice d1 d2 d3, .bool lv, .int .i64 li, .slice a1 a2 a3]) (o := 0) hB1
  have e3 : w3 = setL W1 (w.heap.size + 1) 0 (#[.bool ln, .bool lv, .int .i64 li, .slice a1 a2 a3, .bool lv', .int .i64 li', .slice d1 d2 d3, .bool ln, .bool lv', .int .i64 li', .slice d1 d2 d3, .bool lv, .int .i64 li, .slice a1 a2 a3] : Array Value).toList := hw3.symm
  have at6 : RowAt w3 (w.heap.size + 1) (#[.bool ln, .bool lv, .int .i64 li, .slice a1 a2 a3, .bool lv', .int .i64 li', .slice d1 d2 d3, .bool ln, .bool lv', .int .i64 li', .slice d1 d2 d3, .bool lv, .int .i64 li, .slice a1 a2 a3] : Array Value).toList := by rw [e3]; exact RowAt.set (by simpa using hz)
  have q0 : w3.cell? ⟨w.heap.size + 1, 0, none⟩ = some (.bool ln) := at6 0 _ rfl
  have q1 : w3.cell? ⟨w.heap.size + 1, 1, none⟩ = some (.bool lv) := at6 1 _ rfl
  have q2 : w3.cell? ⟨w.heap.size + 1, 2, none⟩ = some (.int .i64 li) := at6 2 _ rfl
  have q3 : w3.cell? ⟨w.heap.size + 1, 3, none⟩ = some (.slice a1 a2 a3) := at6 3 _ rfl
  have q4 : w3.cell? ⟨w.heap.size + 1, 4, none⟩ = some (.bool lv') := at6 4 _ rfl
  have q5 : w3.cell? ⟨w.heap.size + 1, 5, none⟩ = some (.int .i64 li') := at6 5 _ rfl
  have q6 : w3.cell? ⟨w.heap.size + 1, 6, none⟩ = some (.slice d1 d2 d3) := at6 6 _ rfl
  have q7 : w3.cell? ⟨w.heap.size + 1, 7, none⟩ = some (.bool ln) := at6 7 _ rfl
  have q8 : w3.cell? ⟨w.heap.size + 1, 8, none⟩ = some (.bool lv') := at6 8 _ rfl
  have q9 : w3.cell? ⟨w.heap.size + 1, 9, none⟩ = some (.int .i64 li') := at6 9 _ rfl
  have q10 : w3.cell? ⟨w.heap.size + 1, 10, none⟩ = some (.slice d1 d2 d3) := at6 10 _ rfl
  have q11 : w3.cell? ⟨w.heap.size + 1, 11, none⟩ = some (.bool lv) := at6 11 _ rfl
  have q12 : w3.cell? ⟨w.heap.size + 1, 12, none⟩ = some (.int .i64 li) := at6 12 _ rfl
  have q13 : w3.cell? ⟨w.heap.size + 1, 13, none⟩ = some (.slice a1 a2 a3) := at6 13 _ rfl
  clear at6 e3 hw3
  exact bodyPost_ret (v := .agg #[.bool ln, .bool lv, .int .i64 li, .slice a1 a2 a3, .bool lv', .int .i64 li', .slice d1 d2 d3, .bool ln, .bool lv', .int .i64 li', .slice d1 d2 d3, .bool lv, .int .i64 li, .slice a1 a2 a3]) (by simp [results, Tryd.results37, go_sem, q0, q1, q2, q3, q4, q5, q6, q7, q8, q9, q10, q11, q12, q13]) rfl ⟨rfl, hb3⟩
theorem run_lit (l : Lt) (a d : Value) (k : Nat) (hk : k < 2) (w : World) : (Instr.index 70 (litsA l a d) (.int .i64 (k : Int))).run Tryd.prog w = .ok (litA (turnL (decide (k = 1)) l) (if k = 1 then d else a) (if k = 1 then a else d)) w := by
  obtain rfl | rfl : k = 0 ∨ k = 1 := by omega
  · simp [go_sem, Instr.index, turnL]
  · simp [go_sem, Instr.index, turnL]
theorem lit_at {l : Lt} {k : Nat} (hk : k < 2) {w : World} {a d : Value} (hA : SIn w l.2.1.2 a) (hD : SIn w l.2.2.2 d) : ∃ (a1 : Option Addr) (a3 : Nat) (d1 : Option Addr) (d3 : Nat), SIn w (turnL (decide (k = 1)) l).2.1.2 (.slice a1 (Fo.len (turnL (decide (k = 1)) l).2.1.2) a3) ∧ SIn w (turnL (decide (k = 1)) l).2.2.2 (.slice d1 (Fo.len (turnL (decide (k = 1)) l).2.2.2) d3) ∧
    ∀ (w' : World), (Instr.index 70 (litsA l a d) (.int .i64 (k : Int))).run Tryd.prog w' = .ok (litA (turnL (decide (k = 1)) l) (.slice a1 (Fo.len (turnL (decide (k = 1)) l).2.1.2) a3) (.slice d1 (Fo.len (turnL (decide (k = 1)) l).2.2.2) d3)) w' := by
  have H1 := hA
  have H2 := hD
  obtain ⟨a1, a3, _, _, rfl, -, -, -, -⟩ := hA
  obtain ⟨d1, d3, _, _, rfl, -, -, -, -⟩ := hD
  obtain rfl | rfl : k = 0 ∨ k = 1 := by omega
  · exact ⟨a1, a3, d1, d3, H1, H2, fun w' => run_lit l _ _ 0 (by omega) w'⟩
  · exact ⟨d1, d3, a1, a3, H2, H1, fun w' => run_lit l _ _ 1 (by omega) w'⟩
theorem newV_is {w : Lt} : newV w = decide ((varsT w.2.1.1 w.2.1.2 []).length < (varsT w.2.2.1 w.2.2.2 (varsT w.2.1.1 w.2.1.2 [])).length) := rfl
set_option maxRecDepth 100000 in
set_option maxHeartbeats 2000000 in
theorem hasVars_any (l : Lt) (a1 d1 : Option Addr) (a3 d3 : Nat) (w : World) (hA : SIn w l.2.1.2 (.slice a1 (Fo.len l.2.1.2) a3)) (hD : SIn w l.2.2.2 (.slice d1 (Fo.len l.2.2.2) d3)) (h1 : tszR l.2.1.2 ≤ 12) (h2 : tszR l.2.2.2 ≤ 12) :
    Calls Tryd.prog 44 #[.agg #[.bool l.2.1.1.1, .int .i64 l.2.1.1.2, .slice a1 (Fo.len l.2.1.2) a3], .agg #[.bool l.2.2.1.1, .int .i64 l.2.2.1.2, .slice d1 (Fo.len l.2.2.2) d3]] w fun e w' => e = .returned (.bool (!newV l)) ∧ Below w.heap.size w w' := by
  obtain ⟨ln, ⟨⟨lv, li⟩, lk⟩, ⟨lv', li'⟩, lk'⟩ := l
  simp only at *
  have HA := hide hA
  have HD := hide hD
  obtain ⟨V, hV⟩ : ∃ V, V = varsT (lv, li) lk [] := ⟨_, rfl⟩
  obtain ⟨U, hU⟩ : ∃ U, U = varsT (lv', li') lk' V := ⟨_, rfl⟩
  have hVl := varsT_len (lv, li) lk []
  have hUl := varsT_len (lv', li') lk' V
  have hle := varsT_ge (lv', li') lk' V
  rw [← hV] at hVl
  rw [← hU] at hUl hle
  simp only [List.length_nil] at hVl
  have Hn : Hid (newV (ln, ((lv, li), lk), ((lv', li'), lk')) = decide (V.length < U.length)) := by rw [Hid, newV_is]; simp only; rw [← hV, ← hU]
  have HcV := hide (fun (w' : World) (hS : SIn w' lk (.slice a1 (Fo.len lk) a3)) => vars_any (lv, li) lk _ [] (.slice none 0 0) w' V hV hS (nin_nil w') (by simp only [List.length_nil]; omega))
  have HcU := hide (fun (w' : World) (v : Value) (hN : NIn w' V v) (hS : SIn w' lk' (.slice d1 (Fo.len lk') d3)) => vars_any (lv', li') lk' _ V v w' U hU hS hN (by omega))
  clear hA hD hV hU
  go_enter Tryd.func44, Tryd.ntmps44
  go_wp2_with fail
  refine (HcV.out _ (HA.out.below (below_step (below_alloc _ _) (below_alloc _ _)))).mono ?_
  rintro e w1 ⟨v1, rfl, ho1, hb1⟩
  have HN := hide (own_nin ho1)
  have hB1 := below_box (below_box hb1)
  have k0 : w1.cell? ⟨w.heap.size + 1, 0, none⟩ = some (.bool lv') := grow_cell hb1 _ _ (new_cell (World.size_alloc _ _))
  have k1 : w1.cell? ⟨w.heap.size + 1, 1, none⟩ = some (.int .i64 li') := grow_cell hb1 _ _ (new_cell (World.size_alloc _ _))
  have k2 : w1.cell? ⟨w.heap.size + 1, 2, none⟩ = some (.slice d1 (Fo.len lk') d3) := grow_cell hb1 _ _ (new_cell (World.size_alloc _ _))
  obtain ⟨y1, y3, rfl⟩ := nin_slice HN.out
  have HcU' := hide (HcU.out w1 _ HN.out (HD.out.below hB1))
  have Hd : Hid (((U.length : Int) == (V.length : Int)) = !decide (V.length < U.length)) := by
    rw [Hid, Bool.eq_iff_iff]
    simp
    omega
  clear ho1 hb1 HcV HcU
  go_wp2_with fail
  refine HcU'.out.mono ?_
  rintro e w2 ⟨v2, rfl, ho2, hb2⟩
  obtain ⟨x1, x3, rfl⟩ := nin_slice (own_nin ho2)
  have hB2 := below_step hB1 hb2
  clear ho2 hb2 k0 k1 k2
  go_wp2_with fail
  go_ret
  exact ⟨by rw [Hn.out, ← Hd.out]; rfl, hB2⟩
end Go.Proofs.YtlgnpiphaeoeiadDoor

namespace Go.Proofs.YtlgnpiphaeoeiadDoor
open Go.RowKit Go.Deep Go.ChangeShapes Go.WideShapes
def stepF (us : List Lt) : Fo → Option Fo
  | .nil => none
  | .node p q x k r => match stepD us (x, k) with
    | some t => some (.node p q t.1 t.2 r)
    | none => (stepF us r).map fun r' => .node p q x k r'
theorem tryP_cons {us : List Lt} {t : Tm} {p : List Int} {Z : List (List Int)} : tryP us t (p :: Z) = match atT p t.1 t.2 with
    | none => tryP us t Z
    | some z => match tryUs z us with
      | some r => some (putT p t r)
      | none => tryP us t Z := rfl
theorem tryP_arg {us : List Lt} {n : Int} {k : Fo} {i : Nat} {y : Tm} (hy : k.list[i]? = some y) : ∀ {Z : List (List Int)}, tryP us ((false, n), k) (Z.map (((i : Nat) : Int) :: ·)) = (tryP us y Z).map fun t => ((false, n), setF k i fun _ => t)
  | [] => rfl
  | p :: Z => by
    have hl : (i : Int) < (Fo.len k : Int) := by
      have := (List.getElem?_eq_some_iff.1 hy).1
      rw [Fo.len_list] at this
      omega
    have ih := tryP_arg hy (us := us) (n := n) (Z := Z)
    rw [List.map_cons, tryP_cons, tryP_cons, atT_cons (y := y) rfl (by omega) (by simpa using hy) hl]
    cases hz : atT p y.1 y.2 with
    | none => simpa using ih
    | some z =>
      cases hr : tryUs z us with
      | none => simpa [hr] using ih
      | some r =>
        simp only [hr, Option.map_some]
        rw [putT_cons rfl (by omega) hl]
        congr 2
        have : ∀ (F : Fo) (i : Nat), F.list[i]? = some y → setF F i (fun s => putT p s r) = setF F i (fun _ => putT p y r) := by
          intro F
          induction F with
          | nil => intro i h; simp [Fo.list] at h
          | node a b x k r' _ ihr =>
            intro i h
            cases i with
            | zero =>
              simp only [Fo.list, List.getElem?_cons_zero, Option.some.injEq] at h
              subst h
              rfl
            | succ i => simp only [setF]; rw [ihr i (by simpa [Fo.list] using h)]
        simpa using this k i hy
theorem tryP_append {us : List Lt} {t : Tm} : ∀ {Z Y : List (List Int)}, tryP us t (Z ++ Y) = match tryP us t Z with
    | some r => some r
    | none => tryP us t Y
  | [], _ => rfl
  | p :: Z, Y => by
    rw [List.cons_append, tryP_cons, tryP_cons]
    have ih := tryP_append (us := us) (t := t) (Z := Z) (Y := Y)
    cases atT p t.1 t.2 with
    | none => exact ih
    | some z =>
      cases h : tryUs z us with
      | none => simpa only [h] using ih
      | some r => simp only [h]
def catF : Fo → Fo → Fo
  | .nil, G => G
  | .node p q x k r, G => .node p q x k (catF r G)
theorem catF_list : ∀ {F G : Fo}, (catF F G).list = F.list ++ G.list
  | .nil, _ => rfl
  | .node _ _ _ _ r, G => by simp [catF, Fo.list, catF_list (F := r)]
theorem catF_len : ∀ {F G : Fo}, Fo.len (catF F G) = Fo.len F + Fo.len G
  | .nil, _ => by simp [catF, Fo.len]
  | .node _ _ _ _ r, G => by simp [catF, Fo.len, catF_len (F := r)]; omega
theorem catF_set {f : Tm → Tm} {p q : Nat} {x : Bool × Int} {k r : Fo} : ∀ {F : Fo}, setF (catF F (.node p q x k r)) (Fo.len F) f = catF F (.node p q (f (x, k)).1 (f (x, k)).2 r)
  | .nil => rfl
  | .node _ _ _ _ r' => by simp only [catF, Fo.len, setF]; rw [catF_set (F := r')]
theorem catF_snoc {p q : Nat} {x : Bool × Int} {k r : Fo} : ∀ {F : Fo}, catF (catF F (.node p q x k .nil)) r = catF F (.node p q x k r)
  | .nil => rfl
  | .node _ _ _ _ r' => by simp only [catF]; rw [catF_snoc (F := r')]
theorem stepF_go {us : List Lt} {n : Int} : ∀ {R F : Fo}, tryP us ((false, n), catF F R) (placesF R [] ((Fo.len F : Nat) : Int)) = (stepF us R).map fun R' => ((false, n), catF F R')
  | .nil, F => rfl
  | .node p q x k r, F => by
    have hy : (catF F (.node p q x k r)).list[Fo.len F]? = some (x, k) := by
      rw [catF_list, List.getElem?_append_right (by rw [Fo.len_list]; exact Nat.le_refl _), Fo.len_list]
      simp [Fo.list]
    have e : placesF (.node p q x k r) [] ((Fo.len F : Nat) : Int) = (placesT x k []).map (((Fo.len F : Nat) : Int) :: ·) ++ placesF r [] (((Fo.len F : Nat) : Int) + 1) := by
      have h1 : placesT x k [((Fo.len F : Nat) : Int)] = (placesT x k []).map (((Fo.len F : Nat) : Int) :: ·) := by
        rw [placesT_pre]; rfl
      rw [← h1]
      rfl
    rw [e, tryP_append, tryP_arg hy]
    have ih := stepF_go (us := us) (n := n) (R := r) (F := catF F (.node p q x k .nil))
    have hl : Fo.len (catF F (.node p q x k .nil)) = Fo.len F + 1 := by rw [catF_len]; rfl
    rw [hl, catF_snoc] at ih
    have e2 : stepF us (.node p q x k r) = match stepD us (x, k) with
        | some t => some (.node p q t.1 t.2 r)
        | none => (stepF us r).map fun r' => .node p q x k r' := rfl
    rw [e2]
    unfold stepD
    cases hs : tryP us (x, k) (placesT x k []) with
    | some t =>
      simp only [Option.map_some]
      rw [catF_set]
    | none =>
      simp only [Option.map_none]
      rw [show (((Fo.len F : Nat) : Int) + 1) = ((Fo.len F + 1 : Nat) : Int) by omega, ih]
      cases stepF us r with
      | none => rfl
      | some r' => simp only [Option.map_some]; rw [catF_snoc]
theorem stepD_var {us : List Lt} {n : Int} {k : Fo} : stepD us ((true, n), k) = none := by
  unfold stepD placesT
  simp [tryP]
theorem stepD_sym {us : List Lt} {n : Int} {k : Fo} : stepD us ((false, n), k) = match tryUs ((false, n), k) us with
    | some r => some r
    | none => (stepF us k).map fun k' => ((false, n), k') := by
  have h := stepF_go (us := us) (n := n) (R := k) (F := .nil)
  simp only [catF, Fo.len] at h
  unfold stepD placesT
  simp only [Bool.false_eq_true, if_false]
  rw [tryP_cons]
  simp only [atT]
  cases h2 : tryUs ((false, n), k) us with
  | some r => rfl
  | none => exact h
def byL (us : List Lt) : List Lt := us.flatMap fun u => [u, turnL true u].filter fun w => !newV w
theorem tryW_new {z : Tm} {w : Lt} (h : newV w = true) : tryW z w = none := by
  unfold tryW
  split
  · rfl
  · rw [if_pos h]
def tryL (z : Tm) : List Lt → Option Tm
  | [] => none
  | w :: l => match tryW z w with
    | some r => some r
    | none => tryL z l
theorem tryL_cons {z : Tm} {w : Lt} {l : List Lt} : tryL z (w :: l) = match tryW z w with
    | some r => some r
    | none => tryL z l := rfl
theorem tryL_append {z : Tm} : ∀ {a b : List Lt}, tryL z (a ++ b) = match tryL z a with
    | some r => some r
    | none => tryL z b
  | [], _ => rfl
  | w :: a, b => by
    rw [List.cons_append, tryL_cons, tryL_cons]
    have ih := tryL_append (z := z) (a := a) (b := b)
    cases h : tryW z w with
    | some r => rfl
    | none => simpa only [h] using ih
theorem tryL_by {z : Tm} : ∀ {us : List Lt}, tryL z (byL us) = tryUs z us
  | [] => rfl
  | u :: us => by
    have ih := tryL_by (z := z) (us := us)
    have e2 : tryUs z (u :: us) = match tryU z u with
        | some r => some r
        | none => tryUs z us := rfl
    have e3 : byL (u :: us) = ([u, turnL true u].filter fun w => !newV w) ++ byL us := rfl
    have e4 : tryL z ([u, turnL true u].filter fun w => !newV w) = tryU z u := by
      unfold tryU
      cases h1 : newV u with
      | true =>
        cases h2 : newV (turnL true u) with
        | true => simp [h1, h2, tryL, tryW_new h1, tryW_new h2]
        | false =>
          rw [tryW_new h1]
          simp only [h1, h2, List.filter_cons, Bool.not_true, Bool.not_false, Bool.false_eq_true, if_false, if_true, List.filter_nil, tryL]
          cases tryW z (turnL true u) <;> rfl
      | false =>
        cases h2 : newV (turnL true u) with
        | true =>
          rw [tryW_new h2]
          simp only [h1, h2, List.filter_cons, Bool.not_true, Bool.not_false, Bool.false_eq_true, if_false, if_true, List.filter_nil, tryL]
          cases tryW z u <;> rfl
        | false =>
          simp only [h1, h2, List.filter_cons, Bool.not_false, if_true, List.filter_nil, tryL]
          cases tryW z u <;> cases tryW z (turnL true u) <;> rfl
    rw [e3, tryL_append, e4, e2, ih]
end Go.Proofs.YtlgnpiphaeoeiadDoor
