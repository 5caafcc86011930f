/- CMo CM5 D6m CK2 D6n CMv -/
import Derived.Test.YtaliegkkdhkfcacGreatDoorG16
import Derived.Deep.RegionHeld3
namespace Go.Proofs.YtaliegkkdhkfcacGreatDoor
open Go.RowKit Go.Deep Go.ChangeShapes Go.WideShapes

/-- How long the table of a symbol with so many arguments is. -/
def mlen (z : Int) (n : Int) : Int := if n = 0 then 1 else if n = 1 then z else z * z
def inZ (z : Int) (x : Int) : Bool := decide (0 ≤ x ∧ x < z)
def rowE (z : Int) (p : Int × List Int) : Int := if (p.2.length : Int) = mlen z p.1 then (if p.2.all (inZ z) then 0 else 3) else 5
def rowsE (z : Int) : List (Int × List Int) → Int
  | [] => 0
  | p :: ps => if rowE z p ≠ 0 then rowE z p else rowsE z ps
theorem rowsE_at {z : Int} : ∀ {c : List (Int × List Int)} {j : Nat} {p : Int × List Int}, (∀ i, i < j → ∀ a, c[i]? = some a → rowE z a = 0) → c[j]? = some p → rowE z p ≠ 0 → rowsE z c = rowE z p
  | [], _, _, _, h, _ => by simp at h
  | x :: c, 0, l, _, h, hn => by
    simp only [List.getElem?_cons_zero, Option.some.injEq] at h
    subst h
    rw [rowsE, if_pos hn]
  | x :: c, j + 1, l, h0, h, hn => by
    rw [rowsE, if_neg (by simp [h0 0 (by omega) x (by simp)])]
    exact rowsE_at (j := j) (fun i hi a ha => h0 (i + 1) (by omega) a (by simpa using ha)) (by simpa using h) hn
theorem rowsE_iff {z : Int} : ∀ {c : List (Int × List Int)}, rowsE z c = 0 ↔ ∀ p ∈ c, rowE z p = 0
  | [] => by simp [rowsE]
  | x :: c => by
    rw [rowsE]
    by_cases h : rowE z x = 0
    · rw [if_neg (by simp [h]), rowsE_iff (c := c)]
      simp [h]
    · rw [if_pos h]
      simp [h]
def wrongM (s : List Int) (z : Int) (tb : List (List Int)) : Int := if z < 1 ∨ 8 < z ∨ tb.length ≠ s.length then 5 else rowsE z (s.zip tb)

/-- A right model. -/
structure MR (s : List Int) (z : Int) (tb : List (List Int)) : Prop where
  z1 : 1 ≤ z
  z8 : z ≤ 8
  len : tb.length = s.length
  row : ∀ i, i < s.length → ((tb.getD i []).length : Int) = mlen z (s.getD i 0)
  all : ∀ i, i < s.length → ∀ x ∈ tb.getD i [], 0 ≤ x ∧ x < z
theorem row_ok {z : Int} {p : Int × List Int} : rowE z p = 0 ↔ (p.2.length : Int) = mlen z p.1 ∧ ∀ x ∈ p.2, 0 ≤ x ∧ x < z := by
  unfold rowE
  by_cases h1 : (p.2.length : Int) = mlen z p.1
  · rw [if_pos h1]
    by_cases h2 : p.2.all (inZ z) = true
    · rw [if_pos h2]
      simp only [h1, true_and, true_iff]
      intro x hx
      have := List.all_eq_true.1 h2 x hx
      simpa [inZ] using this
    · rw [if_neg h2]
      constructor
      · intro h; simp at h
      · intro h
        refine absurd (List.all_eq_true.2 fun x hx => ?_) h2
        have := h.2 x hx
        simpa [inZ] using this
  · rw [if_neg h1]
    constructor
    · intro h; simp at h
    · intro h; exact absurd h.1 h1
theorem wrongM_ok {s : List Int} {z : Int} {tb : List (List Int)} (h : wrongM s z tb = 0) : MR s z tb := by
  unfold wrongM at h
  by_cases h1 : z < 1 ∨ 8 < z ∨ tb.length ≠ s.length
  · rw [if_pos h1] at h; simp at h
  · rw [if_neg h1, rowsE_iff] at h
    have hl : tb.length = s.length := by
      by_cases e : tb.length = s.length
      · exact e
      · exact absurd (.inr (.inr e)) h1
    have key : ∀ i, i < s.length → rowE z (s.getD i 0, tb.getD i []) = 0 := fun i hi => by
      have h2 : (s.zip tb)[i]? = some (s.getD i 0, tb.getD i []) := by
        have hs : s[i]? = some (s.getD i 0) := by rw [List.getD_eq_getElem?_getD, List.getElem?_eq_getElem hi]; rfl
        have ht : tb[i]? = some (tb.getD i []) := by rw [List.getD_eq_getElem?_getD, List.getElem?_eq_getElem (by omega)]; rfl
        rw [List.getElem?_zip_eq_some]
        exact ⟨hs, ht⟩
      exact h _ (List.mem_of_getElem? h2)
    exact ⟨by omega, by omega, hl, fun i hi => (row_ok.1 (key i hi)).1, fun i hi => (row_ok.1 (key i hi)).2⟩

/-- So many arguments' numbers, the first one counts most. -/
def pw (z : Int) : Nat → Int
  | 0 => 1
  | n + 1 => z * pw z n
theorem pw_pos {z : Int} (h : 1 ≤ z) : ∀ n, 1 ≤ pw z n
  | 0 => by simp [pw]
  | n + 1 => by
    have := pw_pos h n
    rw [pw]
    have := Int.mul_le_mul h this (by omega) (by omega)
    simpa using this
theorem mlen_pw {z n : Int} {m : Nat} (h : (m : Int) = n) (hm : m ≤ 2) : mlen z n = pw z m := by
  subst h
  rcases (by omega : m = 0 ∨ m = 1 ∨ m = 2) with rfl | rfl | rfl
  · rfl
  · simp [mlen, pw]
  · simp [mlen, pw]
theorem digit_next {z a v p : Int} (hz : 1 ≤ z) (ha : 0 ≤ a) (hp : a < p) (hv : 0 ≤ v) (hvz : v < z) : 0 ≤ z * a + v ∧ z * a + v < z * p := by
  have h1 : 0 ≤ z * a := Int.mul_nonneg (by omega) ha
  have h2 : z * (a + 1) ≤ z * p := Int.mul_le_mul_of_nonneg_left (by omega) (by omega)
  rw [Int.mul_add] at h2
  omega
/-- Of right symbols, with so many arguments as they must have, and few variables: however great. -/
def sigF (s : List Int) : Fo → Prop
  | .nil => True
  | .node _ _ x k r => (aloneF s x (Fo.len k) = 0 ∧ sigF s k) ∧ sigF s r
def sigT (s : List Int) (t : Tm) : Prop := aloneF s t.1 (Fo.len t.2) = 0 ∧ sigF s t.2
theorem sig_walkF {s : List Int} : ∀ {F : Fo} {d : Int}, walkF s F d = 0 → sigF s F
  | .nil, _, _ => trivial
  | .node _ _ x k r, d, h => by
    obtain ⟨hT, hr⟩ := walkF_ok h
    obtain ⟨_, ha, hk⟩ := walkT_ok hT
    exact ⟨⟨ha, sig_walkF hk⟩, sig_walkF hr⟩
theorem sig_walk {s : List Int} {t : Tm} {d : Int} (h : walkT s t.1 t.2 d = 0) : sigT s t := by
  obtain ⟨_, ha, hk⟩ := walkT_ok h
  exact ⟨ha, sig_walkF hk⟩
theorem sig_mem {s : List Int} : ∀ {F : Fo}, sigF s F → ∀ t ∈ F.list, sigT s t
  | .nil, _, t, h => by simp [Fo.list] at h
  | .node _ _ x k r, h, t, ht => by
    simp only [Fo.list, List.mem_cons] at ht
    rcases ht with rfl | ht
    · exact h.1
    · exact sig_mem h.2 t ht
/-- The number of a term is one of a thing. -/
theorem val_range {s : List Int} {z : Int} {tb : List (List Int)} {e : Int → Int} (hm : MR s z tb) (hs : s.all okNum = true) (he : ∀ v, 0 ≤ v → v ≤ 4 → 0 ≤ e v ∧ e v < z) :
    ∀ {F : Fo}, sigF s F → ∀ (a : Int) (i : Nat), 0 ≤ a → a < pw z i → 0 ≤ valF z tb e F a ∧ valF z tb e F a < pw z (Fo.len F + i)
  | .nil, _, a, i, h0, h1 => by simpa [valF, Fo.len] using ⟨h0, h1⟩
  | .node p q (b, n) k r, h, a, i, h0, h1 => by
    obtain ⟨⟨ha, hk⟩, hr⟩ := h
    have hv : 0 ≤ valT z tb e ((b, n), k) ∧ valT z tb e ((b, n), k) < z := by
      cases b with
      | true =>
        obtain ⟨_, hn0, hn4⟩ := alone_var ha
        simpa [valT] using he n hn0 hn4
      | false =>
        obtain ⟨n0, n1, n2⟩ := alone_sym ha
        have ih := val_range hm hs he hk 0 0 (by omega) (by simp [pw])
        have hn : n.toNat < s.length := by omega
        have ok := List.all_eq_true.1 hs (s.getD n.toNat 0) (by rw [List.getD_eq_getElem?_getD, List.getElem?_eq_getElem hn]; simp)
        have ok' : 0 ≤ s.getD n.toNat 0 ∧ s.getD n.toNat 0 ≤ 2 := by simpa [okNum] using ok
        have hl := hm.row n.toNat hn
        rw [mlen_pw n2 (by omega)] at hl
        rw [Nat.add_zero] at ih
        have hlt : (valF z tb e k 0).toNat < (tb.getD n.toNat []).length := by omega
        have : (tb.getD n.toNat []).getD (valF z tb e k 0).toNat 0 ∈ tb.getD n.toNat [] := by
          rw [List.getD_eq_getElem?_getD (l := tb.getD n.toNat []), List.getElem?_eq_getElem hlt]; simp
        have := hm.all n.toNat hn _ this
        simpa [valT] using this
    rw [valF_node]
    have hd := digit_next hm.z1 h0 h1 hv.1 hv.2
    have := val_range hm hs he hr (z * a + valT z tb e ((b, n), k)) (i + 1) hd.1 (by rw [pw]; exact hd.2)
    rw [show Fo.len (.node p q (b, n) k r) + i = Fo.len r + (i + 1) by simp [Fo.len]; omega]
    exact this
theorem val_args {s : List Int} {z : Int} {tb : List (List Int)} {e : Int → Int} (hm : MR s z tb) (hs : s.all okNum = true) (he : ∀ v, 0 ≤ v → v ≤ 4 → 0 ≤ e v ∧ e v < z) {n : Int} {k : Fo} (h : sigT s ((false, n), k)) :
    0 ≤ n ∧ n < s.length ∧ 0 ≤ valF z tb e k 0 ∧ valF z tb e k 0 < (tb.getD n.toNat []).length ∧ Fo.len k ≤ 2 := by
  have ha : aloneF s (false, n) (Fo.len k) = 0 := h.1
  have hk : sigF s k := h.2
  obtain ⟨n0, n1, n2⟩ := alone_sym ha
  have ih := val_range hm hs he hk 0 0 (by omega) (by simp [pw])
  have hn : n.toNat < s.length := by omega
  have ok := List.all_eq_true.1 hs (s.getD n.toNat 0) (by rw [List.getD_eq_getElem?_getD, List.getElem?_eq_getElem hn]; simp)
  have ok' : 0 ≤ s.getD n.toNat 0 ∧ s.getD n.toNat 0 ≤ 2 := by simpa [okNum] using ok
  have hl := hm.row n.toNat hn
  rw [mlen_pw n2 (by omega)] at hl
  rw [Nat.add_zero] at ih
  exact ⟨n0, n1, ih.1, by omega, by omega⟩
theorem val_rangeT {s : List Int} {z : Int} {tb : List (List Int)} {e : Int → Int} (hm : MR s z tb) (hs : s.all okNum = true) (he : ∀ v, 0 ≤ v → v ≤ 4 → 0 ≤ e v ∧ e v < z) {t : Tm} (h : sigT s t) : 0 ≤ valT z tb e t ∧ valT z tb e t < z := by
  have h2 : sigF s (.node 0 0 t.1 t.2 .nil) := ⟨h, trivial⟩
  have := val_range hm hs he h2 0 0 (by omega) (by simp [pw])
  rw [valF_node] at this
  simpa [valF, Fo.len, pw] using this

/-- All bindings, counted as numbers. -/
def envF (z : Int) : List Int → Int → List Int → List Int
  | [], _, L => L
  | v :: vs, n, L => envF z vs (n / z) (L.set v.toNat (n % z))
def envOf (L : List Int) (v : Int) : Int := L.getD v.toNat 0
abbrev env0 : List Int := [0, 0, 0, 0, 0]
def holdsB (z : Int) (tb : List (List Int)) (c : Cl) : Bool := (List.range (pw z (varsC c []).length).toNat).all fun n => someH z tb (envOf (envF z (varsC c []) n env0)) c
theorem envF_len {z : Int} : ∀ (vs : List Int) (n : Int) (L : List Int), (envF z vs n L).length = L.length
  | [], _, _ => rfl
  | v :: vs, n, L => by rw [envF, envF_len]; simp
theorem envF_other {z v : Int} : ∀ {vs : List Int} {n : Int} {L : List Int}, (∀ x ∈ vs, 0 ≤ x) → 0 ≤ v → v ∉ vs → envOf (envF z vs n L) v = envOf L v
  | [], _, _, _, _, _ => rfl
  | x :: vs, n, L, hx, h0, h => by
    have hne : x.toNat ≠ v.toNat := fun e => h (by have := hx x (by simp); rw [show v = x by omega]; simp)
    rw [envF, envF_other (fun y hy => hx y (by simp [hy])) h0 (fun hh => h (by simp [hh]))]
    unfold envOf
    rw [List.getD_eq_getElem?_getD, List.getD_eq_getElem?_getD, List.getElem?_set_ne hne]
theorem env_range {z : Int} (hz : 1 ≤ z) : ∀ {vs : List Int} {n : Int} {L : List Int}, (∀ x ∈ L, 0 ≤ x ∧ x < z) → ∀ x ∈ envF z vs n L, 0 ≤ x ∧ x < z
  | [], _, _, h => h
  | v :: vs, n, L, h => by
    rw [envF]
    refine env_range hz (fun x hx => ?_)
    rcases List.mem_or_eq_of_mem_set hx with hx | hx
    · exact h x hx
    · rw [hx]
      exact ⟨Int.emod_nonneg _ (by omega), Int.emod_lt_of_pos _ (by omega)⟩
theorem env_at {z : Int} (hz : 1 ≤ z) {vs : List Int} {n : Int} (v : Int) : 0 ≤ envOf (envF z vs n env0) v ∧ envOf (envF z vs n env0) v < z := by
  unfold envOf
  rw [List.getD_eq_getElem?_getD]
  cases h : (envF z vs n env0)[v.toNat]? with
  | none => simp; omega
  | some x =>
    have := env_range hz (vs := vs) (n := n) (L := env0) (fun x hx => by simp at hx; omega) x (List.mem_of_getElem? h)
    simpa using this
/-- Some number counts whatever bindings there are. -/
theorem env_some {z : Int} (hz : 1 ≤ z) {e : Int → Int} (he : ∀ v, 0 ≤ e v ∧ e v < z) : ∀ {vs : List Int}, vs.Nodup → (∀ x ∈ vs, 0 ≤ x ∧ x ≤ 4) → ∃ n : Int, 0 ≤ n ∧ n < pw z vs.length ∧ ∀ L : List Int, L.length = 5 → ∀ v ∈ vs, envOf (envF z vs n L) v = e v
  | [], _, _ => ⟨0, by omega, by simp [pw], fun _ _ _ h => by cases h⟩
  | v :: vs, hn, hx => by
    rw [List.nodup_cons] at hn
    obtain ⟨m, m0, m1, hm⟩ := env_some hz he hn.2 (fun x hx' => hx x (by simp [hx']))
    have hv := hx v (by simp)
    obtain ⟨e0, e1⟩ := he v
    have hd := digit_next hz m0 m1 e0 e1
    have hz' : (0 : Int) < z := by omega
    have q1 : (z * m + e v) / z = m := by
      rw [Int.add_comm, Int.add_mul_ediv_left _ _ (by omega), Int.ediv_eq_zero_of_lt e0 e1]; omega
    have q2 : (z * m + e v) % z = e v := by
      rw [Int.add_comm, Int.add_mul_emod_self_left, Int.emod_eq_of_lt e0 e1]
    refine ⟨z * m + e v, hd.1, by rw [List.length_cons, pw]; exact hd.2, fun L hL x hxm => ?_⟩
    rw [envF, q1, q2]
    rcases List.mem_cons.1 hxm with rfl | hxm
    · rw [envF_other (fun y hy => (hx y (by simp [hy])).1) hv.1 hn.1]
      unfold envOf
      rw [List.getD_eq_getElem?_getD, List.getElem?_set_self (by omega)]
      rfl
    · exact hm _ (by simp [hL]) x hxm
theorem some_congr {z : Int} {tb : List (List Int)} {e e' : Int → Int} {c : Cl} (h : ∀ n ∈ varsC c [], e n = e' n) : someH z tb e c = someH z tb e' c := by
  unfold someH
  rw [Bool.eq_iff_iff, List.any_eq_true, List.any_eq_true]
  refine exists_congr fun l => and_congr_right fun hl => ?_
  have h1 : ∀ n, occL n l → e n = e' n := fun n hn => h n (varsC_mem.2 (.inr ⟨l, hl, hn⟩))
  simp only [litH]
  rw [valT_congr (fun n hn => h1 n (.inl hn)), valT_congr (t := l.2.2) (fun n hn => h1 n (.inr hn))]
theorem holds_iff {z : Int} {tb : List (List Int)} {c : Cl} (hz : 1 ≤ z) (hv : ∀ n ∈ varsC c [], 0 ≤ n ∧ n ≤ 4) : holdsB z tb c = true ↔ holdsP z tb c := by
  unfold holdsB holdsP
  rw [List.all_eq_true]
  constructor
  · intro h e he
    obtain ⟨n, n0, n1, hn⟩ := env_some hz he (varsC_nodup (c := c) List.nodup_nil) hv
    have h1 := h n.toNat (List.mem_range.2 (by omega))
    rw [show ((n.toNat : Nat) : Int) = n by omega] at h1
    rw [← h1]
    exact some_congr fun v hvm => (hn env0 rfl v hvm).symm
  · intro h n _
    exact h _ (fun v => env_at hz v)

end Go.Proofs.YtaliegkkdhkfcacGreatDoor

namespace Go.Proofs.YtaliegkkdhkfcacGreatDoor
open Go.RowKit Go.Deep Go.ChangeShapes Go.WideShapes

/-- By whatever bindings. -/
theorem some_bound {z : Int} {tb : List (List Int)} {e : Int → Int} (f : Int → Tm) (c : Cl) : someH z tb e (c.map (mapL (subT f))) = someH z tb (fun n => valT z tb e (f n)) c := by
  unfold someH
  rw [List.any_map]
  congr 1
  funext l
  simp only [Function.comp, litH, mapL, valT_sub]
theorem holds_sub {z : Int} {tb : List (List Int)} {f : Int → Tm} {c : Cl} (hf : ∀ (e : Int → Int), (∀ v, 0 ≤ e v ∧ e v < z) → ∀ n, 0 ≤ valT z tb e (f n) ∧ valT z tb e (f n) < z) (h : holdsP z tb c) : holdsP z tb (c.map (mapL (subT f))) := fun e he => by
  rw [some_bound]
  exact h _ (hf e he)
theorem sig_few {s : List Int} : ∀ {F : Fo}, sigF s F → ∀ m, occF m F → 0 ≤ m ∧ m ≤ 4
  | .nil, _, m, h => by simp [occF] at h
  | .node p q (b, n) k r, h, m, hm => by
    rw [occF] at hm
    rcases hm with hm | hm
    · cases b with
      | true =>
        obtain ⟨_, h0, h4⟩ := alone_var h.1.1
        have : n = m := by simpa using hm
        omega
      | false => exact sig_few h.1.2 m (by simpa using hm)
    · exact sig_few h.2 m hm
theorem sig_fewT {s : List Int} {t : Tm} (h : sigT s t) : ∀ m, occT m t → 0 ≤ m ∧ m ≤ 4 := fun m hm => by
  refine sig_few (F := .node 0 0 t.1 t.2 .nil) ⟨h, trivial⟩ m ?_
  rw [occ_mem]
  exact ⟨t, by simp [Fo.list], hm⟩
theorem sigC_vars {s : List Int} {c : Cl} (h : ∀ l ∈ c, sigT s l.2.1 ∧ sigT s l.2.2) : (∀ n ∈ varsC c [], 0 ≤ n ∧ n ≤ 4) ∧ (varsC c []).length ≤ 5 := by
  have key : ∀ n ∈ varsC c [], 0 ≤ n ∧ n ≤ 4 := fun n hn => by
    rcases varsC_mem.1 hn with hn | ⟨l, hl, hn⟩
    · cases hn
    · rcases hn with hn | hn
      · exact sig_fewT (h l hl).1 n hn
      · exact sig_fewT (h l hl).2 n hn
  refine ⟨key, nodup_le (m := [0, 1, 2, 3, 4]) (varsC_nodup List.nodup_nil) (fun x hx => ?_)⟩
  have := key x hx
  simp
  omega

end Go.Proofs.YtaliegkkdhkfcacGreatDoor

namespace Go.Proofs.YtaliegkkdhkfcacGreatDoor
open Go.RowKit Go.Deep Go.ChangeShapes Go.WideShapes

/-- Of right symbols, with so many arguments as they must have; of whatever variables. -/
def symF (s : List Int) : Fo → Prop
  | .nil => True
  | .node _ _ x k r => ((x.1 = false → aloneF s x (Fo.len k) = 0) ∧ symF s k) ∧ symF s r
def symT (s : List Int) (t : Tm) : Prop := (t.1.1 = false → aloneF s t.1 (Fo.len t.2) = 0) ∧ symF s t.2
theorem sym_sigF {s : List Int} : ∀ {F : Fo}, sigF s F → symF s F
  | .nil, _ => trivial
  | .node _ _ _ _ _, h => ⟨⟨fun _ => h.1.1, sym_sigF h.1.2⟩, sym_sigF h.2⟩
theorem sym_sig {s : List Int} {t : Tm} (h : sigT s t) : symT s t := ⟨fun _ => h.1, sym_sigF h.2⟩
theorem sym_mem {s : List Int} : ∀ {F : Fo}, symF s F → ∀ t ∈ F.list, symT s t
  | .nil, _, t, h => by simp [Fo.list] at h
  | .node _ _ x k r, h, t, ht => by
    simp only [Fo.list, List.mem_cons] at ht
    rcases ht with rfl | ht
    · exact h.1
    · exact sym_mem h.2 t ht
theorem sym_vr {s : List Int} (n : Int) : symT s (vr n) := ⟨fun h => (by cases h), trivial⟩
theorem sym_subF {s : List Int} {f : Int → Tm} (hf : ∀ n, symT s (f n)) : ∀ {F : Fo}, symF s F → symF s (subF f F)
  | .nil, _ => trivial
  | .node p q (b, n) k r, h => by
    rw [subF_node]
    refine ⟨?_, sym_subF hf h.2⟩
    cases b with
    | true => rw [subT_var]; exact hf n
    | false =>
      rw [subT_sym]
      refine ⟨fun e => ?_, sym_subF hf h.1.2⟩
      rw [subF_len]; exact h.1.1 e
theorem sym_sub {s : List Int} {f : Int → Tm} (hf : ∀ n, symT s (f n)) {t : Tm} (h : symT s t) : symT s (subT f t) := by
  obtain ⟨⟨b, n⟩, k⟩ := t
  cases b with
  | true => rw [subT_var]; exact hf n
  | false =>
    rw [subT_sym]
    refine ⟨fun e => ?_, sym_subF hf h.2⟩
    rw [subF_len]; exact h.1 e
theorem sym_bnd {s : List Int} {b : Sb} (h : ∀ p ∈ b, symT s p.2) (n : Int) : symT s (bnd b n) := by
  cases el : look b n with
  | none => rw [bnd_none el]; exact sym_vr n
  | some u => rw [bnd_some el]; exact h _ (look_mem el)
theorem sym_top {s : List Int} {b : Sb} {t : Tm} (h : ∀ p ∈ b, symT s p.2) (ht : symT s t) : symT s (top b t) := by
  unfold top
  split
  · cases el : look b t.1.2 with
    | none => exact ht
    | some u => exact h _ (look_mem el)
  · exact ht
theorem sym_run {s : List Int} : ∀ (n : Nat) (b b' : Sb) (L : List (Tm × Tm)), (∀ p ∈ b, symT s p.2) → (∀ p ∈ L, symT s p.1 ∧ symT s p.2) → runU n b L = some (some b') → ∀ p ∈ b', symT s p.2 := by
  intro n
  induction n with
  | zero => intro b b' L _ _ hr; simp [runU] at hr
  | succ n ih =>
    intro b b' L hb hL hr
    cases L with
    | nil =>
      simp only [runU, Option.some.injEq] at hr
      subst hr
      exact hb
    | cons p L =>
      cases hst : stepU b p.1 p.2 L with
      | none => simp [runU, hst] at hr
      | some q =>
        obtain ⟨b1, L1⟩ := q
        simp only [runU, hst] at hr
        have hp := hL p (by simp)
        have h1 := sym_top hb hp.1
        have h2 := sym_top hb hp.2
        have hL' : ∀ q ∈ L, symT s q.1 ∧ symT s q.2 := fun q hq => hL q (by simp [hq])
        rcases stepU_cases hst with ⟨_, _, _, rfl, rfl⟩ | ⟨x, y, hxy, hv, ha, rfl⟩ | ⟨e1, e2, _, hl, rfl, rfl⟩
        · exact ih _ _ _ hb hL' hr
        · refine ih _ _ _ ?_ hL' hr
          have hy : symT s y := by rcases hxy with ⟨_, rfl⟩ | ⟨_, rfl⟩ <;> assumption
          have hys := sym_sub (sym_bnd hb) hy
          unfold addS at ha
          split at ha
          · cases ha
          · cases ha
            intro q hq
            rcases List.mem_append.1 hq with hq | hq
            · obtain ⟨r, hr', rfl⟩ := List.mem_map.1 hq
              exact sym_sub (sym_bnd (fun t ht => by rw [List.mem_singleton.1 ht]; exact hys)) (hb r hr')
            · rw [List.mem_singleton.1 hq]; exact hys
        · refine ih _ _ _ hb (fun q hq => ?_) hr
          rcases List.mem_append.1 hq with hq | hq
          · have := List.of_mem_zip hq
            exact ⟨sym_mem h1.2 _ this.1, sym_mem h2.2 _ this.2⟩
          · exact hL' q hq
theorem sym_mgu {s : List Int} {n : Nat} {a b : Tm} {r : Sb} (ha : symT s a) (hb : symT s b) (h : runU n [] [(a, b)] = some (some r)) : ∀ p ∈ r, symT s p.2 :=
  sym_run n [] r [(a, b)] (fun p hp => by simp at hp) (fun p hp => by rw [List.mem_singleton.1 hp]; exact ⟨ha, hb⟩) h
theorem val_symF {s : List Int} {z : Int} {tb : List (List Int)} {e : Int → Int} (hm : MR s z tb) (hs : s.all okNum = true) (he : ∀ v, 0 ≤ e v ∧ e v < z) :
    ∀ {F : Fo}, symF s F → ∀ (a : Int) (i : Nat), 0 ≤ a → a < pw z i → 0 ≤ valF z tb e F a ∧ valF z tb e F a < pw z (Fo.len F + i)
  | .nil, _, a, i, h0, h1 => by simpa [valF, Fo.len] using ⟨h0, h1⟩
  | .node p q (b, n) k r, h, a, i, h0, h1 => by
    obtain ⟨⟨ha, hk⟩, hr⟩ := h
    have hv : 0 ≤ valT z tb e ((b, n), k) ∧ valT z tb e ((b, n), k) < z := by
      cases b with
      | true => simpa [valT] using he n
      | false =>
        obtain ⟨n0, n1, n2⟩ := alone_sym (ha rfl)
        have ih := val_symF hm hs he hk 0 0 (by omega) (by simp [pw])
        have hn : n.toNat < s.length := by omega
        have ok := List.all_eq_true.1 hs (s.getD n.toNat 0) (by rw [List.getD_eq_getElem?_getD, List.getElem?_eq_getElem hn]; simp)
        have ok' : 0 ≤ s.getD n.toNat 0 ∧ s.getD n.toNat 0 ≤ 2 := by simpa [okNum] using ok
        have hl := hm.row n.toNat hn
        rw [mlen_pw n2 (by omega)] at hl
        rw [Nat.add_zero] at ih
        have hlt : (valF z tb e k 0).toNat < (tb.getD n.toNat []).length := by omega
        have : (tb.getD n.toNat []).getD (valF z tb e k 0).toNat 0 ∈ tb.getD n.toNat [] := by
          rw [List.getD_eq_getElem?_getD (l := tb.getD n.toNat []), List.getElem?_eq_getElem hlt]; simp
        have := hm.all n.toNat hn _ this
        simpa [valT] using this
    rw [valF_node]
    have hd := digit_next hm.z1 h0 h1 hv.1 hv.2
    have := val_symF hm hs he hr (z * a + valT z tb e ((b, n), k)) (i + 1) hd.1 (by rw [pw]; exact hd.2)
    rw [show Fo.len (.node p q (b, n) k r) + i = Fo.len r + (i + 1) by simp [Fo.len]; omega]
    exact this
theorem val_sym {s : List Int} {z : Int} {tb : List (List Int)} {e : Int → Int} (hm : MR s z tb) (hs : s.all okNum = true) (he : ∀ v, 0 ≤ e v ∧ e v < z) {t : Tm} (h : symT s t) : 0 ≤ valT z tb e t ∧ valT z tb e t < z := by
  have h2 : symF s (.node 0 0 t.1 t.2 .nil) := ⟨h, trivial⟩
  have := val_symF hm hs he h2 0 0 (by omega) (by simp [pw])
  rw [valF_node] at this
  simpa [valF, Fo.len, pw] using this

theorem but_or {c : Cl} {i : Nat} {x q : Lt} (hx : c[i]? = some x) (hq : q ∈ c) : q = x ∨ q ∈ butC c i := by
  obtain ⟨j, hj⟩ := List.mem_iff_getElem?.1 hq
  by_cases h1 : j = i
  · subst h1; rw [hx] at hj; cases hj; exact .inl rfl
  · right
    unfold butC
    rw [List.mem_append]
    by_cases h2 : j < i
    · left
      exact List.mem_of_getElem? (i := j) (by rw [List.getElem?_take_of_lt h2]; exact hj)
    · right
      exact List.mem_of_getElem? (i := j - (i + 1)) (by rw [List.getElem?_drop, show i + 1 + (j - (i + 1)) = j by omega]; exact hj)
theorem but_has {c : Cl} {i j : Nat} {y : Lt} (hy : c[j]? = some y) (h : j ≠ i) : y ∈ butC c i := by
  unfold butC
  rw [List.mem_append]
  by_cases h2 : j < i
  · left
    exact List.mem_of_getElem? (i := j) (by rw [List.getElem?_take_of_lt h2]; exact hy)
  · right
    exact List.mem_of_getElem? (i := j - (i + 1)) (by rw [List.getElem?_drop, show i + 1 + (j - (i + 1)) = j by omega]; exact hy)
theorem litH_turn {z : Int} {tb : List (List Int)} {e : Int → Int} (yes : Bool) (l : Lt) : litH z tb e (turnL yes l) = litH z tb e l := by
  cases yes
  · rfl
  · simp only [litH, turnL, if_true]
    rw [Bool.beq_comm]
theorem turn_neg (yes : Bool) (l : Lt) : (turnL yes l).1 = l.1 := by cases yes <;> rfl
section
variable {s : List Int} {z : Int} {tb : List (List Int)} {c : Cl} {b : Sb}
/-- Bound, it is told of other things. -/
theorem hold_by (hm : MR s z tb) (hs : s.all okNum = true) (hb : ∀ p ∈ b, symT s p.2) {d : Cl} (h : ∀ e : Int → Int, (∀ v, 0 ≤ e v ∧ e v < z) → (∀ t u : Tm, subT (bnd b) t = subT (bnd b) u → valT z tb e t = valT z tb e u) → someH z tb e d = true) : holdsP z tb (d.map (mapL (subT (bnd b)))) := fun e he => by
  rw [some_bound]
  refine h _ (fun v => val_sym hm hs he (sym_bnd hb v)) (fun t u htu => ?_)
  rw [← valT_sub, ← valT_sub, htu]
theorem res_holds (hm : MR s z tb) (hs : s.all okNum = true) (hb : ∀ p ∈ b, symT s p.2) (h : holdsP z tb c) {i : Nat} {x : Lt} (hx : c[i]? = some x) (hn : x.1 = true) (hu : subT (bnd b) x.2.1 = subT (bnd b) x.2.2) : holdsP z tb ((butC c i).map (mapL (subT (bnd b)))) :=
  hold_by hm hs hb fun e he hv => by
    have h1 := h e he
    unfold someH at h1 ⊢
    rw [List.any_eq_true] at h1 ⊢
    obtain ⟨q, hq, hl⟩ := h1
    rcases but_or hx hq with rfl | hq
    · simp [litH, hn, hv _ _ hu] at hl
    · exact ⟨q, hq, hl⟩
theorem fac_holds (hm : MR s z tb) (hs : s.all okNum = true) (hb : ∀ p ∈ b, symT s p.2) (h : holdsP z tb c) {i j : Nat} {x y : Lt} (hx : c[i]? = some x) (hy : c[j]? = some y) (hij : j ≠ i) (hxn : x.1 = false) (hyn : y.1 = false) {k1 k2 : Bool}
    (hu : subT (bnd b) (turnL k1 x).2.1 = subT (bnd b) (turnL k2 y).2.1) : holdsP z tb ((butC c i ++ [(true, (turnL k1 x).2.2, (turnL k2 y).2.2)]).map (mapL (subT (bnd b)))) :=
  hold_by hm hs hb fun e he hv => by
    have h1 := h e he
    have h2 := hv _ _ hu
    unfold someH at h1 ⊢
    rw [List.any_eq_true] at h1
    obtain ⟨q, hq, hl⟩ := h1
    rw [List.any_append, Bool.or_eq_true]
    rcases but_or hx hq with rfl | hq
    · rw [← litH_turn k1] at hl
      have hl' : valT z tb e (turnL k1 q).2.1 = valT z tb e (turnL k1 q).2.2 := by
        simp only [litH, turn_neg, hxn] at hl
        simpa using hl
      by_cases e3 : valT z tb e (turnL k1 q).2.2 = valT z tb e (turnL k2 y).2.2
      · left
        rw [List.any_eq_true]
        refine ⟨y, but_has hy hij, ?_⟩
        rw [← litH_turn k2]
        simp only [litH, turn_neg, hyn]
        simp [← h2, hl', e3]
      · right
        simp [litH, e3]
    · left
      rw [List.any_eq_true]
      exact ⟨q, hq, hl⟩
theorem valF_set {e : Int → Int} {f : Tm → Tm} : ∀ {F : Fo} {i : Nat} {y : Tm} (a : Int), F.list[i]? = some y → valT z tb e (f y) = valT z tb e y → valF z tb e (setF F i f) a = valF z tb e F a
  | .nil, _, _, _, h, _ => by simp [Fo.list] at h
  | .node p q x k r, 0, y, a, h, hv => by
    simp only [Fo.list, List.getElem?_cons_zero, Option.some.injEq] at h
    subst h
    simp only [setF]
    rw [valF_node, valF_node]
    congr 1
    rw [← hv]
  | .node p q x k r, i + 1, y, a, h, hv => by
    simp only [setF]
    rw [valF_node, valF_node]
    exact valF_set _ (by simpa [Fo.list] using h) hv
theorem val_put {e : Int → Int} {u : Tm} : ∀ {p : List Int} {x : Bool × Int} {k : Fo} {t : Tm}, atT p x k = some t → valT z tb e u = valT z tb e t → valT z tb e (putT p (x, k) u) = valT z tb e (x, k)
  | [], x, k, t, h, hv => by
    cases h
    exact hv
  | n :: p, x, k, t, h, hv => by
    rw [atT] at h
    rw [putT]
    by_cases hn : x.1 = true ∨ n < 0 ∨ (Fo.len k : Int) ≤ n
    · rw [if_pos hn] at h; cases h
    · rw [if_neg hn] at h
      rw [if_neg hn]
      cases hy : k.list[n.toNat]? with
      | none => rw [hy] at h; cases h
      | some y =>
        rw [hy] at h
        have hx : ¬ x.1 = true := fun e => hn (.inl e)
        have ih := val_put (p := p) (x := y.1) (k := y.2) h hv
        unfold valT
        rw [if_neg hx, if_neg hx]
        dsimp only
        rw [valF_set (f := fun s => putT p s u) 0 hy ih]
theorem sup_holds {dd : Cl} (hm : MR s z tb) (hs : s.all okNum = true) (hb : ∀ p ∈ b, symT s p.2) (h : holdsP z tb c) (hd : holdsP z tb dd) {i j : Nat} {x y : Lt} (hx : c[i]? = some x) (hy : dd[j]? = some y) (hxn : x.1 = false) {k1 k2 : Bool} {p : List Int} {t : Tm}
    (ht : atT p (turnL k2 y).2.1.1 (turnL k2 y).2.1.2 = some t) (hu : subT (bnd b) (turnL k1 x).2.1 = subT (bnd b) t) :
    holdsP z tb ((butC c i ++ dd.set j (turnL k2 ((turnL k2 y).1, putT p (turnL k2 y).2.1 (turnL k1 x).2.2, (turnL k2 y).2.2))).map (mapL (subT (bnd b)))) :=
  hold_by hm hs hb fun e he hv => by
    have h1 := h e he
    have h2 := hd e he
    have h3 := hv _ _ hu
    unfold someH at h1 h2 ⊢
    rw [List.any_eq_true] at h1 h2
    obtain ⟨q, hq, hl⟩ := h1
    obtain ⟨r, hr, hrl⟩ := h2
    rw [List.any_append, Bool.or_eq_true]
    rcases but_or hx hq with rfl | hq
    · right
      rw [← litH_turn k1] at hl
      have hl' : valT z tb e (turnL k1 q).2.1 = valT z tb e (turnL k1 q).2.2 := by
        simp only [litH, turn_neg, hxn] at hl
        simpa using hl
      have hp := val_put (z := z) (tb := tb) (e := e) (u := (turnL k1 q).2.2) ht (by rw [← hl', h3])
      rw [List.any_eq_true]
      obtain ⟨m, hm'⟩ := List.mem_iff_getElem?.1 hr
      by_cases e4 : m = j
      · subst e4
        rw [hy] at hm'
        cases hm'
        refine ⟨_, List.mem_of_getElem? (i := m) (List.getElem?_set_self (List.getElem?_eq_some_iff.1 hy).1), ?_⟩
        rw [litH_turn]
        rw [← litH_turn k2] at hrl
        simp only [litH] at hrl ⊢
        rw [hp]
        exact hrl
      · exact ⟨r, List.mem_of_getElem? (i := m) (by rw [List.getElem?_set_ne (fun e => e4 e.symm)]; exact hm'), hrl⟩
    · left
      rw [List.any_eq_true]
      exact ⟨q, hq, hl⟩
/-- With other variables it holds as it did. -/
theorem ren_holds {n : Int} {d : Cl} (h : holdsP z tb d) : holdsP z tb (d.map (mapL (subT (ren n)))) :=
  holds_sub (fun e he m => by simpa [ren, vr, valT] using he (wrap64 (m + n))) h
end

end Go.Proofs.YtaliegkkdhkfcacGreatDoor

namespace Go.Proofs.YtaliegkkdhkfcacGreatDoor
open Go.RowKit Go.Deep Go.ChangeShapes Go.WideShapes

/-- A literal that stands as it must: it does not say that something is itself, and its right is not above its left. -/
def Tn (l : Lt) : Prop := l.2.1 ≠ l.2.2 ∧ abvT l.2.2 l.2.1 = false
theorem tn_flip {l : Lt} (h : okL l) (hs : ¬ l.2.1 = l.2.2) : Tn (flipL l) := by
  unfold flipL
  by_cases ha : abvT l.2.2 l.2.1 = true
  · rw [if_pos ha]
    exact ⟨fun e => hs e.symm, by simpa using abv_asym h.2 h.1 ha⟩
  · rw [if_neg ha]
    exact ⟨hs, by simpa using ha⟩
theorem tstep_tn {o : Option Cl} {l : Lt} {d : Cl} (h : tstep o l = some d) (hl : okL l) (h0 : ∀ e, o = some e → ∀ x ∈ e, Tn x) : ∀ x ∈ d, Tn x := by
  cases o with
  | none => simp [tstep] at h
  | some e =>
    simp only [tstep, Option.bind_some] at h
    by_cases hs : sameT l.2.1.1 l.2.1.2 l.2.2.1 l.2.2.2 = true
    · rw [if_pos hs] at h
      split at h
      · obtain rfl := Option.some.inj h; exact h0 _ rfl
      · cases h
    · rw [if_neg hs] at h
      cases h
      intro x hx
      rcases List.mem_append.1 hx with hx | hx
      · exact h0 e rfl x hx
      · simp at hx; rw [hx]; exact tn_flip hl (fun e => hs ((sameT_iff hl.1 hl.2).2 e))
theorem turn_tn : ∀ {c : Cl} {o : Option Cl} {d : Cl}, c.foldl tstep o = some d → (∀ l ∈ c, okL l) → (∀ e, o = some e → ∀ x ∈ e, Tn x) → ∀ x ∈ d, Tn x
  | [], o, d, h, _, h0 => h0 d h
  | l :: c, o, d, h, hc, h0 => turn_tn (c := c) (o := tstep o l) h (fun x hx => hc x (by simp [hx])) (fun e he => tstep_tn he (hc l (by simp)) h0)
theorem turn_fix : ∀ {c out : Cl}, (∀ l ∈ c, okL l ∧ Tn l) → c.foldl tstep (some out) = some (out ++ c)
  | [], out, _ => by simp
  | l :: c, out, h => by
    obtain ⟨ho, h1, h2⟩ := h l (by simp)
    have hs : ¬ sameT l.2.1.1 l.2.1.2 l.2.2.1 l.2.2.2 = true := fun e => h1 ((sameT_iff ho.1 ho.2).1 e)
    have e1 : tstep (some out) l = some (out ++ [l]) := by
      simp only [tstep, Option.bind_some]
      rw [if_neg hs]
      unfold flipL
      rw [if_neg (by rw [h2]; simp)]
    rw [List.foldl_cons, e1, turn_fix (fun x hx => h x (by simp [hx]))]
    simp

/-- New numbers, and back. -/
def bck (vs : List Int) (n : Int) : Tm := vr (vs.getD n.toNat 0)
theorem num_back {vs : List Int} {t : Tm} (ht : okT t) (h : ∀ n, occT n t → n ∈ vs) : subT (bck vs) (subT (bnd (numS vs)) t) = t := by
  rw [subT_sub]
  have : subT (fun n => subT (bck vs) (bnd (numS vs) n)) t = subT vr t := subT_congr fun n hn => by
    have hm := h n hn
    rw [bnd_num hm]
    have h1 : vs.idxOf n < vs.length := List.idxOf_lt_length_of_mem hm
    show bck vs (vs.idxOf n : Nat) = vr n
    unfold bck
    rw [Int.toNat_natCast, List.getD_eq_getElem?_getD, List.getElem?_eq_getElem h1, Option.getD_some, List.getElem_idxOf h1]
  rw [this, subT_vr ht]
theorem varsT_all {x : Bool × Int} {k : Fo} {v : List Int} (h : ∀ n, occT n (x, k) → n ∈ v) : varsT x k v = v := by
  have key : ∀ (F : Fo) (v : List Int), (∀ n, occF n F → n ∈ v) → varsF F v = v := by
    intro F
    induction F with
    | nil => intro v _; rfl
    | node p q y l r ihl ihr =>
      intro v hv
      have hl : ∀ n, occT n (y, l) → n ∈ v := fun n hn => hv n (by rw [occ_mem]; exact ⟨(y, l), by simp [Fo.list], hn⟩)
      have hr : ∀ n, occF n r → n ∈ v := fun n hn => hv n (by
        rw [occ_mem] at hn ⊢
        obtain ⟨t, ht, h2⟩ := hn
        exact ⟨t, by simp [Fo.list, ht], h2⟩)
      have e : varsT y l v = v := by
        obtain ⟨b, n⟩ := y
        cases b with
        | true =>
          have := hl n (by simp [occT])
          simp [varsT, hasB, this]
        | false => simp only [varsT, Bool.false_eq_true, if_false]; exact ihl v (fun n hn => hl n (by simp [occT, hn]))
      show varsF r (varsT y l v) = v
      rw [e, ihr v hr]
  obtain ⟨b, n⟩ := x
  cases b with
  | true =>
    have := h n (by simp [occT])
    simp [varsT, hasB, this]
  | false => simp only [varsT, Bool.false_eq_true, if_false]; exact key k v (fun n hn => h n (by simp [occT, hn]))
theorem varsL_all {l : Lt} {v : List Int} (h : ∀ n, occL n l → n ∈ v) : varsL l v = v := by
  unfold varsL
  rw [varsT_all (x := l.2.1.1) (k := l.2.1.2) (v := v) (fun n hn => h n (.inl hn)), varsT_all (fun n hn => h n (.inr hn))]
theorem varsC_append (c d : Cl) (v : List Int) : varsC (c ++ d) v = varsC d (varsC c v) := by simp [varsC, List.foldl_append]
theorem like_occ {f l : Lt} (hf : okL f) (hl : okL l) (h : likeL f l = true) (n : Int) : occL n l → occL n f := by
  rw [like_iff hf hl] at h
  unfold occL
  rcases h with ⟨h1, h2⟩ | ⟨h1, h2⟩
  · rw [h1, h2]; exact id
  · rw [h1, h2]; exact Or.symm
theorem dist_vars {P out : Cl} (hP : ∀ x ∈ P, okL x) (h : distC P = some out) : varsC out [] = varsC P [] := by
  have key : ∀ (n : Nat) (out : Cl), n ≤ P.length → distC (P.take n) = some out → varsC out [] = varsC (P.take n) [] := by
    intro n
    induction n with
    | zero => intro out _ h; simp [distC] at h; subst h; simp
    | succ n ih =>
      intro out hn h
      have hl : P[n]? = some P[n] := List.getElem?_eq_getElem (by omega)
      rw [dist_take hl] at h
      cases hd : distC (P.take n) with
      | none => rw [hd] at h; simp [dstep] at h
      | some e =>
        rw [hd] at h
        have he := ih e (by omega) hd
        have hm : ∀ x ∈ e, x ∈ P := dist_mem (p := fun x => x ∈ P) hd (fun e he => by cases he; simp) (fun x hx => List.mem_of_mem_take hx)
        rw [List.take_add_one, hl]
        simp only [dstep, Option.bind_some] at h
        cases hf : e.find? (fun f => likeL f P[n]) with
        | none =>
          rw [hf] at h
          cases h
          rw [varsC_append, varsC_append, he]
          rfl
        | some f =>
          rw [hf] at h
          simp only at h
          split at h
          · obtain rfl := Option.some.inj h
            have hfm : f ∈ e := List.mem_of_find?_eq_some hf
            have hfl : likeL f P[n] = true := by have := List.find?_some hf; simpa using this
            rw [varsC_append, ← he]
            show _ = varsL P[n] (varsC e [])
            rw [varsL_all]
            intro m hmm
            exact varsC_mem.2 (.inr ⟨f, hfm, like_occ (hP f (hm f hfm)) (hP _ (List.getElem_mem _)) hfl m hmm⟩)
          · cases h
  have := key P.length out (Nat.le_refl _) (by rw [List.take_length]; exact h)
  rwa [List.take_length] at this
theorem dist_fix : ∀ {c out : Cl}, (out ++ c).Pairwise (fun a b => likeL a b = false) → c.foldl dstep (some out) = some (out ++ c)
  | [], out, _ => by simp
  | l :: c, out, h => by
    have hno : out.find? (fun f => likeL f l) = none := by
      rw [List.find?_eq_none]
      intro f hf
      rw [List.pairwise_append] at h
      simp [h.2.2 f hf l (by simp)]
    have e1 : dstep (some out) l = some (out ++ [l]) := by
      simp only [dstep, Option.bind_some, hno]
    rw [List.foldl_cons, e1, dist_fix (by simpa using h)]
    simp

/-- The variables of what is numbered: so many, in turn. -/
theorem varsT_ren {ρ : Int → Int} {S : Int → Prop} (hi : ∀ m n, S m → S n → ρ m = ρ n → m = n) {x : Bool × Int} {k : Fo} {v : List Int} (h : ∀ n, occT n (x, k) → S n) (hv : ∀ n ∈ v, S n) :
    varsT (subT (fun n => vr (ρ n)) (x, k)).1 (subT (fun n => vr (ρ n)) (x, k)).2 (v.map ρ) = (varsT x k v).map ρ := by
  have one : ∀ (n : Int) (v : List Int), S n → (∀ m ∈ v, S m) → varsT (vr (ρ n)).1 (vr (ρ n)).2 (v.map ρ) = (varsT (true, n) .nil v).map ρ := by
    intro n v hn hv
    have e : hasB (v.map ρ) (ρ n) = hasB v n := by
      unfold hasB
      rw [decide_eq_decide, List.mem_map]
      constructor
      · rintro ⟨m, hm, e⟩; rw [← hi m n (hv m hm) hn e]; exact hm
      · exact fun hm => ⟨n, hm, rfl⟩
    simp only [vr, varsT, if_true, e]
    split <;> simp
  have key : ∀ (F : Fo) (v : List Int), (∀ n, occF n F → S n) → (∀ n ∈ v, S n) → varsF (subF (fun n => vr (ρ n)) F) (v.map ρ) = (varsF F v).map ρ := by
    intro F
    induction F with
    | nil => intro v _ _; rfl
    | node p q y l r ihl ihr =>
      intro v hv hs
      have hl : ∀ n, occT n (y, l) → S n := fun n hn => hv n (by rw [occ_mem]; exact ⟨(y, l), by simp [Fo.list], hn⟩)
      have hr : ∀ n, occF n r → S n := fun n hn => hv n (by
        rw [occ_mem] at hn ⊢
        obtain ⟨t, ht, h2⟩ := hn
        exact ⟨t, by simp [Fo.list, ht], h2⟩)
      have e : varsT (subT (fun n => vr (ρ n)) (y, l)).1 (subT (fun n => vr (ρ n)) (y, l)).2 (v.map ρ) = (varsT y l v).map ρ := by
        obtain ⟨b, n⟩ := y
        cases b with
        | true => rw [subT_var, one n v (hl n (by simp [occT])) hs]; rfl
        | false => rw [subT_sym]; simp only [varsT, Bool.false_eq_true, if_false]; exact ihl v (fun n hn => hl n (by simp [occT, hn])) hs
      rw [subF_node]
      show varsF (subF (fun n => vr (ρ n)) r) (varsT _ _ (v.map ρ)) = (varsF r (varsT y l v)).map ρ
      rw [e, ihr _ hr]
      intro n hn
      rcases varsT_mem.1 hn with hn | hn
      · exact hs n hn
      · exact hl n hn
  obtain ⟨b, n⟩ := x
  cases b with
  | true => rw [subT_var, one n v (h n (by simp [occT])) hv]; rfl
  | false => rw [subT_sym]; simp only [varsT, Bool.false_eq_true, if_false]; exact key k v (fun n hn => h n (by simp [occT, hn])) hv
theorem varsC_ren {ρ : Int → Int} {S : Int → Prop} (hi : ∀ m n, S m → S n → ρ m = ρ n → m = n) : ∀ {c : Cl} {v : List Int}, (∀ l ∈ c, ∀ n, occL n l → S n) → (∀ n ∈ v, S n) → varsC (c.map (mapL (subT fun n => vr (ρ n)))) (v.map ρ) = (varsC c v).map ρ
  | [], v, _, _ => by simp [varsC]
  | l :: c, v, h, hv => by
    have hl := h l (by simp)
    have e : varsL (mapL (subT fun n => vr (ρ n)) l) (v.map ρ) = (varsL l v).map ρ := by
      unfold varsL mapL
      rw [varsT_ren hi (x := l.2.1.1) (k := l.2.1.2) (fun n hn => hl n (.inl hn)) hv, varsT_ren hi (x := l.2.2.1) (k := l.2.2.2) (fun n hn => hl n (.inr hn))]
      intro n hn
      rcases varsT_mem.1 hn with hn | hn
      · exact hv n hn
      · exact hl n (.inl hn)
    show varsC (c.map _) (varsL (mapL (subT fun n => vr (ρ n)) l) (v.map ρ)) = (varsC c (varsL l v)).map ρ
    rw [e, varsC_ren hi (fun x hx => h x (by simp [hx]))]
    intro n hn
    rcases varsL_mem.1 hn with hn | hn
    · exact hv n hn
    · exact hl n hn
theorem idx_range {vs : List Int} (h : vs.Nodup) : vs.map (fun n => ((vs.idxOf n : Nat) : Int)) = (List.range vs.length).map (fun i : Nat => (i : Int)) := by
  apply List.ext_getElem
  · simp
  · intro i h1 h2
    simp only [List.length_map] at h1
    simp only [List.getElem_map, List.getElem_range]
    rw [h.idxOf_getElem i h1]
theorem ren_vars {d : Cl} : varsC (reN d) [] = (List.range (varsC d []).length).map (fun i : Nat => (i : Int)) := by
  have hi : ∀ m n, m ∈ varsC d [] → n ∈ varsC d [] → (((varsC d []).idxOf m : Nat) : Int) = (((varsC d []).idxOf n : Nat) : Int) → m = n := fun m n hm _ e => idx_inj hm (by omega)
  have ho : ∀ l ∈ d, ∀ n, occL n l → n ∈ varsC d [] := fun l hl n hn => varsC_mem.2 (.inr ⟨l, hl, hn⟩)
  have e : reN d = d.map (mapL (subT fun n => vr (((varsC d []).idxOf n : Nat) : Int))) := by
    unfold reN
    refine List.map_congr_left fun l hl => ?_
    unfold mapL
    rw [subT_congr (t := l.2.1) (fun n hn => bnd_num (ho l hl n (.inl hn))), subT_congr (t := l.2.2) (fun n hn => bnd_num (ho l hl n (.inr hn)))]
  have := varsC_ren (ρ := fun n => (((varsC d []).idxOf n : Nat) : Int)) (S := fun n => n ∈ varsC d []) hi (c := d) (v := []) ho (by simp)
  rw [List.map_nil] at this
  rw [e, this, idx_range (varsC_nodup List.nodup_nil)]
theorem range_idx {m : Nat} {n : Int} (h : n ∈ (List.range m).map (fun i : Nat => (i : Int))) : ((((List.range m).map (fun i : Nat => (i : Int))).idxOf n : Nat) : Int) = n := by
  have h1 := List.idxOf_lt_length_of_mem h
  have h2 := List.getElem_idxOf h1
  rw [List.getElem_map, List.getElem_range] at h2
  exact h2
theorem ren_fix {e : Cl} {m : Nat} (hv : varsC e [] = (List.range m).map (fun i : Nat => (i : Int))) (ho : ∀ l ∈ e, okL l) : reN e = e := by
  unfold reN
  rw [hv]
  conv => rhs; rw [← List.map_id e]
  refine List.map_congr_left fun l hl => ?_
  have key : ∀ t, okT t → (∀ n, occT n t → occL n l) → subT (bnd (numS ((List.range m).map (fun i : Nat => (i : Int))))) t = t := fun t ht h => by
    rw [subT_congr (g := vr) (fun n hn => ?_), subT_vr ht]
    have hm : n ∈ (List.range m).map (fun i : Nat => (i : Int)) := by rw [← hv]; exact varsC_mem.2 (.inr ⟨l, hl, h n hn⟩)
    rw [bnd_num hm, range_idx hm]
  unfold mapL
  rw [key _ (ho l hl).1 (fun n hn => .inl hn), key _ (ho l hl).2 (fun n hn => .inr hn)]
  rfl
theorem walkT_mk {s : List Int} {x : Bool × Int} {k : Fo} {d : Int} (h1 : d ≤ 12) (h2 : aloneF s x (Fo.len k) = 0) (h3 : walkF s k (d + 1) = 0) : walkT s x k d = 0 := by
  unfold walkT
  rw [if_neg (by omega), if_neg (by simpa using h2), h3]
end Go.Proofs.YtaliegkkdhkfcacGreatDoor

namespace Go.Proofs.YtaliegkkdhkfcacGreatDoor
open Go.RowKit Go.Deep Go.ChangeShapes Go.WideShapes

theorem ren_tnX {d : Cl} (hd : GX d) (h : ∀ l ∈ d, Tn l) : ∀ l ∈ reN d, Tn l := by
  intro l hl
  obtain ⟨x, hx, rfl⟩ := List.mem_map.1 hl
  obtain ⟨h1, h2⟩ := h x hx
  have g := hd.2 x hx
  have g' := g.num (gx_vars hd.2)
  have o1 : ∀ n, occT n x.2.1 → n ∈ varsC d [] := fun n hn => varsC_mem.2 (.inr ⟨x, hx, .inl hn⟩)
  have o2 : ∀ n, occT n x.2.2 → n ∈ varsC d [] := fun n hn => varsC_mem.2 (.inr ⟨x, hx, .inr hn⟩)
  refine ⟨fun e => h1 ?_, ?_⟩
  · have := congrArg (subT (bck (varsC d []))) e
    simp only [mapL] at this
    rw [num_back g.gl.ok o1, num_back g.gr.ok o2] at this
    exact this
  · cases ha : abvT (mapL (subT (bnd (numS (varsC d [])))) x).2.2 (mapL (subT (bnd (numS (varsC d [])))) x).2.1 with
    | false => rfl
    | true =>
      have := abv_sub (f := bck (varsC d [])) (fun n => ok_vr _) _ rfl g'.gr g'.gl ha
      simp only [mapL] at this
      rw [num_back g.gl.ok o1, num_back g.gr.ok o2, h2] at this
      cases this
/-- Kept, it is small, and as it is. -/
theorem norm_againX {c : Cl} (hc : GX c) (h : (normC c).1 = 0) : GC (normC c).2 ∧ normC (normC c).2 = (0, (normC c).2) := by
  rcases norm_casesX hc with ⟨_, hn⟩ | ⟨d, ht, hd, hr, ⟨_, hn⟩ | ⟨e, he, hE, hn⟩⟩
  · rw [hn] at h; simp at h
  · rw [hn] at h; simp at h
  · rw [hn] at h ⊢
    unfold keepC at h ⊢
    by_cases hk : 4 < e.length ∨ 5 < (varsC d []).length ∨ e.any bigL = true
    · rw [if_pos hk] at h; simp at h
    · rw [if_neg hk]
      have hok : ∀ l ∈ reN d, okL l := fun l hl => (hr.2 l hl).okl
      have hve : varsC e [] = (List.range (varsC d []).length).map (fun i : Nat => (i : Int)) := (dist_vars hok he).trans ren_vars
      have hsm : ∀ l ∈ e, tszR l.2.1.2 ≤ 12 ∧ tszR l.2.2.2 ≤ 12 := fun l hl => by
        have hb : bigL l = false := by
          cases hb : bigL l
          · rfl
          · exact absurd (.inr (.inr (List.any_eq_true.2 ⟨l, hl, hb⟩))) hk
        simp only [bigL, Bool.or_eq_false_iff, decide_eq_false_iff_not] at hb
        omega
      have hfew : ∀ l ∈ e, ∀ n, occL n l → n ≤ 4 := fun l hl n hn => by
        have hm : n ∈ varsC e [] := varsC_mem.2 (.inr ⟨l, hl, hn⟩)
        rw [hve] at hm
        obtain ⟨i, hi, rfl⟩ := List.mem_map.1 hm
        have := List.mem_range.1 hi
        have : ¬ 5 < (varsC d []).length := fun h => hk (.inr (.inl h))
        omega
      have hG : GC e := ⟨by have : ¬ 4 < e.length := fun h => hk (.inl h); omega, fun l hl => ⟨(hE.2 l hl).gl, (hE.2 l hl).gr, fun m hm => hfew l hl m (.inl hm), fun m hm => hfew l hl m (.inr hm), (hsm l hl).1, (hsm l hl).2⟩⟩
      refine ⟨hG, ?_⟩
      have t1 : ∀ l ∈ d, Tn l := turn_tn (o := some []) ht (fun l hl => (hc.2 l hl).okl) (fun e he => by cases he; simp)
      have t2 := ren_tnX hd t1
      obtain ⟨k1, _, k3⟩ := dist_kept hok he
      have f1 : turnC e = some e := by
        have := turn_fix (c := e) (out := []) (fun l hl => ⟨(hE.2 l hl).okl, t2 l (k1 l hl)⟩)
        simpa [turnC] using this
      have f2 : reN e = e := ren_fix (m := (varsC d []).length) hve (fun l hl => (hE.2 l hl).okl)
      have f3 : distC e = some e := by
        have := dist_fix (c := e) (out := []) (by simpa using k3)
        simpa [distC] using this
      show normC e = (0, e)
      simp only [normC, f1, f2, f3]
      exact gc_keep hG hG
theorem walkF_of {s : List Int} : ∀ {F : Fo} {d : Int}, symF s F → Fo.ok F → (∀ n, occF n F → 0 ≤ n ∧ n ≤ 4) → (depF F : Int) + d ≤ 13 → walkF s F d = 0
  | .nil, _, _, _, _, _ => rfl
  | .node p q (b, n) k r, d, h, ho, hv, hd => by
    obtain ⟨_, _, h3, h4⟩ := ok_node.1 ho
    have hdk : depF (.node p q (b, n) k r) = max (1 + depF k) (depF r) := rfl
    have hr := walkF_of (d := d) h.2 h4 (fun m hm => hv m (by rw [occF]; exact .inr hm)) (by rw [hdk] at hd; omega)
    have hT : walkT s (b, n) k d = 0 := by
      refine walkT_mk (by rw [hdk] at hd; omega) ?_ ?_
      · cases b with
        | true =>
          have hk : k = .nil := h3.1 rfl
          subst hk
          have := hv n (by rw [occF]; exact .inl (by simp))
          unfold aloneF
          simp [Fo.len]
          omega
        | false => exact h.1.1 rfl
      · cases b with
        | true =>
          have hk : k = .nil := h3.1 rfl
          subst hk
          rfl
        | false => exact walkF_of h.1.2 h3.2 (fun m hm => hv m (by rw [occF]; exact .inl (by simpa using hm))) (by rw [hdk] at hd; omega)
    simp only [walkF]
    have h5 : (if 12 < d then 4 else if aloneF s (b, n) (Fo.len k) ≠ 0 then aloneF s (b, n) (Fo.len k) else walkF s k (d + 1)) = 0 := hT
    rw [h5, hr]
    simp
theorem wrongF_of {s : List Int} {t : Tm} (h : symT s t) (hg : Gd t) (hv : ∀ n, occT n t → n ≤ 4) (hz : tszR t.2 ≤ 12) : wrongF s t.1 t.2 = 0 := by
  have hF : walkF s (.node 0 0 t.1 t.2 .nil) 1 = 0 := by
    refine walkF_of ⟨h, trivial⟩ (by rw [ok_node]; exact ⟨rfl, rfl, hg.ok, trivial⟩) (fun n hn => ?_) ?_
    · have hn' : occT n t := by
        rw [occ_mem] at hn
        obtain ⟨u, hu, h2⟩ := hn
        simp only [Fo.list, List.mem_singleton] at hu
        rw [hu] at h2
        exact h2
      exact ⟨(hg.few n hn').1, hv n hn'⟩
    · have h1 := depF_le t.2
      simp only [tszR] at hz
      have : depF (.node 0 0 t.1 t.2 .nil) = max (1 + depF t.2) 0 := rfl
      rw [this]
      omega
  have hT : walkT s t.1 t.2 1 = 0 := (walkF_ok hF).1
  unfold wrongF
  rw [if_neg (by simpa using hT)]
  rw [if_neg]
  unfold wrap64
  omega
/-- Kept, it is right. -/
theorem norm_rightX {s : List Int} {c : Cl} (hc : GX c) (hs : ∀ l ∈ c, symT s l.2.1 ∧ symT s l.2.2) (h : (normC c).1 = 0) : wrongC s (normC c).2 = 0 := by
  have hG := (norm_againX hc h).1
  rcases norm_casesX hc with ⟨_, hn⟩ | ⟨d, ht, hd, hr, ⟨_, hn⟩ | ⟨e, he, hE, hn⟩⟩
  · rw [hn] at h; simp at h
  · rw [hn] at h; simp at h
  · rw [hn] at h hG ⊢
    unfold keepC at h hG ⊢
    by_cases hk : 4 < e.length ∨ 5 < (varsC d []).length ∨ e.any bigL = true
    · rw [if_pos hk] at h; simp at h
    · rw [if_neg hk] at hG ⊢
      rw [wrongC_iff]
      refine ⟨hG.1, fun l hl => ?_⟩
      have hmem : l ∈ reN d := (dist_kept (fun l hl => (hr.2 l hl).okl) he).1 l hl
      obtain ⟨x, hx, rfl⟩ := List.mem_map.1 hmem
      have hx0 : symT s x.2.1 ∧ symT s x.2.2 := turn_mem (p := fun l => symT s l.2.1 ∧ symT s l.2.2) (o := some []) ht (fun e he => by cases he; simp) (fun l hl => by
        unfold flipL
        split
        · exact (hs l hl).symm
        · exact hs l hl) x hx
      have hb : ∀ p ∈ numS (varsC d []), symT s p.2 := fun p hp => by
        unfold numS at hp
        obtain ⟨q, _, rfl⟩ := List.mem_mapIdx.1 hp
        exact sym_vr _
      have g := hG.2 _ hl
      exact ⟨wrongF_of (sym_sub (sym_bnd hb) hx0.1) g.gl g.fl g.sl, wrongF_of (sym_sub (sym_bnd hb) hx0.2) g.gr g.fr g.sr⟩

/-- As it must be kept. -/
structure KeptR (s : List Int) (d : Cl) : Prop where
  gc : GC d
  nm : normC d = (0, d)
  rt : wrongC s d = 0
def StOK (s : List Int) (Q : Cl → Prop) (st : List Cl × Bool) : Prop := (∀ d ∈ st.1, KeptR s d ∧ Q d) ∧ st.1.Pairwise (fun a b => sameC a b = false)
theorem st_none (s : List Int) (Q : Cl → Prop) : StOK s Q ([], false) := ⟨fun d hd => by simp at hd, List.Pairwise.nil⟩
theorem addP_ok {s : List Int} {Q : Cl → Prop} {st : List Cl × Bool} (h : StOK s Q st) {c : Cl} (hg : GX c) (hs : ∀ l ∈ c, symT s l.2.1 ∧ symT s l.2.2) (hq : (normC c).1 = 0 → Q (normC c).2) : StOK s Q (addP st (normC c)) := by
  unfold addP
  split
  · exact h
  · split
    · exact h
    · rename_i h4 h0
      have h0' : (normC c).1 = 0 := by simpa using h0
      split
      · exact h
      · rename_i hany
        have ha := norm_againX hg h0'
        refine ⟨fun d hd => ?_, ?_⟩
        · rcases List.mem_append.1 hd with hd | hd
          · exact h.1 d hd
          · rw [List.mem_singleton.1 hd]
            exact ⟨⟨ha.1, ha.2, norm_rightX hg hs h0'⟩, hq h0'⟩
        · rw [List.pairwise_append]
          refine ⟨h.2, List.pairwise_singleton _ _, fun a hx b hb => ?_⟩
          rw [List.mem_singleton.1 hb]
          cases e : sameC a (normC c).2
          · rfl
          · exact absurd (List.any_eq_true.2 ⟨a, hx, e⟩) hany
theorem foldN_ok {S : Type} {I : S → Prop} {f : S → Nat → S} (h : ∀ st j, I st → I (f st j)) {st : S} (h0 : I st) : ∀ j, I (foldN f st j)
  | 0 => h0
  | j + 1 => by rw [foldN_succ]; exact h _ _ (foldN_ok h h0 j)
theorem fold_ok {S A : Type} {I : S → Prop} {f : S → A → S} (h : ∀ st p, I st → I (f st p)) : ∀ (Z : List A) {st : S}, I st → I (Z.foldl f st)
  | [], _, h0 => h0
  | p :: Z, _, h0 => fold_ok h Z (h _ p h0)
theorem map_sym {s : List Int} {b : Sb} (hb : ∀ p ∈ b, symT s p.2) {d : Cl} (hd : ∀ l ∈ d, symT s l.2.1 ∧ symT s l.2.2) : ∀ l ∈ d.map (mapL (subT (bnd b))), symT s l.2.1 ∧ symT s l.2.2 := fun l hl => by
  obtain ⟨q, hq, rfl⟩ := List.mem_map.1 hl
  exact ⟨sym_sub (sym_bnd hb) (hd q hq).1, sym_sub (sym_bnd hb) (hd q hq).2⟩
/-- What is added by what makes two terms the same. -/
theorem addU_ok {U : Tm → Tm → Option Sb} (hU : UOK U) {s : List Int} {Q : Cl → Prop} {st : List Cl × Bool} (h : StOK s Q st) {a b : Tm} (ha : G12 a) (hb : G12 b) (sa : symT s a) (sb : symT s b) {d : Cl} (hl : d.length ≤ 8) (hd : ∀ l ∈ d, G24 l) (hs : ∀ l ∈ d, symT s l.2.1 ∧ symT s l.2.2)
    (hq : ∀ r : Sb, U a b = some r → (∀ p ∈ r, symT s p.2) → subT (bnd r) a = subT (bnd r) b → (normC (d.map (mapL (subT (bnd r))))).1 = 0 → Q (normC (d.map (mapL (subT (bnd r))))).2) : StOK s Q (addU st (U a b) d) := by
  obtain ⟨n, hn⟩ := hU a b (ha.ui hb)
  cases hR : U a b with
  | none => exact h
  | some r =>
    rw [hR] at hn
    have hr := sym_mgu sa sb hn
    exact addP_ok h (gx_bind ha hb hn hl hd) (map_sym hr hs) (hq r hR hr (unify_ok (ha.ui hb) hn).2)
/-- It holds where c does. -/
def QH (s : List Int) (c d : Cl) : Prop := ∀ (z : Int) (tb : List (List Int)), MR s z tb → holdsP z tb c → holdsP z tb d
theorem res_ok {U : Tm → Tm → Option Sb} (hU : UOK U) {s : List Int} (hs : s.all okNum = true) {c : Cl} (hc : ∀ l ∈ c, G12L l) (h4 : c.length ≤ 4) (hsy : ∀ l ∈ c, symT s l.2.1 ∧ symT s l.2.2) (j : Nat) : StOK s (QH s c) (resTo U c j) := by
  refine foldN_ok (fun st i h => ?_) (st_none _ _) j
  unfold resS
  split
  · rename_i x hx
    have hm := List.mem_of_getElem? hx
    split
    · rename_i hneg
      refine addU_ok hU h (hc x hm).1 (hc x hm).2 (hsy x hm).1 (hsy x hm).2 (Nat.le_trans but_len (by omega)) (fun l hl => (hc l (but_mem hl)).x) (fun l hl => hsy l (but_mem hl)) (fun r hr1 hr2 hr3 hz z tb hM hH => ?_)
      obtain ⟨n, hn⟩ := hU _ _ ((hc x hm).1.ui (hc x hm).2)
      rw [hr1] at hn
      have hgx := gx_bind (hc x hm).1 (hc x hm).2 hn (d := butC c i) (Nat.le_trans but_len (by omega)) (fun l hl => (hc l (but_mem hl)).x)
      exact ((norm_holdsX hgx).2 hz).1 (res_holds hM hs hr2 hH hx hneg hr3)
    · exact h
  · exact h

theorem fac_ok {U : Tm → Tm → Option Sb} (hU : UOK U) {s : List Int} (hs : s.all okNum = true) {c : Cl} (hc : ∀ l ∈ c, G12L l) (h4 : c.length ≤ 4) (hsy : ∀ l ∈ c, symT s l.2.1 ∧ symT s l.2.2) (m : Nat) : StOK s (QH s c) (facTo U c m) := by
  refine foldN_ok (fun st i h => ?_) (st_none _ _) m
  refine foldN_ok (fun st j h => ?_) h _
  unfold facJ
  split
  · rename_i x y hx hy
    split
    · exact h
    · rename_i hcond
      have hmx := List.mem_of_getElem? hx
      have hmy := List.mem_of_getElem? hy
      have hij : j ≠ i := fun e => hcond (.inl (by omega))
      have hxn : x.1 = false := by cases e : x.1; rfl; exact absurd (.inr (.inl e)) hcond
      have hyn : y.1 = false := by cases e : y.1; rfl; exact absurd (.inr (.inr e)) hcond
      refine foldN_ok (fun st k h => ?_) h _
      have gx := turn_both (yes := decide (2 ≤ k)) (hc x hmx)
      have gy := turn_both (yes := decide (k % 2 = 1)) (hc y hmy)
      have sx := turn_both (yes := decide (2 ≤ k)) (P := symT s) (hsy x hmx)
      have sy := turn_both (yes := decide (k % 2 = 1)) (P := symT s) (hsy y hmy)
      have hl8 : (butC c i ++ [(true, (turnL (decide (2 ≤ k)) x).2.2, (turnL (decide (k % 2 = 1)) y).2.2)]).length ≤ 8 := by
        rw [List.length_append]
        have := but_len (c := c) (i := i)
        simp only [List.length_cons, List.length_nil]
        omega
      have hd : ∀ l ∈ butC c i ++ [(true, (turnL (decide (2 ≤ k)) x).2.2, (turnL (decide (k % 2 = 1)) y).2.2)], G24 l := fun l hl => by
        rcases List.mem_append.1 hl with hl | hl
        · exact (hc l (but_mem hl)).x
        · rw [List.mem_singleton.1 hl]; exact G12L.x ⟨gx.2, gy.2⟩
      refine addU_ok hU h gx.1 gy.1 sx.1 sy.1 hl8 hd (fun l hl => ?_) (fun r hr1 hr2 hr3 hz z tb hM hH => ?_)
      · rcases List.mem_append.1 hl with hl | hl
        · exact hsy l (but_mem hl)
        · rw [List.mem_singleton.1 hl]; exact ⟨sx.2, sy.2⟩
      · obtain ⟨n, hn⟩ := hU _ _ (gx.1.ui gy.1)
        rw [hr1] at hn
        exact ((norm_holdsX (gx_bind gx.1 gy.1 hn hl8 hd)).2 hz).1 (fac_holds hM hs hr2 hH hx hy hij hxn hyn hr3)
  · exact h
/-- It holds where c and d do. -/
def QH2 (s : List Int) (c d e : Cl) : Prop := ∀ (z : Int) (tb : List (List Int)), MR s z tb → holdsP z tb c → holdsP z tb d → holdsP z tb e
theorem sym_at {s : List Int} : ∀ {p : List Int} {x : Bool × Int} {k : Fo} {t : Tm}, symT s (x, k) → atT p x k = some t → symT s t
  | [], _, _, _, h, ht => by cases ht; exact h
  | n :: p, x, k, t, h, ht => by
    rw [atT] at ht
    by_cases hn : x.1 = true ∨ n < 0 ∨ (Fo.len k : Int) ≤ n
    · rw [if_pos hn] at ht; cases ht
    · rw [if_neg hn] at ht
      cases hy : k.list[n.toNat]? with
      | none => rw [hy] at ht; cases ht
      | some y =>
        rw [hy] at ht
        exact sym_at (x := y.1) (k := y.2) (sym_mem h.2 y (List.mem_of_getElem? hy)) ht
theorem sym_setF {s : List Int} {f : Tm → Tm} : ∀ {F : Fo} {i : Nat}, symF s F → (∀ y, symT s y → symT s (f y)) → symF s (setF F i f)
  | .nil, _, _, _ => trivial
  | .node _ _ x k _, 0, h, hf => ⟨hf (x, k) h.1, h.2⟩
  | .node _ _ _ _ _, _ + 1, h, hf => ⟨h.1, sym_setF h.2 hf⟩
theorem sym_put {s : List Int} {u : Tm} (hu : symT s u) : ∀ {p : List Int} {x : Bool × Int} {k : Fo}, symT s (x, k) → symT s (putT p (x, k) u)
  | [], _, _, _ => hu
  | n :: p, x, k, h => by
    rw [putT]
    split
    · exact h
    · refine ⟨fun e => ?_, sym_setF h.2 (fun y hy => sym_put hu (x := y.1) (k := y.2) hy)⟩
      dsimp only
      rw [setF_len]
      exact h.1 e
theorem sup_ok {U : Tm → Tm → Option Sb} (hU : UOK U) {s : List Int} (hs : s.all okNum = true) {c dd : Cl} (hc : ∀ l ∈ c, G12L l) (h4 : c.length ≤ 4) (hsy : ∀ l ∈ c, symT s l.2.1 ∧ symT s l.2.2) (hdc : ∀ l ∈ dd, G12L l) (hd4 : dd.length ≤ 4) (hdy : ∀ l ∈ dd, symT s l.2.1 ∧ symT s l.2.2) (m : Nat) :
    StOK s (QH2 s c dd) (supTo U c dd m) := by
  refine foldN_ok (fun st i h => ?_) (st_none _ _) m
  unfold supI
  split
  · rename_i x hx
    have hmx := List.mem_of_getElem? hx
    refine foldN_ok (fun st k h => ?_) h _
    unfold supK
    split
    · exact h
    · rename_i hcond
      have hxn : x.1 = false := by
        cases e : x.1
        · rfl
        · exact absurd (.inl (by rw [turn_neg]; exact e)) hcond
      have gx := turn_both (yes := decide (k = 1)) (hc x hmx)
      have sx := turn_both (yes := decide (k = 1)) (P := symT s) (hsy x hmx)
      refine foldN_ok (fun st j h => ?_) h _
      unfold supJ
      split
      · rename_i y hy
        have hmy := List.mem_of_getElem? hy
        refine foldN_ok (fun st sd h => ?_) h _
        have gy := turn_both (yes := decide (sd = 1)) (hdc y hmy)
        have sy := turn_both (yes := decide (sd = 1)) (P := symT s) (hdy y hmy)
        unfold supD
        refine fold_ok (fun st p h => ?_) _ h
        unfold supP
        split
        · rename_i t ht
          have gt := gy.1.at ht
          have hst := sym_at sy.1 ht
          split
          · rename_i r hr
            split
            · exact h
            · have hgp := gd_put gx.2.gd gy.1.gd ht
              have hnew : G24 (turnL (decide (sd = 1)) ((turnL (decide (sd = 1)) y).1, putT p (turnL (decide (sd = 1)) y).2.1 (turnL (decide (k = 1)) x).2.2, (turnL (decide (sd = 1)) y).2.2)) :=
                turn_both (P := fun t => Gd t ∧ szT t ≤ 24) ⟨⟨hgp.1, Nat.le_trans hgp.2 (Nat.add_le_add gy.1.sz gx.2.sz)⟩, ⟨gy.2.gd, Nat.le_trans gy.2.sz (by decide)⟩⟩
              have snew : symT s (turnL (decide (sd = 1)) ((turnL (decide (sd = 1)) y).1, putT p (turnL (decide (sd = 1)) y).2.1 (turnL (decide (k = 1)) x).2.2, (turnL (decide (sd = 1)) y).2.2)).2.1 ∧ symT s (turnL (decide (sd = 1)) ((turnL (decide (sd = 1)) y).1, putT p (turnL (decide (sd = 1)) y).2.1 (turnL (decide (k = 1)) x).2.2, (turnL (decide (sd = 1)) y).2.2)).2.2 :=
                turn_both (P := symT s) ⟨sym_put sx.2 sy.1, sy.2⟩
              generalize hnl : turnL (decide (sd = 1)) ((turnL (decide (sd = 1)) y).1, putT p (turnL (decide (sd = 1)) y).2.1 (turnL (decide (k = 1)) x).2.2, (turnL (decide (sd = 1)) y).2.2) = nl at hnew snew ⊢
              have hl8 : (butC c i ++ dd.set j nl).length ≤ 8 := by
                rw [List.length_append, List.length_set]
                have := but_len (c := c) (i := i)
                omega
              have hd : ∀ l ∈ butC c i ++ dd.set j nl, G24 l := fun l hl => by
                rcases List.mem_append.1 hl with hl | hl
                · exact (hc l (but_mem hl)).x
                · rcases List.mem_or_eq_of_mem_set hl with hl | hl
                  · exact (hdc l hl).x
                  · rw [hl]; exact hnew
              rw [← hr]
              refine addU_ok hU h gx.1 gt sx.1 hst hl8 hd (fun l hl => ?_) (fun r hr1 hr2 hr3 hz z tb hM hH hH2 => ?_)
              · rcases List.mem_append.1 hl with hl | hl
                · exact hsy l (but_mem hl)
                · rcases List.mem_or_eq_of_mem_set hl with hl | hl
                  · exact hdy l hl
                  · rw [hl]; exact snew
              · obtain ⟨n, hn⟩ := hU _ _ (gx.1.ui gt)
                rw [hr1] at hn
                refine ((norm_holdsX (gx_bind gx.1 gt hn hl8 hd)).2 hz).1 ?_
                rw [← hnl]
                exact sup_holds hM hs hr2 hH hH2 hx hy hxn ht hr3
          · exact h
        · exact h
      · exact h
  · exact h

end Go.Proofs.YtaliegkkdhkfcacGreatDoor

namespace Go.Proofs.YtaliegkkdhkfcacGreatDoor
open Go.RowKit Go.Deep Go.ChangeShapes Go.WideShapes
attribute [local go_sem ↓] Go.wp_at_zero Go.wp_at_succ

/-- The tables Z lie in w, as the value v says. -/
def TbIn (w : World) (Z : List (List Int)) (v : Value) : Prop :=
  ∃ (a : Option Addr) (c b o : Nat), v = .slice a Z.length c ∧ (0 < Z.length → a = some ⟨b, o, none⟩) ∧ Z.length ≤ c ∧ c ≤ maxLen ∧ ∀ i, i < Z.length → ∃ pv, w.cell? ⟨b, o + i, none⟩ = some pv ∧ NIn w (Z.getD i []) pv
theorem TbIn.below {w w' : World} (hb : Below w.heap.size w w') {Z : List (List Int)} {v : Value} (h : TbIn w Z v) : TbIn w' Z v := by
  obtain ⟨a, c, b, o, h1, h2, h3, h4, h5⟩ := h
  refine ⟨a, c, b, o, h1, h2, h3, h4, fun i hi => ?_⟩
  obtain ⟨pv, k1, k2⟩ := h5 i hi
  exact ⟨pv, grow_cell hb _ _ k1, k2.below hb⟩
theorem tb_slice {w : World} {Z : List (List Int)} {v : Value} (h : TbIn w Z v) : ∃ z1 z3, v = .slice z1 Z.length z3 := by
  obtain ⟨a, k, _, _, rfl, _⟩ := h
  exact ⟨a, k, rfl⟩

/-- The first j arguments' number. -/
def vTo (z : Int) (tb : List (List Int)) (e : Int → Int) (k : Fo) (j : Nat) : Int := (k.list.take j).foldl (fun a t => z * a + valT z tb e t) 0
theorem valF_list (z : Int) (tb : List (List Int)) (e : Int → Int) : ∀ (F : Fo) (a : Int), valF z tb e F a = F.list.foldl (fun a t => z * a + valT z tb e t) a
  | .nil, _ => rfl
  | .node _ _ x k r, a => by rw [valF_node, valF_list z tb e r]; rfl
theorem vTo_succ {z : Int} {tb : List (List Int)} {e : Int → Int} {k : Fo} {j : Nat} {t : Tm} (h : k.list[j]? = some t) : vTo z tb e k (j + 1) = z * vTo z tb e k j + valT z tb e t := by
  unfold vTo; rw [List.take_add_one, h]; simp [List.foldl_append]
theorem vTo_end (z : Int) (tb : List (List Int)) (e : Int → Int) (k : Fo) : vTo z tb e k (Fo.len k) = valF z tb e k 0 := by
  unfold vTo; rw [← Fo.len_list, List.take_length, valF_list]
theorem vTo_range {z : Int} {tb : List (List Int)} {e : Int → Int} {k : Fo} (hz : 1 ≤ z) (h : ∀ t ∈ k.list, 0 ≤ valT z tb e t ∧ valT z tb e t < z) : ∀ j, j ≤ Fo.len k → 0 ≤ vTo z tb e k j ∧ vTo z tb e k j < pw z j
  | 0, _ => by simp [vTo, pw]
  | j + 1, hj => by
    have ih := vTo_range hz h j (by omega)
    have hl : j < k.list.length := by rw [Fo.len_list]; omega
    have hy : k.list[j]? = some k.list[j] := List.getElem?_eq_getElem hl
    have hv := h _ (List.getElem_mem hl)
    rw [vTo_succ hy, pw]
    exact digit_next hz ih.1 ih.2 hv.1 hv.2
theorem pw_small {z : Int} (h1 : 1 ≤ z) (h8 : z ≤ 8) {j : Nat} (hj : j ≤ 2) : pw z j ≤ 64 := by
  rcases (by omega : j = 0 ∨ j = 1 ∨ j = 2) with rfl | rfl | rfl
  · simp [pw]
  · simp [pw]; omega
  · have := Int.mul_le_mul h8 h8 (by omega) (by omega)
    simp [pw]; omega
theorem env_ok {z : Int} {L : List Int} (hz : 1 ≤ z) (hr : ∀ x ∈ L, 0 ≤ x ∧ x < z) (v : Int) : 0 ≤ envOf L v ∧ envOf L v < z := by
  unfold envOf
  rw [List.getD_eq_getElem?_getD]
  cases h : L[v.toNat]? with
  | none => simp; omega
  | some x => simpa using hr x (List.mem_of_getElem? h)

def ValRSaid (s : List Int) (z : Int) (tb : List (List Int)) (L : List Int) (x : Bool × Int) (k : Fo) : Prop := ∀ (mv ev a : Value) (w : World), TbIn w tb mv → NIn w L ev → SIn w k a → sigT s (x, k) →
    Calls Tryz.prog 40 #[.agg #[.int .i64 z, mv], ev, .agg #[.bool x.1, .int .i64 x.2, a]] w fun e w' => e = .returned (.int .i64 (valT z tb (envOf L) (x, k))) ∧ Below w.heap.size w w'

set_option maxRecDepth 100000 in
set_option maxHeartbeats 2000000 in
theorem valueR_any {s L : List Int} {z : Int} {tb : List (List Int)} (hm : MR s z tb) (hs : s.all okNum = true) (hL : L.length = 5) (hr : ∀ x ∈ L, 0 ≤ x ∧ x < z) (x : Bool × Int) (k : Fo) : ValRSaid s z tb L x k := by
  refine Fo.ind1 (p := ValRSaid s z tb L) ?_ x k
  clear x k
  intro x k ih mv ev a w hT hE hS hw
  obtain ⟨xv, n⟩ := x
  have HI := hide ih
  have Hm := hide hm
  have Hs := hide hs
  have z1 := hm.z1
  have z8 := hm.z8
  have Hev : Hid (∀ v, 0 ≤ v → v ≤ 4 → 0 ≤ envOf L v ∧ envOf L v < z) := fun v _ _ => env_ok hm.z1 hr v
  have HT := hide hT
  have HE := hide hE
  have Hl := hide (Fo.len_list k)
  obtain ⟨ta, tc, tk, tq, rfl, -, -, -, -⟩ := hT
  obtain ⟨ea, ec, eb, eo, rfl, head, helc, hecm, hEF⟩ := hE
  obtain ⟨ad, c, b, o, rfl, had, hlc, hcm, hF⟩ := hS
  unfold maxLen at hcm hecm
  have hal : aloneF s (xv, n) (Fo.len k) = 0 := hw.1
  have hwk : sigF s k := hw.2
  have Hal := hide hal
  have Hwk := hide hwk
  have Hw := hide hw
  have HF := hide hF
  have HEF := hide hEF
  have HL := hide hL
  have Hhead := hide head
  clear ih hm hs hr hal hwk hw hF hEF hL head
  go_enter Tryz.func40, Tryz.ntmps40
  go_upto_region 1 with fail
  generalize hW1 : (w.alloc (.cells #[.int .i64 z, .slice ta tb.length tc] 28)).alloc (.cells #[.bool xv, .int .i64 n, .slice ad (Fo.len k) c] 55) = W1
  have hB1 : Below w.heap.size w W1 := by rw [← hW1]; exact (below_alloc _ _).alloc (by simp) _
  have m0 : W1.cell? ⟨w.heap.size, 0, none⟩ = some (.int .i64 z) := by rw [← hW1, World.cell?_alloc_lt _ _ _ (by simp)]; exact new_cell rfl
  have m1 : W1.cell? ⟨w.heap.size, 1, none⟩ = some (.slice ta tb.length tc) := by rw [← hW1, World.cell?_alloc_lt _ _ _ (by simp)]; exact new_cell rfl
  have q0 : W1.cell? ⟨w.heap.size + 1, 0, none⟩ = some (.bool xv) := by rw [← hW1]; exact new_cell (World.size_alloc _ _)
  have q1 : W1.cell? ⟨w.heap.size + 1, 1, none⟩ = some (.int .i64 n) := by rw [← hW1]; exact new_cell (World.size_alloc _ _)
  have q2 : W1.cell? ⟨w.heap.size + 1, 2, none⟩ = some (.slice ad (Fo.len k) c) := by rw [← hW1]; exact new_cell (World.size_alloc _ _)
  clear hW1
  cases xv
  · obtain ⟨n0, n1, v0, v1, l2⟩ := val_args Hm.out Hs.out Hev.out Hw.out
    have Hv0 := hide v0
    have Hv1 := hide v1
    have Hvs : Hid (∀ t ∈ k.list, 0 ≤ valT z tb (envOf L) t ∧ valT z tb (envOf L) t < z) := fun t ht => val_rangeT Hm.out Hs.out Hev.out (sig_mem Hwk.out t ht)
    have Hvt : Hid (∀ j, j ≤ Fo.len k → 0 ≤ vTo z tb (envOf L) k j ∧ vTo z tb (envOf L) k j ≤ 64) := fun j hj => by
      have h1 := vTo_range z1 Hvs.out j hj
      have h2 := pw_small z1 z8 (j := j) (by omega)
      exact ⟨h1.1, by omega⟩
    clear v0 v1
    go_wp2_with fail
    go_loopw [7, 20] (fun s i wr => ∃ j : Nat, j ≤ Fo.len k ∧ i = .int .i64 j ∧ s = .int .i64 (vTo z tb (envOf L) k j) ∧ Below W1.heap.size W1 wr) (fun _ i _ => Fo.len k - (intOf i).toNat)
    case atStart => exact ⟨0, Nat.zero_le _, rfl, rfl, Below.refl _ _⟩
    case round =>
      obtain ⟨j, hj, rfl, rfl, hBx⟩ := hrel
      have hBr := below_step hB1 hBx
      have m0' := grow_cell hBx _ _ m0
      have m1' := grow_cell hBx _ _ m1
      have q1' := grow_cell hBx _ _ q1
      by_cases hlt : j < Fo.len k
      · have hlt' : (j : Int) < (Fo.len k : Int) := by omega
        obtain ⟨⟨⟨yv, yn⟩, yk⟩, hy⟩ : ∃ y, k.list[j]? = some y := ⟨k.list[j]'(by rw [Hl.out]; exact hlt), by simp⟩
        obtain ⟨c0, c1, yv', c2, hSy⟩ := (HF.out.below hBr).at hy
        have ha : ad = some ⟨b, o, none⟩ := had (by omega)
        subst ha
        have HS := hide hSy
        obtain ⟨ya, yc, yb, yo, rfl, -, -, -, -⟩ := hSy
        have hmem := List.mem_of_getElem? hy
        have hvy := Hvs.out _ hmem
        have hvj := Hvt.out j hj
        have Hst := hide (vTo_succ (z := z) (tb := tb) (e := envOf L) hy)
        have Hc := hide (fun (w' : World) (hb : Below wr.heap.size wr w') => HI.out ((yv, yn), yk) hmem (.slice ta tb.length tc) (.slice ea L.length ec) (.slice ya (Fo.len yk) yc) w' (HT.out.below (below_step hBr hb)) (HE.out.below (below_step hBr hb)) (HS.out.below hb) (sig_mem Hwk.out _ hmem))
        simp only at Hc
        generalize valT z tb (envOf L) ((yv, yn), yk) = V at hvy Hst Hc
        generalize vTo z tb (envOf L) k j = Aj at hvj Hst
        have hp0 : 0 ≤ z * Aj := Int.mul_nonneg (by omega) hvj.1
        have hp1 : z * Aj ≤ 8 * 64 := Int.mul_le_mul z8 hvj.2 hvj.1 (by omega)
        obtain ⟨hv1, hv2⟩ := hvy
        obtain ⟨hv3, hv4⟩ := hvj
        have Hwr : Hid (IntKind.i64.wrap (IntKind.i64.wrap (z * Aj) + V) = z * Aj + V) := by
          have e1 : IntKind.i64.wrap (z * Aj) = z * Aj := by rw [IntKind.wrap_i64]; omega
          rw [Hid, e1, IntKind.wrap_i64]
          omega
        clear hy had hmem
        go_upto_region 7 with fail
        generalize hwa : wr.alloc (.cells #[.bool yv, .int .i64 yn, .slice ya (Fo.len yk) yc] 55) = wa
        have hba : Below wr.heap.size wr wa := by rw [← hwa]; exact below_alloc _ _
        have g0 : wa.cell? ⟨wr.heap.size, 0, none⟩ = some (.bool yv) := by rw [← hwa]; exact new_cell rfl
        have g1 : wa.cell? ⟨wr.heap.size, 1, none⟩ = some (.int .i64 yn) := by rw [← hwa]; exact new_cell rfl
        have g2 : wa.cell? ⟨wr.heap.size, 2, none⟩ = some (.slice ya (Fo.len yk) yc) := by rw [← hwa]; exact new_cell rfl
        have m0'' := grow_cell hba _ _ m0'
        have m1'' := grow_cell hba _ _ m1'
        have hcur : Below wa.heap.size wa wa.drew := (Below.refl _ _).drew
        clear hwa c0 c1 c2 m0 m1 m0' m1' q1 q2 q1'
        go_region_held3 (fun w' => w'.cell? ⟨wr.heap.size, 0, none⟩ = some (.bool yv) ∧ w'.cell? ⟨wr.heap.size, 1, none⟩ = some (.int .i64 yn) ∧ w'.cell? ⟨wr.heap.size, 2, none⟩ = some (.slice ya (Fo.len yk) yc) ∧ w'.cell? ⟨w.heap.size, 0, none⟩ = some (.int .i64 z) ∧ w'.cell? ⟨w.heap.size, 1, none⟩ = some (.slice ta tb.length tc))
          (first
            | (with_reducible exact ⟨grow_cell hcur _ _ g0, grow_cell hcur _ _ g1, grow_cell hcur _ _ g2, grow_cell hcur _ _ m0'', grow_cell hcur _ _ m1''⟩)
            | go_keep)
          (first
            | (go_at_call 40; with_reducible refine (Hc.out _ (below_step hba hcur)).mono ?_; rintro e wS ⟨rfl, hbS⟩; replace hcur := below_step hcur hbS))
        all_goals
          have Hend := hide (below_step hBx (below_step hba hcur))
          clear hcur hbS
          go_wp2_with fail
          go_roundw
          case rel => exact ⟨j + 1, by omega, by go_num, by rw [Hst.out, Hwr.out], Hend.out⟩
          case measure => simp [intOf]; omega
      · have hje : j = Fo.len k := by omega
        subst hje
        have Hval : Hid (valT z tb (envOf L) ((false, n), k) = (tb.getD n.toNat []).getD (valF z tb (envOf L) k 0).toNat 0) := rfl
        have Hve := hide (vTo_end z tb (envOf L) k)
        rw [Hve.out]
        obtain ⟨m, rfl⟩ : ∃ m : Nat, n = m := ⟨n.toNat, by omega⟩
        have hml : m < tb.length := by have := Hm.out.len; omega
        obtain ⟨ta', tc', tk', tq', he1, htad, htlc, htcm, hTF⟩ := HT.out.below hBr
        simp only [Value.slice.injEq, true_and] at he1
        obtain ⟨rfl, rfl⟩ := he1
        obtain ⟨pv, p1, hP⟩ := hTF m hml
        have hta : ta = some ⟨tk', tq', none⟩ := htad (by omega)
        subst hta
        have Hv0' := Hv0.out
        have Hv1' := Hv1.out
        rw [Int.toNat_natCast] at Hv1'
        rw [Int.toNat_natCast] at Hval
        generalize tb.getD m [] = row at Hval hP Hv1'
        generalize valF z tb (envOf L) k 0 = vq at Hval Hv0' Hv1'
        obtain ⟨q, rfl⟩ : ∃ q : Nat, vq = q := ⟨vq.toNat, by omega⟩
        rw [Int.toNat_natCast] at Hval
        obtain ⟨ra, rc, rb, ro, rfl, hrad, hrlc, hrcm, hRF⟩ := hP
        have hq : q < row.length := by omega
        have p2 := hRF q hq
        have hra : ra = some ⟨rb, ro, none⟩ := hrad (by omega)
        subst hra
        unfold maxLen at htcm hrcm
        generalize row.getD q 0 = V at p2 Hval
        have hm' : (m : Int) < (tb.length : Int) := by omega
        have hq' : (q : Int) < (row.length : Int) := by omega
        clear hTF hRF htad hrad had m0 m1 q1 m0' q2
        go_wp2_with fail
        go_ret
        exact ⟨by rw [Hval.out]; rfl, hBr⟩
  · obtain ⟨rfl, n0, n4⟩ := alone_var Hal.out
    obtain ⟨m, rfl⟩ : ∃ m : Nat, n = m := ⟨n.toNat, by omega⟩
    have hc := grow_cell hB1 _ _ (HEF.out m (by have := HL.out; omega))
    have Hval : Hid (valT z tb (envOf L) ((true, (m : Int)), .nil) = L.getD m 0) := by
      show envOf L m = _
      unfold envOf
      rw [Int.toNat_natCast]
    have hea : ea = some ⟨eb, eo, none⟩ := Hhead.out (by have := HL.out; omega)
    subst hea
    generalize L.getD m 0 = V at hc Hval
    have hm' : (m : Int) < (L.length : Int) := by have := HL.out; omega
    clear m0 m1 q2
    go_wp2_with fail
    go_ret
    exact ⟨by rw [Hval.out]; rfl, hB1⟩

end Go.Proofs.YtaliegkkdhkfcacGreatDoor
