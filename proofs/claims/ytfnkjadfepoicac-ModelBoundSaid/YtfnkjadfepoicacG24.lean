/- Models, told alone: what is wrong with them, which things terms are, all bindings counted. -/
import Derived.Test.YtfnkjadfepoicacG23
import Derived.Test.YtfnkjadfepoicacG18
import Derived.Deep.RegionHeld3
namespace Go.Proofs.Ytfnkjadfepoicac
open Go.RowKit Go.Deep Go.ChangeShapes Go.WideShapes

/-- How long the table of a symbol with so many arguments is. -/
def mlen (z : Int) (n : Int) : Int := if n = 0 then 1 else if n = 1 then z else z * z
def inZ (z : Int) (x : Int) : Bool := decide (0 ≤ x ∧ x < z)
def rowE (z : Int) (p : Int × List Int) : Int := if (p.2.length : Int) = mlen z p.1 then (if p.2.all (inZ z) then 0 else 3) else 5
def rowsE (z : Int) : List (Int × List Int) → Int
  | [] => 0
  | p :: ps => if rowE z p ≠ 0 then rowE z p else rowsE z ps
theorem rowsE_at {z : Int} : ∀ {c : List (Int × List Int)} {j : Nat} {p : Int × List Int}, (∀ i, i < j → ∀ a, c[i]? = some a → rowE z a = 0) → c[j]? = some p → rowE z p ≠ 0 → rowsE z c = rowE z p
  | [], _, _, _, h, _ => by simp at h
  | x :: c, 0, l, _, h, hn => by
    simp only [List.getElem?_cons_zero, Option.some.injEq] at h
    subst h
    rw [rowsE, if_pos hn]
  | x :: c, j + 1, l, h0, h, hn => by
    rw [rowsE, if_neg (by simp [h0 0 (by omega) x (by simp)])]
    exact rowsE_at (j := j) (fun i hi a ha => h0 (i + 1) (by omega) a (by simpa using ha)) (by simpa using h) hn
theorem rowsE_iff {z : Int} : ∀ {c : List (Int × List Int)}, rowsE z c = 0 ↔ ∀ p ∈ c, rowE z p = 0
  | [] => by simp [rowsE]
  | x :: c => by
    rw [rowsE]
    by_cases h : rowE z x = 0
    · rw [if_neg (by simp [h]), rowsE_iff (c := c)]
      simp [h]
    · rw [if_pos h]
      simp [h]
def wrongM (s : List Int) (z : Int) (tb : List (List Int)) : Int := if z < 1 ∨ 8 < z ∨ tb.length ≠ s.length then 5 else rowsE z (s.zip tb)

/-- A right model. -/
structure MR (s : List Int) (z : Int) (tb : List (List Int)) : Prop where
  z1 : 1 ≤ z
  z8 : z ≤ 8
  len : tb.length = s.length
  row : ∀ i, i < s.length → ((tb.getD i []).length : Int) = mlen z (s.getD i 0)
  all : ∀ i, i < s.length → ∀ x ∈ tb.getD i [], 0 ≤ x ∧ x < z
theorem row_ok {z : Int} {p : Int × List Int} : rowE z p = 0 ↔ (p.2.length : Int) = mlen z p.1 ∧ ∀ x ∈ p.2, 0 ≤ x ∧ x < z := by
  unfold rowE
  by_cases h1 : (p.2.length : Int) = mlen z p.1
  · rw [if_pos h1]
    by_cases h2 : p.2.all (inZ z) = true
    · rw [if_pos h2]
      simp only [h1, true_and, true_iff]
      intro x hx
      have := List.all_eq_true.1 h2 x hx
      simpa [inZ] using this
    · rw [if_neg h2]
      constructor
      · intro h; simp at h
      · intro h
        refine absurd (List.all_eq_true.2 fun x hx => ?_) h2
        have := h.2 x hx
        simpa [inZ] using this
  · rw [if_neg h1]
    constructor
    · intro h; simp at h
    · intro h; exact absurd h.1 h1
theorem wrongM_ok {s : List Int} {z : Int} {tb : List (List Int)} (h : wrongM s z tb = 0) : MR s z tb := by
  unfold wrongM at h
  by_cases h1 : z < 1 ∨ 8 < z ∨ tb.length ≠ s.length
  · rw [if_pos h1] at h; simp at h
  · rw [if_neg h1, rowsE_iff] at h
    have hl : tb.length = s.length := by
      by_cases e : tb.length = s.length
      · exact e
      · exact absurd (.inr (.inr e)) h1
    have key : ∀ i, i < s.length → rowE z (s.getD i 0, tb.getD i []) = 0 := fun i hi => by
      have h2 : (s.zip tb)[i]? = some (s.getD i 0, tb.getD i []) := by
        have hs : s[i]? = some (s.getD i 0) := by rw [List.getD_eq_getElem?_getD, List.getElem?_eq_getElem hi]; rfl
        have ht : tb[i]? = some (tb.getD i []) := by rw [List.getD_eq_getElem?_getD, List.getElem?_eq_getElem (by omega)]; rfl
        rw [List.getElem?_zip_eq_some]
        exact ⟨hs, ht⟩
      exact h _ (List.mem_of_getElem? h2)
    exact ⟨by omega, by omega, hl, fun i hi => (row_ok.1 (key i hi)).1, fun i hi => (row_ok.1 (key i hi)).2⟩

/-- So many arguments' numbers, the first one counts most. -/
def pw (z : Int) : Nat → Int
  | 0 => 1
  | n + 1 => z * pw z n
theorem pw_pos {z : Int} (h : 1 ≤ z) : ∀ n, 1 ≤ pw z n
  | 0 => by simp [pw]
  | n + 1 => by
    have := pw_pos h n
    rw [pw]
    have := Int.mul_le_mul h this (by omega) (by omega)
    simpa using this
theorem mlen_pw {z n : Int} {m : Nat} (h : (m : Int) = n) (hm : m ≤ 2) : mlen z n = pw z m := by
  subst h
  rcases (by omega : m = 0 ∨ m = 1 ∨ m = 2) with rfl | rfl | rfl
  · rfl
  · simp [mlen, pw]
  · simp [mlen, pw]
theorem digit_next {z a v p : Int} (hz : 1 ≤ z) (ha : 0 ≤ a) (hp : a < p) (hv : 0 ≤ v) (hvz : v < z) : 0 ≤ z * a + v ∧ z * a + v < z * p := by
  have h1 : 0 ≤ z * a := Int.mul_nonneg (by omega) ha
  have h2 : z * (a + 1) ≤ z * p := Int.mul_le_mul_of_nonneg_left (by omega) (by omega)
  rw [Int.mul_add] at h2
  omega
/-- Of right symbols, with so many arguments as they must have, and few variables: however great. -/
def sigF (s : List Int) : Fo → Prop
  | .nil => True
  | .node _ _ x k r => (aloneF s x (Fo.len k) = 0 ∧ sigF s k) ∧ sigF s r
def sigT (s : List Int) (t : Tm) : Prop := aloneF s t.1 (Fo.len t.2) = 0 ∧ sigF s t.2
theorem sig_node {s : List Int} {p q : Nat} {x : Bool × Int} {k r : Fo} : sigF s (.node p q x k r) ↔ sigT s (x, k) ∧ sigF s r := Iff.rfl
theorem sig_walkF {s : List Int} : ∀ {F : Fo} {d : Int}, walkF s F d = 0 → sigF s F
  | .nil, _, _ => trivial
  | .node _ _ x k r, d, h => by
    obtain ⟨hT, hr⟩ := walkF_ok h
    obtain ⟨_, ha, hk⟩ := walkT_ok hT
    exact ⟨⟨ha, sig_walkF hk⟩, sig_walkF hr⟩
theorem sig_walk {s : List Int} {t : Tm} {d : Int} (h : walkT s t.1 t.2 d = 0) : sigT s t := by
  obtain ⟨_, ha, hk⟩ := walkT_ok h
  exact ⟨ha, sig_walkF hk⟩
theorem sig_mem {s : List Int} : ∀ {F : Fo}, sigF s F → ∀ t ∈ F.list, sigT s t
  | .nil, _, t, h => by simp [Fo.list] at h
  | .node _ _ x k r, h, t, ht => by
    simp only [Fo.list, List.mem_cons] at ht
    rcases ht with rfl | ht
    · exact h.1
    · exact sig_mem h.2 t ht
theorem sig_subF {s : List Int} {f : Int → Tm} : ∀ {F : Fo}, (∀ n, occF n F → sigT s (f n)) → sigF s F → sigF s (subF f F)
  | .nil, _, _ => trivial
  | .node p q (b, n) k r, hf, h => by
    have hl : ∀ m, occT m ((b, n), k) → sigT s (f m) := fun m hm => hf m (by rw [occ_mem]; exact ⟨((b, n), k), by simp [Fo.list], hm⟩)
    have hr : ∀ m, occF m r → sigT s (f m) := fun m hm => hf m (by
      rw [occ_mem] at hm ⊢
      obtain ⟨t, ht, h2⟩ := hm
      exact ⟨t, by simp [Fo.list, ht], h2⟩)
    rw [subF_node]
    refine ⟨?_, sig_subF hr h.2⟩
    cases b with
    | true => rw [subT_var]; exact hl n (by simp [occT])
    | false =>
      rw [subT_sym]
      refine ⟨?_, sig_subF (fun m hm => hl m (by simp [occT, hm])) h.1.2⟩
      rw [subF_len]; exact h.1.1
theorem sig_sub {s : List Int} {f : Int → Tm} {t : Tm} (hf : ∀ n, occT n t → sigT s (f n)) (h : sigT s t) : sigT s (subT f t) := by
  obtain ⟨⟨b, n⟩, k⟩ := t
  cases b with
  | true => rw [subT_var]; exact hf n (by simp [occT])
  | false =>
    rw [subT_sym]
    refine ⟨?_, sig_subF (fun m hm => hf m (by simp [occT, hm])) h.2⟩
    rw [subF_len]; exact h.1
/-- The number of a term is one of a thing. -/
theorem val_range {s : List Int} {z : Int} {tb : List (List Int)} {e : Int → Int} (hm : MR s z tb) (hs : s.all okNum = true) (he : ∀ v, 0 ≤ v → v ≤ 4 → 0 ≤ e v ∧ e v < z) :
    ∀ {F : Fo}, sigF s F → ∀ (a : Int) (i : Nat), 0 ≤ a → a < pw z i → 0 ≤ valF z tb e F a ∧ valF z tb e F a < pw z (Fo.len F + i)
  | .nil, _, a, i, h0, h1 => by simpa [valF, Fo.len] using ⟨h0, h1⟩
  | .node p q (b, n) k r, h, a, i, h0, h1 => by
    obtain ⟨⟨ha, hk⟩, hr⟩ := h
    have hv : 0 ≤ valT z tb e ((b, n), k) ∧ valT z tb e ((b, n), k) < z := by
      cases b with
      | true =>
        obtain ⟨_, hn0, hn4⟩ := alone_var ha
        simpa [valT] using he n hn0 hn4
      | false =>
        obtain ⟨n0, n1, n2⟩ := alone_sym ha
        have ih := val_range hm hs he hk 0 0 (by omega) (by simp [pw])
        have hn : n.toNat < s.length := by omega
        have ok := List.all_eq_true.1 hs (s.getD n.toNat 0) (by rw [List.getD_eq_getElem?_getD, List.getElem?_eq_getElem hn]; simp)
        have ok' : 0 ≤ s.getD n.toNat 0 ∧ s.getD n.toNat 0 ≤ 2 := by simpa [okNum] using ok
        have hl := hm.row n.toNat hn
        rw [mlen_pw n2 (by omega)] at hl
        rw [Nat.add_zero] at ih
        have hlt : (valF z tb e k 0).toNat < (tb.getD n.toNat []).length := by omega
        have : (tb.getD n.toNat []).getD (valF z tb e k 0).toNat 0 ∈ tb.getD n.toNat [] := by
          rw [List.getD_eq_getElem?_getD (l := tb.getD n.toNat []), List.getElem?_eq_getElem hlt]; simp
        have := hm.all n.toNat hn _ this
        simpa [valT] using this
    rw [valF_node]
    have hd := digit_next hm.z1 h0 h1 hv.1 hv.2
    have := val_range hm hs he hr (z * a + valT z tb e ((b, n), k)) (i + 1) hd.1 (by rw [pw]; exact hd.2)
    rw [show Fo.len (.node p q (b, n) k r) + i = Fo.len r + (i + 1) by simp [Fo.len]; omega]
    exact this
theorem val_args {s : List Int} {z : Int} {tb : List (List Int)} {e : Int → Int} (hm : MR s z tb) (hs : s.all okNum = true) (he : ∀ v, 0 ≤ v → v ≤ 4 → 0 ≤ e v ∧ e v < z) {n : Int} {k : Fo} (h : sigT s ((false, n), k)) :
    0 ≤ n ∧ n < s.length ∧ 0 ≤ valF z tb e k 0 ∧ valF z tb e k 0 < (tb.getD n.toNat []).length ∧ Fo.len k ≤ 2 := by
  have ha : aloneF s (false, n) (Fo.len k) = 0 := h.1
  have hk : sigF s k := h.2
  obtain ⟨n0, n1, n2⟩ := alone_sym ha
  have ih := val_range hm hs he hk 0 0 (by omega) (by simp [pw])
  have hn : n.toNat < s.length := by omega
  have ok := List.all_eq_true.1 hs (s.getD n.toNat 0) (by rw [List.getD_eq_getElem?_getD, List.getElem?_eq_getElem hn]; simp)
  have ok' : 0 ≤ s.getD n.toNat 0 ∧ s.getD n.toNat 0 ≤ 2 := by simpa [okNum] using ok
  have hl := hm.row n.toNat hn
  rw [mlen_pw n2 (by omega)] at hl
  rw [Nat.add_zero] at ih
  exact ⟨n0, n1, ih.1, by omega, by omega⟩
theorem val_rangeT {s : List Int} {z : Int} {tb : List (List Int)} {e : Int → Int} (hm : MR s z tb) (hs : s.all okNum = true) (he : ∀ v, 0 ≤ v → v ≤ 4 → 0 ≤ e v ∧ e v < z) {t : Tm} (h : sigT s t) : 0 ≤ valT z tb e t ∧ valT z tb e t < z := by
  have h2 : sigF s (.node 0 0 t.1 t.2 .nil) := ⟨h, trivial⟩
  have := val_range hm hs he h2 0 0 (by omega) (by simp [pw])
  rw [valF_node] at this
  simpa [valF, Fo.len, pw] using this

/-- All bindings, counted as numbers. -/
def envF (z : Int) : List Int → Int → List Int → List Int
  | [], _, L => L
  | v :: vs, n, L => envF z vs (n / z) (L.set v.toNat (n % z))
def envOf (L : List Int) (v : Int) : Int := L.getD v.toNat 0
abbrev env0 : List Int := [0, 0, 0, 0, 0]
def holdsB (z : Int) (tb : List (List Int)) (c : Cl) : Bool := (List.range (pw z (varsC c []).length).toNat).all fun n => someH z tb (envOf (envF z (varsC c []) n env0)) c
theorem envF_len {z : Int} : ∀ (vs : List Int) (n : Int) (L : List Int), (envF z vs n L).length = L.length
  | [], _, _ => rfl
  | v :: vs, n, L => by rw [envF, envF_len]; simp
theorem envF_other {z v : Int} : ∀ {vs : List Int} {n : Int} {L : List Int}, (∀ x ∈ vs, 0 ≤ x) → 0 ≤ v → v ∉ vs → envOf (envF z vs n L) v = envOf L v
  | [], _, _, _, _, _ => rfl
  | x :: vs, n, L, hx, h0, h => by
    have hne : x.toNat ≠ v.toNat := fun e => h (by have := hx x (by simp); rw [show v = x by omega]; simp)
    rw [envF, envF_other (fun y hy => hx y (by simp [hy])) h0 (fun hh => h (by simp [hh]))]
    unfold envOf
    rw [List.getD_eq_getElem?_getD, List.getD_eq_getElem?_getD, List.getElem?_set_ne hne]
theorem env_range {z : Int} (hz : 1 ≤ z) : ∀ {vs : List Int} {n : Int} {L : List Int}, (∀ x ∈ L, 0 ≤ x ∧ x < z) → ∀ x ∈ envF z vs n L, 0 ≤ x ∧ x < z
  | [], _, _, h => h
  | v :: vs, n, L, h => by
    rw [envF]
    refine env_range hz (fun x hx => ?_)
    rcases List.mem_or_eq_of_mem_set hx with hx | hx
    · exact h x hx
    · rw [hx]
      exact ⟨Int.emod_nonneg _ (by omega), Int.emod_lt_of_pos _ (by omega)⟩
theorem env_at {z : Int} (hz : 1 ≤ z) {vs : List Int} {n : Int} (v : Int) : 0 ≤ envOf (envF z vs n env0) v ∧ envOf (envF z vs n env0) v < z := by
  unfold envOf
  rw [List.getD_eq_getElem?_getD]
  cases h : (envF z vs n env0)[v.toNat]? with
  | none => simp; omega
  | some x =>
    have := env_range hz (vs := vs) (n := n) (L := env0) (fun x hx => by simp at hx; omega) x (List.mem_of_getElem? h)
    simpa using this
/-- Some number counts whatever bindings there are. -/
theorem env_some {z : Int} (hz : 1 ≤ z) {e : Int → Int} (he : ∀ v, 0 ≤ e v ∧ e v < z) : ∀ {vs : List Int}, vs.Nodup → (∀ x ∈ vs, 0 ≤ x ∧ x ≤ 4) → ∃ n : Int, 0 ≤ n ∧ n < pw z vs.length ∧ ∀ L : List Int, L.length = 5 → ∀ v ∈ vs, envOf (envF z vs n L) v = e v
  | [], _, _ => ⟨0, by omega, by simp [pw], fun _ _ _ h => by cases h⟩
  | v :: vs, hn, hx => by
    rw [List.nodup_cons] at hn
    obtain ⟨m, m0, m1, hm⟩ := env_some hz he hn.2 (fun x hx' => hx x (by simp [hx']))
    have hv := hx v (by simp)
    obtain ⟨e0, e1⟩ := he v
    have hd := digit_next hz m0 m1 e0 e1
    have hz' : (0 : Int) < z := by omega
    have q1 : (z * m + e v) / z = m := by
      rw [Int.add_comm, Int.add_mul_ediv_left _ _ (by omega), Int.ediv_eq_zero_of_lt e0 e1]; omega
    have q2 : (z * m + e v) % z = e v := by
      rw [Int.add_comm, Int.add_mul_emod_self_left, Int.emod_eq_of_lt e0 e1]
    refine ⟨z * m + e v, hd.1, by rw [List.length_cons, pw]; exact hd.2, fun L hL x hxm => ?_⟩
    rw [envF, q1, q2]
    rcases List.mem_cons.1 hxm with rfl | hxm
    · rw [envF_other (fun y hy => (hx y (by simp [hy])).1) hv.1 hn.1]
      unfold envOf
      rw [List.getD_eq_getElem?_getD, List.getElem?_set_self (by omega)]
      rfl
    · exact hm _ (by simp [hL]) x hxm
theorem some_congr {z : Int} {tb : List (List Int)} {e e' : Int → Int} {c : Cl} (h : ∀ n ∈ varsC c [], e n = e' n) : someH z tb e c = someH z tb e' c := by
  unfold someH
  rw [Bool.eq_iff_iff, List.any_eq_true, List.any_eq_true]
  refine exists_congr fun l => and_congr_right fun hl => ?_
  have h1 : ∀ n, occL n l → e n = e' n := fun n hn => h n (varsC_mem.2 (.inr ⟨l, hl, hn⟩))
  simp only [litH]
  rw [valT_congr (fun n hn => h1 n (.inl hn)), valT_congr (t := l.2.2) (fun n hn => h1 n (.inr hn))]
theorem holds_iff {z : Int} {tb : List (List Int)} {c : Cl} (hz : 1 ≤ z) (hv : ∀ n ∈ varsC c [], 0 ≤ n ∧ n ≤ 4) : holdsB z tb c = true ↔ holdsP z tb c := by
  unfold holdsB holdsP
  rw [List.all_eq_true]
  constructor
  · intro h e he
    obtain ⟨n, n0, n1, hn⟩ := env_some hz he (varsC_nodup (c := c) List.nodup_nil) hv
    have h1 := h n.toNat (List.mem_range.2 (by omega))
    rw [show ((n.toNat : Nat) : Int) = n by omega] at h1
    rw [← h1]
    exact some_congr fun v hvm => (hn env0 rfl v hvm).symm
  · intro h n _
    exact h _ (fun v => env_at hz v)

end Go.Proofs.Ytfnkjadfepoicac

/- The document's Value: which thing a term is. -/
namespace Go.Proofs.Ytfnkjadfepoicac
open Go.RowKit Go.Deep Go.ChangeShapes Go.WideShapes
attribute [local go_sem ↓] Go.wp_at_zero Go.wp_at_succ

/-- The tables Z lie in w, as the value v says. -/
def TbIn (w : World) (Z : List (List Int)) (v : Value) : Prop :=
  ∃ (a : Option Addr) (c b o : Nat), v = .slice a Z.length c ∧ (0 < Z.length → a = some ⟨b, o, none⟩) ∧ Z.length ≤ c ∧ c ≤ maxLen ∧ ∀ i, i < Z.length → ∃ pv, w.cell? ⟨b, o + i, none⟩ = some pv ∧ NIn w (Z.getD i []) pv
theorem TbIn.below {w w' : World} (hb : Below w.heap.size w w') {Z : List (List Int)} {v : Value} (h : TbIn w Z v) : TbIn w' Z v := by
  obtain ⟨a, c, b, o, h1, h2, h3, h4, h5⟩ := h
  refine ⟨a, c, b, o, h1, h2, h3, h4, fun i hi => ?_⟩
  obtain ⟨pv, k1, k2⟩ := h5 i hi
  exact ⟨pv, grow_cell hb _ _ k1, k2.below hb⟩
theorem TbIn.alloc {w : World} {Z : List (List Int)} {v : Value} (h : TbIn w Z v) (ob : Obj) : TbIn (w.alloc ob) Z v := h.below (below_alloc w ob)
theorem tb_slice {w : World} {Z : List (List Int)} {v : Value} (h : TbIn w Z v) : ∃ z1 z3, v = .slice z1 Z.length z3 := by
  obtain ⟨a, k, _, _, rfl, _⟩ := h
  exact ⟨a, k, rfl⟩

/-- The first j arguments' number. -/
def vTo (z : Int) (tb : List (List Int)) (e : Int → Int) (k : Fo) (j : Nat) : Int := (k.list.take j).foldl (fun a t => z * a + valT z tb e t) 0
theorem valF_list (z : Int) (tb : List (List Int)) (e : Int → Int) : ∀ (F : Fo) (a : Int), valF z tb e F a = F.list.foldl (fun a t => z * a + valT z tb e t) a
  | .nil, _ => rfl
  | .node _ _ x k r, a => by rw [valF_node, valF_list z tb e r]; rfl
theorem vTo_succ {z : Int} {tb : List (List Int)} {e : Int → Int} {k : Fo} {j : Nat} {t : Tm} (h : k.list[j]? = some t) : vTo z tb e k (j + 1) = z * vTo z tb e k j + valT z tb e t := by
  unfold vTo; rw [List.take_add_one, h]; simp [List.foldl_append]
theorem vTo_end (z : Int) (tb : List (List Int)) (e : Int → Int) (k : Fo) : vTo z tb e k (Fo.len k) = valF z tb e k 0 := by
  unfold vTo; rw [← Fo.len_list, List.take_length, valF_list]
theorem vTo_range {z : Int} {tb : List (List Int)} {e : Int → Int} {k : Fo} (hz : 1 ≤ z) (h : ∀ t ∈ k.list, 0 ≤ valT z tb e t ∧ valT z tb e t < z) : ∀ j, j ≤ Fo.len k → 0 ≤ vTo z tb e k j ∧ vTo z tb e k j < pw z j
  | 0, _ => by simp [vTo, pw]
  | j + 1, hj => by
    have ih := vTo_range hz h j (by omega)
    have hl : j < k.list.length := by rw [Fo.len_list]; omega
    have hy : k.list[j]? = some k.list[j] := List.getElem?_eq_getElem hl
    have hv := h _ (List.getElem_mem hl)
    rw [vTo_succ hy, pw]
    exact digit_next hz ih.1 ih.2 hv.1 hv.2
theorem pw_small {z : Int} (h1 : 1 ≤ z) (h8 : z ≤ 8) {j : Nat} (hj : j ≤ 2) : pw z j ≤ 64 := by
  rcases (by omega : j = 0 ∨ j = 1 ∨ j = 2) with rfl | rfl | rfl
  · simp [pw]
  · simp [pw]; omega
  · have := Int.mul_le_mul h8 h8 (by omega) (by omega)
    simp [pw]; omega
theorem env_ok {z : Int} {L : List Int} (hz : 1 ≤ z) (hr : ∀ x ∈ L, 0 ≤ x ∧ x < z) (v : Int) : 0 ≤ envOf L v ∧ envOf L v < z := by
  unfold envOf
  rw [List.getD_eq_getElem?_getD]
  cases h : L[v.toNat]? with
  | none => simp; omega
  | some x => simpa using hr x (List.mem_of_getElem? h)

def ValRSaid (s : List Int) (z : Int) (tb : List (List Int)) (L : List Int) (x : Bool × Int) (k : Fo) : Prop := ∀ (mv ev a : Value) (w : World), TbIn w tb mv → NIn w L ev → SIn w k a → sigT s (x, k) →
    Calls Try.prog 12 #[.agg #[.int .i64 z, mv], ev, .agg #[.bool x.1, .int .i64 x.2, a]] w fun e w' => e = .returned (.int .i64 (valT z tb (envOf L) (x, k))) ∧ Below w.heap.size w w'

set_option maxRecDepth 100000 in
set_option maxHeartbeats 2000000 in
theorem valueR_any {s L : List Int} {z : Int} {tb : List (List Int)} (hm : MR s z tb) (hs : s.all okNum = true) (hL : L.length = 5) (hr : ∀ x ∈ L, 0 ≤ x ∧ x < z) (x : Bool × Int) (k : Fo) : ValRSaid s z tb L x k := by
  refine Fo.ind1 (p := ValRSaid s z tb L) ?_ x k
  clear x k
  intro x k ih mv ev a w hT hE hS hw
  obtain ⟨xv, n⟩ := x
  have HI := hide ih
  have Hm := hide hm
  have Hs := hide hs
  have z1 := hm.z1
  have z8 := hm.z8
  have Hev : Hid (∀ v, 0 ≤ v → v ≤ 4 → 0 ≤ envOf L v ∧ envOf L v < z) := fun v _ _ => env_ok hm.z1 hr v
  have HT := hide hT
  have HE := hide hE
  have Hl := hide (Fo.len_list k)
  obtain ⟨ta, tc, tk, tq, rfl, -, -, -, -⟩ := hT
  obtain ⟨ea, ec, eb, eo, rfl, head, helc, hecm, hEF⟩ := hE
  obtain ⟨ad, c, b, o, rfl, had, hlc, hcm, hF⟩ := hS
  unfold maxLen at hcm hecm
  have hal : aloneF s (xv, n) (Fo.len k) = 0 := hw.1
  have hwk : sigF s k := hw.2
  have Hal := hide hal
  have Hwk := hide hwk
  have Hw := hide hw
  have HF := hide hF
  have HEF := hide hEF
  have HL := hide hL
  have Hhead := hide head
  clear ih hm hs hr hal hwk hw hF hEF hL head
  go_enter Try.func12, Try.ntmps12
  go_upto_region 1 with fail
  generalize hW1 : (w.alloc (.cells #[.int .i64 z, .slice ta tb.length tc] 26)).alloc (.cells #[.bool xv, .int .i64 n, .slice ad (Fo.len k) c] 35) = W1
  have hB1 : Below w.heap.size w W1 := by rw [← hW1]; exact (below_alloc _ _).alloc (by simp) _
  have m0 : W1.cell? ⟨w.heap.size, 0, none⟩ = some (.int .i64 z) := by rw [← hW1, World.cell?_alloc_lt _ _ _ (by simp)]; exact new_cell rfl
  have m1 : W1.cell? ⟨w.heap.size, 1, none⟩ = some (.slice ta tb.length tc) := by rw [← hW1, World.cell?_alloc_lt _ _ _ (by simp)]; exact new_cell rfl
  have q0 : W1.cell? ⟨w.heap.size + 1, 0, none⟩ = some (.bool xv) := by rw [← hW1]; exact new_cell (World.size_alloc _ _)
  have q1 : W1.cell? ⟨w.heap.size + 1, 1, none⟩ = some (.int .i64 n) := by rw [← hW1]; exact new_cell (World.size_alloc _ _)
  have q2 : W1.cell? ⟨w.heap.size + 1, 2, none⟩ = some (.slice ad (Fo.len k) c) := by rw [← hW1]; exact new_cell (World.size_alloc _ _)
  clear hW1
  cases xv
  · obtain ⟨n0, n1, v0, v1, l2⟩ := val_args Hm.out Hs.out Hev.out Hw.out
    have Hv0 := hide v0
    have Hv1 := hide v1
    have Hvs : Hid (∀ t ∈ k.list, 0 ≤ valT z tb (envOf L) t ∧ valT z tb (envOf L) t < z) := fun t ht => val_rangeT Hm.out Hs.out Hev.out (sig_mem Hwk.out t ht)
    have Hvt : Hid (∀ j, j ≤ Fo.len k → 0 ≤ vTo z tb (envOf L) k j ∧ vTo z tb (envOf L) k j ≤ 64) := fun j hj => by
      have h1 := vTo_range z1 Hvs.out j hj
      have h2 := pw_small z1 z8 (j := j) (by omega)
      exact ⟨h1.1, by omega⟩
    clear v0 v1
    go_wp2_with fail
    go_loopw [7, 20] (fun s i wr => ∃ j : Nat, j ≤ Fo.len k ∧ i = .int .i64 j ∧ s = .int .i64 (vTo z tb (envOf L) k j) ∧ Below W1.heap.size W1 wr) (fun _ i _ => Fo.len k - (intOf i).toNat)
    case atStart => exact ⟨0, Nat.zero_le _, rfl, rfl, Below.refl _ _⟩
    case round =>
      obtain ⟨j, hj, rfl, rfl, hBx⟩ := hrel
      have hBr := below_step hB1 hBx
      have m0' := grow_cell hBx _ _ m0
      have m1' := grow_cell hBx _ _ m1
      have q1' := grow_cell hBx _ _ q1
      by_cases hlt : j < Fo.len k
      · have hlt' : (j : Int) < (Fo.len k : Int) := by omega
        obtain ⟨⟨⟨yv, yn⟩, yk⟩, hy⟩ : ∃ y, k.list[j]? = some y := ⟨k.list[j]'(by rw [Hl.out]; exact hlt), by simp⟩
        obtain ⟨c0, c1, yv', c2, hSy⟩ := (HF.out.below hBr).at hy
        have ha : ad = some ⟨b, o, none⟩ := had (by omega)
        subst ha
        have HS := hide hSy
        obtain ⟨ya, yc, yb, yo, rfl, -, -, -, -⟩ := hSy
        have hmem := List.mem_of_getElem? hy
        have hvy := Hvs.out _ hmem
        have hvj := Hvt.out j hj
        have Hst := hide (vTo_succ (z := z) (tb := tb) (e := envOf L) hy)
        have Hc := hide (fun (w' : World) (hb : Below wr.heap.size wr w') => HI.out ((yv, yn), yk) hmem (.slice ta tb.length tc) (.slice ea L.length ec) (.slice ya (Fo.len yk) yc) w' (HT.out.below (below_step hBr hb)) (HE.out.below (below_step hBr hb)) (HS.out.below hb) (sig_mem Hwk.out _ hmem))
        simp only at Hc
        generalize valT z tb (envOf L) ((yv, yn), yk) = V at hvy Hst Hc
        generalize vTo z tb (envOf L) k j = Aj at hvj Hst
        have hp0 : 0 ≤ z * Aj := Int.mul_nonneg (by omega) hvj.1
        have hp1 : z * Aj ≤ 8 * 64 := Int.mul_le_mul z8 hvj.2 hvj.1 (by omega)
        obtain ⟨hv1, hv2⟩ := hvy
        obtain ⟨hv3, hv4⟩ := hvj
        have Hwr : Hid (IntKind.i64.wrap (IntKind.i64.wrap (z * Aj) + V) = z * Aj + V) := by
          have e1 : IntKind.i64.wrap (z * Aj) = z * Aj := by rw [IntKind.wrap_i64]; omega
          rw [Hid, e1, IntKind.wrap_i64]
          omega
        clear hy had hmem
        go_upto_region 7 with fail
        generalize hwa : wr.alloc (.cells #[.bool yv, .int .i64 yn, .slice ya (Fo.len yk) yc] 35) = wa
        have hba : Below wr.heap.size wr wa := by rw [← hwa]; exact below_alloc _ _
        have g0 : wa.cell? ⟨wr.heap.size, 0, none⟩ = some (.bool yv) := by rw [← hwa]; exact new_cell rfl
        have g1 : wa.cell? ⟨wr.heap.size, 1, none⟩ = some (.int .i64 yn) := by rw [← hwa]; exact new_cell rfl
        have g2 : wa.cell? ⟨wr.heap.size, 2, none⟩ = some (.slice ya (Fo.len yk) yc) := by rw [← hwa]; exact new_cell rfl
        have m0'' := grow_cell hba _ _ m0'
        have m1'' := grow_cell hba _ _ m1'
        have hcur : Below wa.heap.size wa wa.drew := (Below.refl _ _).drew
        clear hwa c0 c1 c2 m0 m1 m0' m1' q1 q2 q1'
        go_region_held3 (fun w' => w'.cell? ⟨wr.heap.size, 0, none⟩ = some (.bool yv) ∧ w'.cell? ⟨wr.heap.size, 1, none⟩ = some (.int .i64 yn) ∧ w'.cell? ⟨wr.heap.size, 2, none⟩ = some (.slice ya (Fo.len yk) yc) ∧ w'.cell? ⟨w.heap.size, 0, none⟩ = some (.int .i64 z) ∧ w'.cell? ⟨w.heap.size, 1, none⟩ = some (.slice ta tb.length tc))
          (first
            | (with_reducible exact ⟨grow_cell hcur _ _ g0, grow_cell hcur _ _ g1, grow_cell hcur _ _ g2, grow_cell hcur _ _ m0'', grow_cell hcur _ _ m1''⟩)
            | go_keep)
          (first
            | (go_at_call 12; with_reducible refine (Hc.out _ (below_step hba hcur)).mono ?_; rintro e wS ⟨rfl, hbS⟩; replace hcur := below_step hcur hbS))
        all_goals
          have Hend := hide (below_step hBx (below_step hba hcur))
          clear hcur hbS
          go_wp2_with fail
          go_roundw
          case rel => exact ⟨j + 1, by omega, by go_num, by rw [Hst.out, Hwr.out], Hend.out⟩
          case measure => simp [intOf]; omega
      · have hje : j = Fo.len k := by omega
        subst hje
        have Hval : Hid (valT z tb (envOf L) ((false, n), k) = (tb.getD n.toNat []).getD (valF z tb (envOf L) k 0).toNat 0) := rfl
        have Hve := hide (vTo_end z tb (envOf L) k)
        rw [Hve.out]
        obtain ⟨m, rfl⟩ : ∃ m : Nat, n = m := ⟨n.toNat, by omega⟩
        have hml : m < tb.length := by have := Hm.out.len; omega
        obtain ⟨ta', tc', tk', tq', he1, htad, htlc, htcm, hTF⟩ := HT.out.below hBr
        simp only [Value.slice.injEq, true_and] at he1
        obtain ⟨rfl, rfl⟩ := he1
        obtain ⟨pv, p1, hP⟩ := hTF m hml
        have hta : ta = some ⟨tk', tq', none⟩ := htad (by omega)
        subst hta
        have Hv0' := Hv0.out
        have Hv1' := Hv1.out
        rw [Int.toNat_natCast] at Hv1'
        rw [Int.toNat_natCast] at Hval
        generalize tb.getD m [] = row at Hval hP Hv1'
        generalize valF z tb (envOf L) k 0 = vq at Hval Hv0' Hv1'
        obtain ⟨q, rfl⟩ : ∃ q : Nat, vq = q := ⟨vq.toNat, by omega⟩
        rw [Int.toNat_natCast] at Hval
        obtain ⟨ra, rc, rb, ro, rfl, hrad, hrlc, hrcm, hRF⟩ := hP
        have hq : q < row.length := by omega
        have p2 := hRF q hq
        have hra : ra = some ⟨rb, ro, none⟩ := hrad (by omega)
        subst hra
        unfold maxLen at htcm hrcm
        generalize row.getD q 0 = V at p2 Hval
        have hm' : (m : Int) < (tb.length : Int) := by omega
        have hq' : (q : Int) < (row.length : Int) := by omega
        clear hTF hRF htad hrad had m0 m1 q1 m0' q2
        go_wp2_with fail
        go_ret
        exact ⟨by rw [Hval.out]; rfl, hBr⟩
  · obtain ⟨rfl, n0, n4⟩ := alone_var Hal.out
    obtain ⟨m, rfl⟩ : ∃ m : Nat, n = m := ⟨n.toNat, by omega⟩
    have hc := grow_cell hB1 _ _ (HEF.out m (by have := HL.out; omega))
    have Hval : Hid (valT z tb (envOf L) ((true, (m : Int)), .nil) = L.getD m 0) := by
      show envOf L m = _
      unfold envOf
      rw [Int.toNat_natCast]
    have hea : ea = some ⟨eb, eo, none⟩ := Hhead.out (by have := HL.out; omega)
    subst hea
    generalize L.getD m 0 = V at hc Hval
    have hm' : (m : Int) < (L.length : Int) := by have := HL.out; omega
    clear m0 m1 q2
    go_wp2_with fail
    go_ret
    exact ⟨by rw [Hval.out]; rfl, hB1⟩

end Go.Proofs.Ytfnkjadfepoicac

/- What is wrong with a model: entries, wrongTable, Wrong. -/
namespace Go.Proofs.Ytfnkjadfepoicac
open Go.RowKit Go.Deep Go.ChangeShapes Go.WideShapes
attribute [local go_sem ↓] Go.wp_at_zero Go.wp_at_succ

set_option maxRecDepth 100000 in
set_option maxHeartbeats 2000000 in
theorem entries_any (z n : Int) (w : World) (z1 : 1 ≤ z) (z8 : z ≤ 8) (h0 : 0 ≤ n) (h2 : n ≤ 2) :
    Calls Try.prog 53 #[.int .i64 z, .int .i64 n] w fun e w' => e = .returned (.int .i64 (mlen z n)) ∧ Below w.heap.size w w' := by
  have hp0 : 0 ≤ z * z := Int.mul_nonneg (by omega) (by omega)
  have hp1 : z * z ≤ 8 * 8 := Int.mul_le_mul z8 z8 (by omega) (by omega)
  have Hwr : Hid (IntKind.i64.wrap (z * z) = z * z) := by rw [Hid, IntKind.wrap_i64]; omega
  have Hwr2 : Hid (wrap64 (z * z) = z * z) := by unfold Hid wrap64; omega
  rcases (by omega : n = 0 ∨ n = 1 ∨ n = 2) with rfl | rfl | rfl
  · clear hp0 hp1
    go_enter Try.func53, Try.ntmps53
    go_wp2_with fail
    go_ret
    exact ⟨rfl, Below.refl _ _⟩
  · clear hp0 hp1
    go_enter Try.func53, Try.ntmps53
    go_wp2_with fail
    go_ret
    exact ⟨rfl, Below.refl _ _⟩
  · clear hp0 hp1
    go_enter Try.func53, Try.ntmps53
    go_wp2_with fail
    go_ret
    refine ⟨?_, Below.refl _ _⟩
    first | (rw [Hwr2.out]; rfl) | (rw [Hwr.out]; rfl)

set_option maxRecDepth 100000 in
set_option maxHeartbeats 2000000 in
theorem wrongTable_any (z n : Int) (row : List Int) (rv : Value) (w : World) (hR : NIn w row rv) (z1 : 1 ≤ z) (z8 : z ≤ 8) (h0 : 0 ≤ n) (h2 : n ≤ 2) :
    Calls Try.prog 30 #[.int .i64 z, .int .i64 n, rv] w fun e w' => e = .returned (.int .i64 (rowE z (n, row))) ∧ Below w.heap.size w w' := by
  obtain ⟨ra, rc, rb, ro, rfl, hrad, hrlc, hrcm, hRF⟩ := hR
  have HRF := hide hRF
  unfold maxLen at hrcm
  clear hRF
  go_enter Try.func30, Try.ntmps30
  go_wp2_with fail
  refine (entries_any z n _ z1 z8 h0 h2).mono ?_
  rintro e w1 ⟨rfl, hb1⟩
  by_cases hlen : (row.length : Int) = mlen z n
  · have hlb : ((row.length : Int) != mlen z n) = false := by simp [hlen]
    have Hlen := hide hlen
    clear hlen
    go_wp2_with fail
    clear hlb
    go_loopw [17] (fun i wx => ∃ q : Nat, q ≤ row.length ∧ i = .int .i64 q ∧ (∀ i, i < q → inZ z (row.getD i 0) = true) ∧ w1 = wx) (fun i _ => row.length - (intOf i).toNat)
    case atStart => exact ⟨0, Nat.zero_le _, rfl, fun i hi => by omega, rfl⟩
    case round =>
      obtain ⟨q, hq, rfl, hin, rfl⟩ := hrel
      have Hin := hide hin
      clear hin
      by_cases hql : q < row.length
      · have hql' : (q : Int) < (row.length : Int) := by omega
        have c3 := grow_cell hb1 _ _ (HRF.out q hql)
        have hra : ra = some ⟨rb, ro, none⟩ := hrad (by omega)
        subst hra
        have Hmem : Hid (row.getD q 0 ∈ row) := by rw [Hid, List.getD_eq_getElem?_getD, List.getElem?_eq_getElem hql]; simp
        have Hnx : Hid (inZ z (row.getD q 0) = true → ∀ i, i < q + 1 → inZ z (row.getD i 0) = true) := fun h i hi => by
          by_cases e : i = q
          · rw [e]; exact h
          · exact Hin.out i (by omega)
        generalize row.getD q 0 = x at *
        clear hrad
        by_cases hx : 0 ≤ x ∧ x < z
        · obtain ⟨x0, x1⟩ := hx
          have Hn := hide (Hnx.out (by simp [inZ, x0, x1]))
          go_wp2_with fail
          go_roundw
          case rel => exact ⟨q + 1, by omega, by go_num, Hn.out, trivial⟩
          case measure => simp [intOf]; omega
        · have Hbad : Hid (rowE z (n, row) = 3) := by
            unfold Hid rowE
            rw [if_pos Hlen.out, if_neg]
            intro hall
            have := List.all_eq_true.1 hall x Hmem.out
            simp only [inZ, decide_eq_true_eq] at this
            exact hx this
          by_cases x0 : x < 0
          · clear hx
            go_wp2_with fail
            go_ret
            exact ⟨by rw [Hbad.out]; rfl, hb1⟩
          · have x1 : z ≤ x := by omega
            clear hx
            go_wp2_with fail
            go_ret
            exact ⟨by rw [Hbad.out]; rfl, hb1⟩
      · have Hgood : Hid (rowE z (n, row) = 0) := by
          rw [Hid, row_ok]
          refine ⟨Hlen.out, fun x hx => ?_⟩
          obtain ⟨i, hi, rfl⟩ := List.mem_iff_getElem.1 hx
          have hi2 : i < row.length := hi
          have := Hin.out i (by omega)
          rw [List.getD_eq_getElem?_getD, List.getElem?_eq_getElem hi2] at this
          simpa [inZ] using this
        clear hrad
        go_wp2_with fail
        go_ret
        exact ⟨by rw [Hgood.out]; rfl, hb1⟩
  · have hlb : ((row.length : Int) != mlen z n) = true := by simp [hlen]
    have Hbad : Hid (rowE z (n, row) = 5) := by
      unfold Hid rowE
      rw [if_neg hlen]
    clear hlen
    go_wp2_with fail
    go_ret
    exact ⟨by rw [Hbad.out]; rfl, hb1⟩

set_option maxRecDepth 100000 in
set_option maxHeartbeats 2000000 in
theorem wrongMod_any (s : List Int) (sv : Value) (z : Int) (tb : List (List Int)) (mv : Value) (w : World) (hN : NIn w s sv) (hT : TbIn w tb mv) (hs : s.all okNum = true) :
    Calls Try.prog 8 #[sv, .agg #[.int .i64 z, mv]] w fun e w' => e = .returned (.int .i64 (wrongM s z tb)) ∧ Below w.heap.size w w' := by
  have HN := hide hN
  have HT := hide hT
  have Hs := hide hs
  obtain ⟨sa, sc, sb, so, rfl, hsad, hslc, hscm, hSF⟩ := hN
  obtain ⟨ta, tc, tk, tq, rfl, htad, htlc, htcm, hTF⟩ := hT
  have HSF := hide hSF
  have HTF := hide hTF
  unfold maxLen at hscm htcm
  clear hSF hTF hs
  go_enter Try.func8, Try.ntmps8
  go_upto_region 1 with fail
  generalize hW1 : w.alloc (.cells #[.int .i64 z, .slice ta tb.length tc] 26) = W1
  have hB1 : Below w.heap.size w W1 := by rw [← hW1]; exact below_alloc _ _
  have m0 : W1.cell? ⟨w.heap.size, 0, none⟩ = some (.int .i64 z) := by rw [← hW1]; exact new_cell rfl
  have m1 : W1.cell? ⟨w.heap.size, 1, none⟩ = some (.slice ta tb.length tc) := by rw [← hW1]; exact new_cell rfl
  clear hW1
  by_cases h1 : z < 1
  · have Hf : Hid (wrongM s z tb = 5) := if_pos (.inl h1)
    go_wp2_with fail
    go_ret
    exact ⟨by rw [Hf.out]; rfl, hB1⟩
  by_cases h8 : 8 < z
  · have Hf : Hid (wrongM s z tb = 5) := if_pos (.inr (.inl h8))
    go_wp2_with fail
    go_ret
    exact ⟨by rw [Hf.out]; rfl, hB1⟩
  by_cases hl : tb.length = s.length
  · have Hf : Hid (wrongM s z tb = rowsE z (s.zip tb)) := if_neg (by omega)
    have hlb : ((tb.length : Int) != (s.length : Int)) = false := by simp [hl]
    have Hl := hide hl
    clear hl
    go_wp2_with fail
    clear hlb
    go_loopw [26] (fun i wr => ∃ j : Nat, j ≤ s.length ∧ i = .int .i64 j ∧ (∀ i, i < j → ∀ a, (s.zip tb)[i]? = some a → rowE z a = 0) ∧ Below W1.heap.size W1 wr) (fun i _ => s.length - (intOf i).toNat)
    case atStart => exact ⟨0, Nat.zero_le _, rfl, fun i hi => by omega, Below.refl _ _⟩
    case round =>
      obtain ⟨j, hj, rfl, hok, hBx⟩ := hrel
      have Hok := hide hok
      clear hok
      have hBr := below_step hB1 hBx
      replace m0 := grow_cell hBx _ _ m0
      replace m1 := grow_cell hBx _ _ m1
      by_cases hlt : j < s.length
      · have hlt' : (j : Int) < (s.length : Int) := by omega
        have hjt : (j : Int) < (tb.length : Int) := by have := Hl.out; omega
        have hc := grow_cell hBr _ _ (HSF.out j hlt)
        obtain ⟨pv, p1, hP⟩ := HTF.out j (by omega)
        replace p1 := grow_cell hBr _ _ p1
        replace hP := hP.below hBr
        have hsj : s[j]? = some (s.getD j 0) := by rw [List.getD_eq_getElem?_getD, List.getElem?_eq_getElem hlt]; rfl
        have htj : tb[j]? = some (tb.getD j []) := by rw [List.getD_eq_getElem?_getD, List.getElem?_eq_getElem (by omega)]; rfl
        have Hzip : Hid ((s.zip tb)[j]? = some (s.getD j 0, tb.getD j [])) := by rw [Hid, List.getElem?_zip_eq_some]; exact ⟨hsj, htj⟩
        have hok2 : 0 ≤ s.getD j 0 ∧ s.getD j 0 ≤ 2 := by
          have := List.all_eq_true.1 Hs.out _ (List.mem_of_getElem? hsj)
          simpa [okNum] using this
        have HP := hide hP
        obtain ⟨ra, rc, rb, ro, rfl, -, -, -, -⟩ := hP
        generalize s.getD j 0 = n at *
        generalize tb.getD j [] = row at *
        have hsa : sa = some ⟨sb, so, none⟩ := hsad (by omega)
        subst hsa
        have hta : ta = some ⟨tk, tq, none⟩ := htad (by omega)
        subst hta
        obtain ⟨n0, n2⟩ := hok2
        have Hc := hide (fun (w' : World) (hb : Below wr.heap.size wr w') => wrongTable_any z n row (.slice ra row.length rc) w' (HP.out.below hb) (by omega) (by omega) n0 n2)
        obtain ⟨E, hE⟩ : ∃ E, rowE z (n, row) = E := ⟨_, rfl⟩
        rw [hE] at Hc
        have HE := hide hE
        clear hsj htj hsad htad n0 n2 hE
        go_upto_region 6 with fail
        have hcur : Below wr.heap.size wr wr.drew := (Below.refl _ _).drew
        go_region_held3 (fun w' => w'.cell? ⟨w.heap.size, 0, none⟩ = some (.int .i64 z) ∧ w'.cell? ⟨w.heap.size, 1, none⟩ = some (.slice (some ⟨tk, tq, none⟩) tb.length tc) ∧ w'.cell? ⟨tk, tq + j, none⟩ = some (.slice ra row.length rc))
          (first
            | (with_reducible exact ⟨grow_cell hcur _ _ m0, grow_cell hcur _ _ m1, grow_cell hcur _ _ p1⟩)
            | go_keep)
          (first
            | (go_at_call 30; with_reducible refine (Hc.out _ hcur).mono ?_; rintro e wS ⟨rfl, hbS⟩; replace hcur := below_step hcur hbS))
        all_goals
          have Hend := hide (below_step hBx hcur)
          clear hcur hbS
          by_cases he : E = 0
          · subst he
            have Hn : Hid (∀ i, i < j + 1 → ∀ a, (s.zip tb)[i]? = some a → rowE z a = 0) := fun i hi a ha => by
              by_cases e : i = j
              · rw [e, Hzip.out] at ha; cases ha; exact HE.out
              · exact Hok.out i (by omega) a ha
            go_wp2_with fail
            go_roundw
            case rel => exact ⟨j + 1, by omega, by go_num, Hn.out, Hend.out⟩
            case measure => simp [intOf]; omega
          · have heb : (E != 0) = true := by simp [he]
            have Hbad : Hid (rowsE z (s.zip tb) = E) := by
              rw [Hid, rowsE_at Hok.out Hzip.out (by rw [HE.out]; exact he), HE.out]
            clear he
            go_wp2_with fail
            go_ret
            exact ⟨by rw [Hf.out, Hbad.out]; rfl, below_step hB1 Hend.out⟩
      · have Hfin : Hid (rowsE z (s.zip tb) = 0) := by
          rw [Hid, rowsE_iff]
          intro p hp
          obtain ⟨i, hi⟩ := List.mem_iff_getElem?.1 hp
          have hil : i < (s.zip tb).length := (List.getElem?_eq_some_iff.1 hi).1
          rw [List.length_zip] at hil
          exact Hok.out i (by omega) p hi
        clear hsad htad
        go_wp2_with fail
        go_ret
        exact ⟨by rw [Hf.out, Hfin.out]; rfl, hBr⟩
  · have Hf : Hid (wrongM s z tb = 5) := if_pos (.inr (.inr hl))
    have hlb : ((tb.length : Int) != (s.length : Int)) = true := by simp; omega
    clear hl
    go_wp2_with fail
    go_ret
    exact ⟨by rw [Hf.out]; rfl, hB1⟩

end Go.Proofs.Ytfnkjadfepoicac

/- Of which models clauses hold, told alone: it is so, or it is not; what holds of all holds of each. -/
namespace Go.Proofs.Ytfnkjadfepoicac
open Go.RowKit Go.Deep Go.ChangeShapes Go.WideShapes

def notL (l : Lt) : Lt := (!l.1, l.2)
theorem litH_not {z : Int} {tb : List (List Int)} {e : Int → Int} (l : Lt) : litH z tb e (notL l) = !litH z tb e l := by
  unfold litH notL
  cases l.1 <;> cases (valT z tb e l.2.1 == valT z tb e l.2.2) <;> rfl
theorem holds_either (z : Int) (tb : List (List Int)) (l : Lt) : holdsP z tb [l, notL l] := fun e _ => by
  simp only [someH, List.any_cons, List.any_nil, litH_not]
  cases litH z tb e l <;> rfl
theorem holds_none {z : Int} (hz : 1 ≤ z) (tb : List (List Int)) : ¬ holdsP z tb [] := fun h => by
  have := h (fun _ => 0) (fun _ => ⟨by omega, by omega⟩)
  simp [someH] at this
theorem holds_not {z : Int} (hz : 1 ≤ z) {tb : List (List Int)} {l : Lt} (h1 : holdsP z tb [l]) (h2 : holdsP z tb [notL l]) : False := by
  have e1 := h1 (fun _ => 0) (fun _ => ⟨by omega, by omega⟩)
  have e2 := h2 (fun _ => 0) (fun _ => ⟨by omega, by omega⟩)
  simp only [someH, List.any_cons, List.any_nil, litH_not, Bool.or_false] at e1 e2
  rw [e1] at e2
  cases e2
/-- By whatever bindings. -/
theorem some_bound {z : Int} {tb : List (List Int)} {e : Int → Int} (f : Int → Tm) (c : Cl) : someH z tb e (c.map (mapL (subT f))) = someH z tb (fun n => valT z tb e (f n)) c := by
  unfold someH
  rw [List.any_map]
  congr 1
  funext l
  simp only [Function.comp, litH, mapL, valT_sub]
theorem holds_sub {z : Int} {tb : List (List Int)} {f : Int → Tm} {c : Cl} (hf : ∀ (e : Int → Int), (∀ v, 0 ≤ e v ∧ e v < z) → ∀ n, 0 ≤ valT z tb e (f n) ∧ valT z tb e (f n) < z) (h : holdsP z tb c) : holdsP z tb (c.map (mapL (subT f))) := fun e he => by
  rw [some_bound]
  exact h _ (hf e he)
theorem holds_bound {s : List Int} {z : Int} {tb : List (List Int)} {b : Sb} {c : Cl} (hm : MR s z tb) (hs : s.all okNum = true) (hb : ∀ p ∈ b, sigT s p.2) (h : holdsP z tb c) : holdsP z tb (c.map (mapL (subT (bnd b)))) := by
  refine holds_sub (fun e he n => ?_) h
  cases el : look b n with
  | none => rw [bnd_none el]; simpa [valT, vr] using he n
  | some u => rw [bnd_some el]; exact val_rangeT hm hs (fun v _ _ => he v) (hb _ (look_mem el))
theorem holds_more {z : Int} {tb : List (List Int)} {c : Cl} (d : Cl) (h : holdsP z tb c) : holdsP z tb (c ++ d) := fun e he => by
  have := h e he
  simp only [someH, List.any_append] at this ⊢
  rw [this, Bool.true_or]
/-- Where variables are few they are few by bindings, too. -/
theorem bound_few {b : Sb} {t : Tm} (hb : ∀ p ∈ b, ∀ m, occT m p.2 → 0 ≤ m ∧ m ≤ 4) (ht : ∀ m, occT m t → 0 ≤ m ∧ m ≤ 4) : ∀ m, occT m (subT (bnd b) t) → 0 ≤ m ∧ m ≤ 4 := fun m hm => by
  obtain ⟨n, h1, h2⟩ := occT_sub.1 hm
  cases el : look b n with
  | none => rw [bnd_none el, occ_vr] at h2; rw [← h2]; exact ht n h1
  | some u => rw [bnd_some el] at h2; exact hb _ (look_mem el) m h2
theorem sig_few {s : List Int} : ∀ {F : Fo}, sigF s F → ∀ m, occF m F → 0 ≤ m ∧ m ≤ 4
  | .nil, _, m, h => by simp [occF] at h
  | .node p q (b, n) k r, h, m, hm => by
    rw [occF] at hm
    rcases hm with hm | hm
    · cases b with
      | true =>
        obtain ⟨_, h0, h4⟩ := alone_var h.1.1
        have : n = m := by simpa using hm
        omega
      | false => exact sig_few h.1.2 m (by simpa using hm)
    · exact sig_few h.2 m hm
theorem sig_fewT {s : List Int} {t : Tm} (h : sigT s t) : ∀ m, occT m t → 0 ≤ m ∧ m ≤ 4 := fun m hm => by
  refine sig_few (F := .node 0 0 t.1 t.2 .nil) ⟨h, trivial⟩ m ?_
  rw [occ_mem]
  exact ⟨t, by simp [Fo.list], hm⟩
theorem sigC_vars {s : List Int} {c : Cl} (h : ∀ l ∈ c, sigT s l.2.1 ∧ sigT s l.2.2) : (∀ n ∈ varsC c [], 0 ≤ n ∧ n ≤ 4) ∧ (varsC c []).length ≤ 5 := by
  have key : ∀ n ∈ varsC c [], 0 ≤ n ∧ n ≤ 4 := fun n hn => by
    rcases varsC_mem.1 hn with hn | ⟨l, hl, hn⟩
    · cases hn
    · rcases hn with hn | hn
      · exact sig_fewT (h l hl).1 n hn
      · exact sig_fewT (h l hl).2 n hn
  refine ⟨key, nodup_le (m := [0, 1, 2, 3, 4]) (varsC_nodup List.nodup_nil) (fun x hx => ?_)⟩
  have := key x hx
  simp
  omega

end Go.Proofs.Ytfnkjadfepoicac
