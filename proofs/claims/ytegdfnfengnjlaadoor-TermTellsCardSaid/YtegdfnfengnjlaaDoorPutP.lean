/- What is put is there: told of terms alone. -/
import Derived.Test.YtegdfnfengnjlaaDoorAlive
namespace Go.Proofs.YtegdfnfengnjlaaDoor
open Go.RowKit Go.Deep Go.ChangeShapes Go.WideShapes

theorem alone_len {s : List Int} (hs : s.all okNum = true) {x : Bool × Int} {k : Fo} (h : aloneF s x (Fo.len k) = 0) : Fo.len k ≤ 2 := by
  obtain ⟨v, n⟩ := x
  cases v
  · obtain ⟨h0, h1, h2⟩ := alone_sym h
    have := sig_at hs (i := n.toNat) (by omega)
    omega
  · obtain ⟨rfl, _, _⟩ := alone_var h
    simp [Fo.len]

/-- So deep, and no wider than two, terms are no greater than that. -/
theorem size_bound {s : List Int} (hs : s.all okNum = true) : ∀ {F : Fo} {n : Nat}, n ≤ 13 → walkF s F (13 - (n : Int)) = 0 → Fo.sizesR F ≤ Fo.len F * (2 ^ n - 1)
  | .nil, _, _, _ => by simp [Fo.sizesR]
  | .node _ _ x k r, n, hn, h => by
    obtain ⟨hT, hr⟩ := walkF_ok h
    obtain ⟨hd, ha, hk⟩ := walkT_ok hT
    have h2 := alone_len hs ha
    obtain ⟨m, rfl⟩ : ∃ m, n = m + 1 := ⟨n - 1, by omega⟩
    have e : (13 : Int) - ((m + 1 : Nat) : Int) + 1 = 13 - (m : Int) := by omega
    rw [e] at hk
    have i1 := size_bound hs (n := m) (by omega) hk
    have i2 := size_bound hs (n := m + 1) hn hr
    have p1 : 2 ^ (m + 1) = 2 * 2 ^ m := by rw [Nat.pow_succ]; omega
    have p0 : 0 < 2 ^ m := Nat.pow_pos (by decide)
    have i3 : Fo.len k * (2 ^ m - 1) ≤ 2 * (2 ^ m - 1) := Nat.mul_le_mul_right _ h2
    simp only [Fo.sizesR, Fo.len, Nat.add_mul, Nat.one_mul]
    omega

theorem narrow_ok {s : List Int} (hs : s.all okNum = true) : ∀ {F : Fo} {d : Int}, walkF s F d = 0 → Fo.narrow F
  | .nil, _, _ => trivial
  | .node _ _ x k r, d, h => by
    obtain ⟨hT, hr⟩ := walkF_ok h
    obtain ⟨_, ha, hk⟩ := walkT_ok hT
    have := alone_len hs ha
    exact ⟨by omega, narrow_ok hs hk, narrow_ok hs hr⟩

/-- What is known of a right term. -/
theorem right_of {s : List Int} (hs : s.all okNum = true) {x : Bool × Int} {k : Fo} (h : wrongF s x k = 0) : tszR k ≤ 12 ∧ tsz x k = tszR k ∧ Fo.len k ≤ 2 ∧ Fo.narrow k ∧ walkT s x k 1 = 0 := by
  unfold wrongF at h
  by_cases hw : walkT s x k 1 = 0
  · rw [if_neg (by simpa using hw)] at h
    obtain ⟨_, ha, hk⟩ := walkT_ok hw
    have h2 := alone_len hs ha
    have hb := size_bound hs (F := k) (n := 11) (by omega) (by simpa using hk)
    have hz : tszR k ≤ 4095 := by
      have : Fo.len k * (2 ^ 11 - 1) ≤ 2 * (2 ^ 11 - 1) := Nat.mul_le_mul_right _ h2
      unfold tszR
      omega
    rw [wrap64_small (by omega) (by omega)] at h
    by_cases h12 : 12 < ((tszR k : Nat) : Int)
    · rw [if_pos h12] at h; omega
    · exact ⟨by omega, tsz_same hw, h2, narrow_ok hs hk, hw⟩
  · rw [if_pos hw] at h; exact absurd h hw

theorem sameF_refl : ∀ F : Fo, sameF F F = true
  | .nil => rfl
  | .node _ _ x k r => by simp [sameF, sameF_refl k, sameF_refl r]
theorem sameT_refl (x : Bool × Int) (k : Fo) : sameT x k x k = true := by simp [sameT, sameF_refl]

theorem setF_list : ∀ {F : Fo} {i : Nat} {y : (Bool × Int) × Fo} (f : (Bool × Int) × Fo → (Bool × Int) × Fo), F.list[i]? = some y → (setF F i f).list[i]? = some (f y)
  | .nil, _, _, _, h => by simp [Fo.list] at h
  | .node _ _ x k r, 0, y, f, h => by
    simp only [Fo.list, List.getElem?_cons_zero, Option.some.injEq] at h
    subst h
    simp [setF, Fo.list]
  | .node _ _ x k r, i + 1, y, f, h => by
    simp only [setF, Fo.list, List.getElem?_cons_succ]
    exact setF_list f (by simpa [Fo.list] using h)
theorem setF_back : ∀ {F : Fo} {i : Nat} {y : (Bool × Int) × Fo} (f g : (Bool × Int) × Fo → (Bool × Int) × Fo), F.list[i]? = some y → g (f y) = y → setF (setF F i f) i g = F
  | .nil, _, _, _, _, h, _ => by simp [Fo.list] at h
  | .node _ _ x k r, 0, y, f, g, h, e => by
    simp only [Fo.list, List.getElem?_cons_zero, Option.some.injEq] at h
    subst h
    simp only [setF]
    have e' : g ((f (x, k)).1, (f (x, k)).2) = (x, k) := e
    rw [e']
  | .node _ _ x k r, i + 1, y, f, g, h, e => by
    simp only [setF]
    rw [setF_back f g (by simpa [Fo.list] using h) e]
theorem setF_sizes : ∀ {F : Fo} {i : Nat} {y : (Bool × Int) × Fo} (f : (Bool × Int) × Fo → (Bool × Int) × Fo), F.list[i]? = some y → Fo.sizes (setF F i f) + tsz y.1 y.2 = Fo.sizes F + tsz (f y).1 (f y).2
  | .nil, _, _, _, h => by simp [Fo.list] at h
  | .node _ _ x k r, 0, y, f, h => by
    simp only [Fo.list, List.getElem?_cons_zero, Option.some.injEq] at h
    subst h
    simp only [setF, Fo.sizes, tsz]
    omega
  | .node _ _ x k r, i + 1, y, f, h => by
    have := setF_sizes (F := r) (i := i) f (by simpa [Fo.list] using h)
    simp only [setF, Fo.sizes]
    omega
theorem setF_narrow : ∀ {F : Fo} {i : Nat} {y : (Bool × Int) × Fo} (f : (Bool × Int) × Fo → (Bool × Int) × Fo), F.list[i]? = some y → Fo.narrow F → Fo.len (f y).2 ≤ 1000 → Fo.narrow (f y).2 → Fo.narrow (setF F i f)
  | .nil, _, _, _, h, _, _, _ => by simp [Fo.list] at h
  | .node _ _ x k r, 0, y, f, h, hn, h1, h2 => by
    simp only [Fo.list, List.getElem?_cons_zero, Option.some.injEq] at h
    subst h
    exact ⟨h1, h2, hn.2.2⟩
  | .node _ _ x k r, i + 1, y, f, h, hn, h1, h2 => ⟨hn.1, hn.2.1, setF_narrow (F := r) f (by simpa [Fo.list] using h) hn.2.2 h1 h2⟩

theorem putT_cons {n : Int} {p : List Int} {x : Bool × Int} {k : Fo} {u : (Bool × Int) × Fo} (hx : x.1 = false) (h0 : 0 ≤ n) (h1 : n < (Fo.len k : Int)) : putT (n :: p) (x, k) u = (x, setF k n.toNat (fun s => putT p s u)) := by
  rw [putT, if_neg (by simp [hx]; omega)]

theorem at_put {u : (Bool × Int) × Fo} : ∀ {p : List Int} {x : Bool × Int} {k : Fo} {z : (Bool × Int) × Fo}, atT p x k = some z → atT p (putT p (x, k) u).1 (putT p (x, k) u).2 = some u
  | [], _, _, _, _ => rfl
  | n :: p, x, k, z, h => by
    obtain ⟨hx, h0, h1, y, hy, hat⟩ := atT_some h
    rw [putT_cons hx h0 h1]
    rw [atT_cons hx h0 (setF_list (fun s => putT p s u) hy) (by rw [setF_len]; exact h1)]
    exact at_put hat
theorem put_put {u : (Bool × Int) × Fo} : ∀ {p : List Int} {x : Bool × Int} {k : Fo} {z : (Bool × Int) × Fo}, atT p x k = some z → putT p (putT p (x, k) u) z = (x, k)
  | [], x, k, z, h => by cases h; rfl
  | n :: p, x, k, z, h => by
    obtain ⟨hx, h0, h1, y, hy, hat⟩ := atT_some h
    rw [putT_cons hx h0 h1, putT_cons hx h0 (by rw [setF_len]; exact h1)]
    rw [setF_back (fun s => putT p s u) (fun s => putT p s z) hy (put_put hat)]
theorem put_size {u : (Bool × Int) × Fo} : ∀ {p : List Int} {x : Bool × Int} {k : Fo} {z : (Bool × Int) × Fo}, atT p x k = some z → tsz (putT p (x, k) u).1 (putT p (x, k) u).2 + tsz z.1 z.2 = tsz x k + tsz u.1 u.2
  | [], x, k, z, h => by cases h; simp only [putT]; omega
  | n :: p, x, k, z, h => by
    obtain ⟨hx, h0, h1, ⟨y, m⟩, hy, hat⟩ := atT_some h
    rw [putT_cons hx h0 h1]
    have e1 := setF_sizes (fun s => putT p s u) hy
    have e2 := put_size (u := u) hat
    simp only [tsz, hx] at e1 e2 ⊢
    simp only [Bool.false_eq_true, if_false] at e1 e2 ⊢
    omega
theorem put_narrow {u : (Bool × Int) × Fo} (hu1 : Fo.len u.2 ≤ 1000) (hu2 : Fo.narrow u.2) : ∀ {p : List Int} {x : Bool × Int} {k : Fo} {z : (Bool × Int) × Fo}, atT p x k = some z → Fo.len k ≤ 1000 → Fo.narrow k → Fo.len (putT p (x, k) u).2 ≤ 1000 ∧ Fo.narrow (putT p (x, k) u).2
  | [], _, _, _, _, _, _ => ⟨hu1, hu2⟩
  | n :: p, x, k, z, h, hl, hn => by
    obtain ⟨hx, h0, h1, ⟨y, m⟩, hy, hat⟩ := atT_some h
    rw [putT_cons hx h0 h1]
    obtain ⟨q1, q2⟩ := narrow_at hn hy
    obtain ⟨r1, r2⟩ := put_narrow hu1 hu2 hat q1 q2
    exact ⟨by rw [setF_len]; exact hl, setF_narrow _ hy hn r1 r2⟩

/-- At a place that is told there is a symbol. -/
theorem places_at : ∀ {F : Fo} {q : List Int} {i : Nat} {p : List Int}, p ∈ placesF F q i → ∃ (n : Nat) (y : (Bool × Int) × Fo) (p' : List Int) (z : (Bool × Int) × Fo), p = q ++ ((i + n : Nat) : Int) :: p' ∧ F.list[n]? = some y ∧ atT p' y.1 y.2 = some z ∧ z.1.1 = false
  | .nil, _, _, _, h => by simp [placesF] at h
  | .node _ _ x k r, q, i, p, h => by
    simp only [placesF, List.mem_append] at h
    rcases h with h | h
    · cases hx : x.1 with
      | true => simp [hx] at h
      | false =>
        simp only [hx, Bool.false_eq_true, if_false, List.mem_cons] at h
        rcases h with rfl | h
        · exact ⟨0, (x, k), [], (x, k), by simp, by simp [Fo.list], rfl, hx⟩
        · obtain ⟨n, y, p', z, e1, e2, e3, e4⟩ := places_at (F := k) (q := q ++ [(i : Int)]) (i := 0) h
          refine ⟨0, (x, k), (n : Int) :: p', z, by simp [e1], by simp [Fo.list], ?_, e4⟩
          have hn : n < Fo.len k := by rw [← Fo.len_list]; exact (List.getElem?_eq_some_iff.1 e2).1
          rw [atT_cons hx (by omega) (by simpa using e2) (by simp only; omega)]
          exact e3
    · have h' : p ∈ placesF r q ((i + 1 : Nat) : Int) := by simpa using h
      obtain ⟨n, y, p', z, e1, e2, e3, e4⟩ := places_at h'
      exact ⟨n + 1, y, p', z, by rw [e1, show i + 1 + n = i + (n + 1) by omega], by simpa [Fo.list] using e2, e3, e4⟩
theorem place_sym {x : Bool × Int} {k : Fo} {p : List Int} (h : p ∈ placesT x k []) : ∃ z, atT p x k = some z ∧ z.1.1 = false := by
  unfold placesT at h
  cases hx : x.1 with
  | true => simp [hx] at h
  | false =>
    simp only [hx, Bool.false_eq_true, if_false, List.mem_cons] at h
    rcases h with rfl | h
    · exact ⟨(x, k), rfl, hx⟩
    · obtain ⟨n, y, p', z, e1, e2, e3, e4⟩ := places_at (i := 0) (by simpa using h)
      have hn : n < Fo.len k := by rw [← Fo.len_list]; exact (List.getElem?_eq_some_iff.1 e2).1
      refine ⟨z, ?_, e4⟩
      rw [e1, List.nil_append, Nat.zero_add, atT_cons hx (by omega) (by simpa using e2) (by omega)]
      exact e3

end Go.Proofs.YtegdfnfengnjlaaDoor
