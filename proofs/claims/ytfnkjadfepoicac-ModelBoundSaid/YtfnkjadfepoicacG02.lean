/- What is wrong with a term, and its size: Wrong, the project's and the document's. -/
import Derived.Test.YtfnkjadfepoicacG01
namespace Go.Proofs.Ytfnkjadfepoicac
open Go.RowKit Go.Deep Go.ChangeShapes Go.WideShapes

theorem walkT_ok {s : List Int} {x : Bool × Int} {k : Fo} {d : Int} (h : walkT s x k d = 0) : d ≤ 12 ∧ aloneF s x (Fo.len k) = 0 ∧ walkF s k (d + 1) = 0 := by
  unfold walkT at h
  by_cases hd : 12 < d
  · rw [if_pos hd] at h; omega
  · rw [if_neg hd] at h
    by_cases ha : aloneF s x (Fo.len k) = 0
    · rw [if_neg (by simpa using ha)] at h; exact ⟨by omega, ha, h⟩
    · rw [if_pos ha] at h; exact absurd h ha

theorem walkF_ok {s : List Int} {p q : Nat} {x : Bool × Int} {k r : Fo} {d : Int} (h : walkF s (.node p q x k r) d = 0) : walkT s x k d = 0 ∧ walkF s r d = 0 := by
  rw [walkF_node] at h
  by_cases e : walkT s x k d = 0
  · rw [if_neg (by simpa using e)] at h; exact ⟨e, h⟩
  · rw [if_pos e] at h; exact absurd h e

theorem alone_var {s : List Int} {n : Int} {k : Fo} (h : aloneF s (true, n) (Fo.len k) = 0) : k = .nil ∧ 0 ≤ n ∧ n ≤ 4 := by
  simp only [aloneF, if_true] at h
  by_cases h1 : n < 0 ∨ 4 < n
  · rw [if_pos h1] at h; omega
  · rw [if_neg h1] at h
    by_cases h2 : Fo.len k = 0
    · exact ⟨len_zero h2, by omega, by omega⟩
    · rw [if_neg h2] at h; omega
theorem alone_sym {s : List Int} {n : Int} {m : Nat} (h : aloneF s (false, n) m = 0) : 0 ≤ n ∧ n < s.length ∧ (m : Int) = s.getD n.toNat 0 := by
  simp only [aloneF, Bool.false_eq_true, if_false] at h
  by_cases h1 : n < 0 ∨ (s.length : Int) ≤ n
  · rw [if_pos h1] at h; omega
  · rw [if_neg h1] at h
    by_cases h2 : (m : Int) = s.getD n.toNat 0
    · exact ⟨by omega, by omega, h2⟩
    · rw [if_neg h2] at h; omega

theorem sizes_same {s : List Int} : ∀ {F : Fo} {d : Int}, walkF s F d = 0 → Fo.sizes F = Fo.sizesR F
  | .nil, _, _ => rfl
  | .node _ _ (v, n) k r, d, h => by
    obtain ⟨hT, hr⟩ := walkF_ok h
    obtain ⟨_, ha, hk⟩ := walkT_ok hT
    have e1 := sizes_same hk
    have e2 := sizes_same hr
    cases v
    · simp [Fo.sizes, Fo.sizesR, e1, e2]
    · obtain ⟨rfl, _, _⟩ := alone_var ha
      simp [Fo.sizes, Fo.sizesR, e2]
theorem tsz_same {s : List Int} {x : Bool × Int} {k : Fo} {d : Int} (h : walkT s x k d = 0) : tsz x k = tszR k := by
  obtain ⟨v, n⟩ := x
  obtain ⟨_, ha, hk⟩ := walkT_ok h
  cases v
  · simp [tsz, tszR, sizes_same hk]
  · obtain ⟨rfl, _, _⟩ := alone_var ha
    simp [tsz, tszR, Fo.sizesR]

def wrongF (s : List Int) (x : Bool × Int) (k : Fo) : Int := if walkT s x k 1 ≠ 0 then walkT s x k 1 else if 12 < wrap64 (tszR k : Nat) then 4 else 0

set_option maxHeartbeats 400000 in
theorem wrongR_any (s : List Int) (sv : Value) (x : Bool × Int) (k : Fo) (a : Value) (w : World) (hN : NIn w s sv) (hS : SIn w k a) :
    Calls Try.prog 18 #[sv, .agg #[.bool x.1, .int .i64 x.2, a]] w fun e w' => e = .returned (.int .i64 (wrongF s x k)) ∧ Below w.heap.size w w' := by
  have HN := hide hN
  have HS := hide hS
  obtain ⟨v, n⟩ := x
  obtain ⟨sa, sc, sb, so, rfl, -, -, -, -⟩ := hN
  obtain ⟨ad, c, b, o, rfl, -, -, -, -⟩ := hS
  go_enter Try.func18, Try.ntmps18
  go_wp2_with fail
  refine (walkR_any (v, n) k s _ _ _ _ (HN.out.alloc _) (HS.out.alloc _) (by omega) (by omega)).mono ?_
  rintro e w1 ⟨rfl, hb1⟩
  obtain ⟨q0, q1, q2, hB1, hlt⟩ := box_cells (by simpa using hb1)
  by_cases he : walkT s (v, n) k 1 = 0
  · have Hf : Hid (wrongF s (v, n) k = if 12 < wrap64 (tszR k : Nat) then 4 else 0) := by simp [Hid, wrongF, he]
    simp only [he]
    go_wp2_with fail
    refine (sizeR_any (v, n) k _ _ (HS.out.below hB1)).mono ?_
    rintro e w2 ⟨rfl, hb2⟩
    have hB2 := below_step hB1 hb2
    generalize wrap64 (tszR k : Nat) = z at *
    by_cases hz : 12 < z
    · rw [if_pos hz] at Hf
      go_wp2_with fail
      go_ret
      exact ⟨by rw [Hf.out]; rfl, hB2⟩
    · rw [if_neg hz] at Hf
      go_wp2_with fail
      go_ret
      exact ⟨by rw [Hf.out]; rfl, hB2⟩
  · have Hf : Hid (wrongF s (v, n) k = walkT s (v, n) k 1) := by simp [Hid, wrongF, he]
    have heb : (walkT s (v, n) k 1 != 0) = true := by simpa using he
    simp only at Hf heb ⊢
    generalize walkT s (v, n) k 1 = E at *
    clear he
    go_wp2_with fail
    go_ret
    exact ⟨by rw [Hf.out]; rfl, hB1⟩

end Go.Proofs.Ytfnkjadfepoicac

/- Whether two terms are the same: Same, the project's and the document's. -/
namespace Go.Proofs.Ytfnkjadfepoicac
open Go.RowKit Go.Deep Go.ChangeShapes Go.WideShapes

def sameF : Fo → Fo → Bool
  | .nil, .nil => true
  | .node _ _ x k r, .node _ _ y l q => (x.1 == y.1 && x.2 == y.2 && sameF k l) && sameF r q
  | .nil, .node _ _ _ _ _ => false
  | .node _ _ _ _ _, .nil => false
def sameT (x : Bool × Int) (k : Fo) (y : Bool × Int) (l : Fo) : Bool := x.1 == y.1 && x.2 == y.2 && sameF k l

theorem sameF_len : ∀ {k l : Fo}, sameF k l = true → Fo.len k = Fo.len l
  | .nil, .nil, _ => rfl
  | .node _ _ x k r, .node _ _ y l q, h => by
    simp only [sameF, Bool.and_eq_true] at h
    simp [Fo.len, sameF_len h.2]
  | .nil, .node _ _ _ _ _, h => by simp [sameF] at h
  | .node _ _ _ _ _, .nil, h => by simp [sameF] at h

/-- The first j terms are the same. -/
def eqOk (k l : Fo) (j : Nat) : Prop := ∀ i, i < j → ∀ y z, k.list[i]? = some y → l.list[i]? = some z → sameT y.1 y.2 z.1 z.2 = true

theorem sameF_end : ∀ {k l : Fo}, Fo.len k = Fo.len l → eqOk k l (Fo.len k) → sameF k l = true
  | .nil, .nil, _, _ => rfl
  | .node _ _ x k r, .node _ _ y l q, he, h => by
    have h0 := h 0 (by simp [Fo.len]) (x, k) (y, l) (by simp [Fo.list]) (by simp [Fo.list])
    have h1 := sameF_end (k := r) (l := q) (by simpa [Fo.len] using he) (fun i hi a b ha hb => h (i + 1) (by simp [Fo.len]; omega) a b (by simpa [Fo.list] using ha) (by simpa [Fo.list] using hb))
    simp only [sameF, Bool.and_eq_true]
    simp only [sameT, Bool.and_eq_true] at h0
    exact ⟨h0, h1⟩
  | .nil, .node _ _ _ _ _, h, _ => by simp [Fo.len] at h
  | .node _ _ _ _ _, .nil, h, _ => by simp [Fo.len] at h
theorem sameF_bad : ∀ {k l : Fo} {j : Nat} {y z : (Bool × Int) × Fo}, k.list[j]? = some y → l.list[j]? = some z → sameT y.1 y.2 z.1 z.2 = false → sameF k l = false
  | .nil, _, _, _, _, h, _, _ => by simp [Fo.list] at h
  | .node _ _ _ _ _, .nil, _, _, _, _, h, _ => by simp [Fo.list] at h
  | .node _ _ x k r, .node _ _ y l q, 0, _, _, h1, h2, h => by
    simp only [Fo.list, List.getElem?_cons_zero, Option.some.injEq] at h1 h2
    subst h1 h2
    simp only [sameT] at h
    simp only [sameF, h, Bool.false_and]
  | .node _ _ x k r, .node _ _ y l q, j + 1, _, _, h1, h2, h => by
    have := sameF_bad (k := r) (l := q) (j := j) (by simpa [Fo.list] using h1) (by simpa [Fo.list] using h2) h
    simp only [sameF, this, Bool.and_false]
theorem eqOk_succ {k l : Fo} {j : Nat} {y z : (Bool × Int) × Fo} (h : eqOk k l j) (hy : k.list[j]? = some y) (hz : l.list[j]? = some z) (h0 : sameT y.1 y.2 z.1 z.2 = true) : eqOk k l (j + 1) := by
  intro i hi a b ha hb
  by_cases e : i = j
  · subst e; rw [hy] at ha; rw [hz] at hb; cases ha; cases hb; exact h0
  · exact h i (by omega) a b ha hb

end Go.Proofs.Ytfnkjadfepoicac

/- A copy of a term in memory of the call's own: own. -/
namespace Go.Proofs.Ytfnkjadfepoicac
open Go.RowKit Go.Deep Go.ChangeShapes Go.WideShapes

/-- The forest lies at (b, o), may be written there, and all arguments' rows lie in blocks from lo to below hi, none in another's. -/
def WIn (w : World) : Fo → Nat → Nat → Nat → Nat → Prop
  | .nil, _, _, _, _ => True
  | .node _ _ x k r, b, o, lo, hi => w.cell? ⟨b, o, none⟩ = some (.bool x.1) ∧ w.cell? ⟨b, o + 1, none⟩ = some (.int .i64 x.2) ∧
      w.frozen? ⟨b, o, none⟩ = false ∧ w.frozen? ⟨b, o + 1, none⟩ = false ∧ w.frozen? ⟨b, o + 2, none⟩ = false ∧
      (∃ (m g : Nat) (a : Value), lo ≤ m ∧ m ≤ hi ∧ w.cell? ⟨b, o + 2, none⟩ = some a ∧
        ((k = .nil ∧ a = .slice none 0 0) ∨ (lo ≤ g ∧ g < m ∧ 0 < Fo.len k ∧ Fo.len k ≤ 1000 ∧ a = .slice (some ⟨g, 0, none⟩) (Fo.len k) (Fo.len k) ∧ WIn w k g 0 (g + 1) m)) ∧
        WIn w r b (o + 3) m hi)

/-- The arguments k are the call's own: nil, or a row of its own with all within it. -/
def OwnV (w : World) (lo hi : Nat) (k : Fo) (a : Value) : Prop :=
  (k = .nil ∧ a = .slice none 0 0) ∨ ∃ g, lo ≤ g ∧ g < hi ∧ 0 < Fo.len k ∧ Fo.len k ≤ 1000 ∧ a = .slice (some ⟨g, 0, none⟩) (Fo.len k) (Fo.len k) ∧ WIn w k g 0 (g + 1) hi

theorem WIn.toF {w : World} : ∀ {F : Fo} {b o lo hi : Nat}, WIn w F b o lo hi → FIn w F b o
  | .nil, _, _, _, _, _ => trivial
  | .node _ _ x k r, b, o, lo, hi, ⟨h0, h1, _, _, _, m, g, a, _, _, h2, h3, h4⟩ => by
    refine FIn.mk h0 h1 h2 ?_ h4.toF
    rcases h3 with ⟨rfl, rfl⟩ | ⟨_, _, _, hl, rfl, hk⟩
    · exact ⟨none, 0, 0, 0, rfl, fun h => by simp [Fo.len] at h, Nat.le_refl _, Nat.zero_le _, trivial⟩
    · exact ⟨_, _, g, 0, rfl, fun _ => rfl, Nat.le_refl _, by unfold maxLen; omega, hk.toF⟩
theorem OwnV.toS {w : World} {lo hi : Nat} {k : Fo} {a : Value} (h : OwnV w lo hi k a) : SIn w k a := by
  rcases h with ⟨rfl, rfl⟩ | ⟨g, _, _, _, hl, rfl, hk⟩
  · exact ⟨none, 0, 0, 0, rfl, fun h => by simp [Fo.len] at h, Nat.le_refl _, Nat.zero_le _, trivial⟩
  · exact ⟨_, _, g, 0, rfl, fun _ => rfl, Nat.le_refl _, by unfold maxLen; omega, hk.toF⟩

/-- The forest lies at (b, o); all arguments' rows lie in blocks of X. -/
def BIn (X : Nat → Prop) (w : World) : Fo → Nat → Nat → Prop
  | .nil, _, _ => True
  | .node _ _ x k r, b, o => w.cell? ⟨b, o, none⟩ = some (.bool x.1) ∧ w.cell? ⟨b, o + 1, none⟩ = some (.int .i64 x.2) ∧
      (∃ (a : Option Addr) (c b' o' : Nat), w.cell? ⟨b, o + 2, none⟩ = some (.slice a (Fo.len k) c) ∧ (0 < Fo.len k → a = some ⟨b', o', none⟩ ∧ X b') ∧ Fo.len k ≤ c ∧ c ≤ maxLen ∧ BIn X w k b' o') ∧ BIn X w r b (o + 3)
def SB (X : Nat → Prop) (w : World) (k : Fo) (v : Value) : Prop :=
  ∃ (a : Option Addr) (c b o : Nat), v = .slice a (Fo.len k) c ∧ (0 < Fo.len k → a = some ⟨b, o, none⟩ ∧ X b) ∧ Fo.len k ≤ c ∧ c ≤ maxLen ∧ BIn X w k b o

theorem BIn.toF {X : Nat → Prop} {w : World} : ∀ {F : Fo} {b o : Nat}, BIn X w F b o → FIn w F b o
  | .nil, _, _, _ => trivial
  | .node _ _ _ _ _, _, _, ⟨h0, h1, ⟨a, c, b', o', h2, h3, h4, h5, h6⟩, h7⟩ => ⟨h0, h1, ⟨a, c, b', o', h2, fun h => (h3 h).1, h4, h5, h6.toF⟩, h7.toF⟩
theorem SB.toS {X : Nat → Prop} {w : World} {k : Fo} {v : Value} (h : SB X w k v) : SIn w k v := by
  obtain ⟨a, c, b, o, h1, h2, h3, h4, h5⟩ := h
  exact ⟨a, c, b, o, h1, fun h => (h2 h).1, h3, h4, h5.toF⟩
theorem SB.nil (X : Nat → Prop) (w : World) : SB X w .nil (.slice none 0 0) := ⟨none, 0, 0, 0, rfl, fun h => by simp [Fo.len] at h, Nat.le_refl _, Nat.zero_le _, trivial⟩

theorem BIn.frame {X Y : Nat → Prop} {w w' : World} (hXY : ∀ q, X q → Y q) (hr : ∀ q i, X q → w'.cell? ⟨q, i, none⟩ = w.cell? ⟨q, i, none⟩) : ∀ {F : Fo} {b o : Nat}, BIn X w F b o → (0 < Fo.len F → X b) → BIn Y w' F b o
  | .nil, _, _, _, _ => trivial
  | .node _ _ x k r, b, o, ⟨h0, h1, ⟨a, c, b', o', h2, h3, h4, h5, h6⟩, h7⟩, hb => by
    have hX := hb (by simp [Fo.len])
    exact ⟨(hr b o hX).trans h0, (hr b _ hX).trans h1, ⟨a, c, b', o', (hr b _ hX).trans h2, fun h => ⟨(h3 h).1, hXY _ (h3 h).2⟩, h4, h5, BIn.frame hXY hr h6 (fun h => (h3 h).2)⟩, BIn.frame hXY hr h7 (fun _ => hX)⟩
theorem SB.frame {X Y : Nat → Prop} {w w' : World} {k : Fo} {v : Value} (h : SB X w k v) (hXY : ∀ q, X q → Y q) (hr : ∀ q i, X q → w'.cell? ⟨q, i, none⟩ = w.cell? ⟨q, i, none⟩) : SB Y w' k v := by
  obtain ⟨a, c, b, o, h1, h2, h3, h4, h5⟩ := h
  exact ⟨a, c, b, o, h1, fun h => ⟨(h2 h).1, hXY _ (h2 h).2⟩, h3, h4, BIn.frame hXY hr h5 (fun h => (h2 h).2)⟩

abbrev New (w w' : World) : Nat → Prop := fun q => w.heap.size ≤ q ∧ q < w'.heap.size

theorem BIn.mk {X : Nat → Prop} {w : World} {p q : Nat} {x : Bool × Int} {k r : Fo} {b o : Nat} {v : Value} (h0 : w.cell? ⟨b, o, none⟩ = some (.bool x.1)) (h1 : w.cell? ⟨b, o + 1, none⟩ = some (.int .i64 x.2))
    (h2 : w.cell? ⟨b, o + 2, none⟩ = some v) (h3 : SB X w k v) (h4 : BIn X w r b (o + 3)) : BIn X w (.node p q x k r) b o := by
  obtain ⟨a, c, b', o', rfl, h5, h6, h7, h8⟩ := h3
  exact ⟨h0, h1, ⟨a, c, b', o', h2, h5, h6, h7, h8⟩, h4⟩
theorem WIn.toB {w : World} {X : Nat → Prop} : ∀ {F : Fo} {b o lo hi : Nat}, (∀ q, lo ≤ q → q < hi → X q) → WIn w F b o lo hi → BIn X w F b o
  | .nil, _, _, _, _, _, _ => trivial
  | .node _ _ x k r, b, o, lo, hi, hX, ⟨h0, h1, _, _, _, m, g, a, hm1, hm2, h2, h3, h4⟩ => by
    refine BIn.mk h0 h1 h2 ?_ (WIn.toB (fun q q1 q2 => hX q (by omega) q2) h4)
    rcases h3 with ⟨rfl, rfl⟩ | ⟨e1, e2, _, hl, rfl, hk⟩
    · exact SB.nil X w
    · exact ⟨_, _, g, 0, rfl, fun _ => ⟨rfl, hX g (by omega) (by omega)⟩, Nat.le_refl _, by unfold maxLen; omega, WIn.toB (fun q q1 q2 => hX q (by omega) (by omega)) hk⟩
theorem OwnV.toB {w : World} {X : Nat → Prop} {lo hi : Nat} {k : Fo} {a : Value} (hX : ∀ q, lo ≤ q → q < hi → X q) (h : OwnV w lo hi k a) : SB X w k a := by
  rcases h with ⟨rfl, rfl⟩ | ⟨g, e1, e2, _, hl, rfl, hk⟩
  · exact SB.nil X w
  · exact ⟨_, _, g, 0, rfl, fun _ => ⟨rfl, hX g e1 e2⟩, Nat.le_refl _, by unfold maxLen; omega, WIn.toB (fun q q1 q2 => hX q (by omega) q2) hk⟩

/-- Where the cells are the same it lies there still. -/
theorem WIn.frame {w w' : World} : ∀ {F : Fo} {b o lo hi : Nat}, WIn w F b o lo hi →
    (∀ i, o ≤ i → i < o + 3 * Fo.len F → w'.cell? ⟨b, i, none⟩ = w.cell? ⟨b, i, none⟩ ∧ w'.frozen? ⟨b, i, none⟩ = w.frozen? ⟨b, i, none⟩) →
    (∀ q i, lo ≤ q → q < hi → w'.cell? ⟨q, i, none⟩ = w.cell? ⟨q, i, none⟩ ∧ w'.frozen? ⟨q, i, none⟩ = w.frozen? ⟨q, i, none⟩) → WIn w' F b o lo hi
  | .nil, _, _, _, _, _, _, _ => trivial
  | .node _ _ x k r, b, o, lo, hi, ⟨h0, h1, f0, f1, f2, m, g, a, hm1, hm2, h2, h3, h4⟩, hc, hr => by
    have hl : Fo.len (.node 0 0 x k r) = Fo.len r + 1 := rfl
    have c0 := hc o (by omega) (by simp only [Fo.len]; omega)
    have c1 := hc (o + 1) (by omega) (by simp only [Fo.len]; omega)
    have c2 := hc (o + 2) (by omega) (by simp only [Fo.len]; omega)
    refine ⟨c0.1.trans h0, c1.1.trans h1, c0.2.trans f0, c1.2.trans f1, c2.2.trans f2, m, g, a, hm1, hm2, c2.1.trans h2, ?_, ?_⟩
    · rcases h3 with h3 | ⟨e1, e2, e3, e4, e5, hk⟩
      · exact .inl h3
      · exact .inr ⟨e1, e2, e3, e4, e5, hk.frame (fun i _ _ => hr g i (by omega) (by omega)) (fun q i q1 q2 => hr q i (by omega) (by omega))⟩
    · exact h4.frame (fun i i1 i2 => hc i (by omega) (by simp only [Fo.len]; omega)) (fun q i q1 q2 => hr q i (by omega) q2)

theorem WIn.mono {w : World} : ∀ {F : Fo} {b o lo hi lo' hi' : Nat}, WIn w F b o lo hi → lo' ≤ lo → hi ≤ hi' → lo ≤ hi → WIn w F b o lo' hi'
  | .nil, _, _, _, _, _, _, _, _, _, _ => trivial
  | .node _ _ x k r, b, o, lo, hi, lo', hi', ⟨h0, h1, f0, f1, f2, m, g, a, hm1, hm2, h2, h3, h4⟩, e1, e2, e3 => by
    refine ⟨h0, h1, f0, f1, f2, m, g, a, by omega, by omega, h2, ?_, h4.mono (Nat.le_refl _) e2 hm2⟩
    rcases h3 with h3 | ⟨q1, q2, q3, q4, q5, hk⟩
    · exact .inl h3
    · exact .inr ⟨by omega, q2, q3, q4, q5, hk⟩

theorem OwnV.frame {w w' : World} {lo hi : Nat} {k : Fo} {a : Value} (h : OwnV w lo hi k a)
    (hr : ∀ q i, lo ≤ q → q < hi → w'.cell? ⟨q, i, none⟩ = w.cell? ⟨q, i, none⟩ ∧ w'.frozen? ⟨q, i, none⟩ = w.frozen? ⟨q, i, none⟩) : OwnV w' lo hi k a := by
  rcases h with h | ⟨g, e1, e2, e3, e4, e5, hk⟩
  · exact .inl h
  · exact .inr ⟨g, e1, e2, e3, e4, e5, hk.frame (fun i _ _ => hr g i e1 e2) (fun q i q1 q2 => hr q i (by omega) q2)⟩
theorem OwnV.mono {w : World} {lo hi lo' hi' : Nat} {k : Fo} {a : Value} (h : OwnV w lo hi k a) (h1 : lo' ≤ lo) (h2 : hi ≤ hi') : OwnV w lo' hi' k a := by
  rcases h with h | ⟨g, e1, e2, e3, e4, e5, hk⟩
  · exact .inl h
  · exact .inr ⟨g, by omega, by omega, e3, e4, e5, hk.mono (Nat.le_refl _) h2 (by omega)⟩

/-- The first j terms. -/
def Fo.take : Nat → Fo → Fo
  | 0, _ => .nil
  | _ + 1, .nil => .nil
  | j + 1, .node p q x k r => .node p q x k (Fo.take j r)

theorem take_len : ∀ (j : Nat) (k : Fo), j ≤ Fo.len k → Fo.len (Fo.take j k) = j
  | 0, _, _ => rfl
  | j + 1, .nil, h => by simp [Fo.len] at h
  | j + 1, .node _ _ _ _ r, h => by simp only [Fo.take, Fo.len]; rw [take_len j r (by simpa [Fo.len] using h)]
theorem take_all : ∀ (k : Fo), Fo.take (Fo.len k) k = k
  | .nil => rfl
  | .node _ _ _ _ r => by simp only [Fo.len, Fo.take]; rw [take_all r]

/-- One term more. -/
theorem WIn.snoc {w : World} : ∀ {j : Nat} {F : Fo} {x : Bool × Int} {k : Fo} {b o lo mid hi : Nat} {a : Value}, F.list[j]? = some (x, k) → WIn w (Fo.take j F) b o lo mid → lo ≤ mid → mid ≤ hi →
    w.cell? ⟨b, o + 3 * j, none⟩ = some (.bool x.1) → w.cell? ⟨b, o + 3 * j + 1, none⟩ = some (.int .i64 x.2) → w.cell? ⟨b, o + 3 * j + 2, none⟩ = some a →
    w.frozen? ⟨b, o + 3 * j, none⟩ = false → w.frozen? ⟨b, o + 3 * j + 1, none⟩ = false → w.frozen? ⟨b, o + 3 * j + 2, none⟩ = false → OwnV w mid hi k a → WIn w (Fo.take (j + 1) F) b o lo hi
  | _, .nil, _, _, _, _, _, _, _, _, h, _, _, _, _, _, _, _, _, _, _ => by simp [Fo.list] at h
  | 0, .node _ _ y l r, x, k, b, o, lo, mid, hi, a, h, _, m1, m2, c0, c1, c2, f0, f1, f2, hO => by
    simp only [Fo.list, List.getElem?_cons_zero, Option.some.injEq, Prod.mk.injEq] at h
    obtain ⟨rfl, rfl⟩ := h
    rcases hO with ⟨rfl, rfl⟩ | ⟨g, e1, e2, e3, e4, rfl, hk⟩
    · exact ⟨c0, c1, f0, f1, f2, hi, 0, _, by omega, by omega, c2, .inl ⟨rfl, rfl⟩, trivial⟩
    · exact ⟨c0, c1, f0, f1, f2, hi, g, _, by omega, by omega, c2, .inr ⟨by omega, by omega, e3, e4, rfl, hk⟩, trivial⟩
  | j + 1, .node _ _ y l r, x, k, b, o, lo, mid, hi, a, h, ⟨h0, h1, g0, g1, g2, m, g, a', hm1, hm2, h2, h3, h4⟩, m1, m2, c0, c1, c2, f0, f1, f2, hO => by
    refine ⟨h0, h1, g0, g1, g2, m, g, a', hm1, by omega, h2, h3, ?_⟩
    have e : o + 3 + 3 * j = o + 3 * (j + 1) := by omega
    exact WIn.snoc (j := j) (F := r) (by simpa [Fo.list] using h) h4 hm2 m2 (by rw [e]; exact c0) (by rw [e]; exact c1) (by rw [e]; exact c2) (by rw [e]; exact f0) (by rw [e]; exact f1) (by rw [e]; exact f2) hO

/-- No term has more than a thousand arguments. -/
def Fo.narrow : Fo → Prop
  | .nil => True
  | .node _ _ _ k r => Fo.len k ≤ 1000 ∧ Fo.narrow k ∧ Fo.narrow r

theorem narrow_at : ∀ {F : Fo} {j : Nat} {x : Bool × Int} {k : Fo}, Fo.narrow F → F.list[j]? = some (x, k) → Fo.len k ≤ 1000 ∧ Fo.narrow k
  | .nil, _, _, _, _, h => by simp [Fo.list] at h
  | .node _ _ y l r, 0, x, k, hn, h => by
    simp only [Fo.list, List.getElem?_cons_zero, Option.some.injEq, Prod.mk.injEq] at h
    obtain ⟨rfl, rfl⟩ := h
    exact ⟨hn.1, hn.2.1⟩
  | .node _ _ y l r, j + 1, x, k, hn, h => narrow_at (F := r) hn.2.2 (by simpa [Fo.list] using h)

end Go.Proofs.Ytfnkjadfepoicac

/- A copy of a term in memory of the call's own: what own answers. -/
namespace Go.Proofs.Ytfnkjadfepoicac
open Go.RowKit Go.Deep Go.ChangeShapes Go.WideShapes

theorem Try.info35 : (Try.prog.info? 35).map (fun i => (i.zero, i.size, i.bytes)) = some (some (.agg #[.bool false, .int .i64 0, .slice none 0 0]), 3, 40) := by kernel_rfl

/-- n cells are there, and may be written. -/
def There (w : World) (g n : Nat) : Prop := ∀ i, i < n → (∃ v, w.cell? ⟨g, i, none⟩ = some v) ∧ w.frozen? ⟨g, i, none⟩ = false

theorem set_other {w : World} {a b : Addr} {v : Value} (h : a ≠ b) : (w.setCell a v).cell? b = w.cell? b := by apply World.cell?_setCell_other; exact h
theorem set_same {w : World} {a : Addr} {u v : Value} (h : w.cell? a = some u) : (w.setCell a v).cell? a = some v := by
  apply World.cell?_setCell_same; exact h

theorem frozen_new (w : World) (c : Array Value) (t : TypeId) (i : Nat) : (w.alloc (.cells c t)).frozen? ⟨w.heap.size, i, none⟩ = false := by simp

/-- Three cells set, one after the other. -/
def set3 (w : World) (b o : Nat) (x y z : Value) : World := ((w.setCell ⟨b, o, none⟩ x).setCell ⟨b, o + 1, none⟩ y).setCell ⟨b, o + 2, none⟩ z

theorem set3_other {w : World} {b o : Nat} {x y z : Value} {q i : Nat} (h : q ≠ b ∨ i < o ∨ o + 3 ≤ i) : (set3 w b o x y z).cell? ⟨q, i, none⟩ = w.cell? ⟨q, i, none⟩ := by
  unfold set3
  rw [set_other (by intro e; simp only [Addr.mk.injEq] at e; omega), set_other (by intro e; simp only [Addr.mk.injEq] at e; omega), set_other (by intro e; simp only [Addr.mk.injEq] at e; omega)]
theorem set3_frozen {w : World} {b o : Nat} {x y z : Value} {q : Addr} : (set3 w b o x y z).frozen? q = w.frozen? q := by simp [set3]
theorem set3_size {w : World} {b o : Nat} {x y z : Value} : (set3 w b o x y z).heap.size = w.heap.size := by simp [set3, World.setCell]
theorem set3_cells {w : World} {b o : Nat} {x y z u0 u1 u2 : Value} (h0 : w.cell? ⟨b, o, none⟩ = some u0) (h1 : w.cell? ⟨b, o + 1, none⟩ = some u1) (h2 : w.cell? ⟨b, o + 2, none⟩ = some u2) :
    (set3 w b o x y z).cell? ⟨b, o, none⟩ = some x ∧ (set3 w b o x y z).cell? ⟨b, o + 1, none⟩ = some y ∧ (set3 w b o x y z).cell? ⟨b, o + 2, none⟩ = some z := by
  have e1 : (⟨b, o, none⟩ : Addr) ≠ ⟨b, o + 1, none⟩ := by intro e; simp only [Addr.mk.injEq] at e; omega
  have e2 : (⟨b, o, none⟩ : Addr) ≠ ⟨b, o + 2, none⟩ := by intro e; simp only [Addr.mk.injEq] at e; omega
  have e3 : (⟨b, o + 1, none⟩ : Addr) ≠ ⟨b, o + 2, none⟩ := by intro e; simp only [Addr.mk.injEq] at e; omega
  unfold set3
  refine ⟨?_, ?_, ?_⟩
  · rw [set_other e2.symm, set_other e1.symm, set_same h0]
  · rw [set_other e3.symm]
    exact set_same (by rw [set_other e1]; exact h1)
  · exact set_same (by rw [set_other e3, set_other e2]; exact h2)
theorem set3_below {B : Nat} {w w1 : World} {b o : Nat} {x y z : Value} (h : Below B w w1) (hb : B ≤ b) : Below B w (set3 w1 b o x y z) := ((h.setCell hb _).setCell hb _).setCell hb _

/-- So much of the copy is made: the first j terms lie in the row. -/
def OwnRel (w W2 : World) (k : Fo) (j : Nat) (wr : World) : Prop :=
  Below (w.heap.size + 2) W2 wr ∧ There wr (w.heap.size + 2) (Fo.len k * 3) ∧ WIn wr (Fo.take j k) (w.heap.size + 2) 0 (w.heap.size + 3) wr.heap.size ∧ w.heap.size + 3 ≤ wr.heap.size

theorem own_step {w W2 wr w2 : World} {k : Fo} {j : Nat} {yv : Bool} {yn : Int} {yk : Fo} {ob : Obj} {a : Value} (h : OwnRel w W2 k j wr) (hj : j < Fo.len k) (hy : k.list[j]? = some ((yv, yn), yk))
    (hb : Below (wr.heap.size + 1) (wr.alloc ob) w2) (hO : OwnV w2 (wr.heap.size + 1) w2.heap.size yk a) :
    OwnRel w W2 k (j + 1) (set3 w2 (w.heap.size + 2) (j * 3) (.bool yv) (.int .i64 yn) a) := by
  obtain ⟨hB, hT, hW, hs⟩ := h
  have hsz : wr.heap.size + 1 ≤ w2.heap.size := by have := hb.size; simpa using this
  have keep : ∀ q i, q < wr.heap.size → w2.cell? ⟨q, i, none⟩ = wr.cell? ⟨q, i, none⟩ ∧ w2.frozen? ⟨q, i, none⟩ = wr.frozen? ⟨q, i, none⟩ := fun q i hq => by
    rw [hb.cell (by show q < _; omega), hb.frozen (by show q < _; omega)]
    exact ⟨World.cell?_alloc_lt _ _ _ hq, (below_alloc wr ob).frozen (p := ⟨q, i, none⟩) hq⟩
  have hT2 : There w2 (w.heap.size + 2) (Fo.len k * 3) := fun i hi => by
    obtain ⟨⟨v, hv⟩, hf⟩ := hT i hi
    have := keep (w.heap.size + 2) i (by omega)
    exact ⟨⟨v, this.1.trans hv⟩, this.2.trans hf⟩
  obtain ⟨⟨u0, e0⟩, f0⟩ := hT2 (j * 3) (by omega)
  obtain ⟨⟨u1, e1⟩, f1⟩ := hT2 (j * 3 + 1) (by omega)
  obtain ⟨⟨u2, e2⟩, f2⟩ := hT2 (j * 3 + 2) (by omega)
  obtain ⟨g0, g1, g2⟩ := set3_cells (x := .bool yv) (y := .int .i64 yn) (z := a) e0 e1 e2
  refine ⟨set3_below (hB.trans ((below_box (hb.mono (by simp))).mono (by omega))) (Nat.le_refl _), ?_, ?_, by rw [set3_size]; omega⟩
  · intro i hi
    obtain ⟨⟨v, hv⟩, hf⟩ := hT2 i hi
    refine ⟨?_, by rw [set3_frozen]; exact hf⟩
    by_cases hc : i < j * 3 ∨ j * 3 + 3 ≤ i
    · exact ⟨v, by rw [set3_other (.inr hc)]; exact hv⟩
    · have : i = j * 3 ∨ i = j * 3 + 1 ∨ i = j * 3 + 2 := by omega
      rcases this with rfl | rfl | rfl
      · exact ⟨_, g0⟩
      · exact ⟨_, g1⟩
      · exact ⟨_, g2⟩
  · rw [set3_size]
    have e : j * 3 = 0 + 3 * j := by omega
    refine WIn.snoc (mid := wr.heap.size) (a := a) hy (hW.frame ?_ ?_) hs (by omega) (by rw [← e]; exact g0) (by rw [← e]; exact g1) (by rw [← e]; exact g2) (by rw [set3_frozen, ← e]; exact f0) (by rw [set3_frozen, ← e]; exact f1) (by rw [set3_frozen, ← e]; exact f2) ?_
    · intro i _ hi
      rw [take_len j k (by omega)] at hi
      rw [set3_other (.inr (.inl (by omega))), set3_frozen]
      exact keep _ _ (by omega)
    · intro q i q1 q2
      rw [set3_other (.inl (by omega)), set3_frozen]
      exact keep _ _ q2
    · refine (hO.mono (by omega) (Nat.le_refl _)).frame ?_
      intro q i q1 q2
      rw [set3_other (.inl (by omega)), set3_frozen]
      exact ⟨rfl, rfl⟩

theorem own_start (w W2 : World) (k : Fo) (z : Array Value) (h2 : W2.heap.size = w.heap.size + 2) : OwnRel w W2 k 0 (W2.alloc (.cells (madeCells z (Fo.len k * 3)) 35)) := by
  refine ⟨(Below.refl _ _).alloc (by omega) _, fun i hi => ⟨?_, ?_⟩, trivial, by simp; omega⟩
  · rw [← h2, World.cell?_alloc_new]
    exact ⟨_, Array.getElem?_eq_getElem (by rw [size_madeCells]; exact hi)⟩
  · rw [← h2]; exact frozen_new _ _ _ _

/-- The copy is made; what is written then is no part of it. -/
theorem own_end {w W2 wr w' : World} {k : Fo} (h : OwnRel w W2 k (Fo.len k) wr) (h0 : 0 < Fo.len k) (h1 : Fo.len k ≤ 1000) (hs : w'.heap.size = wr.heap.size)
    (hc : ∀ q i, w.heap.size + 2 ≤ q → w'.cell? ⟨q, i, none⟩ = wr.cell? ⟨q, i, none⟩ ∧ w'.frozen? ⟨q, i, none⟩ = wr.frozen? ⟨q, i, none⟩) :
    OwnV w' w.heap.size w'.heap.size k (.slice (some ⟨w.heap.size + 2, 0, none⟩) (Fo.len k) (Fo.len k)) := by
  obtain ⟨_, _, hW, hsz⟩ := h
  rw [take_all] at hW
  rw [hs]
  exact .inr ⟨w.heap.size + 2, by omega, by omega, h0, h1, rfl, hW.frame (fun i _ _ => hc _ _ (by omega)) (fun q i q1 q2 => hc _ _ (by omega))⟩

end Go.Proofs.Ytfnkjadfepoicac
