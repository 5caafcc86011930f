/- Whether two terms are the same: Same, the project's and the document's. -/
import Derived.Test.YtegdfnfengnjlaaDoorWrong
namespace Go.Proofs.YtegdfnfengnjlaaDoor
open Go.RowKit Go.Deep Go.ChangeShapes Go.WideShapes

def sameF : Fo → Fo → Bool
  | .nil, .nil => true
  | .node _ _ x k r, .node _ _ y l q => (x.1 == y.1 && x.2 == y.2 && sameF k l) && sameF r q
  | .nil, .node _ _ _ _ _ => false
  | .node _ _ _ _ _, .nil => false
def sameT (x : Bool × Int) (k : Fo) (y : Bool × Int) (l : Fo) : Bool := x.1 == y.1 && x.2 == y.2 && sameF k l

theorem sameF_len : ∀ {k l : Fo}, sameF k l = true → Fo.len k = Fo.len l
  | .nil, .nil, _ => rfl
  | .node _ _ x k r, .node _ _ y l q, h => by
    simp only [sameF, Bool.and_eq_true] at h
    simp [Fo.len, sameF_len h.2]
  | .nil, .node _ _ _ _ _, h => by simp [sameF] at h
  | .node _ _ _ _ _, .nil, h => by simp [sameF] at h

/-- The first j terms are the same. -/
def eqOk (k l : Fo) (j : Nat) : Prop := ∀ i, i < j → ∀ y z, k.list[i]? = some y → l.list[i]? = some z → sameT y.1 y.2 z.1 z.2 = true

theorem sameF_end : ∀ {k l : Fo}, Fo.len k = Fo.len l → eqOk k l (Fo.len k) → sameF k l = true
  | .nil, .nil, _, _ => rfl
  | .node _ _ x k r, .node _ _ y l q, he, h => by
    have h0 := h 0 (by simp [Fo.len]) (x, k) (y, l) (by simp [Fo.list]) (by simp [Fo.list])
    have h1 := sameF_end (k := r) (l := q) (by simpa [Fo.len] using he) (fun i hi a b ha hb => h (i + 1) (by simp [Fo.len]; omega) a b (by simpa [Fo.list] using ha) (by simpa [Fo.list] using hb))
    simp only [sameF, Bool.and_eq_true]
    simp only [sameT, Bool.and_eq_true] at h0
    exact ⟨h0, h1⟩
  | .nil, .node _ _ _ _ _, h, _ => by simp [Fo.len] at h
  | .node _ _ _ _ _, .nil, h, _ => by simp [Fo.len] at h
theorem sameF_bad : ∀ {k l : Fo} {j : Nat} {y z : (Bool × Int) × Fo}, k.list[j]? = some y → l.list[j]? = some z → sameT y.1 y.2 z.1 z.2 = false → sameF k l = false
  | .nil, _, _, _, _, h, _, _ => by simp [Fo.list] at h
  | .node _ _ _ _ _, .nil, _, _, _, _, h, _ => by simp [Fo.list] at h
  | .node _ _ x k r, .node _ _ y l q, 0, _, _, h1, h2, h => by
    simp only [Fo.list, List.getElem?_cons_zero, Option.some.injEq] at h1 h2
    subst h1 h2
    simp only [sameT] at h
    simp only [sameF, h, Bool.false_and]
  | .node _ _ x k r, .node _ _ y l q, j + 1, _, _, h1, h2, h => by
    have := sameF_bad (k := r) (l := q) (j := j) (by simpa [Fo.list] using h1) (by simpa [Fo.list] using h2) h
    simp only [sameF, this, Bool.and_false]
theorem eqOk_succ {k l : Fo} {j : Nat} {y z : (Bool × Int) × Fo} (h : eqOk k l j) (hy : k.list[j]? = some y) (hz : l.list[j]? = some z) (h0 : sameT y.1 y.2 z.1 z.2 = true) : eqOk k l (j + 1) := by
  intro i hi a b ha hb
  by_cases e : i = j
  · subst e; rw [hy] at ha; rw [hz] at hb; cases ha; cases hb; exact h0
  · exact h i (by omega) a b ha hb

def SameSaid (x : Bool × Int) (k : Fo) : Prop := ∀ (y : Bool × Int) (l : Fo) (a c : Value) (w : World), SIn w k a → SIn w l c →
    Calls Tryd.prog 10 #[.agg #[.bool x.1, .int .i64 x.2, a], .agg #[.bool y.1, .int .i64 y.2, c]] w fun e w' => e = .returned (.bool (sameT x k y l)) ∧ Below w.heap.size w w'

set_option maxHeartbeats 1000000 in
theorem equalFunc_of (k : Fo) (ih : ∀ y ∈ k.list, SameSaid y.1 y.2) (l : Fo) (a c : Value) (w : World) (hS1 : SIn w k a) (hS2 : SIn w l c) :
    Calls Tryd.prog 32 #[a, c, .func (.func 10) #[] #[]] w fun e w' => e = .returned (.bool (sameF k l)) ∧ Below w.heap.size w w' := by
  have HI := hide ih
  clear ih
  obtain ⟨a1, c1, b1, o1, rfl, had1, hlc1, hcm1, hF1⟩ := hS1
  obtain ⟨a2, c2, b2, o2, rfl, had2, hlc2, hcm2, hF2⟩ := hS2
  unfold maxLen at hcm1 hcm2
  have Hl1 := hide (Fo.len_list k)
  have Hl2 := hide (Fo.len_list l)
  have HF1 := hide hF1
  have HF2 := hide hF2
  clear hF1 hF2
  by_cases hll : Fo.len k = Fo.len l
  · have hllb : ((Fo.len k : Int) != (Fo.len l : Int)) = false := by simp [hll]
    have Hll := hide hll
    have hll1 : Fo.len l ≤ Fo.len k := by omega
    have hll2 : Fo.len k ≤ Fo.len l := by omega
    clear hll
    go_enter Tryd.func32, Tryd.ntmps32
    go_wp2_with fail
    go_loopw [17] (fun i wr => ∃ j : Nat, j ≤ Fo.len k ∧ i = .int .i64 j ∧ eqOk k l j ∧ Below w.heap.size w wr) (fun i _ => Fo.len k - (intOf i).toNat)
    case atStart => exact ⟨0, Nat.zero_le _, rfl, fun i hi => by omega, Below.refl _ _⟩
    case round =>
      obtain ⟨j, hj, rfl, hok, hBr⟩ := hrel
      have Hok := hide hok
      clear hok
      by_cases hlt : j < Fo.len k
      · have hlt' : (j : Int) < (Fo.len k : Int) := by omega
        have hlt2 : (j : Int) < (Fo.len l : Int) := by omega
        obtain ⟨⟨⟨yv, yn⟩, yk⟩, hy⟩ : ∃ y, k.list[j]? = some y := ⟨k.list[j]'(by rw [Hl1.out]; exact hlt), by simp⟩
        obtain ⟨⟨⟨zv, zn⟩, zk⟩, hz⟩ : ∃ y, l.list[j]? = some y := ⟨l.list[j]'(by rw [Hl2.out]; omega), by simp⟩
        obtain ⟨p0, p1, yv', p2, hSy⟩ := (HF1.out.below hBr).at hy
        obtain ⟨q0, q1, zv', q2, hSz⟩ := (HF2.out.below hBr).at hz
        have ha1 : a1 = some ⟨b1, o1, none⟩ := had1 (by omega)
        have ha2 : a2 = some ⟨b2, o2, none⟩ := had2 (by omega)
        subst ha1 ha2
        have HSy := hide hSy
        have HSz := hide hSz
        obtain ⟨ya, yc, yb, yo, rfl, -, -, -, -⟩ := hSy
        obtain ⟨za, zc, zb, zo, rfl, -, -, -, -⟩ := hSz
        have Hy := hide hy
        have Hz := hide hz
        have hbl2 : b2 < wr.heap.size := World.block_lt_of_cell? _ _ q0
        clear hy hz had1 had2
        go_wp2_with fail
        refine (HI.out ((yv, yn), yk) (List.mem_of_getElem? Hy.out) (zv, zn) zk _ _ _ ((HSy.out.alloc _).alloc _) ((HSz.out.alloc _).alloc _)).mono ?_
        rintro e w2 ⟨rfl, hb2⟩
        have hB2 := below_step hBr (below_box (below_box hb2))
        simp only
        cases he : sameT (yv, yn) yk (zv, zn) zk
        · have Hf : Hid (sameF k l = false) := sameF_bad Hy.out Hz.out he
          clear he
          go_wp2_with fail
          go_ret
          exact ⟨by rw [Hf.out]; rfl, hB2⟩
        · have Hok2 := hide (eqOk_succ Hok.out Hy.out Hz.out he)
          clear he
          go_wp2_with fail
          go_roundw
          case rel => exact ⟨j + 1, by omega, by go_num, Hok2.out, hB2⟩
          case measure => simp [intOf]; omega
      · have Hf : Hid (sameF k l = true) := by
          have e : j = Fo.len k := by omega
          have := Hok.out
          rw [e] at this
          exact sameF_end Hll.out this
        go_wp2_with fail
        go_ret
        exact ⟨by rw [Hf.out]; rfl, hBr⟩
  · have hllb : ((Fo.len k : Int) != (Fo.len l : Int)) = true := by simp; omega
    have Hf : Hid (sameF k l = false) := by
      rw [Hid, Bool.eq_false_iff]
      exact fun h => hll (sameF_len h)
    go_enter Tryd.func32, Tryd.ntmps32
    go_wp2_with fail
    go_ret
    exact ⟨by rw [Hf.out]; rfl, Below.refl _ _⟩

set_option maxHeartbeats 1000000 in
theorem same_any (x : Bool × Int) (k : Fo) : SameSaid x k := by
  refine Fo.ind1 (p := SameSaid) ?_ x k
  clear x k
  intro x k ih y l a c w hS1 hS2
  obtain ⟨xv, xn⟩ := x
  obtain ⟨yv, yn⟩ := y
  have HS1 := hide hS1
  have HS2 := hide hS2
  obtain ⟨a1, c1, b1, o1, rfl, -, -, -, -⟩ := hS1
  obtain ⟨a2, c2, b2, o2, rfl, -, -, -, -⟩ := hS2
  have HI := hide ih
  clear ih
  by_cases hv : xv = yv
  · by_cases hn : xn = yn
    · subst hv hn
      have Hf : Hid (sameT (xv, xn) k (xv, xn) l = sameF k l) := by simp [Hid, sameT]
      go_enter Tryd.func10, Tryd.ntmps10
      go_wp2_with fail
      refine (equalFunc_of k HI.out l _ _ _ ((HS1.out.alloc _).alloc _) ((HS2.out.alloc _).alloc _)).mono ?_
      rintro e w2 ⟨rfl, hb2⟩
      go_wp2_with fail
      go_ret
      exact ⟨by rw [Hf.out]; rfl, below_box (below_box hb2)⟩
    · have Hf : Hid (sameT (xv, xn) k (yv, yn) l = false) := by simp [Hid, sameT, hn]
      have hnb : (xn == yn) = false := by simpa using hn
      subst hv
      clear hn
      go_enter Tryd.func10, Tryd.ntmps10
      go_wp2_with fail
      go_ret
      exact ⟨by rw [Hf.out]; rfl, (below_alloc _ _).alloc (by simp) _⟩
  · have Hf : Hid (sameT (xv, xn) k (yv, yn) l = false) := by simp [Hid, sameT, hv]
    have hnb : (xv == yv) = false := by simpa using hv
    clear hv
    go_enter Tryd.func10, Tryd.ntmps10
    go_wp2_with fail
    go_ret
    exact ⟨by rw [Hf.out]; rfl, (below_alloc _ _).alloc (by simp) _⟩

end Go.Proofs.YtegdfnfengnjlaaDoor
