/- Whether two terms are the same: the document's Same, and the law's own same. -/
import Derived.Test.YtleogbdinafpaaaG06
import Derived.Deep.DeepCutAuto
namespace Go.Proofs.Ytleogbdinafpaaa
open Go.RowKit Go.Deep Go.ChangeShapes Go.WideShapes
attribute [local go_sem ↓] Go.wp_at_zero Go.wp_at_succ

theorem box2_cells {w wr : World} {x y z x' y' z' : Value} {T T' : TypeId} (h : Below (w.heap.size + 2) ((w.alloc (.cells #[x, y, z] T)).alloc (.cells #[x', y', z'] T')) wr) :
    (wr.cell? ⟨w.heap.size, 0, none⟩ = some x ∧ wr.cell? ⟨w.heap.size, 1, none⟩ = some y ∧ wr.cell? ⟨w.heap.size, 2, none⟩ = some z) ∧
    (wr.cell? ⟨w.heap.size + 1, 0, none⟩ = some x' ∧ wr.cell? ⟨w.heap.size + 1, 1, none⟩ = some y' ∧ wr.cell? ⟨w.heap.size + 1, 2, none⟩ = some z') ∧ Below w.heap.size w wr ∧ w.heap.size + 1 < wr.heap.size := by
  have h2 : Below ((w.alloc (.cells #[x, y, z] T)).heap.size + 1) ((w.alloc (.cells #[x, y, z] T)).alloc (.cells #[x', y', z'] T')) wr := by simpa using h
  obtain ⟨a0, a1, a2, a3, a4⟩ := box_cells h2
  have a3' : Below (w.heap.size + 1) (w.alloc (.cells #[x, y, z] T)) wr := by simpa using a3
  obtain ⟨c0, c1, c2, c3, c4⟩ := box_cells a3'
  simp only [World.size_alloc] at a0 a1 a2 a4
  exact ⟨⟨c0, c1, c2⟩, ⟨a0, a1, a2⟩, c3, by simpa using a4⟩

def SameRSaid (x : Bool × Int) (k : Fo) : Prop := ∀ (y : Bool × Int) (l : Fo) (a c : Value) (w : World), SIn w k a → SIn w l c →
    Calls Try.prog 8 #[.agg #[.bool x.1, .int .i64 x.2, a], .agg #[.bool y.1, .int .i64 y.2, c]] w fun e w' => e = .returned (.bool (sameT x k y l)) ∧ Below w.heap.size w w'

set_option maxRecDepth 100000 in
set_option maxHeartbeats 1000000 in
theorem sameR_any (x : Bool × Int) (k : Fo) : SameRSaid x k := by
  refine Fo.ind1 (p := SameRSaid) ?_ x k
  clear x k
  intro x k ih y l a c w hS1 hS2
  obtain ⟨xv, xn⟩ := x
  obtain ⟨yv, yn⟩ := y
  have HS1 := hide hS1
  have HS2 := hide hS2
  obtain ⟨a1, c1, b1, o1, rfl, had1, hlc1, hcm1, hF1⟩ := hS1
  obtain ⟨a2, c2, b2, o2, rfl, had2, hlc2, hcm2, hF2⟩ := hS2
  unfold maxLen at hcm1 hcm2
  have HI := hide ih
  have Hl1 := hide (Fo.len_list k)
  have Hl2 := hide (Fo.len_list l)
  have HF1 := hide hF1
  have HF2 := hide hF2
  clear ih hF1 hF2
  by_cases hv : xv = yv
  · by_cases hn : xn = yn
    · by_cases hll : Fo.len k = Fo.len l
      · subst hv hn
        have Hf : Hid (sameT (xv, xn) k (xv, xn) l = sameF k l) := by simp [Hid, sameT]
        have hllb : ((Fo.len k : Int) != (Fo.len l : Int)) = false := by simp [hll]
        have Hll := hide hll
        have hll1 : Fo.len l ≤ Fo.len k := by omega
        have hll2 : Fo.len k ≤ Fo.len l := by omega
        clear hll
        go_enter Try.func8, Try.ntmps8
        go_wp2_with fail
        go_loopw [30] (fun i wr => ∃ j : Nat, j ≤ Fo.len k ∧ i = .int .i64 j ∧ eqOk k l j ∧ Below (w.heap.size + 2) ((w.alloc (.cells #[.bool xv, .int .i64 xn, .slice a1 (Fo.len k) c1] 26)).alloc (.cells #[.bool xv, .int .i64 xn, .slice a2 (Fo.len l) c2] 26)) wr) (fun i _ => Fo.len k - (intOf i).toNat)
        case atStart => exact ⟨0, Nat.zero_le _, rfl, fun i hi => by omega, Below.refl _ _⟩
        case round =>
          obtain ⟨j, hj, rfl, hok, hBx⟩ := hrel
          obtain ⟨⟨-, -, t2⟩, ⟨-, -, u2⟩, hBr, hlt0⟩ := box2_cells hBx
          have Hok := hide hok
          have HBx := hide hBx
          clear hok hBx
          by_cases hlt : j < Fo.len k
          · have hlt' : (j : Int) < (Fo.len k : Int) := by omega
            have hlt2 : (j : Int) < (Fo.len l : Int) := by omega
            have hj0 : (0 : Int) ≤ (j : Int) := by omega
            obtain ⟨⟨⟨yv, yn⟩, yk⟩, hy⟩ : ∃ y, k.list[j]? = some y := ⟨k.list[j]'(by rw [Hl1.out]; exact hlt), by simp⟩
            obtain ⟨⟨⟨zv, zn⟩, zk⟩, hz⟩ : ∃ y, l.list[j]? = some y := ⟨l.list[j]'(by rw [Hl2.out]; omega), by simp⟩
            obtain ⟨p0, p1, yv', p2, hSy⟩ := (HF1.out.below hBr).at hy
            obtain ⟨q0, q1, zv', q2, hSz⟩ := (HF2.out.below hBr).at hz
            have ha1 : a1 = some ⟨b1, o1, none⟩ := had1 (by omega)
            have ha2 : a2 = some ⟨b2, o2, none⟩ := had2 (by omega)
            subst ha1 ha2
            have HSy := hide hSy
            have HSz := hide hSz
            obtain ⟨ya, yc, yb, yo, rfl, -, -, -, -⟩ := hSy
            obtain ⟨za, zc, zb, zo, rfl, -, -, -, -⟩ := hSz
            have Hy := hide hy
            have Hz := hide hz
            clear hy hz had1 had2
            go_upto_region 6 with fail
            go_cut [44] (fun s44 wx => s44 = .bool (!(sameT (yv, yn) yk (zv, zn) zk)) ∧ Below wr.heap.size wr wx)
            case first =>
              go_region_held3 (fun w' => w'.cell? ⟨w.heap.size, 2, none⟩ = some (.slice (some ⟨b1, o1, none⟩) (Fo.len k) c1) ∧ w'.cell? ⟨w.heap.size + 1, 2, none⟩ = some (.slice (some ⟨b2, o2, none⟩) (Fo.len l) c2) ∧ w'.cell? ⟨b1, o1 + j * 3, none⟩ = some (.bool yv) ∧ w'.cell? ⟨b1, o1 + j * 3 + 1, none⟩ = some (.int .i64 yn) ∧ w'.cell? ⟨b1, o1 + j * 3 + 2, none⟩ = some (.slice ya (Fo.len yk) yc)
                  ∧ w'.cell? ⟨b2, o2 + j * 3, none⟩ = some (.bool zv) ∧ w'.cell? ⟨b2, o2 + j * 3 + 1, none⟩ = some (.int .i64 zn) ∧ w'.cell? ⟨b2, o2 + j * 3 + 2, none⟩ = some (.slice za (Fo.len zk) zc))
                (first
                  | go_keep
                  | exact ⟨grow_cell hb2 _ _ t2, grow_cell hb2 _ _ u2, grow_cell hb2 _ _ p0, grow_cell hb2 _ _ p1, grow_cell hb2 _ _ p2, grow_cell hb2 _ _ q0, grow_cell hb2 _ _ q1, grow_cell hb2 _ _ q2⟩)
                (first
                  | (go_at_call 8; refine (HI.out ((yv, yn), yk) (List.mem_of_getElem? Hy.out) (zv, zn) zk _ _ _ ?_ ?_).mono ?_; (exact HSy.out.drew); (exact HSz.out.drew); rintro e w2 ⟨rfl, hb2⟩))
              go_wp2_with fail
              go_meet
              case rel => exact ⟨rfl, ((Below.refl _ _).drew).trans hb2⟩
            case rest =>
              obtain ⟨rfl, hb2⟩ := hcut
              generalize wc = w2 at *
              have HB2 := hide (HBx.out.trans (hb2.mono (by omega)))
              cases he : sameT (yv, yn) yk (zv, zn) zk
              · have Hf2 : Hid (sameF k l = false) := sameF_bad Hy.out Hz.out he
                have hB2 := below_step hBr hb2
                clear he
                go_wp2_with fail
                go_ret
                exact ⟨by rw [Hf.out, Hf2.out]; rfl, hB2⟩
              · have Hok2 := hide (eqOk_succ Hok.out Hy.out Hz.out he)
                clear he
                go_wp2_with fail
                go_roundw
                case rel => exact ⟨j + 1, by omega, by go_num, Hok2.out, HB2.out⟩
                case measure => simp [intOf]; omega
          · have Hf2 : Hid (sameF k l = true) := by
              have e : j = Fo.len k := by omega
              have := Hok.out
              rw [e] at this
              exact sameF_end Hll.out this
            go_wp2_with fail
            go_ret
            exact ⟨by rw [Hf.out, Hf2.out]; rfl, hBr⟩
      · have hllb : ((Fo.len k : Int) != (Fo.len l : Int)) = true := by simp; omega
        have Hf : Hid (sameT (xv, xn) k (yv, yn) l = false) := by
          have : sameF k l = false := by rw [Bool.eq_false_iff]; exact fun h => hll (sameF_len h)
          simp [Hid, sameT, this]
        subst hv hn
        go_enter Try.func8, Try.ntmps8
        go_wp2_with fail
        go_ret
        exact ⟨by rw [Hf.out]; rfl, (below_alloc _ _).alloc (by simp) _⟩
    · have Hf : Hid (sameT (xv, xn) k (yv, yn) l = false) := by simp [Hid, sameT, hn]
      have hnb : (xn != yn) = true := by simpa using hn
      subst hv
      clear hn
      go_enter Try.func8, Try.ntmps8
      go_wp2_with fail
      go_ret
      exact ⟨by rw [Hf.out]; rfl, (below_alloc _ _).alloc (by simp) _⟩
  · have Hf : Hid (sameT (xv, xn) k (yv, yn) l = false) := by simp [Hid, sameT, hv]
    have e : yv = !xv := by cases xv <;> cases yv <;> simp_all
    subst e
    clear hv
    cases xv
    · go_enter Try.func8, Try.ntmps8
      go_wp2_with fail
      go_ret
      exact ⟨by rw [Hf.out]; rfl, (below_alloc _ _).alloc (by simp) _⟩
    · go_enter Try.func8, Try.ntmps8
      go_wp2_with fail
      go_ret
      exact ⟨by rw [Hf.out]; rfl, (below_alloc _ _).alloc (by simp) _⟩

/-- The law's own: the same numbers? -/
theorem nums_end {p q : List Int} (hl : p.length = q.length) (h : ∀ i, i < p.length → p.getD i 0 = q.getD i 0) : p = q := by
  apply List.ext_getElem hl
  intro i h1 h2
  have := h i h1
  simpa [List.getD_eq_getElem?_getD, h1, h2] using this

end Go.Proofs.Ytleogbdinafpaaa

/- What is at a place: the document's At. -/
namespace Go.Proofs.Ytleogbdinafpaaa
open Go.RowKit Go.Deep Go.ChangeShapes Go.WideShapes
attribute [local go_sem ↓] Go.wp_at_zero Go.wp_at_succ

def atR : List Int → Bool × Int → Fo → Option ((Bool × Int) × Fo)
  | [], x, k => some (x, k)
  | n :: p, _, k => if n < 0 ∨ (Fo.len k : Int) ≤ n then none else match k.list[n.toNat]? with
    | some y => atR p y.1 y.2
    | none => none

theorem walk_at {s : List Int} {d : Int} : ∀ {F : Fo} {j : Nat} {y : (Bool × Int) × Fo}, walkF s F d = 0 → F.list[j]? = some y → walkT s y.1 y.2 d = 0
  | .nil, _, _, _, h => by simp [Fo.list] at h
  | .node p q x k r, 0, y, hF, hj => by
    obtain ⟨q1, _⟩ := walkF_ok hF
    simp [Fo.list] at hj
    subst hj
    exact q1
  | .node p q x k r, j + 1, y, hF, hj => by
    obtain ⟨_, q2⟩ := walkF_ok hF
    exact walk_at q2 (by simpa [Fo.list] using hj)

theorem atR_atT {s : List Int} : ∀ {p : List Int} {x : Bool × Int} {k : Fo} {d : Int}, walkT s x k d = 0 → atR p x k = atT p x k
  | [], _, _, _, _ => rfl
  | n :: p, x, k, d, h => by
    obtain ⟨_, ha, hk⟩ := walkT_ok h
    rw [atR, atT]
    by_cases hn : n < 0 ∨ (Fo.len k : Int) ≤ n
    · rw [if_pos hn, if_pos (.inr hn)]
    · rw [if_neg hn]
      have hx : ¬ x.1 = true := fun hx => by
        obtain ⟨xv, xn⟩ := x
        simp only at hx
        subst hx
        obtain ⟨hl, _⟩ := alone_var ha
        rw [hl] at hn
        simp [Fo.len] at hn
        omega
      rw [if_neg (fun h => by rcases h with h | h; exact hx h; exact hn h)]
      cases hy : k.list[n.toNat]? with
      | none => rfl
      | some y => exact atR_atT (walk_at hk hy)

/-- All numbers but the first. -/
theorem nums_tail {n : Int} {p : List Int} {c b o : Nat} (hlc : p.length + 1 ≤ c) (hcm : c ≤ maxLen) : ∃ (a' : Option Addr) (c' : Nat), (∀ w, (Instr.slice 22 (.slice (some ⟨b, o, none⟩) (p.length + 1) c) (some (.int .i64 1)) none none).run Try.prog w = .ok (.slice a' p.length c') w) ∧
    ∀ w : World, (∀ i, i < p.length + 1 → w.cell? ⟨b, o + i, none⟩ = some (.int .i64 ((n :: p).getD i 0))) → NIn w p (.slice a' p.length c') := by
  refine ⟨if c = 1 then some ⟨b, o, none⟩ else some ⟨b, o + 1, none⟩, c - 1, fun w => ?_, fun w h => ?_⟩
  · rw [run_slice_l (ht := by kernel_rfl) (h0 := by omega) (h1 := by omega)]
    have e : (sizeOf (Try.prog.elem 22)).run Try.prog w = .ok 1 w := by
      rw [show Try.prog.elem 22 = 3 by kernel_rfl]
      simp [go_sem]
    simp only [Result.andThen, sliced, e]
    by_cases hc : c = 1
    · simp [hc]
    · simp [hc, Addr.add]
  · refine ⟨_, c - 1, b, o + 1, rfl, fun hp => ?_, by omega, by omega, fun i hi => ?_⟩
    · rw [if_neg (by omega)]
    · have := h (i + 1) (by omega)
      rw [show o + 1 + i = o + (i + 1) by omega, this]
      simp

theorem BIn.node {X : Nat → Prop} {w : World} {p q : Nat} {x : Bool × Int} {k r : Fo} {b o : Nat} (h : BIn X w (.node p q x k r) b o) :
    w.cell? ⟨b, o, none⟩ = some (.bool x.1) ∧ w.cell? ⟨b, o + 1, none⟩ = some (.int .i64 x.2) ∧ (∃ v, w.cell? ⟨b, o + 2, none⟩ = some v ∧ SB X w k v) ∧ BIn X w r b (o + 3) := by
  obtain ⟨h0, h1, ⟨a, c, b', o', h2, h3, h4, h5, h6⟩, h7⟩ := h
  exact ⟨h0, h1, ⟨_, h2, a, c, b', o', rfl, h3, h4, h5, h6⟩, h7⟩
theorem BIn.at {X : Nat → Prop} {w : World} : ∀ {F : Fo} {b o i : Nat} {x : Bool × Int} {k : Fo}, BIn X w F b o → F.list[i]? = some (x, k) →
    w.cell? ⟨b, o + i * 3, none⟩ = some (.bool x.1) ∧ w.cell? ⟨b, o + i * 3 + 1, none⟩ = some (.int .i64 x.2) ∧ ∃ v, w.cell? ⟨b, o + i * 3 + 2, none⟩ = some v ∧ SB X w k v
  | .nil, _, _, _, _, _, _, h => by simp [Fo.list] at h
  | .node _ _ y k' r, b, o, 0, x, k, hF, h => by
    simp only [Fo.list, List.getElem?_cons_zero, Option.some.injEq, Prod.mk.injEq] at h
    obtain ⟨rfl, rfl⟩ := h
    obtain ⟨h0, h1, h2, _⟩ := hF.node
    simpa using ⟨h0, h1, h2⟩
  | .node _ _ y k' r, b, o, i + 1, x, k, hF, h => by
    simp only [Fo.list, List.getElem?_cons_succ] at h
    obtain ⟨_, _, _, h3⟩ := hF.node
    have := BIn.at h3 h
    have e : o + 3 + i * 3 = o + (i + 1) * 3 := by omega
    rwa [e] at this
/-- What lies in memory lies in the blocks that there are. -/
theorem FIn.toB {w : World} : ∀ {F : Fo} {b o : Nat}, FIn w F b o → BIn (fun q => q < w.heap.size) w F b o
  | .nil, _, _, _ => trivial
  | .node _ _ x k r, b, o, ⟨h0, h1, ⟨a, c, b', o', h2, h3, h4, h5, h6⟩, h7⟩ => by
    refine ⟨h0, h1, ⟨a, c, b', o', h2, fun h => ⟨h3 h, ?_⟩, h4, h5, h6.toB⟩, h7.toB⟩
    cases k with
    | nil => simp [Fo.len] at h
    | node _ _ _ _ _ => exact World.block_lt_of_cell? _ _ h6.1
theorem SIn.toB {w : World} {k : Fo} {v : Value} (h : SIn w k v) : SB (fun q => q < w.heap.size) w k v := by
  obtain ⟨a, c, b, o, rfl, h3, h4, h5, h6⟩ := h
  refine ⟨a, c, b, o, rfl, fun h => ⟨h3 h, ?_⟩, h4, h5, h6.toB⟩
  cases k with
  | nil => simp [Fo.len] at h
  | node _ _ _ _ _ => exact World.block_lt_of_cell? _ _ h6.1
theorem SB.grow {X : Nat → Prop} {w w' : World} {k : Fo} {v : Value} (h : SB X w k v) (hX : ∀ q, X q → q < w.heap.size) (hb : Below w.heap.size w w') : SB X w' k v :=
  h.frame (fun _ h => h) (fun q i hq => hb.cell (p := ⟨q, i, none⟩) (hX q hq))
theorem SB.shrink {X : Nat → Prop} {w w' : World} {k : Fo} {v : Value} (h : SB X w' k v) (hX : ∀ q, X q → q < w.heap.size) (hb : Below w.heap.size w w') : SB X w k v :=
  h.frame (fun _ h => h) (fun q i hq => (hb.cell (p := ⟨q, i, none⟩) (hX q hq)).symm)

end Go.Proofs.Ytleogbdinafpaaa

/- Written, and read again: told of terms and texts alone. -/
namespace Go.Proofs.Ytleogbdinafpaaa
open Go.RowKit Go.Deep Go.ChangeShapes Go.WideShapes

/-- The same forest, without what is no part of it. -/
def Fo.norm : Fo → Fo
  | .nil => .nil
  | .node _ _ x k r => .node 0 0 x (Fo.norm k) (Fo.norm r)
def Fo.app : Fo → Fo → Fo
  | .nil, G => G
  | .node p q x k r, G => .node p q x k (Fo.app r G)

theorem norm_same : ∀ F : Fo, sameF F (Fo.norm F) = true
  | .nil => rfl
  | .node _ _ x k r => by simp [sameF, Fo.norm, norm_same k, norm_same r]
theorem norm_len : ∀ F : Fo, Fo.len (Fo.norm F) = Fo.len F
  | .nil => rfl
  | .node _ _ x k r => by simp [Fo.len, Fo.norm, norm_len r]
theorem app_snoc : ∀ (A : Fo) (x : Bool × Int) (k G : Fo), Fo.app (Fo.snoc A x k) G = Fo.app A (.node 0 0 x k G)
  | .nil, _, _, _ => rfl
  | .node _ _ _ _ r, x, k, G => by simp [Fo.snoc, Fo.app, app_snoc r x k G]
theorem app_nil : ∀ A : Fo, Fo.app A .nil = A
  | .nil => rfl
  | .node _ _ _ _ r => by simp [Fo.app, app_nil r]

theorem sgn_hit (c : UInt8) (r : List UInt8) : sgn c (c :: r) = (0, r) := by simp [sgn]
theorem dig_nat {n : Int} (h0 : 0 ≤ n) (h4 : n ≤ 4) : ((dig n).toNat : Int) = 48 + n := by
  rw [dig, UInt8.toNat_ofNat']; omega
theorem sym_nat {n : Int} (h0 : 0 ≤ n) (h4 : n ≤ 100) : ((sym n).toNat : Int) = 97 + n := by
  rw [sym, UInt8.toNat_ofNat']; omega

theorem textF_node (p q : Nat) (x : Bool × Int) (k r : Fo) (i : Int) : textF (.node p q x k r) i = (signF i :: textT x k) ++ textF r (i + 1) := rfl
theorem textT_pos (x : Bool × Int) (k : Fo) : 0 < (textT x k).length := by
  unfold textT
  split
  · simp
  · simp

/-- The terms of a forest, each read as it is. -/
def ReadsF (R : List UInt8 → Int × ((Bool × Int) × Fo) × List UInt8) (F : Fo) (N : Nat) : Prop := ∀ y ∈ F.list, ∀ rest, (textT y.1 y.2 ++ rest).length < N → R (textT y.1 y.2 ++ rest) = (0, (y.1, Fo.norm y.2), rest)

theorem readA_text {R : List UInt8 → Int × ((Bool × Int) × Fo) × List UInt8} {N : Nat} : ∀ (F : Fo) (i : Int) (acc : Fo) (rest : List UInt8), ReadsF R F N → (textF F i ++ rest).length ≤ N → readA R (Fo.len F) i acc (textF F i ++ rest) = (0, Fo.app acc (Fo.norm F), rest)
  | .nil, i, acc, rest, _, _ => by simp [readA, textF, Fo.len, Fo.norm, app_nil]
  | .node p q x k r, i, acc, rest, hR, hN => by
    rw [textF_node] at hN ⊢
    have e : (signF i :: textT x k) ++ textF r (i + 1) ++ rest = signF i :: (textT x k ++ (textF r (i + 1) ++ rest)) := by simp
    rw [e] at hN ⊢
    simp only [List.length_cons] at hN
    have h1 := hR (x, k) (by simp [Fo.list]) (textF r (i + 1) ++ rest) (by simp only; omega)
    simp only at h1
    show readA R (Fo.len r + 1) i acc _ = _
    rw [readA, sgn_hit]
    simp only [h1, ne_eq, not_true_eq_false, if_false]
    rw [readA_text r (i + 1) _ rest (fun y hy => hR y (by simp [Fo.list, hy])) (by simp only [List.length_append] at hN ⊢; omega), app_snoc]
    rfl

/-- A right term comes back from its text, whatever stands behind. -/
theorem read_text {s : List Int} (h6 : s.length ≤ 6) (x : Bool × Int) (k : Fo) : ∀ (d : Int), walkT s x k d = 0 → ∀ (f : Nat) (rest : List UInt8), (textT x k ++ rest).length < f → readT s f (textT x k ++ rest) = (0, (x, Fo.norm k), rest) := by
  refine Fo.ind1 (p := fun x k => ∀ (d : Int), walkT s x k d = 0 → ∀ (f : Nat) (rest : List UInt8), (textT x k ++ rest).length < f → readT s f (textT x k ++ rest) = (0, (x, Fo.norm k), rest)) ?_ x k
  clear x k
  intro x k ih d hw f rest hf
  obtain ⟨_, ha, hk⟩ := walkT_ok hw
  obtain ⟨v, n⟩ := x
  obtain ⟨f, rfl⟩ : ∃ g, f = g + 1 := ⟨f - 1, by omega⟩
  cases v
  · obtain ⟨h0, h1, h2⟩ := alone_sym ha
    have hsn := sym_nat h0 (by omega)
    have e : textT (false, n) k ++ rest = sym n :: ((if Fo.len k = 0 then [] else textF k 0 ++ [41]) ++ rest) := by simp [textT]
    rw [e] at hf ⊢
    have hne : sym n ≠ 88 := fun e => by rw [e] at hsn; simp at hsn; omega
    rw [readT, if_neg hne, hsn, show (97 + n - 97 : Int) = n by omega, if_neg (by omega), ← h2]
    simp only [List.length_cons] at hf
    have hA : argsT (readT s f) (Fo.len k : Int) ((if Fo.len k = 0 then [] else textF k 0 ++ [41]) ++ rest) = (0, Fo.norm k, rest) := by
      by_cases hl : Fo.len k = 0
      · rw [argsT, if_pos (by omega), if_pos hl, len_zero hl]; rfl
      · rw [if_neg hl] at hf
        rw [argsT, if_neg (by omega), if_neg hl]
        have hr := readA_text (R := readT s f) (N := f) k 0 .nil ([41] ++ rest) (fun y hy r hlen => by
          obtain ⟨j, hj⟩ := List.mem_iff_getElem?.1 hy
          have hz : walkT s y.1 y.2 (d + 1) = 0 := by
            have : ∀ (F : Fo) (j : Nat) (y : (Bool × Int) × Fo), walkF s F (d + 1) = 0 → F.list[j]? = some y → walkT s y.1 y.2 (d + 1) = 0 := by
              intro F
              induction F with
              | nil => intro j y _ h; simp [Fo.list] at h
              | node p q x k r _ ihr =>
                intro j y hF hj
                obtain ⟨q1, q2⟩ := walkF_ok hF
                cases j with
                | zero => simp [Fo.list] at hj; subst hj; exact q1
                | succ j => exact ihr j y q2 (by simpa [Fo.list] using hj)
            exact this k j y hk hj
          exact ih y hy (d + 1) hz f r hlen) (by simp only [List.length_append] at hf ⊢; omega)
        simp only [Int.toNat_natCast]
        rw [show textF k 0 ++ [41] ++ rest = textF k 0 ++ ([41] ++ rest) by simp, hr]
        have : sgn 41 (41 :: rest) = (0, rest) := sgn_hit 41 rest
        simp [this, Fo.app]
    rw [hA]
    simp
  · obtain ⟨rfl, h0, h4⟩ := alone_var ha
    have hdn := dig_nat h0 h4
    have e : textT (true, n) .nil ++ rest = 88 :: dig n :: rest := by simp [textT]
    rw [e, readT, if_pos rfl, rvar, hdn, if_neg (by omega), show (48 + n - 48 : Int) = n by omega]
    rfl

theorem byte_back {c : UInt8} {n : Int} (h : (c.toNat : Int) = 97 + n) (h0 : 0 ≤ n) : c = sym n := by
  apply UInt8.toNat_inj.1
  rw [sym, UInt8.toNat_ofNat']
  have := c.toNat_lt
  omega
theorem dig_back {c : UInt8} {n : Int} (h : (c.toNat : Int) = 48 + n) (h0 : 0 ≤ n) : c = dig n := by
  apply UInt8.toNat_inj.1
  rw [dig, UInt8.toNat_ofNat']
  have := c.toNat_lt
  omega
theorem sgn_back {c : UInt8} {l : List UInt8} (h : (sgn c l).1 = 0) : l = c :: (sgn c l).2 := by
  cases l with
  | nil => simp [sgn] at h
  | cons d r =>
    by_cases e : d = c
    · simp [sgn, e]
    · simp [sgn, e] at h

/-- What is read of so many terms is their text. -/
theorem readA_back {R : List UInt8 → Int × ((Bool × Int) × Fo) × List UInt8} (hR : ∀ t, (R t).1 = 0 → t = textT (R t).2.1.1 (R t).2.1.2 ++ (R t).2.2) : ∀ (m : Nat) (i : Int) (acc : Fo) (t : List UInt8), (readA R m i acc t).1 = 0 → ∃ G, (readA R m i acc t).2.1 = Fo.app acc G ∧ Fo.len G = m ∧ t = textF G i ++ (readA R m i acc t).2.2
  | 0, i, acc, t, _ => ⟨.nil, by simp [readA, app_nil], rfl, by simp [readA, textF]⟩
  | m + 1, i, acc, t, h => by
    rw [readA] at h ⊢
    by_cases h1 : (sgn (signF i) t).1 = 0
    · rw [if_neg (by simpa using h1)] at h ⊢
      have e1 := sgn_back h1
      by_cases h2 : (R (sgn (signF i) t).2).1 = 0
      · rw [if_neg (by simpa using h2)] at h ⊢
        have e2 := hR _ h2
        obtain ⟨G, g1, g2, g3⟩ := readA_back hR m (i + 1) _ _ h
        refine ⟨.node 0 0 (R (sgn (signF i) t).2).2.1.1 (R (sgn (signF i) t).2).2.1.2 G, by rw [g1, app_snoc], by simp [Fo.len, g2], ?_⟩
        rw [textF_node]
        conv => lhs; rw [e1, e2, g3]
        simp
      · rw [if_pos h2] at h; exact absurd h h2
    · rw [if_pos h1] at h; exact absurd h h1

/-- What is read of a text is its term's text, and what is behind. -/
theorem read_back {s : List Int} : ∀ (f : Nat) (t : List UInt8), (readT s f t).1 = 0 → t = textT (readT s f t).2.1.1 (readT s f t).2.1.2 ++ (readT s f t).2.2
  | 0, t, h => by simp [readT] at h
  | f + 1, [], h => by simp [readT] at h
  | f + 1, c :: r, h => by
    rw [readT] at h ⊢
    by_cases h88 : c = 88
    · rw [if_pos h88] at h ⊢
      cases r with
      | nil => simp [rvar] at h
      | cons d r =>
        rw [rvar] at h ⊢
        by_cases hd : (d.toNat : Int) - 48 < 0 ∨ 5 ≤ (d.toNat : Int) - 48
        · rw [if_pos hd] at h; simp at h
        · rw [if_neg hd]
          have := dig_back (c := d) (n := (d.toNat : Int) - 48) (by omega) (by omega)
          simp only [textT, if_true]
          rw [← this, h88]
          simp
    · rw [if_neg h88] at h ⊢
      by_cases hn : (c.toNat : Int) - 97 < 0 ∨ (s.length : Int) ≤ (c.toNat : Int) - 97
      · rw [if_pos hn] at h; simp at h
      · rw [if_neg hn] at h ⊢
        by_cases ha : (argsT (readT s f) (s.getD ((c.toNat : Int) - 97).toNat 0) r).1 = 0
        · rw [if_neg (by simpa using ha)]
          have hc := byte_back (c := c) (n := (c.toNat : Int) - 97) (by omega) (by omega)
          generalize s.getD ((c.toNat : Int) - 97).toNat 0 = many at *
          rw [argsT] at ha ⊢
          by_cases hm : many ≤ 0
          · simp only [if_pos hm, textT]
            simp [Fo.len, ← hc]
          · rw [if_neg hm] at ha ⊢
            by_cases h1 : (readA (readT s f) many.toNat 0 .nil r).1 = 0
            · rw [if_neg (by simpa using h1)] at ha ⊢
              obtain ⟨G, g1, g2, g3⟩ := readA_back (fun t ht => read_back f t ht) many.toNat 0 .nil r h1
              by_cases h2 : (sgn 41 (readA (readT s f) many.toNat 0 .nil r).2.2).1 = 0
              · rw [if_neg (by simpa using h2)]
                have e2 := sgn_back h2
                simp only [textT, g1, Fo.app]
                rw [if_neg (by simp), if_neg (by omega), ← hc]
                conv => lhs; rw [g3, e2]
                simp
              · rw [if_pos h2] at ha; exact absurd ha h2
            · rw [if_pos h1] at ha; exact absurd ha h1
        · rw [if_pos ha] at h; exact absurd h ha

/-- What a right term's text is like. -/
theorem texts_ok {s : List Int} (h6 : s.length ≤ 6) : ∀ {F : Fo} {d : Int}, walkF s F d = 0 → Fo.texts F
  | .nil, _, _ => trivial
  | .node _ _ (v, n) k r, d, h => by
    obtain ⟨hT, hr⟩ := walkF_ok h
    obtain ⟨_, ha, hk⟩ := walkT_ok hT
    refine ⟨?_, texts_ok h6 hk, texts_ok h6 hr⟩
    cases v
    · obtain ⟨h0, h1, _⟩ := alone_sym ha
      simp only [Bool.false_eq_true, if_false]; omega
    · obtain ⟨_, h0, h4⟩ := alone_var ha
      simp only [if_true]; omega
theorem text_okT {s : List Int} (h6 : s.length ≤ 6) {x : Bool × Int} {k : Fo} {d : Int} (h : walkT s x k d = 0) : (0 ≤ x.2 ∧ x.2 ≤ (if x.1 then 4 else 100)) ∧ Fo.texts k := by
  obtain ⟨_, ha, hk⟩ := walkT_ok h
  obtain ⟨v, n⟩ := x
  refine ⟨?_, texts_ok h6 hk⟩
  cases v
  · obtain ⟨h0, h1, _⟩ := alone_sym ha
    simp only [Bool.false_eq_true, if_false]; omega
  · obtain ⟨_, h0, h4⟩ := alone_var ha
    simp only [if_true]; omega
theorem textF_len : ∀ (F : Fo) (i : Int), (textF F i).length ≤ 3 * Fo.sizesR F
  | .nil, _ => by simp [textF]
  | .node _ _ x k r, i => by
    have h1 := textF_len k 0
    have h2 := textF_len r (i + 1)
    simp only [textF, Fo.sizesR, List.length_append, List.length_cons]
    split
    · simp; omega
    · split
      · simp; omega
      · simp; omega
theorem textT_len (x : Bool × Int) (k : Fo) : (textT x k).length ≤ 3 * tszR k := by
  have := textF_len k 0
  unfold textT tszR
  split
  · simp; omega
  · split
    · simp; omega
    · simp; omega

end Go.Proofs.Ytleogbdinafpaaa

/- A row of terms whose head lies in a variable's box: one more term. -/
namespace Go.Proofs.Ytleogbdinafpaaa
open Go.RowKit Go.Deep Go.ChangeShapes Go.WideShapes

/-- Where a row's terms may lie: in X, or behind the box B, but not in the row itself. -/
def Rm (B : Nat) (X : Nat → Prop) (w : World) (v : Value) : Nat → Prop := fun q => X q ∨ (B + 1 ≤ q ∧ q < w.heap.size ∧ some q ≠ v.ownBlock)

theorem row_step {B : Nat} {X : Nat → Prop} {wr w1 w3 : World} {acc : Fo} {v v' : Value} {x : Bool × Int} {k : Fo} {a : Value} {g cap : Nat} {xs : List Value} {ob : Obj}
    (h1 : wr.ownsRow (B + 1) 26 3 v (Fo.len acc) xs) (h2 : CellsOf (Rm B X wr v) wr acc xs) (hX : ∀ q, X q → q < B) (hBl : B < wr.heap.size) (hBc : ∃ u, wr.cell? ⟨B, 2, none⟩ = some u)
    (hsz : wr.heap.size ≤ w1.heap.size) (hb : ∀ q, X q ∨ B ≤ q → q < wr.heap.size → w1.heap[q]? = wr.heap[q]?) (hk : SB (fun q => X q ∨ (wr.heap.size ≤ q ∧ q < w1.heap.size)) w1 k a)
    (hv' : v' = .slice (some ⟨g, 0, none⟩) (Fo.len acc + 1) cap) (ho : w3.ownsRow (B + 1) 26 3 v' (Fo.len acc + 1) (xs ++ [.bool x.1, .int .i64 x.2, a])) (hg : (w1.alloc ob).grownBy w3 v.ownBlock)
    (hat : v.ownBlock = some g ∨ g = w1.heap.size + 1) (hlt : g < w3.heap.size) :
    (w3.setCell ⟨B, 2, none⟩ v').ownsRow (B + 1) 26 3 v' (Fo.len (Fo.snoc acc x k)) (xs ++ [.bool x.1, .int .i64 x.2, a]) ∧ CellsOf (Rm B X (w3.setCell ⟨B, 2, none⟩ v') v') (w3.setCell ⟨B, 2, none⟩ v') (Fo.snoc acc x k) (xs ++ [.bool x.1, .int .i64 x.2, a]) ∧
    (w3.setCell ⟨B, 2, none⟩ v').cell? ⟨B, 2, none⟩ = some v' ∧ (∀ q, q < w1.heap.size → some q ≠ v.ownBlock → q ≠ B → (w3.setCell ⟨B, 2, none⟩ v').heap[q]? = w1.heap[q]?) ∧
    (∀ i, i ≠ 2 → (w3.setCell ⟨B, 2, none⟩ v').cell? ⟨B, i, none⟩ = wr.cell? ⟨B, i, none⟩) ∧ (∀ i, (w3.setCell ⟨B, 2, none⟩ v').frozen? ⟨B, i, none⟩ = wr.frozen? ⟨B, i, none⟩) ∧ w1.heap.size < (w3.setCell ⟨B, 2, none⟩ v').heap.size := by
  have hs3 := hg.size
  simp at hs3
  have hBo : some B ≠ v.ownBlock := fun e => by have := (owns_at h1 B e.symm).1; omega
  have far : ∀ q, q < w1.heap.size → some q ≠ v.ownBlock → q ≠ B → (w3.setCell ⟨B, 2, none⟩ v').heap[q]? = w1.heap[q]? := fun q hq hn hqB => by
    rw [Below.heap_setCell _ _ _ _ hqB, hg.block q (by simp; omega) hn, Below.heap_alloc _ _ _ hq]
  have farB : w3.heap[B]? = wr.heap[B]? := by rw [hg.block B (by simp; omega) hBo, Below.heap_alloc _ _ _ (by omega), hb B (.inr (Nat.le_refl _)) hBl]
  have hv'g : v'.ownBlock = some g := by rw [hv']; rfl
  have hgB : B + 1 ≤ g := (owns_at ho g hv'g).1
  refine ⟨by rw [snoc_len]; exact ownsRow_setCell_below ho (by simp) _, ?_, ?_, far, ?_, ?_, by rw [World.size_setCell]; omega⟩
  · refine CellsOf.snoc ?_ ?_
    · refine hk.frame (fun q hq => ?_) (fun q i hq => World.cell?_of_block (far q ?_ ?_ ?_))
      · rcases hq with hq | ⟨q1, q2⟩
        · exact .inl hq
        · refine .inr ⟨by omega, by rw [World.size_setCell]; omega, ?_⟩
          rw [hv'g]
          intro e
          simp at e
          subst e
          rcases hat with e | e
          · have := (owns_at h1 _ e).2; omega
          · omega
      · rcases hq with hq | hq
        · have := hX q hq; omega
        · exact hq.2
      · intro e
        have h3 := owns_at h1 _ e.symm
        rcases hq with hq | hq
        · have := hX q hq; omega
        · omega
      · rcases hq with hq | hq
        · have := hX q hq; omega
        · omega
    · refine CellsOf.frame (fun q hq => ?_) (fun q i hq => ?_) h2
      · rcases hq with hq | ⟨q1, q2, q3⟩
        · exact .inl hq
        · refine .inr ⟨q1, by rw [World.size_setCell]; omega, ?_⟩
          rw [hv'g]
          intro e
          simp at e
          subst e
          rcases hat with e | e
          · exact q3 e.symm
          · omega
      · have hq' : q < wr.heap.size ∧ (X q ∨ B ≤ q) ∧ some q ≠ v.ownBlock ∧ q ≠ B := by
          rcases hq with hq | ⟨q1, q2, q3⟩
          · have := hX q hq
            exact ⟨by omega, .inl hq, fun e => by have := (owns_at h1 _ e.symm).1; omega, by omega⟩
          · exact ⟨q2, .inr (by omega), q3, by omega⟩
        exact World.cell?_of_block ((far q (by omega) hq'.2.2.1 hq'.2.2.2).trans (hb q hq'.2.1 hq'.1))
  · obtain ⟨u, hu⟩ := hBc
    exact set_same (u := u) (by rw [World.cell?_of_block farB]; exact hu)
  · intro i hi
    rw [set_other (by intro e; simp only [Addr.mk.injEq] at e; omega)]
    exact World.cell?_of_block farB
  · intro i
    rw [World.frozen?_setCell]
    exact World.frozen?_of_block farB

/-- The terms of a forest, each without what is no part of it. -/
def Fo.nl (F : Fo) : List ((Bool × Int) × Fo) := F.list.map fun y => (y.1, Fo.norm y.2)
theorem nl_len (F : Fo) : (Fo.nl F).length = Fo.len F := by rw [Fo.nl, List.length_map, Fo.len_list]
theorem nl_snoc : ∀ (F : Fo) (x : Bool × Int) (k : Fo), Fo.nl (Fo.snoc F x k) = Fo.nl F ++ [(x, Fo.norm k)]
  | .nil, _, _ => rfl
  | .node _ _ y l r, x, k => by
    have := nl_snoc r x k
    unfold Fo.nl at this ⊢
    simp [Fo.snoc, Fo.list, this]
theorem nl_norm : ∀ {F G : Fo}, Fo.nl F = Fo.nl G → Fo.norm F = Fo.norm G
  | .nil, .nil, _ => rfl
  | .nil, .node _ _ _ _ _, h => by simp [Fo.nl, Fo.list] at h
  | .node _ _ _ _ _, .nil, h => by simp [Fo.nl, Fo.list] at h
  | .node _ _ x k r, .node _ _ y l q, h => by
    simp only [Fo.nl, Fo.list, List.map_cons, List.cons.injEq, Prod.mk.injEq] at h
    obtain ⟨⟨e1, e2⟩, e3⟩ := h
    simp [Fo.norm, e1, e2, nl_norm (F := r) (G := q) e3]
theorem norm_nl : ∀ {F G : Fo}, Fo.norm F = Fo.norm G → Fo.nl F = Fo.nl G
  | .nil, .nil, _ => rfl
  | .nil, .node _ _ _ _ _, h => by simp [Fo.norm] at h
  | .node _ _ _ _ _, .nil, h => by simp [Fo.norm] at h
  | .node _ _ x k r, .node _ _ y l q, h => by
    simp only [Fo.norm, BT.node.injEq, true_and] at h
    obtain ⟨e1, e2, e3⟩ := h
    have := norm_nl (F := r) (G := q) e3
    unfold Fo.nl at this
    simp [Fo.nl, Fo.list, e1, e2, this]
theorem same_norm : ∀ {F G : Fo}, Fo.norm F = Fo.norm G → sameF F G = true
  | .nil, .nil, _ => rfl
  | .nil, .node _ _ _ _ _, h => by simp [Fo.norm] at h
  | .node _ _ _ _ _, .nil, h => by simp [Fo.norm] at h
  | .node _ _ x k r, .node _ _ y l q, h => by
    simp only [Fo.norm, BT.node.injEq, true_and] at h
    obtain ⟨e1, e2, e3⟩ := h
    simp [sameF, e1, same_norm e2, same_norm e3]
theorem sameT_norm {x y : Bool × Int} {k l : Fo} (h : x = y) (hn : Fo.norm k = Fo.norm l) : sameT x k y l = true := by
  subst h; simp [sameT, same_norm hn]

end Go.Proofs.Ytleogbdinafpaaa
