/- Whether two terms are the same: the document's Same, and the law's own same. -/
import Derived.Test.YtleogbdinafpaaaDoorG06
import Derived.Deep.DeepCutAuto
import Derived.Test.YtleogbdinafpaaaDoorG07
import Derived.Deep.RegionWith
namespace Go.Proofs.YtleogbdinafpaaaDoor
open Go.RowKit Go.Deep Go.ChangeShapes Go.WideShapes
attribute [local go_sem ↓] Go.wp_at_zero Go.wp_at_succ

theorem box2_cells {w wr : World} {x y z x' y' z' : Value} {T T' : TypeId} (h : Below (w.heap.size + 2) ((w.alloc (.cells #[x, y, z] T)).alloc (.cells #[x', y', z'] T')) wr) :
    (wr.cell? ⟨w.heap.size, 0, none⟩ = some x ∧ wr.cell? ⟨w.heap.size, 1, none⟩ = some y ∧ wr.cell? ⟨w.heap.size, 2, none⟩ = some z) ∧
    (wr.cell? ⟨w.heap.size + 1, 0, none⟩ = some x' ∧ wr.cell? ⟨w.heap.size + 1, 1, none⟩ = some y' ∧ wr.cell? ⟨w.heap.size + 1, 2, none⟩ = some z') ∧ Below w.heap.size w wr ∧ w.heap.size + 1 < wr.heap.size := by
  have h2 : Below ((w.alloc (.cells #[x, y, z] T)).heap.size + 1) ((w.alloc (.cells #[x, y, z] T)).alloc (.cells #[x', y', z'] T')) wr := by simpa using h
  obtain ⟨a0, a1, a2, a3, a4⟩ := box_cells h2
  have a3' : Below (w.heap.size + 1) (w.alloc (.cells #[x, y, z] T)) wr := by simpa using a3
  obtain ⟨c0, c1, c2, c3, c4⟩ := box_cells a3'
  simp only [World.size_alloc] at a0 a1 a2 a4
  exact ⟨⟨c0, c1, c2⟩, ⟨a0, a1, a2⟩, c3, by simpa using a4⟩

def SameRSaid (x : Bool × Int) (k : Fo) : Prop := ∀ (y : Bool × Int) (l : Fo) (a c : Value) (w : World), SIn w k a → SIn w l c →
    Calls Tryd.prog 13 #[.agg #[.bool x.1, .int .i64 x.2, a], .agg #[.bool y.1, .int .i64 y.2, c]] w fun e w' => e = .returned (.bool (sameT x k y l)) ∧ Below w.heap.size w w'

set_option maxRecDepth 100000 in
set_option maxHeartbeats 1000000 in
theorem sameR_any (x : Bool × Int) (k : Fo) : SameRSaid x k := by
  refine Fo.ind1 (p := SameRSaid) ?_ x k
  clear x k
  intro x k ih y l a c w hS1 hS2
  obtain ⟨xv, xn⟩ := x
  obtain ⟨yv, yn⟩ := y
  have HS1 := hide hS1
  have HS2 := hide hS2
  obtain ⟨a1, c1, b1, o1, rfl, had1, hlc1, hcm1, hF1⟩ := hS1
  obtain ⟨a2, c2, b2, o2, rfl, had2, hlc2, hcm2, hF2⟩ := hS2
  unfold maxLen at hcm1 hcm2
  have HI := hide ih
  have Hl1 := hide (Fo.len_list k)
  have Hl2 := hide (Fo.len_list l)
  have HF1 := hide hF1
  have HF2 := hide hF2
  clear ih hF1 hF2
  by_cases hv : xv = yv
  · by_cases hn : xn = yn
    · by_cases hll : Fo.len k = Fo.len l
      · subst hv hn
        have Hf : Hid (sameT (xv, xn) k (xv, xn) l = sameF k l) := by simp [Hid, sameT]
        have hllb : ((Fo.len k : Int) != (Fo.len l : Int)) = false := by simp [hll]
        have Hll := hide hll
        have hll1 : Fo.len l ≤ Fo.len k := by omega
        have hll2 : Fo.len k ≤ Fo.len l := by omega
        clear hll
        go_enter Tryd.func13, Tryd.ntmps13
        go_wp2_with fail
        go_loopw [30] (fun i wr => ∃ j : Nat, j ≤ Fo.len k ∧ i = .int .i64 j ∧ eqOk k l j ∧ Below (w.heap.size + 2) ((w.alloc (.cells #[.bool xv, .int .i64 xn, .slice a1 (Fo.len k) c1] 26)).alloc (.cells #[.bool xv, .int .i64 xn, .slice a2 (Fo.len l) c2] 26)) wr) (fun i _ => Fo.len k - (intOf i).toNat)
        case atStart => exact ⟨0, Nat.zero_le _, rfl, fun i hi => by omega, Below.refl _ _⟩
        case round =>
          obtain ⟨j, hj, rfl, hok, hBx⟩ := hrel
          obtain ⟨⟨-, -, t2⟩, ⟨-, -, u2⟩, hBr, hlt0⟩ := box2_cells hBx
          have Hok := hide hok
          have HBx := hide hBx
          clear hok hBx
          by_cases hlt : j < Fo.len k
          · have hlt' : (j : Int) < (Fo.len k : Int) := by omega
            have hlt2 : (j : Int) < (Fo.len l : Int) := by omega
            have hj0 : (0 : Int) ≤ (j : Int) := by omega
            obtain ⟨⟨⟨yv, yn⟩, yk⟩, hy⟩ : ∃ y, k.list[j]? = some y := ⟨k.list[j]'(by rw [Hl1.out]; exact hlt), by simp⟩
            obtain ⟨⟨⟨zv, zn⟩, zk⟩, hz⟩ : ∃ y, l.list[j]? = some y := ⟨l.list[j]'(by rw [Hl2.out]; omega), by simp⟩
            obtain ⟨p0, p1, yv', p2, hSy⟩ := (HF1.out.below hBr).at hy
            obtain ⟨q0, q1, zv', q2, hSz⟩ := (HF2.out.below hBr).at hz
            have ha1 : a1 = some ⟨b1, o1, none⟩ := had1 (by omega)
            have ha2 : a2 = some ⟨b2, o2, none⟩ := had2 (by omega)
            subst ha1 ha2
            have HSy := hide hSy
            have HSz := hide hSz
            obtain ⟨ya, yc, yb, yo, rfl, -, -, -, -⟩ := hSy
            obtain ⟨za, zc, zb, zo, rfl, -, -, -, -⟩ := hSz
            have Hy := hide hy
            have Hz := hide hz
            clear hy hz had1 had2
            go_upto_region 6 with fail
            go_cut [44] (fun s44 wx => s44 = .bool (!(sameT (yv, yn) yk (zv, zn) zk)) ∧ Below wr.heap.size wr wx)
            case first =>
              go_region_held3 (fun w' => w'.cell? ⟨w.heap.size, 2, none⟩ = some (.slice (some ⟨b1, o1, none⟩) (Fo.len k) c1) ∧ w'.cell? ⟨w.heap.size + 1, 2, none⟩ = some (.slice (some ⟨b2, o2, none⟩) (Fo.len l) c2) ∧ w'.cell? ⟨b1, o1 + j * 3, none⟩ = some (.bool yv) ∧ w'.cell? ⟨b1, o1 + j * 3 + 1, none⟩ = some (.int .i64 yn) ∧ w'.cell? ⟨b1, o1 + j * 3 + 2, none⟩ = some (.slice ya (Fo.len yk) yc)
                  ∧ w'.cell? ⟨b2, o2 + j * 3, none⟩ = some (.bool zv) ∧ w'.cell? ⟨b2, o2 + j * 3 + 1, none⟩ = some (.int .i64 zn) ∧ w'.cell? ⟨b2, o2 + j * 3 + 2, none⟩ = some (.slice za (Fo.len zk) zc))
                (first
                  | go_keep
                  | exact ⟨grow_cell hb2 _ _ t2, grow_cell hb2 _ _ u2, grow_cell hb2 _ _ p0, grow_cell hb2 _ _ p1, grow_cell hb2 _ _ p2, grow_cell hb2 _ _ q0, grow_cell hb2 _ _ q1, grow_cell hb2 _ _ q2⟩)
                (first
                  | (go_at_call 13; refine (HI.out ((yv, yn), yk) (List.mem_of_getElem? Hy.out) (zv, zn) zk _ _ _ ?_ ?_).mono ?_; (exact HSy.out.drew); (exact HSz.out.drew); rintro e w2 ⟨rfl, hb2⟩))
              go_wp2_with fail
              go_meet
              case rel => exact ⟨rfl, ((Below.refl _ _).drew).trans hb2⟩
            case rest =>
              obtain ⟨rfl, hb2⟩ := hcut
              generalize wc = w2 at *
              have HB2 := hide (HBx.out.trans (hb2.mono (by omega)))
              cases he : sameT (yv, yn) yk (zv, zn) zk
              · have Hf2 : Hid (sameF k l = false) := sameF_bad Hy.out Hz.out he
                have hB2 := below_step hBr hb2
                clear he
                go_wp2_with fail
                go_ret
                exact ⟨by rw [Hf.out, Hf2.out]; rfl, hB2⟩
              · have Hok2 := hide (eqOk_succ Hok.out Hy.out Hz.out he)
                clear he
                go_wp2_with fail
                go_roundw
                case rel => exact ⟨j + 1, by omega, by go_num, Hok2.out, HB2.out⟩
                case measure => simp [intOf]; omega
          · have Hf2 : Hid (sameF k l = true) := by
              have e : j = Fo.len k := by omega
              have := Hok.out
              rw [e] at this
              exact sameF_end Hll.out this
            go_wp2_with fail
            go_ret
            exact ⟨by rw [Hf.out, Hf2.out]; rfl, hBr⟩
      · have hllb : ((Fo.len k : Int) != (Fo.len l : Int)) = true := by simp; omega
        have Hf : Hid (sameT (xv, xn) k (yv, yn) l = false) := by
          have : sameF k l = false := by rw [Bool.eq_false_iff]; exact fun h => hll (sameF_len h)
          simp [Hid, sameT, this]
        subst hv hn
        go_enter Tryd.func13, Tryd.ntmps13
        go_wp2_with fail
        go_ret
        exact ⟨by rw [Hf.out]; rfl, (below_alloc _ _).alloc (by simp) _⟩
    · have Hf : Hid (sameT (xv, xn) k (yv, yn) l = false) := by simp [Hid, sameT, hn]
      have hnb : (xn != yn) = true := by simpa using hn
      subst hv
      clear hn
      go_enter Tryd.func13, Tryd.ntmps13
      go_wp2_with fail
      go_ret
      exact ⟨by rw [Hf.out]; rfl, (below_alloc _ _).alloc (by simp) _⟩
  · have Hf : Hid (sameT (xv, xn) k (yv, yn) l = false) := by simp [Hid, sameT, hv]
    have e : yv = !xv := by cases xv <;> cases yv <;> simp_all
    subst e
    clear hv
    cases xv
    · go_enter Tryd.func13, Tryd.ntmps13
      go_wp2_with fail
      go_ret
      exact ⟨by rw [Hf.out]; rfl, (below_alloc _ _).alloc (by simp) _⟩
    · go_enter Tryd.func13, Tryd.ntmps13
      go_wp2_with fail
      go_ret
      exact ⟨by rw [Hf.out]; rfl, (below_alloc _ _).alloc (by simp) _⟩

/-- The law's own: the same numbers? -/
theorem nums_end {p q : List Int} (hl : p.length = q.length) (h : ∀ i, i < p.length → p.getD i 0 = q.getD i 0) : p = q := by
  apply List.ext_getElem hl
  intro i h1 h2
  have := h i h1
  simpa [List.getD_eq_getElem?_getD, h1, h2] using this

set_option maxRecDepth 100000 in
set_option maxHeartbeats 1000000 in
theorem nums_any (p q : List Int) (pv qv : Value) (w : World) (hp : NIn w p pv) (hq : NIn w q qv) :
    Calls Tryd.prog 24 #[pv, qv] w fun e w' => e = .returned (.bool (decide (p = q))) ∧ Below w.heap.size w w' := by
  obtain ⟨a1, c1, b1, o1, rfl, had1, hlc1, hcm1, hF1⟩ := hp
  obtain ⟨a2, c2, b2, o2, rfl, had2, hlc2, hcm2, hF2⟩ := hq
  unfold maxLen at hcm1 hcm2
  have HF1 := hide hF1
  have HF2 := hide hF2
  clear hF1 hF2
  by_cases hll : p.length = q.length
  · have hllb : ((p.length : Int) != (q.length : Int)) = false := by simp [hll]
    have Hll := hide hll
    have hll1 : q.length ≤ p.length := by omega
    have hll2 : p.length ≤ q.length := by omega
    clear hll
    go_enter Tryd.func24, Tryd.ntmps24
    go_wp2_with fail
    go_loopw [13] (fun i wr => ∃ j : Nat, j ≤ p.length ∧ i = .int .i64 j ∧ (∀ i, i < j → p.getD i 0 = q.getD i 0) ∧ Below w.heap.size w wr) (fun i _ => p.length - (intOf i).toNat)
    case atStart => exact ⟨0, Nat.zero_le _, rfl, fun i hi => by omega, Below.refl _ _⟩
    case round =>
      obtain ⟨j, hj, rfl, hok, hBr⟩ := hrel
      have Hok := hide hok
      clear hok
      by_cases hlt : j < p.length
      · have hlt' : (j : Int) < (p.length : Int) := by omega
        have hlt2 : (j : Int) < (q.length : Int) := by omega
        have hj0 : (0 : Int) ≤ (j : Int) := by omega
        have ha1 : a1 = some ⟨b1, o1, none⟩ := had1 (by omega)
        have ha2 : a2 = some ⟨b2, o2, none⟩ := had2 (by omega)
        subst ha1 ha2
        have p0 := grow_cell hBr _ _ (HF1.out j (by omega))
        have q0 := grow_cell hBr _ _ (HF2.out j (by omega))
        have Hne : Hid (p.getD j 0 ≠ q.getD j 0 → ¬ p = q) := fun h e => h (by rw [e])
        have Hst : Hid (p.getD j 0 = q.getD j 0 → ∀ i, i < j + 1 → p.getD i 0 = q.getD i 0) := fun h i hi => by
          by_cases e : i = j
          · rw [e]; exact h
          · exact Hok.out i (by omega)
        generalize p.getD j 0 = P at *
        generalize q.getD j 0 = Q at *
        clear had1 had2
        by_cases he : P = Q
        · have Hst2 := hide (Hst.out he)
          have heb : (P != Q) = false := by simp [he]
          clear he Hst Hne
          go_wp2_with fail
          go_quiet (fail)
          go_wp2_with fail
          go_roundw
          case rel => exact ⟨j + 1, by omega, by go_num, Hst2.out, below_drewN hBr _⟩
          case measure => simp [intOf]; omega
        · have Hne2 := hide (Hne.out he)
          have heb : (P != Q) = true := by simpa using he
          clear he Hst Hne
          go_wp2_with fail
          go_quiet (fail)
          go_wp2_with fail
          go_ret
          exact ⟨by rw [decide_eq_false Hne2.out]; rfl, below_drewN hBr _⟩
      · have He : Hid (p = q) := nums_end Hll.out (fun i hi => Hok.out i (by omega))
        go_wp2_with fail
        go_ret
        exact ⟨by rw [decide_eq_true He.out]; rfl, hBr⟩
  · have hllb : ((p.length : Int) != (q.length : Int)) = true := by simp; omega
    have Hne : Hid (¬ p = q) := fun e => hll (by rw [e])
    go_enter Tryd.func24, Tryd.ntmps24
    go_wp2_with fail
    go_ret
    exact ⟨by rw [decide_eq_false Hne.out]; rfl, Below.refl _ _⟩

end Go.Proofs.YtleogbdinafpaaaDoor

/- What is at a place: the document's At. -/
namespace Go.Proofs.YtleogbdinafpaaaDoor
open Go.RowKit Go.Deep Go.ChangeShapes Go.WideShapes
attribute [local go_sem ↓] Go.wp_at_zero Go.wp_at_succ

def atR : List Int → Bool × Int → Fo → Option ((Bool × Int) × Fo)
  | [], x, k => some (x, k)
  | n :: p, _, k => if n < 0 ∨ (Fo.len k : Int) ≤ n then none else match k.list[n.toNat]? with
    | some y => atR p y.1 y.2
    | none => none

theorem walk_at {s : List Int} {d : Int} : ∀ {F : Fo} {j : Nat} {y : (Bool × Int) × Fo}, walkF s F d = 0 → F.list[j]? = some y → walkT s y.1 y.2 d = 0
  | .nil, _, _, _, h => by simp [Fo.list] at h
  | .node p q x k r, 0, y, hF, hj => by
    obtain ⟨q1, _⟩ := walkF_ok hF
    simp [Fo.list] at hj
    subst hj
    exact q1
  | .node p q x k r, j + 1, y, hF, hj => by
    obtain ⟨_, q2⟩ := walkF_ok hF
    exact walk_at q2 (by simpa [Fo.list] using hj)

theorem atR_atT {s : List Int} : ∀ {p : List Int} {x : Bool × Int} {k : Fo} {d : Int}, walkT s x k d = 0 → atR p x k = atT p x k
  | [], _, _, _, _ => rfl
  | n :: p, x, k, d, h => by
    obtain ⟨_, ha, hk⟩ := walkT_ok h
    rw [atR, atT]
    by_cases hn : n < 0 ∨ (Fo.len k : Int) ≤ n
    · rw [if_pos hn, if_pos (.inr hn)]
    · rw [if_neg hn]
      have hx : ¬ x.1 = true := fun hx => by
        obtain ⟨xv, xn⟩ := x
        simp only at hx
        subst hx
        obtain ⟨hl, _⟩ := alone_var ha
        rw [hl] at hn
        simp [Fo.len] at hn
        omega
      rw [if_neg (fun h => by rcases h with h | h; exact hx h; exact hn h)]
      cases hy : k.list[n.toNat]? with
      | none => rfl
      | some y => exact atR_atT (walk_at hk hy)

/-- All numbers but the first. -/
theorem nums_tail {n : Int} {p : List Int} {c b o : Nat} (hlc : p.length + 1 ≤ c) (hcm : c ≤ maxLen) : ∃ (a' : Option Addr) (c' : Nat), (∀ w, (Instr.slice 22 (.slice (some ⟨b, o, none⟩) (p.length + 1) c) (some (.int .i64 1)) none none).run Tryd.prog w = .ok (.slice a' p.length c') w) ∧
    ∀ w : World, (∀ i, i < p.length + 1 → w.cell? ⟨b, o + i, none⟩ = some (.int .i64 ((n :: p).getD i 0))) → NIn w p (.slice a' p.length c') := by
  refine ⟨if c = 1 then some ⟨b, o, none⟩ else some ⟨b, o + 1, none⟩, c - 1, fun w => ?_, fun w h => ?_⟩
  · rw [run_slice_l (ht := by kernel_rfl) (h0 := by omega) (h1 := by omega)]
    have e : (sizeOf (Tryd.prog.elem 22)).run Tryd.prog w = .ok 1 w := by
      rw [show Tryd.prog.elem 22 = 3 by kernel_rfl]
      simp [go_sem]
    simp only [Result.andThen, sliced, e]
    by_cases hc : c = 1
    · simp [hc]
    · simp [hc, Addr.add]
  · refine ⟨_, c - 1, b, o + 1, rfl, fun hp => ?_, by omega, by omega, fun i hi => ?_⟩
    · rw [if_neg (by omega)]
    · have := h (i + 1) (by omega)
      rw [show o + 1 + i = o + (i + 1) by omega, this]
      simp

theorem BIn.node {X : Nat → Prop} {w : World} {p q : Nat} {x : Bool × Int} {k r : Fo} {b o : Nat} (h : BIn X w (.node p q x k r) b o) :
    w.cell? ⟨b, o, none⟩ = some (.bool x.1) ∧ w.cell? ⟨b, o + 1, none⟩ = some (.int .i64 x.2) ∧ (∃ v, w.cell? ⟨b, o + 2, none⟩ = some v ∧ SB X w k v) ∧ BIn X w r b (o + 3) := by
  obtain ⟨h0, h1, ⟨a, c, b', o', h2, h3, h4, h5, h6⟩, h7⟩ := h
  exact ⟨h0, h1, ⟨_, h2, a, c, b', o', rfl, h3, h4, h5, h6⟩, h7⟩
theorem BIn.at {X : Nat → Prop} {w : World} : ∀ {F : Fo} {b o i : Nat} {x : Bool × Int} {k : Fo}, BIn X w F b o → F.list[i]? = some (x, k) →
    w.cell? ⟨b, o + i * 3, none⟩ = some (.bool x.1) ∧ w.cell? ⟨b, o + i * 3 + 1, none⟩ = some (.int .i64 x.2) ∧ ∃ v, w.cell? ⟨b, o + i * 3 + 2, none⟩ = some v ∧ SB X w k v
  | .nil, _, _, _, _, _, _, h => by simp [Fo.list] at h
  | .node _ _ y k' r, b, o, 0, x, k, hF, h => by
    simp only [Fo.list, List.getElem?_cons_zero, Option.some.injEq, Prod.mk.injEq] at h
    obtain ⟨rfl, rfl⟩ := h
    obtain ⟨h0, h1, h2, _⟩ := hF.node
    simpa using ⟨h0, h1, h2⟩
  | .node _ _ y k' r, b, o, i + 1, x, k, hF, h => by
    simp only [Fo.list, List.getElem?_cons_succ] at h
    obtain ⟨_, _, _, h3⟩ := hF.node
    have := BIn.at h3 h
    have e : o + 3 + i * 3 = o + (i + 1) * 3 := by omega
    rwa [e] at this
/-- What lies in memory lies in the blocks that there are. -/
theorem FIn.toB {w : World} : ∀ {F : Fo} {b o : Nat}, FIn w F b o → BIn (fun q => q < w.heap.size) w F b o
  | .nil, _, _, _ => trivial
  | .node _ _ x k r, b, o, ⟨h0, h1, ⟨a, c, b', o', h2, h3, h4, h5, h6⟩, h7⟩ => by
    refine ⟨h0, h1, ⟨a, c, b', o', h2, fun h => ⟨h3 h, ?_⟩, h4, h5, h6.toB⟩, h7.toB⟩
    cases k with
    | nil => simp [Fo.len] at h
    | node _ _ _ _ _ => exact World.block_lt_of_cell? _ _ h6.1
theorem SIn.toB {w : World} {k : Fo} {v : Value} (h : SIn w k v) : SB (fun q => q < w.heap.size) w k v := by
  obtain ⟨a, c, b, o, rfl, h3, h4, h5, h6⟩ := h
  refine ⟨a, c, b, o, rfl, fun h => ⟨h3 h, ?_⟩, h4, h5, h6.toB⟩
  cases k with
  | nil => simp [Fo.len] at h
  | node _ _ _ _ _ => exact World.block_lt_of_cell? _ _ h6.1
theorem SB.grow {X : Nat → Prop} {w w' : World} {k : Fo} {v : Value} (h : SB X w k v) (hX : ∀ q, X q → q < w.heap.size) (hb : Below w.heap.size w w') : SB X w' k v :=
  h.frame (fun _ h => h) (fun q i hq => hb.cell (p := ⟨q, i, none⟩) (hX q hq))
theorem SB.shrink {X : Nat → Prop} {w w' : World} {k : Fo} {v : Value} (h : SB X w' k v) (hX : ∀ q, X q → q < w.heap.size) (hb : Below w.heap.size w w') : SB X w k v :=
  h.frame (fun _ h => h) (fun q i hq => (hb.cell (p := ⟨q, i, none⟩) (hX q hq)).symm)

def AtRSaid (p : List Int) : Prop := ∀ (X : Nat → Prop) (x : Bool × Int) (k : Fo) (a pv : Value) (w : World), (∀ q, X q → q < w.heap.size) → SB X w k a → NIn w p pv →
    Calls Tryd.prog 28 #[.agg #[.bool x.1, .int .i64 x.2, a], pv] w fun e w' => ∃ (b : Bool) (y : Bool × Int) (l : Fo) (a1 : Option Addr) (a2 a3 : Nat), e = .returned (.tuple #[.agg #[.bool y.1, .int .i64 y.2, .slice a1 a2 a3], .bool b]) ∧ SB X w l (.slice a1 a2 a3) ∧ atR p x k = (if b then some (y, l) else none) ∧ (b = false → y = (false, 0) ∧ l = .nil) ∧ Below w.heap.size w w'

set_option maxRecDepth 100000 in
set_option maxHeartbeats 1000000 in
theorem atR_any : ∀ p : List Int, AtRSaid p := by
  intro p
  induction p with
  | nil =>
    intro X x k a pv w hX hS hN
    obtain ⟨xv, xn⟩ := x
    have HS := hide hS
    obtain ⟨ad, c, b, o, rfl, -, -, -, -⟩ := hS
    obtain ⟨pa, pc, pb, po, rfl, -, -, -, -⟩ := hN
    go_enter Tryd.func28, Tryd.ntmps28
    go_wp2_with fail
    exact bodyPost_ret (v := .tuple #[.agg #[.bool xv, .int .i64 xn, .slice ad (Fo.len k) c], .bool true]) (by simp [results, Tryd.results28, go_sem]) rfl ⟨true, (xv, xn), k, _, _, _, rfl, HS.out, rfl, (fun h => by cases h), (below_alloc _ _).alloc (by simp) _⟩
  | cons n p ih =>
    intro X x k a pv w hX hS hN
    obtain ⟨xv, xn⟩ := x
    have HS := hide hS
    have HI := hide ih
    have HX := hide hX
    obtain ⟨ad, c, b, o, rfl, had, hlc, hcm, hF⟩ := hS
    obtain ⟨pa, pc, pb, po, rfl, hpa, hplc, hpcm, hpF⟩ := hN
    have hpa' : pa = some ⟨pb, po, none⟩ := hpa (by simp)
    subst hpa'
    unfold maxLen at hcm
    have HF := hide hF
    have hp0 : w.cell? ⟨pb, po, none⟩ = some (.int .i64 n) := by simpa using hpF 0 (by simp)
    simp only [List.length_cons] at hplc ⊢
    obtain ⟨ta, tc, hsl, htl⟩ := nums_tail (n := n) (b := pb) (o := po) hplc hpcm
    have HN : Hid (NIn w p (.slice ta p.length tc)) := htl w (by simpa using hpF)
    have hpm : pc ≤ 9223372036854775807 := by unfold maxLen at hpcm; omega
    clear ih hF hpF hpa htl hpcm hX
    have hBB : Below w.heap.size w ((w.alloc (.cells #[.bool xv, .int .i64 xn, .slice ad (Fo.len k) c] 26)).alloc (.cells #[.bool false, .int .i64 0, .slice none 0 0] 26)) := (below_alloc _ _).alloc (by simp) _
    have hp0' := grow_cell hBB _ _ hp0
    by_cases hn0 : n < 0
    · have Hf : Hid (atR (n :: p) (xv, xn) k = none) := by rw [Hid, atR, if_pos (.inl hn0)]
      go_enter Tryd.func28, Tryd.ntmps28
      go_wp2_with fail
      go_quiet (fail)
      go_wp2_with fail
      rw [Hf.out]
      exact bodyPost_ret (v := .tuple #[.agg #[.bool false, .int .i64 0, .slice none 0 0], .bool false]) (by simp [results, Tryd.results28, go_sem]) rfl ⟨false, (false, 0), .nil, _, _, _, rfl, SB.nil _ _, rfl, fun _ => ⟨rfl, rfl⟩, set3_below (o := 0) (below_drewN hBB _) (by simp)⟩
    by_cases hns : (Fo.len k : Int) ≤ n
    · have Hf : Hid (atR (n :: p) (xv, xn) k = none) := by rw [Hid, atR, if_pos (.inr hns)]
      go_enter Tryd.func28, Tryd.ntmps28
      go_wp2_with fail
      go_quiet (fail)
      go_wp2_with fail
      rw [Hf.out]
      exact bodyPost_ret (v := .tuple #[.agg #[.bool false, .int .i64 0, .slice none 0 0], .bool false]) (by simp [results, Tryd.results28, go_sem]) rfl ⟨false, (false, 0), .nil, _, _, _, rfl, SB.nil _ _, rfl, fun _ => ⟨rfl, rfl⟩, set3_below (o := 0) (below_drewN hBB _) (by simp)⟩
    have hn0' : 0 ≤ n := by omega
    have hns' : n < (Fo.len k : Int) := by omega
    have had' : ad = some ⟨b, o, none⟩ := (had (by omega)).1
    subst had'
    obtain ⟨⟨⟨yv, yn⟩, yk⟩, hy⟩ : ∃ y, k.list[n.toNat]? = some y := ⟨k.list[n.toNat]'(by rw [Fo.len_list]; omega), by simp⟩
    obtain ⟨c0, c1, yv', c2, hSy⟩ := HF.out.at hy
    have HSy := hide hSy
    obtain ⟨ya, yc, yb, yo, rfl, -, -, -, -⟩ := hSy
    have Hf : Hid (atR (n :: p) (xv, xn) k = atR p (yv, yn) yk) := by rw [Hid, atR, if_neg (by omega), hy]
    have c0' := grow_cell hBB _ _ c0
    have c1' := grow_cell hBB _ _ c1
    have c2' := grow_cell hBB _ _ c2
    clear hy had
    go_enter Tryd.func28, Tryd.ntmps28
    go_wp2_with fail
    go_quiet (fail)
    go_wp2_with fail
    generalize hw5 : World.drewN _ _ = w5
    have d0 : w5.cell? ⟨pb, po, none⟩ = some (.int .i64 n) := by rw [← hw5]; exact hp0'
    have d1 : w5.cell? ⟨b, o + n.toNat * 3, none⟩ = some (.bool yv) := by rw [← hw5]; exact c0'
    have d2 : w5.cell? ⟨b, o + n.toNat * 3 + 1, none⟩ = some (.int .i64 yn) := by rw [← hw5]; exact c1'
    have d3 : w5.cell? ⟨b, o + n.toNat * 3 + 2, none⟩ = some (.slice ya (Fo.len yk) yc) := by rw [← hw5]; exact c2'
    have t2 : w5.cell? ⟨w.heap.size, 2, none⟩ = some (.slice (some ⟨b, o, none⟩) (Fo.len k) c) := by rw [← hw5]; simp
    have r0 : w5.cell? ⟨w.heap.size + 1, 0, none⟩ = some (.bool false) := by rw [← hw5]; simp
    have r1 : w5.cell? ⟨w.heap.size + 1, 1, none⟩ = some (.int .i64 0) := by rw [← hw5]; simp
    have r2 : w5.cell? ⟨w.heap.size + 1, 2, none⟩ = some (.slice none 0 0) := by rw [← hw5]; simp
    have rf : ∀ i, w5.frozen? ⟨w.heap.size + 1, i, none⟩ = false := fun i => by rw [← hw5]; simp
    have hB5 : Below w.heap.size w w5 := by rw [← hw5]; exact below_drewN hBB _
    have hs5 : w.heap.size + 1 < w5.heap.size := World.block_lt_of_cell? _ _ r0
    have hne1 : w.heap.size + 1 ≠ pb := by have := World.block_lt_of_cell? _ _ hp0; simp only at this; omega
    have hne2 : w.heap.size + 1 ≠ b := by have := World.block_lt_of_cell? _ _ c0; simp only at this; omega
    clear hw5 hp0' c0' c1' c2' hBB hp0 c0 c1 c2
    go_region_held3 (fun w' => w'.cell? ⟨w.heap.size, 2, none⟩ = some (.slice (some ⟨b, o, none⟩) (Fo.len k) c) ∧ w'.cell? ⟨pb, po, none⟩ = some (.int .i64 n) ∧ w'.cell? ⟨b, o + n.toNat * 3, none⟩ = some (.bool yv) ∧ w'.cell? ⟨b, o + n.toNat * 3 + 1, none⟩ = some (.int .i64 yn) ∧ w'.cell? ⟨b, o + n.toNat * 3 + 2, none⟩ = some (.slice ya (Fo.len yk) yc))
      (first
        | go_keep
        | exact ⟨t2', d0', d1', d2', d3'⟩)
      (first
        | (go_at_call 28; refine (HI.out X (yv, yn) yk _ _ _ ?_ ?_ ?_).mono ?_; (exact fun q hq => Nat.lt_of_lt_of_le (HX.out q hq) hB5.size); (exact (HSy.out.grow HX.out hB5).frame (fun _ h => h) (fun _ _ _ => rfl)); (exact (HN.out.below hB5).drew); rintro e w2 ⟨bb, ⟨zv, zn⟩, zl, a1, a2, a3, rfl, hSz, hat, hno, hb2⟩; have t2' := grow_cell hb2 _ _ t2; have d0' := grow_cell hb2 _ _ d0; have d1' := grow_cell hb2 _ _ d1; have d2' := grow_cell hb2 _ _ d2; have d3' := grow_cell hb2 _ _ d3
           have r0' := grow_cell hb2 _ _ r0; have r1' := grow_cell hb2 _ _ r1; have r2' := grow_cell hb2 _ _ r2; have rf' : ∀ i, w2.frozen? ⟨w.heap.size + 1, i, none⟩ = false := (fun i => (hb2.frozen hs5).trans (rf i)); have Hz := hide (And.intro (hSz.shrink (w := w) HX.out hB5.drew) (And.intro hat (And.intro hno (below_step hB5 (((Below.refl _ _).drew).trans hb2))))); clear hSz hat hno hb2))
    go_wp2_with fail
    rw [Hf.out]
    exact bodyPost_ret (v := .tuple #[.agg #[.bool zv, .int .i64 zn, .slice a1 a2 a3], .bool bb]) (by simp [results, Tryd.results28, go_sem, r0', r1', r2']) rfl ⟨bb, (zv, zn), zl, _, _, _, rfl, Hz.out.1, Hz.out.2.1, Hz.out.2.2.1, set3_below (o := 0) Hz.out.2.2.2 (by omega)⟩

end Go.Proofs.YtleogbdinafpaaaDoor

/- A row of terms whose head lies in a variable's box: one more term. -/
namespace Go.Proofs.YtleogbdinafpaaaDoor
open Go.RowKit Go.Deep Go.ChangeShapes Go.WideShapes

/-- Where a row's terms may lie: in X, or behind the box B, but not in the row itself. -/
def Rm (B : Nat) (X : Nat → Prop) (w : World) (v : Value) : Nat → Prop := fun q => X q ∨ (B + 1 ≤ q ∧ q < w.heap.size ∧ some q ≠ v.ownBlock)

theorem row_step {B : Nat} {X : Nat → Prop} {wr w1 w3 : World} {acc : Fo} {v v' : Value} {x : Bool × Int} {k : Fo} {a : Value} {g cap : Nat} {xs : List Value} {ob : Obj}
    (h1 : wr.ownsRow (B + 1) 26 3 v (Fo.len acc) xs) (h2 : CellsOf (Rm B X wr v) wr acc xs) (hX : ∀ q, X q → q < B) (hBl : B < wr.heap.size) (hBc : ∃ u, wr.cell? ⟨B, 2, none⟩ = some u)
    (hsz : wr.heap.size ≤ w1.heap.size) (hb : ∀ q, X q ∨ B ≤ q → q < wr.heap.size → w1.heap[q]? = wr.heap[q]?) (hk : SB (fun q => X q ∨ (wr.heap.size ≤ q ∧ q < w1.heap.size)) w1 k a)
    (hv' : v' = .slice (some ⟨g, 0, none⟩) (Fo.len acc + 1) cap) (ho : w3.ownsRow (B + 1) 26 3 v' (Fo.len acc + 1) (xs ++ [.bool x.1, .int .i64 x.2, a])) (hg : (w1.alloc ob).grownBy w3 v.ownBlock)
    (hat : v.ownBlock = some g ∨ g = w1.heap.size + 1) (hlt : g < w3.heap.size) :
    (w3.setCell ⟨B, 2, none⟩ v').ownsRow (B + 1) 26 3 v' (Fo.len (Fo.snoc acc x k)) (xs ++ [.bool x.1, .int .i64 x.2, a]) ∧ CellsOf (Rm B X (w3.setCell ⟨B, 2, none⟩ v') v') (w3.setCell ⟨B, 2, none⟩ v') (Fo.snoc acc x k) (xs ++ [.bool x.1, .int .i64 x.2, a]) ∧
    (w3.setCell ⟨B, 2, none⟩ v').cell? ⟨B, 2, none⟩ = some v' ∧ (∀ q, q < w1.heap.size → some q ≠ v.ownBlock → q ≠ B → (w3.setCell ⟨B, 2, none⟩ v').heap[q]? = w1.heap[q]?) ∧
    (∀ i, i ≠ 2 → (w3.setCell ⟨B, 2, none⟩ v').cell? ⟨B, i, none⟩ = wr.cell? ⟨B, i, none⟩) ∧ (∀ i, (w3.setCell ⟨B, 2, none⟩ v').frozen? ⟨B, i, none⟩ = wr.frozen? ⟨B, i, none⟩) ∧ w1.heap.size < (w3.setCell ⟨B, 2, none⟩ v').heap.size := by
  have hs3 := hg.size
  simp at hs3
  have hBo : some B ≠ v.ownBlock := fun e => by have := (owns_at h1 B e.symm).1; omega
  have far : ∀ q, q < w1.heap.size → some q ≠ v.ownBlock → q ≠ B → (w3.setCell ⟨B, 2, none⟩ v').heap[q]? = w1.heap[q]? := fun q hq hn hqB => by
    rw [Below.heap_setCell _ _ _ _ hqB, hg.block q (by simp; omega) hn, Below.heap_alloc _ _ _ hq]
  have farB : w3.heap[B]? = wr.heap[B]? := by rw [hg.block B (by simp; omega) hBo, Below.heap_alloc _ _ _ (by omega), hb B (.inr (Nat.le_refl _)) hBl]
  have hv'g : v'.ownBlock = some g := by rw [hv']; rfl
  have hgB : B + 1 ≤ g := (owns_at ho g hv'g).1
  refine ⟨by rw [snoc_len]; exact ownsRow_setCell_below ho (by simp) _, ?_, ?_, far, ?_, ?_, by rw [World.size_setCell]; omega⟩
  · refine CellsOf.snoc ?_ ?_
    · refine hk.frame (fun q hq => ?_) (fun q i hq => World.cell?_of_block (far q ?_ ?_ ?_))
      · rcases hq with hq | ⟨q1, q2⟩
        · exact .inl hq
        · refine .inr ⟨by omega, by rw [World.size_setCell]; omega, ?_⟩
          rw [hv'g]
          intro e
          simp at e
          subst e
          rcases hat with e | e
          · have := (owns_at h1 _ e).2; omega
          · omega
      · rcases hq with hq | hq
        · have := hX q hq; omega
        · exact hq.2
      · intro e
        have h3 := owns_at h1 _ e.symm
        rcases hq with hq | hq
        · have := hX q hq; omega
        · omega
      · rcases hq with hq | hq
        · have := hX q hq; omega
        · omega
    · refine CellsOf.frame (fun q hq => ?_) (fun q i hq => ?_) h2
      · rcases hq with hq | ⟨q1, q2, q3⟩
        · exact .inl hq
        · refine .inr ⟨q1, by rw [World.size_setCell]; omega, ?_⟩
          rw [hv'g]
          intro e
          simp at e
          subst e
          rcases hat with e | e
          · exact q3 e.symm
          · omega
      · have hq' : q < wr.heap.size ∧ (X q ∨ B ≤ q) ∧ some q ≠ v.ownBlock ∧ q ≠ B := by
          rcases hq with hq | ⟨q1, q2, q3⟩
          · have := hX q hq
            exact ⟨by omega, .inl hq, fun e => by have := (owns_at h1 _ e.symm).1; omega, by omega⟩
          · exact ⟨q2, .inr (by omega), q3, by omega⟩
        exact World.cell?_of_block ((far q (by omega) hq'.2.2.1 hq'.2.2.2).trans (hb q hq'.2.1 hq'.1))
  · obtain ⟨u, hu⟩ := hBc
    exact set_same (u := u) (by rw [World.cell?_of_block farB]; exact hu)
  · intro i hi
    rw [set_other (by intro e; simp only [Addr.mk.injEq] at e; omega)]
    exact World.cell?_of_block farB
  · intro i
    rw [World.frozen?_setCell]
    exact World.frozen?_of_block farB

/-- The terms of a forest, each without what is no part of it. -/
def Fo.nl (F : Fo) : List ((Bool × Int) × Fo) := F.list.map fun y => (y.1, Fo.norm y.2)
theorem nl_len (F : Fo) : (Fo.nl F).length = Fo.len F := by rw [Fo.nl, List.length_map, Fo.len_list]
theorem nl_snoc : ∀ (F : Fo) (x : Bool × Int) (k : Fo), Fo.nl (Fo.snoc F x k) = Fo.nl F ++ [(x, Fo.norm k)]
  | .nil, _, _ => rfl
  | .node _ _ y l r, x, k => by
    have := nl_snoc r x k
    unfold Fo.nl at this ⊢
    simp [Fo.snoc, Fo.list, this]
theorem nl_norm : ∀ {F G : Fo}, Fo.nl F = Fo.nl G → Fo.norm F = Fo.norm G
  | .nil, .nil, _ => rfl
  | .nil, .node _ _ _ _ _, h => by simp [Fo.nl, Fo.list] at h
  | .node _ _ _ _ _, .nil, h => by simp [Fo.nl, Fo.list] at h
  | .node _ _ x k r, .node _ _ y l q, h => by
    simp only [Fo.nl, Fo.list, List.map_cons, List.cons.injEq, Prod.mk.injEq] at h
    obtain ⟨⟨e1, e2⟩, e3⟩ := h
    simp [Fo.norm, e1, e2, nl_norm (F := r) (G := q) e3]
theorem norm_nl : ∀ {F G : Fo}, Fo.norm F = Fo.norm G → Fo.nl F = Fo.nl G
  | .nil, .nil, _ => rfl
  | .nil, .node _ _ _ _ _, h => by simp [Fo.norm] at h
  | .node _ _ _ _ _, .nil, h => by simp [Fo.norm] at h
  | .node _ _ x k r, .node _ _ y l q, h => by
    simp only [Fo.norm, BT.node.injEq, true_and] at h
    obtain ⟨e1, e2, e3⟩ := h
    have := norm_nl (F := r) (G := q) e3
    unfold Fo.nl at this
    simp [Fo.nl, Fo.list, e1, e2, this]
theorem same_norm : ∀ {F G : Fo}, Fo.norm F = Fo.norm G → sameF F G = true
  | .nil, .nil, _ => rfl
  | .nil, .node _ _ _ _ _, h => by simp [Fo.norm] at h
  | .node _ _ _ _ _, .nil, h => by simp [Fo.norm] at h
  | .node _ _ x k r, .node _ _ y l q, h => by
    simp only [Fo.norm, BT.node.injEq, true_and] at h
    obtain ⟨e1, e2, e3⟩ := h
    simp [sameF, e1, same_norm e2, same_norm e3]
theorem sameT_norm {x y : Bool × Int} {k l : Fo} (h : x = y) (hn : Fo.norm k = Fo.norm l) : sameT x k y l = true := by
  subst h; simp [sameT, same_norm hn]

end Go.Proofs.YtleogbdinafpaaaDoor

/- What is put at a place: the document's Put. -/
namespace Go.Proofs.YtleogbdinafpaaaDoor
open Go.RowKit Go.Deep Go.ChangeShapes Go.WideShapes
attribute [local go_sem ↓] Go.wp_at_zero Go.wp_at_succ

def putR : List Int → (Bool × Int) × Fo → (Bool × Int) × Fo → (Bool × Int) × Fo
  | [], _, u => u
  | n :: p, t, u => if n < 0 ∨ (Fo.len t.2 : Int) ≤ n then t else (t.1, setF t.2 n.toNat (fun s => putR p s u))

theorem setF_congr {f g : (Bool × Int) × Fo → (Bool × Int) × Fo} : ∀ {F : Fo} {i : Nat}, (∀ y, F.list[i]? = some y → f y = g y) → setF F i f = setF F i g
  | .nil, _, _ => rfl
  | .node _ _ x k r, 0, h => by simp [setF, h (x, k) (by simp [Fo.list])]
  | .node _ _ x k r, i + 1, h => by simp [setF, setF_congr (F := r) (i := i) (fun y hy => h y (by simpa [Fo.list] using hy))]

theorem putR_putT {s : List Int} {u : (Bool × Int) × Fo} : ∀ {p : List Int} {x : Bool × Int} {k : Fo} {d : Int}, walkT s x k d = 0 → putR p (x, k) u = putT p (x, k) u
  | [], _, _, _, _ => rfl
  | n :: p, x, k, d, h => by
    obtain ⟨_, ha, hk⟩ := walkT_ok h
    rw [putR, putT]
    by_cases hn : n < 0 ∨ (Fo.len k : Int) ≤ n
    · rw [if_pos hn, if_pos (.inr hn)]
    · rw [if_neg hn]
      have hx : ¬ x.1 = true := fun hx => by
        obtain ⟨xv, xn⟩ := x
        simp only at hx
        subst hx
        obtain ⟨hl, _⟩ := alone_var ha
        rw [hl] at hn
        simp [Fo.len] at hn
        omega
      rw [if_neg (fun h => by rcases h with h | h; exact hx h; exact hn h)]
      exact congrArg (Prod.mk x) (setF_congr fun y hy => putR_putT (walk_at hk hy))

theorem setF_each (f : (Bool × Int) × Fo → (Bool × Int) × Fo) : ∀ (F : Fo) (i j : Nat) (y : (Bool × Int) × Fo), F.list[j]? = some y → (setF F i f).list[j]? = some (if j = i then f y else y)
  | .nil, _, _, _, h => by simp [Fo.list] at h
  | .node _ _ x k r, 0, 0, y, h => by simp [Fo.list] at h; simp [setF, Fo.list, h]
  | .node _ _ x k r, 0, j + 1, y, h => by simp [Fo.list] at h; simp [setF, Fo.list, h]
  | .node _ _ x k r, i + 1, 0, y, h => by simp [Fo.list] at h; simp [setF, Fo.list, h]
  | .node _ _ x k r, i + 1, j + 1, y, h => by
    have := setF_each f r i j y (by simpa [Fo.list] using h)
    simp [setF, Fo.list, this]

/-- The j-th term of what Put makes. -/
theorem putR_at {n : Int} {p : List Int} {x : Bool × Int} {k : Fo} {u y : (Bool × Int) × Fo} {j : Nat} (hy : k.list[j]? = some y) : (putR (n :: p) (x, k) u).2.list[j]? = some (if (j : Int) = n then putR p y u else y) := by
  have hj : j < Fo.len k := by rw [← Fo.len_list]; exact (List.getElem?_eq_some_iff.1 hy).1
  rw [putR]
  by_cases hn : n < 0 ∨ (Fo.len k : Int) ≤ n
  · rw [if_pos hn, if_neg (by omega)]; exact hy
  · rw [if_neg hn]
    simp only
    rw [setF_each _ _ _ _ _ hy]
    by_cases e : (j : Int) = n
    · rw [if_pos e, if_pos (by omega)]
    · rw [if_neg e, if_neg (by omega)]
theorem putR_len (n : Int) (p : List Int) (x : Bool × Int) (k : Fo) (u : (Bool × Int) × Fo) : Fo.len (putR (n :: p) (x, k) u).2 = Fo.len k ∧ (putR (n :: p) (x, k) u).1 = x := by
  rw [putR]
  split
  · exact ⟨rfl, rfl⟩
  · exact ⟨setF_len _ _ _, rfl⟩

def PutRSaid (p : List Int) : Prop := ∀ (X : Nat → Prop) (x : Bool × Int) (k : Fo) (a pv : Value) (y : Bool × Int) (l : Fo) (c : Value) (w : World), (∀ q, X q → q < w.heap.size) → SB X w k a → SB X w l c → NIn w p pv → Fo.len k ≤ 1000 → Fo.narrow k →
    Calls Tryd.prog 30 #[.agg #[.bool x.1, .int .i64 x.2, a], pv, .agg #[.bool y.1, .int .i64 y.2, c]] w fun e w' => ∃ (z : Bool × Int) (r : Fo) (a1 : Option Addr) (a2 a3 : Nat), e = .returned (.agg #[.bool z.1, .int .i64 z.2, .slice a1 a2 a3]) ∧ SB (fun q => X q ∨ New w w' q) w' r (.slice a1 a2 a3) ∧
      z = (putR p (x, k) (y, l)).1 ∧ Fo.norm r = Fo.norm (putR p (x, k) (y, l)).2 ∧ Below w.heap.size w w'

theorem new_cell {w0 : World} {n i : Nat} {c : Array Value} {t : TypeId} (h : w0.heap.size = n) : (w0.alloc (.cells c t)).cell? ⟨n, i, none⟩ = c[i]? := by subst h; simp
theorem new_frozen {w0 : World} {n i : Nat} {c : Array Value} {t : TypeId} (h : w0.heap.size = n) : (w0.alloc (.cells c t)).frozen? ⟨n, i, none⟩ = false := by subst h; simp
theorem size2 (w : World) (o1 o2 : Obj) : ((w.alloc o1).alloc o2).heap.size = w.heap.size + 2 := by rw [World.size_alloc, World.size_alloc]
theorem size3 (w : World) (o1 o2 o3 : Obj) : (((w.alloc o1).alloc o2).alloc o3).heap.size = w.heap.size + 3 := by rw [World.size_alloc, size2]

/-- So far: j terms are copied. -/
def PutRel (w W0 : World) (X : Nat → Prop) (T : Fo) (xv : Bool) (xn : Int) (j : Nat) (wr : World) : Prop :=
  ∃ (acc : Fo) (v : Value) (xs : List Value), Fo.nl acc = (Fo.nl T).take j ∧ wr.ownsRow (w.heap.size + 4) 26 3 v (Fo.len acc) xs ∧ CellsOf (Rm (w.heap.size + 3) X wr v) wr acc xs ∧
    wr.cell? ⟨w.heap.size + 3, 0, none⟩ = some (.bool xv) ∧ wr.cell? ⟨w.heap.size + 3, 1, none⟩ = some (.int .i64 xn) ∧ wr.cell? ⟨w.heap.size + 3, 2, none⟩ = some v ∧ (∀ i, wr.frozen? ⟨w.heap.size + 3, i, none⟩ = false) ∧ Below (w.heap.size + 3) W0 wr

theorem nl_take {T : Fo} {j : Nat} {z : (Bool × Int) × Fo} (h : T.list[j]? = some z) : (Fo.nl T).take (j + 1) = (Fo.nl T).take j ++ [(z.1, Fo.norm z.2)] := by
  rw [List.take_add_one]
  congr 1
  simp [Fo.nl, h]

theorem put_next {w W0 wr w1 w3 : World} {X : Nat → Prop} {T acc r : Fo} {xv : Bool} {xn : Int} {j : Nat} {v v' a : Value} {z z' : Bool × Int} {r' : Fo} {g cap : Nat} {xs : List Value} {ob : Obj}
    (hnl : Fo.nl acc = (Fo.nl T).take j) (h1 : wr.ownsRow (w.heap.size + 4) 26 3 v (Fo.len acc) xs) (h2 : CellsOf (Rm (w.heap.size + 3) X wr v) wr acc xs) (hX : ∀ q, X q → q < w.heap.size)
    (q0 : wr.cell? ⟨w.heap.size + 3, 0, none⟩ = some (.bool xv)) (q1 : wr.cell? ⟨w.heap.size + 3, 1, none⟩ = some (.int .i64 xn)) (q2 : wr.cell? ⟨w.heap.size + 3, 2, none⟩ = some v) (qf : ∀ i, wr.frozen? ⟨w.heap.size + 3, i, none⟩ = false)
    (hB3 : Below (w.heap.size + 3) W0 wr) (hb : Below wr.heap.size wr w1) (hk : SB (fun q => X q ∨ (wr.heap.size ≤ q ∧ q < w1.heap.size)) w1 r a) (hTj : T.list[j]? = some (z', r')) (hz : z = z') (hr : Fo.norm r = Fo.norm r')
    (hv' : v' = .slice (some ⟨g, 0, none⟩) (Fo.len acc + 1) cap) (ho : w3.ownsRow (w.heap.size + 4) 26 3 v' (Fo.len acc + 1) (xs ++ [.bool z.1, .int .i64 z.2, a])) (hg : (w1.alloc ob).grownBy w3 v.ownBlock)
    (hat : v.ownBlock = some g ∨ g = w1.heap.size + 1) (hlt : g < w3.heap.size) : PutRel w W0 X T xv xn (j + 1) (w3.setCell ⟨w.heap.size + 3, 2, none⟩ v') := by
  have hBl : w.heap.size + 3 < wr.heap.size := World.block_lt_of_cell? _ _ q0
  obtain ⟨r1, r2, r3, r4, r5, r6, r7⟩ := row_step (B := w.heap.size + 3) (x := z) (k := r) h1 h2 (fun q hq => by have := hX q hq; omega) hBl ⟨_, q2⟩ hb.size (fun q _ hq => hb.block q hq) hk hv' ho hg hat hlt
  refine ⟨Fo.snoc acc z r, v', _, ?_, r1, r2, (r5 0 (by omega)).trans q0, (r5 1 (by omega)).trans q1, r3, fun i => (r6 i).trans (qf i), ?_⟩
  · rw [nl_snoc, nl_take hTj, hnl, hz, hr]
  · have hb1 : Below (w.heap.size + 3) W0 w1 := hB3.trans (hb.mono (by omega))
    have hb2 : Below (w.heap.size + 3) W0 (w1.alloc ob) := hb1.alloc (by have := hb.size; omega) _
    exact (hb2.grown hg (by simp; have := hb.size; omega) (fun q hq => by have := (owns_at h1 q hq).1; omega)).setCell (by simp) _

theorem out_cell {wa w3 : World} {ob : Obj} {row : Option Nat} {B i : Nat} {u : Value} (hg : (wa.alloc ob).grownBy w3 row) (hB : B < wa.heap.size) (hn : some B ≠ row) (h : wa.cell? ⟨B, i, none⟩ = some u) : w3.cell? ⟨B, i, none⟩ = some u := by
  rw [hg.cell_far ⟨B, i, none⟩ (by simp; omega) hn, World.cell?_alloc_lt _ _ _ hB]; exact h
theorem out_frozen {wa w3 : World} {ob : Obj} {row : Option Nat} {B : Nat} (hg : (wa.alloc ob).grownBy w3 row) (hB : B < wa.heap.size) (hn : some B ≠ row) (h : ∀ i, wa.frozen? ⟨B, i, none⟩ = false) : ∀ i, w3.frozen? ⟨B, i, none⟩ = false := fun i => by
  rw [hg.frozen_far ⟨B, i, none⟩ (by simp; omega) hn, World.frozen?_of_block (Below.heap_alloc wa ob B hB)]; exact h i

set_option maxHeartbeats 2000000 in
set_option maxRecDepth 100000 in
theorem putR_any : ∀ p : List Int, PutRSaid p := by
  intro p
  induction p with
  | nil =>
    intro X x k a pv y l c w hX hS hU hN hl hn
    obtain ⟨xv, xn⟩ := x
    obtain ⟨yv, yn⟩ := y
    have HU := hide hU
    have HX := hide hX
    obtain ⟨ad, tc, b, o, rfl, -, -, -, -⟩ := hS
    obtain ⟨ud, uc, ub, uo, rfl, -, -, -, -⟩ := hU
    obtain ⟨pa, pc, pb, po, rfl, -, -, -, -⟩ := hN
    clear hX
    have hBB : Below w.heap.size w (((w.alloc (.cells #[.bool xv, .int .i64 xn, .slice ad (Fo.len k) tc] 26)).alloc (.cells #[.bool yv, .int .i64 yn, .slice ud (Fo.len l) uc] 26)).alloc (.cells #[.bool yv, .int .i64 yn, .slice ud (Fo.len l) uc] 26)) := ((below_alloc _ _).alloc (by simp) _).alloc (by simp; omega) _
    have HBB := hide hBB
    clear hBB
    go_enter Tryd.func30, Tryd.ntmps30
    go_wp2_with fail
    exact bodyPost_ret (v := .agg #[.bool yv, .int .i64 yn, .slice ud (Fo.len l) uc]) (by simp [results, Tryd.results30, go_sem]) rfl ⟨(yv, yn), l, _, _, _, rfl, (HU.out.grow HX.out HBB.out).frame (fun _ h => .inl h) (fun _ _ _ => rfl), rfl, rfl, HBB.out⟩
  | cons n p ih =>
    intro X x k a pv y l c w hX hS hU hN hl hn
    obtain ⟨xv, xn⟩ := x
    obtain ⟨yv, yn⟩ := y
    have HU := hide hU
    have HS := hide hS
    have HX := hide hX
    have HI := hide ih
    have Hn := hide hn
    obtain ⟨ad, tc, b, o, rfl, had, hlc, hcm, hF⟩ := hS
    obtain ⟨ud, uc, ub, uo, rfl, -, -, -, -⟩ := hU
    obtain ⟨pa, pc, pb, po, rfl, hpa, hplc, hpcm, hpF⟩ := hN
    have hpa' : pa = some ⟨pb, po, none⟩ := hpa (by simp)
    subst hpa'
    unfold maxLen at hcm
    have HF := hide hF
    have hp0 : w.cell? ⟨pb, po, none⟩ = some (.int .i64 n) := by simpa using hpF 0 (by simp)
    simp only [List.length_cons] at hplc ⊢
    obtain ⟨ta, tc', hsl, htl⟩ := nums_tail (n := n) (b := pb) (o := po) hplc hpcm
    have HNp : Hid (NIn w p (.slice ta p.length tc')) := htl w (by simpa using hpF)
    have hpm : pc ≤ 9223372036854775807 := by unfold maxLen at hpcm; omega
    obtain ⟨T, hT⟩ : ∃ T, T = (putR (n :: p) ((xv, xn), k) ((yv, yn), l)).2 := ⟨_, rfl⟩
    have HT := hide hT
    have Hl := hide (Fo.len_list k)
    clear ih hF hpF hpa htl hpcm hX hn hT
    go_enter Tryd.func30, Tryd.ntmps30
    go_wp2_with fail
    go_loopw [22] (fun i wr => ∃ j : Nat, j ≤ Fo.len k ∧ i = .int .i64 j ∧ PutRel w (((w.alloc (.cells #[.bool xv, .int .i64 xn, .slice ad (Fo.len k) tc] 26)).alloc (.cells #[.bool yv, .int .i64 yn, .slice ud (Fo.len l) uc] 26)).alloc (.cells #[.bool false, .int .i64 0, .slice none 0 0] 26)) X T xv xn j wr) (fun i _ => Fo.len k - (intOf i).toNat)
    case atStart =>
      refine ⟨0, Nat.zero_le _, rfl, .nil, .slice none 0 0, [], by simp [Fo.nl, Fo.list], ⟨rfl, .inl ⟨rfl, rfl⟩⟩, rfl, new_cell (size3 _ _ _ _), new_cell (size3 _ _ _ _), new_cell (size3 _ _ _ _), fun i => new_frozen (size3 _ _ _ _), ?_⟩
      exact (Below.refl _ _).alloc (Nat.le_of_eq (size3 _ _ _ _).symm) _
    case round =>
      obtain ⟨j, hj, rfl, acc, v, xs, hnl, hR1, hR2, q0, q1, q2, qf, hB3⟩ := hrel
      have HR1 := hide hR1
      have HR2 := hide hR2
      have Hnl := hide hnl
      have HB3 := hide hB3
      have Hqf := hide qf
      have u0 : wr.cell? ⟨w.heap.size + 1, 0, none⟩ = some (.bool yv) := by rw [hB3.cell (by show w.heap.size + 1 < _; omega), World.cell?_alloc_lt _ _ _ (by show w.heap.size + 1 < _; rw [size2]; omega)]; exact new_cell (World.size_alloc _ _)
      have u1 : wr.cell? ⟨w.heap.size + 1, 1, none⟩ = some (.int .i64 yn) := by rw [hB3.cell (by show w.heap.size + 1 < _; omega), World.cell?_alloc_lt _ _ _ (by show w.heap.size + 1 < _; rw [size2]; omega)]; exact new_cell (World.size_alloc _ _)
      have u2 : wr.cell? ⟨w.heap.size + 1, 2, none⟩ = some (.slice ud (Fo.len l) uc) := by rw [hB3.cell (by show w.heap.size + 1 < _; omega), World.cell?_alloc_lt _ _ _ (by show w.heap.size + 1 < _; rw [size2]; omega)]; exact new_cell (World.size_alloc _ _)
      have hBw : Below w.heap.size w wr := (((below_alloc _ _).alloc (by simp) _).alloc (by simp; omega) _).trans (hB3.mono (by omega))
      have hBlt : w.heap.size + 3 < wr.heap.size := World.block_lt_of_cell? _ _ q0
      have hp0' := grow_cell hBw _ _ hp0
      obtain ⟨z1, z3, rfl⟩ := slice_of_owns hR1
      clear hR1 hR2 hnl hB3
      by_cases hlt : j < Fo.len k
      · have hlt' : (j : Int) < (Fo.len k : Int) := by omega
        have hj0 : (0 : Int) ≤ (j : Int) := by omega
        have had' : ad = some ⟨b, o, none⟩ := (had (by omega)).1
        subst had'
        obtain ⟨⟨⟨ev, en⟩, ek⟩, hy⟩ : ∃ y, k.list[j]? = some y := ⟨k.list[j]'(by rw [Hl.out]; exact hlt), by simp⟩
        have HSe' := HF.out.at hy
        obtain ⟨c0, c1, yv', c2, hSy⟩ := HSe'
        have c0' := grow_cell hBw _ _ c0
        have c1' := grow_cell hBw _ _ c1
        have c2' := grow_cell hBw _ _ c2
        have HSy := hide (hSy.grow HX.out hBw)
        obtain ⟨ya, yc, yb, yo, rfl, -, -, -, -⟩ := hSy
        have Hy := hide hy
        clear hy had c0 c1 c2
        obtain ⟨i26, hi26, hz0, hz1, hz2⟩ := info_parts Tryd.info26
        have hacc : Fo.len acc = j := by
          have h1 := nl_len acc
          have h2 := nl_len T
          have h3 := (putR_len n p (xv, xn) k ((yv, yn), l)).1
          rw [Hnl.out, List.length_take, h2, HT.out, h3] at h1
          omega
        have hn1 : Fo.len acc + 1 ≤ maxLen := by unfold maxLen; omega
        have hn2 : (Fo.len acc + 1) * 40 ≤ 140737488355328 := by omega
        have HTj := hide (HT.out ▸ putR_at (n := n) (p := p) (x := (xv, xn)) (u := ((yv, yn), l)) Hy.out)
        clear hacc
        go_upto_region 7 with fail
        generalize hwa : wr.alloc (.cells #[.bool ev, .int .i64 en, .slice ya (Fo.len ek) yc] 26) = wa
        have e0 : wa.cell? ⟨wr.heap.size, 0, none⟩ = some (.bool ev) := by rw [← hwa]; simp
        have e1 : wa.cell? ⟨wr.heap.size, 1, none⟩ = some (.int .i64 en) := by rw [← hwa]; simp
        have e2 : wa.cell? ⟨wr.heap.size, 2, none⟩ = some (.slice ya (Fo.len ek) yc) := by rw [← hwa]; simp
        have ef : ∀ i, wa.frozen? ⟨wr.heap.size, i, none⟩ = false := fun i => by rw [← hwa]; simp
        have hba : Below wr.heap.size wr wa := by rw [← hwa]; exact below_alloc _ _
        have hsa : wr.heap.size < wa.heap.size := World.block_lt_of_cell? _ _ e0
        have f2 := grow_cell hba _ _ q2
        have g0 := grow_cell hba _ _ hp0'
        have v0 := grow_cell hba _ _ u0
        have v1 := grow_cell hba _ _ u1
        have v2 := grow_cell hba _ _ u2
        have ff : ∀ i, wa.frozen? ⟨w.heap.size + 3, i, none⟩ = false := fun i => (hba.frozen hBlt).trans (Hqf.out i)
        have hBa : w.heap.size + 3 < wa.heap.size := by omega
        have Hno : Hid (some (w.heap.size + 3) ≠ (Value.slice z1 (Fo.len acc) z3).ownBlock) := fun e => by have := (owns_at HR1.out _ e.symm).1; omega
        clear hwa u0 u1 u2 hp0' c0' c1' c2'
        by_cases hjn : (j : Int) = n
        · have hjb : ((j : Int) == n) = true := by simpa using hjn
          rw [if_pos hjn] at HTj
          have hne1 : wr.heap.size ≠ pb := by have := World.block_lt_of_cell? _ _ hp0; have := hBw.size; simp only at *; omega
          have hne2 : wr.heap.size ≠ w.heap.size + 1 := by omega
          have Hek := hide (narrow_at Hn.out Hy.out)
          clear hjn hp0
          go_upto_region 8 with fail
          go_cut [36] (fun _ wx => ∃ (zv : Bool) (zn : Int) (zr : Fo) (a1 : Option Addr) (a2 a3 : Nat), wx.cell? ⟨wr.heap.size, 0, none⟩ = some (.bool zv) ∧ wx.cell? ⟨wr.heap.size, 1, none⟩ = some (.int .i64 zn) ∧ wx.cell? ⟨wr.heap.size, 2, none⟩ = some (.slice a1 a2 a3) ∧ SB (fun q => X q ∨ (wr.heap.size ≤ q ∧ q < wx.heap.size)) wx zr (.slice a1 a2 a3) ∧ (zv, zn) = (putR p ((ev, en), ek) ((yv, yn), l)).1 ∧ Fo.norm zr = Fo.norm (putR p ((ev, en), ek) ((yv, yn), l)).2 ∧ Below wr.heap.size wr wx)
          case first =>
            go_region_with (first
              | (go_at_call 30; refine (HI.out X (ev, en) ek _ _ (yv, yn) l _ _ ?_ ?_ ?_ ?_ Hek.out.1 Hek.out.2).mono ?_; (exact fun q hq => Nat.lt_of_lt_of_le (HX.out q hq) (Nat.le_trans hBw.size hba.size)); (exact (HSy.out.grow (fun q hq => Nat.lt_of_lt_of_le (HX.out q hq) hBw.size) hba).frame (fun _ h => h) (fun _ _ _ => rfl)); (exact (HU.out.grow HX.out (below_step hBw hba)).frame (fun _ h => h) (fun _ _ _ => rfl)); (exact (HNp.out.below (below_step hBw hba)).drew)
                 rintro e w2 ⟨⟨zv, zn⟩, zr, a1, a2, a3, rfl, hSz, hzz, hzr, hb2⟩; have e0' := grow_cell hb2 _ _ e0; have e1' := grow_cell hb2 _ _ e1; have e2' := grow_cell hb2 _ _ e2; have ef' : ∀ i, w2.frozen? ⟨wr.heap.size, i, none⟩ = false := (fun i => (hb2.frozen hsa).trans (ef i))))
            all_goals
              go_wp2_with fail
              go_meet
              case rel =>
                obtain ⟨s0, s1, s2⟩ := set3_cells (w := w2) (b := wr.heap.size) (o := 0) (x := .bool zv) (y := .int .i64 zn) (z := .slice a1 a2 a3) e0' e1' e2'
                refine ⟨zv, zn, zr, a1, a2, a3, s0, s1, s2, ?_, hzz, hzr, set3_below (o := 0) (below_step hba (((Below.refl _ _).drew).trans hb2)) (Nat.le_refl _)⟩
                refine (hSz.set3 (b := wr.heap.size) (o := 0) ?_).frame (fun q hq => ?_) (fun _ _ _ => rfl)
                · intro h
                  rcases h with h | h
                  · have := HX.out _ h; omega
                  · have h1 : wa.heap.size ≤ wr.heap.size := h.1
                    omega
                · rcases hq with h | h
                  · exact .inl h
                  · have h1 : wa.heap.size ≤ q := h.1
                    exact .inr ⟨by omega, by rw [World.size_setCell, World.size_setCell, World.size_setCell]; exact h.2⟩
          case rest =>
            obtain ⟨zv, zn, zr, a1, a2, a3, s0, s1, s2, hSz, hzz, hzr, hbc⟩ := hcut
            generalize wc = wb at *
            have HSz := hide hSz
            have Hzz := hide hzz
            have Hzr := hide hzr
            have hsc := hbc.size
            have hBc : w.heap.size + 3 < wb.heap.size := by omega
            have f2' := grow_cell hbc _ _ q2
            have ff' : ∀ i, wb.frozen? ⟨w.heap.size + 3, i, none⟩ = false := fun i => (hbc.frozen hBlt).trans (Hqf.out i)
            have Hown : Hid ((wb.alloc (.cells #[.bool zv, .int .i64 zn, .slice a1 a2 a3] 26)).ownsRow (w.heap.size + 4) 26 3 (.slice z1 (Fo.len acc) z3) (Fo.len acc) xs) :=
              owns_keep HR1.out (fun g hg => by
                have h1 := (owns_at HR1.out g hg).2
                rw [Below.heap_alloc _ _ _ (by omega), hbc.block g h1])
            have Hnews : Hid (∀ j u, [Value.bool zv, .int .i64 zn, .slice a1 a2 a3][j]? = some u → (wb.alloc (.cells #[.bool zv, .int .i64 zn, .slice a1 a2 a3] 26)).cell? ((⟨wb.heap.size, 0, none⟩ : Addr).add j) = some u) :=
              World.news_of_block (cs := #[.bool zv, .int .i64 zn, .slice a1 a2 a3]) (heap_alloc_new wb _)
            have hwz : w.heap.size + 4 ≤ wb.heap.size + 1 := by omega
            clear hSz hzz hzr e0 e1 e2 ef f2 g0 v0 v1 v2 ff hba hsa hBa
            go_wp2_with (at_builtin; refine wpList_append_lies _ rfl (.tmp 38) (.tmp 40) 24 rfl (w.heap.size + 4) 26 i26 (.agg #[.bool false, .int .i64 0, .slice none 0 0]) 3 40 Tryd.underlying24 hi26 hz0 hz1 hz2 rfl (by decide) (.slice z1 (Fo.len acc) z3) (Fo.len acc) xs rfl Hown.out ⟨wb.heap.size, 0, none⟩ 1 1 [.bool zv, .int .i64 zn, .slice a1 a2 a3] rfl rfl Hnews.out (by simp [Value.oneCell']) (by decide) hn1 hn2 (by simpa using hwz) (wb.heap.size + 1) (by simp) ?_; intro g cap w3 ho3 hg3 hat3 hlt3; have x2 := out_cell hg3 hBc Hno.out f2'; have xf := out_frozen hg3 hBc Hno.out ff')
            have Hst := hide (put_next (z := (zv, zn)) (a := .slice a1 a2 a3) Hnl.out HR1.out HR2.out HX.out q0 q1 q2 Hqf.out HB3.out hbc HSz.out HTj.out Hzz.out Hzr.out rfl ho3 hg3 hat3 hlt3)
            clear ho3 hg3 hat3 hlt3 Hown Hnews hi26 hz0 hz1 hz2 x2 xf
            refine ⟨?_, ?measure⟩
            · repeat apply Exists.intro
              refine ⟨?_, rfl⟩
              exact ⟨j + 1, by omega, by go_num, Hst.out⟩
            case measure => simp [intOf]; omega
        · have hjb : ((j : Int) == n) = false := by simpa using hjn
          rw [if_neg hjn] at HTj
          have Hown : Hid ((wa.alloc (.cells #[.bool ev, .int .i64 en, .slice ya (Fo.len ek) yc] 26)).ownsRow (w.heap.size + 4) 26 3 (.slice z1 (Fo.len acc) z3) (Fo.len acc) xs) :=
            owns_keep HR1.out (fun g hg => by
              have h1 := (owns_at HR1.out g hg).2
              rw [Below.heap_alloc _ _ _ (by omega), hba.block g h1])
          have Hnews : Hid (∀ j u, [Value.bool ev, .int .i64 en, .slice ya (Fo.len ek) yc][j]? = some u → (wa.alloc (.cells #[.bool ev, .int .i64 en, .slice ya (Fo.len ek) yc] 26)).cell? ((⟨wa.heap.size, 0, none⟩ : Addr).add j) = some u) :=
            World.news_of_block (cs := #[.bool ev, .int .i64 en, .slice ya (Fo.len ek) yc]) (heap_alloc_new wa _)
          have hwz : w.heap.size + 4 ≤ wa.heap.size + 1 := by omega
          clear hjn
          go_wp2_with (at_builtin; refine wpList_append_lies _ rfl (.tmp 38) (.tmp 40) 24 rfl (w.heap.size + 4) 26 i26 (.agg #[.bool false, .int .i64 0, .slice none 0 0]) 3 40 Tryd.underlying24 hi26 hz0 hz1 hz2 rfl (by decide) (.slice z1 (Fo.len acc) z3) (Fo.len acc) xs rfl Hown.out ⟨wa.heap.size, 0, none⟩ 1 1 [.bool ev, .int .i64 en, .slice ya (Fo.len ek) yc] rfl rfl Hnews.out (by simp [Value.oneCell']) (by decide) hn1 hn2 (by simpa using hwz) (wa.heap.size + 1) (by simp) ?_; intro g cap w3 ho3 hg3 hat3 hlt3; have x2 := out_cell hg3 hBa Hno.out f2; have xf := out_frozen hg3 hBa Hno.out ff)
          have Hst := hide (put_next (z := (ev, en)) (a := .slice ya (Fo.len ek) yc) Hnl.out HR1.out HR2.out HX.out q0 q1 q2 Hqf.out HB3.out hba ((HSy.out.grow (fun q hq => Nat.lt_of_lt_of_le (HX.out q hq) hBw.size) hba).frame (fun _ h => .inl h) (fun _ _ _ => rfl)) HTj.out rfl rfl rfl ho3 hg3 hat3 hlt3)
          clear ho3 hg3 hat3 hlt3 Hown Hnews hi26 hz0 hz1 hz2 x2 xf
          refine ⟨?_, ?measure⟩
          · repeat apply Exists.intro
            refine ⟨?_, rfl⟩
            exact ⟨j + 1, by omega, by go_num, Hst.out⟩
          case measure => simp [intOf]; omega
      · have hje : j = Fo.len k := by omega
        have Hfin : Hid (Fo.norm acc = Fo.norm T) := nl_norm (by
          rw [Hnl.out, List.take_of_length_le]
          rw [nl_len, HT.out, (putR_len n p (xv, xn) k ((yv, yn), l)).1]
          omega)
        have r0 : wr.cell? ⟨w.heap.size + 2, 0, none⟩ = some (.bool false) := by rw [HB3.out.cell (by show w.heap.size + 2 < _; omega)]; exact new_cell (size2 _ _ _)
        have r1 : wr.cell? ⟨w.heap.size + 2, 1, none⟩ = some (.int .i64 0) := by rw [HB3.out.cell (by show w.heap.size + 2 < _; omega)]; exact new_cell (size2 _ _ _)
        have r2 : wr.cell? ⟨w.heap.size + 2, 2, none⟩ = some (.slice none 0 0) := by rw [HB3.out.cell (by show w.heap.size + 2 < _; omega)]; exact new_cell (size2 _ _ _)
        have rf : ∀ i, wr.frozen? ⟨w.heap.size + 2, i, none⟩ = false := fun i => by rw [HB3.out.frozen (by show w.heap.size + 2 < _; omega)]; exact new_frozen (size2 _ _ _)
        have HSB : Hid (SB (fun q => X q ∨ (w.heap.size + 4 ≤ q ∧ q < wr.heap.size)) wr acc (.slice z1 (Fo.len acc) z3)) := row_sb HR1.out HR2.out (fun q hq => by rcases hq with h | h; exact .inl h; exact .inr ⟨h.1, h.2.1⟩) (fun g hg => .inr (owns_at HR1.out g hg))
        clear hje
        go_wp2_with fail
        refine bodyPost_ret (v := .agg #[.bool xv, .int .i64 xn, .slice z1 (Fo.len acc) z3]) (by simp [results, Tryd.results30, go_sem, r0, r1, r2]) rfl ⟨(xv, xn), acc, _, _, _, rfl, ?_, (putR_len n p (xv, xn) k ((yv, yn), l)).2.symm, by rw [Hfin.out, HT.out], set3_below (o := 0) hBw (by omega)⟩
        refine (HSB.out.set3 (b := w.heap.size + 2) (o := 0) ?_).frame (fun q hq => ?_) (fun _ _ _ => rfl)
        · intro h
          rcases h with h | h
          · have := HX.out _ h; omega
          · omega
        · rcases hq with h | h
          · exact .inl h
          · exact .inr ⟨by omega, by have := h.2; simp [World.setCell]; exact this⟩

end Go.Proofs.YtleogbdinafpaaaDoor
