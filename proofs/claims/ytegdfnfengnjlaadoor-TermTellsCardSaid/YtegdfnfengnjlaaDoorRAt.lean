/- What is at a place: the document's At. -/
import Derived.Test.YtegdfnfengnjlaaDoorRSame
namespace Go.Proofs.YtegdfnfengnjlaaDoor
open Go.RowKit Go.Deep Go.ChangeShapes Go.WideShapes
attribute [local go_sem ↓] Go.wp_at_zero Go.wp_at_succ

def atR : List Int → Bool × Int → Fo → Option ((Bool × Int) × Fo)
  | [], x, k => some (x, k)
  | n :: p, _, k => if n < 0 ∨ (Fo.len k : Int) ≤ n then none else match k.list[n.toNat]? with
    | some y => atR p y.1 y.2
    | none => none

theorem walk_at {s : List Int} {d : Int} : ∀ {F : Fo} {j : Nat} {y : (Bool × Int) × Fo}, walkF s F d = 0 → F.list[j]? = some y → walkT s y.1 y.2 d = 0
  | .nil, _, _, _, h => by simp [Fo.list] at h
  | .node p q x k r, 0, y, hF, hj => by
    obtain ⟨q1, _⟩ := walkF_ok hF
    simp [Fo.list] at hj
    subst hj
    exact q1
  | .node p q x k r, j + 1, y, hF, hj => by
    obtain ⟨_, q2⟩ := walkF_ok hF
    exact walk_at q2 (by simpa [Fo.list] using hj)

theorem atR_atT {s : List Int} : ∀ {p : List Int} {x : Bool × Int} {k : Fo} {d : Int}, walkT s x k d = 0 → atR p x k = atT p x k
  | [], _, _, _, _ => rfl
  | n :: p, x, k, d, h => by
    obtain ⟨_, ha, hk⟩ := walkT_ok h
    rw [atR, atT]
    by_cases hn : n < 0 ∨ (Fo.len k : Int) ≤ n
    · rw [if_pos hn, if_pos (.inr hn)]
    · rw [if_neg hn]
      have hx : ¬ x.1 = true := fun hx => by
        obtain ⟨xv, xn⟩ := x
        simp only at hx
        subst hx
        obtain ⟨hl, _⟩ := alone_var ha
        rw [hl] at hn
        simp [Fo.len] at hn
        omega
      rw [if_neg (fun h => by rcases h with h | h; exact hx h; exact hn h)]
      cases hy : k.list[n.toNat]? with
      | none => rfl
      | some y => exact atR_atT (walk_at hk hy)

/-- All numbers but the first. -/
theorem nums_tail {n : Int} {p : List Int} {c b o : Nat} (hlc : p.length + 1 ≤ c) (hcm : c ≤ maxLen) : ∃ (a' : Option Addr) (c' : Nat), (∀ w, (Instr.slice 22 (.slice (some ⟨b, o, none⟩) (p.length + 1) c) (some (.int .i64 1)) none none).run Tryd.prog w = .ok (.slice a' p.length c') w) ∧
    ∀ w : World, (∀ i, i < p.length + 1 → w.cell? ⟨b, o + i, none⟩ = some (.int .i64 ((n :: p).getD i 0))) → NIn w p (.slice a' p.length c') := by
  refine ⟨if c = 1 then some ⟨b, o, none⟩ else some ⟨b, o + 1, none⟩, c - 1, fun w => ?_, fun w h => ?_⟩
  · rw [run_slice_l (ht := by kernel_rfl) (h0 := by omega) (h1 := by omega)]
    have e : (sizeOf (Tryd.prog.elem 22)).run Tryd.prog w = .ok 1 w := by
      rw [show Tryd.prog.elem 22 = 3 by kernel_rfl]
      simp [go_sem]
    simp only [Result.andThen, sliced, e]
    by_cases hc : c = 1
    · simp [hc]
    · simp [hc, Addr.add]
  · refine ⟨_, c - 1, b, o + 1, rfl, fun hp => ?_, by omega, by omega, fun i hi => ?_⟩
    · rw [if_neg (by omega)]
    · have := h (i + 1) (by omega)
      rw [show o + 1 + i = o + (i + 1) by omega, this]
      simp

theorem BIn.node {X : Nat → Prop} {w : World} {p q : Nat} {x : Bool × Int} {k r : Fo} {b o : Nat} (h : BIn X w (.node p q x k r) b o) :
    w.cell? ⟨b, o, none⟩ = some (.bool x.1) ∧ w.cell? ⟨b, o + 1, none⟩ = some (.int .i64 x.2) ∧ (∃ v, w.cell? ⟨b, o + 2, none⟩ = some v ∧ SB X w k v) ∧ BIn X w r b (o + 3) := by
  obtain ⟨h0, h1, ⟨a, c, b', o', h2, h3, h4, h5, h6⟩, h7⟩ := h
  exact ⟨h0, h1, ⟨_, h2, a, c, b', o', rfl, h3, h4, h5, h6⟩, h7⟩
theorem BIn.at {X : Nat → Prop} {w : World} : ∀ {F : Fo} {b o i : Nat} {x : Bool × Int} {k : Fo}, BIn X w F b o → F.list[i]? = some (x, k) →
    w.cell? ⟨b, o + i * 3, none⟩ = some (.bool x.1) ∧ w.cell? ⟨b, o + i * 3 + 1, none⟩ = some (.int .i64 x.2) ∧ ∃ v, w.cell? ⟨b, o + i * 3 + 2, none⟩ = some v ∧ SB X w k v
  | .nil, _, _, _, _, _, _, h => by simp [Fo.list] at h
  | .node _ _ y k' r, b, o, 0, x, k, hF, h => by
    simp only [Fo.list, List.getElem?_cons_zero, Option.some.injEq, Prod.mk.injEq] at h
    obtain ⟨rfl, rfl⟩ := h
    obtain ⟨h0, h1, h2, _⟩ := hF.node
    simpa using ⟨h0, h1, h2⟩
  | .node _ _ y k' r, b, o, i + 1, x, k, hF, h => by
    simp only [Fo.list, List.getElem?_cons_succ] at h
    obtain ⟨_, _, _, h3⟩ := hF.node
    have := BIn.at h3 h
    have e : o + 3 + i * 3 = o + (i + 1) * 3 := by omega
    rwa [e] at this
/-- What lies in memory lies in the blocks that there are. -/
theorem FIn.toB {w : World} : ∀ {F : Fo} {b o : Nat}, FIn w F b o → BIn (fun q => q < w.heap.size) w F b o
  | .nil, _, _, _ => trivial
  | .node _ _ x k r, b, o, ⟨h0, h1, ⟨a, c, b', o', h2, h3, h4, h5, h6⟩, h7⟩ => by
    refine ⟨h0, h1, ⟨a, c, b', o', h2, fun h => ⟨h3 h, ?_⟩, h4, h5, h6.toB⟩, h7.toB⟩
    cases k with
    | nil => simp [Fo.len] at h
    | node _ _ _ _ _ => exact World.block_lt_of_cell? _ _ h6.1
theorem SIn.toB {w : World} {k : Fo} {v : Value} (h : SIn w k v) : SB (fun q => q < w.heap.size) w k v := by
  obtain ⟨a, c, b, o, rfl, h3, h4, h5, h6⟩ := h
  refine ⟨a, c, b, o, rfl, fun h => ⟨h3 h, ?_⟩, h4, h5, h6.toB⟩
  cases k with
  | nil => simp [Fo.len] at h
  | node _ _ _ _ _ => exact World.block_lt_of_cell? _ _ h6.1
theorem SB.grow {X : Nat → Prop} {w w' : World} {k : Fo} {v : Value} (h : SB X w k v) (hX : ∀ q, X q → q < w.heap.size) (hb : Below w.heap.size w w') : SB X w' k v :=
  h.frame (fun _ h => h) (fun q i hq => hb.cell (p := ⟨q, i, none⟩) (hX q hq))
theorem SB.shrink {X : Nat → Prop} {w w' : World} {k : Fo} {v : Value} (h : SB X w' k v) (hX : ∀ q, X q → q < w.heap.size) (hb : Below w.heap.size w w') : SB X w k v :=
  h.frame (fun _ h => h) (fun q i hq => (hb.cell (p := ⟨q, i, none⟩) (hX q hq)).symm)

def AtRSaid (p : List Int) : Prop := ∀ (X : Nat → Prop) (x : Bool × Int) (k : Fo) (a pv : Value) (w : World), (∀ q, X q → q < w.heap.size) → SB X w k a → NIn w p pv →
    Calls Tryd.prog 26 #[.agg #[.bool x.1, .int .i64 x.2, a], pv] w fun e w' => ∃ (b : Bool) (y : Bool × Int) (l : Fo) (a1 : Option Addr) (a2 a3 : Nat), e = .returned (.tuple #[.agg #[.bool y.1, .int .i64 y.2, .slice a1 a2 a3], .bool b]) ∧ SB X w l (.slice a1 a2 a3) ∧ atR p x k = (if b then some (y, l) else none) ∧ (b = false → y = (false, 0) ∧ l = .nil) ∧ Below w.heap.size w w'

set_option maxHeartbeats 1000000 in
theorem atR_any : ∀ p : List Int, AtRSaid p := by
  intro p
  induction p with
  | nil =>
    intro X x k a pv w hX hS hN
    obtain ⟨xv, xn⟩ := x
    have HS := hide hS
    obtain ⟨ad, c, b, o, rfl, -, -, -, -⟩ := hS
    obtain ⟨pa, pc, pb, po, rfl, -, -, -, -⟩ := hN
    go_enter Tryd.func26, Tryd.ntmps26
    go_wp2_with fail
    exact bodyPost_ret (v := .tuple #[.agg #[.bool xv, .int .i64 xn, .slice ad (Fo.len k) c], .bool true]) (by simp [results, Tryd.results26, go_sem]) rfl ⟨true, (xv, xn), k, _, _, _, rfl, HS.out, rfl, (fun h => by cases h), (below_alloc _ _).alloc (by simp) _⟩
  | cons n p ih =>
    intro X x k a pv w hX hS hN
    obtain ⟨xv, xn⟩ := x
    have HS := hide hS
    have HI := hide ih
    have HX := hide hX
    obtain ⟨ad, c, b, o, rfl, had, hlc, hcm, hF⟩ := hS
    obtain ⟨pa, pc, pb, po, rfl, hpa, hplc, hpcm, hpF⟩ := hN
    have hpa' : pa = some ⟨pb, po, none⟩ := hpa (by simp)
    subst hpa'
    unfold maxLen at hcm
    have HF := hide hF
    have hp0 : w.cell? ⟨pb, po, none⟩ = some (.int .i64 n) := by simpa using hpF 0 (by simp)
    simp only [List.length_cons] at hplc ⊢
    obtain ⟨ta, tc, hsl, htl⟩ := nums_tail (n := n) (b := pb) (o := po) hplc hpcm
    have HN : Hid (NIn w p (.slice ta p.length tc)) := htl w (by simpa using hpF)
    have hpm : pc ≤ 9223372036854775807 := by unfold maxLen at hpcm; omega
    clear ih hF hpF hpa htl hpcm hX
    have hBB : Below w.heap.size w ((w.alloc (.cells #[.bool xv, .int .i64 xn, .slice ad (Fo.len k) c] 26)).alloc (.cells #[.bool false, .int .i64 0, .slice none 0 0] 26)) := (below_alloc _ _).alloc (by simp) _
    have hp0' := grow_cell hBB _ _ hp0
    by_cases hn0 : n < 0
    · have Hf : Hid (atR (n :: p) (xv, xn) k = none) := by rw [Hid, atR, if_pos (.inl hn0)]
      go_enter Tryd.func26, Tryd.ntmps26
      go_wp2_with fail
      go_quiet (fail)
      go_wp2_with fail
      rw [Hf.out]
      exact bodyPost_ret (v := .tuple #[.agg #[.bool false, .int .i64 0, .slice none 0 0], .bool false]) (by simp [results, Tryd.results26, go_sem]) rfl ⟨false, (false, 0), .nil, _, _, _, rfl, SB.nil _ _, rfl, fun _ => ⟨rfl, rfl⟩, set3_below (o := 0) (below_drewN hBB _) (by simp)⟩
    by_cases hns : (Fo.len k : Int) ≤ n
    · have Hf : Hid (atR (n :: p) (xv, xn) k = none) := by rw [Hid, atR, if_pos (.inr hns)]
      go_enter Tryd.func26, Tryd.ntmps26
      go_wp2_with fail
      go_quiet (fail)
      go_wp2_with fail
      rw [Hf.out]
      exact bodyPost_ret (v := .tuple #[.agg #[.bool false, .int .i64 0, .slice none 0 0], .bool false]) (by simp [results, Tryd.results26, go_sem]) rfl ⟨false, (false, 0), .nil, _, _, _, rfl, SB.nil _ _, rfl, fun _ => ⟨rfl, rfl⟩, set3_below (o := 0) (below_drewN hBB _) (by simp)⟩
    have hn0' : 0 ≤ n := by omega
    have hns' : n < (Fo.len k : Int) := by omega
    have had' : ad = some ⟨b, o, none⟩ := (had (by omega)).1
    subst had'
    obtain ⟨⟨⟨yv, yn⟩, yk⟩, hy⟩ : ∃ y, k.list[n.toNat]? = some y := ⟨k.list[n.toNat]'(by rw [Fo.len_list]; omega), by simp⟩
    obtain ⟨c0, c1, yv', c2, hSy⟩ := HF.out.at hy
    have HSy := hide hSy
    obtain ⟨ya, yc, yb, yo, rfl, -, -, -, -⟩ := hSy
    have Hf : Hid (atR (n :: p) (xv, xn) k = atR p (yv, yn) yk) := by rw [Hid, atR, if_neg (by omega), hy]
    have c0' := grow_cell hBB _ _ c0
    have c1' := grow_cell hBB _ _ c1
    have c2' := grow_cell hBB _ _ c2
    clear hy had
    go_enter Tryd.func26, Tryd.ntmps26
    go_wp2_with fail
    go_quiet (fail)
    go_wp2_with fail
    generalize hw5 : World.drewN _ _ = w5
    have d0 : w5.cell? ⟨pb, po, none⟩ = some (.int .i64 n) := by rw [← hw5]; exact hp0'
    have d1 : w5.cell? ⟨b, o + n.toNat * 3, none⟩ = some (.bool yv) := by rw [← hw5]; exact c0'
    have d2 : w5.cell? ⟨b, o + n.toNat * 3 + 1, none⟩ = some (.int .i64 yn) := by rw [← hw5]; exact c1'
    have d3 : w5.cell? ⟨b, o + n.toNat * 3 + 2, none⟩ = some (.slice ya (Fo.len yk) yc) := by rw [← hw5]; exact c2'
    have t2 : w5.cell? ⟨w.heap.size, 2, none⟩ = some (.slice (some ⟨b, o, none⟩) (Fo.len k) c) := by rw [← hw5]; simp
    have r0 : w5.cell? ⟨w.heap.size + 1, 0, none⟩ = some (.bool false) := by rw [← hw5]; simp
    have r1 : w5.cell? ⟨w.heap.size + 1, 1, none⟩ = some (.int .i64 0) := by rw [← hw5]; simp
    have r2 : w5.cell? ⟨w.heap.size + 1, 2, none⟩ = some (.slice none 0 0) := by rw [← hw5]; simp
    have rf : ∀ i, w5.frozen? ⟨w.heap.size + 1, i, none⟩ = false := fun i => by rw [← hw5]; simp
    have hB5 : Below w.heap.size w w5 := by rw [← hw5]; exact below_drewN hBB _
    have hs5 : w.heap.size + 1 < w5.heap.size := World.block_lt_of_cell? _ _ r0
    have hne1 : w.heap.size + 1 ≠ pb := by have := World.block_lt_of_cell? _ _ hp0; simp only at this; omega
    have hne2 : w.heap.size + 1 ≠ b := by have := World.block_lt_of_cell? _ _ c0; simp only at this; omega
    clear hw5 hp0' c0' c1' c2' hBB hp0 c0 c1 c2
    go_region_held3 (fun w' => w'.cell? ⟨w.heap.size, 2, none⟩ = some (.slice (some ⟨b, o, none⟩) (Fo.len k) c) ∧ w'.cell? ⟨pb, po, none⟩ = some (.int .i64 n) ∧ w'.cell? ⟨b, o + n.toNat * 3, none⟩ = some (.bool yv) ∧ w'.cell? ⟨b, o + n.toNat * 3 + 1, none⟩ = some (.int .i64 yn) ∧ w'.cell? ⟨b, o + n.toNat * 3 + 2, none⟩ = some (.slice ya (Fo.len yk) yc))
      (first
        | go_keep
        | exact ⟨t2', d0', d1', d2', d3'⟩)
      (first
        | (go_at_call 26; refine (HI.out X (yv, yn) yk _ _ _ ?_ ?_ ?_).mono ?_; (exact fun q hq => Nat.lt_of_lt_of_le (HX.out q hq) hB5.size); (exact (HSy.out.grow HX.out hB5).frame (fun _ h => h) (fun _ _ _ => rfl)); (exact (HN.out.below hB5).drew); rintro e w2 ⟨bb, ⟨zv, zn⟩, zl, a1, a2, a3, rfl, hSz, hat, hno, hb2⟩; have t2' := grow_cell hb2 _ _ t2; have d0' := grow_cell hb2 _ _ d0; have d1' := grow_cell hb2 _ _ d1; have d2' := grow_cell hb2 _ _ d2; have d3' := grow_cell hb2 _ _ d3
           have r0' := grow_cell hb2 _ _ r0; have r1' := grow_cell hb2 _ _ r1; have r2' := grow_cell hb2 _ _ r2; have rf' : ∀ i, w2.frozen? ⟨w.heap.size + 1, i, none⟩ = false := (fun i => (hb2.frozen hs5).trans (rf i)); have Hz := hide (And.intro (hSz.shrink (w := w) HX.out hB5.drew) (And.intro hat (And.intro hno (below_step hB5 (((Below.refl _ _).drew).trans hb2))))); clear hSz hat hno hb2))
    go_wp2_with fail
    rw [Hf.out]
    exact bodyPost_ret (v := .tuple #[.agg #[.bool zv, .int .i64 zn, .slice a1 a2 a3], .bool bb]) (by simp [results, Tryd.results26, go_sem, r0', r1', r2']) rfl ⟨bb, (zv, zn), zl, _, _, _, rfl, Hz.out.1, Hz.out.2.1, Hz.out.2.2.1, set3_below (o := 0) Hz.out.2.2.2 (by omega)⟩

end Go.Proofs.YtegdfnfengnjlaaDoor
