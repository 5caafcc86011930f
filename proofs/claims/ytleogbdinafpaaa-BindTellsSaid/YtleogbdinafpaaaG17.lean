/- What the document's solve is held against, told of terms alone; and two boxes that are written. -/
import Derived.Test.YtleogbdinafpaaaG12
import Derived.Test.YtleogbdinafpaaaG16
import Derived.Deep.RegionHeld3
import Derived.Test.YtleogbdinafpaaaG10
namespace Go.Proofs.Ytleogbdinafpaaa
open Go.RowKit Go.Deep Go.ChangeShapes Go.WideShapes

/-- Equations ls = rs are, by the bindings s, those of L. -/
structure Eqs (s : Sb) (L : List (Tm × Tm)) (ls rs : List Tm) : Prop where
  ui : UI s L
  el : ls.map (subT (bnd s)) = L.map fun p => subT (bnd s) p.1
  er : rs.map (subT (bnd s)) = L.map fun p => subT (bnd s) p.2
  gl : ∀ t ∈ ls, Gd t
  gr : ∀ t ∈ rs, Gd t

theorem Eqs.nil {s : Sb} {ls rs : List Tm} (h : Eqs s [] ls rs) : ls = [] ∧ rs = [] := ⟨by simpa using h.el, by simpa using h.er⟩
theorem Eqs.len {s : Sb} {L : List (Tm × Tm)} {ls rs : List Tm} (h : Eqs s L ls rs) : ls.length = L.length ∧ rs.length = L.length :=
  ⟨by simpa using congrArg List.length h.el, by simpa using congrArg List.length h.er⟩
theorem Eqs.cons {s : Sb} {p : Tm × Tm} {L : List (Tm × Tm)} {ls rs : List Tm} (h : Eqs s (p :: L) ls rs) :
    ∃ t lt u rt, ls = t :: lt ∧ rs = u :: rt ∧ Eqs s L lt rt ∧ subT (bnd s) t = subT (bnd s) p.1 ∧ subT (bnd s) u = subT (bnd s) p.2 ∧ Gd t ∧ Gd u := by
  obtain ⟨h0, h1, h2, h3, h4⟩ := h
  cases ls with
  | nil => simp at h1
  | cons t lt =>
    cases rs with
    | nil => simp at h2
    | cons u rt =>
      simp only [List.map_cons, List.cons.injEq] at h1 h2
      exact ⟨t, lt, u, rt, rfl, rfl, ⟨ui_tail h0, h1.2, h2.2, fun z hz => h3 z (by simp [hz]), fun z hz => h4 z (by simp [hz])⟩, h1.1, h2.1, h3 t (by simp), h4 u (by simp)⟩
/-- What was bound stays as it is. -/
theorem sub_twice {s : Sb} {L : List (Tm × Tm)} (h : UI s L) (t : Tm) : subT (bnd s) (subT (bnd s) t) = subT (bnd s) t := ref_sub (ref_refl h.idem (ui_ok h)) t
theorem args_twice {s : Sb} {L : List (Tm × Tm)} (h : UI s L) {t X : Tm} (hX : X = subT (bnd s) t) (hv : X.1.1 = false) : X.2.list.map (subT (bnd s)) = X.2.list := by
  have e : subT (bnd s) X = X := by rw [hX]; exact sub_twice h t
  obtain ⟨⟨xv, xn⟩, k⟩ := X
  simp only at hv
  subst hv
  rw [subT_sym] at e
  simp only [Prod.mk.injEq, true_and] at e
  show k.list.map _ = k.list
  rw [← subF_list, e]
theorem Eqs.args {n : Nat} {s : Sb} {p : Tm × Tm} {L : List (Tm × Tm)} {R : Option Sb} {lt rt : List Tm} {t u X Y : Tm} (hp : UI s (p :: L)) (h : Eqs s L lt rt) (hr : runU n s (p :: L) = some R) (hX : X = subT (bnd s) t) (hY : Y = subT (bnd s) u) (et : subT (bnd s) t = subT (bnd s) p.1) (eu : subT (bnd s) u = subT (bnd s) p.2) (gt : Gd t) (gu : Gd u) (hx : X.1.1 = false) (hy : Y.1.1 = false) :
    (¬ (X.1.2 = Y.1.2 ∧ Fo.len X.2 = Fo.len Y.2) → R = none) ∧ (X.1.2 = Y.1.2 ∧ Fo.len X.2 = Fo.len Y.2 → ∃ m L', m < n ∧ Eqs s L' (X.2.list ++ lt) (Y.2.list ++ rt) ∧ runU m s L' = some R) := by
  have eX : X = subT (bnd s) p.1 := hX.trans et
  have eY : Y = subT (bnd s) p.2 := hY.trans eu
  have := run_sym hp hr (by rw [← eX, hx]; decide) (by rw [← eY, hy]; decide)
  rw [← eX, ← eY] at this
  refine ⟨this.1, fun hc => ?_⟩
  obtain ⟨m, M, h1, h2, h3, h4, h5⟩ := this.2 hc
  have gX : Gd X := by rw [hX]; exact gd_sub hp.gs gt
  have gY : Gd Y := by rw [hY]; exact gd_sub hp.gs gu
  obtain ⟨⟨xv, xn⟩, xk⟩ := X
  obtain ⟨⟨yv, yn⟩, yk⟩ := Y
  refine ⟨m, M ++ L, h1, ⟨h2, ?_, ?_, ?_, ?_⟩, h3⟩
  · rw [List.map_append, List.map_append, h.el, args_twice hp hX hx, h4]
  · rw [List.map_append, List.map_append, h.er, args_twice hp hY hy, h5]
  · intro z hz
    rcases List.mem_append.1 hz with hz | hz
    · exact gd_mem gX hx hz
    · exact h.gl z hz
  · intro z hz
    rcases List.mem_append.1 hz with hz | hz
    · exact gd_mem gY hy hz
    · exact h.gr z hz
theorem Eqs.bind {n : Nat} {s : Sb} {p : Tm × Tm} {L : List (Tm × Tm)} {R : Option Sb} {lt rt : List Tm} {t u X Y U V : Tm} (hp : UI s (p :: L)) (h : Eqs s L lt rt) (hr : runU n s (p :: L) = some R) (hX : X = subT (bnd s) t) (hY : Y = subT (bnd s) u) (et : subT (bnd s) t = subT (bnd s) p.1) (eu : subT (bnd s) u = subT (bnd s) p.2) (hne : X ≠ Y)
    (huv : (U = X ∧ V = Y ∧ U.1.1 = true) ∨ (U = Y ∧ V = X ∧ U.1.1 = true ∧ ¬ V.1.1 = true)) :
    (addS s U.1.2 V = none → R = none) ∧ ∀ s1, addS s U.1.2 V = some s1 → ∃ m, m < n ∧ Eqs s1 L lt rt ∧ runU m s1 L = some R := by
  have eX : X = subT (bnd s) p.1 := hX.trans et
  have eY : Y = subT (bnd s) p.2 := hY.trans eu
  rw [eX, eY] at huv hne
  obtain ⟨h1, h2⟩ := run_var hp hr hne huv
  refine ⟨h1, fun s1 e => ?_⟩
  obtain ⟨m, k1, k2, k3, k4⟩ := h2 s1 e
  have up : ∀ (f : Tm × Tm → Tm) (xs : List Tm), xs.map (subT (bnd s)) = L.map (fun p => subT (bnd s) (f p)) → xs.map (subT (bnd s1)) = L.map (fun p => subT (bnd s1) (f p)) := by
    intro f xs hh
    have e2 := congrArg (List.map (subT (bnd s1))) hh
    simp only [List.map_map] at e2
    have e3 : (subT (bnd s1)) ∘ (subT (bnd s)) = subT (bnd s1) := funext fun z => ref_sub k4 z
    have e4 : (subT (bnd s1)) ∘ (fun p => subT (bnd s) (f p)) = fun p => subT (bnd s1) (f p) := funext fun z => ref_sub k4 (f z)
    rw [e3, e4] at e2
    exact e2
  exact ⟨m, k1, ⟨k2, up Prod.fst lt h.el, up Prod.snd rt h.er, h.gl, h.gr⟩, k3⟩
theorem Eqs.skip {n : Nat} {s : Sb} {p : Tm × Tm} {L : List (Tm × Tm)} {R : Option Sb} {t u X Y : Tm} (hp : UI s (p :: L)) (hr : runU n s (p :: L) = some R) (hX : X = subT (bnd s) t) (hY : Y = subT (bnd s) u) (et : subT (bnd s) t = subT (bnd s) p.1) (eu : subT (bnd s) u = subT (bnd s) p.2) (he : X = Y) : ∃ m, m < n ∧ runU m s L = some R :=
  run_skip n s p L R hp hr (by rw [← et, ← eu, ← hX, ← hY, he])

/-- The first term away. -/
theorem terms_rest {n c b o : Nat} (hn : 1 ≤ n) (hlc : n ≤ c) : ∃ z1 : Option Addr, (∀ w : World, (Instr.slice 24 (.slice (some ⟨b, o, none⟩) n c) (some (.int .i64 1)) none none).run Try.prog w = .ok (.slice z1 (n - 1) (c - 1)) w) ∧ (1 < n → z1 = some ⟨b, o + 3, none⟩) := by
  refine ⟨if c = 1 then some ⟨b, o, none⟩ else some ⟨b, o + 3, none⟩, fun w => ?_, fun h => if_neg (by omega)⟩
  rw [run_slice_l (ht := by kernel_rfl) (h0 := by omega) (h1 := by omega)]
  have e : (sizeOf (Try.prog.elem 24)).run Try.prog w = .ok 3 w := by
    rw [show Try.prog.elem 24 = 26 by kernel_rfl]
    simp [go_sem]
  by_cases hc : c = 1
  · simp [Result.andThen, sliced, e, hc]
  · simp [Result.andThen, sliced, e, hc, Addr.add]
theorem sin_rest {w : World} {t : Tm} {ts : List Tm} {b o c : Nat} {z1 : Option Addr} (h : FIn w (foOf (t :: ts)) b o) (hc : ts.length + 1 ≤ c) (hm : c ≤ maxLen) (hz : 1 < ts.length + 1 → z1 = some ⟨b, o + 3, none⟩) : SIn w (foOf ts) (.slice z1 (ts.length + 1 - 1) (c - 1)) := by
  obtain ⟨_, _, _, h4⟩ := FIn.node h
  exact ⟨z1, c - 1, b, o + 3, by rw [foOf_len]; rfl, fun h => hz (by rw [foOf_len] at h; omega), by rw [foOf_len]; omega, by omega, h4⟩

/-- Two boxes that may be written, laid since wn. -/
def Bxs (wn wx : World) (b d : Nat) (x y z x' y' z' : Value) : Prop := (C3 wx b x y z ∧ C3 wx d x' y' z' ∧ Below wn.heap.size wn wx) ∧ ((∀ i, wx.frozen? ⟨b, i, none⟩ = false) ∧ (∀ i, wx.frozen? ⟨d, i, none⟩ = false)) ∧ wn.heap.size ≤ b ∧ wn.heap.size ≤ d ∧ b ≠ d
theorem Bxs.swap {wn wx : World} {b d : Nat} {x y z x' y' z' : Value} (h : Bxs wn wx b d x y z x' y' z') : Bxs wn wx d b x' y' z' x y z := ⟨swap3 h.1, ⟨h.2.1.2, h.2.1.1⟩, h.2.2.2.1, h.2.2.1, Ne.symm h.2.2.2.2⟩
theorem gin0 {wn W : World} {x y z x' y' z' : Value} (h : Below wn.heap.size wn W) : Bxs wn ((W.alloc (.cells #[x, y, z] 26)).alloc (.cells #[x', y', z'] 26)) W.heap.size (W.heap.size + 1) x y z x' y' z' := by
  have hs := h.size
  refine ⟨fin0 h, ⟨fun i => ?_, fun i => new_frozen (World.size_alloc _ _)⟩, hs, by omega, by omega⟩
  exact ((below_alloc _ _).frozen (p := ⟨W.heap.size, i, none⟩) (by simp)).trans (new_frozen rfl)
theorem gin1 {wn W : World} {b : Nat} {x y z x' y' z' u0 u1 u2 : Value} (h : Below wn.heap.size wn W) (hb : wn.heap.size ≤ b) (h0 : W.cell? ⟨b, 0, none⟩ = some u0) (h1 : W.cell? ⟨b, 1, none⟩ = some u1) (h2 : W.cell? ⟨b, 2, none⟩ = some u2) (hf : ∀ i, W.frozen? ⟨b, i, none⟩ = false) :
    Bxs wn ((((W.setCell ⟨b, 0, none⟩ x).setCell ⟨b, 1, none⟩ y).setCell ⟨b, 2, none⟩ z).alloc (.cells #[x', y', z'] 26)) b W.heap.size x y z x' y' z' := by
  have hs := h.size
  have hbl : b < W.heap.size := World.block_lt_of_cell? _ _ h0
  have hsz : (set3 W b 0 x y z).heap.size = W.heap.size := set3_size
  refine ⟨fin1 h hb h0 h1 h2, ⟨fun i => ?_, fun i => new_frozen hsz⟩, hb, hs, by omega⟩
  have e : (((W.setCell ⟨b, 0, none⟩ x).setCell ⟨b, 1, none⟩ y).setCell ⟨b, 2, none⟩ z) = set3 W b 0 x y z := rfl
  rw [e]
  exact ((below_alloc _ _).frozen (p := ⟨b, i, none⟩) (by rw [hsz]; exact hbl)).trans (set3_frozen.trans (hf i))
theorem gin2 {wn W : World} {b d : Nat} {x y z x' y' z' u0 u1 u2 t0 t1 t2 : Value} (h : Below wn.heap.size wn W) (hb : wn.heap.size ≤ b) (hd : wn.heap.size ≤ d) (hn : b ≠ d) (h0 : W.cell? ⟨b, 0, none⟩ = some u0) (h1 : W.cell? ⟨b, 1, none⟩ = some u1) (h2 : W.cell? ⟨b, 2, none⟩ = some u2) (hf : ∀ i, W.frozen? ⟨b, i, none⟩ = false) (k0 : W.cell? ⟨d, 0, none⟩ = some t0) (k1 : W.cell? ⟨d, 1, none⟩ = some t1) (k2 : W.cell? ⟨d, 2, none⟩ = some t2) (kf : ∀ i, W.frozen? ⟨d, i, none⟩ = false) :
    Bxs wn ((((((W.setCell ⟨b, 0, none⟩ x).setCell ⟨b, 1, none⟩ y).setCell ⟨b, 2, none⟩ z).setCell ⟨d, 0, none⟩ x').setCell ⟨d, 1, none⟩ y').setCell ⟨d, 2, none⟩ z') b d x y z x' y' z' := by
  have e : ((((((W.setCell ⟨b, 0, none⟩ x).setCell ⟨b, 1, none⟩ y).setCell ⟨b, 2, none⟩ z).setCell ⟨d, 0, none⟩ x').setCell ⟨d, 1, none⟩ y').setCell ⟨d, 2, none⟩ z') = set3 (set3 W b 0 x y z) d 0 x' y' z' := rfl
  refine ⟨fin2 h hb hd hn h0 h1 h2 k0 k1 k2, ⟨fun i => ?_, fun i => ?_⟩, hb, hd, hn⟩
  · rw [e, set3_frozen, set3_frozen]; exact hf i
  · rw [e, set3_frozen, set3_frozen]; exact kf i
/-- Terms that lie outside two boxes. -/
def Off (w : World) (b d : Nat) : Nat → Prop := fun q => q < w.heap.size ∧ q ≠ b ∧ q ≠ d
theorem sb_keep {X : Nat → Prop} {w w' : World} {b d : Nat} {k : Fo} {a : Value} (h : SB X w k a) (hr : ∀ q, X q → w'.heap[q]? = w.heap[q]? ∧ q < w.heap.size ∧ q ≠ b ∧ q ≠ d) : SB (Off w' b d) w' k a := by
  refine h.frame (fun q hq => ?_) (fun q i hq => World.cell?_of_block (hr q hq).1)
  obtain ⟨h1, h2, h3, h4⟩ := hr q hq
  refine ⟨?_, h3, h4⟩
  rcases Nat.lt_or_ge q w'.heap.size with h' | h'
  · exact h'
  · rw [Array.getElem?_eq_none h', Array.getElem?_eq_getElem h2] at h1
    cases h1
theorem sb_swapped {w : World} {b d : Nat} {k : Fo} {a x y z x' y' z' : Value} (h : SB (Off w b d) w k a) : SIn (set3 (set3 w b 0 x y z) d 0 x' y' z') k a :=
  (h.kept (fun q hq => by rw [set3_heap hq.2.2, set3_heap hq.2.1])).toS

theorem Side.init (wx : World) : Side wx wx (.slice none 0 0) [] (.slice none 0 0) [] := ⟨Below.refl _ _, Row.nil _ _, Row.nil _ _, fun g h => by simp [Value.ownBlock] at h⟩
theorem Row.drew {lo : Nat} {w : World} {v : Value} {ts : List Tm} (h : Row lo w v ts) : Row lo w.drew v ts := by
  obtain ⟨xs, h1, h2⟩ := h
  have hr : ∀ q i, q < lo → w.drew.cell? ⟨q, i, none⟩ = w.cell? ⟨q, i, none⟩ := fun q i _ => rfl
  exact ⟨xs, h1, h2.frame (fun _ h => h) hr⟩
theorem Side.drew {wx w : World} {va vb : Value} {a b : List Tm} (h : Side wx w va a vb b) : Side wx w.drew va a vb b := ⟨h.below.drew, h.ra.drew, h.rb.drew, h.ap⟩

/-- All blocks but the row's own. -/
def XO (w : World) (v : Value) : Nat → Prop := fun q => q < w.heap.size ∧ some q ≠ v.ownBlock
theorem own_nil (lo : Nat) (w : World) : OwnS lo (XO w (.slice none 0 0)) w [] (.slice none 0 0) [] := ⟨World.ownsRow_nil _ _ _ _, rfl, fun _ h => h⟩
/-- One pair more, whose term was made by a call, or was there. -/
theorem out_next {lo : Nat} {wr w3 w4 : World} {s : Sb} {v : Value} {xs : List Value} {n : Int} {t : Tm} {a : Value} {ob : Obj} {g cap j : Nat} (h : OwnS lo (XO wr v) wr s v xs) (hj : s.length = j) (hb : Below wr.heap.size wr w3) (hlo : lo ≤ wr.heap.size) (hO : SB (fun q => q < lo ∨ (wr.heap.size ≤ q ∧ q < w3.heap.size)) w3 t.2 a)
    (ho : w4.ownsRow lo 48 4 (.slice (some ⟨g, 0, none⟩) (j + 1) cap) (j + 1) (xs ++ [.int .i64 n, .bool t.1.1, .int .i64 t.1.2, a])) (hg : (w3.alloc ob).grownBy w4 v.ownBlock) (hat : v.ownBlock = some g ∨ g = w3.heap.size + 1) (hlt : g < w4.heap.size) :
    OwnS lo (XO w4 (.slice (some ⟨g, 0, none⟩) (j + 1) cap)) w4 (s ++ [(n, t)]) (.slice (some ⟨g, 0, none⟩) (j + 1) cap) (xs ++ [.int .i64 n, .bool t.1.1, .int .i64 t.1.2, a]) ∧ Below lo wr w4 := by
  subst hj
  have hs := hb.size
  have hv : ∀ q, v.ownBlock = some q → lo ≤ q ∧ q < wr.heap.size := fun q hq => owns_at h.row q hq
  have h3 : OwnS lo (XO w3 v) w3 s v xs := (h.below hb).wide (fun q hq => ⟨by have := hq.1; omega, hq.2⟩) (fun _ h => h)
  have hO3 : SB (XO w3 v) w3 t.2 a := hO.wide (fun q hq => by
    refine ⟨by omega, fun e => ?_⟩
    have := hv q e.symm
    omega)
  obtain ⟨h1, h2, _⟩ := own_snoc2 (n := n) (t := t) h3 hO3 ho hg hat hlt
  refine ⟨h1.wide (fun q hq => h1.off q hq) (fun _ h => h), (hb.mono hlo).trans ⟨h2.os, h2.tape, h2.output, h2.size, fun q hq => h2.block q (by omega) (fun e => ?_) (by simp)⟩⟩
  have := hv q e.symm
  omega
/-- Another row behind it. -/
theorem row_more {lo : Nat} {X : Nat → Prop} {w w' : World} {s s' : Sb} {v v' : Value} {xs news : List Value} (h : OwnS lo X w s v xs) (hn : PC X w s' news) (ho : w'.ownsRow lo 48 4 v' (s.length + s'.length) (xs ++ news)) (hg : w.grownBy w' v.ownBlock) : SubIn w' (s ++ s') v' := by
  have hr : ∀ q i, X q → w'.cell? ⟨q, i, none⟩ = w.cell? ⟨q, i, none⟩ := fun q i hq => World.cell?_of_block (hg.block q (h.off q hq).1 (h.off q hq).2)
  exact row_sub (X := X) (xs := xs ++ news) (by simpa using ho) (PC.append (hn.frame (fun _ hq => hq) hr) (h.cells.frame (fun _ hq => hq) hr))
theorem take_more {f : Int × Tm → Int × Tm} {s : Sb} {j : Nat} {p : Int × Tm} (h : s[j]? = some p) : (s.take (j + 1)).map f = (s.take j).map f ++ [f p] := by
  rw [List.take_add_one, h]
  simp

end Go.Proofs.Ytleogbdinafpaaa

/- What makes two terms the same: the document's solve, and its Unify. -/
namespace Go.Proofs.Ytleogbdinafpaaa
open Go.RowKit Go.Deep Go.ChangeShapes Go.WideShapes
attribute [local go_sem ↓] Go.wp_at_zero Go.wp_at_succ

def SolSaid (n : Nat) : Prop := ∀ (s : Sb) (L : List (Tm × Tm)) (R : Option Sb) (ls rs : List Tm) (vs vl vr : Value) (w : World), Eqs s L ls rs → runU n s L = some R → SubIn w s vs → SIn w (foOf ls) vl → SIn w (foOf rs) vr →
    Calls Try.prog 21 #[vs, vl, vr] w (UniPost w R)

set_option maxRecDepth 100000 in
set_option maxHeartbeats 4000000 in
theorem solve_any (n : Nat) : SolSaid n := by
  induction n using Nat.strongRecOn with
  | _ n ih =>
  intro s L R ls rs vs vl vr w hE hR hV hl hr
  have HI : Hid (∀ m, m < n → SolSaid m) := ih
  have HR := hide hR
  have HV := hide hV
  have HE := hide hE
  obtain ⟨vd, vc, vb, vo, rfl, hvd, hvlc, hvcm, hP⟩ := hV
  have HP := hide hP
  unfold maxLen at hvcm
  clear ih hP hR
  cases L with
  | nil =>
    obtain ⟨rfl, rfl⟩ := hE.nil
    have HRs : Hid (R = some s) := by
      have := HR.out
      cases n with
      | zero => simp [runU] at this
      | succ n => rw [Hid]; simpa [runU] using this.symm
    obtain ⟨ld, lc, lb, lo, rfl, hld, hllc, hlcm, -⟩ := hl
    obtain ⟨rd, rc, rb, ro, rfl, hrd, hrlc, hrcm, -⟩ := hr
    have hl0 : Fo.len (foOf []) = 0 := rfl
    rw [hl0]
    clear hld hrd hvd hE hl0
    go_enter Try.func21, Try.ntmps21
    go_wp2_with fail
    go_ret2
    exact ⟨Below.refl _ _, _, _, _, true, rfl, fun e => by (cases e), fun _ => ⟨s, HRs.out, rfl, HV.out⟩⟩
  | cons p L =>
    obtain ⟨⟨⟨tv, tn⟩, tk⟩, lt, ⟨⟨uv, un⟩, uk⟩, rt, rfl, rfl, hE', et, eu, gt, gu⟩ := hE.cons
    have HE' := hide hE'
    have Het := hide et
    have Heu := hide eu
    have Hgt := hide gt
    have Hgu := hide gu
    have Hlen := hide hE'.len
    have Hui := hide (ui_len hE'.ui)
    have Hl := hide hl
    have Hr := hide hr
    obtain ⟨ld, lc, lb, lo, rfl, hld, hllc, hlcm, hlF⟩ := hl
    obtain ⟨rd, rc, rb, ro, rfl, hrd, hrlc, hrcm, hrF⟩ := hr
    rw [foOf_len] at hld hllc hrd hrlc
    rw [foOf_len, foOf_len]
    simp only [List.length_cons] at hld hllc hrd hrlc ⊢
    have e1 := hld (by omega)
    have e2 := hrd (by omega)
    subst e1 e2
    have HlF := hide hlF
    have HrF := hide hrF
    obtain ⟨zl, hzl, hzl1⟩ := terms_rest (n := lt.length + 1) (c := lc) (b := lb) (o := lo) (by omega) hllc
    obtain ⟨zr, hzr, hzr1⟩ := terms_rest (n := rt.length + 1) (c := rc) (b := rb) (o := ro) (by omega) hrlc
    have HSl := hide (sin_rest hlF hllc hlcm hzl1)
    have HSr := hide (sin_rest hrF hrlc hrcm hzr1)
    obtain ⟨n0, n1, ⟨tva, n2, hSt⟩, -⟩ := FIn.node hlF
    obtain ⟨n3, n4, ⟨uva, n5, hSu⟩, -⟩ := FIn.node hrF
    have HSt := hide hSt
    have HSu := hide hSu
    obtain ⟨ta, tc, tb, t4, rfl, -, -, -, -⟩ := hSt
    obtain ⟨ua, uc, ub, u4, rfl, -, -, -, -⟩ := hSu
    simp only at n0 n1 n2 n3 n4 n5
    have hlb : lb < w.heap.size := World.block_lt_of_cell? _ _ n0
    have hrb : rb < w.heap.size := World.block_lt_of_cell? _ _ n3
    unfold maxLen at hlcm hrcm
    clear hE hE' et eu gt gu hld hrd hlF hrF hzl1 hzr1
    obtain ⟨⟨⟨mv, mn⟩, mk⟩, hm⟩ : ∃ z, z = subT (bnd s) ((tv, tn), tk) := ⟨_, rfl⟩
    obtain ⟨⟨⟨nv, nn⟩, nk⟩, hn⟩ : ∃ z, z = subT (bnd s) ((uv, un), uk) := ⟨_, rfl⟩
    have HcA := hide (fun w' hb => applyR_call (Below.refl _ w) HV.out (ui_ok HE.out.ui) HSt.out Hgt.out.ok Hgt.out.nar hm w' hb)
    have HcB := hide (fun w' hb => applyR_call (Below.refl _ w) HV.out (ui_ok HE.out.ui) HSu.out Hgu.out.ok Hgu.out.nar hn w' hb)
    have Hm := hide hm
    have Hn := hide hn
    have hcur : Below w.heap.size w w := Below.refl _ _
    have hl1 : (0 : Int) < ((lt.length + 1 : Nat) : Int) := by omega
    have hr1 : (0 : Int) < ((rt.length + 1 : Nat) : Int) := by omega
    have hne0 : (((lt.length + 1 : Nat) : Int) == 0) = false := by simp; omega
    have Hzl := hide hzl
    have Hzr := hide hzr
    have Hvd := hide hvd
    clear hm hn hvd hzl hzr
    go_enter Try.func21, Try.ntmps21
    go_upto_region 3 with fail
    go_cut [8, 9] (fun s13 s14 wx => ∃ (bx bb : Nat) (x1 : Option Addr) (x2 x3 : Nat) (y1 : Option Addr) (y2 y3 : Nat), s13 = .pointer (some ⟨bx, 0, none⟩) ∧ s14 = .pointer (some ⟨bb, 0, none⟩) ∧
      Bxs w wx bx bb (.bool mv) (.int .i64 mn) (.slice x1 x2 x3) (.bool nv) (.int .i64 nn) (.slice y1 y2 y3) ∧ SB (Off wx bx bb) wx mk (.slice x1 x2 x3) ∧ SB (Off wx bx bb) wx nk (.slice y1 y2 y3))
    case first =>
      have neN : w.heap.size ≠ lb := (by omega)
      have neN1 : w.heap.size + 1 ≠ lb := (by omega)
      have neN2 : w.heap.size ≠ rb := (by omega)
      have neN3 : w.heap.size + 1 ≠ rb := (by omega)
      go_region_held3 (fun w' => w'.cell? ⟨lb, lo, none⟩ = some (.bool tv) ∧ w'.cell? ⟨lb, lo + 1, none⟩ = some (.int .i64 tn) ∧ w'.cell? ⟨lb, lo + 2, none⟩ = some (.slice ta (Fo.len tk) tc) ∧ w'.cell? ⟨rb, ro, none⟩ = some (.bool uv) ∧ w'.cell? ⟨rb, ro + 1, none⟩ = some (.int .i64 un) ∧ w'.cell? ⟨rb, ro + 2, none⟩ = some (.slice ua (Fo.len uk) uc))
    (first
      | (with_reducible exact ⟨grow_cell hcur _ _ n0, grow_cell hcur _ _ n1, grow_cell hcur _ _ n2, grow_cell hcur _ _ n3, grow_cell hcur _ _ n4, grow_cell hcur _ _ n5⟩)
      | go_keep)
    (first
    | (go_at_call 10; with_reducible refine (HcA.out _ ?_).mono ?_; (with_reducible first | exact hcur | exact hcur.drew | exact (hcur.alloc hcur.size _).drew | exact hcur.alloc hcur.size _ | exact ((hcur.alloc hcur.size _).alloc (hcur.alloc hcur.size _).size _).drew | exact (hcur.alloc hcur.size _).alloc (hcur.alloc hcur.size _).size _); rintro e wA ⟨x1, x2, x3, mA, hmA, rfl, hSx, hbA⟩
       (with_reducible first | (refine thus (box2d hbA) ?_; rintro ⟨⟨fA0, fA1, fA2, fAf⟩, ⟨gA0, gA1, gA2, gAf⟩, fAl⟩; have fAk := Nat.lt_of_succ_lt fAl) | (refine thus (box2 hbA) ?_; rintro ⟨⟨fA0, fA1, fA2, fAf⟩, ⟨gA0, gA1, gA2, gAf⟩, fAl⟩; have fAk := Nat.lt_of_succ_lt fAl) | (refine thus (box1d hbA) ?_; rintro ⟨fA0, fA1, fA2, fAf, fAl⟩) | (refine thus (box1 hbA) ?_; rintro ⟨fA0, fA1, fA2, fAf, fAl⟩) | skip)
       (first | (refine thus (hmA.trans (size2 _ _ _)) ?_; intro kA) | (refine thus (hmA.trans (World.size_alloc _ _)) ?_; intro kA) | (refine thus hmA ?_; intro kA))
       (try (have hst : Below wB.heap.size wB wA := (by with_reducible first | exact hbA | exact below_box hbA | exact below_box (below_box hbA)); have hsl := hst.size; (try (have fB0' := grow_cell hst _ _ fB0; have fB1' := grow_cell hst _ _ fB1; have fB2' := grow_cell hst _ _ fB2; have ltfB0 := World.block_lt_of_cell? _ _ fB0; have ltfBc := World.block_lt_of_cell? _ _ fB0'; dsimp only at ltfBc; have fBf' := (fun i => (hst.frozen (p := ⟨_, i, none⟩) ltfB0).trans (fBf i)))); (try (have gB0' := grow_cell hst _ _ gB0; have gB1' := grow_cell hst _ _ gB1; have gB2' := grow_cell hst _ _ gB2; have ltgB0 := World.block_lt_of_cell? _ _ gB0; have ltgBc := World.block_lt_of_cell? _ _ gB0'; dsimp only at ltgBc; have gBf' := (fun i => (hst.frozen (p := ⟨_, i, none⟩) ltgB0).trans (gBf i))))))
       have hcurA : Below w.heap.size w wA := below_step (by with_reducible first | exact hcur | exact hcur.drew | exact (hcur.alloc hcur.size _).drew | exact hcur.alloc hcur.size _ | exact ((hcur.alloc hcur.size _).alloc (hcur.alloc hcur.size _).size _).drew | exact (hcur.alloc hcur.size _).alloc (hcur.alloc hcur.size _).size _) hbA
       replace hcur : Below w.heap.size w wA := below_step (by with_reducible first | exact hcur | exact hcur.drew | exact (hcur.alloc hcur.size _).drew | exact hcur.alloc hcur.size _ | exact ((hcur.alloc hcur.size _).alloc (hcur.alloc hcur.size _).size _).drew | exact (hcur.alloc hcur.size _).alloc (hcur.alloc hcur.size _).size _) hbA
       have hlA : lb < wA.heap.size := Nat.lt_of_lt_of_le hlb hcur.size; have hlA2 : rb < wA.heap.size := Nat.lt_of_lt_of_le hrb hcur.size
       have neA : wA.heap.size ≠ lb := (by omega)
       have neA1 : wA.heap.size + 1 ≠ lb := (by omega)
       have neA2 : wA.heap.size ≠ rb := (by omega)
       have neA3 : wA.heap.size + 1 ≠ rb := (by omega)
       have mA0 := grow_cell hcur _ _ n0; have mA1 := grow_cell hcur _ _ n1; have mA2 := grow_cell hcur _ _ n2; have mA3 := grow_cell hcur _ _ n3; have mA4 := grow_cell hcur _ _ n4; have mA5 := grow_cell hcur _ _ n5)
    | (go_at_call 10; with_reducible refine (HcB.out _ ?_).mono ?_; (with_reducible first | exact hcur | exact hcur.drew | exact (hcur.alloc hcur.size _).drew | exact hcur.alloc hcur.size _ | exact ((hcur.alloc hcur.size _).alloc (hcur.alloc hcur.size _).size _).drew | exact (hcur.alloc hcur.size _).alloc (hcur.alloc hcur.size _).size _); rintro e wB ⟨y1, y2, y3, mB, hmB, rfl, hSy, hbB⟩
       (with_reducible first | (refine thus (box2d hbB) ?_; rintro ⟨⟨fB0, fB1, fB2, fBf⟩, ⟨gB0, gB1, gB2, gBf⟩, fBl⟩; have fBk := Nat.lt_of_succ_lt fBl) | (refine thus (box2 hbB) ?_; rintro ⟨⟨fB0, fB1, fB2, fBf⟩, ⟨gB0, gB1, gB2, gBf⟩, fBl⟩; have fBk := Nat.lt_of_succ_lt fBl) | (refine thus (box1d hbB) ?_; rintro ⟨fB0, fB1, fB2, fBf, fBl⟩) | (refine thus (box1 hbB) ?_; rintro ⟨fB0, fB1, fB2, fBf, fBl⟩) | skip)
       (first | (refine thus (hmB.trans (size2 _ _ _)) ?_; intro kB) | (refine thus (hmB.trans (World.size_alloc _ _)) ?_; intro kB) | (refine thus hmB ?_; intro kB))
       (try (have hst : Below wA.heap.size wA wB := (by with_reducible first | exact hbB | exact below_box hbB | exact below_box (below_box hbB)); have hsl := hst.size; (try (have fA0' := grow_cell hst _ _ fA0; have fA1' := grow_cell hst _ _ fA1; have fA2' := grow_cell hst _ _ fA2; have ltfA0 := World.block_lt_of_cell? _ _ fA0; have ltfAc := World.block_lt_of_cell? _ _ fA0'; dsimp only at ltfAc; have fAf' := (fun i => (hst.frozen (p := ⟨_, i, none⟩) ltfA0).trans (fAf i)))); (try (have gA0' := grow_cell hst _ _ gA0; have gA1' := grow_cell hst _ _ gA1; have gA2' := grow_cell hst _ _ gA2; have ltgA0 := World.block_lt_of_cell? _ _ gA0; have ltgAc := World.block_lt_of_cell? _ _ gA0'; dsimp only at ltgAc; have gAf' := (fun i => (hst.frozen (p := ⟨_, i, none⟩) ltgA0).trans (gAf i))))))
       replace hcur : Below w.heap.size w wB := below_step (by with_reducible first | exact hcur | exact hcur.drew | exact (hcur.alloc hcur.size _).drew | exact hcur.alloc hcur.size _ | exact ((hcur.alloc hcur.size _).alloc (hcur.alloc hcur.size _).size _).drew | exact (hcur.alloc hcur.size _).alloc (hcur.alloc hcur.size _).size _) hbB
       have hlB : lb < wB.heap.size := Nat.lt_of_lt_of_le hlb hcur.size; have hlB2 : rb < wB.heap.size := Nat.lt_of_lt_of_le hrb hcur.size
       have neB : wB.heap.size ≠ lb := (by omega)
       have neB1 : wB.heap.size + 1 ≠ lb := (by omega)
       have neB2 : wB.heap.size ≠ rb := (by omega)
       have neB3 : wB.heap.size + 1 ≠ rb := (by omega)
       have mB0 := grow_cell hcur _ _ n0; have mB1 := grow_cell hcur _ _ n1; have mB2 := grow_cell hcur _ _ n2; have mB3 := grow_cell hcur _ _ n3; have mB4 := grow_cell hcur _ _ n4; have mB5 := grow_cell hcur _ _ n5))
      all_goals
        have hnA := hcurA.size
        have hnB := hcur.size
        have hnA1 : w.heap.size ≤ wA.heap.size + 1 := Nat.le_succ_of_le hnA
        go_wp2_with fail
        go_meet
        case rel =>
         first
        | (with_reducible refine ⟨wB.heap.size, wB.heap.size + 1, x1, x2, x3, y1, y2, y3, rfl, rfl, gin0 hcur, sb_keep hSx (fun q hq => ?_), sb_keep hSy (fun q hq => ?_)⟩
           · exact ⟨(heap0 (by omega)).trans (hst.block q (by omega)), by omega, by omega, by omega⟩
           · exact ⟨heap0 (by omega), by omega, by omega, by omega⟩)
        | (with_reducible refine ⟨wB.heap.size + 1, wB.heap.size, x1, x2, x3, y1, y2, y3, rfl, rfl, (gin0 hcur).swap, sb_keep hSx (fun q hq => ?_), sb_keep hSy (fun q hq => ?_)⟩
           · exact ⟨(heap0 (by omega)).trans (hst.block q (by omega)), by omega, by omega, by omega⟩
           · exact ⟨heap0 (by omega), by omega, by omega, by omega⟩)
        | (with_reducible refine ⟨wA.heap.size, wB.heap.size, x1, x2, x3, y1, y2, y3, rfl, rfl, gin1 hcur hnA fB0 fB1 fB2 fBf, sb_keep hSx (fun q hq => ?_), sb_keep hSy (fun q hq => ?_)⟩
           · exact ⟨(heap1 (by omega) (by omega)).trans (hst.block q (by omega)), by omega, by omega, by omega⟩
           · exact ⟨heap1 (by omega) (by omega), by omega, by omega, by omega⟩)
        | (with_reducible refine ⟨wB.heap.size, wA.heap.size, x1, x2, x3, y1, y2, y3, rfl, rfl, (gin1 hcur hnA fB0 fB1 fB2 fBf).swap, sb_keep hSx (fun q hq => ?_), sb_keep hSy (fun q hq => ?_)⟩
           · exact ⟨(heap1 (by omega) (by omega)).trans (hst.block q (by omega)), by omega, by omega, by omega⟩
           · exact ⟨heap1 (by omega) (by omega), by omega, by omega, by omega⟩)
        | (with_reducible refine ⟨w.heap.size, wB.heap.size, x1, x2, x3, y1, y2, y3, rfl, rfl, gin1 hcur (Nat.le_refl _) fA0' fA1' fA2' fAf', sb_keep hSx (fun q hq => ?_), sb_keep hSy (fun q hq => ?_)⟩
           · exact ⟨(heap1 (by omega) (by omega)).trans (hst.block q (by omega)), by omega, by omega, by omega⟩
           · exact ⟨heap1 (by omega) (by omega), by omega, by omega, by omega⟩)
        | (with_reducible refine ⟨wB.heap.size, w.heap.size, x1, x2, x3, y1, y2, y3, rfl, rfl, (gin1 hcur (Nat.le_refl _) fA0' fA1' fA2' fAf').swap, sb_keep hSx (fun q hq => ?_), sb_keep hSy (fun q hq => ?_)⟩
           · exact ⟨(heap1 (by omega) (by omega)).trans (hst.block q (by omega)), by omega, by omega, by omega⟩
           · exact ⟨heap1 (by omega) (by omega), by omega, by omega, by omega⟩)
        | (with_reducible refine ⟨wA.heap.size, wA.heap.size + 1, x1, x2, x3, y1, y2, y3, rfl, rfl, gin2 hcur hnA hnA1 (Nat.ne_of_lt (Nat.lt_succ_self _)) fB0 fB1 fB2 fBf gB0 gB1 gB2 gBf, sb_keep hSx (fun q hq => ?_), sb_keep hSy (fun q hq => ?_)⟩
           · exact ⟨(heap2 (by omega) (by omega)).trans (hst.block q (by omega)), by omega, by omega, by omega⟩
           · exact ⟨heap2 (by omega) (by omega), by omega, by omega, by omega⟩)
        | (with_reducible refine ⟨wA.heap.size + 1, wA.heap.size, x1, x2, x3, y1, y2, y3, rfl, rfl, gin2 hcur hnA1 hnA (Nat.ne_of_gt (Nat.lt_succ_self _)) gB0 gB1 gB2 gBf fB0 fB1 fB2 fBf, sb_keep hSx (fun q hq => ?_), sb_keep hSy (fun q hq => ?_)⟩
           · exact ⟨(heap2 (by omega) (by omega)).trans (hst.block q (by omega)), by omega, by omega, by omega⟩
           · exact ⟨heap2 (by omega) (by omega), by omega, by omega, by omega⟩)
        | (with_reducible refine ⟨w.heap.size, wA.heap.size, x1, x2, x3, y1, y2, y3, rfl, rfl, gin2 hcur (Nat.le_refl _) hnA (Nat.ne_of_lt fAl) fA0' fA1' fA2' fAf' fB0 fB1 fB2 fBf, sb_keep hSx (fun q hq => ?_), sb_keep hSy (fun q hq => ?_)⟩
           · exact ⟨(heap2 (by omega) (by omega)).trans (hst.block q (by omega)), by omega, by omega, by omega⟩
           · exact ⟨heap2 (by omega) (by omega), by omega, by omega, by omega⟩)
        | (with_reducible refine ⟨wA.heap.size, w.heap.size, x1, x2, x3, y1, y2, y3, rfl, rfl, gin2 hcur hnA (Nat.le_refl _) (Nat.ne_of_gt fAl) fB0 fB1 fB2 fBf fA0' fA1' fA2' fAf', sb_keep hSx (fun q hq => ?_), sb_keep hSy (fun q hq => ?_)⟩
           · exact ⟨(heap2 (by omega) (by omega)).trans (hst.block q (by omega)), by omega, by omega, by omega⟩
           · exact ⟨heap2 (by omega) (by omega), by omega, by omega, by omega⟩)
        | (with_reducible refine ⟨w.heap.size, w.heap.size + 1, x1, x2, x3, y1, y2, y3, rfl, rfl, gin2 hcur (Nat.le_refl _) (Nat.le_succ _) (Nat.ne_of_lt (Nat.lt_succ_self _)) fA0' fA1' fA2' fAf' gA0' gA1' gA2' gAf', sb_keep hSx (fun q hq => ?_), sb_keep hSy (fun q hq => ?_)⟩
           · exact ⟨(heap2 (by omega) (by omega)).trans (hst.block q (by omega)), by omega, by omega, by omega⟩
           · exact ⟨heap2 (by omega) (by omega), by omega, by omega, by omega⟩)
        | (with_reducible refine ⟨w.heap.size + 1, w.heap.size, x1, x2, x3, y1, y2, y3, rfl, rfl, gin2 hcur (Nat.le_succ _) (Nat.le_refl _) (Nat.ne_of_gt (Nat.lt_succ_self _)) gA0' gA1' gA2' gAf' fA0' fA1' fA2' fAf', sb_keep hSx (fun q hq => ?_), sb_keep hSy (fun q hq => ?_)⟩
           · exact ⟨(heap2 (by omega) (by omega)).trans (hst.block q (by omega)), by omega, by omega, by omega⟩
           · exact ⟨heap2 (by omega) (by omega), by omega, by omega, by omega⟩)
    case rest =>
      obtain ⟨bx, bb, x1, x2, x3, y1, y2, y3, rfl, rfl, hbxs, hSm, hSn⟩ := hcut
      generalize wc = wx at *
      obtain ⟨⟨⟨a0, a1, a2⟩, ⟨e0, e1, e2⟩, hbx⟩, ⟨f1, f2⟩, hwb, hwd, hbd⟩ := hbxs
      have HSm := hide hSm
      have HSn := hide hSn
      obtain ⟨_, _, _, _, he, -, -, -, -⟩ := hSm
      simp only [Value.slice.injEq] at he
      obtain ⟨-, rfl, -⟩ := he
      obtain ⟨_, _, _, _, he, -, -, -, -⟩ := hSn
      simp only [Value.slice.injEq] at he
      obtain ⟨-, rfl, -⟩ := he
      have HgM : Hid (Gd ((mv, mn), mk)) := by rw [Hid, Hm.out]; exact gd_sub HE.out.ui.gs Hgt.out
      have HgN : Hid (Gd ((nv, nn), nk)) := by rw [Hid, Hn.out]; exact gd_sub HE.out.ui.gs Hgu.out
      have hzl := Hzl.out
      have hzr := Hzr.out
      clear n0 n1 n2 n3 n4 n5 hcur HcA HcB hlb hrb
      go_upto_region 4 with fail
      go_cut [1, 2] (fun s1 s2 wy => s1 = .slice zl lt.length (lc - 1) ∧ s2 = .slice zr rt.length (rc - 1) ∧ wy = wx.drew)
      case first =>
        go_region
        all_goals
          go_wp2_with fail
          go_meet
          case rel => exact ⟨rfl, rfl, rfl⟩
      case rest =>
        obtain ⟨rfl, rfl, rfl⟩ := hcut
        clear hzl hzr
        go_wp2_with fail
        refine (sameR_any (mv, mn) mk (nv, nn) nk _ _ wx.drew HSm.out.toS.drew HSn.out.toS.drew).mono ?_
        rintro e w9 ⟨rfl, hb9⟩
        have hb9' : Below wx.heap.size wx w9 := (Below.refl _ _).drew.trans hb9
        have hB9 := below_step hbx hb9'
        have HSl9 : Hid (SIn w9 (foOf lt) (.slice zl lt.length (lc - 1))) := HSl.out.below hB9
        have HSr9 : Hid (SIn w9 (foOf rt) (.slice zr rt.length (rc - 1))) := HSr.out.below hB9
        have HB9 := hide hB9
        cases hsm : sameT (mv, mn) mk (nv, nn) nk
        · have Hne : Hid (((mv, mn), mk) ≠ ((nv, nn), nk)) := fun e => by
            have := (sameT_iff (t := ((mv, mn), mk)) (u := ((nv, nn), nk)) HgM.out.ok HgN.out.ok).2 e
            simp only at this
            rw [hsm] at this
            cases this
          have c0 := grow_cell hb9' _ _ a0
          have c1 := grow_cell hb9' _ _ a1
          have c2 := grow_cell hb9' _ _ a2
          have d0 := grow_cell hb9' _ _ e0
          have d1 := grow_cell hb9' _ _ e1
          have d2 := grow_cell hb9' _ _ e2
          have hbl : bx < wx.heap.size := World.block_lt_of_cell? _ _ a0
          have hdl : bb < wx.heap.size := World.block_lt_of_cell? _ _ e0
          have g1 : ∀ i, w9.frozen? ⟨bx, i, none⟩ = false := fun i => (hb9'.frozen (p := ⟨bx, i, none⟩) hbl).trans (f1 i)
          have g2 : ∀ i, w9.frozen? ⟨bb, i, none⟩ = false := fun i => (hb9'.frozen (p := ⟨bb, i, none⟩) hdl).trans (f2 i)
          have hs9 := hb9'.size
          have HSm9 : Hid (SB (Off w9 bx bb) w9 mk (.slice x1 (Fo.len mk) x3)) := (HSm.out.grow (fun _ h => h.1) hb9').wide (fun q h => ⟨by have := h.1; omega, h.2⟩)
          have HSn9 : Hid (SB (Off w9 bx bb) w9 nk (.slice y1 (Fo.len nk) y3)) := (HSn.out.grow (fun _ h => h.1) hb9').wide (fun q h => ⟨by have := h.1; omega, h.2⟩)
          have hdb : bb ≠ bx := Ne.symm hbd
          have hbl9 : bx < w9.heap.size := by omega
          have hdl9 : bb < w9.heap.size := by omega
          clear a0 a1 a2 e0 e1 e2 f1 f2 hsm hb9 hb9' hs9 HSm HSn hbl hdl hbx
          go_upto_region 7 with fail
          go_cut [48] (fun s48 wy => s48 = .bool (!mv && !nv) ∧ w9 = wy)
          case first =>
            cases mv <;> cases nv
            all_goals
              go_wp2_with fail
              go_meet
              case rel => exact ⟨rfl, rfl⟩
          case rest =>
            obtain ⟨rfl, rfl⟩ := hcut
            cases hvv : (!mv && !nv)
            · -- one of them is a variable
              go_upto_if 81 with fail
              go_cut [] (fun wy => ∃ (pv : Bool) (pn : Int) (pk : Fo) (p1 : Option Addr) (p3 : Nat) (qv : Bool) (qn : Int) (qk : Fo) (q1 : Option Addr) (q3 : Nat), C3 wy bx (.bool pv) (.int .i64 pn) (.slice p1 (Fo.len pk) p3) ∧ C3 wy bb (.bool qv) (.int .i64 qn) (.slice q1 (Fo.len qk) q3) ∧ Below w.heap.size w wy ∧ SIn wy qk (.slice q1 (Fo.len qk) q3) ∧
                ((((pv, pn), pk) = ((mv, mn), mk) ∧ ((qv, qn), qk) = ((nv, nn), nk) ∧ pv = true) ∨ (((pv, pn), pk) = ((nv, nn), nk) ∧ ((qv, qn), qk) = ((mv, mn), mk) ∧ pv = true ∧ ¬ qv = true)))
              case first =>
                cases mv
                · have hnv : nv = true := by revert hvv; cases nv <;> simp
                  subst hnv
                  have Hfin : Hid (C3 (set3 (set3 w9 bx 0 (.bool true) (.int .i64 nn) (.slice y1 (Fo.len nk) y3)) bb 0 (.bool false) (.int .i64 mn) (.slice x1 (Fo.len mk) x3)) bx (.bool true) (.int .i64 nn) (.slice y1 (Fo.len nk) y3) ∧ C3 (set3 (set3 w9 bx 0 (.bool true) (.int .i64 nn) (.slice y1 (Fo.len nk) y3)) bb 0 (.bool false) (.int .i64 mn) (.slice x1 (Fo.len mk) x3)) bb (.bool false) (.int .i64 mn) (.slice x1 (Fo.len mk) x3) ∧ Below w.heap.size w (set3 (set3 w9 bx 0 (.bool true) (.int .i64 nn) (.slice y1 (Fo.len nk) y3)) bb 0 (.bool false) (.int .i64 mn) (.slice x1 (Fo.len mk) x3))) := fin2 HB9.out hwb hwd hbd c0 c1 c2 d0 d1 d2
                  have HSq := hide (sb_swapped (x := .bool true) (y := .int .i64 nn) (z := .slice y1 (Fo.len nk) y3) (x' := .bool false) (y' := .int .i64 mn) (z' := .slice x1 (Fo.len mk) x3) HSm9.out)
                  clear hvv
                  go_wp2_with fail
                  go_meet
                  case rel => exact ⟨true, nn, nk, y1, y3, false, mn, mk, x1, x3, Hfin.out.1, Hfin.out.2.1, Hfin.out.2.2, HSq.out, .inr ⟨rfl, rfl, rfl, by decide⟩⟩
                · clear hvv
                  go_wp2_with fail
                  go_meet
                  case rel => exact ⟨true, mn, mk, x1, x3, nv, nn, nk, y1, y3, ⟨c0, c1, c2⟩, ⟨d0, d1, d2⟩, HB9.out, HSn9.out.toS, .inl ⟨rfl, rfl, rfl⟩⟩
              case rest =>
                obtain ⟨pv, pn, pk, p1, p3, qv, qn, qk, q1, q3, ⟨a0, a1, a2⟩, ⟨e0, e1, e2⟩, hby, hSq, huv⟩ := hcut
                generalize wc = wy at *
                have HSq := hide hSq
                have Hby := hide hby
                have HgQ : Hid (Gd ((qv, qn), qk)) := by
                  rcases huv with ⟨_, h, _⟩ | ⟨_, h, _, _⟩
                  · rw [Hid, h]; exact HgN.out
                  · rw [Hid, h]; exact HgM.out
                have Hbind := hide (Eqs.bind HE.out.ui HE'.out HR.out Hm.out Hn.out Het.out Heu.out Hne.out huv)
                have Hv5 : Hid ((varsT (qv, qn) qk []).length * 8 ≤ 140737488355328) := by
                  have := gd_vars HgQ.out
                  simp only at this
                  unfold Hid
                  omega
                clear hSq hby huv hvv c0 c1 c2 d0 d1 d2 g1 g2 HSl9 HSr9 HSm9 HSn9
                go_wp2_with fail
                refine (inR_any pn (qv, qn) qk _ wy _ rfl HSq.out Hv5.out).mono ?_
                rintro e w11 ⟨rfl, hb11⟩
                have hB11 := below_step Hby.out hb11
                have b1 := grow_cell hb11 _ _ a1
                have m0 := grow_cell hb11 _ _ e0
                have m1 := grow_cell hb11 _ _ e1
                have m2 := grow_cell hb11 _ _ e2
                have HSq11 := hide (HSq.out.below hb11)
                have HB11 := hide hB11
                clear a0 a1 a2 e0 e1 e2 hb11 HSq Hv5
                cases hh : hasB (varsT (qv, qn) qk []) pn
                · have Hadd : Hid (addS s pn ((qv, qn), qk) = some ((s.map fun p => (p.1, subT (bnd [(pn, ((qv, qn), qk))]) p.2)) ++ [(pn, ((qv, qn), qk))])) := by
                    unfold addS Hid
                    rw [if_neg (by simp [hh])]
                  obtain ⟨m, hmn, hE2, hm2⟩ := Hbind.out.2 _ Hadd.out
                  have HE2 := hide hE2
                  have Hm2 := hide hm2
                  have Hmn := hide hmn
                  clear hh hE2 hm2 hmn hB11 Hbind
                  go_wp2_with fail
                  generalize hWl : w11.alloc (.cells #[.int .i64 pn, .bool qv, .int .i64 qn, .slice q1 (Fo.len qk) q3] 48) = Wl
                  have HBl : Hid (Below w.heap.size w Wl) := by rw [Hid, ← hWl]; exact HB11.out.alloc HB11.out.size _
                  have hsl : Wl.heap.size = w11.heap.size + 1 := by rw [← hWl]; simp
                  have Hblk : Hid (Wl.heap[w11.heap.size]? = some (.cells #[.int .i64 pn, .bool qv, .int .i64 qn, .slice q1 (Fo.len qk) q3] 48)) := by rw [Hid, ← hWl]; exact heap_alloc_new w11 _
                  have Hone : Hid (SubIn Wl [(pn, ((qv, qn), qk))] (.slice (some ⟨w11.heap.size, 0, none⟩) 1 1)) := by
                    rw [Hid, ← hWl]
                    exact ⟨_, 1, w11.heap.size, 0, rfl, fun _ => rfl, Nat.le_refl _, by unfold maxLen; omega, new_cell rfl, new_cell rfl, new_cell rfl, ⟨_, new_cell rfl, HSq11.out.alloc _⟩, trivial⟩
                  have HQl : Hid (SIn Wl qk (.slice q1 (Fo.len qk) q3)) := by rw [Hid, ← hWl]; exact HSq11.out.alloc _
                  have Hs5 : Hid (s.length ≤ 5) := Hui.out.2
                  clear hWl b1 m0 m1 m2
                  go_loopw [11, 95] (fun vj i wr => ∃ (j : Nat) (o1 : Option Addr) (o3 : Nat) (xs : List Value), j ≤ s.length ∧ vj = .slice o1 j o3 ∧ i = .int .i64 j ∧ OwnS Wl.heap.size (XO wr (.slice o1 j o3)) wr ((s.take j).map fun p => (p.1, subT (bnd [(pn, ((qv, qn), qk))]) p.2)) (.slice o1 j o3) xs ∧ Below Wl.heap.size Wl wr) (fun _ i _ => s.length - (intOf i).toNat)
                  case atStart => exact ⟨0, none, 0, [], Nat.zero_le _, rfl, rfl, own_nil _ _, Below.refl _ _⟩
                  case round =>
                    obtain ⟨j, o1, o3, xs, hj, rfl, rfl, hO, hBr⟩ := hrel
                    have HO := hide hO
                    have HBr := hide hBr
                    have hsr := hBr.size
                    have hBw := below_step HBl.out hBr
                    have HBw := hide hBw
                    have Hlj : Hid (((s.take j).map fun p => (p.1, subT (bnd [(pn, ((qv, qn), qk))]) p.2)).length = j) := by rw [Hid, List.length_map, List.length_take]; omega
                    have H1 : Hid (wr.ownsRow Wl.heap.size 48 4 (.slice o1 j o3) j xs) := by
                      have := hO.row
                      rw [Hlj.out] at this
                      exact this
                    obtain ⟨i52, hi52, hz0, hz1, hz2⟩ := info_parts Try.info48
                    have hs5 := Hs5.out
                    clear hO hBr
                    by_cases hlt : j < s.length
                    · have hlt' : (j : Int) < (s.length : Int) := by omega
                      have hj0 : (0 : Int) ≤ (j : Int) := by omega
                      obtain ⟨⟨mm, ⟨ev, en⟩, ek⟩, hy⟩ : ∃ y, s[j]? = some y := ⟨s[j], by simp [hlt]⟩
                      have ha : vd = some ⟨vb, vo, none⟩ := Hvd.out (by omega)
                      subst ha
                      obtain ⟨d0, d1, d2, ya', d3, hSy⟩ := HP.out.at hy
                      have d0' := grow_cell hBw _ _ d0
                      have d1' := grow_cell hBw _ _ d1
                      have d2' := grow_cell hBw _ _ d2
                      have d3' := grow_cell hBw _ _ d3
                      have HSy := hide (hSy.below HBl.out)
                      obtain ⟨ya, yc, yb, yo, rfl, -, -, -, -⟩ := hSy
                      obtain ⟨⟨⟨zv, zn⟩, zk⟩, hz⟩ : ∃ z, z = subT (bnd [(pn, ((qv, qn), qk))]) ((ev, en), ek) := ⟨_, rfl⟩
                      have Hs1 : Hid ((s.take (j + 1)).map (fun p => (p.1, subT (bnd [(pn, ((qv, qn), qk))]) p.2)) = (s.take j).map (fun p => (p.1, subT (bnd [(pn, ((qv, qn), qk))]) p.2)) ++ [(mm, ((zv, zn), zk))]) := by rw [Hid, take_more hy, hz]
                      have Hge : Hid (Gd ((ev, en), ek)) := HE.out.ui.gs _ (List.mem_of_getElem? hy)
                      have hn1 : j + 1 ≤ maxLen := by unfold maxLen; omega
                      have hn2 : (j + 1) * 48 ≤ 140737488355328 := by omega
                      have Hz := hide hz
                      clear hy d0 d1 d2 d3 hBw hz
                      go_upto_region 20 with fail
                      generalize hwa : wr.alloc (.cells #[.int .i64 mm, .bool ev, .int .i64 en, .slice ya (Fo.len ek) yc] 48) = wa
                      have e0 : wa.cell? ⟨wr.heap.size, 0, none⟩ = some (.int .i64 mm) := by rw [← hwa]; exact new_cell rfl
                      have e1 : wa.cell? ⟨wr.heap.size, 1, none⟩ = some (.bool ev) := by rw [← hwa]; exact new_cell rfl
                      have e2 : wa.cell? ⟨wr.heap.size, 2, none⟩ = some (.int .i64 en) := by rw [← hwa]; exact new_cell rfl
                      have e3 : wa.cell? ⟨wr.heap.size, 3, none⟩ = some (.slice ya (Fo.len ek) yc) := by rw [← hwa]; exact new_cell rfl
                      have hba : Below wr.heap.size wr wa := by rw [← hwa]; exact below_alloc _ _
                      have hcall : Calls Try.prog 10 #[.slice (some ⟨w11.heap.size, 0, none⟩) 1 1, .agg #[.bool ev, .int .i64 en, .slice ya (Fo.len ek) yc]] wa.drew fun e w' => ∃ (a1 : Option Addr) (a2 a3 : Nat), e = .returned (.agg #[.bool zv, .int .i64 zn, .slice a1 a2 a3]) ∧ SB (fun q => q < Wl.heap.size ∨ (wr.heap.size ≤ q ∧ q < w'.heap.size)) w' zk (.slice a1 a2 a3) ∧ Below wa.heap.size wa w' := by
                        refine (applyR_any (ev, en) ek [(pn, ((qv, qn), qk))] _ Wl _ wa.drew ?_ Hone.out ?_ HSy.out Hge.out.ok Hge.out.nar).mono ?_
                        · exact (below_step HBr.out hba).drew
                        · intro p hp
                          simp only [List.mem_singleton] at hp
                          subst hp
                          exact HgQ.out.ok
                        · rintro e w' ⟨a1, a2, a3, rfl, hk, hb⟩
                          rw [← Hz.out] at hk ⊢
                          have hs := hba.size
                          exact ⟨a1, a2, a3, rfl, hk.wide (fun q hq => by rcases hq with h | h; exact .inl h; exact .inr ⟨Nat.le_trans hs h.1, h.2⟩), (Below.refl _ _).drew.trans hb⟩
                      have Hcall := hide hcall
                      have Hba := hide hba
                      clear hcall hwa d0' d1' d2' d3' hba
                      go_region_law (first
                        | (refine step_append_lies _ (by rfl) _ _ _ (by rfl) Wl.heap.size 48 i52 (.agg #[.int .i64 0, .bool false, .int .i64 0, .slice none 0 0]) 4 48 Try.underlying29 hi52 hz0 hz1 hz2 rfl (by decide) (.slice o1 j o3) j xs (by rfl) Hown3.out ⟨w3.heap.size, 0, none⟩ 1 1 [.int .i64 mm, .bool zv, .int .i64 zn, .slice a1 a2 a3] (by rfl) (by rfl) Hnews.out (by simp [Value.oneCell']) (by decide) hn1 hn2 (by simp; omega) (w3.heap.size + 1) (by simp) ?_; intro g cap w4 ho4 hg4 hat4 hlt4)
                        | (go_simp; go_at_call 10; refine Hcall.out.mono ?_; rintro e w3 ⟨a1, a2, a3, rfl, hk3, hb3⟩
                           have hs3 := hb3.size; have hsa := Hba.out.size; have k0 := grow_cell hb3 _ _ e0
                           have Hown3 : Hid ((w3.alloc (.cells #[.int .i64 mm, .bool zv, .int .i64 zn, .slice a1 a2 a3] 48)).ownsRow Wl.heap.size 48 4 (.slice o1 j o3) j xs) := (owns_keep H1.out (fun g hg => by have h := owns_at H1.out g hg; have hsz := Hba.out.size; rw [Below.heap_alloc _ _ _ (by omega), hb3.block g (by omega), Hba.out.block g h.2]))
                           have Hnews : Hid (∀ j u, [Value.int .i64 mm, .bool zv, .int .i64 zn, .slice a1 a2 a3][j]? = some u → (w3.alloc (.cells #[.int .i64 mm, .bool zv, .int .i64 zn, .slice a1 a2 a3] 48)).cell? ((⟨w3.heap.size, 0, none⟩ : Addr).add j) = some u) := (World.news_of_block (cs := #[.int .i64 mm, .bool zv, .int .i64 zn, .slice a1 a2 a3]) (heap_alloc_new w3 _))))
                      all_goals
                        have Hst := hide (out_next (n := mm) (t := ((zv, zn), zk)) (a := .slice a1 a2 a3) HO.out Hlj.out (below_step Hba.out hb3) hsr hk3 ho4 hg4 hat4 hlt4)
                        clear hk3 hb3 ho4 hg4 hat4 hlt4 k0 Hown3 Hnews hi52 hz0 hz1 hz2
                        go_wp2_with fail
                        go_roundw
                        case rel => exact ⟨j + 1, some ⟨g, 0, none⟩, cap, _, by omega, rfl, by go_num, by rw [Hs1.out]; exact Hst.out.1, HBr.out.trans Hst.out.2⟩
                        case measure => simp [intOf]; omega
                    · have hje : j = s.length := by omega
                      subst hje
                      have HCs : Hid (Cs wr (.slice (some ⟨w11.heap.size, 0, none⟩) 1 1) 1 4 [.int .i64 pn, .bool qv, .int .i64 qn, .slice q1 (Fo.len qk) q3]) := cs_pair ((HBr.out.block _ (by omega)).trans Hblk.out)
                      have hn1 : s.length + 1 ≤ maxLen := by unfold maxLen; omega
                      have hn2 : (s.length + 1) * 48 ≤ 140737488355328 := by omega
                      have HPC : Hid (PC (XO wr (.slice o1 s.length o3)) wr [(pn, ((qv, qn), qk))] [.int .i64 pn, .bool qv, .int .i64 qn, .slice q1 (Fo.len qk) q3]) := PC.one (t := ((qv, qn), qk)) ((HQl.out.toB.grow (fun _ h => h) HBr.out).wide (fun q hq => ⟨by omega, fun e => by have := (owns_at H1.out q e.symm).1; omega⟩))
                      clear hBw
                      go_wp2_with (at_builtin; refine wpList_append_gen rfl (.tmp 110) (.tmp 111) 29 rfl Wl.heap.size 48 i52 (.agg #[.int .i64 0, .bool false, .int .i64 0, .slice none 0 0]) 4 48 Try.underlying29 hi52 hz0 hz1 hz2 rfl (by decide) (.slice o1 s.length o3) s.length xs rfl H1.out _ 1 [.int .i64 pn, .bool qv, .int .i64 qn, .slice q1 (Fo.len qk) q3] rfl HCs.out hn1 hn2 hsr ?_; intro v4 w4 ho4 hg4 hat4)
                      have HB4 : Hid (Below w.heap.size w w4) := HBw.out.grown hg4 HBw.out.size (fun g hg => by have := (owns_at H1.out g hg).1; have := HBl.out.size; omega)
                      have Hrow : Hid (SubIn w4 ((s.map fun p => (p.1, subT (bnd [(pn, ((qv, qn), qk))]) p.2)) ++ [(pn, ((qv, qn), qk))]) v4) := by
                        have := row_more HO.out HPC.out (by rw [Hlj.out]; exact ho4) hg4
                        rw [List.take_length] at this
                        exact this
                      refine (HI.out m Hmn.out _ L R lt rt _ _ _ w4 HE2.out Hm2.out Hrow.out (HSl.out.below HB4.out) (HSr.out.below HB4.out)).mono ?_
                      rintro e w10 ⟨hb10, z1, zm, z3, ok, rfl, hno, hyes⟩
                      have Hf : Hid (UniPost w R (.returned (.tuple #[.slice z1 zm z3, .bool ok])) w10) := ⟨below_step HB4.out hb10, z1, zm, z3, ok, rfl, hno, hyes⟩
                      clear hno hyes hb10 ho4 hg4 hat4 hi52 hz0 hz1 hz2
                      go_wp2_with fail
                      go_ret2
                      exact Hf.out
                · have Hf : Hid (UniPost w R (.returned (.tuple #[.slice none 0 0, .bool false])) w11) := uni_no HB11.out (Hbind.out.1 (by
                    unfold addS
                    rw [if_pos (by simpa using hh)]))
                  clear hh
                  go_wp2_with fail
                  go_ret2
                  exact Hf.out
            · -- two symbols
              obtain ⟨rfl, rfl⟩ : mv = false ∧ nv = false := by revert hvv; cases mv <;> cases nv <;> simp
              obtain ⟨hargs0, hargs1⟩ := Eqs.args HE.out.ui HE'.out HR.out Hm.out Hn.out Het.out Heu.out Hgt.out Hgu.out rfl rfl
              clear hvv g1 g2
              by_cases hc : mn = nn ∧ Fo.len mk = Fo.len nk
              · obtain ⟨rfl, hll⟩ := hc
                obtain ⟨m, L', hmn, hE2, hm2⟩ := hargs1 ⟨rfl, hll⟩
                have HE2 : Hid (Eqs s L' (([] ++ mk.list) ++ lt) (([] ++ nk.list) ++ rt)) := hE2
                have Hm2 := hide hm2
                have Hmn := hide hmn
                have hnb : (mn != mn) = false := by simp
                have hlb : ((Fo.len mk : Int) != (Fo.len nk : Int)) = false := by simp [hll]
                have Hk1 : Hid (SIn w9 (foOf mk.list) (.slice x1 (Fo.len mk) x3)) := by rw [Hid, foOf_of_ok HgM.out.ok.2]; exact HSm9.out.toS
                have Hk2 : Hid (SIn w9 (foOf nk.list) (.slice y1 (Fo.len nk) y3)) := by rw [Hid, foOf_of_ok HgN.out.ok.2]; exact HSn9.out.toS
                have Hb1 : Hid (mk.list.length ≤ 2 ∧ nk.list.length ≤ 2 ∧ lt.length ≤ 384 ∧ rt.length ≤ 384) := by
                  have h1 := HgM.out.two.1
                  have h2 := HgN.out.two.1
                  have h3 := Hlen.out
                  have h4 := Hui.out
                  simp only at h1 h2
                  rw [Hid, Fo.len_list, Fo.len_list]
                  omega
                have hA1 : ([] : List Tm).length + mk.list.length ≤ 1000 := by have := Hb1.out; simp; omega
                have hA2 : ([] ++ mk.list).length + lt.length ≤ 1000 := by have := Hb1.out; simp; omega
                have hA3 : ([] : List Tm).length + nk.list.length ≤ 1000 := by have := Hb1.out; simp; omega
                have hA4 : ([] ++ nk.list).length + rt.length ≤ 1000 := by have := Hb1.out; simp; omega
                have hst := Side.init w9
                have ne1 : w9.heap.size ≠ bx := by omega
                have ne2 : w9.heap.size ≠ bb := by omega
                have ne3 : w9.heap.size + 1 ≠ bx := by omega
                have ne4 : w9.heap.size + 1 ≠ bb := by omega
                clear hargs0 hargs1 hE2 hm2 hll hmn
                go_upto_region 10 with fail
                go_region_held3 (fun w' => w'.cell? ⟨bx, 2, none⟩ = some (.slice x1 (Fo.len mk) x3) ∧ w'.cell? ⟨bb, 2, none⟩ = some (.slice y1 (Fo.len nk) y3))
                  (first
                    | (with_reducible exact ⟨grow_cell hst.below _ _ c2, grow_cell hst.below _ _ d2⟩)
                    | go_keep)
                  (first
                    | (apply step_app (wx := w9) (lv := .slice x1 (Fo.len mk) x3) (ts := mk.list) (a := []); (case hgd => rfl); (case ho => rfl); (case hx => rfl); (case hS => exact Hk1.out); (case hb => exact hA1)
                       (first | ((case h => with_reducible exact hst); (case hs => rfl)) | ((case h => with_reducible exact (hst.bareA rfl)); (case hs => rfl)) | ((case h => with_reducible exact (hst.bareA rfl).drew); (case hs => rfl)) | ((case h => with_reducible exact (hst.bareA rfl).bareB (World.size_alloc _ _).symm); (case hs => rfl)) | ((case h => with_reducible exact ((hst.bareA rfl).bareB (World.size_alloc _ _).symm).drew); (case hs => rfl)) | ((case h => with_reducible exact (hst.bareB rfl).bareA (World.size_alloc _ _).symm); (case hs => rfl)) | ((case h => with_reducible exact ((hst.bareB rfl).bareA (World.size_alloc _ _).symm).drew); (case hs => rfl)))
                       clear hst
                       intro vA wA hst
                       have k0 := grow_cell hst.below _ _ c2; have k1 := grow_cell hst.below _ _ d2; have hsz := hst.below.size
                       have k2 : wA.heap.size ≠ bx := (by omega); have k3 : wA.heap.size ≠ bb := (by omega); have k4 : wA.heap.size + 1 ≠ bx := (by omega); have k5 : wA.heap.size + 1 ≠ bb := (by omega))
                    | (apply step_app (wx := w9) (lv := .slice zl lt.length (lc - 1)) (ts := lt) (a := [] ++ mk.list); (case hgd => rfl); (case ho => rfl); (case hx => rfl); (case hS => exact HSl9.out); (case hb => exact hA2)
                       (first | ((case h => with_reducible exact hst); (case hs => rfl)) | ((case h => with_reducible exact (hst.bareB rfl)); (case hs => rfl)))
                       clear hst
                       intro vB wB hst
                       have k0 := grow_cell hst.below _ _ c2; have k1 := grow_cell hst.below _ _ d2; have hsz := hst.below.size
                       have k2 : wB.heap.size ≠ bx := (by omega); have k3 : wB.heap.size ≠ bb := (by omega); have k4 : wB.heap.size + 1 ≠ bx := (by omega); have k5 : wB.heap.size + 1 ≠ bb := (by omega))
                    | (apply step_app (wx := w9) (lv := .slice y1 (Fo.len nk) y3) (ts := nk.list) (a := []); (case hgd => rfl); (case ho => rfl); (case hx => rfl); (case hS => exact Hk2.out); (case hb => exact hA3)
                       (first | ((case h => with_reducible exact hst.swap); (case hs => rfl)) | ((case h => with_reducible exact (hst.bareB rfl).swap); (case hs => rfl)) | ((case h => with_reducible exact (hst.bareB rfl).drew.swap); (case hs => rfl)) | ((case h => with_reducible exact ((hst.bareA rfl).bareB (World.size_alloc _ _).symm).swap); (case hs => rfl)) | ((case h => with_reducible exact ((hst.bareA rfl).bareB (World.size_alloc _ _).symm).drew.swap); (case hs => rfl)) | ((case h => with_reducible exact ((hst.bareB rfl).bareA (World.size_alloc _ _).symm).swap); (case hs => rfl)) | ((case h => with_reducible exact ((hst.bareB rfl).bareA (World.size_alloc _ _).symm).drew.swap); (case hs => rfl)))
                       clear hst
                       intro vC wC hst
                       replace hst := hst.swap
                       have k0 := grow_cell hst.below _ _ c2; have k1 := grow_cell hst.below _ _ d2; have hsz := hst.below.size
                       have k2 : wC.heap.size ≠ bx := (by omega); have k3 : wC.heap.size ≠ bb := (by omega); have k4 : wC.heap.size + 1 ≠ bx := (by omega); have k5 : wC.heap.size + 1 ≠ bb := (by omega))
                    | (apply step_app (wx := w9) (lv := .slice zr rt.length (rc - 1)) (ts := rt) (a := [] ++ nk.list); (case hgd => rfl); (case ho => rfl); (case hx => rfl); (case hS => exact HSr9.out); (case hb => exact hA4)
                       (first | ((case h => with_reducible exact hst.swap); (case hs => rfl)) | ((case h => with_reducible exact (hst.bareA rfl).swap); (case hs => rfl)))
                       clear hst
                       intro vD wD hst
                       replace hst := hst.swap
                       have k0 := grow_cell hst.below _ _ c2; have k1 := grow_cell hst.below _ _ d2; have hsz := hst.below.size
                       have k2 : wD.heap.size ≠ bx := (by omega); have k3 : wD.heap.size ≠ bb := (by omega); have k4 : wD.heap.size + 1 ≠ bx := (by omega); have k5 : wD.heap.size + 1 ≠ bb := (by omega))
                    | (go_at_call 21
                       refine (HI.out m Hmn.out s L' R _ _ _ _ _ _ HE2.out Hm2.out (HV.out.below (below_step HB9.out hst.below)) hst.ra.sin hst.rb.sin).mono ?_
                       rintro e w10 ⟨hb10, z1, zm, z3, ok, rfl, hno, hyes⟩
                       have Hf : Hid (UniPost w R (.returned (.tuple #[.slice z1 zm z3, .bool ok])) w10) := (⟨below_step (below_step HB9.out hst.below) hb10, z1, zm, z3, ok, rfl, hno, hyes⟩)
                       clear hno hyes
                       replace hst := below_step hst.below hb10
                       have k0 := grow_cell hst _ _ c2; have k1 := grow_cell hst _ _ d2))
                all_goals
                  go_wp2_with fail
                  go_ret2
                  exact Hf.out
              · have Hf : Hid (∀ w', Below w.heap.size w w' → UniPost w R (.returned (.tuple #[.slice none 0 0, .bool false])) w') := fun w' hb => uni_no hb (hargs0 hc)
                by_cases hn : mn = nn
                · have hl : ¬ Fo.len mk = Fo.len nk := fun e => hc ⟨hn, e⟩
                  have hnb : (mn != nn) = false := by simp [hn]
                  have hlb : ((Fo.len mk : Int) != (Fo.len nk : Int)) = true := by simp; omega
                  clear hc hn hl hargs0 hargs1
                  go_wp2_with fail
                  go_ret2
                  exact Hf.out _ HB9.out
                · have hnb : (mn != nn) = true := by simp [hn]
                  clear hc hn hargs0 hargs1
                  go_wp2_with fail
                  go_ret2
                  exact Hf.out _ HB9.out
        · have Heq : Hid (((mv, mn), mk) = ((nv, nn), nk)) := sameT_eq HgM.out.ok HgN.out.ok hsm
          obtain ⟨m, hmn, hm2⟩ := Eqs.skip HE.out.ui HR.out Hm.out Hn.out Het.out Heu.out Heq.out
          have Hcall := hide (HI.out m hmn s L R lt rt _ _ _ w9 HE'.out hm2 (HV.out.below hB9) HSl9.out HSr9.out)
          clear hsm hm2 hb9 hb9'
          go_wp2_with fail
          refine Hcall.out.mono ?_
          rintro e w10 ⟨hb10, z1, zm, z3, ok, rfl, hno, hyes⟩
          have Hf : Hid (UniPost w R (.returned (.tuple #[.slice z1 zm z3, .bool ok])) w10) := ⟨below_step hB9 hb10, z1, zm, z3, ok, rfl, hno, hyes⟩
          clear hno hyes hb10
          go_wp2_with fail
          go_ret2
          exact Hf.out

set_option maxRecDepth 100000 in
set_option maxHeartbeats 1000000 in
theorem unifyR_any (x : Bool × Int) (k : Fo) (a : Value) (y : Bool × Int) (l : Fo) (c : Value) (w : World) (n : Nat) (R : Option Sb) (hR : runU n [] [((x, k), (y, l))] = some R) (hI : UI [] [((x, k), (y, l))]) (hS : SIn w k a) (hU : SIn w l c) :
    Calls Try.prog 6 #[.agg #[.bool x.1, .int .i64 x.2, a], .agg #[.bool y.1, .int .i64 y.2, c]] w (UniPost w R) := by
  obtain ⟨xv, xn⟩ := x
  obtain ⟨yv, yn⟩ := y
  have HR := hide hR
  have HS := hide hS
  have HU := hide hU
  have HE : Hid (Eqs [] [(((xv, xn), k), ((yv, yn), l))] [((xv, xn), k)] [((yv, yn), l)]) := by
    have h := hI.gL _ (List.mem_singleton.2 rfl)
    refine ⟨hI, rfl, rfl, fun t ht => ?_, fun t ht => ?_⟩
    · rw [List.mem_singleton.1 ht]; exact h.1
    · rw [List.mem_singleton.1 ht]; exact h.2
  obtain ⟨ad, ac, b, o, rfl, -, -, -, -⟩ := hS
  obtain ⟨ud, uc, ub, uo, rfl, -, -, -, -⟩ := hU
  clear hR hI
  go_enter Try.func6, Try.ntmps6
  go_wp2_with fail
  generalize hW2 : (w.alloc (.cells #[.bool xv, .int .i64 xn, .slice ad (Fo.len k) ac] 26)).alloc (.cells #[.bool yv, .int .i64 yn, .slice ud (Fo.len l) uc] 26) = W2
  have hB2 : Below w.heap.size w W2 := by rw [← hW2]; exact (below_alloc _ _).alloc (by simp) _
  have hs2 : W2.heap.size = w.heap.size + 1 + 1 := by rw [← hW2]; simp
  have h1 := one_in (t := ((xv, xn), k)) (HS.out.below hB2)
  have h2 := one_in (t := ((yv, yn), l)) ((HU.out.below hB2).alloc (.cells #[.bool xv, .int .i64 xn, .slice ad (Fo.len k) ac] 26))
  have hB4 : Below w.heap.size w ((W2.alloc (.cells #[.bool xv, .int .i64 xn, .slice ad (Fo.len k) ac] 26)).alloc (.cells #[.bool yv, .int .i64 yn, .slice ud (Fo.len l) uc] 26)) := (hB2.alloc hB2.size _).alloc (hB2.alloc hB2.size _).size _
  rw [World.size_alloc] at h2
  rw [hs2] at h1 h2
  have HB4 := hide hB4
  clear hW2 hB2 hs2 hB4
  refine (solve_any n [] _ R [((xv, xn), k)] [((yv, yn), l)] _ _ _ _ HE.out HR.out (SubIn.nil _) (h1.alloc _) h2).mono ?_
  rintro e w10 ⟨hb10, z1, zm, z3, ok, rfl, hno, hyes⟩
  have Hf : Hid (UniPost w R (.returned (.tuple #[.slice z1 zm z3, .bool ok])) w10) := ⟨below_step HB4.out hb10, z1, zm, z3, ok, rfl, hno, hyes⟩
  clear hno hyes hb10 h1 h2
  go_wp2_with fail
  go_ret2
  exact Hf.out

end Go.Proofs.Ytleogbdinafpaaa

/- A term with greater numbers: the document's Rename. -/
namespace Go.Proofs.Ytleogbdinafpaaa
open Go.RowKit Go.Deep Go.ChangeShapes Go.WideShapes
attribute [local go_sem ↓] Go.wp_at_zero Go.wp_at_succ

def RenRSaid (d : Int) (x : Bool × Int) (k : Fo) : Prop := ∀ (W0 : World) (a : Value) (w : World), Below W0.heap.size W0 w → SIn W0 k a → okT (x, k) → narT (x, k) →
    Calls Try.prog 12 #[.agg #[.bool x.1, .int .i64 x.2, a], .int .i64 d] w fun e w' => ∃ (a1 : Option Addr) (a2 a3 : Nat), e = .returned (.agg #[.bool (subT (ren d) (x, k)).1.1, .int .i64 (subT (ren d) (x, k)).1.2, .slice a1 a2 a3]) ∧
      SB (fun q => q < W0.heap.size ∨ (w.heap.size ≤ q ∧ q < w'.heap.size)) w' (subT (ren d) (x, k)).2 (.slice a1 a2 a3) ∧ Below w.heap.size w w'

set_option maxRecDepth 100000 in
set_option maxHeartbeats 2000000 in
theorem renameR_any (d : Int) (x : Bool × Int) (k : Fo) : RenRSaid d x k := by
  refine Fo.ind1 (p := RenRSaid d) ?_ x k
  clear x k
  intro x k ih W0 a w hW hS hok hnar
  obtain ⟨v, n⟩ := x
  have HI := hide ih
  have HW := hide hW
  have Hok := hide hok
  have Hnar := hide hnar
  have HS := hide hS
  obtain ⟨ad, ac, b, o, rfl, had, hlc, hcm, hF⟩ := hS
  have HF := hide hF
  have hW0 := hW.size
  unfold maxLen at hcm
  clear ih hok hF hW
  cases v
  · have Hres : Hid (subT (ren d) ((false, n), k) = ((false, n), subF (ren d) k)) := rfl
    have HTok : Hid (Fo.ok (subF (ren d) k)) := subF_ok (fun _ => ok_vr _) k
    have Hl := hide (Fo.len_list k)
    have Hl2 := hide (subF_len (ren d) k)
    have hlen : Fo.len k ≤ 1000 := hnar.1
    clear hnar
    go_enter Try.func12, Try.ntmps12
    go_wp2_with fail
    generalize hW2 : (w.alloc (.cells #[.bool false, .int .i64 n, .slice ad (Fo.len k) ac] 26)).alloc (.cells #[.bool false, .int .i64 0, .slice none 0 0] 26) = W2
    have hs2 : W2.heap.size = w.heap.size + 1 + 1 := by rw [← hW2]; simp
    have hB2 : Below w.heap.size w W2 := by rw [← hW2]; exact (below_alloc _ _).alloc (by simp) _
    have r0 : W2.cell? ⟨w.heap.size + 1, 0, none⟩ = some (.bool false) := by rw [← hW2]; exact new_cell (World.size_alloc _ _)
    have r1 : W2.cell? ⟨w.heap.size + 1, 1, none⟩ = some (.int .i64 0) := by rw [← hW2]; exact new_cell (World.size_alloc _ _)
    have r2 : W2.cell? ⟨w.heap.size + 1, 2, none⟩ = some (.slice none 0 0) := by rw [← hW2]; exact new_cell (World.size_alloc _ _)
    have rf : ∀ i, W2.frozen? ⟨w.heap.size + 1, i, none⟩ = false := fun i => by rw [← hW2]; exact new_frozen (World.size_alloc _ _)
    have HQ := hide (And.intro r0 (And.intro r1 (And.intro r2 rf)))
    have HB2 := hide hB2
    have Hs2 := hide hs2
    have H0 : Hid (AppRel (w.heap.size + 1 + 1) W2 (fun q => q < W0.heap.size) (subF (ren d) k) n 0 (W2.alloc (.cells #[.bool false, .int .i64 n, .slice none 0 0] 26))) := app_zero hs2
    clear r0 r1 r2 rf hB2 hs2 hW2
    go_loopw [23] (fun i wr => ∃ j : Nat, j ≤ Fo.len k ∧ i = .int .i64 j ∧ AppRel (w.heap.size + 1 + 1) W2 (fun q => q < W0.heap.size) (subF (ren d) k) n j wr) (fun i _ => Fo.len k - (intOf i).toNat)
    case atStart => exact ⟨0, Nat.zero_le _, rfl, H0.out⟩
    case round =>
      obtain ⟨j, hj, rfl, hR⟩ := hrel
      have HR := hide hR
      obtain ⟨vr', xs, h1, h2, q0, q1, q2, qf, hB⟩ := hR
      have H1 := hide h1
      have H2 := hide h2
      have HB := hide hB
      have Hqf := hide qf
      have hs2 := Hs2.out
      have hBw : Below w.heap.size w wr := HB2.out.trans (hB.mono (by omega))
      have hB0 : Below W0.heap.size W0 wr := HW.out.trans (hBw.mono hW0)
      have hBlt : w.heap.size + 1 + 1 < wr.heap.size := World.block_lt_of_cell? _ _ q0
      obtain ⟨z1, z3, rfl⟩ := slice_of_owns h1
      clear H0 h1 h2 hB
      by_cases hlt : j < Fo.len k
      · have hlt' : (j : Int) < (Fo.len k : Int) := by omega
        have had' : ad = some ⟨b, o, none⟩ := had (by omega)
        subst had'
        obtain ⟨⟨⟨ev, en⟩, ek⟩, hy⟩ : ∃ y, k.list[j]? = some y := ⟨k.list[j]'(by rw [Hl.out]; exact hlt), by simp⟩
        obtain ⟨c0, c1, yv', c2, hSy⟩ := HF.out.at hy
        have c0' := grow_cell hB0 _ _ c0
        have c1' := grow_cell hB0 _ _ c1
        have c2' := grow_cell hB0 _ _ c2
        have HSy := hide hSy
        obtain ⟨ya, yc, yb, yo, rfl, -, -, -, -⟩ := hSy
        have Hy := hide hy
        have Hy2 : Hid ((subF (ren d) k).list[j]? = some (subT (ren d) ((ev, en), ek))) := by rw [Hid, subF_list, List.getElem?_map, hy]; rfl
        obtain ⟨⟨⟨xv, xn⟩, xk⟩, hz⟩ : ∃ z, z = subT (ren d) ((ev, en), ek) := ⟨_, rfl⟩
        have Hz := hide hz
        have Hoke : Hid (okT ((ev, en), ek)) := ok_mem Hok.out.2 (List.mem_of_getElem? hy)
        have Hnare : Hid (narT ((ev, en), ek)) := nar_mem Hnar.out.2 (List.mem_of_getElem? hy)
        clear hy had c0 c1 c2 hz
        obtain ⟨i26, hi26, hz0, hz1, hz2⟩ := info_parts Try.info26
        have hn1 : j + 1 ≤ maxLen := by unfold maxLen; omega
        have hn2 : (j + 1) * 40 ≤ 140737488355328 := by omega
        go_upto_region 7 with fail
        generalize hwa : wr.alloc (.cells #[.bool ev, .int .i64 en, .slice ya (Fo.len ek) yc] 26) = wa
        have e0 : wa.cell? ⟨wr.heap.size, 0, none⟩ = some (.bool ev) := by rw [← hwa]; exact new_cell rfl
        have e1 : wa.cell? ⟨wr.heap.size, 1, none⟩ = some (.int .i64 en) := by rw [← hwa]; exact new_cell rfl
        have e2 : wa.cell? ⟨wr.heap.size, 2, none⟩ = some (.slice ya (Fo.len ek) yc) := by rw [← hwa]; exact new_cell rfl
        have hba : Below wr.heap.size wr wa := by rw [← hwa]; exact below_alloc _ _
        have f2 := grow_cell hba _ _ q2
        have ff : ∀ i, wa.frozen? ⟨w.heap.size + 1 + 1, i, none⟩ = false := fun i => (hba.frozen hBlt).trans (Hqf.out i)
        have hBa : w.heap.size + 1 + 1 < wa.heap.size := Nat.lt_of_lt_of_le hBlt hba.size
        have Hno : Hid (some (w.heap.size + 1 + 1) ≠ (Value.slice z1 j z3).ownBlock) := fun e => by have := (owns_at H1.out _ e.symm).1; omega
        have hcall : Calls Try.prog 12 #[.agg #[.bool ev, .int .i64 en, .slice ya (Fo.len ek) yc], .int .i64 d] wa.drew fun e w' => ∃ (a1 : Option Addr) (a2 a3 : Nat), e = .returned (.agg #[.bool xv, .int .i64 xn, .slice a1 a2 a3]) ∧ SB (fun q => q < W0.heap.size ∨ (wa.heap.size ≤ q ∧ q < w'.heap.size)) w' xk (.slice a1 a2 a3) ∧ Below wa.heap.size wa w' := by
          refine (HI.out ((ev, en), ek) (List.mem_of_getElem? Hy.out) W0 _ wa.drew ?_ HSy.out Hoke.out Hnare.out).mono ?_
          · exact (hB0.trans (hba.mono hB0.size)).trans (Below.refl _ _).drew
          · rintro e w' ⟨a1, a2, a3, rfl, hk, hb⟩
            rw [← Hz.out] at hk ⊢
            exact ⟨a1, a2, a3, rfl, hk, (Below.refl _ _).drew.trans hb⟩
        have Hcall := hide hcall
        have Hba := hide hba
        clear hcall hwa c0' c1' c2' hba q2 qf
        go_region_law (first
          | (refine step_append_lies _ (by rfl) _ _ _ (by rfl) (w.heap.size + 1 + 1 + 1) 26 i26 (.agg #[.bool false, .int .i64 0, .slice none 0 0]) 3 40 Try.underlying24 hi26 hz0 hz1 hz2 rfl (by decide) (.slice z1 j z3) j xs (by rfl) Hown3.out ⟨w3.heap.size, 0, none⟩ 1 1 [.bool xv, .int .i64 xn, .slice a1 a2 a3] (by rfl) (by rfl) Hnews.out (by simp [Value.oneCell']) (by decide) hn1 hn2 (by simp; omega) (w3.heap.size + 1) (by simp) ?_; intro g cap w4 ho4 hg4 hat4 hlt4; have x2 := out_cell hg4 hB3 Hno.out g3; have xf := out_frozen hg4 hB3 Hno.out gf3)
          | (go_simp; go_at_call 12; refine Hcall.out.mono ?_; rintro e w3 ⟨a1, a2, a3, rfl, hk3, hb3⟩
             have hs3 := hb3.size; have g3 := grow_cell hb3 _ _ f2; have gf3 : ∀ i, w3.frozen? ⟨w.heap.size + 1 + 1, i, none⟩ = false := (fun i => (hb3.frozen hBa).trans (ff i)); have hB3 : w.heap.size + 1 + 1 < w3.heap.size := Nat.lt_of_lt_of_le hBa hs3
             have Hown3 : Hid ((w3.alloc (.cells #[.bool xv, .int .i64 xn, .slice a1 a2 a3] 26)).ownsRow (w.heap.size + 1 + 1 + 1) 26 3 (.slice z1 j z3) j xs) := (owns_keep H1.out (fun g hg => by have h := owns_at H1.out g hg; have hsz := Hba.out.size; rw [Below.heap_alloc _ _ _ (by omega), hb3.block g (by omega), Hba.out.block g h.2]))
             have Hnews : Hid (∀ j u, [Value.bool xv, .int .i64 xn, .slice a1 a2 a3][j]? = some u → (w3.alloc (.cells #[.bool xv, .int .i64 xn, .slice a1 a2 a3] 26)).cell? ((⟨w3.heap.size, 0, none⟩ : Addr).add j) = some u) := (World.news_of_block (cs := #[.bool xv, .int .i64 xn, .slice a1 a2 a3]) (heap_alloc_new w3 _))))
        all_goals
          have Hst := hide (app_next (B := w.heap.size + 1 + 1) (W2 := W2) (X := fun q => q < W0.heap.size) (T := subF (ren d) k) (xn := n) (z := (xv, xn)) (r := xk) (a := .slice a1 a2 a3) HTok.out H1.out H2.out (fun q hq => by omega) q0 q1 (by have hc := HR.out; obtain ⟨_, _, _, _, _, _, q2, _, _⟩ := hc; exact (Hba.out.cell (p := ⟨w.heap.size + 1 + 1, 2, none⟩) hBlt).symm.trans f2) Hqf.out HB.out (below_step Hba.out hb3) (hk3.wide (fun q hq => by rcases hq with h | h; exact .inl h; exact .inr ⟨by have := Hba.out.size; omega, h.2⟩)) (by rw [Hy2.out, ← Hz.out]) rfl ho4 hg4 hat4 hlt4)
          clear hk3 hb3 ho4 hg4 hat4 hlt4 x2 xf g3 gf3 Hown3 Hnews hi26 hz0 hz1 hz2
          go_wp2_with fail
          go_roundw
          case rel => exact ⟨j + 1, by omega, by go_num, Hst.out⟩
          case measure => simp [intOf]; omega
      · have hje : j = Fo.len k := by omega
        have hRe : AppRel (w.heap.size + 1 + 1) W2 (fun q => q < W0.heap.size) (subF (ren d) k) n (Fo.len (subF (ren d) k)) wr := by rw [Hl2.out, ← hje]; exact HR.out
        obtain ⟨y1, y3, hc2, hSB⟩ := app_end hRe
        have HSB := hide hSB
        obtain ⟨p0, p1, p2, pf⟩ := HQ.out
        have s0 : wr.cell? ⟨w.heap.size + 1, 0, none⟩ = some (.bool false) := (HB.out.cell (by show w.heap.size + 1 < _; omega)).trans p0
        have s1 : wr.cell? ⟨w.heap.size + 1, 1, none⟩ = some (.int .i64 0) := (HB.out.cell (by show w.heap.size + 1 < _; omega)).trans p1
        have s2 : wr.cell? ⟨w.heap.size + 1, 2, none⟩ = some (.slice none 0 0) := (HB.out.cell (by show w.heap.size + 1 < _; omega)).trans p2
        have sf : ∀ i, wr.frozen? ⟨w.heap.size + 1, i, none⟩ = false := fun i => (HB.out.frozen (by show w.heap.size + 1 < _; omega)).trans (pf i)
        clear q2 hSB p0 p1 p2 pf hRe
        go_wp2_with fail
        refine bodyPost_ret (v := .agg #[.bool false, .int .i64 n, .slice y1 (Fo.len (subF (ren d) k)) y3]) (by simp [results, Try.results12, go_sem, s0, s1, s2]) rfl ⟨y1, Fo.len (subF (ren d) k), y3, by rw [Hres.out], ?_, set3_below (o := 0) hBw (by omega)⟩
        rw [Hres.out]
        refine (HSB.out.set3 (b := w.heap.size + 1) (o := 0) ?_).wide (fun q hq => ?_)
        · intro h
          rcases h with h | h <;> omega
        · rcases hq with h | h
          · exact .inl h
          · exact .inr ⟨by omega, by rw [World.size_setCell, World.size_setCell, World.size_setCell]; exact h.2⟩
  · have Hres : Hid (subT (ren d) ((true, n), k) = vr (wrap64 (n + d))) := rfl
    have hk0 : k = .nil := Hok.out.1 rfl
    subst hk0
    clear had
    go_enter Try.func12, Try.ntmps12
    go_wp2_with fail
    refine bodyPost_ret (v := .agg #[.bool true, .int .i64 (wrap64 (n + d)), .slice ad (Fo.len .nil) ac]) (by simp [results, Try.results12, go_sem, wrap64]) rfl ⟨ad, Fo.len .nil, ac, by rw [Hres.out]; rfl, ?_, (below_alloc _ _).alloc (by simp) _⟩
    rw [Hres.out]
    exact ⟨ad, ac, b, o, rfl, fun h => by simp [vr, Fo.len] at h, Nat.zero_le _, by unfold maxLen; exact hcm, trivial⟩

end Go.Proofs.Ytleogbdinafpaaa

/- Apply, Rename, Unify, More and Match tell what the document tells: the law's own walk. -/
namespace Go.Proofs.Ytleogbdinafpaaa
open Go.RowKit Go.Deep Go.ChangeShapes Go.WideShapes
attribute [local go_sem ↓] Go.wp_at_zero Go.wp_at_succ

/-- What Unify answers, the one way and the other. -/
def AnsOf (w : World) (E : Option Sb) (S : Sb) (ok : Bool) (e : Ending) (w' : World) : Prop := Below w.heap.size w w' ∧ ∃ (z1 : Option Addr) (z3 : Nat), e = .returned (.tuple #[.slice z1 S.length z3, .bool ok]) ∧ SubIn w' S (.slice z1 S.length z3) ∧ ok = E.isSome
theorem uni_ans {w w' : World} {R : Option Sb} {e : Ending} (h : UniPost w R e w') : AnsOf w R (R.getD []) R.isSome e w' := by
  obtain ⟨hb, z1, m, z3, ok, rfl, hno, hyes⟩ := h
  cases ok
  · obtain ⟨rfl, rfl, rfl, rfl⟩ := hno rfl
    exact ⟨hb, none, 0, rfl, SubIn.nil _, rfl⟩
  · obtain ⟨s', rfl, rfl, hS⟩ := hyes rfl
    exact ⟨hb, z1, z3, rfl, hS, rfl⟩
theorem more_ans {w w' : World} {s : Sb} {t u : Tm} {e : Ending} (h : MorePost w s t u e w') : AnsOf w (extT s t u) ((extT s t u).getD []) (extT s t u).isSome e w' := by
  obtain ⟨hb, z1, m, z3, ok, rfl, hno, hyes⟩ := h
  cases ok
  · obtain ⟨h1, rfl, rfl, rfl⟩ := hno rfl
    rw [h1]
    exact ⟨hb, none, 0, rfl, SubIn.nil _, rfl⟩
  · obtain ⟨s', h1, rfl, hS⟩ := hyes rfl
    rw [h1]
    exact ⟨hb, z1, z3, rfl, hS, rfl⟩
theorem moreR_ans {w w' : World} {t u : Tm} {e : Ending} (h : MoreRPost w [] t u e w') : AnsOf w (extT [] t u) ((extT [] t u).getD []) (extT [] t u).isSome e w' := by
  obtain ⟨hb, z1, z3, s', ok, rfl, hS, hx, hno⟩ := h
  cases ok
  · have e0 : s' = [] := by rcases hno rfl with h | h <;> exact h
    subst e0
    rw [hx]
    exact ⟨hb, z1, z3, rfl, hS, rfl⟩
  · rw [hx]
    exact ⟨hb, z1, z3, rfl, hS, rfl⟩
theorem rename_call {wn : World} {d : Int} {x z : Bool × Int} {k zk : Fo} {a : Value} (hS : SIn wn k a) (hnar : narT (x, k)) (hz : (z, zk) = subT (ren d) (x, k)) (w' : World) (hb : Below wn.heap.size wn w') :
    Calls Try.prog 11 #[.agg #[.bool x.1, .int .i64 x.2, a], .int .i64 d] w' fun e w'' => ∃ (x1 : Option Addr) (x2 x3 : Nat), e = .returned (.agg #[.bool z.1, .int .i64 z.2, .slice x1 x2 x3]) ∧ SIn w'' zk (.slice x1 x2 x3) ∧ Below w'.heap.size w' w'' := by
  refine (rename_any d x k a w' (hS.below hb) hnar).mono ?_
  rintro e w'' ⟨a', rfl, hO, hb2⟩
  rw [← hz] at hO ⊢
  obtain ⟨z1, z2, z3, rfl⟩ := slice_of_sin hO.toS
  exact ⟨z1, z2, z3, rfl, hO.toS, hb2⟩
theorem renameR_call {wn : World} {d : Int} {x z : Bool × Int} {k zk : Fo} {a : Value} (hS : SIn wn k a) (hok : okT (x, k)) (hnar : narT (x, k)) (hz : (z, zk) = subT (ren d) (x, k)) (w' : World) (hb : Below wn.heap.size wn w') :
    Calls Try.prog 12 #[.agg #[.bool x.1, .int .i64 x.2, a], .int .i64 d] w' fun e w'' => ∃ (x1 : Option Addr) (x2 x3 : Nat), e = .returned (.agg #[.bool z.1, .int .i64 z.2, .slice x1 x2 x3]) ∧ SIn w'' zk (.slice x1 x2 x3) ∧ Below w'.heap.size w' w'' := by
  refine (renameR_any d x k wn a w' hb hS hok hnar).mono ?_
  rintro e w'' ⟨x1, x2, x3, rfl, hSB, hb2⟩
  rw [← hz] at hSB ⊢
  exact ⟨x1, x2, x3, rfl, hSB.toS, hb2⟩
theorem applyR_call2 {wn : World} {s : Sb} {vs : Value} {x z : Bool × Int} {k zk : Fo} {a : Value} (hV : SubIn wn s vs) (hs : ∀ p ∈ s, Gd p.2) (hS : SIn wn k a) (hok : okT (x, k)) (hnar : narT (x, k)) (hz : (z, zk) = subT (bnd s) (x, k)) (w' : World) (hb : Below wn.heap.size wn w') :
    Calls Try.prog 10 #[vs, .agg #[.bool x.1, .int .i64 x.2, a]] w' fun e w'' => ∃ (x1 : Option Addr) (x2 x3 : Nat), e = .returned (.agg #[.bool z.1, .int .i64 z.2, .slice x1 x2 x3]) ∧ SIn w'' zk (.slice x1 x2 x3) ∧ Below w'.heap.size w' w'' := by
  refine (applyR_any x k s vs wn a w' hb hV (fun p hp => (hs p hp).ok) hS hok hnar).mono ?_
  rintro e w'' ⟨x1, x2, x3, rfl, hSB, hb2⟩
  rw [← hz] at hSB ⊢
  exact ⟨x1, x2, x3, rfl, hSB.toS, hb2⟩

theorem same_call {w : World} (z : Bool × Int) (zk : Fo) (a c : Value) (hA : SIn w zk a) (hC : SIn w zk c) :
    Calls Try.prog 8 #[.agg #[.bool z.1, .int .i64 z.2, a], .agg #[.bool z.1, .int .i64 z.2, c]] w fun e w' => e = .returned (.bool true) ∧ Below w.heap.size w w' := by
  refine (sameR_any z zk z zk a c w hA hC).mono ?_
  rw [sameT_refl]
  exact fun e w' h => h

set_option maxRecDepth 100000 in
set_option maxHeartbeats 4000000 in
theorem bindTells_any (s : List Int) (sv : Value) (x : Bool × Int) (k : Fo) (a : Value) (y : Bool × Int) (l : Fo) (c : Value) (d : Int) (w : World) (hN : NIn w s sv) (hS : SIn w k a) (hU : SIn w l c) (hk : Fo.norm k = k) (hl : Fo.norm l = l) :
    Calls Try.prog 3 #[sv, .agg #[.bool x.1, .int .i64 x.2, a], .agg #[.bool y.1, .int .i64 y.2, c], .int .i64 d] w (LawPost w) := by
  obtain ⟨xv, xn⟩ := x
  obtain ⟨yv, yn⟩ := y
  have HN := hide hN
  have HS := hide hS
  have HU := hide hU
  have Hk := hide hk
  have Hl := hide hl
  obtain ⟨sa, sc, sb, so, rfl, -, -, -, -⟩ := hN
  obtain ⟨ad, ac, b, o, rfl, -, -, -, -⟩ := hS
  obtain ⟨ud, uc, ub, uo, rfl, -, -, -, -⟩ := hU
  clear hk hl
  go_enter Try.func3, Try.ntmps3
  go_wp2_with fail
  generalize hW2 : (w.alloc (.cells #[.bool xv, .int .i64 xn, .slice ad (Fo.len k) ac] 26)).alloc (.cells #[.bool yv, .int .i64 yn, .slice ud (Fo.len l) uc] 26) = w3
  have hB3 : Below w.heap.size w w3 := by rw [← hW2]; exact (below_alloc _ _).alloc (by simp) _
  have hs2 : w3.heap.size = w.heap.size + 1 + 1 := by rw [← hW2]; simp
  have p0 : w3.cell? ⟨w.heap.size, 0, none⟩ = some (.bool xv) := by rw [← hW2, World.cell?_alloc_lt _ _ _ (by simp)]; exact new_cell rfl
  have p1 : w3.cell? ⟨w.heap.size, 1, none⟩ = some (.int .i64 xn) := by rw [← hW2, World.cell?_alloc_lt _ _ _ (by simp)]; exact new_cell rfl
  have p2 : w3.cell? ⟨w.heap.size, 2, none⟩ = some (.slice ad (Fo.len k) ac) := by rw [← hW2, World.cell?_alloc_lt _ _ _ (by simp)]; exact new_cell rfl
  have r0 : w3.cell? ⟨w.heap.size + 1, 0, none⟩ = some (.bool yv) := by rw [← hW2]; exact new_cell (World.size_alloc _ _)
  have r1 : w3.cell? ⟨w.heap.size + 1, 1, none⟩ = some (.int .i64 yn) := by rw [← hW2]; exact new_cell (World.size_alloc _ _)
  have r2 : w3.cell? ⟨w.heap.size + 1, 2, none⟩ = some (.slice ud (Fo.len l) uc) := by rw [← hW2]; exact new_cell (World.size_alloc _ _)
  clear hW2
  have hrow := two_in (t := ((xv, xn), k)) (u := ((yv, yn), l)) (HS.out.below hB3) (HU.out.below hB3)
  rw [hs2] at hrow
  refine (right_any s _ (two ((xv, xn), k) ((yv, yn), l)) _ _ ((HN.out.below hB3).alloc _) hrow).mono ?_
  rintro e w4 ⟨rfl, hb4⟩
  have hB34 := below_box hb4
  have hB4 := below_step hB3 hB34
  cases hr : rightB s (two ((xv, xn), k) ((yv, yn), l))
  · clear hr hb4 hrow
    go_wp2_with fail
    go_ret
    exact ⟨rfl, hB4⟩
  · obtain ⟨hsn, hw1, hw2⟩ := right_two hr
    have Hg1 := hide (gd_right hsn Hk.out hw1)
    have Hg2 := hide (gd_right hsn Hl.out hw2)
    have q0 := grow_cell hB34 _ _ p0
    have q1 := grow_cell hB34 _ _ p1
    have q2 := grow_cell hB34 _ _ p2
    have t0 := grow_cell hB34 _ _ r0
    have t1 := grow_cell hB34 _ _ r1
    have t2 := grow_cell hB34 _ _ r2
    have HB4 := hide hB4
    clear hr hb4 hB34 p0 p1 p2 r0 r1 r2 hsn hw1 hw2 hB3 hrow hB4
    by_cases hd0 : d < 0
    · go_wp2_with fail
      go_ret
      exact ⟨rfl, HB4.out⟩
    by_cases hd1 : 1000 < d
    · go_wp2_with fail
      go_ret
      exact ⟨rfl, HB4.out⟩
    have HUI := hide (ui_of Hg1.out.1 Hg2.out.1 Hg1.out.2.1 Hg2.out.2.1)
    obtain ⟨n, R, hR⟩ := runU_end _ _ _ _ rfl rfl HUI.out
    have HR := hide hR
    have Hgs : Hid (∀ p ∈ R.getD [], Gd p.2) := by
      cases hRe : R with
      | none => intro p hp; simp at hp
      | some s1 => rw [hRe] at hR; exact (unify_ok HUI.out hR).1
    obtain ⟨S1, hS1⟩ : ∃ S1, S1 = R.getD [] := ⟨_, rfl⟩
    obtain ⟨ok, hok⟩ : ∃ ok, ok = R.isSome := ⟨_, rfl⟩
    rw [← hS1] at Hgs
    have HcU := hide (fun w' (hb : Below w4.heap.size w4 w') => (unify_any (xv, xn) k _ (yv, yn) l _ w' n R HR.out HUI.out (HS.out.below (below_step HB4.out hb)) (HU.out.below (below_step HB4.out hb))).mono (fun e w'' h => by have := uni_ans h; rw [← hS1, ← hok] at this; exact this))
    have HcR := hide (fun w' (hb : Below w4.heap.size w4 w') => (unifyR_any (xv, xn) k _ (yv, yn) l _ w' n R HR.out HUI.out (HS.out.below (below_step HB4.out hb)) (HU.out.below (below_step HB4.out hb))).mono (fun e w'' h => by have := uni_ans h; rw [← hS1, ← hok] at this; exact this))
    clear hR hS1 hok
    go_wp2_with fail
    refine (HcU.out w4 (Below.refl _ _)).mono ?_
    rintro e w7 ⟨hb7, z1, z3, rfl, hV1, -⟩
    have HV1 := hide hV1
    have a0 := grow_cell hb7 _ _ q0
    have a1 := grow_cell hb7 _ _ q1
    have a2 := grow_cell hb7 _ _ q2
    have a3 := grow_cell hb7 _ _ t0
    have a4 := grow_cell hb7 _ _ t1
    have a5 := grow_cell hb7 _ _ t2
    clear q0 q1 q2 t0 t1 t2 hV1 HcU
    go_wp2_with fail
    refine (HcR.out w7 hb7).mono ?_
    rintro e w8 ⟨hb8, u1, u3, rfl, hV2, -⟩
    have hB8 := below_step (below_step HB4.out hb7) hb8
    have HB8 := hide hB8
    have HV2 := hide hV2
    have HV18 := hide (HV1.out.below hb8)
    have n0 := grow_cell hb8 _ _ a0
    have n1 := grow_cell hb8 _ _ a1
    have n2 := grow_cell hb8 _ _ a2
    have n3 := grow_cell hb8 _ _ a3
    have n4 := grow_cell hb8 _ _ a4
    have n5 := grow_cell hb8 _ _ a5
    obtain ⟨⟨⟨cv, cn⟩, ck⟩, hc⟩ : ∃ z, z = subT (bnd S1) ((xv, xn), k) := ⟨_, rfl⟩
    obtain ⟨⟨⟨rv, rn⟩, rk⟩, hrn⟩ : ∃ z, z = subT (ren d) ((xv, xn), k) := ⟨_, rfl⟩
    have HcA := hide (fun w' hb => apply_call HV2.out Hgs.out (HS.out.below hB8) Hg1.out.1.nar hc w' hb)
    have HcB := hide (fun w' hb => applyR_call2 HV2.out Hgs.out (HS.out.below hB8) Hg1.out.1.ok Hg1.out.1.nar hc w' hb)
    have HcN := hide (fun w' hb => rename_call (HS.out.below hB8) Hg1.out.1.nar hrn w' hb)
    have HcO := hide (fun w' hb => renameR_call (HS.out.below hB8) Hg1.out.1.ok Hg1.out.1.nar hrn w' hb)
    have hcur : Below w8.heap.size w8 w8.drew := (Below.refl _ _).drew
    have hokb : (ok != ok) = false := by simp
    clear a0 a1 a2 a3 a4 a5 hV2 HcR hb7 hb8 HV1 hB8 hc hrn
    go_upto_region 5 with fail
    go_cut [68] (fun s68 wx => s68 = .bool false ∧ Below w8.heap.size w8 wx)
    case first =>
      go_region_held3 (fun w' => w'.cell? ⟨w.heap.size, 0, none⟩ = some (.bool xv) ∧ w'.cell? ⟨w.heap.size, 1, none⟩ = some (.int .i64 xn) ∧ w'.cell? ⟨w.heap.size, 2, none⟩ = some (.slice ad (Fo.len k) ac))
        (first
          | (with_reducible exact ⟨grow_cell hcur _ _ n0, grow_cell hcur _ _ n1, grow_cell hcur _ _ n2⟩)
          | go_keep)
        (first
          | (go_at_call 7; with_reducible refine (sameSub_any S1 _ _ _ (HV18.out.below hcur) (HV2.out.below hcur)).mono ?_; rintro e wS ⟨rfl, hbS⟩; replace hcur := below_step hcur hbS)
          | (go_at_call 9; with_reducible refine (HcA.out _ hcur).mono ?_; rintro e wA ⟨x1, x2, x3, rfl, hSx, hbA⟩; replace hcur := below_step hcur hbA)
          | (go_at_call 10; with_reducible refine (HcB.out _ hcur).mono ?_; rintro e wB ⟨y1, y2, y3, rfl, hSy, hbB⟩; replace hcur := below_step hcur hbB)
          | (go_at_call 11; with_reducible refine (HcN.out _ hcur).mono ?_; rintro e wD ⟨v1, v2, v3, rfl, hSv, hbD⟩; replace hcur := below_step hcur hbD)
          | (go_at_call 12; with_reducible refine (HcO.out _ hcur).mono ?_; rintro e wE ⟨o1, o2, o3, rfl, hSo, hbE⟩; replace hcur := below_step hcur hbE)
          | (go_at_call 8; with_reducible refine (same_call (rv, rn) rk _ _ (hSv.below hbE) hSo).mono ?_; rintro e wF ⟨rfl, hbF⟩; replace hcur := below_step hcur hbF)
          | (go_at_call 8; with_reducible refine (same_call (cv, cn) ck _ _ (hSx.below hbB) hSy).mono ?_; rintro e wC ⟨rfl, hbC⟩; replace hcur := below_step hcur hbC))
      all_goals
        go_wp2_with fail
        go_meet
        case rel => exact ⟨rfl, hcur⟩
    case rest =>
      obtain ⟨rfl, hb9⟩ := hcut
      generalize wc = w9 at *
      have hB9 := below_step HB8.out hb9
      replace n0 := grow_cell hb9 _ _ n0
      replace n1 := grow_cell hb9 _ _ n1
      replace n2 := grow_cell hb9 _ _ n2
      replace n3 := grow_cell hb9 _ _ n3
      replace n4 := grow_cell hb9 _ _ n4
      replace n5 := grow_cell hb9 _ _ n5
      have Hs2 : Hid ((∀ p ∈ (extT [] ((xv, xn), k) ((yv, yn), l)).getD [], narT p.2 ∧ okT p.2) ∧ ((extT [] ((xv, xn), k) ((yv, yn), l)).getD []).length ≤ 12 ∧ ((extT [] ((xv, xn), k) ((yv, yn), l)).isSome = false → (extT [] ((xv, xn), k) ((yv, yn), l)).getD [] = [])) := by
        cases hE : extT [] ((xv, xn), k) ((yv, yn), l) with
        | none => exact ⟨fun p hp => by simp at hp, Nat.zero_le _, fun _ => rfl⟩
        | some s1 =>
          have h1 := extT_len hE
          have h2 := Hg1.out.2.2
          refine ⟨(match_ok Hg2.out.1.ok Hg2.out.1.nar hE).1, ?_, fun e => by (cases e)⟩
          simp only [List.length_nil] at h1
          show s1.length ≤ 12
          omega
      have HcM := hide ((match_any (xv, xn) k _ (yv, yn) l _ w9 (HS.out.below hB9) (HU.out.below hB9) Hg2.out.1.ok Hg2.out.1.nar (by have := Hg1.out.2.2; omega)).mono (fun e w'' h => more_ans h))
      have HcD := hide (fun w' (hb : Below w9.heap.size w9 w') => (moreR_any (xv, xn) k [] (.slice none 0 0) (yv, yn) l _ _ w' (SubIn.nil _) (HS.out.below (below_step hB9 hb)) (HU.out.below (below_step hB9 hb)) (by have := Hg1.out.2.2; simp only [List.length_nil]; omega)).mono (fun e w'' h => moreR_ans h))
      generalize (extT [] ((xv, xn), k) ((yv, yn), l)).getD [] = S2 at HcM HcD Hs2
      generalize (extT [] ((xv, xn), k) ((yv, yn), l)).isSome = is at HcM HcD Hs2
      have HB9 := hide hB9
      clear hcur HcA HcB HcN HcO hB9 hb9 hokb HV2 HV18
      go_wp2_with fail
      refine HcM.out.mono ?_
      rintro e w10 ⟨hb10, z1', z3', rfl, hV3, -⟩
      have HV3 := hide hV3
      replace n0 := grow_cell hb10 _ _ n0
      replace n1 := grow_cell hb10 _ _ n1
      replace n2 := grow_cell hb10 _ _ n2
      replace n3 := grow_cell hb10 _ _ n3
      replace n4 := grow_cell hb10 _ _ n4
      replace n5 := grow_cell hb10 _ _ n5
      clear hV3 HcM
      go_wp2_with fail
      refine (HcD.out w10 hb10).mono ?_
      rintro e w11 ⟨hb11, u1', u3', rfl, hV4, -⟩
      have HV4 := hide hV4
      have HV311 := hide (HV3.out.below hb11)
      have HB11 := hide (below_step (below_step HB9.out hb10) hb11)
      replace n0 := grow_cell hb11 _ _ n0
      replace n1 := grow_cell hb11 _ _ n1
      replace n2 := grow_cell hb11 _ _ n2
      replace n3 := grow_cell hb11 _ _ n3
      replace n4 := grow_cell hb11 _ _ n4
      replace n5 := grow_cell hb11 _ _ n5
      have hisb : (is != is) = false := by simp
      clear hV4 HcD hb10 hb11 HV3 HB9
      go_upto_region 9 with fail
      go_cut [101] (fun s101 wx => s101 = .bool false ∧ Below w11.heap.size w11 wx)
      case first =>
        cases is
        · have h0 := Hs2.out.2.2 rfl
          subst h0
          go_wp2_with fail
          go_meet
          case rel => exact ⟨rfl, Below.refl _ _⟩
        · go_wp2_with fail
          refine (sameSub_any S2 _ _ _ HV311.out HV4.out).mono ?_
          rintro e w12 ⟨rfl, hb12⟩
          go_wp2_with fail
          go_meet
          case rel => exact ⟨rfl, hb12⟩
      case rest =>
        obtain ⟨rfl, hb12⟩ := hcut
        generalize wc = w12 at *
        have HB12 := hide (below_step HB11.out hb12)
        have HV412 := hide (HV4.out.below hb12)
        replace n0 := grow_cell hb12 _ _ n0
        replace n1 := grow_cell hb12 _ _ n1
        replace n2 := grow_cell hb12 _ _ n2
        replace n3 := grow_cell hb12 _ _ n3
        replace n4 := grow_cell hb12 _ _ n4
        replace n5 := grow_cell hb12 _ _ n5
        have Hlen : Hid ((S2.length + tszR l) * 48 ≤ 140737488355328) := by
          have h1 := Hs2.out.2.1
          have h2 := Hg2.out.2.2
          unfold Hid
          omega
        clear hb12 HV311 hisb HB11
        go_wp2_with fail
        refine (more_any S2 _ (yv, yn) l _ (xv, xn) k _ w12 HV412.out Hs2.out.1 (HU.out.below HB12.out) (HS.out.below HB12.out) Hg1.out.1.ok Hg1.out.1.nar Hlen.out).mono ?_
        rintro e w13 ⟨hb13, m1, mm, m3, ok4, rfl, hno, hyes⟩
        have HB13 := hide (below_step HB12.out hb13)
        have HV413 := hide (HV412.out.below hb13)
        have Hno := hide hno
        have Hyes := hide hyes
        replace n0 := grow_cell hb13 _ _ n0
        replace n1 := grow_cell hb13 _ _ n1
        replace n2 := grow_cell hb13 _ _ n2
        replace n3 := grow_cell hb13 _ _ n3
        replace n4 := grow_cell hb13 _ _ n4
        replace n5 := grow_cell hb13 _ _ n5
        clear hno hyes HB12 hb13
        go_wp2_with fail
        refine (moreR_any (yv, yn) l S2 _ (xv, xn) k _ _ w13 HV413.out (HU.out.below HB13.out) (HS.out.below HB13.out) Hlen.out).mono ?_
        rintro e w14 ⟨hb14, v1, v3, s3, ok5, rfl, hS3, hx5, -⟩
        have HB14 := hide (below_step HB13.out hb14)
        have HS3 := hide hS3
        have Hx5 := hide hx5
        have Hb14 := hide hb14
        clear hS3 hx5 hb14 n0 n1 n2 n3 n4 n5
        cases ok4
        · have h5 : ok5 = false := by
            have h1 := (Hno.out rfl).1
            have h2 := Hx5.out
            rw [h1] at h2
            cases ok5
            · rfl
            · simp at h2
          subst h5
          go_wp2_with fail
          go_ret
          exact ⟨rfl, HB14.out⟩
        · obtain ⟨s', h1, h2, h3⟩ := Hyes.out rfl
          have h4 := Hx5.out
          rw [h1] at h4
          cases ok5
          · simp at h4
          · simp only [if_true, Option.some.injEq] at h4
            subst h2 h4
            have HV5 := hide (h3.below Hb14.out)
            clear h1 h3
            go_wp2_with fail
            refine (sameSub_any s' _ _ _ HV5.out HS3.out).mono ?_
            rintro e w15 ⟨rfl, hb15⟩
            have Hend := hide (below_step HB14.out hb15)
            go_wp2_with fail
            go_ret
            exact ⟨rfl, Hend.out⟩

end Go.Proofs.Ytleogbdinafpaaa
