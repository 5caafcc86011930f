/- RSolQ CIn CS P8e L8B CT -/
import Derived.Test.YtiilckjnggeeoadG12
import Derived.Laws.StructEq
import Derived.Laws.Small
import Derived.Lib.Split
import Derived.Lib.Join
namespace Go.Proofs.Ytiilckjnggeeoad
open Go.RowKit Go.Deep Go.ChangeShapes Go.WideShapes
structure Eqs (s : Sb) (L : List (Tm × Tm)) (ls rs : List Tm) : Prop where
  ui : UI s L
  el : ls.map (subT (bnd s)) = L.map fun p => subT (bnd s) p.1
  er : rs.map (subT (bnd s)) = L.map fun p => subT (bnd s) p.2
  gl : ∀ t ∈ ls, Gd t
  gr : ∀ t ∈ rs, Gd t
theorem Eqs.nil {s : Sb} {ls rs : List Tm} (h : Eqs s [] ls rs) : ls = [] ∧ rs = [] := ⟨by simpa using h.el, by simpa using h.er⟩
theorem Eqs.len {s : Sb} {L : List (Tm × Tm)} {ls rs : List Tm} (h : Eqs s L ls rs) : ls.length = L.length ∧ rs.length = L.length :=
  ⟨by simpa using congrArg List.length h.el, by simpa using congrArg List.length h.er⟩
theorem Eqs.cons {s : Sb} {p : Tm × Tm} {L : List (Tm × Tm)} {ls rs : List Tm} (h : Eqs s (p :: L) ls rs) :
    ∃ t lt u rt, ls = t :: lt ∧ rs = u :: rt ∧ Eqs s L lt rt ∧ subT (bnd s) t = subT (bnd s) p.1 ∧ subT (bnd s) u = subT (bnd s) p.2 ∧ Gd t ∧ Gd u := by
  obtain ⟨h0, h1, h2, h3, h4⟩ := h
  cases ls with
  | nil => simp at h1
  | cons t lt =>
    cases rs with
    | nil => simp at h2
    | cons u rt =>
      simp only [List.map_cons, List.cons.injEq] at h1 h2
      exact ⟨t, lt, u, rt, rfl, rfl, ⟨ui_tail h0, h1.2, h2.2, fun z hz => h3 z (by simp [hz]), fun z hz => h4 z (by simp [hz])⟩, h1.1, h2.1, h3 t (by simp), h4 u (by simp)⟩
theorem sub_twice {s : Sb} {L : List (Tm × Tm)} (h : UI s L) (t : Tm) : subT (bnd s) (subT (bnd s) t) = subT (bnd s) t := ref_sub (ref_refl h.idem (ui_ok h)) t
theorem args_twice {s : Sb} {L : List (Tm × Tm)} (h : UI s L) {t X : Tm} (hX : X = subT (bnd s) t) (hv : X.1.1 = false) : X.2.list.map (subT (bnd s)) = X.2.list := by
  have e : subT (bnd s) X = X := by rw [hX]; exact sub_twice h t
  obtain ⟨⟨xv, xn⟩, k⟩ := X
  simp only at hv
  subst hv
  rw [subT_sym] at e
  simp only [Prod.mk.injEq, true_and] at e
  show k.list.map _ = k.list
  rw [← subF_list, e]
theorem Eqs.args {n : Nat} {s : Sb} {p : Tm × Tm} {L : List (Tm × Tm)} {R : Option Sb} {lt rt : List Tm} {t u X Y : Tm} (hp : UI s (p :: L)) (h : Eqs s L lt rt) (hr : runU n s (p :: L) = some R) (hX : X = subT (bnd s) t) (hY : Y = subT (bnd s) u) (et : subT (bnd s) t = subT (bnd s) p.1) (eu : subT (bnd s) u = subT (bnd s) p.2) (gt : Gd t) (gu : Gd u) (hx : X.1.1 = false) (hy : Y.1.1 = false) :
    (¬ (X.1.2 = Y.1.2 ∧ Fo.len X.2 = Fo.len Y.2) → R = none) ∧ (X.1.2 = Y.1.2 ∧ Fo.len X.2 = Fo.len Y.2 → ∃ m L', m < n ∧ Eqs s L' (X.2.list ++ lt) (Y.2.list ++ rt) ∧ runU m s L' = some R) := by
  have eX : X = subT (bnd s) p.1 := hX.trans et
  have eY : Y = subT (bnd s) p.2 := hY.trans eu
  have := run_sym hp hr (by rw [← eX, hx]; decide) (by rw [← eY, hy]; decide)
  rw [← eX, ← eY] at this
  refine ⟨this.1, fun hc => ?_⟩
  obtain ⟨m, M, h1, h2, h3, h4, h5⟩ := this.2 hc
  have gX : Gd X := by rw [hX]; exact gd_sub hp.gs gt
  have gY : Gd Y := by rw [hY]; exact gd_sub hp.gs gu
  obtain ⟨⟨xv, xn⟩, xk⟩ := X
  obtain ⟨⟨yv, yn⟩, yk⟩ := Y
  refine ⟨m, M ++ L, h1, ⟨h2, ?_, ?_, ?_, ?_⟩, h3⟩
  · rw [List.map_append, List.map_append, h.el, args_twice hp hX hx, h4]
  · rw [List.map_append, List.map_append, h.er, args_twice hp hY hy, h5]
  · intro z hz
    rcases List.mem_append.1 hz with hz | hz
    · exact gd_mem gX hx hz
    · exact h.gl z hz
  · intro z hz
    rcases List.mem_append.1 hz with hz | hz
    · exact gd_mem gY hy hz
    · exact h.gr z hz
theorem Eqs.bind {n : Nat} {s : Sb} {p : Tm × Tm} {L : List (Tm × Tm)} {R : Option Sb} {lt rt : List Tm} {t u X Y U V : Tm} (hp : UI s (p :: L)) (h : Eqs s L lt rt) (hr : runU n s (p :: L) = some R) (hX : X = subT (bnd s) t) (hY : Y = subT (bnd s) u) (et : subT (bnd s) t = subT (bnd s) p.1) (eu : subT (bnd s) u = subT (bnd s) p.2) (hne : X ≠ Y)
    (huv : (U = X ∧ V = Y ∧ U.1.1 = true) ∨ (U = Y ∧ V = X ∧ U.1.1 = true ∧ ¬ V.1.1 = true)) :
    (addS s U.1.2 V = none → R = none) ∧ ∀ s1, addS s U.1.2 V = some s1 → ∃ m, m < n ∧ Eqs s1 L lt rt ∧ runU m s1 L = some R := by
  have eX : X = subT (bnd s) p.1 := hX.trans et
  have eY : Y = subT (bnd s) p.2 := hY.trans eu
  rw [eX, eY] at huv hne
  obtain ⟨h1, h2⟩ := run_var hp hr hne huv
  refine ⟨h1, fun s1 e => ?_⟩
  obtain ⟨m, k1, k2, k3, k4⟩ := h2 s1 e
  have up : ∀ (f : Tm × Tm → Tm) (xs : List Tm), xs.map (subT (bnd s)) = L.map (fun p => subT (bnd s) (f p)) → xs.map (subT (bnd s1)) = L.map (fun p => subT (bnd s1) (f p)) := by
    intro f xs hh
    have e2 := congrArg (List.map (subT (bnd s1))) hh
    simp only [List.map_map] at e2
    have e3 : (subT (bnd s1)) ∘ (subT (bnd s)) = subT (bnd s1) := funext fun z => ref_sub k4 z
    have e4 : (subT (bnd s1)) ∘ (fun p => subT (bnd s) (f p)) = fun p => subT (bnd s1) (f p) := funext fun z => ref_sub k4 (f z)
    rw [e3, e4] at e2
    exact e2
  exact ⟨m, k1, ⟨k2, up Prod.fst lt h.el, up Prod.snd rt h.er, h.gl, h.gr⟩, k3⟩
theorem Eqs.skip {n : Nat} {s : Sb} {p : Tm × Tm} {L : List (Tm × Tm)} {R : Option Sb} {t u X Y : Tm} (hp : UI s (p :: L)) (hr : runU n s (p :: L) = some R) (hX : X = subT (bnd s) t) (hY : Y = subT (bnd s) u) (et : subT (bnd s) t = subT (bnd s) p.1) (eu : subT (bnd s) u = subT (bnd s) p.2) (he : X = Y) : ∃ m, m < n ∧ runU m s L = some R :=
  run_skip n s p L R hp hr (by rw [← et, ← eu, ← hX, ← hY, he])
theorem terms_rest {n c b o : Nat} (hn : 1 ≤ n) (hlc : n ≤ c) : ∃ z1 : Option Addr, (∀ w : World, (Instr.slice 31 (.slice (some ⟨b, o, none⟩) n c) (some (.int .i64 1)) none none).run Try.prog w = .ok (.slice z1 (n - 1) (c - 1)) w) ∧ (1 < n → z1 = some ⟨b, o + 3, none⟩) := by
  refine ⟨if c = 1 then some ⟨b, o, none⟩ else some ⟨b, o + 3, none⟩, fun w => ?_, fun h => if_neg (by omega)⟩
  rw [run_slice_l (ht := by kernel_rfl) (h0 := by omega) (h1 := by omega)]
  have e : (sizeOf (Try.prog.elem 31)).run Try.prog w = .ok 3 w := by
    rw [show Try.prog.elem 31 = 33 by kernel_rfl]
    simp [go_sem]
  by_cases hc : c = 1
  · simp [Result.andThen, sliced, e, hc]
  · simp [Result.andThen, sliced, e, hc, Addr.add]
theorem sin_rest {w : World} {t : Tm} {ts : List Tm} {b o c : Nat} {z1 : Option Addr} (h : FIn w (foOf (t :: ts)) b o) (hc : ts.length + 1 ≤ c) (hm : c ≤ maxLen) (hz : 1 < ts.length + 1 → z1 = some ⟨b, o + 3, none⟩) : SIn w (foOf ts) (.slice z1 (ts.length + 1 - 1) (c - 1)) := by
  obtain ⟨_, _, _, h4⟩ := FIn.node h
  exact ⟨z1, c - 1, b, o + 3, by rw [foOf_len]; rfl, fun h => hz (by rw [foOf_len] at h; omega), by rw [foOf_len]; omega, by omega, h4⟩
def Bxs (wn wx : World) (b d : Nat) (x y z x' y' z' : Value) : Prop := (C3 wx b x y z ∧ C3 wx d x' y' z' ∧ Below wn.heap.size wn wx) ∧ ((∀ i, wx.frozen? ⟨b, i, none⟩ = false) ∧ (∀ i, wx.frozen? ⟨d, i, none⟩ = false)) ∧ wn.heap.size ≤ b ∧ wn.heap.size ≤ d ∧ b ≠ d
theorem Bxs.swap {wn wx : World} {b d : Nat} {x y z x' y' z' : Value} (h : Bxs wn wx b d x y z x' y' z') : Bxs wn wx d b x' y' z' x y z := ⟨swap3 h.1, ⟨h.2.1.2, h.2.1.1⟩, h.2.2.2.1, h.2.2.1, Ne.symm h.2.2.2.2⟩
theorem gin0 {wn W : World} {x y z x' y' z' : Value} (h : Below wn.heap.size wn W) : Bxs wn ((W.alloc (.cells #[x, y, z] 33)).alloc (.cells #[x', y', z'] 33)) W.heap.size (W.heap.size + 1) x y z x' y' z' := by
  have hs := h.size
  refine ⟨fin0 h, ⟨fun i => ?_, fun i => new_frozen (World.size_alloc _ _)⟩, hs, by omega, by omega⟩
  exact ((below_alloc _ _).frozen (p := ⟨W.heap.size, i, none⟩) (by simp)).trans (new_frozen rfl)
theorem gin1 {wn W : World} {b : Nat} {x y z x' y' z' u0 u1 u2 : Value} (h : Below wn.heap.size wn W) (hb : wn.heap.size ≤ b) (h0 : W.cell? ⟨b, 0, none⟩ = some u0) (h1 : W.cell? ⟨b, 1, none⟩ = some u1) (h2 : W.cell? ⟨b, 2, none⟩ = some u2) (hf : ∀ i, W.frozen? ⟨b, i, none⟩ = false) :
    Bxs wn ((((W.setCell ⟨b, 0, none⟩ x).setCell ⟨b, 1, none⟩ y).setCell ⟨b, 2, none⟩ z).alloc (.cells #[x', y', z'] 33)) b W.heap.size x y z x' y' z' := by
  have hs := h.size
  have hbl : b < W.heap.size := World.block_lt_of_cell? _ _ h0
  have hsz : (set3 W b 0 x y z).heap.size = W.heap.size := set3_size
  refine ⟨fin1 h hb h0 h1 h2, ⟨fun i => ?_, fun i => new_frozen hsz⟩, hb, hs, by omega⟩
  have e : (((W.setCell ⟨b, 0, none⟩ x).setCell ⟨b, 1, none⟩ y).setCell ⟨b, 2, none⟩ z) = set3 W b 0 x y z := rfl
  rw [e]
  exact ((below_alloc _ _).frozen (p := ⟨b, i, none⟩) (by rw [hsz]; exact hbl)).trans (set3_frozen.trans (hf i))
theorem gin2 {wn W : World} {b d : Nat} {x y z x' y' z' u0 u1 u2 t0 t1 t2 : Value} (h : Below wn.heap.size wn W) (hb : wn.heap.size ≤ b) (hd : wn.heap.size ≤ d) (hn : b ≠ d) (h0 : W.cell? ⟨b, 0, none⟩ = some u0) (h1 : W.cell? ⟨b, 1, none⟩ = some u1) (h2 : W.cell? ⟨b, 2, none⟩ = some u2) (hf : ∀ i, W.frozen? ⟨b, i, none⟩ = false) (k0 : W.cell? ⟨d, 0, none⟩ = some t0) (k1 : W.cell? ⟨d, 1, none⟩ = some t1) (k2 : W.cell? ⟨d, 2, none⟩ = some t2) (kf : ∀ i, W.frozen? ⟨d, i, none⟩ = false) :
    Bxs wn ((((((W.setCell ⟨b, 0, none⟩ x).setCell ⟨b, 1, none⟩ y).setCell ⟨b, 2, none⟩ z).setCell ⟨d, 0, none⟩ x').setCell ⟨d, 1, none⟩ y').setCell ⟨d, 2, none⟩ z') b d x y z x' y' z' := by
  have e : ((((((W.setCell ⟨b, 0, none⟩ x).setCell ⟨b, 1, none⟩ y).setCell ⟨b, 2, none⟩ z).setCell ⟨d, 0, none⟩ x').setCell ⟨d, 1, none⟩ y').setCell ⟨d, 2, none⟩ z') = set3 (set3 W b 0 x y z) d 0 x' y' z' := rfl
  refine ⟨fin2 h hb hd hn h0 h1 h2 k0 k1 k2, ⟨fun i => ?_, fun i => ?_⟩, hb, hd, hn⟩
  · rw [e, set3_frozen, set3_frozen]; exact hf i
  · rw [e, set3_frozen, set3_frozen]; exact kf i
def Off (w : World) (b d : Nat) : Nat → Prop := fun q => q < w.heap.size ∧ q ≠ b ∧ q ≠ d
theorem sb_keep {X : Nat → Prop} {w w' : World} {b d : Nat} {k : Fo} {a : Value} (h : SB X w k a) (hr : ∀ q, X q → w'.heap[q]? = w.heap[q]? ∧ q < w.heap.size ∧ q ≠ b ∧ q ≠ d) : SB (Off w' b d) w' k a := by
  refine h.frame (fun q hq => ?_) (fun q i hq => World.cell?_of_block (hr q hq).1)
  obtain ⟨h1, h2, h3, h4⟩ := hr q hq
  refine ⟨?_, h3, h4⟩
  rcases Nat.lt_or_ge q w'.heap.size with h' | h'
  · exact h'
  · rw [Array.getElem?_eq_none h', Array.getElem?_eq_getElem h2] at h1
    cases h1
theorem sb_swapped {w : World} {b d : Nat} {k : Fo} {a x y z x' y' z' : Value} (h : SB (Off w b d) w k a) : SIn (set3 (set3 w b 0 x y z) d 0 x' y' z') k a :=
  (h.kept (fun q hq => by rw [set3_heap hq.2.2, set3_heap hq.2.1])).toS
theorem Side.init (wx : World) : Side wx wx (.slice none 0 0) [] (.slice none 0 0) [] := ⟨Below.refl _ _, Row.nil _ _, Row.nil _ _, fun g h => by simp [Value.ownBlock] at h⟩
theorem Row.drew {lo : Nat} {w : World} {v : Value} {ts : List Tm} (h : Row lo w v ts) : Row lo w.drew v ts := by
  obtain ⟨xs, h1, h2⟩ := h
  have hr : ∀ q i, q < lo → w.drew.cell? ⟨q, i, none⟩ = w.cell? ⟨q, i, none⟩ := fun q i _ => rfl
  exact ⟨xs, h1, h2.frame (fun _ h => h) hr⟩
theorem Side.drew {wx w : World} {va vb : Value} {a b : List Tm} (h : Side wx w va a vb b) : Side wx w.drew va a vb b := ⟨h.below.drew, h.ra.drew, h.rb.drew, h.ap⟩
def XO (w : World) (v : Value) : Nat → Prop := fun q => q < w.heap.size ∧ some q ≠ v.ownBlock
theorem own_nil (lo : Nat) (w : World) : OwnS lo (XO w (.slice none 0 0)) w [] (.slice none 0 0) [] := ⟨World.ownsRow_nil _ _ _ _, rfl, fun _ h => h⟩
theorem out_next {lo : Nat} {wr w3 w4 : World} {s : Sb} {v : Value} {xs : List Value} {n : Int} {t : Tm} {a : Value} {ob : Obj} {g cap j : Nat} (h : OwnS lo (XO wr v) wr s v xs) (hj : s.length = j) (hb : Below wr.heap.size wr w3) (hlo : lo ≤ wr.heap.size) (hO : SB (fun q => q < lo ∨ (wr.heap.size ≤ q ∧ q < w3.heap.size)) w3 t.2 a)
    (ho : w4.ownsRow lo 92 4 (.slice (some ⟨g, 0, none⟩) (j + 1) cap) (j + 1) (xs ++ [.int .i64 n, .bool t.1.1, .int .i64 t.1.2, a])) (hg : (w3.alloc ob).grownBy w4 v.ownBlock) (hat : v.ownBlock = some g ∨ g = w3.heap.size + 1) (hlt : g < w4.heap.size) :
    OwnS lo (XO w4 (.slice (some ⟨g, 0, none⟩) (j + 1) cap)) w4 (s ++ [(n, t)]) (.slice (some ⟨g, 0, none⟩) (j + 1) cap) (xs ++ [.int .i64 n, .bool t.1.1, .int .i64 t.1.2, a]) ∧ Below lo wr w4 := by
  subst hj
  have hs := hb.size
  have hv : ∀ q, v.ownBlock = some q → lo ≤ q ∧ q < wr.heap.size := fun q hq => owns_at h.row q hq
  have h3 : OwnS lo (XO w3 v) w3 s v xs := (h.below hb).wide (fun q hq => ⟨by have := hq.1; omega, hq.2⟩) (fun _ h => h)
  have hO3 : SB (XO w3 v) w3 t.2 a := hO.wide (fun q hq => by
    refine ⟨by omega, fun e => ?_⟩
    have := hv q e.symm
    omega)
  obtain ⟨h1, h2, _⟩ := own_snoc2 (n := n) (t := t) h3 hO3 ho hg hat hlt
  refine ⟨h1.wide (fun q hq => h1.off q hq) (fun _ h => h), (hb.mono hlo).trans ⟨h2.os, h2.tape, h2.output, h2.size, fun q hq => h2.block q (by omega) (fun e => ?_) (by simp)⟩⟩
  have := hv q e.symm
  omega
theorem row_more {lo : Nat} {X : Nat → Prop} {w w' : World} {s s' : Sb} {v v' : Value} {xs news : List Value} (h : OwnS lo X w s v xs) (hn : PC X w s' news) (ho : w'.ownsRow lo 92 4 v' (s.length + s'.length) (xs ++ news)) (hg : w.grownBy w' v.ownBlock) : SubIn w' (s ++ s') v' := by
  have hr : ∀ q i, X q → w'.cell? ⟨q, i, none⟩ = w.cell? ⟨q, i, none⟩ := fun q i hq => World.cell?_of_block (hg.block q (h.off q hq).1 (h.off q hq).2)
  exact row_sub (X := X) (xs := xs ++ news) (by simpa using ho) (PC.append (hn.frame (fun _ hq => hq) hr) (h.cells.frame (fun _ hq => hq) hr))
theorem take_more {f : Int × Tm → Int × Tm} {s : Sb} {j : Nat} {p : Int × Tm} (h : s[j]? = some p) : (s.take (j + 1)).map f = (s.take j).map f ++ [f p] := by
  rw [List.take_add_one, h]
  simp
end Go.Proofs.Ytiilckjnggeeoad

namespace Go.Proofs.Ytiilckjnggeeoad
open Go.RowKit Go.Deep Go.ChangeShapes Go.WideShapes
theorem Try.info35 : (Try.prog.info? 35).map (fun i => (i.zero, i.size, i.bytes)) = some (some (.agg #[.bool false, .bool false, .int .i64 0, .slice none 0 0, .bool false, .int .i64 0, .slice none 0 0]), 7, 88) := by kernel_rfl
def LIn (w : World) : Cl → Nat → Nat → Prop
  | [], _, _ => True
  | l :: c, b, o => (w.cell? ⟨b, o, none⟩ = some (.bool l.1) ∧ w.cell? ⟨b, o + 1, none⟩ = some (.bool l.2.1.1.1) ∧ w.cell? ⟨b, o + 2, none⟩ = some (.int .i64 l.2.1.1.2) ∧ (∃ v, w.cell? ⟨b, o + 3, none⟩ = some v ∧ SIn w l.2.1.2 v) ∧
      w.cell? ⟨b, o + 4, none⟩ = some (.bool l.2.2.1.1) ∧ w.cell? ⟨b, o + 5, none⟩ = some (.int .i64 l.2.2.1.2) ∧ ∃ v, w.cell? ⟨b, o + 6, none⟩ = some v ∧ SIn w l.2.2.2 v) ∧ LIn w c b (o + 7)
def CIn (w : World) (c : Cl) (v : Value) : Prop :=
  ∃ (a : Option Addr) (k b o : Nat), v = .slice a c.length k ∧ (0 < c.length → a = some ⟨b, o, none⟩) ∧ c.length ≤ k ∧ k ≤ maxLen ∧ LIn w c b o
theorem LIn.later {w w' : World} (hc : ∀ a v, w.cell? a = some v → w'.cell? a = some v) : ∀ {c : Cl} {b o : Nat}, LIn w c b o → LIn w' c b o
  | [], _, _, _ => trivial
  | _ :: _, _, _, ⟨⟨h0, h1, h2, ⟨v, h3, h4⟩, h5, h6, u, h7, h8⟩, h9⟩ => ⟨⟨hc _ _ h0, hc _ _ h1, hc _ _ h2, ⟨v, hc _ _ h3, h4.later hc⟩, hc _ _ h5, hc _ _ h6, u, hc _ _ h7, h8.later hc⟩, LIn.later hc h9⟩
theorem CIn.later {w w' : World} (hc : ∀ a v, w.cell? a = some v → w'.cell? a = some v) {c : Cl} {v : Value} (h : CIn w c v) : CIn w' c v := by
  obtain ⟨a, k, b, o, h1, h2, h3, h4, h5⟩ := h
  exact ⟨a, k, b, o, h1, h2, h3, h4, h5.later hc⟩
theorem LIn.below {w w' : World} (hb : Below w.heap.size w w') {c : Cl} {b o : Nat} (h : LIn w c b o) : LIn w' c b o := h.later (grow_cell hb)
theorem CIn.below {w w' : World} (hb : Below w.heap.size w w') {c : Cl} {v : Value} (h : CIn w c v) : CIn w' c v := h.later (grow_cell hb)
theorem CIn.alloc {w : World} {c : Cl} {v : Value} (h : CIn w c v) (ob : Obj) : CIn (w.alloc ob) c v := h.below (below_alloc w ob)
theorem CIn.drew {w : World} {c : Cl} {v : Value} (h : CIn w c v) : CIn w.drew c v := h.below (Below.refl _ _).drew
theorem CIn.nil (w : World) : CIn w [] (.slice none 0 0) := ⟨none, 0, 0, 0, rfl, fun h => by simp at h, Nat.le_refl _, Nat.zero_le _, trivial⟩
theorem slice_of_cl {w : World} {c : Cl} {v : Value} (h : CIn w c v) : ∃ z1 z3, v = .slice z1 c.length z3 := by
  obtain ⟨a, k, _, _, rfl, _⟩ := h
  exact ⟨a, k, rfl⟩
theorem LIn.at {w : World} : ∀ {c : Cl} {b o i : Nat} {l : Lt}, LIn w c b o → c[i]? = some l →
    w.cell? ⟨b, o + i * 7, none⟩ = some (.bool l.1) ∧ w.cell? ⟨b, o + i * 7 + 1, none⟩ = some (.bool l.2.1.1.1) ∧ w.cell? ⟨b, o + i * 7 + 2, none⟩ = some (.int .i64 l.2.1.1.2) ∧ (∃ v, w.cell? ⟨b, o + i * 7 + 3, none⟩ = some v ∧ SIn w l.2.1.2 v) ∧
      w.cell? ⟨b, o + i * 7 + 4, none⟩ = some (.bool l.2.2.1.1) ∧ w.cell? ⟨b, o + i * 7 + 5, none⟩ = some (.int .i64 l.2.2.1.2) ∧ ∃ v, w.cell? ⟨b, o + i * 7 + 6, none⟩ = some v ∧ SIn w l.2.2.2 v
  | [], _, _, _, _, _, h => by simp at h
  | q :: s, b, o, 0, l, hP, h => by
    simp only [List.getElem?_cons_zero, Option.some.injEq] at h
    subst h
    simpa using hP.1
  | q :: s, b, o, i + 1, l, hP, h => by
    have := LIn.at hP.2 (i := i) (by simpa using h)
    have e : o + 7 + i * 7 = o + (i + 1) * 7 := by omega
    rwa [e] at this
def LC (X : Nat → Prop) (w : World) : Cl → List Value → Prop
  | [], xs => xs = []
  | l :: c, xs => ∃ a d ys, xs = .bool l.1 :: .bool l.2.1.1.1 :: .int .i64 l.2.1.1.2 :: a :: .bool l.2.2.1.1 :: .int .i64 l.2.2.1.2 :: d :: ys ∧ SB X w l.2.1.2 a ∧ SB X w l.2.2.2 d ∧ LC X w c ys
theorem LC.frame {X Y : Nat → Prop} {w w' : World} (hXY : ∀ q, X q → Y q) (hr : ∀ q i, X q → w'.cell? ⟨q, i, none⟩ = w.cell? ⟨q, i, none⟩) : ∀ {s : Cl} {xs : List Value}, LC X w s xs → LC Y w' s xs
  | [], _, h => h
  | _ :: _, _, ⟨a, d, ys, h1, h2, h3, h4⟩ => ⟨a, d, ys, h1, h2.frame hXY hr, h3.frame hXY hr, LC.frame hXY hr h4⟩
theorem LC.append {X : Nat → Prop} {w : World} {s' : Cl} {ys : List Value} (h' : LC X w s' ys) : ∀ {s : Cl} {xs : List Value}, LC X w s xs → LC X w (s ++ s') (xs ++ ys)
  | [], _, h => by rw [LC] at h; subst h; exact h'
  | _ :: _, _, ⟨a, d, zs, h1, h2, h3, h4⟩ => by subst h1; exact ⟨a, d, zs ++ ys, rfl, h2, h3, LC.append h' h4⟩
abbrev litV (l : Lt) (a d : Value) : List Value := [.bool l.1, .bool l.2.1.1.1, .int .i64 l.2.1.1.2, a, .bool l.2.2.1.1, .int .i64 l.2.2.1.2, d]
theorem LC.one {X : Nat → Prop} {w : World} {l : Lt} {a d : Value} (h : SB X w l.2.1.2 a) (h' : SB X w l.2.2.2 d) : LC X w [l] (litV l a d) := ⟨a, d, [], rfl, h, h', rfl⟩
theorem LC.len {X : Nat → Prop} {w : World} : ∀ {s : Cl} {xs : List Value}, LC X w s xs → xs.length = s.length * 7
  | [], _, h => by rw [LC] at h; subst h; rfl
  | _ :: _, _, ⟨a, d, ys, h1, _, _, h3⟩ => by subst h1; simp only [List.length_cons, h3.len]; omega
theorem LC.at {X : Nat → Prop} {w : World} {g : Nat} : ∀ {s : Cl} {xs : List Value} {o : Nat}, LC X w s xs → (∀ j, j < xs.length → w.cell? ⟨g, o + j, none⟩ = xs[j]?) → LIn w s g o
  | [], _, _, _, _ => trivial
  | p :: s, _, o, ⟨a, d, ys, h1, h2, h2', h3⟩, hc => by
    subst h1
    have c0 := hc 0 (by simp)
    have c1 := hc 1 (by simp)
    have c2 := hc 2 (by simp)
    have c3 := hc 3 (by simp)
    have c4 := hc 4 (by simp)
    have c5 := hc 5 (by simp)
    have c6 := hc 6 (by simp)
    refine ⟨⟨by simpa using c0, by simpa using c1, by simpa using c2, ⟨a, by simpa using c3, h2.toS⟩, by simpa using c4, by simpa using c5, d, by simpa using c6, h2'.toS⟩, ?_⟩
    refine LC.at h3 (fun j hj => ?_)
    have := hc (j + 7) (by simp; omega)
    rw [show o + 7 + j = o + (j + 7) by omega, this]
    simp
theorem row_cl {X : Nat → Prop} {w : World} {lo : Nat} {v : Value} {s : Cl} {xs : List Value} (h : w.ownsRow lo 35 7 v s.length xs) (hc : LC X w s xs) : CIn w s v := by
  have hcells := fun g hg => h.cells (g := g) hg
  rcases h.2 with ⟨rfl, h0⟩ | ⟨g, cap, cur, rfl, hl, hh, hn, hm, hs, ht⟩
  · have : s = [] := List.length_eq_zero_iff.1 h0
    subst this
    exact CIn.nil w
  · refine ⟨_, cap, g, 0, rfl, fun _ => rfl, hn, hm, hc.at (fun j hj => ?_)⟩
    have := hcells g rfl j (xs[j]'hj) (List.getElem?_eq_getElem hj)
    rw [List.getElem?_eq_getElem hj]
    rw [add_plain] at this
    exact this
structure OwnL (lo : Nat) (X : Nat → Prop) (w : World) (s : Cl) (v : Value) (xs : List Value) : Prop where
  row : w.ownsRow lo 35 7 v s.length xs
  cells : LC X w s xs
  off : ∀ q, X q → q < w.heap.size ∧ some q ≠ v.ownBlock
theorem OwnL.cl {lo : Nat} {X : Nat → Prop} {w : World} {s : Cl} {v : Value} {xs : List Value} (h : OwnL lo X w s v xs) : CIn w s v := row_cl h.row h.cells
theorem OwnL.slice {lo : Nat} {X : Nat → Prop} {w : World} {s : Cl} {v : Value} {xs : List Value} (h : OwnL lo X w s v xs) : ∃ z1 z3, v = .slice z1 s.length z3 := slice_of_cl h.cl
theorem OwnL.below {lo : Nat} {X : Nat → Prop} {w w' : World} {s : Cl} {v : Value} {xs : List Value} (h : OwnL lo X w s v xs) (hb : Below w.heap.size w w') : OwnL lo X w' s v xs :=
  ⟨owns_keep h.row (fun g hg => hb.block g (owns_at h.row g hg).2), h.cells.frame (fun _ hq => hq) (fun q _ hq => World.cell?_of_block (hb.block q (h.off q hq).1)), fun q hq => ⟨Nat.lt_of_lt_of_le (h.off q hq).1 hb.size, (h.off q hq).2⟩⟩
theorem ownL_nil (lo : Nat) (w : World) : OwnL lo (XO w (.slice none 0 0)) w [] (.slice none 0 0) [] := ⟨World.ownsRow_nil _ _ _ _, rfl, fun _ h => h⟩
end Go.Proofs.Ytiilckjnggeeoad

namespace Go.Proofs.Ytiilckjnggeeoad
open Go.RowKit Go.Deep Go.ChangeShapes Go.WideShapes
theorem lit_cells {w wr : World} {x0 x1 x2 x3 x4 x5 x6 : Value} {T : TypeId} (h : Below (w.alloc (.cells #[x0, x1, x2, x3, x4, x5, x6] T)).heap.size (w.alloc (.cells #[x0, x1, x2, x3, x4, x5, x6] T)) wr) :
    wr.cell? ⟨w.heap.size, 0, none⟩ = some x0 ∧ wr.cell? ⟨w.heap.size, 1, none⟩ = some x1 ∧ wr.cell? ⟨w.heap.size, 2, none⟩ = some x2 ∧ wr.cell? ⟨w.heap.size, 3, none⟩ = some x3 ∧ wr.cell? ⟨w.heap.size, 4, none⟩ = some x4 ∧ wr.cell? ⟨w.heap.size, 5, none⟩ = some x5 ∧ wr.cell? ⟨w.heap.size, 6, none⟩ = some x6 ∧ (∀ i, wr.frozen? ⟨w.heap.size, i, none⟩ = false) ∧ Below w.heap.size w wr ∧ w.heap.size < wr.heap.size := by
  refine ⟨?_, ?_, ?_, ?_, ?_, ?_, ?_, fun i => ?_, (below_alloc w _).trans (h.mono (by simp)), by have := h.size; simp at this; omega⟩
  all_goals first | (rw [h.cell (by simp)]; simp; done) | exact (h.frozen (p := ⟨w.heap.size, i, none⟩) (by simp)).trans (new_frozen rfl)
end Go.Proofs.Ytiilckjnggeeoad

namespace Go.Proofs.Ytiilckjnggeeoad
open Go.RowKit Go.Deep Go.ChangeShapes Go.WideShapes
attribute [local go_sem ↓] Go.wp_at_zero Go.wp_at_succ
def prtL (l : Lt) : List Tm := prtT l.2.1 ++ prtT l.2.2
def allC (c : Cl) : List Tm := c.flatMap prtL
theorem allC_take {c : Cl} {j : Nat} {l : Lt} (h : c[j]? = some l) : allC (c.take (j + 1)) = allC (c.take j) ++ prtT l.2.1 ++ prtT l.2.2 := by
  unfold allC
  rw [List.take_add_one, h, List.flatMap_append, List.append_assoc]
  simp [prtL]
def PtOK (t : Tm) : Prop := tszR t.2 ≤ 12 ∧ Fo.len t.2 ≤ 1000 ∧ Fo.narrow t.2
theorem prt_len {t : Tm} (h : PtOK t) : (prtT t).length ≤ 12 := by
  rw [prtT, List.length_map]
  exact Nat.le_trans (placesT_len _ _ _) h.1
theorem allC_len : ∀ {c : Cl}, (∀ l ∈ c, PtOK l.2.1 ∧ PtOK l.2.2) → (allC c).length ≤ 24 * c.length
  | [], _ => Nat.le_refl _
  | l :: c, h => by
    have h1 := allC_len (c := c) (fun q hq => h q (List.mem_cons_of_mem _ hq))
    have h2 := prt_len (h l (List.mem_cons_self ..)).1
    have h3 := prt_len (h l (List.mem_cons_self ..)).2
    unfold allC at h1 ⊢
    rw [List.flatMap_cons, List.length_append, prtL, List.length_append, List.length_cons]
    omega
set_option maxRecDepth 100000 in
set_option maxHeartbeats 2000000 in
theorem allP_any (c : Cl) (v : Value) (w : World) (hC : CIn w c v) (hP : ∀ l ∈ c, PtOK l.2.1 ∧ PtOK l.2.2) (hl : c.length ≤ 40) :
    Calls Try.prog 29 #[v] w fun e w' => ∃ v', e = .returned v' ∧ TsR w.heap.size w' v' (allC c) ∧ Below w.heap.size w w' := by
  obtain ⟨ca, ck, cb, co, rfl, hca, hck, hcm, hcF⟩ := hC
  have HF := hide hcF
  have HP := hide hP
  have HL := hide (fun j => allC_len (c := c.take j) (fun l hl => hP l (List.mem_of_mem_take hl)))
  unfold maxLen at hcm
  clear hcF hP
  go_enter Try.func29, Try.ntmps29
  go_wp2_with fail
  go_loopw [3, 8] (fun v i wr => ∃ (j : Nat), j ≤ c.length ∧ i = .int .i64 j ∧ TsR w.heap.size wr v (allC (c.take j)) ∧ Below w.heap.size w wr) (fun _ i _ => c.length - (intOf i).toNat)
  case atStart => exact ⟨0, Nat.zero_le _, rfl, TsR.none _ _, Below.refl _ _⟩
  case round =>
    obtain ⟨j, hj, rfl, hR, hBr⟩ := hrel
    have HR := hide hR
    have HBr := hide hBr
    obtain ⟨u1, u3, rfl⟩ := hR.slice
    clear hR
    by_cases hlt : j < c.length
    · have hlt' : (j : Int) < (c.length : Int) := by omega
      obtain ⟨⟨yn, ⟨⟨yv, yi⟩, yk⟩, ⟨yv', yi'⟩, yk'⟩, hy⟩ : ∃ y, c[j]? = some y := ⟨c[j]'hlt, by simp⟩
      obtain ⟨p0, p1, p2, ⟨x3, p3, hA⟩, p4, p5, x6, p6, hD⟩ := (HF.out.below hBr).at hy
      obtain ⟨q0, q1, q2, ⟨x3', q3, hA0⟩, q4, q5, x6', q6, hD0⟩ := HF.out.at hy
      obtain rfl : x3' = x3 := Option.some.inj (((grow_cell hBr _ _ q3).symm.trans p3))
      obtain rfl : x6' = x6 := Option.some.inj (((grow_cell hBr _ _ q6).symm.trans p6))
      have ha1 : ca = some ⟨cb, co, none⟩ := hca (by omega)
      subst ha1
      have HA := hide hA0
      have HD := hide hD0
      obtain ⟨ya, yc, _, _, rfl, -, -, -, -⟩ := hA0
      obtain ⟨za, zc, _, _, rfl, -, -, -, -⟩ := hD0
      have Hok := hide (HP.out _ (List.mem_of_getElem? hy))
      have HT := hide (allC_take hy)
      have Hl1 : Hid ((allC (c.take j)).length ≤ 24 * 40) := by
        have := HL.out j
        rw [List.length_take] at this
        rw [Hid]
        omega
      have Hl2 : Hid ((allC (c.take j) ++ prtT ((yv, yi), yk)).length ≤ 24 * 40 + 12) := by
        have h1 := Hl1.out
        have h2 := prt_len Hok.out.1
        rw [Hid, List.length_append]
        simp only at h2
        omega
      simp only at HT
      generalize allC (c.take j) = M at *
      obtain ⟨M2, hM2⟩ : ∃ M2, M ++ prtT ((yv, yi), yk) = M2 := ⟨_, rfl⟩
      rw [hM2] at HT Hl2
      clear hy hA hD q0 q1 q2 q3 q4 q5 q6 hca hBr
      simp only at *
      go_upto_region 5 with fail
      generalize hwa : wr.alloc (.cells #[.bool yn, .bool yv, .int .i64 yi, .slice ya (Fo.len yk) yc, .bool yv', .int .i64 yi', .slice za (Fo.len yk') zc] 35) = wa
      obtain ⟨-, g1, g2, g3, g4, g5, g6, -, hba, -⟩ := lit_cells (T := 35) (x0 := .bool yn) (w := wr) (wr := wa) (x1 := .bool yv) (x2 := .int .i64 yi) (x3 := .slice ya (Fo.len yk) yc) (x4 := .bool yv') (x5 := .int .i64 yi') (x6 := .slice za (Fo.len yk') zc) (by rw [hwa]; exact Below.refl _ _)
      have hsa : wa.heap.size = wr.heap.size + 1 := by rw [← hwa]; simp
      clear hwa p0 p1 p2 p3 p4 p5 p6
      have Hba := hide hba
      have hown : some wr.heap.size ≠ (Value.slice u1 M.length u3).ownBlock := fun e => by have := (HR.out.own _ e.symm).2; omega
      have hadd := addParts_any (yv, yi) yk w _ wa _ M HA.out (below_step HBr.out hba) (HR.out.below hba) Hok.out.1.1 (by have := Hl1.out; omega) Hok.out.1.2.1 Hok.out.1.2.2
      rw [hM2] at hadd
      have Hadd := hide hadd
      clear hadd hba hM2
      go_wp2_with fail
      refine Hadd.out.mono ?_
      rintro e w3 ⟨v3, rfl, hR3, hB3, hF3⟩
      have HR3 := hide hR3
      have HB3 := hide hB3
      have h9 := hF3.block wr.heap.size (by omega) hown (fun e => by cases e)
      replace g4 := (World.cell?_of_block (a := ⟨wr.heap.size, 4, none⟩) h9).trans g4
      replace g5 := (World.cell?_of_block (a := ⟨wr.heap.size, 5, none⟩) h9).trans g5
      replace g6 := (World.cell?_of_block (a := ⟨wr.heap.size, 6, none⟩) h9).trans g6
      obtain ⟨t1, t3, rfl⟩ := hR3.slice
      have hadd := addParts_any (yv', yi') yk' w _ w3 _ _ HD.out HB3.out HR3.out Hok.out.2.1 (by have := Hl2.out; omega) Hok.out.2.2.1 Hok.out.2.2.2
      have Hadd2 := hide hadd
      clear hadd hR3 hB3 hF3 h9 Hadd g1 g2 g3
      go_wp2_with fail
      refine Hadd2.out.mono ?_
      rintro e w5 ⟨v5, rfl, hR5, hB5, -⟩
      rw [← HT.out] at hR5
      have HM3 : Hid (∃ M3, allC (c.take (j + 1)) = M3) := ⟨_, rfl⟩
      obtain ⟨M3, hM3⟩ := HM3.out
      have HM3 := hide hM3
      rw [hM3] at hR5
      clear hM3
      have HR5 := hide hR5
      have HB5 := hide hB5
      obtain ⟨s1, s3, rfl⟩ := hR5.slice
      clear hR5 hB5 Hadd2 g4 g5 g6
      go_wp2_with fail
      go_roundw
      case rel => exact ⟨j + 1, by omega, by go_num, by rw [HM3.out]; exact HR5.out, HB5.out⟩
      case measure => simp [intOf]; omega
    · have Hfin : Hid (TsR w.heap.size wr (.slice u1 (allC (c.take j)).length u3) (allC c)) := by
        have e : c.take j = c := by rw [show j = c.length by omega, List.take_length]
        have := HR.out
        rw [e] at this ⊢
        exact this
      clear hca
      go_wp2_with fail
      go_ret
      exact ⟨_, rfl, Hfin.out, HBr.out⟩
end Go.Proofs.Ytiilckjnggeeoad

namespace Go.Proofs.Ytiilckjnggeeoad
open Go.RowKit Go.Deep Go.ChangeShapes Go.WideShapes
theorem eqKey_run (a b c d e f : Int) (w : World) : (Op.equalIn 10000 42 (.agg #[.int .i64 a, .int .i64 b, .int .i64 c]) (.agg #[.int .i64 d, .int .i64 e, .int .i64 f])).run Try.prog w = .ok (a == d && (b == e && c == f)) w := by
  have u3 := Try.underlying3
  rw [show (10000 : Nat) = 9999 + 1 from rfl, Op.equalIn]
  simp only [Sem.run_bind, run_underlying Try.underlying42, Result.andThen_ok]
  simp only [Std.Legacy.Range.forIn_eq_forIn_range', Std.Legacy.Range.size, Nat.sub_zero, Nat.add_sub_cancel, Nat.div_one, List.range'_succ, List.range'_zero, List.forIn_cons, List.forIn_nil]
  go_simp
  by_cases h1 : a = d <;> by_cases h2 : b = e <;> by_cases h3 : c = f <;> simp [h1, h2, h3]
end Go.Proofs.Ytiilckjnggeeoad

namespace Go.Proofs.Ytiilckjnggeeoad
open Go.RowKit Go.Deep Go.ChangeShapes Go.WideShapes
abbrev sepL : List UInt8 := [32, 124, 32]
abbrev zeroLt : Lt := (false, zeroT, zeroT)
def litP (s : List Int) (p : List UInt8) : Int × Lt :=
  if (Lib.cut p [61]).2.2 = false then (2, zeroLt) else
  if (parseT s (Lib.trimSuffix (Lib.cut p [61]).1 [33])).1 ≠ 0 then ((parseT s (Lib.trimSuffix (Lib.cut p [61]).1 [33])).1, zeroLt) else
  if (parseT s (Lib.cut p [61]).2.1).1 ≠ 0 then ((parseT s (Lib.cut p [61]).2.1).1, zeroLt) else
  (0, (Lib.hasSuffix (Lib.cut p [61]).1 [33], (parseT s (Lib.trimSuffix (Lib.cut p [61]).1 [33])).2, (parseT s (Lib.cut p [61]).2.1).2))
def litsP (s : List Int) : List (List UInt8) → Int
  | [] => 0
  | p :: ps => if (litP s p).1 ≠ 0 then (litP s p).1 else litsP s ps
def full (l : List UInt8) : List (List UInt8) := Lib.splitK sepL 0 l.length l
def partsC (s : List Int) (ps : List (List UInt8)) : Int × Cl := if 4 < ps.length then (5, []) else if litsP s ps ≠ 0 then (litsP s ps, []) else (0, ps.map fun p => (litP s p).2)
def parseC (s : List Int) (l : List UInt8) : Int × Cl :=
  if wsig s ≠ 0 then (wsig s, []) else if l = [91, 93] then (0, []) else partsC s (full l)
theorem litsP_at {s : List Int} : ∀ {c : List (List UInt8)} {j : Nat} {p : List UInt8}, (∀ i, i < j → ∀ a, c[i]? = some a → (litP s a).1 = 0) → c[j]? = some p → (litP s p).1 ≠ 0 → litsP s c = (litP s p).1
  | [], _, _, _, h, _ => by simp at h
  | x :: c, 0, l, _, h, hn => by
    simp only [List.getElem?_cons_zero, Option.some.injEq] at h
    subst h
    rw [litsP, if_pos hn]
  | x :: c, j + 1, l, h0, h, hn => by
    rw [litsP, if_neg (by simp [h0 0 (by omega) x (by simp)])]
    exact litsP_at (j := j) (fun i hi a ha => h0 (i + 1) (by omega) a (by simpa using ha)) (by simpa using h) hn
theorem litsP_iff {s : List Int} : ∀ {c : List (List UInt8)}, litsP s c = 0 ↔ ∀ p ∈ c, (litP s p).1 = 0
  | [] => by simp [litsP]
  | x :: c => by
    rw [litsP]
    by_cases h : (litP s x).1 = 0
    · rw [if_neg (by simp [h]), litsP_iff (c := c)]
      simp [h]
    · rw [if_pos h]
      simp [h]
theorem splitK_miss {k : Nat} {l : List UInt8} (h : Lib.index l sepL = -1) : Lib.splitK sepL 0 k l = [l] := by
  cases k with
  | zero => rfl
  | succ k => rw [Lib.splitK, if_pos (by rw [h]; rfl)]
theorem splitK_hit {k i : Nat} {l : List UInt8} (h : Lib.index l sepL = i) : Lib.splitK sepL 0 (k + 1) l = l.take i :: Lib.splitK sepL 0 k (l.drop (i + 3)) := by
  have hm : ¬ (Lib.index l sepL == -1) = true := fun e => by have := beq_iff_eq.1 e; omega
  have e : (Lib.index l sepL).toNat = i := by omega
  rw [Lib.splitK, if_neg hm, e]
  rfl
theorem index_two (l : List UInt8) : Lib.index l sepL = -1 ∨ ∃ i : Nat, Lib.index l sepL = i ∧ i + 3 ≤ l.length := by
  have h1 := Lib.index_ge l sepL
  rcases Classical.em (0 ≤ Lib.index l sepL) with h | h
  · refine .inr ⟨(Lib.index l sepL).toNat, by omega, ?_⟩
    have := Lib.index_room l sepL h
    simp at this
    omega
  · exact .inl (by omega)
theorem splitK_stable : ∀ (n : Nat) (l : List UInt8), l.length ≤ n → Lib.splitK sepL 0 n l = full l := by
  intro n
  induction n with
  | zero => intro l h; have : l.length = 0 := by omega
            rw [full, this]
  | succ n ih =>
    intro l h
    rcases index_two l with hi | ⟨i, hi, hr⟩
    · rw [full, splitK_miss hi, splitK_miss hi]
    · obtain ⟨m, hm⟩ : ∃ m, l.length = m + 1 := ⟨l.length - 1, by omega⟩
      rw [full, hm, splitK_hit hi, splitK_hit hi]
      rw [ih _ (by simp; omega)]
      rcases Nat.lt_or_ge m n with hmn | hmn
      · have : Lib.splitK sepL 0 n (l.drop (i + 3)) = full (l.drop (i + 3)) := ih _ (by simp; omega)
        congr 1
        rw [← this]
        clear this
        have key : ∀ (a b : Nat) (x : List UInt8), x.length ≤ a → a ≤ b → Lib.splitK sepL 0 b x = Lib.splitK sepL 0 a x := by
          intro a
          induction a with
          | zero => intro b x hx _
                    have : x = [] := List.length_eq_zero_iff.1 (by omega)
                    subst this
                    rw [splitK_miss (by rfl), splitK_miss (by rfl)]
          | succ a iha =>
            intro b x hx hb
            obtain ⟨b', rfl⟩ : ∃ b', b = b' + 1 := ⟨b - 1, by omega⟩
            rcases index_two x with hj | ⟨j, hj, hr'⟩
            · rw [splitK_miss hj, splitK_miss hj]
            · rw [splitK_hit hj, splitK_hit hj, iha b' _ (by simp; omega) (by omega)]
        exact key m n _ (by simp; omega) (by omega)
      · have : m = n := by omega
        rw [this, ih _ (by simp; omega)]
theorem full_miss {l : List UInt8} (h : Lib.index l sepL = -1) : full l = [l] := splitK_miss h
theorem full_hit {i : Nat} {l : List UInt8} (h : Lib.index l sepL = i) (hr : i + 3 ≤ l.length) : full l = l.take i :: full (l.drop (i + 3)) := by
  obtain ⟨m, hm⟩ : ∃ m, l.length = m + 1 := ⟨l.length - 1, by omega⟩
  rw [full, hm, splitK_hit h, splitK_stable m _ (by simp; omega)]
theorem full_le : ∀ (l : List UInt8), (full l).length ≤ l.length + 1 := by
  intro l
  have key : ∀ (k : Nat) (x : List UInt8), (Lib.splitK sepL 0 k x).length ≤ k + 1 := by
    intro k
    induction k with
    | zero => intro x; exact Nat.le_refl _
    | succ k ih =>
      intro x
      rcases index_two x with hi | ⟨i, hi, hr⟩
      · rw [splitK_miss hi]; simp
      · rw [splitK_hit hi]
        have := ih (x.drop (i + 3))
        simp; omega
  exact key _ _
end Go.Proofs.Ytiilckjnggeeoad
