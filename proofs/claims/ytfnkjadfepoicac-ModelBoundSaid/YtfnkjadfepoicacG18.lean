/- Made the same: the law's own walk. -/
import Derived.Test.YtfnkjadfepoicacG17
import Derived.Test.YtfnkjadfepoicacG16
import Derived.Test.YtfnkjadfepoicacG13
import Derived.Test.YtfnkjadfepoicacG14
import Derived.Test.YtfnkjadfepoicacG10
namespace Go.Proofs.Ytfnkjadfepoicac
open Go.RowKit Go.Deep Go.ChangeShapes Go.WideShapes
attribute [local go_sem ↓] Go.wp_at_zero Go.wp_at_succ

def LawPost (w : World) (e : Ending) (w' : World) : Prop := e = .returned (.bool true) ∧ Below w.heap.size w w'

theorem sin_keep {X : Nat → Prop} {w w' : World} {k : Fo} {a : Value} (h : SB X w k a) (hr : ∀ q, X q → w'.heap[q]? = w.heap[q]?) : SIn w' k a := (h.kept hr).toS
theorem heap0 {W : World} {o1 o2 : Obj} {q : Nat} (h : q < W.heap.size) : ((W.alloc o1).alloc o2).heap[q]? = W.heap[q]? := by
  rw [Below.heap_alloc _ _ _ (by simp; omega), Below.heap_alloc _ _ _ h]
theorem heap1 {W : World} {b q : Nat} {x y z : Value} {o : Obj} (h : q < W.heap.size) (hn : q ≠ b) : ((((W.setCell ⟨b, 0, none⟩ x).setCell ⟨b, 1, none⟩ y).setCell ⟨b, 2, none⟩ z).alloc o).heap[q]? = W.heap[q]? := by
  have hs : (set3 W b 0 x y z).heap.size = W.heap.size := set3_size
  have e : (((W.setCell ⟨b, 0, none⟩ x).setCell ⟨b, 1, none⟩ y).setCell ⟨b, 2, none⟩ z) = set3 W b 0 x y z := rfl
  rw [e, Below.heap_alloc _ _ _ (by rw [hs]; exact h), set3_heap hn]
theorem heap2 {W : World} {b d q : Nat} {x y z x' y' z' : Value} (hn : q ≠ b) (hd : q ≠ d) : ((((((W.setCell ⟨b, 0, none⟩ x).setCell ⟨b, 1, none⟩ y).setCell ⟨b, 2, none⟩ z).setCell ⟨d, 0, none⟩ x').setCell ⟨d, 1, none⟩ y').setCell ⟨d, 2, none⟩ z').heap[q]? = W.heap[q]? := by
  have e : ((((((W.setCell ⟨b, 0, none⟩ x).setCell ⟨b, 1, none⟩ y).setCell ⟨b, 2, none⟩ z).setCell ⟨d, 0, none⟩ x').setCell ⟨d, 1, none⟩ y').setCell ⟨d, 2, none⟩ z') = set3 (set3 W b 0 x y z) d 0 x' y' z' := rfl
  rw [e, set3_heap hd, set3_heap hn]

/-- The document's Apply, whenever it is called. -/
theorem applyR_call {W wn : World} {s : Sb} {vs : Value} {x z : Bool × Int} {k zk : Fo} {a : Value} (hb0 : Below W.heap.size W wn) (hV : SubIn W s vs) (hs : ∀ p ∈ s, okT p.2) (hS : SIn W k a) (hok : okT (x, k)) (hnar : narT (x, k)) (hz : (z, zk) = subT (bnd s) (x, k)) (w' : World) (hb : Below wn.heap.size wn w') :
    Calls Try.prog 21 #[vs, .agg #[.bool x.1, .int .i64 x.2, a]] w' fun e w'' => ∃ (x1 : Option Addr) (x2 x3 m : Nat), m = w'.heap.size ∧ e = .returned (.agg #[.bool z.1, .int .i64 z.2, .slice x1 x2 x3]) ∧ SB (fun q => q < wn.heap.size ∨ (m ≤ q ∧ q < w''.heap.size)) w'' zk (.slice x1 x2 x3) ∧ Below w'.heap.size w' w'' := by
  refine (applyR_any x k s vs W a w' (below_step hb0 hb) hV hs hS hok hnar).mono ?_
  rintro e w'' ⟨x1, x2, x3, rfl, hSB, hb2⟩
  rw [← hz] at hSB ⊢
  have h0 := hb0.size
  exact ⟨x1, x2, x3, _, rfl, rfl, hSB.wide (fun q hq => by rcases hq with h | h; exact .inl (by omega); exact .inr h), hb2⟩

end Go.Proofs.Ytfnkjadfepoicac

/- What the document's solve is held against, told of terms alone; and two boxes that are written. -/
namespace Go.Proofs.Ytfnkjadfepoicac
open Go.RowKit Go.Deep Go.ChangeShapes Go.WideShapes

/-- Equations ls = rs are, by the bindings s, those of L. -/
structure Eqs (s : Sb) (L : List (Tm × Tm)) (ls rs : List Tm) : Prop where
  ui : UI s L
  el : ls.map (subT (bnd s)) = L.map fun p => subT (bnd s) p.1
  er : rs.map (subT (bnd s)) = L.map fun p => subT (bnd s) p.2
  gl : ∀ t ∈ ls, Gd t
  gr : ∀ t ∈ rs, Gd t

theorem Eqs.nil {s : Sb} {ls rs : List Tm} (h : Eqs s [] ls rs) : ls = [] ∧ rs = [] := ⟨by simpa using h.el, by simpa using h.er⟩
theorem Eqs.len {s : Sb} {L : List (Tm × Tm)} {ls rs : List Tm} (h : Eqs s L ls rs) : ls.length = L.length ∧ rs.length = L.length :=
  ⟨by simpa using congrArg List.length h.el, by simpa using congrArg List.length h.er⟩
theorem Eqs.cons {s : Sb} {p : Tm × Tm} {L : List (Tm × Tm)} {ls rs : List Tm} (h : Eqs s (p :: L) ls rs) :
    ∃ t lt u rt, ls = t :: lt ∧ rs = u :: rt ∧ Eqs s L lt rt ∧ subT (bnd s) t = subT (bnd s) p.1 ∧ subT (bnd s) u = subT (bnd s) p.2 ∧ Gd t ∧ Gd u := by
  obtain ⟨h0, h1, h2, h3, h4⟩ := h
  cases ls with
  | nil => simp at h1
  | cons t lt =>
    cases rs with
    | nil => simp at h2
    | cons u rt =>
      simp only [List.map_cons, List.cons.injEq] at h1 h2
      exact ⟨t, lt, u, rt, rfl, rfl, ⟨ui_tail h0, h1.2, h2.2, fun z hz => h3 z (by simp [hz]), fun z hz => h4 z (by simp [hz])⟩, h1.1, h2.1, h3 t (by simp), h4 u (by simp)⟩
/-- What was bound stays as it is. -/
theorem sub_twice {s : Sb} {L : List (Tm × Tm)} (h : UI s L) (t : Tm) : subT (bnd s) (subT (bnd s) t) = subT (bnd s) t := ref_sub (ref_refl h.idem (ui_ok h)) t
theorem args_twice {s : Sb} {L : List (Tm × Tm)} (h : UI s L) {t X : Tm} (hX : X = subT (bnd s) t) (hv : X.1.1 = false) : X.2.list.map (subT (bnd s)) = X.2.list := by
  have e : subT (bnd s) X = X := by rw [hX]; exact sub_twice h t
  obtain ⟨⟨xv, xn⟩, k⟩ := X
  simp only at hv
  subst hv
  rw [subT_sym] at e
  simp only [Prod.mk.injEq, true_and] at e
  show k.list.map _ = k.list
  rw [← subF_list, e]
theorem Eqs.args {n : Nat} {s : Sb} {p : Tm × Tm} {L : List (Tm × Tm)} {R : Option Sb} {lt rt : List Tm} {t u X Y : Tm} (hp : UI s (p :: L)) (h : Eqs s L lt rt) (hr : runU n s (p :: L) = some R) (hX : X = subT (bnd s) t) (hY : Y = subT (bnd s) u) (et : subT (bnd s) t = subT (bnd s) p.1) (eu : subT (bnd s) u = subT (bnd s) p.2) (gt : Gd t) (gu : Gd u) (hx : X.1.1 = false) (hy : Y.1.1 = false) :
    (¬ (X.1.2 = Y.1.2 ∧ Fo.len X.2 = Fo.len Y.2) → R = none) ∧ (X.1.2 = Y.1.2 ∧ Fo.len X.2 = Fo.len Y.2 → ∃ m L', m < n ∧ Eqs s L' (X.2.list ++ lt) (Y.2.list ++ rt) ∧ runU m s L' = some R) := by
  have eX : X = subT (bnd s) p.1 := hX.trans et
  have eY : Y = subT (bnd s) p.2 := hY.trans eu
  have := run_sym hp hr (by rw [← eX, hx]; decide) (by rw [← eY, hy]; decide)
  rw [← eX, ← eY] at this
  refine ⟨this.1, fun hc => ?_⟩
  obtain ⟨m, M, h1, h2, h3, h4, h5⟩ := this.2 hc
  have gX : Gd X := by rw [hX]; exact gd_sub hp.gs gt
  have gY : Gd Y := by rw [hY]; exact gd_sub hp.gs gu
  obtain ⟨⟨xv, xn⟩, xk⟩ := X
  obtain ⟨⟨yv, yn⟩, yk⟩ := Y
  refine ⟨m, M ++ L, h1, ⟨h2, ?_, ?_, ?_, ?_⟩, h3⟩
  · rw [List.map_append, List.map_append, h.el, args_twice hp hX hx, h4]
  · rw [List.map_append, List.map_append, h.er, args_twice hp hY hy, h5]
  · intro z hz
    rcases List.mem_append.1 hz with hz | hz
    · exact gd_mem gX hx hz
    · exact h.gl z hz
  · intro z hz
    rcases List.mem_append.1 hz with hz | hz
    · exact gd_mem gY hy hz
    · exact h.gr z hz
theorem Eqs.bind {n : Nat} {s : Sb} {p : Tm × Tm} {L : List (Tm × Tm)} {R : Option Sb} {lt rt : List Tm} {t u X Y U V : Tm} (hp : UI s (p :: L)) (h : Eqs s L lt rt) (hr : runU n s (p :: L) = some R) (hX : X = subT (bnd s) t) (hY : Y = subT (bnd s) u) (et : subT (bnd s) t = subT (bnd s) p.1) (eu : subT (bnd s) u = subT (bnd s) p.2) (hne : X ≠ Y)
    (huv : (U = X ∧ V = Y ∧ U.1.1 = true) ∨ (U = Y ∧ V = X ∧ U.1.1 = true ∧ ¬ V.1.1 = true)) :
    (addS s U.1.2 V = none → R = none) ∧ ∀ s1, addS s U.1.2 V = some s1 → ∃ m, m < n ∧ Eqs s1 L lt rt ∧ runU m s1 L = some R := by
  have eX : X = subT (bnd s) p.1 := hX.trans et
  have eY : Y = subT (bnd s) p.2 := hY.trans eu
  rw [eX, eY] at huv hne
  obtain ⟨h1, h2⟩ := run_var hp hr hne huv
  refine ⟨h1, fun s1 e => ?_⟩
  obtain ⟨m, k1, k2, k3, k4⟩ := h2 s1 e
  have up : ∀ (f : Tm × Tm → Tm) (xs : List Tm), xs.map (subT (bnd s)) = L.map (fun p => subT (bnd s) (f p)) → xs.map (subT (bnd s1)) = L.map (fun p => subT (bnd s1) (f p)) := by
    intro f xs hh
    have e2 := congrArg (List.map (subT (bnd s1))) hh
    simp only [List.map_map] at e2
    have e3 : (subT (bnd s1)) ∘ (subT (bnd s)) = subT (bnd s1) := funext fun z => ref_sub k4 z
    have e4 : (subT (bnd s1)) ∘ (fun p => subT (bnd s) (f p)) = fun p => subT (bnd s1) (f p) := funext fun z => ref_sub k4 (f z)
    rw [e3, e4] at e2
    exact e2
  exact ⟨m, k1, ⟨k2, up Prod.fst lt h.el, up Prod.snd rt h.er, h.gl, h.gr⟩, k3⟩
theorem Eqs.skip {n : Nat} {s : Sb} {p : Tm × Tm} {L : List (Tm × Tm)} {R : Option Sb} {t u X Y : Tm} (hp : UI s (p :: L)) (hr : runU n s (p :: L) = some R) (hX : X = subT (bnd s) t) (hY : Y = subT (bnd s) u) (et : subT (bnd s) t = subT (bnd s) p.1) (eu : subT (bnd s) u = subT (bnd s) p.2) (he : X = Y) : ∃ m, m < n ∧ runU m s L = some R :=
  run_skip n s p L R hp hr (by rw [← et, ← eu, ← hX, ← hY, he])

/-- The first term away. -/
theorem terms_rest {n c b o : Nat} (hn : 1 ≤ n) (hlc : n ≤ c) : ∃ z1 : Option Addr, (∀ w : World, (Instr.slice 33 (.slice (some ⟨b, o, none⟩) n c) (some (.int .i64 1)) none none).run Try.prog w = .ok (.slice z1 (n - 1) (c - 1)) w) ∧ (1 < n → z1 = some ⟨b, o + 3, none⟩) := by
  refine ⟨if c = 1 then some ⟨b, o, none⟩ else some ⟨b, o + 3, none⟩, fun w => ?_, fun h => if_neg (by omega)⟩
  rw [run_slice_l (ht := by kernel_rfl) (h0 := by omega) (h1 := by omega)]
  have e : (sizeOf (Try.prog.elem 33)).run Try.prog w = .ok 3 w := by
    rw [show Try.prog.elem 33 = 35 by kernel_rfl]
    simp [go_sem]
  by_cases hc : c = 1
  · simp [Result.andThen, sliced, e, hc]
  · simp [Result.andThen, sliced, e, hc, Addr.add]
theorem sin_rest {w : World} {t : Tm} {ts : List Tm} {b o c : Nat} {z1 : Option Addr} (h : FIn w (foOf (t :: ts)) b o) (hc : ts.length + 1 ≤ c) (hm : c ≤ maxLen) (hz : 1 < ts.length + 1 → z1 = some ⟨b, o + 3, none⟩) : SIn w (foOf ts) (.slice z1 (ts.length + 1 - 1) (c - 1)) := by
  obtain ⟨_, _, _, h4⟩ := FIn.node h
  exact ⟨z1, c - 1, b, o + 3, by rw [foOf_len]; rfl, fun h => hz (by rw [foOf_len] at h; omega), by rw [foOf_len]; omega, by omega, h4⟩

/-- Two boxes that may be written, laid since wn. -/
def Bxs (wn wx : World) (b d : Nat) (x y z x' y' z' : Value) : Prop := (C3 wx b x y z ∧ C3 wx d x' y' z' ∧ Below wn.heap.size wn wx) ∧ ((∀ i, wx.frozen? ⟨b, i, none⟩ = false) ∧ (∀ i, wx.frozen? ⟨d, i, none⟩ = false)) ∧ wn.heap.size ≤ b ∧ wn.heap.size ≤ d ∧ b ≠ d
theorem Bxs.swap {wn wx : World} {b d : Nat} {x y z x' y' z' : Value} (h : Bxs wn wx b d x y z x' y' z') : Bxs wn wx d b x' y' z' x y z := ⟨swap3 h.1, ⟨h.2.1.2, h.2.1.1⟩, h.2.2.2.1, h.2.2.1, Ne.symm h.2.2.2.2⟩
theorem gin0 {wn W : World} {x y z x' y' z' : Value} (h : Below wn.heap.size wn W) : Bxs wn ((W.alloc (.cells #[x, y, z] 35)).alloc (.cells #[x', y', z'] 35)) W.heap.size (W.heap.size + 1) x y z x' y' z' := by
  have hs := h.size
  refine ⟨fin0 h, ⟨fun i => ?_, fun i => new_frozen (World.size_alloc _ _)⟩, hs, by omega, by omega⟩
  exact ((below_alloc _ _).frozen (p := ⟨W.heap.size, i, none⟩) (by simp)).trans (new_frozen rfl)
theorem gin1 {wn W : World} {b : Nat} {x y z x' y' z' u0 u1 u2 : Value} (h : Below wn.heap.size wn W) (hb : wn.heap.size ≤ b) (h0 : W.cell? ⟨b, 0, none⟩ = some u0) (h1 : W.cell? ⟨b, 1, none⟩ = some u1) (h2 : W.cell? ⟨b, 2, none⟩ = some u2) (hf : ∀ i, W.frozen? ⟨b, i, none⟩ = false) :
    Bxs wn ((((W.setCell ⟨b, 0, none⟩ x).setCell ⟨b, 1, none⟩ y).setCell ⟨b, 2, none⟩ z).alloc (.cells #[x', y', z'] 35)) b W.heap.size x y z x' y' z' := by
  have hs := h.size
  have hbl : b < W.heap.size := World.block_lt_of_cell? _ _ h0
  have hsz : (set3 W b 0 x y z).heap.size = W.heap.size := set3_size
  refine ⟨fin1 h hb h0 h1 h2, ⟨fun i => ?_, fun i => new_frozen hsz⟩, hb, hs, by omega⟩
  have e : (((W.setCell ⟨b, 0, none⟩ x).setCell ⟨b, 1, none⟩ y).setCell ⟨b, 2, none⟩ z) = set3 W b 0 x y z := rfl
  rw [e]
  exact ((below_alloc _ _).frozen (p := ⟨b, i, none⟩) (by rw [hsz]; exact hbl)).trans (set3_frozen.trans (hf i))
theorem gin2 {wn W : World} {b d : Nat} {x y z x' y' z' u0 u1 u2 t0 t1 t2 : Value} (h : Below wn.heap.size wn W) (hb : wn.heap.size ≤ b) (hd : wn.heap.size ≤ d) (hn : b ≠ d) (h0 : W.cell? ⟨b, 0, none⟩ = some u0) (h1 : W.cell? ⟨b, 1, none⟩ = some u1) (h2 : W.cell? ⟨b, 2, none⟩ = some u2) (hf : ∀ i, W.frozen? ⟨b, i, none⟩ = false) (k0 : W.cell? ⟨d, 0, none⟩ = some t0) (k1 : W.cell? ⟨d, 1, none⟩ = some t1) (k2 : W.cell? ⟨d, 2, none⟩ = some t2) (kf : ∀ i, W.frozen? ⟨d, i, none⟩ = false) :
    Bxs wn ((((((W.setCell ⟨b, 0, none⟩ x).setCell ⟨b, 1, none⟩ y).setCell ⟨b, 2, none⟩ z).setCell ⟨d, 0, none⟩ x').setCell ⟨d, 1, none⟩ y').setCell ⟨d, 2, none⟩ z') b d x y z x' y' z' := by
  have e : ((((((W.setCell ⟨b, 0, none⟩ x).setCell ⟨b, 1, none⟩ y).setCell ⟨b, 2, none⟩ z).setCell ⟨d, 0, none⟩ x').setCell ⟨d, 1, none⟩ y').setCell ⟨d, 2, none⟩ z') = set3 (set3 W b 0 x y z) d 0 x' y' z' := rfl
  refine ⟨fin2 h hb hd hn h0 h1 h2 k0 k1 k2, ⟨fun i => ?_, fun i => ?_⟩, hb, hd, hn⟩
  · rw [e, set3_frozen, set3_frozen]; exact hf i
  · rw [e, set3_frozen, set3_frozen]; exact kf i
/-- Terms that lie outside two boxes. -/
def Off (w : World) (b d : Nat) : Nat → Prop := fun q => q < w.heap.size ∧ q ≠ b ∧ q ≠ d
theorem sb_keep {X : Nat → Prop} {w w' : World} {b d : Nat} {k : Fo} {a : Value} (h : SB X w k a) (hr : ∀ q, X q → w'.heap[q]? = w.heap[q]? ∧ q < w.heap.size ∧ q ≠ b ∧ q ≠ d) : SB (Off w' b d) w' k a := by
  refine h.frame (fun q hq => ?_) (fun q i hq => World.cell?_of_block (hr q hq).1)
  obtain ⟨h1, h2, h3, h4⟩ := hr q hq
  refine ⟨?_, h3, h4⟩
  rcases Nat.lt_or_ge q w'.heap.size with h' | h'
  · exact h'
  · rw [Array.getElem?_eq_none h', Array.getElem?_eq_getElem h2] at h1
    cases h1
theorem sb_swapped {w : World} {b d : Nat} {k : Fo} {a x y z x' y' z' : Value} (h : SB (Off w b d) w k a) : SIn (set3 (set3 w b 0 x y z) d 0 x' y' z') k a :=
  (h.kept (fun q hq => by rw [set3_heap hq.2.2, set3_heap hq.2.1])).toS

theorem Side.init (wx : World) : Side wx wx (.slice none 0 0) [] (.slice none 0 0) [] := ⟨Below.refl _ _, Row.nil _ _, Row.nil _ _, fun g h => by simp [Value.ownBlock] at h⟩
theorem Row.drew {lo : Nat} {w : World} {v : Value} {ts : List Tm} (h : Row lo w v ts) : Row lo w.drew v ts := by
  obtain ⟨xs, h1, h2⟩ := h
  have hr : ∀ q i, q < lo → w.drew.cell? ⟨q, i, none⟩ = w.cell? ⟨q, i, none⟩ := fun q i _ => rfl
  exact ⟨xs, h1, h2.frame (fun _ h => h) hr⟩
theorem Side.drew {wx w : World} {va vb : Value} {a b : List Tm} (h : Side wx w va a vb b) : Side wx w.drew va a vb b := ⟨h.below.drew, h.ra.drew, h.rb.drew, h.ap⟩

/-- All blocks but the row's own. -/
def XO (w : World) (v : Value) : Nat → Prop := fun q => q < w.heap.size ∧ some q ≠ v.ownBlock
theorem own_nil (lo : Nat) (w : World) : OwnS lo (XO w (.slice none 0 0)) w [] (.slice none 0 0) [] := ⟨World.ownsRow_nil _ _ _ _, rfl, fun _ h => h⟩
/-- One pair more, whose term was made by a call, or was there. -/
theorem out_next {lo : Nat} {wr w3 w4 : World} {s : Sb} {v : Value} {xs : List Value} {n : Int} {t : Tm} {a : Value} {ob : Obj} {g cap j : Nat} (h : OwnS lo (XO wr v) wr s v xs) (hj : s.length = j) (hb : Below wr.heap.size wr w3) (hlo : lo ≤ wr.heap.size) (hO : SB (fun q => q < lo ∨ (wr.heap.size ≤ q ∧ q < w3.heap.size)) w3 t.2 a)
    (ho : w4.ownsRow lo 47 4 (.slice (some ⟨g, 0, none⟩) (j + 1) cap) (j + 1) (xs ++ [.int .i64 n, .bool t.1.1, .int .i64 t.1.2, a])) (hg : (w3.alloc ob).grownBy w4 v.ownBlock) (hat : v.ownBlock = some g ∨ g = w3.heap.size + 1) (hlt : g < w4.heap.size) :
    OwnS lo (XO w4 (.slice (some ⟨g, 0, none⟩) (j + 1) cap)) w4 (s ++ [(n, t)]) (.slice (some ⟨g, 0, none⟩) (j + 1) cap) (xs ++ [.int .i64 n, .bool t.1.1, .int .i64 t.1.2, a]) ∧ Below lo wr w4 := by
  subst hj
  have hs := hb.size
  have hv : ∀ q, v.ownBlock = some q → lo ≤ q ∧ q < wr.heap.size := fun q hq => owns_at h.row q hq
  have h3 : OwnS lo (XO w3 v) w3 s v xs := (h.below hb).wide (fun q hq => ⟨by have := hq.1; omega, hq.2⟩) (fun _ h => h)
  have hO3 : SB (XO w3 v) w3 t.2 a := hO.wide (fun q hq => by
    refine ⟨by omega, fun e => ?_⟩
    have := hv q e.symm
    omega)
  obtain ⟨h1, h2, _⟩ := own_snoc2 (n := n) (t := t) h3 hO3 ho hg hat hlt
  refine ⟨h1.wide (fun q hq => h1.off q hq) (fun _ h => h), (hb.mono hlo).trans ⟨h2.os, h2.tape, h2.output, h2.size, fun q hq => h2.block q (by omega) (fun e => ?_) (by simp)⟩⟩
  have := hv q e.symm
  omega
/-- Another row behind it. -/
theorem row_more {lo : Nat} {X : Nat → Prop} {w w' : World} {s s' : Sb} {v v' : Value} {xs news : List Value} (h : OwnS lo X w s v xs) (hn : PC X w s' news) (ho : w'.ownsRow lo 47 4 v' (s.length + s'.length) (xs ++ news)) (hg : w.grownBy w' v.ownBlock) : SubIn w' (s ++ s') v' := by
  have hr : ∀ q i, X q → w'.cell? ⟨q, i, none⟩ = w.cell? ⟨q, i, none⟩ := fun q i hq => World.cell?_of_block (hg.block q (h.off q hq).1 (h.off q hq).2)
  exact row_sub (X := X) (xs := xs ++ news) (by simpa using ho) (PC.append (hn.frame (fun _ hq => hq) hr) (h.cells.frame (fun _ hq => hq) hr))
theorem take_more {f : Int × Tm → Int × Tm} {s : Sb} {j : Nat} {p : Int × Tm} (h : s[j]? = some p) : (s.take (j + 1)).map f = (s.take j).map f ++ [f p] := by
  rw [List.take_add_one, h]
  simp

end Go.Proofs.Ytfnkjadfepoicac

/- Clauses that lie in memory, and rows of literals of the call's own. -/
namespace Go.Proofs.Ytfnkjadfepoicac
open Go.RowKit Go.Deep Go.ChangeShapes Go.WideShapes

theorem Try.info37 : (Try.prog.info? 37).map (fun i => (i.zero, i.size, i.bytes)) = some (some (.agg #[.bool false, .bool false, .int .i64 0, .slice none 0 0, .bool false, .int .i64 0, .slice none 0 0]), 7, 88) := by kernel_rfl

/-- The literals lie in w, the first one at (b, o), seven cells each. -/
def LIn (w : World) : Cl → Nat → Nat → Prop
  | [], _, _ => True
  | l :: c, b, o => (w.cell? ⟨b, o, none⟩ = some (.bool l.1) ∧ w.cell? ⟨b, o + 1, none⟩ = some (.bool l.2.1.1.1) ∧ w.cell? ⟨b, o + 2, none⟩ = some (.int .i64 l.2.1.1.2) ∧ (∃ v, w.cell? ⟨b, o + 3, none⟩ = some v ∧ SIn w l.2.1.2 v) ∧
      w.cell? ⟨b, o + 4, none⟩ = some (.bool l.2.2.1.1) ∧ w.cell? ⟨b, o + 5, none⟩ = some (.int .i64 l.2.2.1.2) ∧ ∃ v, w.cell? ⟨b, o + 6, none⟩ = some v ∧ SIn w l.2.2.2 v) ∧ LIn w c b (o + 7)
def CIn (w : World) (c : Cl) (v : Value) : Prop :=
  ∃ (a : Option Addr) (k b o : Nat), v = .slice a c.length k ∧ (0 < c.length → a = some ⟨b, o, none⟩) ∧ c.length ≤ k ∧ k ≤ maxLen ∧ LIn w c b o

theorem LIn.later {w w' : World} (hc : ∀ a v, w.cell? a = some v → w'.cell? a = some v) : ∀ {c : Cl} {b o : Nat}, LIn w c b o → LIn w' c b o
  | [], _, _, _ => trivial
  | _ :: _, _, _, ⟨⟨h0, h1, h2, ⟨v, h3, h4⟩, h5, h6, u, h7, h8⟩, h9⟩ => ⟨⟨hc _ _ h0, hc _ _ h1, hc _ _ h2, ⟨v, hc _ _ h3, h4.later hc⟩, hc _ _ h5, hc _ _ h6, u, hc _ _ h7, h8.later hc⟩, LIn.later hc h9⟩
theorem CIn.later {w w' : World} (hc : ∀ a v, w.cell? a = some v → w'.cell? a = some v) {c : Cl} {v : Value} (h : CIn w c v) : CIn w' c v := by
  obtain ⟨a, k, b, o, h1, h2, h3, h4, h5⟩ := h
  exact ⟨a, k, b, o, h1, h2, h3, h4, h5.later hc⟩
theorem LIn.below {w w' : World} (hb : Below w.heap.size w w') {c : Cl} {b o : Nat} (h : LIn w c b o) : LIn w' c b o := h.later (grow_cell hb)
theorem CIn.below {w w' : World} (hb : Below w.heap.size w w') {c : Cl} {v : Value} (h : CIn w c v) : CIn w' c v := h.later (grow_cell hb)
theorem CIn.alloc {w : World} {c : Cl} {v : Value} (h : CIn w c v) (ob : Obj) : CIn (w.alloc ob) c v := h.below (below_alloc w ob)
theorem CIn.drew {w : World} {c : Cl} {v : Value} (h : CIn w c v) : CIn w.drew c v := h.below (Below.refl _ _).drew
theorem CIn.nil (w : World) : CIn w [] (.slice none 0 0) := ⟨none, 0, 0, 0, rfl, fun h => by simp at h, Nat.le_refl _, Nat.zero_le _, trivial⟩
theorem slice_of_cl {w : World} {c : Cl} {v : Value} (h : CIn w c v) : ∃ z1 z3, v = .slice z1 c.length z3 := by
  obtain ⟨a, k, _, _, rfl, _⟩ := h
  exact ⟨a, k, rfl⟩
theorem LIn.at {w : World} : ∀ {c : Cl} {b o i : Nat} {l : Lt}, LIn w c b o → c[i]? = some l →
    w.cell? ⟨b, o + i * 7, none⟩ = some (.bool l.1) ∧ w.cell? ⟨b, o + i * 7 + 1, none⟩ = some (.bool l.2.1.1.1) ∧ w.cell? ⟨b, o + i * 7 + 2, none⟩ = some (.int .i64 l.2.1.1.2) ∧ (∃ v, w.cell? ⟨b, o + i * 7 + 3, none⟩ = some v ∧ SIn w l.2.1.2 v) ∧
      w.cell? ⟨b, o + i * 7 + 4, none⟩ = some (.bool l.2.2.1.1) ∧ w.cell? ⟨b, o + i * 7 + 5, none⟩ = some (.int .i64 l.2.2.1.2) ∧ ∃ v, w.cell? ⟨b, o + i * 7 + 6, none⟩ = some v ∧ SIn w l.2.2.2 v
  | [], _, _, _, _, _, h => by simp at h
  | q :: s, b, o, 0, l, hP, h => by
    simp only [List.getElem?_cons_zero, Option.some.injEq] at h
    subst h
    simpa using hP.1
  | q :: s, b, o, i + 1, l, hP, h => by
    have := LIn.at hP.2 (i := i) (by simpa using h)
    have e : o + 7 + i * 7 = o + (i + 1) * 7 := by omega
    rwa [e] at this

/-- The cells of literals, seven each. -/
def LC (X : Nat → Prop) (w : World) : Cl → List Value → Prop
  | [], xs => xs = []
  | l :: c, xs => ∃ a d ys, xs = .bool l.1 :: .bool l.2.1.1.1 :: .int .i64 l.2.1.1.2 :: a :: .bool l.2.2.1.1 :: .int .i64 l.2.2.1.2 :: d :: ys ∧ SB X w l.2.1.2 a ∧ SB X w l.2.2.2 d ∧ LC X w c ys
theorem LC.frame {X Y : Nat → Prop} {w w' : World} (hXY : ∀ q, X q → Y q) (hr : ∀ q i, X q → w'.cell? ⟨q, i, none⟩ = w.cell? ⟨q, i, none⟩) : ∀ {s : Cl} {xs : List Value}, LC X w s xs → LC Y w' s xs
  | [], _, h => h
  | _ :: _, _, ⟨a, d, ys, h1, h2, h3, h4⟩ => ⟨a, d, ys, h1, h2.frame hXY hr, h3.frame hXY hr, LC.frame hXY hr h4⟩
theorem LC.append {X : Nat → Prop} {w : World} {s' : Cl} {ys : List Value} (h' : LC X w s' ys) : ∀ {s : Cl} {xs : List Value}, LC X w s xs → LC X w (s ++ s') (xs ++ ys)
  | [], _, h => by rw [LC] at h; subst h; exact h'
  | _ :: _, _, ⟨a, d, zs, h1, h2, h3, h4⟩ => by subst h1; exact ⟨a, d, zs ++ ys, rfl, h2, h3, LC.append h' h4⟩
abbrev litV (l : Lt) (a d : Value) : List Value := [.bool l.1, .bool l.2.1.1.1, .int .i64 l.2.1.1.2, a, .bool l.2.2.1.1, .int .i64 l.2.2.1.2, d]
theorem LC.one {X : Nat → Prop} {w : World} {l : Lt} {a d : Value} (h : SB X w l.2.1.2 a) (h' : SB X w l.2.2.2 d) : LC X w [l] (litV l a d) := ⟨a, d, [], rfl, h, h', rfl⟩
theorem LC.len {X : Nat → Prop} {w : World} : ∀ {s : Cl} {xs : List Value}, LC X w s xs → xs.length = s.length * 7
  | [], _, h => by rw [LC] at h; subst h; rfl
  | _ :: _, _, ⟨a, d, ys, h1, _, _, h3⟩ => by subst h1; simp only [List.length_cons, h3.len]; omega
theorem LC.onecell {X : Nat → Prop} {w : World} : ∀ {s : Cl} {xs : List Value}, LC X w s xs → ∀ u ∈ xs, u.oneCell' = true
  | [], _, h, u, hu => by rw [LC] at h; subst h; simp at hu
  | _ :: _, _, ⟨a, d, ys, h1, h2, h2', h3⟩, u, hu => by
    subst h1
    obtain ⟨_, _, _, _, rfl, _⟩ := h2
    obtain ⟨_, _, _, _, rfl, _⟩ := h2'
    simp only [List.mem_cons] at hu
    rcases hu with rfl | rfl | rfl | rfl | rfl | rfl | rfl | hu <;> first | rfl | exact h3.onecell u hu
theorem LC.at {X : Nat → Prop} {w : World} {g : Nat} : ∀ {s : Cl} {xs : List Value} {o : Nat}, LC X w s xs → (∀ j, j < xs.length → w.cell? ⟨g, o + j, none⟩ = xs[j]?) → LIn w s g o
  | [], _, _, _, _ => trivial
  | p :: s, _, o, ⟨a, d, ys, h1, h2, h2', h3⟩, hc => by
    subst h1
    have c0 := hc 0 (by simp)
    have c1 := hc 1 (by simp)
    have c2 := hc 2 (by simp)
    have c3 := hc 3 (by simp)
    have c4 := hc 4 (by simp)
    have c5 := hc 5 (by simp)
    have c6 := hc 6 (by simp)
    refine ⟨⟨by simpa using c0, by simpa using c1, by simpa using c2, ⟨a, by simpa using c3, h2.toS⟩, by simpa using c4, by simpa using c5, d, by simpa using c6, h2'.toS⟩, ?_⟩
    refine LC.at h3 (fun j hj => ?_)
    have := hc (j + 7) (by simp; omega)
    rw [show o + 7 + j = o + (j + 7) by omega, this]
    simp
/-- A row that holds the cells of literals is those literals. -/
theorem row_cl {X : Nat → Prop} {w : World} {lo : Nat} {v : Value} {s : Cl} {xs : List Value} (h : w.ownsRow lo 37 7 v s.length xs) (hc : LC X w s xs) : CIn w s v := by
  have hcells := fun g hg => h.cells (g := g) hg
  rcases h.2 with ⟨rfl, h0⟩ | ⟨g, cap, cur, rfl, hl, hh, hn, hm, hs, ht⟩
  · have : s = [] := List.length_eq_zero_iff.1 h0
    subst this
    exact CIn.nil w
  · refine ⟨_, cap, g, 0, rfl, fun _ => rfl, hn, hm, hc.at (fun j hj => ?_)⟩
    have := hcells g rfl j (xs[j]'hj) (List.getElem?_eq_getElem hj)
    rw [List.getElem?_eq_getElem hj]
    rw [add_plain] at this
    exact this

/-- The literals s are a row of the call's own. -/
structure OwnL (lo : Nat) (X : Nat → Prop) (w : World) (s : Cl) (v : Value) (xs : List Value) : Prop where
  row : w.ownsRow lo 37 7 v s.length xs
  cells : LC X w s xs
  off : ∀ q, X q → q < w.heap.size ∧ some q ≠ v.ownBlock
theorem OwnL.cl {lo : Nat} {X : Nat → Prop} {w : World} {s : Cl} {v : Value} {xs : List Value} (h : OwnL lo X w s v xs) : CIn w s v := row_cl h.row h.cells
theorem OwnL.slice {lo : Nat} {X : Nat → Prop} {w : World} {s : Cl} {v : Value} {xs : List Value} (h : OwnL lo X w s v xs) : ∃ z1 z3, v = .slice z1 s.length z3 := slice_of_cl h.cl
theorem OwnL.below {lo : Nat} {X : Nat → Prop} {w w' : World} {s : Cl} {v : Value} {xs : List Value} (h : OwnL lo X w s v xs) (hb : Below w.heap.size w w') : OwnL lo X w' s v xs :=
  ⟨owns_keep h.row (fun g hg => hb.block g (owns_at h.row g hg).2), h.cells.frame (fun _ hq => hq) (fun q _ hq => World.cell?_of_block (hb.block q (h.off q hq).1)), fun q hq => ⟨Nat.lt_of_lt_of_le (h.off q hq).1 hb.size, (h.off q hq).2⟩⟩
theorem OwnL.wide {lo : Nat} {X Y : Nat → Prop} {w : World} {s : Cl} {v : Value} {xs : List Value} (h : OwnL lo X w s v xs) (hXY : ∀ q, X q → Y q) (hY : ∀ q, Y q → q < w.heap.size ∧ some q ≠ v.ownBlock) : OwnL lo Y w s v xs :=
  ⟨h.row, h.cells.frame hXY (fun _ _ _ => rfl), hY⟩
theorem ownL_nil (lo : Nat) (w : World) : OwnL lo (XO w (.slice none 0 0)) w [] (.slice none 0 0) [] := ⟨World.ownsRow_nil _ _ _ _, rfl, fun _ h => h⟩
/-- One literal more, laid behind the others by append; its terms lie off the row. -/
theorem ownL_next {lo : Nat} {wr w3 w4 : World} {s : Cl} {v : Value} {xs : List Value} {l : Lt} {a d : Value} {g cap j : Nat} (h : OwnL lo (XO wr v) wr s v xs) (hj : s.length = j) (hb : Below wr.heap.size wr w3) (hlo : lo ≤ wr.heap.size)
    (hA : SB (fun q => q < lo ∨ (wr.heap.size ≤ q ∧ q < w3.heap.size)) w3 l.2.1.2 a) (hD : SB (fun q => q < lo ∨ (wr.heap.size ≤ q ∧ q < w3.heap.size)) w3 l.2.2.2 d)
    (ho : w4.ownsRow lo 37 7 (.slice (some ⟨g, 0, none⟩) (j + 1) cap) (j + 1) (xs ++ litV l a d)) (hg : w3.grownBy w4 v.ownBlock) (hat : v.ownBlock = some g ∨ g = w3.heap.size) (hlt : g < w4.heap.size) :
    OwnL lo (XO w4 (.slice (some ⟨g, 0, none⟩) (j + 1) cap)) w4 (s ++ [l]) (.slice (some ⟨g, 0, none⟩) (j + 1) cap) (xs ++ litV l a d) ∧ Below lo wr w4 := by
  subst hj
  have hs := hb.size
  have hs4 := hg.size
  have hv : ∀ q, v.ownBlock = some q → lo ≤ q ∧ q < wr.heap.size := fun q hq => owns_at h.row q hq
  have far : ∀ q, q < w3.heap.size → some q ≠ v.ownBlock → w4.heap[q]? = w3.heap[q]? := fun q hq hn => hg.block q hq hn
  have noq : ∀ q, q < w3.heap.size → some q ≠ v.ownBlock → q < w4.heap.size ∧ some q ≠ (Value.slice (some ⟨g, 0, none⟩) (s.length + 1) cap).ownBlock := fun q hq hn => by
    refine ⟨by omega, fun e => ?_⟩
    simp [Value.ownBlock] at e
    subst e
    rcases hat with e | e
    · exact hn e.symm
    · omega
  have ok : ∀ q, (q < lo ∨ (wr.heap.size ≤ q ∧ q < w3.heap.size)) → q < w3.heap.size ∧ some q ≠ v.ownBlock := fun q hq => by
    refine ⟨by omega, fun e => ?_⟩
    have := hv q e.symm
    omega
  refine ⟨⟨by simpa using ho, ?_, fun q hq => hq⟩, ⟨hg.os.trans hb.os, hg.tape.trans hb.tape, hg.output.trans hb.output, by omega, fun q hq => ?_⟩⟩
  · refine LC.append (LC.one ?_ ?_) ?_
    · exact hA.frame (fun q hq => noq q (ok q hq).1 (ok q hq).2) (fun q i hq => World.cell?_of_block (far q (ok q hq).1 (ok q hq).2))
    · exact hD.frame (fun q hq => noq q (ok q hq).1 (ok q hq).2) (fun q i hq => World.cell?_of_block (far q (ok q hq).1 (ok q hq).2))
    · refine h.cells.frame (fun q hq => noq q (by have := hq.1; omega) hq.2) (fun q i hq => World.cell?_of_block ?_)
      rw [far q (by have := hq.1; omega) hq.2, hb.block q hq.1]
  · have hn : some q ≠ v.ownBlock := fun e => by have := hv q e.symm; omega
    rw [far q (by omega) hn, hb.block q (by omega)]
/-- The cells of literals that lie in memory. -/
theorem lin_cells {w : World} {b : Nat} : ∀ {s : Cl} {o : Nat}, LIn w s b o → ∃ news : List Value, news.length = s.length * 7 ∧ LC (fun q => q < w.heap.size) w s news ∧ ∀ j u, news[j]? = some u → w.cell? ⟨b, o + j, none⟩ = some u
  | [], _, _ => ⟨[], rfl, rfl, fun j u h => by simp at h⟩
  | p :: s, o, ⟨⟨h0, h1, h2, ⟨v, h3, h4⟩, h5, h6, u', h7, h8⟩, h9⟩ => by
    obtain ⟨news, hl, hP, hc⟩ := lin_cells h9
    refine ⟨.bool p.1 :: .bool p.2.1.1.1 :: .int .i64 p.2.1.1.2 :: v :: .bool p.2.2.1.1 :: .int .i64 p.2.2.1.2 :: u' :: news, by simp only [List.length_cons, hl]; omega, ⟨v, u', news, rfl, h4.toB, h8.toB, hP⟩, fun j u hj => ?_⟩
    match j, hj with
    | 0, hj => simp at hj; subst hj; simpa using h0
    | 1, hj => simp at hj; subst hj; simpa using h1
    | 2, hj => simp at hj; subst hj; simpa using h2
    | 3, hj => simp at hj; subst hj; simpa using h3
    | 4, hj => simp at hj; subst hj; simpa using h5
    | 5, hj => simp at hj; subst hj; simpa using h6
    | 6, hj => simp at hj; subst hj; simpa using h7
    | j + 7, hj =>
      have := hc j u (by simpa using hj)
      rw [show o + (j + 7) = o + 7 + j by omega]
      exact this

end Go.Proofs.Ytfnkjadfepoicac

/- The same literals, the same clauses; what is wrong with one. -/
namespace Go.Proofs.Ytfnkjadfepoicac
open Go.RowKit Go.Deep Go.ChangeShapes Go.WideShapes

abbrev litA (l : Lt) (a d : Value) : Value := .agg #[.bool l.1, .bool l.2.1.1.1, .int .i64 l.2.1.1.2, a, .bool l.2.2.1.1, .int .i64 l.2.2.1.2, d]

/-- Literals that were boxed, later: their cells. -/
theorem lit_cells {w wr : World} {x0 x1 x2 x3 x4 x5 x6 : Value} {T : TypeId} (h : Below (w.alloc (.cells #[x0, x1, x2, x3, x4, x5, x6] T)).heap.size (w.alloc (.cells #[x0, x1, x2, x3, x4, x5, x6] T)) wr) :
    wr.cell? ⟨w.heap.size, 0, none⟩ = some x0 ∧ wr.cell? ⟨w.heap.size, 1, none⟩ = some x1 ∧ wr.cell? ⟨w.heap.size, 2, none⟩ = some x2 ∧ wr.cell? ⟨w.heap.size, 3, none⟩ = some x3 ∧ wr.cell? ⟨w.heap.size, 4, none⟩ = some x4 ∧ wr.cell? ⟨w.heap.size, 5, none⟩ = some x5 ∧ wr.cell? ⟨w.heap.size, 6, none⟩ = some x6 ∧ (∀ i, wr.frozen? ⟨w.heap.size, i, none⟩ = false) ∧ Below w.heap.size w wr ∧ w.heap.size < wr.heap.size := by
  refine ⟨?_, ?_, ?_, ?_, ?_, ?_, ?_, fun i => ?_, (below_alloc w _).trans (h.mono (by simp)), by have := h.size; simp at this; omega⟩
  all_goals first | (rw [h.cell (by simp)]; simp; done) | exact (h.frozen (p := ⟨w.heap.size, i, none⟩) (by simp)).trans (new_frozen rfl)

end Go.Proofs.Ytfnkjadfepoicac
