/- RSolQ CIn CS Cnt Often Cmp -/
import Derived.Test.YtfckelbdageenabGreatDoorG10
import Derived.Maps.OwnOps
import Derived.Maps.RangeWalk
namespace Go.Proofs.YtfckelbdageenabGreatDoor
open Go.RowKit Go.Deep Go.ChangeShapes Go.WideShapes

/-- Equations ls = rs are, by the bindings s, those of L. -/
structure Eqs (s : Sb) (L : List (Tm × Tm)) (ls rs : List Tm) : Prop where
  ui : UI s L
  el : ls.map (subT (bnd s)) = L.map fun p => subT (bnd s) p.1
  er : rs.map (subT (bnd s)) = L.map fun p => subT (bnd s) p.2
  gl : ∀ t ∈ ls, Gd t
  gr : ∀ t ∈ rs, Gd t

theorem Eqs.nil {s : Sb} {ls rs : List Tm} (h : Eqs s [] ls rs) : ls = [] ∧ rs = [] := ⟨by simpa using h.el, by simpa using h.er⟩
theorem Eqs.len {s : Sb} {L : List (Tm × Tm)} {ls rs : List Tm} (h : Eqs s L ls rs) : ls.length = L.length ∧ rs.length = L.length :=
  ⟨by simpa using congrArg List.length h.el, by simpa using congrArg List.length h.er⟩
theorem Eqs.cons {s : Sb} {p : Tm × Tm} {L : List (Tm × Tm)} {ls rs : List Tm} (h : Eqs s (p :: L) ls rs) :
    ∃ t lt u rt, ls = t :: lt ∧ rs = u :: rt ∧ Eqs s L lt rt ∧ subT (bnd s) t = subT (bnd s) p.1 ∧ subT (bnd s) u = subT (bnd s) p.2 ∧ Gd t ∧ Gd u := by
  obtain ⟨h0, h1, h2, h3, h4⟩ := h
  cases ls with
  | nil => simp at h1
  | cons t lt =>
    cases rs with
    | nil => simp at h2
    | cons u rt =>
      simp only [List.map_cons, List.cons.injEq] at h1 h2
      exact ⟨t, lt, u, rt, rfl, rfl, ⟨ui_tail h0, h1.2, h2.2, fun z hz => h3 z (by simp [hz]), fun z hz => h4 z (by simp [hz])⟩, h1.1, h2.1, h3 t (by simp), h4 u (by simp)⟩
/-- What was bound stays as it is. -/
theorem sub_twice {s : Sb} {L : List (Tm × Tm)} (h : UI s L) (t : Tm) : subT (bnd s) (subT (bnd s) t) = subT (bnd s) t := ref_sub (ref_refl h.idem (ui_ok h)) t
theorem args_twice {s : Sb} {L : List (Tm × Tm)} (h : UI s L) {t X : Tm} (hX : X = subT (bnd s) t) (hv : X.1.1 = false) : X.2.list.map (subT (bnd s)) = X.2.list := by
  have e : subT (bnd s) X = X := by rw [hX]; exact sub_twice h t
  obtain ⟨⟨xv, xn⟩, k⟩ := X
  simp only at hv
  subst hv
  rw [subT_sym] at e
  simp only [Prod.mk.injEq, true_and] at e
  show k.list.map _ = k.list
  rw [← subF_list, e]
theorem Eqs.args {n : Nat} {s : Sb} {p : Tm × Tm} {L : List (Tm × Tm)} {R : Option Sb} {lt rt : List Tm} {t u X Y : Tm} (hp : UI s (p :: L)) (h : Eqs s L lt rt) (hr : runU n s (p :: L) = some R) (hX : X = subT (bnd s) t) (hY : Y = subT (bnd s) u) (et : subT (bnd s) t = subT (bnd s) p.1) (eu : subT (bnd s) u = subT (bnd s) p.2) (gt : Gd t) (gu : Gd u) (hx : X.1.1 = false) (hy : Y.1.1 = false) :
    (¬ (X.1.2 = Y.1.2 ∧ Fo.len X.2 = Fo.len Y.2) → R = none) ∧ (X.1.2 = Y.1.2 ∧ Fo.len X.2 = Fo.len Y.2 → ∃ m L', m < n ∧ Eqs s L' (X.2.list ++ lt) (Y.2.list ++ rt) ∧ runU m s L' = some R) := by
  have eX : X = subT (bnd s) p.1 := hX.trans et
  have eY : Y = subT (bnd s) p.2 := hY.trans eu
  have := run_sym hp hr (by rw [← eX, hx]; decide) (by rw [← eY, hy]; decide)
  rw [← eX, ← eY] at this
  refine ⟨this.1, fun hc => ?_⟩
  obtain ⟨m, M, h1, h2, h3, h4, h5⟩ := this.2 hc
  have gX : Gd X := by rw [hX]; exact gd_sub hp.gs gt
  have gY : Gd Y := by rw [hY]; exact gd_sub hp.gs gu
  obtain ⟨⟨xv, xn⟩, xk⟩ := X
  obtain ⟨⟨yv, yn⟩, yk⟩ := Y
  refine ⟨m, M ++ L, h1, ⟨h2, ?_, ?_, ?_, ?_⟩, h3⟩
  · rw [List.map_append, List.map_append, h.el, args_twice hp hX hx, h4]
  · rw [List.map_append, List.map_append, h.er, args_twice hp hY hy, h5]
  · intro z hz
    rcases List.mem_append.1 hz with hz | hz
    · exact gd_mem gX hx hz
    · exact h.gl z hz
  · intro z hz
    rcases List.mem_append.1 hz with hz | hz
    · exact gd_mem gY hy hz
    · exact h.gr z hz
theorem Eqs.bind {n : Nat} {s : Sb} {p : Tm × Tm} {L : List (Tm × Tm)} {R : Option Sb} {lt rt : List Tm} {t u X Y U V : Tm} (hp : UI s (p :: L)) (h : Eqs s L lt rt) (hr : runU n s (p :: L) = some R) (hX : X = subT (bnd s) t) (hY : Y = subT (bnd s) u) (et : subT (bnd s) t = subT (bnd s) p.1) (eu : subT (bnd s) u = subT (bnd s) p.2) (hne : X ≠ Y)
    (huv : (U = X ∧ V = Y ∧ U.1.1 = true) ∨ (U = Y ∧ V = X ∧ U.1.1 = true ∧ ¬ V.1.1 = true)) :
    (addS s U.1.2 V = none → R = none) ∧ ∀ s1, addS s U.1.2 V = some s1 → ∃ m, m < n ∧ Eqs s1 L lt rt ∧ runU m s1 L = some R := by
  have eX : X = subT (bnd s) p.1 := hX.trans et
  have eY : Y = subT (bnd s) p.2 := hY.trans eu
  rw [eX, eY] at huv hne
  obtain ⟨h1, h2⟩ := run_var hp hr hne huv
  refine ⟨h1, fun s1 e => ?_⟩
  obtain ⟨m, k1, k2, k3, k4⟩ := h2 s1 e
  have up : ∀ (f : Tm × Tm → Tm) (xs : List Tm), xs.map (subT (bnd s)) = L.map (fun p => subT (bnd s) (f p)) → xs.map (subT (bnd s1)) = L.map (fun p => subT (bnd s1) (f p)) := by
    intro f xs hh
    have e2 := congrArg (List.map (subT (bnd s1))) hh
    simp only [List.map_map] at e2
    have e3 : (subT (bnd s1)) ∘ (subT (bnd s)) = subT (bnd s1) := funext fun z => ref_sub k4 z
    have e4 : (subT (bnd s1)) ∘ (fun p => subT (bnd s) (f p)) = fun p => subT (bnd s1) (f p) := funext fun z => ref_sub k4 (f z)
    rw [e3, e4] at e2
    exact e2
  exact ⟨m, k1, ⟨k2, up Prod.fst lt h.el, up Prod.snd rt h.er, h.gl, h.gr⟩, k3⟩
theorem Row.drew {lo : Nat} {w : World} {v : Value} {ts : List Tm} (h : Row lo w v ts) : Row lo w.drew v ts := by
  obtain ⟨xs, h1, h2⟩ := h
  have hr : ∀ q i, q < lo → w.drew.cell? ⟨q, i, none⟩ = w.cell? ⟨q, i, none⟩ := fun q i _ => rfl
  exact ⟨xs, h1, h2.frame (fun _ h => h) hr⟩
theorem Side.drew {wx w : World} {va vb : Value} {a b : List Tm} (h : Side wx w va a vb b) : Side wx w.drew va a vb b := ⟨h.below.drew, h.ra.drew, h.rb.drew, h.ap⟩

/-- All blocks but the row's own. -/
def XO (w : World) (v : Value) : Nat → Prop := fun q => q < w.heap.size ∧ some q ≠ v.ownBlock
end Go.Proofs.YtfckelbdageenabGreatDoor

namespace Go.Proofs.YtfckelbdageenabGreatDoor
open Go.RowKit Go.Deep Go.ChangeShapes Go.WideShapes

theorem Tryz.info44 : (Tryz.prog.info? 44).map (fun i => (i.zero, i.size, i.bytes)) = some (some (.agg #[.bool false, .bool false, .int .i64 0, .slice none 0 0, .bool false, .int .i64 0, .slice none 0 0]), 7, 88) := by kernel_rfl

/-- The literals lie in w, the first one at (b, o), seven cells each. -/
def LIn (w : World) : Cl → Nat → Nat → Prop
  | [], _, _ => True
  | l :: c, b, o => (w.cell? ⟨b, o, none⟩ = some (.bool l.1) ∧ w.cell? ⟨b, o + 1, none⟩ = some (.bool l.2.1.1.1) ∧ w.cell? ⟨b, o + 2, none⟩ = some (.int .i64 l.2.1.1.2) ∧ (∃ v, w.cell? ⟨b, o + 3, none⟩ = some v ∧ SIn w l.2.1.2 v) ∧
      w.cell? ⟨b, o + 4, none⟩ = some (.bool l.2.2.1.1) ∧ w.cell? ⟨b, o + 5, none⟩ = some (.int .i64 l.2.2.1.2) ∧ ∃ v, w.cell? ⟨b, o + 6, none⟩ = some v ∧ SIn w l.2.2.2 v) ∧ LIn w c b (o + 7)
def CIn (w : World) (c : Cl) (v : Value) : Prop :=
  ∃ (a : Option Addr) (k b o : Nat), v = .slice a c.length k ∧ (0 < c.length → a = some ⟨b, o, none⟩) ∧ c.length ≤ k ∧ k ≤ maxLen ∧ LIn w c b o

theorem LIn.later {w w' : World} (hc : ∀ a v, w.cell? a = some v → w'.cell? a = some v) : ∀ {c : Cl} {b o : Nat}, LIn w c b o → LIn w' c b o
  | [], _, _, _ => trivial
  | _ :: _, _, _, ⟨⟨h0, h1, h2, ⟨v, h3, h4⟩, h5, h6, u, h7, h8⟩, h9⟩ => ⟨⟨hc _ _ h0, hc _ _ h1, hc _ _ h2, ⟨v, hc _ _ h3, h4.later hc⟩, hc _ _ h5, hc _ _ h6, u, hc _ _ h7, h8.later hc⟩, LIn.later hc h9⟩
theorem CIn.later {w w' : World} (hc : ∀ a v, w.cell? a = some v → w'.cell? a = some v) {c : Cl} {v : Value} (h : CIn w c v) : CIn w' c v := by
  obtain ⟨a, k, b, o, h1, h2, h3, h4, h5⟩ := h
  exact ⟨a, k, b, o, h1, h2, h3, h4, h5.later hc⟩
theorem LIn.below {w w' : World} (hb : Below w.heap.size w w') {c : Cl} {b o : Nat} (h : LIn w c b o) : LIn w' c b o := h.later (grow_cell hb)
theorem CIn.below {w w' : World} (hb : Below w.heap.size w w') {c : Cl} {v : Value} (h : CIn w c v) : CIn w' c v := h.later (grow_cell hb)
theorem CIn.alloc {w : World} {c : Cl} {v : Value} (h : CIn w c v) (ob : Obj) : CIn (w.alloc ob) c v := h.below (below_alloc w ob)
theorem CIn.drew {w : World} {c : Cl} {v : Value} (h : CIn w c v) : CIn w.drew c v := h.below (Below.refl _ _).drew
theorem CIn.nil (w : World) : CIn w [] (.slice none 0 0) := ⟨none, 0, 0, 0, rfl, fun h => by simp at h, Nat.le_refl _, Nat.zero_le _, trivial⟩
theorem slice_of_cl {w : World} {c : Cl} {v : Value} (h : CIn w c v) : ∃ z1 z3, v = .slice z1 c.length z3 := by
  obtain ⟨a, k, _, _, rfl, _⟩ := h
  exact ⟨a, k, rfl⟩
theorem LIn.at {w : World} : ∀ {c : Cl} {b o i : Nat} {l : Lt}, LIn w c b o → c[i]? = some l →
    w.cell? ⟨b, o + i * 7, none⟩ = some (.bool l.1) ∧ w.cell? ⟨b, o + i * 7 + 1, none⟩ = some (.bool l.2.1.1.1) ∧ w.cell? ⟨b, o + i * 7 + 2, none⟩ = some (.int .i64 l.2.1.1.2) ∧ (∃ v, w.cell? ⟨b, o + i * 7 + 3, none⟩ = some v ∧ SIn w l.2.1.2 v) ∧
      w.cell? ⟨b, o + i * 7 + 4, none⟩ = some (.bool l.2.2.1.1) ∧ w.cell? ⟨b, o + i * 7 + 5, none⟩ = some (.int .i64 l.2.2.1.2) ∧ ∃ v, w.cell? ⟨b, o + i * 7 + 6, none⟩ = some v ∧ SIn w l.2.2.2 v
  | [], _, _, _, _, _, h => by simp at h
  | q :: s, b, o, 0, l, hP, h => by
    simp only [List.getElem?_cons_zero, Option.some.injEq] at h
    subst h
    simpa using hP.1
  | q :: s, b, o, i + 1, l, hP, h => by
    have := LIn.at hP.2 (i := i) (by simpa using h)
    have e : o + 7 + i * 7 = o + (i + 1) * 7 := by omega
    rwa [e] at this

/-- The cells of literals, seven each. -/
def LC (X : Nat → Prop) (w : World) : Cl → List Value → Prop
  | [], xs => xs = []
  | l :: c, xs => ∃ a d ys, xs = .bool l.1 :: .bool l.2.1.1.1 :: .int .i64 l.2.1.1.2 :: a :: .bool l.2.2.1.1 :: .int .i64 l.2.2.1.2 :: d :: ys ∧ SB X w l.2.1.2 a ∧ SB X w l.2.2.2 d ∧ LC X w c ys
theorem LC.frame {X Y : Nat → Prop} {w w' : World} (hXY : ∀ q, X q → Y q) (hr : ∀ q i, X q → w'.cell? ⟨q, i, none⟩ = w.cell? ⟨q, i, none⟩) : ∀ {s : Cl} {xs : List Value}, LC X w s xs → LC Y w' s xs
  | [], _, h => h
  | _ :: _, _, ⟨a, d, ys, h1, h2, h3, h4⟩ => ⟨a, d, ys, h1, h2.frame hXY hr, h3.frame hXY hr, LC.frame hXY hr h4⟩
theorem LC.append {X : Nat → Prop} {w : World} {s' : Cl} {ys : List Value} (h' : LC X w s' ys) : ∀ {s : Cl} {xs : List Value}, LC X w s xs → LC X w (s ++ s') (xs ++ ys)
  | [], _, h => by rw [LC] at h; subst h; exact h'
  | _ :: _, _, ⟨a, d, zs, h1, h2, h3, h4⟩ => by subst h1; exact ⟨a, d, zs ++ ys, rfl, h2, h3, LC.append h' h4⟩
abbrev litV (l : Lt) (a d : Value) : List Value := [.bool l.1, .bool l.2.1.1.1, .int .i64 l.2.1.1.2, a, .bool l.2.2.1.1, .int .i64 l.2.2.1.2, d]
theorem LC.one {X : Nat → Prop} {w : World} {l : Lt} {a d : Value} (h : SB X w l.2.1.2 a) (h' : SB X w l.2.2.2 d) : LC X w [l] (litV l a d) := ⟨a, d, [], rfl, h, h', rfl⟩
theorem LC.len {X : Nat → Prop} {w : World} : ∀ {s : Cl} {xs : List Value}, LC X w s xs → xs.length = s.length * 7
  | [], _, h => by rw [LC] at h; subst h; rfl
  | _ :: _, _, ⟨a, d, ys, h1, _, _, h3⟩ => by subst h1; simp only [List.length_cons, h3.len]; omega
theorem LC.at {X : Nat → Prop} {w : World} {g : Nat} : ∀ {s : Cl} {xs : List Value} {o : Nat}, LC X w s xs → (∀ j, j < xs.length → w.cell? ⟨g, o + j, none⟩ = xs[j]?) → LIn w s g o
  | [], _, _, _, _ => trivial
  | p :: s, _, o, ⟨a, d, ys, h1, h2, h2', h3⟩, hc => by
    subst h1
    have c0 := hc 0 (by simp)
    have c1 := hc 1 (by simp)
    have c2 := hc 2 (by simp)
    have c3 := hc 3 (by simp)
    have c4 := hc 4 (by simp)
    have c5 := hc 5 (by simp)
    have c6 := hc 6 (by simp)
    refine ⟨⟨by simpa using c0, by simpa using c1, by simpa using c2, ⟨a, by simpa using c3, h2.toS⟩, by simpa using c4, by simpa using c5, d, by simpa using c6, h2'.toS⟩, ?_⟩
    refine LC.at h3 (fun j hj => ?_)
    have := hc (j + 7) (by simp; omega)
    rw [show o + 7 + j = o + (j + 7) by omega, this]
    simp
/-- A row that holds the cells of literals is those literals. -/
theorem row_cl {X : Nat → Prop} {w : World} {lo : Nat} {v : Value} {s : Cl} {xs : List Value} (h : w.ownsRow lo 44 7 v s.length xs) (hc : LC X w s xs) : CIn w s v := by
  have hcells := fun g hg => h.cells (g := g) hg
  rcases h.2 with ⟨rfl, h0⟩ | ⟨g, cap, cur, rfl, hl, hh, hn, hm, hs, ht⟩
  · have : s = [] := List.length_eq_zero_iff.1 h0
    subst this
    exact CIn.nil w
  · refine ⟨_, cap, g, 0, rfl, fun _ => rfl, hn, hm, hc.at (fun j hj => ?_)⟩
    have := hcells g rfl j (xs[j]'hj) (List.getElem?_eq_getElem hj)
    rw [List.getElem?_eq_getElem hj]
    rw [add_plain] at this
    exact this

/-- The literals s are a row of the call's own. -/
structure OwnL (lo : Nat) (X : Nat → Prop) (w : World) (s : Cl) (v : Value) (xs : List Value) : Prop where
  row : w.ownsRow lo 44 7 v s.length xs
  cells : LC X w s xs
  off : ∀ q, X q → q < w.heap.size ∧ some q ≠ v.ownBlock
theorem OwnL.cl {lo : Nat} {X : Nat → Prop} {w : World} {s : Cl} {v : Value} {xs : List Value} (h : OwnL lo X w s v xs) : CIn w s v := row_cl h.row h.cells
theorem OwnL.slice {lo : Nat} {X : Nat → Prop} {w : World} {s : Cl} {v : Value} {xs : List Value} (h : OwnL lo X w s v xs) : ∃ z1 z3, v = .slice z1 s.length z3 := slice_of_cl h.cl
theorem OwnL.below {lo : Nat} {X : Nat → Prop} {w w' : World} {s : Cl} {v : Value} {xs : List Value} (h : OwnL lo X w s v xs) (hb : Below w.heap.size w w') : OwnL lo X w' s v xs :=
  ⟨owns_keep h.row (fun g hg => hb.block g (owns_at h.row g hg).2), h.cells.frame (fun _ hq => hq) (fun q _ hq => World.cell?_of_block (hb.block q (h.off q hq).1)), fun q hq => ⟨Nat.lt_of_lt_of_le (h.off q hq).1 hb.size, (h.off q hq).2⟩⟩
theorem OwnL.wide {lo : Nat} {X Y : Nat → Prop} {w : World} {s : Cl} {v : Value} {xs : List Value} (h : OwnL lo X w s v xs) (hXY : ∀ q, X q → Y q) (hY : ∀ q, Y q → q < w.heap.size ∧ some q ≠ v.ownBlock) : OwnL lo Y w s v xs :=
  ⟨h.row, h.cells.frame hXY (fun _ _ _ => rfl), hY⟩
theorem ownL_nil (lo : Nat) (w : World) : OwnL lo (XO w (.slice none 0 0)) w [] (.slice none 0 0) [] := ⟨World.ownsRow_nil _ _ _ _, rfl, fun _ h => h⟩
end Go.Proofs.YtfckelbdageenabGreatDoor

namespace Go.Proofs.YtfckelbdageenabGreatDoor
open Go.RowKit Go.Deep Go.ChangeShapes Go.WideShapes

abbrev litA (l : Lt) (a d : Value) : Value := .agg #[.bool l.1, .bool l.2.1.1.1, .int .i64 l.2.1.1.2, a, .bool l.2.2.1.1, .int .i64 l.2.2.1.2, d]

/-- Literals that were boxed, later: their cells. -/
theorem lit_cells {w wr : World} {x0 x1 x2 x3 x4 x5 x6 : Value} {T : TypeId} (h : Below (w.alloc (.cells #[x0, x1, x2, x3, x4, x5, x6] T)).heap.size (w.alloc (.cells #[x0, x1, x2, x3, x4, x5, x6] T)) wr) :
    wr.cell? ⟨w.heap.size, 0, none⟩ = some x0 ∧ wr.cell? ⟨w.heap.size, 1, none⟩ = some x1 ∧ wr.cell? ⟨w.heap.size, 2, none⟩ = some x2 ∧ wr.cell? ⟨w.heap.size, 3, none⟩ = some x3 ∧ wr.cell? ⟨w.heap.size, 4, none⟩ = some x4 ∧ wr.cell? ⟨w.heap.size, 5, none⟩ = some x5 ∧ wr.cell? ⟨w.heap.size, 6, none⟩ = some x6 ∧ (∀ i, wr.frozen? ⟨w.heap.size, i, none⟩ = false) ∧ Below w.heap.size w wr ∧ w.heap.size < wr.heap.size := by
  refine ⟨?_, ?_, ?_, ?_, ?_, ?_, ?_, fun i => ?_, (below_alloc w _).trans (h.mono (by simp)), by have := h.size; simp at this; omega⟩
  all_goals first | (rw [h.cell (by simp)]; simp; done) | exact (h.frozen (p := ⟨w.heap.size, i, none⟩) (by simp)).trans (new_frozen rfl)

set_option maxRecDepth 100000 in
set_option maxHeartbeats 1000000 in
theorem sameLit_any (p q : Lt) (a d b c : Value) (w : World) (h1 : SIn w p.2.1.2 a) (h2 : SIn w p.2.2.2 d) (h3 : SIn w q.2.1.2 b) (h4 : SIn w q.2.2.2 c) :
    Calls Tryz.prog 20 #[litA p a d, litA q b c] w fun e w' => e = .returned (.bool (sameL p q)) ∧ Below w.heap.size w w' := by
  obtain ⟨pn, ⟨⟨pv, pi⟩, pk⟩, ⟨⟨pv', pi'⟩, pk'⟩⟩ := p
  obtain ⟨qn, ⟨⟨qv, qi⟩, qk⟩, ⟨⟨qv', qi'⟩, qk'⟩⟩ := q
  have H1 := hide h1
  have H2 := hide h2
  have H3 := hide h3
  have H4 := hide h4
  obtain ⟨a1, a3, _, _, rfl, -, -, -, -⟩ := h1
  obtain ⟨d1, d3, _, _, rfl, -, -, -, -⟩ := h2
  obtain ⟨b1, b3, _, _, rfl, -, -, -, -⟩ := h3
  obtain ⟨c1, c3, _, _, rfl, -, -, -, -⟩ := h4
  simp only at *
  by_cases hn : pn = qn
  · subst hn
    go_enter Tryz.func20, Tryz.ntmps20
    go_wp2_with fail
    refine (same_any (pv, pi) pk (qv, qi) qk _ _ _ ((H1.out.alloc _).alloc _) ((H3.out.alloc _).alloc _)).mono ?_
    rintro e w1 ⟨rfl, hb1⟩
    obtain ⟨-, -, -, -, e4, e5, e6, -, hB1, hl1⟩ := lit_cells hb1
    obtain ⟨-, -, -, -, f4, f5, f6, -, hB2, hl2⟩ := lit_cells hB1
    simp only [World.size_alloc] at e4 e5 e6
    have H2' := hide (H2.out.below hB2)
    have H4' := hide (H4.out.below hB2)
    cases he : sameT (pv, pi) pk (qv, qi) qk
    · clear hb1 hB1
      go_wp2_with fail
      go_ret
      exact ⟨by simp [sameL, he], hB2⟩
    · clear hb1 hB1
      go_wp2_with fail
      refine (same_any (pv', pi') pk' (qv', qi') qk' _ _ _ H2'.out H4'.out).mono ?_
      rintro e w2 ⟨rfl, hb2⟩
      go_wp2_with fail
      go_ret
      exact ⟨by simp [sameL, he], below_step hB2 hb2⟩
  · have hnb : (pn == qn) = false := by simp [hn]
    go_enter Tryz.func20, Tryz.ntmps20
    go_wp2_with fail
    go_ret
    refine ⟨by simp [sameL, hnb], ?_⟩
    exact ((Below.refl w.heap.size w).alloc (Nat.le_refl _) _).alloc (by simp) _

set_option maxRecDepth 100000 in
set_option maxHeartbeats 1000000 in
theorem equalLits_any (k l : Cl) (a c : Value) (w : World) (hS1 : CIn w k a) (hS2 : CIn w l c) :
    Calls Tryz.prog 37 #[a, c, .func (.func 20) #[] #[]] w fun e w' => e = .returned (.bool (sameC k l)) ∧ Below w.heap.size w w' := by
  obtain ⟨a1, c1, b1, o1, rfl, had1, hlc1, hcm1, hF1⟩ := hS1
  obtain ⟨a2, c2, b2, o2, rfl, had2, hlc2, hcm2, hF2⟩ := hS2
  unfold maxLen at hcm1 hcm2
  have HF1 := hide hF1
  have HF2 := hide hF2
  clear hF1 hF2
  by_cases hll : k.length = l.length
  · have hllb : ((k.length : Int) != (l.length : Int)) = false := by simp [hll]
    have Hll := hide hll
    have hll1 : l.length ≤ k.length := by omega
    have hll2 : k.length ≤ l.length := by omega
    clear hll
    go_enter Tryz.func37, Tryz.ntmps37
    go_wp2_with fail
    go_loopw [17] (fun i wr => ∃ j : Nat, j ≤ k.length ∧ i = .int .i64 j ∧ (∀ i, i < j → ∀ a b, k[i]? = some a → l[i]? = some b → sameL a b = true) ∧ Below w.heap.size w wr) (fun i _ => k.length - (intOf i).toNat)
    case atStart => exact ⟨0, Nat.zero_le _, rfl, fun i hi => by omega, Below.refl _ _⟩
    case round =>
      obtain ⟨j, hj, rfl, hok, hBr⟩ := hrel
      have Hok := hide hok
      clear hok
      by_cases hlt : j < k.length
      · have hlt' : (j : Int) < (k.length : Int) := by omega
        have hlt2 : (j : Int) < (l.length : Int) := by omega
        obtain ⟨⟨yn, ⟨⟨yv, yi⟩, yk⟩, ⟨yv', yi'⟩, yk'⟩, hy⟩ : ∃ y, k[j]? = some y := ⟨k[j]'hlt, by simp⟩
        obtain ⟨⟨zn, ⟨⟨zv, zi⟩, zk⟩, ⟨zv', zi'⟩, zk'⟩, hz⟩ : ∃ y, l[j]? = some y := ⟨l[j]'(by omega), by simp⟩
        obtain ⟨p0, p1, p2, ⟨u3, p3, hA⟩, p4, p5, u6, p6, hD⟩ := (HF1.out.below hBr).at hy
        obtain ⟨q0, q1, q2, ⟨s3, q3, hB⟩, q4, q5, s6, q6, hC⟩ := (HF2.out.below hBr).at hz
        have ha1 : a1 = some ⟨b1, o1, none⟩ := had1 (by omega)
        have ha2 : a2 = some ⟨b2, o2, none⟩ := had2 (by omega)
        subst ha1 ha2
        have HA := hide hA
        have HB := hide hB
        have HC := hide hC
        have HD := hide hD
        obtain ⟨_, _, _, _, rfl, -, -, -, -⟩ := hA
        obtain ⟨_, _, _, _, rfl, -, -, -, -⟩ := hB
        obtain ⟨_, _, _, _, rfl, -, -, -, -⟩ := hC
        obtain ⟨_, _, _, _, rfl, -, -, -, -⟩ := hD
        have Hy := hide hy
        have Hz := hide hz
        have hbl2 : b2 < wr.heap.size := World.block_lt_of_cell? _ _ q0
        clear hy hz had1 had2
        simp only at *
        go_wp2_with fail
        refine (sameLit_any (yn, ((yv, yi), yk), ((yv', yi'), yk')) (zn, ((zv, zi), zk), ((zv', zi'), zk')) _ _ _ _ _ ((HA.out.alloc _).alloc _) ((HD.out.alloc _).alloc _) ((HB.out.alloc _).alloc _) ((HC.out.alloc _).alloc _)).mono ?_
        rintro e w2 ⟨rfl, hb2⟩
        have hB2 := below_step hBr (below_box (below_box hb2))
        simp only
        cases he : sameL (yn, ((yv, yi), yk), ((yv', yi'), yk')) (zn, ((zv, zi), zk), ((zv', zi'), zk'))
        · have Hf : Hid (sameC k l = false) := sameC_no Hy.out Hz.out he
          clear he
          go_wp2_with fail
          go_ret
          exact ⟨by rw [Hf.out]; rfl, hB2⟩
        · have Hok2 : Hid (∀ i, i < j + 1 → ∀ a b, k[i]? = some a → l[i]? = some b → sameL a b = true) := fun i hi a b ha hb => by
            by_cases e : i = j
            · subst e; rw [Hy.out] at ha; rw [Hz.out] at hb; cases ha; cases hb; exact he
            · exact Hok.out i (by omega) a b ha hb
          clear he
          go_wp2_with fail
          go_roundw
          case rel => exact ⟨j + 1, by omega, by go_num, Hok2.out, hB2⟩
          case measure => simp [intOf]; omega
      · have Hf : Hid (sameC k l = true) := sameC_yes Hll.out (fun i hi => Hok.out i (by omega))
        go_wp2_with fail
        go_ret
        exact ⟨by rw [Hf.out]; rfl, hBr⟩
  · have hllb : ((k.length : Int) != (l.length : Int)) = true := by simp; omega
    have Hf : Hid (sameC k l = false) := sameC_len hll
    go_enter Tryz.func37, Tryz.ntmps37
    go_wp2_with fail
    go_ret
    exact ⟨by rw [Hf.out]; rfl, Below.refl _ _⟩

set_option maxRecDepth 100000 in
set_option maxHeartbeats 1000000 in
theorem sameC_any (k l : Cl) (a c : Value) (w : World) (hS1 : CIn w k a) (hS2 : CIn w l c) :
    Calls Tryz.prog 12 #[a, c] w fun e w' => e = .returned (.bool (sameC k l)) ∧ Below w.heap.size w w' := by
  have H1 := hide hS1
  have H2 := hide hS2
  obtain ⟨a1, c1, b1, o1, rfl, -, -, -, -⟩ := hS1
  obtain ⟨a2, c2, b2, o2, rfl, -, -, -, -⟩ := hS2
  go_enter Tryz.func12, Tryz.ntmps12
  go_wp2_with fail
  refine (equalLits_any k l _ _ _ H1.out H2.out).mono ?_
  rintro e w2 ⟨rfl, hb2⟩
  go_wp2_with fail
  go_ret
  exact ⟨rfl, hb2⟩

end Go.Proofs.YtfckelbdageenabGreatDoor

namespace Go.Proofs.YtfckelbdageenabGreatDoor
open Go.RowKit Go.Deep Go.ChangeShapes Go.WideShapes Go.Maps
attribute [local go_sem ↓] Go.wp_at_zero Go.wp_at_succ

theorem keyed3 : Keyed Tryz.prog 3 := int_keyed Tryz.underlying3
theorem zero3 (w : World) : (zeroValue 3).run Tryz.prog w = .ok (.int .i64 0) w := by kernel_rfl
abbrev MD := DataW Unit
/-- A block that is a map of numbers. -/
abbrev OM (w : World) (b n : Nat) (D : MD) : Prop := w.ownsMap Tryz.prog 3 (plainElem (H := Unit) Tryz.prog 3) b n D
def inR (v : Int) : Prop := -9223372036854775808 ≤ v ∧ v < 9223372036854775808
/-- The map tells g. -/
def Tel (D : MD) (g : Int → Int) : Prop := IsMap D ∧ ∀ v : Int, inR v → D.atKey (.int .i64 v) (.lit (.int .i64 0)) = .lit (.int .i64 (wrap64 (g v)))
theorem key_lit (v : Int) : WideAt.IsKeyLit (.int .i64 v) := trivial
theorem wrap64_of {n : Int} (h : inR n) : wrap64 n = n := by unfold inR at h; unfold wrap64; omega
theorem tel_put {D : MD} {g : Int → Int} {x c much : Int} (h : Tel D g) (hx : inR x) (hat : D.atKey (.int .i64 x) (.lit (.int .i64 0)) = .lit (.int .i64 c)) :
    Tel (D.put (.int .i64 x) (.lit (.int .i64 (wrap64 (c + much))))) (fun v => g v + much * (if x = v then 1 else 0 : Nat)) := by
  refine ⟨h.1.put _ _, fun v hv => ?_⟩
  by_cases e : x = v
  · subst e
    rw [atKey_put_same h.1 (key_lit _)]
    have h2 := h.2 x hx
    rw [hat] at h2
    have h3 : c = wrap64 (g x) := by injection h2 with h2; injection h2
    subst h3
    dsimp only
    rw [if_pos rfl]
    congr 2
    unfold wrap64
    omega
  · rw [atKey_put_other (by intro e'; injection e' with _ e'; exact e e'.symm), h.2 v hv]
    dsimp only
    rw [if_neg e]
    simp
theorem om_cell {w w' : World} {b n : Nat} {D : MD} (h : OM w b n D) (hg : w.grownBy w' (some b)) : ∀ a v, w.cell? a = some v → w'.cell? a = some v := by
  intro a v hc
  have hlt := World.block_lt_of_cell? _ _ hc
  by_cases e : a.block = b
  · obtain ⟨es, clock, hb, _⟩ := h
    simp [World.cell?, e, hb] at hc
  · rw [World.cell?_of_block (hg.block _ hlt (fun e' => e (by injection e')))]; exact hc
theorem grown_refl (w : World) (row : Option Nat) : w.grownBy w row := ⟨rfl, rfl, rfl, Nat.le_refl _, fun _ _ _ => rfl⟩

theorem szToR_take (k : Fo) (j : Nat) : szToR k j ≤ tszR k := by
  rw [← szToR_end k]
  unfold szToR
  rw [← Fo.len_list, List.take_length]
  have h := List.take_append_drop j k.list
  have : (k.list.map fun y => tszR y.2).sum = ((k.list.take j).map fun y => tszR y.2).sum + ((k.list.drop j).map fun y => tszR y.2).sum := by rw [← List.sum_append, ← List.map_append, h]
  omega

def CountSaid (x : Bool × Int) (k : Fo) : Prop := ∀ (a : Value) (much : Int) (w : World) (b n : Nat) (D : MD) (g : Int → Int), okT (x, k) → (∀ m, occT m (x, k) → 0 ≤ m ∧ m ≤ 9) → SIn w k a → OM w b n D → Tel D g → n + tszR k ≤ 10000000000000 →
    Calls Tryz.prog 129 #[.map (some b), .agg #[.bool x.1, .int .i64 x.2, a], .int .i64 much] w fun e w' => e = .returned (.tuple #[]) ∧ ∃ D', OM w' b (n + tszR k) D' ∧ Tel D' (fun v => g v + much * timT v (x, k)) ∧ w.grownBy w' (some b)

set_option maxRecDepth 100000 in
set_option maxHeartbeats 400000 in
theorem count_any (x : Bool × Int) (k : Fo) : CountSaid x k := by
  refine Fo.ind1 (p := CountSaid) ?_ x k
  clear x k
  intro x k ih a much w b n D g hok hfew hS hown htel hbd
  obtain ⟨xv, xn⟩ := x
  cases xv
  · obtain ⟨ad, c, kb, o, rfl, had, hlc, hcm, hF⟩ := hS
    have Hl := hide (Fo.len_list k)
    have Hend := hide (szToR_end k)
    have Hok := hide hok
    have Hfew := hide hfew
    have Htel := hide htel
    have HI := hide ih
    have HF := hide hF
    have Hown := hide hown
    have Hbd := hide hbd
    unfold maxLen at hcm
    clear ih hF hown htel hok hfew hbd
    go_enter Tryz.func129, Tryz.ntmps129
    go_wp2_with fail
    generalize hW1 : w.alloc (.cells #[.bool false, .int .i64 xn, .slice ad (Fo.len k) c] 36) = W1
    have HO1 : Hid (OM W1 b n D) := by rw [← hW1]; exact Hown.out.alloc _
    have HG1 : Hid (w.grownBy W1 (some b)) := by rw [← hW1]; exact World.grownBy_alloc _ _ _
    clear hW1
    go_loopw [19] (fun i wr => ∃ (j : Nat) (D' : MD), j ≤ Fo.len k ∧ i = .int .i64 j ∧ OM wr b (n + szToR k j) D' ∧ Tel D' (fun v => g v + much * tmTo v (false, xn) k j) ∧ W1.grownBy wr (some b)) (fun i _ => Fo.len k - (intOf i).toNat)
    case atStart => exact ⟨0, D, Nat.zero_le _, rfl, HO1.out.mono (Nat.le_add_right _ _), ⟨Htel.out.1, fun v hv => by rw [Htel.out.2 v hv]; dsimp only; rw [tmTo_zero]; simp⟩, grown_refl _ _⟩
    case round =>
      obtain ⟨j, D', hj, rfl, hO, hT, hG⟩ := hrel
      have HO := hide hO
      have HT := hide hT
      have HG := hide hG
      clear hO hT hG
      by_cases hlt : j < Fo.len k
      · have hlt' : (j : Int) < (Fo.len k : Int) := by omega
        obtain ⟨⟨⟨yv, yn⟩, yk⟩, hy⟩ : ∃ y, k.list[j]? = some y := ⟨k.list[j]'(by rw [Hl.out]; exact hlt), by simp⟩
        have HFr : Hid (FIn wr k kb o) := FIn.later (fun a v h => om_cell HO1.out HG.out a v (om_cell Hown.out HG1.out a v h)) HF.out
        obtain ⟨c0, c1, yv', c2, hSy⟩ := HFr.out.at hy
        have ha : ad = some ⟨kb, o, none⟩ := had (by omega)
        subst ha
        have HS := hide hSy
        obtain ⟨ya, yc, yb, yo, rfl, -, -, -, -⟩ := hSy
        have Hy := hide hy
        have Hmem := hide (List.mem_of_getElem? hy)
        have Hb2 : Hid (n + szToR k j + tszR yk ≤ 10000000000000) := by
          have h1 := szToR_succ hy
          have h2 := szToR_take k (j + 1)
          have h3 := Hbd.out
          unfold Hid
          omega
        clear hy had
        go_wp2_with fail
        refine (HI.out ((yv, yn), yk) Hmem.out _ much _ b _ D' _ (ok_mem Hok.out.2 Hmem.out) (fun m hm => Hfew.out m (by unfold occT; simp only [Bool.false_eq_true, if_false]; exact occ_mem.2 ⟨_, Hmem.out, hm⟩)) (HS.out.alloc _) (HO.out.alloc _) HT.out Hb2.out).mono ?_
        rintro e w2 ⟨rfl, D2, hO2, hT2, hG2⟩
        have HO2 := hide hO2
        have HT2 := hide hT2
        have HG2 := hide (HG.out.trans ((World.grownBy_alloc _ _ _).trans hG2))
        clear hO2 hT2 hG2
        go_wp2_with fail
        go_roundw
        case rel => exact ⟨j + 1, D2, by omega, by go_num, by rw [szToR_succ Hy.out, ← Nat.add_assoc]; exact HO2.out, ⟨HT2.out.1, fun v hv => by rw [HT2.out.2 v hv]; dsimp only; rw [tmTo_succ Hy.out, Int.natCast_add, Int.mul_add, Int.add_assoc]⟩, HG2.out⟩
        case measure => simp [intOf]; omega
      · have hje : j = Fo.len k := by omega
        have Hj := hide hje
        clear hje had
        go_wp2_with fail
        go_end0
        have e := Hj.out
        subst e
        refine ⟨rfl, D', ?_, ?_, HG1.out.trans HG.out⟩
        · rw [← Hend.out]; exact HO.out
        · have := HT.out
          simp only [tmTo_end] at this
          exact this
  · have hk : k = .nil := hok.1 rfl
    subst hk
    obtain ⟨ad, c, kb, o, rfl, -, -, -, -⟩ := hS
    have hx := hfew xn (by simp [occT])
    have hr : inR xn := by unfold inR; omega
    have hkey : keyOf Tryz.prog 3 (.int .i64 xn) = some (.int .i64 xn) := keyOf_int_mk Tryz.underlying3 (WalkArith.wf_i64 (by omega))
    have Htel := hide htel
    have Hbd := hide hbd
    have Hr := hide hr
    clear htel hbd hfew hok ih hr hx
    go_enter Tryz.func129, Tryz.ntmps129
    go_wp2_with (first
      | (at_lookup; refine wpList_lookup_own_int _ rfl _ _ 142 rfl 3 3 .i64 keyed3 Tryz.underlying142 Tryz.underlying3 (zero3 _) b n _ rfl (hown.alloc _) _ _ rfl hkey ?_; intro c hat hwc)
      | (at_mapUpdate; refine wpList_mapUpdate_own _ rfl _ _ _ 142 rfl 3 3 keyed3 Tryz.underlying142 _ b n _ rfl (hown.alloc _) (by have := Hbd.out; unfold maxLen; omega) _ _ _ rfl rfl hkey _ [] (plainElem_int Tryz.underlying3 (wrap64_wf _)) ?_; intro w1 hown1 hgrow1)
      | go_in)
    (try simp only [Exit.inBlock, Exit.then])
    refine bodyPost_ret (results_none rfl _ _ _) rfl ?_
    refine ⟨rfl, _, hown1, ?_, (World.grownBy_alloc _ _ _).trans hgrow1⟩
    have := tel_put (much := much) Htel.out Hr.out hat
    simpa [timT, timF] using this

end Go.Proofs.YtfckelbdageenabGreatDoor

namespace Go.Proofs.YtfckelbdageenabGreatDoor
open Go.RowKit Go.Deep Go.ChangeShapes Go.WideShapes Go.Maps
attribute [local go_sem ↓] Go.wp_at_zero Go.wp_at_succ

abbrev RG (w : World) (b r n : Nat) (D : MD) (left : Lit → Bool) (cnt : Nat) : Prop := w.ranges Tryz.prog 3 (plainElem (H := Unit) Tryz.prog 3) b r n D left cnt
def dif (a b : Tm) (v : Int) : Int := (timT v a : Int) - (timT v b : Int)
theorem dif_small {a b : Tm} (ha : szT a ≤ 4000000000000) (hb : szT b ≤ 4000000000000) (v : Int) : wrap64 (dif a b v) = dif a b v := by
  have h1 := timT_le v a
  have h2 := timT_le v b
  refine wrap64_of ?_
  unfold inR dif
  omega
theorem may_of {a b : Tm} (hb : Gd b) (h : ∀ v, inR v → 0 ≤ dif a b v) : mayT a b = true := by
  refine (may_iff hb.ok).2 fun v => ?_
  by_cases e : 0 < timT v b
  · have h1 := hb.few v (tim_occ hb.ok e)
    have h2 := h v (by unfold inR; omega)
    unfold dif at h2
    omega
  · omega
theorem may_not {a b : Tm} (hb : Gd b) {v : Int} (h : dif a b v < 0) : mayT a b = false := by
  rw [← Bool.not_eq_true, may_iff hb.ok]
  intro hh
  have := hh v
  unfold dif at h
  omega
/-- What has come is not less than nothing. -/
def Seen (a b : Tm) (left : Lit → Bool) : Prop := ∀ v, inR v → left (.int .i64 v) = false → 0 ≤ dif a b v
theorem seen_start {a b : Tm} {D : MD} (ha : szT a ≤ 4000000000000) (hb : szT b ≤ 4000000000000) (h : Tel D (dif a b)) : Seen a b (Maps.has D) := fun v hv hl => by
  have h1 := h.2 v hv
  rw [atKey_of_not_has hl, dif_small ha hb] at h1
  injection h1 with h1
  injection h1 with _ h1
  omega
theorem seen_next {a b : Tm} {left : Lit → Bool} {x : Int} (h : Seen a b left) (hx : 0 ≤ dif a b x) : Seen a b (fun z => left z && !z.sameKey (.int .i64 x)) := fun v hv hl => by
  by_cases e : v = x
  · subst e; exact hx
  · dsimp only at hl
    rw [sameKey_ne (show (Lit.int .i64 v) ≠ .int .i64 x by intro e'; injection e' with _ e'; exact e e')] at hl
    simp only [Bool.not_false, Bool.and_true] at hl
    exact h v hv hl
theorem inR_wf {x : Int} (h : (Lit.int .i64 x).wf = true) : inR x := by
  simp [Lit.wf, IntKind.min, IntKind.max, IntKind.signed, IntKind.bits] at h
  unfold inR
  omega
theorem tel_is {D : MD} {a b : Tm} {x c : Int} (ha : szT a ≤ 4000000000000) (hb : szT b ≤ 4000000000000) (h : Tel D (dif a b)) (hx : inR x) (hat : ∀ zd, D.atKey (.int .i64 x) zd = .lit (.int .i64 c)) : c = dif a b x := by
  have h1 := h.2 x hx
  rw [hat, dif_small ha hb] at h1
  injection h1 with h1
  injection h1 with _ h1

set_option maxRecDepth 100000 in
set_option maxHeartbeats 1000000 in
theorem asOften_any (x : Bool × Int) (k : Fo) (y : Bool × Int) (l : Fo) (a c : Value) (w : World) (ga : Gd (x, k)) (gb : Gd (y, l)) (hbk : tszR k ≤ 4000000000000) (hbl : tszR l ≤ 4000000000000) (hS : SIn w k a) (hU : SIn w l c) :
    Calls Tryz.prog 115 #[.agg #[.bool x.1, .int .i64 x.2, a], .agg #[.bool y.1, .int .i64 y.2, c]] w fun e w' => e = .returned (.bool (mayT (x, k) (y, l))) ∧ Below w.heap.size w w' := by
  obtain ⟨xv, n⟩ := x
  obtain ⟨yv, m⟩ := y
  have HS := hide hS
  have HU := hide hU
  have Hbk := hide hbk
  have Hbl := hide hbl
  have Hga := hide ga
  have Hgb := hide gb
  obtain ⟨ad, ac, kb, o, rfl, -, -, -, -⟩ := hS
  obtain ⟨ud, uc, ub, uo, rfl, -, -, -, -⟩ := hU
  clear hbk hbl ga gb
  have hmm := @run_makeMap Tryz.prog
  go_enter Tryz.func115, Tryz.ntmps115
  go_wp2_with fail
  generalize hW2 : (w.alloc (.cells #[.bool xv, .int .i64 n, .slice ad (Fo.len k) ac] 36)).alloc (.cells #[.bool yv, .int .i64 m, .slice ud (Fo.len l) uc] 36) = W2
  have hB2 : Below w.heap.size w W2 := by rw [← hW2]; exact (below_alloc _ _).alloc (by simp) _
  have hs2 : W2.heap.size = w.heap.size + 1 + 1 := by rw [← hW2]; simp
  have r0 : W2.cell? ⟨w.heap.size + 1, 0, none⟩ = some (.bool yv) := by rw [← hW2]; exact new_cell (World.size_alloc _ _)
  have r1 : W2.cell? ⟨w.heap.size + 1, 1, none⟩ = some (.int .i64 m) := by rw [← hW2]; exact new_cell (World.size_alloc _ _)
  have r2 : W2.cell? ⟨w.heap.size + 1, 2, none⟩ = some (.slice ud (Fo.len l) uc) := by rw [← hW2]; exact new_cell (World.size_alloc _ _)
  clear hW2
  have hO0 : OM (W2.alloc (.map #[] 0)) (w.heap.size + 1 + 1) 0 (.map []) := by rw [← hs2]; exact World.ownsMap_made _ _ _ _
  have hB3 : Below w.heap.size w (W2.alloc (.map #[] 0)) := hB2.alloc (by omega) _
  have hT0 : Tel (.map []) (fun _ => 0) := ⟨isMap_empty, fun v _ => by simp [wrap64, DataW.atKey]⟩
  refine (count_any (xv, n) k _ 1 _ _ _ _ _ Hga.out.ok Hga.out.few (HS.out.below hB3) hO0 hT0 (by have := Hbk.out; omega)).mono ?_
  rintro e w4 ⟨rfl, D1, hO1, hT1, hG1⟩
  have hB4 : Below w.heap.size w w4 := hB3.grown hG1 hB3.size (fun j hj => by cases hj; omega)
  have q0 := om_cell hO0 hG1 _ _ (grow_cell (below_alloc _ _) _ _ r0)
  have q1 := om_cell hO0 hG1 _ _ (grow_cell (below_alloc _ _) _ _ r1)
  have q2 := om_cell hO0 hG1 _ _ (grow_cell (below_alloc _ _) _ _ r2)
  have HO1 := hide hO1
  have HT1 := hide hT1
  have HB4 := hide hB4
  clear r0 r1 r2 hO0 hT0 hO1 hT1 hG1 hB3 hB2 hB4
  go_wp2_with fail
  refine (count_any (yv, m) l _ (-1) _ _ _ _ _ Hgb.out.ok Hgb.out.few (HU.out.below HB4.out) HO1.out HT1.out (by have := Hbk.out; have := Hbl.out; omega)).mono ?_
  rintro e w5 ⟨rfl, D2, hO2, hT2, hG2⟩
  have hB5 : Below w.heap.size w w5 := HB4.out.grown hG2 HB4.out.size (fun j hj => by cases hj; omega)
  have HB5 := hide hB5
  have HTd : Hid (Tel D2 (dif ((xv, n), k) ((yv, m), l))) := ⟨hT2.1, fun v hv => by
    rw [hT2.2 v hv]
    congr 3
    dsimp only
    unfold dif
    omega⟩
  clear q0 q1 q2 hT2 hG2 hB5 HO1 HT1 HB4
  go_wp2_with (first
    | (at_range; refine wpList_range_own _ rfl _ 142 rfl 3 3 keyed3 Tryz.underlying142 _ (w.heap.size + 1 + 1) _ _ rfl hO2 ?_; intro w6 hrg0 hg0 hs0)
    | go_in)
  go_frame
  have HB6 : Hid (Below w.heap.size w w6) := HB5.out.grown hg0 HB5.out.size (fun j hj => by cases hj)
  have HR0 := hide hrg0
  have H55 : Hid (w.heap.size ≤ w5.heap.size) := HB5.out.size
  clear hrg0 hg0 hs0
  go_loopw [7] (fun _ wr => ∃ (left : Lit → Bool) (cnt : Nat), RG wr (w.heap.size + 1 + 1) w5.heap.size (tszR k + tszR l) D2 left cnt ∧ Seen ((xv, n), k) ((yv, m), l) left ∧ Below w.heap.size w wr)
    (fun _ wr => wr.rangeLeft (w.heap.size + 1 + 1) w5.heap.size)
  case atStart => exact ⟨_, _, by have := HR0.out; rwa [Nat.zero_add] at this, seen_start Hbk.out Hbl.out HTd.out, HB6.out⟩
  case round =>
    obtain ⟨left, cnt, hrg, hseen, hBr⟩ := hrel
    have Hseen := hide hseen
    have HBr := hide hBr
    clear hseen hBr
    go_wp2_with (first
      | (at_next; refine wpList_next_ranges_ii _ rfl _ rfl 3 3 .i64 .i64 keyed3 Tryz.underlying3 Tryz.underlying3 (w.heap.size + 1 + 1) w5.heap.size _ _ _ _ rfl hrg ?_ ?_)
      | go_in)
    · intro _ hl0
      have Hm := hide (may_of Hgb.out (fun v hv => Hseen.out v hv (hl0 _)))
      clear hl0 hrg
      go_wp2_with fail
      go_ret
      exact ⟨by rw [Hm.out]; rfl, HBr.out⟩
    · intro z d w7 cnt1 hwx hwc hlx hat hrg1 hlt hg1 hs1 hen
      have hd := tel_is (a := ((xv, n), k)) (b := ((yv, m), l)) Hbk.out Hbl.out HTd.out (inR_wf hwx) hat
      have HB7 : Hid (Below w.heap.size w w7) := HBr.out.grown hg1 HBr.out.size (fun j hj => by cases hj; exact H55.out)
      have HR1 := hide hrg1
      have HR := hide hrg
      have Hlt := hide hlt
      clear hat hrg hrg1 hlt hg1 hs1 hwx hwc hlx
      by_cases hneg : d < 0
      · have Hm : Hid (mayT ((xv, n), k) ((yv, m), l) = false) := may_not Hgb.out (hd ▸ hneg)
        clear hd
        go_wp2_with fail
        go_ret
        exact ⟨by rw [Hm.out]; rfl, HB7.out⟩
      · have Hs := hide (seen_next (x := z) Hseen.out (by rw [← hd]; omega))
        clear hd
        go_wp2_with fail
        go_roundw
        case rel => exact ⟨_, cnt1, HR1.out, Hs.out, HB7.out⟩
        case measure => rw [HR1.out.left_eq, HR.out.left_eq]; exact Hlt.out

end Go.Proofs.YtfckelbdageenabGreatDoor

namespace Go.Proofs.YtfckelbdageenabGreatDoor
open Go.RowKit Go.Deep Go.ChangeShapes Go.WideShapes
attribute [local go_sem ↓] Go.wp_at_zero Go.wp_at_succ

theorem sizes_ok : ∀ {F : Fo}, Fo.ok F → Fo.sizes F = Fo.sizesR F
  | .nil, _ => rfl
  | .node _ _ x k r, h => by
    obtain ⟨_, _, h3, h4⟩ := ok_node.1 h
    have h1 := sizes_ok h3.2
    have h2 := sizes_ok h4
    rw [Fo.sizes, Fo.sizesR, h2, h1]
    by_cases hx : x.1 = true
    · have hk : k = .nil := h3.1 hx
      subst hk
      simp [Fo.sizesR]
    · rw [if_neg hx]
theorem tsz_ok {x : Bool × Int} {k : Fo} (h : okT (x, k)) : tsz x k = tszR k := by
  unfold tsz tszR
  by_cases hx : x.1 = true
  · have hk : k = .nil := h.1 hx
    subst hk
    simp [Fo.sizesR, hx]
  · rw [if_neg hx, sizes_ok h.2]
theorem psize_call {wn : World} {x : Bool × Int} {k : Fo} {a : Value} (hok : okT (x, k)) (hS : SIn wn k a) (hb : tszR k ≤ 4000000000000) (w' : World) (h : Below wn.heap.size wn w') :
    Calls Tryz.prog 68 #[.agg #[.bool x.1, .int .i64 x.2, a]] w' fun e w'' => e = .returned (.int .i64 (tszR k : Nat)) ∧ Below w'.heap.size w' w'' := by
  refine (size_any x k a w' (hS.below h)).mono ?_
  rw [tsz_ok hok, wrap64_small (by omega) (by omega)]
  exact fun e w'' h => h
theorem psame_call {wn : World} {x y : Bool × Int} {k l : Fo} {a c : Value} (hS : SIn wn k a) (hU : SIn wn l c) (w' : World) (h : Below wn.heap.size wn w') :
    Calls Tryz.prog 54 #[.agg #[.bool x.1, .int .i64 x.2, a], .agg #[.bool y.1, .int .i64 y.2, c]] w' fun e w'' => e = .returned (.bool (sameT x k y l)) ∧ Below w'.heap.size w' w'' :=
  same_any x k y l a c w' (hS.below h) (hU.below h)

theorem run_min (p q : Nat) (w : World) : (Builtin.min_ #[3, 3] 3 #[.int .i64 (p : Nat), .int .i64 (q : Nat)]).run Tryz.prog w = .ok (.int .i64 (min p q : Nat)) w := by
  by_cases h : q < p
  · have e : min p q = q := by omega
    rw [e]
    simp [Builtin.min_, Builtin.min2, go_sem, h]
  · have e : min p q = p := by omega
    rw [e]
    simp [Builtin.min_, Builtin.min2, go_sem, h]

def AbvSaid (x : Bool × Int) (k : Fo) : Prop := ∀ (y : Bool × Int) (l : Fo) (a c : Value) (w : World), Gd (x, k) → Gd (y, l) → SIn w k a → SIn w l c → tszR k ≤ 4000000000000 → tszR l ≤ 4000000000000 →
    Calls Tryz.prog 98 #[.agg #[.bool x.1, .int .i64 x.2, a], .agg #[.bool y.1, .int .i64 y.2, c]] w fun e w' => e = .returned (.bool (abvT (x, k) (y, l))) ∧ Below w.heap.size w w'

set_option maxRecDepth 100000 in
set_option maxHeartbeats 1000000 in
theorem within_of (k : Fo) (ih : ∀ t ∈ k.list, AbvSaid t.1 t.2) (l : Fo) (a c : Value) (w : World) (gk : ∀ t ∈ k.list, Gd t) (gl : ∀ t ∈ l.list, Gd t) (hS : SIn w k a) (hU : SIn w l c) (hbk : tszR k ≤ 4000000000000) (hbl : tszR l ≤ 4000000000000) :
    Calls Tryz.prog 116 #[a, c] w fun e w' => e = .returned (.bool (lexF k l)) ∧ Below w.heap.size w w' := by
  have HI := hide ih
  have Hgk := hide gk
  have Hgl := hide gl
  have Hbk := hide hbk
  have Hbl := hide hbl
  obtain ⟨ad, ac, b, o, rfl, had, hlc, hcm, hF⟩ := hS
  obtain ⟨ud, uc, ub, uo, rfl, hud, hulc, hucm, hG⟩ := hU
  have HF := hide hF
  have HG := hide hG
  have Hl := hide (Fo.len_list k)
  have Hl2 := hide (Fo.len_list l)
  have Had := hide had
  have Hud := hide hud
  unfold maxLen at hcm hucm
  clear ih gk gl hbk hbl hF hG had hud
  obtain ⟨M, hM⟩ : ∃ M : Nat, M = min (Fo.len k) (Fo.len l) := ⟨_, rfl⟩
  have hmin := run_min (Fo.len k) (Fo.len l)
  rw [← hM] at hmin
  have hM1 : M ≤ Fo.len k := by omega
  have hM2 : M ≤ Fo.len l := by omega
  have HM3 : Hid (M = Fo.len k ∨ M = Fo.len l) := by unfold Hid; omega
  clear hM
  go_enter Tryz.func116, Tryz.ntmps116
  go_wp2_with fail
  go_loopw [11] (fun i wr => ∃ j : Nat, j ≤ M ∧ i = .int .i64 j ∧ (∀ q, q < j → ∀ t' u' : Tm, k.list[q]? = some t' → l.list[q]? = some u' → sameT t'.1 t'.2 u'.1 u'.2 = true) ∧ Below w.heap.size w wr) (fun i _ => M - (intOf i).toNat)
  case atStart => exact ⟨0, Nat.zero_le _, rfl, fun q hq => by omega, Below.refl _ _⟩
  case round =>
    obtain ⟨j, hj, rfl, hall, hBr⟩ := hrel
    have Hall := hide hall
    have HBr := hide hBr
    clear hall hBr
    by_cases hlt : j < M
    · have hlt' : (j : Int) < (M : Int) := by omega
      have hj1 : (j : Int) < (Fo.len k : Int) := by omega
      have hj2 : (j : Int) < (Fo.len l : Int) := by omega
      have hj0 : (0 : Int) ≤ (j : Int) := by omega
      have e1 := Had.out (by omega)
      have e2 := Hud.out (by omega)
      subst e1 e2
      obtain ⟨⟨⟨tv, tn⟩, tk⟩, ht⟩ : ∃ y, k.list[j]? = some y := ⟨k.list[j]'(by rw [Hl.out]; omega), by simp⟩
      obtain ⟨⟨⟨uv, un⟩, uk⟩, hu⟩ : ∃ y, l.list[j]? = some y := ⟨l.list[j]'(by rw [Hl2.out]; omega), by simp⟩
      obtain ⟨k0, k1, ta, k2, hSt⟩ := (HF.out.below HBr.out).at ht
      obtain ⟨l0, l1, ua, l2, hSu⟩ := (HG.out.below HBr.out).at hu
      have HSt := hide hSt
      have HSu := hide hSu
      obtain ⟨ta1, tc, tb, t4, rfl, -, -, -, -⟩ := hSt
      obtain ⟨ua1, uc1, ub1, u4, rfl, -, -, -, -⟩ := hSu
      have Ht := hide ht
      have Hu := hide hu
      have HcS := hide (fun w' hb => psame_call (x := (tv, tn)) (y := (uv, un)) HSt.out HSu.out w' hb)
      have Hbt : Hid (tszR tk ≤ 4000000000000) := Nat.le_trans (Nat.le_of_lt (sz_mem (x := (false, 0)) (List.mem_of_getElem? ht))) Hbk.out
      have Hbu : Hid (tszR uk ≤ 4000000000000) := Nat.le_trans (Nat.le_of_lt (sz_mem (x := (false, 0)) (List.mem_of_getElem? hu))) Hbl.out
      have HcAb := hide (fun (w' : World) (hb : Below wr.heap.size wr w') => HI.out ((tv, tn), tk) (List.mem_of_getElem? ht) (uv, un) uk _ _ w' (Hgk.out _ (List.mem_of_getElem? ht)) (Hgl.out _ (List.mem_of_getElem? hu)) (HSt.out.below hb) (HSu.out.below hb) Hbt.out Hbu.out)
      have hcur : Below wr.heap.size wr wr.drew := (Below.refl _ _).drew
      clear ht hu
      go_upto_region 4 with fail
      go_cut [23] (fun s23 wy => s23 = .bool (!(sameT (tv, tn) tk (uv, un) uk)) ∧ Below wr.heap.size wr wy)
      case first =>
        go_region_held3 (fun w' => w'.cell? ⟨b, o + j * 3, none⟩ = some (.bool tv) ∧ w'.cell? ⟨b, o + j * 3 + 1, none⟩ = some (.int .i64 tn) ∧ w'.cell? ⟨b, o + j * 3 + 2, none⟩ = some (.slice ta1 (Fo.len tk) tc) ∧ w'.cell? ⟨ub, uo + j * 3, none⟩ = some (.bool uv) ∧ w'.cell? ⟨ub, uo + j * 3 + 1, none⟩ = some (.int .i64 un) ∧ w'.cell? ⟨ub, uo + j * 3 + 2, none⟩ = some (.slice ua1 (Fo.len uk) uc1))
          (first
            | (with_reducible exact ⟨grow_cell hcur _ _ k0, grow_cell hcur _ _ k1, grow_cell hcur _ _ k2, grow_cell hcur _ _ l0, grow_cell hcur _ _ l1, grow_cell hcur _ _ l2⟩)
            | go_keep)
          (first
            | (go_at_call 54; with_reducible refine (HcS.out _ hcur).mono ?_; rintro e wS ⟨rfl, hbS⟩; replace hcur := below_step hcur hbS))
        all_goals
          go_wp2_with fail
          go_meet
          case rel => exact ⟨rfl, hcur⟩
      case rest =>
        obtain ⟨rfl, hby⟩ := hcut
        generalize wc = wy at *
        cases hs : sameT (tv, tn) tk (uv, un) uk
        · have Hlex := hide (lexF_at (t := ((tv, tn), tk)) (u := ((uv, un), uk)) Hall.out Ht.out Hu.out hs)
          have m0 := grow_cell hby _ _ k0
          have m1 := grow_cell hby _ _ k1
          have m2 := grow_cell hby _ _ k2
          have m3 := grow_cell hby _ _ l0
          have m4 := grow_cell hby _ _ l1
          have m5 := grow_cell hby _ _ l2
          have hcur2 : Below wr.heap.size wr wy.drew := hby.drew
          clear hs hcur k0 k1 k2 l0 l1 l2
          go_upto_region 5 with fail
          go_region_held3 (fun w' => w'.cell? ⟨b, o + j * 3, none⟩ = some (.bool tv) ∧ w'.cell? ⟨b, o + j * 3 + 1, none⟩ = some (.int .i64 tn) ∧ w'.cell? ⟨b, o + j * 3 + 2, none⟩ = some (.slice ta1 (Fo.len tk) tc) ∧ w'.cell? ⟨ub, uo + j * 3, none⟩ = some (.bool uv) ∧ w'.cell? ⟨ub, uo + j * 3 + 1, none⟩ = some (.int .i64 un) ∧ w'.cell? ⟨ub, uo + j * 3 + 2, none⟩ = some (.slice ua1 (Fo.len uk) uc1))
            (first
              | exact ⟨grow_cell hbS _ _ m0, grow_cell hbS _ _ m1, grow_cell hbS _ _ m2, grow_cell hbS _ _ m3, grow_cell hbS _ _ m4, grow_cell hbS _ _ m5⟩
              | go_keep)
            (first
              | (go_at_call 98; with_reducible refine (HcAb.out _ hcur2).mono ?_; rintro e wS ⟨rfl, hbS⟩; replace hcur2 := below_step hcur2 hbS))
          all_goals
            have Hend := hide (below_step HBr.out hcur2)
            clear hbS
            go_wp2_with fail
            go_ret
            exact ⟨by rw [Hlex.out]; rfl, Hend.out⟩
        · have Hnx : Hid (∀ q, q < j + 1 → ∀ t' u' : Tm, k.list[q]? = some t' → l.list[q]? = some u' → sameT t'.1 t'.2 u'.1 u'.2 = true) := fun q hq t' u' e1 e2 => by
            by_cases e : q = j
            · subst e
              rw [Ht.out] at e1
              rw [Hu.out] at e2
              cases e1
              cases e2
              exact hs
            · exact Hall.out q (by omega) t' u' e1 e2
          have Hb3 := hide (below_step HBr.out hby)
          clear hs hcur k0 k1 k2 l0 l1 l2
          go_wp2_with fail
          go_roundw
          case rel => exact ⟨j + 1, by omega, by go_num, Hnx.out, Hb3.out⟩
          case measure => simp [intOf]; omega
    · have Hlex : Hid (lexF k l = false) := lexF_end (fun q t' u' e1 e2 => Hall.out q (by
        have h1 := (List.getElem?_eq_some_iff.1 e1).1
        have h2 := (List.getElem?_eq_some_iff.1 e2).1
        rw [Hl.out] at h1
        rw [Hl2.out] at h2
        have h3 := HM3.out
        omega) t' u' e1 e2)
      have hlt' : ¬ (j : Int) < (M : Int) := by omega
      go_wp2_with fail
      go_ret
      exact ⟨by rw [Hlex.out]; rfl, HBr.out⟩

set_option maxRecDepth 100000 in
set_option maxHeartbeats 2000000 in
theorem above_any (x : Bool × Int) (k : Fo) : AbvSaid x k := by
  refine Fo.ind1 (p := AbvSaid) ?_ x k
  clear x k
  intro x k ih y l a c w ga gb hS hU hbk hbl
  obtain ⟨xv, n⟩ := x
  obtain ⟨yv, m⟩ := y
  have HI := hide ih
  have HS := hide hS
  have HU := hide hU
  have Hbk := hide hbk
  have Hbl := hide hbl
  have Hga := hide ga
  have Hgb := hide gb
  obtain ⟨ad, ac, b, o, rfl, -, -, -, -⟩ := hS
  obtain ⟨ud, uc, ub, uo, rfl, -, -, -, -⟩ := hU
  clear ih hbk hbl ga gb
  cases xv
  · go_enter Tryz.func98, Tryz.ntmps98
    go_wp2_with fail
    generalize hW2 : (w.alloc (.cells #[.bool false, .int .i64 n, .slice ad (Fo.len k) ac] 36)).alloc (.cells #[.bool yv, .int .i64 m, .slice ud (Fo.len l) uc] 36) = W2
    have hB2 : Below w.heap.size w W2 := by rw [← hW2]; exact (below_alloc _ _).alloc (by simp) _
    have p0 : W2.cell? ⟨w.heap.size, 0, none⟩ = some (.bool false) := by rw [← hW2, World.cell?_alloc_lt _ _ _ (by simp)]; exact new_cell rfl
    have p1 : W2.cell? ⟨w.heap.size, 1, none⟩ = some (.int .i64 n) := by rw [← hW2, World.cell?_alloc_lt _ _ _ (by simp)]; exact new_cell rfl
    have p2 : W2.cell? ⟨w.heap.size, 2, none⟩ = some (.slice ad (Fo.len k) ac) := by rw [← hW2, World.cell?_alloc_lt _ _ _ (by simp)]; exact new_cell rfl
    have r0 : W2.cell? ⟨w.heap.size + 1, 0, none⟩ = some (.bool yv) := by rw [← hW2]; exact new_cell (World.size_alloc _ _)
    have r1 : W2.cell? ⟨w.heap.size + 1, 1, none⟩ = some (.int .i64 m) := by rw [← hW2]; exact new_cell (World.size_alloc _ _)
    have r2 : W2.cell? ⟨w.heap.size + 1, 2, none⟩ = some (.slice ud (Fo.len l) uc) := by rw [← hW2]; exact new_cell (World.size_alloc _ _)
    clear hW2
    refine (asOften_any (false, n) k (yv, m) l _ _ W2 Hga.out Hgb.out Hbk.out Hbl.out (HS.out.below hB2) (HU.out.below hB2)).mono ?_
    rintro e w1 ⟨rfl, hb1⟩
    have HB1 := hide (below_step hB2 hb1)
    have q0 := grow_cell hb1 _ _ p0
    have q1 := grow_cell hb1 _ _ p1
    have q2 := grow_cell hb1 _ _ p2
    have t0 := grow_cell hb1 _ _ r0
    have t1 := grow_cell hb1 _ _ r1
    have t2 := grow_cell hb1 _ _ r2
    clear p0 p1 p2 r0 r1 r2 hb1 hB2
    cases hmay : mayT ((false, n), k) ((yv, m), l)
    · have Hf := hide (abv_may hmay)
      clear hmay
      go_wp2_with fail
      go_ret
      exact ⟨by rw [Hf.out]; rfl, HB1.out⟩
    · have Hmay := hide hmay
      have HsA := hide (fun w' hb => psize_call (x := (false, n)) Hga.out.ok (HS.out.below HB1.out) Hbk.out w' hb)
      have HsB := hide (fun w' hb => psize_call (x := (yv, m)) Hgb.out.ok (HU.out.below HB1.out) Hbl.out w' hb)
      have hcur : Below w1.heap.size w1 w1.drew := (Below.refl _ _).drew
      clear hmay
      go_upto_region 3 with fail
      go_cut [5, 6] (fun s5 s6 wx => s5 = .int .i64 (tszR k : Nat) ∧ s6 = .int .i64 (tszR l : Nat) ∧ Below w1.heap.size w1 wx)
      case first =>
        go_region_held3 (fun w' => w'.cell? ⟨w.heap.size, 0, none⟩ = some (.bool false) ∧ w'.cell? ⟨w.heap.size, 1, none⟩ = some (.int .i64 n) ∧ w'.cell? ⟨w.heap.size, 2, none⟩ = some (.slice ad (Fo.len k) ac) ∧ w'.cell? ⟨w.heap.size + 1, 0, none⟩ = some (.bool yv) ∧ w'.cell? ⟨w.heap.size + 1, 1, none⟩ = some (.int .i64 m) ∧ w'.cell? ⟨w.heap.size + 1, 2, none⟩ = some (.slice ud (Fo.len l) uc))
          (first
            | (with_reducible exact ⟨grow_cell hcur _ _ q0, grow_cell hcur _ _ q1, grow_cell hcur _ _ q2, grow_cell hcur _ _ t0, grow_cell hcur _ _ t1, grow_cell hcur _ _ t2⟩)
            | go_keep)
          (first
            | (go_at_call 68; with_reducible refine (HsA.out _ hcur).mono ?_; rintro e wA ⟨rfl, hbA⟩; replace hcur := below_step hcur hbA)
            | (go_at_call 68; with_reducible refine (HsB.out _ hcur).mono ?_; rintro e wB ⟨rfl, hbB⟩; replace hcur := below_step hcur hbB))
        all_goals
          go_wp2_with fail
          go_meet
          case rel => exact ⟨rfl, rfl, hcur⟩
      case rest =>
        obtain ⟨rfl, rfl, hbx⟩ := hcut
        generalize wc = wx at *
        replace q1 := grow_cell hbx _ _ q1
        replace q2 := grow_cell hbx _ _ q2
        replace t0 := grow_cell hbx _ _ t0
        replace t1 := grow_cell hbx _ _ t1
        replace t2 := grow_cell hbx _ _ t2
        have HBx := hide (below_step HB1.out hbx)
        clear hcur q0 hbx
        by_cases hsz : tszR k = tszR l
        · have hne : ((tszR k : Int) != (tszR l : Int)) = false := by rw [hsz]; simp
          have Hsz := hide hsz
          clear hsz
          cases yv
          · by_cases hnm : n = m
            · have Hf := hide (abv_args (y := (false, m)) Hmay.out Hsz.out (by simp [hnm]) (by simp [hnm]))
              have hnb : (n != m) = false := by simp [hnm]
              have HcW := hide (within_of k HI.out l _ _ wx (fun t ht => gd_mem Hga.out rfl ht) (fun t ht => gd_mem Hgb.out rfl ht) (HS.out.below HBx.out) (HU.out.below HBx.out) Hbk.out Hbl.out)
              clear hnm
              go_wp2_with fail
              refine HcW.out.mono ?_
              rintro e w3 ⟨rfl, hb3⟩
              have Hend := hide (below_step HBx.out hb3)
              clear hb3
              go_wp2_with fail
              go_ret
              exact ⟨by rw [Hf.out]; rfl, Hend.out⟩
            · have hnb : (n != m) = true := by simpa using hnm
              by_cases hlt : m < n
              · have Hf := hide (abv_sym (y := (false, m)) Hmay.out Hsz.out (by simp; omega) hlt)
                clear hnm
                go_wp2_with fail
                go_ret
                exact ⟨by rw [Hf.out]; simp, HBx.out⟩
              · have Hf := hide (abv_less (y := (false, m)) Hmay.out Hsz.out (by simp; omega))
                clear hnm
                go_wp2_with fail
                go_ret
                exact ⟨by rw [Hf.out]; simp, HBx.out⟩
          · have Hf := hide (abv_less (y := (true, m)) Hmay.out Hsz.out rfl)
            go_wp2_with fail
            go_ret
            exact ⟨by rw [Hf.out]; rfl, HBx.out⟩
        · have hne : ((tszR k : Int) != (tszR l : Int)) = true := by rw [ne_dec]; exact decide_eq_true hsz
          have Hf := hide (abv_size Hmay.out hsz)
          clear hsz
          go_wp2_with fail
          go_ret
          exact ⟨by rw [Hf.out]; simp, HBx.out⟩
  · go_enter Tryz.func98, Tryz.ntmps98
    have Hb2 : Hid (Below w.heap.size w ((w.alloc (.cells #[.bool true, .int .i64 n, .slice ad (Fo.len k) ac] 36)).alloc (.cells #[.bool yv, .int .i64 m, .slice ud (Fo.len l) uc] 36))) := (below_alloc _ _).alloc (by simp) _
    go_wp2_with fail
    go_ret
    exact ⟨rfl, Hb2.out⟩

set_option maxRecDepth 100000 in
set_option maxHeartbeats 1000000 in
theorem compare_any (x : Bool × Int) (k : Fo) (y : Bool × Int) (l : Fo) (a c : Value) (w : World) (ga : Gd (x, k)) (gb : Gd (y, l)) (hS : SIn w k a) (hU : SIn w l c) (hbk : tszR k ≤ 4000000000000) (hbl : tszR l ≤ 4000000000000) :
    Calls Tryz.prog 69 #[.agg #[.bool x.1, .int .i64 x.2, a], .agg #[.bool y.1, .int .i64 y.2, c]] w fun e w' => e = .returned (.int .i64 (cmpT (x, k) (y, l))) ∧ Below w.heap.size w w' := by
  obtain ⟨xv, n⟩ := x
  obtain ⟨yv, m⟩ := y
  have Hga := hide ga
  have Hgb := hide gb
  have HS := hide hS
  have HU := hide hU
  have Hbk := hide hbk
  have Hbl := hide hbl
  obtain ⟨ad, ac, b, o, rfl, -, -, -, -⟩ := hS
  obtain ⟨ud, uc, ub, uo, rfl, -, -, -, -⟩ := hU
  clear hbk hbl ga gb
  go_enter Tryz.func69, Tryz.ntmps69
  go_wp2_with fail
  generalize hW2 : (w.alloc (.cells #[.bool xv, .int .i64 n, .slice ad (Fo.len k) ac] 36)).alloc (.cells #[.bool yv, .int .i64 m, .slice ud (Fo.len l) uc] 36) = W2
  have hB2 : Below w.heap.size w W2 := by rw [← hW2]; exact (below_alloc _ _).alloc (by simp) _
  have p0 : W2.cell? ⟨w.heap.size, 0, none⟩ = some (.bool xv) := by rw [← hW2, World.cell?_alloc_lt _ _ _ (by simp)]; exact new_cell rfl
  have p1 : W2.cell? ⟨w.heap.size, 1, none⟩ = some (.int .i64 n) := by rw [← hW2, World.cell?_alloc_lt _ _ _ (by simp)]; exact new_cell rfl
  have p2 : W2.cell? ⟨w.heap.size, 2, none⟩ = some (.slice ad (Fo.len k) ac) := by rw [← hW2, World.cell?_alloc_lt _ _ _ (by simp)]; exact new_cell rfl
  have r0 : W2.cell? ⟨w.heap.size + 1, 0, none⟩ = some (.bool yv) := by rw [← hW2]; exact new_cell (World.size_alloc _ _)
  have r1 : W2.cell? ⟨w.heap.size + 1, 1, none⟩ = some (.int .i64 m) := by rw [← hW2]; exact new_cell (World.size_alloc _ _)
  have r2 : W2.cell? ⟨w.heap.size + 1, 2, none⟩ = some (.slice ud (Fo.len l) uc) := by rw [← hW2]; exact new_cell (World.size_alloc _ _)
  clear hW2
  refine (same_any (xv, n) k (yv, m) l _ _ W2 (HS.out.below hB2) (HU.out.below hB2)).mono ?_
  rintro e w3 ⟨rfl, hb3⟩
  have hB3 := below_step hB2 hb3
  cases hs : sameT (xv, n) k (yv, m) l
  · have q0 := grow_cell hb3 _ _ p0
    have q1 := grow_cell hb3 _ _ p1
    have q2 := grow_cell hb3 _ _ p2
    have t0 := grow_cell hb3 _ _ r0
    have t1 := grow_cell hb3 _ _ r1
    have t2 := grow_cell hb3 _ _ r2
    have Hs := hide hs
    clear p0 p1 p2 r0 r1 r2 hs hb3 hB2
    go_wp2_with fail
    refine (above_any (xv, n) k (yv, m) l _ _ w3 Hga.out Hgb.out (HS.out.below hB3) (HU.out.below hB3) Hbk.out Hbl.out).mono ?_
    rintro e w4 ⟨rfl, hb4⟩
    have hB4 := below_step hB3 hb4
    cases h1 : abvT ((xv, n), k) ((yv, m), l)
    · have a0 := grow_cell hb4 _ _ q0
      have a1 := grow_cell hb4 _ _ q1
      have a2 := grow_cell hb4 _ _ q2
      have a3 := grow_cell hb4 _ _ t0
      have a4 := grow_cell hb4 _ _ t1
      have a5 := grow_cell hb4 _ _ t2
      have H1 := hide h1
      clear q0 q1 q2 t0 t1 t2 h1 hb4 hB3
      go_wp2_with fail
      refine (above_any (yv, m) l (xv, n) k _ _ w4 Hgb.out Hga.out (HU.out.below hB4) (HS.out.below hB4) Hbl.out Hbk.out).mono ?_
      rintro e w5 ⟨rfl, hb5⟩
      have hB5 := below_step hB4 hb5
      cases h2 : abvT ((yv, m), l) ((xv, n), k)
      · have Hf : Hid (cmpT ((xv, n), k) ((yv, m), l) = 0) := by simp [Hid, cmpT, Hs.out, H1.out, h2]
        clear h2
        go_wp2_with fail
        go_ret
        exact ⟨by rw [Hf.out]; rfl, hB5⟩
      · have Hf : Hid (cmpT ((xv, n), k) ((yv, m), l) = 1) := by simp [Hid, cmpT, Hs.out, H1.out, h2]
        clear h2
        go_wp2_with fail
        go_ret
        exact ⟨by rw [Hf.out]; rfl, hB5⟩
    · have Hf : Hid (cmpT ((xv, n), k) ((yv, m), l) = 3) := by simp [Hid, cmpT, Hs.out, h1]
      clear h1
      go_wp2_with fail
      go_ret
      exact ⟨by rw [Hf.out]; rfl, hB4⟩
  · have Hf : Hid (cmpT ((xv, n), k) ((yv, m), l) = 2) := by simp [Hid, cmpT, hs]
    clear hs
    go_wp2_with fail
    go_ret
    exact ⟨by rw [Hf.out]; rfl, hB3⟩

end Go.Proofs.YtfckelbdageenabGreatDoor
