/- The closed fact that is asked first in chapter 2: alive. -/
import Derived.Test.YtfckelbdageenabGreatDoorG16
import Derived.Test.YtfckelbdageenabGreatDoorG17
import Derived.Test.YtfckelbdageenabGreatDoorG15
namespace Go.Proofs.YtfckelbdageenabGreatDoor
open Go.RowKit Go.Deep Go.ChangeShapes Go.WideShapes
attribute [local go_sem ↓] Go.wp_at_zero Go.wp_at_succ

theorem parse_of {s : List Int} {l : List UInt8} {t : Tm} (h1 : wsig s = 0) (h2 : l.length ≤ 48) (h3 : readT s (l.length + 1) l = (0, t, [])) (h4 : wrongF s t.1 t.2 = 0) : parseT s l = (0, t) := by
  rw [parseT, h1, if_neg (by simp), if_neg (by omega), h3]
  simp [h4]

/-- Two right terms: where Unify begins. -/
theorem ui_of {t u : Tm} (ht : Gd t) (hu : Gd u) (h1 : depT t ≤ 12) (h2 : depT u ≤ 12) : UI [] [(t, u)] := by
  refine ⟨fun p hp => by simp at hp, fun p hp => by simp at hp, fun p hp => ?_, fun p hp => by simp at hp, by decide, ?_, fun p hp => by simp at hp⟩
  · simp only [List.mem_singleton] at hp
    subst hp
    exact ⟨ht, hu⟩
  · have e : ∀ z : Tm, Gd z → subT (bnd []) z = z := fun z hz => subT_vr hz.ok
    simp only [dpL, List.length_nil, Nat.add_zero, and_true]
    rw [e t ht, e u hu]
    simpa using ⟨h1, h2⟩

def ta : Tm := ((false, 0), .nil)
def tb (t : Tm) : Tm := ((false, 1), .node 0 0 t.1 t.2 .nil)
def tc (t u : Tm) : Tm := ((false, 2), .node 0 0 t.1 t.2 (.node 0 0 u.1 u.2 .nil))
theorem sg : ([0, 1, 2] : List Int).all okNum = true := by decide
theorem l1p : parseT [0, 1, 2] [99, 40, 88, 48, 44, 98, 40, 88, 49, 41, 41] = (0, tc (vr 0) (tb (vr 1))) := parse_of al_wsig (by decide) rfl (by decide +kernel)
theorem l2p : parseT [0, 1, 2] [99, 40, 98, 40, 97, 41, 44, 88, 48, 41] = (0, tc (tb ta) (vr 0)) := parse_of al_wsig (by decide) rfl (by decide +kernel)
theorem l3p : parseT [0, 1, 2] [99, 40, 88, 48, 44, 88, 49, 41] = (0, tc (vr 0) (vr 1)) := parse_of al_wsig (by decide) rfl (by decide +kernel)
theorem l4p : parseT [0, 1, 2] [99, 40, 97, 44, 98, 40, 97, 41, 41] = (0, tc ta (tb ta)) := parse_of al_wsig (by decide) rfl (by decide +kernel)
theorem l5p : parseT [0, 1, 2] [88, 48] = (0, vr 0) := parse_of al_wsig (by decide) rfl (by decide +kernel)
theorem l6p : parseT [0, 1, 2] [98, 40, 88, 48, 41] = (0, tb (vr 0)) := parse_of al_wsig (by decide) rfl (by decide +kernel)
theorem l7p : parseT [0, 1, 2] [88, 50] = (0, vr 2) := parse_of al_wsig (by decide) rfl (by decide +kernel)
theorem l8p : parseT [0, 1, 2] [97] = (0, ta) := parse_of al_wsig (by decide) rfl (by decide +kernel)
theorem l9p : parseT [0, 1, 2] [88, 49] = (0, vr 1) := parse_of al_wsig (by decide) rfl (by decide +kernel)
theorem g1 : Gd (tc (vr 0) (tb (vr 1))) ∧ depT (tc (vr 0) (tb (vr 1))) ≤ 12 ∧ tszR (tc (vr 0) (tb (vr 1))).2 ≤ 12 := gd_right sg rfl (by decide +kernel)
theorem g2 : Gd (tc (tb ta) (vr 0)) ∧ depT (tc (tb ta) (vr 0)) ≤ 12 ∧ tszR (tc (tb ta) (vr 0)).2 ≤ 12 := gd_right sg rfl (by decide +kernel)
theorem g3 : Gd (tc (vr 0) (vr 1)) ∧ depT (tc (vr 0) (vr 1)) ≤ 12 ∧ tszR (tc (vr 0) (vr 1)).2 ≤ 12 := gd_right sg rfl (by decide +kernel)
theorem g4 : Gd (tc ta (tb ta)) ∧ depT (tc ta (tb ta)) ≤ 12 ∧ tszR (tc ta (tb ta)).2 ≤ 12 := gd_right sg rfl (by decide +kernel)
theorem g5 : Gd (vr 0) ∧ depT (vr 0) ≤ 12 ∧ tszR (vr 0).2 ≤ 12 := gd_right (s := [0, 1, 2]) sg rfl (by decide +kernel)
theorem g6 : Gd (tb (vr 0)) ∧ depT (tb (vr 0)) ≤ 12 ∧ tszR (tb (vr 0)).2 ≤ 12 := gd_right sg rfl (by decide +kernel)
theorem g8 : Gd ta ∧ depT ta ≤ 12 ∧ tszR ta.2 ≤ 12 := gd_right sg rfl (by decide +kernel)
theorem g9 : Gd (tb ta) ∧ depT (tb ta) ≤ 12 ∧ tszR (tb ta).2 ≤ 12 := gd_right sg rfl (by decide +kernel)
theorem u1 : runU 10 [] [(tc (vr 0) (tb (vr 1)), tc (tb ta) (vr 0))] = some (some [(0, tb ta), (1, ta)]) := by kernel_rfl
theorem u2 : runU 10 [] [(vr 0, tb (vr 0))] = some none := by kernel_rfl
theorem e1 : extT [] (tc (vr 0) (vr 1)) (tc ta (tb ta)) = some [(0, ta), (1, tb ta)] := by kernel_rfl
theorem e2 : extT [(0, ta), (1, tb ta)] (vr 2) ta = some [(0, ta), (1, tb ta), (2, ta)] := by kernel_rfl
theorem s1 : subT (bnd [(0, tb ta), (1, ta)]) (tc (vr 0) (vr 1)) = tc (tb ta) ta := by kernel_rfl
theorem x1 : textT (tc (tb ta) ta).1 (tc (tb ta) ta).2 = [99, 40, 98, 40, 97, 41, 44, 97, 41] := by kernel_rfl
theorem byte_eq {U : ByteArray} {l : List UInt8} (h : U.data.toList = l) : U = ⟨l.toArray⟩ := by
  obtain ⟨d⟩ := U
  simp only at h
  subst h
  simp

theorem all2 : ∀ p ∈ ([(0, tb ta), (1, ta)] : Sb), narT p.2 ∧ okT p.2 := fun p hp => by
  simp only [List.mem_cons, List.not_mem_nil, or_false] at hp
  rcases hp with rfl | rfl
  · exact ⟨g9.1.nar, g9.1.ok⟩
  · exact ⟨g8.1.nar, g8.1.ok⟩
theorem all3 : ∀ p ∈ ([(0, ta), (1, tb ta)] : Sb), narT p.2 ∧ okT p.2 := fun p hp => by
  simp only [List.mem_cons, List.not_mem_nil, or_false] at hp
  rcases hp with rfl | rfl
  · exact ⟨g8.1.nar, g8.1.ok⟩
  · exact ⟨g9.1.nar, g9.1.ok⟩

set_option maxRecDepth 100000 in
theorem cap {w : World} {vs a : Value} (hv : SubIn w [(0, tb ta), (1, ta)] vs) (h1 : SIn w (tc (vr 0) (vr 1)).2 a) : Calls Tryz.prog 57 #[vs, .agg #[.bool false, .int .i64 2, a]] w fun e w' => ∃ a1 a2 a3, e = .returned (.agg #[.bool false, .int .i64 2, .slice a1 a2 a3]) ∧ SIn w' (tc (tb ta) ta).2 (.slice a1 a2 a3) ∧ Below w.heap.size w w' := by
  refine (apply_any _ vs (false, 2) (tc (vr 0) (vr 1)).2 a w hv all2 h1 g3.1.nar).mono ?_
  rintro e w' ⟨a', rfl, hO, hb⟩
  have e : subT (bnd [(0, tb ta), (1, ta)]) ((false, 2), (tc (vr 0) (vr 1)).2) = tc (tb ta) ta := s1
  rw [e] at hO ⊢
  obtain ⟨z1, z2, z3, rfl⟩ := slice_of_sin hO.toS
  exact ⟨z1, z2, z3, rfl, hO.toS, hb⟩
set_option maxRecDepth 100000 in
theorem ctx {w : World} {a : Value} (h1 : SIn w (tc (tb ta) ta).2 a) : Calls Tryz.prog 51 #[.agg #[.bool false, .int .i64 2, a]] w fun e w' => e = .returned (.string ⟨#[99, 40, 98, 40, 97, 41, 44, 97, 41]⟩) ∧ Below w.heap.size w w' := by
  refine (textR_any (false, 2) (tc (tb ta) ta).2 a w h1 (by decide) (by simp [tc, tb, ta, Fo.texts]) (by have := x1; simp only [tc] at this ⊢; rw [this]; decide)).mono ?_
  rintro e w' ⟨U, rfl, hU, hb⟩
  have e : textT (false, 2) (tc (tb ta) ta).2 = [99, 40, 98, 40, 97, 41, 44, 97, 41] := x1
  rw [e] at hU
  rw [byte_eq hU]
  exact ⟨rfl, hb⟩
set_option maxRecDepth 100000 in
theorem crn {w : World} {a : Value} (h1 : SIn w .nil a) : Calls Tryz.prog 59 #[.agg #[.bool true, .int .i64 1, a], .int .i64 5] w fun e w' => ∃ a1 a2 a3, e = .returned (.agg #[.bool true, .int .i64 6, .slice a1 a2 a3]) ∧ Below w.heap.size w w' := by
  refine (rename_any 5 (true, 1) .nil a w h1 ⟨by decide, trivial⟩).mono ?_
  rintro e w' ⟨a', rfl, hO, hb⟩
  obtain ⟨z1, z2, z3, rfl⟩ := slice_of_sin hO.toS
  exact ⟨z1, z2, z3, by rw [show subT (ren 5) ((true, 1), .nil) = vr 6 by kernel_rfl]; rfl, hb⟩

end Go.Proofs.YtfckelbdageenabGreatDoor

/- Made the same: what the law asks, told of terms alone; is a term without variables? -/
namespace Go.Proofs.YtfckelbdageenabGreatDoor
open Go.RowKit Go.Deep Go.ChangeShapes Go.WideShapes
attribute [local go_sem ↓] Go.wp_at_zero Go.wp_at_succ

/-- What Unify finds, from right terms. -/
theorem unify_ok {n : Nat} {t u : Tm} {s : Sb} (hUI : UI [] [(t, u)]) (h : runU n [] [(t, u)] = some (some s)) : (∀ p ∈ s, Gd p.2) ∧ subT (bnd s) t = subT (bnd s) u := by
  obtain ⟨h1, _, h3⟩ := runU_sound n [] s [(t, u)] hUI h
  exact ⟨h1.gs, h3 (t, u) (by simp)⟩
/-- Whatever makes two terms the same is what is found, and then more. -/
theorem unify_most {n : Nat} {t u : Tm} {R : Option Sb} {σ : Int → Tm} (hUI : UI [] [(t, u)]) (h : runU n [] [(t, u)] = some R) (hσ : subT σ t = subT σ u) : ∃ s, R = some s ∧ subT σ (subT (bnd s) t) = subT σ t := by
  obtain ⟨s, hs, h2⟩ := runU_most (σ := σ) n [] R [(t, u)] hUI h (fun p hp => by simp at hp) (fun p hp => by simp only [List.mem_singleton] at hp; subst hp; exact hσ)
  refine ⟨s, hs, ?_⟩
  rw [subT_sub]
  refine subT_congr fun m _ => ?_
  cases e : look s m with
  | none => rw [bnd_none e]; rfl
  | some z => rw [bnd_some e]; exact h2 _ (look_mem e)

end Go.Proofs.YtfckelbdageenabGreatDoor

/- Made the same: the law's own walk. -/
namespace Go.Proofs.YtfckelbdageenabGreatDoor
open Go.RowKit Go.Deep Go.ChangeShapes Go.WideShapes
attribute [local go_sem ↓] Go.wp_at_zero Go.wp_at_succ

def LawPost (w : World) (e : Ending) (w' : World) : Prop := e = .returned (.bool true) ∧ Below w.heap.size w w'

theorem sin_keep {X : Nat → Prop} {w w' : World} {k : Fo} {a : Value} (h : SB X w k a) (hr : ∀ q, X q → w'.heap[q]? = w.heap[q]?) : SIn w' k a := (h.kept hr).toS
theorem heap0 {W : World} {o1 o2 : Obj} {q : Nat} (h : q < W.heap.size) : ((W.alloc o1).alloc o2).heap[q]? = W.heap[q]? := by
  rw [Below.heap_alloc _ _ _ (by simp; omega), Below.heap_alloc _ _ _ h]
theorem heap1 {W : World} {b q : Nat} {x y z : Value} {o : Obj} (h : q < W.heap.size) (hn : q ≠ b) : ((((W.setCell ⟨b, 0, none⟩ x).setCell ⟨b, 1, none⟩ y).setCell ⟨b, 2, none⟩ z).alloc o).heap[q]? = W.heap[q]? := by
  have hs : (set3 W b 0 x y z).heap.size = W.heap.size := set3_size
  have e : (((W.setCell ⟨b, 0, none⟩ x).setCell ⟨b, 1, none⟩ y).setCell ⟨b, 2, none⟩ z) = set3 W b 0 x y z := rfl
  rw [e, Below.heap_alloc _ _ _ (by rw [hs]; exact h), set3_heap hn]
theorem heap2 {W : World} {b d q : Nat} {x y z x' y' z' : Value} (hn : q ≠ b) (hd : q ≠ d) : ((((((W.setCell ⟨b, 0, none⟩ x).setCell ⟨b, 1, none⟩ y).setCell ⟨b, 2, none⟩ z).setCell ⟨d, 0, none⟩ x').setCell ⟨d, 1, none⟩ y').setCell ⟨d, 2, none⟩ z').heap[q]? = W.heap[q]? := by
  have e : ((((((W.setCell ⟨b, 0, none⟩ x).setCell ⟨b, 1, none⟩ y).setCell ⟨b, 2, none⟩ z).setCell ⟨d, 0, none⟩ x').setCell ⟨d, 1, none⟩ y').setCell ⟨d, 2, none⟩ z') = set3 (set3 W b 0 x y z) d 0 x' y' z' := rfl
  rw [e, set3_heap hd, set3_heap hn]

/-- The document's Apply, whenever it is called. -/
theorem applyR_call {W wn : World} {s : Sb} {vs : Value} {x z : Bool × Int} {k zk : Fo} {a : Value} (hb0 : Below W.heap.size W wn) (hV : SubIn W s vs) (hs : ∀ p ∈ s, okT p.2) (hS : SIn W k a) (hok : okT (x, k)) (hnar : narT (x, k)) (hz : (z, zk) = subT (bnd s) (x, k)) (w' : World) (hb : Below wn.heap.size wn w') :
    Calls Tryz.prog 25 #[vs, .agg #[.bool x.1, .int .i64 x.2, a]] w' fun e w'' => ∃ (x1 : Option Addr) (x2 x3 m : Nat), m = w'.heap.size ∧ e = .returned (.agg #[.bool z.1, .int .i64 z.2, .slice x1 x2 x3]) ∧ SB (fun q => q < wn.heap.size ∨ (m ≤ q ∧ q < w''.heap.size)) w'' zk (.slice x1 x2 x3) ∧ Below w'.heap.size w' w'' := by
  refine (applyR_any x k s vs W a w' (below_step hb0 hb) hV hs hS hok hnar).mono ?_
  rintro e w'' ⟨x1, x2, x3, rfl, hSB, hb2⟩
  rw [← hz] at hSB ⊢
  have h0 := hb0.size
  exact ⟨x1, x2, x3, _, rfl, rfl, hSB.wide (fun q hq => by rcases hq with h | h; exact .inl (by omega); exact .inr h), hb2⟩
/-- Apply, whenever it is called. -/
theorem apply_call {wn : World} {s : Sb} {vs : Value} {x z : Bool × Int} {k zk : Fo} {a : Value} (hV : SubIn wn s vs) (hs : ∀ p ∈ s, Gd p.2) (hS : SIn wn k a) (hnar : narT (x, k)) (hz : (z, zk) = subT (bnd s) (x, k)) (w' : World) (hb : Below wn.heap.size wn w') :
    Calls Tryz.prog 57 #[vs, .agg #[.bool x.1, .int .i64 x.2, a]] w' fun e w'' => ∃ (x1 : Option Addr) (x2 x3 : Nat), e = .returned (.agg #[.bool z.1, .int .i64 z.2, .slice x1 x2 x3]) ∧ SIn w'' zk (.slice x1 x2 x3) ∧ Below w'.heap.size w' w'' := by
  refine (apply_any s vs x k a w' (hV.below hb) (fun p hp => ⟨(hs p hp).nar, (hs p hp).ok⟩) (hS.below hb) hnar).mono ?_
  rintro e w'' ⟨a', rfl, hO, hb2⟩
  rw [← hz] at hO ⊢
  obtain ⟨z1, z2, z3, rfl⟩ := slice_of_sin hO.toS
  exact ⟨z1, z2, z3, rfl, hO.toS, hb2⟩

end Go.Proofs.YtfckelbdageenabGreatDoor

/- What the document's solve is held against, told of terms alone; and two boxes that are written. -/
namespace Go.Proofs.YtfckelbdageenabGreatDoor
open Go.RowKit Go.Deep Go.ChangeShapes Go.WideShapes

/-- Equations ls = rs are, by the bindings s, those of L. -/
structure Eqs (s : Sb) (L : List (Tm × Tm)) (ls rs : List Tm) : Prop where
  ui : UI s L
  el : ls.map (subT (bnd s)) = L.map fun p => subT (bnd s) p.1
  er : rs.map (subT (bnd s)) = L.map fun p => subT (bnd s) p.2
  gl : ∀ t ∈ ls, Gd t
  gr : ∀ t ∈ rs, Gd t

theorem Eqs.nil {s : Sb} {ls rs : List Tm} (h : Eqs s [] ls rs) : ls = [] ∧ rs = [] := ⟨by simpa using h.el, by simpa using h.er⟩
theorem Eqs.len {s : Sb} {L : List (Tm × Tm)} {ls rs : List Tm} (h : Eqs s L ls rs) : ls.length = L.length ∧ rs.length = L.length :=
  ⟨by simpa using congrArg List.length h.el, by simpa using congrArg List.length h.er⟩
theorem Eqs.cons {s : Sb} {p : Tm × Tm} {L : List (Tm × Tm)} {ls rs : List Tm} (h : Eqs s (p :: L) ls rs) :
    ∃ t lt u rt, ls = t :: lt ∧ rs = u :: rt ∧ Eqs s L lt rt ∧ subT (bnd s) t = subT (bnd s) p.1 ∧ subT (bnd s) u = subT (bnd s) p.2 ∧ Gd t ∧ Gd u := by
  obtain ⟨h0, h1, h2, h3, h4⟩ := h
  cases ls with
  | nil => simp at h1
  | cons t lt =>
    cases rs with
    | nil => simp at h2
    | cons u rt =>
      simp only [List.map_cons, List.cons.injEq] at h1 h2
      exact ⟨t, lt, u, rt, rfl, rfl, ⟨ui_tail h0, h1.2, h2.2, fun z hz => h3 z (by simp [hz]), fun z hz => h4 z (by simp [hz])⟩, h1.1, h2.1, h3 t (by simp), h4 u (by simp)⟩
/-- What was bound stays as it is. -/
theorem sub_twice {s : Sb} {L : List (Tm × Tm)} (h : UI s L) (t : Tm) : subT (bnd s) (subT (bnd s) t) = subT (bnd s) t := ref_sub (ref_refl h.idem (ui_ok h)) t
theorem args_twice {s : Sb} {L : List (Tm × Tm)} (h : UI s L) {t X : Tm} (hX : X = subT (bnd s) t) (hv : X.1.1 = false) : X.2.list.map (subT (bnd s)) = X.2.list := by
  have e : subT (bnd s) X = X := by rw [hX]; exact sub_twice h t
  obtain ⟨⟨xv, xn⟩, k⟩ := X
  simp only at hv
  subst hv
  rw [subT_sym] at e
  simp only [Prod.mk.injEq, true_and] at e
  show k.list.map _ = k.list
  rw [← subF_list, e]
theorem Eqs.args {n : Nat} {s : Sb} {p : Tm × Tm} {L : List (Tm × Tm)} {R : Option Sb} {lt rt : List Tm} {t u X Y : Tm} (hp : UI s (p :: L)) (h : Eqs s L lt rt) (hr : runU n s (p :: L) = some R) (hX : X = subT (bnd s) t) (hY : Y = subT (bnd s) u) (et : subT (bnd s) t = subT (bnd s) p.1) (eu : subT (bnd s) u = subT (bnd s) p.2) (gt : Gd t) (gu : Gd u) (hx : X.1.1 = false) (hy : Y.1.1 = false) :
    (¬ (X.1.2 = Y.1.2 ∧ Fo.len X.2 = Fo.len Y.2) → R = none) ∧ (X.1.2 = Y.1.2 ∧ Fo.len X.2 = Fo.len Y.2 → ∃ m L', m < n ∧ Eqs s L' (X.2.list ++ lt) (Y.2.list ++ rt) ∧ runU m s L' = some R) := by
  have eX : X = subT (bnd s) p.1 := hX.trans et
  have eY : Y = subT (bnd s) p.2 := hY.trans eu
  have := run_sym hp hr (by rw [← eX, hx]; decide) (by rw [← eY, hy]; decide)
  rw [← eX, ← eY] at this
  refine ⟨this.1, fun hc => ?_⟩
  obtain ⟨m, M, h1, h2, h3, h4, h5⟩ := this.2 hc
  have gX : Gd X := by rw [hX]; exact gd_sub hp.gs gt
  have gY : Gd Y := by rw [hY]; exact gd_sub hp.gs gu
  obtain ⟨⟨xv, xn⟩, xk⟩ := X
  obtain ⟨⟨yv, yn⟩, yk⟩ := Y
  refine ⟨m, M ++ L, h1, ⟨h2, ?_, ?_, ?_, ?_⟩, h3⟩
  · rw [List.map_append, List.map_append, h.el, args_twice hp hX hx, h4]
  · rw [List.map_append, List.map_append, h.er, args_twice hp hY hy, h5]
  · intro z hz
    rcases List.mem_append.1 hz with hz | hz
    · exact gd_mem gX hx hz
    · exact h.gl z hz
  · intro z hz
    rcases List.mem_append.1 hz with hz | hz
    · exact gd_mem gY hy hz
    · exact h.gr z hz
theorem Eqs.bind {n : Nat} {s : Sb} {p : Tm × Tm} {L : List (Tm × Tm)} {R : Option Sb} {lt rt : List Tm} {t u X Y U V : Tm} (hp : UI s (p :: L)) (h : Eqs s L lt rt) (hr : runU n s (p :: L) = some R) (hX : X = subT (bnd s) t) (hY : Y = subT (bnd s) u) (et : subT (bnd s) t = subT (bnd s) p.1) (eu : subT (bnd s) u = subT (bnd s) p.2) (hne : X ≠ Y)
    (huv : (U = X ∧ V = Y ∧ U.1.1 = true) ∨ (U = Y ∧ V = X ∧ U.1.1 = true ∧ ¬ V.1.1 = true)) :
    (addS s U.1.2 V = none → R = none) ∧ ∀ s1, addS s U.1.2 V = some s1 → ∃ m, m < n ∧ Eqs s1 L lt rt ∧ runU m s1 L = some R := by
  have eX : X = subT (bnd s) p.1 := hX.trans et
  have eY : Y = subT (bnd s) p.2 := hY.trans eu
  rw [eX, eY] at huv hne
  obtain ⟨h1, h2⟩ := run_var hp hr hne huv
  refine ⟨h1, fun s1 e => ?_⟩
  obtain ⟨m, k1, k2, k3, k4⟩ := h2 s1 e
  have up : ∀ (f : Tm × Tm → Tm) (xs : List Tm), xs.map (subT (bnd s)) = L.map (fun p => subT (bnd s) (f p)) → xs.map (subT (bnd s1)) = L.map (fun p => subT (bnd s1) (f p)) := by
    intro f xs hh
    have e2 := congrArg (List.map (subT (bnd s1))) hh
    simp only [List.map_map] at e2
    have e3 : (subT (bnd s1)) ∘ (subT (bnd s)) = subT (bnd s1) := funext fun z => ref_sub k4 z
    have e4 : (subT (bnd s1)) ∘ (fun p => subT (bnd s) (f p)) = fun p => subT (bnd s1) (f p) := funext fun z => ref_sub k4 (f z)
    rw [e3, e4] at e2
    exact e2
  exact ⟨m, k1, ⟨k2, up Prod.fst lt h.el, up Prod.snd rt h.er, h.gl, h.gr⟩, k3⟩
theorem Eqs.skip {n : Nat} {s : Sb} {p : Tm × Tm} {L : List (Tm × Tm)} {R : Option Sb} {t u X Y : Tm} (hp : UI s (p :: L)) (hr : runU n s (p :: L) = some R) (hX : X = subT (bnd s) t) (hY : Y = subT (bnd s) u) (et : subT (bnd s) t = subT (bnd s) p.1) (eu : subT (bnd s) u = subT (bnd s) p.2) (he : X = Y) : ∃ m, m < n ∧ runU m s L = some R :=
  run_skip n s p L R hp hr (by rw [← et, ← eu, ← hX, ← hY, he])

/-- The first term away. -/
theorem terms_rest {n c b o : Nat} (hn : 1 ≤ n) (hlc : n ≤ c) : ∃ z1 : Option Addr, (∀ w : World, (Instr.slice 34 (.slice (some ⟨b, o, none⟩) n c) (some (.int .i64 1)) none none).run Tryz.prog w = .ok (.slice z1 (n - 1) (c - 1)) w) ∧ (1 < n → z1 = some ⟨b, o + 3, none⟩) := by
  refine ⟨if c = 1 then some ⟨b, o, none⟩ else some ⟨b, o + 3, none⟩, fun w => ?_, fun h => if_neg (by omega)⟩
  rw [run_slice_l (ht := by kernel_rfl) (h0 := by omega) (h1 := by omega)]
  have e : (sizeOf (Tryz.prog.elem 34)).run Tryz.prog w = .ok 3 w := by
    rw [show Tryz.prog.elem 34 = 36 by kernel_rfl]
    simp [go_sem]
  by_cases hc : c = 1
  · simp [Result.andThen, sliced, e, hc]
  · simp [Result.andThen, sliced, e, hc, Addr.add]
theorem sin_rest {w : World} {t : Tm} {ts : List Tm} {b o c : Nat} {z1 : Option Addr} (h : FIn w (foOf (t :: ts)) b o) (hc : ts.length + 1 ≤ c) (hm : c ≤ maxLen) (hz : 1 < ts.length + 1 → z1 = some ⟨b, o + 3, none⟩) : SIn w (foOf ts) (.slice z1 (ts.length + 1 - 1) (c - 1)) := by
  obtain ⟨_, _, _, h4⟩ := FIn.node h
  exact ⟨z1, c - 1, b, o + 3, by rw [foOf_len]; rfl, fun h => hz (by rw [foOf_len] at h; omega), by rw [foOf_len]; omega, by omega, h4⟩

/-- Two boxes that may be written, laid since wn. -/
def Bxs (wn wx : World) (b d : Nat) (x y z x' y' z' : Value) : Prop := (C3 wx b x y z ∧ C3 wx d x' y' z' ∧ Below wn.heap.size wn wx) ∧ ((∀ i, wx.frozen? ⟨b, i, none⟩ = false) ∧ (∀ i, wx.frozen? ⟨d, i, none⟩ = false)) ∧ wn.heap.size ≤ b ∧ wn.heap.size ≤ d ∧ b ≠ d
theorem Bxs.swap {wn wx : World} {b d : Nat} {x y z x' y' z' : Value} (h : Bxs wn wx b d x y z x' y' z') : Bxs wn wx d b x' y' z' x y z := ⟨swap3 h.1, ⟨h.2.1.2, h.2.1.1⟩, h.2.2.2.1, h.2.2.1, Ne.symm h.2.2.2.2⟩
theorem gin0 {wn W : World} {x y z x' y' z' : Value} (h : Below wn.heap.size wn W) : Bxs wn ((W.alloc (.cells #[x, y, z] 36)).alloc (.cells #[x', y', z'] 36)) W.heap.size (W.heap.size + 1) x y z x' y' z' := by
  have hs := h.size
  refine ⟨fin0 h, ⟨fun i => ?_, fun i => new_frozen (World.size_alloc _ _)⟩, hs, by omega, by omega⟩
  exact ((below_alloc _ _).frozen (p := ⟨W.heap.size, i, none⟩) (by simp)).trans (new_frozen rfl)
theorem gin1 {wn W : World} {b : Nat} {x y z x' y' z' u0 u1 u2 : Value} (h : Below wn.heap.size wn W) (hb : wn.heap.size ≤ b) (h0 : W.cell? ⟨b, 0, none⟩ = some u0) (h1 : W.cell? ⟨b, 1, none⟩ = some u1) (h2 : W.cell? ⟨b, 2, none⟩ = some u2) (hf : ∀ i, W.frozen? ⟨b, i, none⟩ = false) :
    Bxs wn ((((W.setCell ⟨b, 0, none⟩ x).setCell ⟨b, 1, none⟩ y).setCell ⟨b, 2, none⟩ z).alloc (.cells #[x', y', z'] 36)) b W.heap.size x y z x' y' z' := by
  have hs := h.size
  have hbl : b < W.heap.size := World.block_lt_of_cell? _ _ h0
  have hsz : (set3 W b 0 x y z).heap.size = W.heap.size := set3_size
  refine ⟨fin1 h hb h0 h1 h2, ⟨fun i => ?_, fun i => new_frozen hsz⟩, hb, hs, by omega⟩
  have e : (((W.setCell ⟨b, 0, none⟩ x).setCell ⟨b, 1, none⟩ y).setCell ⟨b, 2, none⟩ z) = set3 W b 0 x y z := rfl
  rw [e]
  exact ((below_alloc _ _).frozen (p := ⟨b, i, none⟩) (by rw [hsz]; exact hbl)).trans (set3_frozen.trans (hf i))
theorem gin2 {wn W : World} {b d : Nat} {x y z x' y' z' u0 u1 u2 t0 t1 t2 : Value} (h : Below wn.heap.size wn W) (hb : wn.heap.size ≤ b) (hd : wn.heap.size ≤ d) (hn : b ≠ d) (h0 : W.cell? ⟨b, 0, none⟩ = some u0) (h1 : W.cell? ⟨b, 1, none⟩ = some u1) (h2 : W.cell? ⟨b, 2, none⟩ = some u2) (hf : ∀ i, W.frozen? ⟨b, i, none⟩ = false) (k0 : W.cell? ⟨d, 0, none⟩ = some t0) (k1 : W.cell? ⟨d, 1, none⟩ = some t1) (k2 : W.cell? ⟨d, 2, none⟩ = some t2) (kf : ∀ i, W.frozen? ⟨d, i, none⟩ = false) :
    Bxs wn ((((((W.setCell ⟨b, 0, none⟩ x).setCell ⟨b, 1, none⟩ y).setCell ⟨b, 2, none⟩ z).setCell ⟨d, 0, none⟩ x').setCell ⟨d, 1, none⟩ y').setCell ⟨d, 2, none⟩ z') b d x y z x' y' z' := by
  have e : ((((((W.setCell ⟨b, 0, none⟩ x).setCell ⟨b, 1, none⟩ y).setCell ⟨b, 2, none⟩ z).setCell ⟨d, 0, none⟩ x').setCell ⟨d, 1, none⟩ y').setCell ⟨d, 2, none⟩ z') = set3 (set3 W b 0 x y z) d 0 x' y' z' := rfl
  refine ⟨fin2 h hb hd hn h0 h1 h2 k0 k1 k2, ⟨fun i => ?_, fun i => ?_⟩, hb, hd, hn⟩
  · rw [e, set3_frozen, set3_frozen]; exact hf i
  · rw [e, set3_frozen, set3_frozen]; exact kf i
/-- Terms that lie outside two boxes. -/
def Off (w : World) (b d : Nat) : Nat → Prop := fun q => q < w.heap.size ∧ q ≠ b ∧ q ≠ d
theorem sb_keep {X : Nat → Prop} {w w' : World} {b d : Nat} {k : Fo} {a : Value} (h : SB X w k a) (hr : ∀ q, X q → w'.heap[q]? = w.heap[q]? ∧ q < w.heap.size ∧ q ≠ b ∧ q ≠ d) : SB (Off w' b d) w' k a := by
  refine h.frame (fun q hq => ?_) (fun q i hq => World.cell?_of_block (hr q hq).1)
  obtain ⟨h1, h2, h3, h4⟩ := hr q hq
  refine ⟨?_, h3, h4⟩
  rcases Nat.lt_or_ge q w'.heap.size with h' | h'
  · exact h'
  · rw [Array.getElem?_eq_none h', Array.getElem?_eq_getElem h2] at h1
    cases h1
theorem sb_swapped {w : World} {b d : Nat} {k : Fo} {a x y z x' y' z' : Value} (h : SB (Off w b d) w k a) : SIn (set3 (set3 w b 0 x y z) d 0 x' y' z') k a :=
  (h.kept (fun q hq => by rw [set3_heap hq.2.2, set3_heap hq.2.1])).toS

theorem Side.init (wx : World) : Side wx wx (.slice none 0 0) [] (.slice none 0 0) [] := ⟨Below.refl _ _, Row.nil _ _, Row.nil _ _, fun g h => by simp [Value.ownBlock] at h⟩
theorem Row.drew {lo : Nat} {w : World} {v : Value} {ts : List Tm} (h : Row lo w v ts) : Row lo w.drew v ts := by
  obtain ⟨xs, h1, h2⟩ := h
  have hr : ∀ q i, q < lo → w.drew.cell? ⟨q, i, none⟩ = w.cell? ⟨q, i, none⟩ := fun q i _ => rfl
  exact ⟨xs, h1, h2.frame (fun _ h => h) hr⟩
theorem Side.drew {wx w : World} {va vb : Value} {a b : List Tm} (h : Side wx w va a vb b) : Side wx w.drew va a vb b := ⟨h.below.drew, h.ra.drew, h.rb.drew, h.ap⟩

/-- All blocks but the row's own. -/
def XO (w : World) (v : Value) : Nat → Prop := fun q => q < w.heap.size ∧ some q ≠ v.ownBlock
theorem own_nil (lo : Nat) (w : World) : OwnS lo (XO w (.slice none 0 0)) w [] (.slice none 0 0) [] := ⟨World.ownsRow_nil _ _ _ _, rfl, fun _ h => h⟩
/-- One pair more, whose term was made by a call, or was there. -/
theorem out_next {lo : Nat} {wr w3 w4 : World} {s : Sb} {v : Value} {xs : List Value} {n : Int} {t : Tm} {a : Value} {ob : Obj} {g cap j : Nat} (h : OwnS lo (XO wr v) wr s v xs) (hj : s.length = j) (hb : Below wr.heap.size wr w3) (hlo : lo ≤ wr.heap.size) (hO : SB (fun q => q < lo ∨ (wr.heap.size ≤ q ∧ q < w3.heap.size)) w3 t.2 a)
    (ho : w4.ownsRow lo 38 4 (.slice (some ⟨g, 0, none⟩) (j + 1) cap) (j + 1) (xs ++ [.int .i64 n, .bool t.1.1, .int .i64 t.1.2, a])) (hg : (w3.alloc ob).grownBy w4 v.ownBlock) (hat : v.ownBlock = some g ∨ g = w3.heap.size + 1) (hlt : g < w4.heap.size) :
    OwnS lo (XO w4 (.slice (some ⟨g, 0, none⟩) (j + 1) cap)) w4 (s ++ [(n, t)]) (.slice (some ⟨g, 0, none⟩) (j + 1) cap) (xs ++ [.int .i64 n, .bool t.1.1, .int .i64 t.1.2, a]) ∧ Below lo wr w4 := by
  subst hj
  have hs := hb.size
  have hv : ∀ q, v.ownBlock = some q → lo ≤ q ∧ q < wr.heap.size := fun q hq => owns_at h.row q hq
  have h3 : OwnS lo (XO w3 v) w3 s v xs := (h.below hb).wide (fun q hq => ⟨by have := hq.1; omega, hq.2⟩) (fun _ h => h)
  have hO3 : SB (XO w3 v) w3 t.2 a := hO.wide (fun q hq => by
    refine ⟨by omega, fun e => ?_⟩
    have := hv q e.symm
    omega)
  obtain ⟨h1, h2, _⟩ := own_snoc2 (n := n) (t := t) h3 hO3 ho hg hat hlt
  refine ⟨h1.wide (fun q hq => h1.off q hq) (fun _ h => h), (hb.mono hlo).trans ⟨h2.os, h2.tape, h2.output, h2.size, fun q hq => h2.block q (by omega) (fun e => ?_) (by simp)⟩⟩
  have := hv q e.symm
  omega
/-- Another row behind it. -/
theorem row_more {lo : Nat} {X : Nat → Prop} {w w' : World} {s s' : Sb} {v v' : Value} {xs news : List Value} (h : OwnS lo X w s v xs) (hn : PC X w s' news) (ho : w'.ownsRow lo 38 4 v' (s.length + s'.length) (xs ++ news)) (hg : w.grownBy w' v.ownBlock) : SubIn w' (s ++ s') v' := by
  have hr : ∀ q i, X q → w'.cell? ⟨q, i, none⟩ = w.cell? ⟨q, i, none⟩ := fun q i hq => World.cell?_of_block (hg.block q (h.off q hq).1 (h.off q hq).2)
  exact row_sub (X := X) (xs := xs ++ news) (by simpa using ho) (PC.append (hn.frame (fun _ hq => hq) hr) (h.cells.frame (fun _ hq => hq) hr))
theorem take_more {f : Int × Tm → Int × Tm} {s : Sb} {j : Nat} {p : Int × Tm} (h : s[j]? = some p) : (s.take (j + 1)).map f = (s.take j).map f ++ [f p] := by
  rw [List.take_add_one, h]
  simp

end Go.Proofs.YtfckelbdageenabGreatDoor
