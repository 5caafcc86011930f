/- A text is read: the document's Read and Parse. -/
import Derived.Test.YtleogbdinafpaaaG15
import Derived.Test.YtleogbdinafpaaaG14
namespace Go.Proofs.Ytleogbdinafpaaa
open Go.RowKit Go.Deep Go.ChangeShapes Go.WideShapes
attribute [local go_sem ↓] Go.wp_at_zero Go.wp_at_succ

theorem readT_err {s : List Int} : ∀ {f : Nat} {l : List UInt8}, (readT s f l).1 ≠ 0 → (readT s f l).2 = (((false, 0), .nil), [])
  | 0, _, _ => rfl
  | _ + 1, [], _ => rfl
  | f + 1, c :: r, h => by
    rw [readT] at h ⊢
    by_cases h88 : c = 88
    · rw [if_pos h88] at h ⊢
      cases r with
      | nil => rfl
      | cons d r =>
        rw [rvar] at h ⊢
        by_cases hd : (d.toNat : Int) - 48 < 0 ∨ 5 ≤ (d.toNat : Int) - 48
        · rw [if_pos hd]
        · rw [if_neg hd] at h; exact absurd rfl h
    · rw [if_neg h88] at h ⊢
      by_cases hn : (c.toNat : Int) - 97 < 0 ∨ (s.length : Int) ≤ (c.toNat : Int) - 97
      · rw [if_pos hn]
      · rw [if_neg hn] at h ⊢
        by_cases ha : (argsT (readT s f) (s.getD ((c.toNat : Int) - 97).toNat 0) r).1 = 0
        · rw [if_neg (by simpa using ha)] at h; exact absurd rfl h
        · rw [if_pos ha]

end Go.Proofs.Ytleogbdinafpaaa

/- The closed fact that is asked first in chapter 2: alive. -/
namespace Go.Proofs.Ytleogbdinafpaaa
open Go.RowKit Go.Deep Go.ChangeShapes Go.WideShapes
attribute [local go_sem ↓] Go.wp_at_zero Go.wp_at_succ

theorem parse_of {s : List Int} {l : List UInt8} {t : Tm} (h1 : wsig s = 0) (h2 : l.length ≤ 48) (h3 : readT s (l.length + 1) l = (0, t, [])) (h4 : wrongF s t.1 t.2 = 0) : parseT s l = (0, t) := by
  rw [parseT, h1, if_neg (by simp), if_neg (by omega), h3]
  simp [h4]

theorem unify_yes {x : Bool × Int} {k : Fo} {a : Value} {y : Bool × Int} {l : Fo} {c : Value} {w : World} {n : Nat} {s : Sb} (hr : runU n [] [((x, k), (y, l))] = some (some s)) (hUI : UI [] [((x, k), (y, l))]) (hS : SIn w k a) (hU : SIn w l c) :
    Calls Try.prog 5 #[.agg #[.bool x.1, .int .i64 x.2, a], .agg #[.bool y.1, .int .i64 y.2, c]] w fun e w' => ∃ (z1 : Option Addr) (z3 : Nat), e = .returned (.tuple #[.slice z1 s.length z3, .bool true]) ∧ SubIn w' s (.slice z1 s.length z3) ∧ Below w.heap.size w w' := by
  refine (unify_any x k a y l c w n _ hr hUI hS hU).mono ?_
  rintro e w' ⟨hb, z1, m, z3, ok, rfl, hno, hyes⟩
  cases ok
  · have := (hno rfl).1; cases this
  · obtain ⟨s', h1, h2, h3⟩ := hyes rfl
    cases h1
    subst h2
    exact ⟨z1, z3, rfl, h3, hb⟩
theorem unify_fails {x : Bool × Int} {k : Fo} {a : Value} {y : Bool × Int} {l : Fo} {c : Value} {w : World} {n : Nat} (hr : runU n [] [((x, k), (y, l))] = some none) (hUI : UI [] [((x, k), (y, l))]) (hS : SIn w k a) (hU : SIn w l c) :
    Calls Try.prog 5 #[.agg #[.bool x.1, .int .i64 x.2, a], .agg #[.bool y.1, .int .i64 y.2, c]] w fun e w' => e = .returned (.tuple #[.slice none 0 0, .bool false]) ∧ Below w.heap.size w w' := by
  refine (unify_any x k a y l c w n _ hr hUI hS hU).mono ?_
  rintro e w' ⟨hb, z1, m, z3, ok, rfl, hno, hyes⟩
  cases ok
  · obtain ⟨_, rfl, rfl, rfl⟩ := hno rfl
    exact ⟨rfl, hb⟩
  · obtain ⟨s', h1, _⟩ := hyes rfl
    cases h1
theorem match_yes {x : Bool × Int} {k : Fo} {a : Value} {y : Bool × Int} {l : Fo} {c : Value} {w : World} {s : Sb} (hr : extT [] (x, k) (y, l) = some s) (hS : SIn w k a) (hU : SIn w l c) (hok : okT (y, l)) (hnar : narT (y, l)) (hlen : tszR k * 48 ≤ 140737488355328) :
    Calls Try.prog 13 #[.agg #[.bool x.1, .int .i64 x.2, a], .agg #[.bool y.1, .int .i64 y.2, c]] w fun e w' => ∃ (z1 : Option Addr) (z3 : Nat), e = .returned (.tuple #[.slice z1 s.length z3, .bool true]) ∧ SubIn w' s (.slice z1 s.length z3) ∧ Below w.heap.size w w' := by
  refine (match_any x k a y l c w hS hU hok hnar hlen).mono ?_
  rintro e w' ⟨hb, z1, m, z3, ok, rfl, hno, hyes⟩
  cases ok
  · have := (hno rfl).1; rw [hr] at this; cases this
  · obtain ⟨s', h1, h2, h3⟩ := hyes rfl
    rw [hr] at h1
    cases h1
    subst h2
    exact ⟨z1, z3, rfl, h3, hb⟩
theorem more_yes {s0 : Sb} {vs : Value} {x : Bool × Int} {k : Fo} {a : Value} {y : Bool × Int} {l : Fo} {c : Value} {w : World} {s : Sb} (hr : extT s0 (x, k) (y, l) = some s) (hV : SubIn w s0 vs) (hs : ∀ p ∈ s0, narT p.2 ∧ okT p.2) (hS : SIn w k a) (hU : SIn w l c) (hok : okT (y, l)) (hnar : narT (y, l)) (hlen : (s0.length + tszR k) * 48 ≤ 140737488355328) :
    Calls Try.prog 15 #[vs, .agg #[.bool x.1, .int .i64 x.2, a], .agg #[.bool y.1, .int .i64 y.2, c]] w fun e w' => ∃ (z1 : Option Addr) (z3 : Nat), e = .returned (.tuple #[.slice z1 s.length z3, .bool true]) ∧ SubIn w' s (.slice z1 s.length z3) ∧ Below w.heap.size w w' := by
  refine (more_any s0 vs x k a y l c w hV hs hS hU hok hnar hlen).mono ?_
  rintro e w' ⟨hb, z1, m, z3, ok, rfl, hno, hyes⟩
  cases ok
  · have := (hno rfl).1; rw [hr] at this; cases this
  · obtain ⟨s', h1, h2, h3⟩ := hyes rfl
    rw [hr] at h1
    cases h1
    subst h2
    exact ⟨z1, z3, rfl, h3, hb⟩

/-- Two right terms: where Unify begins. -/
theorem ui_of {t u : Tm} (ht : Gd t) (hu : Gd u) (h1 : depT t ≤ 12) (h2 : depT u ≤ 12) : UI [] [(t, u)] := by
  refine ⟨fun p hp => by simp at hp, fun p hp => by simp at hp, fun p hp => ?_, fun p hp => by simp at hp, by decide, ?_, fun p hp => by simp at hp⟩
  · simp only [List.mem_singleton] at hp
    subst hp
    exact ⟨ht, hu⟩
  · have e : ∀ z : Tm, Gd z → subT (bnd []) z = z := fun z hz => subT_vr hz.ok
    simp only [dpL, List.length_nil, Nat.add_zero, and_true]
    rw [e t ht, e u hu]
    simpa using ⟨h1, h2⟩

def ta : Tm := ((false, 0), .nil)
def tb (t : Tm) : Tm := ((false, 1), .node 0 0 t.1 t.2 .nil)
def tc (t u : Tm) : Tm := ((false, 2), .node 0 0 t.1 t.2 (.node 0 0 u.1 u.2 .nil))
theorem sg : ([0, 1, 2] : List Int).all okNum = true := by decide
theorem l1p : parseT [0, 1, 2] [99, 40, 88, 48, 44, 98, 40, 88, 49, 41, 41] = (0, tc (vr 0) (tb (vr 1))) := parse_of al_wsig (by decide) rfl (by decide +kernel)
theorem l2p : parseT [0, 1, 2] [99, 40, 98, 40, 97, 41, 44, 88, 48, 41] = (0, tc (tb ta) (vr 0)) := parse_of al_wsig (by decide) rfl (by decide +kernel)
theorem l3p : parseT [0, 1, 2] [99, 40, 88, 48, 44, 88, 49, 41] = (0, tc (vr 0) (vr 1)) := parse_of al_wsig (by decide) rfl (by decide +kernel)
theorem l4p : parseT [0, 1, 2] [99, 40, 97, 44, 98, 40, 97, 41, 41] = (0, tc ta (tb ta)) := parse_of al_wsig (by decide) rfl (by decide +kernel)
theorem l5p : parseT [0, 1, 2] [88, 48] = (0, vr 0) := parse_of al_wsig (by decide) rfl (by decide +kernel)
theorem l6p : parseT [0, 1, 2] [98, 40, 88, 48, 41] = (0, tb (vr 0)) := parse_of al_wsig (by decide) rfl (by decide +kernel)
theorem l7p : parseT [0, 1, 2] [88, 50] = (0, vr 2) := parse_of al_wsig (by decide) rfl (by decide +kernel)
theorem l8p : parseT [0, 1, 2] [97] = (0, ta) := parse_of al_wsig (by decide) rfl (by decide +kernel)
theorem l9p : parseT [0, 1, 2] [88, 49] = (0, vr 1) := parse_of al_wsig (by decide) rfl (by decide +kernel)
theorem g1 : Gd (tc (vr 0) (tb (vr 1))) ∧ depT (tc (vr 0) (tb (vr 1))) ≤ 12 ∧ tszR (tc (vr 0) (tb (vr 1))).2 ≤ 12 := gd_right sg rfl (by decide +kernel)
theorem g2 : Gd (tc (tb ta) (vr 0)) ∧ depT (tc (tb ta) (vr 0)) ≤ 12 ∧ tszR (tc (tb ta) (vr 0)).2 ≤ 12 := gd_right sg rfl (by decide +kernel)
theorem g3 : Gd (tc (vr 0) (vr 1)) ∧ depT (tc (vr 0) (vr 1)) ≤ 12 ∧ tszR (tc (vr 0) (vr 1)).2 ≤ 12 := gd_right sg rfl (by decide +kernel)
theorem g4 : Gd (tc ta (tb ta)) ∧ depT (tc ta (tb ta)) ≤ 12 ∧ tszR (tc ta (tb ta)).2 ≤ 12 := gd_right sg rfl (by decide +kernel)
theorem g5 : Gd (vr 0) ∧ depT (vr 0) ≤ 12 ∧ tszR (vr 0).2 ≤ 12 := gd_right (s := [0, 1, 2]) sg rfl (by decide +kernel)
theorem g6 : Gd (tb (vr 0)) ∧ depT (tb (vr 0)) ≤ 12 ∧ tszR (tb (vr 0)).2 ≤ 12 := gd_right sg rfl (by decide +kernel)
theorem g8 : Gd ta ∧ depT ta ≤ 12 ∧ tszR ta.2 ≤ 12 := gd_right sg rfl (by decide +kernel)
theorem g9 : Gd (tb ta) ∧ depT (tb ta) ≤ 12 ∧ tszR (tb ta).2 ≤ 12 := gd_right sg rfl (by decide +kernel)
theorem u1 : runU 10 [] [(tc (vr 0) (tb (vr 1)), tc (tb ta) (vr 0))] = some (some [(0, tb ta), (1, ta)]) := by kernel_rfl
theorem u2 : runU 10 [] [(vr 0, tb (vr 0))] = some none := by kernel_rfl
theorem e1 : extT [] (tc (vr 0) (vr 1)) (tc ta (tb ta)) = some [(0, ta), (1, tb ta)] := by kernel_rfl
theorem e2 : extT [(0, ta), (1, tb ta)] (vr 2) ta = some [(0, ta), (1, tb ta), (2, ta)] := by kernel_rfl
theorem s1 : subT (bnd [(0, tb ta), (1, ta)]) (tc (vr 0) (vr 1)) = tc (tb ta) ta := by kernel_rfl
theorem x1 : textT (tc (tb ta) ta).1 (tc (tb ta) ta).2 = [99, 40, 98, 40, 97, 41, 44, 97, 41] := by kernel_rfl
theorem byte_eq {U : ByteArray} {l : List UInt8} (h : U.data.toList = l) : U = ⟨l.toArray⟩ := by
  obtain ⟨d⟩ := U
  simp only at h
  subst h
  simp

theorem all2 : ∀ p ∈ ([(0, tb ta), (1, ta)] : Sb), narT p.2 ∧ okT p.2 := fun p hp => by
  simp only [List.mem_cons, List.not_mem_nil, or_false] at hp
  rcases hp with rfl | rfl
  · exact ⟨g9.1.nar, g9.1.ok⟩
  · exact ⟨g8.1.nar, g8.1.ok⟩
theorem all3 : ∀ p ∈ ([(0, ta), (1, tb ta)] : Sb), narT p.2 ∧ okT p.2 := fun p hp => by
  simp only [List.mem_cons, List.not_mem_nil, or_false] at hp
  rcases hp with rfl | rfl
  · exact ⟨g8.1.nar, g8.1.ok⟩
  · exact ⟨g9.1.nar, g9.1.ok⟩

set_option maxRecDepth 100000 in
theorem cu1 {w : World} {a c : Value} (h1 : SIn w (tc (vr 0) (tb (vr 1))).2 a) (h2 : SIn w (tc (tb ta) (vr 0)).2 c) : Calls Try.prog 5 #[.agg #[.bool false, .int .i64 2, a], .agg #[.bool false, .int .i64 2, c]] w fun e w' => ∃ z1 z3, e = .returned (.tuple #[.slice z1 2 z3, .bool true]) ∧ SubIn w' [(0, tb ta), (1, ta)] (.slice z1 2 z3) ∧ Below w.heap.size w w' :=
  unify_yes (x := (false, 2)) (k := (tc (vr 0) (tb (vr 1))).2) (y := (false, 2)) (l := (tc (tb ta) (vr 0)).2) (n := 10) u1 (ui_of g1.1 g2.1 g1.2.1 g2.2.1) h1 h2
set_option maxRecDepth 100000 in
theorem cu2 {w : World} {a c : Value} (h1 : SIn w .nil a) (h2 : SIn w (tb (vr 0)).2 c) : Calls Try.prog 5 #[.agg #[.bool true, .int .i64 0, a], .agg #[.bool false, .int .i64 1, c]] w fun e w' => e = .returned (.tuple #[.slice none 0 0, .bool false]) ∧ Below w.heap.size w w' :=
  unify_fails (x := (true, 0)) (k := .nil) (y := (false, 1)) (l := (tb (vr 0)).2) (n := 10) u2 (ui_of g5.1 g6.1 g5.2.1 g6.2.1) h1 h2
set_option maxRecDepth 100000 in
theorem cm {w : World} {a c : Value} (h1 : SIn w (tc (vr 0) (vr 1)).2 a) (h2 : SIn w (tc ta (tb ta)).2 c) : Calls Try.prog 13 #[.agg #[.bool false, .int .i64 2, a], .agg #[.bool false, .int .i64 2, c]] w fun e w' => ∃ z1 z3, e = .returned (.tuple #[.slice z1 2 z3, .bool true]) ∧ SubIn w' [(0, ta), (1, tb ta)] (.slice z1 2 z3) ∧ Below w.heap.size w w' :=
  match_yes e1 h1 h2 g4.1.ok g4.1.nar (by decide)
set_option maxRecDepth 100000 in
theorem cmo {w : World} {vs a c : Value} (hv : SubIn w [(0, ta), (1, tb ta)] vs) (h1 : SIn w .nil a) (h2 : SIn w .nil c) : Calls Try.prog 15 #[vs, .agg #[.bool true, .int .i64 2, a], .agg #[.bool false, .int .i64 0, c]] w fun e w' => ∃ z1 z3, e = .returned (.tuple #[.slice z1 3 z3, .bool true]) ∧ SubIn w' [(0, ta), (1, tb ta), (2, ta)] (.slice z1 3 z3) ∧ Below w.heap.size w w' :=
  more_yes e2 hv all3 h1 h2 g8.1.ok g8.1.nar (by decide)
set_option maxRecDepth 100000 in
theorem cap {w : World} {vs a : Value} (hv : SubIn w [(0, tb ta), (1, ta)] vs) (h1 : SIn w (tc (vr 0) (vr 1)).2 a) : Calls Try.prog 9 #[vs, .agg #[.bool false, .int .i64 2, a]] w fun e w' => ∃ a1 a2 a3, e = .returned (.agg #[.bool false, .int .i64 2, .slice a1 a2 a3]) ∧ SIn w' (tc (tb ta) ta).2 (.slice a1 a2 a3) ∧ Below w.heap.size w w' := by
  refine (apply_any _ vs (false, 2) (tc (vr 0) (vr 1)).2 a w hv all2 h1 g3.1.nar).mono ?_
  rintro e w' ⟨a', rfl, hO, hb⟩
  have e : subT (bnd [(0, tb ta), (1, ta)]) ((false, 2), (tc (vr 0) (vr 1)).2) = tc (tb ta) ta := s1
  rw [e] at hO ⊢
  obtain ⟨z1, z2, z3, rfl⟩ := slice_of_sin hO.toS
  exact ⟨z1, z2, z3, rfl, hO.toS, hb⟩
set_option maxRecDepth 100000 in
theorem crn {w : World} {a : Value} (h1 : SIn w .nil a) : Calls Try.prog 11 #[.agg #[.bool true, .int .i64 1, a], .int .i64 5] w fun e w' => ∃ a1 a2 a3, e = .returned (.agg #[.bool true, .int .i64 6, .slice a1 a2 a3]) ∧ Below w.heap.size w w' := by
  refine (rename_any 5 (true, 1) .nil a w h1 ⟨by decide, trivial⟩).mono ?_
  rintro e w' ⟨a', rfl, hO, hb⟩
  obtain ⟨z1, z2, z3, rfl⟩ := slice_of_sin hO.toS
  exact ⟨z1, z2, z3, by rw [show subT (ren 5) ((true, 1), .nil) = vr 6 by kernel_rfl]; rfl, hb⟩

end Go.Proofs.Ytleogbdinafpaaa

/- Made the same: what the law asks, told of terms alone; is a term without variables? -/
namespace Go.Proofs.Ytleogbdinafpaaa
open Go.RowKit Go.Deep Go.ChangeShapes Go.WideShapes
attribute [local go_sem ↓] Go.wp_at_zero Go.wp_at_succ

/-- What Unify finds, from right terms. -/
theorem unify_ok {n : Nat} {t u : Tm} {s : Sb} (hUI : UI [] [(t, u)]) (h : runU n [] [(t, u)] = some (some s)) : (∀ p ∈ s, Gd p.2) ∧ subT (bnd s) t = subT (bnd s) u := by
  obtain ⟨h1, _, h3⟩ := runU_sound n [] s [(t, u)] hUI h
  exact ⟨h1.gs, h3 (t, u) (by simp)⟩
/-- Whatever makes two terms the same is what is found, and then more. -/
theorem unify_most {n : Nat} {t u : Tm} {R : Option Sb} {σ : Int → Tm} (hUI : UI [] [(t, u)]) (h : runU n [] [(t, u)] = some R) (hσ : subT σ t = subT σ u) : ∃ s, R = some s ∧ subT σ (subT (bnd s) t) = subT σ t := by
  obtain ⟨s, hs, h2⟩ := runU_most (σ := σ) n [] R [(t, u)] hUI h (fun p hp => by simp at hp) (fun p hp => by simp only [List.mem_singleton] at hp; subst hp; exact hσ)
  refine ⟨s, hs, ?_⟩
  rw [subT_sub]
  refine subT_congr fun m _ => ?_
  cases e : look s m with
  | none => rw [bnd_none e]; rfl
  | some z => rw [bnd_some e]; exact h2 _ (look_mem e)

end Go.Proofs.Ytleogbdinafpaaa

/- Made the same: the law's own walk. -/
namespace Go.Proofs.Ytleogbdinafpaaa
open Go.RowKit Go.Deep Go.ChangeShapes Go.WideShapes
attribute [local go_sem ↓] Go.wp_at_zero Go.wp_at_succ

def LawPost (w : World) (e : Ending) (w' : World) : Prop := e = .returned (.bool true) ∧ Below w.heap.size w w'

theorem sin_keep {X : Nat → Prop} {w w' : World} {k : Fo} {a : Value} (h : SB X w k a) (hr : ∀ q, X q → w'.heap[q]? = w.heap[q]?) : SIn w' k a := (h.kept hr).toS
theorem heap0 {W : World} {o1 o2 : Obj} {q : Nat} (h : q < W.heap.size) : ((W.alloc o1).alloc o2).heap[q]? = W.heap[q]? := by
  rw [Below.heap_alloc _ _ _ (by simp; omega), Below.heap_alloc _ _ _ h]
theorem heap1 {W : World} {b q : Nat} {x y z : Value} {o : Obj} (h : q < W.heap.size) (hn : q ≠ b) : ((((W.setCell ⟨b, 0, none⟩ x).setCell ⟨b, 1, none⟩ y).setCell ⟨b, 2, none⟩ z).alloc o).heap[q]? = W.heap[q]? := by
  have hs : (set3 W b 0 x y z).heap.size = W.heap.size := set3_size
  have e : (((W.setCell ⟨b, 0, none⟩ x).setCell ⟨b, 1, none⟩ y).setCell ⟨b, 2, none⟩ z) = set3 W b 0 x y z := rfl
  rw [e, Below.heap_alloc _ _ _ (by rw [hs]; exact h), set3_heap hn]
theorem heap2 {W : World} {b d q : Nat} {x y z x' y' z' : Value} (hn : q ≠ b) (hd : q ≠ d) : ((((((W.setCell ⟨b, 0, none⟩ x).setCell ⟨b, 1, none⟩ y).setCell ⟨b, 2, none⟩ z).setCell ⟨d, 0, none⟩ x').setCell ⟨d, 1, none⟩ y').setCell ⟨d, 2, none⟩ z').heap[q]? = W.heap[q]? := by
  have e : ((((((W.setCell ⟨b, 0, none⟩ x).setCell ⟨b, 1, none⟩ y).setCell ⟨b, 2, none⟩ z).setCell ⟨d, 0, none⟩ x').setCell ⟨d, 1, none⟩ y').setCell ⟨d, 2, none⟩ z') = set3 (set3 W b 0 x y z) d 0 x' y' z' := rfl
  rw [e, set3_heap hd, set3_heap hn]

/-- The document's Apply, whenever it is called. -/
theorem applyR_call {W wn : World} {s : Sb} {vs : Value} {x z : Bool × Int} {k zk : Fo} {a : Value} (hb0 : Below W.heap.size W wn) (hV : SubIn W s vs) (hs : ∀ p ∈ s, okT p.2) (hS : SIn W k a) (hok : okT (x, k)) (hnar : narT (x, k)) (hz : (z, zk) = subT (bnd s) (x, k)) (w' : World) (hb : Below wn.heap.size wn w') :
    Calls Try.prog 10 #[vs, .agg #[.bool x.1, .int .i64 x.2, a]] w' fun e w'' => ∃ (x1 : Option Addr) (x2 x3 m : Nat), m = w'.heap.size ∧ e = .returned (.agg #[.bool z.1, .int .i64 z.2, .slice x1 x2 x3]) ∧ SB (fun q => q < wn.heap.size ∨ (m ≤ q ∧ q < w''.heap.size)) w'' zk (.slice x1 x2 x3) ∧ Below w'.heap.size w' w'' := by
  refine (applyR_any x k s vs W a w' (below_step hb0 hb) hV hs hS hok hnar).mono ?_
  rintro e w'' ⟨x1, x2, x3, rfl, hSB, hb2⟩
  rw [← hz] at hSB ⊢
  have h0 := hb0.size
  exact ⟨x1, x2, x3, _, rfl, rfl, hSB.wide (fun q hq => by rcases hq with h | h; exact .inl (by omega); exact .inr h), hb2⟩
/-- Apply, whenever it is called. -/
theorem apply_call {wn : World} {s : Sb} {vs : Value} {x z : Bool × Int} {k zk : Fo} {a : Value} (hV : SubIn wn s vs) (hs : ∀ p ∈ s, Gd p.2) (hS : SIn wn k a) (hnar : narT (x, k)) (hz : (z, zk) = subT (bnd s) (x, k)) (w' : World) (hb : Below wn.heap.size wn w') :
    Calls Try.prog 9 #[vs, .agg #[.bool x.1, .int .i64 x.2, a]] w' fun e w'' => ∃ (x1 : Option Addr) (x2 x3 : Nat), e = .returned (.agg #[.bool z.1, .int .i64 z.2, .slice x1 x2 x3]) ∧ SIn w'' zk (.slice x1 x2 x3) ∧ Below w'.heap.size w' w'' := by
  refine (apply_any s vs x k a w' (hV.below hb) (fun p hp => ⟨(hs p hp).nar, (hs p hp).ok⟩) (hS.below hb) hnar).mono ?_
  rintro e w'' ⟨a', rfl, hO, hb2⟩
  rw [← hz] at hO ⊢
  obtain ⟨z1, z2, z3, rfl⟩ := slice_of_sin hO.toS
  exact ⟨z1, z2, z3, rfl, hO.toS, hb2⟩

end Go.Proofs.Ytleogbdinafpaaa
