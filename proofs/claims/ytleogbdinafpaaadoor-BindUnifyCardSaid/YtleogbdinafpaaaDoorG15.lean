/- The closed fact that is asked first in chapter 2: alive. -/
import Derived.Test.YtleogbdinafpaaaDoorG12
import Derived.Test.YtleogbdinafpaaaDoorG13
import Derived.Test.YtleogbdinafpaaaDoorG14
namespace Go.Proofs.YtleogbdinafpaaaDoor
open Go.RowKit Go.Deep Go.ChangeShapes Go.WideShapes
attribute [local go_sem ↓] Go.wp_at_zero Go.wp_at_succ

theorem parse_of {s : List Int} {l : List UInt8} {t : Tm} (h1 : wsig s = 0) (h2 : l.length ≤ 48) (h3 : readT s (l.length + 1) l = (0, t, [])) (h4 : wrongF s t.1 t.2 = 0) : parseT s l = (0, t) := by
  rw [parseT, h1, if_neg (by simp), if_neg (by omega), h3]
  simp [h4]

set_option maxRecDepth 100000 in
set_option maxHeartbeats 400000 in
theorem rd_any {l : List UInt8} {t : Tm} (h : parseT [0, 1, 2] l = (0, t)) (hl : l.length ≤ 48) (w : World) :
    Calls Tryd.prog 53 #[str l] w fun e w' => ∃ (a1 : Option Addr) (a3 : Nat), e = .returned (.agg #[.bool t.1.1, .int .i64 t.1.2, .slice a1 (Fo.len t.2) a3]) ∧ SIn w' t.2 (.slice a1 (Fo.len t.2) a3) ∧ Below w.heap.size w w' := by
  obtain ⟨⟨tv, tn⟩, tk⟩ := t
  have Hp := hide h
  have HN0 : Hid (NIn ((w.alloc (.cells #[.bool false, .int .i64 0, .slice none 0 0] 26)).alloc (.cells #[.int .i64 0, .int .i64 1, .int .i64 2] 3)) [0, 1, 2] (.slice (some ⟨w.heap.size + 1, 0, none⟩) 3 3)) := by
    have h := nin_lit (w := w.alloc (.cells #[.bool false, .int .i64 0, .slice none 0 0] 26)) [0, 1, 2] (by decide) (by decide) 3
    rw [World.size_alloc] at h
    exact h
  clear h
  go_enter Tryd.func53, Tryd.ntmps53
  go_wp2_with fail
  generalize hW : (w.alloc (.cells #[.bool false, .int .i64 0, .slice none 0 0] 26)).alloc (.cells #[.int .i64 0, .int .i64 1, .int .i64 2] 3) = W2 at *
  have hB2 : Below w.heap.size w W2 := by rw [← hW]; exact (below_alloc _ _).alloc (by simp) _
  have hs2 : W2.heap.size = w.heap.size + 1 + 1 := by rw [← hW]; simp
  have r0 : W2.cell? ⟨w.heap.size, 0, none⟩ = some (.bool false) := by rw [← hW, World.cell?_alloc_lt _ _ _ (by simp)]; exact new_cell rfl
  have r1 : W2.cell? ⟨w.heap.size, 1, none⟩ = some (.int .i64 0) := by rw [← hW, World.cell?_alloc_lt _ _ _ (by simp)]; exact new_cell rfl
  have r2 : W2.cell? ⟨w.heap.size, 2, none⟩ = some (.slice none 0 0) := by rw [← hW, World.cell?_alloc_lt _ _ _ (by simp)]; exact new_cell rfl
  have rf : ∀ i, W2.frozen? ⟨w.heap.size, i, none⟩ = false := fun i => by rw [← hW, (below_alloc _ _).frozen (by simp)]; exact new_frozen rfl
  clear hW
  refine (parseR_new [0, 1, 2] _ l W2 HN0.out (by unfold maxLen; omega)).mono ?_
  rintro e w2 ⟨a, rfl, hS, hb⟩
  rw [Hp.out] at hS ⊢
  have HNew := hide hS
  obtain ⟨a1, a3, _, _, rfl, -, -, -, -⟩ := hS
  have s0 := grow_cell hb _ _ r0
  have s1 := grow_cell hb _ _ r1
  have s2 := grow_cell hb _ _ r2
  have sf : ∀ i, w2.frozen? ⟨w.heap.size, i, none⟩ = false := fun i => (hb.frozen (by show w.heap.size < _; omega)).trans (rf i)
  have hB3 := below_step hB2 hb
  have hlt : w.heap.size < w2.heap.size := World.block_lt_of_cell? _ _ s0
  clear r0 r1 r2 rf hb hB2
  simp only [trm]
  go_wp2_with fail
  obtain ⟨g0, g1, g2⟩ := set3_cells (w := w2) (b := w.heap.size) (o := 0) (x := .bool tv) (y := .int .i64 tn) (z := .slice a1 (Fo.len tk) a3) s0 s1 s2
  have hsz : (set3 w2 w.heap.size 0 (.bool tv) (.int .i64 tn) (.slice a1 (Fo.len tk) a3)).heap.size = w2.heap.size := set3_size
  have k0 : ((((w2.setCell ⟨w.heap.size, 0, none⟩ (.bool tv)).setCell ⟨w.heap.size, 1, none⟩ (.int .i64 tn)).setCell ⟨w.heap.size, 2, none⟩ (.slice a1 (Fo.len tk) a3)).alloc (.cells #[.bool tv, .int .i64 tn, .slice a1 (Fo.len tk) a3] 26)).cell? ⟨w.heap.size, 0, none⟩ = some (.bool tv) := by
    rw [World.cell?_alloc_lt _ _ _ (by simpa using hlt)]; exact g0
  have k1 : ((((w2.setCell ⟨w.heap.size, 0, none⟩ (.bool tv)).setCell ⟨w.heap.size, 1, none⟩ (.int .i64 tn)).setCell ⟨w.heap.size, 2, none⟩ (.slice a1 (Fo.len tk) a3)).alloc (.cells #[.bool tv, .int .i64 tn, .slice a1 (Fo.len tk) a3] 26)).cell? ⟨w.heap.size, 1, none⟩ = some (.int .i64 tn) := by
    rw [World.cell?_alloc_lt _ _ _ (by simpa using hlt)]; exact g1
  have k2 : ((((w2.setCell ⟨w.heap.size, 0, none⟩ (.bool tv)).setCell ⟨w.heap.size, 1, none⟩ (.int .i64 tn)).setCell ⟨w.heap.size, 2, none⟩ (.slice a1 (Fo.len tk) a3)).alloc (.cells #[.bool tv, .int .i64 tn, .slice a1 (Fo.len tk) a3] 26)).cell? ⟨w.heap.size, 2, none⟩ = some (.slice a1 (Fo.len tk) a3) := by
    rw [World.cell?_alloc_lt _ _ _ (by simpa using hlt)]; exact g2
  refine bodyPost_ret (v := .agg #[.bool tv, .int .i64 tn, .slice a1 (Fo.len tk) a3]) (by simp [results, Tryd.results53, go_sem, k0, k1, k2]) rfl ⟨a1, a3, rfl, ?_, (set3_below (o := 0) hB3 (Nat.le_refl _)).alloc (by rw [set3_size]; exact Nat.le_of_lt hlt) _⟩
  have hO : SB (New W2 w2) w2 tk (.slice a1 (Fo.len tk) a3) := HNew.out
  exact ((hO.set3 (b := w.heap.size) (o := 0) (fun h => by have := h.1; omega)).toS).alloc _

theorem unify_yes {x : Bool × Int} {k : Fo} {a : Value} {y : Bool × Int} {l : Fo} {c : Value} {w : World} {n : Nat} {s : Sb} (hr : runU n [] [((x, k), (y, l))] = some (some s)) (hUI : UI [] [((x, k), (y, l))]) (hS : SIn w k a) (hU : SIn w l c) :
    Calls Tryd.prog 34 #[.agg #[.bool x.1, .int .i64 x.2, a], .agg #[.bool y.1, .int .i64 y.2, c]] w fun e w' => ∃ (z1 : Option Addr) (z3 : Nat), e = .returned (.tuple #[.slice z1 s.length z3, .bool true]) ∧ SubIn w' s (.slice z1 s.length z3) ∧ Below w.heap.size w w' := by
  refine (unify_any x k a y l c w n _ hr hUI hS hU).mono ?_
  rintro e w' ⟨hb, z1, m, z3, ok, rfl, hno, hyes⟩
  cases ok
  · have := (hno rfl).1; cases this
  · obtain ⟨s', h1, h2, h3⟩ := hyes rfl
    cases h1
    subst h2
    exact ⟨z1, z3, rfl, h3, hb⟩
theorem unify_fails {x : Bool × Int} {k : Fo} {a : Value} {y : Bool × Int} {l : Fo} {c : Value} {w : World} {n : Nat} (hr : runU n [] [((x, k), (y, l))] = some none) (hUI : UI [] [((x, k), (y, l))]) (hS : SIn w k a) (hU : SIn w l c) :
    Calls Tryd.prog 34 #[.agg #[.bool x.1, .int .i64 x.2, a], .agg #[.bool y.1, .int .i64 y.2, c]] w fun e w' => e = .returned (.tuple #[.slice none 0 0, .bool false]) ∧ Below w.heap.size w w' := by
  refine (unify_any x k a y l c w n _ hr hUI hS hU).mono ?_
  rintro e w' ⟨hb, z1, m, z3, ok, rfl, hno, hyes⟩
  cases ok
  · obtain ⟨_, rfl, rfl, rfl⟩ := hno rfl
    exact ⟨rfl, hb⟩
  · obtain ⟨s', h1, _⟩ := hyes rfl
    cases h1
theorem match_yes {x : Bool × Int} {k : Fo} {a : Value} {y : Bool × Int} {l : Fo} {c : Value} {w : World} {s : Sb} (hr : extT [] (x, k) (y, l) = some s) (hS : SIn w k a) (hU : SIn w l c) (hok : okT (y, l)) (hnar : narT (y, l)) (hlen : tszR k * 48 ≤ 140737488355328) :
    Calls Tryd.prog 38 #[.agg #[.bool x.1, .int .i64 x.2, a], .agg #[.bool y.1, .int .i64 y.2, c]] w fun e w' => ∃ (z1 : Option Addr) (z3 : Nat), e = .returned (.tuple #[.slice z1 s.length z3, .bool true]) ∧ SubIn w' s (.slice z1 s.length z3) ∧ Below w.heap.size w w' := by
  refine (match_any x k a y l c w hS hU hok hnar hlen).mono ?_
  rintro e w' ⟨hb, z1, m, z3, ok, rfl, hno, hyes⟩
  cases ok
  · have := (hno rfl).1; rw [hr] at this; cases this
  · obtain ⟨s', h1, h2, h3⟩ := hyes rfl
    rw [hr] at h1
    cases h1
    subst h2
    exact ⟨z1, z3, rfl, h3, hb⟩
theorem more_yes {s0 : Sb} {vs : Value} {x : Bool × Int} {k : Fo} {a : Value} {y : Bool × Int} {l : Fo} {c : Value} {w : World} {s : Sb} (hr : extT s0 (x, k) (y, l) = some s) (hV : SubIn w s0 vs) (hs : ∀ p ∈ s0, narT p.2 ∧ okT p.2) (hS : SIn w k a) (hU : SIn w l c) (hok : okT (y, l)) (hnar : narT (y, l)) (hlen : (s0.length + tszR k) * 48 ≤ 140737488355328) :
    Calls Tryd.prog 54 #[vs, .agg #[.bool x.1, .int .i64 x.2, a], .agg #[.bool y.1, .int .i64 y.2, c]] w fun e w' => ∃ (z1 : Option Addr) (z3 : Nat), e = .returned (.tuple #[.slice z1 s.length z3, .bool true]) ∧ SubIn w' s (.slice z1 s.length z3) ∧ Below w.heap.size w w' := by
  refine (more_any s0 vs x k a y l c w hV hs hS hU hok hnar hlen).mono ?_
  rintro e w' ⟨hb, z1, m, z3, ok, rfl, hno, hyes⟩
  cases ok
  · have := (hno rfl).1; rw [hr] at this; cases this
  · obtain ⟨s', h1, h2, h3⟩ := hyes rfl
    rw [hr] at h1
    cases h1
    subst h2
    exact ⟨z1, z3, rfl, h3, hb⟩

/-- Two right terms: where Unify begins. -/
theorem ui_of {t u : Tm} (ht : Gd t) (hu : Gd u) (h1 : depT t ≤ 12) (h2 : depT u ≤ 12) : UI [] [(t, u)] := by
  refine ⟨fun p hp => by simp at hp, fun p hp => by simp at hp, fun p hp => ?_, fun p hp => by simp at hp, by decide, ?_, fun p hp => by simp at hp⟩
  · simp only [List.mem_singleton] at hp
    subst hp
    exact ⟨ht, hu⟩
  · have e : ∀ z : Tm, Gd z → subT (bnd []) z = z := fun z hz => subT_vr hz.ok
    simp only [dpL, List.length_nil, Nat.add_zero, and_true]
    rw [e t ht, e u hu]
    simpa using ⟨h1, h2⟩

def ta : Tm := ((false, 0), .nil)
def tb (t : Tm) : Tm := ((false, 1), .node 0 0 t.1 t.2 .nil)
def tc (t u : Tm) : Tm := ((false, 2), .node 0 0 t.1 t.2 (.node 0 0 u.1 u.2 .nil))
theorem sg : ([0, 1, 2] : List Int).all okNum = true := by decide
theorem l1p : parseT [0, 1, 2] [99, 40, 88, 48, 44, 98, 40, 88, 49, 41, 41] = (0, tc (vr 0) (tb (vr 1))) := parse_of al_wsig (by decide) rfl (by decide +kernel)
theorem l2p : parseT [0, 1, 2] [99, 40, 98, 40, 97, 41, 44, 88, 48, 41] = (0, tc (tb ta) (vr 0)) := parse_of al_wsig (by decide) rfl (by decide +kernel)
theorem l3p : parseT [0, 1, 2] [99, 40, 88, 48, 44, 88, 49, 41] = (0, tc (vr 0) (vr 1)) := parse_of al_wsig (by decide) rfl (by decide +kernel)
theorem l4p : parseT [0, 1, 2] [99, 40, 97, 44, 98, 40, 97, 41, 41] = (0, tc ta (tb ta)) := parse_of al_wsig (by decide) rfl (by decide +kernel)
theorem l5p : parseT [0, 1, 2] [88, 48] = (0, vr 0) := parse_of al_wsig (by decide) rfl (by decide +kernel)
theorem l6p : parseT [0, 1, 2] [98, 40, 88, 48, 41] = (0, tb (vr 0)) := parse_of al_wsig (by decide) rfl (by decide +kernel)
theorem l7p : parseT [0, 1, 2] [88, 50] = (0, vr 2) := parse_of al_wsig (by decide) rfl (by decide +kernel)
theorem l8p : parseT [0, 1, 2] [97] = (0, ta) := parse_of al_wsig (by decide) rfl (by decide +kernel)
theorem l9p : parseT [0, 1, 2] [88, 49] = (0, vr 1) := parse_of al_wsig (by decide) rfl (by decide +kernel)
theorem g1 : Gd (tc (vr 0) (tb (vr 1))) ∧ depT (tc (vr 0) (tb (vr 1))) ≤ 12 ∧ tszR (tc (vr 0) (tb (vr 1))).2 ≤ 12 := gd_right sg rfl (by decide +kernel)
theorem g2 : Gd (tc (tb ta) (vr 0)) ∧ depT (tc (tb ta) (vr 0)) ≤ 12 ∧ tszR (tc (tb ta) (vr 0)).2 ≤ 12 := gd_right sg rfl (by decide +kernel)
theorem g3 : Gd (tc (vr 0) (vr 1)) ∧ depT (tc (vr 0) (vr 1)) ≤ 12 ∧ tszR (tc (vr 0) (vr 1)).2 ≤ 12 := gd_right sg rfl (by decide +kernel)
theorem g4 : Gd (tc ta (tb ta)) ∧ depT (tc ta (tb ta)) ≤ 12 ∧ tszR (tc ta (tb ta)).2 ≤ 12 := gd_right sg rfl (by decide +kernel)
theorem g5 : Gd (vr 0) ∧ depT (vr 0) ≤ 12 ∧ tszR (vr 0).2 ≤ 12 := gd_right (s := [0, 1, 2]) sg rfl (by decide +kernel)
theorem g6 : Gd (tb (vr 0)) ∧ depT (tb (vr 0)) ≤ 12 ∧ tszR (tb (vr 0)).2 ≤ 12 := gd_right sg rfl (by decide +kernel)
theorem g8 : Gd ta ∧ depT ta ≤ 12 ∧ tszR ta.2 ≤ 12 := gd_right sg rfl (by decide +kernel)
theorem g9 : Gd (tb ta) ∧ depT (tb ta) ≤ 12 ∧ tszR (tb ta).2 ≤ 12 := gd_right sg rfl (by decide +kernel)
theorem u1 : runU 10 [] [(tc (vr 0) (tb (vr 1)), tc (tb ta) (vr 0))] = some (some [(0, tb ta), (1, ta)]) := by kernel_rfl
theorem u2 : runU 10 [] [(vr 0, tb (vr 0))] = some none := by kernel_rfl
theorem e1 : extT [] (tc (vr 0) (vr 1)) (tc ta (tb ta)) = some [(0, ta), (1, tb ta)] := by kernel_rfl
theorem e2 : extT [(0, ta), (1, tb ta)] (vr 2) ta = some [(0, ta), (1, tb ta), (2, ta)] := by kernel_rfl
theorem s1 : subT (bnd [(0, tb ta), (1, ta)]) (tc (vr 0) (vr 1)) = tc (tb ta) ta := by kernel_rfl
theorem x1 : textT (tc (tb ta) ta).1 (tc (tb ta) ta).2 = [99, 40, 98, 40, 97, 41, 44, 97, 41] := by kernel_rfl
theorem byte_eq {U : ByteArray} {l : List UInt8} (h : U.data.toList = l) : U = ⟨l.toArray⟩ := by
  obtain ⟨d⟩ := U
  simp only at h
  subst h
  simp

theorem all2 : ∀ p ∈ ([(0, tb ta), (1, ta)] : Sb), narT p.2 ∧ okT p.2 := fun p hp => by
  simp only [List.mem_cons, List.not_mem_nil, or_false] at hp
  rcases hp with rfl | rfl
  · exact ⟨g9.1.nar, g9.1.ok⟩
  · exact ⟨g8.1.nar, g8.1.ok⟩
theorem all3 : ∀ p ∈ ([(0, ta), (1, tb ta)] : Sb), narT p.2 ∧ okT p.2 := fun p hp => by
  simp only [List.mem_cons, List.not_mem_nil, or_false] at hp
  rcases hp with rfl | rfl
  · exact ⟨g8.1.nar, g8.1.ok⟩
  · exact ⟨g9.1.nar, g9.1.ok⟩

set_option maxRecDepth 100000 in
theorem rd1 (w : World) : Calls Tryd.prog 53 #[.string ⟨#[99, 40, 88, 48, 44, 98, 40, 88, 49, 41, 41]⟩] w fun e w' => ∃ a1 a3, e = .returned (.agg #[.bool false, .int .i64 2, .slice a1 2 a3]) ∧ SIn w' (tc (vr 0) (tb (vr 1))).2 (.slice a1 2 a3) ∧ Below w.heap.size w w' := rd_any l1p (by decide) w
set_option maxRecDepth 100000 in
theorem rd2 (w : World) : Calls Tryd.prog 53 #[.string ⟨#[99, 40, 98, 40, 97, 41, 44, 88, 48, 41]⟩] w fun e w' => ∃ a1 a3, e = .returned (.agg #[.bool false, .int .i64 2, .slice a1 2 a3]) ∧ SIn w' (tc (tb ta) (vr 0)).2 (.slice a1 2 a3) ∧ Below w.heap.size w w' := rd_any l2p (by decide) w
set_option maxRecDepth 100000 in
theorem rd3 (w : World) : Calls Tryd.prog 53 #[.string ⟨#[99, 40, 88, 48, 44, 88, 49, 41]⟩] w fun e w' => ∃ a1 a3, e = .returned (.agg #[.bool false, .int .i64 2, .slice a1 2 a3]) ∧ SIn w' (tc (vr 0) (vr 1)).2 (.slice a1 2 a3) ∧ Below w.heap.size w w' := rd_any l3p (by decide) w
set_option maxRecDepth 100000 in
theorem rd4 (w : World) : Calls Tryd.prog 53 #[.string ⟨#[99, 40, 97, 44, 98, 40, 97, 41, 41]⟩] w fun e w' => ∃ a1 a3, e = .returned (.agg #[.bool false, .int .i64 2, .slice a1 2 a3]) ∧ SIn w' (tc ta (tb ta)).2 (.slice a1 2 a3) ∧ Below w.heap.size w w' := rd_any l4p (by decide) w
set_option maxRecDepth 100000 in
theorem rd5 (w : World) : Calls Tryd.prog 53 #[.string ⟨#[88, 48]⟩] w fun e w' => ∃ a1 a3, e = .returned (.agg #[.bool true, .int .i64 0, .slice a1 0 a3]) ∧ SIn w' .nil (.slice a1 0 a3) ∧ Below w.heap.size w w' := rd_any l5p (by decide) w
set_option maxRecDepth 100000 in
theorem rd6 (w : World) : Calls Tryd.prog 53 #[.string ⟨#[98, 40, 88, 48, 41]⟩] w fun e w' => ∃ a1 a3, e = .returned (.agg #[.bool false, .int .i64 1, .slice a1 1 a3]) ∧ SIn w' (tb (vr 0)).2 (.slice a1 1 a3) ∧ Below w.heap.size w w' := rd_any l6p (by decide) w
set_option maxRecDepth 100000 in
theorem rd7 (w : World) : Calls Tryd.prog 53 #[.string ⟨#[88, 50]⟩] w fun e w' => ∃ a1 a3, e = .returned (.agg #[.bool true, .int .i64 2, .slice a1 0 a3]) ∧ SIn w' .nil (.slice a1 0 a3) ∧ Below w.heap.size w w' := rd_any l7p (by decide) w
set_option maxRecDepth 100000 in
theorem rd8 (w : World) : Calls Tryd.prog 53 #[.string ⟨#[97]⟩] w fun e w' => ∃ a1 a3, e = .returned (.agg #[.bool false, .int .i64 0, .slice a1 0 a3]) ∧ SIn w' .nil (.slice a1 0 a3) ∧ Below w.heap.size w w' := rd_any l8p (by decide) w
set_option maxRecDepth 100000 in
theorem rd9 (w : World) : Calls Tryd.prog 53 #[.string ⟨#[88, 49]⟩] w fun e w' => ∃ a1 a3, e = .returned (.agg #[.bool true, .int .i64 1, .slice a1 0 a3]) ∧ SIn w' .nil (.slice a1 0 a3) ∧ Below w.heap.size w w' := rd_any l9p (by decide) w

set_option maxRecDepth 100000 in
theorem cu1 {w : World} {a c : Value} (h1 : SIn w (tc (vr 0) (tb (vr 1))).2 a) (h2 : SIn w (tc (tb ta) (vr 0)).2 c) : Calls Tryd.prog 34 #[.agg #[.bool false, .int .i64 2, a], .agg #[.bool false, .int .i64 2, c]] w fun e w' => ∃ z1 z3, e = .returned (.tuple #[.slice z1 2 z3, .bool true]) ∧ SubIn w' [(0, tb ta), (1, ta)] (.slice z1 2 z3) ∧ Below w.heap.size w w' :=
  unify_yes (x := (false, 2)) (k := (tc (vr 0) (tb (vr 1))).2) (y := (false, 2)) (l := (tc (tb ta) (vr 0)).2) (n := 10) u1 (ui_of g1.1 g2.1 g1.2.1 g2.2.1) h1 h2
set_option maxRecDepth 100000 in
theorem cu2 {w : World} {a c : Value} (h1 : SIn w .nil a) (h2 : SIn w (tb (vr 0)).2 c) : Calls Tryd.prog 34 #[.agg #[.bool true, .int .i64 0, a], .agg #[.bool false, .int .i64 1, c]] w fun e w' => e = .returned (.tuple #[.slice none 0 0, .bool false]) ∧ Below w.heap.size w w' :=
  unify_fails (x := (true, 0)) (k := .nil) (y := (false, 1)) (l := (tb (vr 0)).2) (n := 10) u2 (ui_of g5.1 g6.1 g5.2.1 g6.2.1) h1 h2
set_option maxRecDepth 100000 in
theorem cm {w : World} {a c : Value} (h1 : SIn w (tc (vr 0) (vr 1)).2 a) (h2 : SIn w (tc ta (tb ta)).2 c) : Calls Tryd.prog 38 #[.agg #[.bool false, .int .i64 2, a], .agg #[.bool false, .int .i64 2, c]] w fun e w' => ∃ z1 z3, e = .returned (.tuple #[.slice z1 2 z3, .bool true]) ∧ SubIn w' [(0, ta), (1, tb ta)] (.slice z1 2 z3) ∧ Below w.heap.size w w' :=
  match_yes e1 h1 h2 g4.1.ok g4.1.nar (by decide)
set_option maxRecDepth 100000 in
theorem cmo {w : World} {vs a c : Value} (hv : SubIn w [(0, ta), (1, tb ta)] vs) (h1 : SIn w .nil a) (h2 : SIn w .nil c) : Calls Tryd.prog 54 #[vs, .agg #[.bool true, .int .i64 2, a], .agg #[.bool false, .int .i64 0, c]] w fun e w' => ∃ z1 z3, e = .returned (.tuple #[.slice z1 3 z3, .bool true]) ∧ SubIn w' [(0, ta), (1, tb ta), (2, ta)] (.slice z1 3 z3) ∧ Below w.heap.size w w' :=
  more_yes e2 hv all3 h1 h2 g8.1.ok g8.1.nar (by decide)
set_option maxRecDepth 100000 in
theorem cap {w : World} {vs a : Value} (hv : SubIn w [(0, tb ta), (1, ta)] vs) (h1 : SIn w (tc (vr 0) (vr 1)).2 a) : Calls Tryd.prog 35 #[vs, .agg #[.bool false, .int .i64 2, a]] w fun e w' => ∃ a1 a2 a3, e = .returned (.agg #[.bool false, .int .i64 2, .slice a1 a2 a3]) ∧ SIn w' (tc (tb ta) ta).2 (.slice a1 a2 a3) ∧ Below w.heap.size w w' := by
  refine (apply_any _ vs (false, 2) (tc (vr 0) (vr 1)).2 a w hv all2 h1 g3.1.nar).mono ?_
  rintro e w' ⟨a', rfl, hO, hb⟩
  have e : subT (bnd [(0, tb ta), (1, ta)]) ((false, 2), (tc (vr 0) (vr 1)).2) = tc (tb ta) ta := s1
  rw [e] at hO ⊢
  obtain ⟨z1, z2, z3, rfl⟩ := slice_of_sin hO.toS
  exact ⟨z1, z2, z3, rfl, hO.toS, hb⟩
set_option maxRecDepth 100000 in
theorem ctx {w : World} {a : Value} (h1 : SIn w (tc (tb ta) ta).2 a) : Calls Tryd.prog 23 #[.agg #[.bool false, .int .i64 2, a]] w fun e w' => e = .returned (.string ⟨#[99, 40, 98, 40, 97, 41, 44, 97, 41]⟩) ∧ Below w.heap.size w w' := by
  refine (textR_any (false, 2) (tc (tb ta) ta).2 a w h1 (by decide) (by simp [tc, tb, ta, Fo.texts]) (by have := x1; simp only [tc] at this ⊢; rw [this]; decide)).mono ?_
  rintro e w' ⟨U, rfl, hU, hb⟩
  have e : textT (false, 2) (tc (tb ta) ta).2 = [99, 40, 98, 40, 97, 41, 44, 97, 41] := x1
  rw [e] at hU
  rw [byte_eq hU]
  exact ⟨rfl, hb⟩
set_option maxRecDepth 100000 in
theorem crn {w : World} {a : Value} (h1 : SIn w .nil a) : Calls Tryd.prog 55 #[.agg #[.bool true, .int .i64 1, a], .int .i64 5] w fun e w' => ∃ a1 a2 a3, e = .returned (.agg #[.bool true, .int .i64 6, .slice a1 a2 a3]) ∧ Below w.heap.size w w' := by
  refine (rename_any 5 (true, 1) .nil a w h1 ⟨by decide, trivial⟩).mono ?_
  rintro e w' ⟨a', rfl, hO, hb⟩
  obtain ⟨z1, z2, z3, rfl⟩ := slice_of_sin hO.toS
  exact ⟨z1, z2, z3, by rw [show subT (ren 5) ((true, 1), .nil) = vr 6 by kernel_rfl]; rfl, hb⟩

set_option maxRecDepth 100000 in
set_option maxHeartbeats 4000000 in
theorem alive2_any (w : World) : Calls Tryd.prog 32 #[] w fun e w' => e = .returned (.bool true) ∧ Below w.heap.size w w' := by
  have hB : Below w.heap.size w w := Below.refl _ _
  go_enter Tryd.func32, Tryd.ntmps32
  go_wp2_with fail
  refine (rd1 _).mono ?_
  rintro e w1 ⟨a1, a3, rfl, h1, hb⟩
  replace hB := below_step hB hb
  have H1 := hide h1
  clear h1
  clear hb
  go_wp2_with fail
  refine (rd2 _).mono ?_
  rintro e w2 ⟨b1, b3, rfl, h2, hb⟩
  replace hB := below_step hB hb
  replace H1 := hide (H1.out.below hb)
  have H2 := hide h2
  clear h2
  clear hb
  go_wp2_with fail
  refine (cu1 H1.out H2.out).mono ?_
  rintro e w3 ⟨z1, z3, rfl, h3, hb⟩
  replace hB := below_step hB hb
  clear H1
  clear H2
  have H3 := hide h3
  clear h3
  clear hb
  go_wp2_with fail
  refine (rd3 _).mono ?_
  rintro e w4 ⟨c1, c3, rfl, h4, hb⟩
  replace hB := below_step hB hb
  replace H3 := hide (H3.out.below hb)
  have H4 := hide h4
  clear h4
  clear hb
  go_wp2_with fail
  refine (rd4 _).mono ?_
  rintro e w5 ⟨d1, d3, rfl, h5, hb⟩
  replace hB := below_step hB hb
  replace H3 := hide (H3.out.below hb)
  replace H4 := hide (H4.out.below hb)
  have H5 := hide h5
  clear h5
  clear hb
  go_wp2_with fail
  refine (cm H4.out H5.out).mono ?_
  rintro e w6 ⟨m1, m3, rfl, h6, hb⟩
  replace hB := below_step hB hb
  replace H3 := hide (H3.out.below hb)
  clear H4
  clear H5
  have H6 := hide h6
  clear h6
  clear hb
  go_wp2_with fail
  refine (rd5 _).mono ?_
  rintro e w7 ⟨f1, f3, rfl, h7, hb⟩
  replace hB := below_step hB hb
  replace H3 := hide (H3.out.below hb)
  replace H6 := hide (H6.out.below hb)
  have H7 := hide h7
  clear h7
  clear hb
  go_wp2_with fail
  refine (rd6 _).mono ?_
  rintro e w8 ⟨k1, k3, rfl, h8, hb⟩
  replace hB := below_step hB hb
  replace H3 := hide (H3.out.below hb)
  replace H6 := hide (H6.out.below hb)
  replace H7 := hide (H7.out.below hb)
  have H8 := hide h8
  clear h8
  clear hb
  go_wp2_with fail
  refine (cu2 H7.out H8.out).mono ?_
  rintro e w9 ⟨rfl, hb⟩
  replace hB := below_step hB hb
  replace H3 := hide (H3.out.below hb)
  replace H6 := hide (H6.out.below hb)
  clear H7
  clear H8
  clear hb
  go_wp2_with fail
  refine (rd7 _).mono ?_
  rintro e w10 ⟨n1, n3, rfl, h9, hb⟩
  replace hB := below_step hB hb
  replace H3 := hide (H3.out.below hb)
  replace H6 := hide (H6.out.below hb)
  have H9 := hide h9
  clear h9
  clear hb
  go_wp2_with fail
  refine (rd8 _).mono ?_
  rintro e w11 ⟨o1, o3, rfl, h10, hb⟩
  replace hB := below_step hB hb
  replace H3 := hide (H3.out.below hb)
  replace H6 := hide (H6.out.below hb)
  replace H9 := hide (H9.out.below hb)
  have H10 := hide h10
  clear h10
  clear hb
  go_wp2_with fail
  refine (cmo H6.out H9.out H10.out).mono ?_
  rintro e w12 ⟨q1, q3, rfl, h11, hb⟩
  replace hB := below_step hB hb
  replace H3 := hide (H3.out.below hb)
  clear H6
  clear H9
  clear H10
  clear h11
  clear hb
  go_wp2_with fail
  refine (rd3 _).mono ?_
  rintro e w13 ⟨r1, r3, rfl, h12, hb⟩
  replace hB := below_step hB hb
  replace H3 := hide (H3.out.below hb)
  have H12 := hide h12
  clear h12
  clear hb
  go_wp2_with fail
  refine (cap H3.out H12.out).mono ?_
  rintro e w14 ⟨t1, t2, t3, rfl, h13, hb⟩
  replace hB := below_step hB hb
  clear H3
  clear H12
  have H13 := hide h13
  clear h13
  clear hb
  go_wp2_with fail
  refine (ctx H13.out).mono ?_
  rintro e w15 ⟨rfl, hb⟩
  replace hB := below_step hB hb
  clear H13
  clear hb
  go_wp2_with fail
  refine (rd9 _).mono ?_
  rintro e w16 ⟨v1, v3, rfl, h14, hb⟩
  replace hB := below_step hB hb
  have H14 := hide h14
  clear h14
  clear hb
  go_wp2_with fail
  refine (crn H14.out).mono ?_
  rintro e w17 ⟨y1, y2, y3, rfl, hb⟩
  replace hB := below_step hB hb
  clear H14
  clear hb
  have hfield : ∀ w : World, (Instr.field 26 (.agg #[.bool true, .int .i64 6, .slice y1 y2 y3]) 1).run Tryd.prog w = .ok (.int .i64 6) w := fun w => by simp [go_sem, Instr.field, asAgg]
  go_wp2_with fail
  go_ret
  exact ⟨rfl, hB⟩

end Go.Proofs.YtleogbdinafpaaaDoor

/- Made the same: what the law asks, told of terms alone; is a term without variables? -/
namespace Go.Proofs.YtleogbdinafpaaaDoor
open Go.RowKit Go.Deep Go.ChangeShapes Go.WideShapes
attribute [local go_sem ↓] Go.wp_at_zero Go.wp_at_succ

/-- What Unify finds, from right terms. -/
theorem unify_ok {n : Nat} {t u : Tm} {s : Sb} (hUI : UI [] [(t, u)]) (h : runU n [] [(t, u)] = some (some s)) : (∀ p ∈ s, Gd p.2) ∧ subT (bnd s) t = subT (bnd s) u := by
  obtain ⟨h1, _, h3⟩ := runU_sound n [] s [(t, u)] hUI h
  exact ⟨h1.gs, h3 (t, u) (by simp)⟩
/-- Whatever makes two terms the same is what is found, and then more. -/
theorem unify_most {n : Nat} {t u : Tm} {R : Option Sb} {σ : Int → Tm} (hUI : UI [] [(t, u)]) (h : runU n [] [(t, u)] = some R) (hσ : subT σ t = subT σ u) : ∃ s, R = some s ∧ subT σ (subT (bnd s) t) = subT σ t := by
  obtain ⟨s, hs, h2⟩ := runU_most (σ := σ) n [] R [(t, u)] hUI h (fun p hp => by simp at hp) (fun p hp => by simp only [List.mem_singleton] at hp; subst hp; exact hσ)
  refine ⟨s, hs, ?_⟩
  rw [subT_sub]
  refine subT_congr fun m _ => ?_
  cases e : look s m with
  | none => rw [bnd_none e]; rfl
  | some z => rw [bnd_some e]; exact h2 _ (look_mem e)

set_option maxRecDepth 100000 in
set_option maxHeartbeats 400000 in
theorem ground_any (x : Bool × Int) (k : Fo) (a : Value) (w : World) (hS : SIn w k a) (hg : Gd (x, k)) :
    Calls Tryd.prog 37 #[.agg #[.bool x.1, .int .i64 x.2, a]] w fun e w' => ∃ b : Bool, e = .returned (.bool b) ∧ Below w.heap.size w w' := by
  obtain ⟨xv, xn⟩ := x
  have HS := hide hS
  have hv := gd_vars hg
  have Hv : Hid ((varsT (xv, xn) k []).length * 8 ≤ 140737488355328) := by simp only at hv; unfold Hid; omega
  obtain ⟨ad, ac, b, o, rfl, -, -, -, -⟩ := hS
  clear hv
  go_enter Tryd.func37, Tryd.ntmps37
  go_wp2_with fail
  refine (varsR_few (xv, xn) k _ [] (.slice none 0 0) _ (varsT (xv, xn) k []) rfl (HS.out.alloc _) ⟨none, 0, 0, 0, rfl, fun h => by simp at h, Nat.le_refl _, Nat.zero_le _, fun i hi => by simp at hi⟩ Hv.out).mono ?_
  rintro e w1 ⟨v', rfl, hN, hb⟩
  obtain ⟨z1, z3, rfl⟩ := nin_slice hN
  have hB := below_box hb
  clear hN hb
  go_wp2_with fail
  go_ret
  exact ⟨_, rfl, hB⟩

end Go.Proofs.YtleogbdinafpaaaDoor

/- Made the same: the law's own walk. -/
namespace Go.Proofs.YtleogbdinafpaaaDoor
open Go.RowKit Go.Deep Go.ChangeShapes Go.WideShapes
attribute [local go_sem ↓] Go.wp_at_zero Go.wp_at_succ

def LawPost (w : World) (e : Ending) (w' : World) : Prop := e = .returned (.bool true) ∧ Below w.heap.size w w'

theorem sin_keep {X : Nat → Prop} {w w' : World} {k : Fo} {a : Value} (h : SB X w k a) (hr : ∀ q, X q → w'.heap[q]? = w.heap[q]?) : SIn w' k a := (h.kept hr).toS
theorem heap0 {W : World} {o1 o2 : Obj} {q : Nat} (h : q < W.heap.size) : ((W.alloc o1).alloc o2).heap[q]? = W.heap[q]? := by
  rw [Below.heap_alloc _ _ _ (by simp; omega), Below.heap_alloc _ _ _ h]
theorem heap1 {W : World} {b q : Nat} {x y z : Value} {o : Obj} (h : q < W.heap.size) (hn : q ≠ b) : ((((W.setCell ⟨b, 0, none⟩ x).setCell ⟨b, 1, none⟩ y).setCell ⟨b, 2, none⟩ z).alloc o).heap[q]? = W.heap[q]? := by
  have hs : (set3 W b 0 x y z).heap.size = W.heap.size := set3_size
  have e : (((W.setCell ⟨b, 0, none⟩ x).setCell ⟨b, 1, none⟩ y).setCell ⟨b, 2, none⟩ z) = set3 W b 0 x y z := rfl
  rw [e, Below.heap_alloc _ _ _ (by rw [hs]; exact h), set3_heap hn]
theorem heap2 {W : World} {b d q : Nat} {x y z x' y' z' : Value} (hn : q ≠ b) (hd : q ≠ d) : ((((((W.setCell ⟨b, 0, none⟩ x).setCell ⟨b, 1, none⟩ y).setCell ⟨b, 2, none⟩ z).setCell ⟨d, 0, none⟩ x').setCell ⟨d, 1, none⟩ y').setCell ⟨d, 2, none⟩ z').heap[q]? = W.heap[q]? := by
  have e : ((((((W.setCell ⟨b, 0, none⟩ x).setCell ⟨b, 1, none⟩ y).setCell ⟨b, 2, none⟩ z).setCell ⟨d, 0, none⟩ x').setCell ⟨d, 1, none⟩ y').setCell ⟨d, 2, none⟩ z') = set3 (set3 W b 0 x y z) d 0 x' y' z' := rfl
  rw [e, set3_heap hd, set3_heap hn]

/-- The document's Apply, whenever it is called. -/
theorem applyR_call {W wn : World} {s : Sb} {vs : Value} {x z : Bool × Int} {k zk : Fo} {a : Value} (hb0 : Below W.heap.size W wn) (hV : SubIn W s vs) (hs : ∀ p ∈ s, okT p.2) (hS : SIn W k a) (hok : okT (x, k)) (hnar : narT (x, k)) (hz : (z, zk) = subT (bnd s) (x, k)) (w' : World) (hb : Below wn.heap.size wn w') :
    Calls Tryd.prog 36 #[vs, .agg #[.bool x.1, .int .i64 x.2, a]] w' fun e w'' => ∃ (x1 : Option Addr) (x2 x3 m : Nat), m = w'.heap.size ∧ e = .returned (.agg #[.bool z.1, .int .i64 z.2, .slice x1 x2 x3]) ∧ SB (fun q => q < wn.heap.size ∨ (m ≤ q ∧ q < w''.heap.size)) w'' zk (.slice x1 x2 x3) ∧ Below w'.heap.size w' w'' := by
  refine (applyR_any x k s vs W a w' (below_step hb0 hb) hV hs hS hok hnar).mono ?_
  rintro e w'' ⟨x1, x2, x3, rfl, hSB, hb2⟩
  rw [← hz] at hSB ⊢
  have h0 := hb0.size
  exact ⟨x1, x2, x3, _, rfl, rfl, hSB.wide (fun q hq => by rcases hq with h | h; exact .inl (by omega); exact .inr h), hb2⟩
/-- Apply, whenever it is called. -/
theorem apply_call {wn : World} {s : Sb} {vs : Value} {x z : Bool × Int} {k zk : Fo} {a : Value} (hV : SubIn wn s vs) (hs : ∀ p ∈ s, Gd p.2) (hS : SIn wn k a) (hnar : narT (x, k)) (hz : (z, zk) = subT (bnd s) (x, k)) (w' : World) (hb : Below wn.heap.size wn w') :
    Calls Tryd.prog 35 #[vs, .agg #[.bool x.1, .int .i64 x.2, a]] w' fun e w'' => ∃ (x1 : Option Addr) (x2 x3 : Nat), e = .returned (.agg #[.bool z.1, .int .i64 z.2, .slice x1 x2 x3]) ∧ SIn w'' zk (.slice x1 x2 x3) ∧ Below w'.heap.size w' w'' := by
  refine (apply_any s vs x k a w' (hV.below hb) (fun p hp => ⟨(hs p hp).nar, (hs p hp).ok⟩) (hS.below hb) hnar).mono ?_
  rintro e w'' ⟨a', rfl, hO, hb2⟩
  rw [← hz] at hO ⊢
  obtain ⟨z1, z2, z3, rfl⟩ := slice_of_sin hO.toS
  exact ⟨z1, z2, z3, rfl, hO.toS, hb2⟩

set_option maxRecDepth 100000 in
set_option maxHeartbeats 4000000 in
theorem bindUnify_any (s : List Int) (sv : Value) (x : Bool × Int) (k : Fo) (a : Value) (y : Bool × Int) (l : Fo) (c : Value) (mo : Sb) (vs : Value) (w : World) (hN : NIn w s sv) (hS : SIn w k a) (hU : SIn w l c) (hV : SubIn w mo vs) (hk : Fo.norm k = k) (hl : Fo.norm l = l) (hb : ∀ p ∈ mo, Fo.norm p.2.2 = p.2.2) :
    Calls Tryd.prog 6 #[sv, .agg #[.bool x.1, .int .i64 x.2, a], .agg #[.bool y.1, .int .i64 y.2, c], vs] w (LawPost w) := by
  obtain ⟨xv, xn⟩ := x
  obtain ⟨yv, yn⟩ := y
  have HN := hide hN
  have HS := hide hS
  have HU := hide hU
  have HV := hide hV
  have Hk := hide hk
  have Hl := hide hl
  have Hb := hide hb
  obtain ⟨sa, sc, sb, so, rfl, -, -, -, -⟩ := hN
  obtain ⟨ad, ac, b, o, rfl, -, -, -, -⟩ := hS
  obtain ⟨ud, uc, ub, uo, rfl, -, -, -, -⟩ := hU
  obtain ⟨vd, vc, vb, vo, rfl, hvd, hvlc, hvcm, hP⟩ := hV
  have HP := hide hP
  unfold maxLen at hvcm
  clear hk hl hb hP
  go_enter Tryd.func6, Tryd.ntmps6
  go_wp2_with fail
  generalize hW2 : (w.alloc (.cells #[.bool xv, .int .i64 xn, .slice ad (Fo.len k) ac] 26)).alloc (.cells #[.bool yv, .int .i64 yn, .slice ud (Fo.len l) uc] 26) = W2
  have hB2 : Below w.heap.size w W2 := by rw [← hW2]; exact (below_alloc _ _).alloc (by simp) _
  have hs2 : W2.heap.size = w.heap.size + 1 + 1 := by rw [← hW2]; simp
  have p0 : W2.cell? ⟨w.heap.size, 0, none⟩ = some (.bool xv) := by rw [← hW2, World.cell?_alloc_lt _ _ _ (by simp)]; exact new_cell rfl
  have p1 : W2.cell? ⟨w.heap.size, 1, none⟩ = some (.int .i64 xn) := by rw [← hW2, World.cell?_alloc_lt _ _ _ (by simp)]; exact new_cell rfl
  have p2 : W2.cell? ⟨w.heap.size, 2, none⟩ = some (.slice ad (Fo.len k) ac) := by rw [← hW2, World.cell?_alloc_lt _ _ _ (by simp)]; exact new_cell rfl
  have r0 : W2.cell? ⟨w.heap.size + 1, 0, none⟩ = some (.bool yv) := by rw [← hW2]; exact new_cell (World.size_alloc _ _)
  have r1 : W2.cell? ⟨w.heap.size + 1, 1, none⟩ = some (.int .i64 yn) := by rw [← hW2]; exact new_cell (World.size_alloc _ _)
  have r2 : W2.cell? ⟨w.heap.size + 1, 2, none⟩ = some (.slice ud (Fo.len l) uc) := by rw [← hW2]; exact new_cell (World.size_alloc _ _)
  clear hW2
  refine (alive2_any W2).mono ?_
  rintro e w3 ⟨rfl, hb3⟩
  have p0' := grow_cell hb3 _ _ p0
  have p1' := grow_cell hb3 _ _ p1
  have p2' := grow_cell hb3 _ _ p2
  have r0' := grow_cell hb3 _ _ r0
  have r1' := grow_cell hb3 _ _ r1
  have r2' := grow_cell hb3 _ _ r2
  have hB3 := below_step hB2 hb3
  clear p0 p1 p2 r0 r1 r2 hB2 hb3
  go_wp2_with fail
  refine (right_any s _ (two ((xv, xn), k) ((yv, yn), l)) _ _ ((HN.out.below hB3).alloc _) (two_in (t := ((xv, xn), k)) (u := ((yv, yn), l)) (HS.out.below hB3) (HU.out.below hB3))).mono ?_
  rintro e w4 ⟨rfl, hb4⟩
  have hB34 := below_box hb4
  have hB4 := below_step hB3 hB34
  cases hr : rightB s (two ((xv, xn), k) ((yv, yn), l))
  · clear hr hb4
    go_wp2_with fail
    go_ret
    exact ⟨rfl, hB4⟩
  · obtain ⟨hsn, hw1, hw2⟩ := right_two hr
    have Hg1 := hide (gd_right hsn Hk.out hw1)
    have Hg2 := hide (gd_right hsn Hl.out hw2)
    have q0 := grow_cell hB34 _ _ p0'
    have q1 := grow_cell hB34 _ _ p1'
    have q2 := grow_cell hB34 _ _ p2'
    have t0 := grow_cell hB34 _ _ r0'
    have t1 := grow_cell hB34 _ _ r1'
    have t2 := grow_cell hB34 _ _ r2'
    have HC := hide (And.intro q0 (And.intro q1 (And.intro q2 (And.intro t0 (And.intro t1 t2)))))
    have HB4 := hide hB4
    clear hr hb4 hB34 p0' p1' p2' r0' r1' r2' hsn hw1 hw2 hB3 q0 q1 q2 t0 t1 t2 hB4
    go_wp2_with fail
    go_loopw [25] (fun i wr => ∃ j : Nat, j ≤ mo.length ∧ i = .int .i64 j ∧ (∀ q p, q < j → mo[q]? = some p → Gd p.2) ∧ Below w4.heap.size w4 wr) (fun i _ => mo.length - (intOf i).toNat)
    case atStart => exact ⟨0, Nat.zero_le _, rfl, fun q _ hq => by omega, Below.refl _ _⟩
    case round =>
      obtain ⟨j, hj, rfl, hall, hBr4⟩ := hrel
      have Hall := hide hall
      have hBr : Below w.heap.size w wr := below_step HB4.out hBr4
      clear hall
      by_cases hlt : j < mo.length
      · have hlt' : (j : Int) < (mo.length : Int) := by omega
        obtain ⟨⟨m, ⟨tv, tn⟩, tk⟩, hy⟩ : ∃ y, mo[j]? = some y := ⟨mo[j], by simp [hlt]⟩
        obtain ⟨d0, d1, d2, tv', d3, hSy⟩ := (HP.out.below hBr).at hy
        have HSy := hide hSy
        obtain ⟨ya, yc, yb, yo, rfl, -, -, -, -⟩ := hSy
        have ha : vd = some ⟨vb, vo, none⟩ := hvd (by omega)
        subst ha
        have Hy := hide hy
        have Hnk : Hid (Fo.norm tk = tk) := Hb.out _ (List.mem_of_getElem? hy)
        clear hy hvd
        go_wp2_with fail
        refine (right_any s _ (one1 ((tv, tn), tk)) _ _ (((HN.out.below hBr).alloc _).alloc _) ?_).mono ?_
        · have h := one_in (w := wr.alloc (.cells #[.int .i64 m, .bool tv, .int .i64 tn, .slice ya (Fo.len tk) yc] 52)) (t := ((tv, tn), tk)) (a := .slice ya (Fo.len tk) yc) (HSy.out.alloc _)
          rw [World.size_alloc] at h
          exact h
        rintro e w7 ⟨rfl, hb7⟩
        have hb7' := below_box (below_box hb7)
        have hB7 := below_step hBr hb7'
        have hB67 := below_step hBr4 hb7'
        cases hr : rightB s (one1 ((tv, tn), tk))
        · clear hr hb7 hb7'
          go_wp2_with fail
          go_ret
          exact ⟨rfl, hB7⟩
        · obtain ⟨hsn, hwr⟩ := right_one hr
          have Hall2 : Hid (∀ q p, q < j + 1 → mo[q]? = some p → Gd p.2) := fun q p hq hp => by
            by_cases e : q = j
            · subst e
              rw [Hy.out] at hp
              cases hp
              exact (gd_right hsn Hnk.out hwr).1
            · exact Hall.out q p (by omega) hp
          clear hr hb7 hb7' hsn hwr
          go_wp2_with fail
          go_roundw
          case rel => exact ⟨j + 1, by omega, by go_num, Hall2.out, hB67⟩
          case measure => simp [intOf]; omega
      · have Hgd : Hid (∀ p ∈ mo, Gd p.2) := fun p hp => by
          obtain ⟨i, hi, e⟩ := List.mem_iff_getElem.1 hp
          exact Hall.out i p (by omega) (by rw [List.getElem?_eq_getElem hi, e])
        obtain ⟨q0, q1, q2, t0, t1, t2⟩ := HC.out
        have a0 := grow_cell hBr4 _ _ q0
        have a1 := grow_cell hBr4 _ _ q1
        have a2 := grow_cell hBr4 _ _ q2
        have a3 := grow_cell hBr4 _ _ t0
        have a4 := grow_cell hBr4 _ _ t1
        have a5 := grow_cell hBr4 _ _ t2
        have HUI := hide (ui_of Hg1.out.1 Hg2.out.1 Hg1.out.2.1 Hg2.out.2.1)
        obtain ⟨n, R, hR⟩ := runU_end _ _ _ _ rfl rfl HUI.out
        have HR := hide hR
        clear q0 q1 q2 t0 t1 t2 hvd hR Hall
        go_wp2_with fail
        refine (unify_any (xv, xn) k _ (yv, yn) l _ wr n R HR.out HUI.out (HS.out.below hBr) (HU.out.below hBr)).mono ?_
        rintro e w7 ⟨hb7, z1, zm, z3, ok, rfl, hno, hyes⟩
        have n0 := grow_cell hb7 _ _ a0
        have n1 := grow_cell hb7 _ _ a1
        have n2 := grow_cell hb7 _ _ a2
        have n3 := grow_cell hb7 _ _ a3
        have n4 := grow_cell hb7 _ _ a4
        have n5 := grow_cell hb7 _ _ a5
        have hB7 := below_step hBr hb7
        have Hno := hide hno
        have Hyes := hide hyes
        clear a0 a1 a2 a3 a4 a5 hb7 hno hyes
        go_upto_region 12 with fail
        go_cut [52] (fun s52 wx => s52 = .bool false ∧ Below w7.heap.size w7 wx)
        case first =>
          cases ok
          · go_region
            all_goals
              go_wp2_with fail
              go_meet
              case rel => exact ⟨rfl, (Below.refl _ _).drew⟩
          · obtain ⟨s', h1, h2, h3⟩ := Hyes.out rfl
            subst h2
            have hR := HR.out
            rw [h1] at hR
            have Hu := hide (unify_ok HUI.out hR)
            obtain ⟨⟨⟨cv, cn⟩, ck⟩, hc⟩ : ∃ z, z = subT (bnd s') ((xv, xn), k) := ⟨_, rfl⟩
            have HcA := hide (fun w' hb => apply_call h3 Hu.out.1 (HS.out.below hB7) Hg1.out.1.nar hc w' hb)
            have HcB := hide (fun w' hb => apply_call h3 Hu.out.1 (HU.out.below hB7) Hg2.out.1.nar (hc.trans Hu.out.2) w' hb)
            have hcur : Below w7.heap.size w7 w7.drew := (Below.refl _ _).drew
            clear hc h3 h1 hR
            go_region_held3 (fun w' => w'.cell? ⟨w.heap.size, 0, none⟩ = some (.bool xv) ∧ w'.cell? ⟨w.heap.size, 1, none⟩ = some (.int .i64 xn) ∧ w'.cell? ⟨w.heap.size, 2, none⟩ = some (.slice ad (Fo.len k) ac) ∧ w'.cell? ⟨w.heap.size + 1, 0, none⟩ = some (.bool yv) ∧ w'.cell? ⟨w.heap.size + 1, 1, none⟩ = some (.int .i64 yn) ∧ w'.cell? ⟨w.heap.size + 1, 2, none⟩ = some (.slice ud (Fo.len l) uc))
              (first
                | (with_reducible exact ⟨grow_cell hcur _ _ n0, grow_cell hcur _ _ n1, grow_cell hcur _ _ n2, grow_cell hcur _ _ n3, grow_cell hcur _ _ n4, grow_cell hcur _ _ n5⟩)
                | go_keep)
              (first
                | (go_at_call 35; with_reducible refine (HcA.out _ hcur).mono ?_; rintro e wA ⟨x1, x2, x3, rfl, hSx, hbA⟩; replace hcur := below_step hcur hbA)
                | (go_at_call 35; with_reducible refine (HcB.out _ hcur).mono ?_; rintro e wB ⟨y1, y2, y3, rfl, hSy, hbB⟩; replace hcur := below_step hcur hbB)
                | (go_at_call 13; refine (sameR_any (cv, cn) ck (cv, cn) ck _ _ wB (hSx.below hbB) hSy).mono ?_; rw [sameT_refl]; rintro e wC ⟨rfl, hbC⟩; replace hcur := below_step hcur hbC))
            all_goals
              go_wp2_with fail
              go_meet
              case rel => exact ⟨rfl, hcur⟩
        case rest =>
          obtain ⟨rfl, hb8⟩ := hcut
          generalize wc = wn at *
          have hBn := below_step hB7 hb8
          have Hsub : Hid (ok = true → ∃ s', R = some s' ∧ zm = s'.length ∧ SubIn wn s' (.slice z1 zm z3)) := fun e => by
            obtain ⟨s', h1, h2, h3⟩ := Hyes.out e
            exact ⟨s', h1, h2, h3.below hb8⟩
          replace n0 := grow_cell hb8 _ _ n0
          replace n1 := grow_cell hb8 _ _ n1
          replace n2 := grow_cell hb8 _ _ n2
          replace n3 := grow_cell hb8 _ _ n3
          replace n4 := grow_cell hb8 _ _ n4
          replace n5 := grow_cell hb8 _ _ n5
          have hnl : w.heap.size + 1 < wn.heap.size := World.block_lt_of_cell? _ _ n3
          obtain ⟨⟨⟨mv, mn⟩, mk⟩, hm⟩ : ∃ z, z = subT (bnd mo) ((xv, xn), k) := ⟨_, rfl⟩
          obtain ⟨⟨⟨nv, nn⟩, nk⟩, hn⟩ : ∃ z, z = subT (bnd mo) ((yv, yn), l) := ⟨_, rfl⟩
          have HcA := hide (fun w' hb => applyR_call hBn HV.out (fun p hp => (Hgd.out p hp).ok) HS.out Hg1.out.1.ok Hg1.out.1.nar hm w' hb)
          have HcB := hide (fun w' hb => applyR_call hBn HV.out (fun p hp => (Hgd.out p hp).ok) HU.out Hg2.out.1.ok Hg2.out.1.nar hn w' hb)
          have Hm := hide hm
          have Hn := hide hn
          have hcur : Below wn.heap.size wn wn := Below.refl _ _
          clear hb8 hB7 hm hn Hyes
          go_upto_region 14 with fail
          go_cut [13, 14] (fun s13 s14 wx => ∃ (bx bb : Nat) (x1 : Option Addr) (x2 x3 : Nat) (y1 : Option Addr) (y2 y3 : Nat), s13 = .pointer (some ⟨bx, 0, none⟩) ∧ s14 = .pointer (some ⟨bb, 0, none⟩) ∧
            (C3 wx bx (.bool mv) (.int .i64 mn) (.slice x1 x2 x3) ∧ C3 wx bb (.bool nv) (.int .i64 nn) (.slice y1 y2 y3) ∧ Below wn.heap.size wn wx) ∧ SIn wx mk (.slice x1 x2 x3) ∧ SIn wx nk (.slice y1 y2 y3))
          case first =>
            have neN : wn.heap.size ≠ w.heap.size := (by omega)
            have neN1 : wn.heap.size + 1 ≠ w.heap.size := (by omega)
            have neN2 : wn.heap.size ≠ w.heap.size + 1 := (by omega)
            have neN3 : wn.heap.size + 1 ≠ w.heap.size + 1 := (by omega)
            go_region_held3 (fun w' => w'.cell? ⟨w.heap.size, 0, none⟩ = some (.bool xv) ∧ w'.cell? ⟨w.heap.size, 1, none⟩ = some (.int .i64 xn) ∧ w'.cell? ⟨w.heap.size, 2, none⟩ = some (.slice ad (Fo.len k) ac) ∧ w'.cell? ⟨w.heap.size + 1, 0, none⟩ = some (.bool yv) ∧ w'.cell? ⟨w.heap.size + 1, 1, none⟩ = some (.int .i64 yn) ∧ w'.cell? ⟨w.heap.size + 1, 2, none⟩ = some (.slice ud (Fo.len l) uc))
          (first
            | (with_reducible exact ⟨grow_cell hcur _ _ n0, grow_cell hcur _ _ n1, grow_cell hcur _ _ n2, grow_cell hcur _ _ n3, grow_cell hcur _ _ n4, grow_cell hcur _ _ n5⟩)
            | go_keep)
          (first
          | (go_at_call 36; with_reducible refine (HcA.out _ ?_).mono ?_; (with_reducible first | exact hcur | exact hcur.drew | exact (hcur.alloc hcur.size _).drew | exact hcur.alloc hcur.size _ | exact ((hcur.alloc hcur.size _).alloc (hcur.alloc hcur.size _).size _).drew | exact (hcur.alloc hcur.size _).alloc (hcur.alloc hcur.size _).size _); rintro e wA ⟨x1, x2, x3, mA, hmA, rfl, hSx, hbA⟩
             (with_reducible first | (refine thus (box2d hbA) ?_; rintro ⟨⟨fA0, fA1, fA2, fAf⟩, ⟨gA0, gA1, gA2, gAf⟩, fAl⟩; have fAk := Nat.lt_of_succ_lt fAl) | (refine thus (box2 hbA) ?_; rintro ⟨⟨fA0, fA1, fA2, fAf⟩, ⟨gA0, gA1, gA2, gAf⟩, fAl⟩; have fAk := Nat.lt_of_succ_lt fAl) | (refine thus (box1d hbA) ?_; rintro ⟨fA0, fA1, fA2, fAf, fAl⟩) | (refine thus (box1 hbA) ?_; rintro ⟨fA0, fA1, fA2, fAf, fAl⟩) | skip)
             (first | (refine thus (hmA.trans (size2 _ _ _)) ?_; intro kA) | (refine thus (hmA.trans (World.size_alloc _ _)) ?_; intro kA) | (refine thus hmA ?_; intro kA))
             (try (have hst : Below wB.heap.size wB wA := (by with_reducible first | exact hbA | exact below_box hbA | exact below_box (below_box hbA)); have hsl := hst.size; (try (have fB0' := grow_cell hst _ _ fB0; have fB1' := grow_cell hst _ _ fB1; have fB2' := grow_cell hst _ _ fB2; have ltfB0 := World.block_lt_of_cell? _ _ fB0; have ltfBc := World.block_lt_of_cell? _ _ fB0'; dsimp only at ltfBc; have fBf' := (fun i => (hst.frozen (p := ⟨_, i, none⟩) ltfB0).trans (fBf i)))); (try (have gB0' := grow_cell hst _ _ gB0; have gB1' := grow_cell hst _ _ gB1; have gB2' := grow_cell hst _ _ gB2; have ltgB0 := World.block_lt_of_cell? _ _ gB0; have ltgBc := World.block_lt_of_cell? _ _ gB0'; dsimp only at ltgBc; have gBf' := (fun i => (hst.frozen (p := ⟨_, i, none⟩) ltgB0).trans (gBf i))))))
             have hcurA : Below wn.heap.size wn wA := below_step (by with_reducible first | exact hcur | exact hcur.drew | exact (hcur.alloc hcur.size _).drew | exact hcur.alloc hcur.size _ | exact ((hcur.alloc hcur.size _).alloc (hcur.alloc hcur.size _).size _).drew | exact (hcur.alloc hcur.size _).alloc (hcur.alloc hcur.size _).size _) hbA
             replace hcur : Below wn.heap.size wn wA := below_step (by with_reducible first | exact hcur | exact hcur.drew | exact (hcur.alloc hcur.size _).drew | exact hcur.alloc hcur.size _ | exact ((hcur.alloc hcur.size _).alloc (hcur.alloc hcur.size _).size _).drew | exact (hcur.alloc hcur.size _).alloc (hcur.alloc hcur.size _).size _) hbA
             have hlA : w.heap.size + 1 < wA.heap.size := Nat.lt_of_lt_of_le hnl hcur.size
             have neA : wA.heap.size ≠ w.heap.size := (by omega)
             have neA1 : wA.heap.size + 1 ≠ w.heap.size := (by omega)
             have neA2 : wA.heap.size ≠ w.heap.size + 1 := (by omega)
             have neA3 : wA.heap.size + 1 ≠ w.heap.size + 1 := (by omega)
             have mA0 := grow_cell hcur _ _ n0; have mA1 := grow_cell hcur _ _ n1; have mA2 := grow_cell hcur _ _ n2; have mA3 := grow_cell hcur _ _ n3; have mA4 := grow_cell hcur _ _ n4; have mA5 := grow_cell hcur _ _ n5)
          | (go_at_call 36; with_reducible refine (HcB.out _ ?_).mono ?_; (with_reducible first | exact hcur | exact hcur.drew | exact (hcur.alloc hcur.size _).drew | exact hcur.alloc hcur.size _ | exact ((hcur.alloc hcur.size _).alloc (hcur.alloc hcur.size _).size _).drew | exact (hcur.alloc hcur.size _).alloc (hcur.alloc hcur.size _).size _); rintro e wB ⟨y1, y2, y3, mB, hmB, rfl, hSy, hbB⟩
             (with_reducible first | (refine thus (box2d hbB) ?_; rintro ⟨⟨fB0, fB1, fB2, fBf⟩, ⟨gB0, gB1, gB2, gBf⟩, fBl⟩; have fBk := Nat.lt_of_succ_lt fBl) | (refine thus (box2 hbB) ?_; rintro ⟨⟨fB0, fB1, fB2, fBf⟩, ⟨gB0, gB1, gB2, gBf⟩, fBl⟩; have fBk := Nat.lt_of_succ_lt fBl) | (refine thus (box1d hbB) ?_; rintro ⟨fB0, fB1, fB2, fBf, fBl⟩) | (refine thus (box1 hbB) ?_; rintro ⟨fB0, fB1, fB2, fBf, fBl⟩) | skip)
             (first | (refine thus (hmB.trans (size2 _ _ _)) ?_; intro kB) | (refine thus (hmB.trans (World.size_alloc _ _)) ?_; intro kB) | (refine thus hmB ?_; intro kB))
             (try (have hst : Below wA.heap.size wA wB := (by with_reducible first | exact hbB | exact below_box hbB | exact below_box (below_box hbB)); have hsl := hst.size; (try (have fA0' := grow_cell hst _ _ fA0; have fA1' := grow_cell hst _ _ fA1; have fA2' := grow_cell hst _ _ fA2; have ltfA0 := World.block_lt_of_cell? _ _ fA0; have ltfAc := World.block_lt_of_cell? _ _ fA0'; dsimp only at ltfAc; have fAf' := (fun i => (hst.frozen (p := ⟨_, i, none⟩) ltfA0).trans (fAf i)))); (try (have gA0' := grow_cell hst _ _ gA0; have gA1' := grow_cell hst _ _ gA1; have gA2' := grow_cell hst _ _ gA2; have ltgA0 := World.block_lt_of_cell? _ _ gA0; have ltgAc := World.block_lt_of_cell? _ _ gA0'; dsimp only at ltgAc; have gAf' := (fun i => (hst.frozen (p := ⟨_, i, none⟩) ltgA0).trans (gAf i))))))
             replace hcur : Below wn.heap.size wn wB := below_step (by with_reducible first | exact hcur | exact hcur.drew | exact (hcur.alloc hcur.size _).drew | exact hcur.alloc hcur.size _ | exact ((hcur.alloc hcur.size _).alloc (hcur.alloc hcur.size _).size _).drew | exact (hcur.alloc hcur.size _).alloc (hcur.alloc hcur.size _).size _) hbB
             have hlB : w.heap.size + 1 < wB.heap.size := Nat.lt_of_lt_of_le hnl hcur.size
             have neB : wB.heap.size ≠ w.heap.size := (by omega)
             have neB1 : wB.heap.size + 1 ≠ w.heap.size := (by omega)
             have neB2 : wB.heap.size ≠ w.heap.size + 1 := (by omega)
             have neB3 : wB.heap.size + 1 ≠ w.heap.size + 1 := (by omega)
             have mB0 := grow_cell hcur _ _ n0; have mB1 := grow_cell hcur _ _ n1; have mB2 := grow_cell hcur _ _ n2; have mB3 := grow_cell hcur _ _ n3; have mB4 := grow_cell hcur _ _ n4; have mB5 := grow_cell hcur _ _ n5))
            all_goals
              have hnA := hcurA.size
              have hnA1 : wn.heap.size ≤ wA.heap.size + 1 := Nat.le_succ_of_le hnA
              go_wp2_with fail
              go_meet
              case rel =>
               first
              | (with_reducible refine ⟨wB.heap.size, wB.heap.size + 1, x1, x2, x3, y1, y2, y3, rfl, rfl, fin0 hcur, sin_keep hSx (fun q hq => ?_), sin_keep hSy (fun q hq => ?_)⟩
                 · exact (heap0 (by omega)).trans (hst.block q (by omega))
                 · exact heap0 (by omega))
              | (with_reducible refine ⟨wB.heap.size + 1, wB.heap.size, x1, x2, x3, y1, y2, y3, rfl, rfl, swap3 (fin0 hcur), sin_keep hSx (fun q hq => ?_), sin_keep hSy (fun q hq => ?_)⟩
                 · exact (heap0 (by omega)).trans (hst.block q (by omega))
                 · exact heap0 (by omega))
              | (with_reducible refine ⟨wA.heap.size, wB.heap.size, x1, x2, x3, y1, y2, y3, rfl, rfl, fin1 hcur hnA fB0 fB1 fB2, sin_keep hSx (fun q hq => ?_), sin_keep hSy (fun q hq => ?_)⟩
                 · exact (heap1 (by omega) (by omega)).trans (hst.block q (by omega))
                 · exact heap1 (by omega) (by omega))
              | (with_reducible refine ⟨wB.heap.size, wA.heap.size, x1, x2, x3, y1, y2, y3, rfl, rfl, swap3 (fin1 hcur hnA fB0 fB1 fB2), sin_keep hSx (fun q hq => ?_), sin_keep hSy (fun q hq => ?_)⟩
                 · exact (heap1 (by omega) (by omega)).trans (hst.block q (by omega))
                 · exact heap1 (by omega) (by omega))
              | (with_reducible refine ⟨wn.heap.size, wB.heap.size, x1, x2, x3, y1, y2, y3, rfl, rfl, fin1 hcur (Nat.le_refl _) fA0' fA1' fA2', sin_keep hSx (fun q hq => ?_), sin_keep hSy (fun q hq => ?_)⟩
                 · exact (heap1 (by omega) (by omega)).trans (hst.block q (by omega))
                 · exact heap1 (by omega) (by omega))
              | (with_reducible refine ⟨wB.heap.size, wn.heap.size, x1, x2, x3, y1, y2, y3, rfl, rfl, swap3 (fin1 hcur (Nat.le_refl _) fA0' fA1' fA2'), sin_keep hSx (fun q hq => ?_), sin_keep hSy (fun q hq => ?_)⟩
                 · exact (heap1 (by omega) (by omega)).trans (hst.block q (by omega))
                 · exact heap1 (by omega) (by omega))
              | (with_reducible refine ⟨wA.heap.size, wA.heap.size + 1, x1, x2, x3, y1, y2, y3, rfl, rfl, fin2 hcur hnA hnA1 (Nat.ne_of_lt (Nat.lt_succ_self _)) fB0 fB1 fB2 gB0 gB1 gB2, sin_keep hSx (fun q hq => ?_), sin_keep hSy (fun q hq => ?_)⟩
                 · exact (heap2 (by omega) (by omega)).trans (hst.block q (by omega))
                 · exact heap2 (by omega) (by omega))
              | (with_reducible refine ⟨wA.heap.size + 1, wA.heap.size, x1, x2, x3, y1, y2, y3, rfl, rfl, fin2 hcur hnA1 hnA (Nat.ne_of_gt (Nat.lt_succ_self _)) gB0 gB1 gB2 fB0 fB1 fB2, sin_keep hSx (fun q hq => ?_), sin_keep hSy (fun q hq => ?_)⟩
                 · exact (heap2 (by omega) (by omega)).trans (hst.block q (by omega))
                 · exact heap2 (by omega) (by omega))
              | (with_reducible refine ⟨wn.heap.size, wA.heap.size, x1, x2, x3, y1, y2, y3, rfl, rfl, fin2 hcur (Nat.le_refl _) hnA (Nat.ne_of_lt fAl) fA0' fA1' fA2' fB0 fB1 fB2, sin_keep hSx (fun q hq => ?_), sin_keep hSy (fun q hq => ?_)⟩
                 · exact (heap2 (by omega) (by omega)).trans (hst.block q (by omega))
                 · exact heap2 (by omega) (by omega))
              | (with_reducible refine ⟨wA.heap.size, wn.heap.size, x1, x2, x3, y1, y2, y3, rfl, rfl, fin2 hcur hnA (Nat.le_refl _) (Nat.ne_of_gt fAl) fB0 fB1 fB2 fA0' fA1' fA2', sin_keep hSx (fun q hq => ?_), sin_keep hSy (fun q hq => ?_)⟩
                 · exact (heap2 (by omega) (by omega)).trans (hst.block q (by omega))
                 · exact heap2 (by omega) (by omega))
              | (with_reducible refine ⟨wn.heap.size, wn.heap.size + 1, x1, x2, x3, y1, y2, y3, rfl, rfl, fin2 hcur (Nat.le_refl _) (Nat.le_succ _) (Nat.ne_of_lt (Nat.lt_succ_self _)) fA0' fA1' fA2' gA0' gA1' gA2', sin_keep hSx (fun q hq => ?_), sin_keep hSy (fun q hq => ?_)⟩
                 · exact (heap2 (by omega) (by omega)).trans (hst.block q (by omega))
                 · exact heap2 (by omega) (by omega))
              | (with_reducible refine ⟨wn.heap.size + 1, wn.heap.size, x1, x2, x3, y1, y2, y3, rfl, rfl, fin2 hcur (Nat.le_succ _) (Nat.le_refl _) (Nat.ne_of_gt (Nat.lt_succ_self _)) gA0' gA1' gA2' fA0' fA1' fA2', sin_keep hSx (fun q hq => ?_), sin_keep hSy (fun q hq => ?_)⟩
                 · exact (heap2 (by omega) (by omega)).trans (hst.block q (by omega))
                 · exact heap2 (by omega) (by omega))
          case rest =>
            obtain ⟨bx, bb, x1, x2, x3, y1, y2, y3, rfl, rfl, ⟨⟨a0, a1, a2⟩, ⟨e0, e1, e2⟩, hbx⟩, hSm, hSn⟩ := hcut
            generalize wc = wx at *
            have hBx := below_step hBn hbx
            have HSm := hide hSm
            have HSn := hide hSn
            have HgM : Hid (Gd ((mv, mn), mk)) := by rw [Hid, Hm.out]; exact gd_sub Hgd.out Hg1.out.1
            have HgN : Hid (Gd ((nv, nn), nk)) := by rw [Hid, Hn.out]; exact gd_sub Hgd.out Hg2.out.1
            replace n0 := grow_cell hbx _ _ n0
            replace n1 := grow_cell hbx _ _ n1
            replace n2 := grow_cell hbx _ _ n2
            replace Hsub : Hid (ok = true → ∃ s', R = some s' ∧ zm = s'.length ∧ SubIn wx s' (.slice z1 zm z3)) := fun e => by
              obtain ⟨s', h1, h2, h3⟩ := Hsub.out e
              exact ⟨s', h1, h2, h3.below hbx⟩
            clear hSm hSn n3 n4 n5 hnl hcur HcA HcB hbx hBn
            go_wp2_with fail
            refine (sameR_any (mv, mn) mk (nv, nn) nk _ _ wx HSm.out HSn.out).mono ?_
            rintro e w9 ⟨rfl, hb9⟩
            have hB9 := below_step hBx hb9
            cases hsm : sameT (mv, mn) mk (nv, nn) nk
            · clear hsm
              go_wp2_with fail
              go_ret
              exact ⟨rfl, hB9⟩
            · have Heq : Hid (subT (bnd mo) ((xv, xn), k) = subT (bnd mo) ((yv, yn), l)) := by
                rw [Hid, ← Hm.out, ← Hn.out]
                exact sameT_eq HgM.out.ok HgN.out.ok hsm
              have Hmost := hide (unify_most HUI.out HR.out Heq.out)
              have b0 := grow_cell hb9 _ _ a0
              have b1 := grow_cell hb9 _ _ a1
              have b2 := grow_cell hb9 _ _ a2
              have c0 := grow_cell hb9 _ _ n0
              have c1 := grow_cell hb9 _ _ n1
              have c2 := grow_cell hb9 _ _ n2
              have HSm9 := hide (HSm.out.below hb9)
              have Hsub9 : Hid (ok = true → ∃ s', R = some s' ∧ zm = s'.length ∧ SubIn w9 s' (.slice z1 zm z3)) := fun e => by
                obtain ⟨s', h1, h2, h3⟩ := Hsub.out e
                exact ⟨s', h1, h2, h3.below hb9⟩
              clear hsm a0 a1 a2 e0 e1 e2 n0 n1 n2 hb9 hBx HSm HSn Hsub
              go_wp2_with fail
              refine (ground_any (mv, mn) mk _ w9 HSm9.out HgM.out).mono ?_
              rintro e w10 ⟨gr, rfl, hb10⟩
              have hB10 := below_step hB9 hb10
              cases gr
              · go_wp2_with fail
                go_ret
                exact ⟨rfl, hB10⟩
              · obtain ⟨s', hs', hmost⟩ := Hmost.out
                cases ok
                · have := (Hno.out rfl).1
                  rw [hs'] at this
                  cases this
                · obtain ⟨s2, h1, h2, h3⟩ := Hsub9.out rfl
                  rw [hs'] at h1
                  cases h1
                  subst h2
                  have hR := HR.out
                  rw [hs'] at hR
                  have Hu := hide (unify_ok HUI.out hR)
                  obtain ⟨⟨⟨cv, cn⟩, ck⟩, hc⟩ : ∃ z, z = subT (bnd s') ((xv, xn), k) := ⟨_, rfl⟩
                  have HgC : Hid (Gd ((cv, cn), ck)) := by rw [Hid, hc]; exact gd_sub Hu.out.1 Hg1.out.1
                  have Hres : Hid (((mv, mn), mk) = subT (bnd mo) ((cv, cn), ck)) := by rw [Hid, hc, Hm.out, hmost]
                  have HcA := hide (fun w' hb => apply_call (h3.below hb10) Hu.out.1 (HS.out.below hB10) Hg1.out.1.nar hc w' hb)
                  have d0 := grow_cell hb10 _ _ b0
                  have d1 := grow_cell hb10 _ _ b1
                  have d2 := grow_cell hb10 _ _ b2
                  have d3 := grow_cell hb10 _ _ c0
                  have d4 := grow_cell hb10 _ _ c1
                  have d5 := grow_cell hb10 _ _ c2
                  have HSm10 := hide (HSm9.out.below hb10)
                  have hcur : Below w10.heap.size w10 w10.drew := (Below.refl _ _).drew
                  clear hc hs' hmost h3 hR b0 b1 b2 c0 c1 c2 hb10 hB9
                  go_upto_region 19 with fail
                  go_region_held3 (fun w' => w'.cell? ⟨bx, 0, none⟩ = some (.bool mv) ∧ w'.cell? ⟨bx, 1, none⟩ = some (.int .i64 mn) ∧ w'.cell? ⟨bx, 2, none⟩ = some (.slice x1 x2 x3) ∧ w'.cell? ⟨w.heap.size, 0, none⟩ = some (.bool xv) ∧ w'.cell? ⟨w.heap.size, 1, none⟩ = some (.int .i64 xn) ∧ w'.cell? ⟨w.heap.size, 2, none⟩ = some (.slice ad (Fo.len k) ac))
                    (first
                      | (with_reducible exact ⟨grow_cell hcur _ _ d0, grow_cell hcur _ _ d1, grow_cell hcur _ _ d2, grow_cell hcur _ _ d3, grow_cell hcur _ _ d4, grow_cell hcur _ _ d5⟩)
                      | go_keep)
                    (first
                      | (go_at_call 35; with_reducible refine (HcA.out _ hcur).mono ?_; rintro e wA ⟨u1, u2, u3, rfl, hSx, hbA⟩; replace hcur := below_step hcur hbA)
                      | (go_at_call 36; refine (applyR_call (W := wA) (wn := wA) (z := (mv, mn)) (zk := mk) (Below.refl _ _) (HV.out.below (below_step hB10 hcur)) (fun p hp => (Hgd.out p hp).ok) hSx HgC.out.ok HgC.out.nar Hres.out wA (Below.refl _ _)).mono ?_; rintro e wB ⟨v1, v2, v3, mB, _, rfl, hSy, hbB⟩; replace hcur := below_step hcur hbB)
                      | (go_at_call 13; refine (sameR_any (mv, mn) mk (mv, mn) mk _ _ wB hSy.toS (HSm10.out.below hcur)).mono ?_; rw [sameT_refl]; rintro e wC ⟨rfl, hbC⟩; replace hcur := below_step hcur hbC))
                  all_goals
                    have Hend := hide (below_step hB10 hcur)
                    go_wp2_with fail
                    go_ret
                    exact ⟨rfl, Hend.out⟩

end Go.Proofs.YtleogbdinafpaaaDoor

/- Bindings that came in: what a reading of them says of the memory. -/
namespace Go.Proofs.YtleogbdinafpaaaDoor
open Go.ChangeShapes Go.WideShapes Go.ChangeAt Go.WideMaps Go.WideElems Go.RowKit Go.Deep Go.Joins

theorem Tryd.cells52 : Tryd.prog.cellsOf 52 = 4 := by kernel_rfl

section
variable {H : Type} {enc : TypeId × Value → H} {W : World} {sp : Nat → Bool} {held : Bool}

set_option maxRecDepth 100000 in
/-- A pair's four cells. -/
theorem open_pair {fuel : Nat} {cs : List Value} {x : DataW H × List MemPlace} (h : DataW.trod enc Tryd.prog W 0 sp held fuel 52 cs = some x) :
    ∃ (n : Int) (v : Bool) (m : Int) (a : Value) (k : Fo), cs = [.int .i64 n, .bool v, .int .i64 m, a] ∧ SIn W k a := by
  obtain ⟨xs, m, rfl, _, hl, hlen, hf⟩ := DataW.trod_struct Tryd.underlying52 h
  rw [Tryd.cells52] at hl
  match xs, hlen, cs, hl with
  | [y0, y1], _, [c0, c1, c2, c3], _ =>
    have q0 := hf 0 _ rfl
    have q1 := hf 1 _ rfl
    simp [Tryd.cells3, Tryd.cells26] at q0 q1
    obtain ⟨n, e0, _, _⟩ := DataW.trod_int Tryd.underlying3 q0
    obtain ⟨v, z, a, m', y, _, e1, hy⟩ := open_term q1
    obtain ⟨k, hk⟩ := open_terms _ _ _ hy
    simp only [List.cons.injEq, and_true] at e0 e1
    obtain ⟨rfl, rfl, rfl⟩ := e1
    subst e0
    exact ⟨n, v, z, c3, k, rfl, hk⟩

theorem build_sub {b : Nat} : ∀ (n o : Nat), (∀ i, i < n → ∃ (p : Int × Tm) (a : Value), W.cell? ⟨b, o + 4 * i, none⟩ = some (.int .i64 p.1) ∧ W.cell? ⟨b, o + 4 * i + 1, none⟩ = some (.bool p.2.1.1) ∧ W.cell? ⟨b, o + 4 * i + 2, none⟩ = some (.int .i64 p.2.1.2) ∧ W.cell? ⟨b, o + 4 * i + 3, none⟩ = some a ∧ SIn W p.2.2 a) → ∃ s : Sb, s.length = n ∧ PIn W s b o
  | 0, _, _ => ⟨[], rfl, trivial⟩
  | n + 1, o, h => by
    obtain ⟨s, hl, hP⟩ := build_sub n (o + 4) (fun i hi => by
      have := h (i + 1) (by omega)
      rw [show o + 4 * (i + 1) = o + 4 + 4 * i by omega] at this
      exact this)
    obtain ⟨p, a, h0, h1, h2, h3, h4⟩ := h 0 (by omega)
    exact ⟨p :: s, by simp [hl], by simpa using h0, by simpa using h1, by simpa using h2, ⟨a, by simpa using h3, h4⟩, hP⟩

set_option maxRecDepth 100000 in
/-- Bindings by value. -/
theorem open_sub {r : Reach} {b0 : Nat} {v : Value} {d : DataW H} {p : List MemPlace} (hv : Value.okWide Tryd.prog W r b0 49 v) (h : DataW.Trod enc Tryd.prog W 0 sp held 49 v d p) : ∃ s : Sb, SubIn W s v := by
  obtain ⟨a0, len0, cap0, rfl⟩ := okWide_slice Tryd.underlying49 hv
  obtain ⟨fuel, hf⟩ := h
  rcases DataW.trod_slice Tryd.underlying49 hf with ⟨hc, _⟩ | ⟨a, len, cap, elems, rest, n, hfuel, hc, _, _, hlc, hcm, hlen, hel, _, _⟩
  · simp [Value.cells] at hc
    obtain ⟨rfl, rfl, rfl⟩ := hc
    exact ⟨[], SubIn.nil W⟩
  · simp [Value.cells] at hc
    obtain ⟨rfl, rfl, rfl⟩ := hc
    rw [Tryd.cells52] at hel
    obtain ⟨b, o, spot⟩ := a
    have hone : ∀ i, i < len0 → ∃ (p : Int × Tm) (v : Value), W.cell? ((⟨b, o, spot⟩ : Addr).add (i * 4)) = some (.int .i64 p.1) ∧ W.cell? (((⟨b, o, spot⟩ : Addr).add (i * 4)).add 1) = some (.bool p.2.1.1) ∧ W.cell? (((⟨b, o, spot⟩ : Addr).add (i * 4)).add 2) = some (.int .i64 p.2.1.2) ∧ W.cell? (((⟨b, o, spot⟩ : Addr).add (i * 4)).add 3) = some v ∧ SIn W p.2.2 v := fun i hi => by
      have h1 := hel i hi
      have hi' : i < elems.length := by omega
      rw [List.getElem?_eq_getElem hi'] at h1
      obtain ⟨cs, h2, h3⟩ := Option.bind_eq_some_iff.1 h1
      obtain ⟨_, hl3, hcell⟩ := World.cells?_some h2
      obtain ⟨z, tv, tn, ta, k, rfl, hk⟩ := open_pair h3
      exact ⟨(z, ((tv, tn), k)), ta, by simpa [Addr.add] using hcell 0 (by omega), by simpa using hcell 1 (by omega), by simpa using hcell 2 (by omega), by simpa using hcell 3 (by omega), hk⟩
    by_cases h0 : len0 = 0
    · subst h0
      exact ⟨[], _, cap0, 0, 0, rfl, fun h => by simp at h, Nat.zero_le _, hcm, trivial⟩
    · have hspot : spot = none := by
        obtain ⟨x, v, q0, _⟩ := hone 0 (by omega)
        simpa [Addr.add] using World.cell?_spot q0
      subst hspot
      obtain ⟨s, hs1, hs2⟩ := build_sub (W := W) (b := b) len0 o (fun i hi => by
        obtain ⟨p, v, q0, q1, q2, q3, q4⟩ := hone i hi
        refine ⟨p, v, ?_, ?_, ?_, ?_, q4⟩
        · rw [add_plain] at q0; rw [Nat.mul_comm 4 i]; exact q0
        · rw [add_plain, add_plain] at q1; rw [Nat.mul_comm 4 i]; exact q1
        · rw [add_plain, add_plain] at q2; rw [Nat.mul_comm 4 i]; exact q2
        · rw [add_plain, add_plain] at q3; rw [Nat.mul_comm 4 i]; exact q3)
      exact ⟨s, _, cap0, b, o, by rw [hs1], fun _ => rfl, by omega, hcm, hs2⟩

end

/-- The same bindings, without what is no part of them. -/
def normS (s : Sb) : Sb := s.map fun p => (p.1, (p.2.1, Fo.norm p.2.2))
theorem pin_norm {w : World} : ∀ {s : Sb} {b o : Nat}, PIn w s b o → PIn w (normS s) b o
  | [], _, _, _ => trivial
  | _ :: _, _, _, ⟨h0, h1, h2, ⟨v, h3, h4⟩, h5⟩ => ⟨h0, h1, h2, ⟨v, h3, sin_norm h4⟩, pin_norm h5⟩
theorem sub_norm {w : World} {s : Sb} {v : Value} (h : SubIn w s v) : SubIn w (normS s) v := by
  obtain ⟨a, c, b, o, rfl, h2, h3, h4, h5⟩ := h
  exact ⟨a, c, b, o, by simp [normS], by simpa [normS] using h2, by simpa [normS] using h3, h4, pin_norm h5⟩
theorem normS_norm {s : Sb} : ∀ p ∈ normS s, Fo.norm p.2.2 = p.2.2 := fun p hp => by
  simp only [normS, List.mem_map] at hp
  obtain ⟨q, _, rfl⟩ := hp
  exact norm_norm _

end Go.Proofs.YtleogbdinafpaaaDoor
