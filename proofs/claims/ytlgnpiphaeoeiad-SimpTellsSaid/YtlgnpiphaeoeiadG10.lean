/- Alive2 RSolQ CIn CS CWR Cnt -/
import Derived.Test.YtlgnpiphaeoeiadG09
import Derived.Deep.RegionLaw
import Derived.Deep.RegionHeld3
import Derived.Maps.OwnOps
import Derived.Maps.RangeWalk
namespace Go.Proofs.Ytlgnpiphaeoeiad
open Go.RowKit Go.Deep Go.ChangeShapes Go.WideShapes
attribute [local go_sem ↓] Go.wp_at_zero Go.wp_at_succ
def ta : Tm := ((false, 0), .nil)
def tb (t : Tm) : Tm := ((false, 1), .node 0 0 t.1 t.2 .nil)
def tc (t u : Tm) : Tm := ((false, 2), .node 0 0 t.1 t.2 (.node 0 0 u.1 u.2 .nil))
theorem sg : ([0, 1, 2] : List Int).all okNum = true := by decide
theorem g1 : Gd (tc (vr 0) (tb (vr 1))) ∧ depT (tc (vr 0) (tb (vr 1))) ≤ 12 ∧ tszR (tc (vr 0) (tb (vr 1))).2 ≤ 12 := gd_right sg rfl (by decide +kernel)
theorem g2 : Gd (tc (tb ta) (vr 0)) ∧ depT (tc (tb ta) (vr 0)) ≤ 12 ∧ tszR (tc (tb ta) (vr 0)).2 ≤ 12 := gd_right sg rfl (by decide +kernel)
theorem g3 : Gd (tc (vr 0) (vr 1)) ∧ depT (tc (vr 0) (vr 1)) ≤ 12 ∧ tszR (tc (vr 0) (vr 1)).2 ≤ 12 := gd_right sg rfl (by decide +kernel)
theorem g4 : Gd (tc ta (tb ta)) ∧ depT (tc ta (tb ta)) ≤ 12 ∧ tszR (tc ta (tb ta)).2 ≤ 12 := gd_right sg rfl (by decide +kernel)
theorem g5 : Gd (vr 0) ∧ depT (vr 0) ≤ 12 ∧ tszR (vr 0).2 ≤ 12 := gd_right (s := [0, 1, 2]) sg rfl (by decide +kernel)
theorem g6 : Gd (tb (vr 0)) ∧ depT (tb (vr 0)) ≤ 12 ∧ tszR (tb (vr 0)).2 ≤ 12 := gd_right sg rfl (by decide +kernel)
theorem g8 : Gd ta ∧ depT ta ≤ 12 ∧ tszR ta.2 ≤ 12 := gd_right sg rfl (by decide +kernel)
theorem g9 : Gd (tb ta) ∧ depT (tb ta) ≤ 12 ∧ tszR (tb ta).2 ≤ 12 := gd_right sg rfl (by decide +kernel)
theorem u1 : runU 10 [] [(tc (vr 0) (tb (vr 1)), tc (tb ta) (vr 0))] = some (some [(0, tb ta), (1, ta)]) := by kernel_rfl
theorem u2 : runU 10 [] [(vr 0, tb (vr 0))] = some none := by kernel_rfl
theorem e1 : extT [] (tc (vr 0) (vr 1)) (tc ta (tb ta)) = some [(0, ta), (1, tb ta)] := by kernel_rfl
theorem e2 : extT [(0, ta), (1, tb ta)] (vr 2) ta = some [(0, ta), (1, tb ta), (2, ta)] := by kernel_rfl
theorem s1 : subT (bnd [(0, tb ta), (1, ta)]) (tc (vr 0) (vr 1)) = tc (tb ta) ta := by kernel_rfl
theorem x1 : textT (tc (tb ta) ta).1 (tc (tb ta) ta).2 = [99, 40, 98, 40, 97, 41, 44, 97, 41] := by kernel_rfl
theorem all2 : ∀ p ∈ ([(0, tb ta), (1, ta)] : Sb), narT p.2 ∧ okT p.2 := fun p hp => by
  simp only [List.mem_cons, List.not_mem_nil, or_false] at hp
  rcases hp with rfl | rfl
  · exact ⟨g9.1.nar, g9.1.ok⟩
  · exact ⟨g8.1.nar, g8.1.ok⟩
set_option maxRecDepth 100000 in
theorem cap {w : World} {vs a : Value} (hv : SubIn w [(0, tb ta), (1, ta)] vs) (h1 : SIn w (tc (vr 0) (vr 1)).2 a) : Calls Try.prog 41 #[vs, .agg #[.bool false, .int .i64 2, a]] w fun e w' => ∃ a1 a2 a3, e = .returned (.agg #[.bool false, .int .i64 2, .slice a1 a2 a3]) ∧ SIn w' (tc (tb ta) ta).2 (.slice a1 a2 a3) ∧ Below w.heap.size w w' := by
  refine (apply_any _ vs (false, 2) (tc (vr 0) (vr 1)).2 a w hv all2 h1 g3.1.nar).mono ?_
  rintro e w' ⟨a', rfl, hO, hb⟩
  have e : subT (bnd [(0, tb ta), (1, ta)]) ((false, 2), (tc (vr 0) (vr 1)).2) = tc (tb ta) ta := s1
  rw [e] at hO ⊢
  obtain ⟨z1, z2, z3, rfl⟩ := slice_of_sin hO.toS
  exact ⟨z1, z2, z3, rfl, hO.toS, hb⟩
end Go.Proofs.Ytlgnpiphaeoeiad

namespace Go.Proofs.Ytlgnpiphaeoeiad
open Go.RowKit Go.Deep Go.ChangeShapes Go.WideShapes
def XO (w : World) (v : Value) : Nat → Prop := fun q => q < w.heap.size ∧ some q ≠ v.ownBlock
end Go.Proofs.Ytlgnpiphaeoeiad

namespace Go.Proofs.Ytlgnpiphaeoeiad
open Go.RowKit Go.Deep Go.ChangeShapes Go.WideShapes
theorem Try.info35 : (Try.prog.info? 35).map (fun i => (i.zero, i.size, i.bytes)) = some (some (.agg #[.bool false, .bool false, .int .i64 0, .slice none 0 0, .bool false, .int .i64 0, .slice none 0 0]), 7, 88) := by kernel_rfl
def LIn (w : World) : Cl → Nat → Nat → Prop
  | [], _, _ => True
  | l :: c, b, o => (w.cell? ⟨b, o, none⟩ = some (.bool l.1) ∧ w.cell? ⟨b, o + 1, none⟩ = some (.bool l.2.1.1.1) ∧ w.cell? ⟨b, o + 2, none⟩ = some (.int .i64 l.2.1.1.2) ∧ (∃ v, w.cell? ⟨b, o + 3, none⟩ = some v ∧ SIn w l.2.1.2 v) ∧
      w.cell? ⟨b, o + 4, none⟩ = some (.bool l.2.2.1.1) ∧ w.cell? ⟨b, o + 5, none⟩ = some (.int .i64 l.2.2.1.2) ∧ ∃ v, w.cell? ⟨b, o + 6, none⟩ = some v ∧ SIn w l.2.2.2 v) ∧ LIn w c b (o + 7)
def CIn (w : World) (c : Cl) (v : Value) : Prop :=
  ∃ (a : Option Addr) (k b o : Nat), v = .slice a c.length k ∧ (0 < c.length → a = some ⟨b, o, none⟩) ∧ c.length ≤ k ∧ k ≤ maxLen ∧ LIn w c b o
theorem LIn.later {w w' : World} (hc : ∀ a v, w.cell? a = some v → w'.cell? a = some v) : ∀ {c : Cl} {b o : Nat}, LIn w c b o → LIn w' c b o
  | [], _, _, _ => trivial
  | _ :: _, _, _, ⟨⟨h0, h1, h2, ⟨v, h3, h4⟩, h5, h6, u, h7, h8⟩, h9⟩ => ⟨⟨hc _ _ h0, hc _ _ h1, hc _ _ h2, ⟨v, hc _ _ h3, h4.later hc⟩, hc _ _ h5, hc _ _ h6, u, hc _ _ h7, h8.later hc⟩, LIn.later hc h9⟩
theorem CIn.later {w w' : World} (hc : ∀ a v, w.cell? a = some v → w'.cell? a = some v) {c : Cl} {v : Value} (h : CIn w c v) : CIn w' c v := by
  obtain ⟨a, k, b, o, h1, h2, h3, h4, h5⟩ := h
  exact ⟨a, k, b, o, h1, h2, h3, h4, h5.later hc⟩
theorem LIn.below {w w' : World} (hb : Below w.heap.size w w') {c : Cl} {b o : Nat} (h : LIn w c b o) : LIn w' c b o := h.later (grow_cell hb)
theorem CIn.below {w w' : World} (hb : Below w.heap.size w w') {c : Cl} {v : Value} (h : CIn w c v) : CIn w' c v := h.later (grow_cell hb)
theorem CIn.alloc {w : World} {c : Cl} {v : Value} (h : CIn w c v) (ob : Obj) : CIn (w.alloc ob) c v := h.below (below_alloc w ob)
theorem CIn.nil (w : World) : CIn w [] (.slice none 0 0) := ⟨none, 0, 0, 0, rfl, fun h => by simp at h, Nat.le_refl _, Nat.zero_le _, trivial⟩
theorem slice_of_cl {w : World} {c : Cl} {v : Value} (h : CIn w c v) : ∃ z1 z3, v = .slice z1 c.length z3 := by
  obtain ⟨a, k, _, _, rfl, _⟩ := h
  exact ⟨a, k, rfl⟩
theorem LIn.at {w : World} : ∀ {c : Cl} {b o i : Nat} {l : Lt}, LIn w c b o → c[i]? = some l →
    w.cell? ⟨b, o + i * 7, none⟩ = some (.bool l.1) ∧ w.cell? ⟨b, o + i * 7 + 1, none⟩ = some (.bool l.2.1.1.1) ∧ w.cell? ⟨b, o + i * 7 + 2, none⟩ = some (.int .i64 l.2.1.1.2) ∧ (∃ v, w.cell? ⟨b, o + i * 7 + 3, none⟩ = some v ∧ SIn w l.2.1.2 v) ∧
      w.cell? ⟨b, o + i * 7 + 4, none⟩ = some (.bool l.2.2.1.1) ∧ w.cell? ⟨b, o + i * 7 + 5, none⟩ = some (.int .i64 l.2.2.1.2) ∧ ∃ v, w.cell? ⟨b, o + i * 7 + 6, none⟩ = some v ∧ SIn w l.2.2.2 v
  | [], _, _, _, _, _, h => by simp at h
  | q :: s, b, o, 0, l, hP, h => by
    simp only [List.getElem?_cons_zero, Option.some.injEq] at h
    subst h
    simpa using hP.1
  | q :: s, b, o, i + 1, l, hP, h => by
    have := LIn.at hP.2 (i := i) (by simpa using h)
    have e : o + 7 + i * 7 = o + (i + 1) * 7 := by omega
    rwa [e] at this
def LC (X : Nat → Prop) (w : World) : Cl → List Value → Prop
  | [], xs => xs = []
  | l :: c, xs => ∃ a d ys, xs = .bool l.1 :: .bool l.2.1.1.1 :: .int .i64 l.2.1.1.2 :: a :: .bool l.2.2.1.1 :: .int .i64 l.2.2.1.2 :: d :: ys ∧ SB X w l.2.1.2 a ∧ SB X w l.2.2.2 d ∧ LC X w c ys
theorem LC.frame {X Y : Nat → Prop} {w w' : World} (hXY : ∀ q, X q → Y q) (hr : ∀ q i, X q → w'.cell? ⟨q, i, none⟩ = w.cell? ⟨q, i, none⟩) : ∀ {s : Cl} {xs : List Value}, LC X w s xs → LC Y w' s xs
  | [], _, h => h
  | _ :: _, _, ⟨a, d, ys, h1, h2, h3, h4⟩ => ⟨a, d, ys, h1, h2.frame hXY hr, h3.frame hXY hr, LC.frame hXY hr h4⟩
theorem LC.append {X : Nat → Prop} {w : World} {s' : Cl} {ys : List Value} (h' : LC X w s' ys) : ∀ {s : Cl} {xs : List Value}, LC X w s xs → LC X w (s ++ s') (xs ++ ys)
  | [], _, h => by rw [LC] at h; subst h; exact h'
  | _ :: _, _, ⟨a, d, zs, h1, h2, h3, h4⟩ => by subst h1; exact ⟨a, d, zs ++ ys, rfl, h2, h3, LC.append h' h4⟩
abbrev litV (l : Lt) (a d : Value) : List Value := [.bool l.1, .bool l.2.1.1.1, .int .i64 l.2.1.1.2, a, .bool l.2.2.1.1, .int .i64 l.2.2.1.2, d]
theorem LC.one {X : Nat → Prop} {w : World} {l : Lt} {a d : Value} (h : SB X w l.2.1.2 a) (h' : SB X w l.2.2.2 d) : LC X w [l] (litV l a d) := ⟨a, d, [], rfl, h, h', rfl⟩
theorem LC.len {X : Nat → Prop} {w : World} : ∀ {s : Cl} {xs : List Value}, LC X w s xs → xs.length = s.length * 7
  | [], _, h => by rw [LC] at h; subst h; rfl
  | _ :: _, _, ⟨a, d, ys, h1, _, _, h3⟩ => by subst h1; simp only [List.length_cons, h3.len]; omega
theorem LC.at {X : Nat → Prop} {w : World} {g : Nat} : ∀ {s : Cl} {xs : List Value} {o : Nat}, LC X w s xs → (∀ j, j < xs.length → w.cell? ⟨g, o + j, none⟩ = xs[j]?) → LIn w s g o
  | [], _, _, _, _ => trivial
  | p :: s, _, o, ⟨a, d, ys, h1, h2, h2', h3⟩, hc => by
    subst h1
    have c0 := hc 0 (by simp)
    have c1 := hc 1 (by simp)
    have c2 := hc 2 (by simp)
    have c3 := hc 3 (by simp)
    have c4 := hc 4 (by simp)
    have c5 := hc 5 (by simp)
    have c6 := hc 6 (by simp)
    refine ⟨⟨by simpa using c0, by simpa using c1, by simpa using c2, ⟨a, by simpa using c3, h2.toS⟩, by simpa using c4, by simpa using c5, d, by simpa using c6, h2'.toS⟩, ?_⟩
    refine LC.at h3 (fun j hj => ?_)
    have := hc (j + 7) (by simp; omega)
    rw [show o + 7 + j = o + (j + 7) by omega, this]
    simp
theorem row_cl {X : Nat → Prop} {w : World} {lo : Nat} {v : Value} {s : Cl} {xs : List Value} (h : w.ownsRow lo 35 7 v s.length xs) (hc : LC X w s xs) : CIn w s v := by
  have hcells := fun g hg => h.cells (g := g) hg
  rcases h.2 with ⟨rfl, h0⟩ | ⟨g, cap, cur, rfl, hl, hh, hn, hm, hs, ht⟩
  · have : s = [] := List.length_eq_zero_iff.1 h0
    subst this
    exact CIn.nil w
  · refine ⟨_, cap, g, 0, rfl, fun _ => rfl, hn, hm, hc.at (fun j hj => ?_)⟩
    have := hcells g rfl j (xs[j]'hj) (List.getElem?_eq_getElem hj)
    rw [List.getElem?_eq_getElem hj]
    rw [add_plain] at this
    exact this
structure OwnL (lo : Nat) (X : Nat → Prop) (w : World) (s : Cl) (v : Value) (xs : List Value) : Prop where
  row : w.ownsRow lo 35 7 v s.length xs
  cells : LC X w s xs
  off : ∀ q, X q → q < w.heap.size ∧ some q ≠ v.ownBlock
theorem OwnL.cl {lo : Nat} {X : Nat → Prop} {w : World} {s : Cl} {v : Value} {xs : List Value} (h : OwnL lo X w s v xs) : CIn w s v := row_cl h.row h.cells
theorem OwnL.below {lo : Nat} {X : Nat → Prop} {w w' : World} {s : Cl} {v : Value} {xs : List Value} (h : OwnL lo X w s v xs) (hb : Below w.heap.size w w') : OwnL lo X w' s v xs :=
  ⟨owns_keep h.row (fun g hg => hb.block g (owns_at h.row g hg).2), h.cells.frame (fun _ hq => hq) (fun q _ hq => World.cell?_of_block (hb.block q (h.off q hq).1)), fun q hq => ⟨Nat.lt_of_lt_of_le (h.off q hq).1 hb.size, (h.off q hq).2⟩⟩
theorem OwnL.wide {lo : Nat} {X Y : Nat → Prop} {w : World} {s : Cl} {v : Value} {xs : List Value} (h : OwnL lo X w s v xs) (hXY : ∀ q, X q → Y q) (hY : ∀ q, Y q → q < w.heap.size ∧ some q ≠ v.ownBlock) : OwnL lo Y w s v xs :=
  ⟨h.row, h.cells.frame hXY (fun _ _ _ => rfl), hY⟩
theorem ownL_nil (lo : Nat) (w : World) : OwnL lo (XO w (.slice none 0 0)) w [] (.slice none 0 0) [] := ⟨World.ownsRow_nil _ _ _ _, rfl, fun _ h => h⟩
end Go.Proofs.Ytlgnpiphaeoeiad

namespace Go.Proofs.Ytlgnpiphaeoeiad
open Go.RowKit Go.Deep Go.ChangeShapes Go.WideShapes
abbrev litA (l : Lt) (a d : Value) : Value := .agg #[.bool l.1, .bool l.2.1.1.1, .int .i64 l.2.1.1.2, a, .bool l.2.2.1.1, .int .i64 l.2.2.1.2, d]
theorem lit_cells {w wr : World} {x0 x1 x2 x3 x4 x5 x6 : Value} {T : TypeId} (h : Below (w.alloc (.cells #[x0, x1, x2, x3, x4, x5, x6] T)).heap.size (w.alloc (.cells #[x0, x1, x2, x3, x4, x5, x6] T)) wr) :
    wr.cell? ⟨w.heap.size, 0, none⟩ = some x0 ∧ wr.cell? ⟨w.heap.size, 1, none⟩ = some x1 ∧ wr.cell? ⟨w.heap.size, 2, none⟩ = some x2 ∧ wr.cell? ⟨w.heap.size, 3, none⟩ = some x3 ∧ wr.cell? ⟨w.heap.size, 4, none⟩ = some x4 ∧ wr.cell? ⟨w.heap.size, 5, none⟩ = some x5 ∧ wr.cell? ⟨w.heap.size, 6, none⟩ = some x6 ∧ (∀ i, wr.frozen? ⟨w.heap.size, i, none⟩ = false) ∧ Below w.heap.size w wr ∧ w.heap.size < wr.heap.size := by
  refine ⟨?_, ?_, ?_, ?_, ?_, ?_, ?_, fun i => ?_, (below_alloc w _).trans (h.mono (by simp)), by have := h.size; simp at this; omega⟩
  all_goals first | (rw [h.cell (by simp)]; simp; done) | exact (h.frozen (p := ⟨w.heap.size, i, none⟩) (by simp)).trans (new_frozen rfl)
end Go.Proofs.Ytlgnpiphaeoeiad

namespace Go.Proofs.Ytlgnpiphaeoeiad
open Go.RowKit Go.Deep Go.ChangeShapes Go.WideShapes
set_option maxRecDepth 100000 in
set_option maxHeartbeats 1000000 in
theorem wrongCR_any (s : List Int) (sv : Value) (k : Cl) (a : Value) (w : World) (hN : NIn w s sv) (hS : CIn w k a) :
    Calls Try.prog 17 #[sv, a] w fun e w' => e = .returned (.int .i64 (wrongC s k)) ∧ Below w.heap.size w w' := by
  obtain ⟨a1, c1, b1, o1, rfl, had1, hlc1, hcm1, hF1⟩ := hS
  unfold maxLen at hcm1
  have HF1 := hide hF1
  have HN := hide hN
  obtain ⟨sa, sc, _, _, rfl, -, -, -, -⟩ := hN
  clear hF1
  by_cases h4 : 4 < k.length
  · have h4' : (4 : Int) < (k.length : Int) := by omega
    have Hf : Hid (wrongC s k = 5) := if_pos h4
    go_enter Try.func17, Try.ntmps17
    go_wp2_with fail
    go_ret
    exact ⟨by rw [Hf.out]; rfl, Below.refl _ _⟩
  · have h4' : ¬ (4 : Int) < (k.length : Int) := by omega
    have Hw : Hid (wrongC s k = wrongLs s k) := if_neg h4
    go_enter Try.func17, Try.ntmps17
    go_wp2_with fail
    go_loopw [14] (fun i wr => ∃ j : Nat, j ≤ k.length ∧ i = .int .i64 j ∧ (∀ i, i < j → ∀ a, k[i]? = some a → wrongL s a = 0) ∧ Below w.heap.size w wr) (fun i _ => k.length - (intOf i).toNat)
    case atStart => exact ⟨0, Nat.zero_le _, rfl, fun i hi => by omega, Below.refl _ _⟩
    case round =>
      obtain ⟨j, hj, rfl, hok, hBr⟩ := hrel
      have Hok := hide hok
      clear hok
      by_cases hlt : j < k.length
      · have hlt' : (j : Int) < (k.length : Int) := by omega
        obtain ⟨⟨yn, ⟨⟨yv, yi⟩, yk⟩, ⟨yv', yi'⟩, yk'⟩, hy⟩ : ∃ y, k[j]? = some y := ⟨k[j]'hlt, by simp⟩
        obtain ⟨p0, p1, p2, ⟨u3, p3, hA⟩, p4, p5, u6, p6, hD⟩ := (HF1.out.below hBr).at hy
        have ha1 : a1 = some ⟨b1, o1, none⟩ := had1 (by omega)
        subst ha1
        have HA := hide hA
        have HD := hide hD
        obtain ⟨_, _, _, _, rfl, -, -, -, -⟩ := hA
        obtain ⟨_, _, _, _, rfl, -, -, -, -⟩ := hD
        have Hy := hide hy
        clear hy had1
        simp only at *
        go_wp2_with fail
        refine (wrongR_any s _ (yv, yi) yk _ _ ((HN.out.below hBr).alloc _) (HA.out.alloc _)).mono ?_
        rintro e w2 ⟨rfl, hb2⟩
        obtain ⟨-, -, -, -, e4, e5, e6, -, hb2', -⟩ := lit_cells hb2
        have hB2 := below_step hBr hb2'
        have HD2 := hide (HD.out.below hb2')
        have HN2 := hide (HN.out.below hB2)
        clear hb2
        by_cases he : wrongF s (yv, yi) yk = 0
        · have heb : (wrongF s (yv, yi) yk != 0) = false := by simp [he]
          have He := hide he
          clear he
          generalize wrongF s (yv, yi) yk = e1 at heb
          go_wp2_with fail
          refine (wrongR_any s _ (yv', yi') yk' _ _ HN2.out HD2.out).mono ?_
          rintro e w3 ⟨rfl, hb3⟩
          have hB3 := below_step hB2 hb3
          by_cases he : wrongF s (yv', yi') yk' = 0
          · have heb2 : (wrongF s (yv', yi') yk' != 0) = false := by simp [he]
            have He2 := hide he
            clear he
            generalize wrongF s (yv', yi') yk' = e2 at heb2
            go_wp2_with fail
            go_roundw
            case rel => exact ⟨j + 1, by omega, by go_num, fun i hi a ha => by
              by_cases e : i = j
              · subst e; rw [Hy.out] at ha; cases ha; exact wrongL_iff.2 ⟨He.out, He2.out⟩
              · exact Hok.out i (by omega) a ha, hB3⟩
            case measure => simp [intOf]; omega
          · have heb2 : (wrongF s (yv', yi') yk' != 0) = true := by simp [he]
            have Hf : Hid (wrongF s (yv', yi') yk' = wrongC s k) := by
              have hl : wrongL s (yn, ((yv, yi), yk), ((yv', yi'), yk')) = wrongF s (yv', yi') yk' := by simp only [wrongL]; rw [if_neg (by simp [He.out])]
              rw [Hid, Hw.out, wrongLs_at Hok.out Hy.out (by rw [hl]; exact he), hl]
            clear he
            generalize wrongF s (yv', yi') yk' = e2 at heb2 Hf
            go_wp2_with fail
            go_ret
            exact ⟨by rw [Hf.out]; rfl, hB3⟩
        · have heb : (wrongF s (yv, yi) yk != 0) = true := by simp [he]
          have Hf : Hid (wrongF s (yv, yi) yk = wrongC s k) := by
            have hl : wrongL s (yn, ((yv, yi), yk), ((yv', yi'), yk')) = wrongF s (yv, yi) yk := by simp only [wrongL]; rw [if_pos he]
            rw [Hid, Hw.out, wrongLs_at Hok.out Hy.out (by rw [hl]; exact he), hl]
          clear he
          generalize wrongF s (yv, yi) yk = e1 at heb Hf
          go_wp2_with fail
          go_ret
          exact ⟨by rw [Hf.out]; rfl, hB2⟩
      · have Hf : Hid (wrongC s k = 0) := by
          rw [Hid, Hw.out, wrongLs_iff]
          intro l hl
          obtain ⟨i, hi, e⟩ := List.mem_iff_getElem.1 hl
          exact Hok.out i (by omega) l (by rw [List.getElem?_eq_getElem hi, e])
        go_wp2_with fail
        go_ret
        exact ⟨by rw [Hf.out]; rfl, hBr⟩
end Go.Proofs.Ytlgnpiphaeoeiad

namespace Go.Proofs.Ytlgnpiphaeoeiad
open Go.RowKit Go.Deep Go.ChangeShapes Go.WideShapes Go.Maps
attribute [local go_sem ↓] Go.wp_at_zero Go.wp_at_succ
theorem keyed3 : Keyed Try.prog 3 := int_keyed Try.underlying3
theorem zero3 (w : World) : (zeroValue 3).run Try.prog w = .ok (.int .i64 0) w := by kernel_rfl
abbrev MD := DataW Unit
abbrev OM (w : World) (b n : Nat) (D : MD) : Prop := w.ownsMap Try.prog 3 (plainElem (H := Unit) Try.prog 3) b n D
def inR (v : Int) : Prop := -9223372036854775808 ≤ v ∧ v < 9223372036854775808
def Tel (D : MD) (g : Int → Int) : Prop := IsMap D ∧ ∀ v : Int, inR v → D.atKey (.int .i64 v) (.lit (.int .i64 0)) = .lit (.int .i64 (wrap64 (g v)))
theorem key_lit (v : Int) : WideAt.IsKeyLit (.int .i64 v) := trivial
theorem wrap64_of {n : Int} (h : inR n) : wrap64 n = n := by unfold inR at h; unfold wrap64; omega
theorem tel_put {D : MD} {g : Int → Int} {x c much : Int} (h : Tel D g) (hx : inR x) (hat : D.atKey (.int .i64 x) (.lit (.int .i64 0)) = .lit (.int .i64 c)) :
    Tel (D.put (.int .i64 x) (.lit (.int .i64 (wrap64 (c + much))))) (fun v => g v + much * (if x = v then 1 else 0 : Nat)) := by
  refine ⟨h.1.put _ _, fun v hv => ?_⟩
  by_cases e : x = v
  · subst e
    rw [atKey_put_same h.1 (key_lit _)]
    have h2 := h.2 x hx
    rw [hat] at h2
    have h3 : c = wrap64 (g x) := by injection h2 with h2; injection h2
    subst h3
    dsimp only
    rw [if_pos rfl]
    congr 2
    unfold wrap64
    omega
  · rw [atKey_put_other (by intro e'; injection e' with _ e'; exact e e'.symm), h.2 v hv]
    dsimp only
    rw [if_neg e]
    simp
theorem om_cell {w w' : World} {b n : Nat} {D : MD} (h : OM w b n D) (hg : w.grownBy w' (some b)) : ∀ a v, w.cell? a = some v → w'.cell? a = some v := by
  intro a v hc
  have hlt := World.block_lt_of_cell? _ _ hc
  by_cases e : a.block = b
  · obtain ⟨es, clock, hb, _⟩ := h
    simp [World.cell?, e, hb] at hc
  · rw [World.cell?_of_block (hg.block _ hlt (fun e' => e (by injection e')))]; exact hc
theorem grown_refl (w : World) (row : Option Nat) : w.grownBy w row := ⟨rfl, rfl, rfl, Nat.le_refl _, fun _ _ _ => rfl⟩
theorem szToR_take (k : Fo) (j : Nat) : szToR k j ≤ tszR k := by
  rw [← szToR_end k]
  unfold szToR
  rw [← Fo.len_list, List.take_length]
  have h := List.take_append_drop j k.list
  have : (k.list.map fun y => tszR y.2).sum = ((k.list.take j).map fun y => tszR y.2).sum + ((k.list.drop j).map fun y => tszR y.2).sum := by rw [← List.sum_append, ← List.map_append, h]
  omega
def CountSaid (x : Bool × Int) (k : Fo) : Prop := ∀ (a : Value) (much : Int) (w : World) (b n : Nat) (D : MD) (g : Int → Int), okT (x, k) → (∀ m, occT m (x, k) → 0 ≤ m ∧ m ≤ 9) → SIn w k a → OM w b n D → Tel D g → n + tszR k ≤ 10000000000000 →
    Calls Try.prog 84 #[.map (some b), .agg #[.bool x.1, .int .i64 x.2, a], .int .i64 much] w fun e w' => e = .returned (.tuple #[]) ∧ ∃ D', OM w' b (n + tszR k) D' ∧ Tel D' (fun v => g v + much * timT v (x, k)) ∧ w.grownBy w' (some b)
set_option maxRecDepth 100000 in
set_option maxHeartbeats 400000 in
theorem count_any (x : Bool × Int) (k : Fo) : CountSaid x k := by
  refine Fo.ind1 (p := CountSaid) ?_ x k
  clear x k
  intro x k ih a much w b n D g hok hfew hS hown htel hbd
  obtain ⟨xv, xn⟩ := x
  cases xv
  · obtain ⟨ad, c, kb, o, rfl, had, hlc, hcm, hF⟩ := hS
    have Hl := hide (Fo.len_list k)
    have Hend := hide (szToR_end k)
    have Hok := hide hok
    have Hfew := hide hfew
    have Htel := hide htel
    have HI := hide ih
    have HF := hide hF
    have Hown := hide hown
    have Hbd := hide hbd
    unfold maxLen at hcm
    clear ih hF hown htel hok hfew hbd
    go_enter Try.func84, Try.ntmps84
    go_wp2_with fail
    generalize hW1 : w.alloc (.cells #[.bool false, .int .i64 xn, .slice ad (Fo.len k) c] 33) = W1
    have HO1 : Hid (OM W1 b n D) := by rw [← hW1]; exact Hown.out.alloc _
    have HG1 : Hid (w.grownBy W1 (some b)) := by rw [← hW1]; exact World.grownBy_alloc _ _ _
    clear hW1
    go_loopw [19] (fun i wr => ∃ (j : Nat) (D' : MD), j ≤ Fo.len k ∧ i = .int .i64 j ∧ OM wr b (n + szToR k j) D' ∧ Tel D' (fun v => g v + much * tmTo v (false, xn) k j) ∧ W1.grownBy wr (some b)) (fun i _ => Fo.len k - (intOf i).toNat)
    case atStart => exact ⟨0, D, Nat.zero_le _, rfl, HO1.out.mono (Nat.le_add_right _ _), ⟨Htel.out.1, fun v hv => by rw [Htel.out.2 v hv]; dsimp only; rw [tmTo_zero]; simp⟩, grown_refl _ _⟩
    case round =>
      obtain ⟨j, D', hj, rfl, hO, hT, hG⟩ := hrel
      have HO := hide hO
      have HT := hide hT
      have HG := hide hG
      clear hO hT hG
      by_cases hlt : j < Fo.len k
      · have hlt' : (j : Int) < (Fo.len k : Int) := by omega
        obtain ⟨⟨⟨yv, yn⟩, yk⟩, hy⟩ : ∃ y, k.list[j]? = some y := ⟨k.list[j]'(by rw [Hl.out]; exact hlt), by simp⟩
        have HFr : Hid (FIn wr k kb o) := FIn.later (fun a v h => om_cell HO1.out HG.out a v (om_cell Hown.out HG1.out a v h)) HF.out
        obtain ⟨c0, c1, yv', c2, hSy⟩ := HFr.out.at hy
        have ha : ad = some ⟨kb, o, none⟩ := had (by omega)
        subst ha
        have HS := hide hSy
        obtain ⟨ya, yc, yb, yo, rfl, -, -, -, -⟩ := hSy
        have Hy := hide hy
        have Hmem := hide (List.mem_of_getElem? hy)
        have Hb2 : Hid (n + szToR k j + tszR yk ≤ 10000000000000) := by
          have h1 := szToR_succ hy
          have h2 := szToR_take k (j + 1)
          have h3 := Hbd.out
          unfold Hid
          omega
        clear hy had
        go_wp2_with fail
        refine (HI.out ((yv, yn), yk) Hmem.out _ much _ b _ D' _ (ok_mem Hok.out.2 Hmem.out) (fun m hm => Hfew.out m (by unfold occT; simp only [Bool.false_eq_true, if_false]; exact occ_mem.2 ⟨_, Hmem.out, hm⟩)) (HS.out.alloc _) (HO.out.alloc _) HT.out Hb2.out).mono ?_
        rintro e w2 ⟨rfl, D2, hO2, hT2, hG2⟩
        have HO2 := hide hO2
        have HT2 := hide hT2
        have HG2 := hide (HG.out.trans ((World.grownBy_alloc _ _ _).trans hG2))
        clear hO2 hT2 hG2
        go_wp2_with fail
        go_roundw
        case rel => exact ⟨j + 1, D2, by omega, by go_num, by rw [szToR_succ Hy.out, ← Nat.add_assoc]; exact HO2.out, ⟨HT2.out.1, fun v hv => by rw [HT2.out.2 v hv]; dsimp only; rw [tmTo_succ Hy.out, Int.natCast_add, Int.mul_add, Int.add_assoc]⟩, HG2.out⟩
        case measure => simp [intOf]; omega
      · have hje : j = Fo.len k := by omega
        have Hj := hide hje
        clear hje had
        go_wp2_with fail
        go_end0
        have e := Hj.out
        subst e
        refine ⟨rfl, D', ?_, ?_, HG1.out.trans HG.out⟩
        · rw [← Hend.out]; exact HO.out
        · have := HT.out
          simp only [tmTo_end] at this
          exact this
  · have hk : k = .nil := hok.1 rfl
    subst hk
    obtain ⟨ad, c, kb, o, rfl, -, -, -, -⟩ := hS
    have hx := hfew xn (by simp [occT])
    have hr : inR xn := by unfold inR; omega
    have hkey : keyOf Try.prog 3 (.int .i64 xn) = some (.int .i64 xn) := keyOf_int_mk Try.underlying3 (WalkArith.wf_i64 (by omega))
    have Htel := hide htel
    have Hbd := hide hbd
    have Hr := hide hr
    clear htel hbd hfew hok ih hr hx
    go_enter Try.func84, Try.ntmps84
    go_wp2_with (first
      | (at_lookup; refine wpList_lookup_own_int _ rfl _ _ 98 rfl 3 3 .i64 keyed3 Try.underlying98 Try.underlying3 (zero3 _) b n _ rfl (hown.alloc _) _ _ rfl hkey ?_; intro c hat hwc)
      | (at_mapUpdate; refine wpList_mapUpdate_own _ rfl _ _ _ 98 rfl 3 3 keyed3 Try.underlying98 _ b n _ rfl (hown.alloc _) (by have := Hbd.out; unfold maxLen; omega) _ _ _ rfl rfl hkey _ [] (plainElem_int Try.underlying3 (wrap64_wf _)) ?_; intro w1 hown1 hgrow1)
      | go_in)
    (try simp only [Exit.inBlock, Exit.then])
    refine bodyPost_ret (results_none rfl _ _ _) rfl ?_
    refine ⟨rfl, _, hown1, ?_, (World.grownBy_alloc _ _ _).trans hgrow1⟩
    have := tel_put (much := much) Htel.out Hr.out hat
    simpa [timT, timF] using this
end Go.Proofs.Ytlgnpiphaeoeiad
