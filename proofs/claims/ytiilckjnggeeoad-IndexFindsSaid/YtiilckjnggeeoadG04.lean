/- Text TextW Vars Alive PutP Open -/
import Derived.Test.YtiilckjnggeeoadG03
import Derived.Lib.AppendStr
import Derived.Lib.SmallJoins
import Derived.Deep.Strs
import Derived.LaidMore
import Derived.OpenShut
import Derived.Stop.Joined
namespace Go.Proofs.Ytiilckjnggeeoad
open Go.RowKit Go.Deep Go.ChangeShapes Go.WideShapes
def dig (n : Int) : UInt8 := UInt8.ofNat (48 + n.toNat)
def Grew (base : Nat) (w w' : World) (vo : Value) (n : Nat) (g cap : Nat) (cells : List Value) : Prop :=
  w'.ownsRow base 5 1 (.slice (some ⟨g, 0, none⟩) n cap) n cells ∧ Fr w w' vo.ownBlock none ∧ (vo.ownBlock = some g ∨ w.heap.size ≤ g)
end Go.Proofs.Ytiilckjnggeeoad

namespace Go.Proofs.Ytiilckjnggeeoad
open Go.RowKit Go.Deep Go.ChangeShapes Go.WideShapes
def sym (n : Int) : UInt8 := UInt8.ofNat (97 + n.toNat)
def textF : Fo → Int → List UInt8
  | .nil, _ => []
  | .node _ _ x k r, i => (signF i :: (if x.1 then [88, dig x.2] else sym x.2 :: (if Fo.len k = 0 then [] else textF k 0 ++ [41]))) ++ textF r (i + 1)
def textT (x : Bool × Int) (k : Fo) : List UInt8 := if x.1 then [88, dig x.2] else sym x.2 :: (if Fo.len k = 0 then [] else textF k 0 ++ [41])
theorem Grew.trans {base : Nat} {w w1 w2 : World} {vo : Value} {n1 g1 c1 n2 g2 c2 : Nat} {xs ys : List Value} (h1 : Grew base w w1 vo n1 g1 c1 xs) (h2 : Grew base w1 w2 (.slice (some ⟨g1, 0, none⟩) n1 c1) n2 g2 c2 ys) : Grew base w w2 vo n2 g2 c2 ys := by
  obtain ⟨a1, a2, a3⟩ := h1
  obtain ⟨b1, b2, b3⟩ := h2
  refine ⟨b1, a2.trans b2 (fun q hq h => ?_), ?_⟩
  · rcases h with h | h
    · simp only [Value.ownBlock, Option.some.injEq] at h
      subst h
      rcases a3 with a3 | a3
      · exact .inl a3.symm
      · omega
    · cases h
  · rcases b3 with b3 | b3
    · simp only [Value.ownBlock, Option.some.injEq] at b3
      subst b3
      exact a3
    · exact .inr (Nat.le_trans a2.size b3)
theorem Grew.below {base : Nat} {w w1 : World} {vo : Value} {n g c : Nat} {xs : List Value} (h : Grew base w w1 vo n g c xs) (hb : base ≤ w.heap.size) (hv : ∀ g, vo.ownBlock = some g → base ≤ g) : Below base w w1 := h.2.1.below hb hv (fun _ h => by cases h)
end Go.Proofs.Ytiilckjnggeeoad

namespace Go.Proofs.Ytiilckjnggeeoad
open Go.RowKit Go.Deep Go.ChangeShapes Go.WideShapes
def hasB (l : List Int) (x : Int) : Bool := decide (x ∈ l)
def varsF : Fo → List Int → List Int
  | .nil, l => l
  | .node _ _ x k r, l => varsF r (if x.1 then (if hasB l x.2 then l else l ++ [x.2]) else varsF k l)
def varsT (x : Bool × Int) (k : Fo) (l : List Int) : List Int := if x.1 then (if hasB l x.2 then l else l ++ [x.2]) else varsF k l
def vsTo (k : Fo) (l : List Int) (j : Nat) : List Int := varsF (Fo.take j k) l
theorem varsF_snoc : ∀ {F : Fo} {j : Nat} {x : Bool × Int} {k : Fo} (l : List Int), F.list[j]? = some (x, k) → varsF (Fo.take (j + 1) F) l = varsT x k (varsF (Fo.take j F) l)
  | .nil, _, _, _, _, h => by simp [Fo.list] at h
  | .node _ _ y m r, 0, x, k, l, h => by
    simp only [Fo.list, List.getElem?_cons_zero, Option.some.injEq, Prod.mk.injEq] at h
    obtain ⟨rfl, rfl⟩ := h
    simp [Fo.take, varsF, varsT]
  | .node _ _ y m r, j + 1, x, k, l, h => by
    have := varsF_snoc (F := r) (j := j) (if y.1 then (if hasB l y.2 then l else l ++ [y.2]) else varsF m l) (by simpa [Fo.list] using h)
    simp only [Fo.take, varsF] at this ⊢
    exact this
theorem vsTo_succ {k : Fo} {l : List Int} {j : Nat} {x : Bool × Int} {y : Fo} (h : k.list[j]? = some (x, y)) : vsTo k l (j + 1) = varsT x y (vsTo k l j) := varsF_snoc l h
theorem vsTo_end (k : Fo) (l : List Int) : vsTo k l (Fo.len k) = varsF k l := by rw [vsTo, take_all]
theorem varsF_ge : ∀ (F : Fo) (l : List Int), l.length ≤ (varsF F l).length
  | .nil, l => Nat.le_refl _
  | .node _ _ x k r, l => by
    have h1 := varsF_ge k l
    have h2 := varsF_ge r (if x.1 then (if hasB l x.2 then l else l ++ [x.2]) else varsF k l)
    simp only [varsF]
    refine Nat.le_trans ?_ h2
    split
    · split
      · exact Nat.le_refl _
      · simp
    · exact h1
theorem varsF_take : ∀ (j : Nat) (F : Fo) (l : List Int), (varsF (Fo.take j F) l).length ≤ (varsF F l).length
  | 0, F, l => varsF_ge F l
  | _ + 1, .nil, l => Nat.le_refl _
  | j + 1, .node _ _ x k r, l => by
    simp only [Fo.take, varsF]
    exact varsF_take j r _
theorem NIn.drew {w : World} {l : List Int} {v : Value} (h : NIn w l v) : NIn w.drew l v := h
theorem SIn.drew {w : World} {k : Fo} {v : Value} (h : SIn w k v) : SIn w.drew k v := h.below (Below.refl _ _).drew
end Go.Proofs.Ytiilckjnggeeoad

namespace Go.Proofs.Ytiilckjnggeeoad
open Go.RowKit Go.Deep Go.ChangeShapes Go.WideShapes
def tF : Fo := .node 0 0 (false, 0) .nil (.node 0 0 (false, 1) (.node 0 0 (true, 0) .nil .nil) .nil)
def uF : Fo := .node 0 0 (false, 0) .nil .nil
theorem al_wsig : wsig [0, 1, 2] = 0 := by decide +kernel
def Kp (w : World) (sv : Value) (tb ub ab : Nat) (ta ua : Value) : Prop :=
  NIn w [0, 1, 2] sv ∧ TIn w tb 0 (false, 2) tF ∧ w.cell? ⟨tb, 2, none⟩ = some ta ∧ SIn w tF ta ∧ TIn w ub 0 (false, 1) uF ∧ w.cell? ⟨ub, 2, none⟩ = some ua ∧ SIn w uF ua ∧ w.cell? ⟨ab, 0, none⟩ = some (.bool true)
theorem Kp.below {w w' : World} {sv : Value} {tb ub ab : Nat} {ta ua : Value} (h : Kp w sv tb ub ab ta ua) (hb : Below w.heap.size w w') : Kp w' sv tb ub ab ta ua := by
  obtain ⟨h1, h2, h3, h4, h5, h6, h7, h8⟩ := h
  exact ⟨h1.below hb, h2.below hb, grow_cell hb _ _ h3, h4.below hb, h5.below hb, grow_cell hb _ _ h6, h7.below hb, grow_cell hb _ _ h8⟩
theorem nin_lit {w : World} (p : List Int) (hp : 0 < p.length) (hl : p.length ≤ 1000) (T : TypeId) : NIn (w.alloc (.cells (vals p).toArray T)) p (.slice (some ⟨w.heap.size, 0, none⟩) p.length p.length) := by
  refine ⟨_, _, w.heap.size, 0, rfl, fun _ => rfl, Nat.le_refl _, by unfold maxLen; omega, fun i hi => ?_⟩
  rw [Nat.zero_add, World.cell?_alloc_new]
  simp [List.getD_eq_getElem?_getD, hi]
theorem slice_of_sin {w : World} {k : Fo} {v : Value} (h : SIn w k v) : ∃ z1 z2 z3, v = .slice z1 z2 z3 := by
  obtain ⟨_, _, _, _, rfl, _⟩ := h
  exact ⟨_, _, _, rfl⟩
end Go.Proofs.Ytiilckjnggeeoad

namespace Go.Proofs.Ytiilckjnggeeoad
open Go.RowKit Go.Deep Go.ChangeShapes Go.WideShapes
theorem alone_len {s : List Int} (hs : s.all okNum = true) {x : Bool × Int} {k : Fo} (h : aloneF s x (Fo.len k) = 0) : Fo.len k ≤ 2 := by
  obtain ⟨v, n⟩ := x
  cases v
  · obtain ⟨h0, h1, h2⟩ := alone_sym h
    have := sig_at hs (i := n.toNat) (by omega)
    omega
  · obtain ⟨rfl, _, _⟩ := alone_var h
    simp [Fo.len]
theorem size_bound {s : List Int} (hs : s.all okNum = true) : ∀ {F : Fo} {n : Nat}, n ≤ 13 → walkF s F (13 - (n : Int)) = 0 → Fo.sizesR F ≤ Fo.len F * (2 ^ n - 1)
  | .nil, _, _, _ => by simp [Fo.sizesR]
  | .node _ _ x k r, n, hn, h => by
    obtain ⟨hT, hr⟩ := walkF_ok h
    obtain ⟨hd, ha, hk⟩ := walkT_ok hT
    have h2 := alone_len hs ha
    obtain ⟨m, rfl⟩ : ∃ m, n = m + 1 := ⟨n - 1, by omega⟩
    have e : (13 : Int) - ((m + 1 : Nat) : Int) + 1 = 13 - (m : Int) := by omega
    rw [e] at hk
    have i1 := size_bound hs (n := m) (by omega) hk
    have i2 := size_bound hs (n := m + 1) hn hr
    have p1 : 2 ^ (m + 1) = 2 * 2 ^ m := by rw [Nat.pow_succ]; omega
    have p0 : 0 < 2 ^ m := Nat.pow_pos (by decide)
    have i3 : Fo.len k * (2 ^ m - 1) ≤ 2 * (2 ^ m - 1) := Nat.mul_le_mul_right _ h2
    simp only [Fo.sizesR, Fo.len, Nat.add_mul, Nat.one_mul]
    omega
theorem narrow_ok {s : List Int} (hs : s.all okNum = true) : ∀ {F : Fo} {d : Int}, walkF s F d = 0 → Fo.narrow F
  | .nil, _, _ => trivial
  | .node _ _ x k r, d, h => by
    obtain ⟨hT, hr⟩ := walkF_ok h
    obtain ⟨_, ha, hk⟩ := walkT_ok hT
    have := alone_len hs ha
    exact ⟨by omega, narrow_ok hs hk, narrow_ok hs hr⟩
theorem right_of {s : List Int} (hs : s.all okNum = true) {x : Bool × Int} {k : Fo} (h : wrongF s x k = 0) : tszR k ≤ 12 ∧ tsz x k = tszR k ∧ Fo.len k ≤ 2 ∧ Fo.narrow k ∧ walkT s x k 1 = 0 := by
  unfold wrongF at h
  by_cases hw : walkT s x k 1 = 0
  · rw [if_neg (by simpa using hw)] at h
    obtain ⟨_, ha, hk⟩ := walkT_ok hw
    have h2 := alone_len hs ha
    have hb := size_bound hs (F := k) (n := 11) (by omega) (by simpa using hk)
    have hz : tszR k ≤ 4095 := by
      have : Fo.len k * (2 ^ 11 - 1) ≤ 2 * (2 ^ 11 - 1) := Nat.mul_le_mul_right _ h2
      unfold tszR
      omega
    rw [wrap64_small (by omega) (by omega)] at h
    by_cases h12 : 12 < ((tszR k : Nat) : Int)
    · rw [if_pos h12] at h; omega
    · exact ⟨by omega, tsz_same hw, h2, narrow_ok hs hk, hw⟩
  · rw [if_pos hw] at h; exact absurd h hw
theorem sameF_refl : ∀ F : Fo, sameF F F = true
  | .nil => rfl
  | .node _ _ x k r => by simp [sameF, sameF_refl k, sameF_refl r]
theorem sameT_refl (x : Bool × Int) (k : Fo) : sameT x k x k = true := by simp [sameT, sameF_refl]
end Go.Proofs.Ytiilckjnggeeoad

namespace Go.Proofs.Ytiilckjnggeeoad
open Go.ChangeShapes Go.WideShapes Go.ChangeAt Go.WideMaps Go.WideElems Go.RowKit Go.Deep Go.Joins
section
variable {H : Type} {enc : TypeId × Value → H} {W : World} {sp : Nat → Bool} {held : Bool}
set_option maxRecDepth 100000 in
theorem open_term {fuel : Nat} {cs : List Value} {x : DataW H × List MemPlace} (h : DataW.trod enc Try.prog W 0 sp held fuel 33 cs = some x) :
    ∃ (v : Bool) (n : Int) (a : Value) (m : Nat) (y : DataW H × List MemPlace), m < fuel ∧ cs = [.bool v, .int .i64 n, a] ∧ DataW.trod enc Try.prog W 0 sp held m 31 [a] = some y := by
  obtain ⟨xs, m, rfl, _, hl, hlen, hf⟩ := DataW.trod_struct Try.underlying33 h
  rw [Try.cells33] at hl
  match xs, hlen, cs, hl with
  | [y0, y1, y2], _, [c0, c1, c2], _ =>
    have g0 := hf 0 _ rfl
    have g1 := hf 1 _ rfl
    have g2 := hf 2 _ rfl
    simp [Try.cells4, Try.cells3, Try.cells31] at g0 g1 g2
    obtain ⟨v, e0, _⟩ := DataW.trod_bool Try.underlying4 g0
    obtain ⟨n, e1, _, _⟩ := DataW.trod_int Try.underlying3 g1
    simp only [List.cons.injEq, and_true] at e0 e1
    exact ⟨v, n, c2, m, y2, by omega, by rw [e0, e1], g2⟩
set_option maxRecDepth 100000 in
theorem build_forest {b : Nat} : ∀ (n o : Nat), (∀ i, i < n → ∃ (x : Bool × Int) (k : Fo) (a : Value), W.cell? ⟨b, o + 3 * i, none⟩ = some (.bool x.1) ∧ W.cell? ⟨b, o + 3 * i + 1, none⟩ = some (.int .i64 x.2) ∧ W.cell? ⟨b, o + 3 * i + 2, none⟩ = some a ∧ SIn W k a) → ∃ F : Fo, Fo.len F = n ∧ FIn W F b o
  | 0, _, _ => ⟨.nil, rfl, trivial⟩
  | n + 1, o, h => by
    obtain ⟨F, hl, hF⟩ := build_forest n (o + 3) (fun i hi => by
      have := h (i + 1) (by omega)
      rw [show o + 3 * (i + 1) = o + 3 + 3 * i by omega] at this
      exact this)
    obtain ⟨x, k, a, h0, h1, h2, h3⟩ := h 0 (by omega)
    exact ⟨.node 0 0 x k F, by simp [Fo.len, hl], FIn.mk (by simpa using h0) (by simpa using h1) (by simpa using h2) h3 hF⟩
set_option maxRecDepth 100000 in
theorem open_terms : ∀ (fuel : Nat) (v : Value) (x : DataW H × List MemPlace), DataW.trod enc Try.prog W 0 sp held fuel 31 [v] = some x → ∃ k : Fo, SIn W k v := by
  intro fuel
  induction fuel using Nat.strongRecOn with
  | _ fuel ih =>
    intro v x h
    rcases DataW.trod_slice Try.underlying31 h with ⟨hc, _⟩ | ⟨a, len, cap, elems, rest, n, hfuel, hc, _, _, hlc, hcm, hlen, hel, _, _⟩
    · simp only [List.cons.injEq, and_true] at hc
      subst hc
      exact ⟨.nil, SIn.nil W⟩
    · simp only [List.cons.injEq, and_true] at hc
      subst hc
      rw [Try.cells33] at hel
      obtain ⟨b, o, spot⟩ := a
      have hone : ∀ i, i < len → ∃ (x : Bool × Int) (k : Fo) (v : Value), W.cell? ((⟨b, o, spot⟩ : Addr).add (i * 3)) = some (.bool x.1) ∧ W.cell? (((⟨b, o, spot⟩ : Addr).add (i * 3)).add 1) = some (.int .i64 x.2) ∧ W.cell? (((⟨b, o, spot⟩ : Addr).add (i * 3)).add 2) = some v ∧ SIn W k v := fun i hi => by
        have h1 := hel i hi
        have hi' : i < elems.length := by omega
        rw [List.getElem?_eq_getElem hi'] at h1
        obtain ⟨cs, h2, h3⟩ := Option.bind_eq_some_iff.1 h1
        obtain ⟨_, hl3, hcell⟩ := World.cells?_some h2
        obtain ⟨tv, tn, ta, m, y, hm, rfl, hy⟩ := open_term h3
        obtain ⟨k, hk⟩ := ih m (by omega) ta y hy
        exact ⟨(tv, tn), k, ta, by simpa [Addr.add] using hcell 0 (by omega), by simpa using hcell 1 (by omega), by simpa using hcell 2 (by omega), hk⟩
      by_cases h0 : len = 0
      · subst h0
        exact ⟨.nil, _, cap, 0, 0, rfl, fun h => by simp [Fo.len] at h, Nat.zero_le _, hcm, trivial⟩
      · have hspot : spot = none := by
          obtain ⟨x, k, v, q0, _⟩ := hone 0 (by omega)
          simpa [Addr.add] using World.cell?_spot q0
        subst hspot
        obtain ⟨F, hF1, hF2⟩ := build_forest (W := W) (b := b) len o (fun i hi => by
          obtain ⟨x, k, v, q0, q1, q2, q3⟩ := hone i hi
          refine ⟨x, k, v, ?_, ?_, ?_, q3⟩
          · rw [add_plain] at q0; rw [Nat.mul_comm 3 i]; exact q0
          · rw [add_plain, add_plain] at q1; rw [Nat.mul_comm 3 i]; exact q1
          · rw [add_plain, add_plain] at q2; rw [Nat.mul_comm 3 i]; exact q2)
        exact ⟨F, _, cap, b, o, by rw [hF1], fun _ => rfl, by omega, hcm, hF2⟩
set_option maxRecDepth 100000 in
theorem open_tval {r : Reach} {b0 : Nat} {v : Value} {d : DataW H} {p : List MemPlace} (hv : Value.okWide Try.prog W r b0 33 v) (h : DataW.Trod enc Try.prog W 0 sp held 33 v d p) :
    ∃ (x : Bool × Int) (k : Fo) (a : Value), v = .agg #[.bool x.1, .int .i64 x.2, a] ∧ SIn W k a := by
  obtain ⟨c0, c1, c2, y0, y1, y2, m, rfl, _, _, h0, h1, h2⟩ := open_agg3 Try.underlying33 (by kernel_rfl) Try.cells33 hv h
  obtain ⟨bv, e0, _⟩ := DataW.trod_bool Try.underlying4 h0
  obtain ⟨n, e1, _, _⟩ := DataW.trod_int Try.underlying3 h1
  simp only [List.cons.injEq, and_true] at e0 e1
  subst e0 e1
  obtain ⟨k, hk⟩ := open_terms m c2 y2 h2
  exact ⟨(bv, n), k, c2, rfl, hk⟩
set_option maxRecDepth 100000 in
theorem open_nums {T : TypeId} {r : Reach} {b0 : Nat} {v : Value} {d : DataW H} {p : List MemPlace} (hT : Try.prog.underlying T = some (.slice 3)) (hv : Value.okWide Try.prog W r b0 T v) (h : DataW.Trod enc Try.prog W 0 (fun _ => true) held T v d p) :
    ∃ l : List Int, NIn W l v := by
  obtain ⟨a0, len, cap, rfl⟩ := okWide_slice hT hv
  obtain ⟨fuel, hf⟩ := h
  rcases open_ints hT Try.underlying3 Try.cells3 hf with ⟨hcs, _⟩ | ⟨x, l, c, zs, hcs, _, hl, hm, hz, _, hcell, hwz⟩
  · simp [Value.cells] at hcs
    obtain ⟨rfl, rfl, rfl⟩ := hcs
    exact ⟨[], none, 0, 0, 0, rfl, fun h => by simp at h, Nat.le_refl _, Nat.zero_le _, fun i hi => by simp at hi⟩
  · simp [Value.cells] at hcs
    obtain ⟨rfl, rfl, rfl⟩ := hcs
    have hz' : zs.length = cap := by simpa using hz
    have htl : (zs.take len).length = len := by rw [List.length_take]; omega
    obtain ⟨b, o, spot⟩ := x
    refine ⟨zs.take len, _, cap, b, o, by rw [htl], fun h => ?_, by rw [htl]; exact hl, hm, fun i hi => ?_⟩
    · have := hcell 0 (by omega)
      have hspot : spot = none := by simpa [Addr.add] using World.cell?_spot this
      rw [hspot]
    · rw [htl] at hi
      have hc := hcell i (by omega)
      have hspot : spot = none := by
        have := hcell 0 (by omega)
        simpa [Addr.add] using World.cell?_spot this
      subst hspot
      rw [add_plain] at hc
      rw [hc]
      simp [List.getD_eq_getElem?_getD, hi]
end
end Go.Proofs.Ytiilckjnggeeoad
