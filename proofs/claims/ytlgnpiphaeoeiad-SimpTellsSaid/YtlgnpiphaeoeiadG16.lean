/- D7e D6j RMoX RApX D6l D7f -/
import Derived.Test.YtlgnpiphaeoeiadG15
import Derived.BigQuiet
namespace Go.Proofs.Ytlgnpiphaeoeiad
open Go.RowKit Go.Deep Go.ChangeShapes Go.WideShapes
def wayC (x y : Lt) (s : Sb) : Option Sb := if y.1 = x.1 then (extT s x.2.1 y.2.1).bind fun a => extT a x.2.2 y.2.2 else none
def covS (x : Lt) (d : Cl) (s : Sb) : List Sb := d.flatMap fun y => (wayC x y s).toList ++ (wayC x (turnL true y) s).toList
def covN (d : Cl) : Cl → List Sb → List Sb
  | [], now => now
  | x :: c, now => covN d c (now.flatMap (covS x d))
def covT (c d : Cl) : Bool := !(covN d c [[]]).isEmpty
theorem covS_mem {x : Lt} {d : Cl} {s s' : Sb} : s' ∈ covS x d s ↔ ∃ y ∈ d, ∃ k, wayC x (turnL k y) s = some s' := by
  unfold covS
  simp only [List.mem_flatMap, List.mem_append, Option.mem_toList]
  constructor
  · rintro ⟨y, hy, h | h⟩
    · exact ⟨y, hy, false, h⟩
    · exact ⟨y, hy, true, h⟩
  · rintro ⟨y, hy, k, h⟩
    cases k
    · exact ⟨y, hy, .inl h⟩
    · exact ⟨y, hy, .inr h⟩
end Go.Proofs.Ytlgnpiphaeoeiad

namespace Go.Proofs.Ytlgnpiphaeoeiad
open Go.RowKit Go.Deep Go.ChangeShapes Go.WideShapes
def PlaIn (lo : Nat) (w : World) (Z : List (List Int)) (v : Value) : Prop :=
  ∃ (a : Option Addr) (c g : Nat), v = .slice a Z.length c ∧ (0 < Z.length → a = some ⟨g, 0, none⟩ ∧ lo ≤ g ∧ g < w.heap.size) ∧ Z.length ≤ c ∧ c ≤ maxLen ∧ ∀ t q, Z[t]? = some q → ∃ y, w.cell? ⟨g, t, none⟩ = some y ∧ w.ownsRow lo 3 1 y q.length (vals q)
theorem places_call {x : Bool × Int} {k : Fo} {a : Value} {w : World} {Z : List (List Int)} (hZ : Z = placesT x k []) (hS : SIn w k a) (hb : tszR k ≤ 12) :
    Calls Try.prog 27 #[.agg #[.bool x.1, .int .i64 x.2, a]] w fun e w' => ∃ z1 z3, e = .returned (.slice z1 Z.length z3) ∧ PlaIn w.heap.size w' Z (.slice z1 Z.length z3) ∧ Below w.heap.size w w' := by
  refine (placesR_any x k a w hS (by omega)).mono ?_
  rintro e w' ⟨vo, ys, rfl, h1, h2, h3⟩
  rw [← hZ] at h2
  have hcells := fun g hg => h1.cells (g := g) hg
  have hat := fun g hg => owns_at h1 g hg
  have hyl := h2.1
  rcases h1.2 with ⟨rfl, h0⟩ | ⟨g, cap, cur, rfl, q1, q2, q3, q4, q5, q6⟩
  · have hz : Z = [] := List.length_eq_zero_iff.1 (by omega)
    refine ⟨none, 0, by rw [hz]; rfl, ⟨none, 0, 0, rfl, fun h => by rw [hz] at h; simp at h, by rw [hz]; exact Nat.le_refl _, Nat.zero_le _, fun t q hq => by rw [hz] at hq; simp at hq⟩, h3⟩
  · rw [hyl]
    have hg := hat g rfl
    refine ⟨some ⟨g, 0, none⟩, cap, rfl, ⟨_, cap, g, rfl, fun _ => ⟨rfl, hg.1, hg.2⟩, by omega, q4, fun t q hq => ?_⟩, h3⟩
    have ht : t < ys.length := by have := (List.getElem?_eq_some_iff.1 hq).1; omega
    refine ⟨ys[t], ?_, (h2.2 t _ q (List.getElem?_eq_getElem ht) hq).1⟩
    have := hcells g rfl t ys[t] (List.getElem?_eq_getElem ht)
    rw [add_plain, Nat.zero_add] at this
    exact this
end Go.Proofs.Ytlgnpiphaeoeiad

namespace Go.Proofs.Ytlgnpiphaeoeiad
open Go.RowKit Go.Deep Go.ChangeShapes Go.WideShapes
attribute [local go_sem ↓] Go.wp_at_zero Go.wp_at_succ
def PInX (X : Nat → Prop) (w : World) : Sb → Nat → Nat → Prop
  | [], _, _ => True
  | p :: s, b, o => w.cell? ⟨b, o, none⟩ = some (.int .i64 p.1) ∧ w.cell? ⟨b, o + 1, none⟩ = some (.bool p.2.1.1) ∧ w.cell? ⟨b, o + 2, none⟩ = some (.int .i64 p.2.1.2) ∧
      (∃ v, w.cell? ⟨b, o + 3, none⟩ = some v ∧ SB X w p.2.2 v) ∧ PInX X w s b (o + 4)
def SubX (X : Nat → Prop) (w : World) (s : Sb) (v : Value) : Prop :=
  ∃ (a : Option Addr) (c b o : Nat), v = .slice a s.length c ∧ (0 < s.length → a = some ⟨b, o, none⟩) ∧ s.length ≤ c ∧ c ≤ maxLen ∧ PInX X w s b o
theorem PInX.to {X : Nat → Prop} {w : World} : ∀ {s : Sb} {b o : Nat}, PInX X w s b o → PIn w s b o
  | [], _, _, _ => trivial
  | _ :: _, _, _, ⟨h0, h1, h2, ⟨v, h3, h4⟩, h5⟩ => ⟨h0, h1, h2, ⟨v, h3, h4.toS⟩, h5.to⟩
theorem SubX.to {X : Nat → Prop} {w : World} {s : Sb} {v : Value} (h : SubX X w s v) : SubIn w s v := by
  obtain ⟨a, c, b, o, h1, h2, h3, h4, h5⟩ := h
  exact ⟨a, c, b, o, h1, h2, h3, h4, h5.to⟩
theorem SB.keepB {X : Nat → Prop} {w w' : World} (hX : ∀ q, X q → q < w.heap.size) (hb : Below w.heap.size w w') {k : Fo} {v : Value} (h : SB X w k v) : SB X w' k v := h.frame (fun _ h => h) (fun q _ hq => hb.cell (hX q hq))
theorem PInX.below {X : Nat → Prop} {w w' : World} (hX : ∀ q, X q → q < w.heap.size) (hb : Below w.heap.size w w') : ∀ {s : Sb} {b o : Nat}, PInX X w s b o → PInX X w' s b o
  | [], _, _, _ => trivial
  | _ :: _, _, _, ⟨h0, h1, h2, ⟨v, h3, h4⟩, h5⟩ => ⟨grow_cell hb _ _ h0, grow_cell hb _ _ h1, grow_cell hb _ _ h2, ⟨v, grow_cell hb _ _ h3, h4.keepB hX hb⟩, PInX.below hX hb h5⟩
theorem SubX.below {X : Nat → Prop} {w w' : World} (hX : ∀ q, X q → q < w.heap.size) (hb : Below w.heap.size w w') {s : Sb} {v : Value} (h : SubX X w s v) : SubX X w' s v := by
  obtain ⟨a, c, b, o, h1, h2, h3, h4, h5⟩ := h
  exact ⟨a, c, b, o, h1, h2, h3, h4, h5.below hX hb⟩
theorem SubX.nil (X : Nat → Prop) (w : World) : SubX X w [] (.slice none 0 0) := ⟨none, 0, 0, 0, rfl, fun h => by simp at h, Nat.le_refl _, Nat.zero_le _, trivial⟩
theorem slice_of_subX {X : Nat → Prop} {w : World} {s : Sb} {v : Value} (h : SubX X w s v) : ∃ z1 z3, v = .slice z1 s.length z3 := slice_of_sub h.to
theorem pinX_cells {X : Nat → Prop} {w : World} {b : Nat} : ∀ {s : Sb} {o : Nat}, PInX X w s b o → ∃ news : List Value, news.length = s.length * 4 ∧ PC X w s news ∧ ∀ j u, news[j]? = some u → w.cell? ⟨b, o + j, none⟩ = some u
  | [], _, _ => ⟨[], rfl, rfl, fun j u h => by simp at h⟩
  | p :: s, o, ⟨h0, h1, h2, ⟨v, h3, h4⟩, h5⟩ => by
    obtain ⟨news, hl, hP, hc⟩ := pinX_cells h5
    refine ⟨.int .i64 p.1 :: .bool p.2.1.1 :: .int .i64 p.2.1.2 :: v :: news, by simp only [List.length_cons, hl]; omega, ⟨v, news, rfl, h4, hP⟩, fun j u hj => ?_⟩
    match j, hj with
    | 0, hj => simp at hj; subst hj; simpa using h0
    | 1, hj => simp at hj; subst hj; simpa using h1
    | 2, hj => simp at hj; subst hj; simpa using h2
    | 3, hj => simp at hj; subst hj; simpa using h3
    | j + 4, hj =>
      have := hc j u (by simpa using hj)
      rw [show o + (j + 4) = o + 4 + j by omega]
      exact this
theorem subX_cells {X : Nat → Prop} {w : World} {s : Sb} {v : Value} (h : SubX X w s v) : ∃ news, Cs w v s.length 4 news ∧ PC X w s news := by
  obtain ⟨a, c, b, o, rfl, h1, h2, h3, h4⟩ := h
  obtain ⟨news, hl, hP, hc⟩ := pinX_cells h4
  refine ⟨news, ⟨a, c, rfl, hl, hP.onecell, fun e => ?_, fun ad e j u hj => ?_⟩, hP⟩
  · subst e
    cases s with
    | nil => rfl
    | cons p s => have := h1 (by simp); cases this
  · have hj' := (List.getElem?_eq_some_iff.1 hj).1
    have hae : ad = ⟨b, o, none⟩ := by
      have := h1 (by omega)
      rw [e] at this
      exact Option.some.inj this
    rw [hae, add_plain]
    exact hc j u hj
theorem PC.atX {X : Nat → Prop} {w : World} {g : Nat} : ∀ {s : Sb} {xs : List Value} {o : Nat}, PC X w s xs → (∀ j, j < xs.length → w.cell? ⟨g, o + j, none⟩ = xs[j]?) → PInX X w s g o
  | [], _, _, _, _ => trivial
  | p :: s, xs, o, ⟨a, ys, e, h2, h3⟩, h => by
    subst e
    refine ⟨?_, ?_, ?_, ⟨a, ?_, h2⟩, h3.atX (fun j hj => ?_)⟩
    · simpa using h 0 (by simp)
    · simpa using h 1 (by simp)
    · simpa using h 2 (by simp)
    · simpa using h 3 (by simp)
    · have := h (j + 4) (by simp only [List.length_cons]; omega)
      rw [show o + (j + 4) = o + 4 + j by omega] at this
      simpa using this
theorem row_subX {X : Nat → Prop} {w : World} {lo : Nat} {v : Value} {s : Sb} {xs : List Value} (h : w.ownsRow lo 73 4 v s.length xs) (hc : PC X w s xs) : SubX X w s v := by
  have hcells := fun g hg => h.cells (g := g) hg
  rcases h.2 with ⟨rfl, h0⟩ | ⟨g, cap, cur, rfl, hl, hh, hn, hm, hs, ht⟩
  · have : s = [] := List.length_eq_zero_iff.1 h0
    subst this
    exact SubX.nil X w
  · refine ⟨_, cap, g, 0, rfl, fun _ => rfl, hn, hm, hc.atX (fun j hj => ?_)⟩
    have := hcells g rfl j (xs[j]'hj) (List.getElem?_eq_getElem hj)
    rw [List.getElem?_eq_getElem hj]
    rw [add_plain] at this
    exact this
theorem pairs_rowX {X : Nat → Prop} {lo : Nat} {w w' : World} {v : Value} {s s' : Sb} {news ys : List Value} (hX : ∀ q, X q → q < w.heap.size) (hb : Below w.heap.size w w') (h : PC X w s news) (h' : PC X w s' ys) (ho : w'.ownsRow lo 73 4 v (0 + s.length + s'.length) (([] ++ news) ++ ys)) : SubX X w' (s ++ s') v := by
  refine row_subX (lo := lo) (X := X) (xs := news ++ ys) (by simpa using ho) (PC.append (h'.frame (fun _ hq => hq) (fun q i hq => hb.cell (hX q hq))) (h.frame (fun _ hq => hq) (fun q i hq => hb.cell (hX q hq))))
def MoreXPost (X : Nat → Prop) (w : World) (s : Sb) (t u : Tm) (e : Ending) (w' : World) : Prop :=
  Below w.heap.size w w' ∧ ∃ (z1 : Option Addr) (z3 : Nat) (s' : Sb) (ok : Bool), e = .returned (.tuple #[.slice z1 s'.length z3, .bool ok]) ∧ SubX X w' s' (.slice z1 s'.length z3) ∧ extT s t u = (if ok then some s' else none) ∧ (ok = false → s' = [] ∨ s' = s)
def MoreXSaid (x : Bool × Int) (k : Fo) : Prop := ∀ (X : Nat → Prop) (s : Sb) (vs : Value) (y : Bool × Int) (l : Fo) (a c : Value) (w : World),
    (∀ q, X q → q < w.heap.size) → SubX X w s vs → SIn w k a → SB X w l c → (s.length + tszR k) * 48 ≤ 140737488355328 →
    Calls Try.prog 24 #[vs, .agg #[.bool x.1, .int .i64 x.2, a], .agg #[.bool y.1, .int .i64 y.2, c]] w (MoreXPost X w s (x, k) (y, l))
theorem moreX_fails {X : Nat → Prop} {w w' : World} {s : Sb} {t u : Tm} (hf : Below w.heap.size w w') (h : extT s t u = none) : MoreXPost X w s t u (.returned (.tuple #[.slice none 0 0, .bool false])) w' :=
  ⟨hf, none, 0, [], false, rfl, SubX.nil _ _, h, fun _ => .inl rfl⟩
theorem moreX_holds {X : Nat → Prop} {w w' : World} {s s' : Sb} {t u : Tm} {z1 : Option Addr} {m z3 : Nat} (hf : Below w.heap.size w w') (h : extT s t u = some s') (hm : m = s'.length) (hS : SubX X w' s' (.slice z1 m z3)) : MoreXPost X w s t u (.returned (.tuple #[.slice z1 m z3, .bool true])) w' := by
  subst hm
  exact ⟨hf, z1, z3, s', true, rfl, hS, h, fun e => by (cases e)⟩
set_option maxRecDepth 100000 in
set_option maxHeartbeats 2000000 in
theorem moreX_any (x : Bool × Int) (k : Fo) : MoreXSaid x k := by
  refine Fo.ind1 (p := MoreXSaid) ?_ x k
  clear x k
  intro x k ih X s vs y l a c w hX hO hS hU hlen
  obtain ⟨v, n⟩ := x
  obtain ⟨yv, yn⟩ := y
  have HI := hide ih
  have HX := hide hX
  have HO := hide hO
  have HU := hide hU
  obtain ⟨z1, z3, sb, so, rfl, hz1, hzc, hzm, hP⟩ := hO
  obtain ⟨ad, ac, b, o, rfl, had, hlc, hcm, hF⟩ := hS
  obtain ⟨ud, uc, ub, uo, rfl, hud, hulc, hucm, hG⟩ := hU
  have HP := hide hP
  have HF := hide hF
  have HG := hide hG
  have hlent : 0 < tszR k := by unfold tszR; omega
  have hzm' := hzm
  unfold maxLen at hcm hucm hzm
  clear ih hF hG hP hX
  cases v
  · clear hz1
    by_cases hc : yv = false ∧ yn = n ∧ Fo.len l = Fo.len k
    · obtain ⟨rfl, rfl, hll⟩ := hc
      have Hres : Hid (extT s ((false, yn), k) ((false, yn), l) = extF k l s) := extT_in hll
      have hllb : ((Fo.len l : Int) != (Fo.len k : Int)) = false := by simp [hll]
      have hnb : (yn != yn) = false := by simp
      have Hll := hide hll
      have hll1 : Fo.len l ≤ Fo.len k := by omega
      have hll2 : Fo.len k ≤ Fo.len l := by omega
      have Hl := hide (Fo.len_list k)
      have Hl2 := hide (Fo.len_list l)
      clear hll
      go_enter Try.func24, Try.ntmps24
      go_wp2_with fail
      generalize hW2 : (w.alloc (.cells #[.bool false, .int .i64 yn, .slice ad (Fo.len k) ac] 33)).alloc (.cells #[.bool false, .int .i64 yn, .slice ud (Fo.len l) uc] 33) = W2
      have hs2 : W2.heap.size = w.heap.size + 1 + 1 := by rw [← hW2]; simp
      have hB2 : Below w.heap.size w W2 := by rw [← hW2]; exact (below_alloc _ _).alloc (by simp) _
      have q2 : W2.cell? ⟨w.heap.size, 2, none⟩ = some (.slice ad (Fo.len k) ac) := by rw [← hW2, World.cell?_alloc_lt _ _ _ (by simp)]; exact new_cell rfl
      have r2 : W2.cell? ⟨w.heap.size + 1, 2, none⟩ = some (.slice ud (Fo.len l) uc) := by rw [← hW2]; exact new_cell (World.size_alloc _ _)
      have Hq2 := hide q2
      have Hr2 := hide r2
      have HB2 := hide hB2
      clear hW2 q2 r2 hB2
      go_loopw [0, 62] (fun vj i wr => ∃ (j : Nat) (sj : Sb) (y1 : Option Addr) (y3 : Nat), j ≤ Fo.len k ∧ i = .int .i64 j ∧ vj = .slice y1 sj.length y3 ∧ extF (Fo.take j k) (Fo.take j l) s = some sj ∧ SubX X wr sj (.slice y1 sj.length y3) ∧ Below W2.heap.size W2 wr) (fun _ i _ => Fo.len k - (intOf i).toNat)
      case atStart => exact ⟨0, s, z1, z3, Nat.zero_le _, rfl, rfl, rfl, HO.out.below HX.out HB2.out, Below.refl _ _⟩
      case round =>
        obtain ⟨j, sj, y1, y3, hj, rfl, rfl, hex, hOj, hFj⟩ := hrel
        have Hex := hide hex
        have HOj := hide hOj
        have HFj := hide hFj
        clear hex hOj hFj
        have hBw := below_step HB2.out HFj.out
        have HXr : Hid (∀ q, X q → q < wr.heap.size) := fun q hq => Nat.lt_of_lt_of_le (HX.out q hq) hBw.size
        have HBw := hide hBw
        by_cases hlt : j < Fo.len k
        · have hlt' : (j : Int) < (Fo.len k : Int) := by omega
          have hlt2 : (j : Int) < (Fo.len l : Int) := by omega
          have hj0 : (0 : Int) ≤ (j : Int) := by omega
          have had' := had (by omega)
          have hud' := (hud (by omega)).1
          subst had' hud'
          obtain ⟨⟨⟨pv, pn⟩, pk⟩, hp⟩ : ∃ y, k.list[j]? = some y := ⟨k.list[j]'(by rw [Hl.out]; exact hlt), by simp⟩
          obtain ⟨⟨⟨tv, tn⟩, tk⟩, ht⟩ : ∃ y, l.list[j]? = some y := ⟨l.list[j]'(by rw [Hl2.out]; omega), by simp⟩
          obtain ⟨c0, c1, pa, c2, hSp⟩ := HF.out.at hp
          obtain ⟨d0, d1, ta, d2, hSt⟩ := HG.out.at ht
          have c0' := grow_cell hBw _ _ c0
          have c1' := grow_cell hBw _ _ c1
          have c2' := grow_cell hBw _ _ c2
          have d0' := grow_cell hBw _ _ d0
          have d1' := grow_cell hBw _ _ d1
          have d2' := grow_cell hBw _ _ d2
          have e2 := grow_cell HFj.out _ _ Hq2.out
          have f2 := grow_cell HFj.out _ _ Hr2.out
          have HSp := hide (hSp.below hBw).drew
          have HSt := hide ((hSt.keepB HX.out hBw).keepB HXr.out (Below.refl _ _).drew)
          obtain ⟨pa1, pc, pb, po, rfl, -, -, -, -⟩ := hSp
          obtain ⟨ta1, tc, tb, t4, rfl, -, -, -, -⟩ := hSt.toS
          have Hbd : Hid ((sj.length + tszR pk) * 48 ≤ 140737488355328) := by
            have h1 := extF_len Hex.out
            have h2 := sizesR_take j k
            rw [hp] at h2
            simp only at h2
            unfold tszR at h2 hlen
            unfold tszR Hid
            omega
          have Hstep : Hid (extF (Fo.take (j + 1) k) (Fo.take (j + 1) l) s = extT sj ((pv, pn), pk) ((tv, tn), tk)) := by
            rw [Hid, ext_snoc s hp ht, Hex.out]; rfl
          have hcall : Calls Try.prog 24 #[.slice y1 sj.length y3, .agg #[.bool pv, .int .i64 pn, .slice pa1 (Fo.len pk) pc], .agg #[.bool tv, .int .i64 tn, .slice ta1 (Fo.len tk) tc]] wr.drew (MoreXPost X wr.drew sj ((pv, pn), pk) ((tv, tn), tk)) :=
            HI.out ((pv, pn), pk) (List.mem_of_getElem? hp) X sj _ (tv, tn) tk _ _ wr.drew HXr.out (HOj.out.below HXr.out (Below.refl _ _).drew) HSp.out HSt.out Hbd.out
          have Hcall := hide hcall
          clear c0 c1 c2 d0 d1 d2 hp ht had hud hcall hBw
          go_upto_region 14 with fail
          go_region_with (first
            | (go_at_call 24; refine Hcall.out.mono ?_; rintro e w2 ⟨hb2, x1, x3, s2, ok, rfl, hS2, hyes, -⟩))
          all_goals
            have Hb2 := hide (below_step HFj.out ((Below.refl _ _).drew.trans hb2))
            cases ok
            · have Hf : Hid (MoreXPost X w s ((false, yn), k) ((false, yn), l) (.returned (.tuple #[.slice none 0 0, .bool false])) w2) :=
                moreX_fails (below_step HB2.out Hb2.out) (Hres.out.trans (ext_none (j := j + 1) Hll.out.symm (Hstep.out.trans hyes)))
              clear hyes hS2 hb2
              go_wp2_with fail
              go_ret2
              exact Hf.out
            · have HS2 := hide hS2
              have Hs2 : Hid (extF (Fo.take (j + 1) k) (Fo.take (j + 1) l) s = some s2) := Hstep.out.trans hyes
              clear hyes hS2 hb2
              go_wp2_with fail
              go_roundw
              case rel => exact ⟨j + 1, s2, x1, x3, by omega, by go_num, rfl, Hs2.out, HS2.out, Hb2.out⟩
              case measure => simp [intOf]; omega
        · have Hf : Hid (MoreXPost X w s ((false, yn), k) ((false, yn), l) (.returned (.tuple #[.slice y1 sj.length y3, .bool true])) wr) := by
            refine moreX_holds HBw.out (Hres.out.trans ?_) rfl HOj.out
            have e : j = Fo.len k := by omega
            have := Hex.out
            rw [e, take_all, ← Hll.out, take_all] at this
            exact this
          clear had hud
          go_wp2_with fail
          go_ret2
          exact Hf.out
    · have Hres : Hid (extT s ((false, n), k) ((yv, yn), l) = none) := extT_no hc
      have Hf : Hid (∀ w', Below w.heap.size w w' → MoreXPost X w s ((false, n), k) ((yv, yn), l) (.returned (.tuple #[.slice none 0 0, .bool false])) w') := fun w' hb => moreX_fails hb Hres.out
      have Hb : Hid (Below w.heap.size w ((w.alloc (.cells #[.bool false, .int .i64 n, .slice ad (Fo.len k) ac] 33)).alloc (.cells #[.bool yv, .int .i64 yn, .slice ud (Fo.len l) uc] 33))) := (below_alloc _ _).alloc (by simp) _
      cases yv
      · by_cases hn : yn = n
        · have hl : ¬ Fo.len l = Fo.len k := fun e => hc ⟨rfl, hn, e⟩
          have hnb : (yn != n) = false := by simp [hn]
          have hlb : ((Fo.len l : Int) != (Fo.len k : Int)) = true := by simp; omega
          clear hc hn hl
          go_enter Try.func24, Try.ntmps24
          go_wp2_with fail
          go_ret2
          exact Hf.out _ Hb.out
        · have hnb : (yn != n) = true := by simp [hn]
          clear hc hn
          go_enter Try.func24, Try.ntmps24
          go_wp2_with fail
          go_ret2
          exact Hf.out _ Hb.out
      · clear hc
        go_enter Try.func24, Try.ntmps24
        go_wp2_with fail
        go_ret2
        exact Hf.out _ Hb.out
  · clear had hud
    go_enter Try.func24, Try.ntmps24
    go_wp2_with fail
    generalize hW2 : (w.alloc (.cells #[.bool true, .int .i64 n, .slice ad (Fo.len k) ac] 33)).alloc (.cells #[.bool yv, .int .i64 yn, .slice ud (Fo.len l) uc] 33) = W2
    have hs2 : W2.heap.size = w.heap.size + 1 + 1 := by rw [← hW2]; simp
    have hB2 : Below w.heap.size w W2 := by rw [← hW2]; exact (below_alloc _ _).alloc (by simp) _
    have q1 : W2.cell? ⟨w.heap.size, 1, none⟩ = some (.int .i64 n) := by rw [← hW2, World.cell?_alloc_lt _ _ _ (by simp)]; exact new_cell rfl
    have r0 : W2.cell? ⟨w.heap.size + 1, 0, none⟩ = some (.bool yv) := by rw [← hW2]; exact new_cell (World.size_alloc _ _)
    have r1 : W2.cell? ⟨w.heap.size + 1, 1, none⟩ = some (.int .i64 yn) := by rw [← hW2]; exact new_cell (World.size_alloc _ _)
    have r2 : W2.cell? ⟨w.heap.size + 1, 2, none⟩ = some (.slice ud (Fo.len l) uc) := by rw [← hW2]; exact new_cell (World.size_alloc _ _)
    have HR := hide (And.intro q1 (And.intro r0 (And.intro r1 r2)))
    have HB2 := hide hB2
    clear hW2 q1 r0 r1 r2 hB2
    go_loopw [17] (fun i wr => ∃ j : Nat, j ≤ s.length ∧ i = .int .i64 j ∧ (∀ q p, q < j → s[q]? = some p → p.1 ≠ n) ∧ Below W2.heap.size W2 wr) (fun i _ => s.length - (intOf i).toNat)
    case atStart => exact ⟨0, Nat.zero_le _, rfl, fun q p hq => by omega, Below.refl _ _⟩
    case round =>
      obtain ⟨j, hj, rfl, hno, hBr⟩ := hrel
      have Hno := hide hno
      have hBw := below_step HB2.out hBr
      have HBr := hide hBr
      have HBw := hide hBw
      obtain ⟨q1, r0, r1, r2⟩ := HR.out
      have q1' := grow_cell hBr _ _ q1
      have r0' := grow_cell hBr _ _ r0
      have r1' := grow_cell hBr _ _ r1
      have r2' := grow_cell hBr _ _ r2
      have hsr := hBr.size
      clear hno q1 r0 r1 r2 hBr
      by_cases hlt : j < s.length
      · have hlt' : (j : Int) < (s.length : Int) := by omega
        have hj0 : (0 : Int) ≤ (j : Int) := by omega
        obtain ⟨⟨m, ⟨tv, tn⟩, tk⟩, hy⟩ : ∃ y, s[j]? = some y := ⟨s[j], by simp [hlt]⟩
        have hz := hz1 (by omega)
        subst hz
        obtain ⟨c0, c1, c2, yv', c3, hSy⟩ := (HP.out.to.below hBw).at hy
        have HSy := hide hSy
        obtain ⟨ya, yc, yb, yo, rfl, -, -, -, -⟩ := hSy
        have HUr := hide (HU.out.toS.below hBw)
        have Hnx : Hid (m ≠ n → ∀ q p, q < j + 1 → s[q]? = some p → p.1 ≠ n) := fun h q p hq hp => by
          by_cases e : q = j
          · subst e; rw [hy] at hp; cases hp; exact h
          · exact Hno.out q p (by omega) hp
        have Hlk : Hid (m = n → look s n = some ((tv, tn), tk)) := fun h => by subst h; exact look_first Hno.out hy
        clear hz1 hy hBw
        go_upto_region 5 with fail
        generalize hwa : wr.alloc (.cells #[.int .i64 m, .bool tv, .int .i64 tn, .slice ya (Fo.len tk) yc] 73) = wa
        have a0 : wa.cell? ⟨wr.heap.size, 0, none⟩ = some (.int .i64 m) := by rw [← hwa]; exact new_cell rfl
        have a1 : wa.cell? ⟨wr.heap.size, 1, none⟩ = some (.bool tv) := by rw [← hwa]; exact new_cell rfl
        have a2 : wa.cell? ⟨wr.heap.size, 2, none⟩ = some (.int .i64 tn) := by rw [← hwa]; exact new_cell rfl
        have a3 : wa.cell? ⟨wr.heap.size, 3, none⟩ = some (.slice ya (Fo.len tk) yc) := by rw [← hwa]; exact new_cell rfl
        have hba : Below wr.heap.size wr wa := by rw [← hwa]; exact below_alloc _ _
        have f1 := grow_cell hba _ _ q1'
        have g0 := grow_cell hba _ _ r0'
        have g1 := grow_cell hba _ _ r1'
        have g2 := grow_cell hba _ _ r2'
        have HSa := hide (HSy.out.below hba)
        have HUa := hide (HUr.out.below hba)
        have Hba := hide hba
        clear hwa c0 c1 c2 c3 q1' r0' r1' r2' hba
        by_cases he : m = n
        · have heb : (m == n) = true := by simp [he]
          have Hres : Hid (extT s ((true, n), k) ((yv, yn), l) = if sameT (tv, tn) tk (yv, yn) l then some s else none) := extT_old (Hlk.out he)
          clear he
          go_wp2_with fail
          refine (sameR_any (tv, tn) tk (yv, yn) l _ _ wa HSa.out HUa.out).mono ?_
          rintro e w2 ⟨rfl, hb2⟩
          have Hb2 := hide (below_step HBw.out (below_step Hba.out hb2))
          clear hb2
          cases hsm : sameT (tv, tn) tk (yv, yn) l
          · have Hf : Hid (MoreXPost X w s ((true, n), k) ((yv, yn), l) (.returned (.tuple #[.slice (some ⟨sb, so, none⟩) s.length z3, .bool false])) w2) :=
              ⟨Hb2.out, _, _, s, false, rfl, HO.out.below HX.out Hb2.out, by rw [Hres.out, hsm], fun _ => .inr rfl⟩
            clear hsm
            go_wp2_with fail
            go_ret2
            exact Hf.out
          · have Hf : Hid (MoreXPost X w s ((true, n), k) ((yv, yn), l) (.returned (.tuple #[.slice (some ⟨sb, so, none⟩) s.length z3, .bool true])) w2) :=
              ⟨Hb2.out, _, _, s, true, rfl, HO.out.below HX.out Hb2.out, by rw [Hres.out, hsm], fun e => by (cases e)⟩
            clear hsm
            go_wp2_with fail
            go_ret2
            exact Hf.out
        · have heb : (m == n) = false := by simp [he]
          have Hn := hide (Hnx.out he)
          clear he
          go_wp2_with fail
          go_roundw
          case rel => exact ⟨j + 1, by omega, by go_num, Hn.out, below_step HBr.out Hba.out⟩
          case measure => simp [intOf]; omega
      · have Hres : Hid (extT s ((true, n), k) ((yv, yn), l) = some (s ++ [(n, ((yv, yn), l))])) := extT_new (look_all (fun q p hq => Hno.out q p (by omega)))
        obtain ⟨i52, hi52, hz0, hz1', hz2⟩ := info_parts Try.info73
        obtain ⟨news, hCs, hPC⟩ := subX_cells HO.out
        have HCs := hide hCs
        have HPC := hide hPC
        have hn1 : 0 + s.length ≤ maxLen := by unfold maxLen; omega
        have hn2 : (0 + s.length) * 48 ≤ 140737488355328 := by omega
        have hn3 : 0 + s.length + 1 ≤ maxLen := by unfold maxLen; omega
        have hn4 : (0 + s.length + 1) * 48 ≤ 140737488355328 := by omega
        clear hz1 hBw hCs hPC
        have hsw : w.heap.size ≤ wr.heap.size := by omega
        have A1 : Hid ((wr.alloc (.cells #[] 73)).drew.ownsRow w.heap.size 73 4 (.slice (some ⟨wr.heap.size, 0, none⟩) 0 0) 0 []) := own_bare (heap_alloc_new wr _) hsw
        have A2 : Hid (((wr.alloc (.cells #[] 73)).alloc (.cells #[.int .i64 n, .bool yv, .int .i64 yn, .slice ud (Fo.len l) uc] 73)).drew.ownsRow w.heap.size 73 4 (.slice (some ⟨wr.heap.size, 0, none⟩) 0 0) 0 []) := own_bare ((Below.heap_alloc _ _ _ (by simp)).trans (heap_alloc_new wr _)) hsw
        have A3 : Hid (((wr.alloc (.cells #[.int .i64 n, .bool yv, .int .i64 yn, .slice ud (Fo.len l) uc] 73)).alloc (.cells #[] 73)).drew.ownsRow w.heap.size 73 4 (.slice (some ⟨wr.heap.size + 1, 0, none⟩) 0 0) 0 []) := own_bare (by have := heap_alloc_new (wr.alloc (.cells #[.int .i64 n, .bool yv, .int .i64 yn, .slice ud (Fo.len l) uc] 73)) (.cells #[] 73); rw [World.size_alloc] at this; exact this) (by omega)
        have B1 : Hid (Below wr.heap.size wr (wr.alloc (.cells #[] 73)).drew) := (below_alloc _ _).drew
        have B2 : Hid (Below wr.heap.size wr ((wr.alloc (.cells #[] 73)).alloc (.cells #[.int .i64 n, .bool yv, .int .i64 yn, .slice ud (Fo.len l) uc] 73)).drew) := ((below_alloc _ _).alloc (by simp) _).drew
        have B3 : Hid (Below wr.heap.size wr ((wr.alloc (.cells #[.int .i64 n, .bool yv, .int .i64 yn, .slice ud (Fo.len l) uc] 73)).alloc (.cells #[] 73)).drew) := ((below_alloc _ _).alloc (by simp) _).drew
        have M2 : Hid (∀ wA : World, ((wr.alloc (.cells #[] 73)).alloc (.cells #[.int .i64 n, .bool yv, .int .i64 yn, .slice ud (Fo.len l) uc] 73)).drew.grownBy wA (some wr.heap.size) → Cs wA (.slice (some ⟨wr.heap.size + 1, 0, none⟩) 1 1) 1 4 [.int .i64 n, .bool yv, .int .i64 yn, .slice ud (Fo.len l) uc]) := fun wA hg => cs_pair (by
          rw [hg.block (wr.heap.size + 1) (by simp) (by simp)]
          have := heap_alloc_new (wr.alloc (.cells #[] 73)) (.cells #[.int .i64 n, .bool yv, .int .i64 yn, .slice ud (Fo.len l) uc] 73)
          rw [World.size_alloc] at this
          exact this)
        have M3 : Hid (∀ wA : World, ((wr.alloc (.cells #[.int .i64 n, .bool yv, .int .i64 yn, .slice ud (Fo.len l) uc] 73)).alloc (.cells #[] 73)).drew.grownBy wA (some (wr.heap.size + 1)) → Cs wA (.slice (some ⟨wr.heap.size, 0, none⟩) 1 1) 1 4 [.int .i64 n, .bool yv, .int .i64 yn, .slice ud (Fo.len l) uc]) := fun wA hg => cs_pair (by
          rw [hg.block wr.heap.size (by show wr.heap.size < ((wr.alloc _).alloc _).heap.size; rw [size2]; omega) (by simp)]
          exact (Below.heap_alloc _ _ _ (by simp)).trans (heap_alloc_new wr _))
        go_upto_region 8 with fail
        go_region_held3 (fun w' => w'.cell? ⟨w.heap.size, 1, none⟩ = some (.int .i64 n) ∧ w'.cell? ⟨w.heap.size + 1, 0, none⟩ = some (.bool yv) ∧ w'.cell? ⟨w.heap.size + 1, 1, none⟩ = some (.int .i64 yn) ∧ w'.cell? ⟨w.heap.size + 1, 2, none⟩ = some (.slice ud (Fo.len l) uc))
          (first
            | exact ⟨grow_cell BB _ _ q1', grow_cell BB _ _ r0', grow_cell BB _ _ r1', grow_cell BB _ _ r2'⟩
            | exact ⟨grow_cell BA _ _ q1', grow_cell BA _ _ r0', grow_cell BA _ _ r1', grow_cell BA _ _ r2'⟩
            | go_keep)
          (first
            | (refine step_append_gen (by rfl) _ _ _ (by rfl) w.heap.size 73 i52 (.agg #[.int .i64 0, .bool false, .int .i64 0, .slice none 0 0]) 4 48 Try.underlying46 hi52 hz0 hz1' hz2 rfl (by decide) (.slice (some ⟨wr.heap.size, 0, none⟩) 0 0) 0 [] (by rfl) A1.out (.slice z1 s.length z3) s.length news (by rfl) (HCs.out.below (below_step HBw.out B1.out)) hn1 hn2 ?hb ?_; (case hb => simp; omega); intro vA wA hoA hgA hatA; obtain ⟨BA, VA, SA⟩ := vars_row B1.out hgA hatA (by simp [Value.ownBlock]); have Q1 : Hid True := trivial)
            | (refine step_append_gen (by rfl) _ _ _ (by rfl) w.heap.size 73 i52 (.agg #[.int .i64 0, .bool false, .int .i64 0, .slice none 0 0]) 4 48 Try.underlying46 hi52 hz0 hz1' hz2 rfl (by decide) (.slice (some ⟨wr.heap.size, 0, none⟩) 0 0) 0 [] (by rfl) A2.out (.slice z1 s.length z3) s.length news (by rfl) (HCs.out.below (below_step HBw.out B2.out)) hn1 hn2 ?hb ?_; (case hb => simp; omega); intro vA wA hoA hgA hatA; obtain ⟨BA, VA, SA⟩ := vars_row B2.out hgA hatA (by simp [Value.ownBlock]); have Q2 := hide (M2.out wA hgA))
            | (refine step_append_gen (by rfl) _ _ _ (by rfl) w.heap.size 73 i52 (.agg #[.int .i64 0, .bool false, .int .i64 0, .slice none 0 0]) 4 48 Try.underlying46 hi52 hz0 hz1' hz2 rfl (by decide) (.slice (some ⟨wr.heap.size + 1, 0, none⟩) 0 0) 0 [] (by rfl) A3.out (.slice z1 s.length z3) s.length news (by rfl) (HCs.out.below (below_step HBw.out B3.out)) hn1 hn2 ?hb ?_; (case hb => simp; omega); intro vA wA hoA hgA hatA; obtain ⟨BA, VA, SA⟩ := vars_row B3.out hgA hatA (by simp [Value.ownBlock]); have Q3 := hide (M3.out wA hgA))
            | (refine step_append_gen (by rfl) _ _ _ (by rfl) w.heap.size 73 i52 (.agg #[.int .i64 0, .bool false, .int .i64 0, .slice none 0 0]) 4 48 Try.underlying46 hi52 hz0 hz1' hz2 rfl (by decide) vA (0 + s.length) ([] ++ news) (by rfl) ?own (.slice (some ⟨wA.heap.size, 0, none⟩) 1 1) 1 [.int .i64 n, .bool yv, .int .i64 yn, .slice ud (Fo.len l) uc] (by rfl) ?nin hn3 hn4 ?hb ?_; (case own => exact owns_keep hoA (fun g hg => Below.heap_alloc _ _ _ (owns_at hoA g hg).2)); (case nin => exact cs_pair (heap_alloc_new wA _)); (case hb => simp; omega); intro vB wB hoB hgB hatB; have BB := vars_row2 ((BA.alloc BA.size _)) hgB VA)
            | (refine step_append_gen (by rfl) _ _ _ (by rfl) w.heap.size 73 i52 (.agg #[.int .i64 0, .bool false, .int .i64 0, .slice none 0 0]) 4 48 Try.underlying46 hi52 hz0 hz1' hz2 rfl (by decide) vA (0 + s.length) ([] ++ news) (by rfl) hoA _ 1 [.int .i64 n, .bool yv, .int .i64 yn, .slice ud (Fo.len l) uc] (by rfl) Q2.out hn3 hn4 ?hb ?_; (case hb => omega); intro vB wB hoB hgB hatB; have BB := vars_row2 BA hgB VA)
            | (refine step_append_gen (by rfl) _ _ _ (by rfl) w.heap.size 73 i52 (.agg #[.int .i64 0, .bool false, .int .i64 0, .slice none 0 0]) 4 48 Try.underlying46 hi52 hz0 hz1' hz2 rfl (by decide) vA (0 + s.length) ([] ++ news) (by rfl) hoA _ 1 [.int .i64 n, .bool yv, .int .i64 yn, .slice ud (Fo.len l) uc] (by rfl) Q3.out hn3 hn4 ?hb ?_; (case hb => omega); intro vB wB hoB hgB hatB; have BB := vars_row2 BA hgB VA))
        all_goals
          have HBB := hide (below_step HBw.out BB)
          have HSB := hide (pairs_rowX (s' := [(n, ((yv, yn), l))]) HX.out HBB.out HPC.out (PC.one HU.out) hoB)
          obtain ⟨x1, x3, rfl⟩ := slice_of_subX HSB.out
          have Hf : Hid (MoreXPost X w s ((true, n), k) ((yv, yn), l) (.returned (.tuple #[.slice x1 (s ++ [(n, ((yv, yn), l))]).length x3, .bool true])) wB) := moreX_holds HBB.out Hres.out rfl HSB.out
          clear hoA hoB hgA hgB hatA hatB BA BB VA SA
          go_wp2_with fail
          go_ret2
          exact Hf.out
end Go.Proofs.Ytlgnpiphaeoeiad

namespace Go.Proofs.Ytlgnpiphaeoeiad
open Go.RowKit Go.Deep Go.ChangeShapes Go.WideShapes
attribute [local go_sem ↓] Go.wp_at_zero Go.wp_at_succ
theorem PInX.at {X : Nat → Prop} {w : World} : ∀ {s : Sb} {b o i : Nat} {p : Int × Tm}, PInX X w s b o → s[i]? = some p →
    w.cell? ⟨b, o + i * 4, none⟩ = some (.int .i64 p.1) ∧ w.cell? ⟨b, o + i * 4 + 1, none⟩ = some (.bool p.2.1.1) ∧ w.cell? ⟨b, o + i * 4 + 2, none⟩ = some (.int .i64 p.2.1.2) ∧ ∃ v, w.cell? ⟨b, o + i * 4 + 3, none⟩ = some v ∧ SB X w p.2.2 v
  | [], _, _, _, _, _, h => by simp at h
  | q :: s, b, o, 0, p, hP, h => by
    simp only [List.getElem?_cons_zero, Option.some.injEq] at h
    subst h
    obtain ⟨h0, h1, h2, h3, _⟩ := hP
    simpa using ⟨h0, h1, h2, h3⟩
  | q :: s, b, o, i + 1, p, hP, h => by
    have := PInX.at hP.2.2.2.2 (i := i) (by simpa using h)
    have e : o + 4 + i * 4 = o + (i + 1) * 4 := by omega
    rwa [e] at this
def ApplyXSaid (x : Bool × Int) (k : Fo) : Prop := ∀ (X : Nat → Prop) (s : Sb) (vs : Value) (W0 : World) (a : Value) (w : World), (∀ q, X q → q < W0.heap.size) → Below W0.heap.size W0 w → SubX X W0 s vs → (∀ p ∈ s, okT p.2) → SIn W0 k a → okT (x, k) → narT (x, k) →
    Calls Try.prog 30 #[vs, .agg #[.bool x.1, .int .i64 x.2, a]] w fun e w' => ∃ (a1 : Option Addr) (a2 a3 : Nat), e = .returned (.agg #[.bool (subT (bnd s) (x, k)).1.1, .int .i64 (subT (bnd s) (x, k)).1.2, .slice a1 a2 a3]) ∧
      SB (fun q => X q ∨ (w.heap.size ≤ q ∧ q < w'.heap.size)) w' (subT (bnd s) (x, k)).2 (.slice a1 a2 a3) ∧ Below w.heap.size w w'
set_option maxRecDepth 100000 in
set_option maxHeartbeats 2000000 in
theorem applyX_any (x : Bool × Int) (k : Fo) : ApplyXSaid x k := by
  refine Fo.ind1 (p := ApplyXSaid) ?_ x k
  clear x k
  intro x k ih X s vs W0 a w hX hW hV hs hS hok hnar
  obtain ⟨v, n⟩ := x
  have HI := hide ih
  have HW := hide hW
  have HX := hide hX
  have HV := hide hV
  have Hs := hide hs
  have Hok := hide hok
  have Hnar := hide hnar
  have HS := hide hS
  obtain ⟨ad, ac, b, o, rfl, had, hlc, hcm, hF⟩ := hS
  obtain ⟨vd, vc, vb, vo, rfl, hvd, hvlc, hvcm, hP⟩ := hV
  have HF := hide hF
  have HP := hide hP
  have hW0 := hW.size
  unfold maxLen at hcm hvcm
  clear ih hs hok hF hP hW hX
  cases v
  · have Hres : Hid (subT (bnd s) ((false, n), k) = ((false, n), subF (bnd s) k)) := rfl
    have HTok : Hid (Fo.ok (subF (bnd s) k)) := subF_ok (bnd_ok Hs.out) k
    have Hl := hide (Fo.len_list k)
    have Hl2 := hide (subF_len (bnd s) k)
    have hlen : Fo.len k ≤ 1000 := hnar.1
    clear hnar hvd
    go_enter Try.func30, Try.ntmps30
    go_wp2_with fail
    generalize hW2 : (w.alloc (.cells #[.bool false, .int .i64 n, .slice ad (Fo.len k) ac] 33)).alloc (.cells #[.bool false, .int .i64 0, .slice none 0 0] 33) = W2
    have hs2 : W2.heap.size = w.heap.size + 1 + 1 := by rw [← hW2]; simp
    have hB2 : Below w.heap.size w W2 := by rw [← hW2]; exact (below_alloc _ _).alloc (by simp) _
    have r0 : W2.cell? ⟨w.heap.size + 1, 0, none⟩ = some (.bool false) := by rw [← hW2]; exact new_cell (World.size_alloc _ _)
    have r1 : W2.cell? ⟨w.heap.size + 1, 1, none⟩ = some (.int .i64 0) := by rw [← hW2]; exact new_cell (World.size_alloc _ _)
    have r2 : W2.cell? ⟨w.heap.size + 1, 2, none⟩ = some (.slice none 0 0) := by rw [← hW2]; exact new_cell (World.size_alloc _ _)
    have rf : ∀ i, W2.frozen? ⟨w.heap.size + 1, i, none⟩ = false := fun i => by rw [← hW2]; exact new_frozen (World.size_alloc _ _)
    have HQ := hide (And.intro r0 (And.intro r1 (And.intro r2 rf)))
    have HB2 := hide hB2
    have Hs2 := hide hs2
    have H0 : Hid (AppRel (w.heap.size + 1 + 1) W2 X (subF (bnd s) k) n 0 (W2.alloc (.cells #[.bool false, .int .i64 n, .slice none 0 0] 33))) := app_zero hs2
    clear r0 r1 r2 rf hB2 hs2 hW2
    go_loopw [33] (fun i wr => ∃ j : Nat, j ≤ Fo.len k ∧ i = .int .i64 j ∧ AppRel (w.heap.size + 1 + 1) W2 X (subF (bnd s) k) n j wr) (fun i _ => Fo.len k - (intOf i).toNat)
    case atStart => exact ⟨0, Nat.zero_le _, rfl, H0.out⟩
    case round =>
      obtain ⟨j, hj, rfl, hR⟩ := hrel
      have HR := hide hR
      obtain ⟨vr', xs, h1, h2, q0, q1, q2, qf, hB⟩ := hR
      have H1 := hide h1
      have H2 := hide h2
      have HB := hide hB
      have Hqf := hide qf
      have hs2 := Hs2.out
      have hBw : Below w.heap.size w wr := HB2.out.trans (hB.mono (by omega))
      have hB0 : Below W0.heap.size W0 wr := HW.out.trans (hBw.mono hW0)
      have hBlt : w.heap.size + 1 + 1 < wr.heap.size := World.block_lt_of_cell? _ _ q0
      obtain ⟨z1, z3, rfl⟩ := slice_of_owns h1
      clear H0 h1 h2 hB
      by_cases hlt : j < Fo.len k
      · have hlt' : (j : Int) < (Fo.len k : Int) := by omega
        have had' : ad = some ⟨b, o, none⟩ := had (by omega)
        subst had'
        obtain ⟨⟨⟨ev, en⟩, ek⟩, hy⟩ : ∃ y, k.list[j]? = some y := ⟨k.list[j]'(by rw [Hl.out]; exact hlt), by simp⟩
        obtain ⟨c0, c1, yv', c2, hSy⟩ := HF.out.at hy
        have c0' := grow_cell hB0 _ _ c0
        have c1' := grow_cell hB0 _ _ c1
        have c2' := grow_cell hB0 _ _ c2
        have HSy := hide hSy
        obtain ⟨ya, yc, yb, yo, rfl, -, -, -, -⟩ := hSy
        have Hy := hide hy
        have Hy2 : Hid ((subF (bnd s) k).list[j]? = some (subT (bnd s) ((ev, en), ek))) := by rw [Hid, subF_list, List.getElem?_map, hy]; rfl
        obtain ⟨⟨⟨xv, xn⟩, xk⟩, hz⟩ : ∃ z, z = subT (bnd s) ((ev, en), ek) := ⟨_, rfl⟩
        have Hz := hide hz
        have Hoke : Hid (okT ((ev, en), ek)) := ok_mem Hok.out.2 (List.mem_of_getElem? hy)
        have Hnare : Hid (narT ((ev, en), ek)) := nar_mem Hnar.out.2 (List.mem_of_getElem? hy)
        clear hy had c0 c1 c2 hz
        obtain ⟨i26, hi26, hz0, hz1, hz2⟩ := info_parts Try.info33
        have hn1 : j + 1 ≤ maxLen := by unfold maxLen; omega
        have hn2 : (j + 1) * 40 ≤ 140737488355328 := by omega
        go_upto_region 13 with fail
        generalize hwa : wr.alloc (.cells #[.bool ev, .int .i64 en, .slice ya (Fo.len ek) yc] 33) = wa
        have e0 : wa.cell? ⟨wr.heap.size, 0, none⟩ = some (.bool ev) := by rw [← hwa]; exact new_cell rfl
        have e1 : wa.cell? ⟨wr.heap.size, 1, none⟩ = some (.int .i64 en) := by rw [← hwa]; exact new_cell rfl
        have e2 : wa.cell? ⟨wr.heap.size, 2, none⟩ = some (.slice ya (Fo.len ek) yc) := by rw [← hwa]; exact new_cell rfl
        have hba : Below wr.heap.size wr wa := by rw [← hwa]; exact below_alloc _ _
        have f2 := grow_cell hba _ _ q2
        have ff : ∀ i, wa.frozen? ⟨w.heap.size + 1 + 1, i, none⟩ = false := fun i => (hba.frozen hBlt).trans (Hqf.out i)
        have hBa : w.heap.size + 1 + 1 < wa.heap.size := Nat.lt_of_lt_of_le hBlt hba.size
        have Hno : Hid (some (w.heap.size + 1 + 1) ≠ (Value.slice z1 j z3).ownBlock) := fun e => by have := (owns_at H1.out _ e.symm).1; omega
        have hcall : Calls Try.prog 30 #[.slice vd s.length vc, .agg #[.bool ev, .int .i64 en, .slice ya (Fo.len ek) yc]] wa.drew fun e w' => ∃ (a1 : Option Addr) (a2 a3 : Nat), e = .returned (.agg #[.bool xv, .int .i64 xn, .slice a1 a2 a3]) ∧ SB (fun q => X q ∨ (wa.heap.size ≤ q ∧ q < w'.heap.size)) w' xk (.slice a1 a2 a3) ∧ Below wa.heap.size wa w' := by
          refine (HI.out ((ev, en), ek) (List.mem_of_getElem? Hy.out) X s _ W0 _ wa.drew HX.out ?_ HV.out Hs.out HSy.out Hoke.out Hnare.out).mono ?_
          · exact (hB0.trans (hba.mono hB0.size)).trans (Below.refl _ _).drew
          · rintro e w' ⟨a1, a2, a3, rfl, hk, hb⟩
            rw [← Hz.out] at hk ⊢
            exact ⟨a1, a2, a3, rfl, hk, (Below.refl _ _).drew.trans hb⟩
        have Hcall := hide hcall
        have Hba := hide hba
        clear hcall hwa c0' c1' c2' hba q2 qf
        go_region_law (first
          | (refine step_append_lies _ (by rfl) _ _ _ (by rfl) (w.heap.size + 1 + 1 + 1) 33 i26 (.agg #[.bool false, .int .i64 0, .slice none 0 0]) 3 40 Try.underlying31 hi26 hz0 hz1 hz2 rfl (by decide) (.slice z1 j z3) j xs (by rfl) Hown3.out ⟨w3.heap.size, 0, none⟩ 1 1 [.bool xv, .int .i64 xn, .slice a1 a2 a3] (by rfl) (by rfl) Hnews.out (by simp [Value.oneCell']) (by decide) hn1 hn2 (by simp; omega) (w3.heap.size + 1) (by simp) ?_; intro g cap w4 ho4 hg4 hat4 hlt4; have x2 := out_cell hg4 hB3 Hno.out g3; have xf := out_frozen hg4 hB3 Hno.out gf3)
          | (go_simp; go_at_call 30; refine Hcall.out.mono ?_; rintro e w3 ⟨a1, a2, a3, rfl, hk3, hb3⟩
             have hs3 := hb3.size; have g3 := grow_cell hb3 _ _ f2; have gf3 : ∀ i, w3.frozen? ⟨w.heap.size + 1 + 1, i, none⟩ = false := (fun i => (hb3.frozen hBa).trans (ff i)); have hB3 : w.heap.size + 1 + 1 < w3.heap.size := Nat.lt_of_lt_of_le hBa hs3
             have Hown3 : Hid ((w3.alloc (.cells #[.bool xv, .int .i64 xn, .slice a1 a2 a3] 33)).ownsRow (w.heap.size + 1 + 1 + 1) 33 3 (.slice z1 j z3) j xs) := (owns_keep H1.out (fun g hg => by have h := owns_at H1.out g hg; have hsz := Hba.out.size; rw [Below.heap_alloc _ _ _ (by omega), hb3.block g (by omega), Hba.out.block g h.2]))
             have Hnews : Hid (∀ j u, [Value.bool xv, .int .i64 xn, .slice a1 a2 a3][j]? = some u → (w3.alloc (.cells #[.bool xv, .int .i64 xn, .slice a1 a2 a3] 33)).cell? ((⟨w3.heap.size, 0, none⟩ : Addr).add j) = some u) := (World.news_of_block (cs := #[.bool xv, .int .i64 xn, .slice a1 a2 a3]) (heap_alloc_new w3 _))))
        all_goals
          have Hst := hide (app_next (B := w.heap.size + 1 + 1) (W2 := W2) (X := X) (T := subF (bnd s) k) (xn := n) (z := (xv, xn)) (r := xk) (a := .slice a1 a2 a3) HTok.out H1.out H2.out (fun q hq => by have := HX.out q hq; omega) q0 q1 (by have hc := HR.out; obtain ⟨_, _, _, _, _, _, q2, _, _⟩ := hc; exact (Hba.out.cell (p := ⟨w.heap.size + 1 + 1, 2, none⟩) hBlt).symm.trans f2) Hqf.out HB.out (below_step Hba.out hb3) (hk3.wide (fun q hq => by rcases hq with h | h; exact .inl h; exact .inr ⟨by have := Hba.out.size; omega, h.2⟩)) (by rw [Hy2.out, ← Hz.out]) rfl ho4 hg4 hat4 hlt4)
          clear hk3 hb3 ho4 hg4 hat4 hlt4 x2 xf g3 gf3 Hown3 Hnews hi26 hz0 hz1 hz2
          go_wp2_with fail
          go_roundw
          case rel => exact ⟨j + 1, by omega, by go_num, Hst.out⟩
          case measure => simp [intOf]; omega
      · have hje : j = Fo.len k := by omega
        have hRe : AppRel (w.heap.size + 1 + 1) W2 X (subF (bnd s) k) n (Fo.len (subF (bnd s) k)) wr := by rw [Hl2.out, ← hje]; exact HR.out
        obtain ⟨y1, y3, hc2, hSB⟩ := app_end hRe
        have HSB := hide hSB
        obtain ⟨p0, p1, p2, pf⟩ := HQ.out
        have s0 : wr.cell? ⟨w.heap.size + 1, 0, none⟩ = some (.bool false) := (HB.out.cell (by show w.heap.size + 1 < _; omega)).trans p0
        have s1 : wr.cell? ⟨w.heap.size + 1, 1, none⟩ = some (.int .i64 0) := (HB.out.cell (by show w.heap.size + 1 < _; omega)).trans p1
        have s2 : wr.cell? ⟨w.heap.size + 1, 2, none⟩ = some (.slice none 0 0) := (HB.out.cell (by show w.heap.size + 1 < _; omega)).trans p2
        have sf : ∀ i, wr.frozen? ⟨w.heap.size + 1, i, none⟩ = false := fun i => (HB.out.frozen (by show w.heap.size + 1 < _; omega)).trans (pf i)
        clear q2 hSB p0 p1 p2 pf hRe
        go_wp2_with fail
        refine bodyPost_ret (v := .agg #[.bool false, .int .i64 n, .slice y1 (Fo.len (subF (bnd s) k)) y3]) (by simp [results, Try.results30, go_sem, s0, s1, s2]) rfl ⟨y1, Fo.len (subF (bnd s) k), y3, by rw [Hres.out], ?_, set3_below (o := 0) hBw (by omega)⟩
        rw [Hres.out]
        refine (HSB.out.set3 (b := w.heap.size + 1) (o := 0) ?_).wide (fun q hq => ?_)
        · intro h
          rcases h with h | h
          · have := HX.out _ h; omega
          · omega
        · rcases hq with h | h
          · exact .inl h
          · exact .inr ⟨by omega, by rw [World.size_setCell, World.size_setCell, World.size_setCell]; exact h.2⟩
  · have Hres : Hid (subT (bnd s) ((true, n), k) = bnd s n) := rfl
    have hk0 : k = .nil := Hok.out.1 rfl
    subst hk0
    clear had
    go_enter Try.func30, Try.ntmps30
    go_wp2_with fail
    generalize hW2 : (w.alloc (.cells #[.bool true, .int .i64 n, .slice ad (Fo.len .nil) ac] 33)).alloc (.cells #[.bool false, .int .i64 0, .slice none 0 0] 33) = W2
    have hs2 : W2.heap.size = w.heap.size + 1 + 1 := by rw [← hW2]; simp
    have hB2 : Below w.heap.size w W2 := by rw [← hW2]; exact (below_alloc _ _).alloc (by simp) _
    have p0 : W2.cell? ⟨w.heap.size, 0, none⟩ = some (.bool true) := by rw [← hW2, World.cell?_alloc_lt _ _ _ (by simp)]; exact new_cell rfl
    have p1 : W2.cell? ⟨w.heap.size, 1, none⟩ = some (.int .i64 n) := by rw [← hW2, World.cell?_alloc_lt _ _ _ (by simp)]; exact new_cell rfl
    have p2 : W2.cell? ⟨w.heap.size, 2, none⟩ = some (.slice ad (Fo.len .nil) ac) := by rw [← hW2, World.cell?_alloc_lt _ _ _ (by simp)]; exact new_cell rfl
    have r0 : W2.cell? ⟨w.heap.size + 1, 0, none⟩ = some (.bool false) := by rw [← hW2]; exact new_cell (World.size_alloc _ _)
    have r1 : W2.cell? ⟨w.heap.size + 1, 1, none⟩ = some (.int .i64 0) := by rw [← hW2]; exact new_cell (World.size_alloc _ _)
    have r2 : W2.cell? ⟨w.heap.size + 1, 2, none⟩ = some (.slice none 0 0) := by rw [← hW2]; exact new_cell (World.size_alloc _ _)
    have rf : ∀ i, W2.frozen? ⟨w.heap.size + 1, i, none⟩ = false := fun i => by rw [← hW2]; exact new_frozen (World.size_alloc _ _)
    have HQ := hide (And.intro p0 (And.intro p1 (And.intro p2 (And.intro r0 (And.intro r1 (And.intro r2 rf))))))
    have HB2 := hide hB2
    have Hs2 := hide hs2
    clear p0 p1 p2 r0 r1 r2 rf hB2 hs2 hW2
    go_loopw [14] (fun i wr => ∃ j : Nat, j ≤ s.length ∧ i = .int .i64 j ∧ (∀ q p, q < j → s[q]? = some p → p.1 ≠ n) ∧ Below W2.heap.size W2 wr) (fun i _ => s.length - (intOf i).toNat)
    case atStart => exact ⟨0, Nat.zero_le _, rfl, fun q _ hq => by omega, Below.refl _ _⟩
    case round =>
      obtain ⟨j, hj, rfl, hno, hB⟩ := hrel
      have Hno := hide hno
      have hs2 := Hs2.out
      have hBw : Below w.heap.size w wr := HB2.out.trans (hB.mono (by omega))
      have hB0 : Below W0.heap.size W0 wr := HW.out.trans (hBw.mono hW0)
      have hsz := hB.size
      obtain ⟨q0, q1, q2, q3, q4, q5, qf⟩ := HQ.out
      have p0 := grow_cell hB _ _ q0
      have p1 := grow_cell hB _ _ q1
      have p2 := grow_cell hB _ _ q2
      have s0 := grow_cell hB _ _ q3
      have s1 := grow_cell hB _ _ q4
      have s2 := grow_cell hB _ _ q5
      have sf : ∀ i, wr.frozen? ⟨w.heap.size + 1, i, none⟩ = false := fun i => (hB.frozen (by show w.heap.size + 1 < _; omega)).trans (qf i)
      clear hno q0 q1 q2 q3 q4 q5 qf
      by_cases hlt : j < s.length
      · have hlt' : (j : Int) < (s.length : Int) := by omega
        obtain ⟨⟨m, ⟨tv, tn⟩, tk⟩, hy⟩ : ∃ y, s[j]? = some y := ⟨s[j], by simp [hlt]⟩
        obtain ⟨c0, c1, c2, tv', c3, hSy⟩ := HP.out.at hy
        have c0' := grow_cell hB0 _ _ c0
        have c1' := grow_cell hB0 _ _ c1
        have c2' := grow_cell hB0 _ _ c2
        have c3' := grow_cell hB0 _ _ c3
        have HSy := hide hSy
        obtain ⟨ya, yc, yb, yo, rfl, -, -, -, -⟩ := hSy.toS
        have ha : vd = some ⟨vb, vo, none⟩ := hvd (by omega)
        subst ha
        have Hy := hide hy
        have hx0 : w.heap.size < wr.heap.size := by omega
        have hx1 : w.heap.size + 1 < wr.heap.size := by omega
        clear hy hvd c0 c1 c2 c3
        by_cases hmn : m = n
        · have hmb : (m == n) = true := by simp [hmn]
          have Hl : Hid (bnd s n = ((tv, tn), tk)) := bnd_some (look_first Hno.out (by rw [Hy.out, hmn]))
          clear hmn
          obtain ⟨g0, g1, g2⟩ := set3_cells (w := wr) (b := w.heap.size + 1) (o := 0) (x := .bool tv) (y := .int .i64 tn) (z := .slice ya (Fo.len tk) yc) s0 s1 s2
          have k0 : ((((wr.setCell ⟨w.heap.size + 1, 0, none⟩ (.bool tv)).setCell ⟨w.heap.size + 1, 1, none⟩ (.int .i64 tn)).setCell ⟨w.heap.size + 1, 2, none⟩ (.slice ya (Fo.len tk) yc)).alloc (.cells #[.int .i64 m, .bool tv, .int .i64 tn, .slice ya (Fo.len tk) yc] 73)).cell? ⟨w.heap.size + 1, 0, none⟩ = some (.bool tv) := by
            rw [World.cell?_alloc_lt _ _ _ (by simpa using hx1)]; exact g0
          have k1 : ((((wr.setCell ⟨w.heap.size + 1, 0, none⟩ (.bool tv)).setCell ⟨w.heap.size + 1, 1, none⟩ (.int .i64 tn)).setCell ⟨w.heap.size + 1, 2, none⟩ (.slice ya (Fo.len tk) yc)).alloc (.cells #[.int .i64 m, .bool tv, .int .i64 tn, .slice ya (Fo.len tk) yc] 73)).cell? ⟨w.heap.size + 1, 1, none⟩ = some (.int .i64 tn) := by
            rw [World.cell?_alloc_lt _ _ _ (by simpa using hx1)]; exact g1
          have k2 : ((((wr.setCell ⟨w.heap.size + 1, 0, none⟩ (.bool tv)).setCell ⟨w.heap.size + 1, 1, none⟩ (.int .i64 tn)).setCell ⟨w.heap.size + 1, 2, none⟩ (.slice ya (Fo.len tk) yc)).alloc (.cells #[.int .i64 m, .bool tv, .int .i64 tn, .slice ya (Fo.len tk) yc] 73)).cell? ⟨w.heap.size + 1, 2, none⟩ = some (.slice ya (Fo.len tk) yc) := by
            rw [World.cell?_alloc_lt _ _ _ (by simpa using hx1)]; exact g2
          have hBe : Below w.heap.size w ((((wr.setCell ⟨w.heap.size + 1, 0, none⟩ (.bool tv)).setCell ⟨w.heap.size + 1, 1, none⟩ (.int .i64 tn)).setCell ⟨w.heap.size + 1, 2, none⟩ (.slice ya (Fo.len tk) yc)).alloc (.cells #[.int .i64 m, .bool tv, .int .i64 tn, .slice ya (Fo.len tk) yc] 73)) :=
            (set3_below (b := w.heap.size + 1) (o := 0) hBw (by omega)).alloc (by rw [set3_size]; omega) _
          have Hend := hide (And.intro k0 (And.intro k1 (And.intro k2 hBe)))
          clear k0 k1 k2 hBe g0 g1 g2
          go_wp2_with fail
          obtain ⟨k0, k1, k2, hBe⟩ := Hend.out
          refine bodyPost_ret (v := .agg #[.bool tv, .int .i64 tn, .slice ya (Fo.len tk) yc]) (by simp [results, Try.results30, go_sem, k0, k1, k2]) rfl ⟨ya, Fo.len tk, yc, by rw [Hres.out, Hl.out], ?_, hBe⟩
          rw [Hres.out, Hl.out]
          exact (HSy.out.keepB HX.out (HW.out.trans (hBe.mono hW0))).wide (fun q hq => .inl hq)
        · have hmb : (m == n) = false := by simp [hmn]
          have Hno2 : Hid (∀ q p, q < j + 1 → s[q]? = some p → p.1 ≠ n) := fun q p hq hp => by
            by_cases e : q = j
            · subst e; rw [Hy.out] at hp; cases hp; exact hmn
            · exact Hno.out q p (by omega) hp
          clear hmn
          go_wp2_with fail
          go_roundw
          case rel => exact ⟨j + 1, by omega, by go_num, Hno2.out, hB.alloc hsz _⟩
          case measure => simp [intOf]; omega
      · have Hl : Hid (bnd s n = vr n) := bnd_none (look_all (fun q p hq hp => Hno.out q p (by omega) hp))
        clear hvd
        go_wp2_with fail
        refine bodyPost_ret (v := .agg #[.bool true, .int .i64 n, .slice ad (Fo.len .nil) ac]) (by simp [results, Try.results30, go_sem, s0, s1, s2]) rfl ⟨ad, Fo.len .nil, ac, by rw [Hres.out, Hl.out]; rfl, ?_, set3_below (o := 0) hBw (by omega)⟩
        rw [Hres.out, Hl.out]
        exact ⟨ad, ac, b, o, rfl, fun h => by simp [vr, Fo.len] at h, Nat.zero_le _, by unfold maxLen; exact hcm, trivial⟩
end Go.Proofs.Ytlgnpiphaeoeiad

namespace Go.Proofs.Ytlgnpiphaeoeiad
open Go.RowKit Go.Deep Go.ChangeShapes Go.WideShapes
theorem bin_norm {X : Nat → Prop} {w : World} : ∀ {F : Fo} {b o : Nat}, BIn X w F b o → BIn X w (Fo.norm F) b o
  | .nil, _, _, _ => trivial
  | .node _ _ _ k r, _, _, ⟨h0, h1, ⟨a, c, b', o', h2, h3, h4, h5, h6⟩, h7⟩ => by
    refine ⟨h0, h1, ⟨a, c, b', o', ?_, ?_, ?_, h5, bin_norm h6⟩, bin_norm h7⟩
    · rw [norm_len]; exact h2
    · rw [norm_len]; exact h3
    · rw [norm_len]; exact h4
theorem sb_norm {X : Nat → Prop} {w : World} {k : Fo} {a : Value} (h : SB X w k a) : SB X w (Fo.norm k) a := by
  obtain ⟨a, c, b, o, rfl, h3, h4, h5, h6⟩ := h
  exact ⟨a, c, b, o, by rw [norm_len], by rw [norm_len]; exact h3, by rw [norm_len]; exact h4, h5, bin_norm h6⟩
theorem put_placeB {X : Nat → Prop} {p : List Int} {pv : Value} {x : Bool × Int} {k : Fo} {z : Tm} {a : Value} {y : Bool × Int} {l : Fo} {c : Value} {w : World} (h : atT p x k = some z) (hg : Gd (x, k)) (hu : Gd (y, l)) (hX : ∀ q, X q → q < w.heap.size) (hS : SB X w k a) (hU : SB X w l c) (hN : NIn w p pv) :
    Calls Try.prog 32 #[.agg #[.bool x.1, .int .i64 x.2, a], pv, .agg #[.bool y.1, .int .i64 y.2, c]] w fun e w' => ∃ (a1 : Option Addr) (a3 : Nat), e = .returned (.agg #[.bool (putT p (x, k) (y, l)).1.1, .int .i64 (putT p (x, k) (y, l)).1.2, .slice a1 (Fo.len (putT p (x, k) (y, l)).2) a3]) ∧
      SB (fun q => X q ∨ (w.heap.size ≤ q ∧ q < w'.heap.size)) w' (putT p (x, k) (y, l)).2 (.slice a1 (Fo.len (putT p (x, k) (y, l)).2) a3) ∧ Below w.heap.size w w' := by
  have hok := (gd_put hu hg h).1.ok
  refine (putR_any p X x k a pv y l c w hX hS hU hN hg.nar.1 hg.nar.2).mono ?_
  rintro e w' ⟨z', r, a1, a2, a3, rfl, h1, h2, h3, hb⟩
  rw [putR_of h] at h2 h3
  rw [ok_norm hok.2] at h3
  subst h2
  have h4 := sb_norm h1
  rw [h3] at h4
  have h5 := h4
  obtain ⟨q1, q3, _, _, e2, -, -, -, -⟩ := h5
  simp only [Value.slice.injEq] at e2
  obtain ⟨rfl, rfl, rfl⟩ := e2
  exact ⟨_, _, rfl, h4, hb⟩
end Go.Proofs.Ytlgnpiphaeoeiad

namespace Go.Proofs.Ytlgnpiphaeoeiad
open Go.RowKit Go.Deep Go.ChangeShapes Go.WideShapes
attribute [local go_sem ↓] Go.wp_at_zero Go.wp_at_succ
def unitP : Cl → Bool
  | [l] => !l.1
  | _ => false
theorem unitP_len {c : Cl} (h : c.length ≠ 1) : unitP c = false := by
  match c with
  | [] => rfl
  | [_] => simp at h
  | _ :: _ :: _ => rfl
set_option maxRecDepth 100000 in
set_option maxHeartbeats 1000000 in
theorem unitR_any (c : Cl) (v : Value) (w : World) (h : CIn w c v) :
    Calls Try.prog 6 #[v] w fun e w' => e = .returned (.bool (unitP c)) ∧ w' = w := by
  obtain ⟨a1, c1, b1, o1, rfl, had, hlc, hcm, hF⟩ := h
  unfold maxLen at hcm
  by_cases h1 : c.length = 1
  · obtain ⟨l, rfl⟩ := List.length_eq_one_iff.1 h1
    have ha1 : a1 = some ⟨b1, o1, none⟩ := had (by simp)
    subst ha1
    obtain ⟨p0, -, -, -, -, -, -, -, -⟩ := hF.at (i := 0) (l := l) rfl
    simp only [Nat.zero_mul, Nat.add_zero] at p0
    obtain ⟨ln, lx, ly⟩ := l
    simp only [List.length_singleton] at *
    clear hF had h1
    go_enter Try.func6, Try.ntmps6
    go_wp2_with fail
    go_ret
    exact ⟨rfl, rfl⟩
  · have hb : ((c.length : Int) == 1) = false := by simp; omega
    have Hu := hide (unitP_len h1)
    clear had hF h1
    go_enter Try.func6, Try.ntmps6
    go_wp2_with fail
    go_ret
    exact ⟨by rw [Hu.out]; rfl, rfl⟩
def wayK (z : Tm) (u : Lt) (k : Nat) : Option Tm := if k = 0 then tryU z u else if k = 1 then tryW z (turnL true u) else none
def putO (t : Tm) (p : List Int) : Option Tm → Option Tm → Option Tm
  | some r, _ => some (putT p t r)
  | none, o => o
theorem tryP_at {us : List Lt} {t z : Tm} {Z : List (List Int)} {j : Nat} {p : List Int} (hp : Z[j]? = some p) (hz : atT p t.1 t.2 = some z) : tryP us t (Z.drop j) = putO t p (tryUs z us) (tryP us t (Z.drop (j + 1))) := by
  obtain ⟨hj, e⟩ := List.getElem?_eq_some_iff.1 hp
  rw [List.drop_eq_getElem_cons hj, e]
  conv => lhs; unfold tryP
  rw [hz]
  simp only
  cases tryUs z us <;> rfl
theorem tryP_last {us : List Lt} {t : Tm} {Z : List (List Int)} {j : Nat} (h : Z.length ≤ j) : tryP us t (Z.drop j) = none := by
  rw [List.drop_eq_nil_iff.2 h]; rfl
theorem tryUs_at {us : List Lt} {t z : Tm} {p : List Int} {o : Option Tm} {i : Nat} {u : Lt} (hu : us[i]? = some u) : putO t p (tryUs z (us.drop i)) o = putO t p (wayK z u 0) (putO t p (tryUs z (us.drop (i + 1))) o) := by
  obtain ⟨hi, e⟩ := List.getElem?_eq_some_iff.1 hu
  rw [List.drop_eq_getElem_cons hi, e]
  conv => lhs; unfold tryUs
  unfold wayK
  rw [if_pos rfl]
  cases tryU z u <;> rfl
theorem tryUs_last {us : List Lt} {z : Tm} {i : Nat} (h : us.length ≤ i) : tryUs z (us.drop i) = none := by
  rw [List.drop_eq_nil_iff.2 h]; rfl
theorem wayK_no {z : Tm} {u : Lt} {k : Nat} (hk : k < 2) (h : tryW z (turnL (decide (k = 1)) u) = none) : wayK z u k = wayK z u (k + 1) := by
  rcases (by omega : k = 0 ∨ k = 1) with rfl | rfl
  · have h' : tryW z u = none := h
    simp [wayK, tryU, h']
  · have h' : tryW z (turnL true u) = none := h
    simp [wayK, h']
theorem wayK_yes {z r : Tm} {u : Lt} {k : Nat} (hk : k < 2) (h : tryW z (turnL (decide (k = 1)) u) = some r) : wayK z u k = some r := by
  rcases (by omega : k = 0 ∨ k = 1) with rfl | rfl
  · have h' : tryW z u = some r := h
    simp [wayK, tryU, h']
  · have h' : tryW z (turnL true u) = some r := h
    simp [wayK, h']
theorem wayK_last {z : Tm} {u : Lt} : wayK z u 2 = none := rfl
def XR (X : Nat → Prop) (lo rb : Nat) (W : World) (q : Nat) : Prop := (X q ∨ lo ≤ q) ∧ q ≠ rb ∧ q < W.heap.size
theorem XR.grow {X : Nat → Prop} {lo rb : Nat} {W W' : World} (hb : Below W.heap.size W W') {q : Nat} (h : XR X lo rb W q) : XR X lo rb W' q := ⟨h.1, h.2.1, Nat.lt_of_lt_of_le h.2.2 hb.size⟩
theorem XR.lt {X : Nat → Prop} {lo rb : Nat} {W : World} (q : Nat) (h : XR X lo rb W q) : q < W.heap.size := h.2.2
theorem SB.xr {X : Nat → Prop} {lo rb : Nat} {W W' : World} (hb : Below W.heap.size W W') {k : Fo} {v : Value} (h : SB (XR X lo rb W) W k v) : SB (XR X lo rb W') W' k v :=
  (h.keepB (fun _ h => h.2.2) hb).wide fun _ h => h.grow hb
theorem at_placeX {X : Nat → Prop} {p : List Int} {pv : Value} {x : Bool × Int} {k : Fo} {z : Tm} {a : Value} {w : World} (hX : ∀ q, X q → q < w.heap.size) (h : atT p x k = some z) (hS : SB X w k a) (hN : NIn w p pv) :
    Calls Try.prog 28 #[.agg #[.bool x.1, .int .i64 x.2, a], pv] w fun e w' => ∃ (a1 : Option Addr) (a3 : Nat), e = .returned (.tuple #[.agg #[.bool z.1.1, .int .i64 z.1.2, .slice a1 (Fo.len z.2) a3], .bool true]) ∧ SB X w' z.2 (.slice a1 (Fo.len z.2) a3) ∧ Below w.heap.size w w' := by
  refine (atR_any p X x k a pv w hX hS hN).mono ?_
  rintro e w' ⟨b, y, l, a1, a2, a3, rfl, h1, h2, h3, hb⟩
  rw [atR_of h] at h2
  cases b with
  | false => cases h2
  | true =>
    simp only [if_true, Option.some.injEq] at h2
    subst h2
    have h4 := h1.toS
    obtain ⟨q1, q3, _, _, e2, -, -, -, -⟩ := h4
    simp only [Value.slice.injEq] at e2
    obtain ⟨rfl, rfl, rfl⟩ := e2
    exact ⟨_, _, rfl, h1.keepB hX hb, hb⟩
theorem bs_small {t z : Tm} {bs : Sb} (hz : Gd z ∧ szT z ≤ 12) (h : extT [] t z = some bs) : ∀ p ∈ bs, Gd p.2 ∧ szT p.2 ≤ 12 := by
  refine extT_all (P := fun t => Gd t ∧ szT t ≤ 12) (fun t ht y hy => ?_) hz (fun p hp => by cases hp) h
  obtain ⟨⟨v, n⟩, k⟩ := t
  cases v with
  | true => rw [ht.1.ok.1 rfl] at hy; simp [Fo.list] at hy
  | false =>
    obtain ⟨i, hi⟩ := List.mem_iff_getElem?.1 hy
    have h3 := szF_mem hi
    have h4 := ht.2
    refine ⟨gd_mem ht.1 rfl hy, ?_⟩
    simp only [szT, tszR] at h3 h4 ⊢
    omega
theorem sub_small {t : Tm} {bs : Sb} (h : ∀ p ∈ bs, Gd p.2 ∧ szT p.2 ≤ 12) (ht : Gd t) (hs : szT t ≤ 12) : Gd (subT (bnd bs) t) ∧ tszR (subT (bnd bs) t).2 ≤ 4000000000000 := by
  refine ⟨gd_sub (fun p hp => (h p hp).1) ht, ?_⟩
  have h1 := sub_le (f := bnd bs) (M := 12) (by omega) ht.ok (fun m _ => by
    cases e : look bs m with
    | none => rw [bnd_none e]; simp [szT, vr, tszR, Fo.sizesR]
    | some u => rw [bnd_some e]; exact (h _ (look_mem e)).2)
  have h2 := Nat.mul_le_mul_right 12 hs
  simp only [szT] at h1 h2
  omega
theorem kk_is {n : Nat} : ((n : Int) == 1) = decide (n = 1) := by
  rw [Bool.eq_iff_iff]
  simp
  omega
def DownSaid (s : List Int) (us : List Lt) (n : Nat) : Prop := ∀ (X : Nat → Prop) (x : Bool × Int) (k : Fo) (a uv : Value) (w : World), (∀ q, X q → q < w.heap.size) → msr (x, k) = n → Sm s (x, k) → SB X w k a → CsIn w (us.map fun u => [u]) uv →
    Calls Try.prog 12 #[.agg #[.bool x.1, .int .i64 x.2, a], uv] w fun e w' => ∃ (a1 : Option Addr) (a3 : Nat), e = .returned (.agg #[.bool (downT us (x, k)).1.1, .int .i64 (downT us (x, k)).1.2, .slice a1 (Fo.len (downT us (x, k)).2) a3]) ∧ SB (fun q => X q ∨ (w.heap.size ≤ q ∧ q < w'.heap.size)) w' (downT us (x, k)).2 (.slice a1 (Fo.len (downT us (x, k)).2) a3) ∧ Below w.heap.size w w'
set_option maxRecDepth 100000 in
set_option maxHeartbeats 4000000 in
theorem downR_all {s : List Int} (h6 : s.length ≤ 6) {us : List Lt} (hus : Uns s us) (h8 : us.length ≤ 8) : ∀ n, DownSaid s us n := by
  intro n
  induction n using Nat.strongRecOn with
  | _ n ih =>
    intro X x k a uv w hX hn ht hS hC
    have HI := hide ih
    have HX := hide hX
    have HN := hide hn
    have HT := hide ht
    have HU := hide hus
    have HS0 := hide hS
    have HC := hide hC
    obtain ⟨xv, xi⟩ := x
    obtain ⟨ua, uc, ub, uo, rfl, huad, hulc, hucm, hUF⟩ := hC
    have HUF := hide hUF
    obtain ⟨ta, tc, _, _, rfl, -, -, -, -⟩ := hS
    unfold maxLen at hucm
    rw [List.length_map] at *
    clear hUF ih hn ht hus hX
    go_enter Try.func12, Try.ntmps12
    go_upto_region 1 with fail
    generalize hW1 : (w.alloc (.cells #[.bool xv, .int .i64 xi, .slice ta (Fo.len k) tc] 33)).alloc (.cells #[.bool false, .int .i64 0, .slice none 0 0] 33) = W1
    have hB1 : Below w.heap.size w W1 := by rw [← hW1]; exact (below_alloc _ _).alloc (by simp) _
    have hs1 : W1.heap.size = w.heap.size + 1 + 1 := by rw [← hW1]; simp
    have g0 : W1.cell? ⟨w.heap.size, 0, none⟩ = some (.bool xv) := by rw [← hW1, World.cell?_alloc_lt _ _ _ (by simp)]; exact new_cell rfl
    have g1 : W1.cell? ⟨w.heap.size, 1, none⟩ = some (.int .i64 xi) := by rw [← hW1, World.cell?_alloc_lt _ _ _ (by simp)]; exact new_cell rfl
    have g2 : W1.cell? ⟨w.heap.size, 2, none⟩ = some (.slice ta (Fo.len k) tc) := by rw [← hW1, World.cell?_alloc_lt _ _ _ (by simp)]; exact new_cell rfl
    have r0 : W1.cell? ⟨w.heap.size + 1, 0, none⟩ = some (.bool false) := by rw [← hW1]; exact new_cell (World.size_alloc _ _)
    have r1 : W1.cell? ⟨w.heap.size + 1, 1, none⟩ = some (.int .i64 0) := by rw [← hW1]; exact new_cell (World.size_alloc _ _)
    have r2 : W1.cell? ⟨w.heap.size + 1, 2, none⟩ = some (.slice none 0 0) := by rw [← hW1]; exact new_cell (World.size_alloc _ _)
    have rf : ∀ i, W1.frozen? ⟨w.heap.size + 1, i, none⟩ = false := fun i => by rw [← hW1]; exact new_frozen (World.size_alloc _ _)
    have HQ := hide (And.intro g0 (And.intro g1 (And.intro g2 (And.intro r0 (And.intro r1 (And.intro r2 rf))))))
    have HS1 : Hid (SB (XR X w.heap.size (w.heap.size + 1) W1) W1 k (.slice ta (Fo.len k) tc)) :=
      (HS0.out.keepB HX.out hB1).wide fun q hq => ⟨.inl hq, by have := HX.out q hq; omega, by have := HX.out q hq; omega⟩
    clear hW1 r0 r1 r2 rf
    obtain ⟨Z, hZ⟩ : ∃ Z, Z = placesT (xv, xi) k [] := ⟨_, rfl⟩
    have Hpc := hide (places_call (w := W1) hZ HS1.out.toS HT.out.lw.sz)
    have HZ := hide hZ
    have HB1 := hide hB1
    have Hs1 := hide hs1
    clear hZ hB1 hs1
    go_wp2_with fail
    refine Hpc.out.mono ?_
    rintro e wP ⟨z1, z3, rfl, hP, hbP⟩
    have HP := hide hP
    have HbP := hide hbP
    clear hP hbP Hpc g0 g1 g2
    go_wp2_with fail
    go_loopw [19] (fun q wr => ∃ j : Nat, j ≤ Z.length ∧ q = .int .i64 j ∧ stepD us ((xv, xi), k) = tryP us ((xv, xi), k) (Z.drop j) ∧ Below wP.heap.size wP wr) (fun q _ => Z.length - (intOf q).toNat)
    case atStart => exact ⟨0, Nat.zero_le _, rfl, by rw [List.drop_zero, HZ.out]; rfl, Below.refl _ _⟩
    case round =>
      obtain ⟨j, hj, rfl, hst, hBr⟩ := hrel
      have Hst := hide hst
      clear hst
      have hB1r := below_step HbP.out hBr
      obtain ⟨g0, g1, g2, r0, r1, r2, rf⟩ := HQ.out
      have k0 := grow_cell hB1r _ _ g0
      have k1 := grow_cell hB1r _ _ g1
      have k2 := grow_cell hB1r _ _ g2
      have m0 := grow_cell hB1r _ _ r0
      have m1 := grow_cell hB1r _ _ r1
      have m2 := grow_cell hB1r _ _ r2
      have mf : ∀ i, wr.frozen? ⟨w.heap.size + 1, i, none⟩ = false := fun i => (hB1r.frozen (by have := Hs1.out; show w.heap.size + 1 < _; omega)).trans (rf i)
      have HBw := hide (below_step HB1.out hB1r)
      have HB1r := hide hB1r
      clear g0 g1 g2 r0 r1 r2 rf hB1r
      by_cases hjl : j < Z.length
      · have hjl' : (j : Int) < (Z.length : Int) := by omega
        obtain ⟨pl, hpl⟩ : ∃ q, Z[j]? = some q := ⟨Z[j]'hjl, by simp⟩
        obtain ⟨zat, hzat, hzv⟩ := place_sym (x := (xv, xi)) (k := k) (p := pl) (by rw [← HZ.out]; exact List.mem_of_getElem? hpl)
        have Hzat := hide hzat
        obtain ⟨z1', z3', gp, hpe, hpad, hplc, hpcm, hpF⟩ := HP.out
        simp only [Value.slice.injEq, true_and] at hpe
        obtain ⟨rfl, rfl⟩ := hpe
        obtain ⟨py, c0, hrow⟩ := hpF j pl hpl
        have hz1 : z1 = some ⟨gp, 0, none⟩ := (hpad (by omega)).1
        subst hz1
        have HNp := hide ((own_nin hrow).below hBr)
        obtain ⟨y1, y3, rfl⟩ := nin_slice HNp.out
        unfold maxLen at hpcm
        replace c0 := grow_cell hBr _ _ c0
        have HSr := hide (HS1.out.xr HB1r.out)
        have Hat := hide (tryP_at (us := us) (t := ((xv, xi), k)) hpl Hzat.out)
        have HZs : Hid (Sm s zat) := HT.out.at h6 Hzat.out
        obtain ⟨⟨zv, zi⟩, zk⟩ := zat
        have Hap := hide (at_placeX XR.lt Hzat.out HSr.out HNp.out)
        simp only at Hap
        have Ht := hide (And.intro k0 (And.intro k1 (And.intro k2 (And.intro m0 (And.intro m1 (And.intro m2 mf))))))
        clear hpl hzat hzv hpF hpad hrow m0 m1 m2 mf
        go_wp2_with fail
        refine Hap.out.mono ?_
        rintro e w5 ⟨b1, b3, rfl, hSz, hb5⟩
        clear k0 k1 k2
        go_upto_region 5 with fail
        generalize hwz : w5.alloc (.cells #[.bool zv, .int .i64 zi, .slice b1 (Fo.len zk) b3] 33) = wz
        have hbz : Below w5.heap.size w5 wz := by rw [← hwz]; exact below_alloc _ _
        have a0 : wz.cell? ⟨w5.heap.size, 0, none⟩ = some (.bool zv) := by rw [← hwz]; exact new_cell rfl
        have a1 : wz.cell? ⟨w5.heap.size, 1, none⟩ = some (.int .i64 zi) := by rw [← hwz]; exact new_cell rfl
        have a2 : wz.cell? ⟨w5.heap.size, 2, none⟩ = some (.slice b1 (Fo.len zk) b3) := by rw [← hwz]; exact new_cell rfl
        have HA := hide (And.intro a0 (And.intro a1 a2))
        have HSz : Hid (SB (XR X w.heap.size (w.heap.size + 1) wz) wz zk (.slice b1 (Fo.len zk) b3)) :=
          ((hSz.keepB (fun q hq => Nat.lt_of_lt_of_le hq.2.2 hb5.size) hbz).wide fun q hq => ⟨hq.1, hq.2.1, Nat.lt_of_lt_of_le hq.2.2 (Nat.le_trans hb5.size hbz.size)⟩)
        have Hbz := hide (below_step hb5 hbz)
        generalize w5.heap.size = ga at *
        clear hwz hbz hb5 hSz a0 a1 a2
        go_wp2_with fail
        generalize wr = wo at *
        go_loopw [31] (fun q wr => ∃ i : Nat, i ≤ us.length ∧ q = .int .i64 i ∧ stepD us ((xv, xi), k) = putO ((xv, xi), k) pl (tryUs ((zv, zi), zk) (us.drop i)) (tryP us ((xv, xi), k) (Z.drop (j + 1))) ∧ Below wz.heap.size wz wr) (fun q _ => us.length - (intOf q).toNat)
        case atStart => exact ⟨0, Nat.zero_le _, rfl, by rw [List.drop_zero, Hst.out, Hat.out], Below.refl _ _⟩
        case round =>
          obtain ⟨i, hi, rfl, hsi, hBi⟩ := hrel
          have Hsi := hide hsi
          clear hsi
          by_cases hil : i < us.length
          · have hil' : (i : Int) < (us.length : Int) := by omega
            obtain ⟨u, hu⟩ : ∃ u, us[i]? = some u := ⟨us[i]'hil, by simp⟩
            have Hui := hide (tryUs_at (z := ((zv, zi), zk)) (p := pl) (t := ((xv, xi), k)) (o := tryP us ((xv, xi), k) (Z.drop (j + 1))) hu)
            have Hum := hide (HU.out u (List.mem_of_getElem? hu))
            obtain ⟨cv, c0, hcv⟩ := HUF.out i [u] (by rw [List.getElem?_map, hu]; rfl)
            have hBc := below_step HBw.out (below_step Hbz.out hBi)
            replace c0 := grow_cell hBc _ _ c0
            obtain ⟨ca, cc, cb, co, rfl, had, hlc, hcm, hF⟩ := hcv
            have hca : ca = some ⟨cb, co, none⟩ := had (by simp)
            subst hca
            have HF := hide (hF.below hBc)
            have hua : ua = some ⟨ub, uo, none⟩ := huad (by omega)
            subst hua
            have HBc := hide hBc
            have Hbi := hide hBi
            simp only [List.length_singleton] at *
            unfold maxLen at hcm
            clear hu had hF huad hBc hBi
            go_wp2_with fail
            generalize wr = wu at *
            go_loopw [35] (fun q wr => ∃ kk : Nat, kk ≤ 2 ∧ q = .int .i64 kk ∧ stepD us ((xv, xi), k) = putO ((xv, xi), k) pl (wayK ((zv, zi), zk) u kk) (putO ((xv, xi), k) pl (tryUs ((zv, zi), zk) (us.drop (i + 1))) (tryP us ((xv, xi), k) (Z.drop (j + 1)))) ∧ Below wu.heap.size wu wr) (fun q _ => 2 - (intOf q).toNat)
            case atStart => exact ⟨0, by omega, rfl, by rw [Hsi.out, Hui.out], Below.refl _ _⟩
            case round =>
              obtain ⟨kk, hkk, rfl, hsk, hBk⟩ := hrel
              have Hsk := hide hsk
              clear hsk
              by_cases hkl : kk < 2
              · have hkl' : (kk : Int) < 2 := by omega
                obtain ⟨p0, p1, p2, ⟨u3, p3, hA⟩, p4, p5, u6, p6, hD⟩ := (HF.out.below hBk).at (i := 0) (l := u) rfl
                simp only [Nat.zero_mul, Nat.add_zero] at p0 p1 p2 p3 p4 p5 p6
                have hs1 : ((kk : Int) == 1) = decide (kk = 1) := kk_is
                obtain ⟨sa1, sa3, sd1, sd3, hSA, hSD, hSc⟩ := turn_call (l := u) (decide (kk = 1)) hA hD
                have HNo : Hid (tryW ((zv, zi), zk) (turnL (decide (kk = 1)) u) = none → stepD us ((xv, xi), k) = putO ((xv, xi), k) pl (wayK ((zv, zi), zk) u (kk + 1)) (putO ((xv, xi), k) pl (tryUs ((zv, zi), zk) (us.drop (i + 1))) (tryP us ((xv, xi), k) (Z.drop (j + 1))))) := fun h => by rw [← wayK_no hkl h]; exact Hsk.out
                have HYes : Hid (∀ r, tryW ((zv, zi), zk) (turnL (decide (kk = 1)) u) = some r → stepD us ((xv, xi), k) = some (putT pl ((xv, xi), k) r)) := fun r h => by rw [Hsk.out, wayK_yes hkl h]; rfl
                have HSm := hide (turn_sm (decide (kk = 1)) Hum.out)
                generalize decide (kk = 1) = sb at *
                generalize turnL sb u = ty at *
                obtain ⟨yn, ⟨⟨yv, yi⟩, yk⟩, ⟨⟨yv', yi'⟩, yk'⟩⟩ := u
                obtain ⟨sn, ⟨⟨sv, si⟩, sk⟩, ⟨⟨sv', si'⟩, sk'⟩⟩ := ty
                obtain ⟨ya, yc, _, _, rfl, -, -, -, -⟩ := hA
                obtain ⟨yd, ye, _, _, rfl, -, -, -, -⟩ := hD
                simp only at hSA hSD hSc HSm p0 p1 p2 p3 p4 p5 p6
                have HSA := hide hSA
                have HSD := hide hSD
                have HSc := hide hSc
                clear hSA hSD hSc
                go_wp2_with fail
                refine (HSc.out _).mono ?_
                rintro e w4 ⟨rfl, hb4⟩
                clear p0 p1 p2 p3 p4 p5 p6
                go_upto_region 12 with fail
                generalize hwa : w4.alloc (.cells #[.bool sn, .bool sv, .int .i64 si, .slice sa1 (Fo.len sk) sa3, .bool sv', .int .i64 si', .slice sd1 (Fo.len sk') sd3] 35) = wb
                obtain ⟨f0, f1, f2, f3, f4, f5, f6, -, hba, -⟩ := lit_cells (T := 35) (w := w4) (wr := wb) (x0 := .bool sn) (x1 := .bool sv) (x2 := .int .i64 si) (x3 := .slice sa1 (Fo.len sk) sa3) (x4 := .bool sv') (x5 := .int .i64 si') (x6 := .slice sd1 (Fo.len sk') sd3) (by rw [← hwa]; exact Below.refl _ _)
                clear hwa
                have hbb' := below_step hb4 hba
                replace HSA := hide (HSA.out.below hbb')
                replace HSD := hide (HSD.out.below hbb')
                generalize w4.heap.size = gb at *
                have hBzb := below_step Hbi.out (below_step hBk hbb')
                have HBzb := hide hBzb
                obtain ⟨a0, a1, a2⟩ := HA.out
                replace a0 := grow_cell hBzb _ _ a0
                replace a1 := grow_cell hBzb _ _ a1
                replace a2 := grow_cell hBzb _ _ a2
                have HSzb := hide (HSz.out.xr hBzb)
                have Hmo := hide (moreX_any (sv, si) sk (XR X w.heap.size (w.heap.size + 1) wb) [] (.slice none 0 0) (zv, zi) zk _ _ wb XR.lt (SubX.nil _ _) HSA.out HSzb.out (by have := HSm.out.1.lw.sz; simp only [szT] at this; simp only [List.length_nil]; omega))
                have HBkb := hide (below_step hBk hbb')
                clear hb4 hba hbb' hBk hBzb
                go_wp2_with fail
                refine Hmo.out.mono ?_
                rintro e wm ⟨hbm, n1, n3, bs, ok, rfl, hSub, hext, -⟩
                cases ok
                · have Hend := hide (HNo.out (by unfold tryW; simp only; rw [show extT [] ((sv, si), sk) ((zv, zi), zk) = none from hext]))
                  have hbe := below_step HBkb.out hbm
                  have HBe := hide hbe
                  clear hbe hext hSub a0 a1 a2 f0 f1 f2 f3 f4 f5 f6 hbm
                  go_upto_region 13 with fail
                  go_quiet (fail)
                  go_wp2_with fail
                  go_roundw
                  case rel => exact ⟨kk + 1, by omega, by go_num, Hend.out, HBe.out.trans ((below_drewN (Below.refl _ _) _).mono HBe.out.size)⟩
                  case measure => simp [intOf]; omega
                · have Hex : Hid (extT [] ((sv, si), sk) ((zv, zi), zk) = some bs) := hext
                  have HSub := hide hSub
                  replace f0 := grow_cell hbm _ _ f0
                  replace f1 := grow_cell hbm _ _ f1
                  replace f2 := grow_cell hbm _ _ f2
                  replace f3 := grow_cell hbm _ _ f3
                  replace f4 := grow_cell hbm _ _ f4
                  replace f5 := grow_cell hbm _ _ f5
                  replace f6 := grow_cell hbm _ _ f6
                  have HAm := hide (And.intro (grow_cell hbm _ _ a0) (And.intro (grow_cell hbm _ _ a1) (grow_cell hbm _ _ a2)))
                  replace HSA := hide (HSA.out.below hbm)
                  replace HSD := hide (HSD.out.below hbm)
                  have HSzm := hide (HSzb.out.xr hbm)
                  have HBm := hide (below_step HBkb.out hbm)
                  have Hbm := hide hbm
                  clear hext hSub hbm a0 a1 a2
                  obtain ⟨TL, hTL⟩ : ∃ T, T = varsT (sv, si) sk [] := ⟨_, rfl⟩
                  obtain ⟨TR, hTR⟩ : ∃ T, T = varsT (sv', si') sk' TL := ⟨_, rfl⟩
                  have Hnw : Hid (newV (sn, ((sv, si), sk), ((sv', si'), sk')) = decide (TL.length < TR.length)) := by
                    unfold Hid newV
                    simp only
                    rw [← hTL, ← hTR]
                  have hl1 := varsT_len (sv, si) sk []
                  have hl2 := varsT_len (sv', si') sk' TL
                  have hz1 := HSm.out.1.lw.sz
                  have hz2 := HSm.out.2.lw.sz
                  simp only [szT, List.length_nil] at hl1 hl2 hz1 hz2
                  rw [← hTL] at hl1
                  have HvL : Hid (∀ w', Below wm.heap.size wm w' → Calls Try.prog 29 #[.slice none 0 0, .agg #[.bool sv, .int .i64 si, .slice sa1 (Fo.len sk) sa3]] w' fun e w'' => ∃ v', e = .returned v' ∧ NIn w'' TL v' ∧ Below w'.heap.size w' w'') := fun w' hb =>
                    varsR_any (sv, si) sk _ [] _ w' TL hTL (HSA.out.below hb) ⟨none, 0, 0, 0, rfl, fun h => by simp at h, Nat.le_refl _, Nat.zero_le _, fun i hi => by simp at hi⟩ (by simp only [List.length_nil]; omega)
                  have HvR : Hid (∀ w' v, Below wm.heap.size wm w' → NIn w' TL v → Calls Try.prog 29 #[v, .agg #[.bool sv', .int .i64 si', .slice sd1 (Fo.len sk') sd3]] w' fun e w'' => ∃ v', e = .returned v' ∧ NIn w'' TR v' ∧ Below w'.heap.size w' w'') := fun w' v hb hN =>
                    varsR_any (sv', si') sk' _ TL v w' TR hTR (HSD.out.below hb) hN (by omega)
                  have hcur : Below wm.heap.size wm wm.drew := (Below.refl _ _).drew
                  clear hl1 hl2 hz1 hz2 hTL hTR
                  go_upto_region 13 with fail
                  go_cut [66] (fun s66 wx => s66 = .bool (newV (sn, ((sv, si), sk), ((sv', si'), sk'))) ∧ Below wm.heap.size wm wx)
                  case first =>
                    go_region_held3 (fun w' => w'.cell? ⟨gb, 1, none⟩ = some (.bool sv) ∧ w'.cell? ⟨gb, 2, none⟩ = some (.int .i64 si) ∧ w'.cell? ⟨gb, 3, none⟩ = some (.slice sa1 (Fo.len sk) sa3) ∧ w'.cell? ⟨gb, 4, none⟩ = some (.bool sv') ∧ w'.cell? ⟨gb, 5, none⟩ = some (.int .i64 si') ∧ w'.cell? ⟨gb, 6, none⟩ = some (.slice sd1 (Fo.len sk') sd3))
                      (first
                        | (with_reducible exact ⟨grow_cell hcur _ _ f1, grow_cell hcur _ _ f2, grow_cell hcur _ _ f3, grow_cell hcur _ _ f4, grow_cell hcur _ _ f5, grow_cell hcur _ _ f6⟩)
                        | go_keep)
                      (first
                        | (go_at_call 29; with_reducible refine (HvR.out _ _ hcur hNA).mono ?_; rintro e wC ⟨vC, rfl, hNC, hbC⟩; obtain ⟨yC, zC, rfl⟩ := nin_slice hNC; replace hcur := below_step hcur hbC)
                        | (go_at_call 29; with_reducible refine (HvR.out _ _ hcur hNB).mono ?_; rintro e wC ⟨vC, rfl, hNC, hbC⟩; obtain ⟨yC, zC, rfl⟩ := nin_slice hNC; replace hcur := below_step hcur hbC)
                        | (go_at_call 29; with_reducible refine (HvL.out _ hcur).mono ?_; have hNA' := hNA; rintro e wB ⟨vB, rfl, hNB, hbB⟩; obtain ⟨yB, zB, rfl⟩ := nin_slice hNB; clear hNA'; replace hNA := hNA.below hbB; replace hcur := below_step hcur hbB)
                        | (go_at_call 29; with_reducible refine (HvL.out _ hcur).mono ?_; rintro e wA ⟨vA, rfl, hNA, hbA⟩; obtain ⟨yA, zA, rfl⟩ := nin_slice hNA; replace hcur := below_step hcur hbA))
                    all_goals
                      go_wp2_with fail
                      go_meet
                      case rel => exact ⟨by rw [Hnw.out], hcur⟩
                  case rest =>
                    obtain ⟨rfl, hbx⟩ := hcut
                    generalize wc = wx at *
                    have HBx := hide (below_step HBm.out hbx)
                    cases hnv : newV (sn, ((sv, si), sk), ((sv', si'), sk'))
                    · have Htw : Hid (tryW ((zv, zi), zk) (sn, ((sv, si), sk), ((sv', si'), sk')) = if abvT ((zv, zi), zk) (subT (bnd bs) ((sv', si'), sk')) = true then some (subT (bnd bs) ((sv', si'), sk')) else none) := by
                        unfold Hid tryW
                        simp only
                        rw [Hex.out]
                        simp only
                        rw [if_neg (by rw [hnv]; simp)]
                      have Hbs : Hid (∀ p ∈ bs, Gd p.2 ∧ szT p.2 ≤ 12) := bs_small ⟨HZs.out.lw.gd, HZs.out.lw.sz⟩ Hex.out
                      have Hrg : Hid (Gd (subT (bnd bs) ((sv', si'), sk')) ∧ tszR (subT (bnd bs) ((sv', si'), sk')).2 ≤ 4000000000000) := sub_small Hbs.out HSm.out.2.lw.gd HSm.out.2.lw.sz
                      replace f4 := grow_cell hbx _ _ f4
                      replace f5 := grow_cell hbx _ _ f5
                      replace f6 := grow_cell hbx _ _ f6
                      have hXb : ∀ q, XR X w.heap.size (w.heap.size + 1) wb q → q < wx.heap.size := fun q hq => Nat.lt_of_lt_of_le hq.2.2 (Nat.le_trans Hbm.out.size hbx.size)
                      have Hax := hide (applyX_any (sv', si') sk' (XR X w.heap.size (w.heap.size + 1) wb) bs _ wx (.slice sd1 (Fo.len sk') sd3) wx hXb (Below.refl _ _) (HSub.out.below (fun q hq => Nat.lt_of_lt_of_le hq.2.2 Hbm.out.size) hbx) (fun p hp => (Hbs.out p hp).1.ok) (HSD.out.below hbx) HSm.out.2.lw.gd.ok HSm.out.2.lw.gd.nar)
                      have Hrs : Hid (∀ r, subT (bnd bs) ((sv', si'), sk') = r → abvT ((zv, zi), zk) r = true → Sm s r) := fun r hr hab => by
                        have h1 := tryW_ok h6 HZs.out HSm.out (r := r) (by rw [Htw.out, hr, if_pos hab])
                        exact h1.2.1
                      generalize subT (bnd bs) ((sv', si'), sk') = rt at Htw Hrg Hax Hrs
                      obtain ⟨⟨rv, ri⟩, rk⟩ := rt
                      simp only at Hax Hrg
                      have Hbx := hide hbx
                      clear hbx hXb f0 f1 f2 f3 hnv
                      go_wp2_with fail
                      refine Hax.out.mono ?_
                      rintro e w6 ⟨d1, d2, d3, rfl, hR, hb6⟩
                      have hR2 := hR.toS
                      obtain ⟨q1, q3, _, _, e2, -, -, -, -⟩ := hR2
                      simp only [Value.slice.injEq] at e2
                      obtain ⟨rfl, rfl, rfl⟩ := e2
                      clear f4 f5 f6
                      go_upto_region 15 with fail
                      generalize hwy : w6.alloc (.cells #[.bool rv, .int .i64 ri, .slice d1 (Fo.len rk) d3] 33) = wy
                      have hby : Below w6.heap.size w6 wy := by rw [← hwy]; exact below_alloc _ _
                      have c0 : wy.cell? ⟨w6.heap.size, 0, none⟩ = some (.bool rv) := by rw [← hwy]; exact new_cell rfl
                      have c1 : wy.cell? ⟨w6.heap.size, 1, none⟩ = some (.int .i64 ri) := by rw [← hwy]; exact new_cell rfl
                      have c2 : wy.cell? ⟨w6.heap.size, 2, none⟩ = some (.slice d1 (Fo.len rk) d3) := by rw [← hwy]; exact new_cell rfl
                      clear hwy
                      have hb7 := below_step hb6 hby
                      have HR : Hid (SB (XR X w.heap.size (w.heap.size + 1) wy) wy rk (.slice d1 (Fo.len rk) d3)) :=
                        (hR.keepB (fun q hq => by
                          rcases hq with hq | hq
                          · exact Nat.lt_of_lt_of_le hq.2.2 (Nat.le_trans Hbm.out.size (Nat.le_trans Hbx.out.size hb6.size))
                          · exact hq.2) hby).wide fun q hq => by
                            have z1 := Hbm.out.size
                            have z2 := Hbx.out.size
                            have z3 := hb6.size
                            have z4 := hby.size
                            have z5 := HBkb.out.size
                            have z6 := Hbi.out.size
                            have z7 := Hbz.out.size
                            have z8 := HB1r.out.size
                            have z9 := Hs1.out
                            rcases hq with hq | hq
                            · exact ⟨hq.1, hq.2.1, by have := hq.2.2; omega⟩
                            · exact ⟨.inr (by omega), by omega, by omega⟩
                      have HBo := hide (below_step Hbz.out (below_step HBzb.out (below_step Hbm.out (below_step Hbx.out hb7))))
                      have HBwy := hide (below_step HBx.out hb7)
                      have hbzm := below_step Hbm.out (below_step Hbx.out hb7)
                      have HSzy := hide (HSzb.out.xr hbzm)
                      obtain ⟨a0, a1, a2⟩ := HAm.out
                      have hmy := below_step Hbx.out hb7
                      replace a0 := grow_cell hmy _ _ a0
                      replace a1 := grow_cell hmy _ _ a1
                      replace a2 := grow_cell hmy _ _ a2
                      have Hab := hide (aboveR_any (zv, zi) zk (rv, ri) rk _ _ wy HSzy.out.toS HR.out.toS (by have := HZs.out.lw.sz; simp only [szT] at this; omega) Hrg.out.2)
                      generalize w6.heap.size = gr at *
                      clear hb6 hby hR hb7 hbzm hmy
                      go_wp2_with fail
                      refine Hab.out.mono ?_
                      rintro e w8 ⟨rfl, hb8⟩
                      cases hab : abvT ((zv, zi), zk) ((rv, ri), rk)
                      · have Hend := hide (HNo.out (by rw [Htw.out, hab]; rfl))
                        have HBe := hide (below_step HBwy.out hb8)
                        clear hab a0 a1 a2 c0 c1 c2 hb8
                        go_wp2_with fail
                        go_roundw
                        case rel => exact ⟨kk + 1, by omega, by go_num, Hend.out, HBe.out⟩
                        case measure => simp [intOf]; omega
                      · have Hst2 := hide (HYes.out _ (by rw [Htw.out, hab]; rfl))
                        have Hsr := hide (Hrs.out _ rfl hab)
                        have hBo8 := below_step HBo.out hb8
                        obtain ⟨k0, k1, k2, m0, m1, m2, mf⟩ := Ht.out
                        replace k0 := grow_cell hBo8 _ _ k0
                        replace k1 := grow_cell hBo8 _ _ k1
                        replace k2 := grow_cell hBo8 _ _ k2
                        have HS8 := hide (HSr.out.xr hBo8)
                        have HR8 := hide (HR.out.xr hb8)
                        have HN8 := hide (HNp.out.below hBo8)
                        have HBo8 := hide hBo8
                        have Hpu := hide (put_placeB Hzat.out HT.out.lw.gd Hsr.out.lw.gd XR.lt HS8.out HR8.out HN8.out)
                        simp only at Hpu
                        replace c0 := grow_cell hb8 _ _ c0
                        replace c1 := grow_cell hb8 _ _ c1
                        replace c2 := grow_cell hb8 _ _ c2
                        obtain ⟨_, _, _, _, _, _, _, _, _, habv, hsm'⟩ := stepD_some h6 HU.out HT.out Hst2.out
                        have Hdn : Hid (downT us ((xv, xi), k) = downT us (putT pl ((xv, xi), k) ((rv, ri), rk))) := downT_step h6 HU.out HT.out Hst2.out
                        have Hless : Hid (msr (putT pl ((xv, xi), k) ((rv, ri), rk)) < n) := by
                          have := msr_less HT.out.lw hsm'.lw habv
                          have h2 := HN.out
                          rw [Hid]; omega
                        have Hsm' := hide hsm'
                        clear hab a0 a1 a2 m0 m1 m2 mf hBo8 hb8 habv hsm' Hst2
                        go_wp2_with fail
                        refine Hpu.out.mono ?_
                        rintro e w9 ⟨e1, e3, rfl, hPt, hb9⟩
                        have HPt : Hid (SB (XR X w.heap.size (w.heap.size + 1) w9) w9 (putT pl ((xv, xi), k) ((rv, ri), rk)).2 (.slice e1 (Fo.len (putT pl ((xv, xi), k) ((rv, ri), rk)).2) e3)) :=
                          hPt.wide fun q hq => by
                            have z1 := hb9.size
                            have z7 := HBo8.out.size
                            have z8 := HB1r.out.size
                            have z9 := Hs1.out
                            rcases hq with hq | hq
                            · exact hq.grow hb9
                            · exact ⟨.inr (by omega), by omega, hq.2⟩
                        have HBo9 := hide (below_step HBo8.out hb9)
                        have HC9 := hide (HC.out.below (below_step HBw.out HBo9.out))
                        generalize putT pl ((xv, xi), k) ((rv, ri), rk) = pt at Hdn Hless Hsm' HPt
                        obtain ⟨⟨pv, pi⟩, pk⟩ := pt
                        simp only at HPt
                        have Hdc := hide (HI.out _ Hless.out (XR X w.heap.size (w.heap.size + 1) w9) (pv, pi) pk _ _ w9 XR.lt rfl Hsm'.out HPt.out HC9.out)
                        generalize downT us ((pv, pi), pk) = dt at Hdc Hdn
                        obtain ⟨⟨dv, di⟩, dk⟩ := dt
                        simp only at Hdc
                        clear hPt hb9 k0 k1 k2 c0 c1 c2
                        go_wp2_with fail
                        refine Hdc.out.mono ?_
                        rintro e wd ⟨i1, i3, rfl, hDd, hbd⟩
                        have hBod := below_step HBo9.out hbd
                        obtain ⟨-, -, -, m0, m1, m2, mf⟩ := Ht.out
                        replace m0 := grow_cell hBod _ _ m0
                        replace m1 := grow_cell hBod _ _ m1
                        replace m2 := grow_cell hBod _ _ m2
                        replace mf : ∀ i, wd.frozen? ⟨w.heap.size + 1, i, none⟩ = false := fun i => (hBod.frozen (by have z8 := HB1r.out.size; have z9 := Hs1.out; show w.heap.size + 1 < _; omega)).trans (mf i)
                        have HDd := hide hDd
                        have HBd := hide (below_step HBw.out hBod)
                        have Hsz : Hid (w.heap.size + 1 < w9.heap.size ∧ w9.heap.size ≤ wd.heap.size) := ⟨by have z8 := HB1r.out.size; have z9 := Hs1.out; have z7 := HBo9.out.size; omega, hbd.size⟩
                        clear hDd hBod hbd
                        go_wp2_with fail
                        refine bodyPost_ret (v := .agg #[.bool dv, .int .i64 di, .slice i1 (Fo.len dk) i3]) (by simp [results, Try.results12, go_sem, m0, m1, m2]) rfl ?_
                        rw [Hdn.out]
                        refine ⟨i1, i3, rfl, ?_, set3_below (b := w.heap.size + 1) (o := 0) HBd.out (by omega)⟩
                        have hz := Hsz.out
                        refine (HDd.out.set3 (b := w.heap.size + 1) (o := 0) ?_).wide (fun q hq => ?_)
                        · intro h
                          rcases h with h | h
                          · exact h.2.1 rfl
                          · omega
                        · rw [World.size_setCell, World.size_setCell, World.size_setCell]
                          rcases hq with h | h
                          · rcases h.1 with h1 | h1
                            · exact .inl h1
                            · exact .inr ⟨h1, by have := h.2.2; omega⟩
                          · exact .inr ⟨by omega, h.2⟩
                    · have Hend := hide (HNo.out (by unfold tryW; simp only; rw [Hex.out]; simp only; rw [if_pos hnv]))
                      clear hnv f0 f1 f2 f3 f4 f5 f6
                      go_wp2_with fail
                      go_roundw
                      case rel => exact ⟨kk + 1, by omega, by go_num, Hend.out, HBx.out⟩
                      case measure => simp [intOf]; omega
              · have hk2 : kk = 2 := by omega
                subst hk2
                have Hn : Hid (stepD us ((xv, xi), k) = putO ((xv, xi), k) pl (tryUs ((zv, zi), zk) (us.drop (i + 1))) (tryP us ((xv, xi), k) (Z.drop (j + 1)))) := by rw [Hid, Hsk.out, wayK_last]; rfl
                go_wp2_with fail
                go_roundw
                case rel => exact ⟨i + 1, by omega, by go_num, Hn.out, below_step Hbi.out hBk⟩
                case measure => simp [intOf]; omega
          · have Hn : Hid (stepD us ((xv, xi), k) = tryP us ((xv, xi), k) (Z.drop (j + 1))) := by rw [Hid, Hsi.out, tryUs_last (by omega)]; rfl
            go_wp2_with fail
            go_roundw
            case rel => exact ⟨j + 1, by omega, by go_num, Hn.out, below_step hBr (below_step Hbz.out hBi)⟩
            case measure => simp [intOf]; omega
      · have Hn : Hid (stepD us ((xv, xi), k) = none) := by rw [Hid, Hst.out]; exact tryP_last (by omega)
        have Hres : Hid (SB (fun q => X q ∨ (w.heap.size ≤ q ∧ q < (set3 wr (w.heap.size + 1) 0 (.bool xv) (.int .i64 xi) (.slice ta (Fo.len k) tc)).heap.size)) (set3 wr (w.heap.size + 1) 0 (.bool xv) (.int .i64 xi) (.slice ta (Fo.len k) tc)) k (.slice ta (Fo.len k) tc)) :=
          (HS0.out.keepB HX.out (set3_below (b := w.heap.size + 1) (o := 0) HBw.out (by omega))).wide fun q hq => .inl hq
        go_wp2_with fail
        refine bodyPost_ret (v := .agg #[.bool xv, .int .i64 xi, .slice ta (Fo.len k) tc]) (by simp [results, Try.results12, go_sem, m0, m1, m2]) rfl ?_
        rw [downT_stop Hn.out]
        exact ⟨_, _, rfl, Hres.out, set3_below (b := w.heap.size + 1) (o := 0) HBw.out (by omega)⟩
end Go.Proofs.Ytlgnpiphaeoeiad
