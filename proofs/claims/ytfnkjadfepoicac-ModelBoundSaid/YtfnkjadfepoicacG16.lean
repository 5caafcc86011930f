/- Found by a pattern: what the law asks, told of terms alone. -/
import Derived.Test.YtfnkjadfepoicacG15
import Derived.Test.YtfnkjadfepoicacG09
namespace Go.Proofs.Ytfnkjadfepoicac
open Go.RowKit Go.Deep Go.ChangeShapes Go.WideShapes

theorem extF_nar : ∀ {k l : Fo} {s s' : Sb}, Fo.narrow l → (∀ p ∈ s, narT p.2) → extF k l s = some s' → ∀ p ∈ s', narT p.2
  | .nil, _, s, s', _, hs, h => by simp only [extF, Option.some.injEq] at h; subst h; exact hs
  | .node _ _ _ _ _, .nil, _, _, _, _, h => by simp [extF] at h
  | .node _ _ ⟨v, n⟩ k r, .node _ _ y l q, s, s', hl, hs, h => by
    rw [extF_node, Option.bind_eq_some_iff] at h
    obtain ⟨s1, h1, h2⟩ := h
    rw [nar_node] at hl
    refine extF_nar hl.2 ?_ h2
    cases v
    · unfold extT at h1
      simp only [Bool.false_eq_true, if_false] at h1
      split at h1
      · exact extF_nar hl.1.2 hs h1
      · cases h1
    · cases e : look s n with
      | none =>
        rw [extT_new e] at h1
        cases h1
        intro p hp
        simp only [List.mem_append, List.mem_singleton] at hp
        rcases hp with hp | rfl
        · exact hs p hp
        · exact hl.1
      | some z =>
        rw [extT_old e] at h1
        split at h1
        · cases h1; exact hs
        · cases h1
theorem extT_nar {t u : Tm} {s s' : Sb} (hu : narT u) (hs : ∀ p ∈ s, narT p.2) (h : extT s t u = some s') : ∀ p ∈ s', narT p.2 := by
  have h1 : extF (.node 0 0 t.1 t.2 .nil) (.node 0 0 u.1 u.2 .nil) s = some s' := by rw [extF_node, show extT s (t.1, t.2) (u.1, u.2) = some s' from h]; rfl
  exact extF_nar (k := .node 0 0 t.1 t.2 .nil) (l := .node 0 0 u.1 u.2 .nil) (nar_node.2 ⟨hu, trivial⟩) hs h1
/-- What Match finds, from right terms. -/
theorem match_ok {t u : Tm} {s : Sb} (hu : okT u) (hn : narT u) (h : extT [] t u = some s) : (∀ p ∈ s, narT p.2 ∧ okT p.2) ∧ subT (bnd s) t = u := by
  obtain ⟨h1, h2⟩ := extT_sound hu (fun p hp => by simp at hp) h
  have h3 := extT_nar hn (fun p hp => by simp at hp) h
  exact ⟨fun p hp => ⟨h3 p hp, h1 p hp⟩, h2⟩

theorem norm_norm : ∀ F : Fo, Fo.norm (Fo.norm F) = Fo.norm F
  | .nil => rfl
  | .node _ _ _ k r => by simp [Fo.norm, norm_norm k, norm_norm r]

/-- Terms laid side by side. -/
def two (t u : Tm) : Fo := .node 0 0 t.1 t.2 (.node 0 0 u.1 u.2 .nil)
def one1 (t : Tm) : Fo := .node 0 0 t.1 t.2 .nil
theorem right_two {s : List Int} {t u : Tm} (h : rightB s (two t u) = true) : s.all okNum = true ∧ wrongF s t.1 t.2 = 0 ∧ wrongF s u.1 u.2 = 0 := by
  simp only [rightB, two, Fo.list, List.all_cons, List.all_nil, Bool.and_eq_true, decide_eq_true_eq, Bool.and_true] at h
  exact ⟨(wsig_ok h.1).1, h.2.1, h.2.2⟩
theorem right_one {s : List Int} {t : Tm} (h : rightB s (one1 t) = true) : s.all okNum = true ∧ wrongF s t.1 t.2 = 0 := by
  simp only [rightB, one1, Fo.list, List.all_cons, List.all_nil, Bool.and_eq_true, decide_eq_true_eq, Bool.and_true] at h
  exact ⟨(wsig_ok h.1).1, h.2⟩
theorem two_in {w : World} {t u : Tm} {a c : Value} (h1 : SIn w t.2 a) (h2 : SIn w u.2 c) : SIn (w.alloc (.cells #[.bool t.1.1, .int .i64 t.1.2, a, .bool u.1.1, .int .i64 u.1.2, c] 35)) (two t u) (.slice (some ⟨w.heap.size, 0, none⟩) 2 2) :=
  ⟨_, 2, w.heap.size, 0, rfl, fun _ => rfl, Nat.le_refl _, by unfold maxLen; omega, FIn.mk (new_cell rfl) (new_cell rfl) (new_cell rfl) (h1.alloc _) (FIn.mk (new_cell rfl) (new_cell rfl) (new_cell rfl) (h2.alloc _) trivial)⟩
theorem one_in {w : World} {t : Tm} {a : Value} (h1 : SIn w t.2 a) : SIn (w.alloc (.cells #[.bool t.1.1, .int .i64 t.1.2, a] 35)) (one1 t) (.slice (some ⟨w.heap.size, 0, none⟩) 1 1) :=
  ⟨_, 1, w.heap.size, 0, rfl, fun _ => rfl, Nat.le_refl _, by unfold maxLen; omega, FIn.mk (new_cell rfl) (new_cell rfl) (new_cell rfl) (h1.alloc _) trivial⟩

/-- A right term that has been brought to one form is good. -/
theorem four_right {s : List Int} {x : Bool × Int} {k : Fo} (hs : s.all okNum = true) (hk : Fo.norm k = k) (h : wrongF s x k = 0) : ∀ m, occT m (x, k) → m ≤ 4 := fun m hm => by
  have := four_of_right hs h m (by rw [hk]; exact hm)
  exact this.2
theorem gd_right {s : List Int} {x : Bool × Int} {k : Fo} (hs : s.all okNum = true) (hk : Fo.norm k = k) (h : wrongF s x k = 0) : Gd (x, k) ∧ depT (x, k) ≤ 12 ∧ tszR k ≤ 12 := by
  have := gd_of_right hs h
  rwa [hk] at this

end Go.Proofs.Ytfnkjadfepoicac

/- Where symbols stand: the document's Places. -/
namespace Go.Proofs.Ytfnkjadfepoicac
open Go.RowKit Go.Deep Go.ChangeShapes Go.WideShapes
attribute [local go_sem ↓] Go.wp_at_zero Go.wp_at_succ

theorem placesF_pre (q : List Int) : ∀ (F : Fo) (p : List Int) (i : Int), placesF F (q ++ p) i = (placesF F p i).map (q ++ ·)
  | .nil, _, _ => rfl
  | .node _ _ x k r, p, i => by
    have h1 := placesF_pre q k (p ++ [i]) 0
    have h2 := placesF_pre q r p (i + 1)
    simp only [placesF, List.map_append, h2]
    cases x.1
    · simp only [Bool.false_eq_true, if_false, List.map_cons, List.append_assoc] at h1 ⊢
      rw [h1]
    · simp
theorem placesT_pre (q : List Int) (x : Bool × Int) (k : Fo) : placesT x k q = (placesT x k []).map (q ++ ·) := by
  have := placesF_pre q k [] 0
  unfold placesT
  split
  · rfl
  · simp only [List.append_nil] at this
    simp [this]
theorem placesF_plen : ∀ (F : Fo) (q : List Int) (i : Int) (p : List Int), p ∈ placesF F q i → p.length ≤ q.length + Fo.sizesR F
  | .nil, _, _, _, h => by simp [placesF] at h
  | .node _ _ x k r, q, i, p, h => by
    simp only [placesF, List.mem_append] at h
    simp only [Fo.sizesR]
    rcases h with h | h
    · cases hx : x.1 with
      | true => simp [hx] at h
      | false =>
        simp only [hx, Bool.false_eq_true, if_false, List.mem_cons] at h
        rcases h with rfl | h
        · simp; omega
        · have := placesF_plen k _ _ _ h
          simp at this
          omega
    · have := placesF_plen r _ _ _ h
      omega
theorem placesT_plen {x : Bool × Int} {k : Fo} {p : List Int} (h : p ∈ placesT x k []) : p.length ≤ tszR k := by
  unfold placesT at h
  unfold tszR
  split at h
  · simp at h
  · simp only [List.mem_cons] at h
    rcases h with rfl | h
    · simp
    · have := placesF_plen k _ _ _ h
      simp at this
      omega

theorem pl_step {B0 : Nat} {wr wA w3 : World} {vj v' v3 : Value} {ys : List Value} {Q : List (List Int)} {j : Int} {p : List Int} {g : Nat} {ob ob2 : Obj} (ho : wr.ownsRow B0 22 1 vj ys.length ys) (hP : Pw wr B0 vj.ownBlock ys Q)
    (hoA : wA.ownsRow B0 3 1 v' (1 + p.length) ([.int .i64 j] ++ vals p)) (hgA : (wr.alloc ob).grownBy wA (some wr.heap.size)) (hatA : v'.ownBlock = some wr.heap.size ∨ v'.ownBlock = some (wr.alloc ob).heap.size)
    (hv3 : v3.ownBlock = some g) (hg3 : (wA.alloc ob2).grownBy w3 vj.ownBlock) (hat3 : vj.ownBlock = some g ∨ g = wA.heap.size + 1) :
    Pw w3 B0 v3.ownBlock (ys ++ [v']) (Q ++ [j :: p]) ∧ Fr wr w3 vj.ownBlock none := by
  have s1 := hgA.size
  have s3 := hg3.size
  simp at s1 s3
  have hfr : Fr wr w3 vj.ownBlock none := by
    refine ⟨by rw [hg3.os]; exact hgA.os, by rw [hg3.tape]; exact hgA.tape, by rw [hg3.output]; exact hgA.output, by omega, fun q hq h1 _ => ?_⟩
    rw [hg3.block q (by simp; omega) h1, Below.heap_alloc _ _ _ (by omega), hgA.block q (by simp; omega) (by simp; omega), Below.heap_alloc _ _ _ hq]
  have hvb : ∀ h, v'.ownBlock = some h → wr.heap.size ≤ h ∧ h < wA.heap.size := fun h hh => by
    refine ⟨?_, (owns_at hoA h hh).2⟩
    rcases hatA with e | e
    · rw [e] at hh; simp at hh; omega
    · rw [e] at hh; simp at hh; omega
  refine ⟨Pw.append (Pw.keep hP hfr (fun q _ q2 q3 => ⟨q3, fun e => (by cases e), ?_⟩) (Nat.le_refl _)) ⟨rfl, fun i y q hy hq => ?_⟩, hfr⟩
  · rw [hv3]
    intro e
    simp at e
    subst e
    rcases hat3 with e | e
    · exact q3 e.symm
    · omega
  · have : i = 0 := by
      have := (List.getElem?_eq_some_iff.1 hy).1
      simpa using this
    subst this
    simp only [List.getElem?_cons_zero, Option.some.injEq] at hy hq
    subst hy hq
    refine ⟨?_, fun h hh => ?_⟩
    · have : w3.ownsRow B0 3 1 v' (1 + p.length) ([.int .i64 j] ++ vals p) := owns_keep hoA (fun h hh => by
        have hb := hvb h hh
        rw [hg3.block h (by simp; omega) (fun e => by have := (owns_at ho _ e.symm).2; omega), Below.heap_alloc _ _ _ hb.2])
      rw [show (j :: p).length = 1 + p.length by simp; omega]
      exact this
    · rw [hv3]
      intro e
      simp at e
      subst e
      have hb := hvb _ hh
      rcases hat3 with e | e
      · have := (owns_at ho _ e).2; omega
      · omega

theorem box_grown {w w3 : World} {x y z : Value} {T : TypeId} {o1 o2 : Obj} (hg : (((w.alloc (.cells #[x, y, z] T)).alloc o1).alloc o2).grownBy w3 (Value.slice none 0 0).ownBlock) : w3.cell? ⟨w.heap.size, 2, none⟩ = some z := by
  rw [hg.cell_far ⟨w.heap.size, 2, none⟩ (by show w.heap.size < _; rw [size3]; omega) (by simp [Value.ownBlock]), World.cell?_alloc_lt _ _ _ (by show w.heap.size < _; rw [size2]; omega), World.cell?_alloc_lt _ _ _ (by simp)]
  simp

theorem pl_out {B0 : Nat} {wr wA : World} {ob ob2 : Obj} {vj : Value} {n : Nat} {ys : List Value} (ho : wr.ownsRow B0 22 1 vj n ys) (hgA : (wr.alloc ob).grownBy wA (some wr.heap.size)) : (wA.alloc ob2).ownsRow B0 22 1 vj n ys :=
  owns_keep ho (fun g hg => by
    have h1 := (owns_at ho g hg).2
    have h2 := hgA.size
    simp at h2
    rw [Below.heap_alloc _ _ _ (by omega), hgA.block g (by simp; omega) (by simp; omega), Below.heap_alloc _ _ _ h1])
theorem pl_news (w : World) (v : Value) : ∀ j u, [v][j]? = some u → (w.alloc (.cells #[v] 22)).cell? ((⟨w.heap.size, 0, none⟩ : Addr).add j) = some u :=
  World.news_of_block (cs := #[v]) (heap_alloc_new w _)

/-- So far: the first so many places of the j-th argument stand. -/
def PlIn (B0 lo1 hi1 : Nat) (W0 w1 : World) (L Z : List (List Int)) (j : Int) (m : Nat) (wr : World) (vj : Value) : Prop :=
  ∃ ys, wr.ownsRow B0 22 1 vj ys.length ys ∧ Pw wr B0 vj.ownBlock ys (L ++ (Z.take m).map (j :: ·)) ∧ Below B0 W0 wr ∧ (∀ g, vj.ownBlock = some g → g < lo1 ∨ hi1 ≤ g) ∧ (∀ q, lo1 ≤ q → q < hi1 → wr.heap[q]? = w1.heap[q]?) ∧ hi1 ≤ wr.heap.size

def PlacesRSaid (x : Bool × Int) (k : Fo) : Prop := ∀ (a : Value) (w : World), SIn w k a → tszR k ≤ 9000 →
    Calls Try.prog 49 #[.agg #[.bool x.1, .int .i64 x.2, a]] w fun e w' => ∃ vo ys, e = .returned vo ∧ w'.ownsRow w.heap.size 22 1 vo ys.length ys ∧ Pw w' w.heap.size vo.ownBlock ys (placesT x k []) ∧ Below w.heap.size w w'

set_option maxHeartbeats 1000000 in
set_option maxRecDepth 100000 in
theorem placesR_any (x : Bool × Int) (k : Fo) : PlacesRSaid x k := by
  refine Fo.ind1 (p := PlacesRSaid) ?_ x k
  clear x k
  intro x k ih a w hS hb
  obtain ⟨xv, xn⟩ := x
  have HI := hide ih
  obtain ⟨ad, c, b, o, rfl, had, hlc, hcm, hF⟩ := hS
  have HF := hide hF
  unfold maxLen at hcm
  obtain ⟨i22, hi22, hz0, hz1, hz2⟩ := info_parts Try.info22
  clear ih hF
  cases xv
  · have Htt : Hid (placesT (false, xn) k [] = plTo k [] (Fo.len k)) := by rw [Hid, plTo_end]; rfl
    have Hnews : Hid (∀ j u, [Value.slice (some ⟨w.heap.size + 1, 0, none⟩) 0 0][j]? = some u → (((w.alloc (.cells #[.bool false, .int .i64 xn, .slice ad (Fo.len k) c] 35)).alloc (.cells #[] 3)).alloc (.cells #[.slice (some ⟨w.heap.size + 1, 0, none⟩) 0 0] 22)).cell? ((⟨w.heap.size + 2, 0, none⟩ : Addr).add j) = some u) := by
      have h := World.news_of_block (cs := #[.slice (some ⟨w.heap.size + 1, 0, none⟩) 0 0]) (heap_alloc_new ((w.alloc (.cells #[.bool false, .int .i64 xn, .slice ad (Fo.len k) c] 35)).alloc (.cells #[] 3)) (.cells #[.slice (some ⟨w.heap.size + 1, 0, none⟩) 0 0] 22))
      intro j u hu
      have := h j u hu
      rw [size2] at this
      exact this
    have hn1 : 0 + 1 ≤ maxLen := by unfold maxLen; omega
    have hn2 : (0 + 1) * 24 ≤ 140737488355328 := by omega
    go_enter Try.func49, Try.ntmps49
    go_wp2_with (at_builtin; refine wpList_append_lies _ rfl (.tmp 10) (.tmp 12) 24 rfl (w.heap.size + 1) 22 i22 (.slice none 0 0) 1 24 Try.underlying24 hi22 hz0 hz1 hz2 rfl (by decide) (.slice none 0 0) 0 [] rfl ⟨rfl, .inl ⟨rfl, rfl⟩⟩ ⟨w.heap.size + 2, 0, none⟩ 1 1 [.slice (some ⟨w.heap.size + 1, 0, none⟩) 0 0] rfl rfl Hnews.out (by simp [Value.oneCell']) (by decide) hn1 hn2 (by rw [size3]; omega) (w.heap.size + 3) (by rw [size3]) ?_; intro g cap w3 ho3 hg3 hat3 hlt3; have x2 := box_grown hg3)
    have hb3 : Below (w.heap.size + 1) (w.alloc (.cells #[.bool false, .int .i64 xn, .slice ad (Fo.len k) c] 35)) w3 := (((Below.refl _ _).alloc (by simp) _).alloc (by simp) _).grown hg3 (by rw [size3]; omega) (fun g hg => by simp [Value.ownBlock] at hg)
    have hP3 : Pw w3 (w.heap.size + 1) (some g) [.slice (some ⟨w.heap.size + 1, 0, none⟩) 0 0] (plTo k [] 0) := by
      refine ⟨by simp [plTo, Fo.take, placesF], fun i y q hy hq => ?_⟩
      have : i = 0 := by
        have := (List.getElem?_eq_some_iff.1 hy).1
        simpa using this
      subst this
      have hq' : q = [] := by
        simp [plTo] at hq
        exact hq
      simp only [List.getElem?_cons_zero, Option.some.injEq] at hy
      subst hy hq'
      refine ⟨own_empty ?_ (Nat.le_refl _), fun h hh => ?_⟩
      · rw [hg3.block (w.heap.size + 1) (by rw [size3]; omega) (by simp [Value.ownBlock]), Below.heap_alloc _ _ _ (by rw [size2]; omega)]
        have := heap_alloc_new (w.alloc (.cells #[.bool false, .int .i64 xn, .slice ad (Fo.len k) c] 35)) (.cells #[] 3)
        rw [World.size_alloc] at this
        exact this
      · simp [Value.ownBlock] at hh
        rcases hat3 with e | e
        · simp [Value.ownBlock] at e
        · simp; omega
    have Ho3 : Hid (w3.ownsRow (w.heap.size + 1) 22 1 (.slice (some ⟨g, 0, none⟩) 1 cap) 1 [.slice (some ⟨w.heap.size + 1, 0, none⟩) 0 0]) := hide (by simpa using ho3)
    have HP3 := hide hP3
    have Hb3 := hide hb3
    clear ho3 hg3 hat3 hlt3 hb3 hP3 Hnews x2
    go_loopw [3, 17] (fun v i wr => ∃ (j : Nat) (ys : List Value) (z1 : Option Addr) (z3 : Nat), j ≤ Fo.len k ∧ i = .int .i64 j ∧ v = .slice z1 ys.length z3 ∧ wr.ownsRow (w.heap.size + 1) 22 1 (.slice z1 ys.length z3) ys.length ys ∧ Pw wr (w.heap.size + 1) (Value.slice z1 ys.length z3).ownBlock ys (plTo k [] j) ∧ Below (w.heap.size + 1) (w.alloc (.cells #[.bool false, .int .i64 xn, .slice ad (Fo.len k) c] 35)) wr) (fun _ i _ => Fo.len k - (intOf i).toNat)
    case atStart => exact ⟨0, _, _, _, Nat.zero_le _, rfl, rfl, Ho3.out, HP3.out, Hb3.out⟩
    case round =>
      obtain ⟨j, ys, z1, z3, hj, rfl, rfl, hor, hPr, hBx⟩ := hrel
      obtain ⟨-, -, t2, hBr, hlt0⟩ := box_cells hBx
      have Hor := hide hor
      have HPr := hide hPr
      have HBx := hide hBx
      clear hor hPr hBx Ho3 HP3 Hb3
      by_cases hlt : j < Fo.len k
      · have hlt' : (j : Int) < (Fo.len k : Int) := by omega
        obtain ⟨⟨⟨yv, yn⟩, yk⟩, hy⟩ : ∃ y, k.list[j]? = some y := ⟨k.list[j]'(by rw [Fo.len_list]; exact hlt), by simp⟩
        obtain ⟨c0, c1, yv', c2, hSy⟩ := (HF.out.below hBr).at hy
        have HSy := hide hSy
        obtain ⟨ya, yc, yb, yo, rfl, -, -, -, -⟩ := hSy
        have ha : ad = some ⟨b, o, none⟩ := had (by omega)
        subst ha
        have hsz : 1 + Fo.sizesR (Fo.take j k) + tszR yk ≤ 9000 := by
          have h2 := sizesR_take j k
          rw [hy] at h2
          simp only at h2
          unfold tszR at hb h2 ⊢
          omega
        have Hy := hide hy
        have hbk : tszR yk ≤ 9000 := by omega
        clear hy had
        go_wp2_with fail
        refine (HI.out ((yv, yn), yk) (List.mem_of_getElem? Hy.out) _ _ HSy.out hbk).mono ?_
        rintro e w1 ⟨vs, zs, rfl, hos, hPs, hb1⟩
        obtain ⟨s1, s3, rfl⟩ := slice_of_owns hos
        have hs1 := hb1.size
        have Hos := hide hos
        have HPs := hide hPs
        have Hb1 := hide hb1
        obtain ⟨Z, hZ⟩ : ∃ Z, Z = placesT (yv, yn) yk [] := ⟨_, rfl⟩
        have HZ := hide hZ
        have Hin : Hid (PlIn (w.heap.size + 1) wr.heap.size w1.heap.size (w.alloc (.cells #[.bool false, .int .i64 xn, .slice (some ⟨b, o, none⟩) (Fo.len k) c] 35)) w1 (plTo k [] j) Z j 0 w1 (.slice z1 ys.length z3)) :=
          ⟨ys, owns_keep Hor.out (fun g hg => hb1.block g (owns_at Hor.out g hg).2), by simpa using Pw.keep HPr.out (Fr.of_below hb1 none none) (fun q _ q2 q3 => ⟨fun e => (by cases e), fun e => (by cases e), q3⟩) (Nat.le_refl _), HBx.out.trans (hb1.mono (by omega)), fun g hg => .inl (owns_at Hor.out g hg).2, fun q _ _ => rfl, Nat.le_refl _⟩
        have hZl : zs.length = Z.length := by rw [HZ.out]; exact HPs.out.1
        have HZl := hide hZl
        have hzb : zs.length ≤ 9000 := by
          have h3 := placesT_len (yv, yn) yk []
          rw [← HZ.out] at h3
          omega
        have Hlen : Hid (∀ (m : Nat) (ys : List Value) (wq : World) (gq : Option Nat), Pw wq (w.heap.size + 1) gq ys (plTo k [] j ++ (Z.take m).map ((j : Int) :: ·)) → ys.length ≤ 9000) := fun m ys wq gq h => by
          have h1 := h.1
          have h2 := placesF_len (Fo.take j k) [] 0
          have h3 := placesT_len (yv, yn) yk []
          have h4 : (Z.take m).length ≤ Z.length := by rw [List.length_take]; omega
          rw [List.length_append, List.length_map, plTo, List.length_cons] at h1
          rw [← HZ.out] at h3
          omega
        have Hpl : Hid (∀ p ∈ Z, (1 + p.length) * 8 ≤ 140737488355328) := fun p hp => by
          have := placesT_plen (x := (yv, yn)) (k := yk) (p := p) (by rw [← HZ.out]; exact hp)
          omega
        have Hnx : Hid (plTo k [] j ++ (Z.take zs.length).map ((j : Int) :: ·) = plTo k [] (j + 1)) := by
          rw [Hid, plTo_succ Hy.out, placesT_pre, ← HZ.out, HZl.out, List.take_length]
          simp
        clear hos hPs hb1 hZ t2 c0 c1 c2 hZl
        generalize wr = wo at *
        go_wp2_with fail
        go_loopw [3, 27] (fun v i wr => ∃ (m : Nat) (l : Nat) (z1 : Option Addr) (z3 : Nat), m ≤ zs.length ∧ i = .int .i64 m ∧ v = .slice z1 l z3 ∧ PlIn (w.heap.size + 1) wo.heap.size w1.heap.size (w.alloc (.cells #[.bool false, .int .i64 xn, .slice (some ⟨b, o, none⟩) (Fo.len k) c] 35)) w1 (plTo k [] j) Z j m wr (.slice z1 l z3)) (fun _ i _ => zs.length - (intOf i).toNat)
        case atStart => exact ⟨0, _, _, _, Nat.zero_le _, rfl, rfl, Hin.out⟩
        case round =>
          obtain ⟨m, l, y1, y3, hm, rfl, rfl, hin⟩ := hrel
          have Hin2 := hide hin
          clear Hin hin
          by_cases hmt : m < zs.length
          · have hmt' : (m : Int) < (zs.length : Int) := by omega
            have hm0 : (0 : Int) ≤ (m : Int) := by omega
            obtain ⟨us, hou, hPu, hBu, hnu, hku, hsu⟩ := Hin2.out
            obtain ⟨gs, caps, hform, hgs1, hgs2⟩ := Hos.out.form (by omega)
            simp only [Value.slice.injEq, true_and] at hform
            obtain ⟨rfl, rfl⟩ := hform
            obtain ⟨pv, hpv⟩ : ∃ pv, zs[m]? = some pv := ⟨zs[m], by simp [hmt]⟩
            obtain ⟨p, hp⟩ : ∃ p, Z[m]? = some p := ⟨Z[m]'(by rw [← HZl.out]; exact hmt), by simp⟩
            have hpo := (HPs.out.2 m pv p hpv (by rw [← HZ.out]; exact hp)).1
            have hcell : wr.cell? ⟨gs, m, none⟩ = some pv := by
              rw [World.cell?_of_block (w := w1) (hku gs hgs1 hgs2), Hos.out.cellAt m (by omega), hpv]
            have HNp : Hid (NIn wr p pv) := own_nin (owns_keep hpo (fun g hg => by
              have h1 := owns_at hpo g hg
              exact hku g h1.1 h1.2))
            obtain ⟨p1, p3, rfl⟩ := nin_slice HNp.out
            have hlu : us.length = l := by
              obtain ⟨_, _, e⟩ := slice_of_owns hou
              simp only [Value.slice.injEq] at e
              exact e.2.1.symm
            subst hlu
            have hul := Hlen.out m us wr _ hPu
            have hpb := Hpl.out p (List.mem_of_getElem? hp)
            have Hou := hide hou
            have HPu := hide hPu
            have HBu := hide hBu
            have Hnu := hide hnu
            have Hku := hide hku
            have Hp := hide hp
            have hBs : w.heap.size + 1 ≤ wr.heap.size := by omega
            have Hown1 : Hid ((wr.alloc (.cells #[.int .i64 j] 3)).ownsRow (w.heap.size + 1) 3 1 (.slice (some ⟨wr.heap.size, 0, none⟩) 1 1) 1 [.int .i64 j]) := World.ownsRow_lit wr #[.int .i64 j] 1 hBs (by unfold maxLen; omega) rfl
            have Hn1 := hide (HNp.out.alloc (.cells #[.int .i64 j] 3))
            have hn1 : us.length + 1 ≤ maxLen := by unfold maxLen; omega
            have hn2 : (us.length + 1) * 24 ≤ 140737488355328 := by omega
            clear hou hPu hBu hnu hku hp hpv hpo
            go_wp2_with (first
              | (at_builtin; refine wpList_append_nums rfl (.tmp 33) (.tmp 34) rfl (w.heap.size + 1) (.slice (some ⟨wr.heap.size, 0, none⟩) 1 1) 1 [.int .i64 j] rfl Hown1.out p (.slice p1 p.length p3) rfl Hn1.out hpb (by simp; omega) ?_; intro vA wA hoA hgA hatA; obtain ⟨q1, q3, hvA⟩ := slice_of_owns hoA; subst hvA; have Hout := hide (pl_out (ob2 := .cells #[.slice q1 (1 + p.length) q3] 22) Hou.out hgA); have HnA := hide (pl_news wA (.slice q1 (1 + p.length) q3)); have hsA := hgA.size)
              | (at_builtin; refine wpList_append_lies _ rfl (.tmp 31) (.tmp 36) 24 rfl (w.heap.size + 1) 22 i22 (.slice none 0 0) 1 24 Try.underlying24 hi22 hz0 hz1 hz2 rfl (by decide) (.slice y1 us.length y3) us.length us rfl Hout.out ⟨wA.heap.size, 0, none⟩ 1 1 [.slice q1 (1 + p.length) q3] rfl rfl HnA.out (by simp [Value.oneCell']) (by decide) hn1 hn2 (by simp at hsA ⊢; omega) (wA.heap.size + 1) (by simp) ?_; intro g cap w3 ho3 hg3 hat3 hlt3))
            have Hstep := hide (pl_step (v3 := .slice (some ⟨g, 0, none⟩) (us.length + 1) cap) Hou.out HPu.out hoA hgA hatA rfl hg3 hat3)
            have Ho3 := hide ho3
            have Hg3 := hide hg3
            have Hat3 := hide hat3
            have HgA := hide hgA
            clear hoA hgA hatA ho3 hg3 hat3 hlt3
            go_roundw
            case rel =>
              refine ⟨m + 1, us.length + 1, _, _, by omega, by go_num, rfl, us ++ [.slice q1 (1 + p.length) q3], by simpa using Ho3.out, ?_, ?_, ?_, ?_, ?_⟩
              · have h := Hstep.out.1
                rw [List.take_add_one, Hp.out]
                simpa using h
              · exact HBu.out.trans (Hstep.out.2.below hBs (fun g hg => (owns_at Hou.out g hg).1) (fun g hg => by cases hg))
              · intro g' hg'
                simp [Value.ownBlock] at hg'
                subst hg'
                rcases Hat3.out with e | e
                · exact Hnu.out _ e
                · have := HgA.out.size
                  simp at this
                  exact .inr (by omega)
              · intro q h1 h2
                rw [Hstep.out.2.block q (by omega) (fun e => by rcases Hnu.out q e.symm with h | h; omega; omega) (fun e => by cases e)]
                exact Hku.out q h1 h2
              · have := Hstep.out.2.size
                omega
            case measure => simp [intOf]; omega
          · have Hend : Hid (PlIn (w.heap.size + 1) wo.heap.size w1.heap.size (w.alloc (.cells #[.bool false, .int .i64 xn, .slice (some ⟨b, o, none⟩) (Fo.len k) c] 35)) w1 (plTo k [] j) Z j zs.length wr (.slice y1 l y3)) := by
              have e : m = zs.length := by omega
              rw [← e]; exact Hin2.out
            go_wp2_with fail
            go_roundw
            case rel =>
              obtain ⟨us, hou, hPu, hBu, hnu, hku, hsu⟩ := Hend.out
              obtain ⟨y1', y3', e⟩ := slice_of_owns hou
              simp only [Value.slice.injEq] at e
              obtain ⟨rfl, rfl, rfl⟩ := e
              rw [Hnx.out] at hPu
              exact ⟨j + 1, us, _, _, by omega, by go_num, rfl, hou, hPu, hBu⟩
            case measure => simp [intOf]; omega
      · have Hend : Hid (plTo k [] j = placesT (false, xn) k []) := by
          have e : j = Fo.len k := by omega
          rw [Hid, e, Htt.out]
        clear had
        go_wp2_with fail
        go_ret
        refine ⟨_, ys, rfl, owns_mono Hor.out (by omega), ?_, hBr⟩
        rw [← Hend.out]
        exact Pw.keep HPr.out (Fr.refl wr none none) (fun q _ _ q3 => ⟨fun e => (by cases e), fun e => (by cases e), q3⟩) (by omega)
  · have Htt : Hid (placesT (true, xn) k [] = []) := rfl
    go_enter Try.func49, Try.ntmps49
    go_wp2_with fail
    go_ret
    refine ⟨_, [], rfl, ⟨rfl, .inl ⟨rfl, rfl⟩⟩, ?_, below_alloc _ _⟩
    rw [Htt.out]
    exact ⟨rfl, fun i y q hy => by simp at hy⟩

end Go.Proofs.Ytfnkjadfepoicac

/- A term's text: the document's Text. -/
namespace Go.Proofs.Ytfnkjadfepoicac
open Go.RowKit Go.Deep Go.ChangeShapes Go.WideShapes
attribute [local go_sem ↓] Go.wp_at_zero Go.wp_at_succ

/-- All terms but the first. -/
theorem terms_tail {n c b o : Nat} (hn : 2 ≤ n) (hlc : n ≤ c) (w : World) : (Instr.slice 33 (.slice (some ⟨b, o, none⟩) n c) (some (.int .i64 1)) none none).run Try.prog w = .ok (.slice (some ⟨b, o + 3, none⟩) (n - 1) (c - 1)) w := by
  rw [run_slice_l (ht := by kernel_rfl) (h0 := by omega) (h1 := by omega)]
  have e : (sizeOf (Try.prog.elem 33)).run Try.prog w = .ok 3 w := by
    rw [show Try.prog.elem 33 = 35 by kernel_rfl]
    simp [go_sem]
  have hc : ¬ c = 1 := by omega
  simp [Result.andThen, sliced, e, hc, Addr.add]
theorem ba_size {B : ByteArray} {l : List UInt8} (h : B.data.toList = l) : B.size = l.length := by rw [← h]; exact Array.length_toList.symm

end Go.Proofs.Ytfnkjadfepoicac

/- A text is read: the document's Rd.fail and Rd.is. -/
namespace Go.Proofs.Ytfnkjadfepoicac
open Go.RowKit Go.Deep Go.ChangeShapes Go.WideShapes
attribute [local go_sem ↓] Go.wp_at_zero Go.wp_at_succ
attribute [local go_sem] byte_zero text_tail

/-- The reader lies in the block rb: its symbols, what is left of the text, its error. -/
def RdAt (w : World) (rb : Nat) (sv : Value) (l : List UInt8) (e : Int) : Prop :=
  w.cell? ⟨rb, 0, none⟩ = some sv ∧ w.cell? ⟨rb, 1, none⟩ = some (str l) ∧ w.cell? ⟨rb, 2, none⟩ = some (.int .i64 e) ∧ ∀ i, w.frozen? ⟨rb, i, none⟩ = false

theorem RdAt.of_block {w w' : World} {rb : Nat} {sv : Value} {l : List UInt8} {e : Int} (h : RdAt w rb sv l e) (hb : w'.heap[rb]? = w.heap[rb]?) : RdAt w' rb sv l e :=
  ⟨(World.cell?_of_block hb).trans h.1, (World.cell?_of_block hb).trans h.2.1, (World.cell?_of_block hb).trans h.2.2.1, fun i => (World.frozen?_of_block hb).trans (h.2.2.2 i)⟩
theorem RdAt.setE {w : World} {rb : Nat} {sv : Value} {l : List UInt8} {e e' : Int} (h : RdAt w rb sv l e) : RdAt (w.setCell ⟨rb, 2, none⟩ (.int .i64 e')) rb sv l e' :=
  ⟨by rw [set_other (by simp)]; exact h.1, by rw [set_other (by simp)]; exact h.2.1, set_same h.2.2.1, fun i => by rw [World.frozen?_setCell]; exact h.2.2.2 i⟩
theorem RdAt.setS {w : World} {rb : Nat} {sv : Value} {l l' : List UInt8} {e : Int} (h : RdAt w rb sv l e) : RdAt (w.setCell ⟨rb, 1, none⟩ (str l')) rb sv l' e :=
  ⟨by rw [set_other (by simp)]; exact h.1, set_same h.2.1, by rw [set_other (by simp)]; exact h.2.2.1, fun i => by rw [World.frozen?_setCell]; exact h.2.2.2 i⟩
theorem RdAt.lt {w : World} {rb : Nat} {sv : Value} {l : List UInt8} {e : Int} (h : RdAt w rb sv l e) : rb < w.heap.size := World.block_lt_of_cell? _ _ h.1
theorem fr_set {w : World} {rb i : Nat} {v : Value} : Fr w (w.setCell ⟨rb, i, none⟩ v) (some rb) none :=
  ⟨rfl, rfl, rfl, by simp, fun q _ hq _ => Below.heap_setCell _ _ _ _ (fun e => hq (by rw [e]))⟩

set_option maxRecDepth 100000 in
set_option maxHeartbeats 400000 in
theorem fail_any (rb : Nat) (sv : Value) (l : List UInt8) (e' : Int) (w : World) (h : RdAt w rb sv l 0) :
    Calls Try.prog 74 #[.pointer (some ⟨rb, 0, none⟩), .int .i64 e'] w fun e w' => e = .returned (.tuple #[]) ∧ w' = w.setCell ⟨rb, 2, none⟩ (.int .i64 e') := by
  obtain ⟨h0, h1, h2, hf⟩ := h
  go_enter Try.func74, Try.ntmps74
  go_wp2_with fail
  exact bodyPost_end (v := .tuple #[]) (by simp [results, Try.results74, go_sem]) rfl ⟨rfl, rfl⟩

/-- The error behind a sign that must be. -/
def isE (c : UInt8) (l : List UInt8) (e : Int) : Int := if e ≠ 0 then e else (sgn c l).1

set_option maxRecDepth 100000 in
set_option maxHeartbeats 400000 in
theorem is_any (c : UInt8) (rb : Nat) (sv : Value) (l : List UInt8) (e : Int) (w : World) (h : RdAt w rb sv l e) (hl : e = 0 → l.length ≤ maxLen) :
    Calls Try.prog 75 #[.pointer (some ⟨rb, 0, none⟩), .int .u8 (c.toNat : Int)] w fun e' w' => e' = .returned (.tuple #[]) ∧ (∃ l', RdAt w' rb sv l' (isE c l e) ∧ (isE c l e = 0 → l' = (sgn c l).2)) ∧ Fr w w' (some rb) none ∧ w'.heap.size = w.heap.size := by
  have H := hide h
  obtain ⟨h0, h1, h2, hf⟩ := h
  by_cases he : e = 0
  · subst he
    have hl := hl rfl
    unfold maxLen at hl
    cases l with
    | nil =>
      have Hs : Hid (isE c [] 0 = 8) := by simp [Hid, isE, sgn]
      go_enter Try.func75, Try.ntmps75
      go_wp2_with fail
      refine (fail_any rb sv [] 8 w H.out).mono ?_
      rintro e w' ⟨rfl, hw'⟩
      rw [hw']
      clear hw' w'
      go_wp2_with fail
      refine bodyPost_end (v := .tuple #[]) (by simp [results, Try.results75, go_sem]) rfl ⟨rfl, ⟨[], ?_, fun h => ?_⟩, fr_set, by simp⟩
      · rw [Hs.out]; exact H.out.setE
      · rw [Hs.out] at h; cases h
    | cons d r =>
      by_cases hd : d = c
      · subst hd
        have Hs : Hid (isE d (d :: r) 0 = 0 ∧ (sgn d (d :: r)).2 = r) := by simp [Hid, isE, sgn]
        have hsl := run_tail d r
        go_enter Try.func75, Try.ntmps75
        go_wp2_with fail
        refine bodyPost_end (v := .tuple #[]) (by simp [results, Try.results75, go_sem]) rfl ⟨rfl, ⟨r, ?_, fun h => ?_⟩, fr_set, by simp⟩
        · rw [Hs.out.1]; exact H.out.setS
        · rw [Hs.out.2]
      · have Hs : Hid (isE c (d :: r) 0 = 2) := by simp [Hid, isE, sgn, hd]
        have hb : ((d.toNat : Int) != (c.toNat : Int)) = true := by
          simp only [bne_iff_ne, ne_eq, Int.natCast_inj]
          exact fun e => hd (UInt8.toNat_inj.1 e)
        clear hd
        go_enter Try.func75, Try.ntmps75
        go_wp2_with fail
        refine (fail_any rb sv (d :: r) 2 w H.out).mono ?_
        rintro e w' ⟨rfl, hw'⟩
        rw [hw']
        clear hw' w'
        go_wp2_with fail
        refine bodyPost_end (v := .tuple #[]) (by simp [results, Try.results75, go_sem]) rfl ⟨rfl, ⟨d :: r, ?_, fun h => ?_⟩, fr_set, by simp⟩
        · rw [Hs.out]; exact H.out.setE
        · rw [Hs.out] at h; cases h
  · have Hs : Hid (isE c l e = e) := by simp [Hid, isE, he]
    have heb : (e != 0) = true := by simpa using he
    have He := hide he
    clear he
    go_enter Try.func75, Try.ntmps75
    go_wp2_with fail
    refine bodyPost_end (v := .tuple #[]) (by simp [results, Try.results75, go_sem]) rfl ⟨rfl, ⟨l, ?_, fun h => ?_⟩, Fr.refl _ _ _, rfl⟩
    · rw [Hs.out]; exact H.out
    · rw [Hs.out] at h; exact absurd h He.out

end Go.Proofs.Ytfnkjadfepoicac
