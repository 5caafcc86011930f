/- Where symbols stand: the document's Places. -/
import Derived.Test.YtfnkjadfepoicacG09
import Derived.Deep.RegionLaw
namespace Go.Proofs.Ytfnkjadfepoicac
open Go.RowKit Go.Deep Go.ChangeShapes Go.WideShapes
attribute [local go_sem ↓] Go.wp_at_zero Go.wp_at_succ

theorem placesF_pre (q : List Int) : ∀ (F : Fo) (p : List Int) (i : Int), placesF F (q ++ p) i = (placesF F p i).map (q ++ ·)
  | .nil, _, _ => rfl
  | .node _ _ x k r, p, i => by
    have h1 := placesF_pre q k (p ++ [i]) 0
    have h2 := placesF_pre q r p (i + 1)
    simp only [placesF, List.map_append, h2]
    cases x.1
    · simp only [Bool.false_eq_true, if_false, List.map_cons, List.append_assoc] at h1 ⊢
      rw [h1]
    · simp
theorem placesT_pre (q : List Int) (x : Bool × Int) (k : Fo) : placesT x k q = (placesT x k []).map (q ++ ·) := by
  have := placesF_pre q k [] 0
  unfold placesT
  split
  · rfl
  · simp only [List.append_nil] at this
    simp [this]
theorem placesF_plen : ∀ (F : Fo) (q : List Int) (i : Int) (p : List Int), p ∈ placesF F q i → p.length ≤ q.length + Fo.sizesR F
  | .nil, _, _, _, h => by simp [placesF] at h
  | .node _ _ x k r, q, i, p, h => by
    simp only [placesF, List.mem_append] at h
    simp only [Fo.sizesR]
    rcases h with h | h
    · cases hx : x.1 with
      | true => simp [hx] at h
      | false =>
        simp only [hx, Bool.false_eq_true, if_false, List.mem_cons] at h
        rcases h with rfl | h
        · simp; omega
        · have := placesF_plen k _ _ _ h
          simp at this
          omega
    · have := placesF_plen r _ _ _ h
      omega
theorem placesT_plen {x : Bool × Int} {k : Fo} {p : List Int} (h : p ∈ placesT x k []) : p.length ≤ tszR k := by
  unfold placesT at h
  unfold tszR
  split at h
  · simp at h
  · simp only [List.mem_cons] at h
    rcases h with rfl | h
    · simp
    · have := placesF_plen k _ _ _ h
      simp at this
      omega

theorem pl_step {B0 : Nat} {wr wA w3 : World} {vj v' v3 : Value} {ys : List Value} {Q : List (List Int)} {j : Int} {p : List Int} {g : Nat} {ob ob2 : Obj} (ho : wr.ownsRow B0 22 1 vj ys.length ys) (hP : Pw wr B0 vj.ownBlock ys Q)
    (hoA : wA.ownsRow B0 3 1 v' (1 + p.length) ([.int .i64 j] ++ vals p)) (hgA : (wr.alloc ob).grownBy wA (some wr.heap.size)) (hatA : v'.ownBlock = some wr.heap.size ∨ v'.ownBlock = some (wr.alloc ob).heap.size)
    (hv3 : v3.ownBlock = some g) (hg3 : (wA.alloc ob2).grownBy w3 vj.ownBlock) (hat3 : vj.ownBlock = some g ∨ g = wA.heap.size + 1) :
    Pw w3 B0 v3.ownBlock (ys ++ [v']) (Q ++ [j :: p]) ∧ Fr wr w3 vj.ownBlock none := by
  have s1 := hgA.size
  have s3 := hg3.size
  simp at s1 s3
  have hfr : Fr wr w3 vj.ownBlock none := by
    refine ⟨by rw [hg3.os]; exact hgA.os, by rw [hg3.tape]; exact hgA.tape, by rw [hg3.output]; exact hgA.output, by omega, fun q hq h1 _ => ?_⟩
    rw [hg3.block q (by simp; omega) h1, Below.heap_alloc _ _ _ (by omega), hgA.block q (by simp; omega) (by simp; omega), Below.heap_alloc _ _ _ hq]
  have hvb : ∀ h, v'.ownBlock = some h → wr.heap.size ≤ h ∧ h < wA.heap.size := fun h hh => by
    refine ⟨?_, (owns_at hoA h hh).2⟩
    rcases hatA with e | e
    · rw [e] at hh; simp at hh; omega
    · rw [e] at hh; simp at hh; omega
  refine ⟨Pw.append (Pw.keep hP hfr (fun q _ q2 q3 => ⟨q3, fun e => (by cases e), ?_⟩) (Nat.le_refl _)) ⟨rfl, fun i y q hy hq => ?_⟩, hfr⟩
  · rw [hv3]
    intro e
    simp at e
    subst e
    rcases hat3 with e | e
    · exact q3 e.symm
    · omega
  · have : i = 0 := by
      have := (List.getElem?_eq_some_iff.1 hy).1
      simpa using this
    subst this
    simp only [List.getElem?_cons_zero, Option.some.injEq] at hy hq
    subst hy hq
    refine ⟨?_, fun h hh => ?_⟩
    · have : w3.ownsRow B0 3 1 v' (1 + p.length) ([.int .i64 j] ++ vals p) := owns_keep hoA (fun h hh => by
        have hb := hvb h hh
        rw [hg3.block h (by simp; omega) (fun e => by have := (owns_at ho _ e.symm).2; omega), Below.heap_alloc _ _ _ hb.2])
      rw [show (j :: p).length = 1 + p.length by simp; omega]
      exact this
    · rw [hv3]
      intro e
      simp at e
      subst e
      have hb := hvb _ hh
      rcases hat3 with e | e
      · have := (owns_at ho _ e).2; omega
      · omega

theorem box_grown {w w3 : World} {x y z : Value} {T : TypeId} {o1 o2 : Obj} (hg : (((w.alloc (.cells #[x, y, z] T)).alloc o1).alloc o2).grownBy w3 (Value.slice none 0 0).ownBlock) : w3.cell? ⟨w.heap.size, 2, none⟩ = some z := by
  rw [hg.cell_far ⟨w.heap.size, 2, none⟩ (by show w.heap.size < _; rw [size3]; omega) (by simp [Value.ownBlock]), World.cell?_alloc_lt _ _ _ (by show w.heap.size < _; rw [size2]; omega), World.cell?_alloc_lt _ _ _ (by simp)]
  simp

theorem pl_out {B0 : Nat} {wr wA : World} {ob ob2 : Obj} {vj : Value} {n : Nat} {ys : List Value} (ho : wr.ownsRow B0 22 1 vj n ys) (hgA : (wr.alloc ob).grownBy wA (some wr.heap.size)) : (wA.alloc ob2).ownsRow B0 22 1 vj n ys :=
  owns_keep ho (fun g hg => by
    have h1 := (owns_at ho g hg).2
    have h2 := hgA.size
    simp at h2
    rw [Below.heap_alloc _ _ _ (by omega), hgA.block g (by simp; omega) (by simp; omega), Below.heap_alloc _ _ _ h1])
theorem pl_news (w : World) (v : Value) : ∀ j u, [v][j]? = some u → (w.alloc (.cells #[v] 22)).cell? ((⟨w.heap.size, 0, none⟩ : Addr).add j) = some u :=
  World.news_of_block (cs := #[v]) (heap_alloc_new w _)

/-- So far: the first so many places of the j-th argument stand. -/
def PlIn (B0 lo1 hi1 : Nat) (W0 w1 : World) (L Z : List (List Int)) (j : Int) (m : Nat) (wr : World) (vj : Value) : Prop :=
  ∃ ys, wr.ownsRow B0 22 1 vj ys.length ys ∧ Pw wr B0 vj.ownBlock ys (L ++ (Z.take m).map (j :: ·)) ∧ Below B0 W0 wr ∧ (∀ g, vj.ownBlock = some g → g < lo1 ∨ hi1 ≤ g) ∧ (∀ q, lo1 ≤ q → q < hi1 → wr.heap[q]? = w1.heap[q]?) ∧ hi1 ≤ wr.heap.size

def PlacesRSaid (x : Bool × Int) (k : Fo) : Prop := ∀ (a : Value) (w : World), SIn w k a → tszR k ≤ 9000 →
    Calls Try.prog 49 #[.agg #[.bool x.1, .int .i64 x.2, a]] w fun e w' => ∃ vo ys, e = .returned vo ∧ w'.ownsRow w.heap.size 22 1 vo ys.length ys ∧ Pw w' w.heap.size vo.ownBlock ys (placesT x k []) ∧ Below w.heap.size w w'

set_option maxHeartbeats 1000000 in
set_option maxRecDepth 100000 in
theorem placesR_any (x : Bool × Int) (k : Fo) : PlacesRSaid x k := by
  refine Fo.ind1 (p := PlacesRSaid) ?_ x k
  clear x k
  intro x k ih a w hS hb
  obtain ⟨xv, xn⟩ := x
  have HI := hide ih
  obtain ⟨ad, c, b, o, rfl, had, hlc, hcm, hF⟩ := hS
  have HF := hide hF
  unfold maxLen at hcm
  obtain ⟨i22, hi22, hz0, hz1, hz2⟩ := info_parts Try.info22
  clear ih hF
  cases xv
  · have Htt : Hid (placesT (false, xn) k [] = plTo k [] (Fo.len k)) := by rw [Hid, plTo_end]; rfl
    have Hnews : Hid (∀ j u, [Value.slice (some ⟨w.heap.size + 1, 0, none⟩) 0 0][j]? = some u → (((w.alloc (.cells #[.bool false, .int .i64 xn, .slice ad (Fo.len k) c] 35)).alloc (.cells #[] 3)).alloc (.cells #[.slice (some ⟨w.heap.size + 1, 0, none⟩) 0 0] 22)).cell? ((⟨w.heap.size + 2, 0, none⟩ : Addr).add j) = some u) := by
      have h := World.news_of_block (cs := #[.slice (some ⟨w.heap.size + 1, 0, none⟩) 0 0]) (heap_alloc_new ((w.alloc (.cells #[.bool false, .int .i64 xn, .slice ad (Fo.len k) c] 35)).alloc (.cells #[] 3)) (.cells #[.slice (some ⟨w.heap.size + 1, 0, none⟩) 0 0] 22))
      intro j u hu
      have := h j u hu
      rw [size2] at this
      exact this
    have hn1 : 0 + 1 ≤ maxLen := by unfold maxLen; omega
    have hn2 : (0 + 1) * 24 ≤ 140737488355328 := by omega
    go_enter Try.func49, Try.ntmps49
    go_wp2_with (at_builtin; refine wpList_append_lies _ rfl (.tmp 10) (.tmp 12) 24 rfl (w.heap.size + 1) 22 i22 (.slice none 0 0) 1 24 Try.underlying24 hi22 hz0 hz1 hz2 rfl (by decide) (.slice none 0 0) 0 [] rfl ⟨rfl, .inl ⟨rfl, rfl⟩⟩ ⟨w.heap.size + 2, 0, none⟩ 1 1 [.slice (some ⟨w.heap.size + 1, 0, none⟩) 0 0] rfl rfl Hnews.out (by simp [Value.oneCell']) (by decide) hn1 hn2 (by rw [size3]; omega) (w.heap.size + 3) (by rw [size3]) ?_; intro g cap w3 ho3 hg3 hat3 hlt3; have x2 := box_grown hg3)
    have hb3 : Below (w.heap.size + 1) (w.alloc (.cells #[.bool false, .int .i64 xn, .slice ad (Fo.len k) c] 35)) w3 := (((Below.refl _ _).alloc (by simp) _).alloc (by simp) _).grown hg3 (by rw [size3]; omega) (fun g hg => by simp [Value.ownBlock] at hg)
    have hP3 : Pw w3 (w.heap.size + 1) (some g) [.slice (some ⟨w.heap.size + 1, 0, none⟩) 0 0] (plTo k [] 0) := by
      refine ⟨by simp [plTo, Fo.take, placesF], fun i y q hy hq => ?_⟩
      have : i = 0 := by
        have := (List.getElem?_eq_some_iff.1 hy).1
        simpa using this
      subst this
      have hq' : q = [] := by
        simp [plTo] at hq
        exact hq
      simp only [List.getElem?_cons_zero, Option.some.injEq] at hy
      subst hy hq'
      refine ⟨own_empty ?_ (Nat.le_refl _), fun h hh => ?_⟩
      · rw [hg3.block (w.heap.size + 1) (by rw [size3]; omega) (by simp [Value.ownBlock]), Below.heap_alloc _ _ _ (by rw [size2]; omega)]
        have := heap_alloc_new (w.alloc (.cells #[.bool false, .int .i64 xn, .slice ad (Fo.len k) c] 35)) (.cells #[] 3)
        rw [World.size_alloc] at this
        exact this
      · simp [Value.ownBlock] at hh
        rcases hat3 with e | e
        · simp [Value.ownBlock] at e
        · simp; omega
    have Ho3 : Hid (w3.ownsRow (w.heap.size + 1) 22 1 (.slice (some ⟨g, 0, none⟩) 1 cap) 1 [.slice (some ⟨w.heap.size + 1, 0, none⟩) 0 0]) := hide (by simpa using ho3)
    have HP3 := hide hP3
    have Hb3 := hide hb3
    clear ho3 hg3 hat3 hlt3 hb3 hP3 Hnews x2
    go_loopw [3, 17] (fun v i wr => ∃ (j : Nat) (ys : List Value) (z1 : Option Addr) (z3 : Nat), j ≤ Fo.len k ∧ i = .int .i64 j ∧ v = .slice z1 ys.length z3 ∧ wr.ownsRow (w.heap.size + 1) 22 1 (.slice z1 ys.length z3) ys.length ys ∧ Pw wr (w.heap.size + 1) (Value.slice z1 ys.length z3).ownBlock ys (plTo k [] j) ∧ Below (w.heap.size + 1) (w.alloc (.cells #[.bool false, .int .i64 xn, .slice ad (Fo.len k) c] 35)) wr) (fun _ i _ => Fo.len k - (intOf i).toNat)
    case atStart => exact ⟨0, _, _, _, Nat.zero_le _, rfl, rfl, Ho3.out, HP3.out, Hb3.out⟩
    case round =>
      obtain ⟨j, ys, z1, z3, hj, rfl, rfl, hor, hPr, hBx⟩ := hrel
      obtain ⟨-, -, t2, hBr, hlt0⟩ := box_cells hBx
      have Hor := hide hor
      have HPr := hide hPr
      have HBx := hide hBx
      clear hor hPr hBx Ho3 HP3 Hb3
      by_cases hlt : j < Fo.len k
      · have hlt' : (j : Int) < (Fo.len k : Int) := by omega
        obtain ⟨⟨⟨yv, yn⟩, yk⟩, hy⟩ : ∃ y, k.list[j]? = some y := ⟨k.list[j]'(by rw [Fo.len_list]; exact hlt), by simp⟩
        obtain ⟨c0, c1, yv', c2, hSy⟩ := (HF.out.below hBr).at hy
        have HSy := hide hSy
        obtain ⟨ya, yc, yb, yo, rfl, -, -, -, -⟩ := hSy
        have ha : ad = some ⟨b, o, none⟩ := had (by omega)
        subst ha
        have hsz : 1 + Fo.sizesR (Fo.take j k) + tszR yk ≤ 9000 := by
          have h2 := sizesR_take j k
          rw [hy] at h2
          simp only at h2
          unfold tszR at hb h2 ⊢
          omega
        have Hy := hide hy
        have hbk : tszR yk ≤ 9000 := by omega
        clear hy had
        go_wp2_with fail
        refine (HI.out ((yv, yn), yk) (List.mem_of_getElem? Hy.out) _ _ HSy.out hbk).mono ?_
        rintro e w1 ⟨vs, zs, rfl, hos, hPs, hb1⟩
        obtain ⟨s1, s3, rfl⟩ := slice_of_owns hos
        have hs1 := hb1.size
        have Hos := hide hos
        have HPs := hide hPs
        have Hb1 := hide hb1
        obtain ⟨Z, hZ⟩ : ∃ Z, Z = placesT (yv, yn) yk [] := ⟨_, rfl⟩
        have HZ := hide hZ
        have Hin : Hid (PlIn (w.heap.size + 1) wr.heap.size w1.heap.size (w.alloc (.cells #[.bool false, .int .i64 xn, .slice (some ⟨b, o, none⟩) (Fo.len k) c] 35)) w1 (plTo k [] j) Z j 0 w1 (.slice z1 ys.length z3)) :=
          ⟨ys, owns_keep Hor.out (fun g hg => hb1.block g (owns_at Hor.out g hg).2), by simpa using Pw.keep HPr.out (Fr.of_below hb1 none none) (fun q _ q2 q3 => ⟨fun e => (by cases e), fun e => (by cases e), q3⟩) (Nat.le_refl _), HBx.out.trans (hb1.mono (by omega)), fun g hg => .inl (owns_at Hor.out g hg).2, fun q _ _ => rfl, Nat.le_refl _⟩
        have hZl : zs.length = Z.length := by rw [HZ.out]; exact HPs.out.1
        have HZl := hide hZl
        have hzb : zs.length ≤ 9000 := by
          have h3 := placesT_len (yv, yn) yk []
          rw [← HZ.out] at h3
          omega
        have Hlen : Hid (∀ (m : Nat) (ys : List Value) (wq : World) (gq : Option Nat), Pw wq (w.heap.size + 1) gq ys (plTo k [] j ++ (Z.take m).map ((j : Int) :: ·)) → ys.length ≤ 9000) := fun m ys wq gq h => by
          have h1 := h.1
          have h2 := placesF_len (Fo.take j k) [] 0
          have h3 := placesT_len (yv, yn) yk []
          have h4 : (Z.take m).length ≤ Z.length := by rw [List.length_take]; omega
          rw [List.length_append, List.length_map, plTo, List.length_cons] at h1
          rw [← HZ.out] at h3
          omega
        have Hpl : Hid (∀ p ∈ Z, (1 + p.length) * 8 ≤ 140737488355328) := fun p hp => by
          have := placesT_plen (x := (yv, yn)) (k := yk) (p := p) (by rw [← HZ.out]; exact hp)
          omega
        have Hnx : Hid (plTo k [] j ++ (Z.take zs.length).map ((j : Int) :: ·) = plTo k [] (j + 1)) := by
          rw [Hid, plTo_succ Hy.out, placesT_pre, ← HZ.out, HZl.out, List.take_length]
          simp
        clear hos hPs hb1 hZ t2 c0 c1 c2 hZl
        generalize wr = wo at *
        go_wp2_with fail
        go_loopw [3, 27] (fun v i wr => ∃ (m : Nat) (l : Nat) (z1 : Option Addr) (z3 : Nat), m ≤ zs.length ∧ i = .int .i64 m ∧ v = .slice z1 l z3 ∧ PlIn (w.heap.size + 1) wo.heap.size w1.heap.size (w.alloc (.cells #[.bool false, .int .i64 xn, .slice (some ⟨b, o, none⟩) (Fo.len k) c] 35)) w1 (plTo k [] j) Z j m wr (.slice z1 l z3)) (fun _ i _ => zs.length - (intOf i).toNat)
        case atStart => exact ⟨0, _, _, _, Nat.zero_le _, rfl, rfl, Hin.out⟩
        case round =>
          obtain ⟨m, l, y1, y3, hm, rfl, rfl, hin⟩ := hrel
          have Hin2 := hide hin
          clear Hin hin
          by_cases hmt : m < zs.length
          · have hmt' : (m : Int) < (zs.length : Int) := by omega
            have hm0 : (0 : Int) ≤ (m : Int) := by omega
            obtain ⟨us, hou, hPu, hBu, hnu, hku, hsu⟩ := Hin2.out
            obtain ⟨gs, caps, hform, hgs1, hgs2⟩ := Hos.out.form (by omega)
            simp only [Value.slice.injEq, true_and] at hform
            obtain ⟨rfl, rfl⟩ := hform
            obtain ⟨pv, hpv⟩ : ∃ pv, zs[m]? = some pv := ⟨zs[m], by simp [hmt]⟩
            obtain ⟨p, hp⟩ : ∃ p, Z[m]? = some p := ⟨Z[m]'(by rw [← HZl.out]; exact hmt), by simp⟩
            have hpo := (HPs.out.2 m pv p hpv (by rw [← HZ.out]; exact hp)).1
            have hcell : wr.cell? ⟨gs, m, none⟩ = some pv := by
              rw [World.cell?_of_block (w := w1) (hku gs hgs1 hgs2), Hos.out.cellAt m (by omega), hpv]
            have HNp : Hid (NIn wr p pv) := own_nin (owns_keep hpo (fun g hg => by
              have h1 := owns_at hpo g hg
              exact hku g h1.1 h1.2))
            obtain ⟨p1, p3, rfl⟩ := nin_slice HNp.out
            have hlu : us.length = l := by
              obtain ⟨_, _, e⟩ := slice_of_owns hou
              simp only [Value.slice.injEq] at e
              exact e.2.1.symm
            subst hlu
            have hul := Hlen.out m us wr _ hPu
            have hpb := Hpl.out p (List.mem_of_getElem? hp)
            have Hou := hide hou
            have HPu := hide hPu
            have HBu := hide hBu
            have Hnu := hide hnu
            have Hku := hide hku
            have Hp := hide hp
            have hBs : w.heap.size + 1 ≤ wr.heap.size := by omega
            have Hown1 : Hid ((wr.alloc (.cells #[.int .i64 j] 3)).ownsRow (w.heap.size + 1) 3 1 (.slice (some ⟨wr.heap.size, 0, none⟩) 1 1) 1 [.int .i64 j]) := World.ownsRow_lit wr #[.int .i64 j] 1 hBs (by unfold maxLen; omega) rfl
            have Hn1 := hide (HNp.out.alloc (.cells #[.int .i64 j] 3))
            have hn1 : us.length + 1 ≤ maxLen := by unfold maxLen; omega
            have hn2 : (us.length + 1) * 24 ≤ 140737488355328 := by omega
            clear hou hPu hBu hnu hku hp hpv hpo
            go_wp2_with (first
              | (at_builtin; refine wpList_append_nums rfl (.tmp 33) (.tmp 34) rfl (w.heap.size + 1) (.slice (some ⟨wr.heap.size, 0, none⟩) 1 1) 1 [.int .i64 j] rfl Hown1.out p (.slice p1 p.length p3) rfl Hn1.out hpb (by simp; omega) ?_; intro vA wA hoA hgA hatA; obtain ⟨q1, q3, hvA⟩ := slice_of_owns hoA; subst hvA; have Hout := hide (pl_out (ob2 := .cells #[.slice q1 (1 + p.length) q3] 22) Hou.out hgA); have HnA := hide (pl_news wA (.slice q1 (1 + p.length) q3)); have hsA := hgA.size)
              | (at_builtin; refine wpList_append_lies _ rfl (.tmp 31) (.tmp 36) 24 rfl (w.heap.size + 1) 22 i22 (.slice none 0 0) 1 24 Try.underlying24 hi22 hz0 hz1 hz2 rfl (by decide) (.slice y1 us.length y3) us.length us rfl Hout.out ⟨wA.heap.size, 0, none⟩ 1 1 [.slice q1 (1 + p.length) q3] rfl rfl HnA.out (by simp [Value.oneCell']) (by decide) hn1 hn2 (by simp at hsA ⊢; omega) (wA.heap.size + 1) (by simp) ?_; intro g cap w3 ho3 hg3 hat3 hlt3))
            have Hstep := hide (pl_step (v3 := .slice (some ⟨g, 0, none⟩) (us.length + 1) cap) Hou.out HPu.out hoA hgA hatA rfl hg3 hat3)
            have Ho3 := hide ho3
            have Hg3 := hide hg3
            have Hat3 := hide hat3
            have HgA := hide hgA
            clear hoA hgA hatA ho3 hg3 hat3 hlt3
            go_roundw
            case rel =>
              refine ⟨m + 1, us.length + 1, _, _, by omega, by go_num, rfl, us ++ [.slice q1 (1 + p.length) q3], by simpa using Ho3.out, ?_, ?_, ?_, ?_, ?_⟩
              · have h := Hstep.out.1
                rw [List.take_add_one, Hp.out]
                simpa using h
              · exact HBu.out.trans (Hstep.out.2.below hBs (fun g hg => (owns_at Hou.out g hg).1) (fun g hg => by cases hg))
              · intro g' hg'
                simp [Value.ownBlock] at hg'
                subst hg'
                rcases Hat3.out with e | e
                · exact Hnu.out _ e
                · have := HgA.out.size
                  simp at this
                  exact .inr (by omega)
              · intro q h1 h2
                rw [Hstep.out.2.block q (by omega) (fun e => by rcases Hnu.out q e.symm with h | h; omega; omega) (fun e => by cases e)]
                exact Hku.out q h1 h2
              · have := Hstep.out.2.size
                omega
            case measure => simp [intOf]; omega
          · have Hend : Hid (PlIn (w.heap.size + 1) wo.heap.size w1.heap.size (w.alloc (.cells #[.bool false, .int .i64 xn, .slice (some ⟨b, o, none⟩) (Fo.len k) c] 35)) w1 (plTo k [] j) Z j zs.length wr (.slice y1 l y3)) := by
              have e : m = zs.length := by omega
              rw [← e]; exact Hin2.out
            go_wp2_with fail
            go_roundw
            case rel =>
              obtain ⟨us, hou, hPu, hBu, hnu, hku, hsu⟩ := Hend.out
              obtain ⟨y1', y3', e⟩ := slice_of_owns hou
              simp only [Value.slice.injEq] at e
              obtain ⟨rfl, rfl, rfl⟩ := e
              rw [Hnx.out] at hPu
              exact ⟨j + 1, us, _, _, by omega, by go_num, rfl, hou, hPu, hBu⟩
            case measure => simp [intOf]; omega
      · have Hend : Hid (plTo k [] j = placesT (false, xn) k []) := by
          have e : j = Fo.len k := by omega
          rw [Hid, e, Htt.out]
        clear had
        go_wp2_with fail
        go_ret
        refine ⟨_, ys, rfl, owns_mono Hor.out (by omega), ?_, hBr⟩
        rw [← Hend.out]
        exact Pw.keep HPr.out (Fr.refl wr none none) (fun q _ _ q3 => ⟨fun e => (by cases e), fun e => (by cases e), q3⟩) (by omega)
  · have Htt : Hid (placesT (true, xn) k [] = []) := rfl
    go_enter Try.func49, Try.ntmps49
    go_wp2_with fail
    go_ret
    refine ⟨_, [], rfl, ⟨rfl, .inl ⟨rfl, rfl⟩⟩, ?_, below_alloc _ _⟩
    rw [Htt.out]
    exact ⟨rfl, fun i y q hy => by simp at hy⟩

end Go.Proofs.Ytfnkjadfepoicac

/- A term's text: the document's Text. -/
namespace Go.Proofs.Ytfnkjadfepoicac
open Go.RowKit Go.Deep Go.ChangeShapes Go.WideShapes
attribute [local go_sem ↓] Go.wp_at_zero Go.wp_at_succ

/-- All terms but the first. -/
theorem terms_tail {n c b o : Nat} (hn : 2 ≤ n) (hlc : n ≤ c) (w : World) : (Instr.slice 33 (.slice (some ⟨b, o, none⟩) n c) (some (.int .i64 1)) none none).run Try.prog w = .ok (.slice (some ⟨b, o + 3, none⟩) (n - 1) (c - 1)) w := by
  rw [run_slice_l (ht := by kernel_rfl) (h0 := by omega) (h1 := by omega)]
  have e : (sizeOf (Try.prog.elem 33)).run Try.prog w = .ok 3 w := by
    rw [show Try.prog.elem 33 = 35 by kernel_rfl]
    simp [go_sem]
  have hc : ¬ c = 1 := by omega
  simp [Result.andThen, sliced, e, hc, Addr.add]
theorem ba_size {B : ByteArray} {l : List UInt8} (h : B.data.toList = l) : B.size = l.length := by rw [← h]; exact Array.length_toList.symm

end Go.Proofs.Ytfnkjadfepoicac

/- A text is read: the document's Rd.fail and Rd.is. -/
namespace Go.Proofs.Ytfnkjadfepoicac
open Go.RowKit Go.Deep Go.ChangeShapes Go.WideShapes
attribute [local go_sem ↓] Go.wp_at_zero Go.wp_at_succ
attribute [local go_sem] byte_zero text_tail

/-- The reader lies in the block rb: its symbols, what is left of the text, its error. -/
def RdAt (w : World) (rb : Nat) (sv : Value) (l : List UInt8) (e : Int) : Prop :=
  w.cell? ⟨rb, 0, none⟩ = some sv ∧ w.cell? ⟨rb, 1, none⟩ = some (str l) ∧ w.cell? ⟨rb, 2, none⟩ = some (.int .i64 e) ∧ ∀ i, w.frozen? ⟨rb, i, none⟩ = false

theorem RdAt.of_block {w w' : World} {rb : Nat} {sv : Value} {l : List UInt8} {e : Int} (h : RdAt w rb sv l e) (hb : w'.heap[rb]? = w.heap[rb]?) : RdAt w' rb sv l e :=
  ⟨(World.cell?_of_block hb).trans h.1, (World.cell?_of_block hb).trans h.2.1, (World.cell?_of_block hb).trans h.2.2.1, fun i => (World.frozen?_of_block hb).trans (h.2.2.2 i)⟩
theorem RdAt.setE {w : World} {rb : Nat} {sv : Value} {l : List UInt8} {e e' : Int} (h : RdAt w rb sv l e) : RdAt (w.setCell ⟨rb, 2, none⟩ (.int .i64 e')) rb sv l e' :=
  ⟨by rw [set_other (by simp)]; exact h.1, by rw [set_other (by simp)]; exact h.2.1, set_same h.2.2.1, fun i => by rw [World.frozen?_setCell]; exact h.2.2.2 i⟩
theorem RdAt.setS {w : World} {rb : Nat} {sv : Value} {l l' : List UInt8} {e : Int} (h : RdAt w rb sv l e) : RdAt (w.setCell ⟨rb, 1, none⟩ (str l')) rb sv l' e :=
  ⟨by rw [set_other (by simp)]; exact h.1, set_same h.2.1, by rw [set_other (by simp)]; exact h.2.2.1, fun i => by rw [World.frozen?_setCell]; exact h.2.2.2 i⟩
theorem RdAt.lt {w : World} {rb : Nat} {sv : Value} {l : List UInt8} {e : Int} (h : RdAt w rb sv l e) : rb < w.heap.size := World.block_lt_of_cell? _ _ h.1
theorem fr_set {w : World} {rb i : Nat} {v : Value} : Fr w (w.setCell ⟨rb, i, none⟩ v) (some rb) none :=
  ⟨rfl, rfl, rfl, by simp, fun q _ hq _ => Below.heap_setCell _ _ _ _ (fun e => hq (by rw [e]))⟩

set_option maxRecDepth 100000 in
set_option maxHeartbeats 400000 in
theorem fail_any (rb : Nat) (sv : Value) (l : List UInt8) (e' : Int) (w : World) (h : RdAt w rb sv l 0) :
    Calls Try.prog 74 #[.pointer (some ⟨rb, 0, none⟩), .int .i64 e'] w fun e w' => e = .returned (.tuple #[]) ∧ w' = w.setCell ⟨rb, 2, none⟩ (.int .i64 e') := by
  obtain ⟨h0, h1, h2, hf⟩ := h
  go_enter Try.func74, Try.ntmps74
  go_wp2_with fail
  exact bodyPost_end (v := .tuple #[]) (by simp [results, Try.results74, go_sem]) rfl ⟨rfl, rfl⟩

/-- The error behind a sign that must be. -/
def isE (c : UInt8) (l : List UInt8) (e : Int) : Int := if e ≠ 0 then e else (sgn c l).1

set_option maxRecDepth 100000 in
set_option maxHeartbeats 400000 in
theorem is_any (c : UInt8) (rb : Nat) (sv : Value) (l : List UInt8) (e : Int) (w : World) (h : RdAt w rb sv l e) (hl : e = 0 → l.length ≤ maxLen) :
    Calls Try.prog 75 #[.pointer (some ⟨rb, 0, none⟩), .int .u8 (c.toNat : Int)] w fun e' w' => e' = .returned (.tuple #[]) ∧ (∃ l', RdAt w' rb sv l' (isE c l e) ∧ (isE c l e = 0 → l' = (sgn c l).2)) ∧ Fr w w' (some rb) none ∧ w'.heap.size = w.heap.size := by
  have H := hide h
  obtain ⟨h0, h1, h2, hf⟩ := h
  by_cases he : e = 0
  · subst he
    have hl := hl rfl
    unfold maxLen at hl
    cases l with
    | nil =>
      have Hs : Hid (isE c [] 0 = 8) := by simp [Hid, isE, sgn]
      go_enter Try.func75, Try.ntmps75
      go_wp2_with fail
      refine (fail_any rb sv [] 8 w H.out).mono ?_
      rintro e w' ⟨rfl, hw'⟩
      rw [hw']
      clear hw' w'
      go_wp2_with fail
      refine bodyPost_end (v := .tuple #[]) (by simp [results, Try.results75, go_sem]) rfl ⟨rfl, ⟨[], ?_, fun h => ?_⟩, fr_set, by simp⟩
      · rw [Hs.out]; exact H.out.setE
      · rw [Hs.out] at h; cases h
    | cons d r =>
      by_cases hd : d = c
      · subst hd
        have Hs : Hid (isE d (d :: r) 0 = 0 ∧ (sgn d (d :: r)).2 = r) := by simp [Hid, isE, sgn]
        have hsl := run_tail d r
        go_enter Try.func75, Try.ntmps75
        go_wp2_with fail
        refine bodyPost_end (v := .tuple #[]) (by simp [results, Try.results75, go_sem]) rfl ⟨rfl, ⟨r, ?_, fun h => ?_⟩, fr_set, by simp⟩
        · rw [Hs.out.1]; exact H.out.setS
        · rw [Hs.out.2]
      · have Hs : Hid (isE c (d :: r) 0 = 2) := by simp [Hid, isE, sgn, hd]
        have hb : ((d.toNat : Int) != (c.toNat : Int)) = true := by
          simp only [bne_iff_ne, ne_eq, Int.natCast_inj]
          exact fun e => hd (UInt8.toNat_inj.1 e)
        clear hd
        go_enter Try.func75, Try.ntmps75
        go_wp2_with fail
        refine (fail_any rb sv (d :: r) 2 w H.out).mono ?_
        rintro e w' ⟨rfl, hw'⟩
        rw [hw']
        clear hw' w'
        go_wp2_with fail
        refine bodyPost_end (v := .tuple #[]) (by simp [results, Try.results75, go_sem]) rfl ⟨rfl, ⟨d :: r, ?_, fun h => ?_⟩, fr_set, by simp⟩
        · rw [Hs.out]; exact H.out.setE
        · rw [Hs.out] at h; cases h
  · have Hs : Hid (isE c l e = e) := by simp [Hid, isE, he]
    have heb : (e != 0) = true := by simpa using he
    have He := hide he
    clear he
    go_enter Try.func75, Try.ntmps75
    go_wp2_with fail
    refine bodyPost_end (v := .tuple #[]) (by simp [results, Try.results75, go_sem]) rfl ⟨rfl, ⟨l, ?_, fun h => ?_⟩, Fr.refl _ _ _, rfl⟩
    · rw [Hs.out]; exact H.out
    · rw [Hs.out] at h; exact absurd h He.out

end Go.Proofs.Ytfnkjadfepoicac

/- A text is read: the document's Rd.Term. -/
namespace Go.Proofs.Ytfnkjadfepoicac
open Go.RowKit Go.Deep Go.ChangeShapes Go.WideShapes
attribute [local go_sem ↓] Go.wp_at_zero Go.wp_at_succ
attribute [local go_sem] byte_zero text_tail

def rdE (s : List Int) (f : Nat) (l : List UInt8) (e : Int) : Int := if e ≠ 0 then e else (readT s f l).1

/-- Within a reading: the reader, what has stayed, the answer's box. -/
def Rs (w : World) (rb : Nat) (sv : Value) (l : List UInt8) (e : Int) (w1 : World) : Prop :=
  RdAt w1 rb sv l e ∧ Fr w w1 (some rb) none ∧ w1.cell? ⟨w.heap.size, 0, none⟩ = some (.bool false) ∧ w1.cell? ⟨w.heap.size, 1, none⟩ = some (.int .i64 0) ∧ w1.cell? ⟨w.heap.size, 2, none⟩ = some (.slice none 0 0) ∧ (∀ i, w1.frozen? ⟨w.heap.size, i, none⟩ = false) ∧ rb < w.heap.size

theorem Rs.start {w : World} {rb : Nat} {sv : Value} {l : List UInt8} {e : Int} (h : RdAt w rb sv l e) : Rs w rb sv l e (w.alloc (.cells #[.bool false, .int .i64 0, .slice none 0 0] 35)) :=
  ⟨h.of_block (Below.heap_alloc _ _ _ h.lt), Fr.of_below (below_alloc _ _) _ _, by simp, by simp, by simp, fun i => by simp, h.lt⟩
theorem Rs.set {w w1 : World} {rb i : Nat} {sv v : Value} {l l' : List UInt8} {e e' : Int} (h : Rs w rb sv l e w1) (hR : RdAt (w1.setCell ⟨rb, i, none⟩ v) rb sv l' e') : Rs w rb sv l' e' (w1.setCell ⟨rb, i, none⟩ v) := by
  obtain ⟨_, h2, h3, h4, h5, h6, h7⟩ := h
  refine ⟨hR, h2.trans fr_set (fun q _ hq => hq), ?_, ?_, ?_, fun i => by rw [World.frozen?_setCell]; exact h6 i, h7⟩
  · rw [set_other (by intro e; simp only [Addr.mk.injEq] at e; omega)]; exact h3
  · rw [set_other (by intro e; simp only [Addr.mk.injEq] at e; omega)]; exact h4
  · rw [set_other (by intro e; simp only [Addr.mk.injEq] at e; omega)]; exact h5
theorem Rs.setE {w w1 : World} {rb : Nat} {sv : Value} {l : List UInt8} {e : Int} (h : Rs w rb sv l e w1) (e' : Int) : Rs w rb sv l e' (w1.setCell ⟨rb, 2, none⟩ (.int .i64 e')) := h.set h.1.setE
theorem Rs.setS {w w1 : World} {rb : Nat} {sv : Value} {l : List UInt8} {e : Int} (h : Rs w rb sv l e w1) (l' : List UInt8) : Rs w rb sv l' e (w1.setCell ⟨rb, 1, none⟩ (str l')) := h.set h.1.setS
theorem set3_heapT {w : World} {b o q : Nat} {x y z : Value} (h : q ≠ b) : (set3 w b o x y z).heap[q]? = w.heap[q]? := by
  unfold set3
  rw [Below.heap_setCell _ _ _ _ h, Below.heap_setCell _ _ _ _ h, Below.heap_setCell _ _ _ _ h]
theorem Rs.fin {w w1 : World} {rb : Nat} {sv : Value} {l : List UInt8} {e : Int} (h : Rs w rb sv l e w1) (x y z : Value) : RdAt (set3 w1 w.heap.size 0 x y z) rb sv l e ∧ Fr w (set3 w1 w.heap.size 0 x y z) (some rb) none := by
  obtain ⟨h1, h2, _, _, _, _, h7⟩ := h
  refine ⟨h1.of_block (set3_heapT (by omega)), h2.os, h2.tape, h2.output, by rw [set3_size]; exact h2.size, fun q hq e1 e2 => ?_⟩
  rw [set3_heapT (by omega)]
  exact h2.block q hq e1 e2

/-- What Term leaves. -/
def TermPost (s : List Int) (f : Nat) (sv : Value) (l : List UInt8) (e : Int) (w : World) (rb : Nat) (er : Ending) (w' : World) : Prop :=
  ∃ (x : Bool × Int) (k : Fo) (a1 : Option Addr) (a2 a3 : Nat) (l' : List UInt8), er = .returned (.agg #[.bool x.1, .int .i64 x.2, .slice a1 a2 a3]) ∧ SB (New w w') w' k (.slice a1 a2 a3) ∧ Fr w w' (some rb) none ∧ RdAt w' rb sv l' (rdE s f l e) ∧ (rdE s f l e = 0 → (x, k) = (readT s f l).2.1 ∧ l' = (readT s f l).2.2)
theorem TermPost.mk {s : List Int} {f : Nat} {sv : Value} {l : List UInt8} {e : Int} {w : World} {rb : Nat} {er : Ending} {w' : World} (h : ∃ (x : Bool × Int) (k : Fo) (a1 : Option Addr) (a2 a3 : Nat) (l' : List UInt8), er = .returned (.agg #[.bool x.1, .int .i64 x.2, .slice a1 a2 a3]) ∧ SB (New w w') w' k (.slice a1 a2 a3) ∧ Fr w w' (some rb) none ∧ RdAt w' rb sv l' (rdE s f l e) ∧ (rdE s f l e = 0 → (x, k) = (readT s f l).2.1 ∧ l' = (readT s f l).2.2)) : TermPost s f sv l e w rb er w' := h

def TermSaid (s : List Int) (f : Nat) : Prop := ∀ (W : World) (sv : Value) (l : List UInt8) (e : Int) (w : World) (rb : Nat), NIn W s sv → s.all okNum = true → W.heap.size ≤ rb → Below W.heap.size W w → RdAt w rb sv l e → (e = 0 → l.length < f ∧ l.length ≤ maxLen) →
    Calls Try.prog 73 #[.pointer (some ⟨rb, 0, none⟩)] w (TermPost s f sv l e w rb)

set_option maxRecDepth 100000 in
set_option maxHeartbeats 400000 in
theorem term_bad (s : List Int) (f : Nat) (sv : Value) (l : List UInt8) (e : Int) (w : World) (rb : Nat) (hR : RdAt w rb sv l e) (he : e ≠ 0) :
    Calls Try.prog 73 #[.pointer (some ⟨rb, 0, none⟩)] w (TermPost s f sv l e w rb) := by
  have HS := hide (Rs.start hR)
  have He := hide he
  have heb : (e != 0) = true := by simpa using he
  have Hd : Hid (rdE s f l e = e) := by simp [Hid, rdE, he]
  clear he hR
  go_enter Try.func73, Try.ntmps73
  go_upto_region 1 with fail
  generalize w.alloc (.cells #[.bool false, .int .i64 0, .slice none 0 0] 35) = w0 at *
  obtain ⟨⟨h0, h1, h2, hf⟩, -, r0, r1, r2, rf, hlt⟩ := HS.out
  go_wp2_with fail
  refine bodyPost_ret (v := .agg #[.bool false, .int .i64 0, .slice none 0 0]) (by simp [results, Try.results73, go_sem, r0, r1, r2]) rfl (TermPost.mk ⟨(false, 0), .nil, none, 0, 0, l, rfl, SB.nil _ _, (HS.out.fin _ _ _).2, ?_, fun h => ?_⟩)
  · rw [Hd.out]; exact (HS.out.fin _ _ _).1
  · rw [Hd.out] at h; exact absurd h He.out

theorem is40 (rb : Nat) (sv : Value) (l : List UInt8) (e : Int) (w : World) (h : RdAt w rb sv l e) (hl : e = 0 → l.length ≤ maxLen) :
    Calls Try.prog 75 #[.pointer (some ⟨rb, 0, none⟩), .int .u8 40] w fun e' w' => e' = .returned (.tuple #[]) ∧ (∃ l', RdAt w' rb sv l' (isE 40 l e) ∧ (isE 40 l e = 0 → l' = (sgn 40 l).2)) ∧ Fr w w' (some rb) none ∧ w'.heap.size = w.heap.size := is_any 40 rb sv l e w h hl
theorem is44 (rb : Nat) (sv : Value) (l : List UInt8) (e : Int) (w : World) (h : RdAt w rb sv l e) (hl : e = 0 → l.length ≤ maxLen) :
    Calls Try.prog 75 #[.pointer (some ⟨rb, 0, none⟩), .int .u8 44] w fun e' w' => e' = .returned (.tuple #[]) ∧ (∃ l', RdAt w' rb sv l' (isE 44 l e) ∧ (isE 44 l e = 0 → l' = (sgn 44 l).2)) ∧ Fr w w' (some rb) none ∧ w'.heap.size = w.heap.size := is_any 44 rb sv l e w h hl
theorem is41 (rb : Nat) (sv : Value) (l : List UInt8) (e : Int) (w : World) (h : RdAt w rb sv l e) (hl : e = 0 → l.length ≤ maxLen) :
    Calls Try.prog 75 #[.pointer (some ⟨rb, 0, none⟩), .int .u8 41] w fun e' w' => e' = .returned (.tuple #[]) ∧ (∃ l', RdAt w' rb sv l' (isE 41 l e) ∧ (isE 41 l e = 0 → l' = (sgn 41 l).2)) ∧ Fr w w' (some rb) none ∧ w'.heap.size = w.heap.size := is_any 41 rb sv l e w h hl

/-- Where a loop over arguments stands: its error, what is read. -/
def Md (R : List UInt8 → Int × ((Bool × Int) × Fo) × List UInt8) (m : Nat) (r : List UInt8) (j : Nat) (acc : Fo) (E : Int) (l : List UInt8) : Prop :=
  (E ≠ 0 → (readA R m 0 .nil r).1 = E) ∧ (E = 0 → readA R m 0 .nil r = readA R (m - j) j acc l ∧ l.length ≤ r.length)

theorem Md.step {s : List Int} {f m : Nat} {r : List UInt8} {j : Nat} {acc k : Fo} {E E1 E2 : Int} {l l1 l2 : List UInt8} {x : Bool × Int} (h : Md (readT s f) m r j acc E l) (hj : j < m) (hE1 : E1 = isE (signF j) l E) (hl1 : E1 = 0 → l1 = (sgn (signF j) l).2)
    (hE2 : E2 = rdE s f l1 E1) (hl2 : E2 = 0 → (x, k) = (readT s f l1).2.1 ∧ l2 = (readT s f l1).2.2) : Md (readT s f) m r (j + 1) (Fo.snoc acc x k) E2 l2 := by
  by_cases h0 : E = 0
  · subst h0
    obtain ⟨h1, h2⟩ := h.2 rfl
    have e1 : E1 = (sgn (signF j) l).1 := by rw [hE1, isE]; simp
    have hA : readA (readT s f) m 0 .nil r = if (sgn (signF j) l).1 ≠ 0 then ((sgn (signF j) l).1, .nil, []) else
            if (readT s f (sgn (signF j) l).2).1 ≠ 0 then ((readT s f (sgn (signF j) l).2).1, .nil, []) else
            readA (readT s f) (m - (j + 1)) ((j : Int) + 1) (Fo.snoc acc (readT s f (sgn (signF j) l).2).2.1.1 (readT s f (sgn (signF j) l).2).2.1.2) (readT s f (sgn (signF j) l).2).2.2 := by
      rw [h1, show m - j = (m - (j + 1)) + 1 by omega]; rfl
    by_cases h3 : E1 = 0
    · have hl1' := hl1 h3
      have e2 : E2 = (readT s f l1).1 := by rw [hE2, rdE, h3]; simp
      rw [← e1, if_neg (by simpa using h3), ← hl1', ← e2] at hA
      have hle := sgn_len (signF j) l (by rw [← e1]; exact h3)
      rw [← hl1'] at hle
      have hle2 := readT_le s f l1
      refine ⟨fun h => ?_, fun h => ?_⟩
      · rw [hA, if_pos h]
      · obtain ⟨q1, q2⟩ := hl2 h
        rw [if_neg (by simpa using h), ← q1, ← q2] at hA
        exact ⟨by rw [hA]; simp, by rw [q2]; omega⟩
    · have e2 : E2 = E1 := by rw [hE2, rdE, if_pos h3]
      rw [← e1, if_pos h3] at hA
      refine ⟨fun _ => by rw [hA, e2], fun h => absurd (e2 ▸ h) h3⟩
  · have e1 : E1 = E := by rw [hE1, isE, if_pos h0]
    have e2 : E2 = E := by rw [hE2, rdE, e1, if_pos h0]
    exact ⟨fun _ => by rw [e2]; exact h.1 h0, fun h => absurd (e2 ▸ h) h0⟩
theorem Md.fin {s : List Int} {f m : Nat} {r : List UInt8} {acc : Fo} {E E3 : Int} {l l3 : List UInt8} (h : Md (readT s f) m r m acc E l) (hm : 0 < m) (hE3 : E3 = isE 41 l E) (hl3 : E3 = 0 → l3 = (sgn 41 l).2) :
    (argsT (readT s f) (m : Int) r).1 = E3 ∧ (E3 = 0 → argsT (readT s f) (m : Int) r = (0, acc, l3)) := by
  rw [argsT, if_neg (by omega), Int.toNat_natCast]
  by_cases h0 : E = 0
  · subst h0
    obtain ⟨h1, _⟩ := h.2 rfl
    rw [Nat.sub_self] at h1
    have e3 : E3 = (sgn 41 l).1 := by rw [hE3, isE]; simp
    have h1' : readA (readT s f) m 0 .nil r = (0, acc, l) := h1
    rw [h1']
    simp only [ne_eq, not_true_eq_false, if_false]
    by_cases h4 : (sgn 41 l).1 = 0
    · rw [if_neg (by simpa using h4)]
      exact ⟨by rw [e3, h4], fun h => by rw [hl3 h]⟩
    · rw [if_pos h4]
      exact ⟨e3.symm, fun h => absurd (e3 ▸ h) h4⟩
  · have e3 : E3 = E := by rw [hE3, isE, if_pos h0]
    have h1 := h.1 h0
    rw [if_pos (by rw [h1]; exact h0)]
    exact ⟨by rw [h1, e3], fun h => absurd (e3 ▸ h) h0⟩

/-- So far: j arguments are read, or there was an error. -/
def TmRel (s : List Int) (f m : Nat) (r : List UInt8) (w : World) (rb B : Nat) (sv : Value) (nn : Int) (j : Nat) (wr : World) : Prop :=
  ∃ (acc : Fo) (v : Value) (xs : List Value) (E : Int) (l : List UInt8), Fo.len acc = j ∧ Rs w rb sv l E wr ∧ Md (readT s f) m r j acc E l ∧ wr.ownsRow (B + 1) 35 3 v (Fo.len acc) xs ∧ CellsOf (Rm B (fun _ => False) wr v) wr acc xs ∧
    wr.cell? ⟨B, 0, none⟩ = some (.bool false) ∧ wr.cell? ⟨B, 1, none⟩ = some (.int .i64 nn) ∧ wr.cell? ⟨B, 2, none⟩ = some v ∧ (∀ i, wr.frozen? ⟨B, i, none⟩ = false)

theorem Rs.below {w w1 w2 : World} {rb : Nat} {sv : Value} {l : List UInt8} {e : Int} (h : Rs w rb sv l e w1) (hb : Below w1.heap.size w1 w2) : Rs w rb sv l e w2 := by
  obtain ⟨h1, h2, h3, h4, h5, h6, h7⟩ := h
  have hA : w.heap.size < w1.heap.size := World.block_lt_of_cell? _ _ h3
  exact ⟨h1.of_block (hb.block _ h1.lt), h2.trans (Fr.of_below hb none none) (fun q _ hq => by rcases hq with e | e <;> cases e), grow_cell hb _ _ h3, grow_cell hb _ _ h4, grow_cell hb _ _ h5, fun i => (hb.frozen hA).trans (h6 i), h7⟩
theorem Rs.fr {w w1 w2 : World} {rb : Nat} {sv : Value} {l l' : List UInt8} {e e' : Int} (h : Rs w rb sv l e w1) (hf : Fr w1 w2 (some rb) none) (hR : RdAt w2 rb sv l' e') : Rs w rb sv l' e' w2 := by
  obtain ⟨h1, h2, h3, h4, h5, h6, h7⟩ := h
  have hA : w.heap.size < w1.heap.size := World.block_lt_of_cell? _ _ h3
  have hb : w2.heap[w.heap.size]? = w1.heap[w.heap.size]? := hf.block _ hA (fun e => by simp at e; omega) (fun e => by cases e)
  exact ⟨hR, h2.trans hf (fun q _ hq => hq), (World.cell?_of_block hb).trans h3, (World.cell?_of_block hb).trans h4, (World.cell?_of_block hb).trans h5, fun i => (World.frozen?_of_block hb).trans (h6 i), h7⟩

theorem tm_next {s : List Int} {f m : Nat} {r : List UInt8} {w wr w2 w3 w4 : World} {rb B : Nat} {sv : Value} {nn : Int} {j : Nat} {acc k : Fo} {v v' a : Value} {xs : List Value} {E E1 : Int} {l l1 l2 : List UInt8} {x : Bool × Int} {g cap : Nat} {ob : Obj}
    (hacc : Fo.len acc = j) (hRs : Rs w rb sv l E wr) (hMd : Md (readT s f) m r j acc E l) (hj : j < m) (h1 : wr.ownsRow (B + 1) 35 3 v (Fo.len acc) xs) (h2 : CellsOf (Rm B (fun _ => False) wr v) wr acc xs)
    (q0 : wr.cell? ⟨B, 0, none⟩ = some (.bool false)) (q1 : wr.cell? ⟨B, 1, none⟩ = some (.int .i64 nn)) (q2 : wr.cell? ⟨B, 2, none⟩ = some v) (qf : ∀ i, wr.frozen? ⟨B, i, none⟩ = false) (hAB : w.heap.size < B)
    (hE1 : E1 = isE (signF j) l E) (hl1 : E1 = 0 → l1 = (sgn (signF j) l).2) (hf2 : Fr wr w2 (some rb) none) (hs2 : w2.heap.size = wr.heap.size) (hR2 : RdAt w2 rb sv l1 E1)
    (hk : SB (New w2 w3) w3 k a) (hf3 : Fr w2 w3 (some rb) none) (hR3 : RdAt w3 rb sv l2 (rdE s f l1 E1)) (hl2 : rdE s f l1 E1 = 0 → (x, k) = (readT s f l1).2.1 ∧ l2 = (readT s f l1).2.2)
    (hv' : v' = .slice (some ⟨g, 0, none⟩) (Fo.len acc + 1) cap) (ho : w4.ownsRow (B + 1) 35 3 v' (Fo.len acc + 1) (xs ++ [.bool x.1, .int .i64 x.2, a])) (hg : (w3.alloc ob).grownBy w4 v.ownBlock)
    (hat : v.ownBlock = some g ∨ g = w3.heap.size + 1) (hlt : g < w4.heap.size) : TmRel s f m r w rb B sv nn (j + 1) (w4.setCell ⟨B, 2, none⟩ v') := by
  have hrb := hRs.2.2.2.2.2.2
  have hBl : B < wr.heap.size := World.block_lt_of_cell? _ _ q0
  have hb2 : ∀ q, B ≤ q → q < wr.heap.size → w2.heap[q]? = wr.heap[q]? := fun q hq hlt => hf2.block q hlt (fun e => by simp at e; omega) (fun e => by cases e)
  have h1' : w2.ownsRow (B + 1) 35 3 v (Fo.len acc) xs := owns_keep h1 (fun g hg => by have := owns_at h1 g hg; exact hb2 g (by omega) this.2)
  have h2' : CellsOf (Rm B (fun _ => False) w2 v) w2 acc xs := CellsOf.frame (fun q hq => by rcases hq with h | ⟨p1, p2, p3⟩; exact h.elim; exact .inr ⟨p1, by omega, p3⟩) (fun q i hq => by
    rcases hq with h | ⟨p1, p2, p3⟩
    · exact h.elim
    · exact World.cell?_of_block (hb2 q (by omega) p2)) h2
  have eB := hb2 B (Nat.le_refl _) hBl
  have q2' := (World.cell?_of_block (a := ⟨B, 2, none⟩) eB).trans q2
  have hs3 := hf3.size
  obtain ⟨r1, r2, r3, r4, r5, r6, r7⟩ := row_step (B := B) (X := fun _ => False) (x := x) (k := k) h1' h2' (fun q hq => hq.elim) (by omega) ⟨_, q2'⟩ hs3 (fun q hq hlt => hf3.block q hlt (fun e => by simp at e; rcases hq with h | h; exact h.elim; omega) (fun e => by cases e)) (hk.frame (fun q hq => .inr hq) (fun _ _ _ => rfl)) hv' ho hg hat hlt
  have hno : ∀ q, q ≤ B → some q ≠ v.ownBlock := fun q hq e => by have := (owns_at h1 q e.symm).1; omega
  refine ⟨Fo.snoc acc x k, v', _, _, l2, by rw [snoc_len, hacc], ?_, hMd.step hj hE1 hl1 rfl hl2, r1, r2, (r5 0 (by omega)).trans ((World.cell?_of_block eB).trans q0), (r5 1 (by omega)).trans ((World.cell?_of_block eB).trans q1), r3, fun i => (r6 i).trans ((World.frozen?_of_block eB).trans (qf i))⟩
  have hRs3 := (hRs.fr hf2 hR2).fr hf3 hR3
  obtain ⟨a1, a2, a3, a4, a5, a6, a7⟩ := hRs3
  have hA3 : w.heap.size < w3.heap.size := World.block_lt_of_cell? _ _ a3
  have eA := r4 w.heap.size hA3 (hno _ (by omega)) (by omega)
  refine ⟨a1.of_block (r4 rb (by omega) (hno _ (by omega)) (by omega)), ⟨?_, ?_, ?_, by omega, fun q hq e1 e2 => ?_⟩, (World.cell?_of_block eA).trans a3, (World.cell?_of_block eA).trans a4, (World.cell?_of_block eA).trans a5, fun i => (World.frozen?_of_block eA).trans (a6 i), a7⟩
  · show w4.os = _; rw [hg.os]; exact a2.os
  · show w4.tape = _; rw [hg.tape]; exact a2.tape
  · show w4.output = _; rw [hg.output]; exact a2.output
  · rw [r4 q (by omega) (hno _ (by omega)) (by omega)]
    exact a2.block q hq e1 e2

theorem md_zero {s : List Int} {f m : Nat} {r : List UInt8} {acc : Fo} {E : Int} {l : List UInt8} (hm : m = 0) (h : Md (readT s f) m r m acc E l) : E = 0 ∧ acc = .nil ∧ l = r := by
  subst hm
  by_cases h0 : E = 0
  · obtain ⟨h1, _⟩ := h.2 h0
    simp only [readA, Nat.sub_self, Prod.mk.injEq, true_and] at h1
    exact ⟨h0, h1.1.symm, h1.2.symm⟩
  · have := h.1 h0
    simp only [readA] at this
    exact absurd this.symm h0
theorem row_fr {wr w2 : World} {B rb : Nat} {acc : Fo} {v : Value} {xs : List Value} (h1 : wr.ownsRow (B + 1) 35 3 v (Fo.len acc) xs) (h2 : CellsOf (Rm B (fun _ => False) wr v) wr acc xs) (hf : Fr wr w2 (some rb) none) (hr : rb < B) : SB (fun q => B + 1 ≤ q ∧ q < w2.heap.size) w2 acc v := by
  have hs := hf.size
  have hb : ∀ q, B + 1 ≤ q → q < wr.heap.size → w2.heap[q]? = wr.heap[q]? := fun q hq hlt => hf.block q hlt (fun e => by simp at e; omega) (fun e => by cases e)
  have h1' : w2.ownsRow (B + 1) 35 3 v (Fo.len acc) xs := owns_keep h1 (fun g hg => by have := owns_at h1 g hg; exact hb g (by omega) this.2)
  have h2' : CellsOf (fun q => B + 1 ≤ q ∧ q < w2.heap.size) w2 acc xs := CellsOf.frame (fun q hq => by rcases hq with h | ⟨p1, p2, p3⟩; exact h.elim; exact ⟨p1, by omega⟩) (fun q i hq => by
    rcases hq with h | ⟨p1, p2, p3⟩
    · exact h.elim
    · exact World.cell?_of_block (hb q p1 p2)) h2
  exact row_sb h1' h2' (fun q hq => hq) (fun g hg => by have := owns_at h1' g hg; exact this)

set_option maxHeartbeats 2000000 in
set_option maxRecDepth 100000 in
theorem term_any (s : List Int) : ∀ f, TermSaid s f := by
  intro f
  induction f with
  | zero =>
    intro W sv l e w rb _ _ _ _ hR hl
    by_cases he : e = 0
    · have := (hl he).1; omega
    · exact term_bad s 0 sv l e w rb hR he
  | succ f ih =>
    intro W sv l e w rb hN hs hWr hBW hR hl
    by_cases he : e = 0
    case neg => exact term_bad s (f + 1) sv l e w rb hR he
    subst he
    obtain ⟨hlf, hlm⟩ := hl rfl
    unfold maxLen at hlm
    have HI := hide ih
    have HS := hide (Rs.start hR)
    have Hd : Hid (rdE s (f + 1) l 0 = (readT s (f + 1) l).1) := by simp [Hid, rdE]
    have HN := hide hN
    have Hs := hide hs
    have HBW := hide hBW
    obtain ⟨sa, sc, sb, so, rfl, hsa, hslc, hscm, hsF⟩ := hN
    have HsF := hide hsF
    unfold maxLen at hscm
    clear hl ih hs hBW hsF hR
    go_enter Try.func73, Try.ntmps73
    go_upto_region 1 with fail
    generalize w.alloc (.cells #[.bool false, .int .i64 0, .slice none 0 0] 35) = w0 at *
    cases l with
    | nil =>
      have Hf : Hid ((readT s (f + 1) []).1 = 8) := rfl
      obtain ⟨⟨h0, h1, h2, hf⟩, -, r0, r1, r2, rf, hlt⟩ := HS.out
      go_wp2_with fail
      refine (fail_any rb _ [] 8 w0 HS.out.1).mono ?_
      rintro e w' ⟨rfl, hw'⟩
      have HS2 := hide (HS.out.setE 8)
      rw [← hw'] at HS2
      clear hw' h0 h1 h2 hf r0 r1 r2 rf
      obtain ⟨⟨h0, h1, h2, hf⟩, -, r0, r1, r2, rf, -⟩ := HS2.out
      go_wp2_with fail
      refine bodyPost_ret (v := .agg #[.bool false, .int .i64 0, .slice none 0 0]) (by simp [results, Try.results73, go_sem, r0, r1, r2]) rfl (TermPost.mk ⟨(false, 0), .nil, none, 0, 0, [], rfl, SB.nil _ _, (HS2.out.fin _ _ _).2, ?_, fun h => ?_⟩)
      · rw [Hd.out, Hf.out]; exact (HS2.out.fin _ _ _).1
      · rw [Hd.out, Hf.out] at h; cases h
    | cons c r =>
      simp only [List.length_cons] at hlf hlm
      have hc : (c.toNat : Int) < 256 := by have := c.toNat_lt; omega
      have hsl := run_tail c r
      have HS2 := hide (HS.out.setS r)
      obtain ⟨⟨h0, h1, h2, hf⟩, -, r0, r1, r2, rf, hlt⟩ := HS.out
      go_upto_region 8 with fail
      generalize w0.setCell ⟨rb, 1, none⟩ (.string ⟨r.toArray⟩) = w1 at *
      clear h0 h1 h2 hf r0 r1 r2 rf hsl HS
      obtain ⟨⟨h0, h1, h2, hf⟩, -, r0, r1, r2, rf, -⟩ := HS2.out
      by_cases h88 : c = 88
      · have hcb : ((c.toNat : Int) == 88) = true := by rw [h88]; rfl
        have Hf : Hid (readT s (f + 1) (c :: r) = ((rvar r).1, ((rvar r).2.1, .nil), (rvar r).2.2)) := by rw [Hid, readT, if_pos h88]
        clear h88
        cases r with
        | nil =>
          have Hv : Hid ((rvar []).1 = 8) := rfl
          go_wp2_with fail
          refine (fail_any rb _ [] 8 w1 HS2.out.1).mono ?_
          rintro e w' ⟨rfl, hw'⟩
          have HS3 := hide (HS2.out.setE 8)
          rw [← hw'] at HS3
          clear hw' h0 h1 h2 hf r0 r1 r2 rf
          obtain ⟨⟨h0, h1, h2, hf⟩, -, r0, r1, r2, rf, -⟩ := HS3.out
          go_wp2_with fail
          refine bodyPost_ret (v := .agg #[.bool false, .int .i64 0, .slice none 0 0]) (by simp [results, Try.results73, go_sem, r0, r1, r2]) rfl (TermPost.mk ⟨(false, 0), .nil, none, 0, 0, [], rfl, SB.nil _ _, (HS3.out.fin _ _ _).2, ?_, fun h => ?_⟩)
          · rw [Hd.out, Hf.out]; exact (HS3.out.fin _ _ _).1
          · rw [Hd.out, Hf.out] at h; cases h
        | cons d r =>
          have hd : (d.toNat : Int) < 256 := by have := d.toNat_lt; omega
          by_cases hdd : (d.toNat : Int) - 48 < 0 ∨ 5 ≤ (d.toNat : Int) - 48
          · have Hv : Hid ((readT s (f + 1) (c :: d :: r)).1 = 3) := by rw [Hid, Hf.out, rvar, if_pos hdd]
            by_cases hd0 : (d.toNat : Int) < 48
            · clear hdd
              go_wp2_with fail
              refine (fail_any rb _ (d :: r) 3 w1 HS2.out.1).mono ?_
              rintro e w' ⟨rfl, hw'⟩
              have HS3 := hide (HS2.out.setE 3)
              rw [← hw'] at HS3
              clear hw' h0 h1 h2 hf r0 r1 r2 rf
              obtain ⟨⟨h0, h1, h2, hf⟩, -, r0, r1, r2, rf, -⟩ := HS3.out
              go_wp2_with fail
              refine bodyPost_ret (v := .agg #[.bool false, .int .i64 0, .slice none 0 0]) (by simp [results, Try.results73, go_sem, r0, r1, r2]) rfl (TermPost.mk ⟨(false, 0), .nil, none, 0, 0, (d :: r), rfl, SB.nil _ _, (HS3.out.fin _ _ _).2, ?_, fun h => ?_⟩)
              · rw [Hd.out, Hv.out]; exact (HS3.out.fin _ _ _).1
              · rw [Hd.out, Hv.out] at h; cases h
            · have hd1 : (52 : Int) < (d.toNat : Int) := by omega
              clear hdd
              go_wp2_with fail
              refine (fail_any rb _ (d :: r) 3 w1 HS2.out.1).mono ?_
              rintro e w' ⟨rfl, hw'⟩
              have HS3 := hide (HS2.out.setE 3)
              rw [← hw'] at HS3
              clear hw' h0 h1 h2 hf r0 r1 r2 rf
              obtain ⟨⟨h0, h1, h2, hf⟩, -, r0, r1, r2, rf, -⟩ := HS3.out
              go_wp2_with fail
              refine bodyPost_ret (v := .agg #[.bool false, .int .i64 0, .slice none 0 0]) (by simp [results, Try.results73, go_sem, r0, r1, r2]) rfl (TermPost.mk ⟨(false, 0), .nil, none, 0, 0, (d :: r), rfl, SB.nil _ _, (HS3.out.fin _ _ _).2, ?_, fun h => ?_⟩)
              · rw [Hd.out, Hv.out]; exact (HS3.out.fin _ _ _).1
              · rw [Hd.out, Hv.out] at h; cases h
          · have Hv : Hid (readT s (f + 1) (c :: d :: r) = (0, ((true, (d.toNat : Int) - 48), .nil), r)) := by rw [Hid, Hf.out, rvar, if_neg hdd]
            have hd0 : ¬ (d.toNat : Int) < 48 := by omega
            have hd1 : ¬ (52 : Int) < (d.toNat : Int) := by omega
            have hsl := run_tail d r
            have HS3 := hide (HS2.out.setS r)
            clear hdd Hf
            simp only [List.length_cons] at hlf hlm
            go_upto_region 17 with fail
            generalize w1.setCell ⟨rb, 1, none⟩ (.string ⟨r.toArray⟩) = w2 at *
            clear h0 h1 h2 hf r0 r1 r2 rf hsl
            obtain ⟨⟨h0, h1, h2, hf⟩, -, r0, r1, r2, rf, -⟩ := HS3.out
            go_wp2_with fail
            refine bodyPost_ret (v := .agg #[.bool true, .int .i64 ((d.toNat : Int) - 48), .slice none 0 0]) (by simp [results, Try.results73, go_sem, r0, r1, r2]) rfl (TermPost.mk ⟨(true, (d.toNat : Int) - 48), .nil, none, 0, 0, r, rfl, SB.nil _ _, (HS3.out.fin _ _ _).2, ?_, fun _ => ?_⟩)
            · rw [Hd.out, Hv.out]; exact (HS3.out.fin _ _ _).1
            · rw [Hv.out]; exact ⟨rfl, rfl⟩
      · have hcb : ((c.toNat : Int) == 88) = false := by
          rw [beq_eq_false_iff_ne]
          intro e
          exact h88 (UInt8.toNat_inj.1 (by have : c.toNat = 88 := by omega
                                           rw [this]; rfl))
        have Ht : Hid (readT s (f + 1) (c :: r) = if (c.toNat : Int) - 97 < 0 ∨ (s.length : Int) ≤ (c.toNat : Int) - 97 then (7, ((false, 0), .nil), []) else
            if (argsT (readT s f) (s.getD ((c.toNat : Int) - 97).toNat 0) r).1 ≠ 0 then ((argsT (readT s f) (s.getD ((c.toNat : Int) - 97).toNat 0) r).1, ((false, 0), .nil), []) else
            (0, ((false, (c.toNat : Int) - 97), (argsT (readT s f) (s.getD ((c.toNat : Int) - 97).toNat 0) r).2.1), (argsT (readT s f) (s.getD ((c.toNat : Int) - 97).toNat 0) r).2.2)) := by rw [Hid, readT, if_neg h88]
        clear h88
        by_cases hc0 : (c.toNat : Int) < 97
        · have Hv : Hid ((readT s (f + 1) (c :: r)).1 = 7) := by rw [Hid, Ht.out, if_pos (.inl (by omega))]
          clear Ht
          go_wp2_with fail
          refine (fail_any rb _ r 7 w1 HS2.out.1).mono ?_
          rintro e w' ⟨rfl, hw'⟩
          have HS3 := hide (HS2.out.setE 7)
          rw [← hw'] at HS3
          clear hw' h0 h1 h2 hf r0 r1 r2 rf
          obtain ⟨⟨h0, h1, h2, hf⟩, -, r0, r1, r2, rf, -⟩ := HS3.out
          go_wp2_with fail
          refine bodyPost_ret (v := .agg #[.bool false, .int .i64 0, .slice none 0 0]) (by simp [results, Try.results73, go_sem, r0, r1, r2]) rfl (TermPost.mk ⟨(false, 0), .nil, none, 0, 0, r, rfl, SB.nil _ _, (HS3.out.fin _ _ _).2, ?_, fun h => ?_⟩)
          · rw [Hd.out, Hv.out]; exact (HS3.out.fin _ _ _).1
          · rw [Hd.out, Hv.out] at h; cases h
        by_cases hc1 : (s.length : Int) ≤ (c.toNat : Int) - 97
        · have Hv : Hid ((readT s (f + 1) (c :: r)).1 = 7) := by rw [Hid, Ht.out, if_pos (.inr hc1)]
          clear Ht
          go_wp2_with fail
          refine (fail_any rb _ r 7 w1 HS2.out.1).mono ?_
          rintro e w' ⟨rfl, hw'⟩
          have HS3 := hide (HS2.out.setE 7)
          rw [← hw'] at HS3
          clear hw' h0 h1 h2 hf r0 r1 r2 rf
          obtain ⟨⟨h0, h1, h2, hf⟩, -, r0, r1, r2, rf, -⟩ := HS3.out
          go_wp2_with fail
          refine bodyPost_ret (v := .agg #[.bool false, .int .i64 0, .slice none 0 0]) (by simp [results, Try.results73, go_sem, r0, r1, r2]) rfl (TermPost.mk ⟨(false, 0), .nil, none, 0, 0, r, rfl, SB.nil _ _, (HS3.out.fin _ _ _).2, ?_, fun h => ?_⟩)
          · rw [Hd.out, Hv.out]; exact (HS3.out.fin _ _ _).1
          · rw [Hd.out, Hv.out] at h; cases h
        rw [if_neg (by omega)] at Ht
        have hc0' : 97 ≤ (c.toNat : Int) := by omega
        have hc1' : (c.toNat : Int) - 97 < (s.length : Int) := by omega
        have hc2' : 0 ≤ (c.toNat : Int) - 97 := by omega
        have hsa' : sa = some ⟨sb, so, none⟩ := hsa (by omega)
        subst hsa'
        have hB1W : Below W.heap.size W w1 := HBW.out.trans (HS2.out.2.1.below HBW.out.size (fun g hg => by cases hg; exact hWr) (fun g hg => by cases hg))
        have hcell := grow_cell hB1W _ _ (HsF.out ((c.toNat : Int) - 97).toNat (by omega))
        have Hm := hide (sig_at Hs.out (i := ((c.toNat : Int) - 97).toNat) (by omega))
        have hcell1 := grow_cell (below_alloc w1 (.cells #[.bool false, .int .i64 ((c.toNat : Int) - 97), .slice none 0 0] 35)) _ _ hcell
        have hrb1 : rb < w1.heap.size := HS2.out.1.lt
        have k0 : (w1.alloc (.cells #[.bool false, .int .i64 ((c.toNat : Int) - 97), .slice none 0 0] 35)).cell? ⟨rb, 0, none⟩ = some (.slice (some ⟨sb, so, none⟩) s.length sc) := grow_cell (below_alloc _ _) _ _ h0
        generalize s.getD ((c.toNat : Int) - 97).toNat 0 = mm at *
        obtain ⟨m, rfl⟩ := Int.eq_ofNat_of_zero_le Hm.out.1
        have hm2 : m ≤ 2 := by have := Hm.out.2; omega
        clear hsa hcell hc1 hc0
        go_wp2_with fail
        go_quiet (fail)
        go_wp2_with fail
        have hAB : w.heap.size < w1.heap.size := World.block_lt_of_cell? _ _ r0
        have Hst : Hid (TmRel s f m r w rb w1.heap.size (.slice (some ⟨sb, so, none⟩) s.length sc) ((c.toNat : Int) - 97) 0 ((w1.alloc (.cells #[.bool false, .int .i64 ((c.toNat : Int) - 97), .slice none 0 0] 35)).drewN nq)) :=
          ⟨.nil, .slice none 0 0, [], 0, r, rfl, HS2.out.below (below_drewN (below_alloc _ _) _), ⟨fun h => absurd rfl h, fun _ => ⟨rfl, Nat.le_refl _⟩⟩, ⟨rfl, .inl ⟨rfl, rfl⟩⟩, rfl, by simp, by simp, by simp, fun i => by simp⟩
        clear hcell1 k0 h0 h1 h2 hf r0 r1 r2 rf hc1' hc2' hc0' hcb hc
        generalize (c.toNat : Int) - 97 = nn at *
        generalize w1.heap.size = B at *
        go_loopw [108] (fun i wr => ∃ j : Nat, j ≤ m ∧ i = .int .i64 j ∧ TmRel s f m r w rb B (.slice (some ⟨sb, so, none⟩) s.length sc) nn j wr) (fun i _ => m - (intOf i).toNat)
        case atStart => exact ⟨0, Nat.zero_le _, rfl, Hst.out⟩
        case round =>
          obtain ⟨j, hj, rfl, acc, v, xs, E, l, hacc, hRs, hMd, hR1, hR2, q0, q1, q2, qf⟩ := hrel
          clear Hst
          have HRs := hide hRs
          have HMd := hide hMd
          have HR1 := hide hR1
          have HR2 := hide hR2
          have Hqf := hide qf
          have Hacc := hide hacc
          obtain ⟨z1, z3, rfl⟩ := slice_of_owns hR1
          have hBl : B < wr.heap.size := World.block_lt_of_cell? _ _ q0
          have hrbw : rb < w.heap.size := hRs.2.2.2.2.2.2
          clear hMd hR1 hR2 qf hRs hacc
          by_cases hjm : j < m
          · have hjm' : (j : Int) < (m : Int) := by omega
            go_upto_if 112 with fail
            go_cut [108] (fun s108 wx => s108 = .int .i64 j ∧ ∃ l1, RdAt wx rb (.slice (some ⟨sb, so, none⟩) s.length sc) l1 (isE (signF j) l E) ∧ (isE (signF j) l E = 0 → l1 = (sgn (signF j) l).2) ∧ Fr wr wx (some rb) none ∧ wx.heap.size = wr.heap.size)
            case first =>
              have Hlm : Hid (E = 0 → l.length ≤ maxLen) := fun h => by
                have := (HMd.out.2 h).2
                unfold maxLen
                omega
              by_cases hj0 : j = 0
              · have hjb : ((j : Int) == 0) = true := by rw [beq_iff_eq]; omega
                have Hsg : Hid (signF (j : Int) = 40) := by rw [Hid, signF, if_pos (by omega)]
                clear hj0
                go_wp2_with fail
                refine (is40 rb _ l E wr HRs.out.1 Hlm.out).mono ?_
                rintro e w' ⟨rfl, hl1, hfr, hsz⟩
                go_wp2_with fail
                go_meet
                case rel =>
                  rw [Hsg.out]
                  obtain ⟨l1, h1, h2⟩ := hl1
                  exact ⟨rfl, l1, h1, h2, hfr, hsz⟩
              · have hjb : ((j : Int) == 0) = false := by rw [beq_eq_false_iff_ne]; omega
                have Hsg : Hid (signF (j : Int) = 44) := by rw [Hid, signF, if_neg (by omega)]
                clear hj0
                go_wp2_with fail
                refine (is44 rb _ l E wr HRs.out.1 Hlm.out).mono ?_
                rintro e w' ⟨rfl, hl1, hfr, hsz⟩
                go_wp2_with fail
                go_meet
                case rel =>
                  rw [Hsg.out]
                  obtain ⟨l1, h1, h2⟩ := hl1
                  exact ⟨rfl, l1, h1, h2, hfr, hsz⟩
            case rest =>
              obtain ⟨rfl, l1, hR2', hl1, hf2, hs2⟩ := hcut
              generalize wc = w2 at *
              have HR2' := hide hR2'
              have Hl1 := hide hl1
              have Hf2 := hide hf2
              have eB : w2.heap[B]? = wr.heap[B]? := hf2.block B hBl (fun e => by simp at e; omega) (fun e => by cases e)
              have g2 : w2.cell? ⟨B, 2, none⟩ = some (.slice z1 (Fo.len acc) z3) := (World.cell?_of_block eB).trans q2
              have gf : ∀ i, w2.frozen? ⟨B, i, none⟩ = false := fun i => (World.frozen?_of_block eB).trans (Hqf.out i)
              have hB2 : B < w2.heap.size := by omega
              have Hown2 : Hid (w2.ownsRow (B + 1) 35 3 (.slice z1 (Fo.len acc) z3) (Fo.len acc) xs) := owns_keep HR1.out (fun g hg => by
                have h := owns_at HR1.out g hg
                exact hf2.block g h.2 (fun e => by simp at e; omega) (fun e => by cases e))
              have HB2W : Hid (Below W.heap.size W w2) := HBW.out.trans (((HRs.out.fr hf2 hR2').2.1).below HBW.out.size (fun g hg => by cases hg; exact hWr) (fun g hg => by cases hg))
              have Hlen1 : Hid (isE (signF j) l E = 0 → l1.length < f ∧ l1.length ≤ maxLen) := fun h => by
                have h1 := Hl1.out h
                have hE : E = 0 := by
                  rcases Decidable.em (E = 0) with e | e
                  · exact e
                  · rw [isE, if_pos e] at h; exact absurd h e
                subst hE
                have h2 := (HMd.out.2 rfl).2
                have h3 := sgn_len (signF j) l (by rw [isE] at h; simpa using h)
                rw [h1]
                unfold maxLen
                omega
              obtain ⟨i26, hi26, hz0, hz1, hz2⟩ := info_parts Try.info35
              have hn1 : Fo.len acc + 1 ≤ maxLen := by rw [Hacc.out]; unfold maxLen; omega
              have hn2 : (Fo.len acc + 1) * 40 ≤ 140737488355328 := by rw [Hacc.out]; omega
              obtain ⟨E1, hE1⟩ : ∃ E1, E1 = isE (signF j) l E := ⟨_, rfl⟩
              have HE1 := hide hE1
              rw [← hE1] at HR2' Hlen1 Hl1
              clear hR2' hl1 hf2 hE1
              go_upto_region 29 with fail
              go_region_law (first
                | (refine step_append_lies _ (by rfl) _ _ _ (by rfl) (B + 1) 35 i26 (.agg #[.bool false, .int .i64 0, .slice none 0 0]) 3 40 Try.underlying33 hi26 hz0 hz1 hz2 rfl (by decide) (.slice z1 (Fo.len acc) z3) (Fo.len acc) xs (by rfl) Hown3.out ⟨w3.heap.size, 0, none⟩ 1 1 [.bool xv, .int .i64 xn, .slice a1 a2 a3] (by rfl) (by rfl) Hnews.out (by simp [Value.oneCell']) (by decide) hn1 hn2 (by simp; omega) (w3.heap.size + 1) (by simp) ?_; intro g cap w4 ho4 hg4 hat4 hlt4; have x2 := out_cell hg4 hB3 Hno.out g3; have xf := out_frozen hg4 hB3 Hno.out gf3)
                | (go_simp; go_at_call 73; refine (HI.out W _ l1 E1 _ rb HN.out Hs.out hWr ?_ ?_ Hlen1.out).mono ?_; (exact HB2W.out.drew); (exact HR2'.out.of_block rfl); rintro e w3 hT; obtain ⟨⟨xv, xn⟩, xk, a1, a2, a3, l2, rfl, hSk, hf3, hR3, hl2⟩ := hT
                   have hs3 := hf3.size; have eB3 : w3.heap[B]? = w2.heap[B]? := (hf3.block B hB2 (fun e => by simp at e; omega) (fun e => by cases e)); have g3 : w3.cell? ⟨B, 2, none⟩ = some (.slice z1 (Fo.len acc) z3) := ((World.cell?_of_block eB3).trans g2); have gf3 : ∀ i, w3.frozen? ⟨B, i, none⟩ = false := (fun i => (World.frozen?_of_block eB3).trans (gf i)); have hB3 : B < w3.heap.size := Nat.lt_of_lt_of_le hB2 hs3
                   have Hno : Hid (some B ≠ (Value.slice z1 (Fo.len acc) z3).ownBlock) := (fun e => by have := (owns_at Hown2.out _ e.symm).1; omega)
                   have Hown3 : Hid ((w3.alloc (.cells #[.bool xv, .int .i64 xn, .slice a1 a2 a3] 35)).ownsRow (B + 1) 35 3 (.slice z1 (Fo.len acc) z3) (Fo.len acc) xs) := (owns_keep Hown2.out (fun g hg => by have h := owns_at Hown2.out g hg; have hs : w2.heap.size ≤ w3.heap.size := hs3; rw [Below.heap_alloc _ _ _ (by omega)]; exact hf3.block g h.2 (fun e => by simp at e; omega) (fun e => by cases e)))
                   have Hnews : Hid (∀ j u, [Value.bool xv, .int .i64 xn, .slice a1 a2 a3][j]? = some u → (w3.alloc (.cells #[.bool xv, .int .i64 xn, .slice a1 a2 a3] 35)).cell? ((⟨w3.heap.size, 0, none⟩ : Addr).add j) = some u) := (World.news_of_block (cs := #[.bool xv, .int .i64 xn, .slice a1 a2 a3]) (heap_alloc_new w3 _))))
              all_goals
                have Hst := hide (tm_next (x := (xv, xn)) (k := xk) Hacc.out HRs.out HMd.out hjm HR1.out HR2.out q0 q1 q2 Hqf.out hAB HE1.out Hl1.out Hf2.out hs2 HR2'.out hSk ⟨hf3.os, hf3.tape, hf3.output, hf3.size, hf3.block⟩ hR3 hl2 rfl ho4 hg4 hat4 hlt4)
                clear hSk hf3 hR3 hl2 ho4 hg4 hat4 hlt4 x2 xf g3 gf3 Hown3 Hnews hi26 hz0 hz1 hz2
                go_wp2_with fail
                go_roundw
                case rel => exact ⟨j + 1, by omega, by go_num, Hst.out⟩
                case measure => simp [intOf]; omega
          · have hje : j = m := by omega
            subst hje
            by_cases hm0 : j = 0
            · have Hfin := hide (md_zero hm0 HMd.out)
              have Hv : Hid (readT s (f + 1) (c :: r) = (0, ((false, nn), acc), l)) := by
                have hA : argsT (readT s f) (j : Int) r = (0, .nil, r) := by rw [argsT, if_pos (by omega)]
                rw [Hid, Ht.out, hA, Hfin.out.2.1, Hfin.out.2.2]
                simp
              have HSB := hide (row_fr HR1.out HR2.out (Fr.refl wr (some rb) none) (by omega))
              have HRs0 : Hid (Rs w rb (.slice (some ⟨sb, so, none⟩) s.length sc) l 0 wr) := by
                have := HRs.out
                rw [Hfin.out.1] at this
                exact this
              obtain ⟨-, -, r0, r1, r2, rf, -⟩ := HRs.out
              have hj0 : ¬ (0 : Int) < (j : Int) := by omega
              have hge : ¬ ((j : Int) < (j : Int)) := by omega
              clear hjm hm0
              go_wp2_with fail
              refine bodyPost_ret (v := .agg #[.bool false, .int .i64 nn, .slice z1 (Fo.len acc) z3]) (by simp [results, Try.results73, go_sem, r0, r1, r2]) rfl (TermPost.mk ⟨(false, nn), acc, _, _, _, l, rfl, ?_, (HRs0.out.fin _ _ _).2, ?_, fun _ => ?_⟩)
              · exact (HSB.out.set3 (b := w.heap.size) (o := 0) (by omega)).frame (fun q hq => ⟨by omega, by rw [World.size_setCell, World.size_setCell, World.size_setCell]; exact hq.2⟩) (fun _ _ _ => rfl)
              · rw [Hd.out, Hv.out]; exact (HRs0.out.fin _ _ _).1
              · rw [Hv.out]; exact ⟨rfl, rfl⟩
            · have hm1 : (0 : Int) < (j : Int) := by omega
              have hge : ¬ ((j : Int) < (j : Int)) := by omega
              have Hlm : Hid (E = 0 → l.length ≤ maxLen) := fun h => by
                have := (HMd.out.2 h).2
                unfold maxLen
                omega
              have hj00 : 0 < j := by omega
              clear hjm hm0
              go_wp2_with fail
              refine (is41 rb _ l E wr HRs.out.1 Hlm.out).mono ?_
              rintro e w2 ⟨rfl, ⟨l3, hR3, hl3⟩, hf3, hs3⟩
              have HRs3 := hide (HRs.out.fr hf3 hR3)
              have HSB := hide (row_fr HR1.out HR2.out hf3 (by omega))
              have Hfin := hide (HMd.out.fin hj00 rfl hl3)
              obtain ⟨E3, hE3⟩ : ∃ E3, E3 = isE 41 l E := ⟨_, rfl⟩
              rw [← hE3] at Hfin HRs3
              have Hv : Hid ((readT s (f + 1) (c :: r)).1 = E3) := by
                rw [Hid, Ht.out]
                by_cases h : E3 = 0
                · rw [if_neg (by rw [Hfin.out.1]; simpa using h), h]
                · rw [if_pos (by rw [Hfin.out.1]; exact h), Hfin.out.1]
              have Hv2 : Hid (E3 = 0 → readT s (f + 1) (c :: r) = (0, ((false, nn), acc), l3)) := fun h => by
                rw [Ht.out, if_neg (by rw [Hfin.out.1]; simpa using h), Hfin.out.2 h]
              have eB : w2.heap[B]? = wr.heap[B]? := hf3.block B hBl (fun e => by simp at e; omega) (fun e => by cases e)
              have q0' := (World.cell?_of_block (a := ⟨B, 0, none⟩) eB).trans q0
              have q1' := (World.cell?_of_block (a := ⟨B, 1, none⟩) eB).trans q1
              have q2' := (World.cell?_of_block (a := ⟨B, 2, none⟩) eB).trans q2
              obtain ⟨-, -, r0, r1, r2, rf, -⟩ := HRs3.out
              clear hR3 hl3 hf3 hE3 q0 q1 q2
              go_wp2_with fail
              refine bodyPost_ret (v := .agg #[.bool false, .int .i64 nn, .slice z1 (Fo.len acc) z3]) (by simp [results, Try.results73, go_sem, r0, r1, r2]) rfl (TermPost.mk ⟨(false, nn), acc, _, _, _, l3, rfl, ?_, (HRs3.out.fin _ _ _).2, ?_, fun h => ?_⟩)
              · exact (HSB.out.set3 (b := w.heap.size) (o := 0) (by omega)).frame (fun q hq => ⟨by omega, by rw [World.size_setCell, World.size_setCell, World.size_setCell]; exact hq.2⟩) (fun _ _ _ => rfl)
              · rw [Hd.out, Hv.out]; exact (HRs3.out.fin _ _ _).1
              · rw [Hd.out, Hv.out] at h
                rw [Hv2.out h]; exact ⟨rfl, rfl⟩

end Go.Proofs.Ytfnkjadfepoicac
