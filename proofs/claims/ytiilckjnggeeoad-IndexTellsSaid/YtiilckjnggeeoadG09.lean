/- RPlaces RRd RTerm Tells RegInv P8k -/
import Derived.Test.YtiilckjnggeeoadG08
import Derived.Deep.RegionLaw
import Derived.Deep.DeepCutAuto
import Derived.Test.YtiilckjnggeeoadRows
import Derived.WalkKit
import Derived.RegionTactic
namespace Go.Proofs.Ytiilckjnggeeoad
open Go.RowKit Go.Deep Go.ChangeShapes Go.WideShapes
attribute [local go_sem ↓] Go.wp_at_zero Go.wp_at_succ
theorem placesF_pre (q : List Int) : ∀ (F : Fo) (p : List Int) (i : Int), placesF F (q ++ p) i = (placesF F p i).map (q ++ ·)
  | .nil, _, _ => rfl
  | .node _ _ x k r, p, i => by
    have h1 := placesF_pre q k (p ++ [i]) 0
    have h2 := placesF_pre q r p (i + 1)
    simp only [placesF, List.map_append, h2]
    cases x.1
    · simp only [Bool.false_eq_true, if_false, List.map_cons, List.append_assoc] at h1 ⊢
      rw [h1]
    · simp
theorem placesT_pre (q : List Int) (x : Bool × Int) (k : Fo) : placesT x k q = (placesT x k []).map (q ++ ·) := by
  have := placesF_pre q k [] 0
  unfold placesT
  split
  · rfl
  · simp only [List.append_nil] at this
    simp [this]
theorem placesF_plen : ∀ (F : Fo) (q : List Int) (i : Int) (p : List Int), p ∈ placesF F q i → p.length ≤ q.length + Fo.sizesR F
  | .nil, _, _, _, h => by simp [placesF] at h
  | .node _ _ x k r, q, i, p, h => by
    simp only [placesF, List.mem_append] at h
    simp only [Fo.sizesR]
    rcases h with h | h
    · cases hx : x.1 with
      | true => simp [hx] at h
      | false =>
        simp only [hx, Bool.false_eq_true, if_false, List.mem_cons] at h
        rcases h with rfl | h
        · simp; omega
        · have := placesF_plen k _ _ _ h
          simp at this
          omega
    · have := placesF_plen r _ _ _ h
      omega
theorem placesT_plen {x : Bool × Int} {k : Fo} {p : List Int} (h : p ∈ placesT x k []) : p.length ≤ tszR k := by
  unfold placesT at h
  unfold tszR
  split at h
  · simp at h
  · simp only [List.mem_cons] at h
    rcases h with rfl | h
    · simp
    · have := placesF_plen k _ _ _ h
      simp at this
      omega
theorem pl_step {B0 : Nat} {wr wA w3 : World} {vj v' v3 : Value} {ys : List Value} {Q : List (List Int)} {j : Int} {p : List Int} {g : Nat} {ob ob2 : Obj} (ho : wr.ownsRow B0 22 1 vj ys.length ys) (hP : Pw wr B0 vj.ownBlock ys Q)
    (hoA : wA.ownsRow B0 3 1 v' (1 + p.length) ([.int .i64 j] ++ vals p)) (hgA : (wr.alloc ob).grownBy wA (some wr.heap.size)) (hatA : v'.ownBlock = some wr.heap.size ∨ v'.ownBlock = some (wr.alloc ob).heap.size)
    (hv3 : v3.ownBlock = some g) (hg3 : (wA.alloc ob2).grownBy w3 vj.ownBlock) (hat3 : vj.ownBlock = some g ∨ g = wA.heap.size + 1) :
    Pw w3 B0 v3.ownBlock (ys ++ [v']) (Q ++ [j :: p]) ∧ Fr wr w3 vj.ownBlock none := by
  have s1 := hgA.size
  have s3 := hg3.size
  simp at s1 s3
  have hfr : Fr wr w3 vj.ownBlock none := by
    refine ⟨by rw [hg3.os]; exact hgA.os, by rw [hg3.tape]; exact hgA.tape, by rw [hg3.output]; exact hgA.output, by omega, fun q hq h1 _ => ?_⟩
    rw [hg3.block q (by simp; omega) h1, Below.heap_alloc _ _ _ (by omega), hgA.block q (by simp; omega) (by simp; omega), Below.heap_alloc _ _ _ hq]
  have hvb : ∀ h, v'.ownBlock = some h → wr.heap.size ≤ h ∧ h < wA.heap.size := fun h hh => by
    refine ⟨?_, (owns_at hoA h hh).2⟩
    rcases hatA with e | e
    · rw [e] at hh; simp at hh; omega
    · rw [e] at hh; simp at hh; omega
  refine ⟨Pw.append (Pw.keep hP hfr (fun q _ q2 q3 => ⟨q3, fun e => (by cases e), ?_⟩) (Nat.le_refl _)) ⟨rfl, fun i y q hy hq => ?_⟩, hfr⟩
  · rw [hv3]
    intro e
    simp at e
    subst e
    rcases hat3 with e | e
    · exact q3 e.symm
    · omega
  · have : i = 0 := by
      have := (List.getElem?_eq_some_iff.1 hy).1
      simpa using this
    subst this
    simp only [List.getElem?_cons_zero, Option.some.injEq] at hy hq
    subst hy hq
    refine ⟨?_, fun h hh => ?_⟩
    · have : w3.ownsRow B0 3 1 v' (1 + p.length) ([.int .i64 j] ++ vals p) := owns_keep hoA (fun h hh => by
        have hb := hvb h hh
        rw [hg3.block h (by simp; omega) (fun e => by have := (owns_at ho _ e.symm).2; omega), Below.heap_alloc _ _ _ hb.2])
      rw [show (j :: p).length = 1 + p.length by simp; omega]
      exact this
    · rw [hv3]
      intro e
      simp at e
      subst e
      have hb := hvb _ hh
      rcases hat3 with e | e
      · have := (owns_at ho _ e).2; omega
      · omega
theorem box_grown {w w3 : World} {x y z : Value} {T : TypeId} {o1 o2 : Obj} (hg : (((w.alloc (.cells #[x, y, z] T)).alloc o1).alloc o2).grownBy w3 (Value.slice none 0 0).ownBlock) : w3.cell? ⟨w.heap.size, 2, none⟩ = some z := by
  rw [hg.cell_far ⟨w.heap.size, 2, none⟩ (by show w.heap.size < _; rw [size3]; omega) (by simp [Value.ownBlock]), World.cell?_alloc_lt _ _ _ (by show w.heap.size < _; rw [size2]; omega), World.cell?_alloc_lt _ _ _ (by simp)]
  simp
theorem pl_out {B0 : Nat} {wr wA : World} {ob ob2 : Obj} {vj : Value} {n : Nat} {ys : List Value} (ho : wr.ownsRow B0 22 1 vj n ys) (hgA : (wr.alloc ob).grownBy wA (some wr.heap.size)) : (wA.alloc ob2).ownsRow B0 22 1 vj n ys :=
  owns_keep ho (fun g hg => by
    have h1 := (owns_at ho g hg).2
    have h2 := hgA.size
    simp at h2
    rw [Below.heap_alloc _ _ _ (by omega), hgA.block g (by simp; omega) (by simp; omega), Below.heap_alloc _ _ _ h1])
theorem pl_news (w : World) (v : Value) : ∀ j u, [v][j]? = some u → (w.alloc (.cells #[v] 22)).cell? ((⟨w.heap.size, 0, none⟩ : Addr).add j) = some u :=
  World.news_of_block (cs := #[v]) (heap_alloc_new w _)
def PlIn (B0 lo1 hi1 : Nat) (W0 w1 : World) (L Z : List (List Int)) (j : Int) (m : Nat) (wr : World) (vj : Value) : Prop :=
  ∃ ys, wr.ownsRow B0 22 1 vj ys.length ys ∧ Pw wr B0 vj.ownBlock ys (L ++ (Z.take m).map (j :: ·)) ∧ Below B0 W0 wr ∧ (∀ g, vj.ownBlock = some g → g < lo1 ∨ hi1 ≤ g) ∧ (∀ q, lo1 ≤ q → q < hi1 → wr.heap[q]? = w1.heap[q]?) ∧ hi1 ≤ wr.heap.size
def PlacesRSaid (x : Bool × Int) (k : Fo) : Prop := ∀ (a : Value) (w : World), SIn w k a → tszR k ≤ 9000 →
    Calls Try.prog 30 #[.agg #[.bool x.1, .int .i64 x.2, a]] w fun e w' => ∃ vo ys, e = .returned vo ∧ w'.ownsRow w.heap.size 22 1 vo ys.length ys ∧ Pw w' w.heap.size vo.ownBlock ys (placesT x k []) ∧ Below w.heap.size w w'
set_option maxHeartbeats 1000000 in
set_option maxRecDepth 100000 in
theorem placesR_any (x : Bool × Int) (k : Fo) : PlacesRSaid x k := by
  refine Fo.ind1 (p := PlacesRSaid) ?_ x k
  clear x k
  intro x k ih a w hS hb
  obtain ⟨xv, xn⟩ := x
  have HI := hide ih
  obtain ⟨ad, c, b, o, rfl, had, hlc, hcm, hF⟩ := hS
  have HF := hide hF
  unfold maxLen at hcm
  obtain ⟨i22, hi22, hz0, hz1, hz2⟩ := info_parts Try.info22
  clear ih hF
  cases xv
  · have Htt : Hid (placesT (false, xn) k [] = plTo k [] (Fo.len k)) := by rw [Hid, plTo_end]; rfl
    have Hnews : Hid (∀ j u, [Value.slice (some ⟨w.heap.size + 1, 0, none⟩) 0 0][j]? = some u → (((w.alloc (.cells #[.bool false, .int .i64 xn, .slice ad (Fo.len k) c] 33)).alloc (.cells #[] 3)).alloc (.cells #[.slice (some ⟨w.heap.size + 1, 0, none⟩) 0 0] 22)).cell? ((⟨w.heap.size + 2, 0, none⟩ : Addr).add j) = some u) := by
      have h := World.news_of_block (cs := #[.slice (some ⟨w.heap.size + 1, 0, none⟩) 0 0]) (heap_alloc_new ((w.alloc (.cells #[.bool false, .int .i64 xn, .slice ad (Fo.len k) c] 33)).alloc (.cells #[] 3)) (.cells #[.slice (some ⟨w.heap.size + 1, 0, none⟩) 0 0] 22))
      intro j u hu
      have := h j u hu
      rw [size2] at this
      exact this
    have hn1 : 0 + 1 ≤ maxLen := by unfold maxLen; omega
    have hn2 : (0 + 1) * 24 ≤ 140737488355328 := by omega
    go_enter Try.func30, Try.ntmps30
    go_wp2_with (at_builtin; refine wpList_append_lies _ rfl (.tmp 10) (.tmp 12) 51 rfl (w.heap.size + 1) 22 i22 (.slice none 0 0) 1 24 Try.underlying51 hi22 hz0 hz1 hz2 rfl (by decide) (.slice none 0 0) 0 [] rfl ⟨rfl, .inl ⟨rfl, rfl⟩⟩ ⟨w.heap.size + 2, 0, none⟩ 1 1 [.slice (some ⟨w.heap.size + 1, 0, none⟩) 0 0] rfl rfl Hnews.out (by simp [Value.oneCell']) (by decide) hn1 hn2 (by rw [size3]; omega) (w.heap.size + 3) (by rw [size3]) ?_; intro g cap w3 ho3 hg3 hat3 hlt3; have x2 := box_grown hg3)
    have hb3 : Below (w.heap.size + 1) (w.alloc (.cells #[.bool false, .int .i64 xn, .slice ad (Fo.len k) c] 33)) w3 := (((Below.refl _ _).alloc (by simp) _).alloc (by simp) _).grown hg3 (by rw [size3]; omega) (fun g hg => by simp [Value.ownBlock] at hg)
    have hP3 : Pw w3 (w.heap.size + 1) (some g) [.slice (some ⟨w.heap.size + 1, 0, none⟩) 0 0] (plTo k [] 0) := by
      refine ⟨by simp [plTo, Fo.take, placesF], fun i y q hy hq => ?_⟩
      have : i = 0 := by
        have := (List.getElem?_eq_some_iff.1 hy).1
        simpa using this
      subst this
      have hq' : q = [] := by
        simp [plTo] at hq
        exact hq
      simp only [List.getElem?_cons_zero, Option.some.injEq] at hy
      subst hy hq'
      refine ⟨own_empty ?_ (Nat.le_refl _), fun h hh => ?_⟩
      · rw [hg3.block (w.heap.size + 1) (by rw [size3]; omega) (by simp [Value.ownBlock]), Below.heap_alloc _ _ _ (by rw [size2]; omega)]
        have := heap_alloc_new (w.alloc (.cells #[.bool false, .int .i64 xn, .slice ad (Fo.len k) c] 33)) (.cells #[] 3)
        rw [World.size_alloc] at this
        exact this
      · simp [Value.ownBlock] at hh
        rcases hat3 with e | e
        · simp [Value.ownBlock] at e
        · simp; omega
    have Ho3 : Hid (w3.ownsRow (w.heap.size + 1) 22 1 (.slice (some ⟨g, 0, none⟩) 1 cap) 1 [.slice (some ⟨w.heap.size + 1, 0, none⟩) 0 0]) := hide (by simpa using ho3)
    have HP3 := hide hP3
    have Hb3 := hide hb3
    clear ho3 hg3 hat3 hlt3 hb3 hP3 Hnews x2
    go_loopw [3, 17] (fun v i wr => ∃ (j : Nat) (ys : List Value) (z1 : Option Addr) (z3 : Nat), j ≤ Fo.len k ∧ i = .int .i64 j ∧ v = .slice z1 ys.length z3 ∧ wr.ownsRow (w.heap.size + 1) 22 1 (.slice z1 ys.length z3) ys.length ys ∧ Pw wr (w.heap.size + 1) (Value.slice z1 ys.length z3).ownBlock ys (plTo k [] j) ∧ Below (w.heap.size + 1) (w.alloc (.cells #[.bool false, .int .i64 xn, .slice ad (Fo.len k) c] 33)) wr) (fun _ i _ => Fo.len k - (intOf i).toNat)
    case atStart => exact ⟨0, _, _, _, Nat.zero_le _, rfl, rfl, Ho3.out, HP3.out, Hb3.out⟩
    case round =>
      obtain ⟨j, ys, z1, z3, hj, rfl, rfl, hor, hPr, hBx⟩ := hrel
      obtain ⟨-, -, t2, hBr, hlt0⟩ := box_cells hBx
      have Hor := hide hor
      have HPr := hide hPr
      have HBx := hide hBx
      clear hor hPr hBx Ho3 HP3 Hb3
      by_cases hlt : j < Fo.len k
      · have hlt' : (j : Int) < (Fo.len k : Int) := by omega
        obtain ⟨⟨⟨yv, yn⟩, yk⟩, hy⟩ : ∃ y, k.list[j]? = some y := ⟨k.list[j]'(by rw [Fo.len_list]; exact hlt), by simp⟩
        obtain ⟨c0, c1, yv', c2, hSy⟩ := (HF.out.below hBr).at hy
        have HSy := hide hSy
        obtain ⟨ya, yc, yb, yo, rfl, -, -, -, -⟩ := hSy
        have ha : ad = some ⟨b, o, none⟩ := had (by omega)
        subst ha
        have hsz : 1 + Fo.sizesR (Fo.take j k) + tszR yk ≤ 9000 := by
          have h2 := sizesR_take j k
          rw [hy] at h2
          simp only at h2
          unfold tszR at hb h2 ⊢
          omega
        have Hy := hide hy
        have hbk : tszR yk ≤ 9000 := by omega
        clear hy had
        go_wp2_with fail
        refine (HI.out ((yv, yn), yk) (List.mem_of_getElem? Hy.out) _ _ HSy.out hbk).mono ?_
        rintro e w1 ⟨vs, zs, rfl, hos, hPs, hb1⟩
        obtain ⟨s1, s3, rfl⟩ := slice_of_owns hos
        have hs1 := hb1.size
        have Hos := hide hos
        have HPs := hide hPs
        have Hb1 := hide hb1
        obtain ⟨Z, hZ⟩ : ∃ Z, Z = placesT (yv, yn) yk [] := ⟨_, rfl⟩
        have HZ := hide hZ
        have Hin : Hid (PlIn (w.heap.size + 1) wr.heap.size w1.heap.size (w.alloc (.cells #[.bool false, .int .i64 xn, .slice (some ⟨b, o, none⟩) (Fo.len k) c] 33)) w1 (plTo k [] j) Z j 0 w1 (.slice z1 ys.length z3)) :=
          ⟨ys, owns_keep Hor.out (fun g hg => hb1.block g (owns_at Hor.out g hg).2), by simpa using Pw.keep HPr.out (Fr.of_below hb1 none none) (fun q _ q2 q3 => ⟨fun e => (by cases e), fun e => (by cases e), q3⟩) (Nat.le_refl _), HBx.out.trans (hb1.mono (by omega)), fun g hg => .inl (owns_at Hor.out g hg).2, fun q _ _ => rfl, Nat.le_refl _⟩
        have hZl : zs.length = Z.length := by rw [HZ.out]; exact HPs.out.1
        have HZl := hide hZl
        have hzb : zs.length ≤ 9000 := by
          have h3 := placesT_len (yv, yn) yk []
          rw [← HZ.out] at h3
          omega
        have Hlen : Hid (∀ (m : Nat) (ys : List Value) (wq : World) (gq : Option Nat), Pw wq (w.heap.size + 1) gq ys (plTo k [] j ++ (Z.take m).map ((j : Int) :: ·)) → ys.length ≤ 9000) := fun m ys wq gq h => by
          have h1 := h.1
          have h2 := placesF_len (Fo.take j k) [] 0
          have h3 := placesT_len (yv, yn) yk []
          have h4 : (Z.take m).length ≤ Z.length := by rw [List.length_take]; omega
          rw [List.length_append, List.length_map, plTo, List.length_cons] at h1
          rw [← HZ.out] at h3
          omega
        have Hpl : Hid (∀ p ∈ Z, (1 + p.length) * 8 ≤ 140737488355328) := fun p hp => by
          have := placesT_plen (x := (yv, yn)) (k := yk) (p := p) (by rw [← HZ.out]; exact hp)
          omega
        have Hnx : Hid (plTo k [] j ++ (Z.take zs.length).map ((j : Int) :: ·) = plTo k [] (j + 1)) := by
          rw [Hid, plTo_succ Hy.out, placesT_pre, ← HZ.out, HZl.out, List.take_length]
          simp
        clear hos hPs hb1 hZ t2 c0 c1 c2 hZl
        generalize wr = wo at *
        go_wp2_with fail
        go_loopw [3, 27] (fun v i wr => ∃ (m : Nat) (l : Nat) (z1 : Option Addr) (z3 : Nat), m ≤ zs.length ∧ i = .int .i64 m ∧ v = .slice z1 l z3 ∧ PlIn (w.heap.size + 1) wo.heap.size w1.heap.size (w.alloc (.cells #[.bool false, .int .i64 xn, .slice (some ⟨b, o, none⟩) (Fo.len k) c] 33)) w1 (plTo k [] j) Z j m wr (.slice z1 l z3)) (fun _ i _ => zs.length - (intOf i).toNat)
        case atStart => exact ⟨0, _, _, _, Nat.zero_le _, rfl, rfl, Hin.out⟩
        case round =>
          obtain ⟨m, l, y1, y3, hm, rfl, rfl, hin⟩ := hrel
          have Hin2 := hide hin
          clear Hin hin
          by_cases hmt : m < zs.length
          · have hmt' : (m : Int) < (zs.length : Int) := by omega
            have hm0 : (0 : Int) ≤ (m : Int) := by omega
            obtain ⟨us, hou, hPu, hBu, hnu, hku, hsu⟩ := Hin2.out
            obtain ⟨gs, caps, hform, hgs1, hgs2⟩ := Hos.out.form (by omega)
            simp only [Value.slice.injEq, true_and] at hform
            obtain ⟨rfl, rfl⟩ := hform
            obtain ⟨pv, hpv⟩ : ∃ pv, zs[m]? = some pv := ⟨zs[m], by simp [hmt]⟩
            obtain ⟨p, hp⟩ : ∃ p, Z[m]? = some p := ⟨Z[m]'(by rw [← HZl.out]; exact hmt), by simp⟩
            have hpo := (HPs.out.2 m pv p hpv (by rw [← HZ.out]; exact hp)).1
            have hcell : wr.cell? ⟨gs, m, none⟩ = some pv := by
              rw [World.cell?_of_block (w := w1) (hku gs hgs1 hgs2), Hos.out.cellAt m (by omega), hpv]
            have HNp : Hid (NIn wr p pv) := own_nin (owns_keep hpo (fun g hg => by
              have h1 := owns_at hpo g hg
              exact hku g h1.1 h1.2))
            obtain ⟨p1, p3, rfl⟩ := nin_slice HNp.out
            have hlu : us.length = l := by
              obtain ⟨_, _, e⟩ := slice_of_owns hou
              simp only [Value.slice.injEq] at e
              exact e.2.1.symm
            subst hlu
            have hul := Hlen.out m us wr _ hPu
            have hpb := Hpl.out p (List.mem_of_getElem? hp)
            have Hou := hide hou
            have HPu := hide hPu
            have HBu := hide hBu
            have Hnu := hide hnu
            have Hku := hide hku
            have Hp := hide hp
            have hBs : w.heap.size + 1 ≤ wr.heap.size := by omega
            have Hown1 : Hid ((wr.alloc (.cells #[.int .i64 j] 3)).ownsRow (w.heap.size + 1) 3 1 (.slice (some ⟨wr.heap.size, 0, none⟩) 1 1) 1 [.int .i64 j]) := World.ownsRow_lit wr #[.int .i64 j] 1 hBs (by unfold maxLen; omega) rfl
            have Hn1 := hide (HNp.out.alloc (.cells #[.int .i64 j] 3))
            have hn1 : us.length + 1 ≤ maxLen := by unfold maxLen; omega
            have hn2 : (us.length + 1) * 24 ≤ 140737488355328 := by omega
            clear hou hPu hBu hnu hku hp hpv hpo
            go_wp2_with (first
              | (at_builtin; refine wpList_append_nums rfl (.tmp 33) (.tmp 34) rfl (w.heap.size + 1) (.slice (some ⟨wr.heap.size, 0, none⟩) 1 1) 1 [.int .i64 j] rfl Hown1.out p (.slice p1 p.length p3) rfl Hn1.out hpb (by simp; omega) ?_; intro vA wA hoA hgA hatA; obtain ⟨q1, q3, hvA⟩ := slice_of_owns hoA; subst hvA; have Hout := hide (pl_out (ob2 := .cells #[.slice q1 (1 + p.length) q3] 22) Hou.out hgA); have HnA := hide (pl_news wA (.slice q1 (1 + p.length) q3)); have hsA := hgA.size)
              | (at_builtin; refine wpList_append_lies _ rfl (.tmp 31) (.tmp 36) 51 rfl (w.heap.size + 1) 22 i22 (.slice none 0 0) 1 24 Try.underlying51 hi22 hz0 hz1 hz2 rfl (by decide) (.slice y1 us.length y3) us.length us rfl Hout.out ⟨wA.heap.size, 0, none⟩ 1 1 [.slice q1 (1 + p.length) q3] rfl rfl HnA.out (by simp [Value.oneCell']) (by decide) hn1 hn2 (by simp at hsA ⊢; omega) (wA.heap.size + 1) (by simp) ?_; intro g cap w3 ho3 hg3 hat3 hlt3))
            have Hstep := hide (pl_step (v3 := .slice (some ⟨g, 0, none⟩) (us.length + 1) cap) Hou.out HPu.out hoA hgA hatA rfl hg3 hat3)
            have Ho3 := hide ho3
            have Hg3 := hide hg3
            have Hat3 := hide hat3
            have HgA := hide hgA
            clear hoA hgA hatA ho3 hg3 hat3 hlt3
            go_roundw
            case rel =>
              refine ⟨m + 1, us.length + 1, _, _, by omega, by go_num, rfl, us ++ [.slice q1 (1 + p.length) q3], by simpa using Ho3.out, ?_, ?_, ?_, ?_, ?_⟩
              · have h := Hstep.out.1
                rw [List.take_add_one, Hp.out]
                simpa using h
              · exact HBu.out.trans (Hstep.out.2.below hBs (fun g hg => (owns_at Hou.out g hg).1) (fun g hg => by cases hg))
              · intro g' hg'
                simp [Value.ownBlock] at hg'
                subst hg'
                rcases Hat3.out with e | e
                · exact Hnu.out _ e
                · have := HgA.out.size
                  simp at this
                  exact .inr (by omega)
              · intro q h1 h2
                rw [Hstep.out.2.block q (by omega) (fun e => by rcases Hnu.out q e.symm with h | h; omega; omega) (fun e => by cases e)]
                exact Hku.out q h1 h2
              · have := Hstep.out.2.size
                omega
            case measure => simp [intOf]; omega
          · have Hend : Hid (PlIn (w.heap.size + 1) wo.heap.size w1.heap.size (w.alloc (.cells #[.bool false, .int .i64 xn, .slice (some ⟨b, o, none⟩) (Fo.len k) c] 33)) w1 (plTo k [] j) Z j zs.length wr (.slice y1 l y3)) := by
              have e : m = zs.length := by omega
              rw [← e]; exact Hin2.out
            go_wp2_with fail
            go_roundw
            case rel =>
              obtain ⟨us, hou, hPu, hBu, hnu, hku, hsu⟩ := Hend.out
              obtain ⟨y1', y3', e⟩ := slice_of_owns hou
              simp only [Value.slice.injEq] at e
              obtain ⟨rfl, rfl, rfl⟩ := e
              rw [Hnx.out] at hPu
              exact ⟨j + 1, us, _, _, by omega, by go_num, rfl, hou, hPu, hBu⟩
            case measure => simp [intOf]; omega
      · have Hend : Hid (plTo k [] j = placesT (false, xn) k []) := by
          have e : j = Fo.len k := by omega
          rw [Hid, e, Htt.out]
        clear had
        go_wp2_with fail
        go_ret
        refine ⟨_, ys, rfl, owns_mono Hor.out (by omega), ?_, hBr⟩
        rw [← Hend.out]
        exact Pw.keep HPr.out (Fr.refl wr none none) (fun q _ _ q3 => ⟨fun e => (by cases e), fun e => (by cases e), q3⟩) (by omega)
  · have Htt : Hid (placesT (true, xn) k [] = []) := rfl
    go_enter Try.func30, Try.ntmps30
    go_wp2_with fail
    go_ret
    refine ⟨_, [], rfl, ⟨rfl, .inl ⟨rfl, rfl⟩⟩, ?_, below_alloc _ _⟩
    rw [Htt.out]
    exact ⟨rfl, fun i y q hy => by simp at hy⟩
end Go.Proofs.Ytiilckjnggeeoad

namespace Go.Proofs.Ytiilckjnggeeoad
open Go.RowKit Go.Deep Go.ChangeShapes Go.WideShapes
attribute [local go_sem ↓] Go.wp_at_zero Go.wp_at_succ
attribute [local go_sem] byte_zero text_tail
def RdAt (w : World) (rb : Nat) (sv : Value) (l : List UInt8) (e : Int) : Prop :=
  w.cell? ⟨rb, 0, none⟩ = some sv ∧ w.cell? ⟨rb, 1, none⟩ = some (str l) ∧ w.cell? ⟨rb, 2, none⟩ = some (.int .i64 e) ∧ ∀ i, w.frozen? ⟨rb, i, none⟩ = false
theorem RdAt.of_block {w w' : World} {rb : Nat} {sv : Value} {l : List UInt8} {e : Int} (h : RdAt w rb sv l e) (hb : w'.heap[rb]? = w.heap[rb]?) : RdAt w' rb sv l e :=
  ⟨(World.cell?_of_block hb).trans h.1, (World.cell?_of_block hb).trans h.2.1, (World.cell?_of_block hb).trans h.2.2.1, fun i => (World.frozen?_of_block hb).trans (h.2.2.2 i)⟩
theorem RdAt.lt {w : World} {rb : Nat} {sv : Value} {l : List UInt8} {e : Int} (h : RdAt w rb sv l e) : rb < w.heap.size := World.block_lt_of_cell? _ _ h.1
end Go.Proofs.Ytiilckjnggeeoad

namespace Go.Proofs.Ytiilckjnggeeoad
open Go.RowKit Go.Deep Go.ChangeShapes Go.WideShapes
attribute [local go_sem ↓] Go.wp_at_zero Go.wp_at_succ
attribute [local go_sem] byte_zero text_tail
def rdE (s : List Int) (f : Nat) (l : List UInt8) (e : Int) : Int := if e ≠ 0 then e else (readT s f l).1
def Rs (w : World) (rb : Nat) (sv : Value) (l : List UInt8) (e : Int) (w1 : World) : Prop :=
  RdAt w1 rb sv l e ∧ Fr w w1 (some rb) none ∧ w1.cell? ⟨w.heap.size, 0, none⟩ = some (.bool false) ∧ w1.cell? ⟨w.heap.size, 1, none⟩ = some (.int .i64 0) ∧ w1.cell? ⟨w.heap.size, 2, none⟩ = some (.slice none 0 0) ∧ (∀ i, w1.frozen? ⟨w.heap.size, i, none⟩ = false) ∧ rb < w.heap.size
def TermPost (s : List Int) (f : Nat) (sv : Value) (l : List UInt8) (e : Int) (w : World) (rb : Nat) (er : Ending) (w' : World) : Prop :=
  ∃ (x : Bool × Int) (k : Fo) (a1 : Option Addr) (a2 a3 : Nat) (l' : List UInt8), er = .returned (.agg #[.bool x.1, .int .i64 x.2, .slice a1 a2 a3]) ∧ SB (New w w') w' k (.slice a1 a2 a3) ∧ Fr w w' (some rb) none ∧ RdAt w' rb sv l' (rdE s f l e) ∧ (rdE s f l e = 0 → (x, k) = (readT s f l).2.1 ∧ l' = (readT s f l).2.2)
theorem TermPost.mk {s : List Int} {f : Nat} {sv : Value} {l : List UInt8} {e : Int} {w : World} {rb : Nat} {er : Ending} {w' : World} (h : ∃ (x : Bool × Int) (k : Fo) (a1 : Option Addr) (a2 a3 : Nat) (l' : List UInt8), er = .returned (.agg #[.bool x.1, .int .i64 x.2, .slice a1 a2 a3]) ∧ SB (New w w') w' k (.slice a1 a2 a3) ∧ Fr w w' (some rb) none ∧ RdAt w' rb sv l' (rdE s f l e) ∧ (rdE s f l e = 0 → (x, k) = (readT s f l).2.1 ∧ l' = (readT s f l).2.2)) : TermPost s f sv l e w rb er w' := h
theorem Rs.below {w w1 w2 : World} {rb : Nat} {sv : Value} {l : List UInt8} {e : Int} (h : Rs w rb sv l e w1) (hb : Below w1.heap.size w1 w2) : Rs w rb sv l e w2 := by
  obtain ⟨h1, h2, h3, h4, h5, h6, h7⟩ := h
  have hA : w.heap.size < w1.heap.size := World.block_lt_of_cell? _ _ h3
  exact ⟨h1.of_block (hb.block _ h1.lt), h2.trans (Fr.of_below hb none none) (fun q _ hq => by rcases hq with e | e <;> cases e), grow_cell hb _ _ h3, grow_cell hb _ _ h4, grow_cell hb _ _ h5, fun i => (hb.frozen hA).trans (h6 i), h7⟩
theorem Rs.fr {w w1 w2 : World} {rb : Nat} {sv : Value} {l l' : List UInt8} {e e' : Int} (h : Rs w rb sv l e w1) (hf : Fr w1 w2 (some rb) none) (hR : RdAt w2 rb sv l' e') : Rs w rb sv l' e' w2 := by
  obtain ⟨h1, h2, h3, h4, h5, h6, h7⟩ := h
  have hA : w.heap.size < w1.heap.size := World.block_lt_of_cell? _ _ h3
  have hb : w2.heap[w.heap.size]? = w1.heap[w.heap.size]? := hf.block _ hA (fun e => by simp at e; omega) (fun e => by cases e)
  exact ⟨hR, h2.trans hf (fun q _ hq => hq), (World.cell?_of_block hb).trans h3, (World.cell?_of_block hb).trans h4, (World.cell?_of_block hb).trans h5, fun i => (World.frozen?_of_block hb).trans (h6 i), h7⟩
end Go.Proofs.Ytiilckjnggeeoad

namespace Go.Proofs.Ytiilckjnggeeoad
open Go.RowKit Go.Deep Go.ChangeShapes Go.WideShapes
attribute [local go_sem ↓] Go.wp_at_zero Go.wp_at_succ
def B3 (w : World) (b : Nat) (x y z : Value) : Prop := w.cell? ⟨b, 0, none⟩ = some x ∧ w.cell? ⟨b, 1, none⟩ = some y ∧ w.cell? ⟨b, 2, none⟩ = some z ∧ ∀ i, w.frozen? ⟨b, i, none⟩ = false
theorem B3.below {w w' : World} {b : Nat} {x y z : Value} (h : B3 w b x y z) (hb : Below w.heap.size w w') : B3 w' b x y z :=
  ⟨grow_cell hb _ _ h.1, grow_cell hb _ _ h.2.1, grow_cell hb _ _ h.2.2.1, fun i => (hb.frozen (p := ⟨b, i, none⟩) (by have := World.block_lt_of_cell? _ _ h.1; exact this)).trans (h.2.2.2 i)⟩
theorem B3.lt {w : World} {b : Nat} {x y z : Value} (h : B3 w b x y z) : b < w.heap.size := World.block_lt_of_cell? _ _ h.1
theorem B3.new (w : World) (x y z : Value) (t : TypeId) : B3 (w.alloc (.cells #[x, y, z] t)) w.heap.size x y z := ⟨by simp, by simp, by simp, fun i => by simp⟩
theorem B3.other {w : World} {b b' o : Nat} {x y z x' y' z' : Value} (h : B3 w b x y z) (hb : b ≠ b') : B3 (set3 w b' o x' y' z') b x y z :=
  ⟨by rw [set3_other (.inl hb)]; exact h.1, by rw [set3_other (.inl hb)]; exact h.2.1, by rw [set3_other (.inl hb)]; exact h.2.2.1, fun i => by rw [set3_frozen]; exact h.2.2.2 i⟩
theorem B3.set {w : World} {b : Nat} {x y z x' y' z' : Value} (h : B3 w b x y z) : B3 (set3 w b 0 x' y' z') b x' y' z' := by
  obtain ⟨h0, h1, h2, hf⟩ := h
  obtain ⟨e0, e1, e2⟩ := set3_cells (o := 0) (x := x') (y := y') (z := z') h0 h1 h2
  exact ⟨e0, e1, e2, fun i => by rw [set3_frozen]; exact hf i⟩
theorem tl_same {x : Bool × Int} {k : Fo} {a c : Value} {w : World} (hS : SIn w k a) (hS2 : SIn w k c) :
    Calls Try.prog 12 #[.agg #[.bool x.1, .int .i64 x.2, a], .agg #[.bool x.1, .int .i64 x.2, c]] w fun e w' => e = .returned (.bool true) ∧ Below w.heap.size w w' := by
  have h := sameR_any x k x k a c w hS hS2
  rw [sameT_refl] at h
  exact h
def WIn2 (w : World) (Z : List (List Int)) (v : Value) : Prop :=
  ∃ (a : Option Addr) (c b : Nat), v = .slice a Z.length c ∧ (0 < Z.length → a = some ⟨b, 0, none⟩) ∧ Z.length ≤ c ∧ c ≤ maxLen ∧ ∀ i p, Z[i]? = some p → ∃ pv, w.cell? ⟨b, i, none⟩ = some pv ∧ NIn w p pv
theorem WIn2.below {w w' : World} (hb : Below w.heap.size w w') {Z : List (List Int)} {v : Value} (h : WIn2 w Z v) : WIn2 w' Z v := by
  obtain ⟨a, c, b, h1, h2, h3, h4, h5⟩ := h
  refine ⟨a, c, b, h1, h2, h3, h4, fun i p hp => ?_⟩
  obtain ⟨pv, k1, k2⟩ := h5 i p hp
  exact ⟨pv, grow_cell hb _ _ k1, k2.below hb⟩
theorem ways_in {w : World} {lo : Nat} {v : Value} {g : Option Nat} {ys : List Value} {Z : List (List Int)} (h : w.ownsRow lo 22 1 v ys.length ys) (hP : Pw w lo g ys Z) : WIn2 w Z v := by
  have hl := hP.1
  rcases h.2 with ⟨hv, h0⟩ | ⟨q, cap, cur, hv, _, _, hn, hm, _, _⟩
  · have hZ : Z.length = 0 := by omega
    refine ⟨none, 0, 0, by rw [hv, hZ], fun h => by omega, by omega, Nat.zero_le _, fun i p hp => ?_⟩
    have := (List.getElem?_eq_some_iff.1 hp).1
    omega
  · refine ⟨some ⟨q, 0, none⟩, cap, q, by rw [hv, hl], fun _ => rfl, by omega, hm, fun i p hp => ?_⟩
    have hi : i < Z.length := (List.getElem?_eq_some_iff.1 hp).1
    obtain ⟨pv, hpv⟩ : ∃ pv, ys[i]? = some pv := ⟨ys[i]'(by omega), by simp⟩
    refine ⟨pv, ?_, own_nin (hP.2 i pv p hpv hp).1⟩
    subst hv
    rw [h.cellAt i (by omega), hpv]
theorem tl_placesR {x : Bool × Int} {k : Fo} {a : Value} {w : World} {Z : List (List Int)} (hZ : Z = placesT x k []) (hS : SIn w k a) (hb : tszR k ≤ 12) :
    Calls Try.prog 30 #[.agg #[.bool x.1, .int .i64 x.2, a]] w fun e w' => ∃ z1 z3, e = .returned (.slice z1 Z.length z3) ∧ WIn2 w' Z (.slice z1 Z.length z3) ∧ Below w.heap.size w w' := by
  refine (placesR_any x k a w hS (by omega)).mono ?_
  rintro e w' ⟨vo, ys, rfl, h1, h2, h3⟩
  rw [← hZ] at h2
  have h4 := ways_in h1 h2
  obtain ⟨z1, z3, _, rfl, _⟩ := h4
  exact ⟨z1, z3, rfl, ways_in h1 h2, h3⟩
def AtIs (p : List Int) (x : Bool × Int) (k : Fo) (b : Bool) (z : Bool × Int) (m : Fo) : Prop := atT p x k = (if b then some (z, m) else none) ∧ (b = false → z = (false, 0) ∧ m = .nil)
theorem at_is (p : List Int) (x : Bool × Int) (k : Fo) : ∃ b z m, AtIs p x k b z m := by
  cases h : atT p x k with
  | none => exact ⟨false, (false, 0), .nil, h, fun _ => ⟨rfl, rfl⟩⟩
  | some y => exact ⟨true, y.1, y.2, h, fun h => by cases h⟩
theorem tl_at {p : List Int} {pv : Value} {x z : Bool × Int} {k m : Fo} {b : Bool} {a : Value} {w : World} (h : AtIs p x k b z m) (hS : SIn w k a) (hN : NIn w p pv) (hl : Fo.len k ≤ 1000) (hn : Fo.narrow k) :
    Calls Try.prog 79 #[.agg #[.bool x.1, .int .i64 x.2, a], pv] w fun e w' => ∃ a1 a2 a3, e = .returned (.tuple #[.agg #[.bool z.1, .int .i64 z.2, .slice a1 a2 a3], .bool b]) ∧ SB (New w w') w' m (.slice a1 a2 a3) ∧ Below w.heap.size w w' := by
  refine (at_any x k a p pv w hS hN hl hn).mono ?_
  rintro e w' ⟨hb, h1⟩
  cases b with
  | false =>
    obtain ⟨rfl, rfl⟩ := h.2 rfl
    rcases h1 with ⟨_, he⟩ | ⟨y, l, a', h2, _⟩
    · exact ⟨none, 0, 0, he, SB.nil _ _, hb⟩
    · rw [h.1] at h2; cases h2
  | true =>
    rcases h1 with ⟨h2, _⟩ | ⟨y, l, a', h2, he, h3⟩
    · rw [h.1] at h2; cases h2
    · rw [h.1] at h2
      cases h2
      obtain ⟨a1, a2, a3, rfl⟩ := slice_of_sin h3.toS
      exact ⟨a1, a2, a3, he, h3, hb⟩
theorem tl_atR {s : List Int} {X : Nat → Prop} {p : List Int} {pv : Value} {x z : Bool × Int} {k m : Fo} {b : Bool} {a : Value} {w : World} (h : AtIs p x k b z m) (hw : walkT s x k 1 = 0) (hX : ∀ q, X q → q < w.heap.size) (hS : SB X w k a) (hN : NIn w p pv) :
    Calls Try.prog 31 #[.agg #[.bool x.1, .int .i64 x.2, a], pv] w fun e w' => ∃ a1 a2 a3, e = .returned (.tuple #[.agg #[.bool z.1, .int .i64 z.2, .slice a1 a2 a3], .bool b]) ∧ SB X w' m (.slice a1 a2 a3) ∧ Below w.heap.size w w' := by
  refine (atR_any p X x k a pv w hX hS hN).mono ?_
  rintro e w' ⟨b', y, l, a1, a2, a3, rfl, h1, h2, h3, hb⟩
  rw [atR_atT hw, h.1] at h2
  have h1' := h1.grow hX hb
  cases b with
  | false =>
    obtain ⟨rfl, rfl⟩ := h.2 rfl
    cases b' with
    | false =>
      obtain ⟨rfl, rfl⟩ := h3 rfl
      exact ⟨a1, a2, a3, rfl, h1', hb⟩
    | true => cases h2
  | true =>
    cases b' with
    | false => cases h2
    | true =>
      cases h2
      exact ⟨a1, a2, a3, rfl, h1', hb⟩
end Go.Proofs.Ytiilckjnggeeoad

namespace Go.Proofs.Ytiilckjnggeeoad
open Go.RowKit
theorem countP_less {α : Type} {f g : α → Bool} {i : α} : ∀ {l : List α}, (∀ x, g x = true → f x = true) → i ∈ l → f i = true → g i = false → l.countP g < l.countP f
  | [], _, h, _, _ => by cases h
  | y :: r, hfg, h, hf, hg => by
    have hle : r.countP g ≤ r.countP f := List.countP_mono_left (fun x _ hx => hfg x hx)
    rw [List.countP_cons, List.countP_cons]
    rcases List.mem_cons.1 h with rfl | h
    · rw [hf, hg]; simp; omega
    · have := countP_less (l := r) hfg h hf hg
      by_cases hy : g y = true
      · rw [hy, hfg y hy]; simp; omega
      · have : g y = false := by simpa using hy
        rw [this]
        simp only [Bool.false_eq_true, if_false]
        split <;> omega
theorem getD_set (l : Array Bool) (i j : Nat) (d : Bool) (hi : i < l.size) : (l.setIfInBounds i true).getD j d = (j == i || l.getD j d) := by
  by_cases e : j = i
  · subst e
    simp [Array.getD_eq_getD_getElem?, hi]
  · have e' : (j == i) = false := by simpa using e
    rw [e']
    simp only [Array.getD_eq_getD_getElem?, Array.getElem?_setIfInBounds, Bool.false_or]
    rw [if_neg (fun h => e h.symm)]
theorem getD_in (l : Array Bool) (j : Nat) (hj : j < l.size) (d d' : Bool) : l.getD j d = l.getD j d' := by
  simp [Array.getD_eq_getD_getElem?, hj]
section
variable {P : Program} {ops : Array Oper} {Q : Exit → Act → World → Prop} {md : Region.Mode}
def Region.back (ops : Array Oper) : Bool := (List.range ops.size).all fun i => ((ops[i]?).map (·.after.all fun e => decide (e.on < i))).getD true
theorem all_listed {listed : Array Bool} (hs : listed.size = ops.size) (hb : Region.back ops = true) (hr : Region.ready md ops listed = []) : ∀ i, i < ops.size → listed.getD i false = true := by
  intro i
  induction i using Nat.strongRecOn with
  | _ i ih =>
    intro hi
    by_cases h : listed.getD i false = true
    · exact h
    · exfalso
      have h0 : listed.getD i true = false := by
        rw [getD_in listed i (by omega) true false]
        simpa using h
      have ho : ops[i]? = some ops[i] := by simp [hi]
      have hm : i ∈ Region.ready md ops listed := by
        unfold Region.ready
        rw [List.mem_filter]
        refine ⟨List.mem_range.2 hi, ?_⟩
        rw [h0, ho]
        simp only [Bool.not_false, Bool.true_and, Option.map_some, Option.getD_some]
        rw [Array.all_eq_true']
        intro e he
        have h1 := List.all_eq_true.1 hb i (List.mem_range.2 hi)
        rw [ho] at h1
        simp only [Option.map_some, Option.getD_some] at h1
        rw [Array.all_eq_true'] at h1
        have h2 := of_decide_eq_true (h1 e he)
        rw [ih e.on h2 (by omega)]
        simp
      rw [hr] at hm
      cases hm
theorem wpAny_inv {Inv : (Nat → Bool) → Act → World → Prop} (hb : Region.back ops = true)
    (hstep : ∀ (D : Nat → Bool) (a : Act) (w : World) (i : Nat) (o : Oper), i < ops.size → Inv D a w → D i = false → ops[i]? = some o → (∀ e ∈ o.after, Region.binds md e = true → D e.on = true) → wpOp P ops Q i (Inv fun j => j == i || D j) a w)
    (hdone : ∀ (D : Nat → Bool) (a : Act) (w : World), Inv D a w → (∀ i, i < ops.size → D i = true) → Q .normal a w) :
    ∀ (fuel : Nat) (listed : Array Bool) (a : Act) (w : World), listed.size = ops.size → (List.range ops.size).countP (fun i => !listed.getD i false) ≤ fuel → Inv (fun j => listed.getD j false) a w → wpAny P md ops Q fuel listed a w := by
  intro fuel
  induction fuel with
  | zero =>
    intro listed a w hs hc hI
    have hall : ∀ i, i < ops.size → listed.getD i false = true := fun i hi => by
      have h0 : (List.range ops.size).countP (fun i => !listed.getD i false) = 0 := by omega
      rw [List.countP_eq_zero] at h0
      simpa using h0 i (List.mem_range.2 hi)
    refine ⟨?_, hdone _ a w hI hall⟩
    unfold Region.ready
    rw [List.filter_eq_nil_iff]
    intro i hi
    have hi' := List.mem_range.1 hi
    rw [getD_in listed i (by omega) true false, hall i hi']
    simp
  | succ fuel ih =>
    intro listed a w hs hc hI
    refine ⟨fun hr => hdone _ a w hI (all_listed hs hb hr), fun i hi => ?_⟩
    unfold Region.ready at hi
    rw [List.mem_filter] at hi
    obtain ⟨hi1, hi2⟩ := hi
    have hi' := List.mem_range.1 hi1
    have ho : ops[i]? = some ops[i] := by simp [hi']
    rw [ho] at hi2
    simp only [Option.map_some, Option.getD_some, Bool.and_eq_true, Bool.not_eq_true'] at hi2
    obtain ⟨h1, h2⟩ := hi2
    have h1' : listed.getD i false = false := by rw [getD_in listed i (by omega) false true]; exact h1
    have := hstep _ a w i _ hi' hI h1' ho (fun e he hbd => by
      rw [Array.all_eq_true'] at h2
      have := h2 e he
      rw [hbd] at this
      simpa using this)
    refine wpOp_mono (fun a' w' h => ?_) this
    refine ih _ a' w' (by simp [hs]) ?_ ?_
    · have hlt := countP_less (i := i) (f := fun j => !listed.getD j false) (g := fun j => !(listed.setIfInBounds i true).getD j false) (l := List.range ops.size) (fun x hx => by
        rw [getD_set _ _ _ _ (by omega)] at hx
        simp at hx
        simp [hx.2]) hi1 (by simp [h1']) (by rw [getD_set _ _ _ _ (by omega)]; simp)
      omega
    · have e : (fun j => (listed.setIfInBounds i true).getD j false) = fun j => j == i || listed.getD j false := by
        funext j
        exact getD_set _ _ _ _ (by omega)
      rw [e]
      exact h
theorem region_inv {id : Nat} {a : Act} {w : World} (Inv : (Nat → Bool) → Act → World → Prop) (hm : P.follows .mixedOrders = true) (hb : Region.back ops = true)
    (hstep : ∀ (D : Nat → Bool) (a : Act) (w : World) (i : Nat) (o : Oper), i < ops.size → Inv D a w → D i = false → ops[i]? = some o → (∀ e ∈ o.after, Region.binds .any e = true → D e.on = true) → wpOp P ops Q i (Inv fun j => j == i || D j) a w)
    (hdone : ∀ (D : Nat → Bool) (a : Act) (w : World), Inv D a w → (∀ i, i < ops.size → D i = true) → Q .normal a w)
    (h0 : Inv (fun _ => false) a w.drew) : (Code.region id ops true).wp P Q a w := by
  refine wp_region_any hm ?_
  refine wpAny_inv hb hstep hdone _ _ a _ (by simp) ?_ ?_
  · exact Nat.le_trans List.countP_le_length (by simp)
  · have e : (fun j => (Array.replicate ops.size false).getD j false) = fun _ => false := by
      funext j
      simp only [Array.getD_eq_getD_getElem?, Array.getElem?_replicate]
      split <;> rfl
    rw [e]
    exact h0
end
end Go.Proofs.Ytiilckjnggeeoad

namespace Go.Proofs.Ytiilckjnggeeoad
open Go.RowKit Go.Deep Go.ChangeShapes Go.WideShapes
attribute [local go_sem ↓] Go.wp_at_zero Go.wp_at_succ
def KW (W : World) (bx rb : Nat) (t0 t1 t2 : Value) (w : World) : Prop := Below W.heap.size W w ∧ B3 w bx t0 t1 t2 ∧ ∃ u v z, B3 w rb u v z
theorem KW.below {W w w' : World} {bx rb : Nat} {t0 t1 t2 : Value} (h : KW W bx rb t0 t1 t2 w) (hb : Below w.heap.size w w') : KW W bx rb t0 t1 t2 w' := by
  obtain ⟨h1, h2, u, v, z, h3⟩ := h
  exact ⟨below_step h1 hb, h2.below hb, u, v, z, h3.below hb⟩
theorem KW.new {w : World} {t0 t1 t2 u v z : Value} {T U : TypeId} : KW w w.heap.size (w.heap.size + 1) t0 t1 t2 ((w.alloc (.cells #[t0, t1, t2] T)).alloc (.cells #[u, v, z] U)).drew := by
  have hd : Below ((w.alloc (.cells #[t0, t1, t2] T)).alloc (.cells #[u, v, z] U)).heap.size ((w.alloc (.cells #[t0, t1, t2] T)).alloc (.cells #[u, v, z] U)) ((w.alloc (.cells #[t0, t1, t2] T)).alloc (.cells #[u, v, z] U)).drew := (Below.refl _ _).drew
  have h1 : KW w w.heap.size (w.heap.size + 1) t0 t1 t2 ((w.alloc (.cells #[t0, t1, t2] T)).alloc (.cells #[u, v, z] U)) := by
    refine ⟨below_step (below_alloc _ _) (below_alloc _ _), (B3.new w t0 t1 t2 T).below (below_alloc _ _), u, v, z, ?_⟩
    have h := B3.new (w.alloc (.cells #[t0, t1, t2] T)) u v z U
    rw [World.size_alloc] at h
    exact h
  exact h1.below hd
theorem nin_set3 {w : World} {rb q n m : Nat} {x y z : Value} {l : List Int} (h : NIn w l (.slice (some ⟨q, 0, none⟩) n m)) (hne : q ≠ rb) : NIn (set3 w rb 0 x y z) l (.slice (some ⟨q, 0, none⟩) n m) := by
  obtain ⟨a, c, b, o, e, h1, h2, h3, h4⟩ := h
  refine ⟨a, c, b, o, e, h1, h2, h3, fun i hi => ?_⟩
  have ha := h1 (by omega)
  simp only [Value.slice.injEq] at e
  rw [ha] at e
  simp only [Option.some.injEq, Addr.mk.injEq] at e
  rw [set3_other (.inl (by omega))]
  exact h4 i hi
theorem nin_none8 (w : World) : NIn w [] (.slice none 0 0) := ⟨none, 0, 0, 0, rfl, fun h => by simp at h, Nat.le_refl _, Nat.zero_le _, fun i hi => by simp at hi⟩
def keyV (t : Tm) : Value := .agg #[.int .i64 (mkT t), .int .i64 (mkA t 0), .int .i64 (mkA t 1)]
structure RKp (W : World) (bx rb : Nat) (xv : Bool) (xn : Int) (k : Fo) (a : Value) (D : Nat → Bool) (w : World) (s3 s4 s5 s6 s7 s8 s9 : Value) : Prop where
  hb : KW W bx rb (.bool xv) (.int .i64 xn) a w
  h0 : D 0 = true → s3 = .agg #[.bool xv, .int .i64 xn, a]
  h1 : D 1 = true → s4 = .int .i64 (mkT ((xv, xn), k))
  h2 : D 2 = true → s5 = .agg #[.bool xv, .int .i64 xn, a]
  h3 : D 3 = true → s6 = .int .i64 (mkA ((xv, xn), k) 0)
  h4 : D 4 = true → s7 = .agg #[.bool xv, .int .i64 xn, a]
  h5 : D 5 = true → s8 = .int .i64 (mkA ((xv, xn), k) 1)
  h6 : D 6 = true → s9 = .agg #[.int .i64 (mkT ((xv, xn), k)), .int .i64 (mkA ((xv, xn), k) 0), .int .i64 (mkA ((xv, xn), k) 1)]
  h7 : D 7 = true → B3 w rb (.int .i64 (mkT ((xv, xn), k))) (.int .i64 (mkA ((xv, xn), k) 0)) (.int .i64 (mkA ((xv, xn), k) 1))
section
variable {W : World} {bx rb : Nat} {xv : Bool} {xn : Int} {k : Fo} {a : Value} {D : Nat → Bool} {w w' : World} {s3 s4 s5 s6 s7 s8 s9 : Value}
theorem RKp.step (h : RKp W bx rb xv xn k a D w s3 s4 s5 s6 s7 s8 s9) (hb : Below w.heap.size w w') : RKp W bx rb xv xn k a D w' s3 s4 s5 s6 s7 s8 s9 :=
  ⟨h.hb.below hb, h.h0, h.h1, h.h2, h.h3, h.h4, h.h5, h.h6, fun e => (h.h7 e).below hb⟩
theorem RKp.at0 (h : RKp W bx rb xv xn k a D w s3 s4 s5 s6 s7 s8 s9) : RKp W bx rb xv xn k a (fun j => j == 0 || D j) w (.agg #[.bool xv, .int .i64 xn, a]) s4 s5 s6 s7 s8 s9 :=
  ⟨h.hb, fun _ => rfl, h.h1, h.h2, h.h3, h.h4, h.h5, h.h6, h.h7⟩
theorem RKp.at1 (h : RKp W bx rb xv xn k a D w s3 s4 s5 s6 s7 s8 s9) : RKp W bx rb xv xn k a (fun j => j == 1 || D j) w s3 (.int .i64 (mkT ((xv, xn), k))) s5 s6 s7 s8 s9 :=
  ⟨h.hb, h.h0, fun _ => rfl, h.h2, h.h3, h.h4, h.h5, h.h6, h.h7⟩
theorem RKp.at2 (h : RKp W bx rb xv xn k a D w s3 s4 s5 s6 s7 s8 s9) : RKp W bx rb xv xn k a (fun j => j == 2 || D j) w s3 s4 (.agg #[.bool xv, .int .i64 xn, a]) s6 s7 s8 s9 :=
  ⟨h.hb, h.h0, h.h1, fun _ => rfl, h.h3, h.h4, h.h5, h.h6, h.h7⟩
theorem RKp.at3 (h : RKp W bx rb xv xn k a D w s3 s4 s5 s6 s7 s8 s9) : RKp W bx rb xv xn k a (fun j => j == 3 || D j) w s3 s4 s5 (.int .i64 (mkA ((xv, xn), k) 0)) s7 s8 s9 :=
  ⟨h.hb, h.h0, h.h1, h.h2, fun _ => rfl, h.h4, h.h5, h.h6, h.h7⟩
theorem RKp.at4 (h : RKp W bx rb xv xn k a D w s3 s4 s5 s6 s7 s8 s9) : RKp W bx rb xv xn k a (fun j => j == 4 || D j) w s3 s4 s5 s6 (.agg #[.bool xv, .int .i64 xn, a]) s8 s9 :=
  ⟨h.hb, h.h0, h.h1, h.h2, h.h3, fun _ => rfl, h.h5, h.h6, h.h7⟩
theorem RKp.at5 (h : RKp W bx rb xv xn k a D w s3 s4 s5 s6 s7 s8 s9) : RKp W bx rb xv xn k a (fun j => j == 5 || D j) w s3 s4 s5 s6 s7 (.int .i64 (mkA ((xv, xn), k) 1)) s9 :=
  ⟨h.hb, h.h0, h.h1, h.h2, h.h3, h.h4, fun _ => rfl, h.h6, h.h7⟩
theorem RKp.at6 (h : RKp W bx rb xv xn k a D w s3 s4 s5 s6 s7 s8 s9) : RKp W bx rb xv xn k a (fun j => j == 6 || D j) w s3 s4 s5 s6 s7 s8 (.agg #[.int .i64 (mkT ((xv, xn), k)), .int .i64 (mkA ((xv, xn), k) 0), .int .i64 (mkA ((xv, xn), k) 1)]) :=
  ⟨h.hb, h.h0, h.h1, h.h2, h.h3, h.h4, h.h5, fun _ => rfl, h.h7⟩
theorem RKp.at7 (hne : rb ≠ bx) (hW : W.heap.size ≤ rb) (h : RKp W bx rb xv xn k a D w s3 s4 s5 s6 s7 s8 s9) : RKp W bx rb xv xn k a (fun j => j == 7 || D j) (set3 w rb 0 (.int .i64 (mkT ((xv, xn), k))) (.int .i64 (mkA ((xv, xn), k) 0)) (.int .i64 (mkA ((xv, xn), k) 1))) s3 s4 s5 s6 s7 s8 s9 := by
  obtain ⟨h1, h2, u, v, z, h3⟩ := h.hb
  have hs : B3 (set3 w rb 0 (.int .i64 (mkT ((xv, xn), k))) (.int .i64 (mkA ((xv, xn), k) 0)) (.int .i64 (mkA ((xv, xn), k) 1))) rb (.int .i64 (mkT ((xv, xn), k))) (.int .i64 (mkA ((xv, xn), k) 0)) (.int .i64 (mkA ((xv, xn), k) 1)) := h3.set
  exact ⟨⟨set3_below h1 hW, h2.other (fun e => hne e.symm), _, _, _, hs⟩, h.h0, h.h1, h.h2, h.h3, h.h4, h.h5, h.h6, fun _ => hs⟩
theorem RKp.start (h : KW W bx rb (.bool xv) (.int .i64 xn) a w) : RKp W bx rb xv xn k a (fun _ => false) w s3 s4 s5 s6 s7 s8 s9 :=
  ⟨h, fun e => (by cases e), fun e => (by cases e), fun e => (by cases e), fun e => (by cases e), fun e => (by cases e), fun e => (by cases e), fun e => (by cases e), fun e => (by cases e)⟩
end
set_option maxRecDepth 100000 in
set_option maxHeartbeats 2000000 in
theorem keyP_any {s : List Int} (h6 : s.length ≤ 6) (x : Bool × Int) (k : Fo) (a : Value) (w : World) (hS : SIn w k a) (hg : sigT s (x, k)) :
    Calls Try.prog 21 #[.agg #[.bool x.1, .int .i64 x.2, a]] w fun e w' => e = .returned (keyV (x, k)) ∧ Below w.heap.size w w' := by
  obtain ⟨xv, xn⟩ := x
  obtain ⟨ad, c, b, o, e, h0⟩ := hS
  have HS : Hid (SIn w k a) := ⟨ad, c, b, o, e, h0⟩
  subst e
  have Hg := hide hg
  clear h0 hg
  unfold keyV
  go_enter Try.func21, Try.ntmps21
  go_upto_region 1 with fail
  have H0 : Hid (KW w w.heap.size (w.heap.size + 1) (.bool xv) (.int .i64 xn) (.slice ad (Fo.len k) c) (((w.alloc (.cells #[.bool xv, .int .i64 xn, .slice ad (Fo.len k) c] 33)).alloc (.cells #[.int .i64 0, .int .i64 0, .int .i64 0] 42)).drew)) := KW.new
  refine region_inv (fun D a w' => ∃ s3 s4 s5 s6 s7 s8 s9 : Value, a = ⟨#[.agg #[.bool xv, .int .i64 xn, .slice ad (Fo.len k) c], .pointer (some ⟨w.heap.size, 0, none⟩), .pointer (some ⟨w.heap.size + 1, 0, none⟩), s3, s4, s5, s6, s7, s8, s9], []⟩ ∧ RKp w w.heap.size (w.heap.size + 1) xv xn k (.slice ad (Fo.len k) c) D w' s3 s4 s5 s6 s7 s8 s9) (by kernel_rfl) (by kernel_rfl) ?_ ?_ ⟨_, _, _, _, _, _, _, rfl, RKp.start H0.out⟩
  · rintro D a w' i o hi ⟨s3, s4, s5, s6, s7, s8, s9, rfl, hI⟩ hD ho hdep
    have HI := hide hI
    clear hI
    have hi' : i < 8 := hi
    clear hi
    rcases (by omega : i = 0 ∨ i = 1 ∨ i = 2 ∨ i = 3 ∨ i = 4 ∨ i = 5 ∨ i = 6 ∨ i = 7) with rfl | rfl | rfl | rfl | rfl | rfl | rfl | rfl
    · obtain rfl := Option.some.inj ho
      clear ho hdep hD
      obtain ⟨q0, q1, q2, -⟩ := HI.out.hb.2.1
      refine wpOp_step rfl (fun K hK => ?_)
      go_simp
      exact hK _ _ ⟨_, _, _, _, _, _, _, rfl, HI.out.at0⟩
    · obtain rfl := Option.some.inj ho
      have d0 := HI.out.h0 (hdep ⟨0, .data⟩ (by simp) rfl)
      subst d0
      clear ho hdep hD
      refine wpOp_step rfl (fun K hK => ?_)
      go_simp
      refine (headP_any h6 (xv, xn) k _ _ Hg.out).mono ?_
      rintro e w2 ⟨rfl, hb2⟩
      exact hK _ _ ⟨_, _, _, _, _, _, _, rfl, (HI.out.step hb2).at1⟩
    · obtain rfl := Option.some.inj ho
      clear ho hdep hD
      obtain ⟨q0, q1, q2, -⟩ := HI.out.hb.2.1
      refine wpOp_step rfl (fun K hK => ?_)
      go_simp
      exact hK _ _ ⟨_, _, _, _, _, _, _, rfl, HI.out.at2⟩
    · obtain rfl := Option.some.inj ho
      have d2 := HI.out.h2 (hdep ⟨2, .data⟩ (by simp) rfl)
      subst d2
      clear ho hdep hD
      refine wpOp_step rfl (fun K hK => ?_)
      go_simp
      refine (argumentP_any h6 0 (by omega) (xv, xn) k _ _ (HS.out.below HI.out.hb.1) Hg.out).mono ?_
      rintro e w2 ⟨rfl, hb2⟩
      exact hK _ _ ⟨_, _, _, _, _, _, _, rfl, (HI.out.step hb2).at3⟩
    · obtain rfl := Option.some.inj ho
      clear ho hdep hD
      obtain ⟨q0, q1, q2, -⟩ := HI.out.hb.2.1
      refine wpOp_step rfl (fun K hK => ?_)
      go_simp
      exact hK _ _ ⟨_, _, _, _, _, _, _, rfl, HI.out.at4⟩
    · obtain rfl := Option.some.inj ho
      have d4 := HI.out.h4 (hdep ⟨4, .data⟩ (by simp) rfl)
      subst d4
      clear ho hdep hD
      refine wpOp_step rfl (fun K hK => ?_)
      go_simp
      refine (argumentP_any h6 1 (by omega) (xv, xn) k _ _ (HS.out.below HI.out.hb.1) Hg.out).mono ?_
      rintro e w2 ⟨rfl, hb2⟩
      exact hK _ _ ⟨_, _, _, _, _, _, _, rfl, (HI.out.step hb2).at5⟩
    · obtain rfl := Option.some.inj ho
      have d1 := HI.out.h1 (hdep ⟨1, .data⟩ (by simp) rfl)
      subst d1
      have d3 := HI.out.h3 (hdep ⟨3, .data⟩ (by simp) rfl)
      subst d3
      have d5 := HI.out.h5 (hdep ⟨5, .data⟩ (by simp) rfl)
      subst d5
      clear ho hdep hD
      refine wpOp_step rfl (fun K hK => ?_)
      go_simp
      exact hK _ _ ⟨_, _, _, _, _, _, _, rfl, HI.out.at6⟩
    · obtain rfl := Option.some.inj ho
      have d6 := HI.out.h6 (hdep ⟨6, .data⟩ (by simp) rfl)
      subst d6
      clear ho hdep hD
      obtain ⟨-, -, u, v, z, q0, q1, q2, q3⟩ := HI.out.hb
      have f0 := q3 0
      have f1 := q3 1
      have f2 := q3 2
      refine wpOp_step rfl (fun K hK => ?_)
      go_simp
      exact hK _ _ ⟨_, _, _, _, _, _, _, rfl, HI.out.at7 (by omega) (by omega)⟩
  · rintro D a w' ⟨s3, s4, s5, s6, s7, s8, s9, rfl, hI⟩ hall
    have hr := hI.h7 (hall 7 (by decide))
    have Hb := hide hI.hb.1
    obtain ⟨r0, r1, r2, -⟩ := hr
    clear hI hall
    go_wp2_with fail
    refine bodyPost_ret (v := .agg #[.int .i64 (mkT ((xv, xn), k)), .int .i64 (mkA ((xv, xn), k) 0), .int .i64 (mkA ((xv, xn), k) 1)]) (by simp [results, Try.results21, go_sem, r0, r1, r2]) rfl ⟨rfl, Hb.out⟩
end Go.Proofs.Ytiilckjnggeeoad
