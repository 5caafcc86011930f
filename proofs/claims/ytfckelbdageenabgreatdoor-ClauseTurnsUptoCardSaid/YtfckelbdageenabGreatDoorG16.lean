/- Found by a pattern: what the law asks, told of terms alone. -/
import Derived.Test.YtfckelbdageenabGreatDoorG15
import Derived.Test.YtfckelbdageenabGreatDoorG09
namespace Go.Proofs.YtfckelbdageenabGreatDoor
open Go.RowKit Go.Deep Go.ChangeShapes Go.WideShapes

theorem extF_nar : ∀ {k l : Fo} {s s' : Sb}, Fo.narrow l → (∀ p ∈ s, narT p.2) → extF k l s = some s' → ∀ p ∈ s', narT p.2
  | .nil, _, s, s', _, hs, h => by simp only [extF, Option.some.injEq] at h; subst h; exact hs
  | .node _ _ _ _ _, .nil, _, _, _, _, h => by simp [extF] at h
  | .node _ _ ⟨v, n⟩ k r, .node _ _ y l q, s, s', hl, hs, h => by
    rw [extF_node, Option.bind_eq_some_iff] at h
    obtain ⟨s1, h1, h2⟩ := h
    rw [nar_node] at hl
    refine extF_nar hl.2 ?_ h2
    cases v
    · unfold extT at h1
      simp only [Bool.false_eq_true, if_false] at h1
      split at h1
      · exact extF_nar hl.1.2 hs h1
      · cases h1
    · cases e : look s n with
      | none =>
        rw [extT_new e] at h1
        cases h1
        intro p hp
        simp only [List.mem_append, List.mem_singleton] at hp
        rcases hp with hp | rfl
        · exact hs p hp
        · exact hl.1
      | some z =>
        rw [extT_old e] at h1
        split at h1
        · cases h1; exact hs
        · cases h1
theorem extT_nar {t u : Tm} {s s' : Sb} (hu : narT u) (hs : ∀ p ∈ s, narT p.2) (h : extT s t u = some s') : ∀ p ∈ s', narT p.2 := by
  have h1 : extF (.node 0 0 t.1 t.2 .nil) (.node 0 0 u.1 u.2 .nil) s = some s' := by rw [extF_node, show extT s (t.1, t.2) (u.1, u.2) = some s' from h]; rfl
  exact extF_nar (k := .node 0 0 t.1 t.2 .nil) (l := .node 0 0 u.1 u.2 .nil) (nar_node.2 ⟨hu, trivial⟩) hs h1
/-- What Match finds, from right terms. -/
theorem match_ok {t u : Tm} {s : Sb} (hu : okT u) (hn : narT u) (h : extT [] t u = some s) : (∀ p ∈ s, narT p.2 ∧ okT p.2) ∧ subT (bnd s) t = u := by
  obtain ⟨h1, h2⟩ := extT_sound hu (fun p hp => by simp at hp) h
  have h3 := extT_nar hn (fun p hp => by simp at hp) h
  exact ⟨fun p hp => ⟨h3 p hp, h1 p hp⟩, h2⟩

theorem norm_norm : ∀ F : Fo, Fo.norm (Fo.norm F) = Fo.norm F
  | .nil => rfl
  | .node _ _ _ k r => by simp [Fo.norm, norm_norm k, norm_norm r]

/-- Terms laid side by side. -/
def two (t u : Tm) : Fo := .node 0 0 t.1 t.2 (.node 0 0 u.1 u.2 .nil)
def one1 (t : Tm) : Fo := .node 0 0 t.1 t.2 .nil
theorem right_two {s : List Int} {t u : Tm} (h : rightB s (two t u) = true) : s.all okNum = true ∧ wrongF s t.1 t.2 = 0 ∧ wrongF s u.1 u.2 = 0 := by
  simp only [rightB, two, Fo.list, List.all_cons, List.all_nil, Bool.and_eq_true, decide_eq_true_eq, Bool.and_true] at h
  exact ⟨(wsig_ok h.1).1, h.2.1, h.2.2⟩
theorem right_one {s : List Int} {t : Tm} (h : rightB s (one1 t) = true) : s.all okNum = true ∧ wrongF s t.1 t.2 = 0 := by
  simp only [rightB, one1, Fo.list, List.all_cons, List.all_nil, Bool.and_eq_true, decide_eq_true_eq, Bool.and_true] at h
  exact ⟨(wsig_ok h.1).1, h.2⟩
theorem two_in {w : World} {t u : Tm} {a c : Value} (h1 : SIn w t.2 a) (h2 : SIn w u.2 c) : SIn (w.alloc (.cells #[.bool t.1.1, .int .i64 t.1.2, a, .bool u.1.1, .int .i64 u.1.2, c] 36)) (two t u) (.slice (some ⟨w.heap.size, 0, none⟩) 2 2) :=
  ⟨_, 2, w.heap.size, 0, rfl, fun _ => rfl, Nat.le_refl _, by unfold maxLen; omega, FIn.mk (new_cell rfl) (new_cell rfl) (new_cell rfl) (h1.alloc _) (FIn.mk (new_cell rfl) (new_cell rfl) (new_cell rfl) (h2.alloc _) trivial)⟩
theorem one_in {w : World} {t : Tm} {a : Value} (h1 : SIn w t.2 a) : SIn (w.alloc (.cells #[.bool t.1.1, .int .i64 t.1.2, a] 36)) (one1 t) (.slice (some ⟨w.heap.size, 0, none⟩) 1 1) :=
  ⟨_, 1, w.heap.size, 0, rfl, fun _ => rfl, Nat.le_refl _, by unfold maxLen; omega, FIn.mk (new_cell rfl) (new_cell rfl) (new_cell rfl) (h1.alloc _) trivial⟩

/-- A right term that has been brought to one form is good. -/
theorem gd_right {s : List Int} {x : Bool × Int} {k : Fo} (hs : s.all okNum = true) (hk : Fo.norm k = k) (h : wrongF s x k = 0) : Gd (x, k) ∧ depT (x, k) ≤ 12 ∧ tszR k ≤ 12 := by
  have := gd_of_right hs h
  rwa [hk] at this

end Go.Proofs.YtfckelbdageenabGreatDoor

/- Where symbols stand: the document's Places. -/
namespace Go.Proofs.YtfckelbdageenabGreatDoor
open Go.RowKit Go.Deep Go.ChangeShapes Go.WideShapes
attribute [local go_sem ↓] Go.wp_at_zero Go.wp_at_succ

theorem placesF_pre (q : List Int) : ∀ (F : Fo) (p : List Int) (i : Int), placesF F (q ++ p) i = (placesF F p i).map (q ++ ·)
  | .nil, _, _ => rfl
  | .node _ _ x k r, p, i => by
    have h1 := placesF_pre q k (p ++ [i]) 0
    have h2 := placesF_pre q r p (i + 1)
    simp only [placesF, List.map_append, h2]
    cases x.1
    · simp only [Bool.false_eq_true, if_false, List.map_cons, List.append_assoc] at h1 ⊢
      rw [h1]
    · simp
theorem placesT_pre (q : List Int) (x : Bool × Int) (k : Fo) : placesT x k q = (placesT x k []).map (q ++ ·) := by
  have := placesF_pre q k [] 0
  unfold placesT
  split
  · rfl
  · simp only [List.append_nil] at this
    simp [this]
theorem placesF_plen : ∀ (F : Fo) (q : List Int) (i : Int) (p : List Int), p ∈ placesF F q i → p.length ≤ q.length + Fo.sizesR F
  | .nil, _, _, _, h => by simp [placesF] at h
  | .node _ _ x k r, q, i, p, h => by
    simp only [placesF, List.mem_append] at h
    simp only [Fo.sizesR]
    rcases h with h | h
    · cases hx : x.1 with
      | true => simp [hx] at h
      | false =>
        simp only [hx, Bool.false_eq_true, if_false, List.mem_cons] at h
        rcases h with rfl | h
        · simp; omega
        · have := placesF_plen k _ _ _ h
          simp at this
          omega
    · have := placesF_plen r _ _ _ h
      omega
theorem placesT_plen {x : Bool × Int} {k : Fo} {p : List Int} (h : p ∈ placesT x k []) : p.length ≤ tszR k := by
  unfold placesT at h
  unfold tszR
  split at h
  · simp at h
  · simp only [List.mem_cons] at h
    rcases h with rfl | h
    · simp
    · have := placesF_plen k _ _ _ h
      simp at this
      omega

theorem pl_step {B0 : Nat} {wr wA w3 : World} {vj v' v3 : Value} {ys : List Value} {Q : List (List Int)} {j : Int} {p : List Int} {g : Nat} {ob ob2 : Obj} (ho : wr.ownsRow B0 22 1 vj ys.length ys) (hP : Pw wr B0 vj.ownBlock ys Q)
    (hoA : wA.ownsRow B0 3 1 v' (1 + p.length) ([.int .i64 j] ++ vals p)) (hgA : (wr.alloc ob).grownBy wA (some wr.heap.size)) (hatA : v'.ownBlock = some wr.heap.size ∨ v'.ownBlock = some (wr.alloc ob).heap.size)
    (hv3 : v3.ownBlock = some g) (hg3 : (wA.alloc ob2).grownBy w3 vj.ownBlock) (hat3 : vj.ownBlock = some g ∨ g = wA.heap.size + 1) :
    Pw w3 B0 v3.ownBlock (ys ++ [v']) (Q ++ [j :: p]) ∧ Fr wr w3 vj.ownBlock none := by
  have s1 := hgA.size
  have s3 := hg3.size
  simp at s1 s3
  have hfr : Fr wr w3 vj.ownBlock none := by
    refine ⟨by rw [hg3.os]; exact hgA.os, by rw [hg3.tape]; exact hgA.tape, by rw [hg3.output]; exact hgA.output, by omega, fun q hq h1 _ => ?_⟩
    rw [hg3.block q (by simp; omega) h1, Below.heap_alloc _ _ _ (by omega), hgA.block q (by simp; omega) (by simp; omega), Below.heap_alloc _ _ _ hq]
  have hvb : ∀ h, v'.ownBlock = some h → wr.heap.size ≤ h ∧ h < wA.heap.size := fun h hh => by
    refine ⟨?_, (owns_at hoA h hh).2⟩
    rcases hatA with e | e
    · rw [e] at hh; simp at hh; omega
    · rw [e] at hh; simp at hh; omega
  refine ⟨Pw.append (Pw.keep hP hfr (fun q _ q2 q3 => ⟨q3, fun e => (by cases e), ?_⟩) (Nat.le_refl _)) ⟨rfl, fun i y q hy hq => ?_⟩, hfr⟩
  · rw [hv3]
    intro e
    simp at e
    subst e
    rcases hat3 with e | e
    · exact q3 e.symm
    · omega
  · have : i = 0 := by
      have := (List.getElem?_eq_some_iff.1 hy).1
      simpa using this
    subst this
    simp only [List.getElem?_cons_zero, Option.some.injEq] at hy hq
    subst hy hq
    refine ⟨?_, fun h hh => ?_⟩
    · have : w3.ownsRow B0 3 1 v' (1 + p.length) ([.int .i64 j] ++ vals p) := owns_keep hoA (fun h hh => by
        have hb := hvb h hh
        rw [hg3.block h (by simp; omega) (fun e => by have := (owns_at ho _ e.symm).2; omega), Below.heap_alloc _ _ _ hb.2])
      rw [show (j :: p).length = 1 + p.length by simp; omega]
      exact this
    · rw [hv3]
      intro e
      simp at e
      subst e
      have hb := hvb _ hh
      rcases hat3 with e | e
      · have := (owns_at ho _ e).2; omega
      · omega

theorem box_grown {w w3 : World} {x y z : Value} {T : TypeId} {o1 o2 : Obj} (hg : (((w.alloc (.cells #[x, y, z] T)).alloc o1).alloc o2).grownBy w3 (Value.slice none 0 0).ownBlock) : w3.cell? ⟨w.heap.size, 2, none⟩ = some z := by
  rw [hg.cell_far ⟨w.heap.size, 2, none⟩ (by show w.heap.size < _; rw [size3]; omega) (by simp [Value.ownBlock]), World.cell?_alloc_lt _ _ _ (by show w.heap.size < _; rw [size2]; omega), World.cell?_alloc_lt _ _ _ (by simp)]
  simp

theorem pl_out {B0 : Nat} {wr wA : World} {ob ob2 : Obj} {vj : Value} {n : Nat} {ys : List Value} (ho : wr.ownsRow B0 22 1 vj n ys) (hgA : (wr.alloc ob).grownBy wA (some wr.heap.size)) : (wA.alloc ob2).ownsRow B0 22 1 vj n ys :=
  owns_keep ho (fun g hg => by
    have h1 := (owns_at ho g hg).2
    have h2 := hgA.size
    simp at h2
    rw [Below.heap_alloc _ _ _ (by omega), hgA.block g (by simp; omega) (by simp; omega), Below.heap_alloc _ _ _ h1])
theorem pl_news (w : World) (v : Value) : ∀ j u, [v][j]? = some u → (w.alloc (.cells #[v] 22)).cell? ((⟨w.heap.size, 0, none⟩ : Addr).add j) = some u :=
  World.news_of_block (cs := #[v]) (heap_alloc_new w _)

/-- So far: the first so many places of the j-th argument stand. -/
def PlIn (B0 lo1 hi1 : Nat) (W0 w1 : World) (L Z : List (List Int)) (j : Int) (m : Nat) (wr : World) (vj : Value) : Prop :=
  ∃ ys, wr.ownsRow B0 22 1 vj ys.length ys ∧ Pw wr B0 vj.ownBlock ys (L ++ (Z.take m).map (j :: ·)) ∧ Below B0 W0 wr ∧ (∀ g, vj.ownBlock = some g → g < lo1 ∨ hi1 ≤ g) ∧ (∀ q, lo1 ≤ q → q < hi1 → wr.heap[q]? = w1.heap[q]?) ∧ hi1 ≤ wr.heap.size

end Go.Proofs.YtfckelbdageenabGreatDoor

/- A term's text: the document's Text. -/
namespace Go.Proofs.YtfckelbdageenabGreatDoor
open Go.RowKit Go.Deep Go.ChangeShapes Go.WideShapes
attribute [local go_sem ↓] Go.wp_at_zero Go.wp_at_succ

set_option maxRecDepth 100000 in
set_option maxHeartbeats 400000 in
theorem format_any (n : Int) (h0 : 0 ≤ n) (h4 : n ≤ 4) (w : World) : Calls Tryz.prog 121 #[.int .i64 n, .int .i64 10] w fun e w' => e = .returned (str [dig n]) ∧ w' = w := by
  have h1 : n < 100 := by omega
  go_enter Tryz.func121, Tryz.ntmps121
  go_wp2_with fail
  refine (small_any n h0 h4 w).mono ?_
  rintro e w' ⟨rfl, hw'⟩
  rw [hw']
  clear hw' w'
  go_wp2_with fail
  go_ret
  exact ⟨rfl, rfl⟩
set_option maxRecDepth 100000 in
set_option maxHeartbeats 400000 in
theorem itoaI_any (n : Int) (h0 : 0 ≤ n) (h4 : n ≤ 4) (w : World) : Calls Tryz.prog 102 #[.int .i64 n] w fun e w' => e = .returned (str [dig n]) ∧ w' = w := by
  go_enter Tryz.func102, Tryz.ntmps102
  go_wp2_with fail
  refine (format_any n h0 h4 w).mono ?_
  rintro e w' ⟨rfl, hw'⟩
  rw [hw']
  clear hw' w'
  go_wp2_with fail
  go_ret
  exact ⟨rfl, rfl⟩
set_option maxRecDepth 100000 in
set_option maxHeartbeats 400000 in
theorem itoa_any (n : Int) (h0 : 0 ≤ n) (h4 : n ≤ 4) (w : World) : Calls Tryz.prog 78 #[.int .i64 n] w fun e w' => e = .returned (str [dig n]) ∧ w' = w := by
  go_enter Tryz.func78, Tryz.ntmps78
  go_wp2_with fail
  refine (itoaI_any n h0 h4 w).mono ?_
  rintro e w' ⟨rfl, hw'⟩
  rw [hw']
  clear hw' w'
  go_wp2_with fail
  go_ret
  exact ⟨rfl, rfl⟩

theorem itoa_is (n : Int) (h0 : 0 ≤ n) (h4 : n ≤ 4) (w : World) : Calls Tryz.prog 78 #[.int .i64 n] w fun e w' => ∃ D : ByteArray, e = .returned (.string D) ∧ D.data.toList = [dig n] ∧ w' = w := by
  refine (itoa_any n h0 h4 w).mono ?_
  rintro e w' ⟨rfl, hw'⟩
  exact ⟨_, rfl, rfl, hw'⟩
/-- All terms but the first. -/
theorem terms_tail {n c b o : Nat} (hn : 2 ≤ n) (hlc : n ≤ c) (w : World) : (Instr.slice 34 (.slice (some ⟨b, o, none⟩) n c) (some (.int .i64 1)) none none).run Tryz.prog w = .ok (.slice (some ⟨b, o + 3, none⟩) (n - 1) (c - 1)) w := by
  rw [run_slice_l (ht := by kernel_rfl) (h0 := by omega) (h1 := by omega)]
  have e : (sizeOf (Tryz.prog.elem 34)).run Tryz.prog w = .ok 3 w := by
    rw [show Tryz.prog.elem 34 = 36 by kernel_rfl]
    simp [go_sem]
  have hc : ¬ c = 1 := by omega
  simp [Result.andThen, sliced, e, hc, Addr.add]
/-- A byte alone is a text. -/
theorem byte_text {w : World} {n : Int} (h0 : 0 ≤ n) (h1 : n ≤ 100) : (convert 92 9 (.slice (some ⟨w.heap.size, 0, none⟩) 1 1)).run Tryz.prog (w.alloc (.cells #[.int .u8 (97 + n)] 5)) = .ok (str [sym n]) (w.alloc (.cells #[.int .u8 (97 + n)] 5)) := by
  have h := World.ownsRow_lit (base := 0) (e := 5) (size := 1) w #[.int .u8 ((sym n).toNat : Int)] 1 (Nat.zero_le _) (by unfold maxLen; omega) rfl
  rw [sym_nat h0 h1] at h
  exact str_of_row (T := [sym n]) (by rw [show bytesV [sym n] = [.int .u8 (97 + n)] by simp [bytesV, sym_nat h0 h1]]; exact h)
theorem ba_size {B : ByteArray} {l : List UInt8} (h : B.data.toList = l) : B.size = l.length := by rw [← h]; exact Array.length_toList.symm

def TextRSaid (x : Bool × Int) (k : Fo) : Prop := ∀ (a : Value) (w : World), SIn w k a → (0 ≤ x.2 ∧ x.2 ≤ (if x.1 then 4 else 100)) → Fo.texts k → (textT x k).length ≤ 100000 →
    Calls Tryz.prog 51 #[.agg #[.bool x.1, .int .i64 x.2, a]] w fun e w' => ∃ U : ByteArray, e = .returned (.string U) ∧ U.data.toList = textT x k ∧ Below w.heap.size w w'

set_option maxHeartbeats 1000000 in
set_option maxRecDepth 100000 in
theorem textR_any (x : Bool × Int) (k : Fo) : TextRSaid x k := by
  refine Fo.ind1 (p := TextRSaid) ?_ x k
  clear x k
  intro x k ih a w hS hx ht hl
  obtain ⟨xv, xn⟩ := x
  have HI := hide ih
  have Ht := hide ht
  have Hl := hide hl
  obtain ⟨ad, c, b, o, rfl, had, hlc, hcm, hF⟩ := hS
  have HF := hide hF
  unfold maxLen at hcm
  clear ih hF ht hl
  cases xv
  · simp only [Bool.false_eq_true, if_false] at hx
    obtain ⟨hx0, hx1⟩ := hx
    have hcv := byte_text (w := w.alloc (.cells #[.bool false, .int .i64 xn, .slice ad (Fo.len k) c] 36)) hx0 hx1
    rw [World.size_alloc] at hcv
    obtain ⟨S, hS⟩ : ∃ S : ByteArray, S = ⟨[sym xn].toArray⟩ := ⟨_, rfl⟩
    have hcv' : (convert 92 9 (.slice (some ⟨w.heap.size + 1, 0, none⟩) 1 1)).run Tryz.prog ((w.alloc (.cells #[.bool false, .int .i64 xn, .slice ad (Fo.len k) c] 36)).alloc (.cells #[.int .u8 (97 + xn)] 5)) = .ok (.string S) ((w.alloc (.cells #[.bool false, .int .i64 xn, .slice ad (Fo.len k) c] 36)).alloc (.cells #[.int .u8 (97 + xn)] 5)) := by rw [hS]; exact hcv
    have HS : Hid (S.data.toList = [sym xn]) := by rw [hS]; rfl
    have hs1 : S.size = 1 := ba_size HS.out
    clear hS hcv
    go_enter Tryz.func51, Tryz.ntmps51
    go_upto_region 4 with fail
    generalize hwa : (w.alloc (.cells #[.bool false, .int .i64 xn, .slice ad (Fo.len k) c] 36)).alloc (.cells #[.int .u8 (97 + xn)] 5) = wa
    have t2 : wa.cell? ⟨w.heap.size, 2, none⟩ = some (.slice ad (Fo.len k) c) := by rw [← hwa]; simp
    have hba : Below w.heap.size w wa := by rw [← hwa]; exact (below_alloc _ _).alloc (by simp) _
    clear hwa hcv'
    by_cases h0 : Fo.len k = 0
    · have h0' : (Fo.len k : Int) = 0 := by omega
      have Hfin : Hid (textT (false, xn) k = [sym xn]) := by simp [Hid, textT, h0]
      clear had
      go_wp2_with fail
      go_ret
      exact ⟨S, rfl, by rw [HS.out, Hfin.out], hba⟩
    obtain ⟨⟨⟨yv, yn⟩, yk⟩, hy⟩ : ∃ y, k.list[0]? = some y := ⟨k.list[0]'(by rw [Fo.len_list]; omega), by simp⟩
    obtain ⟨c0, c1, yv', c2, hSy⟩ := (HF.out.below hba).at hy
    simp only [Nat.zero_mul, Nat.add_zero] at c0 c1 c2
    have HSy := hide hSy
    obtain ⟨ya, yc, yb, yo, rfl, -, -, -, -⟩ := hSy
    have ha : ad = some ⟨b, o, none⟩ := had (by omega)
    subst ha
    have Hty := hide (texts_at Ht.out hy)
    have Htl : Hid (sym xn :: textF k 0 ++ [41] = textT (false, xn) k) := by simp [Hid, textT, h0]
    have Hle : Hid ((textF k 0).length + 2 ≤ 100000) := by
      have := Hl.out
      rw [← Htl.out] at this
      simp at this
      unfold Hid
      omega
    have Hx1 : Hid (txTo k 1 = 40 :: textT (yv, yn) yk) := by
      have := txTo_succ hy
      rw [Hid, this]
      simp [txTo, Fo.take, textF, signF]
    have Hyl : Hid ((textT (yv, yn) yk).length ≤ 100000) := by
      have h1 := txTo_le k 1
      have h2 := Hle.out
      rw [Hx1.out] at h1
      simp at h1
      unfold Hid
      omega
    have Hy := hide hy
    clear had hy
    by_cases h1 : Fo.len k = 1
    · have h1b : ((Fo.len k : Int) == 1) = true := by rw [beq_iff_eq]; omega
      have h0b : ((Fo.len k : Int) == 0) = false := by simpa using h0
      have Hfin : Hid (textT (false, xn) k = [sym xn] ++ [40] ++ textT (yv, yn) yk ++ [41]) := by
        have : txTo k 1 = textF k 0 := by rw [← h1, txTo_end]
        rw [Hid, ← Htl.out, ← this, Hx1.out]
        simp
      have hkl : 0 < Fo.len k := by omega
      clear h0 h1
      go_wp2_with fail
      refine (HI.out ((yv, yn), yk) (List.mem_of_getElem? Hy.out) _ _ HSy.out Hty.out.1 Hty.out.2 Hyl.out).mono ?_
      rintro e w1 ⟨U, rfl, hU, hb1⟩
      have HU := hide hU
      have hUs : U.size ≤ 100000 := by rw [ba_size hU]; exact Hyl.out
      have hB1 := below_step hba hb1
      clear hU hb1
      have hq1 : (S ++ (⟨#[40]⟩ : ByteArray)).size ≤ 10 := by rw [ByteArray.size_append, hs1]; decide
      have hq2 : (S ++ (⟨#[40]⟩ : ByteArray) ++ U).size ≤ 100010 := by rw [ByteArray.size_append]; omega
      go_wp2_with fail
      go_ret
      refine ⟨_, rfl, ?_, hB1⟩
      rw [ByteArray.data_append, ByteArray.data_append, ByteArray.data_append, Array.toList_append, Array.toList_append, Array.toList_append, HS.out, HU.out, Hfin.out]
    · have h1b : ((Fo.len k : Int) == 1) = false := by simp; omega
      have h0b : ((Fo.len k : Int) == 0) = false := by simpa using h0
      have hkl : 2 ≤ Fo.len k := by omega
      have hkl' : 0 < Fo.len k := by omega
      have hsl := terms_tail (b := b) (o := o) hkl hlc
      clear h0 h1
      go_wp2_with fail
      refine (HI.out ((yv, yn), yk) (List.mem_of_getElem? Hy.out) _ _ HSy.out Hty.out.1 Hty.out.2 Hyl.out).mono ?_
      rintro e w1 ⟨U, rfl, hU, hb1⟩
      have hUs : U.size ≤ 100000 := by rw [ba_size hU]; exact Hyl.out
      have hB1 := below_step hba hb1
      have t2' := grow_cell hb1 _ _ t2
      have hq1 : (S ++ (⟨#[40]⟩ : ByteArray)).size ≤ 10 := by rw [ByteArray.size_append, hs1]; decide
      have HS1 : Hid ((S ++ (⟨#[40]⟩ : ByteArray) ++ U).data.toList = sym xn :: txTo k 1) := by
        rw [Hid, ByteArray.data_append, ByteArray.data_append, Array.toList_append, Array.toList_append, HS.out, hU, Hx1.out]
        rfl
      clear hU hb1 t2 c0 c1 c2
      go_wp2_with fail
      generalize S ++ (⟨#[40]⟩ : ByteArray) ++ U = S1 at *
      go_loopw [3, 47] (fun sv i wr => ∃ (j : Nat) (R : ByteArray), j ≤ Fo.len k - 1 ∧ i = .int .i64 j ∧ sv = .string R ∧ R.data.toList = sym xn :: txTo k (j + 1) ∧ Below w.heap.size w wr) (fun _ i _ => Fo.len k - 1 - (intOf i).toNat)
      case atStart => exact ⟨0, S1, Nat.zero_le _, rfl, rfl, HS1.out, hB1⟩
      case round =>
        obtain ⟨j, R, hj, rfl, rfl, hR, hBr⟩ := hrel
        have HR := hide hR
        have hRs : R.size ≤ 100000 := by
          rw [ba_size hR]
          have h1 := txTo_le k (j + 1)
          have h2 := Hle.out
          simp
          omega
        clear hR
        by_cases hlt : j < Fo.len k - 1
        · have hlt' : (j : Int) < ((Fo.len k - 1 : Nat) : Int) := by omega
          have hj0 : (0 : Int) ≤ (j : Int) := by omega
          obtain ⟨⟨⟨zv, zn⟩, zk⟩, hz⟩ : ∃ y, k.list[j + 1]? = some y := ⟨k.list[j + 1]'(by rw [Fo.len_list]; omega), by simp⟩
          obtain ⟨c0, c1, zv', c2, hSz⟩ := (HF.out.below hBr).at hz
          rw [show o + (j + 1) * 3 = o + 3 + j * 3 by omega] at c0 c1 c2
          have HSz := hide hSz
          obtain ⟨za, zc, zb, zo, rfl, -, -, -, -⟩ := hSz
          have Htz := hide (texts_at Ht.out hz)
          have Hnx := hide (txTo_succ hz)
          have Hzl : Hid ((textT (zv, zn) zk).length ≤ 100000) := by
            have h1 := txTo_le k (j + 1 + 1)
            have h2 := Hle.out
            rw [Hnx.out] at h1
            simp at h1
            unfold Hid
            omega
          have Hsg : Hid (signF ((j + 1 : Nat) : Int) = 44) := by rw [Hid, signF, if_neg (by omega)]
          have Hz := hide hz
          clear hz
          go_upto_region 13 with fail
          generalize hwa : wr.alloc (.cells #[.bool zv, .int .i64 zn, .slice za (Fo.len zk) zc] 36) = wb
          have e0 : wb.cell? ⟨wr.heap.size, 0, none⟩ = some (.bool zv) := by rw [← hwa]; simp
          have e1 : wb.cell? ⟨wr.heap.size, 1, none⟩ = some (.int .i64 zn) := by rw [← hwa]; simp
          have e2 : wb.cell? ⟨wr.heap.size, 2, none⟩ = some (.slice za (Fo.len zk) zc) := by rw [← hwa]; simp
          have hbb : Below wr.heap.size wr wb := by rw [← hwa]; exact below_alloc _ _
          clear hwa c0 c1 c2
          have hq2 : (R ++ (⟨#[44]⟩ : ByteArray)).size ≤ 100010 := by rw [ByteArray.size_append]; have : (⟨#[44]⟩ : ByteArray).size = 1 := rfl; omega
          go_wp2_with fail
          refine (HI.out ((zv, zn), zk) (List.mem_of_getElem? Hz.out) _ _ (HSz.out.below hbb) Htz.out.1 Htz.out.2 Hzl.out).mono ?_
          rintro e w2 ⟨V, rfl, hV, hb2⟩
          have hVs : V.size ≤ 100000 := by rw [ba_size hV]; exact Hzl.out
          have hB2 := below_step hBr (below_step hbb hb2)
          have HR2 : Hid ((R ++ (⟨#[44]⟩ : ByteArray) ++ V).data.toList = sym xn :: txTo k (j + 1 + 1)) := by
            rw [Hid, ByteArray.data_append, ByteArray.data_append, Array.toList_append, Array.toList_append, HR.out, hV, Hnx.out, Hsg.out]
            simp
          clear hV hb2
          go_wp2_with fail
          go_roundw
          case rel => exact ⟨j + 1, _, by omega, by go_num, rfl, HR2.out, hB2⟩
          case measure => simp [intOf]; omega
        · have Hfin : Hid (textT (false, xn) k = (sym xn :: txTo k (j + 1)) ++ [41]) := by
            have e : j + 1 = Fo.len k := by omega
            rw [Hid, ← Htl.out, e, txTo_end]
          have hge : ¬ ((j : Int) < ((Fo.len k - 1 : Nat) : Int)) := by omega
          go_wp2_with fail
          go_ret
          refine ⟨_, rfl, ?_, hBr⟩
          rw [ByteArray.data_append, Array.toList_append, HR.out, Hfin.out]
  · simp only [if_true] at hx
    obtain ⟨hx0, hx1⟩ := hx
    go_enter Tryz.func51, Tryz.ntmps51
    go_wp2_with fail
    refine (itoa_is xn hx0 hx1 _).mono ?_
    rintro e w' ⟨D, rfl, hD, hw'⟩
    rw [hw']
    have HD := hide hD
    have hs := ba_size hD
    simp only [List.length_cons, List.length_nil] at hs
    clear hw' w' hD
    go_wp2_with fail
    go_ret
    refine ⟨_, rfl, ?_, below_alloc _ _⟩
    rw [ByteArray.data_append, Array.toList_append, HD.out]
    rfl

end Go.Proofs.YtfckelbdageenabGreatDoor

/- A text is read: the document's Rd.fail and Rd.is. -/
namespace Go.Proofs.YtfckelbdageenabGreatDoor
open Go.RowKit Go.Deep Go.ChangeShapes Go.WideShapes
attribute [local go_sem ↓] Go.wp_at_zero Go.wp_at_succ
attribute [local go_sem] byte_zero text_tail

/-- The reader lies in the block rb: its symbols, what is left of the text, its error. -/
def RdAt (w : World) (rb : Nat) (sv : Value) (l : List UInt8) (e : Int) : Prop :=
  w.cell? ⟨rb, 0, none⟩ = some sv ∧ w.cell? ⟨rb, 1, none⟩ = some (str l) ∧ w.cell? ⟨rb, 2, none⟩ = some (.int .i64 e) ∧ ∀ i, w.frozen? ⟨rb, i, none⟩ = false

theorem RdAt.of_block {w w' : World} {rb : Nat} {sv : Value} {l : List UInt8} {e : Int} (h : RdAt w rb sv l e) (hb : w'.heap[rb]? = w.heap[rb]?) : RdAt w' rb sv l e :=
  ⟨(World.cell?_of_block hb).trans h.1, (World.cell?_of_block hb).trans h.2.1, (World.cell?_of_block hb).trans h.2.2.1, fun i => (World.frozen?_of_block hb).trans (h.2.2.2 i)⟩
theorem RdAt.setE {w : World} {rb : Nat} {sv : Value} {l : List UInt8} {e e' : Int} (h : RdAt w rb sv l e) : RdAt (w.setCell ⟨rb, 2, none⟩ (.int .i64 e')) rb sv l e' :=
  ⟨by rw [set_other (by simp)]; exact h.1, by rw [set_other (by simp)]; exact h.2.1, set_same h.2.2.1, fun i => by rw [World.frozen?_setCell]; exact h.2.2.2 i⟩
theorem RdAt.setS {w : World} {rb : Nat} {sv : Value} {l l' : List UInt8} {e : Int} (h : RdAt w rb sv l e) : RdAt (w.setCell ⟨rb, 1, none⟩ (str l')) rb sv l' e :=
  ⟨by rw [set_other (by simp)]; exact h.1, set_same h.2.1, by rw [set_other (by simp)]; exact h.2.2.1, fun i => by rw [World.frozen?_setCell]; exact h.2.2.2 i⟩
theorem RdAt.lt {w : World} {rb : Nat} {sv : Value} {l : List UInt8} {e : Int} (h : RdAt w rb sv l e) : rb < w.heap.size := World.block_lt_of_cell? _ _ h.1
theorem fr_set {w : World} {rb i : Nat} {v : Value} : Fr w (w.setCell ⟨rb, i, none⟩ v) (some rb) none :=
  ⟨rfl, rfl, rfl, by simp, fun q _ hq _ => Below.heap_setCell _ _ _ _ (fun e => hq (by rw [e]))⟩

set_option maxRecDepth 100000 in
set_option maxHeartbeats 400000 in
theorem fail_any (rb : Nat) (sv : Value) (l : List UInt8) (e' : Int) (w : World) (h : RdAt w rb sv l 0) :
    Calls Tryz.prog 113 #[.pointer (some ⟨rb, 0, none⟩), .int .i64 e'] w fun e w' => e = .returned (.tuple #[]) ∧ w' = w.setCell ⟨rb, 2, none⟩ (.int .i64 e') := by
  obtain ⟨h0, h1, h2, hf⟩ := h
  go_enter Tryz.func113, Tryz.ntmps113
  go_wp2_with fail
  exact bodyPost_end (v := .tuple #[]) (by simp [results, Tryz.results113, go_sem]) rfl ⟨rfl, rfl⟩

/-- The error behind a sign that must be. -/
def isE (c : UInt8) (l : List UInt8) (e : Int) : Int := if e ≠ 0 then e else (sgn c l).1

set_option maxRecDepth 100000 in
set_option maxHeartbeats 400000 in
theorem is_any (c : UInt8) (rb : Nat) (sv : Value) (l : List UInt8) (e : Int) (w : World) (h : RdAt w rb sv l e) (hl : e = 0 → l.length ≤ maxLen) :
    Calls Tryz.prog 114 #[.pointer (some ⟨rb, 0, none⟩), .int .u8 (c.toNat : Int)] w fun e' w' => e' = .returned (.tuple #[]) ∧ (∃ l', RdAt w' rb sv l' (isE c l e) ∧ (isE c l e = 0 → l' = (sgn c l).2)) ∧ Fr w w' (some rb) none ∧ w'.heap.size = w.heap.size := by
  have H := hide h
  obtain ⟨h0, h1, h2, hf⟩ := h
  by_cases he : e = 0
  · subst he
    have hl := hl rfl
    unfold maxLen at hl
    cases l with
    | nil =>
      have Hs : Hid (isE c [] 0 = 8) := by simp [Hid, isE, sgn]
      go_enter Tryz.func114, Tryz.ntmps114
      go_wp2_with fail
      refine (fail_any rb sv [] 8 w H.out).mono ?_
      rintro e w' ⟨rfl, hw'⟩
      rw [hw']
      clear hw' w'
      go_wp2_with fail
      refine bodyPost_end (v := .tuple #[]) (by simp [results, Tryz.results114, go_sem]) rfl ⟨rfl, ⟨[], ?_, fun h => ?_⟩, fr_set, by simp⟩
      · rw [Hs.out]; exact H.out.setE
      · rw [Hs.out] at h; cases h
    | cons d r =>
      by_cases hd : d = c
      · subst hd
        have Hs : Hid (isE d (d :: r) 0 = 0 ∧ (sgn d (d :: r)).2 = r) := by simp [Hid, isE, sgn]
        have hsl := run_tail d r
        go_enter Tryz.func114, Tryz.ntmps114
        go_wp2_with fail
        refine bodyPost_end (v := .tuple #[]) (by simp [results, Tryz.results114, go_sem]) rfl ⟨rfl, ⟨r, ?_, fun h => ?_⟩, fr_set, by simp⟩
        · rw [Hs.out.1]; exact H.out.setS
        · rw [Hs.out.2]
      · have Hs : Hid (isE c (d :: r) 0 = 2) := by simp [Hid, isE, sgn, hd]
        have hb : ((d.toNat : Int) != (c.toNat : Int)) = true := by
          simp only [bne_iff_ne, ne_eq, Int.natCast_inj]
          exact fun e => hd (UInt8.toNat_inj.1 e)
        clear hd
        go_enter Tryz.func114, Tryz.ntmps114
        go_wp2_with fail
        refine (fail_any rb sv (d :: r) 2 w H.out).mono ?_
        rintro e w' ⟨rfl, hw'⟩
        rw [hw']
        clear hw' w'
        go_wp2_with fail
        refine bodyPost_end (v := .tuple #[]) (by simp [results, Tryz.results114, go_sem]) rfl ⟨rfl, ⟨d :: r, ?_, fun h => ?_⟩, fr_set, by simp⟩
        · rw [Hs.out]; exact H.out.setE
        · rw [Hs.out] at h; cases h
  · have Hs : Hid (isE c l e = e) := by simp [Hid, isE, he]
    have heb : (e != 0) = true := by simpa using he
    have He := hide he
    clear he
    go_enter Tryz.func114, Tryz.ntmps114
    go_wp2_with fail
    refine bodyPost_end (v := .tuple #[]) (by simp [results, Tryz.results114, go_sem]) rfl ⟨rfl, ⟨l, ?_, fun h => ?_⟩, Fr.refl _ _ _, rfl⟩
    · rw [Hs.out]; exact H.out
    · rw [Hs.out] at h; exact absurd h He.out

end Go.Proofs.YtfckelbdageenabGreatDoor
