/- The document's Some: whether some literal holds. -/
import Derived.Test.YtfnkjadfepoicacG24
import Derived.Test.YtfnkjadfepoicacG18
import Derived.Test.YtfnkjadfepoicacG06
import Derived.Test.YtfnkjadfepoicacG09
import Derived.Deep.RegionHeld3
namespace Go.Proofs.Ytfnkjadfepoicac
open Go.RowKit Go.Deep Go.ChangeShapes Go.WideShapes
attribute [local go_sem ↓] Go.wp_at_zero Go.wp_at_succ

theorem wf_walk {s : List Int} {x : Bool × Int} {k : Fo} (h : wrongF s x k = 0) : walkT s x k 1 = 0 := by
  unfold wrongF at h
  by_cases e : walkT s x k 1 = 0
  · exact e
  · rw [if_pos e] at h; exact absurd h e
theorem sig_right {s : List Int} {t : Tm} (h : wrongF s t.1 t.2 = 0) : sigT s t := sig_walk (wf_walk h)
theorem sigC_right {s : List Int} {c : Cl} (h : wrongC s c = 0) : ∀ l ∈ c, sigT s l.2.1 ∧ sigT s l.2.2 := fun l hl => ⟨sig_right ((wrongC_iff.1 h).2 l hl).1, sig_right ((wrongC_iff.1 h).2 l hl).2⟩
theorem some_take {z : Int} {tb : List (List Int)} {e : Int → Int} {k : Cl} {j : Nat} {l : Lt} (h : k[j]? = some l) : someH z tb e (k.take (j + 1)) = (someH z tb e (k.take j) || litH z tb e l) := by
  unfold someH; rw [List.take_add_one, h]; simp
theorem some_found {z : Int} {tb : List (List Int)} {e : Int → Int} {k : Cl} {j : Nat} {l : Lt} (h : k[j]? = some l) (hl : litH z tb e l = true) : someH z tb e k = true := by
  unfold someH; rw [List.any_eq_true]; exact ⟨l, List.mem_of_getElem? h, hl⟩

set_option maxRecDepth 100000 in
set_option maxHeartbeats 2000000 in
theorem someR_any {s L : List Int} {z : Int} {tb : List (List Int)} (hm : MR s z tb) (hs : s.all okNum = true) (hL : L.length = 5) (hr : ∀ x ∈ L, 0 ≤ x ∧ x < z) (k : Cl) (mv ev a : Value) (w : World) (hT : TbIn w tb mv) (hE : NIn w L ev) (hS : CIn w k a)
    (hw : ∀ l ∈ k, sigT s l.2.1 ∧ sigT s l.2.2) :
    Calls Try.prog 14 #[.agg #[.int .i64 z, mv], ev, a] w fun e w' => e = .returned (.bool (someH z tb (envOf L) k)) ∧ Below w.heap.size w w' := by
  have HT := hide hT
  have HE := hide hE
  have Hw := hide hw
  have Hval := hide (fun x k => valueR_any hm hs hL hr x k)
  obtain ⟨ta, tc, rfl⟩ := tb_slice hT
  obtain ⟨ea, ec, _, _, rfl, -, -, -, -⟩ := hE
  obtain ⟨a1, c1, b1, o1, rfl, had1, hlc1, hcm1, hF1⟩ := hS
  unfold maxLen at hcm1
  have HF1 := hide hF1
  clear hm hs hL hr hT hw hF1
  go_enter Try.func14, Try.ntmps14
  go_upto_region 1 with fail
  generalize hW1 : w.alloc (.cells #[.int .i64 z, .slice ta tb.length tc] 26) = W1
  have hB1 : Below w.heap.size w W1 := by rw [← hW1]; exact below_alloc _ _
  have m0 : W1.cell? ⟨w.heap.size, 0, none⟩ = some (.int .i64 z) := by rw [← hW1]; exact new_cell rfl
  have m1 : W1.cell? ⟨w.heap.size, 1, none⟩ = some (.slice ta tb.length tc) := by rw [← hW1]; exact new_cell rfl
  clear hW1
  go_wp2_with fail
  go_loopw [11] (fun i wr => ∃ j : Nat, j ≤ k.length ∧ i = .int .i64 j ∧ someH z tb (envOf L) (k.take j) = false ∧ Below W1.heap.size W1 wr) (fun i _ => k.length - (intOf i).toNat)
  case atStart => exact ⟨0, Nat.zero_le _, rfl, rfl, Below.refl _ _⟩
  case round =>
    obtain ⟨j, hj, rfl, hno, hBx⟩ := hrel
    have Hno := hide hno
    clear hno
    have hBr := below_step hB1 hBx
    replace m0 := grow_cell hBx _ _ m0
    replace m1 := grow_cell hBx _ _ m1
    by_cases hlt : j < k.length
    · have hlt' : (j : Int) < (k.length : Int) := by omega
      obtain ⟨⟨yn, ⟨⟨yv, yi⟩, yk⟩, ⟨yv', yi'⟩, yk'⟩, hy⟩ : ∃ y, k[j]? = some y := ⟨k[j]'hlt, by simp⟩
      obtain ⟨p0, p1, p2, ⟨u3, p3, hA⟩, p4, p5, u6, p6, hD⟩ := (HF1.out.below hBr).at hy
      have ha1 : a1 = some ⟨b1, o1, none⟩ := had1 (by omega)
      subst ha1
      have HA := hide hA
      have HD := hide hD
      obtain ⟨ya, yc, _, _, rfl, -, -, -, -⟩ := hA
      obtain ⟨za, zc, _, _, rfl, -, -, -, -⟩ := hD
      have hwy := Hw.out _ (List.mem_of_getElem? hy)
      have Hc1 := hide (fun (w' : World) (hb : Below wr.heap.size wr w') => Hval.out (yv, yi) yk (.slice ta tb.length tc) (.slice ea L.length ec) (.slice ya (Fo.len yk) yc) w' (HT.out.below (below_step hBr hb)) (HE.out.below (below_step hBr hb)) (HA.out.below hb) hwy.1)
      have Hc2 := hide (fun (w' : World) (hb : Below wr.heap.size wr w') => Hval.out (yv', yi') yk' (.slice ta tb.length tc) (.slice ea L.length ec) (.slice za (Fo.len yk') zc) w' (HT.out.below (below_step hBr hb)) (HE.out.below (below_step hBr hb)) (HD.out.below hb) hwy.2)
      have Htk := hide (some_take (z := z) (tb := tb) (e := envOf L) hy)
      have Hfd := hide (fun h => some_found (z := z) (tb := tb) (e := envOf L) hy h)
      have Hlt : Hid (litH z tb (envOf L) (yn, ((yv, yi), yk), ((yv', yi'), yk')) = (yn != (valT z tb (envOf L) ((yv, yi), yk) == valT z tb (envOf L) ((yv', yi'), yk')))) := rfl
      simp only at Hc1 Hc2
      generalize valT z tb (envOf L) ((yv, yi), yk) = V1 at Hc1 Hlt
      generalize valT z tb (envOf L) ((yv', yi'), yk') = V2 at Hc2 Hlt
      clear hy had1 hwy
      simp only at *
      go_upto_region 4 with fail
      generalize hwa : wr.alloc (.cells #[.bool yn, .bool yv, .int .i64 yi, .slice ya (Fo.len yk) yc, .bool yv', .int .i64 yi', .slice za (Fo.len yk') zc] 37) = wa
      obtain ⟨g0, g1, g2, g3, g4, g5, g6, -, hba, hsa⟩ := lit_cells (T := 37) (x0 := .bool yn) (w := wr) (wr := wa) (x1 := .bool yv) (x2 := .int .i64 yi) (x3 := .slice ya (Fo.len yk) yc) (x4 := .bool yv') (x5 := .int .i64 yi') (x6 := .slice za (Fo.len yk') zc) (by rw [← hwa]; exact Below.refl _ _)
      replace m0 := grow_cell hba _ _ m0
      replace m1 := grow_cell hba _ _ m1
      have hcur : Below wa.heap.size wa wa.drew := (Below.refl _ _).drew
      obtain ⟨V, hV⟩ : ∃ V, (!(yn == (V1 == V2))) = V := ⟨_, rfl⟩
      have HV := hide hV
      clear hwa hV p0 p1 p2 p3 p4 p5 p6
      go_region_held3 (fun w' => w'.cell? ⟨wr.heap.size, 0, none⟩ = some (.bool yn) ∧ w'.cell? ⟨wr.heap.size, 1, none⟩ = some (.bool yv) ∧ w'.cell? ⟨wr.heap.size, 2, none⟩ = some (.int .i64 yi) ∧ w'.cell? ⟨wr.heap.size, 3, none⟩ = some (.slice ya (Fo.len yk) yc) ∧ w'.cell? ⟨wr.heap.size, 4, none⟩ = some (.bool yv') ∧ w'.cell? ⟨wr.heap.size, 5, none⟩ = some (.int .i64 yi') ∧ w'.cell? ⟨wr.heap.size, 6, none⟩ = some (.slice za (Fo.len yk') zc) ∧ w'.cell? ⟨w.heap.size, 0, none⟩ = some (.int .i64 z) ∧ w'.cell? ⟨w.heap.size, 1, none⟩ = some (.slice ta tb.length tc))
        (first
          | (with_reducible exact ⟨grow_cell hcur _ _ g0, grow_cell hcur _ _ g1, grow_cell hcur _ _ g2, grow_cell hcur _ _ g3, grow_cell hcur _ _ g4, grow_cell hcur _ _ g5, grow_cell hcur _ _ g6, grow_cell hcur _ _ m0, grow_cell hcur _ _ m1⟩)
          | go_keep)
        (first
          | (go_at_call 12; with_reducible refine (Hc1.out _ (below_step hba hcur)).mono ?_; rintro e wS ⟨rfl, hbS⟩; replace hcur := below_step hcur hbS)
          | (go_at_call 12; with_reducible refine (Hc2.out _ (below_step hba hcur)).mono ?_; rintro e wU ⟨rfl, hbU⟩; replace hcur := below_step hcur hbU))
      all_goals
        have Hend := hide (below_step hBx (below_step hba hcur))
        clear hcur hbS hbU
        rw [HV.out]
        cases V
        · go_wp2_with fail
          go_roundw
          case rel => exact ⟨j + 1, by omega, by go_num, by rw [Htk.out, Hno.out, Hlt.out]; exact HV.out, Hend.out⟩
          case measure => simp [intOf]; omega
        · go_wp2_with fail
          go_ret
          exact ⟨by rw [Hfd.out (Hlt.out.trans HV.out)]; rfl, below_step hB1 Hend.out⟩
    · have Hfin : Hid (someH z tb (envOf L) k = false) := by
        have e : j = k.length := by omega
        have := Hno.out
        rw [e, List.take_length] at this
        exact this
      clear had1
      go_wp2_with fail
      go_ret
      exact ⟨by rw [Hfin.out]; rfl, hBr⟩

end Go.Proofs.Ytfnkjadfepoicac

/- The variables of a clause, and the document's. -/
namespace Go.Proofs.Ytfnkjadfepoicac
open Go.RowKit Go.Deep Go.ChangeShapes Go.WideShapes

theorem nin_vals {w : World} {lo : Nat} {T : List Int} {v : Value} (h : w.ownsRow lo 3 1 v T.length (vals T)) : NIn w T v := own_nin h
theorem nin_nil (w : World) : NIn w [] (.slice none 0 0) := own_nin (lo := 0) (World.ownsRow_nil _ _ _ _)
def szL (l : Lt) : Nat := tszR l.2.1.2 + tszR l.2.2.2
def szC (c : Cl) : Nat := (c.map szL).sum
theorem szC_take {c : Cl} {j : Nat} {l : Lt} (h : c[j]? = some l) : szC (c.take (j + 1)) = szC (c.take j) + szL l := by
  rw [List.take_add_one, h]; simp [szC]
theorem szC_le (c : Cl) (j : Nat) : szC (c.take j) ≤ szC c := by
  have h : szC (c.take j ++ c.drop j) = szC (c.take j) + szC (c.drop j) := by unfold szC; rw [List.map_append, List.sum_append]
  rw [List.take_append_drop] at h
  omega
theorem varsL_len (l : Lt) (v : List Int) : (varsL l v).length ≤ v.length + szL l := by
  unfold varsL szL
  have h1 := varsT_len l.2.1.1 l.2.1.2 v
  have h2 := varsT_len l.2.2.1 l.2.2.2 (varsT l.2.1.1 l.2.1.2 v)
  omega
theorem varsT_grow (x : Bool × Int) (k : Fo) (v : List Int) : v.length ≤ (varsT x k v).length := by
  have key : ∀ (F : Fo) (v : List Int), v.length ≤ (varsF F v).length := by
    intro F
    induction F with
    | nil => intro v; exact Nat.le_refl _
    | node p q y l r ihl ihr =>
      intro v
      have h1 : v.length ≤ (varsT y l v).length := by
        unfold varsT
        split
        · split
          · exact Nat.le_refl _
          · simp
        · exact ihl v
      exact Nat.le_trans h1 (ihr (varsT y l v))
  unfold varsT
  split
  · split
    · exact Nat.le_refl _
    · simp
  · exact key k v
theorem varsC_grow (c : Cl) (j : Nat) (v : List Int) : (varsC (c.take j) v).length ≤ (varsC c v).length := by
  have key : ∀ (c : Cl) (v : List Int), v.length ≤ (varsC c v).length := by
    intro c
    induction c with
    | nil => intro v; exact Nat.le_refl _
    | cons l c ih =>
      intro v
      have h1 := varsT_grow l.2.1.1 l.2.1.2 v
      have h2 := varsT_grow l.2.2.1 l.2.2.2 (varsT l.2.1.1 l.2.1.2 v)
      have h3 := ih (varsL l v)
      have e : varsC (l :: c) v = varsC c (varsL l v) := rfl
      rw [e]
      simp only [varsL] at h3 ⊢
      omega
  have e : varsC c v = varsC (c.drop j) (varsC (c.take j) v) := by
    have h : varsC (c.take j ++ c.drop j) v = varsC (c.drop j) (varsC (c.take j) v) := List.foldl_append
    rw [List.take_append_drop] at h
    exact h
  rw [e]
  exact key _ _
theorem varsC_len : ∀ (c : Cl) (v : List Int), (varsC c v).length ≤ v.length + szC c
  | [], v => by simp [varsC, szC]
  | l :: c, v => by
    have h1 := varsL_len l v
    have h2 := varsC_len c (varsL l v)
    have e : varsC (l :: c) v = varsC c (varsL l v) := rfl
    have e2 : szC (l :: c) = szL l + szC c := by simp [szC]
    rw [e, e2]
    omega

set_option maxRecDepth 100000 in
set_option maxHeartbeats 2000000 in
theorem varsCR_any (k : Cl) (a : Value) (w : World) (hS : CIn w k a) (hb : (varsC k []).length ≤ 1000000000000) :
    Calls Try.prog 38 #[a] w fun e w' => ∃ v, e = .returned v ∧ NIn w' (varsC k []) v ∧ Below w.heap.size w w' := by
  obtain ⟨a1, c1, b1, o1, rfl, had1, hlc1, hcm1, hF1⟩ := hS
  unfold maxLen at hcm1
  have HF1 := hide hF1
  clear hF1
  go_enter Try.func38, Try.ntmps38
  go_wp2_with fail
  go_loopw [3, 8] (fun v i wr => ∃ (j : Nat) (z1 : Option Addr) (n z3 : Nat), j ≤ k.length ∧ i = .int .i64 j ∧ v = .slice z1 n z3 ∧ NIn wr (varsC (k.take j) []) v ∧ Below w.heap.size w wr) (fun _ i _ => k.length - (intOf i).toNat)
  case atStart => exact ⟨0, none, 0, 0, Nat.zero_le _, rfl, rfl, nin_nil _, Below.refl _ _⟩
  case round =>
    obtain ⟨j, z1, n, z3, hj, rfl, rfl, hV, hBr⟩ := hrel
    have HV := hide hV
    clear hV
    by_cases hlt : j < k.length
    · have hlt' : (j : Int) < (k.length : Int) := by omega
      obtain ⟨⟨yn, ⟨⟨yv, yi⟩, yk⟩, ⟨yv', yi'⟩, yk'⟩, hy⟩ : ∃ y, k[j]? = some y := ⟨k[j]'hlt, by simp⟩
      obtain ⟨p0, p1, p2, ⟨u3, p3, hA⟩, p4, p5, u6, p6, hD⟩ := (HF1.out.below hBr).at hy
      have ha1 : a1 = some ⟨b1, o1, none⟩ := had1 (by omega)
      subst ha1
      have HA := hide hA
      have HD := hide hD
      obtain ⟨_, _, _, _, rfl, -, -, -, -⟩ := hA
      obtain ⟨_, _, _, _, rfl, -, -, -, -⟩ := hD
      have Hy := hide hy
      have Hln : Hid ((varsT (yv, yi) yk (varsC (k.take j) [])).length ≤ 1000000000000 ∧ (varsT (yv', yi') yk' (varsT (yv, yi) yk (varsC (k.take j) []))).length ≤ 1000000000000) := by
        have h1 := varsC_take (v := []) hy
        have h2 := varsC_grow k (j + 1) []
        have h3 := varsT_grow (yv', yi') yk' (varsT (yv, yi) yk (varsC (k.take j) []))
        rw [h1] at h2
        simp only [varsL] at h2
        exact ⟨by omega, by omega⟩
      clear hy had1
      simp only at *
      go_wp2_with fail
      refine (varsR_few (yv, yi) yk _ (varsC (k.take j) []) _ _ _ rfl (HA.out.alloc _) (HV.out.alloc _) (by have := Hln.out.1; omega)).mono ?_
      rintro e w2 ⟨v2, rfl, hV2, hb2⟩
      obtain ⟨-, -, -, -, e4, e5, e6, -, hb2', -⟩ := lit_cells hb2
      have hB2 := below_step hBr hb2'
      have HD2 := hide (HD.out.below hb2')
      have HV2 := hide hV2
      obtain ⟨y1, y3, rfl⟩ := nin_slice hV2
      have Hl2 := hide (varsT_len (yv, yi) yk (varsC (k.take j) []))
      clear hb2 hV2
      go_wp2_with fail
      refine (varsR_few (yv', yi') yk' _ (varsT (yv, yi) yk (varsC (k.take j) [])) _ _ _ rfl HD2.out HV2.out (by have := Hln.out.2; omega)).mono ?_
      rintro e w3 ⟨v3, rfl, hV3, hb3⟩
      have hB3 := below_step hB2 hb3
      have HV3 := hide hV3
      obtain ⟨x1, x3, rfl⟩ := nin_slice hV3
      clear hV3
      go_wp2_with fail
      go_roundw
      case rel => exact ⟨j + 1, x1, _, x3, by omega, by go_num, rfl, by rw [varsC_take Hy.out]; exact HV3.out, hB3⟩
      case measure => simp [intOf]; omega
    · have Hfin : Hid (NIn wr (varsC k []) (.slice z1 n z3)) := by
        have e : j = k.length := by omega
        have := HV.out
        rw [e, List.take_length] at this
        exact this
      clear had1
      go_wp2_with fail
      go_ret
      exact ⟨_, rfl, Hfin.out, hBr⟩

set_option maxRecDepth 100000 in
set_option maxHeartbeats 2000000 in
theorem varsCl_any (k : Cl) (a : Value) (w : World) (hS : CIn w k a) (hb : (varsC k []).length ≤ 1000000000000) :
    Calls Try.prog 36 #[a] w fun e w' => ∃ v, e = .returned v ∧ NIn w' (varsC k []) v ∧ Below w.heap.size w w' := by
  obtain ⟨a1, c1, b1, o1, rfl, had1, hlc1, hcm1, hF1⟩ := hS
  unfold maxLen at hcm1
  have HF1 := hide hF1
  clear hF1
  go_enter Try.func36, Try.ntmps36
  go_wp2_with fail
  go_loopw [3, 8] (fun v i wr => ∃ (j : Nat) (z1 : Option Addr) (n z3 : Nat), j ≤ k.length ∧ i = .int .i64 j ∧ v = .slice z1 n z3 ∧ NIn wr (varsC (k.take j) []) v ∧ Below w.heap.size w wr) (fun _ i _ => k.length - (intOf i).toNat)
  case atStart => exact ⟨0, none, 0, 0, Nat.zero_le _, rfl, rfl, nin_nil _, Below.refl _ _⟩
  case round =>
    obtain ⟨j, z1, n, z3, hj, rfl, rfl, hV, hBr⟩ := hrel
    have HV := hide hV
    clear hV
    by_cases hlt : j < k.length
    · have hlt' : (j : Int) < (k.length : Int) := by omega
      obtain ⟨⟨yn, ⟨⟨yv, yi⟩, yk⟩, ⟨yv', yi'⟩, yk'⟩, hy⟩ : ∃ y, k[j]? = some y := ⟨k[j]'hlt, by simp⟩
      obtain ⟨p0, p1, p2, ⟨u3, p3, hA⟩, p4, p5, u6, p6, hD⟩ := (HF1.out.below hBr).at hy
      have ha1 : a1 = some ⟨b1, o1, none⟩ := had1 (by omega)
      subst ha1
      have HA := hide hA
      have HD := hide hD
      obtain ⟨ya, yc, _, _, rfl, -, -, -, -⟩ := hA
      obtain ⟨za, zc, _, _, rfl, -, -, -, -⟩ := hD
      have Hy := hide hy
      have Hln : Hid ((varsT (yv, yi) yk (varsC (k.take j) [])).length ≤ 1000000000000 ∧ (varsT (yv', yi') yk' (varsT (yv, yi) yk (varsC (k.take j) []))).length ≤ 1000000000000) := by
        have h1 := varsC_take (v := []) hy
        have h2 := varsC_grow k (j + 1) []
        have h3 := varsT_grow (yv', yi') yk' (varsT (yv, yi) yk (varsC (k.take j) []))
        rw [h1] at h2
        simp only [varsL] at h2
        exact ⟨by omega, by omega⟩
      have Hl2 := hide (varsT_len (yv, yi) yk (varsC (k.take j) []))
      clear hy had1
      simp only at *
      go_upto_region 5 with fail
      generalize hwa : wr.alloc (.cells #[.bool yn, .bool yv, .int .i64 yi, .slice ya (Fo.len yk) yc, .bool yv', .int .i64 yi', .slice za (Fo.len yk') zc] 37) = wa
      obtain ⟨-, g1, g2, g3, g4, g5, g6, -, hba, -⟩ := lit_cells (T := 37) (x0 := .bool yn) (w := wr) (wr := wa) (x1 := .bool yv) (x2 := .int .i64 yi) (x3 := .slice ya (Fo.len yk) yc) (x4 := .bool yv') (x5 := .int .i64 yi') (x6 := .slice za (Fo.len yk') zc) (by rw [hwa]; exact Below.refl _ _)
      clear hwa
      have HAa := hide (HA.out.below hba)
      have HDa := hide (HD.out.below hba)
      have HVa := hide (HV.out.below hba)
      have hcur : Below wa.heap.size wa wa.drew := (Below.refl _ _).drew
      go_region_held3 (fun w' => w'.cell? ⟨wr.heap.size, 1, none⟩ = some (.bool yv) ∧ w'.cell? ⟨wr.heap.size, 2, none⟩ = some (.int .i64 yi) ∧ w'.cell? ⟨wr.heap.size, 3, none⟩ = some (.slice ya (Fo.len yk) yc) ∧ w'.cell? ⟨wr.heap.size, 4, none⟩ = some (.bool yv') ∧ w'.cell? ⟨wr.heap.size, 5, none⟩ = some (.int .i64 yi') ∧ w'.cell? ⟨wr.heap.size, 6, none⟩ = some (.slice za (Fo.len yk') zc))
          (first
            | (with_reducible exact ⟨grow_cell hcur _ _ g1, grow_cell hcur _ _ g2, grow_cell hcur _ _ g3, grow_cell hcur _ _ g4, grow_cell hcur _ _ g5, grow_cell hcur _ _ g6⟩)
            | go_keep)
          (first
            | (go_at_call 57; with_reducible refine (vars_few (yv, yi) yk (.slice ya (Fo.len yk) yc) (varsC (k.take j) []) (.slice z1 n z3) _ _ rfl (HAa.out.below hcur) (HVa.out.below hcur) (by have := Hln.out.1; omega)).mono ?_; rintro e wS ⟨vS, rfl, hoS, hbS⟩; replace hcur := below_step hcur hbS; have HoS := hide (nin_vals hoS); obtain ⟨y1, y3, rfl⟩ := nin_slice HoS.out; clear hoS)
            | (go_at_call 57; with_reducible refine (vars_few (yv', yi') yk' (.slice za (Fo.len yk') zc) (varsT (yv, yi) yk (varsC (k.take j) [])) _ _ _ rfl (HDa.out.below hcur) (HoS.out.below ?_) (by have := Hln.out.2; omega)).mono ?_; (first | exact Below.refl _ _ | exact (Below.refl _ _).drew); rintro e wU ⟨vU, rfl, hoU, hbU⟩; replace hcur := below_step hcur hbU; have HoU := hide (nin_vals hoU); obtain ⟨x1, x3, rfl⟩ := nin_slice HoU.out; clear hoU))
      all_goals
        have hB2 := below_step hBr (below_step hba hcur)
        go_wp2_with fail
        go_roundw
        case rel => exact ⟨j + 1, _, _, _, by omega, by go_num, rfl, by rw [varsC_take Hy.out]; exact HoU.out, hB2⟩
        case measure => simp [intOf]; omega
    · have Hfin : Hid (NIn wr (varsC k []) (.slice z1 n z3)) := by
        have e : j = k.length := by omega
        have := HV.out
        rw [e, List.take_length] at this
        exact this
      clear had1
      go_wp2_with fail
      go_ret
      exact ⟨_, rfl, Hfin.out, hBr⟩

end Go.Proofs.Ytfnkjadfepoicac

/- The document's Holds: all bindings, counted. -/
namespace Go.Proofs.Ytfnkjadfepoicac
open Go.RowKit Go.Deep Go.ChangeShapes Go.WideShapes
attribute [local go_sem ↓] Go.wp_at_zero Go.wp_at_succ

/-- What is left of a number behind so many places. -/
def kd (z : Int) (n : Int) : Nat → Int
  | 0 => n
  | j + 1 => kd z n j / z
theorem kd_shift (z n : Int) : ∀ j, kd z (n / z) j = kd z n (j + 1)
  | 0 => rfl
  | j + 1 => by rw [kd, kd_shift z n j]; rfl
theorem envF_snoc {z v : Int} : ∀ (vs : List Int) (n : Int) (L : List Int), envF z (vs ++ [v]) n L = (envF z vs n L).set v.toNat (kd z n vs.length % z)
  | [], n, L => rfl
  | x :: vs, n, L => by
    rw [List.cons_append, envF, envF_snoc vs, envF, kd_shift]
    rfl
theorem envF_take {z v : Int} {vs : List Int} {j : Nat} {n : Int} {L : List Int} (h : vs[j]? = some v) : envF z (vs.take (j + 1)) n L = (envF z (vs.take j) n L).set v.toNat (kd z n j % z) := by
  have hj : j < vs.length := (List.getElem?_eq_some_iff.1 h).1
  rw [List.take_add_one, h]
  show envF z (vs.take j ++ [v]) n L = _
  rw [envF_snoc, List.length_take, Nat.min_eq_left (by omega)]
theorem kd_range {z n : Int} (hz : 1 ≤ z) (h0 : 0 ≤ n) : ∀ j, 0 ≤ kd z n j ∧ kd z n j ≤ n
  | 0 => ⟨h0, Int.le_refl _⟩
  | j + 1 => by
    have ih := kd_range hz h0 j
    rw [kd]
    have h1 := Int.ediv_nonneg ih.1 (show (0 : Int) ≤ z by omega)
    have h2 := Int.ediv_le_self z ih.1
    exact ⟨h1, by omega⟩
theorem pw_le {z : Int} (h1 : 1 ≤ z) (h8 : z ≤ 8) : ∀ j, pw z j ≤ pw 8 j
  | 0 => Int.le_refl _
  | j + 1 => by
    have ih := pw_le h1 h8 j
    have h0 := pw_pos h1 j
    rw [pw, pw]
    exact Int.mul_le_mul h8 ih (by omega) (by omega)
theorem pw_five {z : Int} (h1 : 1 ≤ z) (h8 : z ≤ 8) {j : Nat} (hj : j ≤ 5) : pw z j ≤ 32768 := by
  have := pw_le h1 h8 j
  have h2 : pw 8 j ≤ 32768 := by
    rcases (by omega : j = 0 ∨ j = 1 ∨ j = 2 ∨ j = 3 ∨ j = 4 ∨ j = 5) with rfl | rfl | rfl | rfl | rfl | rfl <;> decide
  omega

/-- The bindings L lie in the block that was made behind W. -/
def EB (W : World) (L : List Int) (wx : World) : Prop := Below W.heap.size W wx ∧ W.heap.size < wx.heap.size ∧ L.length = 5 ∧ ∀ i, i < 5 → wx.cell? ⟨W.heap.size, i, none⟩ = some (.int .i64 (L.getD i 0)) ∧ wx.frozen? ⟨W.heap.size, i, none⟩ = false
theorem eb_start (W : World) : EB W env0 (W.alloc (.cells (madeCells #[.int .i64 0] (5 * 1)) 3)) := by
  refine ⟨below_alloc _ _, by simp, rfl, fun i hi => ⟨?_, frozen_new _ _ _ _⟩⟩
  rcases (by omega : i = 0 ∨ i = 1 ∨ i = 2 ∨ i = 3 ∨ i = 4) with rfl | rfl | rfl | rfl | rfl <;> exact (new_cell rfl).trans (by simp [madeCells])
theorem eb_step {W wx : World} {L : List Int} {m : Nat} {x : Int} (h : EB W L wx) (hm : m < 5) : EB W (L.set m x) (wx.setCell ⟨W.heap.size, m, none⟩ (.int .i64 x)) := by
  obtain ⟨h1, h2, h3, h4⟩ := h
  refine ⟨h1.setCell (Nat.le_refl _) _, by simpa [World.setCell] using h2, by simp [h3], fun i hi => ⟨?_, by simpa using (h4 i hi).2⟩⟩
  by_cases e : i = m
  · subst e
    rw [set_same (h4 i hi).1, List.getD_eq_getElem?_getD, List.getElem?_set_self (by omega)]
    rfl
  · rw [set_other (by intro e'; simp only [Addr.mk.injEq] at e'; omega), (h4 i hi).1, List.getD_eq_getElem?_getD, List.getD_eq_getElem?_getD, List.getElem?_set_ne (fun e' => e e'.symm)]
theorem eb_nin {W wx : World} {L : List Int} (h : EB W L wx) : NIn wx L (.slice (some ⟨W.heap.size, 0, none⟩) 5 5) := by
  obtain ⟨h1, h2, h3, h4⟩ := h
  refine ⟨some ⟨W.heap.size, 0, none⟩, 5, W.heap.size, 0, by rw [h3], fun _ => rfl, by omega, by unfold maxLen; omega, fun i hi => ?_⟩
  rw [Nat.zero_add]
  exact (h4 i (by omega)).1

set_option maxRecDepth 100000 in
set_option maxHeartbeats 2000000 in
theorem holdsR_any {s : List Int} {z : Int} {tb : List (List Int)} (hm : MR s z tb) (hs : s.all okNum = true) (k : Cl) (mv a : Value) (w : World) (hT : TbIn w tb mv) (hS : CIn w k a)
    (hw : ∀ l ∈ k, sigT s l.2.1 ∧ sigT s l.2.2) (hv5 : (varsC k []).length ≤ 5) (hvr : ∀ n ∈ varsC k [], 0 ≤ n ∧ n ≤ 4) :
    Calls Try.prog 16 #[.agg #[.int .i64 z, mv], a] w fun e w' => e = .returned (.bool (holdsB z tb k)) ∧ Below w.heap.size w w' := by
  have HT := hide hT
  have HS := hide hS
  have z1 := hm.z1
  have z8 := hm.z8
  have Hsome := hide (fun (L : List Int) (hL : L.length = 5) (hr : ∀ x ∈ L, 0 ≤ x ∧ x < z) (ev : Value) (w' : World) (hb : Below w.heap.size w w') (hE : NIn w' L ev) => someR_any hm hs hL hr k mv ev a w' (hT.below hb) hE (hS.below hb) hw)
  obtain ⟨ta, tc, rfl⟩ := tb_slice hT
  obtain ⟨a1, a3, rfl⟩ := slice_of_cl hS
  have Hvr := hide hvr
  have Hpw : Hid (∀ j, j ≤ (varsC k []).length → 1 ≤ pw z j ∧ pw z j ≤ 32768) := fun j hj => ⟨pw_pos z1 j, pw_five z1 z8 (by omega)⟩
  obtain ⟨iI, hi, hz0, hz1, hz2⟩ := info_parts Try.info3
  clear hm hs hT hS hw hvr
  go_enter Try.func16, Try.ntmps16
  go_upto_region 1 with fail
  generalize hW1 : w.alloc (.cells #[.int .i64 z, .slice ta tb.length tc] 26) = W1
  have hB1 : Below w.heap.size w W1 := by rw [← hW1]; exact below_alloc _ _
  have m0 : W1.cell? ⟨w.heap.size, 0, none⟩ = some (.int .i64 z) := by rw [← hW1]; exact new_cell rfl
  have m1 : W1.cell? ⟨w.heap.size, 1, none⟩ = some (.slice ta tb.length tc) := by rw [← hW1]; exact new_cell rfl
  clear hW1
  go_wp2_with fail
  refine (varsCR_any k _ _ (HS.out.below hB1) (by omega)).mono ?_
  rintro e w2 ⟨vv, rfl, hN, hb2⟩
  have hB2 := below_step hB1 hb2
  replace m0 := grow_cell hb2 _ _ m0
  replace m1 := grow_cell hb2 _ _ m1
  have HN := hide hN
  obtain ⟨va, vc, vb, vo, rfl, hvad, hvlc, hvcm, hVF⟩ := hN
  unfold maxLen at hvcm
  have HVF := hide hVF
  have Hho : Hid (holdsB z tb k = (List.range (pw z (varsC k []).length).toNat).all fun n => someH z tb (envOf (envF z (varsC k []) n env0)) k) := rfl
  generalize varsC k [] = vs at *
  clear hVF hb2 hB1
  go_wp2_with fail
  go_loopw [6, 16] (fun p i wr => ∃ j : Nat, j ≤ vs.length ∧ i = .int .i64 j ∧ p = .int .i64 (pw z j) ∧ w2 = wr) (fun _ i _ => vs.length - (intOf i).toNat)
  case atStart => exact ⟨0, Nat.zero_le _, rfl, rfl, rfl⟩
  case round =>
    obtain ⟨j, hj, rfl, rfl, rfl⟩ := hrel
    by_cases hlt : j < vs.length
    · have hlt' : (j : Int) < (vs.length : Int) := by omega
      have h1 := Hpw.out j hj
      have h2 := Hpw.out (j + 1) (by omega)
      have Hst : Hid (wrap64 (pw z j * z) = pw z (j + 1)) := by
        unfold Hid wrap64
        rw [show pw z (j + 1) = pw z j * z by rw [pw, Int.mul_comm]]
        rw [show pw z (j + 1) = pw z j * z by rw [pw, Int.mul_comm]] at h2
        omega
      clear h1 h2
      go_wp2_with fail
      go_roundw
      case rel => exact ⟨j + 1, by omega, by go_num, by rw [← Hst.out], trivial⟩
      case measure => simp [intOf]; omega
    · have hje : j = vs.length := by omega
      subst hje
      have hp := Hpw.out vs.length (Nat.le_refl _)
      obtain ⟨all, hall⟩ : ∃ all : Nat, pw z vs.length = all := ⟨(pw z vs.length).toNat, by omega⟩
      rw [hall, Int.toNat_natCast] at Hho
      rw [hall] at hp ⊢
      clear hall Hpw
      go_wp2_with fail
      go_loopw [24] (fun i wr => ∃ n : Nat, n ≤ all ∧ i = .int .i64 n ∧ (∀ q, q < n → someH z tb (envOf (envF z vs (q : Nat) env0)) k = true) ∧ Below w2.heap.size w2 wr) (fun i _ => all - (intOf i).toNat)
      case atStart => exact ⟨0, Nat.zero_le _, rfl, fun q hq => by omega, Below.refl _ _⟩
      case round =>
        obtain ⟨n, hn, rfl, hok, hBx⟩ := hrel
        have Hok := hide hok
        clear hok
        replace m0 := grow_cell hBx _ _ m0
        replace m1 := grow_cell hBx _ _ m1
        have hBr := below_step hB2 hBx
        by_cases hnl : n < all
        · have hnl' : (n : Int) < (all : Int) := by omega
          have hq0 : (0 : Int) ≤ (n : Int) := by omega
          have Hkd := hide (fun j => kd_range z1 hq0 j)
          have Henv := hide (fun m => env_range z1 (vs := vs.take m) (n := (n : Int)) (L := env0) (fun x hx => by simp at hx; omega))
          have hmk := fun w : World => run_make (P := Try.prog) w 22 3 iI _ Try.underlying22 hi hz0 .i64 .i64 5 5 (by omega) (by omega) (by rw [hz2]; omega) (by omega)
          rw [hz1] at hmk
          go_wp2_with fail
          clear hmk
          generalize wr = wo at *
          go_loopw [9, 31] (fun q i wx => ∃ j : Nat, j ≤ vs.length ∧ i = .int .i64 j ∧ q = .int .i64 (kd z n j) ∧ EB wo (envF z (vs.take j) n env0) wx) (fun _ i _ => vs.length - (intOf i).toNat)
          case atStart => exact ⟨0, Nat.zero_le _, rfl, rfl, eb_start wo⟩
          case round =>
            obtain ⟨j, hj, rfl, rfl, hE⟩ := hrel
            have HE := hide hE
            have hBy := hE.1
            have hBz := below_step hBr hBy
            have hwo : w.heap.size < wo.heap.size := World.block_lt_of_cell? _ _ m0
            by_cases hjl : j < vs.length
            · have hjl' : (j : Int) < (vs.length : Int) := by omega
              have hvj : vs[j]? = some (vs.getD j 0) := by rw [List.getD_eq_getElem?_getD, List.getElem?_eq_getElem hjl]; rfl
              have hc := grow_cell (below_step hBx hBy) _ _ (HVF.out j hjl)
              have hvr := Hvr.out _ (List.mem_of_getElem? hvj)
              generalize vs.getD j 0 = v at hvj hc hvr
              obtain ⟨m, rfl⟩ : ∃ m : Nat, v = m := ⟨v.toNat, by omega⟩
              have Htk := hide (envF_take (z := z) (n := (n : Int)) (L := env0) hvj)
              have hva : va = some ⟨vb, vo, none⟩ := hvad (by omega)
              subst hva
              replace m0 := grow_cell hBy _ _ m0
              obtain ⟨e1, e2⟩ := hE.2.2.2 m (by omega)
              have hm5 : (m : Int) < 5 := by omega
              have hm0 : (0 : Int) ≤ (m : Int) := by omega
              have hk := Hkd.out j
              have Hkn : Hid (kd z n (j + 1) = kd z n j / z) := rfl
              rw [Int.toNat_natCast] at Htk
              generalize kd z n j = q at hk Hkn Htk
              obtain ⟨hk0, hk1⟩ := hk
              have hzz : z ≠ 0 := by omega
              have HS5 : Hid (EB wo (envF z (vs.take (j + 1)) n env0) (wr.setCell ⟨wo.heap.size, m, none⟩ (.int .i64 (q % z)))) := by
                rw [Htk.out]
                exact eb_step HE.out (by omega)
              have m0s : (wr.setCell ⟨wo.heap.size, m, none⟩ (.int .i64 (q % z))).cell? ⟨w.heap.size, 0, none⟩ = some (.int .i64 z) := (set_other (by intro e'; simp only [Addr.mk.injEq] at e'; omega)).trans m0
              clear hvj hvr hvad hE
              go_wp2_with fail
              go_roundw
              case rel => exact ⟨j + 1, by omega, by go_num, by rw [Hkn.out], HS5.out⟩
              case measure => simp [intOf]; omega
            · have hje : j = vs.length := by omega
              subst hje
              have Hq : Hid (NIn wr (envF z vs n env0) (.slice (some ⟨wo.heap.size, 0, none⟩) 5 5)) := by
                have := eb_nin HE.out
                rw [List.take_length] at this
                exact this
              have Hr : Hid (∀ x ∈ envF z vs n env0, 0 ≤ x ∧ x < z) := by
                have := Henv.out vs.length
                rw [List.take_length] at this
                exact this
              have Hc := hide (Hsome.out (envF z vs n env0) (by rw [envF_len]; rfl) Hr.out (.slice (some ⟨wo.heap.size, 0, none⟩) 5 5) wr hBz Hq.out)
              obtain ⟨V, hV⟩ : ∃ V, someH z tb (envOf (envF z vs n env0)) k = V := ⟨_, rfl⟩
              rw [hV] at Hc
              have HV := hide hV
              replace m0 := grow_cell hBy _ _ m0
              replace m1 := grow_cell hBy _ _ m1
              clear hE hV hvad
              go_wp2_with fail
              refine Hc.out.mono ?_
              rintro e w5 ⟨rfl, hb5⟩
              have Hend := hide (below_step (below_step hBx hBy) hb5)
              clear hb5
              cases V
              · have Hfin : Hid (holdsB z tb k = false) := by
                  rw [Hid, Hho.out, List.all_eq_false]
                  exact ⟨n, List.mem_range.2 (by omega), by rw [HV.out]; simp⟩
                go_wp2_with fail
                go_ret
                exact ⟨by rw [Hfin.out]; rfl, below_step hB2 Hend.out⟩
              · have Hnx : Hid (∀ q, q < n + 1 → someH z tb (envOf (envF z vs (q : Nat) env0)) k = true) := fun q hq => by
                  by_cases e : q = n
                  · rw [e]; exact HV.out
                  · exact Hok.out q (by omega)
                go_wp2_with fail
                go_roundw
                case rel => exact ⟨n + 1, by omega, by go_num, Hnx.out, Hend.out⟩
                case measure => simp [intOf]; omega
        · have Hfin : Hid (holdsB z tb k = true) := by
            rw [Hid, Hho.out, List.all_eq_true]
            intro q hq
            exact Hok.out q (by have := List.mem_range.1 hq; omega)
          go_wp2_with fail
          go_ret
          exact ⟨by rw [Hfin.out]; rfl, hBr⟩

end Go.Proofs.Ytfnkjadfepoicac

/- Which thing a term is: at, Value. -/
namespace Go.Proofs.Ytfnkjadfepoicac
open Go.RowKit Go.Deep Go.ChangeShapes Go.WideShapes
attribute [local go_sem ↓] Go.wp_at_zero Go.wp_at_succ

set_option maxRecDepth 100000 in
set_option maxHeartbeats 2000000 in
theorem atInt_any (L : List Int) (v : Value) (n : Nat) (w : World) (hN : NIn w L v) (hn : n < L.length) :
    Calls Try.prog 31 #[v, .int .i64 n] w fun e w' => e = .returned (.int .i64 (L.getD n 0)) ∧ Below w.heap.size w w' := by
  obtain ⟨ra, rc, rb, ro, rfl, hrad, hrlc, hrcm, hRF⟩ := hN
  unfold maxLen at hrcm
  have p2 := hRF n hn
  have hra : ra = some ⟨rb, ro, none⟩ := hrad (by omega)
  subst hra
  have hq' : (n : Int) < (L.length : Int) := by omega
  have hq0 : (0 : Int) ≤ (n : Int) := by omega
  generalize L.getD n 0 = V at *
  clear hRF hrad
  go_enter Try.func31, Try.ntmps31
  go_wp2_with fail
  go_ret
  exact ⟨rfl, Below.refl _ _⟩

set_option maxRecDepth 100000 in
set_option maxHeartbeats 2000000 in
theorem atRow_any (Z : List (List Int)) (v : Value) (n : Nat) (w : World) (hN : TbIn w Z v) (hn : n < Z.length) :
    Calls Try.prog 32 #[v, .int .i64 n] w fun e w' => ∃ pv, e = .returned pv ∧ NIn w' (Z.getD n []) pv ∧ Below w.heap.size w w' := by
  obtain ⟨ra, rc, rb, ro, rfl, hrad, hrlc, hrcm, hRF⟩ := hN
  unfold maxLen at hrcm
  obtain ⟨pv, p2, hP⟩ := hRF n hn
  have hra : ra = some ⟨rb, ro, none⟩ := hrad (by omega)
  subst hra
  have hq' : (n : Int) < (Z.length : Int) := by omega
  have hq0 : (0 : Int) ≤ (n : Int) := by omega
  have HP := hide hP
  generalize Z.getD n [] = V at *
  obtain ⟨pa, pc, _, _, rfl, -, -, -, -⟩ := hP
  clear hRF hrad
  go_enter Try.func32, Try.ntmps32
  go_wp2_with fail
  go_ret
  exact ⟨_, rfl, HP.out, Below.refl _ _⟩

def ValPSaid (s : List Int) (z : Int) (tb : List (List Int)) (L : List Int) (x : Bool × Int) (k : Fo) : Prop := ∀ (mv ev a : Value) (w : World), TbIn w tb mv → NIn w L ev → SIn w k a → sigT s (x, k) →
    Calls Try.prog 11 #[.agg #[.int .i64 z, mv], ev, .agg #[.bool x.1, .int .i64 x.2, a]] w fun e w' => e = .returned (.int .i64 (valT z tb (envOf L) (x, k))) ∧ Below w.heap.size w w'

set_option maxRecDepth 100000 in
set_option maxHeartbeats 2000000 in
theorem value_any {s L : List Int} {z : Int} {tb : List (List Int)} (hm : MR s z tb) (hs : s.all okNum = true) (hL : L.length = 5) (hr : ∀ x ∈ L, 0 ≤ x ∧ x < z) (x : Bool × Int) (k : Fo) : ValPSaid s z tb L x k := by
  refine Fo.ind1 (p := ValPSaid s z tb L) ?_ x k
  clear x k
  intro x k ih mv ev a w hT hE hS hw
  obtain ⟨xv, n⟩ := x
  have HI := hide ih
  have Hm := hide hm
  have Hs := hide hs
  have z1 := hm.z1
  have z8 := hm.z8
  have Hev : Hid (∀ v, 0 ≤ v → v ≤ 4 → 0 ≤ envOf L v ∧ envOf L v < z) := fun v _ _ => env_ok hm.z1 hr v
  have HT := hide hT
  have HE := hide hE
  have Hl := hide (Fo.len_list k)
  obtain ⟨ta, tc, tk, tq, rfl, -, -, -, -⟩ := hT
  obtain ⟨ea, ec, eb, eo, rfl, head, helc, hecm, hEF⟩ := hE
  obtain ⟨ad, c, b, o, rfl, had, hlc, hcm, hF⟩ := hS
  unfold maxLen at hcm hecm
  have hal : aloneF s (xv, n) (Fo.len k) = 0 := hw.1
  have hwk : sigF s k := hw.2
  have Hal := hide hal
  have Hwk := hide hwk
  have Hw := hide hw
  have HF := hide hF
  have HL := hide hL
  clear ih hm hs hr hal hwk hw hF hEF hL head
  go_enter Try.func11, Try.ntmps11
  go_upto_region 1 with fail
  generalize hW1 : (w.alloc (.cells #[.int .i64 z, .slice ta tb.length tc] 26)).alloc (.cells #[.bool xv, .int .i64 n, .slice ad (Fo.len k) c] 35) = W1
  have hB1 : Below w.heap.size w W1 := by rw [← hW1]; exact (below_alloc _ _).alloc (by simp) _
  have m0 : W1.cell? ⟨w.heap.size, 0, none⟩ = some (.int .i64 z) := by rw [← hW1, World.cell?_alloc_lt _ _ _ (by simp)]; exact new_cell rfl
  have m1 : W1.cell? ⟨w.heap.size, 1, none⟩ = some (.slice ta tb.length tc) := by rw [← hW1, World.cell?_alloc_lt _ _ _ (by simp)]; exact new_cell rfl
  have q0 : W1.cell? ⟨w.heap.size + 1, 0, none⟩ = some (.bool xv) := by rw [← hW1]; exact new_cell (World.size_alloc _ _)
  have q1 : W1.cell? ⟨w.heap.size + 1, 1, none⟩ = some (.int .i64 n) := by rw [← hW1]; exact new_cell (World.size_alloc _ _)
  have q2 : W1.cell? ⟨w.heap.size + 1, 2, none⟩ = some (.slice ad (Fo.len k) c) := by rw [← hW1]; exact new_cell (World.size_alloc _ _)
  clear hW1
  cases xv
  · obtain ⟨n0, n1, v0, v1, l2⟩ := val_args Hm.out Hs.out Hev.out Hw.out
    have Hv0 := hide v0
    have Hv1 := hide v1
    have Hvs : Hid (∀ t ∈ k.list, 0 ≤ valT z tb (envOf L) t ∧ valT z tb (envOf L) t < z) := fun t ht => val_rangeT Hm.out Hs.out Hev.out (sig_mem Hwk.out t ht)
    have Hvt : Hid (∀ j, j ≤ Fo.len k → 0 ≤ vTo z tb (envOf L) k j ∧ vTo z tb (envOf L) k j ≤ 64) := fun j hj => by
      have h1 := vTo_range z1 Hvs.out j hj
      have h2 := pw_small z1 z8 (j := j) (by omega)
      exact ⟨h1.1, by omega⟩
    clear v0 v1
    go_wp2_with fail
    go_loopw [7, 19] (fun s i wr => ∃ j : Nat, j ≤ Fo.len k ∧ i = .int .i64 j ∧ s = .int .i64 (vTo z tb (envOf L) k j) ∧ Below W1.heap.size W1 wr) (fun _ i _ => Fo.len k - (intOf i).toNat)
    case atStart => exact ⟨0, Nat.zero_le _, rfl, rfl, Below.refl _ _⟩
    case round =>
      obtain ⟨j, hj, rfl, rfl, hBx⟩ := hrel
      have hBr := below_step hB1 hBx
      have m0' := grow_cell hBx _ _ m0
      have m1' := grow_cell hBx _ _ m1
      have q1' := grow_cell hBx _ _ q1
      by_cases hlt : j < Fo.len k
      · have hlt' : (j : Int) < (Fo.len k : Int) := by omega
        obtain ⟨⟨⟨yv, yn⟩, yk⟩, hy⟩ : ∃ y, k.list[j]? = some y := ⟨k.list[j]'(by rw [Hl.out]; exact hlt), by simp⟩
        obtain ⟨c0, c1, yv', c2, hSy⟩ := (HF.out.below hBr).at hy
        have ha : ad = some ⟨b, o, none⟩ := had (by omega)
        subst ha
        have HS := hide hSy
        obtain ⟨ya, yc, yb, yo, rfl, -, -, -, -⟩ := hSy
        have hmem := List.mem_of_getElem? hy
        have hvy := Hvs.out _ hmem
        have hvj := Hvt.out j hj
        have Hst := hide (vTo_succ (z := z) (tb := tb) (e := envOf L) hy)
        have Hc := hide (fun (w' : World) (hb : Below wr.heap.size wr w') => HI.out ((yv, yn), yk) hmem (.slice ta tb.length tc) (.slice ea L.length ec) (.slice ya (Fo.len yk) yc) w' (HT.out.below (below_step hBr hb)) (HE.out.below (below_step hBr hb)) (HS.out.below hb) (sig_mem Hwk.out _ hmem))
        simp only at Hc
        generalize valT z tb (envOf L) ((yv, yn), yk) = V at hvy Hst Hc
        generalize vTo z tb (envOf L) k j = Aj at hvj Hst
        have hp0 : 0 ≤ z * Aj := Int.mul_nonneg (by omega) hvj.1
        have hp1 : z * Aj ≤ 8 * 64 := Int.mul_le_mul z8 hvj.2 hvj.1 (by omega)
        obtain ⟨hv1, hv2⟩ := hvy
        obtain ⟨hv3, hv4⟩ := hvj
        have Hwr : Hid (IntKind.i64.wrap (IntKind.i64.wrap (Aj * z) + V) = z * Aj + V) := by
          rw [Int.mul_comm Aj z]
          have e1 : IntKind.i64.wrap (z * Aj) = z * Aj := by rw [IntKind.wrap_i64]; omega
          rw [Hid, e1, IntKind.wrap_i64]
          omega
        clear hy had hmem hp0 hp1
        go_upto_region 7 with fail
        generalize hwa : wr.alloc (.cells #[.bool yv, .int .i64 yn, .slice ya (Fo.len yk) yc] 35) = wa
        have hba : Below wr.heap.size wr wa := by rw [← hwa]; exact below_alloc _ _
        have g0 : wa.cell? ⟨wr.heap.size, 0, none⟩ = some (.bool yv) := by rw [← hwa]; exact new_cell rfl
        have g1 : wa.cell? ⟨wr.heap.size, 1, none⟩ = some (.int .i64 yn) := by rw [← hwa]; exact new_cell rfl
        have g2 : wa.cell? ⟨wr.heap.size, 2, none⟩ = some (.slice ya (Fo.len yk) yc) := by rw [← hwa]; exact new_cell rfl
        have m0'' := grow_cell hba _ _ m0'
        have m1'' := grow_cell hba _ _ m1'
        have hcur : Below wa.heap.size wa wa.drew := (Below.refl _ _).drew
        clear hwa c0 c1 c2 m0 m1 m0' m1' q1 q2 q1'
        go_region_held3 (fun w' => w'.cell? ⟨wr.heap.size, 0, none⟩ = some (.bool yv) ∧ w'.cell? ⟨wr.heap.size, 1, none⟩ = some (.int .i64 yn) ∧ w'.cell? ⟨wr.heap.size, 2, none⟩ = some (.slice ya (Fo.len yk) yc) ∧ w'.cell? ⟨w.heap.size, 0, none⟩ = some (.int .i64 z) ∧ w'.cell? ⟨w.heap.size, 1, none⟩ = some (.slice ta tb.length tc))
          (first
            | (with_reducible exact ⟨grow_cell hcur _ _ g0, grow_cell hcur _ _ g1, grow_cell hcur _ _ g2, grow_cell hcur _ _ m0'', grow_cell hcur _ _ m1''⟩)
            | go_keep)
          (first
            | (go_at_call 11; with_reducible refine (Hc.out _ (below_step hba hcur)).mono ?_; rintro e wS ⟨rfl, hbS⟩; replace hcur := below_step hcur hbS))
        all_goals
          have Hend := hide (below_step hBx (below_step hba hcur))
          clear hcur hbS
          go_wp2_with fail
          go_roundw
          case rel => exact ⟨j + 1, by omega, by go_num, by rw [Hst.out, Hwr.out], Hend.out⟩
          case measure => simp [intOf]; omega
      · have hje : j = Fo.len k := by omega
        subst hje
        have Hval : Hid (valT z tb (envOf L) ((false, n), k) = (tb.getD n.toNat []).getD (valF z tb (envOf L) k 0).toNat 0) := rfl
        have Hve := hide (vTo_end z tb (envOf L) k)
        rw [Hve.out]
        obtain ⟨m, rfl⟩ : ∃ m : Nat, n = m := ⟨n.toNat, by omega⟩
        have hml : m < tb.length := by have := Hm.out.len; omega
        have Hv0' := Hv0.out
        have Hv1' := Hv1.out
        rw [Int.toNat_natCast] at Hv1'
        rw [Int.toNat_natCast] at Hval
        generalize valF z tb (envOf L) k 0 = vq at *
        obtain ⟨q, rfl⟩ : ∃ q : Nat, vq = q := ⟨vq.toNat, by omega⟩
        rw [Int.toNat_natCast] at Hval
        have Hq : Hid (q < (tb.getD m []).length) := by unfold Hid; omega
        clear Hv0' Hv1' had m0 m1 q1 m0' q2
        go_wp2_with fail
        refine (atRow_any tb _ m _ (HT.out.below hBr) hml).mono ?_
        rintro e w2 ⟨pv, rfl, hP, hb2⟩
        have hB2 := below_step hBr hb2
        have HP := hide hP
        generalize tb.getD m [] = row at *
        obtain ⟨pa, pc, _, _, rfl, -, -, -, -⟩ := hP
        clear hb2
        go_wp2_with fail
        refine (atInt_any row _ q _ HP.out Hq.out).mono ?_
        rintro e w3 ⟨rfl, hb3⟩
        generalize row.getD q 0 = V at *
        have hB3 := below_step hB2 hb3
        clear hb3
        go_wp2_with fail
        go_ret
        exact ⟨by rw [Hval.out]; rfl, hB3⟩
  · obtain ⟨rfl, n0, n4⟩ := alone_var Hal.out
    obtain ⟨m, rfl⟩ : ∃ m : Nat, n = m := ⟨n.toNat, by omega⟩
    have Hval : Hid (valT z tb (envOf L) ((true, (m : Int)), .nil) = L.getD m 0) := by
      show envOf L m = _
      unfold envOf
      rw [Int.toNat_natCast]
    have hm5 : m < L.length := by have := HL.out; omega
    clear m0 m1 q2
    go_wp2_with fail
    refine (atInt_any L _ m _ (HE.out.below hB1) hm5).mono ?_
    rintro e w3 ⟨rfl, hb3⟩
    generalize L.getD m 0 = V at *
    have hB3 := below_step hB1 hb3
    clear hb3
    go_wp2_with fail
    go_ret
    exact ⟨by rw [Hval.out]; rfl, hB3⟩

end Go.Proofs.Ytfnkjadfepoicac
