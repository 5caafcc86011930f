/- The closed fact that is asked first, of clauses. -/
import Derived.Test.YtfckelbdageenabGreatDoorG29
import Derived.Test.YtfckelbdageenabGreatDoorG21
import Derived.Test.YtfckelbdageenabGreatDoorG27
namespace Go.Proofs.YtfckelbdageenabGreatDoor
open Go.RowKit Go.Deep Go.ChangeShapes Go.WideShapes

def ac1 : Cl := [(false, vr 3, tb (vr 3)), (false, tb (vr 3), vr 3), (true, ta, ta)]
def ac2 : Cl := [(false, ta, tb ta), (true, ta, tb ta)]
def ac3 : Cl := [(false, tb (vr 0), vr 0), (true, ta, tb ta)]
def ac4 : Cl := [(false, tb (vr 0), vr 0)]
def ac5 : Cl := [(false, tb ta, ta), (true, ta, tb ta)]
theorem ap1 : parseC [0, 1, 2] [88, 51, 61, 98, 40, 88, 51, 41, 32, 124, 32, 98, 40, 88, 51, 41, 61, 88, 51, 32, 124, 32, 97, 33, 61, 97] = (0, ac1) := by kernel_rfl
theorem ap2 : parseC [0, 1, 2] [97, 61, 98, 40, 97, 41, 32, 124, 32, 97, 33, 61, 98, 40, 97, 41] = (0, ac2) := by kernel_rfl
theorem ap3 : parseC [0, 1] [98, 40, 88, 48, 41, 61, 88, 48, 32, 124, 32, 97, 33, 61, 98, 40, 97, 41] = (0, ac3) := by kernel_rfl
theorem an1 : normC ac1 = (0, ac4) := by kernel_rfl
theorem an2 : normC ac2 = (6, []) := by kernel_rfl
theorem ax3 : textC ac3 = [98, 40, 88, 48, 41, 61, 88, 48, 32, 124, 32, 97, 33, 61, 98, 40, 97, 41] := by kernel_rfl
theorem ax4 : textC ac4 = [98, 40, 88, 48, 41, 61, 88, 48] := by kernel_rfl
theorem ax5 : textC ac5 = [98, 40, 97, 41, 61, 97, 32, 124, 32, 97, 33, 61, 98, 40, 97, 41] := by kernel_rfl
theorem av3 : varsC ac3 [] = [0] := by kernel_rfl
theorem as3 : sameC ac3 ac3 = true := by kernel_rfl
theorem al3 : sameL (false, tb (vr 0), vr 0) (false, tb (vr 0), vr 0) = true := by kernel_rfl
theorem aw3 : wrongC [0, 1] ac3 = 0 := by kernel_rfl
theorem aa3 : ac3.map (mapL (subT (bnd [(0, ta)]))) = ac5 := by kernel_rfl
theorem ar3 : ac3.map (mapL (subT (ren 2))) = [(false, tb (vr 2), vr 2), (true, ta, tb ta)] := by kernel_rfl
theorem gl_right {s : List Int} {l : Lt} (hs : s.all okNum = true) (h1 : Fo.norm l.2.1.2 = l.2.1.2) (h2 : Fo.norm l.2.2.2 = l.2.2.2) (h : wrongL s l = 0) : GL l := by
  obtain ⟨w1, w2⟩ := wrongL_iff.1 h
  obtain ⟨a1, _, a3⟩ := gd_right hs h1 w1
  obtain ⟨b1, _, b3⟩ := gd_right hs h2 w2
  exact ⟨a1, b1, a3, b3⟩
/-- A right clause, its terms as they are read. -/
def nC (c : Cl) : Prop := ∀ l ∈ c, Fo.norm l.2.1.2 = l.2.1.2 ∧ Fo.norm l.2.2.2 = l.2.2.2
theorem gc_right {s : List Int} {c : Cl} (hs : s.all okNum = true) (hn : nC c) (h : wrongC s c = 0) : GC c := by
  obtain ⟨h1, h2⟩ := wrongC_iff.1 h
  exact ⟨h1, fun l hl => gl_right hs (hn l hl).1 (hn l hl).2 (wrongL_iff.2 (h2 l hl))⟩
theorem nc1 : nC ac1 := by intro l hl; simp only [ac1, List.mem_cons, List.not_mem_nil, or_false] at hl; rcases hl with rfl | rfl | rfl <;> exact ⟨rfl, rfl⟩
theorem nc2 : nC ac2 := by intro l hl; simp only [ac2, List.mem_cons, List.not_mem_nil, or_false] at hl; rcases hl with rfl | rfl <;> exact ⟨rfl, rfl⟩
theorem nc3 : nC ac3 := by intro l hl; simp only [ac3, List.mem_cons, List.not_mem_nil, or_false] at hl; rcases hl with rfl | rfl <;> exact ⟨rfl, rfl⟩
theorem nc4 : nC ac4 := by intro l hl; simp only [ac4, List.mem_cons, List.not_mem_nil, or_false] at hl; rcases hl with rfl <;> exact ⟨rfl, rfl⟩
theorem nc5 : nC ac5 := by intro l hl; simp only [ac5, List.mem_cons, List.not_mem_nil, or_false] at hl; rcases hl with rfl | rfl <;> exact ⟨rfl, rfl⟩
theorem gc1 : GC ac1 := gc_right (s := [0, 1, 2]) (by decide) nc1 (by kernel_rfl)
theorem gc2 : GC ac2 := gc_right (s := [0, 1, 2]) (by decide) nc2 (by kernel_rfl)
/-- The text of a right clause can be written. -/
theorem tx_right {s : List Int} (h6 : s.length ≤ 6) (hs : s.all okNum = true) {x : Bool × Int} {k : Fo} (h : wrongF s x k = 0) : TxT (x, k) := by
  obtain ⟨h1, _, _, _, hw⟩ := right_of hs h
  have hl := textT_len x k
  obtain ⟨t1, t2⟩ := text_okT h6 hw
  exact ⟨t1, t2, by simp only; omega⟩
theorem txC_right {s : List Int} (h6 : s.length ≤ 6) (hs : s.all okNum = true) {c : Cl} (h : wrongC s c = 0) : ∀ l ∈ c, TxT l.2.1 ∧ TxT l.2.2 := fun l hl =>
  ⟨tx_right h6 hs ((wrongC_iff.1 h).2 l hl).1, tx_right h6 hs ((wrongC_iff.1 h).2 l hl).2⟩
theorem textL_len {l : Lt} (h : TxT l.2.1 ∧ TxT l.2.2) : (textL l).length ≤ 2002 := by
  have h1 := h.1.2.2
  have h2 := h.2.2.2
  simp only [textL, List.length_append]
  split <;> simp <;> omega
theorem textC_len {c : Cl} (h : ∀ l ∈ c, TxT l.2.1 ∧ TxT l.2.2) (h4 : c.length ≤ 4) : (textC c).length ≤ 100000 := by
  have key : ∀ (r : List (List UInt8)), (∀ x ∈ r, x.length ≤ 2002) → (Lib.join r sepL).length ≤ r.length * 2010 := by
    intro r
    induction r with
    | nil => intro _; simp [Lib.join_nil]
    | cons x r ih =>
      intro hx
      have h1 := ih (fun y hy => hx y (by simp [hy]))
      have h2 := hx x (by simp)
      cases r with
      | nil => rw [Lib.join_one]; simp; omega
      | cons y r =>
        rw [join_cons2]
        simp only [List.length_append, List.length_cons, List.length_nil] at h1 ⊢
        omega
  unfold textC
  split
  · simp
  · have := key (c.map textL) (fun x hx => by
      obtain ⟨l, hl, rfl⟩ := List.mem_map.1 hx
      exact textL_len (h l hl))
    rw [List.length_map] at this
    omega

set_option maxRecDepth 100000 in
set_option maxHeartbeats 1000000 in
theorem read4_any {L : ByteArray} {l : List UInt8} {c : Cl} (hL : L.data.toList = l) (h : parseC [0, 1, 2] l = (0, c)) (hl : l.length ≤ 1000) (w : World) :
    Calls Tryz.prog 60 #[.string L] w fun e w' => ∃ z1 z2 z3, e = .returned (.slice z1 z2 z3) ∧ CIn w' c (.slice z1 z2 z3) ∧ Below w.heap.size w w' := by
  have Hp := hide h
  have HN0 : Hid (NIn (w.alloc (.cells #[.int .i64 0, .int .i64 1, .int .i64 2] 3)) [0, 1, 2] (.slice (some ⟨w.heap.size, 0, none⟩) 3 3)) := nin_lit (w := w) [0, 1, 2] (by decide) (by decide) 3
  have HL := hide hL
  have hz : L.size < 4294967281 := by rw [ba_size hL]; omega
  clear h hL
  go_enter Tryz.func60, Tryz.ntmps60
  go_wp2_with fail
  refine (parseCR_any [0, 1, 2] _ L _ HN0.out hz).mono ?_
  rintro e w2 ⟨z1, z2, z3, rfl, hC, hb⟩
  rw [HL.out, Hp.out] at hC ⊢
  have HC := hide hC
  have hB := below_box hb
  clear hC hb
  go_wp2_with fail
  go_ret
  exact ⟨z1, z2, z3, rfl, HC.out, hB⟩

set_option maxRecDepth 100000 in
set_option maxHeartbeats 40000000 in
theorem alive4_any (m : Int) (w : World) (hM : w.cell? ⟨0, 0, none⟩ = some (.int .i64 m)) : Calls Tryz.prog 29 #[] w fun e w' => e = .returned (.bool true) ∧ Below w.heap.size w w' := by
  have hB : Below w.heap.size w w := Below.refl _ _
  have HM := hide hM
  clear hM
  go_enter Tryz.func29, Tryz.ntmps29
  go_wp2_with fail
  refine (read4_any rfl ap1 (by decide) _).mono ?_
  rintro e w1 ⟨z1, z2, z3, rfl, h1, hb⟩
  replace hB := below_step hB hb
  replace HM := hide (grow_cell hb _ _ HM.out)
  clear hb
  have H1 := hide h1
  clear h1
  generalize w1 = wn at *
  go_wp2_with fail
  refine (norm_any ac1 _ _ H1.out gc1).mono ?_
  rintro e w1 ⟨v, rfl, h2, hb⟩
  replace hB := below_step hB hb
  replace HM := hide (grow_cell hb _ _ HM.out)
  replace H1 := hide (H1.out.below hb)
  rw [an1] at h2 ⊢
  obtain ⟨a1, a3, rfl⟩ := slice_of_cl h2
  clear hb
  have H2 := hide h2
  clear h2
  generalize w1 = wn at *
  clear H1
  go_wp2_with fail
  refine (read4_any rfl ap2 (by decide) _).mono ?_
  rintro e w1 ⟨z1, z2, z3, rfl, h1, hb⟩
  replace hB := below_step hB hb
  replace HM := hide (grow_cell hb _ _ HM.out)
  replace H2 := hide (H2.out.below hb)
  clear hb
  have H1 := hide h1
  clear h1
  generalize w1 = wn at *
  go_wp2_with fail
  refine (norm_any ac2 _ _ H1.out gc2).mono ?_
  rintro e w1 ⟨v, rfl, h3, hb⟩
  replace hB := below_step hB hb
  replace HM := hide (grow_cell hb _ _ HM.out)
  replace H2 := hide (H2.out.below hb)
  replace H1 := hide (H1.out.below hb)
  rw [an2] at h3 ⊢
  obtain ⟨b1, b3, rfl⟩ := slice_of_cl h3
  clear h3
  clear hb
  generalize w1 = wn at *
  clear H1
  have HN : ∀ w : World, NIn (w.alloc (.cells #[.int .i64 0, .int .i64 1] 3)) [0, 1] (.slice (some ⟨w.heap.size, 0, none⟩) 2 2) := fun w => nin_lit (w := w) [0, 1] (by decide) (by decide) 3
  replace HN := hide HN
  go_wp2_with fail
  refine (parseCl_any [0, 1] _ ⟨#[98, 40, 88, 48, 41, 61, 88, 48, 32, 124, 32, 97, 33, 61, 98, 40, 97, 41]⟩ m _ (HN.out _) (grow_cell (below_alloc _ _) _ _ HM.out) (by decide)).mono ?_
  rintro e w1 ⟨c1, c2, c3, rfl, h4, hb⟩
  replace hb := below_box hb
  replace hB := below_step hB hb
  replace HM := hide (grow_cell hb _ _ HM.out)
  replace H2 := hide (H2.out.below hb)
  rw [show (⟨#[98, 40, 88, 48, 41, 61, 88, 48, 32, 124, 32, 97, 33, 61, 98, 40, 97, 41]⟩ : ByteArray).data.toList = [98, 40, 88, 48, 41, 61, 88, 48, 32, 124, 32, 97, 33, 61, 98, 40, 97, 41] from rfl, ap3] at h4 ⊢
  obtain ⟨d1, d3, hd⟩ := slice_of_cl h4
  rw [hd] at h4 ⊢
  clear hd
  clear hb
  have H4 := hide h4
  clear h4
  generalize w1 = wn at *
  obtain ⟨q1, q3, qb, qo, hqe, hqa, -, -, hqF⟩ := H4.out
  have hd1 : d1 = some ⟨qb, qo, none⟩ := by
    have := hqa (by decide)
    simp only [Value.slice.injEq] at hqe
    rw [hqe.1]; exact this
  subst hd1
  obtain ⟨p0, p1, p2, ⟨u3, p3, hA⟩, p4, p5, u6, p6, hE⟩ := hqF.at (i := 0) (l := (false, tb (vr 0), vr 0)) rfl
  simp only [Nat.zero_mul, Nat.add_zero, tb, vr] at p0 p1 p2 p3 p4 p5 p6
  have HA := hide hA
  have HE := hide hE
  obtain ⟨ya, yc, _, _, rfl, -, -, -, -⟩ := hA
  obtain ⟨za, zc, _, _, rfl, -, -, -, -⟩ := hE
  clear hqe hqa hqF
  have HS : ∀ w : World, SubIn (w.alloc (.cells #[.int .i64 0, .bool false, .int .i64 0, .slice none 0 0] 38)) [(0, ta)] (.slice (some ⟨w.heap.size, 0, none⟩) 1 1) := fun w =>
    ⟨_, 1, w.heap.size, 0, rfl, fun _ => rfl, Nat.le_refl _, by decide, new_cell rfl, new_cell rfl, new_cell rfl, ⟨_, new_cell rfl, SIn.nil _⟩, trivial⟩
  replace HS := hide HS
  have el4 : ac4.length = 1 := rfl
  have el3 : ac3.length = 2 := rfl
  rw [el4] at H2
  rw [el3] at H4
  go_upto_region 4 with fail
  try rw [el4, el3]
  have hcur : Below wn.heap.size wn wn.drew := (Below.refl _ _).drew
  have Hc1 : Hid (∀ w', Below wn.heap.size wn w' → Calls Tryz.prog 16 #[.slice a1 1 a3] w' fun e w'' => e = .returned (.string ⟨#[98, 40, 88, 48, 41, 61, 88, 48]⟩) ∧ Below w'.heap.size w' w'') := fun w' hb => by
    refine (textCl_any ac4 _ w' (H2.out.below hb) (txC_right (s := [0, 1, 2]) (by decide) (by decide) (by kernel_rfl)) (by decide) (by rw [ax4]; decide)).mono ?_
    rintro e w2 ⟨D, rfl, hD, hb2⟩
    rw [ax4] at hD
    exact ⟨by rw [byte_eq hD], hb2⟩
  have Hc2 : Hid (∀ w', Below wn.heap.size wn w' → Calls Tryz.prog 16 #[.slice (some ⟨qb, qo, none⟩) 2 d3] w' fun e w'' => e = .returned (.string ⟨#[98, 40, 88, 48, 41, 61, 88, 48, 32, 124, 32, 97, 33, 61, 98, 40, 97, 41]⟩) ∧ Below w'.heap.size w' w'') := fun w' hb => by
    refine (textCl_any ac3 _ w' (H4.out.below hb) (txC_right (s := [0, 1]) (by decide) (by decide) aw3) (by decide) (by rw [ax3]; decide)).mono ?_
    rintro e w2 ⟨D, rfl, hD, hb2⟩
    rw [ax3] at hD
    exact ⟨by rw [byte_eq hD], hb2⟩
  have Hc3 : Hid (∀ w', Below wn.heap.size wn w' → Calls Tryz.prog 18 #[.slice (some ⟨qb, qo, none⟩) 2 d3] w' fun e w'' => ∃ n1 n3, e = .returned (.slice n1 1 n3) ∧ Below w'.heap.size w' w'') := fun w' hb => by
    refine (varsCl_any ac3 _ w' (H4.out.below hb) (by decide)).mono ?_
    rintro e w2 ⟨v, rfl, hN, hb2⟩
    rw [av3] at hN
    obtain ⟨n1, n3, rfl⟩ := nin_slice hN
    exact ⟨n1, n3, rfl, hb2⟩
  have Hc4 : Hid (∀ w', Below wn.heap.size wn w' → Calls Tryz.prog 12 #[.slice (some ⟨qb, qo, none⟩) 2 d3, .slice (some ⟨qb, qo, none⟩) 2 d3] w' fun e w'' => e = .returned (.bool true) ∧ Below w'.heap.size w' w'') := fun w' hb => by
    refine (sameC_any ac3 ac3 _ _ w' (H4.out.below hb) (H4.out.below hb)).mono ?_
    rintro e w2 ⟨rfl, hb2⟩
    exact ⟨by rw [as3], hb2⟩
  have Hc5 : Hid (∀ w', Below wn.heap.size wn w' → Calls Tryz.prog 20 #[.agg #[.bool false, .bool false, .int .i64 1, .slice ya 1 yc, .bool true, .int .i64 0, .slice za 0 zc], .agg #[.bool false, .bool false, .int .i64 1, .slice ya 1 yc, .bool true, .int .i64 0, .slice za 0 zc]] w' fun e w'' => e = .returned (.bool true) ∧ Below w'.heap.size w' w'') := fun w' hb => by
    refine (sameLit_any (false, tb (vr 0), vr 0) (false, tb (vr 0), vr 0) _ _ _ _ w' (HA.out.below hb) (HE.out.below hb) (HA.out.below hb) (HE.out.below hb)).mono ?_
    rintro e w2 ⟨rfl, hb2⟩
    exact ⟨by rw [al3], hb2⟩
  have Hc6 : Hid (∀ w', Below wn.heap.size wn w' → Calls Tryz.prog 10 #[.slice (some ⟨w'.heap.size, 0, none⟩) 2 2, .slice (some ⟨qb, qo, none⟩) 2 d3] (w'.alloc (.cells #[.int .i64 0, .int .i64 1] 3)) fun e w'' => e = .returned (.int .i64 0) ∧ Below w'.heap.size w' w'') := fun w' hb => by
    refine (wrongC_any [0, 1] _ ac3 _ _ (HN.out w') ((H4.out.below hb).alloc _)).mono ?_
    rintro e w2 ⟨rfl, hb2⟩
    exact ⟨by rw [aw3], below_box hb2⟩
  have Hc7 : Hid (∀ w', Below wn.heap.size wn w' → Calls Tryz.prog 22 #[.slice (some ⟨w'.heap.size, 0, none⟩) 1 1, .slice (some ⟨qb, qo, none⟩) 2 d3] (w'.alloc (.cells #[.int .i64 0, .bool false, .int .i64 0, .slice none 0 0] 38)) fun e w'' => ∃ g, e = .returned (.slice (some ⟨g, 0, none⟩) 2 2) ∧ CIn w'' ac5 (.slice (some ⟨g, 0, none⟩) 2 2) ∧ Below w'.heap.size w' w'') := fun w' hb => by
    refine (applyC_any [(0, ta)] _ ac3 _ _ (HS.out w') (fun p hp => by simp at hp; rw [hp]; exact ⟨⟨by decide, trivial⟩, ⟨fun h => (by cases h), trivial⟩⟩) ((H4.out.below hb).alloc _) (fun l hl => ⟨(gl_right (s := [0, 1]) (by decide) (nc3 l hl).1 (nc3 l hl).2 (wrongL_iff.2 ((wrongC_iff.1 aw3).2 l hl))).gl.nar, (gl_right (s := [0, 1]) (by decide) (nc3 l hl).1 (nc3 l hl).2 (wrongL_iff.2 ((wrongC_iff.1 aw3).2 l hl))).gr.nar⟩) (by decide)).mono ?_
    rintro e w2 ⟨g, rfl, h5, hb2⟩
    rw [aa3] at h5
    exact ⟨g, rfl, h5, below_box hb2⟩
  have Hc8 : Hid (∀ g w', CIn w' ac5 (.slice (some ⟨g, 0, none⟩) 2 2) → Calls Tryz.prog 16 #[.slice (some ⟨g, 0, none⟩) 2 2] w' fun e w'' => e = .returned (.string ⟨#[98, 40, 97, 41, 61, 97, 32, 124, 32, 97, 33, 61, 98, 40, 97, 41]⟩) ∧ Below w'.heap.size w' w'') := fun g w' h5 => by
    refine (textCl_any ac5 _ w' h5 (txC_right (s := [0, 1]) (by decide) (by decide) (by kernel_rfl)) (by decide) (by rw [ax5]; decide)).mono ?_
    rintro e w2 ⟨D, rfl, hD, hb2⟩
    rw [ax5] at hD
    exact ⟨by rw [byte_eq hD], hb2⟩
  have Hc9 : Hid (∀ w', Below wn.heap.size wn w' → Calls Tryz.prog 26 #[.slice (some ⟨qb, qo, none⟩) 2 d3, .int .i64 2] w' fun e w'' => ∃ g, e = .returned (.slice (some ⟨g, 0, none⟩) 2 2) ∧ w''.cell? ⟨g, 5, none⟩ = some (.int .i64 2) ∧ Below w'.heap.size w' w'') := fun w' hb => by
    refine (renameC_any 2 ac3 _ w' (H4.out.below hb) (fun l hl => ⟨(gl_right (s := [0, 1]) (by decide) (nc3 l hl).1 (nc3 l hl).2 (wrongL_iff.2 ((wrongC_iff.1 aw3).2 l hl))).gl.nar, (gl_right (s := [0, 1]) (by decide) (nc3 l hl).1 (nc3 l hl).2 (wrongL_iff.2 ((wrongC_iff.1 aw3).2 l hl))).gr.nar⟩) (by decide)).mono ?_
    rintro e w2 ⟨g2, rfl, h6, hb2⟩
    rw [ar3] at h6
    obtain ⟨x1, x3, xb, xo, hxe, hxa, -, -, hxF⟩ := h6
    have hx1 : x1 = some ⟨xb, xo, none⟩ := hxa (by decide)
    have hxb : xb = g2 ∧ xo = 0 := by
      simp only [Value.slice.injEq] at hxe
      rw [hx1] at hxe
      have := hxe.1
      simp only [Option.some.injEq, Addr.mk.injEq] at this
      exact ⟨this.1.symm, this.2.1.symm⟩
    obtain ⟨rfl, rfl⟩ := hxb
    have c5 := (hxF.at (i := 0) (l := (false, tb (vr 2), vr 2)) rfl).2.2.2.2.2.1
    simp only [Nat.zero_mul, Nat.add_zero, Nat.zero_add, vr] at c5
    exact ⟨xb, rfl, c5, hb2⟩
  simp only [tb, vr, Fo.len, Nat.zero_add] at p3 p6
  clear H2 H4 HA HE HN HS HM el3 el4
  simp only [List.append_eq, List.cons_append, List.nil_append]
  go_region_held3 (fun w' => w'.cell? ⟨qb, qo, none⟩ = some (.bool false) ∧ w'.cell? ⟨qb, qo + 1, none⟩ = some (.bool false) ∧ w'.cell? ⟨qb, qo + 2, none⟩ = some (.int .i64 1) ∧ w'.cell? ⟨qb, qo + 3, none⟩ = some (.slice ya 1 yc) ∧ w'.cell? ⟨qb, qo + 4, none⟩ = some (.bool true) ∧ w'.cell? ⟨qb, qo + 5, none⟩ = some (.int .i64 0) ∧ w'.cell? ⟨qb, qo + 6, none⟩ = some (.slice za 0 zc))
    (first
      | (with_reducible exact ⟨grow_cell hcur _ _ p0, grow_cell hcur _ _ p1, grow_cell hcur _ _ p2, grow_cell hcur _ _ p3, grow_cell hcur _ _ p4, grow_cell hcur _ _ p5, grow_cell hcur _ _ p6⟩)
      | (with_reducible exact ⟨grow_cell (below_step hcur (below_alloc _ _)) _ _ p0, grow_cell (below_step hcur (below_alloc _ _)) _ _ p1, grow_cell (below_step hcur (below_alloc _ _)) _ _ p2, grow_cell (below_step hcur (below_alloc _ _)) _ _ p3, grow_cell (below_step hcur (below_alloc _ _)) _ _ p4, grow_cell (below_step hcur (below_alloc _ _)) _ _ p5, grow_cell (below_step hcur (below_alloc _ _)) _ _ p6⟩)
      | (with_reducible exact ⟨c5, grow_cell hcur _ _ p0, grow_cell hcur _ _ p1, grow_cell hcur _ _ p2, grow_cell hcur _ _ p3, grow_cell hcur _ _ p4, grow_cell hcur _ _ p5, grow_cell hcur _ _ p6⟩)
      | go_keep)
    (first
      | (go_at_call 16; with_reducible refine (Hc1.out _ hcur).mono ?_; rintro e wA ⟨rfl, hbA⟩; replace hcur := below_step hcur hbA)
      | (go_at_call 16; with_reducible refine (Hc2.out _ hcur).mono ?_; rintro e wB ⟨rfl, hbB⟩; replace hcur := below_step hcur hbB)
      | (go_at_call 18; with_reducible refine (Hc3.out _ hcur).mono ?_; rintro e wC ⟨n1, n3, rfl, hbC⟩; replace hcur := below_step hcur hbC)
      | (go_at_call 12; with_reducible refine (Hc4.out _ hcur).mono ?_; rintro e wD ⟨rfl, hbD⟩; replace hcur := below_step hcur hbD)
      | (go_at_call 20; with_reducible refine (Hc5.out _ hcur).mono ?_; rintro e wE ⟨rfl, hbE⟩; replace hcur := below_step hcur hbE)
      | (go_at_call 10; with_reducible refine (Hc6.out _ hcur).mono ?_; rintro e wF ⟨rfl, hbF⟩; replace hcur := below_step hcur hbF)
      | (go_at_call 22; with_reducible refine (Hc7.out _ hcur).mono ?_; rintro e wG ⟨g7, rfl, h5, hbG⟩; replace hcur := below_step hcur hbG; have H5 := hide h5; clear h5)
      | (go_at_call 16; with_reducible refine (Hc8.out _ _ H5.out).mono ?_; rintro e wH ⟨rfl, hbH⟩; replace hcur := below_step hcur hbH)
      | (go_at_call 26; with_reducible refine (Hc9.out _ hcur).mono ?_; rintro e wI ⟨g9, rfl, c5, hbI⟩; replace hcur := below_step hcur hbI; have eMore := held_more (fun w' => w'.cell? ⟨g9, 5, none⟩ = some (.int .i64 2) ∧ w'.cell? ⟨qb, qo, none⟩ = some (.bool false) ∧ w'.cell? ⟨qb, qo + 1, none⟩ = some (.bool false) ∧ w'.cell? ⟨qb, qo + 2, none⟩ = some (.int .i64 1) ∧ w'.cell? ⟨qb, qo + 3, none⟩ = some (.slice ya 1 yc) ∧ w'.cell? ⟨qb, qo + 4, none⟩ = some (.bool true) ∧ w'.cell? ⟨qb, qo + 5, none⟩ = some (.int .i64 0) ∧ w'.cell? ⟨qb, qo + 6, none⟩ = some (.slice za 0 zc)) (fun _ hs => hs.2) ‹Shut _›; simp only [eMore] at ‹Shut _›; clear eMore))
  all_goals
    go_wp2_with fail
    go_ret
    exact ⟨rfl, below_step hB hcur⟩

end Go.Proofs.YtfckelbdageenabGreatDoor
