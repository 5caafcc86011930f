/- Any slice appended to a row of the call's own. -/
import Derived.Test.YtleogbdinafpaaaG08
import Derived.Test.YtleogbdinafpaaaG10
import Derived.Deep.RegionLaw
import Derived.Test.YtleogbdinafpaaaG07
namespace Go.Proofs.Ytleogbdinafpaaa
open Go.RowKit Go.Deep Go.ChangeShapes Go.WideShapes

/-- The slice lv has m elements, whose cells are news. -/
def Cs (w : World) (lv : Value) (m size : Nat) (news : List Value) : Prop :=
  ∃ (a : Option Addr) (c : Nat), lv = .slice a m c ∧ news.length = m * size ∧ (∀ u ∈ news, u.oneCell' = true) ∧ (a = none → m = 0) ∧ ∀ ad, a = some ad → ∀ j u, news[j]? = some u → w.cell? (ad.add j) = some u

theorem append_nothing {w : World} (base : Nat) (t ty e : TypeId) (i : TypeInfo) (size : Nat) (ht : Try.prog.underlying t = some (.slice e)) (hi : Try.prog.info? e = some i) (v : Value) (n c : Nat) (xs : List Value) (hown : w.ownsRow base e size v n xs) :
    (Builtin.append_ #[t, t] ty #[v, .slice none 0 c]).run Try.prog w = .ok v w := by
  rcases hown.2 with ⟨rfl, rfl⟩ | ⟨g, cap, cur, rfl, _, _, hnc, _⟩
  · simp [Builtin.append_, run_underlying ht, sizeOf, typeInfo, hi, Builtin.lenOf, Builtin.firstCells]
  · simp [Builtin.append_, run_underlying ht, sizeOf, typeInfo, hi, Builtin.lenOf, Builtin.firstCells, hnc, storeCells]

theorem run_append_gen {w : World} (base : Nat) (t ty e : TypeId) (i : TypeInfo) (z : Value) (size bytes : Nat) (ht : Try.prog.underlying t = some (.slice e)) (hi : Try.prog.info? e = some i) (hz : i.zero = some z) (hsize : i.size = size) (hby : i.bytes = bytes) (hzs : z.cells.size = size) (hsz : 0 < size)
    (v : Value) (n : Nat) (xs : List Value) (hown : w.ownsRow base e size v n xs) (lv : Value) (m : Nat) (news : List Value) (hC : Cs w lv m size news) (h63 : n + m ≤ maxLen) (hb : (n + m) * bytes ≤ 140737488355328) (hbase : base ≤ w.heap.size) :
    ∃ v' w', (Builtin.append_ #[t, t] ty #[v, lv]).run Try.prog w = .ok v' w' ∧ w'.ownsRow base e size v' (n + m) (xs ++ news) ∧ w.grownBy w' v.ownBlock ∧ (v'.ownBlock = v.ownBlock ∨ v'.ownBlock = some w.heap.size) := by
  obtain ⟨a, c, rfl, hl, h1, h0, hc⟩ := hC
  cases a with
  | none =>
    have hm := h0 rfl
    subst hm
    have hn : news = [] := List.length_eq_zero_iff.1 (by rw [hl]; simp)
    subst hn
    exact ⟨v, w, append_nothing base t ty e i size ht hi v n c xs hown, by simpa using hown, ⟨rfl, rfl, rfl, Nat.le_refl _, fun _ _ _ => rfl⟩, .inl rfl⟩
  | some ad =>
    obtain ⟨v', w', hr, h2, h3, _, h5⟩ := run_append_own_at (P := Try.prog) w base t ty e i z size bytes ht hi hz hsize hby hzs hsz v n xs hown ad m c news hl (hc ad rfl) h1 h63 hb hbase
    exact ⟨v', w', hr, h2, h3, h5⟩

theorem wp_append_gen {w : World} {o : Oper} {a : Act} {K : Act → World → Prop} {Q : Exit → Act → World → Prop} (s x : Operand) (t : TypeId)
    (ho : o.op = .call { callee := .builtin .append, args := #[s, x], argTypes := #[t, t] }) (base : Nat) (e : TypeId) (i : TypeInfo) (z : Value) (size bytes : Nat) (ht : Try.prog.underlying t = some (.slice e)) (hi : Try.prog.info? e = some i) (hz : i.zero = some z) (hsize : i.size = size) (hby : i.bytes = bytes) (hzs : z.cells.size = size) (hsz : 0 < size)
    (v : Value) (n : Nat) (xs : List Value) (hs : a.eval s = v) (hown : w.ownsRow base e size v n xs) (lv : Value) (m : Nat) (news : List Value) (hx : a.eval x = lv) (hC : Cs w lv m size news) (h63 : n + m ≤ maxLen) (hb : (n + m) * bytes ≤ 140737488355328) (hbase : base ≤ w.heap.size)
    (h : ∀ v' w', w'.ownsRow base e size v' (n + m) (xs ++ news) → w.grownBy w' v.ownBlock → (v'.ownBlock = v.ownBlock ∨ v'.ownBlock = some w.heap.size) → K (a.put o.dst v') w') : o.wp Try.prog a w K Q := by
  obtain ⟨v', w', hr, h2, h3, h4⟩ := run_append_gen base t o.type e i z size bytes ht hi hz hsize hby hzs hsz v n xs hown lv m news hC h63 hb hbase
  unfold Oper.wp execOp
  simp only [ho, resolve, invoke, builtin, Sem.run_bind, Sem.run_pure, Result.andThen_ok, List.map_toArray, List.map_cons, List.map_nil, hs, hx, hr]
  exact h v' w' h2 h3 h4

theorem step_append_gen {w : World} {ops : Array Oper} {o : Oper} {a : Act} {K : Act → World → Prop} {Q : Exit → Act → World → Prop} {E : Prop} (hgd : o.guard = none) (s x : Operand) (t : TypeId)
    (ho : o.op = .call { callee := .builtin .append, args := #[s, x], argTypes := #[t, t] }) (base : Nat) (e : TypeId) (i : TypeInfo) (z : Value) (size bytes : Nat) (ht : Try.prog.underlying t = some (.slice e)) (hi : Try.prog.info? e = some i) (hz : i.zero = some z) (hsize : i.size = size) (hby : i.bytes = bytes) (hzs : z.cells.size = size) (hsz : 0 < size)
    (v : Value) (n : Nat) (xs : List Value) (hs : a.eval s = v) (hown : w.ownsRow base e size v n xs) (lv : Value) (m : Nat) (news : List Value) (hx : a.eval x = lv) (hC : Cs w lv m size news) (h63 : n + m ≤ maxLen) (hb : (n + m) * bytes ≤ 140737488355328) (hbase : base ≤ w.heap.size)
    (h : ∀ v' w', w'.ownsRow base e size v' (n + m) (xs ++ news) → w.grownBy w' v.ownBlock → (v'.ownBlock = v.ownBlock ∨ v'.ownBlock = some w.heap.size) → K (a.put o.dst v') w') :
    if Region.wanted o (yielded ops a.tmps) = true then Oper.wp Try.prog o a w K Q else E := by
  have hw : Region.wanted o (yielded ops a.tmps) = true := by simp [Region.wanted, hgd]
  rw [if_pos hw]
  exact wp_append_gen s x t ho base e i z size bytes ht hi hz hsize hby hzs hsz v n xs hs hown lv m news hx hC h63 hb hbase h
theorem wpList_append_gen {w : World} {ops : Array Oper} {rest : List Oper} {o : Oper} {a : Act} {Q : Exit → Act → World → Prop} (hgd : o.guard = none) (s x : Operand) (t : TypeId)
    (ho : o.op = .call { callee := .builtin .append, args := #[s, x], argTypes := #[t, t] }) (base : Nat) (e : TypeId) (i : TypeInfo) (z : Value) (size bytes : Nat) (ht : Try.prog.underlying t = some (.slice e)) (hi : Try.prog.info? e = some i) (hz : i.zero = some z) (hsize : i.size = size) (hby : i.bytes = bytes) (hzs : z.cells.size = size) (hsz : 0 < size)
    (v : Value) (n : Nat) (xs : List Value) (hs : a.eval s = v) (hown : w.ownsRow base e size v n xs) (lv : Value) (m : Nat) (news : List Value) (hx : a.eval x = lv) (hC : Cs w lv m size news) (h63 : n + m ≤ maxLen) (hb : (n + m) * bytes ≤ 140737488355328) (hbase : base ≤ w.heap.size)
    (h : ∀ v' w', w'.ownsRow base e size v' (n + m) (xs ++ news) → w.grownBy w' v.ownBlock → (v'.ownBlock = v.ownBlock ∨ v'.ownBlock = some w.heap.size) → wpList Try.prog ops Q rest (a.put o.dst v') w') : wpList Try.prog ops Q (o :: rest) a w :=
  wpList_plain hgd fun _ hK => wp_append_gen s x t ho base e i z size bytes ht hi hz hsize hby hzs hsz v n xs hs hown lv m news hx hC h63 hb hbase fun v' w' h2 h3 h4 => hK _ _ (h v' w' h2 h3 h4)

/-- An empty row that was laid. -/
theorem own_bare {w : World} {base b : Nat} {e : TypeId} {size : Nat} (h : w.heap[b]? = some (.cells #[] e)) (hb : base ≤ b) : w.ownsRow base e size (.slice (some ⟨b, 0, none⟩) 0 0) 0 [] :=
  ⟨by simp, .inr ⟨b, 0, #[], rfl, hb, h, Nat.le_refl _, Nat.zero_le _, by simp, by simp⟩⟩

/-- The cells of bindings that lie in memory. -/
theorem pin_cells {w : World} {b : Nat} : ∀ {s : Sb} {o : Nat}, PIn w s b o → ∃ news : List Value, news.length = s.length * 4 ∧ PC (fun q => q < w.heap.size) w s news ∧ ∀ j u, news[j]? = some u → w.cell? ⟨b, o + j, none⟩ = some u
  | [], _, _ => ⟨[], rfl, rfl, fun j u h => by simp at h⟩
  | p :: s, o, ⟨h0, h1, h2, ⟨v, h3, h4⟩, h5⟩ => by
    obtain ⟨news, hl, hP, hc⟩ := pin_cells h5
    refine ⟨.int .i64 p.1 :: .bool p.2.1.1 :: .int .i64 p.2.1.2 :: v :: news, by simp only [List.length_cons, hl]; omega, ⟨v, news, rfl, h4.toB, hP⟩, fun j u hj => ?_⟩
    match j, hj with
    | 0, hj => simp at hj; subst hj; simpa using h0
    | 1, hj => simp at hj; subst hj; simpa using h1
    | 2, hj => simp at hj; subst hj; simpa using h2
    | 3, hj => simp at hj; subst hj; simpa using h3
    | j + 4, hj =>
      have := hc j u (by simpa using hj)
      rw [show o + (j + 4) = o + 4 + j by omega]
      exact this
theorem PC.onecell {X : Nat → Prop} {w : World} : ∀ {s : Sb} {xs : List Value}, PC X w s xs → ∀ u ∈ xs, u.oneCell' = true
  | [], _, h, u, hu => by rw [PC] at h; subst h; simp at hu
  | _ :: _, _, ⟨a, ys, h1, h2, h3⟩, u, hu => by
    subst h1
    obtain ⟨_, _, _, _, rfl, _⟩ := h2
    simp only [List.mem_cons] at hu
    rcases hu with rfl | rfl | rfl | rfl | hu
    · rfl
    · rfl
    · rfl
    · rfl
    · exact h3.onecell u hu
theorem sub_cells {w : World} {s : Sb} {v : Value} (h : SubIn w s v) : ∃ news, Cs w v s.length 4 news ∧ PC (fun q => q < w.heap.size) w s news := by
  obtain ⟨a, c, b, o, rfl, h1, h2, h3, h4⟩ := h
  obtain ⟨news, hl, hP, hc⟩ := pin_cells h4
  refine ⟨news, ⟨a, c, rfl, hl, hP.onecell, fun e => ?_, fun ad e j u hj => ?_⟩, hP⟩
  · subst e
    cases s with
    | nil => rfl
    | cons p s => have := h1 (by simp); cases this
  · have hj' := (List.getElem?_eq_some_iff.1 hj).1
    have hae : ad = ⟨b, o, none⟩ := by
      have := h1 (by omega)
      rw [e] at this
      exact Option.some.inj this
    rw [hae, add_plain]
    exact hc j u hj
/-- The cells of terms that lie in memory. -/
theorem fin_cells {w : World} {b : Nat} : ∀ {F : Fo} {o : Nat}, FIn w F b o → ∃ news : List Value, news.length = Fo.len F * 3 ∧ CellsOf (fun q => q < w.heap.size) w F news ∧ ∀ j u, news[j]? = some u → w.cell? ⟨b, o + j, none⟩ = some u
  | .nil, _, _ => ⟨[], rfl, rfl, fun j u h => by simp at h⟩
  | .node p q x k r, o, h => by
    obtain ⟨h0, h1, ⟨v, h2, h3⟩, h4⟩ := FIn.node h
    obtain ⟨news, hl, hP, hc⟩ := fin_cells h4
    refine ⟨.bool x.1 :: .int .i64 x.2 :: v :: news, by simp only [List.length_cons, hl, Fo.len]; omega, ⟨v, news, rfl, h3.toB, hP⟩, fun j u hj => ?_⟩
    match j, hj with
    | 0, hj => simp at hj; subst hj; simpa using h0
    | 1, hj => simp at hj; subst hj; simpa using h1
    | 2, hj => simp at hj; subst hj; simpa using h2
    | j + 3, hj =>
      have := hc j u (by simpa using hj)
      rw [show o + (j + 3) = o + 3 + j by omega]
      exact this
theorem terms_cells {w : World} {F : Fo} {v : Value} (h : SIn w F v) : ∃ news, Cs w v (Fo.len F) 3 news ∧ CellsOf (fun q => q < w.heap.size) w F news := by
  obtain ⟨a, c, b, o, rfl, h1, h2, h3, h4⟩ := h
  obtain ⟨news, hl, hP, hc⟩ := fin_cells h4
  refine ⟨news, ⟨a, c, rfl, hl, hP.one, fun e => ?_, fun ad e j u hj => ?_⟩, hP⟩
  · subst e
    rcases Nat.eq_zero_or_pos (Fo.len F) with h | h
    · exact h
    · have := h1 h; cases this
  · have hj' := (List.getElem?_eq_some_iff.1 hj).1
    have hae : ad = ⟨b, o, none⟩ := by
      have := h1 (by omega)
      rw [e] at this
      exact Option.some.inj this
    rw [hae, add_plain]
    exact hc j u hj

end Go.Proofs.Ytleogbdinafpaaa

/- A term's variables: the document's Vars. -/
namespace Go.Proofs.Ytleogbdinafpaaa
open Go.RowKit Go.Deep Go.ChangeShapes Go.WideShapes
attribute [local go_sem ↓] Go.wp_at_zero Go.wp_at_succ

theorem nin_slice {w : World} {l : List Int} {v : Value} (h : NIn w l v) : ∃ z1 z3, v = .slice z1 l.length z3 := by
  obtain ⟨_, _, _, _, rfl, _⟩ := h
  exact ⟨_, _, rfl⟩

theorem vars_row {wr w1 wA : World} {v v' : Value} (hb : Below wr.heap.size wr w1) (hg : w1.grownBy wA v.ownBlock) (hat : v'.ownBlock = v.ownBlock ∨ v'.ownBlock = some w1.heap.size) (hv : ∀ g, v.ownBlock = some g → wr.heap.size ≤ g) :
    Below wr.heap.size wr wA ∧ (∀ g, v'.ownBlock = some g → wr.heap.size ≤ g) ∧ wr.heap.size ≤ wA.heap.size := by
  have h1 := hb.size
  have h2 := hg.size
  refine ⟨hb.grown hg h1 hv, fun g hgg => ?_, by omega⟩
  rcases hat with e | e
  · exact hv g (by rw [← e]; exact hgg)
  · rw [e] at hgg; simp at hgg; omega
theorem vars_row2 {wr w1 wA : World} {v : Value} (hb : Below wr.heap.size wr w1) (hg : w1.grownBy wA v.ownBlock) (hv : ∀ g, v.ownBlock = some g → wr.heap.size ≤ g) : Below wr.heap.size wr wA := hb.grown hg hb.size hv

def VarsRSaid (x : Bool × Int) (k : Fo) : Prop := ∀ (a : Value) (l : List Int) (v : Value) (w : World) (T : List Int), T = varsT x k l → SIn w k a → NIn w l v → T.length * 8 ≤ 140737488355328 →
    Calls Try.prog 40 #[v, .agg #[.bool x.1, .int .i64 x.2, a]] w fun e w' => ∃ v', e = .returned v' ∧ NIn w' T v' ∧ Below w.heap.size w w'

set_option maxHeartbeats 1000000 in
set_option maxRecDepth 100000 in
theorem varsR_few (x : Bool × Int) (k : Fo) : VarsRSaid x k := by
  refine Fo.ind1 (p := VarsRSaid) ?_ x k
  clear x k
  intro x k ih a l v w T hT hS hN hlen
  obtain ⟨xv, xn⟩ := x
  have HI := hide ih
  have HT := hide hT
  have HN := hide hN
  obtain ⟨ad, c, b, o, rfl, had, hlc, hcm, hF⟩ := hS
  have HF := hide hF
  unfold maxLen at hcm
  clear ih hF hT
  cases xv
  · have Htt : Hid (varsT (false, xn) k l = varsF k l) := rfl
    obtain ⟨za, zc, rfl⟩ := nin_slice hN
    clear hN
    go_enter Try.func40, Try.ntmps40
    go_wp2_with fail
    go_loopw [0, 15] (fun vl i wr => ∃ (j : Nat) (L : List Int) (z1 : Option Addr) (z3 : Nat), j ≤ Fo.len k ∧ i = .int .i64 j ∧ vl = .slice z1 L.length z3 ∧ L = vsTo k l j ∧ Below w.heap.size w wr ∧ NIn wr L (.slice z1 L.length z3)) (fun _ i _ => Fo.len k - (intOf i).toNat)
    case atStart => exact ⟨0, l, za, zc, Nat.zero_le _, rfl, rfl, rfl, below_alloc _ _, HN.out.alloc _⟩
    case round =>
      obtain ⟨j, L, z1, z3, hj, rfl, rfl, hL, hBr, hor⟩ := hrel
      have HL := hide hL
      have Hor := hide hor
      clear hL hor
      by_cases hlt : j < Fo.len k
      · have hlt' : (j : Int) < (Fo.len k : Int) := by omega
        obtain ⟨⟨⟨yv, yn⟩, yk⟩, hy⟩ : ∃ y, k.list[j]? = some y := ⟨k.list[j]'(by rw [Fo.len_list]; exact hlt), by simp⟩
        obtain ⟨c0, c1, yv', c2, hSy⟩ := (HF.out.below hBr).at hy
        have HSy := hide hSy
        obtain ⟨ya, yc, yb, yo, rfl, -, -, -, -⟩ := hSy
        have ha : ad = some ⟨b, o, none⟩ := had (by omega)
        subst ha
        have Hy := hide hy
        obtain ⟨Tn, hTn⟩ : ∃ Tn, Tn = varsT (yv, yn) yk L := ⟨_, rfl⟩
        have HTn := hide hTn
        have Hbd : Hid (Tn.length * 8 ≤ 140737488355328) := by
          have h1 := varsF_take (j + 1) k l
          have h2 : Tn = vsTo k l (j + 1) := by rw [hTn, vsTo_succ Hy.out, HL.out]
          have h3 : T = varsF k l := HT.out.trans Htt.out
          rw [Hid, h2, vsTo]
          rw [h3] at hlen
          omega
        clear hy had hTn
        go_wp2_with fail
        refine (HI.out ((yv, yn), yk) (List.mem_of_getElem? Hy.out) _ L _ _ Tn HTn.out (HSy.out.alloc _) (Hor.out.alloc _) Hbd.out).mono ?_
        rintro e w2 ⟨vl', rfl, ho2, hb2⟩
        obtain ⟨y1, y3, rfl⟩ := nin_slice ho2
        have Ho2 := hide ho2
        have hB2 := below_step hBr (below_box hb2)
        clear ho2 hb2
        go_wp2_with fail
        go_roundw
        case rel => exact ⟨j + 1, Tn, y1, y3, by omega, by go_num, rfl, by rw [HTn.out, vsTo_succ Hy.out, HL.out], hB2, Ho2.out⟩
        case measure => simp [intOf]; omega
      · have Hfin : Hid (T = L) := by
          have e : j = Fo.len k := by omega
          rw [Hid, HT.out, Htt.out, HL.out, e, vsTo_end]
        clear had
        go_wp2_with fail
        go_ret
        have e := Hfin.out
        subst e
        exact ⟨_, rfl, Hor.out, hBr⟩
  · have Htt : Hid (varsT (true, xn) k l = if hasB l xn then l else l ++ [xn]) := rfl
    obtain ⟨la, lc, lb, lo, rfl, hla, hllc, hlcm, hlF⟩ := hN
    have HlF := hide hlF
    unfold maxLen at hlcm
    clear hlF
    go_enter Try.func40, Try.ntmps40
    go_wp2_with fail
    generalize hwa : w.alloc (.cells #[.bool true, .int .i64 xn, .slice ad (Fo.len k) c] 26) = wa
    have d1 : wa.cell? ⟨w.heap.size, 1, none⟩ = some (.int .i64 xn) := by rw [← hwa]; simp
    have Hba : Hid (Below w.heap.size w wa) := by rw [← hwa]; exact below_alloc _ _
    have hsa : w.heap.size < wa.heap.size := by rw [← hwa]; simp
    clear hwa
    go_loopw [26] (fun i wr => ∃ j : Nat, j ≤ l.length ∧ i = .int .i64 j ∧ (∀ q, q < j → l.getD q 0 ≠ xn) ∧ wr = wa) (fun i _ => l.length - (intOf i).toNat)
    case atStart => exact ⟨0, Nat.zero_le _, rfl, fun q hq => by omega, rfl⟩
    case round =>
      obtain ⟨j, hj, rfl, hno, rfl⟩ := hrel
      have Hno := hide hno
      clear hno
      by_cases hlt : j < l.length
      · have hlt' : (j : Int) < (l.length : Int) := by omega
        have hc := grow_cell Hba.out _ _ (HlF.out j hlt)
        have Hmem : Hid (l.getD j 0 ∈ l) := by
          rw [Hid, List.getD_eq_getElem?_getD, List.getElem?_eq_getElem hlt]; simp
        have ha : la = some ⟨lb, lo, none⟩ := hla (by omega)
        subst ha
        have Hnx : Hid (l.getD j 0 ≠ xn → ∀ q, q < j + 1 → l.getD q 0 ≠ xn) := fun h q hq => by
          by_cases e : q = j
          · rw [e]; exact h
          · exact Hno.out q (by omega)
        generalize l.getD j 0 = z at *
        by_cases he : z = xn
        · have heb : (z == xn) = true := by simp [he]
          have Hfin : Hid (T = l) := by
            rw [Hid, HT.out, Htt.out, if_pos]
            rw [hasB, ← he]; exact decide_eq_true Hmem.out
          clear he hla
          go_wp2_with fail
          go_ret
          have e := Hfin.out
          subst e
          exact ⟨_, rfl, HN.out.below Hba.out, Hba.out⟩
        · have heb : (z == xn) = false := by simp [he]
          have Hn := hide (Hnx.out he)
          clear he hla
          go_wp2_with fail
          go_roundw
          case rel => exact ⟨j + 1, by omega, by go_num, Hn.out, trivial⟩
          case measure => simp [intOf]; omega
      · have Hfin : Hid (T = l ++ [xn]) := by
          have : xn ∉ l := fun h => by
            obtain ⟨q, hq, e⟩ := List.mem_iff_getElem.1 h
            exact Hno.out q (by omega) (by rw [List.getD_eq_getElem?_getD, List.getElem?_eq_getElem hq]; exact e)
          rw [Hid, HT.out, Htt.out, if_neg]
          rw [hasB, decide_eq_false this]; simp
        clear hla
        go_wp2_with fail
        have hTl : T.length = l.length + 1 := by rw [Hfin.out]; simp
        have hb0 : (0 + l.length) * 8 ≤ 140737488355328 := by omega
        have hb1 : (0 + l.length + [xn].length) * 8 ≤ 140737488355328 := by simp; omega
        clear hTl
        have hsw : w.heap.size ≤ wr.heap.size := by omega
        have A1 : Hid ((wr.alloc (.cells #[] 3)).drew.ownsRow w.heap.size 3 1 (.slice (some ⟨wr.heap.size, 0, none⟩) 0 0) 0 []) := own_empty (heap_alloc_new wr _) hsw
        have A2 : Hid (((wr.alloc (.cells #[] 3)).alloc (.cells #[.int .i64 xn] 3)).drew.ownsRow w.heap.size 3 1 (.slice (some ⟨wr.heap.size, 0, none⟩) 0 0) 0 []) := own_empty ((Below.heap_alloc _ _ _ (by simp)).trans (heap_alloc_new wr _)) hsw
        have A3 : Hid (((wr.alloc (.cells #[.int .i64 xn] 3)).alloc (.cells #[] 3)).drew.ownsRow w.heap.size 3 1 (.slice (some ⟨wr.heap.size + 1, 0, none⟩) 0 0) 0 []) := own_empty (by have := heap_alloc_new (wr.alloc (.cells #[.int .i64 xn] 3)) (.cells #[] 3); rw [World.size_alloc] at this; exact this) (by omega)
        have N1 : Hid (NIn (wr.alloc (.cells #[] 3)).drew l (.slice la l.length lc)) := ((HN.out.below Hba.out).alloc _).drew
        have N2 : Hid (NIn ((wr.alloc (.cells #[] 3)).alloc (.cells #[.int .i64 xn] 3)).drew l (.slice la l.length lc)) := (((HN.out.below Hba.out).alloc _).alloc _).drew
        have N3 : Hid (NIn ((wr.alloc (.cells #[.int .i64 xn] 3)).alloc (.cells #[] 3)).drew l (.slice la l.length lc)) := (((HN.out.below Hba.out).alloc _).alloc _).drew
        have B1 : Hid (Below wr.heap.size wr (wr.alloc (.cells #[] 3)).drew) := (below_alloc _ _).drew
        have B2 : Hid (Below wr.heap.size wr ((wr.alloc (.cells #[] 3)).alloc (.cells #[.int .i64 xn] 3)).drew) := ((below_alloc _ _).alloc (by simp) _).drew
        have B3 : Hid (Below wr.heap.size wr ((wr.alloc (.cells #[.int .i64 xn] 3)).alloc (.cells #[] 3)).drew) := ((below_alloc _ _).alloc (by simp) _).drew
        have M2 : Hid (∀ wA : World, ((wr.alloc (.cells #[] 3)).alloc (.cells #[.int .i64 xn] 3)).drew.grownBy wA (some wr.heap.size) → NIn wA [xn] (.slice (some ⟨wr.heap.size + 1, 0, none⟩) 1 1)) := fun wA hg => nin_one (by
          rw [hg.block (wr.heap.size + 1) (by simp) (by simp)]
          have := heap_alloc_new (wr.alloc (.cells #[] 3)) (.cells #[.int .i64 xn] 3)
          rw [World.size_alloc] at this
          exact this)
        have M3 : Hid (∀ wA : World, ((wr.alloc (.cells #[.int .i64 xn] 3)).alloc (.cells #[] 3)).drew.grownBy wA (some (wr.heap.size + 1)) → NIn wA [xn] (.slice (some ⟨wr.heap.size, 0, none⟩) 1 1)) := fun wA hg => nin_one (by
          rw [hg.block wr.heap.size (by show wr.heap.size < ((wr.alloc _).alloc _).heap.size; rw [size2]; omega) (by simp)]
          exact (Below.heap_alloc _ _ _ (by simp)).trans (heap_alloc_new wr _))
        go_region_held3 (fun w' => w'.cell? ⟨w.heap.size, 1, none⟩ = some (.int .i64 xn))
          (first
            | exact grow_cell BB _ _ d1
            | exact grow_cell BA _ _ d1
            | go_keep)
          (first
            | (refine step_append_nums (by rfl) _ _ (by rfl) w.heap.size (.slice (some ⟨wr.heap.size, 0, none⟩) 0 0) 0 [] (by rfl) A1.out l (.slice la l.length lc) (by rfl) N1.out hb0 ?hb ?_; (case hb => simp; omega); intro vA wA hoA hgA hatA; obtain ⟨BA, VA, SA⟩ := vars_row B1.out hgA hatA (by simp [Value.ownBlock]); have Q1 : Hid True := trivial)
            | (refine step_append_nums (by rfl) _ _ (by rfl) w.heap.size (.slice (some ⟨wr.heap.size, 0, none⟩) 0 0) 0 [] (by rfl) A2.out l (.slice la l.length lc) (by rfl) N2.out hb0 ?hb ?_; (case hb => simp; omega); intro vA wA hoA hgA hatA; obtain ⟨BA, VA, SA⟩ := vars_row B2.out hgA hatA (by simp [Value.ownBlock]); have Q2 := hide (M2.out wA hgA))
            | (refine step_append_nums (by rfl) _ _ (by rfl) w.heap.size (.slice (some ⟨wr.heap.size + 1, 0, none⟩) 0 0) 0 [] (by rfl) A3.out l (.slice la l.length lc) (by rfl) N3.out hb0 ?hb ?_; (case hb => simp; omega); intro vA wA hoA hgA hatA; obtain ⟨BA, VA, SA⟩ := vars_row B3.out hgA hatA (by simp [Value.ownBlock]); have Q3 := hide (M3.out wA hgA))
            | (refine step_append_nums (by rfl) _ _ (by rfl) w.heap.size vA (0 + l.length) ([] ++ vals l) (by rfl) ?own [xn] (.slice (some ⟨wA.heap.size, 0, none⟩) 1 1) (by rfl) ?nin hb1 ?hb ?_; (case own => exact owns_keep hoA (fun g hg => Below.heap_alloc _ _ _ (owns_at hoA g hg).2)); (case nin => exact nin_one (heap_alloc_new wA _)); (case hb => simp; omega); intro vB wB hoB hgB hatB; have BB := vars_row2 ((BA.alloc BA.size _)) hgB VA)
            | (refine step_append_nums (by rfl) _ _ (by rfl) w.heap.size vA (0 + l.length) ([] ++ vals l) (by rfl) hoA [xn] _ (by rfl) Q2.out hb1 ?hb ?_; (case hb => omega); intro vB wB hoB hgB hatB; have BB := vars_row2 BA hgB VA)
            | (refine step_append_nums (by rfl) _ _ (by rfl) w.heap.size vA (0 + l.length) ([] ++ vals l) (by rfl) hoA [xn] _ (by rfl) Q3.out hb1 ?hb ?_; (case hb => omega); intro vB wB hoB hgB hatB; have BB := vars_row2 BA hgB VA))
        all_goals
          have HoB := hide (own_nin (p := l ++ [xn]) (by simpa using hoB))
          have HBB := hide (below_step Hba.out BB)
          obtain ⟨y1, y3, rfl⟩ := nin_slice HoB.out
          clear hoA hoB hgA hgB hatA hatB BA BB VA SA
          go_wp2_with fail
          go_ret
          have e := Hfin.out
          subst e
          exact ⟨_, rfl, HoB.out, HBB.out⟩

theorem varsR_any (x : Bool × Int) (k : Fo) (a : Value) (l : List Int) (v : Value) (w : World) (T : List Int) (hT : T = varsT x k l) (hS : SIn w k a) (hN : NIn w l v) (hlen : (l.length + tszR k) * 8 ≤ 140737488355328) :
    Calls Try.prog 40 #[v, .agg #[.bool x.1, .int .i64 x.2, a]] w fun e w' => ∃ v', e = .returned v' ∧ NIn w' T v' ∧ Below w.heap.size w w' :=
  varsR_few x k a l v w T hT hS hN (by have := varsT_len x k l; rw [← hT] at this; omega)

end Go.Proofs.Ytleogbdinafpaaa

/- What must be bound for a pattern to be a term: bind's extend. -/
namespace Go.Proofs.Ytleogbdinafpaaa
open Go.RowKit Go.Deep Go.ChangeShapes Go.WideShapes
attribute [local go_sem ↓] Go.wp_at_zero Go.wp_at_succ

def ExtPost (lo : Nat) (X : Nat → Prop) (w : World) (s : Sb) (vs : Value) (t u : Tm) (e : Ending) (w' : World) : Prop :=
  Fr w w' vs.ownBlock none ∧ ∃ (z1 : Option Addr) (m z3 : Nat) (ok : Bool), e = .returned (.tuple #[.slice z1 m z3, .bool ok]) ∧ (ok = false → extT s t u = none ∧ z1 = none ∧ m = 0 ∧ z3 = 0) ∧
    (ok = true → ∃ s' xs', extT s t u = some s' ∧ m = s'.length ∧ OwnS lo (Ex X w w' (.slice z1 m z3)) w' s' (.slice z1 m z3) xs' ∧ Mv w vs (.slice z1 m z3))
def ExtSaid (x : Bool × Int) (k : Fo) : Prop := ∀ (lo : Nat) (X : Nat → Prop) (s : Sb) (vs : Value) (xs : List Value) (y : Bool × Int) (l : Fo) (a c : Value) (w : World),
    OwnS lo X w s vs xs → lo ≤ w.heap.size → SB X w k a → SB X w l c → okT (y, l) → narT (y, l) → (s.length + tszR k) * 48 ≤ 140737488355328 →
    Calls Try.prog 28 #[vs, .agg #[.bool x.1, .int .i64 x.2, a], .agg #[.bool y.1, .int .i64 y.2, c]] w (ExtPost lo X w s vs (x, k) (y, l))

theorem ext_fails {lo : Nat} {X : Nat → Prop} {w w' : World} {s : Sb} {vs : Value} {t u : Tm} (hf : Fr w w' vs.ownBlock none) (h : extT s t u = none) : ExtPost lo X w s vs t u (.returned (.tuple #[.slice none 0 0, .bool false])) w' :=
  ⟨hf, none, 0, 0, false, rfl, fun _ => ⟨h, rfl, rfl, rfl⟩, fun e => by cases e⟩
theorem ext_holds {lo : Nat} {X : Nat → Prop} {w w' : World} {s s' : Sb} {vs : Value} {t u : Tm} {z1 : Option Addr} {z3 : Nat} {xs' : List Value} (h : extT s t u = some s')
    (hO : OwnS lo (Ex X w w' (.slice z1 s'.length z3)) w' s' (.slice z1 s'.length z3) xs' ∧ Fr w w' vs.ownBlock none ∧ Mv w vs (.slice z1 s'.length z3)) : ExtPost lo X w s vs t u (.returned (.tuple #[.slice z1 s'.length z3, .bool true])) w' :=
  ⟨hO.2.1, z1, s'.length, z3, true, rfl, fun e => by (cases e), fun _ => ⟨s', xs', h, rfl, hO.1, hO.2.2⟩⟩

set_option maxRecDepth 100000 in
set_option maxHeartbeats 2000000 in
theorem extend_any (x : Bool × Int) (k : Fo) : ExtSaid x k := by
  refine Fo.ind1 (p := ExtSaid) ?_ x k
  clear x k
  intro x k ih lo X s vs xs y l a c w hO hlo hS hU hok hnar hlen
  obtain ⟨v, n⟩ := x
  obtain ⟨yv, yn⟩ := y
  have HI := hide ih
  have HO := hide hO
  have Hok := hide hok
  have Hnar := hide hnar
  have HU := hide hU
  obtain ⟨z1, z3, rfl⟩ := hO.slice
  obtain ⟨ad, ac, b, o, rfl, had, hlc, hcm, hF⟩ := hS
  obtain ⟨ud, uc, ub, uo, rfl, hud, hulc, hucm, hG⟩ := hU
  have HF := hide hF
  have HG := hide hG
  unfold maxLen at hcm hucm
  have hlent : 0 < tszR k := by unfold tszR; omega
  clear ih hO hok hnar hF hG
  cases v
  · by_cases hc : yv = false ∧ yn = n ∧ Fo.len l = Fo.len k
    · obtain ⟨rfl, rfl, hll⟩ := hc
      have Hres : Hid (extT s ((false, yn), k) ((false, yn), l) = extF k l s) := extT_in hll
      have hllb : ((Fo.len l : Int) != (Fo.len k : Int)) = false := by simp [hll]
      have hnb : (yn != yn) = false := by simp
      have Hll := hide hll
      have hll1 : Fo.len l ≤ Fo.len k := by omega
      have hll2 : Fo.len k ≤ Fo.len l := by omega
      have Hl := hide (Fo.len_list k)
      have Hl2 := hide (Fo.len_list l)
      clear hll
      go_enter Try.func28, Try.ntmps28
      go_wp2_with fail
      generalize hW2 : (w.alloc (.cells #[.bool false, .int .i64 yn, .slice ad (Fo.len k) ac] 26)).alloc (.cells #[.bool false, .int .i64 yn, .slice ud (Fo.len l) uc] 26) = W2
      have hs2 : W2.heap.size = w.heap.size + 1 + 1 := by rw [← hW2]; simp
      have hB2 : Below w.heap.size w W2 := by rw [← hW2]; exact (below_alloc _ _).alloc (by simp) _
      have r2 : W2.cell? ⟨w.heap.size + 1, 2, none⟩ = some (.slice ud (Fo.len l) uc) := by rw [← hW2]; exact new_cell (World.size_alloc _ _)
      have Hr2 := hide r2
      have HB2 := hide hB2
      have hnv : ∀ q, (Value.slice z1 s.length z3).ownBlock = some q → q < w.heap.size := fun q hq => (owns_at HO.out.row q hq).2
      have Hnv := hide hnv
      have Hbeg := hide (own_begin hB2 HO.out)
      clear hW2 r2 hB2 hnv
      go_loopw [0, 58] (fun vj i wr => ∃ (j : Nat) (sj : Sb) (y1 : Option Addr) (y3 : Nat) (xsj : List Value), j ≤ Fo.len k ∧ i = .int .i64 j ∧ vj = .slice y1 sj.length y3 ∧ extF (Fo.take j k) (Fo.take j l) s = some sj ∧ OwnS lo (Ex X W2 wr (.slice y1 sj.length y3)) wr sj (.slice y1 sj.length y3) xsj ∧ Fr W2 wr (Value.slice z1 s.length z3).ownBlock none ∧ Mv W2 (.slice z1 s.length z3) (.slice y1 sj.length y3)) (fun _ i _ => Fo.len k - (intOf i).toNat)
      case atStart => exact ⟨0, s, z1, z3, xs, Nat.zero_le _, rfl, rfl, rfl, Hbeg.out.1, Hbeg.out.2.1, Hbeg.out.2.2⟩
      case round =>
        obtain ⟨j, sj, y1, y3, xsj, hj, rfl, rfl, hex, hOj, hFj, hMj⟩ := hrel
        have Hex := hide hex
        have HOj := hide hOj
        have HFj := hide hFj
        have HMj := hide hMj
        clear hex hOj hFj hMj Hbeg
        have hs3 := HFj.out.size
        by_cases hlt : j < Fo.len k
        · have hlt' : (j : Int) < (Fo.len k : Int) := by omega
          have hlt2 : (j : Int) < (Fo.len l : Int) := by omega
          obtain ⟨had', hXb⟩ := had (by omega)
          obtain ⟨hud', hXu⟩ := hud (by omega)
          subst had' hud'
          have Hkeep : Hid (∀ q, X q → wr.heap[q]? = w.heap[q]?) := fun q hq => by
            have h1 := HO.out.off q hq
            rw [HFj.out.block q (by omega) h1.2 (by simp), HB2.out.block q h1.1]
          obtain ⟨⟨⟨pv, pn⟩, pk⟩, hp⟩ : ∃ y, k.list[j]? = some y := ⟨k.list[j]'(by rw [Hl.out]; exact hlt), by simp⟩
          obtain ⟨⟨⟨tv, tn⟩, tk⟩, ht⟩ : ∃ y, l.list[j]? = some y := ⟨l.list[j]'(by rw [Hl2.out]; omega), by simp⟩
          obtain ⟨c0, c1, pa, c2, hSp⟩ := HF.out.at hp
          obtain ⟨d0, d1, ta, d2, hSt⟩ := HG.out.at ht
          have c0' := (World.cell?_of_block (a := ⟨b, o + j * 3, none⟩) (Hkeep.out b hXb)).trans c0
          have c1' := (World.cell?_of_block (a := ⟨b, o + j * 3 + 1, none⟩) (Hkeep.out b hXb)).trans c1
          have c2' := (World.cell?_of_block (a := ⟨b, o + j * 3 + 2, none⟩) (Hkeep.out b hXb)).trans c2
          have d0' := (World.cell?_of_block (a := ⟨ub, uo + j * 3, none⟩) (Hkeep.out ub hXu)).trans d0
          have d1' := (World.cell?_of_block (a := ⟨ub, uo + j * 3 + 1, none⟩) (Hkeep.out ub hXu)).trans d1
          have d2' := (World.cell?_of_block (a := ⟨ub, uo + j * 3 + 2, none⟩) (Hkeep.out ub hXu)).trans d2
          have HSp := hide ((hSp.kept Hkeep.out).wide (Y := Ex X W2 wr (.slice y1 sj.length y3)) (fun q hq => .inl hq))
          have HSt := hide ((hSt.kept Hkeep.out).wide (Y := Ex X W2 wr (.slice y1 sj.length y3)) (fun q hq => .inl hq))
          obtain ⟨pa1, pc, pb, po, rfl, -, -, -, -⟩ := hSp
          obtain ⟨ta1, tc, tb, t4, rfl, -, -, -, -⟩ := hSt
          have e2 : wr.cell? ⟨w.heap.size + 1, 2, none⟩ = some (.slice (some ⟨ub, uo, none⟩) (Fo.len l) uc) := by
            rw [World.cell?_of_block (a := ⟨w.heap.size + 1, 2, none⟩) (HFj.out.block (w.heap.size + 1) (by omega) (fun e => by have := Hnv.out _ e.symm; omega) (by simp))]
            exact Hr2.out
          have Hok2 : Hid (okT ((tv, tn), tk)) := ok_mem Hok.out.2 (List.mem_of_getElem? ht)
          have Hnar2 : Hid (narT ((tv, tn), tk)) := nar_mem Hnar.out.2 (List.mem_of_getElem? ht)
          have Hbd : Hid ((sj.length + tszR pk) * 48 ≤ 140737488355328) := by
            have h1 := extF_len Hex.out
            have h2 := sizesR_take j k
            rw [hp] at h2
            simp only at h2
            unfold tszR at h2 hlen
            unfold tszR Hid
            omega
          have Hstep : Hid (extF (Fo.take (j + 1) k) (Fo.take (j + 1) l) s = extT sj ((pv, pn), pk) ((tv, tn), tk)) := by
            rw [Hid, ext_snoc s hp ht, Hex.out]; rfl
          have Hp := hide hp
          have hub : ub < wr.heap.size := World.block_lt_of_cell? _ _ d0'
          clear c0 c1 c2 d0 d1 d2 hp ht had hud hXb hXu
          go_upto_region 14 with fail
          generalize hwa : wr.alloc (.cells #[.bool pv, .int .i64 pn, .slice pa1 (Fo.len pk) pc] 26) = wa
          have a0 : wa.cell? ⟨wr.heap.size, 0, none⟩ = some (.bool pv) := by rw [← hwa]; exact new_cell rfl
          have a1 : wa.cell? ⟨wr.heap.size, 1, none⟩ = some (.int .i64 pn) := by rw [← hwa]; exact new_cell rfl
          have a2 : wa.cell? ⟨wr.heap.size, 2, none⟩ = some (.slice pa1 (Fo.len pk) pc) := by rw [← hwa]; exact new_cell rfl
          have hba : Below wr.heap.size wr wa := by rw [← hwa]; exact below_alloc _ _
          have f0 := grow_cell hba _ _ d0'
          have f1 := grow_cell hba _ _ d1'
          have f2 := grow_cell hba _ _ d2'
          have f3 := grow_cell hba _ _ e2
          have Hba : Hid (Below wr.heap.size wr wa.drew) := hba.trans (Below.refl _ _).drew
          have hcall : Calls Try.prog 28 #[.slice y1 sj.length y3, .agg #[.bool pv, .int .i64 pn, .slice pa1 (Fo.len pk) pc], .agg #[.bool tv, .int .i64 tn, .slice ta1 (Fo.len tk) tc]] wa.drew (ExtPost lo (Ex X W2 wr (.slice y1 sj.length y3)) wa.drew sj (.slice y1 sj.length y3) ((pv, pn), pk) ((tv, tn), tk)) :=
            HI.out ((pv, pn), pk) (List.mem_of_getElem? Hp.out) lo _ sj _ xsj (tv, tn) tk _ _ wa.drew (HOj.out.below Hba.out) (by have := Hba.out.size; omega) (HSp.out.grow (fun q hq => (HOj.out.off q hq).1) Hba.out) (HSt.out.grow (fun q hq => (HOj.out.off q hq).1) Hba.out) Hok2.out Hnar2.out Hbd.out
          have Hcall := hide hcall
          clear hcall hwa c0' c1' c2' d0' d1' d2' e2 hba
          go_region_with (first
            | (go_at_call 28; refine Hcall.out.mono ?_; rintro e w2 ⟨hf2, x1, xm, x3, ok, rfl, hno, hyes⟩))
          all_goals
            cases ok
            · have Hf : Hid (ExtPost lo X w s (.slice z1 s.length z3) ((false, yn), k) ((false, yn), l) (.returned (.tuple #[.slice none 0 0, .bool false])) w2) := by
                refine ext_fails ?_ (Hres.out.trans (ext_none (j := j + 1) Hll.out.symm (Hstep.out.trans (hno rfl).1)))
                refine (Fr.of_below HB2.out _ _).trans ((HFj.out).trans ((Fr.of_below Hba.out _ _).trans hf2 (fun q _ h => h)) ?_) (fun q _ h => h)
                intro q hq h
                rcases h with h | h
                · rcases HMj.out with e | e
                  · rw [e] at h; exact .inl h
                  · have := e q h.symm; omega
                · cases h
              clear hno hyes hf2
              go_wp2_with fail
              go_ret2
              exact Hf.out
            · obtain ⟨s2, xs2, h1, rfl, h3, h4⟩ := hyes rfl
              have Hn := hide (own_next HFj.out HMj.out (fun q hq => by have := HO.out.off q hq; exact ⟨by omega, this.2⟩) Hba.out h3 hf2 h4)
              have Hs2 : Hid (extF (Fo.take (j + 1) k) (Fo.take (j + 1) l) s = some s2) := Hstep.out.trans h1
              clear hno hyes hf2 h1 h3 h4
              go_wp2_with fail
              go_roundw
              case rel => exact ⟨j + 1, s2, x1, x3, xs2, by omega, by go_num, rfl, Hs2.out, Hn.out.1, Hn.out.2.1, Hn.out.2.2⟩
              case measure => simp [intOf]; omega
        · have Hf : Hid (ExtPost lo X w s (.slice z1 s.length z3) ((false, yn), k) ((false, yn), l) (.returned (.tuple #[.slice y1 sj.length y3, .bool true])) wr) := by
            refine ext_holds (Hres.out.trans ?_) (own_back HB2.out HOj.out HFj.out HMj.out)
            have e : j = Fo.len k := by omega
            have := Hex.out
            rw [e, take_all, ← Hll.out, take_all] at this
            exact this
          go_wp2_with fail
          go_ret2
          exact Hf.out
    · have Hres : Hid (extT s ((false, n), k) ((yv, yn), l) = none) := extT_no hc
      have Hf : Hid (∀ w', Below w.heap.size w w' → ExtPost lo X w s (.slice z1 s.length z3) ((false, n), k) ((yv, yn), l) (.returned (.tuple #[.slice none 0 0, .bool false])) w') := fun w' hb => ext_fails (Fr.of_below hb _ _) Hres.out
      have Hb : Hid (Below w.heap.size w ((w.alloc (.cells #[.bool false, .int .i64 n, .slice ad (Fo.len k) ac] 26)).alloc (.cells #[.bool yv, .int .i64 yn, .slice ud (Fo.len l) uc] 26))) := (below_alloc _ _).alloc (by simp) _
      cases yv
      · by_cases hn : yn = n
        · have hl : ¬ Fo.len l = Fo.len k := fun e => hc ⟨rfl, hn, e⟩
          have hnb : (yn != n) = false := by simp [hn]
          have hlb : ((Fo.len l : Int) != (Fo.len k : Int)) = true := by simp; omega
          clear hc hn hl
          go_enter Try.func28, Try.ntmps28
          go_wp2_with fail
          go_ret2
          exact Hf.out _ Hb.out
        · have hnb : (yn != n) = true := by simp [hn]
          clear hc hn
          go_enter Try.func28, Try.ntmps28
          go_wp2_with fail
          go_ret2
          exact Hf.out _ Hb.out
      · clear hc
        go_enter Try.func28, Try.ntmps28
        go_wp2_with fail
        go_ret2
        exact Hf.out _ Hb.out
  · clear had hud
    go_enter Try.func28, Try.ntmps28
    go_wp2_with fail
    generalize hW2 : (w.alloc (.cells #[.bool true, .int .i64 n, .slice ad (Fo.len k) ac] 26)).alloc (.cells #[.bool yv, .int .i64 yn, .slice ud (Fo.len l) uc] 26) = W2
    have hs2 : W2.heap.size = w.heap.size + 1 + 1 := by rw [← hW2]; simp
    have hB2 : Below w.heap.size w W2 := by rw [← hW2]; exact (below_alloc _ _).alloc (by simp) _
    have q1 : W2.cell? ⟨w.heap.size, 1, none⟩ = some (.int .i64 n) := by rw [← hW2, World.cell?_alloc_lt _ _ _ (by simp)]; exact new_cell rfl
    have r0 : W2.cell? ⟨w.heap.size + 1, 0, none⟩ = some (.bool yv) := by rw [← hW2]; exact new_cell (World.size_alloc _ _)
    have r1 : W2.cell? ⟨w.heap.size + 1, 1, none⟩ = some (.int .i64 yn) := by rw [← hW2]; exact new_cell (World.size_alloc _ _)
    have r2 : W2.cell? ⟨w.heap.size + 1, 2, none⟩ = some (.slice ud (Fo.len l) uc) := by rw [← hW2]; exact new_cell (World.size_alloc _ _)
    clear hW2
    refine (findB_any s n _ W2 (HO.out.sub.below hB2)).mono ?_
    rintro e w1 ⟨i, rfl, hf, hb⟩
    have q1' := grow_cell hb _ _ q1
    have r0' := grow_cell hb _ _ r0
    have r1' := grow_cell hb _ _ r1
    have r2' := grow_cell hb _ _ r2
    have hB3 := below_step hB2 hb
    have HB3 : Hid (Below w.heap.size w w1.drew) := hB3.trans (Below.refl _ _).drew
    have hs3 := hb.size
    have HU1 := hide (HU.out.toS.below hB3).drew
    clear hb q1 r0 r1 r2 hB2
    rcases hf with ⟨rfl, hlk⟩ | ⟨j, ⟨⟨tv, tn⟩, tk⟩, rfl, hj, hlk⟩
    · have Hres : Hid (extT s ((true, n), k) ((yv, yn), l) = some (s ++ [(n, ((yv, yn), l))])) := extT_new hlk
      obtain ⟨i52, hi52, hz0, hz1, hz2⟩ := info_parts Try.info48
      have hn1 : s.length + 1 ≤ maxLen := by unfold maxLen; omega
      have hn2 : (s.length + 1) * 48 ≤ 140737488355328 := by omega
      clear hlk
      go_upto_region 4 with fail
      have hcall : Calls Try.prog 25 #[.agg #[.bool yv, .int .i64 yn, .slice ud (Fo.len l) uc]] w1.drew fun e w' => ∃ (b1 : Option Addr) (b2 b3 : Nat), e = .returned (.agg #[.bool yv, .int .i64 yn, .slice b1 b2 b3]) ∧ OwnV w' w1.heap.size w'.heap.size l (.slice b1 b2 b3) ∧ Below w1.heap.size w1 w' := by
        refine (ownB_any (yv, yn) l _ w1.drew HU1.out Hnar.out.1 Hnar.out.2).mono ?_
        rintro e w' ⟨a', rfl, hO', hb'⟩
        rw [subT_vr Hok.out] at hO' ⊢
        obtain ⟨b1, b2, b3, rfl⟩ := slice_of_sin hO'.toS
        exact ⟨b1, b2, b3, rfl, hO', (Below.refl _ _).drew.trans hb'⟩
      have Hcall := hide hcall
      clear hcall
      go_region_law (first
        | (refine step_append_lies _ (by rfl) _ _ _ (by rfl) lo 48 i52 (.agg #[.int .i64 0, .bool false, .int .i64 0, .slice none 0 0]) 4 48 Try.underlying29 hi52 hz0 hz1 hz2 rfl (by decide) (.slice z1 s.length z3) s.length xs (by rfl) Hown3.out ⟨w3.heap.size, 0, none⟩ 1 1 [.int .i64 n, .bool yv, .int .i64 yn, .slice b1 b2 b3] (by rfl) (by rfl) Hnews.out (by simp [Value.oneCell']) (by decide) hn1 hn2 (by simp; omega) (w3.heap.size + 1) (by simp) ?_; intro g cap w4 ho4 hg4 hat4 hlt4)
        | (go_simp; go_at_call 25; refine Hcall.out.mono ?_; rintro e w3 ⟨b1, b2, b3, rfl, hO3, hb3⟩
           have q1'' := grow_cell hb3 _ _ q1'; have hs4 := hb3.size
           have Hown3 : Hid ((w3.alloc (.cells #[.int .i64 n, .bool yv, .int .i64 yn, .slice b1 b2 b3] 48)).ownsRow lo 48 4 (.slice z1 s.length z3) s.length xs) := (owns_keep HO.out.row (fun g hg => by have h := owns_at HO.out.row g hg; rw [Below.heap_alloc _ _ _ (by omega), hb3.block g (by omega), hB3.block g h.2]))
           have Hnews : Hid (∀ j u, [Value.int .i64 n, .bool yv, .int .i64 yn, .slice b1 b2 b3][j]? = some u → (w3.alloc (.cells #[.int .i64 n, .bool yv, .int .i64 yn, .slice b1 b2 b3] 48)).cell? ((⟨w3.heap.size, 0, none⟩ : Addr).add j) = some u) := (World.news_of_block (cs := #[.int .i64 n, .bool yv, .int .i64 yn, .slice b1 b2 b3]) (heap_alloc_new w3 _))))
      all_goals
        have Hst := hide (own_snoc (n := n) (t := ((yv, yn), l)) HO.out (below_step hB3 hb3) (hO3.toB (fun q q1 q2 => ⟨by omega, q2⟩)) ho4 hg4 hat4 hlt4)
        have Hf : Hid (ExtPost lo X w s (.slice z1 s.length z3) ((true, n), k) ((yv, yn), l) (.returned (.tuple #[.slice (some ⟨g, 0, none⟩) (s.length + 1) cap, .bool true])) w4) := by
          have := ext_holds (z1 := some ⟨g, 0, none⟩) (z3 := cap) Hres.out (by simpa using Hst.out)
          exact hide (by simpa using this)
        clear ho4 hg4 hat4 hlt4 hO3 hb3 Hown3 Hnews hi52 hz0 hz1 hz2 Hst
        go_wp2_with fail
        go_ret2
        exact Hf.out
    · have Hres : Hid (extT s ((true, n), k) ((yv, yn), l) = if sameT (tv, tn) tk (yv, yn) l then some s else none) := extT_old hlk
      have hSub := HO.out.sub.below hB3
      obtain ⟨sa, sc, sb, so, hsl, hsa, hslc, hscm, hP⟩ := hSub
      simp only [Value.slice.injEq] at hsl
      obtain ⟨rfl, -, rfl⟩ := hsl
      have hjl : j < s.length := by
        rcases Nat.lt_or_ge j s.length with h | h
        · exact h
        · rw [List.getElem?_eq_none h] at hj; cases hj
      have ha : z1 = some ⟨sb, so, none⟩ := hsa (by omega)
      subst ha
      obtain ⟨c0, c1, c2, yv', c3, hSy⟩ := hP.at hj
      have HSy := hide hSy.drew
      obtain ⟨ya, yc, yb, yo, rfl, -, -, -, -⟩ := hSy
      have hj0 : (0 : Int) ≤ (j : Int) := by omega
      have hj1 : (j : Int) < (s.length : Int) := by omega
      unfold maxLen at hscm
      clear hlk hj hsa hP
      go_upto_region 5 with fail
      go_region_with (first
        | (go_at_call 36; refine (same_any (tv, tn) tk (yv, yn) l _ _ w1.drew HSy.out HU1.out).mono ?_; rintro e w2 ⟨rfl, hb2⟩))
      all_goals
        have Hb2 : Hid (Below w.heap.size w w2) := HB3.out.trans (hb2.mono HB3.out.size)
        clear hb2
        cases hsm : sameT (tv, tn) tk (yv, yn) l
        · have Hf : Hid (ExtPost lo X w s (.slice (some ⟨sb, so, none⟩) s.length z3) ((true, n), k) ((yv, yn), l) (.returned (.tuple #[.slice none 0 0, .bool false])) w2) := by
            refine ext_fails (Fr.of_below Hb2.out _ _) ?_
            rw [Hres.out, hsm]; rfl
          clear hsm
          go_wp2_with fail
          go_ret2
          exact Hf.out
        · have Hf : Hid (ExtPost lo X w s (.slice (some ⟨sb, so, none⟩) s.length z3) ((true, n), k) ((yv, yn), l) (.returned (.tuple #[.slice (some ⟨sb, so, none⟩) s.length z3, .bool true])) w2) := by
            refine ext_holds (s' := s) (xs' := xs) ?_ ⟨?_, Fr.of_below Hb2.out _ _, .inl rfl⟩
            · rw [Hres.out, hsm]; rfl
            · refine (HO.out.below Hb2.out).wide (fun q hq => .inl hq) (fun q hq => ?_)
              rcases hq with hq | hq
              · have := HO.out.off q hq; exact ⟨Nat.lt_of_lt_of_le this.1 Hb2.out.size, this.2⟩
              · exact hq.2
          clear hsm
          go_wp2_with fail
          go_ret2
          exact Hf.out

end Go.Proofs.Ytleogbdinafpaaa

/- What must be bound for a pattern to be a term: the document's More. -/
namespace Go.Proofs.Ytleogbdinafpaaa
open Go.RowKit Go.Deep Go.ChangeShapes Go.WideShapes
attribute [local go_sem ↓] Go.wp_at_zero Go.wp_at_succ

theorem Cs.below {w w' : World} {lv : Value} {m size : Nat} {news : List Value} (h : Cs w lv m size news) (hb : Below w.heap.size w w') : Cs w' lv m size news := by
  obtain ⟨a, c, h1, h2, h3, h4, h5⟩ := h
  exact ⟨a, c, h1, h2, h3, h4, fun ad e j u hj => grow_cell hb _ _ (h5 ad e j u hj)⟩
theorem cs_pair {w : World} {e : Nat} {n yn : Int} {yv : Bool} {a : Option Addr} {l c : Nat} (h : w.heap[e]? = some (.cells #[.int .i64 n, .bool yv, .int .i64 yn, .slice a l c] 48)) : Cs w (.slice (some ⟨e, 0, none⟩) 1 1) 1 4 [.int .i64 n, .bool yv, .int .i64 yn, .slice a l c] :=
  ⟨_, 1, rfl, rfl, by simp [Value.oneCell'], fun e => by (cases e), fun ad hh j u hj => by cases hh; exact World.news_of_block (cs := #[.int .i64 n, .bool yv, .int .i64 yn, .slice a l c]) h j u hj⟩
/-- Two rows of pairs, one behind the other, in a row of the call's own. -/
theorem pairs_row {lo : Nat} {w w' : World} {v : Value} {s s' : Sb} {news ys : List Value} (hb : Below w.heap.size w w') (h : PC (fun q => q < w.heap.size) w s news) (h' : PC (fun q => q < w.heap.size) w s' ys) (ho : w'.ownsRow lo 48 4 v (0 + s.length + s'.length) (([] ++ news) ++ ys)) : SubIn w' (s ++ s') v := by
  refine row_sub (lo := lo) (X := fun q => q < w.heap.size) (xs := news ++ ys) (by simpa using ho) (PC.append (h'.frame (fun _ hq => hq) (fun q i hq => hb.cell hq)) (h.frame (fun _ hq => hq) (fun q i hq => hb.cell hq)))

def MoreRPost (w : World) (s : Sb) (t u : Tm) (e : Ending) (w' : World) : Prop :=
  Below w.heap.size w w' ∧ ∃ (z1 : Option Addr) (z3 : Nat) (s' : Sb) (ok : Bool), e = .returned (.tuple #[.slice z1 s'.length z3, .bool ok]) ∧ SubIn w' s' (.slice z1 s'.length z3) ∧ extT s t u = (if ok then some s' else none) ∧ (ok = false → s' = [] ∨ s' = s)
def MoreRSaid (x : Bool × Int) (k : Fo) : Prop := ∀ (s : Sb) (vs : Value) (y : Bool × Int) (l : Fo) (a c : Value) (w : World),
    SubIn w s vs → SIn w k a → SIn w l c → (s.length + tszR k) * 48 ≤ 140737488355328 →
    Calls Try.prog 14 #[vs, .agg #[.bool x.1, .int .i64 x.2, a], .agg #[.bool y.1, .int .i64 y.2, c]] w (MoreRPost w s (x, k) (y, l))

theorem moreR_fails {w w' : World} {s : Sb} {t u : Tm} (hf : Below w.heap.size w w') (h : extT s t u = none) : MoreRPost w s t u (.returned (.tuple #[.slice none 0 0, .bool false])) w' :=
  ⟨hf, none, 0, [], false, rfl, SubIn.nil _, h, fun _ => .inl rfl⟩
theorem moreR_holds {w w' : World} {s s' : Sb} {t u : Tm} {z1 : Option Addr} {m z3 : Nat} (hf : Below w.heap.size w w') (h : extT s t u = some s') (hm : m = s'.length) (hS : SubIn w' s' (.slice z1 m z3)) : MoreRPost w s t u (.returned (.tuple #[.slice z1 m z3, .bool true])) w' := by
  subst hm
  exact ⟨hf, z1, z3, s', true, rfl, hS, h, fun e => by (cases e)⟩

set_option maxRecDepth 100000 in
set_option maxHeartbeats 2000000 in
theorem moreR_any (x : Bool × Int) (k : Fo) : MoreRSaid x k := by
  refine Fo.ind1 (p := MoreRSaid) ?_ x k
  clear x k
  intro x k ih s vs y l a c w hO hS hU hlen
  obtain ⟨v, n⟩ := x
  obtain ⟨yv, yn⟩ := y
  have HI := hide ih
  have HO := hide hO
  have HU := hide hU
  obtain ⟨z1, z3, sb, so, rfl, hz1, hzc, hzm, hP⟩ := hO
  obtain ⟨ad, ac, b, o, rfl, had, hlc, hcm, hF⟩ := hS
  obtain ⟨ud, uc, ub, uo, rfl, hud, hulc, hucm, hG⟩ := hU
  have HP := hide hP
  have HF := hide hF
  have HG := hide hG
  have hlent : 0 < tszR k := by unfold tszR; omega
  have hzm' := hzm
  unfold maxLen at hcm hucm hzm
  clear ih hF hG hP
  cases v
  · clear hz1
    by_cases hc : yv = false ∧ yn = n ∧ Fo.len l = Fo.len k
    · obtain ⟨rfl, rfl, hll⟩ := hc
      have Hres : Hid (extT s ((false, yn), k) ((false, yn), l) = extF k l s) := extT_in hll
      have hllb : ((Fo.len l : Int) != (Fo.len k : Int)) = false := by simp [hll]
      have hnb : (yn != yn) = false := by simp
      have Hll := hide hll
      have hll1 : Fo.len l ≤ Fo.len k := by omega
      have hll2 : Fo.len k ≤ Fo.len l := by omega
      have Hl := hide (Fo.len_list k)
      have Hl2 := hide (Fo.len_list l)
      clear hll
      go_enter Try.func14, Try.ntmps14
      go_wp2_with fail
      generalize hW2 : (w.alloc (.cells #[.bool false, .int .i64 yn, .slice ad (Fo.len k) ac] 26)).alloc (.cells #[.bool false, .int .i64 yn, .slice ud (Fo.len l) uc] 26) = W2
      have hs2 : W2.heap.size = w.heap.size + 1 + 1 := by rw [← hW2]; simp
      have hB2 : Below w.heap.size w W2 := by rw [← hW2]; exact (below_alloc _ _).alloc (by simp) _
      have q2 : W2.cell? ⟨w.heap.size, 2, none⟩ = some (.slice ad (Fo.len k) ac) := by rw [← hW2, World.cell?_alloc_lt _ _ _ (by simp)]; exact new_cell rfl
      have r2 : W2.cell? ⟨w.heap.size + 1, 2, none⟩ = some (.slice ud (Fo.len l) uc) := by rw [← hW2]; exact new_cell (World.size_alloc _ _)
      have Hq2 := hide q2
      have Hr2 := hide r2
      have HB2 := hide hB2
      clear hW2 q2 r2 hB2
      go_loopw [0, 62] (fun vj i wr => ∃ (j : Nat) (sj : Sb) (y1 : Option Addr) (y3 : Nat), j ≤ Fo.len k ∧ i = .int .i64 j ∧ vj = .slice y1 sj.length y3 ∧ extF (Fo.take j k) (Fo.take j l) s = some sj ∧ SubIn wr sj (.slice y1 sj.length y3) ∧ Below W2.heap.size W2 wr) (fun _ i _ => Fo.len k - (intOf i).toNat)
      case atStart => exact ⟨0, s, z1, z3, Nat.zero_le _, rfl, rfl, rfl, HO.out.below HB2.out, Below.refl _ _⟩
      case round =>
        obtain ⟨j, sj, y1, y3, hj, rfl, rfl, hex, hOj, hFj⟩ := hrel
        have Hex := hide hex
        have HOj := hide hOj
        have HFj := hide hFj
        clear hex hOj hFj
        have hBw := below_step HB2.out HFj.out
        have HBw := hide hBw
        by_cases hlt : j < Fo.len k
        · have hlt' : (j : Int) < (Fo.len k : Int) := by omega
          have hlt2 : (j : Int) < (Fo.len l : Int) := by omega
          have hj0 : (0 : Int) ≤ (j : Int) := by omega
          have had' := had (by omega)
          have hud' := hud (by omega)
          subst had' hud'
          obtain ⟨⟨⟨pv, pn⟩, pk⟩, hp⟩ : ∃ y, k.list[j]? = some y := ⟨k.list[j]'(by rw [Hl.out]; exact hlt), by simp⟩
          obtain ⟨⟨⟨tv, tn⟩, tk⟩, ht⟩ : ∃ y, l.list[j]? = some y := ⟨l.list[j]'(by rw [Hl2.out]; omega), by simp⟩
          obtain ⟨c0, c1, pa, c2, hSp⟩ := HF.out.at hp
          obtain ⟨d0, d1, ta, d2, hSt⟩ := HG.out.at ht
          have c0' := grow_cell hBw _ _ c0
          have c1' := grow_cell hBw _ _ c1
          have c2' := grow_cell hBw _ _ c2
          have d0' := grow_cell hBw _ _ d0
          have d1' := grow_cell hBw _ _ d1
          have d2' := grow_cell hBw _ _ d2
          have e2 := grow_cell HFj.out _ _ Hq2.out
          have f2 := grow_cell HFj.out _ _ Hr2.out
          have HSp := hide (hSp.below hBw).drew
          have HSt := hide (hSt.below hBw).drew
          obtain ⟨pa1, pc, pb, po, rfl, -, -, -, -⟩ := hSp
          obtain ⟨ta1, tc, tb, t4, rfl, -, -, -, -⟩ := hSt
          have Hbd : Hid ((sj.length + tszR pk) * 48 ≤ 140737488355328) := by
            have h1 := extF_len Hex.out
            have h2 := sizesR_take j k
            rw [hp] at h2
            simp only at h2
            unfold tszR at h2 hlen
            unfold tszR Hid
            omega
          have Hstep : Hid (extF (Fo.take (j + 1) k) (Fo.take (j + 1) l) s = extT sj ((pv, pn), pk) ((tv, tn), tk)) := by
            rw [Hid, ext_snoc s hp ht, Hex.out]; rfl
          have hcall : Calls Try.prog 14 #[.slice y1 sj.length y3, .agg #[.bool pv, .int .i64 pn, .slice pa1 (Fo.len pk) pc], .agg #[.bool tv, .int .i64 tn, .slice ta1 (Fo.len tk) tc]] wr.drew (MoreRPost wr.drew sj ((pv, pn), pk) ((tv, tn), tk)) :=
            HI.out ((pv, pn), pk) (List.mem_of_getElem? hp) sj _ (tv, tn) tk _ _ wr.drew HOj.out.drew HSp.out HSt.out Hbd.out
          have Hcall := hide hcall
          clear c0 c1 c2 d0 d1 d2 hp ht had hud hcall hBw
          go_upto_region 14 with fail
          go_region_with (first
            | (go_at_call 14; refine Hcall.out.mono ?_; rintro e w2 ⟨hb2, x1, x3, s2, ok, rfl, hS2, hyes, -⟩))
          all_goals
            have Hb2 := hide (below_step HFj.out ((Below.refl _ _).drew.trans hb2))
            cases ok
            · have Hf : Hid (MoreRPost w s ((false, yn), k) ((false, yn), l) (.returned (.tuple #[.slice none 0 0, .bool false])) w2) :=
                moreR_fails (below_step HB2.out Hb2.out) (Hres.out.trans (ext_none (j := j + 1) Hll.out.symm (Hstep.out.trans hyes)))
              clear hyes hS2 hb2
              go_wp2_with fail
              go_ret2
              exact Hf.out
            · have HS2 := hide hS2
              have Hs2 : Hid (extF (Fo.take (j + 1) k) (Fo.take (j + 1) l) s = some s2) := Hstep.out.trans hyes
              clear hyes hS2 hb2
              go_wp2_with fail
              go_roundw
              case rel => exact ⟨j + 1, s2, x1, x3, by omega, by go_num, rfl, Hs2.out, HS2.out, Hb2.out⟩
              case measure => simp [intOf]; omega
        · have Hf : Hid (MoreRPost w s ((false, yn), k) ((false, yn), l) (.returned (.tuple #[.slice y1 sj.length y3, .bool true])) wr) := by
            refine moreR_holds HBw.out (Hres.out.trans ?_) rfl HOj.out
            have e : j = Fo.len k := by omega
            have := Hex.out
            rw [e, take_all, ← Hll.out, take_all] at this
            exact this
          clear had hud
          go_wp2_with fail
          go_ret2
          exact Hf.out
    · have Hres : Hid (extT s ((false, n), k) ((yv, yn), l) = none) := extT_no hc
      have Hf : Hid (∀ w', Below w.heap.size w w' → MoreRPost w s ((false, n), k) ((yv, yn), l) (.returned (.tuple #[.slice none 0 0, .bool false])) w') := fun w' hb => moreR_fails hb Hres.out
      have Hb : Hid (Below w.heap.size w ((w.alloc (.cells #[.bool false, .int .i64 n, .slice ad (Fo.len k) ac] 26)).alloc (.cells #[.bool yv, .int .i64 yn, .slice ud (Fo.len l) uc] 26))) := (below_alloc _ _).alloc (by simp) _
      cases yv
      · by_cases hn : yn = n
        · have hl : ¬ Fo.len l = Fo.len k := fun e => hc ⟨rfl, hn, e⟩
          have hnb : (yn != n) = false := by simp [hn]
          have hlb : ((Fo.len l : Int) != (Fo.len k : Int)) = true := by simp; omega
          clear hc hn hl
          go_enter Try.func14, Try.ntmps14
          go_wp2_with fail
          go_ret2
          exact Hf.out _ Hb.out
        · have hnb : (yn != n) = true := by simp [hn]
          clear hc hn
          go_enter Try.func14, Try.ntmps14
          go_wp2_with fail
          go_ret2
          exact Hf.out _ Hb.out
      · clear hc
        go_enter Try.func14, Try.ntmps14
        go_wp2_with fail
        go_ret2
        exact Hf.out _ Hb.out
  · clear had hud
    go_enter Try.func14, Try.ntmps14
    go_wp2_with fail
    generalize hW2 : (w.alloc (.cells #[.bool true, .int .i64 n, .slice ad (Fo.len k) ac] 26)).alloc (.cells #[.bool yv, .int .i64 yn, .slice ud (Fo.len l) uc] 26) = W2
    have hs2 : W2.heap.size = w.heap.size + 1 + 1 := by rw [← hW2]; simp
    have hB2 : Below w.heap.size w W2 := by rw [← hW2]; exact (below_alloc _ _).alloc (by simp) _
    have q1 : W2.cell? ⟨w.heap.size, 1, none⟩ = some (.int .i64 n) := by rw [← hW2, World.cell?_alloc_lt _ _ _ (by simp)]; exact new_cell rfl
    have r0 : W2.cell? ⟨w.heap.size + 1, 0, none⟩ = some (.bool yv) := by rw [← hW2]; exact new_cell (World.size_alloc _ _)
    have r1 : W2.cell? ⟨w.heap.size + 1, 1, none⟩ = some (.int .i64 yn) := by rw [← hW2]; exact new_cell (World.size_alloc _ _)
    have r2 : W2.cell? ⟨w.heap.size + 1, 2, none⟩ = some (.slice ud (Fo.len l) uc) := by rw [← hW2]; exact new_cell (World.size_alloc _ _)
    have HR := hide (And.intro q1 (And.intro r0 (And.intro r1 r2)))
    have HB2 := hide hB2
    clear hW2 q1 r0 r1 r2 hB2
    go_loopw [17] (fun i wr => ∃ j : Nat, j ≤ s.length ∧ i = .int .i64 j ∧ (∀ q p, q < j → s[q]? = some p → p.1 ≠ n) ∧ Below W2.heap.size W2 wr) (fun i _ => s.length - (intOf i).toNat)
    case atStart => exact ⟨0, Nat.zero_le _, rfl, fun q p hq => by omega, Below.refl _ _⟩
    case round =>
      obtain ⟨j, hj, rfl, hno, hBr⟩ := hrel
      have Hno := hide hno
      have hBw := below_step HB2.out hBr
      have HBr := hide hBr
      have HBw := hide hBw
      obtain ⟨q1, r0, r1, r2⟩ := HR.out
      have q1' := grow_cell hBr _ _ q1
      have r0' := grow_cell hBr _ _ r0
      have r1' := grow_cell hBr _ _ r1
      have r2' := grow_cell hBr _ _ r2
      have hsr := hBr.size
      clear hno q1 r0 r1 r2 hBr
      by_cases hlt : j < s.length
      · have hlt' : (j : Int) < (s.length : Int) := by omega
        have hj0 : (0 : Int) ≤ (j : Int) := by omega
        obtain ⟨⟨m, ⟨tv, tn⟩, tk⟩, hy⟩ : ∃ y, s[j]? = some y := ⟨s[j], by simp [hlt]⟩
        have hz := hz1 (by omega)
        subst hz
        obtain ⟨c0, c1, c2, yv', c3, hSy⟩ := (HP.out.below hBw).at hy
        have HSy := hide hSy
        obtain ⟨ya, yc, yb, yo, rfl, -, -, -, -⟩ := hSy
        have HUr := hide (HU.out.below hBw)
        have Hnx : Hid (m ≠ n → ∀ q p, q < j + 1 → s[q]? = some p → p.1 ≠ n) := fun h q p hq hp => by
          by_cases e : q = j
          · subst e; rw [hy] at hp; cases hp; exact h
          · exact Hno.out q p (by omega) hp
        have Hlk : Hid (m = n → look s n = some ((tv, tn), tk)) := fun h => by subst h; exact look_first Hno.out hy
        clear hz1 hy hBw
        go_upto_region 5 with fail
        generalize hwa : wr.alloc (.cells #[.int .i64 m, .bool tv, .int .i64 tn, .slice ya (Fo.len tk) yc] 48) = wa
        have a0 : wa.cell? ⟨wr.heap.size, 0, none⟩ = some (.int .i64 m) := by rw [← hwa]; exact new_cell rfl
        have a1 : wa.cell? ⟨wr.heap.size, 1, none⟩ = some (.bool tv) := by rw [← hwa]; exact new_cell rfl
        have a2 : wa.cell? ⟨wr.heap.size, 2, none⟩ = some (.int .i64 tn) := by rw [← hwa]; exact new_cell rfl
        have a3 : wa.cell? ⟨wr.heap.size, 3, none⟩ = some (.slice ya (Fo.len tk) yc) := by rw [← hwa]; exact new_cell rfl
        have hba : Below wr.heap.size wr wa := by rw [← hwa]; exact below_alloc _ _
        have f1 := grow_cell hba _ _ q1'
        have g0 := grow_cell hba _ _ r0'
        have g1 := grow_cell hba _ _ r1'
        have g2 := grow_cell hba _ _ r2'
        have HSa := hide (HSy.out.below hba)
        have HUa := hide (HUr.out.below hba)
        have Hba := hide hba
        clear hwa c0 c1 c2 c3 q1' r0' r1' r2' hba
        by_cases he : m = n
        · have heb : (m == n) = true := by simp [he]
          have Hres : Hid (extT s ((true, n), k) ((yv, yn), l) = if sameT (tv, tn) tk (yv, yn) l then some s else none) := extT_old (Hlk.out he)
          clear he
          go_wp2_with fail
          refine (sameR_any (tv, tn) tk (yv, yn) l _ _ wa HSa.out HUa.out).mono ?_
          rintro e w2 ⟨rfl, hb2⟩
          have Hb2 := hide (below_step HBw.out (below_step Hba.out hb2))
          clear hb2
          cases hsm : sameT (tv, tn) tk (yv, yn) l
          · have Hf : Hid (MoreRPost w s ((true, n), k) ((yv, yn), l) (.returned (.tuple #[.slice (some ⟨sb, so, none⟩) s.length z3, .bool false])) w2) :=
              ⟨Hb2.out, _, _, s, false, rfl, HO.out.below Hb2.out, by rw [Hres.out, hsm], fun _ => .inr rfl⟩
            clear hsm
            go_wp2_with fail
            go_ret2
            exact Hf.out
          · have Hf : Hid (MoreRPost w s ((true, n), k) ((yv, yn), l) (.returned (.tuple #[.slice (some ⟨sb, so, none⟩) s.length z3, .bool true])) w2) :=
              ⟨Hb2.out, _, _, s, true, rfl, HO.out.below Hb2.out, by rw [Hres.out, hsm], fun e => by (cases e)⟩
            clear hsm
            go_wp2_with fail
            go_ret2
            exact Hf.out
        · have heb : (m == n) = false := by simp [he]
          have Hn := hide (Hnx.out he)
          clear he
          go_wp2_with fail
          go_roundw
          case rel => exact ⟨j + 1, by omega, by go_num, Hn.out, below_step HBr.out Hba.out⟩
          case measure => simp [intOf]; omega
      · have Hres : Hid (extT s ((true, n), k) ((yv, yn), l) = some (s ++ [(n, ((yv, yn), l))])) := extT_new (look_all (fun q p hq => Hno.out q p (by omega)))
        obtain ⟨i52, hi52, hz0, hz1', hz2⟩ := info_parts Try.info48
        obtain ⟨news, hCs, hPC⟩ := sub_cells HO.out
        have HCs := hide hCs
        have HPC := hide hPC
        have hn1 : 0 + s.length ≤ maxLen := by unfold maxLen; omega
        have hn2 : (0 + s.length) * 48 ≤ 140737488355328 := by omega
        have hn3 : 0 + s.length + 1 ≤ maxLen := by unfold maxLen; omega
        have hn4 : (0 + s.length + 1) * 48 ≤ 140737488355328 := by omega
        clear hz1 hBw hCs hPC
        have hsw : w.heap.size ≤ wr.heap.size := by omega
        have A1 : Hid ((wr.alloc (.cells #[] 48)).drew.ownsRow w.heap.size 48 4 (.slice (some ⟨wr.heap.size, 0, none⟩) 0 0) 0 []) := own_bare (heap_alloc_new wr _) hsw
        have A2 : Hid (((wr.alloc (.cells #[] 48)).alloc (.cells #[.int .i64 n, .bool yv, .int .i64 yn, .slice ud (Fo.len l) uc] 48)).drew.ownsRow w.heap.size 48 4 (.slice (some ⟨wr.heap.size, 0, none⟩) 0 0) 0 []) := own_bare ((Below.heap_alloc _ _ _ (by simp)).trans (heap_alloc_new wr _)) hsw
        have A3 : Hid (((wr.alloc (.cells #[.int .i64 n, .bool yv, .int .i64 yn, .slice ud (Fo.len l) uc] 48)).alloc (.cells #[] 48)).drew.ownsRow w.heap.size 48 4 (.slice (some ⟨wr.heap.size + 1, 0, none⟩) 0 0) 0 []) := own_bare (by have := heap_alloc_new (wr.alloc (.cells #[.int .i64 n, .bool yv, .int .i64 yn, .slice ud (Fo.len l) uc] 48)) (.cells #[] 48); rw [World.size_alloc] at this; exact this) (by omega)
        have B1 : Hid (Below wr.heap.size wr (wr.alloc (.cells #[] 48)).drew) := (below_alloc _ _).drew
        have B2 : Hid (Below wr.heap.size wr ((wr.alloc (.cells #[] 48)).alloc (.cells #[.int .i64 n, .bool yv, .int .i64 yn, .slice ud (Fo.len l) uc] 48)).drew) := ((below_alloc _ _).alloc (by simp) _).drew
        have B3 : Hid (Below wr.heap.size wr ((wr.alloc (.cells #[.int .i64 n, .bool yv, .int .i64 yn, .slice ud (Fo.len l) uc] 48)).alloc (.cells #[] 48)).drew) := ((below_alloc _ _).alloc (by simp) _).drew
        have M2 : Hid (∀ wA : World, ((wr.alloc (.cells #[] 48)).alloc (.cells #[.int .i64 n, .bool yv, .int .i64 yn, .slice ud (Fo.len l) uc] 48)).drew.grownBy wA (some wr.heap.size) → Cs wA (.slice (some ⟨wr.heap.size + 1, 0, none⟩) 1 1) 1 4 [.int .i64 n, .bool yv, .int .i64 yn, .slice ud (Fo.len l) uc]) := fun wA hg => cs_pair (by
          rw [hg.block (wr.heap.size + 1) (by simp) (by simp)]
          have := heap_alloc_new (wr.alloc (.cells #[] 48)) (.cells #[.int .i64 n, .bool yv, .int .i64 yn, .slice ud (Fo.len l) uc] 48)
          rw [World.size_alloc] at this
          exact this)
        have M3 : Hid (∀ wA : World, ((wr.alloc (.cells #[.int .i64 n, .bool yv, .int .i64 yn, .slice ud (Fo.len l) uc] 48)).alloc (.cells #[] 48)).drew.grownBy wA (some (wr.heap.size + 1)) → Cs wA (.slice (some ⟨wr.heap.size, 0, none⟩) 1 1) 1 4 [.int .i64 n, .bool yv, .int .i64 yn, .slice ud (Fo.len l) uc]) := fun wA hg => cs_pair (by
          rw [hg.block wr.heap.size (by show wr.heap.size < ((wr.alloc _).alloc _).heap.size; rw [size2]; omega) (by simp)]
          exact (Below.heap_alloc _ _ _ (by simp)).trans (heap_alloc_new wr _))
        go_upto_region 8 with fail
        go_region_held3 (fun w' => w'.cell? ⟨w.heap.size, 1, none⟩ = some (.int .i64 n) ∧ w'.cell? ⟨w.heap.size + 1, 0, none⟩ = some (.bool yv) ∧ w'.cell? ⟨w.heap.size + 1, 1, none⟩ = some (.int .i64 yn) ∧ w'.cell? ⟨w.heap.size + 1, 2, none⟩ = some (.slice ud (Fo.len l) uc))
          (first
            | exact ⟨grow_cell BB _ _ q1', grow_cell BB _ _ r0', grow_cell BB _ _ r1', grow_cell BB _ _ r2'⟩
            | exact ⟨grow_cell BA _ _ q1', grow_cell BA _ _ r0', grow_cell BA _ _ r1', grow_cell BA _ _ r2'⟩
            | go_keep)
          (first
            | (refine step_append_gen (by rfl) _ _ _ (by rfl) w.heap.size 48 i52 (.agg #[.int .i64 0, .bool false, .int .i64 0, .slice none 0 0]) 4 48 Try.underlying29 hi52 hz0 hz1' hz2 rfl (by decide) (.slice (some ⟨wr.heap.size, 0, none⟩) 0 0) 0 [] (by rfl) A1.out (.slice z1 s.length z3) s.length news (by rfl) (HCs.out.below (below_step HBw.out B1.out)) hn1 hn2 ?hb ?_; (case hb => simp; omega); intro vA wA hoA hgA hatA; obtain ⟨BA, VA, SA⟩ := vars_row B1.out hgA hatA (by simp [Value.ownBlock]); have Q1 : Hid True := trivial)
            | (refine step_append_gen (by rfl) _ _ _ (by rfl) w.heap.size 48 i52 (.agg #[.int .i64 0, .bool false, .int .i64 0, .slice none 0 0]) 4 48 Try.underlying29 hi52 hz0 hz1' hz2 rfl (by decide) (.slice (some ⟨wr.heap.size, 0, none⟩) 0 0) 0 [] (by rfl) A2.out (.slice z1 s.length z3) s.length news (by rfl) (HCs.out.below (below_step HBw.out B2.out)) hn1 hn2 ?hb ?_; (case hb => simp; omega); intro vA wA hoA hgA hatA; obtain ⟨BA, VA, SA⟩ := vars_row B2.out hgA hatA (by simp [Value.ownBlock]); have Q2 := hide (M2.out wA hgA))
            | (refine step_append_gen (by rfl) _ _ _ (by rfl) w.heap.size 48 i52 (.agg #[.int .i64 0, .bool false, .int .i64 0, .slice none 0 0]) 4 48 Try.underlying29 hi52 hz0 hz1' hz2 rfl (by decide) (.slice (some ⟨wr.heap.size + 1, 0, none⟩) 0 0) 0 [] (by rfl) A3.out (.slice z1 s.length z3) s.length news (by rfl) (HCs.out.below (below_step HBw.out B3.out)) hn1 hn2 ?hb ?_; (case hb => simp; omega); intro vA wA hoA hgA hatA; obtain ⟨BA, VA, SA⟩ := vars_row B3.out hgA hatA (by simp [Value.ownBlock]); have Q3 := hide (M3.out wA hgA))
            | (refine step_append_gen (by rfl) _ _ _ (by rfl) w.heap.size 48 i52 (.agg #[.int .i64 0, .bool false, .int .i64 0, .slice none 0 0]) 4 48 Try.underlying29 hi52 hz0 hz1' hz2 rfl (by decide) vA (0 + s.length) ([] ++ news) (by rfl) ?own (.slice (some ⟨wA.heap.size, 0, none⟩) 1 1) 1 [.int .i64 n, .bool yv, .int .i64 yn, .slice ud (Fo.len l) uc] (by rfl) ?nin hn3 hn4 ?hb ?_; (case own => exact owns_keep hoA (fun g hg => Below.heap_alloc _ _ _ (owns_at hoA g hg).2)); (case nin => exact cs_pair (heap_alloc_new wA _)); (case hb => simp; omega); intro vB wB hoB hgB hatB; have BB := vars_row2 ((BA.alloc BA.size _)) hgB VA)
            | (refine step_append_gen (by rfl) _ _ _ (by rfl) w.heap.size 48 i52 (.agg #[.int .i64 0, .bool false, .int .i64 0, .slice none 0 0]) 4 48 Try.underlying29 hi52 hz0 hz1' hz2 rfl (by decide) vA (0 + s.length) ([] ++ news) (by rfl) hoA _ 1 [.int .i64 n, .bool yv, .int .i64 yn, .slice ud (Fo.len l) uc] (by rfl) Q2.out hn3 hn4 ?hb ?_; (case hb => omega); intro vB wB hoB hgB hatB; have BB := vars_row2 BA hgB VA)
            | (refine step_append_gen (by rfl) _ _ _ (by rfl) w.heap.size 48 i52 (.agg #[.int .i64 0, .bool false, .int .i64 0, .slice none 0 0]) 4 48 Try.underlying29 hi52 hz0 hz1' hz2 rfl (by decide) vA (0 + s.length) ([] ++ news) (by rfl) hoA _ 1 [.int .i64 n, .bool yv, .int .i64 yn, .slice ud (Fo.len l) uc] (by rfl) Q3.out hn3 hn4 ?hb ?_; (case hb => omega); intro vB wB hoB hgB hatB; have BB := vars_row2 BA hgB VA))
        all_goals
          have HBB := hide (below_step HBw.out BB)
          have HSB := hide (pairs_row (s' := [(n, ((yv, yn), l))]) HBB.out HPC.out (PC.one HU.out.toB) hoB)
          obtain ⟨x1, x3, rfl⟩ := slice_of_sub HSB.out
          have Hf : Hid (MoreRPost w s ((true, n), k) ((yv, yn), l) (.returned (.tuple #[.slice x1 (s ++ [(n, ((yv, yn), l))]).length x3, .bool true])) wB) := moreR_holds HBB.out Hres.out rfl HSB.out
          clear hoA hoB hgA hgB hatA hatB BA BB VA SA
          go_wp2_with fail
          go_ret2
          exact Hf.out

end Go.Proofs.Ytleogbdinafpaaa
