/- RRow RPut RNums RVars CP Rep -/
import Derived.Test.YtiilckjnggeeoadG05
import Derived.Deep.RegionWith
import Derived.Deep.RegionHeld3
namespace Go.Proofs.Ytiilckjnggeeoad
open Go.RowKit Go.Deep Go.ChangeShapes Go.WideShapes
def Rm (B : Nat) (X : Nat → Prop) (w : World) (v : Value) : Nat → Prop := fun q => X q ∨ (B + 1 ≤ q ∧ q < w.heap.size ∧ some q ≠ v.ownBlock)
theorem row_step {B : Nat} {X : Nat → Prop} {wr w1 w3 : World} {acc : Fo} {v v' : Value} {x : Bool × Int} {k : Fo} {a : Value} {g cap : Nat} {xs : List Value} {ob : Obj}
    (h1 : wr.ownsRow (B + 1) 33 3 v (Fo.len acc) xs) (h2 : CellsOf (Rm B X wr v) wr acc xs) (hX : ∀ q, X q → q < B) (hBl : B < wr.heap.size) (hBc : ∃ u, wr.cell? ⟨B, 2, none⟩ = some u)
    (hsz : wr.heap.size ≤ w1.heap.size) (hb : ∀ q, X q ∨ B ≤ q → q < wr.heap.size → w1.heap[q]? = wr.heap[q]?) (hk : SB (fun q => X q ∨ (wr.heap.size ≤ q ∧ q < w1.heap.size)) w1 k a)
    (hv' : v' = .slice (some ⟨g, 0, none⟩) (Fo.len acc + 1) cap) (ho : w3.ownsRow (B + 1) 33 3 v' (Fo.len acc + 1) (xs ++ [.bool x.1, .int .i64 x.2, a])) (hg : (w1.alloc ob).grownBy w3 v.ownBlock)
    (hat : v.ownBlock = some g ∨ g = w1.heap.size + 1) (hlt : g < w3.heap.size) :
    (w3.setCell ⟨B, 2, none⟩ v').ownsRow (B + 1) 33 3 v' (Fo.len (Fo.snoc acc x k)) (xs ++ [.bool x.1, .int .i64 x.2, a]) ∧ CellsOf (Rm B X (w3.setCell ⟨B, 2, none⟩ v') v') (w3.setCell ⟨B, 2, none⟩ v') (Fo.snoc acc x k) (xs ++ [.bool x.1, .int .i64 x.2, a]) ∧
    (w3.setCell ⟨B, 2, none⟩ v').cell? ⟨B, 2, none⟩ = some v' ∧ (∀ q, q < w1.heap.size → some q ≠ v.ownBlock → q ≠ B → (w3.setCell ⟨B, 2, none⟩ v').heap[q]? = w1.heap[q]?) ∧
    (∀ i, i ≠ 2 → (w3.setCell ⟨B, 2, none⟩ v').cell? ⟨B, i, none⟩ = wr.cell? ⟨B, i, none⟩) ∧ (∀ i, (w3.setCell ⟨B, 2, none⟩ v').frozen? ⟨B, i, none⟩ = wr.frozen? ⟨B, i, none⟩) ∧ w1.heap.size < (w3.setCell ⟨B, 2, none⟩ v').heap.size := by
  have hs3 := hg.size
  simp at hs3
  have hBo : some B ≠ v.ownBlock := fun e => by have := (owns_at h1 B e.symm).1; omega
  have far : ∀ q, q < w1.heap.size → some q ≠ v.ownBlock → q ≠ B → (w3.setCell ⟨B, 2, none⟩ v').heap[q]? = w1.heap[q]? := fun q hq hn hqB => by
    rw [Below.heap_setCell _ _ _ _ hqB, hg.block q (by simp; omega) hn, Below.heap_alloc _ _ _ hq]
  have farB : w3.heap[B]? = wr.heap[B]? := by rw [hg.block B (by simp; omega) hBo, Below.heap_alloc _ _ _ (by omega), hb B (.inr (Nat.le_refl _)) hBl]
  have hv'g : v'.ownBlock = some g := by rw [hv']; rfl
  have hgB : B + 1 ≤ g := (owns_at ho g hv'g).1
  refine ⟨by rw [snoc_len]; exact ownsRow_setCell_below ho (by simp) _, ?_, ?_, far, ?_, ?_, by rw [World.size_setCell]; omega⟩
  · refine CellsOf.snoc ?_ ?_
    · refine hk.frame (fun q hq => ?_) (fun q i hq => World.cell?_of_block (far q ?_ ?_ ?_))
      · rcases hq with hq | ⟨q1, q2⟩
        · exact .inl hq
        · refine .inr ⟨by omega, by rw [World.size_setCell]; omega, ?_⟩
          rw [hv'g]
          intro e
          simp at e
          subst e
          rcases hat with e | e
          · have := (owns_at h1 _ e).2; omega
          · omega
      · rcases hq with hq | hq
        · have := hX q hq; omega
        · exact hq.2
      · intro e
        have h3 := owns_at h1 _ e.symm
        rcases hq with hq | hq
        · have := hX q hq; omega
        · omega
      · rcases hq with hq | hq
        · have := hX q hq; omega
        · omega
    · refine CellsOf.frame (fun q hq => ?_) (fun q i hq => ?_) h2
      · rcases hq with hq | ⟨q1, q2, q3⟩
        · exact .inl hq
        · refine .inr ⟨q1, by rw [World.size_setCell]; omega, ?_⟩
          rw [hv'g]
          intro e
          simp at e
          subst e
          rcases hat with e | e
          · exact q3 e.symm
          · omega
      · have hq' : q < wr.heap.size ∧ (X q ∨ B ≤ q) ∧ some q ≠ v.ownBlock ∧ q ≠ B := by
          rcases hq with hq | ⟨q1, q2, q3⟩
          · have := hX q hq
            exact ⟨by omega, .inl hq, fun e => by have := (owns_at h1 _ e.symm).1; omega, by omega⟩
          · exact ⟨q2, .inr (by omega), q3, by omega⟩
        exact World.cell?_of_block ((far q (by omega) hq'.2.2.1 hq'.2.2.2).trans (hb q hq'.2.1 hq'.1))
  · obtain ⟨u, hu⟩ := hBc
    exact set_same (u := u) (by rw [World.cell?_of_block farB]; exact hu)
  · intro i hi
    rw [set_other (by intro e; simp only [Addr.mk.injEq] at e; omega)]
    exact World.cell?_of_block farB
  · intro i
    rw [World.frozen?_setCell]
    exact World.frozen?_of_block farB
end Go.Proofs.Ytiilckjnggeeoad

namespace Go.Proofs.Ytiilckjnggeeoad
open Go.RowKit Go.Deep Go.ChangeShapes Go.WideShapes
attribute [local go_sem ↓] Go.wp_at_zero Go.wp_at_succ
theorem new_cell {w0 : World} {n i : Nat} {c : Array Value} {t : TypeId} (h : w0.heap.size = n) : (w0.alloc (.cells c t)).cell? ⟨n, i, none⟩ = c[i]? := by subst h; simp
theorem new_frozen {w0 : World} {n i : Nat} {c : Array Value} {t : TypeId} (h : w0.heap.size = n) : (w0.alloc (.cells c t)).frozen? ⟨n, i, none⟩ = false := by subst h; simp
theorem size2 (w : World) (o1 o2 : Obj) : ((w.alloc o1).alloc o2).heap.size = w.heap.size + 2 := by rw [World.size_alloc, World.size_alloc]
theorem out_cell {wa w3 : World} {ob : Obj} {row : Option Nat} {B i : Nat} {u : Value} (hg : (wa.alloc ob).grownBy w3 row) (hB : B < wa.heap.size) (hn : some B ≠ row) (h : wa.cell? ⟨B, i, none⟩ = some u) : w3.cell? ⟨B, i, none⟩ = some u := by
  rw [hg.cell_far ⟨B, i, none⟩ (by simp; omega) hn, World.cell?_alloc_lt _ _ _ hB]; exact h
theorem out_frozen {wa w3 : World} {ob : Obj} {row : Option Nat} {B : Nat} (hg : (wa.alloc ob).grownBy w3 row) (hB : B < wa.heap.size) (hn : some B ≠ row) (h : ∀ i, wa.frozen? ⟨B, i, none⟩ = false) : ∀ i, w3.frozen? ⟨B, i, none⟩ = false := fun i => by
  rw [hg.frozen_far ⟨B, i, none⟩ (by simp; omega) hn, World.frozen?_of_block (Below.heap_alloc wa ob B hB)]; exact h i
end Go.Proofs.Ytiilckjnggeeoad

namespace Go.Proofs.Ytiilckjnggeeoad
open Go.RowKit Go.Deep Go.ChangeShapes Go.WideShapes
theorem append_none {w : World} (base : Nat) (ty : TypeId) (i : TypeInfo) (hi : Try.prog.info? 3 = some i) (v : Value) (n c : Nat) (xs : List Value) (hown : w.ownsRow base 3 1 v n xs) :
    (Builtin.append_ #[22, 22] ty #[v, .slice none 0 c]).run Try.prog w = .ok v w := by
  have ht := Try.underlying22
  rcases hown.2 with ⟨rfl, rfl⟩ | ⟨g, cap, cur, rfl, _, _, hnc, _⟩
  · simp [Builtin.append_, run_underlying ht, sizeOf, typeInfo, hi, Builtin.lenOf, Builtin.firstCells]
  · simp [Builtin.append_, run_underlying ht, sizeOf, typeInfo, hi, Builtin.lenOf, Builtin.firstCells, hnc, storeCells]
theorem run_append_nums {w : World} (ty : TypeId) (base : Nat) (v : Value) (n : Nat) (xs : List Value) (hown : w.ownsRow base 3 1 v n xs) (l : List Int) (lv : Value) (hN : NIn w l lv) (hb : (n + l.length) * 8 ≤ 140737488355328) (hbase : base ≤ w.heap.size) :
    ∃ v' w', (Builtin.append_ #[22, 22] ty #[v, lv]).run Try.prog w = .ok v' w' ∧ w'.ownsRow base 3 1 v' (n + l.length) (xs ++ vals l) ∧ w.grownBy w' v.ownBlock ∧ (v'.ownBlock = v.ownBlock ∨ v'.ownBlock = some w.heap.size) := by
  obtain ⟨i3, hi3, hy0, hy1, hy2⟩ := info_parts Try.info3
  obtain ⟨a, c, b, o, rfl, ha, hlc, hcm, hF⟩ := hN
  cases a with
  | none =>
    have h0 : l = [] := by
      cases l with
      | nil => rfl
      | cons _ _ => have := ha (by simp); cases this
    subst h0
    exact ⟨v, w, append_none base ty i3 hi3 v n c xs hown, by simpa using hown, ⟨rfl, rfl, rfl, Nat.le_refl _, fun _ _ _ => rfl⟩, .inl rfl⟩
  | some ad =>
    obtain ⟨v', w', hr, h2, h3, _, h5⟩ := run_append_own_at (P := Try.prog) w base 22 ty 3 i3 (.int .i64 0) 1 8 Try.underlying22 hi3 hy0 hy1 hy2 rfl (by decide) v n xs hown ad l.length c (vals l) (by simp) (fun j u hu => by
        have hj : j < l.length := by
          have := (List.getElem?_eq_some_iff.1 hu).1
          simpa using this
        have hae : ad = ⟨b, o, none⟩ := by have := ha (by omega); simpa using this
        have hc := hF j hj
        have e : u = .int .i64 (l.getD j 0) := by
          simp [List.getD_eq_getElem?_getD, hj] at hu ⊢
          exact hu.symm
        rw [hae, add_plain, e]
        exact hc) (ints_oneCell _ _) (by unfold maxLen; omega) hb hbase
    exact ⟨v', w', hr, h2, h3, h5⟩
theorem wp_append_nums {w : World} {o : Oper} {a : Act} {K : Act → World → Prop} {Q : Exit → Act → World → Prop} (s x : Operand)
    (ho : o.op = .call { callee := .builtin .append, args := #[s, x], argTypes := #[22, 22] }) (base : Nat) (v : Value) (n : Nat) (xs : List Value) (hs : a.eval s = v) (hown : w.ownsRow base 3 1 v n xs) (l : List Int) (lv : Value) (hx : a.eval x = lv) (hN : NIn w l lv) (hb : (n + l.length) * 8 ≤ 140737488355328) (hbase : base ≤ w.heap.size)
    (h : ∀ v' w', w'.ownsRow base 3 1 v' (n + l.length) (xs ++ vals l) → w.grownBy w' v.ownBlock → (v'.ownBlock = v.ownBlock ∨ v'.ownBlock = some w.heap.size) → K (a.put o.dst v') w') : o.wp Try.prog a w K Q := by
  obtain ⟨v', w', hr, h2, h3, h4⟩ := run_append_nums o.type base v n xs hown l lv hN hb hbase
  unfold Oper.wp execOp
  simp only [ho, resolve, invoke, builtin, Sem.run_bind, Sem.run_pure, Result.andThen_ok, List.map_toArray, List.map_cons, List.map_nil, hs, hx, hr]
  exact h v' w' h2 h3 h4
theorem step_append_nums {w : World} {ops : Array Oper} {o : Oper} {a : Act} {K : Act → World → Prop} {Q : Exit → Act → World → Prop} {E : Prop} (hgd : o.guard = none) (s x : Operand)
    (ho : o.op = .call { callee := .builtin .append, args := #[s, x], argTypes := #[22, 22] }) (base : Nat) (v : Value) (n : Nat) (xs : List Value) (hs : a.eval s = v) (hown : w.ownsRow base 3 1 v n xs) (l : List Int) (lv : Value) (hx : a.eval x = lv) (hN : NIn w l lv) (hb : (n + l.length) * 8 ≤ 140737488355328) (hbase : base ≤ w.heap.size)
    (h : ∀ v' w', w'.ownsRow base 3 1 v' (n + l.length) (xs ++ vals l) → w.grownBy w' v.ownBlock → (v'.ownBlock = v.ownBlock ∨ v'.ownBlock = some w.heap.size) → K (a.put o.dst v') w') :
    if Region.wanted o (yielded ops a.tmps) = true then Oper.wp Try.prog o a w K Q else E := by
  have hw : Region.wanted o (yielded ops a.tmps) = true := by simp [Region.wanted, hgd]
  rw [if_pos hw]
  exact wp_append_nums s x ho base v n xs hs hown l lv hx hN hb hbase h
theorem own_empty {w : World} {base e : Nat} (h : w.heap[e]? = some (.cells #[] 3)) (hb : base ≤ e) : w.ownsRow base 3 1 (.slice (some ⟨e, 0, none⟩) 0 0) 0 [] :=
  ⟨rfl, .inr ⟨e, 0, #[], rfl, hb, h, Nat.le_refl _, Nat.zero_le _, rfl, rfl⟩⟩
theorem nin_one {w : World} {e : Nat} {n : Int} (h : w.heap[e]? = some (.cells #[.int .i64 n] 3)) : NIn w [n] (.slice (some ⟨e, 0, none⟩) 1 1) := by
  refine ⟨_, 1, e, 0, rfl, fun _ => rfl, Nat.le_refl _, by unfold maxLen; omega, fun i hi => ?_⟩
  have : i = 0 := by simpa using hi
  subst this
  simp [World.cell?, h]
end Go.Proofs.Ytiilckjnggeeoad

namespace Go.Proofs.Ytiilckjnggeeoad
open Go.RowKit Go.Deep Go.ChangeShapes Go.WideShapes
attribute [local go_sem ↓] Go.wp_at_zero Go.wp_at_succ
theorem nin_slice {w : World} {l : List Int} {v : Value} (h : NIn w l v) : ∃ z1 z3, v = .slice z1 l.length z3 := by
  obtain ⟨_, _, _, _, rfl, _⟩ := h
  exact ⟨_, _, rfl⟩
theorem vars_row {wr w1 wA : World} {v v' : Value} (hb : Below wr.heap.size wr w1) (hg : w1.grownBy wA v.ownBlock) (hat : v'.ownBlock = v.ownBlock ∨ v'.ownBlock = some w1.heap.size) (hv : ∀ g, v.ownBlock = some g → wr.heap.size ≤ g) :
    Below wr.heap.size wr wA ∧ (∀ g, v'.ownBlock = some g → wr.heap.size ≤ g) ∧ wr.heap.size ≤ wA.heap.size := by
  have h1 := hb.size
  have h2 := hg.size
  refine ⟨hb.grown hg h1 hv, fun g hgg => ?_, by omega⟩
  rcases hat with e | e
  · exact hv g (by rw [← e]; exact hgg)
  · rw [e] at hgg; simp at hgg; omega
theorem vars_row2 {wr w1 wA : World} {v : Value} (hb : Below wr.heap.size wr w1) (hg : w1.grownBy wA v.ownBlock) (hv : ∀ g, v.ownBlock = some g → wr.heap.size ≤ g) : Below wr.heap.size wr wA := hb.grown hg hb.size hv
def VarsRSaid (x : Bool × Int) (k : Fo) : Prop := ∀ (a : Value) (l : List Int) (v : Value) (w : World) (T : List Int), T = varsT x k l → SIn w k a → NIn w l v → T.length * 8 ≤ 140737488355328 →
    Calls Try.prog 44 #[v, .agg #[.bool x.1, .int .i64 x.2, a]] w fun e w' => ∃ v', e = .returned v' ∧ NIn w' T v' ∧ Below w.heap.size w w'
set_option maxHeartbeats 1000000 in
set_option maxRecDepth 100000 in
theorem varsR_few (x : Bool × Int) (k : Fo) : VarsRSaid x k := by
  refine Fo.ind1 (p := VarsRSaid) ?_ x k
  clear x k
  intro x k ih a l v w T hT hS hN hlen
  obtain ⟨xv, xn⟩ := x
  have HI := hide ih
  have HT := hide hT
  have HN := hide hN
  obtain ⟨ad, c, b, o, rfl, had, hlc, hcm, hF⟩ := hS
  have HF := hide hF
  unfold maxLen at hcm
  clear ih hF hT
  cases xv
  · have Htt : Hid (varsT (false, xn) k l = varsF k l) := rfl
    obtain ⟨za, zc, rfl⟩ := nin_slice hN
    clear hN
    go_enter Try.func44, Try.ntmps44
    go_wp2_with fail
    go_loopw [0, 15] (fun vl i wr => ∃ (j : Nat) (L : List Int) (z1 : Option Addr) (z3 : Nat), j ≤ Fo.len k ∧ i = .int .i64 j ∧ vl = .slice z1 L.length z3 ∧ L = vsTo k l j ∧ Below w.heap.size w wr ∧ NIn wr L (.slice z1 L.length z3)) (fun _ i _ => Fo.len k - (intOf i).toNat)
    case atStart => exact ⟨0, l, za, zc, Nat.zero_le _, rfl, rfl, rfl, below_alloc _ _, HN.out.alloc _⟩
    case round =>
      obtain ⟨j, L, z1, z3, hj, rfl, rfl, hL, hBr, hor⟩ := hrel
      have HL := hide hL
      have Hor := hide hor
      clear hL hor
      by_cases hlt : j < Fo.len k
      · have hlt' : (j : Int) < (Fo.len k : Int) := by omega
        obtain ⟨⟨⟨yv, yn⟩, yk⟩, hy⟩ : ∃ y, k.list[j]? = some y := ⟨k.list[j]'(by rw [Fo.len_list]; exact hlt), by simp⟩
        obtain ⟨c0, c1, yv', c2, hSy⟩ := (HF.out.below hBr).at hy
        have HSy := hide hSy
        obtain ⟨ya, yc, yb, yo, rfl, -, -, -, -⟩ := hSy
        have ha : ad = some ⟨b, o, none⟩ := had (by omega)
        subst ha
        have Hy := hide hy
        obtain ⟨Tn, hTn⟩ : ∃ Tn, Tn = varsT (yv, yn) yk L := ⟨_, rfl⟩
        have HTn := hide hTn
        have Hbd : Hid (Tn.length * 8 ≤ 140737488355328) := by
          have h1 := varsF_take (j + 1) k l
          have h2 : Tn = vsTo k l (j + 1) := by rw [hTn, vsTo_succ Hy.out, HL.out]
          have h3 : T = varsF k l := HT.out.trans Htt.out
          rw [Hid, h2, vsTo]
          rw [h3] at hlen
          omega
        clear hy had hTn
        go_wp2_with fail
        refine (HI.out ((yv, yn), yk) (List.mem_of_getElem? Hy.out) _ L _ _ Tn HTn.out (HSy.out.alloc _) (Hor.out.alloc _) Hbd.out).mono ?_
        rintro e w2 ⟨vl', rfl, ho2, hb2⟩
        obtain ⟨y1, y3, rfl⟩ := nin_slice ho2
        have Ho2 := hide ho2
        have hB2 := below_step hBr (below_box hb2)
        clear ho2 hb2
        go_wp2_with fail
        go_roundw
        case rel => exact ⟨j + 1, Tn, y1, y3, by omega, by go_num, rfl, by rw [HTn.out, vsTo_succ Hy.out, HL.out], hB2, Ho2.out⟩
        case measure => simp [intOf]; omega
      · have Hfin : Hid (T = L) := by
          have e : j = Fo.len k := by omega
          rw [Hid, HT.out, Htt.out, HL.out, e, vsTo_end]
        clear had
        go_wp2_with fail
        go_ret
        have e := Hfin.out
        subst e
        exact ⟨_, rfl, Hor.out, hBr⟩
  · have Htt : Hid (varsT (true, xn) k l = if hasB l xn then l else l ++ [xn]) := rfl
    obtain ⟨la, lc, lb, lo, rfl, hla, hllc, hlcm, hlF⟩ := hN
    have HlF := hide hlF
    unfold maxLen at hlcm
    clear hlF
    go_enter Try.func44, Try.ntmps44
    go_wp2_with fail
    generalize hwa : w.alloc (.cells #[.bool true, .int .i64 xn, .slice ad (Fo.len k) c] 33) = wa
    have d1 : wa.cell? ⟨w.heap.size, 1, none⟩ = some (.int .i64 xn) := by rw [← hwa]; simp
    have Hba : Hid (Below w.heap.size w wa) := by rw [← hwa]; exact below_alloc _ _
    have hsa : w.heap.size < wa.heap.size := by rw [← hwa]; simp
    clear hwa
    go_loopw [26] (fun i wr => ∃ j : Nat, j ≤ l.length ∧ i = .int .i64 j ∧ (∀ q, q < j → l.getD q 0 ≠ xn) ∧ wr = wa) (fun i _ => l.length - (intOf i).toNat)
    case atStart => exact ⟨0, Nat.zero_le _, rfl, fun q hq => by omega, rfl⟩
    case round =>
      obtain ⟨j, hj, rfl, hno, rfl⟩ := hrel
      have Hno := hide hno
      clear hno
      by_cases hlt : j < l.length
      · have hlt' : (j : Int) < (l.length : Int) := by omega
        have hc := grow_cell Hba.out _ _ (HlF.out j hlt)
        have Hmem : Hid (l.getD j 0 ∈ l) := by
          rw [Hid, List.getD_eq_getElem?_getD, List.getElem?_eq_getElem hlt]; simp
        have ha : la = some ⟨lb, lo, none⟩ := hla (by omega)
        subst ha
        have Hnx : Hid (l.getD j 0 ≠ xn → ∀ q, q < j + 1 → l.getD q 0 ≠ xn) := fun h q hq => by
          by_cases e : q = j
          · rw [e]; exact h
          · exact Hno.out q (by omega)
        generalize l.getD j 0 = z at *
        by_cases he : z = xn
        · have heb : (z == xn) = true := by simp [he]
          have Hfin : Hid (T = l) := by
            rw [Hid, HT.out, Htt.out, if_pos]
            rw [hasB, ← he]; exact decide_eq_true Hmem.out
          clear he hla
          go_wp2_with fail
          go_ret
          have e := Hfin.out
          subst e
          exact ⟨_, rfl, HN.out.below Hba.out, Hba.out⟩
        · have heb : (z == xn) = false := by simp [he]
          have Hn := hide (Hnx.out he)
          clear he hla
          go_wp2_with fail
          go_roundw
          case rel => exact ⟨j + 1, by omega, by go_num, Hn.out, trivial⟩
          case measure => simp [intOf]; omega
      · have Hfin : Hid (T = l ++ [xn]) := by
          have : xn ∉ l := fun h => by
            obtain ⟨q, hq, e⟩ := List.mem_iff_getElem.1 h
            exact Hno.out q (by omega) (by rw [List.getD_eq_getElem?_getD, List.getElem?_eq_getElem hq]; exact e)
          rw [Hid, HT.out, Htt.out, if_neg]
          rw [hasB, decide_eq_false this]; simp
        clear hla
        go_wp2_with fail
        have hTl : T.length = l.length + 1 := by rw [Hfin.out]; simp
        have hb0 : (0 + l.length) * 8 ≤ 140737488355328 := by omega
        have hb1 : (0 + l.length + [xn].length) * 8 ≤ 140737488355328 := by simp; omega
        clear hTl
        have hsw : w.heap.size ≤ wr.heap.size := by omega
        have A1 : Hid ((wr.alloc (.cells #[] 3)).drew.ownsRow w.heap.size 3 1 (.slice (some ⟨wr.heap.size, 0, none⟩) 0 0) 0 []) := own_empty (heap_alloc_new wr _) hsw
        have A2 : Hid (((wr.alloc (.cells #[] 3)).alloc (.cells #[.int .i64 xn] 3)).drew.ownsRow w.heap.size 3 1 (.slice (some ⟨wr.heap.size, 0, none⟩) 0 0) 0 []) := own_empty ((Below.heap_alloc _ _ _ (by simp)).trans (heap_alloc_new wr _)) hsw
        have A3 : Hid (((wr.alloc (.cells #[.int .i64 xn] 3)).alloc (.cells #[] 3)).drew.ownsRow w.heap.size 3 1 (.slice (some ⟨wr.heap.size + 1, 0, none⟩) 0 0) 0 []) := own_empty (by have := heap_alloc_new (wr.alloc (.cells #[.int .i64 xn] 3)) (.cells #[] 3); rw [World.size_alloc] at this; exact this) (by omega)
        have N1 : Hid (NIn (wr.alloc (.cells #[] 3)).drew l (.slice la l.length lc)) := ((HN.out.below Hba.out).alloc _).drew
        have N2 : Hid (NIn ((wr.alloc (.cells #[] 3)).alloc (.cells #[.int .i64 xn] 3)).drew l (.slice la l.length lc)) := (((HN.out.below Hba.out).alloc _).alloc _).drew
        have N3 : Hid (NIn ((wr.alloc (.cells #[.int .i64 xn] 3)).alloc (.cells #[] 3)).drew l (.slice la l.length lc)) := (((HN.out.below Hba.out).alloc _).alloc _).drew
        have B1 : Hid (Below wr.heap.size wr (wr.alloc (.cells #[] 3)).drew) := (below_alloc _ _).drew
        have B2 : Hid (Below wr.heap.size wr ((wr.alloc (.cells #[] 3)).alloc (.cells #[.int .i64 xn] 3)).drew) := ((below_alloc _ _).alloc (by simp) _).drew
        have B3 : Hid (Below wr.heap.size wr ((wr.alloc (.cells #[.int .i64 xn] 3)).alloc (.cells #[] 3)).drew) := ((below_alloc _ _).alloc (by simp) _).drew
        have M2 : Hid (∀ wA : World, ((wr.alloc (.cells #[] 3)).alloc (.cells #[.int .i64 xn] 3)).drew.grownBy wA (some wr.heap.size) → NIn wA [xn] (.slice (some ⟨wr.heap.size + 1, 0, none⟩) 1 1)) := fun wA hg => nin_one (by
          rw [hg.block (wr.heap.size + 1) (by simp) (by simp)]
          have := heap_alloc_new (wr.alloc (.cells #[] 3)) (.cells #[.int .i64 xn] 3)
          rw [World.size_alloc] at this
          exact this)
        have M3 : Hid (∀ wA : World, ((wr.alloc (.cells #[.int .i64 xn] 3)).alloc (.cells #[] 3)).drew.grownBy wA (some (wr.heap.size + 1)) → NIn wA [xn] (.slice (some ⟨wr.heap.size, 0, none⟩) 1 1)) := fun wA hg => nin_one (by
          rw [hg.block wr.heap.size (by show wr.heap.size < ((wr.alloc _).alloc _).heap.size; rw [size2]; omega) (by simp)]
          exact (Below.heap_alloc _ _ _ (by simp)).trans (heap_alloc_new wr _))
        go_region_held3 (fun w' => w'.cell? ⟨w.heap.size, 1, none⟩ = some (.int .i64 xn))
          (first
            | exact grow_cell BB _ _ d1
            | exact grow_cell BA _ _ d1
            | go_keep)
          (first
            | (refine step_append_nums (by rfl) _ _ (by rfl) w.heap.size (.slice (some ⟨wr.heap.size, 0, none⟩) 0 0) 0 [] (by rfl) A1.out l (.slice la l.length lc) (by rfl) N1.out hb0 ?hb ?_; (case hb => simp; omega); intro vA wA hoA hgA hatA; obtain ⟨BA, VA, SA⟩ := vars_row B1.out hgA hatA (by simp [Value.ownBlock]); have Q1 : Hid True := trivial)
            | (refine step_append_nums (by rfl) _ _ (by rfl) w.heap.size (.slice (some ⟨wr.heap.size, 0, none⟩) 0 0) 0 [] (by rfl) A2.out l (.slice la l.length lc) (by rfl) N2.out hb0 ?hb ?_; (case hb => simp; omega); intro vA wA hoA hgA hatA; obtain ⟨BA, VA, SA⟩ := vars_row B2.out hgA hatA (by simp [Value.ownBlock]); have Q2 := hide (M2.out wA hgA))
            | (refine step_append_nums (by rfl) _ _ (by rfl) w.heap.size (.slice (some ⟨wr.heap.size + 1, 0, none⟩) 0 0) 0 [] (by rfl) A3.out l (.slice la l.length lc) (by rfl) N3.out hb0 ?hb ?_; (case hb => simp; omega); intro vA wA hoA hgA hatA; obtain ⟨BA, VA, SA⟩ := vars_row B3.out hgA hatA (by simp [Value.ownBlock]); have Q3 := hide (M3.out wA hgA))
            | (refine step_append_nums (by rfl) _ _ (by rfl) w.heap.size vA (0 + l.length) ([] ++ vals l) (by rfl) ?own [xn] (.slice (some ⟨wA.heap.size, 0, none⟩) 1 1) (by rfl) ?nin hb1 ?hb ?_; (case own => exact owns_keep hoA (fun g hg => Below.heap_alloc _ _ _ (owns_at hoA g hg).2)); (case nin => exact nin_one (heap_alloc_new wA _)); (case hb => simp; omega); intro vB wB hoB hgB hatB; have BB := vars_row2 ((BA.alloc BA.size _)) hgB VA)
            | (refine step_append_nums (by rfl) _ _ (by rfl) w.heap.size vA (0 + l.length) ([] ++ vals l) (by rfl) hoA [xn] _ (by rfl) Q2.out hb1 ?hb ?_; (case hb => omega); intro vB wB hoB hgB hatB; have BB := vars_row2 BA hgB VA)
            | (refine step_append_nums (by rfl) _ _ (by rfl) w.heap.size vA (0 + l.length) ([] ++ vals l) (by rfl) hoA [xn] _ (by rfl) Q3.out hb1 ?hb ?_; (case hb => omega); intro vB wB hoB hgB hatB; have BB := vars_row2 BA hgB VA))
        all_goals
          have HoB := hide (own_nin (p := l ++ [xn]) (by simpa using hoB))
          have HBB := hide (below_step Hba.out BB)
          obtain ⟨y1, y3, rfl⟩ := nin_slice HoB.out
          clear hoA hoB hgA hgB hatA hatB BA BB VA SA
          go_wp2_with fail
          go_ret
          have e := Hfin.out
          subst e
          exact ⟨_, rfl, HoB.out, HBB.out⟩
end Go.Proofs.Ytiilckjnggeeoad

namespace Go.Proofs.Ytiilckjnggeeoad
open Go.RowKit Go.Deep Go.ChangeShapes Go.WideShapes
abbrev Lt := Bool × Tm × Tm
abbrev Cl := List Lt
structure GL (l : Lt) : Prop where
  gl : Gd l.2.1
  gr : Gd l.2.2
  fl : ∀ m, occT m l.2.1 → m ≤ 4
  fr : ∀ m, occT m l.2.2 → m ≤ 4
  sl : tszR l.2.1.2 ≤ 12
  sr : tszR l.2.2.2 ≤ 12
def GC (c : Cl) : Prop := c.length ≤ 4 ∧ ∀ l ∈ c, GL l
end Go.Proofs.Ytiilckjnggeeoad

namespace Go.Proofs.Ytiilckjnggeeoad
open Go.RowKit Go.Deep Go.ChangeShapes Go.WideShapes
attribute [local go_sem ↓] Go.wp_at_zero Go.wp_at_succ
set_option maxRecDepth 100000 in
set_option maxHeartbeats 400000 in
theorem variable_any (n : Int) (w : World) : Calls Try.prog 87 #[.int .i64 n] w fun e w' => ∃ a, e = .returned (.agg #[.bool (vr n).1.1, .int .i64 (vr n).1.2, a]) ∧ OwnV w' w.heap.size w'.heap.size (vr n).2 a ∧ Below w.heap.size w w' := by
  go_enter Try.func87, Try.ntmps87
  go_wp2_with fail
  refine bodyPost_ret (v := .agg #[.bool true, .int .i64 n, .slice none 0 0]) (by simp [results, Try.results87, go_sem]) rfl ⟨_, rfl, .inl ⟨rfl, rfl⟩, ?_⟩
  exact below_alloc _ _
def RepRel (g : Nat) (W2 : World) (k : Fo) (j : Nat) (wr : World) : Prop :=
  Below g W2 wr ∧ There wr g (Fo.len k * 3) ∧ WIn wr (Fo.take j k) g 0 (g + 1) wr.heap.size ∧ g + 1 ≤ wr.heap.size
theorem rep_step {g : Nat} {W2 wr w2 : World} {k : Fo} {j : Nat} {yv : Bool} {yn : Int} {yk : Fo} {ob : Obj} {a : Value} (h : RepRel g W2 k j wr) (hj : j < Fo.len k) (hy : k.list[j]? = some ((yv, yn), yk))
    (hb : Below (wr.heap.size + 1) (wr.alloc ob) w2) (hO : OwnV w2 (wr.heap.size + 1) w2.heap.size yk a) :
    RepRel g W2 k (j + 1) (set3 w2 g (j * 3) (.bool yv) (.int .i64 yn) a) := by
  obtain ⟨hB, hT, hW, hs⟩ := h
  have hsz : wr.heap.size + 1 ≤ w2.heap.size := by have := hb.size; simpa using this
  have keep : ∀ q i, q < wr.heap.size → w2.cell? ⟨q, i, none⟩ = wr.cell? ⟨q, i, none⟩ ∧ w2.frozen? ⟨q, i, none⟩ = wr.frozen? ⟨q, i, none⟩ := fun q i hq => by
    rw [hb.cell (by show q < _; omega), hb.frozen (by show q < _; omega)]
    exact ⟨World.cell?_alloc_lt _ _ _ hq, (below_alloc wr ob).frozen (p := ⟨q, i, none⟩) hq⟩
  have hT2 : There w2 g (Fo.len k * 3) := fun i hi => by
    obtain ⟨⟨v, hv⟩, hf⟩ := hT i hi
    have := keep g i (by omega)
    exact ⟨⟨v, this.1.trans hv⟩, this.2.trans hf⟩
  obtain ⟨⟨u0, e0⟩, f0⟩ := hT2 (j * 3) (by omega)
  obtain ⟨⟨u1, e1⟩, f1⟩ := hT2 (j * 3 + 1) (by omega)
  obtain ⟨⟨u2, e2⟩, f2⟩ := hT2 (j * 3 + 2) (by omega)
  obtain ⟨g0, g1, g2⟩ := set3_cells (x := .bool yv) (y := .int .i64 yn) (z := a) e0 e1 e2
  refine ⟨set3_below (hB.trans ((below_box (hb.mono (by simp))).mono (by omega))) (Nat.le_refl _), ?_, ?_, by rw [set3_size]; omega⟩
  · intro i hi
    obtain ⟨⟨v, hv⟩, hf⟩ := hT2 i hi
    refine ⟨?_, by rw [set3_frozen]; exact hf⟩
    by_cases hc : i < j * 3 ∨ j * 3 + 3 ≤ i
    · exact ⟨v, by rw [set3_other (.inr hc)]; exact hv⟩
    · have : i = j * 3 ∨ i = j * 3 + 1 ∨ i = j * 3 + 2 := by omega
      rcases this with rfl | rfl | rfl
      · exact ⟨_, g0⟩
      · exact ⟨_, g1⟩
      · exact ⟨_, g2⟩
  · rw [set3_size]
    have e : j * 3 = 0 + 3 * j := by omega
    refine WIn.snoc (mid := wr.heap.size) (a := a) hy (hW.frame ?_ ?_) hs (by omega) (by rw [← e]; exact g0) (by rw [← e]; exact g1) (by rw [← e]; exact g2) (by rw [set3_frozen, ← e]; exact f0) (by rw [set3_frozen, ← e]; exact f1) (by rw [set3_frozen, ← e]; exact f2) ?_
    · intro i _ hi
      rw [take_len j k (by omega)] at hi
      rw [set3_other (.inr (.inl (by omega))), set3_frozen]
      exact keep _ _ (by omega)
    · intro q i q1 q2
      rw [set3_other (.inl (by omega)), set3_frozen]
      exact keep _ _ q2
    · refine (hO.mono (by omega) (Nat.le_refl _)).frame ?_
      intro q i q1 q2
      rw [set3_other (.inl (by omega)), set3_frozen]
      exact ⟨rfl, rfl⟩
theorem rep_start (W2 : World) (k : Fo) (z : Array Value) : RepRel W2.heap.size W2 k 0 (W2.alloc (.cells (madeCells z (Fo.len k * 3)) 33)) := by
  refine ⟨(Below.refl _ _).alloc (Nat.le_refl _) _, fun i hi => ⟨?_, frozen_new _ _ _ _⟩, trivial, by simp⟩
  rw [World.cell?_alloc_new]
  exact ⟨_, Array.getElem?_eq_getElem (by rw [size_madeCells]; exact hi)⟩
theorem rep_end {lo g : Nat} {W2 wr w' : World} {k : Fo} (h : RepRel g W2 k (Fo.len k) wr) (h0 : 0 < Fo.len k) (h1 : Fo.len k ≤ 1000) (hlo : lo ≤ g) (hs : w'.heap.size = wr.heap.size)
    (hc : ∀ q i, g ≤ q → w'.cell? ⟨q, i, none⟩ = wr.cell? ⟨q, i, none⟩ ∧ w'.frozen? ⟨q, i, none⟩ = wr.frozen? ⟨q, i, none⟩) :
    OwnV w' lo w'.heap.size k (.slice (some ⟨g, 0, none⟩) (Fo.len k) (Fo.len k)) := by
  obtain ⟨_, _, hW, hsz⟩ := h
  rw [take_all] at hW
  rw [hs]
  exact .inr ⟨g, hlo, by omega, h0, h1, rfl, hW.frame (fun i _ _ => hc _ _ (by omega)) (fun q i q1 q2 => hc _ _ (by omega))⟩
end Go.Proofs.Ytiilckjnggeeoad
