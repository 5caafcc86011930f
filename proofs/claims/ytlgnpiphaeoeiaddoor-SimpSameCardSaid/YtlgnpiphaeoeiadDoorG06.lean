/- RRow RPut RNums RVars ROrd CP -/
import Derived.Test.YtlgnpiphaeoeiadDoorG05
import Derived.Deep.RegionWith
import Derived.Deep.RegionHeld3
namespace Go.Proofs.YtlgnpiphaeoeiadDoor
open Go.RowKit Go.Deep Go.ChangeShapes Go.WideShapes
def Rm (B : Nat) (X : Nat → Prop) (w : World) (v : Value) : Nat → Prop := fun q => X q ∨ (B + 1 ≤ q ∧ q < w.heap.size ∧ some q ≠ v.ownBlock)
theorem row_step {B : Nat} {X : Nat → Prop} {wr w1 w3 : World} {acc : Fo} {v v' : Value} {x : Bool × Int} {k : Fo} {a : Value} {g cap : Nat} {xs : List Value} {ob : Obj}
    (h1 : wr.ownsRow (B + 1) 37 3 v (Fo.len acc) xs) (h2 : CellsOf (Rm B X wr v) wr acc xs) (hX : ∀ q, X q → q < B) (hBl : B < wr.heap.size) (hBc : ∃ u, wr.cell? ⟨B, 2, none⟩ = some u)
    (hsz : wr.heap.size ≤ w1.heap.size) (hb : ∀ q, X q ∨ B ≤ q → q < wr.heap.size → w1.heap[q]? = wr.heap[q]?) (hk : SB (fun q => X q ∨ (wr.heap.size ≤ q ∧ q < w1.heap.size)) w1 k a)
    (hv' : v' = .slice (some ⟨g, 0, none⟩) (Fo.len acc + 1) cap) (ho : w3.ownsRow (B + 1) 37 3 v' (Fo.len acc + 1) (xs ++ [.bool x.1, .int .i64 x.2, a])) (hg : (w1.alloc ob).grownBy w3 v.ownBlock)
    (hat : v.ownBlock = some g ∨ g = w1.heap.size + 1) (hlt : g < w3.heap.size) :
    (w3.setCell ⟨B, 2, none⟩ v').ownsRow (B + 1) 37 3 v' (Fo.len (Fo.snoc acc x k)) (xs ++ [.bool x.1, .int .i64 x.2, a]) ∧ CellsOf (Rm B X (w3.setCell ⟨B, 2, none⟩ v') v') (w3.setCell ⟨B, 2, none⟩ v') (Fo.snoc acc x k) (xs ++ [.bool x.1, .int .i64 x.2, a]) ∧
    (w3.setCell ⟨B, 2, none⟩ v').cell? ⟨B, 2, none⟩ = some v' ∧ (∀ q, q < w1.heap.size → some q ≠ v.ownBlock → q ≠ B → (w3.setCell ⟨B, 2, none⟩ v').heap[q]? = w1.heap[q]?) ∧
    (∀ i, i ≠ 2 → (w3.setCell ⟨B, 2, none⟩ v').cell? ⟨B, i, none⟩ = wr.cell? ⟨B, i, none⟩) ∧ (∀ i, (w3.setCell ⟨B, 2, none⟩ v').frozen? ⟨B, i, none⟩ = wr.frozen? ⟨B, i, none⟩) ∧ w1.heap.size < (w3.setCell ⟨B, 2, none⟩ v').heap.size := by
  have hs3 := hg.size
  simp at hs3
  have hBo : some B ≠ v.ownBlock := fun e => by have := (owns_at h1 B e.symm).1; omega
  have far : ∀ q, q < w1.heap.size → some q ≠ v.ownBlock → q ≠ B → (w3.setCell ⟨B, 2, none⟩ v').heap[q]? = w1.heap[q]? := fun q hq hn hqB => by
    rw [Below.heap_setCell _ _ _ _ hqB, hg.block q (by simp; omega) hn, Below.heap_alloc _ _ _ hq]
  have farB : w3.heap[B]? = wr.heap[B]? := by rw [hg.block B (by simp; omega) hBo, Below.heap_alloc _ _ _ (by omega), hb B (.inr (Nat.le_refl _)) hBl]
  have hv'g : v'.ownBlock = some g := by rw [hv']; rfl
  have hgB : B + 1 ≤ g := (owns_at ho g hv'g).1
  refine ⟨by rw [snoc_len]; exact ownsRow_setCell_below ho (by simp) _, ?_, ?_, far, ?_, ?_, by rw [World.size_setCell]; omega⟩
  · refine CellsOf.snoc ?_ ?_
    · refine hk.frame (fun q hq => ?_) (fun q i hq => World.cell?_of_block (far q ?_ ?_ ?_))
      · rcases hq with hq | ⟨q1, q2⟩
        · exact .inl hq
        · refine .inr ⟨by omega, by rw [World.size_setCell]; omega, ?_⟩
          rw [hv'g]
          intro e
          simp at e
          subst e
          rcases hat with e | e
          · have := (owns_at h1 _ e).2; omega
          · omega
      · rcases hq with hq | hq
        · have := hX q hq; omega
        · exact hq.2
      · intro e
        have h3 := owns_at h1 _ e.symm
        rcases hq with hq | hq
        · have := hX q hq; omega
        · omega
      · rcases hq with hq | hq
        · have := hX q hq; omega
        · omega
    · refine CellsOf.frame (fun q hq => ?_) (fun q i hq => ?_) h2
      · rcases hq with hq | ⟨q1, q2, q3⟩
        · exact .inl hq
        · refine .inr ⟨q1, by rw [World.size_setCell]; omega, ?_⟩
          rw [hv'g]
          intro e
          simp at e
          subst e
          rcases hat with e | e
          · exact q3 e.symm
          · omega
      · have hq' : q < wr.heap.size ∧ (X q ∨ B ≤ q) ∧ some q ≠ v.ownBlock ∧ q ≠ B := by
          rcases hq with hq | ⟨q1, q2, q3⟩
          · have := hX q hq
            exact ⟨by omega, .inl hq, fun e => by have := (owns_at h1 _ e.symm).1; omega, by omega⟩
          · exact ⟨q2, .inr (by omega), q3, by omega⟩
        exact World.cell?_of_block ((far q (by omega) hq'.2.2.1 hq'.2.2.2).trans (hb q hq'.2.1 hq'.1))
  · obtain ⟨u, hu⟩ := hBc
    exact set_same (u := u) (by rw [World.cell?_of_block farB]; exact hu)
  · intro i hi
    rw [set_other (by intro e; simp only [Addr.mk.injEq] at e; omega)]
    exact World.cell?_of_block farB
  · intro i
    rw [World.frozen?_setCell]
    exact World.frozen?_of_block farB
end Go.Proofs.YtlgnpiphaeoeiadDoor

namespace Go.Proofs.YtlgnpiphaeoeiadDoor
open Go.RowKit Go.Deep Go.ChangeShapes Go.WideShapes
attribute [local go_sem ↓] Go.wp_at_zero Go.wp_at_succ
theorem new_cell {w0 : World} {n i : Nat} {c : Array Value} {t : TypeId} (h : w0.heap.size = n) : (w0.alloc (.cells c t)).cell? ⟨n, i, none⟩ = c[i]? := by subst h; simp
theorem new_frozen {w0 : World} {n i : Nat} {c : Array Value} {t : TypeId} (h : w0.heap.size = n) : (w0.alloc (.cells c t)).frozen? ⟨n, i, none⟩ = false := by subst h; simp
theorem size2 (w : World) (o1 o2 : Obj) : ((w.alloc o1).alloc o2).heap.size = w.heap.size + 2 := by rw [World.size_alloc, World.size_alloc]
theorem out_cell {wa w3 : World} {ob : Obj} {row : Option Nat} {B i : Nat} {u : Value} (hg : (wa.alloc ob).grownBy w3 row) (hB : B < wa.heap.size) (hn : some B ≠ row) (h : wa.cell? ⟨B, i, none⟩ = some u) : w3.cell? ⟨B, i, none⟩ = some u := by
  rw [hg.cell_far ⟨B, i, none⟩ (by simp; omega) hn, World.cell?_alloc_lt _ _ _ hB]; exact h
theorem out_frozen {wa w3 : World} {ob : Obj} {row : Option Nat} {B : Nat} (hg : (wa.alloc ob).grownBy w3 row) (hB : B < wa.heap.size) (hn : some B ≠ row) (h : ∀ i, wa.frozen? ⟨B, i, none⟩ = false) : ∀ i, w3.frozen? ⟨B, i, none⟩ = false := fun i => by
  rw [hg.frozen_far ⟨B, i, none⟩ (by simp; omega) hn, World.frozen?_of_block (Below.heap_alloc wa ob B hB)]; exact h i
end Go.Proofs.YtlgnpiphaeoeiadDoor

namespace Go.Proofs.YtlgnpiphaeoeiadDoor
open Go.RowKit Go.Deep Go.ChangeShapes Go.WideShapes
theorem append_none {w : World} (base : Nat) (ty : TypeId) (i : TypeInfo) (hi : Tryd.prog.info? 3 = some i) (v : Value) (n c : Nat) (xs : List Value) (hown : w.ownsRow base 3 1 v n xs) :
    (Builtin.append_ #[22, 22] ty #[v, .slice none 0 c]).run Tryd.prog w = .ok v w := by
  have ht := Tryd.underlying22
  rcases hown.2 with ⟨rfl, rfl⟩ | ⟨g, cap, cur, rfl, _, _, hnc, _⟩
  · simp [Builtin.append_, run_underlying ht, sizeOf, typeInfo, hi, Builtin.lenOf, Builtin.firstCells]
  · simp [Builtin.append_, run_underlying ht, sizeOf, typeInfo, hi, Builtin.lenOf, Builtin.firstCells, hnc, storeCells]
theorem run_append_nums {w : World} (ty : TypeId) (base : Nat) (v : Value) (n : Nat) (xs : List Value) (hown : w.ownsRow base 3 1 v n xs) (l : List Int) (lv : Value) (hN : NIn w l lv) (hb : (n + l.length) * 8 ≤ 140737488355328) (hbase : base ≤ w.heap.size) :
    ∃ v' w', (Builtin.append_ #[22, 22] ty #[v, lv]).run Tryd.prog w = .ok v' w' ∧ w'.ownsRow base 3 1 v' (n + l.length) (xs ++ vals l) ∧ w.grownBy w' v.ownBlock ∧ (v'.ownBlock = v.ownBlock ∨ v'.ownBlock = some w.heap.size) := by
  obtain ⟨i3, hi3, hy0, hy1, hy2⟩ := info_parts Tryd.info3
  obtain ⟨a, c, b, o, rfl, ha, hlc, hcm, hF⟩ := hN
  cases a with
  | none =>
    have h0 : l = [] := by
      cases l with
      | nil => rfl
      | cons _ _ => have := ha (by simp); cases this
    subst h0
    exact ⟨v, w, append_none base ty i3 hi3 v n c xs hown, by simpa using hown, ⟨rfl, rfl, rfl, Nat.le_refl _, fun _ _ _ => rfl⟩, .inl rfl⟩
  | some ad =>
    obtain ⟨v', w', hr, h2, h3, _, h5⟩ := run_append_own_at (P := Tryd.prog) w base 22 ty 3 i3 (.int .i64 0) 1 8 Tryd.underlying22 hi3 hy0 hy1 hy2 rfl (by decide) v n xs hown ad l.length c (vals l) (by simp) (fun j u hu => by
        have hj : j < l.length := by
          have := (List.getElem?_eq_some_iff.1 hu).1
          simpa using this
        have hae : ad = ⟨b, o, none⟩ := by have := ha (by omega); simpa using this
        have hc := hF j hj
        have e : u = .int .i64 (l.getD j 0) := by
          simp [List.getD_eq_getElem?_getD, hj] at hu ⊢
          exact hu.symm
        rw [hae, add_plain, e]
        exact hc) (ints_oneCell _ _) (by unfold maxLen; omega) hb hbase
    exact ⟨v', w', hr, h2, h3, h5⟩
theorem wp_append_nums {w : World} {o : Oper} {a : Act} {K : Act → World → Prop} {Q : Exit → Act → World → Prop} (s x : Operand)
    (ho : o.op = .call { callee := .builtin .append, args := #[s, x], argTypes := #[22, 22] }) (base : Nat) (v : Value) (n : Nat) (xs : List Value) (hs : a.eval s = v) (hown : w.ownsRow base 3 1 v n xs) (l : List Int) (lv : Value) (hx : a.eval x = lv) (hN : NIn w l lv) (hb : (n + l.length) * 8 ≤ 140737488355328) (hbase : base ≤ w.heap.size)
    (h : ∀ v' w', w'.ownsRow base 3 1 v' (n + l.length) (xs ++ vals l) → w.grownBy w' v.ownBlock → (v'.ownBlock = v.ownBlock ∨ v'.ownBlock = some w.heap.size) → K (a.put o.dst v') w') : o.wp Tryd.prog a w K Q := by
  obtain ⟨v', w', hr, h2, h3, h4⟩ := run_append_nums o.type base v n xs hown l lv hN hb hbase
  unfold Oper.wp execOp
  simp only [ho, resolve, invoke, builtin, Sem.run_bind, Sem.run_pure, Result.andThen_ok, List.map_toArray, List.map_cons, List.map_nil, hs, hx, hr]
  exact h v' w' h2 h3 h4
theorem step_append_nums {w : World} {ops : Array Oper} {o : Oper} {a : Act} {K : Act → World → Prop} {Q : Exit → Act → World → Prop} {E : Prop} (hgd : o.guard = none) (s x : Operand)
    (ho : o.op = .call { callee := .builtin .append, args := #[s, x], argTypes := #[22, 22] }) (base : Nat) (v : Value) (n : Nat) (xs : List Value) (hs : a.eval s = v) (hown : w.ownsRow base 3 1 v n xs) (l : List Int) (lv : Value) (hx : a.eval x = lv) (hN : NIn w l lv) (hb : (n + l.length) * 8 ≤ 140737488355328) (hbase : base ≤ w.heap.size)
    (h : ∀ v' w', w'.ownsRow base 3 1 v' (n + l.length) (xs ++ vals l) → w.grownBy w' v.ownBlock → (v'.ownBlock = v.ownBlock ∨ v'.ownBlock = some w.heap.size) → K (a.put o.dst v') w') :
    if Region.wanted o (yielded ops a.tmps) = true then Oper.wp Tryd.prog o a w K Q else E := by
  have hw : Region.wanted o (yielded ops a.tmps) = true := by simp [Region.wanted, hgd]
  rw [if_pos hw]
  exact wp_append_nums s x ho base v n xs hs hown l lv hx hN hb hbase h
theorem own_empty {w : World} {base e : Nat} (h : w.heap[e]? = some (.cells #[] 3)) (hb : base ≤ e) : w.ownsRow base 3 1 (.slice (some ⟨e, 0, none⟩) 0 0) 0 [] :=
  ⟨rfl, .inr ⟨e, 0, #[], rfl, hb, h, Nat.le_refl _, Nat.zero_le _, rfl, rfl⟩⟩
theorem nin_one {w : World} {e : Nat} {n : Int} (h : w.heap[e]? = some (.cells #[.int .i64 n] 3)) : NIn w [n] (.slice (some ⟨e, 0, none⟩) 1 1) := by
  refine ⟨_, 1, e, 0, rfl, fun _ => rfl, Nat.le_refl _, by unfold maxLen; omega, fun i hi => ?_⟩
  have : i = 0 := by simpa using hi
  subst this
  simp [World.cell?, h]
end Go.Proofs.YtlgnpiphaeoeiadDoor

namespace Go.Proofs.YtlgnpiphaeoeiadDoor
open Go.RowKit Go.Deep Go.ChangeShapes Go.WideShapes
attribute [local go_sem ↓] Go.wp_at_zero Go.wp_at_succ
theorem nin_slice {w : World} {l : List Int} {v : Value} (h : NIn w l v) : ∃ z1 z3, v = .slice z1 l.length z3 := by
  obtain ⟨_, _, _, _, rfl, _⟩ := h
  exact ⟨_, _, rfl⟩
theorem vars_row {wr w1 wA : World} {v v' : Value} (hb : Below wr.heap.size wr w1) (hg : w1.grownBy wA v.ownBlock) (hat : v'.ownBlock = v.ownBlock ∨ v'.ownBlock = some w1.heap.size) (hv : ∀ g, v.ownBlock = some g → wr.heap.size ≤ g) :
    Below wr.heap.size wr wA ∧ (∀ g, v'.ownBlock = some g → wr.heap.size ≤ g) ∧ wr.heap.size ≤ wA.heap.size := by
  have h1 := hb.size
  have h2 := hg.size
  refine ⟨hb.grown hg h1 hv, fun g hgg => ?_, by omega⟩
  rcases hat with e | e
  · exact hv g (by rw [← e]; exact hgg)
  · rw [e] at hgg; simp at hgg; omega
theorem vars_row2 {wr w1 wA : World} {v : Value} (hb : Below wr.heap.size wr w1) (hg : w1.grownBy wA v.ownBlock) (hv : ∀ g, v.ownBlock = some g → wr.heap.size ≤ g) : Below wr.heap.size wr wA := hb.grown hg hb.size hv
def VarsRSaid (x : Bool × Int) (k : Fo) : Prop := ∀ (a : Value) (l : List Int) (v : Value) (w : World) (T : List Int), T = varsT x k l → SIn w k a → NIn w l v → T.length * 8 ≤ 140737488355328 →
    Calls Tryd.prog 28 #[v, .agg #[.bool x.1, .int .i64 x.2, a]] w fun e w' => ∃ v', e = .returned v' ∧ NIn w' T v' ∧ Below w.heap.size w w'
set_option maxHeartbeats 1000000 in
set_option maxRecDepth 100000 in
theorem varsR_few (x : Bool × Int) (k : Fo) : VarsRSaid x k := by
  refine Fo.ind1 (p := VarsRSaid) ?_ x k
  clear x k
  intro x k ih a l v w T hT hS hN hlen
  obtain ⟨xv, xn⟩ := x
  have HI := hide ih
  have HT := hide hT
  have HN := hide hN
  obtain ⟨ad, c, b, o, rfl, had, hlc, hcm, hF⟩ := hS
  have HF := hide hF
  unfold maxLen at hcm
  clear ih hF hT
  cases xv
  · have Htt : Hid (varsT (false, xn) k l = varsF k l) := rfl
    obtain ⟨za, zc, rfl⟩ := nin_slice hN
    clear hN
    go_enter Tryd.func28, Tryd.ntmps28
    go_wp2_with fail
    go_loopw [0, 15] (fun vl i wr => ∃ (j : Nat) (L : List Int) (z1 : Option Addr) (z3 : Nat), j ≤ Fo.len k ∧ i = .int .i64 j ∧ vl = .slice z1 L.length z3 ∧ L = vsTo k l j ∧ Below w.heap.size w wr ∧ NIn wr L (.slice z1 L.length z3)) (fun _ i _ => Fo.len k - (intOf i).toNat)
    case atStart => exact ⟨0, l, za, zc, Nat.zero_le _, rfl, rfl, rfl, below_alloc _ _, HN.out.alloc _⟩
    case round =>
      obtain ⟨j, L, z1, z3, hj, rfl, rfl, hL, hBr, hor⟩ := hrel
      have HL := hide hL
      have Hor := hide hor
      clear hL hor
      by_cases hlt : j < Fo.len k
      · have hlt' : (j : Int) < (Fo.len k : Int) := by omega
        obtain ⟨⟨⟨yv, yn⟩, yk⟩, hy⟩ : ∃ y, k.list[j]? = some y := ⟨k.list[j]'(by rw [Fo.len_list]; exact hlt), by simp⟩
        obtain ⟨c0, c1, yv', c2, hSy⟩ := (HF.out.below hBr).at hy
        have HSy := hide hSy
        obtain ⟨ya, yc, yb, yo, rfl, -, -, -, -⟩ := hSy
        have ha : ad = some ⟨b, o, none⟩ := had (by omega)
        subst ha
        have Hy := hide hy
        obtain ⟨Tn, hTn⟩ : ∃ Tn, Tn = varsT (yv, yn) yk L := ⟨_, rfl⟩
        have HTn := hide hTn
        have Hbd : Hid (Tn.length * 8 ≤ 140737488355328) := by
          have h1 := varsF_take (j + 1) k l
          have h2 : Tn = vsTo k l (j + 1) := by rw [hTn, vsTo_succ Hy.out, HL.out]
          have h3 : T = varsF k l := HT.out.trans Htt.out
          rw [Hid, h2, vsTo]
          rw [h3] at hlen
          omega
        clear hy had hTn
        go_wp2_with fail
        refine (HI.out ((yv, yn), yk) (List.mem_of_getElem? Hy.out) _ L _ _ Tn HTn.out (HSy.out.alloc _) (Hor.out.alloc _) Hbd.out).mono ?_
        rintro e w2 ⟨vl', rfl, ho2, hb2⟩
        obtain ⟨y1, y3, rfl⟩ := nin_slice ho2
        have Ho2 := hide ho2
        have hB2 := below_step hBr (below_box hb2)
        clear ho2 hb2
        go_wp2_with fail
        go_roundw
        case rel => exact ⟨j + 1, Tn, y1, y3, by omega, by go_num, rfl, by rw [HTn.out, vsTo_succ Hy.out, HL.out], hB2, Ho2.out⟩
        case measure => simp [intOf]; omega
      · have Hfin : Hid (T = L) := by
          have e : j = Fo.len k := by omega
          rw [Hid, HT.out, Htt.out, HL.out, e, vsTo_end]
        clear had
        go_wp2_with fail
        go_ret
        have e := Hfin.out
        subst e
        exact ⟨_, rfl, Hor.out, hBr⟩
  · have Htt : Hid (varsT (true, xn) k l = if hasB l xn then l else l ++ [xn]) := rfl
    obtain ⟨la, lc, lb, lo, rfl, hla, hllc, hlcm, hlF⟩ := hN
    have HlF := hide hlF
    unfold maxLen at hlcm
    clear hlF
    go_enter Tryd.func28, Tryd.ntmps28
    go_wp2_with fail
    generalize hwa : w.alloc (.cells #[.bool true, .int .i64 xn, .slice ad (Fo.len k) c] 37) = wa
    have d1 : wa.cell? ⟨w.heap.size, 1, none⟩ = some (.int .i64 xn) := by rw [← hwa]; simp
    have Hba : Hid (Below w.heap.size w wa) := by rw [← hwa]; exact below_alloc _ _
    have hsa : w.heap.size < wa.heap.size := by rw [← hwa]; simp
    clear hwa
    go_loopw [26] (fun i wr => ∃ j : Nat, j ≤ l.length ∧ i = .int .i64 j ∧ (∀ q, q < j → l.getD q 0 ≠ xn) ∧ wr = wa) (fun i _ => l.length - (intOf i).toNat)
    case atStart => exact ⟨0, Nat.zero_le _, rfl, fun q hq => by omega, rfl⟩
    case round =>
      obtain ⟨j, hj, rfl, hno, rfl⟩ := hrel
      have Hno := hide hno
      clear hno
      by_cases hlt : j < l.length
      · have hlt' : (j : Int) < (l.length : Int) := by omega
        have hc := grow_cell Hba.out _ _ (HlF.out j hlt)
        have Hmem : Hid (l.getD j 0 ∈ l) := by
          rw [Hid, List.getD_eq_getElem?_getD, List.getElem?_eq_getElem hlt]; simp
        have ha : la = some ⟨lb, lo, none⟩ := hla (by omega)
        subst ha
        have Hnx : Hid (l.getD j 0 ≠ xn → ∀ q, q < j + 1 → l.getD q 0 ≠ xn) := fun h q hq => by
          by_cases e : q = j
          · rw [e]; exact h
          · exact Hno.out q (by omega)
        generalize l.getD j 0 = z at *
        by_cases he : z = xn
        · have heb : (z == xn) = true := by simp [he]
          have Hfin : Hid (T = l) := by
            rw [Hid, HT.out, Htt.out, if_pos]
            rw [hasB, ← he]; exact decide_eq_true Hmem.out
          clear he hla
          go_wp2_with fail
          go_ret
          have e := Hfin.out
          subst e
          exact ⟨_, rfl, HN.out.below Hba.out, Hba.out⟩
        · have heb : (z == xn) = false := by simp [he]
          have Hn := hide (Hnx.out he)
          clear he hla
          go_wp2_with fail
          go_roundw
          case rel => exact ⟨j + 1, by omega, by go_num, Hn.out, trivial⟩
          case measure => simp [intOf]; omega
      · have Hfin : Hid (T = l ++ [xn]) := by
          have : xn ∉ l := fun h => by
            obtain ⟨q, hq, e⟩ := List.mem_iff_getElem.1 h
            exact Hno.out q (by omega) (by rw [List.getD_eq_getElem?_getD, List.getElem?_eq_getElem hq]; exact e)
          rw [Hid, HT.out, Htt.out, if_neg]
          rw [hasB, decide_eq_false this]; simp
        clear hla
        go_wp2_with fail
        have hTl : T.length = l.length + 1 := by rw [Hfin.out]; simp
        have hb0 : (0 + l.length) * 8 ≤ 140737488355328 := by omega
        have hb1 : (0 + l.length + [xn].length) * 8 ≤ 140737488355328 := by simp; omega
        clear hTl
        have hsw : w.heap.size ≤ wr.heap.size := by omega
        have A1 : Hid ((wr.alloc (.cells #[] 3)).drew.ownsRow w.heap.size 3 1 (.slice (some ⟨wr.heap.size, 0, none⟩) 0 0) 0 []) := own_empty (heap_alloc_new wr _) hsw
        have A2 : Hid (((wr.alloc (.cells #[] 3)).alloc (.cells #[.int .i64 xn] 3)).drew.ownsRow w.heap.size 3 1 (.slice (some ⟨wr.heap.size, 0, none⟩) 0 0) 0 []) := own_empty ((Below.heap_alloc _ _ _ (by simp)).trans (heap_alloc_new wr _)) hsw
        have A3 : Hid (((wr.alloc (.cells #[.int .i64 xn] 3)).alloc (.cells #[] 3)).drew.ownsRow w.heap.size 3 1 (.slice (some ⟨wr.heap.size + 1, 0, none⟩) 0 0) 0 []) := own_empty (by have := heap_alloc_new (wr.alloc (.cells #[.int .i64 xn] 3)) (.cells #[] 3); rw [World.size_alloc] at this; exact this) (by omega)
        have N1 : Hid (NIn (wr.alloc (.cells #[] 3)).drew l (.slice la l.length lc)) := ((HN.out.below Hba.out).alloc _).drew
        have N2 : Hid (NIn ((wr.alloc (.cells #[] 3)).alloc (.cells #[.int .i64 xn] 3)).drew l (.slice la l.length lc)) := (((HN.out.below Hba.out).alloc _).alloc _).drew
        have N3 : Hid (NIn ((wr.alloc (.cells #[.int .i64 xn] 3)).alloc (.cells #[] 3)).drew l (.slice la l.length lc)) := (((HN.out.below Hba.out).alloc _).alloc _).drew
        have B1 : Hid (Below wr.heap.size wr (wr.alloc (.cells #[] 3)).drew) := (below_alloc _ _).drew
        have B2 : Hid (Below wr.heap.size wr ((wr.alloc (.cells #[] 3)).alloc (.cells #[.int .i64 xn] 3)).drew) := ((below_alloc _ _).alloc (by simp) _).drew
        have B3 : Hid (Below wr.heap.size wr ((wr.alloc (.cells #[.int .i64 xn] 3)).alloc (.cells #[] 3)).drew) := ((below_alloc _ _).alloc (by simp) _).drew
        have M2 : Hid (∀ wA : World, ((wr.alloc (.cells #[] 3)).alloc (.cells #[.int .i64 xn] 3)).drew.grownBy wA (some wr.heap.size) → NIn wA [xn] (.slice (some ⟨wr.heap.size + 1, 0, none⟩) 1 1)) := fun wA hg => nin_one (by
          rw [hg.block (wr.heap.size + 1) (by simp) (by simp)]
          have := heap_alloc_new (wr.alloc (.cells #[] 3)) (.cells #[.int .i64 xn] 3)
          rw [World.size_alloc] at this
          exact this)
        have M3 : Hid (∀ wA : World, ((wr.alloc (.cells #[.int .i64 xn] 3)).alloc (.cells #[] 3)).drew.grownBy wA (some (wr.heap.size + 1)) → NIn wA [xn] (.slice (some ⟨wr.heap.size, 0, none⟩) 1 1)) := fun wA hg => nin_one (by
          rw [hg.block wr.heap.size (by show wr.heap.size < ((wr.alloc _).alloc _).heap.size; rw [size2]; omega) (by simp)]
          exact (Below.heap_alloc _ _ _ (by simp)).trans (heap_alloc_new wr _))
        go_region_held3 (fun w' => w'.cell? ⟨w.heap.size, 1, none⟩ = some (.int .i64 xn))
          (first
            | exact grow_cell BB _ _ d1
            | exact grow_cell BA _ _ d1
            | go_keep)
          (first
            | (refine step_append_nums (by rfl) _ _ (by rfl) w.heap.size (.slice (some ⟨wr.heap.size, 0, none⟩) 0 0) 0 [] (by rfl) A1.out l (.slice la l.length lc) (by rfl) N1.out hb0 ?hb ?_; (case hb => simp; omega); intro vA wA hoA hgA hatA; obtain ⟨BA, VA, SA⟩ := vars_row B1.out hgA hatA (by simp [Value.ownBlock]); have Q1 : Hid True := trivial)
            | (refine step_append_nums (by rfl) _ _ (by rfl) w.heap.size (.slice (some ⟨wr.heap.size, 0, none⟩) 0 0) 0 [] (by rfl) A2.out l (.slice la l.length lc) (by rfl) N2.out hb0 ?hb ?_; (case hb => simp; omega); intro vA wA hoA hgA hatA; obtain ⟨BA, VA, SA⟩ := vars_row B2.out hgA hatA (by simp [Value.ownBlock]); have Q2 := hide (M2.out wA hgA))
            | (refine step_append_nums (by rfl) _ _ (by rfl) w.heap.size (.slice (some ⟨wr.heap.size + 1, 0, none⟩) 0 0) 0 [] (by rfl) A3.out l (.slice la l.length lc) (by rfl) N3.out hb0 ?hb ?_; (case hb => simp; omega); intro vA wA hoA hgA hatA; obtain ⟨BA, VA, SA⟩ := vars_row B3.out hgA hatA (by simp [Value.ownBlock]); have Q3 := hide (M3.out wA hgA))
            | (refine step_append_nums (by rfl) _ _ (by rfl) w.heap.size vA (0 + l.length) ([] ++ vals l) (by rfl) ?own [xn] (.slice (some ⟨wA.heap.size, 0, none⟩) 1 1) (by rfl) ?nin hb1 ?hb ?_; (case own => exact owns_keep hoA (fun g hg => Below.heap_alloc _ _ _ (owns_at hoA g hg).2)); (case nin => exact nin_one (heap_alloc_new wA _)); (case hb => simp; omega); intro vB wB hoB hgB hatB; have BB := vars_row2 ((BA.alloc BA.size _)) hgB VA)
            | (refine step_append_nums (by rfl) _ _ (by rfl) w.heap.size vA (0 + l.length) ([] ++ vals l) (by rfl) hoA [xn] _ (by rfl) Q2.out hb1 ?hb ?_; (case hb => omega); intro vB wB hoB hgB hatB; have BB := vars_row2 BA hgB VA)
            | (refine step_append_nums (by rfl) _ _ (by rfl) w.heap.size vA (0 + l.length) ([] ++ vals l) (by rfl) hoA [xn] _ (by rfl) Q3.out hb1 ?hb ?_; (case hb => omega); intro vB wB hoB hgB hatB; have BB := vars_row2 BA hgB VA))
        all_goals
          have HoB := hide (own_nin (p := l ++ [xn]) (by simpa using hoB))
          have HBB := hide (below_step Hba.out BB)
          obtain ⟨y1, y3, rfl⟩ := nin_slice HoB.out
          clear hoA hoB hgA hgB hatA hatB BA BB VA SA
          go_wp2_with fail
          go_ret
          have e := Hfin.out
          subst e
          exact ⟨_, rfl, HoB.out, HBB.out⟩
theorem varsR_any (x : Bool × Int) (k : Fo) (a : Value) (l : List Int) (v : Value) (w : World) (T : List Int) (hT : T = varsT x k l) (hS : SIn w k a) (hN : NIn w l v) (hlen : (l.length + tszR k) * 8 ≤ 140737488355328) :
    Calls Tryd.prog 28 #[v, .agg #[.bool x.1, .int .i64 x.2, a]] w fun e w' => ∃ v', e = .returned v' ∧ NIn w' T v' ∧ Below w.heap.size w w' :=
  varsR_few x k a l v w T hT hS hN (by have := varsT_len x k l; rw [← hT] at this; omega)
end Go.Proofs.YtlgnpiphaeoeiadDoor

namespace Go.Proofs.YtlgnpiphaeoeiadDoor
open Go.RowKit Go.Deep Go.ChangeShapes Go.WideShapes
attribute [local go_sem ↓] Go.wp_at_zero Go.wp_at_succ
theorem timF_le (v : Int) : ∀ F : Fo, timF v F ≤ Fo.sizesR F
  | .nil => Nat.le_refl _
  | .node _ _ x k r => by
    have h1 := timF_le v k
    have h2 := timF_le v r
    rw [timF, Fo.sizesR]
    split <;> omega
theorem timT_le (v : Int) (t : Tm) : timT v t ≤ szT t := by
  have := timF_le v t.2
  unfold timT szT tszR
  split <;> omega
def tmTo (v : Int) (x : Bool × Int) (k : Fo) (j : Nat) : Nat := (if x.1 = true ∧ x.2 = v then 1 else 0) + ((k.list.take j).map (timT v)).sum
theorem tmTo_zero (v : Int) (x : Bool × Int) (k : Fo) : tmTo v x k 0 = if x.1 = true ∧ x.2 = v then 1 else 0 := by simp [tmTo]
theorem tmTo_succ {v : Int} {x : Bool × Int} {k : Fo} {j : Nat} {t : Tm} (h : k.list[j]? = some t) : tmTo v x k (j + 1) = tmTo v x k j + timT v t := by
  unfold tmTo; rw [List.take_add_one, h]; simp; omega
theorem tmTo_end (v : Int) (x : Bool × Int) (k : Fo) : tmTo v x k (Fo.len k) = timT v (x, k) := by
  show _ = (if x.1 = true ∧ x.2 = v then 1 else 0) + timF v k
  unfold tmTo; rw [← Fo.len_list, List.take_length, timF_list]
def TimRSaid (v : Int) (x : Bool × Int) (k : Fo) : Prop := ∀ (a : Value) (w : World), SIn w k a →
    Calls Tryd.prog 29 #[.int .i64 v, .agg #[.bool x.1, .int .i64 x.2, a]] w fun e w' => e = .returned (.int .i64 (wrap64 (timT v (x, k) : Nat))) ∧ Below w.heap.size w w'
set_option maxRecDepth 100000 in
set_option maxHeartbeats 400000 in
theorem timesR_any (v : Int) (x : Bool × Int) (k : Fo) : TimRSaid v x k := by
  refine Fo.ind1 (p := TimRSaid v) ?_ x k
  clear x k
  intro x k ih a w hS
  obtain ⟨xv, n⟩ := x
  obtain ⟨ad, c, b, o, rfl, had, hlc, hcm, hF⟩ := hS
  have Hl := hide (Fo.len_list k)
  have Hend := hide (tmTo_end v (xv, n) k)
  have H0 : Hid (tmTo v (xv, n) k 0 = if xv = true ∧ n = v then 1 else 0) := tmTo_zero v (xv, n) k
  have HI := hide ih
  clear ih
  unfold maxLen at hcm
  go_enter Tryd.func29, Tryd.ntmps29
  go_upto_region 2 with fail
  generalize hW1 : w.alloc (.cells #[.bool xv, .int .i64 n, .slice ad (Fo.len k) c] 37) = W1
  have hB1 : Below w.heap.size w W1 := by rw [← hW1]; exact below_alloc _ _
  have q0 : W1.cell? ⟨w.heap.size, 0, none⟩ = some (.bool xv) := by rw [← hW1]; exact new_cell rfl
  have q1 : W1.cell? ⟨w.heap.size, 1, none⟩ = some (.int .i64 n) := by rw [← hW1]; exact new_cell rfl
  have q2 : W1.cell? ⟨w.heap.size, 2, none⟩ = some (.slice ad (Fo.len k) c) := by rw [← hW1]; exact new_cell rfl
  clear hW1
  go_cut [15] (fun s15 wx => s15 = .bool (xv && (n == v)) ∧ W1 = wx)
  case first =>
    cases xv
    · go_wp2_with fail
      go_meet
      case rel => exact ⟨rfl, rfl⟩
    · go_wp2_with fail
      go_meet
      case rel => exact ⟨rfl, rfl⟩
  case rest =>
    obtain ⟨rfl, rfl⟩ := hcut
    go_upto_if 15 with fail
    go_cut [5] (fun s5 wx => s5 = .int .i64 (wrap64 (tmTo v (xv, n) k 0 : Nat)) ∧ W1 = wx)
    case first =>
      cases hb : (xv && (n == v))
      · have h0 : tmTo v (xv, n) k 0 = 0 := by rw [H0.out, if_neg (by simpa using hb)]
        have H1 := hide h0
        clear hb h0
        go_wp2_with fail
        go_meet
        case rel => exact ⟨by rw [H1.out]; simp [wrap64], rfl⟩
      · have h0 : tmTo v (xv, n) k 0 = 1 := by rw [H0.out, if_pos (by simpa using hb)]
        have H1 := hide h0
        clear hb h0
        go_wp2_with fail
        go_meet
        case rel => exact ⟨by rw [H1.out, wrap64_one], rfl⟩
    case rest =>
      obtain ⟨rfl, rfl⟩ := hcut
      have HF := hide hF
      clear q0 q1 hF
      go_wp2_with fail
      go_loopw [5, 19] (fun s i wr => ∃ j : Nat, j ≤ Fo.len k ∧ i = .int .i64 j ∧ s = .int .i64 (wrap64 (tmTo v (xv, n) k j : Nat)) ∧ Below W1.heap.size W1 wr) (fun _ i _ => Fo.len k - (intOf i).toNat)
      case atStart => exact ⟨0, Nat.zero_le _, rfl, rfl, Below.refl _ _⟩
      case round =>
        obtain ⟨j, hj, rfl, rfl, hBx⟩ := hrel
        have hBr := below_step hB1 hBx
        by_cases hlt : j < Fo.len k
        · have hlt' : (j : Int) < (Fo.len k : Int) := by omega
          obtain ⟨⟨⟨yv, yn⟩, yk⟩, hy⟩ : ∃ y, k.list[j]? = some y := ⟨k.list[j]'(by rw [Hl.out]; exact hlt), by simp⟩
          obtain ⟨c0, c1, yv', c2, hSy⟩ := (HF.out.below hBr).at hy
          have ha : ad = some ⟨b, o, none⟩ := had (by omega)
          subst ha
          have HS := hide hSy
          obtain ⟨ya, yc, yb, yo, rfl, -, -, -, -⟩ := hSy
          have Hy := hide hy
          clear hy had
          go_wp2_with fail
          refine (HI.out ((yv, yn), yk) (List.mem_of_getElem? Hy.out) _ _ (HS.out.alloc _)).mono ?_
          rintro e w2 ⟨rfl, hb2⟩
          have hB2 := below_step hBx (below_box hb2)
          clear hb2
          go_wp2_with fail
          go_roundw
          case rel => exact ⟨j + 1, by omega, by go_num, by rw [tmTo_succ Hy.out, wrap64_add, Int.natCast_add], hB2⟩
          case measure => simp [intOf]; omega
        · have hje : j = Fo.len k := by omega
          have Hj := hide hje
          clear hje had
          go_wp2_with fail
          go_ret
          refine ⟨?_, hBr⟩
          rw [← Hend.out, ← Hj.out]; rfl
theorem times_call {wn : World} {x : Bool × Int} {k : Fo} {a : Value} (hS : SIn wn k a) (hb : tszR k ≤ 4000000000000) (v : Int) (w' : World) (h : Below wn.heap.size wn w') :
    Calls Tryd.prog 29 #[.int .i64 v, .agg #[.bool x.1, .int .i64 x.2, a]] w' fun e w'' => e = .returned (.int .i64 (timT v (x, k) : Nat)) ∧ Below w'.heap.size w' w'' := by
  refine (timesR_any v x k a w' (hS.below h)).mono ?_
  have h1 : timT v (x, k) ≤ tszR k := timT_le v (x, k)
  rw [wrap64_small (by omega) (by omega)]
  exact fun e w'' h => h
theorem size_call {wn : World} {x : Bool × Int} {k : Fo} {a : Value} (hS : SIn wn k a) (hb : tszR k ≤ 4000000000000) (w' : World) (h : Below wn.heap.size wn w') :
    Calls Tryd.prog 13 #[.agg #[.bool x.1, .int .i64 x.2, a]] w' fun e w'' => e = .returned (.int .i64 (tszR k : Nat)) ∧ Below w'.heap.size w' w'' := by
  refine (sizeR_any x k a w' (hS.below h)).mono ?_
  rw [wrap64_small (by omega) (by omega)]
  exact fun e w'' h => h
theorem same_call2 {wn : World} {x y : Bool × Int} {k l : Fo} {a c : Value} (hS : SIn wn k a) (hU : SIn wn l c) (w' : World) (h : Below wn.heap.size wn w') :
    Calls Tryd.prog 11 #[.agg #[.bool x.1, .int .i64 x.2, a], .agg #[.bool y.1, .int .i64 y.2, c]] w' fun e w'' => e = .returned (.bool (sameT x k y l)) ∧ Below w'.heap.size w' w'' :=
  sameR_any x k y l a c w' (hS.below h) (hU.below h)
theorem lexF_at : ∀ {k l : Fo} {j : Nat} {t u : Tm}, (∀ q, q < j → ∀ t' u' : Tm, k.list[q]? = some t' → l.list[q]? = some u' → sameT t'.1 t'.2 u'.1 u'.2 = true) → k.list[j]? = some t → l.list[j]? = some u → sameT t.1 t.2 u.1 u.2 = false → lexF k l = abvT t u
  | .nil, _, _, _, _, _, h, _, _ => by simp [Fo.list] at h
  | .node _ _ _ _ _, .nil, _, _, _, _, _, h, _ => by simp [Fo.list] at h
  | .node _ _ x k r, .node _ _ y l q, 0, t, u, _, h1, h2, h3 => by
    simp only [Fo.list, List.getElem?_cons_zero, Option.some.injEq] at h1 h2
    subst h1 h2
    rw [lexF, if_neg (by rw [h3]; decide)]
    rfl
  | .node _ _ x k r, .node _ _ y l q, j + 1, t, u, ha, h1, h2, h3 => by
    rw [lexF, if_pos (ha 0 (by omega) (x, k) (y, l) rfl rfl)]
    exact lexF_at (j := j) (fun i hi t' u' e1 e2 => ha (i + 1) (by omega) t' u' (by simpa [Fo.list] using e1) (by simpa [Fo.list] using e2)) (by simpa [Fo.list] using h1) (by simpa [Fo.list] using h2) h3
theorem lexF_end : ∀ {k l : Fo}, (∀ q : Nat, ∀ t' u' : Tm, k.list[q]? = some t' → l.list[q]? = some u' → sameT t'.1 t'.2 u'.1 u'.2 = true) → lexF k l = false
  | .nil, _, _ => rfl
  | .node _ _ _ _ _, .nil, _ => rfl
  | .node _ _ x k r, .node _ _ y l q, ha => by
    rw [lexF, if_pos (ha 0 (x, k) (y, l) rfl rfl)]
    exact lexF_end (fun i t' u' e1 e2 => ha (i + 1) t' u' (by simpa [Fo.list] using e1) (by simpa [Fo.list] using e2))
theorem ne_dec (p q : Nat) : ((p : Int) != (q : Int)) = decide (p ≠ q) := by
  by_cases h : p = q
  · subst h; simp
  · rw [decide_eq_true h, bne_iff_ne]; omega
theorem abv_may {n : Int} {k : Fo} {b : Tm} (h : mayT ((false, n), k) b = false) : abvT ((false, n), k) b = false := by
  unfold abvT hdT
  simp [h]
theorem abv_size {n : Int} {k : Fo} {y : Bool × Int} {l : Fo} (h : mayT ((false, n), k) (y, l) = true) (hs : tszR k ≠ tszR l) : abvT ((false, n), k) (y, l) = decide (tszR l < tszR k) := by
  unfold abvT hdT
  simp only
  rw [if_neg (by decide), if_neg (by rw [h]; decide), if_pos hs]
theorem abv_less {n : Int} {k : Fo} {y : Bool × Int} {l : Fo} (h : mayT ((false, n), k) (y, l) = true) (hs : tszR k = tszR l) (hy : (y.1 || decide (n < y.2)) = true) : abvT ((false, n), k) (y, l) = false := by
  unfold abvT hdT
  simp only
  rw [if_neg (by decide), if_neg (by rw [h]; decide), if_neg (by simp [hs]), if_pos hy]
theorem abv_sym {n : Int} {k : Fo} {y : Bool × Int} {l : Fo} (h : mayT ((false, n), k) (y, l) = true) (hs : tszR k = tszR l) (hy : (y.1 || decide (n < y.2)) = false) (hn : y.2 < n) : abvT ((false, n), k) (y, l) = true := by
  unfold abvT hdT
  simp only
  rw [if_neg (by decide), if_neg (by rw [h]; decide), if_neg (by simp [hs]), if_neg (by rw [hy]; decide), if_pos hn]
theorem abv_args {n : Int} {k : Fo} {y : Bool × Int} {l : Fo} (h : mayT ((false, n), k) (y, l) = true) (hs : tszR k = tszR l) (hy : (y.1 || decide (n < y.2)) = false) (hn : ¬ y.2 < n) : abvT ((false, n), k) (y, l) = lexF k l := by
  unfold abvT hdT
  simp only
  rw [if_neg (by decide), if_neg (by rw [h]; decide), if_neg (by simp [hs]), if_neg (by rw [hy]; decide), if_neg hn]
theorem may_no {a b : Tm} {v : Int} {T : List Int} (hT : T = varsT b.1 b.2 []) (hv : v ∈ T) (h : timT v a < timT v b) : mayT a b = false := by
  rw [← Bool.not_eq_true]
  unfold mayT
  rw [List.all_eq_true]
  intro hh
  have := of_decide_eq_true (hh v (hT ▸ hv))
  omega
theorem may_yes {a b : Tm} {T : List Int} (hT : T = varsT b.1 b.2 []) (h : ∀ q, q < T.length → timT (T.getD q 0) b ≤ timT (T.getD q 0) a) : mayT a b = true := by
  unfold mayT
  rw [List.all_eq_true]
  intro v hv
  rw [← hT] at hv
  obtain ⟨q, hq, e⟩ := List.mem_iff_getElem.1 hv
  have := h q hq
  rw [List.getD_eq_getElem?_getD, List.getElem?_eq_getElem hq, Option.getD_some, e] at this
  exact decide_eq_true this
def AbvRSaid (x : Bool × Int) (k : Fo) : Prop := ∀ (y : Bool × Int) (l : Fo) (a c : Value) (w : World), SIn w k a → SIn w l c → tszR k ≤ 4000000000000 → tszR l ≤ 4000000000000 →
    Calls Tryd.prog 12 #[.agg #[.bool x.1, .int .i64 x.2, a], .agg #[.bool y.1, .int .i64 y.2, c]] w fun e w' => e = .returned (.bool (abvT (x, k) (y, l))) ∧ Below w.heap.size w w'
set_option maxRecDepth 100000 in
set_option maxHeartbeats 2000000 in
theorem aboveR_any (x : Bool × Int) (k : Fo) : AbvRSaid x k := by
  refine Fo.ind1 (p := AbvRSaid) ?_ x k
  clear x k
  intro x k ih y l a c w hS hU hbk hbl
  obtain ⟨xv, n⟩ := x
  obtain ⟨yv, m⟩ := y
  have HI := hide ih
  have HS := hide hS
  have HU := hide hU
  have Hbk := hide hbk
  have Hbl := hide hbl
  obtain ⟨ad, ac, b, o, rfl, had, hlc, hcm, hF⟩ := hS
  obtain ⟨ud, uc, ub, uo, rfl, hud, hulc, hucm, hG⟩ := hU
  have HF := hide hF
  have HG := hide hG
  have Hl := hide (Fo.len_list k)
  have Hl2 := hide (Fo.len_list l)
  have Had := hide had
  have Hud := hide hud
  unfold maxLen at hcm hucm
  clear ih hF hG had hud
  cases xv
  · go_enter Tryd.func12, Tryd.ntmps12
    go_wp2_with fail
    generalize hW2 : (w.alloc (.cells #[.bool false, .int .i64 n, .slice ad (Fo.len k) ac] 37)).alloc (.cells #[.bool yv, .int .i64 m, .slice ud (Fo.len l) uc] 37) = W2
    have hB2 : Below w.heap.size w W2 := by rw [← hW2]; exact (below_alloc _ _).alloc (by simp) _
    have p0 : W2.cell? ⟨w.heap.size, 0, none⟩ = some (.bool false) := by rw [← hW2, World.cell?_alloc_lt _ _ _ (by simp)]; exact new_cell rfl
    have p1 : W2.cell? ⟨w.heap.size, 1, none⟩ = some (.int .i64 n) := by rw [← hW2, World.cell?_alloc_lt _ _ _ (by simp)]; exact new_cell rfl
    have p2 : W2.cell? ⟨w.heap.size, 2, none⟩ = some (.slice ad (Fo.len k) ac) := by rw [← hW2, World.cell?_alloc_lt _ _ _ (by simp)]; exact new_cell rfl
    have r0 : W2.cell? ⟨w.heap.size + 1, 0, none⟩ = some (.bool yv) := by rw [← hW2]; exact new_cell (World.size_alloc _ _)
    have r1 : W2.cell? ⟨w.heap.size + 1, 1, none⟩ = some (.int .i64 m) := by rw [← hW2]; exact new_cell (World.size_alloc _ _)
    have r2 : W2.cell? ⟨w.heap.size + 1, 2, none⟩ = some (.slice ud (Fo.len l) uc) := by rw [← hW2]; exact new_cell (World.size_alloc _ _)
    clear hW2
    obtain ⟨T, hT⟩ : ∃ T, T = varsT (yv, m) l [] := ⟨_, rfl⟩
    have HT := hide hT
    refine (varsR_any (yv, m) l _ [] (.slice none 0 0) W2 T hT (HU.out.below hB2) ⟨none, 0, 0, 0, rfl, fun h => by simp at h, Nat.le_refl _, Nat.zero_le _, fun i hi => by simp at hi⟩ (by have := Hbl.out; simp only [List.length_nil]; omega)).mono ?_
    rintro e w1 ⟨v', rfl, hN, hb1⟩
    have hB1 := below_step hB2 hb1
    have q0 := grow_cell hb1 _ _ p0
    have q1 := grow_cell hb1 _ _ p1
    have q2 := grow_cell hb1 _ _ p2
    have t0 := grow_cell hb1 _ _ r0
    have t1 := grow_cell hb1 _ _ r1
    have t2 := grow_cell hb1 _ _ r2
    obtain ⟨la, lc, lb, lo, rfl, hla, hlc', hlm, hNF⟩ := hN
    unfold maxLen at hlm
    have HNF := hide hNF
    have HC := hide (And.intro q0 (And.intro q1 (And.intro q2 (And.intro t0 (And.intro t1 t2)))))
    have HB1 := hide hB1
    have HcA := hide (fun v w' hb => times_call (x := (false, n)) (HS.out.below HB1.out) Hbk.out v w' hb)
    have HcB := hide (fun v w' hb => times_call (x := (yv, m)) (HU.out.below HB1.out) Hbl.out v w' hb)
    clear hT hNF p0 p1 p2 r0 r1 r2 hb1 hB2 hB1 q0 q1 q2 t0 t1 t2 hbk hbl
    go_wp2_with fail
    go_loopw [13] (fun i wr => ∃ j : Nat, j ≤ T.length ∧ i = .int .i64 j ∧ (∀ q, q < j → timT (T.getD q 0) ((yv, m), l) ≤ timT (T.getD q 0) ((false, n), k)) ∧ Below w1.heap.size w1 wr) (fun i _ => T.length - (intOf i).toNat)
    case atStart => exact ⟨0, Nat.zero_le _, rfl, fun q hq => by omega, Below.refl _ _⟩
    case round =>
      obtain ⟨j, hj, rfl, hall, hBr⟩ := hrel
      have Hall := hide hall
      obtain ⟨q0, q1, q2, t0, t1, t2⟩ := HC.out
      have a0 := grow_cell hBr _ _ q0
      have a1 := grow_cell hBr _ _ q1
      have a2 := grow_cell hBr _ _ q2
      have a3 := grow_cell hBr _ _ t0
      have a4 := grow_cell hBr _ _ t1
      have a5 := grow_cell hBr _ _ t2
      clear hall q0 q1 q2 t0 t1 t2
      by_cases hlt : j < T.length
      · have hlt' : (j : Int) < (T.length : Int) := by omega
        have hc := HNF.out j hlt
        have Hmem : Hid (T.getD j 0 ∈ T) := by
          rw [Hid, List.getD_eq_getElem?_getD, List.getElem?_eq_getElem hlt]; simp
        have ha : la = some ⟨lb, lo, none⟩ := hla (by omega)
        subst ha
        have Hnx : Hid (¬ timT (T.getD j 0) ((false, n), k) < timT (T.getD j 0) ((yv, m), l) → ∀ q, q < j + 1 → timT (T.getD q 0) ((yv, m), l) ≤ timT (T.getD q 0) ((false, n), k)) := fun h q hq => by
          by_cases e : q = j
          · rw [e]; omega
          · exact Hall.out q (by omega)
        generalize T.getD j 0 = z at hc Hmem Hnx
        have hc' := grow_cell hBr _ _ hc
        have HcA' := hide (HcA.out z)
        have HcB' := hide (HcB.out z)
        have Hno : Hid (timT z ((false, n), k) < timT z ((yv, m), l) → abvT ((false, n), k) ((yv, m), l) = false) := fun h => abv_may (may_no HT.out Hmem.out h)
        generalize timT z ((false, n), k) = na at HcA' Hnx Hno
        generalize timT z ((yv, m), l) = nb at HcB' Hnx Hno
        have hcur : Below w1.heap.size w1 wr.drew := hBr.drew
        clear hla hc
        go_upto_region 6 with fail
        go_cut [23] (fun s23 wx => s23 = .bool (decide (na < nb)) ∧ Below w1.heap.size w1 wx)
        case first =>
          go_region_held3 (fun w' => w'.cell? ⟨w.heap.size, 0, none⟩ = some (.bool false) ∧ w'.cell? ⟨w.heap.size, 1, none⟩ = some (.int .i64 n) ∧ w'.cell? ⟨w.heap.size, 2, none⟩ = some (.slice ad (Fo.len k) ac) ∧ w'.cell? ⟨w.heap.size + 1, 0, none⟩ = some (.bool yv) ∧ w'.cell? ⟨w.heap.size + 1, 1, none⟩ = some (.int .i64 m) ∧ w'.cell? ⟨w.heap.size + 1, 2, none⟩ = some (.slice ud (Fo.len l) uc))
            (first
              | (with_reducible exact ⟨grow_cell hcur _ _ HC.out.1, grow_cell hcur _ _ HC.out.2.1, grow_cell hcur _ _ HC.out.2.2.1, grow_cell hcur _ _ HC.out.2.2.2.1, grow_cell hcur _ _ HC.out.2.2.2.2.1, grow_cell hcur _ _ HC.out.2.2.2.2.2⟩)
              | go_keep)
            (first
              | (go_at_call 29; with_reducible refine (HcB'.out _ hcur).mono ?_; rintro e wB ⟨rfl, hbB⟩; replace hcur := below_step hcur hbB)
              | (go_at_call 29; with_reducible refine (HcA'.out _ hcur).mono ?_; rintro e wA ⟨rfl, hbA⟩; replace hcur := below_step hcur hbA))
          all_goals
            go_wp2_with fail
            go_meet
            case rel => exact ⟨by simp, hcur⟩
        case rest =>
          obtain ⟨rfl, hbx⟩ := hcut
          generalize wc = wx at *
          clear hcur a0 a1 a2 a3 a4 a5 hc'
          by_cases hgt : na < nb
          · have hd : decide (na < nb) = true := decide_eq_true hgt
            have Hf := hide (Hno.out hgt)
            have Hend := hide (below_step HB1.out hbx)
            rw [hd]
            clear hd hgt
            go_wp2_with fail
            go_ret
            exact ⟨by rw [Hf.out]; rfl, Hend.out⟩
          · have hd : decide (na < nb) = false := decide_eq_false hgt
            have Hn := hide (Hnx.out hgt)
            rw [hd]
            clear hd hgt
            go_wp2_with fail
            go_roundw
            case rel => exact ⟨j + 1, by omega, by go_num, Hn.out, hbx⟩
            case measure => simp [intOf]; omega
      · have Hmay : Hid (mayT ((false, n), k) ((yv, m), l) = true) := may_yes HT.out (fun q hq => Hall.out q (by omega))
        have HB := hide (below_step HB1.out hBr)
        have HsA := hide (fun w' hb => size_call (x := (false, n)) (HS.out.below HB.out) Hbk.out w' hb)
        have HsB := hide (fun w' hb => size_call (x := (yv, m)) (HU.out.below HB.out) Hbl.out w' hb)
        have hcur : Below wr.heap.size wr wr.drew := (Below.refl _ _).drew
        have Hcells := hide (And.intro a0 (And.intro a1 (And.intro a2 (And.intro a3 (And.intro a4 a5)))))
        clear hla HcA HcB HNF hBr Hall
        go_upto_region 9 with fail
        go_cut [29] (fun s29 wx => s29 = .bool (decide (tszR k ≠ tszR l)) ∧ Below wr.heap.size wr wx)
        case first =>
          go_region_held3 (fun w' => w'.cell? ⟨w.heap.size, 0, none⟩ = some (.bool false) ∧ w'.cell? ⟨w.heap.size, 1, none⟩ = some (.int .i64 n) ∧ w'.cell? ⟨w.heap.size, 2, none⟩ = some (.slice ad (Fo.len k) ac) ∧ w'.cell? ⟨w.heap.size + 1, 0, none⟩ = some (.bool yv) ∧ w'.cell? ⟨w.heap.size + 1, 1, none⟩ = some (.int .i64 m) ∧ w'.cell? ⟨w.heap.size + 1, 2, none⟩ = some (.slice ud (Fo.len l) uc))
            (first
              | (with_reducible exact ⟨grow_cell hcur _ _ a0, grow_cell hcur _ _ a1, grow_cell hcur _ _ a2, grow_cell hcur _ _ a3, grow_cell hcur _ _ a4, grow_cell hcur _ _ a5⟩)
              | go_keep)
            (first
              | (go_at_call 13; with_reducible refine (HsA.out _ hcur).mono ?_; rintro e wA ⟨rfl, hbA⟩; replace hcur := below_step hcur hbA)
              | (go_at_call 13; with_reducible refine (HsB.out _ hcur).mono ?_; rintro e wB ⟨rfl, hbB⟩; replace hcur := below_step hcur hbB))
          all_goals
            go_wp2_with fail
            go_meet
            case rel => exact ⟨congrArg Value.bool (ne_dec _ _), hcur⟩
        case rest =>
          obtain ⟨rfl, hbx⟩ := hcut
          generalize wc = wx at *
          obtain ⟨a0, a1, a2, a3, a4, a5⟩ := Hcells.out
          have c0 := grow_cell hbx _ _ a0
          have c1 := grow_cell hbx _ _ a1
          have c2 := grow_cell hbx _ _ a2
          have c3 := grow_cell hbx _ _ a3
          have c4 := grow_cell hbx _ _ a4
          have c5 := grow_cell hbx _ _ a5
          have HBx := hide (below_step HB.out hbx)
          clear hcur a0 a1 a2 a3 a4 a5
          by_cases hsz : tszR k = tszR l
          · have hd : decide (tszR k ≠ tszR l) = false := decide_eq_false (fun h => h hsz)
            have Hsz := hide hsz
            rw [hd]
            clear hd hsz hbx HsA HsB Hcells
            cases hy : (yv || decide (n < m))
            · have Hy := hide hy
              obtain ⟨rfl, hnm⟩ : yv = false ∧ ¬ n < m := by simpa using hy
              by_cases hmn : m < n
              · have Hf := hide (abv_sym Hmay.out Hsz.out Hy.out hmn)
                clear hy
                go_wp2_with fail
                go_ret
                exact ⟨by rw [Hf.out]; rfl, HBx.out⟩
              · have Hf := hide (abv_args Hmay.out Hsz.out Hy.out hmn)
                have HC2 := hide (And.intro c0 (And.intro c1 (And.intro c2 (And.intro c3 (And.intro c4 c5)))))
                clear hy
                go_wp2_with fail
                clear c0 c1 c2 c3 c4 c5
                go_loopw [7] (fun i ws => ∃ j2 : Nat, j2 ≤ Fo.len k ∧ j2 ≤ Fo.len l ∧ i = .int .i64 j2 ∧ (∀ q, q < j2 → ∀ t' u' : Tm, k.list[q]? = some t' → l.list[q]? = some u' → sameT t'.1 t'.2 u'.1 u'.2 = true) ∧ Below wx.heap.size wx ws) (fun i _ => Fo.len k - (intOf i).toNat)
                case atStart => exact ⟨0, Nat.zero_le _, Nat.zero_le _, rfl, fun q hq => by omega, Below.refl _ _⟩
                case round =>
                  obtain ⟨j2, hj1, hj2, rfl, hall, hBs⟩ := hrel
                  have Hall2 := hide hall
                  obtain ⟨c0, c1, c2, c3, c4, c5⟩ := HC2.out
                  have d2 := grow_cell hBs _ _ c2
                  have d5 := grow_cell hBs _ _ c5
                  have HBs := hide (below_step HBx.out hBs)
                  clear hall c0 c1 c2 c3 c4 c5
                  by_cases h1 : j2 < Fo.len k
                  · have h1' : (j2 : Int) < (Fo.len k : Int) := by omega
                    have hj0 : (0 : Int) ≤ (j2 : Int) := by omega
                    by_cases h2 : j2 < Fo.len l
                    · have h2' : (j2 : Int) < (Fo.len l : Int) := by omega
                      have e1 := Had.out (by omega)
                      have e2 := Hud.out (by omega)
                      subst e1 e2
                      obtain ⟨⟨⟨tv, tn⟩, tk⟩, ht⟩ : ∃ y, k.list[j2]? = some y := ⟨k.list[j2]'(by rw [Hl.out]; exact h1), by simp⟩
                      obtain ⟨⟨⟨uv, un⟩, uk⟩, hu⟩ : ∃ y, l.list[j2]? = some y := ⟨l.list[j2]'(by rw [Hl2.out]; exact h2), by simp⟩
                      obtain ⟨k0, k1, ta, k2, hSt⟩ := (HF.out.below HBs.out).at ht
                      obtain ⟨l0, l1, ua, l2, hSu⟩ := (HG.out.below HBs.out).at hu
                      have HSt := hide hSt
                      have HSu := hide hSu
                      obtain ⟨ta1, tc, tb, t4, rfl, -, -, -, -⟩ := hSt
                      obtain ⟨ua1, uc1, ub1, u4, rfl, -, -, -, -⟩ := hSu
                      have Ht := hide ht
                      have Hu := hide hu
                      have HcS := hide (fun w' hb => same_call2 (x := (tv, tn)) (y := (uv, un)) HSt.out HSu.out w' hb)
                      have Hbt : Hid (tszR tk ≤ 4000000000000) := Nat.le_trans (Nat.le_of_lt (sz_mem (x := (false, n)) (List.mem_of_getElem? ht))) Hbk.out
                      have Hbu : Hid (tszR uk ≤ 4000000000000) := Nat.le_trans (Nat.le_of_lt (sz_mem (x := (false, m)) (List.mem_of_getElem? hu))) Hbl.out
                      have HcAb := hide (fun (w' : World) (hb : Below wr.heap.size wr w') => HI.out ((tv, tn), tk) (List.mem_of_getElem? ht) (uv, un) uk _ _ w' (HSt.out.below hb) (HSu.out.below hb) Hbt.out Hbu.out)
                      have hcur : Below wr.heap.size wr wr.drew := (Below.refl _ _).drew
                      clear ht hu
                      go_upto_region 18 with fail
                      go_cut [74] (fun s74 wy => s74 = .bool (!(sameT (tv, tn) tk (uv, un) uk)) ∧ Below wr.heap.size wr wy)
                      case first =>
                        go_region_held3 (fun w' => w'.cell? ⟨w.heap.size, 2, none⟩ = some (.slice (some ⟨b, o, none⟩) (Fo.len k) ac) ∧ w'.cell? ⟨w.heap.size + 1, 2, none⟩ = some (.slice (some ⟨ub, uo, none⟩) (Fo.len l) uc) ∧ w'.cell? ⟨b, o + j2 * 3, none⟩ = some (.bool tv) ∧ w'.cell? ⟨b, o + j2 * 3 + 1, none⟩ = some (.int .i64 tn) ∧ w'.cell? ⟨b, o + j2 * 3 + 2, none⟩ = some (.slice ta1 (Fo.len tk) tc) ∧ w'.cell? ⟨ub, uo + j2 * 3, none⟩ = some (.bool uv) ∧ w'.cell? ⟨ub, uo + j2 * 3 + 1, none⟩ = some (.int .i64 un) ∧ w'.cell? ⟨ub, uo + j2 * 3 + 2, none⟩ = some (.slice ua1 (Fo.len uk) uc1))
                          (first
                            | (with_reducible exact ⟨grow_cell hcur _ _ d2, grow_cell hcur _ _ d5, grow_cell hcur _ _ k0, grow_cell hcur _ _ k1, grow_cell hcur _ _ k2, grow_cell hcur _ _ l0, grow_cell hcur _ _ l1, grow_cell hcur _ _ l2⟩)
                            | go_keep)
                          (first
                            | (go_at_call 11; with_reducible refine (HcS.out _ hcur).mono ?_; rintro e wS ⟨rfl, hbS⟩; replace hcur := below_step hcur hbS))
                        all_goals
                          go_wp2_with fail
                          go_meet
                          case rel => exact ⟨rfl, hcur⟩
                      case rest =>
                        obtain ⟨rfl, hby⟩ := hcut
                        generalize wc = wy at *
                        cases hs : sameT (tv, tn) tk (uv, un) uk
                        · have Hlex := hide (lexF_at (t := ((tv, tn), tk)) (u := ((uv, un), uk)) Hall2.out Ht.out Hu.out hs)
                          have g2 := grow_cell hby _ _ d2
                          have g5 := grow_cell hby _ _ d5
                          have m0 := grow_cell hby _ _ k0
                          have m1 := grow_cell hby _ _ k1
                          have m2 := grow_cell hby _ _ k2
                          have m3 := grow_cell hby _ _ l0
                          have m4 := grow_cell hby _ _ l1
                          have m5 := grow_cell hby _ _ l2
                          have hcur2 : Below wr.heap.size wr wy.drew := hby.drew
                          clear hs hcur d2 d5 k0 k1 k2 l0 l1 l2
                          go_upto_region 19 with fail
                          go_region_held3 (fun w' => w'.cell? ⟨w.heap.size, 2, none⟩ = some (.slice (some ⟨b, o, none⟩) (Fo.len k) ac) ∧ w'.cell? ⟨w.heap.size + 1, 2, none⟩ = some (.slice (some ⟨ub, uo, none⟩) (Fo.len l) uc) ∧ w'.cell? ⟨b, o + j2 * 3, none⟩ = some (.bool tv) ∧ w'.cell? ⟨b, o + j2 * 3 + 1, none⟩ = some (.int .i64 tn) ∧ w'.cell? ⟨b, o + j2 * 3 + 2, none⟩ = some (.slice ta1 (Fo.len tk) tc) ∧ w'.cell? ⟨ub, uo + j2 * 3, none⟩ = some (.bool uv) ∧ w'.cell? ⟨ub, uo + j2 * 3 + 1, none⟩ = some (.int .i64 un) ∧ w'.cell? ⟨ub, uo + j2 * 3 + 2, none⟩ = some (.slice ua1 (Fo.len uk) uc1))
                            (first
                              | exact ⟨grow_cell hbS _ _ g2, grow_cell hbS _ _ g5, grow_cell hbS _ _ m0, grow_cell hbS _ _ m1, grow_cell hbS _ _ m2, grow_cell hbS _ _ m3, grow_cell hbS _ _ m4, grow_cell hbS _ _ m5⟩
                              | go_keep)
                            (first
                              | (go_at_call 12; with_reducible refine (HcAb.out _ hcur2).mono ?_; rintro e wS ⟨rfl, hbS⟩; replace hcur2 := below_step hcur2 hbS))
                          all_goals
                            have Hend := hide (below_step HBs.out hcur2)
                            clear hbS
                            go_wp2_with fail
                            go_ret
                            exact ⟨by rw [Hf.out, Hlex.out]; rfl, Hend.out⟩
                        · have Hnx : Hid (∀ q, q < j2 + 1 → ∀ t' u' : Tm, k.list[q]? = some t' → l.list[q]? = some u' → sameT t'.1 t'.2 u'.1 u'.2 = true) := fun q hq t' u' e1 e2 => by
                            by_cases e : q = j2
                            · subst e
                              rw [Ht.out] at e1
                              rw [Hu.out] at e2
                              cases e1
                              cases e2
                              exact hs
                            · exact Hall2.out q (by omega) t' u' e1 e2
                          have Hb3 := hide (below_step hBs hby)
                          clear hs hcur d2 d5 k0 k1 k2 l0 l1 l2
                          go_wp2_with fail
                          go_roundw
                          case rel => exact ⟨j2 + 1, by omega, by omega, by go_num, Hnx.out, Hb3.out⟩
                          case measure => simp [intOf]; omega
                    · have Hlex : Hid (lexF k l = false) := lexF_end (fun q t' u' e1 e2 => Hall2.out q (by
                        have := (List.getElem?_eq_some_iff.1 e2).1
                        rw [Hl2.out] at this
                        omega) t' u' e1 e2)
                      have h2' : ¬ (j2 : Int) < (Fo.len l : Int) := by omega
                      go_wp2_with fail
                      go_ret
                      exact ⟨by rw [Hf.out, Hlex.out]; rfl, HBs.out⟩
                  · have Hlex : Hid (lexF k l = false) := lexF_end (fun q t' u' e1 e2 => Hall2.out q (by
                      have := (List.getElem?_eq_some_iff.1 e1).1
                      rw [Hl.out] at this
                      omega) t' u' e1 e2)
                    have h1' : ¬ (j2 : Int) < (Fo.len k : Int) := by omega
                    go_wp2_with fail
                    go_ret
                    exact ⟨by rw [Hf.out, Hlex.out]; rfl, HBs.out⟩
            · have Hf := hide (abv_less (y := (yv, m)) Hmay.out Hsz.out hy)
              cases yv
              · have hnm : n < m := by simpa using hy
                clear hy
                go_wp2_with fail
                go_ret
                exact ⟨by rw [Hf.out]; rfl, HBx.out⟩
              · clear hy
                go_wp2_with fail
                go_ret
                exact ⟨by rw [Hf.out]; rfl, HBx.out⟩
          · have hd : decide (tszR k ≠ tszR l) = true := decide_eq_true hsz
            have Hf := hide (abv_size Hmay.out hsz)
            have hcur : Below wr.heap.size wr wx.drew := hbx.drew
            rw [hd]
            clear hd hsz
            go_upto_region 10 with fail
            go_region_held3 (fun w' => w'.cell? ⟨w.heap.size, 0, none⟩ = some (.bool false) ∧ w'.cell? ⟨w.heap.size, 1, none⟩ = some (.int .i64 n) ∧ w'.cell? ⟨w.heap.size, 2, none⟩ = some (.slice ad (Fo.len k) ac) ∧ w'.cell? ⟨w.heap.size + 1, 0, none⟩ = some (.bool yv) ∧ w'.cell? ⟨w.heap.size + 1, 1, none⟩ = some (.int .i64 m) ∧ w'.cell? ⟨w.heap.size + 1, 2, none⟩ = some (.slice ud (Fo.len l) uc))
              (first
                | (with_reducible exact ⟨grow_cell hcur _ _ Hcells.out.1, grow_cell hcur _ _ Hcells.out.2.1, grow_cell hcur _ _ Hcells.out.2.2.1, grow_cell hcur _ _ Hcells.out.2.2.2.1, grow_cell hcur _ _ Hcells.out.2.2.2.2.1, grow_cell hcur _ _ Hcells.out.2.2.2.2.2⟩)
                | go_keep)
              (first
                | (go_at_call 13; with_reducible refine (HsA.out _ hcur).mono ?_; rintro e wA ⟨rfl, hbA⟩; replace hcur := below_step hcur hbA)
                | (go_at_call 13; with_reducible refine (HsB.out _ hcur).mono ?_; rintro e wB ⟨rfl, hbB⟩; replace hcur := below_step hcur hbB))
            all_goals
              have Hend := hide (below_step HB.out hcur)
              clear hbA hbB
              go_wp2_with fail
              go_ret
              exact ⟨by rw [Hf.out]; simp, Hend.out⟩
  · go_enter Tryd.func12, Tryd.ntmps12
    have Hb2 : Hid (Below w.heap.size w ((w.alloc (.cells #[.bool true, .int .i64 n, .slice ad (Fo.len k) ac] 37)).alloc (.cells #[.bool yv, .int .i64 m, .slice ud (Fo.len l) uc] 37))) := (below_alloc _ _).alloc (by simp) _
    go_wp2_with fail
    go_ret
    exact ⟨rfl, Hb2.out⟩
def cmpT (a b : Tm) : Int := if sameT a.1 a.2 b.1 b.2 then 2 else if abvT a b then 3 else if abvT b a then 1 else 0
end Go.Proofs.YtlgnpiphaeoeiadDoor

namespace Go.Proofs.YtlgnpiphaeoeiadDoor
open Go.RowKit Go.Deep Go.ChangeShapes Go.WideShapes
abbrev Lt := Bool × Tm × Tm
abbrev Cl := List Lt
def varsL (l : Lt) (v : List Int) : List Int := varsT l.2.2.1 l.2.2.2 (varsT l.2.1.1 l.2.1.2 v)
def varsC (c : Cl) (v : List Int) : List Int := c.foldl (fun v l => varsL l v) v
theorem varsC_take {c : Cl} {j : Nat} {l : Lt} {v : List Int} (h : c[j]? = some l) : varsC (c.take (j + 1)) v = varsL l (varsC (c.take j) v) := by
  rw [List.take_add_one, h]
  simp [varsC, List.foldl_append]
def wrongL (s : List Int) (l : Lt) : Int := if wrongF s l.2.1.1 l.2.1.2 ≠ 0 then wrongF s l.2.1.1 l.2.1.2 else wrongF s l.2.2.1 l.2.2.2
def wrongLs (s : List Int) : Cl → Int
  | [] => 0
  | l :: c => if wrongL s l ≠ 0 then wrongL s l else wrongLs s c
def wrongC (s : List Int) (c : Cl) : Int := if 4 < c.length then 5 else wrongLs s c
theorem wrongLs_at {s : List Int} : ∀ {c : Cl} {j : Nat} {l : Lt}, (∀ i, i < j → ∀ a, c[i]? = some a → wrongL s a = 0) → c[j]? = some l → wrongL s l ≠ 0 → wrongLs s c = wrongL s l
  | [], _, _, _, h, _ => by simp at h
  | x :: c, 0, l, _, h, hn => by
    simp only [List.getElem?_cons_zero, Option.some.injEq] at h
    subst h
    rw [wrongLs, if_pos hn]
  | x :: c, j + 1, l, h0, h, hn => by
    rw [wrongLs, if_neg (by simp [h0 0 (by omega) x (by simp)])]
    exact wrongLs_at (j := j) (fun i hi a ha => h0 (i + 1) (by omega) a (by simpa using ha)) (by simpa using h) hn
theorem wrongLs_iff {s : List Int} : ∀ {c : Cl}, wrongLs s c = 0 ↔ ∀ l ∈ c, wrongL s l = 0
  | [] => by simp [wrongLs]
  | x :: c => by
    rw [wrongLs]
    by_cases h : wrongL s x = 0
    · rw [if_neg (by simp [h]), wrongLs_iff (c := c)]
      simp [h]
    · rw [if_pos h]
      simp [h]
theorem wrongL_iff {s : List Int} {l : Lt} : wrongL s l = 0 ↔ wrongF s l.2.1.1 l.2.1.2 = 0 ∧ wrongF s l.2.2.1 l.2.2.2 = 0 := by
  unfold wrongL
  by_cases h : wrongF s l.2.1.1 l.2.1.2 = 0
  · rw [if_neg (by simp [h])]; simp [h]
  · rw [if_pos h]; simp [h]
theorem wrongC_iff {s : List Int} {c : Cl} : wrongC s c = 0 ↔ c.length ≤ 4 ∧ ∀ l ∈ c, wrongF s l.2.1.1 l.2.1.2 = 0 ∧ wrongF s l.2.2.1 l.2.2.2 = 0 := by
  unfold wrongC
  by_cases h : 4 < c.length
  · rw [if_pos h]; constructor
    · intro e; simp at e
    · intro e; omega
  · rw [if_neg h, wrongLs_iff]
    constructor
    · exact fun e => ⟨by omega, fun l hl => wrongL_iff.1 (e l hl)⟩
    · exact fun e l hl => wrongL_iff.2 (e.2 l hl)
def mapL (f : Tm → Tm) (l : Lt) : Lt := (l.1, f l.2.1, f l.2.2)
def flipL (l : Lt) : Lt := if abvT l.2.2 l.2.1 then (l.1, l.2.2, l.2.1) else l
def tstep (o : Option Cl) (l : Lt) : Option Cl := o.bind fun out => if sameT l.2.1.1 l.2.1.2 l.2.2.1 l.2.2.2 then (if l.1 then some out else none) else some (out ++ [flipL l])
def turnC (c : Cl) : Option Cl := c.foldl tstep (some [])
def likeL (a b : Lt) : Bool := (sameT a.2.1.1 a.2.1.2 b.2.1.1 b.2.1.2 && sameT a.2.2.1 a.2.2.2 b.2.2.1 b.2.2.2) || (sameT a.2.1.1 a.2.1.2 b.2.2.1 b.2.2.2 && sameT a.2.2.1 a.2.2.2 b.2.1.1 b.2.1.2)
def dstep (o : Option Cl) (l : Lt) : Option Cl := o.bind fun out => match out.find? (fun f => likeL f l) with
  | none => some (out ++ [l])
  | some f => if f.1 = l.1 then some out else none
def distC (c : Cl) : Option Cl := c.foldl dstep (some [])
theorem fold_none {f : Option Cl → Lt → Option Cl} (hf : ∀ l, f none l = none) : ∀ c : Cl, c.foldl f none = none
  | [] => rfl
  | l :: c => by rw [List.foldl_cons, hf, fold_none hf c]
theorem fold_take {f : Option Cl → Lt → Option Cl} {c : Cl} {j : Nat} {l : Lt} {o : Option Cl} (h : c[j]? = some l) : (c.take (j + 1)).foldl f o = f ((c.take j).foldl f o) l := by
  rw [List.take_add_one, h]
  simp [List.foldl_append]
theorem fold_stop {f : Option Cl → Lt → Option Cl} (hf : ∀ l, f none l = none) {c : Cl} {j : Nat} {o : Option Cl} (h : (c.take j).foldl f o = none) : c.foldl f o = none := by
  rw [← List.take_append_drop j c, List.foldl_append, h, fold_none hf]
theorem turn_take {c : Cl} {j : Nat} {l : Lt} (h : c[j]? = some l) : turnC (c.take (j + 1)) = tstep (turnC (c.take j)) l := fold_take h
theorem turn_stop {c : Cl} {j : Nat} (h : turnC (c.take j) = none) : turnC c = none := fold_stop (fun _ => rfl) h
theorem dist_take {c : Cl} {j : Nat} {l : Lt} (h : c[j]? = some l) : distC (c.take (j + 1)) = dstep (distC (c.take j)) l := fold_take h
theorem dist_stop {c : Cl} {j : Nat} (h : distC (c.take j) = none) : distC c = none := fold_stop (fun _ => rfl) h
def numS (vs : List Int) : Sb := vs.mapIdx fun i v => (v, vr i)
def bigL (l : Lt) : Bool := decide (12 < tszR l.2.1.2) || decide (12 < tszR l.2.2.2)
def reN (d : Cl) : Cl := d.map (mapL (subT (bnd (numS (varsC d [])))))
def keepC (d e : Cl) : Int × Cl := if 4 < e.length ∨ 5 < (varsC d []).length ∨ e.any bigL = true then (4, []) else (0, e)
def normC (c : Cl) : Int × Cl := match turnC c with
  | none => (6, [])
  | some d => match distC (reN d) with
    | none => (6, [])
    | some e => keepC d e
structure GL (l : Lt) : Prop where
  gl : Gd l.2.1
  gr : Gd l.2.2
  fl : ∀ m, occT m l.2.1 → m ≤ 4
  fr : ∀ m, occT m l.2.2 → m ≤ 4
  sl : tszR l.2.1.2 ≤ 12
  sr : tszR l.2.2.2 ≤ 12
def GC (c : Cl) : Prop := c.length ≤ 4 ∧ ∀ l ∈ c, GL l
theorem GL.flip {l : Lt} (h : GL l) : GL (flipL l) := by
  unfold flipL
  split
  · exact ⟨h.gr, h.gl, h.fr, h.fl, h.sr, h.sl⟩
  · exact h
theorem tstep_mem {o : Option Cl} {l : Lt} {d : Cl} {p : Lt → Prop} (h : tstep o l = some d) (h0 : ∀ e, o = some e → ∀ x ∈ e, p x) (h1 : p (flipL l)) : ∀ x ∈ d, p x := by
  cases o with
  | none => simp [tstep] at h
  | some e =>
    simp only [tstep, Option.bind_some] at h
    split at h
    · split at h
      · obtain rfl := Option.some.inj h; exact h0 _ rfl
      · cases h
    · cases h
      intro x hx
      rcases List.mem_append.1 hx with hx | hx
      · exact h0 e rfl x hx
      · simp at hx; rw [hx]; exact h1
theorem turn_mem {p : Lt → Prop} : ∀ {c : Cl} {o : Option Cl} {d : Cl}, c.foldl tstep o = some d → (∀ e, o = some e → ∀ x ∈ e, p x) → (∀ l ∈ c, p (flipL l)) → ∀ x ∈ d, p x
  | [], o, d, h, h0, _ => h0 d h
  | l :: c, o, d, h, h0, h1 => turn_mem (c := c) (o := tstep o l) h (fun e he => tstep_mem he h0 (h1 l (by simp))) (fun x hx => h1 x (by simp [hx]))
theorem tstep_len {o : Option Cl} {l : Lt} {d : Cl} {n : Nat} (h : tstep o l = some d) (h0 : ∀ e, o = some e → e.length ≤ n) : d.length ≤ n + 1 := by
  cases o with
  | none => simp [tstep] at h
  | some e =>
    have := h0 e rfl
    simp only [tstep, Option.bind_some] at h
    split at h
    · split at h
      · cases h; omega
      · cases h
    · cases h; simp; omega
theorem turn_len : ∀ {c : Cl} {o : Option Cl} {d : Cl} {n : Nat}, c.foldl tstep o = some d → (∀ e, o = some e → e.length ≤ n) → d.length ≤ n + c.length
  | [], o, d, n, h, h0 => by have := h0 d h; simpa using this
  | l :: c, o, d, n, h, h0 => by
    have := turn_len (c := c) (o := tstep o l) (n := n + 1) h (fun e he => tstep_len he h0)
    simp; omega
theorem turn_gc {c d : Cl} (h : turnC c = some d) (hc : GC c) : GC d := by
  refine ⟨?_, turn_mem (p := GL) h (fun e he => by cases he; simp) (fun l hl => (hc.2 l hl).flip)⟩
  have := turn_len (n := 0) h (fun e he => by cases he; simp)
  have := hc.1
  omega
theorem dstep_mem {o : Option Cl} {l : Lt} {d : Cl} {p : Lt → Prop} (h : dstep o l = some d) (h0 : ∀ e, o = some e → ∀ x ∈ e, p x) (h1 : p l) : ∀ x ∈ d, p x := by
  cases o with
  | none => simp [dstep] at h
  | some e =>
    simp only [dstep, Option.bind_some] at h
    split at h
    · cases h
      intro x hx
      rcases List.mem_append.1 hx with hx | hx
      · exact h0 e rfl x hx
      · simp at hx; rw [hx]; exact h1
    · split at h
      · obtain rfl := Option.some.inj h; exact h0 _ rfl
      · cases h
theorem dist_mem {p : Lt → Prop} : ∀ {c : Cl} {o : Option Cl} {d : Cl}, c.foldl dstep o = some d → (∀ e, o = some e → ∀ x ∈ e, p x) → (∀ l ∈ c, p l) → ∀ x ∈ d, p x
  | [], o, d, h, h0, _ => h0 d h
  | l :: c, o, d, h, h0, h1 => dist_mem (c := c) (o := dstep o l) h (fun e he => dstep_mem he h0 (h1 l (by simp))) (fun x hx => h1 x (by simp [hx]))
theorem dstep_len {o : Option Cl} {l : Lt} {d : Cl} {n : Nat} (h : dstep o l = some d) (h0 : ∀ e, o = some e → e.length ≤ n) : d.length ≤ n + 1 := by
  cases o with
  | none => simp [dstep] at h
  | some e =>
    have := h0 e rfl
    simp only [dstep, Option.bind_some] at h
    split at h
    · cases h; simp; omega
    · split at h
      · cases h; omega
      · cases h
theorem dist_len : ∀ {c : Cl} {o : Option Cl} {d : Cl} {n : Nat}, c.foldl dstep o = some d → (∀ e, o = some e → e.length ≤ n) → d.length ≤ n + c.length
  | [], o, d, n, h, h0 => by have := h0 d h; simpa using this
  | l :: c, o, d, n, h, h0 => by
    have := dist_len (c := c) (o := dstep o l) (n := n + 1) h (fun e he => dstep_len he h0)
    simp; omega
theorem like_iff {a b : Lt} (ha : okT a.2.1 ∧ okT a.2.2) (hb : okT b.2.1 ∧ okT b.2.2) : likeL a b = true ↔ (a.2.1 = b.2.1 ∧ a.2.2 = b.2.2) ∨ (a.2.1 = b.2.2 ∧ a.2.2 = b.2.1) := by
  unfold likeL
  rw [Bool.or_eq_true, Bool.and_eq_true, Bool.and_eq_true, sameT_iff ha.1 hb.1, sameT_iff ha.2 hb.2, sameT_iff ha.1 hb.2, sameT_iff ha.2 hb.1]
abbrev okL (l : Lt) : Prop := okT l.2.1 ∧ okT l.2.2
theorem like_comm {a b : Lt} (ha : okL a) (hb : okL b) : likeL a b = likeL b a := by
  rw [Bool.eq_iff_iff, like_iff ha hb, like_iff hb ha]
  constructor <;> (rintro (⟨h1, h2⟩ | ⟨h1, h2⟩) <;> simp [h1, h2])
theorem like_trans {a b c : Lt} (ha : okL a) (hb : okL b) (hc : okL c) (h1 : likeL a b = true) (h2 : likeL b c = true) : likeL a c = true := by
  rw [like_iff ha hb] at h1
  rw [like_iff hb hc] at h2
  rw [like_iff ha hc]
  rcases h1 with ⟨e1, e2⟩ | ⟨e1, e2⟩ <;> rcases h2 with ⟨e3, e4⟩ | ⟨e3, e4⟩ <;> simp [e1, e2, e3, e4]
theorem pw_eq {f g : Lt} : ∀ {out : Cl}, (∀ x ∈ out, okL x) → out.Pairwise (fun a b => likeL a b = false) → f ∈ out → g ∈ out → likeL f g = true → f = g
  | [], _, _, h, _, _ => by cases h
  | x :: c, ho, hp, hf, hg, hl => by
    rw [List.pairwise_cons] at hp
    rcases List.mem_cons.1 hf with e | hf'
    · rcases List.mem_cons.1 hg with e' | hg'
      · rw [e, e']
      · rw [e, hp.1 g hg'] at hl; cases hl
    · rcases List.mem_cons.1 hg with e' | hg'
      · rw [e', like_comm (ho f hf) (ho x (by simp)), hp.1 f hf'] at hl; cases hl
      · exact pw_eq (fun y hy => ho y (by simp [hy])) hp.2 hf' hg' hl
def Kept (P out : Cl) : Prop := (∀ x ∈ out, x ∈ P) ∧ (∀ y ∈ P, ∃ f ∈ out, likeL f y = true ∧ f.1 = y.1) ∧ out.Pairwise fun a b => likeL a b = false
theorem kept_step {P out : Cl} {l : Lt} {o' : Option Cl} (hk : Kept P out) (hP : ∀ x ∈ P, okL x) (hl : okL l) (h : dstep (some out) l = o') :
    (∀ d, o' = some d → Kept (P ++ [l]) d) ∧ (o' = none ↔ ∃ y ∈ P, likeL l y = true ∧ y.1 ≠ l.1) ∧ (o' = some out ↔ (∃ y ∈ P, likeL l y = true) ∧ ¬ ∃ y ∈ P, likeL l y = true ∧ y.1 ≠ l.1) ∧ ((∀ y ∈ P, likeL l y = false) → o' = some (out ++ [l])) := by
  obtain ⟨k1, k2, k3⟩ := hk
  subst h
  simp only [dstep, Option.bind_some]
  cases hf : out.find? (fun f => likeL f l) with
  | none =>
    have hno : ∀ f ∈ out, likeL f l = false := fun f hf' => by
      have := List.find?_eq_none.1 hf f hf'
      simpa using this
    have hnoP : ∀ y ∈ P, likeL l y = false := fun y hy => by
      cases hh : likeL l y with
      | false => rfl
      | true =>
        obtain ⟨f, hf1, hf2, _⟩ := k2 y hy
        have := like_trans (hP f (k1 f hf1)) (hP y hy) hl hf2 (by rw [like_comm (hP y hy) hl]; exact hh)
        rw [hno f hf1] at this; cases this
    dsimp only
    refine ⟨fun d hd => ?_, ⟨fun h => (by cases h), fun ⟨y, hy, h1, _⟩ => (by rw [hnoP y hy] at h1; cases h1)⟩, ⟨fun h => (by simp at h), fun ⟨⟨y, hy, h1⟩, _⟩ => (by rw [hnoP y hy] at h1; cases h1)⟩, fun _ => rfl⟩
    cases hd
    refine ⟨fun x hx => ?_, fun y hy => ?_, ?_⟩
    · rcases List.mem_append.1 hx with hx | hx
      · exact List.mem_append_left _ (k1 x hx)
      · exact List.mem_append_right _ hx
    · rcases List.mem_append.1 hy with hy | hy
      · obtain ⟨f, h1, h2⟩ := k2 y hy
        exact ⟨f, List.mem_append_left _ h1, h2⟩
      · simp at hy; subst hy
        exact ⟨y, by simp, (like_iff hl hl).2 (.inl ⟨rfl, rfl⟩), rfl⟩
    · rw [List.pairwise_append]
      refine ⟨k3, by simp, fun a ha b hb => ?_⟩
      simp at hb; subst hb
      exact hno a ha
  | some f =>
    have hfm : f ∈ out := List.mem_of_find?_eq_some hf
    have hfl : likeL f l = true := by have := List.find?_some hf; simpa using this
    have hall : ∀ y ∈ P, likeL l y = true → y.1 = f.1 := fun y hy hly => by
      obtain ⟨g, g1, g2, g3⟩ := k2 y hy
      have h1 : likeL f g = true := like_trans (hP f (k1 f hfm)) hl (hP g (k1 g g1)) hfl (by
        rw [like_comm hl (hP g (k1 g g1))]
        exact like_trans (hP g (k1 g g1)) (hP y hy) hl g2 (by rw [like_comm (hP y hy) hl]; exact hly))
      have : f = g := pw_eq (fun x hx => hP x (k1 x hx)) k3 hfm g1 h1
      rw [this, g3]
    have hfl' : likeL l f = true := by rw [like_comm hl (hP f (k1 f hfm))]; exact hfl
    dsimp only
    by_cases he : f.1 = l.1
    · rw [if_pos he]
      have hn : ¬ ∃ y ∈ P, likeL l y = true ∧ y.1 ≠ l.1 := fun ⟨y, hy, h1, h2⟩ => h2 ((hall y hy h1).trans he)
      refine ⟨fun d hd => ?_, ⟨fun h => (by cases h), fun h => absurd h hn⟩, ⟨fun _ => ⟨⟨f, k1 f hfm, hfl'⟩, hn⟩, fun _ => rfl⟩, fun h => (by rw [h f (k1 f hfm)] at hfl'; cases hfl')⟩
      cases hd
      refine ⟨fun x hx => List.mem_append_left _ (k1 x hx), fun y hy => ?_, k3⟩
      rcases List.mem_append.1 hy with hy | hy
      · exact k2 y hy
      · simp at hy; subst hy
        exact ⟨f, hfm, hfl, he⟩
    · rw [if_neg he]
      refine ⟨fun d hd => (by cases hd), ⟨fun _ => ⟨f, k1 f hfm, hfl', he⟩, fun _ => rfl⟩, ⟨fun h => (by cases h), fun h => absurd ⟨f, k1 f hfm, hfl', he⟩ h.2⟩, fun h => (by rw [h f (k1 f hfm)] at hfl'; cases hfl')⟩
theorem kept_nil : Kept [] [] := ⟨fun _ h => h, fun _ h => (by cases h), List.Pairwise.nil⟩
theorem dist_kept {P out : Cl} (hP : ∀ x ∈ P, okL x) (h : distC P = some out) : Kept P out := by
  have key : ∀ (n : Nat) (out : Cl), n ≤ P.length → distC (P.take n) = some out → Kept (P.take n) out := by
    intro n
    induction n with
    | zero => intro out _ h; simp [distC] at h; subst h; exact kept_nil
    | succ n ih =>
      intro out hn h
      have hl : P[n]? = some P[n] := List.getElem?_eq_getElem (by omega)
      rw [dist_take hl] at h
      cases hd : distC (P.take n) with
      | none => rw [hd] at h; simp [dstep] at h
      | some e =>
        rw [hd] at h
        have := (kept_step (ih e (by omega) hd) (fun x hx => hP x (List.mem_of_mem_take hx)) (hP _ (List.getElem_mem _)) h).1 out rfl
        rwa [List.take_add_one, hl]
  have := key P.length out (Nat.le_refl _) (by rw [List.take_length]; exact h)
  rwa [List.take_length] at this
end Go.Proofs.YtlgnpiphaeoeiadDoor
