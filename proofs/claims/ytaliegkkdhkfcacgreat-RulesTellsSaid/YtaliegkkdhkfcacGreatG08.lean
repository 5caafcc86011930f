/- BM ExtP RGen RMore BS RSolP -/
import Derived.Test.YtaliegkkdhkfcacGreatG07
import Derived.Deep.RegionLaw
namespace Go.Proofs.YtaliegkkdhkfcacGreat
open Go.RowKit Go.Deep Go.ChangeShapes Go.WideShapes
def extF : Fo → Fo → Sb → Option Sb
  | .nil, _, s => some s
  | .node _ _ _ _ _, .nil, _ => none
  | .node _ _ x k r, .node _ _ y l q, s =>
    (if x.1 then (match look s x.2 with
      | none => some (s ++ [(x.2, (y, l))])
      | some u => if sameT u.1 u.2 y l then some s else none)
    else if y.1 = false ∧ y.2 = x.2 ∧ Fo.len l = Fo.len k then extF k l s else none).bind (extF r q)
def extT (s : Sb) (t u : Tm) : Option Sb :=
  if t.1.1 then (match look s t.1.2 with
    | none => some (s ++ [(t.1.2, u)])
    | some z => if sameT z.1 z.2 u.1 u.2 then some s else none)
  else if u.1.1 = false ∧ u.1.2 = t.1.2 ∧ Fo.len u.2 = Fo.len t.2 then extF t.2 u.2 s else none
end Go.Proofs.YtaliegkkdhkfcacGreat

namespace Go.Proofs.YtaliegkkdhkfcacGreat
open Go.RowKit Go.Deep Go.ChangeShapes Go.WideShapes
theorem Tryz.info92 : (Tryz.prog.info? 92).map (fun i => (i.zero, i.size, i.bytes)) = some (some (.agg #[.int .i64 0, .bool false, .int .i64 0, .slice none 0 0]), 4, 48) := by kernel_rfl
def PC (X : Nat → Prop) (w : World) : Sb → List Value → Prop
  | [], xs => xs = []
  | p :: s, xs => ∃ a ys, xs = .int .i64 p.1 :: .bool p.2.1.1 :: .int .i64 p.2.1.2 :: a :: ys ∧ SB X w p.2.2 a ∧ PC X w s ys
theorem PC.frame {X Y : Nat → Prop} {w w' : World} (hXY : ∀ q, X q → Y q) (hr : ∀ q i, X q → w'.cell? ⟨q, i, none⟩ = w.cell? ⟨q, i, none⟩) : ∀ {s : Sb} {xs : List Value}, PC X w s xs → PC Y w' s xs
  | [], _, h => h
  | _ :: _, _, ⟨a, ys, h1, h2, h3⟩ => ⟨a, ys, h1, h2.frame hXY hr, PC.frame hXY hr h3⟩
theorem PC.append {X : Nat → Prop} {w : World} {s' : Sb} {ys : List Value} (h' : PC X w s' ys) : ∀ {s : Sb} {xs : List Value}, PC X w s xs → PC X w (s ++ s') (xs ++ ys)
  | [], _, h => by rw [PC] at h; subst h; exact h'
  | _ :: _, _, ⟨a, zs, h1, h2, h3⟩ => by subst h1; exact ⟨a, zs ++ ys, rfl, h2, PC.append h' h3⟩
theorem PC.one {X : Nat → Prop} {w : World} {n : Int} {t : Tm} {a : Value} (h : SB X w t.2 a) : PC X w [(n, t)] [.int .i64 n, .bool t.1.1, .int .i64 t.1.2, a] := ⟨a, [], rfl, h, rfl⟩
theorem PC.len {X : Nat → Prop} {w : World} : ∀ {s : Sb} {xs : List Value}, PC X w s xs → xs.length = s.length * 4
  | [], _, h => by rw [PC] at h; subst h; rfl
  | _ :: _, _, ⟨a, ys, h1, _, h3⟩ => by subst h1; simp only [List.length_cons, h3.len]; omega
theorem PC.at {X : Nat → Prop} {w : World} {g : Nat} : ∀ {s : Sb} {xs : List Value} {o : Nat}, PC X w s xs → (∀ j, j < xs.length → w.cell? ⟨g, o + j, none⟩ = xs[j]?) → PIn w s g o
  | [], _, _, _, _ => trivial
  | p :: s, _, o, ⟨a, ys, h1, h2, h3⟩, hc => by
    subst h1
    have c0 := hc 0 (by simp)
    have c1 := hc 1 (by simp)
    have c2 := hc 2 (by simp)
    have c3 := hc 3 (by simp)
    refine ⟨by simpa using c0, by simpa using c1, by simpa using c2, ⟨a, by simpa using c3, h2.toS⟩, ?_⟩
    refine PC.at h3 (fun j hj => ?_)
    have := hc (j + 4) (by simp; omega)
    rw [show o + 4 + j = o + (j + 4) by omega, this]
    simp
theorem row_sub {X : Nat → Prop} {w : World} {lo : Nat} {v : Value} {s : Sb} {xs : List Value} (h : w.ownsRow lo 92 4 v s.length xs) (hc : PC X w s xs) : SubIn w s v := by
  have hcells := fun g hg => h.cells (g := g) hg
  rcases h.2 with ⟨rfl, h0⟩ | ⟨g, cap, cur, rfl, hl, hh, hn, hm, hs, ht⟩
  · have : s = [] := List.length_eq_zero_iff.1 h0
    subst this
    exact SubIn.nil w
  · refine ⟨_, cap, g, 0, rfl, fun _ => rfl, hn, hm, hc.at (fun j hj => ?_)⟩
    have := hcells g rfl j (xs[j]'hj) (List.getElem?_eq_getElem hj)
    rw [List.getElem?_eq_getElem hj]
    rw [add_plain] at this
    exact this
def Ex (X : Nat → Prop) (w w' : World) (v : Value) : Nat → Prop := fun q => X q ∨ (w.heap.size ≤ q ∧ q < w'.heap.size ∧ some q ≠ v.ownBlock)
def Mv (w : World) (v v' : Value) : Prop := v'.ownBlock = v.ownBlock ∨ ∀ g, v'.ownBlock = some g → w.heap.size ≤ g
structure OwnS (lo : Nat) (X : Nat → Prop) (w : World) (s : Sb) (v : Value) (xs : List Value) : Prop where
  row : w.ownsRow lo 92 4 v s.length xs
  cells : PC X w s xs
  off : ∀ q, X q → q < w.heap.size ∧ some q ≠ v.ownBlock
theorem OwnS.sub {lo : Nat} {X : Nat → Prop} {w : World} {s : Sb} {v : Value} {xs : List Value} (h : OwnS lo X w s v xs) : SubIn w s v := row_sub h.row h.cells
theorem OwnS.slice {lo : Nat} {X : Nat → Prop} {w : World} {s : Sb} {v : Value} {xs : List Value} (h : OwnS lo X w s v xs) : ∃ z1 z3, v = .slice z1 s.length z3 := slice_of_sub h.sub
theorem OwnS.below {lo : Nat} {X : Nat → Prop} {w w' : World} {s : Sb} {v : Value} {xs : List Value} (h : OwnS lo X w s v xs) (hb : Below w.heap.size w w') : OwnS lo X w' s v xs :=
  ⟨owns_keep h.row (fun g hg => hb.block g (owns_at h.row g hg).2), h.cells.frame (fun _ hq => hq) (fun q _ hq => World.cell?_of_block (hb.block q (h.off q hq).1)), fun q hq => ⟨Nat.lt_of_lt_of_le (h.off q hq).1 hb.size, (h.off q hq).2⟩⟩
theorem OwnS.wide {lo : Nat} {X Y : Nat → Prop} {w : World} {s : Sb} {v : Value} {xs : List Value} (h : OwnS lo X w s v xs) (hXY : ∀ q, X q → Y q) (hY : ∀ q, Y q → q < w.heap.size ∧ some q ≠ v.ownBlock) : OwnS lo Y w s v xs :=
  ⟨h.row, h.cells.frame hXY (fun _ _ _ => rfl), hY⟩
theorem SB.wide {X Y : Nat → Prop} {w : World} {k : Fo} {a : Value} (h : SB X w k a) (hXY : ∀ q, X q → Y q) : SB Y w k a := h.frame hXY (fun _ _ _ => rfl)
theorem SB.kept {X : Nat → Prop} {w w' : World} {k : Fo} {a : Value} (h : SB X w k a) (hr : ∀ q, X q → w'.heap[q]? = w.heap[q]?) : SB X w' k a := h.frame (fun _ hq => hq) (fun q _ hq => World.cell?_of_block (hr q hq))
theorem own_next {lo : Nat} {X : Nat → Prop} {w wr wa w2 : World} {s2 : Sb} {v v1 v2 : Value} {xs2 : List Value} (hf : Fr w wr v.ownBlock none) (hm : Mv w v v1) (hX : ∀ q, X q → q < w.heap.size ∧ some q ≠ v.ownBlock)
    (hb : Below wr.heap.size wr wa) (h2 : OwnS lo (Ex (Ex X w wr v1) wa w2 v2) w2 s2 v2 xs2) (hf2 : Fr wa w2 v1.ownBlock none) (hm2 : Mv wa v1 v2) :
    OwnS lo (Ex X w w2 v2) w2 s2 v2 xs2 ∧ Fr w w2 v.ownBlock none ∧ Mv w v v2 := by
  have s1' := hf.size
  have s2' := hb.size
  have s3' := hf2.size
  have mv : ∀ g, v2.ownBlock = some g → v.ownBlock = some g ∨ w.heap.size ≤ g := fun g hg => by
    rcases hm2 with e | e
    · rw [e] at hg
      rcases hm with e' | e'
      · rw [e'] at hg; exact .inl hg
      · exact .inr (e' g hg)
    · have := e g hg; exact .inr (by omega)
  refine ⟨h2.wide (fun q hq => ?_) (fun q hq => ?_), ?_, ?_⟩
  · rcases hq with hq | hq
    · rcases hq with hq | hq
      · exact .inl hq
      · refine .inr ⟨hq.1, by omega, fun e => ?_⟩
        rcases hm2 with e' | e'
        · rw [e'] at e; exact hq.2.2 e
        · have := e' q e.symm; omega
    · exact .inr ⟨by omega, hq.2⟩
  · rcases hq with hq | hq
    · have := hX q hq
      refine ⟨by omega, fun e => ?_⟩
      rcases mv q e.symm with h | h
      · exact this.2 h.symm
      · omega
    · exact hq.2
  · refine hf.trans (g1 := v.ownBlock) (g2 := none) (h1 := v1.ownBlock) (h2 := none) ⟨hf2.os.trans hb.os, hf2.tape.trans hb.tape, hf2.output.trans hb.output, by omega, fun q hq e1 e2 => ?_⟩ (fun q hq h => ?_)
    · rw [hf2.block q (by omega) e1 e2, hb.block q hq]
    · rcases h with h | h
      · rcases hm with e | e
        · rw [e] at h; exact .inl h
        · have := e q h.symm; omega
      · cases h
  · rcases hm2 with e | e
    · rcases hm with e' | e'
      · exact .inl (e.trans e')
      · exact .inr fun g hg => e' g (by rw [← e]; exact hg)
    · exact .inr fun g hg => by have := e g hg; omega
end Go.Proofs.YtaliegkkdhkfcacGreat

namespace Go.Proofs.YtaliegkkdhkfcacGreat
open Go.RowKit Go.Deep Go.ChangeShapes Go.WideShapes
def Cs (w : World) (lv : Value) (m size : Nat) (news : List Value) : Prop :=
  ∃ (a : Option Addr) (c : Nat), lv = .slice a m c ∧ news.length = m * size ∧ (∀ u ∈ news, u.oneCell' = true) ∧ (a = none → m = 0) ∧ ∀ ad, a = some ad → ∀ j u, news[j]? = some u → w.cell? (ad.add j) = some u
theorem append_nothing {w : World} (base : Nat) (t ty e : TypeId) (i : TypeInfo) (size : Nat) (ht : Tryz.prog.underlying t = some (.slice e)) (hi : Tryz.prog.info? e = some i) (v : Value) (n c : Nat) (xs : List Value) (hown : w.ownsRow base e size v n xs) :
    (Builtin.append_ #[t, t] ty #[v, .slice none 0 c]).run Tryz.prog w = .ok v w := by
  rcases hown.2 with ⟨rfl, rfl⟩ | ⟨g, cap, cur, rfl, _, _, hnc, _⟩
  · simp [Builtin.append_, run_underlying ht, sizeOf, typeInfo, hi, Builtin.lenOf, Builtin.firstCells]
  · simp [Builtin.append_, run_underlying ht, sizeOf, typeInfo, hi, Builtin.lenOf, Builtin.firstCells, hnc, storeCells]
theorem run_append_gen {w : World} (base : Nat) (t ty e : TypeId) (i : TypeInfo) (z : Value) (size bytes : Nat) (ht : Tryz.prog.underlying t = some (.slice e)) (hi : Tryz.prog.info? e = some i) (hz : i.zero = some z) (hsize : i.size = size) (hby : i.bytes = bytes) (hzs : z.cells.size = size) (hsz : 0 < size)
    (v : Value) (n : Nat) (xs : List Value) (hown : w.ownsRow base e size v n xs) (lv : Value) (m : Nat) (news : List Value) (hC : Cs w lv m size news) (h63 : n + m ≤ maxLen) (hb : (n + m) * bytes ≤ 140737488355328) (hbase : base ≤ w.heap.size) :
    ∃ v' w', (Builtin.append_ #[t, t] ty #[v, lv]).run Tryz.prog w = .ok v' w' ∧ w'.ownsRow base e size v' (n + m) (xs ++ news) ∧ w.grownBy w' v.ownBlock ∧ (v'.ownBlock = v.ownBlock ∨ v'.ownBlock = some w.heap.size) := by
  obtain ⟨a, c, rfl, hl, h1, h0, hc⟩ := hC
  cases a with
  | none =>
    have hm := h0 rfl
    subst hm
    have hn : news = [] := List.length_eq_zero_iff.1 (by rw [hl]; simp)
    subst hn
    exact ⟨v, w, append_nothing base t ty e i size ht hi v n c xs hown, by simpa using hown, ⟨rfl, rfl, rfl, Nat.le_refl _, fun _ _ _ => rfl⟩, .inl rfl⟩
  | some ad =>
    obtain ⟨v', w', hr, h2, h3, _, h5⟩ := run_append_own_at (P := Tryz.prog) w base t ty e i z size bytes ht hi hz hsize hby hzs hsz v n xs hown ad m c news hl (hc ad rfl) h1 h63 hb hbase
    exact ⟨v', w', hr, h2, h3, h5⟩
theorem wp_append_gen {w : World} {o : Oper} {a : Act} {K : Act → World → Prop} {Q : Exit → Act → World → Prop} (s x : Operand) (t : TypeId)
    (ho : o.op = .call { callee := .builtin .append, args := #[s, x], argTypes := #[t, t] }) (base : Nat) (e : TypeId) (i : TypeInfo) (z : Value) (size bytes : Nat) (ht : Tryz.prog.underlying t = some (.slice e)) (hi : Tryz.prog.info? e = some i) (hz : i.zero = some z) (hsize : i.size = size) (hby : i.bytes = bytes) (hzs : z.cells.size = size) (hsz : 0 < size)
    (v : Value) (n : Nat) (xs : List Value) (hs : a.eval s = v) (hown : w.ownsRow base e size v n xs) (lv : Value) (m : Nat) (news : List Value) (hx : a.eval x = lv) (hC : Cs w lv m size news) (h63 : n + m ≤ maxLen) (hb : (n + m) * bytes ≤ 140737488355328) (hbase : base ≤ w.heap.size)
    (h : ∀ v' w', w'.ownsRow base e size v' (n + m) (xs ++ news) → w.grownBy w' v.ownBlock → (v'.ownBlock = v.ownBlock ∨ v'.ownBlock = some w.heap.size) → K (a.put o.dst v') w') : o.wp Tryz.prog a w K Q := by
  obtain ⟨v', w', hr, h2, h3, h4⟩ := run_append_gen base t o.type e i z size bytes ht hi hz hsize hby hzs hsz v n xs hown lv m news hC h63 hb hbase
  unfold Oper.wp execOp
  simp only [ho, resolve, invoke, builtin, Sem.run_bind, Sem.run_pure, Result.andThen_ok, List.map_toArray, List.map_cons, List.map_nil, hs, hx, hr]
  exact h v' w' h2 h3 h4
theorem step_append_gen {w : World} {ops : Array Oper} {o : Oper} {a : Act} {K : Act → World → Prop} {Q : Exit → Act → World → Prop} {E : Prop} (hgd : o.guard = none) (s x : Operand) (t : TypeId)
    (ho : o.op = .call { callee := .builtin .append, args := #[s, x], argTypes := #[t, t] }) (base : Nat) (e : TypeId) (i : TypeInfo) (z : Value) (size bytes : Nat) (ht : Tryz.prog.underlying t = some (.slice e)) (hi : Tryz.prog.info? e = some i) (hz : i.zero = some z) (hsize : i.size = size) (hby : i.bytes = bytes) (hzs : z.cells.size = size) (hsz : 0 < size)
    (v : Value) (n : Nat) (xs : List Value) (hs : a.eval s = v) (hown : w.ownsRow base e size v n xs) (lv : Value) (m : Nat) (news : List Value) (hx : a.eval x = lv) (hC : Cs w lv m size news) (h63 : n + m ≤ maxLen) (hb : (n + m) * bytes ≤ 140737488355328) (hbase : base ≤ w.heap.size)
    (h : ∀ v' w', w'.ownsRow base e size v' (n + m) (xs ++ news) → w.grownBy w' v.ownBlock → (v'.ownBlock = v.ownBlock ∨ v'.ownBlock = some w.heap.size) → K (a.put o.dst v') w') :
    if Region.wanted o (yielded ops a.tmps) = true then Oper.wp Tryz.prog o a w K Q else E := by
  have hw : Region.wanted o (yielded ops a.tmps) = true := by simp [Region.wanted, hgd]
  rw [if_pos hw]
  exact wp_append_gen s x t ho base e i z size bytes ht hi hz hsize hby hzs hsz v n xs hs hown lv m news hx hC h63 hb hbase h
theorem wpList_append_gen {w : World} {ops : Array Oper} {rest : List Oper} {o : Oper} {a : Act} {Q : Exit → Act → World → Prop} (hgd : o.guard = none) (s x : Operand) (t : TypeId)
    (ho : o.op = .call { callee := .builtin .append, args := #[s, x], argTypes := #[t, t] }) (base : Nat) (e : TypeId) (i : TypeInfo) (z : Value) (size bytes : Nat) (ht : Tryz.prog.underlying t = some (.slice e)) (hi : Tryz.prog.info? e = some i) (hz : i.zero = some z) (hsize : i.size = size) (hby : i.bytes = bytes) (hzs : z.cells.size = size) (hsz : 0 < size)
    (v : Value) (n : Nat) (xs : List Value) (hs : a.eval s = v) (hown : w.ownsRow base e size v n xs) (lv : Value) (m : Nat) (news : List Value) (hx : a.eval x = lv) (hC : Cs w lv m size news) (h63 : n + m ≤ maxLen) (hb : (n + m) * bytes ≤ 140737488355328) (hbase : base ≤ w.heap.size)
    (h : ∀ v' w', w'.ownsRow base e size v' (n + m) (xs ++ news) → w.grownBy w' v.ownBlock → (v'.ownBlock = v.ownBlock ∨ v'.ownBlock = some w.heap.size) → wpList Tryz.prog ops Q rest (a.put o.dst v') w') : wpList Tryz.prog ops Q (o :: rest) a w :=
  wpList_plain hgd fun _ hK => wp_append_gen s x t ho base e i z size bytes ht hi hz hsize hby hzs hsz v n xs hs hown lv m news hx hC h63 hb hbase fun v' w' h2 h3 h4 => hK _ _ (h v' w' h2 h3 h4)
theorem own_bare {w : World} {base b : Nat} {e : TypeId} {size : Nat} (h : w.heap[b]? = some (.cells #[] e)) (hb : base ≤ b) : w.ownsRow base e size (.slice (some ⟨b, 0, none⟩) 0 0) 0 [] :=
  ⟨by simp, .inr ⟨b, 0, #[], rfl, hb, h, Nat.le_refl _, Nat.zero_le _, by simp, by simp⟩⟩
theorem fin_cells {w : World} {b : Nat} : ∀ {F : Fo} {o : Nat}, FIn w F b o → ∃ news : List Value, news.length = Fo.len F * 3 ∧ CellsOf (fun q => q < w.heap.size) w F news ∧ ∀ j u, news[j]? = some u → w.cell? ⟨b, o + j, none⟩ = some u
  | .nil, _, _ => ⟨[], rfl, rfl, fun j u h => by simp at h⟩
  | .node p q x k r, o, h => by
    obtain ⟨h0, h1, ⟨v, h2, h3⟩, h4⟩ := FIn.node h
    obtain ⟨news, hl, hP, hc⟩ := fin_cells h4
    refine ⟨.bool x.1 :: .int .i64 x.2 :: v :: news, by simp only [List.length_cons, hl, Fo.len]; omega, ⟨v, news, rfl, h3.toB, hP⟩, fun j u hj => ?_⟩
    match j, hj with
    | 0, hj => simp at hj; subst hj; simpa using h0
    | 1, hj => simp at hj; subst hj; simpa using h1
    | 2, hj => simp at hj; subst hj; simpa using h2
    | j + 3, hj =>
      have := hc j u (by simpa using hj)
      rw [show o + (j + 3) = o + 3 + j by omega]
      exact this
theorem terms_cells {w : World} {F : Fo} {v : Value} (h : SIn w F v) : ∃ news, Cs w v (Fo.len F) 3 news ∧ CellsOf (fun q => q < w.heap.size) w F news := by
  obtain ⟨a, c, b, o, rfl, h1, h2, h3, h4⟩ := h
  obtain ⟨news, hl, hP, hc⟩ := fin_cells h4
  refine ⟨news, ⟨a, c, rfl, hl, hP.one, fun e => ?_, fun ad e j u hj => ?_⟩, hP⟩
  · subst e
    rcases Nat.eq_zero_or_pos (Fo.len F) with h | h
    · exact h
    · have := h1 h; cases this
  · have hj' := (List.getElem?_eq_some_iff.1 hj).1
    have hae : ad = ⟨b, o, none⟩ := by
      have := h1 (by omega)
      rw [e] at this
      exact Option.some.inj this
    rw [hae, add_plain]
    exact hc j u hj
end Go.Proofs.YtaliegkkdhkfcacGreat

namespace Go.Proofs.YtaliegkkdhkfcacGreat
open Go.RowKit Go.Deep Go.ChangeShapes Go.WideShapes
attribute [local go_sem ↓] Go.wp_at_zero Go.wp_at_succ
theorem Cs.below {w w' : World} {lv : Value} {m size : Nat} {news : List Value} (h : Cs w lv m size news) (hb : Below w.heap.size w w') : Cs w' lv m size news := by
  obtain ⟨a, c, h1, h2, h3, h4, h5⟩ := h
  exact ⟨a, c, h1, h2, h3, h4, fun ad e j u hj => grow_cell hb _ _ (h5 ad e j u hj)⟩
theorem cs_pair {w : World} {e : Nat} {n yn : Int} {yv : Bool} {a : Option Addr} {l c : Nat} (h : w.heap[e]? = some (.cells #[.int .i64 n, .bool yv, .int .i64 yn, .slice a l c] 92)) : Cs w (.slice (some ⟨e, 0, none⟩) 1 1) 1 4 [.int .i64 n, .bool yv, .int .i64 yn, .slice a l c] :=
  ⟨_, 1, rfl, rfl, by simp [Value.oneCell'], fun e => by (cases e), fun ad hh j u hj => by cases hh; exact World.news_of_block (cs := #[.int .i64 n, .bool yv, .int .i64 yn, .slice a l c]) h j u hj⟩
end Go.Proofs.YtaliegkkdhkfcacGreat

namespace Go.Proofs.YtaliegkkdhkfcacGreat
open Go.RowKit Go.Deep Go.ChangeShapes Go.WideShapes
theorem runU_step {m : Nat} {s s' : Sb} {p : Tm × Tm} {L L' : List (Tm × Tm)} {R : Option Sb} (h : stepU s p.1 p.2 L = some (s', L')) : runU (m + 1) s (p :: L) = some R ↔ runU m s' L' = some R := by
  simp [runU, h]
theorem runU_stop {m : Nat} {s : Sb} {p : Tm × Tm} {L : List (Tm × Tm)} {R : Option Sb} (h : stepU s p.1 p.2 L = none) : runU (m + 1) s (p :: L) = some R ↔ R = none := by
  simp [runU, h, eq_comm]
theorem sub_var {s : Sb} {t : Tm} (h : t.1.1 = true) (hf : look s t.1.2 = none) : subT (bnd s) t = vr t.1.2 := by
  unfold subT
  rw [if_pos h]
  exact bnd_none hf
theorem sub_sym {s : Sb} {t : Tm} (h : ¬ t.1.1 = true) : subT (bnd s) t = ((false, t.1.2), subF (bnd s) t.2) := by
  unfold subT
  rw [if_neg h]
theorem run_skip : ∀ (n : Nat) (s : Sb) (p : Tm × Tm) (L : List (Tm × Tm)) (R : Option Sb), UI s (p :: L) → runU n s (p :: L) = some R → subT (bnd s) p.1 = subT (bnd s) p.2 → ∃ m, m < n ∧ runU m s L = some R := by
  intro n
  induction n using Nat.strongRecOn with
  | _ n ih =>
    intro s p L R h hr he
    cases n with
    | zero => simp [runU] at hr
    | succ n =>
      have t1 := top_sub h.idem (ui_ok h) p.1
      have t2 := top_sub h.idem (ui_ok h) p.2
      have exy : subT (bnd s) (top s p.1) = subT (bnd s) (top s p.2) := by rw [t1, t2, he]
      by_cases hx : (top s p.1).1.1 = true
      · have ex := sub_var hx (top_free h.idem hx)
        by_cases hy : (top s p.2).1.1 = true
        · have ey := sub_var hy (top_free h.idem hy)
          rw [ex, ey] at exy
          have hst : stepU s p.1 p.2 L = some (s, L) := by
            unfold stepU
            rw [if_pos ⟨hx, hy, by simpa [vr] using exy⟩]
          exact ⟨n, Nat.lt_succ_self n, (runU_step hst).1 hr⟩
        · rw [ex, sub_sym hy] at exy
          simp [vr] at exy
      · by_cases hy : (top s p.2).1.1 = true
        · rw [sub_var hy (top_free h.idem hy), sub_sym hx] at exy
          simp [vr] at exy
        · rw [sub_sym hx, sub_sym hy] at exy
          simp only [Prod.mk.injEq, true_and] at exy
          have hl : Fo.len (top s p.1).2 = Fo.len (top s p.2).2 := by rw [← subF_len (bnd s), exy.2, subF_len]
          have hst : stepU s p.1 p.2 L = some (s, (top s p.1).2.list.zip (top s p.2).2.list ++ L) := by
            unfold stepU
            rw [if_neg (fun e => hx e.1), if_neg hx, if_neg hy, if_pos ⟨exy.1, hl⟩]
          have hU := (step_keeps h hst).1
          have hz := subF_zip exy.2
          have hr' := (runU_step hst).1 hr
          -- all of them, one after the other
          have all : ∀ (M : List (Tm × Tm)) (k : Nat), k ≤ n → UI s (M ++ L) → (∀ q ∈ M, subT (bnd s) q.1 = subT (bnd s) q.2) → runU k s (M ++ L) = some R → ∃ m, m ≤ n ∧ runU m s L = some R := by
            intro M
            induction M with
            | nil => intro k hk _ _ hk2; exact ⟨k, hk, hk2⟩
            | cons q M ihM =>
              intro k hk hUk hq hk2
              obtain ⟨m, hm, hm2⟩ := ih k (by omega) s q (M ++ L) R hUk hk2 (hq q (by simp))
              exact ihM m (by omega) (ui_tail hUk) (fun z hz => hq z (by simp [hz])) hm2
          obtain ⟨m, hm, hm2⟩ := all _ n (Nat.le_refl _) hU hz hr'
          exact ⟨m, by omega, hm2⟩
theorem run_sym {n : Nat} {s : Sb} {p : Tm × Tm} {L : List (Tm × Tm)} {R : Option Sb} (h : UI s (p :: L)) (hr : runU n s (p :: L) = some R) (hx : ¬ (subT (bnd s) p.1).1.1 = true) (hy : ¬ (subT (bnd s) p.2).1.1 = true) :
    (¬ ((subT (bnd s) p.1).1.2 = (subT (bnd s) p.2).1.2 ∧ Fo.len (subT (bnd s) p.1).2 = Fo.len (subT (bnd s) p.2).2) → R = none) ∧
    ((subT (bnd s) p.1).1.2 = (subT (bnd s) p.2).1.2 ∧ Fo.len (subT (bnd s) p.1).2 = Fo.len (subT (bnd s) p.2).2 → ∃ m M, m < n ∧ UI s (M ++ L) ∧ runU m s (M ++ L) = some R ∧ M.map (fun q => subT (bnd s) q.1) = (subT (bnd s) p.1).2.list ∧ M.map (fun q => subT (bnd s) q.2) = (subT (bnd s) p.2).2.list) := by
  cases n with
  | zero => simp [runU] at hr
  | succ n =>
    have t1 := top_sub h.idem (ui_ok h) p.1
    have t2 := top_sub h.idem (ui_ok h) p.2
    rw [← t1] at hx ⊢
    rw [← t2] at hy ⊢
    have hx' : ¬ (top s p.1).1.1 = true := fun e => hx (by rw [sub_var e (top_free h.idem e)]; rfl)
    have hy' : ¬ (top s p.2).1.1 = true := fun e => hy (by rw [sub_var e (top_free h.idem e)]; rfl)
    rw [sub_sym hx', sub_sym hy']
    simp only [subF_len]
    refine ⟨fun hc => ?_, fun hc => ?_⟩
    · have hst : stepU s p.1 p.2 L = none := by
        unfold stepU
        rw [if_neg (fun e => hx' e.1), if_neg hx', if_neg hy', if_neg hc]
      exact (runU_stop hst).1 hr
    · have hst : stepU s p.1 p.2 L = some (s, (top s p.1).2.list.zip (top s p.2).2.list ++ L) := by
        unfold stepU
        rw [if_neg (fun e => hx' e.1), if_neg hx', if_neg hy', if_pos hc]
      refine ⟨n, _, Nat.lt_succ_self n, (step_keeps h hst).1, (runU_step hst).1 hr, ?_, ?_⟩
      · have e : ((top s p.1).2.list.zip (top s p.2).2.list).map Prod.fst = (top s p.1).2.list := by
          rw [List.map_fst_zip]
          rw [Fo.len_list, Fo.len_list]; omega
        have e2 := congrArg (List.map (subT (bnd s))) e
        rw [List.map_map] at e2
        rw [subF_list]
        exact e2
      · have e : ((top s p.1).2.list.zip (top s p.2).2.list).map Prod.snd = (top s p.2).2.list := by
          rw [List.map_snd_zip]
          rw [Fo.len_list, Fo.len_list]; omega
        have e2 := congrArg (List.map (subT (bnd s))) e
        rw [List.map_map] at e2
        rw [subF_list]
        exact e2
theorem run_var {n : Nat} {s : Sb} {p : Tm × Tm} {L : List (Tm × Tm)} {R : Option Sb} {u v : Tm} (h : UI s (p :: L)) (hr : runU n s (p :: L) = some R) (hne : subT (bnd s) p.1 ≠ subT (bnd s) p.2)
    (huv : (u = subT (bnd s) p.1 ∧ v = subT (bnd s) p.2 ∧ u.1.1 = true) ∨ (u = subT (bnd s) p.2 ∧ v = subT (bnd s) p.1 ∧ u.1.1 = true ∧ ¬ v.1.1 = true)) :
    (addS s u.1.2 v = none → R = none) ∧ ∀ s1, addS s u.1.2 v = some s1 → ∃ m, m < n ∧ UI s1 L ∧ runU m s1 L = some R ∧ Ref s s1 := by
  cases n with
  | zero => simp [runU] at hr
  | succ n =>
    have t1 := top_sub h.idem (ui_ok h) p.1
    have t2 := top_sub h.idem (ui_ok h) p.2
    have key : ∃ x y, (x = top s p.1 ∧ y = top s p.2 ∨ x = top s p.2 ∧ y = top s p.1) ∧ x.1.1 = true ∧ x.1.2 = u.1.2 ∧ subT (bnd s) y = v ∧ stepU s p.1 p.2 L = (addS s x.1.2 (subT (bnd s) y)).map fun s' => (s', L) := by
      rcases huv with ⟨hu, hv, h1⟩ | ⟨hu, hv, h1, h2⟩
      · rw [← t1] at hu
        rw [← t2] at hv
        have hx : (top s p.1).1.1 = true := by
          by_cases e : (top s p.1).1.1 = true
          · exact e
          · rw [hu, sub_sym e] at h1; simp at h1
        have hun : (top s p.1).1.2 = u.1.2 := by rw [hu, sub_var hx (top_free h.idem hx)]; rfl
        refine ⟨_, _, .inl ⟨rfl, rfl⟩, hx, hun, hv.symm, ?_⟩
        unfold stepU
        rw [if_neg, if_pos hx]
        rintro ⟨_, hy, hxy⟩
        apply hne
        rw [← t1, ← t2, sub_var hx (top_free h.idem hx), sub_var hy (top_free h.idem hy), hxy]
      · rw [← t2] at hu
        rw [← t1] at hv
        have hy : (top s p.2).1.1 = true := by
          by_cases e : (top s p.2).1.1 = true
          · exact e
          · rw [hu, sub_sym e] at h1; simp at h1
        have hx : ¬ (top s p.1).1.1 = true := fun e => h2 (by rw [hv, sub_var e (top_free h.idem e)]; rfl)
        have hun : (top s p.2).1.2 = u.1.2 := by rw [hu, sub_var hy (top_free h.idem hy)]; rfl
        refine ⟨_, _, .inr ⟨rfl, rfl⟩, hy, hun, hv.symm, ?_⟩
        unfold stepU
        rw [if_neg (fun e => hx e.1), if_neg hx, if_pos hy]
    obtain ⟨x, y, hxy, hxv, hxn, hyv, hst⟩ := key
    rw [hyv, hxn] at hst
    refine ⟨fun e => ?_, fun s1 e => ?_⟩
    · rw [e] at hst
      exact (runU_stop hst).1 hr
    · have ha : addS s x.1.2 (subT (bnd s) y) = some s1 := by rw [hyv, hxn]; exact e
      rw [e] at hst
      obtain ⟨k1, _, k3, _⟩ := step_add h hxy hxv ha
      exact ⟨n, Nat.lt_succ_self n, k1, (runU_step hst).1 hr, k3⟩
end Go.Proofs.YtaliegkkdhkfcacGreat

namespace Go.Proofs.YtaliegkkdhkfcacGreat
open Go.RowKit Go.Deep Go.ChangeShapes Go.WideShapes
def foOf : List Tm → Fo
  | [] => .nil
  | t :: ts => .node 0 0 t.1 t.2 (foOf ts)
theorem foOf_list : ∀ ts : List Tm, (foOf ts).list = ts
  | [] => rfl
  | t :: ts => by simp [foOf, Fo.list, foOf_list ts]
theorem foOf_len (ts : List Tm) : Fo.len (foOf ts) = ts.length := by rw [← Fo.len_list, foOf_list]
theorem foOf_of_ok : ∀ {F : Fo}, Fo.ok F → foOf F.list = F
  | .nil, _ => rfl
  | .node p q x k r, h => by
    obtain ⟨rfl, rfl, _, h4⟩ := ok_node.1 h
    simp [foOf, Fo.list, foOf_of_ok h4]
theorem CellsOf.app {X : Nat → Prop} {w : World} {b : List Tm} {ys : List Value} (h' : CellsOf X w (foOf b) ys) : ∀ {a : List Tm} {xs : List Value}, CellsOf X w (foOf a) xs → CellsOf X w (foOf (a ++ b)) (xs ++ ys)
  | [], xs, h => by
    have e : xs = [] := h
    subst e
    exact h'
  | t :: a, _, ⟨v, zs, h1, h2, h3⟩ => by
    subst h1
    exact ⟨v, zs ++ ys, rfl, h2, CellsOf.app h' h3⟩
def Row (lo : Nat) (w : World) (v : Value) (ts : List Tm) : Prop := ∃ xs, w.ownsRow lo 40 3 v ts.length xs ∧ CellsOf (fun q => q < lo) w (foOf ts) xs
def Apart (v u : Value) : Prop := ∀ g, v.ownBlock = some g → u.ownBlock ≠ some g
theorem Row.nil (lo : Nat) (w : World) : Row lo w (.slice none 0 0) [] := ⟨[], World.ownsRow_nil _ _ _ _, rfl⟩
theorem Row.alloc {lo : Nat} {w : World} {v : Value} {ts : List Tm} (h : Row lo w v ts) (hl : lo ≤ w.heap.size) (ob : Obj) : Row lo (w.alloc ob) v ts := by
  obtain ⟨xs, h1, h2⟩ := h
  exact ⟨xs, owns_keep h1 (fun g hg => Below.heap_alloc _ _ _ (owns_at h1 g hg).2), h2.frame (fun _ h => h) (fun q i hq => World.cell?_alloc_lt _ _ _ (by show q < _; omega))⟩
theorem Row.grown {lo : Nat} {w w' : World} {v u : Value} {ts : List Tm} (h : Row lo w v ts) (hl : lo ≤ w.heap.size) (hg : w.grownBy w' u.ownBlock) (ha : Apart v u) (hu : ∀ g, u.ownBlock = some g → lo ≤ g) : Row lo w' v ts := by
  obtain ⟨xs, h1, h2⟩ := h
  exact ⟨xs, owns_keep h1 (fun g hgg => hg.block g (owns_at h1 g hgg).2 (fun e => ha g hgg e.symm)), h2.frame (fun _ h => h) (fun q i hq => World.cell?_of_block (hg.block q (by show q < _; omega) (fun e => by have := hu q e.symm; omega)))⟩
theorem Row.sin {lo : Nat} {w : World} {v : Value} {ts : List Tm} (h : Row lo w v ts) : SIn w (foOf ts) v := by
  obtain ⟨xs, h1, h2⟩ := h
  rw [← foOf_len] at h1
  exact (row_sb (Y := fun _ => True) h1 h2 (fun _ _ => trivial) (fun _ _ => trivial)).toS
structure Side (wx w : World) (va : Value) (a : List Tm) (vb : Value) (b : List Tm) : Prop where
  below : Below wx.heap.size wx w
  ra : Row wx.heap.size w va a
  rb : Row wx.heap.size w vb b
  ap : Apart va vb
theorem Side.bareA {wx w : World} {vb : Value} {b : List Tm} {n : Nat} (h : Side wx w (.slice none 0 0) [] vb b) (hn : n = w.heap.size) : Side wx (w.alloc (.cells #[] 40)) (.slice (some ⟨n, 0, none⟩) 0 0) [] vb b := by
  subst hn
  refine ⟨h.below.alloc h.below.size _, ⟨[], own_bare (heap_alloc_new w _) h.below.size, rfl⟩, h.rb.alloc h.below.size _, fun g hg e => ?_⟩
  simp [Value.ownBlock] at hg
  obtain ⟨xs, h1, _⟩ := h.rb
  have := (owns_at h1 g e).2
  omega
theorem Side.swap {wx w : World} {va vb : Value} {a b : List Tm} (h : Side wx w va a vb b) : Side wx w vb b va a := ⟨h.below, h.rb, h.ra, fun g h1 h2 => h.ap g h2 h1⟩
theorem Side.bareB {wx w : World} {va : Value} {a : List Tm} {n : Nat} (h : Side wx w va a (.slice none 0 0) []) (hn : n = w.heap.size) : Side wx (w.alloc (.cells #[] 40)) va a (.slice (some ⟨n, 0, none⟩) 0 0) [] := (h.swap.bareA hn).swap
theorem step_app {wx w : World} {ops : Array Oper} {o : Oper} {c : Act} {K : Act → World → Prop} {Q : Exit → Act → World → Prop} {E : Prop} {va vb lv : Value} {a b ts : List Tm} (h : Side wx w va a vb b) (hS : SIn wx (foOf ts) lv) (hb : a.length + ts.length ≤ 100000) (hgd : o.guard = none) (s x : Operand)
    (ho : o.op = .call { callee := .builtin .append, args := #[s, x], argTypes := #[38, 38] }) (hs : c.eval s = va) (hx : c.eval x = lv)
    (k : ∀ v' w', Side wx w' v' (a ++ ts) vb b → K (c.put o.dst v') w') :
    if Region.wanted o (yielded ops c.tmps) = true then Oper.wp Tryz.prog o c w K Q else E := by
  obtain ⟨i26, hi26, hz0, hz1, hz2⟩ := info_parts Tryz.info40
  obtain ⟨xs, h1, h2⟩ := h.ra
  have hl := h.below.size
  obtain ⟨news, hC, hN⟩ : ∃ news, Cs w lv ts.length 3 news ∧ CellsOf (fun q => q < wx.heap.size) w (foOf ts) news := by
    obtain ⟨news, hC, hN⟩ := terms_cells hS
    rw [foOf_len] at hC
    exact ⟨news, hC.below h.below, hN.frame (fun _ h => h) (fun q i hq => h.below.cell hq)⟩
  refine step_append_gen hgd s x 38 ho wx.heap.size 40 i26 _ 3 40 Tryz.underlying38 hi26 hz0 hz1 hz2 rfl (by decide) va a.length xs hs h1 lv ts.length news hx hC (by unfold maxLen; omega) (by omega) hl ?_
  intro v' w' ho' hg' hat'
  have hva : ∀ g, va.ownBlock = some g → wx.heap.size ≤ g := fun g hg => (owns_at h1 g hg).1
  have hb' : Below wx.heap.size wx w' := h.below.grown hg' hl hva
  have hfr : ∀ (q i : Nat), q < wx.heap.size → w'.cell? ⟨q, i, none⟩ = w.cell? ⟨q, i, none⟩ := fun q i hq => (hb'.cell (p := ⟨q, i, none⟩) hq).trans (h.below.cell (p := ⟨q, i, none⟩) hq).symm
  have hcs : CellsOf (fun q => q < wx.heap.size) w' (foOf (a ++ ts)) (xs ++ news) := CellsOf.app (hN.frame (fun _ h => h) hfr) (h2.frame (fun _ h => h) hfr)
  refine k v' w' ⟨hb', ⟨xs ++ news, by rw [List.length_append]; exact ho', hcs⟩, h.rb.grown hl hg' (fun g e1 e2 => h.ap g e2 e1) hva, fun g e1 e2 => ?_⟩
  rcases hat' with e | e
  · exact h.ap g (e ▸ e1) e2
  · rw [e] at e1
    simp at e1
    obtain ⟨ys, h3, _⟩ := h.rb
    have := (owns_at h3 g e2).2
    omega
end Go.Proofs.YtaliegkkdhkfcacGreat
