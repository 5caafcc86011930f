/- What is put at a place: the document's Put. -/
import Derived.Test.YtleogbdinafpaaaG07
import Derived.Deep.RegionWith
namespace Go.Proofs.Ytleogbdinafpaaa
open Go.RowKit Go.Deep Go.ChangeShapes Go.WideShapes
attribute [local go_sem ↓] Go.wp_at_zero Go.wp_at_succ

def putR : List Int → (Bool × Int) × Fo → (Bool × Int) × Fo → (Bool × Int) × Fo
  | [], _, u => u
  | n :: p, t, u => if n < 0 ∨ (Fo.len t.2 : Int) ≤ n then t else (t.1, setF t.2 n.toNat (fun s => putR p s u))

theorem setF_congr {f g : (Bool × Int) × Fo → (Bool × Int) × Fo} : ∀ {F : Fo} {i : Nat}, (∀ y, F.list[i]? = some y → f y = g y) → setF F i f = setF F i g
  | .nil, _, _ => rfl
  | .node _ _ x k r, 0, h => by simp [setF, h (x, k) (by simp [Fo.list])]
  | .node _ _ x k r, i + 1, h => by simp [setF, setF_congr (F := r) (i := i) (fun y hy => h y (by simpa [Fo.list] using hy))]

theorem putR_putT {s : List Int} {u : (Bool × Int) × Fo} : ∀ {p : List Int} {x : Bool × Int} {k : Fo} {d : Int}, walkT s x k d = 0 → putR p (x, k) u = putT p (x, k) u
  | [], _, _, _, _ => rfl
  | n :: p, x, k, d, h => by
    obtain ⟨_, ha, hk⟩ := walkT_ok h
    rw [putR, putT]
    by_cases hn : n < 0 ∨ (Fo.len k : Int) ≤ n
    · rw [if_pos hn, if_pos (.inr hn)]
    · rw [if_neg hn]
      have hx : ¬ x.1 = true := fun hx => by
        obtain ⟨xv, xn⟩ := x
        simp only at hx
        subst hx
        obtain ⟨hl, _⟩ := alone_var ha
        rw [hl] at hn
        simp [Fo.len] at hn
        omega
      rw [if_neg (fun h => by rcases h with h | h; exact hx h; exact hn h)]
      exact congrArg (Prod.mk x) (setF_congr fun y hy => putR_putT (walk_at hk hy))

theorem setF_each (f : (Bool × Int) × Fo → (Bool × Int) × Fo) : ∀ (F : Fo) (i j : Nat) (y : (Bool × Int) × Fo), F.list[j]? = some y → (setF F i f).list[j]? = some (if j = i then f y else y)
  | .nil, _, _, _, h => by simp [Fo.list] at h
  | .node _ _ x k r, 0, 0, y, h => by simp [Fo.list] at h; simp [setF, Fo.list, h]
  | .node _ _ x k r, 0, j + 1, y, h => by simp [Fo.list] at h; simp [setF, Fo.list, h]
  | .node _ _ x k r, i + 1, 0, y, h => by simp [Fo.list] at h; simp [setF, Fo.list, h]
  | .node _ _ x k r, i + 1, j + 1, y, h => by
    have := setF_each f r i j y (by simpa [Fo.list] using h)
    simp [setF, Fo.list, this]

/-- The j-th term of what Put makes. -/
theorem putR_at {n : Int} {p : List Int} {x : Bool × Int} {k : Fo} {u y : (Bool × Int) × Fo} {j : Nat} (hy : k.list[j]? = some y) : (putR (n :: p) (x, k) u).2.list[j]? = some (if (j : Int) = n then putR p y u else y) := by
  have hj : j < Fo.len k := by rw [← Fo.len_list]; exact (List.getElem?_eq_some_iff.1 hy).1
  rw [putR]
  by_cases hn : n < 0 ∨ (Fo.len k : Int) ≤ n
  · rw [if_pos hn, if_neg (by omega)]; exact hy
  · rw [if_neg hn]
    simp only
    rw [setF_each _ _ _ _ _ hy]
    by_cases e : (j : Int) = n
    · rw [if_pos e, if_pos (by omega)]
    · rw [if_neg e, if_neg (by omega)]
theorem putR_len (n : Int) (p : List Int) (x : Bool × Int) (k : Fo) (u : (Bool × Int) × Fo) : Fo.len (putR (n :: p) (x, k) u).2 = Fo.len k ∧ (putR (n :: p) (x, k) u).1 = x := by
  rw [putR]
  split
  · exact ⟨rfl, rfl⟩
  · exact ⟨setF_len _ _ _, rfl⟩

theorem new_cell {w0 : World} {n i : Nat} {c : Array Value} {t : TypeId} (h : w0.heap.size = n) : (w0.alloc (.cells c t)).cell? ⟨n, i, none⟩ = c[i]? := by subst h; simp
theorem new_frozen {w0 : World} {n i : Nat} {c : Array Value} {t : TypeId} (h : w0.heap.size = n) : (w0.alloc (.cells c t)).frozen? ⟨n, i, none⟩ = false := by subst h; simp
theorem size2 (w : World) (o1 o2 : Obj) : ((w.alloc o1).alloc o2).heap.size = w.heap.size + 2 := by rw [World.size_alloc, World.size_alloc]
theorem size3 (w : World) (o1 o2 o3 : Obj) : (((w.alloc o1).alloc o2).alloc o3).heap.size = w.heap.size + 3 := by rw [World.size_alloc, size2]

/-- So far: j terms are copied. -/
def PutRel (w W0 : World) (X : Nat → Prop) (T : Fo) (xv : Bool) (xn : Int) (j : Nat) (wr : World) : Prop :=
  ∃ (acc : Fo) (v : Value) (xs : List Value), Fo.nl acc = (Fo.nl T).take j ∧ wr.ownsRow (w.heap.size + 4) 26 3 v (Fo.len acc) xs ∧ CellsOf (Rm (w.heap.size + 3) X wr v) wr acc xs ∧
    wr.cell? ⟨w.heap.size + 3, 0, none⟩ = some (.bool xv) ∧ wr.cell? ⟨w.heap.size + 3, 1, none⟩ = some (.int .i64 xn) ∧ wr.cell? ⟨w.heap.size + 3, 2, none⟩ = some v ∧ (∀ i, wr.frozen? ⟨w.heap.size + 3, i, none⟩ = false) ∧ Below (w.heap.size + 3) W0 wr

theorem nl_take {T : Fo} {j : Nat} {z : (Bool × Int) × Fo} (h : T.list[j]? = some z) : (Fo.nl T).take (j + 1) = (Fo.nl T).take j ++ [(z.1, Fo.norm z.2)] := by
  rw [List.take_add_one]
  congr 1
  simp [Fo.nl, h]

theorem put_next {w W0 wr w1 w3 : World} {X : Nat → Prop} {T acc r : Fo} {xv : Bool} {xn : Int} {j : Nat} {v v' a : Value} {z z' : Bool × Int} {r' : Fo} {g cap : Nat} {xs : List Value} {ob : Obj}
    (hnl : Fo.nl acc = (Fo.nl T).take j) (h1 : wr.ownsRow (w.heap.size + 4) 26 3 v (Fo.len acc) xs) (h2 : CellsOf (Rm (w.heap.size + 3) X wr v) wr acc xs) (hX : ∀ q, X q → q < w.heap.size)
    (q0 : wr.cell? ⟨w.heap.size + 3, 0, none⟩ = some (.bool xv)) (q1 : wr.cell? ⟨w.heap.size + 3, 1, none⟩ = some (.int .i64 xn)) (q2 : wr.cell? ⟨w.heap.size + 3, 2, none⟩ = some v) (qf : ∀ i, wr.frozen? ⟨w.heap.size + 3, i, none⟩ = false)
    (hB3 : Below (w.heap.size + 3) W0 wr) (hb : Below wr.heap.size wr w1) (hk : SB (fun q => X q ∨ (wr.heap.size ≤ q ∧ q < w1.heap.size)) w1 r a) (hTj : T.list[j]? = some (z', r')) (hz : z = z') (hr : Fo.norm r = Fo.norm r')
    (hv' : v' = .slice (some ⟨g, 0, none⟩) (Fo.len acc + 1) cap) (ho : w3.ownsRow (w.heap.size + 4) 26 3 v' (Fo.len acc + 1) (xs ++ [.bool z.1, .int .i64 z.2, a])) (hg : (w1.alloc ob).grownBy w3 v.ownBlock)
    (hat : v.ownBlock = some g ∨ g = w1.heap.size + 1) (hlt : g < w3.heap.size) : PutRel w W0 X T xv xn (j + 1) (w3.setCell ⟨w.heap.size + 3, 2, none⟩ v') := by
  have hBl : w.heap.size + 3 < wr.heap.size := World.block_lt_of_cell? _ _ q0
  obtain ⟨r1, r2, r3, r4, r5, r6, r7⟩ := row_step (B := w.heap.size + 3) (x := z) (k := r) h1 h2 (fun q hq => by have := hX q hq; omega) hBl ⟨_, q2⟩ hb.size (fun q _ hq => hb.block q hq) hk hv' ho hg hat hlt
  refine ⟨Fo.snoc acc z r, v', _, ?_, r1, r2, (r5 0 (by omega)).trans q0, (r5 1 (by omega)).trans q1, r3, fun i => (r6 i).trans (qf i), ?_⟩
  · rw [nl_snoc, nl_take hTj, hnl, hz, hr]
  · have hb1 : Below (w.heap.size + 3) W0 w1 := hB3.trans (hb.mono (by omega))
    have hb2 : Below (w.heap.size + 3) W0 (w1.alloc ob) := hb1.alloc (by have := hb.size; omega) _
    exact (hb2.grown hg (by simp; have := hb.size; omega) (fun q hq => by have := (owns_at h1 q hq).1; omega)).setCell (by simp) _

theorem out_cell {wa w3 : World} {ob : Obj} {row : Option Nat} {B i : Nat} {u : Value} (hg : (wa.alloc ob).grownBy w3 row) (hB : B < wa.heap.size) (hn : some B ≠ row) (h : wa.cell? ⟨B, i, none⟩ = some u) : w3.cell? ⟨B, i, none⟩ = some u := by
  rw [hg.cell_far ⟨B, i, none⟩ (by simp; omega) hn, World.cell?_alloc_lt _ _ _ hB]; exact h
theorem out_frozen {wa w3 : World} {ob : Obj} {row : Option Nat} {B : Nat} (hg : (wa.alloc ob).grownBy w3 row) (hB : B < wa.heap.size) (hn : some B ≠ row) (h : ∀ i, wa.frozen? ⟨B, i, none⟩ = false) : ∀ i, w3.frozen? ⟨B, i, none⟩ = false := fun i => by
  rw [hg.frozen_far ⟨B, i, none⟩ (by simp; omega) hn, World.frozen?_of_block (Below.heap_alloc wa ob B hB)]; exact h i

end Go.Proofs.Ytleogbdinafpaaa

/- Numbers appended to a row of the call's own. -/
namespace Go.Proofs.Ytleogbdinafpaaa
open Go.RowKit Go.Deep Go.ChangeShapes Go.WideShapes

theorem append_none {w : World} (base : Nat) (ty : TypeId) (i : TypeInfo) (hi : Try.prog.info? 3 = some i) (v : Value) (n c : Nat) (xs : List Value) (hown : w.ownsRow base 3 1 v n xs) :
    (Builtin.append_ #[22, 22] ty #[v, .slice none 0 c]).run Try.prog w = .ok v w := by
  have ht := Try.underlying22
  rcases hown.2 with ⟨rfl, rfl⟩ | ⟨g, cap, cur, rfl, _, _, hnc, _⟩
  · simp [Builtin.append_, run_underlying ht, sizeOf, typeInfo, hi, Builtin.lenOf, Builtin.firstCells]
  · simp [Builtin.append_, run_underlying ht, sizeOf, typeInfo, hi, Builtin.lenOf, Builtin.firstCells, hnc, storeCells]

theorem run_append_nums {w : World} (ty : TypeId) (base : Nat) (v : Value) (n : Nat) (xs : List Value) (hown : w.ownsRow base 3 1 v n xs) (l : List Int) (lv : Value) (hN : NIn w l lv) (hb : (n + l.length) * 8 ≤ 140737488355328) (hbase : base ≤ w.heap.size) :
    ∃ v' w', (Builtin.append_ #[22, 22] ty #[v, lv]).run Try.prog w = .ok v' w' ∧ w'.ownsRow base 3 1 v' (n + l.length) (xs ++ vals l) ∧ w.grownBy w' v.ownBlock ∧ (v'.ownBlock = v.ownBlock ∨ v'.ownBlock = some w.heap.size) := by
  obtain ⟨i3, hi3, hy0, hy1, hy2⟩ := info_parts Try.info3
  obtain ⟨a, c, b, o, rfl, ha, hlc, hcm, hF⟩ := hN
  cases a with
  | none =>
    have h0 : l = [] := by
      cases l with
      | nil => rfl
      | cons _ _ => have := ha (by simp); cases this
    subst h0
    exact ⟨v, w, append_none base ty i3 hi3 v n c xs hown, by simpa using hown, ⟨rfl, rfl, rfl, Nat.le_refl _, fun _ _ _ => rfl⟩, .inl rfl⟩
  | some ad =>
    obtain ⟨v', w', hr, h2, h3, _, h5⟩ := run_append_own_at (P := Try.prog) w base 22 ty 3 i3 (.int .i64 0) 1 8 Try.underlying22 hi3 hy0 hy1 hy2 rfl (by decide) v n xs hown ad l.length c (vals l) (by simp) (fun j u hu => by
        have hj : j < l.length := by
          have := (List.getElem?_eq_some_iff.1 hu).1
          simpa using this
        have hae : ad = ⟨b, o, none⟩ := by have := ha (by omega); simpa using this
        have hc := hF j hj
        have e : u = .int .i64 (l.getD j 0) := by
          simp [List.getD_eq_getElem?_getD, hj] at hu ⊢
          exact hu.symm
        rw [hae, add_plain, e]
        exact hc) (ints_oneCell _ _) (by unfold maxLen; omega) hb hbase
    exact ⟨v', w', hr, h2, h3, h5⟩

theorem wp_append_nums {w : World} {o : Oper} {a : Act} {K : Act → World → Prop} {Q : Exit → Act → World → Prop} (s x : Operand)
    (ho : o.op = .call { callee := .builtin .append, args := #[s, x], argTypes := #[22, 22] }) (base : Nat) (v : Value) (n : Nat) (xs : List Value) (hs : a.eval s = v) (hown : w.ownsRow base 3 1 v n xs) (l : List Int) (lv : Value) (hx : a.eval x = lv) (hN : NIn w l lv) (hb : (n + l.length) * 8 ≤ 140737488355328) (hbase : base ≤ w.heap.size)
    (h : ∀ v' w', w'.ownsRow base 3 1 v' (n + l.length) (xs ++ vals l) → w.grownBy w' v.ownBlock → (v'.ownBlock = v.ownBlock ∨ v'.ownBlock = some w.heap.size) → K (a.put o.dst v') w') : o.wp Try.prog a w K Q := by
  obtain ⟨v', w', hr, h2, h3, h4⟩ := run_append_nums o.type base v n xs hown l lv hN hb hbase
  unfold Oper.wp execOp
  simp only [ho, resolve, invoke, builtin, Sem.run_bind, Sem.run_pure, Result.andThen_ok, List.map_toArray, List.map_cons, List.map_nil, hs, hx, hr]
  exact h v' w' h2 h3 h4

theorem wpList_append_nums {w : World} {ops : Array Oper} {rest : List Oper} {o : Oper} {a : Act} {Q : Exit → Act → World → Prop} (hgd : o.guard = none) (s x : Operand)
    (ho : o.op = .call { callee := .builtin .append, args := #[s, x], argTypes := #[22, 22] }) (base : Nat) (v : Value) (n : Nat) (xs : List Value) (hs : a.eval s = v) (hown : w.ownsRow base 3 1 v n xs) (l : List Int) (lv : Value) (hx : a.eval x = lv) (hN : NIn w l lv) (hb : (n + l.length) * 8 ≤ 140737488355328) (hbase : base ≤ w.heap.size)
    (h : ∀ v' w', w'.ownsRow base 3 1 v' (n + l.length) (xs ++ vals l) → w.grownBy w' v.ownBlock → (v'.ownBlock = v.ownBlock ∨ v'.ownBlock = some w.heap.size) → wpList Try.prog ops Q rest (a.put o.dst v') w') : wpList Try.prog ops Q (o :: rest) a w :=
  wpList_plain hgd fun _ hK => wp_append_nums s x ho base v n xs hs hown l lv hx hN hb hbase fun v' w' h2 h3 h4 => hK _ _ (h v' w' h2 h3 h4)

theorem step_append_nums {w : World} {ops : Array Oper} {o : Oper} {a : Act} {K : Act → World → Prop} {Q : Exit → Act → World → Prop} {E : Prop} (hgd : o.guard = none) (s x : Operand)
    (ho : o.op = .call { callee := .builtin .append, args := #[s, x], argTypes := #[22, 22] }) (base : Nat) (v : Value) (n : Nat) (xs : List Value) (hs : a.eval s = v) (hown : w.ownsRow base 3 1 v n xs) (l : List Int) (lv : Value) (hx : a.eval x = lv) (hN : NIn w l lv) (hb : (n + l.length) * 8 ≤ 140737488355328) (hbase : base ≤ w.heap.size)
    (h : ∀ v' w', w'.ownsRow base 3 1 v' (n + l.length) (xs ++ vals l) → w.grownBy w' v.ownBlock → (v'.ownBlock = v.ownBlock ∨ v'.ownBlock = some w.heap.size) → K (a.put o.dst v') w') :
    if Region.wanted o (yielded ops a.tmps) = true then Oper.wp Try.prog o a w K Q else E := by
  have hw : Region.wanted o (yielded ops a.tmps) = true := by simp [Region.wanted, hgd]
  rw [if_pos hw]
  exact wp_append_nums s x ho base v n xs hs hown l lv hx hN hb hbase h

/-- An empty row that was laid. -/
theorem own_empty {w : World} {base e : Nat} (h : w.heap[e]? = some (.cells #[] 3)) (hb : base ≤ e) : w.ownsRow base 3 1 (.slice (some ⟨e, 0, none⟩) 0 0) 0 [] :=
  ⟨rfl, .inr ⟨e, 0, #[], rfl, hb, h, Nat.le_refl _, Nat.zero_le _, rfl, rfl⟩⟩
/-- One number that was laid. -/
theorem nin_one {w : World} {e : Nat} {n : Int} (h : w.heap[e]? = some (.cells #[.int .i64 n] 3)) : NIn w [n] (.slice (some ⟨e, 0, none⟩) 1 1) := by
  refine ⟨_, 1, e, 0, rfl, fun _ => rfl, Nat.le_refl _, by unfold maxLen; omega, fun i hi => ?_⟩
  have : i = 0 := by simpa using hi
  subst this
  simp [World.cell?, h]

end Go.Proofs.Ytleogbdinafpaaa

/- Bindings, told of terms alone: what a term is by bindings, and which variables are in it. -/
namespace Go.Proofs.Ytleogbdinafpaaa
open Go.RowKit Go.Deep Go.ChangeShapes Go.WideShapes

abbrev Tm := (Bool × Int) × Fo
abbrev Sb := List (Int × Tm)

def vr (n : Int) : Tm := ((true, n), .nil)

/-- Each variable is what f says. -/
def subF (f : Int → Tm) : Fo → Fo
  | .nil => .nil
  | .node _ _ x k r => if x.1 then .node 0 0 (f x.2).1 (f x.2).2 (subF f r) else .node 0 0 (false, x.2) (subF f k) (subF f r)
def subT (f : Int → Tm) (t : Tm) : Tm := if t.1.1 then f t.1.2 else ((false, t.1.2), subF f t.2)

theorem subF_node (f : Int → Tm) (p q : Nat) (x : Bool × Int) (k r : Fo) : subF f (.node p q x k r) = .node 0 0 (subT f (x, k)).1 (subT f (x, k)).2 (subF f r) := by
  obtain ⟨v, n⟩ := x
  cases v <;> simp [subF, subT]
theorem subT_var (f : Int → Tm) (n : Int) (k : Fo) : subT f ((true, n), k) = f n := rfl
theorem subT_sym (f : Int → Tm) (n : Int) (k : Fo) : subT f ((false, n), k) = ((false, n), subF f k) := rfl
theorem subF_list (f : Int → Tm) : ∀ F : Fo, (subF f F).list = F.list.map (subT f)
  | .nil => rfl
  | .node p q x k r => by rw [subF_node]; simp [Fo.list, subF_list f r]
theorem subF_len (f : Int → Tm) (F : Fo) : Fo.len (subF f F) = Fo.len F := by rw [← Fo.len_list, ← Fo.len_list, subF_list, List.length_map]
theorem subF_sub (f g : Int → Tm) : ∀ F : Fo, subF f (subF g F) = subF (fun n => subT f (g n)) F
  | .nil => rfl
  | .node p q ⟨v, n⟩ k r => by
    cases v
    · simp [subF, subF_sub f g k, subF_sub f g r]
    · rw [subF_node g, subF_node f, subF_sub f g r, subF_node]
      rfl
theorem subT_sub (f g : Int → Tm) (t : Tm) : subT f (subT g t) = subT (fun n => subT f (g n)) t := by
  obtain ⟨⟨v, n⟩, k⟩ := t
  cases v
  · simp [subT, subF_sub]
  · rfl

/-- A term as it should be: nothing that is no part of it, no arguments of variables. -/
def Fo.ok : Fo → Prop
  | .nil => True
  | .node p q x k r => p = 0 ∧ q = 0 ∧ (x.1 = true → k = .nil) ∧ Fo.ok k ∧ Fo.ok r
def okT (t : Tm) : Prop := (t.1.1 = true → t.2 = .nil) ∧ Fo.ok t.2

theorem ok_node {p q : Nat} {x : Bool × Int} {k r : Fo} : Fo.ok (.node p q x k r) ↔ p = 0 ∧ q = 0 ∧ okT (x, k) ∧ Fo.ok r := by
  simp only [Fo.ok, okT]
  constructor
  · rintro ⟨a, b, c, d, e⟩; exact ⟨a, b, ⟨c, d⟩, e⟩
  · rintro ⟨a, b, ⟨c, d⟩, e⟩; exact ⟨a, b, c, d, e⟩
theorem ok_vr (n : Int) : okT (vr n) := ⟨fun _ => rfl, trivial⟩
theorem ok_mem : ∀ {F : Fo} {t : Tm}, Fo.ok F → t ∈ F.list → okT t
  | .nil, _, _, h => by simp [Fo.list] at h
  | .node p q x k r, t, hF, h => by
    rw [ok_node] at hF
    simp only [Fo.list, List.mem_cons] at h
    rcases h with rfl | h
    · exact hF.2.2.1
    · exact ok_mem hF.2.2.2 h
theorem ok_eq : ∀ {F G : Fo}, Fo.ok F → Fo.ok G → F.list = G.list → F = G
  | .nil, .nil, _, _, _ => rfl
  | .nil, .node _ _ _ _ _, _, _, h => by simp [Fo.list] at h
  | .node _ _ _ _ _, .nil, _, _, h => by simp [Fo.list] at h
  | .node p q x k r, .node p' q' y l r', hF, hG, h => by
    rw [ok_node] at hF hG
    simp only [Fo.list, List.cons.injEq, Prod.mk.injEq] at h
    obtain ⟨⟨rfl, rfl⟩, h⟩ := h
    obtain ⟨rfl, rfl, _, hr⟩ := hF
    obtain ⟨rfl, rfl, _, hr'⟩ := hG
    rw [ok_eq hr hr' h]
theorem subF_ok {f : Int → Tm} (hf : ∀ n, okT (f n)) : ∀ F : Fo, Fo.ok (subF f F)
  | .nil => trivial
  | .node p q ⟨v, n⟩ k r => by
    rw [subF_node, ok_node]
    refine ⟨rfl, rfl, ?_, subF_ok hf r⟩
    cases v
    · exact ⟨fun h => by simp [subT] at h, subF_ok hf k⟩
    · exact hf n
theorem subT_ok {f : Int → Tm} (hf : ∀ n, okT (f n)) (t : Tm) : okT (subT f t) := by
  obtain ⟨⟨v, n⟩, k⟩ := t
  cases v
  · exact ⟨fun h => by simp [subT] at h, subF_ok hf k⟩
  · exact hf n
theorem subF_vr : ∀ {F : Fo}, Fo.ok F → subF vr F = F
  | .nil, _ => rfl
  | .node p q ⟨v, n⟩ k r, h => by
    rw [ok_node] at h
    obtain ⟨rfl, rfl, hk, hr⟩ := h
    rw [subF_node, subF_vr hr]
    cases v
    · rw [subT_sym, subF_vr hk.2]
    · have : k = .nil := hk.1 rfl
      subst this
      rfl
theorem subT_vr {t : Tm} (h : okT t) : subT vr t = t := by
  obtain ⟨⟨v, n⟩, k⟩ := t
  cases v
  · rw [subT_sym, subF_vr h.2]
  · have : k = .nil := h.1 rfl
    subst this
    rfl

/-- Same terms, of those that are as they should be, are one. -/
theorem same_eq : ∀ {F G : Fo}, Fo.ok F → Fo.ok G → sameF F G = true → F = G
  | .nil, .nil, _, _, _ => rfl
  | .nil, .node _ _ _ _ _, _, _, h => by simp [sameF] at h
  | .node _ _ _ _ _, .nil, _, _, h => by simp [sameF] at h
  | .node p q x k r, .node p' q' y l r', hF, hG, h => by
    simp only [sameF, Bool.and_eq_true, beq_iff_eq] at h
    obtain ⟨⟨⟨e1, e2⟩, e3⟩, e4⟩ := h
    rw [ok_node] at hF hG
    obtain ⟨rfl, rfl, hk, hr⟩ := hF
    obtain ⟨rfl, rfl, hl, hr'⟩ := hG
    have e5 : k = l := same_eq hk.2 hl.2 e3
    rw [show x = y from Prod.ext e1 e2, e5, same_eq hr hr' e4]
theorem sameT_eq {t u : Tm} (ht : okT t) (hu : okT u) (h : sameT t.1 t.2 u.1 u.2 = true) : t = u := by
  simp only [sameT, Bool.and_eq_true, beq_iff_eq] at h
  exact Prod.ext (Prod.ext h.1.1 h.1.2) (same_eq ht.2 hu.2 h.2)
theorem sameT_iff {t u : Tm} (ht : okT t) (hu : okT u) : sameT t.1 t.2 u.1 u.2 = true ↔ t = u :=
  ⟨fun h => sameT_eq ht hu h, fun h => by subst h; exact sameT_refl _ _⟩

/-- Is a variable in a term? -/
def occF (n : Int) : Fo → Prop
  | .nil => False
  | .node _ _ x k r => (if x.1 then x.2 = n else occF n k) ∨ occF n r
def occT (n : Int) (t : Tm) : Prop := if t.1.1 then t.1.2 = n else occF n t.2

theorem occ_mem {n : Int} : ∀ {F : Fo}, occF n F ↔ ∃ t ∈ F.list, occT n t
  | .nil => by simp [occF, Fo.list]
  | .node p q x k r => by
    have := occ_mem (n := n) (F := r)
    simp only [occF, Fo.list, List.mem_cons, exists_eq_or_imp, this]
    rfl
theorem occ_vr {m n : Int} : occT m (vr n) ↔ n = m := by simp [occT, vr]
theorem occ_sym {m n : Int} {k : Fo} : occT m ((false, n), k) ↔ occF m k := by simp [occT]
theorem subF_congr {f g : Int → Tm} : ∀ {F : Fo}, (∀ n, occF n F → f n = g n) → subF f F = subF g F
  | .nil, _ => rfl
  | .node p q ⟨v, n⟩ k r, h => by
    have hr := subF_congr (F := r) (fun m hm => h m (.inr hm))
    cases v
    · have hk := subF_congr (F := k) (fun m hm => h m (.inl (by simpa using hm)))
      simp [subF, hr, hk]
    · simp [subF, hr, h n (.inl (by simp))]
theorem subT_congr {f g : Int → Tm} {t : Tm} (h : ∀ n, occT n t → f n = g n) : subT f t = subT g t := by
  obtain ⟨⟨v, n⟩, k⟩ := t
  cases v
  · rw [subT_sym, subT_sym, subF_congr (fun m hm => h m (occ_sym.2 hm))]
  · exact h n (by simp [occT])
theorem occF_sub {m : Int} {f : Int → Tm} : ∀ {F : Fo}, occF m (subF f F) ↔ ∃ n, occF n F ∧ occT m (f n)
  | .nil => by simp [occF, subF]
  | .node p q ⟨v, n⟩ k r => by
    have hr := occF_sub (m := m) (f := f) (F := r)
    cases v
    · have hk := occF_sub (m := m) (f := f) (F := k)
      simp only [subF, occF, Bool.false_eq_true, if_false, hr, hk]
      constructor
      · rintro (⟨i, h1, h2⟩ | ⟨i, h1, h2⟩)
        · exact ⟨i, .inl h1, h2⟩
        · exact ⟨i, .inr h1, h2⟩
      · rintro ⟨i, h1 | h1, h2⟩
        · exact .inl ⟨i, h1, h2⟩
        · exact .inr ⟨i, h1, h2⟩
    · simp only [subF, occF, if_true, hr]
      constructor
      · rintro (h | ⟨i, h1, h2⟩)
        · exact ⟨n, .inl rfl, h⟩
        · exact ⟨i, .inr h1, h2⟩
      · rintro ⟨i, h1 | h1, h2⟩
        · subst h1; exact .inl h2
        · exact .inr ⟨i, h1, h2⟩
theorem occT_sub {m : Int} {f : Int → Tm} {t : Tm} : occT m (subT f t) ↔ ∃ n, occT n t ∧ occT m (f n) := by
  obtain ⟨⟨v, n⟩, k⟩ := t
  cases v
  · rw [subT_sym, occ_sym, occF_sub]
    simp only [occ_sym]
  · rw [subT_var]
    simp [occT]
theorem occ_varsF {m : Int} : ∀ {F : Fo} {l : List Int}, m ∈ varsF F l ↔ m ∈ l ∨ occF m F
  | .nil, l => by simp [varsF, occF]
  | .node p q ⟨v, n⟩ k r, l => by
    rw [varsF, occ_varsF (F := r)]
    cases v
    · have hk := occ_varsF (m := m) (F := k) (l := l)
      simp only [Bool.false_eq_true, if_false, hk, occF, or_assoc]
    · simp only [if_true, occF]
      by_cases hh : hasB l n = true
      · rw [if_pos hh]
        have hm : n ∈ l := by simpa [hasB] using hh
        constructor
        · rintro (h | h); exact .inl h; exact .inr (.inr h)
        · rintro (h | h | h); exact .inl h; (subst h; exact .inl hm); exact .inr h
      · rw [if_neg hh]
        simp only [List.mem_append, List.mem_singleton]
        constructor
        · rintro ((h | h) | h); exact .inl h; (subst h; exact .inr (.inl rfl)); exact .inr (.inr h)
        · rintro (h | h | h); exact .inl (.inl h); (subst h; exact .inl (.inr rfl)); exact .inr h
theorem occ_varsT {m : Int} {t : Tm} : m ∈ varsT t.1 t.2 [] ↔ occT m t := by
  obtain ⟨⟨v, n⟩, k⟩ := t
  cases v
  · simp [varsT, occT, occ_varsF]
  · simp [varsT, occT, hasB, eq_comm]
theorem occ_has {m : Int} {t : Tm} : hasB (varsT t.1 t.2 []) m = true ↔ occT m t := by
  rw [← occ_varsT]; simp [hasB]

/-- No variable comes twice. -/
theorem varsF_nodup : ∀ {F : Fo} {l : List Int}, l.Nodup → (varsF F l).Nodup
  | .nil, l, h => h
  | .node p q ⟨v, n⟩ k r, l, h => by
    rw [varsF]
    refine varsF_nodup ?_
    cases v
    · exact varsF_nodup (F := k) h
    · simp only [if_true]
      by_cases hh : hasB l n = true
      · rw [if_pos hh]; exact h
      · rw [if_neg hh, List.nodup_append]
        refine ⟨h, by simp, ?_⟩
        intro a ha b hb e
        simp only [List.mem_singleton] at hb
        subst e hb
        exact hh (by simpa [hasB] using ha)

/-- Bindings: the first pair of a variable. -/
def look : Sb → Int → Option Tm
  | [], _ => none
  | p :: s, n => if p.1 = n then some p.2 else look s n
def bnd (s : Sb) (n : Int) : Tm := (look s n).getD (vr n)

theorem look_mem {u : Tm} : ∀ {s : Sb} {n : Int}, look s n = some u → (n, u) ∈ s
  | [], n, h => by simp [look] at h
  | (m, t) :: s, n, h => by
    unfold look at h
    by_cases e : m = n
    · rw [if_pos e] at h; cases h; subst e; simp
    · rw [if_neg e] at h; exact List.mem_cons_of_mem _ (look_mem h)
theorem look_append (s s' : Sb) (n : Int) : look (s ++ s') n = (look s n).or (look s' n) := by
  induction s with
  | nil => rfl
  | cons p s ih =>
    simp only [List.cons_append, look]
    split
    · rfl
    · exact ih
theorem look_map (g : Tm → Tm) (s : Sb) (n : Int) : look (s.map fun p => (p.1, g p.2)) n = (look s n).map g := by
  induction s with
  | nil => rfl
  | cons p s ih =>
    simp only [List.map_cons, look]
    split
    · rfl
    · exact ih
theorem look_none {s : Sb} {n : Int} (h : ∀ p ∈ s, p.1 ≠ n) : look s n = none := by
  cases e : look s n with
  | none => rfl
  | some u => exact absurd rfl (h _ (look_mem e))
theorem bnd_some {s : Sb} {n : Int} {u : Tm} (h : look s n = some u) : bnd s n = u := by simp [bnd, h]
theorem bnd_none {s : Sb} {n : Int} (h : look s n = none) : bnd s n = vr n := by simp [bnd, h]
theorem bnd_ok {s : Sb} (h : ∀ p ∈ s, okT p.2) (n : Int) : okT (bnd s n) := by
  cases e : look s n with
  | none => rw [bnd_none e]; exact ok_vr n
  | some u => rw [bnd_some e]; exact h _ (look_mem e)
theorem bnd_nil (n : Int) : bnd [] n = vr n := rfl

/-- No term has more than a thousand arguments. -/
def narT (t : Tm) : Prop := Fo.len t.2 ≤ 1000 ∧ Fo.narrow t.2
theorem nar_vr (n : Int) : narT (vr n) := ⟨by simp [vr, Fo.len], trivial⟩
theorem nar_node {p q : Nat} {x : Bool × Int} {k r : Fo} : Fo.narrow (.node p q x k r) ↔ narT (x, k) ∧ Fo.narrow r := by
  simp only [Fo.narrow, narT]
  exact ⟨fun ⟨a, b, c⟩ => ⟨⟨a, b⟩, c⟩, fun ⟨⟨a, b⟩, c⟩ => ⟨a, b, c⟩⟩
theorem nar_mem : ∀ {F : Fo} {t : Tm}, Fo.narrow F → t ∈ F.list → narT t
  | .nil, _, _, h => by simp [Fo.list] at h
  | .node p q x k r, t, hF, h => by
    rw [nar_node] at hF
    simp only [Fo.list, List.mem_cons] at h
    rcases h with rfl | h
    · exact hF.1
    · exact nar_mem hF.2 h
theorem subF_nar {f : Int → Tm} (hf : ∀ n, narT (f n)) : ∀ {F : Fo}, Fo.narrow F → Fo.narrow (subF f F)
  | .nil, _ => trivial
  | .node p q ⟨v, n⟩ k r, h => by
    rw [nar_node] at h
    rw [subF_node, nar_node]
    refine ⟨?_, subF_nar hf h.2⟩
    cases v
    · rw [subT_sym]
      exact ⟨by rw [subF_len]; exact h.1.1, subF_nar hf h.1.2⟩
    · exact hf n
theorem subT_nar {f : Int → Tm} (hf : ∀ n, narT (f n)) {t : Tm} (h : narT t) : narT (subT f t) := by
  obtain ⟨⟨v, n⟩, k⟩ := t
  cases v
  · rw [subT_sym]
    exact ⟨by rw [subF_len]; exact h.1, subF_nar hf h.2⟩
  · exact hf n
theorem bnd_nar {s : Sb} (h : ∀ p ∈ s, narT p.2) (n : Int) : narT (bnd s n) := by
  cases e : look s n with
  | none => rw [bnd_none e]; exact nar_vr n
  | some u => rw [bnd_some e]; exact h _ (look_mem e)

/-- One way to make all arguments the same. -/
theorem subF_zip {f : Int → Tm} {F G : Fo} (h : subF f F = subF f G) : ∀ p ∈ F.list.zip G.list, subT f p.1 = subT f p.2 := by
  have e := congrArg Fo.list h
  rw [subF_list, subF_list] at e
  have : ∀ (l m : List Tm), l.map (subT f) = m.map (subT f) → ∀ p ∈ l.zip m, subT f p.1 = subT f p.2 := by
    intro l
    induction l with
    | nil => intro m _ p hp; simp at hp
    | cons a l ih =>
      intro m hm p hp
      cases m with
      | nil => simp at hp
      | cons b m =>
        simp only [List.map_cons, List.cons.injEq] at hm
        simp only [List.zip_cons_cons, List.mem_cons] at hp
        rcases hp with rfl | hp
        · exact hm.1
        · exact ih m hm.2 p hp
  exact this _ _ e
theorem subF_of_zip {f : Int → Tm} (hf : ∀ n, okT (f n)) {F G : Fo} (hl : Fo.len F = Fo.len G) (h : ∀ p ∈ F.list.zip G.list, subT f p.1 = subT f p.2) : subF f F = subF f G := by
  refine ok_eq (subF_ok hf F) (subF_ok hf G) ?_
  rw [subF_list, subF_list]
  rw [← Fo.len_list, ← Fo.len_list] at hl
  have : ∀ (l m : List Tm), l.length = m.length → (∀ p ∈ l.zip m, subT f p.1 = subT f p.2) → l.map (subT f) = m.map (subT f) := by
    intro l
    induction l with
    | nil => intro m hm _; cases m with
      | nil => rfl
      | cons b m => simp at hm
    | cons a l ih =>
      intro m hm hp
      cases m with
      | nil => simp at hm
      | cons b m =>
        simp only [List.map_cons, List.cons.injEq]
        refine ⟨hp (a, b) (by simp), ih m (by simpa using hm) (fun p h => hp p (by simp [h]))⟩
  exact this _ _ hl h

end Go.Proofs.Ytleogbdinafpaaa

/- What makes two terms the same, told of terms alone: the program's way step by step; it ends; what it finds. -/
namespace Go.Proofs.Ytleogbdinafpaaa
open Go.RowKit Go.Deep Go.ChangeShapes Go.WideShapes

/-- One binding more: it is that in all that was bound. -/
def addS (s : Sb) (n : Int) (t : Tm) : Option Sb :=
  if hasB (varsT t.1 t.2 []) n then none else some ((s.map fun p => (p.1, subT (bnd [(n, t)]) p.2)) ++ [(n, t)])
def top (s : Sb) (t : Tm) : Tm := if t.1.1 then (look s t.1.2).getD t else t
def stepU (s : Sb) (a b : Tm) (L : List (Tm × Tm)) : Option (Sb × List (Tm × Tm)) :=
  if (top s a).1.1 = true ∧ (top s b).1.1 = true ∧ (top s a).1.2 = (top s b).1.2 then some (s, L)
  else if (top s a).1.1 = true then (addS s (top s a).1.2 (subT (bnd s) (top s b))).map fun s' => (s', L)
  else if (top s b).1.1 = true then (addS s (top s b).1.2 (subT (bnd s) (top s a))).map fun s' => (s', L)
  else if (top s a).1.2 = (top s b).1.2 ∧ Fo.len (top s a).2 = Fo.len (top s b).2 then some (s, (top s a).2.list.zip (top s b).2.list ++ L)
  else none
def runU : Nat → Sb → List (Tm × Tm) → Option (Option Sb)
  | 0, _, _ => none
  | _ + 1, s, [] => some (some s)
  | n + 1, s, p :: L => match stepU s p.1 p.2 L with
    | none => some none
    | some q => runU n q.1 q.2

/-- How deep a term is. -/
def depF : Fo → Nat
  | .nil => 0
  | .node _ _ _ k r => max (1 + depF k) (depF r)
def depT (t : Tm) : Nat := 1 + depF t.2

theorem dep_mem : ∀ {F : Fo} {t : Tm}, t ∈ F.list → depT t ≤ depF F
  | .nil, _, h => by simp [Fo.list] at h
  | .node p q x k r, t, h => by
    simp only [Fo.list, List.mem_cons] at h
    rcases h with rfl | h
    · simp only [depF, depT]; omega
    · have := dep_mem h
      simp only [depF]; omega
theorem depF_sub {f : Int → Tm} {d : Nat} (hf : ∀ n, depT (f n) ≤ d + 1) : ∀ F : Fo, depF (subF f F) ≤ depF F + d
  | .nil => by simp [subF, depF]
  | .node p q ⟨v, n⟩ k r => by
    have hr := depF_sub hf r
    rw [subF_node]
    cases v
    · have hk := depF_sub hf k
      simp only [subT_sym, depF]; omega
    · have := hf n
      simp only [subT_var, depF]
      simp only [depT] at this
      omega
theorem depT_sub {f : Int → Tm} {d : Nat} (hf : ∀ n, depT (f n) ≤ d + 1) (t : Tm) : depT (subT f t) ≤ depT t + d := by
  obtain ⟨⟨v, n⟩, k⟩ := t
  cases v
  · have := depF_sub hf k
    simp only [subT_sym, depT]; omega
  · have := hf n
    rw [subT_var]
    simp only [depT] at this ⊢
    omega

/-- No term has more than two arguments. -/
def twoF : Fo → Prop
  | .nil => True
  | .node _ _ _ k r => Fo.len k ≤ 2 ∧ twoF k ∧ twoF r
def twoT (t : Tm) : Prop := Fo.len t.2 ≤ 2 ∧ twoF t.2
theorem two_vr (n : Int) : twoT (vr n) := ⟨by simp [vr, Fo.len], trivial⟩
theorem two_node {p q : Nat} {x : Bool × Int} {k r : Fo} : twoF (.node p q x k r) ↔ twoT (x, k) ∧ twoF r := by
  simp only [twoF, twoT]
  exact ⟨fun ⟨a, b, c⟩ => ⟨⟨a, b⟩, c⟩, fun ⟨⟨a, b⟩, c⟩ => ⟨a, b, c⟩⟩
theorem two_mem : ∀ {F : Fo} {t : Tm}, twoF F → t ∈ F.list → twoT t
  | .nil, _, _, h => by simp [Fo.list] at h
  | .node p q x k r, t, hF, h => by
    rw [two_node] at hF
    simp only [Fo.list, List.mem_cons] at h
    rcases h with rfl | h
    · exact hF.1
    · exact two_mem hF.2 h
theorem two_nar : ∀ {F : Fo}, twoF F → Fo.narrow F
  | .nil, _ => trivial
  | .node p q x k r, h => ⟨by have := h.1; omega, two_nar h.2.1, two_nar h.2.2⟩
theorem twoT_nar {t : Tm} (h : twoT t) : narT t := ⟨by have := h.1; omega, two_nar h.2⟩
theorem subF_two {f : Int → Tm} (hf : ∀ n, twoT (f n)) : ∀ {F : Fo}, twoF F → twoF (subF f F)
  | .nil, _ => trivial
  | .node p q ⟨v, n⟩ k r, h => by
    rw [two_node] at h
    rw [subF_node, two_node]
    refine ⟨?_, subF_two hf h.2⟩
    cases v
    · rw [subT_sym]
      exact ⟨by rw [subF_len]; exact h.1.1, subF_two hf h.1.2⟩
    · exact hf n
theorem subT_two {f : Int → Tm} (hf : ∀ n, twoT (f n)) {t : Tm} (h : twoT t) : twoT (subT f t) := by
  obtain ⟨⟨v, n⟩, k⟩ := t
  cases v
  · rw [subT_sym]
    exact ⟨by rw [subF_len]; exact h.1, subF_two hf h.2⟩
  · exact hf n
theorem bnd_two {s : Sb} (h : ∀ p ∈ s, twoT p.2) (n : Int) : twoT (bnd s n) := by
  cases e : look s n with
  | none => rw [bnd_none e]; exact two_vr n
  | some u => rw [bnd_some e]; exact h _ (look_mem e)

/-- A term that is as it should be, not too wide, of the first five variables. -/
structure Gd (t : Tm) : Prop where
  ok : okT t
  two : twoT t
  few : ∀ m, occT m t → 0 ≤ m ∧ m ≤ 4

theorem Gd.nar {t : Tm} (h : Gd t) : narT t := twoT_nar h.two
theorem gd_vr {n : Int} (h : 0 ≤ n ∧ n ≤ 4) : Gd (vr n) := ⟨ok_vr n, two_vr n, fun m hm => by rw [occ_vr] at hm; subst hm; exact h⟩
theorem gd_mem {F : Fo} {x : Bool × Int} {t : Tm} (h : Gd (x, F)) (hx : x.1 = false) (ht : t ∈ F.list) : Gd t := by
  refine ⟨ok_mem h.ok.2 ht, two_mem h.two.2 ht, fun m hm => h.few m ?_⟩
  unfold occT
  simp only [hx, Bool.false_eq_true, if_false]
  exact occ_mem.2 ⟨t, ht, hm⟩
theorem gd_bnd {s : Sb} (h : ∀ p ∈ s, Gd p.2) {n : Int} (hn : 0 ≤ n ∧ n ≤ 4) : Gd (bnd s n) := by
  cases e : look s n with
  | none => rw [bnd_none e]; exact gd_vr hn
  | some u => rw [bnd_some e]; exact h _ (look_mem e)
theorem gd_sub {s : Sb} (h : ∀ p ∈ s, Gd p.2) {t : Tm} (ht : Gd t) : Gd (subT (bnd s) t) := by
  refine ⟨subT_ok (bnd_ok fun p hp => (h p hp).ok) t, subT_two (bnd_two fun p hp => (h p hp).two) ht.two, fun m hm => ?_⟩
  obtain ⟨n, h1, h2⟩ := occT_sub.1 hm
  exact (gd_bnd h (ht.few n h1)).few m h2
theorem gd_top {s : Sb} (h : ∀ p ∈ s, Gd p.2) {t : Tm} (ht : Gd t) : Gd (top s t) := by
  unfold top
  split
  · cases e : look s t.1.2 with
    | none => simpa using ht
    | some u => simpa using h _ (look_mem e)
  · exact ht

/-- What is bound has none of the variables that are bound. -/
def Idem (s : Sb) : Prop := ∀ p ∈ s, ∀ m, occT m p.2 → look s m = none

theorem idem_same {s : Sb} {u : Tm} (hu : okT u) (h : ∀ m, occT m u → look s m = none) : subT (bnd s) u = u := by
  rw [subT_congr (g := vr) (fun m hm => bnd_none (h m hm)), subT_vr hu]
theorem top_sub {s : Sb} (hi : Idem s) (ho : ∀ p ∈ s, okT p.2) (t : Tm) : subT (bnd s) (top s t) = subT (bnd s) t := by
  unfold top
  split
  · rename_i hv
    cases e : look s t.1.2 with
    | none => rfl
    | some u =>
      simp only [Option.getD_some]
      have hm := look_mem e
      rw [idem_same (ho _ hm) (hi _ hm), subT, if_pos hv, bnd_some e]
  · rfl
/-- What is looked up is no variable that is bound. -/
theorem top_free {s : Sb} (hi : Idem s) {t : Tm} (h : (top s t).1.1 = true) : look s (top s t).1.2 = none := by
  unfold top at h ⊢
  split at h
  · rename_i hv
    rw [if_pos hv]
    cases e : look s t.1.2 with
    | none => simp [e]
    | some u =>
      simp only [e, Option.getD_some] at h ⊢
      refine hi _ (look_mem e) _ ?_
      unfold occT
      simp [h]
  · rename_i hv
    exact absurd h hv
theorem var_eq {t : Tm} (h : okT t) (hv : t.1.1 = true) : t = vr t.1.2 := by
  obtain ⟨⟨v, n⟩, k⟩ := t
  have : k = .nil := h.1 hv
  have hv' : v = true := hv
  subst this hv'
  rfl
theorem sym_eq {t : Tm} (hv : ¬ t.1.1 = true) : t = ((false, t.1.2), t.2) := by
  obtain ⟨⟨v, n⟩, k⟩ := t
  have hv' : v = false := by simpa using hv
  subst hv'
  rfl

theorem addS_some {s s' : Sb} {n : Int} {t : Tm} (h : addS s n t = some s') : ¬ occT n t ∧ s' = (s.map fun p => (p.1, subT (bnd [(n, t)]) p.2)) ++ [(n, t)] := by
  unfold addS at h
  split at h
  · cases h
  · rename_i hh
    exact ⟨fun e => hh (occ_has.2 e), (Option.some.inj h).symm⟩
theorem addS_none {s : Sb} {n : Int} {t : Tm} (h : addS s n t = none) : occT n t := by
  unfold addS at h
  split at h
  · rename_i hh; exact occ_has.1 hh
  · cases h
theorem bnd_one (n : Int) (t : Tm) (m : Int) : bnd [(n, t)] m = if n = m then t else vr m := by
  unfold bnd look
  split
  · rfl
  · rfl
theorem add_look {s s' : Sb} {n : Int} {t : Tm} (h : addS s n t = some s') (m : Int) : look s' m = match look s m with
    | some u => some (subT (bnd [(n, t)]) u)
    | none => if n = m then some t else none := by
  rw [(addS_some h).2, look_append, look_map (subT (bnd [(n, t)]))]
  cases look s m with
  | none => simp [look]
  | some u => rfl

/-- The bindings s and then more. -/
def Ref (s s' : Sb) : Prop := ∀ n, subT (bnd s') (bnd s n) = bnd s' n
theorem ref_sub {s s' : Sb} (h : Ref s s') (t : Tm) : subT (bnd s') (subT (bnd s) t) = subT (bnd s') t := by
  rw [subT_sub]; exact subT_congr fun n _ => h n
theorem ref_trans {s s1 s' : Sb} (h : Ref s s1) (h1 : Ref s1 s') : Ref s s' := fun n => by
  rw [← ref_sub h1, h n, h1 n]
theorem ref_refl {s : Sb} (hi : Idem s) (ho : ∀ p ∈ s, okT p.2) : Ref s s := fun n => by
  cases e : look s n with
  | none => rw [bnd_none e]; exact bnd_none e
  | some u => rw [bnd_some e]; exact idem_same (ho _ (look_mem e)) (hi _ (look_mem e))

/-- What one binding more makes of it. -/
theorem add_facts {s s' : Sb} {n : Int} {t : Tm} (h : addS s n t = some s') (hi : Idem s) (hn : look s n = none) (ht : okT t) (hf : ∀ m, occT m t → look s m = none) :
    Ref s s' ∧ Idem s' ∧ bnd s' n = t ∧ subT (bnd s') t = t ∧ (∀ u, (∀ m, occT m u → look s m = none) → subT (bnd s') u = subT (bnd [(n, t)]) u) := by
  have hno := (addS_some h).1
  have hl := add_look h
  have hb : ∀ m, look s m = none → bnd s' m = bnd [(n, t)] m := fun m hm => by
    have := hl m
    rw [hm] at this
    simp only at this
    rw [bnd, this, bnd_one]
    split <;> rfl
  have hs : ∀ u, (∀ m, occT m u → look s m = none) → subT (bnd s') u = subT (bnd [(n, t)]) u := fun u hu => subT_congr fun m hm => hb m (hu m hm)
  have ht1 : subT (bnd [(n, t)]) t = t := by
    rw [subT_congr (g := vr), subT_vr ht]
    intro m hm
    rw [bnd_one, if_neg]
    intro e
    subst e
    exact hno hm
  have hfree : ∀ m, (look s m = none) → n ≠ m → look s' m = none := fun m hm he => by
    have := hl m
    rw [hm] at this
    simpa [he] using this
  refine ⟨?_, ?_, ?_, ?_, hs⟩
  · intro m
    cases e : look s m with
    | none => rw [bnd_none e]; rfl
    | some u =>
      rw [bnd_some e, hs u (hi _ (look_mem e))]
      have := hl m
      rw [e] at this
      exact (bnd_some this).symm
  · intro p hp m hm
    rw [(addS_some h).2] at hp
    rw [List.mem_append, List.mem_map, List.mem_singleton] at hp
    rcases hp with ⟨q, hq, rfl⟩ | rfl
    · obtain ⟨j, h1, h2⟩ := occT_sub.1 hm
      rw [bnd_one] at h2
      split at h2
      · exact hfree m (hf m h2) (fun e => by subst e; exact hno h2)
      · rename_i hne
        rw [occ_vr] at h2
        subst h2
        exact hfree _ (hi q hq _ h1) hne
    · exact hfree m (hf m hm) (fun e => by subst e; exact hno hm)
  · rw [hb n hn, bnd_one, if_pos rfl]
  · rw [hs t hf, ht1]

theorem sub_free {s : Sb} (hi : Idem s) {t : Tm} {m : Int} (h : occT m (subT (bnd s) t)) : look s m = none := by
  obtain ⟨n, h1, h2⟩ := occT_sub.1 h
  cases e : look s n with
  | none =>
    rw [bnd_none e, occ_vr] at h2
    subst h2
    exact e
  | some u =>
    rw [bnd_some e] at h2
    exact hi _ (look_mem e) m h2

/-- How many of the first five variables are not bound. -/
def fre (s : Sb) : Nat := ([0, 1, 2, 3, 4].filter fun v : Int => (look s v).isNone).length

theorem filter_le {p q : Int → Bool} : ∀ {l : List Int}, (∀ m ∈ l, q m = true → p m = true) → (l.filter q).length ≤ (l.filter p).length
  | [], _ => by simp
  | b :: l, hi => by
    have ih := filter_le (l := l) (fun m hm => hi m (by simp [hm]))
    have hb := hi b (by simp)
    cases hq : q b
    · cases hp : p b
      · simpa [hp, hq] using ih
      · simp [hp, hq]; omega
    · simp [hb hq, hq]; omega
theorem filter_less {p q : Int → Bool} {n : Int} : ∀ {l : List Int}, n ∈ l → (∀ m ∈ l, q m = true → p m = true) → p n = true → q n = false → (l.filter q).length < (l.filter p).length
  | [], h, _, _, _ => by simp at h
  | a :: l, h, hi, hp, hq => by
    have hle := filter_le (l := l) (p := p) (q := q) (fun m hm => hi m (by simp [hm]))
    by_cases ea : a = n
    · subst ea
      simp [hp, hq]; omega
    · have ih := filter_less (n := n) (l := l) (by simpa [Ne.symm ea] using h) (fun m hm => hi m (by simp [hm])) hp hq
      have ha := hi a (by simp)
      cases e : q a
      · cases e' : p a
        · simpa [e, e'] using ih
        · simp [e, e']; omega
      · simp [ha e, e]; omega
theorem fre_add {s s' : Sb} {n : Int} {t : Tm} (h : addS s n t = some s') (hn : look s n = none) (hr : 0 ≤ n ∧ n ≤ 4) : fre s' < fre s := by
  refine filter_less (n := n) ?_ ?_ ?_ ?_
  · have : n = 0 ∨ n = 1 ∨ n = 2 ∨ n = 3 ∨ n = 4 := by omega
    rcases this with rfl | rfl | rfl | rfl | rfl <;> decide
  · intro m _ hm
    rw [add_look h] at hm
    cases e : look s m with
    | none => rfl
    | some u => rw [e] at hm; simp at hm
  · simp [hn]
  · rw [add_look h, hn]
    simp

/-- All that waits, by what is bound: so deep, so far from the end. -/
def dpL (s : Sb) (D : Nat) : List (Tm × Tm) → Prop
  | [] => True
  | p :: L => depT (subT (bnd s) p.1) + L.length ≤ D ∧ depT (subT (bnd s) p.2) + L.length ≤ D ∧ dpL s D L

structure UI (s : Sb) (L : List (Tm × Tm)) : Prop where
  gs : ∀ p ∈ s, Gd p.2
  vs : ∀ p ∈ s, 0 ≤ p.1 ∧ p.1 ≤ 4
  gL : ∀ p ∈ L, Gd p.1 ∧ Gd p.2
  idem : Idem s
  five : s.length + fre s ≤ 5
  dep : dpL s (12 * 2 ^ s.length) L
  deps : ∀ p ∈ s, depT p.2 ≤ 12 * 2 ^ s.length

theorem ui_ok {s : Sb} {L : List (Tm × Tm)} (h : UI s L) : ∀ p ∈ s, okT p.2 := fun p hp => (h.gs p hp).ok
theorem dpL_len {s : Sb} {D : Nat} : ∀ {L : List (Tm × Tm)}, dpL s D L → L.length ≤ D
  | [], _ => Nat.zero_le _
  | p :: L, h => by
    have := h.1
    simp only [depT, List.length_cons] at *
    omega
theorem ui_len {s : Sb} {L : List (Tm × Tm)} (h : UI s L) : L.length ≤ 384 ∧ s.length ≤ 5 := by
  have h5 := h.five
  have h1 := dpL_len h.dep
  have h2 : 2 ^ s.length ≤ 2 ^ 5 := Nat.pow_le_pow_right (by decide) (by omega)
  omega
theorem dep_bnd {s : Sb} {L : List (Tm × Tm)} (h : UI s L) (n : Int) : depT (bnd s n) ≤ 12 * 2 ^ s.length := by
  cases e : look s n with
  | none =>
    rw [bnd_none e]
    have : 0 < 2 ^ s.length := Nat.pow_pos (by decide)
    simp only [vr, depT, depF]; omega
  | some u => rw [bnd_some e]; exact h.deps _ (look_mem e)

theorem dpL_zip {s : Sb} {D : Nat} {x y : Fo} {L : List (Tm × Tm)} (hx : depF (subF (bnd s) x) + L.length + 1 ≤ D) (hy : depF (subF (bnd s) y) + L.length + 1 ≤ D) (hl : Fo.len x ≤ 2) (h : dpL s D L) :
    dpL s D (x.list.zip y.list ++ L) := by
  have hz : ∀ p ∈ x.list.zip y.list, depT (subT (bnd s) p.1) ≤ depF (subF (bnd s) x) ∧ depT (subT (bnd s) p.2) ≤ depF (subF (bnd s) y) := by
    intro p hp
    have h1 := List.of_mem_zip hp
    refine ⟨dep_mem ?_, dep_mem ?_⟩
    · rw [subF_list]; exact List.mem_map_of_mem h1.1
    · rw [subF_list]; exact List.mem_map_of_mem h1.2
  have hlen : (x.list.zip y.list).length ≤ 2 := by
    rw [List.length_zip, Fo.len_list]; omega
  match hh : x.list.zip y.list, hlen with
  | [], _ => exact h
  | [p], _ =>
    rw [hh] at hz
    have := hz p (by simp)
    refine ⟨?_, ?_, h⟩
    · show _ + L.length ≤ D; omega
    · show _ + L.length ≤ D; omega
  | [p, q], _ =>
    rw [hh] at hz
    have h1 := hz p (by simp)
    have h2 := hz q (by simp)
    refine ⟨?_, ?_, ?_, ?_, h⟩
    · show _ + (L.length + 1) ≤ D; omega
    · show _ + (L.length + 1) ≤ D; omega
    · show _ + L.length ≤ D; omega
    · show _ + L.length ≤ D; omega
theorem dpL_add {s s' : Sb} {D d : Nat} {n : Int} {t : Tm} (hr : ∀ u, subT (bnd s') u = subT (bnd [(n, t)]) (subT (bnd s) u)) (hd : depT t ≤ d + 1) : ∀ {L : List (Tm × Tm)}, dpL s D L → dpL s' (D + d) L
  | [], _ => trivial
  | p :: L, h => by
    have ho : ∀ m, depT (bnd [(n, t)] m) ≤ d + 1 := fun m => by
      rw [bnd_one]
      split
      · exact hd
      · simp [vr, depT, depF]
    refine ⟨?_, ?_, dpL_add hr hd h.2.2⟩
    · rw [hr]
      have := depT_sub ho (subT (bnd s) p.1)
      have := h.1
      omega
    · rw [hr]
      have := depT_sub ho (subT (bnd s) p.2)
      have := h.2.1
      omega

end Go.Proofs.Ytleogbdinafpaaa
