/- What must be bound for a pattern to be a term: the document's More. -/
import Derived.Test.YtfnkjadfepoicacG12
import Derived.Test.YtfnkjadfepoicacG09
import Derived.Test.YtfnkjadfepoicacG08
import Derived.Test.YtfnkjadfepoicacG07
import Derived.Deep.RegionLaw
namespace Go.Proofs.Ytfnkjadfepoicac
open Go.RowKit Go.Deep Go.ChangeShapes Go.WideShapes
attribute [local go_sem ↓] Go.wp_at_zero Go.wp_at_succ

theorem Cs.below {w w' : World} {lv : Value} {m size : Nat} {news : List Value} (h : Cs w lv m size news) (hb : Below w.heap.size w w') : Cs w' lv m size news := by
  obtain ⟨a, c, h1, h2, h3, h4, h5⟩ := h
  exact ⟨a, c, h1, h2, h3, h4, fun ad e j u hj => grow_cell hb _ _ (h5 ad e j u hj)⟩
theorem cs_pair {w : World} {e : Nat} {n yn : Int} {yv : Bool} {a : Option Addr} {l c : Nat} (h : w.heap[e]? = some (.cells #[.int .i64 n, .bool yv, .int .i64 yn, .slice a l c] 47)) : Cs w (.slice (some ⟨e, 0, none⟩) 1 1) 1 4 [.int .i64 n, .bool yv, .int .i64 yn, .slice a l c] :=
  ⟨_, 1, rfl, rfl, by simp [Value.oneCell'], fun e => by (cases e), fun ad hh j u hj => by cases hh; exact World.news_of_block (cs := #[.int .i64 n, .bool yv, .int .i64 yn, .slice a l c]) h j u hj⟩
/-- Two rows of pairs, one behind the other, in a row of the call's own. -/
theorem pairs_row {lo : Nat} {w w' : World} {v : Value} {s s' : Sb} {news ys : List Value} (hb : Below w.heap.size w w') (h : PC (fun q => q < w.heap.size) w s news) (h' : PC (fun q => q < w.heap.size) w s' ys) (ho : w'.ownsRow lo 47 4 v (0 + s.length + s'.length) (([] ++ news) ++ ys)) : SubIn w' (s ++ s') v := by
  refine row_sub (lo := lo) (X := fun q => q < w.heap.size) (xs := news ++ ys) (by simpa using ho) (PC.append (h'.frame (fun _ hq => hq) (fun q i hq => hb.cell hq)) (h.frame (fun _ hq => hq) (fun q i hq => hb.cell hq)))

def MoreRPost (w : World) (s : Sb) (t u : Tm) (e : Ending) (w' : World) : Prop :=
  Below w.heap.size w w' ∧ ∃ (z1 : Option Addr) (z3 : Nat) (s' : Sb) (ok : Bool), e = .returned (.tuple #[.slice z1 s'.length z3, .bool ok]) ∧ SubIn w' s' (.slice z1 s'.length z3) ∧ extT s t u = (if ok then some s' else none) ∧ (ok = false → s' = [] ∨ s' = s)

theorem moreR_fails {w w' : World} {s : Sb} {t u : Tm} (hf : Below w.heap.size w w') (h : extT s t u = none) : MoreRPost w s t u (.returned (.tuple #[.slice none 0 0, .bool false])) w' :=
  ⟨hf, none, 0, [], false, rfl, SubIn.nil _, h, fun _ => .inl rfl⟩
theorem moreR_holds {w w' : World} {s s' : Sb} {t u : Tm} {z1 : Option Addr} {m z3 : Nat} (hf : Below w.heap.size w w') (h : extT s t u = some s') (hm : m = s'.length) (hS : SubIn w' s' (.slice z1 m z3)) : MoreRPost w s t u (.returned (.tuple #[.slice z1 m z3, .bool true])) w' := by
  subst hm
  exact ⟨hf, z1, z3, s', true, rfl, hS, h, fun e => by (cases e)⟩

end Go.Proofs.Ytfnkjadfepoicac

/- The document's way to make two terms the same, told of terms alone: it comes to what the program's comes to. -/
namespace Go.Proofs.Ytfnkjadfepoicac
open Go.RowKit Go.Deep Go.ChangeShapes Go.WideShapes

theorem runU_step {m : Nat} {s s' : Sb} {p : Tm × Tm} {L L' : List (Tm × Tm)} {R : Option Sb} (h : stepU s p.1 p.2 L = some (s', L')) : runU (m + 1) s (p :: L) = some R ↔ runU m s' L' = some R := by
  simp [runU, h]
theorem runU_stop {m : Nat} {s : Sb} {p : Tm × Tm} {L : List (Tm × Tm)} {R : Option Sb} (h : stepU s p.1 p.2 L = none) : runU (m + 1) s (p :: L) = some R ↔ R = none := by
  simp [runU, h, eq_comm]
theorem sub_var {s : Sb} {t : Tm} (h : t.1.1 = true) (hf : look s t.1.2 = none) : subT (bnd s) t = vr t.1.2 := by
  unfold subT
  rw [if_pos h]
  exact bnd_none hf
theorem sub_sym {s : Sb} {t : Tm} (h : ¬ t.1.1 = true) : subT (bnd s) t = ((false, t.1.2), subF (bnd s) t.2) := by
  unfold subT
  rw [if_neg h]

/-- Terms that are the same already: nothing. -/
theorem run_skip : ∀ (n : Nat) (s : Sb) (p : Tm × Tm) (L : List (Tm × Tm)) (R : Option Sb), UI s (p :: L) → runU n s (p :: L) = some R → subT (bnd s) p.1 = subT (bnd s) p.2 → ∃ m, m < n ∧ runU m s L = some R := by
  intro n
  induction n using Nat.strongRecOn with
  | _ n ih =>
    intro s p L R h hr he
    cases n with
    | zero => simp [runU] at hr
    | succ n =>
      have t1 := top_sub h.idem (ui_ok h) p.1
      have t2 := top_sub h.idem (ui_ok h) p.2
      have exy : subT (bnd s) (top s p.1) = subT (bnd s) (top s p.2) := by rw [t1, t2, he]
      by_cases hx : (top s p.1).1.1 = true
      · have ex := sub_var hx (top_free h.idem hx)
        by_cases hy : (top s p.2).1.1 = true
        · have ey := sub_var hy (top_free h.idem hy)
          rw [ex, ey] at exy
          have hst : stepU s p.1 p.2 L = some (s, L) := by
            unfold stepU
            rw [if_pos ⟨hx, hy, by simpa [vr] using exy⟩]
          exact ⟨n, Nat.lt_succ_self n, (runU_step hst).1 hr⟩
        · rw [ex, sub_sym hy] at exy
          simp [vr] at exy
      · by_cases hy : (top s p.2).1.1 = true
        · rw [sub_var hy (top_free h.idem hy), sub_sym hx] at exy
          simp [vr] at exy
        · rw [sub_sym hx, sub_sym hy] at exy
          simp only [Prod.mk.injEq, true_and] at exy
          have hl : Fo.len (top s p.1).2 = Fo.len (top s p.2).2 := by rw [← subF_len (bnd s), exy.2, subF_len]
          have hst : stepU s p.1 p.2 L = some (s, (top s p.1).2.list.zip (top s p.2).2.list ++ L) := by
            unfold stepU
            rw [if_neg (fun e => hx e.1), if_neg hx, if_neg hy, if_pos ⟨exy.1, hl⟩]
          have hU := (step_keeps h hst).1
          have hz := subF_zip exy.2
          have hr' := (runU_step hst).1 hr
          -- all of them, one after the other
          have all : ∀ (M : List (Tm × Tm)) (k : Nat), k ≤ n → UI s (M ++ L) → (∀ q ∈ M, subT (bnd s) q.1 = subT (bnd s) q.2) → runU k s (M ++ L) = some R → ∃ m, m ≤ n ∧ runU m s L = some R := by
            intro M
            induction M with
            | nil => intro k hk _ _ hk2; exact ⟨k, hk, hk2⟩
            | cons q M ihM =>
              intro k hk hUk hq hk2
              obtain ⟨m, hm, hm2⟩ := ih k (by omega) s q (M ++ L) R hUk hk2 (hq q (by simp))
              exact ihM m (by omega) (ui_tail hUk) (fun z hz => hq z (by simp [hz])) hm2
          obtain ⟨m, hm, hm2⟩ := all _ n (Nat.le_refl _) hU hz hr'
          exact ⟨m, by omega, hm2⟩

/-- Two symbols: their arguments, or nothing. -/
theorem run_sym {n : Nat} {s : Sb} {p : Tm × Tm} {L : List (Tm × Tm)} {R : Option Sb} (h : UI s (p :: L)) (hr : runU n s (p :: L) = some R) (hx : ¬ (subT (bnd s) p.1).1.1 = true) (hy : ¬ (subT (bnd s) p.2).1.1 = true) :
    (¬ ((subT (bnd s) p.1).1.2 = (subT (bnd s) p.2).1.2 ∧ Fo.len (subT (bnd s) p.1).2 = Fo.len (subT (bnd s) p.2).2) → R = none) ∧
    ((subT (bnd s) p.1).1.2 = (subT (bnd s) p.2).1.2 ∧ Fo.len (subT (bnd s) p.1).2 = Fo.len (subT (bnd s) p.2).2 → ∃ m M, m < n ∧ UI s (M ++ L) ∧ runU m s (M ++ L) = some R ∧ M.map (fun q => subT (bnd s) q.1) = (subT (bnd s) p.1).2.list ∧ M.map (fun q => subT (bnd s) q.2) = (subT (bnd s) p.2).2.list) := by
  cases n with
  | zero => simp [runU] at hr
  | succ n =>
    have t1 := top_sub h.idem (ui_ok h) p.1
    have t2 := top_sub h.idem (ui_ok h) p.2
    rw [← t1] at hx ⊢
    rw [← t2] at hy ⊢
    have hx' : ¬ (top s p.1).1.1 = true := fun e => hx (by rw [sub_var e (top_free h.idem e)]; rfl)
    have hy' : ¬ (top s p.2).1.1 = true := fun e => hy (by rw [sub_var e (top_free h.idem e)]; rfl)
    rw [sub_sym hx', sub_sym hy']
    simp only [subF_len]
    refine ⟨fun hc => ?_, fun hc => ?_⟩
    · have hst : stepU s p.1 p.2 L = none := by
        unfold stepU
        rw [if_neg (fun e => hx' e.1), if_neg hx', if_neg hy', if_neg hc]
      exact (runU_stop hst).1 hr
    · have hst : stepU s p.1 p.2 L = some (s, (top s p.1).2.list.zip (top s p.2).2.list ++ L) := by
        unfold stepU
        rw [if_neg (fun e => hx' e.1), if_neg hx', if_neg hy', if_pos hc]
      refine ⟨n, _, Nat.lt_succ_self n, (step_keeps h hst).1, (runU_step hst).1 hr, ?_, ?_⟩
      · have e : ((top s p.1).2.list.zip (top s p.2).2.list).map Prod.fst = (top s p.1).2.list := by
          rw [List.map_fst_zip]
          rw [Fo.len_list, Fo.len_list]; omega
        have e2 := congrArg (List.map (subT (bnd s))) e
        rw [List.map_map] at e2
        rw [subF_list]
        exact e2
      · have e : ((top s p.1).2.list.zip (top s p.2).2.list).map Prod.snd = (top s p.2).2.list := by
          rw [List.map_snd_zip]
          rw [Fo.len_list, Fo.len_list]; omega
        have e2 := congrArg (List.map (subT (bnd s))) e
        rw [List.map_map] at e2
        rw [subF_list]
        exact e2

/-- One is a variable: it is bound to the other one, or nothing. -/
theorem run_var {n : Nat} {s : Sb} {p : Tm × Tm} {L : List (Tm × Tm)} {R : Option Sb} {u v : Tm} (h : UI s (p :: L)) (hr : runU n s (p :: L) = some R) (hne : subT (bnd s) p.1 ≠ subT (bnd s) p.2)
    (huv : (u = subT (bnd s) p.1 ∧ v = subT (bnd s) p.2 ∧ u.1.1 = true) ∨ (u = subT (bnd s) p.2 ∧ v = subT (bnd s) p.1 ∧ u.1.1 = true ∧ ¬ v.1.1 = true)) :
    (addS s u.1.2 v = none → R = none) ∧ ∀ s1, addS s u.1.2 v = some s1 → ∃ m, m < n ∧ UI s1 L ∧ runU m s1 L = some R ∧ Ref s s1 := by
  cases n with
  | zero => simp [runU] at hr
  | succ n =>
    have t1 := top_sub h.idem (ui_ok h) p.1
    have t2 := top_sub h.idem (ui_ok h) p.2
    have key : ∃ x y, (x = top s p.1 ∧ y = top s p.2 ∨ x = top s p.2 ∧ y = top s p.1) ∧ x.1.1 = true ∧ x.1.2 = u.1.2 ∧ subT (bnd s) y = v ∧ stepU s p.1 p.2 L = (addS s x.1.2 (subT (bnd s) y)).map fun s' => (s', L) := by
      rcases huv with ⟨hu, hv, h1⟩ | ⟨hu, hv, h1, h2⟩
      · rw [← t1] at hu
        rw [← t2] at hv
        have hx : (top s p.1).1.1 = true := by
          by_cases e : (top s p.1).1.1 = true
          · exact e
          · rw [hu, sub_sym e] at h1; simp at h1
        have hun : (top s p.1).1.2 = u.1.2 := by rw [hu, sub_var hx (top_free h.idem hx)]; rfl
        refine ⟨_, _, .inl ⟨rfl, rfl⟩, hx, hun, hv.symm, ?_⟩
        unfold stepU
        rw [if_neg, if_pos hx]
        rintro ⟨_, hy, hxy⟩
        apply hne
        rw [← t1, ← t2, sub_var hx (top_free h.idem hx), sub_var hy (top_free h.idem hy), hxy]
      · rw [← t2] at hu
        rw [← t1] at hv
        have hy : (top s p.2).1.1 = true := by
          by_cases e : (top s p.2).1.1 = true
          · exact e
          · rw [hu, sub_sym e] at h1; simp at h1
        have hx : ¬ (top s p.1).1.1 = true := fun e => h2 (by rw [hv, sub_var e (top_free h.idem e)]; rfl)
        have hun : (top s p.2).1.2 = u.1.2 := by rw [hu, sub_var hy (top_free h.idem hy)]; rfl
        refine ⟨_, _, .inr ⟨rfl, rfl⟩, hy, hun, hv.symm, ?_⟩
        unfold stepU
        rw [if_neg (fun e => hx e.1), if_neg hx, if_pos hy]
    obtain ⟨x, y, hxy, hxv, hxn, hyv, hst⟩ := key
    rw [hyv, hxn] at hst
    refine ⟨fun e => ?_, fun s1 e => ?_⟩
    · rw [e] at hst
      exact (runU_stop hst).1 hr
    · have ha : addS s x.1.2 (subT (bnd s) y) = some s1 := by rw [hyv, hxn]; exact e
      rw [e] at hst
      obtain ⟨k1, _, k3, _⟩ := step_add h hxy hxv ha
      exact ⟨n, Nat.lt_succ_self n, k1, (runU_step hst).1 hr, k3⟩

end Go.Proofs.Ytfnkjadfepoicac

/- Lists of terms in memory, and two rows of terms that are made side by side: for the document's solve. -/
namespace Go.Proofs.Ytfnkjadfepoicac
open Go.RowKit Go.Deep Go.ChangeShapes Go.WideShapes

/-- A list of terms, as what lies in memory. -/
def foOf : List Tm → Fo
  | [] => .nil
  | t :: ts => .node 0 0 t.1 t.2 (foOf ts)
theorem foOf_list : ∀ ts : List Tm, (foOf ts).list = ts
  | [] => rfl
  | t :: ts => by simp [foOf, Fo.list, foOf_list ts]
theorem foOf_len (ts : List Tm) : Fo.len (foOf ts) = ts.length := by rw [← Fo.len_list, foOf_list]
theorem foOf_of_ok : ∀ {F : Fo}, Fo.ok F → foOf F.list = F
  | .nil, _ => rfl
  | .node p q x k r, h => by
    obtain ⟨rfl, rfl, _, h4⟩ := ok_node.1 h
    simp [foOf, Fo.list, foOf_of_ok h4]
theorem CellsOf.app {X : Nat → Prop} {w : World} {b : List Tm} {ys : List Value} (h' : CellsOf X w (foOf b) ys) : ∀ {a : List Tm} {xs : List Value}, CellsOf X w (foOf a) xs → CellsOf X w (foOf (a ++ b)) (xs ++ ys)
  | [], xs, h => by
    have e : xs = [] := h
    subst e
    exact h'
  | t :: a, _, ⟨v, zs, h1, h2, h3⟩ => by
    subst h1
    exact ⟨v, zs ++ ys, rfl, h2, CellsOf.app h' h3⟩

/-- The terms ts are a row of the call's own; what they hold lies below lo. -/
def Row (lo : Nat) (w : World) (v : Value) (ts : List Tm) : Prop := ∃ xs, w.ownsRow lo 35 3 v ts.length xs ∧ CellsOf (fun q => q < lo) w (foOf ts) xs
def Apart (v u : Value) : Prop := ∀ g, v.ownBlock = some g → u.ownBlock ≠ some g

theorem Row.nil (lo : Nat) (w : World) : Row lo w (.slice none 0 0) [] := ⟨[], World.ownsRow_nil _ _ _ _, rfl⟩
theorem Row.alloc {lo : Nat} {w : World} {v : Value} {ts : List Tm} (h : Row lo w v ts) (hl : lo ≤ w.heap.size) (ob : Obj) : Row lo (w.alloc ob) v ts := by
  obtain ⟨xs, h1, h2⟩ := h
  exact ⟨xs, owns_keep h1 (fun g hg => Below.heap_alloc _ _ _ (owns_at h1 g hg).2), h2.frame (fun _ h => h) (fun q i hq => World.cell?_alloc_lt _ _ _ (by show q < _; omega))⟩
theorem Row.grown {lo : Nat} {w w' : World} {v u : Value} {ts : List Tm} (h : Row lo w v ts) (hl : lo ≤ w.heap.size) (hg : w.grownBy w' u.ownBlock) (ha : Apart v u) (hu : ∀ g, u.ownBlock = some g → lo ≤ g) : Row lo w' v ts := by
  obtain ⟨xs, h1, h2⟩ := h
  exact ⟨xs, owns_keep h1 (fun g hgg => hg.block g (owns_at h1 g hgg).2 (fun e => ha g hgg e.symm)), h2.frame (fun _ h => h) (fun q i hq => World.cell?_of_block (hg.block q (by show q < _; omega) (fun e => by have := hu q e.symm; omega)))⟩
theorem Row.sin {lo : Nat} {w : World} {v : Value} {ts : List Tm} (h : Row lo w v ts) : SIn w (foOf ts) v := by
  obtain ⟨xs, h1, h2⟩ := h
  rw [← foOf_len] at h1
  exact (row_sb (Y := fun _ => True) h1 h2 (fun _ _ => trivial) (fun _ _ => trivial)).toS

/-- Two rows that are made side by side, wx being the world ahead of them. -/
structure Side (wx w : World) (va : Value) (a : List Tm) (vb : Value) (b : List Tm) : Prop where
  below : Below wx.heap.size wx w
  ra : Row wx.heap.size w va a
  rb : Row wx.heap.size w vb b
  ap : Apart va vb

theorem Side.start (wx : World) : Side wx wx.drew (.slice none 0 0) [] (.slice none 0 0) [] := ⟨(Below.refl _ _).drew, Row.nil _ _, Row.nil _ _, fun g h => by simp [Value.ownBlock] at h⟩
theorem Side.bareA {wx w : World} {vb : Value} {b : List Tm} {n : Nat} (h : Side wx w (.slice none 0 0) [] vb b) (hn : n = w.heap.size) : Side wx (w.alloc (.cells #[] 35)) (.slice (some ⟨n, 0, none⟩) 0 0) [] vb b := by
  subst hn
  refine ⟨h.below.alloc h.below.size _, ⟨[], own_bare (heap_alloc_new w _) h.below.size, rfl⟩, h.rb.alloc h.below.size _, fun g hg e => ?_⟩
  simp [Value.ownBlock] at hg
  obtain ⟨xs, h1, _⟩ := h.rb
  have := (owns_at h1 g e).2
  omega
theorem Side.swap {wx w : World} {va vb : Value} {a b : List Tm} (h : Side wx w va a vb b) : Side wx w vb b va a := ⟨h.below, h.rb, h.ra, fun g h1 h2 => h.ap g h2 h1⟩
theorem Side.bareB {wx w : World} {va : Value} {a : List Tm} {n : Nat} (h : Side wx w va a (.slice none 0 0) []) (hn : n = w.heap.size) : Side wx (w.alloc (.cells #[] 35)) va a (.slice (some ⟨n, 0, none⟩) 0 0) [] := (h.swap.bareA hn).swap

/-- More terms behind the first row. -/
theorem step_app {wx w : World} {ops : Array Oper} {o : Oper} {c : Act} {K : Act → World → Prop} {Q : Exit → Act → World → Prop} {E : Prop} {va vb lv : Value} {a b ts : List Tm} (h : Side wx w va a vb b) (hS : SIn wx (foOf ts) lv) (hb : a.length + ts.length ≤ 100000) (hgd : o.guard = none) (s x : Operand)
    (ho : o.op = .call { callee := .builtin .append, args := #[s, x], argTypes := #[33, 33] }) (hs : c.eval s = va) (hx : c.eval x = lv)
    (k : ∀ v' w', Side wx w' v' (a ++ ts) vb b → K (c.put o.dst v') w') :
    if Region.wanted o (yielded ops c.tmps) = true then Oper.wp Try.prog o c w K Q else E := by
  obtain ⟨i26, hi26, hz0, hz1, hz2⟩ := info_parts Try.info35
  obtain ⟨xs, h1, h2⟩ := h.ra
  have hl := h.below.size
  obtain ⟨news, hC, hN⟩ : ∃ news, Cs w lv ts.length 3 news ∧ CellsOf (fun q => q < wx.heap.size) w (foOf ts) news := by
    obtain ⟨news, hC, hN⟩ := terms_cells hS
    rw [foOf_len] at hC
    exact ⟨news, hC.below h.below, hN.frame (fun _ h => h) (fun q i hq => h.below.cell hq)⟩
  refine step_append_gen hgd s x 33 ho wx.heap.size 35 i26 _ 3 40 Try.underlying33 hi26 hz0 hz1 hz2 rfl (by decide) va a.length xs hs h1 lv ts.length news hx hC (by unfold maxLen; omega) (by omega) hl ?_
  intro v' w' ho' hg' hat'
  have hva : ∀ g, va.ownBlock = some g → wx.heap.size ≤ g := fun g hg => (owns_at h1 g hg).1
  have hb' : Below wx.heap.size wx w' := h.below.grown hg' hl hva
  have hfr : ∀ (q i : Nat), q < wx.heap.size → w'.cell? ⟨q, i, none⟩ = w.cell? ⟨q, i, none⟩ := fun q i hq => (hb'.cell (p := ⟨q, i, none⟩) hq).trans (h.below.cell (p := ⟨q, i, none⟩) hq).symm
  have hcs : CellsOf (fun q => q < wx.heap.size) w' (foOf (a ++ ts)) (xs ++ news) := CellsOf.app (hN.frame (fun _ h => h) hfr) (h2.frame (fun _ h => h) hfr)
  refine k v' w' ⟨hb', ⟨xs ++ news, by rw [List.length_append]; exact ho', hcs⟩, h.rb.grown hl hg' (fun g e1 e2 => h.ap g e2 e1) hva, fun g e1 e2 => ?_⟩
  rcases hat' with e | e
  · exact h.ap g (e ▸ e1) e2
  · rw [e] at e1
    simp at e1
    obtain ⟨ys, h3, _⟩ := h.rb
    have := (owns_at h3 g e2).2
    omega

end Go.Proofs.Ytfnkjadfepoicac

/- What a term is by bindings: the document's Apply. -/
namespace Go.Proofs.Ytfnkjadfepoicac
open Go.RowKit Go.Deep Go.ChangeShapes Go.WideShapes
attribute [local go_sem ↓] Go.wp_at_zero Go.wp_at_succ

theorem fo_snoc : ∀ {T : Fo} {j : Nat} {x : Bool × Int} {k : Fo}, Fo.ok T → T.list[j]? = some (x, k) → Fo.snoc (Fo.take j T) x k = Fo.take (j + 1) T
  | .nil, _, _, _, _, h => by simp [Fo.list] at h
  | .node p q y l r, 0, x, k, hT, h => by
    simp only [Fo.list, List.getElem?_cons_zero, Option.some.injEq, Prod.mk.injEq] at h
    obtain ⟨rfl, rfl⟩ := h
    rw [ok_node] at hT
    obtain ⟨rfl, rfl, _, _⟩ := hT
    rfl
  | .node p q y l r, j + 1, x, k, hT, h => by
    rw [ok_node] at hT
    have := fo_snoc (T := r) (j := j) hT.2.2.2 (by simpa [Fo.list] using h)
    rw [Fo.take, Fo.snoc, this, Fo.take]

/-- So far: the answer's first j terms stand in the row whose head lies in the box B. -/
def AppRel (B : Nat) (W2 : World) (X : Nat → Prop) (T : Fo) (xn : Int) (j : Nat) (wr : World) : Prop :=
  ∃ (v : Value) (xs : List Value), wr.ownsRow (B + 1) 35 3 v j xs ∧ CellsOf (Rm B X wr v) wr (Fo.take j T) xs ∧
    wr.cell? ⟨B, 0, none⟩ = some (.bool false) ∧ wr.cell? ⟨B, 1, none⟩ = some (.int .i64 xn) ∧ wr.cell? ⟨B, 2, none⟩ = some v ∧ (∀ i, wr.frozen? ⟨B, i, none⟩ = false) ∧ Below B W2 wr

theorem app_next {B : Nat} {W2 wr w1 w3 : World} {X : Nat → Prop} {T : Fo} {xn : Int} {j : Nat} {v v' a : Value} {z : Bool × Int} {r : Fo} {g cap : Nat} {xs : List Value} {ob : Obj} (hT : Fo.ok T)
    (h1 : wr.ownsRow (B + 1) 35 3 v j xs) (h2 : CellsOf (Rm B X wr v) wr (Fo.take j T) xs) (hX : ∀ q, X q → q < B)
    (q0 : wr.cell? ⟨B, 0, none⟩ = some (.bool false)) (q1 : wr.cell? ⟨B, 1, none⟩ = some (.int .i64 xn)) (q2 : wr.cell? ⟨B, 2, none⟩ = some v) (qf : ∀ i, wr.frozen? ⟨B, i, none⟩ = false)
    (hB3 : Below B W2 wr) (hb : Below wr.heap.size wr w1) (hk : SB (fun q => X q ∨ (wr.heap.size ≤ q ∧ q < w1.heap.size)) w1 r a) (hTj : T.list[j]? = some (z, r))
    (hv' : v' = .slice (some ⟨g, 0, none⟩) (j + 1) cap) (ho : w3.ownsRow (B + 1) 35 3 v' (j + 1) (xs ++ [.bool z.1, .int .i64 z.2, a])) (hg : (w1.alloc ob).grownBy w3 v.ownBlock)
    (hat : v.ownBlock = some g ∨ g = w1.heap.size + 1) (hlt : g < w3.heap.size) : AppRel B W2 X T xn (j + 1) (w3.setCell ⟨B, 2, none⟩ v') := by
  have hBl : B < wr.heap.size := World.block_lt_of_cell? _ _ q0
  have hjl : j < Fo.len T := by
    rw [← Fo.len_list]
    rcases Nat.lt_or_ge j T.list.length with h | h
    · exact h
    · rw [List.getElem?_eq_none h] at hTj; cases hTj
  have hlj : Fo.len (Fo.take j T) = j := take_len j T (by omega)
  have hlj1 : Fo.len (Fo.take (j + 1) T) = j + 1 := take_len (j + 1) T (by omega)
  obtain ⟨r1, r2, r3, r4, r5, r6, r7⟩ := row_step (B := B) (X := X) (acc := Fo.take j T) (x := z) (k := r) (g := g) (cap := cap) (v' := v') (by rw [hlj]; exact h1) h2 hX hBl ⟨_, q2⟩ hb.size (fun q _ hq => hb.block q hq) hk (by rw [hlj]; exact hv') (by rw [hlj]; exact ho) hg hat hlt
  rw [fo_snoc hT hTj] at r1 r2
  rw [hlj1] at r1
  refine ⟨v', _, r1, r2, (r5 0 (by omega)).trans q0, (r5 1 (by omega)).trans q1, r3, fun i => (r6 i).trans (qf i), ?_⟩
  have hb1 : Below B W2 w1 := hB3.trans (hb.mono (by omega))
  have hb2 : Below B W2 (w1.alloc ob) := hb1.alloc (by have := hb.size; omega) _
  exact (hb2.grown hg (by simp; have := hb.size; omega) (fun q hq => by have := (owns_at h1 q hq).1; omega)).setCell (Nat.le_refl _) _

theorem app_zero {w0 : World} {X : Nat → Prop} {T : Fo} {xn : Int} {B : Nat} (hB : w0.heap.size = B) : AppRel B w0 X T xn 0 (w0.alloc (.cells #[.bool false, .int .i64 xn, .slice none 0 0] 35)) :=
  ⟨.slice none 0 0, [], ⟨rfl, .inl ⟨rfl, rfl⟩⟩, rfl, new_cell hB, new_cell hB, new_cell hB, fun _ => new_frozen hB, (Below.refl _ _).alloc (by omega) _⟩

theorem app_end {B : Nat} {W2 wr : World} {X : Nat → Prop} {T : Fo} {xn : Int} (h : AppRel B W2 X T xn (Fo.len T) wr) :
    ∃ z1 z3, wr.cell? ⟨B, 2, none⟩ = some (.slice z1 (Fo.len T) z3) ∧ SB (fun q => X q ∨ (B + 1 ≤ q ∧ q < wr.heap.size)) wr T (.slice z1 (Fo.len T) z3) := by
  obtain ⟨v, xs, h1, h2, _, _, q2, _, _⟩ := h
  rw [take_all] at h2
  obtain ⟨z1, z3, rfl⟩ := slice_of_owns h1
  exact ⟨z1, z3, q2, row_sb h1 h2 (fun q hq => by rcases hq with h | h; exact .inl h; exact .inr ⟨h.1, h.2.1⟩) (fun g hg => .inr (owns_at h1 g hg))⟩

def ApplyRSaid (x : Bool × Int) (k : Fo) : Prop := ∀ (s : Sb) (vs : Value) (W0 : World) (a : Value) (w : World), Below W0.heap.size W0 w → SubIn W0 s vs → (∀ p ∈ s, okT p.2) → SIn W0 k a → okT (x, k) → narT (x, k) →
    Calls Try.prog 21 #[vs, .agg #[.bool x.1, .int .i64 x.2, a]] w fun e w' => ∃ (a1 : Option Addr) (a2 a3 : Nat), e = .returned (.agg #[.bool (subT (bnd s) (x, k)).1.1, .int .i64 (subT (bnd s) (x, k)).1.2, .slice a1 a2 a3]) ∧
      SB (fun q => q < W0.heap.size ∨ (w.heap.size ≤ q ∧ q < w'.heap.size)) w' (subT (bnd s) (x, k)).2 (.slice a1 a2 a3) ∧ Below w.heap.size w w'

set_option maxRecDepth 100000 in
set_option maxHeartbeats 2000000 in
theorem applyR_any (x : Bool × Int) (k : Fo) : ApplyRSaid x k := by
  refine Fo.ind1 (p := ApplyRSaid) ?_ x k
  clear x k
  intro x k ih s vs W0 a w hW hV hs hS hok hnar
  obtain ⟨v, n⟩ := x
  have HI := hide ih
  have HW := hide hW
  have HV := hide hV
  have Hs := hide hs
  have Hok := hide hok
  have Hnar := hide hnar
  have HS := hide hS
  obtain ⟨ad, ac, b, o, rfl, had, hlc, hcm, hF⟩ := hS
  obtain ⟨vd, vc, vb, vo, rfl, hvd, hvlc, hvcm, hP⟩ := hV
  have HF := hide hF
  have HP := hide hP
  have hW0 := hW.size
  unfold maxLen at hcm hvcm
  clear ih hs hok hF hP hW
  cases v
  · have Hres : Hid (subT (bnd s) ((false, n), k) = ((false, n), subF (bnd s) k)) := rfl
    have HTok : Hid (Fo.ok (subF (bnd s) k)) := subF_ok (bnd_ok Hs.out) k
    have Hl := hide (Fo.len_list k)
    have Hl2 := hide (subF_len (bnd s) k)
    have hlen : Fo.len k ≤ 1000 := hnar.1
    clear hnar hvd
    go_enter Try.func21, Try.ntmps21
    go_wp2_with fail
    generalize hW2 : (w.alloc (.cells #[.bool false, .int .i64 n, .slice ad (Fo.len k) ac] 35)).alloc (.cells #[.bool false, .int .i64 0, .slice none 0 0] 35) = W2
    have hs2 : W2.heap.size = w.heap.size + 1 + 1 := by rw [← hW2]; simp
    have hB2 : Below w.heap.size w W2 := by rw [← hW2]; exact (below_alloc _ _).alloc (by simp) _
    have r0 : W2.cell? ⟨w.heap.size + 1, 0, none⟩ = some (.bool false) := by rw [← hW2]; exact new_cell (World.size_alloc _ _)
    have r1 : W2.cell? ⟨w.heap.size + 1, 1, none⟩ = some (.int .i64 0) := by rw [← hW2]; exact new_cell (World.size_alloc _ _)
    have r2 : W2.cell? ⟨w.heap.size + 1, 2, none⟩ = some (.slice none 0 0) := by rw [← hW2]; exact new_cell (World.size_alloc _ _)
    have rf : ∀ i, W2.frozen? ⟨w.heap.size + 1, i, none⟩ = false := fun i => by rw [← hW2]; exact new_frozen (World.size_alloc _ _)
    have HQ := hide (And.intro r0 (And.intro r1 (And.intro r2 rf)))
    have HB2 := hide hB2
    have Hs2 := hide hs2
    have H0 : Hid (AppRel (w.heap.size + 1 + 1) W2 (fun q => q < W0.heap.size) (subF (bnd s) k) n 0 (W2.alloc (.cells #[.bool false, .int .i64 n, .slice none 0 0] 35))) := app_zero hs2
    clear r0 r1 r2 rf hB2 hs2 hW2
    go_loopw [33] (fun i wr => ∃ j : Nat, j ≤ Fo.len k ∧ i = .int .i64 j ∧ AppRel (w.heap.size + 1 + 1) W2 (fun q => q < W0.heap.size) (subF (bnd s) k) n j wr) (fun i _ => Fo.len k - (intOf i).toNat)
    case atStart => exact ⟨0, Nat.zero_le _, rfl, H0.out⟩
    case round =>
      obtain ⟨j, hj, rfl, hR⟩ := hrel
      have HR := hide hR
      obtain ⟨vr', xs, h1, h2, q0, q1, q2, qf, hB⟩ := hR
      have H1 := hide h1
      have H2 := hide h2
      have HB := hide hB
      have Hqf := hide qf
      have hs2 := Hs2.out
      have hBw : Below w.heap.size w wr := HB2.out.trans (hB.mono (by omega))
      have hB0 : Below W0.heap.size W0 wr := HW.out.trans (hBw.mono hW0)
      have hBlt : w.heap.size + 1 + 1 < wr.heap.size := World.block_lt_of_cell? _ _ q0
      obtain ⟨z1, z3, rfl⟩ := slice_of_owns h1
      clear H0 h1 h2 hB
      by_cases hlt : j < Fo.len k
      · have hlt' : (j : Int) < (Fo.len k : Int) := by omega
        have had' : ad = some ⟨b, o, none⟩ := had (by omega)
        subst had'
        obtain ⟨⟨⟨ev, en⟩, ek⟩, hy⟩ : ∃ y, k.list[j]? = some y := ⟨k.list[j]'(by rw [Hl.out]; exact hlt), by simp⟩
        obtain ⟨c0, c1, yv', c2, hSy⟩ := HF.out.at hy
        have c0' := grow_cell hB0 _ _ c0
        have c1' := grow_cell hB0 _ _ c1
        have c2' := grow_cell hB0 _ _ c2
        have HSy := hide hSy
        obtain ⟨ya, yc, yb, yo, rfl, -, -, -, -⟩ := hSy
        have Hy := hide hy
        have Hy2 : Hid ((subF (bnd s) k).list[j]? = some (subT (bnd s) ((ev, en), ek))) := by rw [Hid, subF_list, List.getElem?_map, hy]; rfl
        obtain ⟨⟨⟨xv, xn⟩, xk⟩, hz⟩ : ∃ z, z = subT (bnd s) ((ev, en), ek) := ⟨_, rfl⟩
        have Hz := hide hz
        have Hoke : Hid (okT ((ev, en), ek)) := ok_mem Hok.out.2 (List.mem_of_getElem? hy)
        have Hnare : Hid (narT ((ev, en), ek)) := nar_mem Hnar.out.2 (List.mem_of_getElem? hy)
        clear hy had c0 c1 c2 hz
        obtain ⟨i26, hi26, hz0, hz1, hz2⟩ := info_parts Try.info35
        have hn1 : j + 1 ≤ maxLen := by unfold maxLen; omega
        have hn2 : (j + 1) * 40 ≤ 140737488355328 := by omega
        go_upto_region 13 with fail
        generalize hwa : wr.alloc (.cells #[.bool ev, .int .i64 en, .slice ya (Fo.len ek) yc] 35) = wa
        have e0 : wa.cell? ⟨wr.heap.size, 0, none⟩ = some (.bool ev) := by rw [← hwa]; exact new_cell rfl
        have e1 : wa.cell? ⟨wr.heap.size, 1, none⟩ = some (.int .i64 en) := by rw [← hwa]; exact new_cell rfl
        have e2 : wa.cell? ⟨wr.heap.size, 2, none⟩ = some (.slice ya (Fo.len ek) yc) := by rw [← hwa]; exact new_cell rfl
        have hba : Below wr.heap.size wr wa := by rw [← hwa]; exact below_alloc _ _
        have f2 := grow_cell hba _ _ q2
        have ff : ∀ i, wa.frozen? ⟨w.heap.size + 1 + 1, i, none⟩ = false := fun i => (hba.frozen hBlt).trans (Hqf.out i)
        have hBa : w.heap.size + 1 + 1 < wa.heap.size := Nat.lt_of_lt_of_le hBlt hba.size
        have Hno : Hid (some (w.heap.size + 1 + 1) ≠ (Value.slice z1 j z3).ownBlock) := fun e => by have := (owns_at H1.out _ e.symm).1; omega
        have hcall : Calls Try.prog 21 #[.slice vd s.length vc, .agg #[.bool ev, .int .i64 en, .slice ya (Fo.len ek) yc]] wa.drew fun e w' => ∃ (a1 : Option Addr) (a2 a3 : Nat), e = .returned (.agg #[.bool xv, .int .i64 xn, .slice a1 a2 a3]) ∧ SB (fun q => q < W0.heap.size ∨ (wa.heap.size ≤ q ∧ q < w'.heap.size)) w' xk (.slice a1 a2 a3) ∧ Below wa.heap.size wa w' := by
          refine (HI.out ((ev, en), ek) (List.mem_of_getElem? Hy.out) s _ W0 _ wa.drew ?_ HV.out Hs.out HSy.out Hoke.out Hnare.out).mono ?_
          · exact (hB0.trans (hba.mono hB0.size)).trans (Below.refl _ _).drew
          · rintro e w' ⟨a1, a2, a3, rfl, hk, hb⟩
            rw [← Hz.out] at hk ⊢
            exact ⟨a1, a2, a3, rfl, hk, (Below.refl _ _).drew.trans hb⟩
        have Hcall := hide hcall
        have Hba := hide hba
        clear hcall hwa c0' c1' c2' hba q2 qf
        go_region_law (first
          | (refine step_append_lies _ (by rfl) _ _ _ (by rfl) (w.heap.size + 1 + 1 + 1) 35 i26 (.agg #[.bool false, .int .i64 0, .slice none 0 0]) 3 40 Try.underlying33 hi26 hz0 hz1 hz2 rfl (by decide) (.slice z1 j z3) j xs (by rfl) Hown3.out ⟨w3.heap.size, 0, none⟩ 1 1 [.bool xv, .int .i64 xn, .slice a1 a2 a3] (by rfl) (by rfl) Hnews.out (by simp [Value.oneCell']) (by decide) hn1 hn2 (by simp; omega) (w3.heap.size + 1) (by simp) ?_; intro g cap w4 ho4 hg4 hat4 hlt4; have x2 := out_cell hg4 hB3 Hno.out g3; have xf := out_frozen hg4 hB3 Hno.out gf3)
          | (go_simp; go_at_call 21; refine Hcall.out.mono ?_; rintro e w3 ⟨a1, a2, a3, rfl, hk3, hb3⟩
             have hs3 := hb3.size; have g3 := grow_cell hb3 _ _ f2; have gf3 : ∀ i, w3.frozen? ⟨w.heap.size + 1 + 1, i, none⟩ = false := (fun i => (hb3.frozen hBa).trans (ff i)); have hB3 : w.heap.size + 1 + 1 < w3.heap.size := Nat.lt_of_lt_of_le hBa hs3
             have Hown3 : Hid ((w3.alloc (.cells #[.bool xv, .int .i64 xn, .slice a1 a2 a3] 35)).ownsRow (w.heap.size + 1 + 1 + 1) 35 3 (.slice z1 j z3) j xs) := (owns_keep H1.out (fun g hg => by have h := owns_at H1.out g hg; have hsz := Hba.out.size; rw [Below.heap_alloc _ _ _ (by omega), hb3.block g (by omega), Hba.out.block g h.2]))
             have Hnews : Hid (∀ j u, [Value.bool xv, .int .i64 xn, .slice a1 a2 a3][j]? = some u → (w3.alloc (.cells #[.bool xv, .int .i64 xn, .slice a1 a2 a3] 35)).cell? ((⟨w3.heap.size, 0, none⟩ : Addr).add j) = some u) := (World.news_of_block (cs := #[.bool xv, .int .i64 xn, .slice a1 a2 a3]) (heap_alloc_new w3 _))))
        all_goals
          have Hst := hide (app_next (B := w.heap.size + 1 + 1) (W2 := W2) (X := fun q => q < W0.heap.size) (T := subF (bnd s) k) (xn := n) (z := (xv, xn)) (r := xk) (a := .slice a1 a2 a3) HTok.out H1.out H2.out (fun q hq => by omega) q0 q1 (by have hc := HR.out; obtain ⟨_, _, _, _, _, _, q2, _, _⟩ := hc; exact (Hba.out.cell (p := ⟨w.heap.size + 1 + 1, 2, none⟩) hBlt).symm.trans f2) Hqf.out HB.out (below_step Hba.out hb3) (hk3.wide (fun q hq => by rcases hq with h | h; exact .inl h; exact .inr ⟨by have := Hba.out.size; omega, h.2⟩)) (by rw [Hy2.out, ← Hz.out]) rfl ho4 hg4 hat4 hlt4)
          clear hk3 hb3 ho4 hg4 hat4 hlt4 x2 xf g3 gf3 Hown3 Hnews hi26 hz0 hz1 hz2
          go_wp2_with fail
          go_roundw
          case rel => exact ⟨j + 1, by omega, by go_num, Hst.out⟩
          case measure => simp [intOf]; omega
      · have hje : j = Fo.len k := by omega
        have hRe : AppRel (w.heap.size + 1 + 1) W2 (fun q => q < W0.heap.size) (subF (bnd s) k) n (Fo.len (subF (bnd s) k)) wr := by rw [Hl2.out, ← hje]; exact HR.out
        obtain ⟨y1, y3, hc2, hSB⟩ := app_end hRe
        have HSB := hide hSB
        obtain ⟨p0, p1, p2, pf⟩ := HQ.out
        have s0 : wr.cell? ⟨w.heap.size + 1, 0, none⟩ = some (.bool false) := (HB.out.cell (by show w.heap.size + 1 < _; omega)).trans p0
        have s1 : wr.cell? ⟨w.heap.size + 1, 1, none⟩ = some (.int .i64 0) := (HB.out.cell (by show w.heap.size + 1 < _; omega)).trans p1
        have s2 : wr.cell? ⟨w.heap.size + 1, 2, none⟩ = some (.slice none 0 0) := (HB.out.cell (by show w.heap.size + 1 < _; omega)).trans p2
        have sf : ∀ i, wr.frozen? ⟨w.heap.size + 1, i, none⟩ = false := fun i => (HB.out.frozen (by show w.heap.size + 1 < _; omega)).trans (pf i)
        clear q2 hSB p0 p1 p2 pf hRe
        go_wp2_with fail
        refine bodyPost_ret (v := .agg #[.bool false, .int .i64 n, .slice y1 (Fo.len (subF (bnd s) k)) y3]) (by simp [results, Try.results21, go_sem, s0, s1, s2]) rfl ⟨y1, Fo.len (subF (bnd s) k), y3, by rw [Hres.out], ?_, set3_below (o := 0) hBw (by omega)⟩
        rw [Hres.out]
        refine (HSB.out.set3 (b := w.heap.size + 1) (o := 0) ?_).wide (fun q hq => ?_)
        · intro h
          rcases h with h | h <;> omega
        · rcases hq with h | h
          · exact .inl h
          · exact .inr ⟨by omega, by rw [World.size_setCell, World.size_setCell, World.size_setCell]; exact h.2⟩
  · have Hres : Hid (subT (bnd s) ((true, n), k) = bnd s n) := rfl
    have hk0 : k = .nil := Hok.out.1 rfl
    subst hk0
    clear had
    go_enter Try.func21, Try.ntmps21
    go_wp2_with fail
    generalize hW2 : (w.alloc (.cells #[.bool true, .int .i64 n, .slice ad (Fo.len .nil) ac] 35)).alloc (.cells #[.bool false, .int .i64 0, .slice none 0 0] 35) = W2
    have hs2 : W2.heap.size = w.heap.size + 1 + 1 := by rw [← hW2]; simp
    have hB2 : Below w.heap.size w W2 := by rw [← hW2]; exact (below_alloc _ _).alloc (by simp) _
    have p0 : W2.cell? ⟨w.heap.size, 0, none⟩ = some (.bool true) := by rw [← hW2, World.cell?_alloc_lt _ _ _ (by simp)]; exact new_cell rfl
    have p1 : W2.cell? ⟨w.heap.size, 1, none⟩ = some (.int .i64 n) := by rw [← hW2, World.cell?_alloc_lt _ _ _ (by simp)]; exact new_cell rfl
    have p2 : W2.cell? ⟨w.heap.size, 2, none⟩ = some (.slice ad (Fo.len .nil) ac) := by rw [← hW2, World.cell?_alloc_lt _ _ _ (by simp)]; exact new_cell rfl
    have r0 : W2.cell? ⟨w.heap.size + 1, 0, none⟩ = some (.bool false) := by rw [← hW2]; exact new_cell (World.size_alloc _ _)
    have r1 : W2.cell? ⟨w.heap.size + 1, 1, none⟩ = some (.int .i64 0) := by rw [← hW2]; exact new_cell (World.size_alloc _ _)
    have r2 : W2.cell? ⟨w.heap.size + 1, 2, none⟩ = some (.slice none 0 0) := by rw [← hW2]; exact new_cell (World.size_alloc _ _)
    have rf : ∀ i, W2.frozen? ⟨w.heap.size + 1, i, none⟩ = false := fun i => by rw [← hW2]; exact new_frozen (World.size_alloc _ _)
    have HQ := hide (And.intro p0 (And.intro p1 (And.intro p2 (And.intro r0 (And.intro r1 (And.intro r2 rf))))))
    have HB2 := hide hB2
    have Hs2 := hide hs2
    clear p0 p1 p2 r0 r1 r2 rf hB2 hs2 hW2
    go_loopw [14] (fun i wr => ∃ j : Nat, j ≤ s.length ∧ i = .int .i64 j ∧ (∀ q p, q < j → s[q]? = some p → p.1 ≠ n) ∧ Below W2.heap.size W2 wr) (fun i _ => s.length - (intOf i).toNat)
    case atStart => exact ⟨0, Nat.zero_le _, rfl, fun q _ hq => by omega, Below.refl _ _⟩
    case round =>
      obtain ⟨j, hj, rfl, hno, hB⟩ := hrel
      have Hno := hide hno
      have hs2 := Hs2.out
      have hBw : Below w.heap.size w wr := HB2.out.trans (hB.mono (by omega))
      have hB0 : Below W0.heap.size W0 wr := HW.out.trans (hBw.mono hW0)
      have hsz := hB.size
      obtain ⟨q0, q1, q2, q3, q4, q5, qf⟩ := HQ.out
      have p0 := grow_cell hB _ _ q0
      have p1 := grow_cell hB _ _ q1
      have p2 := grow_cell hB _ _ q2
      have s0 := grow_cell hB _ _ q3
      have s1 := grow_cell hB _ _ q4
      have s2 := grow_cell hB _ _ q5
      have sf : ∀ i, wr.frozen? ⟨w.heap.size + 1, i, none⟩ = false := fun i => (hB.frozen (by show w.heap.size + 1 < _; omega)).trans (qf i)
      clear hno q0 q1 q2 q3 q4 q5 qf
      by_cases hlt : j < s.length
      · have hlt' : (j : Int) < (s.length : Int) := by omega
        obtain ⟨⟨m, ⟨tv, tn⟩, tk⟩, hy⟩ : ∃ y, s[j]? = some y := ⟨s[j], by simp [hlt]⟩
        obtain ⟨c0, c1, c2, tv', c3, hSy⟩ := HP.out.at hy
        have c0' := grow_cell hB0 _ _ c0
        have c1' := grow_cell hB0 _ _ c1
        have c2' := grow_cell hB0 _ _ c2
        have c3' := grow_cell hB0 _ _ c3
        have HSy := hide hSy
        obtain ⟨ya, yc, yb, yo, rfl, -, -, -, -⟩ := hSy
        have ha : vd = some ⟨vb, vo, none⟩ := hvd (by omega)
        subst ha
        have Hy := hide hy
        have hx0 : w.heap.size < wr.heap.size := by omega
        have hx1 : w.heap.size + 1 < wr.heap.size := by omega
        clear hy hvd c0 c1 c2 c3
        by_cases hmn : m = n
        · have hmb : (m == n) = true := by simp [hmn]
          have Hl : Hid (bnd s n = ((tv, tn), tk)) := bnd_some (look_first Hno.out (by rw [Hy.out, hmn]))
          clear hmn
          obtain ⟨g0, g1, g2⟩ := set3_cells (w := wr) (b := w.heap.size + 1) (o := 0) (x := .bool tv) (y := .int .i64 tn) (z := .slice ya (Fo.len tk) yc) s0 s1 s2
          have k0 : ((((wr.setCell ⟨w.heap.size + 1, 0, none⟩ (.bool tv)).setCell ⟨w.heap.size + 1, 1, none⟩ (.int .i64 tn)).setCell ⟨w.heap.size + 1, 2, none⟩ (.slice ya (Fo.len tk) yc)).alloc (.cells #[.int .i64 m, .bool tv, .int .i64 tn, .slice ya (Fo.len tk) yc] 47)).cell? ⟨w.heap.size + 1, 0, none⟩ = some (.bool tv) := by
            rw [World.cell?_alloc_lt _ _ _ (by simpa using hx1)]; exact g0
          have k1 : ((((wr.setCell ⟨w.heap.size + 1, 0, none⟩ (.bool tv)).setCell ⟨w.heap.size + 1, 1, none⟩ (.int .i64 tn)).setCell ⟨w.heap.size + 1, 2, none⟩ (.slice ya (Fo.len tk) yc)).alloc (.cells #[.int .i64 m, .bool tv, .int .i64 tn, .slice ya (Fo.len tk) yc] 47)).cell? ⟨w.heap.size + 1, 1, none⟩ = some (.int .i64 tn) := by
            rw [World.cell?_alloc_lt _ _ _ (by simpa using hx1)]; exact g1
          have k2 : ((((wr.setCell ⟨w.heap.size + 1, 0, none⟩ (.bool tv)).setCell ⟨w.heap.size + 1, 1, none⟩ (.int .i64 tn)).setCell ⟨w.heap.size + 1, 2, none⟩ (.slice ya (Fo.len tk) yc)).alloc (.cells #[.int .i64 m, .bool tv, .int .i64 tn, .slice ya (Fo.len tk) yc] 47)).cell? ⟨w.heap.size + 1, 2, none⟩ = some (.slice ya (Fo.len tk) yc) := by
            rw [World.cell?_alloc_lt _ _ _ (by simpa using hx1)]; exact g2
          have hBe : Below w.heap.size w ((((wr.setCell ⟨w.heap.size + 1, 0, none⟩ (.bool tv)).setCell ⟨w.heap.size + 1, 1, none⟩ (.int .i64 tn)).setCell ⟨w.heap.size + 1, 2, none⟩ (.slice ya (Fo.len tk) yc)).alloc (.cells #[.int .i64 m, .bool tv, .int .i64 tn, .slice ya (Fo.len tk) yc] 47)) :=
            (set3_below (b := w.heap.size + 1) (o := 0) hBw (by omega)).alloc (by rw [set3_size]; omega) _
          have Hend := hide (And.intro k0 (And.intro k1 (And.intro k2 hBe)))
          clear k0 k1 k2 hBe g0 g1 g2
          go_wp2_with fail
          obtain ⟨k0, k1, k2, hBe⟩ := Hend.out
          refine bodyPost_ret (v := .agg #[.bool tv, .int .i64 tn, .slice ya (Fo.len tk) yc]) (by simp [results, Try.results21, go_sem, k0, k1, k2]) rfl ⟨ya, Fo.len tk, yc, by rw [Hres.out, Hl.out], ?_, hBe⟩
          rw [Hres.out, Hl.out]
          exact (HSy.out.toB.grow (fun _ h => h) (HW.out.trans (hBe.mono hW0))).wide (fun q hq => .inl hq)
        · have hmb : (m == n) = false := by simp [hmn]
          have Hno2 : Hid (∀ q p, q < j + 1 → s[q]? = some p → p.1 ≠ n) := fun q p hq hp => by
            by_cases e : q = j
            · subst e; rw [Hy.out] at hp; cases hp; exact hmn
            · exact Hno.out q p (by omega) hp
          clear hmn
          go_wp2_with fail
          go_roundw
          case rel => exact ⟨j + 1, by omega, by go_num, Hno2.out, hB.alloc hsz _⟩
          case measure => simp [intOf]; omega
      · have Hl : Hid (bnd s n = vr n) := bnd_none (look_all (fun q p hq hp => Hno.out q p (by omega) hp))
        clear hvd
        go_wp2_with fail
        refine bodyPost_ret (v := .agg #[.bool true, .int .i64 n, .slice ad (Fo.len .nil) ac]) (by simp [results, Try.results21, go_sem, s0, s1, s2]) rfl ⟨ad, Fo.len .nil, ac, by rw [Hres.out, Hl.out]; rfl, ?_, set3_below (o := 0) hBw (by omega)⟩
        rw [Hres.out, Hl.out]
        exact ⟨ad, ac, b, o, rfl, fun h => by simp [vr, Fo.len] at h, Nat.zero_le _, by unfold maxLen; exact hcm, trivial⟩

end Go.Proofs.Ytfnkjadfepoicac
