/- CK CK2 RGen RMore BS RSolP -/
import Derived.Test.YtfckelbdageenabGreatDoorG08
namespace Go.Proofs.YtfckelbdageenabGreatDoor
open Go.RowKit Go.Deep Go.ChangeShapes Go.WideShapes

theorem nodup_le : ∀ {l m : List Int}, l.Nodup → (∀ x ∈ l, x ∈ m) → l.length ≤ m.length
  | [], _, _, _ => Nat.zero_le _
  | a :: l, m, hn, hs => by
    rw [List.nodup_cons] at hn
    have ha : a ∈ m := hs a (by simp)
    have h1 := nodup_le (l := l) (m := m.erase a) hn.2 (fun x hx => by
      have hne : x ≠ a := fun e => hn.1 (e ▸ hx)
      exact (List.mem_erase_of_ne hne).2 (hs x (by simp [hx])))
    rw [List.length_erase_of_mem ha] at h1
    have := List.length_pos_of_mem ha
    simp only [List.length_cons]
    omega
theorem gc_few {d : Cl} (h : ∀ l ∈ d, GL l) : ∀ n ∈ varsC d [], 0 ≤ n ∧ n ≤ 4 := fun n hn => by
  rcases varsC_mem.1 hn with hn | ⟨l, hl, hn⟩
  · cases hn
  · rcases hn with hn | hn
    · exact ⟨((h l hl).gl.few n hn).1, (h l hl).fl n hn⟩
    · exact ⟨((h l hl).gr.few n hn).1, (h l hl).fr n hn⟩
theorem gc_vars {d : Cl} (h : ∀ l ∈ d, GL l) : (varsC d []).length ≤ 5 := by
  refine nodup_le (m := [0, 1, 2, 3, 4]) (varsC_nodup List.nodup_nil) (fun x hx => ?_)
  have := gc_few h x hx
  simp
  omega
theorem wgF_zero {c : Int → Nat} (hc : ∀ n, c n = 0) : ∀ F : Fo, wgF c F = 0
  | .nil => rfl
  | .node _ _ x k r => by rw [wgF, wgF_zero hc k, wgF_zero hc r, hc]; simp
theorem num_nil (vs : List Int) (n : Int) : (bnd (numS vs) n).2 = .nil := by
  by_cases h : n ∈ vs
  · rw [bnd_num h]; rfl
  · have := look_num (n := n) (vs := vs) (k := 0)
    simp only [Nat.add_zero] at this
    rw [if_neg h] at this
    have e : bnd (numS vs) n = vr n := bnd_none this
    rw [e]; rfl
theorem num_size {vs : List Int} {t : Tm} (h : okT t) : tszR (subT (bnd (numS vs)) t).2 = tszR t.2 := by
  have := subT_size (f := bnd (numS vs)) h
  simp only [szT, wgT] at this
  rw [wgF_zero (fun n => by rw [num_nil]; rfl)] at this
  rw [this, num_nil]
  simp [Fo.sizesR]
theorem num_gd {vs : List Int} (hl : vs.length ≤ 10) : ∀ p ∈ numS vs, Gd p.2 := fun p hp => by
  simp only [numS, List.mem_mapIdx] at hp
  obtain ⟨i, hi, rfl⟩ := hp
  exact gd_vr ⟨by omega, by omega⟩
theorem num_four {vs : List Int} (hl : vs.length ≤ 5) {t : Tm} (h : ∀ m, occT m t → m ≤ 4) : ∀ m, occT m (subT (bnd (numS vs)) t) → m ≤ 4 := fun m hm => by
  obtain ⟨n, h1, h2⟩ := occT_sub.1 hm
  by_cases hn : n ∈ vs
  · rw [bnd_num hn, occ_vr] at h2
    have := List.idxOf_lt_length_of_mem hn
    omega
  · have := look_num (n := n) (vs := vs) (k := 0)
    simp only [Nat.add_zero] at this
    rw [if_neg hn] at this
    have e : bnd (numS vs) n = vr n := bnd_none this
    rw [e, occ_vr] at h2
    rw [← h2]
    exact h n h1
theorem GL.num {vs : List Int} (hl : vs.length ≤ 5) {l : Lt} (h : GL l) : GL (mapL (subT (bnd (numS vs))) l) :=
  ⟨gd_sub (num_gd (by omega)) h.gl, gd_sub (num_gd (by omega)) h.gr, num_four hl h.fl, num_four hl h.fr, by simp only [mapL]; rw [num_size h.gl.ok]; exact h.sl, by simp only [mapL]; rw [num_size h.gr.ok]; exact h.sr⟩
theorem GL.okl {l : Lt} (h : GL l) : okL l := ⟨h.gl.ok, h.gr.ok⟩
/-- Literals of terms that can be reckoned with, though they be great. -/
structure GLx (l : Lt) : Prop where
  gl : Gd l.2.1
  gr : Gd l.2.2
  sl : tszR l.2.1.2 ≤ 4000000000000
  sr : tszR l.2.2.2 ≤ 4000000000000
def GX (c : Cl) : Prop := c.length ≤ 8 ∧ ∀ l ∈ c, GLx l
theorem GL.x {l : Lt} (h : GL l) : GLx l := ⟨h.gl, h.gr, by have := h.sl; omega, by have := h.sr; omega⟩
theorem GC.x {c : Cl} (h : GC c) : GX c := ⟨by have := h.1; omega, fun l hl => (h.2 l hl).x⟩
theorem GLx.flip {l : Lt} (h : GLx l) : GLx (flipL l) := by
  unfold flipL
  split
  · exact ⟨h.gr, h.gl, h.sr, h.sl⟩
  · exact h
theorem GLx.okl {l : Lt} (h : GLx l) : okL l := ⟨h.gl.ok, h.gr.ok⟩
theorem turn_gx {c d : Cl} (h : turnC c = some d) (hc : GX c) : GX d := by
  refine ⟨?_, turn_mem (p := GLx) h (fun e he => by cases he; simp) (fun l hl => (hc.2 l hl).flip)⟩
  have := turn_len (n := 0) h (fun e he => by cases he; simp)
  have := hc.1
  omega
theorem gx_few {d : Cl} (h : ∀ l ∈ d, GLx l) : ∀ n ∈ varsC d [], 0 ≤ n ∧ n ≤ 9 := fun n hn => by
  rcases varsC_mem.1 hn with hn | ⟨l, hl, hn⟩
  · cases hn
  · rcases hn with hn | hn
    · exact (h l hl).gl.few n hn
    · exact (h l hl).gr.few n hn
theorem gx_vars {d : Cl} (h : ∀ l ∈ d, GLx l) : (varsC d []).length ≤ 10 := by
  refine nodup_le (m := [0, 1, 2, 3, 4, 5, 6, 7, 8, 9]) (varsC_nodup List.nodup_nil) (fun x hx => ?_)
  have := gx_few h x hx
  simp
  omega
theorem GLx.num {vs : List Int} (hl : vs.length ≤ 10) {l : Lt} (h : GLx l) : GLx (mapL (subT (bnd (numS vs))) l) :=
  ⟨gd_sub (num_gd hl) h.gl, gd_sub (num_gd hl) h.gr, by simp only [mapL]; rw [num_size h.gl.ok]; exact h.sl, by simp only [mapL]; rw [num_size h.gr.ok]; exact h.sr⟩
theorem gx_ren {d : Cl} (h : GX d) : GX (reN d) := by
  refine ⟨by rw [reN, List.length_map]; exact h.1, fun l hl => ?_⟩
  obtain ⟨x, hx, rfl⟩ := List.mem_map.1 hl
  exact (h.2 x hx).num (gx_vars h.2)
theorem gx_dist {d e : Cl} (h : GX d) (he : distC d = some e) : GX e := by
  refine ⟨?_, dist_mem (p := GLx) he (fun e he => by cases he; simp) h.2⟩
  have := dist_len (n := 0) he (fun e he => by cases he; simp)
  have := h.1
  omega
/-- What Norm tells of a clause, however great. -/
theorem norm_casesX {c : Cl} (hc : GX c) : (turnC c = none ∧ normC c = (6, [])) ∨ ∃ d, turnC c = some d ∧ GX d ∧ GX (reN d) ∧ ((distC (reN d) = none ∧ normC c = (6, [])) ∨ ∃ e, distC (reN d) = some e ∧ GX e ∧ normC c = keepC d e) := by
  cases ht : turnC c with
  | none => exact .inl ⟨rfl, by simp [normC, ht]⟩
  | some d =>
    have hd := turn_gx ht hc
    have hr := gx_ren hd
    refine .inr ⟨d, rfl, hd, hr, ?_⟩
    cases he : distC (reN d) with
    | none => exact .inl ⟨rfl, by simp [normC, ht, he]⟩
    | some e => exact .inr ⟨e, rfl, gx_dist hr he, by simp only [normC, ht, he]⟩
theorem keep_big {d e : Cl} (h : (4 < e.length ∨ 5 < (varsC d []).length) ∨ e.any bigL = true) : keepC d e = (4, []) := if_pos (by
  rcases h with (h | h) | h
  · exact .inl h
  · exact .inr (.inl h)
  · exact .inr (.inr h))
theorem keep_ok {d e : Cl} (h1 : ¬ 4 < e.length) (h2 : ¬ 5 < (varsC d []).length) (h3 : e.any bigL = false) : keepC d e = (0, e) := if_neg (by
  rintro (h | h | h)
  · exact h1 h
  · exact h2 h
  · rw [h3] at h; cases h)
end Go.Proofs.YtfckelbdageenabGreatDoor

namespace Go.Proofs.YtfckelbdageenabGreatDoor
open Go.RowKit Go.Deep Go.ChangeShapes Go.WideShapes

/-- A literal that stands as it must: it does not say that something is itself, and its right is not above its left. -/
def Tn (l : Lt) : Prop := l.2.1 ≠ l.2.2 ∧ abvT l.2.2 l.2.1 = false
end Go.Proofs.YtfckelbdageenabGreatDoor

namespace Go.Proofs.YtfckelbdageenabGreatDoor
open Go.RowKit Go.Deep Go.ChangeShapes Go.WideShapes

/-- The slice lv has m elements, whose cells are news. -/
def Cs (w : World) (lv : Value) (m size : Nat) (news : List Value) : Prop :=
  ∃ (a : Option Addr) (c : Nat), lv = .slice a m c ∧ news.length = m * size ∧ (∀ u ∈ news, u.oneCell' = true) ∧ (a = none → m = 0) ∧ ∀ ad, a = some ad → ∀ j u, news[j]? = some u → w.cell? (ad.add j) = some u

theorem append_nothing {w : World} (base : Nat) (t ty e : TypeId) (i : TypeInfo) (size : Nat) (ht : Tryz.prog.underlying t = some (.slice e)) (hi : Tryz.prog.info? e = some i) (v : Value) (n c : Nat) (xs : List Value) (hown : w.ownsRow base e size v n xs) :
    (Builtin.append_ #[t, t] ty #[v, .slice none 0 c]).run Tryz.prog w = .ok v w := by
  rcases hown.2 with ⟨rfl, rfl⟩ | ⟨g, cap, cur, rfl, _, _, hnc, _⟩
  · simp [Builtin.append_, run_underlying ht, sizeOf, typeInfo, hi, Builtin.lenOf, Builtin.firstCells]
  · simp [Builtin.append_, run_underlying ht, sizeOf, typeInfo, hi, Builtin.lenOf, Builtin.firstCells, hnc, storeCells]

theorem run_append_gen {w : World} (base : Nat) (t ty e : TypeId) (i : TypeInfo) (z : Value) (size bytes : Nat) (ht : Tryz.prog.underlying t = some (.slice e)) (hi : Tryz.prog.info? e = some i) (hz : i.zero = some z) (hsize : i.size = size) (hby : i.bytes = bytes) (hzs : z.cells.size = size) (hsz : 0 < size)
    (v : Value) (n : Nat) (xs : List Value) (hown : w.ownsRow base e size v n xs) (lv : Value) (m : Nat) (news : List Value) (hC : Cs w lv m size news) (h63 : n + m ≤ maxLen) (hb : (n + m) * bytes ≤ 140737488355328) (hbase : base ≤ w.heap.size) :
    ∃ v' w', (Builtin.append_ #[t, t] ty #[v, lv]).run Tryz.prog w = .ok v' w' ∧ w'.ownsRow base e size v' (n + m) (xs ++ news) ∧ w.grownBy w' v.ownBlock ∧ (v'.ownBlock = v.ownBlock ∨ v'.ownBlock = some w.heap.size) := by
  obtain ⟨a, c, rfl, hl, h1, h0, hc⟩ := hC
  cases a with
  | none =>
    have hm := h0 rfl
    subst hm
    have hn : news = [] := List.length_eq_zero_iff.1 (by rw [hl]; simp)
    subst hn
    exact ⟨v, w, append_nothing base t ty e i size ht hi v n c xs hown, by simpa using hown, ⟨rfl, rfl, rfl, Nat.le_refl _, fun _ _ _ => rfl⟩, .inl rfl⟩
  | some ad =>
    obtain ⟨v', w', hr, h2, h3, _, h5⟩ := run_append_own_at (P := Tryz.prog) w base t ty e i z size bytes ht hi hz hsize hby hzs hsz v n xs hown ad m c news hl (hc ad rfl) h1 h63 hb hbase
    exact ⟨v', w', hr, h2, h3, h5⟩

theorem wp_append_gen {w : World} {o : Oper} {a : Act} {K : Act → World → Prop} {Q : Exit → Act → World → Prop} (s x : Operand) (t : TypeId)
    (ho : o.op = .call { callee := .builtin .append, args := #[s, x], argTypes := #[t, t] }) (base : Nat) (e : TypeId) (i : TypeInfo) (z : Value) (size bytes : Nat) (ht : Tryz.prog.underlying t = some (.slice e)) (hi : Tryz.prog.info? e = some i) (hz : i.zero = some z) (hsize : i.size = size) (hby : i.bytes = bytes) (hzs : z.cells.size = size) (hsz : 0 < size)
    (v : Value) (n : Nat) (xs : List Value) (hs : a.eval s = v) (hown : w.ownsRow base e size v n xs) (lv : Value) (m : Nat) (news : List Value) (hx : a.eval x = lv) (hC : Cs w lv m size news) (h63 : n + m ≤ maxLen) (hb : (n + m) * bytes ≤ 140737488355328) (hbase : base ≤ w.heap.size)
    (h : ∀ v' w', w'.ownsRow base e size v' (n + m) (xs ++ news) → w.grownBy w' v.ownBlock → (v'.ownBlock = v.ownBlock ∨ v'.ownBlock = some w.heap.size) → K (a.put o.dst v') w') : o.wp Tryz.prog a w K Q := by
  obtain ⟨v', w', hr, h2, h3, h4⟩ := run_append_gen base t o.type e i z size bytes ht hi hz hsize hby hzs hsz v n xs hown lv m news hC h63 hb hbase
  unfold Oper.wp execOp
  simp only [ho, resolve, invoke, builtin, Sem.run_bind, Sem.run_pure, Result.andThen_ok, List.map_toArray, List.map_cons, List.map_nil, hs, hx, hr]
  exact h v' w' h2 h3 h4

theorem step_append_gen {w : World} {ops : Array Oper} {o : Oper} {a : Act} {K : Act → World → Prop} {Q : Exit → Act → World → Prop} {E : Prop} (hgd : o.guard = none) (s x : Operand) (t : TypeId)
    (ho : o.op = .call { callee := .builtin .append, args := #[s, x], argTypes := #[t, t] }) (base : Nat) (e : TypeId) (i : TypeInfo) (z : Value) (size bytes : Nat) (ht : Tryz.prog.underlying t = some (.slice e)) (hi : Tryz.prog.info? e = some i) (hz : i.zero = some z) (hsize : i.size = size) (hby : i.bytes = bytes) (hzs : z.cells.size = size) (hsz : 0 < size)
    (v : Value) (n : Nat) (xs : List Value) (hs : a.eval s = v) (hown : w.ownsRow base e size v n xs) (lv : Value) (m : Nat) (news : List Value) (hx : a.eval x = lv) (hC : Cs w lv m size news) (h63 : n + m ≤ maxLen) (hb : (n + m) * bytes ≤ 140737488355328) (hbase : base ≤ w.heap.size)
    (h : ∀ v' w', w'.ownsRow base e size v' (n + m) (xs ++ news) → w.grownBy w' v.ownBlock → (v'.ownBlock = v.ownBlock ∨ v'.ownBlock = some w.heap.size) → K (a.put o.dst v') w') :
    if Region.wanted o (yielded ops a.tmps) = true then Oper.wp Tryz.prog o a w K Q else E := by
  have hw : Region.wanted o (yielded ops a.tmps) = true := by simp [Region.wanted, hgd]
  rw [if_pos hw]
  exact wp_append_gen s x t ho base e i z size bytes ht hi hz hsize hby hzs hsz v n xs hs hown lv m news hx hC h63 hb hbase h
theorem wpList_append_gen {w : World} {ops : Array Oper} {rest : List Oper} {o : Oper} {a : Act} {Q : Exit → Act → World → Prop} (hgd : o.guard = none) (s x : Operand) (t : TypeId)
    (ho : o.op = .call { callee := .builtin .append, args := #[s, x], argTypes := #[t, t] }) (base : Nat) (e : TypeId) (i : TypeInfo) (z : Value) (size bytes : Nat) (ht : Tryz.prog.underlying t = some (.slice e)) (hi : Tryz.prog.info? e = some i) (hz : i.zero = some z) (hsize : i.size = size) (hby : i.bytes = bytes) (hzs : z.cells.size = size) (hsz : 0 < size)
    (v : Value) (n : Nat) (xs : List Value) (hs : a.eval s = v) (hown : w.ownsRow base e size v n xs) (lv : Value) (m : Nat) (news : List Value) (hx : a.eval x = lv) (hC : Cs w lv m size news) (h63 : n + m ≤ maxLen) (hb : (n + m) * bytes ≤ 140737488355328) (hbase : base ≤ w.heap.size)
    (h : ∀ v' w', w'.ownsRow base e size v' (n + m) (xs ++ news) → w.grownBy w' v.ownBlock → (v'.ownBlock = v.ownBlock ∨ v'.ownBlock = some w.heap.size) → wpList Tryz.prog ops Q rest (a.put o.dst v') w') : wpList Tryz.prog ops Q (o :: rest) a w :=
  wpList_plain hgd fun _ hK => wp_append_gen s x t ho base e i z size bytes ht hi hz hsize hby hzs hsz v n xs hs hown lv m news hx hC h63 hb hbase fun v' w' h2 h3 h4 => hK _ _ (h v' w' h2 h3 h4)

/-- An empty row that was laid. -/
theorem own_bare {w : World} {base b : Nat} {e : TypeId} {size : Nat} (h : w.heap[b]? = some (.cells #[] e)) (hb : base ≤ b) : w.ownsRow base e size (.slice (some ⟨b, 0, none⟩) 0 0) 0 [] :=
  ⟨by simp, .inr ⟨b, 0, #[], rfl, hb, h, Nat.le_refl _, Nat.zero_le _, by simp, by simp⟩⟩

end Go.Proofs.YtfckelbdageenabGreatDoor

namespace Go.Proofs.YtfckelbdageenabGreatDoor
open Go.RowKit Go.Deep Go.ChangeShapes Go.WideShapes
attribute [local go_sem ↓] Go.wp_at_zero Go.wp_at_succ

theorem Cs.below {w w' : World} {lv : Value} {m size : Nat} {news : List Value} (h : Cs w lv m size news) (hb : Below w.heap.size w w') : Cs w' lv m size news := by
  obtain ⟨a, c, h1, h2, h3, h4, h5⟩ := h
  exact ⟨a, c, h1, h2, h3, h4, fun ad e j u hj => grow_cell hb _ _ (h5 ad e j u hj)⟩
theorem cs_pair {w : World} {e : Nat} {n yn : Int} {yv : Bool} {a : Option Addr} {l c : Nat} (h : w.heap[e]? = some (.cells #[.int .i64 n, .bool yv, .int .i64 yn, .slice a l c] 38)) : Cs w (.slice (some ⟨e, 0, none⟩) 1 1) 1 4 [.int .i64 n, .bool yv, .int .i64 yn, .slice a l c] :=
  ⟨_, 1, rfl, rfl, by simp [Value.oneCell'], fun e => by (cases e), fun ad hh j u hj => by cases hh; exact World.news_of_block (cs := #[.int .i64 n, .bool yv, .int .i64 yn, .slice a l c]) h j u hj⟩
end Go.Proofs.YtfckelbdageenabGreatDoor

namespace Go.Proofs.YtfckelbdageenabGreatDoor
open Go.RowKit Go.Deep Go.ChangeShapes Go.WideShapes

theorem runU_step {m : Nat} {s s' : Sb} {p : Tm × Tm} {L L' : List (Tm × Tm)} {R : Option Sb} (h : stepU s p.1 p.2 L = some (s', L')) : runU (m + 1) s (p :: L) = some R ↔ runU m s' L' = some R := by
  simp [runU, h]
theorem runU_stop {m : Nat} {s : Sb} {p : Tm × Tm} {L : List (Tm × Tm)} {R : Option Sb} (h : stepU s p.1 p.2 L = none) : runU (m + 1) s (p :: L) = some R ↔ R = none := by
  simp [runU, h, eq_comm]
theorem sub_var {s : Sb} {t : Tm} (h : t.1.1 = true) (hf : look s t.1.2 = none) : subT (bnd s) t = vr t.1.2 := by
  unfold subT
  rw [if_pos h]
  exact bnd_none hf
theorem sub_sym {s : Sb} {t : Tm} (h : ¬ t.1.1 = true) : subT (bnd s) t = ((false, t.1.2), subF (bnd s) t.2) := by
  unfold subT
  rw [if_neg h]

/-- Two symbols: their arguments, or nothing. -/
theorem run_sym {n : Nat} {s : Sb} {p : Tm × Tm} {L : List (Tm × Tm)} {R : Option Sb} (h : UI s (p :: L)) (hr : runU n s (p :: L) = some R) (hx : ¬ (subT (bnd s) p.1).1.1 = true) (hy : ¬ (subT (bnd s) p.2).1.1 = true) :
    (¬ ((subT (bnd s) p.1).1.2 = (subT (bnd s) p.2).1.2 ∧ Fo.len (subT (bnd s) p.1).2 = Fo.len (subT (bnd s) p.2).2) → R = none) ∧
    ((subT (bnd s) p.1).1.2 = (subT (bnd s) p.2).1.2 ∧ Fo.len (subT (bnd s) p.1).2 = Fo.len (subT (bnd s) p.2).2 → ∃ m M, m < n ∧ UI s (M ++ L) ∧ runU m s (M ++ L) = some R ∧ M.map (fun q => subT (bnd s) q.1) = (subT (bnd s) p.1).2.list ∧ M.map (fun q => subT (bnd s) q.2) = (subT (bnd s) p.2).2.list) := by
  cases n with
  | zero => simp [runU] at hr
  | succ n =>
    have t1 := top_sub h.idem (ui_ok h) p.1
    have t2 := top_sub h.idem (ui_ok h) p.2
    rw [← t1] at hx ⊢
    rw [← t2] at hy ⊢
    have hx' : ¬ (top s p.1).1.1 = true := fun e => hx (by rw [sub_var e (top_free h.idem e)]; rfl)
    have hy' : ¬ (top s p.2).1.1 = true := fun e => hy (by rw [sub_var e (top_free h.idem e)]; rfl)
    rw [sub_sym hx', sub_sym hy']
    simp only [subF_len]
    refine ⟨fun hc => ?_, fun hc => ?_⟩
    · have hst : stepU s p.1 p.2 L = none := by
        unfold stepU
        rw [if_neg (fun e => hx' e.1), if_neg hx', if_neg hy', if_neg hc]
      exact (runU_stop hst).1 hr
    · have hst : stepU s p.1 p.2 L = some (s, (top s p.1).2.list.zip (top s p.2).2.list ++ L) := by
        unfold stepU
        rw [if_neg (fun e => hx' e.1), if_neg hx', if_neg hy', if_pos hc]
      refine ⟨n, _, Nat.lt_succ_self n, (step_keeps h hst).1, (runU_step hst).1 hr, ?_, ?_⟩
      · have e : ((top s p.1).2.list.zip (top s p.2).2.list).map Prod.fst = (top s p.1).2.list := by
          rw [List.map_fst_zip]
          rw [Fo.len_list, Fo.len_list]; omega
        have e2 := congrArg (List.map (subT (bnd s))) e
        rw [List.map_map] at e2
        rw [subF_list]
        exact e2
      · have e : ((top s p.1).2.list.zip (top s p.2).2.list).map Prod.snd = (top s p.2).2.list := by
          rw [List.map_snd_zip]
          rw [Fo.len_list, Fo.len_list]; omega
        have e2 := congrArg (List.map (subT (bnd s))) e
        rw [List.map_map] at e2
        rw [subF_list]
        exact e2

/-- One is a variable: it is bound to the other one, or nothing. -/
theorem run_var {n : Nat} {s : Sb} {p : Tm × Tm} {L : List (Tm × Tm)} {R : Option Sb} {u v : Tm} (h : UI s (p :: L)) (hr : runU n s (p :: L) = some R) (hne : subT (bnd s) p.1 ≠ subT (bnd s) p.2)
    (huv : (u = subT (bnd s) p.1 ∧ v = subT (bnd s) p.2 ∧ u.1.1 = true) ∨ (u = subT (bnd s) p.2 ∧ v = subT (bnd s) p.1 ∧ u.1.1 = true ∧ ¬ v.1.1 = true)) :
    (addS s u.1.2 v = none → R = none) ∧ ∀ s1, addS s u.1.2 v = some s1 → ∃ m, m < n ∧ UI s1 L ∧ runU m s1 L = some R ∧ Ref s s1 := by
  cases n with
  | zero => simp [runU] at hr
  | succ n =>
    have t1 := top_sub h.idem (ui_ok h) p.1
    have t2 := top_sub h.idem (ui_ok h) p.2
    have key : ∃ x y, (x = top s p.1 ∧ y = top s p.2 ∨ x = top s p.2 ∧ y = top s p.1) ∧ x.1.1 = true ∧ x.1.2 = u.1.2 ∧ subT (bnd s) y = v ∧ stepU s p.1 p.2 L = (addS s x.1.2 (subT (bnd s) y)).map fun s' => (s', L) := by
      rcases huv with ⟨hu, hv, h1⟩ | ⟨hu, hv, h1, h2⟩
      · rw [← t1] at hu
        rw [← t2] at hv
        have hx : (top s p.1).1.1 = true := by
          by_cases e : (top s p.1).1.1 = true
          · exact e
          · rw [hu, sub_sym e] at h1; simp at h1
        have hun : (top s p.1).1.2 = u.1.2 := by rw [hu, sub_var hx (top_free h.idem hx)]; rfl
        refine ⟨_, _, .inl ⟨rfl, rfl⟩, hx, hun, hv.symm, ?_⟩
        unfold stepU
        rw [if_neg, if_pos hx]
        rintro ⟨_, hy, hxy⟩
        apply hne
        rw [← t1, ← t2, sub_var hx (top_free h.idem hx), sub_var hy (top_free h.idem hy), hxy]
      · rw [← t2] at hu
        rw [← t1] at hv
        have hy : (top s p.2).1.1 = true := by
          by_cases e : (top s p.2).1.1 = true
          · exact e
          · rw [hu, sub_sym e] at h1; simp at h1
        have hx : ¬ (top s p.1).1.1 = true := fun e => h2 (by rw [hv, sub_var e (top_free h.idem e)]; rfl)
        have hun : (top s p.2).1.2 = u.1.2 := by rw [hu, sub_var hy (top_free h.idem hy)]; rfl
        refine ⟨_, _, .inr ⟨rfl, rfl⟩, hy, hun, hv.symm, ?_⟩
        unfold stepU
        rw [if_neg (fun e => hx e.1), if_neg hx, if_pos hy]
    obtain ⟨x, y, hxy, hxv, hxn, hyv, hst⟩ := key
    rw [hyv, hxn] at hst
    refine ⟨fun e => ?_, fun s1 e => ?_⟩
    · rw [e] at hst
      exact (runU_stop hst).1 hr
    · have ha : addS s x.1.2 (subT (bnd s) y) = some s1 := by rw [hyv, hxn]; exact e
      rw [e] at hst
      obtain ⟨k1, _, k3, _⟩ := step_add h hxy hxv ha
      exact ⟨n, Nat.lt_succ_self n, k1, (runU_step hst).1 hr, k3⟩

end Go.Proofs.YtfckelbdageenabGreatDoor

namespace Go.Proofs.YtfckelbdageenabGreatDoor
open Go.RowKit Go.Deep Go.ChangeShapes Go.WideShapes

/-- A list of terms, as what lies in memory. -/
def foOf : List Tm → Fo
  | [] => .nil
  | t :: ts => .node 0 0 t.1 t.2 (foOf ts)
/-- The terms ts are a row of the call's own; what they hold lies below lo. -/
def Row (lo : Nat) (w : World) (v : Value) (ts : List Tm) : Prop := ∃ xs, w.ownsRow lo 36 3 v ts.length xs ∧ CellsOf (fun q => q < lo) w (foOf ts) xs
def Apart (v u : Value) : Prop := ∀ g, v.ownBlock = some g → u.ownBlock ≠ some g

theorem Row.nil (lo : Nat) (w : World) : Row lo w (.slice none 0 0) [] := ⟨[], World.ownsRow_nil _ _ _ _, rfl⟩
theorem Row.alloc {lo : Nat} {w : World} {v : Value} {ts : List Tm} (h : Row lo w v ts) (hl : lo ≤ w.heap.size) (ob : Obj) : Row lo (w.alloc ob) v ts := by
  obtain ⟨xs, h1, h2⟩ := h
  exact ⟨xs, owns_keep h1 (fun g hg => Below.heap_alloc _ _ _ (owns_at h1 g hg).2), h2.frame (fun _ h => h) (fun q i hq => World.cell?_alloc_lt _ _ _ (by show q < _; omega))⟩
theorem Row.grown {lo : Nat} {w w' : World} {v u : Value} {ts : List Tm} (h : Row lo w v ts) (hl : lo ≤ w.heap.size) (hg : w.grownBy w' u.ownBlock) (ha : Apart v u) (hu : ∀ g, u.ownBlock = some g → lo ≤ g) : Row lo w' v ts := by
  obtain ⟨xs, h1, h2⟩ := h
  exact ⟨xs, owns_keep h1 (fun g hgg => hg.block g (owns_at h1 g hgg).2 (fun e => ha g hgg e.symm)), h2.frame (fun _ h => h) (fun q i hq => World.cell?_of_block (hg.block q (by show q < _; omega) (fun e => by have := hu q e.symm; omega)))⟩
/-- Two rows that are made side by side, wx being the world ahead of them. -/
structure Side (wx w : World) (va : Value) (a : List Tm) (vb : Value) (b : List Tm) : Prop where
  below : Below wx.heap.size wx w
  ra : Row wx.heap.size w va a
  rb : Row wx.heap.size w vb b
  ap : Apart va vb

theorem Side.start (wx : World) : Side wx wx.drew (.slice none 0 0) [] (.slice none 0 0) [] := ⟨(Below.refl _ _).drew, Row.nil _ _, Row.nil _ _, fun g h => by simp [Value.ownBlock] at h⟩
end Go.Proofs.YtfckelbdageenabGreatDoor
