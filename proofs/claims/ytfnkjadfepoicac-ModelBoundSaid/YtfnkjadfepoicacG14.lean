/- Whether bindings are the same: the document's SameSub; is a variable in a term: its in. -/
import Derived.Test.YtfnkjadfepoicacG13
import Derived.Test.YtfnkjadfepoicacG08
import Derived.Test.YtfnkjadfepoicacG09
import Derived.Test.YtfnkjadfepoicacG12
namespace Go.Proofs.Ytfnkjadfepoicac
open Go.RowKit Go.Deep Go.ChangeShapes Go.WideShapes
attribute [local go_sem ↓] Go.wp_at_zero Go.wp_at_succ

set_option maxRecDepth 100000 in
set_option maxHeartbeats 1000000 in
theorem inR_any (n : Int) (x : Bool × Int) (k : Fo) (a : Value) (w : World) (T : List Int) (hT : T = varsT x k []) (hS : SIn w k a) (hv : T.length * 8 ≤ 140737488355328) :
    Calls Try.prog 70 #[.int .i64 n, .agg #[.bool x.1, .int .i64 x.2, a]] w fun e w' => e = .returned (.bool (hasB T n)) ∧ Below w.heap.size w w' := by
  obtain ⟨xv, xn⟩ := x
  have HS := hide hS
  obtain ⟨ad, ac, b, o, rfl, -, -, -, -⟩ := hS
  go_enter Try.func70, Try.ntmps70
  go_wp2_with fail
  refine (varsR_few (xv, xn) k _ [] (.slice none 0 0) _ T hT (HS.out.alloc _) ⟨none, 0, 0, 0, rfl, fun h => by simp at h, Nat.le_refl _, Nat.zero_le _, fun i hi => by simp at hi⟩ hv).mono ?_
  rintro e w1 ⟨v', rfl, hN, hb⟩
  have hB := below_box hb
  obtain ⟨la, lc, lb, lo, rfl, hla, hlc, hlm, hF⟩ := hN
  unfold maxLen at hlm
  have HF := hide hF
  clear hb hF hT hv
  go_wp2_with fail
  go_loop [10] (fun i => ∃ j : Nat, j ≤ T.length ∧ i = .int .i64 j ∧ ∀ q, q < j → T.getD q 0 ≠ n) (fun i => T.length - (intOf i).toNat)
  case atStart => exact ⟨0, Nat.zero_le _, rfl, fun q hq => by omega⟩
  case round =>
    obtain ⟨j, hj, rfl, hno⟩ := hrel
    have Hno := hide hno
    clear hno
    by_cases hlt : j < T.length
    · have hlt' : (j : Int) < (T.length : Int) := by omega
      have hc := HF.out j hlt
      have Hmem : Hid (T.getD j 0 ∈ T) := by
        rw [Hid, List.getD_eq_getElem?_getD, List.getElem?_eq_getElem hlt]; simp
      have ha : la = some ⟨lb, lo, none⟩ := hla (by omega)
      subst ha
      have Hnx : Hid (T.getD j 0 ≠ n → ∀ q, q < j + 1 → T.getD q 0 ≠ n) := fun h q hq => by
        by_cases e : q = j
        · rw [e]; exact h
        · exact Hno.out q (by omega)
      generalize T.getD j 0 = z at *
      by_cases he : z = n
      · have heb : (z == n) = true := by simp [he]
        have Hf : Hid (hasB T n = true) := by
          rw [Hid, hasB, ← he, decide_eq_true Hmem.out]
        clear he hla
        go_wp2_with fail
        go_ret
        exact ⟨by rw [Hf.out]; rfl, hB⟩
      · have heb : (z == n) = false := by simp [he]
        have Hn := hide (Hnx.out he)
        clear he hla
        go_wp2_with fail
        go_round
        case rel => exact ⟨j + 1, by omega, by go_num, Hn.out⟩
        case measure => simp [intOf]; omega
    · have Hf : Hid (hasB T n = false) := by
        have : n ∉ T := fun h => by
          obtain ⟨q, hq, e⟩ := List.mem_iff_getElem.1 h
          exact Hno.out q (by omega) (by rw [List.getD_eq_getElem?_getD, List.getElem?_eq_getElem hq]; exact e)
        rw [Hid, hasB, decide_eq_false this]
      clear hla
      go_wp2_with fail
      go_ret
      exact ⟨by rw [Hf.out]; rfl, hB⟩

end Go.Proofs.Ytfnkjadfepoicac

/- What else must be bound for a pattern to be a term: bind's More and Match. -/
namespace Go.Proofs.Ytfnkjadfepoicac
open Go.RowKit Go.Deep Go.ChangeShapes Go.WideShapes
attribute [local go_sem ↓] Go.wp_at_zero Go.wp_at_succ

/-- Four cells set, one after the other. -/
def set4 (w : World) (b o : Nat) (x y z u : Value) : World := (((w.setCell ⟨b, o, none⟩ x).setCell ⟨b, o + 1, none⟩ y).setCell ⟨b, o + 2, none⟩ z).setCell ⟨b, o + 3, none⟩ u
def lset4 (xs : List Value) (o : Nat) (x y z u : Value) : List Value := (((xs.set o x).set (o + 1) y).set (o + 2) z).set (o + 3) u

theorem set4_heap {w : World} {b o : Nat} {x y z u : Value} {q : Nat} (h : q ≠ b) : (set4 w b o x y z u).heap[q]? = w.heap[q]? := by
  unfold set4
  rw [Below.heap_setCell _ _ _ _ h, Below.heap_setCell _ _ _ _ h, Below.heap_setCell _ _ _ _ h, Below.heap_setCell _ _ _ _ h]
theorem set4_size {w : World} {b o : Nat} {x y z u : Value} : (set4 w b o x y z u).heap.size = w.heap.size := by simp [set4, World.setCell]
theorem set4_below {B : Nat} {w w1 : World} {b o : Nat} {x y z u : Value} (h : Below B w w1) (hb : B ≤ b) : Below B w (set4 w1 b o x y z u) := (((h.setCell hb _).setCell hb _).setCell hb _).setCell hb _
theorem set4_row {w : World} {lo : Nat} {e : TypeId} {size g n cap o : Nat} {xs : List Value} {x y z u : Value} (h : w.ownsRow lo e size (.slice (some ⟨g, 0, none⟩) n cap) n xs) :
    (set4 w g o x y z u).ownsRow lo e size (.slice (some ⟨g, 0, none⟩) n cap) n (lset4 xs o x y z u) := ((((h.stored o x).1).stored (o + 1) y).1.stored (o + 2) z).1.stored (o + 3) u |>.1

theorem lset4_take {x y z u : Value} : ∀ {j : Nat} {xs : List Value}, (j + 1) * 4 ≤ xs.length → (lset4 xs (j * 4) x y z u).take ((j + 1) * 4) = xs.take (j * 4) ++ [x, y, z, u]
  | 0, xs, h => by
    match xs, h with
    | [], h => simp at h
    | [_], h => simp at h
    | [_, _], h => simp at h
    | [_, _, _], h => simp at h
    | a :: b :: c :: d :: ys, _ => simp [lset4]
  | j + 1, xs, h => by
    match xs, h with
    | [], h => simp at h
    | [_], h => simp only [List.length_cons, List.length_nil] at h; omega
    | [_, _], h => simp only [List.length_cons, List.length_nil] at h; omega
    | [_, _, _], h => simp only [List.length_cons, List.length_nil] at h; omega
    | a :: b :: c :: d :: ys, h =>
      have ih := lset4_take (x := x) (y := y) (z := z) (u := u) (j := j) (xs := ys) (by simp only [List.length_cons] at h; omega)
      have e1 : (j + 1) * 4 = j * 4 + 4 := by omega
      have e2 : (j + 1 + 1) * 4 = (j + 1) * 4 + 4 := by omega
      have e3 : lset4 (a :: b :: c :: d :: ys) ((j + 1) * 4) x y z u = a :: b :: c :: d :: lset4 ys (j * 4) x y z u := by
        rw [e1]
        simp [lset4]
      rw [e3, e2]
      simp only [List.take_succ_cons]
      rw [ih, e1]
      simp

/-- So many bindings are copied. -/
def CopyRel (lo g : Nat) (W2 : World) (s : Sb) (j : Nat) (wr : World) : Prop :=
  Below g W2 wr ∧ g < wr.heap.size ∧ ∃ xs, wr.ownsRow lo 47 4 (.slice (some ⟨g, 0, none⟩) s.length s.length) s.length xs ∧ PC (fun q => q < wr.heap.size ∧ q ≠ g) wr (s.take j) (xs.take (j * 4))

theorem copy_step {lo g : Nat} {W2 wr w2 : World} {s : Sb} {j : Nat} {n : Int} {t : Tm} {a : Value} (h : CopyRel lo g W2 s j wr) (hj : s[j]? = some (n, t)) (hb : Below wr.heap.size wr w2) (hO : SB (fun q => wr.heap.size ≤ q ∧ q < w2.heap.size) w2 t.2 a) :
    CopyRel lo g W2 s (j + 1) (set4 w2 g (j * 4) (.int .i64 n) (.bool t.1.1) (.int .i64 t.1.2) a) := by
  obtain ⟨hB, hg, xs, hr, hP⟩ := h
  have hs := hb.size
  have hW := hB.size
  have hjl : j < s.length := by
    rcases Nat.lt_or_ge j s.length with h | h
    · exact h
    · rw [List.getElem?_eq_none h] at hj; cases hj
  refine ⟨set4_below (hB.trans ((hb.mono (Nat.le_of_lt hg)))) (Nat.le_refl _), by rw [set4_size]; omega, _, set4_row (owns_keep hr (fun q hq => hb.block q (owns_at hr q hq).2)), ?_⟩
  rw [lset4_take (by rw [hr.1]; omega), List.take_add_one, hj]
  refine PC.append (PC.one (t := t) ?_) ?_
  · refine hO.frame (fun q hq => ⟨by rw [set4_size]; exact hq.2, by omega⟩) (fun q i hq => World.cell?_of_block (set4_heap (by show q ≠ g; omega)))
  · refine hP.frame (fun q hq => ⟨by rw [set4_size]; omega, hq.2⟩) (fun q i hq => World.cell?_of_block ?_)
    rw [set4_heap hq.2, hb.block q hq.1]

def MorePost (w : World) (s : Sb) (t u : Tm) (e : Ending) (w' : World) : Prop :=
  Below w.heap.size w w' ∧ ∃ (z1 : Option Addr) (m z3 : Nat) (ok : Bool), e = .returned (.tuple #[.slice z1 m z3, .bool ok]) ∧ (ok = false → extT s t u = none ∧ z1 = none ∧ m = 0 ∧ z3 = 0) ∧
    (ok = true → ∃ s', extT s t u = some s' ∧ m = s'.length ∧ SubIn w' s' (.slice z1 m z3))

end Go.Proofs.Ytfnkjadfepoicac

/- What makes two terms the same: bind's outermost, add, addArgs: bindings that turn in their row. -/
namespace Go.Proofs.Ytfnkjadfepoicac
open Go.RowKit Go.Deep Go.ChangeShapes Go.WideShapes
attribute [local go_sem ↓] Go.wp_at_zero Go.wp_at_succ

end Go.Proofs.Ytfnkjadfepoicac

/- One binding more, which is that in all that was bound: bind's add. -/
namespace Go.Proofs.Ytfnkjadfepoicac
open Go.RowKit Go.Deep Go.ChangeShapes Go.WideShapes
attribute [local go_sem ↓] Go.wp_at_zero Go.wp_at_succ

theorem PC.cellsAt {X : Nat → Prop} {w : World} : ∀ {s : Sb} {xs : List Value} {j : Nat} {p : Int × Tm}, PC X w s xs → s[j]? = some p →
    xs[j * 4]? = some (.int .i64 p.1) ∧ xs[j * 4 + 1]? = some (.bool p.2.1.1) ∧ xs[j * 4 + 2]? = some (.int .i64 p.2.1.2) ∧ ∃ a, xs[j * 4 + 3]? = some a ∧ SB X w p.2.2 a
  | [], _, _, _, _, h => by simp at h
  | q :: s, _, 0, p, ⟨a, ys, h1, h2, h3⟩, h => by
    simp only [List.getElem?_cons_zero, Option.some.injEq] at h
    subst h1 h
    simpa using h2
  | q :: s, _, j + 1, p, ⟨a, ys, h1, h2, h3⟩, h => by
    subst h1
    have := PC.cellsAt (j := j) h3 (by simpa using h)
    have e : (j + 1) * 4 = j * 4 + 4 := by omega
    rw [e]
    simpa using this

def lset3 (xs : List Value) (o : Nat) (x y z : Value) : List Value := ((xs.set o x).set (o + 1) y).set (o + 2) z
theorem set3_row {w : World} {lo : Nat} {e : TypeId} {size g n cap o : Nat} {xs : List Value} {x y z : Value} (h : w.ownsRow lo e size (.slice (some ⟨g, 0, none⟩) n cap) n xs) :
    (set3 w g o x y z).ownsRow lo e size (.slice (some ⟨g, 0, none⟩) n cap) n (lset3 xs o x y z) := (((h.stored o x).1).stored (o + 1) y).1.stored (o + 2) z |>.1
theorem set3_heap {w : World} {b o : Nat} {x y z : Value} {q : Nat} (h : q ≠ b) : (set3 w b o x y z).heap[q]? = w.heap[q]? := by
  unfold set3
  rw [Below.heap_setCell _ _ _ _ h, Below.heap_setCell _ _ _ _ h, Below.heap_setCell _ _ _ _ h]
theorem PC.upd {X : Nat → Prop} {w : World} {m : Int} {t : Tm} {a : Value} (ha : SB X w t.2 a) : ∀ {s : Sb} {xs : List Value} {j : Nat} {u : Tm}, PC X w s xs → s[j]? = some (m, u) → PC X w (s.set j (m, t)) (lset3 xs (j * 4 + 1) (.bool t.1.1) (.int .i64 t.1.2) a)
  | [], _, _, _, _, h => by simp at h
  | q :: s, _, 0, u, ⟨b, ys, h1, h2, h3⟩, h => by
    simp only [List.getElem?_cons_zero, Option.some.injEq] at h
    subst h1 h
    exact ⟨a, ys, by simp [lset3], ha, h3⟩
  | q :: s, _, j + 1, u, ⟨b, ys, h1, h2, h3⟩, h => by
    subst h1
    have ih := PC.upd ha (j := j) h3 (by simpa using h)
    refine ⟨b, _, ?_, h2, ih⟩
    have e : (j + 1) * 4 + 1 = j * 4 + 1 + 4 := by omega
    rw [e]
    simp [lset3]

/-- So many pairs are as the new binding has them. -/
def updS (f : Tm → Tm) (s : Sb) (j : Nat) : Sb := (s.take j).map (fun p => (p.1, f p.2)) ++ s.drop j
theorem updS_zero (f : Tm → Tm) (s : Sb) : updS f s 0 = s := by simp [updS]
theorem updS_all (f : Tm → Tm) (s : Sb) : updS f s s.length = s.map (fun p => (p.1, f p.2)) := by simp [updS]
theorem updS_len (f : Tm → Tm) (s : Sb) (j : Nat) : (updS f s j).length = s.length := by simp [updS]; omega
theorem updS_at {f : Tm → Tm} {s : Sb} {j : Nat} {p : Int × Tm} (h : s[j]? = some p) : (updS f s j)[j]? = some p := by
  have hj : j < s.length := by
    rcases Nat.lt_or_ge j s.length with h' | h'
    · exact h'
    · rw [List.getElem?_eq_none h'] at h; cases h
  unfold updS
  rw [List.getElem?_append_right (by simp; omega)]
  simp only [List.length_map, List.length_take]
  rw [Nat.min_eq_left (by omega), Nat.sub_self, List.getElem?_drop]
  exact h
theorem updS_succ {f : Tm → Tm} : ∀ {s : Sb} {j : Nat} {m : Int} {t : Tm}, s[j]? = some (m, t) → updS f s (j + 1) = (updS f s j).set j (m, f t)
  | [], _, _, _, h => by simp at h
  | q :: s, 0, m, t, h => by
    simp only [List.getElem?_cons_zero, Option.some.injEq] at h
    subst h
    simp [updS]
  | q :: s, j + 1, m, t, h => by
    have := updS_succ (f := f) (s := s) (j := j) (m := m) (t := t) (by simpa using h)
    unfold updS at this ⊢
    simp only [List.take_succ_cons, List.map_cons, List.drop_succ_cons, List.cons_append, List.set_cons_succ, this]

theorem upd_step {lo : Nat} {X : Nat → Prop} {w wr w2 : World} {s : Sb} {g cap n : Nat} {xs : List Value} {j : Nat} {m : Int} {u t : Tm} {a : Value} (h : OwnS lo (Ex X w wr (.slice (some ⟨g, 0, none⟩) n cap)) wr s (.slice (some ⟨g, 0, none⟩) n cap) xs) (hn : n = s.length) (hw : w.heap.size ≤ wr.heap.size) (hj : s[j]? = some (m, u))
    (hb : Below wr.heap.size wr w2) (hO : SB (fun q => wr.heap.size ≤ q ∧ q < w2.heap.size) w2 t.2 a) :
    OwnS lo (Ex X w (set3 w2 g (j * 4 + 1) (.bool t.1.1) (.int .i64 t.1.2) a) (.slice (some ⟨g, 0, none⟩) n cap)) (set3 w2 g (j * 4 + 1) (.bool t.1.1) (.int .i64 t.1.2) a) (s.set j (m, t)) (.slice (some ⟨g, 0, none⟩) n cap) (lset3 xs (j * 4 + 1) (.bool t.1.1) (.int .i64 t.1.2) a) ∧
    Fr wr (set3 w2 g (j * 4 + 1) (.bool t.1.1) (.int .i64 t.1.2) a) (some g) none := by
  subst hn
  have hs := hb.size
  have hg : g < wr.heap.size := (owns_at h.row g rfl).2
  have hX : ∀ q, Ex X w wr (.slice (some ⟨g, 0, none⟩) s.length cap) q → q < wr.heap.size ∧ q ≠ g := fun q hq => ⟨(h.off q hq).1, fun e => (h.off q hq).2 (by rw [e]; rfl)⟩
  have hsub : ∀ q, Ex X w wr (.slice (some ⟨g, 0, none⟩) s.length cap) q → Ex X w (set3 w2 g (j * 4 + 1) (.bool t.1.1) (.int .i64 t.1.2) a) (.slice (some ⟨g, 0, none⟩) s.length cap) q := fun q hq => by
    rcases hq with hq | hq
    · exact .inl hq
    · exact .inr ⟨hq.1, by rw [set3_size]; omega, hq.2.2⟩
  refine ⟨⟨?_, ?_, fun q hq => ?_⟩, ?_⟩
  · have := set3_row (o := j * 4 + 1) (x := .bool t.1.1) (y := .int .i64 t.1.2) (z := a) (owns_keep h.row (fun q hq => hb.block q (owns_at h.row q hq).2))
    simpa using this
  · refine PC.upd (u := u) ?_ ?_ hj
    · refine hO.frame (fun q hq => .inr ⟨by omega, by rw [set3_size]; exact hq.2, fun e => ?_⟩) (fun q i hq => World.cell?_of_block (set3_heap (by show q ≠ g; omega)))
      simp [Value.ownBlock] at e
      omega
    · refine h.cells.frame hsub (fun q i hq => World.cell?_of_block ?_)
      have := hX q hq
      rw [set3_heap this.2, hb.block q this.1]
  · rcases hq with hq | hq
    · have := hX q (.inl hq)
      refine ⟨by rw [set3_size]; omega, fun e => ?_⟩
      simp [Value.ownBlock] at e
      exact this.2 e
    · exact hq.2
  · have hb' : Below g wr (set3 w2 g (j * 4 + 1) (.bool t.1.1) (.int .i64 t.1.2) a) := set3_below (hb.mono (Nat.le_of_lt hg)) (Nat.le_refl _)
    refine ⟨hb'.os, hb'.tape, hb'.output, by rw [set3_size]; exact hs, fun q hq e1 _ => ?_⟩
    have hqg : q ≠ g := fun e => e1 (by rw [e])
    rw [set3_heap hqg, hb.block q hq]

/-- One binding more, whose term was there. -/
theorem own_snoc2 {lo : Nat} {X : Nat → Prop} {w w3 : World} {s : Sb} {v : Value} {xs : List Value} {n : Int} {t : Tm} {a : Value} {ob : Obj} {g cap : Nat} (h : OwnS lo X w s v xs) (hO : SB X w t.2 a)
    (ho : w3.ownsRow lo 47 4 (.slice (some ⟨g, 0, none⟩) (s.length + 1) cap) (s.length + 1) (xs ++ [.int .i64 n, .bool t.1.1, .int .i64 t.1.2, a])) (hg : (w.alloc ob).grownBy w3 v.ownBlock) (hat : v.ownBlock = some g ∨ g = w.heap.size + 1) (hlt : g < w3.heap.size) :
    OwnS lo (Ex X w w3 (.slice (some ⟨g, 0, none⟩) (s.length + 1) cap)) w3 (s ++ [(n, t)]) (.slice (some ⟨g, 0, none⟩) (s.length + 1) cap) (xs ++ [.int .i64 n, .bool t.1.1, .int .i64 t.1.2, a]) ∧
    Fr w w3 v.ownBlock none ∧ Mv w v (.slice (some ⟨g, 0, none⟩) (s.length + 1) cap) := by
  have hs3 := hg.size
  simp at hs3
  have far : ∀ q, q < w.heap.size → some q ≠ v.ownBlock → w3.heap[q]? = w.heap[q]? := fun q hq hn => by
    rw [hg.block q (by simp; omega) hn, Below.heap_alloc _ _ _ hq]
  have off : ∀ q, Ex X w w3 (.slice (some ⟨g, 0, none⟩) (s.length + 1) cap) q → q < w3.heap.size ∧ some q ≠ (Value.slice (some ⟨g, 0, none⟩) (s.length + 1) cap).ownBlock := fun q hq => by
    rcases hq with hq | hq
    · have h1 := h.off q hq
      refine ⟨by omega, fun e => ?_⟩
      simp [Value.ownBlock] at e
      subst e
      rcases hat with e | e
      · exact h1.2 e.symm
      · omega
    · exact hq.2
  refine ⟨⟨by simpa using ho, ?_, off⟩, ?_, ?_⟩
  · refine PC.append (PC.one ?_) ?_
    · exact hO.frame (fun q hq => .inl hq) (fun q i hq => World.cell?_of_block (far q (h.off q hq).1 (h.off q hq).2))
    · exact h.cells.frame (fun q hq => .inl hq) (fun q i hq => World.cell?_of_block (far q (h.off q hq).1 (h.off q hq).2))
  · exact ⟨hg.os, hg.tape, hg.output, by omega, fun q hq hn _ => far q hq hn⟩
  · rcases hat with e | e
    · exact .inl e.symm
    · refine .inr fun q hq => ?_
      simp [Value.ownBlock] at hq
      omega

def AddPost (lo : Nat) (X : Nat → Prop) (w : World) (s : Sb) (vs : Value) (n : Int) (t : Tm) (e : Ending) (w' : World) : Prop :=
  Fr w w' vs.ownBlock none ∧ ∃ (z1 : Option Addr) (m z3 : Nat) (ok : Bool), e = .returned (.tuple #[.slice z1 m z3, .bool ok]) ∧ (ok = false → addS s n t = none) ∧
    (ok = true → ∃ s' xs', addS s n t = some s' ∧ m = s'.length ∧ OwnS lo (Ex X w w' (.slice z1 m z3)) w' s' (.slice z1 m z3) xs' ∧ Mv w vs (.slice z1 m z3))

end Go.Proofs.Ytfnkjadfepoicac
