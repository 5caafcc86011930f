/- UniA UniC UniQ Uni Law2 MatchP -/
import Derived.Test.YtaliegkkdhkfcacGreatDoorG08
import Derived.Deep.RegionLaw
import Derived.Deep.LoopGhost
namespace Go.Proofs.YtaliegkkdhkfcacGreatDoor
open Go.RowKit Go.Deep Go.ChangeShapes Go.WideShapes
attribute [local go_sem ↓] Go.wp_at_zero Go.wp_at_succ

theorem PC.cellsAt {X : Nat → Prop} {w : World} : ∀ {s : Sb} {xs : List Value} {j : Nat} {p : Int × Tm}, PC X w s xs → s[j]? = some p →
    xs[j * 4]? = some (.int .i64 p.1) ∧ xs[j * 4 + 1]? = some (.bool p.2.1.1) ∧ xs[j * 4 + 2]? = some (.int .i64 p.2.1.2) ∧ ∃ a, xs[j * 4 + 3]? = some a ∧ SB X w p.2.2 a
  | [], _, _, _, _, h => by simp at h
  | q :: s, _, 0, p, ⟨a, ys, h1, h2, h3⟩, h => by
    simp only [List.getElem?_cons_zero, Option.some.injEq] at h
    subst h1 h
    simpa using h2
  | q :: s, _, j + 1, p, ⟨a, ys, h1, h2, h3⟩, h => by
    subst h1
    have := PC.cellsAt (j := j) h3 (by simpa using h)
    have e : (j + 1) * 4 = j * 4 + 4 := by omega
    rw [e]
    simpa using this

def lset3 (xs : List Value) (o : Nat) (x y z : Value) : List Value := ((xs.set o x).set (o + 1) y).set (o + 2) z
theorem set3_row {w : World} {lo : Nat} {e : TypeId} {size g n cap o : Nat} {xs : List Value} {x y z : Value} (h : w.ownsRow lo e size (.slice (some ⟨g, 0, none⟩) n cap) n xs) :
    (set3 w g o x y z).ownsRow lo e size (.slice (some ⟨g, 0, none⟩) n cap) n (lset3 xs o x y z) := (((h.stored o x).1).stored (o + 1) y).1.stored (o + 2) z |>.1
theorem set3_heap {w : World} {b o : Nat} {x y z : Value} {q : Nat} (h : q ≠ b) : (set3 w b o x y z).heap[q]? = w.heap[q]? := by
  unfold set3
  rw [Below.heap_setCell _ _ _ _ h, Below.heap_setCell _ _ _ _ h, Below.heap_setCell _ _ _ _ h]
theorem PC.upd {X : Nat → Prop} {w : World} {m : Int} {t : Tm} {a : Value} (ha : SB X w t.2 a) : ∀ {s : Sb} {xs : List Value} {j : Nat} {u : Tm}, PC X w s xs → s[j]? = some (m, u) → PC X w (s.set j (m, t)) (lset3 xs (j * 4 + 1) (.bool t.1.1) (.int .i64 t.1.2) a)
  | [], _, _, _, _, h => by simp at h
  | q :: s, _, 0, u, ⟨b, ys, h1, h2, h3⟩, h => by
    simp only [List.getElem?_cons_zero, Option.some.injEq] at h
    subst h1 h
    exact ⟨a, ys, by simp [lset3], ha, h3⟩
  | q :: s, _, j + 1, u, ⟨b, ys, h1, h2, h3⟩, h => by
    subst h1
    have ih := PC.upd ha (j := j) h3 (by simpa using h)
    refine ⟨b, _, ?_, h2, ih⟩
    have e : (j + 1) * 4 + 1 = j * 4 + 1 + 4 := by omega
    rw [e]
    simp [lset3]

/-- So many pairs are as the new binding has them. -/
def updS (f : Tm → Tm) (s : Sb) (j : Nat) : Sb := (s.take j).map (fun p => (p.1, f p.2)) ++ s.drop j
theorem updS_zero (f : Tm → Tm) (s : Sb) : updS f s 0 = s := by simp [updS]
theorem updS_all (f : Tm → Tm) (s : Sb) : updS f s s.length = s.map (fun p => (p.1, f p.2)) := by simp [updS]
theorem updS_len (f : Tm → Tm) (s : Sb) (j : Nat) : (updS f s j).length = s.length := by simp [updS]; omega
theorem updS_at {f : Tm → Tm} {s : Sb} {j : Nat} {p : Int × Tm} (h : s[j]? = some p) : (updS f s j)[j]? = some p := by
  have hj : j < s.length := by
    rcases Nat.lt_or_ge j s.length with h' | h'
    · exact h'
    · rw [List.getElem?_eq_none h'] at h; cases h
  unfold updS
  rw [List.getElem?_append_right (by simp; omega)]
  simp only [List.length_map, List.length_take]
  rw [Nat.min_eq_left (by omega), Nat.sub_self, List.getElem?_drop]
  exact h
theorem updS_succ {f : Tm → Tm} : ∀ {s : Sb} {j : Nat} {m : Int} {t : Tm}, s[j]? = some (m, t) → updS f s (j + 1) = (updS f s j).set j (m, f t)
  | [], _, _, _, h => by simp at h
  | q :: s, 0, m, t, h => by
    simp only [List.getElem?_cons_zero, Option.some.injEq] at h
    subst h
    simp [updS]
  | q :: s, j + 1, m, t, h => by
    have := updS_succ (f := f) (s := s) (j := j) (m := m) (t := t) (by simpa using h)
    unfold updS at this ⊢
    simp only [List.take_succ_cons, List.map_cons, List.drop_succ_cons, List.cons_append, List.set_cons_succ, this]

theorem upd_step {lo : Nat} {X : Nat → Prop} {w wr w2 : World} {s : Sb} {g cap n : Nat} {xs : List Value} {j : Nat} {m : Int} {u t : Tm} {a : Value} (h : OwnS lo (Ex X w wr (.slice (some ⟨g, 0, none⟩) n cap)) wr s (.slice (some ⟨g, 0, none⟩) n cap) xs) (hn : n = s.length) (hw : w.heap.size ≤ wr.heap.size) (hj : s[j]? = some (m, u))
    (hb : Below wr.heap.size wr w2) (hO : SB (fun q => wr.heap.size ≤ q ∧ q < w2.heap.size) w2 t.2 a) :
    OwnS lo (Ex X w (set3 w2 g (j * 4 + 1) (.bool t.1.1) (.int .i64 t.1.2) a) (.slice (some ⟨g, 0, none⟩) n cap)) (set3 w2 g (j * 4 + 1) (.bool t.1.1) (.int .i64 t.1.2) a) (s.set j (m, t)) (.slice (some ⟨g, 0, none⟩) n cap) (lset3 xs (j * 4 + 1) (.bool t.1.1) (.int .i64 t.1.2) a) ∧
    Fr wr (set3 w2 g (j * 4 + 1) (.bool t.1.1) (.int .i64 t.1.2) a) (some g) none := by
  subst hn
  have hs := hb.size
  have hg : g < wr.heap.size := (owns_at h.row g rfl).2
  have hX : ∀ q, Ex X w wr (.slice (some ⟨g, 0, none⟩) s.length cap) q → q < wr.heap.size ∧ q ≠ g := fun q hq => ⟨(h.off q hq).1, fun e => (h.off q hq).2 (by rw [e]; rfl)⟩
  have hsub : ∀ q, Ex X w wr (.slice (some ⟨g, 0, none⟩) s.length cap) q → Ex X w (set3 w2 g (j * 4 + 1) (.bool t.1.1) (.int .i64 t.1.2) a) (.slice (some ⟨g, 0, none⟩) s.length cap) q := fun q hq => by
    rcases hq with hq | hq
    · exact .inl hq
    · exact .inr ⟨hq.1, by rw [set3_size]; omega, hq.2.2⟩
  refine ⟨⟨?_, ?_, fun q hq => ?_⟩, ?_⟩
  · have := set3_row (o := j * 4 + 1) (x := .bool t.1.1) (y := .int .i64 t.1.2) (z := a) (owns_keep h.row (fun q hq => hb.block q (owns_at h.row q hq).2))
    simpa using this
  · refine PC.upd (u := u) ?_ ?_ hj
    · refine hO.frame (fun q hq => .inr ⟨by omega, by rw [set3_size]; exact hq.2, fun e => ?_⟩) (fun q i hq => World.cell?_of_block (set3_heap (by show q ≠ g; omega)))
      simp [Value.ownBlock] at e
      omega
    · refine h.cells.frame hsub (fun q i hq => World.cell?_of_block ?_)
      have := hX q hq
      rw [set3_heap this.2, hb.block q this.1]
  · rcases hq with hq | hq
    · have := hX q (.inl hq)
      refine ⟨by rw [set3_size]; omega, fun e => ?_⟩
      simp [Value.ownBlock] at e
      exact this.2 e
    · exact hq.2
  · have hb' : Below g wr (set3 w2 g (j * 4 + 1) (.bool t.1.1) (.int .i64 t.1.2) a) := set3_below (hb.mono (Nat.le_of_lt hg)) (Nat.le_refl _)
    refine ⟨hb'.os, hb'.tape, hb'.output, by rw [set3_size]; exact hs, fun q hq e1 _ => ?_⟩
    have hqg : q ≠ g := fun e => e1 (by rw [e])
    rw [set3_heap hqg, hb.block q hq]

/-- One binding more, whose term was there. -/
theorem own_snoc2 {lo : Nat} {X : Nat → Prop} {w w3 : World} {s : Sb} {v : Value} {xs : List Value} {n : Int} {t : Tm} {a : Value} {ob : Obj} {g cap : Nat} (h : OwnS lo X w s v xs) (hO : SB X w t.2 a)
    (ho : w3.ownsRow lo 73 4 (.slice (some ⟨g, 0, none⟩) (s.length + 1) cap) (s.length + 1) (xs ++ [.int .i64 n, .bool t.1.1, .int .i64 t.1.2, a])) (hg : (w.alloc ob).grownBy w3 v.ownBlock) (hat : v.ownBlock = some g ∨ g = w.heap.size + 1) (hlt : g < w3.heap.size) :
    OwnS lo (Ex X w w3 (.slice (some ⟨g, 0, none⟩) (s.length + 1) cap)) w3 (s ++ [(n, t)]) (.slice (some ⟨g, 0, none⟩) (s.length + 1) cap) (xs ++ [.int .i64 n, .bool t.1.1, .int .i64 t.1.2, a]) ∧
    Fr w w3 v.ownBlock none ∧ Mv w v (.slice (some ⟨g, 0, none⟩) (s.length + 1) cap) := by
  have hs3 := hg.size
  simp at hs3
  have far : ∀ q, q < w.heap.size → some q ≠ v.ownBlock → w3.heap[q]? = w.heap[q]? := fun q hq hn => by
    rw [hg.block q (by simp; omega) hn, Below.heap_alloc _ _ _ hq]
  have off : ∀ q, Ex X w w3 (.slice (some ⟨g, 0, none⟩) (s.length + 1) cap) q → q < w3.heap.size ∧ some q ≠ (Value.slice (some ⟨g, 0, none⟩) (s.length + 1) cap).ownBlock := fun q hq => by
    rcases hq with hq | hq
    · have h1 := h.off q hq
      refine ⟨by omega, fun e => ?_⟩
      simp [Value.ownBlock] at e
      subst e
      rcases hat with e | e
      · exact h1.2 e.symm
      · omega
    · exact hq.2
  refine ⟨⟨by simpa using ho, ?_, off⟩, ?_, ?_⟩
  · refine PC.append (PC.one ?_) ?_
    · exact hO.frame (fun q hq => .inl hq) (fun q i hq => World.cell?_of_block (far q (h.off q hq).1 (h.off q hq).2))
    · exact h.cells.frame (fun q hq => .inl hq) (fun q i hq => World.cell?_of_block (far q (h.off q hq).1 (h.off q hq).2))
  · exact ⟨hg.os, hg.tape, hg.output, by omega, fun q hq hn _ => far q hq hn⟩
  · rcases hat with e | e
    · exact .inl e.symm
    · refine .inr fun q hq => ?_
      simp [Value.ownBlock] at hq
      omega

def AddPost (lo : Nat) (X : Nat → Prop) (w : World) (s : Sb) (vs : Value) (n : Int) (t : Tm) (e : Ending) (w' : World) : Prop :=
  Fr w w' vs.ownBlock none ∧ ∃ (z1 : Option Addr) (m z3 : Nat) (ok : Bool), e = .returned (.tuple #[.slice z1 m z3, .bool ok]) ∧ (ok = false → addS s n t = none) ∧
    (ok = true → ∃ s' xs', addS s n t = some s' ∧ m = s'.length ∧ OwnS lo (Ex X w w' (.slice z1 m z3)) w' s' (.slice z1 m z3) xs' ∧ Mv w vs (.slice z1 m z3))

set_option maxRecDepth 100000 in
set_option maxHeartbeats 2000000 in
theorem addB_any (lo : Nat) (X : Nat → Prop) (s : Sb) (vs : Value) (xs : List Value) (n : Int) (x : Bool × Int) (k : Fo) (a : Value) (w : World) (hO : OwnS lo X w s vs xs) (hlo : lo ≤ w.heap.size) (hS : SB X w k a) (hs : ∀ p ∈ s, narT p.2 ∧ okT p.2) (hok : okT (x, k)) (hnar : narT (x, k)) (hv : (varsT x k []).length * 8 ≤ 140737488355328) (hlen : (s.length + 1) * 48 ≤ 140737488355328) :
    Calls Tryz.prog 42 #[vs, .int .i64 n, .agg #[.bool x.1, .int .i64 x.2, a]] w (AddPost lo X w s vs n (x, k)) := by
  obtain ⟨xv, xn⟩ := x
  have HO := hide hO
  have HS := hide hS
  have Hs := hide hs
  have Hok := hide hok
  have Hnar := hide hnar
  obtain ⟨z1, z3, rfl⟩ := hO.slice
  obtain ⟨ad, ac, b, o, rfl, -, -, -, -⟩ := hS
  clear hO hs hok hnar
  go_enter Tryz.func42, Tryz.ntmps42
  go_wp2_with fail
  generalize hWb : w.alloc (.cells #[.bool xv, .int .i64 xn, .slice ad (Fo.len k) ac] 55) = Wb
  have hBb : Below w.heap.size w Wb := by rw [← hWb]; exact below_alloc _ _
  have hsb : Wb.heap.size = w.heap.size + 1 := by rw [← hWb]; simp
  have p0 : Wb.cell? ⟨w.heap.size, 0, none⟩ = some (.bool xv) := by rw [← hWb]; exact new_cell rfl
  have p1 : Wb.cell? ⟨w.heap.size, 1, none⟩ = some (.int .i64 xn) := by rw [← hWb]; exact new_cell rfl
  have p2 : Wb.cell? ⟨w.heap.size, 2, none⟩ = some (.slice ad (Fo.len k) ac) := by rw [← hWb]; exact new_cell rfl
  clear hWb
  refine (vars_few (xv, xn) k _ [] (.slice none 0 0) Wb (varsT (xv, xn) k []) rfl (HS.out.toS.below hBb) ⟨none, 0, 0, 0, rfl, fun h => by simp at h, Nat.le_refl _, Nat.zero_le _, fun i hi => by simp at hi⟩ hv).mono ?_
  rintro e w1 ⟨v', rfl, ho1, hb1⟩
  have Ho1 := hide ho1
  obtain ⟨y1, y3, rfl⟩ := slice_of_owns ho1
  have q0 := grow_cell hb1 _ _ p0
  have q1 := grow_cell hb1 _ _ p1
  have q2 := grow_cell hb1 _ _ p2
  have hB1 := below_step hBb hb1
  have hs1 := hb1.size
  clear ho1 hb1 p0 p1 p2 hBb
  go_wp2_with fail
  refine (contains_any (varsT (xv, xn) k []) n _ w1 (own_nin Ho1.out)).mono ?_
  rintro e w2 ⟨rfl, hw2⟩
  rw [hw2]
  clear hw2 w2 Ho1
  cases hh : hasB (varsT (xv, xn) k []) n
  · have Hadd : Hid (addS s n ((xv, xn), k) = some ((s.map fun p => (p.1, subT (bnd [(n, ((xv, xn), k))]) p.2)) ++ [(n, ((xv, xn), k))])) := by
      unfold addS Hid
      rw [if_neg (by simp [hh])]
    clear hh
    go_wp2_with fail
    generalize hWl : w1.alloc (.cells #[.int .i64 n, .bool xv, .int .i64 xn, .slice ad (Fo.len k) ac] 73) = Wl
    have hBl : Below w.heap.size w Wl := by rw [← hWl]; exact hB1.alloc hB1.size _
    have hsl : Wl.heap.size = w1.heap.size + 1 := by rw [← hWl]; simp
    have l0 : Wl.cell? ⟨w1.heap.size, 0, none⟩ = some (.int .i64 n) := by rw [← hWl]; exact new_cell rfl
    have l1 : Wl.cell? ⟨w1.heap.size, 1, none⟩ = some (.bool xv) := by rw [← hWl]; exact new_cell rfl
    have l2 : Wl.cell? ⟨w1.heap.size, 2, none⟩ = some (.int .i64 xn) := by rw [← hWl]; exact new_cell rfl
    have l3 : Wl.cell? ⟨w1.heap.size, 3, none⟩ = some (.slice ad (Fo.len k) ac) := by rw [← hWl]; exact new_cell rfl
    have HL := hide (And.intro l0 (And.intro l1 (And.intro l2 l3)))
    have HBl := hide hBl
    have Hsl := hide hsl
    have Hnv : Hid (∀ q, (Value.slice z1 s.length z3).ownBlock = some q → q < w.heap.size) := fun q hq => (owns_at HO.out.row q hq).2
    have hw1 := hB1.size
    clear hWl hBl hsl l0 l1 l2 l3 q0 q1 q2 hsb
    go_loopw [19] (fun i wr => ∃ (j : Nat) (xsj : List Value), j ≤ s.length ∧ i = .int .i64 j ∧ OwnS lo (Ex X w wr (.slice z1 s.length z3)) wr (updS (subT (bnd [(n, ((xv, xn), k))])) s j) (.slice z1 s.length z3) xsj ∧ Fr Wl wr (Value.slice z1 s.length z3).ownBlock none) (fun i _ => s.length - (intOf i).toNat)
    case atStart =>
      refine ⟨0, xs, Nat.zero_le _, rfl, ?_, Fr.refl _ _ _⟩
      rw [updS_zero]
      refine (HO.out.below HBl.out).wide (fun q hq => .inl hq) (fun q hq => ?_)
      rcases hq with hq | hq
      · have := HO.out.off q hq; exact ⟨Nat.lt_of_lt_of_le this.1 HBl.out.size, this.2⟩
      · exact hq.2
    case round =>
      obtain ⟨j, xsj, hj, rfl, hOj, hFj⟩ := hrel
      have HOj := hide hOj
      have HFj := hide hFj
      have hsz := hFj.size
      have hsl := Hsl.out
      have hkeep : ∀ i, wr.cell? ⟨w1.heap.size, i, none⟩ = Wl.cell? ⟨w1.heap.size, i, none⟩ := fun i => World.cell?_of_block (a := ⟨w1.heap.size, i, none⟩) (hFj.block w1.heap.size (by omega) (fun e => by have := Hnv.out _ e.symm; omega) (by simp))
      obtain ⟨l0, l1, l2, l3⟩ := HL.out
      have m0 := (hkeep 0).trans l0
      have m1 := (hkeep 1).trans l1
      have m2 := (hkeep 2).trans l2
      have m3 := (hkeep 3).trans l3
      have hFw : Fr w wr (Value.slice z1 s.length z3).ownBlock none := (Fr.of_below HBl.out _ _).trans hFj (fun q _ h => h)
      have HFw := hide hFw
      have Hkx : Hid (∀ q, X q → wr.heap[q]? = w.heap[q]?) := fun q hq => hFw.block q (HO.out.off q hq).1 (HO.out.off q hq).2 (by simp)
      have HSr : Hid (SB X wr k (.slice ad (Fo.len k) ac)) := HS.out.kept Hkx.out
      clear l0 l1 l2 l3 hkeep hFw hOj hFj
      by_cases hlt : j < s.length
      · have hlt' : (j : Int) < (s.length : Int) := by omega
        obtain ⟨⟨m, ⟨tv, tn⟩, tk⟩, hy⟩ : ∃ y, s[j]? = some y := ⟨s[j], by simp [hlt]⟩
        have Hy := hide hy
        obtain ⟨g, hg⟩ : ∃ g, z1 = some ⟨g, 0, none⟩ := by
          rcases HOj.out.row.2 with ⟨_, h0⟩ | ⟨g, cap, cur, e, _⟩
          · rw [updS_len] at h0; omega
          · simp only [Value.slice.injEq] at e
            exact ⟨g, e.1⟩
        subst hg
        obtain ⟨d0, d1, d2, ta, d3, hSt⟩ := HOj.out.cells.cellsAt (updS_at hy)
        have hrow := HOj.out.row
        rw [updS_len] at hrow
        have c1 : wr.cell? ⟨g, j * 4 + 1, none⟩ = some (.bool tv) := (hrow.cellAt (j * 4 + 1) (by omega)).trans d1
        have c2 : wr.cell? ⟨g, j * 4 + 2, none⟩ = some (.int .i64 tn) := (hrow.cellAt (j * 4 + 2) (by omega)).trans d2
        have c3 : wr.cell? ⟨g, j * 4 + 3, none⟩ = some ta := (hrow.cellAt (j * 4 + 3) (by omega)).trans d3
        have ff : ∀ i, wr.frozen? ⟨g, i, none⟩ = false := fun i => hrow.frozenAt i
        have HSt := hide hSt.toS
        obtain ⟨ta1, tc, tb, t4, rfl, -, -, -, -⟩ := hSt
        have hgl : g < wr.heap.size := World.block_lt_of_cell? _ _ c1
        have Hn := hide (Hs.out _ (List.mem_of_getElem? hy))
        have hcap : s.length ≤ z3 := by
          rcases hrow.2 with ⟨e, _⟩ | ⟨g', cap, cur, e, _, _, h1, _⟩
          · cases e
          · simp only [Value.slice.injEq] at e
            omega
        have hcap2 : z3 ≤ 2 ^ 63 - 1 := by
          rcases hrow.2 with ⟨e, _⟩ | ⟨g', cap, cur, e, _, _, _, h1, _⟩
          · cases e
          · simp only [Value.slice.injEq] at e
            unfold maxLen at h1
            omega
        have c1a : (wr.alloc (.cells #[.int .i64 n, .bool xv, .int .i64 xn, .slice ad (Fo.len k) ac] 73)).cell? ⟨g, j * 4 + 1, none⟩ = some (.bool tv) := by rw [World.cell?_alloc_lt _ _ _ hgl]; exact c1
        have c2a : (wr.alloc (.cells #[.int .i64 n, .bool xv, .int .i64 xn, .slice ad (Fo.len k) ac] 73)).cell? ⟨g, j * 4 + 2, none⟩ = some (.int .i64 tn) := by rw [World.cell?_alloc_lt _ _ _ hgl]; exact c2
        have c3a : (wr.alloc (.cells #[.int .i64 n, .bool xv, .int .i64 xn, .slice ad (Fo.len k) ac] 73)).cell? ⟨g, j * 4 + 3, none⟩ = some (.slice ta1 (Fo.len tk) tc) := by rw [World.cell?_alloc_lt _ _ _ hgl]; exact c3
        have ffa : ∀ i, (wr.alloc (.cells #[.int .i64 n, .bool xv, .int .i64 xn, .slice ad (Fo.len k) ac] 73)).frozen? ⟨g, i, none⟩ = false := fun i => ((below_alloc _ _).frozen hgl).trans (ff i)
        obtain ⟨⟨⟨uv, un⟩, uk⟩, hu⟩ : ∃ z, z = subT (bnd [(n, ((xv, xn), k))]) ((tv, tn), tk) := ⟨_, rfl⟩
        have Hu := hide hu
        have hcall : Calls Tryz.prog 43 #[.slice (some ⟨wr.heap.size, 0, none⟩) 1 1, .agg #[.bool tv, .int .i64 tn, .slice ta1 (Fo.len tk) tc]] (wr.alloc (.cells #[.int .i64 n, .bool xv, .int .i64 xn, .slice ad (Fo.len k) ac] 73)).drew fun e w' => ∃ (b1 : Option Addr) (b2 b3 : Nat), e = .returned (.agg #[.bool uv, .int .i64 un, .slice b1 b2 b3]) ∧ OwnV w' (wr.heap.size + 1) w'.heap.size uk (.slice b1 b2 b3) ∧ Below (wr.heap.size + 1) (wr.alloc (.cells #[.int .i64 n, .bool xv, .int .i64 xn, .slice ad (Fo.len k) ac] 73)) w' := by
          have hsub : SubIn (wr.alloc (.cells #[.int .i64 n, .bool xv, .int .i64 xn, .slice ad (Fo.len k) ac] 73)).drew [(n, ((xv, xn), k))] (.slice (some ⟨wr.heap.size, 0, none⟩) 1 1) := by
            refine ⟨_, 1, wr.heap.size, 0, rfl, fun _ => rfl, Nat.le_refl _, by unfold maxLen; omega, ?_⟩
            refine ⟨new_cell rfl, new_cell rfl, new_cell rfl, ⟨_, new_cell rfl, (HSr.out.toS.alloc _).drew⟩, trivial⟩
          refine (apply_any [(n, ((xv, xn), k))] _ (tv, tn) tk _ _ hsub (fun p hp => ?_) (HSt.out.alloc _).drew Hn.out.1).mono ?_
          · simp only [List.mem_singleton] at hp
            subst hp
            exact ⟨Hnar.out, Hok.out⟩
          · rintro e w' ⟨a', rfl, hO', hb'⟩
            rw [← Hu.out] at hO' ⊢
            obtain ⟨b1, b2, b3, rfl⟩ := slice_of_sin hO'.toS
            refine ⟨b1, b2, b3, rfl, ?_, ?_⟩
            · have e : (wr.alloc (.cells #[.int .i64 n, .bool xv, .int .i64 xn, .slice ad (Fo.len k) ac] 73)).drew.heap.size = wr.heap.size + 1 := World.size_alloc _ _
              rw [e] at hO'
              exact hO'
            · have e : (wr.alloc (.cells #[.int .i64 n, .bool xv, .int .i64 xn, .slice ad (Fo.len k) ac] 73)).drew.heap.size = wr.heap.size + 1 := World.size_alloc _ _
              rw [e] at hb'
              exact (Below.refl _ _).drew.trans hb'
        have Hcall := hide hcall
        have hgl2 : g < wr.heap.size + 1 := by omega
        clear hcall hy hu d0 d1 d2 d3 hrow
        go_upto_region 7 with fail
        go_region_with (first
          | (go_at_call 43; refine Hcall.out.mono ?_; rintro e w2 ⟨b1, b2, b3, rfl, hO2, hb2⟩; have e1 : w2.cell? ⟨g, j * 4 + 1, none⟩ = some (.bool tv) := (hb2.cell hgl2).trans c1a; have e2 : w2.cell? ⟨g, j * 4 + 2, none⟩ = some (.int .i64 tn) := (hb2.cell hgl2).trans c2a; have e3 : w2.cell? ⟨g, j * 4 + 3, none⟩ = some (.slice ta1 (Fo.len tk) tc) := (hb2.cell hgl2).trans c3a; have ff2 : ∀ i, w2.frozen? ⟨g, i, none⟩ = false := (fun i => (hb2.frozen hgl2).trans (ffa i))))
        all_goals
          have Hst := hide (upd_step (j := j) (m := m) (u := ((tv, tn), tk)) (t := ((uv, un), uk)) (a := .slice b1 b2 b3) HOj.out (updS_len _ _ _).symm HFw.out.size (updS_at Hy.out) (below_box (hb2.mono (by simp))) (hO2.toB (fun q q1 q2 => ⟨by omega, q2⟩)))
          have Hs1 : Hid (updS (subT (bnd [(n, ((xv, xn), k))])) s (j + 1) = (updS (subT (bnd [(n, ((xv, xn), k))])) s j).set j (m, ((uv, un), uk))) := by rw [Hid, updS_succ Hy.out, ← Hu.out]
          have Hfr : Hid (Fr Wl (set3 w2 g (j * 4 + 1) (.bool uv) (.int .i64 un) (.slice b1 b2 b3)) (some g) none) := HFj.out.trans Hst.out.2 (fun q _ h => h)
          clear hO2 hb2
          go_wp2_with fail
          go_roundw
          case rel => exact ⟨j + 1, _, by omega, by go_num, by rw [Hs1.out]; exact Hst.out.1, Hfr.out⟩
          case measure => simp [intOf]; omega
      · have hje : j = s.length := by omega
        subst hje
        obtain ⟨i52, hi52, hz0, hz1, hz2⟩ := info_parts Tryz.info73
        have hn1 : s.length + 1 ≤ maxLen := by unfold maxLen; omega
        have hn2 : (s.length + 1) * 48 ≤ 140737488355328 := hlen
        have Hall := hide (updS_all (subT (bnd [(n, ((xv, xn), k))])) s)
        have HOe : Hid (OwnS lo (Ex X w wr (.slice z1 s.length z3)) wr (s.map fun p => (p.1, subT (bnd [(n, ((xv, xn), k))]) p.2)) (.slice z1 s.length z3) xsj) := by rw [← Hall.out]; exact HOj.out
        have Hown : Hid ((wr.alloc (.cells #[.int .i64 n, .bool xv, .int .i64 xn, .slice ad (Fo.len k) ac] 73)).ownsRow lo 73 4 (.slice z1 s.length z3) s.length xsj) := by
          have := HOe.out.row
          rw [List.length_map] at this
          exact this.alloc _
        have Hnews : Hid (∀ j u, [Value.int .i64 n, .bool xv, .int .i64 xn, .slice ad (Fo.len k) ac][j]? = some u → (wr.alloc (.cells #[.int .i64 n, .bool xv, .int .i64 xn, .slice ad (Fo.len k) ac] 73)).cell? ((⟨wr.heap.size, 0, none⟩ : Addr).add j) = some u) :=
          World.news_of_block (cs := #[.int .i64 n, .bool xv, .int .i64 xn, .slice ad (Fo.len k) ac]) (heap_alloc_new wr _)
        have hlo2 : lo ≤ wr.heap.size := by have := HFw.out.size; omega
        go_wp2_with (at_builtin; refine wpList_append_lies _ rfl (.tmp 35) (.tmp 37) 59 rfl lo 73 i52 (.agg #[.int .i64 0, .bool false, .int .i64 0, .slice none 0 0]) 4 48 Tryz.underlying59 hi52 hz0 hz1 hz2 rfl (by decide) (.slice z1 s.length z3) s.length xsj rfl Hown.out ⟨wr.heap.size, 0, none⟩ 1 1 [.int .i64 n, .bool xv, .int .i64 xn, .slice ad (Fo.len k) ac] rfl rfl Hnews.out (by simp [Value.oneCell']) (by decide) hn1 hn2 (by simp; omega) (wr.heap.size + 1) (by simp) ?_; intro g cap w4 ho4 hg4 hat4 hlt4)
        have Hst := hide (own_snoc2 (n := n) (t := ((xv, xn), k)) (a := .slice ad (Fo.len k) ac) HOe.out (HSr.out.wide (fun q hq => .inl hq)) (by simpa using ho4) hg4 hat4 hlt4)
        have Hfin : Hid (AddPost lo X w s (.slice z1 s.length z3) n ((xv, xn), k) (.returned (.tuple #[.slice (some ⟨g, 0, none⟩) (s.length + 1) cap, .bool true])) w4) := by
          obtain ⟨h1, h2, h3⟩ := own_next (w := w) (wr := wr) (wa := wr) (v := .slice z1 s.length z3) (v1 := .slice z1 s.length z3) HFw.out (.inl rfl) HO.out.off (Below.refl _ _) Hst.out.1 Hst.out.2.1 Hst.out.2.2
          refine ⟨h2, some ⟨g, 0, none⟩, s.length + 1, cap, true, rfl, fun e => by (cases e), fun _ => ⟨_, xsj ++ [.int .i64 n, .bool xv, .int .i64 xn, .slice ad (Fo.len k) ac], Hadd.out, by simp, ?_, ?_⟩⟩
          · simpa using h1
          · simpa using h3
        clear ho4 hg4 hat4 hlt4 Hst Hown Hnews hi52 hz0 hz1 hz2
        go_wp2_with fail
        go_ret2
        exact Hfin.out
  · have Hadd : Hid (addS s n ((xv, xn), k) = none) := by
      unfold addS Hid
      rw [if_pos (by simpa using hh)]
    clear hh
    go_wp2_with fail
    go_ret2
    exact ⟨Fr.of_below hB1 _ _, none, 0, 0, false, rfl, fun _ => Hadd.out, fun e => by cases e⟩

end Go.Proofs.YtaliegkkdhkfcacGreatDoor

namespace Go.Proofs.YtaliegkkdhkfcacGreatDoor
open Go.RowKit Go.Deep Go.ChangeShapes Go.WideShapes
attribute [local go_sem ↓] Go.wp_at_zero Go.wp_at_succ

theorem Tryz.info86 : (Tryz.prog.info? 86).map (fun i => (i.zero, i.size, i.bytes)) = some (some (.agg #[.bool false, .int .i64 0, .slice none 0 0, .bool false, .int .i64 0, .slice none 0 0]), 6, 80) := by kernel_rfl

/-- The cells of couples, six each. -/
def CC (X : Nat → Prop) (w : World) : List (Tm × Tm) → List Value → Prop
  | [], xs => xs = []
  | p :: s, xs => ∃ a b ys, xs = .bool p.1.1.1 :: .int .i64 p.1.1.2 :: a :: .bool p.2.1.1 :: .int .i64 p.2.1.2 :: b :: ys ∧ SB X w p.1.2 a ∧ SB X w p.2.2 b ∧ CC X w s ys

theorem CC.frame {X Y : Nat → Prop} {w w' : World} (hXY : ∀ q, X q → Y q) (hr : ∀ q i, X q → w'.cell? ⟨q, i, none⟩ = w.cell? ⟨q, i, none⟩) : ∀ {s : List (Tm × Tm)} {xs : List Value}, CC X w s xs → CC Y w' s xs
  | [], _, h => h
  | _ :: _, _, ⟨a, b, ys, h1, h2, h3, h4⟩ => ⟨a, b, ys, h1, h2.frame hXY hr, h3.frame hXY hr, CC.frame hXY hr h4⟩
theorem CC.append {X : Nat → Prop} {w : World} {s' : List (Tm × Tm)} {ys : List Value} (h' : CC X w s' ys) : ∀ {s : List (Tm × Tm)} {xs : List Value}, CC X w s xs → CC X w (s ++ s') (xs ++ ys)
  | [], _, h => by rw [CC] at h; subst h; exact h'
  | _ :: _, _, ⟨a, b, zs, h1, h2, h3, h4⟩ => by subst h1; exact ⟨a, b, zs ++ ys, rfl, h2, h3, CC.append h' h4⟩
theorem CC.one {X : Nat → Prop} {w : World} {p : Tm × Tm} {a b : Value} (h : SB X w p.1.2 a) (h' : SB X w p.2.2 b) : CC X w [p] [.bool p.1.1.1, .int .i64 p.1.1.2, a, .bool p.2.1.1, .int .i64 p.2.1.2, b] := ⟨a, b, [], rfl, h, h', rfl⟩
theorem CC.len {X : Nat → Prop} {w : World} : ∀ {s : List (Tm × Tm)} {xs : List Value}, CC X w s xs → xs.length = s.length * 6
  | [], _, h => by rw [CC] at h; subst h; rfl
  | _ :: _, _, ⟨a, b, ys, h1, _, _, h3⟩ => by subst h1; simp only [List.length_cons, h3.len]; omega
theorem CC.split {X : Nat → Prop} {w : World} {M : List (Tm × Tm)} : ∀ {s : List (Tm × Tm)} {xs : List Value}, CC X w (s ++ M) xs → ∃ ys zs, xs = ys ++ zs ∧ CC X w s ys ∧ CC X w M zs
  | [], xs, h => ⟨[], xs, rfl, rfl, h⟩
  | p :: s, xs, ⟨a, b, ys, h1, h2, h3, h4⟩ => by
    obtain ⟨us, zs, e, i1, i2⟩ := CC.split (s := s) h4
    subst h1 e
    exact ⟨_, zs, rfl, ⟨a, b, us, rfl, h2, h3, i1⟩, i2⟩

structure OwnC (lo : Nat) (X : Nat → Prop) (w : World) (s : List (Tm × Tm)) (v : Value) (xs : List Value) : Prop where
  row : w.ownsRow lo 86 6 v s.length xs
  cells : CC X w s xs
  off : ∀ q, X q → q < w.heap.size ∧ some q ≠ v.ownBlock

theorem OwnC.slice {lo : Nat} {X : Nat → Prop} {w : World} {s : List (Tm × Tm)} {v : Value} {xs : List Value} (h : OwnC lo X w s v xs) : ∃ z1 z3, v = .slice z1 s.length z3 := slice_of_owns h.row
theorem OwnC.below {lo : Nat} {X : Nat → Prop} {w w' : World} {s : List (Tm × Tm)} {v : Value} {xs : List Value} (h : OwnC lo X w s v xs) (hb : Below w.heap.size w w') : OwnC lo X w' s v xs :=
  ⟨owns_keep h.row (fun g hg => hb.block g (owns_at h.row g hg).2), h.cells.frame (fun _ hq => hq) (fun q _ hq => World.cell?_of_block (hb.block q (h.off q hq).1)), fun q hq => ⟨Nat.lt_of_lt_of_le (h.off q hq).1 hb.size, (h.off q hq).2⟩⟩
theorem OwnC.wide {lo : Nat} {X Y : Nat → Prop} {w : World} {s : List (Tm × Tm)} {v : Value} {xs : List Value} (h : OwnC lo X w s v xs) (hXY : ∀ q, X q → Y q) (hY : ∀ q, Y q → q < w.heap.size ∧ some q ≠ v.ownBlock) : OwnC lo Y w s v xs :=
  ⟨h.row, h.cells.frame hXY (fun _ _ _ => rfl), hY⟩

theorem couple_snoc {lo : Nat} {X : Nat → Prop} {w w3 : World} {s : List (Tm × Tm)} {v : Value} {xs : List Value} {p : Tm × Tm} {a b : Value} {ob : Obj} {g cap : Nat} (h : OwnC lo X w s v xs) (hO : SB X w p.1.2 a) (hO' : SB X w p.2.2 b)
    (ho : w3.ownsRow lo 86 6 (.slice (some ⟨g, 0, none⟩) (s.length + 1) cap) (s.length + 1) (xs ++ [.bool p.1.1.1, .int .i64 p.1.1.2, a, .bool p.2.1.1, .int .i64 p.2.1.2, b])) (hg : (w.alloc ob).grownBy w3 v.ownBlock) (hat : v.ownBlock = some g ∨ g = w.heap.size + 1) (hlt : g < w3.heap.size) :
    OwnC lo (Ex X w w3 (.slice (some ⟨g, 0, none⟩) (s.length + 1) cap)) w3 (s ++ [p]) (.slice (some ⟨g, 0, none⟩) (s.length + 1) cap) (xs ++ [.bool p.1.1.1, .int .i64 p.1.1.2, a, .bool p.2.1.1, .int .i64 p.2.1.2, b]) ∧
    Fr w w3 v.ownBlock none ∧ Mv w v (.slice (some ⟨g, 0, none⟩) (s.length + 1) cap) := by
  have hs3 := hg.size
  simp at hs3
  have far : ∀ q, q < w.heap.size → some q ≠ v.ownBlock → w3.heap[q]? = w.heap[q]? := fun q hq hn => by
    rw [hg.block q (by simp; omega) hn, Below.heap_alloc _ _ _ hq]
  have off : ∀ q, Ex X w w3 (.slice (some ⟨g, 0, none⟩) (s.length + 1) cap) q → q < w3.heap.size ∧ some q ≠ (Value.slice (some ⟨g, 0, none⟩) (s.length + 1) cap).ownBlock := fun q hq => by
    rcases hq with hq | hq
    · have h1 := h.off q hq
      refine ⟨by omega, fun e => ?_⟩
      simp [Value.ownBlock] at e
      subst e
      rcases hat with e | e
      · exact h1.2 e.symm
      · omega
    · exact hq.2
  refine ⟨⟨by simpa using ho, ?_, off⟩, ?_, ?_⟩
  · refine CC.append (CC.one ?_ ?_) ?_
    · exact hO.frame (fun q hq => .inl hq) (fun q i hq => World.cell?_of_block (far q (h.off q hq).1 (h.off q hq).2))
    · exact hO'.frame (fun q hq => .inl hq) (fun q i hq => World.cell?_of_block (far q (h.off q hq).1 (h.off q hq).2))
    · exact h.cells.frame (fun q hq => .inl hq) (fun q i hq => World.cell?_of_block (far q (h.off q hq).1 (h.off q hq).2))
  · exact ⟨hg.os, hg.tape, hg.output, by omega, fun q hq hn _ => far q hq hn⟩
  · rcases hat with e | e
    · exact .inl e.symm
    · refine .inr fun q hq => ?_
      simp [Value.ownBlock] at hq
      omega

theorem couple_next {lo : Nat} {X : Nat → Prop} {w wr wa w2 : World} {s2 : List (Tm × Tm)} {v v1 v2 : Value} {xs2 : List Value} (hf : Fr w wr v.ownBlock none) (hm : Mv w v v1) (hX : ∀ q, X q → q < w.heap.size ∧ some q ≠ v.ownBlock)
    (hb : Below wr.heap.size wr wa) (h2 : OwnC lo (Ex (Ex X w wr v1) wa w2 v2) w2 s2 v2 xs2) (hf2 : Fr wa w2 v1.ownBlock none) (hm2 : Mv wa v1 v2) :
    OwnC lo (Ex X w w2 v2) w2 s2 v2 xs2 ∧ Fr w w2 v.ownBlock none ∧ Mv w v v2 := by
  have s1' := hf.size
  have s2' := hb.size
  have s3' := hf2.size
  have mv : ∀ g, v2.ownBlock = some g → v.ownBlock = some g ∨ w.heap.size ≤ g := fun g hg => by
    rcases hm2 with e | e
    · rw [e] at hg
      rcases hm with e' | e'
      · rw [e'] at hg; exact .inl hg
      · exact .inr (e' g hg)
    · have := e g hg; exact .inr (by omega)
  refine ⟨h2.wide (fun q hq => ?_) (fun q hq => ?_), ?_, ?_⟩
  · rcases hq with hq | hq
    · rcases hq with hq | hq
      · exact .inl hq
      · refine .inr ⟨hq.1, by omega, fun e => ?_⟩
        rcases hm2 with e' | e'
        · rw [e'] at e; exact hq.2.2 e
        · have := e' q e.symm; omega
    · exact .inr ⟨by omega, hq.2⟩
  · rcases hq with hq | hq
    · have := hX q hq
      refine ⟨by omega, fun e => ?_⟩
      rcases mv q e.symm with h | h
      · exact this.2 h.symm
      · omega
    · exact hq.2
  · refine hf.trans (g1 := v.ownBlock) (g2 := none) (h1 := v1.ownBlock) (h2 := none) ⟨hf2.os.trans hb.os, hf2.tape.trans hb.tape, hf2.output.trans hb.output, by omega, fun q hq e1 e2 => ?_⟩ (fun q hq h => ?_)
    · rw [hf2.block q (by omega) e1 e2, hb.block q hq]
    · rcases h with h | h
      · rcases hm with e | e
        · rw [e] at h; exact .inl h
        · have := e q h.symm; omega
      · cases h
  · rcases hm2 with e | e
    · rcases hm with e' | e'
      · exact .inl (e.trans e')
      · exact .inr fun g hg => e' g (by rw [← e]; exact hg)
    · exact .inr fun g hg => by have := e g hg; omega
theorem couple_back {lo : Nat} {X : Nat → Prop} {w W2 wr : World} {s : List (Tm × Tm)} {v v' : Value} {xs : List Value} (hb : Below w.heap.size w W2) (h : OwnC lo (Ex X W2 wr v') wr s v' xs) (hf : Fr W2 wr v.ownBlock none) (hm : Mv W2 v v') :
    OwnC lo (Ex X w wr v') wr s v' xs ∧ Fr w wr v.ownBlock none ∧ Mv w v v' := by
  have h1 := hb.size
  have h2 := hf.size
  refine ⟨h.wide (fun q hq => ?_) (fun q hq => ?_), ⟨hf.os.trans hb.os, hf.tape.trans hb.tape, hf.output.trans hb.output, by omega, fun q hq e1 e2 => ?_⟩, ?_⟩
  · rcases hq with hq | hq
    · exact .inl hq
    · exact .inr ⟨by omega, hq.2⟩
  · rcases hq with hq | hq
    · exact h.off q (.inl hq)
    · exact hq.2
  · rw [hf.block q (by omega) e1 e2, hb.block q hq]
  · rcases hm with e | e
    · exact .inl e
    · exact .inr fun g hg => by have := e g hg; omega
theorem couple_begin {lo : Nat} {X : Nat → Prop} {w W2 : World} {s : List (Tm × Tm)} {v : Value} {xs : List Value} (hb : Below w.heap.size w W2) (h : OwnC lo X w s v xs) : OwnC lo (Ex X W2 W2 v) W2 s v xs ∧ Fr W2 W2 v.ownBlock none ∧ Mv W2 v v := by
  have h' := h.below hb
  refine ⟨h'.wide (fun q hq => .inl hq) (fun q hq => ?_), Fr.refl _ _ _, .inl rfl⟩
  rcases hq with hq | hq
  · exact h'.off q hq
  · omega

/-- The last so many couples, the last one first. -/
theorem zip_drop {k l : List Tm} {i : Nat} {t u : Tm} (hk : k[i]? = some t) (hl : l[i]? = some u) : ((k.zip l).drop i).reverse = ((k.zip l).drop (i + 1)).reverse ++ [(t, u)] := by
  have hz : (k.zip l)[i]? = some (t, u) := by rw [List.getElem?_zip_eq_some]; exact ⟨hk, hl⟩
  have hi : i < (k.zip l).length := by
    rcases Nat.lt_or_ge i (k.zip l).length with h | h
    · exact h
    · rw [List.getElem?_eq_none h] at hz; cases hz
  rw [List.drop_eq_getElem_cons hi, List.reverse_cons]
  rw [List.getElem?_eq_getElem hi] at hz
  rw [Option.some.inj hz]

def ArgsPost (lo : Nat) (X : Nat → Prop) (w : World) (L : List (Tm × Tm)) (vt : Value) (k l : Fo) (e : Ending) (w' : World) : Prop :=
  ∃ (M : List (Tm × Tm)) (z1 : Option Addr) (z3 : Nat) (xt' : List Value), M = L ++ (k.list.zip l.list).reverse ∧ e = .returned (.slice z1 M.length z3) ∧ OwnC lo (Ex X w w' (.slice z1 M.length z3)) w' M (.slice z1 M.length z3) xt' ∧ Fr w w' vt.ownBlock none ∧ Mv w vt (.slice z1 M.length z3)

set_option maxRecDepth 100000 in
set_option maxHeartbeats 2000000 in
theorem addArgs_any (lo : Nat) (X : Nat → Prop) (L : List (Tm × Tm)) (vt : Value) (xt : List Value) (x : Bool × Int) (k : Fo) (a : Value) (y : Bool × Int) (l : Fo) (c : Value) (w : World) (hO : OwnC lo X w L vt xt) (hlo : lo ≤ w.heap.size) (hS : SB X w k a) (hU : SB X w l c) (hll : Fo.len k = Fo.len l) (hlen : (L.length + Fo.len k) * 80 ≤ 140737488355328) :
    Calls Tryz.prog 44 #[vt, .agg #[.bool x.1, .int .i64 x.2, a], .agg #[.bool y.1, .int .i64 y.2, c]] w (ArgsPost lo X w L vt k l) := by
  obtain ⟨xv, xn⟩ := x
  obtain ⟨yv, yn⟩ := y
  have HO := hide hO
  obtain ⟨z1, z3, rfl⟩ := hO.slice
  obtain ⟨ad, ac, b, o, rfl, had, hlc, hcm, hF⟩ := hS
  obtain ⟨ud, uc, ub, uo, rfl, hud, hulc, hucm, hG⟩ := hU
  have HF := hide hF
  have HG := hide hG
  have Hl := hide (Fo.len_list k)
  have Hl2 := hide (Fo.len_list l)
  have Hll := hide hll
  have hll1 : Fo.len l ≤ Fo.len k := by omega
  have hll2 : Fo.len k ≤ Fo.len l := by omega
  unfold maxLen at hcm hucm
  clear hO hF hG hll
  go_enter Tryz.func44, Tryz.ntmps44
  go_wp2_with fail
  generalize hW2 : (w.alloc (.cells #[.bool xv, .int .i64 xn, .slice ad (Fo.len k) ac] 55)).alloc (.cells #[.bool yv, .int .i64 yn, .slice ud (Fo.len l) uc] 55) = W2
  have hs2 : W2.heap.size = w.heap.size + 1 + 1 := by rw [← hW2]; simp
  have hB2 : Below w.heap.size w W2 := by rw [← hW2]; exact (below_alloc _ _).alloc (by simp) _
  have p2 : W2.cell? ⟨w.heap.size, 2, none⟩ = some (.slice ad (Fo.len k) ac) := by rw [← hW2, World.cell?_alloc_lt _ _ _ (by simp)]; exact new_cell rfl
  have r2 : W2.cell? ⟨w.heap.size + 1, 2, none⟩ = some (.slice ud (Fo.len l) uc) := by rw [← hW2]; exact new_cell (World.size_alloc _ _)
  have Hp2 := hide p2
  have Hr2 := hide r2
  have HB2 := hide hB2
  have Hs2 := hide hs2
  have Hnv : Hid (∀ q, (Value.slice z1 L.length z3).ownBlock = some q → q < w.heap.size) := fun q hq => (owns_at HO.out.row q hq).2
  have Hbeg := hide (couple_begin hB2 HO.out)
  clear hW2 p2 r2 hB2 hs2
  go_loopw [0, 7] (fun vj i wr => ∃ (j : Nat) (M : List (Tm × Tm)) (y1 : Option Addr) (y3 : Nat) (xsj : List Value), j ≤ Fo.len k ∧ M = L ++ ((k.list.zip l.list).drop j).reverse ∧ i = .int .i64 ((j : Int) - 1) ∧ vj = .slice y1 M.length y3 ∧ OwnC lo (Ex X W2 wr (.slice y1 M.length y3)) wr M (.slice y1 M.length y3) xsj ∧ Fr W2 wr (Value.slice z1 L.length z3).ownBlock none ∧ Mv W2 (.slice z1 L.length z3) (.slice y1 M.length y3)) (fun _ i _ => (intOf i + 1).toNat)
  case atStart =>
    have e : (k.list.zip l.list).drop (Fo.len k) = [] := List.drop_of_length_le (by rw [List.length_zip, Fo.len_list]; omega)
    exact ⟨Fo.len k, L, z1, z3, xt, Nat.le_refl _, by rw [e]; simp, rfl, rfl, Hbeg.out.1, Hbeg.out.2.1, Hbeg.out.2.2⟩
  case round =>
    obtain ⟨j, M, y1, y3, xsj, hj, hM, rfl, rfl, hOj, hFj, hMj⟩ := hrel
    have HM := hide hM
    have HOj := hide hOj
    have HFj := hide hFj
    have HMj := hide hMj
    have hs2 := Hs2.out
    have hs3 := hFj.size
    clear Hbeg hOj hFj hMj hM
    cases j with
    | zero =>
      have Hend : Hid (ArgsPost lo X w L (.slice z1 L.length z3) k l (.returned (.slice y1 M.length y3)) wr) := by
        obtain ⟨h1, h2, h3⟩ := couple_back HB2.out HOj.out HFj.out HMj.out
        exact ⟨M, y1, y3, xsj, by rw [HM.out]; simp, rfl, h1, h2, h3⟩
      go_wp2_with fail
      go_ret
      exact Hend.out
    | succ j =>
      have hj0 : (0 : Int) ≤ ((j + 1 : Nat) : Int) - 1 := by omega
      have hje : ((j + 1 : Nat) : Int) - 1 = (j : Int) := by omega
      rw [hje]
      have hjl : (j : Int) < (Fo.len k : Int) := by omega
      have hjl2 : (j : Int) < (Fo.len l : Int) := by omega
      have hj00 : (0 : Int) ≤ (j : Int) := by omega
      obtain ⟨had', hXb⟩ := had (by omega)
      obtain ⟨hud', hXu⟩ := hud (by omega)
      subst had' hud'
      have Hkeep : Hid (∀ q, X q → wr.heap[q]? = w.heap[q]?) := fun q hq => by
        have h1 := HO.out.off q hq
        rw [HFj.out.block q (by omega) h1.2 (by simp), HB2.out.block q h1.1]
      obtain ⟨⟨⟨pv, pn⟩, pk⟩, hp⟩ : ∃ y, k.list[j]? = some y := ⟨k.list[j]'(by rw [Hl.out]; omega), by simp⟩
      obtain ⟨⟨⟨tv, tn⟩, tk⟩, ht⟩ : ∃ y, l.list[j]? = some y := ⟨l.list[j]'(by rw [Hl2.out]; omega), by simp⟩
      obtain ⟨c0, c1, pa, c2, hSp⟩ := HF.out.at hp
      obtain ⟨d0, d1, ta, d2, hSt⟩ := HG.out.at ht
      have c0' := (World.cell?_of_block (a := ⟨b, o + j * 3, none⟩) (Hkeep.out b hXb)).trans c0
      have c1' := (World.cell?_of_block (a := ⟨b, o + j * 3 + 1, none⟩) (Hkeep.out b hXb)).trans c1
      have c2' := (World.cell?_of_block (a := ⟨b, o + j * 3 + 2, none⟩) (Hkeep.out b hXb)).trans c2
      have d0' := (World.cell?_of_block (a := ⟨ub, uo + j * 3, none⟩) (Hkeep.out ub hXu)).trans d0
      have d1' := (World.cell?_of_block (a := ⟨ub, uo + j * 3 + 1, none⟩) (Hkeep.out ub hXu)).trans d1
      have d2' := (World.cell?_of_block (a := ⟨ub, uo + j * 3 + 2, none⟩) (Hkeep.out ub hXu)).trans d2
      have HSp := hide ((hSp.kept Hkeep.out).wide (Y := Ex X W2 wr (.slice y1 M.length y3)) (fun q hq => .inl hq))
      have HSt := hide ((hSt.kept Hkeep.out).wide (Y := Ex X W2 wr (.slice y1 M.length y3)) (fun q hq => .inl hq))
      obtain ⟨pa1, pc, pb, po, rfl, -, -, -, -⟩ := hSp
      obtain ⟨ta1, tc, tb, t4, rfl, -, -, -, -⟩ := hSt
      have p2 : wr.cell? ⟨w.heap.size, 2, none⟩ = some (.slice (some ⟨b, o, none⟩) (Fo.len k) ac) := by
        rw [World.cell?_of_block (a := ⟨w.heap.size, 2, none⟩) (HFj.out.block w.heap.size (by omega) (fun e => by have := Hnv.out _ e.symm; omega) (by simp))]
        exact Hp2.out
      have r2 : wr.cell? ⟨w.heap.size + 1, 2, none⟩ = some (.slice (some ⟨ub, uo, none⟩) (Fo.len l) uc) := by
        rw [World.cell?_of_block (a := ⟨w.heap.size + 1, 2, none⟩) (HFj.out.block (w.heap.size + 1) (by omega) (fun e => by have := Hnv.out _ e.symm; omega) (by simp))]
        exact Hr2.out
      have Hzip : Hid (L ++ ((k.list.zip l.list).drop j).reverse = M ++ [(((pv, pn), pk), ((tv, tn), tk))]) := by
        rw [Hid, zip_drop hp ht, HM.out, List.append_assoc]
      have hMl : M.length ≤ L.length + Fo.len k := by
        rw [HM.out, List.length_append, List.length_reverse, List.length_drop, List.length_zip, Fo.len_list]
        omega
      have hMl2 : M.length + 1 ≤ L.length + Fo.len k := by
        have := congrArg List.length Hzip.out
        rw [List.length_append, List.length_append, List.length_reverse, List.length_drop, List.length_zip, Fo.len_list] at this
        simp only [List.length_singleton] at this
        omega
      obtain ⟨i80, hi80, hz0, hz1, hz2⟩ := info_parts Tryz.info86
      have hn1 : M.length + 1 ≤ maxLen := by unfold maxLen; omega
      have hn2 : (M.length + 1) * 80 ≤ 140737488355328 := by omega
      have hlo2 : lo ≤ wr.heap.size := by omega
      have Hown : Hid ((wr.alloc (.cells #[.bool pv, .int .i64 pn, .slice pa1 (Fo.len pk) pc, .bool tv, .int .i64 tn, .slice ta1 (Fo.len tk) tc] 86)).drew.ownsRow lo 86 6 (.slice y1 M.length y3) M.length xsj) := (HOj.out.row.alloc _).drew
      have Hnews : Hid (∀ j u, [Value.bool pv, .int .i64 pn, .slice pa1 (Fo.len pk) pc, .bool tv, .int .i64 tn, .slice ta1 (Fo.len tk) tc][j]? = some u → (wr.alloc (.cells #[.bool pv, .int .i64 pn, .slice pa1 (Fo.len pk) pc, .bool tv, .int .i64 tn, .slice ta1 (Fo.len tk) tc] 86)).drew.cell? ((⟨wr.heap.size, 0, none⟩ : Addr).add j) = some u) :=
        World.news_of_block (cs := #[.bool pv, .int .i64 pn, .slice pa1 (Fo.len pk) pc, .bool tv, .int .i64 tn, .slice ta1 (Fo.len tk) tc]) (heap_alloc_new wr _)
      clear c0 c1 c2 d0 d1 d2 hp ht had hud hXb hXu hje
      go_upto_region 4 with fail
      go_region_law (first
        | (refine step_append_lies _ (by rfl) _ _ _ (by rfl) lo 86 i80 (.agg #[.bool false, .int .i64 0, .slice none 0 0, .bool false, .int .i64 0, .slice none 0 0]) 6 80 Tryz.underlying87 hi80 hz0 hz1 hz2 rfl (by decide) (.slice y1 M.length y3) M.length xsj (by rfl) Hown.out ⟨wr.heap.size, 0, none⟩ 1 1 [.bool pv, .int .i64 pn, .slice pa1 (Fo.len pk) pc, .bool tv, .int .i64 tn, .slice ta1 (Fo.len tk) tc] (by rfl) (by rfl) Hnews.out (by simp [Value.oneCell']) (by decide) hn1 hn2 (by simp; omega) (wr.heap.size + 1) (by simp) ?_; intro g cap w4 ho4 hg4 hat4 hlt4))
      all_goals
        have Hst := hide (couple_snoc (p := (((pv, pn), pk), ((tv, tn), tk))) (a := .slice pa1 (Fo.len pk) pc) (b := .slice ta1 (Fo.len tk) tc) (ob := .cells #[.bool pv, .int .i64 pn, .slice pa1 (Fo.len pk) pc, .bool tv, .int .i64 tn, .slice ta1 (Fo.len tk) tc] 86) HOj.out HSp.out HSt.out ho4 ⟨hg4.os, hg4.tape, hg4.output, hg4.size, hg4.block⟩ hat4 hlt4)
        have Hn := hide (couple_next (v1 := .slice y1 M.length y3) HFj.out HMj.out (fun q hq => by have := HO.out.off q hq; exact ⟨by omega, this.2⟩) (Below.refl _ _) Hst.out.1 Hst.out.2.1 Hst.out.2.2)
        clear ho4 hg4 hat4 hlt4 Hst Hown Hnews hi80 hz0 hz1 hz2
        go_wp2_with fail
        go_roundw
        case rel => exact ⟨j, M ++ [(((pv, pn), pk), ((tv, tn), tk))], some ⟨g, 0, none⟩, cap, _, by omega, Hzip.out.symm, rfl, by simp, by simpa using Hn.out.1, Hn.out.2.1, by simpa using Hn.out.2.2⟩
        case measure => simp [intOf]

end Go.Proofs.YtaliegkkdhkfcacGreatDoor

namespace Go.Proofs.YtaliegkkdhkfcacGreatDoor
open Go.RowKit Go.Deep Go.ChangeShapes Go.WideShapes

/-- All blocks but the two rows. -/
def XX (w : World) (v1 v2 : Value) : Nat → Prop := fun q => q < w.heap.size ∧ some q ≠ v1.ownBlock ∧ some q ≠ v2.ownBlock

theorem rows_differ {w : World} {lo lo' n m : Nat} {v1 v2 : Value} {xs ys : List Value} (h1 : w.ownsRow lo 73 4 v1 n xs) (h2 : w.ownsRow lo' 86 6 v2 m ys) : ∀ g, v1.ownBlock = some g → v2.ownBlock ≠ some g := by
  intro g e1 e2
  rcases h1.2 with ⟨rfl, _⟩ | ⟨g1, c1, cur1, rfl, _, hh1, _⟩
  · simp [Value.ownBlock] at e1
  · rcases h2.2 with ⟨rfl, _⟩ | ⟨g2, c2, cur2, rfl, _, hh2, _⟩
    · simp [Value.ownBlock] at e2
    · simp [Value.ownBlock] at e1 e2
      subst e1 e2
      rw [hh1] at hh2
      simp at hh2

/-- Both rows, as Unify has them. -/
structure Two (lo : Nat) (w : World) (s : Sb) (T : List (Tm × Tm)) (v1 v2 : Value) (xs ys : List Value) : Prop where
  sub : OwnS lo (XX w v1 v2) w s v1 xs
  cou : OwnC lo (XX w v1 v2) w T v2 ys

theorem Two.below {lo : Nat} {w w' : World} {s : Sb} {T : List (Tm × Tm)} {v1 v2 : Value} {xs ys : List Value} (h : Two lo w s T v1 v2 xs ys) (hb : Below w.heap.size w w') : Two lo w' s T v1 v2 xs ys := by
  have hs := hb.size
  refine ⟨(h.sub.below hb).wide (fun q hq => ⟨by have := hq.1; omega, hq.2⟩) (fun q hq => ⟨hq.1, hq.2.1⟩), (h.cou.below hb).wide (fun q hq => ⟨by have := hq.1; omega, hq.2⟩) (fun q hq => ⟨hq.1, hq.2.2⟩)⟩
theorem Two.xx {lo : Nat} {w w' : World} {s : Sb} {T : List (Tm × Tm)} {v1 v2 : Value} {xs ys : List Value} (_ : Two lo w s T v1 v2 xs ys) (hb : Below w.heap.size w w') {k : Fo} {a : Value} (hk : SB (XX w v1 v2) w k a) : SB (XX w' v1 v2) w' k a :=
  (hk.grow (fun _ hq => hq.1) hb).wide (fun _ hq => ⟨Nat.lt_of_lt_of_le hq.1 hb.size, hq.2⟩)
/-- What is new behind a call is in no row. -/
theorem Two.new {lo : Nat} {w w' : World} {s : Sb} {T : List (Tm × Tm)} {v1 v2 : Value} {xs ys : List Value} (h : Two lo w s T v1 v2 xs ys) {k : Fo} {a : Value} (hk : SB (fun q => w.heap.size ≤ q ∧ q < w'.heap.size) w' k a) : SB (XX w' v1 v2) w' k a :=
  hk.wide (fun q hq => ⟨hq.2, fun e => by have := (owns_at h.sub.row q e.symm).2; omega, fun e => by have := (owns_at h.cou.row q e.symm).2; omega⟩)

theorem two_add {lo : Nat} {wa w2 : World} {s s' : Sb} {T : List (Tm × Tm)} {v1 v1' v2 : Value} {xs xs' ys : List Value} (h : Two lo wa s T v1 v2 xs ys) (h1 : OwnS lo (Ex (XX wa v1 v2) wa w2 v1') w2 s' v1' xs') (hf : Fr wa w2 v1.ownBlock none) : Two lo w2 s' T v1' v2 xs' ys := by
  have hs := hf.size
  have hd := rows_differ h.sub.row h.cou.row
  have hrow : w2.ownsRow lo 86 6 v2 T.length ys := owns_keep h.cou.row (fun g hg => hf.block g (owns_at h.cou.row g hg).2 (fun e => hd g e.symm hg) (by simp))
  refine ⟨h1.wide (fun q hq => ?_) (fun q hq => ⟨hq.1, hq.2.1⟩), ⟨hrow, ?_, fun q hq => ⟨hq.1, hq.2.2⟩⟩⟩
  · have h2 := h1.off q hq
    refine ⟨h2.1, h2.2, fun e => ?_⟩
    rcases hq with hq | hq
    · exact hq.2.2 e
    · have := (owns_at h.cou.row q e.symm).2; omega
  · refine h.cou.cells.frame (fun q hq => ⟨by have := hq.1; omega, ?_, hq.2.2⟩) (fun q i hq => World.cell?_of_block (hf.block q hq.1 hq.2.1 (by simp)))
    exact fun e => (h1.off q (.inl hq)).2 e
theorem two_args {lo : Nat} {wa w2 : World} {s : Sb} {T T' : List (Tm × Tm)} {v1 v2 v2' : Value} {xs ys ys' : List Value} (h : Two lo wa s T v1 v2 xs ys) (h1 : OwnC lo (Ex (XX wa v1 v2) wa w2 v2') w2 T' v2' ys') (hf : Fr wa w2 v2.ownBlock none) : Two lo w2 s T' v1 v2' xs ys' := by
  have hs := hf.size
  have hd := rows_differ h.sub.row h.cou.row
  have hrow : w2.ownsRow lo 73 4 v1 s.length xs := owns_keep h.sub.row (fun g hg => hf.block g (owns_at h.sub.row g hg).2 (fun e => hd g hg e.symm) (by simp))
  refine ⟨⟨hrow, ?_, fun q hq => ⟨hq.1, hq.2.1⟩⟩, h1.wide (fun q hq => ?_) (fun q hq => ⟨hq.1, hq.2.2⟩)⟩
  · refine h.sub.cells.frame (fun q hq => ⟨by have := hq.1; omega, hq.2.1, ?_⟩) (fun q i hq => World.cell?_of_block (hf.block q hq.1 hq.2.2 (by simp)))
    exact fun e => (h1.off q (.inl hq)).2 e
  · have h2 := h1.off q hq
    refine ⟨h2.1, fun e => ?_, h2.2⟩
    rcases hq with hq | hq
    · exact hq.2.1 e
    · have := (owns_at h.sub.row q e.symm).2; omega

/-- The last couple is taken away. -/
theorem two_pop {lo : Nat} {w : World} {s : Sb} {T : List (Tm × Tm)} {p : Tm × Tm} {v1 : Value} {g cap : Nat} {xs ys : List Value} (h : Two lo w s (T ++ [p]) v1 (.slice (some ⟨g, 0, none⟩) (T.length + 1) cap) xs ys) :
    ∃ ys' a b, Two lo w s T v1 (.slice (some ⟨g, 0, none⟩) T.length cap) xs ys' ∧ SB (XX w v1 (.slice (some ⟨g, 0, none⟩) T.length cap)) w p.1.2 a ∧ SB (XX w v1 (.slice (some ⟨g, 0, none⟩) T.length cap)) w p.2.2 b ∧
      w.cell? ⟨g, T.length * 6, none⟩ = some (.bool p.1.1.1) ∧ w.cell? ⟨g, T.length * 6 + 1, none⟩ = some (.int .i64 p.1.1.2) ∧ w.cell? ⟨g, T.length * 6 + 2, none⟩ = some a ∧ w.cell? ⟨g, T.length * 6 + 3, none⟩ = some (.bool p.2.1.1) ∧ w.cell? ⟨g, T.length * 6 + 4, none⟩ = some (.int .i64 p.2.1.2) ∧ w.cell? ⟨g, T.length * 6 + 5, none⟩ = some b := by
  have hrow := h.cou.row
  rw [List.length_append, List.length_singleton] at hrow
  obtain ⟨ys', zs, rfl, h1, a, b, us, rfl, h2, h3, h4⟩ := CC.split h.cou.cells
  rw [CC] at h4
  subst h4
  have hl := h1.len
  have hc : ∀ i v, i < 6 → [Value.bool p.1.1.1, .int .i64 p.1.1.2, a, .bool p.2.1.1, .int .i64 p.2.1.2, b][i]? = some v → w.cell? ⟨g, T.length * 6 + i, none⟩ = some v := fun i v hi hv => by
    rw [hrow.cellAt (T.length * 6 + i) (by omega), List.getElem?_append_right (by omega), ← hv]
    congr 1
    omega
  refine ⟨ys', a, b, ⟨⟨h.sub.row, h.sub.cells, h.sub.off⟩, ⟨ownsRow_pop hl hrow, h1, h.cou.off⟩⟩, h2, h3, hc 0 _ (by omega) rfl, hc 1 _ (by omega) rfl, hc 2 _ (by omega) rfl, hc 3 _ (by omega) rfl, hc 4 _ (by omega) rfl, hc 5 _ (by omega) rfl⟩

/-- Where a pair's term lies. -/
theorem ownS_at {lo : Nat} {X : Nat → Prop} {w : World} {s : Sb} {v : Value} {xs : List Value} (h : OwnS lo X w s v xs) : ∀ (i : Nat) (p : Int × Tm) (c b o : Nat), v = .slice (some ⟨b, o, none⟩) s.length c → s[i]? = some p → ∃ u, w.cell? ⟨b, o + i * 4 + 3, none⟩ = some u ∧ SB X w p.2.2 u := by
  intro i p c b o e hi
  subst e
  have hrow := h.row
  have hil : i < s.length := by
    rcases Nat.lt_or_ge i s.length with h' | h'
    · exact h'
    · rw [List.getElem?_eq_none h'] at hi; cases hi
  obtain ⟨_, _, _, a, d3, hS⟩ := h.cells.cellsAt hi
  rcases hrow.2 with ⟨e, _⟩ | ⟨g, cap, cur, e, _⟩
  · cases e
  · simp only [Value.slice.injEq, Option.some.injEq, Addr.mk.injEq, true_and, and_true] at e
    obtain ⟨⟨rfl, rfl⟩, rfl⟩ := e
    refine ⟨a, ?_, hS⟩
    rw [Nat.zero_add, hrow.cellAt (i * 4 + 3) (by omega)]
    exact d3

theorem pop_run {n c g : Nat} (hc : n + 1 ≤ c) (w : World) : (Instr.slice 87 (.slice (some ⟨g, 0, none⟩) (n + 1) c) none (some (.int .i64 (n : Int))) none).run Tryz.prog w = .ok (.slice (some ⟨g, 0, none⟩) n c) w := by
  rw [run_slice_h (ht := by kernel_rfl) (h0 := by omega) (h2 := by omega)]
  have e : (sizeOf (Tryz.prog.elem 87)).run Tryz.prog w = .ok 6 w := by
    rw [show Tryz.prog.elem 87 = 86 by kernel_rfl]
    simp [go_sem]
  simp only [Result.andThen, sliced, e]
  simp [Addr.add]

theorem nodup_len : ∀ {l m : List Int}, l.Nodup → (∀ x ∈ l, x ∈ m) → l.length ≤ m.length
  | [], _, _, _ => Nat.zero_le _
  | x :: l, m, hn, hm => by
    have hx : x ∈ m := hm x (by simp)
    rw [List.nodup_cons] at hn
    have ih := nodup_len (l := l) (m := m.erase x) hn.2 (fun y hy => (List.mem_erase_of_ne (fun (e : y = x) => hn.1 (e ▸ hy))).2 (hm y (by simp [hy])))
    rw [List.length_erase_of_mem hx] at ih
    have := List.length_pos_of_mem hx
    simp only [List.length_cons]
    omega
theorem gd_vars {t : Tm} (h : Gd t) : (varsT t.1 t.2 []).length ≤ 10 := by
  have hn : (varsT t.1 t.2 []).Nodup := by
    unfold varsT
    split
    · simp [hasB]
    · exact varsF_nodup (by simp)
  have := nodup_len (m := [0, 1, 2, 3, 4, 5, 6, 7, 8, 9]) hn (fun x hx => by
    have := h.few x (occ_varsT.1 hx)
    have e : x = 0 ∨ x = 1 ∨ x = 2 ∨ x = 3 ∨ x = 4 ∨ x = 5 ∨ x = 6 ∨ x = 7 ∨ x = 8 ∨ x = 9 := by omega
    rcases e with rfl | rfl | rfl | rfl | rfl | rfl | rfl | rfl | rfl | rfl <;> simp)
  exact this

end Go.Proofs.YtaliegkkdhkfcacGreatDoor

namespace Go.Proofs.YtaliegkkdhkfcacGreatDoor
open Go.RowKit Go.Deep Go.ChangeShapes Go.WideShapes
attribute [local go_sem ↓] Go.wp_at_zero Go.wp_at_succ

def UniPost (w : World) (R : Option Sb) (e : Ending) (w' : World) : Prop :=
  Below w.heap.size w w' ∧ ∃ (z1 : Option Addr) (m z3 : Nat) (ok : Bool), e = .returned (.tuple #[.slice z1 m z3, .bool ok]) ∧ (ok = false → R = none ∧ z1 = none ∧ m = 0 ∧ z3 = 0) ∧ (ok = true → ∃ s', R = some s' ∧ m = s'.length ∧ SubIn w' s' (.slice z1 m z3))

theorem uni_start {w W2 : World} {x y : Bool × Int} {k l : Fo} {a c : Value} (hB : Below w.heap.size w W2) (hS : SIn w k a) (hU : SIn w l c) (hs : w.heap.size + 1 + 1 = W2.heap.size) :
    Two w.heap.size (W2.alloc (.cells #[.bool x.1, .int .i64 x.2, a, .bool y.1, .int .i64 y.2, c] 86)) [] [((x, k), (y, l))] (.slice none 0 0) (.slice (some ⟨w.heap.size + 1 + 1, 0, none⟩) 1 1) [] [.bool x.1, .int .i64 x.2, a, .bool y.1, .int .i64 y.2, c] := by
  have hb3 : Below w.heap.size w (W2.alloc (.cells #[.bool x.1, .int .i64 x.2, a, .bool y.1, .int .i64 y.2, c] 86)) := hB.alloc hB.size _
  have hsz := hB.size
  have hw : ∀ q, q < w.heap.size → XX (W2.alloc (.cells #[.bool x.1, .int .i64 x.2, a, .bool y.1, .int .i64 y.2, c] 86)) (.slice none 0 0) (.slice (some ⟨w.heap.size + 1 + 1, 0, none⟩) 1 1) q := fun q hq => by
    refine ⟨by simp; omega, by simp [Value.ownBlock], ?_⟩
    intro e
    simp [Value.ownBlock] at e
    omega
  refine ⟨⟨World.ownsRow_nil _ _ _ _, rfl, fun q hq => ⟨hq.1, hq.2.1⟩⟩, ⟨?_, ?_, fun q hq => ⟨hq.1, hq.2.2⟩⟩⟩
  · have := World.ownsRow_lit (base := w.heap.size) (e := 86) (size := 6) W2 #[.bool x.1, .int .i64 x.2, a, .bool y.1, .int .i64 y.2, c] 1 hsz (by decide) rfl
    rw [← hs] at this
    exact this
  · exact CC.one (p := ((x, k), (y, l))) ((hS.toB.grow (fun _ h => h) hb3).wide hw) ((hU.toB.grow (fun _ h => h) hb3).wide hw)

theorem box1 {W w1 : World} {x y z : Value} (h : Below (W.alloc (.cells #[x, y, z] 55)).heap.size (W.alloc (.cells #[x, y, z] 55)) w1) : w1.cell? ⟨W.heap.size, 0, none⟩ = some x ∧ w1.cell? ⟨W.heap.size, 1, none⟩ = some y ∧ w1.cell? ⟨W.heap.size, 2, none⟩ = some z ∧ (∀ i, w1.frozen? ⟨W.heap.size, i, none⟩ = false) ∧ W.heap.size < w1.heap.size := by
  obtain ⟨a, b, c, d, _, e⟩ := box_full h
  exact ⟨a, b, c, d, e⟩
theorem box1d {W w1 : World} {x y z : Value} (h : Below (W.alloc (.cells #[x, y, z] 55)).drew.heap.size (W.alloc (.cells #[x, y, z] 55)).drew w1) : w1.cell? ⟨W.heap.size, 0, none⟩ = some x ∧ w1.cell? ⟨W.heap.size, 1, none⟩ = some y ∧ w1.cell? ⟨W.heap.size, 2, none⟩ = some z ∧ (∀ i, w1.frozen? ⟨W.heap.size, i, none⟩ = false) ∧ W.heap.size < w1.heap.size :=
  box1 ((Below.refl _ _).drew.trans h)
theorem box2 {W w1 : World} {x y z x' y' z' : Value} (h : Below ((W.alloc (.cells #[x, y, z] 55)).alloc (.cells #[x', y', z'] 55)).heap.size ((W.alloc (.cells #[x, y, z] 55)).alloc (.cells #[x', y', z'] 55)) w1) :
    (w1.cell? ⟨W.heap.size, 0, none⟩ = some x ∧ w1.cell? ⟨W.heap.size, 1, none⟩ = some y ∧ w1.cell? ⟨W.heap.size, 2, none⟩ = some z ∧ (∀ i, w1.frozen? ⟨W.heap.size, i, none⟩ = false)) ∧
    (w1.cell? ⟨W.heap.size + 1, 0, none⟩ = some x' ∧ w1.cell? ⟨W.heap.size + 1, 1, none⟩ = some y' ∧ w1.cell? ⟨W.heap.size + 1, 2, none⟩ = some z' ∧ (∀ i, w1.frozen? ⟨W.heap.size + 1, i, none⟩ = false)) ∧ W.heap.size + 1 < w1.heap.size := by
  obtain ⟨a, b, c, d, e1, e2⟩ := box_full h
  obtain ⟨a', b', c', d', _, _⟩ := box_full e1
  rw [World.size_alloc] at a b c d e2
  exact ⟨⟨a', b', c', d'⟩, ⟨a, b, c, d⟩, e2⟩
theorem box2d {W w1 : World} {x y z x' y' z' : Value} (h : Below ((W.alloc (.cells #[x, y, z] 55)).alloc (.cells #[x', y', z'] 55)).drew.heap.size ((W.alloc (.cells #[x, y, z] 55)).alloc (.cells #[x', y', z'] 55)).drew w1) :
    (w1.cell? ⟨W.heap.size, 0, none⟩ = some x ∧ w1.cell? ⟨W.heap.size, 1, none⟩ = some y ∧ w1.cell? ⟨W.heap.size, 2, none⟩ = some z ∧ (∀ i, w1.frozen? ⟨W.heap.size, i, none⟩ = false)) ∧
    (w1.cell? ⟨W.heap.size + 1, 0, none⟩ = some x' ∧ w1.cell? ⟨W.heap.size + 1, 1, none⟩ = some y' ∧ w1.cell? ⟨W.heap.size + 1, 2, none⟩ = some z' ∧ (∀ i, w1.frozen? ⟨W.heap.size + 1, i, none⟩ = false)) ∧ W.heap.size + 1 < w1.heap.size :=
  box2 ((Below.refl _ _).drew.trans h)

theorem thus {p q : Prop} (h : p) (k : p → q) : q := k h

/-- A box's three cells. -/
def C3 (w : World) (b : Nat) (x y z : Value) : Prop := w.cell? ⟨b, 0, none⟩ = some x ∧ w.cell? ⟨b, 1, none⟩ = some y ∧ w.cell? ⟨b, 2, none⟩ = some z
theorem fin0 {wn W : World} {x y z x' y' z' : Value} (h : Below wn.heap.size wn W) : C3 ((W.alloc (.cells #[x, y, z] 55)).alloc (.cells #[x', y', z'] 55)) W.heap.size x y z ∧ C3 ((W.alloc (.cells #[x, y, z] 55)).alloc (.cells #[x', y', z'] 55)) (W.heap.size + 1) x' y' z' ∧ Below wn.heap.size wn ((W.alloc (.cells #[x, y, z] 55)).alloc (.cells #[x', y', z'] 55)) := by
  have hs := h.size
  refine ⟨⟨?_, ?_, ?_⟩, ⟨new_cell (World.size_alloc _ _), new_cell (World.size_alloc _ _), new_cell (World.size_alloc _ _)⟩, (h.alloc hs _).alloc (by simp; omega) _⟩
  · rw [World.cell?_alloc_lt _ _ _ (by simp)]; exact new_cell rfl
  · rw [World.cell?_alloc_lt _ _ _ (by simp)]; exact new_cell rfl
  · rw [World.cell?_alloc_lt _ _ _ (by simp)]; exact new_cell rfl
theorem fin1 {wn W : World} {b : Nat} {x y z x' y' z' u0 u1 u2 : Value} (h : Below wn.heap.size wn W) (hb : wn.heap.size ≤ b) (h0 : W.cell? ⟨b, 0, none⟩ = some u0) (h1 : W.cell? ⟨b, 1, none⟩ = some u1) (h2 : W.cell? ⟨b, 2, none⟩ = some u2) :
    C3 ((((W.setCell ⟨b, 0, none⟩ x).setCell ⟨b, 1, none⟩ y).setCell ⟨b, 2, none⟩ z).alloc (.cells #[x', y', z'] 55)) b x y z ∧ C3 ((((W.setCell ⟨b, 0, none⟩ x).setCell ⟨b, 1, none⟩ y).setCell ⟨b, 2, none⟩ z).alloc (.cells #[x', y', z'] 55)) W.heap.size x' y' z' ∧ Below wn.heap.size wn ((((W.setCell ⟨b, 0, none⟩ x).setCell ⟨b, 1, none⟩ y).setCell ⟨b, 2, none⟩ z).alloc (.cells #[x', y', z'] 55)) := by
  have hs := h.size
  have hbl : b < W.heap.size := World.block_lt_of_cell? _ _ h0
  have hsz : (set3 W b 0 x y z).heap.size = W.heap.size := set3_size
  obtain ⟨g0, g1, g2⟩ := set3_cells (x := x) (y := y) (z := z) (o := 0) h0 h1 h2
  have e : (((W.setCell ⟨b, 0, none⟩ x).setCell ⟨b, 1, none⟩ y).setCell ⟨b, 2, none⟩ z) = set3 W b 0 x y z := rfl
  rw [e]
  refine ⟨⟨?_, ?_, ?_⟩, ⟨new_cell hsz, new_cell hsz, new_cell hsz⟩, (set3_below (o := 0) h hb).alloc (by rw [hsz]; exact hs) _⟩
  · rw [World.cell?_alloc_lt _ _ _ (by rw [hsz]; exact hbl)]; exact g0
  · rw [World.cell?_alloc_lt _ _ _ (by rw [hsz]; exact hbl)]; exact g1
  · rw [World.cell?_alloc_lt _ _ _ (by rw [hsz]; exact hbl)]; exact g2
theorem fin2 {wn W : World} {b d : Nat} {x y z x' y' z' u0 u1 u2 t0 t1 t2 : Value} (h : Below wn.heap.size wn W) (hb : wn.heap.size ≤ b) (hd : wn.heap.size ≤ d) (hn : b ≠ d) (h0 : W.cell? ⟨b, 0, none⟩ = some u0) (h1 : W.cell? ⟨b, 1, none⟩ = some u1) (h2 : W.cell? ⟨b, 2, none⟩ = some u2) (k0 : W.cell? ⟨d, 0, none⟩ = some t0) (k1 : W.cell? ⟨d, 1, none⟩ = some t1) (k2 : W.cell? ⟨d, 2, none⟩ = some t2) :
    C3 ((((((W.setCell ⟨b, 0, none⟩ x).setCell ⟨b, 1, none⟩ y).setCell ⟨b, 2, none⟩ z).setCell ⟨d, 0, none⟩ x').setCell ⟨d, 1, none⟩ y').setCell ⟨d, 2, none⟩ z') b x y z ∧ C3 ((((((W.setCell ⟨b, 0, none⟩ x).setCell ⟨b, 1, none⟩ y).setCell ⟨b, 2, none⟩ z).setCell ⟨d, 0, none⟩ x').setCell ⟨d, 1, none⟩ y').setCell ⟨d, 2, none⟩ z') d x' y' z' ∧ Below wn.heap.size wn ((((((W.setCell ⟨b, 0, none⟩ x).setCell ⟨b, 1, none⟩ y).setCell ⟨b, 2, none⟩ z).setCell ⟨d, 0, none⟩ x').setCell ⟨d, 1, none⟩ y').setCell ⟨d, 2, none⟩ z') := by
  obtain ⟨g0, g1, g2⟩ := set3_cells (x := x) (y := y) (z := z) (o := 0) h0 h1 h2
  have m0 : (set3 W b 0 x y z).cell? ⟨d, 0, none⟩ = some t0 := (set3_other (.inl (Ne.symm hn))).trans k0
  have m1 : (set3 W b 0 x y z).cell? ⟨d, 1, none⟩ = some t1 := (set3_other (.inl (Ne.symm hn))).trans k1
  have m2 : (set3 W b 0 x y z).cell? ⟨d, 2, none⟩ = some t2 := (set3_other (.inl (Ne.symm hn))).trans k2
  obtain ⟨l0, l1, l2⟩ := set3_cells (x := x') (y := y') (z := z') (o := 0) m0 m1 m2
  exact ⟨⟨(set3_other (o := 0) (.inl hn)).trans g0, (set3_other (o := 0) (.inl hn)).trans g1, (set3_other (o := 0) (.inl hn)).trans g2⟩, ⟨l0, l1, l2⟩, set3_below (o := 0) (set3_below (o := 0) h hb) hd⟩
theorem swap3 {p q r : Prop} (h : p ∧ q ∧ r) : q ∧ p ∧ r := ⟨h.2.1, h.1, h.2.2⟩

/-- What outermost answers, whenever it is called. -/
theorem top_call {lo : Nat} {wn : World} {s : Sb} {T : List (Tm × Tm)} {s1 : Option Addr} {s3 : Nat} {v2 : Value} {xs ys : List Value} {p z : Bool × Int} {k zk : Fo} {a1 : Option Addr} {a3 : Nat} (hT : Two lo wn s T (.slice s1 s.length s3) v2 xs ys) (hk : SB (XX wn (.slice s1 s.length s3) v2) wn k (.slice a1 (Fo.len k) a3)) (hz : (z, zk) = top s (p, k)) (w' : World) (hb : Below wn.heap.size wn w') :
    Calls Tryz.prog 41 #[.slice s1 s.length s3, .agg #[.bool p.1, .int .i64 p.2, .slice a1 (Fo.len k) a3]] w' fun e w'' => ∃ (x1 : Option Addr) (x3 : Nat), e = .returned (.agg #[.bool z.1, .int .i64 z.2, .slice x1 (Fo.len zk) x3]) ∧ SB (XX wn (.slice s1 s.length s3) v2) wn zk (.slice x1 (Fo.len zk) x3) ∧ Below w'.heap.size w' w'' := by
  have hO := hT.sub.below hb
  refine (outermost_any (XX wn (.slice s1 s.length s3) v2) s _ p k _ w' (fun q hq => Nat.lt_of_lt_of_le hq.1 hb.size) hO.sub (fun i q v b o e hi => ownS_at hO i q v b o e hi) (hk.grow (fun _ hq => hq.1) hb)).mono ?_
  rintro e w'' ⟨x1, x2, x3, rfl, hS, hb2⟩
  rw [← hz] at hS ⊢
  have hS' := hS
  obtain ⟨_, _, _, _, e, _⟩ := hS'
  simp only [Value.slice.injEq] at e
  obtain ⟨rfl, rfl, rfl⟩ := e
  exact ⟨_, _, rfl, hS.shrink (fun _ hq => hq.1) (below_step hb hb2), hb2⟩

theorem stepU_same {s : Sb} {a b x y : Tm} {L : List (Tm × Tm)} (hx : x = top s a) (hy : y = top s b) (h1 : x.1.1 = true) (h2 : y.1.1 = true) (h3 : x.1.2 = y.1.2) : stepU s a b L = some (s, L) := by
  subst hx hy
  unfold stepU
  rw [if_pos ⟨h1, h2, h3⟩]
theorem stepU_x {s : Sb} {a b x y : Tm} {L : List (Tm × Tm)} (hx : x = top s a) (hy : y = top s b) (h1 : x.1.1 = true) (h2 : ¬ (y.1.1 = true ∧ x.1.2 = y.1.2)) : stepU s a b L = (addS s x.1.2 (subT (bnd s) y)).map fun s' => (s', L) := by
  subst hx hy
  unfold stepU
  rw [if_neg (fun h => h2 h.2), if_pos h1]
theorem stepU_y {s : Sb} {a b x y : Tm} {L : List (Tm × Tm)} (hx : x = top s a) (hy : y = top s b) (h1 : x.1.1 = false) (h2 : y.1.1 = true) : stepU s a b L = (addS s y.1.2 (subT (bnd s) x)).map fun s' => (s', L) := by
  subst hx hy
  unfold stepU
  rw [if_neg (fun h => by rw [h1] at h; exact absurd h.1 (by decide)), if_neg (by rw [h1]; decide), if_pos h2]
theorem stepU_args {s : Sb} {a b x y : Tm} {L : List (Tm × Tm)} (hx : x = top s a) (hy : y = top s b) (h1 : x.1.1 = false) (h2 : y.1.1 = false) (h3 : x.1.2 = y.1.2) (h4 : Fo.len x.2 = Fo.len y.2) : stepU s a b L = some (s, x.2.list.zip y.2.list ++ L) := by
  subst hx hy
  unfold stepU
  rw [if_neg (fun h => by rw [h1] at h; exact absurd h.1 (by decide)), if_neg (by rw [h1]; decide), if_neg (by rw [h2]; decide), if_pos ⟨h3, h4⟩]
theorem stepU_bad {s : Sb} {a b x y : Tm} {L : List (Tm × Tm)} (hx : x = top s a) (hy : y = top s b) (h1 : x.1.1 = false) (h2 : y.1.1 = false) (h3 : ¬ (x.1.2 = y.1.2 ∧ Fo.len x.2 = Fo.len y.2)) : stepU s a b L = none := by
  subst hx hy
  unfold stepU
  rw [if_neg (fun h => by rw [h1] at h; exact absurd h.1 (by decide)), if_neg (by rw [h1]; decide), if_neg (by rw [h2]; decide), if_neg h3]
/-- One step of the run. -/
theorem run_on {m : Nat} {s s' : Sb} {p : Tm × Tm} {L L' : List (Tm × Tm)} {R : Option Sb} (hI : UI s (p :: L)) (hR : runU (m + 1) s (p :: L) = some R) (h : stepU s p.1 p.2 L = some (s', L')) : UI s' L' ∧ runU m s' L' = some R := by
  refine ⟨(step_keeps hI h).1, ?_⟩
  simpa [runU, h] using hR
theorem run_no {m : Nat} {s : Sb} {p : Tm × Tm} {L : List (Tm × Tm)} {R : Option Sb} (hR : runU (m + 1) s (p :: L) = some R) (h : stepU s p.1 p.2 L = none) : R = none := by
  simpa [runU, h] using hR.symm
theorem uni_no {w w' : World} {R : Option Sb} (hb : Below w.heap.size w w') (h : R = none) : UniPost w R (.returned (.tuple #[.slice none 0 0, .bool false])) w' := ⟨hb, none, 0, 0, false, rfl, fun _ => ⟨h, rfl, rfl, rfl⟩, fun e => by cases e⟩

/-- Apply and then add, as Unify calls them. -/
theorem uni_apply {lo : Nat} {wx w' : World} {s : Sb} {T : List (Tm × Tm)} {s1 : Option Addr} {s3 : Nat} {v2 : Value} {xs ys : List Value} {y t : Bool × Int} {yk tk : Fo} {y1 : Option Addr} {y3 : Nat} (hT : Two lo wx s T (.slice s1 s.length s3) v2 xs ys) (hs : ∀ p ∈ s, Gd p.2) (hk : SB (XX wx (.slice s1 s.length s3) v2) wx yk (.slice y1 (Fo.len yk) y3)) (hg : Gd (y, yk)) (ht : (t, tk) = subT (bnd s) (y, yk)) (hb : Below wx.heap.size wx w') :
    Calls Tryz.prog 43 #[.slice s1 s.length s3, .agg #[.bool y.1, .int .i64 y.2, .slice y1 (Fo.len yk) y3]] w' fun e w1 => ∃ (a1 : Option Addr) (a3 : Nat), e = .returned (.agg #[.bool t.1, .int .i64 t.2, .slice a1 (Fo.len tk) a3]) ∧ Two lo w1 s T (.slice s1 s.length s3) v2 xs ys ∧ SB (XX w1 (.slice s1 s.length s3) v2) w1 tk (.slice a1 (Fo.len tk) a3) ∧ Below wx.heap.size wx w1 := by
  have hT' := hT.below hb
  refine (apply_any s _ y yk _ w' hT'.sub.sub (fun p hp => ⟨(hs p hp).nar, (hs p hp).ok⟩) (hk.toS.below hb) hg.nar).mono ?_
  rintro e w1 ⟨a', rfl, hO, hb1⟩
  rw [← ht] at hO ⊢
  have hS := hO.toS
  obtain ⟨a1, a3, _, _, rfl, _⟩ := hS
  exact ⟨a1, a3, rfl, hT'.below hb1, hT'.new (hO.toB (fun q q1 q2 => ⟨q1, q2⟩)), below_step hb hb1⟩
theorem uni_add {w w1 : World} {s : Sb} {T : List (Tm × Tm)} {s1 : Option Addr} {s3 : Nat} {v2 : Value} {xs ys : List Value} {t : Bool × Int} {tk : Fo} {a1 : Option Addr} {a3 : Nat} (n : Int) (hw : Below w.heap.size w w1) (hT : Two w.heap.size w1 s T (.slice s1 s.length s3) v2 xs ys) (hs : ∀ p ∈ s, Gd p.2) (hl : s.length ≤ 10) (hk : SB (XX w1 (.slice s1 s.length s3) v2) w1 tk (.slice a1 (Fo.len tk) a3)) (hg : Gd (t, tk)) :
    Calls Tryz.prog 42 #[.slice s1 s.length s3, .int .i64 n, .agg #[.bool t.1, .int .i64 t.2, .slice a1 (Fo.len tk) a3]] w1 fun e w2 => ∃ (z1 : Option Addr) (m z3 : Nat) (ok : Bool), e = .returned (.tuple #[.slice z1 m z3, .bool ok]) ∧ Below w.heap.size w w2 ∧ (ok = false → addS s n (t, tk) = none) ∧
      (ok = true → ∃ s' xs', addS s n (t, tk) = some s' ∧ m = s'.length ∧ Two w.heap.size w2 s' T (.slice z1 m z3) v2 xs' ys) := by
  have hv := gd_vars hg
  refine (addB_any w.heap.size (XX w1 (.slice s1 s.length s3) v2) s _ xs n t tk _ w1 hT.sub hw.size hk (fun p hp => ⟨(hs p hp).nar, (hs p hp).ok⟩) hg.ok hg.nar (by simp only at hv; omega) (by omega)).mono ?_
  rintro e w2 ⟨hf, z1, m, z3, ok, rfl, hno, hyes⟩
  refine ⟨z1, m, z3, ok, rfl, hw.trans (hf.below hw.size (fun g hg => (owns_at hT.sub.row g hg).1) (fun g hg => by cases hg)), hno, fun e => ?_⟩
  obtain ⟨s', xs', h1, h2, h3, _⟩ := hyes e
  exact ⟨s', xs', h1, h2, two_add hT h3 hf⟩

set_option maxRecDepth 100000 in
set_option maxHeartbeats 4000000 in
theorem unify_any (x : Bool × Int) (k : Fo) (a : Value) (y : Bool × Int) (l : Fo) (c : Value) (w : World) (n : Nat) (R : Option Sb) (hr : runU n [] [((x, k), (y, l))] = some R) (hUI : UI [] [((x, k), (y, l))]) (hS : SIn w k a) (hU : SIn w l c) :
    Calls Tryz.prog 21 #[.agg #[.bool x.1, .int .i64 x.2, a], .agg #[.bool y.1, .int .i64 y.2, c]] w (UniPost w R) := by
  obtain ⟨xv, xn⟩ := x
  obtain ⟨yv, yn⟩ := y
  have HS := hide hS
  have HU := hide hU
  have Hr := hide hr
  have HUI := hide hUI
  obtain ⟨ad, ac, b, o, rfl, -, -, -, -⟩ := hS
  obtain ⟨ud, uc, ub, uo, rfl, -, -, -, -⟩ := hU
  clear hr hUI
  go_enter Tryz.func21, Tryz.ntmps21
  go_wp2_with fail
  generalize hW2 : (w.alloc (.cells #[.bool xv, .int .i64 xn, .slice ad (Fo.len k) ac] 55)).alloc (.cells #[.bool yv, .int .i64 yn, .slice ud (Fo.len l) uc] 55) = W2
  have hB2 : Below w.heap.size w W2 := by rw [← hW2]; exact (below_alloc _ _).alloc (by simp) _
  have hs2 : w.heap.size + 1 + 1 = W2.heap.size := by rw [← hW2]; simp
  have H0 := hide (uni_start (x := (xv, xn)) (y := (yv, yn)) hB2 HS.out HU.out hs2)
  have HB3 : Hid (Below w.heap.size w (W2.alloc (.cells #[.bool xv, .int .i64 xn, .slice ad (Fo.len k) ac, .bool yv, .int .i64 yn, .slice ud (Fo.len l) uc] 86))) := hB2.alloc hB2.size _
  clear hW2 hB2 hs2
  go_loopg [6, 7] n (fun m vs vt wr => ∃ (s : Sb) (T : List (Tm × Tm)) (s1 : Option Addr) (s3 : Nat) (t1 : Option Addr) (t3 : Nat) (xs ys : List Value), vs = .slice s1 s.length s3 ∧ vt = .slice t1 T.length t3 ∧ UI s T.reverse ∧ runU m s T.reverse = some R ∧ Two w.heap.size wr s T (.slice s1 s.length s3) (.slice t1 T.length t3) xs ys ∧ Below w.heap.size w wr)
  case atStart =>
    exact ⟨[], [(((xv, xn), k), ((yv, yn), l))], none, 0, some ⟨w.heap.size + 1 + 1, 0, none⟩, 1, [], _, rfl, rfl, HUI.out, Hr.out, H0.out, HB3.out⟩
  case round =>
    obtain ⟨s, T, s1, s3, t1, t3, xs, ys, rfl, rfl, hI, hR, hTwo, hBw⟩ := hrel
    have HTwo := hide hTwo
    have HI := hide hI
    have HR := hide hR
    clear H0 HB3 hTwo hI hR
    rcases List.eq_nil_or_concat T with rfl | ⟨T', p, rfl⟩
    · have Hfin : Hid (UniPost w R (.returned (.tuple #[.slice s1 s.length s3, .bool true])) wr) := by
        refine ⟨hBw, s1, s.length, s3, true, rfl, fun e => by (cases e), fun _ => ⟨s, ?_, rfl, HTwo.out.sub.sub⟩⟩
        have := HR.out
        cases gk with
        | zero => simp [runU] at this
        | succ m => simpa [runU] using this.symm
      go_wp2_with fail
      go_ret2
      exact Hfin.out
    · have hrev : (T' ++ [p]).reverse = p :: T'.reverse := by simp
      rw [List.concat_eq_append] at *
      have hll : (T' ++ [p]).length = T'.length + 1 := by simp
      rw [hll] at HTwo
      rw [hll]
      rw [hrev] at HI HR
      obtain ⟨g, hg⟩ : ∃ g, t1 = some ⟨g, 0, none⟩ := by
        rcases HTwo.out.cou.row.2 with ⟨_, h0⟩ | ⟨g, cap, cur, e, _⟩
        · simp at h0
        · simp only [Value.slice.injEq] at e
          exact ⟨g, e.1⟩
      subst hg
      have hcap : T'.length + 1 ≤ t3 := by
        rcases HTwo.out.cou.row.2 with ⟨e, _⟩ | ⟨g', cap, cur, e, _, _, h1, _⟩
        · cases e
        · simp only [Value.slice.injEq] at e
          simp only [List.length_append, List.length_singleton] at h1
          omega
      have hcap2 : t3 ≤ 2 ^ 63 - 1 := by
        rcases HTwo.out.cou.row.2 with ⟨e, _⟩ | ⟨g', cap, cur, e, _, _, _, h1, _⟩
        · cases e
        · simp only [Value.slice.injEq] at e
          unfold maxLen at h1
          omega
      obtain ⟨ys', pa, pb, hT2, hSa, hSb, c0, c1, c2, c3, c4, c5⟩ := two_pop HTwo.out
      obtain ⟨⟨⟨pv, pn⟩, pk⟩, ⟨⟨qv, qn⟩, qk⟩⟩ := p
      have HT2 := hide hT2
      have HSa := hide hSa
      have HSb := hide hSb
      obtain ⟨pa1, pa3, pab, pao, rfl, -, -, -, -⟩ := hSa
      obtain ⟨pb1, pb3, pbb, pbo, rfl, -, -, -, -⟩ := hSb
      have hpop := fun w => pop_run (n := T'.length) (c := t3) (g := g) hcap w
      clear hrev hll hT2
      go_upto_region 6 with fail
      generalize hwn : wr.alloc (.cells #[.bool pv, .int .i64 pn, .slice pa1 (Fo.len pk) pa3, .bool qv, .int .i64 qn, .slice pb1 (Fo.len qk) pb3] 86) = wn
      have hbn : Below wr.heap.size wr wn := by rw [← hwn]; exact below_alloc _ _
      have n0 : wn.cell? ⟨wr.heap.size, 0, none⟩ = some (.bool pv) := by rw [← hwn]; exact new_cell rfl
      have n1 : wn.cell? ⟨wr.heap.size, 1, none⟩ = some (.int .i64 pn) := by rw [← hwn]; exact new_cell rfl
      have n2 : wn.cell? ⟨wr.heap.size, 2, none⟩ = some (.slice pa1 (Fo.len pk) pa3) := by rw [← hwn]; exact new_cell rfl
      have n3 : wn.cell? ⟨wr.heap.size, 3, none⟩ = some (.bool qv) := by rw [← hwn]; exact new_cell rfl
      have n4 : wn.cell? ⟨wr.heap.size, 4, none⟩ = some (.int .i64 qn) := by rw [← hwn]; exact new_cell rfl
      have n5 : wn.cell? ⟨wr.heap.size, 5, none⟩ = some (.slice pb1 (Fo.len qk) pb3) := by rw [← hwn]; exact new_cell rfl
      have hnl : wr.heap.size < wn.heap.size := World.block_lt_of_cell? _ _ n0
      have HTn := hide (HT2.out.below hbn)
      obtain ⟨⟨⟨xv', xn'⟩, xk'⟩, hx⟩ : ∃ z, z = top s ((pv, pn), pk) := ⟨_, rfl⟩
      obtain ⟨⟨⟨yv', yn'⟩, yk'⟩, hy⟩ : ∃ z, z = top s ((qv, qn), qk) := ⟨_, rfl⟩
      have HcA := hide (fun w' hb => top_call HTn.out (HT2.out.xx hbn HSa.out) hx w' hb)
      have HcB := hide (fun w' hb => top_call HTn.out (HT2.out.xx hbn HSb.out) hy w' hb)
      have Hx := hide hx
      have Hy := hide hy
      have Hbn := hide hbn
      have hcur : Below wn.heap.size wn wn := Below.refl _ _
      clear hwn hx hy hbn c0 c1 c2 c3 c4 c5 hpop
      go_cut [6, 7, 9, 10] (fun s6 s7 s9 s10 wx => ∃ (bx bb : Nat) (x1 : Option Addr) (x3 : Nat) (y1 : Option Addr) (y3 : Nat), s6 = .slice s1 s.length s3 ∧ s7 = .slice (some ⟨g, 0, none⟩) T'.length t3 ∧ s9 = .pointer (some ⟨bx, 0, none⟩) ∧ s10 = .pointer (some ⟨bb, 0, none⟩) ∧
        SB (XX wn (.slice s1 s.length s3) (.slice (some ⟨g, 0, none⟩) T'.length t3)) wn xk' (.slice x1 (Fo.len xk') x3) ∧ SB (XX wn (.slice s1 s.length s3) (.slice (some ⟨g, 0, none⟩) T'.length t3)) wn yk' (.slice y1 (Fo.len yk') y3) ∧
        C3 wx bx (.bool xv') (.int .i64 xn') (.slice x1 (Fo.len xk') x3) ∧ C3 wx bb (.bool yv') (.int .i64 yn') (.slice y1 (Fo.len yk') y3) ∧ Below wn.heap.size wn wx)
      case first =>
        have neN : wn.heap.size ≠ wr.heap.size := Nat.ne_of_gt hnl
        have neN1 : wn.heap.size + 1 ≠ wr.heap.size := Nat.ne_of_gt (Nat.lt_succ_of_lt hnl)
        go_region_held3 (fun w' => w'.cell? ⟨wr.heap.size, 0, none⟩ = some (.bool pv) ∧ w'.cell? ⟨wr.heap.size, 1, none⟩ = some (.int .i64 pn) ∧ w'.cell? ⟨wr.heap.size, 2, none⟩ = some (.slice pa1 (Fo.len pk) pa3) ∧ w'.cell? ⟨wr.heap.size, 3, none⟩ = some (.bool qv) ∧ w'.cell? ⟨wr.heap.size, 4, none⟩ = some (.int .i64 qn) ∧ w'.cell? ⟨wr.heap.size, 5, none⟩ = some (.slice pb1 (Fo.len qk) pb3))
          (first
            | (with_reducible exact ⟨grow_cell hcur _ _ n0, grow_cell hcur _ _ n1, grow_cell hcur _ _ n2, grow_cell hcur _ _ n3, grow_cell hcur _ _ n4, grow_cell hcur _ _ n5⟩)
            | go_keep)
          (first
          | (go_at_call 41; with_reducible refine (HcA.out _ ?_).mono ?_; (with_reducible first | exact hcur | exact hcur.drew | exact (hcur.alloc hcur.size _).drew | exact hcur.alloc hcur.size _ | exact ((hcur.alloc hcur.size _).alloc (hcur.alloc hcur.size _).size _).drew | exact (hcur.alloc hcur.size _).alloc (hcur.alloc hcur.size _).size _); rintro e wA ⟨x1, x3, rfl, hSx, hbA⟩
             (with_reducible first | (refine thus (box2d hbA) ?_; rintro ⟨⟨fA0, fA1, fA2, fAf⟩, ⟨gA0, gA1, gA2, gAf⟩, fAl⟩; have fAk := Nat.lt_of_succ_lt fAl) | (refine thus (box2 hbA) ?_; rintro ⟨⟨fA0, fA1, fA2, fAf⟩, ⟨gA0, gA1, gA2, gAf⟩, fAl⟩; have fAk := Nat.lt_of_succ_lt fAl) | (refine thus (box1d hbA) ?_; rintro ⟨fA0, fA1, fA2, fAf, fAl⟩) | (refine thus (box1 hbA) ?_; rintro ⟨fA0, fA1, fA2, fAf, fAl⟩) | skip)
             (try (have hst : Below wB.heap.size wB wA := (by with_reducible first | exact hbA | exact below_box hbA | exact below_box (below_box hbA)); have hsl := hst.size; (try (have fB0' := grow_cell hst _ _ fB0; have fB1' := grow_cell hst _ _ fB1; have fB2' := grow_cell hst _ _ fB2; have ltfB0 := World.block_lt_of_cell? _ _ fB0; have ltfBc := World.block_lt_of_cell? _ _ fB0'; dsimp only at ltfBc; have fBf' := (fun i => (hst.frozen (p := ⟨_, i, none⟩) ltfB0).trans (fBf i)))); (try (have gB0' := grow_cell hst _ _ gB0; have gB1' := grow_cell hst _ _ gB1; have gB2' := grow_cell hst _ _ gB2; have ltgB0 := World.block_lt_of_cell? _ _ gB0; have ltgBc := World.block_lt_of_cell? _ _ gB0'; dsimp only at ltgBc; have gBf' := (fun i => (hst.frozen (p := ⟨_, i, none⟩) ltgB0).trans (gBf i))))))
             have hcurA : Below wn.heap.size wn wA := below_step (by with_reducible first | exact hcur | exact hcur.drew | exact (hcur.alloc hcur.size _).drew | exact hcur.alloc hcur.size _ | exact ((hcur.alloc hcur.size _).alloc (hcur.alloc hcur.size _).size _).drew | exact (hcur.alloc hcur.size _).alloc (hcur.alloc hcur.size _).size _) hbA
             replace hcur : Below wn.heap.size wn wA := below_step (by with_reducible first | exact hcur | exact hcur.drew | exact (hcur.alloc hcur.size _).drew | exact hcur.alloc hcur.size _ | exact ((hcur.alloc hcur.size _).alloc (hcur.alloc hcur.size _).size _).drew | exact (hcur.alloc hcur.size _).alloc (hcur.alloc hcur.size _).size _) hbA
             have hlA : wr.heap.size < wA.heap.size := Nat.lt_of_lt_of_le hnl hcur.size
             have neA : wA.heap.size ≠ wr.heap.size := Nat.ne_of_gt hlA
             have neA1 : wA.heap.size + 1 ≠ wr.heap.size := Nat.ne_of_gt (Nat.lt_succ_of_lt hlA)
             have mA0 := grow_cell hcur _ _ n0; have mA1 := grow_cell hcur _ _ n1; have mA2 := grow_cell hcur _ _ n2; have mA3 := grow_cell hcur _ _ n3; have mA4 := grow_cell hcur _ _ n4; have mA5 := grow_cell hcur _ _ n5)
          | (go_at_call 41; with_reducible refine (HcB.out _ ?_).mono ?_; (with_reducible first | exact hcur | exact hcur.drew | exact (hcur.alloc hcur.size _).drew | exact hcur.alloc hcur.size _ | exact ((hcur.alloc hcur.size _).alloc (hcur.alloc hcur.size _).size _).drew | exact (hcur.alloc hcur.size _).alloc (hcur.alloc hcur.size _).size _); rintro e wB ⟨y1, y3, rfl, hSy, hbB⟩
             (with_reducible first | (refine thus (box2d hbB) ?_; rintro ⟨⟨fB0, fB1, fB2, fBf⟩, ⟨gB0, gB1, gB2, gBf⟩, fBl⟩; have fBk := Nat.lt_of_succ_lt fBl) | (refine thus (box2 hbB) ?_; rintro ⟨⟨fB0, fB1, fB2, fBf⟩, ⟨gB0, gB1, gB2, gBf⟩, fBl⟩; have fBk := Nat.lt_of_succ_lt fBl) | (refine thus (box1d hbB) ?_; rintro ⟨fB0, fB1, fB2, fBf, fBl⟩) | (refine thus (box1 hbB) ?_; rintro ⟨fB0, fB1, fB2, fBf, fBl⟩) | skip)
             (try (have hst : Below wA.heap.size wA wB := (by with_reducible first | exact hbB | exact below_box hbB | exact below_box (below_box hbB)); have hsl := hst.size; (try (have fA0' := grow_cell hst _ _ fA0; have fA1' := grow_cell hst _ _ fA1; have fA2' := grow_cell hst _ _ fA2; have ltfA0 := World.block_lt_of_cell? _ _ fA0; have ltfAc := World.block_lt_of_cell? _ _ fA0'; dsimp only at ltfAc; have fAf' := (fun i => (hst.frozen (p := ⟨_, i, none⟩) ltfA0).trans (fAf i)))); (try (have gA0' := grow_cell hst _ _ gA0; have gA1' := grow_cell hst _ _ gA1; have gA2' := grow_cell hst _ _ gA2; have ltgA0 := World.block_lt_of_cell? _ _ gA0; have ltgAc := World.block_lt_of_cell? _ _ gA0'; dsimp only at ltgAc; have gAf' := (fun i => (hst.frozen (p := ⟨_, i, none⟩) ltgA0).trans (gAf i))))))
             replace hcur : Below wn.heap.size wn wB := below_step (by with_reducible first | exact hcur | exact hcur.drew | exact (hcur.alloc hcur.size _).drew | exact hcur.alloc hcur.size _ | exact ((hcur.alloc hcur.size _).alloc (hcur.alloc hcur.size _).size _).drew | exact (hcur.alloc hcur.size _).alloc (hcur.alloc hcur.size _).size _) hbB
             have hlB : wr.heap.size < wB.heap.size := Nat.lt_of_lt_of_le hnl hcur.size
             have neB : wB.heap.size ≠ wr.heap.size := Nat.ne_of_gt hlB
             have neB1 : wB.heap.size + 1 ≠ wr.heap.size := Nat.ne_of_gt (Nat.lt_succ_of_lt hlB)
             have mB0 := grow_cell hcur _ _ n0; have mB1 := grow_cell hcur _ _ n1; have mB2 := grow_cell hcur _ _ n2; have mB3 := grow_cell hcur _ _ n3; have mB4 := grow_cell hcur _ _ n4; have mB5 := grow_cell hcur _ _ n5))
        all_goals
          have hnA := hcurA.size
          have hnA1 : wn.heap.size ≤ wA.heap.size + 1 := Nat.le_succ_of_le hnA
          go_wp2_with fail
          go_meet
          case rel =>
            with_reducible first
              | exact ⟨wB.heap.size, wB.heap.size + 1, x1, x3, y1, y3, rfl, rfl, rfl, rfl, hSx, hSy, fin0 hcur⟩
              | exact ⟨wB.heap.size + 1, wB.heap.size, x1, x3, y1, y3, rfl, rfl, rfl, rfl, hSx, hSy, swap3 (fin0 hcur)⟩
              | exact ⟨wA.heap.size, wB.heap.size, x1, x3, y1, y3, rfl, rfl, rfl, rfl, hSx, hSy, fin1 hcur hnA fB0 fB1 fB2⟩
              | exact ⟨wB.heap.size, wA.heap.size, x1, x3, y1, y3, rfl, rfl, rfl, rfl, hSx, hSy, swap3 (fin1 hcur hnA fB0 fB1 fB2)⟩
              | exact ⟨wn.heap.size, wB.heap.size, x1, x3, y1, y3, rfl, rfl, rfl, rfl, hSx, hSy, fin1 hcur (Nat.le_refl _) fA0' fA1' fA2'⟩
              | exact ⟨wB.heap.size, wn.heap.size, x1, x3, y1, y3, rfl, rfl, rfl, rfl, hSx, hSy, swap3 (fin1 hcur (Nat.le_refl _) fA0' fA1' fA2')⟩
              | exact ⟨wA.heap.size, wA.heap.size + 1, x1, x3, y1, y3, rfl, rfl, rfl, rfl, hSx, hSy, fin2 hcur hnA hnA1 (Nat.ne_of_lt (Nat.lt_succ_self _)) fB0 fB1 fB2 gB0 gB1 gB2⟩
              | exact ⟨wA.heap.size + 1, wA.heap.size, x1, x3, y1, y3, rfl, rfl, rfl, rfl, hSx, hSy, fin2 hcur hnA1 hnA (Nat.ne_of_gt (Nat.lt_succ_self _)) gB0 gB1 gB2 fB0 fB1 fB2⟩
              | exact ⟨wn.heap.size, wA.heap.size, x1, x3, y1, y3, rfl, rfl, rfl, rfl, hSx, hSy, fin2 hcur (Nat.le_refl _) hnA (Nat.ne_of_lt fAl) fA0' fA1' fA2' fB0 fB1 fB2⟩
              | exact ⟨wA.heap.size, wn.heap.size, x1, x3, y1, y3, rfl, rfl, rfl, rfl, hSx, hSy, fin2 hcur hnA (Nat.le_refl _) (Nat.ne_of_gt fAl) fB0 fB1 fB2 fA0' fA1' fA2'⟩
              | exact ⟨wn.heap.size, wn.heap.size + 1, x1, x3, y1, y3, rfl, rfl, rfl, rfl, hSx, hSy, fin2 hcur (Nat.le_refl _) (Nat.le_succ _) (Nat.ne_of_lt (Nat.lt_succ_self _)) fA0' fA1' fA2' gA0' gA1' gA2'⟩
              | exact ⟨wn.heap.size + 1, wn.heap.size, x1, x3, y1, y3, rfl, rfl, rfl, rfl, hSx, hSy, fin2 hcur (Nat.le_succ _) (Nat.le_refl _) (Nat.ne_of_gt (Nat.lt_succ_self _)) gA0' gA1' gA2' fA0' fA1' fA2'⟩
      case rest =>
        obtain ⟨bx, bb, x1, x3, y1, y3, rfl, rfl, rfl, rfl, hSx, hSy, ⟨a0, a1, a2⟩, ⟨e0, e1, e2⟩, hbx⟩ := hcut
        generalize wc = wx at *
        have hBx : Below w.heap.size w wx := below_step hBw (below_step Hbn.out hbx)
        have HTx := hide (HTn.out.below hbx)
        have HSx := hide (HTn.out.xx hbx hSx)
        have HSy := hide (HTn.out.xx hbx hSy)
        have hgp := HI.out.gL (((pv, pn), pk), ((qv, qn), qk)) (by simp)
        have Hgx : Hid (Gd ((xv', xn'), xk')) := by rw [Hid, Hx.out]; exact gd_top HI.out.gs hgp.1
        have Hgy : Hid (Gd ((yv', yn'), yk')) := by rw [Hid, Hy.out]; exact gd_top HI.out.gs hgp.2
        have hscm : s3 ≤ 2 ^ 63 - 1 := by
          obtain ⟨_, _, _, _, e, _, _, h, _⟩ := HTx.out.sub.sub
          simp only [Value.slice.injEq] at e
          unfold maxLen at h
          omega
        obtain ⟨m, hm⟩ : ∃ m, gk = m + 1 := by
          cases gk with
          | zero => have := HR.out; simp [runU] at this
          | succ m => exact ⟨m, rfl⟩
        subst hm
        clear hSx hSy hgp n0 n1 n2 n3 n4 n5 hnl hcur HcA HcB HTn hbx
        cases xv'
        · cases yv'
          · by_cases hc : xn' = yn' ∧ Fo.len xk' = Fo.len yk'
            · obtain ⟨hc1, hc2⟩ := hc
              have Hon := hide (run_on HI.out HR.out (stepU_args Hx.out Hy.out rfl rfl hc1 hc2))
              have hnb : (xn' == yn') = true := by simp [hc1]
              have hlb : ((Fo.len xk' : Int) == (Fo.len yk' : Int)) = true := by simp [hc2]
              have Hc2 := hide hc2
              have Hlen := hide (ui_len HI.out)
              have Htwo := hide Hgx.out.two.1
              clear hc1 hc2
              go_wp2_with fail
              refine (addArgs_any w.heap.size (XX wx (.slice s1 s.length s3) (.slice (some ⟨g, 0, none⟩) T'.length t3)) T' _ ys' (false, xn') xk' _ (false, yn') yk' _ wx HTx.out.cou hBx.size HSx.out HSy.out Hc2.out (by have := Hlen.out.1; have := Htwo.out; simp only [List.length_cons, List.length_reverse] at *; omega)).mono ?_
              rintro e w2 ⟨M, z1, z3, xt', hM, rfl, hO2, hF2, hM2⟩
              have H3 := hide (two_args HTx.out hO2 hF2)
              have hBw2 : Below w.heap.size w w2 := hBx.trans (hF2.below hBx.size (fun q hq => (owns_at HTx.out.cou.row q hq).1) (fun q hq => by cases hq))
              have Hrev : Hid (M.reverse = xk'.list.zip yk'.list ++ T'.reverse) := by rw [Hid, hM]; simp
              clear hM hO2 hF2 hM2
              go_wp2_with fail
              go_roundg m
              case measure => omega
              case rel => exact ⟨s, M, s1, s3, z1, z3, xs, xt', rfl, rfl, by rw [Hrev.out]; exact Hon.out.1, by rw [Hrev.out]; exact Hon.out.2, H3.out, hBw2⟩
            · have Hf := hide (uni_no hBx (run_no HR.out (stepU_bad Hx.out Hy.out rfl rfl hc)))
              by_cases hc1 : xn' = yn'
              · have hnb : (xn' == yn') = true := by simp [hc1]
                have hlb : ((Fo.len xk' : Int) == (Fo.len yk' : Int)) = false := by
                  have : ¬ Fo.len xk' = Fo.len yk' := fun e => hc ⟨hc1, e⟩
                  simp; omega
                clear hc hc1
                go_wp2_with fail
                go_ret2
                exact Hf.out
              · have hnb : (xn' == yn') = false := by simp [hc1]
                clear hc hc1
                go_wp2_with fail
                go_ret2
                exact Hf.out
          · have Hst : Hid (stepU s ((pv, pn), pk) ((qv, qn), qk) T'.reverse = (addS s yn' (subT (bnd s) ((false, xn'), xk'))).map fun s' => (s', T'.reverse)) := stepU_y Hx.out Hy.out rfl rfl
            obtain ⟨⟨⟨tv, tn⟩, tk⟩, ht⟩ : ∃ z, z = subT (bnd s) ((false, xn'), xk') := ⟨_, rfl⟩
            have Ht := hide ht
            have Hgt : Hid (Gd ((tv, tn), tk)) := by rw [Hid, ht]; exact gd_sub HI.out.gs Hgx.out
            have Hap := hide (uni_apply HTx.out HI.out.gs HSx.out Hgx.out ht (w' := wx.drew) (Below.refl _ _).drew)
            clear ht
            go_upto_region 13 with fail
            go_region_with (first
              | (go_at_call 43; refine Hap.out.mono ?_; rintro e w1 ⟨b1, b3, rfl, hT1, hS1, hb1⟩; have hBw1 := below_step hBx hb1; have e1w := grow_cell hb1 _ _ e1)
              | (go_at_call 42; refine (uni_add yn' hBw1 hT1 HI.out.gs (ui_len HI.out).2 hS1 Hgt.out).mono ?_; rintro e w2 ⟨z1, zm, z3, ok, rfl, hBw2, hno, hyes⟩))
            all_goals
              cases ok
              · have Hf := hide (uni_no hBw2 (run_no HR.out (by rw [Hst.out, ← Ht.out, hno rfl]; rfl)))
                clear hno hyes hT1 hS1
                go_wp2_with fail
                go_ret2
                exact Hf.out
              · obtain ⟨s', xs', h1, h2, h3⟩ := hyes rfl
                have Hon := hide (run_on HI.out HR.out (s' := s') (L' := T'.reverse) (by rw [Hst.out, ← Ht.out, h1]; rfl))
                subst h2
                have H3 := hide h3
                clear hno hyes hT1 hS1 h1 h3
                go_wp2_with fail
                go_roundg m
                case measure => omega
                case rel => exact ⟨s', T', z1, z3, some ⟨g, 0, none⟩, t3, xs', ys', rfl, rfl, Hon.out.1, Hon.out.2, H3.out, hBw2⟩
        · by_cases hc : yv' = true ∧ xn' = yn'
          · obtain ⟨rfl, hc2⟩ := hc
            have Hon := hide (run_on HI.out HR.out (stepU_same Hx.out Hy.out rfl rfl hc2))
            have hnb : (xn' == yn') = true := by simp [hc2]
            clear hc2
            go_wp2_with fail
            go_roundg m
            case measure => omega
            case rel => exact ⟨s, T', s1, s3, some ⟨g, 0, none⟩, t3, xs, ys', rfl, rfl, Hon.out.1, Hon.out.2, HTx.out, hBx⟩
          · have Hst : Hid (stepU s ((pv, pn), pk) ((qv, qn), qk) T'.reverse = (addS s xn' (subT (bnd s) ((yv', yn'), yk'))).map fun s' => (s', T'.reverse)) := stepU_x Hx.out Hy.out rfl (fun h => hc ⟨h.1, h.2⟩)
            cases yv'
            · clear hc
              obtain ⟨⟨⟨tv, tn⟩, tk⟩, ht⟩ : ∃ z, z = subT (bnd s) ((false, yn'), yk') := ⟨_, rfl⟩
              have Ht := hide ht
              have Hgt : Hid (Gd ((tv, tn), tk)) := by rw [Hid, ht]; exact gd_sub HI.out.gs Hgy.out
              have Hap := hide (uni_apply HTx.out HI.out.gs HSy.out Hgy.out ht (w' := wx.drew) (Below.refl _ _).drew)
              clear ht
              go_upto_region 11 with fail
              go_region_with (first
                | (go_at_call 43; refine Hap.out.mono ?_; rintro e w1 ⟨b1, b3, rfl, hT1, hS1, hb1⟩; have hBw1 := below_step hBx hb1; have a1w := grow_cell hb1 _ _ a1)
                | (go_at_call 42; refine (uni_add xn' hBw1 hT1 HI.out.gs (ui_len HI.out).2 hS1 Hgt.out).mono ?_; rintro e w2 ⟨z1, zm, z3, ok, rfl, hBw2, hno, hyes⟩))
              all_goals
                cases ok
                · have Hf := hide (uni_no hBw2 (run_no HR.out (by rw [Hst.out, ← Ht.out, hno rfl]; rfl)))
                  clear hno hyes hT1 hS1
                  go_wp2_with fail
                  go_ret2
                  exact Hf.out
                · obtain ⟨s', xs', h1, h2, h3⟩ := hyes rfl
                  have Hon := hide (run_on HI.out HR.out (s' := s') (L' := T'.reverse) (by rw [Hst.out, ← Ht.out, h1]; rfl))
                  subst h2
                  have H3 := hide h3
                  clear hno hyes hT1 hS1 h1 h3
                  go_wp2_with fail
                  go_roundg m
                  case measure => omega
                  case rel => exact ⟨s', T', z1, z3, some ⟨g, 0, none⟩, t3, xs', ys', rfl, rfl, Hon.out.1, Hon.out.2, H3.out, hBw2⟩
            · have hnb : (xn' == yn') = false := by
                have : ¬ xn' = yn' := fun e => hc ⟨rfl, e⟩
                simp [this]
              clear hc
              obtain ⟨⟨⟨tv, tn⟩, tk⟩, ht⟩ : ∃ z, z = subT (bnd s) ((true, yn'), yk') := ⟨_, rfl⟩
              have Ht := hide ht
              have Hgt : Hid (Gd ((tv, tn), tk)) := by rw [Hid, ht]; exact gd_sub HI.out.gs Hgy.out
              have Hap := hide (uni_apply HTx.out HI.out.gs HSy.out Hgy.out ht (w' := wx.drew) (Below.refl _ _).drew)
              clear ht
              go_upto_region 11 with fail
              go_region_with (first
                | (go_at_call 43; refine Hap.out.mono ?_; rintro e w1 ⟨b1, b3, rfl, hT1, hS1, hb1⟩; have hBw1 := below_step hBx hb1; have a1w := grow_cell hb1 _ _ a1)
                | (go_at_call 42; refine (uni_add xn' hBw1 hT1 HI.out.gs (ui_len HI.out).2 hS1 Hgt.out).mono ?_; rintro e w2 ⟨z1, zm, z3, ok, rfl, hBw2, hno, hyes⟩))
              all_goals
                cases ok
                · have Hf := hide (uni_no hBw2 (run_no HR.out (by rw [Hst.out, ← Ht.out, hno rfl]; rfl)))
                  clear hno hyes hT1 hS1
                  go_wp2_with fail
                  go_ret2
                  exact Hf.out
                · obtain ⟨s', xs', h1, h2, h3⟩ := hyes rfl
                  have Hon := hide (run_on HI.out HR.out (s' := s') (L' := T'.reverse) (by rw [Hst.out, ← Ht.out, h1]; rfl))
                  subst h2
                  have H3 := hide h3
                  clear hno hyes hT1 hS1 h1 h3
                  go_wp2_with fail
                  go_roundg m
                  case measure => omega
                  case rel => exact ⟨s', T', z1, z3, some ⟨g, 0, none⟩, t3, xs', ys', rfl, rfl, Hon.out.1, Hon.out.2, H3.out, hBw2⟩

end Go.Proofs.YtaliegkkdhkfcacGreatDoor

namespace Go.Proofs.YtaliegkkdhkfcacGreatDoor
open Go.RowKit Go.Deep Go.ChangeShapes Go.WideShapes
attribute [local go_sem ↓] Go.wp_at_zero Go.wp_at_succ

theorem fin_norm {w : World} : ∀ {F : Fo} {b o : Nat}, FIn w F b o → FIn w (Fo.norm F) b o
  | .nil, _, _, _ => trivial
  | .node _ _ _ k r, _, _, ⟨h0, h1, ⟨a, c, b', o', h2, h3, h4, h5, h6⟩, h7⟩ => by
    refine ⟨h0, h1, ⟨a, c, b', o', ?_, ?_, ?_, h5, fin_norm h6⟩, fin_norm h7⟩
    · rw [norm_len]; exact h2
    · rw [norm_len]; exact h3
    · rw [norm_len]; exact h4
theorem sin_norm {w : World} {k : Fo} {a : Value} (h : SIn w k a) : SIn w (Fo.norm k) a := by
  obtain ⟨a, c, b, o, rfl, h3, h4, h5, h6⟩ := h
  exact ⟨a, c, b, o, by rw [norm_len], by rw [norm_len]; exact h3, by rw [norm_len]; exact h4, h5, fin_norm h6⟩
theorem norm_sizes : ∀ F : Fo, Fo.sizesR (Fo.norm F) = Fo.sizesR F
  | .nil => rfl
  | .node _ _ _ k r => by simp [Fo.norm, Fo.sizesR, norm_sizes k, norm_sizes r]

/-- What is known of right terms, without what is no part of them. -/
theorem good_of_walk {s : List Int} (hs : s.all okNum = true) : ∀ {F : Fo} {n : Nat}, n ≤ 13 → walkF s F (13 - (n : Int)) = 0 → Fo.ok (Fo.norm F) ∧ twoF (Fo.norm F) ∧ (∀ m, occF m (Fo.norm F) → 0 ≤ m ∧ m ≤ 4) ∧ depF (Fo.norm F) ≤ n
  | .nil, _, _, _ => ⟨trivial, trivial, fun m hm => by simp [Fo.norm, occF] at hm, Nat.zero_le _⟩
  | .node _ _ ⟨v, z⟩ k r, n, hn, h => by
    obtain ⟨hT, hr⟩ := walkF_ok h
    obtain ⟨hd, ha, hk⟩ := walkT_ok hT
    have h2 := alone_len hs ha
    obtain ⟨m, rfl⟩ : ∃ m, n = m + 1 := ⟨n - 1, by omega⟩
    have e : (13 : Int) - ((m + 1 : Nat) : Int) + 1 = 13 - (m : Int) := by omega
    rw [e] at hk
    obtain ⟨i1, i2, i3, i4⟩ := good_of_walk hs (n := m) (by omega) hk
    obtain ⟨j1, j2, j3, j4⟩ := good_of_walk hs (n := m + 1) hn hr
    simp only [Fo.norm]
    refine ⟨?_, ⟨by rw [norm_len]; exact h2, i2, j2⟩, fun q hq => ?_, ?_⟩
    · rw [ok_node]
      refine ⟨rfl, rfl, ⟨fun hv => ?_, i1⟩, j1⟩
      have hv' : v = true := hv
      subst hv'
      obtain ⟨rfl, _, _⟩ := alone_var ha
      rfl
    · rcases hq with hq | hq
      · cases v
        · exact i3 q (by simpa using hq)
        · obtain ⟨_, h0, h4⟩ := alone_var ha
          have : z = q := by simpa using hq
          omega
      · exact j3 q hq
    · simp only [depF]; omega
theorem gd_of_right {s : List Int} (hs : s.all okNum = true) {x : Bool × Int} {k : Fo} (h : wrongF s x k = 0) : Gd (x, Fo.norm k) ∧ depT (x, Fo.norm k) ≤ 12 ∧ tszR (Fo.norm k) ≤ 12 := by
  obtain ⟨h1, _, _, _, hw⟩ := right_of hs h
  have hF : walkF s (.node 0 0 x k .nil) (13 - ((12 : Nat) : Int)) = 0 := by
    have : walkT s x k 1 = 0 := hw
    simp only [walkF]
    have h3 : ∀ z : Int, z = 0 → (if z ≠ 0 then z else 0) = 0 := fun z hz => by simp [hz]
    exact h3 _ this
  obtain ⟨i1, i2, i3, i4⟩ := good_of_walk hs (n := 12) (by omega) hF
  simp only [Fo.norm] at i1 i2 i3 i4
  rw [ok_node] at i1
  rw [two_node] at i2
  refine ⟨⟨i1.2.2.1, i2.1, fun m hm => by have := i3 m (.inl hm); omega⟩, ?_, by unfold tszR at *; rw [norm_sizes]; exact h1⟩
  simp only [depF, depT] at *
  omega
/-- Right terms are of the first five variables. -/
theorem four_of_right {s : List Int} (hs : s.all okNum = true) {x : Bool × Int} {k : Fo} (h : wrongF s x k = 0) (m : Int) (hm : occT m (x, Fo.norm k)) : 0 ≤ m ∧ m ≤ 4 := by
  obtain ⟨h1, _, _, _, hw⟩ := right_of hs h
  have hF : walkF s (.node 0 0 x k .nil) (13 - ((12 : Nat) : Int)) = 0 := by
    have : walkT s x k 1 = 0 := hw
    simp only [walkF]
    have h3 : ∀ z : Int, z = 0 → (if z ≠ 0 then z else 0) = 0 := fun z hz => by simp [hz]
    exact h3 _ this
  obtain ⟨_, _, i3, _⟩ := good_of_walk hs (n := 12) (by omega) hF
  simp only [Fo.norm] at i3
  exact i3 m (.inl hm)
end Go.Proofs.YtaliegkkdhkfcacGreatDoor

namespace Go.Proofs.YtaliegkkdhkfcacGreatDoor
open Go.RowKit Go.Deep Go.ChangeShapes Go.WideShapes

theorem norm_norm : ∀ F : Fo, Fo.norm (Fo.norm F) = Fo.norm F
  | .nil => rfl
  | .node _ _ _ k r => by simp [Fo.norm, norm_norm k, norm_norm r]

/-- Terms laid side by side. -/
def two (t u : Tm) : Fo := .node 0 0 t.1 t.2 (.node 0 0 u.1 u.2 .nil)
/-- A right term that has been brought to one form is good. -/
theorem four_right {s : List Int} {x : Bool × Int} {k : Fo} (hs : s.all okNum = true) (hk : Fo.norm k = k) (h : wrongF s x k = 0) : ∀ m, occT m (x, k) → m ≤ 4 := fun m hm => by
  have := four_of_right hs h m (by rw [hk]; exact hm)
  exact this.2
theorem gd_right {s : List Int} {x : Bool × Int} {k : Fo} (hs : s.all okNum = true) (hk : Fo.norm k = k) (h : wrongF s x k = 0) : Gd (x, k) ∧ depT (x, k) ≤ 12 ∧ tszR k ≤ 12 := by
  have := gd_of_right hs h
  rwa [hk] at this

end Go.Proofs.YtaliegkkdhkfcacGreatDoor
