/- What makes two terms the same: bind's outermost, add, addArgs: bindings that turn in their row. -/
import Derived.Test.YtdaebldfmchclabG12
import Derived.Deep.RegionLaw
namespace Go.Proofs.Ytdaebldfmchclab
open Go.RowKit Go.Deep Go.ChangeShapes Go.WideShapes
attribute [local go_sem ↓] Go.wp_at_zero Go.wp_at_succ

end Go.Proofs.Ytdaebldfmchclab

/- One binding more, which is that in all that was bound: bind's add. -/
namespace Go.Proofs.Ytdaebldfmchclab
open Go.RowKit Go.Deep Go.ChangeShapes Go.WideShapes
attribute [local go_sem ↓] Go.wp_at_zero Go.wp_at_succ

theorem PC.cellsAt {X : Nat → Prop} {w : World} : ∀ {s : Sb} {xs : List Value} {j : Nat} {p : Int × Tm}, PC X w s xs → s[j]? = some p →
    xs[j * 4]? = some (.int .i64 p.1) ∧ xs[j * 4 + 1]? = some (.bool p.2.1.1) ∧ xs[j * 4 + 2]? = some (.int .i64 p.2.1.2) ∧ ∃ a, xs[j * 4 + 3]? = some a ∧ SB X w p.2.2 a
  | [], _, _, _, _, h => by simp at h
  | q :: s, _, 0, p, ⟨a, ys, h1, h2, h3⟩, h => by
    simp only [List.getElem?_cons_zero, Option.some.injEq] at h
    subst h1 h
    simpa using h2
  | q :: s, _, j + 1, p, ⟨a, ys, h1, h2, h3⟩, h => by
    subst h1
    have := PC.cellsAt (j := j) h3 (by simpa using h)
    have e : (j + 1) * 4 = j * 4 + 4 := by omega
    rw [e]
    simpa using this

def lset3 (xs : List Value) (o : Nat) (x y z : Value) : List Value := ((xs.set o x).set (o + 1) y).set (o + 2) z
theorem set3_row {w : World} {lo : Nat} {e : TypeId} {size g n cap o : Nat} {xs : List Value} {x y z : Value} (h : w.ownsRow lo e size (.slice (some ⟨g, 0, none⟩) n cap) n xs) :
    (set3 w g o x y z).ownsRow lo e size (.slice (some ⟨g, 0, none⟩) n cap) n (lset3 xs o x y z) := (((h.stored o x).1).stored (o + 1) y).1.stored (o + 2) z |>.1
theorem set3_heap {w : World} {b o : Nat} {x y z : Value} {q : Nat} (h : q ≠ b) : (set3 w b o x y z).heap[q]? = w.heap[q]? := by
  unfold set3
  rw [Below.heap_setCell _ _ _ _ h, Below.heap_setCell _ _ _ _ h, Below.heap_setCell _ _ _ _ h]
theorem PC.upd {X : Nat → Prop} {w : World} {m : Int} {t : Tm} {a : Value} (ha : SB X w t.2 a) : ∀ {s : Sb} {xs : List Value} {j : Nat} {u : Tm}, PC X w s xs → s[j]? = some (m, u) → PC X w (s.set j (m, t)) (lset3 xs (j * 4 + 1) (.bool t.1.1) (.int .i64 t.1.2) a)
  | [], _, _, _, _, h => by simp at h
  | q :: s, _, 0, u, ⟨b, ys, h1, h2, h3⟩, h => by
    simp only [List.getElem?_cons_zero, Option.some.injEq] at h
    subst h1 h
    exact ⟨a, ys, by simp [lset3], ha, h3⟩
  | q :: s, _, j + 1, u, ⟨b, ys, h1, h2, h3⟩, h => by
    subst h1
    have ih := PC.upd ha (j := j) h3 (by simpa using h)
    refine ⟨b, _, ?_, h2, ih⟩
    have e : (j + 1) * 4 + 1 = j * 4 + 1 + 4 := by omega
    rw [e]
    simp [lset3]

/-- So many pairs are as the new binding has them. -/
def updS (f : Tm → Tm) (s : Sb) (j : Nat) : Sb := (s.take j).map (fun p => (p.1, f p.2)) ++ s.drop j
theorem updS_zero (f : Tm → Tm) (s : Sb) : updS f s 0 = s := by simp [updS]
theorem updS_all (f : Tm → Tm) (s : Sb) : updS f s s.length = s.map (fun p => (p.1, f p.2)) := by simp [updS]
theorem updS_len (f : Tm → Tm) (s : Sb) (j : Nat) : (updS f s j).length = s.length := by simp [updS]; omega
theorem updS_at {f : Tm → Tm} {s : Sb} {j : Nat} {p : Int × Tm} (h : s[j]? = some p) : (updS f s j)[j]? = some p := by
  have hj : j < s.length := by
    rcases Nat.lt_or_ge j s.length with h' | h'
    · exact h'
    · rw [List.getElem?_eq_none h'] at h; cases h
  unfold updS
  rw [List.getElem?_append_right (by simp; omega)]
  simp only [List.length_map, List.length_take]
  rw [Nat.min_eq_left (by omega), Nat.sub_self, List.getElem?_drop]
  exact h
theorem updS_succ {f : Tm → Tm} : ∀ {s : Sb} {j : Nat} {m : Int} {t : Tm}, s[j]? = some (m, t) → updS f s (j + 1) = (updS f s j).set j (m, f t)
  | [], _, _, _, h => by simp at h
  | q :: s, 0, m, t, h => by
    simp only [List.getElem?_cons_zero, Option.some.injEq] at h
    subst h
    simp [updS]
  | q :: s, j + 1, m, t, h => by
    have := updS_succ (f := f) (s := s) (j := j) (m := m) (t := t) (by simpa using h)
    unfold updS at this ⊢
    simp only [List.take_succ_cons, List.map_cons, List.drop_succ_cons, List.cons_append, List.set_cons_succ, this]

theorem upd_step {lo : Nat} {X : Nat → Prop} {w wr w2 : World} {s : Sb} {g cap n : Nat} {xs : List Value} {j : Nat} {m : Int} {u t : Tm} {a : Value} (h : OwnS lo (Ex X w wr (.slice (some ⟨g, 0, none⟩) n cap)) wr s (.slice (some ⟨g, 0, none⟩) n cap) xs) (hn : n = s.length) (hw : w.heap.size ≤ wr.heap.size) (hj : s[j]? = some (m, u))
    (hb : Below wr.heap.size wr w2) (hO : SB (fun q => wr.heap.size ≤ q ∧ q < w2.heap.size) w2 t.2 a) :
    OwnS lo (Ex X w (set3 w2 g (j * 4 + 1) (.bool t.1.1) (.int .i64 t.1.2) a) (.slice (some ⟨g, 0, none⟩) n cap)) (set3 w2 g (j * 4 + 1) (.bool t.1.1) (.int .i64 t.1.2) a) (s.set j (m, t)) (.slice (some ⟨g, 0, none⟩) n cap) (lset3 xs (j * 4 + 1) (.bool t.1.1) (.int .i64 t.1.2) a) ∧
    Fr wr (set3 w2 g (j * 4 + 1) (.bool t.1.1) (.int .i64 t.1.2) a) (some g) none := by
  subst hn
  have hs := hb.size
  have hg : g < wr.heap.size := (owns_at h.row g rfl).2
  have hX : ∀ q, Ex X w wr (.slice (some ⟨g, 0, none⟩) s.length cap) q → q < wr.heap.size ∧ q ≠ g := fun q hq => ⟨(h.off q hq).1, fun e => (h.off q hq).2 (by rw [e]; rfl)⟩
  have hsub : ∀ q, Ex X w wr (.slice (some ⟨g, 0, none⟩) s.length cap) q → Ex X w (set3 w2 g (j * 4 + 1) (.bool t.1.1) (.int .i64 t.1.2) a) (.slice (some ⟨g, 0, none⟩) s.length cap) q := fun q hq => by
    rcases hq with hq | hq
    · exact .inl hq
    · exact .inr ⟨hq.1, by rw [set3_size]; omega, hq.2.2⟩
  refine ⟨⟨?_, ?_, fun q hq => ?_⟩, ?_⟩
  · have := set3_row (o := j * 4 + 1) (x := .bool t.1.1) (y := .int .i64 t.1.2) (z := a) (owns_keep h.row (fun q hq => hb.block q (owns_at h.row q hq).2))
    simpa using this
  · refine PC.upd (u := u) ?_ ?_ hj
    · refine hO.frame (fun q hq => .inr ⟨by omega, by rw [set3_size]; exact hq.2, fun e => ?_⟩) (fun q i hq => World.cell?_of_block (set3_heap (by show q ≠ g; omega)))
      simp [Value.ownBlock] at e
      omega
    · refine h.cells.frame hsub (fun q i hq => World.cell?_of_block ?_)
      have := hX q hq
      rw [set3_heap this.2, hb.block q this.1]
  · rcases hq with hq | hq
    · have := hX q (.inl hq)
      refine ⟨by rw [set3_size]; omega, fun e => ?_⟩
      simp [Value.ownBlock] at e
      exact this.2 e
    · exact hq.2
  · have hb' : Below g wr (set3 w2 g (j * 4 + 1) (.bool t.1.1) (.int .i64 t.1.2) a) := set3_below (hb.mono (Nat.le_of_lt hg)) (Nat.le_refl _)
    refine ⟨hb'.os, hb'.tape, hb'.output, by rw [set3_size]; exact hs, fun q hq e1 _ => ?_⟩
    have hqg : q ≠ g := fun e => e1 (by rw [e])
    rw [set3_heap hqg, hb.block q hq]

/-- One binding more, whose term was there. -/
theorem own_snoc2 {lo : Nat} {X : Nat → Prop} {w w3 : World} {s : Sb} {v : Value} {xs : List Value} {n : Int} {t : Tm} {a : Value} {ob : Obj} {g cap : Nat} (h : OwnS lo X w s v xs) (hO : SB X w t.2 a)
    (ho : w3.ownsRow lo 42 4 (.slice (some ⟨g, 0, none⟩) (s.length + 1) cap) (s.length + 1) (xs ++ [.int .i64 n, .bool t.1.1, .int .i64 t.1.2, a])) (hg : (w.alloc ob).grownBy w3 v.ownBlock) (hat : v.ownBlock = some g ∨ g = w.heap.size + 1) (hlt : g < w3.heap.size) :
    OwnS lo (Ex X w w3 (.slice (some ⟨g, 0, none⟩) (s.length + 1) cap)) w3 (s ++ [(n, t)]) (.slice (some ⟨g, 0, none⟩) (s.length + 1) cap) (xs ++ [.int .i64 n, .bool t.1.1, .int .i64 t.1.2, a]) ∧
    Fr w w3 v.ownBlock none ∧ Mv w v (.slice (some ⟨g, 0, none⟩) (s.length + 1) cap) := by
  have hs3 := hg.size
  simp at hs3
  have far : ∀ q, q < w.heap.size → some q ≠ v.ownBlock → w3.heap[q]? = w.heap[q]? := fun q hq hn => by
    rw [hg.block q (by simp; omega) hn, Below.heap_alloc _ _ _ hq]
  have off : ∀ q, Ex X w w3 (.slice (some ⟨g, 0, none⟩) (s.length + 1) cap) q → q < w3.heap.size ∧ some q ≠ (Value.slice (some ⟨g, 0, none⟩) (s.length + 1) cap).ownBlock := fun q hq => by
    rcases hq with hq | hq
    · have h1 := h.off q hq
      refine ⟨by omega, fun e => ?_⟩
      simp [Value.ownBlock] at e
      subst e
      rcases hat with e | e
      · exact h1.2 e.symm
      · omega
    · exact hq.2
  refine ⟨⟨by simpa using ho, ?_, off⟩, ?_, ?_⟩
  · refine PC.append (PC.one ?_) ?_
    · exact hO.frame (fun q hq => .inl hq) (fun q i hq => World.cell?_of_block (far q (h.off q hq).1 (h.off q hq).2))
    · exact h.cells.frame (fun q hq => .inl hq) (fun q i hq => World.cell?_of_block (far q (h.off q hq).1 (h.off q hq).2))
  · exact ⟨hg.os, hg.tape, hg.output, by omega, fun q hq hn _ => far q hq hn⟩
  · rcases hat with e | e
    · exact .inl e.symm
    · refine .inr fun q hq => ?_
      simp [Value.ownBlock] at hq
      omega

def AddPost (lo : Nat) (X : Nat → Prop) (w : World) (s : Sb) (vs : Value) (n : Int) (t : Tm) (e : Ending) (w' : World) : Prop :=
  Fr w w' vs.ownBlock none ∧ ∃ (z1 : Option Addr) (m z3 : Nat) (ok : Bool), e = .returned (.tuple #[.slice z1 m z3, .bool ok]) ∧ (ok = false → addS s n t = none) ∧
    (ok = true → ∃ s' xs', addS s n t = some s' ∧ m = s'.length ∧ OwnS lo (Ex X w w' (.slice z1 m z3)) w' s' (.slice z1 m z3) xs' ∧ Mv w vs (.slice z1 m z3))

end Go.Proofs.Ytdaebldfmchclab

/- Couples of terms in a row of the call's own; the arguments' couples: bind's addArgs. -/
namespace Go.Proofs.Ytdaebldfmchclab
open Go.RowKit Go.Deep Go.ChangeShapes Go.WideShapes
attribute [local go_sem ↓] Go.wp_at_zero Go.wp_at_succ

/-- The cells of couples, six each. -/
def CC (X : Nat → Prop) (w : World) : List (Tm × Tm) → List Value → Prop
  | [], xs => xs = []
  | p :: s, xs => ∃ a b ys, xs = .bool p.1.1.1 :: .int .i64 p.1.1.2 :: a :: .bool p.2.1.1 :: .int .i64 p.2.1.2 :: b :: ys ∧ SB X w p.1.2 a ∧ SB X w p.2.2 b ∧ CC X w s ys

theorem CC.frame {X Y : Nat → Prop} {w w' : World} (hXY : ∀ q, X q → Y q) (hr : ∀ q i, X q → w'.cell? ⟨q, i, none⟩ = w.cell? ⟨q, i, none⟩) : ∀ {s : List (Tm × Tm)} {xs : List Value}, CC X w s xs → CC Y w' s xs
  | [], _, h => h
  | _ :: _, _, ⟨a, b, ys, h1, h2, h3, h4⟩ => ⟨a, b, ys, h1, h2.frame hXY hr, h3.frame hXY hr, CC.frame hXY hr h4⟩
theorem CC.append {X : Nat → Prop} {w : World} {s' : List (Tm × Tm)} {ys : List Value} (h' : CC X w s' ys) : ∀ {s : List (Tm × Tm)} {xs : List Value}, CC X w s xs → CC X w (s ++ s') (xs ++ ys)
  | [], _, h => by rw [CC] at h; subst h; exact h'
  | _ :: _, _, ⟨a, b, zs, h1, h2, h3, h4⟩ => by subst h1; exact ⟨a, b, zs ++ ys, rfl, h2, h3, CC.append h' h4⟩
theorem CC.one {X : Nat → Prop} {w : World} {p : Tm × Tm} {a b : Value} (h : SB X w p.1.2 a) (h' : SB X w p.2.2 b) : CC X w [p] [.bool p.1.1.1, .int .i64 p.1.1.2, a, .bool p.2.1.1, .int .i64 p.2.1.2, b] := ⟨a, b, [], rfl, h, h', rfl⟩
theorem CC.len {X : Nat → Prop} {w : World} : ∀ {s : List (Tm × Tm)} {xs : List Value}, CC X w s xs → xs.length = s.length * 6
  | [], _, h => by rw [CC] at h; subst h; rfl
  | _ :: _, _, ⟨a, b, ys, h1, _, _, h3⟩ => by subst h1; simp only [List.length_cons, h3.len]; omega
theorem CC.split {X : Nat → Prop} {w : World} {M : List (Tm × Tm)} : ∀ {s : List (Tm × Tm)} {xs : List Value}, CC X w (s ++ M) xs → ∃ ys zs, xs = ys ++ zs ∧ CC X w s ys ∧ CC X w M zs
  | [], xs, h => ⟨[], xs, rfl, rfl, h⟩
  | p :: s, xs, ⟨a, b, ys, h1, h2, h3, h4⟩ => by
    obtain ⟨us, zs, e, i1, i2⟩ := CC.split (s := s) h4
    subst h1 e
    exact ⟨_, zs, rfl, ⟨a, b, us, rfl, h2, h3, i1⟩, i2⟩

/-- The last so many couples, the last one first. -/
theorem zip_drop {k l : List Tm} {i : Nat} {t u : Tm} (hk : k[i]? = some t) (hl : l[i]? = some u) : ((k.zip l).drop i).reverse = ((k.zip l).drop (i + 1)).reverse ++ [(t, u)] := by
  have hz : (k.zip l)[i]? = some (t, u) := by rw [List.getElem?_zip_eq_some]; exact ⟨hk, hl⟩
  have hi : i < (k.zip l).length := by
    rcases Nat.lt_or_ge i (k.zip l).length with h | h
    · exact h
    · rw [List.getElem?_eq_none h] at hz; cases hz
  rw [List.drop_eq_getElem_cons hi, List.reverse_cons]
  rw [List.getElem?_eq_getElem hi] at hz
  rw [Option.some.inj hz]

end Go.Proofs.Ytdaebldfmchclab

/- What makes two terms the same: both rows of bind's Unify, step by step. -/
namespace Go.Proofs.Ytdaebldfmchclab
open Go.RowKit Go.Deep Go.ChangeShapes Go.WideShapes

/-- All blocks but the two rows. -/
def XX (w : World) (v1 v2 : Value) : Nat → Prop := fun q => q < w.heap.size ∧ some q ≠ v1.ownBlock ∧ some q ≠ v2.ownBlock

/-- Where a pair's term lies. -/
theorem ownS_at {lo : Nat} {X : Nat → Prop} {w : World} {s : Sb} {v : Value} {xs : List Value} (h : OwnS lo X w s v xs) : ∀ (i : Nat) (p : Int × Tm) (c b o : Nat), v = .slice (some ⟨b, o, none⟩) s.length c → s[i]? = some p → ∃ u, w.cell? ⟨b, o + i * 4 + 3, none⟩ = some u ∧ SB X w p.2.2 u := by
  intro i p c b o e hi
  subst e
  have hrow := h.row
  have hil : i < s.length := by
    rcases Nat.lt_or_ge i s.length with h' | h'
    · exact h'
    · rw [List.getElem?_eq_none h'] at hi; cases hi
  obtain ⟨_, _, _, a, d3, hS⟩ := h.cells.cellsAt hi
  rcases hrow.2 with ⟨e, _⟩ | ⟨g, cap, cur, e, _⟩
  · cases e
  · simp only [Value.slice.injEq, Option.some.injEq, Addr.mk.injEq, true_and, and_true] at e
    obtain ⟨⟨rfl, rfl⟩, rfl⟩ := e
    refine ⟨a, ?_, hS⟩
    rw [Nat.zero_add, hrow.cellAt (i * 4 + 3) (by omega)]
    exact d3

theorem nodup_len : ∀ {l m : List Int}, l.Nodup → (∀ x ∈ l, x ∈ m) → l.length ≤ m.length
  | [], _, _, _ => Nat.zero_le _
  | x :: l, m, hn, hm => by
    have hx : x ∈ m := hm x (by simp)
    rw [List.nodup_cons] at hn
    have ih := nodup_len (l := l) (m := m.erase x) hn.2 (fun y hy => (List.mem_erase_of_ne (fun (e : y = x) => hn.1 (e ▸ hy))).2 (hm y (by simp [hy])))
    rw [List.length_erase_of_mem hx] at ih
    have := List.length_pos_of_mem hx
    simp only [List.length_cons]
    omega
theorem gd_vars {t : Tm} (h : Gd t) : (varsT t.1 t.2 []).length ≤ 5 := by
  have hn : (varsT t.1 t.2 []).Nodup := by
    unfold varsT
    split
    · simp [hasB]
    · exact varsF_nodup (by simp)
  have := nodup_len (m := [0, 1, 2, 3, 4]) hn (fun x hx => by
    have := h.few x (occ_varsT.1 hx)
    have e : x = 0 ∨ x = 1 ∨ x = 2 ∨ x = 3 ∨ x = 4 := by omega
    rcases e with rfl | rfl | rfl | rfl | rfl <;> simp)
  exact this

end Go.Proofs.Ytdaebldfmchclab
