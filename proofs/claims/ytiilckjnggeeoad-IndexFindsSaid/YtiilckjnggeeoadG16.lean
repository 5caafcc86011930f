/- CX CPa CPb CRp CD CTn -/
import Derived.Test.YtiilckjnggeeoadG15
import Derived.Maps.OwnOps
import Derived.Maps.RangeWalk
import Derived.BigQuiet
namespace Go.Proofs.Ytiilckjnggeeoad
open Go.RowKit Go.Deep Go.ChangeShapes Go.WideShapes
theorem Try.info9 : (Try.prog.info? 9).map (fun i => (i.zero, i.size, i.bytes)) = some (some (.string ByteArray.empty), 1, 16) := by kernel_rfl
end Go.Proofs.Ytiilckjnggeeoad

namespace Go.Proofs.Ytiilckjnggeeoad
open Go.RowKit Go.Deep Go.ChangeShapes Go.WideShapes
theorem trim_len {p q : List UInt8} : (Lib.trimSuffix p q).length ≤ p.length := by
  unfold Lib.trimSuffix
  split
  · simp only [List.length_take]; omega
  · exact Nat.le_refl _
end Go.Proofs.Ytiilckjnggeeoad

namespace Go.Proofs.Ytiilckjnggeeoad
open Go.RowKit Go.Deep Go.ChangeShapes Go.WideShapes
theorem splitK_len : ∀ (k : Nat) (l : List UInt8), ∀ p ∈ Lib.splitK sepL 0 k l, p.length ≤ l.length := by
  intro k
  induction k with
  | zero => intro l p hp; rw [Lib.splitK] at hp; simp at hp; rw [hp]; exact Nat.le_refl _
  | succ k ih =>
    intro l p hp
    rcases index_two l with hi | ⟨i, hi, hr⟩
    · rw [splitK_miss hi] at hp; simp at hp; rw [hp]; exact Nat.le_refl _
    · rw [splitK_hit hi] at hp
      rcases List.mem_cons.1 hp with rfl | hp
      · simp only [List.length_take]; omega
      · have := ih _ p hp
        simp only [List.length_drop] at this
        omega
def ParsePost (s : List Int) (l : List UInt8) (w : World) (e : Ending) (w' : World) : Prop :=
  ∃ z1 z2 z3, e = .returned (.tuple #[.slice z1 z2 z3, .int .i64 (parseC s l).1]) ∧ CIn w' (parseC s l).2 (.slice z1 z2 z3) ∧ Below w.heap.size w w'
theorem parse_post {s : List Int} {l : List UInt8} {w w' : World} {er : Int} (h : parseC s l = (er, [])) (hb : Below w.heap.size w w') : ParsePost s l w (.returned (.tuple #[.slice none 0 0, .int .i64 er])) w' :=
  ⟨none, 0, 0, by rw [h], by rw [h]; exact CIn.nil _, hb⟩
end Go.Proofs.Ytiilckjnggeeoad

namespace Go.Proofs.Ytiilckjnggeeoad
open Go.RowKit Go.Deep Go.ChangeShapes Go.WideShapes
structure Scan (l : List UInt8) (i f : Nat) (ps : List (List UInt8)) : Prop where
  fi : f ≤ i
  il : i ≤ l.length
  all : ps ++ full (l.drop f) = full l
  no : Lib.NoOcc (l.drop f) sepL (i - f)
theorem scan_start (l : List UInt8) : Scan l 0 0 [] := ⟨Nat.le_refl _, Nat.zero_le _, by simp, Lib.NoOcc.zero _ _⟩
theorem occ_is {l : List UInt8} {i f : Nat} (h : f ≤ i) : Lib.occAt (l.drop f) sepL (i - f) = decide ((l.drop i).take 3 = sepL) := by
  unfold Lib.occAt
  rw [List.drop_drop, show f + (i - f) = i by omega, Bool.eq_iff_iff, List.isPrefixOf_iff_prefix, decide_eq_true_eq, List.prefix_iff_eq_take]
  exact ⟨fun h => h.symm, fun h => h.symm⟩
theorem Scan.miss {l : List UInt8} {i f : Nat} {ps : List (List UInt8)} (h : Scan l i f ps) (hi : i + 3 ≤ l.length) (hn : (l.drop i).take 3 ≠ sepL) : Scan l (i + 1) f ps := by
  refine ⟨by have := h.fi; omega, by omega, h.all, ?_⟩
  rw [show i + 1 - f = i - f + 1 by have := h.fi; omega]
  exact h.no.succ (by rw [occ_is h.fi]; simpa using hn)
theorem Scan.hit {l : List UInt8} {i f : Nat} {ps : List (List UInt8)} (h : Scan l i f ps) (hi : i + 3 ≤ l.length) (hn : (l.drop i).take 3 = sepL) : Scan l (i + 3) (i + 3) (ps ++ [(l.drop f).take (i - f)]) := by
  have hf := h.fi
  refine ⟨Nat.le_refl _, hi, ?_, by rw [Nat.sub_self]; exact Lib.NoOcc.zero _ _⟩
  have hx : Lib.index (l.drop f) sepL = ((i - f : Nat) : Int) := Lib.index_hit h.no (by simp only [List.length_drop]; omega) (by rw [occ_is hf]; simpa using hn)
  have := full_hit hx (by simp only [List.length_drop]; omega)
  rw [List.drop_drop, show f + (i - f + 3) = i + 3 by omega] at this
  rw [← h.all, this]
  simp
theorem Scan.last {l : List UInt8} {i f : Nat} {ps : List (List UInt8)} (h : Scan l i f ps) (hi : ¬ i + 3 ≤ l.length) : ps ++ [l.drop f] = full l := by
  have hf := h.fi
  have hx : Lib.index (l.drop f) sepL = -1 := Lib.index_past (by simp) h.no (by simp only [List.length_drop]; simp; omega)
  rw [← h.all, full_miss hx]
theorem index_one {p : List UInt8} {k : Nat} (hk : k ≤ p.length) (hno : ∀ q, q < k → p[q]? ≠ some 61) : (k = p.length → Lib.index p [61] = -1) ∧ (p[k]? = some 61 → Lib.index p [61] = (k : Int)) := by
  have occ : ∀ j, Lib.occAt p [61] j = decide (p[j]? = some 61) := fun j => by
    unfold Lib.occAt
    cases hd : p.drop j with
    | nil =>
      have : p.length ≤ j := by rw [List.drop_eq_nil_iff] at hd; exact hd
      rw [List.getElem?_eq_none this]; rfl
    | cons b r =>
      have : p[j]? = some b := by
        have h2 : (p.drop j)[0]? = some b := by rw [hd]; rfl
        rw [List.getElem?_drop] at h2
        simpa using h2
      rw [this, Bool.eq_iff_iff]
      simp only [List.isPrefixOf, Bool.and_true, beq_iff_eq, decide_eq_true_eq, Option.some.injEq]
      exact ⟨Eq.symm, Eq.symm⟩
  have no : Lib.NoOcc p [61] k := fun j hj => by rw [occ]; simpa using hno j hj
  refine ⟨fun e => Lib.index_past (by simp) no (by simp; omega), fun h => Lib.index_hit no hk (by rw [occ]; simpa using h)⟩
theorem cut_miss {p : List UInt8} (h : Lib.index p [61] = -1) : (Lib.cut p [61]).2.2 = false := by
  unfold Lib.cut
  rw [h]; rfl
theorem cut_hit {p : List UInt8} {k : Nat} (h : Lib.index p [61] = (k : Int)) : Lib.cut p [61] = (p.take k, p.drop (k + 1), true) := by
  unfold Lib.cut
  rw [h, if_pos (by omega)]
  simp
theorem suffix_is {q : List UInt8} : Lib.hasSuffix q [33] = decide (0 < q.length ∧ q[q.length - 1]? = some 33) := by
  unfold Lib.hasSuffix
  rw [Bool.eq_iff_iff, List.isSuffixOf_iff_suffix, decide_eq_true_eq]
  constructor
  · rintro ⟨t, rfl⟩
    simp
  · rintro ⟨h0, h⟩
    refine ⟨q.take (q.length - 1), ?_⟩
    have h2 : q.drop (q.length - 1) = [33] := by
      rw [List.drop_eq_getElem_cons (by omega)]
      rw [List.getElem?_eq_getElem (by omega)] at h
      simp at h
      rw [h, show q.length - 1 + 1 = q.length by omega, List.drop_length]
    rw [← h2, List.take_append_drop]
theorem trim_is {q : List UInt8} : Lib.trimSuffix q [33] = if Lib.hasSuffix q [33] then q.take (q.length - 1) else q := rfl
end Go.Proofs.Ytiilckjnggeeoad

namespace Go.Proofs.Ytiilckjnggeeoad
open Go.RowKit Go.Deep Go.ChangeShapes Go.WideShapes
structure LBox (w : World) (b : Nat) (l : Lt) (a d : Value) : Prop where
  c0 : w.cell? ⟨b, 0, none⟩ = some (.bool l.1)
  c1 : w.cell? ⟨b, 1, none⟩ = some (.bool l.2.1.1.1)
  c2 : w.cell? ⟨b, 2, none⟩ = some (.int .i64 l.2.1.1.2)
  c3 : w.cell? ⟨b, 3, none⟩ = some a
  c4 : w.cell? ⟨b, 4, none⟩ = some (.bool l.2.2.1.1)
  c5 : w.cell? ⟨b, 5, none⟩ = some (.int .i64 l.2.2.1.2)
  c6 : w.cell? ⟨b, 6, none⟩ = some d
  sa : SIn w l.2.1.2 a
  sd : SIn w l.2.2.2 d
theorem LBox.below {w w' : World} (hb : Below w.heap.size w w') {b : Nat} {l : Lt} {a d : Value} (h : LBox w b l a d) : LBox w' b l a d :=
  ⟨grow_cell hb _ _ h.c0, grow_cell hb _ _ h.c1, grow_cell hb _ _ h.c2, grow_cell hb _ _ h.c3, grow_cell hb _ _ h.c4, grow_cell hb _ _ h.c5, grow_cell hb _ _ h.c6, h.sa.below hb, h.sd.below hb⟩
end Go.Proofs.Ytiilckjnggeeoad

namespace Go.Proofs.Ytiilckjnggeeoad
open Go.RowKit Go.Deep Go.ChangeShapes Go.WideShapes
theorem cs_lit {w : World} {l : Lt} {a1 d1 : Option Addr} {a2 a3 d2 d3 : Nat} : Cs (w.alloc (.cells #[.bool l.1, .bool l.2.1.1.1, .int .i64 l.2.1.1.2, .slice a1 a2 a3, .bool l.2.2.1.1, .int .i64 l.2.2.1.2, .slice d1 d2 d3] 35)) (.slice (some ⟨w.heap.size, 0, none⟩) 1 1) 1 7 (litV l (.slice a1 a2 a3) (.slice d1 d2 d3)) :=
  ⟨_, 1, rfl, rfl, by simp [Value.oneCell'], fun e => by (cases e), fun ad hh j u hj => by cases hh; exact World.news_of_block (cs := #[.bool l.1, .bool l.2.1.1.1, .int .i64 l.2.1.1.2, .slice a1 a2 a3, .bool l.2.2.1.1, .int .i64 l.2.2.1.2, .slice d1 d2 d3]) (heap_alloc_new w _) j u hj⟩
end Go.Proofs.Ytiilckjnggeeoad
