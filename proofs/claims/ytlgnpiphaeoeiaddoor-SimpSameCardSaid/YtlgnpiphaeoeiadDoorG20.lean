/- CX CPa CPb CRp CRt CA -/
import Derived.Test.YtlgnpiphaeoeiadDoorG19
import Derived.Deep.RegionHeld3
namespace Go.Proofs.YtlgnpiphaeoeiadDoor
open Go.RowKit Go.Deep Go.ChangeShapes Go.WideShapes
theorem Tryd.info9 : (Tryd.prog.info? 9).map (fun i => (i.zero, i.size, i.bytes)) = some (some (.string ByteArray.empty), 1, 16) := by kernel_rfl
def TxT (t : Tm) : Prop := (0 ≤ t.1.2 ∧ t.1.2 ≤ (if t.1.1 then 4 else 100)) ∧ Fo.texts t.2 ∧ (textT t.1 t.2).length ≤ 1000
end Go.Proofs.YtlgnpiphaeoeiadDoor

namespace Go.Proofs.YtlgnpiphaeoeiadDoor
open Go.RowKit Go.Deep Go.ChangeShapes Go.WideShapes
theorem trim_len {p q : List UInt8} : (Lib.trimSuffix p q).length ≤ p.length := by
  unfold Lib.trimSuffix
  split
  · simp only [List.length_take]; omega
  · exact Nat.le_refl _
end Go.Proofs.YtlgnpiphaeoeiadDoor

namespace Go.Proofs.YtlgnpiphaeoeiadDoor
open Go.RowKit Go.Deep Go.ChangeShapes Go.WideShapes
theorem splitK_len : ∀ (k : Nat) (l : List UInt8), ∀ p ∈ Lib.splitK sepL 0 k l, p.length ≤ l.length := by
  intro k
  induction k with
  | zero => intro l p hp; rw [Lib.splitK] at hp; simp at hp; rw [hp]; exact Nat.le_refl _
  | succ k ih =>
    intro l p hp
    rcases index_two l with hi | ⟨i, hi, hr⟩
    · rw [splitK_miss hi] at hp; simp at hp; rw [hp]; exact Nat.le_refl _
    · rw [splitK_hit hi] at hp
      rcases List.mem_cons.1 hp with rfl | hp
      · simp only [List.length_take]; omega
      · have := ih _ p hp
        simp only [List.length_drop] at this
        omega
def ParsePost (s : List Int) (l : List UInt8) (w : World) (e : Ending) (w' : World) : Prop :=
  ∃ z1 z2 z3, e = .returned (.tuple #[.slice z1 z2 z3, .int .i64 (parseC s l).1]) ∧ CIn w' (parseC s l).2 (.slice z1 z2 z3) ∧ Below w.heap.size w w'
theorem parse_post {s : List Int} {l : List UInt8} {w w' : World} {er : Int} (h : parseC s l = (er, [])) (hb : Below w.heap.size w w') : ParsePost s l w (.returned (.tuple #[.slice none 0 0, .int .i64 er])) w' :=
  ⟨none, 0, 0, by rw [h], by rw [h]; exact CIn.nil _, hb⟩
end Go.Proofs.YtlgnpiphaeoeiadDoor

namespace Go.Proofs.YtlgnpiphaeoeiadDoor
open Go.RowKit Go.Deep Go.ChangeShapes Go.WideShapes
structure Scan (l : List UInt8) (i f : Nat) (ps : List (List UInt8)) : Prop where
  fi : f ≤ i
  il : i ≤ l.length
  all : ps ++ full (l.drop f) = full l
  no : Lib.NoOcc (l.drop f) sepL (i - f)
theorem scan_start (l : List UInt8) : Scan l 0 0 [] := ⟨Nat.le_refl _, Nat.zero_le _, by simp, Lib.NoOcc.zero _ _⟩
theorem occ_is {l : List UInt8} {i f : Nat} (h : f ≤ i) : Lib.occAt (l.drop f) sepL (i - f) = decide ((l.drop i).take 3 = sepL) := by
  unfold Lib.occAt
  rw [List.drop_drop, show f + (i - f) = i by omega, Bool.eq_iff_iff, List.isPrefixOf_iff_prefix, decide_eq_true_eq, List.prefix_iff_eq_take]
  exact ⟨fun h => h.symm, fun h => h.symm⟩
theorem Scan.miss {l : List UInt8} {i f : Nat} {ps : List (List UInt8)} (h : Scan l i f ps) (hi : i + 3 ≤ l.length) (hn : (l.drop i).take 3 ≠ sepL) : Scan l (i + 1) f ps := by
  refine ⟨by have := h.fi; omega, by omega, h.all, ?_⟩
  rw [show i + 1 - f = i - f + 1 by have := h.fi; omega]
  exact h.no.succ (by rw [occ_is h.fi]; simpa using hn)
theorem Scan.hit {l : List UInt8} {i f : Nat} {ps : List (List UInt8)} (h : Scan l i f ps) (hi : i + 3 ≤ l.length) (hn : (l.drop i).take 3 = sepL) : Scan l (i + 3) (i + 3) (ps ++ [(l.drop f).take (i - f)]) := by
  have hf := h.fi
  refine ⟨Nat.le_refl _, hi, ?_, by rw [Nat.sub_self]; exact Lib.NoOcc.zero _ _⟩
  have hx : Lib.index (l.drop f) sepL = ((i - f : Nat) : Int) := Lib.index_hit h.no (by simp only [List.length_drop]; omega) (by rw [occ_is hf]; simpa using hn)
  have := full_hit hx (by simp only [List.length_drop]; omega)
  rw [List.drop_drop, show f + (i - f + 3) = i + 3 by omega] at this
  rw [← h.all, this]
  simp
theorem Scan.last {l : List UInt8} {i f : Nat} {ps : List (List UInt8)} (h : Scan l i f ps) (hi : ¬ i + 3 ≤ l.length) : ps ++ [l.drop f] = full l := by
  have hf := h.fi
  have hx : Lib.index (l.drop f) sepL = -1 := Lib.index_past (by simp) h.no (by simp only [List.length_drop]; simp; omega)
  rw [← h.all, full_miss hx]
theorem index_one {p : List UInt8} {k : Nat} (hk : k ≤ p.length) (hno : ∀ q, q < k → p[q]? ≠ some 61) : (k = p.length → Lib.index p [61] = -1) ∧ (p[k]? = some 61 → Lib.index p [61] = (k : Int)) := by
  have occ : ∀ j, Lib.occAt p [61] j = decide (p[j]? = some 61) := fun j => by
    unfold Lib.occAt
    cases hd : p.drop j with
    | nil =>
      have : p.length ≤ j := by rw [List.drop_eq_nil_iff] at hd; exact hd
      rw [List.getElem?_eq_none this]; rfl
    | cons b r =>
      have : p[j]? = some b := by
        have h2 : (p.drop j)[0]? = some b := by rw [hd]; rfl
        rw [List.getElem?_drop] at h2
        simpa using h2
      rw [this, Bool.eq_iff_iff]
      simp only [List.isPrefixOf, Bool.and_true, beq_iff_eq, decide_eq_true_eq, Option.some.injEq]
      exact ⟨Eq.symm, Eq.symm⟩
  have no : Lib.NoOcc p [61] k := fun j hj => by rw [occ]; simpa using hno j hj
  refine ⟨fun e => Lib.index_past (by simp) no (by simp; omega), fun h => Lib.index_hit no hk (by rw [occ]; simpa using h)⟩
theorem cut_miss {p : List UInt8} (h : Lib.index p [61] = -1) : (Lib.cut p [61]).2.2 = false := by
  unfold Lib.cut
  rw [h]; rfl
theorem cut_hit {p : List UInt8} {k : Nat} (h : Lib.index p [61] = (k : Int)) : Lib.cut p [61] = (p.take k, p.drop (k + 1), true) := by
  unfold Lib.cut
  rw [h, if_pos (by omega)]
  simp
theorem suffix_is {q : List UInt8} : Lib.hasSuffix q [33] = decide (0 < q.length ∧ q[q.length - 1]? = some 33) := by
  unfold Lib.hasSuffix
  rw [Bool.eq_iff_iff, List.isSuffixOf_iff_suffix, decide_eq_true_eq]
  constructor
  · rintro ⟨t, rfl⟩
    simp
  · rintro ⟨h0, h⟩
    refine ⟨q.take (q.length - 1), ?_⟩
    have h2 : q.drop (q.length - 1) = [33] := by
      rw [List.drop_eq_getElem_cons (by omega)]
      rw [List.getElem?_eq_getElem (by omega)] at h
      simp at h
      rw [h, show q.length - 1 + 1 = q.length by omega, List.drop_length]
    rw [← h2, List.take_append_drop]
theorem trim_is {q : List UInt8} : Lib.trimSuffix q [33] = if Lib.hasSuffix q [33] then q.take (q.length - 1) else q := rfl
end Go.Proofs.YtlgnpiphaeoeiadDoor

namespace Go.Proofs.YtlgnpiphaeoeiadDoor
open Go.RowKit Go.Deep Go.ChangeShapes Go.WideShapes
def SplRel (w : World) (l : List UInt8) (a b : Nat) (v : Value) (wr : World) : Prop :=
  ∃ Ps : List ByteArray, Scan l a b (Ps.map (·.data.toList)) ∧ wr.ownsRow w.heap.size 9 1 v Ps.length (Ps.map Value.string) ∧ Below w.heap.size w wr ∧ ∃ z1 z3, v = .slice z1 Ps.length z3
theorem spl_start (w : World) (l : List UInt8) : SplRel w l 0 0 (.slice none 0 0) w := ⟨[], scan_start l, World.ownsRow_nil _ _ _ _, Below.refl _ _, none, 0, rfl⟩
theorem cs_str {w : World} {X : ByteArray} : Cs (w.alloc (.cells #[.string X] 9)) (.slice (some ⟨w.heap.size, 0, none⟩) 1 1) 1 1 [.string X] :=
  ⟨_, 1, rfl, rfl, by simp [Value.oneCell'], fun e => by (cases e), fun ad hh j u hj => by cases hh; exact World.news_of_block (cs := #[.string X]) (heap_alloc_new w _) j u hj⟩
theorem own_slice {w : World} {lo e : Nat} {v : Value} {n : Nat} {xs : List Value} (h : w.ownsRow lo e 1 v n xs) : ∃ z1 z3, v = .slice z1 n z3 := by
  rcases h.2 with ⟨rfl, h0⟩ | ⟨g, cap, cur, rfl, _⟩
  · exact ⟨none, 0, by rw [h0]⟩
  · exact ⟨_, _, rfl⟩
theorem grown_below {w w3 w4 : World} {lo : Nat} {v : Value} {e n : Nat} {xs : List Value} (h : w.ownsRow lo e 1 v n xs) (hb : Below w.heap.size w w3) (hlo : lo ≤ w.heap.size) (hg : w3.grownBy w4 v.ownBlock) : Below lo w w4 := by
  have hs := hb.size
  refine ⟨hg.os.trans hb.os, hg.tape.trans hb.tape, hg.output.trans hb.output, by have := hg.size; omega, fun q hq => ?_⟩
  rw [hg.block q (by omega) (fun e => by have := (owns_at h q e.symm).1; omega), hb.block q (by omega)]
def RLRel (W2 : World) (s : List Int) (ps : List (List UInt8)) (j : Nat) (v : Value) (wr : World) : Prop :=
  ∃ (out : Cl) (xs : List Value), out = (ps.take j).map (fun p => (litP s p).2) ∧ (∀ q, q < j → ∀ a, ps[q]? = some a → (litP s a).1 = 0) ∧ OwnL W2.heap.size (XO wr v) wr out v xs ∧ Below W2.heap.size W2 wr ∧ ∃ z1 z3, v = .slice z1 out.length z3
theorem rl_start (W2 : World) (s : List Int) (ps : List (List UInt8)) : RLRel W2 s ps 0 (.slice none 0 0) W2 :=
  ⟨[], [], by simp, fun q hq => by omega, ownL_nil _ _, Below.refl _ _, none, 0, rfl⟩
theorem parseR_call {s : List Int} {sv : Value} {l : List UInt8} {A : ByteArray} {wn : World} {er : Int} {t : Tm} (hA : A.data.toList = l) (hN : NIn wn s sv) (hl : l.length ≤ maxLen) (hp : parseT s l = (er, t)) (w' : World) (hb : Below wn.heap.size wn w') :
    Calls Tryd.prog 54 #[sv, .string A] w' fun e w'' => ∃ z1 z2 z3, e = .returned (.tuple #[.agg #[.bool t.1.1, .int .i64 t.1.2, .slice z1 z2 z3], .int .i64 er]) ∧ SB (New w' w'') w'' t.2 (.slice z1 z2 z3) ∧ Below w'.heap.size w' w'' := by
  rw [byte_eq hA]
  refine (parseR_new s sv l w' (hN.below hb) hl).mono ?_
  rintro e w2 ⟨a, rfl, hS, hb2⟩
  rw [hp] at hS ⊢
  obtain ⟨z1, z2, z3, rfl⟩ := slice_of_sin hS.toS
  exact ⟨z1, z2, z3, rfl, hS, hb2⟩
structure ZBox (w : World) (b : Nat) (neg : Bool) : Prop where
  c0 : w.cell? ⟨b, 0, none⟩ = some (.bool neg)
  c1 : w.cell? ⟨b, 1, none⟩ = some (.bool false)
  c2 : w.cell? ⟨b, 2, none⟩ = some (.int .i64 0)
  c3 : w.cell? ⟨b, 3, none⟩ = some (.slice none 0 0)
  c4 : w.cell? ⟨b, 4, none⟩ = some (.bool false)
  c5 : w.cell? ⟨b, 5, none⟩ = some (.int .i64 0)
  c6 : w.cell? ⟨b, 6, none⟩ = some (.slice none 0 0)
  fz : ∀ i, w.frozen? ⟨b, i, none⟩ = false
  lt : b < w.heap.size
theorem ZBox.below {w w' : World} (hb : Below w.heap.size w w') {b : Nat} {neg : Bool} (h : ZBox w b neg) : ZBox w' b neg :=
  ⟨grow_cell hb _ _ h.c0, grow_cell hb _ _ h.c1, grow_cell hb _ _ h.c2, grow_cell hb _ _ h.c3, grow_cell hb _ _ h.c4, grow_cell hb _ _ h.c5, grow_cell hb _ _ h.c6, fun i => (hb.frozen h.lt).trans (h.fz i), Nat.lt_of_lt_of_le h.lt hb.size⟩
theorem zbox_new (w : World) (neg : Bool) : ZBox (w.alloc (.cells #[.bool neg, .bool false, .int .i64 0, .slice none 0 0, .bool false, .int .i64 0, .slice none 0 0] 39)) w.heap.size neg := by
  obtain ⟨g0, g1, g2, g3, g4, g5, g6, gf, _, hlt⟩ := lit_cells (T := 39) (x0 := .bool neg) (w := w) (x1 := .bool false) (x2 := .int .i64 0) (x3 := .slice none 0 0) (x4 := .bool false) (x5 := .int .i64 0) (x6 := .slice none 0 0) (Below.refl _ _)
  exact ⟨g0, g1, g2, g3, g4, g5, g6, gf, hlt⟩
theorem ZBox.set {w : World} {b : Nat} (h : ZBox w b false) : ZBox (w.setCell ⟨b, 0, none⟩ (.bool true)).drew b true := by
  have ne : ∀ i, i ≠ 0 → (⟨b, 0, none⟩ : Addr) ≠ ⟨b, i, none⟩ := fun i hi e => by simp only [Addr.mk.injEq] at e; omega
  exact ⟨set_same h.c0, (set_other (ne 1 (by decide))).trans h.c1, (set_other (ne 2 (by decide))).trans h.c2, (set_other (ne 3 (by decide))).trans h.c3, (set_other (ne 4 (by decide))).trans h.c4, (set_other (ne 5 (by decide))).trans h.c5, (set_other (ne 6 (by decide))).trans h.c6, fun i => (by simpa using h.fz i), by simpa [World.setCell] using h.lt⟩
theorem dcell (w : World) (a : Addr) : w.drew.cell? a = w.cell? a := rfl
theorem dheap (w : World) : w.drew.heap = w.heap := rfl
theorem byte_is {P : ByteArray} {p : List UInt8} (h : P.data.toList = p) {k : Nat} (hk : k < P.size) : p[k]? = some P[k] := by
  subst h
  rw [List.getElem?_eq_getElem (by rw [← ba_size (B := P) rfl]; exact hk)]
  rfl
theorem ownL_more2 {lo : Nat} {wr w3 w4 : World} {s : Cl} {v v4 : Value} {xs : List Value} {l : Lt} {a d : Value} (h : OwnL lo (XO wr v) wr s v xs) (hb : Below wr.heap.size wr w3) (hlo : lo ≤ wr.heap.size)
    (hA : SB (fun q => wr.heap.size ≤ q ∧ q < w3.heap.size) w3 l.2.1.2 a) (hD : SB (fun q => wr.heap.size ≤ q ∧ q < w3.heap.size) w3 l.2.2.2 d)
    (ho : w4.ownsRow lo 39 7 v4 (s.length + 1) (xs ++ litV l a d)) (hg : w3.grownBy w4 v.ownBlock) (hat : v4.ownBlock = v.ownBlock ∨ v4.ownBlock = some w3.heap.size) :
    OwnL lo (XO w4 v4) w4 (s ++ [l]) v4 (xs ++ litV l a d) ∧ Below lo wr w4 := by
  have hs := hb.size
  have hs4 := hg.size
  have hv : ∀ q, v.ownBlock = some q → lo ≤ q ∧ q < wr.heap.size := fun q hq => owns_at h.row q hq
  have noq : ∀ q, q < w3.heap.size → some q ≠ v.ownBlock → q < w4.heap.size ∧ some q ≠ v4.ownBlock := fun q hq hn => by
    refine ⟨by omega, fun e => ?_⟩
    rcases hat with e' | e'
    · exact hn (e.trans e')
    · rw [e'] at e; simp at e; omega
  have ok : ∀ q, (wr.heap.size ≤ q ∧ q < w3.heap.size) → q < w3.heap.size ∧ some q ≠ v.ownBlock := fun q hq => by
    refine ⟨by omega, fun e => ?_⟩
    have := hv q e.symm
    omega
  refine ⟨⟨by simpa using ho, ?_, fun q hq => hq⟩, ⟨hg.os.trans hb.os, hg.tape.trans hb.tape, hg.output.trans hb.output, by omega, fun q hq => ?_⟩⟩
  · refine LC.append (LC.one ?_ ?_) ?_
    · exact hA.frame (fun q hq => noq q (ok q hq).1 (ok q hq).2) (fun q i hq => World.cell?_of_block (hg.block q (ok q hq).1 (ok q hq).2))
    · exact hD.frame (fun q hq => noq q (ok q hq).1 (ok q hq).2) (fun q i hq => World.cell?_of_block (hg.block q (ok q hq).1 (ok q hq).2))
    · refine h.cells.frame (fun q hq => noq q (by have := hq.1; omega) hq.2) (fun q i hq => World.cell?_of_block ?_)
      rw [hg.block q (by have := hq.1; omega) hq.2, hb.block q hq.1]
  · have hn : some q ≠ v.ownBlock := fun e => by have := hv q e.symm; omega
    rw [hg.block q (by omega) hn, hb.block q (by omega)]
set_option maxRecDepth 100000 in
set_option maxHeartbeats 3000000 in
theorem parseCR_any (s : List Int) (sv : Value) (T : ByteArray) (w : World) (hN : NIn w s sv) (hT : T.size < 4294967281) :
    Calls Tryd.prog 39 #[sv, .string T] w (ParsePost s T.data.toList w) := by
  obtain ⟨l, hl⟩ : ∃ l, T.data.toList = l := ⟨_, rfl⟩
  have hTl : T.size = l.length := ba_size hl
  have HTl := hide hTl
  have HN := hide hN
  obtain ⟨sa, sc, _, _, rfl, -, -, -, -⟩ := hN
  rw [hl]
  go_enter Tryd.func39, Tryd.ntmps39
  go_wp2_with fail
  refine (wsigR_any s _ _ HN.out).mono ?_
  rintro e w' ⟨rfl, hw'⟩
  rw [hw']
  clear hw' w'
  by_cases hw : wsig s = 0
  · have Hw := hide hw
    simp only [hw]
    clear hw
    by_cases h2 : T = ⟨#[91, 93]⟩
    · subst h2
      have Hf : Hid (parseC s l = (0, [])) := by rw [Hid, parseC, if_neg (by simp [Hw.out]), if_pos hl.symm]
      clear hl hTl
      go_wp2_with fail
      go_ret2
      exact parse_post Hf.out (Below.refl _ _)
    · have Hne : Hid (l ≠ [91, 93]) := fun e => h2 (by rw [e] at hl; exact byte_eq hl)
      have Hpc : Hid (parseC s l = partsC s (full l)) := by rw [Hid, parseC, if_neg (by simp [Hw.out]), if_neg Hne.out]
      have h2b : (T.toList == [91, 93]) = false := by rw [ByteArray.toList_eq, hl]; simpa using Hne.out
      have Hl := hide hl
      clear hl h2 hTl
      obtain ⟨i9, hi9, hy0, hy1, hy2⟩ := info_parts Tryd.info9
      obtain ⟨iL, hiL, hl0, hl1, hl2⟩ := info_parts Tryd.info39
      go_wp2_with fail
      go_loopw [7, 8, 9] (fun v fr i wr => ∃ (a b : Nat), a ≤ T.size ∧ i = .int .i64 a ∧ fr = .int .i64 b ∧ SplRel w l a b v wr) (fun _ _ i _ => T.size - (intOf i).toNat)
      case atStart => exact ⟨0, 0, Nat.zero_le _, rfl, rfl, spl_start w l⟩
      case round =>
        obtain ⟨a, b, ha, rfl, rfl, Ps, hSc, hO, hBr, z1, z3, rfl⟩ := hrel
        have HSc := hide hSc
        have HO := hide hO
        have hba : b ≤ a := hSc.fi
        have hsr := hBr.size
        have hPl : Ps.length ≤ l.length + 1 := by
          have h1 := congrArg List.length hSc.all
          have h2 := full_le l
          simp only [List.length_append, List.length_map] at h1
          omega
        have hPl' : Ps.length ≤ T.size + 1 := by rw [HTl.out]; exact hPl
        clear hSc hO hPl
        have hn1 : Ps.length + 1 ≤ maxLen := by unfold maxLen; omega
        have hn2 : (Ps.length + 1) * 16 ≤ 140737488355328 := by omega
        have hB1 : (0 : Int) ≤ (b : Int) := by omega
        have hB2 : (b : Int) ≤ (a : Int) := by omega
        have hA1 : (0 : Int) ≤ (a : Int) := by omega
        have hA2 : (a : Int) ≤ (T.size : Int) := by omega
        by_cases hlt : a + 3 ≤ T.size
        · have hlt' : (a : Int) + 3 ≤ (T.size : Int) := by omega
          have hex : (T.extract a (a + 3)).toList = (l.drop a).take 3 := by
            rw [Lib.extract_toList, Hl.out, show a + 3 - a = 3 by omega]
          by_cases hs : (l.drop a).take 3 = sepL
          · have hc : ((T.extract a (a + 3)).toList == [32, 124, 32]) = true := by rw [hex, hs]; rfl
            have Hnx := hide (HSc.out.hit (by rw [← HTl.out]; exact hlt) hs)
            have Hxd : Hid ((T.extract b a).data.toList = (l.drop b).take (a - b)) := by rw [Hid, Lib.extract_data, Hl.out]
            clear hex hs
            have hb5 : ∀ ob, Below wr.heap.size wr (wr.alloc ob) := fun ob => below_alloc _ _
            go_wp2_with (at_builtin; refine wpList_append_gen rfl (.tmp 37) (.tmp 42) 90 rfl w.heap.size 9 i9 (.string ByteArray.empty) 1 16 Tryd.underlying90 hi9 hy0 hy1 hy2 rfl (by decide) (.slice z1 Ps.length z3) Ps.length (Ps.map Value.string) rfl (owns_keep HO.out (fun g hg => (hb5 _).block g (owns_at HO.out g hg).2)) _ 1 [.string (T.extract b a)] rfl cs_str hn1 hn2 (Nat.le_trans hsr (hb5 _).size) ?_; intro v4 w4 ho4 hg4 hat4)
            have hB4 := grown_below HO.out (hb5 _) hsr hg4
            obtain ⟨r1, r3, rfl⟩ := own_slice ho4
            have HR : Hid (SplRel w l (a + 3) (a + 3) (.slice r1 (Ps.length + 1) r3) w4) := by
              refine ⟨Ps ++ [T.extract b a], ?_, ?_, hBr.trans hB4, r1, r3, by simp⟩
              · rw [List.map_append, List.map_singleton, Hxd.out]; exact Hnx.out
              · rw [List.map_append, List.length_append]; exact ho4
            clear ho4 hg4 hat4 hB4 hc
            go_wp2_with fail
            go_roundw
            case rel => exact ⟨a + 3, a + 3, hlt, by go_num, by go_num, HR.out⟩
            case measure => simp [intOf]; omega
          · have hc : ((T.extract a (a + 3)).toList == [32, 124, 32]) = false := by rw [hex]; simpa using hs
            have HR : Hid (SplRel w l (a + 1) b (.slice z1 Ps.length z3) wr) := ⟨Ps, HSc.out.miss (by rw [← HTl.out]; exact hlt) hs, HO.out, hBr, z1, z3, rfl⟩
            clear hex hs
            go_wp2_with fail
            go_roundw
            case rel => exact ⟨a + 1, b, by omega, by go_num, rfl, HR.out⟩
            case measure => simp [intOf]; omega
        · have hlt' : ¬ (a : Int) + 3 ≤ (T.size : Int) := by omega
          have hB3 : (b : Int) ≤ (T.size : Int) := by omega
          have Hls := hide (HSc.out.last (by rw [← HTl.out]; exact hlt))
          have Hxd : Hid ((T.extract b T.size).data.toList = l.drop b) := by
            rw [Hid, Lib.extract_data, Hl.out, List.take_of_length_le (by rw [List.length_drop, HTl.out]; exact Nat.le_refl _)]
          have hb5 : ∀ ob, Below wr.heap.size wr (wr.alloc ob) := fun ob => below_alloc _ _
          go_upto_region 16 with (at_builtin; refine wpList_append_gen rfl (.tmp 49) (.tmp 53) 90 rfl w.heap.size 9 i9 (.string ByteArray.empty) 1 16 Tryd.underlying90 hi9 hy0 hy1 hy2 rfl (by decide) (.slice z1 Ps.length z3) Ps.length (Ps.map Value.string) rfl (owns_keep HO.out (fun g hg => (hb5 _).block g (owns_at HO.out g hg).2)) _ 1 [.string (T.extract b T.size)] rfl cs_str hn1 hn2 (Nat.le_trans hsr (hb5 _).size) ?_; intro v4 w4 ho4 hg4 hat4; obtain ⟨r1, r3, rfl⟩ := own_slice ho4)
          have hB4 := hBr.trans (grown_below HO.out (hb5 _) hsr hg4)
          obtain ⟨Qs, hQs⟩ : ∃ Qs, Qs = Ps ++ [T.extract b T.size] := ⟨_, rfl⟩
          have hQl : Qs.length = Ps.length + 1 := by rw [hQs]; simp
          have HQd : Hid (Qs.map (·.data.toList) = full l) := by rw [hQs, List.map_append, List.map_singleton, Hxd.out]; exact Hls.out
          have ho5 : w4.ownsRow w.heap.size 9 1 (.slice r1 (Ps.length + 1) r3) Qs.length (Qs.map Value.string) := by rw [hQl, hQs, List.map_append]; exact ho4
          rw [← hQl] at ho5 ⊢
          have HQc : Hid (∀ g, r1 = some ⟨g, 0, none⟩ → ∀ j x, Qs[j]? = some x → w4.cell? ⟨g, j, none⟩ = some (.string x)) := fun g hg j x hx => by
            have := ho5.cells (g := g) (by rw [hg]; rfl) j (.string x) (by rw [List.getElem?_map, hx]; rfl)
            rw [add_plain, Nat.zero_add] at this
            exact this
          have Hr1 : Hid (∃ g, r1 = some ⟨g, 0, none⟩) := by
            rcases ho5.2 with ⟨_, h0⟩ | ⟨g, cap, cur, he, _⟩
            · omega
            · simp only [Value.slice.injEq] at he
              exact ⟨g, he.1⟩
          have Hsm : Hid (∀ p ∈ Qs, p.size ≤ T.size) := fun p hp => by
            have h1 : p.data.toList ∈ full l := by rw [← HQd.out]; exact List.mem_map_of_mem hp
            rw [ba_size (B := p) rfl, HTl.out]
            exact splitK_len _ _ _ h1
          have hQm : (Qs.length : Int) ≤ 9223372036854775807 := by omega
          have HQl := hide hQl
          clear ho4 hg4 hat4 ho5 hQs hb5 HSc HO hQl
          by_cases h4 : 4 < Qs.length
          · have h4' : (4 : Int) < (Qs.length : Int) := by omega
            have Hf : Hid (parseC s l = (5, [])) := by rw [Hid, Hpc.out, partsC, if_pos (by rw [← HQd.out, List.length_map]; exact h4)]
            go_wp2_with fail
            go_ret2
            exact parse_post Hf.out hB4
          · have h4' : ¬ (4 : Int) < (Qs.length : Int) := by omega
            have Hpc2 : Hid (parseC s l = if litsP s (full l) ≠ 0 then (litsP s (full l), []) else (0, (full l).map fun p => (litP s p).2)) := by rw [Hid, Hpc.out, partsC, if_neg (by rw [← HQd.out, List.length_map]; exact h4)]
            go_wp2_with fail
            go_loopw [10, 60] (fun v i wx => ∃ (j : Nat), j ≤ Qs.length ∧ i = .int .i64 j ∧ RLRel w4 s (full l) j v wx) (fun _ i _ => Qs.length - (intOf i).toNat)
            case atStart => exact ⟨0, Nat.zero_le _, rfl, rl_start _ _ _⟩
            case round =>
              obtain ⟨j, hj, rfl, out, xs, hout, hno, hOw, hBx, o1, o3, rfl⟩ := hrel
              have Hout := hide hout
              have Hno := hide hno
              have HOw := hide hOw
              have hol : out.length ≤ j := by rw [hout, List.length_map, List.length_take]; omega
              have hsx := hBx.size
              have hBwx := hB4.trans (hBx.mono hB4.size)
              clear hout hno hOw
              obtain ⟨g, rfl⟩ := Hr1.out
              by_cases hlt : j < Qs.length
              · have hlt' : (j : Int) < (Qs.length : Int) := by omega
                have hj0 : (0 : Int) ≤ (j : Int) := by omega
                obtain ⟨P, hP⟩ : ∃ P, Qs[j]? = some P := ⟨Qs[j]'hlt, by simp⟩
                have hc := grow_cell hBx _ _ (HQc.out g rfl j P hP)
                have Hfl : Hid ((full l)[j]? = some P.data.toList) := by rw [Hid, ← HQd.out, List.getElem?_map, hP]; rfl
                have hPz := Hsm.out P (List.mem_of_getElem? hP)
                obtain ⟨p, hp⟩ : ∃ p, P.data.toList = p := ⟨_, rfl⟩
                have hpl : P.size = p.length := ba_size hp
                have Hp := hide hp
                have Hpl := hide hpl
                rw [hp] at Hfl
                clear hP hp hpl
                go_wp2_with fail
                go_loopw [13] (fun i wy => ∃ k : Nat, k ≤ P.size ∧ i = .int .i64 k ∧ (∀ q, q < k → p[q]? ≠ some 61) ∧ wy = wr) (fun i _ => P.size - (intOf i).toNat)
                case atStart => exact ⟨0, Nat.zero_le _, rfl, fun q hq => by omega, rfl⟩
                case round =>
                  obtain ⟨k, hk, rfl, hkn, rfl⟩ := hrel
                  have Hkn := hide hkn
                  clear hkn
                  have hk0 : (0 : Int) ≤ (k : Int) := by omega
                  by_cases hkl : k < P.size
                  · have hkl' : (k : Int) < (P.size : Int) := by omega
                    have Hbt := hide (byte_is Hp.out hkl)
                    by_cases h61 : P[k] = 61
                    · have h61b : ((P[k].toNat : Int) != 61) = false := by rw [h61]; rfl
                      have hkb : ((k : Int) == (P.size : Int)) = false := by rw [beq_eq_false_iff_ne]; omega
                      have Hcut : Hid (Lib.cut p [61] = (p.take k, p.drop (k + 1), true)) := cut_hit ((index_one (by rw [← Hpl.out]; omega) Hkn.out).2 (by rw [Hbt.out, h61]))
                      have HLit : Hid (litP s p = if (parseT s (Lib.trimSuffix (p.take k) [33])).1 ≠ 0 then ((parseT s (Lib.trimSuffix (p.take k) [33])).1, zeroLt) else
                          if (parseT s (p.drop (k + 1))).1 ≠ 0 then ((parseT s (p.drop (k + 1))).1, zeroLt) else
                          (0, (Lib.hasSuffix (p.take k) [33], (parseT s (Lib.trimSuffix (p.take k) [33])).2, (parseT s (p.drop (k + 1))).2))) := by
                        rw [Hid, litP, Hcut.out, if_neg (by simp)]
                      have Hxk : Hid ((P.extract 0 k).data.toList = p.take k) := by rw [Hid, Lib.extract_data, Hp.out]; simp
                      have hxs : (P.extract 0 k).size = k := by rw [ba_size Hxk.out, List.length_take, ← Hpl.out]; omega
                      have Hxd : Hid ((P.extract (k + 1) P.size).data.toList = p.drop (k + 1)) := by
                        rw [Hid, Lib.extract_data, Hp.out, List.take_of_length_le (by rw [List.length_drop, Hpl.out]; exact Nat.le_refl _)]
                      have hK1 : (k : Int) + 1 ≤ (P.size : Int) := by omega
                      clear h61 hc
                      go_upto_region 29 with fail
                      generalize hwa : wr.alloc (.cells #[.bool false, .bool false, .int .i64 0, .slice none 0 0, .bool false, .int .i64 0, .slice none 0 0] 39) = wa
                      have HZ : Hid (ZBox wa wr.heap.size false) := by rw [← hwa]; exact zbox_new wr false
                      have hba : Below wr.heap.size wr wa := by rw [← hwa]; exact below_alloc _ _
                      clear hwa
                      obtain ⟨neg, hneg⟩ : ∃ b, Lib.hasSuffix (p.take k) [33] = b := ⟨_, rfl⟩
                      obtain ⟨lc, hlc⟩ : ∃ b, Lib.trimSuffix (p.take k) [33] = b := ⟨_, rfl⟩
                      rw [hneg, hlc] at HLit
                      go_cut [92] (fun s92 wz => s92 = .bool neg ∧ wz = wa)
                      case first =>
                        by_cases hkz : k = 0
                        · have hk1 : ¬ 0 < k := by omega
                          have hk1' : ¬ (0 : Int) < (k : Int) := by omega
                          have hng : neg = false := by rw [← hneg, suffix_is, hkz]; rfl
                          subst hng
                          clear hkz
                          go_wp2_with fail
                          go_meet
                          case rel => exact ⟨rfl, rfl⟩
                        · have hk1 : 0 < k := by omega
                          have hk1' : (0 : Int) < (k : Int) := by omega
                          have hk2 : (0 : Int) ≤ (k : Int) - 1 := by omega
                          have hk3 : (k : Int) - 1 < (k : Int) := by omega
                          have hk4 : k - 1 < (P.extract 0 k).size := by omega
                          have Hb2 := hide (byte_is Hxk.out hk4)
                          have Hsuf : Hid (neg = decide ((P.extract 0 k)[k - 1] = 33)) := by
                            have hlen : (p.take k).length = k := by rw [List.length_take, ← Hpl.out]; omega
                            rw [Hid, ← hneg, suffix_is, hlen, Hb2.out, Bool.eq_iff_iff]
                            simp only [decide_eq_true_eq, Option.some.injEq]
                            exact ⟨fun h => h.2, fun h => ⟨hk1, h⟩⟩
                          by_cases h33 : (P.extract 0 k)[k - 1] = 33
                          · have h33b : (((P.extract 0 k)[k - 1].toNat : Int) == 33) = true := by rw [h33]; rfl
                            have hng : neg = true := by rw [Hsuf.out]; simpa using h33
                            subst hng
                            clear h33 hkz
                            go_wp2_with fail
                            go_meet
                            case rel => exact ⟨rfl, rfl⟩
                          · have h33b : (((P.extract 0 k)[k - 1].toNat : Int) == 33) = false := by
                              rw [beq_eq_false_iff_ne]
                              intro e
                              exact h33 (UInt8.toNat_inj.1 (by have : (P.extract 0 k)[k - 1].toNat = 33 := by omega
                                                               rw [this]; rfl))
                            have hng : neg = false := by rw [Hsuf.out]; simpa using h33
                            subst hng
                            clear h33 hkz
                            go_wp2_with fail
                            go_meet
                            case rel => exact ⟨rfl, rfl⟩
                      case rest =>
                       obtain ⟨rfl, rfl⟩ := hcut
                       generalize wc = wa at *
                       go_upto_if 92 with fail
                       go_cut [15] (fun s15 wz => ∃ L : ByteArray, s15 = .string L ∧ L.data.toList = lc ∧ ZBox wz wr.heap.size neg ∧ Below wr.heap.size wr wz)
                       case first =>
                        cases neg with
                        | false =>
                          have HL : Hid ((P.extract 0 k).data.toList = lc) := by rw [Hid, Hxk.out, ← hlc, trim_is, hneg]; rfl
                          go_wp2_with fail
                          go_meet
                          case rel => exact ⟨P.extract 0 k, rfl, HL.out, HZ.out, hba⟩
                        | true =>
                          have hk1 : 0 < k := by
                            rcases Nat.eq_zero_or_pos k with h | h
                            · rw [h, suffix_is] at hneg; simp at hneg
                            · exact h
                          have hk2 : (0 : Int) ≤ (k : Int) - 1 := by omega
                          have hk3 : (k : Int) - 1 ≤ (k : Int) := by omega
                          obtain ⟨z0, z1', z2', z3', z4', z5', z6', zf, zl⟩ := HZ.out
                          have HL : Hid (((P.extract 0 k).extract 0 (k - 1)).data.toList = lc) := by
                            rw [Hid, Lib.extract_data, Hxk.out, ← hlc, trim_is, hneg, if_pos rfl, List.drop_zero, List.length_take, ← Hpl.out, Nat.min_eq_left (by omega), Nat.sub_zero]
                          go_wp2_with fail
                          go_region
                          all_goals
                            go_wp2_with fail
                            go_meet
                            case rel => exact ⟨(P.extract 0 k).extract 0 (k - 1), rfl, HL.out, HZ.out.set, (hba.setCell (Nat.le_refl _) _).drew⟩
                       case rest =>
                        obtain ⟨L, rfl, hL, hZ, hbz⟩ := hcut
                        generalize wc = wz at *
                        have HZz := hide hZ
                        have HL := hide hL
                        have hBz := hBwx.trans (hbz.mono (Nat.le_trans hB4.size hsx))
                        obtain ⟨⟨er1, ⟨tv, ti⟩, tk⟩, hp1⟩ : ∃ x, parseT s lc = x := ⟨_, rfl⟩
                        obtain ⟨⟨er2, ⟨uv, ui⟩, uk⟩, hp2⟩ : ∃ x, parseT s (p.drop (k + 1)) = x := ⟨_, rfl⟩
                        have hlcl : lc.length ≤ maxLen := by
                          have h1 := trim_len (p := p.take k) (q := [33])
                          rw [hlc, List.length_take] at h1
                          have := Hpl.out
                          unfold maxLen
                          omega
                        have hldl : (p.drop (k + 1)).length ≤ maxLen := by
                          have := Hpl.out
                          rw [List.length_drop]
                          unfold maxLen
                          omega
                        have Hp1 := hide (parseR_call HL.out (HN.out.below hBz) hlcl hp1)
                        have Hp2 := hide (parseR_call Hxd.out (HN.out.below hBz) hldl hp2)
                        rw [hp1, hp2] at HLit
                        clear hp1 hp2 hlcl hldl hL hZ hneg hlc HZ hba
                        go_wp2_with fail
                        refine (Hp1.out _ (Below.refl _ _)).mono ?_
                        rintro e w5 ⟨z1, z2, z3, rfl, hS5, hb5⟩
                        have HS5 := hide hS5
                        simp only at *
                        have hB5 := below_step hBz hb5
                        clear hS5
                        generalize hw6 : w5.alloc (.cells #[.bool tv, .int .i64 ti, .slice z1 z2 z3] 37) = w6
                        have hb6 : Below w5.heap.size w5 w6 := by rw [← hw6]; exact below_alloc _ _
                        have t0 : w6.cell? ⟨w5.heap.size, 0, none⟩ = some (.bool tv) := by rw [← hw6]; exact new_cell rfl
                        have t1 : w6.cell? ⟨w5.heap.size, 1, none⟩ = some (.int .i64 ti) := by rw [← hw6]; exact new_cell rfl
                        have t2 : w6.cell? ⟨w5.heap.size, 2, none⟩ = some (.slice z1 z2 z3) := by rw [← hw6]; exact new_cell rfl
                        have hs6 : w5.heap.size < w6.heap.size := by rw [← hw6]; simp
                        have hB6 := below_step hB5 hb6
                        by_cases he : er1 = 0
                        · subst he
                          rw [if_neg (by simp)] at HLit
                          go_upto_region 34 with fail
                          try rw [hw6]
                          clear hw6
                          go_wp2_with fail
                          refine (Hp2.out _ (below_step hb5 hb6)).mono ?_
                          rintro e w7 ⟨y1, y2, y3, rfl, hS7, hb7⟩
                          have HS7 := hide hS7
                          simp only at *
                          clear hS7
                          generalize hw8 : w7.alloc (.cells #[.bool uv, .int .i64 ui, .slice y1 y2 y3] 37) = w8
                          have hb8 : Below w7.heap.size w7 w8 := by rw [← hw8]; exact below_alloc _ _
                          have x0 : w8.cell? ⟨w7.heap.size, 0, none⟩ = some (.bool uv) := by rw [← hw8]; exact new_cell rfl
                          have x1 : w8.cell? ⟨w7.heap.size, 1, none⟩ = some (.int .i64 ui) := by rw [← hw8]; exact new_cell rfl
                          have x2 : w8.cell? ⟨w7.heap.size, 2, none⟩ = some (.slice y1 y2 y3) := by rw [← hw8]; exact new_cell rfl
                          have hs8 : w7.heap.size < w8.heap.size := by rw [← hw8]; simp
                          have hb68 := below_step hb7 hb8
                          have v0 := grow_cell hb68 _ _ t0
                          have v1 := grow_cell hb68 _ _ t1
                          have v2 := grow_cell hb68 _ _ t2
                          have hb58 := below_step hb6 hb68
                          have hbz8 := below_step hb5 hb58
                          have HZ8 := hide (HZz.out.below hbz8)
                          have hB8 := below_step hB6 hb68
                          clear t0 t1 t2
                          by_cases he : er2 = 0
                          · subst he
                            rw [if_neg (by simp)] at HLit
                            go_upto_region 37 with fail
                            try rw [hw8]
                            clear hw8
                            have hlz := HZz.out.lt
                            have q5 := hb5.size
                            have q6 := hb6.size
                            have q7 := hb7.size
                            have hn5 : w5.heap.size ≠ wr.heap.size := by omega
                            have hn5' : wr.heap.size ≠ w5.heap.size := by omega
                            have hn7 : w7.heap.size ≠ wr.heap.size := by omega
                            have hn7' : wr.heap.size ≠ w7.heap.size := by omega
                            obtain ⟨g0, g1, g2, g3, g4, g5, g6, gf, gl⟩ := HZ8.out
                            go_region
                            all_goals
                              go_upto_region 38 with fail
                              generalize hw9 : ((((((w8.setCell ⟨wr.heap.size, 1, none⟩ (.bool tv)).setCell ⟨wr.heap.size, 2, none⟩ (.int .i64 ti)).setCell ⟨wr.heap.size, 3, none⟩ (.slice z1 z2 z3)).setCell ⟨wr.heap.size, 4, none⟩ (.bool uv)).setCell ⟨wr.heap.size, 5, none⟩ (.int .i64 ui)).setCell ⟨wr.heap.size, 6, none⟩ (.slice y1 y2 y3)).drew = w9
                              have e9 : w9 = (setL w8 wr.heap.size 1 [.bool tv, .int .i64 ti, .slice z1 z2 z3, .bool uv, .int .i64 ui, .slice y1 y2 y3]).drew := hw9.symm
                              have hbr8 : Below wr.heap.size wr w8 := hbz.trans (hbz8.mono (by omega))
                              have hb9 : Below wr.heap.size wr w9 := by rw [e9]; exact (setL_below (Nat.le_refl _) hbr8).drew
                              have at6 := setL_at (b := wr.heap.size) (xs := [.bool tv, .int .i64 ti, .slice z1 z2 z3, .bool uv, .int .i64 ui, .slice y1 y2 y3]) (o := 1) (w := w8) (fun i hi => by
                                simp at hi
                                rcases i with _ | _ | _ | _ | _ | _ | i
                                · exact ⟨_, g1⟩
                                · exact ⟨_, g2⟩
                                · exact ⟨_, g3⟩
                                · exact ⟨_, g4⟩
                                · exact ⟨_, g5⟩
                                · exact ⟨_, g6⟩
                                · omega)
                              have k0 : w9.cell? ⟨wr.heap.size, 0, none⟩ = some (.bool neg) := by rw [e9, dcell, setL_other (.inr (.inl (by omega)))]; exact g0
                              have k1 : w9.cell? ⟨wr.heap.size, 1, none⟩ = some (.bool tv) := by rw [e9, dcell]; exact at6 0 _ rfl
                              have k2 : w9.cell? ⟨wr.heap.size, 2, none⟩ = some (.int .i64 ti) := by rw [e9, dcell]; exact at6 1 _ rfl
                              have k3 : w9.cell? ⟨wr.heap.size, 3, none⟩ = some (.slice z1 z2 z3) := by rw [e9, dcell]; exact at6 2 _ rfl
                              have k4 : w9.cell? ⟨wr.heap.size, 4, none⟩ = some (.bool uv) := by rw [e9, dcell]; exact at6 3 _ rfl
                              have k5 : w9.cell? ⟨wr.heap.size, 5, none⟩ = some (.int .i64 ui) := by rw [e9, dcell]; exact at6 4 _ rfl
                              have k6 : w9.cell? ⟨wr.heap.size, 6, none⟩ = some (.slice y1 y2 y3) := by rw [e9, dcell]; exact at6 5 _ rfl
                              have s9 : w9.heap.size = w8.heap.size := by rw [e9, dheap, setL_size]
                              have q8 := hb8.size
                              have HA9 : Hid (SB (fun q => wr.heap.size ≤ q ∧ q < w9.heap.size) w9 tk (.slice z1 z2 z3)) := HS5.out.frame (fun q hq => ⟨by have := hq.1; omega, by have := hq.2; omega⟩) (fun q i hq => by
                                have h1 := hq.1
                                have h2 := hq.2
                                rw [e9, dcell, setL_other (.inl (by omega))]
                                exact hb58.cell h2)
                              have HD9 : Hid (SB (fun q => wr.heap.size ≤ q ∧ q < w9.heap.size) w9 uk (.slice y1 y2 y3)) := HS7.out.frame (fun q hq => ⟨by have := hq.1; omega, by have := hq.2; omega⟩) (fun q i hq => by
                                have h1 := hq.1
                                have h2 := hq.2
                                rw [e9, dcell, setL_other (.inl (by omega))]
                                exact hb8.cell h2)
                              clear s9 at6 e9 hw9 g0 g1 g2 g3 g4 g5 g6 gf
                              have hm1 : out.length + 1 ≤ maxLen := by unfold maxLen; omega
                              have hm2 : (out.length + 1) * 88 ≤ 140737488355328 := by omega
                              have hbo : ∀ ob, Below wr.heap.size wr (w9.alloc ob) := fun ob => below_step hb9 (below_alloc _ _)
                              go_wp2_with (at_builtin; refine wpList_append_gen rfl (.tmp 123) (.tmp 125) 25 rfl w4.heap.size 39 iL (.agg #[.bool false, .bool false, .int .i64 0, .slice none 0 0, .bool false, .int .i64 0, .slice none 0 0]) 7 88 Tryd.underlying25 hiL hl0 hl1 hl2 rfl (by decide) (.slice o1 out.length o3) out.length xs rfl (OwnL.below HOw.out (hbo _)).row _ 1 (litV (neg, ((tv, ti), tk), ((uv, ui), uk)) (.slice z1 z2 z3) (.slice y1 y2 y3)) rfl cs_lit hm1 hm2 (Nat.le_trans hsx (hbo _).size) ?_; intro vA wA hoA hgA hatA)
                              obtain ⟨hO4, hBA⟩ := ownL_more2 (l := (neg, ((tv, ti), tk), ((uv, ui), uk))) HOw.out (hbo _) hsx ((HA9.out.frame (fun q hq => ⟨hq.1, by simp; have := hq.2; omega⟩) (fun q i hq => (below_alloc _ _).cell hq.2))) ((HD9.out.frame (fun q hq => ⟨hq.1, by simp; have := hq.2; omega⟩) (fun q i hq => (below_alloc _ _).cell hq.2))) hoA hgA hatA
                              obtain ⟨c1, c3, rfl⟩ := slice_of_cl hO4.cl
                              have HR : Hid (RLRel w4 s (full l) (j + 1) (.slice c1 (out ++ [(neg, ((tv, ti), tk), ((uv, ui), uk))]).length c3) wA) := by
                                refine ⟨_, _, ?_, fun q hq a ha => ?_, hO4, hBx.trans hBA, c1, c3, rfl⟩
                                · rw [List.take_add_one, Hfl.out, List.map_append, ← Hout.out]
                                  simp [HLit.out]
                                · by_cases e : q = j
                                  · subst e; rw [Hfl.out] at ha; cases ha; rw [HLit.out]
                                  · exact Hno.out q (by omega) a ha
                              clear hO4 hoA hgA hatA hBA
                              go_wp2_with fail
                              go_roundw
                              case rel => exact ⟨j + 1, by omega, by go_num, HR.out⟩
                              case measure => simp [intOf]; omega
                          · rw [if_pos he] at HLit
                            have heb : (er2 != 0) = true := by simp [he]
                            have Hf : Hid (parseC s l = (er2, [])) := by
                              have h1 := litsP_at Hno.out Hfl.out (by rw [HLit.out]; exact he)
                              rw [HLit.out] at h1
                              rw [Hid, Hpc2.out, h1, if_pos he]
                            clear he
                            go_upto_region 35 with fail
                            try rw [hw8]
                            clear hw8
                            go_wp2_with fail
                            go_ret2
                            exact parse_post Hf.out hB8
                        · rw [if_pos he] at HLit
                          have heb : (er1 != 0) = true := by simp [he]
                          have Hf : Hid (parseC s l = (er1, [])) := by
                            have h1 := litsP_at Hno.out Hfl.out (by rw [HLit.out]; exact he)
                            rw [HLit.out] at h1
                            rw [Hid, Hpc2.out, h1, if_pos he]
                          clear he
                          go_upto_region 32 with fail
                          try rw [hw6]
                          clear hw6
                          go_wp2_with fail
                          go_ret2
                          exact parse_post Hf.out hB6
                    · have h61b : ((P[k].toNat : Int) != 61) = true := by
                        rw [bne_iff_ne]
                        intro e
                        exact h61 (UInt8.toNat_inj.1 (by have : P[k].toNat = 61 := by omega
                                                         rw [this]; rfl))
                      have Hkn2 : Hid (∀ q, q < k + 1 → p[q]? ≠ some 61) := fun q hq e => by
                        by_cases hqk : q = k
                        · rw [hqk, Hbt.out] at e; exact h61 (Option.some.inj e)
                        · exact Hkn.out q (by omega) e
                      clear h61
                      go_wp2_with fail
                      go_roundw
                      case rel => exact ⟨k + 1, by omega, by go_num, Hkn2.out, trivial⟩
                      case measure => simp [intOf]; omega
                  · have hke : k = P.size := by omega
                    have hkb : ((k : Int) == (P.size : Int)) = true := by rw [beq_iff_eq]; omega
                    have Hf : Hid (parseC s l = (2, [])) := by
                      have h0 : litP s p = (2, zeroLt) := by
                        rw [litP, cut_miss ((index_one (by rw [← Hpl.out]; omega) Hkn.out).1 (by rw [← Hpl.out]; exact hke)), if_pos rfl]
                      have h1 := litsP_at Hno.out Hfl.out (by rw [h0]; decide)
                      rw [h0] at h1
                      rw [Hid, Hpc2.out, h1, if_pos (by decide)]
                    go_wp2_with fail
                    go_ret2
                    exact parse_post Hf.out hBwx
              · have hje : j = Qs.length := by omega
                have hfl : (full l).length = Qs.length := by rw [← HQd.out, List.length_map]
                have Hf : Hid (parseC s l = (0, out)) := by
                  have h1 : litsP s (full l) = 0 := litsP_iff.2 fun p hp => by
                    obtain ⟨i, hi, e⟩ := List.mem_iff_getElem.1 hp
                    exact Hno.out i (by omega) p (by rw [List.getElem?_eq_getElem hi, e])
                  rw [Hid, Hpc2.out, if_neg (by simp [h1]), Hout.out, hje, ← hfl, List.take_length]
                have Hfin := hide HOw.out.cl
                clear hfl
                go_wp2_with fail
                go_ret2
                exact ⟨o1, out.length, o3, by rw [Hf.out]; rfl, by rw [Hf.out]; exact Hfin.out, hBwx⟩
  · have Hf : Hid (parseC s l = (wsig s, [])) := by rw [Hid, parseC, if_pos hw]
    have heb : (wsig s != 0) = true := by simp [hw]
    generalize wsig s = er at *
    clear hw
    go_wp2_with fail
    go_ret2
    exact parse_post Hf.out (Below.refl _ _)
end Go.Proofs.YtlgnpiphaeoeiadDoor

namespace Go.Proofs.YtlgnpiphaeoeiadDoor
open Go.RowKit Go.Deep Go.ChangeShapes Go.WideShapes
theorem tx_right {s : List Int} (h6 : s.length ≤ 6) (hs : s.all okNum = true) {x : Bool × Int} {k : Fo} (h : wrongF s x k = 0) : TxT (x, k) := by
  obtain ⟨h1, _, _, _, hw⟩ := right_of hs h
  have hl := textT_len x k
  obtain ⟨t1, t2⟩ := text_okT h6 hw
  exact ⟨t1, t2, by simp only; omega⟩
theorem txC_right {s : List Int} (h6 : s.length ≤ 6) (hs : s.all okNum = true) {c : Cl} (h : wrongC s c = 0) : ∀ l ∈ c, TxT l.2.1 ∧ TxT l.2.2 := fun l hl =>
  ⟨tx_right h6 hs ((wrongC_iff.1 h).2 l hl).1, tx_right h6 hs ((wrongC_iff.1 h).2 l hl).2⟩
end Go.Proofs.YtlgnpiphaeoeiadDoor
