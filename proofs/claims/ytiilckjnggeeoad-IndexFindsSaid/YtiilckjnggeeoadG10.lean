/- RRd RTerm RRead Tells RegInv P8k -/
import Derived.Test.YtiilckjnggeeoadG09
import Derived.Deep.RegionLaw
import Derived.Deep.DeepCutAuto
import Derived.Test.YtiilckjnggeeoadRows
import Derived.WalkKit
import Derived.RegionTactic
namespace Go.Proofs.Ytiilckjnggeeoad
open Go.RowKit Go.Deep Go.ChangeShapes Go.WideShapes
attribute [local go_sem ↓] Go.wp_at_zero Go.wp_at_succ
attribute [local go_sem] byte_zero text_tail
def RdAt (w : World) (rb : Nat) (sv : Value) (l : List UInt8) (e : Int) : Prop :=
  w.cell? ⟨rb, 0, none⟩ = some sv ∧ w.cell? ⟨rb, 1, none⟩ = some (str l) ∧ w.cell? ⟨rb, 2, none⟩ = some (.int .i64 e) ∧ ∀ i, w.frozen? ⟨rb, i, none⟩ = false
theorem RdAt.of_block {w w' : World} {rb : Nat} {sv : Value} {l : List UInt8} {e : Int} (h : RdAt w rb sv l e) (hb : w'.heap[rb]? = w.heap[rb]?) : RdAt w' rb sv l e :=
  ⟨(World.cell?_of_block hb).trans h.1, (World.cell?_of_block hb).trans h.2.1, (World.cell?_of_block hb).trans h.2.2.1, fun i => (World.frozen?_of_block hb).trans (h.2.2.2 i)⟩
theorem RdAt.setE {w : World} {rb : Nat} {sv : Value} {l : List UInt8} {e e' : Int} (h : RdAt w rb sv l e) : RdAt (w.setCell ⟨rb, 2, none⟩ (.int .i64 e')) rb sv l e' :=
  ⟨by rw [set_other (by simp)]; exact h.1, by rw [set_other (by simp)]; exact h.2.1, set_same h.2.2.1, fun i => by rw [World.frozen?_setCell]; exact h.2.2.2 i⟩
theorem RdAt.setS {w : World} {rb : Nat} {sv : Value} {l l' : List UInt8} {e : Int} (h : RdAt w rb sv l e) : RdAt (w.setCell ⟨rb, 1, none⟩ (str l')) rb sv l' e :=
  ⟨by rw [set_other (by simp)]; exact h.1, set_same h.2.1, by rw [set_other (by simp)]; exact h.2.2.1, fun i => by rw [World.frozen?_setCell]; exact h.2.2.2 i⟩
theorem RdAt.lt {w : World} {rb : Nat} {sv : Value} {l : List UInt8} {e : Int} (h : RdAt w rb sv l e) : rb < w.heap.size := World.block_lt_of_cell? _ _ h.1
theorem fr_set {w : World} {rb i : Nat} {v : Value} : Fr w (w.setCell ⟨rb, i, none⟩ v) (some rb) none :=
  ⟨rfl, rfl, rfl, by simp, fun q _ hq _ => Below.heap_setCell _ _ _ _ (fun e => hq (by rw [e]))⟩
set_option maxRecDepth 100000 in
set_option maxHeartbeats 400000 in
theorem fail_any (rb : Nat) (sv : Value) (l : List UInt8) (e' : Int) (w : World) (h : RdAt w rb sv l 0) :
    Calls Try.prog 114 #[.pointer (some ⟨rb, 0, none⟩), .int .i64 e'] w fun e w' => e = .returned (.tuple #[]) ∧ w' = w.setCell ⟨rb, 2, none⟩ (.int .i64 e') := by
  obtain ⟨h0, h1, h2, hf⟩ := h
  go_enter Try.func114, Try.ntmps114
  go_wp2_with fail
  exact bodyPost_end (v := .tuple #[]) (by simp [results, Try.results114, go_sem]) rfl ⟨rfl, rfl⟩
def isE (c : UInt8) (l : List UInt8) (e : Int) : Int := if e ≠ 0 then e else (sgn c l).1
set_option maxRecDepth 100000 in
set_option maxHeartbeats 400000 in
theorem is_any (c : UInt8) (rb : Nat) (sv : Value) (l : List UInt8) (e : Int) (w : World) (h : RdAt w rb sv l e) (hl : e = 0 → l.length ≤ maxLen) :
    Calls Try.prog 115 #[.pointer (some ⟨rb, 0, none⟩), .int .u8 (c.toNat : Int)] w fun e' w' => e' = .returned (.tuple #[]) ∧ (∃ l', RdAt w' rb sv l' (isE c l e) ∧ (isE c l e = 0 → l' = (sgn c l).2)) ∧ Fr w w' (some rb) none ∧ w'.heap.size = w.heap.size := by
  have H := hide h
  obtain ⟨h0, h1, h2, hf⟩ := h
  by_cases he : e = 0
  · subst he
    have hl := hl rfl
    unfold maxLen at hl
    cases l with
    | nil =>
      have Hs : Hid (isE c [] 0 = 8) := by simp [Hid, isE, sgn]
      go_enter Try.func115, Try.ntmps115
      go_wp2_with fail
      refine (fail_any rb sv [] 8 w H.out).mono ?_
      rintro e w' ⟨rfl, hw'⟩
      rw [hw']
      clear hw' w'
      go_wp2_with fail
      refine bodyPost_end (v := .tuple #[]) (by simp [results, Try.results115, go_sem]) rfl ⟨rfl, ⟨[], ?_, fun h => ?_⟩, fr_set, by simp⟩
      · rw [Hs.out]; exact H.out.setE
      · rw [Hs.out] at h; cases h
    | cons d r =>
      by_cases hd : d = c
      · subst hd
        have Hs : Hid (isE d (d :: r) 0 = 0 ∧ (sgn d (d :: r)).2 = r) := by simp [Hid, isE, sgn]
        have hsl := run_tail d r
        go_enter Try.func115, Try.ntmps115
        go_wp2_with fail
        refine bodyPost_end (v := .tuple #[]) (by simp [results, Try.results115, go_sem]) rfl ⟨rfl, ⟨r, ?_, fun h => ?_⟩, fr_set, by simp⟩
        · rw [Hs.out.1]; exact H.out.setS
        · rw [Hs.out.2]
      · have Hs : Hid (isE c (d :: r) 0 = 2) := by simp [Hid, isE, sgn, hd]
        have hb : ((d.toNat : Int) != (c.toNat : Int)) = true := by
          simp only [bne_iff_ne, ne_eq, Int.natCast_inj]
          exact fun e => hd (UInt8.toNat_inj.1 e)
        clear hd
        go_enter Try.func115, Try.ntmps115
        go_wp2_with fail
        refine (fail_any rb sv (d :: r) 2 w H.out).mono ?_
        rintro e w' ⟨rfl, hw'⟩
        rw [hw']
        clear hw' w'
        go_wp2_with fail
        refine bodyPost_end (v := .tuple #[]) (by simp [results, Try.results115, go_sem]) rfl ⟨rfl, ⟨d :: r, ?_, fun h => ?_⟩, fr_set, by simp⟩
        · rw [Hs.out]; exact H.out.setE
        · rw [Hs.out] at h; cases h
  · have Hs : Hid (isE c l e = e) := by simp [Hid, isE, he]
    have heb : (e != 0) = true := by simpa using he
    have He := hide he
    clear he
    go_enter Try.func115, Try.ntmps115
    go_wp2_with fail
    refine bodyPost_end (v := .tuple #[]) (by simp [results, Try.results115, go_sem]) rfl ⟨rfl, ⟨l, ?_, fun h => ?_⟩, Fr.refl _ _ _, rfl⟩
    · rw [Hs.out]; exact H.out
    · rw [Hs.out] at h; exact absurd h He.out
end Go.Proofs.Ytiilckjnggeeoad

namespace Go.Proofs.Ytiilckjnggeeoad
open Go.RowKit Go.Deep Go.ChangeShapes Go.WideShapes
attribute [local go_sem ↓] Go.wp_at_zero Go.wp_at_succ
attribute [local go_sem] byte_zero text_tail
def rdE (s : List Int) (f : Nat) (l : List UInt8) (e : Int) : Int := if e ≠ 0 then e else (readT s f l).1
def Rs (w : World) (rb : Nat) (sv : Value) (l : List UInt8) (e : Int) (w1 : World) : Prop :=
  RdAt w1 rb sv l e ∧ Fr w w1 (some rb) none ∧ w1.cell? ⟨w.heap.size, 0, none⟩ = some (.bool false) ∧ w1.cell? ⟨w.heap.size, 1, none⟩ = some (.int .i64 0) ∧ w1.cell? ⟨w.heap.size, 2, none⟩ = some (.slice none 0 0) ∧ (∀ i, w1.frozen? ⟨w.heap.size, i, none⟩ = false) ∧ rb < w.heap.size
theorem Rs.start {w : World} {rb : Nat} {sv : Value} {l : List UInt8} {e : Int} (h : RdAt w rb sv l e) : Rs w rb sv l e (w.alloc (.cells #[.bool false, .int .i64 0, .slice none 0 0] 33)) :=
  ⟨h.of_block (Below.heap_alloc _ _ _ h.lt), Fr.of_below (below_alloc _ _) _ _, by simp, by simp, by simp, fun i => by simp, h.lt⟩
theorem Rs.set {w w1 : World} {rb i : Nat} {sv v : Value} {l l' : List UInt8} {e e' : Int} (h : Rs w rb sv l e w1) (hR : RdAt (w1.setCell ⟨rb, i, none⟩ v) rb sv l' e') : Rs w rb sv l' e' (w1.setCell ⟨rb, i, none⟩ v) := by
  obtain ⟨_, h2, h3, h4, h5, h6, h7⟩ := h
  refine ⟨hR, h2.trans fr_set (fun q _ hq => hq), ?_, ?_, ?_, fun i => by rw [World.frozen?_setCell]; exact h6 i, h7⟩
  · rw [set_other (by intro e; simp only [Addr.mk.injEq] at e; omega)]; exact h3
  · rw [set_other (by intro e; simp only [Addr.mk.injEq] at e; omega)]; exact h4
  · rw [set_other (by intro e; simp only [Addr.mk.injEq] at e; omega)]; exact h5
theorem Rs.setE {w w1 : World} {rb : Nat} {sv : Value} {l : List UInt8} {e : Int} (h : Rs w rb sv l e w1) (e' : Int) : Rs w rb sv l e' (w1.setCell ⟨rb, 2, none⟩ (.int .i64 e')) := h.set h.1.setE
theorem Rs.setS {w w1 : World} {rb : Nat} {sv : Value} {l : List UInt8} {e : Int} (h : Rs w rb sv l e w1) (l' : List UInt8) : Rs w rb sv l' e (w1.setCell ⟨rb, 1, none⟩ (str l')) := h.set h.1.setS
theorem set3_heapT {w : World} {b o q : Nat} {x y z : Value} (h : q ≠ b) : (set3 w b o x y z).heap[q]? = w.heap[q]? := by
  unfold set3
  rw [Below.heap_setCell _ _ _ _ h, Below.heap_setCell _ _ _ _ h, Below.heap_setCell _ _ _ _ h]
theorem Rs.fin {w w1 : World} {rb : Nat} {sv : Value} {l : List UInt8} {e : Int} (h : Rs w rb sv l e w1) (x y z : Value) : RdAt (set3 w1 w.heap.size 0 x y z) rb sv l e ∧ Fr w (set3 w1 w.heap.size 0 x y z) (some rb) none := by
  obtain ⟨h1, h2, _, _, _, _, h7⟩ := h
  refine ⟨h1.of_block (set3_heapT (by omega)), h2.os, h2.tape, h2.output, by rw [set3_size]; exact h2.size, fun q hq e1 e2 => ?_⟩
  rw [set3_heapT (by omega)]
  exact h2.block q hq e1 e2
def TermPost (s : List Int) (f : Nat) (sv : Value) (l : List UInt8) (e : Int) (w : World) (rb : Nat) (er : Ending) (w' : World) : Prop :=
  ∃ (x : Bool × Int) (k : Fo) (a1 : Option Addr) (a2 a3 : Nat) (l' : List UInt8), er = .returned (.agg #[.bool x.1, .int .i64 x.2, .slice a1 a2 a3]) ∧ SB (New w w') w' k (.slice a1 a2 a3) ∧ Fr w w' (some rb) none ∧ RdAt w' rb sv l' (rdE s f l e) ∧ (rdE s f l e = 0 → (x, k) = (readT s f l).2.1 ∧ l' = (readT s f l).2.2)
theorem TermPost.mk {s : List Int} {f : Nat} {sv : Value} {l : List UInt8} {e : Int} {w : World} {rb : Nat} {er : Ending} {w' : World} (h : ∃ (x : Bool × Int) (k : Fo) (a1 : Option Addr) (a2 a3 : Nat) (l' : List UInt8), er = .returned (.agg #[.bool x.1, .int .i64 x.2, .slice a1 a2 a3]) ∧ SB (New w w') w' k (.slice a1 a2 a3) ∧ Fr w w' (some rb) none ∧ RdAt w' rb sv l' (rdE s f l e) ∧ (rdE s f l e = 0 → (x, k) = (readT s f l).2.1 ∧ l' = (readT s f l).2.2)) : TermPost s f sv l e w rb er w' := h
def TermSaid (s : List Int) (f : Nat) : Prop := ∀ (W : World) (sv : Value) (l : List UInt8) (e : Int) (w : World) (rb : Nat), NIn W s sv → s.all okNum = true → W.heap.size ≤ rb → Below W.heap.size W w → RdAt w rb sv l e → (e = 0 → l.length < f ∧ l.length ≤ maxLen) →
    Calls Try.prog 109 #[.pointer (some ⟨rb, 0, none⟩)] w (TermPost s f sv l e w rb)
set_option maxRecDepth 100000 in
set_option maxHeartbeats 400000 in
theorem term_bad (s : List Int) (f : Nat) (sv : Value) (l : List UInt8) (e : Int) (w : World) (rb : Nat) (hR : RdAt w rb sv l e) (he : e ≠ 0) :
    Calls Try.prog 109 #[.pointer (some ⟨rb, 0, none⟩)] w (TermPost s f sv l e w rb) := by
  have HS := hide (Rs.start hR)
  have He := hide he
  have heb : (e != 0) = true := by simpa using he
  have Hd : Hid (rdE s f l e = e) := by simp [Hid, rdE, he]
  clear he hR
  go_enter Try.func109, Try.ntmps109
  go_upto_region 1 with fail
  generalize w.alloc (.cells #[.bool false, .int .i64 0, .slice none 0 0] 33) = w0 at *
  obtain ⟨⟨h0, h1, h2, hf⟩, -, r0, r1, r2, rf, hlt⟩ := HS.out
  go_wp2_with fail
  refine bodyPost_ret (v := .agg #[.bool false, .int .i64 0, .slice none 0 0]) (by simp [results, Try.results109, go_sem, r0, r1, r2]) rfl (TermPost.mk ⟨(false, 0), .nil, none, 0, 0, l, rfl, SB.nil _ _, (HS.out.fin _ _ _).2, ?_, fun h => ?_⟩)
  · rw [Hd.out]; exact (HS.out.fin _ _ _).1
  · rw [Hd.out] at h; exact absurd h He.out
theorem is40 (rb : Nat) (sv : Value) (l : List UInt8) (e : Int) (w : World) (h : RdAt w rb sv l e) (hl : e = 0 → l.length ≤ maxLen) :
    Calls Try.prog 115 #[.pointer (some ⟨rb, 0, none⟩), .int .u8 40] w fun e' w' => e' = .returned (.tuple #[]) ∧ (∃ l', RdAt w' rb sv l' (isE 40 l e) ∧ (isE 40 l e = 0 → l' = (sgn 40 l).2)) ∧ Fr w w' (some rb) none ∧ w'.heap.size = w.heap.size := is_any 40 rb sv l e w h hl
theorem is44 (rb : Nat) (sv : Value) (l : List UInt8) (e : Int) (w : World) (h : RdAt w rb sv l e) (hl : e = 0 → l.length ≤ maxLen) :
    Calls Try.prog 115 #[.pointer (some ⟨rb, 0, none⟩), .int .u8 44] w fun e' w' => e' = .returned (.tuple #[]) ∧ (∃ l', RdAt w' rb sv l' (isE 44 l e) ∧ (isE 44 l e = 0 → l' = (sgn 44 l).2)) ∧ Fr w w' (some rb) none ∧ w'.heap.size = w.heap.size := is_any 44 rb sv l e w h hl
theorem is41 (rb : Nat) (sv : Value) (l : List UInt8) (e : Int) (w : World) (h : RdAt w rb sv l e) (hl : e = 0 → l.length ≤ maxLen) :
    Calls Try.prog 115 #[.pointer (some ⟨rb, 0, none⟩), .int .u8 41] w fun e' w' => e' = .returned (.tuple #[]) ∧ (∃ l', RdAt w' rb sv l' (isE 41 l e) ∧ (isE 41 l e = 0 → l' = (sgn 41 l).2)) ∧ Fr w w' (some rb) none ∧ w'.heap.size = w.heap.size := is_any 41 rb sv l e w h hl
def Md (R : List UInt8 → Int × ((Bool × Int) × Fo) × List UInt8) (m : Nat) (r : List UInt8) (j : Nat) (acc : Fo) (E : Int) (l : List UInt8) : Prop :=
  (E ≠ 0 → (readA R m 0 .nil r).1 = E) ∧ (E = 0 → readA R m 0 .nil r = readA R (m - j) j acc l ∧ l.length ≤ r.length)
theorem Md.step {s : List Int} {f m : Nat} {r : List UInt8} {j : Nat} {acc k : Fo} {E E1 E2 : Int} {l l1 l2 : List UInt8} {x : Bool × Int} (h : Md (readT s f) m r j acc E l) (hj : j < m) (hE1 : E1 = isE (signF j) l E) (hl1 : E1 = 0 → l1 = (sgn (signF j) l).2)
    (hE2 : E2 = rdE s f l1 E1) (hl2 : E2 = 0 → (x, k) = (readT s f l1).2.1 ∧ l2 = (readT s f l1).2.2) : Md (readT s f) m r (j + 1) (Fo.snoc acc x k) E2 l2 := by
  by_cases h0 : E = 0
  · subst h0
    obtain ⟨h1, h2⟩ := h.2 rfl
    have e1 : E1 = (sgn (signF j) l).1 := by rw [hE1, isE]; simp
    have hA : readA (readT s f) m 0 .nil r = if (sgn (signF j) l).1 ≠ 0 then ((sgn (signF j) l).1, .nil, []) else
            if (readT s f (sgn (signF j) l).2).1 ≠ 0 then ((readT s f (sgn (signF j) l).2).1, .nil, []) else
            readA (readT s f) (m - (j + 1)) ((j : Int) + 1) (Fo.snoc acc (readT s f (sgn (signF j) l).2).2.1.1 (readT s f (sgn (signF j) l).2).2.1.2) (readT s f (sgn (signF j) l).2).2.2 := by
      rw [h1, show m - j = (m - (j + 1)) + 1 by omega]; rfl
    by_cases h3 : E1 = 0
    · have hl1' := hl1 h3
      have e2 : E2 = (readT s f l1).1 := by rw [hE2, rdE, h3]; simp
      rw [← e1, if_neg (by simpa using h3), ← hl1', ← e2] at hA
      have hle := sgn_len (signF j) l (by rw [← e1]; exact h3)
      rw [← hl1'] at hle
      have hle2 := readT_le s f l1
      refine ⟨fun h => ?_, fun h => ?_⟩
      · rw [hA, if_pos h]
      · obtain ⟨q1, q2⟩ := hl2 h
        rw [if_neg (by simpa using h), ← q1, ← q2] at hA
        exact ⟨by rw [hA]; simp, by rw [q2]; omega⟩
    · have e2 : E2 = E1 := by rw [hE2, rdE, if_pos h3]
      rw [← e1, if_pos h3] at hA
      refine ⟨fun _ => by rw [hA, e2], fun h => absurd (e2 ▸ h) h3⟩
  · have e1 : E1 = E := by rw [hE1, isE, if_pos h0]
    have e2 : E2 = E := by rw [hE2, rdE, e1, if_pos h0]
    exact ⟨fun _ => by rw [e2]; exact h.1 h0, fun h => absurd (e2 ▸ h) h0⟩
theorem Md.fin {s : List Int} {f m : Nat} {r : List UInt8} {acc : Fo} {E E3 : Int} {l l3 : List UInt8} (h : Md (readT s f) m r m acc E l) (hm : 0 < m) (hE3 : E3 = isE 41 l E) (hl3 : E3 = 0 → l3 = (sgn 41 l).2) :
    (argsT (readT s f) (m : Int) r).1 = E3 ∧ (E3 = 0 → argsT (readT s f) (m : Int) r = (0, acc, l3)) := by
  rw [argsT, if_neg (by omega), Int.toNat_natCast]
  by_cases h0 : E = 0
  · subst h0
    obtain ⟨h1, _⟩ := h.2 rfl
    rw [Nat.sub_self] at h1
    have e3 : E3 = (sgn 41 l).1 := by rw [hE3, isE]; simp
    have h1' : readA (readT s f) m 0 .nil r = (0, acc, l) := h1
    rw [h1']
    simp only [ne_eq, not_true_eq_false, if_false]
    by_cases h4 : (sgn 41 l).1 = 0
    · rw [if_neg (by simpa using h4)]
      exact ⟨by rw [e3, h4], fun h => by rw [hl3 h]⟩
    · rw [if_pos h4]
      exact ⟨e3.symm, fun h => absurd (e3 ▸ h) h4⟩
  · have e3 : E3 = E := by rw [hE3, isE, if_pos h0]
    have h1 := h.1 h0
    rw [if_pos (by rw [h1]; exact h0)]
    exact ⟨by rw [h1, e3], fun h => absurd (e3 ▸ h) h0⟩
def TmRel (s : List Int) (f m : Nat) (r : List UInt8) (w : World) (rb B : Nat) (sv : Value) (nn : Int) (j : Nat) (wr : World) : Prop :=
  ∃ (acc : Fo) (v : Value) (xs : List Value) (E : Int) (l : List UInt8), Fo.len acc = j ∧ Rs w rb sv l E wr ∧ Md (readT s f) m r j acc E l ∧ wr.ownsRow (B + 1) 33 3 v (Fo.len acc) xs ∧ CellsOf (Rm B (fun _ => False) wr v) wr acc xs ∧
    wr.cell? ⟨B, 0, none⟩ = some (.bool false) ∧ wr.cell? ⟨B, 1, none⟩ = some (.int .i64 nn) ∧ wr.cell? ⟨B, 2, none⟩ = some v ∧ (∀ i, wr.frozen? ⟨B, i, none⟩ = false)
theorem Rs.below {w w1 w2 : World} {rb : Nat} {sv : Value} {l : List UInt8} {e : Int} (h : Rs w rb sv l e w1) (hb : Below w1.heap.size w1 w2) : Rs w rb sv l e w2 := by
  obtain ⟨h1, h2, h3, h4, h5, h6, h7⟩ := h
  have hA : w.heap.size < w1.heap.size := World.block_lt_of_cell? _ _ h3
  exact ⟨h1.of_block (hb.block _ h1.lt), h2.trans (Fr.of_below hb none none) (fun q _ hq => by rcases hq with e | e <;> cases e), grow_cell hb _ _ h3, grow_cell hb _ _ h4, grow_cell hb _ _ h5, fun i => (hb.frozen hA).trans (h6 i), h7⟩
theorem Rs.fr {w w1 w2 : World} {rb : Nat} {sv : Value} {l l' : List UInt8} {e e' : Int} (h : Rs w rb sv l e w1) (hf : Fr w1 w2 (some rb) none) (hR : RdAt w2 rb sv l' e') : Rs w rb sv l' e' w2 := by
  obtain ⟨h1, h2, h3, h4, h5, h6, h7⟩ := h
  have hA : w.heap.size < w1.heap.size := World.block_lt_of_cell? _ _ h3
  have hb : w2.heap[w.heap.size]? = w1.heap[w.heap.size]? := hf.block _ hA (fun e => by simp at e; omega) (fun e => by cases e)
  exact ⟨hR, h2.trans hf (fun q _ hq => hq), (World.cell?_of_block hb).trans h3, (World.cell?_of_block hb).trans h4, (World.cell?_of_block hb).trans h5, fun i => (World.frozen?_of_block hb).trans (h6 i), h7⟩
theorem tm_next {s : List Int} {f m : Nat} {r : List UInt8} {w wr w2 w3 w4 : World} {rb B : Nat} {sv : Value} {nn : Int} {j : Nat} {acc k : Fo} {v v' a : Value} {xs : List Value} {E E1 : Int} {l l1 l2 : List UInt8} {x : Bool × Int} {g cap : Nat} {ob : Obj}
    (hacc : Fo.len acc = j) (hRs : Rs w rb sv l E wr) (hMd : Md (readT s f) m r j acc E l) (hj : j < m) (h1 : wr.ownsRow (B + 1) 33 3 v (Fo.len acc) xs) (h2 : CellsOf (Rm B (fun _ => False) wr v) wr acc xs)
    (q0 : wr.cell? ⟨B, 0, none⟩ = some (.bool false)) (q1 : wr.cell? ⟨B, 1, none⟩ = some (.int .i64 nn)) (q2 : wr.cell? ⟨B, 2, none⟩ = some v) (qf : ∀ i, wr.frozen? ⟨B, i, none⟩ = false) (hAB : w.heap.size < B)
    (hE1 : E1 = isE (signF j) l E) (hl1 : E1 = 0 → l1 = (sgn (signF j) l).2) (hf2 : Fr wr w2 (some rb) none) (hs2 : w2.heap.size = wr.heap.size) (hR2 : RdAt w2 rb sv l1 E1)
    (hk : SB (New w2 w3) w3 k a) (hf3 : Fr w2 w3 (some rb) none) (hR3 : RdAt w3 rb sv l2 (rdE s f l1 E1)) (hl2 : rdE s f l1 E1 = 0 → (x, k) = (readT s f l1).2.1 ∧ l2 = (readT s f l1).2.2)
    (hv' : v' = .slice (some ⟨g, 0, none⟩) (Fo.len acc + 1) cap) (ho : w4.ownsRow (B + 1) 33 3 v' (Fo.len acc + 1) (xs ++ [.bool x.1, .int .i64 x.2, a])) (hg : (w3.alloc ob).grownBy w4 v.ownBlock)
    (hat : v.ownBlock = some g ∨ g = w3.heap.size + 1) (hlt : g < w4.heap.size) : TmRel s f m r w rb B sv nn (j + 1) (w4.setCell ⟨B, 2, none⟩ v') := by
  have hrb := hRs.2.2.2.2.2.2
  have hBl : B < wr.heap.size := World.block_lt_of_cell? _ _ q0
  have hb2 : ∀ q, B ≤ q → q < wr.heap.size → w2.heap[q]? = wr.heap[q]? := fun q hq hlt => hf2.block q hlt (fun e => by simp at e; omega) (fun e => by cases e)
  have h1' : w2.ownsRow (B + 1) 33 3 v (Fo.len acc) xs := owns_keep h1 (fun g hg => by have := owns_at h1 g hg; exact hb2 g (by omega) this.2)
  have h2' : CellsOf (Rm B (fun _ => False) w2 v) w2 acc xs := CellsOf.frame (fun q hq => by rcases hq with h | ⟨p1, p2, p3⟩; exact h.elim; exact .inr ⟨p1, by omega, p3⟩) (fun q i hq => by
    rcases hq with h | ⟨p1, p2, p3⟩
    · exact h.elim
    · exact World.cell?_of_block (hb2 q (by omega) p2)) h2
  have eB := hb2 B (Nat.le_refl _) hBl
  have q2' := (World.cell?_of_block (a := ⟨B, 2, none⟩) eB).trans q2
  have hs3 := hf3.size
  obtain ⟨r1, r2, r3, r4, r5, r6, r7⟩ := row_step (B := B) (X := fun _ => False) (x := x) (k := k) h1' h2' (fun q hq => hq.elim) (by omega) ⟨_, q2'⟩ hs3 (fun q hq hlt => hf3.block q hlt (fun e => by simp at e; rcases hq with h | h; exact h.elim; omega) (fun e => by cases e)) (hk.frame (fun q hq => .inr hq) (fun _ _ _ => rfl)) hv' ho hg hat hlt
  have hno : ∀ q, q ≤ B → some q ≠ v.ownBlock := fun q hq e => by have := (owns_at h1 q e.symm).1; omega
  refine ⟨Fo.snoc acc x k, v', _, _, l2, by rw [snoc_len, hacc], ?_, hMd.step hj hE1 hl1 rfl hl2, r1, r2, (r5 0 (by omega)).trans ((World.cell?_of_block eB).trans q0), (r5 1 (by omega)).trans ((World.cell?_of_block eB).trans q1), r3, fun i => (r6 i).trans ((World.frozen?_of_block eB).trans (qf i))⟩
  have hRs3 := (hRs.fr hf2 hR2).fr hf3 hR3
  obtain ⟨a1, a2, a3, a4, a5, a6, a7⟩ := hRs3
  have hA3 : w.heap.size < w3.heap.size := World.block_lt_of_cell? _ _ a3
  have eA := r4 w.heap.size hA3 (hno _ (by omega)) (by omega)
  refine ⟨a1.of_block (r4 rb (by omega) (hno _ (by omega)) (by omega)), ⟨?_, ?_, ?_, by omega, fun q hq e1 e2 => ?_⟩, (World.cell?_of_block eA).trans a3, (World.cell?_of_block eA).trans a4, (World.cell?_of_block eA).trans a5, fun i => (World.frozen?_of_block eA).trans (a6 i), a7⟩
  · show w4.os = _; rw [hg.os]; exact a2.os
  · show w4.tape = _; rw [hg.tape]; exact a2.tape
  · show w4.output = _; rw [hg.output]; exact a2.output
  · rw [r4 q (by omega) (hno _ (by omega)) (by omega)]
    exact a2.block q hq e1 e2
theorem md_zero {s : List Int} {f m : Nat} {r : List UInt8} {acc : Fo} {E : Int} {l : List UInt8} (hm : m = 0) (h : Md (readT s f) m r m acc E l) : E = 0 ∧ acc = .nil ∧ l = r := by
  subst hm
  by_cases h0 : E = 0
  · obtain ⟨h1, _⟩ := h.2 h0
    simp only [readA, Nat.sub_self, Prod.mk.injEq, true_and] at h1
    exact ⟨h0, h1.1.symm, h1.2.symm⟩
  · have := h.1 h0
    simp only [readA] at this
    exact absurd this.symm h0
theorem row_fr {wr w2 : World} {B rb : Nat} {acc : Fo} {v : Value} {xs : List Value} (h1 : wr.ownsRow (B + 1) 33 3 v (Fo.len acc) xs) (h2 : CellsOf (Rm B (fun _ => False) wr v) wr acc xs) (hf : Fr wr w2 (some rb) none) (hr : rb < B) : SB (fun q => B + 1 ≤ q ∧ q < w2.heap.size) w2 acc v := by
  have hs := hf.size
  have hb : ∀ q, B + 1 ≤ q → q < wr.heap.size → w2.heap[q]? = wr.heap[q]? := fun q hq hlt => hf.block q hlt (fun e => by simp at e; omega) (fun e => by cases e)
  have h1' : w2.ownsRow (B + 1) 33 3 v (Fo.len acc) xs := owns_keep h1 (fun g hg => by have := owns_at h1 g hg; exact hb g (by omega) this.2)
  have h2' : CellsOf (fun q => B + 1 ≤ q ∧ q < w2.heap.size) w2 acc xs := CellsOf.frame (fun q hq => by rcases hq with h | ⟨p1, p2, p3⟩; exact h.elim; exact ⟨p1, by omega⟩) (fun q i hq => by
    rcases hq with h | ⟨p1, p2, p3⟩
    · exact h.elim
    · exact World.cell?_of_block (hb q p1 p2)) h2
  exact row_sb h1' h2' (fun q hq => hq) (fun g hg => by have := owns_at h1' g hg; exact this)
set_option maxHeartbeats 2000000 in
set_option maxRecDepth 100000 in
theorem term_any (s : List Int) : ∀ f, TermSaid s f := by
  intro f
  induction f with
  | zero =>
    intro W sv l e w rb _ _ _ _ hR hl
    by_cases he : e = 0
    · have := (hl he).1; omega
    · exact term_bad s 0 sv l e w rb hR he
  | succ f ih =>
    intro W sv l e w rb hN hs hWr hBW hR hl
    by_cases he : e = 0
    case neg => exact term_bad s (f + 1) sv l e w rb hR he
    subst he
    obtain ⟨hlf, hlm⟩ := hl rfl
    unfold maxLen at hlm
    have HI := hide ih
    have HS := hide (Rs.start hR)
    have Hd : Hid (rdE s (f + 1) l 0 = (readT s (f + 1) l).1) := by simp [Hid, rdE]
    have HN := hide hN
    have Hs := hide hs
    have HBW := hide hBW
    obtain ⟨sa, sc, sb, so, rfl, hsa, hslc, hscm, hsF⟩ := hN
    have HsF := hide hsF
    unfold maxLen at hscm
    clear hl ih hs hBW hsF hR
    go_enter Try.func109, Try.ntmps109
    go_upto_region 1 with fail
    generalize w.alloc (.cells #[.bool false, .int .i64 0, .slice none 0 0] 33) = w0 at *
    cases l with
    | nil =>
      have Hf : Hid ((readT s (f + 1) []).1 = 8) := rfl
      obtain ⟨⟨h0, h1, h2, hf⟩, -, r0, r1, r2, rf, hlt⟩ := HS.out
      go_wp2_with fail
      refine (fail_any rb _ [] 8 w0 HS.out.1).mono ?_
      rintro e w' ⟨rfl, hw'⟩
      have HS2 := hide (HS.out.setE 8)
      rw [← hw'] at HS2
      clear hw' h0 h1 h2 hf r0 r1 r2 rf
      obtain ⟨⟨h0, h1, h2, hf⟩, -, r0, r1, r2, rf, -⟩ := HS2.out
      go_wp2_with fail
      refine bodyPost_ret (v := .agg #[.bool false, .int .i64 0, .slice none 0 0]) (by simp [results, Try.results109, go_sem, r0, r1, r2]) rfl (TermPost.mk ⟨(false, 0), .nil, none, 0, 0, [], rfl, SB.nil _ _, (HS2.out.fin _ _ _).2, ?_, fun h => ?_⟩)
      · rw [Hd.out, Hf.out]; exact (HS2.out.fin _ _ _).1
      · rw [Hd.out, Hf.out] at h; cases h
    | cons c r =>
      simp only [List.length_cons] at hlf hlm
      have hc : (c.toNat : Int) < 256 := by have := c.toNat_lt; omega
      have hsl := run_tail c r
      have HS2 := hide (HS.out.setS r)
      obtain ⟨⟨h0, h1, h2, hf⟩, -, r0, r1, r2, rf, hlt⟩ := HS.out
      go_upto_region 8 with fail
      generalize w0.setCell ⟨rb, 1, none⟩ (.string ⟨r.toArray⟩) = w1 at *
      clear h0 h1 h2 hf r0 r1 r2 rf hsl HS
      obtain ⟨⟨h0, h1, h2, hf⟩, -, r0, r1, r2, rf, -⟩ := HS2.out
      by_cases h88 : c = 88
      · have hcb : ((c.toNat : Int) == 88) = true := by rw [h88]; rfl
        have Hf : Hid (readT s (f + 1) (c :: r) = ((rvar r).1, ((rvar r).2.1, .nil), (rvar r).2.2)) := by rw [Hid, readT, if_pos h88]
        clear h88
        cases r with
        | nil =>
          have Hv : Hid ((rvar []).1 = 8) := rfl
          go_wp2_with fail
          refine (fail_any rb _ [] 8 w1 HS2.out.1).mono ?_
          rintro e w' ⟨rfl, hw'⟩
          have HS3 := hide (HS2.out.setE 8)
          rw [← hw'] at HS3
          clear hw' h0 h1 h2 hf r0 r1 r2 rf
          obtain ⟨⟨h0, h1, h2, hf⟩, -, r0, r1, r2, rf, -⟩ := HS3.out
          go_wp2_with fail
          refine bodyPost_ret (v := .agg #[.bool false, .int .i64 0, .slice none 0 0]) (by simp [results, Try.results109, go_sem, r0, r1, r2]) rfl (TermPost.mk ⟨(false, 0), .nil, none, 0, 0, [], rfl, SB.nil _ _, (HS3.out.fin _ _ _).2, ?_, fun h => ?_⟩)
          · rw [Hd.out, Hf.out]; exact (HS3.out.fin _ _ _).1
          · rw [Hd.out, Hf.out] at h; cases h
        | cons d r =>
          have hd : (d.toNat : Int) < 256 := by have := d.toNat_lt; omega
          by_cases hdd : (d.toNat : Int) - 48 < 0 ∨ 5 ≤ (d.toNat : Int) - 48
          · have Hv : Hid ((readT s (f + 1) (c :: d :: r)).1 = 3) := by rw [Hid, Hf.out, rvar, if_pos hdd]
            by_cases hd0 : (d.toNat : Int) < 48
            · clear hdd
              go_wp2_with fail
              refine (fail_any rb _ (d :: r) 3 w1 HS2.out.1).mono ?_
              rintro e w' ⟨rfl, hw'⟩
              have HS3 := hide (HS2.out.setE 3)
              rw [← hw'] at HS3
              clear hw' h0 h1 h2 hf r0 r1 r2 rf
              obtain ⟨⟨h0, h1, h2, hf⟩, -, r0, r1, r2, rf, -⟩ := HS3.out
              go_wp2_with fail
              refine bodyPost_ret (v := .agg #[.bool false, .int .i64 0, .slice none 0 0]) (by simp [results, Try.results109, go_sem, r0, r1, r2]) rfl (TermPost.mk ⟨(false, 0), .nil, none, 0, 0, (d :: r), rfl, SB.nil _ _, (HS3.out.fin _ _ _).2, ?_, fun h => ?_⟩)
              · rw [Hd.out, Hv.out]; exact (HS3.out.fin _ _ _).1
              · rw [Hd.out, Hv.out] at h; cases h
            · have hd1 : (52 : Int) < (d.toNat : Int) := by omega
              clear hdd
              go_wp2_with fail
              refine (fail_any rb _ (d :: r) 3 w1 HS2.out.1).mono ?_
              rintro e w' ⟨rfl, hw'⟩
              have HS3 := hide (HS2.out.setE 3)
              rw [← hw'] at HS3
              clear hw' h0 h1 h2 hf r0 r1 r2 rf
              obtain ⟨⟨h0, h1, h2, hf⟩, -, r0, r1, r2, rf, -⟩ := HS3.out
              go_wp2_with fail
              refine bodyPost_ret (v := .agg #[.bool false, .int .i64 0, .slice none 0 0]) (by simp [results, Try.results109, go_sem, r0, r1, r2]) rfl (TermPost.mk ⟨(false, 0), .nil, none, 0, 0, (d :: r), rfl, SB.nil _ _, (HS3.out.fin _ _ _).2, ?_, fun h => ?_⟩)
              · rw [Hd.out, Hv.out]; exact (HS3.out.fin _ _ _).1
              · rw [Hd.out, Hv.out] at h; cases h
          · have Hv : Hid (readT s (f + 1) (c :: d :: r) = (0, ((true, (d.toNat : Int) - 48), .nil), r)) := by rw [Hid, Hf.out, rvar, if_neg hdd]
            have hd0 : ¬ (d.toNat : Int) < 48 := by omega
            have hd1 : ¬ (52 : Int) < (d.toNat : Int) := by omega
            have hsl := run_tail d r
            have HS3 := hide (HS2.out.setS r)
            clear hdd Hf
            simp only [List.length_cons] at hlf hlm
            go_upto_region 17 with fail
            generalize w1.setCell ⟨rb, 1, none⟩ (.string ⟨r.toArray⟩) = w2 at *
            clear h0 h1 h2 hf r0 r1 r2 rf hsl
            obtain ⟨⟨h0, h1, h2, hf⟩, -, r0, r1, r2, rf, -⟩ := HS3.out
            go_wp2_with fail
            refine bodyPost_ret (v := .agg #[.bool true, .int .i64 ((d.toNat : Int) - 48), .slice none 0 0]) (by simp [results, Try.results109, go_sem, r0, r1, r2]) rfl (TermPost.mk ⟨(true, (d.toNat : Int) - 48), .nil, none, 0, 0, r, rfl, SB.nil _ _, (HS3.out.fin _ _ _).2, ?_, fun _ => ?_⟩)
            · rw [Hd.out, Hv.out]; exact (HS3.out.fin _ _ _).1
            · rw [Hv.out]; exact ⟨rfl, rfl⟩
      · have hcb : ((c.toNat : Int) == 88) = false := by
          rw [beq_eq_false_iff_ne]
          intro e
          exact h88 (UInt8.toNat_inj.1 (by have : c.toNat = 88 := by omega
                                           rw [this]; rfl))
        have Ht : Hid (readT s (f + 1) (c :: r) = if (c.toNat : Int) - 97 < 0 ∨ (s.length : Int) ≤ (c.toNat : Int) - 97 then (7, ((false, 0), .nil), []) else
            if (argsT (readT s f) (s.getD ((c.toNat : Int) - 97).toNat 0) r).1 ≠ 0 then ((argsT (readT s f) (s.getD ((c.toNat : Int) - 97).toNat 0) r).1, ((false, 0), .nil), []) else
            (0, ((false, (c.toNat : Int) - 97), (argsT (readT s f) (s.getD ((c.toNat : Int) - 97).toNat 0) r).2.1), (argsT (readT s f) (s.getD ((c.toNat : Int) - 97).toNat 0) r).2.2)) := by rw [Hid, readT, if_neg h88]
        clear h88
        by_cases hc0 : (c.toNat : Int) < 97
        · have Hv : Hid ((readT s (f + 1) (c :: r)).1 = 7) := by rw [Hid, Ht.out, if_pos (.inl (by omega))]
          clear Ht
          go_wp2_with fail
          refine (fail_any rb _ r 7 w1 HS2.out.1).mono ?_
          rintro e w' ⟨rfl, hw'⟩
          have HS3 := hide (HS2.out.setE 7)
          rw [← hw'] at HS3
          clear hw' h0 h1 h2 hf r0 r1 r2 rf
          obtain ⟨⟨h0, h1, h2, hf⟩, -, r0, r1, r2, rf, -⟩ := HS3.out
          go_wp2_with fail
          refine bodyPost_ret (v := .agg #[.bool false, .int .i64 0, .slice none 0 0]) (by simp [results, Try.results109, go_sem, r0, r1, r2]) rfl (TermPost.mk ⟨(false, 0), .nil, none, 0, 0, r, rfl, SB.nil _ _, (HS3.out.fin _ _ _).2, ?_, fun h => ?_⟩)
          · rw [Hd.out, Hv.out]; exact (HS3.out.fin _ _ _).1
          · rw [Hd.out, Hv.out] at h; cases h
        by_cases hc1 : (s.length : Int) ≤ (c.toNat : Int) - 97
        · have Hv : Hid ((readT s (f + 1) (c :: r)).1 = 7) := by rw [Hid, Ht.out, if_pos (.inr hc1)]
          clear Ht
          go_wp2_with fail
          refine (fail_any rb _ r 7 w1 HS2.out.1).mono ?_
          rintro e w' ⟨rfl, hw'⟩
          have HS3 := hide (HS2.out.setE 7)
          rw [← hw'] at HS3
          clear hw' h0 h1 h2 hf r0 r1 r2 rf
          obtain ⟨⟨h0, h1, h2, hf⟩, -, r0, r1, r2, rf, -⟩ := HS3.out
          go_wp2_with fail
          refine bodyPost_ret (v := .agg #[.bool false, .int .i64 0, .slice none 0 0]) (by simp [results, Try.results109, go_sem, r0, r1, r2]) rfl (TermPost.mk ⟨(false, 0), .nil, none, 0, 0, r, rfl, SB.nil _ _, (HS3.out.fin _ _ _).2, ?_, fun h => ?_⟩)
          · rw [Hd.out, Hv.out]; exact (HS3.out.fin _ _ _).1
          · rw [Hd.out, Hv.out] at h; cases h
        rw [if_neg (by omega)] at Ht
        have hc0' : 97 ≤ (c.toNat : Int) := by omega
        have hc1' : (c.toNat : Int) - 97 < (s.length : Int) := by omega
        have hc2' : 0 ≤ (c.toNat : Int) - 97 := by omega
        have hsa' : sa = some ⟨sb, so, none⟩ := hsa (by omega)
        subst hsa'
        have hB1W : Below W.heap.size W w1 := HBW.out.trans (HS2.out.2.1.below HBW.out.size (fun g hg => by cases hg; exact hWr) (fun g hg => by cases hg))
        have hcell := grow_cell hB1W _ _ (HsF.out ((c.toNat : Int) - 97).toNat (by omega))
        have Hm := hide (sig_at Hs.out (i := ((c.toNat : Int) - 97).toNat) (by omega))
        have hcell1 := grow_cell (below_alloc w1 (.cells #[.bool false, .int .i64 ((c.toNat : Int) - 97), .slice none 0 0] 33)) _ _ hcell
        have hrb1 : rb < w1.heap.size := HS2.out.1.lt
        have k0 : (w1.alloc (.cells #[.bool false, .int .i64 ((c.toNat : Int) - 97), .slice none 0 0] 33)).cell? ⟨rb, 0, none⟩ = some (.slice (some ⟨sb, so, none⟩) s.length sc) := grow_cell (below_alloc _ _) _ _ h0
        generalize s.getD ((c.toNat : Int) - 97).toNat 0 = mm at *
        obtain ⟨m, rfl⟩ := Int.eq_ofNat_of_zero_le Hm.out.1
        have hm2 : m ≤ 2 := by have := Hm.out.2; omega
        clear hsa hcell hc1 hc0
        go_wp2_with fail
        go_quiet (fail)
        go_wp2_with fail
        have hAB : w.heap.size < w1.heap.size := World.block_lt_of_cell? _ _ r0
        have Hst : Hid (TmRel s f m r w rb w1.heap.size (.slice (some ⟨sb, so, none⟩) s.length sc) ((c.toNat : Int) - 97) 0 ((w1.alloc (.cells #[.bool false, .int .i64 ((c.toNat : Int) - 97), .slice none 0 0] 33)).drewN nq)) :=
          ⟨.nil, .slice none 0 0, [], 0, r, rfl, HS2.out.below (below_drewN (below_alloc _ _) _), ⟨fun h => absurd rfl h, fun _ => ⟨rfl, Nat.le_refl _⟩⟩, ⟨rfl, .inl ⟨rfl, rfl⟩⟩, rfl, by simp, by simp, by simp, fun i => by simp⟩
        clear hcell1 k0 h0 h1 h2 hf r0 r1 r2 rf hc1' hc2' hc0' hcb hc
        generalize (c.toNat : Int) - 97 = nn at *
        generalize w1.heap.size = B at *
        go_loopw [108] (fun i wr => ∃ j : Nat, j ≤ m ∧ i = .int .i64 j ∧ TmRel s f m r w rb B (.slice (some ⟨sb, so, none⟩) s.length sc) nn j wr) (fun i _ => m - (intOf i).toNat)
        case atStart => exact ⟨0, Nat.zero_le _, rfl, Hst.out⟩
        case round =>
          obtain ⟨j, hj, rfl, acc, v, xs, E, l, hacc, hRs, hMd, hR1, hR2, q0, q1, q2, qf⟩ := hrel
          clear Hst
          have HRs := hide hRs
          have HMd := hide hMd
          have HR1 := hide hR1
          have HR2 := hide hR2
          have Hqf := hide qf
          have Hacc := hide hacc
          obtain ⟨z1, z3, rfl⟩ := slice_of_owns hR1
          have hBl : B < wr.heap.size := World.block_lt_of_cell? _ _ q0
          have hrbw : rb < w.heap.size := hRs.2.2.2.2.2.2
          clear hMd hR1 hR2 qf hRs hacc
          by_cases hjm : j < m
          · have hjm' : (j : Int) < (m : Int) := by omega
            go_upto_if 112 with fail
            go_cut [108] (fun s108 wx => s108 = .int .i64 j ∧ ∃ l1, RdAt wx rb (.slice (some ⟨sb, so, none⟩) s.length sc) l1 (isE (signF j) l E) ∧ (isE (signF j) l E = 0 → l1 = (sgn (signF j) l).2) ∧ Fr wr wx (some rb) none ∧ wx.heap.size = wr.heap.size)
            case first =>
              have Hlm : Hid (E = 0 → l.length ≤ maxLen) := fun h => by
                have := (HMd.out.2 h).2
                unfold maxLen
                omega
              by_cases hj0 : j = 0
              · have hjb : ((j : Int) == 0) = true := by rw [beq_iff_eq]; omega
                have Hsg : Hid (signF (j : Int) = 40) := by rw [Hid, signF, if_pos (by omega)]
                clear hj0
                go_wp2_with fail
                refine (is40 rb _ l E wr HRs.out.1 Hlm.out).mono ?_
                rintro e w' ⟨rfl, hl1, hfr, hsz⟩
                go_wp2_with fail
                go_meet
                case rel =>
                  rw [Hsg.out]
                  obtain ⟨l1, h1, h2⟩ := hl1
                  exact ⟨rfl, l1, h1, h2, hfr, hsz⟩
              · have hjb : ((j : Int) == 0) = false := by rw [beq_eq_false_iff_ne]; omega
                have Hsg : Hid (signF (j : Int) = 44) := by rw [Hid, signF, if_neg (by omega)]
                clear hj0
                go_wp2_with fail
                refine (is44 rb _ l E wr HRs.out.1 Hlm.out).mono ?_
                rintro e w' ⟨rfl, hl1, hfr, hsz⟩
                go_wp2_with fail
                go_meet
                case rel =>
                  rw [Hsg.out]
                  obtain ⟨l1, h1, h2⟩ := hl1
                  exact ⟨rfl, l1, h1, h2, hfr, hsz⟩
            case rest =>
              obtain ⟨rfl, l1, hR2', hl1, hf2, hs2⟩ := hcut
              generalize wc = w2 at *
              have HR2' := hide hR2'
              have Hl1 := hide hl1
              have Hf2 := hide hf2
              have eB : w2.heap[B]? = wr.heap[B]? := hf2.block B hBl (fun e => by simp at e; omega) (fun e => by cases e)
              have g2 : w2.cell? ⟨B, 2, none⟩ = some (.slice z1 (Fo.len acc) z3) := (World.cell?_of_block eB).trans q2
              have gf : ∀ i, w2.frozen? ⟨B, i, none⟩ = false := fun i => (World.frozen?_of_block eB).trans (Hqf.out i)
              have hB2 : B < w2.heap.size := by omega
              have Hown2 : Hid (w2.ownsRow (B + 1) 33 3 (.slice z1 (Fo.len acc) z3) (Fo.len acc) xs) := owns_keep HR1.out (fun g hg => by
                have h := owns_at HR1.out g hg
                exact hf2.block g h.2 (fun e => by simp at e; omega) (fun e => by cases e))
              have HB2W : Hid (Below W.heap.size W w2) := HBW.out.trans (((HRs.out.fr hf2 hR2').2.1).below HBW.out.size (fun g hg => by cases hg; exact hWr) (fun g hg => by cases hg))
              have Hlen1 : Hid (isE (signF j) l E = 0 → l1.length < f ∧ l1.length ≤ maxLen) := fun h => by
                have h1 := Hl1.out h
                have hE : E = 0 := by
                  rcases Decidable.em (E = 0) with e | e
                  · exact e
                  · rw [isE, if_pos e] at h; exact absurd h e
                subst hE
                have h2 := (HMd.out.2 rfl).2
                have h3 := sgn_len (signF j) l (by rw [isE] at h; simpa using h)
                rw [h1]
                unfold maxLen
                omega
              obtain ⟨i26, hi26, hz0, hz1, hz2⟩ := info_parts Try.info33
              have hn1 : Fo.len acc + 1 ≤ maxLen := by rw [Hacc.out]; unfold maxLen; omega
              have hn2 : (Fo.len acc + 1) * 40 ≤ 140737488355328 := by rw [Hacc.out]; omega
              obtain ⟨E1, hE1⟩ : ∃ E1, E1 = isE (signF j) l E := ⟨_, rfl⟩
              have HE1 := hide hE1
              rw [← hE1] at HR2' Hlen1 Hl1
              clear hR2' hl1 hf2 hE1
              go_upto_region 29 with fail
              go_region_law (first
                | (refine step_append_lies _ (by rfl) _ _ _ (by rfl) (B + 1) 33 i26 (.agg #[.bool false, .int .i64 0, .slice none 0 0]) 3 40 Try.underlying31 hi26 hz0 hz1 hz2 rfl (by decide) (.slice z1 (Fo.len acc) z3) (Fo.len acc) xs (by rfl) Hown3.out ⟨w3.heap.size, 0, none⟩ 1 1 [.bool xv, .int .i64 xn, .slice a1 a2 a3] (by rfl) (by rfl) Hnews.out (by simp [Value.oneCell']) (by decide) hn1 hn2 (by simp; omega) (w3.heap.size + 1) (by simp) ?_; intro g cap w4 ho4 hg4 hat4 hlt4; have x2 := out_cell hg4 hB3 Hno.out g3; have xf := out_frozen hg4 hB3 Hno.out gf3)
                | (go_simp; go_at_call 109; refine (HI.out W _ l1 E1 _ rb HN.out Hs.out hWr ?_ ?_ Hlen1.out).mono ?_; (exact HB2W.out.drew); (exact HR2'.out.of_block rfl); rintro e w3 hT; obtain ⟨⟨xv, xn⟩, xk, a1, a2, a3, l2, rfl, hSk, hf3, hR3, hl2⟩ := hT
                   have hs3 := hf3.size; have eB3 : w3.heap[B]? = w2.heap[B]? := (hf3.block B hB2 (fun e => by simp at e; omega) (fun e => by cases e)); have g3 : w3.cell? ⟨B, 2, none⟩ = some (.slice z1 (Fo.len acc) z3) := ((World.cell?_of_block eB3).trans g2); have gf3 : ∀ i, w3.frozen? ⟨B, i, none⟩ = false := (fun i => (World.frozen?_of_block eB3).trans (gf i)); have hB3 : B < w3.heap.size := Nat.lt_of_lt_of_le hB2 hs3
                   have Hno : Hid (some B ≠ (Value.slice z1 (Fo.len acc) z3).ownBlock) := (fun e => by have := (owns_at Hown2.out _ e.symm).1; omega)
                   have Hown3 : Hid ((w3.alloc (.cells #[.bool xv, .int .i64 xn, .slice a1 a2 a3] 33)).ownsRow (B + 1) 33 3 (.slice z1 (Fo.len acc) z3) (Fo.len acc) xs) := (owns_keep Hown2.out (fun g hg => by have h := owns_at Hown2.out g hg; have hs : w2.heap.size ≤ w3.heap.size := hs3; rw [Below.heap_alloc _ _ _ (by omega)]; exact hf3.block g h.2 (fun e => by simp at e; omega) (fun e => by cases e)))
                   have Hnews : Hid (∀ j u, [Value.bool xv, .int .i64 xn, .slice a1 a2 a3][j]? = some u → (w3.alloc (.cells #[.bool xv, .int .i64 xn, .slice a1 a2 a3] 33)).cell? ((⟨w3.heap.size, 0, none⟩ : Addr).add j) = some u) := (World.news_of_block (cs := #[.bool xv, .int .i64 xn, .slice a1 a2 a3]) (heap_alloc_new w3 _))))
              all_goals
                have Hst := hide (tm_next (x := (xv, xn)) (k := xk) Hacc.out HRs.out HMd.out hjm HR1.out HR2.out q0 q1 q2 Hqf.out hAB HE1.out Hl1.out Hf2.out hs2 HR2'.out hSk ⟨hf3.os, hf3.tape, hf3.output, hf3.size, hf3.block⟩ hR3 hl2 rfl ho4 hg4 hat4 hlt4)
                clear hSk hf3 hR3 hl2 ho4 hg4 hat4 hlt4 x2 xf g3 gf3 Hown3 Hnews hi26 hz0 hz1 hz2
                go_wp2_with fail
                go_roundw
                case rel => exact ⟨j + 1, by omega, by go_num, Hst.out⟩
                case measure => simp [intOf]; omega
          · have hje : j = m := by omega
            subst hje
            by_cases hm0 : j = 0
            · have Hfin := hide (md_zero hm0 HMd.out)
              have Hv : Hid (readT s (f + 1) (c :: r) = (0, ((false, nn), acc), l)) := by
                have hA : argsT (readT s f) (j : Int) r = (0, .nil, r) := by rw [argsT, if_pos (by omega)]
                rw [Hid, Ht.out, hA, Hfin.out.2.1, Hfin.out.2.2]
                simp
              have HSB := hide (row_fr HR1.out HR2.out (Fr.refl wr (some rb) none) (by omega))
              have HRs0 : Hid (Rs w rb (.slice (some ⟨sb, so, none⟩) s.length sc) l 0 wr) := by
                have := HRs.out
                rw [Hfin.out.1] at this
                exact this
              obtain ⟨-, -, r0, r1, r2, rf, -⟩ := HRs.out
              have hj0 : ¬ (0 : Int) < (j : Int) := by omega
              have hge : ¬ ((j : Int) < (j : Int)) := by omega
              clear hjm hm0
              go_wp2_with fail
              refine bodyPost_ret (v := .agg #[.bool false, .int .i64 nn, .slice z1 (Fo.len acc) z3]) (by simp [results, Try.results109, go_sem, r0, r1, r2]) rfl (TermPost.mk ⟨(false, nn), acc, _, _, _, l, rfl, ?_, (HRs0.out.fin _ _ _).2, ?_, fun _ => ?_⟩)
              · exact (HSB.out.set3 (b := w.heap.size) (o := 0) (by omega)).frame (fun q hq => ⟨by omega, by rw [World.size_setCell, World.size_setCell, World.size_setCell]; exact hq.2⟩) (fun _ _ _ => rfl)
              · rw [Hd.out, Hv.out]; exact (HRs0.out.fin _ _ _).1
              · rw [Hv.out]; exact ⟨rfl, rfl⟩
            · have hm1 : (0 : Int) < (j : Int) := by omega
              have hge : ¬ ((j : Int) < (j : Int)) := by omega
              have Hlm : Hid (E = 0 → l.length ≤ maxLen) := fun h => by
                have := (HMd.out.2 h).2
                unfold maxLen
                omega
              have hj00 : 0 < j := by omega
              clear hjm hm0
              go_wp2_with fail
              refine (is41 rb _ l E wr HRs.out.1 Hlm.out).mono ?_
              rintro e w2 ⟨rfl, ⟨l3, hR3, hl3⟩, hf3, hs3⟩
              have HRs3 := hide (HRs.out.fr hf3 hR3)
              have HSB := hide (row_fr HR1.out HR2.out hf3 (by omega))
              have Hfin := hide (HMd.out.fin hj00 rfl hl3)
              obtain ⟨E3, hE3⟩ : ∃ E3, E3 = isE 41 l E := ⟨_, rfl⟩
              rw [← hE3] at Hfin HRs3
              have Hv : Hid ((readT s (f + 1) (c :: r)).1 = E3) := by
                rw [Hid, Ht.out]
                by_cases h : E3 = 0
                · rw [if_neg (by rw [Hfin.out.1]; simpa using h), h]
                · rw [if_pos (by rw [Hfin.out.1]; exact h), Hfin.out.1]
              have Hv2 : Hid (E3 = 0 → readT s (f + 1) (c :: r) = (0, ((false, nn), acc), l3)) := fun h => by
                rw [Ht.out, if_neg (by rw [Hfin.out.1]; simpa using h), Hfin.out.2 h]
              have eB : w2.heap[B]? = wr.heap[B]? := hf3.block B hBl (fun e => by simp at e; omega) (fun e => by cases e)
              have q0' := (World.cell?_of_block (a := ⟨B, 0, none⟩) eB).trans q0
              have q1' := (World.cell?_of_block (a := ⟨B, 1, none⟩) eB).trans q1
              have q2' := (World.cell?_of_block (a := ⟨B, 2, none⟩) eB).trans q2
              obtain ⟨-, -, r0, r1, r2, rf, -⟩ := HRs3.out
              clear hR3 hl3 hf3 hE3 q0 q1 q2
              go_wp2_with fail
              refine bodyPost_ret (v := .agg #[.bool false, .int .i64 nn, .slice z1 (Fo.len acc) z3]) (by simp [results, Try.results109, go_sem, r0, r1, r2]) rfl (TermPost.mk ⟨(false, nn), acc, _, _, _, l3, rfl, ?_, (HRs3.out.fin _ _ _).2, ?_, fun h => ?_⟩)
              · exact (HSB.out.set3 (b := w.heap.size) (o := 0) (by omega)).frame (fun q hq => ⟨by omega, by rw [World.size_setCell, World.size_setCell, World.size_setCell]; exact hq.2⟩) (fun _ _ _ => rfl)
              · rw [Hd.out, Hv.out]; exact (HRs3.out.fin _ _ _).1
              · rw [Hd.out, Hv.out] at h
                rw [Hv2.out h]; exact ⟨rfl, rfl⟩
end Go.Proofs.Ytiilckjnggeeoad

namespace Go.Proofs.Ytiilckjnggeeoad
open Go.RowKit Go.Deep Go.ChangeShapes Go.WideShapes
attribute [local go_sem ↓] Go.wp_at_zero Go.wp_at_succ
theorem readT_err {s : List Int} : ∀ {f : Nat} {l : List UInt8}, (readT s f l).1 ≠ 0 → (readT s f l).2 = (((false, 0), .nil), [])
  | 0, _, _ => rfl
  | _ + 1, [], _ => rfl
  | f + 1, c :: r, h => by
    rw [readT] at h ⊢
    by_cases h88 : c = 88
    · rw [if_pos h88] at h ⊢
      cases r with
      | nil => rfl
      | cons d r =>
        rw [rvar] at h ⊢
        by_cases hd : (d.toNat : Int) - 48 < 0 ∨ 5 ≤ (d.toNat : Int) - 48
        · rw [if_pos hd]
        · rw [if_neg hd] at h; exact absurd rfl h
    · rw [if_neg h88] at h ⊢
      by_cases hn : (c.toNat : Int) - 97 < 0 ∨ (s.length : Int) ≤ (c.toNat : Int) - 97
      · rw [if_pos hn]
      · rw [if_neg hn] at h ⊢
        by_cases ha : (argsT (readT s f) (s.getD ((c.toNat : Int) - 97).toNat 0) r).1 = 0
        · rw [if_neg (by simpa using ha)] at h; exact absurd rfl h
        · rw [if_pos ha]
set_option maxHeartbeats 1000000 in
set_option maxRecDepth 100000 in
theorem readR_any (s : List Int) (sv : Value) (l : List UInt8) (w : World) (hN : NIn w s sv) (hs : s.all okNum = true) (hl : l.length < maxLen) :
    Calls Try.prog 99 #[sv, str l] w fun e w' => ∃ a1 a2 a3, e = .returned (.tuple #[.agg #[.bool (readT s (l.length + 1) l).2.1.1.1, .int .i64 (readT s (l.length + 1) l).2.1.1.2, .slice a1 a2 a3], str (readT s (l.length + 1) l).2.2, .int .i64 (readT s (l.length + 1) l).1]) ∧ SB (New w w') w' (readT s (l.length + 1) l).2.1.2 (.slice a1 a2 a3) ∧ Below w.heap.size w w' := by
  have HN := hide hN
  have Hs := hide hs
  obtain ⟨sa, sc, sb, so, rfl, -, -, -, -⟩ := hN
  unfold maxLen at hl
  have Hlm : Hid (l.length < l.length + 1 ∧ l.length ≤ maxLen) := ⟨by omega, by unfold maxLen; omega⟩
  obtain ⟨q, hq⟩ : ∃ q, q = readT s (l.length + 1) l := ⟨_, rfl⟩
  have Hq := hide hq
  rw [← hq]
  have Hqe : Hid (q.1 ≠ 0 → q.2 = (((false, 0), .nil), [])) := fun h => by rw [hq] at h ⊢; exact readT_err h
  have Hrd : Hid (rdE s (l.length + 1) l 0 = q.1) := by rw [Hid, rdE, hq]; simp
  clear hq hs
  obtain ⟨q1, ⟨⟨qv, qn⟩, qk⟩, q3⟩ := q
  simp only at Hrd Hqe ⊢
  go_enter Try.func99, Try.ntmps99
  go_upto_region 2 with fail
  generalize hw0 : (w.alloc (.cells #[.bool false, .int .i64 0, .slice none 0 0] 33)).alloc (.cells #[.slice sa s.length sc, .string ⟨l.toArray⟩, .int .i64 0] 121) = w0
  have hB0 : Below w.heap.size w w0 := by rw [← hw0]; exact (below_alloc _ _).alloc (by simp) _
  have r0 : w0.cell? ⟨w.heap.size, 0, none⟩ = some (.bool false) := by rw [← hw0]; simp
  have r1 : w0.cell? ⟨w.heap.size, 1, none⟩ = some (.int .i64 0) := by rw [← hw0]; simp
  have r2 : w0.cell? ⟨w.heap.size, 2, none⟩ = some (.slice none 0 0) := by rw [← hw0]; simp
  have rf : ∀ i, w0.frozen? ⟨w.heap.size, i, none⟩ = false := fun i => by rw [← hw0]; simp
  have HR : Hid (RdAt w0 (w.heap.size + 1) (.slice sa s.length sc) l 0) := by
    rw [← hw0]
    exact ⟨by simp, by simp, by simp, fun i => by simp⟩
  have hs0 : w.heap.size + 1 < w0.heap.size := HR.out.lt
  clear hw0
  go_wp2_with fail
  refine (term_any s (l.length + 1) w _ l 0 w0 (w.heap.size + 1) HN.out Hs.out (by omega) hB0 HR.out (fun _ => Hlm.out)).mono ?_
  rintro e w1 ⟨⟨xv, xn⟩, xk, a1, a2, a3, l', rfl, hSk, hf1, hR1, hl1⟩
  rw [Hrd.out] at hR1 hl1
  have eA : w1.heap[w.heap.size]? = w0.heap[w.heap.size]? := hf1.block _ (by omega) (fun e => by simp at e) (fun e => by cases e)
  have r0' := (World.cell?_of_block (a := ⟨w.heap.size, 0, none⟩) eA).trans r0
  have r1' := (World.cell?_of_block (a := ⟨w.heap.size, 1, none⟩) eA).trans r1
  have r2' := (World.cell?_of_block (a := ⟨w.heap.size, 2, none⟩) eA).trans r2
  have rf' : ∀ i, w1.frozen? ⟨w.heap.size, i, none⟩ = false := fun i => (World.frozen?_of_block eA).trans (rf i)
  have hB1 : Below w.heap.size w w1 := hB0.trans (hf1.below hB0.size (fun g hg => by cases hg; omega) (fun g hg => by cases hg))
  have hs1 := hf1.size
  have HSk := hide hSk
  have Hl1 := hide hl1
  have HR1 := hide hR1
  clear r0 r1 r2 rf hf1 hSk hl1 hR1 eA HR
  go_upto_region 3 with fail
  generalize hw2 : w1.alloc (.cells #[.bool xv, .int .i64 xn, .slice a1 a2 a3] 33) = w2
  have hb2 : Below w1.heap.size w1 w2 := by rw [← hw2]; exact below_alloc _ _
  have u0 : w2.cell? ⟨w1.heap.size, 0, none⟩ = some (.bool xv) := by rw [← hw2]; simp
  have u1 : w2.cell? ⟨w1.heap.size, 1, none⟩ = some (.int .i64 xn) := by rw [← hw2]; simp
  have u2 : w2.cell? ⟨w1.heap.size, 2, none⟩ = some (.slice a1 a2 a3) := by rw [← hw2]; simp
  have r0 := grow_cell hb2 _ _ r0'
  have r1 := grow_cell hb2 _ _ r1'
  have r2 := grow_cell hb2 _ _ r2'
  have rf : ∀ i, w2.frozen? ⟨w.heap.size, i, none⟩ = false := fun i => (hb2.frozen (by show w.heap.size < _; omega)).trans (rf' i)
  obtain ⟨k0, k1, k2, -⟩ := HR1.out.of_block (hb2.block _ HR1.out.lt)
  have hB2 := hB1.trans (hb2.mono (by omega))
  have HSk2 := hide (HSk.out.grow (fun q hq => hq.2) hb2)
  clear hw2 r0' r1' r2' rf' HSk
  by_cases he : q1 = 0
  · subst he
    obtain ⟨hx, hl'⟩ := Hl1.out rfl
    rw [← Hq.out] at hx hl'
    simp only [Prod.mk.injEq] at hx hl'
    obtain ⟨⟨rfl, rfl⟩, rfl⟩ := hx
    subst hl'
    go_wp2_with fail
    go_region
    all_goals
      go_wp2_with fail
      exact bodyPost_ret (v := .tuple #[.agg #[.bool xv, .int .i64 xn, .slice a1 a2 a3], .string ⟨l'.toArray⟩, .int .i64 0]) (by simp [results, Try.results99, go_sem, r0, r1, r2]) rfl ⟨_, _, _, rfl, (HSk2.out.set3 (b := w.heap.size) (o := 0) (fun h => by have h1 : w0.heap.size ≤ w.heap.size := h.1; omega)).frame (fun q hq => ⟨by have h1 : w0.heap.size ≤ q := hq.1; omega, by have h1 := hq.2; have h2 := hb2.size; simp [World.setCell]; omega⟩) (fun _ _ _ => rfl), (set3_below (o := 0) hB2 (Nat.le_refl _)).drew⟩
  · have heb : (q1 != 0) = true := by simpa using he
    have hqe := Hqe.out he
    simp only [Prod.mk.injEq] at hqe
    obtain ⟨⟨⟨rfl, rfl⟩, rfl⟩, rfl⟩ := hqe
    clear he
    go_wp2_with fail
    go_region
    all_goals
      go_wp2_with fail
      exact bodyPost_ret (v := .tuple #[.agg #[.bool false, .int .i64 0, .slice none 0 0], .string ⟨#[]⟩, .int .i64 q1]) (by simp [results, Try.results99, go_sem, r0, r1, r2]) rfl ⟨_, _, _, rfl, SB.nil _ _, (set3_below (o := 0) hB2 (Nat.le_refl _)).drew⟩
set_option maxRecDepth 100000 in
set_option maxHeartbeats 1000000 in
theorem parseR_new (s : List Int) (sv : Value) (l : List UInt8) (w : World) (hN : NIn w s sv) (hl : l.length ≤ maxLen) :
    Calls Try.prog 80 #[sv, str l] w fun e w' => ∃ a, e = .returned (.tuple #[trm (parseT s l).2.1 a, .int .i64 (parseT s l).1]) ∧ SB (New w w') w' (parseT s l).2.2 a ∧ Below w.heap.size w w' := by
  have HN := hide hN
  obtain ⟨sa, sc, sb, so, rfl, -, -, -, -⟩ := hN
  unfold maxLen at hl
  go_enter Try.func80, Try.ntmps80
  go_wp2_with fail
  refine (wsigR_any s _ _ (HN.out.alloc _)).mono ?_
  rintro e w' ⟨rfl, hw'⟩
  rw [hw']
  clear hw' w'
  by_cases hw : wsig s = 0
  · have Hw := hide hw
    simp only [hw]
    by_cases h48 : 48 < l.length
    · have Hf : Hid (parseT s l = (4, zeroT)) := by rw [Hid, parseT, if_neg (by simpa using hw), if_pos h48]
      have h48' : (48 : Int) < (l.length : Int) := by omega
      clear hw
      go_wp2_with fail
      rw [Hf.out]
      exact bodyPost_ret (v := .tuple #[.agg #[.bool false, .int .i64 0, .slice none 0 0], .int .i64 4]) (by simp [results, Try.results80, go_sem]) rfl ⟨_, rfl, SB.nil _ _, below_alloc _ _⟩
    · have Ht : Hid (parseT s l = if (readT s (l.length + 1) l).1 ≠ 0 then ((readT s (l.length + 1) l).1, zeroT) else
          if (readT s (l.length + 1) l).2.2 ≠ [] then (2, zeroT) else
          if wrongF s (readT s (l.length + 1) l).2.1.1 (readT s (l.length + 1) l).2.1.2 ≠ 0 then (wrongF s (readT s (l.length + 1) l).2.1.1 (readT s (l.length + 1) l).2.1.2, zeroT) else
          (0, (readT s (l.length + 1) l).2.1)) := by rw [Hid, parseT, if_neg (by simpa using hw), if_neg h48]
      have h48' : ¬ (48 : Int) < (l.length : Int) := by omega
      have Hok := hide (wsig_ok hw).1
      clear hw
      go_wp2_with fail
      refine (readR_any s _ l _ (HN.out.alloc _) Hok.out (by unfold maxLen; omega)).mono ?_
      rintro e w1 ⟨z1, z2, z3, rfl, hSB, hb1⟩
      obtain ⟨b0, b1, b2, bf, hB, hsz⟩ := box_full hb1
      generalize readT s (l.length + 1) l = q at *
      obtain ⟨q1, ⟨⟨qv, qn⟩, qk⟩, q3⟩ := q
      simp only at Ht hSB ⊢
      have HSB : Hid (SB (fun q => w.heap.size + 1 ≤ q ∧ q < w1.heap.size) w1 qk (.slice z1 z2 z3)) := hSB.frame (fun q hq => by have h1 := hq.1; simp at h1; exact ⟨h1, hq.2⟩) (fun _ _ _ => rfl)
      clear hb1 hSB
      by_cases he : q1 = 0
      · subst he
        rw [if_neg (by simp)] at Ht
        cases q3 with
        | cons d r =>
          rw [if_pos (by simp)] at Ht
          go_wp2_with fail
          rw [Ht.out]
          refine bodyPost_ret (v := .tuple #[.agg #[.bool false, .int .i64 0, .slice none 0 0], .int .i64 2]) (by simp [results, Try.results80, go_sem, b0, b1, b2, hsz]) rfl ⟨_, rfl, SB.nil _ _, ?_⟩
          exact (set3_below (o := 0) hB (Nat.le_refl _)).alloc (by rw [set3_size]; omega) _
        | nil =>
          rw [if_neg (by simp)] at Ht
          have HSx := hide (HSB.out.toS.alloc (.cells #[.bool qv, .int .i64 qn, .slice z1 z2 z3] 33))
          have hw1 : w.heap.size ≤ w1.heap.size := by omega
          go_wp2_with fail
          refine (wrongR_any s _ (qv, qn) qk _ _ ((HN.out.below hB).alloc _) HSx.out).mono ?_
          rintro e w2 ⟨rfl, hb2⟩
          obtain ⟨d0, d1, d2, df, hB2, hsz2⟩ := box_full hb2
          have c0 := grow_cell hB2 _ _ b0
          have c1 := grow_cell hB2 _ _ b1
          have c2 := grow_cell hB2 _ _ b2
          have cf : ∀ i, w2.frozen? ⟨w.heap.size, i, none⟩ = false := fun i => (hB2.frozen (by show w.heap.size < _; omega)).trans (bf i)
          have hBB := below_step hB hB2
          have HSB2 : Hid (SB (fun q => w.heap.size + 1 ≤ q ∧ q < w1.heap.size) w2 qk (.slice z1 z2 z3)) := HSB.out.frame (fun _ h => h) (fun q i hq => hB2.cell (p := ⟨q, i, none⟩) hq.2)
          clear hb2 b0 b1 b2 bf
          by_cases he : wrongF s (qv, qn) qk = 0
          · rw [if_neg (by simpa using he)] at Ht
            simp only [he]
            clear he
            go_wp2_with fail
            rw [Ht.out]
            refine bodyPost_ret (v := .tuple #[.agg #[.bool qv, .int .i64 qn, .slice z1 z2 z3], .int .i64 0]) (by simp [results, Try.results80, go_sem, c0, c1, c2]) rfl ⟨_, rfl, ?_, set3_below (o := 0) hBB (Nat.le_refl _)⟩
            have hs12 : w1.heap.size ≤ w2.heap.size := hB2.size
            exact (HSB2.out.set3 (b := w.heap.size) (o := 0) (by omega)).frame (fun q hq => ⟨by omega, by simp [World.setCell]; omega⟩) (fun _ _ _ => rfl)
          · rw [if_pos he] at Ht
            have heb : (wrongF s (qv, qn) qk != 0) = true := by simpa using he
            generalize wrongF s (qv, qn) qk = E at *
            clear he
            go_wp2_with fail
            rw [Ht.out]
            exact bodyPost_ret (v := .tuple #[.agg #[.bool false, .int .i64 0, .slice none 0 0], .int .i64 E]) (by simp [results, Try.results80, go_sem, c0, c1, c2]) rfl ⟨_, rfl, SB.nil _ _, set3_below (o := 0) hBB (Nat.le_refl _)⟩
      · rw [if_pos he] at Ht
        have heb : (q1 != 0) = true := by simpa using he
        clear he
        go_wp2_with fail
        rw [Ht.out]
        refine bodyPost_ret (v := .tuple #[.agg #[.bool false, .int .i64 0, .slice none 0 0], .int .i64 q1]) (by simp [results, Try.results80, go_sem, b0, b1, b2, hsz]) rfl ⟨_, rfl, SB.nil _ _, ?_⟩
        exact (set3_below (o := 0) hB (Nat.le_refl _)).alloc (by rw [set3_size]; omega) _
  · have Hf : Hid (parseT s l = (wsig s, zeroT)) := by rw [Hid, parseT, if_pos hw]
    have heb : (wsig s != 0) = true := by simpa using hw
    generalize wsig s = E at *
    clear hw
    go_wp2_with fail
    rw [Hf.out]
    exact bodyPost_ret (v := .tuple #[.agg #[.bool false, .int .i64 0, .slice none 0 0], .int .i64 E]) (by simp [results, Try.results80, go_sem]) rfl ⟨_, rfl, SB.nil _ _, below_alloc _ _⟩
end Go.Proofs.Ytiilckjnggeeoad

namespace Go.Proofs.Ytiilckjnggeeoad
open Go.RowKit Go.Deep Go.ChangeShapes Go.WideShapes
attribute [local go_sem ↓] Go.wp_at_zero Go.wp_at_succ
def B3 (w : World) (b : Nat) (x y z : Value) : Prop := w.cell? ⟨b, 0, none⟩ = some x ∧ w.cell? ⟨b, 1, none⟩ = some y ∧ w.cell? ⟨b, 2, none⟩ = some z ∧ ∀ i, w.frozen? ⟨b, i, none⟩ = false
theorem B3.below {w w' : World} {b : Nat} {x y z : Value} (h : B3 w b x y z) (hb : Below w.heap.size w w') : B3 w' b x y z :=
  ⟨grow_cell hb _ _ h.1, grow_cell hb _ _ h.2.1, grow_cell hb _ _ h.2.2.1, fun i => (hb.frozen (p := ⟨b, i, none⟩) (by have := World.block_lt_of_cell? _ _ h.1; exact this)).trans (h.2.2.2 i)⟩
theorem B3.lt {w : World} {b : Nat} {x y z : Value} (h : B3 w b x y z) : b < w.heap.size := World.block_lt_of_cell? _ _ h.1
theorem B3.new (w : World) (x y z : Value) (t : TypeId) : B3 (w.alloc (.cells #[x, y, z] t)) w.heap.size x y z := ⟨by simp, by simp, by simp, fun i => by simp⟩
theorem B3.other {w : World} {b b' o : Nat} {x y z x' y' z' : Value} (h : B3 w b x y z) (hb : b ≠ b') : B3 (set3 w b' o x' y' z') b x y z :=
  ⟨by rw [set3_other (.inl hb)]; exact h.1, by rw [set3_other (.inl hb)]; exact h.2.1, by rw [set3_other (.inl hb)]; exact h.2.2.1, fun i => by rw [set3_frozen]; exact h.2.2.2 i⟩
theorem B3.set {w : World} {b : Nat} {x y z x' y' z' : Value} (h : B3 w b x y z) : B3 (set3 w b 0 x' y' z') b x' y' z' := by
  obtain ⟨h0, h1, h2, hf⟩ := h
  obtain ⟨e0, e1, e2⟩ := set3_cells (o := 0) (x := x') (y := y') (z := z') h0 h1 h2
  exact ⟨e0, e1, e2, fun i => by rw [set3_frozen]; exact hf i⟩
def WIn2 (w : World) (Z : List (List Int)) (v : Value) : Prop :=
  ∃ (a : Option Addr) (c b : Nat), v = .slice a Z.length c ∧ (0 < Z.length → a = some ⟨b, 0, none⟩) ∧ Z.length ≤ c ∧ c ≤ maxLen ∧ ∀ i p, Z[i]? = some p → ∃ pv, w.cell? ⟨b, i, none⟩ = some pv ∧ NIn w p pv
theorem WIn2.below {w w' : World} (hb : Below w.heap.size w w') {Z : List (List Int)} {v : Value} (h : WIn2 w Z v) : WIn2 w' Z v := by
  obtain ⟨a, c, b, h1, h2, h3, h4, h5⟩ := h
  refine ⟨a, c, b, h1, h2, h3, h4, fun i p hp => ?_⟩
  obtain ⟨pv, k1, k2⟩ := h5 i p hp
  exact ⟨pv, grow_cell hb _ _ k1, k2.below hb⟩
theorem ways_in {w : World} {lo : Nat} {v : Value} {g : Option Nat} {ys : List Value} {Z : List (List Int)} (h : w.ownsRow lo 22 1 v ys.length ys) (hP : Pw w lo g ys Z) : WIn2 w Z v := by
  have hl := hP.1
  rcases h.2 with ⟨hv, h0⟩ | ⟨q, cap, cur, hv, _, _, hn, hm, _, _⟩
  · have hZ : Z.length = 0 := by omega
    refine ⟨none, 0, 0, by rw [hv, hZ], fun h => by omega, by omega, Nat.zero_le _, fun i p hp => ?_⟩
    have := (List.getElem?_eq_some_iff.1 hp).1
    omega
  · refine ⟨some ⟨q, 0, none⟩, cap, q, by rw [hv, hl], fun _ => rfl, by omega, hm, fun i p hp => ?_⟩
    have hi : i < Z.length := (List.getElem?_eq_some_iff.1 hp).1
    obtain ⟨pv, hpv⟩ : ∃ pv, ys[i]? = some pv := ⟨ys[i]'(by omega), by simp⟩
    refine ⟨pv, ?_, own_nin (hP.2 i pv p hpv hp).1⟩
    subst hv
    rw [h.cellAt i (by omega), hpv]
def AtIs (p : List Int) (x : Bool × Int) (k : Fo) (b : Bool) (z : Bool × Int) (m : Fo) : Prop := atT p x k = (if b then some (z, m) else none) ∧ (b = false → z = (false, 0) ∧ m = .nil)
theorem at_is (p : List Int) (x : Bool × Int) (k : Fo) : ∃ b z m, AtIs p x k b z m := by
  cases h : atT p x k with
  | none => exact ⟨false, (false, 0), .nil, h, fun _ => ⟨rfl, rfl⟩⟩
  | some y => exact ⟨true, y.1, y.2, h, fun h => by cases h⟩
theorem tl_at {p : List Int} {pv : Value} {x z : Bool × Int} {k m : Fo} {b : Bool} {a : Value} {w : World} (h : AtIs p x k b z m) (hS : SIn w k a) (hN : NIn w p pv) (hl : Fo.len k ≤ 1000) (hn : Fo.narrow k) :
    Calls Try.prog 79 #[.agg #[.bool x.1, .int .i64 x.2, a], pv] w fun e w' => ∃ a1 a2 a3, e = .returned (.tuple #[.agg #[.bool z.1, .int .i64 z.2, .slice a1 a2 a3], .bool b]) ∧ SB (New w w') w' m (.slice a1 a2 a3) ∧ Below w.heap.size w w' := by
  refine (at_any x k a p pv w hS hN hl hn).mono ?_
  rintro e w' ⟨hb, h1⟩
  cases b with
  | false =>
    obtain ⟨rfl, rfl⟩ := h.2 rfl
    rcases h1 with ⟨_, he⟩ | ⟨y, l, a', h2, _⟩
    · exact ⟨none, 0, 0, he, SB.nil _ _, hb⟩
    · rw [h.1] at h2; cases h2
  | true =>
    rcases h1 with ⟨h2, _⟩ | ⟨y, l, a', h2, he, h3⟩
    · rw [h.1] at h2; cases h2
    · rw [h.1] at h2
      cases h2
      obtain ⟨a1, a2, a3, rfl⟩ := slice_of_sin h3.toS
      exact ⟨a1, a2, a3, he, h3, hb⟩
end Go.Proofs.Ytiilckjnggeeoad

namespace Go.Proofs.Ytiilckjnggeeoad
open Go.RowKit
theorem countP_less {α : Type} {f g : α → Bool} {i : α} : ∀ {l : List α}, (∀ x, g x = true → f x = true) → i ∈ l → f i = true → g i = false → l.countP g < l.countP f
  | [], _, h, _, _ => by cases h
  | y :: r, hfg, h, hf, hg => by
    have hle : r.countP g ≤ r.countP f := List.countP_mono_left (fun x _ hx => hfg x hx)
    rw [List.countP_cons, List.countP_cons]
    rcases List.mem_cons.1 h with rfl | h
    · rw [hf, hg]; simp; omega
    · have := countP_less (l := r) hfg h hf hg
      by_cases hy : g y = true
      · rw [hy, hfg y hy]; simp; omega
      · have : g y = false := by simpa using hy
        rw [this]
        simp only [Bool.false_eq_true, if_false]
        split <;> omega
theorem getD_set (l : Array Bool) (i j : Nat) (d : Bool) (hi : i < l.size) : (l.setIfInBounds i true).getD j d = (j == i || l.getD j d) := by
  by_cases e : j = i
  · subst e
    simp [Array.getD_eq_getD_getElem?, hi]
  · have e' : (j == i) = false := by simpa using e
    rw [e']
    simp only [Array.getD_eq_getD_getElem?, Array.getElem?_setIfInBounds, Bool.false_or]
    rw [if_neg (fun h => e h.symm)]
theorem getD_in (l : Array Bool) (j : Nat) (hj : j < l.size) (d d' : Bool) : l.getD j d = l.getD j d' := by
  simp [Array.getD_eq_getD_getElem?, hj]
section
variable {P : Program} {ops : Array Oper} {Q : Exit → Act → World → Prop} {md : Region.Mode}
def Region.back (ops : Array Oper) : Bool := (List.range ops.size).all fun i => ((ops[i]?).map (·.after.all fun e => decide (e.on < i))).getD true
theorem all_listed {listed : Array Bool} (hs : listed.size = ops.size) (hb : Region.back ops = true) (hr : Region.ready md ops listed = []) : ∀ i, i < ops.size → listed.getD i false = true := by
  intro i
  induction i using Nat.strongRecOn with
  | _ i ih =>
    intro hi
    by_cases h : listed.getD i false = true
    · exact h
    · exfalso
      have h0 : listed.getD i true = false := by
        rw [getD_in listed i (by omega) true false]
        simpa using h
      have ho : ops[i]? = some ops[i] := by simp [hi]
      have hm : i ∈ Region.ready md ops listed := by
        unfold Region.ready
        rw [List.mem_filter]
        refine ⟨List.mem_range.2 hi, ?_⟩
        rw [h0, ho]
        simp only [Bool.not_false, Bool.true_and, Option.map_some, Option.getD_some]
        rw [Array.all_eq_true']
        intro e he
        have h1 := List.all_eq_true.1 hb i (List.mem_range.2 hi)
        rw [ho] at h1
        simp only [Option.map_some, Option.getD_some] at h1
        rw [Array.all_eq_true'] at h1
        have h2 := of_decide_eq_true (h1 e he)
        rw [ih e.on h2 (by omega)]
        simp
      rw [hr] at hm
      cases hm
theorem wpAny_inv {Inv : (Nat → Bool) → Act → World → Prop} (hb : Region.back ops = true)
    (hstep : ∀ (D : Nat → Bool) (a : Act) (w : World) (i : Nat) (o : Oper), i < ops.size → Inv D a w → D i = false → ops[i]? = some o → (∀ e ∈ o.after, Region.binds md e = true → D e.on = true) → wpOp P ops Q i (Inv fun j => j == i || D j) a w)
    (hdone : ∀ (D : Nat → Bool) (a : Act) (w : World), Inv D a w → (∀ i, i < ops.size → D i = true) → Q .normal a w) :
    ∀ (fuel : Nat) (listed : Array Bool) (a : Act) (w : World), listed.size = ops.size → (List.range ops.size).countP (fun i => !listed.getD i false) ≤ fuel → Inv (fun j => listed.getD j false) a w → wpAny P md ops Q fuel listed a w := by
  intro fuel
  induction fuel with
  | zero =>
    intro listed a w hs hc hI
    have hall : ∀ i, i < ops.size → listed.getD i false = true := fun i hi => by
      have h0 : (List.range ops.size).countP (fun i => !listed.getD i false) = 0 := by omega
      rw [List.countP_eq_zero] at h0
      simpa using h0 i (List.mem_range.2 hi)
    refine ⟨?_, hdone _ a w hI hall⟩
    unfold Region.ready
    rw [List.filter_eq_nil_iff]
    intro i hi
    have hi' := List.mem_range.1 hi
    rw [getD_in listed i (by omega) true false, hall i hi']
    simp
  | succ fuel ih =>
    intro listed a w hs hc hI
    refine ⟨fun hr => hdone _ a w hI (all_listed hs hb hr), fun i hi => ?_⟩
    unfold Region.ready at hi
    rw [List.mem_filter] at hi
    obtain ⟨hi1, hi2⟩ := hi
    have hi' := List.mem_range.1 hi1
    have ho : ops[i]? = some ops[i] := by simp [hi']
    rw [ho] at hi2
    simp only [Option.map_some, Option.getD_some, Bool.and_eq_true, Bool.not_eq_true'] at hi2
    obtain ⟨h1, h2⟩ := hi2
    have h1' : listed.getD i false = false := by rw [getD_in listed i (by omega) false true]; exact h1
    have := hstep _ a w i _ hi' hI h1' ho (fun e he hbd => by
      rw [Array.all_eq_true'] at h2
      have := h2 e he
      rw [hbd] at this
      simpa using this)
    refine wpOp_mono (fun a' w' h => ?_) this
    refine ih _ a' w' (by simp [hs]) ?_ ?_
    · have hlt := countP_less (i := i) (f := fun j => !listed.getD j false) (g := fun j => !(listed.setIfInBounds i true).getD j false) (l := List.range ops.size) (fun x hx => by
        rw [getD_set _ _ _ _ (by omega)] at hx
        simp at hx
        simp [hx.2]) hi1 (by simp [h1']) (by rw [getD_set _ _ _ _ (by omega)]; simp)
      omega
    · have e : (fun j => (listed.setIfInBounds i true).getD j false) = fun j => j == i || listed.getD j false := by
        funext j
        exact getD_set _ _ _ _ (by omega)
      rw [e]
      exact h
theorem region_inv {id : Nat} {a : Act} {w : World} (Inv : (Nat → Bool) → Act → World → Prop) (hm : P.follows .mixedOrders = true) (hb : Region.back ops = true)
    (hstep : ∀ (D : Nat → Bool) (a : Act) (w : World) (i : Nat) (o : Oper), i < ops.size → Inv D a w → D i = false → ops[i]? = some o → (∀ e ∈ o.after, Region.binds .any e = true → D e.on = true) → wpOp P ops Q i (Inv fun j => j == i || D j) a w)
    (hdone : ∀ (D : Nat → Bool) (a : Act) (w : World), Inv D a w → (∀ i, i < ops.size → D i = true) → Q .normal a w)
    (h0 : Inv (fun _ => false) a w.drew) : (Code.region id ops true).wp P Q a w := by
  refine wp_region_any hm ?_
  refine wpAny_inv hb hstep hdone _ _ a _ (by simp) ?_ ?_
  · exact Nat.le_trans List.countP_le_length (by simp)
  · have e : (fun j => (Array.replicate ops.size false).getD j false) = fun _ => false := by
      funext j
      simp only [Array.getD_eq_getD_getElem?, Array.getElem?_replicate]
      split <;> rfl
    rw [e]
    exact h0
end
end Go.Proofs.Ytiilckjnggeeoad

namespace Go.Proofs.Ytiilckjnggeeoad
open Go.RowKit Go.Deep Go.ChangeShapes Go.WideShapes
attribute [local go_sem ↓] Go.wp_at_zero Go.wp_at_succ
def KW (W : World) (bx rb : Nat) (t0 t1 t2 : Value) (w : World) : Prop := Below W.heap.size W w ∧ B3 w bx t0 t1 t2 ∧ ∃ u v z, B3 w rb u v z
theorem KW.below {W w w' : World} {bx rb : Nat} {t0 t1 t2 : Value} (h : KW W bx rb t0 t1 t2 w) (hb : Below w.heap.size w w') : KW W bx rb t0 t1 t2 w' := by
  obtain ⟨h1, h2, u, v, z, h3⟩ := h
  exact ⟨below_step h1 hb, h2.below hb, u, v, z, h3.below hb⟩
theorem KW.new {w : World} {t0 t1 t2 u v z : Value} {T U : TypeId} : KW w w.heap.size (w.heap.size + 1) t0 t1 t2 ((w.alloc (.cells #[t0, t1, t2] T)).alloc (.cells #[u, v, z] U)).drew := by
  have hd : Below ((w.alloc (.cells #[t0, t1, t2] T)).alloc (.cells #[u, v, z] U)).heap.size ((w.alloc (.cells #[t0, t1, t2] T)).alloc (.cells #[u, v, z] U)) ((w.alloc (.cells #[t0, t1, t2] T)).alloc (.cells #[u, v, z] U)).drew := (Below.refl _ _).drew
  have h1 : KW w w.heap.size (w.heap.size + 1) t0 t1 t2 ((w.alloc (.cells #[t0, t1, t2] T)).alloc (.cells #[u, v, z] U)) := by
    refine ⟨below_step (below_alloc _ _) (below_alloc _ _), (B3.new w t0 t1 t2 T).below (below_alloc _ _), u, v, z, ?_⟩
    have h := B3.new (w.alloc (.cells #[t0, t1, t2] T)) u v z U
    rw [World.size_alloc] at h
    exact h
  exact h1.below hd
def keyV (t : Tm) : Value := .agg #[.int .i64 (mkT t), .int .i64 (mkA t 0), .int .i64 (mkA t 1)]
structure RKp (W : World) (bx rb : Nat) (xv : Bool) (xn : Int) (k : Fo) (a : Value) (D : Nat → Bool) (w : World) (s3 s4 s5 s6 s7 s8 s9 : Value) : Prop where
  hb : KW W bx rb (.bool xv) (.int .i64 xn) a w
  h0 : D 0 = true → s3 = .agg #[.bool xv, .int .i64 xn, a]
  h1 : D 1 = true → s4 = .int .i64 (mkT ((xv, xn), k))
  h2 : D 2 = true → s5 = .agg #[.bool xv, .int .i64 xn, a]
  h3 : D 3 = true → s6 = .int .i64 (mkA ((xv, xn), k) 0)
  h4 : D 4 = true → s7 = .agg #[.bool xv, .int .i64 xn, a]
  h5 : D 5 = true → s8 = .int .i64 (mkA ((xv, xn), k) 1)
  h6 : D 6 = true → s9 = .agg #[.int .i64 (mkT ((xv, xn), k)), .int .i64 (mkA ((xv, xn), k) 0), .int .i64 (mkA ((xv, xn), k) 1)]
  h7 : D 7 = true → B3 w rb (.int .i64 (mkT ((xv, xn), k))) (.int .i64 (mkA ((xv, xn), k) 0)) (.int .i64 (mkA ((xv, xn), k) 1))
section
variable {W : World} {bx rb : Nat} {xv : Bool} {xn : Int} {k : Fo} {a : Value} {D : Nat → Bool} {w w' : World} {s3 s4 s5 s6 s7 s8 s9 : Value}
theorem RKp.step (h : RKp W bx rb xv xn k a D w s3 s4 s5 s6 s7 s8 s9) (hb : Below w.heap.size w w') : RKp W bx rb xv xn k a D w' s3 s4 s5 s6 s7 s8 s9 :=
  ⟨h.hb.below hb, h.h0, h.h1, h.h2, h.h3, h.h4, h.h5, h.h6, fun e => (h.h7 e).below hb⟩
theorem RKp.at0 (h : RKp W bx rb xv xn k a D w s3 s4 s5 s6 s7 s8 s9) : RKp W bx rb xv xn k a (fun j => j == 0 || D j) w (.agg #[.bool xv, .int .i64 xn, a]) s4 s5 s6 s7 s8 s9 :=
  ⟨h.hb, fun _ => rfl, h.h1, h.h2, h.h3, h.h4, h.h5, h.h6, h.h7⟩
theorem RKp.at1 (h : RKp W bx rb xv xn k a D w s3 s4 s5 s6 s7 s8 s9) : RKp W bx rb xv xn k a (fun j => j == 1 || D j) w s3 (.int .i64 (mkT ((xv, xn), k))) s5 s6 s7 s8 s9 :=
  ⟨h.hb, h.h0, fun _ => rfl, h.h2, h.h3, h.h4, h.h5, h.h6, h.h7⟩
theorem RKp.at2 (h : RKp W bx rb xv xn k a D w s3 s4 s5 s6 s7 s8 s9) : RKp W bx rb xv xn k a (fun j => j == 2 || D j) w s3 s4 (.agg #[.bool xv, .int .i64 xn, a]) s6 s7 s8 s9 :=
  ⟨h.hb, h.h0, h.h1, fun _ => rfl, h.h3, h.h4, h.h5, h.h6, h.h7⟩
theorem RKp.at3 (h : RKp W bx rb xv xn k a D w s3 s4 s5 s6 s7 s8 s9) : RKp W bx rb xv xn k a (fun j => j == 3 || D j) w s3 s4 s5 (.int .i64 (mkA ((xv, xn), k) 0)) s7 s8 s9 :=
  ⟨h.hb, h.h0, h.h1, h.h2, fun _ => rfl, h.h4, h.h5, h.h6, h.h7⟩
theorem RKp.at4 (h : RKp W bx rb xv xn k a D w s3 s4 s5 s6 s7 s8 s9) : RKp W bx rb xv xn k a (fun j => j == 4 || D j) w s3 s4 s5 s6 (.agg #[.bool xv, .int .i64 xn, a]) s8 s9 :=
  ⟨h.hb, h.h0, h.h1, h.h2, h.h3, fun _ => rfl, h.h5, h.h6, h.h7⟩
theorem RKp.at5 (h : RKp W bx rb xv xn k a D w s3 s4 s5 s6 s7 s8 s9) : RKp W bx rb xv xn k a (fun j => j == 5 || D j) w s3 s4 s5 s6 s7 (.int .i64 (mkA ((xv, xn), k) 1)) s9 :=
  ⟨h.hb, h.h0, h.h1, h.h2, h.h3, h.h4, fun _ => rfl, h.h6, h.h7⟩
theorem RKp.at6 (h : RKp W bx rb xv xn k a D w s3 s4 s5 s6 s7 s8 s9) : RKp W bx rb xv xn k a (fun j => j == 6 || D j) w s3 s4 s5 s6 s7 s8 (.agg #[.int .i64 (mkT ((xv, xn), k)), .int .i64 (mkA ((xv, xn), k) 0), .int .i64 (mkA ((xv, xn), k) 1)]) :=
  ⟨h.hb, h.h0, h.h1, h.h2, h.h3, h.h4, h.h5, fun _ => rfl, h.h7⟩
theorem RKp.at7 (hne : rb ≠ bx) (hW : W.heap.size ≤ rb) (h : RKp W bx rb xv xn k a D w s3 s4 s5 s6 s7 s8 s9) : RKp W bx rb xv xn k a (fun j => j == 7 || D j) (set3 w rb 0 (.int .i64 (mkT ((xv, xn), k))) (.int .i64 (mkA ((xv, xn), k) 0)) (.int .i64 (mkA ((xv, xn), k) 1))) s3 s4 s5 s6 s7 s8 s9 := by
  obtain ⟨h1, h2, u, v, z, h3⟩ := h.hb
  have hs : B3 (set3 w rb 0 (.int .i64 (mkT ((xv, xn), k))) (.int .i64 (mkA ((xv, xn), k) 0)) (.int .i64 (mkA ((xv, xn), k) 1))) rb (.int .i64 (mkT ((xv, xn), k))) (.int .i64 (mkA ((xv, xn), k) 0)) (.int .i64 (mkA ((xv, xn), k) 1)) := h3.set
  exact ⟨⟨set3_below h1 hW, h2.other (fun e => hne e.symm), _, _, _, hs⟩, h.h0, h.h1, h.h2, h.h3, h.h4, h.h5, h.h6, fun _ => hs⟩
theorem RKp.start (h : KW W bx rb (.bool xv) (.int .i64 xn) a w) : RKp W bx rb xv xn k a (fun _ => false) w s3 s4 s5 s6 s7 s8 s9 :=
  ⟨h, fun e => (by cases e), fun e => (by cases e), fun e => (by cases e), fun e => (by cases e), fun e => (by cases e), fun e => (by cases e), fun e => (by cases e), fun e => (by cases e)⟩
end
set_option maxRecDepth 100000 in
set_option maxHeartbeats 2000000 in
theorem keyP_any {s : List Int} (h6 : s.length ≤ 6) (x : Bool × Int) (k : Fo) (a : Value) (w : World) (hS : SIn w k a) (hg : sigT s (x, k)) :
    Calls Try.prog 21 #[.agg #[.bool x.1, .int .i64 x.2, a]] w fun e w' => e = .returned (keyV (x, k)) ∧ Below w.heap.size w w' := by
  obtain ⟨xv, xn⟩ := x
  obtain ⟨ad, c, b, o, e, h0⟩ := hS
  have HS : Hid (SIn w k a) := ⟨ad, c, b, o, e, h0⟩
  subst e
  have Hg := hide hg
  clear h0 hg
  unfold keyV
  go_enter Try.func21, Try.ntmps21
  go_upto_region 1 with fail
  have H0 : Hid (KW w w.heap.size (w.heap.size + 1) (.bool xv) (.int .i64 xn) (.slice ad (Fo.len k) c) (((w.alloc (.cells #[.bool xv, .int .i64 xn, .slice ad (Fo.len k) c] 33)).alloc (.cells #[.int .i64 0, .int .i64 0, .int .i64 0] 42)).drew)) := KW.new
  refine region_inv (fun D a w' => ∃ s3 s4 s5 s6 s7 s8 s9 : Value, a = ⟨#[.agg #[.bool xv, .int .i64 xn, .slice ad (Fo.len k) c], .pointer (some ⟨w.heap.size, 0, none⟩), .pointer (some ⟨w.heap.size + 1, 0, none⟩), s3, s4, s5, s6, s7, s8, s9], []⟩ ∧ RKp w w.heap.size (w.heap.size + 1) xv xn k (.slice ad (Fo.len k) c) D w' s3 s4 s5 s6 s7 s8 s9) (by kernel_rfl) (by kernel_rfl) ?_ ?_ ⟨_, _, _, _, _, _, _, rfl, RKp.start H0.out⟩
  · rintro D a w' i o hi ⟨s3, s4, s5, s6, s7, s8, s9, rfl, hI⟩ hD ho hdep
    have HI := hide hI
    clear hI
    have hi' : i < 8 := hi
    clear hi
    rcases (by omega : i = 0 ∨ i = 1 ∨ i = 2 ∨ i = 3 ∨ i = 4 ∨ i = 5 ∨ i = 6 ∨ i = 7) with rfl | rfl | rfl | rfl | rfl | rfl | rfl | rfl
    · obtain rfl := Option.some.inj ho
      clear ho hdep hD
      obtain ⟨q0, q1, q2, -⟩ := HI.out.hb.2.1
      refine wpOp_step rfl (fun K hK => ?_)
      go_simp
      exact hK _ _ ⟨_, _, _, _, _, _, _, rfl, HI.out.at0⟩
    · obtain rfl := Option.some.inj ho
      have d0 := HI.out.h0 (hdep ⟨0, .data⟩ (by simp) rfl)
      subst d0
      clear ho hdep hD
      refine wpOp_step rfl (fun K hK => ?_)
      go_simp
      refine (headP_any h6 (xv, xn) k _ _ Hg.out).mono ?_
      rintro e w2 ⟨rfl, hb2⟩
      exact hK _ _ ⟨_, _, _, _, _, _, _, rfl, (HI.out.step hb2).at1⟩
    · obtain rfl := Option.some.inj ho
      clear ho hdep hD
      obtain ⟨q0, q1, q2, -⟩ := HI.out.hb.2.1
      refine wpOp_step rfl (fun K hK => ?_)
      go_simp
      exact hK _ _ ⟨_, _, _, _, _, _, _, rfl, HI.out.at2⟩
    · obtain rfl := Option.some.inj ho
      have d2 := HI.out.h2 (hdep ⟨2, .data⟩ (by simp) rfl)
      subst d2
      clear ho hdep hD
      refine wpOp_step rfl (fun K hK => ?_)
      go_simp
      refine (argumentP_any h6 0 (by omega) (xv, xn) k _ _ (HS.out.below HI.out.hb.1) Hg.out).mono ?_
      rintro e w2 ⟨rfl, hb2⟩
      exact hK _ _ ⟨_, _, _, _, _, _, _, rfl, (HI.out.step hb2).at3⟩
    · obtain rfl := Option.some.inj ho
      clear ho hdep hD
      obtain ⟨q0, q1, q2, -⟩ := HI.out.hb.2.1
      refine wpOp_step rfl (fun K hK => ?_)
      go_simp
      exact hK _ _ ⟨_, _, _, _, _, _, _, rfl, HI.out.at4⟩
    · obtain rfl := Option.some.inj ho
      have d4 := HI.out.h4 (hdep ⟨4, .data⟩ (by simp) rfl)
      subst d4
      clear ho hdep hD
      refine wpOp_step rfl (fun K hK => ?_)
      go_simp
      refine (argumentP_any h6 1 (by omega) (xv, xn) k _ _ (HS.out.below HI.out.hb.1) Hg.out).mono ?_
      rintro e w2 ⟨rfl, hb2⟩
      exact hK _ _ ⟨_, _, _, _, _, _, _, rfl, (HI.out.step hb2).at5⟩
    · obtain rfl := Option.some.inj ho
      have d1 := HI.out.h1 (hdep ⟨1, .data⟩ (by simp) rfl)
      subst d1
      have d3 := HI.out.h3 (hdep ⟨3, .data⟩ (by simp) rfl)
      subst d3
      have d5 := HI.out.h5 (hdep ⟨5, .data⟩ (by simp) rfl)
      subst d5
      clear ho hdep hD
      refine wpOp_step rfl (fun K hK => ?_)
      go_simp
      exact hK _ _ ⟨_, _, _, _, _, _, _, rfl, HI.out.at6⟩
    · obtain rfl := Option.some.inj ho
      have d6 := HI.out.h6 (hdep ⟨6, .data⟩ (by simp) rfl)
      subst d6
      clear ho hdep hD
      obtain ⟨-, -, u, v, z, q0, q1, q2, q3⟩ := HI.out.hb
      have f0 := q3 0
      have f1 := q3 1
      have f2 := q3 2
      refine wpOp_step rfl (fun K hK => ?_)
      go_simp
      exact hK _ _ ⟨_, _, _, _, _, _, _, rfl, HI.out.at7 (by omega) (by omega)⟩
  · rintro D a w' ⟨s3, s4, s5, s6, s7, s8, s9, rfl, hI⟩ hall
    have hr := hI.h7 (hall 7 (by decide))
    have Hb := hide hI.hb.1
    obtain ⟨r0, r1, r2, -⟩ := hr
    clear hI hall
    go_wp2_with fail
    refine bodyPost_ret (v := .agg #[.int .i64 (mkT ((xv, xn), k)), .int .i64 (mkA ((xv, xn), k) 0), .int .i64 (mkA ((xv, xn), k) 1)]) (by simp [results, Try.results21, go_sem, r0, r1, r2]) rfl ⟨rfl, Hb.out⟩
end Go.Proofs.Ytiilckjnggeeoad
