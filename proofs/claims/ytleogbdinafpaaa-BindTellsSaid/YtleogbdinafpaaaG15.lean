/- Where symbols stand: the document's Places. -/
import Derived.Test.YtleogbdinafpaaaG11
import Derived.Deep.RegionLaw
namespace Go.Proofs.Ytleogbdinafpaaa
open Go.RowKit Go.Deep Go.ChangeShapes Go.WideShapes
attribute [local go_sem ↓] Go.wp_at_zero Go.wp_at_succ

theorem placesF_pre (q : List Int) : ∀ (F : Fo) (p : List Int) (i : Int), placesF F (q ++ p) i = (placesF F p i).map (q ++ ·)
  | .nil, _, _ => rfl
  | .node _ _ x k r, p, i => by
    have h1 := placesF_pre q k (p ++ [i]) 0
    have h2 := placesF_pre q r p (i + 1)
    simp only [placesF, List.map_append, h2]
    cases x.1
    · simp only [Bool.false_eq_true, if_false, List.map_cons, List.append_assoc] at h1 ⊢
      rw [h1]
    · simp
theorem placesT_pre (q : List Int) (x : Bool × Int) (k : Fo) : placesT x k q = (placesT x k []).map (q ++ ·) := by
  have := placesF_pre q k [] 0
  unfold placesT
  split
  · rfl
  · simp only [List.append_nil] at this
    simp [this]
theorem placesF_plen : ∀ (F : Fo) (q : List Int) (i : Int) (p : List Int), p ∈ placesF F q i → p.length ≤ q.length + Fo.sizesR F
  | .nil, _, _, _, h => by simp [placesF] at h
  | .node _ _ x k r, q, i, p, h => by
    simp only [placesF, List.mem_append] at h
    simp only [Fo.sizesR]
    rcases h with h | h
    · cases hx : x.1 with
      | true => simp [hx] at h
      | false =>
        simp only [hx, Bool.false_eq_true, if_false, List.mem_cons] at h
        rcases h with rfl | h
        · simp; omega
        · have := placesF_plen k _ _ _ h
          simp at this
          omega
    · have := placesF_plen r _ _ _ h
      omega
theorem placesT_plen {x : Bool × Int} {k : Fo} {p : List Int} (h : p ∈ placesT x k []) : p.length ≤ tszR k := by
  unfold placesT at h
  unfold tszR
  split at h
  · simp at h
  · simp only [List.mem_cons] at h
    rcases h with rfl | h
    · simp
    · have := placesF_plen k _ _ _ h
      simp at this
      omega

theorem pl_step {B0 : Nat} {wr wA w3 : World} {vj v' v3 : Value} {ys : List Value} {Q : List (List Int)} {j : Int} {p : List Int} {g : Nat} {ob ob2 : Obj} (ho : wr.ownsRow B0 22 1 vj ys.length ys) (hP : Pw wr B0 vj.ownBlock ys Q)
    (hoA : wA.ownsRow B0 3 1 v' (1 + p.length) ([.int .i64 j] ++ vals p)) (hgA : (wr.alloc ob).grownBy wA (some wr.heap.size)) (hatA : v'.ownBlock = some wr.heap.size ∨ v'.ownBlock = some (wr.alloc ob).heap.size)
    (hv3 : v3.ownBlock = some g) (hg3 : (wA.alloc ob2).grownBy w3 vj.ownBlock) (hat3 : vj.ownBlock = some g ∨ g = wA.heap.size + 1) :
    Pw w3 B0 v3.ownBlock (ys ++ [v']) (Q ++ [j :: p]) ∧ Fr wr w3 vj.ownBlock none := by
  have s1 := hgA.size
  have s3 := hg3.size
  simp at s1 s3
  have hfr : Fr wr w3 vj.ownBlock none := by
    refine ⟨by rw [hg3.os]; exact hgA.os, by rw [hg3.tape]; exact hgA.tape, by rw [hg3.output]; exact hgA.output, by omega, fun q hq h1 _ => ?_⟩
    rw [hg3.block q (by simp; omega) h1, Below.heap_alloc _ _ _ (by omega), hgA.block q (by simp; omega) (by simp; omega), Below.heap_alloc _ _ _ hq]
  have hvb : ∀ h, v'.ownBlock = some h → wr.heap.size ≤ h ∧ h < wA.heap.size := fun h hh => by
    refine ⟨?_, (owns_at hoA h hh).2⟩
    rcases hatA with e | e
    · rw [e] at hh; simp at hh; omega
    · rw [e] at hh; simp at hh; omega
  refine ⟨Pw.append (Pw.keep hP hfr (fun q _ q2 q3 => ⟨q3, fun e => (by cases e), ?_⟩) (Nat.le_refl _)) ⟨rfl, fun i y q hy hq => ?_⟩, hfr⟩
  · rw [hv3]
    intro e
    simp at e
    subst e
    rcases hat3 with e | e
    · exact q3 e.symm
    · omega
  · have : i = 0 := by
      have := (List.getElem?_eq_some_iff.1 hy).1
      simpa using this
    subst this
    simp only [List.getElem?_cons_zero, Option.some.injEq] at hy hq
    subst hy hq
    refine ⟨?_, fun h hh => ?_⟩
    · have : w3.ownsRow B0 3 1 v' (1 + p.length) ([.int .i64 j] ++ vals p) := owns_keep hoA (fun h hh => by
        have hb := hvb h hh
        rw [hg3.block h (by simp; omega) (fun e => by have := (owns_at ho _ e.symm).2; omega), Below.heap_alloc _ _ _ hb.2])
      rw [show (j :: p).length = 1 + p.length by simp; omega]
      exact this
    · rw [hv3]
      intro e
      simp at e
      subst e
      have hb := hvb _ hh
      rcases hat3 with e | e
      · have := (owns_at ho _ e).2; omega
      · omega

theorem box_grown {w w3 : World} {x y z : Value} {T : TypeId} {o1 o2 : Obj} (hg : (((w.alloc (.cells #[x, y, z] T)).alloc o1).alloc o2).grownBy w3 (Value.slice none 0 0).ownBlock) : w3.cell? ⟨w.heap.size, 2, none⟩ = some z := by
  rw [hg.cell_far ⟨w.heap.size, 2, none⟩ (by show w.heap.size < _; rw [size3]; omega) (by simp [Value.ownBlock]), World.cell?_alloc_lt _ _ _ (by show w.heap.size < _; rw [size2]; omega), World.cell?_alloc_lt _ _ _ (by simp)]
  simp

theorem pl_out {B0 : Nat} {wr wA : World} {ob ob2 : Obj} {vj : Value} {n : Nat} {ys : List Value} (ho : wr.ownsRow B0 22 1 vj n ys) (hgA : (wr.alloc ob).grownBy wA (some wr.heap.size)) : (wA.alloc ob2).ownsRow B0 22 1 vj n ys :=
  owns_keep ho (fun g hg => by
    have h1 := (owns_at ho g hg).2
    have h2 := hgA.size
    simp at h2
    rw [Below.heap_alloc _ _ _ (by omega), hgA.block g (by simp; omega) (by simp; omega), Below.heap_alloc _ _ _ h1])
theorem pl_news (w : World) (v : Value) : ∀ j u, [v][j]? = some u → (w.alloc (.cells #[v] 22)).cell? ((⟨w.heap.size, 0, none⟩ : Addr).add j) = some u :=
  World.news_of_block (cs := #[v]) (heap_alloc_new w _)

/-- So far: the first so many places of the j-th argument stand. -/
def PlIn (B0 lo1 hi1 : Nat) (W0 w1 : World) (L Z : List (List Int)) (j : Int) (m : Nat) (wr : World) (vj : Value) : Prop :=
  ∃ ys, wr.ownsRow B0 22 1 vj ys.length ys ∧ Pw wr B0 vj.ownBlock ys (L ++ (Z.take m).map (j :: ·)) ∧ Below B0 W0 wr ∧ (∀ g, vj.ownBlock = some g → g < lo1 ∨ hi1 ≤ g) ∧ (∀ q, lo1 ≤ q → q < hi1 → wr.heap[q]? = w1.heap[q]?) ∧ hi1 ≤ wr.heap.size

end Go.Proofs.Ytleogbdinafpaaa

/- A term's text: the document's Text. -/
namespace Go.Proofs.Ytleogbdinafpaaa
open Go.RowKit Go.Deep Go.ChangeShapes Go.WideShapes
attribute [local go_sem ↓] Go.wp_at_zero Go.wp_at_succ

/-- All terms but the first. -/
theorem terms_tail {n c b o : Nat} (hn : 2 ≤ n) (hlc : n ≤ c) (w : World) : (Instr.slice 24 (.slice (some ⟨b, o, none⟩) n c) (some (.int .i64 1)) none none).run Try.prog w = .ok (.slice (some ⟨b, o + 3, none⟩) (n - 1) (c - 1)) w := by
  rw [run_slice_l (ht := by kernel_rfl) (h0 := by omega) (h1 := by omega)]
  have e : (sizeOf (Try.prog.elem 24)).run Try.prog w = .ok 3 w := by
    rw [show Try.prog.elem 24 = 26 by kernel_rfl]
    simp [go_sem]
  have hc : ¬ c = 1 := by omega
  simp [Result.andThen, sliced, e, hc, Addr.add]
theorem ba_size {B : ByteArray} {l : List UInt8} (h : B.data.toList = l) : B.size = l.length := by rw [← h]; exact Array.length_toList.symm

end Go.Proofs.Ytleogbdinafpaaa

/- A text is read: the document's Rd.fail and Rd.is. -/
namespace Go.Proofs.Ytleogbdinafpaaa
open Go.RowKit Go.Deep Go.ChangeShapes Go.WideShapes
attribute [local go_sem ↓] Go.wp_at_zero Go.wp_at_succ
attribute [local go_sem] byte_zero text_tail

/-- The reader lies in the block rb: its symbols, what is left of the text, its error. -/
def RdAt (w : World) (rb : Nat) (sv : Value) (l : List UInt8) (e : Int) : Prop :=
  w.cell? ⟨rb, 0, none⟩ = some sv ∧ w.cell? ⟨rb, 1, none⟩ = some (str l) ∧ w.cell? ⟨rb, 2, none⟩ = some (.int .i64 e) ∧ ∀ i, w.frozen? ⟨rb, i, none⟩ = false

theorem RdAt.of_block {w w' : World} {rb : Nat} {sv : Value} {l : List UInt8} {e : Int} (h : RdAt w rb sv l e) (hb : w'.heap[rb]? = w.heap[rb]?) : RdAt w' rb sv l e :=
  ⟨(World.cell?_of_block hb).trans h.1, (World.cell?_of_block hb).trans h.2.1, (World.cell?_of_block hb).trans h.2.2.1, fun i => (World.frozen?_of_block hb).trans (h.2.2.2 i)⟩
theorem RdAt.setE {w : World} {rb : Nat} {sv : Value} {l : List UInt8} {e e' : Int} (h : RdAt w rb sv l e) : RdAt (w.setCell ⟨rb, 2, none⟩ (.int .i64 e')) rb sv l e' :=
  ⟨by rw [set_other (by simp)]; exact h.1, by rw [set_other (by simp)]; exact h.2.1, set_same h.2.2.1, fun i => by rw [World.frozen?_setCell]; exact h.2.2.2 i⟩
theorem RdAt.setS {w : World} {rb : Nat} {sv : Value} {l l' : List UInt8} {e : Int} (h : RdAt w rb sv l e) : RdAt (w.setCell ⟨rb, 1, none⟩ (str l')) rb sv l' e :=
  ⟨by rw [set_other (by simp)]; exact h.1, set_same h.2.1, by rw [set_other (by simp)]; exact h.2.2.1, fun i => by rw [World.frozen?_setCell]; exact h.2.2.2 i⟩
theorem RdAt.lt {w : World} {rb : Nat} {sv : Value} {l : List UInt8} {e : Int} (h : RdAt w rb sv l e) : rb < w.heap.size := World.block_lt_of_cell? _ _ h.1
theorem fr_set {w : World} {rb i : Nat} {v : Value} : Fr w (w.setCell ⟨rb, i, none⟩ v) (some rb) none :=
  ⟨rfl, rfl, rfl, by simp, fun q _ hq _ => Below.heap_setCell _ _ _ _ (fun e => hq (by rw [e]))⟩

/-- The error behind a sign that must be. -/
def isE (c : UInt8) (l : List UInt8) (e : Int) : Int := if e ≠ 0 then e else (sgn c l).1

end Go.Proofs.Ytleogbdinafpaaa

/- A text is read: the document's Rd.Term. -/
namespace Go.Proofs.Ytleogbdinafpaaa
open Go.RowKit Go.Deep Go.ChangeShapes Go.WideShapes
attribute [local go_sem ↓] Go.wp_at_zero Go.wp_at_succ
attribute [local go_sem] byte_zero text_tail

def rdE (s : List Int) (f : Nat) (l : List UInt8) (e : Int) : Int := if e ≠ 0 then e else (readT s f l).1

/-- Within a reading: the reader, what has stayed, the answer's box. -/
def Rs (w : World) (rb : Nat) (sv : Value) (l : List UInt8) (e : Int) (w1 : World) : Prop :=
  RdAt w1 rb sv l e ∧ Fr w w1 (some rb) none ∧ w1.cell? ⟨w.heap.size, 0, none⟩ = some (.bool false) ∧ w1.cell? ⟨w.heap.size, 1, none⟩ = some (.int .i64 0) ∧ w1.cell? ⟨w.heap.size, 2, none⟩ = some (.slice none 0 0) ∧ (∀ i, w1.frozen? ⟨w.heap.size, i, none⟩ = false) ∧ rb < w.heap.size

theorem Rs.start {w : World} {rb : Nat} {sv : Value} {l : List UInt8} {e : Int} (h : RdAt w rb sv l e) : Rs w rb sv l e (w.alloc (.cells #[.bool false, .int .i64 0, .slice none 0 0] 26)) :=
  ⟨h.of_block (Below.heap_alloc _ _ _ h.lt), Fr.of_below (below_alloc _ _) _ _, by simp, by simp, by simp, fun i => by simp, h.lt⟩
theorem Rs.set {w w1 : World} {rb i : Nat} {sv v : Value} {l l' : List UInt8} {e e' : Int} (h : Rs w rb sv l e w1) (hR : RdAt (w1.setCell ⟨rb, i, none⟩ v) rb sv l' e') : Rs w rb sv l' e' (w1.setCell ⟨rb, i, none⟩ v) := by
  obtain ⟨_, h2, h3, h4, h5, h6, h7⟩ := h
  refine ⟨hR, h2.trans fr_set (fun q _ hq => hq), ?_, ?_, ?_, fun i => by rw [World.frozen?_setCell]; exact h6 i, h7⟩
  · rw [set_other (by intro e; simp only [Addr.mk.injEq] at e; omega)]; exact h3
  · rw [set_other (by intro e; simp only [Addr.mk.injEq] at e; omega)]; exact h4
  · rw [set_other (by intro e; simp only [Addr.mk.injEq] at e; omega)]; exact h5
theorem Rs.setE {w w1 : World} {rb : Nat} {sv : Value} {l : List UInt8} {e : Int} (h : Rs w rb sv l e w1) (e' : Int) : Rs w rb sv l e' (w1.setCell ⟨rb, 2, none⟩ (.int .i64 e')) := h.set h.1.setE
theorem Rs.setS {w w1 : World} {rb : Nat} {sv : Value} {l : List UInt8} {e : Int} (h : Rs w rb sv l e w1) (l' : List UInt8) : Rs w rb sv l' e (w1.setCell ⟨rb, 1, none⟩ (str l')) := h.set h.1.setS
theorem set3_heapT {w : World} {b o q : Nat} {x y z : Value} (h : q ≠ b) : (set3 w b o x y z).heap[q]? = w.heap[q]? := by
  unfold set3
  rw [Below.heap_setCell _ _ _ _ h, Below.heap_setCell _ _ _ _ h, Below.heap_setCell _ _ _ _ h]
theorem Rs.fin {w w1 : World} {rb : Nat} {sv : Value} {l : List UInt8} {e : Int} (h : Rs w rb sv l e w1) (x y z : Value) : RdAt (set3 w1 w.heap.size 0 x y z) rb sv l e ∧ Fr w (set3 w1 w.heap.size 0 x y z) (some rb) none := by
  obtain ⟨h1, h2, _, _, _, _, h7⟩ := h
  refine ⟨h1.of_block (set3_heapT (by omega)), h2.os, h2.tape, h2.output, by rw [set3_size]; exact h2.size, fun q hq e1 e2 => ?_⟩
  rw [set3_heapT (by omega)]
  exact h2.block q hq e1 e2

/-- What Term leaves. -/
def TermPost (s : List Int) (f : Nat) (sv : Value) (l : List UInt8) (e : Int) (w : World) (rb : Nat) (er : Ending) (w' : World) : Prop :=
  ∃ (x : Bool × Int) (k : Fo) (a1 : Option Addr) (a2 a3 : Nat) (l' : List UInt8), er = .returned (.agg #[.bool x.1, .int .i64 x.2, .slice a1 a2 a3]) ∧ SB (New w w') w' k (.slice a1 a2 a3) ∧ Fr w w' (some rb) none ∧ RdAt w' rb sv l' (rdE s f l e) ∧ (rdE s f l e = 0 → (x, k) = (readT s f l).2.1 ∧ l' = (readT s f l).2.2)
theorem TermPost.mk {s : List Int} {f : Nat} {sv : Value} {l : List UInt8} {e : Int} {w : World} {rb : Nat} {er : Ending} {w' : World} (h : ∃ (x : Bool × Int) (k : Fo) (a1 : Option Addr) (a2 a3 : Nat) (l' : List UInt8), er = .returned (.agg #[.bool x.1, .int .i64 x.2, .slice a1 a2 a3]) ∧ SB (New w w') w' k (.slice a1 a2 a3) ∧ Fr w w' (some rb) none ∧ RdAt w' rb sv l' (rdE s f l e) ∧ (rdE s f l e = 0 → (x, k) = (readT s f l).2.1 ∧ l' = (readT s f l).2.2)) : TermPost s f sv l e w rb er w' := h

/-- Where a loop over arguments stands: its error, what is read. -/
def Md (R : List UInt8 → Int × ((Bool × Int) × Fo) × List UInt8) (m : Nat) (r : List UInt8) (j : Nat) (acc : Fo) (E : Int) (l : List UInt8) : Prop :=
  (E ≠ 0 → (readA R m 0 .nil r).1 = E) ∧ (E = 0 → readA R m 0 .nil r = readA R (m - j) j acc l ∧ l.length ≤ r.length)

theorem Md.step {s : List Int} {f m : Nat} {r : List UInt8} {j : Nat} {acc k : Fo} {E E1 E2 : Int} {l l1 l2 : List UInt8} {x : Bool × Int} (h : Md (readT s f) m r j acc E l) (hj : j < m) (hE1 : E1 = isE (signF j) l E) (hl1 : E1 = 0 → l1 = (sgn (signF j) l).2)
    (hE2 : E2 = rdE s f l1 E1) (hl2 : E2 = 0 → (x, k) = (readT s f l1).2.1 ∧ l2 = (readT s f l1).2.2) : Md (readT s f) m r (j + 1) (Fo.snoc acc x k) E2 l2 := by
  by_cases h0 : E = 0
  · subst h0
    obtain ⟨h1, h2⟩ := h.2 rfl
    have e1 : E1 = (sgn (signF j) l).1 := by rw [hE1, isE]; simp
    have hA : readA (readT s f) m 0 .nil r = if (sgn (signF j) l).1 ≠ 0 then ((sgn (signF j) l).1, .nil, []) else
            if (readT s f (sgn (signF j) l).2).1 ≠ 0 then ((readT s f (sgn (signF j) l).2).1, .nil, []) else
            readA (readT s f) (m - (j + 1)) ((j : Int) + 1) (Fo.snoc acc (readT s f (sgn (signF j) l).2).2.1.1 (readT s f (sgn (signF j) l).2).2.1.2) (readT s f (sgn (signF j) l).2).2.2 := by
      rw [h1, show m - j = (m - (j + 1)) + 1 by omega]; rfl
    by_cases h3 : E1 = 0
    · have hl1' := hl1 h3
      have e2 : E2 = (readT s f l1).1 := by rw [hE2, rdE, h3]; simp
      rw [← e1, if_neg (by simpa using h3), ← hl1', ← e2] at hA
      have hle := sgn_len (signF j) l (by rw [← e1]; exact h3)
      rw [← hl1'] at hle
      have hle2 := readT_le s f l1
      refine ⟨fun h => ?_, fun h => ?_⟩
      · rw [hA, if_pos h]
      · obtain ⟨q1, q2⟩ := hl2 h
        rw [if_neg (by simpa using h), ← q1, ← q2] at hA
        exact ⟨by rw [hA]; simp, by rw [q2]; omega⟩
    · have e2 : E2 = E1 := by rw [hE2, rdE, if_pos h3]
      rw [← e1, if_pos h3] at hA
      refine ⟨fun _ => by rw [hA, e2], fun h => absurd (e2 ▸ h) h3⟩
  · have e1 : E1 = E := by rw [hE1, isE, if_pos h0]
    have e2 : E2 = E := by rw [hE2, rdE, e1, if_pos h0]
    exact ⟨fun _ => by rw [e2]; exact h.1 h0, fun h => absurd (e2 ▸ h) h0⟩
theorem Md.fin {s : List Int} {f m : Nat} {r : List UInt8} {acc : Fo} {E E3 : Int} {l l3 : List UInt8} (h : Md (readT s f) m r m acc E l) (hm : 0 < m) (hE3 : E3 = isE 41 l E) (hl3 : E3 = 0 → l3 = (sgn 41 l).2) :
    (argsT (readT s f) (m : Int) r).1 = E3 ∧ (E3 = 0 → argsT (readT s f) (m : Int) r = (0, acc, l3)) := by
  rw [argsT, if_neg (by omega), Int.toNat_natCast]
  by_cases h0 : E = 0
  · subst h0
    obtain ⟨h1, _⟩ := h.2 rfl
    rw [Nat.sub_self] at h1
    have e3 : E3 = (sgn 41 l).1 := by rw [hE3, isE]; simp
    have h1' : readA (readT s f) m 0 .nil r = (0, acc, l) := h1
    rw [h1']
    simp only [ne_eq, not_true_eq_false, if_false]
    by_cases h4 : (sgn 41 l).1 = 0
    · rw [if_neg (by simpa using h4)]
      exact ⟨by rw [e3, h4], fun h => by rw [hl3 h]⟩
    · rw [if_pos h4]
      exact ⟨e3.symm, fun h => absurd (e3 ▸ h) h4⟩
  · have e3 : E3 = E := by rw [hE3, isE, if_pos h0]
    have h1 := h.1 h0
    rw [if_pos (by rw [h1]; exact h0)]
    exact ⟨by rw [h1, e3], fun h => absurd (e3 ▸ h) h0⟩

/-- So far: j arguments are read, or there was an error. -/
def TmRel (s : List Int) (f m : Nat) (r : List UInt8) (w : World) (rb B : Nat) (sv : Value) (nn : Int) (j : Nat) (wr : World) : Prop :=
  ∃ (acc : Fo) (v : Value) (xs : List Value) (E : Int) (l : List UInt8), Fo.len acc = j ∧ Rs w rb sv l E wr ∧ Md (readT s f) m r j acc E l ∧ wr.ownsRow (B + 1) 26 3 v (Fo.len acc) xs ∧ CellsOf (Rm B (fun _ => False) wr v) wr acc xs ∧
    wr.cell? ⟨B, 0, none⟩ = some (.bool false) ∧ wr.cell? ⟨B, 1, none⟩ = some (.int .i64 nn) ∧ wr.cell? ⟨B, 2, none⟩ = some v ∧ (∀ i, wr.frozen? ⟨B, i, none⟩ = false)

theorem Rs.below {w w1 w2 : World} {rb : Nat} {sv : Value} {l : List UInt8} {e : Int} (h : Rs w rb sv l e w1) (hb : Below w1.heap.size w1 w2) : Rs w rb sv l e w2 := by
  obtain ⟨h1, h2, h3, h4, h5, h6, h7⟩ := h
  have hA : w.heap.size < w1.heap.size := World.block_lt_of_cell? _ _ h3
  exact ⟨h1.of_block (hb.block _ h1.lt), h2.trans (Fr.of_below hb none none) (fun q _ hq => by rcases hq with e | e <;> cases e), grow_cell hb _ _ h3, grow_cell hb _ _ h4, grow_cell hb _ _ h5, fun i => (hb.frozen hA).trans (h6 i), h7⟩
theorem Rs.fr {w w1 w2 : World} {rb : Nat} {sv : Value} {l l' : List UInt8} {e e' : Int} (h : Rs w rb sv l e w1) (hf : Fr w1 w2 (some rb) none) (hR : RdAt w2 rb sv l' e') : Rs w rb sv l' e' w2 := by
  obtain ⟨h1, h2, h3, h4, h5, h6, h7⟩ := h
  have hA : w.heap.size < w1.heap.size := World.block_lt_of_cell? _ _ h3
  have hb : w2.heap[w.heap.size]? = w1.heap[w.heap.size]? := hf.block _ hA (fun e => by simp at e; omega) (fun e => by cases e)
  exact ⟨hR, h2.trans hf (fun q _ hq => hq), (World.cell?_of_block hb).trans h3, (World.cell?_of_block hb).trans h4, (World.cell?_of_block hb).trans h5, fun i => (World.frozen?_of_block hb).trans (h6 i), h7⟩

theorem tm_next {s : List Int} {f m : Nat} {r : List UInt8} {w wr w2 w3 w4 : World} {rb B : Nat} {sv : Value} {nn : Int} {j : Nat} {acc k : Fo} {v v' a : Value} {xs : List Value} {E E1 : Int} {l l1 l2 : List UInt8} {x : Bool × Int} {g cap : Nat} {ob : Obj}
    (hacc : Fo.len acc = j) (hRs : Rs w rb sv l E wr) (hMd : Md (readT s f) m r j acc E l) (hj : j < m) (h1 : wr.ownsRow (B + 1) 26 3 v (Fo.len acc) xs) (h2 : CellsOf (Rm B (fun _ => False) wr v) wr acc xs)
    (q0 : wr.cell? ⟨B, 0, none⟩ = some (.bool false)) (q1 : wr.cell? ⟨B, 1, none⟩ = some (.int .i64 nn)) (q2 : wr.cell? ⟨B, 2, none⟩ = some v) (qf : ∀ i, wr.frozen? ⟨B, i, none⟩ = false) (hAB : w.heap.size < B)
    (hE1 : E1 = isE (signF j) l E) (hl1 : E1 = 0 → l1 = (sgn (signF j) l).2) (hf2 : Fr wr w2 (some rb) none) (hs2 : w2.heap.size = wr.heap.size) (hR2 : RdAt w2 rb sv l1 E1)
    (hk : SB (New w2 w3) w3 k a) (hf3 : Fr w2 w3 (some rb) none) (hR3 : RdAt w3 rb sv l2 (rdE s f l1 E1)) (hl2 : rdE s f l1 E1 = 0 → (x, k) = (readT s f l1).2.1 ∧ l2 = (readT s f l1).2.2)
    (hv' : v' = .slice (some ⟨g, 0, none⟩) (Fo.len acc + 1) cap) (ho : w4.ownsRow (B + 1) 26 3 v' (Fo.len acc + 1) (xs ++ [.bool x.1, .int .i64 x.2, a])) (hg : (w3.alloc ob).grownBy w4 v.ownBlock)
    (hat : v.ownBlock = some g ∨ g = w3.heap.size + 1) (hlt : g < w4.heap.size) : TmRel s f m r w rb B sv nn (j + 1) (w4.setCell ⟨B, 2, none⟩ v') := by
  have hrb := hRs.2.2.2.2.2.2
  have hBl : B < wr.heap.size := World.block_lt_of_cell? _ _ q0
  have hb2 : ∀ q, B ≤ q → q < wr.heap.size → w2.heap[q]? = wr.heap[q]? := fun q hq hlt => hf2.block q hlt (fun e => by simp at e; omega) (fun e => by cases e)
  have h1' : w2.ownsRow (B + 1) 26 3 v (Fo.len acc) xs := owns_keep h1 (fun g hg => by have := owns_at h1 g hg; exact hb2 g (by omega) this.2)
  have h2' : CellsOf (Rm B (fun _ => False) w2 v) w2 acc xs := CellsOf.frame (fun q hq => by rcases hq with h | ⟨p1, p2, p3⟩; exact h.elim; exact .inr ⟨p1, by omega, p3⟩) (fun q i hq => by
    rcases hq with h | ⟨p1, p2, p3⟩
    · exact h.elim
    · exact World.cell?_of_block (hb2 q (by omega) p2)) h2
  have eB := hb2 B (Nat.le_refl _) hBl
  have q2' := (World.cell?_of_block (a := ⟨B, 2, none⟩) eB).trans q2
  have hs3 := hf3.size
  obtain ⟨r1, r2, r3, r4, r5, r6, r7⟩ := row_step (B := B) (X := fun _ => False) (x := x) (k := k) h1' h2' (fun q hq => hq.elim) (by omega) ⟨_, q2'⟩ hs3 (fun q hq hlt => hf3.block q hlt (fun e => by simp at e; rcases hq with h | h; exact h.elim; omega) (fun e => by cases e)) (hk.frame (fun q hq => .inr hq) (fun _ _ _ => rfl)) hv' ho hg hat hlt
  have hno : ∀ q, q ≤ B → some q ≠ v.ownBlock := fun q hq e => by have := (owns_at h1 q e.symm).1; omega
  refine ⟨Fo.snoc acc x k, v', _, _, l2, by rw [snoc_len, hacc], ?_, hMd.step hj hE1 hl1 rfl hl2, r1, r2, (r5 0 (by omega)).trans ((World.cell?_of_block eB).trans q0), (r5 1 (by omega)).trans ((World.cell?_of_block eB).trans q1), r3, fun i => (r6 i).trans ((World.frozen?_of_block eB).trans (qf i))⟩
  have hRs3 := (hRs.fr hf2 hR2).fr hf3 hR3
  obtain ⟨a1, a2, a3, a4, a5, a6, a7⟩ := hRs3
  have hA3 : w.heap.size < w3.heap.size := World.block_lt_of_cell? _ _ a3
  have eA := r4 w.heap.size hA3 (hno _ (by omega)) (by omega)
  refine ⟨a1.of_block (r4 rb (by omega) (hno _ (by omega)) (by omega)), ⟨?_, ?_, ?_, by omega, fun q hq e1 e2 => ?_⟩, (World.cell?_of_block eA).trans a3, (World.cell?_of_block eA).trans a4, (World.cell?_of_block eA).trans a5, fun i => (World.frozen?_of_block eA).trans (a6 i), a7⟩
  · show w4.os = _; rw [hg.os]; exact a2.os
  · show w4.tape = _; rw [hg.tape]; exact a2.tape
  · show w4.output = _; rw [hg.output]; exact a2.output
  · rw [r4 q (by omega) (hno _ (by omega)) (by omega)]
    exact a2.block q hq e1 e2

theorem md_zero {s : List Int} {f m : Nat} {r : List UInt8} {acc : Fo} {E : Int} {l : List UInt8} (hm : m = 0) (h : Md (readT s f) m r m acc E l) : E = 0 ∧ acc = .nil ∧ l = r := by
  subst hm
  by_cases h0 : E = 0
  · obtain ⟨h1, _⟩ := h.2 h0
    simp only [readA, Nat.sub_self, Prod.mk.injEq, true_and] at h1
    exact ⟨h0, h1.1.symm, h1.2.symm⟩
  · have := h.1 h0
    simp only [readA] at this
    exact absurd this.symm h0
theorem row_fr {wr w2 : World} {B rb : Nat} {acc : Fo} {v : Value} {xs : List Value} (h1 : wr.ownsRow (B + 1) 26 3 v (Fo.len acc) xs) (h2 : CellsOf (Rm B (fun _ => False) wr v) wr acc xs) (hf : Fr wr w2 (some rb) none) (hr : rb < B) : SB (fun q => B + 1 ≤ q ∧ q < w2.heap.size) w2 acc v := by
  have hs := hf.size
  have hb : ∀ q, B + 1 ≤ q → q < wr.heap.size → w2.heap[q]? = wr.heap[q]? := fun q hq hlt => hf.block q hlt (fun e => by simp at e; omega) (fun e => by cases e)
  have h1' : w2.ownsRow (B + 1) 26 3 v (Fo.len acc) xs := owns_keep h1 (fun g hg => by have := owns_at h1 g hg; exact hb g (by omega) this.2)
  have h2' : CellsOf (fun q => B + 1 ≤ q ∧ q < w2.heap.size) w2 acc xs := CellsOf.frame (fun q hq => by rcases hq with h | ⟨p1, p2, p3⟩; exact h.elim; exact ⟨p1, by omega⟩) (fun q i hq => by
    rcases hq with h | ⟨p1, p2, p3⟩
    · exact h.elim
    · exact World.cell?_of_block (hb q p1 p2)) h2
  exact row_sb h1' h2' (fun q hq => hq) (fun g hg => by have := owns_at h1' g hg; exact this)

end Go.Proofs.Ytleogbdinafpaaa
