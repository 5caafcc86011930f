/- CMs D6o L6T CT -/
import Derived.Test.YtaliegkkdhkfcacGreatDoorG18
import Derived.Deep.RegionHeld3
import Derived.Lib.Split
import Derived.Lib.Join
namespace Go.Proofs.YtaliegkkdhkfcacGreatDoor
open Go.RowKit Go.Deep Go.ChangeShapes Go.WideShapes
attribute [local go_sem ↓] Go.wp_at_zero Go.wp_at_succ

theorem wf_walk {s : List Int} {x : Bool × Int} {k : Fo} (h : wrongF s x k = 0) : walkT s x k 1 = 0 := by
  unfold wrongF at h
  by_cases e : walkT s x k 1 = 0
  · exact e
  · rw [if_pos e] at h; exact absurd h e
theorem sig_right {s : List Int} {t : Tm} (h : wrongF s t.1 t.2 = 0) : sigT s t := sig_walk (wf_walk h)
theorem sigC_right {s : List Int} {c : Cl} (h : wrongC s c = 0) : ∀ l ∈ c, sigT s l.2.1 ∧ sigT s l.2.2 := fun l hl => ⟨sig_right ((wrongC_iff.1 h).2 l hl).1, sig_right ((wrongC_iff.1 h).2 l hl).2⟩
end Go.Proofs.YtaliegkkdhkfcacGreatDoor

namespace Go.Proofs.YtaliegkkdhkfcacGreatDoor
open Go.RowKit Go.Deep Go.ChangeShapes Go.WideShapes

def five : Sb := [(0, vr 5), (1, vr 6), (2, vr 7), (3, vr 8), (4, vr 9)]
theorem five_gd : ∀ p ∈ five, Gd p.2 := fun p hp => by
  simp only [five, List.mem_cons, List.not_mem_nil, or_false] at hp
  rcases hp with rfl | rfl | rfl | rfl | rfl <;> exact gd_vr (by omega)
theorem ren_five {t : Tm} (hg : Gd t) (hv : ∀ m, occT m t → m ≤ 4) : subT (ren 5) t = subT (bnd five) t := by
  refine subT_congr fun n hn => ?_
  have h0 := (hg.few n hn).1
  have h1 := hv n hn
  rcases (by omega : n = 0 ∨ n = 1 ∨ n = 2 ∨ n = 3 ∨ n = 4) with rfl | rfl | rfl | rfl | rfl <;> simp [ren, five, bnd, look, wrap64, vr]
theorem ren_g12 {t : Tm} (h : G12 t) (hv : ∀ m, occT m t → m ≤ 4) : G12 (subT (ren 5) t) := by
  rw [ren_five h.gd hv]
  refine ⟨gd_sub five_gd h.gd, ?_⟩
  have := sub_le (f := bnd five) (M := 1) (Nat.le_refl _) h.gd.ok (fun n hn => ?_)
  · have := h.sz
    omega
  · have h0 := (h.gd.few n hn).1
    have h1 := hv n hn
    rcases (by omega : n = 0 ∨ n = 1 ∨ n = 2 ∨ n = 3 ∨ n = 4) with rfl | rfl | rfl | rfl | rfl <;> decide
theorem ren_g12L {d : Cl} (h : GC d) : ∀ l ∈ d.map (mapL (subT (ren 5))), G12L l := fun l hl => by
  obtain ⟨q, hq, rfl⟩ := List.mem_map.1 hl
  have g := h.2 q hq
  exact ⟨ren_g12 ⟨g.gl, g.sl⟩ g.fl, ren_g12 ⟨g.gr, g.sr⟩ g.fr⟩
theorem gc_oknar {d : Cl} (h : GC d) : ∀ l ∈ d, (okT l.2.1 ∧ narT l.2.1) ∧ (okT l.2.2 ∧ narT l.2.2) := fun l hl => ⟨⟨(h.2 l hl).gl.ok, (h.2 l hl).gl.nar⟩, ⟨(h.2 l hl).gr.ok, (h.2 l hl).gr.nar⟩⟩
theorem sym_right {s : List Int} {d : Cl} (h : wrongC s d = 0) : ∀ l ∈ d, symT s l.2.1 ∧ symT s l.2.2 := fun l hl => ⟨sym_sig (sigC_right h l hl).1, sym_sig (sigC_right h l hl).2⟩
theorem sym_ren {s : List Int} {d : Cl} (h : wrongC s d = 0) : ∀ l ∈ d.map (mapL (subT (ren 5))), symT s l.2.1 ∧ symT s l.2.2 := fun l hl => by
  obtain ⟨q, hq, rfl⟩ := List.mem_map.1 hl
  exact ⟨sym_sub (fun n => sym_vr _) (sym_right h q hq).1, sym_sub (fun n => sym_vr _) (sym_right h q hq).2⟩

end Go.Proofs.YtaliegkkdhkfcacGreatDoor

namespace Go.Proofs.YtaliegkkdhkfcacGreatDoor
open Go.RowKit Go.Deep Go.ChangeShapes Go.WideShapes
attribute [local go_sem ↓] Go.wp_at_zero Go.wp_at_succ

theorem gc_rightN6 {s : List Int} {c : Cl} (hs : s.all okNum = true) (hn : ∀ l ∈ c, Fo.norm l.2.1.2 = l.2.1.2 ∧ Fo.norm l.2.2.2 = l.2.2.2) (h : wrongC s c = 0) : GC c := by
  rw [wrongC_iff] at h
  refine ⟨h.1, fun l hl => ?_⟩
  obtain ⟨g1, _, g2⟩ := gd_right hs (hn l hl).1 (h.2 l hl).1
  obtain ⟨g3, _, g4⟩ := gd_right hs (hn l hl).2 (h.2 l hl).2
  exact ⟨g1, g3, four_right hs (hn l hl).1 (h.2 l hl).1, four_right hs (hn l hl).2 (h.2 l hl).2, g2, g4⟩
theorem sameF_me : ∀ F : Fo, sameF F F = true
  | .nil => rfl
  | .node _ _ x k r => by simp [sameF, sameF_me k, sameF_me r]
theorem sameC_me : ∀ c : Cl, sameC c c = true
  | [] => rfl
  | l :: c => by simp [sameC, sameL, sameT, sameF_me, sameC_me c]

theorem cs_two {w : World} {c d : Cl} {cv dv : Value} {T : TypeId} (hC : CIn w c cv) (hD : CIn w d dv) : CsIn (w.alloc (.cells #[cv, dv] T)) [c, d] (.slice (some ⟨w.heap.size, 0, none⟩) 2 2) := by
  refine ⟨_, 2, w.heap.size, 0, rfl, fun _ => rfl, Nat.le_refl _, by unfold maxLen; omega, fun i x hx => ?_⟩
  match i, hx with
  | 0, hx =>
    simp only [List.getElem?_cons_zero, Option.some.injEq] at hx
    subst hx
    exact ⟨cv, new_cell rfl, hC.alloc _⟩
  | 1, hx =>
    simp only [List.getElem?_cons_succ, List.getElem?_cons_zero, Option.some.injEq] at hx
    subst hx
    exact ⟨dv, new_cell rfl, hD.alloc _⟩
  | i + 2, hx => simp at hx

end Go.Proofs.YtaliegkkdhkfcacGreatDoor

namespace Go.Proofs.YtaliegkkdhkfcacGreatDoor
open Go.RowKit Go.Deep Go.ChangeShapes Go.WideShapes

abbrev sepL : List UInt8 := [32, 124, 32]
def textL (l : Lt) : List UInt8 := textT l.2.1.1 l.2.1.2 ++ ((if l.1 then [33, 61] else [61]) ++ textT l.2.2.1 l.2.2.2)
def textC (c : Cl) : List UInt8 := if c.length = 0 then [91, 93] else Lib.join (c.map textL) sepL
abbrev zeroLt : Lt := (false, zeroT, zeroT)
def litP (s : List Int) (p : List UInt8) : Int × Lt :=
  if (Lib.cut p [61]).2.2 = false then (2, zeroLt) else
  if (parseT s (Lib.trimSuffix (Lib.cut p [61]).1 [33])).1 ≠ 0 then ((parseT s (Lib.trimSuffix (Lib.cut p [61]).1 [33])).1, zeroLt) else
  if (parseT s (Lib.cut p [61]).2.1).1 ≠ 0 then ((parseT s (Lib.cut p [61]).2.1).1, zeroLt) else
  (0, (Lib.hasSuffix (Lib.cut p [61]).1 [33], (parseT s (Lib.trimSuffix (Lib.cut p [61]).1 [33])).2, (parseT s (Lib.cut p [61]).2.1).2))
def litsP (s : List Int) : List (List UInt8) → Int
  | [] => 0
  | p :: ps => if (litP s p).1 ≠ 0 then (litP s p).1 else litsP s ps
/-- All parts. -/
def full (l : List UInt8) : List (List UInt8) := Lib.splitK sepL 0 l.length l
def partsC (s : List Int) (ps : List (List UInt8)) : Int × Cl := if 4 < ps.length then (5, []) else if litsP s ps ≠ 0 then (litsP s ps, []) else (0, ps.map fun p => (litP s p).2)
def parseC (s : List Int) (l : List UInt8) : Int × Cl :=
  if wsig s ≠ 0 then (wsig s, []) else if l = [91, 93] then (0, []) else partsC s (full l)

theorem litsP_at {s : List Int} : ∀ {c : List (List UInt8)} {j : Nat} {p : List UInt8}, (∀ i, i < j → ∀ a, c[i]? = some a → (litP s a).1 = 0) → c[j]? = some p → (litP s p).1 ≠ 0 → litsP s c = (litP s p).1
  | [], _, _, _, h, _ => by simp at h
  | x :: c, 0, l, _, h, hn => by
    simp only [List.getElem?_cons_zero, Option.some.injEq] at h
    subst h
    rw [litsP, if_pos hn]
  | x :: c, j + 1, l, h0, h, hn => by
    rw [litsP, if_neg (by simp [h0 0 (by omega) x (by simp)])]
    exact litsP_at (j := j) (fun i hi a ha => h0 (i + 1) (by omega) a (by simpa using ha)) (by simpa using h) hn
theorem litsP_iff {s : List Int} : ∀ {c : List (List UInt8)}, litsP s c = 0 ↔ ∀ p ∈ c, (litP s p).1 = 0
  | [] => by simp [litsP]
  | x :: c => by
    rw [litsP]
    by_cases h : (litP s x).1 = 0
    · rw [if_neg (by simp [h]), litsP_iff (c := c)]
      simp [h]
    · rw [if_pos h]
      simp [h]

theorem splitK_miss {k : Nat} {l : List UInt8} (h : Lib.index l sepL = -1) : Lib.splitK sepL 0 k l = [l] := by
  cases k with
  | zero => rfl
  | succ k => rw [Lib.splitK, if_pos (by rw [h]; rfl)]
theorem splitK_hit {k i : Nat} {l : List UInt8} (h : Lib.index l sepL = i) : Lib.splitK sepL 0 (k + 1) l = l.take i :: Lib.splitK sepL 0 k (l.drop (i + 3)) := by
  have hm : ¬ (Lib.index l sepL == -1) = true := fun e => by have := beq_iff_eq.1 e; omega
  have e : (Lib.index l sepL).toNat = i := by omega
  rw [Lib.splitK, if_neg hm, e]
  rfl
theorem index_two (l : List UInt8) : Lib.index l sepL = -1 ∨ ∃ i : Nat, Lib.index l sepL = i ∧ i + 3 ≤ l.length := by
  have h1 := Lib.index_ge l sepL
  rcases Classical.em (0 ≤ Lib.index l sepL) with h | h
  · refine .inr ⟨(Lib.index l sepL).toNat, by omega, ?_⟩
    have := Lib.index_room l sepL h
    simp at this
    omega
  · exact .inl (by omega)
theorem splitK_stable : ∀ (n : Nat) (l : List UInt8), l.length ≤ n → Lib.splitK sepL 0 n l = full l := by
  intro n
  induction n with
  | zero => intro l h; have : l.length = 0 := by omega
            rw [full, this]
  | succ n ih =>
    intro l h
    rcases index_two l with hi | ⟨i, hi, hr⟩
    · rw [full, splitK_miss hi, splitK_miss hi]
    · obtain ⟨m, hm⟩ : ∃ m, l.length = m + 1 := ⟨l.length - 1, by omega⟩
      rw [full, hm, splitK_hit hi, splitK_hit hi]
      rw [ih _ (by simp; omega)]
      rcases Nat.lt_or_ge m n with hmn | hmn
      · have : Lib.splitK sepL 0 n (l.drop (i + 3)) = full (l.drop (i + 3)) := ih _ (by simp; omega)
        congr 1
        rw [← this]
        clear this
        have key : ∀ (a b : Nat) (x : List UInt8), x.length ≤ a → a ≤ b → Lib.splitK sepL 0 b x = Lib.splitK sepL 0 a x := by
          intro a
          induction a with
          | zero => intro b x hx _
                    have : x = [] := List.length_eq_zero_iff.1 (by omega)
                    subst this
                    rw [splitK_miss (by rfl), splitK_miss (by rfl)]
          | succ a iha =>
            intro b x hx hb
            obtain ⟨b', rfl⟩ : ∃ b', b = b' + 1 := ⟨b - 1, by omega⟩
            rcases index_two x with hj | ⟨j, hj, hr'⟩
            · rw [splitK_miss hj, splitK_miss hj]
            · rw [splitK_hit hj, splitK_hit hj, iha b' _ (by simp; omega) (by omega)]
        exact key m n _ (by simp; omega) (by omega)
      · have : m = n := by omega
        rw [this, ih _ (by simp; omega)]
theorem full_miss {l : List UInt8} (h : Lib.index l sepL = -1) : full l = [l] := splitK_miss h
theorem full_hit {i : Nat} {l : List UInt8} (h : Lib.index l sepL = i) (hr : i + 3 ≤ l.length) : full l = l.take i :: full (l.drop (i + 3)) := by
  obtain ⟨m, hm⟩ : ∃ m, l.length = m + 1 := ⟨l.length - 1, by omega⟩
  rw [full, hm, splitK_hit h, splitK_stable m _ (by simp; omega)]
theorem full_le : ∀ (l : List UInt8), (full l).length ≤ l.length + 1 := by
  intro l
  have key : ∀ (k : Nat) (x : List UInt8), (Lib.splitK sepL 0 k x).length ≤ k + 1 := by
    intro k
    induction k with
    | zero => intro x; exact Nat.le_refl _
    | succ k ih =>
      intro x
      rcases index_two x with hi | ⟨i, hi, hr⟩
      · rw [splitK_miss hi]; simp
      · rw [splitK_hit hi]
        have := ih (x.drop (i + 3))
        simp; omega
  exact key _ _
theorem join_cons2 (x y : List UInt8) (r : List (List UInt8)) : Lib.join (x :: y :: r) sepL = x ++ (sepL ++ Lib.join (y :: r) sepL) := by
  rw [Lib.join_cons, Lib.join_cons]
  simp [Lib.joinTail]
end Go.Proofs.YtaliegkkdhkfcacGreatDoor
