/- Places Read ReadB ReadW Parse Text -/
import Derived.Test.YtlgnpiphaeoeiadG02
import Derived.Deep.RegionHeld3
import Derived.Deep.DrawnRows
import Derived.Lib.AppendStr
namespace Go.Proofs.Ytlgnpiphaeoeiad
open Go.RowKit Go.Deep Go.ChangeShapes Go.WideShapes
theorem Try.info22 : (Try.prog.info? 22).map (fun i => (i.zero, i.size, i.bytes)) = some (some (.slice none 0 0), 1, 24) := by kernel_rfl
def placesF : Fo → List Int → Int → List (List Int)
  | .nil, _, _ => []
  | .node _ _ x k r, p, i => (if x.1 then [] else (p ++ [i]) :: placesF k (p ++ [i]) 0) ++ placesF r p (i + 1)
def placesT (x : Bool × Int) (k : Fo) (p : List Int) : List (List Int) := if x.1 then [] else p :: placesF k p 0
def plTo (k : Fo) (p : List Int) (j : Nat) : List (List Int) := p :: placesF (Fo.take j k) p 0
theorem placesF_snoc : ∀ {F : Fo} {j : Nat} {x : Bool × Int} {k : Fo} (p : List Int) (i : Int), F.list[j]? = some (x, k) → placesF (Fo.take (j + 1) F) p i = placesF (Fo.take j F) p i ++ placesT x k (p ++ [i + j])
  | .nil, _, _, _, _, _, h => by simp [Fo.list] at h
  | .node _ _ y l r, 0, x, k, p, i, h => by
    simp only [Fo.list, List.getElem?_cons_zero, Option.some.injEq, Prod.mk.injEq] at h
    obtain ⟨rfl, rfl⟩ := h
    simp [Fo.take, placesF, placesT]
  | .node _ _ y l r, j + 1, x, k, p, i, h => by
    have := placesF_snoc (F := r) (j := j) p (i + 1) (by simpa [Fo.list] using h)
    simp only [Fo.take, placesF] at this ⊢
    rw [this, List.append_assoc]
    have e : i + 1 + (j : Int) = i + ((j + 1 : Nat) : Int) := by omega
    rw [e]
theorem plTo_succ {k : Fo} {p : List Int} {j : Nat} {x : Bool × Int} {l : Fo} (h : k.list[j]? = some (x, l)) : plTo k p (j + 1) = plTo k p j ++ placesT x l (p ++ [(j : Int)]) := by
  rw [plTo, placesF_snoc p 0 h]; simp [plTo]
theorem plTo_end (k : Fo) (p : List Int) : plTo k p (Fo.len k) = p :: placesF k p 0 := by rw [plTo, take_all]
theorem placesF_len : ∀ (F : Fo) (p : List Int) (i : Int), (placesF F p i).length ≤ Fo.sizesR F
  | .nil, _, _ => Nat.le_refl _
  | .node _ _ x k r, p, i => by
    have h1 := placesF_len k (p ++ [i]) 0
    have h2 := placesF_len r p (i + 1)
    simp only [placesF, Fo.sizesR, List.length_append]
    split
    · simp; omega
    · simp; omega
theorem placesT_len (x : Bool × Int) (k : Fo) (p : List Int) : (placesT x k p).length ≤ tszR k := by
  have := placesF_len k p 0
  unfold placesT tszR
  split
  · simp
  · simp; omega
theorem sizesR_take : ∀ (j : Nat) (F : Fo), Fo.sizesR (Fo.take j F) + (match F.list[j]? with | some y => tszR y.2 | none => 0) ≤ Fo.sizesR F
  | 0, .nil => by simp [Fo.take, Fo.sizesR, Fo.list]
  | 0, .node _ _ x k r => by simp [Fo.take, Fo.sizesR, Fo.list, tszR]
  | j + 1, .nil => by simp [Fo.take, Fo.sizesR, Fo.list]
  | j + 1, .node _ _ x k r => by
    have := sizesR_take j r
    simp only [Fo.take, Fo.sizesR, Fo.list, List.getElem?_cons_succ]
    omega
theorem owns_snoc {w : World} {lo : Nat} {v : Value} {p : List Int} {j : Int} (h : w.ownsRow lo 3 1 v (p.length + 1) (vals p ++ [.int .i64 j])) : w.ownsRow lo 3 1 v (p ++ [j]).length (vals (p ++ [j])) := by simpa [vals] using h
theorem slice_of_owns {w : World} {lo : Nat} {e : TypeId} {s : Nat} {v : Value} {n : Nat} {xs : List Value} (h : w.ownsRow lo e s v n xs) : ∃ z1 z3, v = .slice z1 n z3 := by
  rcases h.2 with ⟨rfl, rfl⟩ | ⟨g, cap, cur, rfl, _⟩
  · exact ⟨_, _, rfl⟩
  · exact ⟨_, _, rfl⟩
end Go.Proofs.Ytlgnpiphaeoeiad

namespace Go.Proofs.Ytlgnpiphaeoeiad
open Go.RowKit Go.Deep Go.ChangeShapes Go.WideShapes
theorem byte_zero (d : UInt8) (r : List UInt8) (h : 0 < (⟨(d :: r).toArray⟩ : ByteArray).size) : (⟨(d :: r).toArray⟩ : ByteArray)[0]'h = d := rfl
theorem text_tail (d : UInt8) (r : List UInt8) : (⟨(d :: r).toArray⟩ : ByteArray).extract 1 (r.length + 1) = ⟨r.toArray⟩ := by
  apply ByteArray.ext
  rw [ByteArray.data_extract]
  simp
attribute [local go_sem] byte_zero text_tail
def signF (i : Int) : UInt8 := if i = 0 then 40 else 44
end Go.Proofs.Ytlgnpiphaeoeiad

namespace Go.Proofs.Ytlgnpiphaeoeiad
open Go.RowKit Go.Deep Go.ChangeShapes Go.WideShapes
def Fo.snoc : Fo → Bool × Int → Fo → Fo
  | .nil, x, k => .node 0 0 x k .nil
  | .node p q y l r, x, k => .node p q y l (Fo.snoc r x k)
theorem snoc_len : ∀ (F : Fo) (x : Bool × Int) (k : Fo), Fo.len (Fo.snoc F x k) = Fo.len F + 1
  | .nil, _, _ => rfl
  | .node _ _ _ _ r, x, k => by simp [Fo.snoc, Fo.len, snoc_len r x k]
def CellsOf (X : Nat → Prop) (w : World) : Fo → List Value → Prop
  | .nil, xs => xs = []
  | .node _ _ x k r, xs => ∃ a ys, xs = .bool x.1 :: .int .i64 x.2 :: a :: ys ∧ SB X w k a ∧ CellsOf X w r ys
theorem CellsOf.frame {X Y : Nat → Prop} {w w' : World} (hXY : ∀ q, X q → Y q) (hr : ∀ q i, X q → w'.cell? ⟨q, i, none⟩ = w.cell? ⟨q, i, none⟩) : ∀ {F : Fo} {xs : List Value}, CellsOf X w F xs → CellsOf Y w' F xs
  | .nil, _, h => h
  | .node _ _ _ _ _, _, ⟨a, ys, h1, h2, h3⟩ => ⟨a, ys, h1, h2.frame hXY hr, CellsOf.frame hXY hr h3⟩
theorem CellsOf.snoc {X : Nat → Prop} {w : World} {x : Bool × Int} {k : Fo} {a : Value} (hk : SB X w k a) : ∀ {F : Fo} {xs : List Value}, CellsOf X w F xs → CellsOf X w (Fo.snoc F x k) (xs ++ [.bool x.1, .int .i64 x.2, a])
  | .nil, _, h => by rw [CellsOf] at h; subst h; exact ⟨a, [], rfl, hk, rfl⟩
  | .node _ _ _ _ _, _, ⟨b, ys, h1, h2, h3⟩ => by subst h1; exact ⟨b, ys ++ _, rfl, h2, CellsOf.snoc hk h3⟩
theorem CellsOf.len {X : Nat → Prop} {w : World} : ∀ {F : Fo} {xs : List Value}, CellsOf X w F xs → xs.length = Fo.len F * 3
  | .nil, _, h => by rw [CellsOf] at h; subst h; rfl
  | .node _ _ _ _ r, _, ⟨a, ys, h1, _, h3⟩ => by subst h1; simp only [List.length_cons, Fo.len, h3.len]; omega
theorem CellsOf.at {X Y : Nat → Prop} {w : World} (hXY : ∀ q, X q → Y q) {g : Nat} : ∀ {F : Fo} {xs : List Value} {o : Nat}, CellsOf X w F xs → (∀ j, j < xs.length → w.cell? ⟨g, o + j, none⟩ = xs[j]?) → BIn Y w F g o
  | .nil, _, _, _, _ => trivial
  | .node _ _ x k r, _, o, ⟨a, ys, h1, h2, h3⟩, hc => by
    subst h1
    have c0 := hc 0 (by simp)
    have c1 := hc 1 (by simp)
    have c2 := hc 2 (by simp)
    obtain ⟨aa, c, b', o', rfl, q2, q3, q4, q5⟩ := h2
    refine ⟨by simpa using c0, by simpa using c1, ⟨aa, c, b', o', by simpa using c2, fun h => ⟨(q2 h).1, hXY _ (q2 h).2⟩, q3, q4, BIn.frame hXY (fun _ _ _ => rfl) q5 (fun h => (q2 h).2)⟩, ?_⟩
    refine CellsOf.at hXY h3 (fun j hj => ?_)
    have := hc (j + 3) (by simp; omega)
    rw [show o + 3 + j = o + (j + 3) by omega, this]
    simp
theorem row_sb {X Y : Nat → Prop} {w : World} {lo : Nat} {v : Value} {F : Fo} {xs : List Value} (h : w.ownsRow lo 33 3 v (Fo.len F) xs) (hc : CellsOf X w F xs) (hXY : ∀ q, X q → Y q) (hg : ∀ g, v.ownBlock = some g → Y g) : SB Y w F v := by
  rcases h.2 with ⟨rfl, h0⟩ | ⟨g, cap, cur, rfl, hl, hh, hn, hm, hs, ht⟩
  · have := len_zero h0
    subst this
    exact SB.nil Y w
  · refine ⟨_, cap, g, 0, rfl, fun _ => ⟨rfl, hg g rfl⟩, hn, hm, hc.at hXY (fun j hj => ?_)⟩
    rw [hc.len] at hj
    rw [Nat.zero_add]
    exact h.cellAt j hj
end Go.Proofs.Ytlgnpiphaeoeiad

namespace Go.Proofs.Ytlgnpiphaeoeiad
open Go.RowKit Go.Deep Go.ChangeShapes Go.WideShapes
attribute [local go_sem] byte_zero text_tail
theorem sig_at {s : List Int} (h : s.all okNum = true) {i : Nat} (hi : i < s.length) : 0 ≤ s.getD i 0 ∧ s.getD i 0 ≤ 2 := by
  have := List.all_eq_true.1 h s[i] (List.getElem_mem hi)
  simp only [okNum, decide_eq_true_eq] at this
  simpa [List.getD_eq_getElem?_getD, hi] using this
theorem SB.set3 {X : Nat → Prop} {w : World} {k : Fo} {v : Value} {b o : Nat} {x y z : Value} (h : SB X w k v) (hb : ¬ X b) : SB X (set3 w b o x y z) k v :=
  h.frame (fun _ h => h) (fun _ _ hq => set3_other (.inl (fun e => hb (e ▸ hq))))
end Go.Proofs.Ytlgnpiphaeoeiad

namespace Go.Proofs.Ytlgnpiphaeoeiad
open Go.RowKit Go.Deep Go.ChangeShapes Go.WideShapes
theorem wsig_ok {s : List Int} (h : wsig s = 0) : s.all okNum = true ∧ s.length ≤ 6 ∧ 0 < s.length := by
  unfold wsig at h
  by_cases h1 : s.length = 0 ∨ 6 < s.length
  · rw [if_pos h1] at h; omega
  · rw [if_neg h1] at h
    by_cases h2 : s.all okNum = true
    · exact ⟨h2, by omega, by omega⟩
    · rw [if_neg h2] at h; omega
theorem SIn.nil (w : World) : SIn w .nil (.slice none 0 0) := (SB.nil (fun _ => True) w).toS
end Go.Proofs.Ytlgnpiphaeoeiad

namespace Go.Proofs.Ytlgnpiphaeoeiad
open Go.RowKit Go.Deep Go.ChangeShapes Go.WideShapes
def dig (n : Int) : UInt8 := UInt8.ofNat (48 + n.toNat)
end Go.Proofs.Ytlgnpiphaeoeiad
