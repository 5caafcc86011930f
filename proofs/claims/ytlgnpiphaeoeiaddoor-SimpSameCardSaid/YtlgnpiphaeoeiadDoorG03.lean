/- Places Read ReadB ReadW Parse Text -/
import Derived.Test.YtlgnpiphaeoeiadDoorG02
import Derived.Deep.RegionHeld3
import Derived.Deep.DrawnRows
import Derived.Lib.AppendStr
namespace Go.Proofs.YtlgnpiphaeoeiadDoor
open Go.RowKit Go.Deep Go.ChangeShapes Go.WideShapes
def placesF : Fo → List Int → Int → List (List Int)
  | .nil, _, _ => []
  | .node _ _ x k r, p, i => (if x.1 then [] else (p ++ [i]) :: placesF k (p ++ [i]) 0) ++ placesF r p (i + 1)
def placesT (x : Bool × Int) (k : Fo) (p : List Int) : List (List Int) := if x.1 then [] else p :: placesF k p 0
theorem sizesR_take : ∀ (j : Nat) (F : Fo), Fo.sizesR (Fo.take j F) + (match F.list[j]? with | some y => tszR y.2 | none => 0) ≤ Fo.sizesR F
  | 0, .nil => by simp [Fo.take, Fo.sizesR, Fo.list]
  | 0, .node _ _ x k r => by simp [Fo.take, Fo.sizesR, Fo.list, tszR]
  | j + 1, .nil => by simp [Fo.take, Fo.sizesR, Fo.list]
  | j + 1, .node _ _ x k r => by
    have := sizesR_take j r
    simp only [Fo.take, Fo.sizesR, Fo.list, List.getElem?_cons_succ]
    omega
theorem owns_snoc {w : World} {lo : Nat} {v : Value} {p : List Int} {j : Int} (h : w.ownsRow lo 3 1 v (p.length + 1) (vals p ++ [.int .i64 j])) : w.ownsRow lo 3 1 v (p ++ [j]).length (vals (p ++ [j])) := by simpa [vals] using h
theorem slice_of_owns {w : World} {lo : Nat} {e : TypeId} {s : Nat} {v : Value} {n : Nat} {xs : List Value} (h : w.ownsRow lo e s v n xs) : ∃ z1 z3, v = .slice z1 n z3 := by
  rcases h.2 with ⟨rfl, rfl⟩ | ⟨g, cap, cur, rfl, _⟩
  · exact ⟨_, _, rfl⟩
  · exact ⟨_, _, rfl⟩
end Go.Proofs.YtlgnpiphaeoeiadDoor

namespace Go.Proofs.YtlgnpiphaeoeiadDoor
open Go.RowKit Go.Deep Go.ChangeShapes Go.WideShapes
abbrev str (l : List UInt8) : Value := .string ⟨l.toArray⟩
theorem byte_zero (d : UInt8) (r : List UInt8) (h : 0 < (⟨(d :: r).toArray⟩ : ByteArray).size) : (⟨(d :: r).toArray⟩ : ByteArray)[0]'h = d := rfl
theorem text_tail (d : UInt8) (r : List UInt8) : (⟨(d :: r).toArray⟩ : ByteArray).extract 1 (r.length + 1) = ⟨r.toArray⟩ := by
  apply ByteArray.ext
  rw [ByteArray.data_extract]
  simp
attribute [local go_sem] byte_zero text_tail
def signF (i : Int) : UInt8 := if i = 0 then 40 else 44
def sgn (c : UInt8) : List UInt8 → Int × List UInt8
  | [] => (8, [])
  | d :: r => if d = c then (0, r) else (2, [])
def rvar : List UInt8 → Int × (Bool × Int) × List UInt8
  | [] => (8, (false, 0), [])
  | d :: r => if (d.toNat : Int) - 48 < 0 ∨ 5 ≤ (d.toNat : Int) - 48 then (3, (false, 0), []) else (0, (true, (d.toNat : Int) - 48), r)
abbrev trm (x : Bool × Int) (a : Value) : Value := .agg #[.bool x.1, .int .i64 x.2, a]
end Go.Proofs.YtlgnpiphaeoeiadDoor

namespace Go.Proofs.YtlgnpiphaeoeiadDoor
open Go.RowKit Go.Deep Go.ChangeShapes Go.WideShapes
def Fo.snoc : Fo → Bool × Int → Fo → Fo
  | .nil, x, k => .node 0 0 x k .nil
  | .node p q y l r, x, k => .node p q y l (Fo.snoc r x k)
theorem snoc_len : ∀ (F : Fo) (x : Bool × Int) (k : Fo), Fo.len (Fo.snoc F x k) = Fo.len F + 1
  | .nil, _, _ => rfl
  | .node _ _ _ _ r, x, k => by simp [Fo.snoc, Fo.len, snoc_len r x k]
def readA (R : List UInt8 → Int × ((Bool × Int) × Fo) × List UInt8) : Nat → Int → Fo → List UInt8 → Int × Fo × List UInt8
  | 0, _, acc, t => (0, acc, t)
  | m + 1, i, acc, t =>
    if (sgn (signF i) t).1 ≠ 0 then ((sgn (signF i) t).1, .nil, []) else
    if (R (sgn (signF i) t).2).1 ≠ 0 then ((R (sgn (signF i) t).2).1, .nil, []) else
    readA R m (i + 1) (Fo.snoc acc (R (sgn (signF i) t).2).2.1.1 (R (sgn (signF i) t).2).2.1.2) (R (sgn (signF i) t).2).2.2
def argsT (R : List UInt8 → Int × ((Bool × Int) × Fo) × List UInt8) (many : Int) (t : List UInt8) : Int × Fo × List UInt8 :=
  if many ≤ 0 then (0, .nil, t) else
  if (readA R many.toNat 0 .nil t).1 ≠ 0 then ((readA R many.toNat 0 .nil t).1, .nil, []) else
  if (sgn 41 (readA R many.toNat 0 .nil t).2.2).1 ≠ 0 then ((sgn 41 (readA R many.toNat 0 .nil t).2.2).1, .nil, []) else
  (0, (readA R many.toNat 0 .nil t).2.1, (sgn 41 (readA R many.toNat 0 .nil t).2.2).2)
def readT (s : List Int) : Nat → List UInt8 → Int × ((Bool × Int) × Fo) × List UInt8
  | 0, _ => (8, ((false, 0), .nil), [])
  | _ + 1, [] => (8, ((false, 0), .nil), [])
  | f + 1, c :: r =>
    if c = 88 then ((rvar r).1, ((rvar r).2.1, .nil), (rvar r).2.2) else
    if (c.toNat : Int) - 97 < 0 ∨ (s.length : Int) ≤ (c.toNat : Int) - 97 then (7, ((false, 0), .nil), []) else
    if (argsT (readT s f) (s.getD ((c.toNat : Int) - 97).toNat 0) r).1 ≠ 0 then ((argsT (readT s f) (s.getD ((c.toNat : Int) - 97).toNat 0) r).1, ((false, 0), .nil), []) else
    (0, ((false, (c.toNat : Int) - 97), (argsT (readT s f) (s.getD ((c.toNat : Int) - 97).toNat 0) r).2.1), (argsT (readT s f) (s.getD ((c.toNat : Int) - 97).toNat 0) r).2.2)
theorem sgn_len (c : UInt8) (l : List UInt8) (h : (sgn c l).1 = 0) : (sgn c l).2.length + 1 = l.length := by
  cases l with
  | nil => simp [sgn] at h
  | cons d r =>
    simp only [sgn] at h ⊢
    by_cases e : d = c
    · simp [e]
    · simp [e] at h
theorem sgn_le (c : UInt8) (l : List UInt8) : (sgn c l).2.length ≤ l.length := by
  cases l with
  | nil => simp [sgn]
  | cons d r => simp only [sgn]; split <;> simp
theorem rvar_le (l : List UInt8) : (rvar l).2.2.length ≤ l.length := by
  cases l with
  | nil => simp [rvar]
  | cons d r => simp only [rvar]; split <;> simp
theorem readA_le {R : List UInt8 → Int × ((Bool × Int) × Fo) × List UInt8} : ∀ (m : Nat) (i : Int) (acc : Fo) (t : List UInt8), (∀ u, u.length < t.length → (R u).2.2.length ≤ u.length) → (readA R m i acc t).2.2.length ≤ t.length
  | 0, _, _, _, _ => Nat.le_refl _
  | m + 1, i, acc, t, hR => by
    rw [readA]
    by_cases h1 : (sgn (signF i) t).1 = 0
    · rw [if_neg (by simpa using h1)]
      have e1 := sgn_len _ _ h1
      by_cases h2 : (R (sgn (signF i) t).2).1 = 0
      · rw [if_neg (by simpa using h2)]
        have e2 := hR (sgn (signF i) t).2 (by omega)
        have := readA_le m (i + 1) (Fo.snoc acc (R (sgn (signF i) t).2).2.1.1 (R (sgn (signF i) t).2).2.1.2) (R (sgn (signF i) t).2).2.2 (fun u hu => hR u (by omega))
        omega
      · rw [if_pos h2]; simp
    · rw [if_pos h1]; simp
theorem readT_le (s : List Int) : ∀ (f : Nat) (t : List UInt8), (readT s f t).2.2.length ≤ t.length
  | 0, _ => by simp [readT]
  | _ + 1, [] => by simp [readT]
  | f + 1, c :: r => by
    rw [readT]
    split
    · have := rvar_le r; simp only [List.length_cons]; omega
    · split
      · simp
      · split
        · simp
        · unfold argsT
          split
          · simp
          · split
            · simp
            · split
              · simp
              · have h1 := readA_le (R := readT s f) (s.getD ((c.toNat : Int) - 97).toNat 0).toNat 0 .nil r (fun u _ => readT_le s f u)
                have h2 := sgn_le 41 (readA (readT s f) (s.getD ((c.toNat : Int) - 97).toNat 0).toNat 0 .nil r).2.2
                simp only [List.length_cons]
                omega
def CellsOf (X : Nat → Prop) (w : World) : Fo → List Value → Prop
  | .nil, xs => xs = []
  | .node _ _ x k r, xs => ∃ a ys, xs = .bool x.1 :: .int .i64 x.2 :: a :: ys ∧ SB X w k a ∧ CellsOf X w r ys
theorem CellsOf.frame {X Y : Nat → Prop} {w w' : World} (hXY : ∀ q, X q → Y q) (hr : ∀ q i, X q → w'.cell? ⟨q, i, none⟩ = w.cell? ⟨q, i, none⟩) : ∀ {F : Fo} {xs : List Value}, CellsOf X w F xs → CellsOf Y w' F xs
  | .nil, _, h => h
  | .node _ _ _ _ _, _, ⟨a, ys, h1, h2, h3⟩ => ⟨a, ys, h1, h2.frame hXY hr, CellsOf.frame hXY hr h3⟩
theorem CellsOf.snoc {X : Nat → Prop} {w : World} {x : Bool × Int} {k : Fo} {a : Value} (hk : SB X w k a) : ∀ {F : Fo} {xs : List Value}, CellsOf X w F xs → CellsOf X w (Fo.snoc F x k) (xs ++ [.bool x.1, .int .i64 x.2, a])
  | .nil, _, h => by rw [CellsOf] at h; subst h; exact ⟨a, [], rfl, hk, rfl⟩
  | .node _ _ _ _ _, _, ⟨b, ys, h1, h2, h3⟩ => by subst h1; exact ⟨b, ys ++ _, rfl, h2, CellsOf.snoc hk h3⟩
theorem CellsOf.len {X : Nat → Prop} {w : World} : ∀ {F : Fo} {xs : List Value}, CellsOf X w F xs → xs.length = Fo.len F * 3
  | .nil, _, h => by rw [CellsOf] at h; subst h; rfl
  | .node _ _ _ _ r, _, ⟨a, ys, h1, _, h3⟩ => by subst h1; simp only [List.length_cons, Fo.len, h3.len]; omega
theorem CellsOf.at {X Y : Nat → Prop} {w : World} (hXY : ∀ q, X q → Y q) {g : Nat} : ∀ {F : Fo} {xs : List Value} {o : Nat}, CellsOf X w F xs → (∀ j, j < xs.length → w.cell? ⟨g, o + j, none⟩ = xs[j]?) → BIn Y w F g o
  | .nil, _, _, _, _ => trivial
  | .node _ _ x k r, _, o, ⟨a, ys, h1, h2, h3⟩, hc => by
    subst h1
    have c0 := hc 0 (by simp)
    have c1 := hc 1 (by simp)
    have c2 := hc 2 (by simp)
    obtain ⟨aa, c, b', o', rfl, q2, q3, q4, q5⟩ := h2
    refine ⟨by simpa using c0, by simpa using c1, ⟨aa, c, b', o', by simpa using c2, fun h => ⟨(q2 h).1, hXY _ (q2 h).2⟩, q3, q4, BIn.frame hXY (fun _ _ _ => rfl) q5 (fun h => (q2 h).2)⟩, ?_⟩
    refine CellsOf.at hXY h3 (fun j hj => ?_)
    have := hc (j + 3) (by simp; omega)
    rw [show o + 3 + j = o + (j + 3) by omega, this]
    simp
theorem row_sb {X Y : Nat → Prop} {w : World} {lo : Nat} {v : Value} {F : Fo} {xs : List Value} (h : w.ownsRow lo 37 3 v (Fo.len F) xs) (hc : CellsOf X w F xs) (hXY : ∀ q, X q → Y q) (hg : ∀ g, v.ownBlock = some g → Y g) : SB Y w F v := by
  rcases h.2 with ⟨rfl, h0⟩ | ⟨g, cap, cur, rfl, hl, hh, hn, hm, hs, ht⟩
  · have := len_zero h0
    subst this
    exact SB.nil Y w
  · refine ⟨_, cap, g, 0, rfl, fun _ => ⟨rfl, hg g rfl⟩, hn, hm, hc.at hXY (fun j hj => ?_)⟩
    rw [hc.len] at hj
    rw [Nat.zero_add]
    exact h.cellAt j hj
end Go.Proofs.YtlgnpiphaeoeiadDoor

namespace Go.Proofs.YtlgnpiphaeoeiadDoor
open Go.RowKit Go.Deep Go.ChangeShapes Go.WideShapes
attribute [local go_sem] byte_zero text_tail
theorem sig_at {s : List Int} (h : s.all okNum = true) {i : Nat} (hi : i < s.length) : 0 ≤ s.getD i 0 ∧ s.getD i 0 ≤ 2 := by
  have := List.all_eq_true.1 h s[i] (List.getElem_mem hi)
  simp only [okNum, decide_eq_true_eq] at this
  simpa [List.getD_eq_getElem?_getD, hi] using this
theorem run_tail (c : UInt8) (r : List UInt8) (w : World) : (Instr.slice 9 (.string ⟨(c :: r).toArray⟩) (some (.int .i64 1)) none none).run Tryd.prog w = .ok (.string ⟨r.toArray⟩) w := by
  rw [run_slice_string_l (ht := Tryd.underlying9) (kl := .i64) (l := 1) (h0 := by decide) (h1 := by simp [ByteArray.size]; omega)]
  have := text_tail c r
  simp only [Int.toNat_one]
  rw [show (⟨(c :: r).toArray⟩ : ByteArray).size = r.length + 1 from by simp [ByteArray.size], this]
theorem box_full {w w1 : World} {x y z : Value} {T : TypeId} (h : Below (w.alloc (.cells #[x, y, z] T)).heap.size (w.alloc (.cells #[x, y, z] T)) w1) :
    w1.cell? ⟨w.heap.size, 0, none⟩ = some x ∧ w1.cell? ⟨w.heap.size, 1, none⟩ = some y ∧ w1.cell? ⟨w.heap.size, 2, none⟩ = some z ∧ (∀ i, w1.frozen? ⟨w.heap.size, i, none⟩ = false) ∧ Below w.heap.size w w1 ∧ w.heap.size < w1.heap.size := by
  have h' : Below (w.heap.size + 1) (w.alloc (.cells #[x, y, z] T)) w1 := by simpa using h
  obtain ⟨a, b, c, d, e⟩ := box_cells h'
  exact ⟨a, b, c, fun i => by rw [h'.frozen (by simp)]; simp, d, e⟩
theorem SB.set3 {X : Nat → Prop} {w : World} {k : Fo} {v : Value} {b o : Nat} {x y z : Value} (h : SB X w k v) (hb : ¬ X b) : SB X (set3 w b o x y z) k v :=
  h.frame (fun _ h => h) (fun _ _ hq => set3_other (.inl (fun e => hb (e ▸ hq))))
end Go.Proofs.YtlgnpiphaeoeiadDoor

namespace Go.Proofs.YtlgnpiphaeoeiadDoor
open Go.RowKit Go.Deep Go.ChangeShapes Go.WideShapes
abbrev zeroT : (Bool × Int) × Fo := ((false, 0), .nil)
def parseT (s : List Int) (l : List UInt8) : Int × ((Bool × Int) × Fo) :=
  if wsig s ≠ 0 then (wsig s, zeroT) else if 48 < l.length then (4, zeroT) else
  if (readT s (l.length + 1) l).1 ≠ 0 then ((readT s (l.length + 1) l).1, zeroT) else
  if (readT s (l.length + 1) l).2.2 ≠ [] then (2, zeroT) else
  if wrongF s (readT s (l.length + 1) l).2.1.1 (readT s (l.length + 1) l).2.1.2 ≠ 0 then (wrongF s (readT s (l.length + 1) l).2.1.1 (readT s (l.length + 1) l).2.1.2, zeroT) else
  (0, (readT s (l.length + 1) l).2.1)
theorem wsig_ok {s : List Int} (h : wsig s = 0) : s.all okNum = true ∧ s.length ≤ 6 ∧ 0 < s.length := by
  unfold wsig at h
  by_cases h1 : s.length = 0 ∨ 6 < s.length
  · rw [if_pos h1] at h; omega
  · rw [if_neg h1] at h
    by_cases h2 : s.all okNum = true
    · exact ⟨h2, by omega, by omega⟩
    · rw [if_neg h2] at h; omega
theorem SIn.nil (w : World) : SIn w .nil (.slice none 0 0) := (SB.nil (fun _ => True) w).toS
end Go.Proofs.YtlgnpiphaeoeiadDoor

namespace Go.Proofs.YtlgnpiphaeoeiadDoor
open Go.RowKit Go.Deep Go.ChangeShapes Go.WideShapes
abbrev bytesV (bs : List UInt8) : List Value := bs.map fun b => Value.int .u8 (b.toNat : Int)
def dig (n : Int) : UInt8 := UInt8.ofNat (48 + n.toNat)
set_option maxRecDepth 100000 in
set_option maxHeartbeats 400000 in
theorem small_any (n : Int) (h0 : 0 ≤ n) (h4 : n ≤ 4) (w : World) : Calls Tryd.prog 83 #[.int .i64 n] w fun e w' => e = .returned (str [dig n]) ∧ w' = w := by
  have : n = 0 ∨ n = 1 ∨ n = 2 ∨ n = 3 ∨ n = 4 := by omega
  rcases this with rfl | rfl | rfl | rfl | rfl <;>
  · go_enter Tryd.func83, Tryd.ntmps83
    go_wp2_with fail
    go_ret
    exact ⟨rfl, rfl⟩
end Go.Proofs.YtlgnpiphaeoeiadDoor
