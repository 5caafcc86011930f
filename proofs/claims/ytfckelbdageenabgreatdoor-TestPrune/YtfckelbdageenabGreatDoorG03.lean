/- Rows2 Places Read ReadB ReadW Parse -/
import Derived.Test.YtfckelbdageenabGreatDoorG02
import Derived.Deep.RegionHeld3
import Derived.Deep.DrawnRows
namespace Go.Proofs.YtfckelbdageenabGreatDoor
open Go.RowKit Go.Deep Go.ChangeShapes Go.WideShapes

theorem grown_drew_alloc (w : World) (ob : Obj) : w.grownBy (w.drew.alloc ob) none := ⟨rfl, rfl, rfl, by simp, fun k hk _ => Below.heap_alloc w.drew ob k hk⟩

/-- An append: in the old row, with the capacity that it had, or in a new block. -/
theorem run_append_cap {P : Program} (w : World) (t ty : TypeId) (base : Nat) (e : TypeId) (i : TypeInfo) (z : Value) (size bytes : Nat) (ht : P.underlying t = some (.slice e)) (hi : P.info? e = some i) (hz : i.zero = some z)
    (hsize : i.size = size) (hby : i.bytes = bytes) (hzs : z.cells.size = size) (hsz : 0 < size)
    (v : Value) (n : Nat) (xs : List Value) (hown : w.ownsRow base e size v n xs)
    (ad : Addr) (m c : Nat) (news : List Value) (hl : news.length = m * size) (hnews : ∀ j u, news[j]? = some u → w.cell? (ad.add j) = some u) (h1 : ∀ u ∈ news, u.oneCell' = true)
    (hm : 0 < m) (h63 : n + m ≤ maxLen) (hbytes : (n + m) * bytes ≤ 140737488355328) (hbase : base ≤ w.heap.size) :
    ∃ g cap w', (Builtin.append_ #[t, t] ty #[v, .slice (some ad) m c]).run P w = .ok (.slice (some ⟨g, 0, none⟩) (n + m) cap) w' ∧
      w'.ownsRow base e size (.slice (some ⟨g, 0, none⟩) (n + m) cap) (n + m) (xs ++ news) ∧ w.grownBy w' v.ownBlock ∧ (v = .slice (some ⟨g, 0, none⟩) n cap ∨ (g = w.heap.size ∧ w.grownBy w' none)) ∧ g < w'.heap.size := by
  obtain ⟨g, cap, w', hr, h2, h3, h4, h5⟩ := run_append_lies (P := P) w t ty base e i z size bytes ht hi hz hsize hby hzs hsz v n xs hown ad m c news hl hnews h1 hm h63 hbytes hbase w.heap.size rfl
  refine ⟨g, cap, w', hr, h2, h3, ?_, h5⟩
  clear h4
  subst hsize
  subst hby
  have hsmall : n + m ≤ 9223372036854775807 := by simp only [maxLen] at h63; omega
  rcases hown.2 with ⟨rfl, rfl⟩ | ⟨g0, cap0, cur, rfl, hbg, hg, hnc, hcm, hcs, htake⟩
  · have hr2 := run_append_nil (P := P) w t ty e i z ht hi hz ad m c news hl hnews (by omega) (by omega) (by have hb := hbytes; simp only [Nat.zero_add] at hb; omega)
    rw [hr] at hr2
    simp only [Result.ok.injEq, Value.slice.injEq, Option.some.injEq, Addr.mk.injEq] at hr2
    exact .inr ⟨hr2.1.1.1, by rw [hr2.2]; exact grown_drew_alloc w _⟩
  · by_cases hroom : n + m ≤ cap0
    · have hfit : n * i.size + news.length ≤ cur.size := by rw [hl, hcs, ← Nat.add_mul]; exact Nat.mul_le_mul_right _ hroom
      have hr2 := run_append_room (P := P) w t ty e i ht hi g0 n cap0 cur hg ad m c news hl hnews h1 hroom hfit
      rw [hr] at hr2
      simp only [Result.ok.injEq, Value.slice.injEq, Option.some.injEq, Addr.mk.injEq] at hr2
      obtain ⟨⟨⟨e1, _⟩, _, e2⟩, _⟩ := hr2
      exact .inl (by rw [e1, e2])
    · have holds : ∀ j u, xs[j]? = some u → w.cell? ((⟨g0, 0, none⟩ : Addr).add j) = some u := hown.cells (g := g0) rfl
      have hr2 := run_append_grow (P := P) w t ty e i z ht hi hz ⟨g0, 0, none⟩ n cap0 xs hown.1 holds ad m c news hl hnews (by omega) (by omega) (growslice_fits (by omega) hbytes)
      rw [hr] at hr2
      simp only [Result.ok.injEq, Value.slice.injEq, Option.some.injEq, Addr.mk.injEq] at hr2
      exact .inr ⟨hr2.1.1.1, by rw [hr2.2]; exact grown_drew_alloc w _⟩

theorem step_append_cap {P : Program} (w : World) {ops : Array Oper} {o : Oper} {a : Act} {K : Act → World → Prop} {Q : Exit → Act → World → Prop} {E : Prop} (hgd : o.guard = none) (s x : Operand) (t : TypeId)
    (ho : o.op = .call { callee := .builtin .append, args := #[s, x], argTypes := #[t, t] })
    (base : Nat) (e : TypeId) (i : TypeInfo) (z : Value) (size bytes : Nat) (ht : P.underlying t = some (.slice e)) (hi : P.info? e = some i) (hz : i.zero = some z)
    (hsize : i.size = size) (hby : i.bytes = bytes) (hzs : z.cells.size = size) (hsz : 0 < size)
    (v : Value) (n : Nat) (xs : List Value) (hs : a.eval s = v) (hown : w.ownsRow base e size v n xs)
    (ad : Addr) (m c : Nat) (news : List Value) (hx : a.eval x = .slice (some ad) m c) (hl : news.length = m * size) (hnews : ∀ j u, news[j]? = some u → w.cell? (ad.add j) = some u) (h1 : ∀ u ∈ news, u.oneCell' = true)
    (hm : 0 < m) (h63 : n + m ≤ maxLen) (hbytes : (n + m) * bytes ≤ 140737488355328) (hbase : base ≤ w.heap.size)
    (h : ∀ g cap w', w'.ownsRow base e size (.slice (some ⟨g, 0, none⟩) (n + m) cap) (n + m) (xs ++ news) → w.grownBy w' v.ownBlock → (v = .slice (some ⟨g, 0, none⟩) n cap ∨ (g = w.heap.size ∧ w.grownBy w' none)) → g < w'.heap.size → K (a.put o.dst (.slice (some ⟨g, 0, none⟩) (n + m) cap)) w') :
    if Region.wanted o (yielded ops a.tmps) = true then Oper.wp P o a w K Q else E := by
  have hw : Region.wanted o (yielded ops a.tmps) = true := by simp [Region.wanted, hgd]
  rw [if_pos hw]
  obtain ⟨g, cap, w', hr, h2, h3, h4, h5⟩ := run_append_cap (P := P) w t o.type base e i z size bytes ht hi hz hsize hby hzs hsz v n xs hown ad m c news hl hnews h1 hm h63 hbytes hbase
  unfold Oper.wp execOp
  simp only [ho, resolve, invoke, builtin, Sem.run_bind, Sem.run_pure, Result.andThen_ok, List.map_toArray, List.map_cons, List.map_nil, hs, hx, hr]
  exact h g cap w' h2 h3 h4 h5

/-- Of what was there only two rows may have turned. -/
structure Fr (w w' : World) (g1 g2 : Option Nat) : Prop where
  os : w'.os = w.os
  tape : w'.tape = w.tape
  output : w'.output = w.output
  size : w.heap.size ≤ w'.heap.size
  block : ∀ q, q < w.heap.size → some q ≠ g1 → some q ≠ g2 → w'.heap[q]? = w.heap[q]?

theorem Fr.refl (w : World) (g1 g2 : Option Nat) : Fr w w g1 g2 := ⟨rfl, rfl, rfl, Nat.le_refl _, fun _ _ _ _ => rfl⟩
theorem Fr.of_below {w w' : World} (h : Below w.heap.size w w') (g1 g2 : Option Nat) : Fr w w' g1 g2 := ⟨h.os, h.tape, h.output, h.size, fun q hq _ _ => h.block q hq⟩
theorem Fr.of_grown {w w' : World} {row g1 g2 : Option Nat} (h : w.grownBy w' row) (hr : ∀ q, q < w.heap.size → row = some q → some q = g1 ∨ some q = g2) : Fr w w' g1 g2 :=
  ⟨h.os, h.tape, h.output, h.size, fun q hq h1 h2 => h.block q hq (fun e => by rcases hr q hq e.symm with h | h; exact h1 h; exact h2 h)⟩
theorem Fr.trans {w w1 w2 : World} {g1 g2 h1 h2 : Option Nat} (a : Fr w w1 g1 g2) (b : Fr w1 w2 h1 h2) (hr : ∀ q, q < w.heap.size → some q = h1 ∨ some q = h2 → some q = g1 ∨ some q = g2) : Fr w w2 g1 g2 := by
  refine ⟨b.os.trans a.os, b.tape.trans a.tape, b.output.trans a.output, Nat.le_trans a.size b.size, fun q hq e1 e2 => ?_⟩
  rw [b.block q (Nat.lt_of_lt_of_le hq a.size) (fun e => ?_) (fun e => ?_), a.block q hq e1 e2]
  · rcases hr q hq (.inl e) with h | h; exact e1 h; exact e2 h
  · rcases hr q hq (.inr e) with h | h; exact e1 h; exact e2 h
theorem Fr.below {B : Nat} {w w' : World} {g1 g2 : Option Nat} (h : Fr w w' g1 g2) (hB : B ≤ w.heap.size) (h1 : ∀ g, g1 = some g → B ≤ g) (h2 : ∀ g, g2 = some g → B ≤ g) : Below B w w' :=
  ⟨h.os, h.tape, h.output, h.size, fun q hq => h.block q (by omega) (fun e => by have := h1 q e.symm; omega) (fun e => by have := h2 q e.symm; omega)⟩

theorem owns_keep {w w' : World} {lo : Nat} {e : TypeId} {s : Nat} {v : Value} {n : Nat} {xs : List Value} (h : w.ownsRow lo e s v n xs) (hk : ∀ g, v.ownBlock = some g → w'.heap[g]? = w.heap[g]?) : w'.ownsRow lo e s v n xs := by
  obtain ⟨h1, h2⟩ := h
  refine ⟨h1, ?_⟩
  rcases h2 with h2 | ⟨g, cap, cur, rfl, hg, hh, r⟩
  · exact .inl h2
  · exact .inr ⟨g, cap, cur, rfl, hg, by rw [hk g rfl]; exact hh, r⟩
theorem owns_mono {w : World} {lo lo' : Nat} {e : TypeId} {s : Nat} {v : Value} {n : Nat} {xs : List Value} (h : w.ownsRow lo e s v n xs) (hl : lo' ≤ lo) : w.ownsRow lo' e s v n xs := by
  obtain ⟨h1, h2⟩ := h
  refine ⟨h1, ?_⟩
  rcases h2 with h2 | ⟨g, cap, cur, rfl, hg, hh, r⟩
  · exact .inl h2
  · exact .inr ⟨g, cap, cur, rfl, by omega, hh, r⟩
theorem owns_at {w : World} {lo : Nat} {e : TypeId} {s : Nat} {v : Value} {n : Nat} {xs : List Value} (h : w.ownsRow lo e s v n xs) : ∀ g, v.ownBlock = some g → lo ≤ g ∧ g < w.heap.size := by
  intro g hg
  rcases h.2 with ⟨rfl, _⟩ | ⟨g', cap, cur, rfl, h1, hh, _⟩
  · simp [Value.ownBlock] at hg
  · simp [Value.ownBlock] at hg
    subst hg
    refine ⟨h1, ?_⟩
    rcases Nat.lt_or_ge g' w.heap.size with h | h
    · exact h
    · rw [Array.getElem?_eq_none h] at hh; cases hh
/-- The values ys are the ways Q, each a row of its own from lo on, none in the row g. -/
def Pw (w : World) (lo : Nat) (g : Option Nat) (ys : List Value) (Q : List (List Int)) : Prop :=
  ys.length = Q.length ∧ ∀ (i : Nat) (y : Value) (q : List Int), ys[i]? = some y → Q[i]? = some q → w.ownsRow lo 3 1 y q.length (vals q) ∧ ∀ h, y.ownBlock = some h → some h ≠ g

theorem Pw.keep {w w' : World} {lo lo' : Nat} {g g' h1 h2 : Option Nat} {ys : List Value} {Q : List (List Int)} (h : Pw w lo g ys Q) (hf : Fr w w' h1 h2) (e1 : ∀ q, lo ≤ q → q < w.heap.size → some q ≠ g → some q ≠ h1 ∧ some q ≠ h2 ∧ some q ≠ g') (hlo : lo' ≤ lo) : Pw w' lo' g' ys Q := by
  refine ⟨h.1, fun i y q hy hq => ?_⟩
  obtain ⟨ho, hn⟩ := h.2 i y q hy hq
  refine ⟨owns_mono (owns_keep ho fun k hk => ?_) hlo, fun k hk => ?_⟩
  · obtain ⟨p1, p2⟩ := owns_at ho k hk
    obtain ⟨q1, q2, _⟩ := e1 k p1 p2 (hn k hk)
    exact hf.block k p2 q1 q2
  · obtain ⟨p1, p2⟩ := owns_at ho k hk
    exact (e1 k p1 p2 (hn k hk)).2.2
theorem Pw.append {w : World} {lo : Nat} {g : Option Nat} {ys zs : List Value} {Q R : List (List Int)} (h : Pw w lo g ys Q) (k : Pw w lo g zs R) : Pw w lo g (ys ++ zs) (Q ++ R) := by
  refine ⟨by simp [h.1, k.1], fun i y q hy hq => ?_⟩
  by_cases hi : i < ys.length
  · rw [List.getElem?_append_left hi] at hy
    rw [List.getElem?_append_left (by rw [← h.1]; exact hi)] at hq
    exact h.2 i y q hy hq
  · rw [List.getElem?_append_right (by omega)] at hy
    rw [List.getElem?_append_right (by rw [← h.1]; omega), ← h.1] at hq
    exact k.2 _ y q hy hq

end Go.Proofs.YtfckelbdageenabGreatDoor

namespace Go.Proofs.YtfckelbdageenabGreatDoor
open Go.RowKit Go.Deep Go.ChangeShapes Go.WideShapes

theorem owns_snoc {w : World} {lo : Nat} {v : Value} {p : List Int} {j : Int} (h : w.ownsRow lo 3 1 v (p.length + 1) (vals p ++ [.int .i64 j])) : w.ownsRow lo 3 1 v (p ++ [j]).length (vals (p ++ [j])) := by simpa [vals] using h
theorem slice_of_owns {w : World} {lo : Nat} {e : TypeId} {s : Nat} {v : Value} {n : Nat} {xs : List Value} (h : w.ownsRow lo e s v n xs) : ∃ z1 z3, v = .slice z1 n z3 := by
  rcases h.2 with ⟨rfl, rfl⟩ | ⟨g, cap, cur, rfl, _⟩
  · exact ⟨_, _, rfl⟩
  · exact ⟨_, _, rfl⟩

end Go.Proofs.YtfckelbdageenabGreatDoor

namespace Go.Proofs.YtfckelbdageenabGreatDoor
open Go.RowKit Go.Deep Go.ChangeShapes Go.WideShapes

abbrev str (l : List UInt8) : Value := .string ⟨l.toArray⟩

theorem byte_zero (d : UInt8) (r : List UInt8) (h : 0 < (⟨(d :: r).toArray⟩ : ByteArray).size) : (⟨(d :: r).toArray⟩ : ByteArray)[0]'h = d := rfl
theorem text_tail (d : UInt8) (r : List UInt8) : (⟨(d :: r).toArray⟩ : ByteArray).extract 1 (r.length + 1) = ⟨r.toArray⟩ := by
  apply ByteArray.ext
  rw [ByteArray.data_extract]
  simp
attribute [local go_sem] byte_zero text_tail

def signF (i : Int) : UInt8 := if i = 0 then 40 else 44

set_option maxHeartbeats 400000 in
theorem signAhead_any (i : Int) (w : World) : Calls Tryz.prog 118 #[.int .i64 i] w fun e w' => e = .returned (.int .u8 ((signF i).toNat : Int)) ∧ w' = w := by
  by_cases h : i = 0
  · have Hf : Hid (((signF i).toNat : Int) = 40) := by rw [Hid, signF, if_pos h]; rfl
    have hb : (i == 0) = true := by simp [h]
    clear h
    go_enter Tryz.func118, Tryz.ntmps118
    go_wp2_with fail
    go_ret
    exact ⟨by rw [Hf.out]; rfl, rfl⟩
  · have Hf : Hid (((signF i).toNat : Int) = 44) := by rw [Hid, signF, if_neg h]; rfl
    have hb : (i == 0) = false := by simp [h]
    clear h
    go_enter Tryz.func118, Tryz.ntmps118
    go_wp2_with fail
    go_ret
    exact ⟨by rw [Hf.out]; rfl, rfl⟩

/-- What stands behind a sign that must be; its error. -/
def sgn (c : UInt8) : List UInt8 → Int × List UInt8
  | [] => (8, [])
  | d :: r => if d = c then (0, r) else (2, [])

set_option maxHeartbeats 400000 in
theorem readSign_any (c : UInt8) (l : List UInt8) (w : World) (hl : l.length ≤ maxLen) : Calls Tryz.prog 128 #[.int .u8 (c.toNat : Int), str l] w fun e w' => e = .returned (.tuple #[str (sgn c l).2, .int .i64 (sgn c l).1]) ∧ w' = w := by
  unfold maxLen at hl
  cases l with
  | nil =>
    go_enter Tryz.func128, Tryz.ntmps128
    go_wp2_with fail
    go_ret2
    exact ⟨rfl, rfl⟩
  | cons d r =>
    by_cases h : d = c
    · have Hf : Hid (sgn c (d :: r) = (0, r)) := by simp [Hid, sgn, h]
      subst h
      go_enter Tryz.func128, Tryz.ntmps128
      go_wp2_with fail
      go_ret2
      exact ⟨by rw [Hf.out]; rfl, rfl⟩
    · have Hf : Hid (sgn c (d :: r) = (2, [])) := by simp [Hid, sgn, h]
      have hb : ((d.toNat : Int) != (c.toNat : Int)) = true := by
        simp only [bne_iff_ne, ne_eq, Int.natCast_inj]
        exact fun e => h (UInt8.toNat_inj.1 e)
      go_enter Tryz.func128, Tryz.ntmps128
      go_wp2_with fail
      go_ret2
      exact ⟨by rw [Hf.out]; rfl, rfl⟩

/-- A variable's number, of one digit; what is behind. -/
def rvar : List UInt8 → Int × (Bool × Int) × List UInt8
  | [] => (8, (false, 0), [])
  | d :: r => if (d.toNat : Int) - 48 < 0 ∨ 5 ≤ (d.toNat : Int) - 48 then (3, (false, 0), []) else (0, (true, (d.toNat : Int) - 48), r)

abbrev trm (x : Bool × Int) (a : Value) : Value := .agg #[.bool x.1, .int .i64 x.2, a]

set_option maxHeartbeats 400000 in
theorem readVar_any (l : List UInt8) (w : World) (hl : l.length ≤ maxLen) : Calls Tryz.prog 111 #[str l] w fun e w' => e = .returned (.tuple #[trm (rvar l).2.1 (.slice none 0 0), str (rvar l).2.2, .int .i64 (rvar l).1]) ∧ Below w.heap.size w w' := by
  unfold maxLen at hl
  cases l with
  | nil =>
    go_enter Tryz.func111, Tryz.ntmps111
    go_wp2_with fail
    exact bodyPost_ret (v := .tuple #[.agg #[.bool false, .int .i64 0, .slice none 0 0], .string ⟨#[]⟩, .int .i64 8]) (by simp [results, Tryz.results111, go_sem]) rfl ⟨rfl, below_alloc _ _⟩
  | cons d r =>
    have hd : (d.toNat : Int) < 256 := by have := d.toNat_lt; omega
    by_cases h1 : (d.toNat : Int) - 48 < 0
    · have Hf : Hid (rvar (d :: r) = (3, (false, 0), [])) := by simp [Hid, rvar, h1]
      go_enter Tryz.func111, Tryz.ntmps111
      go_wp2_with fail
      rw [Hf.out]
      exact bodyPost_ret (v := .tuple #[.agg #[.bool false, .int .i64 0, .slice none 0 0], .string ⟨#[]⟩, .int .i64 3]) (by simp [results, Tryz.results111, go_sem]) rfl ⟨rfl, below_alloc _ _⟩
    by_cases h2 : 5 ≤ (d.toNat : Int) - 48
    · have Hf : Hid (rvar (d :: r) = (3, (false, 0), [])) := by simp [Hid, rvar, h2]
      go_enter Tryz.func111, Tryz.ntmps111
      go_wp2_with fail
      rw [Hf.out]
      exact bodyPost_ret (v := .tuple #[.agg #[.bool false, .int .i64 0, .slice none 0 0], .string ⟨#[]⟩, .int .i64 3]) (by simp [results, Tryz.results111, go_sem]) rfl ⟨rfl, below_alloc _ _⟩
    have Hf : Hid (rvar (d :: r) = (0, (true, (d.toNat : Int) - 48), r)) := by rw [Hid, rvar, if_neg (by omega)]
    go_enter Tryz.func111, Tryz.ntmps111
    go_wp2_with fail
    go_region
    go_wp2_with fail
    rw [Hf.out]
    exact bodyPost_ret (v := .tuple #[.agg #[.bool true, .int .i64 ((d.toNat : Int) - 48), .slice none 0 0], .string ⟨r.toArray⟩, .int .i64 0]) (by simp [results, Tryz.results111, go_sem]) rfl ⟨rfl, (below_alloc _ _).drew⟩

end Go.Proofs.YtfckelbdageenabGreatDoor

namespace Go.Proofs.YtfckelbdageenabGreatDoor
open Go.RowKit Go.Deep Go.ChangeShapes Go.WideShapes

def Fo.snoc : Fo → Bool × Int → Fo → Fo
  | .nil, x, k => .node 0 0 x k .nil
  | .node p q y l r, x, k => .node p q y l (Fo.snoc r x k)
theorem snoc_len : ∀ (F : Fo) (x : Bool × Int) (k : Fo), Fo.len (Fo.snoc F x k) = Fo.len F + 1
  | .nil, _, _ => rfl
  | .node _ _ _ _ r, x, k => by simp [Fo.snoc, Fo.len, snoc_len r x k]

/-- So many terms that a text begins with, each behind its sign. -/
def readA (R : List UInt8 → Int × ((Bool × Int) × Fo) × List UInt8) : Nat → Int → Fo → List UInt8 → Int × Fo × List UInt8
  | 0, _, acc, t => (0, acc, t)
  | m + 1, i, acc, t =>
    if (sgn (signF i) t).1 ≠ 0 then ((sgn (signF i) t).1, .nil, []) else
    if (R (sgn (signF i) t).2).1 ≠ 0 then ((R (sgn (signF i) t).2).1, .nil, []) else
    readA R m (i + 1) (Fo.snoc acc (R (sgn (signF i) t).2).2.1.1 (R (sgn (signF i) t).2).2.1.2) (R (sgn (signF i) t).2).2.2
def argsT (R : List UInt8 → Int × ((Bool × Int) × Fo) × List UInt8) (many : Int) (t : List UInt8) : Int × Fo × List UInt8 :=
  if many ≤ 0 then (0, .nil, t) else
  if (readA R many.toNat 0 .nil t).1 ≠ 0 then ((readA R many.toNat 0 .nil t).1, .nil, []) else
  if (sgn 41 (readA R many.toNat 0 .nil t).2.2).1 ≠ 0 then ((sgn 41 (readA R many.toNat 0 .nil t).2.2).1, .nil, []) else
  (0, (readA R many.toNat 0 .nil t).2.1, (sgn 41 (readA R many.toNat 0 .nil t).2.2).2)
/-- The term that a text begins with: its error, the term, what is behind. -/
def readT (s : List Int) : Nat → List UInt8 → Int × ((Bool × Int) × Fo) × List UInt8
  | 0, _ => (8, ((false, 0), .nil), [])
  | _ + 1, [] => (8, ((false, 0), .nil), [])
  | f + 1, c :: r =>
    if c = 88 then ((rvar r).1, ((rvar r).2.1, .nil), (rvar r).2.2) else
    if (c.toNat : Int) - 97 < 0 ∨ (s.length : Int) ≤ (c.toNat : Int) - 97 then (7, ((false, 0), .nil), []) else
    if (argsT (readT s f) (s.getD ((c.toNat : Int) - 97).toNat 0) r).1 ≠ 0 then ((argsT (readT s f) (s.getD ((c.toNat : Int) - 97).toNat 0) r).1, ((false, 0), .nil), []) else
    (0, ((false, (c.toNat : Int) - 97), (argsT (readT s f) (s.getD ((c.toNat : Int) - 97).toNat 0) r).2.1), (argsT (readT s f) (s.getD ((c.toNat : Int) - 97).toNat 0) r).2.2)

theorem sgn_len (c : UInt8) (l : List UInt8) (h : (sgn c l).1 = 0) : (sgn c l).2.length + 1 = l.length := by
  cases l with
  | nil => simp [sgn] at h
  | cons d r =>
    simp only [sgn] at h ⊢
    by_cases e : d = c
    · simp [e]
    · simp [e] at h
theorem sgn_le (c : UInt8) (l : List UInt8) : (sgn c l).2.length ≤ l.length := by
  cases l with
  | nil => simp [sgn]
  | cons d r => simp only [sgn]; split <;> simp
theorem rvar_le (l : List UInt8) : (rvar l).2.2.length ≤ l.length := by
  cases l with
  | nil => simp [rvar]
  | cons d r => simp only [rvar]; split <;> simp
theorem readA_le {R : List UInt8 → Int × ((Bool × Int) × Fo) × List UInt8} : ∀ (m : Nat) (i : Int) (acc : Fo) (t : List UInt8), (∀ u, u.length < t.length → (R u).2.2.length ≤ u.length) → (readA R m i acc t).2.2.length ≤ t.length
  | 0, _, _, _, _ => Nat.le_refl _
  | m + 1, i, acc, t, hR => by
    rw [readA]
    by_cases h1 : (sgn (signF i) t).1 = 0
    · rw [if_neg (by simpa using h1)]
      have e1 := sgn_len _ _ h1
      by_cases h2 : (R (sgn (signF i) t).2).1 = 0
      · rw [if_neg (by simpa using h2)]
        have e2 := hR (sgn (signF i) t).2 (by omega)
        have := readA_le m (i + 1) (Fo.snoc acc (R (sgn (signF i) t).2).2.1.1 (R (sgn (signF i) t).2).2.1.2) (R (sgn (signF i) t).2).2.2 (fun u hu => hR u (by omega))
        omega
      · rw [if_pos h2]; simp
    · rw [if_pos h1]; simp
theorem readT_le (s : List Int) : ∀ (f : Nat) (t : List UInt8), (readT s f t).2.2.length ≤ t.length
  | 0, _ => by simp [readT]
  | _ + 1, [] => by simp [readT]
  | f + 1, c :: r => by
    rw [readT]
    split
    · have := rvar_le r; simp only [List.length_cons]; omega
    · split
      · simp
      · split
        · simp
        · unfold argsT
          split
          · simp
          · split
            · simp
            · split
              · simp
              · have h1 := readA_le (R := readT s f) (s.getD ((c.toNat : Int) - 97).toNat 0).toNat 0 .nil r (fun u _ => readT_le s f u)
                have h2 := sgn_le 41 (readA (readT s f) (s.getD ((c.toNat : Int) - 97).toNat 0).toNat 0 .nil r).2.2
                simp only [List.length_cons]
                omega

/-- The cells of terms, three each. -/
def CellsOf (X : Nat → Prop) (w : World) : Fo → List Value → Prop
  | .nil, xs => xs = []
  | .node _ _ x k r, xs => ∃ a ys, xs = .bool x.1 :: .int .i64 x.2 :: a :: ys ∧ SB X w k a ∧ CellsOf X w r ys

theorem CellsOf.frame {X Y : Nat → Prop} {w w' : World} (hXY : ∀ q, X q → Y q) (hr : ∀ q i, X q → w'.cell? ⟨q, i, none⟩ = w.cell? ⟨q, i, none⟩) : ∀ {F : Fo} {xs : List Value}, CellsOf X w F xs → CellsOf Y w' F xs
  | .nil, _, h => h
  | .node _ _ _ _ _, _, ⟨a, ys, h1, h2, h3⟩ => ⟨a, ys, h1, h2.frame hXY hr, CellsOf.frame hXY hr h3⟩
theorem CellsOf.snoc {X : Nat → Prop} {w : World} {x : Bool × Int} {k : Fo} {a : Value} (hk : SB X w k a) : ∀ {F : Fo} {xs : List Value}, CellsOf X w F xs → CellsOf X w (Fo.snoc F x k) (xs ++ [.bool x.1, .int .i64 x.2, a])
  | .nil, _, h => by rw [CellsOf] at h; subst h; exact ⟨a, [], rfl, hk, rfl⟩
  | .node _ _ _ _ _, _, ⟨b, ys, h1, h2, h3⟩ => by subst h1; exact ⟨b, ys ++ _, rfl, h2, CellsOf.snoc hk h3⟩
theorem CellsOf.len {X : Nat → Prop} {w : World} : ∀ {F : Fo} {xs : List Value}, CellsOf X w F xs → xs.length = Fo.len F * 3
  | .nil, _, h => by rw [CellsOf] at h; subst h; rfl
  | .node _ _ _ _ r, _, ⟨a, ys, h1, _, h3⟩ => by subst h1; simp only [List.length_cons, Fo.len, h3.len]; omega
theorem CellsOf.one {X : Nat → Prop} {w : World} : ∀ {F : Fo} {xs : List Value}, CellsOf X w F xs → ∀ u ∈ xs, u.oneCell' = true
  | .nil, _, h, u, hu => by rw [CellsOf] at h; subst h; simp at hu
  | .node _ _ _ _ r, _, ⟨a, ys, h1, h2, h3⟩, u, hu => by
    subst h1
    obtain ⟨_, _, _, _, rfl, _⟩ := h2
    simp only [List.mem_cons] at hu
    rcases hu with rfl | rfl | rfl | hu
    · rfl
    · rfl
    · rfl
    · exact h3.one u hu

theorem CellsOf.at {X Y : Nat → Prop} {w : World} (hXY : ∀ q, X q → Y q) {g : Nat} : ∀ {F : Fo} {xs : List Value} {o : Nat}, CellsOf X w F xs → (∀ j, j < xs.length → w.cell? ⟨g, o + j, none⟩ = xs[j]?) → BIn Y w F g o
  | .nil, _, _, _, _ => trivial
  | .node _ _ x k r, _, o, ⟨a, ys, h1, h2, h3⟩, hc => by
    subst h1
    have c0 := hc 0 (by simp)
    have c1 := hc 1 (by simp)
    have c2 := hc 2 (by simp)
    obtain ⟨aa, c, b', o', rfl, q2, q3, q4, q5⟩ := h2
    refine ⟨by simpa using c0, by simpa using c1, ⟨aa, c, b', o', by simpa using c2, fun h => ⟨(q2 h).1, hXY _ (q2 h).2⟩, q3, q4, BIn.frame hXY (fun _ _ _ => rfl) q5 (fun h => (q2 h).2)⟩, ?_⟩
    refine CellsOf.at hXY h3 (fun j hj => ?_)
    have := hc (j + 3) (by simp; omega)
    rw [show o + 3 + j = o + (j + 3) by omega, this]
    simp

/-- A row that holds a forest's cells is that forest. -/
theorem row_sb {X Y : Nat → Prop} {w : World} {lo : Nat} {v : Value} {F : Fo} {xs : List Value} (h : w.ownsRow lo 36 3 v (Fo.len F) xs) (hc : CellsOf X w F xs) (hXY : ∀ q, X q → Y q) (hg : ∀ g, v.ownBlock = some g → Y g) : SB Y w F v := by
  rcases h.2 with ⟨rfl, h0⟩ | ⟨g, cap, cur, rfl, hl, hh, hn, hm, hs, ht⟩
  · have := len_zero h0
    subst this
    exact SB.nil Y w
  · refine ⟨_, cap, g, 0, rfl, fun _ => ⟨rfl, hg g rfl⟩, hn, hm, hc.at hXY (fun j hj => ?_)⟩
    rw [hc.len] at hj
    rw [Nat.zero_add]
    exact h.cellAt j hj

end Go.Proofs.YtfckelbdageenabGreatDoor

namespace Go.Proofs.YtfckelbdageenabGreatDoor
open Go.RowKit Go.Deep Go.ChangeShapes Go.WideShapes
attribute [local go_sem] byte_zero text_tail

def ReadSaid (s : List Int) (f : Nat) : Prop := ∀ (sv : Value) (l : List UInt8) (w : World), NIn w s sv → s.all okNum = true → l.length < f → l.length ≤ maxLen →
    Calls Tryz.prog 94 #[sv, str l] w fun e w' => ∃ a, e = .returned (.tuple #[trm (readT s f l).2.1.1 a, str (readT s f l).2.2, .int .i64 (readT s f l).1]) ∧ SB (New w w') w' (readT s f l).2.1.2 a ∧ Below w.heap.size w w'
def ArgsSaid (s : List Int) (f : Nat) : Prop := ∀ (sv : Value) (many : Int) (l : List UInt8) (w : World), NIn w s sv → s.all okNum = true → many ≤ 2 → l.length ≤ f → l.length ≤ maxLen →
    Calls Tryz.prog 112 #[sv, .int .i64 many, str l] w fun e w' => ∃ a, e = .returned (.tuple #[a, str (argsT (readT s f) many l).2.2, .int .i64 (argsT (readT s f) many l).1]) ∧ SB (New w w') w' (argsT (readT s f) many l).2.1 a ∧ Below w.heap.size w w'

/-- So far: j arguments are read. -/
def ArgsRel (w : World) (acc : Fo) (v : Value) (wr : World) : Prop :=
  ∃ xs, wr.ownsRow w.heap.size 36 3 v (Fo.len acc) xs ∧ CellsOf (fun q => New w wr q ∧ some q ≠ v.ownBlock) wr acc xs ∧ Below w.heap.size w wr

theorem args_step {w wr w1 w2 w3 : World} {acc : Fo} {v v' : Value} {x : Bool × Int} {k : Fo} {a : Value} {g cap : Nat} {xs : List Value} {ob ob2 : Obj} (h1 : wr.ownsRow w.heap.size 36 3 v (Fo.len acc) xs) (h2 : CellsOf (fun q => New w wr q ∧ some q ≠ v.ownBlock) wr acc xs) (h3 : Below w.heap.size w wr)
    (hb : Below wr.heap.size wr w1) (hk : SB (New wr w1) w1 k a) (hw2 : w2 = (w1.alloc ob).alloc ob2) (hv' : v' = .slice (some ⟨g, 0, none⟩) (Fo.len acc + 1) cap)
    (ho : w3.ownsRow w.heap.size 36 3 v' (Fo.len acc + 1) (xs ++ [.bool x.1, .int .i64 x.2, a])) (hg : w2.grownBy w3 v.ownBlock) (hat : v.ownBlock = some g ∨ g = w2.heap.size) (hlt : g < w3.heap.size) : ArgsRel w (Fo.snoc acc x k) v' w3 := by
  subst hw2
  have hs1 := hb.size
  have hs3 := hg.size
  simp at hs3
  have hs0 := h3.size
  have far : ∀ q i, q < w1.heap.size → some q ≠ v.ownBlock → w3.cell? ⟨q, i, none⟩ = w1.cell? ⟨q, i, none⟩ := fun q i hq hn => by
    rw [hg.cell_far ⟨q, i, none⟩ (by simp; omega) hn, World.cell?_alloc_lt _ _ _ (by simp; omega), World.cell?_alloc_lt _ _ _ hq]
  have hv'g : v'.ownBlock = some g := by rw [hv']; rfl
  refine ⟨_, by rw [snoc_len]; exact ho, ?_, ?_⟩
  · refine CellsOf.snoc ?_ ?_
    · refine hk.frame (fun q hq => ⟨⟨by have := hq.1; omega, by have := hq.2; omega⟩, ?_⟩) (fun q i hq => far q i hq.2 (fun e => ?_))
      · rw [hv'g]
        intro e
        simp at e
        subst e
        rcases hat with e | e
        · have := (owns_at h1 _ e).2; have := hq.1; omega
        · simp at e; have := hq.2; omega
      · have := (owns_at h1 _ e.symm).2; have := hq.1; omega
    · refine CellsOf.frame (fun q hq => ⟨⟨hq.1.1, by have := hq.1.2; omega⟩, ?_⟩) (fun q i hq => ?_) h2
      · rw [far q i (by have := hq.1.2; omega) hq.2]
        exact hb.cell (p := ⟨q, i, none⟩) hq.1.2
      · rw [hv'g]
        intro e
        simp at e
        subst e
        rcases hat with e | e
        · exact hq.2 e.symm
        · simp at e; have := hq.1.2; omega
  · have hb2 : Below w.heap.size w ((w1.alloc ob).alloc ob2) := ((below_step h3 hb).alloc (by omega) _).alloc (by simp; omega) _
    exact hb2.grown hg (by simp; omega) (fun k hk => (owns_at h1 k hk).1)

set_option maxHeartbeats 1000000 in
theorem args_any (s : List Int) (f : Nat) (ih : ReadSaid s f) : ArgsSaid s f := by
  intro sv many l w hN hs hm hlf hlm
  have HI := hide ih
  have HN := hide hN
  obtain ⟨sa, sc, sb, so, rfl, -, -, -, -⟩ := hN
  unfold maxLen at hlm
  by_cases h0 : many ≤ 0
  · have Hf : Hid (argsT (readT s f) many l = (0, .nil, l)) := by rw [Hid, argsT, if_pos h0]
    go_enter Tryz.func112, Tryz.ntmps112
    go_wp2_with fail
    go_ret3
    rw [Hf.out]
    exact ⟨_, rfl, SB.nil _ _, Below.refl _ _⟩
  · obtain ⟨m, rfl⟩ := Int.eq_ofNat_of_zero_le (show 0 ≤ many by omega)
    have Hf : Hid (argsT (readT s f) m l = if (readA (readT s f) m 0 .nil l).1 ≠ 0 then ((readA (readT s f) m 0 .nil l).1, .nil, []) else
      if (sgn 41 (readA (readT s f) m 0 .nil l).2.2).1 ≠ 0 then ((sgn 41 (readA (readT s f) m 0 .nil l).2.2).1, .nil, []) else (0, (readA (readT s f) m 0 .nil l).2.1, (sgn 41 (readA (readT s f) m 0 .nil l).2.2).2)) := by rw [Hid, argsT, if_neg h0]; simp only [Int.toNat_natCast]
    have Hs := hide hs
    clear ih hs
    go_enter Tryz.func112, Tryz.ntmps112
    go_wp2_with fail
    go_loopw [2, 9, 20] (fun tv v i wr => ∃ (j : Nat) (acc : Fo) (t : List UInt8), j ≤ m ∧ i = .int .i64 j ∧ tv = str t ∧ readA (readT s f) m 0 .nil l = readA (readT s f) (m - j) j acc t ∧ Fo.len acc = j ∧ t.length ≤ l.length ∧ ArgsRel w acc v wr) (fun _ _ i _ => m - (intOf i).toNat)
    case atStart => exact ⟨0, .nil, l, Nat.zero_le _, rfl, rfl, rfl, rfl, Nat.le_refl _, [], ⟨rfl, .inl ⟨rfl, rfl⟩⟩, rfl, Below.refl _ _⟩
    case round =>
      obtain ⟨j, acc, t, hj, rfl, rfl, hA, hacc, htl, xs, hR1, hR2, hR3⟩ := hrel
      have HA := hide hA
      have Hacc := hide hacc
      have HR1 := hide hR1
      have HR2 := hide hR2
      clear hA hacc hR2
      obtain ⟨za, zc, rfl⟩ := slice_of_owns hR1
      clear hR1
      by_cases hlt : j < m
      · have hlt' : (j : Int) < (m : Int) := by omega
        have HA2 : Hid (readA (readT s f) m 0 .nil l = if (sgn (signF j) t).1 ≠ 0 then ((sgn (signF j) t).1, .nil, []) else
            if (readT s f (sgn (signF j) t).2).1 ≠ 0 then ((readT s f (sgn (signF j) t).2).1, .nil, []) else
            readA (readT s f) (m - (j + 1)) ((j : Int) + 1) (Fo.snoc acc (readT s f (sgn (signF j) t).2).2.1.1 (readT s f (sgn (signF j) t).2).2.1.2) (readT s f (sgn (signF j) t).2).2.2) := by
          rw [Hid, HA.out, show m - j = (m - (j + 1)) + 1 by omega]; rfl
        go_wp2_with fail
        refine (signAhead_any _ _).mono ?_
        rintro e w' ⟨rfl, hw'⟩
        rw [hw']
        clear hw' w'
        go_wp2_with fail
        refine (readSign_any (signF j) t _ (by unfold maxLen; omega)).mono ?_
        rintro e w' ⟨rfl, hw'⟩
        rw [hw']
        clear hw' w'
        have Hln := hide (sgn_len (signF j) t)
        by_cases he : (sgn (signF j) t).1 = 0
        · rw [if_neg (by simpa using he)] at HA2
          have hln := Hln.out he
          simp only [he]
          generalize (sgn (signF j) t).2 = u at *
          clear he Hln
          go_wp2_with fail
          refine (HI.out _ u _ (HN.out.below hR3) Hs.out (by omega) (by unfold maxLen; omega)).mono ?_
          rintro e w1 ⟨a, rfl, hSB, hb1⟩
          have hrl := readT_le s f u
          by_cases he : (readT s f u).1 = 0
          · rw [if_neg (by simpa using he)] at HA2
            simp only [he]
            generalize readT s f u = q at *
            obtain ⟨q1, ⟨⟨qv, qn⟩, qk⟩, q3⟩ := q
            simp only at he HA2 hSB hrl ⊢
            have HSB := hide hSB
            obtain ⟨qa, qc, qb, qo, rfl, -, -, -, -⟩ := hSB
            obtain ⟨i26, hi26, hz0, hz1, hz2⟩ := info_parts Tryz.info36
            have Hown : Hid (((w1.alloc (.cells #[.bool qv, .int .i64 qn, .slice qa (Fo.len qk) qc] 36)).alloc (.cells #[.bool qv, .int .i64 qn, .slice qa (Fo.len qk) qc] 36)).ownsRow w.heap.size 36 3 (.slice za (Fo.len acc) zc) (Fo.len acc) xs) :=
              owns_keep HR1.out (fun g hg => by
                have h1 := (owns_at HR1.out g hg).2
                have h2 := hb1.size
                rw [Below.heap_alloc _ _ _ (by simp; omega), Below.heap_alloc _ _ _ (by omega), hb1.block g h1])
            have Hnews : Hid (∀ j u, [Value.bool qv, .int .i64 qn, .slice qa (Fo.len qk) qc][j]? = some u → ((w1.alloc (.cells #[.bool qv, .int .i64 qn, .slice qa (Fo.len qk) qc] 36)).alloc (.cells #[.bool qv, .int .i64 qn, .slice qa (Fo.len qk) qc] 36)).cell? ((⟨w1.heap.size + 1, 0, none⟩ : Addr).add j) = some u) := by
              have h := World.news_of_block (cs := #[.bool qv, .int .i64 qn, .slice qa (Fo.len qk) qc]) (heap_alloc_new (w1.alloc (.cells #[.bool qv, .int .i64 qn, .slice qa (Fo.len qk) qc] 36)) (.cells #[.bool qv, .int .i64 qn, .slice qa (Fo.len qk) qc] 36))
              intro j u hu
              have := h j u hu
              simpa using this
            have hn1 : Fo.len acc + 1 ≤ maxLen := by rw [Hacc.out]; unfold maxLen; omega
            have hn2 : (Fo.len acc + 1) * 40 ≤ 140737488355328 := by rw [Hacc.out]; omega
            have hsw : w.heap.size ≤ w1.heap.size := by have := hb1.size; have := hR3.size; omega
            clear he
            go_wp2_with (at_builtin; refine wpList_append_lies _ rfl (.tmp 43) (.tmp 45) 34 rfl w.heap.size 36 i26 (.agg #[.bool false, .int .i64 0, .slice none 0 0]) 3 40 Tryz.underlying34 hi26 hz0 hz1 hz2 rfl (by decide) (.slice za (Fo.len acc) zc) (Fo.len acc) xs rfl Hown.out ⟨w1.heap.size + 1, 0, none⟩ 1 1 [.bool qv, .int .i64 qn, .slice qa (Fo.len qk) qc] rfl rfl Hnews.out (by simp [Value.oneCell']) (by decide) hn1 hn2 (by simp; omega) (w1.heap.size + 2) (by simp) ?_; intro g cap w3 ho3 hg3 hat3 hlt3)
            have Hst := hide (args_step (x := (qv, qn)) (k := qk) HR1.out HR2.out hR3 hb1 HSB.out rfl rfl ho3 hg3 (by rcases hat3 with h | h; exact .inl h; exact .inr (by simp; omega)) hlt3)
            clear ho3 hg3 hat3 hlt3 Hown Hnews hi26 hz0 hz1 hz2
            go_wp2_with fail
            go_roundw
            case rel => exact ⟨j + 1, Fo.snoc acc (qv, qn) qk, q3, by omega, by go_num, rfl, HA2.out, by rw [snoc_len, Hacc.out], by omega, Hst.out⟩
            case measure => simp [intOf]; omega
          · rw [if_pos he] at HA2
            have heb : ((readT s f u).1 != 0) = true := by simpa using he
            have Hf2 : Hid (argsT (readT s f) m l = ((readT s f u).1, .nil, [])) := by rw [Hid, Hf.out, HA2.out, if_pos he]
            obtain ⟨qa, qc, qb, qo, rfl, -, -, -, -⟩ := hSB
            generalize (readT s f u).1 = E at *
            generalize (readT s f u).2.1.1 = X at *
            generalize (readT s f u).2.2 = T at *
            clear he
            go_wp2_with fail
            go_ret3
            rw [Hf2.out]
            exact ⟨_, rfl, SB.nil _ _, (below_step hR3 hb1).alloc (by have := (below_step hR3 hb1).size; omega) _⟩
        · rw [if_pos he] at HA2
          have heb : ((sgn (signF j) t).1 != 0) = true := by simpa using he
          have Hf2 : Hid (argsT (readT s f) m l = ((sgn (signF j) t).1, .nil, [])) := by rw [Hid, Hf.out, HA2.out, if_pos he]
          generalize (sgn (signF j) t).1 = E at *
          generalize (sgn (signF j) t).2 = T at *
          clear he
          go_wp2_with fail
          go_ret3
          rw [Hf2.out]
          exact ⟨_, rfl, SB.nil _ _, hR3⟩
      · have HA2 : Hid (readA (readT s f) m 0 .nil l = (0, acc, t)) := by rw [Hid, HA.out, show m - j = 0 by omega]; rfl
        have HSB : Hid (SB (New w wr) wr acc (.slice za (Fo.len acc) zc)) := row_sb HR1.out HR2.out (fun q hq => hq.1) (fun g hg => owns_at HR1.out g hg)
        have Hln := hide (sgn_len 41 t)
        have e41 : ((41 : UInt8).toNat : Int) = 41 := rfl
        have Hrs := hide (readSign_any 41 t wr (by unfold maxLen; omega))
        rw [e41] at Hrs
        clear e41
        go_wp2_with fail
        refine Hrs.out.mono ?_
        rintro e w' ⟨rfl, hw'⟩
        rw [hw']
        clear hw' w'
        by_cases he : (sgn 41 t).1 = 0
        · have Hf2 : Hid (argsT (readT s f) m l = (0, acc, (sgn 41 t).2)) := by rw [Hid, Hf.out, HA2.out]; simp [he]
          simp only [he]
          generalize (sgn 41 t).2 = u at *
          clear he
          go_wp2_with fail
          go_ret3
          rw [Hf2.out]
          exact ⟨_, rfl, HSB.out, hR3⟩
        · have Hf2 : Hid (argsT (readT s f) m l = ((sgn 41 t).1, .nil, [])) := by rw [Hid, Hf.out, HA2.out]; simp [he]
          have heb : ((sgn 41 t).1 != 0) = true := by simpa using he
          generalize (sgn 41 t).1 = E at *
          generalize (sgn 41 t).2 = T at *
          clear he
          go_wp2_with fail
          go_ret3
          rw [Hf2.out]
          exact ⟨_, rfl, SB.nil _ _, hR3⟩

theorem sig_at {s : List Int} (h : s.all okNum = true) {i : Nat} (hi : i < s.length) : 0 ≤ s.getD i 0 ∧ s.getD i 0 ≤ 2 := by
  have := List.all_eq_true.1 h s[i] (List.getElem_mem hi)
  simp only [okNum, decide_eq_true_eq] at this
  simpa [List.getD_eq_getElem?_getD, hi] using this

theorem run_tail (c : UInt8) (r : List UInt8) (w : World) : (Instr.slice 9 (.string ⟨(c :: r).toArray⟩) (some (.int .i64 1)) none none).run Tryz.prog w = .ok (.string ⟨r.toArray⟩) w := by
  rw [run_slice_string_l (ht := Tryz.underlying9) (kl := .i64) (l := 1) (h0 := by decide) (h1 := by simp [ByteArray.size]; omega)]
  have := text_tail c r
  simp only [Int.toNat_one]
  rw [show (⟨(c :: r).toArray⟩ : ByteArray).size = r.length + 1 from by simp [ByteArray.size], this]

/-- A block of three cells that was laid first: it is there, and may be written. -/
theorem box_full {w w1 : World} {x y z : Value} {T : TypeId} (h : Below (w.alloc (.cells #[x, y, z] T)).heap.size (w.alloc (.cells #[x, y, z] T)) w1) :
    w1.cell? ⟨w.heap.size, 0, none⟩ = some x ∧ w1.cell? ⟨w.heap.size, 1, none⟩ = some y ∧ w1.cell? ⟨w.heap.size, 2, none⟩ = some z ∧ (∀ i, w1.frozen? ⟨w.heap.size, i, none⟩ = false) ∧ Below w.heap.size w w1 ∧ w.heap.size < w1.heap.size := by
  have h' : Below (w.heap.size + 1) (w.alloc (.cells #[x, y, z] T)) w1 := by simpa using h
  obtain ⟨a, b, c, d, e⟩ := box_cells h'
  exact ⟨a, b, c, fun i => by rw [h'.frozen (by simp)]; simp, d, e⟩

/-- What is written into a block that is none of X's leaves terms as they are. -/
theorem SB.set3 {X : Nat → Prop} {w : World} {k : Fo} {v : Value} {b o : Nat} {x y z : Value} (h : SB X w k v) (hb : ¬ X b) : SB X (set3 w b o x y z) k v :=
  h.frame (fun _ h => h) (fun _ _ hq => set3_other (.inl (fun e => hb (e ▸ hq))))

set_option maxHeartbeats 1000000 in
theorem read_any (s : List Int) : ∀ f, ReadSaid s f := by
  intro f
  induction f with
  | zero => intro sv l w _ _ h; omega
  | succ f ih =>
    intro sv l w hN hs hlf hlm
    have HA := hide (args_any s f ih)
    have HN := hide hN
    have Hs := hide hs
    obtain ⟨sa, sc, sb, so, rfl, hsa, -, -, hsF⟩ := hN
    have HsF := hide hsF
    unfold maxLen at hlm
    clear ih hs hsF
    cases l with
    | nil =>
      have Hf : Hid (readT s (f + 1) [] = (8, ((false, 0), .nil), [])) := rfl
      go_enter Tryz.func94, Tryz.ntmps94
      go_wp2_with fail
      rw [Hf.out]
      exact bodyPost_ret (v := .tuple #[.agg #[.bool false, .int .i64 0, .slice none 0 0], .string ⟨#[]⟩, .int .i64 8]) (by simp [results, Tryz.results94, go_sem]) rfl ⟨_, rfl, SB.nil _ _, below_alloc _ _⟩
    | cons c r =>
      simp only [List.length_cons] at hlf hlm
      have hc : (c.toNat : Int) < 256 := by have := c.toNat_lt; omega
      by_cases h88 : c = 88
      · have Hf : Hid (readT s (f + 1) (c :: r) = ((rvar r).1, ((rvar r).2.1, .nil), (rvar r).2.2)) := by rw [Hid, readT, if_pos h88]
        have hcb : ((c.toNat : Int) == 88) = true := by rw [h88]; rfl
        clear h88
        go_enter Tryz.func94, Tryz.ntmps94
        go_wp2_with fail
        refine (readVar_any r _ (by unfold maxLen; omega)).mono ?_
        rintro e w1 ⟨rfl, hb1⟩
        obtain ⟨b0, b1, b2, bf, hB, hsz⟩ := box_full hb1
        generalize rvar r = q at *
        obtain ⟨q1, ⟨qv, qn⟩, q3⟩ := q
        simp only at Hf ⊢
        clear hb1
        go_wp2_with fail
        rw [Hf.out]
        exact bodyPost_ret (v := .tuple #[.agg #[.bool qv, .int .i64 qn, .slice none 0 0], .string ⟨q3.toArray⟩, .int .i64 q1]) (by simp [results, Tryz.results94, go_sem, b0, b1, b2]) rfl ⟨_, rfl, SB.nil _ _, set3_below (o := 0) hB (Nat.le_refl _)⟩
      · have hcb : ((c.toNat : Int) == 88) = false := by
          rw [beq_eq_false_iff_ne]
          intro e
          exact h88 (UInt8.toNat_inj.1 (by have : c.toNat = 88 := by omega
                                           rw [this]; rfl))
        have Ht : Hid (readT s (f + 1) (c :: r) = if (c.toNat : Int) - 97 < 0 ∨ (s.length : Int) ≤ (c.toNat : Int) - 97 then (7, ((false, 0), .nil), []) else
            if (argsT (readT s f) (s.getD ((c.toNat : Int) - 97).toNat 0) r).1 ≠ 0 then ((argsT (readT s f) (s.getD ((c.toNat : Int) - 97).toNat 0) r).1, ((false, 0), .nil), []) else
            (0, ((false, (c.toNat : Int) - 97), (argsT (readT s f) (s.getD ((c.toNat : Int) - 97).toNat 0) r).2.1), (argsT (readT s f) (s.getD ((c.toNat : Int) - 97).toNat 0) r).2.2)) := by rw [Hid, readT, if_neg h88]
        by_cases h0 : (c.toNat : Int) - 97 < 0
        · have Hf : Hid (readT s (f + 1) (c :: r) = (7, ((false, 0), .nil), [])) := by rw [Hid, Ht.out, if_pos (.inl h0)]
          go_enter Tryz.func94, Tryz.ntmps94
          go_wp2_with fail
          rw [Hf.out]
          exact bodyPost_ret (v := .tuple #[.agg #[.bool false, .int .i64 0, .slice none 0 0], .string ⟨#[]⟩, .int .i64 7]) (by simp [results, Tryz.results94, go_sem]) rfl ⟨_, rfl, SB.nil _ _, below_alloc _ _⟩
        by_cases h1 : (s.length : Int) ≤ (c.toNat : Int) - 97
        · have Hf : Hid (readT s (f + 1) (c :: r) = (7, ((false, 0), .nil), [])) := by rw [Hid, Ht.out, if_pos (.inr h1)]
          go_enter Tryz.func94, Tryz.ntmps94
          go_wp2_with fail
          rw [Hf.out]
          exact bodyPost_ret (v := .tuple #[.agg #[.bool false, .int .i64 0, .slice none 0 0], .string ⟨#[]⟩, .int .i64 7]) (by simp [results, Tryz.results94, go_sem]) rfl ⟨_, rfl, SB.nil _ _, below_alloc _ _⟩
        rw [if_neg (by omega)] at Ht
        have h0' : 0 ≤ (c.toNat : Int) - 97 := by omega
        have h1' : (c.toNat : Int) - 97 < (s.length : Int) := by omega
        have hsa' : sa = some ⟨sb, so, none⟩ := hsa (by omega)
        subst hsa'
        have hcell := HsF.out ((c.toNat : Int) - 97).toNat (by omega)
        have Hm := hide (sig_at Hs.out (i := ((c.toNat : Int) - 97).toNat) (by omega))
        have hsb : sb < w.heap.size := World.block_lt_of_cell? _ _ hcell
        have hcell1 := grow_cell (below_alloc w (.cells #[.bool false, .int .i64 0, .slice none 0 0] 36)) _ _ hcell
        generalize s.getD ((c.toNat : Int) - 97).toNat 0 = mm at *
        clear hsa hcell
        go_enter Tryz.func94, Tryz.ntmps94
        go_wp2_with fail
        generalize (c.toNat : Int) - 97 = nn at *
        have hsl := run_tail c r
        go_region_held3 (fun w' => w'.cell? ⟨sb, so + nn.toNat, none⟩ = some (.int .i64 mm)) (first | go_keep | (rw [hb1.cell (by show sb < _; simp; omega)]; assumption))
          (first | (go_at_call 112; refine (HA.out _ mm r _ ?_ Hs.out Hm.out.2 ?_ ?_).mono ?_; (exact HN.out.below (below_alloc _ _).drew); (omega); (unfold maxLen; omega); rintro e w1 ⟨a, rfl, hSB, hb1⟩))
        have hb1' : Below (w.alloc (.cells #[.bool false, .int .i64 0, .slice none 0 0] 36)).heap.size (w.alloc (.cells #[.bool false, .int .i64 0, .slice none 0 0] 36)) w1 := ((Below.refl _ _).drew).trans hb1
        obtain ⟨b0, b1, b2, bf, hB, hsz⟩ := box_full hb1'
        have HSB : Hid (SB (fun q => w.heap.size + 1 ≤ q ∧ q < w1.heap.size) w1 (argsT (readT s f) mm r).2.1 a) := hSB.frame (fun q hq => by have h1 := hq.1; simp at h1; exact ⟨h1, hq.2⟩) (fun _ _ _ => rfl)
        have hza : ∃ z1 z2 z3, a = .slice z1 z2 z3 := by
          obtain ⟨_, _, _, _, rfl, _⟩ := hSB
          exact ⟨_, _, _, rfl⟩
        obtain ⟨z1, z2, z3, rfl⟩ := hza
        generalize argsT (readT s f) mm r = q at *
        obtain ⟨q1, q2, q3⟩ := q
        simp only at Ht HSB ⊢
        clear hb1 hb1' hSB hsl
        by_cases he : q1 = 0
        · have Hf : Hid (readT s (f + 1) (c :: r) = (0, ((false, nn), q2), q3)) := by rw [Hid, Ht.out, if_neg (by simpa using he)]
          subst he
          go_wp2_with fail
          rw [Hf.out]
          refine bodyPost_ret (v := .tuple #[.agg #[.bool false, .int .i64 nn, .slice z1 z2 z3], .string ⟨q3.toArray⟩, .int .i64 0]) (by simp [results, Tryz.results94, go_sem, b0, b1, b2]) rfl ⟨_, rfl, ?_, set3_below (o := 0) hB (Nat.le_refl _)⟩
          exact (HSB.out.set3 (b := w.heap.size) (o := 0) (by omega)).frame (fun q hq => ⟨by omega, by have := hq.2; simp [World.setCell]; exact this⟩) (fun _ _ _ => rfl)
        · have Hf : Hid (readT s (f + 1) (c :: r) = (q1, ((false, 0), .nil), [])) := by rw [Hid, Ht.out, if_pos he]
          have heb : (q1 != 0) = true := by simpa using he
          clear he
          go_wp2_with fail
          rw [Hf.out]
          exact bodyPost_ret (v := .tuple #[.agg #[.bool false, .int .i64 0, .slice none 0 0], .string ⟨#[]⟩, .int .i64 q1]) (by simp [results, Tryz.results94, go_sem, b0, b1, b2]) rfl ⟨_, rfl, SB.nil _ _, set3_below (o := 0) hB (Nat.le_refl _)⟩

end Go.Proofs.YtfckelbdageenabGreatDoor

namespace Go.Proofs.YtfckelbdageenabGreatDoor
open Go.RowKit Go.Deep Go.ChangeShapes Go.WideShapes

abbrev zeroT : (Bool × Int) × Fo := ((false, 0), .nil)

/-- A text's term, and its error. -/
def parseT (s : List Int) (l : List UInt8) : Int × ((Bool × Int) × Fo) :=
  if wsig s ≠ 0 then (wsig s, zeroT) else if 48 < l.length then (4, zeroT) else
  if (readT s (l.length + 1) l).1 ≠ 0 then ((readT s (l.length + 1) l).1, zeroT) else
  if (readT s (l.length + 1) l).2.2 ≠ [] then (2, zeroT) else
  if wrongF s (readT s (l.length + 1) l).2.1.1 (readT s (l.length + 1) l).2.1.2 ≠ 0 then (wrongF s (readT s (l.length + 1) l).2.1.1 (readT s (l.length + 1) l).2.1.2, zeroT) else
  (0, (readT s (l.length + 1) l).2.1)

theorem wsig_ok {s : List Int} (h : wsig s = 0) : s.all okNum = true ∧ s.length ≤ 6 ∧ 0 < s.length := by
  unfold wsig at h
  by_cases h1 : s.length = 0 ∨ 6 < s.length
  · rw [if_pos h1] at h; omega
  · rw [if_neg h1] at h
    by_cases h2 : s.all okNum = true
    · exact ⟨h2, by omega, by omega⟩
    · rw [if_neg h2] at h; omega

theorem SIn.nil (w : World) : SIn w .nil (.slice none 0 0) := (SB.nil (fun _ => True) w).toS

set_option maxHeartbeats 1000000 in
theorem parseB_any (s : List Int) (sv : Value) (l : List UInt8) (w : World) (hN : NIn w s sv) (hl : l.length ≤ maxLen) :
    Calls Tryz.prog 65 #[sv, str l] w fun e w' => ∃ a, e = .returned (.tuple #[trm (parseT s l).2.1 a, .int .i64 (parseT s l).1]) ∧ SB (New w w') w' (parseT s l).2.2 a ∧ Below w.heap.size w w' := by
  have HN := hide hN
  obtain ⟨sa, sc, sb, so, rfl, -, -, -, -⟩ := hN
  unfold maxLen at hl
  go_enter Tryz.func65, Tryz.ntmps65
  go_wp2_with fail
  refine (wsig_any s _ _ (HN.out.alloc _)).mono ?_
  rintro e w' ⟨rfl, hw'⟩
  rw [hw']
  clear hw' w'
  by_cases hw : wsig s = 0
  · have Hw := hide hw
    simp only [hw]
    by_cases h48 : 48 < l.length
    · have Hf : Hid (parseT s l = (4, zeroT)) := by rw [Hid, parseT, if_neg (by simpa using hw), if_pos h48]
      have h48' : (48 : Int) < (l.length : Int) := by omega
      clear hw
      go_wp2_with fail
      rw [Hf.out]
      exact bodyPost_ret (v := .tuple #[.agg #[.bool false, .int .i64 0, .slice none 0 0], .int .i64 4]) (by simp [results, Tryz.results65, go_sem]) rfl ⟨_, rfl, SB.nil _ _, below_alloc _ _⟩
    · have Ht : Hid (parseT s l = if (readT s (l.length + 1) l).1 ≠ 0 then ((readT s (l.length + 1) l).1, zeroT) else
          if (readT s (l.length + 1) l).2.2 ≠ [] then (2, zeroT) else
          if wrongF s (readT s (l.length + 1) l).2.1.1 (readT s (l.length + 1) l).2.1.2 ≠ 0 then (wrongF s (readT s (l.length + 1) l).2.1.1 (readT s (l.length + 1) l).2.1.2, zeroT) else
          (0, (readT s (l.length + 1) l).2.1)) := by rw [Hid, parseT, if_neg (by simpa using hw), if_neg h48]
      have h48' : ¬ (48 : Int) < (l.length : Int) := by omega
      have Hok := hide (wsig_ok hw).1
      clear hw
      go_wp2_with fail
      refine (read_any s (l.length + 1) _ l _ (HN.out.alloc _) Hok.out (by omega) (by unfold maxLen; omega)).mono ?_
      rintro e w1 ⟨a, rfl, hSB, hb1⟩
      obtain ⟨b0, b1, b2, bf, hB, hsz⟩ := box_full hb1
      generalize readT s (l.length + 1) l = q at *
      obtain ⟨q1, ⟨⟨qv, qn⟩, qk⟩, q3⟩ := q
      simp only at Ht hSB ⊢
      have HSB : Hid (SB (fun q => w.heap.size + 1 ≤ q ∧ q < w1.heap.size) w1 qk a) := hSB.frame (fun q hq => by have h1 := hq.1; simp at h1; exact ⟨h1, hq.2⟩) (fun _ _ _ => rfl)
      have hza : ∃ z1 z2 z3, a = .slice z1 z2 z3 := by
        obtain ⟨_, _, _, _, rfl, _⟩ := hSB
        exact ⟨_, _, _, rfl⟩
      obtain ⟨z1, z2, z3, rfl⟩ := hza
      clear hb1 hSB
      by_cases he : q1 = 0
      · subst he
        rw [if_neg (by simp)] at Ht
        cases q3 with
        | cons d r =>
          rw [if_pos (by simp)] at Ht
          go_wp2_with fail
          rw [Ht.out]
          refine bodyPost_ret (v := .tuple #[.agg #[.bool false, .int .i64 0, .slice none 0 0], .int .i64 2]) (by simp [results, Tryz.results65, go_sem, b0, b1, b2, hsz]) rfl ⟨_, rfl, SB.nil _ _, ?_⟩
          exact (set3_below (o := 0) hB (Nat.le_refl _)).alloc (by rw [set3_size]; omega) _
        | nil =>
          rw [if_neg (by simp)] at Ht
          have HSx := hide (HSB.out.toS.alloc (.cells #[.bool qv, .int .i64 qn, .slice z1 z2 z3] 36))
          have hw1 : w.heap.size ≤ w1.heap.size := by omega
          go_wp2_with fail
          refine (wrong_any s _ (qv, qn) qk _ _ ((HN.out.below hB).alloc _) HSx.out).mono ?_
          rintro e w2 ⟨rfl, hb2⟩
          obtain ⟨d0, d1, d2, df, hB2, hsz2⟩ := box_full hb2
          have c0 := grow_cell hB2 _ _ b0
          have c1 := grow_cell hB2 _ _ b1
          have c2 := grow_cell hB2 _ _ b2
          have cf : ∀ i, w2.frozen? ⟨w.heap.size, i, none⟩ = false := fun i => (hB2.frozen (by show w.heap.size < _; omega)).trans (bf i)
          have hBB := below_step hB hB2
          have HSB2 : Hid (SB (fun q => w.heap.size + 1 ≤ q ∧ q < w1.heap.size) w2 qk (.slice z1 z2 z3)) := HSB.out.frame (fun _ h => h) (fun q i hq => hB2.cell (p := ⟨q, i, none⟩) hq.2)
          clear hb2 b0 b1 b2 bf
          by_cases he : wrongF s (qv, qn) qk = 0
          · rw [if_neg (by simpa using he)] at Ht
            simp only [he]
            clear he
            go_wp2_with fail
            rw [Ht.out]
            refine bodyPost_ret (v := .tuple #[.agg #[.bool qv, .int .i64 qn, .slice z1 z2 z3], .int .i64 0]) (by simp [results, Tryz.results65, go_sem, c0, c1, c2]) rfl ⟨_, rfl, ?_, set3_below (o := 0) hBB (Nat.le_refl _)⟩
            exact (HSB2.out.set3 (b := w.heap.size) (o := 0) (by omega)).frame (fun q hq => ⟨by omega, Nat.lt_of_lt_of_le hq.2 (Nat.le_trans hB2.size (Nat.le_of_eq (set3_size (w := w2) (b := w.heap.size) (o := 0) (x := .bool qv) (y := .int .i64 qn) (z := .slice z1 z2 z3)).symm))⟩) (fun _ _ _ => rfl)
          · rw [if_pos he] at Ht
            have heb : (wrongF s (qv, qn) qk != 0) = true := by simpa using he
            generalize wrongF s (qv, qn) qk = E at *
            clear he
            go_wp2_with fail
            rw [Ht.out]
            exact bodyPost_ret (v := .tuple #[.agg #[.bool false, .int .i64 0, .slice none 0 0], .int .i64 E]) (by simp [results, Tryz.results65, go_sem, c0, c1, c2]) rfl ⟨_, rfl, SB.nil _ _, set3_below (o := 0) hBB (Nat.le_refl _)⟩
      · rw [if_pos he] at Ht
        have heb : (q1 != 0) = true := by simpa using he
        clear he
        go_wp2_with fail
        rw [Ht.out]
        refine bodyPost_ret (v := .tuple #[.agg #[.bool false, .int .i64 0, .slice none 0 0], .int .i64 q1]) (by simp [results, Tryz.results65, go_sem, b0, b1, b2, hsz]) rfl ⟨_, rfl, SB.nil _ _, ?_⟩
        exact (set3_below (o := 0) hB (Nat.le_refl _)).alloc (by rw [set3_size]; omega) _
  · have Hf : Hid (parseT s l = (wsig s, zeroT)) := by rw [Hid, parseT, if_pos hw]
    have heb : (wsig s != 0) = true := by simpa using hw
    generalize wsig s = E at *
    clear hw
    go_wp2_with fail
    rw [Hf.out]
    exact bodyPost_ret (v := .tuple #[.agg #[.bool false, .int .i64 0, .slice none 0 0], .int .i64 E]) (by simp [results, Tryz.results65, go_sem]) rfl ⟨_, rfl, SB.nil _ _, below_alloc _ _⟩

end Go.Proofs.YtfckelbdageenabGreatDoor
