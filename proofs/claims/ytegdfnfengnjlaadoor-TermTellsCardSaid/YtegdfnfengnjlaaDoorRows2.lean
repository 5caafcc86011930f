/- Rows of a call's own that grow: what stays where it is. -/
import Derived.Test.YtegdfnfengnjlaaDoorClone
namespace Go.Proofs.YtegdfnfengnjlaaDoor
open Go.RowKit Go.Deep Go.ChangeShapes Go.WideShapes

theorem grown_drew_alloc (w : World) (ob : Obj) : w.grownBy (w.drew.alloc ob) none := ⟨rfl, rfl, rfl, by simp, fun k hk _ => Below.heap_alloc w.drew ob k hk⟩

/-- An append: in the old row, with the capacity that it had, or in a new block. -/
theorem run_append_cap {P : Program} (w : World) (t ty : TypeId) (base : Nat) (e : TypeId) (i : TypeInfo) (z : Value) (size bytes : Nat) (ht : P.underlying t = some (.slice e)) (hi : P.info? e = some i) (hz : i.zero = some z)
    (hsize : i.size = size) (hby : i.bytes = bytes) (hzs : z.cells.size = size) (hsz : 0 < size)
    (v : Value) (n : Nat) (xs : List Value) (hown : w.ownsRow base e size v n xs)
    (ad : Addr) (m c : Nat) (news : List Value) (hl : news.length = m * size) (hnews : ∀ j u, news[j]? = some u → w.cell? (ad.add j) = some u) (h1 : ∀ u ∈ news, u.oneCell' = true)
    (hm : 0 < m) (h63 : n + m ≤ maxLen) (hbytes : (n + m) * bytes ≤ 140737488355328) (hbase : base ≤ w.heap.size) :
    ∃ g cap w', (Builtin.append_ #[t, t] ty #[v, .slice (some ad) m c]).run P w = .ok (.slice (some ⟨g, 0, none⟩) (n + m) cap) w' ∧
      w'.ownsRow base e size (.slice (some ⟨g, 0, none⟩) (n + m) cap) (n + m) (xs ++ news) ∧ w.grownBy w' v.ownBlock ∧ (v = .slice (some ⟨g, 0, none⟩) n cap ∨ (g = w.heap.size ∧ w.grownBy w' none)) ∧ g < w'.heap.size := by
  obtain ⟨g, cap, w', hr, h2, h3, h4, h5⟩ := run_append_lies (P := P) w t ty base e i z size bytes ht hi hz hsize hby hzs hsz v n xs hown ad m c news hl hnews h1 hm h63 hbytes hbase w.heap.size rfl
  refine ⟨g, cap, w', hr, h2, h3, ?_, h5⟩
  clear h4
  subst hsize
  subst hby
  have hsmall : n + m ≤ 9223372036854775807 := by simp only [maxLen] at h63; omega
  rcases hown.2 with ⟨rfl, rfl⟩ | ⟨g0, cap0, cur, rfl, hbg, hg, hnc, hcm, hcs, htake⟩
  · have hr2 := run_append_nil (P := P) w t ty e i z ht hi hz ad m c news hl hnews (by omega) (by omega) (by have hb := hbytes; simp only [Nat.zero_add] at hb; omega)
    rw [hr] at hr2
    simp only [Result.ok.injEq, Value.slice.injEq, Option.some.injEq, Addr.mk.injEq] at hr2
    exact .inr ⟨hr2.1.1.1, by rw [hr2.2]; exact grown_drew_alloc w _⟩
  · by_cases hroom : n + m ≤ cap0
    · have hfit : n * i.size + news.length ≤ cur.size := by rw [hl, hcs, ← Nat.add_mul]; exact Nat.mul_le_mul_right _ hroom
      have hr2 := run_append_room (P := P) w t ty e i ht hi g0 n cap0 cur hg ad m c news hl hnews h1 hroom hfit
      rw [hr] at hr2
      simp only [Result.ok.injEq, Value.slice.injEq, Option.some.injEq, Addr.mk.injEq] at hr2
      obtain ⟨⟨⟨e1, _⟩, _, e2⟩, _⟩ := hr2
      exact .inl (by rw [e1, e2])
    · have holds : ∀ j u, xs[j]? = some u → w.cell? ((⟨g0, 0, none⟩ : Addr).add j) = some u := hown.cells (g := g0) rfl
      have hr2 := run_append_grow (P := P) w t ty e i z ht hi hz ⟨g0, 0, none⟩ n cap0 xs hown.1 holds ad m c news hl hnews (by omega) (by omega) (growslice_fits (by omega) hbytes)
      rw [hr] at hr2
      simp only [Result.ok.injEq, Value.slice.injEq, Option.some.injEq, Addr.mk.injEq] at hr2
      exact .inr ⟨hr2.1.1.1, by rw [hr2.2]; exact grown_drew_alloc w _⟩

theorem step_append_cap {P : Program} (w : World) {ops : Array Oper} {o : Oper} {a : Act} {K : Act → World → Prop} {Q : Exit → Act → World → Prop} {E : Prop} (hgd : o.guard = none) (s x : Operand) (t : TypeId)
    (ho : o.op = .call { callee := .builtin .append, args := #[s, x], argTypes := #[t, t] })
    (base : Nat) (e : TypeId) (i : TypeInfo) (z : Value) (size bytes : Nat) (ht : P.underlying t = some (.slice e)) (hi : P.info? e = some i) (hz : i.zero = some z)
    (hsize : i.size = size) (hby : i.bytes = bytes) (hzs : z.cells.size = size) (hsz : 0 < size)
    (v : Value) (n : Nat) (xs : List Value) (hs : a.eval s = v) (hown : w.ownsRow base e size v n xs)
    (ad : Addr) (m c : Nat) (news : List Value) (hx : a.eval x = .slice (some ad) m c) (hl : news.length = m * size) (hnews : ∀ j u, news[j]? = some u → w.cell? (ad.add j) = some u) (h1 : ∀ u ∈ news, u.oneCell' = true)
    (hm : 0 < m) (h63 : n + m ≤ maxLen) (hbytes : (n + m) * bytes ≤ 140737488355328) (hbase : base ≤ w.heap.size)
    (h : ∀ g cap w', w'.ownsRow base e size (.slice (some ⟨g, 0, none⟩) (n + m) cap) (n + m) (xs ++ news) → w.grownBy w' v.ownBlock → (v = .slice (some ⟨g, 0, none⟩) n cap ∨ (g = w.heap.size ∧ w.grownBy w' none)) → g < w'.heap.size → K (a.put o.dst (.slice (some ⟨g, 0, none⟩) (n + m) cap)) w') :
    if Region.wanted o (yielded ops a.tmps) = true then Oper.wp P o a w K Q else E := by
  have hw : Region.wanted o (yielded ops a.tmps) = true := by simp [Region.wanted, hgd]
  rw [if_pos hw]
  obtain ⟨g, cap, w', hr, h2, h3, h4, h5⟩ := run_append_cap (P := P) w t o.type base e i z size bytes ht hi hz hsize hby hzs hsz v n xs hown ad m c news hl hnews h1 hm h63 hbytes hbase
  unfold Oper.wp execOp
  simp only [ho, resolve, invoke, builtin, Sem.run_bind, Sem.run_pure, Result.andThen_ok, List.map_toArray, List.map_cons, List.map_nil, hs, hx, hr]
  exact h g cap w' h2 h3 h4 h5

/-- Of what was there only two rows may have turned. -/
structure Fr (w w' : World) (g1 g2 : Option Nat) : Prop where
  os : w'.os = w.os
  tape : w'.tape = w.tape
  output : w'.output = w.output
  size : w.heap.size ≤ w'.heap.size
  block : ∀ q, q < w.heap.size → some q ≠ g1 → some q ≠ g2 → w'.heap[q]? = w.heap[q]?

theorem Fr.refl (w : World) (g1 g2 : Option Nat) : Fr w w g1 g2 := ⟨rfl, rfl, rfl, Nat.le_refl _, fun _ _ _ _ => rfl⟩
theorem Fr.of_below {w w' : World} (h : Below w.heap.size w w') (g1 g2 : Option Nat) : Fr w w' g1 g2 := ⟨h.os, h.tape, h.output, h.size, fun q hq _ _ => h.block q hq⟩
theorem Fr.of_grown {w w' : World} {row g1 g2 : Option Nat} (h : w.grownBy w' row) (hr : ∀ q, q < w.heap.size → row = some q → some q = g1 ∨ some q = g2) : Fr w w' g1 g2 :=
  ⟨h.os, h.tape, h.output, h.size, fun q hq h1 h2 => h.block q hq (fun e => by rcases hr q hq e.symm with h | h; exact h1 h; exact h2 h)⟩
theorem Fr.trans {w w1 w2 : World} {g1 g2 h1 h2 : Option Nat} (a : Fr w w1 g1 g2) (b : Fr w1 w2 h1 h2) (hr : ∀ q, q < w.heap.size → some q = h1 ∨ some q = h2 → some q = g1 ∨ some q = g2) : Fr w w2 g1 g2 := by
  refine ⟨b.os.trans a.os, b.tape.trans a.tape, b.output.trans a.output, Nat.le_trans a.size b.size, fun q hq e1 e2 => ?_⟩
  rw [b.block q (Nat.lt_of_lt_of_le hq a.size) (fun e => ?_) (fun e => ?_), a.block q hq e1 e2]
  · rcases hr q hq (.inl e) with h | h; exact e1 h; exact e2 h
  · rcases hr q hq (.inr e) with h | h; exact e1 h; exact e2 h
theorem Fr.below {B : Nat} {w w' : World} {g1 g2 : Option Nat} (h : Fr w w' g1 g2) (hB : B ≤ w.heap.size) (h1 : ∀ g, g1 = some g → B ≤ g) (h2 : ∀ g, g2 = some g → B ≤ g) : Below B w w' :=
  ⟨h.os, h.tape, h.output, h.size, fun q hq => h.block q (by omega) (fun e => by have := h1 q e.symm; omega) (fun e => by have := h2 q e.symm; omega)⟩

theorem owns_keep {w w' : World} {lo : Nat} {e : TypeId} {s : Nat} {v : Value} {n : Nat} {xs : List Value} (h : w.ownsRow lo e s v n xs) (hk : ∀ g, v.ownBlock = some g → w'.heap[g]? = w.heap[g]?) : w'.ownsRow lo e s v n xs := by
  obtain ⟨h1, h2⟩ := h
  refine ⟨h1, ?_⟩
  rcases h2 with h2 | ⟨g, cap, cur, rfl, hg, hh, r⟩
  · exact .inl h2
  · exact .inr ⟨g, cap, cur, rfl, hg, by rw [hk g rfl]; exact hh, r⟩
theorem owns_mono {w : World} {lo lo' : Nat} {e : TypeId} {s : Nat} {v : Value} {n : Nat} {xs : List Value} (h : w.ownsRow lo e s v n xs) (hl : lo' ≤ lo) : w.ownsRow lo' e s v n xs := by
  obtain ⟨h1, h2⟩ := h
  refine ⟨h1, ?_⟩
  rcases h2 with h2 | ⟨g, cap, cur, rfl, hg, hh, r⟩
  · exact .inl h2
  · exact .inr ⟨g, cap, cur, rfl, by omega, hh, r⟩
theorem owns_at {w : World} {lo : Nat} {e : TypeId} {s : Nat} {v : Value} {n : Nat} {xs : List Value} (h : w.ownsRow lo e s v n xs) : ∀ g, v.ownBlock = some g → lo ≤ g ∧ g < w.heap.size := by
  intro g hg
  rcases h.2 with ⟨rfl, _⟩ | ⟨g', cap, cur, rfl, h1, hh, _⟩
  · simp [Value.ownBlock] at hg
  · simp [Value.ownBlock] at hg
    subst hg
    refine ⟨h1, ?_⟩
    rcases Nat.lt_or_ge g' w.heap.size with h | h
    · exact h
    · rw [Array.getElem?_eq_none h] at hh; cases hh
/-- The first n of n and one more. -/
theorem owns_prefix {w : World} {lo : Nat} {e : TypeId} {g cap n : Nat} {xs : List Value} {x : Value} (h : w.ownsRow lo e 1 (.slice (some ⟨g, 0, none⟩) (n + 1) cap) (n + 1) (xs ++ [x])) (hx : xs.length = n) : w.ownsRow lo e 1 (.slice (some ⟨g, 0, none⟩) n cap) n xs := by
  obtain ⟨h1, h2⟩ := h
  refine ⟨by omega, ?_⟩
  rcases h2 with ⟨h2, _⟩ | ⟨g', cap', cur, hv, hg, hh, hn, hc, hs, ht⟩
  · cases h2
  · simp only [Value.slice.injEq, Option.some.injEq, Addr.mk.injEq] at hv
    obtain ⟨⟨rfl, _⟩, _, rfl⟩ := hv
    refine .inr ⟨g, cap, cur, rfl, hg, hh, by omega, hc, hs, ?_⟩
    have : cur.toList.take (n * 1) = (cur.toList.take ((n + 1) * 1)).take n := by rw [List.take_take]; congr 1; omega
    rw [this, ht, List.take_left' hx]

/-- The values ys are the ways Q, each a row of its own from lo on, none in the row g. -/
def Pw (w : World) (lo : Nat) (g : Option Nat) (ys : List Value) (Q : List (List Int)) : Prop :=
  ys.length = Q.length ∧ ∀ (i : Nat) (y : Value) (q : List Int), ys[i]? = some y → Q[i]? = some q → w.ownsRow lo 3 1 y q.length (vals q) ∧ ∀ h, y.ownBlock = some h → some h ≠ g

theorem Pw.keep {w w' : World} {lo lo' : Nat} {g g' h1 h2 : Option Nat} {ys : List Value} {Q : List (List Int)} (h : Pw w lo g ys Q) (hf : Fr w w' h1 h2) (e1 : ∀ q, lo ≤ q → q < w.heap.size → some q ≠ g → some q ≠ h1 ∧ some q ≠ h2 ∧ some q ≠ g') (hlo : lo' ≤ lo) : Pw w' lo' g' ys Q := by
  refine ⟨h.1, fun i y q hy hq => ?_⟩
  obtain ⟨ho, hn⟩ := h.2 i y q hy hq
  refine ⟨owns_mono (owns_keep ho fun k hk => ?_) hlo, fun k hk => ?_⟩
  · obtain ⟨p1, p2⟩ := owns_at ho k hk
    obtain ⟨q1, q2, _⟩ := e1 k p1 p2 (hn k hk)
    exact hf.block k p2 q1 q2
  · obtain ⟨p1, p2⟩ := owns_at ho k hk
    exact (e1 k p1 p2 (hn k hk)).2.2
theorem Pw.append {w : World} {lo : Nat} {g : Option Nat} {ys zs : List Value} {Q R : List (List Int)} (h : Pw w lo g ys Q) (k : Pw w lo g zs R) : Pw w lo g (ys ++ zs) (Q ++ R) := by
  refine ⟨by simp [h.1, k.1], fun i y q hy hq => ?_⟩
  by_cases hi : i < ys.length
  · rw [List.getElem?_append_left hi] at hy
    rw [List.getElem?_append_left (by rw [← h.1]; exact hi)] at hq
    exact h.2 i y q hy hq
  · rw [List.getElem?_append_right (by omega)] at hy
    rw [List.getElem?_append_right (by rw [← h.1]; omega), ← h.1] at hq
    exact k.2 _ y q hy hq

end Go.Proofs.YtegdfnfengnjlaaDoor
