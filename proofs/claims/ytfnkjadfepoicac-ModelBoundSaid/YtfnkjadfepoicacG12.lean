/- What must be bound for a pattern to be a term, told of terms alone. -/
import Derived.Test.YtfnkjadfepoicacG07
import Derived.Test.YtfnkjadfepoicacG11
import Derived.Test.YtfnkjadfepoicacG09
import Derived.Deep.RegionLaw
namespace Go.Proofs.Ytfnkjadfepoicac
open Go.RowKit Go.Deep Go.ChangeShapes Go.WideShapes

def extF : Fo → Fo → Sb → Option Sb
  | .nil, _, s => some s
  | .node _ _ _ _ _, .nil, _ => none
  | .node _ _ x k r, .node _ _ y l q, s =>
    (if x.1 then (match look s x.2 with
      | none => some (s ++ [(x.2, (y, l))])
      | some u => if sameT u.1 u.2 y l then some s else none)
    else if y.1 = false ∧ y.2 = x.2 ∧ Fo.len l = Fo.len k then extF k l s else none).bind (extF r q)
def extT (s : Sb) (t u : Tm) : Option Sb :=
  if t.1.1 then (match look s t.1.2 with
    | none => some (s ++ [(t.1.2, u)])
    | some z => if sameT z.1 z.2 u.1 u.2 then some s else none)
  else if u.1.1 = false ∧ u.1.2 = t.1.2 ∧ Fo.len u.2 = Fo.len t.2 then extF t.2 u.2 s else none

theorem extF_node (p q p' q' : Nat) (x y : Bool × Int) (k r l m : Fo) (s : Sb) : extF (.node p q x k r) (.node p' q' y l m) s = (extT s (x, k) (y, l)).bind (extF r m) := rfl
theorem extT_new {s : Sb} {n : Int} {k : Fo} {u : Tm} (h : look s n = none) : extT s ((true, n), k) u = some (s ++ [(n, u)]) := by
  unfold extT; simp [h]
theorem extT_old {s : Sb} {n : Int} {k : Fo} {u z : Tm} (h : look s n = some z) : extT s ((true, n), k) u = if sameT z.1 z.2 u.1 u.2 then some s else none := by
  unfold extT; simp [h]
theorem extT_in {s : Sb} {n : Int} {k l : Fo} (h : Fo.len l = Fo.len k) : extT s ((false, n), k) ((false, n), l) = extF k l s := by
  unfold extT; simp [h]
theorem extT_no {s : Sb} {n : Int} {k : Fo} {u : Tm} (h : ¬ (u.1.1 = false ∧ u.1.2 = n ∧ Fo.len u.2 = Fo.len k)) : extT s ((false, n), k) u = none := by
  unfold extT; simp only [Bool.false_eq_true, if_false]; rw [if_neg h]

theorem ext_snoc : ∀ {j : Nat} {k l : Fo} {t u : Tm} (s : Sb), k.list[j]? = some t → l.list[j]? = some u → extF (Fo.take (j + 1) k) (Fo.take (j + 1) l) s = (extF (Fo.take j k) (Fo.take j l) s).bind fun s' => extT s' t u
  | _, .nil, _, _, _, _, h, _ => by simp [Fo.list] at h
  | _, .node _ _ _ _ _, .nil, _, _, _, _, h => by simp [Fo.list] at h
  | 0, .node _ _ x k r, .node _ _ y l q, t, u, s, h, h' => by
    simp only [Fo.list, List.getElem?_cons_zero, Option.some.injEq] at h h'
    subst h h'
    simp only [Fo.take, extF_node]
    simp [extF]
  | j + 1, .node _ _ x k r, .node _ _ y l q, t, u, s, h, h' => by
    have ih := fun s => ext_snoc (j := j) (k := r) (l := q) s (by simpa [Fo.list] using h) (by simpa [Fo.list] using h')
    rw [Fo.take, Fo.take, extF_node, Fo.take, Fo.take, extF_node]
    cases extT s (x, k) (y, l) with
    | none => rfl
    | some s' => exact ih s'
theorem ext_none : ∀ {j : Nat} {k l : Fo} {s : Sb}, Fo.len k = Fo.len l → extF (Fo.take j k) (Fo.take j l) s = none → extF k l s = none
  | 0, _, _, _, _, h => by simp [Fo.take, extF] at h
  | j + 1, .nil, _, _, _, h => by simp [Fo.take, extF] at h
  | j + 1, .node _ _ _ _ _, .nil, _, h, _ => by simp [Fo.len] at h
  | j + 1, .node _ _ x k r, .node _ _ y l q, s, hl, h => by
    rw [Fo.take, Fo.take, extF_node] at h
    rw [extF_node]
    cases e : extT s (x, k) (y, l) with
    | none => rfl
    | some s' =>
      rw [e] at h
      exact ext_none (j := j) (by simpa [Fo.len] using hl) h

theorem extF_len : ∀ {k l : Fo} {s s' : Sb}, extF k l s = some s' → s'.length ≤ s.length + Fo.sizesR k
  | .nil, _, s, s', h => by simp only [extF, Option.some.injEq] at h; subst h; omega
  | .node _ _ _ _ _, .nil, _, _, h => by simp [extF] at h
  | .node _ _ ⟨v, n⟩ k r, .node _ _ y l q, s, s', h => by
    rw [extF_node, Option.bind_eq_some_iff] at h
    obtain ⟨s1, h1, h2⟩ := h
    have i2 := extF_len h2
    have i1 : s1.length ≤ s.length + 1 + Fo.sizesR k := by
      cases v
      · unfold extT at h1
        simp only [Bool.false_eq_true, if_false] at h1
        split at h1
        · have := extF_len h1; omega
        · cases h1
      · cases e : look s n with
        | none => rw [extT_new e] at h1; cases h1; simp
        | some z =>
          rw [extT_old e] at h1
          split at h1
          · cases h1; omega
          · cases h1
    simp only [Fo.sizesR]
    omega
theorem extT_len {t u : Tm} {s s' : Sb} (h : extT s t u = some s') : s'.length ≤ s.length + tszR t.2 := by
  obtain ⟨⟨v, n⟩, k⟩ := t
  unfold tszR
  cases v
  · unfold extT at h
    simp only [Bool.false_eq_true, if_false] at h
    split at h
    · have := extF_len h; simp only; omega
    · cases h
  · cases e : look s n with
    | none => rw [extT_new e] at h; cases h; simp
    | some z =>
      rw [extT_old e] at h
      split at h
      · cases h; omega
      · cases h

/-- What was bound stays so. -/
theorem look_more {s m : Sb} {n : Int} {u : Tm} (h : look s n = some u) : look (s ++ m) n = some u := by rw [look_append, h]; rfl
theorem sub_more {s m : Sb} {t : Tm} (h : ∀ n, occT n t → (look s n).isSome = true) : subT (bnd (s ++ m)) t = subT (bnd s) t := by
  refine subT_congr fun n hn => ?_
  obtain ⟨u, hu⟩ := Option.isSome_iff_exists.1 (h n hn)
  rw [bnd_some hu, bnd_some (look_more hu)]
theorem subF_more {s m : Sb} {F : Fo} (h : ∀ n, occF n F → (look s n).isSome = true) : subF (bnd (s ++ m)) F = subF (bnd s) F := by
  refine subF_congr fun n hn => ?_
  obtain ⟨u, hu⟩ := Option.isSome_iff_exists.1 (h n hn)
  rw [bnd_some hu, bnd_some (look_more hu)]

/-- Bindings that are found make the pattern the term. -/
theorem extF_sound : ∀ {k l : Fo} {s s' : Sb}, Fo.len k = Fo.len l → Fo.ok l → (∀ p ∈ s, okT p.2) → extF k l s = some s' →
    (∀ p ∈ s', okT p.2) ∧ (∃ m, s' = s ++ m) ∧ (∀ n, occF n k → (look s' n).isSome = true) ∧ subF (bnd s') k = l
  | .nil, .nil, s, s', _, _, hs, h => by
    simp only [extF, Option.some.injEq] at h
    subst h
    exact ⟨hs, ⟨[], by simp⟩, fun n hn => by simp [occF] at hn, rfl⟩
  | .nil, .node _ _ _ _ _, _, _, h, _, _, _ => by simp [Fo.len] at h
  | .node _ _ _ _ _, .nil, _, _, h, _, _, _ => by simp [Fo.len] at h
  | .node p0 q0 ⟨v, n⟩ k r, .node p1 q1 y l q, s, s', hl, hok, hs, h => by
    rw [extF_node, Option.bind_eq_some_iff] at h
    obtain ⟨s1, h1, h2⟩ := h
    rw [ok_node] at hok
    obtain ⟨rfl, rfl, hy, hq⟩ := hok
    have key : (∀ p ∈ s1, okT p.2) ∧ (∃ m, s1 = s ++ m) ∧ (∀ m, occT m ((v, n), k) → (look s1 m).isSome = true) ∧ subT (bnd s1) ((v, n), k) = (y, l) := by
      cases v
      · unfold extT at h1
        simp only [Bool.false_eq_true, if_false] at h1
        split at h1
        · rename_i hc
          obtain ⟨i1, i2, i3, i4⟩ := extF_sound hc.2.2.symm hy.2 hs h1
          refine ⟨i1, i2, fun m hm => i3 m (occ_sym.1 hm), ?_⟩
          rw [subT_sym, i4]
          obtain ⟨y1, y2⟩ := y
          have e1 : y1 = false := hc.1
          have e2 : y2 = n := hc.2.1
          subst e1 e2
          rfl
        · cases h1
      · cases e : look s n with
        | none =>
          rw [extT_new e] at h1
          cases h1
          have hl' : look (s ++ [(n, (y, l))]) n = some (y, l) := by rw [look_append, e]; simp [look]
          refine ⟨?_, ⟨_, rfl⟩, fun m hm => ?_, ?_⟩
          · intro p hp
            simp only [List.mem_append, List.mem_singleton] at hp
            rcases hp with hp | rfl
            · exact hs p hp
            · exact hy
          · have : n = m := by simpa [occT] using hm
            subst this
            rw [hl']; rfl
          · rw [subT_var, bnd_some hl']
        | some z =>
          rw [extT_old e] at h1
          split at h1
          · rename_i hsm
            cases h1
            have hz : z = (y, l) := sameT_eq (hs _ (look_mem e)) hy hsm
            refine ⟨hs, ⟨[], by simp⟩, fun m hm => ?_, ?_⟩
            · have : n = m := by simpa [occT] using hm
              subst this
              rw [e]; rfl
            · rw [subT_var, bnd_some e, hz]
          · cases h1
    obtain ⟨k1, ⟨m1, rfl⟩, k3, k4⟩ := key
    obtain ⟨i1, ⟨m2, rfl⟩, i3, i4⟩ := extF_sound (by simpa [Fo.len] using hl) hq k1 h2
    refine ⟨i1, ⟨m1 ++ m2, by simp⟩, fun m hm => ?_, ?_⟩
    · rcases hm with hm | hm
      · obtain ⟨u, hu⟩ := Option.isSome_iff_exists.1 (k3 m hm)
        rw [look_more hu]; rfl
      · exact i3 m hm
    · rw [subF_node, sub_more k3, k4, i4]
theorem extT_sound {t u : Tm} {s s' : Sb} (hu : okT u) (hs : ∀ p ∈ s, okT p.2) (h : extT s t u = some s') : (∀ p ∈ s', okT p.2) ∧ subT (bnd s') t = u := by
  have h1 : extF (.node 0 0 t.1 t.2 .nil) (.node 0 0 u.1 u.2 .nil) s = some s' := by rw [extF_node, show extT s (t.1, t.2) (u.1, u.2) = some s' from h]; rfl
  obtain ⟨i1, _, _, i4⟩ := extF_sound (k := .node 0 0 t.1 t.2 .nil) (l := .node 0 0 u.1 u.2 .nil) rfl (ok_node.2 ⟨rfl, rfl, hu, trivial⟩) hs h1
  rw [subF_node] at i4
  simp only [BT.node.injEq, true_and] at i4
  exact ⟨i1, Prod.ext i4.1 i4.2.1⟩

/-- Any term that the pattern is by bindings is found. -/
theorem extF_whole {σ : Int → Tm} (hσ : ∀ n, okT (σ n)) : ∀ {k : Fo} {s : Sb}, (∀ p ∈ s, p.2 = σ p.1) → ∃ s', extF k (subF σ k) s = some s' ∧ ∀ p ∈ s', p.2 = σ p.1
  | .nil, s, hs => ⟨s, rfl, hs⟩
  | .node p0 q0 ⟨v, n⟩ k r, s, hs => by
    rw [subF_node, extF_node]
    have key : ∃ s1, extT s ((v, n), k) (subT σ ((v, n), k)) = some s1 ∧ ∀ p ∈ s1, p.2 = σ p.1 := by
      cases v
      · rw [subT_sym, extT_in (subF_len σ k)]
        exact extF_whole hσ hs
      · rw [subT_var]
        cases e : look s n with
        | none =>
          rw [extT_new e]
          refine ⟨_, rfl, fun p hp => ?_⟩
          simp only [List.mem_append, List.mem_singleton] at hp
          rcases hp with hp | rfl
          · exact hs p hp
          · rfl
        | some z =>
          have hz : z = σ n := hs _ (look_mem e)
          rw [extT_old e, hz, sameT_refl]
          exact ⟨s, rfl, hs⟩
    obtain ⟨s1, h1, h2⟩ := key
    have h1' : extT s ((v, n), k) ((subT σ ((v, n), k)).1, (subT σ ((v, n), k)).2) = some s1 := h1
    rw [h1']
    exact extF_whole hσ h2
theorem extT_whole {σ : Int → Tm} (hσ : ∀ n, okT (σ n)) {t : Tm} {s : Sb} (hs : ∀ p ∈ s, p.2 = σ p.1) : ∃ s', extT s t (subT σ t) = some s' := by
  obtain ⟨s', h, _⟩ := extF_whole hσ (k := .node 0 0 t.1 t.2 .nil) hs
  rw [subF_node, extF_node, Option.bind_eq_some_iff] at h
  obtain ⟨s1, h1, _⟩ := h
  exact ⟨s1, h1⟩

end Go.Proofs.Ytfnkjadfepoicac

/- Bindings in a row of the call's own, that grows: what stays where it is. -/
namespace Go.Proofs.Ytfnkjadfepoicac
open Go.RowKit Go.Deep Go.ChangeShapes Go.WideShapes

theorem Try.info47 : (Try.prog.info? 47).map (fun i => (i.zero, i.size, i.bytes)) = some (some (.agg #[.int .i64 0, .bool false, .int .i64 0, .slice none 0 0]), 4, 48) := by kernel_rfl

/-- The cells of bindings, four each. -/
def PC (X : Nat → Prop) (w : World) : Sb → List Value → Prop
  | [], xs => xs = []
  | p :: s, xs => ∃ a ys, xs = .int .i64 p.1 :: .bool p.2.1.1 :: .int .i64 p.2.1.2 :: a :: ys ∧ SB X w p.2.2 a ∧ PC X w s ys

theorem PC.frame {X Y : Nat → Prop} {w w' : World} (hXY : ∀ q, X q → Y q) (hr : ∀ q i, X q → w'.cell? ⟨q, i, none⟩ = w.cell? ⟨q, i, none⟩) : ∀ {s : Sb} {xs : List Value}, PC X w s xs → PC Y w' s xs
  | [], _, h => h
  | _ :: _, _, ⟨a, ys, h1, h2, h3⟩ => ⟨a, ys, h1, h2.frame hXY hr, PC.frame hXY hr h3⟩
theorem PC.append {X : Nat → Prop} {w : World} {s' : Sb} {ys : List Value} (h' : PC X w s' ys) : ∀ {s : Sb} {xs : List Value}, PC X w s xs → PC X w (s ++ s') (xs ++ ys)
  | [], _, h => by rw [PC] at h; subst h; exact h'
  | _ :: _, _, ⟨a, zs, h1, h2, h3⟩ => by subst h1; exact ⟨a, zs ++ ys, rfl, h2, PC.append h' h3⟩
theorem PC.one {X : Nat → Prop} {w : World} {n : Int} {t : Tm} {a : Value} (h : SB X w t.2 a) : PC X w [(n, t)] [.int .i64 n, .bool t.1.1, .int .i64 t.1.2, a] := ⟨a, [], rfl, h, rfl⟩
theorem PC.len {X : Nat → Prop} {w : World} : ∀ {s : Sb} {xs : List Value}, PC X w s xs → xs.length = s.length * 4
  | [], _, h => by rw [PC] at h; subst h; rfl
  | _ :: _, _, ⟨a, ys, h1, _, h3⟩ => by subst h1; simp only [List.length_cons, h3.len]; omega
theorem PC.at {X : Nat → Prop} {w : World} {g : Nat} : ∀ {s : Sb} {xs : List Value} {o : Nat}, PC X w s xs → (∀ j, j < xs.length → w.cell? ⟨g, o + j, none⟩ = xs[j]?) → PIn w s g o
  | [], _, _, _, _ => trivial
  | p :: s, _, o, ⟨a, ys, h1, h2, h3⟩, hc => by
    subst h1
    have c0 := hc 0 (by simp)
    have c1 := hc 1 (by simp)
    have c2 := hc 2 (by simp)
    have c3 := hc 3 (by simp)
    refine ⟨by simpa using c0, by simpa using c1, by simpa using c2, ⟨a, by simpa using c3, h2.toS⟩, ?_⟩
    refine PC.at h3 (fun j hj => ?_)
    have := hc (j + 4) (by simp; omega)
    rw [show o + 4 + j = o + (j + 4) by omega, this]
    simp

/-- A row that holds the cells of bindings is those bindings. -/
theorem row_sub {X : Nat → Prop} {w : World} {lo : Nat} {v : Value} {s : Sb} {xs : List Value} (h : w.ownsRow lo 47 4 v s.length xs) (hc : PC X w s xs) : SubIn w s v := by
  have hcells := fun g hg => h.cells (g := g) hg
  rcases h.2 with ⟨rfl, h0⟩ | ⟨g, cap, cur, rfl, hl, hh, hn, hm, hs, ht⟩
  · have : s = [] := List.length_eq_zero_iff.1 h0
    subst this
    exact SubIn.nil w
  · refine ⟨_, cap, g, 0, rfl, fun _ => rfl, hn, hm, hc.at (fun j hj => ?_)⟩
    have := hcells g rfl j (xs[j]'hj) (List.getElem?_eq_getElem hj)
    rw [List.getElem?_eq_getElem hj]
    rw [add_plain] at this
    exact this

/-- Where bindings' terms may lie behind a call: where they did, or in new blocks, but not in the row. -/
def Ex (X : Nat → Prop) (w w' : World) (v : Value) : Nat → Prop := fun q => X q ∨ (w.heap.size ≤ q ∧ q < w'.heap.size ∧ some q ≠ v.ownBlock)
/-- The row stays in its block, or is new. -/
def Mv (w : World) (v v' : Value) : Prop := v'.ownBlock = v.ownBlock ∨ ∀ g, v'.ownBlock = some g → w.heap.size ≤ g

/-- The bindings s are a row of the call's own. -/
structure OwnS (lo : Nat) (X : Nat → Prop) (w : World) (s : Sb) (v : Value) (xs : List Value) : Prop where
  row : w.ownsRow lo 47 4 v s.length xs
  cells : PC X w s xs
  off : ∀ q, X q → q < w.heap.size ∧ some q ≠ v.ownBlock

theorem OwnS.sub {lo : Nat} {X : Nat → Prop} {w : World} {s : Sb} {v : Value} {xs : List Value} (h : OwnS lo X w s v xs) : SubIn w s v := row_sub h.row h.cells
theorem OwnS.slice {lo : Nat} {X : Nat → Prop} {w : World} {s : Sb} {v : Value} {xs : List Value} (h : OwnS lo X w s v xs) : ∃ z1 z3, v = .slice z1 s.length z3 := slice_of_sub h.sub
theorem OwnS.below {lo : Nat} {X : Nat → Prop} {w w' : World} {s : Sb} {v : Value} {xs : List Value} (h : OwnS lo X w s v xs) (hb : Below w.heap.size w w') : OwnS lo X w' s v xs :=
  ⟨owns_keep h.row (fun g hg => hb.block g (owns_at h.row g hg).2), h.cells.frame (fun _ hq => hq) (fun q _ hq => World.cell?_of_block (hb.block q (h.off q hq).1)), fun q hq => ⟨Nat.lt_of_lt_of_le (h.off q hq).1 hb.size, (h.off q hq).2⟩⟩
theorem OwnS.wide {lo : Nat} {X Y : Nat → Prop} {w : World} {s : Sb} {v : Value} {xs : List Value} (h : OwnS lo X w s v xs) (hXY : ∀ q, X q → Y q) (hY : ∀ q, Y q → q < w.heap.size ∧ some q ≠ v.ownBlock) : OwnS lo Y w s v xs :=
  ⟨h.row, h.cells.frame hXY (fun _ _ _ => rfl), hY⟩

theorem SB.wide {X Y : Nat → Prop} {w : World} {k : Fo} {a : Value} (h : SB X w k a) (hXY : ∀ q, X q → Y q) : SB Y w k a := h.frame hXY (fun _ _ _ => rfl)
theorem SB.kept {X : Nat → Prop} {w w' : World} {k : Fo} {a : Value} (h : SB X w k a) (hr : ∀ q, X q → w'.heap[q]? = w.heap[q]?) : SB X w' k a := h.frame (fun _ hq => hq) (fun q _ hq => World.cell?_of_block (hr q hq))

/-- One binding more, laid behind the others by append. -/
theorem own_snoc {lo : Nat} {X : Nat → Prop} {w w1 w3 : World} {s : Sb} {v : Value} {xs : List Value} {n : Int} {t : Tm} {a : Value} {ob : Obj} {g cap : Nat} (h : OwnS lo X w s v xs) (hb : Below w.heap.size w w1) (hO : SB (fun q => w.heap.size ≤ q ∧ q < w1.heap.size) w1 t.2 a)
    (ho : w3.ownsRow lo 47 4 (.slice (some ⟨g, 0, none⟩) (s.length + 1) cap) (s.length + 1) (xs ++ [.int .i64 n, .bool t.1.1, .int .i64 t.1.2, a])) (hg : (w1.alloc ob).grownBy w3 v.ownBlock) (hat : v.ownBlock = some g ∨ g = w1.heap.size + 1) (hlt : g < w3.heap.size) :
    OwnS lo (Ex X w w3 (.slice (some ⟨g, 0, none⟩) (s.length + 1) cap)) w3 (s ++ [(n, t)]) (.slice (some ⟨g, 0, none⟩) (s.length + 1) cap) (xs ++ [.int .i64 n, .bool t.1.1, .int .i64 t.1.2, a]) ∧
    Fr w w3 v.ownBlock none ∧ Mv w v (.slice (some ⟨g, 0, none⟩) (s.length + 1) cap) := by
  have hs1 := hb.size
  have hs3 := hg.size
  simp at hs3
  have hgs : ∀ q, v.ownBlock = some q → q < w.heap.size := fun q hq => (owns_at h.row q hq).2
  have far : ∀ q, q < w1.heap.size → some q ≠ v.ownBlock → w3.heap[q]? = w1.heap[q]? := fun q hq hn => by
    rw [hg.block q (by simp; omega) hn, Below.heap_alloc _ _ _ hq]
  have off : ∀ q, Ex X w w3 (.slice (some ⟨g, 0, none⟩) (s.length + 1) cap) q → q < w3.heap.size ∧ some q ≠ (Value.slice (some ⟨g, 0, none⟩) (s.length + 1) cap).ownBlock := fun q hq => by
    rcases hq with hq | hq
    · have h1 := h.off q hq
      refine ⟨by omega, fun e => ?_⟩
      simp [Value.ownBlock] at e
      subst e
      rcases hat with e | e
      · exact h1.2 e.symm
      · omega
    · exact hq.2
  refine ⟨⟨by simpa using ho, ?_, off⟩, ?_, ?_⟩
  · refine PC.append (PC.one ?_) ?_
    · refine hO.frame (fun q hq => .inr ⟨hq.1, by omega, fun e => ?_⟩) (fun q i hq => World.cell?_of_block (far q hq.2 (fun e => ?_)))
      · simp [Value.ownBlock] at e
        subst e
        rcases hat with e | e
        · have := hgs _ e; omega
        · omega
      · have := hgs q e.symm; omega
    · refine h.cells.frame (fun q hq => .inl hq) (fun q i hq => World.cell?_of_block ?_)
      have h1 := h.off q hq
      rw [far q (by omega) h1.2, hb.block q h1.1]
  · refine ⟨hg.os.trans hb.os, hg.tape.trans hb.tape, hg.output.trans hb.output, by omega, fun q hq hn _ => ?_⟩
    rw [far q (by omega) hn, hb.block q hq]
  · rcases hat with e | e
    · exact .inl e.symm
    · refine .inr fun q hq => ?_
      simp [Value.ownBlock] at hq
      omega

/-- Two calls in a row. -/
theorem own_next {lo : Nat} {X : Nat → Prop} {w wr wa w2 : World} {s2 : Sb} {v v1 v2 : Value} {xs2 : List Value} (hf : Fr w wr v.ownBlock none) (hm : Mv w v v1) (hX : ∀ q, X q → q < w.heap.size ∧ some q ≠ v.ownBlock)
    (hb : Below wr.heap.size wr wa) (h2 : OwnS lo (Ex (Ex X w wr v1) wa w2 v2) w2 s2 v2 xs2) (hf2 : Fr wa w2 v1.ownBlock none) (hm2 : Mv wa v1 v2) :
    OwnS lo (Ex X w w2 v2) w2 s2 v2 xs2 ∧ Fr w w2 v.ownBlock none ∧ Mv w v v2 := by
  have s1' := hf.size
  have s2' := hb.size
  have s3' := hf2.size
  have mv : ∀ g, v2.ownBlock = some g → v.ownBlock = some g ∨ w.heap.size ≤ g := fun g hg => by
    rcases hm2 with e | e
    · rw [e] at hg
      rcases hm with e' | e'
      · rw [e'] at hg; exact .inl hg
      · exact .inr (e' g hg)
    · have := e g hg; exact .inr (by omega)
  refine ⟨h2.wide (fun q hq => ?_) (fun q hq => ?_), ?_, ?_⟩
  · rcases hq with hq | hq
    · rcases hq with hq | hq
      · exact .inl hq
      · refine .inr ⟨hq.1, by omega, fun e => ?_⟩
        rcases hm2 with e' | e'
        · rw [e'] at e; exact hq.2.2 e
        · have := e' q e.symm; omega
    · exact .inr ⟨by omega, hq.2⟩
  · rcases hq with hq | hq
    · have := hX q hq
      refine ⟨by omega, fun e => ?_⟩
      rcases mv q e.symm with h | h
      · exact this.2 h.symm
      · omega
    · exact hq.2
  · refine hf.trans (g1 := v.ownBlock) (g2 := none) (h1 := v1.ownBlock) (h2 := none) ⟨hf2.os.trans hb.os, hf2.tape.trans hb.tape, hf2.output.trans hb.output, by omega, fun q hq e1 e2 => ?_⟩ (fun q hq h => ?_)
    · rw [hf2.block q (by omega) e1 e2, hb.block q hq]
    · rcases h with h | h
      · rcases hm with e | e
        · rw [e] at h; exact .inl h
        · have := e q h.symm; omega
      · cases h
  · rcases hm2 with e | e
    · rcases hm with e' | e'
      · exact .inl (e.trans e')
      · exact .inr fun g hg => e' g (by rw [← e]; exact hg)
    · exact .inr fun g hg => by have := e g hg; omega

/-- The same, seen from further back. -/
theorem own_back {lo : Nat} {X : Nat → Prop} {w W2 wr : World} {s : Sb} {v v' : Value} {xs : List Value} (hb : Below w.heap.size w W2) (h : OwnS lo (Ex X W2 wr v') wr s v' xs) (hf : Fr W2 wr v.ownBlock none) (hm : Mv W2 v v') :
    OwnS lo (Ex X w wr v') wr s v' xs ∧ Fr w wr v.ownBlock none ∧ Mv w v v' := by
  have h1 := hb.size
  have h2 := hf.size
  refine ⟨h.wide (fun q hq => ?_) (fun q hq => ?_), ⟨hf.os.trans hb.os, hf.tape.trans hb.tape, hf.output.trans hb.output, by omega, fun q hq e1 e2 => ?_⟩, ?_⟩
  · rcases hq with hq | hq
    · exact .inl hq
    · exact .inr ⟨by omega, hq.2⟩
  · rcases hq with hq | hq
    · exact h.off q (.inl hq)
    · exact hq.2
  · rw [hf.block q (by omega) e1 e2, hb.block q hq]
  · rcases hm with e | e
    · exact .inl e
    · exact .inr fun g hg => by have := e g hg; omega
theorem own_begin {lo : Nat} {X : Nat → Prop} {w W2 : World} {s : Sb} {v : Value} {xs : List Value} (hb : Below w.heap.size w W2) (h : OwnS lo X w s v xs) : OwnS lo (Ex X W2 W2 v) W2 s v xs ∧ Fr W2 W2 v.ownBlock none ∧ Mv W2 v v := by
  have h' := h.below hb
  refine ⟨h'.wide (fun q hq => .inl hq) (fun q hq => ?_), Fr.refl _ _ _, .inl rfl⟩
  rcases hq with hq | hq
  · exact h'.off q hq
  · omega

end Go.Proofs.Ytfnkjadfepoicac

/- Any slice appended to a row of the call's own. -/
namespace Go.Proofs.Ytfnkjadfepoicac
open Go.RowKit Go.Deep Go.ChangeShapes Go.WideShapes

/-- The slice lv has m elements, whose cells are news. -/
def Cs (w : World) (lv : Value) (m size : Nat) (news : List Value) : Prop :=
  ∃ (a : Option Addr) (c : Nat), lv = .slice a m c ∧ news.length = m * size ∧ (∀ u ∈ news, u.oneCell' = true) ∧ (a = none → m = 0) ∧ ∀ ad, a = some ad → ∀ j u, news[j]? = some u → w.cell? (ad.add j) = some u

theorem append_nothing {w : World} (base : Nat) (t ty e : TypeId) (i : TypeInfo) (size : Nat) (ht : Try.prog.underlying t = some (.slice e)) (hi : Try.prog.info? e = some i) (v : Value) (n c : Nat) (xs : List Value) (hown : w.ownsRow base e size v n xs) :
    (Builtin.append_ #[t, t] ty #[v, .slice none 0 c]).run Try.prog w = .ok v w := by
  rcases hown.2 with ⟨rfl, rfl⟩ | ⟨g, cap, cur, rfl, _, _, hnc, _⟩
  · simp [Builtin.append_, run_underlying ht, sizeOf, typeInfo, hi, Builtin.lenOf, Builtin.firstCells]
  · simp [Builtin.append_, run_underlying ht, sizeOf, typeInfo, hi, Builtin.lenOf, Builtin.firstCells, hnc, storeCells]

theorem run_append_gen {w : World} (base : Nat) (t ty e : TypeId) (i : TypeInfo) (z : Value) (size bytes : Nat) (ht : Try.prog.underlying t = some (.slice e)) (hi : Try.prog.info? e = some i) (hz : i.zero = some z) (hsize : i.size = size) (hby : i.bytes = bytes) (hzs : z.cells.size = size) (hsz : 0 < size)
    (v : Value) (n : Nat) (xs : List Value) (hown : w.ownsRow base e size v n xs) (lv : Value) (m : Nat) (news : List Value) (hC : Cs w lv m size news) (h63 : n + m ≤ maxLen) (hb : (n + m) * bytes ≤ 140737488355328) (hbase : base ≤ w.heap.size) :
    ∃ v' w', (Builtin.append_ #[t, t] ty #[v, lv]).run Try.prog w = .ok v' w' ∧ w'.ownsRow base e size v' (n + m) (xs ++ news) ∧ w.grownBy w' v.ownBlock ∧ (v'.ownBlock = v.ownBlock ∨ v'.ownBlock = some w.heap.size) := by
  obtain ⟨a, c, rfl, hl, h1, h0, hc⟩ := hC
  cases a with
  | none =>
    have hm := h0 rfl
    subst hm
    have hn : news = [] := List.length_eq_zero_iff.1 (by rw [hl]; simp)
    subst hn
    exact ⟨v, w, append_nothing base t ty e i size ht hi v n c xs hown, by simpa using hown, ⟨rfl, rfl, rfl, Nat.le_refl _, fun _ _ _ => rfl⟩, .inl rfl⟩
  | some ad =>
    obtain ⟨v', w', hr, h2, h3, _, h5⟩ := run_append_own_at (P := Try.prog) w base t ty e i z size bytes ht hi hz hsize hby hzs hsz v n xs hown ad m c news hl (hc ad rfl) h1 h63 hb hbase
    exact ⟨v', w', hr, h2, h3, h5⟩

theorem wp_append_gen {w : World} {o : Oper} {a : Act} {K : Act → World → Prop} {Q : Exit → Act → World → Prop} (s x : Operand) (t : TypeId)
    (ho : o.op = .call { callee := .builtin .append, args := #[s, x], argTypes := #[t, t] }) (base : Nat) (e : TypeId) (i : TypeInfo) (z : Value) (size bytes : Nat) (ht : Try.prog.underlying t = some (.slice e)) (hi : Try.prog.info? e = some i) (hz : i.zero = some z) (hsize : i.size = size) (hby : i.bytes = bytes) (hzs : z.cells.size = size) (hsz : 0 < size)
    (v : Value) (n : Nat) (xs : List Value) (hs : a.eval s = v) (hown : w.ownsRow base e size v n xs) (lv : Value) (m : Nat) (news : List Value) (hx : a.eval x = lv) (hC : Cs w lv m size news) (h63 : n + m ≤ maxLen) (hb : (n + m) * bytes ≤ 140737488355328) (hbase : base ≤ w.heap.size)
    (h : ∀ v' w', w'.ownsRow base e size v' (n + m) (xs ++ news) → w.grownBy w' v.ownBlock → (v'.ownBlock = v.ownBlock ∨ v'.ownBlock = some w.heap.size) → K (a.put o.dst v') w') : o.wp Try.prog a w K Q := by
  obtain ⟨v', w', hr, h2, h3, h4⟩ := run_append_gen base t o.type e i z size bytes ht hi hz hsize hby hzs hsz v n xs hown lv m news hC h63 hb hbase
  unfold Oper.wp execOp
  simp only [ho, resolve, invoke, builtin, Sem.run_bind, Sem.run_pure, Result.andThen_ok, List.map_toArray, List.map_cons, List.map_nil, hs, hx, hr]
  exact h v' w' h2 h3 h4

theorem step_append_gen {w : World} {ops : Array Oper} {o : Oper} {a : Act} {K : Act → World → Prop} {Q : Exit → Act → World → Prop} {E : Prop} (hgd : o.guard = none) (s x : Operand) (t : TypeId)
    (ho : o.op = .call { callee := .builtin .append, args := #[s, x], argTypes := #[t, t] }) (base : Nat) (e : TypeId) (i : TypeInfo) (z : Value) (size bytes : Nat) (ht : Try.prog.underlying t = some (.slice e)) (hi : Try.prog.info? e = some i) (hz : i.zero = some z) (hsize : i.size = size) (hby : i.bytes = bytes) (hzs : z.cells.size = size) (hsz : 0 < size)
    (v : Value) (n : Nat) (xs : List Value) (hs : a.eval s = v) (hown : w.ownsRow base e size v n xs) (lv : Value) (m : Nat) (news : List Value) (hx : a.eval x = lv) (hC : Cs w lv m size news) (h63 : n + m ≤ maxLen) (hb : (n + m) * bytes ≤ 140737488355328) (hbase : base ≤ w.heap.size)
    (h : ∀ v' w', w'.ownsRow base e size v' (n + m) (xs ++ news) → w.grownBy w' v.ownBlock → (v'.ownBlock = v.ownBlock ∨ v'.ownBlock = some w.heap.size) → K (a.put o.dst v') w') :
    if Region.wanted o (yielded ops a.tmps) = true then Oper.wp Try.prog o a w K Q else E := by
  have hw : Region.wanted o (yielded ops a.tmps) = true := by simp [Region.wanted, hgd]
  rw [if_pos hw]
  exact wp_append_gen s x t ho base e i z size bytes ht hi hz hsize hby hzs hsz v n xs hs hown lv m news hx hC h63 hb hbase h
theorem wpList_append_gen {w : World} {ops : Array Oper} {rest : List Oper} {o : Oper} {a : Act} {Q : Exit → Act → World → Prop} (hgd : o.guard = none) (s x : Operand) (t : TypeId)
    (ho : o.op = .call { callee := .builtin .append, args := #[s, x], argTypes := #[t, t] }) (base : Nat) (e : TypeId) (i : TypeInfo) (z : Value) (size bytes : Nat) (ht : Try.prog.underlying t = some (.slice e)) (hi : Try.prog.info? e = some i) (hz : i.zero = some z) (hsize : i.size = size) (hby : i.bytes = bytes) (hzs : z.cells.size = size) (hsz : 0 < size)
    (v : Value) (n : Nat) (xs : List Value) (hs : a.eval s = v) (hown : w.ownsRow base e size v n xs) (lv : Value) (m : Nat) (news : List Value) (hx : a.eval x = lv) (hC : Cs w lv m size news) (h63 : n + m ≤ maxLen) (hb : (n + m) * bytes ≤ 140737488355328) (hbase : base ≤ w.heap.size)
    (h : ∀ v' w', w'.ownsRow base e size v' (n + m) (xs ++ news) → w.grownBy w' v.ownBlock → (v'.ownBlock = v.ownBlock ∨ v'.ownBlock = some w.heap.size) → wpList Try.prog ops Q rest (a.put o.dst v') w') : wpList Try.prog ops Q (o :: rest) a w :=
  wpList_plain hgd fun _ hK => wp_append_gen s x t ho base e i z size bytes ht hi hz hsize hby hzs hsz v n xs hs hown lv m news hx hC h63 hb hbase fun v' w' h2 h3 h4 => hK _ _ (h v' w' h2 h3 h4)

/-- An empty row that was laid. -/
theorem own_bare {w : World} {base b : Nat} {e : TypeId} {size : Nat} (h : w.heap[b]? = some (.cells #[] e)) (hb : base ≤ b) : w.ownsRow base e size (.slice (some ⟨b, 0, none⟩) 0 0) 0 [] :=
  ⟨by simp, .inr ⟨b, 0, #[], rfl, hb, h, Nat.le_refl _, Nat.zero_le _, by simp, by simp⟩⟩

/-- The cells of bindings that lie in memory. -/
theorem pin_cells {w : World} {b : Nat} : ∀ {s : Sb} {o : Nat}, PIn w s b o → ∃ news : List Value, news.length = s.length * 4 ∧ PC (fun q => q < w.heap.size) w s news ∧ ∀ j u, news[j]? = some u → w.cell? ⟨b, o + j, none⟩ = some u
  | [], _, _ => ⟨[], rfl, rfl, fun j u h => by simp at h⟩
  | p :: s, o, ⟨h0, h1, h2, ⟨v, h3, h4⟩, h5⟩ => by
    obtain ⟨news, hl, hP, hc⟩ := pin_cells h5
    refine ⟨.int .i64 p.1 :: .bool p.2.1.1 :: .int .i64 p.2.1.2 :: v :: news, by simp only [List.length_cons, hl]; omega, ⟨v, news, rfl, h4.toB, hP⟩, fun j u hj => ?_⟩
    match j, hj with
    | 0, hj => simp at hj; subst hj; simpa using h0
    | 1, hj => simp at hj; subst hj; simpa using h1
    | 2, hj => simp at hj; subst hj; simpa using h2
    | 3, hj => simp at hj; subst hj; simpa using h3
    | j + 4, hj =>
      have := hc j u (by simpa using hj)
      rw [show o + (j + 4) = o + 4 + j by omega]
      exact this
theorem PC.onecell {X : Nat → Prop} {w : World} : ∀ {s : Sb} {xs : List Value}, PC X w s xs → ∀ u ∈ xs, u.oneCell' = true
  | [], _, h, u, hu => by rw [PC] at h; subst h; simp at hu
  | _ :: _, _, ⟨a, ys, h1, h2, h3⟩, u, hu => by
    subst h1
    obtain ⟨_, _, _, _, rfl, _⟩ := h2
    simp only [List.mem_cons] at hu
    rcases hu with rfl | rfl | rfl | rfl | hu
    · rfl
    · rfl
    · rfl
    · rfl
    · exact h3.onecell u hu
theorem sub_cells {w : World} {s : Sb} {v : Value} (h : SubIn w s v) : ∃ news, Cs w v s.length 4 news ∧ PC (fun q => q < w.heap.size) w s news := by
  obtain ⟨a, c, b, o, rfl, h1, h2, h3, h4⟩ := h
  obtain ⟨news, hl, hP, hc⟩ := pin_cells h4
  refine ⟨news, ⟨a, c, rfl, hl, hP.onecell, fun e => ?_, fun ad e j u hj => ?_⟩, hP⟩
  · subst e
    cases s with
    | nil => rfl
    | cons p s => have := h1 (by simp); cases this
  · have hj' := (List.getElem?_eq_some_iff.1 hj).1
    have hae : ad = ⟨b, o, none⟩ := by
      have := h1 (by omega)
      rw [e] at this
      exact Option.some.inj this
    rw [hae, add_plain]
    exact hc j u hj
/-- The cells of terms that lie in memory. -/
theorem fin_cells {w : World} {b : Nat} : ∀ {F : Fo} {o : Nat}, FIn w F b o → ∃ news : List Value, news.length = Fo.len F * 3 ∧ CellsOf (fun q => q < w.heap.size) w F news ∧ ∀ j u, news[j]? = some u → w.cell? ⟨b, o + j, none⟩ = some u
  | .nil, _, _ => ⟨[], rfl, rfl, fun j u h => by simp at h⟩
  | .node p q x k r, o, h => by
    obtain ⟨h0, h1, ⟨v, h2, h3⟩, h4⟩ := FIn.node h
    obtain ⟨news, hl, hP, hc⟩ := fin_cells h4
    refine ⟨.bool x.1 :: .int .i64 x.2 :: v :: news, by simp only [List.length_cons, hl, Fo.len]; omega, ⟨v, news, rfl, h3.toB, hP⟩, fun j u hj => ?_⟩
    match j, hj with
    | 0, hj => simp at hj; subst hj; simpa using h0
    | 1, hj => simp at hj; subst hj; simpa using h1
    | 2, hj => simp at hj; subst hj; simpa using h2
    | j + 3, hj =>
      have := hc j u (by simpa using hj)
      rw [show o + (j + 3) = o + 3 + j by omega]
      exact this
theorem terms_cells {w : World} {F : Fo} {v : Value} (h : SIn w F v) : ∃ news, Cs w v (Fo.len F) 3 news ∧ CellsOf (fun q => q < w.heap.size) w F news := by
  obtain ⟨a, c, b, o, rfl, h1, h2, h3, h4⟩ := h
  obtain ⟨news, hl, hP, hc⟩ := fin_cells h4
  refine ⟨news, ⟨a, c, rfl, hl, hP.one, fun e => ?_, fun ad e j u hj => ?_⟩, hP⟩
  · subst e
    rcases Nat.eq_zero_or_pos (Fo.len F) with h | h
    · exact h
    · have := h1 h; cases this
  · have hj' := (List.getElem?_eq_some_iff.1 hj).1
    have hae : ad = ⟨b, o, none⟩ := by
      have := h1 (by omega)
      rw [e] at this
      exact Option.some.inj this
    rw [hae, add_plain]
    exact hc j u hj

end Go.Proofs.Ytfnkjadfepoicac

/- What must be bound for a pattern to be a term: bind's extend. -/
namespace Go.Proofs.Ytfnkjadfepoicac
open Go.RowKit Go.Deep Go.ChangeShapes Go.WideShapes
attribute [local go_sem ↓] Go.wp_at_zero Go.wp_at_succ

def ExtPost (lo : Nat) (X : Nat → Prop) (w : World) (s : Sb) (vs : Value) (t u : Tm) (e : Ending) (w' : World) : Prop :=
  Fr w w' vs.ownBlock none ∧ ∃ (z1 : Option Addr) (m z3 : Nat) (ok : Bool), e = .returned (.tuple #[.slice z1 m z3, .bool ok]) ∧ (ok = false → extT s t u = none ∧ z1 = none ∧ m = 0 ∧ z3 = 0) ∧
    (ok = true → ∃ s' xs', extT s t u = some s' ∧ m = s'.length ∧ OwnS lo (Ex X w w' (.slice z1 m z3)) w' s' (.slice z1 m z3) xs' ∧ Mv w vs (.slice z1 m z3))

theorem ext_fails {lo : Nat} {X : Nat → Prop} {w w' : World} {s : Sb} {vs : Value} {t u : Tm} (hf : Fr w w' vs.ownBlock none) (h : extT s t u = none) : ExtPost lo X w s vs t u (.returned (.tuple #[.slice none 0 0, .bool false])) w' :=
  ⟨hf, none, 0, 0, false, rfl, fun _ => ⟨h, rfl, rfl, rfl⟩, fun e => by cases e⟩
theorem ext_holds {lo : Nat} {X : Nat → Prop} {w w' : World} {s s' : Sb} {vs : Value} {t u : Tm} {z1 : Option Addr} {z3 : Nat} {xs' : List Value} (h : extT s t u = some s')
    (hO : OwnS lo (Ex X w w' (.slice z1 s'.length z3)) w' s' (.slice z1 s'.length z3) xs' ∧ Fr w w' vs.ownBlock none ∧ Mv w vs (.slice z1 s'.length z3)) : ExtPost lo X w s vs t u (.returned (.tuple #[.slice z1 s'.length z3, .bool true])) w' :=
  ⟨hO.2.1, z1, s'.length, z3, true, rfl, fun e => by (cases e), fun _ => ⟨s', xs', h, rfl, hO.1, hO.2.2⟩⟩

end Go.Proofs.Ytfnkjadfepoicac
