/- How often variables are told: the project's count and asOften. -/
import Derived.Test.YtfnkjadfepoicacG09
import Derived.Maps.OwnOps
import Derived.Maps.RangeWalk
import Derived.Test.YtfnkjadfepoicacG02
import Derived.Test.YtfnkjadfepoicacG18
namespace Go.Proofs.Ytfnkjadfepoicac
open Go.RowKit Go.Deep Go.ChangeShapes Go.WideShapes Go.Maps
attribute [local go_sem ↓] Go.wp_at_zero Go.wp_at_succ

theorem keyed3 : Keyed Try.prog 3 := int_keyed Try.underlying3
theorem zero3 (w : World) : (zeroValue 3).run Try.prog w = .ok (.int .i64 0) w := by kernel_rfl
abbrev MD := DataW Unit
/-- A block that is a map of numbers. -/
abbrev OM (w : World) (b n : Nat) (D : MD) : Prop := w.ownsMap Try.prog 3 (plainElem (H := Unit) Try.prog 3) b n D
def inR (v : Int) : Prop := -9223372036854775808 ≤ v ∧ v < 9223372036854775808
/-- The map tells g. -/
def Tel (D : MD) (g : Int → Int) : Prop := IsMap D ∧ ∀ v : Int, inR v → D.atKey (.int .i64 v) (.lit (.int .i64 0)) = .lit (.int .i64 (wrap64 (g v)))
theorem key_lit (v : Int) : WideAt.IsKeyLit (.int .i64 v) := trivial
theorem wrap64_of {n : Int} (h : inR n) : wrap64 n = n := by unfold inR at h; unfold wrap64; omega
theorem tel_put {D : MD} {g : Int → Int} {x c much : Int} (h : Tel D g) (hx : inR x) (hat : D.atKey (.int .i64 x) (.lit (.int .i64 0)) = .lit (.int .i64 c)) :
    Tel (D.put (.int .i64 x) (.lit (.int .i64 (wrap64 (c + much))))) (fun v => g v + much * (if x = v then 1 else 0 : Nat)) := by
  refine ⟨h.1.put _ _, fun v hv => ?_⟩
  by_cases e : x = v
  · subst e
    rw [atKey_put_same h.1 (key_lit _)]
    have h2 := h.2 x hx
    rw [hat] at h2
    have h3 : c = wrap64 (g x) := by injection h2 with h2; injection h2
    subst h3
    dsimp only
    rw [if_pos rfl]
    congr 2
    unfold wrap64
    omega
  · rw [atKey_put_other (by intro e'; injection e' with _ e'; exact e e'.symm), h.2 v hv]
    dsimp only
    rw [if_neg e]
    simp
theorem om_cell {w w' : World} {b n : Nat} {D : MD} (h : OM w b n D) (hg : w.grownBy w' (some b)) : ∀ a v, w.cell? a = some v → w'.cell? a = some v := by
  intro a v hc
  have hlt := World.block_lt_of_cell? _ _ hc
  by_cases e : a.block = b
  · obtain ⟨es, clock, hb, _⟩ := h
    simp [World.cell?, e, hb] at hc
  · rw [World.cell?_of_block (hg.block _ hlt (fun e' => e (by injection e')))]; exact hc
theorem grown_refl (w : World) (row : Option Nat) : w.grownBy w row := ⟨rfl, rfl, rfl, Nat.le_refl _, fun _ _ _ => rfl⟩

theorem szToR_take (k : Fo) (j : Nat) : szToR k j ≤ tszR k := by
  rw [← szToR_end k]
  unfold szToR
  rw [← Fo.len_list, List.take_length]
  have h := List.take_append_drop j k.list
  have : (k.list.map fun y => tszR y.2).sum = ((k.list.take j).map fun y => tszR y.2).sum + ((k.list.drop j).map fun y => tszR y.2).sum := by rw [← List.sum_append, ← List.map_append, h]
  omega

end Go.Proofs.Ytfnkjadfepoicac

/- Whether each variable of a term is in another one as often: the project's asOften. -/
namespace Go.Proofs.Ytfnkjadfepoicac
open Go.RowKit Go.Deep Go.ChangeShapes Go.WideShapes Go.Maps
attribute [local go_sem ↓] Go.wp_at_zero Go.wp_at_succ

abbrev RG (w : World) (b r n : Nat) (D : MD) (left : Lit → Bool) (cnt : Nat) : Prop := w.ranges Try.prog 3 (plainElem (H := Unit) Try.prog 3) b r n D left cnt
def dif (a b : Tm) (v : Int) : Int := (timT v a : Int) - (timT v b : Int)
theorem dif_small {a b : Tm} (ha : szT a ≤ 4000000000000) (hb : szT b ≤ 4000000000000) (v : Int) : wrap64 (dif a b v) = dif a b v := by
  have h1 := timT_le v a
  have h2 := timT_le v b
  refine wrap64_of ?_
  unfold inR dif
  omega
theorem may_of {a b : Tm} (hb : Gd b) (h : ∀ v, inR v → 0 ≤ dif a b v) : mayT a b = true := by
  refine (may_iff hb.ok).2 fun v => ?_
  by_cases e : 0 < timT v b
  · have h1 := hb.few v (tim_occ hb.ok e)
    have h2 := h v (by unfold inR; omega)
    unfold dif at h2
    omega
  · omega
theorem may_not {a b : Tm} (hb : Gd b) {v : Int} (h : dif a b v < 0) : mayT a b = false := by
  rw [← Bool.not_eq_true, may_iff hb.ok]
  intro hh
  have := hh v
  unfold dif at h
  omega
/-- What has come is not less than nothing. -/
def Seen (a b : Tm) (left : Lit → Bool) : Prop := ∀ v, inR v → left (.int .i64 v) = false → 0 ≤ dif a b v
theorem seen_start {a b : Tm} {D : MD} (ha : szT a ≤ 4000000000000) (hb : szT b ≤ 4000000000000) (h : Tel D (dif a b)) : Seen a b (Maps.has D) := fun v hv hl => by
  have h1 := h.2 v hv
  rw [atKey_of_not_has hl, dif_small ha hb] at h1
  injection h1 with h1
  injection h1 with _ h1
  omega
theorem seen_next {a b : Tm} {left : Lit → Bool} {x : Int} (h : Seen a b left) (hx : 0 ≤ dif a b x) : Seen a b (fun z => left z && !z.sameKey (.int .i64 x)) := fun v hv hl => by
  by_cases e : v = x
  · subst e; exact hx
  · dsimp only at hl
    rw [sameKey_ne (show (Lit.int .i64 v) ≠ .int .i64 x by intro e'; injection e' with _ e'; exact e e')] at hl
    simp only [Bool.not_false, Bool.and_true] at hl
    exact h v hv hl
theorem inR_wf {x : Int} (h : (Lit.int .i64 x).wf = true) : inR x := by
  simp [Lit.wf, IntKind.min, IntKind.max, IntKind.signed, IntKind.bits] at h
  unfold inR
  omega
theorem tel_is {D : MD} {a b : Tm} {x c : Int} (ha : szT a ≤ 4000000000000) (hb : szT b ≤ 4000000000000) (h : Tel D (dif a b)) (hx : inR x) (hat : ∀ zd, D.atKey (.int .i64 x) zd = .lit (.int .i64 c)) : c = dif a b x := by
  have h1 := h.2 x hx
  rw [hat, dif_small ha hb] at h1
  injection h1 with h1
  injection h1 with _ h1

end Go.Proofs.Ytfnkjadfepoicac

/- Which term is above: the project's above, aboveWithin and Compare. -/
namespace Go.Proofs.Ytfnkjadfepoicac
open Go.RowKit Go.Deep Go.ChangeShapes Go.WideShapes
attribute [local go_sem ↓] Go.wp_at_zero Go.wp_at_succ

theorem sizes_ok : ∀ {F : Fo}, Fo.ok F → Fo.sizes F = Fo.sizesR F
  | .nil, _ => rfl
  | .node _ _ x k r, h => by
    obtain ⟨_, _, h3, h4⟩ := ok_node.1 h
    have h1 := sizes_ok h3.2
    have h2 := sizes_ok h4
    rw [Fo.sizes, Fo.sizesR, h2, h1]
    by_cases hx : x.1 = true
    · have hk : k = .nil := h3.1 hx
      subst hk
      simp [Fo.sizesR]
    · rw [if_neg hx]
theorem tsz_ok {x : Bool × Int} {k : Fo} (h : okT (x, k)) : tsz x k = tszR k := by
  unfold tsz tszR
  by_cases hx : x.1 = true
  · have hk : k = .nil := h.1 hx
    subst hk
    simp [Fo.sizesR, hx]
  · rw [if_neg hx, sizes_ok h.2]

theorem run_min (p q : Nat) (w : World) : (Builtin.min_ #[3, 3] 3 #[.int .i64 (p : Nat), .int .i64 (q : Nat)]).run Try.prog w = .ok (.int .i64 (min p q : Nat)) w := by
  by_cases h : q < p
  · have e : min p q = q := by omega
    rw [e]
    simp [Builtin.min_, Builtin.min2, go_sem, h]
  · have e : min p q = p := by omega
    rw [e]
    simp [Builtin.min_, Builtin.min2, go_sem, h]

end Go.Proofs.Ytfnkjadfepoicac

/- Which literals tell of the same terms; which are large. -/
namespace Go.Proofs.Ytfnkjadfepoicac
open Go.RowKit Go.Deep Go.ChangeShapes Go.WideShapes

/-- A literal in a box of its own. -/
structure LBox (w : World) (b : Nat) (l : Lt) (a d : Value) : Prop where
  c0 : w.cell? ⟨b, 0, none⟩ = some (.bool l.1)
  c1 : w.cell? ⟨b, 1, none⟩ = some (.bool l.2.1.1.1)
  c2 : w.cell? ⟨b, 2, none⟩ = some (.int .i64 l.2.1.1.2)
  c3 : w.cell? ⟨b, 3, none⟩ = some a
  c4 : w.cell? ⟨b, 4, none⟩ = some (.bool l.2.2.1.1)
  c5 : w.cell? ⟨b, 5, none⟩ = some (.int .i64 l.2.2.1.2)
  c6 : w.cell? ⟨b, 6, none⟩ = some d
  sa : SIn w l.2.1.2 a
  sd : SIn w l.2.2.2 d
theorem LBox.below {w w' : World} (hb : Below w.heap.size w w') {b : Nat} {l : Lt} {a d : Value} (h : LBox w b l a d) : LBox w' b l a d :=
  ⟨grow_cell hb _ _ h.c0, grow_cell hb _ _ h.c1, grow_cell hb _ _ h.c2, grow_cell hb _ _ h.c3, grow_cell hb _ _ h.c4, grow_cell hb _ _ h.c5, grow_cell hb _ _ h.c6, h.sa.below hb, h.sd.below hb⟩

theorem find_first {pr : Lt → Bool} {f : Lt} : ∀ {s : Cl} {j : Nat}, (∀ q p, q < j → s[q]? = some p → pr p = false) → s[j]? = some f → pr f = true → s.find? pr = some f
  | [], _, _, h, _ => by simp at h
  | p :: s, 0, _, h, hp => by
    simp only [List.getElem?_cons_zero, Option.some.injEq] at h
    subst h
    simp [List.find?, hp]
  | p :: s, j + 1, hq, h, hp => by
    have h0 := hq 0 p (by omega) (by simp)
    rw [List.find?_cons, h0]
    exact find_first (j := j) (fun q r hqr hr => hq (q + 1) r (by omega) (by simpa using hr)) (by simpa using h) hp
theorem find_all {pr : Lt → Bool} {s : Cl} (h : ∀ q p, q < s.length → s[q]? = some p → pr p = false) : s.find? pr = none := by
  rw [List.find?_eq_none]
  intro p hp
  obtain ⟨i, hi, e⟩ := List.mem_iff_getElem.1 hp
  simp [h i p hi (by rw [List.getElem?_eq_getElem hi, e])]
/-- Which literal is the first one of that kind. -/
def FoundL (s : Cl) (pr : Lt → Bool) (i : Int) : Prop := (i = -1 ∧ s.find? pr = none) ∨ ∃ (j : Nat) (f : Lt), i = j ∧ s[j]? = some f ∧ s.find? pr = some f

end Go.Proofs.Ytfnkjadfepoicac
