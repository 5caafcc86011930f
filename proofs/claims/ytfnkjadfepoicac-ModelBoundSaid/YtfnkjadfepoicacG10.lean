/- Clauses told alone: literals, the same, variables, what is wrong, as they are kept. -/
import Derived.Test.YtfnkjadfepoicacG02
import Derived.Test.YtfnkjadfepoicacG09
import Derived.Test.YtfnkjadfepoicacG07
import Derived.Lib.Split
import Derived.Lib.Join
namespace Go.Proofs.Ytfnkjadfepoicac
open Go.RowKit Go.Deep Go.ChangeShapes Go.WideShapes

abbrev Lt := Bool × Tm × Tm
abbrev Cl := List Lt

def sameL (a b : Lt) : Bool := a.1 == b.1 && sameT a.2.1.1 a.2.1.2 b.2.1.1 b.2.1.2 && sameT a.2.2.1 a.2.2.2 b.2.2.1 b.2.2.2
def sameC : Cl → Cl → Bool
  | [], [] => true
  | a :: c, b :: d => sameL a b && sameC c d
  | _, _ => false
theorem sameC_len : ∀ {c d : Cl}, c.length ≠ d.length → sameC c d = false
  | [], [], h => absurd rfl h
  | [], _ :: _, _ => rfl
  | _ :: _, [], _ => rfl
  | a :: c, b :: d, h => by rw [sameC, sameC_len (c := c) (d := d) (by simpa using h), Bool.and_false]
theorem sameC_no : ∀ {c d : Cl} {j : Nat} {a b : Lt}, c[j]? = some a → d[j]? = some b → sameL a b = false → sameC c d = false
  | [], _, _, _, _, h, _, _ => by simp at h
  | _ :: _, [], _, _, _, _, h, _ => by simp at h
  | x :: c, y :: d, 0, a, b, ha, hb, h => by
    simp only [List.getElem?_cons_zero, Option.some.injEq] at ha hb
    subst ha; subst hb
    rw [sameC, h, Bool.false_and]
  | x :: c, y :: d, j + 1, a, b, ha, hb, h => by
    rw [sameC, sameC_no (c := c) (d := d) (j := j) (by simpa using ha) (by simpa using hb) h, Bool.and_false]
theorem sameC_yes : ∀ {c d : Cl}, c.length = d.length → (∀ i, i < c.length → ∀ a b, c[i]? = some a → d[i]? = some b → sameL a b = true) → sameC c d = true
  | [], [], _, _ => rfl
  | [], _ :: _, h, _ => by simp at h
  | _ :: _, [], h, _ => by simp at h
  | x :: c, y :: d, hl, h => by
    rw [sameC, h 0 (by simp) x y (by simp) (by simp), sameC_yes (c := c) (d := d) (by simpa using hl) (fun i hi a b ha hb => h (i + 1) (by simpa using hi) a b (by simpa using ha) (by simpa using hb))]
    rfl

def varsL (l : Lt) (v : List Int) : List Int := varsT l.2.2.1 l.2.2.2 (varsT l.2.1.1 l.2.1.2 v)
def varsC (c : Cl) (v : List Int) : List Int := c.foldl (fun v l => varsL l v) v
theorem varsC_take {c : Cl} {j : Nat} {l : Lt} {v : List Int} (h : c[j]? = some l) : varsC (c.take (j + 1)) v = varsL l (varsC (c.take j) v) := by
  rw [List.take_add_one, h]
  simp [varsC, List.foldl_append]

def wrongL (s : List Int) (l : Lt) : Int := if wrongF s l.2.1.1 l.2.1.2 ≠ 0 then wrongF s l.2.1.1 l.2.1.2 else wrongF s l.2.2.1 l.2.2.2
def wrongLs (s : List Int) : Cl → Int
  | [] => 0
  | l :: c => if wrongL s l ≠ 0 then wrongL s l else wrongLs s c
def wrongC (s : List Int) (c : Cl) : Int := if 4 < c.length then 5 else wrongLs s c
theorem wrongLs_at {s : List Int} : ∀ {c : Cl} {j : Nat} {l : Lt}, (∀ i, i < j → ∀ a, c[i]? = some a → wrongL s a = 0) → c[j]? = some l → wrongL s l ≠ 0 → wrongLs s c = wrongL s l
  | [], _, _, _, h, _ => by simp at h
  | x :: c, 0, l, _, h, hn => by
    simp only [List.getElem?_cons_zero, Option.some.injEq] at h
    subst h
    rw [wrongLs, if_pos hn]
  | x :: c, j + 1, l, h0, h, hn => by
    rw [wrongLs, if_neg (by simp [h0 0 (by omega) x (by simp)])]
    exact wrongLs_at (j := j) (fun i hi a ha => h0 (i + 1) (by omega) a (by simpa using ha)) (by simpa using h) hn
theorem wrongLs_iff {s : List Int} : ∀ {c : Cl}, wrongLs s c = 0 ↔ ∀ l ∈ c, wrongL s l = 0
  | [] => by simp [wrongLs]
  | x :: c => by
    rw [wrongLs]
    by_cases h : wrongL s x = 0
    · rw [if_neg (by simp [h]), wrongLs_iff (c := c)]
      simp [h]
    · rw [if_pos h]
      simp [h]
theorem wrongL_iff {s : List Int} {l : Lt} : wrongL s l = 0 ↔ wrongF s l.2.1.1 l.2.1.2 = 0 ∧ wrongF s l.2.2.1 l.2.2.2 = 0 := by
  unfold wrongL
  by_cases h : wrongF s l.2.1.1 l.2.1.2 = 0
  · rw [if_neg (by simp [h])]; simp [h]
  · rw [if_pos h]; simp [h]
theorem wrongC_iff {s : List Int} {c : Cl} : wrongC s c = 0 ↔ c.length ≤ 4 ∧ ∀ l ∈ c, wrongF s l.2.1.1 l.2.1.2 = 0 ∧ wrongF s l.2.2.1 l.2.2.2 = 0 := by
  unfold wrongC
  by_cases h : 4 < c.length
  · rw [if_pos h]; constructor
    · intro e; simp at e
    · intro e; omega
  · rw [if_neg h, wrongLs_iff]
    constructor
    · exact fun e => ⟨by omega, fun l hl => wrongL_iff.1 (e l hl)⟩
    · exact fun e l hl => wrongL_iff.2 (e.2 l hl)

def mapL (f : Tm → Tm) (l : Lt) : Lt := (l.1, f l.2.1, f l.2.2)
theorem map_take {f : Lt → Lt} {c : Cl} {j : Nat} {l : Lt} (h : c[j]? = some l) : (c.take (j + 1)).map f = (c.take j).map f ++ [f l] := by
  rw [List.take_add_one, h]; simp

/-- The term that is above stands on the left; what can't hold is gone. -/
def flipL (l : Lt) : Lt := if abvT l.2.2 l.2.1 then (l.1, l.2.2, l.2.1) else l
def tstep (o : Option Cl) (l : Lt) : Option Cl := o.bind fun out => if sameT l.2.1.1 l.2.1.2 l.2.2.1 l.2.2.2 then (if l.1 then some out else none) else some (out ++ [flipL l])
def turnC (c : Cl) : Option Cl := c.foldl tstep (some [])
def likeL (a b : Lt) : Bool := (sameT a.2.1.1 a.2.1.2 b.2.1.1 b.2.1.2 && sameT a.2.2.1 a.2.2.2 b.2.2.1 b.2.2.2) || (sameT a.2.1.1 a.2.1.2 b.2.2.1 b.2.2.2 && sameT a.2.2.1 a.2.2.2 b.2.1.1 b.2.1.2)
/-- Of those that tell the same the first one stays. -/
def dstep (o : Option Cl) (l : Lt) : Option Cl := o.bind fun out => match out.find? (fun f => likeL f l) with
  | none => some (out ++ [l])
  | some f => if f.1 = l.1 then some out else none
def distC (c : Cl) : Option Cl := c.foldl dstep (some [])
theorem fold_none {f : Option Cl → Lt → Option Cl} (hf : ∀ l, f none l = none) : ∀ c : Cl, c.foldl f none = none
  | [] => rfl
  | l :: c => by rw [List.foldl_cons, hf, fold_none hf c]
theorem fold_take {f : Option Cl → Lt → Option Cl} {c : Cl} {j : Nat} {l : Lt} {o : Option Cl} (h : c[j]? = some l) : (c.take (j + 1)).foldl f o = f ((c.take j).foldl f o) l := by
  rw [List.take_add_one, h]
  simp [List.foldl_append]
theorem fold_stop {f : Option Cl → Lt → Option Cl} (hf : ∀ l, f none l = none) {c : Cl} {j : Nat} {o : Option Cl} (h : (c.take j).foldl f o = none) : c.foldl f o = none := by
  rw [← List.take_append_drop j c, List.foldl_append, h, fold_none hf]
theorem turn_take {c : Cl} {j : Nat} {l : Lt} (h : c[j]? = some l) : turnC (c.take (j + 1)) = tstep (turnC (c.take j)) l := fold_take h
theorem turn_stop {c : Cl} {j : Nat} (h : turnC (c.take j) = none) : turnC c = none := fold_stop (fun _ => rfl) h
theorem dist_take {c : Cl} {j : Nat} {l : Lt} (h : c[j]? = some l) : distC (c.take (j + 1)) = dstep (distC (c.take j)) l := fold_take h
theorem dist_stop {c : Cl} {j : Nat} (h : distC (c.take j) = none) : distC c = none := fold_stop (fun _ => rfl) h

/-- New numbers, in turn. -/
def numS (vs : List Int) : Sb := vs.mapIdx fun i v => (v, vr i)
def bigL (l : Lt) : Bool := decide (12 < tszR l.2.1.2) || decide (12 < tszR l.2.2.2)
def reN (d : Cl) : Cl := d.map (mapL (subT (bnd (numS (varsC d [])))))
def keepC (d e : Cl) : Int × Cl := if 4 < e.length ∨ 5 < (varsC d []).length ∨ e.any bigL = true then (4, []) else (0, e)
def normC (c : Cl) : Int × Cl := match turnC c with
  | none => (6, [])
  | some d => match distC (reN d) with
    | none => (6, [])
    | some e => keepC d e

/-- Literals of terms that are all right to reckon with. -/
structure GL (l : Lt) : Prop where
  gl : Gd l.2.1
  gr : Gd l.2.2
  fl : ∀ m, occT m l.2.1 → m ≤ 4
  fr : ∀ m, occT m l.2.2 → m ≤ 4
  sl : tszR l.2.1.2 ≤ 12
  sr : tszR l.2.2.2 ≤ 12
def GC (c : Cl) : Prop := c.length ≤ 4 ∧ ∀ l ∈ c, GL l

theorem GL.flip {l : Lt} (h : GL l) : GL (flipL l) := by
  unfold flipL
  split
  · exact ⟨h.gr, h.gl, h.fr, h.fl, h.sr, h.sl⟩
  · exact h
theorem tstep_mem {o : Option Cl} {l : Lt} {d : Cl} {p : Lt → Prop} (h : tstep o l = some d) (h0 : ∀ e, o = some e → ∀ x ∈ e, p x) (h1 : p (flipL l)) : ∀ x ∈ d, p x := by
  cases o with
  | none => simp [tstep] at h
  | some e =>
    simp only [tstep, Option.bind_some] at h
    split at h
    · split at h
      · obtain rfl := Option.some.inj h; exact h0 _ rfl
      · cases h
    · cases h
      intro x hx
      rcases List.mem_append.1 hx with hx | hx
      · exact h0 e rfl x hx
      · simp at hx; rw [hx]; exact h1
theorem turn_mem {p : Lt → Prop} : ∀ {c : Cl} {o : Option Cl} {d : Cl}, c.foldl tstep o = some d → (∀ e, o = some e → ∀ x ∈ e, p x) → (∀ l ∈ c, p (flipL l)) → ∀ x ∈ d, p x
  | [], o, d, h, h0, _ => h0 d h
  | l :: c, o, d, h, h0, h1 => turn_mem (c := c) (o := tstep o l) h (fun e he => tstep_mem he h0 (h1 l (by simp))) (fun x hx => h1 x (by simp [hx]))
theorem tstep_len {o : Option Cl} {l : Lt} {d : Cl} {n : Nat} (h : tstep o l = some d) (h0 : ∀ e, o = some e → e.length ≤ n) : d.length ≤ n + 1 := by
  cases o with
  | none => simp [tstep] at h
  | some e =>
    have := h0 e rfl
    simp only [tstep, Option.bind_some] at h
    split at h
    · split at h
      · cases h; omega
      · cases h
    · cases h; simp; omega
theorem turn_len : ∀ {c : Cl} {o : Option Cl} {d : Cl} {n : Nat}, c.foldl tstep o = some d → (∀ e, o = some e → e.length ≤ n) → d.length ≤ n + c.length
  | [], o, d, n, h, h0 => by have := h0 d h; simpa using this
  | l :: c, o, d, n, h, h0 => by
    have := turn_len (c := c) (o := tstep o l) (n := n + 1) h (fun e he => tstep_len he h0)
    simp; omega
theorem turn_gc {c d : Cl} (h : turnC c = some d) (hc : GC c) : GC d := by
  refine ⟨?_, turn_mem (p := GL) h (fun e he => by cases he; simp) (fun l hl => (hc.2 l hl).flip)⟩
  have := turn_len (n := 0) h (fun e he => by cases he; simp)
  have := hc.1
  omega
theorem dstep_mem {o : Option Cl} {l : Lt} {d : Cl} {p : Lt → Prop} (h : dstep o l = some d) (h0 : ∀ e, o = some e → ∀ x ∈ e, p x) (h1 : p l) : ∀ x ∈ d, p x := by
  cases o with
  | none => simp [dstep] at h
  | some e =>
    simp only [dstep, Option.bind_some] at h
    split at h
    · cases h
      intro x hx
      rcases List.mem_append.1 hx with hx | hx
      · exact h0 e rfl x hx
      · simp at hx; rw [hx]; exact h1
    · split at h
      · obtain rfl := Option.some.inj h; exact h0 _ rfl
      · cases h
theorem dist_mem {p : Lt → Prop} : ∀ {c : Cl} {o : Option Cl} {d : Cl}, c.foldl dstep o = some d → (∀ e, o = some e → ∀ x ∈ e, p x) → (∀ l ∈ c, p l) → ∀ x ∈ d, p x
  | [], o, d, h, h0, _ => h0 d h
  | l :: c, o, d, h, h0, h1 => dist_mem (c := c) (o := dstep o l) h (fun e he => dstep_mem he h0 (h1 l (by simp))) (fun x hx => h1 x (by simp [hx]))
theorem dstep_len {o : Option Cl} {l : Lt} {d : Cl} {n : Nat} (h : dstep o l = some d) (h0 : ∀ e, o = some e → e.length ≤ n) : d.length ≤ n + 1 := by
  cases o with
  | none => simp [dstep] at h
  | some e =>
    have := h0 e rfl
    simp only [dstep, Option.bind_some] at h
    split at h
    · cases h; simp; omega
    · split at h
      · cases h; omega
      · cases h
theorem dist_len : ∀ {c : Cl} {o : Option Cl} {d : Cl} {n : Nat}, c.foldl dstep o = some d → (∀ e, o = some e → e.length ≤ n) → d.length ≤ n + c.length
  | [], o, d, n, h, h0 => by have := h0 d h; simpa using this
  | l :: c, o, d, n, h, h0 => by
    have := dist_len (c := c) (o := dstep o l) (n := n + 1) h (fun e he => dstep_len he h0)
    simp; omega

/-- What is like what is like. -/
theorem like_iff {a b : Lt} (ha : okT a.2.1 ∧ okT a.2.2) (hb : okT b.2.1 ∧ okT b.2.2) : likeL a b = true ↔ (a.2.1 = b.2.1 ∧ a.2.2 = b.2.2) ∨ (a.2.1 = b.2.2 ∧ a.2.2 = b.2.1) := by
  unfold likeL
  rw [Bool.or_eq_true, Bool.and_eq_true, Bool.and_eq_true, sameT_iff ha.1 hb.1, sameT_iff ha.2 hb.2, sameT_iff ha.1 hb.2, sameT_iff ha.2 hb.1]
abbrev okL (l : Lt) : Prop := okT l.2.1 ∧ okT l.2.2
theorem like_comm {a b : Lt} (ha : okL a) (hb : okL b) : likeL a b = likeL b a := by
  rw [Bool.eq_iff_iff, like_iff ha hb, like_iff hb ha]
  constructor <;> (rintro (⟨h1, h2⟩ | ⟨h1, h2⟩) <;> simp [h1, h2])
theorem like_trans {a b c : Lt} (ha : okL a) (hb : okL b) (hc : okL c) (h1 : likeL a b = true) (h2 : likeL b c = true) : likeL a c = true := by
  rw [like_iff ha hb] at h1
  rw [like_iff hb hc] at h2
  rw [like_iff ha hc]
  rcases h1 with ⟨e1, e2⟩ | ⟨e1, e2⟩ <;> rcases h2 with ⟨e3, e4⟩ | ⟨e3, e4⟩ <;> simp [e1, e2, e3, e4]

theorem pw_eq {f g : Lt} : ∀ {out : Cl}, (∀ x ∈ out, okL x) → out.Pairwise (fun a b => likeL a b = false) → f ∈ out → g ∈ out → likeL f g = true → f = g
  | [], _, _, h, _, _ => by cases h
  | x :: c, ho, hp, hf, hg, hl => by
    rw [List.pairwise_cons] at hp
    rcases List.mem_cons.1 hf with e | hf'
    · rcases List.mem_cons.1 hg with e' | hg'
      · rw [e, e']
      · rw [e, hp.1 g hg'] at hl; cases hl
    · rcases List.mem_cons.1 hg with e' | hg'
      · rw [e', like_comm (ho f hf) (ho x (by simp)), hp.1 f hf'] at hl; cases hl
      · exact pw_eq (fun y hy => ho y (by simp [hy])) hp.2 hf' hg' hl

/-- What is kept of P tells of P all there is to tell. -/
def Kept (P out : Cl) : Prop := (∀ x ∈ out, x ∈ P) ∧ (∀ y ∈ P, ∃ f ∈ out, likeL f y = true ∧ f.1 = y.1) ∧ out.Pairwise fun a b => likeL a b = false
theorem kept_step {P out : Cl} {l : Lt} {o' : Option Cl} (hk : Kept P out) (hP : ∀ x ∈ P, okL x) (hl : okL l) (h : dstep (some out) l = o') :
    (∀ d, o' = some d → Kept (P ++ [l]) d) ∧ (o' = none ↔ ∃ y ∈ P, likeL l y = true ∧ y.1 ≠ l.1) ∧ (o' = some out ↔ (∃ y ∈ P, likeL l y = true) ∧ ¬ ∃ y ∈ P, likeL l y = true ∧ y.1 ≠ l.1) ∧ ((∀ y ∈ P, likeL l y = false) → o' = some (out ++ [l])) := by
  obtain ⟨k1, k2, k3⟩ := hk
  subst h
  simp only [dstep, Option.bind_some]
  cases hf : out.find? (fun f => likeL f l) with
  | none =>
    have hno : ∀ f ∈ out, likeL f l = false := fun f hf' => by
      have := List.find?_eq_none.1 hf f hf'
      simpa using this
    have hnoP : ∀ y ∈ P, likeL l y = false := fun y hy => by
      cases hh : likeL l y with
      | false => rfl
      | true =>
        obtain ⟨f, hf1, hf2, _⟩ := k2 y hy
        have := like_trans (hP f (k1 f hf1)) (hP y hy) hl hf2 (by rw [like_comm (hP y hy) hl]; exact hh)
        rw [hno f hf1] at this; cases this
    dsimp only
    refine ⟨fun d hd => ?_, ⟨fun h => (by cases h), fun ⟨y, hy, h1, _⟩ => (by rw [hnoP y hy] at h1; cases h1)⟩, ⟨fun h => (by simp at h), fun ⟨⟨y, hy, h1⟩, _⟩ => (by rw [hnoP y hy] at h1; cases h1)⟩, fun _ => rfl⟩
    cases hd
    refine ⟨fun x hx => ?_, fun y hy => ?_, ?_⟩
    · rcases List.mem_append.1 hx with hx | hx
      · exact List.mem_append_left _ (k1 x hx)
      · exact List.mem_append_right _ hx
    · rcases List.mem_append.1 hy with hy | hy
      · obtain ⟨f, h1, h2⟩ := k2 y hy
        exact ⟨f, List.mem_append_left _ h1, h2⟩
      · simp at hy; subst hy
        exact ⟨y, by simp, (like_iff hl hl).2 (.inl ⟨rfl, rfl⟩), rfl⟩
    · rw [List.pairwise_append]
      refine ⟨k3, by simp, fun a ha b hb => ?_⟩
      simp at hb; subst hb
      exact hno a ha
  | some f =>
    have hfm : f ∈ out := List.mem_of_find?_eq_some hf
    have hfl : likeL f l = true := by have := List.find?_some hf; simpa using this
    have hall : ∀ y ∈ P, likeL l y = true → y.1 = f.1 := fun y hy hly => by
      obtain ⟨g, g1, g2, g3⟩ := k2 y hy
      have h1 : likeL f g = true := like_trans (hP f (k1 f hfm)) hl (hP g (k1 g g1)) hfl (by
        rw [like_comm hl (hP g (k1 g g1))]
        exact like_trans (hP g (k1 g g1)) (hP y hy) hl g2 (by rw [like_comm (hP y hy) hl]; exact hly))
      have : f = g := pw_eq (fun x hx => hP x (k1 x hx)) k3 hfm g1 h1
      rw [this, g3]
    have hfl' : likeL l f = true := by rw [like_comm hl (hP f (k1 f hfm))]; exact hfl
    dsimp only
    by_cases he : f.1 = l.1
    · rw [if_pos he]
      have hn : ¬ ∃ y ∈ P, likeL l y = true ∧ y.1 ≠ l.1 := fun ⟨y, hy, h1, h2⟩ => h2 ((hall y hy h1).trans he)
      refine ⟨fun d hd => ?_, ⟨fun h => (by cases h), fun h => absurd h hn⟩, ⟨fun _ => ⟨⟨f, k1 f hfm, hfl'⟩, hn⟩, fun _ => rfl⟩, fun h => (by rw [h f (k1 f hfm)] at hfl'; cases hfl')⟩
      cases hd
      refine ⟨fun x hx => List.mem_append_left _ (k1 x hx), fun y hy => ?_, k3⟩
      rcases List.mem_append.1 hy with hy | hy
      · exact k2 y hy
      · simp at hy; subst hy
        exact ⟨f, hfm, hfl, he⟩
    · rw [if_neg he]
      refine ⟨fun d hd => (by cases hd), ⟨fun _ => ⟨f, k1 f hfm, hfl', he⟩, fun _ => rfl⟩, ⟨fun h => (by cases h), fun h => absurd ⟨f, k1 f hfm, hfl', he⟩ h.2⟩, fun h => (by rw [h f (k1 f hfm)] at hfl'; cases hfl')⟩
theorem kept_nil : Kept [] [] := ⟨fun _ h => h, fun _ h => (by cases h), List.Pairwise.nil⟩
theorem dist_kept {P out : Cl} (hP : ∀ x ∈ P, okL x) (h : distC P = some out) : Kept P out := by
  have key : ∀ (n : Nat) (out : Cl), n ≤ P.length → distC (P.take n) = some out → Kept (P.take n) out := by
    intro n
    induction n with
    | zero => intro out _ h; simp [distC] at h; subst h; exact kept_nil
    | succ n ih =>
      intro out hn h
      have hl : P[n]? = some P[n] := List.getElem?_eq_getElem (by omega)
      rw [dist_take hl] at h
      cases hd : distC (P.take n) with
      | none => rw [hd] at h; simp [dstep] at h
      | some e =>
        rw [hd] at h
        have := (kept_step (ih e (by omega) hd) (fun x hx => hP x (List.mem_of_mem_take hx)) (hP _ (List.getElem_mem _)) h).1 out rfl
        rwa [List.take_add_one, hl]
  have := key P.length out (Nat.le_refl _) (by rw [List.take_length]; exact h)
  rwa [List.take_length] at this

end Go.Proofs.Ytfnkjadfepoicac

/- Written, and read again: the law's walk. -/
namespace Go.Proofs.Ytfnkjadfepoicac
open Go.RowKit Go.Deep Go.ChangeShapes Go.WideShapes
attribute [local go_sem ↓] Go.wp_at_zero Go.wp_at_succ

theorem norm_walk (s : List Int) : ∀ (F : Fo) (d : Int), walkF s (Fo.norm F) d = walkF s F d
  | .nil, _ => rfl
  | .node _ _ x k r, d => by
    simp only [Fo.norm, walkF, norm_len k, norm_walk s k (d + 1), norm_walk s r d]
theorem norm_sizesR : ∀ F : Fo, Fo.sizesR (Fo.norm F) = Fo.sizesR F
  | .nil => rfl
  | .node _ _ x k r => by simp [Fo.norm, Fo.sizesR, norm_sizesR k, norm_sizesR r]
theorem norm_wrong (s : List Int) (x : Bool × Int) (k : Fo) : wrongF s x (Fo.norm k) = wrongF s x k := by
  have e1 : walkT s x (Fo.norm k) 1 = walkT s x k 1 := by simp only [walkT, norm_len, norm_walk]
  have e2 : tszR (Fo.norm k) = tszR k := by rw [tszR, norm_sizesR, tszR]
  rw [wrongF, e1, e2, wrongF]

theorem parse_text {s : List Int} (hs : wsig s = 0) {x : Bool × Int} {k : Fo} (h : wrongF s x k = 0) : parseT s (textT x k) = (0, (x, Fo.norm k)) := by
  obtain ⟨hok, h6, _⟩ := wsig_ok hs
  obtain ⟨h1, _, _, _, hw⟩ := right_of hok h
  have hl := textT_len x k
  have hr := read_text h6 x k 1 hw ((textT x k).length + 1) [] (by simp)
  rw [List.append_nil] at hr
  have hwn := (norm_wrong s x k).trans h
  rw [parseT, if_neg (by simpa using hs), if_neg (by omega), hr]
  simp [hwn]
theorem parse_back {s : List Int} {l : List UInt8} (h : (parseT s l).1 = 0) : textT (parseT s l).2.1 (parseT s l).2.2 = l ∧ wrongF s (parseT s l).2.1 (parseT s l).2.2 = 0 ∧ s.all okNum = true ∧ s.length ≤ 6 := by
  unfold parseT at h ⊢
  by_cases h0 : wsig s = 0
  · rw [if_neg (by simpa using h0)] at h ⊢
    by_cases h1 : 48 < l.length
    · rw [if_pos h1] at h; simp at h
    · rw [if_neg h1] at h ⊢
      by_cases h2 : (readT s (l.length + 1) l).1 = 0
      · rw [if_neg (by simpa using h2)] at h ⊢
        by_cases h3 : (readT s (l.length + 1) l).2.2 = []
        · rw [if_neg (by simpa using h3)] at h ⊢
          by_cases h4 : wrongF s (readT s (l.length + 1) l).2.1.1 (readT s (l.length + 1) l).2.1.2 = 0
          · rw [if_neg (by simpa using h4)]
            have hb := read_back _ _ h2
            rw [h3, List.append_nil] at hb
            exact ⟨hb.symm, h4, (wsig_ok h0).1, (wsig_ok h0).2.1⟩
          · rw [if_pos h4] at h; exact absurd h h4
        · rw [if_pos h3] at h; simp at h
      · rw [if_pos h2] at h; exact absurd h h2
  · rw [if_pos h0] at h; exact absurd h h0

end Go.Proofs.Ytfnkjadfepoicac

/- Texts of clauses, told alone: written, and read again. -/
namespace Go.Proofs.Ytfnkjadfepoicac
open Go.RowKit Go.Deep Go.ChangeShapes Go.WideShapes

abbrev sepL : List UInt8 := [32, 124, 32]
def textL (l : Lt) : List UInt8 := textT l.2.1.1 l.2.1.2 ++ ((if l.1 then [33, 61] else [61]) ++ textT l.2.2.1 l.2.2.2)
def textC (c : Cl) : List UInt8 := if c.length = 0 then [91, 93] else Lib.join (c.map textL) sepL
abbrev zeroL : Lt := (false, zeroT, zeroT)
def litP (s : List Int) (p : List UInt8) : Int × Lt :=
  if (Lib.cut p [61]).2.2 = false then (2, zeroL) else
  if (parseT s (Lib.trimSuffix (Lib.cut p [61]).1 [33])).1 ≠ 0 then ((parseT s (Lib.trimSuffix (Lib.cut p [61]).1 [33])).1, zeroL) else
  if (parseT s (Lib.cut p [61]).2.1).1 ≠ 0 then ((parseT s (Lib.cut p [61]).2.1).1, zeroL) else
  (0, (Lib.hasSuffix (Lib.cut p [61]).1 [33], (parseT s (Lib.trimSuffix (Lib.cut p [61]).1 [33])).2, (parseT s (Lib.cut p [61]).2.1).2))
def litsP (s : List Int) : List (List UInt8) → Int
  | [] => 0
  | p :: ps => if (litP s p).1 ≠ 0 then (litP s p).1 else litsP s ps
/-- All parts. -/
def full (l : List UInt8) : List (List UInt8) := Lib.splitK sepL 0 l.length l
def partsC (s : List Int) (ps : List (List UInt8)) : Int × Cl := if 4 < ps.length then (5, []) else if litsP s ps ≠ 0 then (litsP s ps, []) else (0, ps.map fun p => (litP s p).2)
def parseC (s : List Int) (l : List UInt8) : Int × Cl :=
  if wsig s ≠ 0 then (wsig s, []) else if l = [91, 93] then (0, []) else partsC s (full l)

theorem litsP_at {s : List Int} : ∀ {c : List (List UInt8)} {j : Nat} {p : List UInt8}, (∀ i, i < j → ∀ a, c[i]? = some a → (litP s a).1 = 0) → c[j]? = some p → (litP s p).1 ≠ 0 → litsP s c = (litP s p).1
  | [], _, _, _, h, _ => by simp at h
  | x :: c, 0, l, _, h, hn => by
    simp only [List.getElem?_cons_zero, Option.some.injEq] at h
    subst h
    rw [litsP, if_pos hn]
  | x :: c, j + 1, l, h0, h, hn => by
    rw [litsP, if_neg (by simp [h0 0 (by omega) x (by simp)])]
    exact litsP_at (j := j) (fun i hi a ha => h0 (i + 1) (by omega) a (by simpa using ha)) (by simpa using h) hn
theorem litsP_iff {s : List Int} : ∀ {c : List (List UInt8)}, litsP s c = 0 ↔ ∀ p ∈ c, (litP s p).1 = 0
  | [] => by simp [litsP]
  | x :: c => by
    rw [litsP]
    by_cases h : (litP s x).1 = 0
    · rw [if_neg (by simp [h]), litsP_iff (c := c)]
      simp [h]
    · rw [if_pos h]
      simp [h]

theorem splitK_miss {k : Nat} {l : List UInt8} (h : Lib.index l sepL = -1) : Lib.splitK sepL 0 k l = [l] := by
  cases k with
  | zero => rfl
  | succ k => rw [Lib.splitK, if_pos (by rw [h]; rfl)]
theorem splitK_hit {k i : Nat} {l : List UInt8} (h : Lib.index l sepL = i) : Lib.splitK sepL 0 (k + 1) l = l.take i :: Lib.splitK sepL 0 k (l.drop (i + 3)) := by
  have hm : ¬ (Lib.index l sepL == -1) = true := fun e => by have := beq_iff_eq.1 e; omega
  have e : (Lib.index l sepL).toNat = i := by omega
  rw [Lib.splitK, if_neg hm, e]
  rfl
theorem index_two (l : List UInt8) : Lib.index l sepL = -1 ∨ ∃ i : Nat, Lib.index l sepL = i ∧ i + 3 ≤ l.length := by
  have h1 := Lib.index_ge l sepL
  rcases Classical.em (0 ≤ Lib.index l sepL) with h | h
  · refine .inr ⟨(Lib.index l sepL).toNat, by omega, ?_⟩
    have := Lib.index_room l sepL h
    simp at this
    omega
  · exact .inl (by omega)
theorem splitK_stable : ∀ (n : Nat) (l : List UInt8), l.length ≤ n → Lib.splitK sepL 0 n l = full l := by
  intro n
  induction n with
  | zero => intro l h; have : l.length = 0 := by omega
            rw [full, this]
  | succ n ih =>
    intro l h
    rcases index_two l with hi | ⟨i, hi, hr⟩
    · rw [full, splitK_miss hi, splitK_miss hi]
    · obtain ⟨m, hm⟩ : ∃ m, l.length = m + 1 := ⟨l.length - 1, by omega⟩
      rw [full, hm, splitK_hit hi, splitK_hit hi]
      rw [ih _ (by simp; omega)]
      rcases Nat.lt_or_ge m n with hmn | hmn
      · have : Lib.splitK sepL 0 n (l.drop (i + 3)) = full (l.drop (i + 3)) := ih _ (by simp; omega)
        congr 1
        rw [← this]
        clear this
        have key : ∀ (a b : Nat) (x : List UInt8), x.length ≤ a → a ≤ b → Lib.splitK sepL 0 b x = Lib.splitK sepL 0 a x := by
          intro a
          induction a with
          | zero => intro b x hx _
                    have : x = [] := List.length_eq_zero_iff.1 (by omega)
                    subst this
                    rw [splitK_miss (by rfl), splitK_miss (by rfl)]
          | succ a iha =>
            intro b x hx hb
            obtain ⟨b', rfl⟩ : ∃ b', b = b' + 1 := ⟨b - 1, by omega⟩
            rcases index_two x with hj | ⟨j, hj, hr'⟩
            · rw [splitK_miss hj, splitK_miss hj]
            · rw [splitK_hit hj, splitK_hit hj, iha b' _ (by simp; omega) (by omega)]
        exact key m n _ (by simp; omega) (by omega)
      · have : m = n := by omega
        rw [this, ih _ (by simp; omega)]
theorem full_miss {l : List UInt8} (h : Lib.index l sepL = -1) : full l = [l] := splitK_miss h
theorem full_hit {i : Nat} {l : List UInt8} (h : Lib.index l sepL = i) (hr : i + 3 ≤ l.length) : full l = l.take i :: full (l.drop (i + 3)) := by
  obtain ⟨m, hm⟩ : ∃ m, l.length = m + 1 := ⟨l.length - 1, by omega⟩
  rw [full, hm, splitK_hit h, splitK_stable m _ (by simp; omega)]
theorem full_pos (l : List UInt8) : 0 < (full l).length := by
  rcases index_two l with hi | ⟨i, hi, hr⟩
  · rw [full_miss hi]; simp
  · rw [full_hit hi hr]; simp
theorem splitK_few : ∀ (k : Nat) (l : List UInt8), ((full l).length ≤ k + 1 → Lib.splitK sepL 0 k l = full l) ∧ (k + 1 < (full l).length → (Lib.splitK sepL 0 k l).length = k + 1) := by
  intro k
  induction k with
  | zero =>
    intro l
    refine ⟨fun h => ?_, fun _ => rfl⟩
    rcases index_two l with hi | ⟨i, hi, hr⟩
    · rw [full_miss hi]; rfl
    · rw [full_hit hi hr] at h
      have := full_pos (l.drop (i + 3))
      rw [List.length_cons] at h; omega
  | succ k ih =>
    intro l
    rcases index_two l with hi | ⟨i, hi, hr⟩
    · rw [full_miss hi, splitK_miss hi]; simp
    · rw [full_hit hi hr, splitK_hit hi]
      obtain ⟨h1, h2⟩ := ih (l.drop (i + 3))
      simp only [List.length_cons]
      exact ⟨fun h => by rw [h1 (by omega)], fun h => by rw [h2 (by omega)]⟩
theorem full_le : ∀ (l : List UInt8), (full l).length ≤ l.length + 1 := by
  intro l
  have key : ∀ (k : Nat) (x : List UInt8), (Lib.splitK sepL 0 k x).length ≤ k + 1 := by
    intro k
    induction k with
    | zero => intro x; exact Nat.le_refl _
    | succ k ih =>
      intro x
      rcases index_two x with hi | ⟨i, hi, hr⟩
      · rw [splitK_miss hi]; simp
      · rw [splitK_hit hi]
        have := ih (x.drop (i + 3))
        simp; omega
  exact key _ _
/-- What SplitN tells is enough. -/
theorem split_five (l : List UInt8) : (4 < (Lib.splitK sepL 0 (min 5 (l.length + 1) - 1) l).length ↔ 4 < (full l).length) ∧ (¬ 4 < (full l).length → Lib.splitK sepL 0 (min 5 (l.length + 1) - 1) l = full l) := by
  rcases Nat.lt_or_ge l.length 4 with h | h
  · have e : min 5 (l.length + 1) - 1 = l.length := by omega
    rw [e]
    exact ⟨Iff.rfl, fun _ => rfl⟩
  · have e : min 5 (l.length + 1) - 1 = 4 := by omega
    rw [e]
    obtain ⟨h1, h2⟩ := splitK_few 4 l
    rcases Nat.lt_or_ge 5 (full l).length with h5 | h5
    · have := h2 h5
      exact ⟨⟨fun _ => by omega, fun _ => by omega⟩, fun h => by omega⟩
    · rw [h1 h5]
      exact ⟨Iff.rfl, fun _ => rfl⟩

theorem join_cons2 (x y : List UInt8) (r : List (List UInt8)) : Lib.join (x :: y :: r) sepL = x ++ (sepL ++ Lib.join (y :: r) sepL) := by
  rw [Lib.join_cons, Lib.join_cons]
  simp [Lib.joinTail]
theorem join_full : ∀ (n : Nat) (l : List UInt8), l.length ≤ n → Lib.join (full l) sepL = l := by
  intro n
  induction n with
  | zero =>
    intro l h
    have : l = [] := List.length_eq_zero_iff.1 (by omega)
    subst this
    rw [full_miss (by rfl), Lib.join_one]
  | succ n ih =>
    intro l h
    rcases index_two l with hi | ⟨i, hi, hr⟩
    · rw [full_miss hi, Lib.join_one]
    · rw [full_hit hi hr]
      have hp := full_pos (l.drop (i + 3))
      have hj := ih (l.drop (i + 3)) (by simp; omega)
      obtain ⟨y, r, e⟩ : ∃ y r, full (l.drop (i + 3)) = y :: r := by
        cases he : full (l.drop (i + 3)) with
        | nil => rw [he] at hp; simp at hp
        | cons y r => exact ⟨y, r, rfl⟩
      rw [e] at hj ⊢
      rw [join_cons2, hj]
      rcases Lib.index_spec l sepL with ⟨h1, _⟩ | ⟨j, h1, h2, h3, _⟩
      · rw [h1] at hi; omega
      · have : j = i := by rw [h1] at hi; omega
        subst this
        have hpre : sepL <+: l.drop j := List.isPrefixOf_iff_prefix.1 h3
        obtain ⟨t, ht⟩ := hpre
        have hd : l.drop (j + 3) = t := by
          rw [← List.drop_drop, ← ht]; rfl
        rw [hd, ht]
        exact List.take_append_drop j l

/-- No sign of a term is one between terms. -/
def Plain (l : List UInt8) : Prop := ∀ b ∈ l, b ≠ 32 ∧ b ≠ 33 ∧ b ≠ 61 ∧ b ≠ 124
theorem Plain.app {l m : List UInt8} (h : Plain l) (h' : Plain m) : Plain (l ++ m) := fun b hb => (List.mem_append.1 hb).elim (h b) (h' b)
theorem plain_sym {n : Int} (h : 0 ≤ n ∧ n ≤ 100) : (sym n ≠ 32 ∧ sym n ≠ 33 ∧ sym n ≠ 61 ∧ sym n ≠ 124) ∨ sym n = 124 := by
  have := sym_nat h.1 h.2
  have a : ∀ c : UInt8, c.toNat < 97 → sym n ≠ c := fun c hc e => by rw [e] at this; omega
  by_cases e : sym n = 124
  · exact .inr e
  · exact .inl ⟨a 32 (by decide), a 33 (by decide), a 61 (by decide), e⟩
theorem plain_one {b : UInt8} (h : b ≠ 32 ∧ b ≠ 33 ∧ b ≠ 61 ∧ b ≠ 124) : Plain [b] := fun c hc => by simp at hc; rw [hc]; exact h
theorem plain_dig {n : Int} (h0 : 0 ≤ n) (h4 : n ≤ 4) : Plain [dig n] := by
  have := dig_nat h0 h4
  have a : ∀ c : UInt8, (c.toNat < 48 ∨ 52 < c.toNat) → dig n ≠ c := fun c hc e => by rw [e] at this; omega
  exact plain_one ⟨a 32 (by decide), a 33 (by decide), a 61 (by decide), a 124 (by decide)⟩
theorem plain_sym6 {n : Int} (h0 : 0 ≤ n) (h6 : n < 6) : Plain [sym n] := by
  have := sym_nat h0 (by omega : n ≤ 100)
  have a : ∀ c : UInt8, (c.toNat < 97 ∨ 102 < c.toNat) → sym n ≠ c := fun c hc e => by rw [e] at this; omega
  exact plain_one ⟨a 32 (by decide), a 33 (by decide), a 61 (by decide), a 124 (by decide)⟩
theorem plain_text {s : List Int} (h6 : s.length ≤ 6) (x : Bool × Int) (k : Fo) : ∀ d, walkT s x k d = 0 → Plain (textT x k) := by
  refine Fo.ind1 (p := fun x k => ∀ d, walkT s x k d = 0 → Plain (textT x k)) ?_ x k
  clear x k
  intro x k ih d h
  have hx := (text_okT h6 h).1
  obtain ⟨v, n⟩ := x
  cases v with
  | true =>
    simp only [textT, if_true]
    simp at hx
    have e : ([88, dig n] : List UInt8) = [88] ++ [dig n] := rfl
    rw [e]
    exact (plain_one (by decide)).app (plain_dig hx.1 hx.2)
  | false =>
    have hw : walkT s (false, n) k d = 0 := h
    have hn : 0 ≤ n ∧ n < 6 ∧ walkF s k (d + 1) = 0 := by
      unfold walkT at hw
      by_cases c0 : 12 < d
      · rw [if_pos c0] at hw; omega
      · rw [if_neg c0] at hw
        by_cases c1 : aloneF s (false, n) (Fo.len k) = 0
        · rw [if_neg (by simp [c1])] at hw
          unfold aloneF at c1
          rw [if_neg (by simp)] at c1
          by_cases c2 : n < 0 ∨ (s.length : Int) ≤ n
          · rw [if_pos c2] at c1; omega
          · exact ⟨by omega, by omega, hw⟩
        · rw [if_pos c1] at hw; exact absurd hw c1
    simp only [textT, Bool.false_eq_true, if_false]
    have key : ∀ (F : Fo) (i : Int), (∀ y ∈ F.list, ∀ d, walkT s y.1 y.2 d = 0 → Plain (textT y.1 y.2)) → ∀ d, walkF s F d = 0 → Plain (textF F i) := by
      intro F
      induction F with
      | nil => intro i _ d _ b hb; simp [textF] at hb
      | node p q y l r _ ihr =>
        intro i hy d hd
        rw [walkF_node] at hd
        have h1 : walkT s y l d = 0 := by
          by_cases c : walkT s y l d = 0
          · exact c
          · rw [if_pos c] at hd; exact hd
        have h2 : walkF s r d = 0 := by
          rw [if_neg (by simp [h1])] at hd; exact hd
        rw [textF_node]
        refine Plain.app ?_ (ihr (i + 1) (fun z hz => hy z (by simp [Fo.list, hz])) d h2)
        have e : (signF i :: textT y l) = [signF i] ++ textT y l := rfl
        rw [e]
        refine Plain.app (plain_one ?_) (hy (y, l) (by simp [Fo.list]) d h1)
        unfold signF
        split <;> decide
    have e : (sym n :: if Fo.len k = 0 then [] else textF k 0 ++ [41]) = [sym n] ++ (if Fo.len k = 0 then [] else textF k 0 ++ [41]) := rfl
    rw [e]
    refine (plain_sym6 hn.1 hn.2.1).app ?_
    split
    · intro b hb; simp at hb
    · exact (key k 0 ih _ hn.2.2).app (plain_one (by decide))

end Go.Proofs.Ytfnkjadfepoicac

/- What a term is where each variable is something else: bind's variable, replace with it, own. -/
namespace Go.Proofs.Ytfnkjadfepoicac
open Go.RowKit Go.Deep Go.ChangeShapes Go.WideShapes
attribute [local go_sem ↓] Go.wp_at_zero Go.wp_at_succ

/-- So much of the answer's row is made. -/
def RepRel (g : Nat) (W2 : World) (k : Fo) (j : Nat) (wr : World) : Prop :=
  Below g W2 wr ∧ There wr g (Fo.len k * 3) ∧ WIn wr (Fo.take j k) g 0 (g + 1) wr.heap.size ∧ g + 1 ≤ wr.heap.size

theorem rep_step {g : Nat} {W2 wr w2 : World} {k : Fo} {j : Nat} {yv : Bool} {yn : Int} {yk : Fo} {ob : Obj} {a : Value} (h : RepRel g W2 k j wr) (hj : j < Fo.len k) (hy : k.list[j]? = some ((yv, yn), yk))
    (hb : Below (wr.heap.size + 1) (wr.alloc ob) w2) (hO : OwnV w2 (wr.heap.size + 1) w2.heap.size yk a) :
    RepRel g W2 k (j + 1) (set3 w2 g (j * 3) (.bool yv) (.int .i64 yn) a) := by
  obtain ⟨hB, hT, hW, hs⟩ := h
  have hsz : wr.heap.size + 1 ≤ w2.heap.size := by have := hb.size; simpa using this
  have keep : ∀ q i, q < wr.heap.size → w2.cell? ⟨q, i, none⟩ = wr.cell? ⟨q, i, none⟩ ∧ w2.frozen? ⟨q, i, none⟩ = wr.frozen? ⟨q, i, none⟩ := fun q i hq => by
    rw [hb.cell (by show q < _; omega), hb.frozen (by show q < _; omega)]
    exact ⟨World.cell?_alloc_lt _ _ _ hq, (below_alloc wr ob).frozen (p := ⟨q, i, none⟩) hq⟩
  have hT2 : There w2 g (Fo.len k * 3) := fun i hi => by
    obtain ⟨⟨v, hv⟩, hf⟩ := hT i hi
    have := keep g i (by omega)
    exact ⟨⟨v, this.1.trans hv⟩, this.2.trans hf⟩
  obtain ⟨⟨u0, e0⟩, f0⟩ := hT2 (j * 3) (by omega)
  obtain ⟨⟨u1, e1⟩, f1⟩ := hT2 (j * 3 + 1) (by omega)
  obtain ⟨⟨u2, e2⟩, f2⟩ := hT2 (j * 3 + 2) (by omega)
  obtain ⟨g0, g1, g2⟩ := set3_cells (x := .bool yv) (y := .int .i64 yn) (z := a) e0 e1 e2
  refine ⟨set3_below (hB.trans ((below_box (hb.mono (by simp))).mono (by omega))) (Nat.le_refl _), ?_, ?_, by rw [set3_size]; omega⟩
  · intro i hi
    obtain ⟨⟨v, hv⟩, hf⟩ := hT2 i hi
    refine ⟨?_, by rw [set3_frozen]; exact hf⟩
    by_cases hc : i < j * 3 ∨ j * 3 + 3 ≤ i
    · exact ⟨v, by rw [set3_other (.inr hc)]; exact hv⟩
    · have : i = j * 3 ∨ i = j * 3 + 1 ∨ i = j * 3 + 2 := by omega
      rcases this with rfl | rfl | rfl
      · exact ⟨_, g0⟩
      · exact ⟨_, g1⟩
      · exact ⟨_, g2⟩
  · rw [set3_size]
    have e : j * 3 = 0 + 3 * j := by omega
    refine WIn.snoc (mid := wr.heap.size) (a := a) hy (hW.frame ?_ ?_) hs (by omega) (by rw [← e]; exact g0) (by rw [← e]; exact g1) (by rw [← e]; exact g2) (by rw [set3_frozen, ← e]; exact f0) (by rw [set3_frozen, ← e]; exact f1) (by rw [set3_frozen, ← e]; exact f2) ?_
    · intro i _ hi
      rw [take_len j k (by omega)] at hi
      rw [set3_other (.inr (.inl (by omega))), set3_frozen]
      exact keep _ _ (by omega)
    · intro q i q1 q2
      rw [set3_other (.inl (by omega)), set3_frozen]
      exact keep _ _ q2
    · refine (hO.mono (by omega) (Nat.le_refl _)).frame ?_
      intro q i q1 q2
      rw [set3_other (.inl (by omega)), set3_frozen]
      exact ⟨rfl, rfl⟩

theorem rep_start (W2 : World) (k : Fo) (z : Array Value) : RepRel W2.heap.size W2 k 0 (W2.alloc (.cells (madeCells z (Fo.len k * 3)) 35)) := by
  refine ⟨(Below.refl _ _).alloc (Nat.le_refl _) _, fun i hi => ⟨?_, frozen_new _ _ _ _⟩, trivial, by simp⟩
  rw [World.cell?_alloc_new]
  exact ⟨_, Array.getElem?_eq_getElem (by rw [size_madeCells]; exact hi)⟩

/-- The row is made; what is written then is no part of it. -/
theorem rep_end {lo g : Nat} {W2 wr w' : World} {k : Fo} (h : RepRel g W2 k (Fo.len k) wr) (h0 : 0 < Fo.len k) (h1 : Fo.len k ≤ 1000) (hlo : lo ≤ g) (hs : w'.heap.size = wr.heap.size)
    (hc : ∀ q i, g ≤ q → w'.cell? ⟨q, i, none⟩ = wr.cell? ⟨q, i, none⟩ ∧ w'.frozen? ⟨q, i, none⟩ = wr.frozen? ⟨q, i, none⟩) :
    OwnV w' lo w'.heap.size k (.slice (some ⟨g, 0, none⟩) (Fo.len k) (Fo.len k)) := by
  obtain ⟨_, _, hW, hsz⟩ := h
  rw [take_all] at hW
  rw [hs]
  exact .inr ⟨g, hlo, by omega, h0, h1, rfl, hW.frame (fun i _ _ => hc _ _ (by omega)) (fun q i q1 q2 => hc _ _ (by omega))⟩

end Go.Proofs.Ytfnkjadfepoicac
