/- CP Rep RepV Sub RepA RepR -/
import Derived.Test.YtaliegkkdhkfcacGreatDoorG06
namespace Go.Proofs.YtaliegkkdhkfcacGreatDoor
open Go.RowKit Go.Deep Go.ChangeShapes Go.WideShapes

abbrev Lt := Bool × Tm × Tm
abbrev Cl := List Lt

def sameL (a b : Lt) : Bool := a.1 == b.1 && sameT a.2.1.1 a.2.1.2 b.2.1.1 b.2.1.2 && sameT a.2.2.1 a.2.2.2 b.2.2.1 b.2.2.2
def sameC : Cl → Cl → Bool
  | [], [] => true
  | a :: c, b :: d => sameL a b && sameC c d
  | _, _ => false
theorem sameC_len : ∀ {c d : Cl}, c.length ≠ d.length → sameC c d = false
  | [], [], h => absurd rfl h
  | [], _ :: _, _ => rfl
  | _ :: _, [], _ => rfl
  | a :: c, b :: d, h => by rw [sameC, sameC_len (c := c) (d := d) (by simpa using h), Bool.and_false]
theorem sameC_no : ∀ {c d : Cl} {j : Nat} {a b : Lt}, c[j]? = some a → d[j]? = some b → sameL a b = false → sameC c d = false
  | [], _, _, _, _, h, _, _ => by simp at h
  | _ :: _, [], _, _, _, _, h, _ => by simp at h
  | x :: c, y :: d, 0, a, b, ha, hb, h => by
    simp only [List.getElem?_cons_zero, Option.some.injEq] at ha hb
    subst ha; subst hb
    rw [sameC, h, Bool.false_and]
  | x :: c, y :: d, j + 1, a, b, ha, hb, h => by
    rw [sameC, sameC_no (c := c) (d := d) (j := j) (by simpa using ha) (by simpa using hb) h, Bool.and_false]
theorem sameC_yes : ∀ {c d : Cl}, c.length = d.length → (∀ i, i < c.length → ∀ a b, c[i]? = some a → d[i]? = some b → sameL a b = true) → sameC c d = true
  | [], [], _, _ => rfl
  | [], _ :: _, h, _ => by simp at h
  | _ :: _, [], h, _ => by simp at h
  | x :: c, y :: d, hl, h => by
    rw [sameC, h 0 (by simp) x y (by simp) (by simp), sameC_yes (c := c) (d := d) (by simpa using hl) (fun i hi a b ha hb => h (i + 1) (by simpa using hi) a b (by simpa using ha) (by simpa using hb))]
    rfl

def varsL (l : Lt) (v : List Int) : List Int := varsT l.2.2.1 l.2.2.2 (varsT l.2.1.1 l.2.1.2 v)
def varsC (c : Cl) (v : List Int) : List Int := c.foldl (fun v l => varsL l v) v
theorem varsC_take {c : Cl} {j : Nat} {l : Lt} {v : List Int} (h : c[j]? = some l) : varsC (c.take (j + 1)) v = varsL l (varsC (c.take j) v) := by
  rw [List.take_add_one, h]
  simp [varsC, List.foldl_append]

def wrongL (s : List Int) (l : Lt) : Int := if wrongF s l.2.1.1 l.2.1.2 ≠ 0 then wrongF s l.2.1.1 l.2.1.2 else wrongF s l.2.2.1 l.2.2.2
def wrongLs (s : List Int) : Cl → Int
  | [] => 0
  | l :: c => if wrongL s l ≠ 0 then wrongL s l else wrongLs s c
def wrongC (s : List Int) (c : Cl) : Int := if 4 < c.length then 5 else wrongLs s c
theorem wrongLs_at {s : List Int} : ∀ {c : Cl} {j : Nat} {l : Lt}, (∀ i, i < j → ∀ a, c[i]? = some a → wrongL s a = 0) → c[j]? = some l → wrongL s l ≠ 0 → wrongLs s c = wrongL s l
  | [], _, _, _, h, _ => by simp at h
  | x :: c, 0, l, _, h, hn => by
    simp only [List.getElem?_cons_zero, Option.some.injEq] at h
    subst h
    rw [wrongLs, if_pos hn]
  | x :: c, j + 1, l, h0, h, hn => by
    rw [wrongLs, if_neg (by simp [h0 0 (by omega) x (by simp)])]
    exact wrongLs_at (j := j) (fun i hi a ha => h0 (i + 1) (by omega) a (by simpa using ha)) (by simpa using h) hn
theorem wrongLs_iff {s : List Int} : ∀ {c : Cl}, wrongLs s c = 0 ↔ ∀ l ∈ c, wrongL s l = 0
  | [] => by simp [wrongLs]
  | x :: c => by
    rw [wrongLs]
    by_cases h : wrongL s x = 0
    · rw [if_neg (by simp [h]), wrongLs_iff (c := c)]
      simp [h]
    · rw [if_pos h]
      simp [h]
theorem wrongL_iff {s : List Int} {l : Lt} : wrongL s l = 0 ↔ wrongF s l.2.1.1 l.2.1.2 = 0 ∧ wrongF s l.2.2.1 l.2.2.2 = 0 := by
  unfold wrongL
  by_cases h : wrongF s l.2.1.1 l.2.1.2 = 0
  · rw [if_neg (by simp [h])]; simp [h]
  · rw [if_pos h]; simp [h]
theorem wrongC_iff {s : List Int} {c : Cl} : wrongC s c = 0 ↔ c.length ≤ 4 ∧ ∀ l ∈ c, wrongF s l.2.1.1 l.2.1.2 = 0 ∧ wrongF s l.2.2.1 l.2.2.2 = 0 := by
  unfold wrongC
  by_cases h : 4 < c.length
  · rw [if_pos h]; constructor
    · intro e; simp at e
    · intro e; omega
  · rw [if_neg h, wrongLs_iff]
    constructor
    · exact fun e => ⟨by omega, fun l hl => wrongL_iff.1 (e l hl)⟩
    · exact fun e l hl => wrongL_iff.2 (e.2 l hl)

def mapL (f : Tm → Tm) (l : Lt) : Lt := (l.1, f l.2.1, f l.2.2)
/-- The term that is above stands on the left; what can't hold is gone. -/
def flipL (l : Lt) : Lt := if abvT l.2.2 l.2.1 then (l.1, l.2.2, l.2.1) else l
def tstep (o : Option Cl) (l : Lt) : Option Cl := o.bind fun out => if sameT l.2.1.1 l.2.1.2 l.2.2.1 l.2.2.2 then (if l.1 then some out else none) else some (out ++ [flipL l])
def turnC (c : Cl) : Option Cl := c.foldl tstep (some [])
def likeL (a b : Lt) : Bool := (sameT a.2.1.1 a.2.1.2 b.2.1.1 b.2.1.2 && sameT a.2.2.1 a.2.2.2 b.2.2.1 b.2.2.2) || (sameT a.2.1.1 a.2.1.2 b.2.2.1 b.2.2.2 && sameT a.2.2.1 a.2.2.2 b.2.1.1 b.2.1.2)
/-- Of those that tell the same the first one stays. -/
def dstep (o : Option Cl) (l : Lt) : Option Cl := o.bind fun out => match out.find? (fun f => likeL f l) with
  | none => some (out ++ [l])
  | some f => if f.1 = l.1 then some out else none
def distC (c : Cl) : Option Cl := c.foldl dstep (some [])
theorem fold_none {f : Option Cl → Lt → Option Cl} (hf : ∀ l, f none l = none) : ∀ c : Cl, c.foldl f none = none
  | [] => rfl
  | l :: c => by rw [List.foldl_cons, hf, fold_none hf c]
theorem fold_take {f : Option Cl → Lt → Option Cl} {c : Cl} {j : Nat} {l : Lt} {o : Option Cl} (h : c[j]? = some l) : (c.take (j + 1)).foldl f o = f ((c.take j).foldl f o) l := by
  rw [List.take_add_one, h]
  simp [List.foldl_append]
theorem fold_stop {f : Option Cl → Lt → Option Cl} (hf : ∀ l, f none l = none) {c : Cl} {j : Nat} {o : Option Cl} (h : (c.take j).foldl f o = none) : c.foldl f o = none := by
  rw [← List.take_append_drop j c, List.foldl_append, h, fold_none hf]
theorem turn_take {c : Cl} {j : Nat} {l : Lt} (h : c[j]? = some l) : turnC (c.take (j + 1)) = tstep (turnC (c.take j)) l := fold_take h
theorem turn_stop {c : Cl} {j : Nat} (h : turnC (c.take j) = none) : turnC c = none := fold_stop (fun _ => rfl) h
theorem dist_take {c : Cl} {j : Nat} {l : Lt} (h : c[j]? = some l) : distC (c.take (j + 1)) = dstep (distC (c.take j)) l := fold_take h
theorem dist_stop {c : Cl} {j : Nat} (h : distC (c.take j) = none) : distC c = none := fold_stop (fun _ => rfl) h

/-- New numbers, in turn. -/
def numS (vs : List Int) : Sb := vs.mapIdx fun i v => (v, vr i)
def bigL (l : Lt) : Bool := decide (12 < tszR l.2.1.2) || decide (12 < tszR l.2.2.2)
def reN (d : Cl) : Cl := d.map (mapL (subT (bnd (numS (varsC d [])))))
def keepC (d e : Cl) : Int × Cl := if 4 < e.length ∨ 5 < (varsC d []).length ∨ e.any bigL = true then (4, []) else (0, e)
def normC (c : Cl) : Int × Cl := match turnC c with
  | none => (6, [])
  | some d => match distC (reN d) with
    | none => (6, [])
    | some e => keepC d e

/-- Literals of terms that are all right to reckon with. -/
structure GL (l : Lt) : Prop where
  gl : Gd l.2.1
  gr : Gd l.2.2
  fl : ∀ m, occT m l.2.1 → m ≤ 4
  fr : ∀ m, occT m l.2.2 → m ≤ 4
  sl : tszR l.2.1.2 ≤ 12
  sr : tszR l.2.2.2 ≤ 12
def GC (c : Cl) : Prop := c.length ≤ 4 ∧ ∀ l ∈ c, GL l

theorem tstep_mem {o : Option Cl} {l : Lt} {d : Cl} {p : Lt → Prop} (h : tstep o l = some d) (h0 : ∀ e, o = some e → ∀ x ∈ e, p x) (h1 : p (flipL l)) : ∀ x ∈ d, p x := by
  cases o with
  | none => simp [tstep] at h
  | some e =>
    simp only [tstep, Option.bind_some] at h
    split at h
    · split at h
      · obtain rfl := Option.some.inj h; exact h0 _ rfl
      · cases h
    · cases h
      intro x hx
      rcases List.mem_append.1 hx with hx | hx
      · exact h0 e rfl x hx
      · simp at hx; rw [hx]; exact h1
theorem turn_mem {p : Lt → Prop} : ∀ {c : Cl} {o : Option Cl} {d : Cl}, c.foldl tstep o = some d → (∀ e, o = some e → ∀ x ∈ e, p x) → (∀ l ∈ c, p (flipL l)) → ∀ x ∈ d, p x
  | [], o, d, h, h0, _ => h0 d h
  | l :: c, o, d, h, h0, h1 => turn_mem (c := c) (o := tstep o l) h (fun e he => tstep_mem he h0 (h1 l (by simp))) (fun x hx => h1 x (by simp [hx]))
theorem tstep_len {o : Option Cl} {l : Lt} {d : Cl} {n : Nat} (h : tstep o l = some d) (h0 : ∀ e, o = some e → e.length ≤ n) : d.length ≤ n + 1 := by
  cases o with
  | none => simp [tstep] at h
  | some e =>
    have := h0 e rfl
    simp only [tstep, Option.bind_some] at h
    split at h
    · split at h
      · cases h; omega
      · cases h
    · cases h; simp; omega
theorem turn_len : ∀ {c : Cl} {o : Option Cl} {d : Cl} {n : Nat}, c.foldl tstep o = some d → (∀ e, o = some e → e.length ≤ n) → d.length ≤ n + c.length
  | [], o, d, n, h, h0 => by have := h0 d h; simpa using this
  | l :: c, o, d, n, h, h0 => by
    have := turn_len (c := c) (o := tstep o l) (n := n + 1) h (fun e he => tstep_len he h0)
    simp; omega
theorem dstep_mem {o : Option Cl} {l : Lt} {d : Cl} {p : Lt → Prop} (h : dstep o l = some d) (h0 : ∀ e, o = some e → ∀ x ∈ e, p x) (h1 : p l) : ∀ x ∈ d, p x := by
  cases o with
  | none => simp [dstep] at h
  | some e =>
    simp only [dstep, Option.bind_some] at h
    split at h
    · cases h
      intro x hx
      rcases List.mem_append.1 hx with hx | hx
      · exact h0 e rfl x hx
      · simp at hx; rw [hx]; exact h1
    · split at h
      · obtain rfl := Option.some.inj h; exact h0 _ rfl
      · cases h
theorem dist_mem {p : Lt → Prop} : ∀ {c : Cl} {o : Option Cl} {d : Cl}, c.foldl dstep o = some d → (∀ e, o = some e → ∀ x ∈ e, p x) → (∀ l ∈ c, p l) → ∀ x ∈ d, p x
  | [], o, d, h, h0, _ => h0 d h
  | l :: c, o, d, h, h0, h1 => dist_mem (c := c) (o := dstep o l) h (fun e he => dstep_mem he h0 (h1 l (by simp))) (fun x hx => h1 x (by simp [hx]))
theorem dstep_len {o : Option Cl} {l : Lt} {d : Cl} {n : Nat} (h : dstep o l = some d) (h0 : ∀ e, o = some e → e.length ≤ n) : d.length ≤ n + 1 := by
  cases o with
  | none => simp [dstep] at h
  | some e =>
    have := h0 e rfl
    simp only [dstep, Option.bind_some] at h
    split at h
    · cases h; simp; omega
    · split at h
      · cases h; omega
      · cases h
theorem dist_len : ∀ {c : Cl} {o : Option Cl} {d : Cl} {n : Nat}, c.foldl dstep o = some d → (∀ e, o = some e → e.length ≤ n) → d.length ≤ n + c.length
  | [], o, d, n, h, h0 => by have := h0 d h; simpa using this
  | l :: c, o, d, n, h, h0 => by
    have := dist_len (c := c) (o := dstep o l) (n := n + 1) h (fun e he => dstep_len he h0)
    simp; omega

/-- What is like what is like. -/
theorem like_iff {a b : Lt} (ha : okT a.2.1 ∧ okT a.2.2) (hb : okT b.2.1 ∧ okT b.2.2) : likeL a b = true ↔ (a.2.1 = b.2.1 ∧ a.2.2 = b.2.2) ∨ (a.2.1 = b.2.2 ∧ a.2.2 = b.2.1) := by
  unfold likeL
  rw [Bool.or_eq_true, Bool.and_eq_true, Bool.and_eq_true, sameT_iff ha.1 hb.1, sameT_iff ha.2 hb.2, sameT_iff ha.1 hb.2, sameT_iff ha.2 hb.1]
abbrev okL (l : Lt) : Prop := okT l.2.1 ∧ okT l.2.2
theorem like_comm {a b : Lt} (ha : okL a) (hb : okL b) : likeL a b = likeL b a := by
  rw [Bool.eq_iff_iff, like_iff ha hb, like_iff hb ha]
  constructor <;> (rintro (⟨h1, h2⟩ | ⟨h1, h2⟩) <;> simp [h1, h2])
theorem like_trans {a b c : Lt} (ha : okL a) (hb : okL b) (hc : okL c) (h1 : likeL a b = true) (h2 : likeL b c = true) : likeL a c = true := by
  rw [like_iff ha hb] at h1
  rw [like_iff hb hc] at h2
  rw [like_iff ha hc]
  rcases h1 with ⟨e1, e2⟩ | ⟨e1, e2⟩ <;> rcases h2 with ⟨e3, e4⟩ | ⟨e3, e4⟩ <;> simp [e1, e2, e3, e4]

theorem pw_eq {f g : Lt} : ∀ {out : Cl}, (∀ x ∈ out, okL x) → out.Pairwise (fun a b => likeL a b = false) → f ∈ out → g ∈ out → likeL f g = true → f = g
  | [], _, _, h, _, _ => by cases h
  | x :: c, ho, hp, hf, hg, hl => by
    rw [List.pairwise_cons] at hp
    rcases List.mem_cons.1 hf with e | hf'
    · rcases List.mem_cons.1 hg with e' | hg'
      · rw [e, e']
      · rw [e, hp.1 g hg'] at hl; cases hl
    · rcases List.mem_cons.1 hg with e' | hg'
      · rw [e', like_comm (ho f hf) (ho x (by simp)), hp.1 f hf'] at hl; cases hl
      · exact pw_eq (fun y hy => ho y (by simp [hy])) hp.2 hf' hg' hl

/-- What is kept of P tells of P all there is to tell. -/
def Kept (P out : Cl) : Prop := (∀ x ∈ out, x ∈ P) ∧ (∀ y ∈ P, ∃ f ∈ out, likeL f y = true ∧ f.1 = y.1) ∧ out.Pairwise fun a b => likeL a b = false
theorem kept_step {P out : Cl} {l : Lt} {o' : Option Cl} (hk : Kept P out) (hP : ∀ x ∈ P, okL x) (hl : okL l) (h : dstep (some out) l = o') :
    (∀ d, o' = some d → Kept (P ++ [l]) d) ∧ (o' = none ↔ ∃ y ∈ P, likeL l y = true ∧ y.1 ≠ l.1) ∧ (o' = some out ↔ (∃ y ∈ P, likeL l y = true) ∧ ¬ ∃ y ∈ P, likeL l y = true ∧ y.1 ≠ l.1) ∧ ((∀ y ∈ P, likeL l y = false) → o' = some (out ++ [l])) := by
  obtain ⟨k1, k2, k3⟩ := hk
  subst h
  simp only [dstep, Option.bind_some]
  cases hf : out.find? (fun f => likeL f l) with
  | none =>
    have hno : ∀ f ∈ out, likeL f l = false := fun f hf' => by
      have := List.find?_eq_none.1 hf f hf'
      simpa using this
    have hnoP : ∀ y ∈ P, likeL l y = false := fun y hy => by
      cases hh : likeL l y with
      | false => rfl
      | true =>
        obtain ⟨f, hf1, hf2, _⟩ := k2 y hy
        have := like_trans (hP f (k1 f hf1)) (hP y hy) hl hf2 (by rw [like_comm (hP y hy) hl]; exact hh)
        rw [hno f hf1] at this; cases this
    dsimp only
    refine ⟨fun d hd => ?_, ⟨fun h => (by cases h), fun ⟨y, hy, h1, _⟩ => (by rw [hnoP y hy] at h1; cases h1)⟩, ⟨fun h => (by simp at h), fun ⟨⟨y, hy, h1⟩, _⟩ => (by rw [hnoP y hy] at h1; cases h1)⟩, fun _ => rfl⟩
    cases hd
    refine ⟨fun x hx => ?_, fun y hy => ?_, ?_⟩
    · rcases List.mem_append.1 hx with hx | hx
      · exact List.mem_append_left _ (k1 x hx)
      · exact List.mem_append_right _ hx
    · rcases List.mem_append.1 hy with hy | hy
      · obtain ⟨f, h1, h2⟩ := k2 y hy
        exact ⟨f, List.mem_append_left _ h1, h2⟩
      · simp at hy; subst hy
        exact ⟨y, by simp, (like_iff hl hl).2 (.inl ⟨rfl, rfl⟩), rfl⟩
    · rw [List.pairwise_append]
      refine ⟨k3, by simp, fun a ha b hb => ?_⟩
      simp at hb; subst hb
      exact hno a ha
  | some f =>
    have hfm : f ∈ out := List.mem_of_find?_eq_some hf
    have hfl : likeL f l = true := by have := List.find?_some hf; simpa using this
    have hall : ∀ y ∈ P, likeL l y = true → y.1 = f.1 := fun y hy hly => by
      obtain ⟨g, g1, g2, g3⟩ := k2 y hy
      have h1 : likeL f g = true := like_trans (hP f (k1 f hfm)) hl (hP g (k1 g g1)) hfl (by
        rw [like_comm hl (hP g (k1 g g1))]
        exact like_trans (hP g (k1 g g1)) (hP y hy) hl g2 (by rw [like_comm (hP y hy) hl]; exact hly))
      have : f = g := pw_eq (fun x hx => hP x (k1 x hx)) k3 hfm g1 h1
      rw [this, g3]
    have hfl' : likeL l f = true := by rw [like_comm hl (hP f (k1 f hfm))]; exact hfl
    dsimp only
    by_cases he : f.1 = l.1
    · rw [if_pos he]
      have hn : ¬ ∃ y ∈ P, likeL l y = true ∧ y.1 ≠ l.1 := fun ⟨y, hy, h1, h2⟩ => h2 ((hall y hy h1).trans he)
      refine ⟨fun d hd => ?_, ⟨fun h => (by cases h), fun h => absurd h hn⟩, ⟨fun _ => ⟨⟨f, k1 f hfm, hfl'⟩, hn⟩, fun _ => rfl⟩, fun h => (by rw [h f (k1 f hfm)] at hfl'; cases hfl')⟩
      cases hd
      refine ⟨fun x hx => List.mem_append_left _ (k1 x hx), fun y hy => ?_, k3⟩
      rcases List.mem_append.1 hy with hy | hy
      · exact k2 y hy
      · simp at hy; subst hy
        exact ⟨f, hfm, hfl, he⟩
    · rw [if_neg he]
      refine ⟨fun d hd => (by cases hd), ⟨fun _ => ⟨f, k1 f hfm, hfl', he⟩, fun _ => rfl⟩, ⟨fun h => (by cases h), fun h => absurd ⟨f, k1 f hfm, hfl', he⟩ h.2⟩, fun h => (by rw [h f (k1 f hfm)] at hfl'; cases hfl')⟩
theorem kept_nil : Kept [] [] := ⟨fun _ h => h, fun _ h => (by cases h), List.Pairwise.nil⟩
theorem dist_kept {P out : Cl} (hP : ∀ x ∈ P, okL x) (h : distC P = some out) : Kept P out := by
  have key : ∀ (n : Nat) (out : Cl), n ≤ P.length → distC (P.take n) = some out → Kept (P.take n) out := by
    intro n
    induction n with
    | zero => intro out _ h; simp [distC] at h; subst h; exact kept_nil
    | succ n ih =>
      intro out hn h
      have hl : P[n]? = some P[n] := List.getElem?_eq_getElem (by omega)
      rw [dist_take hl] at h
      cases hd : distC (P.take n) with
      | none => rw [hd] at h; simp [dstep] at h
      | some e =>
        rw [hd] at h
        have := (kept_step (ih e (by omega) hd) (fun x hx => hP x (List.mem_of_mem_take hx)) (hP _ (List.getElem_mem _)) h).1 out rfl
        rwa [List.take_add_one, hl]
  have := key P.length out (Nat.le_refl _) (by rw [List.take_length]; exact h)
  rwa [List.take_length] at this

end Go.Proofs.YtaliegkkdhkfcacGreatDoor

namespace Go.Proofs.YtaliegkkdhkfcacGreatDoor
open Go.RowKit Go.Deep Go.ChangeShapes Go.WideShapes
attribute [local go_sem ↓] Go.wp_at_zero Go.wp_at_succ

set_option maxRecDepth 100000 in
set_option maxHeartbeats 400000 in
theorem variable_any (n : Int) (w : World) : Calls Tryz.prog 70 #[.int .i64 n] w fun e w' => ∃ a, e = .returned (.agg #[.bool (vr n).1.1, .int .i64 (vr n).1.2, a]) ∧ OwnV w' w.heap.size w'.heap.size (vr n).2 a ∧ Below w.heap.size w w' := by
  go_enter Tryz.func70, Tryz.ntmps70
  go_wp2_with fail
  refine bodyPost_ret (v := .agg #[.bool true, .int .i64 n, .slice none 0 0]) (by simp [results, Tryz.results70, go_sem]) rfl ⟨_, rfl, .inl ⟨rfl, rfl⟩, ?_⟩
  exact below_alloc _ _

/-- So much of the answer's row is made. -/
def RepRel (g : Nat) (W2 : World) (k : Fo) (j : Nat) (wr : World) : Prop :=
  Below g W2 wr ∧ There wr g (Fo.len k * 3) ∧ WIn wr (Fo.take j k) g 0 (g + 1) wr.heap.size ∧ g + 1 ≤ wr.heap.size

theorem rep_step {g : Nat} {W2 wr w2 : World} {k : Fo} {j : Nat} {yv : Bool} {yn : Int} {yk : Fo} {ob : Obj} {a : Value} (h : RepRel g W2 k j wr) (hj : j < Fo.len k) (hy : k.list[j]? = some ((yv, yn), yk))
    (hb : Below (wr.heap.size + 1) (wr.alloc ob) w2) (hO : OwnV w2 (wr.heap.size + 1) w2.heap.size yk a) :
    RepRel g W2 k (j + 1) (set3 w2 g (j * 3) (.bool yv) (.int .i64 yn) a) := by
  obtain ⟨hB, hT, hW, hs⟩ := h
  have hsz : wr.heap.size + 1 ≤ w2.heap.size := by have := hb.size; simpa using this
  have keep : ∀ q i, q < wr.heap.size → w2.cell? ⟨q, i, none⟩ = wr.cell? ⟨q, i, none⟩ ∧ w2.frozen? ⟨q, i, none⟩ = wr.frozen? ⟨q, i, none⟩ := fun q i hq => by
    rw [hb.cell (by show q < _; omega), hb.frozen (by show q < _; omega)]
    exact ⟨World.cell?_alloc_lt _ _ _ hq, (below_alloc wr ob).frozen (p := ⟨q, i, none⟩) hq⟩
  have hT2 : There w2 g (Fo.len k * 3) := fun i hi => by
    obtain ⟨⟨v, hv⟩, hf⟩ := hT i hi
    have := keep g i (by omega)
    exact ⟨⟨v, this.1.trans hv⟩, this.2.trans hf⟩
  obtain ⟨⟨u0, e0⟩, f0⟩ := hT2 (j * 3) (by omega)
  obtain ⟨⟨u1, e1⟩, f1⟩ := hT2 (j * 3 + 1) (by omega)
  obtain ⟨⟨u2, e2⟩, f2⟩ := hT2 (j * 3 + 2) (by omega)
  obtain ⟨g0, g1, g2⟩ := set3_cells (x := .bool yv) (y := .int .i64 yn) (z := a) e0 e1 e2
  refine ⟨set3_below (hB.trans ((below_box (hb.mono (by simp))).mono (by omega))) (Nat.le_refl _), ?_, ?_, by rw [set3_size]; omega⟩
  · intro i hi
    obtain ⟨⟨v, hv⟩, hf⟩ := hT2 i hi
    refine ⟨?_, by rw [set3_frozen]; exact hf⟩
    by_cases hc : i < j * 3 ∨ j * 3 + 3 ≤ i
    · exact ⟨v, by rw [set3_other (.inr hc)]; exact hv⟩
    · have : i = j * 3 ∨ i = j * 3 + 1 ∨ i = j * 3 + 2 := by omega
      rcases this with rfl | rfl | rfl
      · exact ⟨_, g0⟩
      · exact ⟨_, g1⟩
      · exact ⟨_, g2⟩
  · rw [set3_size]
    have e : j * 3 = 0 + 3 * j := by omega
    refine WIn.snoc (mid := wr.heap.size) (a := a) hy (hW.frame ?_ ?_) hs (by omega) (by rw [← e]; exact g0) (by rw [← e]; exact g1) (by rw [← e]; exact g2) (by rw [set3_frozen, ← e]; exact f0) (by rw [set3_frozen, ← e]; exact f1) (by rw [set3_frozen, ← e]; exact f2) ?_
    · intro i _ hi
      rw [take_len j k (by omega)] at hi
      rw [set3_other (.inr (.inl (by omega))), set3_frozen]
      exact keep _ _ (by omega)
    · intro q i q1 q2
      rw [set3_other (.inl (by omega)), set3_frozen]
      exact keep _ _ q2
    · refine (hO.mono (by omega) (Nat.le_refl _)).frame ?_
      intro q i q1 q2
      rw [set3_other (.inl (by omega)), set3_frozen]
      exact ⟨rfl, rfl⟩

theorem rep_start (W2 : World) (k : Fo) (z : Array Value) : RepRel W2.heap.size W2 k 0 (W2.alloc (.cells (madeCells z (Fo.len k * 3)) 55)) := by
  refine ⟨(Below.refl _ _).alloc (Nat.le_refl _) _, fun i hi => ⟨?_, frozen_new _ _ _ _⟩, trivial, by simp⟩
  rw [World.cell?_alloc_new]
  exact ⟨_, Array.getElem?_eq_getElem (by rw [size_madeCells]; exact hi)⟩

/-- The row is made; what is written then is no part of it. -/
theorem rep_end {lo g : Nat} {W2 wr w' : World} {k : Fo} (h : RepRel g W2 k (Fo.len k) wr) (h0 : 0 < Fo.len k) (h1 : Fo.len k ≤ 1000) (hlo : lo ≤ g) (hs : w'.heap.size = wr.heap.size)
    (hc : ∀ q i, g ≤ q → w'.cell? ⟨q, i, none⟩ = wr.cell? ⟨q, i, none⟩ ∧ w'.frozen? ⟨q, i, none⟩ = wr.frozen? ⟨q, i, none⟩) :
    OwnV w' lo w'.heap.size k (.slice (some ⟨g, 0, none⟩) (Fo.len k) (Fo.len k)) := by
  obtain ⟨_, _, hW, hsz⟩ := h
  rw [take_all] at hW
  rw [hs]
  exact .inr ⟨g, hlo, by omega, h0, h1, rfl, hW.frame (fun i _ _ => hc _ _ (by omega)) (fun q i q1 q2 => hc _ _ (by omega))⟩

end Go.Proofs.YtaliegkkdhkfcacGreatDoor

namespace Go.Proofs.YtaliegkkdhkfcacGreatDoor
open Go.RowKit Go.Deep Go.ChangeShapes Go.WideShapes
attribute [local go_sem ↓] Go.wp_at_zero Go.wp_at_succ

def InvV (_ : World) : Prop := True
theorem invV_below {w w' : World} (_ : InvV w) (_ : Below w.heap.size w w') : InvV w' := trivial
theorem cloV_any (n : Int) (w : World) (_ : InvV w) : Calls Tryz.prog 70 #[.int .i64 n] w fun e w' => ∃ a, e = .returned (.agg #[.bool (vr n).1.1, .int .i64 (vr n).1.2, a]) ∧ OwnV w' w.heap.size w'.heap.size (vr n).2 a ∧ Below w.heap.size w w' := variable_any n w

def RepVSaid (x : Bool × Int) (k : Fo) : Prop := ∀ (a : Value) (w : World), InvV w → SIn w k a → Fo.len k ≤ 1000 → Fo.narrow k →
    Calls Tryz.prog 67 #[.agg #[.bool x.1, .int .i64 x.2, a], .func (.func 70) #[] #[]] w fun e w' => ∃ a', e = .returned (.agg #[.bool (subT vr (x, k)).1.1, .int .i64 (subT vr (x, k)).1.2, a']) ∧ OwnV w' w.heap.size w'.heap.size (subT vr (x, k)).2 a' ∧ Below w.heap.size w w'

set_option maxRecDepth 100000 in
set_option maxHeartbeats 1000000 in
theorem repV_any (x : Bool × Int) (k : Fo) : RepVSaid x k := by
  refine Fo.ind1 (p := RepVSaid ) ?_ x k
  clear x k
  intro x k ih a w hInv hS hlen hnar
  obtain ⟨v, n⟩ := x
  obtain ⟨ad, c, b, o, rfl, had, hlc, hcm, hF⟩ := hS
  have Hl := hide (Fo.len_list k)
  have HI := hide ih
  have HF := hide hF
  have Hnar := hide hnar
  have HInv := hide hInv
  clear ih hF hnar hInv
  unfold maxLen at hcm
  cases v
  · have Hres : Hid (subT vr ((false, n), k) = ((false, n), subF vr k)) := rfl
    by_cases h0 : Fo.len k = 0
    · have h0' : ¬ (0 : Int) < (Fo.len k : Int) := by omega
      have Hk := hide (len_zero h0)
      clear h0
      go_enter Tryz.func67, Tryz.ntmps67
      go_wp2_with fail
      go_loopw [29] (fun i wr => i = .int .i64 0 ∧ wr = ((w.alloc (.cells #[.bool false, .int .i64 n, .slice ad (Fo.len k) c] 55)).alloc (.cells #[.bool false, .int .i64 0, .slice none 0 0] 55)).alloc (.cells #[.bool false, .int .i64 n, .slice none 0 0] 55)) (fun _ _ => 0)
      case atStart => exact ⟨rfl, rfl⟩
      case round =>
        obtain ⟨rfl, rfl⟩ := hrel
        go_wp2_with fail
        refine bodyPost_ret (v := .agg #[.bool false, .int .i64 n, .slice none 0 0]) (by simp [results, Tryz.results67, go_sem]) rfl ⟨.slice none 0 0, ?_, ?_, ?_⟩
        · rw [Hres.out]
        · rw [Hres.out]; exact .inl ⟨by rw [Hk.out]; rfl, rfl⟩
        · exact ((below_alloc _ _).alloc (by simp) _).alloc (by simp; omega) _
    · have h0' : (0 : Int) < (Fo.len k : Int) := by omega
      have ha : ad = some ⟨b, o, none⟩ := had (by omega)
      subst ha
      have Hpos : Hid (0 < Fo.len k) := by unfold Hid; omega
      have hdec : decide (0 < Fo.len k) = true := by simp; omega
      clear h0 had
      obtain ⟨i26, hi, hz0, hz1, hz2⟩ := info_parts Tryz.info55
      have hmk := fun w : World => run_make (P := Tryz.prog) w 53 55 i26 _ Tryz.underlying53 hi hz0 .i64 .i64 (Fo.len k : Int) (Fo.len k : Int) (by omega) (by omega) (by rw [hz2]; omega) (by omega)
      rw [hz1] at hmk
      simp only [Int.toNat_natCast] at hmk
      have Hl2 := hide (subF_len vr k)
      go_enter Tryz.func67, Tryz.ntmps67
      go_wp2_with fail
      clear hmk hi hz0 hz1 hz2
      generalize hW2 : ((w.alloc (.cells #[.bool false, .int .i64 n, .slice (some ⟨b, o, none⟩) (Fo.len k) c] 55)).alloc (.cells #[.bool false, .int .i64 0, .slice none 0 0] 55)).alloc (.cells #[.bool false, .int .i64 n, .slice (some ⟨w.heap.size + 1 + 1 + 1, 0, none⟩) (Fo.len k) (Fo.len k)] 55) = W2
      have hs2 : W2.heap.size = w.heap.size + 1 + 1 + 1 := by rw [← hW2]; simp
      have HB2 : Hid (Below w.heap.size w W2) := by rw [← hW2]; exact ((below_alloc _ _).alloc (by simp) _).alloc (by simp; omega) _
      have r0 : W2.cell? ⟨w.heap.size + 1, 0, none⟩ = some (.bool false) := by rw [← hW2, World.cell?_alloc_lt _ _ _ (by show w.heap.size + 1 < _; rw [size2]; omega)]; exact new_cell (World.size_alloc _ _)
      have r1 : W2.cell? ⟨w.heap.size + 1, 1, none⟩ = some (.int .i64 0) := by rw [← hW2, World.cell?_alloc_lt _ _ _ (by show w.heap.size + 1 < _; rw [size2]; omega)]; exact new_cell (World.size_alloc _ _)
      have r2 : W2.cell? ⟨w.heap.size + 1, 2, none⟩ = some (.slice none 0 0) := by rw [← hW2, World.cell?_alloc_lt _ _ _ (by show w.heap.size + 1 < _; rw [size2]; omega)]; exact new_cell (World.size_alloc _ _)
      have rf : ∀ i, W2.frozen? ⟨w.heap.size + 1, i, none⟩ = false := fun i => by rw [← hW2, (below_alloc _ _).frozen (by show w.heap.size + 1 < _; rw [size2]; omega)]; exact new_frozen (World.size_alloc _ _)
      have q0 : W2.cell? ⟨w.heap.size + 1 + 1, 0, none⟩ = some (.bool false) := by rw [← hW2]; exact new_cell (size2 _ _ _)
      have q1 : W2.cell? ⟨w.heap.size + 1 + 1, 1, none⟩ = some (.int .i64 n) := by rw [← hW2]; exact new_cell (size2 _ _ _)
      have q2 : W2.cell? ⟨w.heap.size + 1 + 1, 2, none⟩ = some (.slice (some ⟨w.heap.size + 1 + 1 + 1, 0, none⟩) (Fo.len k) (Fo.len k)) := by rw [← hW2]; exact new_cell (size2 _ _ _)
      have HQ := hide (And.intro q0 (And.intro q1 (And.intro q2 (And.intro r0 (And.intro r1 (And.intro r2 rf))))))
      have H0 : Hid (RepRel (w.heap.size + 1 + 1 + 1) W2 (subF vr k) 0 (W2.alloc (.cells (madeCells #[.bool false, .int .i64 0, .slice none 0 0] (Fo.len k * 3)) 55))) := by
        have := rep_start W2 (subF vr k) #[.bool false, .int .i64 0, .slice none 0 0]
        rw [Hl2.out, hs2] at this
        exact this
      have Hs2 := hide hs2
      clear q0 q1 q2 r0 r1 r2 rf hs2 hW2
      go_loopw [29] (fun i wr => ∃ j : Nat, j ≤ Fo.len k ∧ i = .int .i64 j ∧ RepRel (w.heap.size + 1 + 1 + 1) W2 (subF vr k) j wr) (fun i _ => Fo.len k - (intOf i).toNat)
      case atStart => exact ⟨0, Nat.zero_le _, rfl, H0.out⟩
      case round =>
        obtain ⟨j, hj, rfl, hR⟩ := hrel
        have HR := hide hR
        obtain ⟨hB, hT, -, hsz⟩ := hR
        have HB := hide hB
        have hs2 := Hs2.out
        have hBw : Below w.heap.size w wr := HB2.out.trans (hB.mono (by omega))
        obtain ⟨q0, q1, q2, r0, r1, r2, rf⟩ := HQ.out
        by_cases hlt : j < Fo.len k
        · have hlt' : (j : Int) < (Fo.len k : Int) := by omega
          obtain ⟨⟨⟨yv, yn⟩, yk⟩, hy⟩ : ∃ y, k.list[j]? = some y := ⟨k.list[j]'(by rw [Hl.out]; exact hlt), by simp⟩
          obtain ⟨c0, c1, yv', c2, hSy⟩ := (HF.out.below hBw).at hy
          have HS := hide hSy
          obtain ⟨ya, yc, yb, yo, rfl, -, -, -, -⟩ := hSy
          have Hny := hide (narrow_at Hnar.out hy)
          have Hy := hide hy
          have Hy2 : Hid ((subF vr k).list[j]? = some (subT vr ((yv, yn), yk))) := by rw [Hid, subF_list, List.getElem?_map, hy]; rfl
          have hT' : There wr (w.heap.size + 1 + 1 + 1) (Fo.len k * 3) := by rw [← Hl2.out]; exact hT
          obtain ⟨⟨t0, e0⟩, f0⟩ := hT' (j * 3) (by omega)
          obtain ⟨⟨t1, e1⟩, f1⟩ := hT' (j * 3 + 1) (by omega)
          obtain ⟨⟨t2, e2⟩, f2⟩ := hT' (j * 3 + 2) (by omega)
          have p2 : wr.cell? ⟨w.heap.size + 1 + 1, 2, none⟩ = some (.slice (some ⟨w.heap.size + 1 + 1 + 1, 0, none⟩) (Fo.len k) (Fo.len k)) := (HB.out.cell (by show w.heap.size + 1 + 1 < _; omega)).trans q2
          clear hy hT hT' hB q0 q1 q2 r0 r1 r2 rf
          go_upto_region 9 with fail
          generalize hwa : wr.alloc (.cells #[.bool yv, .int .i64 yn, .slice ya (Fo.len yk) yc] 55) = wa
          have a0 : wa.cell? ⟨wr.heap.size, 0, none⟩ = some (.bool yv) := by rw [← hwa]; simp
          have a1 : wa.cell? ⟨wr.heap.size, 1, none⟩ = some (.int .i64 yn) := by rw [← hwa]; simp
          have a2 : wa.cell? ⟨wr.heap.size, 2, none⟩ = some (.slice ya (Fo.len yk) yc) := by rw [← hwa]; simp
          have hba : Below wr.heap.size wr wa := by rw [← hwa]; exact below_alloc _ _
          have hsa : wa.heap.size = wr.heap.size + 1 := by rw [← hwa]; simp
          have Hwa : Hid (wr.alloc (.cells #[.bool yv, .int .i64 yn, .slice ya (Fo.len yk) yc] 55) = wa) := hwa
          have p2' := grow_cell hba _ _ p2
          have e0' := grow_cell hba _ _ e0
          have e1' := grow_cell hba _ _ e1
          have e2' := grow_cell hba _ _ e2
          have hlt3 : w.heap.size + 1 + 1 + 1 < wr.heap.size := by omega
          have g0' : wa.frozen? ⟨w.heap.size + 1 + 1 + 1, j * 3, none⟩ = false := (hba.frozen hlt3).trans f0
          have g1' : wa.frozen? ⟨w.heap.size + 1 + 1 + 1, j * 3 + 1, none⟩ = false := (hba.frozen hlt3).trans f1
          have g2' : wa.frozen? ⟨w.heap.size + 1 + 1 + 1, j * 3 + 2, none⟩ = false := (hba.frozen hlt3).trans f2
          have HIa : Hid (InvV wa.drew) := invV_below (invV_below HInv.out (below_step hBw hba)) (Below.refl _ _).drew
          have HSa : Hid (SIn wa.drew yk (.slice ya (Fo.len yk) yc)) := (HS.out.below hba).drew
          obtain ⟨⟨⟨zv, zn⟩, zk⟩, hz⟩ : ∃ z, z = subT vr ((yv, yn), yk) := ⟨_, rfl⟩
          have Hz := hide hz
          have hlt4 : w.heap.size + 1 + 1 + 1 < wa.heap.size := by omega
          have hcall : Calls Tryz.prog 67 #[.agg #[.bool yv, .int .i64 yn, .slice ya (Fo.len yk) yc], .func (.func 70) #[] #[]] wa.drew fun e w' => ∃ (a1 : Option Addr) (a2 a3 : Nat), e = .returned (.agg #[.bool zv, .int .i64 zn, .slice a1 a2 a3]) ∧ OwnV w' wa.heap.size w'.heap.size zk (.slice a1 a2 a3) ∧ Below wa.heap.size wa w' := by
            have h := HI.out ((yv, yn), yk) (List.mem_of_getElem? Hy.out) _ wa.drew HIa.out HSa.out Hny.out.1 Hny.out.2
            refine h.mono ?_
            rintro e w2 ⟨a', rfl, hO, hb⟩
            rw [← Hz.out] at hO
            obtain ⟨z1, z2, z3, rfl⟩ := slice_of_sin hO.toS
            exact ⟨z1, z2, z3, by rw [← Hz.out], hO, ((Below.refl _ _).drew).trans hb⟩
          have Hcall := hide hcall
          clear hwa hz hcall e0 e1 e2 f0 f1 f2 p2 c0 c1 c2 hBw hba
          go_region_with (first
            | (go_at_call 67; refine Hcall.out.mono ?_; rintro e w2 ⟨z1, z2, z3, rfl, hO2, hb2⟩; have p2'' := grow_cell hb2 _ _ p2'; have e0'' := grow_cell hb2 _ _ e0'; have e1'' := grow_cell hb2 _ _ e1'; have e2'' := grow_cell hb2 _ _ e2'; have g0'' := (hb2.frozen hlt4).trans g0'; have g1'' := (hb2.frozen hlt4).trans g1'; have g2'' := (hb2.frozen hlt4).trans g2'))
          all_goals
            have Hstep : Hid (RepRel (w.heap.size + 1 + 1 + 1) W2 (subF vr k) (j + 1) (set3 w2 (w.heap.size + 1 + 1 + 1) (j * 3) (.bool zv) (.int .i64 zn) (.slice z1 z2 z3))) := rep_step (ob := .cells #[.bool yv, .int .i64 yn, .slice ya (Fo.len yk) yc] 55) HR.out (by rw [Hl2.out]; exact hlt) (by rw [Hy2.out, ← Hz.out]) (by rw [Hwa.out, ← hsa]; exact hb2) (by rw [← hsa]; exact hO2)
            clear hO2 hb2 p2'' p2' e0' e1' e2' g0' g1' g2'
            go_wp2_with fail
            go_roundw
            case rel => exact ⟨j + 1, by omega, by go_num, Hstep.out⟩
            case measure => simp [intOf]; omega
        · have hje : j = Fo.len k := by omega
          subst hje
          have p0 : wr.cell? ⟨w.heap.size + 1 + 1, 0, none⟩ = some (.bool false) := (HB.out.cell (by show w.heap.size + 1 + 1 < _; omega)).trans q0
          have p1 : wr.cell? ⟨w.heap.size + 1 + 1, 1, none⟩ = some (.int .i64 n) := (HB.out.cell (by show w.heap.size + 1 + 1 < _; omega)).trans q1
          have p2 : wr.cell? ⟨w.heap.size + 1 + 1, 2, none⟩ = some (.slice (some ⟨w.heap.size + 1 + 1 + 1, 0, none⟩) (Fo.len k) (Fo.len k)) := (HB.out.cell (by show w.heap.size + 1 + 1 < _; omega)).trans q2
          have s0 : wr.cell? ⟨w.heap.size + 1, 0, none⟩ = some (.bool false) := (HB.out.cell (by show w.heap.size + 1 < _; omega)).trans r0
          have s1 : wr.cell? ⟨w.heap.size + 1, 1, none⟩ = some (.int .i64 0) := (HB.out.cell (by show w.heap.size + 1 < _; omega)).trans r1
          have s2 : wr.cell? ⟨w.heap.size + 1, 2, none⟩ = some (.slice none 0 0) := (HB.out.cell (by show w.heap.size + 1 < _; omega)).trans r2
          have sf : ∀ i, wr.frozen? ⟨w.heap.size + 1, i, none⟩ = false := fun i => (HB.out.frozen (by show w.heap.size + 1 < _; omega)).trans (rf i)
          clear q0 q1 q2 r0 r1 r2 rf hT hB
          go_wp2_with fail
          refine bodyPost_ret (v := .agg #[.bool false, .int .i64 n, .slice (some ⟨w.heap.size + 1 + 1 + 1, 0, none⟩) (Fo.len k) (Fo.len k)]) (by simp [results, Tryz.results67, go_sem, s0, s1, s2]) rfl ⟨.slice (some ⟨w.heap.size + 1 + 1 + 1, 0, none⟩) (Fo.len k) (Fo.len k), ?_, ?_, set3_below (o := 0) hBw (by omega)⟩
          · rw [Hres.out]
          · rw [Hres.out]
            have hRe : RepRel (w.heap.size + 1 + 1 + 1) W2 (subF vr k) (Fo.len (subF vr k)) wr := by rw [Hl2.out]; exact HR.out
            have := rep_end (lo := w.heap.size) (w' := set3 wr (w.heap.size + 1) 0 (.bool false) (.int .i64 n) (.slice (some ⟨w.heap.size + 1 + 1 + 1, 0, none⟩) (Fo.len k) (Fo.len k))) hRe (by rw [Hl2.out]; exact Hpos.out) (by rw [Hl2.out]; exact hlen) (by omega) set3_size (fun q i hq => ⟨set3_other (.inl (by omega)), set3_frozen⟩)
            rw [Hl2.out] at this
            exact this
  · have Hres : Hid (subT vr ((true, n), k) = vr n) := rfl
    obtain ⟨⟨⟨zv, zn⟩, zk⟩, hz⟩ : ∃ z, z = vr n := ⟨_, rfl⟩
    have Hz := hide hz
    clear hz
    go_enter Tryz.func67, Tryz.ntmps67
    go_wp2_with fail
    generalize hW2 : (w.alloc (.cells #[.bool true, .int .i64 n, .slice ad (Fo.len k) c] 55)).alloc (.cells #[.bool false, .int .i64 0, .slice none 0 0] 55) = W2
    have hs2 : W2.heap.size = w.heap.size + 1 + 1 := by rw [← hW2]; simp
    have hB2 : Below w.heap.size w W2 := by rw [← hW2]; exact (below_alloc _ _).alloc (by simp) _
    have r0 : W2.cell? ⟨w.heap.size + 1, 0, none⟩ = some (.bool false) := by rw [← hW2]; exact new_cell (World.size_alloc _ _)
    have r1 : W2.cell? ⟨w.heap.size + 1, 1, none⟩ = some (.int .i64 0) := by rw [← hW2]; exact new_cell (World.size_alloc _ _)
    have r2 : W2.cell? ⟨w.heap.size + 1, 2, none⟩ = some (.slice none 0 0) := by rw [← hW2]; exact new_cell (World.size_alloc _ _)
    have rf : ∀ i, W2.frozen? ⟨w.heap.size + 1, i, none⟩ = false := fun i => by rw [← hW2]; exact new_frozen (World.size_alloc _ _)
    clear hW2
    refine (cloV_any n W2 (invV_below HInv.out hB2)).mono ?_
    rintro e w2 ⟨a', rfl, hO, hb⟩
    rw [← Hz.out] at hO ⊢
    obtain ⟨z1, z2, z3, rfl⟩ := slice_of_sin hO.toS
    have s0 := grow_cell hb _ _ r0
    have s1 := grow_cell hb _ _ r1
    have s2 := grow_cell hb _ _ r2
    have sf : ∀ i, w2.frozen? ⟨w.heap.size + 1, i, none⟩ = false := fun i => (hb.frozen (by show w.heap.size + 1 < _; omega)).trans (rf i)
    have HO := hide hO
    have hB3 := below_step hB2 hb
    clear hO r0 r1 r2 rf hb
    go_wp2_with fail
    refine bodyPost_ret (v := .agg #[.bool zv, .int .i64 zn, .slice z1 z2 z3]) (by simp [results, Tryz.results67, go_sem, s0, s1, s2]) rfl ⟨.slice z1 z2 z3, ?_, ?_, set3_below (o := 0) hB3 (by omega)⟩
    · rw [Hres.out, ← Hz.out]
    · rw [Hres.out, ← Hz.out]
      have h2 : OwnV (set3 w2 (w.heap.size + 1) 0 (.bool zv) (.int .i64 zn) (.slice z1 z2 z3)) W2.heap.size w2.heap.size zk (.slice z1 z2 z3) := HO.out.frame (fun q i q1 q2 => ⟨set3_other (.inl (by omega)), set3_frozen⟩)
      have h3 := h2.mono (lo' := w.heap.size) (hi' := (set3 w2 (w.heap.size + 1) 0 (.bool zv) (.int .i64 zn) (.slice z1 z2 z3)).heap.size) (by omega) (by rw [set3_size]; exact Nat.le_refl _)
      exact h3

set_option maxRecDepth 100000 in
set_option maxHeartbeats 400000 in
theorem ownB_any (x : Bool × Int) (k : Fo) (a : Value) (w : World) (hS : SIn w k a) (hlen : Fo.len k ≤ 1000) (hnar : Fo.narrow k) :
    Calls Tryz.prog 69 #[.agg #[.bool x.1, .int .i64 x.2, a]] w fun e w' => ∃ a', e = .returned (.agg #[.bool (subT vr (x, k)).1.1, .int .i64 (subT vr (x, k)).1.2, a']) ∧ OwnV w' w.heap.size w'.heap.size (subT vr (x, k)).2 a' ∧ Below w.heap.size w w' := by
  obtain ⟨v, n⟩ := x
  have HS := hide hS
  obtain ⟨ad, c, b, o, rfl, -, -, -, -⟩ := hS
  obtain ⟨⟨⟨zv, zn⟩, zk⟩, hz⟩ : ∃ z, z = subT vr ((v, n), k) := ⟨_, rfl⟩
  have Hz := hide hz
  clear hz
  go_enter Tryz.func69, Tryz.ntmps69
  go_wp2_with fail
  generalize hW2 : (w.alloc (.cells #[.bool v, .int .i64 n, .slice ad (Fo.len k) c] 55)).alloc (.cells #[.bool false, .int .i64 0, .slice none 0 0] 55) = W2
  have hs2 : W2.heap.size = w.heap.size + 1 + 1 := by rw [← hW2]; simp
  have hB2 : Below w.heap.size w W2 := by rw [← hW2]; exact (below_alloc _ _).alloc (by simp) _
  have r0 : W2.cell? ⟨w.heap.size + 1, 0, none⟩ = some (.bool false) := by rw [← hW2]; exact new_cell (World.size_alloc _ _)
  have r1 : W2.cell? ⟨w.heap.size + 1, 1, none⟩ = some (.int .i64 0) := by rw [← hW2]; exact new_cell (World.size_alloc _ _)
  have r2 : W2.cell? ⟨w.heap.size + 1, 2, none⟩ = some (.slice none 0 0) := by rw [← hW2]; exact new_cell (World.size_alloc _ _)
  have rf : ∀ i, W2.frozen? ⟨w.heap.size + 1, i, none⟩ = false := fun i => by rw [← hW2]; exact new_frozen (World.size_alloc _ _)
  clear hW2
  refine (repV_any (v, n) k _ W2 trivial (HS.out.below hB2) hlen hnar).mono ?_
  rintro e w2 ⟨a', rfl, hO, hb⟩
  rw [← Hz.out] at hO ⊢
  obtain ⟨z1, z2, z3, rfl⟩ := slice_of_sin hO.toS
  have s0 := grow_cell hb _ _ r0
  have s1 := grow_cell hb _ _ r1
  have s2 := grow_cell hb _ _ r2
  have sf : ∀ i, w2.frozen? ⟨w.heap.size + 1, i, none⟩ = false := fun i => (hb.frozen (by show w.heap.size + 1 < _; omega)).trans (rf i)
  have HO := hide hO
  have hB3 := below_step hB2 hb
  clear hO r0 r1 r2 rf hb
  go_wp2_with fail
  refine bodyPost_ret (v := .agg #[.bool zv, .int .i64 zn, .slice z1 z2 z3]) (by simp [results, Tryz.results69, go_sem, s0, s1, s2]) rfl ⟨.slice z1 z2 z3, by rw [← Hz.out], ?_, set3_below (o := 0) hB3 (by omega)⟩
  rw [← Hz.out]
  have h2 : OwnV (set3 w2 (w.heap.size + 1) 0 (.bool zv) (.int .i64 zn) (.slice z1 z2 z3)) W2.heap.size w2.heap.size zk (.slice z1 z2 z3) := HO.out.frame (fun q i q1 q2 => ⟨set3_other (.inl (by omega)), set3_frozen⟩)
  have h3 := h2.mono (lo' := w.heap.size) (hi' := (set3 w2 (w.heap.size + 1) 0 (.bool zv) (.int .i64 zn) (.slice z1 z2 z3)).heap.size) (by omega) (by rw [set3_size]; exact Nat.le_refl _)
  exact h3

end Go.Proofs.YtaliegkkdhkfcacGreatDoor

namespace Go.Proofs.YtaliegkkdhkfcacGreatDoor
open Go.RowKit Go.Deep Go.ChangeShapes Go.WideShapes
attribute [local go_sem ↓] Go.wp_at_zero Go.wp_at_succ

/-- Bindings lie in w, the first pair at (b, o), four cells each. -/
def PIn (w : World) : Sb → Nat → Nat → Prop
  | [], _, _ => True
  | p :: s, b, o => w.cell? ⟨b, o, none⟩ = some (.int .i64 p.1) ∧ w.cell? ⟨b, o + 1, none⟩ = some (.bool p.2.1.1) ∧ w.cell? ⟨b, o + 2, none⟩ = some (.int .i64 p.2.1.2) ∧
      (∃ v, w.cell? ⟨b, o + 3, none⟩ = some v ∧ SIn w p.2.2 v) ∧ PIn w s b (o + 4)
def SubIn (w : World) (s : Sb) (v : Value) : Prop :=
  ∃ (a : Option Addr) (c b o : Nat), v = .slice a s.length c ∧ (0 < s.length → a = some ⟨b, o, none⟩) ∧ s.length ≤ c ∧ c ≤ maxLen ∧ PIn w s b o

theorem PIn.later {w w' : World} (hc : ∀ a v, w.cell? a = some v → w'.cell? a = some v) : ∀ {s : Sb} {b o : Nat}, PIn w s b o → PIn w' s b o
  | [], _, _, _ => trivial
  | _ :: _, _, _, ⟨h0, h1, h2, ⟨v, h3, h4⟩, h5⟩ => ⟨hc _ _ h0, hc _ _ h1, hc _ _ h2, ⟨v, hc _ _ h3, h4.later hc⟩, PIn.later hc h5⟩
theorem PIn.below {w w' : World} (hb : Below w.heap.size w w') {s : Sb} {b o : Nat} (h : PIn w s b o) : PIn w' s b o := h.later (grow_cell hb)
theorem SubIn.later {w w' : World} (hc : ∀ a v, w.cell? a = some v → w'.cell? a = some v) {s : Sb} {v : Value} (h : SubIn w s v) : SubIn w' s v := by
  obtain ⟨a, c, b, o, h1, h2, h3, h4, h5⟩ := h
  exact ⟨a, c, b, o, h1, h2, h3, h4, h5.later hc⟩
theorem SubIn.below {w w' : World} (hb : Below w.heap.size w w') {s : Sb} {v : Value} (h : SubIn w s v) : SubIn w' s v := h.later (grow_cell hb)
theorem SubIn.alloc {w : World} {s : Sb} {v : Value} (h : SubIn w s v) (ob : Obj) : SubIn (w.alloc ob) s v := h.below (below_alloc w ob)
theorem SubIn.nil (w : World) : SubIn w [] (.slice none 0 0) := ⟨none, 0, 0, 0, rfl, fun h => by simp at h, Nat.le_refl _, Nat.zero_le _, trivial⟩
theorem slice_of_sub {w : World} {s : Sb} {v : Value} (h : SubIn w s v) : ∃ z1 z3, v = .slice z1 s.length z3 := by
  obtain ⟨a, c, _, _, rfl, _⟩ := h
  exact ⟨a, c, rfl⟩
theorem PIn.at {w : World} : ∀ {s : Sb} {b o i : Nat} {p : Int × Tm}, PIn w s b o → s[i]? = some p →
    w.cell? ⟨b, o + i * 4, none⟩ = some (.int .i64 p.1) ∧ w.cell? ⟨b, o + i * 4 + 1, none⟩ = some (.bool p.2.1.1) ∧ w.cell? ⟨b, o + i * 4 + 2, none⟩ = some (.int .i64 p.2.1.2) ∧ ∃ v, w.cell? ⟨b, o + i * 4 + 3, none⟩ = some v ∧ SIn w p.2.2 v
  | [], _, _, _, _, _, h => by simp at h
  | q :: s, b, o, 0, p, hP, h => by
    simp only [List.getElem?_cons_zero, Option.some.injEq] at h
    subst h
    obtain ⟨h0, h1, h2, h3, _⟩ := hP
    simpa using ⟨h0, h1, h2, h3⟩
  | q :: s, b, o, i + 1, p, hP, h => by
    have := PIn.at hP.2.2.2.2 (i := i) (by simpa using h)
    have e : o + 4 + i * 4 = o + (i + 1) * 4 := by omega
    rwa [e] at this

theorem look_first {n : Int} {t : Tm} : ∀ {s : Sb} {j : Nat}, (∀ q p, q < j → s[q]? = some p → p.1 ≠ n) → s[j]? = some (n, t) → look s n = some t
  | [], _, _, h => by simp at h
  | p :: s, 0, _, h => by
    simp only [List.getElem?_cons_zero, Option.some.injEq] at h
    subst h
    simp [look]
  | p :: s, j + 1, hq, h => by
    have h0 := hq 0 p (by omega) (by simp)
    rw [look, if_neg h0]
    exact look_first (j := j) (fun q r hqr hr => hq (q + 1) r (by omega) (by simpa using hr)) (by simpa using h)
theorem look_all {n : Int} {s : Sb} (h : ∀ q p, q < s.length → s[q]? = some p → p.1 ≠ n) : look s n = none := by
  refine look_none fun p hp => ?_
  obtain ⟨i, hi, e⟩ := List.mem_iff_getElem.1 hp
  exact h i p hi (by rw [List.getElem?_eq_getElem hi, e])

/-- Which pair is the first one of a variable. -/
def Found (s : Sb) (n i : Int) : Prop := (i = -1 ∧ look s n = none) ∨ ∃ (j : Nat) (t : Tm), i = j ∧ s[j]? = some (n, t) ∧ look s n = some t

set_option maxRecDepth 100000 in
set_option maxHeartbeats 400000 in
theorem findC_any (n m : Int) (v : Bool) (k : Int) (a : Option Addr) (l c : Nat) (nb : Nat) (w : World) (hn : w.cell? ⟨nb, 0, none⟩ = some (.int .i64 n)) :
    Calls Tryz.prog 91 #[.agg #[.int .i64 m, .bool v, .int .i64 k, .slice a l c], .pointer (some ⟨nb, 0, none⟩)] w fun e w' => e = .returned (.bool (m == n)) ∧ Below w.heap.size w w' := by
  have hnb : nb < w.heap.size := World.block_lt_of_cell? _ _ hn
  have hn' : (w.alloc (.cells #[.int .i64 m, .bool v, .int .i64 k, .slice a l c] 73)).cell? ⟨nb, 0, none⟩ = some (.int .i64 n) := by rw [World.cell?_alloc_lt _ _ _ hnb]; exact hn
  go_enter Tryz.func91, Tryz.ntmps91
  go_wp2_with fail
  go_ret
  exact ⟨rfl, below_alloc _ _⟩

set_option maxRecDepth 100000 in
set_option maxHeartbeats 1000000 in
theorem indexFunc_any (s : Sb) (n : Int) (vs : Value) (nb : Nat) (w : World) (hS : SubIn w s vs) (hn : w.cell? ⟨nb, 0, none⟩ = some (.int .i64 n)) :
    Calls Tryz.prog 90 #[vs, .func (.func 91) #[] #[.pointer (some ⟨nb, 0, none⟩)]] w fun e w' => ∃ i, e = .returned (.int .i64 i) ∧ Found s n i ∧ Below w.heap.size w w' := by
  obtain ⟨ad, c, b, o, rfl, had, hlc, hcm, hP⟩ := hS
  unfold maxLen at hcm
  have HP := hide hP
  have Hn := hide hn
  clear hP hn
  go_enter Tryz.func90, Tryz.ntmps90
  go_wp2_with fail
  go_loopw [8] (fun i wr => ∃ j : Nat, j ≤ s.length ∧ i = .int .i64 j ∧ (∀ q p, q < j → s[q]? = some p → p.1 ≠ n) ∧ Below w.heap.size w wr) (fun i _ => s.length - (intOf i).toNat)
  case atStart => exact ⟨0, Nat.zero_le _, rfl, fun q _ hq => by omega, Below.refl _ _⟩
  case round =>
    obtain ⟨j, hj, rfl, hno, hBr⟩ := hrel
    have Hno := hide hno
    clear hno
    by_cases hlt : j < s.length
    · have hlt' : (j : Int) < (s.length : Int) := by omega
      obtain ⟨⟨m, ⟨yv, yn⟩, yk⟩, hy⟩ : ∃ y, s[j]? = some y := ⟨s[j], by simp [hlt]⟩
      obtain ⟨c0, c1, c2, yv', c3, hSy⟩ := (HP.out.below hBr).at hy
      obtain ⟨ya, yc, yb, yo, rfl, -, -, -, -⟩ := hSy
      have ha : ad = some ⟨b, o, none⟩ := had (by omega)
      subst ha
      have Hy := hide hy
      clear hy had
      go_wp2_with fail
      refine (findC_any n m yv yn ya (Fo.len yk) yc nb wr (grow_cell hBr _ _ Hn.out)).mono ?_
      rintro e w2 ⟨rfl, hb2⟩
      have hB2 := below_step hBr hb2
      simp only
      by_cases hmn : m = n
      · have hmb : (m == n) = true := by simp [hmn]
        have Hf : Hid (Found s n (j : Int)) := .inr ⟨j, _, rfl, by rw [Hy.out, hmn], look_first Hno.out (by rw [Hy.out, hmn])⟩
        rw [hmb]
        clear hmn hb2
        go_wp2_with fail
        go_ret
        exact ⟨_, rfl, Hf.out, hB2⟩
      · have hmb : (m == n) = false := by simp [hmn]
        have Hno2 : Hid (∀ q p, q < j + 1 → s[q]? = some p → p.1 ≠ n) := fun q p hq hp => by
          by_cases e : q = j
          · subst e; rw [Hy.out] at hp; cases hp; exact hmn
          · exact Hno.out q p (by omega) hp
        rw [hmb]
        clear hmn hb2
        go_wp2_with fail
        go_roundw
        case rel => exact ⟨j + 1, by omega, by go_num, Hno2.out, hB2⟩
        case measure => simp [intOf]; omega
    · have Hf : Hid (Found s n (-1)) := .inl ⟨rfl, look_all (fun q p hq hp => Hno.out q p (by omega) hp)⟩
      clear had
      go_wp2_with fail
      go_ret
      exact ⟨_, rfl, Hf.out, hBr⟩

set_option maxRecDepth 100000 in
set_option maxHeartbeats 400000 in
theorem findB_any (s : Sb) (n : Int) (vs : Value) (w : World) (hS : SubIn w s vs) :
    Calls Tryz.prog 64 #[vs, .int .i64 n] w fun e w' => ∃ i, e = .returned (.int .i64 i) ∧ Found s n i ∧ Below w.heap.size w w' := by
  have HS := hide hS
  obtain ⟨ad, c, b, o, rfl, -, -, -, -⟩ := hS
  go_enter Tryz.func64, Tryz.ntmps64
  go_wp2_with fail
  refine (indexFunc_any s n _ w.heap.size _ (HS.out.alloc _) (by simp)).mono ?_
  rintro e w2 ⟨i, rfl, hf, hb⟩
  have Hf := hide hf
  have hB := below_box hb
  clear hf hb
  go_wp2_with fail
  go_ret
  exact ⟨_, rfl, Hf.out, hB⟩

end Go.Proofs.YtaliegkkdhkfcacGreatDoor

namespace Go.Proofs.YtaliegkkdhkfcacGreatDoor
open Go.RowKit Go.Deep Go.ChangeShapes Go.WideShapes
attribute [local go_sem ↓] Go.wp_at_zero Go.wp_at_succ

def InvA (s : Sb) (vs : Value) (sb : Nat) (w : World) : Prop := w.cell? ⟨sb, 0, none⟩ = some vs ∧ SubIn w s vs ∧ ∀ p ∈ s, narT p.2 ∧ okT p.2
theorem invA_below (s : Sb) (vs : Value) (sb : Nat) {w w' : World} (h : InvA s vs sb w) (hb : Below w.heap.size w w') : InvA s vs sb w' := ⟨grow_cell hb _ _ h.1, h.2.1.below hb, h.2.2⟩

set_option maxRecDepth 100000 in
set_option maxHeartbeats 400000 in
theorem cloA_any (s : Sb) (vs : Value) (sb : Nat) (n : Int) (w : World) (h : InvA s vs sb w) : Calls Tryz.prog 68 #[.int .i64 n, .pointer (some ⟨sb, 0, none⟩)] w fun e w' => ∃ a, e = .returned (.agg #[.bool (bnd s n).1.1, .int .i64 (bnd s n).1.2, a]) ∧ OwnV w' w.heap.size w'.heap.size (bnd s n).2 a ∧ Below w.heap.size w w' := by
  obtain ⟨hc, hS, hnar⟩ := h
  have HS := hide hS
  have Hnar := hide hnar
  obtain ⟨ad, c, b, o, rfl, had, hlc, hcm, hP⟩ := hS
  unfold maxLen at hcm
  have HP := hide hP
  have hsb : sb < w.heap.size := World.block_lt_of_cell? _ _ hc
  have hc' : (w.alloc (.cells #[.bool false, .int .i64 0, .slice none 0 0] 55)).cell? ⟨sb, 0, none⟩ = some (.slice ad s.length c) := by rw [World.cell?_alloc_lt _ _ _ hsb]; exact hc
  clear hnar hP hc
  go_enter Tryz.func68, Tryz.ntmps68
  go_wp2_with fail
  generalize hW2 : w.alloc (.cells #[.bool false, .int .i64 0, .slice none 0 0] 55) = W2 at *
  have hs2 : W2.heap.size = w.heap.size + 1 := by rw [← hW2]; simp
  have hB2 : Below w.heap.size w W2 := by rw [← hW2]; exact below_alloc _ _
  have r0 : W2.cell? ⟨w.heap.size, 0, none⟩ = some (.bool false) := by rw [← hW2]; exact new_cell rfl
  have r1 : W2.cell? ⟨w.heap.size, 1, none⟩ = some (.int .i64 0) := by rw [← hW2]; exact new_cell rfl
  have r2 : W2.cell? ⟨w.heap.size, 2, none⟩ = some (.slice none 0 0) := by rw [← hW2]; exact new_cell rfl
  have rf : ∀ i, W2.frozen? ⟨w.heap.size, i, none⟩ = false := fun i => by rw [← hW2]; exact new_frozen rfl
  clear hW2
  refine (findB_any s n _ W2 (HS.out.below hB2)).mono ?_
  rintro e w2 ⟨i, rfl, hf, hb⟩
  have s0 := grow_cell hb _ _ r0
  have s1 := grow_cell hb _ _ r1
  have s2 := grow_cell hb _ _ r2
  have sf : ∀ i, w2.frozen? ⟨w.heap.size, i, none⟩ = false := fun i => (hb.frozen (by show w.heap.size < _; omega)).trans (rf i)
  have sc := grow_cell hb _ _ hc'
  have hB3 := below_step hB2 hb
  have hs3 := hb.size
  clear r0 r1 r2 rf hb hc'
  rcases hf with ⟨rfl, hl⟩ | ⟨j, ⟨⟨tv, tn⟩, tk⟩, rfl, hj, hl⟩
  · have Hl : Hid (bnd s n = vr n) := bnd_none hl
    clear hl
    go_wp2_with fail
    refine (variable_any n w2).mono ?_
    rintro e w3 ⟨a, rfl, hO, hb⟩
    obtain ⟨z1, z2, z3, rfl⟩ := slice_of_sin hO.toS
    have t0 := grow_cell hb _ _ s0
    have t1 := grow_cell hb _ _ s1
    have t2 := grow_cell hb _ _ s2
    have tf : ∀ i, w3.frozen? ⟨w.heap.size, i, none⟩ = false := fun i => (hb.frozen (by show w.heap.size < _; omega)).trans (sf i)
    have hB4 := below_step hB3 hb
    have HO := hide hO
    clear s0 s1 s2 sf hb hO sc
    simp only [vr]
    go_wp2_with fail
    refine bodyPost_ret (v := .agg #[.bool true, .int .i64 n, .slice z1 z2 z3]) (by simp [results, Tryz.results68, go_sem, t0, t1, t2]) rfl ⟨.slice z1 z2 z3, by rw [Hl.out]; rfl, ?_, set3_below (o := 0) hB4 (Nat.le_refl _)⟩
    rw [Hl.out]
    have h2 : OwnV (set3 w3 w.heap.size 0 (.bool true) (.int .i64 n) (.slice z1 z2 z3)) w2.heap.size w3.heap.size (vr n).2 (.slice z1 z2 z3) := HO.out.frame (fun q i q1 q2 => ⟨set3_other (.inl (by omega)), set3_frozen⟩)
    exact h2.mono (lo' := w.heap.size) (hi' := (set3 w3 w.heap.size 0 (.bool true) (.int .i64 n) (.slice z1 z2 z3)).heap.size) (by omega) (by rw [set3_size]; exact Nat.le_refl _)
  · have Hl : Hid (bnd s n = ((tv, tn), tk)) := bnd_some hl
    obtain ⟨c0, c1, c2, yv', c3, hSy⟩ := (HP.out.below hB3).at hj
    have HSy := hide hSy
    obtain ⟨ya, yc, yb, yo, rfl, -, -, -, -⟩ := hSy
    have hjl : j < s.length := by
      rcases Nat.lt_or_ge j s.length with h | h
      · exact h
      · rw [List.getElem?_eq_none h] at hj; cases hj
    have ha : ad = some ⟨b, o, none⟩ := had (by omega)
    subst ha
    have hj0 : (0 : Int) ≤ (j : Int) := by omega
    have hj1 : (j : Int) < (s.length : Int) := by omega
    have Hn : Hid (narT ((tv, tn), tk) ∧ okT ((tv, tn), tk)) := Hnar.out _ (List.mem_of_getElem? hj)
    clear hl hj had
    go_wp2_with fail
    refine (ownB_any (tv, tn) tk _ w2 HSy.out Hn.out.1.1 Hn.out.1.2).mono ?_
    rintro e w3 ⟨a, rfl, hO, hb⟩
    rw [subT_vr Hn.out.2] at hO ⊢
    obtain ⟨z1, z2, z3, rfl⟩ := slice_of_sin hO.toS
    have t0 := grow_cell hb _ _ s0
    have t1 := grow_cell hb _ _ s1
    have t2 := grow_cell hb _ _ s2
    have tf : ∀ i, w3.frozen? ⟨w.heap.size, i, none⟩ = false := fun i => (hb.frozen (by show w.heap.size < _; omega)).trans (sf i)
    have hB4 := below_step hB3 hb
    have HO := hide hO
    clear s0 s1 s2 sf hb hO sc
    go_wp2_with fail
    refine bodyPost_ret (v := .agg #[.bool tv, .int .i64 tn, .slice z1 z2 z3]) (by simp [results, Tryz.results68, go_sem, t0, t1, t2]) rfl ⟨.slice z1 z2 z3, by rw [Hl.out], ?_, set3_below (o := 0) hB4 (Nat.le_refl _)⟩
    rw [Hl.out]
    have h2 : OwnV (set3 w3 w.heap.size 0 (.bool tv) (.int .i64 tn) (.slice z1 z2 z3)) w2.heap.size w3.heap.size tk (.slice z1 z2 z3) := HO.out.frame (fun q i q1 q2 => ⟨set3_other (.inl (by omega)), set3_frozen⟩)
    exact h2.mono (lo' := w.heap.size) (hi' := (set3 w3 w.heap.size 0 (.bool tv) (.int .i64 tn) (.slice z1 z2 z3)).heap.size) (by omega) (by rw [set3_size]; exact Nat.le_refl _)

def RepASaid (s : Sb) (vs : Value) (sb : Nat) (x : Bool × Int) (k : Fo) : Prop := ∀ (a : Value) (w : World), InvA s vs sb w → SIn w k a → Fo.len k ≤ 1000 → Fo.narrow k →
    Calls Tryz.prog 67 #[.agg #[.bool x.1, .int .i64 x.2, a], .func (.func 68) #[] #[.pointer (some ⟨sb, 0, none⟩)]] w fun e w' => ∃ a', e = .returned (.agg #[.bool (subT (bnd s) (x, k)).1.1, .int .i64 (subT (bnd s) (x, k)).1.2, a']) ∧ OwnV w' w.heap.size w'.heap.size (subT (bnd s) (x, k)).2 a' ∧ Below w.heap.size w w'

set_option maxRecDepth 100000 in
set_option maxHeartbeats 1000000 in
theorem repA_any (s : Sb) (vs : Value) (sb : Nat) (x : Bool × Int) (k : Fo) : RepASaid s vs sb x k := by
  refine Fo.ind1 (p := RepASaid s vs sb ) ?_ x k
  clear x k
  intro x k ih a w hInv hS hlen hnar
  obtain ⟨v, n⟩ := x
  obtain ⟨ad, c, b, o, rfl, had, hlc, hcm, hF⟩ := hS
  have Hl := hide (Fo.len_list k)
  have HI := hide ih
  have HF := hide hF
  have Hnar := hide hnar
  have HInv := hide hInv
  clear ih hF hnar hInv
  unfold maxLen at hcm
  cases v
  · have Hres : Hid (subT (bnd s) ((false, n), k) = ((false, n), subF (bnd s) k)) := rfl
    by_cases h0 : Fo.len k = 0
    · have h0' : ¬ (0 : Int) < (Fo.len k : Int) := by omega
      have Hk := hide (len_zero h0)
      clear h0
      go_enter Tryz.func67, Tryz.ntmps67
      go_wp2_with fail
      go_loopw [29] (fun i wr => i = .int .i64 0 ∧ wr = ((w.alloc (.cells #[.bool false, .int .i64 n, .slice ad (Fo.len k) c] 55)).alloc (.cells #[.bool false, .int .i64 0, .slice none 0 0] 55)).alloc (.cells #[.bool false, .int .i64 n, .slice none 0 0] 55)) (fun _ _ => 0)
      case atStart => exact ⟨rfl, rfl⟩
      case round =>
        obtain ⟨rfl, rfl⟩ := hrel
        go_wp2_with fail
        refine bodyPost_ret (v := .agg #[.bool false, .int .i64 n, .slice none 0 0]) (by simp [results, Tryz.results67, go_sem]) rfl ⟨.slice none 0 0, ?_, ?_, ?_⟩
        · rw [Hres.out]
        · rw [Hres.out]; exact .inl ⟨by rw [Hk.out]; rfl, rfl⟩
        · exact ((below_alloc _ _).alloc (by simp) _).alloc (by simp; omega) _
    · have h0' : (0 : Int) < (Fo.len k : Int) := by omega
      have ha : ad = some ⟨b, o, none⟩ := had (by omega)
      subst ha
      have Hpos : Hid (0 < Fo.len k) := by unfold Hid; omega
      have hdec : decide (0 < Fo.len k) = true := by simp; omega
      clear h0 had
      obtain ⟨i26, hi, hz0, hz1, hz2⟩ := info_parts Tryz.info55
      have hmk := fun w : World => run_make (P := Tryz.prog) w 53 55 i26 _ Tryz.underlying53 hi hz0 .i64 .i64 (Fo.len k : Int) (Fo.len k : Int) (by omega) (by omega) (by rw [hz2]; omega) (by omega)
      rw [hz1] at hmk
      simp only [Int.toNat_natCast] at hmk
      have Hl2 := hide (subF_len (bnd s) k)
      go_enter Tryz.func67, Tryz.ntmps67
      go_wp2_with fail
      clear hmk hi hz0 hz1 hz2
      generalize hW2 : ((w.alloc (.cells #[.bool false, .int .i64 n, .slice (some ⟨b, o, none⟩) (Fo.len k) c] 55)).alloc (.cells #[.bool false, .int .i64 0, .slice none 0 0] 55)).alloc (.cells #[.bool false, .int .i64 n, .slice (some ⟨w.heap.size + 1 + 1 + 1, 0, none⟩) (Fo.len k) (Fo.len k)] 55) = W2
      have hs2 : W2.heap.size = w.heap.size + 1 + 1 + 1 := by rw [← hW2]; simp
      have HB2 : Hid (Below w.heap.size w W2) := by rw [← hW2]; exact ((below_alloc _ _).alloc (by simp) _).alloc (by simp; omega) _
      have r0 : W2.cell? ⟨w.heap.size + 1, 0, none⟩ = some (.bool false) := by rw [← hW2, World.cell?_alloc_lt _ _ _ (by show w.heap.size + 1 < _; rw [size2]; omega)]; exact new_cell (World.size_alloc _ _)
      have r1 : W2.cell? ⟨w.heap.size + 1, 1, none⟩ = some (.int .i64 0) := by rw [← hW2, World.cell?_alloc_lt _ _ _ (by show w.heap.size + 1 < _; rw [size2]; omega)]; exact new_cell (World.size_alloc _ _)
      have r2 : W2.cell? ⟨w.heap.size + 1, 2, none⟩ = some (.slice none 0 0) := by rw [← hW2, World.cell?_alloc_lt _ _ _ (by show w.heap.size + 1 < _; rw [size2]; omega)]; exact new_cell (World.size_alloc _ _)
      have rf : ∀ i, W2.frozen? ⟨w.heap.size + 1, i, none⟩ = false := fun i => by rw [← hW2, (below_alloc _ _).frozen (by show w.heap.size + 1 < _; rw [size2]; omega)]; exact new_frozen (World.size_alloc _ _)
      have q0 : W2.cell? ⟨w.heap.size + 1 + 1, 0, none⟩ = some (.bool false) := by rw [← hW2]; exact new_cell (size2 _ _ _)
      have q1 : W2.cell? ⟨w.heap.size + 1 + 1, 1, none⟩ = some (.int .i64 n) := by rw [← hW2]; exact new_cell (size2 _ _ _)
      have q2 : W2.cell? ⟨w.heap.size + 1 + 1, 2, none⟩ = some (.slice (some ⟨w.heap.size + 1 + 1 + 1, 0, none⟩) (Fo.len k) (Fo.len k)) := by rw [← hW2]; exact new_cell (size2 _ _ _)
      have HQ := hide (And.intro q0 (And.intro q1 (And.intro q2 (And.intro r0 (And.intro r1 (And.intro r2 rf))))))
      have H0 : Hid (RepRel (w.heap.size + 1 + 1 + 1) W2 (subF (bnd s) k) 0 (W2.alloc (.cells (madeCells #[.bool false, .int .i64 0, .slice none 0 0] (Fo.len k * 3)) 55))) := by
        have := rep_start W2 (subF (bnd s) k) #[.bool false, .int .i64 0, .slice none 0 0]
        rw [Hl2.out, hs2] at this
        exact this
      have Hs2 := hide hs2
      clear q0 q1 q2 r0 r1 r2 rf hs2 hW2
      go_loopw [29] (fun i wr => ∃ j : Nat, j ≤ Fo.len k ∧ i = .int .i64 j ∧ RepRel (w.heap.size + 1 + 1 + 1) W2 (subF (bnd s) k) j wr) (fun i _ => Fo.len k - (intOf i).toNat)
      case atStart => exact ⟨0, Nat.zero_le _, rfl, H0.out⟩
      case round =>
        obtain ⟨j, hj, rfl, hR⟩ := hrel
        have HR := hide hR
        obtain ⟨hB, hT, -, hsz⟩ := hR
        have HB := hide hB
        have hs2 := Hs2.out
        have hBw : Below w.heap.size w wr := HB2.out.trans (hB.mono (by omega))
        obtain ⟨q0, q1, q2, r0, r1, r2, rf⟩ := HQ.out
        by_cases hlt : j < Fo.len k
        · have hlt' : (j : Int) < (Fo.len k : Int) := by omega
          obtain ⟨⟨⟨yv, yn⟩, yk⟩, hy⟩ : ∃ y, k.list[j]? = some y := ⟨k.list[j]'(by rw [Hl.out]; exact hlt), by simp⟩
          obtain ⟨c0, c1, yv', c2, hSy⟩ := (HF.out.below hBw).at hy
          have HS := hide hSy
          obtain ⟨ya, yc, yb, yo, rfl, -, -, -, -⟩ := hSy
          have Hny := hide (narrow_at Hnar.out hy)
          have Hy := hide hy
          have Hy2 : Hid ((subF (bnd s) k).list[j]? = some (subT (bnd s) ((yv, yn), yk))) := by rw [Hid, subF_list, List.getElem?_map, hy]; rfl
          have hT' : There wr (w.heap.size + 1 + 1 + 1) (Fo.len k * 3) := by rw [← Hl2.out]; exact hT
          obtain ⟨⟨t0, e0⟩, f0⟩ := hT' (j * 3) (by omega)
          obtain ⟨⟨t1, e1⟩, f1⟩ := hT' (j * 3 + 1) (by omega)
          obtain ⟨⟨t2, e2⟩, f2⟩ := hT' (j * 3 + 2) (by omega)
          have p2 : wr.cell? ⟨w.heap.size + 1 + 1, 2, none⟩ = some (.slice (some ⟨w.heap.size + 1 + 1 + 1, 0, none⟩) (Fo.len k) (Fo.len k)) := (HB.out.cell (by show w.heap.size + 1 + 1 < _; omega)).trans q2
          clear hy hT hT' hB q0 q1 q2 r0 r1 r2 rf
          go_upto_region 9 with fail
          generalize hwa : wr.alloc (.cells #[.bool yv, .int .i64 yn, .slice ya (Fo.len yk) yc] 55) = wa
          have a0 : wa.cell? ⟨wr.heap.size, 0, none⟩ = some (.bool yv) := by rw [← hwa]; simp
          have a1 : wa.cell? ⟨wr.heap.size, 1, none⟩ = some (.int .i64 yn) := by rw [← hwa]; simp
          have a2 : wa.cell? ⟨wr.heap.size, 2, none⟩ = some (.slice ya (Fo.len yk) yc) := by rw [← hwa]; simp
          have hba : Below wr.heap.size wr wa := by rw [← hwa]; exact below_alloc _ _
          have hsa : wa.heap.size = wr.heap.size + 1 := by rw [← hwa]; simp
          have Hwa : Hid (wr.alloc (.cells #[.bool yv, .int .i64 yn, .slice ya (Fo.len yk) yc] 55) = wa) := hwa
          have p2' := grow_cell hba _ _ p2
          have e0' := grow_cell hba _ _ e0
          have e1' := grow_cell hba _ _ e1
          have e2' := grow_cell hba _ _ e2
          have hlt3 : w.heap.size + 1 + 1 + 1 < wr.heap.size := by omega
          have g0' : wa.frozen? ⟨w.heap.size + 1 + 1 + 1, j * 3, none⟩ = false := (hba.frozen hlt3).trans f0
          have g1' : wa.frozen? ⟨w.heap.size + 1 + 1 + 1, j * 3 + 1, none⟩ = false := (hba.frozen hlt3).trans f1
          have g2' : wa.frozen? ⟨w.heap.size + 1 + 1 + 1, j * 3 + 2, none⟩ = false := (hba.frozen hlt3).trans f2
          have HIa : Hid (InvA s vs sb wa.drew) := invA_below s vs sb (invA_below s vs sb HInv.out (below_step hBw hba)) (Below.refl _ _).drew
          have HSa : Hid (SIn wa.drew yk (.slice ya (Fo.len yk) yc)) := (HS.out.below hba).drew
          obtain ⟨⟨⟨zv, zn⟩, zk⟩, hz⟩ : ∃ z, z = subT (bnd s) ((yv, yn), yk) := ⟨_, rfl⟩
          have Hz := hide hz
          have hlt4 : w.heap.size + 1 + 1 + 1 < wa.heap.size := by omega
          have hcall : Calls Tryz.prog 67 #[.agg #[.bool yv, .int .i64 yn, .slice ya (Fo.len yk) yc], .func (.func 68) #[] #[.pointer (some ⟨sb, 0, none⟩)]] wa.drew fun e w' => ∃ (a1 : Option Addr) (a2 a3 : Nat), e = .returned (.agg #[.bool zv, .int .i64 zn, .slice a1 a2 a3]) ∧ OwnV w' wa.heap.size w'.heap.size zk (.slice a1 a2 a3) ∧ Below wa.heap.size wa w' := by
            have h := HI.out ((yv, yn), yk) (List.mem_of_getElem? Hy.out) _ wa.drew HIa.out HSa.out Hny.out.1 Hny.out.2
            refine h.mono ?_
            rintro e w2 ⟨a', rfl, hO, hb⟩
            rw [← Hz.out] at hO
            obtain ⟨z1, z2, z3, rfl⟩ := slice_of_sin hO.toS
            exact ⟨z1, z2, z3, by rw [← Hz.out], hO, ((Below.refl _ _).drew).trans hb⟩
          have Hcall := hide hcall
          clear hwa hz hcall e0 e1 e2 f0 f1 f2 p2 c0 c1 c2 hBw hba
          go_region_with (first
            | (go_at_call 67; refine Hcall.out.mono ?_; rintro e w2 ⟨z1, z2, z3, rfl, hO2, hb2⟩; have p2'' := grow_cell hb2 _ _ p2'; have e0'' := grow_cell hb2 _ _ e0'; have e1'' := grow_cell hb2 _ _ e1'; have e2'' := grow_cell hb2 _ _ e2'; have g0'' := (hb2.frozen hlt4).trans g0'; have g1'' := (hb2.frozen hlt4).trans g1'; have g2'' := (hb2.frozen hlt4).trans g2'))
          all_goals
            have Hstep : Hid (RepRel (w.heap.size + 1 + 1 + 1) W2 (subF (bnd s) k) (j + 1) (set3 w2 (w.heap.size + 1 + 1 + 1) (j * 3) (.bool zv) (.int .i64 zn) (.slice z1 z2 z3))) := rep_step (ob := .cells #[.bool yv, .int .i64 yn, .slice ya (Fo.len yk) yc] 55) HR.out (by rw [Hl2.out]; exact hlt) (by rw [Hy2.out, ← Hz.out]) (by rw [Hwa.out, ← hsa]; exact hb2) (by rw [← hsa]; exact hO2)
            clear hO2 hb2 p2'' p2' e0' e1' e2' g0' g1' g2'
            go_wp2_with fail
            go_roundw
            case rel => exact ⟨j + 1, by omega, by go_num, Hstep.out⟩
            case measure => simp [intOf]; omega
        · have hje : j = Fo.len k := by omega
          subst hje
          have p0 : wr.cell? ⟨w.heap.size + 1 + 1, 0, none⟩ = some (.bool false) := (HB.out.cell (by show w.heap.size + 1 + 1 < _; omega)).trans q0
          have p1 : wr.cell? ⟨w.heap.size + 1 + 1, 1, none⟩ = some (.int .i64 n) := (HB.out.cell (by show w.heap.size + 1 + 1 < _; omega)).trans q1
          have p2 : wr.cell? ⟨w.heap.size + 1 + 1, 2, none⟩ = some (.slice (some ⟨w.heap.size + 1 + 1 + 1, 0, none⟩) (Fo.len k) (Fo.len k)) := (HB.out.cell (by show w.heap.size + 1 + 1 < _; omega)).trans q2
          have s0 : wr.cell? ⟨w.heap.size + 1, 0, none⟩ = some (.bool false) := (HB.out.cell (by show w.heap.size + 1 < _; omega)).trans r0
          have s1 : wr.cell? ⟨w.heap.size + 1, 1, none⟩ = some (.int .i64 0) := (HB.out.cell (by show w.heap.size + 1 < _; omega)).trans r1
          have s2 : wr.cell? ⟨w.heap.size + 1, 2, none⟩ = some (.slice none 0 0) := (HB.out.cell (by show w.heap.size + 1 < _; omega)).trans r2
          have sf : ∀ i, wr.frozen? ⟨w.heap.size + 1, i, none⟩ = false := fun i => (HB.out.frozen (by show w.heap.size + 1 < _; omega)).trans (rf i)
          clear q0 q1 q2 r0 r1 r2 rf hT hB
          go_wp2_with fail
          refine bodyPost_ret (v := .agg #[.bool false, .int .i64 n, .slice (some ⟨w.heap.size + 1 + 1 + 1, 0, none⟩) (Fo.len k) (Fo.len k)]) (by simp [results, Tryz.results67, go_sem, s0, s1, s2]) rfl ⟨.slice (some ⟨w.heap.size + 1 + 1 + 1, 0, none⟩) (Fo.len k) (Fo.len k), ?_, ?_, set3_below (o := 0) hBw (by omega)⟩
          · rw [Hres.out]
          · rw [Hres.out]
            have hRe : RepRel (w.heap.size + 1 + 1 + 1) W2 (subF (bnd s) k) (Fo.len (subF (bnd s) k)) wr := by rw [Hl2.out]; exact HR.out
            have := rep_end (lo := w.heap.size) (w' := set3 wr (w.heap.size + 1) 0 (.bool false) (.int .i64 n) (.slice (some ⟨w.heap.size + 1 + 1 + 1, 0, none⟩) (Fo.len k) (Fo.len k))) hRe (by rw [Hl2.out]; exact Hpos.out) (by rw [Hl2.out]; exact hlen) (by omega) set3_size (fun q i hq => ⟨set3_other (.inl (by omega)), set3_frozen⟩)
            rw [Hl2.out] at this
            exact this
  · have Hres : Hid (subT (bnd s) ((true, n), k) = (bnd s) n) := rfl
    obtain ⟨⟨⟨zv, zn⟩, zk⟩, hz⟩ : ∃ z, z = (bnd s) n := ⟨_, rfl⟩
    have Hz := hide hz
    clear hz
    go_enter Tryz.func67, Tryz.ntmps67
    go_wp2_with fail
    generalize hW2 : (w.alloc (.cells #[.bool true, .int .i64 n, .slice ad (Fo.len k) c] 55)).alloc (.cells #[.bool false, .int .i64 0, .slice none 0 0] 55) = W2
    have hs2 : W2.heap.size = w.heap.size + 1 + 1 := by rw [← hW2]; simp
    have hB2 : Below w.heap.size w W2 := by rw [← hW2]; exact (below_alloc _ _).alloc (by simp) _
    have r0 : W2.cell? ⟨w.heap.size + 1, 0, none⟩ = some (.bool false) := by rw [← hW2]; exact new_cell (World.size_alloc _ _)
    have r1 : W2.cell? ⟨w.heap.size + 1, 1, none⟩ = some (.int .i64 0) := by rw [← hW2]; exact new_cell (World.size_alloc _ _)
    have r2 : W2.cell? ⟨w.heap.size + 1, 2, none⟩ = some (.slice none 0 0) := by rw [← hW2]; exact new_cell (World.size_alloc _ _)
    have rf : ∀ i, W2.frozen? ⟨w.heap.size + 1, i, none⟩ = false := fun i => by rw [← hW2]; exact new_frozen (World.size_alloc _ _)
    clear hW2
    refine (cloA_any s vs sb n W2 (invA_below s vs sb HInv.out hB2)).mono ?_
    rintro e w2 ⟨a', rfl, hO, hb⟩
    rw [← Hz.out] at hO ⊢
    obtain ⟨z1, z2, z3, rfl⟩ := slice_of_sin hO.toS
    have s0 := grow_cell hb _ _ r0
    have s1 := grow_cell hb _ _ r1
    have s2 := grow_cell hb _ _ r2
    have sf : ∀ i, w2.frozen? ⟨w.heap.size + 1, i, none⟩ = false := fun i => (hb.frozen (by show w.heap.size + 1 < _; omega)).trans (rf i)
    have HO := hide hO
    have hB3 := below_step hB2 hb
    clear hO r0 r1 r2 rf hb
    go_wp2_with fail
    refine bodyPost_ret (v := .agg #[.bool zv, .int .i64 zn, .slice z1 z2 z3]) (by simp [results, Tryz.results67, go_sem, s0, s1, s2]) rfl ⟨.slice z1 z2 z3, ?_, ?_, set3_below (o := 0) hB3 (by omega)⟩
    · rw [Hres.out, ← Hz.out]
    · rw [Hres.out, ← Hz.out]
      have h2 : OwnV (set3 w2 (w.heap.size + 1) 0 (.bool zv) (.int .i64 zn) (.slice z1 z2 z3)) W2.heap.size w2.heap.size zk (.slice z1 z2 z3) := HO.out.frame (fun q i q1 q2 => ⟨set3_other (.inl (by omega)), set3_frozen⟩)
      have h3 := h2.mono (lo' := w.heap.size) (hi' := (set3 w2 (w.heap.size + 1) 0 (.bool zv) (.int .i64 zn) (.slice z1 z2 z3)).heap.size) (by omega) (by rw [set3_size]; exact Nat.le_refl _)
      exact h3

set_option maxRecDepth 100000 in
set_option maxHeartbeats 400000 in
theorem apply_any (s : Sb) (vs : Value) (x : Bool × Int) (k : Fo) (a : Value) (w : World) (hV : SubIn w s vs) (hs : ∀ p ∈ s, narT p.2 ∧ okT p.2) (hS : SIn w k a) (hn : narT (x, k)) :
    Calls Tryz.prog 43 #[vs, .agg #[.bool x.1, .int .i64 x.2, a]] w fun e w' => ∃ a', e = .returned (.agg #[.bool (subT (bnd s) (x, k)).1.1, .int .i64 (subT (bnd s) (x, k)).1.2, a']) ∧ OwnV w' w.heap.size w'.heap.size (subT (bnd s) (x, k)).2 a' ∧ Below w.heap.size w w' := by
  obtain ⟨v, n⟩ := x
  have HS := hide hS
  have HV := hide hV
  have Hs := hide hs
  have Hn := hide hn
  obtain ⟨ad, c, b, o, rfl, -, -, -, -⟩ := hS
  obtain ⟨vd, vc, vb, vo, rfl, -, -, -, -⟩ := hV
  obtain ⟨⟨⟨zv, zn⟩, zk⟩, hz⟩ : ∃ z, z = subT (bnd s) ((v, n), k) := ⟨_, rfl⟩
  have Hz := hide hz
  clear hz hs hn
  go_enter Tryz.func43, Tryz.ntmps43
  go_wp2_with fail
  generalize hW2 : ((w.alloc (.cells #[.slice vd s.length vc] 59)).alloc (.cells #[.bool v, .int .i64 n, .slice ad (Fo.len k) c] 55)).alloc (.cells #[.bool false, .int .i64 0, .slice none 0 0] 55) = W2
  have hs2 : W2.heap.size = w.heap.size + 1 + 1 + 1 := by rw [← hW2]; simp
  have hB2 : Below w.heap.size w W2 := by rw [← hW2]; exact ((below_alloc _ _).alloc (by simp) _).alloc (by simp; omega) _
  have r0 : W2.cell? ⟨w.heap.size + 1 + 1, 0, none⟩ = some (.bool false) := by rw [← hW2]; exact new_cell (size2 _ _ _)
  have r1 : W2.cell? ⟨w.heap.size + 1 + 1, 1, none⟩ = some (.int .i64 0) := by rw [← hW2]; exact new_cell (size2 _ _ _)
  have r2 : W2.cell? ⟨w.heap.size + 1 + 1, 2, none⟩ = some (.slice none 0 0) := by rw [← hW2]; exact new_cell (size2 _ _ _)
  have rf : ∀ i, W2.frozen? ⟨w.heap.size + 1 + 1, i, none⟩ = false := fun i => by rw [← hW2]; exact new_frozen (size2 _ _ _)
  have hI : InvA s (.slice vd s.length vc) w.heap.size W2 := by
    refine ⟨?_, HV.out.below hB2, Hs.out⟩
    rw [← hW2, World.cell?_alloc_lt _ _ _ (by show w.heap.size < _; rw [size2]; omega), World.cell?_alloc_lt _ _ _ (by simp)]
    exact new_cell rfl
  clear hW2
  refine (repA_any s _ w.heap.size (v, n) k _ W2 hI (HS.out.below hB2) Hn.out.1 Hn.out.2).mono ?_
  rintro e w2 ⟨a', rfl, hO, hb⟩
  rw [← Hz.out] at hO ⊢
  obtain ⟨z1, z2, z3, rfl⟩ := slice_of_sin hO.toS
  have s0 := grow_cell hb _ _ r0
  have s1 := grow_cell hb _ _ r1
  have s2 := grow_cell hb _ _ r2
  have sf : ∀ i, w2.frozen? ⟨w.heap.size + 1 + 1, i, none⟩ = false := fun i => (hb.frozen (by show w.heap.size + 1 + 1 < _; omega)).trans (rf i)
  have HO := hide hO
  have hB3 := below_step hB2 hb
  clear hO r0 r1 r2 rf hb hI
  go_wp2_with fail
  refine bodyPost_ret (v := .agg #[.bool zv, .int .i64 zn, .slice z1 z2 z3]) (by simp [results, Tryz.results43, go_sem, s0, s1, s2]) rfl ⟨.slice z1 z2 z3, by rw [← Hz.out], ?_, set3_below (o := 0) hB3 (by omega)⟩
  rw [← Hz.out]
  have h2 : OwnV (set3 w2 (w.heap.size + 1 + 1) 0 (.bool zv) (.int .i64 zn) (.slice z1 z2 z3)) W2.heap.size w2.heap.size zk (.slice z1 z2 z3) := HO.out.frame (fun q i q1 q2 => ⟨set3_other (.inl (by omega)), set3_frozen⟩)
  exact h2.mono (lo' := w.heap.size) (hi' := (set3 w2 (w.heap.size + 1 + 1) 0 (.bool zv) (.int .i64 zn) (.slice z1 z2 z3)).heap.size) (by omega) (by rw [set3_size]; exact Nat.le_refl _)

end Go.Proofs.YtaliegkkdhkfcacGreatDoor

namespace Go.Proofs.YtaliegkkdhkfcacGreatDoor
open Go.RowKit Go.Deep Go.ChangeShapes Go.WideShapes
attribute [local go_sem ↓] Go.wp_at_zero Go.wp_at_succ

def ren (d n : Int) : Tm := vr (wrap64 (n + d))
def InvR (d : Int) (bb : Nat) (w : World) : Prop := w.cell? ⟨bb, 0, none⟩ = some (.int .i64 d)
theorem invR_below (d : Int) (bb : Nat) {w w' : World} (h : InvR d bb w) (hb : Below w.heap.size w w') : InvR d bb w' := grow_cell hb _ _ h

set_option maxRecDepth 100000 in
set_option maxHeartbeats 400000 in
theorem cloR_any (d : Int) (bb : Nat) (n : Int) (w : World) (h : InvR d bb w) : Calls Tryz.prog 82 #[.int .i64 n, .pointer (some ⟨bb, 0, none⟩)] w fun e w' => ∃ a, e = .returned (.agg #[.bool (ren d n).1.1, .int .i64 (ren d n).1.2, a]) ∧ OwnV w' w.heap.size w'.heap.size (ren d n).2 a ∧ Below w.heap.size w w' := by
  have hsb : bb < w.heap.size := World.block_lt_of_cell? _ _ h
  have hc' : (w.alloc (.cells #[.bool false, .int .i64 0, .slice none 0 0] 55)).cell? ⟨bb, 0, none⟩ = some (.int .i64 d) := by rw [World.cell?_alloc_lt _ _ _ hsb]; exact h
  clear h
  go_enter Tryz.func82, Tryz.ntmps82
  go_wp2_with fail
  generalize hW2 : w.alloc (.cells #[.bool false, .int .i64 0, .slice none 0 0] 55) = W2 at *
  have hs2 : W2.heap.size = w.heap.size + 1 := by rw [← hW2]; simp
  have hB2 : Below w.heap.size w W2 := by rw [← hW2]; exact below_alloc _ _
  have r0 : W2.cell? ⟨w.heap.size, 0, none⟩ = some (.bool false) := by rw [← hW2]; exact new_cell rfl
  have r1 : W2.cell? ⟨w.heap.size, 1, none⟩ = some (.int .i64 0) := by rw [← hW2]; exact new_cell rfl
  have r2 : W2.cell? ⟨w.heap.size, 2, none⟩ = some (.slice none 0 0) := by rw [← hW2]; exact new_cell rfl
  have rf : ∀ i, W2.frozen? ⟨w.heap.size, i, none⟩ = false := fun i => by rw [← hW2]; exact new_frozen rfl
  clear hW2
  refine (variable_any _ W2).mono ?_
  rintro e w3 ⟨a, rfl, hO, hb⟩
  obtain ⟨z1, z2, z3, rfl⟩ := slice_of_sin hO.toS
  have t0 := grow_cell hb _ _ r0
  have t1 := grow_cell hb _ _ r1
  have t2 := grow_cell hb _ _ r2
  have tf : ∀ i, w3.frozen? ⟨w.heap.size, i, none⟩ = false := fun i => (hb.frozen (by show w.heap.size < _; omega)).trans (rf i)
  have hB4 := below_step hB2 hb
  have HO := hide hO
  have hs3 := hb.size
  clear r0 r1 r2 rf hb hO hc'
  simp only [vr]
  go_wp2_with fail
  refine bodyPost_ret (v := .agg #[.bool true, .int .i64 (wrap64 (n + d)), .slice z1 z2 z3]) (by simp [results, Tryz.results82, go_sem, t0, t1, t2, wrap64]) rfl ⟨.slice z1 z2 z3, rfl, ?_, set3_below (o := 0) hB4 (Nat.le_refl _)⟩
  have h2 : OwnV (set3 w3 w.heap.size 0 (.bool true) (.int .i64 (wrap64 (n + d))) (.slice z1 z2 z3)) W2.heap.size w3.heap.size .nil (.slice z1 z2 z3) := HO.out.frame (fun q i q1 q2 => ⟨set3_other (.inl (by omega)), set3_frozen⟩)
  exact h2.mono (lo' := w.heap.size) (hi' := (set3 w3 w.heap.size 0 (.bool true) (.int .i64 (wrap64 (n + d))) (.slice z1 z2 z3)).heap.size) (by omega) (by rw [set3_size]; exact Nat.le_refl _)

def RepRSaid (d : Int) (bb : Nat) (x : Bool × Int) (k : Fo) : Prop := ∀ (a : Value) (w : World), InvR d bb w → SIn w k a → Fo.len k ≤ 1000 → Fo.narrow k →
    Calls Tryz.prog 67 #[.agg #[.bool x.1, .int .i64 x.2, a], .func (.func 82) #[] #[.pointer (some ⟨bb, 0, none⟩)]] w fun e w' => ∃ a', e = .returned (.agg #[.bool (subT (ren d) (x, k)).1.1, .int .i64 (subT (ren d) (x, k)).1.2, a']) ∧ OwnV w' w.heap.size w'.heap.size (subT (ren d) (x, k)).2 a' ∧ Below w.heap.size w w'

set_option maxRecDepth 100000 in
set_option maxHeartbeats 1000000 in
theorem repR_any (d : Int) (bb : Nat) (x : Bool × Int) (k : Fo) : RepRSaid d bb x k := by
  refine Fo.ind1 (p := RepRSaid d bb ) ?_ x k
  clear x k
  intro x k ih a w hInv hS hlen hnar
  obtain ⟨v, n⟩ := x
  obtain ⟨ad, c, b, o, rfl, had, hlc, hcm, hF⟩ := hS
  have Hl := hide (Fo.len_list k)
  have HI := hide ih
  have HF := hide hF
  have Hnar := hide hnar
  have HInv := hide hInv
  clear ih hF hnar hInv
  unfold maxLen at hcm
  cases v
  · have Hres : Hid (subT (ren d) ((false, n), k) = ((false, n), subF (ren d) k)) := rfl
    by_cases h0 : Fo.len k = 0
    · have h0' : ¬ (0 : Int) < (Fo.len k : Int) := by omega
      have Hk := hide (len_zero h0)
      clear h0
      go_enter Tryz.func67, Tryz.ntmps67
      go_wp2_with fail
      go_loopw [29] (fun i wr => i = .int .i64 0 ∧ wr = ((w.alloc (.cells #[.bool false, .int .i64 n, .slice ad (Fo.len k) c] 55)).alloc (.cells #[.bool false, .int .i64 0, .slice none 0 0] 55)).alloc (.cells #[.bool false, .int .i64 n, .slice none 0 0] 55)) (fun _ _ => 0)
      case atStart => exact ⟨rfl, rfl⟩
      case round =>
        obtain ⟨rfl, rfl⟩ := hrel
        go_wp2_with fail
        refine bodyPost_ret (v := .agg #[.bool false, .int .i64 n, .slice none 0 0]) (by simp [results, Tryz.results67, go_sem]) rfl ⟨.slice none 0 0, ?_, ?_, ?_⟩
        · rw [Hres.out]
        · rw [Hres.out]; exact .inl ⟨by rw [Hk.out]; rfl, rfl⟩
        · exact ((below_alloc _ _).alloc (by simp) _).alloc (by simp; omega) _
    · have h0' : (0 : Int) < (Fo.len k : Int) := by omega
      have ha : ad = some ⟨b, o, none⟩ := had (by omega)
      subst ha
      have Hpos : Hid (0 < Fo.len k) := by unfold Hid; omega
      have hdec : decide (0 < Fo.len k) = true := by simp; omega
      clear h0 had
      obtain ⟨i26, hi, hz0, hz1, hz2⟩ := info_parts Tryz.info55
      have hmk := fun w : World => run_make (P := Tryz.prog) w 53 55 i26 _ Tryz.underlying53 hi hz0 .i64 .i64 (Fo.len k : Int) (Fo.len k : Int) (by omega) (by omega) (by rw [hz2]; omega) (by omega)
      rw [hz1] at hmk
      simp only [Int.toNat_natCast] at hmk
      have Hl2 := hide (subF_len (ren d) k)
      go_enter Tryz.func67, Tryz.ntmps67
      go_wp2_with fail
      clear hmk hi hz0 hz1 hz2
      generalize hW2 : ((w.alloc (.cells #[.bool false, .int .i64 n, .slice (some ⟨b, o, none⟩) (Fo.len k) c] 55)).alloc (.cells #[.bool false, .int .i64 0, .slice none 0 0] 55)).alloc (.cells #[.bool false, .int .i64 n, .slice (some ⟨w.heap.size + 1 + 1 + 1, 0, none⟩) (Fo.len k) (Fo.len k)] 55) = W2
      have hs2 : W2.heap.size = w.heap.size + 1 + 1 + 1 := by rw [← hW2]; simp
      have HB2 : Hid (Below w.heap.size w W2) := by rw [← hW2]; exact ((below_alloc _ _).alloc (by simp) _).alloc (by simp; omega) _
      have r0 : W2.cell? ⟨w.heap.size + 1, 0, none⟩ = some (.bool false) := by rw [← hW2, World.cell?_alloc_lt _ _ _ (by show w.heap.size + 1 < _; rw [size2]; omega)]; exact new_cell (World.size_alloc _ _)
      have r1 : W2.cell? ⟨w.heap.size + 1, 1, none⟩ = some (.int .i64 0) := by rw [← hW2, World.cell?_alloc_lt _ _ _ (by show w.heap.size + 1 < _; rw [size2]; omega)]; exact new_cell (World.size_alloc _ _)
      have r2 : W2.cell? ⟨w.heap.size + 1, 2, none⟩ = some (.slice none 0 0) := by rw [← hW2, World.cell?_alloc_lt _ _ _ (by show w.heap.size + 1 < _; rw [size2]; omega)]; exact new_cell (World.size_alloc _ _)
      have rf : ∀ i, W2.frozen? ⟨w.heap.size + 1, i, none⟩ = false := fun i => by rw [← hW2, (below_alloc _ _).frozen (by show w.heap.size + 1 < _; rw [size2]; omega)]; exact new_frozen (World.size_alloc _ _)
      have q0 : W2.cell? ⟨w.heap.size + 1 + 1, 0, none⟩ = some (.bool false) := by rw [← hW2]; exact new_cell (size2 _ _ _)
      have q1 : W2.cell? ⟨w.heap.size + 1 + 1, 1, none⟩ = some (.int .i64 n) := by rw [← hW2]; exact new_cell (size2 _ _ _)
      have q2 : W2.cell? ⟨w.heap.size + 1 + 1, 2, none⟩ = some (.slice (some ⟨w.heap.size + 1 + 1 + 1, 0, none⟩) (Fo.len k) (Fo.len k)) := by rw [← hW2]; exact new_cell (size2 _ _ _)
      have HQ := hide (And.intro q0 (And.intro q1 (And.intro q2 (And.intro r0 (And.intro r1 (And.intro r2 rf))))))
      have H0 : Hid (RepRel (w.heap.size + 1 + 1 + 1) W2 (subF (ren d) k) 0 (W2.alloc (.cells (madeCells #[.bool false, .int .i64 0, .slice none 0 0] (Fo.len k * 3)) 55))) := by
        have := rep_start W2 (subF (ren d) k) #[.bool false, .int .i64 0, .slice none 0 0]
        rw [Hl2.out, hs2] at this
        exact this
      have Hs2 := hide hs2
      clear q0 q1 q2 r0 r1 r2 rf hs2 hW2
      go_loopw [29] (fun i wr => ∃ j : Nat, j ≤ Fo.len k ∧ i = .int .i64 j ∧ RepRel (w.heap.size + 1 + 1 + 1) W2 (subF (ren d) k) j wr) (fun i _ => Fo.len k - (intOf i).toNat)
      case atStart => exact ⟨0, Nat.zero_le _, rfl, H0.out⟩
      case round =>
        obtain ⟨j, hj, rfl, hR⟩ := hrel
        have HR := hide hR
        obtain ⟨hB, hT, -, hsz⟩ := hR
        have HB := hide hB
        have hs2 := Hs2.out
        have hBw : Below w.heap.size w wr := HB2.out.trans (hB.mono (by omega))
        obtain ⟨q0, q1, q2, r0, r1, r2, rf⟩ := HQ.out
        by_cases hlt : j < Fo.len k
        · have hlt' : (j : Int) < (Fo.len k : Int) := by omega
          obtain ⟨⟨⟨yv, yn⟩, yk⟩, hy⟩ : ∃ y, k.list[j]? = some y := ⟨k.list[j]'(by rw [Hl.out]; exact hlt), by simp⟩
          obtain ⟨c0, c1, yv', c2, hSy⟩ := (HF.out.below hBw).at hy
          have HS := hide hSy
          obtain ⟨ya, yc, yb, yo, rfl, -, -, -, -⟩ := hSy
          have Hny := hide (narrow_at Hnar.out hy)
          have Hy := hide hy
          have Hy2 : Hid ((subF (ren d) k).list[j]? = some (subT (ren d) ((yv, yn), yk))) := by rw [Hid, subF_list, List.getElem?_map, hy]; rfl
          have hT' : There wr (w.heap.size + 1 + 1 + 1) (Fo.len k * 3) := by rw [← Hl2.out]; exact hT
          obtain ⟨⟨t0, e0⟩, f0⟩ := hT' (j * 3) (by omega)
          obtain ⟨⟨t1, e1⟩, f1⟩ := hT' (j * 3 + 1) (by omega)
          obtain ⟨⟨t2, e2⟩, f2⟩ := hT' (j * 3 + 2) (by omega)
          have p2 : wr.cell? ⟨w.heap.size + 1 + 1, 2, none⟩ = some (.slice (some ⟨w.heap.size + 1 + 1 + 1, 0, none⟩) (Fo.len k) (Fo.len k)) := (HB.out.cell (by show w.heap.size + 1 + 1 < _; omega)).trans q2
          clear hy hT hT' hB q0 q1 q2 r0 r1 r2 rf
          go_upto_region 9 with fail
          generalize hwa : wr.alloc (.cells #[.bool yv, .int .i64 yn, .slice ya (Fo.len yk) yc] 55) = wa
          have a0 : wa.cell? ⟨wr.heap.size, 0, none⟩ = some (.bool yv) := by rw [← hwa]; simp
          have a1 : wa.cell? ⟨wr.heap.size, 1, none⟩ = some (.int .i64 yn) := by rw [← hwa]; simp
          have a2 : wa.cell? ⟨wr.heap.size, 2, none⟩ = some (.slice ya (Fo.len yk) yc) := by rw [← hwa]; simp
          have hba : Below wr.heap.size wr wa := by rw [← hwa]; exact below_alloc _ _
          have hsa : wa.heap.size = wr.heap.size + 1 := by rw [← hwa]; simp
          have Hwa : Hid (wr.alloc (.cells #[.bool yv, .int .i64 yn, .slice ya (Fo.len yk) yc] 55) = wa) := hwa
          have p2' := grow_cell hba _ _ p2
          have e0' := grow_cell hba _ _ e0
          have e1' := grow_cell hba _ _ e1
          have e2' := grow_cell hba _ _ e2
          have hlt3 : w.heap.size + 1 + 1 + 1 < wr.heap.size := by omega
          have g0' : wa.frozen? ⟨w.heap.size + 1 + 1 + 1, j * 3, none⟩ = false := (hba.frozen hlt3).trans f0
          have g1' : wa.frozen? ⟨w.heap.size + 1 + 1 + 1, j * 3 + 1, none⟩ = false := (hba.frozen hlt3).trans f1
          have g2' : wa.frozen? ⟨w.heap.size + 1 + 1 + 1, j * 3 + 2, none⟩ = false := (hba.frozen hlt3).trans f2
          have HIa : Hid (InvR d bb wa.drew) := invR_below d bb (invR_below d bb HInv.out (below_step hBw hba)) (Below.refl _ _).drew
          have HSa : Hid (SIn wa.drew yk (.slice ya (Fo.len yk) yc)) := (HS.out.below hba).drew
          obtain ⟨⟨⟨zv, zn⟩, zk⟩, hz⟩ : ∃ z, z = subT (ren d) ((yv, yn), yk) := ⟨_, rfl⟩
          have Hz := hide hz
          have hlt4 : w.heap.size + 1 + 1 + 1 < wa.heap.size := by omega
          have hcall : Calls Tryz.prog 67 #[.agg #[.bool yv, .int .i64 yn, .slice ya (Fo.len yk) yc], .func (.func 82) #[] #[.pointer (some ⟨bb, 0, none⟩)]] wa.drew fun e w' => ∃ (a1 : Option Addr) (a2 a3 : Nat), e = .returned (.agg #[.bool zv, .int .i64 zn, .slice a1 a2 a3]) ∧ OwnV w' wa.heap.size w'.heap.size zk (.slice a1 a2 a3) ∧ Below wa.heap.size wa w' := by
            have h := HI.out ((yv, yn), yk) (List.mem_of_getElem? Hy.out) _ wa.drew HIa.out HSa.out Hny.out.1 Hny.out.2
            refine h.mono ?_
            rintro e w2 ⟨a', rfl, hO, hb⟩
            rw [← Hz.out] at hO
            obtain ⟨z1, z2, z3, rfl⟩ := slice_of_sin hO.toS
            exact ⟨z1, z2, z3, by rw [← Hz.out], hO, ((Below.refl _ _).drew).trans hb⟩
          have Hcall := hide hcall
          clear hwa hz hcall e0 e1 e2 f0 f1 f2 p2 c0 c1 c2 hBw hba
          go_region_with (first
            | (go_at_call 67; refine Hcall.out.mono ?_; rintro e w2 ⟨z1, z2, z3, rfl, hO2, hb2⟩; have p2'' := grow_cell hb2 _ _ p2'; have e0'' := grow_cell hb2 _ _ e0'; have e1'' := grow_cell hb2 _ _ e1'; have e2'' := grow_cell hb2 _ _ e2'; have g0'' := (hb2.frozen hlt4).trans g0'; have g1'' := (hb2.frozen hlt4).trans g1'; have g2'' := (hb2.frozen hlt4).trans g2'))
          all_goals
            have Hstep : Hid (RepRel (w.heap.size + 1 + 1 + 1) W2 (subF (ren d) k) (j + 1) (set3 w2 (w.heap.size + 1 + 1 + 1) (j * 3) (.bool zv) (.int .i64 zn) (.slice z1 z2 z3))) := rep_step (ob := .cells #[.bool yv, .int .i64 yn, .slice ya (Fo.len yk) yc] 55) HR.out (by rw [Hl2.out]; exact hlt) (by rw [Hy2.out, ← Hz.out]) (by rw [Hwa.out, ← hsa]; exact hb2) (by rw [← hsa]; exact hO2)
            clear hO2 hb2 p2'' p2' e0' e1' e2' g0' g1' g2'
            go_wp2_with fail
            go_roundw
            case rel => exact ⟨j + 1, by omega, by go_num, Hstep.out⟩
            case measure => simp [intOf]; omega
        · have hje : j = Fo.len k := by omega
          subst hje
          have p0 : wr.cell? ⟨w.heap.size + 1 + 1, 0, none⟩ = some (.bool false) := (HB.out.cell (by show w.heap.size + 1 + 1 < _; omega)).trans q0
          have p1 : wr.cell? ⟨w.heap.size + 1 + 1, 1, none⟩ = some (.int .i64 n) := (HB.out.cell (by show w.heap.size + 1 + 1 < _; omega)).trans q1
          have p2 : wr.cell? ⟨w.heap.size + 1 + 1, 2, none⟩ = some (.slice (some ⟨w.heap.size + 1 + 1 + 1, 0, none⟩) (Fo.len k) (Fo.len k)) := (HB.out.cell (by show w.heap.size + 1 + 1 < _; omega)).trans q2
          have s0 : wr.cell? ⟨w.heap.size + 1, 0, none⟩ = some (.bool false) := (HB.out.cell (by show w.heap.size + 1 < _; omega)).trans r0
          have s1 : wr.cell? ⟨w.heap.size + 1, 1, none⟩ = some (.int .i64 0) := (HB.out.cell (by show w.heap.size + 1 < _; omega)).trans r1
          have s2 : wr.cell? ⟨w.heap.size + 1, 2, none⟩ = some (.slice none 0 0) := (HB.out.cell (by show w.heap.size + 1 < _; omega)).trans r2
          have sf : ∀ i, wr.frozen? ⟨w.heap.size + 1, i, none⟩ = false := fun i => (HB.out.frozen (by show w.heap.size + 1 < _; omega)).trans (rf i)
          clear q0 q1 q2 r0 r1 r2 rf hT hB
          go_wp2_with fail
          refine bodyPost_ret (v := .agg #[.bool false, .int .i64 n, .slice (some ⟨w.heap.size + 1 + 1 + 1, 0, none⟩) (Fo.len k) (Fo.len k)]) (by simp [results, Tryz.results67, go_sem, s0, s1, s2]) rfl ⟨.slice (some ⟨w.heap.size + 1 + 1 + 1, 0, none⟩) (Fo.len k) (Fo.len k), ?_, ?_, set3_below (o := 0) hBw (by omega)⟩
          · rw [Hres.out]
          · rw [Hres.out]
            have hRe : RepRel (w.heap.size + 1 + 1 + 1) W2 (subF (ren d) k) (Fo.len (subF (ren d) k)) wr := by rw [Hl2.out]; exact HR.out
            have := rep_end (lo := w.heap.size) (w' := set3 wr (w.heap.size + 1) 0 (.bool false) (.int .i64 n) (.slice (some ⟨w.heap.size + 1 + 1 + 1, 0, none⟩) (Fo.len k) (Fo.len k))) hRe (by rw [Hl2.out]; exact Hpos.out) (by rw [Hl2.out]; exact hlen) (by omega) set3_size (fun q i hq => ⟨set3_other (.inl (by omega)), set3_frozen⟩)
            rw [Hl2.out] at this
            exact this
  · have Hres : Hid (subT (ren d) ((true, n), k) = (ren d) n) := rfl
    obtain ⟨⟨⟨zv, zn⟩, zk⟩, hz⟩ : ∃ z, z = (ren d) n := ⟨_, rfl⟩
    have Hz := hide hz
    clear hz
    go_enter Tryz.func67, Tryz.ntmps67
    go_wp2_with fail
    generalize hW2 : (w.alloc (.cells #[.bool true, .int .i64 n, .slice ad (Fo.len k) c] 55)).alloc (.cells #[.bool false, .int .i64 0, .slice none 0 0] 55) = W2
    have hs2 : W2.heap.size = w.heap.size + 1 + 1 := by rw [← hW2]; simp
    have hB2 : Below w.heap.size w W2 := by rw [← hW2]; exact (below_alloc _ _).alloc (by simp) _
    have r0 : W2.cell? ⟨w.heap.size + 1, 0, none⟩ = some (.bool false) := by rw [← hW2]; exact new_cell (World.size_alloc _ _)
    have r1 : W2.cell? ⟨w.heap.size + 1, 1, none⟩ = some (.int .i64 0) := by rw [← hW2]; exact new_cell (World.size_alloc _ _)
    have r2 : W2.cell? ⟨w.heap.size + 1, 2, none⟩ = some (.slice none 0 0) := by rw [← hW2]; exact new_cell (World.size_alloc _ _)
    have rf : ∀ i, W2.frozen? ⟨w.heap.size + 1, i, none⟩ = false := fun i => by rw [← hW2]; exact new_frozen (World.size_alloc _ _)
    clear hW2
    refine (cloR_any d bb n W2 (invR_below d bb HInv.out hB2)).mono ?_
    rintro e w2 ⟨a', rfl, hO, hb⟩
    rw [← Hz.out] at hO ⊢
    obtain ⟨z1, z2, z3, rfl⟩ := slice_of_sin hO.toS
    have s0 := grow_cell hb _ _ r0
    have s1 := grow_cell hb _ _ r1
    have s2 := grow_cell hb _ _ r2
    have sf : ∀ i, w2.frozen? ⟨w.heap.size + 1, i, none⟩ = false := fun i => (hb.frozen (by show w.heap.size + 1 < _; omega)).trans (rf i)
    have HO := hide hO
    have hB3 := below_step hB2 hb
    clear hO r0 r1 r2 rf hb
    go_wp2_with fail
    refine bodyPost_ret (v := .agg #[.bool zv, .int .i64 zn, .slice z1 z2 z3]) (by simp [results, Tryz.results67, go_sem, s0, s1, s2]) rfl ⟨.slice z1 z2 z3, ?_, ?_, set3_below (o := 0) hB3 (by omega)⟩
    · rw [Hres.out, ← Hz.out]
    · rw [Hres.out, ← Hz.out]
      have h2 : OwnV (set3 w2 (w.heap.size + 1) 0 (.bool zv) (.int .i64 zn) (.slice z1 z2 z3)) W2.heap.size w2.heap.size zk (.slice z1 z2 z3) := HO.out.frame (fun q i q1 q2 => ⟨set3_other (.inl (by omega)), set3_frozen⟩)
      have h3 := h2.mono (lo' := w.heap.size) (hi' := (set3 w2 (w.heap.size + 1) 0 (.bool zv) (.int .i64 zn) (.slice z1 z2 z3)).heap.size) (by omega) (by rw [set3_size]; exact Nat.le_refl _)
      exact h3

set_option maxRecDepth 100000 in
set_option maxHeartbeats 400000 in
theorem rename_any (d : Int) (x : Bool × Int) (k : Fo) (a : Value) (w : World) (hS : SIn w k a) (hn : narT (x, k)) :
    Calls Tryz.prog 53 #[.agg #[.bool x.1, .int .i64 x.2, a], .int .i64 d] w fun e w' => ∃ a', e = .returned (.agg #[.bool (subT (ren d) (x, k)).1.1, .int .i64 (subT (ren d) (x, k)).1.2, a']) ∧ OwnV w' w.heap.size w'.heap.size (subT (ren d) (x, k)).2 a' ∧ Below w.heap.size w w' := by
  obtain ⟨v, n⟩ := x
  have HS := hide hS
  have Hn := hide hn
  obtain ⟨ad, c, b, o, rfl, -, -, -, -⟩ := hS
  obtain ⟨⟨⟨zv, zn⟩, zk⟩, hz⟩ : ∃ z, z = subT (ren d) ((v, n), k) := ⟨_, rfl⟩
  have Hz := hide hz
  clear hz hn
  go_enter Tryz.func53, Tryz.ntmps53
  go_wp2_with fail
  generalize hW2 : ((w.alloc (.cells #[.bool v, .int .i64 n, .slice ad (Fo.len k) c] 55)).alloc (.cells #[.int .i64 d] 3)).alloc (.cells #[.bool false, .int .i64 0, .slice none 0 0] 55) = W2
  have hs2 : W2.heap.size = w.heap.size + 1 + 1 + 1 := by rw [← hW2]; simp
  have hB2 : Below w.heap.size w W2 := by rw [← hW2]; exact ((below_alloc _ _).alloc (by simp) _).alloc (by simp; omega) _
  have r0 : W2.cell? ⟨w.heap.size + 1 + 1, 0, none⟩ = some (.bool false) := by rw [← hW2]; exact new_cell (size2 _ _ _)
  have r1 : W2.cell? ⟨w.heap.size + 1 + 1, 1, none⟩ = some (.int .i64 0) := by rw [← hW2]; exact new_cell (size2 _ _ _)
  have r2 : W2.cell? ⟨w.heap.size + 1 + 1, 2, none⟩ = some (.slice none 0 0) := by rw [← hW2]; exact new_cell (size2 _ _ _)
  have rf : ∀ i, W2.frozen? ⟨w.heap.size + 1 + 1, i, none⟩ = false := fun i => by rw [← hW2]; exact new_frozen (size2 _ _ _)
  have hI : InvR d (w.heap.size + 1) W2 := by
    unfold InvR
    rw [← hW2, World.cell?_alloc_lt _ _ _ (by show w.heap.size + 1 < _; rw [size2]; omega)]
    exact new_cell (World.size_alloc _ _)
  clear hW2
  refine (repR_any d (w.heap.size + 1) (v, n) k _ W2 hI (HS.out.below hB2) Hn.out.1 Hn.out.2).mono ?_
  rintro e w2 ⟨a', rfl, hO, hb⟩
  rw [← Hz.out] at hO ⊢
  obtain ⟨z1, z2, z3, rfl⟩ := slice_of_sin hO.toS
  have s0 := grow_cell hb _ _ r0
  have s1 := grow_cell hb _ _ r1
  have s2 := grow_cell hb _ _ r2
  have sf : ∀ i, w2.frozen? ⟨w.heap.size + 1 + 1, i, none⟩ = false := fun i => (hb.frozen (by show w.heap.size + 1 + 1 < _; omega)).trans (rf i)
  have HO := hide hO
  have hB3 := below_step hB2 hb
  clear hO r0 r1 r2 rf hb hI
  go_wp2_with fail
  refine bodyPost_ret (v := .agg #[.bool zv, .int .i64 zn, .slice z1 z2 z3]) (by simp [results, Tryz.results53, go_sem, s0, s1, s2]) rfl ⟨.slice z1 z2 z3, by rw [← Hz.out], ?_, set3_below (o := 0) hB3 (by omega)⟩
  rw [← Hz.out]
  have h2 : OwnV (set3 w2 (w.heap.size + 1 + 1) 0 (.bool zv) (.int .i64 zn) (.slice z1 z2 z3)) W2.heap.size w2.heap.size zk (.slice z1 z2 z3) := HO.out.frame (fun q i q1 q2 => ⟨set3_other (.inl (by omega)), set3_frozen⟩)
  exact h2.mono (lo' := w.heap.size) (hi' := (set3 w2 (w.heap.size + 1 + 1) 0 (.bool zv) (.int .i64 zn) (.slice z1 z2 z3)).heap.size) (by omega) (by rw [set3_size]; exact Nat.le_refl _)

end Go.Proofs.YtaliegkkdhkfcacGreatDoor
