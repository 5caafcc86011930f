/- CNo D6e BSz D6f RegInv D6g -/
import Derived.Test.YtaliegkkdhkfcacGreatDoorG13
import Derived.Deep.RegionHeld3
import Derived.Test.YtaliegkkdhkfcacGreatDoorRows
import Derived.WalkKit
import Derived.RegionTactic
namespace Go.Proofs.YtaliegkkdhkfcacGreatDoor
open Go.RowKit Go.Deep Go.ChangeShapes Go.WideShapes

set_option maxRecDepth 100000 in
set_option maxHeartbeats 4000000 in
theorem norm_anyX (k : Cl) (a : Value) (w : World) (hS : CIn w k a) (hg : GX k) :
    Calls Tryz.prog 45 #[a] w fun e w' => ∃ v, e = .returned (.tuple #[v, .int .i64 (normC k).1]) ∧ CIn w' (normC k).2 v ∧ Below w.heap.size w w' := by
  have HS := hide hS
  obtain ⟨a1, a3, rfl⟩ := slice_of_cl hS
  clear hS
  have Hcs := hide (norm_casesX hg)
  have hk4 := hg.1
  have HG : Hid (∀ l ∈ k, Gd l.2.1 ∧ Gd l.2.2 ∧ tszR l.2.1.2 ≤ 4000000000000 ∧ tszR l.2.2.2 ≤ 4000000000000) := fun l hl => ⟨(hg.2 l hl).gl, (hg.2 l hl).gr, (hg.2 l hl).sl, (hg.2 l hl).sr⟩
  go_enter Tryz.func45, Tryz.ntmps45
  go_wp2_with fail
  refine (turn_any k _ _ HS.out HG.out (by omega)).mono ?_
  rintro e w1 ⟨v1, er, d, rfl, hC1, hcs, hb1⟩
  rcases hcs with ⟨rfl, rfl, ht⟩ | ⟨rfl, ht⟩
  · have Hn : Hid (normC k = (6, [])) := by
      rcases Hcs.out with ⟨_, h⟩ | ⟨d, h, _⟩
      · exact h
      · rw [ht] at h; cases h
    obtain ⟨z1, z3, rfl⟩ := slice_of_cl hC1
    clear hC1 ht
    go_wp2_with fail
    go_ret2
    exact ⟨.slice none 0 0, by rw [Hn.out]; rfl, by rw [Hn.out]; exact CIn.nil _, hb1⟩
  · have Hrest : Hid (GX d ∧ GX (reN d) ∧ ((distC (reN d) = none ∧ normC k = (6, [])) ∨ ∃ e, distC (reN d) = some e ∧ GX e ∧ normC k = keepC d e)) := by
      rcases Hcs.out with ⟨h, _⟩ | ⟨d', h, h2⟩
      · rw [ht] at h; cases h
      · rw [ht] at h; cases h; exact h2
    have HC1 := hide hC1
    obtain ⟨z1, z3, rfl⟩ := slice_of_cl hC1
    clear hC1 ht
    have hd4 := Hrest.out.1.1
    have hv5 := gx_vars Hrest.out.1.2
    go_wp2_with fail
    refine (varsCl_any d _ _ HC1.out (by omega)).mono ?_
    rintro e w2 ⟨vv, rfl, hN, hb2⟩
    have HN := hide hN
    obtain ⟨y1, y3, rfl⟩ := nin_slice hN
    have hB2 := below_step hb1 hb2
    clear hN
    go_wp2_with fail
    refine (number_any d _ (varsC d []) _ _ (HC1.out.below hb2) HN.out (fun l hl => ⟨(Hrest.out.1.2 l hl).gl.nar, (Hrest.out.1.2 l hl).gr.nar⟩) (by omega) (by omega)).mono ?_
    rintro e w3 ⟨g, rfl, hC3, hb3⟩
    have HC3 : Hid (CIn w3 (reN d) (.slice (some ⟨g, 0, none⟩) d.length d.length)) := hC3
    have hB3 := below_step hB2 hb3
    clear hC3 hb2 hb3
    go_wp2_with fail
    refine (distinct_any (reN d) _ _ HC3.out (by have := Hrest.out.2.1.1; omega)).mono ?_
    rintro e w4 ⟨v4, er, f, rfl, hC4, hcs, hb4⟩
    have hB4 := below_step hB3 hb4
    rcases hcs with ⟨rfl, rfl, ht⟩ | ⟨rfl, ht⟩
    · have Hn : Hid (normC k = (6, [])) := by
        rcases Hrest.out.2.2 with ⟨_, h⟩ | ⟨d, h, _⟩
        · exact h
        · rw [ht] at h; cases h
      obtain ⟨x1, x3, rfl⟩ := slice_of_cl hC4
      clear hC4 ht
      go_wp2_with fail
      go_ret2
      exact ⟨.slice none 0 0, by rw [Hn.out]; rfl, by rw [Hn.out]; exact CIn.nil _, hB4⟩
    · have Hn : Hid (GX f ∧ normC k = keepC d f) := by
        rcases Hrest.out.2.2 with ⟨h, _⟩ | ⟨d, h, h2⟩
        · rw [ht] at h; cases h
        · rw [ht] at h; cases h; exact h2
      have HC4 := hide hC4
      obtain ⟨x1, x3, rfl⟩ := slice_of_cl hC4
      clear hC4 ht hb4
      have Hkb := hide (fun h => keep_big (d := d) (e := f) h)
      have Hko := hide (fun h1 h2 h3 => keep_ok (d := d) (e := f) h1 h2 h3)
      generalize hvl : (varsC d []).length = vl at *
      clear hvl
      by_cases c4 : 4 < f.length
      · have c4' : (4 : Int) < (f.length : Int) := by omega
        have Hk := hide (Hkb.out (.inl (.inl c4)))
        go_wp2_with fail
        go_ret2
        exact ⟨.slice none 0 0, by rw [Hn.out.2, Hk.out]; rfl, by rw [Hn.out.2, Hk.out]; exact CIn.nil _, hB4⟩
      have c4' : ¬ (4 : Int) < (f.length : Int) := by omega
      by_cases c5 : 5 < vl
      · have c5' : (5 : Int) < (vl : Int) := by omega
        have Hk := hide (Hkb.out (.inl (.inr c5)))
        go_wp2_with fail
        go_ret2
        exact ⟨.slice none 0 0, by rw [Hn.out.2, Hk.out]; rfl, by rw [Hn.out.2, Hk.out]; exact CIn.nil _, hB4⟩
      have c5' : ¬ (5 : Int) < (vl : Int) := by omega
      have hf4' : (f.length : Int) ≤ 4 := by omega
      have hv5' : (vl : Int) ≤ 5 := by omega
      go_wp2_with fail
      refine (containsG_any f _ _ HC4.out (fun p hp => ⟨(Hn.out.1.2 p hp).okl, (Hn.out.1.2 p hp).sl, (Hn.out.1.2 p hp).sr⟩)).mono ?_
      rintro e w5 ⟨rfl, hb5⟩
      have hB5 := below_step hB4 hb5
      have HC5 := hide (HC4.out.below hb5)
      clear hb5
      cases hbg : f.any bigL
      · have Hk := hide (Hko.out c4 c5 hbg)
        clear hbg
        go_wp2_with fail
        go_ret2
        exact ⟨.slice x1 f.length x3, by rw [Hn.out.2, Hk.out]; rfl, by rw [Hn.out.2, Hk.out]; exact HC5.out, hB5⟩
      · have Hk := hide (Hkb.out (.inr hbg))
        clear hbg
        go_wp2_with fail
        go_ret2
        exact ⟨.slice none 0 0, by rw [Hn.out.2, Hk.out]; rfl, by rw [Hn.out.2, Hk.out]; exact CIn.nil _, hB5⟩
end Go.Proofs.YtaliegkkdhkfcacGreatDoor

namespace Go.Proofs.YtaliegkkdhkfcacGreatDoor
open Go.RowKit Go.Deep Go.ChangeShapes Go.WideShapes

theorem Tryz.info25 : (Tryz.prog.info? 25).map (fun i => (i.zero, i.size, i.bytes)) = some (some (.slice none 0 0), 1, 24) := by kernel_rfl

/-- What is added, told alone. -/
def addP (st : List Cl × Bool) (n : Int × Cl) : List Cl × Bool := if n.1 = 4 then (st.1, true) else if n.1 ≠ 0 then st else if st.1.any (fun x => sameC x n.2) then st else (st.1 ++ [n.2], st.2)

structure LSt (lo : Nat) (w : World) (p : Nat) (cs : List Cl) (lost : Bool) (v : Value) (xs : List Value) : Prop where
  c0 : w.cell? ⟨p, 0, none⟩ = some v
  c1 : w.cell? ⟨p, 1, none⟩ = some (.bool lost)
  cn : w.cell? ⟨p, 2, none⟩ = none
  fz : ∀ i, w.frozen? ⟨p, i, none⟩ = false
  row : w.ownsRow lo 25 1 v cs.length xs
  sl : ∀ g, v.ownBlock = some g → SlR w g
  el : ∀ (i : Nat) (c : Cl), cs[i]? = some c → ∃ cv, xs[i]? = some cv ∧ CIn w c cv
  po : lo ≤ p ∧ p < w.heap.size
  ne : v.ownBlock ≠ some p
section
variable {lo : Nat} {w w' : World} {p : Nat} {cs : List Cl} {lost : Bool} {v : Value} {xs : List Value}

theorem LSt.slice (h : LSt lo w p cs lost v xs) : ∃ z1 z3, v = .slice z1 cs.length z3 := by
  rcases h.row.2 with ⟨rfl, e⟩ | ⟨g, cap, cur, rfl, _⟩
  · exact ⟨none, 0, by rw [e]⟩
  · exact ⟨_, cap, rfl⟩
theorem LSt.below (h : LSt lo w p cs lost v xs) (hb : Below w.heap.size w w') : LSt lo w' p cs lost v xs where
  c0 := grow_cell hb _ _ h.c0
  c1 := grow_cell hb _ _ h.c1
  cn := by rw [hb.cell (p := ⟨p, 2, none⟩) h.po.2]; exact h.cn
  fz := fun i => (hb.frozen (p := ⟨p, i, none⟩) h.po.2).trans (h.fz i)
  row := owns_keep h.row (fun g hg => hb.block g (owns_at h.row g hg).2)
  sl := fun g hg => (h.sl g hg).keep (hb.block g (owns_at h.row g hg).2)
  el := fun i c hc => by
    obtain ⟨cv, h1, h2⟩ := h.el i c hc
    exact ⟨cv, h1, h2.below hb⟩
  po := ⟨h.po.1, Nat.lt_of_lt_of_le h.po.2 hb.size⟩
  ne := h.ne
theorem LSt.not (h : LSt lo w p cs lost v xs) : NoT w p := fun o x hx => by
  obtain ⟨z1, z3, e⟩ := h.slice
  match o, hx with
  | 0, hx => rw [h.c0, e] at hx; cases hx
  | 1, _ => exact h.cn
  | o + 2, hx =>
    exfalso
    -- no cell behind the second one
    have h2 := h.cn
    obtain ⟨cur, T, f, hb⟩ : ∃ cur T f, w.heap[p]? = some (.cells cur T f) := by
      have h0 := h.c0
      unfold World.cell? at h0
      revert h0
      cases hp : w.heap[p]? with
      | none => intro h0; simp at h0
      | some ob =>
        cases ob with
        | cells cur T f => intro _; exact ⟨cur, T, f, rfl⟩
        | _ => intro h0; simp at h0
    have e1 : cur[2]? = none := by simpa [World.cell?, hb] using h2
    have e2 : cur[o + 2]? = some (.bool x) := by simpa [World.cell?, hb] using hx
    have l1 : cur.size ≤ 2 := by simpa using e1
    have l2 : o + 2 < cur.size := (Array.getElem?_eq_some_iff.1 e2).1
    omega
/-- A list of clauses, as they lie there. -/
theorem LSt.csin (h : LSt lo w p cs lost v xs) : CsIn w cs v := by
  have hcells := fun g hg => h.row.cells (g := g) hg
  rcases h.row.2 with ⟨e, h0⟩ | ⟨g, cap, cur, e, _, _, hn, hm, _, _⟩
  · have : cs = [] := List.length_eq_zero_iff.1 h0
    rw [this, e]
    exact CsIn.nil w
  · refine ⟨some ⟨g, 0, none⟩, cap, g, 0, e, fun _ => rfl, hn, hm, fun i c hc => ?_⟩
    obtain ⟨cv, h1, h2⟩ := h.el i c hc
    refine ⟨cv, ?_, h2⟩
    have := hcells g (by rw [e]; rfl) i cv h1
    rw [add_plain] at this
    exact this
/-- Something was lost. -/
theorem LSt.lose (h : LSt lo w p cs lost v xs) : LSt lo (w.setCell ⟨p, 1, none⟩ (.bool true)) p cs true v xs ∧ Fr w (w.setCell ⟨p, 1, none⟩ (.bool true)) (some p) v.ownBlock := by
  have hf : Fr w (w.setCell ⟨p, 1, none⟩ (.bool true)) (some p) v.ownBlock := ⟨rfl, rfl, rfl, by simp [World.setCell], fun q hq h1 _ => Below.heap_setCell _ _ _ q (fun e => h1 (congrArg some e))⟩
  have hk : Kpt w (w.setCell ⟨p, 1, none⟩ (.bool true)) := kpt_of fun q hq hn => Below.heap_setCell _ _ _ q (fun e => hn (by rw [e]; exact h.not))
  refine ⟨⟨?_, set_same h.c1, ?_, fun i => by simpa using h.fz i, ?_, ?_, ?_, ⟨h.po.1, by simpa [World.setCell] using h.po.2⟩, h.ne⟩, hf⟩
  · rw [set_other (by intro e; simp at e)]; exact h.c0
  · rw [set_other (by intro e; simp at e)]; exact h.cn
  · exact owns_keep h.row (fun g hg => Below.heap_setCell _ _ _ g (fun e => h.ne (by rw [hg]; exact congrArg some e)))
  · exact fun g hg => (h.sl g hg).keep (Below.heap_setCell _ _ _ g (fun e => h.ne (by rw [hg]; exact congrArg some e)))
  · intro i c hc
    obtain ⟨cv, h1, h2⟩ := h.el i c hc
    exact ⟨cv, h1, hk.cin h2⟩
/-- One clause more. -/
theorem LSt.push (h : LSt lo w p cs lost v xs) {c : Cl} {z1 : Option Addr} {z3 : Nat} (hC : CIn w c (.slice z1 c.length z3)) {v4 : Value} {w3 w4 : World} (hb : Below w.heap.size w w3)
    (ho : w4.ownsRow lo 25 1 v4 (cs.length + 1) (xs ++ [.slice z1 c.length z3])) (hg : w3.grownBy w4 v.ownBlock) (hat : v4.ownBlock = v.ownBlock ∨ v4.ownBlock = some w3.heap.size) (hsl : ∀ g, v4.ownBlock = some g → SlR w4 g) :
    LSt lo (w4.setCell ⟨p, 0, none⟩ v4) p (cs ++ [c]) lost v4 (xs ++ [.slice z1 c.length z3]) ∧ Fr w (w4.setCell ⟨p, 0, none⟩ v4) (some p) v.ownBlock ∧ w4.cell? ⟨p, 0, none⟩ = some v ∧ w4.frozen? ⟨p, 0, none⟩ = false := by
  have h3 := h.below hb
  have hs3 := hb.size
  have hp3 : p < w3.heap.size := h3.po.2
  have hpb : w4.heap[p]? = w3.heap[p]? := hg.block p hp3 (fun e => h.ne e.symm)
  have hne4 : v4.ownBlock ≠ some p := by
    rcases hat with e | e
    · rw [e]; exact h.ne
    · rw [e]; simp; omega
  have c0 : w4.cell? ⟨p, 0, none⟩ = some v := by rw [World.cell?_of_block hpb]; exact h3.c0
  have c1 : w4.cell? ⟨p, 1, none⟩ = some (.bool lost) := by rw [World.cell?_of_block hpb]; exact h3.c1
  have cn : w4.cell? ⟨p, 2, none⟩ = none := by rw [World.cell?_of_block hpb]; exact h3.cn
  have fz : ∀ i, w4.frozen? ⟨p, i, none⟩ = false := fun i => by rw [← h3.fz i]; simp only [World.frozen?, hpb]
  have hs4 := hg.size
  have hk34 : Kpt w3 w4 := kpt_of fun q hq hn => hg.block q hq (fun e => hn (h3.sl q e.symm).not)
  have hn4 : NoT w4 p := fun o x hx => by
    rw [World.cell?_of_block hpb] at hx
    rw [World.cell?_of_block hpb]
    exact h3.not o x hx
  have hk45 : Kpt w4 (w4.setCell ⟨p, 0, none⟩ v4) := kpt_of fun q hq hn => Below.heap_setCell _ _ _ q (fun e => hn (by rw [e]; exact hn4))
  have hk := ((kpt_below hb).trans hk34).trans hk45
  have offp : ∀ g, v4.ownBlock = some g → (w4.setCell ⟨p, 0, none⟩ v4).heap[g]? = w4.heap[g]? := fun g hgg => Below.heap_setCell _ _ _ g (fun e => hne4 (by rw [hgg]; exact congrArg some e))
  have hxl : xs.length = cs.length := by have := h.row.1; omega
  refine ⟨⟨set_same c0, ?_, ?_, fun i => by simpa using fz i, ?_, fun g hgg => (hsl g hgg).keep (offp g hgg), ?_, ⟨h.po.1, by simp [World.setCell]; omega⟩, hne4⟩, ?_, c0, fz 0⟩
  · rw [set_other (by intro e; simp at e)]; exact c1
  · rw [set_other (by intro e; simp at e)]; exact cn
  · rw [List.length_append]; exact owns_keep ho offp
  · intro i d hd
    by_cases hi : i < cs.length
    · rw [List.getElem?_append_left hi] at hd
      obtain ⟨cv, h1, h2⟩ := h.el i d hd
      exact ⟨cv, by rw [List.getElem?_append_left (by omega)]; exact h1, hk.cin h2⟩
    · have hil := (List.getElem?_eq_some_iff.1 hd).1
      simp only [List.length_append, List.length_cons, List.length_nil] at hil
      have hie : i = cs.length := by omega
      subst hie
      rw [List.getElem?_append_right (Nat.le_refl _), Nat.sub_self] at hd
      simp only [List.getElem?_cons_zero, Option.some.injEq] at hd
      subst hd
      refine ⟨.slice z1 c.length z3, ?_, hk.cin hC⟩
      rw [List.getElem?_append_right (by omega), hxl, Nat.sub_self]
      rfl
  · refine ⟨hg.os.trans hb.os, hg.tape.trans hb.tape, hg.output.trans hb.output, by simp [World.setCell]; omega, fun q hq e1 e2 => ?_⟩
    rw [Below.heap_setCell _ _ _ q (fun e => e1 (congrArg some e)), hg.block q (by omega) e2, hb.block q hq]
end

theorem addP_lost {st : List Cl × Bool} {n : Int × Cl} (h : n.1 = 4) : addP st n = (st.1, true) := if_pos h
theorem addP_none {st : List Cl × Bool} {n : Int × Cl} (h : ¬ n.1 = 4) (h0 : ¬ n.1 = 0) : addP st n = st := by rw [addP, if_neg h, if_pos h0]
theorem addP_had {st : List Cl × Bool} {n : Int × Cl} (h0 : n.1 = 0) (h : st.1.any (fun x => sameC x n.2) = true) : addP st n = st := by rw [addP, if_neg (by omega), if_neg (by omega), if_pos h]
theorem addP_new {st : List Cl × Bool} {n : Int × Cl} (h0 : n.1 = 0) (h : st.1.any (fun x => sameC x n.2) = false) : addP st n = (st.1 ++ [n.2], st.2) := by rw [addP, if_neg (by omega), if_neg (by omega), if_neg (by simp [h])]
/-- What add leaves. -/
def AddLPost (lo : Nat) (w : World) (p : Nat) (st : List Cl × Bool) (n : Int × Cl) (v : Value) (e : Ending) (w' : World) : Prop :=
  e = .returned (.tuple #[]) ∧ ∃ v' xs', LSt lo w' p (addP st n).1 (addP st n).2 v' xs' ∧ Fr w w' (some p) v.ownBlock ∧ (v'.ownBlock = v.ownBlock ∨ ∃ g, v'.ownBlock = some g ∧ w.heap.size ≤ g)

end Go.Proofs.YtaliegkkdhkfcacGreatDoor

namespace Go.Proofs.YtaliegkkdhkfcacGreatDoor
open Go.RowKit Go.Deep Go.ChangeShapes Go.WideShapes

/-- By what is bound it is some term that is no greater than N. -/
def OrT (N : Nat) (s : Sb) (t : Tm) : Prop := ∃ u, okT u ∧ szT u ≤ N ∧ subT (bnd s) t = subT (bnd s) u
/-- .. that is no variable that is bound. -/
def OrB (N : Nat) (s : Sb) (t : Tm) : Prop := ∃ u, okT u ∧ szT u ≤ N ∧ t = subT (bnd s) u ∧ (u.1.1 = true → look s u.1.2 = none)
structure Org (N : Nat) (s : Sb) (L : List (Tm × Tm)) : Prop where
  ol : ∀ p ∈ L, OrT N s p.1 ∧ OrT N s p.2
  ob : ∀ p ∈ s, OrB N s p.2

theorem or_res {N : Nat} {s : Sb} (ho : ∀ p ∈ s, OrB N s p.2) {t : Tm} (ht : OrT N s t) : OrB N s (subT (bnd s) t) := by
  obtain ⟨u, h1, h2, h3⟩ := ht
  by_cases hv : u.1.1 = true
  · cases e : look s u.1.2 with
    | none => exact ⟨u, h1, h2, h3, fun _ => e⟩
    | some v =>
      obtain ⟨u', k1, k2, k3, k4⟩ := ho _ (look_mem e)
      refine ⟨u', k1, k2, ?_, k4⟩
      rw [h3]
      have : subT (bnd s) u = v := by
        unfold subT
        rw [if_pos hv]
        exact bnd_some e
      rw [this]
      exact k3
  · exact ⟨u, h1, h2, h3, fun e => absurd e hv⟩

theorem org_add {N : Nat} {s s' : Sb} {p : Tm × Tm} {L : List (Tm × Tm)} {x y : Tm} (h : UI s (p :: L)) (ho : Org N s (p :: L)) (hxy : x = top s p.1 ∧ y = top s p.2 ∨ x = top s p.2 ∧ y = top s p.1) (hv : x.1.1 = true) (ha : addS s x.1.2 (subT (bnd s) y) = some s') : Org N s' L := by
  obtain ⟨_, _, f1, f2⟩ := step_add h hxy hv ha
  have hp := h.gL p (by simp)
  have hgy : Gd y := by rcases hxy with ⟨_, rfl⟩ | ⟨_, rfl⟩; exact gd_top h.gs hp.2; exact gd_top h.gs hp.1
  have hfree : look s x.1.2 = none := by rcases hxy with ⟨rfl, _⟩ | ⟨rfl, _⟩ <;> exact top_free h.idem hv
  have hgt := gd_sub h.gs hgy
  obtain ⟨_, _, _, _, f5⟩ := add_facts ha h.idem hfree hgt.ok (fun m hm => sub_free h.idem hm)
  have hr : ∀ u, subT (bnd s') u = subT (bnd [(x.1.2, subT (bnd s) y)]) (subT (bnd s) u) := fun u => by
    rw [← ref_sub f1, f5 _ (fun m hm => sub_free h.idem hm)]
  have hOy : OrB N s (subT (bnd s) y) := by
    have hpo := ho.ol p (by simp)
    rcases hxy with ⟨_, rfl⟩ | ⟨_, rfl⟩
    · rw [top_sub h.idem (ui_ok h)]; exact or_res ho.ob hpo.2
    · rw [top_sub h.idem (ui_ok h)]; exact or_res ho.ob hpo.1
  obtain ⟨u, u1, u2, u3, u4⟩ := hOy
  have hno := (addS_some ha).1
  have hl : look s' x.1.2 = some (subT (bnd s) y) := by rw [add_look ha, hfree]; simp
  -- what is new, by all that is bound then
  have hy' : subT (bnd s) y = subT (bnd s') u := by
    have e1 : bnd s' x.1.2 = subT (bnd s) y := bnd_some hl
    rw [← ref_sub f1 u, ← u3, ref_sub f1 y, ← f2, e1]
  have hu' : u.1.1 = true → look s' u.1.2 = none := fun e => by
    have hne : x.1.2 ≠ u.1.2 := fun e' => hno (by
      rw [u3]
      have : subT (bnd s) u = vr u.1.2 := by
        unfold subT
        rw [if_pos e]
        exact bnd_none (u4 e)
      rw [this, occ_vr]
      exact e'.symm)
    rw [add_look ha, u4 e]
    simp [hne]
  refine ⟨fun q hq => ?_, fun q hq => ?_⟩
  · obtain ⟨⟨a, a1, a2, a3⟩, ⟨b, b1, b2, b3⟩⟩ := ho.ol q (by simp [hq])
    exact ⟨⟨a, a1, a2, by rw [← ref_sub f1 q.1, a3, ref_sub f1]⟩, ⟨b, b1, b2, by rw [← ref_sub f1 q.2, b3, ref_sub f1]⟩⟩
  · rw [(addS_some ha).2, List.mem_append, List.mem_map, List.mem_singleton] at hq
    rcases hq with ⟨q, hq, rfl⟩ | rfl
    · obtain ⟨a, a1, a2, a3, a4⟩ := ho.ob q hq
      by_cases hav : a.1.1 = true ∧ a.1.2 = x.1.2
      · refine ⟨u, u1, u2, ?_, hu'⟩
        have e1 : q.2 = vr x.1.2 := by
          rw [a3]
          unfold subT
          rw [if_pos hav.1, ← hav.2]
          exact bnd_none (a4 hav.1)
        show subT (bnd [(x.1.2, subT (bnd s) y)]) q.2 = _
        rw [e1, ← hy']
        show bnd [(x.1.2, subT (bnd s) y)] x.1.2 = _
        rw [bnd_one, if_pos rfl]
      · refine ⟨a, a1, a2, ?_, fun e => ?_⟩
        · show subT (bnd [(x.1.2, subT (bnd s) y)]) q.2 = _
          rw [a3, ← hr]
        · have hne : x.1.2 ≠ a.1.2 := fun e' => hav ⟨e, e'.symm⟩
          rw [add_look ha, a4 e]
          simp [hne]
    · exact ⟨u, u1, u2, hy', hu'⟩
theorem org_kids {N : Nat} {s : Sb} {L : List (Tm × Tm)} (h : UI s L) (ho : ∀ p ∈ s, OrB N s p.2) {t : Tm} (ht : OrT N s t) (e1 : ¬ (top s t).1.1 = true) : ∀ c ∈ (top s t).2.list, OrT N s c := by
  obtain ⟨u, u1, u2, u3, u4⟩ := or_res ho ht
  rw [← top_sub h.idem (ui_ok h) t, sym_eq e1, subT_sym] at u3
  have hu : ¬ u.1.1 = true := fun e => by
    have : subT (bnd s) u = vr u.1.2 := by
      unfold subT
      rw [if_pos e]
      exact bnd_none (u4 e)
    rw [this] at u3
    have := congrArg (fun t : Tm => t.1.1) u3
    simp [vr] at this
  rw [sym_eq hu, subT_sym] at u3
  have hF : subF (bnd s) (top s t).2 = subF (bnd s) u.2 := congrArg Prod.snd u3
  have hL : (top s t).2.list.map (subT (bnd s)) = u.2.list.map (subT (bnd s)) := by rw [← subF_list, ← subF_list, hF]
  intro c hc
  obtain ⟨i, hi, rfl⟩ := List.mem_iff_getElem.1 hc
  have hlen : (top s t).2.list.length = u.2.list.length := by
    have := congrArg List.length hL
    simpa using this
  have hi' : i < u.2.list.length := by omega
  refine ⟨u.2.list[i], ok_mem u1.2 (List.getElem_mem _), ?_, ?_⟩
  · have : szT u.2.list[i] < szT (u.1, u.2) := sz_mem (List.getElem_mem _)
    have e : szT (u.1, u.2) = szT u := rfl
    omega
  · have h1 : ((top s t).2.list.map (subT (bnd s)))[i]? = (u.2.list.map (subT (bnd s)))[i]? := by rw [hL]
    rw [List.getElem?_map, List.getElem?_map, List.getElem?_eq_getElem hi, List.getElem?_eq_getElem hi'] at h1
    simpa using h1
theorem org_step {N : Nat} {s s' : Sb} {p : Tm × Tm} {L L' : List (Tm × Tm)} (h : UI s (p :: L)) (ho : Org N s (p :: L)) (hst : stepU s p.1 p.2 L = some (s', L')) : Org N s' L' := by
  rcases stepU_cases hst with ⟨_, _, _, rfl, rfl⟩ | ⟨x, y, hxy, hv, ha, rfl⟩ | ⟨e1, e2, _, hl, rfl, rfl⟩
  · exact ⟨fun q hq => ho.ol q (by simp [hq]), ho.ob⟩
  · exact org_add h ho hxy hv ha
  · have hpo := ho.ol p (by simp)
    refine ⟨fun q hq => ?_, ho.ob⟩
    rw [List.mem_append] at hq
    rcases hq with hq | hq
    · have := List.of_mem_zip hq
      exact ⟨org_kids h ho.ob hpo.1 e1 _ this.1, org_kids h ho.ob hpo.2 e2 _ this.2⟩
    · exact ho.ol q (by simp [hq])
theorem org_run {N : Nat} : ∀ (n : Nat) (s s' : Sb) (L : List (Tm × Tm)), UI s L → Org N s L → runU n s L = some (some s') → UI s' [] ∧ Org N s' [] := by
  intro n
  induction n with
  | zero => intro s s' L _ _ hr; simp [runU] at hr
  | succ n ih =>
    intro s s' L h ho hr
    cases L with
    | nil =>
      simp only [runU, Option.some.injEq] at hr
      subst hr
      exact ⟨h, ho⟩
    | cons p L =>
      cases hst : stepU s p.1 p.2 L with
      | none => simp [runU, hst] at hr
      | some q =>
        obtain ⟨s1, L1⟩ := q
        simp only [runU, hst] at hr
        exact ih s1 s' L1 (step_keeps h hst).1 (org_step h ho hst) hr

theorem sub_leF {f : Int → Tm} {M : Nat} (hM : 1 ≤ M) : ∀ {F : Fo}, Fo.ok F → (∀ n, occF n F → szT (f n) ≤ M) → Fo.sizesR (subF f F) ≤ Fo.sizesR F * M
  | .nil, _, _ => by simp [subF, Fo.sizesR]
  | .node p q ⟨v, m⟩ k r, ho, h => by
    obtain ⟨_, _, h3, h4⟩ := ok_node.1 ho
    have hr := sub_leF hM h4 (fun n hn => h n (by rw [occF]; exact .inr hn))
    rw [subF_node]
    simp only [Fo.sizesR]
    cases v with
    | true =>
      have hk : k = .nil := h3.1 rfl
      subst hk
      have := h m (by rw [occF]; exact .inl (by simp))
      simp only [subT_var, szT, tszR] at this ⊢
      simp only [Fo.sizesR, Nat.add_mul, Nat.zero_mul, Nat.one_mul]
      omega
    | false =>
      have hk := sub_leF hM (F := k) h3.2 (fun n hn => h n (by rw [occF]; exact .inl (by simpa using hn)))
      simp only [subT_sym, Nat.add_mul, Nat.one_mul]
      omega
theorem sub_le {f : Int → Tm} {M : Nat} (hM : 1 ≤ M) {t : Tm} (ho : okT t) (h : ∀ n, occT n t → szT (f n) ≤ M) : szT (subT f t) ≤ szT t * M := by
  obtain ⟨⟨v, m⟩, k⟩ := t
  cases v with
  | true =>
    rw [subT_var]
    have := h m (by simp [occT])
    have h1 : 1 ≤ szT ((true, m), k) := by simp only [szT, tszR]; omega
    have := Nat.mul_le_mul_right M h1
    omega
  | false =>
    rw [subT_sym]
    have := sub_leF hM (F := k) ho.2 (fun n hn => h n (by simp [occT, hn]))
    simp only [szT, tszR, Nat.add_mul, Nat.one_mul]
    omega
theorem countS_less {f g : Int × Tm → Bool} {a : Int × Tm} : ∀ {l : Sb}, (∀ x, g x = true → f x = true) → a ∈ l → f a = true → g a = false → l.countP g < l.countP f
  | [], _, h, _, _ => by cases h
  | y :: r, hfg, h, hf, hg => by
    have hle : r.countP g ≤ r.countP f := List.countP_mono_left (fun x _ hx => hfg x hx)
    rw [List.countP_cons, List.countP_cons]
    rcases List.mem_cons.1 h with rfl | h
    · rw [hf, hg]; simp; omega
    · have := countS_less (l := r) hfg h hf hg
      by_cases hy : g y = true
      · rw [hy, hfg y hy]; simp; omega
      · have : g y = false := by simpa using hy
        rw [this]
        simp only [Bool.false_eq_true, if_false]
        split <;> omega
/-- How many of those that are bound are to less. -/
def rnk (s : Sb) (m : Int) : Nat := s.countP fun p => decide (szT p.2 < szT (bnd s m))
theorem org_size {N : Nat} (hN : 1 ≤ N) {s : Sb} (ho : ∀ p ∈ s, OrB N s p.2) : ∀ (k : Nat) (m : Int), rnk s m = k → szT (bnd s m) ≤ N ^ (k + 1) := by
  intro k
  induction k using Nat.strongRecOn with
  | _ k ih =>
    intro m hk
    have hpos : ∀ j, 1 ≤ N ^ j := fun j => Nat.one_le_iff_ne_zero.2 (Nat.pos_iff_ne_zero.1 (Nat.pow_pos (by omega)))
    cases e : look s m with
    | none =>
      rw [bnd_none e]
      have := hpos (k + 1)
      simp only [vr, szT, tszR, Fo.sizesR]
      omega
    | some t =>
      have hb := bnd_some e
      obtain ⟨u, u1, u2, u3, u4⟩ := ho _ (look_mem e)
      simp only at u3
      by_cases hv : u.1.1 = true
      · have : subT (bnd s) u = vr u.1.2 := by
          unfold subT
          rw [if_pos hv]
          exact bnd_none (u4 hv)
        rw [hb, u3, this]
        have := hpos (k + 1)
        simp only [vr, szT, tszR, Fo.sizesR]
        omega
      · have key : ∀ n, occT n u → szT (bnd s n) ≤ N ^ k := fun n hn => by
          cases e2 : look s n with
          | none =>
            rw [bnd_none e2]
            have := hpos k
            simp only [vr, szT, tszR, Fo.sizesR]
            omega
          | some v =>
            have hlt : szT (bnd s n) < szT (bnd s m) := by
              rw [hb, u3]
              have he := sym_eq hv
              rw [he] at hn ⊢
              rw [occ_sym] at hn
              rw [subT_sym]
              have := size_occF (f := bnd s) hn
              simp only [szT, tszR] at this ⊢
              omega
            have hr : rnk s n < rnk s m := countS_less (a := (n, v)) (fun x hx => by
              simp only [decide_eq_true_eq] at hx ⊢
              omega) (look_mem e2) (by
              simp only [decide_eq_true_eq]
              rw [bnd_some e2] at hlt
              exact hlt) (by
              simp only [decide_eq_false_iff_not]
              rw [bnd_some e2]
              omega)
            have h1 := ih (rnk s n) (by omega) n rfl
            have h2 : N ^ (rnk s n + 1) ≤ N ^ k := Nat.pow_le_pow_right hN (by omega)
            omega
        rw [hb, u3]
        have h1 := sub_le (hpos k) u1 key
        have h2 := Nat.mul_le_mul_right (N ^ k) u2
        rw [Nat.pow_succ, Nat.mul_comm (N ^ k) N]
        omega
theorem rnk_lt {s : Sb} {m : Int} {t : Tm} (h : look s m = some t) : rnk s m < s.length := by
  have := countS_less (f := fun _ => true) (g := fun p => decide (szT p.2 < szT (bnd s m))) (a := (m, t)) (l := s) (fun _ _ => rfl) (look_mem h) rfl (by
    simp only [decide_eq_false_iff_not]
    rw [bnd_some h]
    omega)
  rw [List.countP_true] at this
  exact this
/-- What makes two terms the same is to no more than so much. -/
theorem mgu_size {n : Nat} {a b : Tm} {s : Sb} (h : UI [] [(a, b)]) (hr : runU n [] [(a, b)] = some (some s)) (ha : szT a ≤ 12) (hb : szT b ≤ 12) (m : Int) : szT (bnd s m) ≤ 61917364224 := by
  have hg := h.gL (a, b) (by simp)
  obtain ⟨hu, ho⟩ := org_run (N := 12) n [] s [(a, b)] h ⟨fun p hp => by
    simp only [List.mem_singleton] at hp
    subst hp
    exact ⟨⟨a, hg.1.ok, ha, rfl⟩, ⟨b, hg.2.ok, hb, rfl⟩⟩, fun p hp => by cases hp⟩ hr
  cases e : look s m with
  | none => rw [bnd_none e]; simp only [vr, szT, tszR, Fo.sizesR]; omega
  | some t =>
    have h1 := org_size (N := 12) (by omega) ho.ob (rnk s m) m rfl
    have h2 := rnk_lt e
    have h3 := (ui_len hu).2
    have h4 : 12 ^ (rnk s m + 1) ≤ 12 ^ 10 := Nat.pow_le_pow_right (by omega) (by omega)
    have h5 : (12 : Nat) ^ 10 = 61917364224 := by decide
    omega

end Go.Proofs.YtaliegkkdhkfcacGreatDoor

namespace Go.Proofs.YtaliegkkdhkfcacGreatDoor
open Go.RowKit Go.Deep Go.ChangeShapes Go.WideShapes
attribute [local go_sem ↓] Go.wp_at_zero Go.wp_at_succ

/-- What U answers is what Unify does. -/
def UOK (U : Tm → Tm → Option Sb) : Prop := ∀ a b, UI [] [(a, b)] → ∃ n, runU n [] [(a, b)] = some (U a b)
theorem uok_some : ∃ U, UOK U := by
  have key : ∀ a b : Tm, ∃ R : Option Sb, UI [] [(a, b)] → ∃ n, runU n [] [(a, b)] = some R := fun a b => by
    by_cases h : UI [] [(a, b)]
    · obtain ⟨n, R, hR⟩ := runU_end _ _ _ _ rfl rfl h
      exact ⟨R, fun _ => ⟨n, hR⟩⟩
    · exact ⟨none, fun h' => absurd h' h⟩
  exact ⟨fun a b => Classical.choose (key a b), fun a b => Classical.choose_spec (key a b)⟩
/-- Good terms of at most twelve signs. -/
structure G12 (t : Tm) : Prop where
  gd : Gd t
  sz : szT t ≤ 12
theorem depF_le : ∀ F : Fo, depF F ≤ Fo.sizesR F
  | .nil => Nat.le_refl _
  | .node _ _ _ k r => by
    have h1 := depF_le k
    have h2 := depF_le r
    simp only [depF, Fo.sizesR]
    omega
theorem G12.dep {t : Tm} (h : G12 t) : depT t ≤ 12 := by
  have h1 := depF_le t.2
  have h2 := h.sz
  simp only [szT, tszR] at h2
  unfold depT
  omega
theorem G12.ui {a b : Tm} (ha : G12 a) (hb : G12 b) : UI [] [(a, b)] := ui_of ha.gd hb.gd ha.dep hb.dep
/-- Good terms of at most twenty-four signs. -/
def G24 (l : Lt) : Prop := (Gd l.2.1 ∧ szT l.2.1 ≤ 24) ∧ (Gd l.2.2 ∧ szT l.2.2 ≤ 24)
def G12L (l : Lt) : Prop := G12 l.2.1 ∧ G12 l.2.2
theorem G12L.x {l : Lt} (h : G12L l) : G24 l := ⟨⟨h.1.gd, by have := h.1.sz; omega⟩, ⟨h.2.gd, by have := h.2.sz; omega⟩⟩
theorem GC.g12 {c : Cl} (h : GC c) : ∀ l ∈ c, G12L l := fun l hl => ⟨⟨(h.2 l hl).gl, (h.2 l hl).sl⟩, ⟨(h.2 l hl).gr, (h.2 l hl).sr⟩⟩
theorem gx_bind {a b : Tm} {n : Nat} {s : Sb} (ha : G12 a) (hb : G12 b) (hr : runU n [] [(a, b)] = some (some s)) {d : Cl} (hl : d.length ≤ 8) (hd : ∀ l ∈ d, G24 l) : GX (d.map (mapL (subT (bnd s)))) := by
  have hg := (unify_ok (ha.ui hb) hr).1
  have one : ∀ t : Tm, Gd t ∧ szT t ≤ 24 → Gd (subT (bnd s) t) ∧ tszR (subT (bnd s) t).2 ≤ 4000000000000 := fun t ht => by
    refine ⟨gd_sub hg ht.1, ?_⟩
    have h1 := sub_le (f := bnd s) (M := 61917364224) (by omega) ht.1.ok (fun m _ => mgu_size (ha.ui hb) hr ha.sz hb.sz m)
    have h2 := Nat.mul_le_mul_right 61917364224 ht.2
    simp only [szT] at h1 h2
    omega
  refine ⟨by simpa using hl, fun l hl => ?_⟩
  obtain ⟨q, hq, rfl⟩ := List.mem_map.1 hl
  obtain ⟨q1, q2⟩ := hd q hq
  exact ⟨(one _ q1).1, (one _ q2).1, (one _ q1).2, (one _ q2).2⟩

/-- What is added, if terms are made the same. -/
def addU (st : List Cl × Bool) (R : Option Sb) (d : Cl) : List Cl × Bool := match R with
  | some s => addP st (normC (d.map (mapL (subT (bnd s)))))
  | none => st
theorem addP_len (st : List Cl × Bool) (n : Int × Cl) : (addP st n).1.length ≤ st.1.length + 1 := by
  unfold addP
  split
  · simp
  · split
    · omega
    · split
      · omega
      · simp
theorem addU_len (st : List Cl × Bool) (R : Option Sb) (d : Cl) : (addU st R d).1.length ≤ st.1.length + 1 := by
  unfold addU
  split
  · exact addP_len _ _
  · omega
/-- So many rounds. -/
def foldN {S : Type} (f : S → Nat → S) (s : S) (j : Nat) : S := (List.range j).foldl f s
theorem foldN_succ {S : Type} (f : S → Nat → S) (s : S) (j : Nat) : foldN f s (j + 1) = f (foldN f s j) j := by
  unfold foldN
  rw [List.range_succ, List.foldl_append]
  rfl
theorem foldN_len {f : List Cl × Bool → Nat → List Cl × Bool} {m : Nat} (h : ∀ s j, (f s j).1.length ≤ s.1.length + m) (s : List Cl × Bool) : ∀ j, (foldN f s j).1.length ≤ s.1.length + j * m
  | 0 => by simp [foldN]
  | j + 1 => by
    rw [foldN_succ]
    have h1 := h (foldN f s j) j
    have h2 := foldN_len h s j
    rw [Nat.add_mul, Nat.one_mul]
    omega
/-- Resolve, told alone. -/
def resS (U : Tm → Tm → Option Sb) (c : Cl) (st : List Cl × Bool) (i : Nat) : List Cl × Bool := match c[i]? with
  | some l => if l.1 then addU st (U l.2.1 l.2.2) (butC c i) else st
  | none => st
def resTo (U : Tm → Tm → Option Sb) (c : Cl) (j : Nat) : List Cl × Bool := foldN (resS U c) ([], false) j
theorem resS_len (U : Tm → Tm → Option Sb) (c : Cl) (st : List Cl × Bool) (i : Nat) : (resS U c st i).1.length ≤ st.1.length + 1 := by
  unfold resS
  split
  · split
    · exact addU_len _ _ _
    · omega
  · omega
theorem resTo_succ {U : Tm → Tm → Option Sb} {c : Cl} {j : Nat} : resTo U c (j + 1) = resS U c (resTo U c j) j := foldN_succ _ _ _
theorem resTo_len (U : Tm → Tm → Option Sb) (c : Cl) (j : Nat) : (resTo U c j).1.length ≤ j := by
  have := foldN_len (m := 1) (resS_len U c) ([], false) j
  rw [Nat.mul_one, List.length_nil, Nat.zero_add] at this
  exact this
theorem but_mem {c : Cl} {i : Nat} {l : Lt} (h : l ∈ butC c i) : l ∈ c := by
  rcases List.mem_append.1 h with h | h
  · exact List.mem_of_mem_take h
  · exact List.mem_of_mem_drop h
theorem but_len {c : Cl} {i : Nat} : (butC c i).length ≤ c.length := by
  rw [butC, List.length_append, List.length_take, List.length_drop]
  omega

theorem lst_start (w : World) (T : TypeId) : LSt w.heap.size (w.alloc (.cells #[.slice none 0 0, .bool false] T)) w.heap.size [] false (.slice none 0 0) [] where
  c0 := new_cell rfl
  c1 := new_cell rfl
  cn := new_cell rfl
  fz := fun i => new_frozen rfl
  row := World.ownsRow_nil _ _ _ _
  sl := fun g hg => by cases hg
  el := fun i c hc => by simp at hc
  po := ⟨Nat.le_refl _, by simp⟩
  ne := fun e => by cases e
theorem fr_kpt {w w' : World} {p : Nat} {o : Option Nat} (h : Fr w w' (some p) o) (hp : NoT w p) (ho : ∀ g, o = some g → NoT w g) : Kpt w w' :=
  kpt_of fun q hq hn => h.block q hq (fun e => hn (by cases e; exact hp)) (fun e => hn (ho q e.symm))
/-- What add leaves: all below the list's place is as it was; clauses, terms and bindings, too. -/
theorem add_keeps {lo : Nat} {w0 w w' : World} {p : Nat} {cs : List Cl} {lost : Bool} {v : Value} {xs : List Value} (hL : LSt lo w p cs lost v xs) (hB : Below lo w0 w) (hf : Fr w w' (some p) v.ownBlock) : Below lo w0 w' ∧ Kpt w w' := by
  refine ⟨⟨hf.os.trans hB.os, hf.tape.trans hB.tape, hf.output.trans hB.output, Nat.le_trans hB.size hf.size, fun k hk => ?_⟩, fr_kpt hf hL.not (fun g hg => (hL.sl g hg).not)⟩
  have hp := hL.po
  rw [hf.block k (by omega) (fun e => by cases e; omega) (fun e => by have := (owns_at hL.row k e.symm).1; omega)]
  exact hB.block k hk

/-- What a rule of the document's hands back. -/
def RulePost (st : List Cl × Bool) (w : World) (e : Ending) (w' : World) : Prop := ∃ v, e = .returned (.tuple #[v, .bool st.2]) ∧ CsIn w' st.1 v ∧ Below w.heap.size w w'

end Go.Proofs.YtaliegkkdhkfcacGreatDoor

namespace Go.Proofs.YtaliegkkdhkfcacGreatDoor
open Go.RowKit

theorem countP_less {α : Type} {f g : α → Bool} {i : α} : ∀ {l : List α}, (∀ x, g x = true → f x = true) → i ∈ l → f i = true → g i = false → l.countP g < l.countP f
  | [], _, h, _, _ => by cases h
  | y :: r, hfg, h, hf, hg => by
    have hle : r.countP g ≤ r.countP f := List.countP_mono_left (fun x _ hx => hfg x hx)
    rw [List.countP_cons, List.countP_cons]
    rcases List.mem_cons.1 h with rfl | h
    · rw [hf, hg]; simp; omega
    · have := countP_less (l := r) hfg h hf hg
      by_cases hy : g y = true
      · rw [hy, hfg y hy]; simp; omega
      · have : g y = false := by simpa using hy
        rw [this]
        simp only [Bool.false_eq_true, if_false]
        split <;> omega
theorem getD_set (l : Array Bool) (i j : Nat) (d : Bool) (hi : i < l.size) : (l.setIfInBounds i true).getD j d = (j == i || l.getD j d) := by
  by_cases e : j = i
  · subst e
    simp [Array.getD_eq_getD_getElem?, hi]
  · have e' : (j == i) = false := by simpa using e
    rw [e']
    simp only [Array.getD_eq_getD_getElem?, Array.getElem?_setIfInBounds, Bool.false_or]
    rw [if_neg (fun h => e h.symm)]
theorem getD_in (l : Array Bool) (j : Nat) (hj : j < l.size) (d d' : Bool) : l.getD j d = l.getD j d' := by
  simp [Array.getD_eq_getD_getElem?, hj]

section
variable {P : Program} {ops : Array Oper} {Q : Exit → Act → World → Prop} {md : Region.Mode}

/-- No edge leads forward. -/
def Region.back (ops : Array Oper) : Bool := (List.range ops.size).all fun i => ((ops[i]?).map (·.after.all fun e => decide (e.on < i))).getD true

theorem all_listed {listed : Array Bool} (hs : listed.size = ops.size) (hb : Region.back ops = true) (hr : Region.ready md ops listed = []) : ∀ i, i < ops.size → listed.getD i false = true := by
  intro i
  induction i using Nat.strongRecOn with
  | _ i ih =>
    intro hi
    by_cases h : listed.getD i false = true
    · exact h
    · exfalso
      have h0 : listed.getD i true = false := by
        rw [getD_in listed i (by omega) true false]
        simpa using h
      have ho : ops[i]? = some ops[i] := by simp [hi]
      have hm : i ∈ Region.ready md ops listed := by
        unfold Region.ready
        rw [List.mem_filter]
        refine ⟨List.mem_range.2 hi, ?_⟩
        rw [h0, ho]
        simp only [Bool.not_false, Bool.true_and, Option.map_some, Option.getD_some]
        rw [Array.all_eq_true']
        intro e he
        have h1 := List.all_eq_true.1 hb i (List.mem_range.2 hi)
        rw [ho] at h1
        simp only [Option.map_some, Option.getD_some] at h1
        rw [Array.all_eq_true'] at h1
        have h2 := of_decide_eq_true (h1 e he)
        rw [ih e.on h2 (by omega)]
        simp
      rw [hr] at hm
      cases hm

theorem wpAny_inv {Inv : (Nat → Bool) → Act → World → Prop} (hb : Region.back ops = true)
    (hstep : ∀ (D : Nat → Bool) (a : Act) (w : World) (i : Nat) (o : Oper), i < ops.size → Inv D a w → D i = false → ops[i]? = some o → (∀ e ∈ o.after, Region.binds md e = true → D e.on = true) → wpOp P ops Q i (Inv fun j => j == i || D j) a w)
    (hdone : ∀ (D : Nat → Bool) (a : Act) (w : World), Inv D a w → (∀ i, i < ops.size → D i = true) → Q .normal a w) :
    ∀ (fuel : Nat) (listed : Array Bool) (a : Act) (w : World), listed.size = ops.size → (List.range ops.size).countP (fun i => !listed.getD i false) ≤ fuel → Inv (fun j => listed.getD j false) a w → wpAny P md ops Q fuel listed a w := by
  intro fuel
  induction fuel with
  | zero =>
    intro listed a w hs hc hI
    have hall : ∀ i, i < ops.size → listed.getD i false = true := fun i hi => by
      have h0 : (List.range ops.size).countP (fun i => !listed.getD i false) = 0 := by omega
      rw [List.countP_eq_zero] at h0
      simpa using h0 i (List.mem_range.2 hi)
    refine ⟨?_, hdone _ a w hI hall⟩
    unfold Region.ready
    rw [List.filter_eq_nil_iff]
    intro i hi
    have hi' := List.mem_range.1 hi
    rw [getD_in listed i (by omega) true false, hall i hi']
    simp
  | succ fuel ih =>
    intro listed a w hs hc hI
    refine ⟨fun hr => hdone _ a w hI (all_listed hs hb hr), fun i hi => ?_⟩
    unfold Region.ready at hi
    rw [List.mem_filter] at hi
    obtain ⟨hi1, hi2⟩ := hi
    have hi' := List.mem_range.1 hi1
    have ho : ops[i]? = some ops[i] := by simp [hi']
    rw [ho] at hi2
    simp only [Option.map_some, Option.getD_some, Bool.and_eq_true, Bool.not_eq_true'] at hi2
    obtain ⟨h1, h2⟩ := hi2
    have h1' : listed.getD i false = false := by rw [getD_in listed i (by omega) false true]; exact h1
    have := hstep _ a w i _ hi' hI h1' ho (fun e he hbd => by
      rw [Array.all_eq_true'] at h2
      have := h2 e he
      rw [hbd] at this
      simpa using this)
    refine wpOp_mono (fun a' w' h => ?_) this
    refine ih _ a' w' (by simp [hs]) ?_ ?_
    · have hlt := countP_less (i := i) (f := fun j => !listed.getD j false) (g := fun j => !(listed.setIfInBounds i true).getD j false) (l := List.range ops.size) (fun x hx => by
        rw [getD_set _ _ _ _ (by omega)] at hx
        simp at hx
        simp [hx.2]) hi1 (by simp [h1']) (by rw [getD_set _ _ _ _ (by omega)]; simp)
      omega
    · have e : (fun j => (listed.setIfInBounds i true).getD j false) = fun j => j == i || listed.getD j false := by
        funext j
        exact getD_set _ _ _ _ (by omega)
      rw [e]
      exact h

/-- A region that draws its order: what is known stays known whatever comes next. -/
theorem region_inv {id : Nat} {a : Act} {w : World} (Inv : (Nat → Bool) → Act → World → Prop) (hm : P.follows .mixedOrders = true) (hb : Region.back ops = true)
    (hstep : ∀ (D : Nat → Bool) (a : Act) (w : World) (i : Nat) (o : Oper), i < ops.size → Inv D a w → D i = false → ops[i]? = some o → (∀ e ∈ o.after, Region.binds .any e = true → D e.on = true) → wpOp P ops Q i (Inv fun j => j == i || D j) a w)
    (hdone : ∀ (D : Nat → Bool) (a : Act) (w : World), Inv D a w → (∀ i, i < ops.size → D i = true) → Q .normal a w)
    (h0 : Inv (fun _ => false) a w.drew) : (Code.region id ops true).wp P Q a w := by
  refine wp_region_any hm ?_
  refine wpAny_inv hb hstep hdone _ _ a _ (by simp) ?_ ?_
  · exact Nat.le_trans List.countP_le_length (by simp)
  · have e : (fun j => (Array.replicate ops.size false).getD j false) = fun _ => false := by
      funext j
      simp only [Array.getD_eq_getD_getElem?, Array.getElem?_replicate]
      split <;> rfl
    rw [e]
    exact h0

end

end Go.Proofs.YtaliegkkdhkfcacGreatDoor

namespace Go.Proofs.YtaliegkkdhkfcacGreatDoor
open Go.RowKit Go.Deep Go.ChangeShapes Go.WideShapes
attribute [local go_sem ↓] Go.wp_at_zero Go.wp_at_succ

/-- Factor, told alone. -/
def facK (U : Tm → Tm → Option Sb) (c : Cl) (i : Nat) (x y : Lt) (st : List Cl × Bool) (k : Nat) : List Cl × Bool :=
  addU st (U (turnL (decide (2 ≤ k)) x).2.1 (turnL (decide (k % 2 = 1)) y).2.1) (butC c i ++ [(true, (turnL (decide (2 ≤ k)) x).2.2, (turnL (decide (k % 2 = 1)) y).2.2)])
def facJ (U : Tm → Tm → Option Sb) (c : Cl) (i : Nat) (st : List Cl × Bool) (j : Nat) : List Cl × Bool := match c[i]?, c[j]? with
  | some x, some y => if j ≤ i ∨ x.1 = true ∨ y.1 = true then st else foldN (facK U c i x y) st 4
  | _, _ => st
def facI (U : Tm → Tm → Option Sb) (c : Cl) (st : List Cl × Bool) (i : Nat) : List Cl × Bool := foldN (facJ U c i) st c.length
def facTo (U : Tm → Tm → Option Sb) (c : Cl) (i : Nat) : List Cl × Bool := foldN (facI U c) ([], false) i
theorem facK_len (U : Tm → Tm → Option Sb) (c : Cl) (i : Nat) (x y : Lt) (st : List Cl × Bool) (k : Nat) : (facK U c i x y st k).1.length ≤ st.1.length + 1 := addU_len _ _ _
theorem facJ_len (U : Tm → Tm → Option Sb) (c : Cl) (i : Nat) (st : List Cl × Bool) (j : Nat) : (facJ U c i st j).1.length ≤ st.1.length + 4 := by
  unfold facJ
  split
  · rename_i x y _ _
    split
    · omega
    · have := foldN_len (m := 1) (facK_len U c i x y) st 4
      omega
  · omega
theorem facJ_eq {U : Tm → Tm → Option Sb} {c : Cl} {i : Nat} (st : List Cl × Bool) {j : Nat} {x y : Lt} (hx : c[i]? = some x) (hy : c[j]? = some y) : facJ U c i st j = if j ≤ i ∨ x.1 = true ∨ y.1 = true then st else foldN (facK U c i x y) st 4 := by
  unfold facJ
  rw [hx, hy]
theorem facI_len (U : Tm → Tm → Option Sb) (c : Cl) (st : List Cl × Bool) (i : Nat) : (facI U c st i).1.length ≤ st.1.length + c.length * 4 := foldN_len (m := 4) (facJ_len U c i) st c.length
theorem facTo_len (U : Tm → Tm → Option Sb) (c : Cl) (i : Nat) : (facTo U c i).1.length ≤ i * (c.length * 4) := by
  have := foldN_len (m := c.length * 4) (facI_len U c) ([], false) i
  rw [List.length_nil, Nat.zero_add] at this
  exact this

theorem turn_both {yes : Bool} {l : Lt} {P : Tm → Prop} (h : P l.2.1 ∧ P l.2.2) : P (turnL yes l).2.1 ∧ P (turnL yes l).2.2 := by
  cases yes
  · exact h
  · exact ⟨h.2, h.1⟩

section
variable {W : World} {cb co i j k : Nat} {CV XA YA TA TB : Value} {LA LB : List Value} {D : Nat → Bool} {w w' : World} {s44 s45 s46 s47 s48 s49 s50 s51 s52 s53 s54 s55 s56 s57 s58 s8 s9 : Value}
end
/-- What is done has all done that it needs. -/
def CLo (dep : Nat → List Nat) (D : Nat → Bool) : Prop := ∀ k, D k = true → ∀ m ∈ dep k, D m = true
theorem clo_set {dep : Nat → List Nat} {D : Nat → Bool} (h : CLo dep D) (k : Nat) (hk : ∀ m ∈ dep k, D m = true) : CLo dep (fun j => j == k || D j) := fun q hq m hm => by
  show (m == k || D m) = true
  by_cases e : q = k
  · subst e; rw [hk m hm]; simp
  · have : D q = true := by simpa [e] using hq
    rw [h q this m hm]; simp
section
variable {W : World} {PV BV CV : Value} {i g8 g9 : Nat} {R1 R2 LT : Value} {bc : Cl} {l : Lt} {a d : Value} {D : Nat → Bool} {w w' : World} {s68 s69 s70 s71 s72 s73 s74 s75 s76 s77 s78 s79 s80 : Value}
end

end Go.Proofs.YtaliegkkdhkfcacGreatDoor
