/- Clauses that came in: what a reading of them says of the memory. -/
import Derived.Test.YtfckelbdageenabGreatDoorG22
import Derived.Test.YtfckelbdageenabGreatDoorG18
import Derived.Test.YtfckelbdageenabGreatDoorRows
import Derived.Test.YtfckelbdageenabGreatDoorChecked
import Derived.Lay
import Derived.LaidOnce
import Derived.SizedLaws
import Derived.ChangeMaps5
import Derived.Deep.DeepHandedRow
import Derived.Deep.DeepWitnessRowRef
import Derived.Test.YtfckelbdageenabGreatDoorG09
import Derived.Maps.OwnOps
import Derived.Maps.RangeWalk
namespace Go.Proofs.YtfckelbdageenabGreatDoor
open Go.ChangeShapes Go.WideShapes Go.ChangeAt Go.WideMaps Go.WideElems Go.RowKit Go.Deep Go.Joins

theorem Tryz.cells44 : Tryz.prog.cellsOf 44 = 7 := by kernel_rfl

section
variable {H : Type} {enc : TypeId × Value → H} {W : World} {sp : Nat → Bool} {held : Bool}

set_option maxRecDepth 100000 in
/-- A literal's seven cells. -/
theorem open_lit {fuel : Nat} {cs : List Value} {x : DataW H × List MemPlace} (h : DataW.trod enc Tryz.prog W 0 sp held fuel 44 cs = some x) :
    ∃ (l : Lt) (a d : Value), cs = litV l a d ∧ SIn W l.2.1.2 a ∧ SIn W l.2.2.2 d := by
  obtain ⟨xs, m, rfl, _, hl, hlen, hf⟩ := DataW.trod_struct Tryz.underlying44 h
  rw [Tryz.cells44] at hl
  match xs, hlen, cs, hl with
  | [y0, y1, y2], _, [c0, c1, c2, c3, c4, c5, c6], _ =>
    have q0 := hf 0 _ rfl
    have q1 := hf 1 _ rfl
    have q2 := hf 2 _ rfl
    simp [Tryz.cells4, Tryz.cells36] at q0 q1 q2
    obtain ⟨n, e0, _⟩ := DataW.trod_bool Tryz.underlying4 q0
    obtain ⟨v, z, a, m', y, _, e1, hy⟩ := open_term q1
    obtain ⟨k, hk⟩ := open_terms _ _ _ hy
    obtain ⟨v', z', a', m'', y', _, e2, hy'⟩ := open_term q2
    obtain ⟨k', hk'⟩ := open_terms _ _ _ hy'
    simp only [List.cons.injEq, and_true] at e0 e1 e2
    obtain ⟨rfl, rfl, rfl⟩ := e1
    obtain ⟨rfl, rfl, rfl⟩ := e2
    subst e0
    exact ⟨(n, ((v, z), k), ((v', z'), k')), c3, c6, rfl, hk, hk'⟩

theorem build_cl {b : Nat} : ∀ (n o : Nat), (∀ i, i < n → ∃ (l : Lt) (a d : Value), W.cell? ⟨b, o + 7 * i, none⟩ = some (.bool l.1) ∧ W.cell? ⟨b, o + 7 * i + 1, none⟩ = some (.bool l.2.1.1.1) ∧ W.cell? ⟨b, o + 7 * i + 2, none⟩ = some (.int .i64 l.2.1.1.2) ∧ W.cell? ⟨b, o + 7 * i + 3, none⟩ = some a ∧ W.cell? ⟨b, o + 7 * i + 4, none⟩ = some (.bool l.2.2.1.1) ∧ W.cell? ⟨b, o + 7 * i + 5, none⟩ = some (.int .i64 l.2.2.1.2) ∧ W.cell? ⟨b, o + 7 * i + 6, none⟩ = some d ∧ SIn W l.2.1.2 a ∧ SIn W l.2.2.2 d) → ∃ s : Cl, s.length = n ∧ LIn W s b o
  | 0, _, _ => ⟨[], rfl, trivial⟩
  | n + 1, o, h => by
    obtain ⟨s, hl, hP⟩ := build_cl n (o + 7) (fun i hi => by
      have := h (i + 1) (by omega)
      rw [show o + 7 * (i + 1) = o + 7 + 7 * i by omega] at this
      exact this)
    obtain ⟨l, a, d, h0, h1, h2, h3, h4, h5, h6, h7, h8⟩ := h 0 (by omega)
    exact ⟨l :: s, by simp [hl], ⟨by simpa using h0, by simpa using h1, by simpa using h2, ⟨a, by simpa using h3, h7⟩, by simpa using h4, by simpa using h5, d, by simpa using h6, h8⟩, hP⟩

set_option maxRecDepth 100000 in
/-- A clause by value. -/
theorem open_cl {r : Reach} {b0 : Nat} {v : Value} {d : DataW H} {p : List MemPlace} (hv : Value.okWide Tryz.prog W r b0 25 v) (h : DataW.Trod enc Tryz.prog W 0 sp held 25 v d p) : ∃ s : Cl, CIn W s v := by
  obtain ⟨a0, len0, cap0, rfl⟩ := okWide_slice Tryz.underlying25 hv
  obtain ⟨fuel, hf⟩ := h
  rcases DataW.trod_slice Tryz.underlying25 hf with ⟨hc, _⟩ | ⟨a, len, cap, elems, rest, n, hfuel, hc, _, _, hlc, hcm, hlen, hel, _, _⟩
  · simp [Value.cells] at hc
    obtain ⟨rfl, rfl, rfl⟩ := hc
    exact ⟨[], CIn.nil W⟩
  · simp [Value.cells] at hc
    obtain ⟨rfl, rfl, rfl⟩ := hc
    rw [Tryz.cells44] at hel
    obtain ⟨b, o, spot⟩ := a
    have hone : ∀ i, i < len0 → ∃ (l : Lt) (a d : Value), W.cell? ((⟨b, o, spot⟩ : Addr).add (i * 7)) = some (.bool l.1) ∧ W.cell? (((⟨b, o, spot⟩ : Addr).add (i * 7)).add 1) = some (.bool l.2.1.1.1) ∧ W.cell? (((⟨b, o, spot⟩ : Addr).add (i * 7)).add 2) = some (.int .i64 l.2.1.1.2) ∧ W.cell? (((⟨b, o, spot⟩ : Addr).add (i * 7)).add 3) = some a ∧ W.cell? (((⟨b, o, spot⟩ : Addr).add (i * 7)).add 4) = some (.bool l.2.2.1.1) ∧ W.cell? (((⟨b, o, spot⟩ : Addr).add (i * 7)).add 5) = some (.int .i64 l.2.2.1.2) ∧ W.cell? (((⟨b, o, spot⟩ : Addr).add (i * 7)).add 6) = some d ∧ SIn W l.2.1.2 a ∧ SIn W l.2.2.2 d := fun i hi => by
      have h1 := hel i hi
      have hi' : i < elems.length := by omega
      rw [List.getElem?_eq_getElem hi'] at h1
      obtain ⟨cs, h2, h3⟩ := Option.bind_eq_some_iff.1 h1
      obtain ⟨_, hl3, hcell⟩ := World.cells?_some h2
      obtain ⟨l, ta, td, rfl, hk, hk'⟩ := open_lit h3
      exact ⟨l, ta, td, by simpa [Addr.add] using hcell 0 (by omega), by simpa using hcell 1 (by omega), by simpa using hcell 2 (by omega), by simpa using hcell 3 (by omega), by simpa using hcell 4 (by omega), by simpa using hcell 5 (by omega), by simpa using hcell 6 (by omega), hk, hk'⟩
    by_cases h0 : len0 = 0
    · subst h0
      exact ⟨[], _, cap0, 0, 0, rfl, fun h => by simp at h, Nat.zero_le _, hcm, trivial⟩
    · have hspot : spot = none := by
        obtain ⟨x, v, _, q0, _⟩ := hone 0 (by omega)
        simpa [Addr.add] using World.cell?_spot q0
      subst hspot
      obtain ⟨s, hs1, hs2⟩ := build_cl (W := W) (b := b) len0 o (fun i hi => by
        obtain ⟨l, a, d, q0, q1, q2, q3, q4, q5, q6, q7, q8⟩ := hone i hi
        refine ⟨l, a, d, ?_, ?_, ?_, ?_, ?_, ?_, ?_, q7, q8⟩
        · rw [add_plain] at q0; rw [Nat.mul_comm 7 i]; exact q0
        · rw [add_plain, add_plain] at q1; rw [Nat.mul_comm 7 i]; exact q1
        · rw [add_plain, add_plain] at q2; rw [Nat.mul_comm 7 i]; exact q2
        · rw [add_plain, add_plain] at q3; rw [Nat.mul_comm 7 i]; exact q3
        · rw [add_plain, add_plain] at q4; rw [Nat.mul_comm 7 i]; exact q4
        · rw [add_plain, add_plain] at q5; rw [Nat.mul_comm 7 i]; exact q5
        · rw [add_plain, add_plain] at q6; rw [Nat.mul_comm 7 i]; exact q6)
      exact ⟨s, _, cap0, b, o, by rw [hs1], fun _ => rfl, by omega, hcm, hs2⟩

end

/-- The same clause, without what is no part of it. -/
def normCl (s : Cl) : Cl := s.map fun l => (l.1, (l.2.1.1, Fo.norm l.2.1.2), (l.2.2.1, Fo.norm l.2.2.2))
theorem lin_norm {w : World} : ∀ {s : Cl} {b o : Nat}, LIn w s b o → LIn w (normCl s) b o
  | [], _, _, _ => trivial
  | _ :: _, _, _, ⟨⟨h0, h1, h2, ⟨v, h3, h4⟩, h5, h6, u, h7, h8⟩, h9⟩ => ⟨⟨h0, h1, h2, ⟨v, h3, sin_norm h4⟩, h5, h6, u, h7, sin_norm h8⟩, lin_norm h9⟩
theorem cl_norm {w : World} {s : Cl} {v : Value} (h : CIn w s v) : CIn w (normCl s) v := by
  obtain ⟨a, c, b, o, rfl, h2, h3, h4, h5⟩ := h
  exact ⟨a, c, b, o, by simp [normCl], by simpa [normCl] using h2, by simpa [normCl] using h3, h4, lin_norm h5⟩
theorem normCl_norm {s : Cl} : ∀ l ∈ normCl s, Fo.norm l.2.1.2 = l.2.1.2 ∧ Fo.norm l.2.2.2 = l.2.2.2 := fun p hp => by
  simp only [normCl, List.mem_map] at hp
  obtain ⟨q, _, rfl⟩ := hp
  exact ⟨norm_norm _, norm_norm _⟩

end Go.Proofs.YtfckelbdageenabGreatDoor

/- The law ClauseTurns, lifted: what the bound of the second form gives, the witness, the conditions. -/
namespace Go.Proofs.YtfckelbdageenabGreatDoor
open Go.ChangeMaps Go.ChangeShapes Go.WideShapes Go.ChangeAt Go.WideMaps Go.WideElems Go.RowKit Go.Deep Go.Joins

theorem own4 : ownKnob Tryz.prog.godebug = none := by kernel_rfl
theorem laidOut4 : laidOutB Tryz.prog = true := by kernel_rfl

theorem bulk_part {H : Type} {d : DataW H} {l : List (DataW H)} (h : d ∈ l) : Rows.uptoBulk d ≤ Rows.uptoBulkAll l := by
  induction l with
  | nil => cases h
  | cons x r ih =>
    simp only [Rows.uptoBulkAll]
    cases List.mem_cons.1 h with
    | inl e => subst e; omega
    | inr e => have := ih e; omega
theorem bulk_string {H : Type} (bytes : List UInt8) : Rows.uptoBulk (DataW.lit (H := H) (.string bytes)) = bytes.length + 1 := by
  simp [Rows.uptoBulk]
theorem bulk_bound {H : Type} {l : List (DataW H)} (hk : Rows.uptoSmall H l = true) : Rows.uptoBulkAll l ≤ 1048576 := by
  simpa [Rows.uptoSmall] using hk

set_option maxRecDepth 100000 in
theorem laid4_met (os : Os) (args : Array Value) : laidMetH Tryz.prog Rows.clauseTurnsUptoRow.laid ((World.laidAll Tryz.prog os Rows.clauseTurnsUptoRow.laid).forCall (fun _ _ => 0) ⟨#[], args, []⟩).memory := by
  rw [MakeChecks.laidMetH_plain _ _ _ (by kernel_rfl)]
  exact laidMet_laidAll _ (by kernel_rfl) (by kernel_rfl)

theorem reads4 (os : Os) {H : Type} (enc : TypeId × Value → H) : ∃ places, DataW.whole enc Tryz.prog ((World.laidAll Tryz.prog os Rows.clauseTurnsUptoRow.laid).forCall (fun _ _ => 0) ⟨#[], #[.slice none 0 0, .slice none 0 0, .string ⟨#[]⟩], []⟩).memory Tryz.f4.params.toList Rows.clauseTurnsSpec.vars false #[Value.slice none 0 0, .slice none 0 0, .string ⟨#[]⟩].toList 8 = some ([.nil, .nil, .lit (.string [])], [], places) :=
  ⟨[], by kernel_rfl⟩

set_option maxRecDepth 100000 in
theorem contract4T (hal : Alive4) (H : Type) (enc : TypeId × Value → H) (W : World) (base : Nat) (args : Array Value) (ds gs : List (DataW H)) (before : List MemPlace)
    (hval0 : ∀ (j : Nat) t v, Tryz.f4.params[j]? = some t → args[j]? = some v → Value.okWide Tryz.prog W .any base t v)
    (hW : DataW.Whole enc Tryz.prog Tryz.f4.params.toList Rows.clauseTurnsSpec.vars false W args.toList ds gs before)
    (hk : Rows.uptoSmall H (ds ++ gs) = true) (hsh : W.ShapedOpen Tryz.prog) :
    Calls Tryz.prog 4 args W fun e W' => ∃ v, e = .returned v ∧ Rows.clauseTurnsSpec.post enc Tryz.prog Tryz.f4 false true false false W args v W' := by
  have hval : ∀ (j : Nat) t v, Tryz.f4.params[j]? = some t → args[j]? = some v → Value.okWide Tryz.prog W .any base t v := hval0
  have hW' := hW
  obtain ⟨p, q, hA0, hV, rfl, hfz, hnd⟩ := hW
  have hA : DataW.TrodAll enc Tryz.prog W 0 (fun _ => true) true Tryz.f4.params.toList args.toList ds p := hA0
  rw [Tryz.params4] at hA hval
  obtain ⟨v0, v1, v2, d0, d1, d2, p0, p1, p2, rfl, rfl, rfl, h0, h1, h2⟩ := trodAll_three hA
  obtain ⟨rfl, rfl⟩ := trodVars_none hV
  have lt0 : ∀ x ∈ p0, x.block < W.heap.size := by obtain ⟨m, hm⟩ := h0; exact DataW.trod_lt m _ _ _ hm
  have lt1 : ∀ x ∈ p1, x.block < W.heap.size := by obtain ⟨m, hm⟩ := h1; exact DataW.trod_lt m _ _ _ hm
  have k0 := h0
  have k1 := h1
  obtain ⟨s, hN⟩ := open_nums Tryz.underlying23 (hval 0 23 v0 rfl rfl) h0
  obtain ⟨c, hC⟩ := open_cl (hval 1 25 v1 rfl rfl) h1
  obtain ⟨B, rfl, rfl, rfl, hBm⟩ := open_string Tryz.underlying9 (hval 2 9 v2 rfl rfl) h2
  have hB : B.size < 4294967281 := by
    have h1 := bulk_bound hk
    have h2 := bulk_part (H := H) (d := .lit (.string B.data.toList)) (l := [d0, d1, .lit (.string B.data.toList)] ++ []) (by simp)
    rw [bulk_string] at h2
    have h3 : B.data.toList.length = B.size := Array.length_toList
    omega
  obtain ⟨m, hm⟩ := Tryz.laysM145.s1_3 W hsh
  clear hA0 hval0
  refine (clauseTurns_of hal s v0 (normCl c) v1 B m W hN (cl_norm hC) normCl_norm hm hB).mono fun e W' ⟨he, bel⟩ => ?_
  subst he
  exact ⟨_, rfl, _, _, _, [], _, [], hW', trodAll_mk1 (shut_bool Tryz.underlying4 _),
    (trodAll_mk3 (Below.trod laidOut4 (by kernel_rfl) (of_decide_eq_true (by kernel_rfl)) k0 bel lt0) (Below.trod laidOut4 (by kernel_rfl) (of_decide_eq_true (by kernel_rfl)) k1 bel lt1) (shut_string Tryz.underlying9 hBm)), rfl, bel.frame _, fun h => by cases h⟩

set_option maxRecDepth 100000 in
theorem lifted4T (hal : Alive4) (os : Os) (started : os.Started) (H : Type) (enc : TypeId × Value → H) (F : Stop.Interp) :
    ReturnsInHanded {} Tryz.checked os 4 .any ((Rows.OpenSpec.upto Rows.clauseTurnsSpec).preRow enc Tryz.prog Tryz.f4 Rows.clauseTurnsUptoRow.domain false Rows.clauseTurnsUptoRow.laid) (((Rows.OpenSpec.upto Rows.clauseTurnsSpec).at F).post enc Tryz.prog Tryz.f4 false true false false) := by
  obtain ⟨places, hx⟩ := reads4 os enc
  refine returnsInHanded_of_row (C := Tryz.checked) (s := Rows.OpenSpec.upto Rows.clauseTurnsSpec) own4 started (by kernel_rfl) Tryz.func4
    (witness_row_atRef (enc := enc) (C := Tryz.checked) false (World.laidAll Tryz.prog os Rows.clauseTurnsUptoRow.laid) #[.slice none 0 0, .slice none 0 0, .string ⟨#[]⟩] (World.laidAll_os _ _ _) (by kernel_rfl) (by kernel_rfl) (by kernel_rfl)
      (OpenSpec.preRow_of_cond 8 hx (by kernel_rfl) (fun k hk => by cases hk; kernel_rfl) (by kernel_rfl) (laid4_met os _))) ?_
  intro W base args ds gs before hval hW _ hcond _ _ hsh _
  exact contract4T hal H enc W base args ds gs before hval hW (hcond _ rfl) hsh

theorem said4T (hal : Alive4) : Rows.ClauseTurnsUptoSaid :=
  OpenClaim.holds_of_cond 4 Tryz.f4 rfl rfl rfl rfl rfl rfl rfl ⟨rfl, rfl, rfl, rfl, rfl⟩ rfl rfl rfl rfl rfl (by kernel_rfl) Tryz.func4 (by kernel_rfl)
    (of_decide_eq_true (by kernel_rfl)) (by unfold Func.isWrapper; first | (rw [if_pos (by decide +kernel)]; kernel_rfl) | (rw [if_neg (by decide +kernel)]; exact ⟨rfl, rfl⟩))
    (fun os started H enc _ F => by rw [OpenClaim.pre_eq_preRow]; exact lifted4T hal os started H enc F)

end Go.Proofs.YtfckelbdageenabGreatDoor

/- How often variables are told: the project's count and asOften. -/
namespace Go.Proofs.YtfckelbdageenabGreatDoor
open Go.RowKit Go.Deep Go.ChangeShapes Go.WideShapes Go.Maps
attribute [local go_sem ↓] Go.wp_at_zero Go.wp_at_succ

theorem keyed3 : Keyed Tryz.prog 3 := int_keyed Tryz.underlying3
theorem zero3 (w : World) : (zeroValue 3).run Tryz.prog w = .ok (.int .i64 0) w := by kernel_rfl
abbrev MD := DataW Unit
/-- A block that is a map of numbers. -/
abbrev OM (w : World) (b n : Nat) (D : MD) : Prop := w.ownsMap Tryz.prog 3 (plainElem (H := Unit) Tryz.prog 3) b n D
def inR (v : Int) : Prop := -9223372036854775808 ≤ v ∧ v < 9223372036854775808
/-- The map tells g. -/
def Tel (D : MD) (g : Int → Int) : Prop := IsMap D ∧ ∀ v : Int, inR v → D.atKey (.int .i64 v) (.lit (.int .i64 0)) = .lit (.int .i64 (wrap64 (g v)))
theorem key_lit (v : Int) : WideAt.IsKeyLit (.int .i64 v) := trivial
theorem wrap64_of {n : Int} (h : inR n) : wrap64 n = n := by unfold inR at h; unfold wrap64; omega
theorem tel_put {D : MD} {g : Int → Int} {x c much : Int} (h : Tel D g) (hx : inR x) (hat : D.atKey (.int .i64 x) (.lit (.int .i64 0)) = .lit (.int .i64 c)) :
    Tel (D.put (.int .i64 x) (.lit (.int .i64 (wrap64 (c + much))))) (fun v => g v + much * (if x = v then 1 else 0 : Nat)) := by
  refine ⟨h.1.put _ _, fun v hv => ?_⟩
  by_cases e : x = v
  · subst e
    rw [atKey_put_same h.1 (key_lit _)]
    have h2 := h.2 x hx
    rw [hat] at h2
    have h3 : c = wrap64 (g x) := by injection h2 with h2; injection h2
    subst h3
    dsimp only
    rw [if_pos rfl]
    congr 2
    unfold wrap64
    omega
  · rw [atKey_put_other (by intro e'; injection e' with _ e'; exact e e'.symm), h.2 v hv]
    dsimp only
    rw [if_neg e]
    simp
theorem om_cell {w w' : World} {b n : Nat} {D : MD} (h : OM w b n D) (hg : w.grownBy w' (some b)) : ∀ a v, w.cell? a = some v → w'.cell? a = some v := by
  intro a v hc
  have hlt := World.block_lt_of_cell? _ _ hc
  by_cases e : a.block = b
  · obtain ⟨es, clock, hb, _⟩ := h
    simp [World.cell?, e, hb] at hc
  · rw [World.cell?_of_block (hg.block _ hlt (fun e' => e (by injection e')))]; exact hc
theorem grown_refl (w : World) (row : Option Nat) : w.grownBy w row := ⟨rfl, rfl, rfl, Nat.le_refl _, fun _ _ _ => rfl⟩

theorem szToR_take (k : Fo) (j : Nat) : szToR k j ≤ tszR k := by
  rw [← szToR_end k]
  unfold szToR
  rw [← Fo.len_list, List.take_length]
  have h := List.take_append_drop j k.list
  have : (k.list.map fun y => tszR y.2).sum = ((k.list.take j).map fun y => tszR y.2).sum + ((k.list.drop j).map fun y => tszR y.2).sum := by rw [← List.sum_append, ← List.map_append, h]
  omega

def CountSaid (x : Bool × Int) (k : Fo) : Prop := ∀ (a : Value) (much : Int) (w : World) (b n : Nat) (D : MD) (g : Int → Int), okT (x, k) → (∀ m, occT m (x, k) → 0 ≤ m ∧ m ≤ 4) → SIn w k a → OM w b n D → Tel D g → n + tszR k ≤ 10000000000000 →
    Calls Tryz.prog 129 #[.map (some b), .agg #[.bool x.1, .int .i64 x.2, a], .int .i64 much] w fun e w' => e = .returned (.tuple #[]) ∧ ∃ D', OM w' b (n + tszR k) D' ∧ Tel D' (fun v => g v + much * timT v (x, k)) ∧ w.grownBy w' (some b)

set_option maxRecDepth 100000 in
set_option maxHeartbeats 400000 in
theorem count_any (x : Bool × Int) (k : Fo) : CountSaid x k := by
  refine Fo.ind1 (p := CountSaid) ?_ x k
  clear x k
  intro x k ih a much w b n D g hok hfew hS hown htel hbd
  obtain ⟨xv, xn⟩ := x
  cases xv
  · obtain ⟨ad, c, kb, o, rfl, had, hlc, hcm, hF⟩ := hS
    have Hl := hide (Fo.len_list k)
    have Hend := hide (szToR_end k)
    have Hok := hide hok
    have Hfew := hide hfew
    have Htel := hide htel
    have HI := hide ih
    have HF := hide hF
    have Hown := hide hown
    have Hbd := hide hbd
    unfold maxLen at hcm
    clear ih hF hown htel hok hfew hbd
    go_enter Tryz.func129, Tryz.ntmps129
    go_wp2_with fail
    generalize hW1 : w.alloc (.cells #[.bool false, .int .i64 xn, .slice ad (Fo.len k) c] 36) = W1
    have HO1 : Hid (OM W1 b n D) := by rw [← hW1]; exact Hown.out.alloc _
    have HG1 : Hid (w.grownBy W1 (some b)) := by rw [← hW1]; exact World.grownBy_alloc _ _ _
    clear hW1
    go_loopw [19] (fun i wr => ∃ (j : Nat) (D' : MD), j ≤ Fo.len k ∧ i = .int .i64 j ∧ OM wr b (n + szToR k j) D' ∧ Tel D' (fun v => g v + much * tmTo v (false, xn) k j) ∧ W1.grownBy wr (some b)) (fun i _ => Fo.len k - (intOf i).toNat)
    case atStart => exact ⟨0, D, Nat.zero_le _, rfl, HO1.out.mono (Nat.le_add_right _ _), ⟨Htel.out.1, fun v hv => by rw [Htel.out.2 v hv]; dsimp only; rw [tmTo_zero]; simp⟩, grown_refl _ _⟩
    case round =>
      obtain ⟨j, D', hj, rfl, hO, hT, hG⟩ := hrel
      have HO := hide hO
      have HT := hide hT
      have HG := hide hG
      clear hO hT hG
      by_cases hlt : j < Fo.len k
      · have hlt' : (j : Int) < (Fo.len k : Int) := by omega
        obtain ⟨⟨⟨yv, yn⟩, yk⟩, hy⟩ : ∃ y, k.list[j]? = some y := ⟨k.list[j]'(by rw [Hl.out]; exact hlt), by simp⟩
        have HFr : Hid (FIn wr k kb o) := FIn.later (fun a v h => om_cell HO1.out HG.out a v (om_cell Hown.out HG1.out a v h)) HF.out
        obtain ⟨c0, c1, yv', c2, hSy⟩ := HFr.out.at hy
        have ha : ad = some ⟨kb, o, none⟩ := had (by omega)
        subst ha
        have HS := hide hSy
        obtain ⟨ya, yc, yb, yo, rfl, -, -, -, -⟩ := hSy
        have Hy := hide hy
        have Hmem := hide (List.mem_of_getElem? hy)
        have Hb2 : Hid (n + szToR k j + tszR yk ≤ 10000000000000) := by
          have h1 := szToR_succ hy
          have h2 := szToR_take k (j + 1)
          have h3 := Hbd.out
          unfold Hid
          omega
        clear hy had
        go_wp2_with fail
        refine (HI.out ((yv, yn), yk) Hmem.out _ much _ b _ D' _ (ok_mem Hok.out.2 Hmem.out) (fun m hm => Hfew.out m (by unfold occT; simp only [Bool.false_eq_true, if_false]; exact occ_mem.2 ⟨_, Hmem.out, hm⟩)) (HS.out.alloc _) (HO.out.alloc _) HT.out Hb2.out).mono ?_
        rintro e w2 ⟨rfl, D2, hO2, hT2, hG2⟩
        have HO2 := hide hO2
        have HT2 := hide hT2
        have HG2 := hide (HG.out.trans ((World.grownBy_alloc _ _ _).trans hG2))
        clear hO2 hT2 hG2
        go_wp2_with fail
        go_roundw
        case rel => exact ⟨j + 1, D2, by omega, by go_num, by rw [szToR_succ Hy.out, ← Nat.add_assoc]; exact HO2.out, ⟨HT2.out.1, fun v hv => by rw [HT2.out.2 v hv]; dsimp only; rw [tmTo_succ Hy.out, Int.natCast_add, Int.mul_add, Int.add_assoc]⟩, HG2.out⟩
        case measure => simp [intOf]; omega
      · have hje : j = Fo.len k := by omega
        have Hj := hide hje
        clear hje had
        go_wp2_with fail
        go_end0
        have e := Hj.out
        subst e
        refine ⟨rfl, D', ?_, ?_, HG1.out.trans HG.out⟩
        · rw [← Hend.out]; exact HO.out
        · have := HT.out
          simp only [tmTo_end] at this
          exact this
  · have hk : k = .nil := hok.1 rfl
    subst hk
    obtain ⟨ad, c, kb, o, rfl, -, -, -, -⟩ := hS
    have hx := hfew xn (by simp [occT])
    have hr : inR xn := by unfold inR; omega
    have hkey : keyOf Tryz.prog 3 (.int .i64 xn) = some (.int .i64 xn) := keyOf_int_mk Tryz.underlying3 (WalkArith.wf_i64 (by omega))
    have Htel := hide htel
    have Hbd := hide hbd
    have Hr := hide hr
    clear htel hbd hfew hok ih hr hx
    go_enter Tryz.func129, Tryz.ntmps129
    go_wp2_with (first
      | (at_lookup; refine wpList_lookup_own_int _ rfl _ _ 142 rfl 3 3 .i64 keyed3 Tryz.underlying142 Tryz.underlying3 (zero3 _) b n _ rfl (hown.alloc _) _ _ rfl hkey ?_; intro c hat hwc)
      | (at_mapUpdate; refine wpList_mapUpdate_own _ rfl _ _ _ 142 rfl 3 3 keyed3 Tryz.underlying142 _ b n _ rfl (hown.alloc _) (by have := Hbd.out; unfold maxLen; omega) _ _ _ rfl rfl hkey _ [] (plainElem_int Tryz.underlying3 (wrap64_wf _)) ?_; intro w1 hown1 hgrow1)
      | go_in)
    (try simp only [Exit.inBlock, Exit.then])
    refine bodyPost_ret (results_none rfl _ _ _) rfl ?_
    refine ⟨rfl, _, hown1, ?_, (World.grownBy_alloc _ _ _).trans hgrow1⟩
    have := tel_put (much := much) Htel.out Hr.out hat
    simpa [timT, timF] using this

end Go.Proofs.YtfckelbdageenabGreatDoor

/- Whether each variable of a term is in another one as often: the project's asOften. -/
namespace Go.Proofs.YtfckelbdageenabGreatDoor
open Go.RowKit Go.Deep Go.ChangeShapes Go.WideShapes Go.Maps
attribute [local go_sem ↓] Go.wp_at_zero Go.wp_at_succ

abbrev RG (w : World) (b r n : Nat) (D : MD) (left : Lit → Bool) (cnt : Nat) : Prop := w.ranges Tryz.prog 3 (plainElem (H := Unit) Tryz.prog 3) b r n D left cnt
def dif (a b : Tm) (v : Int) : Int := (timT v a : Int) - (timT v b : Int)
theorem dif_small {a b : Tm} (ha : szT a ≤ 1000000000000) (hb : szT b ≤ 1000000000000) (v : Int) : wrap64 (dif a b v) = dif a b v := by
  have h1 := timT_le v a
  have h2 := timT_le v b
  refine wrap64_of ?_
  unfold inR dif
  omega
theorem may_of {a b : Tm} (hb : Gd b) (h : ∀ v, inR v → 0 ≤ dif a b v) : mayT a b = true := by
  refine (may_iff hb.ok).2 fun v => ?_
  by_cases e : 0 < timT v b
  · have h1 := hb.few v (tim_occ hb.ok e)
    have h2 := h v (by unfold inR; omega)
    unfold dif at h2
    omega
  · omega
theorem may_not {a b : Tm} (hb : Gd b) {v : Int} (h : dif a b v < 0) : mayT a b = false := by
  rw [← Bool.not_eq_true, may_iff hb.ok]
  intro hh
  have := hh v
  unfold dif at h
  omega
/-- What has come is not less than nothing. -/
def Seen (a b : Tm) (left : Lit → Bool) : Prop := ∀ v, inR v → left (.int .i64 v) = false → 0 ≤ dif a b v
theorem seen_start {a b : Tm} {D : MD} (ha : szT a ≤ 1000000000000) (hb : szT b ≤ 1000000000000) (h : Tel D (dif a b)) : Seen a b (Maps.has D) := fun v hv hl => by
  have h1 := h.2 v hv
  rw [atKey_of_not_has hl, dif_small ha hb] at h1
  injection h1 with h1
  injection h1 with _ h1
  omega
theorem seen_next {a b : Tm} {left : Lit → Bool} {x : Int} (h : Seen a b left) (hx : 0 ≤ dif a b x) : Seen a b (fun z => left z && !z.sameKey (.int .i64 x)) := fun v hv hl => by
  by_cases e : v = x
  · subst e; exact hx
  · dsimp only at hl
    rw [sameKey_ne (show (Lit.int .i64 v) ≠ .int .i64 x by intro e'; injection e' with _ e'; exact e e')] at hl
    simp only [Bool.not_false, Bool.and_true] at hl
    exact h v hv hl
theorem inR_wf {x : Int} (h : (Lit.int .i64 x).wf = true) : inR x := by
  simp [Lit.wf, IntKind.min, IntKind.max, IntKind.signed, IntKind.bits] at h
  unfold inR
  omega
theorem tel_is {D : MD} {a b : Tm} {x c : Int} (ha : szT a ≤ 1000000000000) (hb : szT b ≤ 1000000000000) (h : Tel D (dif a b)) (hx : inR x) (hat : ∀ zd, D.atKey (.int .i64 x) zd = .lit (.int .i64 c)) : c = dif a b x := by
  have h1 := h.2 x hx
  rw [hat, dif_small ha hb] at h1
  injection h1 with h1
  injection h1 with _ h1

set_option maxRecDepth 100000 in
set_option maxHeartbeats 1000000 in
theorem asOften_any (x : Bool × Int) (k : Fo) (y : Bool × Int) (l : Fo) (a c : Value) (w : World) (ga : Gd (x, k)) (gb : Gd (y, l)) (hbk : tszR k ≤ 1000000000000) (hbl : tszR l ≤ 1000000000000) (hS : SIn w k a) (hU : SIn w l c) :
    Calls Tryz.prog 115 #[.agg #[.bool x.1, .int .i64 x.2, a], .agg #[.bool y.1, .int .i64 y.2, c]] w fun e w' => e = .returned (.bool (mayT (x, k) (y, l))) ∧ Below w.heap.size w w' := by
  obtain ⟨xv, n⟩ := x
  obtain ⟨yv, m⟩ := y
  have HS := hide hS
  have HU := hide hU
  have Hbk := hide hbk
  have Hbl := hide hbl
  have Hga := hide ga
  have Hgb := hide gb
  obtain ⟨ad, ac, kb, o, rfl, -, -, -, -⟩ := hS
  obtain ⟨ud, uc, ub, uo, rfl, -, -, -, -⟩ := hU
  clear hbk hbl ga gb
  have hmm := @run_makeMap Tryz.prog
  go_enter Tryz.func115, Tryz.ntmps115
  go_wp2_with fail
  generalize hW2 : (w.alloc (.cells #[.bool xv, .int .i64 n, .slice ad (Fo.len k) ac] 36)).alloc (.cells #[.bool yv, .int .i64 m, .slice ud (Fo.len l) uc] 36) = W2
  have hB2 : Below w.heap.size w W2 := by rw [← hW2]; exact (below_alloc _ _).alloc (by simp) _
  have hs2 : W2.heap.size = w.heap.size + 1 + 1 := by rw [← hW2]; simp
  have r0 : W2.cell? ⟨w.heap.size + 1, 0, none⟩ = some (.bool yv) := by rw [← hW2]; exact new_cell (World.size_alloc _ _)
  have r1 : W2.cell? ⟨w.heap.size + 1, 1, none⟩ = some (.int .i64 m) := by rw [← hW2]; exact new_cell (World.size_alloc _ _)
  have r2 : W2.cell? ⟨w.heap.size + 1, 2, none⟩ = some (.slice ud (Fo.len l) uc) := by rw [← hW2]; exact new_cell (World.size_alloc _ _)
  clear hW2
  have hO0 : OM (W2.alloc (.map #[] 0)) (w.heap.size + 1 + 1) 0 (.map []) := by rw [← hs2]; exact World.ownsMap_made _ _ _ _
  have hB3 : Below w.heap.size w (W2.alloc (.map #[] 0)) := hB2.alloc (by omega) _
  have hT0 : Tel (.map []) (fun _ => 0) := ⟨isMap_empty, fun v _ => by simp [wrap64, DataW.atKey]⟩
  refine (count_any (xv, n) k _ 1 _ _ _ _ _ Hga.out.ok Hga.out.few (HS.out.below hB3) hO0 hT0 (by have := Hbk.out; omega)).mono ?_
  rintro e w4 ⟨rfl, D1, hO1, hT1, hG1⟩
  have hB4 : Below w.heap.size w w4 := hB3.grown hG1 hB3.size (fun j hj => by cases hj; omega)
  have q0 := om_cell hO0 hG1 _ _ (grow_cell (below_alloc _ _) _ _ r0)
  have q1 := om_cell hO0 hG1 _ _ (grow_cell (below_alloc _ _) _ _ r1)
  have q2 := om_cell hO0 hG1 _ _ (grow_cell (below_alloc _ _) _ _ r2)
  have HO1 := hide hO1
  have HT1 := hide hT1
  have HB4 := hide hB4
  clear r0 r1 r2 hO0 hT0 hO1 hT1 hG1 hB3 hB2 hB4
  go_wp2_with fail
  refine (count_any (yv, m) l _ (-1) _ _ _ _ _ Hgb.out.ok Hgb.out.few (HU.out.below HB4.out) HO1.out HT1.out (by have := Hbk.out; have := Hbl.out; omega)).mono ?_
  rintro e w5 ⟨rfl, D2, hO2, hT2, hG2⟩
  have hB5 : Below w.heap.size w w5 := HB4.out.grown hG2 HB4.out.size (fun j hj => by cases hj; omega)
  have HB5 := hide hB5
  have HTd : Hid (Tel D2 (dif ((xv, n), k) ((yv, m), l))) := ⟨hT2.1, fun v hv => by
    rw [hT2.2 v hv]
    congr 3
    dsimp only
    unfold dif
    omega⟩
  clear q0 q1 q2 hT2 hG2 hB5 HO1 HT1 HB4
  go_wp2_with (first
    | (at_range; refine wpList_range_own _ rfl _ 142 rfl 3 3 keyed3 Tryz.underlying142 _ (w.heap.size + 1 + 1) _ _ rfl hO2 ?_; intro w6 hrg0 hg0 hs0)
    | go_in)
  go_frame
  have HB6 : Hid (Below w.heap.size w w6) := HB5.out.grown hg0 HB5.out.size (fun j hj => by cases hj)
  have HR0 := hide hrg0
  have H55 : Hid (w.heap.size ≤ w5.heap.size) := HB5.out.size
  clear hrg0 hg0 hs0
  go_loopw [7] (fun _ wr => ∃ (left : Lit → Bool) (cnt : Nat), RG wr (w.heap.size + 1 + 1) w5.heap.size (tszR k + tszR l) D2 left cnt ∧ Seen ((xv, n), k) ((yv, m), l) left ∧ Below w.heap.size w wr)
    (fun _ wr => wr.rangeLeft (w.heap.size + 1 + 1) w5.heap.size)
  case atStart => exact ⟨_, _, by have := HR0.out; rwa [Nat.zero_add] at this, seen_start Hbk.out Hbl.out HTd.out, HB6.out⟩
  case round =>
    obtain ⟨left, cnt, hrg, hseen, hBr⟩ := hrel
    have Hseen := hide hseen
    have HBr := hide hBr
    clear hseen hBr
    go_wp2_with (first
      | (at_next; refine wpList_next_ranges_ii _ rfl _ rfl 3 3 .i64 .i64 keyed3 Tryz.underlying3 Tryz.underlying3 (w.heap.size + 1 + 1) w5.heap.size _ _ _ _ rfl hrg ?_ ?_)
      | go_in)
    · intro _ hl0
      have Hm := hide (may_of Hgb.out (fun v hv => Hseen.out v hv (hl0 _)))
      clear hl0 hrg
      go_wp2_with fail
      go_ret
      exact ⟨by rw [Hm.out]; rfl, HBr.out⟩
    · intro z d w7 cnt1 hwx hwc hlx hat hrg1 hlt hg1 hs1 hen
      have hd := tel_is (a := ((xv, n), k)) (b := ((yv, m), l)) Hbk.out Hbl.out HTd.out (inR_wf hwx) hat
      have HB7 : Hid (Below w.heap.size w w7) := HBr.out.grown hg1 HBr.out.size (fun j hj => by cases hj; exact H55.out)
      have HR1 := hide hrg1
      have HR := hide hrg
      have Hlt := hide hlt
      clear hat hrg hrg1 hlt hg1 hs1 hwx hwc hlx
      by_cases hneg : d < 0
      · have Hm : Hid (mayT ((xv, n), k) ((yv, m), l) = false) := may_not Hgb.out (hd ▸ hneg)
        clear hd
        go_wp2_with fail
        go_ret
        exact ⟨by rw [Hm.out]; rfl, HB7.out⟩
      · have Hs := hide (seen_next (x := z) Hseen.out (by rw [← hd]; omega))
        clear hd
        go_wp2_with fail
        go_roundw
        case rel => exact ⟨_, cnt1, HR1.out, Hs.out, HB7.out⟩
        case measure => rw [HR1.out.left_eq, HR.out.left_eq]; exact Hlt.out

end Go.Proofs.YtfckelbdageenabGreatDoor
