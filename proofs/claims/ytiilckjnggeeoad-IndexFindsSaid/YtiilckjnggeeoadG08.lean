/- UniA UniC UniQ RApp Law2 CK -/
import Derived.Test.YtiilckjnggeeoadG07
import Derived.Deep.RegionLaw
namespace Go.Proofs.Ytiilckjnggeeoad
open Go.RowKit Go.Deep Go.ChangeShapes Go.WideShapes
attribute [local go_sem ↓] Go.wp_at_zero Go.wp_at_succ
theorem set3_heap {w : World} {b o : Nat} {x y z : Value} {q : Nat} (h : q ≠ b) : (set3 w b o x y z).heap[q]? = w.heap[q]? := by
  unfold set3
  rw [Below.heap_setCell _ _ _ _ h, Below.heap_setCell _ _ _ _ h, Below.heap_setCell _ _ _ _ h]
theorem own_snoc2 {lo : Nat} {X : Nat → Prop} {w w3 : World} {s : Sb} {v : Value} {xs : List Value} {n : Int} {t : Tm} {a : Value} {ob : Obj} {g cap : Nat} (h : OwnS lo X w s v xs) (hO : SB X w t.2 a)
    (ho : w3.ownsRow lo 92 4 (.slice (some ⟨g, 0, none⟩) (s.length + 1) cap) (s.length + 1) (xs ++ [.int .i64 n, .bool t.1.1, .int .i64 t.1.2, a])) (hg : (w.alloc ob).grownBy w3 v.ownBlock) (hat : v.ownBlock = some g ∨ g = w.heap.size + 1) (hlt : g < w3.heap.size) :
    OwnS lo (Ex X w w3 (.slice (some ⟨g, 0, none⟩) (s.length + 1) cap)) w3 (s ++ [(n, t)]) (.slice (some ⟨g, 0, none⟩) (s.length + 1) cap) (xs ++ [.int .i64 n, .bool t.1.1, .int .i64 t.1.2, a]) ∧
    Fr w w3 v.ownBlock none ∧ Mv w v (.slice (some ⟨g, 0, none⟩) (s.length + 1) cap) := by
  have hs3 := hg.size
  simp at hs3
  have far : ∀ q, q < w.heap.size → some q ≠ v.ownBlock → w3.heap[q]? = w.heap[q]? := fun q hq hn => by
    rw [hg.block q (by simp; omega) hn, Below.heap_alloc _ _ _ hq]
  have off : ∀ q, Ex X w w3 (.slice (some ⟨g, 0, none⟩) (s.length + 1) cap) q → q < w3.heap.size ∧ some q ≠ (Value.slice (some ⟨g, 0, none⟩) (s.length + 1) cap).ownBlock := fun q hq => by
    rcases hq with hq | hq
    · have h1 := h.off q hq
      refine ⟨by omega, fun e => ?_⟩
      simp [Value.ownBlock] at e
      subst e
      rcases hat with e | e
      · exact h1.2 e.symm
      · omega
    · exact hq.2
  refine ⟨⟨by simpa using ho, ?_, off⟩, ?_, ?_⟩
  · refine PC.append (PC.one ?_) ?_
    · exact hO.frame (fun q hq => .inl hq) (fun q i hq => World.cell?_of_block (far q (h.off q hq).1 (h.off q hq).2))
    · exact h.cells.frame (fun q hq => .inl hq) (fun q i hq => World.cell?_of_block (far q (h.off q hq).1 (h.off q hq).2))
  · exact ⟨hg.os, hg.tape, hg.output, by omega, fun q hq hn _ => far q hq hn⟩
  · rcases hat with e | e
    · exact .inl e.symm
    · refine .inr fun q hq => ?_
      simp [Value.ownBlock] at hq
      omega
end Go.Proofs.Ytiilckjnggeeoad

namespace Go.Proofs.Ytiilckjnggeeoad
open Go.RowKit Go.Deep Go.ChangeShapes Go.WideShapes
attribute [local go_sem ↓] Go.wp_at_zero Go.wp_at_succ
def CC (X : Nat → Prop) (w : World) : List (Tm × Tm) → List Value → Prop
  | [], xs => xs = []
  | p :: s, xs => ∃ a b ys, xs = .bool p.1.1.1 :: .int .i64 p.1.1.2 :: a :: .bool p.2.1.1 :: .int .i64 p.2.1.2 :: b :: ys ∧ SB X w p.1.2 a ∧ SB X w p.2.2 b ∧ CC X w s ys
theorem CC.frame {X Y : Nat → Prop} {w w' : World} (hXY : ∀ q, X q → Y q) (hr : ∀ q i, X q → w'.cell? ⟨q, i, none⟩ = w.cell? ⟨q, i, none⟩) : ∀ {s : List (Tm × Tm)} {xs : List Value}, CC X w s xs → CC Y w' s xs
  | [], _, h => h
  | _ :: _, _, ⟨a, b, ys, h1, h2, h3, h4⟩ => ⟨a, b, ys, h1, h2.frame hXY hr, h3.frame hXY hr, CC.frame hXY hr h4⟩
theorem CC.len {X : Nat → Prop} {w : World} : ∀ {s : List (Tm × Tm)} {xs : List Value}, CC X w s xs → xs.length = s.length * 6
  | [], _, h => by rw [CC] at h; subst h; rfl
  | _ :: _, _, ⟨a, b, ys, h1, _, _, h3⟩ => by subst h1; simp only [List.length_cons, h3.len]; omega
end Go.Proofs.Ytiilckjnggeeoad

namespace Go.Proofs.Ytiilckjnggeeoad
open Go.RowKit Go.Deep Go.ChangeShapes Go.WideShapes
theorem nodup_len : ∀ {l m : List Int}, l.Nodup → (∀ x ∈ l, x ∈ m) → l.length ≤ m.length
  | [], _, _, _ => Nat.zero_le _
  | x :: l, m, hn, hm => by
    have hx : x ∈ m := hm x (by simp)
    rw [List.nodup_cons] at hn
    have ih := nodup_len (l := l) (m := m.erase x) hn.2 (fun y hy => (List.mem_erase_of_ne (fun (e : y = x) => hn.1 (e ▸ hy))).2 (hm y (by simp [hy])))
    rw [List.length_erase_of_mem hx] at ih
    have := List.length_pos_of_mem hx
    simp only [List.length_cons]
    omega
theorem gd_vars {t : Tm} (h : Gd t) : (varsT t.1 t.2 []).length ≤ 10 := by
  have hn : (varsT t.1 t.2 []).Nodup := by
    unfold varsT
    split
    · simp [hasB]
    · exact varsF_nodup (by simp)
  have := nodup_len (m := [0, 1, 2, 3, 4, 5, 6, 7, 8, 9]) hn (fun x hx => by
    have := h.few x (occ_varsT.1 hx)
    have e : x = 0 ∨ x = 1 ∨ x = 2 ∨ x = 3 ∨ x = 4 ∨ x = 5 ∨ x = 6 ∨ x = 7 ∨ x = 8 ∨ x = 9 := by omega
    rcases e with rfl | rfl | rfl | rfl | rfl | rfl | rfl | rfl | rfl | rfl <;> simp)
  exact this
end Go.Proofs.Ytiilckjnggeeoad

namespace Go.Proofs.Ytiilckjnggeeoad
open Go.RowKit Go.Deep Go.ChangeShapes Go.WideShapes
attribute [local go_sem ↓] Go.wp_at_zero Go.wp_at_succ
theorem fo_snoc : ∀ {T : Fo} {j : Nat} {x : Bool × Int} {k : Fo}, Fo.ok T → T.list[j]? = some (x, k) → Fo.snoc (Fo.take j T) x k = Fo.take (j + 1) T
  | .nil, _, _, _, _, h => by simp [Fo.list] at h
  | .node p q y l r, 0, x, k, hT, h => by
    simp only [Fo.list, List.getElem?_cons_zero, Option.some.injEq, Prod.mk.injEq] at h
    obtain ⟨rfl, rfl⟩ := h
    rw [ok_node] at hT
    obtain ⟨rfl, rfl, _, _⟩ := hT
    rfl
  | .node p q y l r, j + 1, x, k, hT, h => by
    rw [ok_node] at hT
    have := fo_snoc (T := r) (j := j) hT.2.2.2 (by simpa [Fo.list] using h)
    rw [Fo.take, Fo.snoc, this, Fo.take]
def AppRel (B : Nat) (W2 : World) (X : Nat → Prop) (T : Fo) (xn : Int) (j : Nat) (wr : World) : Prop :=
  ∃ (v : Value) (xs : List Value), wr.ownsRow (B + 1) 33 3 v j xs ∧ CellsOf (Rm B X wr v) wr (Fo.take j T) xs ∧
    wr.cell? ⟨B, 0, none⟩ = some (.bool false) ∧ wr.cell? ⟨B, 1, none⟩ = some (.int .i64 xn) ∧ wr.cell? ⟨B, 2, none⟩ = some v ∧ (∀ i, wr.frozen? ⟨B, i, none⟩ = false) ∧ Below B W2 wr
theorem app_next {B : Nat} {W2 wr w1 w3 : World} {X : Nat → Prop} {T : Fo} {xn : Int} {j : Nat} {v v' a : Value} {z : Bool × Int} {r : Fo} {g cap : Nat} {xs : List Value} {ob : Obj} (hT : Fo.ok T)
    (h1 : wr.ownsRow (B + 1) 33 3 v j xs) (h2 : CellsOf (Rm B X wr v) wr (Fo.take j T) xs) (hX : ∀ q, X q → q < B)
    (q0 : wr.cell? ⟨B, 0, none⟩ = some (.bool false)) (q1 : wr.cell? ⟨B, 1, none⟩ = some (.int .i64 xn)) (q2 : wr.cell? ⟨B, 2, none⟩ = some v) (qf : ∀ i, wr.frozen? ⟨B, i, none⟩ = false)
    (hB3 : Below B W2 wr) (hb : Below wr.heap.size wr w1) (hk : SB (fun q => X q ∨ (wr.heap.size ≤ q ∧ q < w1.heap.size)) w1 r a) (hTj : T.list[j]? = some (z, r))
    (hv' : v' = .slice (some ⟨g, 0, none⟩) (j + 1) cap) (ho : w3.ownsRow (B + 1) 33 3 v' (j + 1) (xs ++ [.bool z.1, .int .i64 z.2, a])) (hg : (w1.alloc ob).grownBy w3 v.ownBlock)
    (hat : v.ownBlock = some g ∨ g = w1.heap.size + 1) (hlt : g < w3.heap.size) : AppRel B W2 X T xn (j + 1) (w3.setCell ⟨B, 2, none⟩ v') := by
  have hBl : B < wr.heap.size := World.block_lt_of_cell? _ _ q0
  have hjl : j < Fo.len T := by
    rw [← Fo.len_list]
    rcases Nat.lt_or_ge j T.list.length with h | h
    · exact h
    · rw [List.getElem?_eq_none h] at hTj; cases hTj
  have hlj : Fo.len (Fo.take j T) = j := take_len j T (by omega)
  have hlj1 : Fo.len (Fo.take (j + 1) T) = j + 1 := take_len (j + 1) T (by omega)
  obtain ⟨r1, r2, r3, r4, r5, r6, r7⟩ := row_step (B := B) (X := X) (acc := Fo.take j T) (x := z) (k := r) (g := g) (cap := cap) (v' := v') (by rw [hlj]; exact h1) h2 hX hBl ⟨_, q2⟩ hb.size (fun q _ hq => hb.block q hq) hk (by rw [hlj]; exact hv') (by rw [hlj]; exact ho) hg hat hlt
  rw [fo_snoc hT hTj] at r1 r2
  rw [hlj1] at r1
  refine ⟨v', _, r1, r2, (r5 0 (by omega)).trans q0, (r5 1 (by omega)).trans q1, r3, fun i => (r6 i).trans (qf i), ?_⟩
  have hb1 : Below B W2 w1 := hB3.trans (hb.mono (by omega))
  have hb2 : Below B W2 (w1.alloc ob) := hb1.alloc (by have := hb.size; omega) _
  exact (hb2.grown hg (by simp; have := hb.size; omega) (fun q hq => by have := (owns_at h1 q hq).1; omega)).setCell (Nat.le_refl _) _
theorem app_zero {w0 : World} {X : Nat → Prop} {T : Fo} {xn : Int} {B : Nat} (hB : w0.heap.size = B) : AppRel B w0 X T xn 0 (w0.alloc (.cells #[.bool false, .int .i64 xn, .slice none 0 0] 33)) :=
  ⟨.slice none 0 0, [], ⟨rfl, .inl ⟨rfl, rfl⟩⟩, rfl, new_cell hB, new_cell hB, new_cell hB, fun _ => new_frozen hB, (Below.refl _ _).alloc (by omega) _⟩
theorem app_end {B : Nat} {W2 wr : World} {X : Nat → Prop} {T : Fo} {xn : Int} (h : AppRel B W2 X T xn (Fo.len T) wr) :
    ∃ z1 z3, wr.cell? ⟨B, 2, none⟩ = some (.slice z1 (Fo.len T) z3) ∧ SB (fun q => X q ∨ (B + 1 ≤ q ∧ q < wr.heap.size)) wr T (.slice z1 (Fo.len T) z3) := by
  obtain ⟨v, xs, h1, h2, _, _, q2, _, _⟩ := h
  rw [take_all] at h2
  obtain ⟨z1, z3, rfl⟩ := slice_of_owns h1
  exact ⟨z1, z3, q2, row_sb h1 h2 (fun q hq => by rcases hq with h | h; exact .inl h; exact .inr ⟨h.1, h.2.1⟩) (fun g hg => .inr (owns_at h1 g hg))⟩
def ApplyRSaid (x : Bool × Int) (k : Fo) : Prop := ∀ (s : Sb) (vs : Value) (W0 : World) (a : Value) (w : World), Below W0.heap.size W0 w → SubIn W0 s vs → (∀ p ∈ s, okT p.2) → SIn W0 k a → okT (x, k) → narT (x, k) →
    Calls Try.prog 45 #[vs, .agg #[.bool x.1, .int .i64 x.2, a]] w fun e w' => ∃ (a1 : Option Addr) (a2 a3 : Nat), e = .returned (.agg #[.bool (subT (bnd s) (x, k)).1.1, .int .i64 (subT (bnd s) (x, k)).1.2, .slice a1 a2 a3]) ∧
      SB (fun q => q < W0.heap.size ∨ (w.heap.size ≤ q ∧ q < w'.heap.size)) w' (subT (bnd s) (x, k)).2 (.slice a1 a2 a3) ∧ Below w.heap.size w w'
set_option maxRecDepth 100000 in
set_option maxHeartbeats 2000000 in
theorem applyR_any (x : Bool × Int) (k : Fo) : ApplyRSaid x k := by
  refine Fo.ind1 (p := ApplyRSaid) ?_ x k
  clear x k
  intro x k ih s vs W0 a w hW hV hs hS hok hnar
  obtain ⟨v, n⟩ := x
  have HI := hide ih
  have HW := hide hW
  have HV := hide hV
  have Hs := hide hs
  have Hok := hide hok
  have Hnar := hide hnar
  have HS := hide hS
  obtain ⟨ad, ac, b, o, rfl, had, hlc, hcm, hF⟩ := hS
  obtain ⟨vd, vc, vb, vo, rfl, hvd, hvlc, hvcm, hP⟩ := hV
  have HF := hide hF
  have HP := hide hP
  have hW0 := hW.size
  unfold maxLen at hcm hvcm
  clear ih hs hok hF hP hW
  cases v
  · have Hres : Hid (subT (bnd s) ((false, n), k) = ((false, n), subF (bnd s) k)) := rfl
    have HTok : Hid (Fo.ok (subF (bnd s) k)) := subF_ok (bnd_ok Hs.out) k
    have Hl := hide (Fo.len_list k)
    have Hl2 := hide (subF_len (bnd s) k)
    have hlen : Fo.len k ≤ 1000 := hnar.1
    clear hnar hvd
    go_enter Try.func45, Try.ntmps45
    go_wp2_with fail
    generalize hW2 : (w.alloc (.cells #[.bool false, .int .i64 n, .slice ad (Fo.len k) ac] 33)).alloc (.cells #[.bool false, .int .i64 0, .slice none 0 0] 33) = W2
    have hs2 : W2.heap.size = w.heap.size + 1 + 1 := by rw [← hW2]; simp
    have hB2 : Below w.heap.size w W2 := by rw [← hW2]; exact (below_alloc _ _).alloc (by simp) _
    have r0 : W2.cell? ⟨w.heap.size + 1, 0, none⟩ = some (.bool false) := by rw [← hW2]; exact new_cell (World.size_alloc _ _)
    have r1 : W2.cell? ⟨w.heap.size + 1, 1, none⟩ = some (.int .i64 0) := by rw [← hW2]; exact new_cell (World.size_alloc _ _)
    have r2 : W2.cell? ⟨w.heap.size + 1, 2, none⟩ = some (.slice none 0 0) := by rw [← hW2]; exact new_cell (World.size_alloc _ _)
    have rf : ∀ i, W2.frozen? ⟨w.heap.size + 1, i, none⟩ = false := fun i => by rw [← hW2]; exact new_frozen (World.size_alloc _ _)
    have HQ := hide (And.intro r0 (And.intro r1 (And.intro r2 rf)))
    have HB2 := hide hB2
    have Hs2 := hide hs2
    have H0 : Hid (AppRel (w.heap.size + 1 + 1) W2 (fun q => q < W0.heap.size) (subF (bnd s) k) n 0 (W2.alloc (.cells #[.bool false, .int .i64 n, .slice none 0 0] 33))) := app_zero hs2
    clear r0 r1 r2 rf hB2 hs2 hW2
    go_loopw [33] (fun i wr => ∃ j : Nat, j ≤ Fo.len k ∧ i = .int .i64 j ∧ AppRel (w.heap.size + 1 + 1) W2 (fun q => q < W0.heap.size) (subF (bnd s) k) n j wr) (fun i _ => Fo.len k - (intOf i).toNat)
    case atStart => exact ⟨0, Nat.zero_le _, rfl, H0.out⟩
    case round =>
      obtain ⟨j, hj, rfl, hR⟩ := hrel
      have HR := hide hR
      obtain ⟨vr', xs, h1, h2, q0, q1, q2, qf, hB⟩ := hR
      have H1 := hide h1
      have H2 := hide h2
      have HB := hide hB
      have Hqf := hide qf
      have hs2 := Hs2.out
      have hBw : Below w.heap.size w wr := HB2.out.trans (hB.mono (by omega))
      have hB0 : Below W0.heap.size W0 wr := HW.out.trans (hBw.mono hW0)
      have hBlt : w.heap.size + 1 + 1 < wr.heap.size := World.block_lt_of_cell? _ _ q0
      obtain ⟨z1, z3, rfl⟩ := slice_of_owns h1
      clear H0 h1 h2 hB
      by_cases hlt : j < Fo.len k
      · have hlt' : (j : Int) < (Fo.len k : Int) := by omega
        have had' : ad = some ⟨b, o, none⟩ := had (by omega)
        subst had'
        obtain ⟨⟨⟨ev, en⟩, ek⟩, hy⟩ : ∃ y, k.list[j]? = some y := ⟨k.list[j]'(by rw [Hl.out]; exact hlt), by simp⟩
        obtain ⟨c0, c1, yv', c2, hSy⟩ := HF.out.at hy
        have c0' := grow_cell hB0 _ _ c0
        have c1' := grow_cell hB0 _ _ c1
        have c2' := grow_cell hB0 _ _ c2
        have HSy := hide hSy
        obtain ⟨ya, yc, yb, yo, rfl, -, -, -, -⟩ := hSy
        have Hy := hide hy
        have Hy2 : Hid ((subF (bnd s) k).list[j]? = some (subT (bnd s) ((ev, en), ek))) := by rw [Hid, subF_list, List.getElem?_map, hy]; rfl
        obtain ⟨⟨⟨xv, xn⟩, xk⟩, hz⟩ : ∃ z, z = subT (bnd s) ((ev, en), ek) := ⟨_, rfl⟩
        have Hz := hide hz
        have Hoke : Hid (okT ((ev, en), ek)) := ok_mem Hok.out.2 (List.mem_of_getElem? hy)
        have Hnare : Hid (narT ((ev, en), ek)) := nar_mem Hnar.out.2 (List.mem_of_getElem? hy)
        clear hy had c0 c1 c2 hz
        obtain ⟨i26, hi26, hz0, hz1, hz2⟩ := info_parts Try.info33
        have hn1 : j + 1 ≤ maxLen := by unfold maxLen; omega
        have hn2 : (j + 1) * 40 ≤ 140737488355328 := by omega
        go_upto_region 13 with fail
        generalize hwa : wr.alloc (.cells #[.bool ev, .int .i64 en, .slice ya (Fo.len ek) yc] 33) = wa
        have e0 : wa.cell? ⟨wr.heap.size, 0, none⟩ = some (.bool ev) := by rw [← hwa]; exact new_cell rfl
        have e1 : wa.cell? ⟨wr.heap.size, 1, none⟩ = some (.int .i64 en) := by rw [← hwa]; exact new_cell rfl
        have e2 : wa.cell? ⟨wr.heap.size, 2, none⟩ = some (.slice ya (Fo.len ek) yc) := by rw [← hwa]; exact new_cell rfl
        have hba : Below wr.heap.size wr wa := by rw [← hwa]; exact below_alloc _ _
        have f2 := grow_cell hba _ _ q2
        have ff : ∀ i, wa.frozen? ⟨w.heap.size + 1 + 1, i, none⟩ = false := fun i => (hba.frozen hBlt).trans (Hqf.out i)
        have hBa : w.heap.size + 1 + 1 < wa.heap.size := Nat.lt_of_lt_of_le hBlt hba.size
        have Hno : Hid (some (w.heap.size + 1 + 1) ≠ (Value.slice z1 j z3).ownBlock) := fun e => by have := (owns_at H1.out _ e.symm).1; omega
        have hcall : Calls Try.prog 45 #[.slice vd s.length vc, .agg #[.bool ev, .int .i64 en, .slice ya (Fo.len ek) yc]] wa.drew fun e w' => ∃ (a1 : Option Addr) (a2 a3 : Nat), e = .returned (.agg #[.bool xv, .int .i64 xn, .slice a1 a2 a3]) ∧ SB (fun q => q < W0.heap.size ∨ (wa.heap.size ≤ q ∧ q < w'.heap.size)) w' xk (.slice a1 a2 a3) ∧ Below wa.heap.size wa w' := by
          refine (HI.out ((ev, en), ek) (List.mem_of_getElem? Hy.out) s _ W0 _ wa.drew ?_ HV.out Hs.out HSy.out Hoke.out Hnare.out).mono ?_
          · exact (hB0.trans (hba.mono hB0.size)).trans (Below.refl _ _).drew
          · rintro e w' ⟨a1, a2, a3, rfl, hk, hb⟩
            rw [← Hz.out] at hk ⊢
            exact ⟨a1, a2, a3, rfl, hk, (Below.refl _ _).drew.trans hb⟩
        have Hcall := hide hcall
        have Hba := hide hba
        clear hcall hwa c0' c1' c2' hba q2 qf
        go_region_law (first
          | (refine step_append_lies _ (by rfl) _ _ _ (by rfl) (w.heap.size + 1 + 1 + 1) 33 i26 (.agg #[.bool false, .int .i64 0, .slice none 0 0]) 3 40 Try.underlying31 hi26 hz0 hz1 hz2 rfl (by decide) (.slice z1 j z3) j xs (by rfl) Hown3.out ⟨w3.heap.size, 0, none⟩ 1 1 [.bool xv, .int .i64 xn, .slice a1 a2 a3] (by rfl) (by rfl) Hnews.out (by simp [Value.oneCell']) (by decide) hn1 hn2 (by simp; omega) (w3.heap.size + 1) (by simp) ?_; intro g cap w4 ho4 hg4 hat4 hlt4; have x2 := out_cell hg4 hB3 Hno.out g3; have xf := out_frozen hg4 hB3 Hno.out gf3)
          | (go_simp; go_at_call 45; refine Hcall.out.mono ?_; rintro e w3 ⟨a1, a2, a3, rfl, hk3, hb3⟩
             have hs3 := hb3.size; have g3 := grow_cell hb3 _ _ f2; have gf3 : ∀ i, w3.frozen? ⟨w.heap.size + 1 + 1, i, none⟩ = false := (fun i => (hb3.frozen hBa).trans (ff i)); have hB3 : w.heap.size + 1 + 1 < w3.heap.size := Nat.lt_of_lt_of_le hBa hs3
             have Hown3 : Hid ((w3.alloc (.cells #[.bool xv, .int .i64 xn, .slice a1 a2 a3] 33)).ownsRow (w.heap.size + 1 + 1 + 1) 33 3 (.slice z1 j z3) j xs) := (owns_keep H1.out (fun g hg => by have h := owns_at H1.out g hg; have hsz := Hba.out.size; rw [Below.heap_alloc _ _ _ (by omega), hb3.block g (by omega), Hba.out.block g h.2]))
             have Hnews : Hid (∀ j u, [Value.bool xv, .int .i64 xn, .slice a1 a2 a3][j]? = some u → (w3.alloc (.cells #[.bool xv, .int .i64 xn, .slice a1 a2 a3] 33)).cell? ((⟨w3.heap.size, 0, none⟩ : Addr).add j) = some u) := (World.news_of_block (cs := #[.bool xv, .int .i64 xn, .slice a1 a2 a3]) (heap_alloc_new w3 _))))
        all_goals
          have Hst := hide (app_next (B := w.heap.size + 1 + 1) (W2 := W2) (X := fun q => q < W0.heap.size) (T := subF (bnd s) k) (xn := n) (z := (xv, xn)) (r := xk) (a := .slice a1 a2 a3) HTok.out H1.out H2.out (fun q hq => by omega) q0 q1 (by have hc := HR.out; obtain ⟨_, _, _, _, _, _, q2, _, _⟩ := hc; exact (Hba.out.cell (p := ⟨w.heap.size + 1 + 1, 2, none⟩) hBlt).symm.trans f2) Hqf.out HB.out (below_step Hba.out hb3) (hk3.wide (fun q hq => by rcases hq with h | h; exact .inl h; exact .inr ⟨by have := Hba.out.size; omega, h.2⟩)) (by rw [Hy2.out, ← Hz.out]) rfl ho4 hg4 hat4 hlt4)
          clear hk3 hb3 ho4 hg4 hat4 hlt4 x2 xf g3 gf3 Hown3 Hnews hi26 hz0 hz1 hz2
          go_wp2_with fail
          go_roundw
          case rel => exact ⟨j + 1, by omega, by go_num, Hst.out⟩
          case measure => simp [intOf]; omega
      · have hje : j = Fo.len k := by omega
        have hRe : AppRel (w.heap.size + 1 + 1) W2 (fun q => q < W0.heap.size) (subF (bnd s) k) n (Fo.len (subF (bnd s) k)) wr := by rw [Hl2.out, ← hje]; exact HR.out
        obtain ⟨y1, y3, hc2, hSB⟩ := app_end hRe
        have HSB := hide hSB
        obtain ⟨p0, p1, p2, pf⟩ := HQ.out
        have s0 : wr.cell? ⟨w.heap.size + 1, 0, none⟩ = some (.bool false) := (HB.out.cell (by show w.heap.size + 1 < _; omega)).trans p0
        have s1 : wr.cell? ⟨w.heap.size + 1, 1, none⟩ = some (.int .i64 0) := (HB.out.cell (by show w.heap.size + 1 < _; omega)).trans p1
        have s2 : wr.cell? ⟨w.heap.size + 1, 2, none⟩ = some (.slice none 0 0) := (HB.out.cell (by show w.heap.size + 1 < _; omega)).trans p2
        have sf : ∀ i, wr.frozen? ⟨w.heap.size + 1, i, none⟩ = false := fun i => (HB.out.frozen (by show w.heap.size + 1 < _; omega)).trans (pf i)
        clear q2 hSB p0 p1 p2 pf hRe
        go_wp2_with fail
        refine bodyPost_ret (v := .agg #[.bool false, .int .i64 n, .slice y1 (Fo.len (subF (bnd s) k)) y3]) (by simp [results, Try.results45, go_sem, s0, s1, s2]) rfl ⟨y1, Fo.len (subF (bnd s) k), y3, by rw [Hres.out], ?_, set3_below (o := 0) hBw (by omega)⟩
        rw [Hres.out]
        refine (HSB.out.set3 (b := w.heap.size + 1) (o := 0) ?_).wide (fun q hq => ?_)
        · intro h
          rcases h with h | h <;> omega
        · rcases hq with h | h
          · exact .inl h
          · exact .inr ⟨by omega, by rw [World.size_setCell, World.size_setCell, World.size_setCell]; exact h.2⟩
  · have Hres : Hid (subT (bnd s) ((true, n), k) = bnd s n) := rfl
    have hk0 : k = .nil := Hok.out.1 rfl
    subst hk0
    clear had
    go_enter Try.func45, Try.ntmps45
    go_wp2_with fail
    generalize hW2 : (w.alloc (.cells #[.bool true, .int .i64 n, .slice ad (Fo.len .nil) ac] 33)).alloc (.cells #[.bool false, .int .i64 0, .slice none 0 0] 33) = W2
    have hs2 : W2.heap.size = w.heap.size + 1 + 1 := by rw [← hW2]; simp
    have hB2 : Below w.heap.size w W2 := by rw [← hW2]; exact (below_alloc _ _).alloc (by simp) _
    have p0 : W2.cell? ⟨w.heap.size, 0, none⟩ = some (.bool true) := by rw [← hW2, World.cell?_alloc_lt _ _ _ (by simp)]; exact new_cell rfl
    have p1 : W2.cell? ⟨w.heap.size, 1, none⟩ = some (.int .i64 n) := by rw [← hW2, World.cell?_alloc_lt _ _ _ (by simp)]; exact new_cell rfl
    have p2 : W2.cell? ⟨w.heap.size, 2, none⟩ = some (.slice ad (Fo.len .nil) ac) := by rw [← hW2, World.cell?_alloc_lt _ _ _ (by simp)]; exact new_cell rfl
    have r0 : W2.cell? ⟨w.heap.size + 1, 0, none⟩ = some (.bool false) := by rw [← hW2]; exact new_cell (World.size_alloc _ _)
    have r1 : W2.cell? ⟨w.heap.size + 1, 1, none⟩ = some (.int .i64 0) := by rw [← hW2]; exact new_cell (World.size_alloc _ _)
    have r2 : W2.cell? ⟨w.heap.size + 1, 2, none⟩ = some (.slice none 0 0) := by rw [← hW2]; exact new_cell (World.size_alloc _ _)
    have rf : ∀ i, W2.frozen? ⟨w.heap.size + 1, i, none⟩ = false := fun i => by rw [← hW2]; exact new_frozen (World.size_alloc _ _)
    have HQ := hide (And.intro p0 (And.intro p1 (And.intro p2 (And.intro r0 (And.intro r1 (And.intro r2 rf))))))
    have HB2 := hide hB2
    have Hs2 := hide hs2
    clear p0 p1 p2 r0 r1 r2 rf hB2 hs2 hW2
    go_loopw [14] (fun i wr => ∃ j : Nat, j ≤ s.length ∧ i = .int .i64 j ∧ (∀ q p, q < j → s[q]? = some p → p.1 ≠ n) ∧ Below W2.heap.size W2 wr) (fun i _ => s.length - (intOf i).toNat)
    case atStart => exact ⟨0, Nat.zero_le _, rfl, fun q _ hq => by omega, Below.refl _ _⟩
    case round =>
      obtain ⟨j, hj, rfl, hno, hB⟩ := hrel
      have Hno := hide hno
      have hs2 := Hs2.out
      have hBw : Below w.heap.size w wr := HB2.out.trans (hB.mono (by omega))
      have hB0 : Below W0.heap.size W0 wr := HW.out.trans (hBw.mono hW0)
      have hsz := hB.size
      obtain ⟨q0, q1, q2, q3, q4, q5, qf⟩ := HQ.out
      have p0 := grow_cell hB _ _ q0
      have p1 := grow_cell hB _ _ q1
      have p2 := grow_cell hB _ _ q2
      have s0 := grow_cell hB _ _ q3
      have s1 := grow_cell hB _ _ q4
      have s2 := grow_cell hB _ _ q5
      have sf : ∀ i, wr.frozen? ⟨w.heap.size + 1, i, none⟩ = false := fun i => (hB.frozen (by show w.heap.size + 1 < _; omega)).trans (qf i)
      clear hno q0 q1 q2 q3 q4 q5 qf
      by_cases hlt : j < s.length
      · have hlt' : (j : Int) < (s.length : Int) := by omega
        obtain ⟨⟨m, ⟨tv, tn⟩, tk⟩, hy⟩ : ∃ y, s[j]? = some y := ⟨s[j], by simp [hlt]⟩
        obtain ⟨c0, c1, c2, tv', c3, hSy⟩ := HP.out.at hy
        have c0' := grow_cell hB0 _ _ c0
        have c1' := grow_cell hB0 _ _ c1
        have c2' := grow_cell hB0 _ _ c2
        have c3' := grow_cell hB0 _ _ c3
        have HSy := hide hSy
        obtain ⟨ya, yc, yb, yo, rfl, -, -, -, -⟩ := hSy
        have ha : vd = some ⟨vb, vo, none⟩ := hvd (by omega)
        subst ha
        have Hy := hide hy
        have hx0 : w.heap.size < wr.heap.size := by omega
        have hx1 : w.heap.size + 1 < wr.heap.size := by omega
        clear hy hvd c0 c1 c2 c3
        by_cases hmn : m = n
        · have hmb : (m == n) = true := by simp [hmn]
          have Hl : Hid (bnd s n = ((tv, tn), tk)) := bnd_some (look_first Hno.out (by rw [Hy.out, hmn]))
          clear hmn
          obtain ⟨g0, g1, g2⟩ := set3_cells (w := wr) (b := w.heap.size + 1) (o := 0) (x := .bool tv) (y := .int .i64 tn) (z := .slice ya (Fo.len tk) yc) s0 s1 s2
          have k0 : ((((wr.setCell ⟨w.heap.size + 1, 0, none⟩ (.bool tv)).setCell ⟨w.heap.size + 1, 1, none⟩ (.int .i64 tn)).setCell ⟨w.heap.size + 1, 2, none⟩ (.slice ya (Fo.len tk) yc)).alloc (.cells #[.int .i64 m, .bool tv, .int .i64 tn, .slice ya (Fo.len tk) yc] 92)).cell? ⟨w.heap.size + 1, 0, none⟩ = some (.bool tv) := by
            rw [World.cell?_alloc_lt _ _ _ (by simpa using hx1)]; exact g0
          have k1 : ((((wr.setCell ⟨w.heap.size + 1, 0, none⟩ (.bool tv)).setCell ⟨w.heap.size + 1, 1, none⟩ (.int .i64 tn)).setCell ⟨w.heap.size + 1, 2, none⟩ (.slice ya (Fo.len tk) yc)).alloc (.cells #[.int .i64 m, .bool tv, .int .i64 tn, .slice ya (Fo.len tk) yc] 92)).cell? ⟨w.heap.size + 1, 1, none⟩ = some (.int .i64 tn) := by
            rw [World.cell?_alloc_lt _ _ _ (by simpa using hx1)]; exact g1
          have k2 : ((((wr.setCell ⟨w.heap.size + 1, 0, none⟩ (.bool tv)).setCell ⟨w.heap.size + 1, 1, none⟩ (.int .i64 tn)).setCell ⟨w.heap.size + 1, 2, none⟩ (.slice ya (Fo.len tk) yc)).alloc (.cells #[.int .i64 m, .bool tv, .int .i64 tn, .slice ya (Fo.len tk) yc] 92)).cell? ⟨w.heap.size + 1, 2, none⟩ = some (.slice ya (Fo.len tk) yc) := by
            rw [World.cell?_alloc_lt _ _ _ (by simpa using hx1)]; exact g2
          have hBe : Below w.heap.size w ((((wr.setCell ⟨w.heap.size + 1, 0, none⟩ (.bool tv)).setCell ⟨w.heap.size + 1, 1, none⟩ (.int .i64 tn)).setCell ⟨w.heap.size + 1, 2, none⟩ (.slice ya (Fo.len tk) yc)).alloc (.cells #[.int .i64 m, .bool tv, .int .i64 tn, .slice ya (Fo.len tk) yc] 92)) :=
            (set3_below (b := w.heap.size + 1) (o := 0) hBw (by omega)).alloc (by rw [set3_size]; omega) _
          have Hend := hide (And.intro k0 (And.intro k1 (And.intro k2 hBe)))
          clear k0 k1 k2 hBe g0 g1 g2
          go_wp2_with fail
          obtain ⟨k0, k1, k2, hBe⟩ := Hend.out
          refine bodyPost_ret (v := .agg #[.bool tv, .int .i64 tn, .slice ya (Fo.len tk) yc]) (by simp [results, Try.results45, go_sem, k0, k1, k2]) rfl ⟨ya, Fo.len tk, yc, by rw [Hres.out, Hl.out], ?_, hBe⟩
          rw [Hres.out, Hl.out]
          exact (HSy.out.toB.grow (fun _ h => h) (HW.out.trans (hBe.mono hW0))).wide (fun q hq => .inl hq)
        · have hmb : (m == n) = false := by simp [hmn]
          have Hno2 : Hid (∀ q p, q < j + 1 → s[q]? = some p → p.1 ≠ n) := fun q p hq hp => by
            by_cases e : q = j
            · subst e; rw [Hy.out] at hp; cases hp; exact hmn
            · exact Hno.out q p (by omega) hp
          clear hmn
          go_wp2_with fail
          go_roundw
          case rel => exact ⟨j + 1, by omega, by go_num, Hno2.out, hB.alloc hsz _⟩
          case measure => simp [intOf]; omega
      · have Hl : Hid (bnd s n = vr n) := bnd_none (look_all (fun q p hq hp => Hno.out q p (by omega) hp))
        clear hvd
        go_wp2_with fail
        refine bodyPost_ret (v := .agg #[.bool true, .int .i64 n, .slice ad (Fo.len .nil) ac]) (by simp [results, Try.results45, go_sem, s0, s1, s2]) rfl ⟨ad, Fo.len .nil, ac, by rw [Hres.out, Hl.out]; rfl, ?_, set3_below (o := 0) hBw (by omega)⟩
        rw [Hres.out, Hl.out]
        exact ⟨ad, ac, b, o, rfl, fun h => by simp [vr, Fo.len] at h, Nat.zero_le _, by unfold maxLen; exact hcm, trivial⟩
end Go.Proofs.Ytiilckjnggeeoad

namespace Go.Proofs.Ytiilckjnggeeoad
open Go.RowKit Go.Deep Go.ChangeShapes Go.WideShapes
attribute [local go_sem ↓] Go.wp_at_zero Go.wp_at_succ
theorem fin_norm {w : World} : ∀ {F : Fo} {b o : Nat}, FIn w F b o → FIn w (Fo.norm F) b o
  | .nil, _, _, _ => trivial
  | .node _ _ _ k r, _, _, ⟨h0, h1, ⟨a, c, b', o', h2, h3, h4, h5, h6⟩, h7⟩ => by
    refine ⟨h0, h1, ⟨a, c, b', o', ?_, ?_, ?_, h5, fin_norm h6⟩, fin_norm h7⟩
    · rw [norm_len]; exact h2
    · rw [norm_len]; exact h3
    · rw [norm_len]; exact h4
theorem sin_norm {w : World} {k : Fo} {a : Value} (h : SIn w k a) : SIn w (Fo.norm k) a := by
  obtain ⟨a, c, b, o, rfl, h3, h4, h5, h6⟩ := h
  exact ⟨a, c, b, o, by rw [norm_len], by rw [norm_len]; exact h3, by rw [norm_len]; exact h4, h5, fin_norm h6⟩
theorem norm_sizes : ∀ F : Fo, Fo.sizesR (Fo.norm F) = Fo.sizesR F
  | .nil => rfl
  | .node _ _ _ k r => by simp [Fo.norm, Fo.sizesR, norm_sizes k, norm_sizes r]
theorem good_of_walk {s : List Int} (hs : s.all okNum = true) : ∀ {F : Fo} {n : Nat}, n ≤ 13 → walkF s F (13 - (n : Int)) = 0 → Fo.ok (Fo.norm F) ∧ twoF (Fo.norm F) ∧ (∀ m, occF m (Fo.norm F) → 0 ≤ m ∧ m ≤ 4) ∧ depF (Fo.norm F) ≤ n
  | .nil, _, _, _ => ⟨trivial, trivial, fun m hm => by simp [Fo.norm, occF] at hm, Nat.zero_le _⟩
  | .node _ _ ⟨v, z⟩ k r, n, hn, h => by
    obtain ⟨hT, hr⟩ := walkF_ok h
    obtain ⟨hd, ha, hk⟩ := walkT_ok hT
    have h2 := alone_len hs ha
    obtain ⟨m, rfl⟩ : ∃ m, n = m + 1 := ⟨n - 1, by omega⟩
    have e : (13 : Int) - ((m + 1 : Nat) : Int) + 1 = 13 - (m : Int) := by omega
    rw [e] at hk
    obtain ⟨i1, i2, i3, i4⟩ := good_of_walk hs (n := m) (by omega) hk
    obtain ⟨j1, j2, j3, j4⟩ := good_of_walk hs (n := m + 1) hn hr
    simp only [Fo.norm]
    refine ⟨?_, ⟨by rw [norm_len]; exact h2, i2, j2⟩, fun q hq => ?_, ?_⟩
    · rw [ok_node]
      refine ⟨rfl, rfl, ⟨fun hv => ?_, i1⟩, j1⟩
      have hv' : v = true := hv
      subst hv'
      obtain ⟨rfl, _, _⟩ := alone_var ha
      rfl
    · rcases hq with hq | hq
      · cases v
        · exact i3 q (by simpa using hq)
        · obtain ⟨_, h0, h4⟩ := alone_var ha
          have : z = q := by simpa using hq
          omega
      · exact j3 q hq
    · simp only [depF]; omega
theorem gd_of_right {s : List Int} (hs : s.all okNum = true) {x : Bool × Int} {k : Fo} (h : wrongF s x k = 0) : Gd (x, Fo.norm k) ∧ depT (x, Fo.norm k) ≤ 12 ∧ tszR (Fo.norm k) ≤ 12 := by
  obtain ⟨h1, _, _, _, hw⟩ := right_of hs h
  have hF : walkF s (.node 0 0 x k .nil) (13 - ((12 : Nat) : Int)) = 0 := by
    have : walkT s x k 1 = 0 := hw
    simp only [walkF]
    have h3 : ∀ z : Int, z = 0 → (if z ≠ 0 then z else 0) = 0 := fun z hz => by simp [hz]
    exact h3 _ this
  obtain ⟨i1, i2, i3, i4⟩ := good_of_walk hs (n := 12) (by omega) hF
  simp only [Fo.norm] at i1 i2 i3 i4
  rw [ok_node] at i1
  rw [two_node] at i2
  refine ⟨⟨i1.2.2.1, i2.1, fun m hm => by have := i3 m (.inl hm); omega⟩, ?_, by unfold tszR at *; rw [norm_sizes]; exact h1⟩
  simp only [depF, depT] at *
  omega
end Go.Proofs.Ytiilckjnggeeoad

namespace Go.Proofs.Ytiilckjnggeeoad
open Go.RowKit Go.Deep Go.ChangeShapes Go.WideShapes
structure GLx (l : Lt) : Prop where
  gl : Gd l.2.1
  gr : Gd l.2.2
  sl : tszR l.2.1.2 ≤ 4000000000000
  sr : tszR l.2.2.2 ≤ 4000000000000
def GX (c : Cl) : Prop := c.length ≤ 8 ∧ ∀ l ∈ c, GLx l
theorem GL.x {l : Lt} (h : GL l) : GLx l := ⟨h.gl, h.gr, by have := h.sl; omega, by have := h.sr; omega⟩
theorem GC.x {c : Cl} (h : GC c) : GX c := ⟨by have := h.1; omega, fun l hl => (h.2 l hl).x⟩
end Go.Proofs.Ytiilckjnggeeoad
