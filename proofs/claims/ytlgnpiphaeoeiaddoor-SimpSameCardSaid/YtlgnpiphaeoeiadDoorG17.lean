/- P7d P7e P7f D7h P7g P7h -/
import Derived.Test.YtlgnpiphaeoeiadDoorG16
import Derived.Deep.LoopGhost
namespace Go.Proofs.YtlgnpiphaeoeiadDoor
open Go.RowKit Go.Deep Go.ChangeShapes Go.WideShapes
def WL (w : World) : Fo → Nat → Nat → List Nat → Prop
  | .nil, _, _, L => L = []
  | .node _ _ x k r, b, o, L => w.cell? ⟨b, o, none⟩ = some (.bool x.1) ∧ w.cell? ⟨b, o + 1, none⟩ = some (.int .i64 x.2) ∧
      w.frozen? ⟨b, o, none⟩ = false ∧ w.frozen? ⟨b, o + 1, none⟩ = false ∧ w.frozen? ⟨b, o + 2, none⟩ = false ∧
      (∃ (g : Nat) (a : Value) (Lk Lr : List Nat), L = Lk ++ Lr ∧ w.cell? ⟨b, o + 2, none⟩ = some a ∧
        ((k = .nil ∧ a = .slice none 0 0 ∧ Lk = []) ∨ (∃ L' : List Nat, Lk = g :: L' ∧ 0 < Fo.len k ∧ Fo.len k ≤ 1000 ∧ a = .slice (some ⟨g, 0, none⟩) (Fo.len k) (Fo.len k) ∧ WL w k g 0 L')) ∧
        WL w r b (o + 3) Lr)
abbrev one (t : Tm) : Fo := .node 0 0 t.1 t.2 .nil
theorem WL.lt {w : World} : ∀ {F : Fo} {b o : Nat} {L : List Nat}, WL w F b o L → ∀ q ∈ L, q < w.heap.size
  | .nil, _, _, _, h, q, hq => by rw [WL] at h; subst h; cases hq
  | .node _ _ x k r, b, o, L, ⟨_, _, _, _, _, g, a, Lk, Lr, e, _, h3, h4⟩, q, hq => by
    subst e
    rcases List.mem_append.1 hq with hq | hq
    · rcases h3 with ⟨_, _, rfl⟩ | ⟨L', rfl, h0, _, _, hk⟩
      · cases hq
      · rcases List.mem_cons.1 hq with rfl | hq
        · match k, h0, hk with
          | .node _ _ _ _ _, _, hk => exact World.block_lt_of_cell? _ _ hk.1
        · exact hk.lt q hq
    · exact h4.lt q hq
theorem WL.toF {w : World} : ∀ {F : Fo} {b o : Nat} {L : List Nat}, WL w F b o L → FIn w F b o
  | .nil, _, _, _, _ => trivial
  | .node _ _ x k r, b, o, L, ⟨h0, h1, _, _, _, g, a, _, _, _, h2, h3, h4⟩ => by
    refine FIn.mk h0 h1 h2 ?_ h4.toF
    rcases h3 with ⟨rfl, rfl, _⟩ | ⟨_, _, _, hl, rfl, hk⟩
    · exact ⟨none, 0, 0, 0, rfl, fun h => by simp [Fo.len] at h, Nat.le_refl _, Nat.zero_le _, trivial⟩
    · exact ⟨_, _, g, 0, rfl, fun _ => rfl, Nat.le_refl _, by unfold maxLen; omega, hk.toF⟩
theorem WL.frame {w w' : World} : ∀ {F : Fo} {b o : Nat} {L : List Nat}, WL w F b o L →
    (∀ i, o ≤ i → i < o + 3 * Fo.len F → w'.cell? ⟨b, i, none⟩ = w.cell? ⟨b, i, none⟩ ∧ w'.frozen? ⟨b, i, none⟩ = w.frozen? ⟨b, i, none⟩) →
    (∀ q ∈ L, ∀ i, w'.cell? ⟨q, i, none⟩ = w.cell? ⟨q, i, none⟩ ∧ w'.frozen? ⟨q, i, none⟩ = w.frozen? ⟨q, i, none⟩) → WL w' F b o L
  | .nil, _, _, _, h, _, _ => h
  | .node _ _ x k r, b, o, L, ⟨h0, h1, f0, f1, f2, g, a, Lk, Lr, e, h2, h3, h4⟩, hc, hr => by
    have c0 := hc o (by omega) (by simp only [Fo.len]; omega)
    have c1 := hc (o + 1) (by omega) (by simp only [Fo.len]; omega)
    have c2 := hc (o + 2) (by omega) (by simp only [Fo.len]; omega)
    subst e
    refine ⟨c0.1.trans h0, c1.1.trans h1, c0.2.trans f0, c1.2.trans f1, c2.2.trans f2, g, a, Lk, Lr, rfl, c2.1.trans h2, ?_, ?_⟩
    · rcases h3 with h3 | ⟨L', rfl, e3, e4, e5, hk⟩
      · exact .inl h3
      · exact .inr ⟨L', rfl, e3, e4, e5, hk.frame (fun i _ _ => hr g (by simp) i) (fun q hq i => hr q (by simp [hq]) i)⟩
    · exact h4.frame (fun i i1 i2 => hc i (by omega) (by simp only [Fo.len]; omega)) (fun q hq i => hr q (by simp [hq]) i)
theorem WIn.toL {w : World} : ∀ {F : Fo} {b o lo hi : Nat}, WIn w F b o lo hi → ∃ L, WL w F b o L ∧ L.Nodup ∧ ∀ q ∈ L, lo ≤ q ∧ q < hi
  | .nil, _, _, _, _, _ => ⟨[], rfl, List.nodup_nil, fun _ h => by cases h⟩
  | .node _ _ x k r, b, o, lo, hi, ⟨h0, h1, f0, f1, f2, m, g, a, hm1, hm2, h2, h3, h4⟩ => by
    obtain ⟨Lr, r1, r2, r3⟩ := WIn.toL h4
    rcases h3 with ⟨e1, e2⟩ | ⟨e1, e2, e3, e4, e5, hk⟩
    · exact ⟨Lr, ⟨h0, h1, f0, f1, f2, g, a, [], Lr, rfl, h2, .inl ⟨e1, e2, rfl⟩, r1⟩, r2, fun q hq => by have := r3 q hq; omega⟩
    · obtain ⟨Lk, k1, k2, k3⟩ := WIn.toL hk
      refine ⟨(g :: Lk) ++ Lr, ⟨h0, h1, f0, f1, f2, g, a, g :: Lk, Lr, rfl, h2, .inr ⟨Lk, rfl, e3, e4, e5, k1⟩, r1⟩, ?_, fun q hq => ?_⟩
      · rw [List.nodup_append]
        refine ⟨List.nodup_cons.2 ⟨fun h => by have := k3 g h; omega, k2⟩, r2, fun p hp q hq e => ?_⟩
        subst e
        have := r3 p hq
        rcases List.mem_cons.1 hp with rfl | hp
        · omega
        · have := k3 p hp; omega
      · rcases List.mem_append.1 hq with hq | hq
        · rcases List.mem_cons.1 hq with rfl | hq
          · omega
          · have := k3 q hq; omega
        · have := r3 q hq; omega
theorem OwnV.toL {w : World} {lo hi b o : Nat} {t : Tm} {a : Value} (h : OwnV w lo hi t.2 a) (h0 : w.cell? ⟨b, o, none⟩ = some (.bool t.1.1)) (h1 : w.cell? ⟨b, o + 1, none⟩ = some (.int .i64 t.1.2)) (h2 : w.cell? ⟨b, o + 2, none⟩ = some a)
    (f0 : w.frozen? ⟨b, o, none⟩ = false) (f1 : w.frozen? ⟨b, o + 1, none⟩ = false) (f2 : w.frozen? ⟨b, o + 2, none⟩ = false) : ∃ L, WL w (one t) b o L ∧ L.Nodup ∧ ∀ q ∈ L, lo ≤ q ∧ q < hi := by
  rcases h with ⟨e1, e2⟩ | ⟨g, e1, e2, e3, e4, e5, hk⟩
  · exact ⟨[], ⟨h0, h1, f0, f1, f2, 0, a, [], [], rfl, h2, .inl ⟨e1, e2, rfl⟩, rfl⟩, List.nodup_nil, fun _ h => by cases h⟩
  · obtain ⟨Lk, k1, k2, k3⟩ := hk.toL
    refine ⟨g :: Lk, ⟨h0, h1, f0, f1, f2, g, a, g :: Lk, [], by simp, h2, .inr ⟨Lk, rfl, e3, e4, e5, k1⟩, rfl⟩, List.nodup_cons.2 ⟨fun h => by have := k3 g h; omega, k2⟩, fun q hq => ?_⟩
    rcases List.mem_cons.1 hq with rfl | hq
    · omega
    · have := k3 q hq; omega
theorem WL.child {w : World} : ∀ {F : Fo} {b o i : Nat} {L : List Nat} {y : Tm}, WL w F b o L → F.list[i]? = some y → ∃ L1 L2 L3, L = L1 ++ (L2 ++ L3) ∧ WL w (one y) b (o + 3 * i) L2 ∧
    ∀ (w' : World) (t : Tm) (L2' : List Nat), (∀ j, o ≤ j → j < o + 3 * Fo.len F → (j < o + 3 * i ∨ o + 3 * i + 3 ≤ j) → w'.cell? ⟨b, j, none⟩ = w.cell? ⟨b, j, none⟩ ∧ w'.frozen? ⟨b, j, none⟩ = w.frozen? ⟨b, j, none⟩) →
      (∀ q, q ∈ L1 ∨ q ∈ L3 → ∀ j, w'.cell? ⟨q, j, none⟩ = w.cell? ⟨q, j, none⟩ ∧ w'.frozen? ⟨q, j, none⟩ = w.frozen? ⟨q, j, none⟩) → WL w' (one t) b (o + 3 * i) L2' → WL w' (setF F i fun _ => t) b o (L1 ++ (L2' ++ L3))
  | .nil, _, _, _, _, _, _, h => by simp [Fo.list] at h
  | .node p q x k r, b, o, 0, L, y, ⟨h0, h1, f0, f1, f2, g, a, Lk, Lr, e, h2, h3, h4⟩, hy => by
    simp only [Fo.list, List.getElem?_cons_zero, Option.some.injEq] at hy
    subst hy
    refine ⟨[], Lk, Lr, by simpa using e, ⟨h0, h1, f0, f1, f2, g, a, Lk, [], by simp, h2, h3, rfl⟩, fun w' t L2' hc hr ht => ?_⟩
    obtain ⟨t0, t1, z0, z1, z2, g', a', Lk', Lr', e', t2, t3, t4⟩ := ht
    rw [WL] at t4
    subst t4
    rw [List.append_nil] at e'
    subst e'
    refine ⟨t0, t1, z0, z1, z2, g', a', L2', Lr, by simp, t2, t3, h4.frame (fun j j1 j2 => hc j (by omega) (by simp only [Fo.len]; omega) (by omega)) (fun q hq j => hr q (.inr hq) j)⟩
  | .node p q x k r, b, o, i + 1, L, y, ⟨h0, h1, f0, f1, f2, g, a, Lk, Lr, e, h2, h3, h4⟩, hy => by
    simp only [Fo.list, List.getElem?_cons_succ] at hy
    obtain ⟨L1, L2, L3, e2, k1, k2⟩ := WL.child h4 hy
    have eo : o + 3 + 3 * i = o + 3 * (i + 1) := by omega
    rw [eo] at k1 k2
    subst e2
    refine ⟨Lk ++ L1, L2, L3, by rw [e, List.append_assoc], k1, fun w' t L2' hc hr ht => ?_⟩
    have c0 := hc o (by omega) (by simp only [Fo.len]; omega) (by omega)
    have c1 := hc (o + 1) (by omega) (by simp only [Fo.len]; omega) (by omega)
    have c2 := hc (o + 2) (by omega) (by simp only [Fo.len]; omega) (by omega)
    refine ⟨c0.1.trans h0, c1.1.trans h1, c0.2.trans f0, c1.2.trans f1, c2.2.trans f2, g, a, Lk, L1 ++ (L2' ++ L3), by rw [List.append_assoc], c2.1.trans h2, ?_, ?_⟩
    · rcases h3 with h3 | ⟨L', rfl, e3, e4, e5, hk⟩
      · exact .inl h3
      · exact .inr ⟨L', rfl, e3, e4, e5, hk.frame (fun j _ _ => hr g (.inl (by simp)) j) (fun q hq j => hr q (.inl (by simp [hq])) j)⟩
    · exact k2 w' t L2' (fun j j1 j2 j3 => hc j (by omega) (by simp only [Fo.len]; omega) j3) (fun q hq j => hr q (hq.imp (fun h => by simp [h]) id) j) ht
structure Chg (b o : Nat) (L : List Nat) (w w' : World) : Prop where
  os : w'.os = w.os
  tape : w'.tape = w.tape
  output : w'.output = w.output
  size : w.heap.size ≤ w'.heap.size
  blk : ∀ q, q < w.heap.size → q ≠ b → q ∉ L → w'.heap[q]? = w.heap[q]?
  cel : ∀ i, (i < o ∨ o + 3 ≤ i) → w'.cell? ⟨b, i, none⟩ = w.cell? ⟨b, i, none⟩
  frz : ∀ q i, q < w.heap.size → w'.frozen? ⟨q, i, none⟩ = w.frozen? ⟨q, i, none⟩
theorem Chg.below {b o B : Nat} {L : List Nat} {w w' : World} (h : Chg b o L w w') (hB : B ≤ w.heap.size) (hb : B ≤ b) (hL : ∀ q ∈ L, B ≤ q) : Below B w w' :=
  ⟨h.os, h.tape, h.output, h.size, fun q hq => h.blk q (by omega) (by omega) (fun hm => by have := hL q hm; omega)⟩
theorem Chg.pre {b o : Nat} {L : List Nat} {w w1 w' : World} (hb : Below w.heap.size w w1) (hbl : b < w.heap.size) (h : Chg b o L w1 w') : Chg b o L w w' where
  os := h.os.trans hb.os
  tape := h.tape.trans hb.tape
  output := h.output.trans hb.output
  size := Nat.le_trans hb.size h.size
  blk := fun q hq h1 h2 => (h.blk q (Nat.lt_of_lt_of_le hq hb.size) h1 h2).trans (hb.block q hq)
  cel := fun i hi => (h.cel i hi).trans (hb.cell hbl)
  frz := fun q i hq => (h.frz q i (Nat.lt_of_lt_of_le hq hb.size)).trans (hb.frozen hq)
theorem chg_set {b o : Nat} {w : World} {x y z : Value} : Chg b o [] w (set3 w b o x y z) where
  os := rfl
  tape := rfl
  output := rfl
  size := by rw [set3_size]; exact Nat.le_refl _
  blk := fun q _ hq _ => by
    unfold set3
    rw [Below.heap_setCell _ _ _ _ (fun e => hq e), Below.heap_setCell _ _ _ _ (fun e => hq e), Below.heap_setCell _ _ _ _ (fun e => hq e)]
  cel := fun i hi => set3_other (.inr hi)
  frz := fun q i _ => set3_frozen
theorem Chg.wide {b o : Nat} {L L' : List Nat} {w w' : World} (h : Chg b o L w w') (hL : ∀ q ∈ L, q ∈ L') : Chg b o L' w w' :=
  ⟨h.os, h.tape, h.output, h.size, fun q hq h1 h2 => h.blk q hq h1 (fun hm => h2 (hL q hm)), h.cel, h.frz⟩
theorem Chg.up {b o g j : Nat} {L L' : List Nat} {w w' : World} (h : Chg g j L w w') (hL : ∀ q ∈ L, q ∈ L') (hg : g ∈ L') (hb : b < w.heap.size) (hbg : b ≠ g) (hbL : b ∉ L) : Chg b o L' w w' :=
  ⟨h.os, h.tape, h.output, h.size, fun q hq _ h2 => h.blk q hq (fun e => h2 (e ▸ hg)) (fun hm => h2 (hL q hm)), fun _ _ => World.cell?_of_block (h.blk b hb hbg hbL), h.frz⟩
def LesPost (us : List Lt) (t : Tm) (b o : Nat) (L : List Nat) (w : World) (e : Ending) (w' : World) : Prop :=
  (stepD us t = none ∧ e = .returned (.bool false) ∧ Below w.heap.size w w') ∨
  ∃ t', stepD us t = some t' ∧ e = .returned (.bool true) ∧ ∃ L', WL w' (one t') b o L' ∧ (b :: L').Nodup ∧ (∀ q ∈ L', q ∈ L ∨ w.heap.size ≤ q) ∧ Chg b o L w w'
theorem stepF_at {us : List Lt} {t y : Tm} : ∀ {k : Fo} {i : Nat}, (∀ i', i' < i → ∀ z, k.list[i']? = some z → stepD us z = none) → k.list[i]? = some y → stepD us y = some t → stepF us k = some (setF k i fun _ => t)
  | .nil, _, _, h, _ => by simp [Fo.list] at h
  | .node p q x k r, 0, _, h, ht => by
    simp only [Fo.list, List.getElem?_cons_zero, Option.some.injEq] at h
    subst h
    unfold stepF
    rw [ht]
    rfl
  | .node p q x k r, i + 1, hn, h, ht => by
    have h0 := hn 0 (by omega) (x, k) (by simp [Fo.list])
    have ih := stepF_at (k := r) (i := i) (fun i' hi z hz => hn (i' + 1) (by omega) z (by simpa [Fo.list] using hz)) (by simpa [Fo.list] using h) ht
    unfold stepF
    rw [h0, ih]
    rfl
theorem stepF_no {us : List Lt} : ∀ {k : Fo}, (∀ (i' : Nat) (z : Tm), k.list[i']? = some z → stepD us z = none) → stepF us k = none
  | .nil, _ => rfl
  | .node p q x k r, hn => by
    have h0 := hn 0 (x, k) (by simp [Fo.list])
    have ih := stepF_no (k := r) (fun i' z hz => hn (i' + 1) z (by simpa [Fo.list] using hz))
    unfold stepF
    rw [h0, ih]
    rfl
end Go.Proofs.YtlgnpiphaeoeiadDoor

namespace Go.Proofs.YtlgnpiphaeoeiadDoor
open Go.RowKit Go.Deep Go.ChangeShapes Go.WideShapes
attribute [local go_sem ↓] Go.wp_at_zero Go.wp_at_succ
theorem tryL_at {z : Tm} {ws : List Lt} {i : Nat} {wy : Lt} (h : ws[i]? = some wy) : tryL z (ws.drop i) = match tryW z wy with
    | some r => some r
    | none => tryL z (ws.drop (i + 1)) := by
  obtain ⟨hi, e⟩ := List.getElem?_eq_some_iff.1 h
  rw [List.drop_eq_getElem_cons hi, e]
  rfl
theorem byL_sm {s : List Int} {us : List Lt} (hus : Uns s us) : ∀ w ∈ byL us, (Sm s w.2.1 ∧ Sm s w.2.2) ∧ newV w = false := fun w hw => by
  unfold byL at hw
  obtain ⟨u, hu, hw⟩ := List.mem_flatMap.1 hw
  rw [List.mem_filter] at hw
  obtain ⟨h1, h2⟩ := hw
  refine ⟨?_, by simpa using h2⟩
  simp only [List.mem_cons, List.not_mem_nil, or_false] at h1
  rcases h1 with rfl | rfl
  · exact hus _ hu
  · exact turn_sm true (hus _ hu)
theorem Sm.arg {s : List Int} {n : Int} {k : Fo} {i : Nat} {y : Tm} (h : Sm s ((false, n), k)) (h6 : s.length ≤ 6) (hy : k.list[i]? = some y) : Sm s y := by
  have hl : (i : Int) < (Fo.len k : Int) := by
    have := (List.getElem?_eq_some_iff.1 hy).1
    rw [Fo.len_list] at this
    omega
  exact h.at h6 (p := [(i : Int)]) ((atT_cons (y := y) rfl (by omega) (by simpa using hy) hl).trans rfl)
theorem WL.below {w w' : World} (hb : Below w.heap.size w w') {F : Fo} {b o : Nat} {L : List Nat} (h : WL w F b o L) : WL w' F b o L := by
  match F, h with
  | .nil, h => exact h
  | .node p q x k r, h =>
    have hlt : b < w.heap.size := World.block_lt_of_cell? _ _ h.1
    exact h.frame (fun i _ _ => ⟨hb.cell hlt, hb.frozen hlt⟩) (fun q hq i => ⟨hb.cell (h.lt q hq), hb.frozen (h.lt q hq)⟩)
theorem les_arg {n : Int} {k : Fo} {i : Nat} {y : Tm} {b o g : Nat} {L' : List Nat} {w : World} (hW : WL w (one ((false, n), k)) b o (g :: L')) (hk : WL w k g 0 L') (h0 : 0 < Fo.len k) (h1 : Fo.len k ≤ 1000) (hc : w.cell? ⟨b, o + 2, none⟩ = some (.slice (some ⟨g, 0, none⟩) (Fo.len k) (Fo.len k)))
    (hnd : (b :: g :: L').Nodup) (hy : k.list[i]? = some y) : ∃ L2, WL w (one y) g (0 + 3 * i) L2 ∧ (g :: L2).Nodup ∧ ∀ (t : Tm) (w' : World) (L2' : List Nat), WL w' (one t) g (0 + 3 * i) L2' → (g :: L2').Nodup → (∀ q ∈ L2', q ∈ L2 ∨ w.heap.size ≤ q) → Chg g (0 + 3 * i) L2 w w' →
      ∃ L'', WL w' (one ((false, n), setF k i fun _ => t)) b o L'' ∧ (b :: L'').Nodup ∧ (∀ q ∈ L'', q ∈ g :: L' ∨ w.heap.size ≤ q) ∧ Chg b o (g :: L') w w' := by
  obtain ⟨L1, L2, L3, e, h2, h3⟩ := hk.child hy
  subst e
  have hlt := hW.lt
  have hbl : b < w.heap.size := World.block_lt_of_cell? _ _ hW.1
  have hgl : g < w.heap.size := hlt g (by simp)
  have n1 := List.nodup_cons.1 hnd
  have n2 := List.nodup_cons.1 n1.2
  have n3 := List.nodup_append.1 n2.2
  have n4 := List.nodup_append.1 n3.2.1
  have hbg : b ≠ g := fun h => n1.1 (by simp [h])
  have hb1 : b ∉ L1 := fun h => n1.1 (by simp [h])
  have hb2 : b ∉ L2 := fun h => n1.1 (by simp [h])
  have hb3 : b ∉ L3 := fun h => n1.1 (by simp [h])
  have hg1 : g ∉ L1 := fun h => n2.1 (by simp [h])
  have hg2 : g ∉ L2 := fun h => n2.1 (by simp [h])
  have hg3 : g ∉ L3 := fun h => n2.1 (by simp [h])
  have l1 : ∀ q ∈ L1, q < w.heap.size := fun q hq => hlt q (by simp [hq])
  have l3 : ∀ q ∈ L3, q < w.heap.size := fun q hq => hlt q (by simp [hq])
  have d12 : ∀ q ∈ L1, q ∉ L2 := fun q h1 h2 => n3.2.2 q h1 q (by simp [h2]) rfl
  have d13 : ∀ q ∈ L1, q ∉ L3 := fun q h1 h2 => n3.2.2 q h1 q (by simp [h2]) rfl
  have d23 : ∀ q ∈ L2, q ∉ L3 := fun q h1 h2 => n4.2.2 q h1 q h2 rfl
  refine ⟨L2, h2, List.nodup_cons.2 ⟨hg2, n4.1⟩, fun t w' L2' ht hnd' hm hC => ?_⟩
  obtain ⟨m1, m2⟩ := List.nodup_cons.1 hnd'
  have kept : ∀ q, q < w.heap.size → q ≠ g → q ∉ L2 → ∀ j, w'.cell? ⟨q, j, none⟩ = w.cell? ⟨q, j, none⟩ ∧ w'.frozen? ⟨q, j, none⟩ = w.frozen? ⟨q, j, none⟩ := fun q hq e1 e2 j => ⟨World.cell?_of_block (hC.blk q hq e1 e2), hC.frz q j hq⟩
  have hF := h3 w' t L2' (fun j _ _ hj => ⟨hC.cel j hj, hC.frz g j hgl⟩) (fun q hq j => by
    rcases hq with hq | hq
    · exact kept q (l1 q hq) (fun e => hg1 (e ▸ hq)) (d12 q hq) j
    · exact kept q (l3 q hq) (fun e => hg3 (e ▸ hq)) (fun h => d23 q h hq) j) ht
  have hkb := kept b hbl hbg hb2
  obtain ⟨w0, w1, z0, z1, z2, _⟩ := hW
  have r1 : ∀ q ∈ L2', q ∉ L1 := fun q hq h => by
    rcases hm q hq with h2 | h2
    · exact d12 q h h2
    · have := l1 q h; omega
  have r3 : ∀ q ∈ L2', q ∉ L3 := fun q hq h => by
    rcases hm q hq with h2 | h2
    · exact d23 q h2 h
    · have := l3 q h; omega
  have rb : b ∉ L2' := fun h => by
    rcases hm b h with h2 | h2
    · exact hb2 h2
    · omega
  refine ⟨g :: (L1 ++ (L2' ++ L3)), ⟨(hkb o).1.trans w0, (hkb (o + 1)).1.trans w1, (hkb o).2.trans z0, (hkb (o + 1)).2.trans z1, (hkb (o + 2)).2.trans z2, g, _, g :: (L1 ++ (L2' ++ L3)), [], by simp, (hkb (o + 2)).1.trans hc, .inr ⟨_, rfl, by rw [setF_len]; exact h0, by rw [setF_len]; exact h1, by rw [setF_len], hF⟩, rfl⟩, ?_, ?_, ?_⟩
  · refine List.nodup_cons.2 ⟨?_, List.nodup_cons.2 ⟨?_, List.nodup_append.2 ⟨n3.1, List.nodup_append.2 ⟨m2, n4.2.1, fun p hp q hq e => r3 p hp (e ▸ hq)⟩, fun p hp q hq e => ?_⟩⟩⟩
    · simp only [List.mem_cons, List.mem_append, not_or]
      exact ⟨hbg, hb1, rb, hb3⟩
    · simp only [List.mem_append, not_or]
      exact ⟨hg1, m1, hg3⟩
    · subst e
      rcases List.mem_append.1 hq with hq | hq
      · exact r1 p hq hp
      · exact d13 p hp hq
  · intro q hq
    simp only [List.mem_cons, List.mem_append] at hq ⊢
    rcases hq with h | h | h | h
    · exact .inl (.inl h)
    · exact .inl (.inr (.inl h))
    · rcases hm q h with h | h
      · exact .inl (.inr (.inr (.inl h)))
      · exact .inr h
    · exact .inl (.inr (.inr (.inr h)))
  · exact hC.up (fun q hq => by simp [hq]) (by simp) hbl hbg hb2
def LesSaid (s : List Int) (us : List Lt) (x : Bool × Int) (k : Fo) : Prop := ∀ (b o : Nat) (L : List Nat) (bv : Value) (w : World), WL w (one (x, k)) b o L → (b :: L).Nodup → Sm s (x, k) → ByIn w (byL us) bv →
    Calls Tryd.prog 43 #[.pointer (some ⟨b, o, none⟩), bv] w (LesPost us (x, k) b o L w)
set_option maxRecDepth 100000 in
set_option maxHeartbeats 4000000 in
theorem lessen_any {s : List Int} (h6 : s.length ≤ 6) {us : List Lt} (hus : Uns s us) (x : Bool × Int) (k : Fo) : LesSaid s us x k := by
  refine Fo.ind1 (p := LesSaid s us) ?_ x k
  clear x k
  intro x k ih b o L bv w hW hnd hsm hBy
  have HI := hide ih
  have HW := hide hW
  have Hnd := hide hnd
  have Hsm := hide hsm
  have HBy := hide hBy
  have HU := hide hus
  obtain ⟨ba, bc, bb, bo, rfl, hbad, hblc, hbcm, hbel⟩ := hBy
  unfold maxLen at hbcm
  have Hbel := hide hbel
  obtain ⟨q0, q1, z0, z1, z2, g, av, Lk, Lr, e, q2, hk, hr⟩ := hW
  rw [WL] at hr
  subst hr
  rw [List.append_nil] at e
  subst e
  clear ih hnd hus hbel
  obtain ⟨xv, xi⟩ := x
  simp only at q0 q1
  cases xv
  · have hav : ∃ a1 a3, av = .slice a1 (Fo.len k) a3 ∧ Fo.len k ≤ a3 ∧ a3 ≤ 1000 := by
      rcases hk with ⟨rfl, rfl, _⟩ | ⟨_, _, h1, h2, rfl, _⟩
      · exact ⟨none, 0, rfl, Nat.le_refl _, by omega⟩
      · exact ⟨_, _, rfl, Nat.le_refl _, h2⟩
    obtain ⟨a1, a3, rfl, hal, ham⟩ := hav
    have HK := hide hk
    have HQ2 := hide q2
    clear hk
    have hblt : b < w.heap.size := World.block_lt_of_cell? _ _ q0
    go_enter Tryd.func43, Tryd.ntmps43
    go_wp2_with fail
    generalize hbl : byL us = ws at *
    go_loopw [16] (fun i wr => ∃ j : Nat, j ≤ ws.length ∧ i = .int .i64 j ∧ tryUs ((false, xi), k) us = tryL ((false, xi), k) (ws.drop j) ∧ Below w.heap.size w wr) (fun i _ => ws.length - (intOf i).toNat)
    case atStart => exact ⟨0, Nat.zero_le _, rfl, by rw [List.drop_zero, ← hbl, tryL_by], Below.refl _ _⟩
    case round =>
      obtain ⟨j, hj, rfl, htr, hBr⟩ := hrel
      have Htr := hide htr
      have HBr := hide hBr
      have hbr := hBr.size
      clear htr
      have p0 := grow_cell hBr _ _ q0
      have p1 := grow_cell hBr _ _ q1
      have p2 := grow_cell hBr _ _ q2
      have f0 := (hBr.frozen (p := ⟨b, o, none⟩) hblt).trans z0
      have f1 := (hBr.frozen (p := ⟨b, o + 1, none⟩) hblt).trans z1
      have f2 := (hBr.frozen (p := ⟨b, o + 2, none⟩) hblt).trans z2
      by_cases hjl : j < ws.length
      · have hjl' : (j : Int) < (ws.length : Int) := by omega
        obtain ⟨wy, hwy⟩ : ∃ wy, ws[j]? = some wy := ⟨ws[j]'hjl, by simp⟩
        have Htj := hide (tryL_at (z := ((false, xi), k)) hwy)
        have hwm : wy ∈ byL us := by rw [hbl]; exact List.mem_of_getElem? hwy
        have Hwo := hide (byL_sm HU.out wy hwm)
        obtain ⟨f1', f2', e0, e1, e2⟩ := Hbel.out j wy hwy
        replace e0 := grow_cell hBr _ _ e0
        have hba : ba = some ⟨bb, bo, none⟩ := hbad (by omega)
        subst hba
        have HS : Hid (SIn wr k (.slice a1 (Fo.len k) a3)) := by
          have h := HW.out.toF.node.2.2.1
          obtain ⟨v, h1, h2⟩ := h
          rw [q2] at h1
          cases h1
          exact h2.below hBr
        have Hfc := hide (fromClo_any wy ((false, xi), k) f1' f2' (.slice a1 (Fo.len k) a3) wr Hwo.out.1 Hwo.out.2 Hsm.out (e1.below hBr) (e2.below hBr) HS.out)
        simp only at Hfc
        clear hwy hbad e1 e2 hwm hBr q0 q1 q2 z0 z1 z2
        go_wp2_with fail
        refine Hfc.out.mono ?_
        rintro e w1 ⟨⟨⟨rv, ri⟩, rk⟩, r1, r3, ok, rfl, hty, hO, hb1⟩
        replace p0 := grow_cell hb1 _ _ p0
        replace p1 := grow_cell hb1 _ _ p1
        replace p2 := grow_cell hb1 _ _ p2
        replace f0 := (hb1.frozen (p := ⟨b, o, none⟩) (by show b < _; omega)).trans f0
        replace f1 := (hb1.frozen (p := ⟨b, o + 1, none⟩) (by show b < _; omega)).trans f1
        replace f2 := (hb1.frozen (p := ⟨b, o + 2, none⟩) (by show b < _; omega)).trans f2
        have HO := hide hO
        have HB1 := hide (below_step HBr.out hb1)
        have hs1 := hb1.size
        simp only at *
        clear hO e0 hb1
        cases ok
        · have Hn : Hid (tryUs ((false, xi), k) us = tryL ((false, xi), k) (ws.drop (j + 1))) := by rw [Hid, Htr.out, Htj.out, hty]; rfl
          clear hty
          go_wp2_with fail
          go_roundw
          case rel => exact ⟨j + 1, by omega, by go_num, Hn.out, below_step HB1.out (below_alloc _ _)⟩
          case measure => simp [intOf]; omega
        · have Hy : Hid (tryUs ((false, xi), k) us = some ((rv, ri), rk)) := by rw [Hid, Htr.out, Htj.out, hty]; rfl
          clear hty
          go_upto_region 8 with fail
          generalize hwa : w1.alloc (.cells #[.bool rv, .int .i64 ri, .slice r1 (Fo.len rk) r3] 37) = wa
          have hba : Below w1.heap.size w1 wa := by rw [← hwa]; exact below_alloc _ _
          have l0 : wa.cell? ⟨w1.heap.size, 0, none⟩ = some (.bool rv) := by rw [← hwa]; exact new_cell rfl
          have l1 : wa.cell? ⟨w1.heap.size, 1, none⟩ = some (.int .i64 ri) := by rw [← hwa]; exact new_cell rfl
          have l2 : wa.cell? ⟨w1.heap.size, 2, none⟩ = some (.slice r1 (Fo.len rk) r3) := by rw [← hwa]; exact new_cell rfl
          replace p0 := grow_cell hba _ _ p0
          replace p1 := grow_cell hba _ _ p1
          replace p2 := grow_cell hba _ _ p2
          replace f0 := (hba.frozen (p := ⟨b, o, none⟩) (by show b < _; omega)).trans f0
          replace f1 := (hba.frozen (p := ⟨b, o + 1, none⟩) (by show b < _; omega)).trans f1
          replace f2 := (hba.frozen (p := ⟨b, o + 2, none⟩) (by show b < _; omega)).trans f2
          have Hba := hide hba
          have HBa := hide (below_step HB1.out hba)
          have Hpost : Hid (LesPost us ((false, xi), k) b o L w (.returned (.bool true)) (set3 wa b o (.bool rv) (.int .i64 ri) (.slice r1 (Fo.len rk) r3))) := by
            obtain ⟨t0, t1, t2⟩ := set3_cells (x := .bool rv) (y := .int .i64 ri) (z := .slice r1 (Fo.len rk) r3) p0 p1 p2
            have hO2 : OwnV (set3 wa b o (.bool rv) (.int .i64 ri) (.slice r1 (Fo.len rk) r3)) wr.heap.size w1.heap.size rk (.slice r1 (Fo.len rk) r3) := HO.out.frame fun q i q1 q2 => ⟨(set3_other (.inl (by omega))).trans (hba.cell q2), set3_frozen.trans (hba.frozen q2)⟩
            obtain ⟨L', k1, k2, k3⟩ := OwnV.toL (t := ((rv, ri), rk)) hO2 t0 t1 t2 (set3_frozen.trans f0) (set3_frozen.trans f1) (set3_frozen.trans f2)
            refine .inr ⟨((rv, ri), rk), by rw [stepD_sym, Hy.out], rfl, L', k1, List.nodup_cons.2 ⟨fun h => by have := k3 b h; omega, k2⟩, fun q hq => .inr (by have := k3 q hq; omega), ?_⟩
            exact (chg_set.pre HBa.out hblt).wide (fun q hq => by cases hq)
          clear hwa hba hsm
          go_wp2_with fail
          go_ret
          exact Hpost.out
      · have Hno : Hid (tryUs ((false, xi), k) us = none) := by
          rw [Hid, Htr.out, List.drop_eq_nil_iff.2 (by omega)]
          rfl
        clear q0 q1 q2 z0 z1 z2 hbad hBr
        have HByr := hide (HBy.out.below HBr.out)
        go_wp2_with fail
        clear p0 p1 p2 f0 f1 f2
        generalize wr = wo at *
        go_loopw [38] (fun i wr => ∃ q : Nat, q ≤ Fo.len k ∧ i = .int .i64 q ∧ (∀ i', i' < q → ∀ z, k.list[i']? = some z → stepD us z = none) ∧ Below w.heap.size w wr) (fun i _ => Fo.len k - (intOf i).toNat)
        case atStart => exact ⟨0, Nat.zero_le _, rfl, fun i' hi' => by omega, HBr.out⟩
        case round =>
          obtain ⟨q, hq, rfl, hnn, hBq⟩ := hrel
          have Hnn := hide hnn
          have HBq := hide hBq
          clear hnn
          by_cases hql : q < Fo.len k
          · have hql' : (q : Int) < (Fo.len k : Int) := by omega
            obtain ⟨L', rfl, hk0, hk1, hae, hkW⟩ : ∃ L', L = g :: L' ∧ 0 < Fo.len k ∧ Fo.len k ≤ 1000 ∧ Value.slice a1 (Fo.len k) a3 = .slice (some ⟨g, 0, none⟩) (Fo.len k) (Fo.len k) ∧ WL w k g 0 L' := by
              rcases HK.out with ⟨h, _⟩ | h
              · rw [h] at hql; simp [Fo.len] at hql
              · exact h
            simp only [Value.slice.injEq, true_and] at hae
            obtain ⟨rfl, rfl⟩ := hae
            obtain ⟨⟨⟨yv, yi⟩, yk⟩, hy⟩ : ∃ y, k.list[q]? = some y := ⟨k.list[q]'(by rw [Fo.len_list]; exact hql), by simp⟩
            have hsmy := Hsm.out.arg h6 hy
            have Hat := hide (fun (t : Tm) (h : stepD us ((yv, yi), yk) = some t) => stepF_at (us := us) (k := k) (i := q) Hnn.out hy h)
            obtain ⟨L2, hw2, hnd2, hass⟩ := les_arg HW.out hkW hk0 hk1 HQ2.out Hnd.out hy
            rw [show 0 + 3 * q = q * 3 by omega] at hw2 hass
            have Hass := hide hass
            have hglt : g < w.heap.size := HW.out.lt g (by simp)
            have Hcall := hide (HI.out ((yv, yi), yk) (List.mem_of_getElem? hy) g (q * 3) L2 _ wr (hw2.below hBq) hnd2 hsmy (by rw [hbl]; exact HBy.out.below hBq))
            have p2 := grow_cell hBq _ _ HQ2.out
            have p0 := grow_cell hBq _ _ HW.out.1
            have p1 := grow_cell hBq _ _ HW.out.2.1
            have Hyn : Hid (stepD us ((yv, yi), yk) = none → ∀ i', i' < q + 1 → ∀ z, k.list[i']? = some z → stepD us z = none) := fun h i' hi' z hz => by
              by_cases e : i' = q
              · subst e; rw [hy] at hz; cases hz; exact h
              · exact Hnn.out i' (by omega) z hz
            simp only at Hcall p0 p1
            clear hass hw2 hnd2 hy hkW hBq hsmy hsm
            go_wp2_with fail
            refine Hcall.out.mono ?_
            rintro e w2 (⟨hst, rfl, hb2⟩ | ⟨t', hst, rfl, L2', hw', hnd', hmem, hch⟩)
            · have Hn := hide (Hyn.out hst)
              have HB2 := hide (below_step HBq.out hb2)
              clear hst hb2
              go_wp2_with fail
              go_roundw
              case rel => exact ⟨q + 1, by omega, by go_num, Hn.out, HB2.out⟩
              case measure => simp [intOf]; omega
            · have Hpost : Hid (LesPost us ((false, xi), k) b o (g :: L') w (.returned (.bool true)) w2) := by
                have hs := HBq.out.size
                obtain ⟨L'', k1, k2, k3, k4⟩ := Hass.out t' w2 L2' hw' hnd' (fun p hp => (hmem p hp).imp id (fun h => by omega)) (hch.pre HBq.out hglt)
                refine .inr ⟨((false, xi), setF k q fun _ => t'), ?_, rfl, L'', k1, k2, k3, k4⟩
                rw [stepD_sym, Hno.out]
                simp only
                rw [Hat.out _ hst]
                rfl
              clear hst hw' hnd' hmem hch
              go_wp2_with fail
              go_ret
              exact Hpost.out
          · have hqe : q = Fo.len k := by omega
            have Hnone : Hid (stepD us ((false, xi), k) = none) := by
              rw [Hid, stepD_sym, Hno.out]
              simp only
              rw [stepF_no (fun i' z hz => Hnn.out i' (by have := (List.getElem?_eq_some_iff.1 hz).1; rw [Fo.len_list] at this; omega) z hz)]
              rfl
            clear hBq
            go_wp2_with fail
            go_ret
            exact .inl ⟨Hnone.out, rfl, HBq.out⟩
  · go_enter Tryd.func43, Tryd.ntmps43
    go_wp2_with fail
    go_ret
    exact .inl ⟨stepD_var, rfl, Below.refl _ _⟩
end Go.Proofs.YtlgnpiphaeoeiadDoor

namespace Go.Proofs.YtlgnpiphaeoeiadDoor
open Go.RowKit Go.Deep Go.ChangeShapes Go.WideShapes
attribute [local go_sem ↓] Go.wp_at_zero Go.wp_at_succ
theorem WL.toB {w : World} {X : Nat → Prop} : ∀ {F : Fo} {b o : Nat} {L : List Nat}, (∀ q ∈ L, X q) → WL w F b o L → BIn X w F b o
  | .nil, _, _, _, _, _ => trivial
  | .node _ _ x k r, b, o, L, hX, ⟨h0, h1, _, _, _, g, a, Lk, Lr, e, h2, h3, h4⟩ => by
    subst e
    refine BIn.mk h0 h1 h2 ?_ (WL.toB (fun q hq => hX q (by simp [hq])) h4)
    rcases h3 with ⟨rfl, rfl, _⟩ | ⟨L', rfl, _, hl, rfl, hk⟩
    · exact SB.nil X w
    · exact ⟨_, _, g, 0, rfl, fun _ => ⟨rfl, hX g (by simp)⟩, Nat.le_refl _, by unfold maxLen; omega, WL.toB (fun q hq => hX q (by simp [hq])) hk⟩
theorem WL.sb {w : World} {X : Nat → Prop} {t : Tm} {b o : Nat} {L : List Nat} (hX : ∀ q ∈ L, X q) (h : WL w (one t) b o L) : ∃ a1 a3, w.cell? ⟨b, o + 2, none⟩ = some (.slice a1 (Fo.len t.2) a3) ∧ SB X w t.2 (.slice a1 (Fo.len t.2) a3) := by
  obtain ⟨_, _, _, _, _, g, a, Lk, Lr, e, h2, h3, h4⟩ := h
  subst e
  rcases h3 with ⟨e1, rfl, _⟩ | ⟨L', rfl, _, hl, rfl, hk⟩
  · refine ⟨none, 0, ?_, ?_⟩
    · rw [h2, e1]; rfl
    · rw [e1]; exact SB.nil X w
  · exact ⟨_, _, h2, ⟨_, _, g, 0, rfl, fun _ => ⟨rfl, hX g (by simp)⟩, Nat.le_refl _, by unfold maxLen; omega, WL.toB (fun q hq => hX q (by simp [hq])) hk⟩⟩
theorem subT_nil {t : Tm} (h : okT t) : subT (bnd []) t = t := subT_vr h
def DownPost (us : List Lt) (t : Tm) (w : World) (e : Ending) (w' : World) : Prop := ∃ (a1 : Option Addr) (a3 : Nat), e = .returned (.agg #[.bool (downT us t).1.1, .int .i64 (downT us t).1.2, .slice a1 (Fo.len (downT us t).2) a3]) ∧ SB (New w w') w' (downT us t).2 (.slice a1 (Fo.len (downT us t).2) a3) ∧ Below w.heap.size w w'
set_option maxRecDepth 100000 in
set_option maxHeartbeats 4000000 in
theorem downP_any {s : List Int} (h6 : s.length ≤ 6) {us : List Lt} (hus : Uns s us) (x : Bool × Int) (k : Fo) (a bv : Value) (w : World) (hS : SIn w k a) (hsm : Sm s (x, k)) (hBy : ByIn w (byL us) bv) :
    Calls Tryd.prog 26 #[.agg #[.bool x.1, .int .i64 x.2, a], bv] w (DownPost us (x, k) w) := by
  obtain ⟨xv, xi⟩ := x
  have HS := hide hS
  have Hsm := hide hsm
  have HBy := hide hBy
  have HU := hide hus
  obtain ⟨ad, c, _, _, rfl, -, -, -, -⟩ := hS
  obtain ⟨ba, bc, bb, bo, rfl, -, -, -, -⟩ := hBy
  clear hsm hus
  go_enter Tryd.func26, Tryd.ntmps26
  go_wp2_with fail
  generalize hW2 : (w.alloc (.cells #[.bool xv, .int .i64 xi, .slice ad (Fo.len k) c] 37)).alloc (.cells #[.bool false, .int .i64 0, .slice none 0 0] 37) = W2
  have hB2 : Below w.heap.size w W2 := by rw [← hW2]; exact (below_alloc _ _).alloc (by simp) _
  have hs2 : W2.heap.size = w.heap.size + 1 + 1 := by rw [← hW2]; simp
  have r0 : W2.cell? ⟨w.heap.size + 1, 0, none⟩ = some (.bool false) := by rw [← hW2]; exact new_cell (World.size_alloc _ _)
  have r1 : W2.cell? ⟨w.heap.size + 1, 1, none⟩ = some (.int .i64 0) := by rw [← hW2]; exact new_cell (World.size_alloc _ _)
  have r2 : W2.cell? ⟨w.heap.size + 1, 2, none⟩ = some (.slice none 0 0) := by rw [← hW2]; exact new_cell (World.size_alloc _ _)
  have rf : ∀ i, W2.frozen? ⟨w.heap.size + 1, i, none⟩ = false := fun i => by rw [← hW2]; exact new_frozen (World.size_alloc _ _)
  have HR := hide (And.intro r0 (And.intro r1 (And.intro r2 rf)))
  have HB2 := hide hB2
  clear hW2 r0 r1 r2 rf hB2
  refine (apply_any [] _ (xv, xi) k _ W2 (SubIn.nil _) (fun p hp => by cases hp) (HS.out.below HB2.out) Hsm.out.lw.gd.nar).mono ?_
  rintro e w1 ⟨a', rfl, hO, hb1⟩
  rw [subT_nil Hsm.out.lw.gd.ok] at hO ⊢
  obtain ⟨x1, x3, _, _, rfl, -, -, -, -⟩ := hO.toS
  simp only at *
  go_upto_region 2 with fail
  generalize hwa : w1.alloc (.cells #[.bool xv, .int .i64 xi, .slice x1 (Fo.len k) x3] 37) = wa
  have hba : Below w1.heap.size w1 wa := by rw [← hwa]; exact below_alloc _ _
  have hsa : wa.heap.size = w1.heap.size + 1 := by rw [← hwa]; simp
  have hs1 := hb1.size
  have hst : ∃ L, WL wa (one ((xv, xi), k)) w1.heap.size 0 L ∧ L.Nodup ∧ ∀ q ∈ L, W2.heap.size ≤ q ∧ q < w1.heap.size := by
    refine OwnV.toL (t := ((xv, xi), k)) (hO.frame fun q i _ q2 => ⟨hba.cell q2, hba.frozen q2⟩) ?_ ?_ ?_ ?_ ?_ ?_
    · rw [← hwa]; exact new_cell rfl
    · rw [← hwa]; exact new_cell rfl
    · rw [← hwa]; exact new_cell rfl
    · rw [← hwa]; exact new_frozen rfl
    · rw [← hwa]; exact new_frozen rfl
    · rw [← hwa]; exact new_frozen rfl
  obtain ⟨L0, hL0, hnd0, hlo0⟩ := hst
  have HBa := hide (below_step HB2.out (below_step hb1 hba))
  have HB2a := hide (below_step hb1 hba)
  have HL0 := hide (And.intro hL0 (And.intro (List.nodup_cons.2 ⟨fun h => by have := hlo0 _ h; omega, hnd0⟩ : (w1.heap.size :: L0).Nodup) (fun q (hq : q ∈ L0) => (hlo0 q hq).1)))
  have hb1w : W2.heap.size ≤ w1.heap.size := hs1
  generalize w1.heap.size = g at *
  clear hO hb1 hba hwa hL0 hnd0 hlo0
  go_loopg [] (msr ((xv, xi), k)) (fun m wr => ∃ (t : Tm) (L : List Nat), WL wr (one t) g 0 L ∧ (g :: L).Nodup ∧ (∀ q ∈ L, W2.heap.size ≤ q) ∧ Sm s t ∧ downT us t = downT us ((xv, xi), k) ∧ msr t = m ∧ Below W2.heap.size W2 wr)
  case atStart => exact ⟨((xv, xi), k), L0, HL0.out.1, HL0.out.2.1, HL0.out.2.2, Hsm.out, rfl, rfl, HB2a.out⟩
  case round =>
    obtain ⟨t, L, hWt, hnd, hlo, hst, hdt, hm, hBr⟩ := hrel
    have HWt := hide hWt
    have Hlo := hide hlo
    have Hst := hide hst
    have Hdt := hide hdt
    have Hm := hide hm
    have HBr := hide hBr
    have Hc := hide (lessen_any h6 HU.out t.1 t.2 g 0 L _ wr hWt hnd hst (HBy.out.below (HB2.out.trans (hBr.mono (by omega)))))
    clear hWt hnd hlo hst hdt hm hBr
    go_wp2_with fail
    refine Hc.out.mono ?_
    rintro e w2 (⟨hst, rfl, hb2⟩ | ⟨t', hst, rfl, L', hw', hnd', hmem, hch⟩)
    · have hB2 := below_step HBr.out hb2
      obtain ⟨r0, r1, r2, rf⟩ := HR.out
      replace r0 := grow_cell hB2 _ _ r0
      replace r1 := grow_cell hB2 _ _ r1
      replace r2 := grow_cell hB2 _ _ r2
      replace rf : ∀ i, w2.frozen? ⟨w.heap.size + 1, i, none⟩ = false := fun i => (hB2.frozen (by show w.heap.size + 1 < _; omega)).trans (rf i)
      have hWf := HWt.out.below hb2
      have hlt := hWf.lt
      obtain ⟨y1, y3, c2, hSB⟩ := hWf.sb (X := fun q => W2.heap.size ≤ q ∧ q < w2.heap.size) (fun q hq => ⟨Hlo.out q hq, hlt q hq⟩)
      have c0 := hWf.1
      have c1 := hWf.2.1
      have Hd : Hid (downT us ((xv, xi), k) = t) := by rw [Hid, ← Hdt.out, downT_stop hst]
      obtain ⟨⟨tv, ti⟩, tk⟩ := t
      simp only at c0 c1 c2 hSB
      have HSB := hide hSB
      have HBf := hide (below_step HB2.out hB2)
      have hz2 := hB2.size
      clear hWf hlt hSB hst hb2 hB2
      simp only [Nat.zero_add] at c0 c1 c2
      go_wp2_with fail
      refine bodyPost_ret (v := .agg #[.bool tv, .int .i64 ti, .slice y1 (Fo.len tk) y3]) (by simp [results, Tryd.results26, go_sem, r0, r1, r2]) rfl ?_
      unfold DownPost
      rw [Hd.out]
      refine ⟨y1, y3, rfl, ?_, set3_below (b := w.heap.size + 1) (o := 0) HBf.out (by omega)⟩
      refine HSB.out.frame (fun q hq => ⟨by omega, ?_⟩) (fun q i hq => set3_other (w := w2) (b := w.heap.size + 1) (o := 0) (.inl (by omega)))
      have := hq.2
      simp only [World.size_setCell]
      exact this
    · obtain ⟨_, _, _, _, _, _, _, _, _, ha, hs'⟩ := stepD_some h6 HU.out Hst.out hst
      have hless := msr_less Hst.out.lw hs'.lw ha
      have Hd : Hid (downT us t' = downT us ((xv, xi), k)) := by rw [Hid, ← Hdt.out, downT_step h6 HU.out Hst.out hst]
      have hBs := HBr.out.size
      have HB2' := hide (HBr.out.trans (hch.below hBs hb1w Hlo.out))
      have Hlo' : Hid (∀ q ∈ L', W2.heap.size ≤ q) := fun q hq => by
        rcases hmem q hq with h | h
        · exact Hlo.out q h
        · omega
      have Hw := hide (And.intro hw' hnd')
      have Hs' := hide hs'
      have hm' := Hm.out
      clear hst hw' hnd' hmem hch hs' ha
      go_wp2_with fail
      go_roundg (msr t')
      case measure => omega
      case rel => exact ⟨t', L', Hw.out.1, Hw.out.2, Hlo'.out, Hs'.out, Hd.out, rfl, HB2'.out⟩
end Go.Proofs.YtlgnpiphaeoeiadDoor

namespace Go.Proofs.YtlgnpiphaeoeiadDoor
open Go.RowKit Go.Deep Go.ChangeShapes Go.WideShapes
theorem down_gx {s : List Int} (h6 : s.length ≤ 6) {us : List Lt} (hus : Uns s us) {c : Cl} (hc : SmC s c) (h4 : c.length ≤ 4) : GX (c.map (mapL (downT us))) :=
by
  have h := GC.x ((down_sm h6 hus hc).gc (by simpa [downC] using h4))
  unfold downC at h
  exact h
def RwPost (us : List Lt) (c : Cl) (w : World) (e : Ending) (w' : World) : Prop := ∃ v, e = .returned (.tuple #[v, .int .i64 (rwC us c).1]) ∧ CIn w' (rwC us c).2 v ∧ Below w.heap.size w w'
end Go.Proofs.YtlgnpiphaeoeiadDoor

namespace Go.Proofs.YtlgnpiphaeoeiadDoor
open Go.RowKit Go.Deep Go.ChangeShapes Go.WideShapes
attribute [local go_sem ↓] Go.wp_at_zero Go.wp_at_succ
theorem down_call {s : List Int} (h6 : s.length ≤ 6) {us : List Lt} (hus : Uns s us) {x z : Bool × Int} {k zk : Fo} {a bv : Value} {w : World} (hz : (z, zk) = downT us (x, k)) (hS : SIn w k a) (hsm : Sm s (x, k)) (hBy : ByIn w (byL us) bv) :
    Calls Tryd.prog 26 #[.agg #[.bool x.1, .int .i64 x.2, a], bv] w fun e w' => ∃ (a1 : Option Addr) (a3 : Nat), e = .returned (.agg #[.bool z.1, .int .i64 z.2, .slice a1 (Fo.len zk) a3]) ∧ SB (New w w') w' zk (.slice a1 (Fo.len zk) a3) ∧ Below w.heap.size w w' := by
  have h := downP_any h6 hus x k a bv w hS hsm hBy
  unfold DownPost at h
  rw [← hz] at h
  exact h
theorem by_slice {w : World} {ws : List Lt} {v : Value} (h : ByIn w ws v) : ∃ v1 v2 v3, v = .slice v1 v2 v3 := by
  obtain ⟨v1, v3, _, _, h, -, -, -, -⟩ := h
  exact ⟨_, _, _, h⟩
set_option maxRecDepth 100000 in
set_option maxHeartbeats 2000000 in
theorem downU_any {s : List Int} (h6 : s.length ≤ 6) {us : List Lt} (hus : Uns s us) (h8 : us.length ≤ 8) (hpos : ∀ u ∈ us, u.1 = false) (x : Bool × Int) (k : Fo) (a uv : Value) (w : World) (hS : SIn w k a) (hsm : Sm s (x, k)) (hC : CsIn w (us.map fun u => [u]) uv) :
    Calls Tryd.prog 10 #[.agg #[.bool x.1, .int .i64 x.2, a], uv] w (DownPost us (x, k) w) := by
  obtain ⟨xv, xi⟩ := x
  have HS := hide hS
  have Hl := hide (fun (w' : World) (hb : Below w.heap.size w w') => lesseners_any hus h8 uv w' (hC.below hb) hpos)
  obtain ⟨⟨⟨tv, ti⟩, tk⟩, ht⟩ : ∃ t, t = downT us ((xv, xi), k) := ⟨_, rfl⟩
  have Ht := hide ht
  have Hd := hide (fun (w' : World) (hb : Below w.heap.size w w') (bv : Value) (hBy : ByIn w' (byL us) bv) => down_call (x := (xv, xi)) (k := k) h6 hus ht (hS.below hb) hsm hBy)
  simp only at Hd
  clear ht
  obtain ⟨ad, c, _, _, rfl, -, -, -, -⟩ := hS
  obtain ⟨u1, u2, u3, rfl⟩ : ∃ v1 v2 v3, uv = .slice v1 v2 v3 := by
    obtain ⟨v1, v3, _, _, h, -, -, -, -⟩ := hC
    exact ⟨_, _, _, h⟩
  clear hsm hus hpos hC
  go_enter Tryd.func10, Tryd.ntmps10
  go_upto_region 1 with fail
  generalize hW1 : (w.alloc (.cells #[.bool xv, .int .i64 xi, .slice ad (Fo.len k) c] 37)).alloc (.cells #[.bool false, .int .i64 0, .slice none 0 0] 37) = W1
  have hB1 : Below w.heap.size w W1 := by rw [← hW1]; exact (below_alloc _ _).alloc (by simp) _
  have hs1 : W1.heap.size = w.heap.size + 1 + 1 := by rw [← hW1]; simp
  have g0 : W1.cell? ⟨w.heap.size, 0, none⟩ = some (.bool xv) := by rw [← hW1, World.cell?_alloc_lt _ _ _ (by simp)]; exact new_cell rfl
  have g1 : W1.cell? ⟨w.heap.size, 1, none⟩ = some (.int .i64 xi) := by rw [← hW1, World.cell?_alloc_lt _ _ _ (by simp)]; exact new_cell rfl
  have g2 : W1.cell? ⟨w.heap.size, 2, none⟩ = some (.slice ad (Fo.len k) c) := by rw [← hW1, World.cell?_alloc_lt _ _ _ (by simp)]; exact new_cell rfl
  have r0 : W1.cell? ⟨w.heap.size + 1, 0, none⟩ = some (.bool false) := by rw [← hW1]; exact new_cell (World.size_alloc _ _)
  have r1 : W1.cell? ⟨w.heap.size + 1, 1, none⟩ = some (.int .i64 0) := by rw [← hW1]; exact new_cell (World.size_alloc _ _)
  have r2 : W1.cell? ⟨w.heap.size + 1, 2, none⟩ = some (.slice none 0 0) := by rw [← hW1]; exact new_cell (World.size_alloc _ _)
  have rf : ∀ i, W1.frozen? ⟨w.heap.size + 1, i, none⟩ = false := fun i => by rw [← hW1]; exact new_frozen (World.size_alloc _ _)
  have HB1 := hide hB1
  have hcur : Below W1.heap.size W1 W1.drew := (Below.refl _ _).drew
  have hlt1 : w.heap.size + 1 < W1.heap.size := by omega
  have hne : w.heap.size ≠ w.heap.size + 1 := by omega
  clear hW1 hB1
  go_region_held3 (fun w' => w'.cell? ⟨w.heap.size, 0, none⟩ = some (.bool xv) ∧ w'.cell? ⟨w.heap.size, 1, none⟩ = some (.int .i64 xi) ∧ w'.cell? ⟨w.heap.size, 2, none⟩ = some (.slice ad (Fo.len k) c))
    (first
      | (with_reducible exact ⟨grow_cell hcur _ _ g0, grow_cell hcur _ _ g1, grow_cell hcur _ _ g2⟩)
      | (with_reducible exact ⟨keep3 hne (grow_cell hcur _ _ g0), keep3 hne (grow_cell hcur _ _ g1), keep3 hne (grow_cell hcur _ _ g2)⟩)
      | go_keep)
    (first
      | (go_at_call 27; with_reducible refine (Hl.out _ (below_step HB1.out hcur)).mono ?_; rintro e wS ⟨bv, rfl, hBy, hbS⟩; replace hcur := below_step hcur hbS; have HBy := hide hBy; obtain ⟨y1, y2, y3, rfl⟩ := by_slice hBy; clear hBy hbS)
      | (go_at_call 26; with_reducible refine (Hd.out _ (below_step HB1.out hcur) _ HBy.out).mono ?_; rintro e wU ⟨z1, z3, rfl, hO, hbU⟩; have hcurS := hcur; replace hcur := below_step hcur hbU; have HO := hide hO; have e0 := grow_cell hcur _ _ r0; have e1 := grow_cell hcur _ _ r1; have e2 := grow_cell hcur _ _ r2; have ef : ∀ i, wU.frozen? ⟨w.heap.size + 1, i, none⟩ = false := fun i => (hcur.frozen hlt1).trans (rf i); clear hO hbU))
  all_goals
    have Hcs := hide hcurS
    have Hend := hide hcur
    obtain ⟨t0, t1, t2⟩ := set3_cells (x := .bool tv) (y := .int .i64 ti) (z := .slice z1 (Fo.len tk) z3) e0 e1 e2
    have hz5 := Hend.out.size
    have hz6 := Hcs.out.size
    have Hbe := hide (set3_below (b := w.heap.size + 1) (o := 0) (x := .bool tv) (y := .int .i64 ti) (z := .slice z1 (Fo.len tk) z3) (below_step HB1.out Hend.out) (by omega))
    have HOe : Hid (SB (New w (set3 wU (w.heap.size + 1) 0 (.bool tv) (.int .i64 ti) (.slice z1 (Fo.len tk) z3))) (set3 wU (w.heap.size + 1) 0 (.bool tv) (.int .i64 ti) (.slice z1 (Fo.len tk) z3)) tk (.slice z1 (Fo.len tk) z3)) := by
      refine HO.out.frame (fun q hq => ⟨?_, ?_⟩) (fun q i hq => set3_other (.inl ?_))
      · have := hq.1; omega
      · rw [set3_size]; exact hq.2
      · have := hq.1; omega
    generalize hw6 : set3 wU (w.heap.size + 1) 0 (.bool tv) (.int .i64 ti) (.slice z1 (Fo.len tk) z3) = w6 at t0 t1 t2 Hbe HOe
    have hw6' : ((wU.setCell { block := w.heap.size + 1, off := 0 } (.bool tv)).setCell { block := w.heap.size + 1, off := 1 } (.int .i64 ti)).setCell { block := w.heap.size + 1, off := 2 } (.slice z1 (Fo.len tk) z3) = w6 := hw6
    rw [hw6']
    clear hw6 hw6' e0 e1 e2 ef hcur hcurS g0 g1 g2 r0 r1 r2 rf
    simp only [Nat.zero_add] at t1 t2
    go_wp2_with fail
    refine bodyPost_ret (v := .agg #[.bool tv, .int .i64 ti, .slice z1 (Fo.len tk) z3]) (by simp [results, Tryd.results10, go_sem, t0, t1, t2]) rfl ?_
    unfold DownPost
    rw [← Ht.out]
    exact ⟨z1, z3, rfl, HOe.out, Hbe.out⟩
set_option maxRecDepth 100000 in
set_option maxHeartbeats 4000000 in
theorem rewriteP_any {s : List Int} (h6 : s.length ≤ 6) {us : List Lt} (hus : Uns s us) (h8 : us.length ≤ 8) (hpos : ∀ u ∈ us, u.1 = false) (k : Cl) (a uv : Value) (w : World) (hS : CIn w k a) (hC : CsIn w (us.map fun u => [u]) uv) (hc : SmC s k) (h4 : k.length ≤ 4) :
    Calls Tryd.prog 15 #[a, uv] w (RwPost us k w) := by
  obtain ⟨a1, c1, b1, o1, rfl, had1, hlc1, hcm1, hF1⟩ := hS
  unfold maxLen at hcm1
  have HF1 := hide hF1
  have Hc := hide hc
  have Hl := hide (lesseners_any hus h8 uv w hC hpos)
  have Hdn := hide (fun (x z : Bool × Int) (y zk : Fo) (av bv : Value) (w' : World) (hz : (z, zk) = downT us (x, y)) (hS : SIn w' y av) (hs : Sm s (x, y)) (hBy : ByIn w' (byL us) bv) => down_call h6 hus hz hS hs hBy)
  obtain ⟨nc, hnc⟩ : ∃ nc, nc = rwC us k := ⟨_, rfl⟩
  have hd : downC us k = k.map (mapL (downT us)) := rfl
  have Hn : Hid (∀ (v : Value) (w1 : World), CIn w1 (k.map (mapL (downT us))) v → Calls Tryd.prog 30 #[v] w1 fun e w' => ∃ v, e = .returned (.tuple #[v, .int .i64 nc.1]) ∧ CIn w' nc.2 v ∧ Below w1.heap.size w1 w') := by
    intro v w1 hO
    rw [hnc, rwC, hd]
    exact norm_anyX _ _ _ hO (down_gx h6 hus hc h4)
  unfold RwPost
  rw [← hnc]
  obtain ⟨u1, u2, u3, rfl⟩ : ∃ v1 v2 v3, uv = .slice v1 v2 v3 := by
    obtain ⟨v1, v3, _, _, h, -, -, -, -⟩ := hC
    exact ⟨_, _, _, h⟩
  clear hnc hd hF1 hc hus hpos hC
  obtain ⟨iL, hi, hz0, hz1, hz2⟩ := info_parts Tryd.info39
  have hmk := fun w : World => run_make (P := Tryd.prog) w 25 39 iL _ Tryd.underlying25 hi hz0 .i64 .i64 (k.length : Int) (k.length : Int) (by omega) (by omega) (by rw [hz2]; omega) (by omega)
  rw [hz1] at hmk
  simp only [Int.toNat_natCast] at hmk
  go_enter Tryd.func15, Tryd.ntmps15
  go_wp2_with fail
  refine Hl.out.mono ?_
  rintro e W1 ⟨bv, rfl, hBy, hB1⟩
  have HBy := hide hBy
  have HB1 := hide hB1
  obtain ⟨y1, y2, y3, rfl⟩ := by_slice hBy
  clear hB1 hBy
  go_wp2_with fail
  clear hmk hi hz0 hz1 hz2
  have H0 : Hid (MkRel W1.heap.size W1 (k.map (mapL (downT us))) 0 (W1.alloc (.cells (madeCells #[.bool false, .bool false, .int .i64 0, .slice none 0 0, .bool false, .int .i64 0, .slice none 0 0] (k.length * 7)) 39))) := by
    have := mk_start (W2 := W1) (T := k.map (mapL (downT us))) (z := #[.bool false, .bool false, .int .i64 0, .slice none 0 0, .bool false, .int .i64 0, .slice none 0 0])
    rw [List.length_map] at this
    exact this
  go_loopw [17] (fun i wr => ∃ j : Nat, j ≤ k.length ∧ i = .int .i64 j ∧ MkRel W1.heap.size W1 (k.map (mapL (downT us))) j wr) (fun i _ => k.length - (intOf i).toNat)
  case atStart => exact ⟨0, Nat.zero_le _, rfl, H0.out⟩
  case round =>
    obtain ⟨j, hj, rfl, hR⟩ := hrel
    have HR := hide hR
    obtain ⟨hB, hT, hsz, -⟩ := hR
    have hBw : Below w.heap.size w wr := below_step HB1.out hB
    have HB1r := hide hB
    by_cases hlt : j < k.length
    · have hlt' : (j : Int) < (k.length : Int) := by omega
      have hj0 : (0 : Int) ≤ (j : Int) := by omega
      obtain ⟨⟨yn, ⟨⟨yv, yi⟩, yk⟩, ⟨yv', yi'⟩, yk'⟩, hy⟩ : ∃ y, k[j]? = some y := ⟨k[j]'hlt, by simp⟩
      obtain ⟨p0, p1, p2, ⟨u3', p3, hA⟩, p4, p5, u6, p6, hD⟩ := (HF1.out.below hBw).at hy
      have ha1 : a1 = some ⟨b1, o1, none⟩ := had1 (by omega)
      subst ha1
      have HA := hide hA
      have HD := hide hD
      obtain ⟨ya, yc, _, _, rfl, -, -, -, -⟩ := hA
      obtain ⟨za, zc, _, _, rfl, -, -, -, -⟩ := hD
      have Hny := hide (Hc.out _ (List.mem_of_getElem? hy))
      obtain ⟨⟨⟨tv, ti⟩, tk⟩, ht⟩ : ∃ t, t = downT us ((yv, yi), yk) := ⟨_, rfl⟩
      obtain ⟨⟨⟨tv', ti'⟩, tk'⟩, ht'⟩ : ∃ t, t = downT us ((yv', yi'), yk') := ⟨_, rfl⟩
      have Hy2 : Hid ((k.map (mapL (downT us)))[j]? = some (yn, ((tv, ti), tk), ((tv', ti'), tk'))) := by rw [Hid, List.getElem?_map, hy, ht, ht']; rfl
      have hT' : There wr W1.heap.size (k.length * 7) := by rw [List.length_map] at hT; exact hT
      have hfz : ∀ i, i < 7 → (∃ v, wr.cell? ⟨W1.heap.size, j * 7 + i, none⟩ = some v) ∧ wr.frozen? ⟨W1.heap.size, j * 7 + i, none⟩ = false := fun i hi => hT' _ (by omega)
      have Hfz := hide hfz
      have Hc1 := hide (fun (w' : World) (hb : Below wr.heap.size wr w') => Hdn.out (yv, yi) (tv, ti) yk tk (.slice ya (Fo.len yk) yc) (.slice y1 y2 y3) w' ht (HA.out.below hb) Hny.out.1 (HBy.out.below (below_step hB hb)))
      have Hc2 := hide (fun (w' : World) (hb : Below wr.heap.size wr w') => Hdn.out (yv', yi') (tv', ti') yk' tk' (.slice za (Fo.len yk') zc) (.slice y1 y2 y3) w' ht' (HD.out.below hb) Hny.out.2 (HBy.out.below (below_step hB hb)))
      clear hy had1 hT hT' ht ht' hfz hB
      simp only at *
      go_upto_region 6 with fail
      generalize hwa : wr.alloc (.cells #[.bool yn, .bool yv, .int .i64 yi, .slice ya (Fo.len yk) yc, .bool yv', .int .i64 yi', .slice za (Fo.len yk') zc] 39) = wa
      obtain ⟨g0, g1, g2, g3, g4, g5, g6, -, hba, hsa⟩ := lit_cells (T := 39) (x0 := .bool yn) (w := wr) (wr := wa) (x1 := .bool yv) (x2 := .int .i64 yi) (x3 := .slice ya (Fo.len yk) yc) (x4 := .bool yv') (x5 := .int .i64 yi') (x6 := .slice za (Fo.len yk') zc) (by rw [← hwa]; exact Below.refl _ _)
      clear hwa
      have hcur : Below wa.heap.size wa wa.drew := (Below.refl _ _).drew
      clear p0 p1 p2 p3 p4 p5 p6
      have hgz : W1.heap.size < wr.heap.size := by omega
      have hne : wr.heap.size ≠ W1.heap.size := by omega
      go_region_held3 (fun w' => w'.cell? ⟨wr.heap.size, 0, none⟩ = some (.bool yn) ∧ w'.cell? ⟨wr.heap.size, 1, none⟩ = some (.bool yv) ∧ w'.cell? ⟨wr.heap.size, 2, none⟩ = some (.int .i64 yi) ∧ w'.cell? ⟨wr.heap.size, 3, none⟩ = some (.slice ya (Fo.len yk) yc) ∧ w'.cell? ⟨wr.heap.size, 4, none⟩ = some (.bool yv') ∧ w'.cell? ⟨wr.heap.size, 5, none⟩ = some (.int .i64 yi') ∧ w'.cell? ⟨wr.heap.size, 6, none⟩ = some (.slice za (Fo.len yk') zc))
        (first
          | (with_reducible exact ⟨grow_cell hcur _ _ g0, grow_cell hcur _ _ g1, grow_cell hcur _ _ g2, grow_cell hcur _ _ g3, grow_cell hcur _ _ g4, grow_cell hcur _ _ g5, grow_cell hcur _ _ g6⟩)
          | (with_reducible exact ⟨keep7 hne (grow_cell hcur _ _ g0), keep7 hne (grow_cell hcur _ _ g1), keep7 hne (grow_cell hcur _ _ g2), keep7 hne (grow_cell hcur _ _ g3), keep7 hne (grow_cell hcur _ _ g4), keep7 hne (grow_cell hcur _ _ g5), keep7 hne (grow_cell hcur _ _ g6)⟩)
          | go_keep)
        (first
          | (go_at_call 26; with_reducible refine (Hc1.out _ (below_step hba hcur)).mono ?_; rintro e wS ⟨z1, z3, rfl, hO1, hbS⟩; replace hcur := below_step hcur hbS; have HO1 := hide (And.intro hO1 hbS); clear hO1)
          | (go_at_call 26; with_reducible refine (Hc2.out _ (below_step hba hcur)).mono ?_; rintro e wU ⟨x1, x3, rfl, hO2, hbU⟩; have hcurS := hcur; replace hcur := below_step hcur hbU; have HO2 := hide (And.intro hO2 hbU); clear hO2; have hall := below_step hba hcur; obtain ⟨⟨t0, e0⟩, f0⟩ := Hfz.out 0 (by omega); obtain ⟨⟨t1, e1⟩, f1⟩ := Hfz.out 1 (by omega); obtain ⟨⟨t2, e2⟩, f2⟩ := Hfz.out 2 (by omega); obtain ⟨⟨t3, e3⟩, f3⟩ := Hfz.out 3 (by omega); obtain ⟨⟨t4, e4⟩, f4⟩ := Hfz.out 4 (by omega); obtain ⟨⟨t5, e5⟩, f5⟩ := Hfz.out 5 (by omega); obtain ⟨⟨t6, e6⟩, f6⟩ := Hfz.out 6 (by omega); replace e0 := grow_cell hall _ _ e0; replace e1 := grow_cell hall _ _ e1; replace e2 := grow_cell hall _ _ e2; replace e3 := grow_cell hall _ _ e3; replace e4 := grow_cell hall _ _ e4; replace e5 := grow_cell hall _ _ e5; replace e6 := grow_cell hall _ _ e6; replace f0 := (hall.frozen hgz).trans f0; replace f1 := (hall.frozen hgz).trans f1; replace f2 := (hall.frozen hgz).trans f2; replace f3 := (hall.frozen hgz).trans f3; replace f4 := (hall.frozen hgz).trans f4; replace f5 := (hall.frozen hgz).trans f5; replace f6 := (hall.frozen hgz).trans f6; simp only [Nat.add_zero] at e0 f0))
      all_goals
        have Hstep : Hid (MkRel W1.heap.size W1 (k.map (mapL (downT us))) (j + 1) (setL wU W1.heap.size (j * 7) (litV (yn, ((tv, ti), tk), ((tv', ti'), tk')) (.slice z1 (Fo.len tk) z3) (.slice x1 (Fo.len tk') x3)))) := by
          have s1 := hba.size
          have s2 := hcurS.size
          have s3 := HO1.out.2.size
          have s4 := HO2.out.2.size
          refine mk_step HR.out Hy2.out (below_step hba hcur) ?_ ?_
          · refine HO1.out.1.frame (fun q hq => ⟨?_, ?_⟩) (fun q i hq => HO2.out.2.cell ?_)
            · have q1' : wa.heap.size ≤ q := hq.1
              omega
            · have s4' : wS.heap.size ≤ wU.heap.size := s4
              have := hq.2
              omega
            · exact hq.2
          · refine HO2.out.1.frame (fun q hq => ⟨?_, hq.2⟩) (fun _ _ _ => rfl)
            have q1' : wS.heap.size ≤ q := hq.1
            omega
        go_wp2_with fail
        go_roundw
        case rel => exact ⟨j + 1, by omega, by go_num, Hstep.out⟩
        case measure => simp [intOf]; omega
    · have hje : j = k.length := by omega
      subst hje
      have Hfin : Hid (CIn wr (k.map (mapL (downT us))) (.slice (some ⟨W1.heap.size, 0, none⟩) k.length k.length)) := by
        have := HR.out
        rw [show MkRel W1.heap.size W1 (k.map (mapL (downT us))) k.length wr = MkRel W1.heap.size W1 (k.map (mapL (downT us))) (k.map (mapL (downT us))).length wr by rw [List.length_map]] at this
        have := mk_end this (by rw [List.length_map]; unfold maxLen; omega)
        rw [List.length_map] at this
        exact this
      have Hn1 := hide (Hn.out _ _ Hfin.out)
      have HBw := hide hBw
      clear had1 hT hB hBw Hn
      go_wp2_with fail
      with_reducible refine Hn1.out.mono ?_
      rintro e w2 ⟨v2, rfl, hC2, hb2⟩
      have HC2 := hide hC2
      obtain ⟨q1, q3, rfl⟩ := slice_of_cl hC2
      have HB2 := hide (below_step HBw.out hb2)
      clear hC2 hb2
      go_wp2_with fail
      go_ret2
      exact ⟨_, rfl, HC2.out, HB2.out⟩
end Go.Proofs.YtlgnpiphaeoeiadDoor

namespace Go.Proofs.YtlgnpiphaeoeiadDoor
open Go.RowKit Go.Deep Go.ChangeShapes Go.WideShapes
attribute [local go_sem ↓] Go.wp_at_zero Go.wp_at_succ
def covD (d : Cl) : Cl → Sb → Bool
  | [], _ => true
  | x :: c, s => (covS x d s).any (covD d c)
theorem covN_any {d : Cl} : ∀ {c : Cl} {now : List Sb}, (!(covN d c now).isEmpty) = now.any (covD d c)
  | [], now => by
    cases now with
    | nil => rfl
    | cons s l => simp [covN, covD]
  | x :: c, now => by
    rw [covN, covN_any (c := c), List.any_flatMap]
    rfl
theorem covT_is {c d : Cl} : covT c d = covD d c [] := by
  unfold covT
  rw [covN_any]
  simp
def litD (d c : Cl) (x : Lt) (s : Sb) (y : Lt) : Bool := ((wayC x y s).toList ++ (wayC x (turnL true y) s).toList).any (covD d c)
def oneD (d c : Cl) (x : Lt) (s : Sb) (y : Lt) : Bool := match wayC x y s with
  | some s' => covD d c s'
  | none => false
theorem litD_is {d c : Cl} {x : Lt} {s : Sb} {y : Lt} : litD d c x s y = (oneD d c x s y || oneD d c x s (turnL true y)) := by
  unfold litD oneD
  rw [List.any_append]
  cases wayC x y s <;> cases wayC x (turnL true y) s <;> simp
theorem covD_cons {d c : Cl} {x : Lt} {s : Sb} : covD d (x :: c) s = d.any (litD d c x s) := by
  rw [covD, covS, List.any_flatMap]
  rfl
def BecPost (p l : Lt) (s : Sb) (w : World) (e : Ending) (w' : World) : Prop := ∃ (z1 : Option Addr) (m z3 : Nat) (ok : Bool), e = .returned (.tuple #[.slice z1 m z3, .bool ok]) ∧ (ok = false → wayC p l s = none) ∧ (ok = true → ∃ s', wayC p l s = some s' ∧ m = s'.length ∧ SubIn w' s' (.slice z1 m z3)) ∧ Below w.heap.size w w'
theorem gd_args {t : Tm} (h : Gd t) : ∀ y ∈ t.2.list, Gd y := fun y hy => by
  obtain ⟨⟨v, n⟩, k⟩ := t
  cases v with
  | true => rw [h.ok.1 rfl] at hy; simp [Fo.list] at hy
  | false => exact gd_mem h rfl hy
theorem ext_gd {t u : Tm} {s s' : Sb} (hu : Gd u) (hs : ∀ p ∈ s, Gd p.2) (h : extT s t u = some s') : ∀ p ∈ s', Gd p.2 := extT_all (P := Gd) (fun _ => gd_args) hu hs h
set_option maxRecDepth 100000 in
set_option maxHeartbeats 2000000 in
theorem become_any (p l : Lt) (s : Sb) (vs : Value) (a1 d1 b1 e1 : Option Addr) (a3 d3 b3 e3 : Nat) (w : World) (hV : SubIn w s vs) (hs : ∀ q ∈ s, Gd q.2) (hA : SIn w p.2.1.2 (.slice a1 (Fo.len p.2.1.2) a3)) (hD : SIn w p.2.2.2 (.slice d1 (Fo.len p.2.2.2) d3))
    (hB : SIn w l.2.1.2 (.slice b1 (Fo.len l.2.1.2) b3)) (hE : SIn w l.2.2.2 (.slice e1 (Fo.len l.2.2.2) e3)) (hp : tszR p.2.1.2 ≤ 12 ∧ tszR p.2.2.2 ≤ 12) (hl : Gd l.2.1 ∧ Gd l.2.2) (hlen : s.length ≤ 1000) :
    Calls Tryd.prog 38 #[vs, litA p (.slice a1 (Fo.len p.2.1.2) a3) (.slice d1 (Fo.len p.2.2.2) d3), litA l (.slice b1 (Fo.len l.2.1.2) b3) (.slice e1 (Fo.len l.2.2.2) e3)] w (BecPost p l s w) := by
  obtain ⟨pn, ⟨⟨pv, pi⟩, pk⟩, ⟨pv', pi'⟩, pk'⟩ := p
  obtain ⟨ln, ⟨⟨lv, li⟩, lk⟩, ⟨lv', li'⟩, lk'⟩ := l
  simp only at *
  have HV := hide hV
  have Hs := hide hs
  have HA := hide hA
  have HD := hide hD
  have HB := hide hB
  have HE := hide hE
  obtain ⟨v1, v3, rfl⟩ := slice_of_sub hV
  clear hA hD hB hE hs hV
  go_enter Tryd.func38, Tryd.ntmps38
  go_upto_region 1 with fail
  generalize hW1 : (w.alloc (.cells #[.bool pn, .bool pv, .int .i64 pi, .slice a1 (Fo.len pk) a3, .bool pv', .int .i64 pi', .slice d1 (Fo.len pk') d3] 39)).alloc (.cells #[.bool ln, .bool lv, .int .i64 li, .slice b1 (Fo.len lk) b3, .bool lv', .int .i64 li', .slice e1 (Fo.len lk') e3] 39) = W1
  have hB1 : Below w.heap.size w W1 := by rw [← hW1]; exact (below_alloc _ _).alloc (by simp) _
  have hR1 : RowAt W1 w.heap.size (litV (pn, ((pv, pi), pk), ((pv', pi'), pk')) (.slice a1 (Fo.len pk) a3) (.slice d1 (Fo.len pk') d3)) := by
    rw [← hW1]
    exact (RowAt.new w #[.bool pn, .bool pv, .int .i64 pi, .slice a1 (Fo.len pk) a3, .bool pv', .int .i64 pi', .slice d1 (Fo.len pk') d3] 39).below (below_alloc _ _)
  have hR2 : RowAt W1 (w.heap.size + 1) (litV (ln, ((lv, li), lk), ((lv', li'), lk')) (.slice b1 (Fo.len lk) b3) (.slice e1 (Fo.len lk') e3)) := by
    rw [← hW1]
    have := RowAt.new (w.alloc (.cells #[.bool pn, .bool pv, .int .i64 pi, .slice a1 (Fo.len pk) a3, .bool pv', .int .i64 pi', .slice d1 (Fo.len pk') d3] 39)) #[.bool ln, .bool lv, .int .i64 li, .slice b1 (Fo.len lk) b3, .bool lv', .int .i64 li', .slice e1 (Fo.len lk') e3] 39
    rw [World.size_alloc] at this
    exact this
  have g0 : W1.cell? ⟨w.heap.size, 0, none⟩ = some (.bool pn) := hR1 0 _ rfl
  have g1 : W1.cell? ⟨w.heap.size, 1, none⟩ = some (.bool pv) := hR1 1 _ rfl
  have g2 : W1.cell? ⟨w.heap.size, 2, none⟩ = some (.int .i64 pi) := hR1 2 _ rfl
  have g3 : W1.cell? ⟨w.heap.size, 3, none⟩ = some (.slice a1 (Fo.len pk) a3) := hR1 3 _ rfl
  have g4 : W1.cell? ⟨w.heap.size, 4, none⟩ = some (.bool pv') := hR1 4 _ rfl
  have g5 : W1.cell? ⟨w.heap.size, 5, none⟩ = some (.int .i64 pi') := hR1 5 _ rfl
  have g6 : W1.cell? ⟨w.heap.size, 6, none⟩ = some (.slice d1 (Fo.len pk') d3) := hR1 6 _ rfl
  have f0 : W1.cell? ⟨w.heap.size + 1, 0, none⟩ = some (.bool ln) := hR2 0 _ rfl
  have f1 : W1.cell? ⟨w.heap.size + 1, 1, none⟩ = some (.bool lv) := hR2 1 _ rfl
  have f2 : W1.cell? ⟨w.heap.size + 1, 2, none⟩ = some (.int .i64 li) := hR2 2 _ rfl
  have f3 : W1.cell? ⟨w.heap.size + 1, 3, none⟩ = some (.slice b1 (Fo.len lk) b3) := hR2 3 _ rfl
  have f4 : W1.cell? ⟨w.heap.size + 1, 4, none⟩ = some (.bool lv') := hR2 4 _ rfl
  have f5 : W1.cell? ⟨w.heap.size + 1, 5, none⟩ = some (.int .i64 li') := hR2 5 _ rfl
  have f6 : W1.cell? ⟨w.heap.size + 1, 6, none⟩ = some (.slice e1 (Fo.len lk') e3) := hR2 6 _ rfl
  have HB1 := hide hB1
  clear hW1 hR1 hR2 hB1
  by_cases hneg : ln = pn
  · subst hneg
    have Hwc : Hid (wayC (ln, ((pv, pi), pk), ((pv', pi'), pk')) (ln, ((lv, li), lk), ((lv', li'), lk')) s = (extT s ((pv, pi), pk) ((lv, li), lk)).bind fun a => extT a ((pv', pi'), pk') ((lv', li'), lk')) := if_pos rfl
    have Hm1 := hide (more_any s _ (pv, pi) pk _ (lv, li) lk _ W1 (HV.out.below HB1.out) (fun q hq => ⟨(Hs.out q hq).nar, (Hs.out q hq).ok⟩) (HA.out.below HB1.out) (HB.out.below HB1.out) hl.1.ok hl.1.nar (by have := hp.1; omega))
    go_wp2_with fail
    refine Hm1.out.mono ?_
    rintro e' w5 ⟨hb5, t1, t2, t3, ok, rfl, hno, hyes⟩
    have HB5 := hide (below_step HB1.out hb5)
    cases ok
    · have Hn : Hid (wayC (ln, ((pv, pi), pk), ((pv', pi'), pk')) (ln, ((lv, li), lk), ((lv', li'), lk')) s = none) := by rw [Hid, Hwc.out, (hno rfl).1]; rfl
      clear hno hyes hb5
      go_wp2_with fail
      go_ret2
      exact ⟨none, 0, 0, false, rfl, fun _ => Hn.out, fun e => by (cases e), HB5.out⟩
    · obtain ⟨sa, hex, rfl, hSa⟩ := hyes rfl
      have hsal := extT_len hex
      simp only at hsal
      have Hex := hide hex
      have Hgs := hide (ext_gd hl.1 Hs.out hex)
      have Hm2 := hide (more_any sa _ (pv', pi') pk' _ (lv', li') lk' _ w5 hSa (fun q hq => ⟨(Hgs.out q hq).nar, (Hgs.out q hq).ok⟩) (HD.out.below HB5.out) (HE.out.below HB5.out) hl.2.ok hl.2.nar (by have := hp.1; have := hp.2; omega))
      replace f4 := grow_cell hb5 _ _ f4
      replace f5 := grow_cell hb5 _ _ f5
      replace f6 := grow_cell hb5 _ _ f6
      replace g4 := grow_cell hb5 _ _ g4
      replace g5 := grow_cell hb5 _ _ g5
      replace g6 := grow_cell hb5 _ _ g6
      clear hno hyes hex hSa hb5 f0 f1 f2 f3 g0 g1 g2 g3
      go_wp2_with fail
      refine Hm2.out.mono ?_
      rintro e' w6 ⟨hb6, r1, r2, r3, ok, rfl, hno, hyes⟩
      have HB6 := hide (below_step HB5.out hb6)
      have Hno : Hid (ok = false → wayC (ln, ((pv, pi), pk), ((pv', pi'), pk')) (ln, ((lv, li), lk), ((lv', li'), lk')) s = none) := fun h => by rw [Hwc.out, Hex.out, Option.bind_some]; exact (hno h).1
      have Hyes : Hid (ok = true → ∃ s', wayC (ln, ((pv, pi), pk), ((pv', pi'), pk')) (ln, ((lv, li), lk), ((lv', li'), lk')) s = some s' ∧ r2 = s'.length ∧ SubIn w6 s' (.slice r1 r2 r3)) := fun h => by rw [Hwc.out, Hex.out, Option.bind_some]; exact hyes h
      clear hno hyes hb6 f4 f5 f6 g4 g5 g6
      go_wp2_with fail
      go_ret2
      exact ⟨r1, r2, r3, ok, rfl, Hno.out, Hyes.out, HB6.out⟩
  · have Hn : Hid (wayC (pn, ((pv, pi), pk), ((pv', pi'), pk')) (ln, ((lv, li), lk), ((lv', li'), lk')) s = none) := by
      rw [Hid, wayC, if_neg (by simpa using hneg)]
    rcases (by cases ln <;> cases pn <;> simp_all : (ln = true ∧ pn = false) ∨ (ln = false ∧ pn = true)) with ⟨rfl, rfl⟩ | ⟨rfl, rfl⟩
    all_goals
      clear hneg
      go_wp2_with fail
      go_ret2
      exact ⟨none, 0, 0, false, rfl, fun _ => Hn.out, fun e => by (cases e), HB1.out⟩
end Go.Proofs.YtlgnpiphaeoeiadDoor
