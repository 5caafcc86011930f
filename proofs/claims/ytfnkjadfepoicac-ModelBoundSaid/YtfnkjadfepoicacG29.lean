/- The document's turn: a literal the other way, or not. -/
import Derived.Test.YtfnkjadfepoicacG28
import Derived.Test.YtfnkjadfepoicacG19
import Derived.Test.YtfnkjadfepoicacG23
import Derived.Test.YtfnkjadfepoicacG27
import Derived.Test.YtfnkjadfepoicacG16
import Derived.Test.YtfnkjadfepoicacG15
namespace Go.Proofs.Ytfnkjadfepoicac
open Go.RowKit Go.Deep Go.ChangeShapes Go.WideShapes

def turnL (yes : Bool) (l : Lt) : Lt := if yes then (l.1, l.2.2, l.2.1) else l

set_option maxRecDepth 100000 in
set_option maxHeartbeats 1000000 in
theorem turnR_any (l : Lt) (yes : Bool) (a1 d1 : Option Addr) (a2 a3 d2 d3 : Nat) (w : World) :
    Calls Try.prog 46 #[litA l (.slice a1 a2 a3) (.slice d1 d2 d3), .bool yes] w fun e w' => e = .returned (litA (turnL yes l) (if yes then .slice d1 d2 d3 else .slice a1 a2 a3) (if yes then .slice a1 a2 a3 else .slice d1 d2 d3)) ∧ Below w.heap.size w w' := by
  obtain ⟨ln, ⟨⟨lv, li⟩, lk⟩, ⟨lv', li'⟩, lk'⟩ := l
  cases yes
  · go_enter Try.func46, Try.ntmps46
    go_upto_region 1 with fail
    generalize hW1 : (w.alloc (.cells #[.bool ln, .bool lv, .int .i64 li, .slice a1 a2 a3, .bool lv', .int .i64 li', .slice d1 d2 d3] 37)).alloc (.cells #[.bool false, .bool false, .int .i64 0, .slice none 0 0, .bool false, .int .i64 0, .slice none 0 0] 37) = W1
    have hB1 : Below w.heap.size w W1 := by rw [← hW1]; exact (below_alloc _ _).alloc (by simp) _
    have g0 : W1.cell? ⟨w.heap.size, 0, none⟩ = some (.bool ln) := by rw [← hW1, World.cell?_alloc_lt _ _ _ (by simp)]; exact new_cell rfl
    have g1 : W1.cell? ⟨w.heap.size, 1, none⟩ = some (.bool lv) := by rw [← hW1, World.cell?_alloc_lt _ _ _ (by simp)]; exact new_cell rfl
    have g2 : W1.cell? ⟨w.heap.size, 2, none⟩ = some (.int .i64 li) := by rw [← hW1, World.cell?_alloc_lt _ _ _ (by simp)]; exact new_cell rfl
    have g3 : W1.cell? ⟨w.heap.size, 3, none⟩ = some (.slice a1 a2 a3) := by rw [← hW1, World.cell?_alloc_lt _ _ _ (by simp)]; exact new_cell rfl
    have g4 : W1.cell? ⟨w.heap.size, 4, none⟩ = some (.bool lv') := by rw [← hW1, World.cell?_alloc_lt _ _ _ (by simp)]; exact new_cell rfl
    have g5 : W1.cell? ⟨w.heap.size, 5, none⟩ = some (.int .i64 li') := by rw [← hW1, World.cell?_alloc_lt _ _ _ (by simp)]; exact new_cell rfl
    have g6 : W1.cell? ⟨w.heap.size, 6, none⟩ = some (.slice d1 d2 d3) := by rw [← hW1, World.cell?_alloc_lt _ _ _ (by simp)]; exact new_cell rfl
    have r0 : W1.cell? ⟨w.heap.size + 1, 0, none⟩ = some (.bool false) := by rw [← hW1]; exact new_cell (World.size_alloc _ _)
    have r1 : W1.cell? ⟨w.heap.size + 1, 1, none⟩ = some (.bool false) := by rw [← hW1]; exact new_cell (World.size_alloc _ _)
    have r2 : W1.cell? ⟨w.heap.size + 1, 2, none⟩ = some (.int .i64 0) := by rw [← hW1]; exact new_cell (World.size_alloc _ _)
    have r3 : W1.cell? ⟨w.heap.size + 1, 3, none⟩ = some (.slice none 0 0) := by rw [← hW1]; exact new_cell (World.size_alloc _ _)
    have r4 : W1.cell? ⟨w.heap.size + 1, 4, none⟩ = some (.bool false) := by rw [← hW1]; exact new_cell (World.size_alloc _ _)
    have r5 : W1.cell? ⟨w.heap.size + 1, 5, none⟩ = some (.int .i64 0) := by rw [← hW1]; exact new_cell (World.size_alloc _ _)
    have r6 : W1.cell? ⟨w.heap.size + 1, 6, none⟩ = some (.slice none 0 0) := by rw [← hW1]; exact new_cell (World.size_alloc _ _)
    have rf : ∀ i, W1.frozen? ⟨w.heap.size + 1, i, none⟩ = false := fun i => by rw [← hW1]; exact new_frozen (World.size_alloc _ _)
    clear hW1
    go_wp2_with fail
    generalize hw3 : (((((((W1.setCell ⟨w.heap.size + 1, 0, none⟩ (.bool ln)).setCell ⟨w.heap.size + 1, 1, none⟩ (.bool lv)).setCell ⟨w.heap.size + 1, 2, none⟩ (.int .i64 li)).setCell ⟨w.heap.size + 1, 3, none⟩ (.slice a1 a2 a3)).setCell ⟨w.heap.size + 1, 4, none⟩ (.bool lv')).setCell ⟨w.heap.size + 1, 5, none⟩ (.int .i64 li')).setCell ⟨w.heap.size + 1, 6, none⟩ (.slice d1 d2 d3)) = w3
    have e3 : w3 = setL W1 (w.heap.size + 1) 0 [.bool ln, .bool lv, .int .i64 li, .slice a1 a2 a3, .bool lv', .int .i64 li', .slice d1 d2 d3] := hw3.symm
    have hb3 : Below w.heap.size w w3 := by rw [e3]; exact setL_below (by omega) hB1
    have at6 := setL_at (b := w.heap.size + 1) (xs := [.bool ln, .bool lv, .int .i64 li, .slice a1 a2 a3, .bool lv', .int .i64 li', .slice d1 d2 d3]) (o := 0) (w := W1) (fun i hi => by
      simp at hi
      rw [Nat.zero_add]
      rcases i with _ | _ | _ | _ | _ | _ | _ | i
      · exact ⟨_, r0⟩
      · exact ⟨_, r1⟩
      · exact ⟨_, r2⟩
      · exact ⟨_, r3⟩
      · exact ⟨_, r4⟩
      · exact ⟨_, r5⟩
      · exact ⟨_, r6⟩
      · omega)
    have k0 : w3.cell? ⟨w.heap.size + 1, 0, none⟩ = some (.bool ln) := by rw [e3]; exact at6 0 _ rfl
    have k1 : w3.cell? ⟨w.heap.size + 1, 1, none⟩ = some (.bool lv) := by rw [e3]; exact at6 1 _ rfl
    have k2 : w3.cell? ⟨w.heap.size + 1, 2, none⟩ = some (.int .i64 li) := by rw [e3]; exact at6 2 _ rfl
    have k3 : w3.cell? ⟨w.heap.size + 1, 3, none⟩ = some (.slice a1 a2 a3) := by rw [e3]; exact at6 3 _ rfl
    have k4 : w3.cell? ⟨w.heap.size + 1, 4, none⟩ = some (.bool lv') := by rw [e3]; exact at6 4 _ rfl
    have k5 : w3.cell? ⟨w.heap.size + 1, 5, none⟩ = some (.int .i64 li') := by rw [e3]; exact at6 5 _ rfl
    have k6 : w3.cell? ⟨w.heap.size + 1, 6, none⟩ = some (.slice d1 d2 d3) := by rw [e3]; exact at6 6 _ rfl
    clear at6 e3 hw3
    exact bodyPost_ret (v := .agg #[.bool ln, .bool lv, .int .i64 li, .slice a1 a2 a3, .bool lv', .int .i64 li', .slice d1 d2 d3]) (by simp [results, Try.results46, go_sem, k0, k1, k2, k3, k4, k5, k6]) rfl ⟨rfl, hb3⟩
  · go_enter Try.func46, Try.ntmps46
    go_upto_region 1 with fail
    generalize hW1 : (w.alloc (.cells #[.bool ln, .bool lv, .int .i64 li, .slice a1 a2 a3, .bool lv', .int .i64 li', .slice d1 d2 d3] 37)).alloc (.cells #[.bool false, .bool false, .int .i64 0, .slice none 0 0, .bool false, .int .i64 0, .slice none 0 0] 37) = W1
    have hB1 : Below w.heap.size w W1 := by rw [← hW1]; exact (below_alloc _ _).alloc (by simp) _
    have g0 : W1.cell? ⟨w.heap.size, 0, none⟩ = some (.bool ln) := by rw [← hW1, World.cell?_alloc_lt _ _ _ (by simp)]; exact new_cell rfl
    have g1 : W1.cell? ⟨w.heap.size, 1, none⟩ = some (.bool lv) := by rw [← hW1, World.cell?_alloc_lt _ _ _ (by simp)]; exact new_cell rfl
    have g2 : W1.cell? ⟨w.heap.size, 2, none⟩ = some (.int .i64 li) := by rw [← hW1, World.cell?_alloc_lt _ _ _ (by simp)]; exact new_cell rfl
    have g3 : W1.cell? ⟨w.heap.size, 3, none⟩ = some (.slice a1 a2 a3) := by rw [← hW1, World.cell?_alloc_lt _ _ _ (by simp)]; exact new_cell rfl
    have g4 : W1.cell? ⟨w.heap.size, 4, none⟩ = some (.bool lv') := by rw [← hW1, World.cell?_alloc_lt _ _ _ (by simp)]; exact new_cell rfl
    have g5 : W1.cell? ⟨w.heap.size, 5, none⟩ = some (.int .i64 li') := by rw [← hW1, World.cell?_alloc_lt _ _ _ (by simp)]; exact new_cell rfl
    have g6 : W1.cell? ⟨w.heap.size, 6, none⟩ = some (.slice d1 d2 d3) := by rw [← hW1, World.cell?_alloc_lt _ _ _ (by simp)]; exact new_cell rfl
    have r0 : W1.cell? ⟨w.heap.size + 1, 0, none⟩ = some (.bool false) := by rw [← hW1]; exact new_cell (World.size_alloc _ _)
    have r1 : W1.cell? ⟨w.heap.size + 1, 1, none⟩ = some (.bool false) := by rw [← hW1]; exact new_cell (World.size_alloc _ _)
    have r2 : W1.cell? ⟨w.heap.size + 1, 2, none⟩ = some (.int .i64 0) := by rw [← hW1]; exact new_cell (World.size_alloc _ _)
    have r3 : W1.cell? ⟨w.heap.size + 1, 3, none⟩ = some (.slice none 0 0) := by rw [← hW1]; exact new_cell (World.size_alloc _ _)
    have r4 : W1.cell? ⟨w.heap.size + 1, 4, none⟩ = some (.bool false) := by rw [← hW1]; exact new_cell (World.size_alloc _ _)
    have r5 : W1.cell? ⟨w.heap.size + 1, 5, none⟩ = some (.int .i64 0) := by rw [← hW1]; exact new_cell (World.size_alloc _ _)
    have r6 : W1.cell? ⟨w.heap.size + 1, 6, none⟩ = some (.slice none 0 0) := by rw [← hW1]; exact new_cell (World.size_alloc _ _)
    have rf : ∀ i, W1.frozen? ⟨w.heap.size + 1, i, none⟩ = false := fun i => by rw [← hW1]; exact new_frozen (World.size_alloc _ _)
    clear hW1
    go_wp2_with fail
    generalize hw3 : (((((((W1.setCell ⟨w.heap.size + 1, 0, none⟩ (.bool ln)).setCell ⟨w.heap.size + 1, 1, none⟩ (.bool lv')).setCell ⟨w.heap.size + 1, 2, none⟩ (.int .i64 li')).setCell ⟨w.heap.size + 1, 3, none⟩ (.slice d1 d2 d3)).setCell ⟨w.heap.size + 1, 4, none⟩ (.bool lv)).setCell ⟨w.heap.size + 1, 5, none⟩ (.int .i64 li)).setCell ⟨w.heap.size + 1, 6, none⟩ (.slice a1 a2 a3)) = w3
    have e3 : w3 = setL W1 (w.heap.size + 1) 0 [.bool ln, .bool lv', .int .i64 li', .slice d1 d2 d3, .bool lv, .int .i64 li, .slice a1 a2 a3] := hw3.symm
    have hb3 : Below w.heap.size w w3 := by rw [e3]; exact setL_below (by omega) hB1
    have at6 := setL_at (b := w.heap.size + 1) (xs := [.bool ln, .bool lv', .int .i64 li', .slice d1 d2 d3, .bool lv, .int .i64 li, .slice a1 a2 a3]) (o := 0) (w := W1) (fun i hi => by
      simp at hi
      rw [Nat.zero_add]
      rcases i with _ | _ | _ | _ | _ | _ | _ | i
      · exact ⟨_, r0⟩
      · exact ⟨_, r1⟩
      · exact ⟨_, r2⟩
      · exact ⟨_, r3⟩
      · exact ⟨_, r4⟩
      · exact ⟨_, r5⟩
      · exact ⟨_, r6⟩
      · omega)
    have k0 : w3.cell? ⟨w.heap.size + 1, 0, none⟩ = some (.bool ln) := by rw [e3]; exact at6 0 _ rfl
    have k1 : w3.cell? ⟨w.heap.size + 1, 1, none⟩ = some (.bool lv') := by rw [e3]; exact at6 1 _ rfl
    have k2 : w3.cell? ⟨w.heap.size + 1, 2, none⟩ = some (.int .i64 li') := by rw [e3]; exact at6 2 _ rfl
    have k3 : w3.cell? ⟨w.heap.size + 1, 3, none⟩ = some (.slice d1 d2 d3) := by rw [e3]; exact at6 3 _ rfl
    have k4 : w3.cell? ⟨w.heap.size + 1, 4, none⟩ = some (.bool lv) := by rw [e3]; exact at6 4 _ rfl
    have k5 : w3.cell? ⟨w.heap.size + 1, 5, none⟩ = some (.int .i64 li) := by rw [e3]; exact at6 5 _ rfl
    have k6 : w3.cell? ⟨w.heap.size + 1, 6, none⟩ = some (.slice a1 a2 a3) := by rw [e3]; exact at6 6 _ rfl
    clear at6 e3 hw3
    exact bodyPost_ret (v := .agg #[.bool ln, .bool lv', .int .i64 li', .slice d1 d2 d3, .bool lv, .int .i64 li, .slice a1 a2 a3]) (by simp [results, Try.results46, go_sem, k0, k1, k2, k3, k4, k5, k6]) rfl ⟨rfl, hb3⟩

end Go.Proofs.Ytfnkjadfepoicac

/- The document's but: a clause without one literal. -/
namespace Go.Proofs.Ytfnkjadfepoicac
open Go.RowKit Go.Deep Go.ChangeShapes Go.WideShapes

def butC (c : Cl) (i : Nat) : Cl := c.take i ++ c.drop (i + 1)
theorem lits_ahead {n j c b o : Nat} (hj : j ≤ n) (hc : n ≤ c) (w : World) : (Instr.slice 28 (.slice (some ⟨b, o, none⟩) n c) none (some (.int .i64 (j : Int))) none).run Try.prog w = .ok (.slice (some ⟨b, o, none⟩) j c) w := by
  rw [run_slice_h (ht := by kernel_rfl) (h0 := by omega) (h2 := by omega)]
  have e : (sizeOf (Try.prog.elem 28)).run Try.prog w = .ok 7 w := by
    rw [show Try.prog.elem 28 = 37 by kernel_rfl]
    simp [go_sem]
  simp only [Result.andThen, sliced, e]
  simp [Addr.add]
theorem lits_behind {n j c b o : Nat} (hj : j ≤ n) (hc : n ≤ c) : ∃ ad : Addr, (∀ w : World, (Instr.slice 28 (.slice (some ⟨b, o, none⟩) n c) (some (.int .i64 (j : Int))) none none).run Try.prog w = .ok (.slice (some ad) (n - j) (c - j)) w) ∧ (j < n → ad = ⟨b, o + j * 7, none⟩) := by
  refine ⟨if c = j then ⟨b, o, none⟩ else ⟨b, o + j * 7, none⟩, fun w => ?_, fun h => by rw [if_neg (by omega)]⟩
  rw [run_slice_l (ht := by kernel_rfl) (h0 := by omega) (h1 := by omega)]
  have e : (sizeOf (Try.prog.elem 28)).run Try.prog w = .ok 7 w := by
    rw [show Try.prog.elem 28 = 37 by kernel_rfl]
    simp [go_sem]
  simp only [Result.andThen, sliced, e, Int.toNat_natCast]
  by_cases h : c = j
  · simp [h]
  · simp [h, Addr.add]
theorem lin_take {w : World} : ∀ {c : Cl} {b o : Nat} (i : Nat), LIn w c b o → LIn w (c.take i) b o
  | [], _, _, i, h => by simpa using h
  | _ :: _, _, _, 0, _ => trivial
  | _ :: _, _, _, i + 1, h => ⟨h.1, lin_take i h.2⟩
theorem lin_drop {w : World} : ∀ {c : Cl} {b o : Nat} (i : Nat), LIn w c b o → LIn w (c.drop i) b (o + i * 7)
  | [], _, _, i, h => by simp [LIn]
  | _ :: _, _, _, 0, h => by simpa using h
  | _ :: c, b, o, i + 1, h => by
    have := lin_drop i h.2
    rw [show o + 7 + i * 7 = o + (i + 1) * 7 by omega] at this
    simpa using this
/-- The literals of a row that is there, to be laid behind others. -/
theorem lits_cs {w : World} {c : Cl} {b o k : Nat} {ad : Addr} (h : LIn w c b o) (ha : 0 < c.length → ad = ⟨b, o, none⟩) : ∃ news, LC (fun q => q < w.heap.size) w c news ∧ ∀ w', Below w.heap.size w w' → Cs w' (.slice (some ad) c.length k) c.length 7 news := by
  obtain ⟨news, hl, hP, hc⟩ := lin_cells h
  refine ⟨news, hP, fun w' hb => ⟨_, k, rfl, hl, hP.onecell, fun e => (by cases e), fun ad' e j u hj => ?_⟩⟩
  cases e
  have hlt : j < news.length := (List.getElem?_eq_some_iff.1 hj).1
  have := ha (by omega)
  subst this
  rw [add_plain]
  exact grow_cell hb _ _ (hc j u hj)

set_option maxRecDepth 100000 in
set_option maxHeartbeats 2000000 in
theorem butR_any (c : Cl) (cv : Value) (i : Nat) (w : World) (hS : CIn w c cv) (hi : i < c.length) (hlen : c.length ≤ 1000000) :
    Calls Try.prog 44 #[cv, .int .i64 i] w fun e w' => ∃ v xs, e = .returned v ∧ OwnL w.heap.size (fun q => q < w.heap.size) w' (butC c i) v xs ∧ Below w.heap.size w w' := by
  obtain ⟨a1, c1, b1, o1, rfl, had1, hlc1, hcm1, hF1⟩ := hS
  unfold maxLen at hcm1
  have ha1 : a1 = some ⟨b1, o1, none⟩ := had1 (by omega)
  subst ha1
  obtain ⟨n1, L1, C1⟩ := lits_cs (c := c.take i) (k := c1) (ad := ⟨b1, o1, none⟩) (lin_take i hF1) (fun _ => rfl)
  obtain ⟨ad, hsl, hadd⟩ := lits_behind (n := c.length) (j := i + 1) (c := c1) (b := b1) (o := o1) (by omega) hlc1
  obtain ⟨n2, L2, C2⟩ := lits_cs (c := c.drop (i + 1)) (k := c1 - (i + 1)) (ad := ad) (lin_drop (i + 1) hF1) (fun h => hadd (by rw [List.length_drop] at h; omega))
  have hsa := fun w => lits_ahead (n := c.length) (j := i) (c := c1) (b := b1) (o := o1) (by omega) hlc1 w
  rw [List.length_take, Nat.min_eq_left (by omega)] at C1
  rw [List.length_drop] at C2
  have HL1 := hide L1
  have HC1 := hide C1
  have HL2 := hide L2
  have HC2 := hide C2
  have hi' : (i : Int) < (c.length : Int) := by omega
  have hsl' : ∀ w : World, (Instr.slice 28 (.slice (some ⟨b1, o1, none⟩) c.length c1) (some (.int .i64 ((i : Int) + 1))) none none).run Try.prog w = .ok (.slice (some ad) (c.length - (i + 1)) (c1 - (i + 1))) w := fun w => by
    have := hsl w
    rwa [show ((i + 1 : Nat) : Int) = (i : Int) + 1 by omega] at this
  obtain ⟨iL, hi, hz0, hz1, hz2⟩ := info_parts Try.info37
  have hwr : IntKind.i64.wrap ((i : Int) + 1) = (i : Int) + 1 := by rw [IntKind.wrap_i64]; omega
  have hi0 : (0 : Int) ≤ (i : Int) := by omega
  have hn1 : 0 + i ≤ maxLen := by unfold maxLen; omega
  have hn2 : (0 + i) * 88 ≤ 140737488355328 := by omega
  have hn3 : 0 + i + (c.length - (i + 1)) ≤ maxLen := by unfold maxLen; omega
  have hn4 : (0 + i + (c.length - (i + 1))) * 88 ≤ 140737488355328 := by omega
  have hb0 : Below w.heap.size w (w.drew.alloc (.cells #[] 37)) := (Below.refl _ _).drew.alloc (Nat.le_refl _) _
  have Hb0 := hide hb0
  have Hr0 : Hid ((w.drew.alloc (.cells #[] 37)).ownsRow w.heap.size 37 7 (.slice (some ⟨w.heap.size, 0, none⟩) 0 0) 0 []) := own_bare (heap_alloc_new w.drew _) (Nat.le_refl _)
  clear had1 hF1 L1 C1 L2 C2 hadd hsl hb0
  go_enter Try.func44, Try.ntmps44
  go_upto_region 1 with fail
  go_region_held3 (fun _ => True) (trivial)
    (first
      | (refine step_append_gen rfl (.tmp 5) (.tmp 8) 28 rfl w.heap.size 37 iL (.agg #[.bool false, .bool false, .int .i64 0, .slice none 0 0, .bool false, .int .i64 0, .slice none 0 0]) 7 88 Try.underlying28 hi hz0 hz1 hz2 rfl (by decide) (.slice (some ⟨w.heap.size, 0, none⟩) 0 0) 0 [] rfl Hr0.out _ i n1 rfl (HC1.out _ Hb0.out) hn1 hn2 Hb0.out.size ?_; intro v4 w4 ho4 hg4 hat4; have HG4 := hide (And.intro ho4 (And.intro hg4 hat4)); clear ho4 hg4 hat4)
      | (refine step_append_gen rfl (.tmp 9) (.tmp 13) 28 rfl w.heap.size 37 iL (.agg #[.bool false, .bool false, .int .i64 0, .slice none 0 0, .bool false, .int .i64 0, .slice none 0 0]) 7 88 Try.underlying28 hi hz0 hz1 hz2 rfl (by decide) v4 (0 + i) ([] ++ n1) rfl HG4.out.1 _ (c.length - (i + 1)) n2 rfl (HC2.out _ (Hb0.out.grown HG4.out.2.1 Hb0.out.size (fun j hj => by simp [Value.ownBlock] at hj; omega))) hn3 hn4 (Nat.le_trans Hb0.out.size HG4.out.2.1.size) ?_; intro v5 w5 ho5 hg5 hat5; have HG5 := hide (And.intro ho5 (And.intro hg5 hat5)); clear ho5 hg5 hat5))
  have Hfin : Hid (OwnL w.heap.size (fun q => q < w.heap.size) w5 (butC c i) v5 ([] ++ n1 ++ n2) ∧ Below w.heap.size w w5) := by
    have hb4 : Below w.heap.size w w4 := Hb0.out.grown HG4.out.2.1 Hb0.out.size (fun j hj => by simp [Value.ownBlock] at hj; omega)
    have hv4 : ∀ g, v4.ownBlock = some g → w.heap.size ≤ g := fun g hg => (owns_at HG4.out.1 g hg).1
    have hb5 : Below w.heap.size w w5 := hb4.grown HG5.out.2.1 hb4.size hv4
    refine ⟨⟨?_, ?_, fun q hq => ⟨by have := hb5.size; omega, fun e => ?_⟩⟩, hb5⟩
    · have e : (butC c i).length = 0 + i + (c.length - (i + 1)) := by
        rw [butC, List.length_append, List.length_take, List.length_drop]
        omega
      rw [e]
      exact HG5.out.1
    · rw [butC, List.nil_append]
      exact LC.append (HL2.out.frame (fun _ h => h) (fun q j hq => hb5.cell (p := ⟨q, j, none⟩) hq)) (HL1.out.frame (fun _ h => h) (fun q j hq => hb5.cell (p := ⟨q, j, none⟩) hq))
    · have := (owns_at HG5.out.1 q e.symm).1
      omega
  obtain ⟨r1, r3, hv5⟩ := Hfin.out.1.slice
  clear HG4 HG5
  go_wp2_with fail
  go_ret
  exact ⟨v5, _, rfl, Hfin.out.1, Hfin.out.2⟩

end Go.Proofs.Ytfnkjadfepoicac

/- The law ModelBound. -/
namespace Go.Proofs.Ytfnkjadfepoicac
open Go.RowKit Go.Deep Go.ChangeShapes Go.WideShapes
attribute [local go_sem ↓] Go.wp_at_zero Go.wp_at_succ

theorem sig_vr {s : List Int} {n : Int} (h : 0 ≤ n ∧ n ≤ 4) : sigT s (vr n) := by
  refine ⟨?_, trivial⟩
  unfold aloneF vr
  simp [Fo.len]
  omega
theorem gc_rightN5 {s : List Int} {c : Cl} (hs : s.all okNum = true) (hn : ∀ l ∈ c, Fo.norm l.2.1.2 = l.2.1.2 ∧ Fo.norm l.2.2.2 = l.2.2.2) (h : wrongC s c = 0) : GC c := by
  rw [wrongC_iff] at h
  refine ⟨h.1, fun l hl => ?_⟩
  obtain ⟨g1, _, g2⟩ := gd_right hs (hn l hl).1 (h.2 l hl).1
  obtain ⟨g3, _, g4⟩ := gd_right hs (hn l hl).2 (h.2 l hl).2
  exact ⟨g1, g3, four_right hs (hn l hl).1 (h.2 l hl).1, four_right hs (hn l hl).2 (h.2 l hl).2, g2, g4⟩
theorem bound_sig {s : List Int} {b : Sb} {c : Cl} (hb : ∀ p ∈ b, sigT s p.2) (hc : ∀ l ∈ c, sigT s l.2.1 ∧ sigT s l.2.2) : ∀ l ∈ c.map (mapL (subT (bnd b))), sigT s l.2.1 ∧ sigT s l.2.2 := fun l hl => by
  have hv : ∀ t : Tm, sigT s t → sigT s (subT (bnd b) t) := fun t ht => by
    refine sig_sub (fun n hn => ?_) ht
    cases el : look b n with
    | none => rw [bnd_none el]; exact sig_vr (sig_fewT ht n hn)
    | some u => rw [bnd_some el]; exact hb _ (look_mem el)
  obtain ⟨q, hq, rfl⟩ := List.mem_map.1 hl
  exact ⟨hv _ (hc q hq).1, hv _ (hc q hq).2⟩

/-- The cells of a clause that is there, to be laid behind others. -/
theorem cl_cs {w : World} {c : Cl} {a1 : Option Addr} {c3 : Nat} (h : CIn w c (.slice a1 c.length c3)) : ∃ news, LC (fun q => q < w.heap.size) w c news ∧ ∀ w', Below w.heap.size w w' → Cs w' (.slice a1 c.length c3) c.length 7 news := by
  obtain ⟨q1, q3, qb, qo, hqe, hqa, hql, hqm, hqF⟩ := h
  simp only [Value.slice.injEq, true_and] at hqe
  obtain ⟨rfl, rfl⟩ := hqe
  obtain ⟨news, hl, hP, hc⟩ := lin_cells hqF
  refine ⟨news, hP, fun w' hb => ⟨_, _, rfl, hl, hP.onecell, fun e => ?_, fun ad e j u hj => ?_⟩⟩
  · by_cases h0 : 0 < c.length
    · rw [hqa h0] at e; cases e
    · omega
  · have hlt : j < news.length := (List.getElem?_eq_some_iff.1 hj).1
    have h1 := hqa (by omega)
    rw [e] at h1
    cases h1
    rw [add_plain]
    exact grow_cell hb _ _ (hc j u hj)
structure RB (W : World) (MV DV CV LA : Value) (c : Cl) (l : Lt) (a d : Value) (n1 : List Value) (D : Nat → Bool) (w : World) (s57 s58 s59 s60 s61 s62 s63 s64 s65 s66 s67 s68 s69 s10 : Value) : Prop where
  hb : Below W.heap.size W w
  h0 : D 0 = true → s57 = MV
  h1 : D 1 = true → s58 = DV
  h2 : D 2 = true → s59 = .bool true
  h3 : D 3 = true → s60 = .bool true
  h4 : D 4 = true → s61 = MV
  h5 : D 5 = true → D 7 = false → ∃ g, s62 = .slice (some ⟨g, 0, none⟩) 0 0 ∧ W.heap.size ≤ g ∧ w.heap[g]? = some (.cells #[] 37) ∧ (D 9 = true → ∀ g', s66 = .slice (some ⟨g', 0, none⟩) 1 1 → g' ≠ g)
  h6 : D 6 = true → s63 = CV
  h7 : D 7 = true → D 5 = true ∧ (D 10 = false → w.ownsRow W.heap.size 37 7 s64 c.length n1 ∧ (D 9 = true → ∀ g', s66 = .slice (some ⟨g', 0, none⟩) 1 1 → some g' ≠ s64.ownBlock))
  h8 : D 8 = true → s65 = LA
  h9 : D 9 = true → ∃ g, s66 = .slice (some ⟨g, 0, none⟩) 1 1 ∧ (D 10 = false → ∀ j u, (litV l a d)[j]? = some u → w.cell? ⟨g, j, none⟩ = some u)
  h10 : D 10 = true → (D 7 = true ∧ D 9 = true) ∧ w.ownsRow W.heap.size 37 7 s67 (c.length + 1) (n1 ++ litV l a d)
  h11 : D 11 = true → s68 = .bool true
  h12 : D 12 = true → s69 = .bool true
  h13 : D 13 = true → s10 = .bool true
section
variable {W : World} {MV DV CV LA : Value} {c : Cl} {l : Lt} {a d : Value} {n1 : List Value} {D : Nat → Bool} {w w' : World} {s57 s58 s59 s60 s61 s62 s63 s64 s65 s66 s67 s68 s69 s10 : Value}
theorem RB.step (h : RB W MV DV CV LA c l a d n1 D w s57 s58 s59 s60 s61 s62 s63 s64 s65 s66 s67 s68 s69 s10) (hb : Below w.heap.size w w') : RB W MV DV CV LA c l a d n1 D w' s57 s58 s59 s60 s61 s62 s63 s64 s65 s66 s67 s68 s69 s10 := by
  refine ⟨below_step h.hb hb, h.h0, h.h1, h.h2, h.h3, h.h4, fun e e2 => ?_, h.h6, fun e => ⟨(h.h7 e).1, fun e2 => ?_⟩, h.h8, fun e => ?_, fun e => ⟨(h.h10 e).1, ?_⟩, h.h11, h.h12, h.h13⟩
  · obtain ⟨g, h1, h2, h3, h4⟩ := h.h5 e e2
    have hlt : g < w.heap.size := by
      by_cases q : g < w.heap.size
      · exact q
      · rw [Array.getElem?_eq_none (by omega)] at h3; cases h3
    exact ⟨g, h1, h2, (hb.block g hlt).trans h3, h4⟩
  · obtain ⟨h1, h2⟩ := (h.h7 e).2 e2
    exact ⟨owns_keep h1 (fun g hg => hb.block g (owns_at h1 g hg).2), h2⟩
  · obtain ⟨g, h1, h2⟩ := h.h9 e
    exact ⟨g, h1, fun e2 j u hj => grow_cell hb _ _ (h2 e2 j u hj)⟩
  · have h1 := (h.h10 e).2
    exact owns_keep h1 (fun g hg => hb.block g (owns_at h1 g hg).2)
theorem RB.at0 (h : RB W MV DV CV LA c l a d n1 D w s57 s58 s59 s60 s61 s62 s63 s64 s65 s66 s67 s68 s69 s10) : RB W MV DV CV LA c l a d n1 (fun j => j == 0 || D j) w (MV) s58 s59 s60 s61 s62 s63 s64 s65 s66 s67 s68 s69 s10 :=
  ⟨h.hb, fun _ => rfl, h.h1, h.h2, h.h3, h.h4, h.h5, h.h6, h.h7, h.h8, h.h9, h.h10, h.h11, h.h12, h.h13⟩
theorem RB.at1 (h : RB W MV DV CV LA c l a d n1 D w s57 s58 s59 s60 s61 s62 s63 s64 s65 s66 s67 s68 s69 s10) : RB W MV DV CV LA c l a d n1 (fun j => j == 1 || D j) w s57 (DV) s59 s60 s61 s62 s63 s64 s65 s66 s67 s68 s69 s10 :=
  ⟨h.hb, h.h0, fun _ => rfl, h.h2, h.h3, h.h4, h.h5, h.h6, h.h7, h.h8, h.h9, h.h10, h.h11, h.h12, h.h13⟩
theorem RB.at2 (h : RB W MV DV CV LA c l a d n1 D w s57 s58 s59 s60 s61 s62 s63 s64 s65 s66 s67 s68 s69 s10) : RB W MV DV CV LA c l a d n1 (fun j => j == 2 || D j) w s57 s58 (.bool true) s60 s61 s62 s63 s64 s65 s66 s67 s68 s69 s10 :=
  ⟨h.hb, h.h0, h.h1, fun _ => rfl, h.h3, h.h4, h.h5, h.h6, h.h7, h.h8, h.h9, h.h10, h.h11, h.h12, h.h13⟩
theorem RB.at3 (h : RB W MV DV CV LA c l a d n1 D w s57 s58 s59 s60 s61 s62 s63 s64 s65 s66 s67 s68 s69 s10) : RB W MV DV CV LA c l a d n1 (fun j => j == 3 || D j) w s57 s58 s59 (.bool true) s61 s62 s63 s64 s65 s66 s67 s68 s69 s10 :=
  ⟨h.hb, h.h0, h.h1, h.h2, fun _ => rfl, h.h4, h.h5, h.h6, h.h7, h.h8, h.h9, h.h10, h.h11, h.h12, h.h13⟩
theorem RB.at4 (h : RB W MV DV CV LA c l a d n1 D w s57 s58 s59 s60 s61 s62 s63 s64 s65 s66 s67 s68 s69 s10) : RB W MV DV CV LA c l a d n1 (fun j => j == 4 || D j) w s57 s58 s59 s60 (MV) s62 s63 s64 s65 s66 s67 s68 s69 s10 :=
  ⟨h.hb, h.h0, h.h1, h.h2, h.h3, fun _ => rfl, h.h5, h.h6, h.h7, h.h8, h.h9, h.h10, h.h11, h.h12, h.h13⟩
theorem RB.at5 (h : RB W MV DV CV LA c l a d n1 D w s57 s58 s59 s60 s61 s62 s63 s64 s65 s66 s67 s68 s69 s10) (h5 : D 5 = false) : RB W MV DV CV LA c l a d n1 (fun j => j == 5 || D j) (w.alloc (.cells #[] 37)) s57 s58 s59 s60 s61 (.slice (some ⟨w.heap.size, 0, none⟩) 0 0) s63 s64 s65 s66 s67 s68 s69 s10 := by
  have k := h.step (below_alloc w (.cells #[] 37))
  have h7 : D 7 = false := by
    cases e : D 7
    · rfl
    · have := (h.h7 e).1; rw [h5] at this; cases this
  refine ⟨k.hb, k.h0, k.h1, k.h2, k.h3, k.h4, fun _ _ => ⟨w.heap.size, rfl, h.hb.size, heap_alloc_new w _, fun e9 g' e => ?_⟩, k.h6, fun e => ?_, k.h8, k.h9, k.h10, k.h11, k.h12, k.h13⟩
  · obtain ⟨g, h1, h2⟩ := h.h9 e9
    have h10 : D 10 = false := by
      cases e : D 10
      · rfl
      · have := (h.h10 e).1.1; rw [h7] at this; cases this
    have := World.block_lt_of_cell? _ _ (h2 h10 0 _ rfl)
    have e2 := h1.symm.trans e
    simp only [Value.slice.injEq, Option.some.injEq, Addr.mk.injEq] at e2
    have e3 := e2.1.1
    have : g < w.heap.size := this
    omega
  · rw [show D 7 = true from e] at h7; cases h7
theorem RB.at6 (h : RB W MV DV CV LA c l a d n1 D w s57 s58 s59 s60 s61 s62 s63 s64 s65 s66 s67 s68 s69 s10) : RB W MV DV CV LA c l a d n1 (fun j => j == 6 || D j) w s57 s58 s59 s60 s61 s62 (CV) s64 s65 s66 s67 s68 s69 s10 :=
  ⟨h.hb, h.h0, h.h1, h.h2, h.h3, h.h4, h.h5, fun _ => rfl, h.h7, h.h8, h.h9, h.h10, h.h11, h.h12, h.h13⟩
theorem RB.at7 (h : RB W MV DV CV LA c l a d n1 D w s57 s58 s59 s60 s61 s62 s63 s64 s65 s66 s67 s68 s69 s10) (h7 : D 7 = false) (h5 : D 5 = true) {v : Value} {w4 : World} (ho : w4.ownsRow W.heap.size 37 7 v (0 + c.length) ([] ++ n1)) (hg : w.grownBy w4 s62.ownBlock) (hat : v.ownBlock = s62.ownBlock ∨ v.ownBlock = some w.heap.size) : RB W MV DV CV LA c l a d n1 (fun j => j == 7 || D j) w4 s57 s58 s59 s60 s61 s62 s63 (v) s65 s66 s67 s68 s69 s10 := by
  obtain ⟨g, q1, q2, q3, q4⟩ := h.h5 h5 h7
  have h10 : D 10 = false := by
    cases e : D 10
    · rfl
    · have := (h.h10 e).1.1; rw [h7] at this; cases this
  have hob : s62.ownBlock = some g := by rw [q1]; rfl
  rw [hob] at hg hat
  rw [Nat.zero_add, List.nil_append] at ho
  refine ⟨h.hb.grown hg h.hb.size (fun k hk => by cases hk; exact q2), h.h0, h.h1, h.h2, h.h3, h.h4, fun _ e => ?_, h.h6, fun _ => ⟨h5, fun _ => ⟨ho, fun e9 g' e => ?_⟩⟩, h.h8, fun e9 => ?_, fun e => ?_, h.h11, h.h12, h.h13⟩
  · cases e
  · obtain ⟨g2, r1, r2⟩ := h.h9 e9
    have hne := q4 e9 g' e
    have e2 := r1.symm.trans e
    simp only [Value.slice.injEq, Option.some.injEq, Addr.mk.injEq] at e2
    have e3 := e2.1.1
    have hlt : g2 < w.heap.size := World.block_lt_of_cell? _ _ (r2 h10 0 _ rfl)
    rcases hat with e4 | e4
    · rw [e4]; simpa using hne
    · rw [e4]; simp; omega
  · obtain ⟨g2, r1, r2⟩ := h.h9 e9
    exact ⟨g2, r1, fun e10 j u hj => grown_cell hg (by simpa using q4 e9 g2 r1) (r2 e10 j u hj)⟩
  · rw [show D 10 = true from e] at h10; cases h10
theorem RB.at8 (h : RB W MV DV CV LA c l a d n1 D w s57 s58 s59 s60 s61 s62 s63 s64 s65 s66 s67 s68 s69 s10) : RB W MV DV CV LA c l a d n1 (fun j => j == 8 || D j) w s57 s58 s59 s60 s61 s62 s63 s64 (LA) s66 s67 s68 s69 s10 :=
  ⟨h.hb, h.h0, h.h1, h.h2, h.h3, h.h4, h.h5, h.h6, h.h7, fun _ => rfl, h.h9, h.h10, h.h11, h.h12, h.h13⟩
theorem RB.at9 (h : RB W MV DV CV LA c l a d n1 D w s57 s58 s59 s60 s61 s62 s63 s64 s65 s66 s67 s68 s69 s10) (h9 : D 9 = false) : RB W MV DV CV LA c l a d n1 (fun j => j == 9 || D j) (w.alloc (.cells #[.bool l.1, .bool l.2.1.1.1, .int .i64 l.2.1.1.2, a, .bool l.2.2.1.1, .int .i64 l.2.2.1.2, d] 37)) s57 s58 s59 s60 s61 s62 s63 s64 s65 (.slice (some ⟨w.heap.size, 0, none⟩) 1 1) s67 s68 s69 s10 := by
  have k := h.step (below_alloc w (.cells #[.bool l.1, .bool l.2.1.1.1, .int .i64 l.2.1.1.2, a, .bool l.2.2.1.1, .int .i64 l.2.2.1.2, d] 37))
  refine ⟨k.hb, k.h0, k.h1, k.h2, k.h3, k.h4, fun e e2 => ?_, k.h6, fun e => ⟨(k.h7 e).1, fun e2 => ⟨((k.h7 e).2 e2).1, fun _ g' e3 => ?_⟩⟩, k.h8, fun _ => ⟨w.heap.size, rfl, fun _ j u hj => ?_⟩, fun e => ?_, k.h11, k.h12, k.h13⟩
  · obtain ⟨g, q1, q2, q3, q4⟩ := k.h5 e e2
    obtain ⟨g0, q1', q2', q3', q4'⟩ := h.h5 e e2
    refine ⟨g, q1, q2, q3, fun _ g' e3 => ?_⟩
    simp only [Value.slice.injEq, Option.some.injEq, Addr.mk.injEq] at e3
    have e4 := e3.1.1
    have e5 := q1.symm.trans q1'
    simp only [Value.slice.injEq, Option.some.injEq, Addr.mk.injEq] at e5
    have e6 := e5.1.1
    have hlt : g0 < w.heap.size := by
      by_cases q : g0 < w.heap.size
      · exact q
      · rw [Array.getElem?_eq_none (by omega)] at q3'; cases q3'
    omega
  · simp only [Value.slice.injEq, Option.some.injEq, Addr.mk.injEq] at e3
    have e4 := e3.1.1
    intro e5
    have := (owns_at ((h.h7 e).2 e2).1 g' e5.symm).2
    omega
  · rw [new_cell rfl]
    simpa using hj
  · have := (h.h10 e).1.2; rw [h9] at this; cases this
theorem RB.at10 (h : RB W MV DV CV LA c l a d n1 D w s57 s58 s59 s60 s61 s62 s63 s64 s65 s66 s67 s68 s69 s10) (h7 : D 7 = true) (h9 : D 9 = true) (h10 : D 10 = false) {v : Value} {w4 : World} (ho : w4.ownsRow W.heap.size 37 7 v (c.length + 1) (n1 ++ litV l a d)) (hg : w.grownBy w4 s64.ownBlock) : RB W MV DV CV LA c l a d n1 (fun j => j == 10 || D j) w4 s57 s58 s59 s60 s61 s62 s63 s64 s65 s66 (v) s68 s69 s10 := by
  obtain ⟨q1, q2⟩ := (h.h7 h7).2 h10
  refine ⟨h.hb.grown hg h.hb.size (fun k hk => (owns_at q1 k hk).1), h.h0, h.h1, h.h2, h.h3, h.h4, fun _ e => ?_, h.h6, fun e => ⟨(h.h7 e).1, fun e2 => (by cases e2)⟩, h.h8, fun e => ?_, fun _ => ⟨⟨h7, h9⟩, ho⟩, h.h11, h.h12, h.h13⟩
  · rw [show D 7 = false from e] at h7; cases h7
  · obtain ⟨g, r1, r2⟩ := h.h9 e
    exact ⟨g, r1, fun e2 => (by cases e2)⟩
theorem RB.at11 (h : RB W MV DV CV LA c l a d n1 D w s57 s58 s59 s60 s61 s62 s63 s64 s65 s66 s67 s68 s69 s10) : RB W MV DV CV LA c l a d n1 (fun j => j == 11 || D j) w s57 s58 s59 s60 s61 s62 s63 s64 s65 s66 s67 (.bool true) s69 s10 :=
  ⟨h.hb, h.h0, h.h1, h.h2, h.h3, h.h4, h.h5, h.h6, h.h7, h.h8, h.h9, h.h10, fun _ => rfl, h.h12, h.h13⟩
theorem RB.at12 (h : RB W MV DV CV LA c l a d n1 D w s57 s58 s59 s60 s61 s62 s63 s64 s65 s66 s67 s68 s69 s10) : RB W MV DV CV LA c l a d n1 (fun j => j == 12 || D j) w s57 s58 s59 s60 s61 s62 s63 s64 s65 s66 s67 s68 (.bool true) s10 :=
  ⟨h.hb, h.h0, h.h1, h.h2, h.h3, h.h4, h.h5, h.h6, h.h7, h.h8, h.h9, h.h10, h.h11, fun _ => rfl, h.h13⟩
theorem RB.at13 (h : RB W MV DV CV LA c l a d n1 D w s57 s58 s59 s60 s61 s62 s63 s64 s65 s66 s67 s68 s69 s10) : RB W MV DV CV LA c l a d n1 (fun j => j == 13 || D j) w s57 s58 s59 s60 s61 s62 s63 s64 s65 s66 s67 s68 s69 (.bool true) :=
  ⟨h.hb, h.h0, h.h1, h.h2, h.h3, h.h4, h.h5, h.h6, h.h7, h.h8, h.h9, h.h10, h.h11, h.h12, fun _ => rfl⟩
theorem RB.start (h : Below W.heap.size W w) : RB W MV DV CV LA c l a d n1 (fun _ => false) w s57 s58 s59 s60 s61 s62 s63 s64 s65 s66 s67 s68 s69 s10 :=
  ⟨h, fun e => (by cases e), fun e => (by cases e), fun e => (by cases e), fun e => (by cases e), fun e => (by cases e), fun e => (by cases e), fun e => (by cases e), fun e => (by cases e), fun e => (by cases e), fun e => (by cases e), fun e => (by cases e), fun e => (by cases e), fun e => (by cases e), fun e => (by cases e)⟩
end

set_option maxRecDepth 100000 in
set_option maxHeartbeats 4000000 in
theorem modelBound_of (s : List Int) (sv : Value) (z : Int) (tb : List (List Int)) (mv : Value) (c : Cl) (cv : Value) (b : Sb) (bv : Value) (l : Lt) (a d : Value) (w : World) (hN : NIn w s sv) (hT : TbIn w tb mv) (hC : CIn w c cv) (hV : SubIn w b bv) (hA : SIn w l.2.1.2 a) (hD : SIn w l.2.2.2 d)
    (hn : ∀ l ∈ c, Fo.norm l.2.1.2 = l.2.1.2 ∧ Fo.norm l.2.2.2 = l.2.2.2) (hbn : ∀ p ∈ b, Fo.norm p.2.2 = p.2.2) :
    Calls Try.prog 5 #[sv, .agg #[.int .i64 z, mv], cv, bv, litA l a d] w fun e w' => e = .returned (.bool true) ∧ Below w.heap.size w w' := by
  have HN := hide hN
  have HT := hide hT
  have HC := hide hC
  have HV := hide hV
  have HA := hide hA
  have HD := hide hD
  have Hn := hide hn
  have Hbn := hide hbn
  obtain ⟨yn, ⟨⟨yv, yi⟩, yk⟩, ⟨⟨yv', yi'⟩, yk'⟩⟩ := l
  obtain ⟨sa, sc, _, _, rfl, -, -, -, -⟩ := hN
  obtain ⟨ta, tc, rfl⟩ := tb_slice hT
  obtain ⟨c1, c3, rfl⟩ := slice_of_cl hC
  obtain ⟨v1, v3, bz4, bz5, rfl, hbad, hblc, hbcm, hbF⟩ := hV
  obtain ⟨ya, yc, _, _, rfl, -, -, -, -⟩ := hA
  obtain ⟨za, zc, _, _, rfl, -, -, -, -⟩ := hD
  unfold maxLen at hbcm
  have HbF := hide hbF
  simp only at *
  clear hT hC hn hbn hbF
  go_enter Try.func5, Try.ntmps5
  go_upto_region 1 with fail
  generalize hW0 : w.alloc (.cells #[.int .i64 z, .slice ta tb.length tc] 26) = W0
  have hB0 : Below w.heap.size w W0 := by rw [← hW0]; exact below_alloc _ _
  have s0 : W0.heap.size = w.heap.size + 1 := by rw [← hW0]; simp
  have m0 : W0.cell? ⟨w.heap.size, 0, none⟩ = some (.int .i64 z) := by rw [← hW0]; exact new_cell rfl
  have m1 : W0.cell? ⟨w.heap.size, 1, none⟩ = some (.slice ta tb.length tc) := by rw [← hW0]; exact new_cell rfl
  clear hW0
  generalize hW0 : W0.alloc (.cells #[.slice v1 b.length v3] 45) = W2
  have hB2 : Below W0.heap.size W0 W2 := by rw [← hW0]; exact below_alloc _ _
  have s2 : W2.heap.size = w.heap.size + 1 + 1 := by rw [← hW0, World.size_alloc, s0]
  have b0 : W2.cell? ⟨w.heap.size + 1, 0, none⟩ = some (.slice v1 b.length v3) := by rw [← hW0]; exact new_cell s0
  replace m0 := grow_cell hB2 _ _ m0
  replace m1 := grow_cell hB2 _ _ m1
  clear hW0
  generalize hW1 : W2.alloc (.cells #[.bool yn, .bool yv, .int .i64 yi, .slice ya (Fo.len yk) yc, .bool yv', .int .i64 yi', .slice za (Fo.len yk') zc] 37) = wn
  obtain ⟨g0, g1, g2, g3, g4, g5, g6, -, hba, -⟩ := lit_cells (T := 37) (x0 := .bool yn) (w := W2) (wr := wn) (x1 := .bool yv) (x2 := .int .i64 yi) (x3 := .slice ya (Fo.len yk) yc) (x4 := .bool yv') (x5 := .int .i64 yi') (x6 := .slice za (Fo.len yk') zc) (by rw [← hW1]; exact Below.refl _ _)
  replace m0 := grow_cell hba _ _ m0
  replace m1 := grow_cell hba _ _ m1
  replace b0 := grow_cell hba _ _ b0
  have hB := below_step (below_step hB0 hB2) hba
  rw [s2] at g0 g1 g2 g3 g4 g5 g6
  clear hW1 hba hB0 hB2 s0 s2
  generalize w.heap.size + 1 + 1 = bl at *
  generalize w.heap.size + 1 = bb at *
  clear W0 W2
  go_wp2_with fail
  refine (alive5_any _).mono ?_
  rintro e w1 ⟨rfl, hb⟩
  replace hB := below_step hB hb
  replace m0 := grow_cell hb _ _ m0
  replace m1 := grow_cell hb _ _ m1
  replace b0 := grow_cell hb _ _ b0
  replace g0 := grow_cell hb _ _ g0
  replace g1 := grow_cell hb _ _ g1
  replace g2 := grow_cell hb _ _ g2
  replace g3 := grow_cell hb _ _ g3
  replace g4 := grow_cell hb _ _ g4
  replace g5 := grow_cell hb _ _ g5
  replace g6 := grow_cell hb _ _ g6
  clear hb
  generalize w1 = wn at *
  go_wp2_with fail
  refine (wsigR_any s _ _ (HN.out.below hB)).mono ?_
  rintro e w' ⟨rfl, hw'⟩
  rw [hw']
  clear hw' w'
  by_cases hw : wsig s = 0
  · have Hw := hide hw
    simp only [hw]
    clear hw
    obtain ⟨ok, h6, _⟩ := wsig_ok Hw.out
    have Hok := hide ok
    clear ok h6
    go_wp2_with fail
    refine (wrongMR_any s _ z tb _ _ (HN.out.below hB) (HT.out.below hB) Hok.out).mono ?_
    rintro e w1 ⟨rfl, hb⟩
    replace hB := below_step hB hb
    replace m0 := grow_cell hb _ _ m0
    replace m1 := grow_cell hb _ _ m1
    replace b0 := grow_cell hb _ _ b0
    replace g0 := grow_cell hb _ _ g0
    replace g1 := grow_cell hb _ _ g1
    replace g2 := grow_cell hb _ _ g2
    replace g3 := grow_cell hb _ _ g3
    replace g4 := grow_cell hb _ _ g4
    replace g5 := grow_cell hb _ _ g5
    replace g6 := grow_cell hb _ _ g6
    clear hb
    generalize w1 = wn at *
    by_cases hm : wrongM s z tb = 0
    · have Hm := hide (wrongM_ok hm)
      simp only [hm]
      clear hm
      go_wp2_with fail
      refine (wrongCR_any s _ c _ _ (HN.out.below hB) (HC.out.below hB)).mono ?_
      rintro e w1 ⟨rfl, hb⟩
      replace hB := below_step hB hb
      replace m0 := grow_cell hb _ _ m0
      replace m1 := grow_cell hb _ _ m1
      replace b0 := grow_cell hb _ _ b0
      replace g0 := grow_cell hb _ _ g0
      replace g1 := grow_cell hb _ _ g1
      replace g2 := grow_cell hb _ _ g2
      replace g3 := grow_cell hb _ _ g3
      replace g4 := grow_cell hb _ _ g4
      replace g5 := grow_cell hb _ _ g5
      replace g6 := grow_cell hb _ _ g6
      clear hb
      generalize w1 = wn at *
      by_cases hc : wrongC s c = 0
      · have Hc := hide hc
        simp only [hc]
        clear hc
        have Hcl : Hid (CIn (wn.alloc (.cells #[.bool yn, .bool yv, .int .i64 yi, .slice ya (Fo.len yk) yc, .bool yv', .int .i64 yi', .slice za (Fo.len yk') zc] 37)) [(yn, ((yv, yi), yk), ((yv', yi'), yk'))] (.slice (some ⟨wn.heap.size, 0, none⟩) 1 1)) := cl_one (l := (yn, ((yv, yi), yk), ((yv', yi'), yk'))) (HA.out.below hB) (HD.out.below hB)
        obtain ⟨q34, hq34⟩ : ∃ q, wn.heap.size = q := ⟨_, rfl⟩
        have Hq34 := hide hq34
        clear hq34
        go_wp2_with fail
        refine (wrongCR_any s _ [(yn, ((yv, yi), yk), ((yv', yi'), yk'))] _ _ ((HN.out.below hB).alloc _) Hcl.out).mono ?_
        rintro e w1 ⟨rfl, hb⟩
        replace hb := below_box hb
        replace hB := below_step hB hb
        replace m0 := grow_cell hb _ _ m0
        replace m1 := grow_cell hb _ _ m1
        replace b0 := grow_cell hb _ _ b0
        replace g0 := grow_cell hb _ _ g0
        replace g1 := grow_cell hb _ _ g1
        replace g2 := grow_cell hb _ _ g2
        replace g3 := grow_cell hb _ _ g3
        replace g4 := grow_cell hb _ _ g4
        replace g5 := grow_cell hb _ _ g5
        replace g6 := grow_cell hb _ _ g6
        rw [Hq34.out]
        clear Hq34
        clear hb
        generalize w1 = wn at *
        clear Hcl
        by_cases hl : wrongC s [(yn, ((yv, yi), yk), ((yv', yi'), yk'))] = 0
        · have Hsl : Hid (sigT s ((yv, yi), yk) ∧ sigT s ((yv', yi'), yk')) := sigC_right hl (yn, ((yv, yi), yk), ((yv', yi'), yk')) List.mem_cons_self
          have Hsc := hide (sigC_right Hc.out)
          have Hg := hide (gc_rightN5 Hok.out Hn.out Hc.out)
          have h4 := Hg.out.1
          simp only [hl]
          clear hl
          go_wp2_with fail
          go_loopw [40] (fun i wr => ∃ j : Nat, j ≤ b.length ∧ i = .int .i64 j ∧ (∀ i, i < j → ∀ p, b[i]? = some p → wrongF s p.2.1 p.2.2 = 0) ∧ Below wn.heap.size wn wr) (fun i _ => b.length - (intOf i).toNat)
          case atStart => exact ⟨0, Nat.zero_le _, rfl, fun i hi => by omega, Below.refl _ _⟩
          case round =>
            obtain ⟨j, hj, rfl, hok, hBx⟩ := hrel
            have Hbk := hide hok
            clear hok
            replace m0 := grow_cell hBx _ _ m0
            replace m1 := grow_cell hBx _ _ m1
            replace b0 := grow_cell hBx _ _ b0
            replace g0 := grow_cell hBx _ _ g0
            replace g1 := grow_cell hBx _ _ g1
            replace g2 := grow_cell hBx _ _ g2
            replace g3 := grow_cell hBx _ _ g3
            replace g4 := grow_cell hBx _ _ g4
            replace g5 := grow_cell hBx _ _ g5
            replace g6 := grow_cell hBx _ _ g6
            have hBr := below_step hB hBx
            by_cases hlt : j < b.length
            · have hlt' : (j : Int) < (b.length : Int) := by omega
              obtain ⟨⟨pi, ⟨pv, pn⟩, pk⟩, hp⟩ : ∃ p, b[j]? = some p := ⟨b[j]'hlt, by simp⟩
              obtain ⟨q0, q1, q2, u3, q3, hA⟩ := (HbF.out.below hBr).at hp
              have hb1 : v1 = some ⟨bz4, bz5, none⟩ := hbad (by omega)
              subst hb1
              have HP := hide hA
              obtain ⟨pa, pc, _, _, rfl, -, -, -, -⟩ := hA
              have Hp := hide hp
              clear hp hbad
              simp only at *
              go_wp2_with fail
              refine (wrongR_any s _ (pv, pn) pk _ _ ((HN.out.below hBr).alloc _) (HP.out.alloc _)).mono ?_
              rintro e w2 ⟨rfl, hb⟩
              replace hBx := below_step hBx (below_box hb)
              clear hb
              by_cases hpe : wrongF s (pv, pn) pk = 0
              · have Hn2 : Hid (∀ i, i < j + 1 → ∀ p, b[i]? = some p → wrongF s p.2.1 p.2.2 = 0) := fun i hi p hpi => by
                  by_cases e : i = j
                  · rw [e, Hp.out] at hpi; cases hpi; exact hpe
                  · exact Hbk.out i (by omega) p hpi
                simp only [hpe]
                clear hpe
                go_wp2_with fail
                go_roundw
                case rel => exact ⟨j + 1, by omega, by go_num, Hn2.out, hBx⟩
                case measure => simp [intOf]; omega
              · have heb : (wrongF s (pv, pn) pk != 0) = true := by simp [hpe]
                generalize wrongF s (pv, pn) pk = er at *
                clear hpe
                go_wp2_with fail
                go_ret
                exact ⟨rfl, below_step hB hBx⟩
            · have Hbw : Hid (∀ p ∈ b, wrongF s p.2.1 p.2.2 = 0) := fun p hp => by
                obtain ⟨i, hi⟩ := List.mem_iff_getElem?.1 hp
                have hil := (List.getElem?_eq_some_iff.1 hi).1
                exact Hbk.out i (by omega) p hi
              have Hbg : Hid (∀ p ∈ b, Gd p.2) := fun p hp => (gd_right Hok.out (Hbn.out p hp) (Hbw.out p hp)).1
              have Hbs : Hid (∀ p ∈ b, sigT s p.2) := fun p hp => sig_right (Hbw.out p hp)
              have HG : Hid (∀ l ∈ c, (okT l.2.1 ∧ narT l.2.1) ∧ (okT l.2.2 ∧ narT l.2.2)) := fun l hl => ⟨⟨(Hg.out.2 l hl).gl.ok, (Hg.out.2 l hl).gl.nar⟩, ⟨(Hg.out.2 l hl).gr.ok, (Hg.out.2 l hl).gr.nar⟩⟩
              replace hB := hBr
              clear hbad Hbk hBx hBr
              generalize wr = wn at *
              obtain ⟨V, hV⟩ : ∃ V, holdsB z tb c = V := ⟨_, rfl⟩
              have Hc1 := hide (holds_sig Hm.out Hok.out c (.slice ta tb.length tc) (.slice c1 c.length c3) wn (HT.out.below hB) (HC.out.below hB) Hsc.out)
              rw [hV] at Hc1
              have HVV := hide hV
              clear hV
              go_wp2_with fail
              refine (Hc1.out).mono ?_
              rintro e w1 ⟨rfl, hb⟩
              replace hB := below_step hB hb
              replace m0 := grow_cell hb _ _ m0
              replace m1 := grow_cell hb _ _ m1
              replace b0 := grow_cell hb _ _ b0
              replace g0 := grow_cell hb _ _ g0
              replace g1 := grow_cell hb _ _ g1
              replace g2 := grow_cell hb _ _ g2
              replace g3 := grow_cell hb _ _ g3
              replace g4 := grow_cell hb _ _ g4
              replace g5 := grow_cell hb _ _ g5
              replace g6 := grow_cell hb _ _ g6
              clear hb
              generalize w1 = wn at *
              clear Hc1
              cases V
              · go_wp2_with fail
                go_ret
                exact ⟨rfl, hB⟩
              · have Hh1 : Hid (holdsB z tb (c.map (mapL (subT (bnd b)))) = true) := (holds_sigP Hm.out (bound_sig Hbs.out Hsc.out)).2 (holds_bound Hm.out Hok.out Hbs.out ((holds_sigP Hm.out Hsc.out).1 HVV.out))
                have Hs2 : Hid (∀ x ∈ c ++ [(yn, ((yv, yi), yk), ((yv', yi'), yk'))], sigT s x.2.1 ∧ sigT s x.2.2) := fun x hx => by
                  rcases List.mem_append.1 hx with hx | hx
                  · exact Hsc.out x hx
                  · simp at hx; subst hx; exact Hsl.out
                have Hh2 : Hid (holdsB z tb (c ++ [(yn, ((yv, yi), yk), ((yv', yi'), yk'))]) = true) := (holds_sigP Hm.out Hs2.out).2 (holds_more _ ((holds_sigP Hm.out Hsc.out).1 HVV.out))
                have Hs1 := hide (bound_sig Hbs.out Hsc.out)
                have Hb0 := hide b0
                go_wp2_with fail
                refine (eachD5_any bb (subT (bnd b)) (fun t => okT t ∧ narT t) c _ _ (cloD5_any b _ bb _ Hb0.out (HV.out.below hB) (fun p hp => (Hbg.out p hp).ok)) (HC.out.below hB) HG.out (by omega)).mono ?_
                rintro e w1 ⟨yv2, xs, rfl, hO, hb⟩
                replace hB := below_step hB hb
                replace m0 := grow_cell hb _ _ m0
                replace m1 := grow_cell hb _ _ m1
                replace b0 := grow_cell hb _ _ b0
                replace g0 := grow_cell hb _ _ g0
                replace g1 := grow_cell hb _ _ g1
                replace g2 := grow_cell hb _ _ g2
                replace g3 := grow_cell hb _ _ g3
                replace g4 := grow_cell hb _ _ g4
                replace g5 := grow_cell hb _ _ g5
                replace g6 := grow_cell hb _ _ g6
                obtain ⟨y1, y3, hyv⟩ := slice_of_cl hO.cl
                rw [List.length_map] at hyv
                subst hyv
                have HY := hide hO.cl
                clear hO
                clear hb
                generalize w1 = wn at *
                generalize c.map (mapL (subT (bnd b))) = c' at *
                go_upto_region 14 with fail
                obtain ⟨n1, L1, C1⟩ := cl_cs (HC.out.below hB)
                have HL1 := hide L1
                have HC1 := hide C1
                have Hk1 := hide (fun (w' : World) (hb : Below wn.heap.size wn w') => holds_sig Hm.out Hok.out c' (.slice ta tb.length tc) (.slice y1 c.length y3) w' (HT.out.below (below_step hB hb)) (HY.out.below hb) Hs1.out)
                rw [Hh1.out] at Hk1
                have Hk2 : Hid (∀ (v : Value) (w' : World), Below wn.heap.size wn w' → w'.ownsRow wn.heap.size 37 7 v (c.length + 1) (n1 ++ litV (yn, ((yv, yi), yk), ((yv', yi'), yk')) (.slice ya (Fo.len yk) yc) (.slice za (Fo.len yk') zc)) → Calls Try.prog 15 #[.agg #[.int .i64 z, .slice ta tb.length tc], v] w' fun e w'' => e = .returned (.bool true) ∧ Below w'.heap.size w' w'') := fun v w' hb ho => by
                  have hL : LC (fun q => q < wn.heap.size) w' (c ++ [(yn, ((yv, yi), yk), ((yv', yi'), yk'))]) (n1 ++ litV (yn, ((yv, yi), yk), ((yv', yi'), yk')) (.slice ya (Fo.len yk) yc) (.slice za (Fo.len yk') zc)) := by
                    refine LC.frame (fun _ h => h) (fun q i hq => hb.cell (p := ⟨q, i, none⟩) hq) (LC.append (LC.one ?_ ?_) HL1.out)
                    · exact (HA.out.below hB).toB
                    · exact (HD.out.below hB).toB
                  have hcl := row_cl (by rw [List.length_append]; exact ho) hL
                  refine (holds_sig Hm.out Hok.out _ (.slice ta tb.length tc) v w' (HT.out.below (below_step hB hb)) hcl Hs2.out).mono ?_
                  rintro e w2 ⟨rfl, hb2⟩
                  exact ⟨by rw [Hh2.out], hb2⟩
                obtain ⟨iL, hi7, hz0, hz1, hz2⟩ := info_parts Try.info37
                have hn1 : 0 + c.length ≤ maxLen := by unfold maxLen; omega
                have hn2 : (0 + c.length) * 88 ≤ 140737488355328 := by omega
                have hn3 : c.length + 1 ≤ maxLen := by unfold maxLen; omega
                have hn4 : (c.length + 1) * 88 ≤ 140737488355328 := by omega
                have HX := hide (And.intro hn1 (And.intro hn2 (And.intro hn3 (And.intro hn4 (And.intro hi7 (And.intro hz0 (And.intro hz1 hz2)))))))
                clear L1 C1 hn1 hn2 hn3 hn4 hi7 hz0 hz1 hz2 b0
                refine region_inv (fun D a w' => ∃ s57 s58 s59 s60 s61 s62 s63 s64 s65 s66 s67 s68 s69 s10 : Value, a = ⟨#[Value.slice sa s.length sc, Value.agg #[Value.int IntKind.i64 z, Value.slice ta tb.length tc], Value.slice c1 (List.length c) c3, Value.slice v1 (List.length b) v3, litA (yn, ((yv, yi), yk), (yv', yi'), yk') (Value.slice ya yk.len yc) (Value.slice za yk'.len zc), undef, Value.pointer (some { block := w.heap.size, off := 0 }), undef, Value.pointer (some { block := bb, off := 0 }), Value.pointer (some { block := bl, off := 0 }), s10, undef, u12, Value.slice y1 (List.length c) y3, Value.bool true, Value.bool false, Value.slice sa s.length sc, Value.int IntKind.i64 0, Value.bool false, Value.bool false, Value.slice sa s.length sc, Value.agg #[Value.int IntKind.i64 z, Value.slice ta tb.length tc], Value.int IntKind.i64 0, Value.bool false, Value.bool false, Value.bool false, Value.slice sa s.length sc, Value.slice c1 (List.length c) c3, Value.int IntKind.i64 0, Value.bool false, Value.bool false, Value.bool false, Value.slice sa s.length sc, Value.agg #[Value.bool yn, Value.bool yv, Value.int IntKind.i64 yi, Value.slice ya yk.len yc, Value.bool yv', Value.int IntKind.i64 yi', Value.slice za yk'.len zc], Value.slice (some { block := q34, off := 0 }) 1 1, Value.int IntKind.i64 0, Value.bool false, Value.bool false, Value.slice v1 (List.length b) v3, Value.int IntKind.i64 ↑(List.length b), Value.int IntKind.i64 ↑j, Value.bool false, u42, u43, u44, u45, u46, u47, u48, u49, Value.agg #[Value.int IntKind.i64 z, Value.slice ta tb.length tc], Value.slice c1 (List.length c) c3, Value.bool true, Value.bool false, Value.slice c1 (List.length c) c3, Value.func (Fn.func 20) #[] #[Value.pointer (some { block := bb, off := 0 })], Value.slice y1 (List.length c) y3, s57, s58, s59, s60, s61, s62, s63, s64, s65, s66, s67, s68, s69], []⟩ ∧ RB wn (.agg #[.int .i64 z, .slice ta tb.length tc]) (.slice y1 c.length y3) (.slice c1 c.length c3) (.agg #[.bool yn, .bool yv, .int .i64 yi, .slice ya (Fo.len yk) yc, .bool yv', .int .i64 yi', .slice za (Fo.len yk') zc]) c (yn, ((yv, yi), yk), ((yv', yi'), yk')) (.slice ya (Fo.len yk) yc) (.slice za (Fo.len yk') zc) n1 D w' s57 s58 s59 s60 s61 s62 s63 s64 s65 s66 s67 s68 s69 s10) (by kernel_rfl) (by kernel_rfl) ?_ ?_ ⟨_, _, _, _, _, _, _, _, _, _, _, _, _, _, rfl, RB.start (Below.refl _ _).drew⟩
                · rintro D a w' i o hi ⟨s57, s58, s59, s60, s61, s62, s63, s64, s65, s66, s67, s68, s69, s10, rfl, hI⟩ hD ho hdep
                  have HI := hide hI
                  replace m0 := grow_cell hI.hb _ _ m0
                  replace m1 := grow_cell hI.hb _ _ m1
                  replace g0 := grow_cell hI.hb _ _ g0
                  replace g1 := grow_cell hI.hb _ _ g1
                  replace g2 := grow_cell hI.hb _ _ g2
                  replace g3 := grow_cell hI.hb _ _ g3
                  replace g4 := grow_cell hI.hb _ _ g4
                  replace g5 := grow_cell hI.hb _ _ g5
                  replace g6 := grow_cell hI.hb _ _ g6
                  clear hI
                  have hi' : i < 14 := hi
                  clear hi
                  rcases (by omega : i = 0 ∨ i = 1 ∨ i = 2 ∨ i = 3 ∨ i = 4 ∨ i = 5 ∨ i = 6 ∨ i = 7 ∨ i = 8 ∨ i = 9 ∨ i = 10 ∨ i = 11 ∨ i = 12 ∨ i = 13) with rfl | rfl | rfl | rfl | rfl | rfl | rfl | rfl | rfl | rfl | rfl | rfl | rfl | rfl
                  · obtain rfl := Option.some.inj ho
                    clear ho hdep hD
                    refine wpOp_step rfl (fun K hK => ?_)
                    go_simp
                    exact hK _ _ ⟨_, _, _, _, _, _, _, _, _, _, _, _, _, _, rfl, HI.out.at0⟩
                  · obtain rfl := Option.some.inj ho
                    clear ho hdep hD
                    refine wpOp_step rfl (fun K hK => ?_)
                    go_simp
                    exact hK _ _ ⟨_, _, _, _, _, _, _, _, _, _, _, _, _, _, rfl, HI.out.at1⟩
                  · obtain rfl := Option.some.inj ho
                    have d0 := HI.out.h0 (hdep ⟨0, .data⟩ (by simp) rfl)
                    subst d0
                    have d1 := HI.out.h1 (hdep ⟨1, .data⟩ (by simp) rfl)
                    subst d1
                    clear ho hdep hD
                    refine wpOp_step rfl (fun K hK => ?_)
                    go_simp
                    refine (Hk1.out _ HI.out.hb).mono ?_
                    rintro e w2 ⟨rfl, hb2⟩
                    exact hK _ _ ⟨_, _, _, _, _, _, _, _, _, _, _, _, _, _, rfl, (HI.out.step hb2).at2⟩
                  · obtain rfl := Option.some.inj ho
                    have d2 := HI.out.h2 (hdep ⟨2, .data⟩ (by simp) rfl)
                    subst d2
                    clear ho hdep hD
                    refine wpOp_step rfl (fun K hK => ?_)
                    go_simp
                    exact hK _ _ ⟨_, _, _, _, _, _, _, _, _, _, _, _, _, _, rfl, HI.out.at3⟩
                  · obtain rfl := Option.some.inj ho
                    have d3 := HI.out.h3 (hdep ⟨3, .guard⟩ (by simp) rfl)
                    subst d3
                    clear ho hdep hD
                    refine wpOp_step rfl (fun K hK => ?_)
                    go_simp
                    exact hK _ _ ⟨_, _, _, _, _, _, _, _, _, _, _, _, _, _, rfl, HI.out.at4⟩
                  · obtain rfl := Option.some.inj ho
                    have d3 := HI.out.h3 (hdep ⟨3, .guard⟩ (by simp) rfl)
                    subst d3
                    have HI2 := hide (HI.out.at5 hD)
                    clear ho hdep hD
                    refine wpOp_step rfl (fun K hK => ?_)
                    go_simp
                    exact hK _ _ ⟨_, _, _, _, _, _, _, _, _, _, _, _, _, _, rfl, HI2.out⟩
                  · obtain rfl := Option.some.inj ho
                    have d3 := HI.out.h3 (hdep ⟨3, .guard⟩ (by simp) rfl)
                    subst d3
                    clear ho hdep hD
                    refine wpOp_step rfl (fun K hK => ?_)
                    go_simp
                    exact hK _ _ ⟨_, _, _, _, _, _, _, _, _, _, _, _, _, _, rfl, HI.out.at6⟩
                  · obtain rfl := Option.some.inj ho
                    have d3 := HI.out.h3 (hdep ⟨3, .guard⟩ (by simp) rfl)
                    subst d3
                    have d6 := HI.out.h6 (hdep ⟨6, .data⟩ (by simp) rfl)
                    subst d6
                    have e5 := hdep ⟨5, .data⟩ (by simp) rfl
                    obtain ⟨g5, q1, q2, q3, -⟩ := HI.out.h5 e5 hD
                    have Hat := hide (fun v w4 ho hg hat => HI.out.at7 hD e5 (v := v) (w4 := w4) ho hg hat)
                    have Hown : Hid (w'.ownsRow wn.heap.size 37 7 s62 0 []) := by rw [q1]; exact own_bare q3 q2
                    clear ho hdep hD
                    refine wpOp_step rfl (fun K hK => ?_)
                    rw [if_pos (show Region.wanted _ _ = true from rfl)]
                    refine wp_append_gen (.tmp 62) (.tmp 63) 28 rfl wn.heap.size 37 iL (.agg #[.bool false, .bool false, .int .i64 0, .slice none 0 0, .bool false, .int .i64 0, .slice none 0 0]) 7 88 Try.underlying28 HX.out.2.2.2.2.1 HX.out.2.2.2.2.2.1 HX.out.2.2.2.2.2.2.1 HX.out.2.2.2.2.2.2.2 rfl (by decide) s62 0 [] rfl Hown.out (.slice c1 c.length c3) c.length n1 rfl (HC1.out _ HI.out.hb) HX.out.1 HX.out.2.1 HI.out.hb.size ?_
                    intro v4 w4 ho4 hg4 hat4
                    exact hK _ _ ⟨_, _, _, _, _, _, _, _, _, _, _, _, _, _, rfl, Hat.out v4 w4 ho4 hg4 hat4⟩
                  · obtain rfl := Option.some.inj ho
                    have d3 := HI.out.h3 (hdep ⟨3, .guard⟩ (by simp) rfl)
                    subst d3
                    clear ho hdep hD
                    refine wpOp_step rfl (fun K hK => ?_)
                    go_simp
                    exact hK _ _ ⟨_, _, _, _, _, _, _, _, _, _, _, _, _, _, rfl, HI.out.at8⟩
                  · obtain rfl := Option.some.inj ho
                    have d8 := HI.out.h8 (hdep ⟨8, .data⟩ (by simp) rfl)
                    subst d8
                    have d3 := HI.out.h3 (hdep ⟨3, .guard⟩ (by simp) rfl)
                    subst d3
                    have HI2 := hide (HI.out.at9 hD)
                    clear ho hdep hD
                    refine wpOp_step rfl (fun K hK => ?_)
                    go_simp
                    exact hK _ _ ⟨_, _, _, _, _, _, _, _, _, _, _, _, _, _, rfl, HI2.out⟩
                  · obtain rfl := Option.some.inj ho
                    have d3 := HI.out.h3 (hdep ⟨3, .guard⟩ (by simp) rfl)
                    subst d3
                    have e7 := hdep ⟨7, .data⟩ (by simp) rfl
                    have e9 := hdep ⟨9, .data⟩ (by simp) rfl
                    obtain ⟨g9, q1, q2⟩ := HI.out.h9 e9
                    have Hown := hide ((HI.out.h7 e7).2 hD).1
                    have Hat := hide (fun v w4 ho hg => HI.out.at10 e7 e9 hD (v := v) (w4 := w4) ho hg)
                    have Hcs : Hid (Cs w' s66 1 7 (litV (yn, ((yv, yi), yk), ((yv', yi'), yk')) (.slice ya (Fo.len yk) yc) (.slice za (Fo.len yk') zc))) := ⟨some ⟨g9, 0, none⟩, 1, q1, rfl, by simp [Value.oneCell'], fun e => (by cases e), fun ad e j u hj => by cases e; rw [add_plain, Nat.zero_add]; exact q2 hD j u hj⟩
                    clear ho hdep hD
                    refine wpOp_step rfl (fun K hK => ?_)
                    rw [if_pos (show Region.wanted _ _ = true from rfl)]
                    refine wp_append_gen (.tmp 64) (.tmp 66) 28 rfl wn.heap.size 37 iL (.agg #[.bool false, .bool false, .int .i64 0, .slice none 0 0, .bool false, .int .i64 0, .slice none 0 0]) 7 88 Try.underlying28 HX.out.2.2.2.2.1 HX.out.2.2.2.2.2.1 HX.out.2.2.2.2.2.2.1 HX.out.2.2.2.2.2.2.2 rfl (by decide) s64 c.length n1 rfl Hown.out s66 1 _ rfl Hcs.out HX.out.2.2.1 HX.out.2.2.2.1 HI.out.hb.size ?_
                    intro v4 w4 ho4 hg4 hat4
                    exact hK _ _ ⟨_, _, _, _, _, _, _, _, _, _, _, _, _, _, rfl, Hat.out v4 w4 ho4 hg4⟩
                  · obtain rfl := Option.some.inj ho
                    have d3 := HI.out.h3 (hdep ⟨3, .guard⟩ (by simp) rfl)
                    subst d3
                    have d4 := HI.out.h4 (hdep ⟨4, .data⟩ (by simp) rfl)
                    subst d4
                    have Hrow := hide (HI.out.h10 (hdep ⟨10, .data⟩ (by simp) rfl)).2
                    clear ho hdep hD
                    refine wpOp_step rfl (fun K hK => ?_)
                    go_simp
                    refine (Hk2.out _ _ HI.out.hb Hrow.out).mono ?_
                    rintro e w2 ⟨rfl, hb2⟩
                    exact hK _ _ ⟨_, _, _, _, _, _, _, _, _, _, _, _, _, _, rfl, (HI.out.step hb2).at11⟩
                  · obtain rfl := Option.some.inj ho
                    have d3 := HI.out.h3 (hdep ⟨3, .data⟩ (by simp) rfl)
                    subst d3
                    have d11 := HI.out.h11 (hdep ⟨11, .data⟩ (by simp) rfl)
                    subst d11
                    clear ho hdep hD
                    refine wpOp_step rfl (fun K hK => ?_)
                    go_simp
                    exact hK _ _ ⟨_, _, _, _, _, _, _, _, _, _, _, _, _, _, rfl, HI.out.at12⟩
                  · obtain rfl := Option.some.inj ho
                    have d12 := HI.out.h12 (hdep ⟨12, .data⟩ (by simp) rfl)
                    subst d12
                    clear ho hdep hD
                    refine wpOp_step rfl (fun K hK => ?_)
                    go_simp
                    exact hK _ _ ⟨_, _, _, _, _, _, _, _, _, _, _, _, _, _, rfl, HI.out.at13⟩
                · rintro D a w' ⟨s57, s58, s59, s60, s61, s62, s63, s64, s65, s66, s67, s68, s69, s10, rfl, hI⟩ hall
                  have h13 := hI.h13 (hall 13 (by decide))
                  subst h13
                  have Hb := hide hI.hb
                  clear hI hall
                  go_wp2_with fail
                  go_ret
                  exact ⟨rfl, below_step hB Hb.out⟩
        · have heb : (wrongC s [(yn, ((yv, yi), yk), ((yv', yi'), yk'))] != 0) = true := by simp [hl]
          generalize wrongC s [(yn, ((yv, yi), yk), ((yv', yi'), yk'))] = er at *
          clear hl
          go_wp2_with fail
          go_ret
          exact ⟨rfl, hB⟩
      · have heb : (wrongC s c != 0) = true := by simp [hc]
        generalize wrongC s c = er at *
        clear hc
        go_wp2_with fail
        go_ret
        exact ⟨rfl, hB⟩
    · have heb : (wrongM s z tb != 0) = true := by simp [hm]
      generalize wrongM s z tb = er at *
      clear hm
      go_wp2_with fail
      go_ret
      exact ⟨rfl, hB⟩
  · have heb : (wsig s != 0) = true := by simp [hw]
    generalize wsig s = er at *
    clear hw
    go_wp2_with fail
    go_ret
    exact ⟨rfl, hB⟩

end Go.Proofs.Ytfnkjadfepoicac

/- Bindings that came in: what a reading of them says of the memory. -/
namespace Go.Proofs.Ytfnkjadfepoicac
open Go.ChangeShapes Go.WideShapes Go.ChangeAt Go.WideMaps Go.WideElems Go.RowKit Go.Deep Go.Joins

theorem Try.cells47 : Try.prog.cellsOf 47 = 4 := by kernel_rfl

section
variable {H : Type} {enc : TypeId × Value → H} {W : World} {sp : Nat → Bool} {held : Bool}

set_option maxRecDepth 100000 in
/-- A pair's four cells. -/
theorem open_pair {fuel : Nat} {cs : List Value} {x : DataW H × List MemPlace} (h : DataW.trod enc Try.prog W 0 sp held fuel 47 cs = some x) :
    ∃ (n : Int) (v : Bool) (m : Int) (a : Value) (k : Fo), cs = [.int .i64 n, .bool v, .int .i64 m, a] ∧ SIn W k a := by
  obtain ⟨xs, m, rfl, _, hl, hlen, hf⟩ := DataW.trod_struct Try.underlying47 h
  rw [Try.cells47] at hl
  match xs, hlen, cs, hl with
  | [y0, y1], _, [c0, c1, c2, c3], _ =>
    have q0 := hf 0 _ rfl
    have q1 := hf 1 _ rfl
    simp [Try.cells3, Try.cells35] at q0 q1
    obtain ⟨n, e0, _, _⟩ := DataW.trod_int Try.underlying3 q0
    obtain ⟨v, z, a, m', y, _, e1, hy⟩ := open_term q1
    obtain ⟨k, hk⟩ := open_terms _ _ _ hy
    simp only [List.cons.injEq, and_true] at e0 e1
    obtain ⟨rfl, rfl, rfl⟩ := e1
    subst e0
    exact ⟨n, v, z, c3, k, rfl, hk⟩

theorem build_sub {b : Nat} : ∀ (n o : Nat), (∀ i, i < n → ∃ (p : Int × Tm) (a : Value), W.cell? ⟨b, o + 4 * i, none⟩ = some (.int .i64 p.1) ∧ W.cell? ⟨b, o + 4 * i + 1, none⟩ = some (.bool p.2.1.1) ∧ W.cell? ⟨b, o + 4 * i + 2, none⟩ = some (.int .i64 p.2.1.2) ∧ W.cell? ⟨b, o + 4 * i + 3, none⟩ = some a ∧ SIn W p.2.2 a) → ∃ s : Sb, s.length = n ∧ PIn W s b o
  | 0, _, _ => ⟨[], rfl, trivial⟩
  | n + 1, o, h => by
    obtain ⟨s, hl, hP⟩ := build_sub n (o + 4) (fun i hi => by
      have := h (i + 1) (by omega)
      rw [show o + 4 * (i + 1) = o + 4 + 4 * i by omega] at this
      exact this)
    obtain ⟨p, a, h0, h1, h2, h3, h4⟩ := h 0 (by omega)
    exact ⟨p :: s, by simp [hl], by simpa using h0, by simpa using h1, by simpa using h2, ⟨a, by simpa using h3, h4⟩, hP⟩

set_option maxRecDepth 100000 in
/-- Bindings by value. -/
theorem open_sub {r : Reach} {b0 : Nat} {v : Value} {d : DataW H} {p : List MemPlace} (hv : Value.okWide Try.prog W r b0 45 v) (h : DataW.Trod enc Try.prog W 0 sp held 45 v d p) : ∃ s : Sb, SubIn W s v := by
  obtain ⟨a0, len0, cap0, rfl⟩ := okWide_slice Try.underlying45 hv
  obtain ⟨fuel, hf⟩ := h
  rcases DataW.trod_slice Try.underlying45 hf with ⟨hc, _⟩ | ⟨a, len, cap, elems, rest, n, hfuel, hc, _, _, hlc, hcm, hlen, hel, _, _⟩
  · simp [Value.cells] at hc
    obtain ⟨rfl, rfl, rfl⟩ := hc
    exact ⟨[], SubIn.nil W⟩
  · simp [Value.cells] at hc
    obtain ⟨rfl, rfl, rfl⟩ := hc
    rw [Try.cells47] at hel
    obtain ⟨b, o, spot⟩ := a
    have hone : ∀ i, i < len0 → ∃ (p : Int × Tm) (v : Value), W.cell? ((⟨b, o, spot⟩ : Addr).add (i * 4)) = some (.int .i64 p.1) ∧ W.cell? (((⟨b, o, spot⟩ : Addr).add (i * 4)).add 1) = some (.bool p.2.1.1) ∧ W.cell? (((⟨b, o, spot⟩ : Addr).add (i * 4)).add 2) = some (.int .i64 p.2.1.2) ∧ W.cell? (((⟨b, o, spot⟩ : Addr).add (i * 4)).add 3) = some v ∧ SIn W p.2.2 v := fun i hi => by
      have h1 := hel i hi
      have hi' : i < elems.length := by omega
      rw [List.getElem?_eq_getElem hi'] at h1
      obtain ⟨cs, h2, h3⟩ := Option.bind_eq_some_iff.1 h1
      obtain ⟨_, hl3, hcell⟩ := World.cells?_some h2
      obtain ⟨z, tv, tn, ta, k, rfl, hk⟩ := open_pair h3
      exact ⟨(z, ((tv, tn), k)), ta, by simpa [Addr.add] using hcell 0 (by omega), by simpa using hcell 1 (by omega), by simpa using hcell 2 (by omega), by simpa using hcell 3 (by omega), hk⟩
    by_cases h0 : len0 = 0
    · subst h0
      exact ⟨[], _, cap0, 0, 0, rfl, fun h => by simp at h, Nat.zero_le _, hcm, trivial⟩
    · have hspot : spot = none := by
        obtain ⟨x, v, q0, _⟩ := hone 0 (by omega)
        simpa [Addr.add] using World.cell?_spot q0
      subst hspot
      obtain ⟨s, hs1, hs2⟩ := build_sub (W := W) (b := b) len0 o (fun i hi => by
        obtain ⟨p, v, q0, q1, q2, q3, q4⟩ := hone i hi
        refine ⟨p, v, ?_, ?_, ?_, ?_, q4⟩
        · rw [add_plain] at q0; rw [Nat.mul_comm 4 i]; exact q0
        · rw [add_plain, add_plain] at q1; rw [Nat.mul_comm 4 i]; exact q1
        · rw [add_plain, add_plain] at q2; rw [Nat.mul_comm 4 i]; exact q2
        · rw [add_plain, add_plain] at q3; rw [Nat.mul_comm 4 i]; exact q3)
      exact ⟨s, _, cap0, b, o, by rw [hs1], fun _ => rfl, by omega, hcm, hs2⟩

end

/-- The same bindings, without what is no part of them. -/
def normS (s : Sb) : Sb := s.map fun p => (p.1, (p.2.1, Fo.norm p.2.2))
theorem pin_norm {w : World} : ∀ {s : Sb} {b o : Nat}, PIn w s b o → PIn w (normS s) b o
  | [], _, _, _ => trivial
  | _ :: _, _, _, ⟨h0, h1, h2, ⟨v, h3, h4⟩, h5⟩ => ⟨h0, h1, h2, ⟨v, h3, sin_norm h4⟩, pin_norm h5⟩
theorem sub_norm {w : World} {s : Sb} {v : Value} (h : SubIn w s v) : SubIn w (normS s) v := by
  obtain ⟨a, c, b, o, rfl, h2, h3, h4, h5⟩ := h
  exact ⟨a, c, b, o, by simp [normS], by simpa [normS] using h2, by simpa [normS] using h3, h4, pin_norm h5⟩
theorem normS_norm {s : Sb} : ∀ p ∈ normS s, Fo.norm p.2.2 = p.2.2 := fun p hp => by
  simp only [normS, List.mem_map] at hp
  obtain ⟨q, _, rfl⟩ := hp
  exact norm_norm _

end Go.Proofs.Ytfnkjadfepoicac
