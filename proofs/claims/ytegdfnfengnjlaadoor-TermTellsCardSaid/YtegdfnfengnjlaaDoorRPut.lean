/- What is put at a place: the document's Put. -/
import Derived.Test.YtegdfnfengnjlaaDoorRRow
import Derived.Deep.RegionWith
namespace Go.Proofs.YtegdfnfengnjlaaDoor
open Go.RowKit Go.Deep Go.ChangeShapes Go.WideShapes
attribute [local go_sem ↓] Go.wp_at_zero Go.wp_at_succ

def putR : List Int → (Bool × Int) × Fo → (Bool × Int) × Fo → (Bool × Int) × Fo
  | [], _, u => u
  | n :: p, t, u => if n < 0 ∨ (Fo.len t.2 : Int) ≤ n then t else (t.1, setF t.2 n.toNat (fun s => putR p s u))

theorem setF_congr {f g : (Bool × Int) × Fo → (Bool × Int) × Fo} : ∀ {F : Fo} {i : Nat}, (∀ y, F.list[i]? = some y → f y = g y) → setF F i f = setF F i g
  | .nil, _, _ => rfl
  | .node _ _ x k r, 0, h => by simp [setF, h (x, k) (by simp [Fo.list])]
  | .node _ _ x k r, i + 1, h => by simp [setF, setF_congr (F := r) (i := i) (fun y hy => h y (by simpa [Fo.list] using hy))]

theorem putR_putT {s : List Int} {u : (Bool × Int) × Fo} : ∀ {p : List Int} {x : Bool × Int} {k : Fo} {d : Int}, walkT s x k d = 0 → putR p (x, k) u = putT p (x, k) u
  | [], _, _, _, _ => rfl
  | n :: p, x, k, d, h => by
    obtain ⟨_, ha, hk⟩ := walkT_ok h
    rw [putR, putT]
    by_cases hn : n < 0 ∨ (Fo.len k : Int) ≤ n
    · rw [if_pos hn, if_pos (.inr hn)]
    · rw [if_neg hn]
      have hx : ¬ x.1 = true := fun hx => by
        obtain ⟨xv, xn⟩ := x
        simp only at hx
        subst hx
        obtain ⟨hl, _⟩ := alone_var ha
        rw [hl] at hn
        simp [Fo.len] at hn
        omega
      rw [if_neg (fun h => by rcases h with h | h; exact hx h; exact hn h)]
      exact congrArg (Prod.mk x) (setF_congr fun y hy => putR_putT (walk_at hk hy))

theorem setF_each (f : (Bool × Int) × Fo → (Bool × Int) × Fo) : ∀ (F : Fo) (i j : Nat) (y : (Bool × Int) × Fo), F.list[j]? = some y → (setF F i f).list[j]? = some (if j = i then f y else y)
  | .nil, _, _, _, h => by simp [Fo.list] at h
  | .node _ _ x k r, 0, 0, y, h => by simp [Fo.list] at h; simp [setF, Fo.list, h]
  | .node _ _ x k r, 0, j + 1, y, h => by simp [Fo.list] at h; simp [setF, Fo.list, h]
  | .node _ _ x k r, i + 1, 0, y, h => by simp [Fo.list] at h; simp [setF, Fo.list, h]
  | .node _ _ x k r, i + 1, j + 1, y, h => by
    have := setF_each f r i j y (by simpa [Fo.list] using h)
    simp [setF, Fo.list, this]

/-- The j-th term of what Put makes. -/
theorem putR_at {n : Int} {p : List Int} {x : Bool × Int} {k : Fo} {u y : (Bool × Int) × Fo} {j : Nat} (hy : k.list[j]? = some y) : (putR (n :: p) (x, k) u).2.list[j]? = some (if (j : Int) = n then putR p y u else y) := by
  have hj : j < Fo.len k := by rw [← Fo.len_list]; exact (List.getElem?_eq_some_iff.1 hy).1
  rw [putR]
  by_cases hn : n < 0 ∨ (Fo.len k : Int) ≤ n
  · rw [if_pos hn, if_neg (by omega)]; exact hy
  · rw [if_neg hn]
    simp only
    rw [setF_each _ _ _ _ _ hy]
    by_cases e : (j : Int) = n
    · rw [if_pos e, if_pos (by omega)]
    · rw [if_neg e, if_neg (by omega)]
theorem putR_len (n : Int) (p : List Int) (x : Bool × Int) (k : Fo) (u : (Bool × Int) × Fo) : Fo.len (putR (n :: p) (x, k) u).2 = Fo.len k ∧ (putR (n :: p) (x, k) u).1 = x := by
  rw [putR]
  split
  · exact ⟨rfl, rfl⟩
  · exact ⟨setF_len _ _ _, rfl⟩

def PutRSaid (p : List Int) : Prop := ∀ (X : Nat → Prop) (x : Bool × Int) (k : Fo) (a pv : Value) (y : Bool × Int) (l : Fo) (c : Value) (w : World), (∀ q, X q → q < w.heap.size) → SB X w k a → SB X w l c → NIn w p pv → Fo.len k ≤ 1000 → Fo.narrow k →
    Calls Tryd.prog 28 #[.agg #[.bool x.1, .int .i64 x.2, a], pv, .agg #[.bool y.1, .int .i64 y.2, c]] w fun e w' => ∃ (z : Bool × Int) (r : Fo) (a1 : Option Addr) (a2 a3 : Nat), e = .returned (.agg #[.bool z.1, .int .i64 z.2, .slice a1 a2 a3]) ∧ SB (fun q => X q ∨ New w w' q) w' r (.slice a1 a2 a3) ∧
      z = (putR p (x, k) (y, l)).1 ∧ Fo.norm r = Fo.norm (putR p (x, k) (y, l)).2 ∧ Below w.heap.size w w'

theorem new_cell {w0 : World} {n i : Nat} {c : Array Value} {t : TypeId} (h : w0.heap.size = n) : (w0.alloc (.cells c t)).cell? ⟨n, i, none⟩ = c[i]? := by subst h; simp
theorem new_frozen {w0 : World} {n i : Nat} {c : Array Value} {t : TypeId} (h : w0.heap.size = n) : (w0.alloc (.cells c t)).frozen? ⟨n, i, none⟩ = false := by subst h; simp
theorem size2 (w : World) (o1 o2 : Obj) : ((w.alloc o1).alloc o2).heap.size = w.heap.size + 2 := by rw [World.size_alloc, World.size_alloc]
theorem size3 (w : World) (o1 o2 o3 : Obj) : (((w.alloc o1).alloc o2).alloc o3).heap.size = w.heap.size + 3 := by rw [World.size_alloc, size2]

/-- So far: j terms are copied. -/
def PutRel (w W0 : World) (X : Nat → Prop) (T : Fo) (xv : Bool) (xn : Int) (j : Nat) (wr : World) : Prop :=
  ∃ (acc : Fo) (v : Value) (xs : List Value), Fo.nl acc = (Fo.nl T).take j ∧ wr.ownsRow (w.heap.size + 4) 26 3 v (Fo.len acc) xs ∧ CellsOf (Rm (w.heap.size + 3) X wr v) wr acc xs ∧
    wr.cell? ⟨w.heap.size + 3, 0, none⟩ = some (.bool xv) ∧ wr.cell? ⟨w.heap.size + 3, 1, none⟩ = some (.int .i64 xn) ∧ wr.cell? ⟨w.heap.size + 3, 2, none⟩ = some v ∧ (∀ i, wr.frozen? ⟨w.heap.size + 3, i, none⟩ = false) ∧ Below (w.heap.size + 3) W0 wr

theorem nl_take {T : Fo} {j : Nat} {z : (Bool × Int) × Fo} (h : T.list[j]? = some z) : (Fo.nl T).take (j + 1) = (Fo.nl T).take j ++ [(z.1, Fo.norm z.2)] := by
  rw [List.take_add_one]
  congr 1
  simp [Fo.nl, h]

theorem put_next {w W0 wr w1 w3 : World} {X : Nat → Prop} {T acc r : Fo} {xv : Bool} {xn : Int} {j : Nat} {v v' a : Value} {z z' : Bool × Int} {r' : Fo} {g cap : Nat} {xs : List Value} {ob : Obj}
    (hnl : Fo.nl acc = (Fo.nl T).take j) (h1 : wr.ownsRow (w.heap.size + 4) 26 3 v (Fo.len acc) xs) (h2 : CellsOf (Rm (w.heap.size + 3) X wr v) wr acc xs) (hX : ∀ q, X q → q < w.heap.size)
    (q0 : wr.cell? ⟨w.heap.size + 3, 0, none⟩ = some (.bool xv)) (q1 : wr.cell? ⟨w.heap.size + 3, 1, none⟩ = some (.int .i64 xn)) (q2 : wr.cell? ⟨w.heap.size + 3, 2, none⟩ = some v) (qf : ∀ i, wr.frozen? ⟨w.heap.size + 3, i, none⟩ = false)
    (hB3 : Below (w.heap.size + 3) W0 wr) (hb : Below wr.heap.size wr w1) (hk : SB (fun q => X q ∨ (wr.heap.size ≤ q ∧ q < w1.heap.size)) w1 r a) (hTj : T.list[j]? = some (z', r')) (hz : z = z') (hr : Fo.norm r = Fo.norm r')
    (hv' : v' = .slice (some ⟨g, 0, none⟩) (Fo.len acc + 1) cap) (ho : w3.ownsRow (w.heap.size + 4) 26 3 v' (Fo.len acc + 1) (xs ++ [.bool z.1, .int .i64 z.2, a])) (hg : (w1.alloc ob).grownBy w3 v.ownBlock)
    (hat : v.ownBlock = some g ∨ g = w1.heap.size + 1) (hlt : g < w3.heap.size) : PutRel w W0 X T xv xn (j + 1) (w3.setCell ⟨w.heap.size + 3, 2, none⟩ v') := by
  have hBl : w.heap.size + 3 < wr.heap.size := World.block_lt_of_cell? _ _ q0
  obtain ⟨r1, r2, r3, r4, r5, r6, r7⟩ := row_step (B := w.heap.size + 3) (x := z) (k := r) h1 h2 (fun q hq => by have := hX q hq; omega) hBl ⟨_, q2⟩ hb.size (fun q _ hq => hb.block q hq) hk hv' ho hg hat hlt
  refine ⟨Fo.snoc acc z r, v', _, ?_, r1, r2, (r5 0 (by omega)).trans q0, (r5 1 (by omega)).trans q1, r3, fun i => (r6 i).trans (qf i), ?_⟩
  · rw [nl_snoc, nl_take hTj, hnl, hz, hr]
  · have hb1 : Below (w.heap.size + 3) W0 w1 := hB3.trans (hb.mono (by omega))
    have hb2 : Below (w.heap.size + 3) W0 (w1.alloc ob) := hb1.alloc (by have := hb.size; omega) _
    exact (hb2.grown hg (by simp; have := hb.size; omega) (fun q hq => by have := (owns_at h1 q hq).1; omega)).setCell (by simp) _

theorem out_cell {wa w3 : World} {ob : Obj} {row : Option Nat} {B i : Nat} {u : Value} (hg : (wa.alloc ob).grownBy w3 row) (hB : B < wa.heap.size) (hn : some B ≠ row) (h : wa.cell? ⟨B, i, none⟩ = some u) : w3.cell? ⟨B, i, none⟩ = some u := by
  rw [hg.cell_far ⟨B, i, none⟩ (by simp; omega) hn, World.cell?_alloc_lt _ _ _ hB]; exact h
theorem out_frozen {wa w3 : World} {ob : Obj} {row : Option Nat} {B : Nat} (hg : (wa.alloc ob).grownBy w3 row) (hB : B < wa.heap.size) (hn : some B ≠ row) (h : ∀ i, wa.frozen? ⟨B, i, none⟩ = false) : ∀ i, w3.frozen? ⟨B, i, none⟩ = false := fun i => by
  rw [hg.frozen_far ⟨B, i, none⟩ (by simp; omega) hn, World.frozen?_of_block (Below.heap_alloc wa ob B hB)]; exact h i

set_option maxHeartbeats 2000000 in
set_option maxRecDepth 100000 in
theorem putR_any : ∀ p : List Int, PutRSaid p := by
  intro p
  induction p with
  | nil =>
    intro X x k a pv y l c w hX hS hU hN hl hn
    obtain ⟨xv, xn⟩ := x
    obtain ⟨yv, yn⟩ := y
    have HU := hide hU
    have HX := hide hX
    obtain ⟨ad, tc, b, o, rfl, -, -, -, -⟩ := hS
    obtain ⟨ud, uc, ub, uo, rfl, -, -, -, -⟩ := hU
    obtain ⟨pa, pc, pb, po, rfl, -, -, -, -⟩ := hN
    clear hX
    have hBB : Below w.heap.size w (((w.alloc (.cells #[.bool xv, .int .i64 xn, .slice ad (Fo.len k) tc] 26)).alloc (.cells #[.bool yv, .int .i64 yn, .slice ud (Fo.len l) uc] 26)).alloc (.cells #[.bool yv, .int .i64 yn, .slice ud (Fo.len l) uc] 26)) := ((below_alloc _ _).alloc (by simp) _).alloc (by simp; omega) _
    have HBB := hide hBB
    clear hBB
    go_enter Tryd.func28, Tryd.ntmps28
    go_wp2_with fail
    exact bodyPost_ret (v := .agg #[.bool yv, .int .i64 yn, .slice ud (Fo.len l) uc]) (by simp [results, Tryd.results28, go_sem]) rfl ⟨(yv, yn), l, _, _, _, rfl, (HU.out.grow HX.out HBB.out).frame (fun _ h => .inl h) (fun _ _ _ => rfl), rfl, rfl, HBB.out⟩
  | cons n p ih =>
    intro X x k a pv y l c w hX hS hU hN hl hn
    obtain ⟨xv, xn⟩ := x
    obtain ⟨yv, yn⟩ := y
    have HU := hide hU
    have HS := hide hS
    have HX := hide hX
    have HI := hide ih
    have Hn := hide hn
    obtain ⟨ad, tc, b, o, rfl, had, hlc, hcm, hF⟩ := hS
    obtain ⟨ud, uc, ub, uo, rfl, -, -, -, -⟩ := hU
    obtain ⟨pa, pc, pb, po, rfl, hpa, hplc, hpcm, hpF⟩ := hN
    have hpa' : pa = some ⟨pb, po, none⟩ := hpa (by simp)
    subst hpa'
    unfold maxLen at hcm
    have HF := hide hF
    have hp0 : w.cell? ⟨pb, po, none⟩ = some (.int .i64 n) := by simpa using hpF 0 (by simp)
    simp only [List.length_cons] at hplc ⊢
    obtain ⟨ta, tc', hsl, htl⟩ := nums_tail (n := n) (b := pb) (o := po) hplc hpcm
    have HNp : Hid (NIn w p (.slice ta p.length tc')) := htl w (by simpa using hpF)
    have hpm : pc ≤ 9223372036854775807 := by unfold maxLen at hpcm; omega
    obtain ⟨T, hT⟩ : ∃ T, T = (putR (n :: p) ((xv, xn), k) ((yv, yn), l)).2 := ⟨_, rfl⟩
    have HT := hide hT
    have Hl := hide (Fo.len_list k)
    clear ih hF hpF hpa htl hpcm hX hn hT
    go_enter Tryd.func28, Tryd.ntmps28
    go_wp2_with fail
    go_loopw [22] (fun i wr => ∃ j : Nat, j ≤ Fo.len k ∧ i = .int .i64 j ∧ PutRel w (((w.alloc (.cells #[.bool xv, .int .i64 xn, .slice ad (Fo.len k) tc] 26)).alloc (.cells #[.bool yv, .int .i64 yn, .slice ud (Fo.len l) uc] 26)).alloc (.cells #[.bool false, .int .i64 0, .slice none 0 0] 26)) X T xv xn j wr) (fun i _ => Fo.len k - (intOf i).toNat)
    case atStart =>
      refine ⟨0, Nat.zero_le _, rfl, .nil, .slice none 0 0, [], by simp [Fo.nl, Fo.list], ⟨rfl, .inl ⟨rfl, rfl⟩⟩, rfl, new_cell (size3 _ _ _ _), new_cell (size3 _ _ _ _), new_cell (size3 _ _ _ _), fun i => new_frozen (size3 _ _ _ _), ?_⟩
      exact (Below.refl _ _).alloc (Nat.le_of_eq (size3 _ _ _ _).symm) _
    case round =>
      obtain ⟨j, hj, rfl, acc, v, xs, hnl, hR1, hR2, q0, q1, q2, qf, hB3⟩ := hrel
      have HR1 := hide hR1
      have HR2 := hide hR2
      have Hnl := hide hnl
      have HB3 := hide hB3
      have Hqf := hide qf
      have u0 : wr.cell? ⟨w.heap.size + 1, 0, none⟩ = some (.bool yv) := by rw [hB3.cell (by show w.heap.size + 1 < _; omega), World.cell?_alloc_lt _ _ _ (by show w.heap.size + 1 < _; rw [size2]; omega)]; exact new_cell (World.size_alloc _ _)
      have u1 : wr.cell? ⟨w.heap.size + 1, 1, none⟩ = some (.int .i64 yn) := by rw [hB3.cell (by show w.heap.size + 1 < _; omega), World.cell?_alloc_lt _ _ _ (by show w.heap.size + 1 < _; rw [size2]; omega)]; exact new_cell (World.size_alloc _ _)
      have u2 : wr.cell? ⟨w.heap.size + 1, 2, none⟩ = some (.slice ud (Fo.len l) uc) := by rw [hB3.cell (by show w.heap.size + 1 < _; omega), World.cell?_alloc_lt _ _ _ (by show w.heap.size + 1 < _; rw [size2]; omega)]; exact new_cell (World.size_alloc _ _)
      have hBw : Below w.heap.size w wr := (((below_alloc _ _).alloc (by simp) _).alloc (by simp; omega) _).trans (hB3.mono (by omega))
      have hBlt : w.heap.size + 3 < wr.heap.size := World.block_lt_of_cell? _ _ q0
      have hp0' := grow_cell hBw _ _ hp0
      obtain ⟨z1, z3, rfl⟩ := slice_of_owns hR1
      clear hR1 hR2 hnl hB3
      by_cases hlt : j < Fo.len k
      · have hlt' : (j : Int) < (Fo.len k : Int) := by omega
        have hj0 : (0 : Int) ≤ (j : Int) := by omega
        have had' : ad = some ⟨b, o, none⟩ := (had (by omega)).1
        subst had'
        obtain ⟨⟨⟨ev, en⟩, ek⟩, hy⟩ : ∃ y, k.list[j]? = some y := ⟨k.list[j]'(by rw [Hl.out]; exact hlt), by simp⟩
        have HSe' := HF.out.at hy
        obtain ⟨c0, c1, yv', c2, hSy⟩ := HSe'
        have c0' := grow_cell hBw _ _ c0
        have c1' := grow_cell hBw _ _ c1
        have c2' := grow_cell hBw _ _ c2
        have HSy := hide (hSy.grow HX.out hBw)
        obtain ⟨ya, yc, yb, yo, rfl, -, -, -, -⟩ := hSy
        have Hy := hide hy
        clear hy had c0 c1 c2
        obtain ⟨i26, hi26, hz0, hz1, hz2⟩ := info_parts Tryd.info26
        have hacc : Fo.len acc = j := by
          have h1 := nl_len acc
          have h2 := nl_len T
          have h3 := (putR_len n p (xv, xn) k ((yv, yn), l)).1
          rw [Hnl.out, List.length_take, h2, HT.out, h3] at h1
          omega
        have hn1 : Fo.len acc + 1 ≤ maxLen := by unfold maxLen; omega
        have hn2 : (Fo.len acc + 1) * 40 ≤ 140737488355328 := by omega
        have HTj := hide (HT.out ▸ putR_at (n := n) (p := p) (x := (xv, xn)) (u := ((yv, yn), l)) Hy.out)
        clear hacc
        go_upto_region 7 with fail
        generalize hwa : wr.alloc (.cells #[.bool ev, .int .i64 en, .slice ya (Fo.len ek) yc] 26) = wa
        have e0 : wa.cell? ⟨wr.heap.size, 0, none⟩ = some (.bool ev) := by rw [← hwa]; simp
        have e1 : wa.cell? ⟨wr.heap.size, 1, none⟩ = some (.int .i64 en) := by rw [← hwa]; simp
        have e2 : wa.cell? ⟨wr.heap.size, 2, none⟩ = some (.slice ya (Fo.len ek) yc) := by rw [← hwa]; simp
        have ef : ∀ i, wa.frozen? ⟨wr.heap.size, i, none⟩ = false := fun i => by rw [← hwa]; simp
        have hba : Below wr.heap.size wr wa := by rw [← hwa]; exact below_alloc _ _
        have hsa : wr.heap.size < wa.heap.size := World.block_lt_of_cell? _ _ e0
        have f2 := grow_cell hba _ _ q2
        have g0 := grow_cell hba _ _ hp0'
        have v0 := grow_cell hba _ _ u0
        have v1 := grow_cell hba _ _ u1
        have v2 := grow_cell hba _ _ u2
        have ff : ∀ i, wa.frozen? ⟨w.heap.size + 3, i, none⟩ = false := fun i => (hba.frozen hBlt).trans (Hqf.out i)
        have hBa : w.heap.size + 3 < wa.heap.size := by omega
        have Hno : Hid (some (w.heap.size + 3) ≠ (Value.slice z1 (Fo.len acc) z3).ownBlock) := fun e => by have := (owns_at HR1.out _ e.symm).1; omega
        clear hwa u0 u1 u2 hp0' c0' c1' c2'
        by_cases hjn : (j : Int) = n
        · have hjb : ((j : Int) == n) = true := by simpa using hjn
          rw [if_pos hjn] at HTj
          have hne1 : wr.heap.size ≠ pb := by have := World.block_lt_of_cell? _ _ hp0; have := hBw.size; simp only at *; omega
          have hne2 : wr.heap.size ≠ w.heap.size + 1 := by omega
          have Hek := hide (narrow_at Hn.out Hy.out)
          clear hjn hp0
          go_upto_region 8 with fail
          go_cut [36] (fun _ wx => ∃ (zv : Bool) (zn : Int) (zr : Fo) (a1 : Option Addr) (a2 a3 : Nat), wx.cell? ⟨wr.heap.size, 0, none⟩ = some (.bool zv) ∧ wx.cell? ⟨wr.heap.size, 1, none⟩ = some (.int .i64 zn) ∧ wx.cell? ⟨wr.heap.size, 2, none⟩ = some (.slice a1 a2 a3) ∧ SB (fun q => X q ∨ (wr.heap.size ≤ q ∧ q < wx.heap.size)) wx zr (.slice a1 a2 a3) ∧ (zv, zn) = (putR p ((ev, en), ek) ((yv, yn), l)).1 ∧ Fo.norm zr = Fo.norm (putR p ((ev, en), ek) ((yv, yn), l)).2 ∧ Below wr.heap.size wr wx)
          case first =>
            go_region_with (first
              | (go_at_call 28; refine (HI.out X (ev, en) ek _ _ (yv, yn) l _ _ ?_ ?_ ?_ ?_ Hek.out.1 Hek.out.2).mono ?_; (exact fun q hq => Nat.lt_of_lt_of_le (HX.out q hq) (Nat.le_trans hBw.size hba.size)); (exact (HSy.out.grow (fun q hq => Nat.lt_of_lt_of_le (HX.out q hq) hBw.size) hba).frame (fun _ h => h) (fun _ _ _ => rfl)); (exact (HU.out.grow HX.out (below_step hBw hba)).frame (fun _ h => h) (fun _ _ _ => rfl)); (exact (HNp.out.below (below_step hBw hba)).drew)
                 rintro e w2 ⟨⟨zv, zn⟩, zr, a1, a2, a3, rfl, hSz, hzz, hzr, hb2⟩; have e0' := grow_cell hb2 _ _ e0; have e1' := grow_cell hb2 _ _ e1; have e2' := grow_cell hb2 _ _ e2; have ef' : ∀ i, w2.frozen? ⟨wr.heap.size, i, none⟩ = false := (fun i => (hb2.frozen hsa).trans (ef i))))
            all_goals
              go_wp2_with fail
              go_meet
              case rel =>
                obtain ⟨s0, s1, s2⟩ := set3_cells (w := w2) (b := wr.heap.size) (o := 0) (x := .bool zv) (y := .int .i64 zn) (z := .slice a1 a2 a3) e0' e1' e2'
                refine ⟨zv, zn, zr, a1, a2, a3, s0, s1, s2, ?_, hzz, hzr, set3_below (o := 0) (below_step hba (((Below.refl _ _).drew).trans hb2)) (Nat.le_refl _)⟩
                refine (hSz.set3 (b := wr.heap.size) (o := 0) ?_).frame (fun q hq => ?_) (fun _ _ _ => rfl)
                · intro h
                  rcases h with h | h
                  · have := HX.out _ h; omega
                  · have h1 : wa.heap.size ≤ wr.heap.size := h.1
                    omega
                · rcases hq with h | h
                  · exact .inl h
                  · have h1 : wa.heap.size ≤ q := h.1
                    exact .inr ⟨by omega, by rw [World.size_setCell, World.size_setCell, World.size_setCell]; exact h.2⟩
          case rest =>
            obtain ⟨zv, zn, zr, a1, a2, a3, s0, s1, s2, hSz, hzz, hzr, hbc⟩ := hcut
            generalize wc = wb at *
            have HSz := hide hSz
            have Hzz := hide hzz
            have Hzr := hide hzr
            have hsc := hbc.size
            have hBc : w.heap.size + 3 < wb.heap.size := by omega
            have f2' := grow_cell hbc _ _ q2
            have ff' : ∀ i, wb.frozen? ⟨w.heap.size + 3, i, none⟩ = false := fun i => (hbc.frozen hBlt).trans (Hqf.out i)
            have Hown : Hid ((wb.alloc (.cells #[.bool zv, .int .i64 zn, .slice a1 a2 a3] 26)).ownsRow (w.heap.size + 4) 26 3 (.slice z1 (Fo.len acc) z3) (Fo.len acc) xs) :=
              owns_keep HR1.out (fun g hg => by
                have h1 := (owns_at HR1.out g hg).2
                rw [Below.heap_alloc _ _ _ (by omega), hbc.block g h1])
            have Hnews : Hid (∀ j u, [Value.bool zv, .int .i64 zn, .slice a1 a2 a3][j]? = some u → (wb.alloc (.cells #[.bool zv, .int .i64 zn, .slice a1 a2 a3] 26)).cell? ((⟨wb.heap.size, 0, none⟩ : Addr).add j) = some u) :=
              World.news_of_block (cs := #[.bool zv, .int .i64 zn, .slice a1 a2 a3]) (heap_alloc_new wb _)
            have hwz : w.heap.size + 4 ≤ wb.heap.size + 1 := by omega
            clear hSz hzz hzr e0 e1 e2 ef f2 g0 v0 v1 v2 ff hba hsa hBa
            go_wp2_with (at_builtin; refine wpList_append_lies _ rfl (.tmp 38) (.tmp 40) 24 rfl (w.heap.size + 4) 26 i26 (.agg #[.bool false, .int .i64 0, .slice none 0 0]) 3 40 Tryd.underlying24 hi26 hz0 hz1 hz2 rfl (by decide) (.slice z1 (Fo.len acc) z3) (Fo.len acc) xs rfl Hown.out ⟨wb.heap.size, 0, none⟩ 1 1 [.bool zv, .int .i64 zn, .slice a1 a2 a3] rfl rfl Hnews.out (by simp [Value.oneCell']) (by decide) hn1 hn2 (by simpa using hwz) (wb.heap.size + 1) (by simp) ?_; intro g cap w3 ho3 hg3 hat3 hlt3; have x2 := out_cell hg3 hBc Hno.out f2'; have xf := out_frozen hg3 hBc Hno.out ff')
            have Hst := hide (put_next (z := (zv, zn)) (a := .slice a1 a2 a3) Hnl.out HR1.out HR2.out HX.out q0 q1 q2 Hqf.out HB3.out hbc HSz.out HTj.out Hzz.out Hzr.out rfl ho3 hg3 hat3 hlt3)
            clear ho3 hg3 hat3 hlt3 Hown Hnews hi26 hz0 hz1 hz2 x2 xf
            refine ⟨?_, ?measure⟩
            · repeat apply Exists.intro
              refine ⟨?_, rfl⟩
              exact ⟨j + 1, by omega, by go_num, Hst.out⟩
            case measure => simp [intOf]; omega
        · have hjb : ((j : Int) == n) = false := by simpa using hjn
          rw [if_neg hjn] at HTj
          have Hown : Hid ((wa.alloc (.cells #[.bool ev, .int .i64 en, .slice ya (Fo.len ek) yc] 26)).ownsRow (w.heap.size + 4) 26 3 (.slice z1 (Fo.len acc) z3) (Fo.len acc) xs) :=
            owns_keep HR1.out (fun g hg => by
              have h1 := (owns_at HR1.out g hg).2
              rw [Below.heap_alloc _ _ _ (by omega), hba.block g h1])
          have Hnews : Hid (∀ j u, [Value.bool ev, .int .i64 en, .slice ya (Fo.len ek) yc][j]? = some u → (wa.alloc (.cells #[.bool ev, .int .i64 en, .slice ya (Fo.len ek) yc] 26)).cell? ((⟨wa.heap.size, 0, none⟩ : Addr).add j) = some u) :=
            World.news_of_block (cs := #[.bool ev, .int .i64 en, .slice ya (Fo.len ek) yc]) (heap_alloc_new wa _)
          have hwz : w.heap.size + 4 ≤ wa.heap.size + 1 := by omega
          clear hjn
          go_wp2_with (at_builtin; refine wpList_append_lies _ rfl (.tmp 38) (.tmp 40) 24 rfl (w.heap.size + 4) 26 i26 (.agg #[.bool false, .int .i64 0, .slice none 0 0]) 3 40 Tryd.underlying24 hi26 hz0 hz1 hz2 rfl (by decide) (.slice z1 (Fo.len acc) z3) (Fo.len acc) xs rfl Hown.out ⟨wa.heap.size, 0, none⟩ 1 1 [.bool ev, .int .i64 en, .slice ya (Fo.len ek) yc] rfl rfl Hnews.out (by simp [Value.oneCell']) (by decide) hn1 hn2 (by simpa using hwz) (wa.heap.size + 1) (by simp) ?_; intro g cap w3 ho3 hg3 hat3 hlt3; have x2 := out_cell hg3 hBa Hno.out f2; have xf := out_frozen hg3 hBa Hno.out ff)
          have Hst := hide (put_next (z := (ev, en)) (a := .slice ya (Fo.len ek) yc) Hnl.out HR1.out HR2.out HX.out q0 q1 q2 Hqf.out HB3.out hba ((HSy.out.grow (fun q hq => Nat.lt_of_lt_of_le (HX.out q hq) hBw.size) hba).frame (fun _ h => .inl h) (fun _ _ _ => rfl)) HTj.out rfl rfl rfl ho3 hg3 hat3 hlt3)
          clear ho3 hg3 hat3 hlt3 Hown Hnews hi26 hz0 hz1 hz2 x2 xf
          refine ⟨?_, ?measure⟩
          · repeat apply Exists.intro
            refine ⟨?_, rfl⟩
            exact ⟨j + 1, by omega, by go_num, Hst.out⟩
          case measure => simp [intOf]; omega
      · have hje : j = Fo.len k := by omega
        have Hfin : Hid (Fo.norm acc = Fo.norm T) := nl_norm (by
          rw [Hnl.out, List.take_of_length_le]
          rw [nl_len, HT.out, (putR_len n p (xv, xn) k ((yv, yn), l)).1]
          omega)
        have r0 : wr.cell? ⟨w.heap.size + 2, 0, none⟩ = some (.bool false) := by rw [HB3.out.cell (by show w.heap.size + 2 < _; omega)]; exact new_cell (size2 _ _ _)
        have r1 : wr.cell? ⟨w.heap.size + 2, 1, none⟩ = some (.int .i64 0) := by rw [HB3.out.cell (by show w.heap.size + 2 < _; omega)]; exact new_cell (size2 _ _ _)
        have r2 : wr.cell? ⟨w.heap.size + 2, 2, none⟩ = some (.slice none 0 0) := by rw [HB3.out.cell (by show w.heap.size + 2 < _; omega)]; exact new_cell (size2 _ _ _)
        have rf : ∀ i, wr.frozen? ⟨w.heap.size + 2, i, none⟩ = false := fun i => by rw [HB3.out.frozen (by show w.heap.size + 2 < _; omega)]; exact new_frozen (size2 _ _ _)
        have HSB : Hid (SB (fun q => X q ∨ (w.heap.size + 4 ≤ q ∧ q < wr.heap.size)) wr acc (.slice z1 (Fo.len acc) z3)) := row_sb HR1.out HR2.out (fun q hq => by rcases hq with h | h; exact .inl h; exact .inr ⟨h.1, h.2.1⟩) (fun g hg => .inr (owns_at HR1.out g hg))
        clear hje
        go_wp2_with fail
        refine bodyPost_ret (v := .agg #[.bool xv, .int .i64 xn, .slice z1 (Fo.len acc) z3]) (by simp [results, Tryd.results28, go_sem, r0, r1, r2]) rfl ⟨(xv, xn), acc, _, _, _, rfl, ?_, (putR_len n p (xv, xn) k ((yv, yn), l)).2.symm, by rw [Hfin.out, HT.out], set3_below (o := 0) hBw (by omega)⟩
        refine (HSB.out.set3 (b := w.heap.size + 2) (o := 0) ?_).frame (fun q hq => ?_) (fun _ _ _ => rfl)
        · intro h
          rcases h with h | h
          · have := HX.out _ h; omega
          · omega
        · rcases hq with h | h
          · exact .inl h
          · exact .inr ⟨by omega, by have := h.2; simp [World.setCell]; exact this⟩

end Go.Proofs.YtegdfnfengnjlaaDoor
