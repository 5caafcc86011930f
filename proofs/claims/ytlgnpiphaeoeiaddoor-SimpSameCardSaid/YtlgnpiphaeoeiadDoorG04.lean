/- TextW Vars Alive PutP Open TurnsP -/
import Derived.Test.YtlgnpiphaeoeiadDoorG03
import Derived.Lib.SmallJoins
import Derived.Deep.Strs
import Derived.LaidMore
import Derived.OpenShut
import Derived.Stop.Joined
namespace Go.Proofs.YtlgnpiphaeoeiadDoor
open Go.RowKit Go.Deep Go.ChangeShapes Go.WideShapes
def sym (n : Int) : UInt8 := UInt8.ofNat (97 + n.toNat)
def textF : Fo → Int → List UInt8
  | .nil, _ => []
  | .node _ _ x k r, i => (signF i :: (if x.1 then [88, dig x.2] else sym x.2 :: (if Fo.len k = 0 then [] else textF k 0 ++ [41]))) ++ textF r (i + 1)
def textT (x : Bool × Int) (k : Fo) : List UInt8 := if x.1 then [88, dig x.2] else sym x.2 :: (if Fo.len k = 0 then [] else textF k 0 ++ [41])
def txTo (k : Fo) (j : Nat) : List UInt8 := textF (Fo.take j k) 0
theorem textF_snoc : ∀ {F : Fo} {j : Nat} {x : Bool × Int} {k : Fo} (i : Int), F.list[j]? = some (x, k) → textF (Fo.take (j + 1) F) i = textF (Fo.take j F) i ++ signF (i + j) :: textT x k
  | .nil, _, _, _, _, h => by simp [Fo.list] at h
  | .node _ _ y l r, 0, x, k, i, h => by
    simp only [Fo.list, List.getElem?_cons_zero, Option.some.injEq, Prod.mk.injEq] at h
    obtain ⟨rfl, rfl⟩ := h
    simp [Fo.take, textF, textT]
  | .node _ _ y l r, j + 1, x, k, i, h => by
    have := textF_snoc (F := r) (j := j) (i + 1) (by simpa [Fo.list] using h)
    simp only [Fo.take, textF] at this ⊢
    have e : i + 1 + (j : Int) = i + ((j + 1 : Nat) : Int) := by omega
    rw [this, e, List.append_assoc]
theorem txTo_succ {k : Fo} {j : Nat} {x : Bool × Int} {l : Fo} (h : k.list[j]? = some (x, l)) : txTo k (j + 1) = txTo k j ++ signF j :: textT x l := by
  rw [txTo, textF_snoc 0 h]; simp [txTo]
theorem txTo_end (k : Fo) : txTo k (Fo.len k) = textF k 0 := by rw [txTo, take_all]
theorem textF_take_le : ∀ (F : Fo) (j : Nat) (i : Int), (textF (Fo.take j F) i).length ≤ (textF F i).length
  | _, 0, _ => by simp [Fo.take, textF]
  | .nil, _ + 1, _ => by simp [Fo.take]
  | .node _ _ x k r, j + 1, i => by
    have := textF_take_le r j (i + 1)
    simp only [Fo.take, textF, List.length_append]
    omega
theorem txTo_le (k : Fo) (j : Nat) : (txTo k j).length ≤ (textF k 0).length := textF_take_le k j 0
def Fo.texts : Fo → Prop
  | .nil => True
  | .node _ _ x k r => (0 ≤ x.2 ∧ x.2 ≤ (if x.1 then 4 else 100)) ∧ Fo.texts k ∧ Fo.texts r
theorem texts_at : ∀ {F : Fo} {j : Nat} {x : Bool × Int} {k : Fo}, Fo.texts F → F.list[j]? = some (x, k) → (0 ≤ x.2 ∧ x.2 ≤ (if x.1 then 4 else 100)) ∧ Fo.texts k
  | .nil, _, _, _, _, h => by simp [Fo.list] at h
  | .node _ _ y l r, 0, x, k, hn, h => by
    simp only [Fo.list, List.getElem?_cons_zero, Option.some.injEq, Prod.mk.injEq] at h
    obtain ⟨rfl, rfl⟩ := h
    exact ⟨hn.1, hn.2.1⟩
  | .node _ _ y l r, j + 1, x, k, hn, h => texts_at (F := r) hn.2.2 (by simpa [Fo.list] using h)
theorem str_of_row {w : World} {base g cap : Nat} {T : List UInt8} (h : w.ownsRow base 5 1 (.slice (some ⟨g, 0, none⟩) T.length cap) T.length (bytesV T)) :
    (convert 78 9 (.slice (some ⟨g, 0, none⟩) T.length cap)).run Tryd.prog w = .ok (str T) w := by
  have h2 := run_convert_bytes_arg (P := Tryd.prog) w 78 5 Tryd.underlying78 Tryd.underlying5 g 0 T.length cap (T.map fun b => (b.toNat : Int)) (by simp) (fun i hi => by
    rw [Nat.zero_add, h.cellAt i (by omega)]
    simp [List.getD_eq_getElem?_getD, hi]) 9 Tryd.underlying9
  rw [h2]
  have e : strOfNums (T.map fun b => (b.toNat : Int)) = ⟨T.toArray⟩ := by
    have : ∀ l : List UInt8, (l.map fun b => (b.toNat : Int)).map (fun n => UInt8.ofNat n.toNat) = l := fun l => by
      rw [List.map_map]
      conv => rhs; rw [← List.map_id l]
      exact List.map_congr_left fun b _ => by simp
    rw [strOfNums, this]
  rw [e]
end Go.Proofs.YtlgnpiphaeoeiadDoor

namespace Go.Proofs.YtlgnpiphaeoeiadDoor
open Go.RowKit Go.Deep Go.ChangeShapes Go.WideShapes
def hasB (l : List Int) (x : Int) : Bool := decide (x ∈ l)
set_option maxRecDepth 100000 in
set_option maxHeartbeats 400000 in
theorem index_any (l : List Int) (x : Int) (v : Value) (w : World) (hN : NIn w l v) :
    Calls Tryd.prog 98 #[v, .int .i64 x] w fun e w' => ∃ i : Int, e = .returned (.int .i64 i) ∧ (decide (0 ≤ i) = hasB l x) ∧ w' = w := by
  obtain ⟨ad, c, b, o, rfl, had, hlc, hcm, hF⟩ := hN
  unfold maxLen at hcm
  have HF := hide hF
  clear hF
  go_enter Tryd.func98, Tryd.ntmps98
  go_wp2_with fail
  go_loop [8] (fun i => ∃ j : Nat, j ≤ l.length ∧ i = .int .i64 j ∧ ∀ q, q < j → l.getD q 0 ≠ x) (fun i => l.length - (intOf i).toNat)
  case atStart => exact ⟨0, Nat.zero_le _, rfl, fun q hq => by omega⟩
  case round =>
    obtain ⟨j, hj, rfl, hno⟩ := hrel
    have Hno := hide hno
    clear hno
    by_cases hlt : j < l.length
    · have hlt' : (j : Int) < (l.length : Int) := by omega
      have hc := HF.out j hlt
      have Hmem : Hid (l.getD j 0 ∈ l) := by
        rw [Hid, List.getD_eq_getElem?_getD, List.getElem?_eq_getElem hlt]; simp
      have ha : ad = some ⟨b, o, none⟩ := had (by omega)
      subst ha
      have Hnx : Hid (l.getD j 0 ≠ x → ∀ q, q < j + 1 → l.getD q 0 ≠ x) := fun h q hq => by
        by_cases e : q = j
        · rw [e]; exact h
        · exact Hno.out q (by omega)
      generalize l.getD j 0 = z at *
      by_cases he : x = z
      · have heb : (x == z) = true := by simp [he]
        have Hf : Hid (decide ((0 : Int) ≤ (j : Int)) = hasB l x) := by
          rw [Hid, hasB, he, decide_eq_true Hmem.out]; simp
        clear he had
        go_wp2_with fail
        go_ret
        exact ⟨_, rfl, Hf.out, rfl⟩
      · have heb : (x == z) = false := by simp [he]
        have Hn := hide (Hnx.out (fun e => he e.symm))
        clear he had
        go_wp2_with fail
        go_round
        case rel => exact ⟨j + 1, by omega, by go_num, Hn.out⟩
        case measure => simp [intOf]; omega
    · have Hf : Hid (decide ((0 : Int) ≤ -1) = hasB l x) := by
        have : x ∉ l := fun h => by
          obtain ⟨q, hq, e⟩ := List.mem_iff_getElem.1 h
          exact Hno.out q (by omega) (by rw [List.getD_eq_getElem?_getD, List.getElem?_eq_getElem hq]; exact e)
        rw [Hid, hasB, decide_eq_false this]; rfl
      clear had
      go_wp2_with fail
      go_ret
      exact ⟨_, rfl, Hf.out, rfl⟩
set_option maxRecDepth 100000 in
set_option maxHeartbeats 400000 in
theorem contains_any (l : List Int) (x : Int) (v : Value) (w : World) (hN : NIn w l v) :
    Calls Tryd.prog 87 #[v, .int .i64 x] w fun e w' => e = .returned (.bool (hasB l x)) ∧ w' = w := by
  have HN := hide hN
  obtain ⟨ad, c, b, o, rfl, -, -, -, -⟩ := hN
  go_enter Tryd.func87, Tryd.ntmps87
  go_wp2_with fail
  refine (index_any l x _ w HN.out).mono ?_
  rintro e w' ⟨i, rfl, hi, hw'⟩
  rw [hw']
  have Hi := hide hi
  clear hw' w' hi
  go_wp2_with fail
  go_ret
  exact ⟨by rw [← Hi.out]; rfl, rfl⟩
def varsF : Fo → List Int → List Int
  | .nil, l => l
  | .node _ _ x k r, l => varsF r (if x.1 then (if hasB l x.2 then l else l ++ [x.2]) else varsF k l)
def varsT (x : Bool × Int) (k : Fo) (l : List Int) : List Int := if x.1 then (if hasB l x.2 then l else l ++ [x.2]) else varsF k l
def vsTo (k : Fo) (l : List Int) (j : Nat) : List Int := varsF (Fo.take j k) l
theorem varsF_snoc : ∀ {F : Fo} {j : Nat} {x : Bool × Int} {k : Fo} (l : List Int), F.list[j]? = some (x, k) → varsF (Fo.take (j + 1) F) l = varsT x k (varsF (Fo.take j F) l)
  | .nil, _, _, _, _, h => by simp [Fo.list] at h
  | .node _ _ y m r, 0, x, k, l, h => by
    simp only [Fo.list, List.getElem?_cons_zero, Option.some.injEq, Prod.mk.injEq] at h
    obtain ⟨rfl, rfl⟩ := h
    simp [Fo.take, varsF, varsT]
  | .node _ _ y m r, j + 1, x, k, l, h => by
    have := varsF_snoc (F := r) (j := j) (if y.1 then (if hasB l y.2 then l else l ++ [y.2]) else varsF m l) (by simpa [Fo.list] using h)
    simp only [Fo.take, varsF] at this ⊢
    exact this
theorem vsTo_succ {k : Fo} {l : List Int} {j : Nat} {x : Bool × Int} {y : Fo} (h : k.list[j]? = some (x, y)) : vsTo k l (j + 1) = varsT x y (vsTo k l j) := varsF_snoc l h
theorem vsTo_end (k : Fo) (l : List Int) : vsTo k l (Fo.len k) = varsF k l := by rw [vsTo, take_all]
theorem varsF_len : ∀ (F : Fo) (l : List Int), (varsF F l).length ≤ l.length + Fo.sizesR F
  | .nil, l => by simp [varsF, Fo.sizesR]
  | .node _ _ x k r, l => by
    have h1 := varsF_len k l
    have h2 := varsF_len r (if x.1 then (if hasB l x.2 then l else l ++ [x.2]) else varsF k l)
    simp only [varsF, Fo.sizesR]
    have h3 : (if x.1 then (if hasB l x.2 then l else l ++ [x.2]) else varsF k l).length ≤ l.length + 1 + Fo.sizesR k := by
      split
      · split
        · omega
        · simp
      · omega
    omega
theorem varsF_ge : ∀ (F : Fo) (l : List Int), l.length ≤ (varsF F l).length
  | .nil, l => Nat.le_refl _
  | .node _ _ x k r, l => by
    have h1 := varsF_ge k l
    have h2 := varsF_ge r (if x.1 then (if hasB l x.2 then l else l ++ [x.2]) else varsF k l)
    simp only [varsF]
    refine Nat.le_trans ?_ h2
    split
    · split
      · exact Nat.le_refl _
      · simp
    · exact h1
theorem varsF_take : ∀ (j : Nat) (F : Fo) (l : List Int), (varsF (Fo.take j F) l).length ≤ (varsF F l).length
  | 0, F, l => varsF_ge F l
  | _ + 1, .nil, l => Nat.le_refl _
  | j + 1, .node _ _ x k r, l => by
    simp only [Fo.take, varsF]
    exact varsF_take j r _
theorem varsT_ge (x : Bool × Int) (k : Fo) (l : List Int) : l.length ≤ (varsT x k l).length := by
  unfold varsT
  split
  · split
    · exact Nat.le_refl _
    · simp
  · exact varsF_ge k l
theorem varsT_len (x : Bool × Int) (k : Fo) (l : List Int) : (varsT x k l).length ≤ l.length + tszR k := by
  have := varsF_len k l
  unfold varsT tszR
  split
  · split
    · omega
    · simp
  · omega
def AddVarsSaid (x : Bool × Int) (k : Fo) : Prop := ∀ (W : World) (a : Value) (w : World) (vl : Value) (l T : List Int), T = varsT x k l → SIn W k a → Below W.heap.size W w → w.ownsRow W.heap.size 3 1 vl l.length (vals l) → T.length * 8 ≤ 140737488355328 →
    Calls Tryd.prog 75 #[vl, .agg #[.bool x.1, .int .i64 x.2, a]] w fun e w' => ∃ vl', e = .returned vl' ∧ w'.ownsRow W.heap.size 3 1 vl' T.length (vals T) ∧ Below W.heap.size W w'
set_option maxRecDepth 100000 in
set_option maxHeartbeats 1000000 in
theorem addVars_any (x : Bool × Int) (k : Fo) : AddVarsSaid x k := by
  refine Fo.ind1 (p := AddVarsSaid) ?_ x k
  clear x k
  intro x k ih W a w vl l T hT hS hB ho hlen
  obtain ⟨v, n⟩ := x
  have HI := hide ih
  have HT := hide hT
  have HB := hide hB
  have Ho := hide ho
  obtain ⟨ad, c, b, o, rfl, had, hlc, hcm, hF⟩ := hS
  have HF := hide hF
  unfold maxLen at hcm
  obtain ⟨za, zc, rfl⟩ := slice_of_owns ho
  have hWs := hB.size
  have Hvl : Hid (∀ g, (Value.slice za l.length zc).ownBlock = some g → W.heap.size ≤ g ∧ g < w.heap.size) := owns_at ho
  clear ih hF ho hB hT
  cases v
  · have Htt : Hid (varsT (false, n) k l = varsF k l) := rfl
    go_enter Tryd.func75, Tryd.ntmps75
    go_wp2_with fail
    have H0 : Hid (Below W.heap.size W (w.alloc (.cells #[.bool false, .int .i64 n, .slice ad (Fo.len k) c] 37)) ∧ (w.alloc (.cells #[.bool false, .int .i64 n, .slice ad (Fo.len k) c] 37)).ownsRow W.heap.size 3 1 (.slice za l.length zc) l.length (vals l)) :=
      ⟨HB.out.trans ((below_alloc _ _).mono hWs), owns_keep Ho.out (fun g hg => (below_alloc _ _).block g (Hvl.out g hg).2)⟩
    go_loopw [0, 22] (fun vl' i wr => ∃ (j : Nat) (L : List Int) (z1 : Option Addr) (z3 : Nat), j ≤ Fo.len k ∧ i = .int .i64 j ∧ vl' = .slice z1 L.length z3 ∧ L = vsTo k l j ∧ Below W.heap.size W wr ∧ wr.ownsRow W.heap.size 3 1 (.slice z1 L.length z3) L.length (vals L)) (fun _ i _ => Fo.len k - (intOf i).toNat)
    case atStart => exact ⟨0, l, za, zc, Nat.zero_le _, rfl, rfl, rfl, H0.out.1, H0.out.2⟩
    case round =>
      obtain ⟨j, L, z1, z3, hj, rfl, rfl, hL, hBr, hor⟩ := hrel
      have HL := hide hL
      have Hor := hide hor
      clear hL hor H0
      by_cases hlt : j < Fo.len k
      · have hlt' : (j : Int) < (Fo.len k : Int) := by omega
        obtain ⟨⟨⟨yv, yn⟩, yk⟩, hy⟩ : ∃ y, k.list[j]? = some y := ⟨k.list[j]'(by rw [Fo.len_list]; exact hlt), by simp⟩
        obtain ⟨c0, c1, yv', c2, hSy⟩ := HF.out.at hy
        have HSy := hide hSy
        obtain ⟨ya, yc, yb, yo, rfl, -, -, -, -⟩ := hSy
        have c0' := grow_cell hBr _ _ c0
        have c1' := grow_cell hBr _ _ c1
        have c2' := grow_cell hBr _ _ c2
        have ha : ad = some ⟨b, o, none⟩ := had (by omega)
        subst ha
        have Hy := hide hy
        obtain ⟨Tn, hTn⟩ : ∃ Tn, Tn = varsT (yv, yn) yk L := ⟨_, rfl⟩
        have HTn := hide hTn
        have Hbd : Hid (Tn.length * 8 ≤ 140737488355328) := by
          have h1 := varsF_take (j + 1) k l
          have h2 : Tn = vsTo k l (j + 1) := by rw [hTn, vsTo_succ Hy.out, HL.out]
          have h3 : T = varsF k l := HT.out.trans Htt.out
          rw [Hid, h2, vsTo]
          rw [h3] at hlen
          omega
        have Hbb : Hid (Below W.heap.size W (wr.alloc (.cells #[.bool yv, .int .i64 yn, .slice ya (Fo.len yk) yc] 37))) := hBr.trans ((below_alloc _ _).mono hBr.size)
        have Hoo : Hid ((wr.alloc (.cells #[.bool yv, .int .i64 yn, .slice ya (Fo.len yk) yc] 37)).ownsRow W.heap.size 3 1 (.slice z1 L.length z3) L.length (vals L)) := owns_keep Hor.out (fun g hg => (below_alloc _ _).block g (owns_at Hor.out g hg).2)
        clear hy c0 c1 c2 had hTn
        go_wp2_with fail
        refine (HI.out ((yv, yn), yk) (List.mem_of_getElem? Hy.out) W _ _ _ L Tn HTn.out HSy.out Hbb.out Hoo.out Hbd.out).mono ?_
        rintro e w2 ⟨vl', rfl, ho2, hb2⟩
        obtain ⟨y1, y3, rfl⟩ := slice_of_owns ho2
        have Ho2 := hide ho2
        clear ho2
        go_wp2_with fail
        go_roundw
        case rel => exact ⟨j + 1, Tn, y1, y3, by omega, by go_num, rfl, by rw [HTn.out, vsTo_succ Hy.out, HL.out], hb2, Ho2.out⟩
        case measure => simp [intOf]; omega
      · have Hfin : Hid (T = L) := by
          have e : j = Fo.len k := by omega
          rw [Hid, HT.out, Htt.out, HL.out, e, vsTo_end]
        clear had
        go_wp2_with fail
        go_ret
        have e := Hfin.out
        subst e
        exact ⟨_, rfl, Hor.out, hBr⟩
  · have Htt : Hid (varsT (true, n) k l = if hasB l n then l else l ++ [n]) := rfl
    obtain ⟨i3, hi3, hy0, hy1, hy2⟩ := info_parts Tryd.info3
    have Hbw : Hid (Below W.heap.size W (w.alloc (.cells #[.bool true, .int .i64 n, .slice ad (Fo.len k) c] 37))) := HB.out.trans ((below_alloc _ _).mono hWs)
    have Hob : Hid ((w.alloc (.cells #[.bool true, .int .i64 n, .slice ad (Fo.len k) c] 37)).ownsRow W.heap.size 3 1 (.slice za l.length zc) l.length (vals l)) := owns_keep Ho.out (fun g hg => (below_alloc _ _).block g (Hvl.out g hg).2)
    clear had
    go_enter Tryd.func75, Tryd.ntmps75
    go_wp2_with fail
    refine (contains_any l n _ _ (own_nin Hob.out)).mono ?_
    rintro e w' ⟨rfl, hw'⟩
    rw [hw']
    clear hw' w'
    cases hh : hasB l n
    · rw [hh] at Htt
      have Hfin : Hid (T = l ++ [n]) := HT.out.trans Htt.out
      have Hob2 : Hid (((w.alloc (.cells #[.bool true, .int .i64 n, .slice ad (Fo.len k) c] 37)).alloc (.cells #[.int .i64 n] 3)).ownsRow W.heap.size 3 1 (.slice za l.length zc) l.length (vals l)) := owns_keep Hob.out (fun g hg => (below_alloc _ _).block g (owns_at Hob.out g hg).2)
      have Hnews : Hid (∀ j u, [Value.int .i64 n][j]? = some u → ((w.alloc (.cells #[.bool true, .int .i64 n, .slice ad (Fo.len k) c] 37)).alloc (.cells #[.int .i64 n] 3)).cell? ((⟨w.heap.size + 1, 0, none⟩ : Addr).add j) = some u) := by
        have h := World.news_of_block (cs := #[.int .i64 n]) (heap_alloc_new (w.alloc (.cells #[.bool true, .int .i64 n, .slice ad (Fo.len k) c] 37)) (.cells #[.int .i64 n] 3))
        intro j u hu
        have := h j u hu
        simpa using this
      have hTl : T.length = l.length + 1 := by rw [Hfin.out]; simp
      have hl1 : l.length + 1 ≤ maxLen := by unfold maxLen; omega
      have hl2 : (l.length + 1) * 8 ≤ 140737488355328 := by omega
      clear hTl
      clear hh
      go_wp2_with (at_builtin; refine wpList_append_lies _ rfl (.tmp 14) (.tmp 17) 22 rfl W.heap.size 3 i3 (.int .i64 0) 1 8 Tryd.underlying22 hi3 hy0 hy1 hy2 rfl (by decide) (.slice za l.length zc) l.length (vals l) rfl Hob2.out ⟨w.heap.size + 1, 0, none⟩ 1 1 [.int .i64 n] rfl rfl Hnews.out (by simp [Value.oneCell']) (by decide) hl1 hl2 (by simp; omega) (w.heap.size + 2) (by simp) ?_; intro g cap w2 hown2 hg2 hat2 hlt2)
      go_ret
      have e := Hfin.out
      subst e
      refine ⟨_, rfl, owns_snoc hown2, ?_⟩
      exact (Hbw.out.trans ((below_alloc _ _).mono (by simp; omega))).grown hg2 (by simp; omega) (fun g hg => (Hvl.out g hg).1)
    · rw [hh] at Htt
      have Hfin : Hid (T = l) := HT.out.trans Htt.out
      clear hh
      go_wp2_with fail
      go_ret
      have e := Hfin.out
      subst e
      exact ⟨_, rfl, Hob.out, Hbw.out⟩
theorem NIn.drew {w : World} {l : List Int} {v : Value} (h : NIn w l v) : NIn w.drew l v := h
theorem SIn.drew {w : World} {k : Fo} {v : Value} (h : SIn w k v) : SIn w.drew k v := h.below (Below.refl _ _).drew
set_option maxRecDepth 100000 in
set_option maxHeartbeats 1000000 in
theorem vars_few (x : Bool × Int) (k : Fo) (a : Value) (l : List Int) (v : Value) (w : World) (T : List Int) (hT : T = varsT x k l) (hS : SIn w k a) (hN : NIn w l v) (hlen : T.length * 8 ≤ 140737488355328) :
    Calls Tryd.prog 62 #[v, .agg #[.bool x.1, .int .i64 x.2, a]] w fun e w' => ∃ v', e = .returned v' ∧ w'.ownsRow w.heap.size 3 1 v' T.length (vals T) ∧ Below w.heap.size w w' := by
  obtain ⟨xv, xn⟩ := x
  have HT := hide hT
  have HS := hide hS
  have HN := hide hN
  obtain ⟨ad, c, b, o, rfl, -, -, -, -⟩ := hS
  obtain ⟨la, lc, lb, lo, rfl, -, -, -, -⟩ := hN
  have hl8 : l.length * 8 ≤ 140737488355328 := by have := varsT_ge (xv, xn) k l; rw [← hT] at this; omega
  clear hT
  go_enter Tryd.func62, Tryd.ntmps62
  go_wp2_with fail
  generalize hwa : w.alloc (.cells #[.bool xv, .int .i64 xn, .slice ad (Fo.len k) c] 37) = wa
  have d0 : wa.cell? ⟨w.heap.size, 0, none⟩ = some (.bool xv) := by rw [← hwa]; simp
  have d1 : wa.cell? ⟨w.heap.size, 1, none⟩ = some (.int .i64 xn) := by rw [← hwa]; simp
  have d2 : wa.cell? ⟨w.heap.size, 2, none⟩ = some (.slice ad (Fo.len k) c) := by rw [← hwa]; simp
  have hla : w.heap.size < wa.heap.size := by rw [← hwa]; simp
  have Hba : Hid (Below w.heap.size w wa) := by rw [← hwa]; exact below_alloc _ _
  clear hwa
  go_region_held3 (fun w' => w'.cell? ⟨w.heap.size, 0, none⟩ = some (.bool xv) ∧ w'.cell? ⟨w.heap.size, 1, none⟩ = some (.int .i64 xn) ∧ w'.cell? ⟨w.heap.size, 2, none⟩ = some (.slice ad (Fo.len k) c))
    (first
      | go_keep
      | (go_split_ands
         refine ⟨?_, ?_, ?_⟩
         · (rw [hb2.cell (by show w.heap.size < _; simp; omega)]; assumption)
         · (rw [hb2.cell (by show w.heap.size < _; simp; omega)]; assumption)
         · (rw [hb2.cell (by show w.heap.size < _; simp; omega)]; assumption))
      | (go_split_ands
         refine ⟨?_, ?_, ?_⟩
         · (rw [hb1.cell (by show w.heap.size < _; simp; omega)]; assumption)
         · (rw [hb1.cell (by show w.heap.size < _; simp; omega)]; assumption)
         · (rw [hb1.cell (by show w.heap.size < _; simp; omega)]; assumption)))
    (first
      | (go_at_call 76; refine (clone_any l _ _ ?_ hl8).mono ?_; (exact (HN.out.below Hba.out).drew); rintro e w1 ⟨v', rfl, ho1, hb1⟩)
      | (go_at_call 75; refine (addVars_any (xv, xn) k wa.drew _ _ _ l T HT.out ?_ ?_ ho1 hlen).mono ?_; (exact (HS.out.below Hba.out).drew); (exact hb1); rintro e w2 ⟨v2, rfl, ho2, hb2⟩))
  have Hfin : Hid (w2.ownsRow w.heap.size 3 1 v2 T.length (vals T) ∧ Below w.heap.size w w2) := ⟨owns_mono ho2 Hba.out.size, Hba.out.trans (((Below.refl _ _).drew).trans (hb2.mono (Nat.le_of_lt hla)))⟩
  clear ho1 ho2 hb1 hb2
  go_wp2_with fail
  go_ret
  exact ⟨v2, rfl, Hfin.out.1, Hfin.out.2⟩
theorem vars_any (x : Bool × Int) (k : Fo) (a : Value) (l : List Int) (v : Value) (w : World) (T : List Int) (hT : T = varsT x k l) (hS : SIn w k a) (hN : NIn w l v) (hlen : (l.length + tszR k) * 8 ≤ 140737488355328) :
    Calls Tryd.prog 62 #[v, .agg #[.bool x.1, .int .i64 x.2, a]] w fun e w' => ∃ v', e = .returned v' ∧ w'.ownsRow w.heap.size 3 1 v' T.length (vals T) ∧ Below w.heap.size w w' :=
  vars_few x k a l v w T hT hS hN (by have := varsT_len x k l; rw [← hT] at this; omega)
end Go.Proofs.YtlgnpiphaeoeiadDoor

namespace Go.Proofs.YtlgnpiphaeoeiadDoor
open Go.RowKit Go.Deep Go.ChangeShapes Go.WideShapes
theorem nin_lit {w : World} (p : List Int) (hp : 0 < p.length) (hl : p.length ≤ 1000) (T : TypeId) : NIn (w.alloc (.cells (vals p).toArray T)) p (.slice (some ⟨w.heap.size, 0, none⟩) p.length p.length) := by
  refine ⟨_, _, w.heap.size, 0, rfl, fun _ => rfl, Nat.le_refl _, by unfold maxLen; omega, fun i hi => ?_⟩
  rw [Nat.zero_add, World.cell?_alloc_new]
  simp [List.getD_eq_getElem?_getD, hi]
theorem slice_of_sin {w : World} {k : Fo} {v : Value} (h : SIn w k v) : ∃ z1 z2 z3, v = .slice z1 z2 z3 := by
  obtain ⟨_, _, _, _, rfl, _⟩ := h
  exact ⟨_, _, _, rfl⟩
end Go.Proofs.YtlgnpiphaeoeiadDoor

namespace Go.Proofs.YtlgnpiphaeoeiadDoor
open Go.RowKit Go.Deep Go.ChangeShapes Go.WideShapes
theorem alone_len {s : List Int} (hs : s.all okNum = true) {x : Bool × Int} {k : Fo} (h : aloneF s x (Fo.len k) = 0) : Fo.len k ≤ 2 := by
  obtain ⟨v, n⟩ := x
  cases v
  · obtain ⟨h0, h1, h2⟩ := alone_sym h
    have := sig_at hs (i := n.toNat) (by omega)
    omega
  · obtain ⟨rfl, _, _⟩ := alone_var h
    simp [Fo.len]
theorem size_bound {s : List Int} (hs : s.all okNum = true) : ∀ {F : Fo} {n : Nat}, n ≤ 13 → walkF s F (13 - (n : Int)) = 0 → Fo.sizesR F ≤ Fo.len F * (2 ^ n - 1)
  | .nil, _, _, _ => by simp [Fo.sizesR]
  | .node _ _ x k r, n, hn, h => by
    obtain ⟨hT, hr⟩ := walkF_ok h
    obtain ⟨hd, ha, hk⟩ := walkT_ok hT
    have h2 := alone_len hs ha
    obtain ⟨m, rfl⟩ : ∃ m, n = m + 1 := ⟨n - 1, by omega⟩
    have e : (13 : Int) - ((m + 1 : Nat) : Int) + 1 = 13 - (m : Int) := by omega
    rw [e] at hk
    have i1 := size_bound hs (n := m) (by omega) hk
    have i2 := size_bound hs (n := m + 1) hn hr
    have p1 : 2 ^ (m + 1) = 2 * 2 ^ m := by rw [Nat.pow_succ]; omega
    have p0 : 0 < 2 ^ m := Nat.pow_pos (by decide)
    have i3 : Fo.len k * (2 ^ m - 1) ≤ 2 * (2 ^ m - 1) := Nat.mul_le_mul_right _ h2
    simp only [Fo.sizesR, Fo.len, Nat.add_mul, Nat.one_mul]
    omega
theorem narrow_ok {s : List Int} (hs : s.all okNum = true) : ∀ {F : Fo} {d : Int}, walkF s F d = 0 → Fo.narrow F
  | .nil, _, _ => trivial
  | .node _ _ x k r, d, h => by
    obtain ⟨hT, hr⟩ := walkF_ok h
    obtain ⟨_, ha, hk⟩ := walkT_ok hT
    have := alone_len hs ha
    exact ⟨by omega, narrow_ok hs hk, narrow_ok hs hr⟩
theorem right_of {s : List Int} (hs : s.all okNum = true) {x : Bool × Int} {k : Fo} (h : wrongF s x k = 0) : tszR k ≤ 12 ∧ tsz x k = tszR k ∧ Fo.len k ≤ 2 ∧ Fo.narrow k ∧ walkT s x k 1 = 0 := by
  unfold wrongF at h
  by_cases hw : walkT s x k 1 = 0
  · rw [if_neg (by simpa using hw)] at h
    obtain ⟨_, ha, hk⟩ := walkT_ok hw
    have h2 := alone_len hs ha
    have hb := size_bound hs (F := k) (n := 11) (by omega) (by simpa using hk)
    have hz : tszR k ≤ 4095 := by
      have : Fo.len k * (2 ^ 11 - 1) ≤ 2 * (2 ^ 11 - 1) := Nat.mul_le_mul_right _ h2
      unfold tszR
      omega
    rw [wrap64_small (by omega) (by omega)] at h
    by_cases h12 : 12 < ((tszR k : Nat) : Int)
    · rw [if_pos h12] at h; omega
    · exact ⟨by omega, tsz_same hw, h2, narrow_ok hs hk, hw⟩
  · rw [if_pos hw] at h; exact absurd h hw
theorem sameF_refl : ∀ F : Fo, sameF F F = true
  | .nil => rfl
  | .node _ _ x k r => by simp [sameF, sameF_refl k, sameF_refl r]
theorem sameT_refl (x : Bool × Int) (k : Fo) : sameT x k x k = true := by simp [sameT, sameF_refl]
theorem putT_cons {n : Int} {p : List Int} {x : Bool × Int} {k : Fo} {u : (Bool × Int) × Fo} (hx : x.1 = false) (h0 : 0 ≤ n) (h1 : n < (Fo.len k : Int)) : putT (n :: p) (x, k) u = (x, setF k n.toNat (fun s => putT p s u)) := by
  rw [putT, if_neg (by simp [hx]; omega)]
end Go.Proofs.YtlgnpiphaeoeiadDoor

namespace Go.Proofs.YtlgnpiphaeoeiadDoor
open Go.ChangeShapes Go.WideShapes Go.ChangeAt Go.WideMaps Go.WideElems Go.RowKit Go.Deep Go.Joins
section
variable {H : Type} {enc : TypeId × Value → H} {W : World} {sp : Nat → Bool} {held : Bool}
set_option maxRecDepth 100000 in
theorem open_term {fuel : Nat} {cs : List Value} {x : DataW H × List MemPlace} (h : DataW.trod enc Tryd.prog W 0 sp held fuel 37 cs = some x) :
    ∃ (v : Bool) (n : Int) (a : Value) (m : Nat) (y : DataW H × List MemPlace), m < fuel ∧ cs = [.bool v, .int .i64 n, a] ∧ DataW.trod enc Tryd.prog W 0 sp held m 35 [a] = some y := by
  obtain ⟨xs, m, rfl, _, hl, hlen, hf⟩ := DataW.trod_struct Tryd.underlying37 h
  rw [Tryd.cells37] at hl
  match xs, hlen, cs, hl with
  | [y0, y1, y2], _, [c0, c1, c2], _ =>
    have g0 := hf 0 _ rfl
    have g1 := hf 1 _ rfl
    have g2 := hf 2 _ rfl
    simp [Tryd.cells4, Tryd.cells3, Tryd.cells35] at g0 g1 g2
    obtain ⟨v, e0, _⟩ := DataW.trod_bool Tryd.underlying4 g0
    obtain ⟨n, e1, _, _⟩ := DataW.trod_int Tryd.underlying3 g1
    simp only [List.cons.injEq, and_true] at e0 e1
    exact ⟨v, n, c2, m, y2, by omega, by rw [e0, e1], g2⟩
set_option maxRecDepth 100000 in
theorem build_forest {b : Nat} : ∀ (n o : Nat), (∀ i, i < n → ∃ (x : Bool × Int) (k : Fo) (a : Value), W.cell? ⟨b, o + 3 * i, none⟩ = some (.bool x.1) ∧ W.cell? ⟨b, o + 3 * i + 1, none⟩ = some (.int .i64 x.2) ∧ W.cell? ⟨b, o + 3 * i + 2, none⟩ = some a ∧ SIn W k a) → ∃ F : Fo, Fo.len F = n ∧ FIn W F b o
  | 0, _, _ => ⟨.nil, rfl, trivial⟩
  | n + 1, o, h => by
    obtain ⟨F, hl, hF⟩ := build_forest n (o + 3) (fun i hi => by
      have := h (i + 1) (by omega)
      rw [show o + 3 * (i + 1) = o + 3 + 3 * i by omega] at this
      exact this)
    obtain ⟨x, k, a, h0, h1, h2, h3⟩ := h 0 (by omega)
    exact ⟨.node 0 0 x k F, by simp [Fo.len, hl], FIn.mk (by simpa using h0) (by simpa using h1) (by simpa using h2) h3 hF⟩
set_option maxRecDepth 100000 in
theorem open_terms : ∀ (fuel : Nat) (v : Value) (x : DataW H × List MemPlace), DataW.trod enc Tryd.prog W 0 sp held fuel 35 [v] = some x → ∃ k : Fo, SIn W k v := by
  intro fuel
  induction fuel using Nat.strongRecOn with
  | _ fuel ih =>
    intro v x h
    rcases DataW.trod_slice Tryd.underlying35 h with ⟨hc, _⟩ | ⟨a, len, cap, elems, rest, n, hfuel, hc, _, _, hlc, hcm, hlen, hel, _, _⟩
    · simp only [List.cons.injEq, and_true] at hc
      subst hc
      exact ⟨.nil, SIn.nil W⟩
    · simp only [List.cons.injEq, and_true] at hc
      subst hc
      rw [Tryd.cells37] at hel
      obtain ⟨b, o, spot⟩ := a
      have hone : ∀ i, i < len → ∃ (x : Bool × Int) (k : Fo) (v : Value), W.cell? ((⟨b, o, spot⟩ : Addr).add (i * 3)) = some (.bool x.1) ∧ W.cell? (((⟨b, o, spot⟩ : Addr).add (i * 3)).add 1) = some (.int .i64 x.2) ∧ W.cell? (((⟨b, o, spot⟩ : Addr).add (i * 3)).add 2) = some v ∧ SIn W k v := fun i hi => by
        have h1 := hel i hi
        have hi' : i < elems.length := by omega
        rw [List.getElem?_eq_getElem hi'] at h1
        obtain ⟨cs, h2, h3⟩ := Option.bind_eq_some_iff.1 h1
        obtain ⟨_, hl3, hcell⟩ := World.cells?_some h2
        obtain ⟨tv, tn, ta, m, y, hm, rfl, hy⟩ := open_term h3
        obtain ⟨k, hk⟩ := ih m (by omega) ta y hy
        exact ⟨(tv, tn), k, ta, by simpa [Addr.add] using hcell 0 (by omega), by simpa using hcell 1 (by omega), by simpa using hcell 2 (by omega), hk⟩
      by_cases h0 : len = 0
      · subst h0
        exact ⟨.nil, _, cap, 0, 0, rfl, fun h => by simp [Fo.len] at h, Nat.zero_le _, hcm, trivial⟩
      · have hspot : spot = none := by
          obtain ⟨x, k, v, q0, _⟩ := hone 0 (by omega)
          simpa [Addr.add] using World.cell?_spot q0
        subst hspot
        obtain ⟨F, hF1, hF2⟩ := build_forest (W := W) (b := b) len o (fun i hi => by
          obtain ⟨x, k, v, q0, q1, q2, q3⟩ := hone i hi
          refine ⟨x, k, v, ?_, ?_, ?_, q3⟩
          · rw [add_plain] at q0; rw [Nat.mul_comm 3 i]; exact q0
          · rw [add_plain, add_plain] at q1; rw [Nat.mul_comm 3 i]; exact q1
          · rw [add_plain, add_plain] at q2; rw [Nat.mul_comm 3 i]; exact q2)
        exact ⟨F, _, cap, b, o, by rw [hF1], fun _ => rfl, by omega, hcm, hF2⟩
set_option maxRecDepth 100000 in
theorem open_nums {T : TypeId} {r : Reach} {b0 : Nat} {v : Value} {d : DataW H} {p : List MemPlace} (hT : Tryd.prog.underlying T = some (.slice 3)) (hv : Value.okWide Tryd.prog W r b0 T v) (h : DataW.Trod enc Tryd.prog W 0 (fun _ => true) held T v d p) :
    ∃ l : List Int, NIn W l v := by
  obtain ⟨a0, len, cap, rfl⟩ := okWide_slice hT hv
  obtain ⟨fuel, hf⟩ := h
  rcases open_ints hT Tryd.underlying3 Tryd.cells3 hf with ⟨hcs, _⟩ | ⟨x, l, c, zs, hcs, _, hl, hm, hz, _, hcell, hwz⟩
  · simp [Value.cells] at hcs
    obtain ⟨rfl, rfl, rfl⟩ := hcs
    exact ⟨[], none, 0, 0, 0, rfl, fun h => by simp at h, Nat.le_refl _, Nat.zero_le _, fun i hi => by simp at hi⟩
  · simp [Value.cells] at hcs
    obtain ⟨rfl, rfl, rfl⟩ := hcs
    have hz' : zs.length = cap := by simpa using hz
    have htl : (zs.take len).length = len := by rw [List.length_take]; omega
    obtain ⟨b, o, spot⟩ := x
    refine ⟨zs.take len, _, cap, b, o, by rw [htl], fun h => ?_, by rw [htl]; exact hl, hm, fun i hi => ?_⟩
    · have := hcell 0 (by omega)
      have hspot : spot = none := by simpa [Addr.add] using World.cell?_spot this
      rw [hspot]
    · rw [htl] at hi
      have hc := hcell i (by omega)
      have hspot : spot = none := by
        have := hcell 0 (by omega)
        simpa [Addr.add] using World.cell?_spot this
      subst hspot
      rw [add_plain] at hc
      rw [hc]
      simp [List.getD_eq_getElem?_getD, hi]
end
end Go.Proofs.YtlgnpiphaeoeiadDoor

namespace Go.Proofs.YtlgnpiphaeoeiadDoor
open Go.RowKit Go.Deep Go.ChangeShapes Go.WideShapes
def Fo.norm : Fo → Fo
  | .nil => .nil
  | .node _ _ x k r => .node 0 0 x (Fo.norm k) (Fo.norm r)
theorem norm_len : ∀ F : Fo, Fo.len (Fo.norm F) = Fo.len F
  | .nil => rfl
  | .node _ _ x k r => by simp [Fo.len, Fo.norm, norm_len r]
theorem sym_nat {n : Int} (h0 : 0 ≤ n) (h4 : n ≤ 100) : ((sym n).toNat : Int) = 97 + n := by
  rw [sym, UInt8.toNat_ofNat']; omega
theorem texts_ok {s : List Int} (h6 : s.length ≤ 6) : ∀ {F : Fo} {d : Int}, walkF s F d = 0 → Fo.texts F
  | .nil, _, _ => trivial
  | .node _ _ (v, n) k r, d, h => by
    obtain ⟨hT, hr⟩ := walkF_ok h
    obtain ⟨_, ha, hk⟩ := walkT_ok hT
    refine ⟨?_, texts_ok h6 hk, texts_ok h6 hr⟩
    cases v
    · obtain ⟨h0, h1, _⟩ := alone_sym ha
      simp only [Bool.false_eq_true, if_false]; omega
    · obtain ⟨_, h0, h4⟩ := alone_var ha
      simp only [if_true]; omega
theorem text_okT {s : List Int} (h6 : s.length ≤ 6) {x : Bool × Int} {k : Fo} {d : Int} (h : walkT s x k d = 0) : (0 ≤ x.2 ∧ x.2 ≤ (if x.1 then 4 else 100)) ∧ Fo.texts k := by
  obtain ⟨_, ha, hk⟩ := walkT_ok h
  obtain ⟨v, n⟩ := x
  refine ⟨?_, texts_ok h6 hk⟩
  cases v
  · obtain ⟨h0, h1, _⟩ := alone_sym ha
    simp only [Bool.false_eq_true, if_false]; omega
  · obtain ⟨_, h0, h4⟩ := alone_var ha
    simp only [if_true]; omega
theorem textF_len : ∀ (F : Fo) (i : Int), (textF F i).length ≤ 3 * Fo.sizesR F
  | .nil, _ => by simp [textF]
  | .node _ _ x k r, i => by
    have h1 := textF_len k 0
    have h2 := textF_len r (i + 1)
    simp only [textF, Fo.sizesR, List.length_append, List.length_cons]
    split
    · simp; omega
    · split
      · simp; omega
      · simp; omega
theorem textT_len (x : Bool × Int) (k : Fo) : (textT x k).length ≤ 3 * tszR k := by
  have := textF_len k 0
  unfold textT tszR
  split
  · simp; omega
  · split
    · simp; omega
    · simp; omega
end Go.Proofs.YtlgnpiphaeoeiadDoor
