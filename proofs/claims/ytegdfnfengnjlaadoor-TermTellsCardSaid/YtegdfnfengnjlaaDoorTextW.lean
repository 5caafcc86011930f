/- A term's text: addText, Text. -/
import Derived.Test.YtegdfnfengnjlaaDoorText
namespace Go.Proofs.YtegdfnfengnjlaaDoor
open Go.RowKit Go.Deep Go.ChangeShapes Go.WideShapes

def sym (n : Int) : UInt8 := UInt8.ofNat (97 + n.toNat)
/-- Terms' texts, each behind its sign. -/
def textF : Fo → Int → List UInt8
  | .nil, _ => []
  | .node _ _ x k r, i => (signF i :: (if x.1 then [88, dig x.2] else sym x.2 :: (if Fo.len k = 0 then [] else textF k 0 ++ [41]))) ++ textF r (i + 1)
def textT (x : Bool × Int) (k : Fo) : List UInt8 := if x.1 then [88, dig x.2] else sym x.2 :: (if Fo.len k = 0 then [] else textF k 0 ++ [41])
def txTo (k : Fo) (j : Nat) : List UInt8 := textF (Fo.take j k) 0

theorem textF_snoc : ∀ {F : Fo} {j : Nat} {x : Bool × Int} {k : Fo} (i : Int), F.list[j]? = some (x, k) → textF (Fo.take (j + 1) F) i = textF (Fo.take j F) i ++ signF (i + j) :: textT x k
  | .nil, _, _, _, _, h => by simp [Fo.list] at h
  | .node _ _ y l r, 0, x, k, i, h => by
    simp only [Fo.list, List.getElem?_cons_zero, Option.some.injEq, Prod.mk.injEq] at h
    obtain ⟨rfl, rfl⟩ := h
    simp [Fo.take, textF, textT]
  | .node _ _ y l r, j + 1, x, k, i, h => by
    have := textF_snoc (F := r) (j := j) (i + 1) (by simpa [Fo.list] using h)
    simp only [Fo.take, textF] at this ⊢
    have e : i + 1 + (j : Int) = i + ((j + 1 : Nat) : Int) := by omega
    rw [this, e, List.append_assoc]
theorem txTo_succ {k : Fo} {j : Nat} {x : Bool × Int} {l : Fo} (h : k.list[j]? = some (x, l)) : txTo k (j + 1) = txTo k j ++ signF j :: textT x l := by
  rw [txTo, textF_snoc 0 h]; simp [txTo]
theorem txTo_end (k : Fo) : txTo k (Fo.len k) = textF k 0 := by rw [txTo, take_all]
theorem textF_take_le : ∀ (F : Fo) (j : Nat) (i : Int), (textF (Fo.take j F) i).length ≤ (textF F i).length
  | _, 0, _ => by simp [Fo.take, textF]
  | .nil, _ + 1, _ => by simp [Fo.take]
  | .node _ _ x k r, j + 1, i => by
    have := textF_take_le r j (i + 1)
    simp only [Fo.take, textF, List.length_append]
    omega
theorem txTo_le (k : Fo) (j : Nat) : (txTo k j).length ≤ (textF k 0).length := textF_take_le k j 0

/-- Each number has a sign that is written. -/
def Fo.texts : Fo → Prop
  | .nil => True
  | .node _ _ x k r => (0 ≤ x.2 ∧ x.2 ≤ (if x.1 then 4 else 100)) ∧ Fo.texts k ∧ Fo.texts r
theorem texts_at : ∀ {F : Fo} {j : Nat} {x : Bool × Int} {k : Fo}, Fo.texts F → F.list[j]? = some (x, k) → (0 ≤ x.2 ∧ x.2 ≤ (if x.1 then 4 else 100)) ∧ Fo.texts k
  | .nil, _, _, _, _, h => by simp [Fo.list] at h
  | .node _ _ y l r, 0, x, k, hn, h => by
    simp only [Fo.list, List.getElem?_cons_zero, Option.some.injEq, Prod.mk.injEq] at h
    obtain ⟨rfl, rfl⟩ := h
    exact ⟨hn.1, hn.2.1⟩
  | .node _ _ y l r, j + 1, x, k, hn, h => texts_at (F := r) hn.2.2 (by simpa [Fo.list] using h)

theorem Grew.trans {base : Nat} {w w1 w2 : World} {vo : Value} {n1 g1 c1 n2 g2 c2 : Nat} {xs ys : List Value} (h1 : Grew base w w1 vo n1 g1 c1 xs) (h2 : Grew base w1 w2 (.slice (some ⟨g1, 0, none⟩) n1 c1) n2 g2 c2 ys) : Grew base w w2 vo n2 g2 c2 ys := by
  obtain ⟨a1, a2, a3⟩ := h1
  obtain ⟨b1, b2, b3⟩ := h2
  refine ⟨b1, a2.trans b2 (fun q hq h => ?_), ?_⟩
  · rcases h with h | h
    · simp only [Value.ownBlock, Option.some.injEq] at h
      subst h
      rcases a3 with a3 | a3
      · exact .inl a3.symm
      · omega
    · cases h
  · rcases b3 with b3 | b3
    · simp only [Value.ownBlock, Option.some.injEq] at b3
      subst b3
      exact a3
    · exact .inr (Nat.le_trans a2.size b3)
theorem Grew.pre {base : Nat} {w w1 w2 : World} {vo : Value} {n g c : Nat} {xs : List Value} (hb : Below w.heap.size w w1) (h : Grew base w1 w2 vo n g c xs) : Grew base w w2 vo n g c xs := by
  obtain ⟨b1, b2, b3⟩ := h
  refine ⟨b1, (Fr.of_below hb _ _).trans b2 (fun q _ h => h), ?_⟩
  rcases b3 with b3 | b3
  · exact .inl b3
  · exact .inr (Nat.le_trans hb.size b3)
theorem Grew.of {base : Nat} {w w1 w2 : World} {vo : Value} {n g c : Nat} {xs : List Value} (hb : Below w.heap.size w w1) (ho : w2.ownsRow base 5 1 (.slice (some ⟨g, 0, none⟩) n c) n xs) (hg : w1.grownBy w2 vo.ownBlock) (hat : vo.ownBlock = some g ∨ g = w1.heap.size) : Grew base w w2 vo n g c xs :=
  Grew.pre hb ⟨ho, Fr.of_grown hg (fun q _ h => .inl h.symm), by rcases hat with h | h; exact .inl h; exact .inr (by omega)⟩
theorem Grew.below {base : Nat} {w w1 : World} {vo : Value} {n g c : Nat} {xs : List Value} (h : Grew base w w1 vo n g c xs) (hb : base ≤ w.heap.size) (hv : ∀ g, vo.ownBlock = some g → base ≤ g) : Below base w w1 := h.2.1.below hb hv (fun _ h => by cases h)
/-- A block that is not the row's is as it was. -/
theorem Grew.far {base : Nat} {w w1 : World} {vo : Value} {n g c : Nat} {xs : List Value} (h : Grew base w w1 vo n g c xs) {q i : Nat} (hq : q < w.heap.size) (hv : vo.ownBlock ≠ some q) : w1.cell? ⟨q, i, none⟩ = w.cell? ⟨q, i, none⟩ :=
  World.cell?_of_block (a := ⟨q, i, none⟩) (h.2.1.block q hq (fun e => hv e.symm) (fun e => by cases e))

theorem bytes_snoc (bs : List UInt8) (c : UInt8) : bytesV (bs ++ [c]) = bytesV bs ++ [.int .u8 (c.toNat : Int)] := by simp

theorem tx_ne {W w wa w3 : World} {v : Value} {n g cap m : Nat} {ob : Obj} (hv : ∀ g, v.ownBlock = some g → W.heap.size ≤ g ∧ g < w.heap.size) (hat : v = .slice (some ⟨g, 0, none⟩) n cap ∨ (g = (wa.alloc ob).drew.heap.size ∧ (wa.alloc ob).drew.grownBy w3 none)) (hs : wa.heap.size = w.heap.size + 1) : (Value.slice (some ⟨g, 0, none⟩) m cap).ownBlock ≠ some w.heap.size := by
  intro e
  simp only [Value.ownBlock, Option.some.injEq] at e
  subst e
  rcases hat with h | ⟨h, _⟩
  · have := (hv w.heap.size (by rw [h]; rfl)).2; omega
  · simp at h; omega

theorem tx_below {W wr wb w3 : World} {v : Value} {ob : Obj} (hB : Below W.heap.size W wr) (hb : Below wr.heap.size wr wb) (hg : (wb.alloc ob).drew.grownBy w3 v.ownBlock) (hv : ∀ g, v.ownBlock = some g → W.heap.size ≤ g) : Below W.heap.size W w3 := by
  have h1 : Below W.heap.size W (wb.alloc ob).drew := ((hB.trans (hb.mono hB.size)).alloc (Nat.le_trans hB.size hb.size) ob).drew
  exact h1.grown hg (by have := hB.size; have := hb.size; simp; omega) hv

def AddTextSaid (x : Bool × Int) (k : Fo) : Prop := ∀ (W : World) (a : Value) (w : World) (vo : Value) (bs T : List UInt8), T = bs ++ textT x k → SIn W k a → Below W.heap.size W w → w.ownsRow W.heap.size 5 1 vo bs.length (bytesV bs) →
    (0 ≤ x.2 ∧ x.2 ≤ (if x.1 then 4 else 100)) → Fo.texts k → bs.length + (textT x k).length ≤ 100000 →
    Calls Tryd.prog 38 #[vo, .agg #[.bool x.1, .int .i64 x.2, a]] w fun e w' => ∃ g cap, e = .returned (.slice (some ⟨g, 0, none⟩) T.length cap) ∧ Grew W.heap.size w w' vo T.length g cap (bytesV T)

set_option maxHeartbeats 1000000 in
theorem addText_any (x : Bool × Int) (k : Fo) : AddTextSaid x k := by
  refine Fo.ind1 (p := AddTextSaid) ?_ x k
  clear x k
  intro x k ih W a w vo bs T hT hS hB ho hx htx hlen
  obtain ⟨v, n⟩ := x
  have HI := hide ih
  have HT := hide hT
  have HB := hide hB
  have Ho := hide ho
  have Htx := hide htx
  obtain ⟨ad, c, b, o, rfl, had, hlc, hcm, hF⟩ := hS
  have HF := hide hF
  unfold maxLen at hcm
  obtain ⟨za, zc, rfl⟩ := slice_of_owns ho
  obtain ⟨i5, hi5, hz0, hz1, hz2⟩ := info_parts Tryd.info5
  have hWs := hB.size
  have Hvo : Hid (∀ g, (Value.slice za bs.length zc).ownBlock = some g → W.heap.size ≤ g ∧ g < w.heap.size) := owns_at ho
  have hl1 : bs.length + 1 ≤ maxLen := by unfold maxLen; omega
  have hl2 : (bs.length + 1) * 1 ≤ 140737488355328 := by omega
  clear ih hF ho htx hB hT
  cases v
  · have Htt : Hid (textT (false, n) k = sym n :: (if Fo.len k = 0 then [] else textF k 0 ++ [41])) := rfl
    have Hsym : Hid (((sym n).toNat : Int) = 97 + n) := by
      simp only [if_false, Bool.false_eq_true] at hx
      rw [Hid, sym, UInt8.toNat_ofNat']
      omega
    simp only [Bool.false_eq_true, if_false] at hx
    have hn0 : 0 ≤ n := hx.1
    have hn1 : n ≤ 100 := hx.2
    have Hob : Hid (((w.alloc (.cells #[.bool false, .int .i64 n, .slice ad (Fo.len k) c] 26)).alloc (.cells #[.int .u8 (97 + n)] 5)).ownsRow W.heap.size 5 1 (.slice za bs.length zc) bs.length (bytesV bs)) :=
      owns_keep Ho.out (fun g hg => ((below_alloc w _).alloc (by simp) _).block g (Hvo.out g hg).2)
    have Hnews : Hid (∀ j u, [Value.int .u8 (97 + n)][j]? = some u → ((w.alloc (.cells #[.bool false, .int .i64 n, .slice ad (Fo.len k) c] 26)).alloc (.cells #[.int .u8 (97 + n)] 5)).cell? ((⟨w.heap.size + 1, 0, none⟩ : Addr).add j) = some u) := by
      have h := World.news_of_block (cs := #[.int .u8 (97 + n)]) (heap_alloc_new (w.alloc (.cells #[.bool false, .int .i64 n, .slice ad (Fo.len k) c] 26)) (.cells #[.int .u8 (97 + n)] 5))
      intro j u hu
      have := h j u hu
      simpa using this
    clear hx
    go_enter Tryd.func38, Tryd.ntmps38
    go_wp2_with (at_builtin; refine wpList_append_lies _ rfl (.tmp 15) (.tmp 20) 59 rfl W.heap.size 5 i5 (.int .u8 0) 1 1 Tryd.underlying59 hi5 hz0 hz1 hz2 rfl (by decide) (.slice za bs.length zc) bs.length (bytesV bs) rfl Hob.out ⟨w.heap.size + 1, 0, none⟩ 1 1 [.int .u8 (97 + n)] rfl rfl Hnews.out (by simp [Value.oneCell']) (by decide) hl1 hl2 (by simp; omega) (w.heap.size + 2) (by simp) ?_; intro g cap w2 hown2 hg2 hat2 hlt2; have q2' : w2.cell? ⟨w.heap.size, 2, none⟩ = some (.slice ad (Fo.len k) c) := (hg2.cell_far _ (by simp; omega) (fun e => by have := (Hvo.out _ e.symm).2; simp at this)).trans (by simp))
    have HG0 : Hid (Grew W.heap.size (w.alloc (.cells #[.bool false, .int .i64 n, .slice ad (Fo.len k) c] 26)) w2 (.slice za bs.length zc) (bs ++ sym n :: txTo k 0).length g cap (bytesV (bs ++ sym n :: txTo k 0))) := by
      have e : bytesV (bs ++ sym n :: txTo k 0) = bytesV bs ++ [.int .u8 (97 + n)] := by simp [txTo, Fo.take, textF, Hsym.out]
      have e2 : (bs ++ sym n :: txTo k 0).length = bs.length + 1 := by simp [txTo, Fo.take, textF]
      rw [e, e2]
      exact Grew.of (below_alloc _ _) hown2 hg2 (by rcases hat2 with h | h; exact .inl h; exact .inr (by simp; omega))
    have hl0 : (bs ++ sym n :: txTo k 0).length = bs.length + 1 := by simp [txTo, Fo.take, textF]
    have Hl0 := hide hl0
    have Hlen : Hid (Fo.len k ≠ 0 → bs.length + 1 + (textF k 0).length + 1 ≤ 100000) := fun h => by
      have := hlen
      rw [Htt.out, if_neg h] at this
      simp at this
      omega
    generalize hwa : w.alloc (.cells #[.bool false, .int .i64 n, .slice ad (Fo.len k) c] 26) = wa at HG0
    have hsa : wa.heap.size = w.heap.size + 1 := by rw [← hwa]; simp
    have Hba : Hid (Below w.heap.size w wa) := by rw [← hwa]; exact below_alloc _ _
    have Hbx : Hid (wa.cell? ⟨w.heap.size, 2, none⟩ = some (.slice ad (Fo.len k) c)) := by rw [← hwa]; simp [Hid]
    have Hnb : Hid ((Value.slice za bs.length zc).ownBlock ≠ some w.heap.size) := fun e => by have := (Hvo.out _ e).2; omega
    have Hsa := hide hsa
    clear hown2 hg2 hat2 hlt2 q2' Hob Hnews hl0 hwa hsa
    go_loopw [0, 25] (fun vo' i wr => ∃ (j g cap : Nat), j ≤ Fo.len k ∧ i = .int .i64 j ∧ vo' = .slice (some ⟨g, 0, none⟩) (bs ++ sym n :: txTo k j).length cap ∧ Grew W.heap.size wa wr (.slice za bs.length zc) (bs ++ sym n :: txTo k j).length g cap (bytesV (bs ++ sym n :: txTo k j))) (fun _ i _ => Fo.len k - (intOf i).toNat)
    case atStart => exact ⟨0, g, cap, Nat.zero_le _, rfl, by rw [Hl0.out], HG0.out⟩
    case round =>
      obtain ⟨j, gj, cj, hj, rfl, rfl, hR⟩ := hrel
      have HR := hide hR
      have Hbxr : Hid (wr.cell? ⟨w.heap.size, 2, none⟩ = some (.slice ad (Fo.len k) c)) := (hR.far (by rw [Hsa.out]; omega) Hnb.out).trans Hbx.out
      have HBr : Hid (Below W.heap.size W wr) := (HB.out.trans (Hba.out.mono hWs)).trans (hR.below (by rw [Hsa.out]; omega) (fun g hg => (Hvo.out g hg).1))
      clear hR HG0
      by_cases hlt : j < Fo.len k
      · have hlt' : (j : Int) < (Fo.len k : Int) := by omega
        obtain ⟨⟨⟨yv, yn⟩, yk⟩, hy⟩ : ∃ y, k.list[j]? = some y := ⟨k.list[j]'(by rw [Fo.len_list]; exact hlt), by simp⟩
        obtain ⟨c0, c1, yv', c2, hSy⟩ := HF.out.at hy
        have HSy := hide hSy
        obtain ⟨ya, yc, yb, yo, rfl, -, -, -, -⟩ := hSy
        have c0' := grow_cell HBr.out _ _ c0
        have c1' := grow_cell HBr.out _ _ c1
        have c2' := grow_cell HBr.out _ _ c2
        have ha : ad = some ⟨b, o, none⟩ := had (by omega)
        subst ha
        have Hnext : Hid (bs ++ sym n :: txTo k (j + 1) = (bs ++ sym n :: txTo k j) ++ [signF j] ++ textT (yv, yn) yk) := by rw [Hid, txTo_succ hy]; simp
        have Hbd : Hid ((bs ++ sym n :: txTo k j).length + 1 + (textT (yv, yn) yk).length ≤ 100000) := by
          have h1 := Hlen.out (by omega)
          have h2 := txTo_le k (j + 1)
          rw [txTo_succ hy] at h2
          simp at h2 ⊢
          unfold Hid
          omega
        have Hty := hide (texts_at Htx.out hy)
        have Hy := hide hy
        generalize bs ++ sym n :: txTo k j = Bj at *
        have hbd := Hbd.out
        have hb1 : Bj.length + 1 ≤ maxLen := by unfold maxLen; omega
        have hb2 : (Bj.length + 1) * 1 ≤ 140737488355328 := by omega
        have Hvj : Hid (∀ g, (Value.slice (some ⟨gj, 0, none⟩) Bj.length cj).ownBlock = some g → W.heap.size ≤ g ∧ g < wr.heap.size) := owns_at HR.out.1
        clear hy c0 c1 c2 Hbd had
        go_wp2_with fail
        clear c0' c1' c2'
        generalize hwb : wr.alloc (.cells #[.bool yv, .int .i64 yn, .slice ya (Fo.len yk) yc] 26) = wb
        have d0 : wb.cell? ⟨wr.heap.size, 0, none⟩ = some (.bool yv) := by rw [← hwb]; simp
        have d1 : wb.cell? ⟨wr.heap.size, 1, none⟩ = some (.int .i64 yn) := by rw [← hwb]; simp
        have d2 : wb.cell? ⟨wr.heap.size, 2, none⟩ = some (.slice ya (Fo.len yk) yc) := by rw [← hwb]; simp
        have hsb : wb.heap.size = wr.heap.size + 1 := by rw [← hwb]; simp
        have Hsb := hide hsb
        have hlb : wr.heap.size < wb.heap.size := by omega
        have hWb : W.heap.size ≤ wb.heap.size := by have := HBr.out.size; omega
        have Hbb : Hid (Below wr.heap.size wr wb) := by rw [← hwb]; exact below_alloc _ _
        have Hob : Hid ((wb.alloc (.cells #[.int .u8 ((signF j).toNat : Int)] 5)).drew.ownsRow W.heap.size 5 1 (.slice (some ⟨gj, 0, none⟩) Bj.length cj) Bj.length (bytesV Bj)) :=
          owns_keep HR.out.1 (fun g hg => ((Hbb.out.alloc Hbb.out.size _).drew).block g (Hvj.out g hg).2)
        have Hnj : Hid ((Value.slice (some ⟨gj, 0, none⟩) Bj.length cj).ownBlock ≠ some wr.heap.size) := fun e => by have := (Hvj.out _ e).2; omega
        obtain ⟨Tn, hTn⟩ : ∃ Tn, Tn = (Bj ++ [signF j]) ++ textT (yv, yn) yk := ⟨_, rfl⟩
        have HTn := hide hTn
        clear hwb hsb hTn
        go_region_held3 (fun w' => w'.cell? ⟨wr.heap.size, 0, none⟩ = some (.bool yv) ∧ w'.cell? ⟨wr.heap.size, 1, none⟩ = some (.int .i64 yn) ∧ w'.cell? ⟨wr.heap.size, 2, none⟩ = some (.slice ya (Fo.len yk) yc))
          (first
            | go_keep
            | (go_split_ands
               refine ⟨?_, ?_, ?_⟩
               · (rw [hG4.far hgl hgn]; assumption)
               · (rw [hG4.far hgl hgn]; assumption)
               · (rw [hG4.far hgl hgn]; assumption))
            | (go_split_ands
               refine ⟨?_, ?_, ?_⟩
               · (rw [hg3.cell_far _ (by simp; omega) (Ne.symm Hnj.out)]; simp only [World.cell?_drew]; rw [World.cell?_alloc_lt _ _ _ hlb]; assumption)
               · (rw [hg3.cell_far _ (by simp; omega) (Ne.symm Hnj.out)]; simp only [World.cell?_drew]; rw [World.cell?_alloc_lt _ _ _ hlb]; assumption)
               · (rw [hg3.cell_far _ (by simp; omega) (Ne.symm Hnj.out)]; simp only [World.cell?_drew]; rw [World.cell?_alloc_lt _ _ _ hlb]; assumption)))
          (first
            | (refine step_append_cap _ (by rfl) _ _ _ (by rfl) W.heap.size 5 i5 (.int .u8 0) 1 1 Tryd.underlying59 hi5 hz0 hz1 hz2 rfl (by decide) (.slice (some ⟨gj, 0, none⟩) Bj.length cj) Bj.length (bytesV Bj) (by rfl) Hob.out
                ⟨wb.heap.size, 0, none⟩ 1 1 [.int .u8 ((signF j).toNat : Int)] (by rfl) (by rfl) (World.news_of_block (cs := #[.int .u8 ((signF j).toNat : Int)]) (t := 5) (fr := (0, 0)) (heap_alloc_new wb _)) (by simp [Value.oneCell']) (by decide) hb1 hb2 (by simp; omega) ?_; intro g3 cap3 w3 hown3 hg3 hat3 hlt3)
            | (go_at_call 46; refine (signAhead_any _ _).mono ?_; rintro e w' ⟨rfl, hw'⟩; rw [hw']; clear hw' w')
            | (go_at_call 38; refine (HI.out ((yv, yn), yk) (List.mem_of_getElem? Hy.out) W _ _ (.slice (some ⟨g3, 0, none⟩) (Bj.length + 1) cap3) (Bj ++ [signF j]) Tn HTn.out HSy.out ?_ ?_ Hty.out.1 Hty.out.2 ?_).mono ?_; (exact tx_below HBr.out Hbb.out hg3 (fun g hg => (Hvj.out g hg).1)); (simpa using hown3); (simp; omega); rintro e w4 ⟨g4, c4, rfl, hG4⟩; have hgl : wr.heap.size < w3.heap.size := (by have := hg3.size; simp at this; omega); have hgn : (Value.slice (some ⟨g3, 0, none⟩) (Bj.length + 1) cap3).ownBlock ≠ some wr.heap.size := tx_ne Hvj.out hat3 Hsb.out))
        have HG : Hid (Grew W.heap.size wa w4 (.slice za bs.length zc) Tn.length g4 c4 (bytesV Tn)) := by
          have hA : Grew W.heap.size wr w3 (.slice (some ⟨gj, 0, none⟩) Bj.length cj) (Bj.length + 1) g3 cap3 (bytesV Bj ++ [.int .u8 ((signF j).toNat : Int)]) :=
            Grew.of ((Hbb.out.alloc Hbb.out.size _).drew) hown3 hg3 (by rcases hat3 with h | h; exact .inl (by rw [h]; rfl); exact .inr h.1)
          exact (HR.out.trans hA).trans hG4
        clear hG4 hg3 hown3 hat3 hlt3 hgl hgn
        go_wp2_with fail
        go_roundw
        case rel => exact ⟨j + 1, g4, c4, by omega, by go_num, by rw [Hnext.out, ← HTn.out], by rw [Hnext.out, ← HTn.out]; exact HG.out⟩
        case measure => simp [intOf]; omega
      · have hje : j = Fo.len k := by omega
        have Hje := hide hje
        clear hje
        have hbxr := Hbxr.out
        have hge : ¬ ((j : Int) < (Fo.len k : Int)) := by omega
        by_cases h0 : Fo.len k = 0
        · have h0' : ¬ (0 : Int) < (Fo.len k : Int) := by omega
          have Hfin : Hid (bs ++ textT (false, n) k = bs ++ sym n :: txTo k j) := by rw [Hid, Htt.out, if_pos h0, Hje.out, txTo_end, len_zero h0]; rfl
          generalize bs ++ sym n :: txTo k j = Bj at *
          clear h0
          go_wp2_with fail
          go_ret
          have e := HT.out.trans Hfin.out
          subst e
          exact ⟨gj, cj, rfl, Grew.pre Hba.out HR.out⟩
        · have h0' : (0 : Int) < (Fo.len k : Int) := by omega
          have Hfin : Hid (bs ++ textT (false, n) k = (bs ++ sym n :: txTo k j) ++ [41]) := by rw [Hid, Htt.out, if_neg h0, Hje.out, txTo_end]; simp
          have Hbd : Hid ((bs ++ sym n :: txTo k j).length + 1 ≤ 100000) := by
            have h1 := Hlen.out h0
            have h2 := txTo_le k j
            simp
            unfold Hid
            omega
          generalize bs ++ sym n :: txTo k j = Bj at *
          have hbd := Hbd.out
          have hb1 : Bj.length + 1 ≤ maxLen := by unfold maxLen; omega
          have hb2 : (Bj.length + 1) * 1 ≤ 140737488355328 := by omega
          have Hvj : Hid (∀ g, (Value.slice (some ⟨gj, 0, none⟩) Bj.length cj).ownBlock = some g → W.heap.size ≤ g ∧ g < wr.heap.size) := owns_at HR.out.1
          have Hob : Hid ((wr.alloc (.cells #[.int .u8 41] 5)).ownsRow W.heap.size 5 1 (.slice (some ⟨gj, 0, none⟩) Bj.length cj) Bj.length (bytesV Bj)) :=
            owns_keep HR.out.1 (fun g hg => (below_alloc wr _).block g (Hvj.out g hg).2)
          have hWr : W.heap.size ≤ wr.heap.size := HBr.out.size
          clear h0 Hbd hbd
          go_wp2_with (at_builtin; refine wpList_append_lies _ rfl (.tmp 42) (.tmp 43) 59 rfl W.heap.size 5 i5 (.int .u8 0) 1 1 Tryd.underlying59 hi5 hz0 hz1 hz2 rfl (by decide) (.slice (some ⟨gj, 0, none⟩) Bj.length cj) Bj.length (bytesV Bj) rfl Hob.out ⟨wr.heap.size, 0, none⟩ 1 1 [.int .u8 41] rfl rfl (cell_one_new _ _ _) (by simp [Value.oneCell']) (by decide) hb1 hb2 (by simp; omega) (wr.heap.size + 1) (by simp) ?_; intro g3 cap3 w3 hown3 hg3 hat3 hlt3)
          have HG : Hid (Grew W.heap.size wa w3 (.slice za bs.length zc) (Bj ++ [41]).length g3 cap3 (bytesV (Bj ++ [41]))) := by
            have hA : Grew W.heap.size wr w3 (.slice (some ⟨gj, 0, none⟩) Bj.length cj) (Bj.length + 1) g3 cap3 (bytesV Bj ++ [.int .u8 41]) :=
              Grew.of (below_alloc _ _) hown3 hg3 (by rcases hat3 with h | h; exact .inl h; exact .inr (by simp; omega))
            rw [Hid, show (Bj ++ [(41 : UInt8)]).length = Bj.length + 1 by simp, bytes_snoc]
            exact HR.out.trans hA
          have hl4 : (Bj ++ [(41 : UInt8)]).length = Bj.length + 1 := by simp
          clear hg3 hown3 hat3 hlt3
          go_ret
          have e := HT.out.trans Hfin.out
          subst e
          exact ⟨g3, cap3, by rw [hl4]; rfl, Grew.pre Hba.out HG.out⟩
  · simp only [if_true] at hx
    have Htt : Hid (bs ++ textT (true, n) k = (bs ++ [88]) ++ [dig n]) := by simp [Hid, textT]
    have hnb : (Value.slice za bs.length zc).ownBlock ≠ some w.heap.size := fun e => by have := (Hvo.out _ e).2; omega
    have Hnb := hide hnb
    clear hnb
    go_enter Tryd.func38, Tryd.ntmps38
    go_wp2_with fail
    generalize hwa : w.alloc (.cells #[.bool true, .int .i64 n, .slice ad (Fo.len k) c] 26) = wa
    have hba : Below w.heap.size w wa := by rw [← hwa]; exact below_alloc _ _
    have d1 : wa.cell? ⟨w.heap.size, 1, none⟩ = some (.int .i64 n) := by rw [← hwa]; simp
    have hsa : wa.heap.size = w.heap.size + 1 := by rw [← hwa]; simp
    have hla : w.heap.size < wa.heap.size := by omega
    have hWa : W.heap.size ≤ wa.heap.size := by omega
    have Hba := hide hba
    have Hsa := hide hsa
    have Hob : Hid ((wa.alloc (.cells #[.int .u8 88] 5)).drew.ownsRow W.heap.size 5 1 (.slice za bs.length zc) bs.length (bytesV bs)) :=
      owns_keep Ho.out (fun g hg => ((hba.alloc hba.size _).drew).block g (Hvo.out g hg).2)
    clear hwa hba hsa
    go_region_held3 (fun w' => w'.cell? ⟨w.heap.size, 1, none⟩ = some (.int .i64 n))
      (first
        | go_keep
        | (rw [hG4.far hgl hgn]; assumption)
        | (rw [hg3.cell_far _ (by simp; omega) (Ne.symm Hnb.out)]; simp only [World.cell?_drew]; rw [World.cell?_alloc_lt _ _ _ hla]; assumption))
      (first
        | (refine step_append_cap _ (by rfl) _ _ _ (by rfl) W.heap.size 5 i5 (.int .u8 0) 1 1 Tryd.underlying59 hi5 hz0 hz1 hz2 rfl (by decide) (.slice za bs.length zc) bs.length (bytesV bs) (by rfl) Hob.out
            ⟨wa.heap.size, 0, none⟩ 1 1 [.int .u8 88] (by rfl) (by rfl) (World.news_of_block (cs := #[.int .u8 88]) (t := 5) (fr := (0, 0)) (heap_alloc_new wa _)) (by simp [Value.oneCell']) (by decide) hl1 hl2 (by simp; omega) ?_; intro g3 cap3 w3 hown3 hg3 hat3 hlt3)
        | (go_at_call 49; refine (appendInt_any n hx.1 hx.2 W.heap.size (.slice (some ⟨g3, 0, none⟩) (bs.length + 1) cap3) (bs ++ [88]) _ ?_ ?_ ?_).mono ?_; (simpa using hown3); (simp; omega); (have := hg3.size; simp at this; omega); rintro e w4 ⟨g4, c4, rfl, hG4⟩; have hgl : w.heap.size < w3.heap.size := (by have := hg3.size; simp at this; omega); have hgn : (Value.slice (some ⟨g3, 0, none⟩) (bs.length + 1) cap3).ownBlock ≠ some w.heap.size := tx_ne Hvo.out hat3 Hsa.out))
    have HG : Hid (Grew W.heap.size w w4 (.slice za bs.length zc) (bs ++ [88] ++ [dig n]).length g4 c4 (bytesV (bs ++ [88] ++ [dig n]))) := by
      have hA : Grew W.heap.size w w3 (.slice za bs.length zc) (bs.length + 1) g3 cap3 (bytesV bs ++ [.int .u8 88]) :=
        Grew.of ((Hba.out.alloc Hba.out.size _).drew) hown3 hg3 (by rcases hat3 with h | h; exact .inl (by rw [h]; rfl); exact .inr h.1)
      rw [Hid, show (bs ++ [(88 : UInt8)] ++ [dig n]).length = (bs ++ [(88 : UInt8)]).length + 1 by simp]
      exact hA.trans hG4
    have hlen4 : (bs ++ [88] ++ [dig n]).length = bs.length + 1 + 1 := by simp
    clear hG4 hg3 hown3 hat3 hlt3
    go_wp2_with fail
    go_ret
    have e := HT.out.trans Htt.out
    subst e
    exact ⟨g4, c4, by rw [hlen4]; rfl, HG.out⟩

theorem str_of_row {w : World} {base g cap : Nat} {T : List UInt8} (h : w.ownsRow base 5 1 (.slice (some ⟨g, 0, none⟩) T.length cap) T.length (bytesV T)) :
    (convert 59 9 (.slice (some ⟨g, 0, none⟩) T.length cap)).run Tryd.prog w = .ok (str T) w := by
  have h2 := run_convert_bytes_arg (P := Tryd.prog) w 59 5 Tryd.underlying59 Tryd.underlying5 g 0 T.length cap (T.map fun b => (b.toNat : Int)) (by simp) (fun i hi => by
    rw [Nat.zero_add, h.cellAt i (by omega)]
    simp [List.getD_eq_getElem?_getD, hi]) 9 Tryd.underlying9
  rw [h2]
  have e : strOfNums (T.map fun b => (b.toNat : Int)) = ⟨T.toArray⟩ := by
    have : ∀ l : List UInt8, (l.map fun b => (b.toNat : Int)).map (fun n => UInt8.ofNat n.toNat) = l := fun l => by
      rw [List.map_map]
      conv => rhs; rw [← List.map_id l]
      exact List.map_congr_left fun b _ => by simp
    rw [strOfNums, this]
  rw [e]

set_option maxHeartbeats 400000 in
theorem text_any (x : Bool × Int) (k : Fo) (a : Value) (w : World) (hS : SIn w k a) (hx : 0 ≤ x.2 ∧ x.2 ≤ (if x.1 then 4 else 100)) (ht : Fo.texts k) (hl : (textT x k).length ≤ 100000) :
    Calls Tryd.prog 20 #[.agg #[.bool x.1, .int .i64 x.2, a]] w fun e w' => e = .returned (str (textT x k)) ∧ Below w.heap.size w w' := by
  obtain ⟨v, n⟩ := x
  have HS := hide hS
  have Ht := hide ht
  have Hx := hide hx
  obtain ⟨ad, c, b, o, rfl, -, -, -, -⟩ := hS
  obtain ⟨T, hT⟩ : ∃ T, T = [] ++ textT (v, n) k := ⟨_, rfl⟩
  have HT := hide hT
  have HT2 : Hid (textT (v, n) k = T) := by rw [hT]; rfl
  clear hT ht hx
  rw [HT2.out]
  go_enter Tryd.func20, Tryd.ntmps20
  go_wp2_with fail
  refine (addText_any (v, n) k (w.alloc (.cells #[.bool v, .int .i64 n, .slice ad (Fo.len k) c] 26)) _ _ _ [] T HT.out (HS.out.alloc _) (Below.refl _ _) ⟨rfl, .inl ⟨rfl, rfl⟩⟩ Hx.out Ht.out (by simpa using hl)).mono ?_
  rintro e w1 ⟨g, cap, rfl, hG⟩
  have hcv := str_of_row hG.1
  have hB := below_box (hG.below (Nat.le_refl _) (fun g hg => by simp [Value.ownBlock] at hg))
  clear hG
  go_wp2_with fail
  go_ret
  exact ⟨rfl, hB⟩

end Go.Proofs.YtegdfnfengnjlaaDoor
