/- Text TextW Vars Alive PutP Open -/
import Derived.Test.YtfckelbdageenabGreatDoorG03
import Derived.Lib.AppendStr
import Derived.Lib.SmallJoins
import Derived.Deep.Strs
import Derived.LaidMore
import Derived.OpenShut
import Derived.Stop.Joined
namespace Go.Proofs.YtfckelbdageenabGreatDoor
open Go.RowKit Go.Deep Go.ChangeShapes Go.WideShapes

theorem Tryz.info5 : (Tryz.prog.info? 5).map (fun i => (i.zero, i.size, i.bytes)) = some (some (.int .u8 0), 1, 1) := by kernel_rfl

abbrev bytesV (bs : List UInt8) : List Value := bs.map fun b => Value.int .u8 (b.toNat : Int)

/-- A string appended: in the old row, or in a new block. -/
theorem run_append_str {P : Program} (w : World) (base : Nat) (t u ty e : TypeId) (i : TypeInfo) (ht : P.underlying t = some (.slice e)) (hu : P.underlying u = some .string) (hi : P.info? e = some i) (hz : i.zero = some (.int .u8 0))
    (hsize : i.size = 1) (hby : i.bytes = 1) (v : Value) (n : Nat) (xs : List Value) (hown : w.ownsRow base e 1 v n xs) (s : ByteArray) (h0 : 0 < s.size)
    (h63 : n + s.size ≤ maxLen) (hbytes : n + s.size ≤ 140737488355328) (hbase : base ≤ w.heap.size) :
    ∃ g cap w', (Builtin.append_ #[t, u] ty #[v, .string s]).run P w = .ok (.slice (some ⟨g, 0, none⟩) (n + s.size) cap) w' ∧ w'.ownsRow base e 1 (.slice (some ⟨g, 0, none⟩) (n + s.size) cap) (n + s.size) (xs ++ Lib.strCells s) ∧ w.grownBy w' v.ownBlock ∧ (v.ownBlock = some g ∨ g = w.heap.size) := by
  obtain ⟨v', w', hr, h2, h3, _⟩ := Lib.run_append_own_string (P := P) w base t u ty e i ht hu hi hz hsize hby v n xs hown s h63 hbytes hbase
  obtain ⟨g, cap, rfl, _, _⟩ := h2.form (by omega)
  refine ⟨g, cap, w', hr, h2, h3, ?_⟩
  have hsmall : n + s.size ≤ 9223372036854775807 := by simp only [maxLen] at h63; omega
  rcases hown.2 with ⟨rfl, rfl⟩ | ⟨g0, cap0, cur, rfl, hbg, hg, hnc, hcm, hcs, htake⟩
  · have hr2 := run_append_nil_string (P := P) w t u ty e i (.int .u8 0) ht hu hi hz s h0 (by omega) (by rw [hby]; omega)
    rw [hr] at hr2
    simp only [Result.ok.injEq, Value.slice.injEq, Option.some.injEq, Addr.mk.injEq] at hr2
    exact .inr hr2.1.1.1
  · by_cases hroom : n + s.size ≤ cap0
    · have hr2 := Lib.run_append_room_string (P := P) w t u ty e i ht hu hi hsize g0 n cap0 cur hg s hroom (by omega)
      rw [hr] at hr2
      simp only [Result.ok.injEq, Value.slice.injEq, Option.some.injEq, Addr.mk.injEq] at hr2
      exact .inl (by rw [hr2.1.1.1]; rfl)
    · have holds : ∀ j u, xs[j]? = some u → w.cell? ((⟨g0, 0, none⟩ : Addr).add j) = some u := hown.cells (g := g0) rfl
      have hr2 := Lib.run_append_grow_string (P := P) w t u ty e i (.int .u8 0) ht hu hi hz ⟨g0, 0, none⟩ n cap0 xs (by rw [hsize]; exact hown.1) holds s (by omega) (by omega) (by rw [hby]; exact growslice_fits (by omega) (by omega))
      rw [hr] at hr2
      simp only [Result.ok.injEq, Value.slice.injEq, Option.some.injEq, Addr.mk.injEq] at hr2
      exact .inr hr2.1.1.1
theorem wpList_append_str {P : Program} (w : World) {ops : Array Oper} {rest : List Oper} {o : Oper} {a : Act} {Q : Exit → Act → World → Prop} (hgd : o.guard = none) (sl x : Operand) (t u : TypeId)
    (ho : o.op = .call { callee := .builtin .append, args := #[sl, x], argTypes := #[t, u] })
    (base : Nat) (e : TypeId) (i : TypeInfo) (ht : P.underlying t = some (.slice e)) (hu : P.underlying u = some .string) (hi : P.info? e = some i) (hz : i.zero = some (.int .u8 0))
    (hsize : i.size = 1) (hby : i.bytes = 1) (v : Value) (n : Nat) (xs : List Value) (hs : a.eval sl = v) (hown : w.ownsRow base e 1 v n xs) (s : ByteArray) (hx : a.eval x = .string s) (h0 : 0 < s.size)
    (h63 : n + s.size ≤ maxLen) (hbytes : n + s.size ≤ 140737488355328) (hbase : base ≤ w.heap.size)
    (h : ∀ g cap w', w'.ownsRow base e 1 (.slice (some ⟨g, 0, none⟩) (n + s.size) cap) (n + s.size) (xs ++ Lib.strCells s) → w.grownBy w' v.ownBlock → (v.ownBlock = some g ∨ g = w.heap.size) → wpList P ops Q rest (a.put o.dst (.slice (some ⟨g, 0, none⟩) (n + s.size) cap)) w') : wpList P ops Q (o :: rest) a w := by
  refine wpList_plain hgd fun K hK => ?_
  obtain ⟨g, cap, w', hr, h2, h3, h4⟩ := run_append_str (P := P) w base t u o.type e i ht hu hi hz hsize hby v n xs hown s h0 h63 hbytes hbase
  unfold Oper.wp execOp
  simp only [ho, resolve, invoke, builtin, Sem.run_bind, Sem.run_pure, Result.andThen_ok, List.map_toArray, List.map_cons, List.map_nil, hs, hx, hr]
  exact hK _ _ (h g cap w' h2 h3 h4)

def dig (n : Int) : UInt8 := UInt8.ofNat (48 + n.toNat)

set_option maxHeartbeats 400000 in
theorem small_any (n : Int) (h0 : 0 ≤ n) (h4 : n ≤ 4) (w : World) : Calls Tryz.prog 131 #[.int .i64 n] w fun e w' => e = .returned (str [dig n]) ∧ w' = w := by
  have : n = 0 ∨ n = 1 ∨ n = 2 ∨ n = 3 ∨ n = 4 := by omega
  rcases this with rfl | rfl | rfl | rfl | rfl <;>
  · go_enter Tryz.func131, Tryz.ntmps131
    go_wp2_with fail
    go_ret
    exact ⟨rfl, rfl⟩

/-- A byte slice of the call's own that has grown by one. -/
def Grew (base : Nat) (w w' : World) (vo : Value) (n : Nat) (g cap : Nat) (cells : List Value) : Prop :=
  w'.ownsRow base 5 1 (.slice (some ⟨g, 0, none⟩) n cap) n cells ∧ Fr w w' vo.ownBlock none ∧ (vo.ownBlock = some g ∨ w.heap.size ≤ g)

set_option maxRecDepth 100000 in
set_option maxHeartbeats 400000 in
theorem appendUint_any (n : Int) (h0 : 0 ≤ n) (h4 : n ≤ 4) (base : Nat) (vo : Value) (bs : List UInt8) (w : World) (ho : w.ownsRow base 5 1 vo bs.length (bytesV bs)) (hb : bs.length ≤ 1000000) (hbase : base ≤ w.heap.size) :
    Calls Tryz.prog 137 #[vo, .int .u64 n, .int .i64 10] w fun e w' => ∃ g cap, e = .returned (.slice (some ⟨g, 0, none⟩) (bs.length + 1) cap) ∧ Grew base w w' vo (bs.length + 1) g cap (bytesV (bs ++ [dig n])) := by
  have Ho := hide ho
  obtain ⟨za, zc, rfl⟩ := slice_of_owns ho
  obtain ⟨i5, hi5, hz0, hz1, hz2⟩ := info_parts Tryz.info5
  have hs1 : (⟨[dig n].toArray⟩ : ByteArray).size = 1 := rfl
  have Hs0 : Hid (0 < (⟨[dig n].toArray⟩ : ByteArray).size) := by rw [hs1]; exact Nat.one_pos
  have H63 : Hid (bs.length + (⟨[dig n].toArray⟩ : ByteArray).size ≤ maxLen) := by rw [hs1]; unfold maxLen Hid; omega
  have Hby : Hid (bs.length + (⟨[dig n].toArray⟩ : ByteArray).size ≤ 140737488355328) := by rw [hs1]; unfold Hid; omega
  clear ho hs1
  go_enter Tryz.func137, Tryz.ntmps137
  go_wp2_with fail
  refine (small_any n h0 h4 _).mono ?_
  rintro e w' ⟨rfl, hw'⟩
  rw [hw']
  clear hw' w'
  go_wp2_with (at_builtin; refine wpList_append_str _ rfl (.tmp 13) (.tmp 16) 92 9 rfl base 5 i5 Tryz.underlying92 Tryz.underlying9 hi5 hz0 hz1 hz2 (.slice za bs.length zc) bs.length (bytesV bs) rfl Ho.out ⟨[dig n].toArray⟩ rfl Hs0.out H63.out Hby.out hbase ?_; intro g cap w1 ho1 hg1 hat1)
  go_ret
  refine ⟨g, cap, rfl, ?_, Fr.of_grown hg1 (fun q _ h => .inl h.symm), ?_⟩
  · rw [show bytesV (bs ++ [dig n]) = bytesV bs ++ Lib.strCells ⟨[dig n].toArray⟩ by simp [Lib.strCells]]
    exact ho1
  · rcases hat1 with h | h
    · exact .inl h
    · exact .inr (by omega)

set_option maxHeartbeats 400000 in
theorem appendIntI_any (n : Int) (h0 : 0 ≤ n) (h4 : n ≤ 4) (base : Nat) (vo : Value) (bs : List UInt8) (w : World) (ho : w.ownsRow base 5 1 vo bs.length (bytesV bs)) (hb : bs.length ≤ 1000000) (hbase : base ≤ w.heap.size) :
    Calls Tryz.prog 130 #[vo, .int .i64 n, .int .i64 10] w fun e w' => ∃ g cap, e = .returned (.slice (some ⟨g, 0, none⟩) (bs.length + 1) cap) ∧ Grew base w w' vo (bs.length + 1) g cap (bytesV (bs ++ [dig n])) := by
  have Ho := hide ho
  obtain ⟨za, zc, rfl⟩ := slice_of_owns ho
  have hn : ¬ n < 0 := by omega
  clear ho
  go_enter Tryz.func130, Tryz.ntmps130
  go_wp2_with fail
  refine (appendUint_any n h0 h4 base _ bs w Ho.out hb hbase).mono ?_
  rintro e w1 ⟨g, cap, rfl, hG⟩
  have HG := hide hG
  clear hG
  go_wp2_with fail
  go_ret
  exact ⟨g, cap, rfl, HG.out⟩

set_option maxHeartbeats 400000 in
theorem appendInt_any (n : Int) (h0 : 0 ≤ n) (h4 : n ≤ 4) (base : Nat) (vo : Value) (bs : List UInt8) (w : World) (ho : w.ownsRow base 5 1 vo bs.length (bytesV bs)) (hb : bs.length ≤ 1000000) (hbase : base ≤ w.heap.size) :
    Calls Tryz.prog 117 #[vo, .int .i64 n, .int .i64 10] w fun e w' => ∃ g cap, e = .returned (.slice (some ⟨g, 0, none⟩) (bs.length + 1) cap) ∧ Grew base w w' vo (bs.length + 1) g cap (bytesV (bs ++ [dig n])) := by
  have Ho := hide ho
  obtain ⟨za, zc, rfl⟩ := slice_of_owns ho
  clear ho
  go_enter Tryz.func117, Tryz.ntmps117
  go_wp2_with fail
  refine (appendIntI_any n h0 h4 base _ bs w Ho.out hb hbase).mono ?_
  rintro e w1 ⟨g, cap, rfl, hG⟩
  have HG := hide hG
  clear hG
  go_wp2_with fail
  go_ret
  exact ⟨g, cap, rfl, HG.out⟩

end Go.Proofs.YtfckelbdageenabGreatDoor

namespace Go.Proofs.YtfckelbdageenabGreatDoor
open Go.RowKit Go.Deep Go.ChangeShapes Go.WideShapes

def sym (n : Int) : UInt8 := UInt8.ofNat (97 + n.toNat)
/-- Terms' texts, each behind its sign. -/
def textF : Fo → Int → List UInt8
  | .nil, _ => []
  | .node _ _ x k r, i => (signF i :: (if x.1 then [88, dig x.2] else sym x.2 :: (if Fo.len k = 0 then [] else textF k 0 ++ [41]))) ++ textF r (i + 1)
def textT (x : Bool × Int) (k : Fo) : List UInt8 := if x.1 then [88, dig x.2] else sym x.2 :: (if Fo.len k = 0 then [] else textF k 0 ++ [41])
def txTo (k : Fo) (j : Nat) : List UInt8 := textF (Fo.take j k) 0

theorem textF_snoc : ∀ {F : Fo} {j : Nat} {x : Bool × Int} {k : Fo} (i : Int), F.list[j]? = some (x, k) → textF (Fo.take (j + 1) F) i = textF (Fo.take j F) i ++ signF (i + j) :: textT x k
  | .nil, _, _, _, _, h => by simp [Fo.list] at h
  | .node _ _ y l r, 0, x, k, i, h => by
    simp only [Fo.list, List.getElem?_cons_zero, Option.some.injEq, Prod.mk.injEq] at h
    obtain ⟨rfl, rfl⟩ := h
    simp [Fo.take, textF, textT]
  | .node _ _ y l r, j + 1, x, k, i, h => by
    have := textF_snoc (F := r) (j := j) (i + 1) (by simpa [Fo.list] using h)
    simp only [Fo.take, textF] at this ⊢
    have e : i + 1 + (j : Int) = i + ((j + 1 : Nat) : Int) := by omega
    rw [this, e, List.append_assoc]
theorem txTo_succ {k : Fo} {j : Nat} {x : Bool × Int} {l : Fo} (h : k.list[j]? = some (x, l)) : txTo k (j + 1) = txTo k j ++ signF j :: textT x l := by
  rw [txTo, textF_snoc 0 h]; simp [txTo]
theorem txTo_end (k : Fo) : txTo k (Fo.len k) = textF k 0 := by rw [txTo, take_all]
theorem textF_take_le : ∀ (F : Fo) (j : Nat) (i : Int), (textF (Fo.take j F) i).length ≤ (textF F i).length
  | _, 0, _ => by simp [Fo.take, textF]
  | .nil, _ + 1, _ => by simp [Fo.take]
  | .node _ _ x k r, j + 1, i => by
    have := textF_take_le r j (i + 1)
    simp only [Fo.take, textF, List.length_append]
    omega
theorem txTo_le (k : Fo) (j : Nat) : (txTo k j).length ≤ (textF k 0).length := textF_take_le k j 0

/-- Each number has a sign that is written. -/
def Fo.texts : Fo → Prop
  | .nil => True
  | .node _ _ x k r => (0 ≤ x.2 ∧ x.2 ≤ (if x.1 then 4 else 100)) ∧ Fo.texts k ∧ Fo.texts r
theorem texts_at : ∀ {F : Fo} {j : Nat} {x : Bool × Int} {k : Fo}, Fo.texts F → F.list[j]? = some (x, k) → (0 ≤ x.2 ∧ x.2 ≤ (if x.1 then 4 else 100)) ∧ Fo.texts k
  | .nil, _, _, _, _, h => by simp [Fo.list] at h
  | .node _ _ y l r, 0, x, k, hn, h => by
    simp only [Fo.list, List.getElem?_cons_zero, Option.some.injEq, Prod.mk.injEq] at h
    obtain ⟨rfl, rfl⟩ := h
    exact ⟨hn.1, hn.2.1⟩
  | .node _ _ y l r, j + 1, x, k, hn, h => texts_at (F := r) hn.2.2 (by simpa [Fo.list] using h)

theorem Grew.trans {base : Nat} {w w1 w2 : World} {vo : Value} {n1 g1 c1 n2 g2 c2 : Nat} {xs ys : List Value} (h1 : Grew base w w1 vo n1 g1 c1 xs) (h2 : Grew base w1 w2 (.slice (some ⟨g1, 0, none⟩) n1 c1) n2 g2 c2 ys) : Grew base w w2 vo n2 g2 c2 ys := by
  obtain ⟨a1, a2, a3⟩ := h1
  obtain ⟨b1, b2, b3⟩ := h2
  refine ⟨b1, a2.trans b2 (fun q hq h => ?_), ?_⟩
  · rcases h with h | h
    · simp only [Value.ownBlock, Option.some.injEq] at h
      subst h
      rcases a3 with a3 | a3
      · exact .inl a3.symm
      · omega
    · cases h
  · rcases b3 with b3 | b3
    · simp only [Value.ownBlock, Option.some.injEq] at b3
      subst b3
      exact a3
    · exact .inr (Nat.le_trans a2.size b3)
theorem Grew.pre {base : Nat} {w w1 w2 : World} {vo : Value} {n g c : Nat} {xs : List Value} (hb : Below w.heap.size w w1) (h : Grew base w1 w2 vo n g c xs) : Grew base w w2 vo n g c xs := by
  obtain ⟨b1, b2, b3⟩ := h
  refine ⟨b1, (Fr.of_below hb _ _).trans b2 (fun q _ h => h), ?_⟩
  rcases b3 with b3 | b3
  · exact .inl b3
  · exact .inr (Nat.le_trans hb.size b3)
theorem Grew.of {base : Nat} {w w1 w2 : World} {vo : Value} {n g c : Nat} {xs : List Value} (hb : Below w.heap.size w w1) (ho : w2.ownsRow base 5 1 (.slice (some ⟨g, 0, none⟩) n c) n xs) (hg : w1.grownBy w2 vo.ownBlock) (hat : vo.ownBlock = some g ∨ g = w1.heap.size) : Grew base w w2 vo n g c xs :=
  Grew.pre hb ⟨ho, Fr.of_grown hg (fun q _ h => .inl h.symm), by rcases hat with h | h; exact .inl h; exact .inr (by omega)⟩
theorem Grew.below {base : Nat} {w w1 : World} {vo : Value} {n g c : Nat} {xs : List Value} (h : Grew base w w1 vo n g c xs) (hb : base ≤ w.heap.size) (hv : ∀ g, vo.ownBlock = some g → base ≤ g) : Below base w w1 := h.2.1.below hb hv (fun _ h => by cases h)
/-- A block that is not the row's is as it was. -/
theorem Grew.far {base : Nat} {w w1 : World} {vo : Value} {n g c : Nat} {xs : List Value} (h : Grew base w w1 vo n g c xs) {q i : Nat} (hq : q < w.heap.size) (hv : vo.ownBlock ≠ some q) : w1.cell? ⟨q, i, none⟩ = w.cell? ⟨q, i, none⟩ :=
  World.cell?_of_block (a := ⟨q, i, none⟩) (h.2.1.block q hq (fun e => hv e.symm) (fun e => by cases e))

theorem bytes_snoc (bs : List UInt8) (c : UInt8) : bytesV (bs ++ [c]) = bytesV bs ++ [.int .u8 (c.toNat : Int)] := by simp

theorem tx_ne {W w wa w3 : World} {v : Value} {n g cap m : Nat} {ob : Obj} (hv : ∀ g, v.ownBlock = some g → W.heap.size ≤ g ∧ g < w.heap.size) (hat : v = .slice (some ⟨g, 0, none⟩) n cap ∨ (g = (wa.alloc ob).drew.heap.size ∧ (wa.alloc ob).drew.grownBy w3 none)) (hs : wa.heap.size = w.heap.size + 1) : (Value.slice (some ⟨g, 0, none⟩) m cap).ownBlock ≠ some w.heap.size := by
  intro e
  simp only [Value.ownBlock, Option.some.injEq] at e
  subst e
  rcases hat with h | ⟨h, _⟩
  · have := (hv w.heap.size (by rw [h]; rfl)).2; omega
  · simp at h; omega

theorem tx_below {W wr wb w3 : World} {v : Value} {ob : Obj} (hB : Below W.heap.size W wr) (hb : Below wr.heap.size wr wb) (hg : (wb.alloc ob).drew.grownBy w3 v.ownBlock) (hv : ∀ g, v.ownBlock = some g → W.heap.size ≤ g) : Below W.heap.size W w3 := by
  have h1 : Below W.heap.size W (wb.alloc ob).drew := ((hB.trans (hb.mono hB.size)).alloc (Nat.le_trans hB.size hb.size) ob).drew
  exact h1.grown hg (by have := hB.size; have := hb.size; simp; omega) hv

def AddTextSaid (x : Bool × Int) (k : Fo) : Prop := ∀ (W : World) (a : Value) (w : World) (vo : Value) (bs T : List UInt8), T = bs ++ textT x k → SIn W k a → Below W.heap.size W w → w.ownsRow W.heap.size 5 1 vo bs.length (bytesV bs) →
    (0 ≤ x.2 ∧ x.2 ≤ (if x.1 then 4 else 100)) → Fo.texts k → bs.length + (textT x k).length ≤ 100000 →
    Calls Tryz.prog 99 #[vo, .agg #[.bool x.1, .int .i64 x.2, a]] w fun e w' => ∃ g cap, e = .returned (.slice (some ⟨g, 0, none⟩) T.length cap) ∧ Grew W.heap.size w w' vo T.length g cap (bytesV T)

set_option maxRecDepth 100000 in
set_option maxHeartbeats 1000000 in
theorem addText_any (x : Bool × Int) (k : Fo) : AddTextSaid x k := by
  refine Fo.ind1 (p := AddTextSaid) ?_ x k
  clear x k
  intro x k ih W a w vo bs T hT hS hB ho hx htx hlen
  obtain ⟨v, n⟩ := x
  have HI := hide ih
  have HT := hide hT
  have HB := hide hB
  have Ho := hide ho
  have Htx := hide htx
  obtain ⟨ad, c, b, o, rfl, had, hlc, hcm, hF⟩ := hS
  have HF := hide hF
  unfold maxLen at hcm
  obtain ⟨za, zc, rfl⟩ := slice_of_owns ho
  obtain ⟨i5, hi5, hz0, hz1, hz2⟩ := info_parts Tryz.info5
  have hWs := hB.size
  have Hvo : Hid (∀ g, (Value.slice za bs.length zc).ownBlock = some g → W.heap.size ≤ g ∧ g < w.heap.size) := owns_at ho
  have hl1 : bs.length + 1 ≤ maxLen := by unfold maxLen; omega
  have hl2 : (bs.length + 1) * 1 ≤ 140737488355328 := by omega
  clear ih hF ho htx hB hT
  cases v
  · have Htt : Hid (textT (false, n) k = sym n :: (if Fo.len k = 0 then [] else textF k 0 ++ [41])) := rfl
    have Hsym : Hid (((sym n).toNat : Int) = 97 + n) := by
      simp only [if_false, Bool.false_eq_true] at hx
      rw [Hid, sym, UInt8.toNat_ofNat']
      omega
    simp only [Bool.false_eq_true, if_false] at hx
    have hn0 : 0 ≤ n := hx.1
    have hn1 : n ≤ 100 := hx.2
    have Hob : Hid (((w.alloc (.cells #[.bool false, .int .i64 n, .slice ad (Fo.len k) c] 36)).alloc (.cells #[.int .u8 (97 + n)] 5)).ownsRow W.heap.size 5 1 (.slice za bs.length zc) bs.length (bytesV bs)) :=
      owns_keep Ho.out (fun g hg => ((below_alloc w _).alloc (by simp) _).block g (Hvo.out g hg).2)
    have Hnews : Hid (∀ j u, [Value.int .u8 (97 + n)][j]? = some u → ((w.alloc (.cells #[.bool false, .int .i64 n, .slice ad (Fo.len k) c] 36)).alloc (.cells #[.int .u8 (97 + n)] 5)).cell? ((⟨w.heap.size + 1, 0, none⟩ : Addr).add j) = some u) := by
      have h := World.news_of_block (cs := #[.int .u8 (97 + n)]) (heap_alloc_new (w.alloc (.cells #[.bool false, .int .i64 n, .slice ad (Fo.len k) c] 36)) (.cells #[.int .u8 (97 + n)] 5))
      intro j u hu
      have := h j u hu
      simpa using this
    clear hx
    go_enter Tryz.func99, Tryz.ntmps99
    go_wp2_with (at_builtin; refine wpList_append_lies _ rfl (.tmp 15) (.tmp 20) 92 rfl W.heap.size 5 i5 (.int .u8 0) 1 1 Tryz.underlying92 hi5 hz0 hz1 hz2 rfl (by decide) (.slice za bs.length zc) bs.length (bytesV bs) rfl Hob.out ⟨w.heap.size + 1, 0, none⟩ 1 1 [.int .u8 (97 + n)] rfl rfl Hnews.out (by simp [Value.oneCell']) (by decide) hl1 hl2 (by simp; omega) (w.heap.size + 2) (by simp) ?_; intro g cap w2 hown2 hg2 hat2 hlt2; have q2' : w2.cell? ⟨w.heap.size, 2, none⟩ = some (.slice ad (Fo.len k) c) := (hg2.cell_far _ (by simp; omega) (fun e => by have := (Hvo.out _ e.symm).2; simp at this)).trans (by simp))
    have HG0 : Hid (Grew W.heap.size (w.alloc (.cells #[.bool false, .int .i64 n, .slice ad (Fo.len k) c] 36)) w2 (.slice za bs.length zc) (bs ++ sym n :: txTo k 0).length g cap (bytesV (bs ++ sym n :: txTo k 0))) := by
      have e : bytesV (bs ++ sym n :: txTo k 0) = bytesV bs ++ [.int .u8 (97 + n)] := by simp [txTo, Fo.take, textF, Hsym.out]
      have e2 : (bs ++ sym n :: txTo k 0).length = bs.length + 1 := by simp [txTo, Fo.take, textF]
      rw [e, e2]
      exact Grew.of (below_alloc _ _) hown2 hg2 (by rcases hat2 with h | h; exact .inl h; exact .inr (by simp; omega))
    have hl0 : (bs ++ sym n :: txTo k 0).length = bs.length + 1 := by simp [txTo, Fo.take, textF]
    have Hl0 := hide hl0
    have Hlen : Hid (Fo.len k ≠ 0 → bs.length + 1 + (textF k 0).length + 1 ≤ 100000) := fun h => by
      have := hlen
      rw [Htt.out, if_neg h] at this
      simp at this
      omega
    generalize hwa : w.alloc (.cells #[.bool false, .int .i64 n, .slice ad (Fo.len k) c] 36) = wa at HG0
    have hsa : wa.heap.size = w.heap.size + 1 := by rw [← hwa]; simp
    have Hba : Hid (Below w.heap.size w wa) := by rw [← hwa]; exact below_alloc _ _
    have Hbx : Hid (wa.cell? ⟨w.heap.size, 2, none⟩ = some (.slice ad (Fo.len k) c)) := by rw [← hwa]; simp [Hid]
    have Hnb : Hid ((Value.slice za bs.length zc).ownBlock ≠ some w.heap.size) := fun e => by have := (Hvo.out _ e).2; omega
    have Hsa := hide hsa
    clear hown2 hg2 hat2 hlt2 q2' Hob Hnews hl0 hwa hsa
    go_loopw [0, 25] (fun vo' i wr => ∃ (j g cap : Nat), j ≤ Fo.len k ∧ i = .int .i64 j ∧ vo' = .slice (some ⟨g, 0, none⟩) (bs ++ sym n :: txTo k j).length cap ∧ Grew W.heap.size wa wr (.slice za bs.length zc) (bs ++ sym n :: txTo k j).length g cap (bytesV (bs ++ sym n :: txTo k j))) (fun _ i _ => Fo.len k - (intOf i).toNat)
    case atStart => exact ⟨0, g, cap, Nat.zero_le _, rfl, by rw [Hl0.out], HG0.out⟩
    case round =>
      obtain ⟨j, gj, cj, hj, rfl, rfl, hR⟩ := hrel
      have HR := hide hR
      have Hbxr : Hid (wr.cell? ⟨w.heap.size, 2, none⟩ = some (.slice ad (Fo.len k) c)) := (hR.far (by rw [Hsa.out]; omega) Hnb.out).trans Hbx.out
      have HBr : Hid (Below W.heap.size W wr) := (HB.out.trans (Hba.out.mono hWs)).trans (hR.below (by rw [Hsa.out]; omega) (fun g hg => (Hvo.out g hg).1))
      clear hR HG0
      by_cases hlt : j < Fo.len k
      · have hlt' : (j : Int) < (Fo.len k : Int) := by omega
        obtain ⟨⟨⟨yv, yn⟩, yk⟩, hy⟩ : ∃ y, k.list[j]? = some y := ⟨k.list[j]'(by rw [Fo.len_list]; exact hlt), by simp⟩
        obtain ⟨c0, c1, yv', c2, hSy⟩ := HF.out.at hy
        have HSy := hide hSy
        obtain ⟨ya, yc, yb, yo, rfl, -, -, -, -⟩ := hSy
        have c0' := grow_cell HBr.out _ _ c0
        have c1' := grow_cell HBr.out _ _ c1
        have c2' := grow_cell HBr.out _ _ c2
        have ha : ad = some ⟨b, o, none⟩ := had (by omega)
        subst ha
        have Hnext : Hid (bs ++ sym n :: txTo k (j + 1) = (bs ++ sym n :: txTo k j) ++ [signF j] ++ textT (yv, yn) yk) := by rw [Hid, txTo_succ hy]; simp
        have Hbd : Hid ((bs ++ sym n :: txTo k j).length + 1 + (textT (yv, yn) yk).length ≤ 100000) := by
          have h1 := Hlen.out (by omega)
          have h2 := txTo_le k (j + 1)
          rw [txTo_succ hy] at h2
          simp at h2 ⊢
          unfold Hid
          omega
        have Hty := hide (texts_at Htx.out hy)
        have Hy := hide hy
        generalize bs ++ sym n :: txTo k j = Bj at *
        have hbd := Hbd.out
        have hb1 : Bj.length + 1 ≤ maxLen := by unfold maxLen; omega
        have hb2 : (Bj.length + 1) * 1 ≤ 140737488355328 := by omega
        have Hvj : Hid (∀ g, (Value.slice (some ⟨gj, 0, none⟩) Bj.length cj).ownBlock = some g → W.heap.size ≤ g ∧ g < wr.heap.size) := owns_at HR.out.1
        clear hy c0 c1 c2 Hbd had
        go_wp2_with fail
        clear c0' c1' c2'
        generalize hwb : wr.alloc (.cells #[.bool yv, .int .i64 yn, .slice ya (Fo.len yk) yc] 36) = wb
        have d0 : wb.cell? ⟨wr.heap.size, 0, none⟩ = some (.bool yv) := by rw [← hwb]; simp
        have d1 : wb.cell? ⟨wr.heap.size, 1, none⟩ = some (.int .i64 yn) := by rw [← hwb]; simp
        have d2 : wb.cell? ⟨wr.heap.size, 2, none⟩ = some (.slice ya (Fo.len yk) yc) := by rw [← hwb]; simp
        have hsb : wb.heap.size = wr.heap.size + 1 := by rw [← hwb]; simp
        have Hsb := hide hsb
        have hlb : wr.heap.size < wb.heap.size := by omega
        have hWb : W.heap.size ≤ wb.heap.size := by have := HBr.out.size; omega
        have Hbb : Hid (Below wr.heap.size wr wb) := by rw [← hwb]; exact below_alloc _ _
        have Hob : Hid ((wb.alloc (.cells #[.int .u8 ((signF j).toNat : Int)] 5)).drew.ownsRow W.heap.size 5 1 (.slice (some ⟨gj, 0, none⟩) Bj.length cj) Bj.length (bytesV Bj)) :=
          owns_keep HR.out.1 (fun g hg => ((Hbb.out.alloc Hbb.out.size _).drew).block g (Hvj.out g hg).2)
        have Hnj : Hid ((Value.slice (some ⟨gj, 0, none⟩) Bj.length cj).ownBlock ≠ some wr.heap.size) := fun e => by have := (Hvj.out _ e).2; omega
        obtain ⟨Tn, hTn⟩ : ∃ Tn, Tn = (Bj ++ [signF j]) ++ textT (yv, yn) yk := ⟨_, rfl⟩
        have HTn := hide hTn
        clear hwb hsb hTn
        go_region_held3 (fun w' => w'.cell? ⟨wr.heap.size, 0, none⟩ = some (.bool yv) ∧ w'.cell? ⟨wr.heap.size, 1, none⟩ = some (.int .i64 yn) ∧ w'.cell? ⟨wr.heap.size, 2, none⟩ = some (.slice ya (Fo.len yk) yc))
          (first
            | go_keep
            | (go_split_ands
               refine ⟨?_, ?_, ?_⟩
               · (rw [hG4.far hgl hgn]; assumption)
               · (rw [hG4.far hgl hgn]; assumption)
               · (rw [hG4.far hgl hgn]; assumption))
            | (go_split_ands
               refine ⟨?_, ?_, ?_⟩
               · (rw [hg3.cell_far _ (by simp; omega) (Ne.symm Hnj.out)]; simp only [World.cell?_drew]; rw [World.cell?_alloc_lt _ _ _ hlb]; assumption)
               · (rw [hg3.cell_far _ (by simp; omega) (Ne.symm Hnj.out)]; simp only [World.cell?_drew]; rw [World.cell?_alloc_lt _ _ _ hlb]; assumption)
               · (rw [hg3.cell_far _ (by simp; omega) (Ne.symm Hnj.out)]; simp only [World.cell?_drew]; rw [World.cell?_alloc_lt _ _ _ hlb]; assumption)))
          (first
            | (refine step_append_cap _ (by rfl) _ _ _ (by rfl) W.heap.size 5 i5 (.int .u8 0) 1 1 Tryz.underlying92 hi5 hz0 hz1 hz2 rfl (by decide) (.slice (some ⟨gj, 0, none⟩) Bj.length cj) Bj.length (bytesV Bj) (by rfl) Hob.out
                ⟨wb.heap.size, 0, none⟩ 1 1 [.int .u8 ((signF j).toNat : Int)] (by rfl) (by rfl) (World.news_of_block (cs := #[.int .u8 ((signF j).toNat : Int)]) (t := 5) (fr := (0, 0)) (heap_alloc_new wb _)) (by simp [Value.oneCell']) (by decide) hb1 hb2 (by simp; omega) ?_; intro g3 cap3 w3 hown3 hg3 hat3 hlt3)
            | (go_at_call 118; refine (signAhead_any _ _).mono ?_; rintro e w' ⟨rfl, hw'⟩; rw [hw']; clear hw' w')
            | (go_at_call 99; refine (HI.out ((yv, yn), yk) (List.mem_of_getElem? Hy.out) W _ _ (.slice (some ⟨g3, 0, none⟩) (Bj.length + 1) cap3) (Bj ++ [signF j]) Tn HTn.out HSy.out ?_ ?_ Hty.out.1 Hty.out.2 ?_).mono ?_; (exact tx_below HBr.out Hbb.out hg3 (fun g hg => (Hvj.out g hg).1)); (simpa using hown3); (simp; omega); rintro e w4 ⟨g4, c4, rfl, hG4⟩; have hgl : wr.heap.size < w3.heap.size := (by have := hg3.size; simp at this; omega); have hgn : (Value.slice (some ⟨g3, 0, none⟩) (Bj.length + 1) cap3).ownBlock ≠ some wr.heap.size := tx_ne Hvj.out hat3 Hsb.out))
        have HG : Hid (Grew W.heap.size wa w4 (.slice za bs.length zc) Tn.length g4 c4 (bytesV Tn)) := by
          have hA : Grew W.heap.size wr w3 (.slice (some ⟨gj, 0, none⟩) Bj.length cj) (Bj.length + 1) g3 cap3 (bytesV Bj ++ [.int .u8 ((signF j).toNat : Int)]) :=
            Grew.of ((Hbb.out.alloc Hbb.out.size _).drew) hown3 hg3 (by rcases hat3 with h | h; exact .inl (by rw [h]; rfl); exact .inr h.1)
          exact (HR.out.trans hA).trans hG4
        clear hG4 hg3 hown3 hat3 hlt3 hgl hgn
        go_wp2_with fail
        go_roundw
        case rel => exact ⟨j + 1, g4, c4, by omega, by go_num, by rw [Hnext.out, ← HTn.out], by rw [Hnext.out, ← HTn.out]; exact HG.out⟩
        case measure => simp [intOf]; omega
      · have hje : j = Fo.len k := by omega
        have Hje := hide hje
        clear hje
        have hbxr := Hbxr.out
        have hge : ¬ ((j : Int) < (Fo.len k : Int)) := by omega
        by_cases h0 : Fo.len k = 0
        · have h0' : ¬ (0 : Int) < (Fo.len k : Int) := by omega
          have Hfin : Hid (bs ++ textT (false, n) k = bs ++ sym n :: txTo k j) := by rw [Hid, Htt.out, if_pos h0, Hje.out, txTo_end, len_zero h0]; rfl
          generalize bs ++ sym n :: txTo k j = Bj at *
          clear h0
          go_wp2_with fail
          go_ret
          have e := HT.out.trans Hfin.out
          subst e
          exact ⟨gj, cj, rfl, Grew.pre Hba.out HR.out⟩
        · have h0' : (0 : Int) < (Fo.len k : Int) := by omega
          have Hfin : Hid (bs ++ textT (false, n) k = (bs ++ sym n :: txTo k j) ++ [41]) := by rw [Hid, Htt.out, if_neg h0, Hje.out, txTo_end]; simp
          have Hbd : Hid ((bs ++ sym n :: txTo k j).length + 1 ≤ 100000) := by
            have h1 := Hlen.out h0
            have h2 := txTo_le k j
            simp
            unfold Hid
            omega
          generalize bs ++ sym n :: txTo k j = Bj at *
          have hbd := Hbd.out
          have hb1 : Bj.length + 1 ≤ maxLen := by unfold maxLen; omega
          have hb2 : (Bj.length + 1) * 1 ≤ 140737488355328 := by omega
          have Hvj : Hid (∀ g, (Value.slice (some ⟨gj, 0, none⟩) Bj.length cj).ownBlock = some g → W.heap.size ≤ g ∧ g < wr.heap.size) := owns_at HR.out.1
          have Hob : Hid ((wr.alloc (.cells #[.int .u8 41] 5)).ownsRow W.heap.size 5 1 (.slice (some ⟨gj, 0, none⟩) Bj.length cj) Bj.length (bytesV Bj)) :=
            owns_keep HR.out.1 (fun g hg => (below_alloc wr _).block g (Hvj.out g hg).2)
          have hWr : W.heap.size ≤ wr.heap.size := HBr.out.size
          clear h0 Hbd hbd
          go_wp2_with (at_builtin; refine wpList_append_lies _ rfl (.tmp 42) (.tmp 43) 92 rfl W.heap.size 5 i5 (.int .u8 0) 1 1 Tryz.underlying92 hi5 hz0 hz1 hz2 rfl (by decide) (.slice (some ⟨gj, 0, none⟩) Bj.length cj) Bj.length (bytesV Bj) rfl Hob.out ⟨wr.heap.size, 0, none⟩ 1 1 [.int .u8 41] rfl rfl (cell_one_new _ _ _) (by simp [Value.oneCell']) (by decide) hb1 hb2 (by simp; omega) (wr.heap.size + 1) (by simp) ?_; intro g3 cap3 w3 hown3 hg3 hat3 hlt3)
          have HG : Hid (Grew W.heap.size wa w3 (.slice za bs.length zc) (Bj ++ [41]).length g3 cap3 (bytesV (Bj ++ [41]))) := by
            have hA : Grew W.heap.size wr w3 (.slice (some ⟨gj, 0, none⟩) Bj.length cj) (Bj.length + 1) g3 cap3 (bytesV Bj ++ [.int .u8 41]) :=
              Grew.of (below_alloc _ _) hown3 hg3 (by rcases hat3 with h | h; exact .inl h; exact .inr (by simp; omega))
            rw [Hid, show (Bj ++ [(41 : UInt8)]).length = Bj.length + 1 by simp, bytes_snoc]
            exact HR.out.trans hA
          have hl4 : (Bj ++ [(41 : UInt8)]).length = Bj.length + 1 := by simp
          clear hg3 hown3 hat3 hlt3
          go_ret
          have e := HT.out.trans Hfin.out
          subst e
          exact ⟨g3, cap3, by rw [hl4]; rfl, Grew.pre Hba.out HG.out⟩
  · simp only [if_true] at hx
    have Htt : Hid (bs ++ textT (true, n) k = (bs ++ [88]) ++ [dig n]) := by simp [Hid, textT]
    have hnb : (Value.slice za bs.length zc).ownBlock ≠ some w.heap.size := fun e => by have := (Hvo.out _ e).2; omega
    have Hnb := hide hnb
    clear hnb
    go_enter Tryz.func99, Tryz.ntmps99
    go_wp2_with fail
    generalize hwa : w.alloc (.cells #[.bool true, .int .i64 n, .slice ad (Fo.len k) c] 36) = wa
    have hba : Below w.heap.size w wa := by rw [← hwa]; exact below_alloc _ _
    have d1 : wa.cell? ⟨w.heap.size, 1, none⟩ = some (.int .i64 n) := by rw [← hwa]; simp
    have hsa : wa.heap.size = w.heap.size + 1 := by rw [← hwa]; simp
    have hla : w.heap.size < wa.heap.size := by omega
    have hWa : W.heap.size ≤ wa.heap.size := by omega
    have Hba := hide hba
    have Hsa := hide hsa
    have Hob : Hid ((wa.alloc (.cells #[.int .u8 88] 5)).drew.ownsRow W.heap.size 5 1 (.slice za bs.length zc) bs.length (bytesV bs)) :=
      owns_keep Ho.out (fun g hg => ((hba.alloc hba.size _).drew).block g (Hvo.out g hg).2)
    clear hwa hba hsa
    go_region_held3 (fun w' => w'.cell? ⟨w.heap.size, 1, none⟩ = some (.int .i64 n))
      (first
        | go_keep
        | (rw [hG4.far hgl hgn]; assumption)
        | (rw [hg3.cell_far _ (by simp; omega) (Ne.symm Hnb.out)]; simp only [World.cell?_drew]; rw [World.cell?_alloc_lt _ _ _ hla]; assumption))
      (first
        | (refine step_append_cap _ (by rfl) _ _ _ (by rfl) W.heap.size 5 i5 (.int .u8 0) 1 1 Tryz.underlying92 hi5 hz0 hz1 hz2 rfl (by decide) (.slice za bs.length zc) bs.length (bytesV bs) (by rfl) Hob.out
            ⟨wa.heap.size, 0, none⟩ 1 1 [.int .u8 88] (by rfl) (by rfl) (World.news_of_block (cs := #[.int .u8 88]) (t := 5) (fr := (0, 0)) (heap_alloc_new wa _)) (by simp [Value.oneCell']) (by decide) hl1 hl2 (by simp; omega) ?_; intro g3 cap3 w3 hown3 hg3 hat3 hlt3)
        | (go_at_call 117; refine (appendInt_any n hx.1 hx.2 W.heap.size (.slice (some ⟨g3, 0, none⟩) (bs.length + 1) cap3) (bs ++ [88]) _ ?_ ?_ ?_).mono ?_; (simpa using hown3); (simp; omega); (have := hg3.size; simp at this; omega); rintro e w4 ⟨g4, c4, rfl, hG4⟩; have hgl : w.heap.size < w3.heap.size := (by have := hg3.size; simp at this; omega); have hgn : (Value.slice (some ⟨g3, 0, none⟩) (bs.length + 1) cap3).ownBlock ≠ some w.heap.size := tx_ne Hvo.out hat3 Hsa.out))
    have HG : Hid (Grew W.heap.size w w4 (.slice za bs.length zc) (bs ++ [88] ++ [dig n]).length g4 c4 (bytesV (bs ++ [88] ++ [dig n]))) := by
      have hA : Grew W.heap.size w w3 (.slice za bs.length zc) (bs.length + 1) g3 cap3 (bytesV bs ++ [.int .u8 88]) :=
        Grew.of ((Hba.out.alloc Hba.out.size _).drew) hown3 hg3 (by rcases hat3 with h | h; exact .inl (by rw [h]; rfl); exact .inr h.1)
      rw [Hid, show (bs ++ [(88 : UInt8)] ++ [dig n]).length = (bs ++ [(88 : UInt8)]).length + 1 by simp]
      exact hA.trans hG4
    have hlen4 : (bs ++ [88] ++ [dig n]).length = bs.length + 1 + 1 := by simp
    clear hG4 hg3 hown3 hat3 hlt3
    go_wp2_with fail
    go_ret
    have e := HT.out.trans Htt.out
    subst e
    exact ⟨g4, c4, by rw [hlen4]; rfl, HG.out⟩

theorem str_of_row {w : World} {base g cap : Nat} {T : List UInt8} (h : w.ownsRow base 5 1 (.slice (some ⟨g, 0, none⟩) T.length cap) T.length (bytesV T)) :
    (convert 92 9 (.slice (some ⟨g, 0, none⟩) T.length cap)).run Tryz.prog w = .ok (str T) w := by
  have h2 := run_convert_bytes_arg (P := Tryz.prog) w 92 5 Tryz.underlying92 Tryz.underlying5 g 0 T.length cap (T.map fun b => (b.toNat : Int)) (by simp) (fun i hi => by
    rw [Nat.zero_add, h.cellAt i (by omega)]
    simp [List.getD_eq_getElem?_getD, hi]) 9 Tryz.underlying9
  rw [h2]
  have e : strOfNums (T.map fun b => (b.toNat : Int)) = ⟨T.toArray⟩ := by
    have : ∀ l : List UInt8, (l.map fun b => (b.toNat : Int)).map (fun n => UInt8.ofNat n.toNat) = l := fun l => by
      rw [List.map_map]
      conv => rhs; rw [← List.map_id l]
      exact List.map_congr_left fun b _ => by simp
    rw [strOfNums, this]
  rw [e]

set_option maxRecDepth 100000 in
set_option maxHeartbeats 400000 in
theorem text_any (x : Bool × Int) (k : Fo) (a : Value) (w : World) (hS : SIn w k a) (hx : 0 ≤ x.2 ∧ x.2 ≤ (if x.1 then 4 else 100)) (ht : Fo.texts k) (hl : (textT x k).length ≤ 100000) :
    Calls Tryz.prog 74 #[.agg #[.bool x.1, .int .i64 x.2, a]] w fun e w' => e = .returned (str (textT x k)) ∧ Below w.heap.size w w' := by
  obtain ⟨v, n⟩ := x
  have HS := hide hS
  have Ht := hide ht
  have Hx := hide hx
  obtain ⟨ad, c, b, o, rfl, -, -, -, -⟩ := hS
  obtain ⟨T, hT⟩ : ∃ T, T = [] ++ textT (v, n) k := ⟨_, rfl⟩
  have HT := hide hT
  have HT2 : Hid (textT (v, n) k = T) := by rw [hT]; rfl
  clear hT ht hx
  rw [HT2.out]
  go_enter Tryz.func74, Tryz.ntmps74
  go_wp2_with fail
  refine (addText_any (v, n) k (w.alloc (.cells #[.bool v, .int .i64 n, .slice ad (Fo.len k) c] 36)) _ _ _ [] T HT.out (HS.out.alloc _) (Below.refl _ _) ⟨rfl, .inl ⟨rfl, rfl⟩⟩ Hx.out Ht.out (by simpa using hl)).mono ?_
  rintro e w1 ⟨g, cap, rfl, hG⟩
  have hcv := str_of_row hG.1
  have hB := below_box (hG.below (Nat.le_refl _) (fun g hg => by simp [Value.ownBlock] at hg))
  clear hG
  go_wp2_with fail
  go_ret
  exact ⟨rfl, hB⟩

end Go.Proofs.YtfckelbdageenabGreatDoor

namespace Go.Proofs.YtfckelbdageenabGreatDoor
open Go.RowKit Go.Deep Go.ChangeShapes Go.WideShapes

def hasB (l : List Int) (x : Int) : Bool := decide (x ∈ l)

set_option maxRecDepth 100000 in
set_option maxHeartbeats 400000 in
theorem index_any (l : List Int) (x : Int) (v : Value) (w : World) (hN : NIn w l v) :
    Calls Tryz.prog 122 #[v, .int .i64 x] w fun e w' => ∃ i : Int, e = .returned (.int .i64 i) ∧ (decide (0 ≤ i) = hasB l x) ∧ w' = w := by
  obtain ⟨ad, c, b, o, rfl, had, hlc, hcm, hF⟩ := hN
  unfold maxLen at hcm
  have HF := hide hF
  clear hF
  go_enter Tryz.func122, Tryz.ntmps122
  go_wp2_with fail
  go_loop [8] (fun i => ∃ j : Nat, j ≤ l.length ∧ i = .int .i64 j ∧ ∀ q, q < j → l.getD q 0 ≠ x) (fun i => l.length - (intOf i).toNat)
  case atStart => exact ⟨0, Nat.zero_le _, rfl, fun q hq => by omega⟩
  case round =>
    obtain ⟨j, hj, rfl, hno⟩ := hrel
    have Hno := hide hno
    clear hno
    by_cases hlt : j < l.length
    · have hlt' : (j : Int) < (l.length : Int) := by omega
      have hc := HF.out j hlt
      have Hmem : Hid (l.getD j 0 ∈ l) := by
        rw [Hid, List.getD_eq_getElem?_getD, List.getElem?_eq_getElem hlt]; simp
      have ha : ad = some ⟨b, o, none⟩ := had (by omega)
      subst ha
      have Hnx : Hid (l.getD j 0 ≠ x → ∀ q, q < j + 1 → l.getD q 0 ≠ x) := fun h q hq => by
        by_cases e : q = j
        · rw [e]; exact h
        · exact Hno.out q (by omega)
      generalize l.getD j 0 = z at *
      by_cases he : x = z
      · have heb : (x == z) = true := by simp [he]
        have Hf : Hid (decide ((0 : Int) ≤ (j : Int)) = hasB l x) := by
          rw [Hid, hasB, he, decide_eq_true Hmem.out]; simp
        clear he had
        go_wp2_with fail
        go_ret
        exact ⟨_, rfl, Hf.out, rfl⟩
      · have heb : (x == z) = false := by simp [he]
        have Hn := hide (Hnx.out (fun e => he e.symm))
        clear he had
        go_wp2_with fail
        go_round
        case rel => exact ⟨j + 1, by omega, by go_num, Hn.out⟩
        case measure => simp [intOf]; omega
    · have Hf : Hid (decide ((0 : Int) ≤ -1) = hasB l x) := by
        have : x ∉ l := fun h => by
          obtain ⟨q, hq, e⟩ := List.mem_iff_getElem.1 h
          exact Hno.out q (by omega) (by rw [List.getD_eq_getElem?_getD, List.getElem?_eq_getElem hq]; exact e)
        rw [Hid, hasB, decide_eq_false this]; rfl
      clear had
      go_wp2_with fail
      go_ret
      exact ⟨_, rfl, Hf.out, rfl⟩

set_option maxRecDepth 100000 in
set_option maxHeartbeats 400000 in
theorem contains_any (l : List Int) (x : Int) (v : Value) (w : World) (hN : NIn w l v) :
    Calls Tryz.prog 103 #[v, .int .i64 x] w fun e w' => e = .returned (.bool (hasB l x)) ∧ w' = w := by
  have HN := hide hN
  obtain ⟨ad, c, b, o, rfl, -, -, -, -⟩ := hN
  go_enter Tryz.func103, Tryz.ntmps103
  go_wp2_with fail
  refine (index_any l x _ w HN.out).mono ?_
  rintro e w' ⟨i, rfl, hi, hw'⟩
  rw [hw']
  have Hi := hide hi
  clear hw' w' hi
  go_wp2_with fail
  go_ret
  exact ⟨by rw [← Hi.out]; rfl, rfl⟩

/-- Variables, behind others. -/
def varsF : Fo → List Int → List Int
  | .nil, l => l
  | .node _ _ x k r, l => varsF r (if x.1 then (if hasB l x.2 then l else l ++ [x.2]) else varsF k l)
def varsT (x : Bool × Int) (k : Fo) (l : List Int) : List Int := if x.1 then (if hasB l x.2 then l else l ++ [x.2]) else varsF k l
def vsTo (k : Fo) (l : List Int) (j : Nat) : List Int := varsF (Fo.take j k) l

theorem varsF_snoc : ∀ {F : Fo} {j : Nat} {x : Bool × Int} {k : Fo} (l : List Int), F.list[j]? = some (x, k) → varsF (Fo.take (j + 1) F) l = varsT x k (varsF (Fo.take j F) l)
  | .nil, _, _, _, _, h => by simp [Fo.list] at h
  | .node _ _ y m r, 0, x, k, l, h => by
    simp only [Fo.list, List.getElem?_cons_zero, Option.some.injEq, Prod.mk.injEq] at h
    obtain ⟨rfl, rfl⟩ := h
    simp [Fo.take, varsF, varsT]
  | .node _ _ y m r, j + 1, x, k, l, h => by
    have := varsF_snoc (F := r) (j := j) (if y.1 then (if hasB l y.2 then l else l ++ [y.2]) else varsF m l) (by simpa [Fo.list] using h)
    simp only [Fo.take, varsF] at this ⊢
    exact this
theorem vsTo_succ {k : Fo} {l : List Int} {j : Nat} {x : Bool × Int} {y : Fo} (h : k.list[j]? = some (x, y)) : vsTo k l (j + 1) = varsT x y (vsTo k l j) := varsF_snoc l h
theorem vsTo_end (k : Fo) (l : List Int) : vsTo k l (Fo.len k) = varsF k l := by rw [vsTo, take_all]
theorem varsF_len : ∀ (F : Fo) (l : List Int), (varsF F l).length ≤ l.length + Fo.sizesR F
  | .nil, l => by simp [varsF, Fo.sizesR]
  | .node _ _ x k r, l => by
    have h1 := varsF_len k l
    have h2 := varsF_len r (if x.1 then (if hasB l x.2 then l else l ++ [x.2]) else varsF k l)
    simp only [varsF, Fo.sizesR]
    have h3 : (if x.1 then (if hasB l x.2 then l else l ++ [x.2]) else varsF k l).length ≤ l.length + 1 + Fo.sizesR k := by
      split
      · split
        · omega
        · simp
      · omega
    omega

theorem varsF_ge : ∀ (F : Fo) (l : List Int), l.length ≤ (varsF F l).length
  | .nil, l => Nat.le_refl _
  | .node _ _ x k r, l => by
    have h1 := varsF_ge k l
    have h2 := varsF_ge r (if x.1 then (if hasB l x.2 then l else l ++ [x.2]) else varsF k l)
    simp only [varsF]
    refine Nat.le_trans ?_ h2
    split
    · split
      · exact Nat.le_refl _
      · simp
    · exact h1
theorem varsF_take : ∀ (j : Nat) (F : Fo) (l : List Int), (varsF (Fo.take j F) l).length ≤ (varsF F l).length
  | 0, F, l => varsF_ge F l
  | _ + 1, .nil, l => Nat.le_refl _
  | j + 1, .node _ _ x k r, l => by
    simp only [Fo.take, varsF]
    exact varsF_take j r _
theorem varsT_ge (x : Bool × Int) (k : Fo) (l : List Int) : l.length ≤ (varsT x k l).length := by
  unfold varsT
  split
  · split
    · exact Nat.le_refl _
    · simp
  · exact varsF_ge k l
theorem varsT_len (x : Bool × Int) (k : Fo) (l : List Int) : (varsT x k l).length ≤ l.length + tszR k := by
  have := varsF_len k l
  unfold varsT tszR
  split
  · split
    · omega
    · simp
  · omega

def AddVarsSaid (x : Bool × Int) (k : Fo) : Prop := ∀ (W : World) (a : Value) (w : World) (vl : Value) (l T : List Int), T = varsT x k l → SIn W k a → Below W.heap.size W w → w.ownsRow W.heap.size 3 1 vl l.length (vals l) → T.length * 8 ≤ 140737488355328 →
    Calls Tryz.prog 79 #[vl, .agg #[.bool x.1, .int .i64 x.2, a]] w fun e w' => ∃ vl', e = .returned vl' ∧ w'.ownsRow W.heap.size 3 1 vl' T.length (vals T) ∧ Below W.heap.size W w'

set_option maxRecDepth 100000 in
set_option maxHeartbeats 1000000 in
theorem addVars_any (x : Bool × Int) (k : Fo) : AddVarsSaid x k := by
  refine Fo.ind1 (p := AddVarsSaid) ?_ x k
  clear x k
  intro x k ih W a w vl l T hT hS hB ho hlen
  obtain ⟨v, n⟩ := x
  have HI := hide ih
  have HT := hide hT
  have HB := hide hB
  have Ho := hide ho
  obtain ⟨ad, c, b, o, rfl, had, hlc, hcm, hF⟩ := hS
  have HF := hide hF
  unfold maxLen at hcm
  obtain ⟨za, zc, rfl⟩ := slice_of_owns ho
  have hWs := hB.size
  have Hvl : Hid (∀ g, (Value.slice za l.length zc).ownBlock = some g → W.heap.size ≤ g ∧ g < w.heap.size) := owns_at ho
  clear ih hF ho hB hT
  cases v
  · have Htt : Hid (varsT (false, n) k l = varsF k l) := rfl
    go_enter Tryz.func79, Tryz.ntmps79
    go_wp2_with fail
    have H0 : Hid (Below W.heap.size W (w.alloc (.cells #[.bool false, .int .i64 n, .slice ad (Fo.len k) c] 36)) ∧ (w.alloc (.cells #[.bool false, .int .i64 n, .slice ad (Fo.len k) c] 36)).ownsRow W.heap.size 3 1 (.slice za l.length zc) l.length (vals l)) :=
      ⟨HB.out.trans ((below_alloc _ _).mono hWs), owns_keep Ho.out (fun g hg => (below_alloc _ _).block g (Hvl.out g hg).2)⟩
    go_loopw [0, 22] (fun vl' i wr => ∃ (j : Nat) (L : List Int) (z1 : Option Addr) (z3 : Nat), j ≤ Fo.len k ∧ i = .int .i64 j ∧ vl' = .slice z1 L.length z3 ∧ L = vsTo k l j ∧ Below W.heap.size W wr ∧ wr.ownsRow W.heap.size 3 1 (.slice z1 L.length z3) L.length (vals L)) (fun _ i _ => Fo.len k - (intOf i).toNat)
    case atStart => exact ⟨0, l, za, zc, Nat.zero_le _, rfl, rfl, rfl, H0.out.1, H0.out.2⟩
    case round =>
      obtain ⟨j, L, z1, z3, hj, rfl, rfl, hL, hBr, hor⟩ := hrel
      have HL := hide hL
      have Hor := hide hor
      clear hL hor H0
      by_cases hlt : j < Fo.len k
      · have hlt' : (j : Int) < (Fo.len k : Int) := by omega
        obtain ⟨⟨⟨yv, yn⟩, yk⟩, hy⟩ : ∃ y, k.list[j]? = some y := ⟨k.list[j]'(by rw [Fo.len_list]; exact hlt), by simp⟩
        obtain ⟨c0, c1, yv', c2, hSy⟩ := HF.out.at hy
        have HSy := hide hSy
        obtain ⟨ya, yc, yb, yo, rfl, -, -, -, -⟩ := hSy
        have c0' := grow_cell hBr _ _ c0
        have c1' := grow_cell hBr _ _ c1
        have c2' := grow_cell hBr _ _ c2
        have ha : ad = some ⟨b, o, none⟩ := had (by omega)
        subst ha
        have Hy := hide hy
        obtain ⟨Tn, hTn⟩ : ∃ Tn, Tn = varsT (yv, yn) yk L := ⟨_, rfl⟩
        have HTn := hide hTn
        have Hbd : Hid (Tn.length * 8 ≤ 140737488355328) := by
          have h1 := varsF_take (j + 1) k l
          have h2 : Tn = vsTo k l (j + 1) := by rw [hTn, vsTo_succ Hy.out, HL.out]
          have h3 : T = varsF k l := HT.out.trans Htt.out
          rw [Hid, h2, vsTo]
          rw [h3] at hlen
          omega
        have Hbb : Hid (Below W.heap.size W (wr.alloc (.cells #[.bool yv, .int .i64 yn, .slice ya (Fo.len yk) yc] 36))) := hBr.trans ((below_alloc _ _).mono hBr.size)
        have Hoo : Hid ((wr.alloc (.cells #[.bool yv, .int .i64 yn, .slice ya (Fo.len yk) yc] 36)).ownsRow W.heap.size 3 1 (.slice z1 L.length z3) L.length (vals L)) := owns_keep Hor.out (fun g hg => (below_alloc _ _).block g (owns_at Hor.out g hg).2)
        clear hy c0 c1 c2 had hTn
        go_wp2_with fail
        refine (HI.out ((yv, yn), yk) (List.mem_of_getElem? Hy.out) W _ _ _ L Tn HTn.out HSy.out Hbb.out Hoo.out Hbd.out).mono ?_
        rintro e w2 ⟨vl', rfl, ho2, hb2⟩
        obtain ⟨y1, y3, rfl⟩ := slice_of_owns ho2
        have Ho2 := hide ho2
        clear ho2
        go_wp2_with fail
        go_roundw
        case rel => exact ⟨j + 1, Tn, y1, y3, by omega, by go_num, rfl, by rw [HTn.out, vsTo_succ Hy.out, HL.out], hb2, Ho2.out⟩
        case measure => simp [intOf]; omega
      · have Hfin : Hid (T = L) := by
          have e : j = Fo.len k := by omega
          rw [Hid, HT.out, Htt.out, HL.out, e, vsTo_end]
        clear had
        go_wp2_with fail
        go_ret
        have e := Hfin.out
        subst e
        exact ⟨_, rfl, Hor.out, hBr⟩
  · have Htt : Hid (varsT (true, n) k l = if hasB l n then l else l ++ [n]) := rfl
    obtain ⟨i3, hi3, hy0, hy1, hy2⟩ := info_parts Tryz.info3
    have Hbw : Hid (Below W.heap.size W (w.alloc (.cells #[.bool true, .int .i64 n, .slice ad (Fo.len k) c] 36))) := HB.out.trans ((below_alloc _ _).mono hWs)
    have Hob : Hid ((w.alloc (.cells #[.bool true, .int .i64 n, .slice ad (Fo.len k) c] 36)).ownsRow W.heap.size 3 1 (.slice za l.length zc) l.length (vals l)) := owns_keep Ho.out (fun g hg => (below_alloc _ _).block g (Hvl.out g hg).2)
    clear had
    go_enter Tryz.func79, Tryz.ntmps79
    go_wp2_with fail
    refine (contains_any l n _ _ (own_nin Hob.out)).mono ?_
    rintro e w' ⟨rfl, hw'⟩
    rw [hw']
    clear hw' w'
    cases hh : hasB l n
    · rw [hh] at Htt
      have Hfin : Hid (T = l ++ [n]) := HT.out.trans Htt.out
      have Hob2 : Hid (((w.alloc (.cells #[.bool true, .int .i64 n, .slice ad (Fo.len k) c] 36)).alloc (.cells #[.int .i64 n] 3)).ownsRow W.heap.size 3 1 (.slice za l.length zc) l.length (vals l)) := owns_keep Hob.out (fun g hg => (below_alloc _ _).block g (owns_at Hob.out g hg).2)
      have Hnews : Hid (∀ j u, [Value.int .i64 n][j]? = some u → ((w.alloc (.cells #[.bool true, .int .i64 n, .slice ad (Fo.len k) c] 36)).alloc (.cells #[.int .i64 n] 3)).cell? ((⟨w.heap.size + 1, 0, none⟩ : Addr).add j) = some u) := by
        have h := World.news_of_block (cs := #[.int .i64 n]) (heap_alloc_new (w.alloc (.cells #[.bool true, .int .i64 n, .slice ad (Fo.len k) c] 36)) (.cells #[.int .i64 n] 3))
        intro j u hu
        have := h j u hu
        simpa using this
      have hTl : T.length = l.length + 1 := by rw [Hfin.out]; simp
      have hl1 : l.length + 1 ≤ maxLen := by unfold maxLen; omega
      have hl2 : (l.length + 1) * 8 ≤ 140737488355328 := by omega
      clear hTl
      clear hh
      go_wp2_with (at_builtin; refine wpList_append_lies _ rfl (.tmp 14) (.tmp 17) 22 rfl W.heap.size 3 i3 (.int .i64 0) 1 8 Tryz.underlying22 hi3 hy0 hy1 hy2 rfl (by decide) (.slice za l.length zc) l.length (vals l) rfl Hob2.out ⟨w.heap.size + 1, 0, none⟩ 1 1 [.int .i64 n] rfl rfl Hnews.out (by simp [Value.oneCell']) (by decide) hl1 hl2 (by simp; omega) (w.heap.size + 2) (by simp) ?_; intro g cap w2 hown2 hg2 hat2 hlt2)
      go_ret
      have e := Hfin.out
      subst e
      refine ⟨_, rfl, owns_snoc hown2, ?_⟩
      exact (Hbw.out.trans ((below_alloc _ _).mono (by simp; omega))).grown hg2 (by simp; omega) (fun g hg => (Hvl.out g hg).1)
    · rw [hh] at Htt
      have Hfin : Hid (T = l) := HT.out.trans Htt.out
      clear hh
      go_wp2_with fail
      go_ret
      have e := Hfin.out
      subst e
      exact ⟨_, rfl, Hob.out, Hbw.out⟩

theorem NIn.drew {w : World} {l : List Int} {v : Value} (h : NIn w l v) : NIn w.drew l v := h
theorem SIn.drew {w : World} {k : Fo} {v : Value} (h : SIn w k v) : SIn w.drew k v := h.below (Below.refl _ _).drew

set_option maxRecDepth 100000 in
set_option maxHeartbeats 1000000 in
theorem vars_few (x : Bool × Int) (k : Fo) (a : Value) (l : List Int) (v : Value) (w : World) (T : List Int) (hT : T = varsT x k l) (hS : SIn w k a) (hN : NIn w l v) (hlen : T.length * 8 ≤ 140737488355328) :
    Calls Tryz.prog 52 #[v, .agg #[.bool x.1, .int .i64 x.2, a]] w fun e w' => ∃ v', e = .returned v' ∧ w'.ownsRow w.heap.size 3 1 v' T.length (vals T) ∧ Below w.heap.size w w' := by
  obtain ⟨xv, xn⟩ := x
  have HT := hide hT
  have HS := hide hS
  have HN := hide hN
  obtain ⟨ad, c, b, o, rfl, -, -, -, -⟩ := hS
  obtain ⟨la, lc, lb, lo, rfl, -, -, -, -⟩ := hN
  have hl8 : l.length * 8 ≤ 140737488355328 := by have := varsT_ge (xv, xn) k l; rw [← hT] at this; omega
  clear hT
  go_enter Tryz.func52, Tryz.ntmps52
  go_wp2_with fail
  generalize hwa : w.alloc (.cells #[.bool xv, .int .i64 xn, .slice ad (Fo.len k) c] 36) = wa
  have d0 : wa.cell? ⟨w.heap.size, 0, none⟩ = some (.bool xv) := by rw [← hwa]; simp
  have d1 : wa.cell? ⟨w.heap.size, 1, none⟩ = some (.int .i64 xn) := by rw [← hwa]; simp
  have d2 : wa.cell? ⟨w.heap.size, 2, none⟩ = some (.slice ad (Fo.len k) c) := by rw [← hwa]; simp
  have hla : w.heap.size < wa.heap.size := by rw [← hwa]; simp
  have Hba : Hid (Below w.heap.size w wa) := by rw [← hwa]; exact below_alloc _ _
  clear hwa
  go_region_held3 (fun w' => w'.cell? ⟨w.heap.size, 0, none⟩ = some (.bool xv) ∧ w'.cell? ⟨w.heap.size, 1, none⟩ = some (.int .i64 xn) ∧ w'.cell? ⟨w.heap.size, 2, none⟩ = some (.slice ad (Fo.len k) c))
    (first
      | go_keep
      | (go_split_ands
         refine ⟨?_, ?_, ?_⟩
         · (rw [hb2.cell (by show w.heap.size < _; simp; omega)]; assumption)
         · (rw [hb2.cell (by show w.heap.size < _; simp; omega)]; assumption)
         · (rw [hb2.cell (by show w.heap.size < _; simp; omega)]; assumption))
      | (go_split_ands
         refine ⟨?_, ?_, ?_⟩
         · (rw [hb1.cell (by show w.heap.size < _; simp; omega)]; assumption)
         · (rw [hb1.cell (by show w.heap.size < _; simp; omega)]; assumption)
         · (rw [hb1.cell (by show w.heap.size < _; simp; omega)]; assumption)))
    (first
      | (go_at_call 80; refine (clone_any l _ _ ?_ hl8).mono ?_; (exact (HN.out.below Hba.out).drew); rintro e w1 ⟨v', rfl, ho1, hb1⟩)
      | (go_at_call 79; refine (addVars_any (xv, xn) k wa.drew _ _ _ l T HT.out ?_ ?_ ho1 hlen).mono ?_; (exact (HS.out.below Hba.out).drew); (exact hb1); rintro e w2 ⟨v2, rfl, ho2, hb2⟩))
  have Hfin : Hid (w2.ownsRow w.heap.size 3 1 v2 T.length (vals T) ∧ Below w.heap.size w w2) := ⟨owns_mono ho2 Hba.out.size, Hba.out.trans (((Below.refl _ _).drew).trans (hb2.mono (Nat.le_of_lt hla)))⟩
  clear ho1 ho2 hb1 hb2
  go_wp2_with fail
  go_ret
  exact ⟨v2, rfl, Hfin.out.1, Hfin.out.2⟩

end Go.Proofs.YtfckelbdageenabGreatDoor

namespace Go.Proofs.YtfckelbdageenabGreatDoor
open Go.RowKit Go.Deep Go.ChangeShapes Go.WideShapes

def tF : Fo := .node 0 0 (false, 0) .nil (.node 0 0 (false, 1) (.node 0 0 (true, 0) .nil .nil) .nil)
def uF : Fo := .node 0 0 (false, 0) .nil .nil
theorem al_nosig : wsig [] = 5 := by decide +kernel
/-- What alive has made is there. -/
def Kp (w : World) (sv : Value) (tb ub ab : Nat) (ta ua : Value) : Prop :=
  NIn w [0, 1, 2] sv ∧ TIn w tb 0 (false, 2) tF ∧ w.cell? ⟨tb, 2, none⟩ = some ta ∧ SIn w tF ta ∧ TIn w ub 0 (false, 1) uF ∧ w.cell? ⟨ub, 2, none⟩ = some ua ∧ SIn w uF ua ∧ w.cell? ⟨ab, 0, none⟩ = some (.bool true)

theorem Kp.below {w w' : World} {sv : Value} {tb ub ab : Nat} {ta ua : Value} (h : Kp w sv tb ub ab ta ua) (hb : Below w.heap.size w w') : Kp w' sv tb ub ab ta ua := by
  obtain ⟨h1, h2, h3, h4, h5, h6, h7, h8⟩ := h
  exact ⟨h1.below hb, h2.below hb, grow_cell hb _ _ h3, h4.below hb, h5.below hb, grow_cell hb _ _ h6, h7.below hb, grow_cell hb _ _ h8⟩

theorem slice_of_sin {w : World} {k : Fo} {v : Value} (h : SIn w k v) : ∃ z1 z2 z3, v = .slice z1 z2 z3 := by
  obtain ⟨_, _, _, _, rfl, _⟩ := h
  exact ⟨_, _, _, rfl⟩

theorem c6 {w : World} : Calls Tryz.prog 32 #[.slice none 0 0] w fun e w' => e = .returned (.int .i64 5) ∧ w' = w := by
  have h := wsig_any [] (.slice none 0 0) w ⟨none, 0, 0, 0, rfl, fun h => by simp at h, Nat.le_refl _, Nat.zero_le _, fun i hi => by simp at hi⟩
  rw [al_nosig] at h
  exact h

end Go.Proofs.YtfckelbdageenabGreatDoor

namespace Go.Proofs.YtfckelbdageenabGreatDoor
open Go.RowKit Go.Deep Go.ChangeShapes Go.WideShapes

theorem alone_len {s : List Int} (hs : s.all okNum = true) {x : Bool × Int} {k : Fo} (h : aloneF s x (Fo.len k) = 0) : Fo.len k ≤ 2 := by
  obtain ⟨v, n⟩ := x
  cases v
  · obtain ⟨h0, h1, h2⟩ := alone_sym h
    have := sig_at hs (i := n.toNat) (by omega)
    omega
  · obtain ⟨rfl, _, _⟩ := alone_var h
    simp [Fo.len]

/-- So deep, and no wider than two, terms are no greater than that. -/
theorem size_bound {s : List Int} (hs : s.all okNum = true) : ∀ {F : Fo} {n : Nat}, n ≤ 13 → walkF s F (13 - (n : Int)) = 0 → Fo.sizesR F ≤ Fo.len F * (2 ^ n - 1)
  | .nil, _, _, _ => by simp [Fo.sizesR]
  | .node _ _ x k r, n, hn, h => by
    obtain ⟨hT, hr⟩ := walkF_ok h
    obtain ⟨hd, ha, hk⟩ := walkT_ok hT
    have h2 := alone_len hs ha
    obtain ⟨m, rfl⟩ : ∃ m, n = m + 1 := ⟨n - 1, by omega⟩
    have e : (13 : Int) - ((m + 1 : Nat) : Int) + 1 = 13 - (m : Int) := by omega
    rw [e] at hk
    have i1 := size_bound hs (n := m) (by omega) hk
    have i2 := size_bound hs (n := m + 1) hn hr
    have p1 : 2 ^ (m + 1) = 2 * 2 ^ m := by rw [Nat.pow_succ]; omega
    have p0 : 0 < 2 ^ m := Nat.pow_pos (by decide)
    have i3 : Fo.len k * (2 ^ m - 1) ≤ 2 * (2 ^ m - 1) := Nat.mul_le_mul_right _ h2
    simp only [Fo.sizesR, Fo.len, Nat.add_mul, Nat.one_mul]
    omega

theorem narrow_ok {s : List Int} (hs : s.all okNum = true) : ∀ {F : Fo} {d : Int}, walkF s F d = 0 → Fo.narrow F
  | .nil, _, _ => trivial
  | .node _ _ x k r, d, h => by
    obtain ⟨hT, hr⟩ := walkF_ok h
    obtain ⟨_, ha, hk⟩ := walkT_ok hT
    have := alone_len hs ha
    exact ⟨by omega, narrow_ok hs hk, narrow_ok hs hr⟩

/-- What is known of a right term. -/
theorem right_of {s : List Int} (hs : s.all okNum = true) {x : Bool × Int} {k : Fo} (h : wrongF s x k = 0) : tszR k ≤ 12 ∧ tsz x k = tszR k ∧ Fo.len k ≤ 2 ∧ Fo.narrow k ∧ walkT s x k 1 = 0 := by
  unfold wrongF at h
  by_cases hw : walkT s x k 1 = 0
  · rw [if_neg (by simpa using hw)] at h
    obtain ⟨_, ha, hk⟩ := walkT_ok hw
    have h2 := alone_len hs ha
    have hb := size_bound hs (F := k) (n := 11) (by omega) (by simpa using hk)
    have hz : tszR k ≤ 4095 := by
      have : Fo.len k * (2 ^ 11 - 1) ≤ 2 * (2 ^ 11 - 1) := Nat.mul_le_mul_right _ h2
      unfold tszR
      omega
    rw [wrap64_small (by omega) (by omega)] at h
    by_cases h12 : 12 < ((tszR k : Nat) : Int)
    · rw [if_pos h12] at h; omega
    · exact ⟨by omega, tsz_same hw, h2, narrow_ok hs hk, hw⟩
  · rw [if_pos hw] at h; exact absurd h hw

theorem sameF_refl : ∀ F : Fo, sameF F F = true
  | .nil => rfl
  | .node _ _ x k r => by simp [sameF, sameF_refl k, sameF_refl r]
theorem sameT_refl (x : Bool × Int) (k : Fo) : sameT x k x k = true := by simp [sameT, sameF_refl]

end Go.Proofs.YtfckelbdageenabGreatDoor

namespace Go.Proofs.YtfckelbdageenabGreatDoor
open Go.ChangeShapes Go.WideShapes Go.ChangeAt Go.WideMaps Go.WideElems Go.RowKit Go.Deep Go.Joins

section
variable {H : Type} {enc : TypeId × Value → H} {W : World} {sp : Nat → Bool} {held : Bool}

set_option maxRecDepth 100000 in
/-- The struct's three cells, each with its reading. -/
theorem open_term {fuel : Nat} {cs : List Value} {x : DataW H × List MemPlace} (h : DataW.trod enc Tryz.prog W 0 sp held fuel 36 cs = some x) :
    ∃ (v : Bool) (n : Int) (a : Value) (m : Nat) (y : DataW H × List MemPlace), m < fuel ∧ cs = [.bool v, .int .i64 n, a] ∧ DataW.trod enc Tryz.prog W 0 sp held m 34 [a] = some y := by
  obtain ⟨xs, m, rfl, _, hl, hlen, hf⟩ := DataW.trod_struct Tryz.underlying36 h
  rw [Tryz.cells36] at hl
  match xs, hlen, cs, hl with
  | [y0, y1, y2], _, [c0, c1, c2], _ =>
    have g0 := hf 0 _ rfl
    have g1 := hf 1 _ rfl
    have g2 := hf 2 _ rfl
    simp [Tryz.cells4, Tryz.cells3, Tryz.cells34] at g0 g1 g2
    obtain ⟨v, e0, _⟩ := DataW.trod_bool Tryz.underlying4 g0
    obtain ⟨n, e1, _, _⟩ := DataW.trod_int Tryz.underlying3 g1
    simp only [List.cons.injEq, and_true] at e0 e1
    exact ⟨v, n, c2, m, y2, by omega, by rw [e0, e1], g2⟩

set_option maxRecDepth 100000 in
theorem build_forest {b : Nat} : ∀ (n o : Nat), (∀ i, i < n → ∃ (x : Bool × Int) (k : Fo) (a : Value), W.cell? ⟨b, o + 3 * i, none⟩ = some (.bool x.1) ∧ W.cell? ⟨b, o + 3 * i + 1, none⟩ = some (.int .i64 x.2) ∧ W.cell? ⟨b, o + 3 * i + 2, none⟩ = some a ∧ SIn W k a) → ∃ F : Fo, Fo.len F = n ∧ FIn W F b o
  | 0, _, _ => ⟨.nil, rfl, trivial⟩
  | n + 1, o, h => by
    obtain ⟨F, hl, hF⟩ := build_forest n (o + 3) (fun i hi => by
      have := h (i + 1) (by omega)
      rw [show o + 3 * (i + 1) = o + 3 + 3 * i by omega] at this
      exact this)
    obtain ⟨x, k, a, h0, h1, h2, h3⟩ := h 0 (by omega)
    exact ⟨.node 0 0 x k F, by simp [Fo.len, hl], FIn.mk (by simpa using h0) (by simpa using h1) (by simpa using h2) h3 hF⟩

set_option maxRecDepth 100000 in
/-- A slice of terms that reads as data is a forest. -/
theorem open_terms : ∀ (fuel : Nat) (v : Value) (x : DataW H × List MemPlace), DataW.trod enc Tryz.prog W 0 sp held fuel 34 [v] = some x → ∃ k : Fo, SIn W k v := by
  intro fuel
  induction fuel using Nat.strongRecOn with
  | _ fuel ih =>
    intro v x h
    rcases DataW.trod_slice Tryz.underlying34 h with ⟨hc, _⟩ | ⟨a, len, cap, elems, rest, n, hfuel, hc, _, _, hlc, hcm, hlen, hel, _, _⟩
    · simp only [List.cons.injEq, and_true] at hc
      subst hc
      exact ⟨.nil, SIn.nil W⟩
    · simp only [List.cons.injEq, and_true] at hc
      subst hc
      rw [Tryz.cells36] at hel
      obtain ⟨b, o, spot⟩ := a
      have hone : ∀ i, i < len → ∃ (x : Bool × Int) (k : Fo) (v : Value), W.cell? ((⟨b, o, spot⟩ : Addr).add (i * 3)) = some (.bool x.1) ∧ W.cell? (((⟨b, o, spot⟩ : Addr).add (i * 3)).add 1) = some (.int .i64 x.2) ∧ W.cell? (((⟨b, o, spot⟩ : Addr).add (i * 3)).add 2) = some v ∧ SIn W k v := fun i hi => by
        have h1 := hel i hi
        have hi' : i < elems.length := by omega
        rw [List.getElem?_eq_getElem hi'] at h1
        obtain ⟨cs, h2, h3⟩ := Option.bind_eq_some_iff.1 h1
        obtain ⟨_, hl3, hcell⟩ := World.cells?_some h2
        obtain ⟨tv, tn, ta, m, y, hm, rfl, hy⟩ := open_term h3
        obtain ⟨k, hk⟩ := ih m (by omega) ta y hy
        exact ⟨(tv, tn), k, ta, by simpa [Addr.add] using hcell 0 (by omega), by simpa using hcell 1 (by omega), by simpa using hcell 2 (by omega), hk⟩
      by_cases h0 : len = 0
      · subst h0
        exact ⟨.nil, _, cap, 0, 0, rfl, fun h => by simp [Fo.len] at h, Nat.zero_le _, hcm, trivial⟩
      · have hspot : spot = none := by
          obtain ⟨x, k, v, q0, _⟩ := hone 0 (by omega)
          simpa [Addr.add] using World.cell?_spot q0
        subst hspot
        obtain ⟨F, hF1, hF2⟩ := build_forest (W := W) (b := b) len o (fun i hi => by
          obtain ⟨x, k, v, q0, q1, q2, q3⟩ := hone i hi
          refine ⟨x, k, v, ?_, ?_, ?_, q3⟩
          · rw [add_plain] at q0; rw [Nat.mul_comm 3 i]; exact q0
          · rw [add_plain, add_plain] at q1; rw [Nat.mul_comm 3 i]; exact q1
          · rw [add_plain, add_plain] at q2; rw [Nat.mul_comm 3 i]; exact q2)
        exact ⟨F, _, cap, b, o, by rw [hF1], fun _ => rfl, by omega, hcm, hF2⟩

set_option maxRecDepth 100000 in
/-- Numbers that came in. -/
theorem open_nums {T : TypeId} {r : Reach} {b0 : Nat} {v : Value} {d : DataW H} {p : List MemPlace} (hT : Tryz.prog.underlying T = some (.slice 3)) (hv : Value.okWide Tryz.prog W r b0 T v) (h : DataW.Trod enc Tryz.prog W 0 (fun _ => true) held T v d p) :
    ∃ l : List Int, NIn W l v := by
  obtain ⟨a0, len, cap, rfl⟩ := okWide_slice hT hv
  obtain ⟨fuel, hf⟩ := h
  rcases open_ints hT Tryz.underlying3 Tryz.cells3 hf with ⟨hcs, _⟩ | ⟨x, l, c, zs, hcs, _, hl, hm, hz, _, hcell, hwz⟩
  · simp [Value.cells] at hcs
    obtain ⟨rfl, rfl, rfl⟩ := hcs
    exact ⟨[], none, 0, 0, 0, rfl, fun h => by simp at h, Nat.le_refl _, Nat.zero_le _, fun i hi => by simp at hi⟩
  · simp [Value.cells] at hcs
    obtain ⟨rfl, rfl, rfl⟩ := hcs
    have hz' : zs.length = cap := by simpa using hz
    have htl : (zs.take len).length = len := by rw [List.length_take]; omega
    obtain ⟨b, o, spot⟩ := x
    refine ⟨zs.take len, _, cap, b, o, by rw [htl], fun h => ?_, by rw [htl]; exact hl, hm, fun i hi => ?_⟩
    · have := hcell 0 (by omega)
      have hspot : spot = none := by simpa [Addr.add] using World.cell?_spot this
      rw [hspot]
    · rw [htl] at hi
      have hc := hcell i (by omega)
      have hspot : spot = none := by
        have := hcell 0 (by omega)
        simpa [Addr.add] using World.cell?_spot this
      subst hspot
      rw [add_plain] at hc
      rw [hc]
      simp [List.getD_eq_getElem?_getD, hi]

end
end Go.Proofs.YtfckelbdageenabGreatDoor
