/- What Read and readArgs answer. -/
import Derived.Test.YtfnkjadfepoicacG04
import Derived.Lib.AppendStr
namespace Go.Proofs.Ytfnkjadfepoicac
open Go.RowKit Go.Deep Go.ChangeShapes Go.WideShapes
attribute [local go_sem] byte_zero text_tail

/-- So far: j arguments are read. -/
def ArgsRel (w : World) (acc : Fo) (v : Value) (wr : World) : Prop :=
  ∃ xs, wr.ownsRow w.heap.size 35 3 v (Fo.len acc) xs ∧ CellsOf (fun q => New w wr q ∧ some q ≠ v.ownBlock) wr acc xs ∧ Below w.heap.size w wr

theorem args_step {w wr w1 w2 w3 : World} {acc : Fo} {v v' : Value} {x : Bool × Int} {k : Fo} {a : Value} {g cap : Nat} {xs : List Value} {ob ob2 : Obj} (h1 : wr.ownsRow w.heap.size 35 3 v (Fo.len acc) xs) (h2 : CellsOf (fun q => New w wr q ∧ some q ≠ v.ownBlock) wr acc xs) (h3 : Below w.heap.size w wr)
    (hb : Below wr.heap.size wr w1) (hk : SB (New wr w1) w1 k a) (hw2 : w2 = (w1.alloc ob).alloc ob2) (hv' : v' = .slice (some ⟨g, 0, none⟩) (Fo.len acc + 1) cap)
    (ho : w3.ownsRow w.heap.size 35 3 v' (Fo.len acc + 1) (xs ++ [.bool x.1, .int .i64 x.2, a])) (hg : w2.grownBy w3 v.ownBlock) (hat : v.ownBlock = some g ∨ g = w2.heap.size) (hlt : g < w3.heap.size) : ArgsRel w (Fo.snoc acc x k) v' w3 := by
  subst hw2
  have hs1 := hb.size
  have hs3 := hg.size
  simp at hs3
  have hs0 := h3.size
  have far : ∀ q i, q < w1.heap.size → some q ≠ v.ownBlock → w3.cell? ⟨q, i, none⟩ = w1.cell? ⟨q, i, none⟩ := fun q i hq hn => by
    rw [hg.cell_far ⟨q, i, none⟩ (by simp; omega) hn, World.cell?_alloc_lt _ _ _ (by simp; omega), World.cell?_alloc_lt _ _ _ hq]
  have hv'g : v'.ownBlock = some g := by rw [hv']; rfl
  refine ⟨_, by rw [snoc_len]; exact ho, ?_, ?_⟩
  · refine CellsOf.snoc ?_ ?_
    · refine hk.frame (fun q hq => ⟨⟨by have := hq.1; omega, by have := hq.2; omega⟩, ?_⟩) (fun q i hq => far q i hq.2 (fun e => ?_))
      · rw [hv'g]
        intro e
        simp at e
        subst e
        rcases hat with e | e
        · have := (owns_at h1 _ e).2; have := hq.1; omega
        · simp at e; have := hq.2; omega
      · have := (owns_at h1 _ e.symm).2; have := hq.1; omega
    · refine CellsOf.frame (fun q hq => ⟨⟨hq.1.1, by have := hq.1.2; omega⟩, ?_⟩) (fun q i hq => ?_) h2
      · rw [far q i (by have := hq.1.2; omega) hq.2]
        exact hb.cell (p := ⟨q, i, none⟩) hq.1.2
      · rw [hv'g]
        intro e
        simp at e
        subst e
        rcases hat with e | e
        · exact hq.2 e.symm
        · simp at e; have := hq.1.2; omega
  · have hb2 : Below w.heap.size w ((w1.alloc ob).alloc ob2) := ((below_step h3 hb).alloc (by omega) _).alloc (by simp; omega) _
    exact hb2.grown hg (by simp; omega) (fun k hk => (owns_at h1 k hk).1)

theorem sig_at {s : List Int} (h : s.all okNum = true) {i : Nat} (hi : i < s.length) : 0 ≤ s.getD i 0 ∧ s.getD i 0 ≤ 2 := by
  have := List.all_eq_true.1 h s[i] (List.getElem_mem hi)
  simp only [okNum, decide_eq_true_eq] at this
  simpa [List.getD_eq_getElem?_getD, hi] using this

theorem run_tail (c : UInt8) (r : List UInt8) (w : World) : (Instr.slice 9 (.string ⟨(c :: r).toArray⟩) (some (.int .i64 1)) none none).run Try.prog w = .ok (.string ⟨r.toArray⟩) w := by
  rw [run_slice_string_l (ht := Try.underlying9) (kl := .i64) (l := 1) (h0 := by decide) (h1 := by simp [ByteArray.size]; omega)]
  have := text_tail c r
  simp only [Int.toNat_one]
  rw [show (⟨(c :: r).toArray⟩ : ByteArray).size = r.length + 1 from by simp [ByteArray.size], this]

/-- A block of three cells that was laid first: it is there, and may be written. -/
theorem box_full {w w1 : World} {x y z : Value} {T : TypeId} (h : Below (w.alloc (.cells #[x, y, z] T)).heap.size (w.alloc (.cells #[x, y, z] T)) w1) :
    w1.cell? ⟨w.heap.size, 0, none⟩ = some x ∧ w1.cell? ⟨w.heap.size, 1, none⟩ = some y ∧ w1.cell? ⟨w.heap.size, 2, none⟩ = some z ∧ (∀ i, w1.frozen? ⟨w.heap.size, i, none⟩ = false) ∧ Below w.heap.size w w1 ∧ w.heap.size < w1.heap.size := by
  have h' : Below (w.heap.size + 1) (w.alloc (.cells #[x, y, z] T)) w1 := by simpa using h
  obtain ⟨a, b, c, d, e⟩ := box_cells h'
  exact ⟨a, b, c, fun i => by rw [h'.frozen (by simp)]; simp, d, e⟩

/-- What is written into a block that is none of X's leaves terms as they are. -/
theorem SB.set3 {X : Nat → Prop} {w : World} {k : Fo} {v : Value} {b o : Nat} {x y z : Value} (h : SB X w k v) (hb : ¬ X b) : SB X (set3 w b o x y z) k v :=
  h.frame (fun _ h => h) (fun _ _ hq => set3_other (.inl (fun e => hb (e ▸ hq))))

end Go.Proofs.Ytfnkjadfepoicac

/- What Parse answers. -/
namespace Go.Proofs.Ytfnkjadfepoicac
open Go.RowKit Go.Deep Go.ChangeShapes Go.WideShapes

abbrev zeroT : (Bool × Int) × Fo := ((false, 0), .nil)

/-- A text's term, and its error. -/
def parseT (s : List Int) (l : List UInt8) : Int × ((Bool × Int) × Fo) :=
  if wsig s ≠ 0 then (wsig s, zeroT) else if 48 < l.length then (4, zeroT) else
  if (readT s (l.length + 1) l).1 ≠ 0 then ((readT s (l.length + 1) l).1, zeroT) else
  if (readT s (l.length + 1) l).2.2 ≠ [] then (2, zeroT) else
  if wrongF s (readT s (l.length + 1) l).2.1.1 (readT s (l.length + 1) l).2.1.2 ≠ 0 then (wrongF s (readT s (l.length + 1) l).2.1.1 (readT s (l.length + 1) l).2.1.2, zeroT) else
  (0, (readT s (l.length + 1) l).2.1)

theorem wsig_ok {s : List Int} (h : wsig s = 0) : s.all okNum = true ∧ s.length ≤ 6 ∧ 0 < s.length := by
  unfold wsig at h
  by_cases h1 : s.length = 0 ∨ 6 < s.length
  · rw [if_pos h1] at h; omega
  · rw [if_neg h1] at h
    by_cases h2 : s.all okNum = true
    · exact ⟨h2, by omega, by omega⟩
    · rw [if_neg h2] at h; omega

theorem SIn.nil (w : World) : SIn w .nil (.slice none 0 0) := (SB.nil (fun _ => True) w).toS

end Go.Proofs.Ytfnkjadfepoicac

/- A term's text: what is appended to it. -/
namespace Go.Proofs.Ytfnkjadfepoicac
open Go.RowKit Go.Deep Go.ChangeShapes Go.WideShapes

theorem Try.info5 : (Try.prog.info? 5).map (fun i => (i.zero, i.size, i.bytes)) = some (some (.int .u8 0), 1, 1) := by kernel_rfl

abbrev bytesV (bs : List UInt8) : List Value := bs.map fun b => Value.int .u8 (b.toNat : Int)

/-- A string appended: in the old row, or in a new block. -/
theorem run_append_str {P : Program} (w : World) (base : Nat) (t u ty e : TypeId) (i : TypeInfo) (ht : P.underlying t = some (.slice e)) (hu : P.underlying u = some .string) (hi : P.info? e = some i) (hz : i.zero = some (.int .u8 0))
    (hsize : i.size = 1) (hby : i.bytes = 1) (v : Value) (n : Nat) (xs : List Value) (hown : w.ownsRow base e 1 v n xs) (s : ByteArray) (h0 : 0 < s.size)
    (h63 : n + s.size ≤ maxLen) (hbytes : n + s.size ≤ 140737488355328) (hbase : base ≤ w.heap.size) :
    ∃ g cap w', (Builtin.append_ #[t, u] ty #[v, .string s]).run P w = .ok (.slice (some ⟨g, 0, none⟩) (n + s.size) cap) w' ∧ w'.ownsRow base e 1 (.slice (some ⟨g, 0, none⟩) (n + s.size) cap) (n + s.size) (xs ++ Lib.strCells s) ∧ w.grownBy w' v.ownBlock ∧ (v.ownBlock = some g ∨ g = w.heap.size) := by
  obtain ⟨v', w', hr, h2, h3, _⟩ := Lib.run_append_own_string (P := P) w base t u ty e i ht hu hi hz hsize hby v n xs hown s h63 hbytes hbase
  obtain ⟨g, cap, rfl, _, _⟩ := h2.form (by omega)
  refine ⟨g, cap, w', hr, h2, h3, ?_⟩
  have hsmall : n + s.size ≤ 9223372036854775807 := by simp only [maxLen] at h63; omega
  rcases hown.2 with ⟨rfl, rfl⟩ | ⟨g0, cap0, cur, rfl, hbg, hg, hnc, hcm, hcs, htake⟩
  · have hr2 := run_append_nil_string (P := P) w t u ty e i (.int .u8 0) ht hu hi hz s h0 (by omega) (by rw [hby]; omega)
    rw [hr] at hr2
    simp only [Result.ok.injEq, Value.slice.injEq, Option.some.injEq, Addr.mk.injEq] at hr2
    exact .inr hr2.1.1.1
  · by_cases hroom : n + s.size ≤ cap0
    · have hr2 := Lib.run_append_room_string (P := P) w t u ty e i ht hu hi hsize g0 n cap0 cur hg s hroom (by omega)
      rw [hr] at hr2
      simp only [Result.ok.injEq, Value.slice.injEq, Option.some.injEq, Addr.mk.injEq] at hr2
      exact .inl (by rw [hr2.1.1.1]; rfl)
    · have holds : ∀ j u, xs[j]? = some u → w.cell? ((⟨g0, 0, none⟩ : Addr).add j) = some u := hown.cells (g := g0) rfl
      have hr2 := Lib.run_append_grow_string (P := P) w t u ty e i (.int .u8 0) ht hu hi hz ⟨g0, 0, none⟩ n cap0 xs (by rw [hsize]; exact hown.1) holds s (by omega) (by omega) (by rw [hby]; exact growslice_fits (by omega) (by omega))
      rw [hr] at hr2
      simp only [Result.ok.injEq, Value.slice.injEq, Option.some.injEq, Addr.mk.injEq] at hr2
      exact .inr hr2.1.1.1
theorem wpList_append_str {P : Program} (w : World) {ops : Array Oper} {rest : List Oper} {o : Oper} {a : Act} {Q : Exit → Act → World → Prop} (hgd : o.guard = none) (sl x : Operand) (t u : TypeId)
    (ho : o.op = .call { callee := .builtin .append, args := #[sl, x], argTypes := #[t, u] })
    (base : Nat) (e : TypeId) (i : TypeInfo) (ht : P.underlying t = some (.slice e)) (hu : P.underlying u = some .string) (hi : P.info? e = some i) (hz : i.zero = some (.int .u8 0))
    (hsize : i.size = 1) (hby : i.bytes = 1) (v : Value) (n : Nat) (xs : List Value) (hs : a.eval sl = v) (hown : w.ownsRow base e 1 v n xs) (s : ByteArray) (hx : a.eval x = .string s) (h0 : 0 < s.size)
    (h63 : n + s.size ≤ maxLen) (hbytes : n + s.size ≤ 140737488355328) (hbase : base ≤ w.heap.size)
    (h : ∀ g cap w', w'.ownsRow base e 1 (.slice (some ⟨g, 0, none⟩) (n + s.size) cap) (n + s.size) (xs ++ Lib.strCells s) → w.grownBy w' v.ownBlock → (v.ownBlock = some g ∨ g = w.heap.size) → wpList P ops Q rest (a.put o.dst (.slice (some ⟨g, 0, none⟩) (n + s.size) cap)) w') : wpList P ops Q (o :: rest) a w := by
  refine wpList_plain hgd fun K hK => ?_
  obtain ⟨g, cap, w', hr, h2, h3, h4⟩ := run_append_str (P := P) w base t u o.type e i ht hu hi hz hsize hby v n xs hown s h0 h63 hbytes hbase
  unfold Oper.wp execOp
  simp only [ho, resolve, invoke, builtin, Sem.run_bind, Sem.run_pure, Result.andThen_ok, List.map_toArray, List.map_cons, List.map_nil, hs, hx, hr]
  exact hK _ _ (h g cap w' h2 h3 h4)

def dig (n : Int) : UInt8 := UInt8.ofNat (48 + n.toNat)

/-- A byte slice of the call's own that has grown by one. -/
def Grew (base : Nat) (w w' : World) (vo : Value) (n : Nat) (g cap : Nat) (cells : List Value) : Prop :=
  w'.ownsRow base 5 1 (.slice (some ⟨g, 0, none⟩) n cap) n cells ∧ Fr w w' vo.ownBlock none ∧ (vo.ownBlock = some g ∨ w.heap.size ≤ g)

end Go.Proofs.Ytfnkjadfepoicac

/- A term's text: addText, Text. -/
namespace Go.Proofs.Ytfnkjadfepoicac
open Go.RowKit Go.Deep Go.ChangeShapes Go.WideShapes

def sym (n : Int) : UInt8 := UInt8.ofNat (97 + n.toNat)
/-- Terms' texts, each behind its sign. -/
def textF : Fo → Int → List UInt8
  | .nil, _ => []
  | .node _ _ x k r, i => (signF i :: (if x.1 then [88, dig x.2] else sym x.2 :: (if Fo.len k = 0 then [] else textF k 0 ++ [41]))) ++ textF r (i + 1)
def textT (x : Bool × Int) (k : Fo) : List UInt8 := if x.1 then [88, dig x.2] else sym x.2 :: (if Fo.len k = 0 then [] else textF k 0 ++ [41])
def txTo (k : Fo) (j : Nat) : List UInt8 := textF (Fo.take j k) 0

theorem textF_snoc : ∀ {F : Fo} {j : Nat} {x : Bool × Int} {k : Fo} (i : Int), F.list[j]? = some (x, k) → textF (Fo.take (j + 1) F) i = textF (Fo.take j F) i ++ signF (i + j) :: textT x k
  | .nil, _, _, _, _, h => by simp [Fo.list] at h
  | .node _ _ y l r, 0, x, k, i, h => by
    simp only [Fo.list, List.getElem?_cons_zero, Option.some.injEq, Prod.mk.injEq] at h
    obtain ⟨rfl, rfl⟩ := h
    simp [Fo.take, textF, textT]
  | .node _ _ y l r, j + 1, x, k, i, h => by
    have := textF_snoc (F := r) (j := j) (i + 1) (by simpa [Fo.list] using h)
    simp only [Fo.take, textF] at this ⊢
    have e : i + 1 + (j : Int) = i + ((j + 1 : Nat) : Int) := by omega
    rw [this, e, List.append_assoc]
theorem txTo_succ {k : Fo} {j : Nat} {x : Bool × Int} {l : Fo} (h : k.list[j]? = some (x, l)) : txTo k (j + 1) = txTo k j ++ signF j :: textT x l := by
  rw [txTo, textF_snoc 0 h]; simp [txTo]
theorem txTo_end (k : Fo) : txTo k (Fo.len k) = textF k 0 := by rw [txTo, take_all]
theorem textF_take_le : ∀ (F : Fo) (j : Nat) (i : Int), (textF (Fo.take j F) i).length ≤ (textF F i).length
  | _, 0, _ => by simp [Fo.take, textF]
  | .nil, _ + 1, _ => by simp [Fo.take]
  | .node _ _ x k r, j + 1, i => by
    have := textF_take_le r j (i + 1)
    simp only [Fo.take, textF, List.length_append]
    omega
theorem txTo_le (k : Fo) (j : Nat) : (txTo k j).length ≤ (textF k 0).length := textF_take_le k j 0

/-- Each number has a sign that is written. -/
def Fo.texts : Fo → Prop
  | .nil => True
  | .node _ _ x k r => (0 ≤ x.2 ∧ x.2 ≤ (if x.1 then 4 else 100)) ∧ Fo.texts k ∧ Fo.texts r
theorem texts_at : ∀ {F : Fo} {j : Nat} {x : Bool × Int} {k : Fo}, Fo.texts F → F.list[j]? = some (x, k) → (0 ≤ x.2 ∧ x.2 ≤ (if x.1 then 4 else 100)) ∧ Fo.texts k
  | .nil, _, _, _, _, h => by simp [Fo.list] at h
  | .node _ _ y l r, 0, x, k, hn, h => by
    simp only [Fo.list, List.getElem?_cons_zero, Option.some.injEq, Prod.mk.injEq] at h
    obtain ⟨rfl, rfl⟩ := h
    exact ⟨hn.1, hn.2.1⟩
  | .node _ _ y l r, j + 1, x, k, hn, h => texts_at (F := r) hn.2.2 (by simpa [Fo.list] using h)

theorem Grew.trans {base : Nat} {w w1 w2 : World} {vo : Value} {n1 g1 c1 n2 g2 c2 : Nat} {xs ys : List Value} (h1 : Grew base w w1 vo n1 g1 c1 xs) (h2 : Grew base w1 w2 (.slice (some ⟨g1, 0, none⟩) n1 c1) n2 g2 c2 ys) : Grew base w w2 vo n2 g2 c2 ys := by
  obtain ⟨a1, a2, a3⟩ := h1
  obtain ⟨b1, b2, b3⟩ := h2
  refine ⟨b1, a2.trans b2 (fun q hq h => ?_), ?_⟩
  · rcases h with h | h
    · simp only [Value.ownBlock, Option.some.injEq] at h
      subst h
      rcases a3 with a3 | a3
      · exact .inl a3.symm
      · omega
    · cases h
  · rcases b3 with b3 | b3
    · simp only [Value.ownBlock, Option.some.injEq] at b3
      subst b3
      exact a3
    · exact .inr (Nat.le_trans a2.size b3)
theorem Grew.pre {base : Nat} {w w1 w2 : World} {vo : Value} {n g c : Nat} {xs : List Value} (hb : Below w.heap.size w w1) (h : Grew base w1 w2 vo n g c xs) : Grew base w w2 vo n g c xs := by
  obtain ⟨b1, b2, b3⟩ := h
  refine ⟨b1, (Fr.of_below hb _ _).trans b2 (fun q _ h => h), ?_⟩
  rcases b3 with b3 | b3
  · exact .inl b3
  · exact .inr (Nat.le_trans hb.size b3)
theorem Grew.of {base : Nat} {w w1 w2 : World} {vo : Value} {n g c : Nat} {xs : List Value} (hb : Below w.heap.size w w1) (ho : w2.ownsRow base 5 1 (.slice (some ⟨g, 0, none⟩) n c) n xs) (hg : w1.grownBy w2 vo.ownBlock) (hat : vo.ownBlock = some g ∨ g = w1.heap.size) : Grew base w w2 vo n g c xs :=
  Grew.pre hb ⟨ho, Fr.of_grown hg (fun q _ h => .inl h.symm), by rcases hat with h | h; exact .inl h; exact .inr (by omega)⟩
theorem Grew.below {base : Nat} {w w1 : World} {vo : Value} {n g c : Nat} {xs : List Value} (h : Grew base w w1 vo n g c xs) (hb : base ≤ w.heap.size) (hv : ∀ g, vo.ownBlock = some g → base ≤ g) : Below base w w1 := h.2.1.below hb hv (fun _ h => by cases h)
/-- A block that is not the row's is as it was. -/
theorem Grew.far {base : Nat} {w w1 : World} {vo : Value} {n g c : Nat} {xs : List Value} (h : Grew base w w1 vo n g c xs) {q i : Nat} (hq : q < w.heap.size) (hv : vo.ownBlock ≠ some q) : w1.cell? ⟨q, i, none⟩ = w.cell? ⟨q, i, none⟩ :=
  World.cell?_of_block (a := ⟨q, i, none⟩) (h.2.1.block q hq (fun e => hv e.symm) (fun e => by cases e))

theorem bytes_snoc (bs : List UInt8) (c : UInt8) : bytesV (bs ++ [c]) = bytesV bs ++ [.int .u8 (c.toNat : Int)] := by simp

theorem tx_ne {W w wa w3 : World} {v : Value} {n g cap m : Nat} {ob : Obj} (hv : ∀ g, v.ownBlock = some g → W.heap.size ≤ g ∧ g < w.heap.size) (hat : v = .slice (some ⟨g, 0, none⟩) n cap ∨ (g = (wa.alloc ob).drew.heap.size ∧ (wa.alloc ob).drew.grownBy w3 none)) (hs : wa.heap.size = w.heap.size + 1) : (Value.slice (some ⟨g, 0, none⟩) m cap).ownBlock ≠ some w.heap.size := by
  intro e
  simp only [Value.ownBlock, Option.some.injEq] at e
  subst e
  rcases hat with h | ⟨h, _⟩
  · have := (hv w.heap.size (by rw [h]; rfl)).2; omega
  · simp at h; omega

theorem tx_below {W wr wb w3 : World} {v : Value} {ob : Obj} (hB : Below W.heap.size W wr) (hb : Below wr.heap.size wr wb) (hg : (wb.alloc ob).drew.grownBy w3 v.ownBlock) (hv : ∀ g, v.ownBlock = some g → W.heap.size ≤ g) : Below W.heap.size W w3 := by
  have h1 : Below W.heap.size W (wb.alloc ob).drew := ((hB.trans (hb.mono hB.size)).alloc (Nat.le_trans hB.size hb.size) ob).drew
  exact h1.grown hg (by have := hB.size; have := hb.size; simp; omega) hv

end Go.Proofs.Ytfnkjadfepoicac
