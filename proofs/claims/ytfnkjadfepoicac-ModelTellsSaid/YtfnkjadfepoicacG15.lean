/- Of which models clauses hold, told alone: it is so, or it is not; what holds of all holds of each. -/
import Derived.Test.YtfnkjadfepoicacG14
import Derived.Test.YtfnkjadfepoicacG09
import Derived.Test.YtfnkjadfepoicacG11
import Derived.Test.YtfnkjadfepoicacG12
import Derived.Test.YtfnkjadfepoicacG08
import Derived.Test.YtfnkjadfepoicacG07
namespace Go.Proofs.Ytfnkjadfepoicac
open Go.RowKit Go.Deep Go.ChangeShapes Go.WideShapes

def notL (l : Lt) : Lt := (!l.1, l.2)
theorem litH_not {z : Int} {tb : List (List Int)} {e : Int → Int} (l : Lt) : litH z tb e (notL l) = !litH z tb e l := by
  unfold litH notL
  cases l.1 <;> cases (valT z tb e l.2.1 == valT z tb e l.2.2) <;> rfl
theorem holds_either (z : Int) (tb : List (List Int)) (l : Lt) : holdsP z tb [l, notL l] := fun e _ => by
  simp only [someH, List.any_cons, List.any_nil, litH_not]
  cases litH z tb e l <;> rfl
theorem holds_none {z : Int} (hz : 1 ≤ z) (tb : List (List Int)) : ¬ holdsP z tb [] := fun h => by
  have := h (fun _ => 0) (fun _ => ⟨by omega, by omega⟩)
  simp [someH] at this
theorem holds_not {z : Int} (hz : 1 ≤ z) {tb : List (List Int)} {l : Lt} (h1 : holdsP z tb [l]) (h2 : holdsP z tb [notL l]) : False := by
  have e1 := h1 (fun _ => 0) (fun _ => ⟨by omega, by omega⟩)
  have e2 := h2 (fun _ => 0) (fun _ => ⟨by omega, by omega⟩)
  simp only [someH, List.any_cons, List.any_nil, litH_not, Bool.or_false] at e1 e2
  rw [e1] at e2
  cases e2
/-- By whatever bindings. -/
theorem some_bound {z : Int} {tb : List (List Int)} {e : Int → Int} (f : Int → Tm) (c : Cl) : someH z tb e (c.map (mapL (subT f))) = someH z tb (fun n => valT z tb e (f n)) c := by
  unfold someH
  rw [List.any_map]
  congr 1
  funext l
  simp only [Function.comp, litH, mapL, valT_sub]
theorem holds_sub {z : Int} {tb : List (List Int)} {f : Int → Tm} {c : Cl} (hf : ∀ (e : Int → Int), (∀ v, 0 ≤ e v ∧ e v < z) → ∀ n, 0 ≤ valT z tb e (f n) ∧ valT z tb e (f n) < z) (h : holdsP z tb c) : holdsP z tb (c.map (mapL (subT f))) := fun e he => by
  rw [some_bound]
  exact h _ (hf e he)
theorem holds_bound {s : List Int} {z : Int} {tb : List (List Int)} {b : Sb} {c : Cl} (hm : MR s z tb) (hs : s.all okNum = true) (hb : ∀ p ∈ b, sigT s p.2) (h : holdsP z tb c) : holdsP z tb (c.map (mapL (subT (bnd b)))) := by
  refine holds_sub (fun e he n => ?_) h
  cases el : look b n with
  | none => rw [bnd_none el]; simpa [valT, vr] using he n
  | some u => rw [bnd_some el]; exact val_rangeT hm hs (fun v _ _ => he v) (hb _ (look_mem el))
theorem holds_more {z : Int} {tb : List (List Int)} {c : Cl} (d : Cl) (h : holdsP z tb c) : holdsP z tb (c ++ d) := fun e he => by
  have := h e he
  simp only [someH, List.any_append] at this ⊢
  rw [this, Bool.true_or]
/-- Where variables are few they are few by bindings, too. -/
theorem bound_few {b : Sb} {t : Tm} (hb : ∀ p ∈ b, ∀ m, occT m p.2 → 0 ≤ m ∧ m ≤ 4) (ht : ∀ m, occT m t → 0 ≤ m ∧ m ≤ 4) : ∀ m, occT m (subT (bnd b) t) → 0 ≤ m ∧ m ≤ 4 := fun m hm => by
  obtain ⟨n, h1, h2⟩ := occT_sub.1 hm
  cases el : look b n with
  | none => rw [bnd_none el, occ_vr] at h2; rw [← h2]; exact ht n h1
  | some u => rw [bnd_some el] at h2; exact hb _ (look_mem el) m h2
theorem sig_few {s : List Int} : ∀ {F : Fo}, sigF s F → ∀ m, occF m F → 0 ≤ m ∧ m ≤ 4
  | .nil, _, m, h => by simp [occF] at h
  | .node p q (b, n) k r, h, m, hm => by
    rw [occF] at hm
    rcases hm with hm | hm
    · cases b with
      | true =>
        obtain ⟨_, h0, h4⟩ := alone_var h.1.1
        have : n = m := by simpa using hm
        omega
      | false => exact sig_few h.1.2 m (by simpa using hm)
    · exact sig_few h.2 m hm
theorem sig_fewT {s : List Int} {t : Tm} (h : sigT s t) : ∀ m, occT m t → 0 ≤ m ∧ m ≤ 4 := fun m hm => by
  refine sig_few (F := .node 0 0 t.1 t.2 .nil) ⟨h, trivial⟩ m ?_
  rw [occ_mem]
  exact ⟨t, by simp [Fo.list], hm⟩
theorem sigC_vars {s : List Int} {c : Cl} (h : ∀ l ∈ c, sigT s l.2.1 ∧ sigT s l.2.2) : (∀ n ∈ varsC c [], 0 ≤ n ∧ n ≤ 4) ∧ (varsC c []).length ≤ 5 := by
  have key : ∀ n ∈ varsC c [], 0 ≤ n ∧ n ≤ 4 := fun n hn => by
    rcases varsC_mem.1 hn with hn | ⟨l, hl, hn⟩
    · cases hn
    · rcases hn with hn | hn
      · exact sig_fewT (h l hl).1 n hn
      · exact sig_fewT (h l hl).2 n hn
  refine ⟨key, nodup_le (m := [0, 1, 2, 3, 4]) (varsC_nodup List.nodup_nil) (fun x hx => ?_)⟩
  have := key x hx
  simp
  omega

end Go.Proofs.Ytfnkjadfepoicac

/- Any slice appended to a row of the call's own. -/
namespace Go.Proofs.Ytfnkjadfepoicac
open Go.RowKit Go.Deep Go.ChangeShapes Go.WideShapes

/-- The slice lv has m elements, whose cells are news. -/
def Cs (w : World) (lv : Value) (m size : Nat) (news : List Value) : Prop :=
  ∃ (a : Option Addr) (c : Nat), lv = .slice a m c ∧ news.length = m * size ∧ (∀ u ∈ news, u.oneCell' = true) ∧ (a = none → m = 0) ∧ ∀ ad, a = some ad → ∀ j u, news[j]? = some u → w.cell? (ad.add j) = some u

theorem append_nothing {w : World} (base : Nat) (t ty e : TypeId) (i : TypeInfo) (size : Nat) (ht : Try.prog.underlying t = some (.slice e)) (hi : Try.prog.info? e = some i) (v : Value) (n c : Nat) (xs : List Value) (hown : w.ownsRow base e size v n xs) :
    (Builtin.append_ #[t, t] ty #[v, .slice none 0 c]).run Try.prog w = .ok v w := by
  rcases hown.2 with ⟨rfl, rfl⟩ | ⟨g, cap, cur, rfl, _, _, hnc, _⟩
  · simp [Builtin.append_, run_underlying ht, sizeOf, typeInfo, hi, Builtin.lenOf, Builtin.firstCells]
  · simp [Builtin.append_, run_underlying ht, sizeOf, typeInfo, hi, Builtin.lenOf, Builtin.firstCells, hnc, storeCells]

theorem run_append_gen {w : World} (base : Nat) (t ty e : TypeId) (i : TypeInfo) (z : Value) (size bytes : Nat) (ht : Try.prog.underlying t = some (.slice e)) (hi : Try.prog.info? e = some i) (hz : i.zero = some z) (hsize : i.size = size) (hby : i.bytes = bytes) (hzs : z.cells.size = size) (hsz : 0 < size)
    (v : Value) (n : Nat) (xs : List Value) (hown : w.ownsRow base e size v n xs) (lv : Value) (m : Nat) (news : List Value) (hC : Cs w lv m size news) (h63 : n + m ≤ maxLen) (hb : (n + m) * bytes ≤ 140737488355328) (hbase : base ≤ w.heap.size) :
    ∃ v' w', (Builtin.append_ #[t, t] ty #[v, lv]).run Try.prog w = .ok v' w' ∧ w'.ownsRow base e size v' (n + m) (xs ++ news) ∧ w.grownBy w' v.ownBlock ∧ (v'.ownBlock = v.ownBlock ∨ v'.ownBlock = some w.heap.size) := by
  obtain ⟨a, c, rfl, hl, h1, h0, hc⟩ := hC
  cases a with
  | none =>
    have hm := h0 rfl
    subst hm
    have hn : news = [] := List.length_eq_zero_iff.1 (by rw [hl]; simp)
    subst hn
    exact ⟨v, w, append_nothing base t ty e i size ht hi v n c xs hown, by simpa using hown, ⟨rfl, rfl, rfl, Nat.le_refl _, fun _ _ _ => rfl⟩, .inl rfl⟩
  | some ad =>
    obtain ⟨v', w', hr, h2, h3, _, h5⟩ := run_append_own_at (P := Try.prog) w base t ty e i z size bytes ht hi hz hsize hby hzs hsz v n xs hown ad m c news hl (hc ad rfl) h1 h63 hb hbase
    exact ⟨v', w', hr, h2, h3, h5⟩

theorem wp_append_gen {w : World} {o : Oper} {a : Act} {K : Act → World → Prop} {Q : Exit → Act → World → Prop} (s x : Operand) (t : TypeId)
    (ho : o.op = .call { callee := .builtin .append, args := #[s, x], argTypes := #[t, t] }) (base : Nat) (e : TypeId) (i : TypeInfo) (z : Value) (size bytes : Nat) (ht : Try.prog.underlying t = some (.slice e)) (hi : Try.prog.info? e = some i) (hz : i.zero = some z) (hsize : i.size = size) (hby : i.bytes = bytes) (hzs : z.cells.size = size) (hsz : 0 < size)
    (v : Value) (n : Nat) (xs : List Value) (hs : a.eval s = v) (hown : w.ownsRow base e size v n xs) (lv : Value) (m : Nat) (news : List Value) (hx : a.eval x = lv) (hC : Cs w lv m size news) (h63 : n + m ≤ maxLen) (hb : (n + m) * bytes ≤ 140737488355328) (hbase : base ≤ w.heap.size)
    (h : ∀ v' w', w'.ownsRow base e size v' (n + m) (xs ++ news) → w.grownBy w' v.ownBlock → (v'.ownBlock = v.ownBlock ∨ v'.ownBlock = some w.heap.size) → K (a.put o.dst v') w') : o.wp Try.prog a w K Q := by
  obtain ⟨v', w', hr, h2, h3, h4⟩ := run_append_gen base t o.type e i z size bytes ht hi hz hsize hby hzs hsz v n xs hown lv m news hC h63 hb hbase
  unfold Oper.wp execOp
  simp only [ho, resolve, invoke, builtin, Sem.run_bind, Sem.run_pure, Result.andThen_ok, List.map_toArray, List.map_cons, List.map_nil, hs, hx, hr]
  exact h v' w' h2 h3 h4

theorem step_append_gen {w : World} {ops : Array Oper} {o : Oper} {a : Act} {K : Act → World → Prop} {Q : Exit → Act → World → Prop} {E : Prop} (hgd : o.guard = none) (s x : Operand) (t : TypeId)
    (ho : o.op = .call { callee := .builtin .append, args := #[s, x], argTypes := #[t, t] }) (base : Nat) (e : TypeId) (i : TypeInfo) (z : Value) (size bytes : Nat) (ht : Try.prog.underlying t = some (.slice e)) (hi : Try.prog.info? e = some i) (hz : i.zero = some z) (hsize : i.size = size) (hby : i.bytes = bytes) (hzs : z.cells.size = size) (hsz : 0 < size)
    (v : Value) (n : Nat) (xs : List Value) (hs : a.eval s = v) (hown : w.ownsRow base e size v n xs) (lv : Value) (m : Nat) (news : List Value) (hx : a.eval x = lv) (hC : Cs w lv m size news) (h63 : n + m ≤ maxLen) (hb : (n + m) * bytes ≤ 140737488355328) (hbase : base ≤ w.heap.size)
    (h : ∀ v' w', w'.ownsRow base e size v' (n + m) (xs ++ news) → w.grownBy w' v.ownBlock → (v'.ownBlock = v.ownBlock ∨ v'.ownBlock = some w.heap.size) → K (a.put o.dst v') w') :
    if Region.wanted o (yielded ops a.tmps) = true then Oper.wp Try.prog o a w K Q else E := by
  have hw : Region.wanted o (yielded ops a.tmps) = true := by simp [Region.wanted, hgd]
  rw [if_pos hw]
  exact wp_append_gen s x t ho base e i z size bytes ht hi hz hsize hby hzs hsz v n xs hs hown lv m news hx hC h63 hb hbase h
theorem wpList_append_gen {w : World} {ops : Array Oper} {rest : List Oper} {o : Oper} {a : Act} {Q : Exit → Act → World → Prop} (hgd : o.guard = none) (s x : Operand) (t : TypeId)
    (ho : o.op = .call { callee := .builtin .append, args := #[s, x], argTypes := #[t, t] }) (base : Nat) (e : TypeId) (i : TypeInfo) (z : Value) (size bytes : Nat) (ht : Try.prog.underlying t = some (.slice e)) (hi : Try.prog.info? e = some i) (hz : i.zero = some z) (hsize : i.size = size) (hby : i.bytes = bytes) (hzs : z.cells.size = size) (hsz : 0 < size)
    (v : Value) (n : Nat) (xs : List Value) (hs : a.eval s = v) (hown : w.ownsRow base e size v n xs) (lv : Value) (m : Nat) (news : List Value) (hx : a.eval x = lv) (hC : Cs w lv m size news) (h63 : n + m ≤ maxLen) (hb : (n + m) * bytes ≤ 140737488355328) (hbase : base ≤ w.heap.size)
    (h : ∀ v' w', w'.ownsRow base e size v' (n + m) (xs ++ news) → w.grownBy w' v.ownBlock → (v'.ownBlock = v.ownBlock ∨ v'.ownBlock = some w.heap.size) → wpList Try.prog ops Q rest (a.put o.dst v') w') : wpList Try.prog ops Q (o :: rest) a w :=
  wpList_plain hgd fun _ hK => wp_append_gen s x t ho base e i z size bytes ht hi hz hsize hby hzs hsz v n xs hs hown lv m news hx hC h63 hb hbase fun v' w' h2 h3 h4 => hK _ _ (h v' w' h2 h3 h4)

/-- An empty row that was laid. -/
theorem own_bare {w : World} {base b : Nat} {e : TypeId} {size : Nat} (h : w.heap[b]? = some (.cells #[] e)) (hb : base ≤ b) : w.ownsRow base e size (.slice (some ⟨b, 0, none⟩) 0 0) 0 [] :=
  ⟨by simp, .inr ⟨b, 0, #[], rfl, hb, h, Nat.le_refl _, Nat.zero_le _, by simp, by simp⟩⟩

/-- The cells of bindings that lie in memory. -/
theorem pin_cells {w : World} {b : Nat} : ∀ {s : Sb} {o : Nat}, PIn w s b o → ∃ news : List Value, news.length = s.length * 4 ∧ PC (fun q => q < w.heap.size) w s news ∧ ∀ j u, news[j]? = some u → w.cell? ⟨b, o + j, none⟩ = some u
  | [], _, _ => ⟨[], rfl, rfl, fun j u h => by simp at h⟩
  | p :: s, o, ⟨h0, h1, h2, ⟨v, h3, h4⟩, h5⟩ => by
    obtain ⟨news, hl, hP, hc⟩ := pin_cells h5
    refine ⟨.int .i64 p.1 :: .bool p.2.1.1 :: .int .i64 p.2.1.2 :: v :: news, by simp only [List.length_cons, hl]; omega, ⟨v, news, rfl, h4.toB, hP⟩, fun j u hj => ?_⟩
    match j, hj with
    | 0, hj => simp at hj; subst hj; simpa using h0
    | 1, hj => simp at hj; subst hj; simpa using h1
    | 2, hj => simp at hj; subst hj; simpa using h2
    | 3, hj => simp at hj; subst hj; simpa using h3
    | j + 4, hj =>
      have := hc j u (by simpa using hj)
      rw [show o + (j + 4) = o + 4 + j by omega]
      exact this
theorem PC.onecell {X : Nat → Prop} {w : World} : ∀ {s : Sb} {xs : List Value}, PC X w s xs → ∀ u ∈ xs, u.oneCell' = true
  | [], _, h, u, hu => by rw [PC] at h; subst h; simp at hu
  | _ :: _, _, ⟨a, ys, h1, h2, h3⟩, u, hu => by
    subst h1
    obtain ⟨_, _, _, _, rfl, _⟩ := h2
    simp only [List.mem_cons] at hu
    rcases hu with rfl | rfl | rfl | rfl | hu
    · rfl
    · rfl
    · rfl
    · rfl
    · exact h3.onecell u hu
theorem sub_cells {w : World} {s : Sb} {v : Value} (h : SubIn w s v) : ∃ news, Cs w v s.length 4 news ∧ PC (fun q => q < w.heap.size) w s news := by
  obtain ⟨a, c, b, o, rfl, h1, h2, h3, h4⟩ := h
  obtain ⟨news, hl, hP, hc⟩ := pin_cells h4
  refine ⟨news, ⟨a, c, rfl, hl, hP.onecell, fun e => ?_, fun ad e j u hj => ?_⟩, hP⟩
  · subst e
    cases s with
    | nil => rfl
    | cons p s => have := h1 (by simp); cases this
  · have hj' := (List.getElem?_eq_some_iff.1 hj).1
    have hae : ad = ⟨b, o, none⟩ := by
      have := h1 (by omega)
      rw [e] at this
      exact Option.some.inj this
    rw [hae, add_plain]
    exact hc j u hj
/-- The cells of terms that lie in memory. -/
theorem fin_cells {w : World} {b : Nat} : ∀ {F : Fo} {o : Nat}, FIn w F b o → ∃ news : List Value, news.length = Fo.len F * 3 ∧ CellsOf (fun q => q < w.heap.size) w F news ∧ ∀ j u, news[j]? = some u → w.cell? ⟨b, o + j, none⟩ = some u
  | .nil, _, _ => ⟨[], rfl, rfl, fun j u h => by simp at h⟩
  | .node p q x k r, o, h => by
    obtain ⟨h0, h1, ⟨v, h2, h3⟩, h4⟩ := FIn.node h
    obtain ⟨news, hl, hP, hc⟩ := fin_cells h4
    refine ⟨.bool x.1 :: .int .i64 x.2 :: v :: news, by simp only [List.length_cons, hl, Fo.len]; omega, ⟨v, news, rfl, h3.toB, hP⟩, fun j u hj => ?_⟩
    match j, hj with
    | 0, hj => simp at hj; subst hj; simpa using h0
    | 1, hj => simp at hj; subst hj; simpa using h1
    | 2, hj => simp at hj; subst hj; simpa using h2
    | j + 3, hj =>
      have := hc j u (by simpa using hj)
      rw [show o + (j + 3) = o + 3 + j by omega]
      exact this
theorem terms_cells {w : World} {F : Fo} {v : Value} (h : SIn w F v) : ∃ news, Cs w v (Fo.len F) 3 news ∧ CellsOf (fun q => q < w.heap.size) w F news := by
  obtain ⟨a, c, b, o, rfl, h1, h2, h3, h4⟩ := h
  obtain ⟨news, hl, hP, hc⟩ := fin_cells h4
  refine ⟨news, ⟨a, c, rfl, hl, hP.one, fun e => ?_, fun ad e j u hj => ?_⟩, hP⟩
  · subst e
    rcases Nat.eq_zero_or_pos (Fo.len F) with h | h
    · exact h
    · have := h1 h; cases this
  · have hj' := (List.getElem?_eq_some_iff.1 hj).1
    have hae : ad = ⟨b, o, none⟩ := by
      have := h1 (by omega)
      rw [e] at this
      exact Option.some.inj this
    rw [hae, add_plain]
    exact hc j u hj

end Go.Proofs.Ytfnkjadfepoicac

/- What must be bound for a pattern to be a term: the document's More. -/
namespace Go.Proofs.Ytfnkjadfepoicac
open Go.RowKit Go.Deep Go.ChangeShapes Go.WideShapes
attribute [local go_sem ↓] Go.wp_at_zero Go.wp_at_succ

theorem Cs.below {w w' : World} {lv : Value} {m size : Nat} {news : List Value} (h : Cs w lv m size news) (hb : Below w.heap.size w w') : Cs w' lv m size news := by
  obtain ⟨a, c, h1, h2, h3, h4, h5⟩ := h
  exact ⟨a, c, h1, h2, h3, h4, fun ad e j u hj => grow_cell hb _ _ (h5 ad e j u hj)⟩
theorem cs_pair {w : World} {e : Nat} {n yn : Int} {yv : Bool} {a : Option Addr} {l c : Nat} (h : w.heap[e]? = some (.cells #[.int .i64 n, .bool yv, .int .i64 yn, .slice a l c] 47)) : Cs w (.slice (some ⟨e, 0, none⟩) 1 1) 1 4 [.int .i64 n, .bool yv, .int .i64 yn, .slice a l c] :=
  ⟨_, 1, rfl, rfl, by simp [Value.oneCell'], fun e => by (cases e), fun ad hh j u hj => by cases hh; exact World.news_of_block (cs := #[.int .i64 n, .bool yv, .int .i64 yn, .slice a l c]) h j u hj⟩
/-- Two rows of pairs, one behind the other, in a row of the call's own. -/
theorem pairs_row {lo : Nat} {w w' : World} {v : Value} {s s' : Sb} {news ys : List Value} (hb : Below w.heap.size w w') (h : PC (fun q => q < w.heap.size) w s news) (h' : PC (fun q => q < w.heap.size) w s' ys) (ho : w'.ownsRow lo 47 4 v (0 + s.length + s'.length) (([] ++ news) ++ ys)) : SubIn w' (s ++ s') v := by
  refine row_sub (lo := lo) (X := fun q => q < w.heap.size) (xs := news ++ ys) (by simpa using ho) (PC.append (h'.frame (fun _ hq => hq) (fun q i hq => hb.cell hq)) (h.frame (fun _ hq => hq) (fun q i hq => hb.cell hq)))

def MoreRPost (w : World) (s : Sb) (t u : Tm) (e : Ending) (w' : World) : Prop :=
  Below w.heap.size w w' ∧ ∃ (z1 : Option Addr) (z3 : Nat) (s' : Sb) (ok : Bool), e = .returned (.tuple #[.slice z1 s'.length z3, .bool ok]) ∧ SubIn w' s' (.slice z1 s'.length z3) ∧ extT s t u = (if ok then some s' else none) ∧ (ok = false → s' = [] ∨ s' = s)

theorem moreR_fails {w w' : World} {s : Sb} {t u : Tm} (hf : Below w.heap.size w w') (h : extT s t u = none) : MoreRPost w s t u (.returned (.tuple #[.slice none 0 0, .bool false])) w' :=
  ⟨hf, none, 0, [], false, rfl, SubIn.nil _, h, fun _ => .inl rfl⟩
theorem moreR_holds {w w' : World} {s s' : Sb} {t u : Tm} {z1 : Option Addr} {m z3 : Nat} (hf : Below w.heap.size w w') (h : extT s t u = some s') (hm : m = s'.length) (hS : SubIn w' s' (.slice z1 m z3)) : MoreRPost w s t u (.returned (.tuple #[.slice z1 m z3, .bool true])) w' := by
  subst hm
  exact ⟨hf, z1, z3, s', true, rfl, hS, h, fun e => by (cases e)⟩

end Go.Proofs.Ytfnkjadfepoicac

/- The document's way to make two terms the same, told of terms alone: it comes to what the program's comes to. -/
namespace Go.Proofs.Ytfnkjadfepoicac
open Go.RowKit Go.Deep Go.ChangeShapes Go.WideShapes

theorem runU_step {m : Nat} {s s' : Sb} {p : Tm × Tm} {L L' : List (Tm × Tm)} {R : Option Sb} (h : stepU s p.1 p.2 L = some (s', L')) : runU (m + 1) s (p :: L) = some R ↔ runU m s' L' = some R := by
  simp [runU, h]
theorem runU_stop {m : Nat} {s : Sb} {p : Tm × Tm} {L : List (Tm × Tm)} {R : Option Sb} (h : stepU s p.1 p.2 L = none) : runU (m + 1) s (p :: L) = some R ↔ R = none := by
  simp [runU, h, eq_comm]
theorem sub_var {s : Sb} {t : Tm} (h : t.1.1 = true) (hf : look s t.1.2 = none) : subT (bnd s) t = vr t.1.2 := by
  unfold subT
  rw [if_pos h]
  exact bnd_none hf
theorem sub_sym {s : Sb} {t : Tm} (h : ¬ t.1.1 = true) : subT (bnd s) t = ((false, t.1.2), subF (bnd s) t.2) := by
  unfold subT
  rw [if_neg h]

/-- Terms that are the same already: nothing. -/
theorem run_skip : ∀ (n : Nat) (s : Sb) (p : Tm × Tm) (L : List (Tm × Tm)) (R : Option Sb), UI s (p :: L) → runU n s (p :: L) = some R → subT (bnd s) p.1 = subT (bnd s) p.2 → ∃ m, m < n ∧ runU m s L = some R := by
  intro n
  induction n using Nat.strongRecOn with
  | _ n ih =>
    intro s p L R h hr he
    cases n with
    | zero => simp [runU] at hr
    | succ n =>
      have t1 := top_sub h.idem (ui_ok h) p.1
      have t2 := top_sub h.idem (ui_ok h) p.2
      have exy : subT (bnd s) (top s p.1) = subT (bnd s) (top s p.2) := by rw [t1, t2, he]
      by_cases hx : (top s p.1).1.1 = true
      · have ex := sub_var hx (top_free h.idem hx)
        by_cases hy : (top s p.2).1.1 = true
        · have ey := sub_var hy (top_free h.idem hy)
          rw [ex, ey] at exy
          have hst : stepU s p.1 p.2 L = some (s, L) := by
            unfold stepU
            rw [if_pos ⟨hx, hy, by simpa [vr] using exy⟩]
          exact ⟨n, Nat.lt_succ_self n, (runU_step hst).1 hr⟩
        · rw [ex, sub_sym hy] at exy
          simp [vr] at exy
      · by_cases hy : (top s p.2).1.1 = true
        · rw [sub_var hy (top_free h.idem hy), sub_sym hx] at exy
          simp [vr] at exy
        · rw [sub_sym hx, sub_sym hy] at exy
          simp only [Prod.mk.injEq, true_and] at exy
          have hl : Fo.len (top s p.1).2 = Fo.len (top s p.2).2 := by rw [← subF_len (bnd s), exy.2, subF_len]
          have hst : stepU s p.1 p.2 L = some (s, (top s p.1).2.list.zip (top s p.2).2.list ++ L) := by
            unfold stepU
            rw [if_neg (fun e => hx e.1), if_neg hx, if_neg hy, if_pos ⟨exy.1, hl⟩]
          have hU := (step_keeps h hst).1
          have hz := subF_zip exy.2
          have hr' := (runU_step hst).1 hr
          -- all of them, one after the other
          have all : ∀ (M : List (Tm × Tm)) (k : Nat), k ≤ n → UI s (M ++ L) → (∀ q ∈ M, subT (bnd s) q.1 = subT (bnd s) q.2) → runU k s (M ++ L) = some R → ∃ m, m ≤ n ∧ runU m s L = some R := by
            intro M
            induction M with
            | nil => intro k hk _ _ hk2; exact ⟨k, hk, hk2⟩
            | cons q M ihM =>
              intro k hk hUk hq hk2
              obtain ⟨m, hm, hm2⟩ := ih k (by omega) s q (M ++ L) R hUk hk2 (hq q (by simp))
              exact ihM m (by omega) (ui_tail hUk) (fun z hz => hq z (by simp [hz])) hm2
          obtain ⟨m, hm, hm2⟩ := all _ n (Nat.le_refl _) hU hz hr'
          exact ⟨m, by omega, hm2⟩

/-- Two symbols: their arguments, or nothing. -/
theorem run_sym {n : Nat} {s : Sb} {p : Tm × Tm} {L : List (Tm × Tm)} {R : Option Sb} (h : UI s (p :: L)) (hr : runU n s (p :: L) = some R) (hx : ¬ (subT (bnd s) p.1).1.1 = true) (hy : ¬ (subT (bnd s) p.2).1.1 = true) :
    (¬ ((subT (bnd s) p.1).1.2 = (subT (bnd s) p.2).1.2 ∧ Fo.len (subT (bnd s) p.1).2 = Fo.len (subT (bnd s) p.2).2) → R = none) ∧
    ((subT (bnd s) p.1).1.2 = (subT (bnd s) p.2).1.2 ∧ Fo.len (subT (bnd s) p.1).2 = Fo.len (subT (bnd s) p.2).2 → ∃ m M, m < n ∧ UI s (M ++ L) ∧ runU m s (M ++ L) = some R ∧ M.map (fun q => subT (bnd s) q.1) = (subT (bnd s) p.1).2.list ∧ M.map (fun q => subT (bnd s) q.2) = (subT (bnd s) p.2).2.list) := by
  cases n with
  | zero => simp [runU] at hr
  | succ n =>
    have t1 := top_sub h.idem (ui_ok h) p.1
    have t2 := top_sub h.idem (ui_ok h) p.2
    rw [← t1] at hx ⊢
    rw [← t2] at hy ⊢
    have hx' : ¬ (top s p.1).1.1 = true := fun e => hx (by rw [sub_var e (top_free h.idem e)]; rfl)
    have hy' : ¬ (top s p.2).1.1 = true := fun e => hy (by rw [sub_var e (top_free h.idem e)]; rfl)
    rw [sub_sym hx', sub_sym hy']
    simp only [subF_len]
    refine ⟨fun hc => ?_, fun hc => ?_⟩
    · have hst : stepU s p.1 p.2 L = none := by
        unfold stepU
        rw [if_neg (fun e => hx' e.1), if_neg hx', if_neg hy', if_neg hc]
      exact (runU_stop hst).1 hr
    · have hst : stepU s p.1 p.2 L = some (s, (top s p.1).2.list.zip (top s p.2).2.list ++ L) := by
        unfold stepU
        rw [if_neg (fun e => hx' e.1), if_neg hx', if_neg hy', if_pos hc]
      refine ⟨n, _, Nat.lt_succ_self n, (step_keeps h hst).1, (runU_step hst).1 hr, ?_, ?_⟩
      · have e : ((top s p.1).2.list.zip (top s p.2).2.list).map Prod.fst = (top s p.1).2.list := by
          rw [List.map_fst_zip]
          rw [Fo.len_list, Fo.len_list]; omega
        have e2 := congrArg (List.map (subT (bnd s))) e
        rw [List.map_map] at e2
        rw [subF_list]
        exact e2
      · have e : ((top s p.1).2.list.zip (top s p.2).2.list).map Prod.snd = (top s p.2).2.list := by
          rw [List.map_snd_zip]
          rw [Fo.len_list, Fo.len_list]; omega
        have e2 := congrArg (List.map (subT (bnd s))) e
        rw [List.map_map] at e2
        rw [subF_list]
        exact e2

/-- One is a variable: it is bound to the other one, or nothing. -/
theorem run_var {n : Nat} {s : Sb} {p : Tm × Tm} {L : List (Tm × Tm)} {R : Option Sb} {u v : Tm} (h : UI s (p :: L)) (hr : runU n s (p :: L) = some R) (hne : subT (bnd s) p.1 ≠ subT (bnd s) p.2)
    (huv : (u = subT (bnd s) p.1 ∧ v = subT (bnd s) p.2 ∧ u.1.1 = true) ∨ (u = subT (bnd s) p.2 ∧ v = subT (bnd s) p.1 ∧ u.1.1 = true ∧ ¬ v.1.1 = true)) :
    (addS s u.1.2 v = none → R = none) ∧ ∀ s1, addS s u.1.2 v = some s1 → ∃ m, m < n ∧ UI s1 L ∧ runU m s1 L = some R ∧ Ref s s1 := by
  cases n with
  | zero => simp [runU] at hr
  | succ n =>
    have t1 := top_sub h.idem (ui_ok h) p.1
    have t2 := top_sub h.idem (ui_ok h) p.2
    have key : ∃ x y, (x = top s p.1 ∧ y = top s p.2 ∨ x = top s p.2 ∧ y = top s p.1) ∧ x.1.1 = true ∧ x.1.2 = u.1.2 ∧ subT (bnd s) y = v ∧ stepU s p.1 p.2 L = (addS s x.1.2 (subT (bnd s) y)).map fun s' => (s', L) := by
      rcases huv with ⟨hu, hv, h1⟩ | ⟨hu, hv, h1, h2⟩
      · rw [← t1] at hu
        rw [← t2] at hv
        have hx : (top s p.1).1.1 = true := by
          by_cases e : (top s p.1).1.1 = true
          · exact e
          · rw [hu, sub_sym e] at h1; simp at h1
        have hun : (top s p.1).1.2 = u.1.2 := by rw [hu, sub_var hx (top_free h.idem hx)]; rfl
        refine ⟨_, _, .inl ⟨rfl, rfl⟩, hx, hun, hv.symm, ?_⟩
        unfold stepU
        rw [if_neg, if_pos hx]
        rintro ⟨_, hy, hxy⟩
        apply hne
        rw [← t1, ← t2, sub_var hx (top_free h.idem hx), sub_var hy (top_free h.idem hy), hxy]
      · rw [← t2] at hu
        rw [← t1] at hv
        have hy : (top s p.2).1.1 = true := by
          by_cases e : (top s p.2).1.1 = true
          · exact e
          · rw [hu, sub_sym e] at h1; simp at h1
        have hx : ¬ (top s p.1).1.1 = true := fun e => h2 (by rw [hv, sub_var e (top_free h.idem e)]; rfl)
        have hun : (top s p.2).1.2 = u.1.2 := by rw [hu, sub_var hy (top_free h.idem hy)]; rfl
        refine ⟨_, _, .inr ⟨rfl, rfl⟩, hy, hun, hv.symm, ?_⟩
        unfold stepU
        rw [if_neg (fun e => hx e.1), if_neg hx, if_pos hy]
    obtain ⟨x, y, hxy, hxv, hxn, hyv, hst⟩ := key
    rw [hyv, hxn] at hst
    refine ⟨fun e => ?_, fun s1 e => ?_⟩
    · rw [e] at hst
      exact (runU_stop hst).1 hr
    · have ha : addS s x.1.2 (subT (bnd s) y) = some s1 := by rw [hyv, hxn]; exact e
      rw [e] at hst
      obtain ⟨k1, _, k3, _⟩ := step_add h hxy hxv ha
      exact ⟨n, Nat.lt_succ_self n, k1, (runU_step hst).1 hr, k3⟩

end Go.Proofs.Ytfnkjadfepoicac
