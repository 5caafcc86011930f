/- CMo CM5 RGen RMore MatchP RPlaces -/
import Derived.Test.YtlgnpiphaeoeiadG08
import Derived.Deep.LoopGhost
namespace Go.Proofs.Ytlgnpiphaeoeiad
open Go.RowKit Go.Deep Go.ChangeShapes Go.WideShapes
def sigF (s : List Int) : Fo → Prop
  | .nil => True
  | .node _ _ x k r => (aloneF s x (Fo.len k) = 0 ∧ sigF s k) ∧ sigF s r
def sigT (s : List Int) (t : Tm) : Prop := aloneF s t.1 (Fo.len t.2) = 0 ∧ sigF s t.2
theorem sig_walkF {s : List Int} : ∀ {F : Fo} {d : Int}, walkF s F d = 0 → sigF s F
  | .nil, _, _ => trivial
  | .node _ _ x k r, d, h => by
    obtain ⟨hT, hr⟩ := walkF_ok h
    obtain ⟨_, ha, hk⟩ := walkT_ok hT
    exact ⟨⟨ha, sig_walkF hk⟩, sig_walkF hr⟩
theorem sig_walk {s : List Int} {t : Tm} {d : Int} (h : walkT s t.1 t.2 d = 0) : sigT s t := by
  obtain ⟨_, ha, hk⟩ := walkT_ok h
  exact ⟨ha, sig_walkF hk⟩
theorem sig_mem {s : List Int} : ∀ {F : Fo}, sigF s F → ∀ t ∈ F.list, sigT s t
  | .nil, _, t, h => by simp [Fo.list] at h
  | .node _ _ x k r, h, t, ht => by
    simp only [Fo.list, List.mem_cons] at ht
    rcases ht with rfl | ht
    · exact h.1
    · exact sig_mem h.2 t ht
theorem sig_subF {s : List Int} {f : Int → Tm} : ∀ {F : Fo}, (∀ n, occF n F → sigT s (f n)) → sigF s F → sigF s (subF f F)
  | .nil, _, _ => trivial
  | .node p q (b, n) k r, hf, h => by
    have hl : ∀ m, occT m ((b, n), k) → sigT s (f m) := fun m hm => hf m (by rw [occ_mem]; exact ⟨((b, n), k), by simp [Fo.list], hm⟩)
    have hr : ∀ m, occF m r → sigT s (f m) := fun m hm => hf m (by
      rw [occ_mem] at hm ⊢
      obtain ⟨t, ht, h2⟩ := hm
      exact ⟨t, by simp [Fo.list, ht], h2⟩)
    rw [subF_node]
    refine ⟨?_, sig_subF hr h.2⟩
    cases b with
    | true => rw [subT_var]; exact hl n (by simp [occT])
    | false =>
      rw [subT_sym]
      refine ⟨?_, sig_subF (fun m hm => hl m (by simp [occT, hm])) h.1.2⟩
      rw [subF_len]; exact h.1.1
theorem sig_sub {s : List Int} {f : Int → Tm} {t : Tm} (hf : ∀ n, occT n t → sigT s (f n)) (h : sigT s t) : sigT s (subT f t) := by
  obtain ⟨⟨b, n⟩, k⟩ := t
  cases b with
  | true => rw [subT_var]; exact hf n (by simp [occT])
  | false =>
    rw [subT_sym]
    refine ⟨?_, sig_subF (fun m hm => hf m (by simp [occT, hm])) h.2⟩
    rw [subF_len]; exact h.1
end Go.Proofs.Ytlgnpiphaeoeiad

namespace Go.Proofs.Ytlgnpiphaeoeiad
open Go.RowKit Go.Deep Go.ChangeShapes Go.WideShapes
theorem sig_few {s : List Int} : ∀ {F : Fo}, sigF s F → ∀ m, occF m F → 0 ≤ m ∧ m ≤ 4
  | .nil, _, m, h => by simp [occF] at h
  | .node p q (b, n) k r, h, m, hm => by
    rw [occF] at hm
    rcases hm with hm | hm
    · cases b with
      | true =>
        obtain ⟨_, h0, h4⟩ := alone_var h.1.1
        have : n = m := by simpa using hm
        omega
      | false => exact sig_few h.1.2 m (by simpa using hm)
    · exact sig_few h.2 m hm
theorem sig_fewT {s : List Int} {t : Tm} (h : sigT s t) : ∀ m, occT m t → 0 ≤ m ∧ m ≤ 4 := fun m hm => by
  refine sig_few (F := .node 0 0 t.1 t.2 .nil) ⟨h, trivial⟩ m ?_
  rw [occ_mem]
  exact ⟨t, by simp [Fo.list], hm⟩
end Go.Proofs.Ytlgnpiphaeoeiad

namespace Go.Proofs.Ytlgnpiphaeoeiad
open Go.RowKit Go.Deep Go.ChangeShapes Go.WideShapes
def Cs (w : World) (lv : Value) (m size : Nat) (news : List Value) : Prop :=
  ∃ (a : Option Addr) (c : Nat), lv = .slice a m c ∧ news.length = m * size ∧ (∀ u ∈ news, u.oneCell' = true) ∧ (a = none → m = 0) ∧ ∀ ad, a = some ad → ∀ j u, news[j]? = some u → w.cell? (ad.add j) = some u
theorem append_nothing {w : World} (base : Nat) (t ty e : TypeId) (i : TypeInfo) (size : Nat) (ht : Try.prog.underlying t = some (.slice e)) (hi : Try.prog.info? e = some i) (v : Value) (n c : Nat) (xs : List Value) (hown : w.ownsRow base e size v n xs) :
    (Builtin.append_ #[t, t] ty #[v, .slice none 0 c]).run Try.prog w = .ok v w := by
  rcases hown.2 with ⟨rfl, rfl⟩ | ⟨g, cap, cur, rfl, _, _, hnc, _⟩
  · simp [Builtin.append_, run_underlying ht, sizeOf, typeInfo, hi, Builtin.lenOf, Builtin.firstCells]
  · simp [Builtin.append_, run_underlying ht, sizeOf, typeInfo, hi, Builtin.lenOf, Builtin.firstCells, hnc, storeCells]
theorem run_append_gen {w : World} (base : Nat) (t ty e : TypeId) (i : TypeInfo) (z : Value) (size bytes : Nat) (ht : Try.prog.underlying t = some (.slice e)) (hi : Try.prog.info? e = some i) (hz : i.zero = some z) (hsize : i.size = size) (hby : i.bytes = bytes) (hzs : z.cells.size = size) (hsz : 0 < size)
    (v : Value) (n : Nat) (xs : List Value) (hown : w.ownsRow base e size v n xs) (lv : Value) (m : Nat) (news : List Value) (hC : Cs w lv m size news) (h63 : n + m ≤ maxLen) (hb : (n + m) * bytes ≤ 140737488355328) (hbase : base ≤ w.heap.size) :
    ∃ v' w', (Builtin.append_ #[t, t] ty #[v, lv]).run Try.prog w = .ok v' w' ∧ w'.ownsRow base e size v' (n + m) (xs ++ news) ∧ w.grownBy w' v.ownBlock ∧ (v'.ownBlock = v.ownBlock ∨ v'.ownBlock = some w.heap.size) := by
  obtain ⟨a, c, rfl, hl, h1, h0, hc⟩ := hC
  cases a with
  | none =>
    have hm := h0 rfl
    subst hm
    have hn : news = [] := List.length_eq_zero_iff.1 (by rw [hl]; simp)
    subst hn
    exact ⟨v, w, append_nothing base t ty e i size ht hi v n c xs hown, by simpa using hown, ⟨rfl, rfl, rfl, Nat.le_refl _, fun _ _ _ => rfl⟩, .inl rfl⟩
  | some ad =>
    obtain ⟨v', w', hr, h2, h3, _, h5⟩ := run_append_own_at (P := Try.prog) w base t ty e i z size bytes ht hi hz hsize hby hzs hsz v n xs hown ad m c news hl (hc ad rfl) h1 h63 hb hbase
    exact ⟨v', w', hr, h2, h3, h5⟩
theorem wp_append_gen {w : World} {o : Oper} {a : Act} {K : Act → World → Prop} {Q : Exit → Act → World → Prop} (s x : Operand) (t : TypeId)
    (ho : o.op = .call { callee := .builtin .append, args := #[s, x], argTypes := #[t, t] }) (base : Nat) (e : TypeId) (i : TypeInfo) (z : Value) (size bytes : Nat) (ht : Try.prog.underlying t = some (.slice e)) (hi : Try.prog.info? e = some i) (hz : i.zero = some z) (hsize : i.size = size) (hby : i.bytes = bytes) (hzs : z.cells.size = size) (hsz : 0 < size)
    (v : Value) (n : Nat) (xs : List Value) (hs : a.eval s = v) (hown : w.ownsRow base e size v n xs) (lv : Value) (m : Nat) (news : List Value) (hx : a.eval x = lv) (hC : Cs w lv m size news) (h63 : n + m ≤ maxLen) (hb : (n + m) * bytes ≤ 140737488355328) (hbase : base ≤ w.heap.size)
    (h : ∀ v' w', w'.ownsRow base e size v' (n + m) (xs ++ news) → w.grownBy w' v.ownBlock → (v'.ownBlock = v.ownBlock ∨ v'.ownBlock = some w.heap.size) → K (a.put o.dst v') w') : o.wp Try.prog a w K Q := by
  obtain ⟨v', w', hr, h2, h3, h4⟩ := run_append_gen base t o.type e i z size bytes ht hi hz hsize hby hzs hsz v n xs hown lv m news hC h63 hb hbase
  unfold Oper.wp execOp
  simp only [ho, resolve, invoke, builtin, Sem.run_bind, Sem.run_pure, Result.andThen_ok, List.map_toArray, List.map_cons, List.map_nil, hs, hx, hr]
  exact h v' w' h2 h3 h4
theorem step_append_gen {w : World} {ops : Array Oper} {o : Oper} {a : Act} {K : Act → World → Prop} {Q : Exit → Act → World → Prop} {E : Prop} (hgd : o.guard = none) (s x : Operand) (t : TypeId)
    (ho : o.op = .call { callee := .builtin .append, args := #[s, x], argTypes := #[t, t] }) (base : Nat) (e : TypeId) (i : TypeInfo) (z : Value) (size bytes : Nat) (ht : Try.prog.underlying t = some (.slice e)) (hi : Try.prog.info? e = some i) (hz : i.zero = some z) (hsize : i.size = size) (hby : i.bytes = bytes) (hzs : z.cells.size = size) (hsz : 0 < size)
    (v : Value) (n : Nat) (xs : List Value) (hs : a.eval s = v) (hown : w.ownsRow base e size v n xs) (lv : Value) (m : Nat) (news : List Value) (hx : a.eval x = lv) (hC : Cs w lv m size news) (h63 : n + m ≤ maxLen) (hb : (n + m) * bytes ≤ 140737488355328) (hbase : base ≤ w.heap.size)
    (h : ∀ v' w', w'.ownsRow base e size v' (n + m) (xs ++ news) → w.grownBy w' v.ownBlock → (v'.ownBlock = v.ownBlock ∨ v'.ownBlock = some w.heap.size) → K (a.put o.dst v') w') :
    if Region.wanted o (yielded ops a.tmps) = true then Oper.wp Try.prog o a w K Q else E := by
  have hw : Region.wanted o (yielded ops a.tmps) = true := by simp [Region.wanted, hgd]
  rw [if_pos hw]
  exact wp_append_gen s x t ho base e i z size bytes ht hi hz hsize hby hzs hsz v n xs hs hown lv m news hx hC h63 hb hbase h
theorem wpList_append_gen {w : World} {ops : Array Oper} {rest : List Oper} {o : Oper} {a : Act} {Q : Exit → Act → World → Prop} (hgd : o.guard = none) (s x : Operand) (t : TypeId)
    (ho : o.op = .call { callee := .builtin .append, args := #[s, x], argTypes := #[t, t] }) (base : Nat) (e : TypeId) (i : TypeInfo) (z : Value) (size bytes : Nat) (ht : Try.prog.underlying t = some (.slice e)) (hi : Try.prog.info? e = some i) (hz : i.zero = some z) (hsize : i.size = size) (hby : i.bytes = bytes) (hzs : z.cells.size = size) (hsz : 0 < size)
    (v : Value) (n : Nat) (xs : List Value) (hs : a.eval s = v) (hown : w.ownsRow base e size v n xs) (lv : Value) (m : Nat) (news : List Value) (hx : a.eval x = lv) (hC : Cs w lv m size news) (h63 : n + m ≤ maxLen) (hb : (n + m) * bytes ≤ 140737488355328) (hbase : base ≤ w.heap.size)
    (h : ∀ v' w', w'.ownsRow base e size v' (n + m) (xs ++ news) → w.grownBy w' v.ownBlock → (v'.ownBlock = v.ownBlock ∨ v'.ownBlock = some w.heap.size) → wpList Try.prog ops Q rest (a.put o.dst v') w') : wpList Try.prog ops Q (o :: rest) a w :=
  wpList_plain hgd fun _ hK => wp_append_gen s x t ho base e i z size bytes ht hi hz hsize hby hzs hsz v n xs hs hown lv m news hx hC h63 hb hbase fun v' w' h2 h3 h4 => hK _ _ (h v' w' h2 h3 h4)
theorem own_bare {w : World} {base b : Nat} {e : TypeId} {size : Nat} (h : w.heap[b]? = some (.cells #[] e)) (hb : base ≤ b) : w.ownsRow base e size (.slice (some ⟨b, 0, none⟩) 0 0) 0 [] :=
  ⟨by simp, .inr ⟨b, 0, #[], rfl, hb, h, Nat.le_refl _, Nat.zero_le _, by simp, by simp⟩⟩
theorem pin_cells {w : World} {b : Nat} : ∀ {s : Sb} {o : Nat}, PIn w s b o → ∃ news : List Value, news.length = s.length * 4 ∧ PC (fun q => q < w.heap.size) w s news ∧ ∀ j u, news[j]? = some u → w.cell? ⟨b, o + j, none⟩ = some u
  | [], _, _ => ⟨[], rfl, rfl, fun j u h => by simp at h⟩
  | p :: s, o, ⟨h0, h1, h2, ⟨v, h3, h4⟩, h5⟩ => by
    obtain ⟨news, hl, hP, hc⟩ := pin_cells h5
    refine ⟨.int .i64 p.1 :: .bool p.2.1.1 :: .int .i64 p.2.1.2 :: v :: news, by simp only [List.length_cons, hl]; omega, ⟨v, news, rfl, h4.toB, hP⟩, fun j u hj => ?_⟩
    match j, hj with
    | 0, hj => simp at hj; subst hj; simpa using h0
    | 1, hj => simp at hj; subst hj; simpa using h1
    | 2, hj => simp at hj; subst hj; simpa using h2
    | 3, hj => simp at hj; subst hj; simpa using h3
    | j + 4, hj =>
      have := hc j u (by simpa using hj)
      rw [show o + (j + 4) = o + 4 + j by omega]
      exact this
theorem PC.onecell {X : Nat → Prop} {w : World} : ∀ {s : Sb} {xs : List Value}, PC X w s xs → ∀ u ∈ xs, u.oneCell' = true
  | [], _, h, u, hu => by rw [PC] at h; subst h; simp at hu
  | _ :: _, _, ⟨a, ys, h1, h2, h3⟩, u, hu => by
    subst h1
    obtain ⟨_, _, _, _, rfl, _⟩ := h2
    simp only [List.mem_cons] at hu
    rcases hu with rfl | rfl | rfl | rfl | hu
    · rfl
    · rfl
    · rfl
    · rfl
    · exact h3.onecell u hu
theorem sub_cells {w : World} {s : Sb} {v : Value} (h : SubIn w s v) : ∃ news, Cs w v s.length 4 news ∧ PC (fun q => q < w.heap.size) w s news := by
  obtain ⟨a, c, b, o, rfl, h1, h2, h3, h4⟩ := h
  obtain ⟨news, hl, hP, hc⟩ := pin_cells h4
  refine ⟨news, ⟨a, c, rfl, hl, hP.onecell, fun e => ?_, fun ad e j u hj => ?_⟩, hP⟩
  · subst e
    cases s with
    | nil => rfl
    | cons p s => have := h1 (by simp); cases this
  · have hj' := (List.getElem?_eq_some_iff.1 hj).1
    have hae : ad = ⟨b, o, none⟩ := by
      have := h1 (by omega)
      rw [e] at this
      exact Option.some.inj this
    rw [hae, add_plain]
    exact hc j u hj
end Go.Proofs.Ytlgnpiphaeoeiad

namespace Go.Proofs.Ytlgnpiphaeoeiad
open Go.RowKit Go.Deep Go.ChangeShapes Go.WideShapes
attribute [local go_sem ↓] Go.wp_at_zero Go.wp_at_succ
theorem Cs.below {w w' : World} {lv : Value} {m size : Nat} {news : List Value} (h : Cs w lv m size news) (hb : Below w.heap.size w w') : Cs w' lv m size news := by
  obtain ⟨a, c, h1, h2, h3, h4, h5⟩ := h
  exact ⟨a, c, h1, h2, h3, h4, fun ad e j u hj => grow_cell hb _ _ (h5 ad e j u hj)⟩
theorem cs_pair {w : World} {e : Nat} {n yn : Int} {yv : Bool} {a : Option Addr} {l c : Nat} (h : w.heap[e]? = some (.cells #[.int .i64 n, .bool yv, .int .i64 yn, .slice a l c] 73)) : Cs w (.slice (some ⟨e, 0, none⟩) 1 1) 1 4 [.int .i64 n, .bool yv, .int .i64 yn, .slice a l c] :=
  ⟨_, 1, rfl, rfl, by simp [Value.oneCell'], fun e => by (cases e), fun ad hh j u hj => by cases hh; exact World.news_of_block (cs := #[.int .i64 n, .bool yv, .int .i64 yn, .slice a l c]) h j u hj⟩
theorem pairs_row {lo : Nat} {w w' : World} {v : Value} {s s' : Sb} {news ys : List Value} (hb : Below w.heap.size w w') (h : PC (fun q => q < w.heap.size) w s news) (h' : PC (fun q => q < w.heap.size) w s' ys) (ho : w'.ownsRow lo 73 4 v (0 + s.length + s'.length) (([] ++ news) ++ ys)) : SubIn w' (s ++ s') v := by
  refine row_sub (lo := lo) (X := fun q => q < w.heap.size) (xs := news ++ ys) (by simpa using ho) (PC.append (h'.frame (fun _ hq => hq) (fun q i hq => hb.cell hq)) (h.frame (fun _ hq => hq) (fun q i hq => hb.cell hq)))
def MoreRPost (w : World) (s : Sb) (t u : Tm) (e : Ending) (w' : World) : Prop :=
  Below w.heap.size w w' ∧ ∃ (z1 : Option Addr) (z3 : Nat) (s' : Sb) (ok : Bool), e = .returned (.tuple #[.slice z1 s'.length z3, .bool ok]) ∧ SubIn w' s' (.slice z1 s'.length z3) ∧ extT s t u = (if ok then some s' else none) ∧ (ok = false → s' = [] ∨ s' = s)
def MoreRSaid (x : Bool × Int) (k : Fo) : Prop := ∀ (s : Sb) (vs : Value) (y : Bool × Int) (l : Fo) (a c : Value) (w : World),
    SubIn w s vs → SIn w k a → SIn w l c → (s.length + tszR k) * 48 ≤ 140737488355328 →
    Calls Try.prog 24 #[vs, .agg #[.bool x.1, .int .i64 x.2, a], .agg #[.bool y.1, .int .i64 y.2, c]] w (MoreRPost w s (x, k) (y, l))
theorem moreR_fails {w w' : World} {s : Sb} {t u : Tm} (hf : Below w.heap.size w w') (h : extT s t u = none) : MoreRPost w s t u (.returned (.tuple #[.slice none 0 0, .bool false])) w' :=
  ⟨hf, none, 0, [], false, rfl, SubIn.nil _, h, fun _ => .inl rfl⟩
theorem moreR_holds {w w' : World} {s s' : Sb} {t u : Tm} {z1 : Option Addr} {m z3 : Nat} (hf : Below w.heap.size w w') (h : extT s t u = some s') (hm : m = s'.length) (hS : SubIn w' s' (.slice z1 m z3)) : MoreRPost w s t u (.returned (.tuple #[.slice z1 m z3, .bool true])) w' := by
  subst hm
  exact ⟨hf, z1, z3, s', true, rfl, hS, h, fun e => by (cases e)⟩
set_option maxRecDepth 100000 in
set_option maxHeartbeats 2000000 in
theorem moreR_any (x : Bool × Int) (k : Fo) : MoreRSaid x k := by
  refine Fo.ind1 (p := MoreRSaid) ?_ x k
  clear x k
  intro x k ih s vs y l a c w hO hS hU hlen
  obtain ⟨v, n⟩ := x
  obtain ⟨yv, yn⟩ := y
  have HI := hide ih
  have HO := hide hO
  have HU := hide hU
  obtain ⟨z1, z3, sb, so, rfl, hz1, hzc, hzm, hP⟩ := hO
  obtain ⟨ad, ac, b, o, rfl, had, hlc, hcm, hF⟩ := hS
  obtain ⟨ud, uc, ub, uo, rfl, hud, hulc, hucm, hG⟩ := hU
  have HP := hide hP
  have HF := hide hF
  have HG := hide hG
  have hlent : 0 < tszR k := by unfold tszR; omega
  have hzm' := hzm
  unfold maxLen at hcm hucm hzm
  clear ih hF hG hP
  cases v
  · clear hz1
    by_cases hc : yv = false ∧ yn = n ∧ Fo.len l = Fo.len k
    · obtain ⟨rfl, rfl, hll⟩ := hc
      have Hres : Hid (extT s ((false, yn), k) ((false, yn), l) = extF k l s) := extT_in hll
      have hllb : ((Fo.len l : Int) != (Fo.len k : Int)) = false := by simp [hll]
      have hnb : (yn != yn) = false := by simp
      have Hll := hide hll
      have hll1 : Fo.len l ≤ Fo.len k := by omega
      have hll2 : Fo.len k ≤ Fo.len l := by omega
      have Hl := hide (Fo.len_list k)
      have Hl2 := hide (Fo.len_list l)
      clear hll
      go_enter Try.func24, Try.ntmps24
      go_wp2_with fail
      generalize hW2 : (w.alloc (.cells #[.bool false, .int .i64 yn, .slice ad (Fo.len k) ac] 33)).alloc (.cells #[.bool false, .int .i64 yn, .slice ud (Fo.len l) uc] 33) = W2
      have hs2 : W2.heap.size = w.heap.size + 1 + 1 := by rw [← hW2]; simp
      have hB2 : Below w.heap.size w W2 := by rw [← hW2]; exact (below_alloc _ _).alloc (by simp) _
      have q2 : W2.cell? ⟨w.heap.size, 2, none⟩ = some (.slice ad (Fo.len k) ac) := by rw [← hW2, World.cell?_alloc_lt _ _ _ (by simp)]; exact new_cell rfl
      have r2 : W2.cell? ⟨w.heap.size + 1, 2, none⟩ = some (.slice ud (Fo.len l) uc) := by rw [← hW2]; exact new_cell (World.size_alloc _ _)
      have Hq2 := hide q2
      have Hr2 := hide r2
      have HB2 := hide hB2
      clear hW2 q2 r2 hB2
      go_loopw [0, 62] (fun vj i wr => ∃ (j : Nat) (sj : Sb) (y1 : Option Addr) (y3 : Nat), j ≤ Fo.len k ∧ i = .int .i64 j ∧ vj = .slice y1 sj.length y3 ∧ extF (Fo.take j k) (Fo.take j l) s = some sj ∧ SubIn wr sj (.slice y1 sj.length y3) ∧ Below W2.heap.size W2 wr) (fun _ i _ => Fo.len k - (intOf i).toNat)
      case atStart => exact ⟨0, s, z1, z3, Nat.zero_le _, rfl, rfl, rfl, HO.out.below HB2.out, Below.refl _ _⟩
      case round =>
        obtain ⟨j, sj, y1, y3, hj, rfl, rfl, hex, hOj, hFj⟩ := hrel
        have Hex := hide hex
        have HOj := hide hOj
        have HFj := hide hFj
        clear hex hOj hFj
        have hBw := below_step HB2.out HFj.out
        have HBw := hide hBw
        by_cases hlt : j < Fo.len k
        · have hlt' : (j : Int) < (Fo.len k : Int) := by omega
          have hlt2 : (j : Int) < (Fo.len l : Int) := by omega
          have hj0 : (0 : Int) ≤ (j : Int) := by omega
          have had' := had (by omega)
          have hud' := hud (by omega)
          subst had' hud'
          obtain ⟨⟨⟨pv, pn⟩, pk⟩, hp⟩ : ∃ y, k.list[j]? = some y := ⟨k.list[j]'(by rw [Hl.out]; exact hlt), by simp⟩
          obtain ⟨⟨⟨tv, tn⟩, tk⟩, ht⟩ : ∃ y, l.list[j]? = some y := ⟨l.list[j]'(by rw [Hl2.out]; omega), by simp⟩
          obtain ⟨c0, c1, pa, c2, hSp⟩ := HF.out.at hp
          obtain ⟨d0, d1, ta, d2, hSt⟩ := HG.out.at ht
          have c0' := grow_cell hBw _ _ c0
          have c1' := grow_cell hBw _ _ c1
          have c2' := grow_cell hBw _ _ c2
          have d0' := grow_cell hBw _ _ d0
          have d1' := grow_cell hBw _ _ d1
          have d2' := grow_cell hBw _ _ d2
          have e2 := grow_cell HFj.out _ _ Hq2.out
          have f2 := grow_cell HFj.out _ _ Hr2.out
          have HSp := hide (hSp.below hBw).drew
          have HSt := hide (hSt.below hBw).drew
          obtain ⟨pa1, pc, pb, po, rfl, -, -, -, -⟩ := hSp
          obtain ⟨ta1, tc, tb, t4, rfl, -, -, -, -⟩ := hSt
          have Hbd : Hid ((sj.length + tszR pk) * 48 ≤ 140737488355328) := by
            have h1 := extF_len Hex.out
            have h2 := sizesR_take j k
            rw [hp] at h2
            simp only at h2
            unfold tszR at h2 hlen
            unfold tszR Hid
            omega
          have Hstep : Hid (extF (Fo.take (j + 1) k) (Fo.take (j + 1) l) s = extT sj ((pv, pn), pk) ((tv, tn), tk)) := by
            rw [Hid, ext_snoc s hp ht, Hex.out]; rfl
          have hcall : Calls Try.prog 24 #[.slice y1 sj.length y3, .agg #[.bool pv, .int .i64 pn, .slice pa1 (Fo.len pk) pc], .agg #[.bool tv, .int .i64 tn, .slice ta1 (Fo.len tk) tc]] wr.drew (MoreRPost wr.drew sj ((pv, pn), pk) ((tv, tn), tk)) :=
            HI.out ((pv, pn), pk) (List.mem_of_getElem? hp) sj _ (tv, tn) tk _ _ wr.drew HOj.out.drew HSp.out HSt.out Hbd.out
          have Hcall := hide hcall
          clear c0 c1 c2 d0 d1 d2 hp ht had hud hcall hBw
          go_upto_region 14 with fail
          go_region_with (first
            | (go_at_call 24; refine Hcall.out.mono ?_; rintro e w2 ⟨hb2, x1, x3, s2, ok, rfl, hS2, hyes, -⟩))
          all_goals
            have Hb2 := hide (below_step HFj.out ((Below.refl _ _).drew.trans hb2))
            cases ok
            · have Hf : Hid (MoreRPost w s ((false, yn), k) ((false, yn), l) (.returned (.tuple #[.slice none 0 0, .bool false])) w2) :=
                moreR_fails (below_step HB2.out Hb2.out) (Hres.out.trans (ext_none (j := j + 1) Hll.out.symm (Hstep.out.trans hyes)))
              clear hyes hS2 hb2
              go_wp2_with fail
              go_ret2
              exact Hf.out
            · have HS2 := hide hS2
              have Hs2 : Hid (extF (Fo.take (j + 1) k) (Fo.take (j + 1) l) s = some s2) := Hstep.out.trans hyes
              clear hyes hS2 hb2
              go_wp2_with fail
              go_roundw
              case rel => exact ⟨j + 1, s2, x1, x3, by omega, by go_num, rfl, Hs2.out, HS2.out, Hb2.out⟩
              case measure => simp [intOf]; omega
        · have Hf : Hid (MoreRPost w s ((false, yn), k) ((false, yn), l) (.returned (.tuple #[.slice y1 sj.length y3, .bool true])) wr) := by
            refine moreR_holds HBw.out (Hres.out.trans ?_) rfl HOj.out
            have e : j = Fo.len k := by omega
            have := Hex.out
            rw [e, take_all, ← Hll.out, take_all] at this
            exact this
          clear had hud
          go_wp2_with fail
          go_ret2
          exact Hf.out
    · have Hres : Hid (extT s ((false, n), k) ((yv, yn), l) = none) := extT_no hc
      have Hf : Hid (∀ w', Below w.heap.size w w' → MoreRPost w s ((false, n), k) ((yv, yn), l) (.returned (.tuple #[.slice none 0 0, .bool false])) w') := fun w' hb => moreR_fails hb Hres.out
      have Hb : Hid (Below w.heap.size w ((w.alloc (.cells #[.bool false, .int .i64 n, .slice ad (Fo.len k) ac] 33)).alloc (.cells #[.bool yv, .int .i64 yn, .slice ud (Fo.len l) uc] 33))) := (below_alloc _ _).alloc (by simp) _
      cases yv
      · by_cases hn : yn = n
        · have hl : ¬ Fo.len l = Fo.len k := fun e => hc ⟨rfl, hn, e⟩
          have hnb : (yn != n) = false := by simp [hn]
          have hlb : ((Fo.len l : Int) != (Fo.len k : Int)) = true := by simp; omega
          clear hc hn hl
          go_enter Try.func24, Try.ntmps24
          go_wp2_with fail
          go_ret2
          exact Hf.out _ Hb.out
        · have hnb : (yn != n) = true := by simp [hn]
          clear hc hn
          go_enter Try.func24, Try.ntmps24
          go_wp2_with fail
          go_ret2
          exact Hf.out _ Hb.out
      · clear hc
        go_enter Try.func24, Try.ntmps24
        go_wp2_with fail
        go_ret2
        exact Hf.out _ Hb.out
  · clear had hud
    go_enter Try.func24, Try.ntmps24
    go_wp2_with fail
    generalize hW2 : (w.alloc (.cells #[.bool true, .int .i64 n, .slice ad (Fo.len k) ac] 33)).alloc (.cells #[.bool yv, .int .i64 yn, .slice ud (Fo.len l) uc] 33) = W2
    have hs2 : W2.heap.size = w.heap.size + 1 + 1 := by rw [← hW2]; simp
    have hB2 : Below w.heap.size w W2 := by rw [← hW2]; exact (below_alloc _ _).alloc (by simp) _
    have q1 : W2.cell? ⟨w.heap.size, 1, none⟩ = some (.int .i64 n) := by rw [← hW2, World.cell?_alloc_lt _ _ _ (by simp)]; exact new_cell rfl
    have r0 : W2.cell? ⟨w.heap.size + 1, 0, none⟩ = some (.bool yv) := by rw [← hW2]; exact new_cell (World.size_alloc _ _)
    have r1 : W2.cell? ⟨w.heap.size + 1, 1, none⟩ = some (.int .i64 yn) := by rw [← hW2]; exact new_cell (World.size_alloc _ _)
    have r2 : W2.cell? ⟨w.heap.size + 1, 2, none⟩ = some (.slice ud (Fo.len l) uc) := by rw [← hW2]; exact new_cell (World.size_alloc _ _)
    have HR := hide (And.intro q1 (And.intro r0 (And.intro r1 r2)))
    have HB2 := hide hB2
    clear hW2 q1 r0 r1 r2 hB2
    go_loopw [17] (fun i wr => ∃ j : Nat, j ≤ s.length ∧ i = .int .i64 j ∧ (∀ q p, q < j → s[q]? = some p → p.1 ≠ n) ∧ Below W2.heap.size W2 wr) (fun i _ => s.length - (intOf i).toNat)
    case atStart => exact ⟨0, Nat.zero_le _, rfl, fun q p hq => by omega, Below.refl _ _⟩
    case round =>
      obtain ⟨j, hj, rfl, hno, hBr⟩ := hrel
      have Hno := hide hno
      have hBw := below_step HB2.out hBr
      have HBr := hide hBr
      have HBw := hide hBw
      obtain ⟨q1, r0, r1, r2⟩ := HR.out
      have q1' := grow_cell hBr _ _ q1
      have r0' := grow_cell hBr _ _ r0
      have r1' := grow_cell hBr _ _ r1
      have r2' := grow_cell hBr _ _ r2
      have hsr := hBr.size
      clear hno q1 r0 r1 r2 hBr
      by_cases hlt : j < s.length
      · have hlt' : (j : Int) < (s.length : Int) := by omega
        have hj0 : (0 : Int) ≤ (j : Int) := by omega
        obtain ⟨⟨m, ⟨tv, tn⟩, tk⟩, hy⟩ : ∃ y, s[j]? = some y := ⟨s[j], by simp [hlt]⟩
        have hz := hz1 (by omega)
        subst hz
        obtain ⟨c0, c1, c2, yv', c3, hSy⟩ := (HP.out.below hBw).at hy
        have HSy := hide hSy
        obtain ⟨ya, yc, yb, yo, rfl, -, -, -, -⟩ := hSy
        have HUr := hide (HU.out.below hBw)
        have Hnx : Hid (m ≠ n → ∀ q p, q < j + 1 → s[q]? = some p → p.1 ≠ n) := fun h q p hq hp => by
          by_cases e : q = j
          · subst e; rw [hy] at hp; cases hp; exact h
          · exact Hno.out q p (by omega) hp
        have Hlk : Hid (m = n → look s n = some ((tv, tn), tk)) := fun h => by subst h; exact look_first Hno.out hy
        clear hz1 hy hBw
        go_upto_region 5 with fail
        generalize hwa : wr.alloc (.cells #[.int .i64 m, .bool tv, .int .i64 tn, .slice ya (Fo.len tk) yc] 73) = wa
        have a0 : wa.cell? ⟨wr.heap.size, 0, none⟩ = some (.int .i64 m) := by rw [← hwa]; exact new_cell rfl
        have a1 : wa.cell? ⟨wr.heap.size, 1, none⟩ = some (.bool tv) := by rw [← hwa]; exact new_cell rfl
        have a2 : wa.cell? ⟨wr.heap.size, 2, none⟩ = some (.int .i64 tn) := by rw [← hwa]; exact new_cell rfl
        have a3 : wa.cell? ⟨wr.heap.size, 3, none⟩ = some (.slice ya (Fo.len tk) yc) := by rw [← hwa]; exact new_cell rfl
        have hba : Below wr.heap.size wr wa := by rw [← hwa]; exact below_alloc _ _
        have f1 := grow_cell hba _ _ q1'
        have g0 := grow_cell hba _ _ r0'
        have g1 := grow_cell hba _ _ r1'
        have g2 := grow_cell hba _ _ r2'
        have HSa := hide (HSy.out.below hba)
        have HUa := hide (HUr.out.below hba)
        have Hba := hide hba
        clear hwa c0 c1 c2 c3 q1' r0' r1' r2' hba
        by_cases he : m = n
        · have heb : (m == n) = true := by simp [he]
          have Hres : Hid (extT s ((true, n), k) ((yv, yn), l) = if sameT (tv, tn) tk (yv, yn) l then some s else none) := extT_old (Hlk.out he)
          clear he
          go_wp2_with fail
          refine (sameR_any (tv, tn) tk (yv, yn) l _ _ wa HSa.out HUa.out).mono ?_
          rintro e w2 ⟨rfl, hb2⟩
          have Hb2 := hide (below_step HBw.out (below_step Hba.out hb2))
          clear hb2
          cases hsm : sameT (tv, tn) tk (yv, yn) l
          · have Hf : Hid (MoreRPost w s ((true, n), k) ((yv, yn), l) (.returned (.tuple #[.slice (some ⟨sb, so, none⟩) s.length z3, .bool false])) w2) :=
              ⟨Hb2.out, _, _, s, false, rfl, HO.out.below Hb2.out, by rw [Hres.out, hsm], fun _ => .inr rfl⟩
            clear hsm
            go_wp2_with fail
            go_ret2
            exact Hf.out
          · have Hf : Hid (MoreRPost w s ((true, n), k) ((yv, yn), l) (.returned (.tuple #[.slice (some ⟨sb, so, none⟩) s.length z3, .bool true])) w2) :=
              ⟨Hb2.out, _, _, s, true, rfl, HO.out.below Hb2.out, by rw [Hres.out, hsm], fun e => by (cases e)⟩
            clear hsm
            go_wp2_with fail
            go_ret2
            exact Hf.out
        · have heb : (m == n) = false := by simp [he]
          have Hn := hide (Hnx.out he)
          clear he
          go_wp2_with fail
          go_roundw
          case rel => exact ⟨j + 1, by omega, by go_num, Hn.out, below_step HBr.out Hba.out⟩
          case measure => simp [intOf]; omega
      · have Hres : Hid (extT s ((true, n), k) ((yv, yn), l) = some (s ++ [(n, ((yv, yn), l))])) := extT_new (look_all (fun q p hq => Hno.out q p (by omega)))
        obtain ⟨i52, hi52, hz0, hz1', hz2⟩ := info_parts Try.info73
        obtain ⟨news, hCs, hPC⟩ := sub_cells HO.out
        have HCs := hide hCs
        have HPC := hide hPC
        have hn1 : 0 + s.length ≤ maxLen := by unfold maxLen; omega
        have hn2 : (0 + s.length) * 48 ≤ 140737488355328 := by omega
        have hn3 : 0 + s.length + 1 ≤ maxLen := by unfold maxLen; omega
        have hn4 : (0 + s.length + 1) * 48 ≤ 140737488355328 := by omega
        clear hz1 hBw hCs hPC
        have hsw : w.heap.size ≤ wr.heap.size := by omega
        have A1 : Hid ((wr.alloc (.cells #[] 73)).drew.ownsRow w.heap.size 73 4 (.slice (some ⟨wr.heap.size, 0, none⟩) 0 0) 0 []) := own_bare (heap_alloc_new wr _) hsw
        have A2 : Hid (((wr.alloc (.cells #[] 73)).alloc (.cells #[.int .i64 n, .bool yv, .int .i64 yn, .slice ud (Fo.len l) uc] 73)).drew.ownsRow w.heap.size 73 4 (.slice (some ⟨wr.heap.size, 0, none⟩) 0 0) 0 []) := own_bare ((Below.heap_alloc _ _ _ (by simp)).trans (heap_alloc_new wr _)) hsw
        have A3 : Hid (((wr.alloc (.cells #[.int .i64 n, .bool yv, .int .i64 yn, .slice ud (Fo.len l) uc] 73)).alloc (.cells #[] 73)).drew.ownsRow w.heap.size 73 4 (.slice (some ⟨wr.heap.size + 1, 0, none⟩) 0 0) 0 []) := own_bare (by have := heap_alloc_new (wr.alloc (.cells #[.int .i64 n, .bool yv, .int .i64 yn, .slice ud (Fo.len l) uc] 73)) (.cells #[] 73); rw [World.size_alloc] at this; exact this) (by omega)
        have B1 : Hid (Below wr.heap.size wr (wr.alloc (.cells #[] 73)).drew) := (below_alloc _ _).drew
        have B2 : Hid (Below wr.heap.size wr ((wr.alloc (.cells #[] 73)).alloc (.cells #[.int .i64 n, .bool yv, .int .i64 yn, .slice ud (Fo.len l) uc] 73)).drew) := ((below_alloc _ _).alloc (by simp) _).drew
        have B3 : Hid (Below wr.heap.size wr ((wr.alloc (.cells #[.int .i64 n, .bool yv, .int .i64 yn, .slice ud (Fo.len l) uc] 73)).alloc (.cells #[] 73)).drew) := ((below_alloc _ _).alloc (by simp) _).drew
        have M2 : Hid (∀ wA : World, ((wr.alloc (.cells #[] 73)).alloc (.cells #[.int .i64 n, .bool yv, .int .i64 yn, .slice ud (Fo.len l) uc] 73)).drew.grownBy wA (some wr.heap.size) → Cs wA (.slice (some ⟨wr.heap.size + 1, 0, none⟩) 1 1) 1 4 [.int .i64 n, .bool yv, .int .i64 yn, .slice ud (Fo.len l) uc]) := fun wA hg => cs_pair (by
          rw [hg.block (wr.heap.size + 1) (by simp) (by simp)]
          have := heap_alloc_new (wr.alloc (.cells #[] 73)) (.cells #[.int .i64 n, .bool yv, .int .i64 yn, .slice ud (Fo.len l) uc] 73)
          rw [World.size_alloc] at this
          exact this)
        have M3 : Hid (∀ wA : World, ((wr.alloc (.cells #[.int .i64 n, .bool yv, .int .i64 yn, .slice ud (Fo.len l) uc] 73)).alloc (.cells #[] 73)).drew.grownBy wA (some (wr.heap.size + 1)) → Cs wA (.slice (some ⟨wr.heap.size, 0, none⟩) 1 1) 1 4 [.int .i64 n, .bool yv, .int .i64 yn, .slice ud (Fo.len l) uc]) := fun wA hg => cs_pair (by
          rw [hg.block wr.heap.size (by show wr.heap.size < ((wr.alloc _).alloc _).heap.size; rw [size2]; omega) (by simp)]
          exact (Below.heap_alloc _ _ _ (by simp)).trans (heap_alloc_new wr _))
        go_upto_region 8 with fail
        go_region_held3 (fun w' => w'.cell? ⟨w.heap.size, 1, none⟩ = some (.int .i64 n) ∧ w'.cell? ⟨w.heap.size + 1, 0, none⟩ = some (.bool yv) ∧ w'.cell? ⟨w.heap.size + 1, 1, none⟩ = some (.int .i64 yn) ∧ w'.cell? ⟨w.heap.size + 1, 2, none⟩ = some (.slice ud (Fo.len l) uc))
          (first
            | exact ⟨grow_cell BB _ _ q1', grow_cell BB _ _ r0', grow_cell BB _ _ r1', grow_cell BB _ _ r2'⟩
            | exact ⟨grow_cell BA _ _ q1', grow_cell BA _ _ r0', grow_cell BA _ _ r1', grow_cell BA _ _ r2'⟩
            | go_keep)
          (first
            | (refine step_append_gen (by rfl) _ _ _ (by rfl) w.heap.size 73 i52 (.agg #[.int .i64 0, .bool false, .int .i64 0, .slice none 0 0]) 4 48 Try.underlying46 hi52 hz0 hz1' hz2 rfl (by decide) (.slice (some ⟨wr.heap.size, 0, none⟩) 0 0) 0 [] (by rfl) A1.out (.slice z1 s.length z3) s.length news (by rfl) (HCs.out.below (below_step HBw.out B1.out)) hn1 hn2 ?hb ?_; (case hb => simp; omega); intro vA wA hoA hgA hatA; obtain ⟨BA, VA, SA⟩ := vars_row B1.out hgA hatA (by simp [Value.ownBlock]); have Q1 : Hid True := trivial)
            | (refine step_append_gen (by rfl) _ _ _ (by rfl) w.heap.size 73 i52 (.agg #[.int .i64 0, .bool false, .int .i64 0, .slice none 0 0]) 4 48 Try.underlying46 hi52 hz0 hz1' hz2 rfl (by decide) (.slice (some ⟨wr.heap.size, 0, none⟩) 0 0) 0 [] (by rfl) A2.out (.slice z1 s.length z3) s.length news (by rfl) (HCs.out.below (below_step HBw.out B2.out)) hn1 hn2 ?hb ?_; (case hb => simp; omega); intro vA wA hoA hgA hatA; obtain ⟨BA, VA, SA⟩ := vars_row B2.out hgA hatA (by simp [Value.ownBlock]); have Q2 := hide (M2.out wA hgA))
            | (refine step_append_gen (by rfl) _ _ _ (by rfl) w.heap.size 73 i52 (.agg #[.int .i64 0, .bool false, .int .i64 0, .slice none 0 0]) 4 48 Try.underlying46 hi52 hz0 hz1' hz2 rfl (by decide) (.slice (some ⟨wr.heap.size + 1, 0, none⟩) 0 0) 0 [] (by rfl) A3.out (.slice z1 s.length z3) s.length news (by rfl) (HCs.out.below (below_step HBw.out B3.out)) hn1 hn2 ?hb ?_; (case hb => simp; omega); intro vA wA hoA hgA hatA; obtain ⟨BA, VA, SA⟩ := vars_row B3.out hgA hatA (by simp [Value.ownBlock]); have Q3 := hide (M3.out wA hgA))
            | (refine step_append_gen (by rfl) _ _ _ (by rfl) w.heap.size 73 i52 (.agg #[.int .i64 0, .bool false, .int .i64 0, .slice none 0 0]) 4 48 Try.underlying46 hi52 hz0 hz1' hz2 rfl (by decide) vA (0 + s.length) ([] ++ news) (by rfl) ?own (.slice (some ⟨wA.heap.size, 0, none⟩) 1 1) 1 [.int .i64 n, .bool yv, .int .i64 yn, .slice ud (Fo.len l) uc] (by rfl) ?nin hn3 hn4 ?hb ?_; (case own => exact owns_keep hoA (fun g hg => Below.heap_alloc _ _ _ (owns_at hoA g hg).2)); (case nin => exact cs_pair (heap_alloc_new wA _)); (case hb => simp; omega); intro vB wB hoB hgB hatB; have BB := vars_row2 ((BA.alloc BA.size _)) hgB VA)
            | (refine step_append_gen (by rfl) _ _ _ (by rfl) w.heap.size 73 i52 (.agg #[.int .i64 0, .bool false, .int .i64 0, .slice none 0 0]) 4 48 Try.underlying46 hi52 hz0 hz1' hz2 rfl (by decide) vA (0 + s.length) ([] ++ news) (by rfl) hoA _ 1 [.int .i64 n, .bool yv, .int .i64 yn, .slice ud (Fo.len l) uc] (by rfl) Q2.out hn3 hn4 ?hb ?_; (case hb => omega); intro vB wB hoB hgB hatB; have BB := vars_row2 BA hgB VA)
            | (refine step_append_gen (by rfl) _ _ _ (by rfl) w.heap.size 73 i52 (.agg #[.int .i64 0, .bool false, .int .i64 0, .slice none 0 0]) 4 48 Try.underlying46 hi52 hz0 hz1' hz2 rfl (by decide) vA (0 + s.length) ([] ++ news) (by rfl) hoA _ 1 [.int .i64 n, .bool yv, .int .i64 yn, .slice ud (Fo.len l) uc] (by rfl) Q3.out hn3 hn4 ?hb ?_; (case hb => omega); intro vB wB hoB hgB hatB; have BB := vars_row2 BA hgB VA))
        all_goals
          have HBB := hide (below_step HBw.out BB)
          have HSB := hide (pairs_row (s' := [(n, ((yv, yn), l))]) HBB.out HPC.out (PC.one HU.out.toB) hoB)
          obtain ⟨x1, x3, rfl⟩ := slice_of_sub HSB.out
          have Hf : Hid (MoreRPost w s ((true, n), k) ((yv, yn), l) (.returned (.tuple #[.slice x1 (s ++ [(n, ((yv, yn), l))]).length x3, .bool true])) wB) := moreR_holds HBB.out Hres.out rfl HSB.out
          clear hoA hoB hgA hgB hatA hatB BA BB VA SA
          go_wp2_with fail
          go_ret2
          exact Hf.out
end Go.Proofs.Ytlgnpiphaeoeiad

namespace Go.Proofs.Ytlgnpiphaeoeiad
open Go.RowKit Go.Deep Go.ChangeShapes Go.WideShapes
theorem norm_norm : ∀ F : Fo, Fo.norm (Fo.norm F) = Fo.norm F
  | .nil => rfl
  | .node _ _ _ k r => by simp [Fo.norm, norm_norm k, norm_norm r]
def two (t u : Tm) : Fo := .node 0 0 t.1 t.2 (.node 0 0 u.1 u.2 .nil)
theorem four_right {s : List Int} {x : Bool × Int} {k : Fo} (hs : s.all okNum = true) (hk : Fo.norm k = k) (h : wrongF s x k = 0) : ∀ m, occT m (x, k) → m ≤ 4 := fun m hm => by
  have := four_of_right hs h m (by rw [hk]; exact hm)
  exact this.2
theorem gd_right {s : List Int} {x : Bool × Int} {k : Fo} (hs : s.all okNum = true) (hk : Fo.norm k = k) (h : wrongF s x k = 0) : Gd (x, k) ∧ depT (x, k) ≤ 12 ∧ tszR k ≤ 12 := by
  have := gd_of_right hs h
  rwa [hk] at this
end Go.Proofs.Ytlgnpiphaeoeiad

namespace Go.Proofs.Ytlgnpiphaeoeiad
open Go.RowKit Go.Deep Go.ChangeShapes Go.WideShapes
attribute [local go_sem ↓] Go.wp_at_zero Go.wp_at_succ
theorem placesF_pre (q : List Int) : ∀ (F : Fo) (p : List Int) (i : Int), placesF F (q ++ p) i = (placesF F p i).map (q ++ ·)
  | .nil, _, _ => rfl
  | .node _ _ x k r, p, i => by
    have h1 := placesF_pre q k (p ++ [i]) 0
    have h2 := placesF_pre q r p (i + 1)
    simp only [placesF, List.map_append, h2]
    cases x.1
    · simp only [Bool.false_eq_true, if_false, List.map_cons, List.append_assoc] at h1 ⊢
      rw [h1]
    · simp
theorem placesT_pre (q : List Int) (x : Bool × Int) (k : Fo) : placesT x k q = (placesT x k []).map (q ++ ·) := by
  have := placesF_pre q k [] 0
  unfold placesT
  split
  · rfl
  · simp only [List.append_nil] at this
    simp [this]
theorem placesF_plen : ∀ (F : Fo) (q : List Int) (i : Int) (p : List Int), p ∈ placesF F q i → p.length ≤ q.length + Fo.sizesR F
  | .nil, _, _, _, h => by simp [placesF] at h
  | .node _ _ x k r, q, i, p, h => by
    simp only [placesF, List.mem_append] at h
    simp only [Fo.sizesR]
    rcases h with h | h
    · cases hx : x.1 with
      | true => simp [hx] at h
      | false =>
        simp only [hx, Bool.false_eq_true, if_false, List.mem_cons] at h
        rcases h with rfl | h
        · simp; omega
        · have := placesF_plen k _ _ _ h
          simp at this
          omega
    · have := placesF_plen r _ _ _ h
      omega
theorem placesT_plen {x : Bool × Int} {k : Fo} {p : List Int} (h : p ∈ placesT x k []) : p.length ≤ tszR k := by
  unfold placesT at h
  unfold tszR
  split at h
  · simp at h
  · simp only [List.mem_cons] at h
    rcases h with rfl | h
    · simp
    · have := placesF_plen k _ _ _ h
      simp at this
      omega
theorem pl_step {B0 : Nat} {wr wA w3 : World} {vj v' v3 : Value} {ys : List Value} {Q : List (List Int)} {j : Int} {p : List Int} {g : Nat} {ob ob2 : Obj} (ho : wr.ownsRow B0 22 1 vj ys.length ys) (hP : Pw wr B0 vj.ownBlock ys Q)
    (hoA : wA.ownsRow B0 3 1 v' (1 + p.length) ([.int .i64 j] ++ vals p)) (hgA : (wr.alloc ob).grownBy wA (some wr.heap.size)) (hatA : v'.ownBlock = some wr.heap.size ∨ v'.ownBlock = some (wr.alloc ob).heap.size)
    (hv3 : v3.ownBlock = some g) (hg3 : (wA.alloc ob2).grownBy w3 vj.ownBlock) (hat3 : vj.ownBlock = some g ∨ g = wA.heap.size + 1) :
    Pw w3 B0 v3.ownBlock (ys ++ [v']) (Q ++ [j :: p]) ∧ Fr wr w3 vj.ownBlock none := by
  have s1 := hgA.size
  have s3 := hg3.size
  simp at s1 s3
  have hfr : Fr wr w3 vj.ownBlock none := by
    refine ⟨by rw [hg3.os]; exact hgA.os, by rw [hg3.tape]; exact hgA.tape, by rw [hg3.output]; exact hgA.output, by omega, fun q hq h1 _ => ?_⟩
    rw [hg3.block q (by simp; omega) h1, Below.heap_alloc _ _ _ (by omega), hgA.block q (by simp; omega) (by simp; omega), Below.heap_alloc _ _ _ hq]
  have hvb : ∀ h, v'.ownBlock = some h → wr.heap.size ≤ h ∧ h < wA.heap.size := fun h hh => by
    refine ⟨?_, (owns_at hoA h hh).2⟩
    rcases hatA with e | e
    · rw [e] at hh; simp at hh; omega
    · rw [e] at hh; simp at hh; omega
  refine ⟨Pw.append (Pw.keep hP hfr (fun q _ q2 q3 => ⟨q3, fun e => (by cases e), ?_⟩) (Nat.le_refl _)) ⟨rfl, fun i y q hy hq => ?_⟩, hfr⟩
  · rw [hv3]
    intro e
    simp at e
    subst e
    rcases hat3 with e | e
    · exact q3 e.symm
    · omega
  · have : i = 0 := by
      have := (List.getElem?_eq_some_iff.1 hy).1
      simpa using this
    subst this
    simp only [List.getElem?_cons_zero, Option.some.injEq] at hy hq
    subst hy hq
    refine ⟨?_, fun h hh => ?_⟩
    · have : w3.ownsRow B0 3 1 v' (1 + p.length) ([.int .i64 j] ++ vals p) := owns_keep hoA (fun h hh => by
        have hb := hvb h hh
        rw [hg3.block h (by simp; omega) (fun e => by have := (owns_at ho _ e.symm).2; omega), Below.heap_alloc _ _ _ hb.2])
      rw [show (j :: p).length = 1 + p.length by simp; omega]
      exact this
    · rw [hv3]
      intro e
      simp at e
      subst e
      have hb := hvb _ hh
      rcases hat3 with e | e
      · have := (owns_at ho _ e).2; omega
      · omega
theorem box_grown {w w3 : World} {x y z : Value} {T : TypeId} {o1 o2 : Obj} (hg : (((w.alloc (.cells #[x, y, z] T)).alloc o1).alloc o2).grownBy w3 (Value.slice none 0 0).ownBlock) : w3.cell? ⟨w.heap.size, 2, none⟩ = some z := by
  rw [hg.cell_far ⟨w.heap.size, 2, none⟩ (by show w.heap.size < _; rw [size3]; omega) (by simp [Value.ownBlock]), World.cell?_alloc_lt _ _ _ (by show w.heap.size < _; rw [size2]; omega), World.cell?_alloc_lt _ _ _ (by simp)]
  simp
theorem pl_out {B0 : Nat} {wr wA : World} {ob ob2 : Obj} {vj : Value} {n : Nat} {ys : List Value} (ho : wr.ownsRow B0 22 1 vj n ys) (hgA : (wr.alloc ob).grownBy wA (some wr.heap.size)) : (wA.alloc ob2).ownsRow B0 22 1 vj n ys :=
  owns_keep ho (fun g hg => by
    have h1 := (owns_at ho g hg).2
    have h2 := hgA.size
    simp at h2
    rw [Below.heap_alloc _ _ _ (by omega), hgA.block g (by simp; omega) (by simp; omega), Below.heap_alloc _ _ _ h1])
theorem pl_news (w : World) (v : Value) : ∀ j u, [v][j]? = some u → (w.alloc (.cells #[v] 22)).cell? ((⟨w.heap.size, 0, none⟩ : Addr).add j) = some u :=
  World.news_of_block (cs := #[v]) (heap_alloc_new w _)
def PlIn (B0 lo1 hi1 : Nat) (W0 w1 : World) (L Z : List (List Int)) (j : Int) (m : Nat) (wr : World) (vj : Value) : Prop :=
  ∃ ys, wr.ownsRow B0 22 1 vj ys.length ys ∧ Pw wr B0 vj.ownBlock ys (L ++ (Z.take m).map (j :: ·)) ∧ Below B0 W0 wr ∧ (∀ g, vj.ownBlock = some g → g < lo1 ∨ hi1 ≤ g) ∧ (∀ q, lo1 ≤ q → q < hi1 → wr.heap[q]? = w1.heap[q]?) ∧ hi1 ≤ wr.heap.size
def PlacesRSaid (x : Bool × Int) (k : Fo) : Prop := ∀ (a : Value) (w : World), SIn w k a → tszR k ≤ 9000 →
    Calls Try.prog 27 #[.agg #[.bool x.1, .int .i64 x.2, a]] w fun e w' => ∃ vo ys, e = .returned vo ∧ w'.ownsRow w.heap.size 22 1 vo ys.length ys ∧ Pw w' w.heap.size vo.ownBlock ys (placesT x k []) ∧ Below w.heap.size w w'
set_option maxHeartbeats 1000000 in
set_option maxRecDepth 100000 in
theorem placesR_any (x : Bool × Int) (k : Fo) : PlacesRSaid x k := by
  refine Fo.ind1 (p := PlacesRSaid) ?_ x k
  clear x k
  intro x k ih a w hS hb
  obtain ⟨xv, xn⟩ := x
  have HI := hide ih
  obtain ⟨ad, c, b, o, rfl, had, hlc, hcm, hF⟩ := hS
  have HF := hide hF
  unfold maxLen at hcm
  obtain ⟨i22, hi22, hz0, hz1, hz2⟩ := info_parts Try.info22
  clear ih hF
  cases xv
  · have Htt : Hid (placesT (false, xn) k [] = plTo k [] (Fo.len k)) := by rw [Hid, plTo_end]; rfl
    have Hnews : Hid (∀ j u, [Value.slice (some ⟨w.heap.size + 1, 0, none⟩) 0 0][j]? = some u → (((w.alloc (.cells #[.bool false, .int .i64 xn, .slice ad (Fo.len k) c] 33)).alloc (.cells #[] 3)).alloc (.cells #[.slice (some ⟨w.heap.size + 1, 0, none⟩) 0 0] 22)).cell? ((⟨w.heap.size + 2, 0, none⟩ : Addr).add j) = some u) := by
      have h := World.news_of_block (cs := #[.slice (some ⟨w.heap.size + 1, 0, none⟩) 0 0]) (heap_alloc_new ((w.alloc (.cells #[.bool false, .int .i64 xn, .slice ad (Fo.len k) c] 33)).alloc (.cells #[] 3)) (.cells #[.slice (some ⟨w.heap.size + 1, 0, none⟩) 0 0] 22))
      intro j u hu
      have := h j u hu
      rw [size2] at this
      exact this
    have hn1 : 0 + 1 ≤ maxLen := by unfold maxLen; omega
    have hn2 : (0 + 1) * 24 ≤ 140737488355328 := by omega
    go_enter Try.func27, Try.ntmps27
    go_wp2_with (at_builtin; refine wpList_append_lies _ rfl (.tmp 10) (.tmp 12) 59 rfl (w.heap.size + 1) 22 i22 (.slice none 0 0) 1 24 Try.underlying59 hi22 hz0 hz1 hz2 rfl (by decide) (.slice none 0 0) 0 [] rfl ⟨rfl, .inl ⟨rfl, rfl⟩⟩ ⟨w.heap.size + 2, 0, none⟩ 1 1 [.slice (some ⟨w.heap.size + 1, 0, none⟩) 0 0] rfl rfl Hnews.out (by simp [Value.oneCell']) (by decide) hn1 hn2 (by rw [size3]; omega) (w.heap.size + 3) (by rw [size3]) ?_; intro g cap w3 ho3 hg3 hat3 hlt3; have x2 := box_grown hg3)
    have hb3 : Below (w.heap.size + 1) (w.alloc (.cells #[.bool false, .int .i64 xn, .slice ad (Fo.len k) c] 33)) w3 := (((Below.refl _ _).alloc (by simp) _).alloc (by simp) _).grown hg3 (by rw [size3]; omega) (fun g hg => by simp [Value.ownBlock] at hg)
    have hP3 : Pw w3 (w.heap.size + 1) (some g) [.slice (some ⟨w.heap.size + 1, 0, none⟩) 0 0] (plTo k [] 0) := by
      refine ⟨by simp [plTo, Fo.take, placesF], fun i y q hy hq => ?_⟩
      have : i = 0 := by
        have := (List.getElem?_eq_some_iff.1 hy).1
        simpa using this
      subst this
      have hq' : q = [] := by
        simp [plTo] at hq
        exact hq
      simp only [List.getElem?_cons_zero, Option.some.injEq] at hy
      subst hy hq'
      refine ⟨own_empty ?_ (Nat.le_refl _), fun h hh => ?_⟩
      · rw [hg3.block (w.heap.size + 1) (by rw [size3]; omega) (by simp [Value.ownBlock]), Below.heap_alloc _ _ _ (by rw [size2]; omega)]
        have := heap_alloc_new (w.alloc (.cells #[.bool false, .int .i64 xn, .slice ad (Fo.len k) c] 33)) (.cells #[] 3)
        rw [World.size_alloc] at this
        exact this
      · simp [Value.ownBlock] at hh
        rcases hat3 with e | e
        · simp [Value.ownBlock] at e
        · simp; omega
    have Ho3 : Hid (w3.ownsRow (w.heap.size + 1) 22 1 (.slice (some ⟨g, 0, none⟩) 1 cap) 1 [.slice (some ⟨w.heap.size + 1, 0, none⟩) 0 0]) := hide (by simpa using ho3)
    have HP3 := hide hP3
    have Hb3 := hide hb3
    clear ho3 hg3 hat3 hlt3 hb3 hP3 Hnews x2
    go_loopw [3, 17] (fun v i wr => ∃ (j : Nat) (ys : List Value) (z1 : Option Addr) (z3 : Nat), j ≤ Fo.len k ∧ i = .int .i64 j ∧ v = .slice z1 ys.length z3 ∧ wr.ownsRow (w.heap.size + 1) 22 1 (.slice z1 ys.length z3) ys.length ys ∧ Pw wr (w.heap.size + 1) (Value.slice z1 ys.length z3).ownBlock ys (plTo k [] j) ∧ Below (w.heap.size + 1) (w.alloc (.cells #[.bool false, .int .i64 xn, .slice ad (Fo.len k) c] 33)) wr) (fun _ i _ => Fo.len k - (intOf i).toNat)
    case atStart => exact ⟨0, _, _, _, Nat.zero_le _, rfl, rfl, Ho3.out, HP3.out, Hb3.out⟩
    case round =>
      obtain ⟨j, ys, z1, z3, hj, rfl, rfl, hor, hPr, hBx⟩ := hrel
      obtain ⟨-, -, t2, hBr, hlt0⟩ := box_cells hBx
      have Hor := hide hor
      have HPr := hide hPr
      have HBx := hide hBx
      clear hor hPr hBx Ho3 HP3 Hb3
      by_cases hlt : j < Fo.len k
      · have hlt' : (j : Int) < (Fo.len k : Int) := by omega
        obtain ⟨⟨⟨yv, yn⟩, yk⟩, hy⟩ : ∃ y, k.list[j]? = some y := ⟨k.list[j]'(by rw [Fo.len_list]; exact hlt), by simp⟩
        obtain ⟨c0, c1, yv', c2, hSy⟩ := (HF.out.below hBr).at hy
        have HSy := hide hSy
        obtain ⟨ya, yc, yb, yo, rfl, -, -, -, -⟩ := hSy
        have ha : ad = some ⟨b, o, none⟩ := had (by omega)
        subst ha
        have hsz : 1 + Fo.sizesR (Fo.take j k) + tszR yk ≤ 9000 := by
          have h2 := sizesR_take j k
          rw [hy] at h2
          simp only at h2
          unfold tszR at hb h2 ⊢
          omega
        have Hy := hide hy
        have hbk : tszR yk ≤ 9000 := by omega
        clear hy had
        go_wp2_with fail
        refine (HI.out ((yv, yn), yk) (List.mem_of_getElem? Hy.out) _ _ HSy.out hbk).mono ?_
        rintro e w1 ⟨vs, zs, rfl, hos, hPs, hb1⟩
        obtain ⟨s1, s3, rfl⟩ := slice_of_owns hos
        have hs1 := hb1.size
        have Hos := hide hos
        have HPs := hide hPs
        have Hb1 := hide hb1
        obtain ⟨Z, hZ⟩ : ∃ Z, Z = placesT (yv, yn) yk [] := ⟨_, rfl⟩
        have HZ := hide hZ
        have Hin : Hid (PlIn (w.heap.size + 1) wr.heap.size w1.heap.size (w.alloc (.cells #[.bool false, .int .i64 xn, .slice (some ⟨b, o, none⟩) (Fo.len k) c] 33)) w1 (plTo k [] j) Z j 0 w1 (.slice z1 ys.length z3)) :=
          ⟨ys, owns_keep Hor.out (fun g hg => hb1.block g (owns_at Hor.out g hg).2), by simpa using Pw.keep HPr.out (Fr.of_below hb1 none none) (fun q _ q2 q3 => ⟨fun e => (by cases e), fun e => (by cases e), q3⟩) (Nat.le_refl _), HBx.out.trans (hb1.mono (by omega)), fun g hg => .inl (owns_at Hor.out g hg).2, fun q _ _ => rfl, Nat.le_refl _⟩
        have hZl : zs.length = Z.length := by rw [HZ.out]; exact HPs.out.1
        have HZl := hide hZl
        have hzb : zs.length ≤ 9000 := by
          have h3 := placesT_len (yv, yn) yk []
          rw [← HZ.out] at h3
          omega
        have Hlen : Hid (∀ (m : Nat) (ys : List Value) (wq : World) (gq : Option Nat), Pw wq (w.heap.size + 1) gq ys (plTo k [] j ++ (Z.take m).map ((j : Int) :: ·)) → ys.length ≤ 9000) := fun m ys wq gq h => by
          have h1 := h.1
          have h2 := placesF_len (Fo.take j k) [] 0
          have h3 := placesT_len (yv, yn) yk []
          have h4 : (Z.take m).length ≤ Z.length := by rw [List.length_take]; omega
          rw [List.length_append, List.length_map, plTo, List.length_cons] at h1
          rw [← HZ.out] at h3
          omega
        have Hpl : Hid (∀ p ∈ Z, (1 + p.length) * 8 ≤ 140737488355328) := fun p hp => by
          have := placesT_plen (x := (yv, yn)) (k := yk) (p := p) (by rw [← HZ.out]; exact hp)
          omega
        have Hnx : Hid (plTo k [] j ++ (Z.take zs.length).map ((j : Int) :: ·) = plTo k [] (j + 1)) := by
          rw [Hid, plTo_succ Hy.out, placesT_pre, ← HZ.out, HZl.out, List.take_length]
          simp
        clear hos hPs hb1 hZ t2 c0 c1 c2 hZl
        generalize wr = wo at *
        go_wp2_with fail
        go_loopw [3, 27] (fun v i wr => ∃ (m : Nat) (l : Nat) (z1 : Option Addr) (z3 : Nat), m ≤ zs.length ∧ i = .int .i64 m ∧ v = .slice z1 l z3 ∧ PlIn (w.heap.size + 1) wo.heap.size w1.heap.size (w.alloc (.cells #[.bool false, .int .i64 xn, .slice (some ⟨b, o, none⟩) (Fo.len k) c] 33)) w1 (plTo k [] j) Z j m wr (.slice z1 l z3)) (fun _ i _ => zs.length - (intOf i).toNat)
        case atStart => exact ⟨0, _, _, _, Nat.zero_le _, rfl, rfl, Hin.out⟩
        case round =>
          obtain ⟨m, l, y1, y3, hm, rfl, rfl, hin⟩ := hrel
          have Hin2 := hide hin
          clear Hin hin
          by_cases hmt : m < zs.length
          · have hmt' : (m : Int) < (zs.length : Int) := by omega
            have hm0 : (0 : Int) ≤ (m : Int) := by omega
            obtain ⟨us, hou, hPu, hBu, hnu, hku, hsu⟩ := Hin2.out
            obtain ⟨gs, caps, hform, hgs1, hgs2⟩ := Hos.out.form (by omega)
            simp only [Value.slice.injEq, true_and] at hform
            obtain ⟨rfl, rfl⟩ := hform
            obtain ⟨pv, hpv⟩ : ∃ pv, zs[m]? = some pv := ⟨zs[m], by simp [hmt]⟩
            obtain ⟨p, hp⟩ : ∃ p, Z[m]? = some p := ⟨Z[m]'(by rw [← HZl.out]; exact hmt), by simp⟩
            have hpo := (HPs.out.2 m pv p hpv (by rw [← HZ.out]; exact hp)).1
            have hcell : wr.cell? ⟨gs, m, none⟩ = some pv := by
              rw [World.cell?_of_block (w := w1) (hku gs hgs1 hgs2), Hos.out.cellAt m (by omega), hpv]
            have HNp : Hid (NIn wr p pv) := own_nin (owns_keep hpo (fun g hg => by
              have h1 := owns_at hpo g hg
              exact hku g h1.1 h1.2))
            obtain ⟨p1, p3, rfl⟩ := nin_slice HNp.out
            have hlu : us.length = l := by
              obtain ⟨_, _, e⟩ := slice_of_owns hou
              simp only [Value.slice.injEq] at e
              exact e.2.1.symm
            subst hlu
            have hul := Hlen.out m us wr _ hPu
            have hpb := Hpl.out p (List.mem_of_getElem? hp)
            have Hou := hide hou
            have HPu := hide hPu
            have HBu := hide hBu
            have Hnu := hide hnu
            have Hku := hide hku
            have Hp := hide hp
            have hBs : w.heap.size + 1 ≤ wr.heap.size := by omega
            have Hown1 : Hid ((wr.alloc (.cells #[.int .i64 j] 3)).ownsRow (w.heap.size + 1) 3 1 (.slice (some ⟨wr.heap.size, 0, none⟩) 1 1) 1 [.int .i64 j]) := World.ownsRow_lit wr #[.int .i64 j] 1 hBs (by unfold maxLen; omega) rfl
            have Hn1 := hide (HNp.out.alloc (.cells #[.int .i64 j] 3))
            have hn1 : us.length + 1 ≤ maxLen := by unfold maxLen; omega
            have hn2 : (us.length + 1) * 24 ≤ 140737488355328 := by omega
            clear hou hPu hBu hnu hku hp hpv hpo
            go_wp2_with (first
              | (at_builtin; refine wpList_append_nums rfl (.tmp 33) (.tmp 34) rfl (w.heap.size + 1) (.slice (some ⟨wr.heap.size, 0, none⟩) 1 1) 1 [.int .i64 j] rfl Hown1.out p (.slice p1 p.length p3) rfl Hn1.out hpb (by simp; omega) ?_; intro vA wA hoA hgA hatA; obtain ⟨q1, q3, hvA⟩ := slice_of_owns hoA; subst hvA; have Hout := hide (pl_out (ob2 := .cells #[.slice q1 (1 + p.length) q3] 22) Hou.out hgA); have HnA := hide (pl_news wA (.slice q1 (1 + p.length) q3)); have hsA := hgA.size)
              | (at_builtin; refine wpList_append_lies _ rfl (.tmp 31) (.tmp 36) 59 rfl (w.heap.size + 1) 22 i22 (.slice none 0 0) 1 24 Try.underlying59 hi22 hz0 hz1 hz2 rfl (by decide) (.slice y1 us.length y3) us.length us rfl Hout.out ⟨wA.heap.size, 0, none⟩ 1 1 [.slice q1 (1 + p.length) q3] rfl rfl HnA.out (by simp [Value.oneCell']) (by decide) hn1 hn2 (by simp at hsA ⊢; omega) (wA.heap.size + 1) (by simp) ?_; intro g cap w3 ho3 hg3 hat3 hlt3))
            have Hstep := hide (pl_step (v3 := .slice (some ⟨g, 0, none⟩) (us.length + 1) cap) Hou.out HPu.out hoA hgA hatA rfl hg3 hat3)
            have Ho3 := hide ho3
            have Hg3 := hide hg3
            have Hat3 := hide hat3
            have HgA := hide hgA
            clear hoA hgA hatA ho3 hg3 hat3 hlt3
            go_roundw
            case rel =>
              refine ⟨m + 1, us.length + 1, _, _, by omega, by go_num, rfl, us ++ [.slice q1 (1 + p.length) q3], by simpa using Ho3.out, ?_, ?_, ?_, ?_, ?_⟩
              · have h := Hstep.out.1
                rw [List.take_add_one, Hp.out]
                simpa using h
              · exact HBu.out.trans (Hstep.out.2.below hBs (fun g hg => (owns_at Hou.out g hg).1) (fun g hg => by cases hg))
              · intro g' hg'
                simp [Value.ownBlock] at hg'
                subst hg'
                rcases Hat3.out with e | e
                · exact Hnu.out _ e
                · have := HgA.out.size
                  simp at this
                  exact .inr (by omega)
              · intro q h1 h2
                rw [Hstep.out.2.block q (by omega) (fun e => by rcases Hnu.out q e.symm with h | h; omega; omega) (fun e => by cases e)]
                exact Hku.out q h1 h2
              · have := Hstep.out.2.size
                omega
            case measure => simp [intOf]; omega
          · have Hend : Hid (PlIn (w.heap.size + 1) wo.heap.size w1.heap.size (w.alloc (.cells #[.bool false, .int .i64 xn, .slice (some ⟨b, o, none⟩) (Fo.len k) c] 33)) w1 (plTo k [] j) Z j zs.length wr (.slice y1 l y3)) := by
              have e : m = zs.length := by omega
              rw [← e]; exact Hin2.out
            go_wp2_with fail
            go_roundw
            case rel =>
              obtain ⟨us, hou, hPu, hBu, hnu, hku, hsu⟩ := Hend.out
              obtain ⟨y1', y3', e⟩ := slice_of_owns hou
              simp only [Value.slice.injEq] at e
              obtain ⟨rfl, rfl, rfl⟩ := e
              rw [Hnx.out] at hPu
              exact ⟨j + 1, us, _, _, by omega, by go_num, rfl, hou, hPu, hBu⟩
            case measure => simp [intOf]; omega
      · have Hend : Hid (plTo k [] j = placesT (false, xn) k []) := by
          have e : j = Fo.len k := by omega
          rw [Hid, e, Htt.out]
        clear had
        go_wp2_with fail
        go_ret
        refine ⟨_, ys, rfl, owns_mono Hor.out (by omega), ?_, hBr⟩
        rw [← Hend.out]
        exact Pw.keep HPr.out (Fr.refl wr none none) (fun q _ _ q3 => ⟨fun e => (by cases e), fun e => (by cases e), q3⟩) (by omega)
  · have Htt : Hid (placesT (true, xn) k [] = []) := rfl
    go_enter Try.func27, Try.ntmps27
    go_wp2_with fail
    go_ret
    refine ⟨_, [], rfl, ⟨rfl, .inl ⟨rfl, rfl⟩⟩, ?_, below_alloc _ _⟩
    rw [Htt.out]
    exact ⟨rfl, fun i y q hy => by simp at hy⟩
end Go.Proofs.Ytlgnpiphaeoeiad
