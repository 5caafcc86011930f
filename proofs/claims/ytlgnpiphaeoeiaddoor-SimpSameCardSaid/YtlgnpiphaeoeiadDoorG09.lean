/- CM5 RGen RMore MatchP RPlaces RText -/
import Derived.Test.YtlgnpiphaeoeiadDoorG08
import Derived.Deep.LoopGhost
namespace Go.Proofs.YtlgnpiphaeoeiadDoor
open Go.RowKit Go.Deep Go.ChangeShapes Go.WideShapes
theorem sig_few {s : List Int} : ∀ {F : Fo}, sigF s F → ∀ m, occF m F → 0 ≤ m ∧ m ≤ 4
  | .nil, _, m, h => by simp [occF] at h
  | .node p q (b, n) k r, h, m, hm => by
    rw [occF] at hm
    rcases hm with hm | hm
    · cases b with
      | true =>
        obtain ⟨_, h0, h4⟩ := alone_var h.1.1
        have : n = m := by simpa using hm
        omega
      | false => exact sig_few h.1.2 m (by simpa using hm)
    · exact sig_few h.2 m hm
theorem sig_fewT {s : List Int} {t : Tm} (h : sigT s t) : ∀ m, occT m t → 0 ≤ m ∧ m ≤ 4 := fun m hm => by
  refine sig_few (F := .node 0 0 t.1 t.2 .nil) ⟨h, trivial⟩ m ?_
  rw [occ_mem]
  exact ⟨t, by simp [Fo.list], hm⟩
theorem sigC_vars {s : List Int} {c : Cl} (h : ∀ l ∈ c, sigT s l.2.1 ∧ sigT s l.2.2) : (∀ n ∈ varsC c [], 0 ≤ n ∧ n ≤ 4) ∧ (varsC c []).length ≤ 5 := by
  have key : ∀ n ∈ varsC c [], 0 ≤ n ∧ n ≤ 4 := fun n hn => by
    rcases varsC_mem.1 hn with hn | ⟨l, hl, hn⟩
    · cases hn
    · rcases hn with hn | hn
      · exact sig_fewT (h l hl).1 n hn
      · exact sig_fewT (h l hl).2 n hn
  refine ⟨key, nodup_le (m := [0, 1, 2, 3, 4]) (varsC_nodup List.nodup_nil) (fun x hx => ?_)⟩
  have := key x hx
  simp
  omega
end Go.Proofs.YtlgnpiphaeoeiadDoor

namespace Go.Proofs.YtlgnpiphaeoeiadDoor
open Go.RowKit Go.Deep Go.ChangeShapes Go.WideShapes
def Cs (w : World) (lv : Value) (m size : Nat) (news : List Value) : Prop :=
  ∃ (a : Option Addr) (c : Nat), lv = .slice a m c ∧ news.length = m * size ∧ (∀ u ∈ news, u.oneCell' = true) ∧ (a = none → m = 0) ∧ ∀ ad, a = some ad → ∀ j u, news[j]? = some u → w.cell? (ad.add j) = some u
theorem append_nothing {w : World} (base : Nat) (t ty e : TypeId) (i : TypeInfo) (size : Nat) (ht : Tryd.prog.underlying t = some (.slice e)) (hi : Tryd.prog.info? e = some i) (v : Value) (n c : Nat) (xs : List Value) (hown : w.ownsRow base e size v n xs) :
    (Builtin.append_ #[t, t] ty #[v, .slice none 0 c]).run Tryd.prog w = .ok v w := by
  rcases hown.2 with ⟨rfl, rfl⟩ | ⟨g, cap, cur, rfl, _, _, hnc, _⟩
  · simp [Builtin.append_, run_underlying ht, sizeOf, typeInfo, hi, Builtin.lenOf, Builtin.firstCells]
  · simp [Builtin.append_, run_underlying ht, sizeOf, typeInfo, hi, Builtin.lenOf, Builtin.firstCells, hnc, storeCells]
theorem run_append_gen {w : World} (base : Nat) (t ty e : TypeId) (i : TypeInfo) (z : Value) (size bytes : Nat) (ht : Tryd.prog.underlying t = some (.slice e)) (hi : Tryd.prog.info? e = some i) (hz : i.zero = some z) (hsize : i.size = size) (hby : i.bytes = bytes) (hzs : z.cells.size = size) (hsz : 0 < size)
    (v : Value) (n : Nat) (xs : List Value) (hown : w.ownsRow base e size v n xs) (lv : Value) (m : Nat) (news : List Value) (hC : Cs w lv m size news) (h63 : n + m ≤ maxLen) (hb : (n + m) * bytes ≤ 140737488355328) (hbase : base ≤ w.heap.size) :
    ∃ v' w', (Builtin.append_ #[t, t] ty #[v, lv]).run Tryd.prog w = .ok v' w' ∧ w'.ownsRow base e size v' (n + m) (xs ++ news) ∧ w.grownBy w' v.ownBlock ∧ (v'.ownBlock = v.ownBlock ∨ v'.ownBlock = some w.heap.size) := by
  obtain ⟨a, c, rfl, hl, h1, h0, hc⟩ := hC
  cases a with
  | none =>
    have hm := h0 rfl
    subst hm
    have hn : news = [] := List.length_eq_zero_iff.1 (by rw [hl]; simp)
    subst hn
    exact ⟨v, w, append_nothing base t ty e i size ht hi v n c xs hown, by simpa using hown, ⟨rfl, rfl, rfl, Nat.le_refl _, fun _ _ _ => rfl⟩, .inl rfl⟩
  | some ad =>
    obtain ⟨v', w', hr, h2, h3, _, h5⟩ := run_append_own_at (P := Tryd.prog) w base t ty e i z size bytes ht hi hz hsize hby hzs hsz v n xs hown ad m c news hl (hc ad rfl) h1 h63 hb hbase
    exact ⟨v', w', hr, h2, h3, h5⟩
theorem wp_append_gen {w : World} {o : Oper} {a : Act} {K : Act → World → Prop} {Q : Exit → Act → World → Prop} (s x : Operand) (t : TypeId)
    (ho : o.op = .call { callee := .builtin .append, args := #[s, x], argTypes := #[t, t] }) (base : Nat) (e : TypeId) (i : TypeInfo) (z : Value) (size bytes : Nat) (ht : Tryd.prog.underlying t = some (.slice e)) (hi : Tryd.prog.info? e = some i) (hz : i.zero = some z) (hsize : i.size = size) (hby : i.bytes = bytes) (hzs : z.cells.size = size) (hsz : 0 < size)
    (v : Value) (n : Nat) (xs : List Value) (hs : a.eval s = v) (hown : w.ownsRow base e size v n xs) (lv : Value) (m : Nat) (news : List Value) (hx : a.eval x = lv) (hC : Cs w lv m size news) (h63 : n + m ≤ maxLen) (hb : (n + m) * bytes ≤ 140737488355328) (hbase : base ≤ w.heap.size)
    (h : ∀ v' w', w'.ownsRow base e size v' (n + m) (xs ++ news) → w.grownBy w' v.ownBlock → (v'.ownBlock = v.ownBlock ∨ v'.ownBlock = some w.heap.size) → K (a.put o.dst v') w') : o.wp Tryd.prog a w K Q := by
  obtain ⟨v', w', hr, h2, h3, h4⟩ := run_append_gen base t o.type e i z size bytes ht hi hz hsize hby hzs hsz v n xs hown lv m news hC h63 hb hbase
  unfold Oper.wp execOp
  simp only [ho, resolve, invoke, builtin, Sem.run_bind, Sem.run_pure, Result.andThen_ok, List.map_toArray, List.map_cons, List.map_nil, hs, hx, hr]
  exact h v' w' h2 h3 h4
theorem wpList_append_gen {w : World} {ops : Array Oper} {rest : List Oper} {o : Oper} {a : Act} {Q : Exit → Act → World → Prop} (hgd : o.guard = none) (s x : Operand) (t : TypeId)
    (ho : o.op = .call { callee := .builtin .append, args := #[s, x], argTypes := #[t, t] }) (base : Nat) (e : TypeId) (i : TypeInfo) (z : Value) (size bytes : Nat) (ht : Tryd.prog.underlying t = some (.slice e)) (hi : Tryd.prog.info? e = some i) (hz : i.zero = some z) (hsize : i.size = size) (hby : i.bytes = bytes) (hzs : z.cells.size = size) (hsz : 0 < size)
    (v : Value) (n : Nat) (xs : List Value) (hs : a.eval s = v) (hown : w.ownsRow base e size v n xs) (lv : Value) (m : Nat) (news : List Value) (hx : a.eval x = lv) (hC : Cs w lv m size news) (h63 : n + m ≤ maxLen) (hb : (n + m) * bytes ≤ 140737488355328) (hbase : base ≤ w.heap.size)
    (h : ∀ v' w', w'.ownsRow base e size v' (n + m) (xs ++ news) → w.grownBy w' v.ownBlock → (v'.ownBlock = v.ownBlock ∨ v'.ownBlock = some w.heap.size) → wpList Tryd.prog ops Q rest (a.put o.dst v') w') : wpList Tryd.prog ops Q (o :: rest) a w :=
  wpList_plain hgd fun _ hK => wp_append_gen s x t ho base e i z size bytes ht hi hz hsize hby hzs hsz v n xs hs hown lv m news hx hC h63 hb hbase fun v' w' h2 h3 h4 => hK _ _ (h v' w' h2 h3 h4)
end Go.Proofs.YtlgnpiphaeoeiadDoor

namespace Go.Proofs.YtlgnpiphaeoeiadDoor
open Go.RowKit Go.Deep Go.ChangeShapes Go.WideShapes
attribute [local go_sem ↓] Go.wp_at_zero Go.wp_at_succ
theorem Cs.below {w w' : World} {lv : Value} {m size : Nat} {news : List Value} (h : Cs w lv m size news) (hb : Below w.heap.size w w') : Cs w' lv m size news := by
  obtain ⟨a, c, h1, h2, h3, h4, h5⟩ := h
  exact ⟨a, c, h1, h2, h3, h4, fun ad e j u hj => grow_cell hb _ _ (h5 ad e j u hj)⟩
end Go.Proofs.YtlgnpiphaeoeiadDoor

namespace Go.Proofs.YtlgnpiphaeoeiadDoor
open Go.RowKit Go.Deep Go.ChangeShapes Go.WideShapes
theorem norm_norm : ∀ F : Fo, Fo.norm (Fo.norm F) = Fo.norm F
  | .nil => rfl
  | .node _ _ _ k r => by simp [Fo.norm, norm_norm k, norm_norm r]
def two (t u : Tm) : Fo := .node 0 0 t.1 t.2 (.node 0 0 u.1 u.2 .nil)
theorem four_right {s : List Int} {x : Bool × Int} {k : Fo} (hs : s.all okNum = true) (hk : Fo.norm k = k) (h : wrongF s x k = 0) : ∀ m, occT m (x, k) → m ≤ 4 := fun m hm => by
  have := four_of_right hs h m (by rw [hk]; exact hm)
  exact this.2
theorem gd_right {s : List Int} {x : Bool × Int} {k : Fo} (hs : s.all okNum = true) (hk : Fo.norm k = k) (h : wrongF s x k = 0) : Gd (x, k) ∧ depT (x, k) ≤ 12 ∧ tszR k ≤ 12 := by
  have := gd_of_right hs h
  rwa [hk] at this
end Go.Proofs.YtlgnpiphaeoeiadDoor

namespace Go.Proofs.YtlgnpiphaeoeiadDoor
open Go.RowKit Go.Deep Go.ChangeShapes Go.WideShapes
attribute [local go_sem ↓] Go.wp_at_zero Go.wp_at_succ
theorem placesF_pre (q : List Int) : ∀ (F : Fo) (p : List Int) (i : Int), placesF F (q ++ p) i = (placesF F p i).map (q ++ ·)
  | .nil, _, _ => rfl
  | .node _ _ x k r, p, i => by
    have h1 := placesF_pre q k (p ++ [i]) 0
    have h2 := placesF_pre q r p (i + 1)
    simp only [placesF, List.map_append, h2]
    cases x.1
    · simp only [Bool.false_eq_true, if_false, List.map_cons, List.append_assoc] at h1 ⊢
      rw [h1]
    · simp
theorem placesT_pre (q : List Int) (x : Bool × Int) (k : Fo) : placesT x k q = (placesT x k []).map (q ++ ·) := by
  have := placesF_pre q k [] 0
  unfold placesT
  split
  · rfl
  · simp only [List.append_nil] at this
    simp [this]
end Go.Proofs.YtlgnpiphaeoeiadDoor

namespace Go.Proofs.YtlgnpiphaeoeiadDoor
open Go.RowKit Go.Deep Go.ChangeShapes Go.WideShapes
attribute [local go_sem ↓] Go.wp_at_zero Go.wp_at_succ
set_option maxRecDepth 100000 in
set_option maxHeartbeats 400000 in
theorem format_any (n : Int) (h0 : 0 ≤ n) (h4 : n ≤ 4) (w : World) : Calls Tryd.prog 72 #[.int .i64 n, .int .i64 10] w fun e w' => e = .returned (str [dig n]) ∧ w' = w := by
  have h1 : n < 100 := by omega
  go_enter Tryd.func72, Tryd.ntmps72
  go_wp2_with fail
  refine (small_any n h0 h4 w).mono ?_
  rintro e w' ⟨rfl, hw'⟩
  rw [hw']
  clear hw' w'
  go_wp2_with fail
  go_ret
  exact ⟨rfl, rfl⟩
set_option maxRecDepth 100000 in
set_option maxHeartbeats 400000 in
theorem itoaI_any (n : Int) (h0 : 0 ≤ n) (h4 : n ≤ 4) (w : World) : Calls Tryd.prog 55 #[.int .i64 n] w fun e w' => e = .returned (str [dig n]) ∧ w' = w := by
  go_enter Tryd.func55, Tryd.ntmps55
  go_wp2_with fail
  refine (format_any n h0 h4 w).mono ?_
  rintro e w' ⟨rfl, hw'⟩
  rw [hw']
  clear hw' w'
  go_wp2_with fail
  go_ret
  exact ⟨rfl, rfl⟩
set_option maxRecDepth 100000 in
set_option maxHeartbeats 400000 in
theorem itoa_any (n : Int) (h0 : 0 ≤ n) (h4 : n ≤ 4) (w : World) : Calls Tryd.prog 40 #[.int .i64 n] w fun e w' => e = .returned (str [dig n]) ∧ w' = w := by
  go_enter Tryd.func40, Tryd.ntmps40
  go_wp2_with fail
  refine (itoaI_any n h0 h4 w).mono ?_
  rintro e w' ⟨rfl, hw'⟩
  rw [hw']
  clear hw' w'
  go_wp2_with fail
  go_ret
  exact ⟨rfl, rfl⟩
theorem itoa_is (n : Int) (h0 : 0 ≤ n) (h4 : n ≤ 4) (w : World) : Calls Tryd.prog 40 #[.int .i64 n] w fun e w' => ∃ D : ByteArray, e = .returned (.string D) ∧ D.data.toList = [dig n] ∧ w' = w := by
  refine (itoa_any n h0 h4 w).mono ?_
  rintro e w' ⟨rfl, hw'⟩
  exact ⟨_, rfl, rfl, hw'⟩
theorem terms_tail {n c b o : Nat} (hn : 2 ≤ n) (hlc : n ≤ c) (w : World) : (Instr.slice 35 (.slice (some ⟨b, o, none⟩) n c) (some (.int .i64 1)) none none).run Tryd.prog w = .ok (.slice (some ⟨b, o + 3, none⟩) (n - 1) (c - 1)) w := by
  rw [run_slice_l (ht := by kernel_rfl) (h0 := by omega) (h1 := by omega)]
  have e : (sizeOf (Tryd.prog.elem 35)).run Tryd.prog w = .ok 3 w := by
    rw [show Tryd.prog.elem 35 = 37 by kernel_rfl]
    simp [go_sem]
  have hc : ¬ c = 1 := by omega
  simp [Result.andThen, sliced, e, hc, Addr.add]
theorem byte_text {w : World} {n : Int} (h0 : 0 ≤ n) (h1 : n ≤ 100) : (convert 78 9 (.slice (some ⟨w.heap.size, 0, none⟩) 1 1)).run Tryd.prog (w.alloc (.cells #[.int .u8 (97 + n)] 5)) = .ok (str [sym n]) (w.alloc (.cells #[.int .u8 (97 + n)] 5)) := by
  have h := World.ownsRow_lit (base := 0) (e := 5) (size := 1) w #[.int .u8 ((sym n).toNat : Int)] 1 (Nat.zero_le _) (by unfold maxLen; omega) rfl
  rw [sym_nat h0 h1] at h
  exact str_of_row (T := [sym n]) (by rw [show bytesV [sym n] = [.int .u8 (97 + n)] by simp [bytesV, sym_nat h0 h1]]; exact h)
theorem ba_size {B : ByteArray} {l : List UInt8} (h : B.data.toList = l) : B.size = l.length := by rw [← h]; exact Array.length_toList.symm
def TextRSaid (x : Bool × Int) (k : Fo) : Prop := ∀ (a : Value) (w : World), SIn w k a → (0 ≤ x.2 ∧ x.2 ≤ (if x.1 then 4 else 100)) → Fo.texts k → (textT x k).length ≤ 100000 →
    Calls Tryd.prog 22 #[.agg #[.bool x.1, .int .i64 x.2, a]] w fun e w' => ∃ U : ByteArray, e = .returned (.string U) ∧ U.data.toList = textT x k ∧ Below w.heap.size w w'
set_option maxHeartbeats 1000000 in
set_option maxRecDepth 100000 in
theorem textR_any (x : Bool × Int) (k : Fo) : TextRSaid x k := by
  refine Fo.ind1 (p := TextRSaid) ?_ x k
  clear x k
  intro x k ih a w hS hx ht hl
  obtain ⟨xv, xn⟩ := x
  have HI := hide ih
  have Ht := hide ht
  have Hl := hide hl
  obtain ⟨ad, c, b, o, rfl, had, hlc, hcm, hF⟩ := hS
  have HF := hide hF
  unfold maxLen at hcm
  clear ih hF ht hl
  cases xv
  · simp only [Bool.false_eq_true, if_false] at hx
    obtain ⟨hx0, hx1⟩ := hx
    have hcv := byte_text (w := w.alloc (.cells #[.bool false, .int .i64 xn, .slice ad (Fo.len k) c] 37)) hx0 hx1
    rw [World.size_alloc] at hcv
    obtain ⟨S, hS⟩ : ∃ S : ByteArray, S = ⟨[sym xn].toArray⟩ := ⟨_, rfl⟩
    have hcv' : (convert 78 9 (.slice (some ⟨w.heap.size + 1, 0, none⟩) 1 1)).run Tryd.prog ((w.alloc (.cells #[.bool false, .int .i64 xn, .slice ad (Fo.len k) c] 37)).alloc (.cells #[.int .u8 (97 + xn)] 5)) = .ok (.string S) ((w.alloc (.cells #[.bool false, .int .i64 xn, .slice ad (Fo.len k) c] 37)).alloc (.cells #[.int .u8 (97 + xn)] 5)) := by rw [hS]; exact hcv
    have HS : Hid (S.data.toList = [sym xn]) := by rw [hS]; rfl
    have hs1 : S.size = 1 := ba_size HS.out
    clear hS hcv
    go_enter Tryd.func22, Tryd.ntmps22
    go_upto_region 4 with fail
    generalize hwa : (w.alloc (.cells #[.bool false, .int .i64 xn, .slice ad (Fo.len k) c] 37)).alloc (.cells #[.int .u8 (97 + xn)] 5) = wa
    have t2 : wa.cell? ⟨w.heap.size, 2, none⟩ = some (.slice ad (Fo.len k) c) := by rw [← hwa]; simp
    have hba : Below w.heap.size w wa := by rw [← hwa]; exact (below_alloc _ _).alloc (by simp) _
    clear hwa hcv'
    by_cases h0 : Fo.len k = 0
    · have h0' : (Fo.len k : Int) = 0 := by omega
      have Hfin : Hid (textT (false, xn) k = [sym xn]) := by simp [Hid, textT, h0]
      clear had
      go_wp2_with fail
      go_ret
      exact ⟨S, rfl, by rw [HS.out, Hfin.out], hba⟩
    obtain ⟨⟨⟨yv, yn⟩, yk⟩, hy⟩ : ∃ y, k.list[0]? = some y := ⟨k.list[0]'(by rw [Fo.len_list]; omega), by simp⟩
    obtain ⟨c0, c1, yv', c2, hSy⟩ := (HF.out.below hba).at hy
    simp only [Nat.zero_mul, Nat.add_zero] at c0 c1 c2
    have HSy := hide hSy
    obtain ⟨ya, yc, yb, yo, rfl, -, -, -, -⟩ := hSy
    have ha : ad = some ⟨b, o, none⟩ := had (by omega)
    subst ha
    have Hty := hide (texts_at Ht.out hy)
    have Htl : Hid (sym xn :: textF k 0 ++ [41] = textT (false, xn) k) := by simp [Hid, textT, h0]
    have Hle : Hid ((textF k 0).length + 2 ≤ 100000) := by
      have := Hl.out
      rw [← Htl.out] at this
      simp at this
      unfold Hid
      omega
    have Hx1 : Hid (txTo k 1 = 40 :: textT (yv, yn) yk) := by
      have := txTo_succ hy
      rw [Hid, this]
      simp [txTo, Fo.take, textF, signF]
    have Hyl : Hid ((textT (yv, yn) yk).length ≤ 100000) := by
      have h1 := txTo_le k 1
      have h2 := Hle.out
      rw [Hx1.out] at h1
      simp at h1
      unfold Hid
      omega
    have Hy := hide hy
    clear had hy
    by_cases h1 : Fo.len k = 1
    · have h1b : ((Fo.len k : Int) == 1) = true := by rw [beq_iff_eq]; omega
      have h0b : ((Fo.len k : Int) == 0) = false := by simpa using h0
      have Hfin : Hid (textT (false, xn) k = [sym xn] ++ [40] ++ textT (yv, yn) yk ++ [41]) := by
        have : txTo k 1 = textF k 0 := by rw [← h1, txTo_end]
        rw [Hid, ← Htl.out, ← this, Hx1.out]
        simp
      have hkl : 0 < Fo.len k := by omega
      clear h0 h1
      go_wp2_with fail
      refine (HI.out ((yv, yn), yk) (List.mem_of_getElem? Hy.out) _ _ HSy.out Hty.out.1 Hty.out.2 Hyl.out).mono ?_
      rintro e w1 ⟨U, rfl, hU, hb1⟩
      have HU := hide hU
      have hUs : U.size ≤ 100000 := by rw [ba_size hU]; exact Hyl.out
      have hB1 := below_step hba hb1
      clear hU hb1
      have hq1 : (S ++ (⟨#[40]⟩ : ByteArray)).size ≤ 10 := by rw [ByteArray.size_append, hs1]; decide
      have hq2 : (S ++ (⟨#[40]⟩ : ByteArray) ++ U).size ≤ 100010 := by rw [ByteArray.size_append]; omega
      go_wp2_with fail
      go_ret
      refine ⟨_, rfl, ?_, hB1⟩
      rw [ByteArray.data_append, ByteArray.data_append, ByteArray.data_append, Array.toList_append, Array.toList_append, Array.toList_append, HS.out, HU.out, Hfin.out]
    · have h1b : ((Fo.len k : Int) == 1) = false := by simp; omega
      have h0b : ((Fo.len k : Int) == 0) = false := by simpa using h0
      have hkl : 2 ≤ Fo.len k := by omega
      have hkl' : 0 < Fo.len k := by omega
      have hsl := terms_tail (b := b) (o := o) hkl hlc
      clear h0 h1
      go_wp2_with fail
      refine (HI.out ((yv, yn), yk) (List.mem_of_getElem? Hy.out) _ _ HSy.out Hty.out.1 Hty.out.2 Hyl.out).mono ?_
      rintro e w1 ⟨U, rfl, hU, hb1⟩
      have hUs : U.size ≤ 100000 := by rw [ba_size hU]; exact Hyl.out
      have hB1 := below_step hba hb1
      have t2' := grow_cell hb1 _ _ t2
      have hq1 : (S ++ (⟨#[40]⟩ : ByteArray)).size ≤ 10 := by rw [ByteArray.size_append, hs1]; decide
      have HS1 : Hid ((S ++ (⟨#[40]⟩ : ByteArray) ++ U).data.toList = sym xn :: txTo k 1) := by
        rw [Hid, ByteArray.data_append, ByteArray.data_append, Array.toList_append, Array.toList_append, HS.out, hU, Hx1.out]
        rfl
      clear hU hb1 t2 c0 c1 c2
      go_wp2_with fail
      generalize S ++ (⟨#[40]⟩ : ByteArray) ++ U = S1 at *
      go_loopw [3, 47] (fun sv i wr => ∃ (j : Nat) (R : ByteArray), j ≤ Fo.len k - 1 ∧ i = .int .i64 j ∧ sv = .string R ∧ R.data.toList = sym xn :: txTo k (j + 1) ∧ Below w.heap.size w wr) (fun _ i _ => Fo.len k - 1 - (intOf i).toNat)
      case atStart => exact ⟨0, S1, Nat.zero_le _, rfl, rfl, HS1.out, hB1⟩
      case round =>
        obtain ⟨j, R, hj, rfl, rfl, hR, hBr⟩ := hrel
        have HR := hide hR
        have hRs : R.size ≤ 100000 := by
          rw [ba_size hR]
          have h1 := txTo_le k (j + 1)
          have h2 := Hle.out
          simp
          omega
        clear hR
        by_cases hlt : j < Fo.len k - 1
        · have hlt' : (j : Int) < ((Fo.len k - 1 : Nat) : Int) := by omega
          have hj0 : (0 : Int) ≤ (j : Int) := by omega
          obtain ⟨⟨⟨zv, zn⟩, zk⟩, hz⟩ : ∃ y, k.list[j + 1]? = some y := ⟨k.list[j + 1]'(by rw [Fo.len_list]; omega), by simp⟩
          obtain ⟨c0, c1, zv', c2, hSz⟩ := (HF.out.below hBr).at hz
          rw [show o + (j + 1) * 3 = o + 3 + j * 3 by omega] at c0 c1 c2
          have HSz := hide hSz
          obtain ⟨za, zc, zb, zo, rfl, -, -, -, -⟩ := hSz
          have Htz := hide (texts_at Ht.out hz)
          have Hnx := hide (txTo_succ hz)
          have Hzl : Hid ((textT (zv, zn) zk).length ≤ 100000) := by
            have h1 := txTo_le k (j + 1 + 1)
            have h2 := Hle.out
            rw [Hnx.out] at h1
            simp at h1
            unfold Hid
            omega
          have Hsg : Hid (signF ((j + 1 : Nat) : Int) = 44) := by rw [Hid, signF, if_neg (by omega)]
          have Hz := hide hz
          clear hz
          go_upto_region 13 with fail
          generalize hwa : wr.alloc (.cells #[.bool zv, .int .i64 zn, .slice za (Fo.len zk) zc] 37) = wb
          have e0 : wb.cell? ⟨wr.heap.size, 0, none⟩ = some (.bool zv) := by rw [← hwa]; simp
          have e1 : wb.cell? ⟨wr.heap.size, 1, none⟩ = some (.int .i64 zn) := by rw [← hwa]; simp
          have e2 : wb.cell? ⟨wr.heap.size, 2, none⟩ = some (.slice za (Fo.len zk) zc) := by rw [← hwa]; simp
          have hbb : Below wr.heap.size wr wb := by rw [← hwa]; exact below_alloc _ _
          clear hwa c0 c1 c2
          have hq2 : (R ++ (⟨#[44]⟩ : ByteArray)).size ≤ 100010 := by rw [ByteArray.size_append]; have : (⟨#[44]⟩ : ByteArray).size = 1 := rfl; omega
          go_wp2_with fail
          refine (HI.out ((zv, zn), zk) (List.mem_of_getElem? Hz.out) _ _ (HSz.out.below hbb) Htz.out.1 Htz.out.2 Hzl.out).mono ?_
          rintro e w2 ⟨V, rfl, hV, hb2⟩
          have hVs : V.size ≤ 100000 := by rw [ba_size hV]; exact Hzl.out
          have hB2 := below_step hBr (below_step hbb hb2)
          have HR2 : Hid ((R ++ (⟨#[44]⟩ : ByteArray) ++ V).data.toList = sym xn :: txTo k (j + 1 + 1)) := by
            rw [Hid, ByteArray.data_append, ByteArray.data_append, Array.toList_append, Array.toList_append, HR.out, hV, Hnx.out, Hsg.out]
            simp
          clear hV hb2
          go_wp2_with fail
          go_roundw
          case rel => exact ⟨j + 1, _, by omega, by go_num, rfl, HR2.out, hB2⟩
          case measure => simp [intOf]; omega
        · have Hfin : Hid (textT (false, xn) k = (sym xn :: txTo k (j + 1)) ++ [41]) := by
            have e : j + 1 = Fo.len k := by omega
            rw [Hid, ← Htl.out, e, txTo_end]
          have hge : ¬ ((j : Int) < ((Fo.len k - 1 : Nat) : Int)) := by omega
          go_wp2_with fail
          go_ret
          refine ⟨_, rfl, ?_, hBr⟩
          rw [ByteArray.data_append, Array.toList_append, HR.out, Hfin.out]
  · simp only [if_true] at hx
    obtain ⟨hx0, hx1⟩ := hx
    go_enter Tryd.func22, Tryd.ntmps22
    go_wp2_with fail
    refine (itoa_is xn hx0 hx1 _).mono ?_
    rintro e w' ⟨D, rfl, hD, hw'⟩
    rw [hw']
    have HD := hide hD
    have hs := ba_size hD
    simp only [List.length_cons, List.length_nil] at hs
    clear hw' w' hD
    go_wp2_with fail
    go_ret
    refine ⟨_, rfl, ?_, below_alloc _ _⟩
    rw [ByteArray.data_append, Array.toList_append, HD.out]
    rfl
end Go.Proofs.YtlgnpiphaeoeiadDoor
