/- RGen MatchP RPlaces RText RRd RTerm -/
import Derived.Test.YtlgnpiphaeoeiadDoorG08
import Derived.Deep.LoopGhost
import Derived.Deep.RegionLaw
namespace Go.Proofs.YtlgnpiphaeoeiadDoor
open Go.RowKit Go.Deep Go.ChangeShapes Go.WideShapes
def Cs (w : World) (lv : Value) (m size : Nat) (news : List Value) : Prop :=
  ∃ (a : Option Addr) (c : Nat), lv = .slice a m c ∧ news.length = m * size ∧ (∀ u ∈ news, u.oneCell' = true) ∧ (a = none → m = 0) ∧ ∀ ad, a = some ad → ∀ j u, news[j]? = some u → w.cell? (ad.add j) = some u
theorem append_nothing {w : World} (base : Nat) (t ty e : TypeId) (i : TypeInfo) (size : Nat) (ht : Tryd.prog.underlying t = some (.slice e)) (hi : Tryd.prog.info? e = some i) (v : Value) (n c : Nat) (xs : List Value) (hown : w.ownsRow base e size v n xs) :
    (Builtin.append_ #[t, t] ty #[v, .slice none 0 c]).run Tryd.prog w = .ok v w := by
  rcases hown.2 with ⟨rfl, rfl⟩ | ⟨g, cap, cur, rfl, _, _, hnc, _⟩
  · simp [Builtin.append_, run_underlying ht, sizeOf, typeInfo, hi, Builtin.lenOf, Builtin.firstCells]
  · simp [Builtin.append_, run_underlying ht, sizeOf, typeInfo, hi, Builtin.lenOf, Builtin.firstCells, hnc, storeCells]
theorem run_append_gen {w : World} (base : Nat) (t ty e : TypeId) (i : TypeInfo) (z : Value) (size bytes : Nat) (ht : Tryd.prog.underlying t = some (.slice e)) (hi : Tryd.prog.info? e = some i) (hz : i.zero = some z) (hsize : i.size = size) (hby : i.bytes = bytes) (hzs : z.cells.size = size) (hsz : 0 < size)
    (v : Value) (n : Nat) (xs : List Value) (hown : w.ownsRow base e size v n xs) (lv : Value) (m : Nat) (news : List Value) (hC : Cs w lv m size news) (h63 : n + m ≤ maxLen) (hb : (n + m) * bytes ≤ 140737488355328) (hbase : base ≤ w.heap.size) :
    ∃ v' w', (Builtin.append_ #[t, t] ty #[v, lv]).run Tryd.prog w = .ok v' w' ∧ w'.ownsRow base e size v' (n + m) (xs ++ news) ∧ w.grownBy w' v.ownBlock ∧ (v'.ownBlock = v.ownBlock ∨ v'.ownBlock = some w.heap.size) := by
  obtain ⟨a, c, rfl, hl, h1, h0, hc⟩ := hC
  cases a with
  | none =>
    have hm := h0 rfl
    subst hm
    have hn : news = [] := List.length_eq_zero_iff.1 (by rw [hl]; simp)
    subst hn
    exact ⟨v, w, append_nothing base t ty e i size ht hi v n c xs hown, by simpa using hown, ⟨rfl, rfl, rfl, Nat.le_refl _, fun _ _ _ => rfl⟩, .inl rfl⟩
  | some ad =>
    obtain ⟨v', w', hr, h2, h3, _, h5⟩ := run_append_own_at (P := Tryd.prog) w base t ty e i z size bytes ht hi hz hsize hby hzs hsz v n xs hown ad m c news hl (hc ad rfl) h1 h63 hb hbase
    exact ⟨v', w', hr, h2, h3, h5⟩
theorem wp_append_gen {w : World} {o : Oper} {a : Act} {K : Act → World → Prop} {Q : Exit → Act → World → Prop} (s x : Operand) (t : TypeId)
    (ho : o.op = .call { callee := .builtin .append, args := #[s, x], argTypes := #[t, t] }) (base : Nat) (e : TypeId) (i : TypeInfo) (z : Value) (size bytes : Nat) (ht : Tryd.prog.underlying t = some (.slice e)) (hi : Tryd.prog.info? e = some i) (hz : i.zero = some z) (hsize : i.size = size) (hby : i.bytes = bytes) (hzs : z.cells.size = size) (hsz : 0 < size)
    (v : Value) (n : Nat) (xs : List Value) (hs : a.eval s = v) (hown : w.ownsRow base e size v n xs) (lv : Value) (m : Nat) (news : List Value) (hx : a.eval x = lv) (hC : Cs w lv m size news) (h63 : n + m ≤ maxLen) (hb : (n + m) * bytes ≤ 140737488355328) (hbase : base ≤ w.heap.size)
    (h : ∀ v' w', w'.ownsRow base e size v' (n + m) (xs ++ news) → w.grownBy w' v.ownBlock → (v'.ownBlock = v.ownBlock ∨ v'.ownBlock = some w.heap.size) → K (a.put o.dst v') w') : o.wp Tryd.prog a w K Q := by
  obtain ⟨v', w', hr, h2, h3, h4⟩ := run_append_gen base t o.type e i z size bytes ht hi hz hsize hby hzs hsz v n xs hown lv m news hC h63 hb hbase
  unfold Oper.wp execOp
  simp only [ho, resolve, invoke, builtin, Sem.run_bind, Sem.run_pure, Result.andThen_ok, List.map_toArray, List.map_cons, List.map_nil, hs, hx, hr]
  exact h v' w' h2 h3 h4
theorem wpList_append_gen {w : World} {ops : Array Oper} {rest : List Oper} {o : Oper} {a : Act} {Q : Exit → Act → World → Prop} (hgd : o.guard = none) (s x : Operand) (t : TypeId)
    (ho : o.op = .call { callee := .builtin .append, args := #[s, x], argTypes := #[t, t] }) (base : Nat) (e : TypeId) (i : TypeInfo) (z : Value) (size bytes : Nat) (ht : Tryd.prog.underlying t = some (.slice e)) (hi : Tryd.prog.info? e = some i) (hz : i.zero = some z) (hsize : i.size = size) (hby : i.bytes = bytes) (hzs : z.cells.size = size) (hsz : 0 < size)
    (v : Value) (n : Nat) (xs : List Value) (hs : a.eval s = v) (hown : w.ownsRow base e size v n xs) (lv : Value) (m : Nat) (news : List Value) (hx : a.eval x = lv) (hC : Cs w lv m size news) (h63 : n + m ≤ maxLen) (hb : (n + m) * bytes ≤ 140737488355328) (hbase : base ≤ w.heap.size)
    (h : ∀ v' w', w'.ownsRow base e size v' (n + m) (xs ++ news) → w.grownBy w' v.ownBlock → (v'.ownBlock = v.ownBlock ∨ v'.ownBlock = some w.heap.size) → wpList Tryd.prog ops Q rest (a.put o.dst v') w') : wpList Tryd.prog ops Q (o :: rest) a w :=
  wpList_plain hgd fun _ hK => wp_append_gen s x t ho base e i z size bytes ht hi hz hsize hby hzs hsz v n xs hs hown lv m news hx hC h63 hb hbase fun v' w' h2 h3 h4 => hK _ _ (h v' w' h2 h3 h4)
end Go.Proofs.YtlgnpiphaeoeiadDoor

namespace Go.Proofs.YtlgnpiphaeoeiadDoor
open Go.RowKit Go.Deep Go.ChangeShapes Go.WideShapes
theorem norm_norm : ∀ F : Fo, Fo.norm (Fo.norm F) = Fo.norm F
  | .nil => rfl
  | .node _ _ _ k r => by simp [Fo.norm, norm_norm k, norm_norm r]
def two (t u : Tm) : Fo := .node 0 0 t.1 t.2 (.node 0 0 u.1 u.2 .nil)
theorem four_right {s : List Int} {x : Bool × Int} {k : Fo} (hs : s.all okNum = true) (hk : Fo.norm k = k) (h : wrongF s x k = 0) : ∀ m, occT m (x, k) → m ≤ 4 := fun m hm => by
  have := four_of_right hs h m (by rw [hk]; exact hm)
  exact this.2
theorem gd_right {s : List Int} {x : Bool × Int} {k : Fo} (hs : s.all okNum = true) (hk : Fo.norm k = k) (h : wrongF s x k = 0) : Gd (x, k) ∧ depT (x, k) ≤ 12 ∧ tszR k ≤ 12 := by
  have := gd_of_right hs h
  rwa [hk] at this
end Go.Proofs.YtlgnpiphaeoeiadDoor

namespace Go.Proofs.YtlgnpiphaeoeiadDoor
open Go.RowKit Go.Deep Go.ChangeShapes Go.WideShapes
attribute [local go_sem ↓] Go.wp_at_zero Go.wp_at_succ
theorem placesF_pre (q : List Int) : ∀ (F : Fo) (p : List Int) (i : Int), placesF F (q ++ p) i = (placesF F p i).map (q ++ ·)
  | .nil, _, _ => rfl
  | .node _ _ x k r, p, i => by
    have h1 := placesF_pre q k (p ++ [i]) 0
    have h2 := placesF_pre q r p (i + 1)
    simp only [placesF, List.map_append, h2]
    cases x.1
    · simp only [Bool.false_eq_true, if_false, List.map_cons, List.append_assoc] at h1 ⊢
      rw [h1]
    · simp
theorem placesT_pre (q : List Int) (x : Bool × Int) (k : Fo) : placesT x k q = (placesT x k []).map (q ++ ·) := by
  have := placesF_pre q k [] 0
  unfold placesT
  split
  · rfl
  · simp only [List.append_nil] at this
    simp [this]
end Go.Proofs.YtlgnpiphaeoeiadDoor

namespace Go.Proofs.YtlgnpiphaeoeiadDoor
open Go.RowKit Go.Deep Go.ChangeShapes Go.WideShapes
attribute [local go_sem ↓] Go.wp_at_zero Go.wp_at_succ
set_option maxRecDepth 100000 in
set_option maxHeartbeats 400000 in
theorem format_any (n : Int) (h0 : 0 ≤ n) (h4 : n ≤ 4) (w : World) : Calls Tryd.prog 72 #[.int .i64 n, .int .i64 10] w fun e w' => e = .returned (str [dig n]) ∧ w' = w := by
  have h1 : n < 100 := by omega
  go_enter Tryd.func72, Tryd.ntmps72
  go_wp2_with fail
  refine (small_any n h0 h4 w).mono ?_
  rintro e w' ⟨rfl, hw'⟩
  rw [hw']
  clear hw' w'
  go_wp2_with fail
  go_ret
  exact ⟨rfl, rfl⟩
set_option maxRecDepth 100000 in
set_option maxHeartbeats 400000 in
theorem itoaI_any (n : Int) (h0 : 0 ≤ n) (h4 : n ≤ 4) (w : World) : Calls Tryd.prog 55 #[.int .i64 n] w fun e w' => e = .returned (str [dig n]) ∧ w' = w := by
  go_enter Tryd.func55, Tryd.ntmps55
  go_wp2_with fail
  refine (format_any n h0 h4 w).mono ?_
  rintro e w' ⟨rfl, hw'⟩
  rw [hw']
  clear hw' w'
  go_wp2_with fail
  go_ret
  exact ⟨rfl, rfl⟩
set_option maxRecDepth 100000 in
set_option maxHeartbeats 400000 in
theorem itoa_any (n : Int) (h0 : 0 ≤ n) (h4 : n ≤ 4) (w : World) : Calls Tryd.prog 40 #[.int .i64 n] w fun e w' => e = .returned (str [dig n]) ∧ w' = w := by
  go_enter Tryd.func40, Tryd.ntmps40
  go_wp2_with fail
  refine (itoaI_any n h0 h4 w).mono ?_
  rintro e w' ⟨rfl, hw'⟩
  rw [hw']
  clear hw' w'
  go_wp2_with fail
  go_ret
  exact ⟨rfl, rfl⟩
theorem itoa_is (n : Int) (h0 : 0 ≤ n) (h4 : n ≤ 4) (w : World) : Calls Tryd.prog 40 #[.int .i64 n] w fun e w' => ∃ D : ByteArray, e = .returned (.string D) ∧ D.data.toList = [dig n] ∧ w' = w := by
  refine (itoa_any n h0 h4 w).mono ?_
  rintro e w' ⟨rfl, hw'⟩
  exact ⟨_, rfl, rfl, hw'⟩
theorem terms_tail {n c b o : Nat} (hn : 2 ≤ n) (hlc : n ≤ c) (w : World) : (Instr.slice 35 (.slice (some ⟨b, o, none⟩) n c) (some (.int .i64 1)) none none).run Tryd.prog w = .ok (.slice (some ⟨b, o + 3, none⟩) (n - 1) (c - 1)) w := by
  rw [run_slice_l (ht := by kernel_rfl) (h0 := by omega) (h1 := by omega)]
  have e : (sizeOf (Tryd.prog.elem 35)).run Tryd.prog w = .ok 3 w := by
    rw [show Tryd.prog.elem 35 = 37 by kernel_rfl]
    simp [go_sem]
  have hc : ¬ c = 1 := by omega
  simp [Result.andThen, sliced, e, hc, Addr.add]
theorem byte_text {w : World} {n : Int} (h0 : 0 ≤ n) (h1 : n ≤ 100) : (convert 78 9 (.slice (some ⟨w.heap.size, 0, none⟩) 1 1)).run Tryd.prog (w.alloc (.cells #[.int .u8 (97 + n)] 5)) = .ok (str [sym n]) (w.alloc (.cells #[.int .u8 (97 + n)] 5)) := by
  have h := World.ownsRow_lit (base := 0) (e := 5) (size := 1) w #[.int .u8 ((sym n).toNat : Int)] 1 (Nat.zero_le _) (by unfold maxLen; omega) rfl
  rw [sym_nat h0 h1] at h
  exact str_of_row (T := [sym n]) (by rw [show bytesV [sym n] = [.int .u8 (97 + n)] by simp [bytesV, sym_nat h0 h1]]; exact h)
theorem ba_size {B : ByteArray} {l : List UInt8} (h : B.data.toList = l) : B.size = l.length := by rw [← h]; exact Array.length_toList.symm
def TextRSaid (x : Bool × Int) (k : Fo) : Prop := ∀ (a : Value) (w : World), SIn w k a → (0 ≤ x.2 ∧ x.2 ≤ (if x.1 then 4 else 100)) → Fo.texts k → (textT x k).length ≤ 100000 →
    Calls Tryd.prog 22 #[.agg #[.bool x.1, .int .i64 x.2, a]] w fun e w' => ∃ U : ByteArray, e = .returned (.string U) ∧ U.data.toList = textT x k ∧ Below w.heap.size w w'
set_option maxHeartbeats 1000000 in
set_option maxRecDepth 100000 in
theorem textR_any (x : Bool × Int) (k : Fo) : TextRSaid x k := by
  refine Fo.ind1 (p := TextRSaid) ?_ x k
  clear x k
  intro x k ih a w hS hx ht hl
  obtain ⟨xv, xn⟩ := x
  have HI := hide ih
  have Ht := hide ht
  have Hl := hide hl
  obtain ⟨ad, c, b, o, rfl, had, hlc, hcm, hF⟩ := hS
  have HF := hide hF
  unfold maxLen at hcm
  clear ih hF ht hl
  cases xv
  · simp only [Bool.false_eq_true, if_false] at hx
    obtain ⟨hx0, hx1⟩ := hx
    have hcv := byte_text (w := w.alloc (.cells #[.bool false, .int .i64 xn, .slice ad (Fo.len k) c] 37)) hx0 hx1
    rw [World.size_alloc] at hcv
    obtain ⟨S, hS⟩ : ∃ S : ByteArray, S = ⟨[sym xn].toArray⟩ := ⟨_, rfl⟩
    have hcv' : (convert 78 9 (.slice (some ⟨w.heap.size + 1, 0, none⟩) 1 1)).run Tryd.prog ((w.alloc (.cells #[.bool false, .int .i64 xn, .slice ad (Fo.len k) c] 37)).alloc (.cells #[.int .u8 (97 + xn)] 5)) = .ok (.string S) ((w.alloc (.cells #[.bool false, .int .i64 xn, .slice ad (Fo.len k) c] 37)).alloc (.cells #[.int .u8 (97 + xn)] 5)) := by rw [hS]; exact hcv
    have HS : Hid (S.data.toList = [sym xn]) := by rw [hS]; rfl
    have hs1 : S.size = 1 := ba_size HS.out
    clear hS hcv
    go_enter Tryd.func22, Tryd.ntmps22
    go_upto_region 4 with fail
    generalize hwa : (w.alloc (.cells #[.bool false, .int .i64 xn, .slice ad (Fo.len k) c] 37)).alloc (.cells #[.int .u8 (97 + xn)] 5) = wa
    have t2 : wa.cell? ⟨w.heap.size, 2, none⟩ = some (.slice ad (Fo.len k) c) := by rw [← hwa]; simp
    have hba : Below w.heap.size w wa := by rw [← hwa]; exact (below_alloc _ _).alloc (by simp) _
    clear hwa hcv'
    by_cases h0 : Fo.len k = 0
    · have h0' : (Fo.len k : Int) = 0 := by omega
      have Hfin : Hid (textT (false, xn) k = [sym xn]) := by simp [Hid, textT, h0]
      clear had
      go_wp2_with fail
      go_ret
      exact ⟨S, rfl, by rw [HS.out, Hfin.out], hba⟩
    obtain ⟨⟨⟨yv, yn⟩, yk⟩, hy⟩ : ∃ y, k.list[0]? = some y := ⟨k.list[0]'(by rw [Fo.len_list]; omega), by simp⟩
    obtain ⟨c0, c1, yv', c2, hSy⟩ := (HF.out.below hba).at hy
    simp only [Nat.zero_mul, Nat.add_zero] at c0 c1 c2
    have HSy := hide hSy
    obtain ⟨ya, yc, yb, yo, rfl, -, -, -, -⟩ := hSy
    have ha : ad = some ⟨b, o, none⟩ := had (by omega)
    subst ha
    have Hty := hide (texts_at Ht.out hy)
    have Htl : Hid (sym xn :: textF k 0 ++ [41] = textT (false, xn) k) := by simp [Hid, textT, h0]
    have Hle : Hid ((textF k 0).length + 2 ≤ 100000) := by
      have := Hl.out
      rw [← Htl.out] at this
      simp at this
      unfold Hid
      omega
    have Hx1 : Hid (txTo k 1 = 40 :: textT (yv, yn) yk) := by
      have := txTo_succ hy
      rw [Hid, this]
      simp [txTo, Fo.take, textF, signF]
    have Hyl : Hid ((textT (yv, yn) yk).length ≤ 100000) := by
      have h1 := txTo_le k 1
      have h2 := Hle.out
      rw [Hx1.out] at h1
      simp at h1
      unfold Hid
      omega
    have Hy := hide hy
    clear had hy
    by_cases h1 : Fo.len k = 1
    · have h1b : ((Fo.len k : Int) == 1) = true := by rw [beq_iff_eq]; omega
      have h0b : ((Fo.len k : Int) == 0) = false := by simpa using h0
      have Hfin : Hid (textT (false, xn) k = [sym xn] ++ [40] ++ textT (yv, yn) yk ++ [41]) := by
        have : txTo k 1 = textF k 0 := by rw [← h1, txTo_end]
        rw [Hid, ← Htl.out, ← this, Hx1.out]
        simp
      have hkl : 0 < Fo.len k := by omega
      clear h0 h1
      go_wp2_with fail
      refine (HI.out ((yv, yn), yk) (List.mem_of_getElem? Hy.out) _ _ HSy.out Hty.out.1 Hty.out.2 Hyl.out).mono ?_
      rintro e w1 ⟨U, rfl, hU, hb1⟩
      have HU := hide hU
      have hUs : U.size ≤ 100000 := by rw [ba_size hU]; exact Hyl.out
      have hB1 := below_step hba hb1
      clear hU hb1
      have hq1 : (S ++ (⟨#[40]⟩ : ByteArray)).size ≤ 10 := by rw [ByteArray.size_append, hs1]; decide
      have hq2 : (S ++ (⟨#[40]⟩ : ByteArray) ++ U).size ≤ 100010 := by rw [ByteArray.size_append]; omega
      go_wp2_with fail
      go_ret
      refine ⟨_, rfl, ?_, hB1⟩
      rw [ByteArray.data_append, ByteArray.data_append, ByteArray.data_append, Array.toList_append, Array.toList_append, Array.toList_append, HS.out, HU.out, Hfin.out]
    · have h1b : ((Fo.len k : Int) == 1) = false := by simp; omega
      have h0b : ((Fo.len k : Int) == 0) = false := by simpa using h0
      have hkl : 2 ≤ Fo.len k := by omega
      have hkl' : 0 < Fo.len k := by omega
      have hsl := terms_tail (b := b) (o := o) hkl hlc
      clear h0 h1
      go_wp2_with fail
      refine (HI.out ((yv, yn), yk) (List.mem_of_getElem? Hy.out) _ _ HSy.out Hty.out.1 Hty.out.2 Hyl.out).mono ?_
      rintro e w1 ⟨U, rfl, hU, hb1⟩
      have hUs : U.size ≤ 100000 := by rw [ba_size hU]; exact Hyl.out
      have hB1 := below_step hba hb1
      have t2' := grow_cell hb1 _ _ t2
      have hq1 : (S ++ (⟨#[40]⟩ : ByteArray)).size ≤ 10 := by rw [ByteArray.size_append, hs1]; decide
      have HS1 : Hid ((S ++ (⟨#[40]⟩ : ByteArray) ++ U).data.toList = sym xn :: txTo k 1) := by
        rw [Hid, ByteArray.data_append, ByteArray.data_append, Array.toList_append, Array.toList_append, HS.out, hU, Hx1.out]
        rfl
      clear hU hb1 t2 c0 c1 c2
      go_wp2_with fail
      generalize S ++ (⟨#[40]⟩ : ByteArray) ++ U = S1 at *
      go_loopw [3, 47] (fun sv i wr => ∃ (j : Nat) (R : ByteArray), j ≤ Fo.len k - 1 ∧ i = .int .i64 j ∧ sv = .string R ∧ R.data.toList = sym xn :: txTo k (j + 1) ∧ Below w.heap.size w wr) (fun _ i _ => Fo.len k - 1 - (intOf i).toNat)
      case atStart => exact ⟨0, S1, Nat.zero_le _, rfl, rfl, HS1.out, hB1⟩
      case round =>
        obtain ⟨j, R, hj, rfl, rfl, hR, hBr⟩ := hrel
        have HR := hide hR
        have hRs : R.size ≤ 100000 := by
          rw [ba_size hR]
          have h1 := txTo_le k (j + 1)
          have h2 := Hle.out
          simp
          omega
        clear hR
        by_cases hlt : j < Fo.len k - 1
        · have hlt' : (j : Int) < ((Fo.len k - 1 : Nat) : Int) := by omega
          have hj0 : (0 : Int) ≤ (j : Int) := by omega
          obtain ⟨⟨⟨zv, zn⟩, zk⟩, hz⟩ : ∃ y, k.list[j + 1]? = some y := ⟨k.list[j + 1]'(by rw [Fo.len_list]; omega), by simp⟩
          obtain ⟨c0, c1, zv', c2, hSz⟩ := (HF.out.below hBr).at hz
          rw [show o + (j + 1) * 3 = o + 3 + j * 3 by omega] at c0 c1 c2
          have HSz := hide hSz
          obtain ⟨za, zc, zb, zo, rfl, -, -, -, -⟩ := hSz
          have Htz := hide (texts_at Ht.out hz)
          have Hnx := hide (txTo_succ hz)
          have Hzl : Hid ((textT (zv, zn) zk).length ≤ 100000) := by
            have h1 := txTo_le k (j + 1 + 1)
            have h2 := Hle.out
            rw [Hnx.out] at h1
            simp at h1
            unfold Hid
            omega
          have Hsg : Hid (signF ((j + 1 : Nat) : Int) = 44) := by rw [Hid, signF, if_neg (by omega)]
          have Hz := hide hz
          clear hz
          go_upto_region 13 with fail
          generalize hwa : wr.alloc (.cells #[.bool zv, .int .i64 zn, .slice za (Fo.len zk) zc] 37) = wb
          have e0 : wb.cell? ⟨wr.heap.size, 0, none⟩ = some (.bool zv) := by rw [← hwa]; simp
          have e1 : wb.cell? ⟨wr.heap.size, 1, none⟩ = some (.int .i64 zn) := by rw [← hwa]; simp
          have e2 : wb.cell? ⟨wr.heap.size, 2, none⟩ = some (.slice za (Fo.len zk) zc) := by rw [← hwa]; simp
          have hbb : Below wr.heap.size wr wb := by rw [← hwa]; exact below_alloc _ _
          clear hwa c0 c1 c2
          have hq2 : (R ++ (⟨#[44]⟩ : ByteArray)).size ≤ 100010 := by rw [ByteArray.size_append]; have : (⟨#[44]⟩ : ByteArray).size = 1 := rfl; omega
          go_wp2_with fail
          refine (HI.out ((zv, zn), zk) (List.mem_of_getElem? Hz.out) _ _ (HSz.out.below hbb) Htz.out.1 Htz.out.2 Hzl.out).mono ?_
          rintro e w2 ⟨V, rfl, hV, hb2⟩
          have hVs : V.size ≤ 100000 := by rw [ba_size hV]; exact Hzl.out
          have hB2 := below_step hBr (below_step hbb hb2)
          have HR2 : Hid ((R ++ (⟨#[44]⟩ : ByteArray) ++ V).data.toList = sym xn :: txTo k (j + 1 + 1)) := by
            rw [Hid, ByteArray.data_append, ByteArray.data_append, Array.toList_append, Array.toList_append, HR.out, hV, Hnx.out, Hsg.out]
            simp
          clear hV hb2
          go_wp2_with fail
          go_roundw
          case rel => exact ⟨j + 1, _, by omega, by go_num, rfl, HR2.out, hB2⟩
          case measure => simp [intOf]; omega
        · have Hfin : Hid (textT (false, xn) k = (sym xn :: txTo k (j + 1)) ++ [41]) := by
            have e : j + 1 = Fo.len k := by omega
            rw [Hid, ← Htl.out, e, txTo_end]
          have hge : ¬ ((j : Int) < ((Fo.len k - 1 : Nat) : Int)) := by omega
          go_wp2_with fail
          go_ret
          refine ⟨_, rfl, ?_, hBr⟩
          rw [ByteArray.data_append, Array.toList_append, HR.out, Hfin.out]
  · simp only [if_true] at hx
    obtain ⟨hx0, hx1⟩ := hx
    go_enter Tryd.func22, Tryd.ntmps22
    go_wp2_with fail
    refine (itoa_is xn hx0 hx1 _).mono ?_
    rintro e w' ⟨D, rfl, hD, hw'⟩
    rw [hw']
    have HD := hide hD
    have hs := ba_size hD
    simp only [List.length_cons, List.length_nil] at hs
    clear hw' w' hD
    go_wp2_with fail
    go_ret
    refine ⟨_, rfl, ?_, below_alloc _ _⟩
    rw [ByteArray.data_append, Array.toList_append, HD.out]
    rfl
end Go.Proofs.YtlgnpiphaeoeiadDoor

namespace Go.Proofs.YtlgnpiphaeoeiadDoor
open Go.RowKit Go.Deep Go.ChangeShapes Go.WideShapes
attribute [local go_sem ↓] Go.wp_at_zero Go.wp_at_succ
attribute [local go_sem] byte_zero text_tail
def RdAt (w : World) (rb : Nat) (sv : Value) (l : List UInt8) (e : Int) : Prop :=
  w.cell? ⟨rb, 0, none⟩ = some sv ∧ w.cell? ⟨rb, 1, none⟩ = some (str l) ∧ w.cell? ⟨rb, 2, none⟩ = some (.int .i64 e) ∧ ∀ i, w.frozen? ⟨rb, i, none⟩ = false
theorem RdAt.of_block {w w' : World} {rb : Nat} {sv : Value} {l : List UInt8} {e : Int} (h : RdAt w rb sv l e) (hb : w'.heap[rb]? = w.heap[rb]?) : RdAt w' rb sv l e :=
  ⟨(World.cell?_of_block hb).trans h.1, (World.cell?_of_block hb).trans h.2.1, (World.cell?_of_block hb).trans h.2.2.1, fun i => (World.frozen?_of_block hb).trans (h.2.2.2 i)⟩
theorem RdAt.setE {w : World} {rb : Nat} {sv : Value} {l : List UInt8} {e e' : Int} (h : RdAt w rb sv l e) : RdAt (w.setCell ⟨rb, 2, none⟩ (.int .i64 e')) rb sv l e' :=
  ⟨by rw [set_other (by simp)]; exact h.1, by rw [set_other (by simp)]; exact h.2.1, set_same h.2.2.1, fun i => by rw [World.frozen?_setCell]; exact h.2.2.2 i⟩
theorem RdAt.setS {w : World} {rb : Nat} {sv : Value} {l l' : List UInt8} {e : Int} (h : RdAt w rb sv l e) : RdAt (w.setCell ⟨rb, 1, none⟩ (str l')) rb sv l' e :=
  ⟨by rw [set_other (by simp)]; exact h.1, set_same h.2.1, by rw [set_other (by simp)]; exact h.2.2.1, fun i => by rw [World.frozen?_setCell]; exact h.2.2.2 i⟩
theorem RdAt.lt {w : World} {rb : Nat} {sv : Value} {l : List UInt8} {e : Int} (h : RdAt w rb sv l e) : rb < w.heap.size := World.block_lt_of_cell? _ _ h.1
theorem fr_set {w : World} {rb i : Nat} {v : Value} : Fr w (w.setCell ⟨rb, i, none⟩ v) (some rb) none :=
  ⟨rfl, rfl, rfl, by simp, fun q _ hq _ => Below.heap_setCell _ _ _ _ (fun e => hq (by rw [e]))⟩
set_option maxRecDepth 100000 in
set_option maxHeartbeats 400000 in
theorem fail_any (rb : Nat) (sv : Value) (l : List UInt8) (e' : Int) (w : World) (h : RdAt w rb sv l 0) :
    Calls Tryd.prog 91 #[.pointer (some ⟨rb, 0, none⟩), .int .i64 e'] w fun e w' => e = .returned (.tuple #[]) ∧ w' = w.setCell ⟨rb, 2, none⟩ (.int .i64 e') := by
  obtain ⟨h0, h1, h2, hf⟩ := h
  go_enter Tryd.func91, Tryd.ntmps91
  go_wp2_with fail
  exact bodyPost_end (v := .tuple #[]) (by simp [results, Tryd.results91, go_sem]) rfl ⟨rfl, rfl⟩
def isE (c : UInt8) (l : List UInt8) (e : Int) : Int := if e ≠ 0 then e else (sgn c l).1
set_option maxRecDepth 100000 in
set_option maxHeartbeats 400000 in
theorem is_any (c : UInt8) (rb : Nat) (sv : Value) (l : List UInt8) (e : Int) (w : World) (h : RdAt w rb sv l e) (hl : e = 0 → l.length ≤ maxLen) :
    Calls Tryd.prog 92 #[.pointer (some ⟨rb, 0, none⟩), .int .u8 (c.toNat : Int)] w fun e' w' => e' = .returned (.tuple #[]) ∧ (∃ l', RdAt w' rb sv l' (isE c l e) ∧ (isE c l e = 0 → l' = (sgn c l).2)) ∧ Fr w w' (some rb) none ∧ w'.heap.size = w.heap.size := by
  have H := hide h
  obtain ⟨h0, h1, h2, hf⟩ := h
  by_cases he : e = 0
  · subst he
    have hl := hl rfl
    unfold maxLen at hl
    cases l with
    | nil =>
      have Hs : Hid (isE c [] 0 = 8) := by simp [Hid, isE, sgn]
      go_enter Tryd.func92, Tryd.ntmps92
      go_wp2_with fail
      refine (fail_any rb sv [] 8 w H.out).mono ?_
      rintro e w' ⟨rfl, hw'⟩
      rw [hw']
      clear hw' w'
      go_wp2_with fail
      refine bodyPost_end (v := .tuple #[]) (by simp [results, Tryd.results92, go_sem]) rfl ⟨rfl, ⟨[], ?_, fun h => ?_⟩, fr_set, by simp⟩
      · rw [Hs.out]; exact H.out.setE
      · rw [Hs.out] at h; cases h
    | cons d r =>
      by_cases hd : d = c
      · subst hd
        have Hs : Hid (isE d (d :: r) 0 = 0 ∧ (sgn d (d :: r)).2 = r) := by simp [Hid, isE, sgn]
        have hsl := run_tail d r
        go_enter Tryd.func92, Tryd.ntmps92
        go_wp2_with fail
        refine bodyPost_end (v := .tuple #[]) (by simp [results, Tryd.results92, go_sem]) rfl ⟨rfl, ⟨r, ?_, fun h => ?_⟩, fr_set, by simp⟩
        · rw [Hs.out.1]; exact H.out.setS
        · rw [Hs.out.2]
      · have Hs : Hid (isE c (d :: r) 0 = 2) := by simp [Hid, isE, sgn, hd]
        have hb : ((d.toNat : Int) != (c.toNat : Int)) = true := by
          simp only [bne_iff_ne, ne_eq, Int.natCast_inj]
          exact fun e => hd (UInt8.toNat_inj.1 e)
        clear hd
        go_enter Tryd.func92, Tryd.ntmps92
        go_wp2_with fail
        refine (fail_any rb sv (d :: r) 2 w H.out).mono ?_
        rintro e w' ⟨rfl, hw'⟩
        rw [hw']
        clear hw' w'
        go_wp2_with fail
        refine bodyPost_end (v := .tuple #[]) (by simp [results, Tryd.results92, go_sem]) rfl ⟨rfl, ⟨d :: r, ?_, fun h => ?_⟩, fr_set, by simp⟩
        · rw [Hs.out]; exact H.out.setE
        · rw [Hs.out] at h; cases h
  · have Hs : Hid (isE c l e = e) := by simp [Hid, isE, he]
    have heb : (e != 0) = true := by simpa using he
    have He := hide he
    clear he
    go_enter Tryd.func92, Tryd.ntmps92
    go_wp2_with fail
    refine bodyPost_end (v := .tuple #[]) (by simp [results, Tryd.results92, go_sem]) rfl ⟨rfl, ⟨l, ?_, fun h => ?_⟩, Fr.refl _ _ _, rfl⟩
    · rw [Hs.out]; exact H.out
    · rw [Hs.out] at h; exact absurd h He.out
end Go.Proofs.YtlgnpiphaeoeiadDoor

namespace Go.Proofs.YtlgnpiphaeoeiadDoor
open Go.RowKit Go.Deep Go.ChangeShapes Go.WideShapes
attribute [local go_sem ↓] Go.wp_at_zero Go.wp_at_succ
attribute [local go_sem] byte_zero text_tail
def rdE (s : List Int) (f : Nat) (l : List UInt8) (e : Int) : Int := if e ≠ 0 then e else (readT s f l).1
def Rs (w : World) (rb : Nat) (sv : Value) (l : List UInt8) (e : Int) (w1 : World) : Prop :=
  RdAt w1 rb sv l e ∧ Fr w w1 (some rb) none ∧ w1.cell? ⟨w.heap.size, 0, none⟩ = some (.bool false) ∧ w1.cell? ⟨w.heap.size, 1, none⟩ = some (.int .i64 0) ∧ w1.cell? ⟨w.heap.size, 2, none⟩ = some (.slice none 0 0) ∧ (∀ i, w1.frozen? ⟨w.heap.size, i, none⟩ = false) ∧ rb < w.heap.size
theorem Rs.start {w : World} {rb : Nat} {sv : Value} {l : List UInt8} {e : Int} (h : RdAt w rb sv l e) : Rs w rb sv l e (w.alloc (.cells #[.bool false, .int .i64 0, .slice none 0 0] 37)) :=
  ⟨h.of_block (Below.heap_alloc _ _ _ h.lt), Fr.of_below (below_alloc _ _) _ _, by simp, by simp, by simp, fun i => by simp, h.lt⟩
theorem Rs.set {w w1 : World} {rb i : Nat} {sv v : Value} {l l' : List UInt8} {e e' : Int} (h : Rs w rb sv l e w1) (hR : RdAt (w1.setCell ⟨rb, i, none⟩ v) rb sv l' e') : Rs w rb sv l' e' (w1.setCell ⟨rb, i, none⟩ v) := by
  obtain ⟨_, h2, h3, h4, h5, h6, h7⟩ := h
  refine ⟨hR, h2.trans fr_set (fun q _ hq => hq), ?_, ?_, ?_, fun i => by rw [World.frozen?_setCell]; exact h6 i, h7⟩
  · rw [set_other (by intro e; simp only [Addr.mk.injEq] at e; omega)]; exact h3
  · rw [set_other (by intro e; simp only [Addr.mk.injEq] at e; omega)]; exact h4
  · rw [set_other (by intro e; simp only [Addr.mk.injEq] at e; omega)]; exact h5
theorem Rs.setE {w w1 : World} {rb : Nat} {sv : Value} {l : List UInt8} {e : Int} (h : Rs w rb sv l e w1) (e' : Int) : Rs w rb sv l e' (w1.setCell ⟨rb, 2, none⟩ (.int .i64 e')) := h.set h.1.setE
theorem Rs.setS {w w1 : World} {rb : Nat} {sv : Value} {l : List UInt8} {e : Int} (h : Rs w rb sv l e w1) (l' : List UInt8) : Rs w rb sv l' e (w1.setCell ⟨rb, 1, none⟩ (str l')) := h.set h.1.setS
theorem set3_heapT {w : World} {b o q : Nat} {x y z : Value} (h : q ≠ b) : (set3 w b o x y z).heap[q]? = w.heap[q]? := by
  unfold set3
  rw [Below.heap_setCell _ _ _ _ h, Below.heap_setCell _ _ _ _ h, Below.heap_setCell _ _ _ _ h]
theorem Rs.fin {w w1 : World} {rb : Nat} {sv : Value} {l : List UInt8} {e : Int} (h : Rs w rb sv l e w1) (x y z : Value) : RdAt (set3 w1 w.heap.size 0 x y z) rb sv l e ∧ Fr w (set3 w1 w.heap.size 0 x y z) (some rb) none := by
  obtain ⟨h1, h2, _, _, _, _, h7⟩ := h
  refine ⟨h1.of_block (set3_heapT (by omega)), h2.os, h2.tape, h2.output, by rw [set3_size]; exact h2.size, fun q hq e1 e2 => ?_⟩
  rw [set3_heapT (by omega)]
  exact h2.block q hq e1 e2
def TermPost (s : List Int) (f : Nat) (sv : Value) (l : List UInt8) (e : Int) (w : World) (rb : Nat) (er : Ending) (w' : World) : Prop :=
  ∃ (x : Bool × Int) (k : Fo) (a1 : Option Addr) (a2 a3 : Nat) (l' : List UInt8), er = .returned (.agg #[.bool x.1, .int .i64 x.2, .slice a1 a2 a3]) ∧ SB (New w w') w' k (.slice a1 a2 a3) ∧ Fr w w' (some rb) none ∧ RdAt w' rb sv l' (rdE s f l e) ∧ (rdE s f l e = 0 → (x, k) = (readT s f l).2.1 ∧ l' = (readT s f l).2.2)
theorem TermPost.mk {s : List Int} {f : Nat} {sv : Value} {l : List UInt8} {e : Int} {w : World} {rb : Nat} {er : Ending} {w' : World} (h : ∃ (x : Bool × Int) (k : Fo) (a1 : Option Addr) (a2 a3 : Nat) (l' : List UInt8), er = .returned (.agg #[.bool x.1, .int .i64 x.2, .slice a1 a2 a3]) ∧ SB (New w w') w' k (.slice a1 a2 a3) ∧ Fr w w' (some rb) none ∧ RdAt w' rb sv l' (rdE s f l e) ∧ (rdE s f l e = 0 → (x, k) = (readT s f l).2.1 ∧ l' = (readT s f l).2.2)) : TermPost s f sv l e w rb er w' := h
def TermSaid (s : List Int) (f : Nat) : Prop := ∀ (W : World) (sv : Value) (l : List UInt8) (e : Int) (w : World) (rb : Nat), NIn W s sv → s.all okNum = true → W.heap.size ≤ rb → Below W.heap.size W w → RdAt w rb sv l e → (e = 0 → l.length < f ∧ l.length ≤ maxLen) →
    Calls Tryd.prog 82 #[.pointer (some ⟨rb, 0, none⟩)] w (TermPost s f sv l e w rb)
set_option maxRecDepth 100000 in
set_option maxHeartbeats 400000 in
theorem term_bad (s : List Int) (f : Nat) (sv : Value) (l : List UInt8) (e : Int) (w : World) (rb : Nat) (hR : RdAt w rb sv l e) (he : e ≠ 0) :
    Calls Tryd.prog 82 #[.pointer (some ⟨rb, 0, none⟩)] w (TermPost s f sv l e w rb) := by
  have HS := hide (Rs.start hR)
  have He := hide he
  have heb : (e != 0) = true := by simpa using he
  have Hd : Hid (rdE s f l e = e) := by simp [Hid, rdE, he]
  clear he hR
  go_enter Tryd.func82, Tryd.ntmps82
  go_upto_region 1 with fail
  generalize w.alloc (.cells #[.bool false, .int .i64 0, .slice none 0 0] 37) = w0 at *
  obtain ⟨⟨h0, h1, h2, hf⟩, -, r0, r1, r2, rf, hlt⟩ := HS.out
  go_wp2_with fail
  refine bodyPost_ret (v := .agg #[.bool false, .int .i64 0, .slice none 0 0]) (by simp [results, Tryd.results82, go_sem, r0, r1, r2]) rfl (TermPost.mk ⟨(false, 0), .nil, none, 0, 0, l, rfl, SB.nil _ _, (HS.out.fin _ _ _).2, ?_, fun h => ?_⟩)
  · rw [Hd.out]; exact (HS.out.fin _ _ _).1
  · rw [Hd.out] at h; exact absurd h He.out
theorem is40 (rb : Nat) (sv : Value) (l : List UInt8) (e : Int) (w : World) (h : RdAt w rb sv l e) (hl : e = 0 → l.length ≤ maxLen) :
    Calls Tryd.prog 92 #[.pointer (some ⟨rb, 0, none⟩), .int .u8 40] w fun e' w' => e' = .returned (.tuple #[]) ∧ (∃ l', RdAt w' rb sv l' (isE 40 l e) ∧ (isE 40 l e = 0 → l' = (sgn 40 l).2)) ∧ Fr w w' (some rb) none ∧ w'.heap.size = w.heap.size := is_any 40 rb sv l e w h hl
theorem is44 (rb : Nat) (sv : Value) (l : List UInt8) (e : Int) (w : World) (h : RdAt w rb sv l e) (hl : e = 0 → l.length ≤ maxLen) :
    Calls Tryd.prog 92 #[.pointer (some ⟨rb, 0, none⟩), .int .u8 44] w fun e' w' => e' = .returned (.tuple #[]) ∧ (∃ l', RdAt w' rb sv l' (isE 44 l e) ∧ (isE 44 l e = 0 → l' = (sgn 44 l).2)) ∧ Fr w w' (some rb) none ∧ w'.heap.size = w.heap.size := is_any 44 rb sv l e w h hl
theorem is41 (rb : Nat) (sv : Value) (l : List UInt8) (e : Int) (w : World) (h : RdAt w rb sv l e) (hl : e = 0 → l.length ≤ maxLen) :
    Calls Tryd.prog 92 #[.pointer (some ⟨rb, 0, none⟩), .int .u8 41] w fun e' w' => e' = .returned (.tuple #[]) ∧ (∃ l', RdAt w' rb sv l' (isE 41 l e) ∧ (isE 41 l e = 0 → l' = (sgn 41 l).2)) ∧ Fr w w' (some rb) none ∧ w'.heap.size = w.heap.size := is_any 41 rb sv l e w h hl
def Md (R : List UInt8 → Int × ((Bool × Int) × Fo) × List UInt8) (m : Nat) (r : List UInt8) (j : Nat) (acc : Fo) (E : Int) (l : List UInt8) : Prop :=
  (E ≠ 0 → (readA R m 0 .nil r).1 = E) ∧ (E = 0 → readA R m 0 .nil r = readA R (m - j) j acc l ∧ l.length ≤ r.length)
theorem Md.step {s : List Int} {f m : Nat} {r : List UInt8} {j : Nat} {acc k : Fo} {E E1 E2 : Int} {l l1 l2 : List UInt8} {x : Bool × Int} (h : Md (readT s f) m r j acc E l) (hj : j < m) (hE1 : E1 = isE (signF j) l E) (hl1 : E1 = 0 → l1 = (sgn (signF j) l).2)
    (hE2 : E2 = rdE s f l1 E1) (hl2 : E2 = 0 → (x, k) = (readT s f l1).2.1 ∧ l2 = (readT s f l1).2.2) : Md (readT s f) m r (j + 1) (Fo.snoc acc x k) E2 l2 := by
  by_cases h0 : E = 0
  · subst h0
    obtain ⟨h1, h2⟩ := h.2 rfl
    have e1 : E1 = (sgn (signF j) l).1 := by rw [hE1, isE]; simp
    have hA : readA (readT s f) m 0 .nil r = if (sgn (signF j) l).1 ≠ 0 then ((sgn (signF j) l).1, .nil, []) else
            if (readT s f (sgn (signF j) l).2).1 ≠ 0 then ((readT s f (sgn (signF j) l).2).1, .nil, []) else
            readA (readT s f) (m - (j + 1)) ((j : Int) + 1) (Fo.snoc acc (readT s f (sgn (signF j) l).2).2.1.1 (readT s f (sgn (signF j) l).2).2.1.2) (readT s f (sgn (signF j) l).2).2.2 := by
      rw [h1, show m - j = (m - (j + 1)) + 1 by omega]; rfl
    by_cases h3 : E1 = 0
    · have hl1' := hl1 h3
      have e2 : E2 = (readT s f l1).1 := by rw [hE2, rdE, h3]; simp
      rw [← e1, if_neg (by simpa using h3), ← hl1', ← e2] at hA
      have hle := sgn_len (signF j) l (by rw [← e1]; exact h3)
      rw [← hl1'] at hle
      have hle2 := readT_le s f l1
      refine ⟨fun h => ?_, fun h => ?_⟩
      · rw [hA, if_pos h]
      · obtain ⟨q1, q2⟩ := hl2 h
        rw [if_neg (by simpa using h), ← q1, ← q2] at hA
        exact ⟨by rw [hA]; simp, by rw [q2]; omega⟩
    · have e2 : E2 = E1 := by rw [hE2, rdE, if_pos h3]
      rw [← e1, if_pos h3] at hA
      refine ⟨fun _ => by rw [hA, e2], fun h => absurd (e2 ▸ h) h3⟩
  · have e1 : E1 = E := by rw [hE1, isE, if_pos h0]
    have e2 : E2 = E := by rw [hE2, rdE, e1, if_pos h0]
    exact ⟨fun _ => by rw [e2]; exact h.1 h0, fun h => absurd (e2 ▸ h) h0⟩
theorem Md.fin {s : List Int} {f m : Nat} {r : List UInt8} {acc : Fo} {E E3 : Int} {l l3 : List UInt8} (h : Md (readT s f) m r m acc E l) (hm : 0 < m) (hE3 : E3 = isE 41 l E) (hl3 : E3 = 0 → l3 = (sgn 41 l).2) :
    (argsT (readT s f) (m : Int) r).1 = E3 ∧ (E3 = 0 → argsT (readT s f) (m : Int) r = (0, acc, l3)) := by
  rw [argsT, if_neg (by omega), Int.toNat_natCast]
  by_cases h0 : E = 0
  · subst h0
    obtain ⟨h1, _⟩ := h.2 rfl
    rw [Nat.sub_self] at h1
    have e3 : E3 = (sgn 41 l).1 := by rw [hE3, isE]; simp
    have h1' : readA (readT s f) m 0 .nil r = (0, acc, l) := h1
    rw [h1']
    simp only [ne_eq, not_true_eq_false, if_false]
    by_cases h4 : (sgn 41 l).1 = 0
    · rw [if_neg (by simpa using h4)]
      exact ⟨by rw [e3, h4], fun h => by rw [hl3 h]⟩
    · rw [if_pos h4]
      exact ⟨e3.symm, fun h => absurd (e3 ▸ h) h4⟩
  · have e3 : E3 = E := by rw [hE3, isE, if_pos h0]
    have h1 := h.1 h0
    rw [if_pos (by rw [h1]; exact h0)]
    exact ⟨by rw [h1, e3], fun h => absurd (e3 ▸ h) h0⟩
def TmRel (s : List Int) (f m : Nat) (r : List UInt8) (w : World) (rb B : Nat) (sv : Value) (nn : Int) (j : Nat) (wr : World) : Prop :=
  ∃ (acc : Fo) (v : Value) (xs : List Value) (E : Int) (l : List UInt8), Fo.len acc = j ∧ Rs w rb sv l E wr ∧ Md (readT s f) m r j acc E l ∧ wr.ownsRow (B + 1) 37 3 v (Fo.len acc) xs ∧ CellsOf (Rm B (fun _ => False) wr v) wr acc xs ∧
    wr.cell? ⟨B, 0, none⟩ = some (.bool false) ∧ wr.cell? ⟨B, 1, none⟩ = some (.int .i64 nn) ∧ wr.cell? ⟨B, 2, none⟩ = some v ∧ (∀ i, wr.frozen? ⟨B, i, none⟩ = false)
theorem Rs.below {w w1 w2 : World} {rb : Nat} {sv : Value} {l : List UInt8} {e : Int} (h : Rs w rb sv l e w1) (hb : Below w1.heap.size w1 w2) : Rs w rb sv l e w2 := by
  obtain ⟨h1, h2, h3, h4, h5, h6, h7⟩ := h
  have hA : w.heap.size < w1.heap.size := World.block_lt_of_cell? _ _ h3
  exact ⟨h1.of_block (hb.block _ h1.lt), h2.trans (Fr.of_below hb none none) (fun q _ hq => by rcases hq with e | e <;> cases e), grow_cell hb _ _ h3, grow_cell hb _ _ h4, grow_cell hb _ _ h5, fun i => (hb.frozen hA).trans (h6 i), h7⟩
theorem Rs.fr {w w1 w2 : World} {rb : Nat} {sv : Value} {l l' : List UInt8} {e e' : Int} (h : Rs w rb sv l e w1) (hf : Fr w1 w2 (some rb) none) (hR : RdAt w2 rb sv l' e') : Rs w rb sv l' e' w2 := by
  obtain ⟨h1, h2, h3, h4, h5, h6, h7⟩ := h
  have hA : w.heap.size < w1.heap.size := World.block_lt_of_cell? _ _ h3
  have hb : w2.heap[w.heap.size]? = w1.heap[w.heap.size]? := hf.block _ hA (fun e => by simp at e; omega) (fun e => by cases e)
  exact ⟨hR, h2.trans hf (fun q _ hq => hq), (World.cell?_of_block hb).trans h3, (World.cell?_of_block hb).trans h4, (World.cell?_of_block hb).trans h5, fun i => (World.frozen?_of_block hb).trans (h6 i), h7⟩
theorem tm_next {s : List Int} {f m : Nat} {r : List UInt8} {w wr w2 w3 w4 : World} {rb B : Nat} {sv : Value} {nn : Int} {j : Nat} {acc k : Fo} {v v' a : Value} {xs : List Value} {E E1 : Int} {l l1 l2 : List UInt8} {x : Bool × Int} {g cap : Nat} {ob : Obj}
    (hacc : Fo.len acc = j) (hRs : Rs w rb sv l E wr) (hMd : Md (readT s f) m r j acc E l) (hj : j < m) (h1 : wr.ownsRow (B + 1) 37 3 v (Fo.len acc) xs) (h2 : CellsOf (Rm B (fun _ => False) wr v) wr acc xs)
    (q0 : wr.cell? ⟨B, 0, none⟩ = some (.bool false)) (q1 : wr.cell? ⟨B, 1, none⟩ = some (.int .i64 nn)) (q2 : wr.cell? ⟨B, 2, none⟩ = some v) (qf : ∀ i, wr.frozen? ⟨B, i, none⟩ = false) (hAB : w.heap.size < B)
    (hE1 : E1 = isE (signF j) l E) (hl1 : E1 = 0 → l1 = (sgn (signF j) l).2) (hf2 : Fr wr w2 (some rb) none) (hs2 : w2.heap.size = wr.heap.size) (hR2 : RdAt w2 rb sv l1 E1)
    (hk : SB (New w2 w3) w3 k a) (hf3 : Fr w2 w3 (some rb) none) (hR3 : RdAt w3 rb sv l2 (rdE s f l1 E1)) (hl2 : rdE s f l1 E1 = 0 → (x, k) = (readT s f l1).2.1 ∧ l2 = (readT s f l1).2.2)
    (hv' : v' = .slice (some ⟨g, 0, none⟩) (Fo.len acc + 1) cap) (ho : w4.ownsRow (B + 1) 37 3 v' (Fo.len acc + 1) (xs ++ [.bool x.1, .int .i64 x.2, a])) (hg : (w3.alloc ob).grownBy w4 v.ownBlock)
    (hat : v.ownBlock = some g ∨ g = w3.heap.size + 1) (hlt : g < w4.heap.size) : TmRel s f m r w rb B sv nn (j + 1) (w4.setCell ⟨B, 2, none⟩ v') := by
  have hrb := hRs.2.2.2.2.2.2
  have hBl : B < wr.heap.size := World.block_lt_of_cell? _ _ q0
  have hb2 : ∀ q, B ≤ q → q < wr.heap.size → w2.heap[q]? = wr.heap[q]? := fun q hq hlt => hf2.block q hlt (fun e => by simp at e; omega) (fun e => by cases e)
  have h1' : w2.ownsRow (B + 1) 37 3 v (Fo.len acc) xs := owns_keep h1 (fun g hg => by have := owns_at h1 g hg; exact hb2 g (by omega) this.2)
  have h2' : CellsOf (Rm B (fun _ => False) w2 v) w2 acc xs := CellsOf.frame (fun q hq => by rcases hq with h | ⟨p1, p2, p3⟩; exact h.elim; exact .inr ⟨p1, by omega, p3⟩) (fun q i hq => by
    rcases hq with h | ⟨p1, p2, p3⟩
    · exact h.elim
    · exact World.cell?_of_block (hb2 q (by omega) p2)) h2
  have eB := hb2 B (Nat.le_refl _) hBl
  have q2' := (World.cell?_of_block (a := ⟨B, 2, none⟩) eB).trans q2
  have hs3 := hf3.size
  obtain ⟨r1, r2, r3, r4, r5, r6, r7⟩ := row_step (B := B) (X := fun _ => False) (x := x) (k := k) h1' h2' (fun q hq => hq.elim) (by omega) ⟨_, q2'⟩ hs3 (fun q hq hlt => hf3.block q hlt (fun e => by simp at e; rcases hq with h | h; exact h.elim; omega) (fun e => by cases e)) (hk.frame (fun q hq => .inr hq) (fun _ _ _ => rfl)) hv' ho hg hat hlt
  have hno : ∀ q, q ≤ B → some q ≠ v.ownBlock := fun q hq e => by have := (owns_at h1 q e.symm).1; omega
  refine ⟨Fo.snoc acc x k, v', _, _, l2, by rw [snoc_len, hacc], ?_, hMd.step hj hE1 hl1 rfl hl2, r1, r2, (r5 0 (by omega)).trans ((World.cell?_of_block eB).trans q0), (r5 1 (by omega)).trans ((World.cell?_of_block eB).trans q1), r3, fun i => (r6 i).trans ((World.frozen?_of_block eB).trans (qf i))⟩
  have hRs3 := (hRs.fr hf2 hR2).fr hf3 hR3
  obtain ⟨a1, a2, a3, a4, a5, a6, a7⟩ := hRs3
  have hA3 : w.heap.size < w3.heap.size := World.block_lt_of_cell? _ _ a3
  have eA := r4 w.heap.size hA3 (hno _ (by omega)) (by omega)
  refine ⟨a1.of_block (r4 rb (by omega) (hno _ (by omega)) (by omega)), ⟨?_, ?_, ?_, by omega, fun q hq e1 e2 => ?_⟩, (World.cell?_of_block eA).trans a3, (World.cell?_of_block eA).trans a4, (World.cell?_of_block eA).trans a5, fun i => (World.frozen?_of_block eA).trans (a6 i), a7⟩
  · show w4.os = _; rw [hg.os]; exact a2.os
  · show w4.tape = _; rw [hg.tape]; exact a2.tape
  · show w4.output = _; rw [hg.output]; exact a2.output
  · rw [r4 q (by omega) (hno _ (by omega)) (by omega)]
    exact a2.block q hq e1 e2
theorem md_zero {s : List Int} {f m : Nat} {r : List UInt8} {acc : Fo} {E : Int} {l : List UInt8} (hm : m = 0) (h : Md (readT s f) m r m acc E l) : E = 0 ∧ acc = .nil ∧ l = r := by
  subst hm
  by_cases h0 : E = 0
  · obtain ⟨h1, _⟩ := h.2 h0
    simp only [readA, Nat.sub_self, Prod.mk.injEq, true_and] at h1
    exact ⟨h0, h1.1.symm, h1.2.symm⟩
  · have := h.1 h0
    simp only [readA] at this
    exact absurd this.symm h0
theorem row_fr {wr w2 : World} {B rb : Nat} {acc : Fo} {v : Value} {xs : List Value} (h1 : wr.ownsRow (B + 1) 37 3 v (Fo.len acc) xs) (h2 : CellsOf (Rm B (fun _ => False) wr v) wr acc xs) (hf : Fr wr w2 (some rb) none) (hr : rb < B) : SB (fun q => B + 1 ≤ q ∧ q < w2.heap.size) w2 acc v := by
  have hs := hf.size
  have hb : ∀ q, B + 1 ≤ q → q < wr.heap.size → w2.heap[q]? = wr.heap[q]? := fun q hq hlt => hf.block q hlt (fun e => by simp at e; omega) (fun e => by cases e)
  have h1' : w2.ownsRow (B + 1) 37 3 v (Fo.len acc) xs := owns_keep h1 (fun g hg => by have := owns_at h1 g hg; exact hb g (by omega) this.2)
  have h2' : CellsOf (fun q => B + 1 ≤ q ∧ q < w2.heap.size) w2 acc xs := CellsOf.frame (fun q hq => by rcases hq with h | ⟨p1, p2, p3⟩; exact h.elim; exact ⟨p1, by omega⟩) (fun q i hq => by
    rcases hq with h | ⟨p1, p2, p3⟩
    · exact h.elim
    · exact World.cell?_of_block (hb q p1 p2)) h2
  exact row_sb h1' h2' (fun q hq => hq) (fun g hg => by have := owns_at h1' g hg; exact this)
set_option maxHeartbeats 2000000 in
set_option maxRecDepth 100000 in
theorem term_any (s : List Int) : ∀ f, TermSaid s f := by
  intro f
  induction f with
  | zero =>
    intro W sv l e w rb _ _ _ _ hR hl
    by_cases he : e = 0
    · have := (hl he).1; omega
    · exact term_bad s 0 sv l e w rb hR he
  | succ f ih =>
    intro W sv l e w rb hN hs hWr hBW hR hl
    by_cases he : e = 0
    case neg => exact term_bad s (f + 1) sv l e w rb hR he
    subst he
    obtain ⟨hlf, hlm⟩ := hl rfl
    unfold maxLen at hlm
    have HI := hide ih
    have HS := hide (Rs.start hR)
    have Hd : Hid (rdE s (f + 1) l 0 = (readT s (f + 1) l).1) := by simp [Hid, rdE]
    have HN := hide hN
    have Hs := hide hs
    have HBW := hide hBW
    obtain ⟨sa, sc, sb, so, rfl, hsa, hslc, hscm, hsF⟩ := hN
    have HsF := hide hsF
    unfold maxLen at hscm
    clear hl ih hs hBW hsF hR
    go_enter Tryd.func82, Tryd.ntmps82
    go_upto_region 1 with fail
    generalize w.alloc (.cells #[.bool false, .int .i64 0, .slice none 0 0] 37) = w0 at *
    cases l with
    | nil =>
      have Hf : Hid ((readT s (f + 1) []).1 = 8) := rfl
      obtain ⟨⟨h0, h1, h2, hf⟩, -, r0, r1, r2, rf, hlt⟩ := HS.out
      go_wp2_with fail
      refine (fail_any rb _ [] 8 w0 HS.out.1).mono ?_
      rintro e w' ⟨rfl, hw'⟩
      have HS2 := hide (HS.out.setE 8)
      rw [← hw'] at HS2
      clear hw' h0 h1 h2 hf r0 r1 r2 rf
      obtain ⟨⟨h0, h1, h2, hf⟩, -, r0, r1, r2, rf, -⟩ := HS2.out
      go_wp2_with fail
      refine bodyPost_ret (v := .agg #[.bool false, .int .i64 0, .slice none 0 0]) (by simp [results, Tryd.results82, go_sem, r0, r1, r2]) rfl (TermPost.mk ⟨(false, 0), .nil, none, 0, 0, [], rfl, SB.nil _ _, (HS2.out.fin _ _ _).2, ?_, fun h => ?_⟩)
      · rw [Hd.out, Hf.out]; exact (HS2.out.fin _ _ _).1
      · rw [Hd.out, Hf.out] at h; cases h
    | cons c r =>
      simp only [List.length_cons] at hlf hlm
      have hc : (c.toNat : Int) < 256 := by have := c.toNat_lt; omega
      have hsl := run_tail c r
      have HS2 := hide (HS.out.setS r)
      obtain ⟨⟨h0, h1, h2, hf⟩, -, r0, r1, r2, rf, hlt⟩ := HS.out
      go_upto_region 8 with fail
      generalize w0.setCell ⟨rb, 1, none⟩ (.string ⟨r.toArray⟩) = w1 at *
      clear h0 h1 h2 hf r0 r1 r2 rf hsl HS
      obtain ⟨⟨h0, h1, h2, hf⟩, -, r0, r1, r2, rf, -⟩ := HS2.out
      by_cases h88 : c = 88
      · have hcb : ((c.toNat : Int) == 88) = true := by rw [h88]; rfl
        have Hf : Hid (readT s (f + 1) (c :: r) = ((rvar r).1, ((rvar r).2.1, .nil), (rvar r).2.2)) := by rw [Hid, readT, if_pos h88]
        clear h88
        cases r with
        | nil =>
          have Hv : Hid ((rvar []).1 = 8) := rfl
          go_wp2_with fail
          refine (fail_any rb _ [] 8 w1 HS2.out.1).mono ?_
          rintro e w' ⟨rfl, hw'⟩
          have HS3 := hide (HS2.out.setE 8)
          rw [← hw'] at HS3
          clear hw' h0 h1 h2 hf r0 r1 r2 rf
          obtain ⟨⟨h0, h1, h2, hf⟩, -, r0, r1, r2, rf, -⟩ := HS3.out
          go_wp2_with fail
          refine bodyPost_ret (v := .agg #[.bool false, .int .i64 0, .slice none 0 0]) (by simp [results, Tryd.results82, go_sem, r0, r1, r2]) rfl (TermPost.mk ⟨(false, 0), .nil, none, 0, 0, [], rfl, SB.nil _ _, (HS3.out.fin _ _ _).2, ?_, fun h => ?_⟩)
          · rw [Hd.out, Hf.out]; exact (HS3.out.fin _ _ _).1
          · rw [Hd.out, Hf.out] at h; cases h
        | cons d r =>
          have hd : (d.toNat : Int) < 256 := by have := d.toNat_lt; omega
          by_cases hdd : (d.toNat : Int) - 48 < 0 ∨ 5 ≤ (d.toNat : Int) - 48
          · have Hv : Hid ((readT s (f + 1) (c :: d :: r)).1 = 3) := by rw [Hid, Hf.out, rvar, if_pos hdd]
            by_cases hd0 : (d.toNat : Int) < 48
            · clear hdd
              go_wp2_with fail
              refine (fail_any rb _ (d :: r) 3 w1 HS2.out.1).mono ?_
              rintro e w' ⟨rfl, hw'⟩
              have HS3 := hide (HS2.out.setE 3)
              rw [← hw'] at HS3
              clear hw' h0 h1 h2 hf r0 r1 r2 rf
              obtain ⟨⟨h0, h1, h2, hf⟩, -, r0, r1, r2, rf, -⟩ := HS3.out
              go_wp2_with fail
              refine bodyPost_ret (v := .agg #[.bool false, .int .i64 0, .slice none 0 0]) (by simp [results, Tryd.results82, go_sem, r0, r1, r2]) rfl (TermPost.mk ⟨(false, 0), .nil, none, 0, 0, (d :: r), rfl, SB.nil _ _, (HS3.out.fin _ _ _).2, ?_, fun h => ?_⟩)
              · rw [Hd.out, Hv.out]; exact (HS3.out.fin _ _ _).1
              · rw [Hd.out, Hv.out] at h; cases h
            · have hd1 : (52 : Int) < (d.toNat : Int) := by omega
              clear hdd
              go_wp2_with fail
              refine (fail_any rb _ (d :: r) 3 w1 HS2.out.1).mono ?_
              rintro e w' ⟨rfl, hw'⟩
              have HS3 := hide (HS2.out.setE 3)
              rw [← hw'] at HS3
              clear hw' h0 h1 h2 hf r0 r1 r2 rf
              obtain ⟨⟨h0, h1, h2, hf⟩, -, r0, r1, r2, rf, -⟩ := HS3.out
              go_wp2_with fail
              refine bodyPost_ret (v := .agg #[.bool false, .int .i64 0, .slice none 0 0]) (by simp [results, Tryd.results82, go_sem, r0, r1, r2]) rfl (TermPost.mk ⟨(false, 0), .nil, none, 0, 0, (d :: r), rfl, SB.nil _ _, (HS3.out.fin _ _ _).2, ?_, fun h => ?_⟩)
              · rw [Hd.out, Hv.out]; exact (HS3.out.fin _ _ _).1
              · rw [Hd.out, Hv.out] at h; cases h
          · have Hv : Hid (readT s (f + 1) (c :: d :: r) = (0, ((true, (d.toNat : Int) - 48), .nil), r)) := by rw [Hid, Hf.out, rvar, if_neg hdd]
            have hd0 : ¬ (d.toNat : Int) < 48 := by omega
            have hd1 : ¬ (52 : Int) < (d.toNat : Int) := by omega
            have hsl := run_tail d r
            have HS3 := hide (HS2.out.setS r)
            clear hdd Hf
            simp only [List.length_cons] at hlf hlm
            go_upto_region 17 with fail
            generalize w1.setCell ⟨rb, 1, none⟩ (.string ⟨r.toArray⟩) = w2 at *
            clear h0 h1 h2 hf r0 r1 r2 rf hsl
            obtain ⟨⟨h0, h1, h2, hf⟩, -, r0, r1, r2, rf, -⟩ := HS3.out
            go_wp2_with fail
            refine bodyPost_ret (v := .agg #[.bool true, .int .i64 ((d.toNat : Int) - 48), .slice none 0 0]) (by simp [results, Tryd.results82, go_sem, r0, r1, r2]) rfl (TermPost.mk ⟨(true, (d.toNat : Int) - 48), .nil, none, 0, 0, r, rfl, SB.nil _ _, (HS3.out.fin _ _ _).2, ?_, fun _ => ?_⟩)
            · rw [Hd.out, Hv.out]; exact (HS3.out.fin _ _ _).1
            · rw [Hv.out]; exact ⟨rfl, rfl⟩
      · have hcb : ((c.toNat : Int) == 88) = false := by
          rw [beq_eq_false_iff_ne]
          intro e
          exact h88 (UInt8.toNat_inj.1 (by have : c.toNat = 88 := by omega
                                           rw [this]; rfl))
        have Ht : Hid (readT s (f + 1) (c :: r) = if (c.toNat : Int) - 97 < 0 ∨ (s.length : Int) ≤ (c.toNat : Int) - 97 then (7, ((false, 0), .nil), []) else
            if (argsT (readT s f) (s.getD ((c.toNat : Int) - 97).toNat 0) r).1 ≠ 0 then ((argsT (readT s f) (s.getD ((c.toNat : Int) - 97).toNat 0) r).1, ((false, 0), .nil), []) else
            (0, ((false, (c.toNat : Int) - 97), (argsT (readT s f) (s.getD ((c.toNat : Int) - 97).toNat 0) r).2.1), (argsT (readT s f) (s.getD ((c.toNat : Int) - 97).toNat 0) r).2.2)) := by rw [Hid, readT, if_neg h88]
        clear h88
        by_cases hc0 : (c.toNat : Int) < 97
        · have Hv : Hid ((readT s (f + 1) (c :: r)).1 = 7) := by rw [Hid, Ht.out, if_pos (.inl (by omega))]
          clear Ht
          go_wp2_with fail
          refine (fail_any rb _ r 7 w1 HS2.out.1).mono ?_
          rintro e w' ⟨rfl, hw'⟩
          have HS3 := hide (HS2.out.setE 7)
          rw [← hw'] at HS3
          clear hw' h0 h1 h2 hf r0 r1 r2 rf
          obtain ⟨⟨h0, h1, h2, hf⟩, -, r0, r1, r2, rf, -⟩ := HS3.out
          go_wp2_with fail
          refine bodyPost_ret (v := .agg #[.bool false, .int .i64 0, .slice none 0 0]) (by simp [results, Tryd.results82, go_sem, r0, r1, r2]) rfl (TermPost.mk ⟨(false, 0), .nil, none, 0, 0, r, rfl, SB.nil _ _, (HS3.out.fin _ _ _).2, ?_, fun h => ?_⟩)
          · rw [Hd.out, Hv.out]; exact (HS3.out.fin _ _ _).1
          · rw [Hd.out, Hv.out] at h; cases h
        by_cases hc1 : (s.length : Int) ≤ (c.toNat : Int) - 97
        · have Hv : Hid ((readT s (f + 1) (c :: r)).1 = 7) := by rw [Hid, Ht.out, if_pos (.inr hc1)]
          clear Ht
          go_wp2_with fail
          refine (fail_any rb _ r 7 w1 HS2.out.1).mono ?_
          rintro e w' ⟨rfl, hw'⟩
          have HS3 := hide (HS2.out.setE 7)
          rw [← hw'] at HS3
          clear hw' h0 h1 h2 hf r0 r1 r2 rf
          obtain ⟨⟨h0, h1, h2, hf⟩, -, r0, r1, r2, rf, -⟩ := HS3.out
          go_wp2_with fail
          refine bodyPost_ret (v := .agg #[.bool false, .int .i64 0, .slice none 0 0]) (by simp [results, Tryd.results82, go_sem, r0, r1, r2]) rfl (TermPost.mk ⟨(false, 0), .nil, none, 0, 0, r, rfl, SB.nil _ _, (HS3.out.fin _ _ _).2, ?_, fun h => ?_⟩)
          · rw [Hd.out, Hv.out]; exact (HS3.out.fin _ _ _).1
          · rw [Hd.out, Hv.out] at h; cases h
        rw [if_neg (by omega)] at Ht
        have hc0' : 97 ≤ (c.toNat : Int) := by omega
        have hc1' : (c.toNat : Int) - 97 < (s.length : Int) := by omega
        have hc2' : 0 ≤ (c.toNat : Int) - 97 := by omega
        have hsa' : sa = some ⟨sb, so, none⟩ := hsa (by omega)
        subst hsa'
        have hB1W : Below W.heap.size W w1 := HBW.out.trans (HS2.out.2.1.below HBW.out.size (fun g hg => by cases hg; exact hWr) (fun g hg => by cases hg))
        have hcell := grow_cell hB1W _ _ (HsF.out ((c.toNat : Int) - 97).toNat (by omega))
        have Hm := hide (sig_at Hs.out (i := ((c.toNat : Int) - 97).toNat) (by omega))
        have hcell1 := grow_cell (below_alloc w1 (.cells #[.bool false, .int .i64 ((c.toNat : Int) - 97), .slice none 0 0] 37)) _ _ hcell
        have hrb1 : rb < w1.heap.size := HS2.out.1.lt
        have k0 : (w1.alloc (.cells #[.bool false, .int .i64 ((c.toNat : Int) - 97), .slice none 0 0] 37)).cell? ⟨rb, 0, none⟩ = some (.slice (some ⟨sb, so, none⟩) s.length sc) := grow_cell (below_alloc _ _) _ _ h0
        generalize s.getD ((c.toNat : Int) - 97).toNat 0 = mm at *
        obtain ⟨m, rfl⟩ := Int.eq_ofNat_of_zero_le Hm.out.1
        have hm2 : m ≤ 2 := by have := Hm.out.2; omega
        clear hsa hcell hc1 hc0
        go_wp2_with fail
        go_quiet (fail)
        go_wp2_with fail
        have hAB : w.heap.size < w1.heap.size := World.block_lt_of_cell? _ _ r0
        have Hst : Hid (TmRel s f m r w rb w1.heap.size (.slice (some ⟨sb, so, none⟩) s.length sc) ((c.toNat : Int) - 97) 0 ((w1.alloc (.cells #[.bool false, .int .i64 ((c.toNat : Int) - 97), .slice none 0 0] 37)).drewN nq)) :=
          ⟨.nil, .slice none 0 0, [], 0, r, rfl, HS2.out.below (below_drewN (below_alloc _ _) _), ⟨fun h => absurd rfl h, fun _ => ⟨rfl, Nat.le_refl _⟩⟩, ⟨rfl, .inl ⟨rfl, rfl⟩⟩, rfl, by simp, by simp, by simp, fun i => by simp⟩
        clear hcell1 k0 h0 h1 h2 hf r0 r1 r2 rf hc1' hc2' hc0' hcb hc
        generalize (c.toNat : Int) - 97 = nn at *
        generalize w1.heap.size = B at *
        go_loopw [108] (fun i wr => ∃ j : Nat, j ≤ m ∧ i = .int .i64 j ∧ TmRel s f m r w rb B (.slice (some ⟨sb, so, none⟩) s.length sc) nn j wr) (fun i _ => m - (intOf i).toNat)
        case atStart => exact ⟨0, Nat.zero_le _, rfl, Hst.out⟩
        case round =>
          obtain ⟨j, hj, rfl, acc, v, xs, E, l, hacc, hRs, hMd, hR1, hR2, q0, q1, q2, qf⟩ := hrel
          clear Hst
          have HRs := hide hRs
          have HMd := hide hMd
          have HR1 := hide hR1
          have HR2 := hide hR2
          have Hqf := hide qf
          have Hacc := hide hacc
          obtain ⟨z1, z3, rfl⟩ := slice_of_owns hR1
          have hBl : B < wr.heap.size := World.block_lt_of_cell? _ _ q0
          have hrbw : rb < w.heap.size := hRs.2.2.2.2.2.2
          clear hMd hR1 hR2 qf hRs hacc
          by_cases hjm : j < m
          · have hjm' : (j : Int) < (m : Int) := by omega
            go_upto_if 112 with fail
            go_cut [108] (fun s108 wx => s108 = .int .i64 j ∧ ∃ l1, RdAt wx rb (.slice (some ⟨sb, so, none⟩) s.length sc) l1 (isE (signF j) l E) ∧ (isE (signF j) l E = 0 → l1 = (sgn (signF j) l).2) ∧ Fr wr wx (some rb) none ∧ wx.heap.size = wr.heap.size)
            case first =>
              have Hlm : Hid (E = 0 → l.length ≤ maxLen) := fun h => by
                have := (HMd.out.2 h).2
                unfold maxLen
                omega
              by_cases hj0 : j = 0
              · have hjb : ((j : Int) == 0) = true := by rw [beq_iff_eq]; omega
                have Hsg : Hid (signF (j : Int) = 40) := by rw [Hid, signF, if_pos (by omega)]
                clear hj0
                go_wp2_with fail
                refine (is40 rb _ l E wr HRs.out.1 Hlm.out).mono ?_
                rintro e w' ⟨rfl, hl1, hfr, hsz⟩
                go_wp2_with fail
                go_meet
                case rel =>
                  rw [Hsg.out]
                  obtain ⟨l1, h1, h2⟩ := hl1
                  exact ⟨rfl, l1, h1, h2, hfr, hsz⟩
              · have hjb : ((j : Int) == 0) = false := by rw [beq_eq_false_iff_ne]; omega
                have Hsg : Hid (signF (j : Int) = 44) := by rw [Hid, signF, if_neg (by omega)]
                clear hj0
                go_wp2_with fail
                refine (is44 rb _ l E wr HRs.out.1 Hlm.out).mono ?_
                rintro e w' ⟨rfl, hl1, hfr, hsz⟩
                go_wp2_with fail
                go_meet
                case rel =>
                  rw [Hsg.out]
                  obtain ⟨l1, h1, h2⟩ := hl1
                  exact ⟨rfl, l1, h1, h2, hfr, hsz⟩
            case rest =>
              obtain ⟨rfl, l1, hR2', hl1, hf2, hs2⟩ := hcut
              generalize wc = w2 at *
              have HR2' := hide hR2'
              have Hl1 := hide hl1
              have Hf2 := hide hf2
              have eB : w2.heap[B]? = wr.heap[B]? := hf2.block B hBl (fun e => by simp at e; omega) (fun e => by cases e)
              have g2 : w2.cell? ⟨B, 2, none⟩ = some (.slice z1 (Fo.len acc) z3) := (World.cell?_of_block eB).trans q2
              have gf : ∀ i, w2.frozen? ⟨B, i, none⟩ = false := fun i => (World.frozen?_of_block eB).trans (Hqf.out i)
              have hB2 : B < w2.heap.size := by omega
              have Hown2 : Hid (w2.ownsRow (B + 1) 37 3 (.slice z1 (Fo.len acc) z3) (Fo.len acc) xs) := owns_keep HR1.out (fun g hg => by
                have h := owns_at HR1.out g hg
                exact hf2.block g h.2 (fun e => by simp at e; omega) (fun e => by cases e))
              have HB2W : Hid (Below W.heap.size W w2) := HBW.out.trans (((HRs.out.fr hf2 hR2').2.1).below HBW.out.size (fun g hg => by cases hg; exact hWr) (fun g hg => by cases hg))
              have Hlen1 : Hid (isE (signF j) l E = 0 → l1.length < f ∧ l1.length ≤ maxLen) := fun h => by
                have h1 := Hl1.out h
                have hE : E = 0 := by
                  rcases Decidable.em (E = 0) with e | e
                  · exact e
                  · rw [isE, if_pos e] at h; exact absurd h e
                subst hE
                have h2 := (HMd.out.2 rfl).2
                have h3 := sgn_len (signF j) l (by rw [isE] at h; simpa using h)
                rw [h1]
                unfold maxLen
                omega
              obtain ⟨i26, hi26, hz0, hz1, hz2⟩ := info_parts Tryd.info37
              have hn1 : Fo.len acc + 1 ≤ maxLen := by rw [Hacc.out]; unfold maxLen; omega
              have hn2 : (Fo.len acc + 1) * 40 ≤ 140737488355328 := by rw [Hacc.out]; omega
              obtain ⟨E1, hE1⟩ : ∃ E1, E1 = isE (signF j) l E := ⟨_, rfl⟩
              have HE1 := hide hE1
              rw [← hE1] at HR2' Hlen1 Hl1
              clear hR2' hl1 hf2 hE1
              go_upto_region 29 with fail
              go_region_law (first
                | (refine step_append_lies _ (by rfl) _ _ _ (by rfl) (B + 1) 37 i26 (.agg #[.bool false, .int .i64 0, .slice none 0 0]) 3 40 Tryd.underlying35 hi26 hz0 hz1 hz2 rfl (by decide) (.slice z1 (Fo.len acc) z3) (Fo.len acc) xs (by rfl) Hown3.out ⟨w3.heap.size, 0, none⟩ 1 1 [.bool xv, .int .i64 xn, .slice a1 a2 a3] (by rfl) (by rfl) Hnews.out (by simp [Value.oneCell']) (by decide) hn1 hn2 (by simp; omega) (w3.heap.size + 1) (by simp) ?_; intro g cap w4 ho4 hg4 hat4 hlt4; have x2 := out_cell hg4 hB3 Hno.out g3; have xf := out_frozen hg4 hB3 Hno.out gf3)
                | (go_simp; go_at_call 82; refine (HI.out W _ l1 E1 _ rb HN.out Hs.out hWr ?_ ?_ Hlen1.out).mono ?_; (exact HB2W.out.drew); (exact HR2'.out.of_block rfl); rintro e w3 hT; obtain ⟨⟨xv, xn⟩, xk, a1, a2, a3, l2, rfl, hSk, hf3, hR3, hl2⟩ := hT
                   have hs3 := hf3.size; have eB3 : w3.heap[B]? = w2.heap[B]? := (hf3.block B hB2 (fun e => by simp at e; omega) (fun e => by cases e)); have g3 : w3.cell? ⟨B, 2, none⟩ = some (.slice z1 (Fo.len acc) z3) := ((World.cell?_of_block eB3).trans g2); have gf3 : ∀ i, w3.frozen? ⟨B, i, none⟩ = false := (fun i => (World.frozen?_of_block eB3).trans (gf i)); have hB3 : B < w3.heap.size := Nat.lt_of_lt_of_le hB2 hs3
                   have Hno : Hid (some B ≠ (Value.slice z1 (Fo.len acc) z3).ownBlock) := (fun e => by have := (owns_at Hown2.out _ e.symm).1; omega)
                   have Hown3 : Hid ((w3.alloc (.cells #[.bool xv, .int .i64 xn, .slice a1 a2 a3] 37)).ownsRow (B + 1) 37 3 (.slice z1 (Fo.len acc) z3) (Fo.len acc) xs) := (owns_keep Hown2.out (fun g hg => by have h := owns_at Hown2.out g hg; have hs : w2.heap.size ≤ w3.heap.size := hs3; rw [Below.heap_alloc _ _ _ (by omega)]; exact hf3.block g h.2 (fun e => by simp at e; omega) (fun e => by cases e)))
                   have Hnews : Hid (∀ j u, [Value.bool xv, .int .i64 xn, .slice a1 a2 a3][j]? = some u → (w3.alloc (.cells #[.bool xv, .int .i64 xn, .slice a1 a2 a3] 37)).cell? ((⟨w3.heap.size, 0, none⟩ : Addr).add j) = some u) := (World.news_of_block (cs := #[.bool xv, .int .i64 xn, .slice a1 a2 a3]) (heap_alloc_new w3 _))))
              all_goals
                have Hst := hide (tm_next (x := (xv, xn)) (k := xk) Hacc.out HRs.out HMd.out hjm HR1.out HR2.out q0 q1 q2 Hqf.out hAB HE1.out Hl1.out Hf2.out hs2 HR2'.out hSk ⟨hf3.os, hf3.tape, hf3.output, hf3.size, hf3.block⟩ hR3 hl2 rfl ho4 hg4 hat4 hlt4)
                clear hSk hf3 hR3 hl2 ho4 hg4 hat4 hlt4 x2 xf g3 gf3 Hown3 Hnews hi26 hz0 hz1 hz2
                go_wp2_with fail
                go_roundw
                case rel => exact ⟨j + 1, by omega, by go_num, Hst.out⟩
                case measure => simp [intOf]; omega
          · have hje : j = m := by omega
            subst hje
            by_cases hm0 : j = 0
            · have Hfin := hide (md_zero hm0 HMd.out)
              have Hv : Hid (readT s (f + 1) (c :: r) = (0, ((false, nn), acc), l)) := by
                have hA : argsT (readT s f) (j : Int) r = (0, .nil, r) := by rw [argsT, if_pos (by omega)]
                rw [Hid, Ht.out, hA, Hfin.out.2.1, Hfin.out.2.2]
                simp
              have HSB := hide (row_fr HR1.out HR2.out (Fr.refl wr (some rb) none) (by omega))
              have HRs0 : Hid (Rs w rb (.slice (some ⟨sb, so, none⟩) s.length sc) l 0 wr) := by
                have := HRs.out
                rw [Hfin.out.1] at this
                exact this
              obtain ⟨-, -, r0, r1, r2, rf, -⟩ := HRs.out
              have hj0 : ¬ (0 : Int) < (j : Int) := by omega
              have hge : ¬ ((j : Int) < (j : Int)) := by omega
              clear hjm hm0
              go_wp2_with fail
              refine bodyPost_ret (v := .agg #[.bool false, .int .i64 nn, .slice z1 (Fo.len acc) z3]) (by simp [results, Tryd.results82, go_sem, r0, r1, r2]) rfl (TermPost.mk ⟨(false, nn), acc, _, _, _, l, rfl, ?_, (HRs0.out.fin _ _ _).2, ?_, fun _ => ?_⟩)
              · exact (HSB.out.set3 (b := w.heap.size) (o := 0) (by omega)).frame (fun q hq => ⟨by omega, by rw [World.size_setCell, World.size_setCell, World.size_setCell]; exact hq.2⟩) (fun _ _ _ => rfl)
              · rw [Hd.out, Hv.out]; exact (HRs0.out.fin _ _ _).1
              · rw [Hv.out]; exact ⟨rfl, rfl⟩
            · have hm1 : (0 : Int) < (j : Int) := by omega
              have hge : ¬ ((j : Int) < (j : Int)) := by omega
              have Hlm : Hid (E = 0 → l.length ≤ maxLen) := fun h => by
                have := (HMd.out.2 h).2
                unfold maxLen
                omega
              have hj00 : 0 < j := by omega
              clear hjm hm0
              go_wp2_with fail
              refine (is41 rb _ l E wr HRs.out.1 Hlm.out).mono ?_
              rintro e w2 ⟨rfl, ⟨l3, hR3, hl3⟩, hf3, hs3⟩
              have HRs3 := hide (HRs.out.fr hf3 hR3)
              have HSB := hide (row_fr HR1.out HR2.out hf3 (by omega))
              have Hfin := hide (HMd.out.fin hj00 rfl hl3)
              obtain ⟨E3, hE3⟩ : ∃ E3, E3 = isE 41 l E := ⟨_, rfl⟩
              rw [← hE3] at Hfin HRs3
              have Hv : Hid ((readT s (f + 1) (c :: r)).1 = E3) := by
                rw [Hid, Ht.out]
                by_cases h : E3 = 0
                · rw [if_neg (by rw [Hfin.out.1]; simpa using h), h]
                · rw [if_pos (by rw [Hfin.out.1]; exact h), Hfin.out.1]
              have Hv2 : Hid (E3 = 0 → readT s (f + 1) (c :: r) = (0, ((false, nn), acc), l3)) := fun h => by
                rw [Ht.out, if_neg (by rw [Hfin.out.1]; simpa using h), Hfin.out.2 h]
              have eB : w2.heap[B]? = wr.heap[B]? := hf3.block B hBl (fun e => by simp at e; omega) (fun e => by cases e)
              have q0' := (World.cell?_of_block (a := ⟨B, 0, none⟩) eB).trans q0
              have q1' := (World.cell?_of_block (a := ⟨B, 1, none⟩) eB).trans q1
              have q2' := (World.cell?_of_block (a := ⟨B, 2, none⟩) eB).trans q2
              obtain ⟨-, -, r0, r1, r2, rf, -⟩ := HRs3.out
              clear hR3 hl3 hf3 hE3 q0 q1 q2
              go_wp2_with fail
              refine bodyPost_ret (v := .agg #[.bool false, .int .i64 nn, .slice z1 (Fo.len acc) z3]) (by simp [results, Tryd.results82, go_sem, r0, r1, r2]) rfl (TermPost.mk ⟨(false, nn), acc, _, _, _, l3, rfl, ?_, (HRs3.out.fin _ _ _).2, ?_, fun h => ?_⟩)
              · exact (HSB.out.set3 (b := w.heap.size) (o := 0) (by omega)).frame (fun q hq => ⟨by omega, by rw [World.size_setCell, World.size_setCell, World.size_setCell]; exact hq.2⟩) (fun _ _ _ => rfl)
              · rw [Hd.out, Hv.out]; exact (HRs3.out.fin _ _ _).1
              · rw [Hd.out, Hv.out] at h
                rw [Hv2.out h]; exact ⟨rfl, rfl⟩
end Go.Proofs.YtlgnpiphaeoeiadDoor
