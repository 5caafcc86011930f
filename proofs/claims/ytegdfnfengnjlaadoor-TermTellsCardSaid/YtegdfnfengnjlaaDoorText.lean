/- A term's text: what is appended to it. -/
import Derived.Test.YtegdfnfengnjlaaDoorParse
import Derived.Lib.AppendStr
namespace Go.Proofs.YtegdfnfengnjlaaDoor
open Go.RowKit Go.Deep Go.ChangeShapes Go.WideShapes

theorem Tryd.info5 : (Tryd.prog.info? 5).map (fun i => (i.zero, i.size, i.bytes)) = some (some (.int .u8 0), 1, 1) := by kernel_rfl

abbrev bytesV (bs : List UInt8) : List Value := bs.map fun b => Value.int .u8 (b.toNat : Int)

/-- A string appended: in the old row, or in a new block. -/
theorem run_append_str {P : Program} (w : World) (base : Nat) (t u ty e : TypeId) (i : TypeInfo) (ht : P.underlying t = some (.slice e)) (hu : P.underlying u = some .string) (hi : P.info? e = some i) (hz : i.zero = some (.int .u8 0))
    (hsize : i.size = 1) (hby : i.bytes = 1) (v : Value) (n : Nat) (xs : List Value) (hown : w.ownsRow base e 1 v n xs) (s : ByteArray) (h0 : 0 < s.size)
    (h63 : n + s.size ≤ maxLen) (hbytes : n + s.size ≤ 140737488355328) (hbase : base ≤ w.heap.size) :
    ∃ g cap w', (Builtin.append_ #[t, u] ty #[v, .string s]).run P w = .ok (.slice (some ⟨g, 0, none⟩) (n + s.size) cap) w' ∧ w'.ownsRow base e 1 (.slice (some ⟨g, 0, none⟩) (n + s.size) cap) (n + s.size) (xs ++ Lib.strCells s) ∧ w.grownBy w' v.ownBlock ∧ (v.ownBlock = some g ∨ g = w.heap.size) := by
  obtain ⟨v', w', hr, h2, h3, _⟩ := Lib.run_append_own_string (P := P) w base t u ty e i ht hu hi hz hsize hby v n xs hown s h63 hbytes hbase
  obtain ⟨g, cap, rfl, _, _⟩ := h2.form (by omega)
  refine ⟨g, cap, w', hr, h2, h3, ?_⟩
  have hsmall : n + s.size ≤ 9223372036854775807 := by simp only [maxLen] at h63; omega
  rcases hown.2 with ⟨rfl, rfl⟩ | ⟨g0, cap0, cur, rfl, hbg, hg, hnc, hcm, hcs, htake⟩
  · have hr2 := run_append_nil_string (P := P) w t u ty e i (.int .u8 0) ht hu hi hz s h0 (by omega) (by rw [hby]; omega)
    rw [hr] at hr2
    simp only [Result.ok.injEq, Value.slice.injEq, Option.some.injEq, Addr.mk.injEq] at hr2
    exact .inr hr2.1.1.1
  · by_cases hroom : n + s.size ≤ cap0
    · have hr2 := Lib.run_append_room_string (P := P) w t u ty e i ht hu hi hsize g0 n cap0 cur hg s hroom (by omega)
      rw [hr] at hr2
      simp only [Result.ok.injEq, Value.slice.injEq, Option.some.injEq, Addr.mk.injEq] at hr2
      exact .inl (by rw [hr2.1.1.1]; rfl)
    · have holds : ∀ j u, xs[j]? = some u → w.cell? ((⟨g0, 0, none⟩ : Addr).add j) = some u := hown.cells (g := g0) rfl
      have hr2 := Lib.run_append_grow_string (P := P) w t u ty e i (.int .u8 0) ht hu hi hz ⟨g0, 0, none⟩ n cap0 xs (by rw [hsize]; exact hown.1) holds s (by omega) (by omega) (by rw [hby]; exact growslice_fits (by omega) (by omega))
      rw [hr] at hr2
      simp only [Result.ok.injEq, Value.slice.injEq, Option.some.injEq, Addr.mk.injEq] at hr2
      exact .inr hr2.1.1.1
theorem wpList_append_str {P : Program} (w : World) {ops : Array Oper} {rest : List Oper} {o : Oper} {a : Act} {Q : Exit → Act → World → Prop} (hgd : o.guard = none) (sl x : Operand) (t u : TypeId)
    (ho : o.op = .call { callee := .builtin .append, args := #[sl, x], argTypes := #[t, u] })
    (base : Nat) (e : TypeId) (i : TypeInfo) (ht : P.underlying t = some (.slice e)) (hu : P.underlying u = some .string) (hi : P.info? e = some i) (hz : i.zero = some (.int .u8 0))
    (hsize : i.size = 1) (hby : i.bytes = 1) (v : Value) (n : Nat) (xs : List Value) (hs : a.eval sl = v) (hown : w.ownsRow base e 1 v n xs) (s : ByteArray) (hx : a.eval x = .string s) (h0 : 0 < s.size)
    (h63 : n + s.size ≤ maxLen) (hbytes : n + s.size ≤ 140737488355328) (hbase : base ≤ w.heap.size)
    (h : ∀ g cap w', w'.ownsRow base e 1 (.slice (some ⟨g, 0, none⟩) (n + s.size) cap) (n + s.size) (xs ++ Lib.strCells s) → w.grownBy w' v.ownBlock → (v.ownBlock = some g ∨ g = w.heap.size) → wpList P ops Q rest (a.put o.dst (.slice (some ⟨g, 0, none⟩) (n + s.size) cap)) w') : wpList P ops Q (o :: rest) a w := by
  refine wpList_plain hgd fun K hK => ?_
  obtain ⟨g, cap, w', hr, h2, h3, h4⟩ := run_append_str (P := P) w base t u o.type e i ht hu hi hz hsize hby v n xs hown s h0 h63 hbytes hbase
  unfold Oper.wp execOp
  simp only [ho, resolve, invoke, builtin, Sem.run_bind, Sem.run_pure, Result.andThen_ok, List.map_toArray, List.map_cons, List.map_nil, hs, hx, hr]
  exact hK _ _ (h g cap w' h2 h3 h4)

def dig (n : Int) : UInt8 := UInt8.ofNat (48 + n.toNat)

set_option maxHeartbeats 400000 in
theorem small_any (n : Int) (h0 : 0 ≤ n) (h4 : n ≤ 4) (w : World) : Calls Tryd.prog 56 #[.int .i64 n] w fun e w' => e = .returned (str [dig n]) ∧ w' = w := by
  have : n = 0 ∨ n = 1 ∨ n = 2 ∨ n = 3 ∨ n = 4 := by omega
  rcases this with rfl | rfl | rfl | rfl | rfl <;>
  · go_enter Tryd.func56, Tryd.ntmps56
    go_wp2_with fail
    go_ret
    exact ⟨rfl, rfl⟩

/-- A byte slice of the call's own that has grown by one. -/
def Grew (base : Nat) (w w' : World) (vo : Value) (n : Nat) (g cap : Nat) (cells : List Value) : Prop :=
  w'.ownsRow base 5 1 (.slice (some ⟨g, 0, none⟩) n cap) n cells ∧ Fr w w' vo.ownBlock none ∧ (vo.ownBlock = some g ∨ w.heap.size ≤ g)

set_option maxHeartbeats 400000 in
theorem appendUint_any (n : Int) (h0 : 0 ≤ n) (h4 : n ≤ 4) (base : Nat) (vo : Value) (bs : List UInt8) (w : World) (ho : w.ownsRow base 5 1 vo bs.length (bytesV bs)) (hb : bs.length ≤ 1000000) (hbase : base ≤ w.heap.size) :
    Calls Tryd.prog 55 #[vo, .int .u64 n, .int .i64 10] w fun e w' => ∃ g cap, e = .returned (.slice (some ⟨g, 0, none⟩) (bs.length + 1) cap) ∧ Grew base w w' vo (bs.length + 1) g cap (bytesV (bs ++ [dig n])) := by
  have Ho := hide ho
  obtain ⟨za, zc, rfl⟩ := slice_of_owns ho
  obtain ⟨i5, hi5, hz0, hz1, hz2⟩ := info_parts Tryd.info5
  have hs1 : (⟨[dig n].toArray⟩ : ByteArray).size = 1 := rfl
  have Hs0 : Hid (0 < (⟨[dig n].toArray⟩ : ByteArray).size) := by rw [hs1]; exact Nat.one_pos
  have H63 : Hid (bs.length + (⟨[dig n].toArray⟩ : ByteArray).size ≤ maxLen) := by rw [hs1]; unfold maxLen Hid; omega
  have Hby : Hid (bs.length + (⟨[dig n].toArray⟩ : ByteArray).size ≤ 140737488355328) := by rw [hs1]; unfold Hid; omega
  clear ho hs1
  go_enter Tryd.func55, Tryd.ntmps55
  go_wp2_with fail
  refine (small_any n h0 h4 _).mono ?_
  rintro e w' ⟨rfl, hw'⟩
  rw [hw']
  clear hw' w'
  go_wp2_with (at_builtin; refine wpList_append_str _ rfl (.tmp 13) (.tmp 16) 59 9 rfl base 5 i5 Tryd.underlying59 Tryd.underlying9 hi5 hz0 hz1 hz2 (.slice za bs.length zc) bs.length (bytesV bs) rfl Ho.out ⟨[dig n].toArray⟩ rfl Hs0.out H63.out Hby.out hbase ?_; intro g cap w1 ho1 hg1 hat1)
  go_ret
  refine ⟨g, cap, rfl, ?_, Fr.of_grown hg1 (fun q _ h => .inl h.symm), ?_⟩
  · rw [show bytesV (bs ++ [dig n]) = bytesV bs ++ Lib.strCells ⟨[dig n].toArray⟩ by simp [Lib.strCells]]
    exact ho1
  · rcases hat1 with h | h
    · exact .inl h
    · exact .inr (by omega)

set_option maxHeartbeats 400000 in
theorem appendIntI_any (n : Int) (h0 : 0 ≤ n) (h4 : n ≤ 4) (base : Nat) (vo : Value) (bs : List UInt8) (w : World) (ho : w.ownsRow base 5 1 vo bs.length (bytesV bs)) (hb : bs.length ≤ 1000000) (hbase : base ≤ w.heap.size) :
    Calls Tryd.prog 52 #[vo, .int .i64 n, .int .i64 10] w fun e w' => ∃ g cap, e = .returned (.slice (some ⟨g, 0, none⟩) (bs.length + 1) cap) ∧ Grew base w w' vo (bs.length + 1) g cap (bytesV (bs ++ [dig n])) := by
  have Ho := hide ho
  obtain ⟨za, zc, rfl⟩ := slice_of_owns ho
  have hn : ¬ n < 0 := by omega
  clear ho
  go_enter Tryd.func52, Tryd.ntmps52
  go_wp2_with fail
  refine (appendUint_any n h0 h4 base _ bs w Ho.out hb hbase).mono ?_
  rintro e w1 ⟨g, cap, rfl, hG⟩
  have HG := hide hG
  clear hG
  go_wp2_with fail
  go_ret
  exact ⟨g, cap, rfl, HG.out⟩

set_option maxHeartbeats 400000 in
theorem appendInt_any (n : Int) (h0 : 0 ≤ n) (h4 : n ≤ 4) (base : Nat) (vo : Value) (bs : List UInt8) (w : World) (ho : w.ownsRow base 5 1 vo bs.length (bytesV bs)) (hb : bs.length ≤ 1000000) (hbase : base ≤ w.heap.size) :
    Calls Tryd.prog 49 #[vo, .int .i64 n, .int .i64 10] w fun e w' => ∃ g cap, e = .returned (.slice (some ⟨g, 0, none⟩) (bs.length + 1) cap) ∧ Grew base w w' vo (bs.length + 1) g cap (bytesV (bs ++ [dig n])) := by
  have Ho := hide ho
  obtain ⟨za, zc, rfl⟩ := slice_of_owns ho
  clear ho
  go_enter Tryd.func49, Tryd.ntmps49
  go_wp2_with fail
  refine (appendIntI_any n h0 h4 base _ bs w Ho.out hb hbase).mono ?_
  rintro e w1 ⟨g, cap, rfl, hG⟩
  have HG := hide hG
  clear hG
  go_wp2_with fail
  go_ret
  exact ⟨g, cap, rfl, HG.out⟩

end Go.Proofs.YtegdfnfengnjlaaDoor
