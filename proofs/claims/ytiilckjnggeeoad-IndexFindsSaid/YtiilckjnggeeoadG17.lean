/- CRt A8 R5 RSolve RRen Tells2 -/
import Derived.Test.YtiilckjnggeeoadG16
import Derived.Deep.RegionHeld3
namespace Go.Proofs.Ytiilckjnggeeoad
open Go.RowKit Go.Deep Go.ChangeShapes Go.WideShapes
def SplRel (w : World) (l : List UInt8) (a b : Nat) (v : Value) (wr : World) : Prop :=
  ∃ Ps : List ByteArray, Scan l a b (Ps.map (·.data.toList)) ∧ wr.ownsRow w.heap.size 9 1 v Ps.length (Ps.map Value.string) ∧ Below w.heap.size w wr ∧ ∃ z1 z3, v = .slice z1 Ps.length z3
theorem spl_start (w : World) (l : List UInt8) : SplRel w l 0 0 (.slice none 0 0) w := ⟨[], scan_start l, World.ownsRow_nil _ _ _ _, Below.refl _ _, none, 0, rfl⟩
theorem cs_str {w : World} {X : ByteArray} : Cs (w.alloc (.cells #[.string X] 9)) (.slice (some ⟨w.heap.size, 0, none⟩) 1 1) 1 1 [.string X] :=
  ⟨_, 1, rfl, rfl, by simp [Value.oneCell'], fun e => by (cases e), fun ad hh j u hj => by cases hh; exact World.news_of_block (cs := #[.string X]) (heap_alloc_new w _) j u hj⟩
theorem own_slice {w : World} {lo e : Nat} {v : Value} {n : Nat} {xs : List Value} (h : w.ownsRow lo e 1 v n xs) : ∃ z1 z3, v = .slice z1 n z3 := by
  rcases h.2 with ⟨rfl, h0⟩ | ⟨g, cap, cur, rfl, _⟩
  · exact ⟨none, 0, by rw [h0]⟩
  · exact ⟨_, _, rfl⟩
theorem grown_below {w w3 w4 : World} {lo : Nat} {v : Value} {e n : Nat} {xs : List Value} (h : w.ownsRow lo e 1 v n xs) (hb : Below w.heap.size w w3) (hlo : lo ≤ w.heap.size) (hg : w3.grownBy w4 v.ownBlock) : Below lo w w4 := by
  have hs := hb.size
  refine ⟨hg.os.trans hb.os, hg.tape.trans hb.tape, hg.output.trans hb.output, by have := hg.size; omega, fun q hq => ?_⟩
  rw [hg.block q (by omega) (fun e => by have := (owns_at h q e.symm).1; omega), hb.block q (by omega)]
def RLRel (W2 : World) (s : List Int) (ps : List (List UInt8)) (j : Nat) (v : Value) (wr : World) : Prop :=
  ∃ (out : Cl) (xs : List Value), out = (ps.take j).map (fun p => (litP s p).2) ∧ (∀ q, q < j → ∀ a, ps[q]? = some a → (litP s a).1 = 0) ∧ OwnL W2.heap.size (XO wr v) wr out v xs ∧ Below W2.heap.size W2 wr ∧ ∃ z1 z3, v = .slice z1 out.length z3
theorem rl_start (W2 : World) (s : List Int) (ps : List (List UInt8)) : RLRel W2 s ps 0 (.slice none 0 0) W2 :=
  ⟨[], [], by simp, fun q hq => by omega, ownL_nil _ _, Below.refl _ _, none, 0, rfl⟩
theorem parseR_call {s : List Int} {sv : Value} {l : List UInt8} {A : ByteArray} {wn : World} {er : Int} {t : Tm} (hA : A.data.toList = l) (hN : NIn wn s sv) (hl : l.length ≤ maxLen) (hp : parseT s l = (er, t)) (w' : World) (hb : Below wn.heap.size wn w') :
    Calls Try.prog 80 #[sv, .string A] w' fun e w'' => ∃ z1 z2 z3, e = .returned (.tuple #[.agg #[.bool t.1.1, .int .i64 t.1.2, .slice z1 z2 z3], .int .i64 er]) ∧ SB (New w' w'') w'' t.2 (.slice z1 z2 z3) ∧ Below w'.heap.size w' w'' := by
  rw [byte_eq hA]
  refine (parseR_new s sv l w' (hN.below hb) hl).mono ?_
  rintro e w2 ⟨a, rfl, hS, hb2⟩
  rw [hp] at hS ⊢
  obtain ⟨z1, z2, z3, rfl⟩ := slice_of_sin hS.toS
  exact ⟨z1, z2, z3, rfl, hS, hb2⟩
structure ZBox (w : World) (b : Nat) (neg : Bool) : Prop where
  c0 : w.cell? ⟨b, 0, none⟩ = some (.bool neg)
  c1 : w.cell? ⟨b, 1, none⟩ = some (.bool false)
  c2 : w.cell? ⟨b, 2, none⟩ = some (.int .i64 0)
  c3 : w.cell? ⟨b, 3, none⟩ = some (.slice none 0 0)
  c4 : w.cell? ⟨b, 4, none⟩ = some (.bool false)
  c5 : w.cell? ⟨b, 5, none⟩ = some (.int .i64 0)
  c6 : w.cell? ⟨b, 6, none⟩ = some (.slice none 0 0)
  fz : ∀ i, w.frozen? ⟨b, i, none⟩ = false
  lt : b < w.heap.size
theorem ZBox.below {w w' : World} (hb : Below w.heap.size w w') {b : Nat} {neg : Bool} (h : ZBox w b neg) : ZBox w' b neg :=
  ⟨grow_cell hb _ _ h.c0, grow_cell hb _ _ h.c1, grow_cell hb _ _ h.c2, grow_cell hb _ _ h.c3, grow_cell hb _ _ h.c4, grow_cell hb _ _ h.c5, grow_cell hb _ _ h.c6, fun i => (hb.frozen h.lt).trans (h.fz i), Nat.lt_of_lt_of_le h.lt hb.size⟩
theorem zbox_new (w : World) (neg : Bool) : ZBox (w.alloc (.cells #[.bool neg, .bool false, .int .i64 0, .slice none 0 0, .bool false, .int .i64 0, .slice none 0 0] 35)) w.heap.size neg := by
  obtain ⟨g0, g1, g2, g3, g4, g5, g6, gf, _, hlt⟩ := lit_cells (T := 35) (x0 := .bool neg) (w := w) (x1 := .bool false) (x2 := .int .i64 0) (x3 := .slice none 0 0) (x4 := .bool false) (x5 := .int .i64 0) (x6 := .slice none 0 0) (Below.refl _ _)
  exact ⟨g0, g1, g2, g3, g4, g5, g6, gf, hlt⟩
theorem ZBox.set {w : World} {b : Nat} (h : ZBox w b false) : ZBox (w.setCell ⟨b, 0, none⟩ (.bool true)).drew b true := by
  have ne : ∀ i, i ≠ 0 → (⟨b, 0, none⟩ : Addr) ≠ ⟨b, i, none⟩ := fun i hi e => by simp only [Addr.mk.injEq] at e; omega
  exact ⟨set_same h.c0, (set_other (ne 1 (by decide))).trans h.c1, (set_other (ne 2 (by decide))).trans h.c2, (set_other (ne 3 (by decide))).trans h.c3, (set_other (ne 4 (by decide))).trans h.c4, (set_other (ne 5 (by decide))).trans h.c5, (set_other (ne 6 (by decide))).trans h.c6, fun i => (by simpa using h.fz i), by simpa [World.setCell] using h.lt⟩
theorem dcell (w : World) (a : Addr) : w.drew.cell? a = w.cell? a := rfl
theorem dheap (w : World) : w.drew.heap = w.heap := rfl
theorem byte_is {P : ByteArray} {p : List UInt8} (h : P.data.toList = p) {k : Nat} (hk : k < P.size) : p[k]? = some P[k] := by
  subst h
  rw [List.getElem?_eq_getElem (by rw [← ba_size (B := P) rfl]; exact hk)]
  rfl
theorem ownL_more2 {lo : Nat} {wr w3 w4 : World} {s : Cl} {v v4 : Value} {xs : List Value} {l : Lt} {a d : Value} (h : OwnL lo (XO wr v) wr s v xs) (hb : Below wr.heap.size wr w3) (hlo : lo ≤ wr.heap.size)
    (hA : SB (fun q => wr.heap.size ≤ q ∧ q < w3.heap.size) w3 l.2.1.2 a) (hD : SB (fun q => wr.heap.size ≤ q ∧ q < w3.heap.size) w3 l.2.2.2 d)
    (ho : w4.ownsRow lo 35 7 v4 (s.length + 1) (xs ++ litV l a d)) (hg : w3.grownBy w4 v.ownBlock) (hat : v4.ownBlock = v.ownBlock ∨ v4.ownBlock = some w3.heap.size) :
    OwnL lo (XO w4 v4) w4 (s ++ [l]) v4 (xs ++ litV l a d) ∧ Below lo wr w4 := by
  have hs := hb.size
  have hs4 := hg.size
  have hv : ∀ q, v.ownBlock = some q → lo ≤ q ∧ q < wr.heap.size := fun q hq => owns_at h.row q hq
  have noq : ∀ q, q < w3.heap.size → some q ≠ v.ownBlock → q < w4.heap.size ∧ some q ≠ v4.ownBlock := fun q hq hn => by
    refine ⟨by omega, fun e => ?_⟩
    rcases hat with e' | e'
    · exact hn (e.trans e')
    · rw [e'] at e; simp at e; omega
  have ok : ∀ q, (wr.heap.size ≤ q ∧ q < w3.heap.size) → q < w3.heap.size ∧ some q ≠ v.ownBlock := fun q hq => by
    refine ⟨by omega, fun e => ?_⟩
    have := hv q e.symm
    omega
  refine ⟨⟨by simpa using ho, ?_, fun q hq => hq⟩, ⟨hg.os.trans hb.os, hg.tape.trans hb.tape, hg.output.trans hb.output, by omega, fun q hq => ?_⟩⟩
  · refine LC.append (LC.one ?_ ?_) ?_
    · exact hA.frame (fun q hq => noq q (ok q hq).1 (ok q hq).2) (fun q i hq => World.cell?_of_block (hg.block q (ok q hq).1 (ok q hq).2))
    · exact hD.frame (fun q hq => noq q (ok q hq).1 (ok q hq).2) (fun q i hq => World.cell?_of_block (hg.block q (ok q hq).1 (ok q hq).2))
    · refine h.cells.frame (fun q hq => noq q (by have := hq.1; omega) hq.2) (fun q i hq => World.cell?_of_block ?_)
      rw [hg.block q (by have := hq.1; omega) hq.2, hb.block q hq.1]
  · have hn : some q ≠ v.ownBlock := fun e => by have := hv q e.symm; omega
    rw [hg.block q (by omega) hn, hb.block q (by omega)]
set_option maxRecDepth 100000 in
set_option maxHeartbeats 3000000 in
theorem parseCR_any (s : List Int) (sv : Value) (T : ByteArray) (w : World) (hN : NIn w s sv) (hT : T.size < 4294967281) :
    Calls Try.prog 61 #[sv, .string T] w (ParsePost s T.data.toList w) := by
  obtain ⟨l, hl⟩ : ∃ l, T.data.toList = l := ⟨_, rfl⟩
  have hTl : T.size = l.length := ba_size hl
  have HTl := hide hTl
  have HN := hide hN
  obtain ⟨sa, sc, _, _, rfl, -, -, -, -⟩ := hN
  rw [hl]
  go_enter Try.func61, Try.ntmps61
  go_wp2_with fail
  refine (wsigR_any s _ _ HN.out).mono ?_
  rintro e w' ⟨rfl, hw'⟩
  rw [hw']
  clear hw' w'
  by_cases hw : wsig s = 0
  · have Hw := hide hw
    simp only [hw]
    clear hw
    by_cases h2 : T = ⟨#[91, 93]⟩
    · subst h2
      have Hf : Hid (parseC s l = (0, [])) := by rw [Hid, parseC, if_neg (by simp [Hw.out]), if_pos hl.symm]
      clear hl hTl
      go_wp2_with fail
      go_ret2
      exact parse_post Hf.out (Below.refl _ _)
    · have Hne : Hid (l ≠ [91, 93]) := fun e => h2 (by rw [e] at hl; exact byte_eq hl)
      have Hpc : Hid (parseC s l = partsC s (full l)) := by rw [Hid, parseC, if_neg (by simp [Hw.out]), if_neg Hne.out]
      have h2b : (T.toList == [91, 93]) = false := by rw [ByteArray.toList_eq, hl]; simpa using Hne.out
      have Hl := hide hl
      clear hl h2 hTl
      obtain ⟨i9, hi9, hy0, hy1, hy2⟩ := info_parts Try.info9
      obtain ⟨iL, hiL, hl0, hl1, hl2⟩ := info_parts Try.info35
      go_wp2_with fail
      go_loopw [7, 8, 9] (fun v fr i wr => ∃ (a b : Nat), a ≤ T.size ∧ i = .int .i64 a ∧ fr = .int .i64 b ∧ SplRel w l a b v wr) (fun _ _ i _ => T.size - (intOf i).toNat)
      case atStart => exact ⟨0, 0, Nat.zero_le _, rfl, rfl, spl_start w l⟩
      case round =>
        obtain ⟨a, b, ha, rfl, rfl, Ps, hSc, hO, hBr, z1, z3, rfl⟩ := hrel
        have HSc := hide hSc
        have HO := hide hO
        have hba : b ≤ a := hSc.fi
        have hsr := hBr.size
        have hPl : Ps.length ≤ l.length + 1 := by
          have h1 := congrArg List.length hSc.all
          have h2 := full_le l
          simp only [List.length_append, List.length_map] at h1
          omega
        have hPl' : Ps.length ≤ T.size + 1 := by rw [HTl.out]; exact hPl
        clear hSc hO hPl
        have hn1 : Ps.length + 1 ≤ maxLen := by unfold maxLen; omega
        have hn2 : (Ps.length + 1) * 16 ≤ 140737488355328 := by omega
        have hB1 : (0 : Int) ≤ (b : Int) := by omega
        have hB2 : (b : Int) ≤ (a : Int) := by omega
        have hA1 : (0 : Int) ≤ (a : Int) := by omega
        have hA2 : (a : Int) ≤ (T.size : Int) := by omega
        by_cases hlt : a + 3 ≤ T.size
        · have hlt' : (a : Int) + 3 ≤ (T.size : Int) := by omega
          have hex : (T.extract a (a + 3)).toList = (l.drop a).take 3 := by
            rw [Lib.extract_toList, Hl.out, show a + 3 - a = 3 by omega]
          by_cases hs : (l.drop a).take 3 = sepL
          · have hc : ((T.extract a (a + 3)).toList == [32, 124, 32]) = true := by rw [hex, hs]; rfl
            have Hnx := hide (HSc.out.hit (by rw [← HTl.out]; exact hlt) hs)
            have Hxd : Hid ((T.extract b a).data.toList = (l.drop b).take (a - b)) := by rw [Hid, Lib.extract_data, Hl.out]
            clear hex hs
            have hb5 : ∀ ob, Below wr.heap.size wr (wr.alloc ob) := fun ob => below_alloc _ _
            go_wp2_with (at_builtin; refine wpList_append_gen rfl (.tmp 37) (.tmp 42) 104 rfl w.heap.size 9 i9 (.string ByteArray.empty) 1 16 Try.underlying104 hi9 hy0 hy1 hy2 rfl (by decide) (.slice z1 Ps.length z3) Ps.length (Ps.map Value.string) rfl (owns_keep HO.out (fun g hg => (hb5 _).block g (owns_at HO.out g hg).2)) _ 1 [.string (T.extract b a)] rfl cs_str hn1 hn2 (Nat.le_trans hsr (hb5 _).size) ?_; intro v4 w4 ho4 hg4 hat4)
            have hB4 := grown_below HO.out (hb5 _) hsr hg4
            obtain ⟨r1, r3, rfl⟩ := own_slice ho4
            have HR : Hid (SplRel w l (a + 3) (a + 3) (.slice r1 (Ps.length + 1) r3) w4) := by
              refine ⟨Ps ++ [T.extract b a], ?_, ?_, hBr.trans hB4, r1, r3, by simp⟩
              · rw [List.map_append, List.map_singleton, Hxd.out]; exact Hnx.out
              · rw [List.map_append, List.length_append]; exact ho4
            clear ho4 hg4 hat4 hB4 hc
            go_wp2_with fail
            go_roundw
            case rel => exact ⟨a + 3, a + 3, hlt, by go_num, by go_num, HR.out⟩
            case measure => simp [intOf]; omega
          · have hc : ((T.extract a (a + 3)).toList == [32, 124, 32]) = false := by rw [hex]; simpa using hs
            have HR : Hid (SplRel w l (a + 1) b (.slice z1 Ps.length z3) wr) := ⟨Ps, HSc.out.miss (by rw [← HTl.out]; exact hlt) hs, HO.out, hBr, z1, z3, rfl⟩
            clear hex hs
            go_wp2_with fail
            go_roundw
            case rel => exact ⟨a + 1, b, by omega, by go_num, rfl, HR.out⟩
            case measure => simp [intOf]; omega
        · have hlt' : ¬ (a : Int) + 3 ≤ (T.size : Int) := by omega
          have hB3 : (b : Int) ≤ (T.size : Int) := by omega
          have Hls := hide (HSc.out.last (by rw [← HTl.out]; exact hlt))
          have Hxd : Hid ((T.extract b T.size).data.toList = l.drop b) := by
            rw [Hid, Lib.extract_data, Hl.out, List.take_of_length_le (by rw [List.length_drop, HTl.out]; exact Nat.le_refl _)]
          have hb5 : ∀ ob, Below wr.heap.size wr (wr.alloc ob) := fun ob => below_alloc _ _
          go_upto_region 16 with (at_builtin; refine wpList_append_gen rfl (.tmp 49) (.tmp 53) 104 rfl w.heap.size 9 i9 (.string ByteArray.empty) 1 16 Try.underlying104 hi9 hy0 hy1 hy2 rfl (by decide) (.slice z1 Ps.length z3) Ps.length (Ps.map Value.string) rfl (owns_keep HO.out (fun g hg => (hb5 _).block g (owns_at HO.out g hg).2)) _ 1 [.string (T.extract b T.size)] rfl cs_str hn1 hn2 (Nat.le_trans hsr (hb5 _).size) ?_; intro v4 w4 ho4 hg4 hat4; obtain ⟨r1, r3, rfl⟩ := own_slice ho4)
          have hB4 := hBr.trans (grown_below HO.out (hb5 _) hsr hg4)
          obtain ⟨Qs, hQs⟩ : ∃ Qs, Qs = Ps ++ [T.extract b T.size] := ⟨_, rfl⟩
          have hQl : Qs.length = Ps.length + 1 := by rw [hQs]; simp
          have HQd : Hid (Qs.map (·.data.toList) = full l) := by rw [hQs, List.map_append, List.map_singleton, Hxd.out]; exact Hls.out
          have ho5 : w4.ownsRow w.heap.size 9 1 (.slice r1 (Ps.length + 1) r3) Qs.length (Qs.map Value.string) := by rw [hQl, hQs, List.map_append]; exact ho4
          rw [← hQl] at ho5 ⊢
          have HQc : Hid (∀ g, r1 = some ⟨g, 0, none⟩ → ∀ j x, Qs[j]? = some x → w4.cell? ⟨g, j, none⟩ = some (.string x)) := fun g hg j x hx => by
            have := ho5.cells (g := g) (by rw [hg]; rfl) j (.string x) (by rw [List.getElem?_map, hx]; rfl)
            rw [add_plain, Nat.zero_add] at this
            exact this
          have Hr1 : Hid (∃ g, r1 = some ⟨g, 0, none⟩) := by
            rcases ho5.2 with ⟨_, h0⟩ | ⟨g, cap, cur, he, _⟩
            · omega
            · simp only [Value.slice.injEq] at he
              exact ⟨g, he.1⟩
          have Hsm : Hid (∀ p ∈ Qs, p.size ≤ T.size) := fun p hp => by
            have h1 : p.data.toList ∈ full l := by rw [← HQd.out]; exact List.mem_map_of_mem hp
            rw [ba_size (B := p) rfl, HTl.out]
            exact splitK_len _ _ _ h1
          have hQm : (Qs.length : Int) ≤ 9223372036854775807 := by omega
          have HQl := hide hQl
          clear ho4 hg4 hat4 ho5 hQs hb5 HSc HO hQl
          by_cases h4 : 4 < Qs.length
          · have h4' : (4 : Int) < (Qs.length : Int) := by omega
            have Hf : Hid (parseC s l = (5, [])) := by rw [Hid, Hpc.out, partsC, if_pos (by rw [← HQd.out, List.length_map]; exact h4)]
            go_wp2_with fail
            go_ret2
            exact parse_post Hf.out hB4
          · have h4' : ¬ (4 : Int) < (Qs.length : Int) := by omega
            have Hpc2 : Hid (parseC s l = if litsP s (full l) ≠ 0 then (litsP s (full l), []) else (0, (full l).map fun p => (litP s p).2)) := by rw [Hid, Hpc.out, partsC, if_neg (by rw [← HQd.out, List.length_map]; exact h4)]
            go_wp2_with fail
            go_loopw [10, 60] (fun v i wx => ∃ (j : Nat), j ≤ Qs.length ∧ i = .int .i64 j ∧ RLRel w4 s (full l) j v wx) (fun _ i _ => Qs.length - (intOf i).toNat)
            case atStart => exact ⟨0, Nat.zero_le _, rfl, rl_start _ _ _⟩
            case round =>
              obtain ⟨j, hj, rfl, out, xs, hout, hno, hOw, hBx, o1, o3, rfl⟩ := hrel
              have Hout := hide hout
              have Hno := hide hno
              have HOw := hide hOw
              have hol : out.length ≤ j := by rw [hout, List.length_map, List.length_take]; omega
              have hsx := hBx.size
              have hBwx := hB4.trans (hBx.mono hB4.size)
              clear hout hno hOw
              obtain ⟨g, rfl⟩ := Hr1.out
              by_cases hlt : j < Qs.length
              · have hlt' : (j : Int) < (Qs.length : Int) := by omega
                have hj0 : (0 : Int) ≤ (j : Int) := by omega
                obtain ⟨P, hP⟩ : ∃ P, Qs[j]? = some P := ⟨Qs[j]'hlt, by simp⟩
                have hc := grow_cell hBx _ _ (HQc.out g rfl j P hP)
                have Hfl : Hid ((full l)[j]? = some P.data.toList) := by rw [Hid, ← HQd.out, List.getElem?_map, hP]; rfl
                have hPz := Hsm.out P (List.mem_of_getElem? hP)
                obtain ⟨p, hp⟩ : ∃ p, P.data.toList = p := ⟨_, rfl⟩
                have hpl : P.size = p.length := ba_size hp
                have Hp := hide hp
                have Hpl := hide hpl
                rw [hp] at Hfl
                clear hP hp hpl
                go_wp2_with fail
                go_loopw [13] (fun i wy => ∃ k : Nat, k ≤ P.size ∧ i = .int .i64 k ∧ (∀ q, q < k → p[q]? ≠ some 61) ∧ wy = wr) (fun i _ => P.size - (intOf i).toNat)
                case atStart => exact ⟨0, Nat.zero_le _, rfl, fun q hq => by omega, rfl⟩
                case round =>
                  obtain ⟨k, hk, rfl, hkn, rfl⟩ := hrel
                  have Hkn := hide hkn
                  clear hkn
                  have hk0 : (0 : Int) ≤ (k : Int) := by omega
                  by_cases hkl : k < P.size
                  · have hkl' : (k : Int) < (P.size : Int) := by omega
                    have Hbt := hide (byte_is Hp.out hkl)
                    by_cases h61 : P[k] = 61
                    · have h61b : ((P[k].toNat : Int) != 61) = false := by rw [h61]; rfl
                      have hkb : ((k : Int) == (P.size : Int)) = false := by rw [beq_eq_false_iff_ne]; omega
                      have Hcut : Hid (Lib.cut p [61] = (p.take k, p.drop (k + 1), true)) := cut_hit ((index_one (by rw [← Hpl.out]; omega) Hkn.out).2 (by rw [Hbt.out, h61]))
                      have HLit : Hid (litP s p = if (parseT s (Lib.trimSuffix (p.take k) [33])).1 ≠ 0 then ((parseT s (Lib.trimSuffix (p.take k) [33])).1, zeroLt) else
                          if (parseT s (p.drop (k + 1))).1 ≠ 0 then ((parseT s (p.drop (k + 1))).1, zeroLt) else
                          (0, (Lib.hasSuffix (p.take k) [33], (parseT s (Lib.trimSuffix (p.take k) [33])).2, (parseT s (p.drop (k + 1))).2))) := by
                        rw [Hid, litP, Hcut.out, if_neg (by simp)]
                      have Hxk : Hid ((P.extract 0 k).data.toList = p.take k) := by rw [Hid, Lib.extract_data, Hp.out]; simp
                      have hxs : (P.extract 0 k).size = k := by rw [ba_size Hxk.out, List.length_take, ← Hpl.out]; omega
                      have Hxd : Hid ((P.extract (k + 1) P.size).data.toList = p.drop (k + 1)) := by
                        rw [Hid, Lib.extract_data, Hp.out, List.take_of_length_le (by rw [List.length_drop, Hpl.out]; exact Nat.le_refl _)]
                      have hK1 : (k : Int) + 1 ≤ (P.size : Int) := by omega
                      clear h61 hc
                      go_upto_region 29 with fail
                      generalize hwa : wr.alloc (.cells #[.bool false, .bool false, .int .i64 0, .slice none 0 0, .bool false, .int .i64 0, .slice none 0 0] 35) = wa
                      have HZ : Hid (ZBox wa wr.heap.size false) := by rw [← hwa]; exact zbox_new wr false
                      have hba : Below wr.heap.size wr wa := by rw [← hwa]; exact below_alloc _ _
                      clear hwa
                      obtain ⟨neg, hneg⟩ : ∃ b, Lib.hasSuffix (p.take k) [33] = b := ⟨_, rfl⟩
                      obtain ⟨lc, hlc⟩ : ∃ b, Lib.trimSuffix (p.take k) [33] = b := ⟨_, rfl⟩
                      rw [hneg, hlc] at HLit
                      go_cut [92] (fun s92 wz => s92 = .bool neg ∧ wz = wa)
                      case first =>
                        by_cases hkz : k = 0
                        · have hk1 : ¬ 0 < k := by omega
                          have hk1' : ¬ (0 : Int) < (k : Int) := by omega
                          have hng : neg = false := by rw [← hneg, suffix_is, hkz]; rfl
                          subst hng
                          clear hkz
                          go_wp2_with fail
                          go_meet
                          case rel => exact ⟨rfl, rfl⟩
                        · have hk1 : 0 < k := by omega
                          have hk1' : (0 : Int) < (k : Int) := by omega
                          have hk2 : (0 : Int) ≤ (k : Int) - 1 := by omega
                          have hk3 : (k : Int) - 1 < (k : Int) := by omega
                          have hk4 : k - 1 < (P.extract 0 k).size := by omega
                          have Hb2 := hide (byte_is Hxk.out hk4)
                          have Hsuf : Hid (neg = decide ((P.extract 0 k)[k - 1] = 33)) := by
                            have hlen : (p.take k).length = k := by rw [List.length_take, ← Hpl.out]; omega
                            rw [Hid, ← hneg, suffix_is, hlen, Hb2.out, Bool.eq_iff_iff]
                            simp only [decide_eq_true_eq, Option.some.injEq]
                            exact ⟨fun h => h.2, fun h => ⟨hk1, h⟩⟩
                          by_cases h33 : (P.extract 0 k)[k - 1] = 33
                          · have h33b : (((P.extract 0 k)[k - 1].toNat : Int) == 33) = true := by rw [h33]; rfl
                            have hng : neg = true := by rw [Hsuf.out]; simpa using h33
                            subst hng
                            clear h33 hkz
                            go_wp2_with fail
                            go_meet
                            case rel => exact ⟨rfl, rfl⟩
                          · have h33b : (((P.extract 0 k)[k - 1].toNat : Int) == 33) = false := by
                              rw [beq_eq_false_iff_ne]
                              intro e
                              exact h33 (UInt8.toNat_inj.1 (by have : (P.extract 0 k)[k - 1].toNat = 33 := by omega
                                                               rw [this]; rfl))
                            have hng : neg = false := by rw [Hsuf.out]; simpa using h33
                            subst hng
                            clear h33 hkz
                            go_wp2_with fail
                            go_meet
                            case rel => exact ⟨rfl, rfl⟩
                      case rest =>
                       obtain ⟨rfl, rfl⟩ := hcut
                       generalize wc = wa at *
                       go_upto_if 92 with fail
                       go_cut [15] (fun s15 wz => ∃ L : ByteArray, s15 = .string L ∧ L.data.toList = lc ∧ ZBox wz wr.heap.size neg ∧ Below wr.heap.size wr wz)
                       case first =>
                        cases neg with
                        | false =>
                          have HL : Hid ((P.extract 0 k).data.toList = lc) := by rw [Hid, Hxk.out, ← hlc, trim_is, hneg]; rfl
                          go_wp2_with fail
                          go_meet
                          case rel => exact ⟨P.extract 0 k, rfl, HL.out, HZ.out, hba⟩
                        | true =>
                          have hk1 : 0 < k := by
                            rcases Nat.eq_zero_or_pos k with h | h
                            · rw [h, suffix_is] at hneg; simp at hneg
                            · exact h
                          have hk2 : (0 : Int) ≤ (k : Int) - 1 := by omega
                          have hk3 : (k : Int) - 1 ≤ (k : Int) := by omega
                          obtain ⟨z0, z1', z2', z3', z4', z5', z6', zf, zl⟩ := HZ.out
                          have HL : Hid (((P.extract 0 k).extract 0 (k - 1)).data.toList = lc) := by
                            rw [Hid, Lib.extract_data, Hxk.out, ← hlc, trim_is, hneg, if_pos rfl, List.drop_zero, List.length_take, ← Hpl.out, Nat.min_eq_left (by omega), Nat.sub_zero]
                          go_wp2_with fail
                          go_region
                          all_goals
                            go_wp2_with fail
                            go_meet
                            case rel => exact ⟨(P.extract 0 k).extract 0 (k - 1), rfl, HL.out, HZ.out.set, (hba.setCell (Nat.le_refl _) _).drew⟩
                       case rest =>
                        obtain ⟨L, rfl, hL, hZ, hbz⟩ := hcut
                        generalize wc = wz at *
                        have HZz := hide hZ
                        have HL := hide hL
                        have hBz := hBwx.trans (hbz.mono (Nat.le_trans hB4.size hsx))
                        obtain ⟨⟨er1, ⟨tv, ti⟩, tk⟩, hp1⟩ : ∃ x, parseT s lc = x := ⟨_, rfl⟩
                        obtain ⟨⟨er2, ⟨uv, ui⟩, uk⟩, hp2⟩ : ∃ x, parseT s (p.drop (k + 1)) = x := ⟨_, rfl⟩
                        have hlcl : lc.length ≤ maxLen := by
                          have h1 := trim_len (p := p.take k) (q := [33])
                          rw [hlc, List.length_take] at h1
                          have := Hpl.out
                          unfold maxLen
                          omega
                        have hldl : (p.drop (k + 1)).length ≤ maxLen := by
                          have := Hpl.out
                          rw [List.length_drop]
                          unfold maxLen
                          omega
                        have Hp1 := hide (parseR_call HL.out (HN.out.below hBz) hlcl hp1)
                        have Hp2 := hide (parseR_call Hxd.out (HN.out.below hBz) hldl hp2)
                        rw [hp1, hp2] at HLit
                        clear hp1 hp2 hlcl hldl hL hZ hneg hlc HZ hba
                        go_wp2_with fail
                        refine (Hp1.out _ (Below.refl _ _)).mono ?_
                        rintro e w5 ⟨z1, z2, z3, rfl, hS5, hb5⟩
                        have HS5 := hide hS5
                        simp only at *
                        have hB5 := below_step hBz hb5
                        clear hS5
                        generalize hw6 : w5.alloc (.cells #[.bool tv, .int .i64 ti, .slice z1 z2 z3] 33) = w6
                        have hb6 : Below w5.heap.size w5 w6 := by rw [← hw6]; exact below_alloc _ _
                        have t0 : w6.cell? ⟨w5.heap.size, 0, none⟩ = some (.bool tv) := by rw [← hw6]; exact new_cell rfl
                        have t1 : w6.cell? ⟨w5.heap.size, 1, none⟩ = some (.int .i64 ti) := by rw [← hw6]; exact new_cell rfl
                        have t2 : w6.cell? ⟨w5.heap.size, 2, none⟩ = some (.slice z1 z2 z3) := by rw [← hw6]; exact new_cell rfl
                        have hs6 : w5.heap.size < w6.heap.size := by rw [← hw6]; simp
                        have hB6 := below_step hB5 hb6
                        by_cases he : er1 = 0
                        · subst he
                          rw [if_neg (by simp)] at HLit
                          go_upto_region 34 with fail
                          try rw [hw6]
                          clear hw6
                          go_wp2_with fail
                          refine (Hp2.out _ (below_step hb5 hb6)).mono ?_
                          rintro e w7 ⟨y1, y2, y3, rfl, hS7, hb7⟩
                          have HS7 := hide hS7
                          simp only at *
                          clear hS7
                          generalize hw8 : w7.alloc (.cells #[.bool uv, .int .i64 ui, .slice y1 y2 y3] 33) = w8
                          have hb8 : Below w7.heap.size w7 w8 := by rw [← hw8]; exact below_alloc _ _
                          have x0 : w8.cell? ⟨w7.heap.size, 0, none⟩ = some (.bool uv) := by rw [← hw8]; exact new_cell rfl
                          have x1 : w8.cell? ⟨w7.heap.size, 1, none⟩ = some (.int .i64 ui) := by rw [← hw8]; exact new_cell rfl
                          have x2 : w8.cell? ⟨w7.heap.size, 2, none⟩ = some (.slice y1 y2 y3) := by rw [← hw8]; exact new_cell rfl
                          have hs8 : w7.heap.size < w8.heap.size := by rw [← hw8]; simp
                          have hb68 := below_step hb7 hb8
                          have v0 := grow_cell hb68 _ _ t0
                          have v1 := grow_cell hb68 _ _ t1
                          have v2 := grow_cell hb68 _ _ t2
                          have hb58 := below_step hb6 hb68
                          have hbz8 := below_step hb5 hb58
                          have HZ8 := hide (HZz.out.below hbz8)
                          have hB8 := below_step hB6 hb68
                          clear t0 t1 t2
                          by_cases he : er2 = 0
                          · subst he
                            rw [if_neg (by simp)] at HLit
                            go_upto_region 37 with fail
                            try rw [hw8]
                            clear hw8
                            have hlz := HZz.out.lt
                            have q5 := hb5.size
                            have q6 := hb6.size
                            have q7 := hb7.size
                            have hn5 : w5.heap.size ≠ wr.heap.size := by omega
                            have hn5' : wr.heap.size ≠ w5.heap.size := by omega
                            have hn7 : w7.heap.size ≠ wr.heap.size := by omega
                            have hn7' : wr.heap.size ≠ w7.heap.size := by omega
                            obtain ⟨g0, g1, g2, g3, g4, g5, g6, gf, gl⟩ := HZ8.out
                            go_region
                            all_goals
                              go_upto_region 38 with fail
                              generalize hw9 : ((((((w8.setCell ⟨wr.heap.size, 1, none⟩ (.bool tv)).setCell ⟨wr.heap.size, 2, none⟩ (.int .i64 ti)).setCell ⟨wr.heap.size, 3, none⟩ (.slice z1 z2 z3)).setCell ⟨wr.heap.size, 4, none⟩ (.bool uv)).setCell ⟨wr.heap.size, 5, none⟩ (.int .i64 ui)).setCell ⟨wr.heap.size, 6, none⟩ (.slice y1 y2 y3)).drew = w9
                              have e9 : w9 = (setL w8 wr.heap.size 1 [.bool tv, .int .i64 ti, .slice z1 z2 z3, .bool uv, .int .i64 ui, .slice y1 y2 y3]).drew := hw9.symm
                              have hbr8 : Below wr.heap.size wr w8 := hbz.trans (hbz8.mono (by omega))
                              have hb9 : Below wr.heap.size wr w9 := by rw [e9]; exact (setL_below (Nat.le_refl _) hbr8).drew
                              have at6 := setL_at (b := wr.heap.size) (xs := [.bool tv, .int .i64 ti, .slice z1 z2 z3, .bool uv, .int .i64 ui, .slice y1 y2 y3]) (o := 1) (w := w8) (fun i hi => by
                                simp at hi
                                rcases i with _ | _ | _ | _ | _ | _ | i
                                · exact ⟨_, g1⟩
                                · exact ⟨_, g2⟩
                                · exact ⟨_, g3⟩
                                · exact ⟨_, g4⟩
                                · exact ⟨_, g5⟩
                                · exact ⟨_, g6⟩
                                · omega)
                              have k0 : w9.cell? ⟨wr.heap.size, 0, none⟩ = some (.bool neg) := by rw [e9, dcell, setL_other (.inr (.inl (by omega)))]; exact g0
                              have k1 : w9.cell? ⟨wr.heap.size, 1, none⟩ = some (.bool tv) := by rw [e9, dcell]; exact at6 0 _ rfl
                              have k2 : w9.cell? ⟨wr.heap.size, 2, none⟩ = some (.int .i64 ti) := by rw [e9, dcell]; exact at6 1 _ rfl
                              have k3 : w9.cell? ⟨wr.heap.size, 3, none⟩ = some (.slice z1 z2 z3) := by rw [e9, dcell]; exact at6 2 _ rfl
                              have k4 : w9.cell? ⟨wr.heap.size, 4, none⟩ = some (.bool uv) := by rw [e9, dcell]; exact at6 3 _ rfl
                              have k5 : w9.cell? ⟨wr.heap.size, 5, none⟩ = some (.int .i64 ui) := by rw [e9, dcell]; exact at6 4 _ rfl
                              have k6 : w9.cell? ⟨wr.heap.size, 6, none⟩ = some (.slice y1 y2 y3) := by rw [e9, dcell]; exact at6 5 _ rfl
                              have s9 : w9.heap.size = w8.heap.size := by rw [e9, dheap, setL_size]
                              have q8 := hb8.size
                              have HA9 : Hid (SB (fun q => wr.heap.size ≤ q ∧ q < w9.heap.size) w9 tk (.slice z1 z2 z3)) := HS5.out.frame (fun q hq => ⟨by have := hq.1; omega, by have := hq.2; omega⟩) (fun q i hq => by
                                have h1 := hq.1
                                have h2 := hq.2
                                rw [e9, dcell, setL_other (.inl (by omega))]
                                exact hb58.cell h2)
                              have HD9 : Hid (SB (fun q => wr.heap.size ≤ q ∧ q < w9.heap.size) w9 uk (.slice y1 y2 y3)) := HS7.out.frame (fun q hq => ⟨by have := hq.1; omega, by have := hq.2; omega⟩) (fun q i hq => by
                                have h1 := hq.1
                                have h2 := hq.2
                                rw [e9, dcell, setL_other (.inl (by omega))]
                                exact hb8.cell h2)
                              clear s9 at6 e9 hw9 g0 g1 g2 g3 g4 g5 g6 gf
                              have hm1 : out.length + 1 ≤ maxLen := by unfold maxLen; omega
                              have hm2 : (out.length + 1) * 88 ≤ 140737488355328 := by omega
                              have hbo : ∀ ob, Below wr.heap.size wr (w9.alloc ob) := fun ob => below_step hb9 (below_alloc _ _)
                              go_wp2_with (at_builtin; refine wpList_append_gen rfl (.tmp 123) (.tmp 125) 25 rfl w4.heap.size 35 iL (.agg #[.bool false, .bool false, .int .i64 0, .slice none 0 0, .bool false, .int .i64 0, .slice none 0 0]) 7 88 Try.underlying25 hiL hl0 hl1 hl2 rfl (by decide) (.slice o1 out.length o3) out.length xs rfl (OwnL.below HOw.out (hbo _)).row _ 1 (litV (neg, ((tv, ti), tk), ((uv, ui), uk)) (.slice z1 z2 z3) (.slice y1 y2 y3)) rfl cs_lit hm1 hm2 (Nat.le_trans hsx (hbo _).size) ?_; intro vA wA hoA hgA hatA)
                              obtain ⟨hO4, hBA⟩ := ownL_more2 (l := (neg, ((tv, ti), tk), ((uv, ui), uk))) HOw.out (hbo _) hsx ((HA9.out.frame (fun q hq => ⟨hq.1, by simp; have := hq.2; omega⟩) (fun q i hq => (below_alloc _ _).cell hq.2))) ((HD9.out.frame (fun q hq => ⟨hq.1, by simp; have := hq.2; omega⟩) (fun q i hq => (below_alloc _ _).cell hq.2))) hoA hgA hatA
                              obtain ⟨c1, c3, rfl⟩ := slice_of_cl hO4.cl
                              have HR : Hid (RLRel w4 s (full l) (j + 1) (.slice c1 (out ++ [(neg, ((tv, ti), tk), ((uv, ui), uk))]).length c3) wA) := by
                                refine ⟨_, _, ?_, fun q hq a ha => ?_, hO4, hBx.trans hBA, c1, c3, rfl⟩
                                · rw [List.take_add_one, Hfl.out, List.map_append, ← Hout.out]
                                  simp [HLit.out]
                                · by_cases e : q = j
                                  · subst e; rw [Hfl.out] at ha; cases ha; rw [HLit.out]
                                  · exact Hno.out q (by omega) a ha
                              clear hO4 hoA hgA hatA hBA
                              go_wp2_with fail
                              go_roundw
                              case rel => exact ⟨j + 1, by omega, by go_num, HR.out⟩
                              case measure => simp [intOf]; omega
                          · rw [if_pos he] at HLit
                            have heb : (er2 != 0) = true := by simp [he]
                            have Hf : Hid (parseC s l = (er2, [])) := by
                              have h1 := litsP_at Hno.out Hfl.out (by rw [HLit.out]; exact he)
                              rw [HLit.out] at h1
                              rw [Hid, Hpc2.out, h1, if_pos he]
                            clear he
                            go_upto_region 35 with fail
                            try rw [hw8]
                            clear hw8
                            go_wp2_with fail
                            go_ret2
                            exact parse_post Hf.out hB8
                        · rw [if_pos he] at HLit
                          have heb : (er1 != 0) = true := by simp [he]
                          have Hf : Hid (parseC s l = (er1, [])) := by
                            have h1 := litsP_at Hno.out Hfl.out (by rw [HLit.out]; exact he)
                            rw [HLit.out] at h1
                            rw [Hid, Hpc2.out, h1, if_pos he]
                          clear he
                          go_upto_region 32 with fail
                          try rw [hw6]
                          clear hw6
                          go_wp2_with fail
                          go_ret2
                          exact parse_post Hf.out hB6
                    · have h61b : ((P[k].toNat : Int) != 61) = true := by
                        rw [bne_iff_ne]
                        intro e
                        exact h61 (UInt8.toNat_inj.1 (by have : P[k].toNat = 61 := by omega
                                                         rw [this]; rfl))
                      have Hkn2 : Hid (∀ q, q < k + 1 → p[q]? ≠ some 61) := fun q hq e => by
                        by_cases hqk : q = k
                        · rw [hqk, Hbt.out] at e; exact h61 (Option.some.inj e)
                        · exact Hkn.out q (by omega) e
                      clear h61
                      go_wp2_with fail
                      go_roundw
                      case rel => exact ⟨k + 1, by omega, by go_num, Hkn2.out, trivial⟩
                      case measure => simp [intOf]; omega
                  · have hke : k = P.size := by omega
                    have hkb : ((k : Int) == (P.size : Int)) = true := by rw [beq_iff_eq]; omega
                    have Hf : Hid (parseC s l = (2, [])) := by
                      have h0 : litP s p = (2, zeroLt) := by
                        rw [litP, cut_miss ((index_one (by rw [← Hpl.out]; omega) Hkn.out).1 (by rw [← Hpl.out]; exact hke)), if_pos rfl]
                      have h1 := litsP_at Hno.out Hfl.out (by rw [h0]; decide)
                      rw [h0] at h1
                      rw [Hid, Hpc2.out, h1, if_pos (by decide)]
                    go_wp2_with fail
                    go_ret2
                    exact parse_post Hf.out hBwx
              · have hje : j = Qs.length := by omega
                have hfl : (full l).length = Qs.length := by rw [← HQd.out, List.length_map]
                have Hf : Hid (parseC s l = (0, out)) := by
                  have h1 : litsP s (full l) = 0 := litsP_iff.2 fun p hp => by
                    obtain ⟨i, hi, e⟩ := List.mem_iff_getElem.1 hp
                    exact Hno.out i (by omega) p (by rw [List.getElem?_eq_getElem hi, e])
                  rw [Hid, Hpc2.out, if_neg (by simp [h1]), Hout.out, hje, ← hfl, List.take_length]
                have Hfin := hide HOw.out.cl
                clear hfl
                go_wp2_with fail
                go_ret2
                exact ⟨o1, out.length, o3, by rw [Hf.out]; rfl, by rw [Hf.out]; exact Hfin.out, hBwx⟩
  · have Hf : Hid (parseC s l = (wsig s, [])) := by rw [Hid, parseC, if_pos hw]
    have heb : (wsig s != 0) = true := by simp [hw]
    generalize wsig s = er at *
    clear hw
    go_wp2_with fail
    go_ret2
    exact parse_post Hf.out (Below.refl _ _)
end Go.Proofs.Ytiilckjnggeeoad

namespace Go.Proofs.Ytiilckjnggeeoad
open Go.RowKit Go.Deep Go.ChangeShapes Go.WideShapes
attribute [local go_sem ↓] Go.wp_at_zero Go.wp_at_succ
attribute [local go_sem] eqKey_run
set_option maxRecDepth 100000 in
set_option maxHeartbeats 400000 in
theorem read8_any {l : List UInt8} {t : Tm} (h : parseT [0, 1, 2] l = (0, t)) (hl : l.length ≤ 48) (w : World) :
    Calls Try.prog 60 #[str l] w fun e w' => ∃ (a1 : Option Addr) (a3 : Nat), e = .returned (.agg #[.bool t.1.1, .int .i64 t.1.2, .slice a1 (Fo.len t.2) a3]) ∧ SIn w' t.2 (.slice a1 (Fo.len t.2) a3) ∧ Below w.heap.size w w' := by
  obtain ⟨⟨tv, tn⟩, tk⟩ := t
  have Hp := hide h
  have HN0 : Hid (NIn ((w.alloc (.cells #[.bool false, .int .i64 0, .slice none 0 0] 33)).alloc (.cells #[.int .i64 0, .int .i64 1, .int .i64 2] 3)) [0, 1, 2] (.slice (some ⟨w.heap.size + 1, 0, none⟩) 3 3)) := by
    have h := nin_lit (w := w.alloc (.cells #[.bool false, .int .i64 0, .slice none 0 0] 33)) [0, 1, 2] (by decide) (by decide) 3
    rw [World.size_alloc] at h
    exact h
  clear h
  go_enter Try.func60, Try.ntmps60
  go_wp2_with fail
  generalize hW : (w.alloc (.cells #[.bool false, .int .i64 0, .slice none 0 0] 33)).alloc (.cells #[.int .i64 0, .int .i64 1, .int .i64 2] 3) = W2 at *
  have hB2 : Below w.heap.size w W2 := by rw [← hW]; exact (below_alloc _ _).alloc (by simp) _
  have hs2 : W2.heap.size = w.heap.size + 1 + 1 := by rw [← hW]; simp
  have r0 : W2.cell? ⟨w.heap.size, 0, none⟩ = some (.bool false) := by rw [← hW, World.cell?_alloc_lt _ _ _ (by simp)]; exact new_cell rfl
  have r1 : W2.cell? ⟨w.heap.size, 1, none⟩ = some (.int .i64 0) := by rw [← hW, World.cell?_alloc_lt _ _ _ (by simp)]; exact new_cell rfl
  have r2 : W2.cell? ⟨w.heap.size, 2, none⟩ = some (.slice none 0 0) := by rw [← hW, World.cell?_alloc_lt _ _ _ (by simp)]; exact new_cell rfl
  have rf : ∀ i, W2.frozen? ⟨w.heap.size, i, none⟩ = false := fun i => by rw [← hW, (below_alloc _ _).frozen (by simp)]; exact new_frozen rfl
  clear hW
  refine (parseR_new [0, 1, 2] _ l W2 HN0.out (by unfold maxLen; omega)).mono ?_
  rintro e w2 ⟨a, rfl, hS, hb⟩
  rw [Hp.out] at hS ⊢
  have HNew := hide hS
  obtain ⟨a1, a3, _, _, rfl, -, -, -, -⟩ := hS
  have s0 := grow_cell hb _ _ r0
  have s1 := grow_cell hb _ _ r1
  have s2 := grow_cell hb _ _ r2
  have sf : ∀ i, w2.frozen? ⟨w.heap.size, i, none⟩ = false := fun i => (hb.frozen (by show w.heap.size < _; omega)).trans (rf i)
  have hB3 := below_step hB2 hb
  have hlt : w.heap.size < w2.heap.size := World.block_lt_of_cell? _ _ s0
  clear r0 r1 r2 rf hb hB2
  simp only [trm]
  go_wp2_with fail
  obtain ⟨g0, g1, g2⟩ := set3_cells (w := w2) (b := w.heap.size) (o := 0) (x := .bool tv) (y := .int .i64 tn) (z := .slice a1 (Fo.len tk) a3) s0 s1 s2
  have hsz : (set3 w2 w.heap.size 0 (.bool tv) (.int .i64 tn) (.slice a1 (Fo.len tk) a3)).heap.size = w2.heap.size := set3_size
  have k0 : ((((w2.setCell ⟨w.heap.size, 0, none⟩ (.bool tv)).setCell ⟨w.heap.size, 1, none⟩ (.int .i64 tn)).setCell ⟨w.heap.size, 2, none⟩ (.slice a1 (Fo.len tk) a3)).alloc (.cells #[.bool tv, .int .i64 tn, .slice a1 (Fo.len tk) a3] 33)).cell? ⟨w.heap.size, 0, none⟩ = some (.bool tv) := by
    rw [World.cell?_alloc_lt _ _ _ (by simpa using hlt)]; exact g0
  have k1 : ((((w2.setCell ⟨w.heap.size, 0, none⟩ (.bool tv)).setCell ⟨w.heap.size, 1, none⟩ (.int .i64 tn)).setCell ⟨w.heap.size, 2, none⟩ (.slice a1 (Fo.len tk) a3)).alloc (.cells #[.bool tv, .int .i64 tn, .slice a1 (Fo.len tk) a3] 33)).cell? ⟨w.heap.size, 1, none⟩ = some (.int .i64 tn) := by
    rw [World.cell?_alloc_lt _ _ _ (by simpa using hlt)]; exact g1
  have k2 : ((((w2.setCell ⟨w.heap.size, 0, none⟩ (.bool tv)).setCell ⟨w.heap.size, 1, none⟩ (.int .i64 tn)).setCell ⟨w.heap.size, 2, none⟩ (.slice a1 (Fo.len tk) a3)).alloc (.cells #[.bool tv, .int .i64 tn, .slice a1 (Fo.len tk) a3] 33)).cell? ⟨w.heap.size, 2, none⟩ = some (.slice a1 (Fo.len tk) a3) := by
    rw [World.cell?_alloc_lt _ _ _ (by simpa using hlt)]; exact g2
  refine bodyPost_ret (v := .agg #[.bool tv, .int .i64 tn, .slice a1 (Fo.len tk) a3]) (by simp [results, Try.results60, go_sem, k0, k1, k2]) rfl ⟨a1, a3, rfl, ?_, (set3_below (o := 0) hB3 (Nat.le_refl _)).alloc (by rw [set3_size]; exact Nat.le_of_lt hlt) _⟩
  have hO : SB (New W2 w2) w2 tk (.slice a1 (Fo.len tk) a3) := HNew.out
  exact ((hO.set3 (b := w.heap.size) (o := 0) (fun h => by have := h.1; omega)).toS).alloc _
def a8c : Cl := [(false, tb (vr 0), ta)]
theorem a8p0 : parseC [0, 1, 2] [98, 40, 88, 48, 41, 61, 97] = (0, a8c) := by kernel_rfl
theorem a8p1 : parseT [0, 1, 2] [99, 40, 88, 48, 44, 97, 41] = (0, tc (vr 0) ta) := parse_of al_wsig (by decide) rfl (by decide +kernel)
theorem a8p2 : parseT [0, 1, 2] [99, 40, 97, 44, 88, 49, 41] = (0, tc ta (vr 1)) := parse_of al_wsig (by decide) rfl (by decide +kernel)
theorem a8p3 : parseT [0, 1, 2] [99, 40, 98, 40, 97, 41, 44, 97, 41] = (0, tc (tb ta) ta) := parse_of al_wsig (by decide) rfl (by decide +kernel)
theorem a8s {t : Tm} (h : wrongF [0, 1, 2] t.1 t.2 = 0) : sigT [0, 1, 2] t := sig_walk (right_of sg h).2.2.2.2
theorem a8s0 : sigT [0, 1, 2] (tc (vr 0) ta) := a8s (by decide +kernel)
theorem a8s1 : sigT [0, 1, 2] ta := a8s (by decide +kernel)
theorem a8s2 : sigT [0, 1, 2] (tc ta (vr 1)) := a8s (by decide +kernel)
theorem a8s3 : sigT [0, 1, 2] (vr 0) := a8s (by decide +kernel)
theorem a8s4 : sigT [0, 1, 2] (tc (tb ta) ta) := a8s (by decide +kernel)
theorem a8k0 : keyT (tc (vr 0) ta) = [3, 0, 1] := by decide +kernel
theorem a8k1 : keyT ta = [1, -2, -2] := by decide +kernel
theorem a8k3 : keyT (vr 0) = [0, -1, -1] := by decide +kernel
theorem a8k4 : keyT (tc (tb ta) ta) = [3, 2, 1] := by decide +kernel
theorem a8f : fndL [3, 0, 1] (foOf [ta, tc ta (vr 1), vr 0]).list 0 = [1, 2] := by decide +kernel
theorem a8pt {t : Tm} (h : wrongF [0, 1, 2] t.1 t.2 = 0) : PtOK t := by
  obtain ⟨h1, _, h2, h3, _⟩ := right_of sg h
  exact ⟨h1, by omega, h3⟩
theorem a8P : ∀ l ∈ a8c, PtOK l.2.1 ∧ PtOK l.2.2 := fun l hl => by
  rw [List.mem_singleton.1 hl]
  exact ⟨a8pt (by decide +kernel), a8pt (by decide +kernel)⟩
theorem ts_three {w : World} {x y z : Tm} {a b c : Value} {T : TypeId} (ha : SIn w x.2 a) (hb : SIn w y.2 b) (hc : SIn w z.2 c) :
    SIn (w.alloc (.cells #[.bool x.1.1, .int .i64 x.1.2, a, .bool y.1.1, .int .i64 y.1.2, b, .bool z.1.1, .int .i64 z.1.2, c] T)) (foOf [x, y, z]) (.slice (some ⟨w.heap.size, 0, none⟩) 3 3) := by
  refine ⟨_, 3, w.heap.size, 0, rfl, fun _ => rfl, by simp [foOf, Fo.len], by unfold maxLen; omega, ?_⟩
  refine FIn.mk (v := a) (new_cell rfl) (new_cell rfl) (new_cell rfl) (ha.alloc _) ?_
  refine FIn.mk (v := b) (new_cell rfl) (new_cell rfl) (new_cell rfl) (hb.alloc _) ?_
  exact FIn.mk (v := c) (new_cell rfl) (new_cell rfl) (new_cell rfl) (hc.alloc _) trivial
theorem a8R : ∀ y ∈ (foOf [ta, tc ta (vr 1), vr 0]).list, sigT [0, 1, 2] y := fun y hy => by
  rw [foOf_list] at hy
  simp only [List.mem_cons, List.not_mem_nil, or_false] at hy
  rcases hy with rfl | rfl | rfl
  · exact a8s1
  · exact a8s2
  · exact a8s3
set_option maxRecDepth 100000 in
set_option maxHeartbeats 4000000 in
theorem alive8_any (w : World) : Calls Try.prog 32 #[] w fun e w' => e = .returned (.bool true) ∧ Below w.heap.size w w' := by
  have hB : Below w.heap.size w w := Below.refl _ _
  go_enter Try.func32, Try.ntmps32
  go_wp2_with fail
  refine (read8_any a8p1 (by decide) _).mono ?_
  rintro e w1 ⟨z1, z3, rfl, h1, hb⟩
  have Hk := hide (keyP_call (by decide) a8k0 h1 a8s0)
  replace hB := below_step hB hb
  clear hb h1
  go_wp2_with fail
  refine Hk.out.mono ?_
  rintro e w2 ⟨rfl, hb⟩
  replace hB := below_step hB hb
  clear hb Hk
  go_upto_region 2 with fail
  generalize hwk : w2.alloc (.cells #[.int .i64 3, .int .i64 0, .int .i64 1] 42) = wk
  have HK : Hid (B3 wk w2.heap.size (.int .i64 3) (.int .i64 0) (.int .i64 1)) := by rw [← hwk]; exact B3.new _ _ _ _ _
  replace hB : Below w.heap.size w wk := by rw [← hwk]; exact below_step hB (below_alloc _ _)
  clear hwk
  generalize w2.heap.size = kb at *
  clear w1 w2
  have HN0 : Hid (NIn (wk.alloc (.cells #[.int .i64 0, .int .i64 1, .int .i64 2] 3)) [0, 1, 2] (.slice (some ⟨wk.heap.size, 0, none⟩) 3 3)) := nin_lit (w := wk) [0, 1, 2] (by decide) (by decide) 3
  have HB := hide hB
  clear hB
  go_wp2_with fail
  refine (parseCR_any [0, 1, 2] _ ⟨#[98, 40, 88, 48, 41, 61, 97]⟩ _ HN0.out (by decide)).mono ?_
  rintro e w3 ⟨y1, y2, y3, rfl, hC, hb⟩
  rw [show (⟨#[98, 40, 88, 48, 41, 61, 97]⟩ : ByteArray).data.toList = [98, 40, 88, 48, 41, 61, 97] from rfl, a8p0] at hC ⊢
  have hb3 := below_box hb
  replace HK := hide (HK.out.below hb3)
  replace HB := hide (below_step HB.out hb3)
  have HC := hide hC
  obtain ⟨c1, c3, hcv⟩ := slice_of_cl HC.out
  clear hC hb hb3 HN0
  obtain ⟨rfl, rfl, rfl⟩ : y1 = c1 ∧ y2 = a8c.length ∧ y3 = c3 := by simpa using hcv
  go_wp2_with fail
  refine (read8_any l8p (by decide) _).mono ?_
  rintro e w4 ⟨z4, z5, rfl, h1, hb⟩
  replace HK := hide (HK.out.below hb)
  replace HB := hide (below_step HB.out hb)
  replace HC := hide (HC.out.below hb)
  have H1 := hide h1
  clear h1 hb
  go_wp2_with fail
  refine (read8_any a8p2 (by decide) _).mono ?_
  rintro e w5 ⟨z6, z7, rfl, h1, hb⟩
  replace HK := hide (HK.out.below hb)
  replace HB := hide (below_step HB.out hb)
  replace HC := hide (HC.out.below hb)
  replace H1 := hide (H1.out.below hb)
  have H2 := hide h1
  clear h1 hb
  go_wp2_with fail
  refine (read8_any l5p (by decide) _).mono ?_
  rintro e w6 ⟨z8, z9, rfl, h1, hb⟩
  replace HK := hide (HK.out.below hb)
  replace HB := hide (below_step HB.out hb)
  replace HC := hide (HC.out.below hb)
  have HT := hide (ts_three (T := 33) (H1.out.below hb) (H2.out.below hb) h1)
  clear h1 hb H1 H2
  go_wp2_with fail
  have hb := below_alloc w6 (.cells #[.bool ta.1.1, .int .i64 ta.1.2, .slice z4 (Fo.len ta.2) z5, .bool (tc ta (vr 1)).1.1, .int .i64 (tc ta (vr 1)).1.2, .slice z6 (Fo.len (tc ta (vr 1)).2) z7, .bool (vr 0).1.1, .int .i64 (vr 0).1.2, .slice z8 (Fo.len (vr 0).2) z9] 33)
  replace HK := hide (HK.out.below hb)
  replace HB := hide (below_step HB.out hb)
  replace HC := hide (HC.out.below hb)
  clear hb
  generalize hw7 : w6.alloc (.cells #[.bool ta.1.1, .int .i64 ta.1.2, .slice z4 (Fo.len ta.2) z5, .bool (tc ta (vr 1)).1.1, .int .i64 (tc ta (vr 1)).1.2, .slice z6 (Fo.len (tc ta (vr 1)).2) z7, .bool (vr 0).1.1, .int .i64 (vr 0).1.2, .slice z8 (Fo.len (vr 0).2) z9] 33) = w7 at *
  clear hw7
  refine (read8_any a8p1 (by decide) _).mono ?_
  rintro e w8 ⟨q1, q3, rfl, h1, hb⟩
  replace HK := hide (HK.out.below hb)
  replace HB := hide (below_step HB.out hb)
  replace HC := hide (HC.out.below hb)
  have Hf := hide (findP_any (s := [0, 1, 2]) (by decide) (foOf [ta, tc ta (vr 1), vr 0]) _ (tc (vr 0) ta).1 (tc (vr 0) ta).2 _ w8 (HT.out.below hb) h1 a8R a8s0 (by decide))
  rw [show keyT ((tc (vr 0) ta).1, (tc (vr 0) ta).2) = [3, 0, 1] from a8k0, a8f] at Hf
  clear h1 hb HT
  go_wp2_with fail
  refine Hf.out.mono ?_
  rintro e w9 ⟨f1, f3, rfl, hN, hb⟩
  replace HK := hide (HK.out.below hb)
  replace HB := hide (below_step HB.out hb)
  replace HC := hide (HC.out.below hb)
  obtain ⟨_, _, lb, lo, hle, hla, -, -, hlF⟩ := hN
  simp only [List.length_cons, List.length_nil, Value.slice.injEq] at hle
  obtain ⟨rfl, -, rfl⟩ := hle
  have hl1 := hla (by decide)
  subst hl1
  have l0 := hlF 0 (by decide)
  simp only [Nat.add_zero, List.getD_cons_zero] at l0
  obtain ⟨g0, g1, g2, -⟩ := HK.out
  clear hla hlF hb Hf
  simp only [show ([1, 2] : List Int).length = 2 from rfl]
  go_upto_region 4 with fail
  have HC0 := hide (fun (w' : World) (hb : Below w9.heap.size w9 w') => allP_any a8c _ w' (HC.out.below hb) a8P (by decide))
  have hcur : Below w9.heap.size w9 w9.drew := (Below.refl _ _).drew
  have Hr1 := hide (fun w' : World => read8_any l5p (by decide) w')
  have Hr2 := hide (fun w' : World => read8_any a8p3 (by decide) w')
  have Hr3 := hide (fun w' : World => read8_any l8p (by decide) w')
  go_region_held3 (fun w' => w'.cell? ⟨kb, 0, none⟩ = some (.int .i64 3) ∧ w'.cell? ⟨kb, 1, none⟩ = some (.int .i64 0) ∧ w'.cell? ⟨kb, 2, none⟩ = some (.int .i64 1) ∧ w'.cell? ⟨lb, lo, none⟩ = some (.int .i64 1))
    (first
      | (with_reducible exact ⟨grow_cell hcur _ _ g0, grow_cell hcur _ _ g1, grow_cell hcur _ _ g2, grow_cell hcur _ _ l0⟩)
      | go_keep)
    (first
      | (go_at_call 60; with_reducible refine (Hr1.out _).mono ?_; rintro e wq ⟨m1, m3, rfl, hq, hb⟩; replace hcur := below_step hcur hb; have Hq1 := hide (keyP_call (by decide) a8k3 hq a8s3); clear hb hq)
      | (go_at_call 60; with_reducible refine (Hr2.out _).mono ?_; rintro e wq ⟨m1, m3, rfl, hq, hb⟩; replace hcur := below_step hcur hb; have Hq2 := hide (keyP_call (by decide) a8k4 hq a8s4); clear hb hq)
      | (go_at_call 60; with_reducible refine (Hr3.out _).mono ?_; rintro e wq ⟨m1, m3, rfl, hq, hb⟩; replace hcur := below_step hcur hb; have Hq3 := hide (keyP_call (by decide) a8k1 hq a8s1); clear hb hq)
      | (go_at_call 21; with_reducible refine Hq1.out.mono ?_; rintro e wq ⟨rfl, hb⟩; replace hcur := below_step hcur hb; clear hb)
      | (go_at_call 21; with_reducible refine Hq2.out.mono ?_; rintro e wq ⟨rfl, hb⟩; replace hcur := below_step hcur hb; clear hb)
      | (go_at_call 21; with_reducible refine Hq3.out.mono ?_; rintro e wq ⟨rfl, hb⟩; replace hcur := below_step hcur hb; clear hb)
      | (go_at_call 23; refine (unifyP_any8 _ _ _ _ _ _ _).mono ?_; rintro e wq ⟨rfl, hb⟩; replace hcur := below_step hcur hb; clear hb)
      | (go_at_call 25; refine (matchP_any8 _ _ _ _ _ _ _).mono ?_; rintro e wq ⟨rfl, hb⟩; replace hcur := below_step hcur hb; clear hb)
      | (go_at_call 29; refine (HC0.out _ hcur).mono ?_; rintro e wq ⟨v9, rfl, hR, hb⟩; replace hcur := below_step hcur hb; obtain ⟨m4, m5, rfl⟩ := hR.slice; clear hR hb))
  all_goals
    have HBe := hide (below_step HB.out hcur)
    clear hcur
    go_wp2_with fail
    go_ret
    exact ⟨rfl, HBe.out⟩
end Go.Proofs.Ytiilckjnggeeoad

namespace Go.Proofs.Ytiilckjnggeeoad
open Go.RowKit Go.Deep Go.ChangeShapes Go.WideShapes
def five : Sb := [(0, vr 5), (1, vr 6), (2, vr 7), (3, vr 8), (4, vr 9)]
theorem five_gd : ∀ p ∈ five, Gd p.2 := fun p hp => by
  simp only [five, List.mem_cons, List.not_mem_nil, or_false] at hp
  rcases hp with rfl | rfl | rfl | rfl | rfl <;> exact gd_vr (by omega)
theorem ren_five {t : Tm} (hg : Gd t) (hv : ∀ m, occT m t → m ≤ 4) : subT (ren 5) t = subT (bnd five) t := by
  refine subT_congr fun n hn => ?_
  have h0 := (hg.few n hn).1
  have h1 := hv n hn
  rcases (by omega : n = 0 ∨ n = 1 ∨ n = 2 ∨ n = 3 ∨ n = 4) with rfl | rfl | rfl | rfl | rfl <;> simp [ren, five, bnd, look, wrap64, vr]
theorem gd_ren5 {t : Tm} (hg : Gd t) (hv : ∀ m, occT m t → m ≤ 4) : Gd (subT (ren 5) t) := by
  rw [ren_five hg hv]
  exact gd_sub five_gd hg
theorem dep_ren5 (t : Tm) : depT (subT (ren 5) t) ≤ depT t := depT_sub (d := 0) (fun n => by simp [ren, vr, depT, depF]) t
end Go.Proofs.Ytiilckjnggeeoad

namespace Go.Proofs.Ytiilckjnggeeoad
open Go.RowKit Go.Deep Go.ChangeShapes Go.WideShapes
attribute [local go_sem ↓] Go.wp_at_zero Go.wp_at_succ
def SolSaid (n : Nat) : Prop := ∀ (s : Sb) (L : List (Tm × Tm)) (R : Option Sb) (ls rs : List Tm) (vs vl vr : Value) (w : World), Eqs s L ls rs → runU n s L = some R → SubIn w s vs → SIn w (foOf ls) vl → SIn w (foOf rs) vr →
    Calls Try.prog 62 #[vs, vl, vr] w (UniPost w R)
set_option maxRecDepth 100000 in
set_option maxHeartbeats 4000000 in
theorem solve_any (n : Nat) : SolSaid n := by
  induction n using Nat.strongRecOn with
  | _ n ih =>
  intro s L R ls rs vs vl vr w hE hR hV hl hr
  have HI : Hid (∀ m, m < n → SolSaid m) := ih
  have HR := hide hR
  have HV := hide hV
  have HE := hide hE
  obtain ⟨vd, vc, vb, vo, rfl, hvd, hvlc, hvcm, hP⟩ := hV
  have HP := hide hP
  unfold maxLen at hvcm
  clear ih hP hR
  cases L with
  | nil =>
    obtain ⟨rfl, rfl⟩ := hE.nil
    have HRs : Hid (R = some s) := by
      have := HR.out
      cases n with
      | zero => simp [runU] at this
      | succ n => rw [Hid]; simpa [runU] using this.symm
    obtain ⟨ld, lc, lb, lo, rfl, hld, hllc, hlcm, -⟩ := hl
    obtain ⟨rd, rc, rb, ro, rfl, hrd, hrlc, hrcm, -⟩ := hr
    have hl0 : Fo.len (foOf []) = 0 := rfl
    rw [hl0]
    clear hld hrd hvd hE hl0
    go_enter Try.func62, Try.ntmps62
    go_wp2_with fail
    go_ret2
    exact ⟨Below.refl _ _, _, _, _, true, rfl, fun e => by (cases e), fun _ => ⟨s, HRs.out, rfl, HV.out⟩⟩
  | cons p L =>
    obtain ⟨⟨⟨tv, tn⟩, tk⟩, lt, ⟨⟨uv, un⟩, uk⟩, rt, rfl, rfl, hE', et, eu, gt, gu⟩ := hE.cons
    have HE' := hide hE'
    have Het := hide et
    have Heu := hide eu
    have Hgt := hide gt
    have Hgu := hide gu
    have Hlen := hide hE'.len
    have Hui := hide (ui_len hE'.ui)
    have Hl := hide hl
    have Hr := hide hr
    obtain ⟨ld, lc, lb, lo, rfl, hld, hllc, hlcm, hlF⟩ := hl
    obtain ⟨rd, rc, rb, ro, rfl, hrd, hrlc, hrcm, hrF⟩ := hr
    rw [foOf_len] at hld hllc hrd hrlc
    rw [foOf_len, foOf_len]
    simp only [List.length_cons] at hld hllc hrd hrlc ⊢
    have e1 := hld (by omega)
    have e2 := hrd (by omega)
    subst e1 e2
    have HlF := hide hlF
    have HrF := hide hrF
    obtain ⟨zl, hzl, hzl1⟩ := terms_rest (n := lt.length + 1) (c := lc) (b := lb) (o := lo) (by omega) hllc
    obtain ⟨zr, hzr, hzr1⟩ := terms_rest (n := rt.length + 1) (c := rc) (b := rb) (o := ro) (by omega) hrlc
    have HSl := hide (sin_rest hlF hllc hlcm hzl1)
    have HSr := hide (sin_rest hrF hrlc hrcm hzr1)
    obtain ⟨n0, n1, ⟨tva, n2, hSt⟩, -⟩ := FIn.node hlF
    obtain ⟨n3, n4, ⟨uva, n5, hSu⟩, -⟩ := FIn.node hrF
    have HSt := hide hSt
    have HSu := hide hSu
    obtain ⟨ta, tc, tb, t4, rfl, -, -, -, -⟩ := hSt
    obtain ⟨ua, uc, ub, u4, rfl, -, -, -, -⟩ := hSu
    simp only at n0 n1 n2 n3 n4 n5
    have hlb : lb < w.heap.size := World.block_lt_of_cell? _ _ n0
    have hrb : rb < w.heap.size := World.block_lt_of_cell? _ _ n3
    unfold maxLen at hlcm hrcm
    clear hE hE' et eu gt gu hld hrd hlF hrF hzl1 hzr1
    obtain ⟨⟨⟨mv, mn⟩, mk⟩, hm⟩ : ∃ z, z = subT (bnd s) ((tv, tn), tk) := ⟨_, rfl⟩
    obtain ⟨⟨⟨nv, nn⟩, nk⟩, hn⟩ : ∃ z, z = subT (bnd s) ((uv, un), uk) := ⟨_, rfl⟩
    have HcA := hide (fun w' hb => applyR_call (Below.refl _ w) HV.out (ui_ok HE.out.ui) HSt.out Hgt.out.ok Hgt.out.nar hm w' hb)
    have HcB := hide (fun w' hb => applyR_call (Below.refl _ w) HV.out (ui_ok HE.out.ui) HSu.out Hgu.out.ok Hgu.out.nar hn w' hb)
    have Hm := hide hm
    have Hn := hide hn
    have hcur : Below w.heap.size w w := Below.refl _ _
    have hl1 : (0 : Int) < ((lt.length + 1 : Nat) : Int) := by omega
    have hr1 : (0 : Int) < ((rt.length + 1 : Nat) : Int) := by omega
    have hne0 : (((lt.length + 1 : Nat) : Int) == 0) = false := by simp; omega
    have Hzl := hide hzl
    have Hzr := hide hzr
    have Hvd := hide hvd
    clear hm hn hvd hzl hzr
    go_enter Try.func62, Try.ntmps62
    go_upto_region 3 with fail
    go_cut [8, 9] (fun s13 s14 wx => ∃ (bx bb : Nat) (x1 : Option Addr) (x2 x3 : Nat) (y1 : Option Addr) (y2 y3 : Nat), s13 = .pointer (some ⟨bx, 0, none⟩) ∧ s14 = .pointer (some ⟨bb, 0, none⟩) ∧
      Bxs w wx bx bb (.bool mv) (.int .i64 mn) (.slice x1 x2 x3) (.bool nv) (.int .i64 nn) (.slice y1 y2 y3) ∧ SB (Off wx bx bb) wx mk (.slice x1 x2 x3) ∧ SB (Off wx bx bb) wx nk (.slice y1 y2 y3))
    case first =>
      have neN : w.heap.size ≠ lb := (by omega)
      have neN1 : w.heap.size + 1 ≠ lb := (by omega)
      have neN2 : w.heap.size ≠ rb := (by omega)
      have neN3 : w.heap.size + 1 ≠ rb := (by omega)
      go_region_held3 (fun w' => w'.cell? ⟨lb, lo, none⟩ = some (.bool tv) ∧ w'.cell? ⟨lb, lo + 1, none⟩ = some (.int .i64 tn) ∧ w'.cell? ⟨lb, lo + 2, none⟩ = some (.slice ta (Fo.len tk) tc) ∧ w'.cell? ⟨rb, ro, none⟩ = some (.bool uv) ∧ w'.cell? ⟨rb, ro + 1, none⟩ = some (.int .i64 un) ∧ w'.cell? ⟨rb, ro + 2, none⟩ = some (.slice ua (Fo.len uk) uc))
    (first
      | (with_reducible exact ⟨grow_cell hcur _ _ n0, grow_cell hcur _ _ n1, grow_cell hcur _ _ n2, grow_cell hcur _ _ n3, grow_cell hcur _ _ n4, grow_cell hcur _ _ n5⟩)
      | go_keep)
    (first
    | (go_at_call 45; with_reducible refine (HcA.out _ ?_).mono ?_; (with_reducible first | exact hcur | exact hcur.drew | exact (hcur.alloc hcur.size _).drew | exact hcur.alloc hcur.size _ | exact ((hcur.alloc hcur.size _).alloc (hcur.alloc hcur.size _).size _).drew | exact (hcur.alloc hcur.size _).alloc (hcur.alloc hcur.size _).size _); rintro e wA ⟨x1, x2, x3, mA, hmA, rfl, hSx, hbA⟩
       (with_reducible first | (refine thus (box2d hbA) ?_; rintro ⟨⟨fA0, fA1, fA2, fAf⟩, ⟨gA0, gA1, gA2, gAf⟩, fAl⟩; have fAk := Nat.lt_of_succ_lt fAl) | (refine thus (box2 hbA) ?_; rintro ⟨⟨fA0, fA1, fA2, fAf⟩, ⟨gA0, gA1, gA2, gAf⟩, fAl⟩; have fAk := Nat.lt_of_succ_lt fAl) | (refine thus (box1d hbA) ?_; rintro ⟨fA0, fA1, fA2, fAf, fAl⟩) | (refine thus (box1 hbA) ?_; rintro ⟨fA0, fA1, fA2, fAf, fAl⟩) | skip)
       (first | (refine thus (hmA.trans (size2 _ _ _)) ?_; intro kA) | (refine thus (hmA.trans (World.size_alloc _ _)) ?_; intro kA) | (refine thus hmA ?_; intro kA))
       (try (have hst : Below wB.heap.size wB wA := (by with_reducible first | exact hbA | exact below_box hbA | exact below_box (below_box hbA)); have hsl := hst.size; (try (have fB0' := grow_cell hst _ _ fB0; have fB1' := grow_cell hst _ _ fB1; have fB2' := grow_cell hst _ _ fB2; have ltfB0 := World.block_lt_of_cell? _ _ fB0; have ltfBc := World.block_lt_of_cell? _ _ fB0'; dsimp only at ltfBc; have fBf' := (fun i => (hst.frozen (p := ⟨_, i, none⟩) ltfB0).trans (fBf i)))); (try (have gB0' := grow_cell hst _ _ gB0; have gB1' := grow_cell hst _ _ gB1; have gB2' := grow_cell hst _ _ gB2; have ltgB0 := World.block_lt_of_cell? _ _ gB0; have ltgBc := World.block_lt_of_cell? _ _ gB0'; dsimp only at ltgBc; have gBf' := (fun i => (hst.frozen (p := ⟨_, i, none⟩) ltgB0).trans (gBf i))))))
       have hcurA : Below w.heap.size w wA := below_step (by with_reducible first | exact hcur | exact hcur.drew | exact (hcur.alloc hcur.size _).drew | exact hcur.alloc hcur.size _ | exact ((hcur.alloc hcur.size _).alloc (hcur.alloc hcur.size _).size _).drew | exact (hcur.alloc hcur.size _).alloc (hcur.alloc hcur.size _).size _) hbA
       replace hcur : Below w.heap.size w wA := below_step (by with_reducible first | exact hcur | exact hcur.drew | exact (hcur.alloc hcur.size _).drew | exact hcur.alloc hcur.size _ | exact ((hcur.alloc hcur.size _).alloc (hcur.alloc hcur.size _).size _).drew | exact (hcur.alloc hcur.size _).alloc (hcur.alloc hcur.size _).size _) hbA
       have hlA : lb < wA.heap.size := Nat.lt_of_lt_of_le hlb hcur.size; have hlA2 : rb < wA.heap.size := Nat.lt_of_lt_of_le hrb hcur.size
       have neA : wA.heap.size ≠ lb := (by omega)
       have neA1 : wA.heap.size + 1 ≠ lb := (by omega)
       have neA2 : wA.heap.size ≠ rb := (by omega)
       have neA3 : wA.heap.size + 1 ≠ rb := (by omega)
       have mA0 := grow_cell hcur _ _ n0; have mA1 := grow_cell hcur _ _ n1; have mA2 := grow_cell hcur _ _ n2; have mA3 := grow_cell hcur _ _ n3; have mA4 := grow_cell hcur _ _ n4; have mA5 := grow_cell hcur _ _ n5)
    | (go_at_call 45; with_reducible refine (HcB.out _ ?_).mono ?_; (with_reducible first | exact hcur | exact hcur.drew | exact (hcur.alloc hcur.size _).drew | exact hcur.alloc hcur.size _ | exact ((hcur.alloc hcur.size _).alloc (hcur.alloc hcur.size _).size _).drew | exact (hcur.alloc hcur.size _).alloc (hcur.alloc hcur.size _).size _); rintro e wB ⟨y1, y2, y3, mB, hmB, rfl, hSy, hbB⟩
       (with_reducible first | (refine thus (box2d hbB) ?_; rintro ⟨⟨fB0, fB1, fB2, fBf⟩, ⟨gB0, gB1, gB2, gBf⟩, fBl⟩; have fBk := Nat.lt_of_succ_lt fBl) | (refine thus (box2 hbB) ?_; rintro ⟨⟨fB0, fB1, fB2, fBf⟩, ⟨gB0, gB1, gB2, gBf⟩, fBl⟩; have fBk := Nat.lt_of_succ_lt fBl) | (refine thus (box1d hbB) ?_; rintro ⟨fB0, fB1, fB2, fBf, fBl⟩) | (refine thus (box1 hbB) ?_; rintro ⟨fB0, fB1, fB2, fBf, fBl⟩) | skip)
       (first | (refine thus (hmB.trans (size2 _ _ _)) ?_; intro kB) | (refine thus (hmB.trans (World.size_alloc _ _)) ?_; intro kB) | (refine thus hmB ?_; intro kB))
       (try (have hst : Below wA.heap.size wA wB := (by with_reducible first | exact hbB | exact below_box hbB | exact below_box (below_box hbB)); have hsl := hst.size; (try (have fA0' := grow_cell hst _ _ fA0; have fA1' := grow_cell hst _ _ fA1; have fA2' := grow_cell hst _ _ fA2; have ltfA0 := World.block_lt_of_cell? _ _ fA0; have ltfAc := World.block_lt_of_cell? _ _ fA0'; dsimp only at ltfAc; have fAf' := (fun i => (hst.frozen (p := ⟨_, i, none⟩) ltfA0).trans (fAf i)))); (try (have gA0' := grow_cell hst _ _ gA0; have gA1' := grow_cell hst _ _ gA1; have gA2' := grow_cell hst _ _ gA2; have ltgA0 := World.block_lt_of_cell? _ _ gA0; have ltgAc := World.block_lt_of_cell? _ _ gA0'; dsimp only at ltgAc; have gAf' := (fun i => (hst.frozen (p := ⟨_, i, none⟩) ltgA0).trans (gAf i))))))
       replace hcur : Below w.heap.size w wB := below_step (by with_reducible first | exact hcur | exact hcur.drew | exact (hcur.alloc hcur.size _).drew | exact hcur.alloc hcur.size _ | exact ((hcur.alloc hcur.size _).alloc (hcur.alloc hcur.size _).size _).drew | exact (hcur.alloc hcur.size _).alloc (hcur.alloc hcur.size _).size _) hbB
       have hlB : lb < wB.heap.size := Nat.lt_of_lt_of_le hlb hcur.size; have hlB2 : rb < wB.heap.size := Nat.lt_of_lt_of_le hrb hcur.size
       have neB : wB.heap.size ≠ lb := (by omega)
       have neB1 : wB.heap.size + 1 ≠ lb := (by omega)
       have neB2 : wB.heap.size ≠ rb := (by omega)
       have neB3 : wB.heap.size + 1 ≠ rb := (by omega)
       have mB0 := grow_cell hcur _ _ n0; have mB1 := grow_cell hcur _ _ n1; have mB2 := grow_cell hcur _ _ n2; have mB3 := grow_cell hcur _ _ n3; have mB4 := grow_cell hcur _ _ n4; have mB5 := grow_cell hcur _ _ n5))
      all_goals
        have hnA := hcurA.size
        have hnB := hcur.size
        have hnA1 : w.heap.size ≤ wA.heap.size + 1 := Nat.le_succ_of_le hnA
        go_wp2_with fail
        go_meet
        case rel =>
         first
        | (with_reducible refine ⟨wB.heap.size, wB.heap.size + 1, x1, x2, x3, y1, y2, y3, rfl, rfl, gin0 hcur, sb_keep hSx (fun q hq => ?_), sb_keep hSy (fun q hq => ?_)⟩
           · exact ⟨(heap0 (by omega)).trans (hst.block q (by omega)), by omega, by omega, by omega⟩
           · exact ⟨heap0 (by omega), by omega, by omega, by omega⟩)
        | (with_reducible refine ⟨wB.heap.size + 1, wB.heap.size, x1, x2, x3, y1, y2, y3, rfl, rfl, (gin0 hcur).swap, sb_keep hSx (fun q hq => ?_), sb_keep hSy (fun q hq => ?_)⟩
           · exact ⟨(heap0 (by omega)).trans (hst.block q (by omega)), by omega, by omega, by omega⟩
           · exact ⟨heap0 (by omega), by omega, by omega, by omega⟩)
        | (with_reducible refine ⟨wA.heap.size, wB.heap.size, x1, x2, x3, y1, y2, y3, rfl, rfl, gin1 hcur hnA fB0 fB1 fB2 fBf, sb_keep hSx (fun q hq => ?_), sb_keep hSy (fun q hq => ?_)⟩
           · exact ⟨(heap1 (by omega) (by omega)).trans (hst.block q (by omega)), by omega, by omega, by omega⟩
           · exact ⟨heap1 (by omega) (by omega), by omega, by omega, by omega⟩)
        | (with_reducible refine ⟨wB.heap.size, wA.heap.size, x1, x2, x3, y1, y2, y3, rfl, rfl, (gin1 hcur hnA fB0 fB1 fB2 fBf).swap, sb_keep hSx (fun q hq => ?_), sb_keep hSy (fun q hq => ?_)⟩
           · exact ⟨(heap1 (by omega) (by omega)).trans (hst.block q (by omega)), by omega, by omega, by omega⟩
           · exact ⟨heap1 (by omega) (by omega), by omega, by omega, by omega⟩)
        | (with_reducible refine ⟨w.heap.size, wB.heap.size, x1, x2, x3, y1, y2, y3, rfl, rfl, gin1 hcur (Nat.le_refl _) fA0' fA1' fA2' fAf', sb_keep hSx (fun q hq => ?_), sb_keep hSy (fun q hq => ?_)⟩
           · exact ⟨(heap1 (by omega) (by omega)).trans (hst.block q (by omega)), by omega, by omega, by omega⟩
           · exact ⟨heap1 (by omega) (by omega), by omega, by omega, by omega⟩)
        | (with_reducible refine ⟨wB.heap.size, w.heap.size, x1, x2, x3, y1, y2, y3, rfl, rfl, (gin1 hcur (Nat.le_refl _) fA0' fA1' fA2' fAf').swap, sb_keep hSx (fun q hq => ?_), sb_keep hSy (fun q hq => ?_)⟩
           · exact ⟨(heap1 (by omega) (by omega)).trans (hst.block q (by omega)), by omega, by omega, by omega⟩
           · exact ⟨heap1 (by omega) (by omega), by omega, by omega, by omega⟩)
        | (with_reducible refine ⟨wA.heap.size, wA.heap.size + 1, x1, x2, x3, y1, y2, y3, rfl, rfl, gin2 hcur hnA hnA1 (Nat.ne_of_lt (Nat.lt_succ_self _)) fB0 fB1 fB2 fBf gB0 gB1 gB2 gBf, sb_keep hSx (fun q hq => ?_), sb_keep hSy (fun q hq => ?_)⟩
           · exact ⟨(heap2 (by omega) (by omega)).trans (hst.block q (by omega)), by omega, by omega, by omega⟩
           · exact ⟨heap2 (by omega) (by omega), by omega, by omega, by omega⟩)
        | (with_reducible refine ⟨wA.heap.size + 1, wA.heap.size, x1, x2, x3, y1, y2, y3, rfl, rfl, gin2 hcur hnA1 hnA (Nat.ne_of_gt (Nat.lt_succ_self _)) gB0 gB1 gB2 gBf fB0 fB1 fB2 fBf, sb_keep hSx (fun q hq => ?_), sb_keep hSy (fun q hq => ?_)⟩
           · exact ⟨(heap2 (by omega) (by omega)).trans (hst.block q (by omega)), by omega, by omega, by omega⟩
           · exact ⟨heap2 (by omega) (by omega), by omega, by omega, by omega⟩)
        | (with_reducible refine ⟨w.heap.size, wA.heap.size, x1, x2, x3, y1, y2, y3, rfl, rfl, gin2 hcur (Nat.le_refl _) hnA (Nat.ne_of_lt fAl) fA0' fA1' fA2' fAf' fB0 fB1 fB2 fBf, sb_keep hSx (fun q hq => ?_), sb_keep hSy (fun q hq => ?_)⟩
           · exact ⟨(heap2 (by omega) (by omega)).trans (hst.block q (by omega)), by omega, by omega, by omega⟩
           · exact ⟨heap2 (by omega) (by omega), by omega, by omega, by omega⟩)
        | (with_reducible refine ⟨wA.heap.size, w.heap.size, x1, x2, x3, y1, y2, y3, rfl, rfl, gin2 hcur hnA (Nat.le_refl _) (Nat.ne_of_gt fAl) fB0 fB1 fB2 fBf fA0' fA1' fA2' fAf', sb_keep hSx (fun q hq => ?_), sb_keep hSy (fun q hq => ?_)⟩
           · exact ⟨(heap2 (by omega) (by omega)).trans (hst.block q (by omega)), by omega, by omega, by omega⟩
           · exact ⟨heap2 (by omega) (by omega), by omega, by omega, by omega⟩)
        | (with_reducible refine ⟨w.heap.size, w.heap.size + 1, x1, x2, x3, y1, y2, y3, rfl, rfl, gin2 hcur (Nat.le_refl _) (Nat.le_succ _) (Nat.ne_of_lt (Nat.lt_succ_self _)) fA0' fA1' fA2' fAf' gA0' gA1' gA2' gAf', sb_keep hSx (fun q hq => ?_), sb_keep hSy (fun q hq => ?_)⟩
           · exact ⟨(heap2 (by omega) (by omega)).trans (hst.block q (by omega)), by omega, by omega, by omega⟩
           · exact ⟨heap2 (by omega) (by omega), by omega, by omega, by omega⟩)
        | (with_reducible refine ⟨w.heap.size + 1, w.heap.size, x1, x2, x3, y1, y2, y3, rfl, rfl, gin2 hcur (Nat.le_succ _) (Nat.le_refl _) (Nat.ne_of_gt (Nat.lt_succ_self _)) gA0' gA1' gA2' gAf' fA0' fA1' fA2' fAf', sb_keep hSx (fun q hq => ?_), sb_keep hSy (fun q hq => ?_)⟩
           · exact ⟨(heap2 (by omega) (by omega)).trans (hst.block q (by omega)), by omega, by omega, by omega⟩
           · exact ⟨heap2 (by omega) (by omega), by omega, by omega, by omega⟩)
    case rest =>
      obtain ⟨bx, bb, x1, x2, x3, y1, y2, y3, rfl, rfl, hbxs, hSm, hSn⟩ := hcut
      generalize wc = wx at *
      obtain ⟨⟨⟨a0, a1, a2⟩, ⟨e0, e1, e2⟩, hbx⟩, ⟨f1, f2⟩, hwb, hwd, hbd⟩ := hbxs
      have HSm := hide hSm
      have HSn := hide hSn
      obtain ⟨_, _, _, _, he, -, -, -, -⟩ := hSm
      simp only [Value.slice.injEq] at he
      obtain ⟨-, rfl, -⟩ := he
      obtain ⟨_, _, _, _, he, -, -, -, -⟩ := hSn
      simp only [Value.slice.injEq] at he
      obtain ⟨-, rfl, -⟩ := he
      have HgM : Hid (Gd ((mv, mn), mk)) := by rw [Hid, Hm.out]; exact gd_sub HE.out.ui.gs Hgt.out
      have HgN : Hid (Gd ((nv, nn), nk)) := by rw [Hid, Hn.out]; exact gd_sub HE.out.ui.gs Hgu.out
      have hzl := Hzl.out
      have hzr := Hzr.out
      clear n0 n1 n2 n3 n4 n5 hcur HcA HcB hlb hrb
      go_upto_region 4 with fail
      go_cut [1, 2] (fun s1 s2 wy => s1 = .slice zl lt.length (lc - 1) ∧ s2 = .slice zr rt.length (rc - 1) ∧ wy = wx.drew)
      case first =>
        go_region
        all_goals
          go_wp2_with fail
          go_meet
          case rel => exact ⟨rfl, rfl, rfl⟩
      case rest =>
        obtain ⟨rfl, rfl, rfl⟩ := hcut
        clear hzl hzr
        go_wp2_with fail
        refine (sameR_any (mv, mn) mk (nv, nn) nk _ _ wx.drew HSm.out.toS.drew HSn.out.toS.drew).mono ?_
        rintro e w9 ⟨rfl, hb9⟩
        have hb9' : Below wx.heap.size wx w9 := (Below.refl _ _).drew.trans hb9
        have hB9 := below_step hbx hb9'
        have HSl9 : Hid (SIn w9 (foOf lt) (.slice zl lt.length (lc - 1))) := HSl.out.below hB9
        have HSr9 : Hid (SIn w9 (foOf rt) (.slice zr rt.length (rc - 1))) := HSr.out.below hB9
        have HB9 := hide hB9
        cases hsm : sameT (mv, mn) mk (nv, nn) nk
        · have Hne : Hid (((mv, mn), mk) ≠ ((nv, nn), nk)) := fun e => by
            have := (sameT_iff (t := ((mv, mn), mk)) (u := ((nv, nn), nk)) HgM.out.ok HgN.out.ok).2 e
            simp only at this
            rw [hsm] at this
            cases this
          have c0 := grow_cell hb9' _ _ a0
          have c1 := grow_cell hb9' _ _ a1
          have c2 := grow_cell hb9' _ _ a2
          have d0 := grow_cell hb9' _ _ e0
          have d1 := grow_cell hb9' _ _ e1
          have d2 := grow_cell hb9' _ _ e2
          have hbl : bx < wx.heap.size := World.block_lt_of_cell? _ _ a0
          have hdl : bb < wx.heap.size := World.block_lt_of_cell? _ _ e0
          have g1 : ∀ i, w9.frozen? ⟨bx, i, none⟩ = false := fun i => (hb9'.frozen (p := ⟨bx, i, none⟩) hbl).trans (f1 i)
          have g2 : ∀ i, w9.frozen? ⟨bb, i, none⟩ = false := fun i => (hb9'.frozen (p := ⟨bb, i, none⟩) hdl).trans (f2 i)
          have hs9 := hb9'.size
          have HSm9 : Hid (SB (Off w9 bx bb) w9 mk (.slice x1 (Fo.len mk) x3)) := (HSm.out.grow (fun _ h => h.1) hb9').wide (fun q h => ⟨by have := h.1; omega, h.2⟩)
          have HSn9 : Hid (SB (Off w9 bx bb) w9 nk (.slice y1 (Fo.len nk) y3)) := (HSn.out.grow (fun _ h => h.1) hb9').wide (fun q h => ⟨by have := h.1; omega, h.2⟩)
          have hdb : bb ≠ bx := Ne.symm hbd
          have hbl9 : bx < w9.heap.size := by omega
          have hdl9 : bb < w9.heap.size := by omega
          clear a0 a1 a2 e0 e1 e2 f1 f2 hsm hb9 hb9' hs9 HSm HSn hbl hdl hbx
          go_upto_region 7 with fail
          go_cut [48] (fun s48 wy => s48 = .bool (!mv && !nv) ∧ w9 = wy)
          case first =>
            cases mv <;> cases nv
            all_goals
              go_wp2_with fail
              go_meet
              case rel => exact ⟨rfl, rfl⟩
          case rest =>
            obtain ⟨rfl, rfl⟩ := hcut
            cases hvv : (!mv && !nv)
            · -- one of them is a variable
              go_upto_if 81 with fail
              go_cut [] (fun wy => ∃ (pv : Bool) (pn : Int) (pk : Fo) (p1 : Option Addr) (p3 : Nat) (qv : Bool) (qn : Int) (qk : Fo) (q1 : Option Addr) (q3 : Nat), C3 wy bx (.bool pv) (.int .i64 pn) (.slice p1 (Fo.len pk) p3) ∧ C3 wy bb (.bool qv) (.int .i64 qn) (.slice q1 (Fo.len qk) q3) ∧ Below w.heap.size w wy ∧ SIn wy qk (.slice q1 (Fo.len qk) q3) ∧
                ((((pv, pn), pk) = ((mv, mn), mk) ∧ ((qv, qn), qk) = ((nv, nn), nk) ∧ pv = true) ∨ (((pv, pn), pk) = ((nv, nn), nk) ∧ ((qv, qn), qk) = ((mv, mn), mk) ∧ pv = true ∧ ¬ qv = true)))
              case first =>
                cases mv
                · have hnv : nv = true := by revert hvv; cases nv <;> simp
                  subst hnv
                  have Hfin : Hid (C3 (set3 (set3 w9 bx 0 (.bool true) (.int .i64 nn) (.slice y1 (Fo.len nk) y3)) bb 0 (.bool false) (.int .i64 mn) (.slice x1 (Fo.len mk) x3)) bx (.bool true) (.int .i64 nn) (.slice y1 (Fo.len nk) y3) ∧ C3 (set3 (set3 w9 bx 0 (.bool true) (.int .i64 nn) (.slice y1 (Fo.len nk) y3)) bb 0 (.bool false) (.int .i64 mn) (.slice x1 (Fo.len mk) x3)) bb (.bool false) (.int .i64 mn) (.slice x1 (Fo.len mk) x3) ∧ Below w.heap.size w (set3 (set3 w9 bx 0 (.bool true) (.int .i64 nn) (.slice y1 (Fo.len nk) y3)) bb 0 (.bool false) (.int .i64 mn) (.slice x1 (Fo.len mk) x3))) := fin2 HB9.out hwb hwd hbd c0 c1 c2 d0 d1 d2
                  have HSq := hide (sb_swapped (x := .bool true) (y := .int .i64 nn) (z := .slice y1 (Fo.len nk) y3) (x' := .bool false) (y' := .int .i64 mn) (z' := .slice x1 (Fo.len mk) x3) HSm9.out)
                  clear hvv
                  go_wp2_with fail
                  go_meet
                  case rel => exact ⟨true, nn, nk, y1, y3, false, mn, mk, x1, x3, Hfin.out.1, Hfin.out.2.1, Hfin.out.2.2, HSq.out, .inr ⟨rfl, rfl, rfl, by decide⟩⟩
                · clear hvv
                  go_wp2_with fail
                  go_meet
                  case rel => exact ⟨true, mn, mk, x1, x3, nv, nn, nk, y1, y3, ⟨c0, c1, c2⟩, ⟨d0, d1, d2⟩, HB9.out, HSn9.out.toS, .inl ⟨rfl, rfl, rfl⟩⟩
              case rest =>
                obtain ⟨pv, pn, pk, p1, p3, qv, qn, qk, q1, q3, ⟨a0, a1, a2⟩, ⟨e0, e1, e2⟩, hby, hSq, huv⟩ := hcut
                generalize wc = wy at *
                have HSq := hide hSq
                have Hby := hide hby
                have HgQ : Hid (Gd ((qv, qn), qk)) := by
                  rcases huv with ⟨_, h, _⟩ | ⟨_, h, _, _⟩
                  · rw [Hid, h]; exact HgN.out
                  · rw [Hid, h]; exact HgM.out
                have Hbind := hide (Eqs.bind HE.out.ui HE'.out HR.out Hm.out Hn.out Het.out Heu.out Hne.out huv)
                have Hv5 : Hid ((varsT (qv, qn) qk []).length * 8 ≤ 140737488355328) := by
                  have := gd_vars HgQ.out
                  simp only at this
                  unfold Hid
                  omega
                clear hSq hby huv hvv c0 c1 c2 d0 d1 d2 g1 g2 HSl9 HSr9 HSm9 HSn9
                go_wp2_with fail
                refine (inR_any pn (qv, qn) qk _ wy _ rfl HSq.out Hv5.out).mono ?_
                rintro e w11 ⟨rfl, hb11⟩
                have hB11 := below_step Hby.out hb11
                have b1 := grow_cell hb11 _ _ a1
                have m0 := grow_cell hb11 _ _ e0
                have m1 := grow_cell hb11 _ _ e1
                have m2 := grow_cell hb11 _ _ e2
                have HSq11 := hide (HSq.out.below hb11)
                have HB11 := hide hB11
                clear a0 a1 a2 e0 e1 e2 hb11 HSq Hv5
                cases hh : hasB (varsT (qv, qn) qk []) pn
                · have Hadd : Hid (addS s pn ((qv, qn), qk) = some ((s.map fun p => (p.1, subT (bnd [(pn, ((qv, qn), qk))]) p.2)) ++ [(pn, ((qv, qn), qk))])) := by
                    unfold addS Hid
                    rw [if_neg (by simp [hh])]
                  obtain ⟨m, hmn, hE2, hm2⟩ := Hbind.out.2 _ Hadd.out
                  have HE2 := hide hE2
                  have Hm2 := hide hm2
                  have Hmn := hide hmn
                  clear hh hE2 hm2 hmn hB11 Hbind
                  go_wp2_with fail
                  generalize hWl : w11.alloc (.cells #[.int .i64 pn, .bool qv, .int .i64 qn, .slice q1 (Fo.len qk) q3] 92) = Wl
                  have HBl : Hid (Below w.heap.size w Wl) := by rw [Hid, ← hWl]; exact HB11.out.alloc HB11.out.size _
                  have hsl : Wl.heap.size = w11.heap.size + 1 := by rw [← hWl]; simp
                  have Hblk : Hid (Wl.heap[w11.heap.size]? = some (.cells #[.int .i64 pn, .bool qv, .int .i64 qn, .slice q1 (Fo.len qk) q3] 92)) := by rw [Hid, ← hWl]; exact heap_alloc_new w11 _
                  have Hone : Hid (SubIn Wl [(pn, ((qv, qn), qk))] (.slice (some ⟨w11.heap.size, 0, none⟩) 1 1)) := by
                    rw [Hid, ← hWl]
                    exact ⟨_, 1, w11.heap.size, 0, rfl, fun _ => rfl, Nat.le_refl _, by unfold maxLen; omega, new_cell rfl, new_cell rfl, new_cell rfl, ⟨_, new_cell rfl, HSq11.out.alloc _⟩, trivial⟩
                  have HQl : Hid (SIn Wl qk (.slice q1 (Fo.len qk) q3)) := by rw [Hid, ← hWl]; exact HSq11.out.alloc _
                  have Hs5 : Hid (s.length ≤ 10) := Hui.out.2
                  clear hWl b1 m0 m1 m2
                  go_loopw [11, 95] (fun vj i wr => ∃ (j : Nat) (o1 : Option Addr) (o3 : Nat) (xs : List Value), j ≤ s.length ∧ vj = .slice o1 j o3 ∧ i = .int .i64 j ∧ OwnS Wl.heap.size (XO wr (.slice o1 j o3)) wr ((s.take j).map fun p => (p.1, subT (bnd [(pn, ((qv, qn), qk))]) p.2)) (.slice o1 j o3) xs ∧ Below Wl.heap.size Wl wr) (fun _ i _ => s.length - (intOf i).toNat)
                  case atStart => exact ⟨0, none, 0, [], Nat.zero_le _, rfl, rfl, own_nil _ _, Below.refl _ _⟩
                  case round =>
                    obtain ⟨j, o1, o3, xs, hj, rfl, rfl, hO, hBr⟩ := hrel
                    have HO := hide hO
                    have HBr := hide hBr
                    have hsr := hBr.size
                    have hBw := below_step HBl.out hBr
                    have HBw := hide hBw
                    have Hlj : Hid (((s.take j).map fun p => (p.1, subT (bnd [(pn, ((qv, qn), qk))]) p.2)).length = j) := by rw [Hid, List.length_map, List.length_take]; omega
                    have H1 : Hid (wr.ownsRow Wl.heap.size 92 4 (.slice o1 j o3) j xs) := by
                      have := hO.row
                      rw [Hlj.out] at this
                      exact this
                    obtain ⟨i52, hi52, hz0, hz1, hz2⟩ := info_parts Try.info92
                    have hs5 := Hs5.out
                    clear hO hBr
                    by_cases hlt : j < s.length
                    · have hlt' : (j : Int) < (s.length : Int) := by omega
                      have hj0 : (0 : Int) ≤ (j : Int) := by omega
                      obtain ⟨⟨mm, ⟨ev, en⟩, ek⟩, hy⟩ : ∃ y, s[j]? = some y := ⟨s[j], by simp [hlt]⟩
                      have ha : vd = some ⟨vb, vo, none⟩ := Hvd.out (by omega)
                      subst ha
                      obtain ⟨d0, d1, d2, ya', d3, hSy⟩ := HP.out.at hy
                      have d0' := grow_cell hBw _ _ d0
                      have d1' := grow_cell hBw _ _ d1
                      have d2' := grow_cell hBw _ _ d2
                      have d3' := grow_cell hBw _ _ d3
                      have HSy := hide (hSy.below HBl.out)
                      obtain ⟨ya, yc, yb, yo, rfl, -, -, -, -⟩ := hSy
                      obtain ⟨⟨⟨zv, zn⟩, zk⟩, hz⟩ : ∃ z, z = subT (bnd [(pn, ((qv, qn), qk))]) ((ev, en), ek) := ⟨_, rfl⟩
                      have Hs1 : Hid ((s.take (j + 1)).map (fun p => (p.1, subT (bnd [(pn, ((qv, qn), qk))]) p.2)) = (s.take j).map (fun p => (p.1, subT (bnd [(pn, ((qv, qn), qk))]) p.2)) ++ [(mm, ((zv, zn), zk))]) := by rw [Hid, take_more hy, hz]
                      have Hge : Hid (Gd ((ev, en), ek)) := HE.out.ui.gs _ (List.mem_of_getElem? hy)
                      have hn1 : j + 1 ≤ maxLen := by unfold maxLen; omega
                      have hn2 : (j + 1) * 48 ≤ 140737488355328 := by omega
                      have Hz := hide hz
                      clear hy d0 d1 d2 d3 hBw hz
                      go_upto_region 20 with fail
                      generalize hwa : wr.alloc (.cells #[.int .i64 mm, .bool ev, .int .i64 en, .slice ya (Fo.len ek) yc] 92) = wa
                      have e0 : wa.cell? ⟨wr.heap.size, 0, none⟩ = some (.int .i64 mm) := by rw [← hwa]; exact new_cell rfl
                      have e1 : wa.cell? ⟨wr.heap.size, 1, none⟩ = some (.bool ev) := by rw [← hwa]; exact new_cell rfl
                      have e2 : wa.cell? ⟨wr.heap.size, 2, none⟩ = some (.int .i64 en) := by rw [← hwa]; exact new_cell rfl
                      have e3 : wa.cell? ⟨wr.heap.size, 3, none⟩ = some (.slice ya (Fo.len ek) yc) := by rw [← hwa]; exact new_cell rfl
                      have hba : Below wr.heap.size wr wa := by rw [← hwa]; exact below_alloc _ _
                      have hcall : Calls Try.prog 45 #[.slice (some ⟨w11.heap.size, 0, none⟩) 1 1, .agg #[.bool ev, .int .i64 en, .slice ya (Fo.len ek) yc]] wa.drew fun e w' => ∃ (a1 : Option Addr) (a2 a3 : Nat), e = .returned (.agg #[.bool zv, .int .i64 zn, .slice a1 a2 a3]) ∧ SB (fun q => q < Wl.heap.size ∨ (wr.heap.size ≤ q ∧ q < w'.heap.size)) w' zk (.slice a1 a2 a3) ∧ Below wa.heap.size wa w' := by
                        refine (applyR_any (ev, en) ek [(pn, ((qv, qn), qk))] _ Wl _ wa.drew ?_ Hone.out ?_ HSy.out Hge.out.ok Hge.out.nar).mono ?_
                        · exact (below_step HBr.out hba).drew
                        · intro p hp
                          simp only [List.mem_singleton] at hp
                          subst hp
                          exact HgQ.out.ok
                        · rintro e w' ⟨a1, a2, a3, rfl, hk, hb⟩
                          rw [← Hz.out] at hk ⊢
                          have hs := hba.size
                          exact ⟨a1, a2, a3, rfl, hk.wide (fun q hq => by rcases hq with h | h; exact .inl h; exact .inr ⟨Nat.le_trans hs h.1, h.2⟩), (Below.refl _ _).drew.trans hb⟩
                      have Hcall := hide hcall
                      have Hba := hide hba
                      clear hcall hwa d0' d1' d2' d3' hba
                      go_region_law (first
                        | (refine step_append_lies _ (by rfl) _ _ _ (by rfl) Wl.heap.size 92 i52 (.agg #[.int .i64 0, .bool false, .int .i64 0, .slice none 0 0]) 4 48 Try.underlying58 hi52 hz0 hz1 hz2 rfl (by decide) (.slice o1 j o3) j xs (by rfl) Hown3.out ⟨w3.heap.size, 0, none⟩ 1 1 [.int .i64 mm, .bool zv, .int .i64 zn, .slice a1 a2 a3] (by rfl) (by rfl) Hnews.out (by simp [Value.oneCell']) (by decide) hn1 hn2 (by simp; omega) (w3.heap.size + 1) (by simp) ?_; intro g cap w4 ho4 hg4 hat4 hlt4)
                        | (go_simp; go_at_call 45; refine Hcall.out.mono ?_; rintro e w3 ⟨a1, a2, a3, rfl, hk3, hb3⟩
                           have hs3 := hb3.size; have hsa := Hba.out.size; have k0 := grow_cell hb3 _ _ e0
                           have Hown3 : Hid ((w3.alloc (.cells #[.int .i64 mm, .bool zv, .int .i64 zn, .slice a1 a2 a3] 92)).ownsRow Wl.heap.size 92 4 (.slice o1 j o3) j xs) := (owns_keep H1.out (fun g hg => by have h := owns_at H1.out g hg; have hsz := Hba.out.size; rw [Below.heap_alloc _ _ _ (by omega), hb3.block g (by omega), Hba.out.block g h.2]))
                           have Hnews : Hid (∀ j u, [Value.int .i64 mm, .bool zv, .int .i64 zn, .slice a1 a2 a3][j]? = some u → (w3.alloc (.cells #[.int .i64 mm, .bool zv, .int .i64 zn, .slice a1 a2 a3] 92)).cell? ((⟨w3.heap.size, 0, none⟩ : Addr).add j) = some u) := (World.news_of_block (cs := #[.int .i64 mm, .bool zv, .int .i64 zn, .slice a1 a2 a3]) (heap_alloc_new w3 _))))
                      all_goals
                        have Hst := hide (out_next (n := mm) (t := ((zv, zn), zk)) (a := .slice a1 a2 a3) HO.out Hlj.out (below_step Hba.out hb3) hsr hk3 ho4 hg4 hat4 hlt4)
                        clear hk3 hb3 ho4 hg4 hat4 hlt4 k0 Hown3 Hnews hi52 hz0 hz1 hz2
                        go_wp2_with fail
                        go_roundw
                        case rel => exact ⟨j + 1, some ⟨g, 0, none⟩, cap, _, by omega, rfl, by go_num, by rw [Hs1.out]; exact Hst.out.1, HBr.out.trans Hst.out.2⟩
                        case measure => simp [intOf]; omega
                    · have hje : j = s.length := by omega
                      subst hje
                      have HCs : Hid (Cs wr (.slice (some ⟨w11.heap.size, 0, none⟩) 1 1) 1 4 [.int .i64 pn, .bool qv, .int .i64 qn, .slice q1 (Fo.len qk) q3]) := cs_pair ((HBr.out.block _ (by omega)).trans Hblk.out)
                      have hn1 : s.length + 1 ≤ maxLen := by unfold maxLen; omega
                      have hn2 : (s.length + 1) * 48 ≤ 140737488355328 := by omega
                      have HPC : Hid (PC (XO wr (.slice o1 s.length o3)) wr [(pn, ((qv, qn), qk))] [.int .i64 pn, .bool qv, .int .i64 qn, .slice q1 (Fo.len qk) q3]) := PC.one (t := ((qv, qn), qk)) ((HQl.out.toB.grow (fun _ h => h) HBr.out).wide (fun q hq => ⟨by omega, fun e => by have := (owns_at H1.out q e.symm).1; omega⟩))
                      clear hBw
                      go_wp2_with (at_builtin; refine wpList_append_gen rfl (.tmp 110) (.tmp 111) 58 rfl Wl.heap.size 92 i52 (.agg #[.int .i64 0, .bool false, .int .i64 0, .slice none 0 0]) 4 48 Try.underlying58 hi52 hz0 hz1 hz2 rfl (by decide) (.slice o1 s.length o3) s.length xs rfl H1.out _ 1 [.int .i64 pn, .bool qv, .int .i64 qn, .slice q1 (Fo.len qk) q3] rfl HCs.out hn1 hn2 hsr ?_; intro v4 w4 ho4 hg4 hat4)
                      have HB4 : Hid (Below w.heap.size w w4) := HBw.out.grown hg4 HBw.out.size (fun g hg => by have := (owns_at H1.out g hg).1; have := HBl.out.size; omega)
                      have Hrow : Hid (SubIn w4 ((s.map fun p => (p.1, subT (bnd [(pn, ((qv, qn), qk))]) p.2)) ++ [(pn, ((qv, qn), qk))]) v4) := by
                        have := row_more HO.out HPC.out (by rw [Hlj.out]; exact ho4) hg4
                        rw [List.take_length] at this
                        exact this
                      refine (HI.out m Hmn.out _ L R lt rt _ _ _ w4 HE2.out Hm2.out Hrow.out (HSl.out.below HB4.out) (HSr.out.below HB4.out)).mono ?_
                      rintro e w10 ⟨hb10, z1, zm, z3, ok, rfl, hno, hyes⟩
                      have Hf : Hid (UniPost w R (.returned (.tuple #[.slice z1 zm z3, .bool ok])) w10) := ⟨below_step HB4.out hb10, z1, zm, z3, ok, rfl, hno, hyes⟩
                      clear hno hyes hb10 ho4 hg4 hat4 hi52 hz0 hz1 hz2
                      go_wp2_with fail
                      go_ret2
                      exact Hf.out
                · have Hf : Hid (UniPost w R (.returned (.tuple #[.slice none 0 0, .bool false])) w11) := uni_no HB11.out (Hbind.out.1 (by
                    unfold addS
                    rw [if_pos (by simpa using hh)]))
                  clear hh
                  go_wp2_with fail
                  go_ret2
                  exact Hf.out
            · -- two symbols
              obtain ⟨rfl, rfl⟩ : mv = false ∧ nv = false := by revert hvv; cases mv <;> cases nv <;> simp
              obtain ⟨hargs0, hargs1⟩ := Eqs.args HE.out.ui HE'.out HR.out Hm.out Hn.out Het.out Heu.out Hgt.out Hgu.out rfl rfl
              clear hvv g1 g2
              by_cases hc : mn = nn ∧ Fo.len mk = Fo.len nk
              · obtain ⟨rfl, hll⟩ := hc
                obtain ⟨m, L', hmn, hE2, hm2⟩ := hargs1 ⟨rfl, hll⟩
                have HE2 : Hid (Eqs s L' (([] ++ mk.list) ++ lt) (([] ++ nk.list) ++ rt)) := hE2
                have Hm2 := hide hm2
                have Hmn := hide hmn
                have hnb : (mn != mn) = false := by simp
                have hlb : ((Fo.len mk : Int) != (Fo.len nk : Int)) = false := by simp [hll]
                have Hk1 : Hid (SIn w9 (foOf mk.list) (.slice x1 (Fo.len mk) x3)) := by rw [Hid, foOf_of_ok HgM.out.ok.2]; exact HSm9.out.toS
                have Hk2 : Hid (SIn w9 (foOf nk.list) (.slice y1 (Fo.len nk) y3)) := by rw [Hid, foOf_of_ok HgN.out.ok.2]; exact HSn9.out.toS
                have Hb1 : Hid (mk.list.length ≤ 2 ∧ nk.list.length ≤ 2 ∧ lt.length ≤ 12288 ∧ rt.length ≤ 12288) := by
                  have h1 := HgM.out.two.1
                  have h2 := HgN.out.two.1
                  have h3 := Hlen.out
                  have h4 := Hui.out
                  simp only at h1 h2
                  rw [Hid, Fo.len_list, Fo.len_list]
                  omega
                have hA1 : ([] : List Tm).length + mk.list.length ≤ 100000 := by have := Hb1.out; simp; omega
                have hA2 : ([] ++ mk.list).length + lt.length ≤ 100000 := by have := Hb1.out; simp; omega
                have hA3 : ([] : List Tm).length + nk.list.length ≤ 100000 := by have := Hb1.out; simp; omega
                have hA4 : ([] ++ nk.list).length + rt.length ≤ 100000 := by have := Hb1.out; simp; omega
                have hst := Side.init w9
                have ne1 : w9.heap.size ≠ bx := by omega
                have ne2 : w9.heap.size ≠ bb := by omega
                have ne3 : w9.heap.size + 1 ≠ bx := by omega
                have ne4 : w9.heap.size + 1 ≠ bb := by omega
                clear hargs0 hargs1 hE2 hm2 hll hmn
                go_upto_region 10 with fail
                go_region_held3 (fun w' => w'.cell? ⟨bx, 2, none⟩ = some (.slice x1 (Fo.len mk) x3) ∧ w'.cell? ⟨bb, 2, none⟩ = some (.slice y1 (Fo.len nk) y3))
                  (first
                    | (with_reducible exact ⟨grow_cell hst.below _ _ c2, grow_cell hst.below _ _ d2⟩)
                    | go_keep)
                  (first
                    | (apply step_app (wx := w9) (lv := .slice x1 (Fo.len mk) x3) (ts := mk.list) (a := []); (case hgd => rfl); (case ho => rfl); (case hx => rfl); (case hS => exact Hk1.out); (case hb => exact hA1)
                       (first | ((case h => with_reducible exact hst); (case hs => rfl)) | ((case h => with_reducible exact (hst.bareA rfl)); (case hs => rfl)) | ((case h => with_reducible exact (hst.bareA rfl).drew); (case hs => rfl)) | ((case h => with_reducible exact (hst.bareA rfl).bareB (World.size_alloc _ _).symm); (case hs => rfl)) | ((case h => with_reducible exact ((hst.bareA rfl).bareB (World.size_alloc _ _).symm).drew); (case hs => rfl)) | ((case h => with_reducible exact (hst.bareB rfl).bareA (World.size_alloc _ _).symm); (case hs => rfl)) | ((case h => with_reducible exact ((hst.bareB rfl).bareA (World.size_alloc _ _).symm).drew); (case hs => rfl)))
                       clear hst
                       intro vA wA hst
                       have k0 := grow_cell hst.below _ _ c2; have k1 := grow_cell hst.below _ _ d2; have hsz := hst.below.size
                       have k2 : wA.heap.size ≠ bx := (by omega); have k3 : wA.heap.size ≠ bb := (by omega); have k4 : wA.heap.size + 1 ≠ bx := (by omega); have k5 : wA.heap.size + 1 ≠ bb := (by omega))
                    | (apply step_app (wx := w9) (lv := .slice zl lt.length (lc - 1)) (ts := lt) (a := [] ++ mk.list); (case hgd => rfl); (case ho => rfl); (case hx => rfl); (case hS => exact HSl9.out); (case hb => exact hA2)
                       (first | ((case h => with_reducible exact hst); (case hs => rfl)) | ((case h => with_reducible exact (hst.bareB rfl)); (case hs => rfl)))
                       clear hst
                       intro vB wB hst
                       have k0 := grow_cell hst.below _ _ c2; have k1 := grow_cell hst.below _ _ d2; have hsz := hst.below.size
                       have k2 : wB.heap.size ≠ bx := (by omega); have k3 : wB.heap.size ≠ bb := (by omega); have k4 : wB.heap.size + 1 ≠ bx := (by omega); have k5 : wB.heap.size + 1 ≠ bb := (by omega))
                    | (apply step_app (wx := w9) (lv := .slice y1 (Fo.len nk) y3) (ts := nk.list) (a := []); (case hgd => rfl); (case ho => rfl); (case hx => rfl); (case hS => exact Hk2.out); (case hb => exact hA3)
                       (first | ((case h => with_reducible exact hst.swap); (case hs => rfl)) | ((case h => with_reducible exact (hst.bareB rfl).swap); (case hs => rfl)) | ((case h => with_reducible exact (hst.bareB rfl).drew.swap); (case hs => rfl)) | ((case h => with_reducible exact ((hst.bareA rfl).bareB (World.size_alloc _ _).symm).swap); (case hs => rfl)) | ((case h => with_reducible exact ((hst.bareA rfl).bareB (World.size_alloc _ _).symm).drew.swap); (case hs => rfl)) | ((case h => with_reducible exact ((hst.bareB rfl).bareA (World.size_alloc _ _).symm).swap); (case hs => rfl)) | ((case h => with_reducible exact ((hst.bareB rfl).bareA (World.size_alloc _ _).symm).drew.swap); (case hs => rfl)))
                       clear hst
                       intro vC wC hst
                       replace hst := hst.swap
                       have k0 := grow_cell hst.below _ _ c2; have k1 := grow_cell hst.below _ _ d2; have hsz := hst.below.size
                       have k2 : wC.heap.size ≠ bx := (by omega); have k3 : wC.heap.size ≠ bb := (by omega); have k4 : wC.heap.size + 1 ≠ bx := (by omega); have k5 : wC.heap.size + 1 ≠ bb := (by omega))
                    | (apply step_app (wx := w9) (lv := .slice zr rt.length (rc - 1)) (ts := rt) (a := [] ++ nk.list); (case hgd => rfl); (case ho => rfl); (case hx => rfl); (case hS => exact HSr9.out); (case hb => exact hA4)
                       (first | ((case h => with_reducible exact hst.swap); (case hs => rfl)) | ((case h => with_reducible exact (hst.bareA rfl).swap); (case hs => rfl)))
                       clear hst
                       intro vD wD hst
                       replace hst := hst.swap
                       have k0 := grow_cell hst.below _ _ c2; have k1 := grow_cell hst.below _ _ d2; have hsz := hst.below.size
                       have k2 : wD.heap.size ≠ bx := (by omega); have k3 : wD.heap.size ≠ bb := (by omega); have k4 : wD.heap.size + 1 ≠ bx := (by omega); have k5 : wD.heap.size + 1 ≠ bb := (by omega))
                    | (go_at_call 62
                       refine (HI.out m Hmn.out s L' R _ _ _ _ _ _ HE2.out Hm2.out (HV.out.below (below_step HB9.out hst.below)) hst.ra.sin hst.rb.sin).mono ?_
                       rintro e w10 ⟨hb10, z1, zm, z3, ok, rfl, hno, hyes⟩
                       have Hf : Hid (UniPost w R (.returned (.tuple #[.slice z1 zm z3, .bool ok])) w10) := (⟨below_step (below_step HB9.out hst.below) hb10, z1, zm, z3, ok, rfl, hno, hyes⟩)
                       clear hno hyes
                       replace hst := below_step hst.below hb10
                       have k0 := grow_cell hst _ _ c2; have k1 := grow_cell hst _ _ d2))
                all_goals
                  go_wp2_with fail
                  go_ret2
                  exact Hf.out
              · have Hf : Hid (∀ w', Below w.heap.size w w' → UniPost w R (.returned (.tuple #[.slice none 0 0, .bool false])) w') := fun w' hb => uni_no hb (hargs0 hc)
                by_cases hn : mn = nn
                · have hl : ¬ Fo.len mk = Fo.len nk := fun e => hc ⟨hn, e⟩
                  have hnb : (mn != nn) = false := by simp [hn]
                  have hlb : ((Fo.len mk : Int) != (Fo.len nk : Int)) = true := by simp; omega
                  clear hc hn hl hargs0 hargs1
                  go_wp2_with fail
                  go_ret2
                  exact Hf.out _ HB9.out
                · have hnb : (mn != nn) = true := by simp [hn]
                  clear hc hn hargs0 hargs1
                  go_wp2_with fail
                  go_ret2
                  exact Hf.out _ HB9.out
        · have Heq : Hid (((mv, mn), mk) = ((nv, nn), nk)) := sameT_eq HgM.out.ok HgN.out.ok hsm
          obtain ⟨m, hmn, hm2⟩ := Eqs.skip HE.out.ui HR.out Hm.out Hn.out Het.out Heu.out Heq.out
          have Hcall := hide (HI.out m hmn s L R lt rt _ _ _ w9 HE'.out hm2 (HV.out.below hB9) HSl9.out HSr9.out)
          clear hsm hm2 hb9 hb9'
          go_wp2_with fail
          refine Hcall.out.mono ?_
          rintro e w10 ⟨hb10, z1, zm, z3, ok, rfl, hno, hyes⟩
          have Hf : Hid (UniPost w R (.returned (.tuple #[.slice z1 zm z3, .bool ok])) w10) := ⟨below_step hB9 hb10, z1, zm, z3, ok, rfl, hno, hyes⟩
          clear hno hyes hb10
          go_wp2_with fail
          go_ret2
          exact Hf.out
set_option maxRecDepth 100000 in
set_option maxHeartbeats 1000000 in
theorem unifyR_any (x : Bool × Int) (k : Fo) (a : Value) (y : Bool × Int) (l : Fo) (c : Value) (w : World) (n : Nat) (R : Option Sb) (hR : runU n [] [((x, k), (y, l))] = some R) (hI : UI [] [((x, k), (y, l))]) (hS : SIn w k a) (hU : SIn w l c) :
    Calls Try.prog 33 #[.agg #[.bool x.1, .int .i64 x.2, a], .agg #[.bool y.1, .int .i64 y.2, c]] w (UniPost w R) := by
  obtain ⟨xv, xn⟩ := x
  obtain ⟨yv, yn⟩ := y
  have HR := hide hR
  have HS := hide hS
  have HU := hide hU
  have HE : Hid (Eqs [] [(((xv, xn), k), ((yv, yn), l))] [((xv, xn), k)] [((yv, yn), l)]) := by
    have h := hI.gL _ (List.mem_singleton.2 rfl)
    refine ⟨hI, rfl, rfl, fun t ht => ?_, fun t ht => ?_⟩
    · rw [List.mem_singleton.1 ht]; exact h.1
    · rw [List.mem_singleton.1 ht]; exact h.2
  obtain ⟨ad, ac, b, o, rfl, -, -, -, -⟩ := hS
  obtain ⟨ud, uc, ub, uo, rfl, -, -, -, -⟩ := hU
  clear hR hI
  go_enter Try.func33, Try.ntmps33
  go_wp2_with fail
  generalize hW2 : (w.alloc (.cells #[.bool xv, .int .i64 xn, .slice ad (Fo.len k) ac] 33)).alloc (.cells #[.bool yv, .int .i64 yn, .slice ud (Fo.len l) uc] 33) = W2
  have hB2 : Below w.heap.size w W2 := by rw [← hW2]; exact (below_alloc _ _).alloc (by simp) _
  have hs2 : W2.heap.size = w.heap.size + 1 + 1 := by rw [← hW2]; simp
  have h1 := one_in (t := ((xv, xn), k)) (HS.out.below hB2)
  have h2 := one_in (t := ((yv, yn), l)) ((HU.out.below hB2).alloc (.cells #[.bool xv, .int .i64 xn, .slice ad (Fo.len k) ac] 33))
  have hB4 : Below w.heap.size w ((W2.alloc (.cells #[.bool xv, .int .i64 xn, .slice ad (Fo.len k) ac] 33)).alloc (.cells #[.bool yv, .int .i64 yn, .slice ud (Fo.len l) uc] 33)) := (hB2.alloc hB2.size _).alloc (hB2.alloc hB2.size _).size _
  rw [World.size_alloc] at h2
  rw [hs2] at h1 h2
  have HB4 := hide hB4
  clear hW2 hB2 hs2 hB4
  refine (solve_any n [] _ R [((xv, xn), k)] [((yv, yn), l)] _ _ _ _ HE.out HR.out (SubIn.nil _) (h1.alloc _) h2).mono ?_
  rintro e w10 ⟨hb10, z1, zm, z3, ok, rfl, hno, hyes⟩
  have Hf : Hid (UniPost w R (.returned (.tuple #[.slice z1 zm z3, .bool ok])) w10) := ⟨below_step HB4.out hb10, z1, zm, z3, ok, rfl, hno, hyes⟩
  clear hno hyes hb10 h1 h2
  go_wp2_with fail
  go_ret2
  exact Hf.out
end Go.Proofs.Ytiilckjnggeeoad

namespace Go.Proofs.Ytiilckjnggeeoad
open Go.RowKit Go.Deep Go.ChangeShapes Go.WideShapes
attribute [local go_sem ↓] Go.wp_at_zero Go.wp_at_succ
def RenRSaid (d : Int) (x : Bool × Int) (k : Fo) : Prop := ∀ (W0 : World) (a : Value) (w : World), Below W0.heap.size W0 w → SIn W0 k a → okT (x, k) → narT (x, k) →
    Calls Try.prog 34 #[.agg #[.bool x.1, .int .i64 x.2, a], .int .i64 d] w fun e w' => ∃ (a1 : Option Addr) (a2 a3 : Nat), e = .returned (.agg #[.bool (subT (ren d) (x, k)).1.1, .int .i64 (subT (ren d) (x, k)).1.2, .slice a1 a2 a3]) ∧
      SB (fun q => q < W0.heap.size ∨ (w.heap.size ≤ q ∧ q < w'.heap.size)) w' (subT (ren d) (x, k)).2 (.slice a1 a2 a3) ∧ Below w.heap.size w w'
set_option maxRecDepth 100000 in
set_option maxHeartbeats 2000000 in
theorem renameR_any (d : Int) (x : Bool × Int) (k : Fo) : RenRSaid d x k := by
  refine Fo.ind1 (p := RenRSaid d) ?_ x k
  clear x k
  intro x k ih W0 a w hW hS hok hnar
  obtain ⟨v, n⟩ := x
  have HI := hide ih
  have HW := hide hW
  have Hok := hide hok
  have Hnar := hide hnar
  have HS := hide hS
  obtain ⟨ad, ac, b, o, rfl, had, hlc, hcm, hF⟩ := hS
  have HF := hide hF
  have hW0 := hW.size
  unfold maxLen at hcm
  clear ih hok hF hW
  cases v
  · have Hres : Hid (subT (ren d) ((false, n), k) = ((false, n), subF (ren d) k)) := rfl
    have HTok : Hid (Fo.ok (subF (ren d) k)) := subF_ok (fun _ => ok_vr _) k
    have Hl := hide (Fo.len_list k)
    have Hl2 := hide (subF_len (ren d) k)
    have hlen : Fo.len k ≤ 1000 := hnar.1
    clear hnar
    go_enter Try.func34, Try.ntmps34
    go_wp2_with fail
    generalize hW2 : (w.alloc (.cells #[.bool false, .int .i64 n, .slice ad (Fo.len k) ac] 33)).alloc (.cells #[.bool false, .int .i64 0, .slice none 0 0] 33) = W2
    have hs2 : W2.heap.size = w.heap.size + 1 + 1 := by rw [← hW2]; simp
    have hB2 : Below w.heap.size w W2 := by rw [← hW2]; exact (below_alloc _ _).alloc (by simp) _
    have r0 : W2.cell? ⟨w.heap.size + 1, 0, none⟩ = some (.bool false) := by rw [← hW2]; exact new_cell (World.size_alloc _ _)
    have r1 : W2.cell? ⟨w.heap.size + 1, 1, none⟩ = some (.int .i64 0) := by rw [← hW2]; exact new_cell (World.size_alloc _ _)
    have r2 : W2.cell? ⟨w.heap.size + 1, 2, none⟩ = some (.slice none 0 0) := by rw [← hW2]; exact new_cell (World.size_alloc _ _)
    have rf : ∀ i, W2.frozen? ⟨w.heap.size + 1, i, none⟩ = false := fun i => by rw [← hW2]; exact new_frozen (World.size_alloc _ _)
    have HQ := hide (And.intro r0 (And.intro r1 (And.intro r2 rf)))
    have HB2 := hide hB2
    have Hs2 := hide hs2
    have H0 : Hid (AppRel (w.heap.size + 1 + 1) W2 (fun q => q < W0.heap.size) (subF (ren d) k) n 0 (W2.alloc (.cells #[.bool false, .int .i64 n, .slice none 0 0] 33))) := app_zero hs2
    clear r0 r1 r2 rf hB2 hs2 hW2
    go_loopw [23] (fun i wr => ∃ j : Nat, j ≤ Fo.len k ∧ i = .int .i64 j ∧ AppRel (w.heap.size + 1 + 1) W2 (fun q => q < W0.heap.size) (subF (ren d) k) n j wr) (fun i _ => Fo.len k - (intOf i).toNat)
    case atStart => exact ⟨0, Nat.zero_le _, rfl, H0.out⟩
    case round =>
      obtain ⟨j, hj, rfl, hR⟩ := hrel
      have HR := hide hR
      obtain ⟨vr', xs, h1, h2, q0, q1, q2, qf, hB⟩ := hR
      have H1 := hide h1
      have H2 := hide h2
      have HB := hide hB
      have Hqf := hide qf
      have hs2 := Hs2.out
      have hBw : Below w.heap.size w wr := HB2.out.trans (hB.mono (by omega))
      have hB0 : Below W0.heap.size W0 wr := HW.out.trans (hBw.mono hW0)
      have hBlt : w.heap.size + 1 + 1 < wr.heap.size := World.block_lt_of_cell? _ _ q0
      obtain ⟨z1, z3, rfl⟩ := slice_of_owns h1
      clear H0 h1 h2 hB
      by_cases hlt : j < Fo.len k
      · have hlt' : (j : Int) < (Fo.len k : Int) := by omega
        have had' : ad = some ⟨b, o, none⟩ := had (by omega)
        subst had'
        obtain ⟨⟨⟨ev, en⟩, ek⟩, hy⟩ : ∃ y, k.list[j]? = some y := ⟨k.list[j]'(by rw [Hl.out]; exact hlt), by simp⟩
        obtain ⟨c0, c1, yv', c2, hSy⟩ := HF.out.at hy
        have c0' := grow_cell hB0 _ _ c0
        have c1' := grow_cell hB0 _ _ c1
        have c2' := grow_cell hB0 _ _ c2
        have HSy := hide hSy
        obtain ⟨ya, yc, yb, yo, rfl, -, -, -, -⟩ := hSy
        have Hy := hide hy
        have Hy2 : Hid ((subF (ren d) k).list[j]? = some (subT (ren d) ((ev, en), ek))) := by rw [Hid, subF_list, List.getElem?_map, hy]; rfl
        obtain ⟨⟨⟨xv, xn⟩, xk⟩, hz⟩ : ∃ z, z = subT (ren d) ((ev, en), ek) := ⟨_, rfl⟩
        have Hz := hide hz
        have Hoke : Hid (okT ((ev, en), ek)) := ok_mem Hok.out.2 (List.mem_of_getElem? hy)
        have Hnare : Hid (narT ((ev, en), ek)) := nar_mem Hnar.out.2 (List.mem_of_getElem? hy)
        clear hy had c0 c1 c2 hz
        obtain ⟨i26, hi26, hz0, hz1, hz2⟩ := info_parts Try.info33
        have hn1 : j + 1 ≤ maxLen := by unfold maxLen; omega
        have hn2 : (j + 1) * 40 ≤ 140737488355328 := by omega
        go_upto_region 7 with fail
        generalize hwa : wr.alloc (.cells #[.bool ev, .int .i64 en, .slice ya (Fo.len ek) yc] 33) = wa
        have e0 : wa.cell? ⟨wr.heap.size, 0, none⟩ = some (.bool ev) := by rw [← hwa]; exact new_cell rfl
        have e1 : wa.cell? ⟨wr.heap.size, 1, none⟩ = some (.int .i64 en) := by rw [← hwa]; exact new_cell rfl
        have e2 : wa.cell? ⟨wr.heap.size, 2, none⟩ = some (.slice ya (Fo.len ek) yc) := by rw [← hwa]; exact new_cell rfl
        have hba : Below wr.heap.size wr wa := by rw [← hwa]; exact below_alloc _ _
        have f2 := grow_cell hba _ _ q2
        have ff : ∀ i, wa.frozen? ⟨w.heap.size + 1 + 1, i, none⟩ = false := fun i => (hba.frozen hBlt).trans (Hqf.out i)
        have hBa : w.heap.size + 1 + 1 < wa.heap.size := Nat.lt_of_lt_of_le hBlt hba.size
        have Hno : Hid (some (w.heap.size + 1 + 1) ≠ (Value.slice z1 j z3).ownBlock) := fun e => by have := (owns_at H1.out _ e.symm).1; omega
        have hcall : Calls Try.prog 34 #[.agg #[.bool ev, .int .i64 en, .slice ya (Fo.len ek) yc], .int .i64 d] wa.drew fun e w' => ∃ (a1 : Option Addr) (a2 a3 : Nat), e = .returned (.agg #[.bool xv, .int .i64 xn, .slice a1 a2 a3]) ∧ SB (fun q => q < W0.heap.size ∨ (wa.heap.size ≤ q ∧ q < w'.heap.size)) w' xk (.slice a1 a2 a3) ∧ Below wa.heap.size wa w' := by
          refine (HI.out ((ev, en), ek) (List.mem_of_getElem? Hy.out) W0 _ wa.drew ?_ HSy.out Hoke.out Hnare.out).mono ?_
          · exact (hB0.trans (hba.mono hB0.size)).trans (Below.refl _ _).drew
          · rintro e w' ⟨a1, a2, a3, rfl, hk, hb⟩
            rw [← Hz.out] at hk ⊢
            exact ⟨a1, a2, a3, rfl, hk, (Below.refl _ _).drew.trans hb⟩
        have Hcall := hide hcall
        have Hba := hide hba
        clear hcall hwa c0' c1' c2' hba q2 qf
        go_region_law (first
          | (refine step_append_lies _ (by rfl) _ _ _ (by rfl) (w.heap.size + 1 + 1 + 1) 33 i26 (.agg #[.bool false, .int .i64 0, .slice none 0 0]) 3 40 Try.underlying31 hi26 hz0 hz1 hz2 rfl (by decide) (.slice z1 j z3) j xs (by rfl) Hown3.out ⟨w3.heap.size, 0, none⟩ 1 1 [.bool xv, .int .i64 xn, .slice a1 a2 a3] (by rfl) (by rfl) Hnews.out (by simp [Value.oneCell']) (by decide) hn1 hn2 (by simp; omega) (w3.heap.size + 1) (by simp) ?_; intro g cap w4 ho4 hg4 hat4 hlt4; have x2 := out_cell hg4 hB3 Hno.out g3; have xf := out_frozen hg4 hB3 Hno.out gf3)
          | (go_simp; go_at_call 34; refine Hcall.out.mono ?_; rintro e w3 ⟨a1, a2, a3, rfl, hk3, hb3⟩
             have hs3 := hb3.size; have g3 := grow_cell hb3 _ _ f2; have gf3 : ∀ i, w3.frozen? ⟨w.heap.size + 1 + 1, i, none⟩ = false := (fun i => (hb3.frozen hBa).trans (ff i)); have hB3 : w.heap.size + 1 + 1 < w3.heap.size := Nat.lt_of_lt_of_le hBa hs3
             have Hown3 : Hid ((w3.alloc (.cells #[.bool xv, .int .i64 xn, .slice a1 a2 a3] 33)).ownsRow (w.heap.size + 1 + 1 + 1) 33 3 (.slice z1 j z3) j xs) := (owns_keep H1.out (fun g hg => by have h := owns_at H1.out g hg; have hsz := Hba.out.size; rw [Below.heap_alloc _ _ _ (by omega), hb3.block g (by omega), Hba.out.block g h.2]))
             have Hnews : Hid (∀ j u, [Value.bool xv, .int .i64 xn, .slice a1 a2 a3][j]? = some u → (w3.alloc (.cells #[.bool xv, .int .i64 xn, .slice a1 a2 a3] 33)).cell? ((⟨w3.heap.size, 0, none⟩ : Addr).add j) = some u) := (World.news_of_block (cs := #[.bool xv, .int .i64 xn, .slice a1 a2 a3]) (heap_alloc_new w3 _))))
        all_goals
          have Hst := hide (app_next (B := w.heap.size + 1 + 1) (W2 := W2) (X := fun q => q < W0.heap.size) (T := subF (ren d) k) (xn := n) (z := (xv, xn)) (r := xk) (a := .slice a1 a2 a3) HTok.out H1.out H2.out (fun q hq => by omega) q0 q1 (by have hc := HR.out; obtain ⟨_, _, _, _, _, _, q2, _, _⟩ := hc; exact (Hba.out.cell (p := ⟨w.heap.size + 1 + 1, 2, none⟩) hBlt).symm.trans f2) Hqf.out HB.out (below_step Hba.out hb3) (hk3.wide (fun q hq => by rcases hq with h | h; exact .inl h; exact .inr ⟨by have := Hba.out.size; omega, h.2⟩)) (by rw [Hy2.out, ← Hz.out]) rfl ho4 hg4 hat4 hlt4)
          clear hk3 hb3 ho4 hg4 hat4 hlt4 x2 xf g3 gf3 Hown3 Hnews hi26 hz0 hz1 hz2
          go_wp2_with fail
          go_roundw
          case rel => exact ⟨j + 1, by omega, by go_num, Hst.out⟩
          case measure => simp [intOf]; omega
      · have hje : j = Fo.len k := by omega
        have hRe : AppRel (w.heap.size + 1 + 1) W2 (fun q => q < W0.heap.size) (subF (ren d) k) n (Fo.len (subF (ren d) k)) wr := by rw [Hl2.out, ← hje]; exact HR.out
        obtain ⟨y1, y3, hc2, hSB⟩ := app_end hRe
        have HSB := hide hSB
        obtain ⟨p0, p1, p2, pf⟩ := HQ.out
        have s0 : wr.cell? ⟨w.heap.size + 1, 0, none⟩ = some (.bool false) := (HB.out.cell (by show w.heap.size + 1 < _; omega)).trans p0
        have s1 : wr.cell? ⟨w.heap.size + 1, 1, none⟩ = some (.int .i64 0) := (HB.out.cell (by show w.heap.size + 1 < _; omega)).trans p1
        have s2 : wr.cell? ⟨w.heap.size + 1, 2, none⟩ = some (.slice none 0 0) := (HB.out.cell (by show w.heap.size + 1 < _; omega)).trans p2
        have sf : ∀ i, wr.frozen? ⟨w.heap.size + 1, i, none⟩ = false := fun i => (HB.out.frozen (by show w.heap.size + 1 < _; omega)).trans (pf i)
        clear q2 hSB p0 p1 p2 pf hRe
        go_wp2_with fail
        refine bodyPost_ret (v := .agg #[.bool false, .int .i64 n, .slice y1 (Fo.len (subF (ren d) k)) y3]) (by simp [results, Try.results34, go_sem, s0, s1, s2]) rfl ⟨y1, Fo.len (subF (ren d) k), y3, by rw [Hres.out], ?_, set3_below (o := 0) hBw (by omega)⟩
        rw [Hres.out]
        refine (HSB.out.set3 (b := w.heap.size + 1) (o := 0) ?_).wide (fun q hq => ?_)
        · intro h
          rcases h with h | h <;> omega
        · rcases hq with h | h
          · exact .inl h
          · exact .inr ⟨by omega, by rw [World.size_setCell, World.size_setCell, World.size_setCell]; exact h.2⟩
  · have Hres : Hid (subT (ren d) ((true, n), k) = vr (wrap64 (n + d))) := rfl
    have hk0 : k = .nil := Hok.out.1 rfl
    subst hk0
    clear had
    go_enter Try.func34, Try.ntmps34
    go_wp2_with fail
    refine bodyPost_ret (v := .agg #[.bool true, .int .i64 (wrap64 (n + d)), .slice ad (Fo.len .nil) ac]) (by simp [results, Try.results34, go_sem, wrap64]) rfl ⟨ad, Fo.len .nil, ac, by rw [Hres.out]; rfl, ?_, (below_alloc _ _).alloc (by simp) _⟩
    rw [Hres.out]
    exact ⟨ad, ac, b, o, rfl, fun h => by simp [vr, Fo.len] at h, Nat.zero_le _, by unfold maxLen; exact hcm, trivial⟩
end Go.Proofs.Ytiilckjnggeeoad

namespace Go.Proofs.Ytiilckjnggeeoad
open Go.RowKit Go.Deep Go.ChangeShapes Go.WideShapes
attribute [local go_sem ↓] Go.wp_at_zero Go.wp_at_succ
def AnsOf (w : World) (E : Option Sb) (S : Sb) (ok : Bool) (e : Ending) (w' : World) : Prop := Below w.heap.size w w' ∧ ∃ (z1 : Option Addr) (z3 : Nat), e = .returned (.tuple #[.slice z1 S.length z3, .bool ok]) ∧ SubIn w' S (.slice z1 S.length z3) ∧ ok = E.isSome
theorem uni_ans {w w' : World} {R : Option Sb} {e : Ending} (h : UniPost w R e w') : AnsOf w R (R.getD []) R.isSome e w' := by
  obtain ⟨hb, z1, m, z3, ok, rfl, hno, hyes⟩ := h
  cases ok
  · obtain ⟨rfl, rfl, rfl, rfl⟩ := hno rfl
    exact ⟨hb, none, 0, rfl, SubIn.nil _, rfl⟩
  · obtain ⟨s', rfl, rfl, hS⟩ := hyes rfl
    exact ⟨hb, z1, z3, rfl, hS, rfl⟩
theorem moreR_ans {w w' : World} {t u : Tm} {e : Ending} (h : MoreRPost w [] t u e w') : AnsOf w (extT [] t u) ((extT [] t u).getD []) (extT [] t u).isSome e w' := by
  obtain ⟨hb, z1, z3, s', ok, rfl, hS, hx, hno⟩ := h
  cases ok
  · have e0 : s' = [] := by rcases hno rfl with h | h <;> exact h
    subst e0
    rw [hx]
    exact ⟨hb, z1, z3, rfl, hS, rfl⟩
  · rw [hx]
    exact ⟨hb, z1, z3, rfl, hS, rfl⟩
theorem renameR_call {wn : World} {d : Int} {x z : Bool × Int} {k zk : Fo} {a : Value} (hS : SIn wn k a) (hok : okT (x, k)) (hnar : narT (x, k)) (hz : (z, zk) = subT (ren d) (x, k)) (w' : World) (hb : Below wn.heap.size wn w') :
    Calls Try.prog 34 #[.agg #[.bool x.1, .int .i64 x.2, a], .int .i64 d] w' fun e w'' => ∃ (x1 : Option Addr) (x2 x3 : Nat), e = .returned (.agg #[.bool z.1, .int .i64 z.2, .slice x1 x2 x3]) ∧ SIn w'' zk (.slice x1 x2 x3) ∧ Below w'.heap.size w' w'' := by
  refine (renameR_any d x k wn a w' hb hS hok hnar).mono ?_
  rintro e w'' ⟨x1, x2, x3, rfl, hSB, hb2⟩
  rw [← hz] at hSB ⊢
  exact ⟨x1, x2, x3, rfl, hSB.toS, hb2⟩
end Go.Proofs.Ytiilckjnggeeoad
