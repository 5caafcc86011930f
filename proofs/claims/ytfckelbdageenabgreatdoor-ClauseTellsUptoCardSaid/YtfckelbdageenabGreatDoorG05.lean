/- What Read and readArgs answer. -/
import Derived.Test.YtfckelbdageenabGreatDoorG04
import Derived.Lib.AppendStr
namespace Go.Proofs.YtfckelbdageenabGreatDoor
open Go.RowKit Go.Deep Go.ChangeShapes Go.WideShapes
attribute [local go_sem] byte_zero text_tail

def ReadSaid (s : List Int) (f : Nat) : Prop := ∀ (sv : Value) (l : List UInt8) (w : World), NIn w s sv → s.all okNum = true → l.length < f → l.length ≤ maxLen →
    Calls Tryz.prog 94 #[sv, str l] w fun e w' => ∃ a, e = .returned (.tuple #[trm (readT s f l).2.1.1 a, str (readT s f l).2.2, .int .i64 (readT s f l).1]) ∧ SB (New w w') w' (readT s f l).2.1.2 a ∧ Below w.heap.size w w'
def ArgsSaid (s : List Int) (f : Nat) : Prop := ∀ (sv : Value) (many : Int) (l : List UInt8) (w : World), NIn w s sv → s.all okNum = true → many ≤ 2 → l.length ≤ f → l.length ≤ maxLen →
    Calls Tryz.prog 112 #[sv, .int .i64 many, str l] w fun e w' => ∃ a, e = .returned (.tuple #[a, str (argsT (readT s f) many l).2.2, .int .i64 (argsT (readT s f) many l).1]) ∧ SB (New w w') w' (argsT (readT s f) many l).2.1 a ∧ Below w.heap.size w w'

/-- So far: j arguments are read. -/
def ArgsRel (w : World) (acc : Fo) (v : Value) (wr : World) : Prop :=
  ∃ xs, wr.ownsRow w.heap.size 36 3 v (Fo.len acc) xs ∧ CellsOf (fun q => New w wr q ∧ some q ≠ v.ownBlock) wr acc xs ∧ Below w.heap.size w wr

theorem args_step {w wr w1 w2 w3 : World} {acc : Fo} {v v' : Value} {x : Bool × Int} {k : Fo} {a : Value} {g cap : Nat} {xs : List Value} {ob ob2 : Obj} (h1 : wr.ownsRow w.heap.size 36 3 v (Fo.len acc) xs) (h2 : CellsOf (fun q => New w wr q ∧ some q ≠ v.ownBlock) wr acc xs) (h3 : Below w.heap.size w wr)
    (hb : Below wr.heap.size wr w1) (hk : SB (New wr w1) w1 k a) (hw2 : w2 = (w1.alloc ob).alloc ob2) (hv' : v' = .slice (some ⟨g, 0, none⟩) (Fo.len acc + 1) cap)
    (ho : w3.ownsRow w.heap.size 36 3 v' (Fo.len acc + 1) (xs ++ [.bool x.1, .int .i64 x.2, a])) (hg : w2.grownBy w3 v.ownBlock) (hat : v.ownBlock = some g ∨ g = w2.heap.size) (hlt : g < w3.heap.size) : ArgsRel w (Fo.snoc acc x k) v' w3 := by
  subst hw2
  have hs1 := hb.size
  have hs3 := hg.size
  simp at hs3
  have hs0 := h3.size
  have far : ∀ q i, q < w1.heap.size → some q ≠ v.ownBlock → w3.cell? ⟨q, i, none⟩ = w1.cell? ⟨q, i, none⟩ := fun q i hq hn => by
    rw [hg.cell_far ⟨q, i, none⟩ (by simp; omega) hn, World.cell?_alloc_lt _ _ _ (by simp; omega), World.cell?_alloc_lt _ _ _ hq]
  have hv'g : v'.ownBlock = some g := by rw [hv']; rfl
  refine ⟨_, by rw [snoc_len]; exact ho, ?_, ?_⟩
  · refine CellsOf.snoc ?_ ?_
    · refine hk.frame (fun q hq => ⟨⟨by have := hq.1; omega, by have := hq.2; omega⟩, ?_⟩) (fun q i hq => far q i hq.2 (fun e => ?_))
      · rw [hv'g]
        intro e
        simp at e
        subst e
        rcases hat with e | e
        · have := (owns_at h1 _ e).2; have := hq.1; omega
        · simp at e; have := hq.2; omega
      · have := (owns_at h1 _ e.symm).2; have := hq.1; omega
    · refine CellsOf.frame (fun q hq => ⟨⟨hq.1.1, by have := hq.1.2; omega⟩, ?_⟩) (fun q i hq => ?_) h2
      · rw [far q i (by have := hq.1.2; omega) hq.2]
        exact hb.cell (p := ⟨q, i, none⟩) hq.1.2
      · rw [hv'g]
        intro e
        simp at e
        subst e
        rcases hat with e | e
        · exact hq.2 e.symm
        · simp at e; have := hq.1.2; omega
  · have hb2 : Below w.heap.size w ((w1.alloc ob).alloc ob2) := ((below_step h3 hb).alloc (by omega) _).alloc (by simp; omega) _
    exact hb2.grown hg (by simp; omega) (fun k hk => (owns_at h1 k hk).1)

set_option maxHeartbeats 1000000 in
theorem args_any (s : List Int) (f : Nat) (ih : ReadSaid s f) : ArgsSaid s f := by
  intro sv many l w hN hs hm hlf hlm
  have HI := hide ih
  have HN := hide hN
  obtain ⟨sa, sc, sb, so, rfl, -, -, -, -⟩ := hN
  unfold maxLen at hlm
  by_cases h0 : many ≤ 0
  · have Hf : Hid (argsT (readT s f) many l = (0, .nil, l)) := by rw [Hid, argsT, if_pos h0]
    go_enter Tryz.func112, Tryz.ntmps112
    go_wp2_with fail
    go_ret3
    rw [Hf.out]
    exact ⟨_, rfl, SB.nil _ _, Below.refl _ _⟩
  · obtain ⟨m, rfl⟩ := Int.eq_ofNat_of_zero_le (show 0 ≤ many by omega)
    have Hf : Hid (argsT (readT s f) m l = if (readA (readT s f) m 0 .nil l).1 ≠ 0 then ((readA (readT s f) m 0 .nil l).1, .nil, []) else
      if (sgn 41 (readA (readT s f) m 0 .nil l).2.2).1 ≠ 0 then ((sgn 41 (readA (readT s f) m 0 .nil l).2.2).1, .nil, []) else (0, (readA (readT s f) m 0 .nil l).2.1, (sgn 41 (readA (readT s f) m 0 .nil l).2.2).2)) := by rw [Hid, argsT, if_neg h0]; simp only [Int.toNat_natCast]
    have Hs := hide hs
    clear ih hs
    go_enter Tryz.func112, Tryz.ntmps112
    go_wp2_with fail
    go_loopw [2, 9, 20] (fun tv v i wr => ∃ (j : Nat) (acc : Fo) (t : List UInt8), j ≤ m ∧ i = .int .i64 j ∧ tv = str t ∧ readA (readT s f) m 0 .nil l = readA (readT s f) (m - j) j acc t ∧ Fo.len acc = j ∧ t.length ≤ l.length ∧ ArgsRel w acc v wr) (fun _ _ i _ => m - (intOf i).toNat)
    case atStart => exact ⟨0, .nil, l, Nat.zero_le _, rfl, rfl, rfl, rfl, Nat.le_refl _, [], ⟨rfl, .inl ⟨rfl, rfl⟩⟩, rfl, Below.refl _ _⟩
    case round =>
      obtain ⟨j, acc, t, hj, rfl, rfl, hA, hacc, htl, xs, hR1, hR2, hR3⟩ := hrel
      have HA := hide hA
      have Hacc := hide hacc
      have HR1 := hide hR1
      have HR2 := hide hR2
      clear hA hacc hR2
      obtain ⟨za, zc, rfl⟩ := slice_of_owns hR1
      clear hR1
      by_cases hlt : j < m
      · have hlt' : (j : Int) < (m : Int) := by omega
        have HA2 : Hid (readA (readT s f) m 0 .nil l = if (sgn (signF j) t).1 ≠ 0 then ((sgn (signF j) t).1, .nil, []) else
            if (readT s f (sgn (signF j) t).2).1 ≠ 0 then ((readT s f (sgn (signF j) t).2).1, .nil, []) else
            readA (readT s f) (m - (j + 1)) ((j : Int) + 1) (Fo.snoc acc (readT s f (sgn (signF j) t).2).2.1.1 (readT s f (sgn (signF j) t).2).2.1.2) (readT s f (sgn (signF j) t).2).2.2) := by
          rw [Hid, HA.out, show m - j = (m - (j + 1)) + 1 by omega]; rfl
        go_wp2_with fail
        refine (signAhead_any _ _).mono ?_
        rintro e w' ⟨rfl, hw'⟩
        rw [hw']
        clear hw' w'
        go_wp2_with fail
        refine (readSign_any (signF j) t _ (by unfold maxLen; omega)).mono ?_
        rintro e w' ⟨rfl, hw'⟩
        rw [hw']
        clear hw' w'
        have Hln := hide (sgn_len (signF j) t)
        by_cases he : (sgn (signF j) t).1 = 0
        · rw [if_neg (by simpa using he)] at HA2
          have hln := Hln.out he
          simp only [he]
          generalize (sgn (signF j) t).2 = u at *
          clear he Hln
          go_wp2_with fail
          refine (HI.out _ u _ (HN.out.below hR3) Hs.out (by omega) (by unfold maxLen; omega)).mono ?_
          rintro e w1 ⟨a, rfl, hSB, hb1⟩
          have hrl := readT_le s f u
          by_cases he : (readT s f u).1 = 0
          · rw [if_neg (by simpa using he)] at HA2
            simp only [he]
            generalize readT s f u = q at *
            obtain ⟨q1, ⟨⟨qv, qn⟩, qk⟩, q3⟩ := q
            simp only at he HA2 hSB hrl ⊢
            have HSB := hide hSB
            obtain ⟨qa, qc, qb, qo, rfl, -, -, -, -⟩ := hSB
            obtain ⟨i26, hi26, hz0, hz1, hz2⟩ := info_parts Tryz.info36
            have Hown : Hid (((w1.alloc (.cells #[.bool qv, .int .i64 qn, .slice qa (Fo.len qk) qc] 36)).alloc (.cells #[.bool qv, .int .i64 qn, .slice qa (Fo.len qk) qc] 36)).ownsRow w.heap.size 36 3 (.slice za (Fo.len acc) zc) (Fo.len acc) xs) :=
              owns_keep HR1.out (fun g hg => by
                have h1 := (owns_at HR1.out g hg).2
                have h2 := hb1.size
                rw [Below.heap_alloc _ _ _ (by simp; omega), Below.heap_alloc _ _ _ (by omega), hb1.block g h1])
            have Hnews : Hid (∀ j u, [Value.bool qv, .int .i64 qn, .slice qa (Fo.len qk) qc][j]? = some u → ((w1.alloc (.cells #[.bool qv, .int .i64 qn, .slice qa (Fo.len qk) qc] 36)).alloc (.cells #[.bool qv, .int .i64 qn, .slice qa (Fo.len qk) qc] 36)).cell? ((⟨w1.heap.size + 1, 0, none⟩ : Addr).add j) = some u) := by
              have h := World.news_of_block (cs := #[.bool qv, .int .i64 qn, .slice qa (Fo.len qk) qc]) (heap_alloc_new (w1.alloc (.cells #[.bool qv, .int .i64 qn, .slice qa (Fo.len qk) qc] 36)) (.cells #[.bool qv, .int .i64 qn, .slice qa (Fo.len qk) qc] 36))
              intro j u hu
              have := h j u hu
              simpa using this
            have hn1 : Fo.len acc + 1 ≤ maxLen := by rw [Hacc.out]; unfold maxLen; omega
            have hn2 : (Fo.len acc + 1) * 40 ≤ 140737488355328 := by rw [Hacc.out]; omega
            have hsw : w.heap.size ≤ w1.heap.size := by have := hb1.size; have := hR3.size; omega
            clear he
            go_wp2_with (at_builtin; refine wpList_append_lies _ rfl (.tmp 43) (.tmp 45) 34 rfl w.heap.size 36 i26 (.agg #[.bool false, .int .i64 0, .slice none 0 0]) 3 40 Tryz.underlying34 hi26 hz0 hz1 hz2 rfl (by decide) (.slice za (Fo.len acc) zc) (Fo.len acc) xs rfl Hown.out ⟨w1.heap.size + 1, 0, none⟩ 1 1 [.bool qv, .int .i64 qn, .slice qa (Fo.len qk) qc] rfl rfl Hnews.out (by simp [Value.oneCell']) (by decide) hn1 hn2 (by simp; omega) (w1.heap.size + 2) (by simp) ?_; intro g cap w3 ho3 hg3 hat3 hlt3)
            have Hst := hide (args_step (x := (qv, qn)) (k := qk) HR1.out HR2.out hR3 hb1 HSB.out rfl rfl ho3 hg3 (by rcases hat3 with h | h; exact .inl h; exact .inr (by simp; omega)) hlt3)
            clear ho3 hg3 hat3 hlt3 Hown Hnews hi26 hz0 hz1 hz2
            go_wp2_with fail
            go_roundw
            case rel => exact ⟨j + 1, Fo.snoc acc (qv, qn) qk, q3, by omega, by go_num, rfl, HA2.out, by rw [snoc_len, Hacc.out], by omega, Hst.out⟩
            case measure => simp [intOf]; omega
          · rw [if_pos he] at HA2
            have heb : ((readT s f u).1 != 0) = true := by simpa using he
            have Hf2 : Hid (argsT (readT s f) m l = ((readT s f u).1, .nil, [])) := by rw [Hid, Hf.out, HA2.out, if_pos he]
            obtain ⟨qa, qc, qb, qo, rfl, -, -, -, -⟩ := hSB
            generalize (readT s f u).1 = E at *
            generalize (readT s f u).2.1.1 = X at *
            generalize (readT s f u).2.2 = T at *
            clear he
            go_wp2_with fail
            go_ret3
            rw [Hf2.out]
            exact ⟨_, rfl, SB.nil _ _, (below_step hR3 hb1).alloc (by have := (below_step hR3 hb1).size; omega) _⟩
        · rw [if_pos he] at HA2
          have heb : ((sgn (signF j) t).1 != 0) = true := by simpa using he
          have Hf2 : Hid (argsT (readT s f) m l = ((sgn (signF j) t).1, .nil, [])) := by rw [Hid, Hf.out, HA2.out, if_pos he]
          generalize (sgn (signF j) t).1 = E at *
          generalize (sgn (signF j) t).2 = T at *
          clear he
          go_wp2_with fail
          go_ret3
          rw [Hf2.out]
          exact ⟨_, rfl, SB.nil _ _, hR3⟩
      · have HA2 : Hid (readA (readT s f) m 0 .nil l = (0, acc, t)) := by rw [Hid, HA.out, show m - j = 0 by omega]; rfl
        have HSB : Hid (SB (New w wr) wr acc (.slice za (Fo.len acc) zc)) := row_sb HR1.out HR2.out (fun q hq => hq.1) (fun g hg => owns_at HR1.out g hg)
        have Hln := hide (sgn_len 41 t)
        have e41 : ((41 : UInt8).toNat : Int) = 41 := rfl
        have Hrs := hide (readSign_any 41 t wr (by unfold maxLen; omega))
        rw [e41] at Hrs
        clear e41
        go_wp2_with fail
        refine Hrs.out.mono ?_
        rintro e w' ⟨rfl, hw'⟩
        rw [hw']
        clear hw' w'
        by_cases he : (sgn 41 t).1 = 0
        · have Hf2 : Hid (argsT (readT s f) m l = (0, acc, (sgn 41 t).2)) := by rw [Hid, Hf.out, HA2.out]; simp [he]
          simp only [he]
          generalize (sgn 41 t).2 = u at *
          clear he
          go_wp2_with fail
          go_ret3
          rw [Hf2.out]
          exact ⟨_, rfl, HSB.out, hR3⟩
        · have Hf2 : Hid (argsT (readT s f) m l = ((sgn 41 t).1, .nil, [])) := by rw [Hid, Hf.out, HA2.out]; simp [he]
          have heb : ((sgn 41 t).1 != 0) = true := by simpa using he
          generalize (sgn 41 t).1 = E at *
          generalize (sgn 41 t).2 = T at *
          clear he
          go_wp2_with fail
          go_ret3
          rw [Hf2.out]
          exact ⟨_, rfl, SB.nil _ _, hR3⟩

theorem sig_at {s : List Int} (h : s.all okNum = true) {i : Nat} (hi : i < s.length) : 0 ≤ s.getD i 0 ∧ s.getD i 0 ≤ 2 := by
  have := List.all_eq_true.1 h s[i] (List.getElem_mem hi)
  simp only [okNum, decide_eq_true_eq] at this
  simpa [List.getD_eq_getElem?_getD, hi] using this

theorem run_tail (c : UInt8) (r : List UInt8) (w : World) : (Instr.slice 9 (.string ⟨(c :: r).toArray⟩) (some (.int .i64 1)) none none).run Tryz.prog w = .ok (.string ⟨r.toArray⟩) w := by
  rw [run_slice_string_l (ht := Tryz.underlying9) (kl := .i64) (l := 1) (h0 := by decide) (h1 := by simp [ByteArray.size]; omega)]
  have := text_tail c r
  simp only [Int.toNat_one]
  rw [show (⟨(c :: r).toArray⟩ : ByteArray).size = r.length + 1 from by simp [ByteArray.size], this]

/-- A block of three cells that was laid first: it is there, and may be written. -/
theorem box_full {w w1 : World} {x y z : Value} {T : TypeId} (h : Below (w.alloc (.cells #[x, y, z] T)).heap.size (w.alloc (.cells #[x, y, z] T)) w1) :
    w1.cell? ⟨w.heap.size, 0, none⟩ = some x ∧ w1.cell? ⟨w.heap.size, 1, none⟩ = some y ∧ w1.cell? ⟨w.heap.size, 2, none⟩ = some z ∧ (∀ i, w1.frozen? ⟨w.heap.size, i, none⟩ = false) ∧ Below w.heap.size w w1 ∧ w.heap.size < w1.heap.size := by
  have h' : Below (w.heap.size + 1) (w.alloc (.cells #[x, y, z] T)) w1 := by simpa using h
  obtain ⟨a, b, c, d, e⟩ := box_cells h'
  exact ⟨a, b, c, fun i => by rw [h'.frozen (by simp)]; simp, d, e⟩

/-- What is written into a block that is none of X's leaves terms as they are. -/
theorem SB.set3 {X : Nat → Prop} {w : World} {k : Fo} {v : Value} {b o : Nat} {x y z : Value} (h : SB X w k v) (hb : ¬ X b) : SB X (set3 w b o x y z) k v :=
  h.frame (fun _ h => h) (fun _ _ hq => set3_other (.inl (fun e => hb (e ▸ hq))))

set_option maxHeartbeats 1000000 in
theorem read_any (s : List Int) : ∀ f, ReadSaid s f := by
  intro f
  induction f with
  | zero => intro sv l w _ _ h; omega
  | succ f ih =>
    intro sv l w hN hs hlf hlm
    have HA := hide (args_any s f ih)
    have HN := hide hN
    have Hs := hide hs
    obtain ⟨sa, sc, sb, so, rfl, hsa, -, -, hsF⟩ := hN
    have HsF := hide hsF
    unfold maxLen at hlm
    clear ih hs hsF
    cases l with
    | nil =>
      have Hf : Hid (readT s (f + 1) [] = (8, ((false, 0), .nil), [])) := rfl
      go_enter Tryz.func94, Tryz.ntmps94
      go_wp2_with fail
      rw [Hf.out]
      exact bodyPost_ret (v := .tuple #[.agg #[.bool false, .int .i64 0, .slice none 0 0], .string ⟨#[]⟩, .int .i64 8]) (by simp [results, Tryz.results94, go_sem]) rfl ⟨_, rfl, SB.nil _ _, below_alloc _ _⟩
    | cons c r =>
      simp only [List.length_cons] at hlf hlm
      have hc : (c.toNat : Int) < 256 := by have := c.toNat_lt; omega
      by_cases h88 : c = 88
      · have Hf : Hid (readT s (f + 1) (c :: r) = ((rvar r).1, ((rvar r).2.1, .nil), (rvar r).2.2)) := by rw [Hid, readT, if_pos h88]
        have hcb : ((c.toNat : Int) == 88) = true := by rw [h88]; rfl
        clear h88
        go_enter Tryz.func94, Tryz.ntmps94
        go_wp2_with fail
        refine (readVar_any r _ (by unfold maxLen; omega)).mono ?_
        rintro e w1 ⟨rfl, hb1⟩
        obtain ⟨b0, b1, b2, bf, hB, hsz⟩ := box_full hb1
        generalize rvar r = q at *
        obtain ⟨q1, ⟨qv, qn⟩, q3⟩ := q
        simp only at Hf ⊢
        clear hb1
        go_wp2_with fail
        rw [Hf.out]
        exact bodyPost_ret (v := .tuple #[.agg #[.bool qv, .int .i64 qn, .slice none 0 0], .string ⟨q3.toArray⟩, .int .i64 q1]) (by simp [results, Tryz.results94, go_sem, b0, b1, b2]) rfl ⟨_, rfl, SB.nil _ _, set3_below (o := 0) hB (Nat.le_refl _)⟩
      · have hcb : ((c.toNat : Int) == 88) = false := by
          rw [beq_eq_false_iff_ne]
          intro e
          exact h88 (UInt8.toNat_inj.1 (by have : c.toNat = 88 := by omega
                                           rw [this]; rfl))
        have Ht : Hid (readT s (f + 1) (c :: r) = if (c.toNat : Int) - 97 < 0 ∨ (s.length : Int) ≤ (c.toNat : Int) - 97 then (7, ((false, 0), .nil), []) else
            if (argsT (readT s f) (s.getD ((c.toNat : Int) - 97).toNat 0) r).1 ≠ 0 then ((argsT (readT s f) (s.getD ((c.toNat : Int) - 97).toNat 0) r).1, ((false, 0), .nil), []) else
            (0, ((false, (c.toNat : Int) - 97), (argsT (readT s f) (s.getD ((c.toNat : Int) - 97).toNat 0) r).2.1), (argsT (readT s f) (s.getD ((c.toNat : Int) - 97).toNat 0) r).2.2)) := by rw [Hid, readT, if_neg h88]
        by_cases h0 : (c.toNat : Int) - 97 < 0
        · have Hf : Hid (readT s (f + 1) (c :: r) = (7, ((false, 0), .nil), [])) := by rw [Hid, Ht.out, if_pos (.inl h0)]
          go_enter Tryz.func94, Tryz.ntmps94
          go_wp2_with fail
          rw [Hf.out]
          exact bodyPost_ret (v := .tuple #[.agg #[.bool false, .int .i64 0, .slice none 0 0], .string ⟨#[]⟩, .int .i64 7]) (by simp [results, Tryz.results94, go_sem]) rfl ⟨_, rfl, SB.nil _ _, below_alloc _ _⟩
        by_cases h1 : (s.length : Int) ≤ (c.toNat : Int) - 97
        · have Hf : Hid (readT s (f + 1) (c :: r) = (7, ((false, 0), .nil), [])) := by rw [Hid, Ht.out, if_pos (.inr h1)]
          go_enter Tryz.func94, Tryz.ntmps94
          go_wp2_with fail
          rw [Hf.out]
          exact bodyPost_ret (v := .tuple #[.agg #[.bool false, .int .i64 0, .slice none 0 0], .string ⟨#[]⟩, .int .i64 7]) (by simp [results, Tryz.results94, go_sem]) rfl ⟨_, rfl, SB.nil _ _, below_alloc _ _⟩
        rw [if_neg (by omega)] at Ht
        have h0' : 0 ≤ (c.toNat : Int) - 97 := by omega
        have h1' : (c.toNat : Int) - 97 < (s.length : Int) := by omega
        have hsa' : sa = some ⟨sb, so, none⟩ := hsa (by omega)
        subst hsa'
        have hcell := HsF.out ((c.toNat : Int) - 97).toNat (by omega)
        have Hm := hide (sig_at Hs.out (i := ((c.toNat : Int) - 97).toNat) (by omega))
        have hsb : sb < w.heap.size := World.block_lt_of_cell? _ _ hcell
        have hcell1 := grow_cell (below_alloc w (.cells #[.bool false, .int .i64 0, .slice none 0 0] 36)) _ _ hcell
        generalize s.getD ((c.toNat : Int) - 97).toNat 0 = mm at *
        clear hsa hcell
        go_enter Tryz.func94, Tryz.ntmps94
        go_wp2_with fail
        generalize (c.toNat : Int) - 97 = nn at *
        have hsl := run_tail c r
        go_region_held3 (fun w' => w'.cell? ⟨sb, so + nn.toNat, none⟩ = some (.int .i64 mm)) (first | go_keep | (rw [hb1.cell (by show sb < _; simp; omega)]; assumption))
          (first | (go_at_call 112; refine (HA.out _ mm r _ ?_ Hs.out Hm.out.2 ?_ ?_).mono ?_; (exact HN.out.below (below_alloc _ _).drew); (omega); (unfold maxLen; omega); rintro e w1 ⟨a, rfl, hSB, hb1⟩))
        have hb1' : Below (w.alloc (.cells #[.bool false, .int .i64 0, .slice none 0 0] 36)).heap.size (w.alloc (.cells #[.bool false, .int .i64 0, .slice none 0 0] 36)) w1 := ((Below.refl _ _).drew).trans hb1
        obtain ⟨b0, b1, b2, bf, hB, hsz⟩ := box_full hb1'
        have HSB : Hid (SB (fun q => w.heap.size + 1 ≤ q ∧ q < w1.heap.size) w1 (argsT (readT s f) mm r).2.1 a) := hSB.frame (fun q hq => by have h1 := hq.1; simp at h1; exact ⟨h1, hq.2⟩) (fun _ _ _ => rfl)
        have hza : ∃ z1 z2 z3, a = .slice z1 z2 z3 := by
          obtain ⟨_, _, _, _, rfl, _⟩ := hSB
          exact ⟨_, _, _, rfl⟩
        obtain ⟨z1, z2, z3, rfl⟩ := hza
        generalize argsT (readT s f) mm r = q at *
        obtain ⟨q1, q2, q3⟩ := q
        simp only at Ht HSB ⊢
        clear hb1 hb1' hSB hsl
        by_cases he : q1 = 0
        · have Hf : Hid (readT s (f + 1) (c :: r) = (0, ((false, nn), q2), q3)) := by rw [Hid, Ht.out, if_neg (by simpa using he)]
          subst he
          go_wp2_with fail
          rw [Hf.out]
          refine bodyPost_ret (v := .tuple #[.agg #[.bool false, .int .i64 nn, .slice z1 z2 z3], .string ⟨q3.toArray⟩, .int .i64 0]) (by simp [results, Tryz.results94, go_sem, b0, b1, b2]) rfl ⟨_, rfl, ?_, set3_below (o := 0) hB (Nat.le_refl _)⟩
          exact (HSB.out.set3 (b := w.heap.size) (o := 0) (by omega)).frame (fun q hq => ⟨by omega, by have := hq.2; simp [World.setCell]; exact this⟩) (fun _ _ _ => rfl)
        · have Hf : Hid (readT s (f + 1) (c :: r) = (q1, ((false, 0), .nil), [])) := by rw [Hid, Ht.out, if_pos he]
          have heb : (q1 != 0) = true := by simpa using he
          clear he
          go_wp2_with fail
          rw [Hf.out]
          exact bodyPost_ret (v := .tuple #[.agg #[.bool false, .int .i64 0, .slice none 0 0], .string ⟨#[]⟩, .int .i64 q1]) (by simp [results, Tryz.results94, go_sem, b0, b1, b2]) rfl ⟨_, rfl, SB.nil _ _, set3_below (o := 0) hB (Nat.le_refl _)⟩

end Go.Proofs.YtfckelbdageenabGreatDoor

/- What Parse answers. -/
namespace Go.Proofs.YtfckelbdageenabGreatDoor
open Go.RowKit Go.Deep Go.ChangeShapes Go.WideShapes

abbrev zeroT : (Bool × Int) × Fo := ((false, 0), .nil)

/-- A text's term, and its error. -/
def parseT (s : List Int) (l : List UInt8) : Int × ((Bool × Int) × Fo) :=
  if wsig s ≠ 0 then (wsig s, zeroT) else if 48 < l.length then (4, zeroT) else
  if (readT s (l.length + 1) l).1 ≠ 0 then ((readT s (l.length + 1) l).1, zeroT) else
  if (readT s (l.length + 1) l).2.2 ≠ [] then (2, zeroT) else
  if wrongF s (readT s (l.length + 1) l).2.1.1 (readT s (l.length + 1) l).2.1.2 ≠ 0 then (wrongF s (readT s (l.length + 1) l).2.1.1 (readT s (l.length + 1) l).2.1.2, zeroT) else
  (0, (readT s (l.length + 1) l).2.1)

theorem wsig_ok {s : List Int} (h : wsig s = 0) : s.all okNum = true ∧ s.length ≤ 6 ∧ 0 < s.length := by
  unfold wsig at h
  by_cases h1 : s.length = 0 ∨ 6 < s.length
  · rw [if_pos h1] at h; omega
  · rw [if_neg h1] at h
    by_cases h2 : s.all okNum = true
    · exact ⟨h2, by omega, by omega⟩
    · rw [if_neg h2] at h; omega

theorem SIn.nil (w : World) : SIn w .nil (.slice none 0 0) := (SB.nil (fun _ => True) w).toS

set_option maxHeartbeats 1000000 in
theorem parseB_any (s : List Int) (sv : Value) (l : List UInt8) (w : World) (hN : NIn w s sv) (hl : l.length ≤ maxLen) :
    Calls Tryz.prog 65 #[sv, str l] w fun e w' => ∃ a, e = .returned (.tuple #[trm (parseT s l).2.1 a, .int .i64 (parseT s l).1]) ∧ SB (New w w') w' (parseT s l).2.2 a ∧ Below w.heap.size w w' := by
  have HN := hide hN
  obtain ⟨sa, sc, sb, so, rfl, -, -, -, -⟩ := hN
  unfold maxLen at hl
  go_enter Tryz.func65, Tryz.ntmps65
  go_wp2_with fail
  refine (wsig_any s _ _ (HN.out.alloc _)).mono ?_
  rintro e w' ⟨rfl, hw'⟩
  rw [hw']
  clear hw' w'
  by_cases hw : wsig s = 0
  · have Hw := hide hw
    simp only [hw]
    by_cases h48 : 48 < l.length
    · have Hf : Hid (parseT s l = (4, zeroT)) := by rw [Hid, parseT, if_neg (by simpa using hw), if_pos h48]
      have h48' : (48 : Int) < (l.length : Int) := by omega
      clear hw
      go_wp2_with fail
      rw [Hf.out]
      exact bodyPost_ret (v := .tuple #[.agg #[.bool false, .int .i64 0, .slice none 0 0], .int .i64 4]) (by simp [results, Tryz.results65, go_sem]) rfl ⟨_, rfl, SB.nil _ _, below_alloc _ _⟩
    · have Ht : Hid (parseT s l = if (readT s (l.length + 1) l).1 ≠ 0 then ((readT s (l.length + 1) l).1, zeroT) else
          if (readT s (l.length + 1) l).2.2 ≠ [] then (2, zeroT) else
          if wrongF s (readT s (l.length + 1) l).2.1.1 (readT s (l.length + 1) l).2.1.2 ≠ 0 then (wrongF s (readT s (l.length + 1) l).2.1.1 (readT s (l.length + 1) l).2.1.2, zeroT) else
          (0, (readT s (l.length + 1) l).2.1)) := by rw [Hid, parseT, if_neg (by simpa using hw), if_neg h48]
      have h48' : ¬ (48 : Int) < (l.length : Int) := by omega
      have Hok := hide (wsig_ok hw).1
      clear hw
      go_wp2_with fail
      refine (read_any s (l.length + 1) _ l _ (HN.out.alloc _) Hok.out (by omega) (by unfold maxLen; omega)).mono ?_
      rintro e w1 ⟨a, rfl, hSB, hb1⟩
      obtain ⟨b0, b1, b2, bf, hB, hsz⟩ := box_full hb1
      generalize readT s (l.length + 1) l = q at *
      obtain ⟨q1, ⟨⟨qv, qn⟩, qk⟩, q3⟩ := q
      simp only at Ht hSB ⊢
      have HSB : Hid (SB (fun q => w.heap.size + 1 ≤ q ∧ q < w1.heap.size) w1 qk a) := hSB.frame (fun q hq => by have h1 := hq.1; simp at h1; exact ⟨h1, hq.2⟩) (fun _ _ _ => rfl)
      have hza : ∃ z1 z2 z3, a = .slice z1 z2 z3 := by
        obtain ⟨_, _, _, _, rfl, _⟩ := hSB
        exact ⟨_, _, _, rfl⟩
      obtain ⟨z1, z2, z3, rfl⟩ := hza
      clear hb1 hSB
      by_cases he : q1 = 0
      · subst he
        rw [if_neg (by simp)] at Ht
        cases q3 with
        | cons d r =>
          rw [if_pos (by simp)] at Ht
          go_wp2_with fail
          rw [Ht.out]
          refine bodyPost_ret (v := .tuple #[.agg #[.bool false, .int .i64 0, .slice none 0 0], .int .i64 2]) (by simp [results, Tryz.results65, go_sem, b0, b1, b2, hsz]) rfl ⟨_, rfl, SB.nil _ _, ?_⟩
          exact (set3_below (o := 0) hB (Nat.le_refl _)).alloc (by rw [set3_size]; omega) _
        | nil =>
          rw [if_neg (by simp)] at Ht
          have HSx := hide (HSB.out.toS.alloc (.cells #[.bool qv, .int .i64 qn, .slice z1 z2 z3] 36))
          have hw1 : w.heap.size ≤ w1.heap.size := by omega
          go_wp2_with fail
          refine (wrong_any s _ (qv, qn) qk _ _ ((HN.out.below hB).alloc _) HSx.out).mono ?_
          rintro e w2 ⟨rfl, hb2⟩
          obtain ⟨d0, d1, d2, df, hB2, hsz2⟩ := box_full hb2
          have c0 := grow_cell hB2 _ _ b0
          have c1 := grow_cell hB2 _ _ b1
          have c2 := grow_cell hB2 _ _ b2
          have cf : ∀ i, w2.frozen? ⟨w.heap.size, i, none⟩ = false := fun i => (hB2.frozen (by show w.heap.size < _; omega)).trans (bf i)
          have hBB := below_step hB hB2
          have HSB2 : Hid (SB (fun q => w.heap.size + 1 ≤ q ∧ q < w1.heap.size) w2 qk (.slice z1 z2 z3)) := HSB.out.frame (fun _ h => h) (fun q i hq => hB2.cell (p := ⟨q, i, none⟩) hq.2)
          clear hb2 b0 b1 b2 bf
          by_cases he : wrongF s (qv, qn) qk = 0
          · rw [if_neg (by simpa using he)] at Ht
            simp only [he]
            clear he
            go_wp2_with fail
            rw [Ht.out]
            refine bodyPost_ret (v := .tuple #[.agg #[.bool qv, .int .i64 qn, .slice z1 z2 z3], .int .i64 0]) (by simp [results, Tryz.results65, go_sem, c0, c1, c2]) rfl ⟨_, rfl, ?_, set3_below (o := 0) hBB (Nat.le_refl _)⟩
            exact (HSB2.out.set3 (b := w.heap.size) (o := 0) (by omega)).frame (fun q hq => ⟨by omega, Nat.lt_of_lt_of_le hq.2 (Nat.le_trans hB2.size (Nat.le_of_eq (set3_size (w := w2) (b := w.heap.size) (o := 0) (x := .bool qv) (y := .int .i64 qn) (z := .slice z1 z2 z3)).symm))⟩) (fun _ _ _ => rfl)
          · rw [if_pos he] at Ht
            have heb : (wrongF s (qv, qn) qk != 0) = true := by simpa using he
            generalize wrongF s (qv, qn) qk = E at *
            clear he
            go_wp2_with fail
            rw [Ht.out]
            exact bodyPost_ret (v := .tuple #[.agg #[.bool false, .int .i64 0, .slice none 0 0], .int .i64 E]) (by simp [results, Tryz.results65, go_sem, c0, c1, c2]) rfl ⟨_, rfl, SB.nil _ _, set3_below (o := 0) hBB (Nat.le_refl _)⟩
      · rw [if_pos he] at Ht
        have heb : (q1 != 0) = true := by simpa using he
        clear he
        go_wp2_with fail
        rw [Ht.out]
        refine bodyPost_ret (v := .tuple #[.agg #[.bool false, .int .i64 0, .slice none 0 0], .int .i64 q1]) (by simp [results, Tryz.results65, go_sem, b0, b1, b2, hsz]) rfl ⟨_, rfl, SB.nil _ _, ?_⟩
        exact (set3_below (o := 0) hB (Nat.le_refl _)).alloc (by rw [set3_size]; omega) _
  · have Hf : Hid (parseT s l = (wsig s, zeroT)) := by rw [Hid, parseT, if_pos hw]
    have heb : (wsig s != 0) = true := by simpa using hw
    generalize wsig s = E at *
    clear hw
    go_wp2_with fail
    rw [Hf.out]
    exact bodyPost_ret (v := .tuple #[.agg #[.bool false, .int .i64 0, .slice none 0 0], .int .i64 E]) (by simp [results, Tryz.results65, go_sem]) rfl ⟨_, rfl, SB.nil _ _, below_alloc _ _⟩

theorem parse_any (s : List Int) (sv : Value) (l : List UInt8) (w : World) (hN : NIn w s sv) (hl : l.length ≤ maxLen) :
    Calls Tryz.prog 65 #[sv, str l] w fun e w' => ∃ a, e = .returned (.tuple #[trm (parseT s l).2.1 a, .int .i64 (parseT s l).1]) ∧ SIn w' (parseT s l).2.2 a ∧ Below w.heap.size w w' :=
  (parseB_any s sv l w hN hl).mono fun _ _ ⟨a, h1, h2, h3⟩ => ⟨a, h1, h2.toS, h3⟩

end Go.Proofs.YtfckelbdageenabGreatDoor

/- A term's text: what is appended to it. -/
namespace Go.Proofs.YtfckelbdageenabGreatDoor
open Go.RowKit Go.Deep Go.ChangeShapes Go.WideShapes

theorem Tryz.info5 : (Tryz.prog.info? 5).map (fun i => (i.zero, i.size, i.bytes)) = some (some (.int .u8 0), 1, 1) := by kernel_rfl

abbrev bytesV (bs : List UInt8) : List Value := bs.map fun b => Value.int .u8 (b.toNat : Int)

/-- A string appended: in the old row, or in a new block. -/
theorem run_append_str {P : Program} (w : World) (base : Nat) (t u ty e : TypeId) (i : TypeInfo) (ht : P.underlying t = some (.slice e)) (hu : P.underlying u = some .string) (hi : P.info? e = some i) (hz : i.zero = some (.int .u8 0))
    (hsize : i.size = 1) (hby : i.bytes = 1) (v : Value) (n : Nat) (xs : List Value) (hown : w.ownsRow base e 1 v n xs) (s : ByteArray) (h0 : 0 < s.size)
    (h63 : n + s.size ≤ maxLen) (hbytes : n + s.size ≤ 140737488355328) (hbase : base ≤ w.heap.size) :
    ∃ g cap w', (Builtin.append_ #[t, u] ty #[v, .string s]).run P w = .ok (.slice (some ⟨g, 0, none⟩) (n + s.size) cap) w' ∧ w'.ownsRow base e 1 (.slice (some ⟨g, 0, none⟩) (n + s.size) cap) (n + s.size) (xs ++ Lib.strCells s) ∧ w.grownBy w' v.ownBlock ∧ (v.ownBlock = some g ∨ g = w.heap.size) := by
  obtain ⟨v', w', hr, h2, h3, _⟩ := Lib.run_append_own_string (P := P) w base t u ty e i ht hu hi hz hsize hby v n xs hown s h63 hbytes hbase
  obtain ⟨g, cap, rfl, _, _⟩ := h2.form (by omega)
  refine ⟨g, cap, w', hr, h2, h3, ?_⟩
  have hsmall : n + s.size ≤ 9223372036854775807 := by simp only [maxLen] at h63; omega
  rcases hown.2 with ⟨rfl, rfl⟩ | ⟨g0, cap0, cur, rfl, hbg, hg, hnc, hcm, hcs, htake⟩
  · have hr2 := run_append_nil_string (P := P) w t u ty e i (.int .u8 0) ht hu hi hz s h0 (by omega) (by rw [hby]; omega)
    rw [hr] at hr2
    simp only [Result.ok.injEq, Value.slice.injEq, Option.some.injEq, Addr.mk.injEq] at hr2
    exact .inr hr2.1.1.1
  · by_cases hroom : n + s.size ≤ cap0
    · have hr2 := Lib.run_append_room_string (P := P) w t u ty e i ht hu hi hsize g0 n cap0 cur hg s hroom (by omega)
      rw [hr] at hr2
      simp only [Result.ok.injEq, Value.slice.injEq, Option.some.injEq, Addr.mk.injEq] at hr2
      exact .inl (by rw [hr2.1.1.1]; rfl)
    · have holds : ∀ j u, xs[j]? = some u → w.cell? ((⟨g0, 0, none⟩ : Addr).add j) = some u := hown.cells (g := g0) rfl
      have hr2 := Lib.run_append_grow_string (P := P) w t u ty e i (.int .u8 0) ht hu hi hz ⟨g0, 0, none⟩ n cap0 xs (by rw [hsize]; exact hown.1) holds s (by omega) (by omega) (by rw [hby]; exact growslice_fits (by omega) (by omega))
      rw [hr] at hr2
      simp only [Result.ok.injEq, Value.slice.injEq, Option.some.injEq, Addr.mk.injEq] at hr2
      exact .inr hr2.1.1.1
theorem wpList_append_str {P : Program} (w : World) {ops : Array Oper} {rest : List Oper} {o : Oper} {a : Act} {Q : Exit → Act → World → Prop} (hgd : o.guard = none) (sl x : Operand) (t u : TypeId)
    (ho : o.op = .call { callee := .builtin .append, args := #[sl, x], argTypes := #[t, u] })
    (base : Nat) (e : TypeId) (i : TypeInfo) (ht : P.underlying t = some (.slice e)) (hu : P.underlying u = some .string) (hi : P.info? e = some i) (hz : i.zero = some (.int .u8 0))
    (hsize : i.size = 1) (hby : i.bytes = 1) (v : Value) (n : Nat) (xs : List Value) (hs : a.eval sl = v) (hown : w.ownsRow base e 1 v n xs) (s : ByteArray) (hx : a.eval x = .string s) (h0 : 0 < s.size)
    (h63 : n + s.size ≤ maxLen) (hbytes : n + s.size ≤ 140737488355328) (hbase : base ≤ w.heap.size)
    (h : ∀ g cap w', w'.ownsRow base e 1 (.slice (some ⟨g, 0, none⟩) (n + s.size) cap) (n + s.size) (xs ++ Lib.strCells s) → w.grownBy w' v.ownBlock → (v.ownBlock = some g ∨ g = w.heap.size) → wpList P ops Q rest (a.put o.dst (.slice (some ⟨g, 0, none⟩) (n + s.size) cap)) w') : wpList P ops Q (o :: rest) a w := by
  refine wpList_plain hgd fun K hK => ?_
  obtain ⟨g, cap, w', hr, h2, h3, h4⟩ := run_append_str (P := P) w base t u o.type e i ht hu hi hz hsize hby v n xs hown s h0 h63 hbytes hbase
  unfold Oper.wp execOp
  simp only [ho, resolve, invoke, builtin, Sem.run_bind, Sem.run_pure, Result.andThen_ok, List.map_toArray, List.map_cons, List.map_nil, hs, hx, hr]
  exact hK _ _ (h g cap w' h2 h3 h4)

def dig (n : Int) : UInt8 := UInt8.ofNat (48 + n.toNat)

set_option maxHeartbeats 400000 in
theorem small_any (n : Int) (h0 : 0 ≤ n) (h4 : n ≤ 4) (w : World) : Calls Tryz.prog 131 #[.int .i64 n] w fun e w' => e = .returned (str [dig n]) ∧ w' = w := by
  have : n = 0 ∨ n = 1 ∨ n = 2 ∨ n = 3 ∨ n = 4 := by omega
  rcases this with rfl | rfl | rfl | rfl | rfl <;>
  · go_enter Tryz.func131, Tryz.ntmps131
    go_wp2_with fail
    go_ret
    exact ⟨rfl, rfl⟩

/-- A byte slice of the call's own that has grown by one. -/
def Grew (base : Nat) (w w' : World) (vo : Value) (n : Nat) (g cap : Nat) (cells : List Value) : Prop :=
  w'.ownsRow base 5 1 (.slice (some ⟨g, 0, none⟩) n cap) n cells ∧ Fr w w' vo.ownBlock none ∧ (vo.ownBlock = some g ∨ w.heap.size ≤ g)

set_option maxRecDepth 100000 in
set_option maxHeartbeats 400000 in
theorem appendUint_any (n : Int) (h0 : 0 ≤ n) (h4 : n ≤ 4) (base : Nat) (vo : Value) (bs : List UInt8) (w : World) (ho : w.ownsRow base 5 1 vo bs.length (bytesV bs)) (hb : bs.length ≤ 1000000) (hbase : base ≤ w.heap.size) :
    Calls Tryz.prog 137 #[vo, .int .u64 n, .int .i64 10] w fun e w' => ∃ g cap, e = .returned (.slice (some ⟨g, 0, none⟩) (bs.length + 1) cap) ∧ Grew base w w' vo (bs.length + 1) g cap (bytesV (bs ++ [dig n])) := by
  have Ho := hide ho
  obtain ⟨za, zc, rfl⟩ := slice_of_owns ho
  obtain ⟨i5, hi5, hz0, hz1, hz2⟩ := info_parts Tryz.info5
  have hs1 : (⟨[dig n].toArray⟩ : ByteArray).size = 1 := rfl
  have Hs0 : Hid (0 < (⟨[dig n].toArray⟩ : ByteArray).size) := by rw [hs1]; exact Nat.one_pos
  have H63 : Hid (bs.length + (⟨[dig n].toArray⟩ : ByteArray).size ≤ maxLen) := by rw [hs1]; unfold maxLen Hid; omega
  have Hby : Hid (bs.length + (⟨[dig n].toArray⟩ : ByteArray).size ≤ 140737488355328) := by rw [hs1]; unfold Hid; omega
  clear ho hs1
  go_enter Tryz.func137, Tryz.ntmps137
  go_wp2_with fail
  refine (small_any n h0 h4 _).mono ?_
  rintro e w' ⟨rfl, hw'⟩
  rw [hw']
  clear hw' w'
  go_wp2_with (at_builtin; refine wpList_append_str _ rfl (.tmp 13) (.tmp 16) 92 9 rfl base 5 i5 Tryz.underlying92 Tryz.underlying9 hi5 hz0 hz1 hz2 (.slice za bs.length zc) bs.length (bytesV bs) rfl Ho.out ⟨[dig n].toArray⟩ rfl Hs0.out H63.out Hby.out hbase ?_; intro g cap w1 ho1 hg1 hat1)
  go_ret
  refine ⟨g, cap, rfl, ?_, Fr.of_grown hg1 (fun q _ h => .inl h.symm), ?_⟩
  · rw [show bytesV (bs ++ [dig n]) = bytesV bs ++ Lib.strCells ⟨[dig n].toArray⟩ by simp [Lib.strCells]]
    exact ho1
  · rcases hat1 with h | h
    · exact .inl h
    · exact .inr (by omega)

set_option maxHeartbeats 400000 in
theorem appendIntI_any (n : Int) (h0 : 0 ≤ n) (h4 : n ≤ 4) (base : Nat) (vo : Value) (bs : List UInt8) (w : World) (ho : w.ownsRow base 5 1 vo bs.length (bytesV bs)) (hb : bs.length ≤ 1000000) (hbase : base ≤ w.heap.size) :
    Calls Tryz.prog 130 #[vo, .int .i64 n, .int .i64 10] w fun e w' => ∃ g cap, e = .returned (.slice (some ⟨g, 0, none⟩) (bs.length + 1) cap) ∧ Grew base w w' vo (bs.length + 1) g cap (bytesV (bs ++ [dig n])) := by
  have Ho := hide ho
  obtain ⟨za, zc, rfl⟩ := slice_of_owns ho
  have hn : ¬ n < 0 := by omega
  clear ho
  go_enter Tryz.func130, Tryz.ntmps130
  go_wp2_with fail
  refine (appendUint_any n h0 h4 base _ bs w Ho.out hb hbase).mono ?_
  rintro e w1 ⟨g, cap, rfl, hG⟩
  have HG := hide hG
  clear hG
  go_wp2_with fail
  go_ret
  exact ⟨g, cap, rfl, HG.out⟩

set_option maxHeartbeats 400000 in
theorem appendInt_any (n : Int) (h0 : 0 ≤ n) (h4 : n ≤ 4) (base : Nat) (vo : Value) (bs : List UInt8) (w : World) (ho : w.ownsRow base 5 1 vo bs.length (bytesV bs)) (hb : bs.length ≤ 1000000) (hbase : base ≤ w.heap.size) :
    Calls Tryz.prog 117 #[vo, .int .i64 n, .int .i64 10] w fun e w' => ∃ g cap, e = .returned (.slice (some ⟨g, 0, none⟩) (bs.length + 1) cap) ∧ Grew base w w' vo (bs.length + 1) g cap (bytesV (bs ++ [dig n])) := by
  have Ho := hide ho
  obtain ⟨za, zc, rfl⟩ := slice_of_owns ho
  clear ho
  go_enter Tryz.func117, Tryz.ntmps117
  go_wp2_with fail
  refine (appendIntI_any n h0 h4 base _ bs w Ho.out hb hbase).mono ?_
  rintro e w1 ⟨g, cap, rfl, hG⟩
  have HG := hide hG
  clear hG
  go_wp2_with fail
  go_ret
  exact ⟨g, cap, rfl, HG.out⟩

end Go.Proofs.YtfckelbdageenabGreatDoor

/- A term's text: addText, Text. -/
namespace Go.Proofs.YtfckelbdageenabGreatDoor
open Go.RowKit Go.Deep Go.ChangeShapes Go.WideShapes

def sym (n : Int) : UInt8 := UInt8.ofNat (97 + n.toNat)
/-- Terms' texts, each behind its sign. -/
def textF : Fo → Int → List UInt8
  | .nil, _ => []
  | .node _ _ x k r, i => (signF i :: (if x.1 then [88, dig x.2] else sym x.2 :: (if Fo.len k = 0 then [] else textF k 0 ++ [41]))) ++ textF r (i + 1)
def textT (x : Bool × Int) (k : Fo) : List UInt8 := if x.1 then [88, dig x.2] else sym x.2 :: (if Fo.len k = 0 then [] else textF k 0 ++ [41])
def txTo (k : Fo) (j : Nat) : List UInt8 := textF (Fo.take j k) 0

theorem textF_snoc : ∀ {F : Fo} {j : Nat} {x : Bool × Int} {k : Fo} (i : Int), F.list[j]? = some (x, k) → textF (Fo.take (j + 1) F) i = textF (Fo.take j F) i ++ signF (i + j) :: textT x k
  | .nil, _, _, _, _, h => by simp [Fo.list] at h
  | .node _ _ y l r, 0, x, k, i, h => by
    simp only [Fo.list, List.getElem?_cons_zero, Option.some.injEq, Prod.mk.injEq] at h
    obtain ⟨rfl, rfl⟩ := h
    simp [Fo.take, textF, textT]
  | .node _ _ y l r, j + 1, x, k, i, h => by
    have := textF_snoc (F := r) (j := j) (i + 1) (by simpa [Fo.list] using h)
    simp only [Fo.take, textF] at this ⊢
    have e : i + 1 + (j : Int) = i + ((j + 1 : Nat) : Int) := by omega
    rw [this, e, List.append_assoc]
theorem txTo_succ {k : Fo} {j : Nat} {x : Bool × Int} {l : Fo} (h : k.list[j]? = some (x, l)) : txTo k (j + 1) = txTo k j ++ signF j :: textT x l := by
  rw [txTo, textF_snoc 0 h]; simp [txTo]
theorem txTo_end (k : Fo) : txTo k (Fo.len k) = textF k 0 := by rw [txTo, take_all]
theorem textF_take_le : ∀ (F : Fo) (j : Nat) (i : Int), (textF (Fo.take j F) i).length ≤ (textF F i).length
  | _, 0, _ => by simp [Fo.take, textF]
  | .nil, _ + 1, _ => by simp [Fo.take]
  | .node _ _ x k r, j + 1, i => by
    have := textF_take_le r j (i + 1)
    simp only [Fo.take, textF, List.length_append]
    omega
theorem txTo_le (k : Fo) (j : Nat) : (txTo k j).length ≤ (textF k 0).length := textF_take_le k j 0

/-- Each number has a sign that is written. -/
def Fo.texts : Fo → Prop
  | .nil => True
  | .node _ _ x k r => (0 ≤ x.2 ∧ x.2 ≤ (if x.1 then 4 else 100)) ∧ Fo.texts k ∧ Fo.texts r
theorem texts_at : ∀ {F : Fo} {j : Nat} {x : Bool × Int} {k : Fo}, Fo.texts F → F.list[j]? = some (x, k) → (0 ≤ x.2 ∧ x.2 ≤ (if x.1 then 4 else 100)) ∧ Fo.texts k
  | .nil, _, _, _, _, h => by simp [Fo.list] at h
  | .node _ _ y l r, 0, x, k, hn, h => by
    simp only [Fo.list, List.getElem?_cons_zero, Option.some.injEq, Prod.mk.injEq] at h
    obtain ⟨rfl, rfl⟩ := h
    exact ⟨hn.1, hn.2.1⟩
  | .node _ _ y l r, j + 1, x, k, hn, h => texts_at (F := r) hn.2.2 (by simpa [Fo.list] using h)

theorem Grew.trans {base : Nat} {w w1 w2 : World} {vo : Value} {n1 g1 c1 n2 g2 c2 : Nat} {xs ys : List Value} (h1 : Grew base w w1 vo n1 g1 c1 xs) (h2 : Grew base w1 w2 (.slice (some ⟨g1, 0, none⟩) n1 c1) n2 g2 c2 ys) : Grew base w w2 vo n2 g2 c2 ys := by
  obtain ⟨a1, a2, a3⟩ := h1
  obtain ⟨b1, b2, b3⟩ := h2
  refine ⟨b1, a2.trans b2 (fun q hq h => ?_), ?_⟩
  · rcases h with h | h
    · simp only [Value.ownBlock, Option.some.injEq] at h
      subst h
      rcases a3 with a3 | a3
      · exact .inl a3.symm
      · omega
    · cases h
  · rcases b3 with b3 | b3
    · simp only [Value.ownBlock, Option.some.injEq] at b3
      subst b3
      exact a3
    · exact .inr (Nat.le_trans a2.size b3)
theorem Grew.pre {base : Nat} {w w1 w2 : World} {vo : Value} {n g c : Nat} {xs : List Value} (hb : Below w.heap.size w w1) (h : Grew base w1 w2 vo n g c xs) : Grew base w w2 vo n g c xs := by
  obtain ⟨b1, b2, b3⟩ := h
  refine ⟨b1, (Fr.of_below hb _ _).trans b2 (fun q _ h => h), ?_⟩
  rcases b3 with b3 | b3
  · exact .inl b3
  · exact .inr (Nat.le_trans hb.size b3)
theorem Grew.of {base : Nat} {w w1 w2 : World} {vo : Value} {n g c : Nat} {xs : List Value} (hb : Below w.heap.size w w1) (ho : w2.ownsRow base 5 1 (.slice (some ⟨g, 0, none⟩) n c) n xs) (hg : w1.grownBy w2 vo.ownBlock) (hat : vo.ownBlock = some g ∨ g = w1.heap.size) : Grew base w w2 vo n g c xs :=
  Grew.pre hb ⟨ho, Fr.of_grown hg (fun q _ h => .inl h.symm), by rcases hat with h | h; exact .inl h; exact .inr (by omega)⟩
theorem Grew.below {base : Nat} {w w1 : World} {vo : Value} {n g c : Nat} {xs : List Value} (h : Grew base w w1 vo n g c xs) (hb : base ≤ w.heap.size) (hv : ∀ g, vo.ownBlock = some g → base ≤ g) : Below base w w1 := h.2.1.below hb hv (fun _ h => by cases h)
/-- A block that is not the row's is as it was. -/
theorem Grew.far {base : Nat} {w w1 : World} {vo : Value} {n g c : Nat} {xs : List Value} (h : Grew base w w1 vo n g c xs) {q i : Nat} (hq : q < w.heap.size) (hv : vo.ownBlock ≠ some q) : w1.cell? ⟨q, i, none⟩ = w.cell? ⟨q, i, none⟩ :=
  World.cell?_of_block (a := ⟨q, i, none⟩) (h.2.1.block q hq (fun e => hv e.symm) (fun e => by cases e))

theorem bytes_snoc (bs : List UInt8) (c : UInt8) : bytesV (bs ++ [c]) = bytesV bs ++ [.int .u8 (c.toNat : Int)] := by simp

theorem tx_ne {W w wa w3 : World} {v : Value} {n g cap m : Nat} {ob : Obj} (hv : ∀ g, v.ownBlock = some g → W.heap.size ≤ g ∧ g < w.heap.size) (hat : v = .slice (some ⟨g, 0, none⟩) n cap ∨ (g = (wa.alloc ob).drew.heap.size ∧ (wa.alloc ob).drew.grownBy w3 none)) (hs : wa.heap.size = w.heap.size + 1) : (Value.slice (some ⟨g, 0, none⟩) m cap).ownBlock ≠ some w.heap.size := by
  intro e
  simp only [Value.ownBlock, Option.some.injEq] at e
  subst e
  rcases hat with h | ⟨h, _⟩
  · have := (hv w.heap.size (by rw [h]; rfl)).2; omega
  · simp at h; omega

theorem tx_below {W wr wb w3 : World} {v : Value} {ob : Obj} (hB : Below W.heap.size W wr) (hb : Below wr.heap.size wr wb) (hg : (wb.alloc ob).drew.grownBy w3 v.ownBlock) (hv : ∀ g, v.ownBlock = some g → W.heap.size ≤ g) : Below W.heap.size W w3 := by
  have h1 : Below W.heap.size W (wb.alloc ob).drew := ((hB.trans (hb.mono hB.size)).alloc (Nat.le_trans hB.size hb.size) ob).drew
  exact h1.grown hg (by have := hB.size; have := hb.size; simp; omega) hv

def AddTextSaid (x : Bool × Int) (k : Fo) : Prop := ∀ (W : World) (a : Value) (w : World) (vo : Value) (bs T : List UInt8), T = bs ++ textT x k → SIn W k a → Below W.heap.size W w → w.ownsRow W.heap.size 5 1 vo bs.length (bytesV bs) →
    (0 ≤ x.2 ∧ x.2 ≤ (if x.1 then 4 else 100)) → Fo.texts k → bs.length + (textT x k).length ≤ 100000 →
    Calls Tryz.prog 99 #[vo, .agg #[.bool x.1, .int .i64 x.2, a]] w fun e w' => ∃ g cap, e = .returned (.slice (some ⟨g, 0, none⟩) T.length cap) ∧ Grew W.heap.size w w' vo T.length g cap (bytesV T)

set_option maxRecDepth 100000 in
set_option maxHeartbeats 1000000 in
theorem addText_any (x : Bool × Int) (k : Fo) : AddTextSaid x k := by
  refine Fo.ind1 (p := AddTextSaid) ?_ x k
  clear x k
  intro x k ih W a w vo bs T hT hS hB ho hx htx hlen
  obtain ⟨v, n⟩ := x
  have HI := hide ih
  have HT := hide hT
  have HB := hide hB
  have Ho := hide ho
  have Htx := hide htx
  obtain ⟨ad, c, b, o, rfl, had, hlc, hcm, hF⟩ := hS
  have HF := hide hF
  unfold maxLen at hcm
  obtain ⟨za, zc, rfl⟩ := slice_of_owns ho
  obtain ⟨i5, hi5, hz0, hz1, hz2⟩ := info_parts Tryz.info5
  have hWs := hB.size
  have Hvo : Hid (∀ g, (Value.slice za bs.length zc).ownBlock = some g → W.heap.size ≤ g ∧ g < w.heap.size) := owns_at ho
  have hl1 : bs.length + 1 ≤ maxLen := by unfold maxLen; omega
  have hl2 : (bs.length + 1) * 1 ≤ 140737488355328 := by omega
  clear ih hF ho htx hB hT
  cases v
  · have Htt : Hid (textT (false, n) k = sym n :: (if Fo.len k = 0 then [] else textF k 0 ++ [41])) := rfl
    have Hsym : Hid (((sym n).toNat : Int) = 97 + n) := by
      simp only [if_false, Bool.false_eq_true] at hx
      rw [Hid, sym, UInt8.toNat_ofNat']
      omega
    simp only [Bool.false_eq_true, if_false] at hx
    have hn0 : 0 ≤ n := hx.1
    have hn1 : n ≤ 100 := hx.2
    have Hob : Hid (((w.alloc (.cells #[.bool false, .int .i64 n, .slice ad (Fo.len k) c] 36)).alloc (.cells #[.int .u8 (97 + n)] 5)).ownsRow W.heap.size 5 1 (.slice za bs.length zc) bs.length (bytesV bs)) :=
      owns_keep Ho.out (fun g hg => ((below_alloc w _).alloc (by simp) _).block g (Hvo.out g hg).2)
    have Hnews : Hid (∀ j u, [Value.int .u8 (97 + n)][j]? = some u → ((w.alloc (.cells #[.bool false, .int .i64 n, .slice ad (Fo.len k) c] 36)).alloc (.cells #[.int .u8 (97 + n)] 5)).cell? ((⟨w.heap.size + 1, 0, none⟩ : Addr).add j) = some u) := by
      have h := World.news_of_block (cs := #[.int .u8 (97 + n)]) (heap_alloc_new (w.alloc (.cells #[.bool false, .int .i64 n, .slice ad (Fo.len k) c] 36)) (.cells #[.int .u8 (97 + n)] 5))
      intro j u hu
      have := h j u hu
      simpa using this
    clear hx
    go_enter Tryz.func99, Tryz.ntmps99
    go_wp2_with (at_builtin; refine wpList_append_lies _ rfl (.tmp 15) (.tmp 20) 92 rfl W.heap.size 5 i5 (.int .u8 0) 1 1 Tryz.underlying92 hi5 hz0 hz1 hz2 rfl (by decide) (.slice za bs.length zc) bs.length (bytesV bs) rfl Hob.out ⟨w.heap.size + 1, 0, none⟩ 1 1 [.int .u8 (97 + n)] rfl rfl Hnews.out (by simp [Value.oneCell']) (by decide) hl1 hl2 (by simp; omega) (w.heap.size + 2) (by simp) ?_; intro g cap w2 hown2 hg2 hat2 hlt2; have q2' : w2.cell? ⟨w.heap.size, 2, none⟩ = some (.slice ad (Fo.len k) c) := (hg2.cell_far _ (by simp; omega) (fun e => by have := (Hvo.out _ e.symm).2; simp at this)).trans (by simp))
    have HG0 : Hid (Grew W.heap.size (w.alloc (.cells #[.bool false, .int .i64 n, .slice ad (Fo.len k) c] 36)) w2 (.slice za bs.length zc) (bs ++ sym n :: txTo k 0).length g cap (bytesV (bs ++ sym n :: txTo k 0))) := by
      have e : bytesV (bs ++ sym n :: txTo k 0) = bytesV bs ++ [.int .u8 (97 + n)] := by simp [txTo, Fo.take, textF, Hsym.out]
      have e2 : (bs ++ sym n :: txTo k 0).length = bs.length + 1 := by simp [txTo, Fo.take, textF]
      rw [e, e2]
      exact Grew.of (below_alloc _ _) hown2 hg2 (by rcases hat2 with h | h; exact .inl h; exact .inr (by simp; omega))
    have hl0 : (bs ++ sym n :: txTo k 0).length = bs.length + 1 := by simp [txTo, Fo.take, textF]
    have Hl0 := hide hl0
    have Hlen : Hid (Fo.len k ≠ 0 → bs.length + 1 + (textF k 0).length + 1 ≤ 100000) := fun h => by
      have := hlen
      rw [Htt.out, if_neg h] at this
      simp at this
      omega
    generalize hwa : w.alloc (.cells #[.bool false, .int .i64 n, .slice ad (Fo.len k) c] 36) = wa at HG0
    have hsa : wa.heap.size = w.heap.size + 1 := by rw [← hwa]; simp
    have Hba : Hid (Below w.heap.size w wa) := by rw [← hwa]; exact below_alloc _ _
    have Hbx : Hid (wa.cell? ⟨w.heap.size, 2, none⟩ = some (.slice ad (Fo.len k) c)) := by rw [← hwa]; simp [Hid]
    have Hnb : Hid ((Value.slice za bs.length zc).ownBlock ≠ some w.heap.size) := fun e => by have := (Hvo.out _ e).2; omega
    have Hsa := hide hsa
    clear hown2 hg2 hat2 hlt2 q2' Hob Hnews hl0 hwa hsa
    go_loopw [0, 25] (fun vo' i wr => ∃ (j g cap : Nat), j ≤ Fo.len k ∧ i = .int .i64 j ∧ vo' = .slice (some ⟨g, 0, none⟩) (bs ++ sym n :: txTo k j).length cap ∧ Grew W.heap.size wa wr (.slice za bs.length zc) (bs ++ sym n :: txTo k j).length g cap (bytesV (bs ++ sym n :: txTo k j))) (fun _ i _ => Fo.len k - (intOf i).toNat)
    case atStart => exact ⟨0, g, cap, Nat.zero_le _, rfl, by rw [Hl0.out], HG0.out⟩
    case round =>
      obtain ⟨j, gj, cj, hj, rfl, rfl, hR⟩ := hrel
      have HR := hide hR
      have Hbxr : Hid (wr.cell? ⟨w.heap.size, 2, none⟩ = some (.slice ad (Fo.len k) c)) := (hR.far (by rw [Hsa.out]; omega) Hnb.out).trans Hbx.out
      have HBr : Hid (Below W.heap.size W wr) := (HB.out.trans (Hba.out.mono hWs)).trans (hR.below (by rw [Hsa.out]; omega) (fun g hg => (Hvo.out g hg).1))
      clear hR HG0
      by_cases hlt : j < Fo.len k
      · have hlt' : (j : Int) < (Fo.len k : Int) := by omega
        obtain ⟨⟨⟨yv, yn⟩, yk⟩, hy⟩ : ∃ y, k.list[j]? = some y := ⟨k.list[j]'(by rw [Fo.len_list]; exact hlt), by simp⟩
        obtain ⟨c0, c1, yv', c2, hSy⟩ := HF.out.at hy
        have HSy := hide hSy
        obtain ⟨ya, yc, yb, yo, rfl, -, -, -, -⟩ := hSy
        have c0' := grow_cell HBr.out _ _ c0
        have c1' := grow_cell HBr.out _ _ c1
        have c2' := grow_cell HBr.out _ _ c2
        have ha : ad = some ⟨b, o, none⟩ := had (by omega)
        subst ha
        have Hnext : Hid (bs ++ sym n :: txTo k (j + 1) = (bs ++ sym n :: txTo k j) ++ [signF j] ++ textT (yv, yn) yk) := by rw [Hid, txTo_succ hy]; simp
        have Hbd : Hid ((bs ++ sym n :: txTo k j).length + 1 + (textT (yv, yn) yk).length ≤ 100000) := by
          have h1 := Hlen.out (by omega)
          have h2 := txTo_le k (j + 1)
          rw [txTo_succ hy] at h2
          simp at h2 ⊢
          unfold Hid
          omega
        have Hty := hide (texts_at Htx.out hy)
        have Hy := hide hy
        generalize bs ++ sym n :: txTo k j = Bj at *
        have hbd := Hbd.out
        have hb1 : Bj.length + 1 ≤ maxLen := by unfold maxLen; omega
        have hb2 : (Bj.length + 1) * 1 ≤ 140737488355328 := by omega
        have Hvj : Hid (∀ g, (Value.slice (some ⟨gj, 0, none⟩) Bj.length cj).ownBlock = some g → W.heap.size ≤ g ∧ g < wr.heap.size) := owns_at HR.out.1
        clear hy c0 c1 c2 Hbd had
        go_wp2_with fail
        clear c0' c1' c2'
        generalize hwb : wr.alloc (.cells #[.bool yv, .int .i64 yn, .slice ya (Fo.len yk) yc] 36) = wb
        have d0 : wb.cell? ⟨wr.heap.size, 0, none⟩ = some (.bool yv) := by rw [← hwb]; simp
        have d1 : wb.cell? ⟨wr.heap.size, 1, none⟩ = some (.int .i64 yn) := by rw [← hwb]; simp
        have d2 : wb.cell? ⟨wr.heap.size, 2, none⟩ = some (.slice ya (Fo.len yk) yc) := by rw [← hwb]; simp
        have hsb : wb.heap.size = wr.heap.size + 1 := by rw [← hwb]; simp
        have Hsb := hide hsb
        have hlb : wr.heap.size < wb.heap.size := by omega
        have hWb : W.heap.size ≤ wb.heap.size := by have := HBr.out.size; omega
        have Hbb : Hid (Below wr.heap.size wr wb) := by rw [← hwb]; exact below_alloc _ _
        have Hob : Hid ((wb.alloc (.cells #[.int .u8 ((signF j).toNat : Int)] 5)).drew.ownsRow W.heap.size 5 1 (.slice (some ⟨gj, 0, none⟩) Bj.length cj) Bj.length (bytesV Bj)) :=
          owns_keep HR.out.1 (fun g hg => ((Hbb.out.alloc Hbb.out.size _).drew).block g (Hvj.out g hg).2)
        have Hnj : Hid ((Value.slice (some ⟨gj, 0, none⟩) Bj.length cj).ownBlock ≠ some wr.heap.size) := fun e => by have := (Hvj.out _ e).2; omega
        obtain ⟨Tn, hTn⟩ : ∃ Tn, Tn = (Bj ++ [signF j]) ++ textT (yv, yn) yk := ⟨_, rfl⟩
        have HTn := hide hTn
        clear hwb hsb hTn
        go_region_held3 (fun w' => w'.cell? ⟨wr.heap.size, 0, none⟩ = some (.bool yv) ∧ w'.cell? ⟨wr.heap.size, 1, none⟩ = some (.int .i64 yn) ∧ w'.cell? ⟨wr.heap.size, 2, none⟩ = some (.slice ya (Fo.len yk) yc))
          (first
            | go_keep
            | (go_split_ands
               refine ⟨?_, ?_, ?_⟩
               · (rw [hG4.far hgl hgn]; assumption)
               · (rw [hG4.far hgl hgn]; assumption)
               · (rw [hG4.far hgl hgn]; assumption))
            | (go_split_ands
               refine ⟨?_, ?_, ?_⟩
               · (rw [hg3.cell_far _ (by simp; omega) (Ne.symm Hnj.out)]; simp only [World.cell?_drew]; rw [World.cell?_alloc_lt _ _ _ hlb]; assumption)
               · (rw [hg3.cell_far _ (by simp; omega) (Ne.symm Hnj.out)]; simp only [World.cell?_drew]; rw [World.cell?_alloc_lt _ _ _ hlb]; assumption)
               · (rw [hg3.cell_far _ (by simp; omega) (Ne.symm Hnj.out)]; simp only [World.cell?_drew]; rw [World.cell?_alloc_lt _ _ _ hlb]; assumption)))
          (first
            | (refine step_append_cap _ (by rfl) _ _ _ (by rfl) W.heap.size 5 i5 (.int .u8 0) 1 1 Tryz.underlying92 hi5 hz0 hz1 hz2 rfl (by decide) (.slice (some ⟨gj, 0, none⟩) Bj.length cj) Bj.length (bytesV Bj) (by rfl) Hob.out
                ⟨wb.heap.size, 0, none⟩ 1 1 [.int .u8 ((signF j).toNat : Int)] (by rfl) (by rfl) (World.news_of_block (cs := #[.int .u8 ((signF j).toNat : Int)]) (t := 5) (fr := (0, 0)) (heap_alloc_new wb _)) (by simp [Value.oneCell']) (by decide) hb1 hb2 (by simp; omega) ?_; intro g3 cap3 w3 hown3 hg3 hat3 hlt3)
            | (go_at_call 118; refine (signAhead_any _ _).mono ?_; rintro e w' ⟨rfl, hw'⟩; rw [hw']; clear hw' w')
            | (go_at_call 99; refine (HI.out ((yv, yn), yk) (List.mem_of_getElem? Hy.out) W _ _ (.slice (some ⟨g3, 0, none⟩) (Bj.length + 1) cap3) (Bj ++ [signF j]) Tn HTn.out HSy.out ?_ ?_ Hty.out.1 Hty.out.2 ?_).mono ?_; (exact tx_below HBr.out Hbb.out hg3 (fun g hg => (Hvj.out g hg).1)); (simpa using hown3); (simp; omega); rintro e w4 ⟨g4, c4, rfl, hG4⟩; have hgl : wr.heap.size < w3.heap.size := (by have := hg3.size; simp at this; omega); have hgn : (Value.slice (some ⟨g3, 0, none⟩) (Bj.length + 1) cap3).ownBlock ≠ some wr.heap.size := tx_ne Hvj.out hat3 Hsb.out))
        have HG : Hid (Grew W.heap.size wa w4 (.slice za bs.length zc) Tn.length g4 c4 (bytesV Tn)) := by
          have hA : Grew W.heap.size wr w3 (.slice (some ⟨gj, 0, none⟩) Bj.length cj) (Bj.length + 1) g3 cap3 (bytesV Bj ++ [.int .u8 ((signF j).toNat : Int)]) :=
            Grew.of ((Hbb.out.alloc Hbb.out.size _).drew) hown3 hg3 (by rcases hat3 with h | h; exact .inl (by rw [h]; rfl); exact .inr h.1)
          exact (HR.out.trans hA).trans hG4
        clear hG4 hg3 hown3 hat3 hlt3 hgl hgn
        go_wp2_with fail
        go_roundw
        case rel => exact ⟨j + 1, g4, c4, by omega, by go_num, by rw [Hnext.out, ← HTn.out], by rw [Hnext.out, ← HTn.out]; exact HG.out⟩
        case measure => simp [intOf]; omega
      · have hje : j = Fo.len k := by omega
        have Hje := hide hje
        clear hje
        have hbxr := Hbxr.out
        have hge : ¬ ((j : Int) < (Fo.len k : Int)) := by omega
        by_cases h0 : Fo.len k = 0
        · have h0' : ¬ (0 : Int) < (Fo.len k : Int) := by omega
          have Hfin : Hid (bs ++ textT (false, n) k = bs ++ sym n :: txTo k j) := by rw [Hid, Htt.out, if_pos h0, Hje.out, txTo_end, len_zero h0]; rfl
          generalize bs ++ sym n :: txTo k j = Bj at *
          clear h0
          go_wp2_with fail
          go_ret
          have e := HT.out.trans Hfin.out
          subst e
          exact ⟨gj, cj, rfl, Grew.pre Hba.out HR.out⟩
        · have h0' : (0 : Int) < (Fo.len k : Int) := by omega
          have Hfin : Hid (bs ++ textT (false, n) k = (bs ++ sym n :: txTo k j) ++ [41]) := by rw [Hid, Htt.out, if_neg h0, Hje.out, txTo_end]; simp
          have Hbd : Hid ((bs ++ sym n :: txTo k j).length + 1 ≤ 100000) := by
            have h1 := Hlen.out h0
            have h2 := txTo_le k j
            simp
            unfold Hid
            omega
          generalize bs ++ sym n :: txTo k j = Bj at *
          have hbd := Hbd.out
          have hb1 : Bj.length + 1 ≤ maxLen := by unfold maxLen; omega
          have hb2 : (Bj.length + 1) * 1 ≤ 140737488355328 := by omega
          have Hvj : Hid (∀ g, (Value.slice (some ⟨gj, 0, none⟩) Bj.length cj).ownBlock = some g → W.heap.size ≤ g ∧ g < wr.heap.size) := owns_at HR.out.1
          have Hob : Hid ((wr.alloc (.cells #[.int .u8 41] 5)).ownsRow W.heap.size 5 1 (.slice (some ⟨gj, 0, none⟩) Bj.length cj) Bj.length (bytesV Bj)) :=
            owns_keep HR.out.1 (fun g hg => (below_alloc wr _).block g (Hvj.out g hg).2)
          have hWr : W.heap.size ≤ wr.heap.size := HBr.out.size
          clear h0 Hbd hbd
          go_wp2_with (at_builtin; refine wpList_append_lies _ rfl (.tmp 42) (.tmp 43) 92 rfl W.heap.size 5 i5 (.int .u8 0) 1 1 Tryz.underlying92 hi5 hz0 hz1 hz2 rfl (by decide) (.slice (some ⟨gj, 0, none⟩) Bj.length cj) Bj.length (bytesV Bj) rfl Hob.out ⟨wr.heap.size, 0, none⟩ 1 1 [.int .u8 41] rfl rfl (cell_one_new _ _ _) (by simp [Value.oneCell']) (by decide) hb1 hb2 (by simp; omega) (wr.heap.size + 1) (by simp) ?_; intro g3 cap3 w3 hown3 hg3 hat3 hlt3)
          have HG : Hid (Grew W.heap.size wa w3 (.slice za bs.length zc) (Bj ++ [41]).length g3 cap3 (bytesV (Bj ++ [41]))) := by
            have hA : Grew W.heap.size wr w3 (.slice (some ⟨gj, 0, none⟩) Bj.length cj) (Bj.length + 1) g3 cap3 (bytesV Bj ++ [.int .u8 41]) :=
              Grew.of (below_alloc _ _) hown3 hg3 (by rcases hat3 with h | h; exact .inl h; exact .inr (by simp; omega))
            rw [Hid, show (Bj ++ [(41 : UInt8)]).length = Bj.length + 1 by simp, bytes_snoc]
            exact HR.out.trans hA
          have hl4 : (Bj ++ [(41 : UInt8)]).length = Bj.length + 1 := by simp
          clear hg3 hown3 hat3 hlt3
          go_ret
          have e := HT.out.trans Hfin.out
          subst e
          exact ⟨g3, cap3, by rw [hl4]; rfl, Grew.pre Hba.out HG.out⟩
  · simp only [if_true] at hx
    have Htt : Hid (bs ++ textT (true, n) k = (bs ++ [88]) ++ [dig n]) := by simp [Hid, textT]
    have hnb : (Value.slice za bs.length zc).ownBlock ≠ some w.heap.size := fun e => by have := (Hvo.out _ e).2; omega
    have Hnb := hide hnb
    clear hnb
    go_enter Tryz.func99, Tryz.ntmps99
    go_wp2_with fail
    generalize hwa : w.alloc (.cells #[.bool true, .int .i64 n, .slice ad (Fo.len k) c] 36) = wa
    have hba : Below w.heap.size w wa := by rw [← hwa]; exact below_alloc _ _
    have d1 : wa.cell? ⟨w.heap.size, 1, none⟩ = some (.int .i64 n) := by rw [← hwa]; simp
    have hsa : wa.heap.size = w.heap.size + 1 := by rw [← hwa]; simp
    have hla : w.heap.size < wa.heap.size := by omega
    have hWa : W.heap.size ≤ wa.heap.size := by omega
    have Hba := hide hba
    have Hsa := hide hsa
    have Hob : Hid ((wa.alloc (.cells #[.int .u8 88] 5)).drew.ownsRow W.heap.size 5 1 (.slice za bs.length zc) bs.length (bytesV bs)) :=
      owns_keep Ho.out (fun g hg => ((hba.alloc hba.size _).drew).block g (Hvo.out g hg).2)
    clear hwa hba hsa
    go_region_held3 (fun w' => w'.cell? ⟨w.heap.size, 1, none⟩ = some (.int .i64 n))
      (first
        | go_keep
        | (rw [hG4.far hgl hgn]; assumption)
        | (rw [hg3.cell_far _ (by simp; omega) (Ne.symm Hnb.out)]; simp only [World.cell?_drew]; rw [World.cell?_alloc_lt _ _ _ hla]; assumption))
      (first
        | (refine step_append_cap _ (by rfl) _ _ _ (by rfl) W.heap.size 5 i5 (.int .u8 0) 1 1 Tryz.underlying92 hi5 hz0 hz1 hz2 rfl (by decide) (.slice za bs.length zc) bs.length (bytesV bs) (by rfl) Hob.out
            ⟨wa.heap.size, 0, none⟩ 1 1 [.int .u8 88] (by rfl) (by rfl) (World.news_of_block (cs := #[.int .u8 88]) (t := 5) (fr := (0, 0)) (heap_alloc_new wa _)) (by simp [Value.oneCell']) (by decide) hl1 hl2 (by simp; omega) ?_; intro g3 cap3 w3 hown3 hg3 hat3 hlt3)
        | (go_at_call 117; refine (appendInt_any n hx.1 hx.2 W.heap.size (.slice (some ⟨g3, 0, none⟩) (bs.length + 1) cap3) (bs ++ [88]) _ ?_ ?_ ?_).mono ?_; (simpa using hown3); (simp; omega); (have := hg3.size; simp at this; omega); rintro e w4 ⟨g4, c4, rfl, hG4⟩; have hgl : w.heap.size < w3.heap.size := (by have := hg3.size; simp at this; omega); have hgn : (Value.slice (some ⟨g3, 0, none⟩) (bs.length + 1) cap3).ownBlock ≠ some w.heap.size := tx_ne Hvo.out hat3 Hsa.out))
    have HG : Hid (Grew W.heap.size w w4 (.slice za bs.length zc) (bs ++ [88] ++ [dig n]).length g4 c4 (bytesV (bs ++ [88] ++ [dig n]))) := by
      have hA : Grew W.heap.size w w3 (.slice za bs.length zc) (bs.length + 1) g3 cap3 (bytesV bs ++ [.int .u8 88]) :=
        Grew.of ((Hba.out.alloc Hba.out.size _).drew) hown3 hg3 (by rcases hat3 with h | h; exact .inl (by rw [h]; rfl); exact .inr h.1)
      rw [Hid, show (bs ++ [(88 : UInt8)] ++ [dig n]).length = (bs ++ [(88 : UInt8)]).length + 1 by simp]
      exact hA.trans hG4
    have hlen4 : (bs ++ [88] ++ [dig n]).length = bs.length + 1 + 1 := by simp
    clear hG4 hg3 hown3 hat3 hlt3
    go_wp2_with fail
    go_ret
    have e := HT.out.trans Htt.out
    subst e
    exact ⟨g4, c4, by rw [hlen4]; rfl, HG.out⟩

theorem str_of_row {w : World} {base g cap : Nat} {T : List UInt8} (h : w.ownsRow base 5 1 (.slice (some ⟨g, 0, none⟩) T.length cap) T.length (bytesV T)) :
    (convert 92 9 (.slice (some ⟨g, 0, none⟩) T.length cap)).run Tryz.prog w = .ok (str T) w := by
  have h2 := run_convert_bytes_arg (P := Tryz.prog) w 92 5 Tryz.underlying92 Tryz.underlying5 g 0 T.length cap (T.map fun b => (b.toNat : Int)) (by simp) (fun i hi => by
    rw [Nat.zero_add, h.cellAt i (by omega)]
    simp [List.getD_eq_getElem?_getD, hi]) 9 Tryz.underlying9
  rw [h2]
  have e : strOfNums (T.map fun b => (b.toNat : Int)) = ⟨T.toArray⟩ := by
    have : ∀ l : List UInt8, (l.map fun b => (b.toNat : Int)).map (fun n => UInt8.ofNat n.toNat) = l := fun l => by
      rw [List.map_map]
      conv => rhs; rw [← List.map_id l]
      exact List.map_congr_left fun b _ => by simp
    rw [strOfNums, this]
  rw [e]

set_option maxRecDepth 100000 in
set_option maxHeartbeats 400000 in
theorem text_any (x : Bool × Int) (k : Fo) (a : Value) (w : World) (hS : SIn w k a) (hx : 0 ≤ x.2 ∧ x.2 ≤ (if x.1 then 4 else 100)) (ht : Fo.texts k) (hl : (textT x k).length ≤ 100000) :
    Calls Tryz.prog 74 #[.agg #[.bool x.1, .int .i64 x.2, a]] w fun e w' => e = .returned (str (textT x k)) ∧ Below w.heap.size w w' := by
  obtain ⟨v, n⟩ := x
  have HS := hide hS
  have Ht := hide ht
  have Hx := hide hx
  obtain ⟨ad, c, b, o, rfl, -, -, -, -⟩ := hS
  obtain ⟨T, hT⟩ : ∃ T, T = [] ++ textT (v, n) k := ⟨_, rfl⟩
  have HT := hide hT
  have HT2 : Hid (textT (v, n) k = T) := by rw [hT]; rfl
  clear hT ht hx
  rw [HT2.out]
  go_enter Tryz.func74, Tryz.ntmps74
  go_wp2_with fail
  refine (addText_any (v, n) k (w.alloc (.cells #[.bool v, .int .i64 n, .slice ad (Fo.len k) c] 36)) _ _ _ [] T HT.out (HS.out.alloc _) (Below.refl _ _) ⟨rfl, .inl ⟨rfl, rfl⟩⟩ Hx.out Ht.out (by simpa using hl)).mono ?_
  rintro e w1 ⟨g, cap, rfl, hG⟩
  have hcv := str_of_row hG.1
  have hB := below_box (hG.below (Nat.le_refl _) (fun g hg => by simp [Value.ownBlock] at hg))
  clear hG
  go_wp2_with fail
  go_ret
  exact ⟨rfl, hB⟩

end Go.Proofs.YtfckelbdageenabGreatDoor
