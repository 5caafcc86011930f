/- What Read and readArgs answer. -/
import Derived.Test.YtegdfnfengnjlaaDoorReadB
namespace Go.Proofs.YtegdfnfengnjlaaDoor
open Go.RowKit Go.Deep Go.ChangeShapes Go.WideShapes
attribute [local go_sem] byte_zero text_tail

def ReadSaid (s : List Int) (f : Nat) : Prop := ∀ (sv : Value) (l : List UInt8) (w : World), NIn w s sv → s.all okNum = true → l.length < f → l.length ≤ maxLen →
    Calls Tryd.prog 14 #[sv, str l] w fun e w' => ∃ a, e = .returned (.tuple #[trm (readT s f l).2.1.1 a, str (readT s f l).2.2, .int .i64 (readT s f l).1]) ∧ SB (New w w') w' (readT s f l).2.1.2 a ∧ Below w.heap.size w w'
def ArgsSaid (s : List Int) (f : Nat) : Prop := ∀ (sv : Value) (many : Int) (l : List UInt8) (w : World), NIn w s sv → s.all okNum = true → many ≤ 2 → l.length ≤ f → l.length ≤ maxLen →
    Calls Tryd.prog 34 #[sv, .int .i64 many, str l] w fun e w' => ∃ a, e = .returned (.tuple #[a, str (argsT (readT s f) many l).2.2, .int .i64 (argsT (readT s f) many l).1]) ∧ SB (New w w') w' (argsT (readT s f) many l).2.1 a ∧ Below w.heap.size w w'

/-- So far: j arguments are read. -/
def ArgsRel (w : World) (acc : Fo) (v : Value) (wr : World) : Prop :=
  ∃ xs, wr.ownsRow w.heap.size 26 3 v (Fo.len acc) xs ∧ CellsOf (fun q => New w wr q ∧ some q ≠ v.ownBlock) wr acc xs ∧ Below w.heap.size w wr

theorem args_step {w wr w1 w2 w3 : World} {acc : Fo} {v v' : Value} {x : Bool × Int} {k : Fo} {a : Value} {g cap : Nat} {xs : List Value} {ob ob2 : Obj} (h1 : wr.ownsRow w.heap.size 26 3 v (Fo.len acc) xs) (h2 : CellsOf (fun q => New w wr q ∧ some q ≠ v.ownBlock) wr acc xs) (h3 : Below w.heap.size w wr)
    (hb : Below wr.heap.size wr w1) (hk : SB (New wr w1) w1 k a) (hw2 : w2 = (w1.alloc ob).alloc ob2) (hv' : v' = .slice (some ⟨g, 0, none⟩) (Fo.len acc + 1) cap)
    (ho : w3.ownsRow w.heap.size 26 3 v' (Fo.len acc + 1) (xs ++ [.bool x.1, .int .i64 x.2, a])) (hg : w2.grownBy w3 v.ownBlock) (hat : v.ownBlock = some g ∨ g = w2.heap.size) (hlt : g < w3.heap.size) : ArgsRel w (Fo.snoc acc x k) v' w3 := by
  subst hw2
  have hs1 := hb.size
  have hs3 := hg.size
  simp at hs3
  have hs0 := h3.size
  have far : ∀ q i, q < w1.heap.size → some q ≠ v.ownBlock → w3.cell? ⟨q, i, none⟩ = w1.cell? ⟨q, i, none⟩ := fun q i hq hn => by
    rw [hg.cell_far ⟨q, i, none⟩ (by simp; omega) hn, World.cell?_alloc_lt _ _ _ (by simp; omega), World.cell?_alloc_lt _ _ _ hq]
  have hv'g : v'.ownBlock = some g := by rw [hv']; rfl
  refine ⟨_, by rw [snoc_len]; exact ho, ?_, ?_⟩
  · refine CellsOf.snoc ?_ ?_
    · refine hk.frame (fun q hq => ⟨⟨by have := hq.1; omega, by have := hq.2; omega⟩, ?_⟩) (fun q i hq => far q i hq.2 (fun e => ?_))
      · rw [hv'g]
        intro e
        simp at e
        subst e
        rcases hat with e | e
        · have := (owns_at h1 _ e).2; have := hq.1; omega
        · simp at e; have := hq.2; omega
      · have := (owns_at h1 _ e.symm).2; have := hq.1; omega
    · refine CellsOf.frame (fun q hq => ⟨⟨hq.1.1, by have := hq.1.2; omega⟩, ?_⟩) (fun q i hq => ?_) h2
      · rw [far q i (by have := hq.1.2; omega) hq.2]
        exact hb.cell (p := ⟨q, i, none⟩) hq.1.2
      · rw [hv'g]
        intro e
        simp at e
        subst e
        rcases hat with e | e
        · exact hq.2 e.symm
        · simp at e; have := hq.1.2; omega
  · have hb2 : Below w.heap.size w ((w1.alloc ob).alloc ob2) := ((below_step h3 hb).alloc (by omega) _).alloc (by simp; omega) _
    exact hb2.grown hg (by simp; omega) (fun k hk => (owns_at h1 k hk).1)

set_option maxHeartbeats 1000000 in
theorem args_any (s : List Int) (f : Nat) (ih : ReadSaid s f) : ArgsSaid s f := by
  intro sv many l w hN hs hm hlf hlm
  have HI := hide ih
  have HN := hide hN
  obtain ⟨sa, sc, sb, so, rfl, -, -, -, -⟩ := hN
  unfold maxLen at hlm
  by_cases h0 : many ≤ 0
  · have Hf : Hid (argsT (readT s f) many l = (0, .nil, l)) := by rw [Hid, argsT, if_pos h0]
    go_enter Tryd.func34, Tryd.ntmps34
    go_wp2_with fail
    go_ret3
    rw [Hf.out]
    exact ⟨_, rfl, SB.nil _ _, Below.refl _ _⟩
  · obtain ⟨m, rfl⟩ := Int.eq_ofNat_of_zero_le (show 0 ≤ many by omega)
    have Hf : Hid (argsT (readT s f) m l = if (readA (readT s f) m 0 .nil l).1 ≠ 0 then ((readA (readT s f) m 0 .nil l).1, .nil, []) else
      if (sgn 41 (readA (readT s f) m 0 .nil l).2.2).1 ≠ 0 then ((sgn 41 (readA (readT s f) m 0 .nil l).2.2).1, .nil, []) else (0, (readA (readT s f) m 0 .nil l).2.1, (sgn 41 (readA (readT s f) m 0 .nil l).2.2).2)) := by rw [Hid, argsT, if_neg h0]; simp only [Int.toNat_natCast]
    have Hs := hide hs
    clear ih hs
    go_enter Tryd.func34, Tryd.ntmps34
    go_wp2_with fail
    go_loopw [2, 9, 20] (fun tv v i wr => ∃ (j : Nat) (acc : Fo) (t : List UInt8), j ≤ m ∧ i = .int .i64 j ∧ tv = str t ∧ readA (readT s f) m 0 .nil l = readA (readT s f) (m - j) j acc t ∧ Fo.len acc = j ∧ t.length ≤ l.length ∧ ArgsRel w acc v wr) (fun _ _ i _ => m - (intOf i).toNat)
    case atStart => exact ⟨0, .nil, l, Nat.zero_le _, rfl, rfl, rfl, rfl, Nat.le_refl _, [], ⟨rfl, .inl ⟨rfl, rfl⟩⟩, rfl, Below.refl _ _⟩
    case round =>
      obtain ⟨j, acc, t, hj, rfl, rfl, hA, hacc, htl, xs, hR1, hR2, hR3⟩ := hrel
      have HA := hide hA
      have Hacc := hide hacc
      have HR1 := hide hR1
      have HR2 := hide hR2
      clear hA hacc hR2
      obtain ⟨za, zc, rfl⟩ := slice_of_owns hR1
      clear hR1
      by_cases hlt : j < m
      · have hlt' : (j : Int) < (m : Int) := by omega
        have HA2 : Hid (readA (readT s f) m 0 .nil l = if (sgn (signF j) t).1 ≠ 0 then ((sgn (signF j) t).1, .nil, []) else
            if (readT s f (sgn (signF j) t).2).1 ≠ 0 then ((readT s f (sgn (signF j) t).2).1, .nil, []) else
            readA (readT s f) (m - (j + 1)) ((j : Int) + 1) (Fo.snoc acc (readT s f (sgn (signF j) t).2).2.1.1 (readT s f (sgn (signF j) t).2).2.1.2) (readT s f (sgn (signF j) t).2).2.2) := by
          rw [Hid, HA.out, show m - j = (m - (j + 1)) + 1 by omega]; rfl
        go_wp2_with fail
        refine (signAhead_any _ _).mono ?_
        rintro e w' ⟨rfl, hw'⟩
        rw [hw']
        clear hw' w'
        go_wp2_with fail
        refine (readSign_any (signF j) t _ (by unfold maxLen; omega)).mono ?_
        rintro e w' ⟨rfl, hw'⟩
        rw [hw']
        clear hw' w'
        have Hln := hide (sgn_len (signF j) t)
        by_cases he : (sgn (signF j) t).1 = 0
        · rw [if_neg (by simpa using he)] at HA2
          have hln := Hln.out he
          simp only [he]
          generalize (sgn (signF j) t).2 = u at *
          clear he Hln
          go_wp2_with fail
          refine (HI.out _ u _ (HN.out.below hR3) Hs.out (by omega) (by unfold maxLen; omega)).mono ?_
          rintro e w1 ⟨a, rfl, hSB, hb1⟩
          have hrl := readT_le s f u
          by_cases he : (readT s f u).1 = 0
          · rw [if_neg (by simpa using he)] at HA2
            simp only [he]
            generalize readT s f u = q at *
            obtain ⟨q1, ⟨⟨qv, qn⟩, qk⟩, q3⟩ := q
            simp only at he HA2 hSB hrl ⊢
            have HSB := hide hSB
            obtain ⟨qa, qc, qb, qo, rfl, -, -, -, -⟩ := hSB
            obtain ⟨i26, hi26, hz0, hz1, hz2⟩ := info_parts Tryd.info26
            have Hown : Hid (((w1.alloc (.cells #[.bool qv, .int .i64 qn, .slice qa (Fo.len qk) qc] 26)).alloc (.cells #[.bool qv, .int .i64 qn, .slice qa (Fo.len qk) qc] 26)).ownsRow w.heap.size 26 3 (.slice za (Fo.len acc) zc) (Fo.len acc) xs) :=
              owns_keep HR1.out (fun g hg => by
                have h1 := (owns_at HR1.out g hg).2
                have h2 := hb1.size
                rw [Below.heap_alloc _ _ _ (by simp; omega), Below.heap_alloc _ _ _ (by omega), hb1.block g h1])
            have Hnews : Hid (∀ j u, [Value.bool qv, .int .i64 qn, .slice qa (Fo.len qk) qc][j]? = some u → ((w1.alloc (.cells #[.bool qv, .int .i64 qn, .slice qa (Fo.len qk) qc] 26)).alloc (.cells #[.bool qv, .int .i64 qn, .slice qa (Fo.len qk) qc] 26)).cell? ((⟨w1.heap.size + 1, 0, none⟩ : Addr).add j) = some u) := by
              have h := World.news_of_block (cs := #[.bool qv, .int .i64 qn, .slice qa (Fo.len qk) qc]) (heap_alloc_new (w1.alloc (.cells #[.bool qv, .int .i64 qn, .slice qa (Fo.len qk) qc] 26)) (.cells #[.bool qv, .int .i64 qn, .slice qa (Fo.len qk) qc] 26))
              intro j u hu
              have := h j u hu
              simpa using this
            have hn1 : Fo.len acc + 1 ≤ maxLen := by rw [Hacc.out]; unfold maxLen; omega
            have hn2 : (Fo.len acc + 1) * 40 ≤ 140737488355328 := by rw [Hacc.out]; omega
            have hsw : w.heap.size ≤ w1.heap.size := by have := hb1.size; have := hR3.size; omega
            clear he
            go_wp2_with (at_builtin; refine wpList_append_lies _ rfl (.tmp 43) (.tmp 45) 24 rfl w.heap.size 26 i26 (.agg #[.bool false, .int .i64 0, .slice none 0 0]) 3 40 Tryd.underlying24 hi26 hz0 hz1 hz2 rfl (by decide) (.slice za (Fo.len acc) zc) (Fo.len acc) xs rfl Hown.out ⟨w1.heap.size + 1, 0, none⟩ 1 1 [.bool qv, .int .i64 qn, .slice qa (Fo.len qk) qc] rfl rfl Hnews.out (by simp [Value.oneCell']) (by decide) hn1 hn2 (by simp; omega) (w1.heap.size + 2) (by simp) ?_; intro g cap w3 ho3 hg3 hat3 hlt3)
            have Hst := hide (args_step (x := (qv, qn)) (k := qk) HR1.out HR2.out hR3 hb1 HSB.out rfl rfl ho3 hg3 (by rcases hat3 with h | h; exact .inl h; exact .inr (by simp; omega)) hlt3)
            clear ho3 hg3 hat3 hlt3 Hown Hnews hi26 hz0 hz1 hz2
            go_wp2_with fail
            go_roundw
            case rel => exact ⟨j + 1, Fo.snoc acc (qv, qn) qk, q3, by omega, by go_num, rfl, HA2.out, by rw [snoc_len, Hacc.out], by omega, Hst.out⟩
            case measure => simp [intOf]; omega
          · rw [if_pos he] at HA2
            have heb : ((readT s f u).1 != 0) = true := by simpa using he
            have Hf2 : Hid (argsT (readT s f) m l = ((readT s f u).1, .nil, [])) := by rw [Hid, Hf.out, HA2.out, if_pos he]
            obtain ⟨qa, qc, qb, qo, rfl, -, -, -, -⟩ := hSB
            generalize (readT s f u).1 = E at *
            generalize (readT s f u).2.1.1 = X at *
            generalize (readT s f u).2.2 = T at *
            clear he
            go_wp2_with fail
            go_ret3
            rw [Hf2.out]
            exact ⟨_, rfl, SB.nil _ _, (below_step hR3 hb1).alloc (by have := (below_step hR3 hb1).size; omega) _⟩
        · rw [if_pos he] at HA2
          have heb : ((sgn (signF j) t).1 != 0) = true := by simpa using he
          have Hf2 : Hid (argsT (readT s f) m l = ((sgn (signF j) t).1, .nil, [])) := by rw [Hid, Hf.out, HA2.out, if_pos he]
          generalize (sgn (signF j) t).1 = E at *
          generalize (sgn (signF j) t).2 = T at *
          clear he
          go_wp2_with fail
          go_ret3
          rw [Hf2.out]
          exact ⟨_, rfl, SB.nil _ _, hR3⟩
      · have HA2 : Hid (readA (readT s f) m 0 .nil l = (0, acc, t)) := by rw [Hid, HA.out, show m - j = 0 by omega]; rfl
        have HSB : Hid (SB (New w wr) wr acc (.slice za (Fo.len acc) zc)) := row_sb HR1.out HR2.out (fun q hq => hq.1) (fun g hg => owns_at HR1.out g hg)
        have Hln := hide (sgn_len 41 t)
        have e41 : ((41 : UInt8).toNat : Int) = 41 := rfl
        have Hrs := hide (readSign_any 41 t wr (by unfold maxLen; omega))
        rw [e41] at Hrs
        clear e41
        go_wp2_with fail
        refine Hrs.out.mono ?_
        rintro e w' ⟨rfl, hw'⟩
        rw [hw']
        clear hw' w'
        by_cases he : (sgn 41 t).1 = 0
        · have Hf2 : Hid (argsT (readT s f) m l = (0, acc, (sgn 41 t).2)) := by rw [Hid, Hf.out, HA2.out]; simp [he]
          simp only [he]
          generalize (sgn 41 t).2 = u at *
          clear he
          go_wp2_with fail
          go_ret3
          rw [Hf2.out]
          exact ⟨_, rfl, HSB.out, hR3⟩
        · have Hf2 : Hid (argsT (readT s f) m l = ((sgn 41 t).1, .nil, [])) := by rw [Hid, Hf.out, HA2.out]; simp [he]
          have heb : ((sgn 41 t).1 != 0) = true := by simpa using he
          generalize (sgn 41 t).1 = E at *
          generalize (sgn 41 t).2 = T at *
          clear he
          go_wp2_with fail
          go_ret3
          rw [Hf2.out]
          exact ⟨_, rfl, SB.nil _ _, hR3⟩

theorem sig_at {s : List Int} (h : s.all okNum = true) {i : Nat} (hi : i < s.length) : 0 ≤ s.getD i 0 ∧ s.getD i 0 ≤ 2 := by
  have := List.all_eq_true.1 h s[i] (List.getElem_mem hi)
  simp only [okNum, decide_eq_true_eq] at this
  simpa [List.getD_eq_getElem?_getD, hi] using this

theorem run_tail (c : UInt8) (r : List UInt8) (w : World) : (Instr.slice 9 (.string ⟨(c :: r).toArray⟩) (some (.int .i64 1)) none none).run Tryd.prog w = .ok (.string ⟨r.toArray⟩) w := by
  rw [run_slice_string_l (ht := Tryd.underlying9) (kl := .i64) (l := 1) (h0 := by decide) (h1 := by simp [ByteArray.size]; omega)]
  have := text_tail c r
  simp only [Int.toNat_one]
  rw [show (⟨(c :: r).toArray⟩ : ByteArray).size = r.length + 1 from by simp [ByteArray.size], this]

/-- A block of three cells that was laid first: it is there, and may be written. -/
theorem box_full {w w1 : World} {x y z : Value} {T : TypeId} (h : Below (w.alloc (.cells #[x, y, z] T)).heap.size (w.alloc (.cells #[x, y, z] T)) w1) :
    w1.cell? ⟨w.heap.size, 0, none⟩ = some x ∧ w1.cell? ⟨w.heap.size, 1, none⟩ = some y ∧ w1.cell? ⟨w.heap.size, 2, none⟩ = some z ∧ (∀ i, w1.frozen? ⟨w.heap.size, i, none⟩ = false) ∧ Below w.heap.size w w1 ∧ w.heap.size < w1.heap.size := by
  have h' : Below (w.heap.size + 1) (w.alloc (.cells #[x, y, z] T)) w1 := by simpa using h
  obtain ⟨a, b, c, d, e⟩ := box_cells h'
  exact ⟨a, b, c, fun i => by rw [h'.frozen (by simp)]; simp, d, e⟩

/-- What is written into a block that is none of X's leaves terms as they are. -/
theorem SB.set3 {X : Nat → Prop} {w : World} {k : Fo} {v : Value} {b o : Nat} {x y z : Value} (h : SB X w k v) (hb : ¬ X b) : SB X (set3 w b o x y z) k v :=
  h.frame (fun _ h => h) (fun _ _ hq => set3_other (.inl (fun e => hb (e ▸ hq))))

set_option maxHeartbeats 1000000 in
theorem read_any (s : List Int) : ∀ f, ReadSaid s f := by
  intro f
  induction f with
  | zero => intro sv l w _ _ h; omega
  | succ f ih =>
    intro sv l w hN hs hlf hlm
    have HA := hide (args_any s f ih)
    have HN := hide hN
    have Hs := hide hs
    obtain ⟨sa, sc, sb, so, rfl, hsa, -, -, hsF⟩ := hN
    have HsF := hide hsF
    unfold maxLen at hlm
    clear ih hs hsF
    cases l with
    | nil =>
      have Hf : Hid (readT s (f + 1) [] = (8, ((false, 0), .nil), [])) := rfl
      go_enter Tryd.func14, Tryd.ntmps14
      go_wp2_with fail
      rw [Hf.out]
      exact bodyPost_ret (v := .tuple #[.agg #[.bool false, .int .i64 0, .slice none 0 0], .string ⟨#[]⟩, .int .i64 8]) (by simp [results, Tryd.results14, go_sem]) rfl ⟨_, rfl, SB.nil _ _, below_alloc _ _⟩
    | cons c r =>
      simp only [List.length_cons] at hlf hlm
      have hc : (c.toNat : Int) < 256 := by have := c.toNat_lt; omega
      by_cases h88 : c = 88
      · have Hf : Hid (readT s (f + 1) (c :: r) = ((rvar r).1, ((rvar r).2.1, .nil), (rvar r).2.2)) := by rw [Hid, readT, if_pos h88]
        have hcb : ((c.toNat : Int) == 88) = true := by rw [h88]; rfl
        clear h88
        go_enter Tryd.func14, Tryd.ntmps14
        go_wp2_with fail
        refine (readVar_any r _ (by unfold maxLen; omega)).mono ?_
        rintro e w1 ⟨rfl, hb1⟩
        obtain ⟨b0, b1, b2, bf, hB, hsz⟩ := box_full hb1
        generalize rvar r = q at *
        obtain ⟨q1, ⟨qv, qn⟩, q3⟩ := q
        simp only at Hf ⊢
        clear hb1
        go_wp2_with fail
        rw [Hf.out]
        exact bodyPost_ret (v := .tuple #[.agg #[.bool qv, .int .i64 qn, .slice none 0 0], .string ⟨q3.toArray⟩, .int .i64 q1]) (by simp [results, Tryd.results14, go_sem, b0, b1, b2]) rfl ⟨_, rfl, SB.nil _ _, set3_below (o := 0) hB (Nat.le_refl _)⟩
      · have hcb : ((c.toNat : Int) == 88) = false := by
          rw [beq_eq_false_iff_ne]
          intro e
          exact h88 (UInt8.toNat_inj.1 (by have : c.toNat = 88 := by omega
                                           rw [this]; rfl))
        have Ht : Hid (readT s (f + 1) (c :: r) = if (c.toNat : Int) - 97 < 0 ∨ (s.length : Int) ≤ (c.toNat : Int) - 97 then (7, ((false, 0), .nil), []) else
            if (argsT (readT s f) (s.getD ((c.toNat : Int) - 97).toNat 0) r).1 ≠ 0 then ((argsT (readT s f) (s.getD ((c.toNat : Int) - 97).toNat 0) r).1, ((false, 0), .nil), []) else
            (0, ((false, (c.toNat : Int) - 97), (argsT (readT s f) (s.getD ((c.toNat : Int) - 97).toNat 0) r).2.1), (argsT (readT s f) (s.getD ((c.toNat : Int) - 97).toNat 0) r).2.2)) := by rw [Hid, readT, if_neg h88]
        by_cases h0 : (c.toNat : Int) - 97 < 0
        · have Hf : Hid (readT s (f + 1) (c :: r) = (7, ((false, 0), .nil), [])) := by rw [Hid, Ht.out, if_pos (.inl h0)]
          go_enter Tryd.func14, Tryd.ntmps14
          go_wp2_with fail
          rw [Hf.out]
          exact bodyPost_ret (v := .tuple #[.agg #[.bool false, .int .i64 0, .slice none 0 0], .string ⟨#[]⟩, .int .i64 7]) (by simp [results, Tryd.results14, go_sem]) rfl ⟨_, rfl, SB.nil _ _, below_alloc _ _⟩
        by_cases h1 : (s.length : Int) ≤ (c.toNat : Int) - 97
        · have Hf : Hid (readT s (f + 1) (c :: r) = (7, ((false, 0), .nil), [])) := by rw [Hid, Ht.out, if_pos (.inr h1)]
          go_enter Tryd.func14, Tryd.ntmps14
          go_wp2_with fail
          rw [Hf.out]
          exact bodyPost_ret (v := .tuple #[.agg #[.bool false, .int .i64 0, .slice none 0 0], .string ⟨#[]⟩, .int .i64 7]) (by simp [results, Tryd.results14, go_sem]) rfl ⟨_, rfl, SB.nil _ _, below_alloc _ _⟩
        rw [if_neg (by omega)] at Ht
        have h0' : 0 ≤ (c.toNat : Int) - 97 := by omega
        have h1' : (c.toNat : Int) - 97 < (s.length : Int) := by omega
        have hsa' : sa = some ⟨sb, so, none⟩ := hsa (by omega)
        subst hsa'
        have hcell := HsF.out ((c.toNat : Int) - 97).toNat (by omega)
        have Hm := hide (sig_at Hs.out (i := ((c.toNat : Int) - 97).toNat) (by omega))
        have hsb : sb < w.heap.size := World.block_lt_of_cell? _ _ hcell
        have hcell1 := grow_cell (below_alloc w (.cells #[.bool false, .int .i64 0, .slice none 0 0] 26)) _ _ hcell
        generalize s.getD ((c.toNat : Int) - 97).toNat 0 = mm at *
        clear hsa hcell
        go_enter Tryd.func14, Tryd.ntmps14
        go_wp2_with fail
        generalize (c.toNat : Int) - 97 = nn at *
        have hsl := run_tail c r
        go_region_held3 (fun w' => w'.cell? ⟨sb, so + nn.toNat, none⟩ = some (.int .i64 mm)) (first | go_keep | (rw [hb1.cell (by show sb < _; simp; omega)]; assumption))
          (first | (go_at_call 34; refine (HA.out _ mm r _ ?_ Hs.out Hm.out.2 ?_ ?_).mono ?_; (exact HN.out.below (below_alloc _ _).drew); (omega); (unfold maxLen; omega); rintro e w1 ⟨a, rfl, hSB, hb1⟩))
        have hb1' : Below (w.alloc (.cells #[.bool false, .int .i64 0, .slice none 0 0] 26)).heap.size (w.alloc (.cells #[.bool false, .int .i64 0, .slice none 0 0] 26)) w1 := ((Below.refl _ _).drew).trans hb1
        obtain ⟨b0, b1, b2, bf, hB, hsz⟩ := box_full hb1'
        have HSB : Hid (SB (fun q => w.heap.size + 1 ≤ q ∧ q < w1.heap.size) w1 (argsT (readT s f) mm r).2.1 a) := hSB.frame (fun q hq => by have h1 := hq.1; simp at h1; exact ⟨h1, hq.2⟩) (fun _ _ _ => rfl)
        have hza : ∃ z1 z2 z3, a = .slice z1 z2 z3 := by
          obtain ⟨_, _, _, _, rfl, _⟩ := hSB
          exact ⟨_, _, _, rfl⟩
        obtain ⟨z1, z2, z3, rfl⟩ := hza
        generalize argsT (readT s f) mm r = q at *
        obtain ⟨q1, q2, q3⟩ := q
        simp only at Ht HSB ⊢
        clear hb1 hb1' hSB hsl
        by_cases he : q1 = 0
        · have Hf : Hid (readT s (f + 1) (c :: r) = (0, ((false, nn), q2), q3)) := by rw [Hid, Ht.out, if_neg (by simpa using he)]
          subst he
          go_wp2_with fail
          rw [Hf.out]
          refine bodyPost_ret (v := .tuple #[.agg #[.bool false, .int .i64 nn, .slice z1 z2 z3], .string ⟨q3.toArray⟩, .int .i64 0]) (by simp [results, Tryd.results14, go_sem, b0, b1, b2]) rfl ⟨_, rfl, ?_, set3_below (o := 0) hB (Nat.le_refl _)⟩
          exact (HSB.out.set3 (b := w.heap.size) (o := 0) (by omega)).frame (fun q hq => ⟨by omega, by have := hq.2; simp [World.setCell]; exact this⟩) (fun _ _ _ => rfl)
        · have Hf : Hid (readT s (f + 1) (c :: r) = (q1, ((false, 0), .nil), [])) := by rw [Hid, Ht.out, if_pos he]
          have heb : (q1 != 0) = true := by simpa using he
          clear he
          go_wp2_with fail
          rw [Hf.out]
          exact bodyPost_ret (v := .tuple #[.agg #[.bool false, .int .i64 0, .slice none 0 0], .string ⟨#[]⟩, .int .i64 q1]) (by simp [results, Tryd.results14, go_sem, b0, b1, b2]) rfl ⟨_, rfl, SB.nil _ _, set3_below (o := 0) hB (Nat.le_refl _)⟩

end Go.Proofs.YtegdfnfengnjlaaDoor
