/- The document's Each: each term of a clause, by whatever stands for a term. -/
import Derived.Test.YtfnkjadfepoicacG23
import Derived.Test.YtfnkjadfepoicacG13
import Derived.Test.YtfnkjadfepoicacG27
import Derived.Deep.RegionHeld3
import Derived.Test.YtfnkjadfepoicacG22
import Derived.Test.YtfnkjadfepoicacG08
import Derived.Test.YtfnkjadfepoicacG26
namespace Go.Proofs.Ytfnkjadfepoicac
open Go.RowKit Go.Deep Go.ChangeShapes Go.WideShapes

/-- A closure answers g of a term, wherever G says so, in whatever has come of W0. -/
def CloSaid (f bb : Nat) (g : Tm → Tm) (G : Tm → Prop) (W0 : World) : Prop := ∀ (x : Bool × Int) (k : Fo) (a : Value) (w : World), Below W0.heap.size W0 w → SIn W0 k a → G (x, k) →
    Calls Try.prog f #[.agg #[.bool x.1, .int .i64 x.2, a], .pointer (some ⟨bb, 0, none⟩)] w fun e w' => ∃ (a1 : Option Addr) (a2 a3 : Nat), e = .returned (.agg #[.bool (g (x, k)).1.1, .int .i64 (g (x, k)).1.2, .slice a1 a2 a3]) ∧
      SB (fun q => q < W0.heap.size ∨ (w.heap.size ≤ q ∧ q < w'.heap.size)) w' (g (x, k)).2 (.slice a1 a2 a3) ∧ Below w.heap.size w w'

theorem grown_cell {w w' : World} {o : Option Nat} {q i : Nat} {v : Value} (hg : w.grownBy w' o) (hn : some q ≠ o) (h : w.cell? ⟨q, i, none⟩ = some v) : w'.cell? ⟨q, i, none⟩ = some v := by
  rw [World.cell?_of_block (hg.block q (World.block_lt_of_cell? _ _ h) hn)]
  exact h

theorem ret_boxB {w w3 : World} {z1 : Option Addr} {z2 z3 : Nat} {tv : Bool} {tn : Int} {tk : Fo} {L lo g : Nat} (hO : SB (fun q => q < L ∨ (lo ≤ q ∧ q < w3.heap.size)) w3 tk (.slice z1 z2 z3)) (hL : L ≤ g) (hg : g < lo) (hlo : w.heap.size ≤ lo) :
    SB (fun q => q < L ∨ (w.heap.size ≤ q ∧ q < (set3 w3 g 0 (.bool tv) (.int .i64 tn) (.slice z1 z2 z3)).heap.size)) (set3 w3 g 0 (.bool tv) (.int .i64 tn) (.slice z1 z2 z3)) tk (.slice z1 z2 z3) := by
  refine hO.frame (fun q hq => ?_) (fun q i hq => set3_other (.inl (by omega)))
  rw [set3_size]
  omega

/-- One literal more: what it holds was there at the call, or was made since. -/
theorem ownL_more3 {lo : Nat} {wr w3 w4 : World} {s : Cl} {v v4 : Value} {xs : List Value} {l : Lt} {a d : Value} (h : OwnL lo (XO wr v) wr s v xs) (hb : Below wr.heap.size wr w3) (hlo : lo ≤ wr.heap.size)
    (hA : SB (fun q => q < lo ∨ (wr.heap.size ≤ q ∧ q < w3.heap.size)) w3 l.2.1.2 a) (hD : SB (fun q => q < lo ∨ (wr.heap.size ≤ q ∧ q < w3.heap.size)) w3 l.2.2.2 d)
    (ho : w4.ownsRow lo 37 7 v4 (s.length + 1) (xs ++ litV l a d)) (hg : w3.grownBy w4 v.ownBlock) (hat : v4.ownBlock = v.ownBlock ∨ v4.ownBlock = some w3.heap.size) :
    OwnL lo (XO w4 v4) w4 (s ++ [l]) v4 (xs ++ litV l a d) ∧ Below lo wr w4 := by
  have hs := hb.size
  have hs4 := hg.size
  have hv : ∀ q, v.ownBlock = some q → lo ≤ q ∧ q < wr.heap.size := fun q hq => owns_at h.row q hq
  have noq : ∀ q, q < w3.heap.size → some q ≠ v.ownBlock → q < w4.heap.size ∧ some q ≠ v4.ownBlock := fun q hq hn => by
    refine ⟨by omega, fun e => ?_⟩
    rcases hat with e' | e'
    · exact hn (e.trans e')
    · rw [e'] at e; simp at e; omega
  have ok : ∀ q, (q < lo ∨ (wr.heap.size ≤ q ∧ q < w3.heap.size)) → q < w3.heap.size ∧ some q ≠ v.ownBlock := fun q hq => by
    refine ⟨by omega, fun e => ?_⟩
    have := hv q e.symm
    omega
  refine ⟨⟨by simpa using ho, ?_, fun q hq => hq⟩, ⟨hg.os.trans hb.os, hg.tape.trans hb.tape, hg.output.trans hb.output, by omega, fun q hq => ?_⟩⟩
  · refine LC.append (LC.one ?_ ?_) ?_
    · exact hA.frame (fun q hq => noq q (ok q hq).1 (ok q hq).2) (fun q i hq => World.cell?_of_block (hg.block q (ok q hq).1 (ok q hq).2))
    · exact hD.frame (fun q hq => noq q (ok q hq).1 (ok q hq).2) (fun q i hq => World.cell?_of_block (hg.block q (ok q hq).1 (ok q hq).2))
    · refine h.cells.frame (fun q hq => noq q (by have := hq.1; omega) hq.2) (fun q i hq => World.cell?_of_block ?_)
      rw [hg.block q (by have := hq.1; omega) hq.2, hb.block q hq.1]
  · have hn : some q ≠ v.ownBlock := fun e => by have := hv q e.symm; omega
    rw [hg.block q (by omega) hn, hb.block q (by omega)]

set_option maxRecDepth 100000 in
set_option maxHeartbeats 4000000 in
theorem eachDN_any (bb : Nat) (g : Tm → Tm) (G : Tm → Prop) (k : Cl) (a : Value) (w : World) (hcl : CloSaid 71 bb g G w) (hS : CIn w k a) (hG : ∀ l ∈ k, G l.2.1 ∧ G l.2.2) (hlen : k.length ≤ 1000000) :
    Calls Try.prog 19 #[a, .func (.func 71) #[] #[.pointer (some ⟨bb, 0, none⟩)]] w fun e w' => ∃ v xs, e = .returned v ∧ OwnL w.heap.size (XO w' v) w' (k.map (mapL g)) v xs ∧ Below w.heap.size w w' := by
  obtain ⟨a1, c1, b1, oo, rfl, had1, hlc1, hcm1, hF1⟩ := hS
  unfold maxLen at hcm1
  have HF1 := hide hF1
  have HG := hide hG
  have Hcl := hide hcl
  clear hF1 hG hcl
  obtain ⟨iL, hi, hz0, hz1, hz2⟩ := info_parts Try.info37
  go_enter Try.func19, Try.ntmps19
  go_wp2_with fail
  go_loopw [5, 10] (fun v i wr => ∃ (j : Nat) (o1 : Option Addr) (o3 : Nat) (xs : List Value), j ≤ k.length ∧ i = .int .i64 j ∧ v = .slice o1 j o3 ∧ OwnL w.heap.size (XO wr v) wr ((k.map (mapL g)).take j) v xs ∧ Below w.heap.size w wr) (fun _ i _ => k.length - (intOf i).toNat)
  case atStart => exact ⟨0, none, 0, [], Nat.zero_le _, rfl, rfl, ownL_nil _ _, Below.refl _ _⟩
  case round =>
    obtain ⟨j, o1, o3, xs, hj, rfl, rfl, hO, hBr⟩ := hrel
    have HO := hide hO
    clear hO
    have hsr := hBr.size
    by_cases hlt : j < k.length
    · have hlt' : (j : Int) < (k.length : Int) := by omega
      obtain ⟨⟨yn, ⟨⟨yv, yi⟩, yk⟩, ⟨yv', yi'⟩, yk'⟩, hy⟩ : ∃ y, k[j]? = some y := ⟨k[j]'hlt, by simp⟩
      obtain ⟨-, -, -, ⟨u3', p3', hA0⟩, -, -, u6', p6', hD0⟩ := HF1.out.at hy
      obtain ⟨p0, p1, p2, ⟨u3, p3, hA⟩, p4, p5, u6, p6, hD⟩ := (HF1.out.below hBr).at hy
      have e3 : u3' = u3 := by have := grow_cell hBr _ _ p3'; rw [p3] at this; exact (Option.some.inj this).symm
      have e6 : u6' = u6 := by have := grow_cell hBr _ _ p6'; rw [p6] at this; exact (Option.some.inj this).symm
      subst e3 e6
      have ha1 : a1 = some ⟨b1, oo, none⟩ := had1 (by omega)
      subst ha1
      have HA0 := hide hA0
      have HD0 := hide hD0
      obtain ⟨ya, yc, _, _, rfl, -, -, -, -⟩ := hA
      obtain ⟨za, zc, _, _, rfl, -, -, -, -⟩ := hD
      have HGy := hide (HG.out _ (List.mem_of_getElem? hy))
      obtain ⟨⟨⟨tv, ti⟩, tk⟩, ht⟩ : ∃ t, t = g ((yv, yi), yk) := ⟨_, rfl⟩
      obtain ⟨⟨⟨tv', ti'⟩, tk'⟩, ht'⟩ : ∃ t, t = g ((yv', yi'), yk') := ⟨_, rfl⟩
      have Hy2 : Hid ((k.map (mapL g)).take (j + 1) = (k.map (mapL g)).take j ++ [(yn, ((tv, ti), tk), ((tv', ti'), tk'))]) := by
        rw [Hid, List.take_add_one, List.getElem?_map, hy, ht, ht']; rfl
      have Hl : Hid (((k.map (mapL g)).take j).length = j) := by rw [Hid, List.length_take, List.length_map]; omega
      have Ht := hide ht
      have Ht' := hide ht'
      have hn1 : j + 1 ≤ maxLen := by unfold maxLen; omega
      have hn2 : (j + 1) * 88 ≤ 140737488355328 := by omega
      have Hrow : Hid (wr.ownsRow w.heap.size 37 7 (.slice o1 j o3) j xs) := by
        have := HO.out.row
        rw [Hl.out] at this
        exact this
      have hnq : some wr.heap.size ≠ (Value.slice o1 j o3).ownBlock := fun e => by
        have := (owns_at Hrow.out _ e.symm).2
        omega
      clear hy had1 p3' p6' hA0 hD0 ht ht'
      simp only at *
      go_upto_region 5 with fail
      generalize hwa : wr.alloc (.cells #[.bool yn, .bool yv, .int .i64 yi, .slice ya (Fo.len yk) yc, .bool yv', .int .i64 yi', .slice za (Fo.len yk') zc] 37) = wa
      obtain ⟨g0, g1, g2, g3, g4, g5, g6, -, hba, hsa⟩ := lit_cells (T := 37) (x0 := .bool yn) (w := wr) (wr := wa) (x1 := .bool yv) (x2 := .int .i64 yi) (x3 := .slice ya (Fo.len yk) yc) (x4 := .bool yv') (x5 := .int .i64 yi') (x6 := .slice za (Fo.len yk') zc) (by rw [← hwa]; exact Below.refl _ _)
      clear hwa
      have hcur : Below wa.heap.size wa wa.drew := (Below.refl _ _).drew
      have hcall1 : ∀ w' : World, Below wa.heap.size wa w' → Calls Try.prog 71 #[.agg #[.bool yv, .int .i64 yi, .slice ya (Fo.len yk) yc], .pointer (some ⟨bb, 0, none⟩)] w' fun e w'' => ∃ (z1 : Option Addr) (z2 z3 : Nat), e = .returned (.agg #[.bool tv, .int .i64 ti, .slice z1 z2 z3]) ∧ SB (fun q => q < w.heap.size ∨ (w'.heap.size ≤ q ∧ q < w''.heap.size)) w'' tk (.slice z1 z2 z3) ∧ Below w'.heap.size w' w'' := fun w' hb => by
        refine (Hcl.out (yv, yi) yk _ w' (below_step (below_step hBr hba) hb) HA0.out HGy.out.1).mono ?_
        rintro e w2 ⟨z1, z2, z3, rfl, hO, hb⟩
        rw [← Ht.out] at hO
        exact ⟨z1, z2, z3, by rw [← Ht.out], hO, hb⟩
      have hcall2 : ∀ w' : World, Below wa.heap.size wa w' → Calls Try.prog 71 #[.agg #[.bool yv', .int .i64 yi', .slice za (Fo.len yk') zc], .pointer (some ⟨bb, 0, none⟩)] w' fun e w'' => ∃ (z1 : Option Addr) (z2 z3 : Nat), e = .returned (.agg #[.bool tv', .int .i64 ti', .slice z1 z2 z3]) ∧ SB (fun q => q < w.heap.size ∨ (w'.heap.size ≤ q ∧ q < w''.heap.size)) w'' tk' (.slice z1 z2 z3) ∧ Below w'.heap.size w' w'' := fun w' hb => by
        refine (Hcl.out (yv', yi') yk' _ w' (below_step (below_step hBr hba) hb) HD0.out HGy.out.2).mono ?_
        rintro e w2 ⟨z1, z2, z3, rfl, hO, hb⟩
        rw [← Ht'.out] at hO
        exact ⟨z1, z2, z3, by rw [← Ht'.out], hO, hb⟩
      have Hc1 := hide hcall1
      have Hc2 := hide hcall2
      clear hcall1 hcall2 p0 p1 p2 p3 p4 p5 p6
      go_region_held3 (fun w' => w'.cell? ⟨wr.heap.size, 0, none⟩ = some (.bool yn) ∧ w'.cell? ⟨wr.heap.size, 1, none⟩ = some (.bool yv) ∧ w'.cell? ⟨wr.heap.size, 2, none⟩ = some (.int .i64 yi) ∧ w'.cell? ⟨wr.heap.size, 3, none⟩ = some (.slice ya (Fo.len yk) yc) ∧ w'.cell? ⟨wr.heap.size, 4, none⟩ = some (.bool yv') ∧ w'.cell? ⟨wr.heap.size, 5, none⟩ = some (.int .i64 yi') ∧ w'.cell? ⟨wr.heap.size, 6, none⟩ = some (.slice za (Fo.len yk') zc))
        (first
          | (with_reducible exact ⟨grow_cell hcur _ _ g0, grow_cell hcur _ _ g1, grow_cell hcur _ _ g2, grow_cell hcur _ _ g3, grow_cell hcur _ _ g4, grow_cell hcur _ _ g5, grow_cell hcur _ _ g6⟩)
          | (with_reducible exact ⟨grow_cell (below_step hcur (below_alloc _ _)) _ _ g0, grow_cell (below_step hcur (below_alloc _ _)) _ _ g1, grow_cell (below_step hcur (below_alloc _ _)) _ _ g2, grow_cell (below_step hcur (below_alloc _ _)) _ _ g3, grow_cell (below_step hcur (below_alloc _ _)) _ _ g4, grow_cell (below_step hcur (below_alloc _ _)) _ _ g5, grow_cell (below_step hcur (below_alloc _ _)) _ _ g6⟩)
          | (with_reducible exact ⟨grown_cell HG4.out.2.1 hnq (grow_cell (below_step hcur (below_alloc _ _)) _ _ g0), grown_cell HG4.out.2.1 hnq (grow_cell (below_step hcur (below_alloc _ _)) _ _ g1), grown_cell HG4.out.2.1 hnq (grow_cell (below_step hcur (below_alloc _ _)) _ _ g2), grown_cell HG4.out.2.1 hnq (grow_cell (below_step hcur (below_alloc _ _)) _ _ g3), grown_cell HG4.out.2.1 hnq (grow_cell (below_step hcur (below_alloc _ _)) _ _ g4), grown_cell HG4.out.2.1 hnq (grow_cell (below_step hcur (below_alloc _ _)) _ _ g5), grown_cell HG4.out.2.1 hnq (grow_cell (below_step hcur (below_alloc _ _)) _ _ g6)⟩)
          | go_keep)
        (first
          | (go_at_call 71; with_reducible refine (Hc1.out _ hcur).mono ?_; rintro e wS ⟨z1, z2, z3, rfl, hO1, hbS⟩; have hcur0 := hcur; replace hcur := below_step hcur hbS; have HO1 := hide (And.intro hO1 hbS); clear hO1)
          | (go_at_call 71; with_reducible refine (Hc2.out _ hcur).mono ?_; rintro e wU ⟨y1, y2, y3, rfl, hO2, hbU⟩; have hcurS := hcur; replace hcur := below_step hcur hbU; have HO2 := hide (And.intro hO2 hbU); clear hO2)
          | (refine step_append_gen rfl (.tmp 14) (.tmp 26) 28 rfl w.heap.size 37 iL (.agg #[.bool false, .bool false, .int .i64 0, .slice none 0 0, .bool false, .int .i64 0, .slice none 0 0]) 7 88 Try.underlying28 hi hz0 hz1 hz2 rfl (by decide) (.slice o1 j o3) j xs rfl (owns_keep Hrow.out (fun g hg => (below_step (below_step hba hcur) (below_alloc _ _)).block g (owns_at Hrow.out g hg).2)) _ 1 (litV (yn, ((tv, ti), tk), ((tv', ti'), tk')) (.slice z1 z2 z3) (.slice y1 y2 y3)) rfl cs_lit hn1 hn2 (Nat.le_trans hsr (below_step (below_step hba hcur) (below_alloc _ _)).size) ?_; intro v4 w4 ho4 hg4 hat4; have HG4 := hide (And.intro ho4 (And.intro hg4 hat4)); clear ho4 hg4 hat4))
      all_goals
        have s0 := hcur0.size
        have s1 := hba.size
        have s2 := hcurS.size
        have s3 := HO1.out.2.size
        have s4 := HO2.out.2.size
        have Hstep : Hid (OwnL w.heap.size (XO w4 v4) w4 ((k.map (mapL g)).take (j + 1)) v4 (xs ++ litV (yn, ((tv, ti), tk), ((tv', ti'), tk')) (.slice z1 z2 z3) (.slice y1 y2 y3)) ∧ Below w.heap.size wr w4) := by
          rw [Hy2.out]
          refine ownL_more3 (l := (yn, ((tv, ti), tk), ((tv', ti'), tk'))) HO.out (below_step (below_step hba hcur) (below_alloc _ _)) hsr ?_ ?_ (by rw [Hl.out]; exact HG4.out.1) HG4.out.2.1 HG4.out.2.2
          · refine HO1.out.1.frame (fun q hq => ?_) (fun q i hq => (below_step HO2.out.2 (below_alloc _ _)).cell ?_)
            · simp only [World.size_alloc]
              omega
            · show q < _
              omega
          · refine HO2.out.1.frame (fun q hq => ?_) (fun q i hq => (below_alloc _ _).cell ?_)
            · simp only [World.size_alloc]
              omega
            · show q < _
              omega
        obtain ⟨r1, r3, hv4⟩ := slice_of_cl Hstep.out.1.cl
        have hl1 : ((k.map (mapL g)).take (j + 1)).length = j + 1 := by rw [Hy2.out, List.length_append, Hl.out]; rfl
        rw [hl1] at hv4
        subst hv4
        clear hl1
        go_wp2_with fail
        go_roundw
        case rel => exact ⟨j + 1, r1, r3, _, by omega, by go_num, rfl, Hstep.out.1, hBr.trans Hstep.out.2⟩
        case measure => simp [intOf]; omega
    · have hje : j = k.length := by omega
      subst hje
      have Hfin : Hid (OwnL w.heap.size (XO wr (.slice o1 k.length o3)) wr (k.map (mapL g)) (.slice o1 k.length o3) xs) := by
        have := HO.out
        rw [List.take_of_length_le (by simp)] at this
        exact this
      clear HO
      go_wp2_with fail
      go_ret
      exact ⟨_, _, rfl, Hfin.out, hBr⟩

set_option maxRecDepth 100000 in
set_option maxHeartbeats 4000000 in
theorem eachDL_any (bb : Nat) (g : Tm → Tm) (G : Tm → Prop) (k : Cl) (a : Value) (w : World) (hcl : CloSaid 62 bb g G w) (hS : CIn w k a) (hG : ∀ l ∈ k, G l.2.1 ∧ G l.2.2) (hlen : k.length ≤ 1000000) :
    Calls Try.prog 19 #[a, .func (.func 62) #[] #[.pointer (some ⟨bb, 0, none⟩)]] w fun e w' => ∃ v xs, e = .returned v ∧ OwnL w.heap.size (XO w' v) w' (k.map (mapL g)) v xs ∧ Below w.heap.size w w' := by
  obtain ⟨a1, c1, b1, oo, rfl, had1, hlc1, hcm1, hF1⟩ := hS
  unfold maxLen at hcm1
  have HF1 := hide hF1
  have HG := hide hG
  have Hcl := hide hcl
  clear hF1 hG hcl
  obtain ⟨iL, hi, hz0, hz1, hz2⟩ := info_parts Try.info37
  go_enter Try.func19, Try.ntmps19
  go_wp2_with fail
  go_loopw [5, 10] (fun v i wr => ∃ (j : Nat) (o1 : Option Addr) (o3 : Nat) (xs : List Value), j ≤ k.length ∧ i = .int .i64 j ∧ v = .slice o1 j o3 ∧ OwnL w.heap.size (XO wr v) wr ((k.map (mapL g)).take j) v xs ∧ Below w.heap.size w wr) (fun _ i _ => k.length - (intOf i).toNat)
  case atStart => exact ⟨0, none, 0, [], Nat.zero_le _, rfl, rfl, ownL_nil _ _, Below.refl _ _⟩
  case round =>
    obtain ⟨j, o1, o3, xs, hj, rfl, rfl, hO, hBr⟩ := hrel
    have HO := hide hO
    clear hO
    have hsr := hBr.size
    by_cases hlt : j < k.length
    · have hlt' : (j : Int) < (k.length : Int) := by omega
      obtain ⟨⟨yn, ⟨⟨yv, yi⟩, yk⟩, ⟨yv', yi'⟩, yk'⟩, hy⟩ : ∃ y, k[j]? = some y := ⟨k[j]'hlt, by simp⟩
      obtain ⟨-, -, -, ⟨u3', p3', hA0⟩, -, -, u6', p6', hD0⟩ := HF1.out.at hy
      obtain ⟨p0, p1, p2, ⟨u3, p3, hA⟩, p4, p5, u6, p6, hD⟩ := (HF1.out.below hBr).at hy
      have e3 : u3' = u3 := by have := grow_cell hBr _ _ p3'; rw [p3] at this; exact (Option.some.inj this).symm
      have e6 : u6' = u6 := by have := grow_cell hBr _ _ p6'; rw [p6] at this; exact (Option.some.inj this).symm
      subst e3 e6
      have ha1 : a1 = some ⟨b1, oo, none⟩ := had1 (by omega)
      subst ha1
      have HA0 := hide hA0
      have HD0 := hide hD0
      obtain ⟨ya, yc, _, _, rfl, -, -, -, -⟩ := hA
      obtain ⟨za, zc, _, _, rfl, -, -, -, -⟩ := hD
      have HGy := hide (HG.out _ (List.mem_of_getElem? hy))
      obtain ⟨⟨⟨tv, ti⟩, tk⟩, ht⟩ : ∃ t, t = g ((yv, yi), yk) := ⟨_, rfl⟩
      obtain ⟨⟨⟨tv', ti'⟩, tk'⟩, ht'⟩ : ∃ t, t = g ((yv', yi'), yk') := ⟨_, rfl⟩
      have Hy2 : Hid ((k.map (mapL g)).take (j + 1) = (k.map (mapL g)).take j ++ [(yn, ((tv, ti), tk), ((tv', ti'), tk'))]) := by
        rw [Hid, List.take_add_one, List.getElem?_map, hy, ht, ht']; rfl
      have Hl : Hid (((k.map (mapL g)).take j).length = j) := by rw [Hid, List.length_take, List.length_map]; omega
      have Ht := hide ht
      have Ht' := hide ht'
      have hn1 : j + 1 ≤ maxLen := by unfold maxLen; omega
      have hn2 : (j + 1) * 88 ≤ 140737488355328 := by omega
      have Hrow : Hid (wr.ownsRow w.heap.size 37 7 (.slice o1 j o3) j xs) := by
        have := HO.out.row
        rw [Hl.out] at this
        exact this
      have hnq : some wr.heap.size ≠ (Value.slice o1 j o3).ownBlock := fun e => by
        have := (owns_at Hrow.out _ e.symm).2
        omega
      clear hy had1 p3' p6' hA0 hD0 ht ht'
      simp only at *
      go_upto_region 5 with fail
      generalize hwa : wr.alloc (.cells #[.bool yn, .bool yv, .int .i64 yi, .slice ya (Fo.len yk) yc, .bool yv', .int .i64 yi', .slice za (Fo.len yk') zc] 37) = wa
      obtain ⟨g0, g1, g2, g3, g4, g5, g6, -, hba, hsa⟩ := lit_cells (T := 37) (x0 := .bool yn) (w := wr) (wr := wa) (x1 := .bool yv) (x2 := .int .i64 yi) (x3 := .slice ya (Fo.len yk) yc) (x4 := .bool yv') (x5 := .int .i64 yi') (x6 := .slice za (Fo.len yk') zc) (by rw [← hwa]; exact Below.refl _ _)
      clear hwa
      have hcur : Below wa.heap.size wa wa.drew := (Below.refl _ _).drew
      have hcall1 : ∀ w' : World, Below wa.heap.size wa w' → Calls Try.prog 62 #[.agg #[.bool yv, .int .i64 yi, .slice ya (Fo.len yk) yc], .pointer (some ⟨bb, 0, none⟩)] w' fun e w'' => ∃ (z1 : Option Addr) (z2 z3 : Nat), e = .returned (.agg #[.bool tv, .int .i64 ti, .slice z1 z2 z3]) ∧ SB (fun q => q < w.heap.size ∨ (w'.heap.size ≤ q ∧ q < w''.heap.size)) w'' tk (.slice z1 z2 z3) ∧ Below w'.heap.size w' w'' := fun w' hb => by
        refine (Hcl.out (yv, yi) yk _ w' (below_step (below_step hBr hba) hb) HA0.out HGy.out.1).mono ?_
        rintro e w2 ⟨z1, z2, z3, rfl, hO, hb⟩
        rw [← Ht.out] at hO
        exact ⟨z1, z2, z3, by rw [← Ht.out], hO, hb⟩
      have hcall2 : ∀ w' : World, Below wa.heap.size wa w' → Calls Try.prog 62 #[.agg #[.bool yv', .int .i64 yi', .slice za (Fo.len yk') zc], .pointer (some ⟨bb, 0, none⟩)] w' fun e w'' => ∃ (z1 : Option Addr) (z2 z3 : Nat), e = .returned (.agg #[.bool tv', .int .i64 ti', .slice z1 z2 z3]) ∧ SB (fun q => q < w.heap.size ∨ (w'.heap.size ≤ q ∧ q < w''.heap.size)) w'' tk' (.slice z1 z2 z3) ∧ Below w'.heap.size w' w'' := fun w' hb => by
        refine (Hcl.out (yv', yi') yk' _ w' (below_step (below_step hBr hba) hb) HD0.out HGy.out.2).mono ?_
        rintro e w2 ⟨z1, z2, z3, rfl, hO, hb⟩
        rw [← Ht'.out] at hO
        exact ⟨z1, z2, z3, by rw [← Ht'.out], hO, hb⟩
      have Hc1 := hide hcall1
      have Hc2 := hide hcall2
      clear hcall1 hcall2 p0 p1 p2 p3 p4 p5 p6
      go_region_held3 (fun w' => w'.cell? ⟨wr.heap.size, 0, none⟩ = some (.bool yn) ∧ w'.cell? ⟨wr.heap.size, 1, none⟩ = some (.bool yv) ∧ w'.cell? ⟨wr.heap.size, 2, none⟩ = some (.int .i64 yi) ∧ w'.cell? ⟨wr.heap.size, 3, none⟩ = some (.slice ya (Fo.len yk) yc) ∧ w'.cell? ⟨wr.heap.size, 4, none⟩ = some (.bool yv') ∧ w'.cell? ⟨wr.heap.size, 5, none⟩ = some (.int .i64 yi') ∧ w'.cell? ⟨wr.heap.size, 6, none⟩ = some (.slice za (Fo.len yk') zc))
        (first
          | (with_reducible exact ⟨grow_cell hcur _ _ g0, grow_cell hcur _ _ g1, grow_cell hcur _ _ g2, grow_cell hcur _ _ g3, grow_cell hcur _ _ g4, grow_cell hcur _ _ g5, grow_cell hcur _ _ g6⟩)
          | (with_reducible exact ⟨grow_cell (below_step hcur (below_alloc _ _)) _ _ g0, grow_cell (below_step hcur (below_alloc _ _)) _ _ g1, grow_cell (below_step hcur (below_alloc _ _)) _ _ g2, grow_cell (below_step hcur (below_alloc _ _)) _ _ g3, grow_cell (below_step hcur (below_alloc _ _)) _ _ g4, grow_cell (below_step hcur (below_alloc _ _)) _ _ g5, grow_cell (below_step hcur (below_alloc _ _)) _ _ g6⟩)
          | (with_reducible exact ⟨grown_cell HG4.out.2.1 hnq (grow_cell (below_step hcur (below_alloc _ _)) _ _ g0), grown_cell HG4.out.2.1 hnq (grow_cell (below_step hcur (below_alloc _ _)) _ _ g1), grown_cell HG4.out.2.1 hnq (grow_cell (below_step hcur (below_alloc _ _)) _ _ g2), grown_cell HG4.out.2.1 hnq (grow_cell (below_step hcur (below_alloc _ _)) _ _ g3), grown_cell HG4.out.2.1 hnq (grow_cell (below_step hcur (below_alloc _ _)) _ _ g4), grown_cell HG4.out.2.1 hnq (grow_cell (below_step hcur (below_alloc _ _)) _ _ g5), grown_cell HG4.out.2.1 hnq (grow_cell (below_step hcur (below_alloc _ _)) _ _ g6)⟩)
          | go_keep)
        (first
          | (go_at_call 62; with_reducible refine (Hc1.out _ hcur).mono ?_; rintro e wS ⟨z1, z2, z3, rfl, hO1, hbS⟩; have hcur0 := hcur; replace hcur := below_step hcur hbS; have HO1 := hide (And.intro hO1 hbS); clear hO1)
          | (go_at_call 62; with_reducible refine (Hc2.out _ hcur).mono ?_; rintro e wU ⟨y1, y2, y3, rfl, hO2, hbU⟩; have hcurS := hcur; replace hcur := below_step hcur hbU; have HO2 := hide (And.intro hO2 hbU); clear hO2)
          | (refine step_append_gen rfl (.tmp 14) (.tmp 26) 28 rfl w.heap.size 37 iL (.agg #[.bool false, .bool false, .int .i64 0, .slice none 0 0, .bool false, .int .i64 0, .slice none 0 0]) 7 88 Try.underlying28 hi hz0 hz1 hz2 rfl (by decide) (.slice o1 j o3) j xs rfl (owns_keep Hrow.out (fun g hg => (below_step (below_step hba hcur) (below_alloc _ _)).block g (owns_at Hrow.out g hg).2)) _ 1 (litV (yn, ((tv, ti), tk), ((tv', ti'), tk')) (.slice z1 z2 z3) (.slice y1 y2 y3)) rfl cs_lit hn1 hn2 (Nat.le_trans hsr (below_step (below_step hba hcur) (below_alloc _ _)).size) ?_; intro v4 w4 ho4 hg4 hat4; have HG4 := hide (And.intro ho4 (And.intro hg4 hat4)); clear ho4 hg4 hat4))
      all_goals
        have s0 := hcur0.size
        have s1 := hba.size
        have s2 := hcurS.size
        have s3 := HO1.out.2.size
        have s4 := HO2.out.2.size
        have Hstep : Hid (OwnL w.heap.size (XO w4 v4) w4 ((k.map (mapL g)).take (j + 1)) v4 (xs ++ litV (yn, ((tv, ti), tk), ((tv', ti'), tk')) (.slice z1 z2 z3) (.slice y1 y2 y3)) ∧ Below w.heap.size wr w4) := by
          rw [Hy2.out]
          refine ownL_more3 (l := (yn, ((tv, ti), tk), ((tv', ti'), tk'))) HO.out (below_step (below_step hba hcur) (below_alloc _ _)) hsr ?_ ?_ (by rw [Hl.out]; exact HG4.out.1) HG4.out.2.1 HG4.out.2.2
          · refine HO1.out.1.frame (fun q hq => ?_) (fun q i hq => (below_step HO2.out.2 (below_alloc _ _)).cell ?_)
            · simp only [World.size_alloc]
              omega
            · show q < _
              omega
          · refine HO2.out.1.frame (fun q hq => ?_) (fun q i hq => (below_alloc _ _).cell ?_)
            · simp only [World.size_alloc]
              omega
            · show q < _
              omega
        obtain ⟨r1, r3, hv4⟩ := slice_of_cl Hstep.out.1.cl
        have hl1 : ((k.map (mapL g)).take (j + 1)).length = j + 1 := by rw [Hy2.out, List.length_append, Hl.out]; rfl
        rw [hl1] at hv4
        subst hv4
        clear hl1
        go_wp2_with fail
        go_roundw
        case rel => exact ⟨j + 1, r1, r3, _, by omega, by go_num, rfl, Hstep.out.1, hBr.trans Hstep.out.2⟩
        case measure => simp [intOf]; omega
    · have hje : j = k.length := by omega
      subst hje
      have Hfin : Hid (OwnL w.heap.size (XO wr (.slice o1 k.length o3)) wr (k.map (mapL g)) (.slice o1 k.length o3) xs) := by
        have := HO.out
        rw [List.take_of_length_le (by simp)] at this
        exact this
      clear HO
      go_wp2_with fail
      go_ret
      exact ⟨_, _, rfl, Hfin.out, hBr⟩

set_option maxRecDepth 100000 in
set_option maxHeartbeats 4000000 in
theorem eachD5_any (bb : Nat) (g : Tm → Tm) (G : Tm → Prop) (k : Cl) (a : Value) (w : World) (hcl : CloSaid 20 bb g G w) (hS : CIn w k a) (hG : ∀ l ∈ k, G l.2.1 ∧ G l.2.2) (hlen : k.length ≤ 1000000) :
    Calls Try.prog 19 #[a, .func (.func 20) #[] #[.pointer (some ⟨bb, 0, none⟩)]] w fun e w' => ∃ v xs, e = .returned v ∧ OwnL w.heap.size (XO w' v) w' (k.map (mapL g)) v xs ∧ Below w.heap.size w w' := by
  obtain ⟨a1, c1, b1, oo, rfl, had1, hlc1, hcm1, hF1⟩ := hS
  unfold maxLen at hcm1
  have HF1 := hide hF1
  have HG := hide hG
  have Hcl := hide hcl
  clear hF1 hG hcl
  obtain ⟨iL, hi, hz0, hz1, hz2⟩ := info_parts Try.info37
  go_enter Try.func19, Try.ntmps19
  go_wp2_with fail
  go_loopw [5, 10] (fun v i wr => ∃ (j : Nat) (o1 : Option Addr) (o3 : Nat) (xs : List Value), j ≤ k.length ∧ i = .int .i64 j ∧ v = .slice o1 j o3 ∧ OwnL w.heap.size (XO wr v) wr ((k.map (mapL g)).take j) v xs ∧ Below w.heap.size w wr) (fun _ i _ => k.length - (intOf i).toNat)
  case atStart => exact ⟨0, none, 0, [], Nat.zero_le _, rfl, rfl, ownL_nil _ _, Below.refl _ _⟩
  case round =>
    obtain ⟨j, o1, o3, xs, hj, rfl, rfl, hO, hBr⟩ := hrel
    have HO := hide hO
    clear hO
    have hsr := hBr.size
    by_cases hlt : j < k.length
    · have hlt' : (j : Int) < (k.length : Int) := by omega
      obtain ⟨⟨yn, ⟨⟨yv, yi⟩, yk⟩, ⟨yv', yi'⟩, yk'⟩, hy⟩ : ∃ y, k[j]? = some y := ⟨k[j]'hlt, by simp⟩
      obtain ⟨-, -, -, ⟨u3', p3', hA0⟩, -, -, u6', p6', hD0⟩ := HF1.out.at hy
      obtain ⟨p0, p1, p2, ⟨u3, p3, hA⟩, p4, p5, u6, p6, hD⟩ := (HF1.out.below hBr).at hy
      have e3 : u3' = u3 := by have := grow_cell hBr _ _ p3'; rw [p3] at this; exact (Option.some.inj this).symm
      have e6 : u6' = u6 := by have := grow_cell hBr _ _ p6'; rw [p6] at this; exact (Option.some.inj this).symm
      subst e3 e6
      have ha1 : a1 = some ⟨b1, oo, none⟩ := had1 (by omega)
      subst ha1
      have HA0 := hide hA0
      have HD0 := hide hD0
      obtain ⟨ya, yc, _, _, rfl, -, -, -, -⟩ := hA
      obtain ⟨za, zc, _, _, rfl, -, -, -, -⟩ := hD
      have HGy := hide (HG.out _ (List.mem_of_getElem? hy))
      obtain ⟨⟨⟨tv, ti⟩, tk⟩, ht⟩ : ∃ t, t = g ((yv, yi), yk) := ⟨_, rfl⟩
      obtain ⟨⟨⟨tv', ti'⟩, tk'⟩, ht'⟩ : ∃ t, t = g ((yv', yi'), yk') := ⟨_, rfl⟩
      have Hy2 : Hid ((k.map (mapL g)).take (j + 1) = (k.map (mapL g)).take j ++ [(yn, ((tv, ti), tk), ((tv', ti'), tk'))]) := by
        rw [Hid, List.take_add_one, List.getElem?_map, hy, ht, ht']; rfl
      have Hl : Hid (((k.map (mapL g)).take j).length = j) := by rw [Hid, List.length_take, List.length_map]; omega
      have Ht := hide ht
      have Ht' := hide ht'
      have hn1 : j + 1 ≤ maxLen := by unfold maxLen; omega
      have hn2 : (j + 1) * 88 ≤ 140737488355328 := by omega
      have Hrow : Hid (wr.ownsRow w.heap.size 37 7 (.slice o1 j o3) j xs) := by
        have := HO.out.row
        rw [Hl.out] at this
        exact this
      have hnq : some wr.heap.size ≠ (Value.slice o1 j o3).ownBlock := fun e => by
        have := (owns_at Hrow.out _ e.symm).2
        omega
      clear hy had1 p3' p6' hA0 hD0 ht ht'
      simp only at *
      go_upto_region 5 with fail
      generalize hwa : wr.alloc (.cells #[.bool yn, .bool yv, .int .i64 yi, .slice ya (Fo.len yk) yc, .bool yv', .int .i64 yi', .slice za (Fo.len yk') zc] 37) = wa
      obtain ⟨g0, g1, g2, g3, g4, g5, g6, -, hba, hsa⟩ := lit_cells (T := 37) (x0 := .bool yn) (w := wr) (wr := wa) (x1 := .bool yv) (x2 := .int .i64 yi) (x3 := .slice ya (Fo.len yk) yc) (x4 := .bool yv') (x5 := .int .i64 yi') (x6 := .slice za (Fo.len yk') zc) (by rw [← hwa]; exact Below.refl _ _)
      clear hwa
      have hcur : Below wa.heap.size wa wa.drew := (Below.refl _ _).drew
      have hcall1 : ∀ w' : World, Below wa.heap.size wa w' → Calls Try.prog 20 #[.agg #[.bool yv, .int .i64 yi, .slice ya (Fo.len yk) yc], .pointer (some ⟨bb, 0, none⟩)] w' fun e w'' => ∃ (z1 : Option Addr) (z2 z3 : Nat), e = .returned (.agg #[.bool tv, .int .i64 ti, .slice z1 z2 z3]) ∧ SB (fun q => q < w.heap.size ∨ (w'.heap.size ≤ q ∧ q < w''.heap.size)) w'' tk (.slice z1 z2 z3) ∧ Below w'.heap.size w' w'' := fun w' hb => by
        refine (Hcl.out (yv, yi) yk _ w' (below_step (below_step hBr hba) hb) HA0.out HGy.out.1).mono ?_
        rintro e w2 ⟨z1, z2, z3, rfl, hO, hb⟩
        rw [← Ht.out] at hO
        exact ⟨z1, z2, z3, by rw [← Ht.out], hO, hb⟩
      have hcall2 : ∀ w' : World, Below wa.heap.size wa w' → Calls Try.prog 20 #[.agg #[.bool yv', .int .i64 yi', .slice za (Fo.len yk') zc], .pointer (some ⟨bb, 0, none⟩)] w' fun e w'' => ∃ (z1 : Option Addr) (z2 z3 : Nat), e = .returned (.agg #[.bool tv', .int .i64 ti', .slice z1 z2 z3]) ∧ SB (fun q => q < w.heap.size ∨ (w'.heap.size ≤ q ∧ q < w''.heap.size)) w'' tk' (.slice z1 z2 z3) ∧ Below w'.heap.size w' w'' := fun w' hb => by
        refine (Hcl.out (yv', yi') yk' _ w' (below_step (below_step hBr hba) hb) HD0.out HGy.out.2).mono ?_
        rintro e w2 ⟨z1, z2, z3, rfl, hO, hb⟩
        rw [← Ht'.out] at hO
        exact ⟨z1, z2, z3, by rw [← Ht'.out], hO, hb⟩
      have Hc1 := hide hcall1
      have Hc2 := hide hcall2
      clear hcall1 hcall2 p0 p1 p2 p3 p4 p5 p6
      go_region_held3 (fun w' => w'.cell? ⟨wr.heap.size, 0, none⟩ = some (.bool yn) ∧ w'.cell? ⟨wr.heap.size, 1, none⟩ = some (.bool yv) ∧ w'.cell? ⟨wr.heap.size, 2, none⟩ = some (.int .i64 yi) ∧ w'.cell? ⟨wr.heap.size, 3, none⟩ = some (.slice ya (Fo.len yk) yc) ∧ w'.cell? ⟨wr.heap.size, 4, none⟩ = some (.bool yv') ∧ w'.cell? ⟨wr.heap.size, 5, none⟩ = some (.int .i64 yi') ∧ w'.cell? ⟨wr.heap.size, 6, none⟩ = some (.slice za (Fo.len yk') zc))
        (first
          | (with_reducible exact ⟨grow_cell hcur _ _ g0, grow_cell hcur _ _ g1, grow_cell hcur _ _ g2, grow_cell hcur _ _ g3, grow_cell hcur _ _ g4, grow_cell hcur _ _ g5, grow_cell hcur _ _ g6⟩)
          | (with_reducible exact ⟨grow_cell (below_step hcur (below_alloc _ _)) _ _ g0, grow_cell (below_step hcur (below_alloc _ _)) _ _ g1, grow_cell (below_step hcur (below_alloc _ _)) _ _ g2, grow_cell (below_step hcur (below_alloc _ _)) _ _ g3, grow_cell (below_step hcur (below_alloc _ _)) _ _ g4, grow_cell (below_step hcur (below_alloc _ _)) _ _ g5, grow_cell (below_step hcur (below_alloc _ _)) _ _ g6⟩)
          | (with_reducible exact ⟨grown_cell HG4.out.2.1 hnq (grow_cell (below_step hcur (below_alloc _ _)) _ _ g0), grown_cell HG4.out.2.1 hnq (grow_cell (below_step hcur (below_alloc _ _)) _ _ g1), grown_cell HG4.out.2.1 hnq (grow_cell (below_step hcur (below_alloc _ _)) _ _ g2), grown_cell HG4.out.2.1 hnq (grow_cell (below_step hcur (below_alloc _ _)) _ _ g3), grown_cell HG4.out.2.1 hnq (grow_cell (below_step hcur (below_alloc _ _)) _ _ g4), grown_cell HG4.out.2.1 hnq (grow_cell (below_step hcur (below_alloc _ _)) _ _ g5), grown_cell HG4.out.2.1 hnq (grow_cell (below_step hcur (below_alloc _ _)) _ _ g6)⟩)
          | go_keep)
        (first
          | (go_at_call 20; with_reducible refine (Hc1.out _ hcur).mono ?_; rintro e wS ⟨z1, z2, z3, rfl, hO1, hbS⟩; have hcur0 := hcur; replace hcur := below_step hcur hbS; have HO1 := hide (And.intro hO1 hbS); clear hO1)
          | (go_at_call 20; with_reducible refine (Hc2.out _ hcur).mono ?_; rintro e wU ⟨y1, y2, y3, rfl, hO2, hbU⟩; have hcurS := hcur; replace hcur := below_step hcur hbU; have HO2 := hide (And.intro hO2 hbU); clear hO2)
          | (refine step_append_gen rfl (.tmp 14) (.tmp 26) 28 rfl w.heap.size 37 iL (.agg #[.bool false, .bool false, .int .i64 0, .slice none 0 0, .bool false, .int .i64 0, .slice none 0 0]) 7 88 Try.underlying28 hi hz0 hz1 hz2 rfl (by decide) (.slice o1 j o3) j xs rfl (owns_keep Hrow.out (fun g hg => (below_step (below_step hba hcur) (below_alloc _ _)).block g (owns_at Hrow.out g hg).2)) _ 1 (litV (yn, ((tv, ti), tk), ((tv', ti'), tk')) (.slice z1 z2 z3) (.slice y1 y2 y3)) rfl cs_lit hn1 hn2 (Nat.le_trans hsr (below_step (below_step hba hcur) (below_alloc _ _)).size) ?_; intro v4 w4 ho4 hg4 hat4; have HG4 := hide (And.intro ho4 (And.intro hg4 hat4)); clear ho4 hg4 hat4))
      all_goals
        have s0 := hcur0.size
        have s1 := hba.size
        have s2 := hcurS.size
        have s3 := HO1.out.2.size
        have s4 := HO2.out.2.size
        have Hstep : Hid (OwnL w.heap.size (XO w4 v4) w4 ((k.map (mapL g)).take (j + 1)) v4 (xs ++ litV (yn, ((tv, ti), tk), ((tv', ti'), tk')) (.slice z1 z2 z3) (.slice y1 y2 y3)) ∧ Below w.heap.size wr w4) := by
          rw [Hy2.out]
          refine ownL_more3 (l := (yn, ((tv, ti), tk), ((tv', ti'), tk'))) HO.out (below_step (below_step hba hcur) (below_alloc _ _)) hsr ?_ ?_ (by rw [Hl.out]; exact HG4.out.1) HG4.out.2.1 HG4.out.2.2
          · refine HO1.out.1.frame (fun q hq => ?_) (fun q i hq => (below_step HO2.out.2 (below_alloc _ _)).cell ?_)
            · simp only [World.size_alloc]
              omega
            · show q < _
              omega
          · refine HO2.out.1.frame (fun q hq => ?_) (fun q i hq => (below_alloc _ _).cell ?_)
            · simp only [World.size_alloc]
              omega
            · show q < _
              omega
        obtain ⟨r1, r3, hv4⟩ := slice_of_cl Hstep.out.1.cl
        have hl1 : ((k.map (mapL g)).take (j + 1)).length = j + 1 := by rw [Hy2.out, List.length_append, Hl.out]; rfl
        rw [hl1] at hv4
        subst hv4
        clear hl1
        go_wp2_with fail
        go_roundw
        case rel => exact ⟨j + 1, r1, r3, _, by omega, by go_num, rfl, Hstep.out.1, hBr.trans Hstep.out.2⟩
        case measure => simp [intOf]; omega
    · have hje : j = k.length := by omega
      subst hje
      have Hfin : Hid (OwnL w.heap.size (XO wr (.slice o1 k.length o3)) wr (k.map (mapL g)) (.slice o1 k.length o3) xs) := by
        have := HO.out
        rw [List.take_of_length_le (by simp)] at this
        exact this
      clear HO
      go_wp2_with fail
      go_ret
      exact ⟨_, _, rfl, Hfin.out, hBr⟩

end Go.Proofs.Ytfnkjadfepoicac

/- The closures that the document's Each is called with. -/
namespace Go.Proofs.Ytfnkjadfepoicac
open Go.RowKit Go.Deep Go.ChangeShapes Go.WideShapes

set_option maxRecDepth 100000 in
set_option maxHeartbeats 2000000 in
theorem cloDN_any (s : Sb) (vs : Value) (bb : Nat) (W0 : World) (hc : W0.cell? ⟨bb, 0, none⟩ = some vs) (hV : SubIn W0 s vs) (hs : ∀ p ∈ s, okT p.2) : CloSaid 71 bb (subT (bnd s)) (fun t => okT t ∧ narT t) W0 := by
  intro x k a w hW hS hG
  obtain ⟨xv, xn⟩ := x
  have HS := hide hS
  have HV := hide hV
  have Hs := hide hs
  have hsv : ∃ v1 v2 v3, vs = .slice v1 v2 v3 := by
    obtain ⟨v1, v3, _, _, rfl, _⟩ := hV
    exact ⟨_, _, _, rfl⟩
  obtain ⟨v1, v2, v3, rfl⟩ := hsv
  obtain ⟨ad, c, _, _, rfl, -, -, -, -⟩ := hS
  have hcw := grow_cell hW _ _ hc
  have hpb : bb < w.heap.size := World.block_lt_of_cell? _ _ hcw
  have hc' : ((w.alloc (.cells #[.bool xv, .int .i64 xn, .slice ad (Fo.len k) c] 35)).alloc (.cells #[.bool false, .int .i64 0, .slice none 0 0] 35)).cell? ⟨bb, 0, none⟩ = some (.slice v1 v2 v3) := by rw [World.cell?_alloc_lt _ _ _ (by simp; omega), World.cell?_alloc_lt _ _ _ (by simpa using hpb)]; exact hcw
  clear hV hs
  go_enter Try.func71, Try.ntmps71
  go_wp2_with fail
  refine (applyR_any (xv, xn) k s _ W0 _ _ (below_step hW (below_step (below_alloc _ _) (below_alloc _ _))) HV.out Hs.out HS.out hG.1 hG.2).mono ?_
  rintro e w1 ⟨z1, z2, z3, rfl, hO, hb⟩
  obtain ⟨⟨⟨tv, tn⟩, tk⟩, ht⟩ : ∃ t, t = subT (bnd s) ((xv, xn), k) := ⟨_, rfl⟩
  rw [← ht] at hO ⊢
  have hsz := hb.size
  simp only [World.size_alloc] at hsz
  have hsW := hW.size
  have r0 : w1.cell? ⟨w.heap.size + 1, 0, none⟩ = some (.bool false) := grow_cell hb _ _ (new_cell (World.size_alloc _ _))
  have r1 : w1.cell? ⟨w.heap.size + 1, 1, none⟩ = some (.int .i64 0) := grow_cell hb _ _ (new_cell (World.size_alloc _ _))
  have r2 : w1.cell? ⟨w.heap.size + 1, 2, none⟩ = some (.slice none 0 0) := grow_cell hb _ _ (new_cell (World.size_alloc _ _))
  have rf : ∀ i, w1.frozen? ⟨w.heap.size + 1, i, none⟩ = false := fun i => (hb.frozen (by show w.heap.size + 1 < _; simp)).trans (new_frozen (World.size_alloc _ _))
  have hB := below_box (below_box hb)
  have HO : Hid (SB (fun q => q < W0.heap.size ∨ (w.heap.size + 1 + 1 ≤ q ∧ q < w1.heap.size)) w1 tk (.slice z1 z2 z3)) := by
    have := hO
    simp only [World.size_alloc] at this
    exact this
  have Ht := hide ht
  clear hb hO ht hc hc' hcw
  simp only
  go_wp2_with fail
  refine bodyPost_ret (v := .agg #[.bool tv, .int .i64 tn, .slice z1 z2 z3]) (by simp [results, Try.results71, go_sem, r0, r1, r2]) rfl ⟨z1, z2, z3, by rw [← Ht.out], ?_, set3_below (o := 0) hB (by omega)⟩
  rw [← Ht.out]
  exact ret_boxB HO.out (by omega) (by omega) (by omega)

set_option maxRecDepth 100000 in
set_option maxHeartbeats 2000000 in
theorem cloDL_any (s : Sb) (vs : Value) (bb : Nat) (W0 : World) (hc : W0.cell? ⟨bb, 0, none⟩ = some vs) (hV : SubIn W0 s vs) (hs : ∀ p ∈ s, okT p.2) : CloSaid 62 bb (subT (bnd s)) (fun t => okT t ∧ narT t) W0 := by
  intro x k a w hW hS hG
  obtain ⟨xv, xn⟩ := x
  have HS := hide hS
  have HV := hide hV
  have Hs := hide hs
  have hsv : ∃ v1 v2 v3, vs = .slice v1 v2 v3 := by
    obtain ⟨v1, v3, _, _, rfl, _⟩ := hV
    exact ⟨_, _, _, rfl⟩
  obtain ⟨v1, v2, v3, rfl⟩ := hsv
  obtain ⟨ad, c, _, _, rfl, -, -, -, -⟩ := hS
  have hcw := grow_cell hW _ _ hc
  have hpb : bb < w.heap.size := World.block_lt_of_cell? _ _ hcw
  have hc' : ((w.alloc (.cells #[.bool xv, .int .i64 xn, .slice ad (Fo.len k) c] 35)).alloc (.cells #[.bool false, .int .i64 0, .slice none 0 0] 35)).cell? ⟨bb, 0, none⟩ = some (.slice v1 v2 v3) := by rw [World.cell?_alloc_lt _ _ _ (by simp; omega), World.cell?_alloc_lt _ _ _ (by simpa using hpb)]; exact hcw
  clear hV hs
  go_enter Try.func62, Try.ntmps62
  go_wp2_with fail
  refine (applyR_any (xv, xn) k s _ W0 _ _ (below_step hW (below_step (below_alloc _ _) (below_alloc _ _))) HV.out Hs.out HS.out hG.1 hG.2).mono ?_
  rintro e w1 ⟨z1, z2, z3, rfl, hO, hb⟩
  obtain ⟨⟨⟨tv, tn⟩, tk⟩, ht⟩ : ∃ t, t = subT (bnd s) ((xv, xn), k) := ⟨_, rfl⟩
  rw [← ht] at hO ⊢
  have hsz := hb.size
  simp only [World.size_alloc] at hsz
  have hsW := hW.size
  have r0 : w1.cell? ⟨w.heap.size + 1, 0, none⟩ = some (.bool false) := grow_cell hb _ _ (new_cell (World.size_alloc _ _))
  have r1 : w1.cell? ⟨w.heap.size + 1, 1, none⟩ = some (.int .i64 0) := grow_cell hb _ _ (new_cell (World.size_alloc _ _))
  have r2 : w1.cell? ⟨w.heap.size + 1, 2, none⟩ = some (.slice none 0 0) := grow_cell hb _ _ (new_cell (World.size_alloc _ _))
  have rf : ∀ i, w1.frozen? ⟨w.heap.size + 1, i, none⟩ = false := fun i => (hb.frozen (by show w.heap.size + 1 < _; simp)).trans (new_frozen (World.size_alloc _ _))
  have hB := below_box (below_box hb)
  have HO : Hid (SB (fun q => q < W0.heap.size ∨ (w.heap.size + 1 + 1 ≤ q ∧ q < w1.heap.size)) w1 tk (.slice z1 z2 z3)) := by
    have := hO
    simp only [World.size_alloc] at this
    exact this
  have Ht := hide ht
  clear hb hO ht hc hc' hcw
  simp only
  go_wp2_with fail
  refine bodyPost_ret (v := .agg #[.bool tv, .int .i64 tn, .slice z1 z2 z3]) (by simp [results, Try.results62, go_sem, r0, r1, r2]) rfl ⟨z1, z2, z3, by rw [← Ht.out], ?_, set3_below (o := 0) hB (by omega)⟩
  rw [← Ht.out]
  exact ret_boxB HO.out (by omega) (by omega) (by omega)

set_option maxRecDepth 100000 in
set_option maxHeartbeats 2000000 in
theorem cloD5_any (s : Sb) (vs : Value) (bb : Nat) (W0 : World) (hc : W0.cell? ⟨bb, 0, none⟩ = some vs) (hV : SubIn W0 s vs) (hs : ∀ p ∈ s, okT p.2) : CloSaid 20 bb (subT (bnd s)) (fun t => okT t ∧ narT t) W0 := by
  intro x k a w hW hS hG
  obtain ⟨xv, xn⟩ := x
  have HS := hide hS
  have HV := hide hV
  have Hs := hide hs
  have hsv : ∃ v1 v2 v3, vs = .slice v1 v2 v3 := by
    obtain ⟨v1, v3, _, _, rfl, _⟩ := hV
    exact ⟨_, _, _, rfl⟩
  obtain ⟨v1, v2, v3, rfl⟩ := hsv
  obtain ⟨ad, c, _, _, rfl, -, -, -, -⟩ := hS
  have hcw := grow_cell hW _ _ hc
  have hpb : bb < w.heap.size := World.block_lt_of_cell? _ _ hcw
  have hc' : ((w.alloc (.cells #[.bool xv, .int .i64 xn, .slice ad (Fo.len k) c] 35)).alloc (.cells #[.bool false, .int .i64 0, .slice none 0 0] 35)).cell? ⟨bb, 0, none⟩ = some (.slice v1 v2 v3) := by rw [World.cell?_alloc_lt _ _ _ (by simp; omega), World.cell?_alloc_lt _ _ _ (by simpa using hpb)]; exact hcw
  clear hV hs
  go_enter Try.func20, Try.ntmps20
  go_wp2_with fail
  refine (applyR_any (xv, xn) k s _ W0 _ _ (below_step hW (below_step (below_alloc _ _) (below_alloc _ _))) HV.out Hs.out HS.out hG.1 hG.2).mono ?_
  rintro e w1 ⟨z1, z2, z3, rfl, hO, hb⟩
  obtain ⟨⟨⟨tv, tn⟩, tk⟩, ht⟩ : ∃ t, t = subT (bnd s) ((xv, xn), k) := ⟨_, rfl⟩
  rw [← ht] at hO ⊢
  have hsz := hb.size
  simp only [World.size_alloc] at hsz
  have hsW := hW.size
  have r0 : w1.cell? ⟨w.heap.size + 1, 0, none⟩ = some (.bool false) := grow_cell hb _ _ (new_cell (World.size_alloc _ _))
  have r1 : w1.cell? ⟨w.heap.size + 1, 1, none⟩ = some (.int .i64 0) := grow_cell hb _ _ (new_cell (World.size_alloc _ _))
  have r2 : w1.cell? ⟨w.heap.size + 1, 2, none⟩ = some (.slice none 0 0) := grow_cell hb _ _ (new_cell (World.size_alloc _ _))
  have rf : ∀ i, w1.frozen? ⟨w.heap.size + 1, i, none⟩ = false := fun i => (hb.frozen (by show w.heap.size + 1 < _; simp)).trans (new_frozen (World.size_alloc _ _))
  have hB := below_box (below_box hb)
  have HO : Hid (SB (fun q => q < W0.heap.size ∨ (w.heap.size + 1 + 1 ≤ q ∧ q < w1.heap.size)) w1 tk (.slice z1 z2 z3)) := by
    have := hO
    simp only [World.size_alloc] at this
    exact this
  have Ht := hide ht
  clear hb hO ht hc hc' hcw
  simp only
  go_wp2_with fail
  refine bodyPost_ret (v := .agg #[.bool tv, .int .i64 tn, .slice z1 z2 z3]) (by simp [results, Try.results20, go_sem, r0, r1, r2]) rfl ⟨z1, z2, z3, by rw [← Ht.out], ?_, set3_below (o := 0) hB (by omega)⟩
  rw [← Ht.out]
  exact ret_boxB HO.out (by omega) (by omega) (by omega)

end Go.Proofs.Ytfnkjadfepoicac

/- The document's: the same literals, the same clauses, like literals. -/
namespace Go.Proofs.Ytfnkjadfepoicac
open Go.RowKit Go.Deep Go.ChangeShapes Go.WideShapes

set_option maxRecDepth 100000 in
set_option maxHeartbeats 1000000 in
theorem sameLitR_any (p q : Lt) (a d b c : Value) (w : World) (h1 : SIn w p.2.1.2 a) (h2 : SIn w p.2.2.2 d) (h3 : SIn w q.2.1.2 b) (h4 : SIn w q.2.2.2 c) :
    Calls Try.prog 63 #[litA p a d, litA q b c] w fun e w' => e = .returned (.bool (sameL p q)) ∧ Below w.heap.size w w' := by
  obtain ⟨pn, ⟨⟨pv, pi⟩, pk⟩, ⟨⟨pv', pi'⟩, pk'⟩⟩ := p
  obtain ⟨qn, ⟨⟨qv, qi⟩, qk⟩, ⟨⟨qv', qi'⟩, qk'⟩⟩ := q
  have H1 := hide h1
  have H2 := hide h2
  have H3 := hide h3
  have H4 := hide h4
  obtain ⟨a1, a3, _, _, rfl, -, -, -, -⟩ := h1
  obtain ⟨d1, d3, _, _, rfl, -, -, -, -⟩ := h2
  obtain ⟨b1, b3, _, _, rfl, -, -, -, -⟩ := h3
  obtain ⟨c1, c3, _, _, rfl, -, -, -, -⟩ := h4
  simp only at *
  by_cases hn : pn = qn
  · subst hn
    go_enter Try.func63, Try.ntmps63
    go_wp2_with fail
    refine (sameR_any (pv, pi) pk (qv, qi) qk _ _ _ ((H1.out.alloc _).alloc _) ((H3.out.alloc _).alloc _)).mono ?_
    rintro e w1 ⟨rfl, hb1⟩
    obtain ⟨-, -, -, -, e4, e5, e6, -, hB1, hl1⟩ := lit_cells hb1
    obtain ⟨-, -, -, -, f4, f5, f6, -, hB2, hl2⟩ := lit_cells hB1
    simp only [World.size_alloc] at e4 e5 e6
    have H2' := hide (H2.out.below hB2)
    have H4' := hide (H4.out.below hB2)
    cases he : sameT (pv, pi) pk (qv, qi) qk
    · clear hb1 hB1
      go_wp2_with fail
      go_ret
      exact ⟨by simp [sameL, he], hB2⟩
    · clear hb1 hB1
      go_wp2_with fail
      refine (sameR_any (pv', pi') pk' (qv', qi') qk' _ _ _ H2'.out H4'.out).mono ?_
      rintro e w2 ⟨rfl, hb2⟩
      go_wp2_with fail
      go_ret
      exact ⟨by simp [sameL, he], below_step hB2 hb2⟩
  · have hnb : (pn == qn) = false := by simp [hn]
    go_enter Try.func63, Try.ntmps63
    go_wp2_with fail
    go_ret
    refine ⟨by simp [sameL, hnb], ?_⟩
    exact ((Below.refl w.heap.size w).alloc (Nat.le_refl _) _).alloc (by simp) _

set_option maxRecDepth 100000 in
set_option maxHeartbeats 2000000 in
theorem likeR_any (p q : Lt) (a d b c : Value) (w : World) (h1 : SIn w p.2.1.2 a) (h2 : SIn w p.2.2.2 d) (h3 : SIn w q.2.1.2 b) (h4 : SIn w q.2.2.2 c) :
    Calls Try.prog 72 #[litA p a d, litA q b c] w fun e w' => e = .returned (.bool (likeL p q)) ∧ Below w.heap.size w w' := by
  obtain ⟨pn, ⟨⟨pv, pi⟩, pk⟩, ⟨⟨pv', pi'⟩, pk'⟩⟩ := p
  obtain ⟨qn, ⟨⟨qv, qi⟩, qk⟩, ⟨⟨qv', qi'⟩, qk'⟩⟩ := q
  have H1 := hide h1
  have H2 := hide h2
  have H3 := hide h3
  have H4 := hide h4
  obtain ⟨a1, a3, _, _, rfl, -, -, -, -⟩ := h1
  obtain ⟨d1, d3, _, _, rfl, -, -, -, -⟩ := h2
  obtain ⟨b1, b3, _, _, rfl, -, -, -, -⟩ := h3
  obtain ⟨c1, c3, _, _, rfl, -, -, -, -⟩ := h4
  simp only at *
  go_enter Try.func72, Try.ntmps72
  go_wp2_with fail
  refine (sameR_any (pv, pi) pk (qv, qi) qk _ _ _ ((H1.out.alloc _).alloc _) ((H3.out.alloc _).alloc _)).mono ?_
  rintro e w1 ⟨rfl, hb1⟩
  obtain ⟨-, e1, e2, e3, e4, e5, e6, -, hB1, hl1⟩ := lit_cells hb1
  obtain ⟨-, f1, f2, f3, f4, f5, f6, -, hB2, hl2⟩ := lit_cells hB1
  simp only [World.size_alloc] at e1 e2 e3 e4 e5 e6
  clear hb1 hB1
  have H1' := hide (H1.out.below hB2)
  have H2' := hide (H2.out.below hB2)
  have H3' := hide (H3.out.below hB2)
  have H4' := hide (H4.out.below hB2)
  cases he : sameT (pv, pi) pk (qv, qi) qk
  · go_wp2_with fail
    refine (sameR_any (pv, pi) pk (qv', qi') qk' _ _ _ H1'.out H4'.out).mono ?_
    rintro e w2 ⟨rfl, hb2⟩
    have g4 := grow_cell hb2 _ _ e1
    have g5 := grow_cell hb2 _ _ e2
    have g6 := grow_cell hb2 _ _ e3
    have k4 := grow_cell hb2 _ _ f4
    have k5 := grow_cell hb2 _ _ f5
    have k6 := grow_cell hb2 _ _ f6
    clear e1 e2 e3 e4 e5 e6 f1 f2 f3 f4 f5 f6
    cases he2 : sameT (pv, pi) pk (qv', qi') qk'
    · go_wp2_with fail
      go_ret
      exact ⟨by simp [likeL, he, he2], below_step hB2 hb2⟩
    · go_wp2_with fail
      refine (sameR_any (pv', pi') pk' (qv, qi) qk _ _ _ (H2'.out.below hb2) (H3'.out.below hb2)).mono ?_
      rintro e w3 ⟨rfl, hb3⟩
      go_wp2_with fail
      go_ret
      exact ⟨by simp [likeL, he, he2], below_step (below_step hB2 hb2) hb3⟩
  · go_wp2_with fail
    refine (sameR_any (pv', pi') pk' (qv', qi') qk' _ _ _ H2'.out H4'.out).mono ?_
    rintro e w2 ⟨rfl, hb2⟩
    have g1 := grow_cell hb2 _ _ e1
    have g2 := grow_cell hb2 _ _ e2
    have g3 := grow_cell hb2 _ _ e3
    have g4 := grow_cell hb2 _ _ e4
    have g5 := grow_cell hb2 _ _ e5
    have g6 := grow_cell hb2 _ _ e6
    have k1 := grow_cell hb2 _ _ f1
    have k2 := grow_cell hb2 _ _ f2
    have k3 := grow_cell hb2 _ _ f3
    have k4 := grow_cell hb2 _ _ f4
    have k5 := grow_cell hb2 _ _ f5
    have k6 := grow_cell hb2 _ _ f6
    clear e1 e2 e3 e4 e5 e6 f1 f2 f3 f4 f5 f6
    cases he2 : sameT (pv', pi') pk' (qv', qi') qk'
    · go_wp2_with fail
      refine (sameR_any (pv, pi) pk (qv', qi') qk' _ _ _ (H1'.out.below hb2) (H4'.out.below hb2)).mono ?_
      rintro e w3 ⟨rfl, hb3⟩
      have g1' := grow_cell hb3 _ _ g1
      have g2' := grow_cell hb3 _ _ g2
      have g3' := grow_cell hb3 _ _ g3
      have k4' := grow_cell hb3 _ _ k4
      have k5' := grow_cell hb3 _ _ k5
      have k6' := grow_cell hb3 _ _ k6
      clear g1 g2 g3 g4 g5 g6 k1 k2 k3 k4 k5 k6
      cases he3 : sameT (pv, pi) pk (qv', qi') qk'
      · go_wp2_with fail
        go_ret
        exact ⟨by simp [likeL, he, he2, he3], below_step (below_step hB2 hb2) hb3⟩
      · go_wp2_with fail
        refine (sameR_any (pv', pi') pk' (qv, qi) qk _ _ _ ((H2'.out.below hb2).below hb3) ((H3'.out.below hb2).below hb3)).mono ?_
        rintro e w4 ⟨rfl, hb4⟩
        go_wp2_with fail
        go_ret
        exact ⟨by simp [likeL, he, he2, he3], below_step (below_step (below_step hB2 hb2) hb3) hb4⟩
    · go_wp2_with fail
      go_ret
      exact ⟨by simp [likeL, he, he2], below_step hB2 hb2⟩

set_option maxRecDepth 100000 in
set_option maxHeartbeats 2000000 in
theorem sameCR_any (k l : Cl) (a c : Value) (w : World) (hS1 : CIn w k a) (hS2 : CIn w l c) :
    Calls Try.prog 45 #[a, c] w fun e w' => e = .returned (.bool (sameC k l)) ∧ Below w.heap.size w w' := by
  obtain ⟨a1, c1, b1, o1, rfl, had1, hlc1, hcm1, hF1⟩ := hS1
  obtain ⟨a2, c2, b2, o2, rfl, had2, hlc2, hcm2, hF2⟩ := hS2
  unfold maxLen at hcm1 hcm2
  have HF1 := hide hF1
  have HF2 := hide hF2
  clear hF1 hF2
  by_cases hll : k.length = l.length
  · have hllb : ((k.length : Int) != (l.length : Int)) = false := by simp [hll]
    have Hll := hide hll
    have hll1 : l.length ≤ k.length := by omega
    have hll2 : k.length ≤ l.length := by omega
    clear hll
    go_enter Try.func45, Try.ntmps45
    go_wp2_with fail
    go_loopw [13] (fun i wr => ∃ j : Nat, j ≤ k.length ∧ i = .int .i64 j ∧ (∀ i, i < j → ∀ a b, k[i]? = some a → l[i]? = some b → sameL a b = true) ∧ Below w.heap.size w wr) (fun i _ => k.length - (intOf i).toNat)
    case atStart => exact ⟨0, Nat.zero_le _, rfl, fun i hi => by omega, Below.refl _ _⟩
    case round =>
      obtain ⟨j, hj, rfl, hok, hBr⟩ := hrel
      have Hok := hide hok
      clear hok
      by_cases hlt : j < k.length
      · have hlt' : (j : Int) < (k.length : Int) := by omega
        have hlt2 : (j : Int) < (l.length : Int) := by omega
        have hj0 : (0 : Int) ≤ (j : Int) := by omega
        obtain ⟨⟨yn, ⟨⟨yv, yi⟩, yk⟩, ⟨yv', yi'⟩, yk'⟩, hy⟩ : ∃ y, k[j]? = some y := ⟨k[j]'hlt, by simp⟩
        obtain ⟨⟨zn, ⟨⟨zv, zi⟩, zk⟩, ⟨zv', zi'⟩, zk'⟩, hz⟩ : ∃ y, l[j]? = some y := ⟨l[j]'(by omega), by simp⟩
        obtain ⟨p0, p1, p2, ⟨u3, p3, hA⟩, p4, p5, u6, p6, hD⟩ := (HF1.out.below hBr).at hy
        obtain ⟨q0, q1, q2, ⟨s3, q3, hB⟩, q4, q5, s6, q6, hC⟩ := (HF2.out.below hBr).at hz
        have ha1 : a1 = some ⟨b1, o1, none⟩ := had1 (by omega)
        have ha2 : a2 = some ⟨b2, o2, none⟩ := had2 (by omega)
        subst ha1 ha2
        have HA := hide hA
        have HB := hide hB
        have HC := hide hC
        have HD := hide hD
        obtain ⟨ya, yc, _, _, rfl, -, -, -, -⟩ := hA
        obtain ⟨za, zc, _, _, rfl, -, -, -, -⟩ := hB
        obtain ⟨ya', yc', _, _, rfl, -, -, -, -⟩ := hC
        obtain ⟨za', zc', _, _, rfl, -, -, -, -⟩ := hD
        have Hy := hide hy
        have Hz := hide hz
        clear hy hz had1 had2
        simp only at *
        have hcur : Below wr.heap.size wr wr.drew := (Below.refl _ _).drew
        go_upto_region 6 with fail
        go_cut [25] (fun s25 wx => s25 = .bool (!(sameL (yn, ((yv, yi), yk), ((yv', yi'), yk')) (zn, ((zv, zi), zk), ((zv', zi'), zk')))) ∧ Below wr.heap.size wr wx)
        case first =>
          go_region_held3 (fun w' => (w'.cell? ⟨b1, o1 + j * 7, none⟩ = some (.bool yn) ∧ w'.cell? ⟨b1, o1 + j * 7 + 1, none⟩ = some (.bool yv) ∧ w'.cell? ⟨b1, o1 + j * 7 + 2, none⟩ = some (.int .i64 yi) ∧ w'.cell? ⟨b1, o1 + j * 7 + 3, none⟩ = some (.slice ya (Fo.len yk) yc) ∧ w'.cell? ⟨b1, o1 + j * 7 + 4, none⟩ = some (.bool yv') ∧ w'.cell? ⟨b1, o1 + j * 7 + 5, none⟩ = some (.int .i64 yi') ∧ w'.cell? ⟨b1, o1 + j * 7 + 6, none⟩ = some (.slice za' (Fo.len yk') zc'))
              ∧ w'.cell? ⟨b2, o2 + j * 7, none⟩ = some (.bool zn) ∧ w'.cell? ⟨b2, o2 + j * 7 + 1, none⟩ = some (.bool zv) ∧ w'.cell? ⟨b2, o2 + j * 7 + 2, none⟩ = some (.int .i64 zi) ∧ w'.cell? ⟨b2, o2 + j * 7 + 3, none⟩ = some (.slice za (Fo.len zk) zc) ∧ w'.cell? ⟨b2, o2 + j * 7 + 4, none⟩ = some (.bool zv') ∧ w'.cell? ⟨b2, o2 + j * 7 + 5, none⟩ = some (.int .i64 zi') ∧ w'.cell? ⟨b2, o2 + j * 7 + 6, none⟩ = some (.slice ya' (Fo.len zk') yc'))
            (first
              | (with_reducible exact ⟨⟨grow_cell hcur _ _ p0, grow_cell hcur _ _ p1, grow_cell hcur _ _ p2, grow_cell hcur _ _ p3, grow_cell hcur _ _ p4, grow_cell hcur _ _ p5, grow_cell hcur _ _ p6⟩, grow_cell hcur _ _ q0, grow_cell hcur _ _ q1, grow_cell hcur _ _ q2, grow_cell hcur _ _ q3, grow_cell hcur _ _ q4, grow_cell hcur _ _ q5, grow_cell hcur _ _ q6⟩)
              | go_keep)
            (first
              | (go_at_call 63; with_reducible refine (sameLitR_any (yn, ((yv, yi), yk), ((yv', yi'), yk')) (zn, ((zv, zi), zk), ((zv', zi'), zk')) _ _ _ _ _ (HA.out.below hcur) (HD.out.below hcur) (HB.out.below hcur) (HC.out.below hcur)).mono ?_; rintro e wS ⟨rfl, hbS⟩; replace hcur := below_step hcur hbS))
          all_goals
            go_wp2_with fail
            go_meet
            case rel => exact ⟨rfl, hcur⟩
        case rest =>
          obtain ⟨rfl, hb2⟩ := hcut
          generalize wc = w2 at *
          have hB2 := below_step hBr hb2
          cases he : sameL (yn, ((yv, yi), yk), ((yv', yi'), yk')) (zn, ((zv, zi), zk), ((zv', zi'), zk'))
          · have Hf : Hid (sameC k l = false) := sameC_no Hy.out Hz.out he
            clear he
            go_wp2_with fail
            go_ret
            exact ⟨by rw [Hf.out]; rfl, hB2⟩
          · have Hok2 : Hid (∀ i, i < j + 1 → ∀ a b, k[i]? = some a → l[i]? = some b → sameL a b = true) := fun i hi a b ha hb => by
              by_cases e : i = j
              · subst e; rw [Hy.out] at ha; rw [Hz.out] at hb; cases ha; cases hb; exact he
              · exact Hok.out i (by omega) a b ha hb
            clear he
            go_wp2_with fail
            go_roundw
            case rel => exact ⟨j + 1, by omega, by go_num, Hok2.out, hB2⟩
            case measure => simp [intOf]; omega
      · have Hf : Hid (sameC k l = true) := sameC_yes Hll.out (fun i hi => Hok.out i (by omega))
        go_wp2_with fail
        go_ret
        exact ⟨by rw [Hf.out]; rfl, hBr⟩
  · have hllb : ((k.length : Int) != (l.length : Int)) = true := by simp; omega
    have Hf : Hid (sameC k l = false) := sameC_len hll
    go_enter Try.func45, Try.ntmps45
    go_wp2_with fail
    go_ret
    exact ⟨by rw [Hf.out]; rfl, Below.refl _ _⟩

end Go.Proofs.Ytfnkjadfepoicac

/- Lists of clauses that lie in memory; the document's Right, SameClauses, turn. -/
namespace Go.Proofs.Ytfnkjadfepoicac
open Go.RowKit Go.Deep Go.ChangeShapes Go.WideShapes
attribute [local go_sem ↓] Go.wp_at_zero Go.wp_at_succ

/-- The clauses cs lie in w, as the value v says. -/
def CsIn (w : World) (cs : List Cl) (v : Value) : Prop :=
  ∃ (a : Option Addr) (k b o : Nat), v = .slice a cs.length k ∧ (0 < cs.length → a = some ⟨b, o, none⟩) ∧ cs.length ≤ k ∧ k ≤ maxLen ∧ ∀ i c, cs[i]? = some c → ∃ cv, w.cell? ⟨b, o + i, none⟩ = some cv ∧ CIn w c cv
theorem CsIn.below {w w' : World} (hb : Below w.heap.size w w') {cs : List Cl} {v : Value} (h : CsIn w cs v) : CsIn w' cs v := by
  obtain ⟨a, k, b, o, h1, h2, h3, h4, h5⟩ := h
  refine ⟨a, k, b, o, h1, h2, h3, h4, fun i c hc => ?_⟩
  obtain ⟨cv, k1, k2⟩ := h5 i c hc
  exact ⟨cv, grow_cell hb _ _ k1, k2.below hb⟩
theorem CsIn.alloc {w : World} {cs : List Cl} {v : Value} (h : CsIn w cs v) (ob : Obj) : CsIn (w.alloc ob) cs v := h.below (below_alloc w ob)
theorem CsIn.nil (w : World) : CsIn w [] (.slice none 0 0) := ⟨none, 0, 0, 0, rfl, fun h => by simp at h, Nat.le_refl _, Nat.zero_le _, fun i c h => by simp at h⟩
theorem slice_of_cs {w : World} {cs : List Cl} {v : Value} (h : CsIn w cs v) : ∃ z1 z3, v = .slice z1 cs.length z3 := by
  obtain ⟨a, k, _, _, rfl, _⟩ := h
  exact ⟨a, k, rfl⟩

/-- Right clauses of symbols, told alone. -/
def rightC (s : List Int) (cs : List Cl) : Bool := decide (wsig s = 0) && (decide (cs.length ≤ 8) && cs.all fun c => decide (wrongC s c = 0))
theorem rightC_iff {s : List Int} {cs : List Cl} : rightC s cs = true ↔ wsig s = 0 ∧ cs.length ≤ 8 ∧ ∀ c ∈ cs, wrongC s c = 0 := by
  simp [rightC, List.all_eq_true]

set_option maxRecDepth 100000 in
set_option maxHeartbeats 1000000 in
theorem rightR_any (s : List Int) (sv : Value) (cs : List Cl) (v : Value) (w : World) (hN : NIn w s sv) (hS : CsIn w cs v) :
    Calls Try.prog 22 #[sv, v] w fun e w' => e = .returned (.bool (rightC s cs)) ∧ Below w.heap.size w w' := by
  have HN := hide hN
  obtain ⟨sa, sc, _, _, rfl, -, -, -, -⟩ := hN
  obtain ⟨a1, c1, b1, o1, rfl, had1, hlc1, hcm1, hF1⟩ := hS
  unfold maxLen at hcm1
  have HF1 := hide hF1
  clear hF1
  go_enter Try.func22, Try.ntmps22
  go_wp2_with fail
  refine (wsigR_any s _ _ HN.out).mono ?_
  rintro e w' ⟨rfl, hw'⟩
  rw [hw']
  clear hw' w'
  by_cases hw : wsig s = 0
  · have Hw := hide hw
    simp only [hw]
    clear hw
    by_cases h8 : 8 < cs.length
    · have h8' : (8 : Int) < (cs.length : Int) := by omega
      have Hf : Hid (rightC s cs = false) := by
        rw [Hid, ← Bool.not_eq_true, rightC_iff]
        intro h; omega
      go_wp2_with fail
      go_ret
      exact ⟨by rw [Hf.out]; rfl, Below.refl _ _⟩
    · have h8' : ¬ (8 : Int) < (cs.length : Int) := by omega
      go_wp2_with fail
      go_loopw [17] (fun i wr => ∃ j : Nat, j ≤ cs.length ∧ i = .int .i64 j ∧ (∀ i, i < j → ∀ c, cs[i]? = some c → wrongC s c = 0) ∧ Below w.heap.size w wr) (fun i _ => cs.length - (intOf i).toNat)
      case atStart => exact ⟨0, Nat.zero_le _, rfl, fun i hi => by omega, Below.refl _ _⟩
      case round =>
        obtain ⟨j, hj, rfl, hok, hBr⟩ := hrel
        have Hok := hide hok
        clear hok
        by_cases hlt : j < cs.length
        · have hlt' : (j : Int) < (cs.length : Int) := by omega
          obtain ⟨c, hc⟩ : ∃ c, cs[j]? = some c := ⟨cs[j]'hlt, by simp⟩
          obtain ⟨cv, p0, hC⟩ := HF1.out j c hc
          replace p0 := grow_cell hBr _ _ p0
          have HC := hide (hC.below hBr)
          obtain ⟨q1, q3, rfl⟩ := slice_of_cl hC
          have ha1 : a1 = some ⟨b1, o1, none⟩ := had1 (by omega)
          subst ha1
          have Hc := hide hc
          clear hc had1 hC
          go_wp2_with fail
          refine (wrongCR_any s _ c _ _ (HN.out.below hBr) HC.out).mono ?_
          rintro e w2 ⟨rfl, hb2⟩
          replace hBr := below_step hBr hb2
          clear hb2
          by_cases he : wrongC s c = 0
          · have Hn : Hid (∀ i, i < j + 1 → ∀ c, cs[i]? = some c → wrongC s c = 0) := fun i hi d hd => by
              by_cases e : i = j
              · rw [e, Hc.out] at hd; cases hd; exact he
              · exact Hok.out i (by omega) d hd
            simp only [he]
            clear he
            go_wp2_with fail
            go_roundw
            case rel => exact ⟨j + 1, by omega, by go_num, Hn.out, hBr⟩
            case measure => simp [intOf]; omega
          · have heb : (wrongC s c != 0) = true := by simp [he]
            have Hf : Hid (rightC s cs = false) := by
              rw [Hid, ← Bool.not_eq_true, rightC_iff]
              intro h
              exact he (h.2.2 c (List.mem_of_getElem? Hc.out))
            generalize wrongC s c = er at *
            clear he
            go_wp2_with fail
            go_ret
            exact ⟨by rw [Hf.out]; rfl, hBr⟩
        · have Hf : Hid (rightC s cs = true) := by
            rw [Hid, rightC_iff]
            refine ⟨Hw.out, by omega, fun c hc => ?_⟩
            obtain ⟨i, hi⟩ := List.mem_iff_getElem?.1 hc
            have := (List.getElem?_eq_some_iff.1 hi).1
            exact Hok.out i (by omega) c hi
          clear had1
          go_wp2_with fail
          go_ret
          exact ⟨by rw [Hf.out]; rfl, hBr⟩
  · have heb : (wsig s != 0) = true := by simp [hw]
    have Hf : Hid (rightC s cs = false) := by
      rw [Hid, ← Bool.not_eq_true, rightC_iff]
      intro h; exact hw h.1
    generalize wsig s = er at heb
    clear hw
    go_wp2_with fail
    go_ret
    exact ⟨by rw [Hf.out]; rfl, Below.refl _ _⟩

def sameCs : List Cl → List Cl → Bool
  | [], [] => true
  | a :: c, b :: d => sameC a b && sameCs c d
  | _, _ => false
theorem sameCs_len : ∀ {c d : List Cl}, c.length ≠ d.length → sameCs c d = false
  | [], [], h => absurd rfl h
  | [], _ :: _, _ => rfl
  | _ :: _, [], _ => rfl
  | a :: c, b :: d, h => by rw [sameCs, sameCs_len (c := c) (d := d) (by simpa using h), Bool.and_false]
theorem sameCs_no : ∀ {c d : List Cl} {j : Nat} {a b : Cl}, c[j]? = some a → d[j]? = some b → sameC a b = false → sameCs c d = false
  | [], _, _, _, _, h, _, _ => by simp at h
  | _ :: _, [], _, _, _, _, h, _ => by simp at h
  | x :: c, y :: d, 0, a, b, ha, hb, h => by
    simp only [List.getElem?_cons_zero, Option.some.injEq] at ha hb
    subst ha; subst hb
    rw [sameCs, h, Bool.false_and]
  | x :: c, y :: d, j + 1, a, b, ha, hb, h => by
    rw [sameCs, sameCs_no (c := c) (d := d) (j := j) (by simpa using ha) (by simpa using hb) h, Bool.and_false]
theorem sameCs_yes : ∀ {c d : List Cl}, c.length = d.length → (∀ i, i < c.length → ∀ a b, c[i]? = some a → d[i]? = some b → sameC a b = true) → sameCs c d = true
  | [], [], _, _ => rfl
  | [], _ :: _, h, _ => by simp at h
  | _ :: _, [], h, _ => by simp at h
  | x :: c, y :: d, hl, h => by
    rw [sameCs, h 0 (by simp) x y (by simp) (by simp), sameCs_yes (c := c) (d := d) (by simpa using hl) (fun i hi a b ha hb => h (i + 1) (by simpa using hi) a b (by simpa using ha) (by simpa using hb))]
    rfl

set_option maxRecDepth 100000 in
set_option maxHeartbeats 1000000 in
theorem sameCsR_any (k l : List Cl) (a c : Value) (w : World) (hS1 : CsIn w k a) (hS2 : CsIn w l c) :
    Calls Try.prog 25 #[a, c] w fun e w' => e = .returned (.bool (sameCs k l)) ∧ Below w.heap.size w w' := by
  obtain ⟨a1, c1, b1, o1, rfl, had1, hlc1, hcm1, hF1⟩ := hS1
  obtain ⟨a2, c2, b2, o2, rfl, had2, hlc2, hcm2, hF2⟩ := hS2
  unfold maxLen at hcm1 hcm2
  have HF1 := hide hF1
  have HF2 := hide hF2
  clear hF1 hF2
  by_cases hll : k.length = l.length
  · have hlb : ((k.length : Int) != (l.length : Int)) = false := by simp [hll]
    have Hl := hide hll
    clear hll
    go_enter Try.func25, Try.ntmps25
    go_wp2_with fail
    clear hlb
    go_loopw [13] (fun i wr => ∃ j : Nat, j ≤ k.length ∧ i = .int .i64 j ∧ (∀ i, i < j → ∀ a b, k[i]? = some a → l[i]? = some b → sameC a b = true) ∧ Below w.heap.size w wr) (fun i _ => k.length - (intOf i).toNat)
    case atStart => exact ⟨0, Nat.zero_le _, rfl, fun i hi => by omega, Below.refl _ _⟩
    case round =>
      obtain ⟨j, hj, rfl, hok, hBr⟩ := hrel
      have Hok := hide hok
      clear hok
      by_cases hlt : j < k.length
      · have hlt' : (j : Int) < (k.length : Int) := by omega
        have hj0 : (0 : Int) ≤ (j : Int) := by omega
        have hlt2 : j < l.length := by have := Hl.out; omega
        have hlt2' : (j : Int) < (l.length : Int) := by omega
        obtain ⟨x, hx⟩ : ∃ x, k[j]? = some x := ⟨k[j]'hlt, by simp⟩
        obtain ⟨y, hy⟩ : ∃ y, l[j]? = some y := ⟨l[j]'hlt2, by simp⟩
        obtain ⟨xv, p0, hX⟩ := HF1.out j x hx
        obtain ⟨yv, q0, hY⟩ := HF2.out j y hy
        replace p0 := grow_cell hBr _ _ p0
        replace q0 := grow_cell hBr _ _ q0
        have HX := hide (hX.below hBr)
        have HY := hide (hY.below hBr)
        obtain ⟨x1, x3, rfl⟩ := slice_of_cl hX
        obtain ⟨y1, y3, rfl⟩ := slice_of_cl hY
        have ha1 : a1 = some ⟨b1, o1, none⟩ := had1 (by omega)
        have ha2 : a2 = some ⟨b2, o2, none⟩ := had2 (by omega)
        subst ha1 ha2
        have Hx := hide hx
        have Hy := hide hy
        have Hc := hide (fun (w' : World) (hb : Below wr.heap.size wr w') => sameCR_any x y _ _ w' (HX.out.below hb) (HY.out.below hb))
        have hcur : Below wr.heap.size wr wr.drew := (Below.refl _ _).drew
        obtain ⟨B, hB⟩ : ∃ B, sameC x y = B := ⟨_, rfl⟩
        rw [hB] at Hc
        have HB := hide hB
        clear hx hy had1 had2 hX hY hB
        go_upto_region 6 with fail
        go_region_held3 (fun w' => w'.cell? ⟨b1, o1 + j, none⟩ = some (.slice x1 x.length x3) ∧ w'.cell? ⟨b2, o2 + j, none⟩ = some (.slice y1 y.length y3))
          (first
            | (with_reducible exact ⟨grow_cell hcur _ _ p0, grow_cell hcur _ _ q0⟩)
            | go_keep)
          (first
            | (go_at_call 45; with_reducible refine (Hc.out _ hcur).mono ?_; rintro e wS ⟨rfl, hbS⟩; replace hcur := below_step hcur hbS))
        all_goals
          have Hend := hide (below_step hBr hcur)
          clear hcur hbS
          cases B
          · have Hf := hide (sameCs_no Hx.out Hy.out HB.out)
            go_wp2_with fail
            go_ret
            exact ⟨by rw [Hf.out]; rfl, Hend.out⟩
          · have Hn : Hid (∀ i, i < j + 1 → ∀ a b, k[i]? = some a → l[i]? = some b → sameC a b = true) := fun i hi a b ha hb => by
              by_cases e : i = j
              · rw [e, Hx.out] at ha; rw [e, Hy.out] at hb; cases ha; cases hb; exact HB.out
              · exact Hok.out i (by omega) a b ha hb
            go_wp2_with fail
            go_roundw
            case rel => exact ⟨j + 1, by omega, by go_num, Hn.out, Hend.out⟩
            case measure => simp [intOf]; omega
      · have Hf := hide (sameCs_yes Hl.out (fun i hi a b ha hb => Hok.out i (by omega) a b ha hb))
        clear had1 had2
        go_wp2_with fail
        go_ret
        exact ⟨by rw [Hf.out]; rfl, hBr⟩
  · have hlb : ((k.length : Int) != (l.length : Int)) = true := by simp; omega
    have Hf := hide (sameCs_len hll)
    clear hll
    go_enter Try.func25, Try.ntmps25
    go_wp2_with fail
    go_ret
    exact ⟨by rw [Hf.out]; rfl, Below.refl _ _⟩

end Go.Proofs.Ytfnkjadfepoicac
