import Derived.Test.YtoklbpbmghbhnaeGreatG29
import Derived.WalkKit
import Derived.ProofKit
import Derived.OpenShut
import Derived.Lib.SmallJoins
namespace Go.Proofs.YtoklbpbmghbhnaeGreat
set_option maxRecDepth 100000
set_option maxHeartbeats 16000000
open Go.RowKit Go.Deep Go.ChangeShapes Go.WideShapes
section
attribute [local go_sem ↓] Go.wp_at_zero Go.wp_at_succ
theorem YH {s:List Int} {z:Int} {tb:List (List Int)} (hm:MR s z tb) (hs:s.all bN=true) (cs:List Cl) (hr:∀c∈cs,aN s c=0) (mv v:Value) (w:World) (hT:CZ w tb mv) (hS:mD w cs v):
  Calls Tryz.prog 17 #[.agg #[.int .i64 z,mv],v] w λe w'=>e= .returned (.bool (cs.all (lQ z tb)))/\Below w.heap.size w w':=by
 have HT:=aB hT;have Hm:=aB hm;have Hs:=aB hs;have Hr:=aB hr;obtain ⟨ta,tc,rfl⟩:=AV hT;obtain ⟨a1,c1,gb,go,rfl,had,hlc,hcm,hEl⟩:=hS;unfold maxLen at hcm;have HEl:=aB hEl;clear hT hm hs hr hEl;go_enter Tryz.func17,Tryz.ntmps17
 go_upto_region 1 with fail
 generalize hW0:w.alloc (.cells #[.int .i64 z,.slice ta tb.length tc] 38)=W0;have hB0:Below w.heap.size w W0:=by rw [←hW0];exact aD _ _
 have m0:W0.cell? ⟨w.heap.size,0,none⟩=some (.int .i64 z):=by rw [←hW0];exact aF rfl
 have m1:W0.cell? ⟨w.heap.size,1,none⟩=some (.slice ta tb.length tc):=by rw [←hW0];exact aF rfl
 clear hW0
 go_wp2_with fail
 go_loopw [9] (λi wr=>∃j:Nat,j<=cs.length/\i= .int .i64 j/\Below W0.heap.size W0 wr/\∀(n:Nat) (x:Cl),n<j->cs[n]?=some x->lQ z tb x=true) (λi _=>cs.length - (intOf i).toNat)
 case atStart=>exact ⟨0,Nat.zero_le _,rfl,Below.refl _ _,λn x hn=>absurd hn (by omega)⟩
 case round=>
  obtain ⟨j,hj,rfl,hBr,hall⟩:=hrel;have qI:=aB hall;have hB1:=aC hB0 hBr;clear hall;by_cases hlt:j<cs.length
  · have hlt':(j:Int)<(cs.length:Int):=by omega
    obtain ⟨x,hx⟩:∃x,cs[j]?=some x:=⟨cs[j]'hlt,by simp⟩;obtain ⟨xv,p0,hX⟩:=HEl.out j x hx;replace p0:=aA hB1 _ _ p0;have q0:=aA hBr _ _ m0;have q1:=aA hBr _ _ m1;have HX:=aB (hX.below hB1);obtain ⟨x1,x3,rfl⟩:=aK hX;have ha1:a1=some ⟨gb,go,none⟩:=had (by omega);subst ha1;have Hx:=Hr.out x (List.mem_of_getElem? hx);have Hh:=aB (CF Hm.out Hs.out Hx _ _ wr (HT.out.below hB1) HX.out);obtain ⟨b,hb⟩:∃b,lQ z tb x=b:=⟨_,rfl⟩;rw [hb] at Hh;have Hb:=aB hb;have Hxx:=aB hx;clear hx had hX Hx hb
    go_wp2_with fail
    refine Hh.out.mono ?_;rintro e w5 ⟨rfl,hb5⟩;replace hBr:=aC hBr hb5;clear hb5 Hh;cases b
    case true=>
     go_wp2_with fail
     go_roundw
     case rel=>
      refine ⟨j+1,by omega,by go_num,hBr,λn y hn hy=>?_⟩;by_cases h:n<j
      · exact qI.out n y h hy
      · have:n=j:=by omega
        subst this;rw [Hxx.out] at hy;cases hy;exact Hb.out
     case measure=>simp [intOf];omega
    case false=>
     have hf:cs.all (lQ z tb)=false:=by rw [Bool.eq_false_iff];intro h;have:=List.all_eq_true.1 h x (List.mem_of_getElem? Hxx.out);rw [Hb.out] at this;cases this
     have Hf:=aB hf;clear hf
     go_wp2_with fail
     go_ret;exact ⟨by rw [Hf.out];rfl,aC hB0 hBr⟩
  · have hf:cs.all (lQ z tb)=true:=List.all_eq_true.2 λx hx=>by
     obtain ⟨n,hn,e⟩:=List.mem_iff_getElem.1 hx;exact qI.out n x (by omega) (by rw [List.getElem?_eq_getElem hn,e])
    have Hf:=aB hf;clear had hf
    go_wp2_with fail
    go_ret;exact ⟨by rw [Hf.out];rfl,hB1⟩
section
variable {W:World} {bl2 bx:Nat} {X L:Value} {n1 n2:Int} {D:Nat->Bool} {w w':World} {s44 gB fZ kV kU s49 s50 s51 s52 s53 s54 s55 s56 s57 s58 s59 s60 s61 s62 s63:Value}
end
end
section
attribute [local go_sem ↓] Go.wp_at_zero Go.wp_at_succ
theorem MX (s:List Int) (sv:Value) (cs:List Cl) (csv:Value) (ps:List Int) (psv:Value) (z:Int) (tb:List (List Int)) (mv:Value) (w:World) (hN:iK w s sv) (hC:mD w cs csv) (hK:iK w ps psv) (hT:CZ w tb mv) (hnm:∀c∈cs,∀l∈c,Fo.norm l.2.1.2=l.2.1.2/\Fo.norm l.2.2.2=l.2.2.2) (_:cs.length*24<=140737488351232):
  Calls Tryz.prog 4 #[sv,csv,psv,.agg #[.int .i64 z,mv]] w λe w'=>e= .returned (.bool true)/\Below w.heap.size w w':=by
 obtain ⟨U,hU⟩:=U6;have HU:=aB hU;have HN:=aB hN;have HC:=aB hC;have HK:=aB hK;have HT:=aB hT;have Hnm:=aB hnm;obtain ⟨sa,sc,rfl⟩:=dR hN;obtain ⟨c1,c3,rfl⟩:=FM hC;obtain ⟨ka,kc,kb,ko,rfl,hka,hkl,ZH,hkF⟩:=hK;obtain ⟨ta,tc,rfl⟩:=AV hT;have HkF:=aB hkF;unfold maxLen at ZH;clear hU hC hT hnm hN hkF;go_enter Tryz.func4,Tryz.ntmps4
 go_upto_region 1 with fail
 generalize hW0:w.alloc (.cells #[.int .i64 z,.slice ta tb.length tc] 38)=wn;have hB:Below w.heap.size w wn:=by rw [←hW0];exact aD _ _
 have m0:wn.cell? ⟨w.heap.size,0,none⟩=some (.int .i64 z):=by rw [←hW0];exact aF rfl
 have m1:wn.cell? ⟨w.heap.size,1,none⟩=some (.slice ta tb.length tc):=by rw [←hW0];exact aF rfl
 have hbl:w.heap.size<wn.heap.size:=by rw [←hW0];simp
 have IA:=aB hbl;clear hW0 hbl
 go_wp2_with fail
 refine (aB5 _).mono ?_;rintro e w1 ⟨rfl,hb⟩;replace hB:=aC hB hb;replace m0:=aA hb _ _ m0;replace m1:=aA hb _ _ m1;replace IA:=aB (Nat.lt_of_lt_of_le IA.out hb.size);clear hb;generalize w1=wm at*;clear wn;obtain ⟨B,hBe⟩:∃B,B=vI s cs:=⟨_,rfl⟩;have Hr:=aB (aA6 s _ cs _ wm (HN.out.below hB) (HC.out.below hB));rw [←hBe] at Hr;have HBe:=aB hBe;clear hBe
 go_wp2_with fail
 refine Hr.out.mono ?_;rintro e w1 ⟨rfl,hb⟩;replace hB:=aC hB hb;replace m0:=aA hb _ _ m0;replace m1:=aA hb _ _ m1;replace IA:=aB (Nat.lt_of_lt_of_le IA.out hb.size);clear hb Hr;generalize w1=wn at*;clear wm;cases B with
 |false=>
  go_wp2_with fail
  go_ret;exact ⟨rfl,hB⟩
 |true=>
  have Hrt:=aB (pX.1 HBe.out.symm);have Hs:Hid (s.all bN=true):=(GY Hrt.out.1).1
  go_wp2_with fail
  refine (X4 s _ z tb _ _ (HN.out.below hB) (HT.out.below hB) Hs.out).mono ?_;rintro e w1 ⟨rfl,hb⟩;replace hB:=aC hB hb;replace m0:=aA hb _ _ m0;replace m1:=aA hb _ _ m1;replace IA:=aB (Nat.lt_of_lt_of_le IA.out hb.size);clear hb;generalize w1=wm at*;clear wn;by_cases hm:rA s z tb=0
  case neg=>
   have xJ:(rA s z tb !=0)=true:=by simp [hm]
   generalize rA s z tb=er at*;clear hm
   go_wp2_with fail
   go_ret;exact ⟨rfl,hB⟩
  case pos=>
   have Hm:=aB (aD2 hm);simp only [hm];clear hm;have Hmo:=aB (YH Hm.out Hs.out cs Hrt.out.2.2 _ _ wm (HT.out.below hB) (HC.out.below hB));obtain ⟨M,hM⟩:∃M,M=cs.all (lQ z tb):=⟨_,rfl⟩;rw [←hM] at Hmo;have HM:=aB hM;clear hM
   go_wp2_with fail
   refine Hmo.out.mono ?_;rintro e w1 ⟨rfl,hb⟩;replace hB:=aC hB hb;replace m0:=aA hb _ _ m0;replace m1:=aA hb _ _ m1;replace IA:=aB (Nat.lt_of_lt_of_le IA.out hb.size);clear hb Hmo;generalize w1=wn at*;clear wm;cases M with
   |false=>
    go_wp2_with fail
    go_ret;exact ⟨rfl,hB⟩
   |true=>
    have qI:Hid (∀c∈cs,aY z tb c):=λc hc=>(LF Hm.out (Hrt.out.2.2 c hc)).1 (List.all_eq_true.1 HM.out.symm c hc);by_cases h20:20<ps.length
    · have aT5:(20:Int)<(ps.length:Int):=by omega
      go_wp2_with fail
      go_ret;exact ⟨rfl,hB⟩
    have aT5:¬(20:Int)<(ps.length:Int):=by omega
    have Hne:=aB (WF s _ cs _ wn (HN.out.below hB) (HC.out.below hB) Hnm.out);have hnew:(pJ s cs).1=0/\kY (pJ s cs).2/\(pJ s cs).2.sig=s/\xU z tb (pJ s cs).2:=by
     rcases WG Hnm.out (s:=s) with ⟨_,h⟩|⟨h1,_,_,_,h2,h3,_,h4⟩
     · exact absurd ⟨Hrt.out.1,Hrt.out.2.1,Hrt.out.2.2⟩ h
     · exact ⟨h1,h2,h3,h4 z tb qI.out⟩
    have hfr:=aC4 (s:=s) (cs:=cs);obtain ⟨⟨er,⟨sg,sts,act,wai,fnd,lst⟩⟩,hq⟩:∃q,q=pJ s cs:=⟨_,rfl⟩;rw [←hq] at Hne hnew hfr;obtain ⟨rfl,hI0,hsg,hH0⟩:=hnew;simp only at hsg;subst hsg;have HI0:=aB hI0;have HH0:=aB hH0;have Hf0:=aB hfr;unfold ZC at Hne;simp only at Hne;clear hq hI0 hH0 hfr
    go_wp2_with fail
    refine Hne.out.mono ?_;rintro e w2 ⟨b1,b2,b3,b4,rfl,hP,hb2⟩;have HP:=aB hP;have hB2:=aC hB hb2;replace m0:=aA hb2 _ _ m0;replace m1:=aA hb2 _ _ m1;obtain ⟨q1,q3,rfl⟩:=hP.1.slice;obtain ⟨q4,q6,rfl⟩:=jI hP.2.1;obtain ⟨q7,TS,rfl⟩:=hP.2.2.1.slice;obtain ⟨r1,r3,rfl⟩:=hP.2.2.2.slice;have aRQ:=aB (Nat.lt_of_lt_of_le IA.out hb2.size);clear hP hb2 Hne IA hB;simp only at*
    go_upto_region 6 with fail
    have bZ:=aD w2 (.cells #[.slice q1 sg.length q3,.slice q4 sts.length q6,.slice q7 act.length TS,.slice r1 wai.length r3,.int .i64 fnd,.bool lst] 27);have Hx:Hid (B6 (w2.alloc (.cells #[.slice q1 sg.length q3,.slice q4 sts.length q6,.slice q7 act.length TS,.slice r1 wai.length r3,.int .i64 fnd,.bool lst] 27)) w2.heap.size (.slice q1 sg.length q3) (.slice q4 sts.length q6) (.slice q7 act.length TS) (.slice r1 wai.length r3) (.int .i64 fnd) (.bool lst)):=B6.new _ _ _ _ _ _ _ _;have Hx6:Hid (N6 (w2.alloc (.cells #[.slice q1 sg.length q3,.slice q4 sts.length q6,.slice q7 act.length TS,.slice r1 wai.length r3,.int .i64 fnd,.bool lst] 27)) w2.heap.size):=N6.at rfl;generalize w2.alloc (.cells #[.slice q1 sg.length q3,.slice q4 sts.length q6,.slice q7 act.length TS,.slice r1 wai.length r3,.int .i64 fnd,.bool lst] 27)=w3 at*;obtain ⟨pb,hpb⟩:∃pb,pb=w2.heap.size:=⟨_,rfl⟩;rw [←hpb] at Hx Hx6 ⊢;have HP3:=aB (HP.out.below bZ);have HB3:=aB (aC hB2 bZ);have Hm0:=aB (aA bZ _ _ m0);have Hm1:=aB (aA bZ _ _ m1);have Hpb:Hid (w.heap.size<pb):=by rw [Hid,hpb];exact aRQ.out
    clear bZ hpb m0 m1 HP hB2 aRQ;clear w2
    go_wp2_with fail
    go_loopw [52] (λi wr=>∃(j:Nat) (pj:Pf) (z1 z2 z3 z4:Value),j<=ps.length/\i= .int .i64 j/\kY pj/\mY pj/\pj.sig=sg/\xU z tb pj/\oW (λ_=>False) wr pj z1 z2 z3 z4/\B6 wr pb z1 z2 z3 z4 (.int .i64 pj.fnd) (.bool pj.lst)/\N6 wr pb/\Below w.heap.size w wr/\wr.cell? ⟨w.heap.size,0,none⟩=some (.int .i64 z)/\wr.cell? ⟨w.heap.size,1,none⟩=some (.slice ta tb.length tc)) (λi _=>ps.length - (intOf i).toNat)
    case atStart=>exact ⟨0,⟨sg,sts,act,wai,fnd,lst⟩,_,_,_,_,Nat.zero_le _,rfl,HI0.out,Hf0.out,rfl,HH0.out,HP3.out.mono (λ_ h=>h.elim),Hx.out,Hx6.out,HB3.out,Hm0.out,Hm1.out⟩
    case round=>
     clear Hx Hx6 HP3 HB3 Hm0 Hm1 HI0 HH0 Hf0;obtain ⟨j,⟨MK,l7,act',rG,oJ,rM⟩,z1,z2,z3,z4,hj,rfl,hI,hf,hsg,hH,hP,hx,hn6,hBr,hm0,hm1⟩:=hrel;simp only at hsg;subst hsg;have HI:=aB hI;have Hf:=aB hf;have HH:=aB hH;have HP:=aB hP;have Hx:=aB hx;have Hn6:=aB hn6;have xM:=aB hBr;have Hm0:=aB hm0;have Hm1:=aB hm1;obtain ⟨y1,y3,rfl⟩:=hP.1.slice;obtain ⟨y4,y6,rfl⟩:=jI hP.2.1;obtain ⟨y7,y9,rfl⟩:=hP.2.2.1.slice;obtain ⟨x1,x3,rfl⟩:=hP.2.2.2.slice;generalize wr=wa at*;clear hI hf hH hP hx hn6 hBr hm0 hm1;simp only at*;obtain ⟨g0,g1,g2,g3,g4,g5,gf⟩:=Hx.out;by_cases hlt:j<ps.length
     · have hlt':(j:Int)<(ps.length:Int):=by omega
       have aTH:=hka (by omega);subst aTH;have q0:=aA xM.out _ _ (HkF.out j hlt);obtain ⟨n,hn⟩:∃n,n=ps.getD j 0:=⟨_,rfl⟩;rw [←hn] at q0;have Hpk:=aB (EM HU.out ⟨MK,l7,act',rG,oJ,rM⟩ _ _ _ _ n wa HP.out HI.out Hf.out);have hpi:=yY HU.out (n:=n) HI.out;have hpf:=JZ (U:=U) (n:=n) Hf.out HI.out;have hph:=aBB HU.out (n:=n) Hm.out HI.out HH.out;have hps:(kE U ⟨MK,l7,act',rG,oJ,rM⟩ n).2.sig=MK:=by
        rcases OU HU.out (n:=n) HI.out with ⟨_,e⟩|⟨_,_,_,e⟩
        · rw [e]
        · exact e.n.a.sg
       obtain ⟨⟨er,⟨MB,gY,lN,kZ,kC,lM⟩⟩,hq⟩:∃q,q=kE U ⟨MK,l7,act',rG,oJ,rM⟩ n:=⟨_,rfl⟩;rw [←hq] at Hpk hpi hpf hph hps;simp only at hps;subst hps;unfold ZC at Hpk;simp only at Hpk;have Hpi:=aB hpi;have Hpf:=aB hpf;have Hph:=aB hph;clear hpi hpf hph hq hka hn
       go_wp2_with fail
       refine Hpk.out.mono ?_;rintro e w5 ⟨b1,b2,b3,b4,rfl,hP,hb5⟩;have HPn:=aB hP;have GA:=aB (aC xM.out hb5);have Hx5:=aB (Hx.out.below hb5);have Hn5:=aB (Hn6.out.below (B6.lt Hx.out) hb5);replace Hm0:=aB (aA hb5 _ _ Hm0.out);replace Hm1:=aB (aA hb5 _ _ Hm1.out);have Hpw:=aB (B6.lt Hx.out);obtain ⟨q1,q3,rfl⟩:=hP.1.slice;obtain ⟨q4,q6,rfl⟩:=jI hP.2.1;obtain ⟨q7,TS,rfl⟩:=hP.2.2.1.slice;obtain ⟨r1,r3,rfl⟩:=hP.2.2.2.slice;clear hP hb5 Hpk g0 g1 g2 g3 g4 g5 gf q0 HP xM Hx Hn6 HI Hf HH;simp only at*
       go_upto_region 12 with fail
       have bZ:=aD w5 (.cells #[.slice q1 MB.length q3,.slice q4 gY.length q6,.slice q7 lN.length TS,.slice r1 kZ.length r3,.int .i64 kC,.bool lM] 27);have Hy:Hid (B6 (w5.alloc (.cells #[.slice q1 MB.length q3,.slice q4 gY.length q6,.slice q7 lN.length TS,.slice r1 kZ.length r3,.int .i64 kC,.bool lM] 27)) w5.heap.size (.slice q1 MB.length q3) (.slice q4 gY.length q6) (.slice q7 lN.length TS) (.slice r1 kZ.length r3) (.int .i64 kC) (.bool lM)):=B6.new _ _ _ _ _ _ _ _;generalize w5.alloc (.cells #[.slice q1 MB.length q3,.slice q4 gY.length q6,.slice q7 lN.length TS,.slice r1 kZ.length r3,.int .i64 kC,.bool lM] 27)=w6 at*;obtain ⟨yb,hyb⟩:∃yb,yb=w5.heap.size:=⟨_,rfl⟩;rw [←hyb] at Hy ⊢;obtain ⟨x0,x1',x2,x3',x4,x5,-⟩:=Hy.out;have Hx7:=aB (Hx5.out.below bZ);have Hn7:=aB (Hn5.out.below (B6.lt Hx5.out) bZ);obtain ⟨g0,g1,g2,g3,g4,g5,gf⟩:=Hx7.out;have f0:=gf 0;have f1:=gf 1;have f2:=gf 2;have f3:=gf 3;have f4:=gf 4;have f5:=gf 5;have HP6:=aB ((HPn.out.below bZ).mono (E':=λq=>q=pb) (λq hq=>by have h:=Hpw.out;show q<wa.heap.size;omega))
       have hnt:=aGM Hx7.out Hn7.out;obtain ⟨wF,hwF⟩:∃wF,wF=set6 w6 pb (.slice q1 MB.length q3) (.slice q4 gY.length q6) (.slice q7 lN.length TS) (.slice r1 kZ.length r3) (.int .i64 kC) (.bool lM):=⟨_,rfl⟩;have HPF:=aB ((HP6.out.boxed (w':=wF) hnt rfl (λq hq=>by rw [hwF];exact sD hq)).mono (E':=λ_=>False) (λ_ h=>h.elim));have HxF:Hid (B6 wF pb (.slice q1 MB.length q3) (.slice q4 gY.length q6) (.slice q7 lN.length TS) (.slice r1 kZ.length r3) (.int .i64 kC) (.bool lM)):=by rw [hwF];exact Hx7.out.set
       have HnF:Hid (N6 wF pb):=by rw [hwF];exact Hn7.out.set6
       have HBF:Hid (Below w.heap.size w wF):=by rw [hwF];exact eY (aC GA.out bZ) (Nat.le_of_lt Hpb.out)
       have hne:w.heap.size≠pb:=Nat.ne_of_lt Hpb.out;have aUT:Hid (wF.cell? ⟨w.heap.size,0,none⟩=some (.int .i64 z)):=by rw [Hid,hwF,World.cell?_of_block (a:=⟨w.heap.size,0,none⟩) (sD hne)];exact aA bZ _ _ Hm0.out
       have aUS:Hid (wF.cell? ⟨w.heap.size,1,none⟩=some (.slice ta tb.length tc)):=by rw [Hid,hwF,World.cell?_of_block (a:=⟨w.heap.size,1,none⟩) (sD hne)];exact aA bZ _ _ Hm1.out
       unfold set6 at hwF;have HwF:=aB hwF;clear bZ hyb gf hnt HPn GA Hx5 Hn5 Hm0 Hm1 hne hwF
       go_wp2_with fail
       rw [←HwF.out];go_roundw
       case rel=>exact ⟨j+1,⟨MB,gY,lN,kZ,kC,lM⟩,_,_,_,_,by omega,by go_num,Hpi.out,Hpf.out,rfl,Hph.out,HPF.out,HxF.out,HnF.out,HBF.out,aUT.out,aUS.out⟩
       case measure=>simp [intOf];omega
     · have hlt':¬(j:Int)<(ps.length:Int):=by omega
       have Hfn:=aB (aBI Hm.out HI.out HH.out);simp only at Hfn;obtain ⟨ya,yc,yb,yo,hye,hya,hyl,hym,hyF⟩:=HP.out.2.1;simp only [Value.slice.injEq,true_and] at hye;obtain ⟨hy1,hy2⟩:=hye;subst hy1 hy2;have HyF:=aB hyF;unfold maxLen at hym;simp only at hya hyl;have aRM:=aB HI.out.r.rt;simp only at aRM;have Hl1:Hid (l7.length<=120):=HI.out.r.g.gl;clear hka hyF gf g0 g2 g3 g5
       go_wp2_with fail
       clear g1 g4
       go_loopw [67] (λi wr=>∃(i9:Nat),i9<=l7.length/\i= .int .i64 i9/\Below wa.heap.size wa wr) (λi _=>l7.length - (intOf i).toNat)
       case atStart=>exact ⟨0,Nat.zero_le _,rfl,Below.refl _ _⟩
       case round=>
        obtain ⟨i9,hi9,rfl,hBi⟩:=hrel;have HBi:=aB hBi;generalize wr=wc at*;clear hBi;have m0:=aA HBi.out _ _ Hm0.out;have m1:=aA HBi.out _ _ Hm1.out;have g4:=aA HBi.out _ _ Hx.out.2.2.2.2.1;have aWF:l7.length<=120:=Hl1.out;by_cases hil:i9<l7.length
        · have aTL:(i9:Int)<(l7.length:Int):=by omega
          obtain ⟨⟨r,fr,c⟩,hx⟩:∃x,l7[i9]?=some x:=⟨l7[i9]'hil,by simp⟩;obtain ⟨e0,⟨fv,e1,e2⟩,cv,e3,e4⟩:=HyF.out i9 _ hx;have aS1:=(hya (by omega)).1;subst aS1;replace e0:=aA HBi.out _ _ e0;replace e1:=aA HBi.out _ _ e1;replace e3:=aA HBi.out _ _ e3;obtain ⟨f1,f3,rfl⟩:=e2.slice;obtain ⟨c4,c5,rfl⟩:=aK e4;have hmem:=List.mem_of_getElem? hx;have hwc:=aRM.out _ hmem;have Hho:Hid (lQ z tb c=true):=(LF Hm.out hwc).2 (HH.out _ hmem);have Hwc:=aB hwc;have HCc:=aB (e4.below HBi.out);simp only at e0 e1 e3 HCc Hwc;clear e2 e4 hx hmem hwc hya
          go_upto_region 17 with fail
          generalize hwd:wc.alloc (.cells #[.int .i64 r,.slice f1 fr.length f3,.slice c4 c.length c5] 46)=wd;have hbd:Below wc.heap.size wc wd:=by rw [←hwd];exact aD _ _
          have d2:wd.cell? ⟨wc.heap.size,2,none⟩=some (.slice c4 c.length c5):=by rw [←hwd];simp
          replace m0:=aA hbd _ _ m0;replace m1:=aA hbd _ _ m1;have HBd:=aB (aC HBi.out hbd);have Hhd:=aB (CF Hm.out Hs.out Hwc.out _ _ wd (HT.out.below (aC xM.out HBd.out)) (HCc.out.below hbd));rw [Hho.out] at Hhd;clear hwd hbd e0 e1 e3
          go_wp2_with fail
          refine Hhd.out.mono ?_;rintro e we ⟨rfl,hbe⟩;have HBe:=aB (aC HBd.out hbe);clear hbe Hhd m0 m1 d2 g4
          go_wp2_with fail
          go_roundw
          case rel=>exact ⟨i9+1,by omega,by go_num,HBe.out⟩
          case measure=>simp [intOf];omega
        · have aTL:¬(i9:Int)<(l7.length:Int):=by omega
          rw [Hfn.out] at g4;have HBe:=aB (aC xM.out HBi.out);clear hya
          go_wp2_with fail
          go_ret;exact ⟨rfl,HBe.out⟩
end
section
open Go.ChangeShapes Go.WideShapes Go.ChangeAt Go.WideMaps Go.WideElems Go.RowKit Go.Deep Go.Joins
theorem Tryz.cells86:Tryz.prog.cellsOf 86=7:=by kernel_rfl
section
variable {H:Type} {enc:TypeId×Value->H} {W:World} {sp:Nat->Bool} {held:Bool}
theorem aJE {fuel:Nat} {cs:List Value} {x:DataW H×List MemPlace} (h:DataW.trod enc Tryz.prog W 0 sp held fuel 86 cs=some x):
  ∃(l:Lt) (a d:Value),cs=jT l a d/\cO W l.2.1.2 a/\cO W l.2.2.2 d:=by
 obtain ⟨xs,m,rfl,_,hl,hlen,hf⟩:=DataW.trod_struct Tryz.underlying86 h;rw [Tryz.cells86] at hl
 match xs,hlen,cs,hl with
 |[y0,y1,y2],_,[c0,c1,c2,c3,c4,c5,c6],_=>have q0:=hf 0 _ rfl;have q1:=hf 1 _ rfl;have q2:=hf 2 _ rfl;simp [Tryz.cells4,Tryz.cells84] at q0 q1 q2;obtain ⟨n,e0,_⟩:=DataW.trod_bool Tryz.underlying4 q0;obtain ⟨v,z,a,m',y,_,e1,hy⟩:=EO q1;obtain ⟨k,hk⟩:=K4 _ _ _ hy;obtain ⟨v',z',a',m'',y',_,e2,hy'⟩:=EO q2;obtain ⟨k',hk'⟩:=K4 _ _ _ hy';simp only [List.cons.injEq,and_true] at e0 e1 e2;obtain ⟨rfl,rfl,rfl⟩:=e1;obtain ⟨rfl,rfl,rfl⟩:=e2;subst e0;exact ⟨(n,((v,z),k),((v',z'),k')),c3,c6,rfl,hk,hk'⟩
theorem XL {b:Nat}:∀(n o:Nat),(∀i,i<n->∃(l:Lt) (a d:Value),W.cell? ⟨b,o+7*i,none⟩=some (.bool l.1)/\W.cell? ⟨b,o+7*i+1,none⟩=some (.bool l.2.1.1.1)/\W.cell? ⟨b,o+7*i+2,none⟩=some (.int .i64 l.2.1.1.2)/\W.cell? ⟨b,o+7*i+3,none⟩=some a/\W.cell? ⟨b,o+7*i+4,none⟩=some (.bool l.2.2.1.1)/\W.cell? ⟨b,o+7*i+5,none⟩=some (.int .i64 l.2.2.1.2)/\W.cell? ⟨b,o+7*i+6,none⟩=some d/\cO W l.2.1.2 a/\cO W l.2.2.2 d)->∃s:Cl,s.length=n/\GQ W s b o
 |0,_,_=>⟨[],rfl,trivial⟩
 |n+1,o,h=>by
  obtain ⟨s,hl,hP⟩:=XL n (o+7) (λi hi=>by have:=h (i+1) (by omega);rw [show o+7*(i+1)=o+7+7*i by omega] at this;exact this)
  obtain ⟨l,a,d,h0,h1,h2,h3,h4,h5,h6,h7,h8⟩:=h 0 (by omega);exact ⟨l::s,by simp [hl],⟨by simpa using h0,by simpa using h1,by simpa using h2,⟨a,by simpa using h3,h7⟩,by simpa using h4,by simpa using h5,d,by simpa using h6,h8⟩,hP⟩
end
def vJ (s:Cl):Cl:=s.map λl=>(l.1,(l.2.1.1,Fo.norm l.2.1.2),(l.2.2.1,Fo.norm l.2.2.2))
theorem WM {w:World}:∀{s:Cl} {b o:Nat},GQ w s b o->GQ w (vJ s) b o
 |[],_,_,_=>trivial
 |_::_,_,_,⟨⟨h0,h1,h2,⟨v,h3,h4⟩,h5,h6,u,h7,h8⟩,h9⟩=>⟨⟨h0,h1,h2,⟨v,h3,VP h4⟩,h5,h6,u,h7,VP h8⟩,WM h9⟩
theorem aM6 {w:World} {s:Cl} {v:Value} (h:dQ w s v):dQ w (vJ s) v:=by obtain ⟨a,c,b,o,rfl,h2,h3,h4,h5⟩:=h;exact ⟨a,c,b,o,by simp [vJ],by simpa [vJ] using h2,by simpa [vJ] using h3,h4,WM h5⟩
theorem YG {s:Cl}:∀l∈vJ s,Fo.norm l.2.1.2=l.2.1.2/\Fo.norm l.2.2.2=l.2.2.2:=λp hp=>by simp only [vJ,List.mem_map] at hp;obtain ⟨q,_,rfl⟩:=hp;exact ⟨xA _,xA _⟩
end
section
open Go.ChangeShapes Go.WideShapes Go.ChangeAt Go.WideMaps Go.WideElems Go.RowKit Go.Deep Go.Joins
theorem Tryz.cells22:Tryz.prog.cellsOf 22=1:=by kernel_rfl
theorem Tryz.cells38:Tryz.prog.cellsOf 38=2:=by kernel_rfl
section
variable {H:Type} {enc:TypeId×Value->H} {W:World} {sp:Nat->Bool} {held:Bool}
theorem LW {b:Nat}:∀(n o:Nat),(∀i,i<n->∃x:Int,W.cell? ⟨b,o+i,none⟩=some (.int .i64 x))->∃l:List Int,l.length=n/\∀i,i<n->W.cell? ⟨b,o+i,none⟩=some (.int .i64 (l.getD i 0))
 |0,_,_=>⟨[],rfl,λi hi=>by omega⟩
 |n+1,o,h=>by
  obtain ⟨l,hl,hc⟩:=LW n (o+1) (λi hi=>by have:=h (i+1) (by omega);rw [show o+(i+1)=o+1+i by omega] at this;exact this)
  obtain ⟨x,hx⟩:=h 0 (by omega);refine ⟨x::l,by simp [hl],λi hi=>?_⟩;cases i with
  |zero=>simpa using hx
  |succ i=>have:=hc i (by omega);rw [show o+1+i=o+(i+1) by omega] at this;simpa using this
theorem LV {b:Nat}:∀(n o:Nat),(∀i,i<n->∃(l:List Int) (v:Value),W.cell? ⟨b,o+i,none⟩=some v/\iK W l v)->∃L:List (List Int),L.length=n/\∀i,i<n->∃v,W.cell? ⟨b,o+i,none⟩=some v/\iK W (L.getD i []) v
 |0,_,_=>⟨[],rfl,λi hi=>by omega⟩
 |n+1,o,h=>by
  obtain ⟨L,hl,hc⟩:=LV n (o+1) (λi hi=>by have:=h (i+1) (by omega);rw [show o+(i+1)=o+1+i by omega] at this;exact this)
  obtain ⟨l,v,hx,hv⟩:=h 0 (by omega);refine ⟨l::L,by simp [hl],λi hi=>?_⟩;cases i with
  |zero=>exact ⟨v,by simpa using hx,by simpa using hv⟩
  |succ i=>obtain ⟨u,hu,hN⟩:=hc i (by omega);rw [show o+1+i=o+(i+1) by omega] at hu;exact ⟨u,hu,by simpa using hN⟩
theorem aJC {fuel:Nat} {v:Value} {x:DataW H×List MemPlace} (h:DataW.trod enc Tryz.prog W 0 sp held fuel 22 [v]=some x):∃l:List Int,iK W l v:=by
 rcases DataW.trod_slice Tryz.underlying22 h with ⟨hc,_⟩|⟨a,len,bW,elems,rest,n,aB7,hc,_,_,hlc,hcm,hlen,hel,_,_⟩
 · simp only [List.cons.injEq,and_true] at hc;subst hc;exact ⟨[],none,0,0,0,rfl,λh=>by simp at h,Nat.le_refl _,Nat.zero_le _,λi hi=>by simp at hi⟩
 · simp only [List.cons.injEq,and_true] at hc;subst hc;rw [Tryz.cells3] at hel;obtain ⟨b,o,spot⟩:=a;have hone:∀i,i<len->∃x:Int,W.cell? ((⟨b,o,spot⟩:Addr).add (i*1))=some (.int .i64 x):=λi hi=>by
    have h1:=hel i hi;have hi':i<elems.length:=by omega
    rw [List.getElem?_eq_getElem hi'] at h1;obtain ⟨cs,h2,h3⟩:=Option.bind_eq_some_iff.1 h1;obtain ⟨_,hl3,hcell⟩:=World.cells?_some h2;obtain ⟨n,e1,_,_⟩:=DataW.trod_int Tryz.underlying3 h3;subst e1;exact ⟨n,by simpa [Addr.add] using hcell 0 (by omega)⟩
   by_cases h0:len=0
   · subst h0;exact ⟨[],_,bW,0,0,rfl,λh=>by simp at h,Nat.zero_le _,hcm,λi hi=>by simp at hi⟩
   · have hspot:spot=none:=by
      obtain ⟨x,q0⟩:=hone 0 (by omega);simpa [Addr.add] using World.cell?_spot q0
     subst hspot;obtain ⟨l,hl1,hl2⟩:=LW (W:=W) (b:=b) len o (λi hi=>by obtain ⟨x,q0⟩:=hone i hi;rw [add_plain,Nat.mul_one] at q0;exact ⟨x,q0⟩)
     exact ⟨l,_,bW,b,o,by rw [hl1],λ_=>rfl,by omega,hcm,λi hi=>hl2 i (by omega)⟩
theorem aL5 {fuel:Nat} {v:Value} {x:DataW H×List MemPlace} (h:DataW.trod enc Tryz.prog W 0 sp held fuel 36 [v]=some x):∃L:List (List Int),CZ W L v:=by
 rcases DataW.trod_slice Tryz.underlying36 h with ⟨hc,_⟩|⟨a,len,bW,elems,rest,n,aB7,hc,_,_,hlc,hcm,hlen,hel,_,_⟩
 · simp only [List.cons.injEq,and_true] at hc;subst hc;exact ⟨[],none,0,0,0,rfl,λh=>by simp at h,Nat.le_refl _,Nat.zero_le _,λi hi=>by simp at hi⟩
 · simp only [List.cons.injEq,and_true] at hc;subst hc;rw [Tryz.cells22] at hel;obtain ⟨b,o,spot⟩:=a;have hone:∀i,i<len->∃(l:List Int) (u:Value),W.cell? ((⟨b,o,spot⟩:Addr).add (i*1))=some u/\iK W l u:=λi hi=>by
    have h1:=hel i hi;have hi':i<elems.length:=by omega
    rw [List.getElem?_eq_getElem hi'] at h1;obtain ⟨cs,h2,h3⟩:=Option.bind_eq_some_iff.1 h1;obtain ⟨_,hl3,hcell⟩:=World.cells?_some h2
    match cs,hl3 with
    |[u],_=>obtain ⟨l,hl⟩:=aJC h3;exact ⟨l,u,by simpa [Addr.add] using hcell 0 (by omega),hl⟩
   by_cases h0:len=0
   · subst h0;exact ⟨[],_,bW,0,0,rfl,λh=>by simp at h,Nat.zero_le _,hcm,λi hi=>by simp at hi⟩
   · have hspot:spot=none:=by
      obtain ⟨x,u,q0,_⟩:=hone 0 (by omega);simpa [Addr.add] using World.cell?_spot q0
     subst hspot;obtain ⟨L,hl1,hl2⟩:=LV (W:=W) (b:=b) len o (λi hi=>by obtain ⟨x,u,q0,q1⟩:=hone i hi;rw [add_plain,Nat.mul_one] at q0;exact ⟨x,u,q0,q1⟩)
     exact ⟨L,_,bW,b,o,by rw [hl1],λ_=>rfl,by omega,hcm,λi hi=>hl2 i (by omega)⟩
theorem aJD {r:Reach} {b0:Nat} {v:Value} {d:DataW H} {p:List MemPlace} (hv:Value.okWide Tryz.prog W r b0 38 v) (h:DataW.Trod enc Tryz.prog W 0 sp held 38 v d p):
  ∃(z:Int) (L:List (List Int)) (a:Value),v= .agg #[.int .i64 z,a]/\CZ W L a:=by
 obtain ⟨c0,c1,y0,y1,m,rfl,_,_,h0,h1⟩:=open_agg2 Tryz.underlying38 (by kernel_rfl) Tryz.cells38 hv h;obtain ⟨n,e1,_,_⟩:=DataW.trod_int Tryz.underlying3 h0;simp only [List.cons.injEq,and_true] at e1;subst e1;obtain ⟨L,hL⟩:=aL5 h1;exact ⟨n,L,c1,rfl,hL⟩
end
end
section
open Go.ChangeShapes Go.WideShapes Go.ChangeAt Go.WideMaps Go.WideElems Go.RowKit Go.Deep Go.Joins
theorem Tryz.cells44:Tryz.prog.cellsOf 44=1:=by kernel_rfl
section
variable {H:Type} {enc:TypeId×Value->H} {W:World} {sp:Nat->Bool} {held:Bool}
theorem aJF {fuel:Nat} {cs:List Value} {x:DataW H×List MemPlace} (hf:DataW.trod enc Tryz.prog W 0 sp held fuel 44 cs=some x):∃(v:Value) (s:Cl),cs=[v]/\dQ W s v:=by
 rcases DataW.trod_slice Tryz.underlying44 hf with ⟨hc,_⟩|⟨a,len,bW,elems,rest,n,aB7,hc,_,_,hlc,hcm,hlen,hel,_,_⟩
 · exact ⟨.slice none 0 0,[],hc,dQ.nil W⟩
 · subst hc;rw [Tryz.cells86] at hel;obtain ⟨b,o,spot⟩:=a;have hone:∀i,i<len->∃(l:Lt) (a d:Value),W.cell? ((⟨b,o,spot⟩:Addr).add (i*7))=some (.bool l.1)/\W.cell? (((⟨b,o,spot⟩:Addr).add (i*7)).add 1)=some (.bool l.2.1.1.1)/\W.cell? (((⟨b,o,spot⟩:Addr).add (i*7)).add 2)=some (.int .i64 l.2.1.1.2)/\W.cell? (((⟨b,o,spot⟩:Addr).add (i*7)).add 3)=some a/\W.cell? (((⟨b,o,spot⟩:Addr).add (i*7)).add 4)=some (.bool l.2.2.1.1)/\W.cell? (((⟨b,o,spot⟩:Addr).add (i*7)).add 5)=some (.int .i64 l.2.2.1.2)/\W.cell? (((⟨b,o,spot⟩:Addr).add (i*7)).add 6)=some d/\cO W l.2.1.2 a/\cO W l.2.2.2 d:=λi hi=>by
    have h1:=hel i hi;have hi':i<elems.length:=by omega
    rw [List.getElem?_eq_getElem hi'] at h1;obtain ⟨cs,h2,h3⟩:=Option.bind_eq_some_iff.1 h1;obtain ⟨_,hl3,hcell⟩:=World.cells?_some h2;obtain ⟨l,ta,td,rfl,hk,hk'⟩:=aJE h3;exact ⟨l,ta,td,by simpa [Addr.add] using hcell 0 (by omega),by simpa using hcell 1 (by omega),by simpa using hcell 2 (by omega),by simpa using hcell 3 (by omega),by simpa using hcell 4 (by omega),by simpa using hcell 5 (by omega),by simpa using hcell 6 (by omega),hk,hk'⟩
   by_cases h0:len=0
   · subst h0;exact ⟨_,[],rfl,_,bW,0,0,rfl,λh=>by simp at h,Nat.zero_le _,hcm,trivial⟩
   · have hspot:spot=none:=by
      obtain ⟨x,v,_,q0,_⟩:=hone 0 (by omega);simpa [Addr.add] using World.cell?_spot q0
     subst hspot;obtain ⟨s,hs1,hs2⟩:=XL (W:=W) (b:=b) len o (λi hi=>by
      obtain ⟨l,a,d,q0,q1,q2,q3,q4,q5,q6,q7,q8⟩:=hone i hi;refine ⟨l,a,d,?_,?_,?_,?_,?_,?_,?_,q7,q8⟩
      · rw [add_plain] at q0;rw [Nat.mul_comm 7 i];exact q0
      · rw [add_plain,add_plain] at q1;rw [Nat.mul_comm 7 i];exact q1
      · rw [add_plain,add_plain] at q2;rw [Nat.mul_comm 7 i];exact q2
      · rw [add_plain,add_plain] at q3;rw [Nat.mul_comm 7 i];exact q3
      · rw [add_plain,add_plain] at q4;rw [Nat.mul_comm 7 i];exact q4
      · rw [add_plain,add_plain] at q5;rw [Nat.mul_comm 7 i];exact q5
      · rw [add_plain,add_plain] at q6;rw [Nat.mul_comm 7 i];exact q6)
     exact ⟨_,s,rfl,_,bW,b,o,by rw [hs1],λ_=>rfl,by omega,hcm,hs2⟩
theorem XK {b:Nat}:∀(n o:Nat),(∀i,i<n->∃(v:Value) (s:Cl),W.cell? ⟨b,o+i,none⟩=some v/\dQ W s v)->∃cs:List Cl,cs.length=n/\∀i c,cs[i]?=some c->∃cv,W.cell? ⟨b,o+i,none⟩=some cv/\dQ W c cv
 |0,_,_=>⟨[],rfl,λi c h=>by simp at h⟩
 |n+1,o,h=>by
  obtain ⟨cs,hl,hP⟩:=XK n (o+1) (λi hi=>by have:=h (i+1) (by omega);rw [show o+(i+1)=o+1+i by omega] at this;exact this)
  obtain ⟨v,s,h0,h1⟩:=h 0 (by omega);refine ⟨s::cs,by simp [hl],λi c hc=>?_⟩
  match i,hc with
  |0,hc=>simp only [List.getElem?_cons_zero,Option.some.injEq] at hc;subst hc;exact ⟨v,h0,h1⟩
  |i+1,hc=>obtain ⟨cv,q1,q2⟩:=hP i c (by simpa using hc);exact ⟨cv,by rw [show o+(i+1)=o+1+i by omega];exact q1,q2⟩
theorem aL6 {r:Reach} {b0:Nat} {v:Value} {d:DataW H} {p:List MemPlace} (hv:Value.okWide Tryz.prog W r b0 24 v) (h:DataW.Trod enc Tryz.prog W 0 sp held 24 v d p):∃cs:List Cl,mD W cs v/\(cs=[]\/∃elems spare,d= .slice elems spare/\elems.length=cs.length):=by
 obtain ⟨a0,aNY,cap0,rfl⟩:=okWide_slice Tryz.underlying24 hv;obtain ⟨fuel,hf⟩:=h;rcases DataW.trod_slice Tryz.underlying24 hf with ⟨hc,_⟩|⟨a,len,bW,elems,rest,n,aB7,hc,hx,_,hlc,hcm,hlen,hel,_,_⟩
 · simp [Value.cells] at hc;obtain ⟨rfl,rfl,rfl⟩:=hc;exact ⟨[],mD.nil W,.inl rfl⟩
 · simp [Value.cells] at hc;obtain ⟨rfl,rfl,rfl⟩:=hc;rw [Tryz.cells44] at hel;obtain ⟨b,o,spot⟩:=a;have hone:∀i,i<aNY->∃(v:Value) (s:Cl),W.cell? ((⟨b,o,spot⟩:Addr).add i)=some v/\dQ W s v:=λi hi=>by
    have h1:=hel i hi;have hi':i<elems.length:=by omega
    rw [List.getElem?_eq_getElem hi'] at h1;obtain ⟨cs,h2,h3⟩:=Option.bind_eq_some_iff.1 h1;obtain ⟨_,hl3,hcell⟩:=World.cells?_some h2;obtain ⟨v,s,rfl,hs⟩:=aJF h3;refine ⟨v,s,?_,hs⟩;have:=hcell 0 (by omega);simpa [Addr.add] using this
   by_cases h0:aNY=0
   · subst h0;exact ⟨[],⟨_,cap0,0,0,rfl,λh=>by simp at h,Nat.zero_le _,hcm,λi c h=>by simp at h⟩,.inl rfl⟩
   · have hspot:spot=none:=by
      obtain ⟨v,s,q0,_⟩:=hone 0 (by omega);simpa [Addr.add] using World.cell?_spot q0
     subst hspot;obtain ⟨cs,hs1,hs2⟩:=XK (W:=W) (b:=b) aNY o (λi hi=>by obtain ⟨v,s,q0,q1⟩:=hone i hi;rw [add_plain] at q0;exact ⟨v,s,q0,q1⟩)
     exact ⟨cs,⟨_,cap0,b,o,by rw [hs1],λ_=>rfl,by omega,hcm,hs2⟩,.inr ⟨_,_,congrArg Prod.fst hx,by rw [List.length_map,hs1];exact hlen⟩⟩
end
def rC (cs:List Cl):List Cl:=cs.map vJ
theorem aM2 {w:World} {cs:List Cl} {v:Value} (h:mD w cs v):mD w (rC cs) v:=by obtain ⟨a,k,b,o,rfl,h2,h3,h4,h5⟩:=h;refine ⟨a,k,b,o,by simp [rC],by simpa [rC] using h2,by simpa [rC] using h3,h4,λi c hc=>?_⟩;rw [rC,List.getElem?_map] at hc;obtain ⟨c',hc',rfl⟩:=Option.map_eq_some_iff.1 hc;obtain ⟨cv,q1,q2⟩:=h5 i c' hc';exact ⟨cv,q1,aM6 q2⟩
theorem YF {cs:List Cl}:∀c∈rC cs,∀l∈c,Fo.norm l.2.1.2=l.2.1.2/\Fo.norm l.2.2.2=l.2.2.2:=λc hc=>by simp only [rC,List.mem_map] at hc;obtain ⟨q,_,rfl⟩:=hc;exact YG
end
end Go.Proofs.YtoklbpbmghbhnaeGreat
