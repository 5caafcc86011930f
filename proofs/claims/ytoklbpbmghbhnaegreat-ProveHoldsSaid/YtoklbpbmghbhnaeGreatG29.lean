import Derived.Test.YtoklbpbmghbhnaeGreatG28
namespace Go.Proofs.YtoklbpbmghbhnaeGreat
set_option maxRecDepth 100000
set_option maxHeartbeats 8000000
open Go.RowKit Go.Deep Go.ChangeShapes Go.WideShapes
section
attribute [local go_sem ↓] Go.wp_at_zero Go.wp_at_succ
theorem aEA {r:Int} {fr:List Int} {p:Pf} {c:Cl} (h:ND p) (hc:GC c):ND (nU p r fr c):=by
 unfold nU;obtain ⟨h1,h2⟩:=lS (r:=r) (fr:=fr) h hc;split
 · rename_i hk;obtain ⟨h3,h4,h5⟩:=h2 hk;refine ⟨h1.ga,λk hk=>?_,h1.gg,h1.gl,?_⟩
   · rcases List.mem_append.1 hk with hk|hk
     · exact h1.gw k hk
     · rw [List.mem_singleton.1 hk];simp only;omega
   · simp only [List.length_append,List.length_cons,List.length_nil];omega
 · exact h1
theorem NQ {r:Int} {fr:List Int} {p:Pf} {c:Cl} (h:p.sts.length<120):(bI p r fr c).2=true/\(nU p r fr c).sig=p.sig/\(nU p r fr c).act=p.act/\(nU p r fr c).wai.length=p.wai.length+1/\(nU p r fr c).sts.length=p.sts.length+1:=by
 unfold nU;rcases fM p r fr c with ⟨h1,_⟩|⟨_,e⟩
 · omega
 · rw [e];simp
theorem aMA {p:Pf} {i:Int} {c:Cl} (h:p.sts.length<120) (hg:aN p.sig c=0->GC c):gP p.sig (0,p,i) c=((UA p i c).1,(UA p i c).2,if (UA p i c).1=0 then i+1 else i):=by
 unfold gP UA;rw [if_neg (by simp)];by_cases hw:aN p.sig c≠0
 · rw [if_pos hw,if_pos hw];simp [hw]
 · rw [if_neg hw,if_neg hw];obtain ⟨⟨e1,n⟩,hn⟩:∃q,q=bS c:=⟨_,rfl⟩;rw [←hn];rcases J6 (hg (Decidable.not_not.1 hw)) hn with ⟨rfl,rfl⟩|⟨rfl,_⟩
   · simp
   · have h2:=(NQ (r:=1) (fr:=[i]) (c:=n) h).1;simp only [if_true];rw [if_neg (by decide)];unfold nU;rw [if_pos h2]
theorem aFL {p:Pf} {i:Int} {c:Cl} (h:ND p) (hl:p.sts.length<120) (hg:aN p.sig c=0->GC c):ND (UA p i c).2/\(UA p i c).2.sig=p.sig/\(UA p i c).2.act=p.act/\(UA p i c).2.wai.length<=p.wai.length+1/\(UA p i c).2.sts.length<=p.sts.length+1:=by
 unfold UA;by_cases hw:aN p.sig c≠0
 · rw [if_pos hw];exact ⟨h,rfl,rfl,Nat.le_succ _,Nat.le_succ _⟩
 · rw [if_neg hw];obtain ⟨⟨e1,n⟩,hn⟩:∃q,q=bS c:=⟨_,rfl⟩;rw [←hn];rcases J6 (hg (Decidable.not_not.1 hw)) hn with ⟨rfl,rfl⟩|⟨rfl,hgn⟩
   · exact ⟨h,rfl,rfl,Nat.le_succ _,Nat.le_succ _⟩
   · obtain ⟨-,q1,q2,q3,q4⟩:=NQ (r:=1) (fr:=[i]) (c:=n) hl;exact ⟨aEA h hgn,q1,q2,Nat.le_of_eq q3,Nat.le_of_eq q4⟩
theorem WF (s:List Int) (sv:Value) (cs:List Cl) (csv:Value) (w:World) (hN:iK w s sv) (hC:mD w cs csv) (hnm:∀c∈cs,∀l∈c,Fo.norm l.2.1.2=l.2.1.2/\Fo.norm l.2.2.2=l.2.2.2):
  Calls Tryz.prog 7 #[sv,csv] w λe w'=>∃b1 b2 b3 b4,e= .returned (.tuple #[ZC (pJ s cs).2 b1 b2 b3 b4,.int .i64 (pJ s cs).1])/\oW (λq=>q<w.heap.size) w' (pJ s cs).2 b1 b2 b3 b4/\Below w.heap.size w w':=by
 have HN:=aB hN;obtain ⟨sa,sc,rfl⟩:=dR hN;obtain ⟨ca,ck,cb,co,rfl,hca,hcl,hcm,hcF⟩:=hC;have HcF:=aB hcF;have Hnm:=aB hnm;obtain ⟨⟨Q1,Q2⟩,hQ⟩:∃Q,Q=pJ s cs:=⟨_,rfl⟩;rw [←hQ];have HQ:=aB hQ;unfold maxLen at hcm;clear hN hcF hnm hQ;unfold ZC;simp only at*;go_enter Tryz.func7,Tryz.ntmps7
 go_upto_region 1 with fail
 generalize hw1:w.alloc (.cells #[.slice none 0 0,.slice none 0 0,.slice none 0 0,.slice none 0 0,.int .i64 0,.bool false] 27)=w1;have Hr:Hid (B6 w1 w.heap.size (.slice none 0 0) (.slice none 0 0) (.slice none 0 0) (.slice none 0 0) (.int .i64 0) (.bool false)):=by rw [←hw1];exact B6.at rfl
 have Hm:Hid (N6 w1 w.heap.size):=by rw [←hw1];exact N6.at rfl
 have HB0:Hid (Below w.heap.size w w1):=by rw [←hw1];exact aD _ _
 have Hs1:Hid (w1.heap.size=w.heap.size+1):=by rw [←hw1];show _=_;simp
 clear hw1;obtain ⟨G,hG⟩:∃G,G=gX s:=⟨_,rfl⟩;have Hwc:=aB (UX s _ w1 (HN.out.below HB0.out));rw [←hG] at Hwc
 go_wp2_with fail
 refine Hwc.out.mono ?_;rintro e w' ⟨rfl,hw'⟩;rw [hw'];clear hw' w' Hwc;by_cases hs:¬G=0
 · have hsb:(G !=0)=true:=by simpa using hs
   have e:Q1=G/\Q2=⟨[],[],[],[],0,false⟩:=by have h:=HQ.out;rw [hG] at hs ⊢;unfold pJ at h;rw [if_pos hs] at h;simpa using h
   obtain ⟨rfl,rfl⟩:=e;clear hs hG;obtain ⟨y0,y1,y2,y3,y4,y5,yf⟩:=Hr.out;have g0:=yf 0;have g1:=yf 1;have g2:=yf 2;have g3:=yf 3;have g4:=yf 4;have g5:=yf 5;have HK:=aB (Hr.out.set (y0:= .slice none 0 0) (y1:= .slice none 0 0) (y2:= .slice none 0 0) (y3:= .slice none 0 0) (y4:= .int .i64 0) (y5:= .bool false));have GV:Hid (Below w.heap.size w (set6 w1 w.heap.size (.slice none 0 0) (.slice none 0 0) (.slice none 0 0) (.slice none 0 0) (.int .i64 0) (.bool false))):=eY HB0.out (Nat.le_refl _);clear yf
   go_wp2_with fail
   clear y0 y1 y2 y3 y4 y5;obtain ⟨k0,k1,k2,k3,k4,k5,-⟩:=HK.out;unfold set6 at k0 k1 k2 k3 k4 k5;exact bodyPost_ret (v:= .tuple #[.agg #[.slice none 0 0,.slice none 0 0,.slice none 0 0,.slice none 0 0,.int .i64 0,.bool false],.int .i64 Q1]) (by simp [results,Tryz.results7,go_sem,k0,k1,k2,k3,k4,k5]) rfl ⟨_,_,_,_,rfl,Z7 _ _,GV.out⟩
 have hs:=Decidable.not_not.1 hs;subst hs;have nD:=aB (GY hG.symm);have Hws:=aB hG.symm;clear hG;by_cases h8:8<cs.length
 · have h8':(8:Int)<(cs.length:Int):=by omega
   have e:Q1=5/\Q2=⟨[],[],[],[],0,false⟩:=by have h:=HQ.out;unfold pJ at h;rw [if_neg (by simp [Hws.out]),if_pos h8] at h;simpa using h
   obtain ⟨rfl,rfl⟩:=e;obtain ⟨y0,y1,y2,y3,y4,y5,yf⟩:=Hr.out;have g0:=yf 0;have g1:=yf 1;have g2:=yf 2;have g3:=yf 3;have g4:=yf 4;have g5:=yf 5;have HK:=aB (Hr.out.set (y0:= .slice none 0 0) (y1:= .slice none 0 0) (y2:= .slice none 0 0) (y3:= .slice none 0 0) (y4:= .int .i64 0) (y5:= .bool false));have GV:Hid (Below w.heap.size w (set6 w1 w.heap.size (.slice none 0 0) (.slice none 0 0) (.slice none 0 0) (.slice none 0 0) (.int .i64 0) (.bool false))):=eY HB0.out (Nat.le_refl _);clear yf
   go_wp2_with fail
   clear y0 y1 y2 y3 y4 y5;obtain ⟨k0,k1,k2,k3,k4,k5,-⟩:=HK.out;unfold set6 at k0 k1 k2 k3 k4 k5;exact bodyPost_ret (v:= .tuple #[.agg #[.slice none 0 0,.slice none 0 0,.slice none 0 0,.slice none 0 0,.int .i64 0,.bool false],.int .i64 5]) (by simp [results,Tryz.results7,go_sem,k0,k1,k2,k3,k4,k5]) rfl ⟨_,_,_,_,rfl,Z7 _ _,GV.out⟩
 have h8':¬(8:Int)<(cs.length:Int):=by omega
 have Hcs:=aB (FY s _ w1 (HN.out.below HB0.out) (by have:=nD.out.2;omega))
 go_wp2_with fail
 refine Hcs.out.mono ?_;rintro e w2 ⟨mv,rfl,hO,hb2⟩;obtain ⟨m1,m3,rfl⟩:=aR hO.1;have HO:=aB hO;have Hb2:=aB hb2;clear hO hb2 Hcs
 go_upto_region 7 with fail
 have MH:Hid (PS w1.heap.size (w2.alloc (.cells #[.slice m1 s.length m3,.slice none 0 0,.slice none 0 0,.slice none 0 0,.int .i64 (-1),.bool false] 55)) w2.heap.size ⟨s,[],[],[],-1,false⟩ (.slice m1 s.length m3) (.slice none 0 0) (.slice none 0 0) (.slice none 0 0)):=by
  have bZ:=aD w2 (.cells #[.slice m1 s.length m3,.slice none 0 0,.slice none 0 0,.slice none 0 0,.int .i64 (-1),.bool false] 55);have h0:=mP (E:=λq=>q<w1.heap.size) HO.out.1 rfl (λq h=>h);have hnone:∀{q:Nat},(Value.slice none 0 0).ownBlock=some q->False:=λh=>by simp [Value.ownBlock] at h
  refine ⟨B6.at rfl,N6.at rfl,Hb2.out.size,(h0.old.below bZ).mono (λq hq=>?_),⟨[],⟨World.ownsRow_nil _ _ _ _,λg h=>(hnone h).elim⟩,rfl⟩,⟨World.ownsRow_nil _ _ _ _,λg h=>(hnone h).elim⟩,⟨World.ownsRow_nil _ _ _ _,λg h=>(hnone h).elim⟩,λh=>hnone h,λh=>hnone h,λh=>hnone h,λg h=>(hnone h).elim,λg h=>(hnone h).elim,λg h=>(hnone h).elim⟩;rcases hq with (e|e|e|e)|e
  · exact .inr (by omega)
  · exact (hnone e).elim
  · exact (hnone e).elim
  · exact (hnone e).elim
  · exact .inl e
 have hb3:=aD w2 (.cells #[.slice m1 s.length m3,.slice none 0 0,.slice none 0 0,.slice none 0 0,.int .i64 (-1),.bool false] 55);obtain ⟨b,hb⟩:∃b,b=w2.heap.size:=⟨_,rfl⟩;rw [←hb] at MH ⊢;generalize w2.alloc (.cells #[.slice m1 s.length m3,.slice none 0 0,.slice none 0 0,.slice none 0 0,.int .i64 (-1),.bool false] 55)=w3 at*;have aKX:=aB (aC Hb2.out hb3);have HB3:=aB (aC HB0.out aKX.out);have Hr3:=aB (Hr.out.below aKX.out);have Hm3:=aB (Hm.out.below (B6.lt Hr.out) aKX.out);have Hlo:=aB (Nat.le_trans MH.out.bl (Nat.le_of_lt MH.out.bx.lt));clear hb hb3 HO Hb2 Hr Hm aKX HB0;clear w2
 go_wp2_with fail
 go_loopw [27] (λi wr=>∃(j:Nat) (pj:Pf) (z2 z4:Value),j<=cs.length/\i= .int .i64 j/\(0,pj,(j:Int))=(cs.take j).foldl (gP s) (0,⟨s,[],[],[],-1,false⟩,0)/\ND pj/\pj.sig=s/\pj.act=[]/\pj.wai.length<=j/\pj.sts.length<=j/\PS w1.heap.size wr b pj (.slice m1 s.length m3) z2 (.slice none 0 0) z4/\kX w3 (iU b (.slice none 0 0) (.slice none 0 0) (.slice none 0 0)) wr (iU b z2 (.slice none 0 0) z4)) (λi _=>cs.length - (intOf i).toNat)
 case atStart=>exact ⟨0,_,_,_,Nat.zero_le _,rfl,rfl,⟨λk h=>by simp at h,λk h=>by simp at h,λx h=>by simp at h,Nat.zero_le _,Nat.le_refl _⟩,rfl,rfl,Nat.le_refl _,Nat.le_refl _,MH.out,kX.refl _ _⟩
 case round=>
  obtain ⟨j,pj,z2,z4,hj,rfl,hpj,hGj,hsj,haj,hwj,hlj,hPj,hMj⟩:=hrel;obtain ⟨sg,sts,act,wai,fnd,lst⟩:=pj;simp only at hsj haj hwj hlj;subst hsj haj;have Hpj:=aB hpj;have HGj:=aB hGj;have rE:=aB hPj;have zS:=aB hMj;have Hud:=aB (MH.out.under hMj Hlo.out);obtain ⟨-,⟨ta,tc,rfl⟩,-,va,vc,rfl⟩:=hPj.slices;generalize wr=wa at*;have TN:=aB (HB3.out.trans (Hud.out.mono (by have:=Hs1.out;omega)));have Hrj:=aB (Hr3.out.under Hud.out (by have:=Hs1.out;omega));have Hmj:=aB (Hm3.out.under Hud.out (by have:=Hs1.out;omega));clear hpj hGj hPj hMj Hud;by_cases hlt:j<cs.length
  · have hlt':(j:Int)<(cs.length:Int):=by omega
    obtain ⟨c,hcj⟩:∃c,cs[j]?=some c:=⟨cs[j]'hlt,by simp⟩;obtain ⟨dv,q0,hC⟩:=HcF.out j c hcj;have HC:=aB (hC.below TN.out);obtain ⟨d1,d3,rfl⟩:=aK hC;replace q0:=aA TN.out _ _ q0;have aOM:=hca (by omega);subst aOM;have hgc:aN sg c=0->GC c:=λh=>PH nD.out.1 (Hnm.out c (List.mem_of_getElem? hcj)) h;have aNQ:Hid ((cs.take (j+1)).foldl (gP sg) (0,⟨sg,[],[],[],-1,false⟩,0)=gP sg (0,⟨sg,sts,[],wai,fnd,lst⟩,j) c):=by rw [Hid,List.take_add_one,hcj,List.foldl_append,←Hpj.out];rfl
    have dI:Hid (cs.foldl (gP sg) (0,⟨sg,[],[],[],-1,false⟩,0)=(cs.drop (j+1)).foldl (gP sg) (gP sg (0,⟨sg,sts,[],wai,fnd,lst⟩,j) c)):=by rw [Hid,←aNQ.out,←List.foldl_append,List.take_append_drop]
    have Hin:=aB (aFJ b ⟨sg,sts,[],wai,fnd,lst⟩ _ _ _ _ (j:Int) c _ wa rE.out HGj.out HC.out hgc);have CR:=aB (aFL (i:=(j:Int)) HGj.out (show sts.length<120 by omega) hgc);have Hn1:=aB (aMA (i:=(j:Int)) (show (Pf.mk sg sts [] wai fnd lst).sts.length<120 by show sts.length<120;omega) hgc);obtain ⟨⟨er,q⟩,hq⟩:∃r,r=UA ⟨sg,sts,[],wai,fnd,lst⟩ j c:=⟨_,rfl⟩;rw [←hq] at Hin CR Hn1;simp only at Hin CR Hn1;clear hcj hC hca hgc hq Hpj
    go_wp2_with fail
    refine Hin.out.mono ?_;rintro e w5 ⟨rfl,z5,z6,hP5,hM5⟩;have HP5:=aB hP5;have HM5:=aB (zS.out.trans hM5);have Hu5:=aB (rE.out.under hM5 (Nat.le_trans rE.out.bl (Nat.le_of_lt rE.out.bx.lt)));have GA:=aB (TN.out.trans (Hu5.out.mono (by have:=Hs1.out;omega)));have Hr5:=aB (Hrj.out.under Hu5.out (by have:=Hs1.out;omega));clear hP5 hM5 Hin q0 HC Hu5;by_cases her:¬er=0
    · have aTO:(er !=0)=true:=by simpa using her
      have e:Q1=er/\Q2=⟨[],[],[],[],0,false⟩:=by have h:=HQ.out;have h2:cs.foldl (gP sg) (0,⟨sg,[],[],[],-1,false⟩,0)=(er,q,if er=0 then (j:Int)+1 else (j:Int)):=dI.out.trans (by rw [Hn1.out];exact J8 (st:=(er,q,_)) her);unfold pJ at h;rw [if_neg (by simp [Hws.out]),if_neg h8,if_pos (by rw [h2];exact her),h2] at h;simpa using h
      obtain ⟨rfl,rfl⟩:=e;clear her;obtain ⟨y0,y1,y2,y3,y4,y5,yf⟩:=Hr5.out;have g0:=yf 0;have g1:=yf 1;have g2:=yf 2;have g3:=yf 3;have g4:=yf 4;have g5:=yf 5;have HK:=aB (Hr5.out.set (y0:= .slice none 0 0) (y1:= .slice none 0 0) (y2:= .slice none 0 0) (y3:= .slice none 0 0) (y4:= .int .i64 0) (y5:= .bool false));have GV:Hid (Below w.heap.size w (set6 w5 w.heap.size (.slice none 0 0) (.slice none 0 0) (.slice none 0 0) (.slice none 0 0) (.int .i64 0) (.bool false))):=eY GA.out (Nat.le_refl _);clear yf
      go_wp2_with fail
      clear y0 y1 y2 y3 y4 y5;obtain ⟨k0,k1,k2,k3,k4,k5,-⟩:=HK.out;unfold set6 at k0 k1 k2 k3 k4 k5;exact bodyPost_ret (v:= .tuple #[.agg #[.slice none 0 0,.slice none 0 0,.slice none 0 0,.slice none 0 0,.int .i64 0,.bool false],.int .i64 Q1]) (by simp [results,Tryz.results7,go_sem,k0,k1,k2,k3,k4,k5]) rfl ⟨_,_,_,_,rfl,Z7 _ _,GV.out⟩
    have her:=Decidable.not_not.1 her;subst her;have zR:Hid ((cs.take (j+1)).foldl (gP sg) (0,⟨sg,[],[],[],-1,false⟩,0)=(0,q,(j:Int)+1)):=by rw [Hid,aNQ.out,Hn1.out];simp
    go_wp2_with fail
    go_roundw
    case rel=>exact ⟨j+1,q,z5,z6,by omega,by go_num,by rw [zR.out];simp,CR.out.1,CR.out.2.1,CR.out.2.2.1,Nat.le_trans CR.out.2.2.2.1 (by omega),Nat.le_trans CR.out.2.2.2.2 (by omega),HP5.out,HM5.out⟩
    case measure=>simp [intOf];omega
  · have e:Q1=0/\Q2=⟨sg,sts,[],wai,fnd,lst⟩:=by
     have h:=HQ.out;have h2:=Hpj.out;rw [show j=cs.length by omega,List.take_length] at h2;unfold pJ at h;rw [if_neg (by simp [Hws.out]),if_neg h8,if_neg (by rw [←h2];simp),←h2] at h;simpa using h
    obtain ⟨rfl,rfl⟩:=e;clear hca;obtain ⟨x0,x1,x2,x3,x4,x5,-⟩:=rE.out.bx;simp only at x0 x1 x2 x3 x4 x5;obtain ⟨y0,y1,y2,y3,y4,y5,yf⟩:=Hrj.out;have g0:=yf 0;have g1:=yf 1;have g2:=yf 2;have g3:=yf 3;have g4:=yf 4;have g5:=yf 5;have HK:=aB (Hrj.out.set (y0:= .slice m1 sg.length m3) (y1:= .slice ta sts.length tc) (y2:= .slice none 0 0) (y3:= .slice va wai.length vc) (y4:= .int .i64 fnd) (y5:= .bool lst));have GV:Hid (Below w.heap.size w (set6 wa w.heap.size (.slice m1 sg.length m3) (.slice ta sts.length tc) (.slice none 0 0) (.slice va wai.length vc) (.int .i64 fnd) (.bool lst))):=eY TN.out (Nat.le_refl _);have HPk:=aB ((yK rE.out Hrj.out Hmj.out (by have:=Hs1.out;omega)).mono (E':=λq=>q<w.heap.size) (λq hq=>by have:=Hs1.out;show q<w1.heap.size;omega));clear yf
    go_wp2_with fail
    clear y0 y1 y2 y3 y4 y5;obtain ⟨k0,k1,k2,k3,k4,k5,-⟩:=HK.out;unfold set6 at k0 k1 k2 k3 k4 k5;exact bodyPost_ret (v:= .tuple #[.agg #[.slice m1 sg.length m3,.slice ta sts.length tc,.slice none 0 0,.slice va wai.length vc,.int .i64 fnd,.bool lst],.int .i64 0]) (by simp [results,Tryz.results7,go_sem,k0,k1,k2,k3,k4,k5]) rfl ⟨_,_,_,_,rfl,HPk.out,GV.out⟩
end
theorem vO {p:Pf} {r:Int} {fr:List Int} {c:Cl} (h:mY p) (hf:fr.length<=121):mY (bI p r fr c).1:=by
 rcases fM p r fr c with ⟨_,e⟩|⟨_,e⟩
 · rw [e];exact h
 · rw [e];intro x hx;rcases List.mem_append.1 hx with hx|hx
   · exact h x hx
   · rw [List.mem_singleton.1 hx];exact hf
theorem aJY {p:Pf} {r:Int} {fr:List Int} {c:Cl} (h:mY p) (hf:fr.length<=121):mY (iD r fr p c):=by
 unfold iD;split
 · exact h
 · split
   · exact vO (r:=r) (c:=c) h hf
   · exact vO h hf
theorem aDF {r:Int} {fr:List Int} (hf:fr.length<=121):∀{cs:List Cl} {p:Pf},mY p->mY (cs.foldl (iD r fr) p)
 |[],_,h=>h
 |_::cs,_,h=>aDF hf (cs:=cs) (aJY h hf)
theorem vQ {p:Pf} {r:Int} {fr:List Int} {st:List Cl×Bool} (h:mY p) (hf:fr.length<=121):mY (jF p r fr st):=aDF hf (p:={p with lst:=p.lst||st.2}) h
theorem aLK {U:Tm->Tm->Option Sb} {p:Pf} {c:Cl} {g k:Int} (h:mY p):mY (qH U c g p k):=by
 unfold qH;split
 · exact vQ (vQ h (by simp)) (by simp)
 · exact vQ h (by simp)
theorem VI {U:Tm->Tm->Option Sb} {c:Cl} {g:Int}:∀{l:List Int} {p:Pf},mY p->mY (l.foldl (qH U c g) p)
 |[],_,h=>h
 |_::l,_,h=>VI (l:=l) (aLK h)
theorem V5 {U:Tm->Tm->Option Sb} {p:Pf} {c:Cl} {g:Int} (h:mY p):mY (rP U p c g):=by
 unfold rP;split
 · exact h
 · exact VI (vQ (vQ (p:={p with act:=p.act++[g]}) h (by simp)) (by simp))
theorem aI4 {U:Tm->Tm->Option Sb} {p:Pf} {g:Int} (h:mY p) (hl:p.act.length<=120):mY (oP U p g):=by
 have hf:(g::xI p.sts p.act).length<=121:=by rw [List.length_cons];have:(xI p.sts p.act).length<=p.act.length:=List.length_filter_le _ _;omega
 unfold oP;split
 · exact h
 · split
   · exact V5 h
   · split
     · exact V5 (vO h hf)
     · exact vO h hf
theorem JZ {U:Tm->Tm->Option Sb} {p:Pf} {n:Int} (h:mY p) (hI:kY p):mY (kE U p n).2:=by
 rcases qV (U:=U) p n with ⟨_,e⟩|⟨_,_,e⟩|⟨_,_,_,e⟩
 · rw [e];exact h
 · rw [e];exact h
 · rw [e];have h1:=hI.r.g.gs;have h2:=hI.r.g.gl;exact aI4 (p:={p with wai:=qY p.wai n.toNat}) h (by show p.act.length<=120;omega)
theorem aMB {s:List Int} {st:Int×Pf×Int} {c:Cl} (h:mY st.2.1):mY (gP s st c).2.1:=by
 unfold gP;split
 · exact h
 · split
   · exact h
   · split
     · exact h
     · split
       · exact vO (r:=1) (c:=(bS c).2) h (show ([st.2.2]:List Int).length<=121 by simp)
       · exact h
theorem aC3 {s:List Int}:∀{cs:List Cl} {st:Int×Pf×Int},mY st.2.1->mY (cs.foldl (gP s) st).2.1
 |[],_,h=>h
 |_::cs,_,h=>aC3 (cs:=cs) (aMB h)
theorem aC4 {s:List Int} {cs:List Cl}:mY (pJ s cs).2:=by
 unfold pJ;split
 · intro x hx;simp at hx
 · split
   · intro x hx;simp at hx
   · split
     · intro x hx;simp at hx
     · exact aC3 (λx hx=>by simp at hx)
section
attribute [local go_sem ↓] Go.wp_at_zero Go.wp_at_succ
def MC:Cl:=[(true,tb ta,ta)]
def p9:Pf:=⟨[0,1,2],[(1,[0],[uR]),(1,[1],MC)],[],[0,1],-1,false⟩
def q9:Pf:=⟨[0,1,2],[(1,[0],[uR]),(1,[1],MC)],[0],[1],-1,false⟩
def r9:Pf:=⟨[0,1,2],[(1,[0],[uR]),(1,[1],MC),(5,[1,0],[])],[0],[],2,false⟩
theorem aUC:jU [0,1,2] [98,40,97,41,33,61,97]=(0,MC):=by kernel_rfl
theorem a9n:pJ [0,1,2] [[uR],MC]=(0,p9):=by kernel_rfl
theorem a9s (t:Tm) (h:iB [] t=none):dV [] t=t:=nO h
theorem aUB:rF [] [uR]=(0,[uR]):=by unfold rF qK;rw [show [uR].map (bK (dV []))=[uR] by simp only [List.map_cons,List.map_nil,bK,uR];rw [a9s _ (by kernel_rfl),a9s _ (by kernel_rfl)]];kernel_rfl
theorem aUA:rF [uR] MC=(0,[]):=by unfold rF qK;rw [show MC.map (bK (dV [uR]))=[(true,ta,ta)] by simp only [MC,List.map_cons,List.map_nil,bK];rw [aUH,show dV [uR] ta=ta from nO (by kernel_rfl)]];kernel_rfl
theorem a9q (V:Tm->Tm->Option Sb):kE (mkU V) p9 0=(0,q9):=by unfold kE;rw [if_neg (by decide),if_neg (by decide)];show (0,oP (mkU V) ⟨[0,1,2],[(1,[0],[uR]),(1,[1],MC)],[],[1],-1,false⟩ 0)=_;unfold oP;rw [show qE (Pf.mk [0,1,2] [(1,[0],[uR]),(1,[1],MC)] [] [1] (-1) false).sts (Pf.mk [0,1,2] [(1,[0],[uR]),(1,[1],MC)] [] [1] (-1) false).act=[] from rfl,show bD (Pf.mk [0,1,2] [(1,[0],[uR]),(1,[1],MC)] [] [1] (-1) false).sts 0=[uR] by kernel_rfl,aUB];rw [if_neg (by simp),if_pos (by kernel_rfl)];kernel_rfl
theorem a9t (V:Tm->Tm->Option Sb):kE (mkU V) q9 0=(0,r9):=by unfold kE;rw [if_neg (by decide),if_neg (by decide)];show (0,oP (mkU V) ⟨[0,1,2],[(1,[0],[uR]),(1,[1],MC)],[0],[],-1,false⟩ 1)=_;unfold oP;rw [show qE (Pf.mk [0,1,2] [(1,[0],[uR]),(1,[1],MC)] [0] [] (-1) false).sts (Pf.mk [0,1,2] [(1,[0],[uR]),(1,[1],MC)] [0] [] (-1) false).act=[uR] by kernel_rfl,show bD (Pf.mk [0,1,2] [(1,[0],[uR]),(1,[1],MC)] [0] [] (-1) false).sts 1=MC by kernel_rfl,aUA];rw [if_neg (by simp),if_neg (by decide)];kernel_rfl
theorem a9m:∀c∈[[uR],MC],NmL c:=λc hc=>by
 simp only [List.mem_cons,List.not_mem_nil,or_false] at hc;rcases hc with rfl|rfl
 · exact a7n _ (.inl rfl)
 · intro l hl;simp only [MC,List.mem_cons,List.not_mem_nil,or_false] at hl;subst hl;exact ⟨rfl,rfl⟩
theorem a9i:kY p9:=by
 rcases WG a9m (s:=[0,1,2]) with ⟨h,_⟩|⟨_,_,_,_,h,_⟩
 · rw [a9n] at h;exact absurd rfl h
 · rw [a9n] at h;exact h
theorem a9f:mY p9:=by have h:=aC4 (s:=[0,1,2]) (cs:=[[uR],MC]);rw [a9n] at h;exact h
structure CR9 (lo:Nat) (w:World) (cs:List Cl) (v:Value) (xs:List Value):Prop where
 row:Rw lo w 44 1 v cs.length xs
 el:∀(i:Nat) (c:Cl),cs[i]?=some c->∃cv,xs[i]?=some cv/\dQ w c cv
theorem CR9.below {lo:Nat} {w w':World} {cs:List Cl} {v:Value} {xs:List Value} (h:CR9 lo w cs v xs) (hb:Below w.heap.size w w'):CR9 lo w' cs v xs:=⟨h.row.below hb,λi c hc=>by obtain ⟨cv,h1,h2⟩:=h.el i c hc;exact ⟨cv,h1,h2.below hb⟩⟩
theorem CR9.csin {lo:Nat} {w:World} {cs:List Cl} {v:Value} {xs:List Value} (h:CR9 lo w cs v xs):mD w cs v:=by
 have hcells:=λg hg=>h.row.1.cells (g:=g) hg;rcases h.row.1.2 with ⟨e,h0⟩|⟨g,bW,cur,e,_,_,hn,hm,_,_⟩
 · have:cs=[]:=List.length_eq_zero_iff.1 h0;rw [this,e];exact mD.nil w
 · refine ⟨some ⟨g,0,none⟩,bW,g,0,e,λ_=>rfl,hn,hm,λi c hc=>?_⟩;obtain ⟨cv,h1,h2⟩:=h.el i c hc;refine ⟨cv,?_,h2⟩;have:=hcells g (by rw [e];rfl) i cv h1;rw [add_plain] at this;exact this
theorem CR9.push {lo:Nat} {w w1 w2:World} {cs:List Cl} {v v' cv:Value} {xs:List Value} {c:Cl} (h:CR9 lo w cs v xs) (hC:dQ w c cv) (hb1:Below w.heap.size w w1) (hu:Rw lo w2 44 1 v' (cs.length+1) (xs++[cv])) (hg:w1.grownBy w2 v.ownBlock) (hlo:lo<=w.heap.size):CR9 lo w2 (cs++[c]) v' (xs++[cv])/\Below lo w w2:=by
 have hB:Below lo w w2:=(hb1.mono hlo).grown hg (Nat.le_trans hlo hb1.size) (λq hq=>(aJ h.row.1 q hq).1);have hK:wL w w2:=nE λq hq hn=>by have h1:=hb1.size;rw [hg.block q (by omega) (λe=>hn (h.row.2 q e.symm).not),hb1.block q hq]
 refine ⟨⟨by rw [List.length_append];exact hu,λi d hd=>?_⟩,hB⟩;have hl:=h.row.1.1;by_cases hi:i<cs.length
 · rw [List.getElem?_append_left hi] at hd;obtain ⟨dv,h1,h2⟩:=h.el i d hd;exact ⟨dv,by rw [List.getElem?_append_left (by omega)];exact h1,hK.cin h2⟩
 · have hi2:i=cs.length:=by
    have:=(List.getElem?_eq_some_iff.1 hd).1;simp at this;omega
   subst hi2;rw [List.getElem?_append_right (Nat.le_refl _),Nat.sub_self] at hd;simp only [List.getElem?_cons_zero,Option.some.injEq] at hd;subst hd;exact ⟨cv,by rw [List.getElem?_append_right (by omega),show cs.length - xs.length=0 by omega];rfl,hK.cin hC⟩
theorem YW (Ls:List ByteArray) (cs:List Cl) (b:Nat) (w:World) (hb:∀(i:Nat) (L:ByteArray),Ls[i]?=some L->w.cell? ⟨b,i,none⟩=some (.string L)) (hl:Ls.length=cs.length) (hp:∀(i:Nat) (L:ByteArray) (c:Cl),Ls[i]?=some L->cs[i]?=some c->jU [0,1,2] L.data.toList=(0,c)/\L.size<4294967281) (h10:cs.length<=10):
  Calls Tryz.prog 44 #[.slice (some ⟨b,0,none⟩) cs.length cs.length] w λe w'=>∃v,e= .returned v/\mD w' cs v/\Below w.heap.size w w':=by
 have Hb:=aB hb;have Hp:=aB hp;have Hl:=aB hl;clear hb hp hl;go_enter Tryz.func44,Tryz.ntmps44
 go_wp2_with fail
 go_loopw [3,10] (λov i wr=>∃(j:Nat) (xs:List Value),j<=cs.length/\i= .int .i64 j/\CR9 w.heap.size wr (cs.take j) ov xs/\Below w.heap.size w wr) (λ_ i _=>cs.length - (intOf i).toNat)
 case atStart=>exact ⟨0,[],Nat.zero_le _,rfl,⟨⟨World.ownsRow_nil _ _ _ _,λq hq=>by simp [Value.ownBlock] at hq⟩,λi c hc=>by simp at hc⟩,Below.refl _ _⟩
 case round=>
  obtain ⟨j,xs,hj,rfl,hR,hBr⟩:=hrel;have HR:=aB hR;have xM:=aB hBr;obtain ⟨y1,y3,hv⟩:=aR hR.row.1;subst hv;have htl:(cs.take j).length=j:=by rw [List.length_take];omega
  rw [htl] at HR ⊢;generalize wr=wa at*;clear hR hBr;by_cases hlt:j<cs.length
  · have hlt':(j:Int)<(cs.length:Int):=by omega
    obtain ⟨c,hcj⟩:∃c,cs[j]?=some c:=⟨cs[j]'hlt,by simp⟩;obtain ⟨S,hS⟩:∃S,Ls[j]?=some S:=⟨Ls[j]'(by rw [Hl.out];exact hlt),by simp⟩;have q0:=aA xM.out _ _ (Hb.out j S hS);obtain ⟨hpp,hsz⟩:=Hp.out j S c hS hcj;have Hpp:=aB hpp;have Htk:Hid (cs.take (j+1)=cs.take j++[c]):=by rw [Hid,List.take_add_one,hcj];rfl
    have HN0:Hid (iK (wa.alloc (.cells #[.int .i64 0,.int .i64 1,.int .i64 2] 3)) [0,1,2] (.slice (some ⟨wa.heap.size,0,none⟩) 3 3)):=aC2 (w:=wa) [0,1,2] (by decide) (by decide) 3;clear hpp hcj hS
    go_wp2_with fail
    refine (YC [0,1,2] _ S _ HN0.out hsz).mono ?_;rintro e w2 ⟨z1,z2,z3,rfl,hC,hb⟩;rw [Hpp.out] at hC ⊢;have hB2:=aW hb;obtain ⟨c1,c3,e⟩:=aK hC;simp only [Value.slice.injEq] at e;obtain ⟨e1,e2,e3⟩:=e;subst e1 e2 e3;have HC:=aB hC;have HR2:=aB (HR.out.below hB2);have HB2:=aB (aC xM.out hB2);have hsz2:=HB2.out.size;have QI:=aB (HR2.out.row.below (aD w2 (.cells #[.slice z1 c.length z3] 44)));have zR:Hid ((w2.alloc (.cells #[.slice z1 c.length z3] 44)).cell? ((⟨w2.heap.size,0,none⟩:Addr).add 0)=some (.slice z1 c.length z3)):=by show _=_;simp [Addr.add]
    have aOG:(j+1)*24<=140737488355328:=by omega
    have hsa:w.heap.size<=(w2.alloc (.cells #[.slice z1 c.length z3] 44)).heap.size:=Nat.le_trans hsz2 (aD _ _).size;clear hC hb hB2 q0 HR xM HN0;rw [htl] at QI
    go_wp2_with (at_builtin;go_loud (refine uK rfl (.tmp 20) (.tmp 22) rfl w.heap.size (.slice y1 j y3) j xs rfl QI.out z1 c.length z3 ⟨w2.heap.size,0,none⟩ rfl zR.out aOG hsa ?_;intro v4 w4 hu4 hg4 jE;have HX:=aB (HR2.out.push (v:= .slice y1 j y3) HC.out (aD w2 _) (by rw [htl];exact hu4) hg4 hsz2);clear hu4 hg4 jE))
    have HXn:Hid (CR9 w.heap.size w4 (cs.take (j+1)) v4 (xs++[.slice z1 c.length z3])/\Below w.heap.size w w4):=by rw [Hid,Htk.out];exact ⟨HX.out.1,HB2.out.trans HX.out.2⟩
    clear HX HR2 HB2 QI zR HC;go_roundw
    case rel=>exact ⟨j+1,_,by omega,by go_num,HXn.out.1,HXn.out.2⟩
    case measure=>simp [intOf];omega
  · have bP:Hid (mD wa cs (.slice y1 j y3)):=by
     have h:=HR.out.csin;rw [show j=cs.length by omega,List.take_length] at h;rw [Hid,show j=cs.length by omega];exact h
    go_wp2_with fail
    go_ret;exact ⟨_,rfl,bP.out,xM.out⟩
theorem aB5 (w:World):Calls Tryz.prog 14 #[] w λe w'=>e= .returned (.bool true)/\Below w.heap.size w w':=by
 obtain ⟨V,hV⟩:=U6;have HU:=aB (aPP hV);have hi1:kY q9:=by have h:=yY HU.out (n:=0) a9i;rw [a9q V] at h;exact h
 have hf1:mY q9:=by have h:=JZ (U:=mkU V) (n:=0) a9f a9i;rw [a9q V] at h;exact h
 have hi2:kY r9:=by have h:=yY HU.out (n:=0) hi1;rw [a9t V] at h;exact h
 have hf2:mY r9:=by have h:=JZ (U:=mkU V) (n:=0) hf1 hi1;rw [a9t V] at h;exact h
 have Hi1:=aB (And.intro hi1 hf1);have Hi2:=aB (And.intro hi2 hf2);clear hV hi1 hf1 hi2 hf2;go_enter Tryz.func14,Tryz.ntmps14
 go_wp2_with fail
 have HN0:Hid (iK (w.alloc (.cells #[.int .i64 0,.int .i64 1,.int .i64 2] 3)) [0,1,2] (.slice (some ⟨w.heap.size,0,none⟩) 3 3)):=aC2 (w:=w) [0,1,2] (by decide) (by decide) 3;have hb0:=aD w (.cells #[.int .i64 0,.int .i64 1,.int .i64 2] 3);have hs0:(w.alloc (.cells #[.int .i64 0,.int .i64 1,.int .i64 2] 3)).heap.size=w.heap.size+1:=by simp
 generalize w.alloc (.cells #[.int .i64 0,.int .i64 1,.int .i64 2] 3)=w0 at*;have hb1:=aD w0 (.cells #[.string ⟨#[98,40,88,48,41,61,88,48]⟩,.string ⟨#[98,40,97,41,33,61,97]⟩] 9);have hc1:∀(i:Nat) (L:ByteArray),([⟨#[98,40,88,48,41,61,88,48]⟩,⟨#[98,40,97,41,33,61,97]⟩]:List ByteArray)[i]?=some L->(w0.alloc (.cells #[.string ⟨#[98,40,88,48,41,61,88,48]⟩,.string ⟨#[98,40,97,41,33,61,97]⟩] 9)).cell? ⟨w0.heap.size,i,none⟩=some (.string L):=λi L h=>by
  match i,h with
  |0,h=>simp at h;subst h;simp
  |1,h=>simp at h;subst h;simp
  |i+2,h=>simp at h
 have dI:=aB (YW _ [[uR],MC] _ _ hc1 rfl (λi L c h1 h2=>by
  match i,h1,h2 with
  |0,h1,h2=>simp at h1 h2;subst h1 h2;exact ⟨aUG,by decide⟩
  |1,h1,h2=>simp at h1 h2;subst h1 h2;exact ⟨aUC,by decide⟩
  |i+2,h1,h2=>simp at h1) (by decide))
 rw [hs0] at dI;have HB1:=aB (aC hb0 hb1);have HN1:=aB (HN0.out.below hb1);clear hc1 hb1 HN0;refine dI.out.mono ?_;rintro e w2 ⟨cv,rfl,hC,hb2⟩;have Hn:=aB (WF [0,1,2] _ [[uR],MC] _ w2 (HN1.out.below hb2) hC a9m);rw [a9n] at Hn;unfold ZC p9 at Hn;simp only at Hn;have HB2:=aB (aC HB1.out hb2);clear hC hb2 dI HN1 HB1
 go_wp2_with fail
 refine Hn.out.mono ?_;rintro e w3 ⟨n1,n2,n3,n4,rfl,hP,hb3⟩;have HB3:=aB (aC HB2.out hb3);have HP:=aB hP;obtain ⟨q1,q3,rfl⟩:=hP.1.slice;obtain ⟨q4,q6,rfl⟩:=jI hP.2.1;obtain ⟨q7,TS,rfl⟩:=hP.2.2.1.slice;obtain ⟨r1,r3,rfl⟩:=hP.2.2.2.slice;simp only [List.length_cons,List.length_nil,Nat.zero_add,Nat.reduceAdd] at*;clear hP hb3 Hn HB2
 go_upto_region 2 with fail
 have bZ:=aD w3 (.cells #[.slice q1 3 q3,.slice q4 2 q6,.slice q7 0 TS,.slice r1 2 r3,.int .i64 (-1),.bool false] 27);have Hxa:Hid (B6 (w3.alloc (.cells #[.slice q1 3 q3,.slice q4 2 q6,.slice q7 0 TS,.slice r1 2 r3,.int .i64 (-1),.bool false] 27)) w3.heap.size (.slice q1 3 q3) (.slice q4 2 q6) (.slice q7 0 TS) (.slice r1 2 r3) (.int .i64 (-1)) (.bool false)):=B6.new _ _ _ _ _ _ _ _;generalize w3.alloc (.cells #[.slice q1 3 q3,.slice q4 2 q6,.slice q7 0 TS,.slice r1 2 r3,.int .i64 (-1),.bool false] 27)=w4 at*;have HPa:=aB (HP.out.below bZ);have aRW:=aB (aC HB3.out bZ);clear bZ;clear HP HB3;obtain ⟨x0,x1,x2,x3,x4,x5,-⟩:=Hxa.out;have Hp:=aB (EM HU.out p9 _ _ _ _ 0 w4 HPa.out a9i a9f);rw [a9q] at Hp;unfold ZC p9 q9 at Hp;simp only at Hp
 go_wp2_with fail
 refine Hp.out.mono ?_;rintro e w5 ⟨n1,n2,n3,n4,rfl,hP,hb5⟩;have GA:=aB (aC aRW.out hb5);have HP:=aB hP;replace Hxa:=aB (Hxa.out.below hb5);obtain ⟨i1,i3,rfl⟩:=hP.1.slice;obtain ⟨i4,i6,rfl⟩:=jI hP.2.1;obtain ⟨i7,i9,rfl⟩:=hP.2.2.1.slice;obtain ⟨j1,j3,rfl⟩:=hP.2.2.2.slice;simp only [List.length_cons,List.length_nil,Nat.zero_add,Nat.reduceAdd] at*;clear hP hb5 Hp aRW HPa x0 x1 x2 x3 x4 x5
 go_upto_region 3 with fail
 have bZ:=aD w5 (.cells #[.slice i1 3 i3,.slice i4 2 i6,.slice i7 1 i9,.slice j1 1 j3,.int .i64 (-1),.bool false] 27);have Hxb:Hid (B6 (w5.alloc (.cells #[.slice i1 3 i3,.slice i4 2 i6,.slice i7 1 i9,.slice j1 1 j3,.int .i64 (-1),.bool false] 27)) w5.heap.size (.slice i1 3 i3) (.slice i4 2 i6) (.slice i7 1 i9) (.slice j1 1 j3) (.int .i64 (-1)) (.bool false)):=B6.new _ _ _ _ _ _ _ _;generalize w5.alloc (.cells #[.slice i1 3 i3,.slice i4 2 i6,.slice i7 1 i9,.slice j1 1 j3,.int .i64 (-1),.bool false] 27)=w6 at*;have HPb:=aB (HP.out.below bZ);have aRV:=aB (aC GA.out bZ);replace Hxa:=aB (Hxa.out.below bZ);clear bZ;clear HP GA;obtain ⟨x0,x1,x2,x3,x4,x5,-⟩:=Hxb.out;have Hp:=aB (EM HU.out q9 _ _ _ _ 0 w6 HPb.out Hi1.out.1 Hi1.out.2);rw [a9t] at Hp;unfold ZC q9 r9 at Hp;simp only at Hp
 go_wp2_with fail
 refine Hp.out.mono ?_;rintro e w7 ⟨n1,n2,n3,n4,rfl,hP,iJ⟩;have HB7:=aB (aC aRV.out iJ);have HP:=aB hP;replace Hxa:=aB (Hxa.out.below iJ);replace Hxb:=aB (Hxb.out.below iJ);obtain ⟨k1,k3,rfl⟩:=hP.1.slice;obtain ⟨k4,k6,rfl⟩:=jI hP.2.1;obtain ⟨k7,k9,rfl⟩:=hP.2.2.1.slice;obtain ⟨l1,l3,rfl⟩:=hP.2.2.2.slice;simp only [List.length_cons,List.length_nil,Nat.zero_add,Nat.reduceAdd] at*;clear hP iJ Hp aRV HPb x0 x1 x2 x3 x4 x5
 go_upto_region 4 with fail
 have bZ:=aD w7 (.cells #[.slice k1 3 k3,.slice k4 3 k6,.slice k7 1 k9,.slice l1 0 l3,.int .i64 2,.bool false] 27);have Hxc:Hid (B6 (w7.alloc (.cells #[.slice k1 3 k3,.slice k4 3 k6,.slice k7 1 k9,.slice l1 0 l3,.int .i64 2,.bool false] 27)) w7.heap.size (.slice k1 3 k3) (.slice k4 3 k6) (.slice k7 1 k9) (.slice l1 0 l3) (.int .i64 2) (.bool false)):=B6.new _ _ _ _ _ _ _ _;generalize w7.alloc (.cells #[.slice k1 3 k3,.slice k4 3 k6,.slice k7 1 k9,.slice l1 0 l3,.int .i64 2,.bool false] 27)=w8 at*;have HPc:=aB (HP.out.below bZ);have aU7:=aB (aC HB7.out bZ);replace Hxa:=aB (Hxa.out.below bZ);replace Hxb:=aB (Hxb.out.below bZ);clear bZ;clear HP HB7;obtain ⟨-,-,-,a3,a4,-,-⟩:=Hxa.out;obtain ⟨-,-,b2,-,-,-,-⟩:=Hxb.out;obtain ⟨c0,c1,c2,c3,c4,c5,-⟩:=Hxc.out;have Ho:=aB (λ(w':World) (hb:Below w8.heap.size w8 w')=>V7 r9 _ _ _ _ w' (HPc.out.below hb) Hi2.out.1.r.g Hi2.out.1.r.s6 (λx hx=>Nat.le_trans (Hi2.out.2 x hx) (by decide)));unfold ZC r9 at Ho;simp only at Ho;have aG:Below w8.heap.size w8 w8.drew:=(Below.refl _ _).drew;generalize hA:w3.heap.size=A at*;generalize hBb:w5.heap.size=B at*;generalize hCc:w7.heap.size=C at*;have hfd:∀(w:World) (x1 x2 x3 x4:Option Addr) (m1 m2 m3 m4 e1 e2 e3 e4:Nat) (f:Int) (l:Bool),(Instr.field 27 (.agg #[.slice x1 m1 e1,.slice x2 m2 e2,.slice x3 m3 e3,.slice x4 m4 e4,.int .i64 f,.bool l]) 1).run Tryz.prog w= .ok (.slice x2 m2 e2) w:=λ_ _ _ _ _ _ _ _ _ _ _ _ _ _ _=>by kernel_rfl
 go_region_held3 (λw'=>w'.cell? ⟨A,3,none⟩=some (.slice r1 2 r3)/\w'.cell? ⟨A,4,none⟩=some (.int .i64 (-1))/\w'.cell? ⟨B,2,none⟩=some (.slice i7 1 i9)/\w'.cell? ⟨C,0,none⟩=some (.slice k1 3 k3)/\w'.cell? ⟨C,1,none⟩=some (.slice k4 3 k6)/\w'.cell? ⟨C,2,none⟩=some (.slice k7 1 k9)/\w'.cell? ⟨C,3,none⟩=some (.slice l1 0 l3)/\w'.cell? ⟨C,4,none⟩=some (.int .i64 2)/\w'.cell? ⟨C,5,none⟩=some (.bool false))
  (first
    |(with_reducible exact ⟨aA aG _ _ a3,aA aG _ _ a4,aA aG _ _ b2,aA aG _ _ c0,aA aG _ _ c1,aA aG _ _ c2,aA aG _ _ c3,aA aG _ _ c4,aA aG _ _ c5⟩)
    |go_keep)
  (first
    |(go_at_call 13;refine (Ho.out _ aG).mono ?_;rintro e wO ⟨o1,o2,o3,o4,rfl,hO,hb⟩;replace aG:=aC aG hb;obtain ⟨xs,hxs,-⟩:=hO.st;obtain ⟨p1,p2,hp⟩:=aR hxs.1;subst hp;obtain ⟨p3,p4,hp2⟩:=hO.sg.slice;subst hp2;obtain ⟨p5,p6,hp3⟩:=aR hO.ac.1;subst hp3;obtain ⟨p7,p8,hp4⟩:=aR hO.wa.1;subst hp4;simp only [List.length_cons,List.length_nil,Nat.zero_add,Nat.reduceAdd];clear hO hb hxs))
 all_goals
  have HBe:=aB (aC aU7.out aG);clear aG
  go_wp2_with fail
  go_ret;exact ⟨rfl,HBe.out⟩
end
section
attribute [local go_sem ↓] Go.wp_at_zero Go.wp_at_succ
theorem aID {w:World} {m:Nat} {z:Int} (hm:m<3):(w.alloc (.cells #[.int .i64 1,.int .i64 z,.int .i64 (z*z)] 3)).cell? ⟨w.heap.size,m,none⟩=some (.int .i64 (rJ z m)):=by rcases (by omega:m=0\/m=1\/m=2) with rfl|rfl|rfl<;>exact (aF rfl).trans (by simp [rJ])
structure mV (W:World) (B tk tq j m:Nat) (z:Int) (TV PV:Value) (q:Nat) (D:Nat->Bool) (w:World) (jR jX jW fE fD fC fB jL jK jJ gD s43 s44 gB fZ kV kU s49:Value):Prop where
 hb:Below W.heap.size W w
 h0:D 0=true->jR= .pointer (some ⟨B,1,none⟩)
 h1:D 1=true->jX=TV
 h2:D 2=true->jW= .int .i64 j
 h3:D 3=true->fE= .pointer (some ⟨tk,tq+j,none⟩)
 h4:D 4=true->fD=PV
 h5:D 5=true->fC= .int .i64 q
 h6:D 6=true->fB= .pointer (some ⟨B,0,none⟩)
 h7:D 7=true->jL= .int .i64 z
 h8:D 8=true->jK= .pointer (some ⟨B,0,none⟩)
 h9:D 9=true->jJ= .int .i64 z
 h10:D 10=true->gD= .pointer (some ⟨B,0,none⟩)
 h11:D 11=true->s43= .int .i64 z
 h12:D 12=true->s44= .int .i64 (z*z)
 h13:D 13=true->∃g,gB= .slice (some ⟨g,0,none⟩) 3 3/\w.cell? ⟨g,m,none⟩=some (.int .i64 (rJ z m))
 h14:D 14=true->fZ= .int .i64 m
 h15:D 15=true->∃g,kV= .pointer (some ⟨g,m,none⟩)/\w.cell? ⟨g,m,none⟩=some (.int .i64 (rJ z m))
 h16:D 16=true->kU= .int .i64 (rJ z m)
 h17:D 17=true->s49= .bool ((q:Int)!=rJ z m)
section
variable {W:World} {B tk tq j m:Nat} {z:Int} {TV PV:Value} {q:Nat} {D:Nat->Bool} {w w':World} {jR jX jW fE fD fC fB jL jK jJ gD s43 s44 gB fZ kV kU s49:Value}
theorem mV.at0 (h:mV W B tk tq j m z TV PV q D w jR jX jW fE fD fC fB jL jK jJ gD s43 s44 gB fZ kV kU s49):mV W B tk tq j m z TV PV q (λj=>j==0||D j) w (.pointer (some ⟨B,1,none⟩)) jX jW fE fD fC fB jL jK jJ gD s43 s44 gB fZ kV kU s49:=
 ⟨h.hb,λ_=>rfl,h.h1,h.h2,h.h3,h.h4,h.h5,h.h6,h.h7,h.h8,h.h9,h.h10,h.h11,h.h12,h.h13,h.h14,h.h15,h.h16,h.h17⟩
theorem mV.at1 (h:mV W B tk tq j m z TV PV q D w jR jX jW fE fD fC fB jL jK jJ gD s43 s44 gB fZ kV kU s49):mV W B tk tq j m z TV PV q (λj=>j==1||D j) w jR (TV) jW fE fD fC fB jL jK jJ gD s43 s44 gB fZ kV kU s49:=
 ⟨h.hb,h.h0,λ_=>rfl,h.h2,h.h3,h.h4,h.h5,h.h6,h.h7,h.h8,h.h9,h.h10,h.h11,h.h12,h.h13,h.h14,h.h15,h.h16,h.h17⟩
theorem mV.at2 (h:mV W B tk tq j m z TV PV q D w jR jX jW fE fD fC fB jL jK jJ gD s43 s44 gB fZ kV kU s49):mV W B tk tq j m z TV PV q (λj=>j==2||D j) w jR jX (.int .i64 j) fE fD fC fB jL jK jJ gD s43 s44 gB fZ kV kU s49:=
 ⟨h.hb,h.h0,h.h1,λ_=>rfl,h.h3,h.h4,h.h5,h.h6,h.h7,h.h8,h.h9,h.h10,h.h11,h.h12,h.h13,h.h14,h.h15,h.h16,h.h17⟩
theorem mV.at3 (h:mV W B tk tq j m z TV PV q D w jR jX jW fE fD fC fB jL jK jJ gD s43 s44 gB fZ kV kU s49):mV W B tk tq j m z TV PV q (λj=>j==3||D j) w jR jX jW (.pointer (some ⟨tk,tq+j,none⟩)) fD fC fB jL jK jJ gD s43 s44 gB fZ kV kU s49:=
 ⟨h.hb,h.h0,h.h1,h.h2,λ_=>rfl,h.h4,h.h5,h.h6,h.h7,h.h8,h.h9,h.h10,h.h11,h.h12,h.h13,h.h14,h.h15,h.h16,h.h17⟩
theorem mV.at4 (h:mV W B tk tq j m z TV PV q D w jR jX jW fE fD fC fB jL jK jJ gD s43 s44 gB fZ kV kU s49):mV W B tk tq j m z TV PV q (λj=>j==4||D j) w jR jX jW fE (PV) fC fB jL jK jJ gD s43 s44 gB fZ kV kU s49:=
 ⟨h.hb,h.h0,h.h1,h.h2,h.h3,λ_=>rfl,h.h5,h.h6,h.h7,h.h8,h.h9,h.h10,h.h11,h.h12,h.h13,h.h14,h.h15,h.h16,h.h17⟩
theorem mV.at5 (h:mV W B tk tq j m z TV PV q D w jR jX jW fE fD fC fB jL jK jJ gD s43 s44 gB fZ kV kU s49):mV W B tk tq j m z TV PV q (λj=>j==5||D j) w jR jX jW fE fD (.int .i64 q) fB jL jK jJ gD s43 s44 gB fZ kV kU s49:=
 ⟨h.hb,h.h0,h.h1,h.h2,h.h3,h.h4,λ_=>rfl,h.h6,h.h7,h.h8,h.h9,h.h10,h.h11,h.h12,h.h13,h.h14,h.h15,h.h16,h.h17⟩
theorem mV.at6 (h:mV W B tk tq j m z TV PV q D w jR jX jW fE fD fC fB jL jK jJ gD s43 s44 gB fZ kV kU s49):mV W B tk tq j m z TV PV q (λj=>j==6||D j) w jR jX jW fE fD fC (.pointer (some ⟨B,0,none⟩)) jL jK jJ gD s43 s44 gB fZ kV kU s49:=
 ⟨h.hb,h.h0,h.h1,h.h2,h.h3,h.h4,h.h5,λ_=>rfl,h.h7,h.h8,h.h9,h.h10,h.h11,h.h12,h.h13,h.h14,h.h15,h.h16,h.h17⟩
theorem mV.at7 (h:mV W B tk tq j m z TV PV q D w jR jX jW fE fD fC fB jL jK jJ gD s43 s44 gB fZ kV kU s49):mV W B tk tq j m z TV PV q (λj=>j==7||D j) w jR jX jW fE fD fC fB (.int .i64 z) jK jJ gD s43 s44 gB fZ kV kU s49:=
 ⟨h.hb,h.h0,h.h1,h.h2,h.h3,h.h4,h.h5,h.h6,λ_=>rfl,h.h8,h.h9,h.h10,h.h11,h.h12,h.h13,h.h14,h.h15,h.h16,h.h17⟩
theorem mV.at8 (h:mV W B tk tq j m z TV PV q D w jR jX jW fE fD fC fB jL jK jJ gD s43 s44 gB fZ kV kU s49):mV W B tk tq j m z TV PV q (λj=>j==8||D j) w jR jX jW fE fD fC fB jL (.pointer (some ⟨B,0,none⟩)) jJ gD s43 s44 gB fZ kV kU s49:=
 ⟨h.hb,h.h0,h.h1,h.h2,h.h3,h.h4,h.h5,h.h6,h.h7,λ_=>rfl,h.h9,h.h10,h.h11,h.h12,h.h13,h.h14,h.h15,h.h16,h.h17⟩
theorem mV.at9 (h:mV W B tk tq j m z TV PV q D w jR jX jW fE fD fC fB jL jK jJ gD s43 s44 gB fZ kV kU s49):mV W B tk tq j m z TV PV q (λj=>j==9||D j) w jR jX jW fE fD fC fB jL jK (.int .i64 z) gD s43 s44 gB fZ kV kU s49:=
 ⟨h.hb,h.h0,h.h1,h.h2,h.h3,h.h4,h.h5,h.h6,h.h7,h.h8,λ_=>rfl,h.h10,h.h11,h.h12,h.h13,h.h14,h.h15,h.h16,h.h17⟩
theorem mV.at10 (h:mV W B tk tq j m z TV PV q D w jR jX jW fE fD fC fB jL jK jJ gD s43 s44 gB fZ kV kU s49):mV W B tk tq j m z TV PV q (λj=>j==10||D j) w jR jX jW fE fD fC fB jL jK jJ (.pointer (some ⟨B,0,none⟩)) s43 s44 gB fZ kV kU s49:=
 ⟨h.hb,h.h0,h.h1,h.h2,h.h3,h.h4,h.h5,h.h6,h.h7,h.h8,h.h9,λ_=>rfl,h.h11,h.h12,h.h13,h.h14,h.h15,h.h16,h.h17⟩
theorem mV.at11 (h:mV W B tk tq j m z TV PV q D w jR jX jW fE fD fC fB jL jK jJ gD s43 s44 gB fZ kV kU s49):mV W B tk tq j m z TV PV q (λj=>j==11||D j) w jR jX jW fE fD fC fB jL jK jJ gD (.int .i64 z) s44 gB fZ kV kU s49:=
 ⟨h.hb,h.h0,h.h1,h.h2,h.h3,h.h4,h.h5,h.h6,h.h7,h.h8,h.h9,h.h10,λ_=>rfl,h.h12,h.h13,h.h14,h.h15,h.h16,h.h17⟩
theorem mV.at12 (h:mV W B tk tq j m z TV PV q D w jR jX jW fE fD fC fB jL jK jJ gD s43 s44 gB fZ kV kU s49):mV W B tk tq j m z TV PV q (λj=>j==12||D j) w jR jX jW fE fD fC fB jL jK jJ gD s43 (.int .i64 (z*z)) gB fZ kV kU s49:=
 ⟨h.hb,h.h0,h.h1,h.h2,h.h3,h.h4,h.h5,h.h6,h.h7,h.h8,h.h9,h.h10,h.h11,λ_=>rfl,h.h13,h.h14,h.h15,h.h16,h.h17⟩
theorem mV.at13 (h:mV W B tk tq j m z TV PV q D w jR jX jW fE fD fC fB jL jK jJ gD s43 s44 gB fZ kV kU s49) (hm:m<3):mV W B tk tq j m z TV PV q (λj=>j==13||D j) (w.alloc (.cells #[.int .i64 1,.int .i64 z,.int .i64 (z*z)] 3)) jR jX jW fE fD fC fB jL jK jJ gD s43 s44 (.slice (some ⟨w.heap.size,0,none⟩) 3 3) fZ kV kU s49:=by
 have hb:=aD w (.cells #[.int .i64 1,.int .i64 z,.int .i64 (z*z)] 3);refine ⟨aC h.hb hb,h.h0,h.h1,h.h2,h.h3,h.h4,h.h5,h.h6,h.h7,h.h8,h.h9,h.h10,h.h11,h.h12,?_,h.h14,?_,h.h16,h.h17⟩
 · exact λ_=>⟨w.heap.size,rfl,aID hm⟩
 · intro e;obtain ⟨g,h1,h2⟩:=h.h15 e;exact ⟨g,h1,aA hb _ _ h2⟩
theorem mV.at14 (h:mV W B tk tq j m z TV PV q D w jR jX jW fE fD fC fB jL jK jJ gD s43 s44 gB fZ kV kU s49):mV W B tk tq j m z TV PV q (λj=>j==14||D j) w jR jX jW fE fD fC fB jL jK jJ gD s43 s44 gB (.int .i64 m) kV kU s49:=
 ⟨h.hb,h.h0,h.h1,h.h2,h.h3,h.h4,h.h5,h.h6,h.h7,h.h8,h.h9,h.h10,h.h11,h.h12,h.h13,λ_=>rfl,h.h15,h.h16,h.h17⟩
theorem mV.at15 (h:mV W B tk tq j m z TV PV q D w jR jX jW fE fD fC fB jL jK jJ gD s43 s44 gB fZ kV kU s49) {g:Nat} (hc:w.cell? ⟨g,m,none⟩=some (.int .i64 (rJ z m))):mV W B tk tq j m z TV PV q (λj=>j==15||D j) w jR jX jW fE fD fC fB jL jK jJ gD s43 s44 gB fZ (.pointer (some ⟨g,m,none⟩)) kU s49:=
 ⟨h.hb,h.h0,h.h1,h.h2,h.h3,h.h4,h.h5,h.h6,h.h7,h.h8,h.h9,h.h10,h.h11,h.h12,h.h13,h.h14,λ_=>⟨g,rfl,hc⟩,h.h16,h.h17⟩
theorem mV.at16 (h:mV W B tk tq j m z TV PV q D w jR jX jW fE fD fC fB jL jK jJ gD s43 s44 gB fZ kV kU s49):mV W B tk tq j m z TV PV q (λj=>j==16||D j) w jR jX jW fE fD fC fB jL jK jJ gD s43 s44 gB fZ kV (.int .i64 (rJ z m)) s49:=
 ⟨h.hb,h.h0,h.h1,h.h2,h.h3,h.h4,h.h5,h.h6,h.h7,h.h8,h.h9,h.h10,h.h11,h.h12,h.h13,h.h14,h.h15,λ_=>rfl,h.h17⟩
theorem mV.at17 (h:mV W B tk tq j m z TV PV q D w jR jX jW fE fD fC fB jL jK jJ gD s43 s44 gB fZ kV kU s49):mV W B tk tq j m z TV PV q (λj=>j==17||D j) w jR jX jW fE fD fC fB jL jK jJ gD s43 s44 gB fZ kV kU (.bool ((q:Int)!=rJ z m)):=
 ⟨h.hb,h.h0,h.h1,h.h2,h.h3,h.h4,h.h5,h.h6,h.h7,h.h8,h.h9,h.h10,h.h11,h.h12,h.h13,h.h14,h.h15,h.h16,λ_=>rfl⟩
theorem mV.start (h:Below W.heap.size W w):mV W B tk tq j m z TV PV q (λ_=>false) w jR jX jW fE fD fC fB jL jK jJ gD s43 s44 gB fZ kV kU s49:=
 ⟨h,λe=>(by cases e),λe=>(by cases e),λe=>(by cases e),λe=>(by cases e),λe=>(by cases e),λe=>(by cases e),λe=>(by cases e),λe=>(by cases e),λe=>(by cases e),λe=>(by cases e),λe=>(by cases e),λe=>(by cases e),λe=>(by cases e),λe=>(by cases e),λe=>(by cases e),λe=>(by cases e),λe=>(by cases e),λe=>(by cases e)⟩
end
theorem X4 (s:List Int) (sv:Value) (z:Int) (tb:List (List Int)) (mv:Value) (w:World) (hN:iK w s sv) (hT:CZ w tb mv) (hs:s.all bN=true):
  Calls Tryz.prog 16 #[sv,.agg #[.int .i64 z,mv]] w λe w'=>e= .returned (.int .i64 (rA s z tb))/\Below w.heap.size w w':=by
 have HN:=aB hN;have HT:=aB hT;have Hs:=aB hs;obtain ⟨sa,sc,sb,so,rfl,aOA,aKL,QM,hSF⟩:=hN;obtain ⟨ta,tc,tk,tq,rfl,aDS,aS3,aN8,hTF⟩:=hT;have HSF:=aB hSF;have HTF:=aB hTF;unfold maxLen at QM aN8;clear hSF hTF hs;go_enter Tryz.func16,Tryz.ntmps16
 go_upto_region 1 with fail
 generalize hW1:w.alloc (.cells #[.int .i64 z,.slice ta tb.length tc] 38)=W1;have hB1:Below w.heap.size w W1:=by rw [←hW1];exact aD _ _
 have m0:W1.cell? ⟨w.heap.size,0,none⟩=some (.int .i64 z):=by rw [←hW1];exact aF rfl
 have m1:W1.cell? ⟨w.heap.size,1,none⟩=some (.slice ta tb.length tc):=by rw [←hW1];exact aF rfl
 clear hW1;by_cases h1:z<1
 · have Hf:Hid (rA s z tb=5):=if_pos (.inl h1)
   go_wp2_with fail
   go_ret;exact ⟨by rw [Hf.out];rfl,hB1⟩
 by_cases h8:8<z
 · have Hf:Hid (rA s z tb=5):=if_pos (.inr (.inl h8))
   go_wp2_with fail
   go_ret;exact ⟨by rw [Hf.out];rfl,hB1⟩
 by_cases hl:tb.length=s.length
 · have Hf:Hid (rA s z tb=uG z (s.zip tb)):=if_neg (by omega);have hlb:((tb.length:Int)!=(s.length:Int))=false:=by simp [hl]
   have Hl:=aB hl;clear hl
   go_wp2_with fail
   clear hlb
   go_loopw [27] (λi wr=>∃j:Nat,j<=s.length/\i= .int .i64 j/\(∀i,i<j->∀a,(s.zip tb)[i]?=some a->uW z a=0)/\Below W1.heap.size W1 wr) (λi _=>s.length - (intOf i).toNat)
   case atStart=>exact ⟨0,Nat.zero_le _,rfl,λi hi=>by omega,Below.refl _ _⟩
   case round=>
    obtain ⟨j,hj,rfl,hok,hBx⟩:=hrel;have nD:=aB hok;clear hok;have hBr:=aC hB1 hBx;replace m0:=aA hBx _ _ m0;replace m1:=aA hBx _ _ m1;by_cases hlt:j<s.length
    · have hlt':(j:Int)<(s.length:Int):=by omega
      have hjt:(j:Int)<(tb.length:Int):=by have:=Hl.out;omega
      have hc:=aA hBr _ _ (HSF.out j hlt);obtain ⟨pv,p1,hP⟩:=HTF.out j (by omega);replace p1:=aA hBr _ _ p1;replace hP:=hP.below hBr;have hsj:s[j]?=some (s.getD j 0):=by rw [List.getD_eq_getElem?_getD,List.getElem?_eq_getElem hlt];rfl
      have htj:tb[j]?=some (tb.getD j []):=by rw [List.getD_eq_getElem?_getD,List.getElem?_eq_getElem (by omega)];rfl
      have aDY:Hid ((s.zip tb)[j]?=some (s.getD j 0,tb.getD j [])):=by rw [Hid,List.getElem?_zip_eq_some];exact ⟨hsj,htj⟩
      have hok2:0<=s.getD j 0/\s.getD j 0<=2:=by have:=List.all_eq_true.1 Hs.out _ (List.mem_of_getElem? hsj);simpa [bN] using this
      have HP:=aB hP;obtain ⟨ra,rc,rb,ro,rfl,aDT,aS6,aOB,hRF⟩:=hP;have HRF:=aB hRF;unfold maxLen at aOB;generalize s.getD j 0=n at*;generalize tb.getD j []=row at*;have hsa:sa=some ⟨sb,so,none⟩:=aOA (by omega);subst hsa;have hta:ta=some ⟨tk,tq,none⟩:=aDS (by omega);subst hta;clear hRF hsj htj aOA aDS
      go_upto_region 6 with fail
      obtain ⟨m,rfl⟩:∃m:Nat,n=m:=⟨n.toNat,by omega⟩;have hm3:m<3:=by omega
      have aVR:(m:Int)<3:=by omega
      have HZ:Hid (z*z<=64/\0<=z*z):=⟨Int.mul_le_mul (by omega:z<=8) (by omega:z<=8) (by omega) (by omega),Int.mul_nonneg (by omega) (by omega)⟩
      go_cut [49] (λs49 wx=>s49= .bool ((row.length:Int)!=rJ z m)/\Below wr.heap.size wr wx)
      case first=>
       refine lU (λD a w'=>∃jR jX jW fE fD fC fB jL jK jJ gD s43 s44 gB fZ kV kU s49:Value,a=⟨#[.slice (some ⟨sb,so,none⟩) s.length sc,.agg #[.int .i64 z,.slice (some ⟨tk,tq,none⟩) tb.length tc],undef,.pointer (some ⟨w.heap.size,0,none⟩),u4,.int .i64 j,.int .i64 m,undef,u8,.pointer (some ⟨w.heap.size,0,none⟩),.int .i64 z,.bool false,.bool false,.pointer (some ⟨w.heap.size,0,none⟩),.int .i64 z,.bool false,.bool false,.bool false,.pointer (some ⟨w.heap.size,1,none⟩),.slice (some ⟨tk,tq,none⟩) tb.length tc,.int .i64 tb.length,.slice (some ⟨sb,so,none⟩) s.length sc,.int .i64 s.length,.bool false,.bool false,.slice (some ⟨sb,so,none⟩) s.length sc,.int .i64 s.length,.int .i64 j,.bool true,.int .i64 j,.pointer (some ⟨sb,so+j,none⟩),.int .i64 m,jR,jX,jW,fE,fD,fC,fB,jL,jK,jJ,gD,s43,s44,gB,fZ,kV,kU,s49,u50,u51,u52,u53,u54,u55,u56,u57,u58,u59,u60,u61,u62,u63,u64,u65,u66,u67,u68,u69],[]⟩/\mV wr w.heap.size tk tq j m z (.slice (some ⟨tk,tq,none⟩) tb.length tc) (.slice ra row.length rc) row.length D w' jR jX jW fE fD fC fB jL jK jJ gD s43 s44 gB fZ kV kU s49) (by kernel_rfl) (by kernel_rfl) ?_ ?_ ⟨_,_,_,_,_,_,_,_,_,_,_,_,_,_,_,_,_,_,rfl,mV.start (Below.refl _ _).drew⟩
       · rintro D a w' i o hi ⟨jR,jX,jW,fE,fD,fC,fB,jL,jK,jJ,gD,s43,s44,gB,fZ,kV,kU,s49,rfl,hI⟩ hD ho aI;have HI:=aB hI;replace m0:=aA hI.hb _ _ m0;replace m1:=aA hI.hb _ _ m1;replace p1:=aA hI.hb _ _ p1;clear hI;have hi':i<18:=hi;clear hi;rcases (by omega:i=0\/i=1\/i=2\/i=3\/i=4\/i=5\/i=6\/i=7\/i=8\/i=9\/i=10\/i=11\/i=12\/i=13\/i=14\/i=15\/i=16\/i=17) with rfl|rfl|rfl|rfl|rfl|rfl|rfl|rfl|rfl|rfl|rfl|rfl|rfl|rfl|rfl|rfl|rfl|rfl
         · obtain rfl:=Option.some.inj ho;clear ho aI hD;refine wpOp_step rfl (λK hK=>?_);go_simp;exact hK _ _ ⟨_,_,_,_,_,_,_,_,_,_,_,_,_,_,_,_,_,_,rfl,HI.out.at0⟩
         · obtain rfl:=Option.some.inj ho;have d0:=HI.out.h0 (aI ⟨0,.data⟩ (by simp) rfl);subst d0;clear ho aI hD;refine wpOp_step rfl (λK hK=>?_);go_simp;exact hK _ _ ⟨_,_,_,_,_,_,_,_,_,_,_,_,_,_,_,_,_,_,rfl,HI.out.at1⟩
         · obtain rfl:=Option.some.inj ho;clear ho aI hD;refine wpOp_step rfl (λK hK=>?_);go_simp;exact hK _ _ ⟨_,_,_,_,_,_,_,_,_,_,_,_,_,_,_,_,_,_,rfl,HI.out.at2⟩
         · obtain rfl:=Option.some.inj ho;have d1:=HI.out.h1 (aI ⟨1,.data⟩ (by simp) rfl);subst d1;have d2:=HI.out.h2 (aI ⟨2,.data⟩ (by simp) rfl);subst d2;clear ho aI hD;refine wpOp_step rfl (λK hK=>?_);go_simp;exact hK _ _ ⟨_,_,_,_,_,_,_,_,_,_,_,_,_,_,_,_,_,_,rfl,HI.out.at3⟩
         · obtain rfl:=Option.some.inj ho;have d3:=HI.out.h3 (aI ⟨3,.data⟩ (by simp) rfl);subst d3;clear ho aI hD;refine wpOp_step rfl (λK hK=>?_);go_simp;exact hK _ _ ⟨_,_,_,_,_,_,_,_,_,_,_,_,_,_,_,_,_,_,rfl,HI.out.at4⟩
         · obtain rfl:=Option.some.inj ho;have d4:=HI.out.h4 (aI ⟨4,.data⟩ (by simp) rfl);subst d4;clear ho aI hD;refine wpOp_step rfl (λK hK=>?_);go_simp;exact hK _ _ ⟨_,_,_,_,_,_,_,_,_,_,_,_,_,_,_,_,_,_,rfl,HI.out.at5⟩
         · obtain rfl:=Option.some.inj ho;clear ho aI hD;refine wpOp_step rfl (λK hK=>?_);go_simp;exact hK _ _ ⟨_,_,_,_,_,_,_,_,_,_,_,_,_,_,_,_,_,_,rfl,HI.out.at6⟩
         · obtain rfl:=Option.some.inj ho;have d6:=HI.out.h6 (aI ⟨6,.data⟩ (by simp) rfl);subst d6;clear ho aI hD;refine wpOp_step rfl (λK hK=>?_);go_simp;exact hK _ _ ⟨_,_,_,_,_,_,_,_,_,_,_,_,_,_,_,_,_,_,rfl,HI.out.at7⟩
         · obtain rfl:=Option.some.inj ho;clear ho aI hD;refine wpOp_step rfl (λK hK=>?_);go_simp;exact hK _ _ ⟨_,_,_,_,_,_,_,_,_,_,_,_,_,_,_,_,_,_,rfl,HI.out.at8⟩
         · obtain rfl:=Option.some.inj ho;have d8:=HI.out.h8 (aI ⟨8,.data⟩ (by simp) rfl);subst d8;clear ho aI hD;refine wpOp_step rfl (λK hK=>?_);go_simp;exact hK _ _ ⟨_,_,_,_,_,_,_,_,_,_,_,_,_,_,_,_,_,_,rfl,HI.out.at9⟩
         · obtain rfl:=Option.some.inj ho;clear ho aI hD;refine wpOp_step rfl (λK hK=>?_);go_simp;exact hK _ _ ⟨_,_,_,_,_,_,_,_,_,_,_,_,_,_,_,_,_,_,rfl,HI.out.at10⟩
         · obtain rfl:=Option.some.inj ho;have d10:=HI.out.h10 (aI ⟨10,.data⟩ (by simp) rfl);subst d10;clear ho aI hD;refine wpOp_step rfl (λK hK=>?_);go_simp;exact hK _ _ ⟨_,_,_,_,_,_,_,_,_,_,_,_,_,_,_,_,_,_,rfl,HI.out.at11⟩
         · obtain rfl:=Option.some.inj ho;have d9:=HI.out.h9 (aI ⟨9,.data⟩ (by simp) rfl);subst d9;have d11:=HI.out.h11 (aI ⟨11,.data⟩ (by simp) rfl);subst d11;have hzz:=HZ.out;have hw:IntKind.i64.wrap (z*z)=z*z:=by rw [IntKind.wrap_i64];omega
           clear ho aI hD;refine wpOp_step rfl (λK hK=>?_);go_simp;exact hK _ _ ⟨_,_,_,_,_,_,_,_,_,_,_,_,_,_,_,_,_,_,rfl,HI.out.at12⟩
         · obtain rfl:=Option.some.inj ho;have d7:=HI.out.h7 (aI ⟨7,.data⟩ (by simp) rfl);subst d7;have d12:=HI.out.h12 (aI ⟨12,.data⟩ (by simp) rfl);subst d12;clear ho aI hD;refine wpOp_step rfl (λK hK=>?_);go_simp;exact hK _ _ ⟨_,_,_,_,_,_,_,_,_,_,_,_,_,_,_,_,_,_,rfl,HI.out.at13 hm3⟩
         · obtain rfl:=Option.some.inj ho;clear ho aI hD;refine wpOp_step rfl (λK hK=>?_);go_simp;exact hK _ _ ⟨_,_,_,_,_,_,_,_,_,_,_,_,_,_,_,_,_,_,rfl,HI.out.at14⟩
         · obtain rfl:=Option.some.inj ho;have d13:=HI.out.h13 (aI ⟨13,.data⟩ (by simp) rfl);have d14:=HI.out.h14 (aI ⟨14,.data⟩ (by simp) rfl);subst d14;obtain ⟨g,rfl,hg⟩:=d13;clear ho aI hD;refine wpOp_step rfl (λK hK=>?_);go_simp;exact hK _ _ ⟨_,_,_,_,_,_,_,_,_,_,_,_,_,_,_,_,_,_,rfl,HI.out.at15 hg⟩
         · obtain rfl:=Option.some.inj ho;have d15:=HI.out.h15 (aI ⟨15,.data⟩ (by simp) rfl);obtain ⟨g,rfl,hg⟩:=d15;clear ho aI hD;refine wpOp_step rfl (λK hK=>?_);go_simp;exact hK _ _ ⟨_,_,_,_,_,_,_,_,_,_,_,_,_,_,_,_,_,_,rfl,HI.out.at16⟩
         · obtain rfl:=Option.some.inj ho;have d5:=HI.out.h5 (aI ⟨5,.data⟩ (by simp) rfl);subst d5;have d16:=HI.out.h16 (aI ⟨16,.data⟩ (by simp) rfl);subst d16;clear ho aI hD;refine wpOp_step rfl (λK hK=>?_);go_simp;exact hK _ _ ⟨_,_,_,_,_,_,_,_,_,_,_,_,_,_,_,_,_,_,rfl,HI.out.at17⟩
       · rintro D a w' ⟨jR,jX,jW,fE,fD,fC,fB,jL,jK,jJ,gD,s43,s44,gB,fZ,kV,kU,s49,rfl,hI⟩ hall;have h17:=hI.h17 (hall 17 (by decide));subst h17;have Hb:=aB hI.hb;clear hI hall
         go_wp2_with fail
         go_meet
         case rel=>exact ⟨rfl,Hb.out⟩
      case rest=>
       obtain ⟨rfl,hby⟩:=hcut;generalize wc=wy at*;replace m0:=aA hby _ _ m0;replace m1:=aA hby _ _ m1;replace p1:=aA hby _ _ p1;have H9:=aC hBx hby;have hBz:=aC hB1 H9;by_cases hlen:(row.length:Int)=rJ z m
       · have hlb:((row.length:Int)!=rJ z m)=false:=by simp [hlen]
         have Hlen:=aB hlen;rw [hlb];clear hlen hlb
         go_wp2_with fail
         go_loopw [56] (λi wx=>∃q:Nat,q<=row.length/\i= .int .i64 q/\(∀i,i<q->inZ z (row.getD i 0)=true)/\wy=wx) (λi _=>row.length - (intOf i).toNat)
         case atStart=>exact ⟨0,Nat.zero_le _,rfl,λi hi=>by omega,rfl⟩
         case round=>
          obtain ⟨q,hq,rfl,hin,rfl⟩:=hrel;have Hin:=aB hin;clear hin;by_cases hql:q<row.length
          · have aQP:(q:Int)<(row.length:Int):=by omega
            have c3:=aA hby _ _ (HRF.out q hql);have hra:ra=some ⟨rb,ro,none⟩:=aDT (by omega);subst hra;have QW:Hid (row.getD q 0∈row):=by rw [Hid,List.getD_eq_getElem?_getD,List.getElem?_eq_getElem hql];simp
            have uD:Hid (inZ z (row.getD q 0)=true->∀i,i<q+1->inZ z (row.getD i 0)=true):=λh i hi=>by
             by_cases e:i=q
             · rw [e];exact h
             · exact Hin.out i (by omega)
            generalize row.getD q 0=x at*;clear aDT;by_cases hx:0<=x/\x<z
            · obtain ⟨x0,x1⟩:=hx;have Hn:=aB (uD.out (by simp [inZ,x0,x1]))
              go_wp2_with fail
              go_roundw
              case rel=>exact ⟨q+1,by omega,by go_num,Hn.out,trivial⟩
              case measure=>simp [intOf];omega
            · have MS:Hid (uG z (s.zip tb)=3):=by
               have hr:uW z ((m:Int),row)=3:=by unfold uW;rw [if_pos Hlen.out,if_neg];intro hall;have:=List.all_eq_true.1 hall x QW.out;simp only [inZ,decide_eq_true_eq] at this;exact hx this
               rw [Hid,JW nD.out aDY.out (by rw [hr];decide),hr]
              by_cases x0:x<0
              · clear hx
                go_wp2_with fail
                go_ret;exact ⟨by rw [Hf.out,MS.out];rfl,hBz⟩
              · have x1:z<=x:=by omega
                clear hx
                go_wp2_with fail
                go_ret;exact ⟨by rw [Hf.out,MS.out];rfl,hBz⟩
          · have aSM:Hid (uW z ((m:Int),row)=0):=by
             rw [Hid,Z9];refine ⟨Hlen.out,λx hx=>?_⟩;obtain ⟨i,hi,rfl⟩:=List.mem_iff_getElem.1 hx;have hi2:i<row.length:=hi;have:=Hin.out i (by omega);rw [List.getD_eq_getElem?_getD,List.getElem?_eq_getElem hi2] at this;simpa [inZ] using this
            have Hn:Hid (∀i,i<j+1->∀a,(s.zip tb)[i]?=some a->uW z a=0):=λi hi a ha=>by
             by_cases e:i=j
             · rw [e,aDY.out] at ha;cases ha;exact aSM.out
             · exact nD.out i (by omega) a ha
            clear aDT
            go_wp2_with fail
            go_roundw
            case rel=>exact ⟨j+1,by omega,by go_num,Hn.out,H9⟩
            case measure=>simp [intOf];omega
       · have hlb:((row.length:Int)!=rJ z m)=true:=by simp [hlen]
         have MS:Hid (uG z (s.zip tb)=5):=by
          have hr:uW z ((m:Int),row)=5:=by unfold uW;rw [if_neg hlen]
          rw [Hid,JW nD.out aDY.out (by rw [hr];decide),hr]
         rw [hlb];clear hlen hlb
         go_wp2_with fail
         go_ret;exact ⟨by rw [Hf.out,MS.out];rfl,hBz⟩
    · have bP:Hid (uG z (s.zip tb)=0):=by
       rw [Hid,EG];intro p hp;obtain ⟨i,hi⟩:=List.mem_iff_getElem?.1 hp;have hil:i<(s.zip tb).length:=(List.getElem?_eq_some_iff.1 hi).1;rw [List.length_zip] at hil;exact nD.out i (by omega) p hi
      clear aOA aDS
      go_wp2_with fail
      go_ret;exact ⟨by rw [Hf.out,bP.out];rfl,hBr⟩
 · have Hf:Hid (rA s z tb=5):=if_pos (.inr (.inr hl));have hlb:((tb.length:Int)!=(s.length:Int))=true:=by simp;omega
   clear hl
   go_wp2_with fail
   go_ret;exact ⟨by rw [Hf.out];rfl,hB1⟩
end
section
attribute [local go_sem ↓] Go.wp_at_zero Go.wp_at_succ
def kd (z:Int) (n:Int):Nat->Int
 |0=>n
 |j+1=>kd z n j / z
theorem WP (z n:Int):∀j,kd z (n / z) j=kd z n (j+1)
 |0=>rfl
 |j+1=>by rw [kd,WP z n j];rfl
theorem PM {z v:Int}:∀(vs:List Int) (n:Int) (L:List Int),l8 z (vs++[v]) n L=(l8 z vs n L).set v.toNat (kd z n vs.length % z)
 |[],n,L=>rfl
 |x::vs,n,L=>by rw [List.cons_append,l8,PM vs,l8,WP];rfl
theorem aFY {z v:Int} {vs:List Int} {j:Nat} {n:Int} {L:List Int} (h:vs[j]?=some v):l8 z (vs.take (j+1)) n L=(l8 z (vs.take j) n L).set v.toNat (kd z n j % z):=by have hj:j<vs.length:=(List.getElem?_eq_some_iff.1 h).1;rw [List.take_add_one,h];show l8 z (vs.take j++[v]) n L=_;rw [PM,List.length_take,Nat.min_eq_left (by omega)]
theorem WQ {z n:Int} (hz:1<=z) (h0:0<=n):∀j,0<=kd z n j/\kd z n j<=n
 |0=>⟨h0,Int.le_refl _⟩
 |j+1=>by have ih:=WQ hz h0 j;rw [kd];have h1:=Int.ediv_nonneg ih.1 (show (0:Int)<=z by omega);have h2:=Int.ediv_le_self z ih.1;exact ⟨h1,by omega⟩
theorem aNH {z:Int} (h1:1<=z) (h8:z<=8):∀j,pw z j<=pw 8 j
 |0=>Int.le_refl _
 |j+1=>by have ih:=aNH h1 h8 j;have h0:=aAA h1 j;rw [pw,pw];exact Int.mul_le_mul h8 ih (by omega) (by omega)
theorem aLW {z:Int} (h1:1<=z) (h8:z<=8) {j:Nat} (hj:j<=5):pw z j<=32768:=by
 have:=aNH h1 h8 j;have h2:pw 8 j<=32768:=by rcases (by omega:j=0\/j=1\/j=2\/j=3\/j=4\/j=5) with rfl|rfl|rfl|rfl|rfl|rfl<;>decide
 omega
def EB (W:World) (L:List Int) (wx:World):Prop:=Below W.heap.size W wx/\W.heap.size<wx.heap.size/\L.length=5/\∀i,i<5->wx.cell? ⟨W.heap.size,i,none⟩=some (.int .i64 (L.getD i 0))/\wx.frozen? ⟨W.heap.size,i,none⟩=false
theorem aJV (W:World):EB W uQ (W.alloc (.cells (madeCells #[.int .i64 0] (5*1)) 3)):=by refine ⟨aD _ _,by simp,rfl,λi hi=>⟨?_,nN _ _ _ _⟩⟩;rcases (by omega:i=0\/i=1\/i=2\/i=3\/i=4) with rfl|rfl|rfl|rfl|rfl<;>exact (aF rfl).trans (by simp [madeCells])
theorem aMX {W wx:World} {L:List Int} {m:Nat} {x:Int} (h:EB W L wx) (hm:m<5):EB W (L.set m x) (wx.setCell ⟨W.heap.size,m,none⟩ (.int .i64 x)):=by
 obtain ⟨h1,h2,h3,h4⟩:=h;refine ⟨h1.setCell (Nat.le_refl _) _,by simpa [World.setCell] using h2,by simp [h3],λi hi=>⟨?_,by simpa using (h4 i hi).2⟩⟩;by_cases e:i=m
 · subst e;rw [fK (h4 i hi).1,List.getD_eq_getElem?_getD,List.getElem?_set_self (by omega)];rfl
 · rw [aX (by intro e';simp only [Addr.mk.injEq] at e';omega),(h4 i hi).1,List.getD_eq_getElem?_getD,List.getD_eq_getElem?_getD,List.getElem?_set_ne (λe'=>e e'.symm)]
theorem aQA {W wx:World} {L:List Int} (h:EB W L wx):iK wx L (.slice (some ⟨W.heap.size,0,none⟩) 5 5):=by obtain ⟨h1,h2,h3,h4⟩:=h;refine ⟨some ⟨W.heap.size,0,none⟩,5,W.heap.size,0,by rw [h3],λ_=>rfl,by omega,by unfold maxLen;omega,λi hi=>?_⟩;rw [Nat.zero_add];exact (h4 i (by omega)).1
theorem aBQ {s:List Int} {z:Int} {tb:List (List Int)} (hm:MR s z tb) (hs:s.all bN=true) (k:Cl) (mv a:Value) (w:World) (hT:CZ w tb mv) (hS:dQ w k a)
  (hw:∀l∈k,jS s l.2.1/\jS s l.2.2) (hv5:(aP k []).length<=5) (hvr:∀n∈aP k [],0<=n/\n<=4):
  Calls Tryz.prog 18 #[.agg #[.int .i64 z,mv],a] w λe w'=>e= .returned (.bool (lQ z tb k))/\Below w.heap.size w w':=by
 have HT:=aB hT;have HS:=aB hS;have z1:=hm.z1;have z8:=hm.z8;have aSI:=aB (λ(L:List Int) (hL:L.length=5) (hr:∀x∈L,0<=x/\x<z) (ev:Value) (w':World) (hb:Below w.heap.size w w') (hE:iK w' L ev)=>aEX hm hs hL hr k mv ev a w' (hT.below hb) hE (hS.below hb) hw);obtain ⟨ta,tc,rfl⟩:=AV hT;obtain ⟨a1,a3,rfl⟩:=aK hS;have Hvr:=aB hvr;have Hpw:Hid (∀j,j<=(aP k []).length->1<=pw z j/\pw z j<=32768):=λj hj=>⟨aAA z1 j,aLW z1 z8 (by omega)⟩;obtain ⟨iI,hi,hz0,hz1,hz2⟩:=info_parts Tryz.info3;clear hm hs hT hS hw hvr;go_enter Tryz.func18,Tryz.ntmps18
 go_upto_region 1 with fail
 generalize hW1:w.alloc (.cells #[.int .i64 z,.slice ta tb.length tc] 38)=W1;have hB1:Below w.heap.size w W1:=by rw [←hW1];exact aD _ _
 have m0:W1.cell? ⟨w.heap.size,0,none⟩=some (.int .i64 z):=by rw [←hW1];exact aF rfl
 have m1:W1.cell? ⟨w.heap.size,1,none⟩=some (.slice ta tb.length tc):=by rw [←hW1];exact aF rfl
 clear hW1
 go_wp2_with fail
 refine (aAQ k _ _ (HS.out.below hB1) (by omega)).mono ?_;rintro e w2 ⟨vv,rfl,hN,hb2⟩;have hB2:=aC hB1 hb2;replace m0:=aA hb2 _ _ m0;replace m1:=aA hb2 _ _ m1;have HN:=aB hN;obtain ⟨va,vc,vb,vo,rfl,aN1,aQJ,aGP,hVF⟩:=hN;unfold maxLen at aGP;have HVF:=aB hVF;have Hho:Hid (lQ z tb k=(List.range (pw z (aP k []).length).toNat).all λn=>dB z tb (dX (l8 z (aP k []) n uQ)) k):=rfl;generalize aP k []=vs at*;clear hVF hb2 hB1
 go_wp2_with fail
 go_loopw [6,16] (λp i wr=>∃j:Nat,j<=vs.length/\i= .int .i64 j/\p= .int .i64 (pw z j)/\w2=wr) (λ_ i _=>vs.length - (intOf i).toNat)
 case atStart=>exact ⟨0,Nat.zero_le _,rfl,rfl,rfl⟩
 case round=>
  obtain ⟨j,hj,rfl,rfl,rfl⟩:=hrel;by_cases hlt:j<vs.length
  · have hlt':(j:Int)<(vs.length:Int):=by omega
    have h1:=Hpw.out j hj;have h2:=Hpw.out (j+1) (by omega);have jP:Hid (wrap64 (pw z j*z)=pw z (j+1)):=by unfold Hid wrap64;rw [show pw z (j+1)=pw z j*z by rw [pw,Int.mul_comm]];rw [show pw z (j+1)=pw z j*z by rw [pw,Int.mul_comm]] at h2;omega
    clear h1 h2
    go_wp2_with fail
    go_roundw
    case rel=>exact ⟨j+1,by omega,by go_num,by rw [←jP.out],trivial⟩
    case measure=>simp [intOf];omega
  · have lK:j=vs.length:=by omega
    subst lK;have hp:=Hpw.out vs.length (Nat.le_refl _);obtain ⟨all,hall⟩:∃all:Nat,pw z vs.length=all:=⟨(pw z vs.length).toNat,by omega⟩;rw [hall,Int.toNat_natCast] at Hho;rw [hall] at hp ⊢;clear hall Hpw
    go_wp2_with fail
    go_loopw [24] (λi wr=>∃n:Nat,n<=all/\i= .int .i64 n/\(∀q,q<n->dB z tb (dX (l8 z vs (q:Nat) uQ)) k=true)/\Below w2.heap.size w2 wr) (λi _=>all - (intOf i).toNat)
    case atStart=>exact ⟨0,Nat.zero_le _,rfl,λq hq=>by omega,Below.refl _ _⟩
    case round=>
     obtain ⟨n,hn,rfl,hok,hBx⟩:=hrel;have nD:=aB hok;clear hok;replace m0:=aA hBx _ _ m0;replace m1:=aA hBx _ _ m1;have hBr:=aC hB2 hBx;by_cases hnl:n<all
     · have aOC:(n:Int)<(all:Int):=by omega
       have hq0:(0:Int)<=(n:Int):=by omega
       have Hkd:=aB (λj=>WQ z1 hq0 j);have aUZ:=aB (λm=>EZ z1 (vs:=vs.take m) (n:=(n:Int)) (L:=uQ) (λx hx=>by simp at hx;omega));have hmk:=λw:World=>run_make (P:=Tryz.prog) w 22 3 iI _ Tryz.underlying22 hi hz0 .i64 .i64 5 5 (by omega) (by omega) (by rw [hz2];omega) (by omega);rw [hz1] at hmk
       go_wp2_with fail
       clear hmk;generalize wr=wo at*
       go_loopw [9,31] (λq i wx=>∃j:Nat,j<=vs.length/\i= .int .i64 j/\q= .int .i64 (kd z n j)/\EB wo (l8 z (vs.take j) n uQ) wx) (λ_ i _=>vs.length - (intOf i).toNat)
       case atStart=>exact ⟨0,Nat.zero_le _,rfl,rfl,aJV wo⟩
       case round=>
        obtain ⟨j,hj,rfl,rfl,hE⟩:=hrel;have HE:=aB hE;have H9:=hE.1;have hBz:=aC hBr H9;have hwo:w.heap.size<wo.heap.size:=World.block_lt_of_cell? _ _ m0;by_cases hjl:j<vs.length
        · have aOI:(j:Int)<(vs.length:Int):=by omega
          have hvj:vs[j]?=some (vs.getD j 0):=by rw [List.getD_eq_getElem?_getD,List.getElem?_eq_getElem hjl];rfl
          have hc:=aA (aC hBx H9) _ _ (HVF.out j hjl);have hvr:=Hvr.out _ (List.mem_of_getElem? hvj);generalize vs.getD j 0=v at hvj hc hvr;obtain ⟨m,rfl⟩:∃m:Nat,v=m:=⟨v.toNat,by omega⟩;have Htk:=aB (aFY (z:=z) (n:=(n:Int)) (L:=uQ) hvj);have hva:va=some ⟨vb,vo,none⟩:=aN1 (by omega);subst hva;replace m0:=aA H9 _ _ m0;obtain ⟨e1,e2⟩:=hE.2.2.2 m (by omega);have hm5:(m:Int)<5:=by omega
          have hm0:(0:Int)<=(m:Int):=by omega
          have hk:=Hkd.out j;have Hkn:Hid (kd z n (j+1)=kd z n j / z):=rfl;rw [Int.toNat_natCast] at Htk;generalize kd z n j=q at hk Hkn Htk;obtain ⟨hk0,hk1⟩:=hk;have hzz:z≠0:=by omega
          have HS5:Hid (EB wo (l8 z (vs.take (j+1)) n uQ) (wr.setCell ⟨wo.heap.size,m,none⟩ (.int .i64 (q % z)))):=by rw [Htk.out];exact aMX HE.out (by omega)
          have m0s:(wr.setCell ⟨wo.heap.size,m,none⟩ (.int .i64 (q % z))).cell? ⟨w.heap.size,0,none⟩=some (.int .i64 z):=(aX (by intro e';simp only [Addr.mk.injEq] at e';omega)).trans m0;clear hvj hvr aN1 hE
          go_wp2_with fail
          go_roundw
          case rel=>exact ⟨j+1,by omega,by go_num,by rw [Hkn.out],HS5.out⟩
          case measure=>simp [intOf];omega
        · have lK:j=vs.length:=by omega
          subst lK;have Hq:Hid (iK wr (l8 z vs n uQ) (.slice (some ⟨wo.heap.size,0,none⟩) 5 5)):=by have:=aQA HE.out;rw [List.take_length] at this;exact this
          have Hr:Hid (∀x∈l8 z vs n uQ,0<=x/\x<z):=by have:=aUZ.out vs.length;rw [List.take_length] at this;exact this
          have Hc:=aB (aSI.out (l8 z vs n uQ) (by rw [W9];rfl) Hr.out (.slice (some ⟨wo.heap.size,0,none⟩) 5 5) wr hBz Hq.out);obtain ⟨V,hV⟩:∃V,dB z tb (dX (l8 z vs n uQ)) k=V:=⟨_,rfl⟩;rw [hV] at Hc;have HV:=aB hV;replace m0:=aA H9 _ _ m0;replace m1:=aA H9 _ _ m1;clear hE hV aN1
          go_wp2_with fail
          refine Hc.out.mono ?_;rintro e w5 ⟨rfl,hb5⟩;have dC:=aB (aC (aC hBx H9) hb5);clear hb5;cases V
          · have bP:Hid (lQ z tb k=false):=by
             rw [Hid,Hho.out,List.all_eq_false];exact ⟨n,List.mem_range.2 (by omega),by rw [HV.out];simp⟩
            go_wp2_with fail
            go_ret;exact ⟨by rw [bP.out];rfl,aC hB2 dC.out⟩
          · have uD:Hid (∀q,q<n+1->dB z tb (dX (l8 z vs (q:Nat) uQ)) k=true):=λq hq=>by
             by_cases e:q=n
             · rw [e];exact HV.out
             · exact nD.out q (by omega)
            go_wp2_with fail
            go_roundw
            case rel=>exact ⟨n+1,by omega,by go_num,uD.out,dC.out⟩
            case measure=>simp [intOf];omega
     · have bP:Hid (lQ z tb k=true):=by
        rw [Hid,Hho.out,List.all_eq_true];intro q hq;exact nD.out q (by have:=List.mem_range.1 hq;omega)
       go_wp2_with fail
       go_ret;exact ⟨by rw [bP.out];rfl,hBr⟩
end
section
attribute [local go_sem ↓] Go.wp_at_zero Go.wp_at_succ
theorem CF {s:List Int} {z:Int} {tb:List (List Int)} (hm:MR s z tb) (hs:s.all bN=true) {k:Cl} (hr:aN s k=0) (mv a:Value) (w:World) (hT:CZ w tb mv) (hS:dQ w k a):
  Calls Tryz.prog 18 #[.agg #[.int .i64 z,mv],a] w λe w'=>e= .returned (.bool (lQ z tb k))/\Below w.heap.size w w':=
 aBQ hm hs k mv a w hT hS (eP hr) (EC (eP hr)).2 (EC (eP hr)).1
theorem LF {s:List Int} {z:Int} {tb:List (List Int)} (hm:MR s z tb) {k:Cl} (hr:aN s k=0):lQ z tb k=true↔aY z tb k:=aFO hm.z1 (EC (eP hr)).1
end
end Go.Proofs.YtoklbpbmghbhnaeGreat
