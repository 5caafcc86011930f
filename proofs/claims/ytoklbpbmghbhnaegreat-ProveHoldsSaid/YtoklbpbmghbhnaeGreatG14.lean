import Derived.Test.YtoklbpbmghbhnaeGreatG13
import Derived.Deep.RegionHeld3
namespace Go.Proofs.YtoklbpbmghbhnaeGreat
set_option maxRecDepth 100000
set_option maxHeartbeats 4000000
open Go.RowKit Go.Deep Go.ChangeShapes Go.WideShapes
theorem TE (k:Cl) (a:Value) (w:World) (hS:dQ w k a) (hlen:k.length<=1000000):
 Calls Tryz.prog 91 #[a] w λe w'=>∃v er d,e= .returned (.tuple #[v,.int .i64 er])/\dQ w' d v/\((er=6/\d=[]/\dY k=none)\/(er=0/\dY k=some d))/\Below w.heap.size w w':=by
 obtain ⟨a1,c1,b1,oo,rfl,eZ,uY,hcm1,hF1⟩:=hS;unfold maxLen at hcm1;have zT:=aB hF1;clear hF1;obtain ⟨iL,hi,hz0,hz1,hz2⟩:=info_parts Tryz.info86;go_enter Tryz.func91,Tryz.ntmps91
 go_wp2_with fail
 go_loopw [4,10] (λv i wr=>∃(j:Nat) (out:Cl) (o1:Option Addr) (o3:Nat) (xs:List Value),j<=k.length/\i= .int .i64 j/\v= .slice o1 out.length o3/\out.length<=j/\dY (k.take j)=some out/\lD w.heap.size (XO wr v) wr out v xs/\Below w.heap.size w wr) (λ_ i _=>k.length - (intOf i).toNat)
 case atStart=>exact ⟨0,[],none,0,[],Nat.zero_le _,rfl,rfl,Nat.le_refl _,rfl,J3 _ _,Below.refl _ _⟩
 case round=>
  obtain ⟨j,out,o1,o3,xs,hj,rfl,rfl,hol,hT,hO,hBr⟩:=hrel;have HT:=aB hT;have HO:=aB hO;clear hT hO;have TJ:=hBr.size;by_cases hlt:j<k.length
  · have hlt':(j:Int)<(k.length:Int):=by omega
    obtain ⟨⟨yn,⟨⟨yv,yi⟩,yk⟩,⟨bB,bH⟩,aZ⟩,hy⟩:∃y,k[j]?=some y:=⟨k[j]'hlt,by simp⟩;obtain ⟨-,-,-,⟨u3',p3',hA0⟩,-,-,u6',p6',hD0⟩:=zT.out.at hy;obtain ⟨p0,p1,p2,⟨u3,p3,hA⟩,p4,p5,u6,p6,hD⟩:=(zT.out.below hBr).at hy;have e3:u3'=u3:=by have:=aA hBr _ _ p3';rw [p3] at this;exact (Option.some.inj this).symm
    have e6:u6'=u6:=by have:=aA hBr _ _ p6';rw [p6] at this;exact (Option.some.inj this).symm
    subst e3 e6;have ha1:a1=some ⟨b1,oo,none⟩:=eZ (by omega);subst ha1;have HA:=aB hA;have HD:=aB hD;have HA0:=aB hA0.toB;have HD0:=aB hD0.toB;obtain ⟨ya,yc,_,_,rfl,-,-,-,-⟩:=hA;obtain ⟨za,zc,_,_,rfl,-,-,-,-⟩:=hD;have Hy:=aB hy;have fQ:Hid (dY (k.take (j+1))=kG (some out) (yn,((yv,yi),yk),((bB,bH),aZ))):=by rw [Hid,xE hy,HT.out]
    have hn1:out.length+1<=maxLen:=by unfold maxLen;omega
    have hn2:(out.length+1)*88<=140737488355328:=by omega
    clear hy eZ p3' p6' hA0 hD0;simp only at*
    go_wp2_with fail
    obtain ⟨m0,m1,m2,m3,m4,m5,m6,-,hbm,-⟩:=dS (T:=86) (x0:= .bool yn) (w:=wr) (x1:= .bool yv) (x2:= .int .i64 yi) (x3:= .slice ya (Fo.len yk) yc) (x4:= .bool bB) (x5:= .int .i64 bH) (x6:= .slice za (Fo.len aZ) zc) (Below.refl _ _);refine (aBN out (yn,((yv,yi),yk),((bB,bH),aZ)) wr.heap.size _ _ _ _ (HO.out.cl.below hbm) ⟨m0,m1,m2,m3,m4,m5,m6,HA.out.below hbm,HD.out.below hbm⟩).mono ?_;rintro e w2 ⟨i,rfl,hf,hb2⟩;obtain ⟨g0,g1,g2,g3,g4,g5,g6,gf,hb2',hlt2⟩:=dS hb2;have hB2:=aC hBr hb2';clear hb2 p0 p1 p2 p3 p4 p5 p6 m0 m1 m2 m3 m4 m5 m6 hbm;rcases hf with ⟨rfl,hf⟩|⟨q,f,rfl,hq,hf⟩
    · have jP:Hid (dY (k.take (j+1))=some (out++[(yn,((yv,yi),yk),((bB,bH),aZ))])):=by
       show dY _=_;rw [fQ.out,kG,Option.bind_some,hf]
      clear hf;have hb5:∀ob,Below wr.heap.size wr (w2.alloc ob):=λob=>aC hb2' (aD _ _)
      go_wp2_with (at_builtin;refine bX rfl (.tmp 19) (.tmp 21) 44 rfl w.heap.size 86 iL (.agg #[.bool false,.bool false,.int .i64 0,.slice none 0 0,.bool false,.int .i64 0,.slice none 0 0]) 7 88 Tryz.underlying44 hi hz0 hz1 hz2 rfl (by decide) (.slice o1 out.length o3) out.length xs rfl (lD.below HO.out (hb5 _)).row _ 1 (jT (yn,((yv,yi),yk),((bB,bH),aZ)) (.slice ya (Fo.len yk) yc) (.slice za (Fo.len aZ) zc)) rfl IY hn1 hn2 (Nat.le_trans TJ (hb5 _).size) ?_;intro v4 w4 sM hg4 jE)
      obtain ⟨hO4,hB4⟩:=wY (l:=(yn,((yv,yi),yk),((bB,bH),aZ))) HO.out (hb5 _) TJ (HA0.out.kept (λq hq=>(aC hBr (hb5 _)).block q hq)) (HD0.out.kept (λq hq=>(aC hBr (hb5 _)).block q hq)) sM hg4 jE;obtain ⟨r1,r3,rfl⟩:=aK hO4.cl;have QJ:=aB hO4;have hBB:=hBr.trans hB4;clear hO4 sM hg4 jE
      go_wp2_with fail
      go_roundw
      case rel=>exact ⟨j+1,_,r1,r3,_,by omega,by go_num,rfl,by simp;omega,jP.out,QJ.out,hBB⟩
      case measure=>simp [intOf];omega
    · have hql:q<out.length:=(List.getElem?_eq_some_iff.1 hq).1;have aQP:(q:Int)<(out.length:Int):=by omega
      have hq0:(0:Int)<=(q:Int):=by omega
      obtain ⟨fn,f⟩:=f;have GU:Hid (lD w.heap.size (XO w2 (.slice o1 out.length o3)) w2 out (.slice o1 out.length o3) xs):=(HO.out.below hb2').wide (λq hq=>⟨by have:=hq.1;have:=hb2'.size;omega,hq.2⟩) (λ_ h=>h);obtain ⟨z1,z3,zb,zo,hze,hza,-,-,hzF⟩:=GU.out.cl;have hz1':o1=some ⟨zb,zo,none⟩:=by have:=hza (by omega);simp only [Value.slice.injEq] at hze;rw [hze.1];exact this
      subst hz1';have n0:=(hzF.at hq).1;simp only at n0;have jP:Hid (dY (k.take (j+1))=if fn=yn then some out else none):=by show dY _=_;rw [fQ.out,kG,Option.bind_some,hf]
      clear hf hq hze hza hzF z1 z3;have HO3:Hid (∀nq,lD w.heap.size (XO (w2.drewN nq) (.slice (some ⟨zb,zo,none⟩) out.length o3)) (w2.drewN nq) out (.slice (some ⟨zb,zo,none⟩) out.length o3) xs):=λnq=>(GU.out.below (below_drewN (Below.refl _ _) nq)).wide (λq hq=>⟨Nat.lt_of_lt_of_le hq.1 (below_drewN (Below.refl w2.heap.size w2) nq).size,hq.2⟩) (λ_ h=>h);cases fn<;>cases yn
      · have C8:Hid (dY (k.take (j+1))=some out):=by rw [Hid,jP.out];rfl
        go_upto_region 8 with fail
        go_quiet (fail)
        go_wp2_with fail
        go_roundw
        case rel=>exact ⟨j+1,_,_,o3,_,by omega,by go_num,rfl,by omega,C8.out,HO3.out _,below_drewN hB2 _⟩
        case measure=>simp [intOf];omega
      · have C8:Hid (dY k=none):=PN (j:=j+1) (by rw [jP.out];rfl)
        go_upto_region 8 with fail
        go_quiet (fail)
        go_wp2_with fail
        go_ret2;exact ⟨_,_,[],rfl,dQ.nil _,.inl ⟨rfl,rfl,C8.out⟩,below_drewN hB2 _⟩
      · have C8:Hid (dY k=none):=PN (j:=j+1) (by rw [jP.out];rfl)
        go_upto_region 8 with fail
        go_quiet (fail)
        go_wp2_with fail
        go_ret2;exact ⟨_,_,[],rfl,dQ.nil _,.inl ⟨rfl,rfl,C8.out⟩,below_drewN hB2 _⟩
      · have C8:Hid (dY (k.take (j+1))=some out):=by rw [Hid,jP.out];rfl
        go_upto_region 8 with fail
        go_quiet (fail)
        go_wp2_with fail
        go_roundw
        case rel=>exact ⟨j+1,_,_,o3,_,by omega,by go_num,rfl,by omega,C8.out,HO3.out _,below_drewN hB2 _⟩
        case measure=>simp [intOf];omega
  · have lK:j=k.length:=by omega
    have bP:Hid (dY k=some out):=by have:=HT.out;rw [lK,List.take_length] at this;exact this
    clear eZ
    go_wp2_with fail
    go_ret2;exact ⟨_,_,out,rfl,HO.out.cl,.inr ⟨rfl,bP.out⟩,hBr⟩
def NL (g:Nat) (W2:World) (S:Sb) (j:Nat) (wr:World):Prop:=
 Below g W2 wr/\qL wr g (S.length*4)/\g+1<=wr.heap.size/\∃xs,PC (λq=>g+1<=q/\q<wr.heap.size) wr (S.take j) xs/\∀i,i<xs.length->wr.cell? ⟨g,i,none⟩=xs[i]?
theorem aI2 {W2:World} {S:Sb} {z:Array Value}:NL W2.heap.size W2 S 0 (W2.alloc (.cells (madeCells z (S.length*4)) 92)):=by
 refine ⟨aD _ _,λi hi=>⟨?_,nN _ _ _ _⟩,by simp,[],rfl,λi hi=>by simp at hi⟩;have hs:i<(madeCells z (S.length*4)).size:=by simp [madeCells];exact hi
 exact ⟨(madeCells z (S.length*4))[i],by simp [hs]⟩
theorem aL0 {g:Nat} {W2 wr:World} {S:Sb} {j:Nat} {n m:Int} (h:NL g W2 S j wr) (hl:S[j]?=some (n,vr m)):NL g W2 S (j+1) (mW wr g (j*4) [.int .i64 n,.bool true,.int .i64 m,.slice none 0 0]):=by
 obtain ⟨hB,F7,hs,xs,hX,hc⟩:=h;have hj:j<S.length:=(List.getElem?_eq_some_iff.1 hl).1;have hxl:xs.length=j*4:=by rw [hX.len,List.length_take];rw [Nat.min_eq_left (by omega)]
 have at7:=tC (b:=g) (xs:=[.int .i64 n,.bool true,.int .i64 m,.slice none 0 0]) (o:=j*4) (w:=wr) (λi hi=>(F7 (j*4+i) (by simp at hi;omega)).1);refine ⟨gW (Nat.le_refl _) hB,λi hi=>?_,by rw [lX];omega,xs++[.int .i64 n,.bool true,.int .i64 m,.slice none 0 0],?_,λi hi=>?_⟩
 · obtain ⟨⟨v,hv⟩,hf⟩:=F7 i hi;refine ⟨?_,by rw [vX];exact hf⟩;by_cases hc:i<j*4\/j*4+4<=i
   · exact ⟨v,by rw [dP (.inr hc)];exact hv⟩
   · obtain ⟨q,rfl⟩:∃q,i=j*4+q:=⟨i - j*4,by omega⟩;exact ⟨_,at7 q _ (List.getElem?_eq_getElem (by simp;omega))⟩
 · rw [List.take_add_one,hl];refine PC.append (PC.one (t:=vr m) (SB.nil _ _)) ?_;refine hX.frame (λq hq=>⟨by omega,by rw [lX];omega⟩) (λq i hq=>dP (.inl (by omega)))
 · rw [List.getElem?_append];by_cases hc':i<xs.length
   · rw [if_pos hc',dP (.inr (.inl (by omega)))];exact hc i hc'
   · rw [if_neg hc'];have hi':i - xs.length<4:=by simp at hi;omega
     have:=at7 (i - xs.length) _ (List.getElem?_eq_getElem (by simpa using hi'));rw [show j*4+(i - xs.length)=i by omega] at this;rw [this,List.getElem?_eq_getElem (by simpa using hi')]
theorem aPW {g:Nat} {W2 wr:World} {S:Sb} (h:NL g W2 S S.length wr) (hm:S.length<=maxLen):dZ wr S (.slice (some ⟨g,0,none⟩) S.length S.length):=by obtain ⟨_,_,_,xs,hX,hc⟩:=h;rw [List.take_length] at hX;exact ⟨_,_,g,0,rfl,λ_=>rfl,Nat.le_refl _,hm,hX.at (λj hj=>by rw [Nat.zero_add];exact hc j hj)⟩
theorem AB (vs:List Int):(kP vs).length=vs.length:=by simp [kP]
theorem aPX {vs:List Int} {j:Nat} (h:j<vs.length):(kP vs)[j]?=some (vs.getD j 0,vr j):=by simp [kP,List.getD_eq_getElem?_getD,h]
theorem aL8 (vs:List Int):∀p∈kP vs,jD p.2/\gN p.2:=λp hp=>by simp only [kP,List.mem_mapIdx] at hp;obtain ⟨i,hi,rfl⟩:=hp;exact ⟨aPZ _,UU _⟩
theorem aBG (k:Cl) (a:Value) (vs:List Int) (vv:Value) (w:World) (hS:dQ w k a) (hN:iK w vs vv) (hn:∀l∈k,jD l.2.1/\jD l.2.2) (hlen:k.length<=1000000) (hvl:vs.length<=1000000):
 Calls Tryz.prog 92 #[a,vv] w λe w'=>∃g,e= .returned (.slice (some ⟨g,0,none⟩) k.length k.length)/\dQ w' (k.map (bK (aH (aV (kP vs))))) (.slice (some ⟨g,0,none⟩) k.length k.length)/\Below w.heap.size w w':=by
 have HS:=aB hS;obtain ⟨a1,a3,rfl⟩:=aK hS;obtain ⟨n1,n3,nb,no,rfl,hna,aVO,aTB,hnF⟩:=hN;unfold maxLen at aTB;have HnF:=aB hnF;have Hn:=aB hn;clear hS hnF hn;obtain ⟨iP,hi,hz0,hz1,hz2⟩:=info_parts Tryz.info92;have hmk:=λw:World=>run_make (P:=Tryz.prog) w 90 92 iP _ Tryz.underlying90 hi hz0 .i64 .i64 (vs.length:Int) (vs.length:Int) (by omega) (by omega) (by rw [hz2];omega) (by omega);rw [hz1] at hmk;simp only [Int.toNat_natCast] at hmk;go_enter Tryz.func92,Tryz.ntmps92
 go_wp2_with fail
 clear hmk hi hz0 hz1 hz2;have H0:Hid (NL w.heap.size w (kP vs) 0 (w.alloc (.cells (madeCells #[.int .i64 0,.bool false,.int .i64 0,.slice none 0 0] (vs.length*4)) 92))):=by have:=aI2 (W2:=w) (S:=kP vs) (z:=#[.int .i64 0,.bool false,.int .i64 0,.slice none 0 0]);rw [AB] at this;exact this
 go_loopw [13] (λi wr=>∃j:Nat,j<=vs.length/\i= .int .i64 j/\NL w.heap.size w (kP vs) j wr) (λi _=>vs.length - (intOf i).toNat)
 case atStart=>exact ⟨0,Nat.zero_le _,rfl,H0.out⟩
 case round=>
  obtain ⟨j,hj,rfl,hR⟩:=hrel;have HR:=aB hR;obtain ⟨hB,hT,hsz,-⟩:=hR;have hBw:Below w.heap.size w wr:=hB;by_cases hlt:j<vs.length
  · have hlt':(j:Int)<(vs.length:Int):=by omega
    have hj0:(0:Int)<=(j:Int):=by omega
    have hc:=aA hBw _ _ (HnF.out j hlt);have ha:n1=some ⟨nb,no,none⟩:=hna (by omega);subst ha;have hT':qL wr w.heap.size (vs.length*4):=by rw [AB] at hT;exact hT
    obtain ⟨⟨t0,e0⟩,f0⟩:=hT' (j*4) (by omega);obtain ⟨⟨t1,e1⟩,f1⟩:=hT' (j*4+1) (by omega);obtain ⟨⟨t2,e2⟩,f2⟩:=hT' (j*4+2) (by omega);obtain ⟨⟨t3,e3⟩,f3⟩:=hT' (j*4+3) (by omega);have fQ:=aB (aL0 HR.out (aPX hlt));generalize vs.getD j 0=nn at*;clear hna hT hT' hB
    go_wp2_with fail
    go_roundw
    case rel=>exact ⟨j+1,by omega,by go_num,fQ.out⟩
    case measure=>simp [intOf];omega
  · have lK:j=vs.length:=by omega
    have bP:Hid (dZ wr (kP vs) (.slice (some ⟨w.heap.size,0,none⟩) vs.length vs.length)):=by
     have h1:=HR.out;have e:j=(kP vs).length:=by rw [AB];exact lK
     rw [e] at h1;have:=aPW h1 (by rw [AB];unfold maxLen;omega);rw [AB] at this;exact this
    clear hna hT hB
    go_wp2_with fail
    refine (zJ (kP vs) _ k _ wr bP.out (aL8 vs) (HS.out.below hBw) Hn.out hlen).mono ?_;rintro e w2 ⟨g,rfl,hC,hb2⟩;have HC:=aB hC;have hB2:=aC hBw hb2;clear hC hb2
    go_wp2_with fail
    go_ret;exact ⟨g,rfl,HC.out,hB2⟩
theorem WC {w:World} {lo:Nat} {T:List Int} {v:Value} (h:w.ownsRow lo 3 1 v T.length (bO T)):iK w T v:=mJ h
theorem R7 (w:World):iK w [] (.slice none 0 0):=mJ (lo:=0) (World.ownsRow_nil _ _ _ _)
theorem tK (x:Bool×Int) (k:Fo) (v:List Int):v.length<=(bG x k v).length:=by
 have key:∀(F:Fo) (v:List Int),v.length<=(eT F v).length:=by
  intro F;induction F with
  |nil=>intro v;exact Nat.le_refl _
  |node p q y l r ihl ihr=>
   intro v;have h1:v.length<=(bG y l v).length:=by
    unfold bG;split
    · split
      · exact Nat.le_refl _
      · simp
    · exact ihl v
   exact Nat.le_trans h1 (ihr (bG y l v))
 unfold bG;split
 · split
   · exact Nat.le_refl _
   · simp
 · exact key k v
theorem KR (c:Cl) (j:Nat) (v:List Int):(aP (c.take j) v).length<=(aP c v).length:=by
 have key:∀(c:Cl) (v:List Int),v.length<=(aP c v).length:=by
  intro c;induction c with
  |nil=>intro v;exact Nat.le_refl _
  |cons l c ih=>intro v;have h1:=tK l.2.1.1 l.2.1.2 v;have h2:=tK l.2.2.1 l.2.2.2 (bG l.2.1.1 l.2.1.2 v);have h3:=ih (nA l v);have e:aP (l::c) v=aP c (nA l v):=rfl;rw [e];simp only [nA] at h3 ⊢;omega
 have e:aP c v=aP (c.drop j) (aP (c.take j) v):=by have h:aP (c.take j++c.drop j) v=aP (c.drop j) (aP (c.take j) v):=List.foldl_append;rw [List.take_append_drop] at h;exact h
 rw [e];exact key _ _
theorem aAQ (k:Cl) (a:Value) (w:World) (hS:dQ w k a) (hb:(aP k []).length<=1000000000000):
 Calls Tryz.prog 45 #[a] w λe w'=>∃v,e= .returned v/\iK w' (aP k []) v/\Below w.heap.size w w':=by
 obtain ⟨a1,c1,b1,o1,rfl,eZ,uY,hcm1,hF1⟩:=hS;unfold maxLen at hcm1;have zT:=aB hF1;clear hF1;go_enter Tryz.func45,Tryz.ntmps45
 go_wp2_with fail
 go_loopw [3,8] (λv i wr=>∃(j:Nat) (z1:Option Addr) (n z3:Nat),j<=k.length/\i= .int .i64 j/\v= .slice z1 n z3/\iK wr (aP (k.take j) []) v/\Below w.heap.size w wr) (λ_ i _=>k.length - (intOf i).toNat)
 case atStart=>exact ⟨0,none,0,0,Nat.zero_le _,rfl,rfl,R7 _,Below.refl _ _⟩
 case round=>
  obtain ⟨j,z1,n,z3,hj,rfl,rfl,hV,hBr⟩:=hrel;have HV:=aB hV;clear hV;by_cases hlt:j<k.length
  · have hlt':(j:Int)<(k.length:Int):=by omega
    obtain ⟨⟨yn,⟨⟨yv,yi⟩,yk⟩,⟨bB,bH⟩,aZ⟩,hy⟩:∃y,k[j]?=some y:=⟨k[j]'hlt,by simp⟩;obtain ⟨p0,p1,p2,⟨u3,p3,hA⟩,p4,p5,u6,p6,hD⟩:=(zT.out.below hBr).at hy;have ha1:a1=some ⟨b1,o1,none⟩:=eZ (by omega);subst ha1;have HA:=aB hA;have HD:=aB hD;obtain ⟨_,_,_,_,rfl,-,-,-,-⟩:=hA;obtain ⟨_,_,_,_,rfl,-,-,-,-⟩:=hD;have Hy:=aB hy;have Hln:Hid ((bG (yv,yi) yk (aP (k.take j) [])).length<=1000000000000/\(bG (bB,bH) aZ (bG (yv,yi) yk (aP (k.take j) []))).length<=1000000000000):=by have h1:=tL (v:=[]) hy;have h2:=KR k (j+1) [];have h3:=tK (bB,bH) aZ (bG (yv,yi) yk (aP (k.take j) []));rw [h1] at h2;simp only [nA] at h2;exact ⟨by omega,by omega⟩
    clear hy eZ;simp only at*
    go_wp2_with fail
    refine (NU (yv,yi) yk _ (aP (k.take j) []) _ _ _ rfl (HA.out.alloc _) (HV.out.alloc _) (by have:=Hln.out.1;omega)).mono ?_;rintro e w2 ⟨v2,rfl,hV2,hb2⟩;obtain ⟨-,-,-,-,e4,e5,e6,-,hb2',-⟩:=dS hb2;have hB2:=aC hBr hb2';have HD2:=aB (HD.out.below hb2');have HV2:=aB hV2;obtain ⟨y1,y3,rfl⟩:=dR hV2;have wM:=aB (rW (yv,yi) yk (aP (k.take j) []));clear hb2 hV2
    go_wp2_with fail
    refine (NU (bB,bH) aZ _ (bG (yv,yi) yk (aP (k.take j) [])) _ _ _ rfl HD2.out HV2.out (by have:=Hln.out.2;omega)).mono ?_;rintro e w3 ⟨v3,rfl,hV3,hb3⟩;have hB3:=aC hB2 hb3;have HV3:=aB hV3;obtain ⟨x1,x3,rfl⟩:=dR hV3;clear hV3
    go_wp2_with fail
    go_roundw
    case rel=>exact ⟨j+1,x1,_,x3,by omega,by go_num,rfl,by rw [tL Hy.out];exact HV3.out,hB3⟩
    case measure=>simp [intOf];omega
  · have bP:Hid (iK wr (aP k []) (.slice z1 n z3)):=by
     have e:j=k.length:=by omega
     have:=HV.out;rw [e,List.take_length] at this;exact this
    clear eZ
    go_wp2_with fail
    go_ret;exact ⟨_,rfl,bP.out,hBr⟩
theorem aAP (k:Cl) (a:Value) (w:World) (hS:dQ w k a) (hb:(aP k []).length<=1000000000000):
 Calls Tryz.prog 90 #[a] w λe w'=>∃v,e= .returned v/\iK w' (aP k []) v/\Below w.heap.size w w':=by
 obtain ⟨a1,c1,b1,o1,rfl,eZ,uY,hcm1,hF1⟩:=hS;unfold maxLen at hcm1;have zT:=aB hF1;clear hF1;go_enter Tryz.func90,Tryz.ntmps90
 go_wp2_with fail
 go_loopw [3,8] (λv i wr=>∃(j:Nat) (z1:Option Addr) (n z3:Nat),j<=k.length/\i= .int .i64 j/\v= .slice z1 n z3/\iK wr (aP (k.take j) []) v/\Below w.heap.size w wr) (λ_ i _=>k.length - (intOf i).toNat)
 case atStart=>exact ⟨0,none,0,0,Nat.zero_le _,rfl,rfl,R7 _,Below.refl _ _⟩
 case round=>
  obtain ⟨j,z1,n,z3,hj,rfl,rfl,hV,hBr⟩:=hrel;have HV:=aB hV;clear hV;by_cases hlt:j<k.length
  · have hlt':(j:Int)<(k.length:Int):=by omega
    obtain ⟨⟨yn,⟨⟨yv,yi⟩,yk⟩,⟨bB,bH⟩,aZ⟩,hy⟩:∃y,k[j]?=some y:=⟨k[j]'hlt,by simp⟩;obtain ⟨p0,p1,p2,⟨u3,p3,hA⟩,p4,p5,u6,p6,hD⟩:=(zT.out.below hBr).at hy;have ha1:a1=some ⟨b1,o1,none⟩:=eZ (by omega);subst ha1;have HA:=aB hA;have HD:=aB hD;obtain ⟨ya,yc,_,_,rfl,-,-,-,-⟩:=hA;obtain ⟨za,zc,_,_,rfl,-,-,-,-⟩:=hD;have Hy:=aB hy;have Hln:Hid ((bG (yv,yi) yk (aP (k.take j) [])).length<=1000000000000/\(bG (bB,bH) aZ (bG (yv,yi) yk (aP (k.take j) []))).length<=1000000000000):=by have h1:=tL (v:=[]) hy;have h2:=KR k (j+1) [];have h3:=tK (bB,bH) aZ (bG (yv,yi) yk (aP (k.take j) []));rw [h1] at h2;simp only [nA] at h2;exact ⟨by omega,by omega⟩
    have wM:=aB (rW (yv,yi) yk (aP (k.take j) []));clear hy eZ;simp only at*
    go_upto_region 5 with fail
    generalize fA:wr.alloc (.cells #[.bool yn,.bool yv,.int .i64 yi,.slice ya (Fo.len yk) yc,.bool bB,.int .i64 bH,.slice za (Fo.len aZ) zc] 86)=wa;obtain ⟨-,g1,g2,g3,g4,g5,g6,-,bZ,-⟩:=dS (T:=86) (x0:= .bool yn) (w:=wr) (wr:=wa) (x1:= .bool yv) (x2:= .int .i64 yi) (x3:= .slice ya (Fo.len yk) yc) (x4:= .bool bB) (x5:= .int .i64 bH) (x6:= .slice za (Fo.len aZ) zc) (by rw [fA];exact Below.refl _ _);clear fA;have HAa:=aB (HA.out.below bZ);have HDa:=aB (HD.out.below bZ);have HVa:=aB (HV.out.below bZ);have aG:Below wa.heap.size wa wa.drew:=(Below.refl _ _).drew
    go_region_held3 (λw'=>w'.cell? ⟨wr.heap.size,1,none⟩=some (.bool yv)/\w'.cell? ⟨wr.heap.size,2,none⟩=some (.int .i64 yi)/\w'.cell? ⟨wr.heap.size,3,none⟩=some (.slice ya (Fo.len yk) yc)/\w'.cell? ⟨wr.heap.size,4,none⟩=some (.bool bB)/\w'.cell? ⟨wr.heap.size,5,none⟩=some (.int .i64 bH)/\w'.cell? ⟨wr.heap.size,6,none⟩=some (.slice za (Fo.len aZ) zc))
     (first
       |(with_reducible exact ⟨aA aG _ _ g1,aA aG _ _ g2,aA aG _ _ g3,aA aG _ _ g4,aA aG _ _ g5,aA aG _ _ g6⟩)
       |go_keep)
     (first
       |(go_at_call 127;with_reducible refine (AO (yv,yi) yk (.slice ya (Fo.len yk) yc) (aP (k.take j) []) (.slice z1 n z3) _ _ rfl (HAa.out.below aG) (HVa.out.below aG) (by have:=Hln.out.1;omega)).mono ?_;rintro e wS ⟨vS,rfl,hoS,hbS⟩;replace aG:=aC aG hbS;have HoS:=aB (WC hoS);obtain ⟨y1,y3,rfl⟩:=dR HoS.out;clear hoS)
       |(go_at_call 127;with_reducible refine (AO (bB,bH) aZ (.slice za (Fo.len aZ) zc) (bG (yv,yi) yk (aP (k.take j) [])) _ _ _ rfl (HDa.out.below aG) (HoS.out.below ?_) (by have:=Hln.out.2;omega)).mono ?_;(first|exact Below.refl _ _|exact (Below.refl _ _).drew);rintro e wU ⟨vU,rfl,hoU,xZ⟩;replace aG:=aC aG xZ;have HoU:=aB (WC hoU);obtain ⟨x1,x3,rfl⟩:=dR HoU.out;clear hoU))
    all_goals
     have hB2:=aC hBr (aC bZ aG)
     go_wp2_with fail
     go_roundw
     case rel=>exact ⟨j+1,_,_,_,by omega,by go_num,rfl,by rw [tL Hy.out];exact HoU.out,hB2⟩
     case measure=>simp [intOf];omega
  · have bP:Hid (iK wr (aP k []) (.slice z1 n z3)):=by
     have e:j=k.length:=by omega
     have:=HV.out;rw [e,List.take_length] at this;exact this
    clear eZ
    go_wp2_with fail
    go_ret;exact ⟨_,rfl,bP.out,hBr⟩
theorem EQ (k:Cl) (a:Value) (w:World) (hS:dQ w k a) (hg:GX k):
 Calls Tryz.prog 48 #[a] w λe w'=>∃v,e= .returned (.tuple #[v,.int .i64 (bS k).1])/\dQ w' (bS k).2 v/\Below w.heap.size w w':=by
 have HS:=aB hS;obtain ⟨a1,a3,rfl⟩:=aK hS;clear hS;have Hcs:=aB (qW hg);have hk4:=hg.1;have HG:Hid (∀l∈k,Gd l.2.1/\Gd l.2.2/\aM l.2.1.2<=4000000000000/\aM l.2.2.2<=4000000000000):=λl hl=>⟨(hg.2 l hl).gl,(hg.2 l hl).gr,(hg.2 l hl).sl,(hg.2 l hl).sr⟩;go_enter Tryz.func48,Tryz.ntmps48
 go_wp2_with fail
 refine (aIA k _ _ HS.out HG.out (by omega)).mono ?_;rintro e w1 ⟨v1,er,d,rfl,hC1,hcs,hb1⟩;rcases hcs with ⟨rfl,rfl,ht⟩|⟨rfl,ht⟩
 · have Hn:Hid (bS k=(6,[])):=by
    rcases Hcs.out with ⟨_,h⟩|⟨d,h,_⟩
    · exact h
    · rw [ht] at h;cases h
   obtain ⟨z1,z3,rfl⟩:=aK hC1;clear hC1 ht
   go_wp2_with fail
   go_ret2;exact ⟨.slice none 0 0,by rw [Hn.out];rfl,by rw [Hn.out];exact dQ.nil _,hb1⟩
 · have IM:Hid (GX d/\GX (xY d)/\((dY (xY d)=none/\bS k=(6,[]))\/∃e,dY (xY d)=some e/\GX e/\bS k=vH d e)):=by
    rcases Hcs.out with ⟨h,_⟩|⟨d',h,h2⟩
    · rw [ht] at h;cases h
    · rw [ht] at h;cases h;exact h2
   have HC1:=aB hC1;obtain ⟨z1,z3,rfl⟩:=aK hC1;clear hC1 ht;have hd4:=IM.out.1.1;have hv5:=SF IM.out.1.2
   go_wp2_with fail
   refine (aAP d _ _ HC1.out (by omega)).mono ?_;rintro e w2 ⟨vv,rfl,hN,hb2⟩;have HN:=aB hN;obtain ⟨y1,y3,rfl⟩:=dR hN;have hB2:=aC hb1 hb2;clear hN
   go_wp2_with fail
   refine (aBG d _ (aP d []) _ _ (HC1.out.below hb2) HN.out (λl hl=>⟨(IM.out.1.2 l hl).gl.nar,(IM.out.1.2 l hl).gr.nar⟩) (by omega) (by omega)).mono ?_;rintro e w3 ⟨g,rfl,hC3,hb3⟩;have HC3:Hid (dQ w3 (xY d) (.slice (some ⟨g,0,none⟩) d.length d.length)):=hC3;have hB3:=aC hB2 hb3;clear hC3 hb2 hb3
   go_wp2_with fail
   refine (TE (xY d) _ _ HC3.out (by have:=IM.out.2.1.1;omega)).mono ?_;rintro e w4 ⟨v4,er,f,rfl,hC4,hcs,hb4⟩;have hB4:=aC hB3 hb4;rcases hcs with ⟨rfl,rfl,ht⟩|⟨rfl,ht⟩
   · have Hn:Hid (bS k=(6,[])):=by
      rcases IM.out.2.2 with ⟨_,h⟩|⟨d,h,_⟩
      · exact h
      · rw [ht] at h;cases h
     obtain ⟨x1,x3,rfl⟩:=aK hC4;clear hC4 ht
     go_wp2_with fail
     go_ret2;exact ⟨.slice none 0 0,by rw [Hn.out];rfl,by rw [Hn.out];exact dQ.nil _,hB4⟩
   · have Hn:Hid (GX f/\bS k=vH d f):=by
      rcases IM.out.2.2 with ⟨h,_⟩|⟨d,h,h2⟩
      · rw [ht] at h;cases h
      · rw [ht] at h;cases h;exact h2
     have HC4:=aB hC4;obtain ⟨x1,x3,rfl⟩:=aK hC4;clear hC4 ht hb4;have Hkb:=aB (λh=>aJQ (d:=d) (e:=f) h);have Hko:=aB (λh1 h2 h3=>aMJ (d:=d) (e:=f) h1 h2 h3);generalize hvl:(aP d []).length=vl at*;clear hvl;by_cases c4:4<f.length
     · have c4':(4:Int)<(f.length:Int):=by omega
       have Hk:=aB (Hkb.out (.inl (.inl c4)))
       go_wp2_with fail
       go_ret2;exact ⟨.slice none 0 0,by rw [Hn.out.2,Hk.out];rfl,by rw [Hn.out.2,Hk.out];exact dQ.nil _,hB4⟩
     have c4':¬(4:Int)<(f.length:Int):=by omega
     by_cases c5:5<vl
     · have c5':(5:Int)<(vl:Int):=by omega
       have Hk:=aB (Hkb.out (.inl (.inr c5)))
       go_wp2_with fail
       go_ret2;exact ⟨.slice none 0 0,by rw [Hn.out.2,Hk.out];rfl,by rw [Hn.out.2,Hk.out];exact dQ.nil _,hB4⟩
     have c5':¬(5:Int)<(vl:Int):=by omega
     have aVV:(f.length:Int)<=4:=by omega
     have aVI:(vl:Int)<=5:=by omega
     go_wp2_with fail
     refine (M8 f _ _ HC4.out (λp hp=>⟨(Hn.out.1.2 p hp).okl,(Hn.out.1.2 p hp).sl,(Hn.out.1.2 p hp).sr⟩)).mono ?_;rintro e w5 ⟨rfl,hb5⟩;have NA:=aC hB4 hb5;have HC5:=aB (HC4.out.below hb5);clear hb5;cases hbg:f.any oV
     · have Hk:=aB (Hko.out c4 c5 hbg);clear hbg
       go_wp2_with fail
       go_ret2;exact ⟨.slice x1 f.length x3,by rw [Hn.out.2,Hk.out];rfl,by rw [Hn.out.2,Hk.out];exact HC5.out,NA⟩
     · have Hk:=aB (Hkb.out (.inr hbg));clear hbg
       go_wp2_with fail
       go_ret2;exact ⟨.slice none 0 0,by rw [Hn.out.2,Hk.out];rfl,by rw [Hn.out.2,Hk.out];exact dQ.nil _,NA⟩
theorem aJG (k:Cl) (a:Value) (w:World) (hS:dQ w k a) (hg:GC k):
 Calls Tryz.prog 48 #[a] w λe w'=>∃v,e= .returned (.tuple #[v,.int .i64 (bS k).1])/\dQ w' (bS k).2 v/\Below w.heap.size w w':=EQ k a w hS hg.x
section
theorem Tryz.info44:(Tryz.prog.info? 44).map (λi=>(i.zero,i.size,i.bytes))=some (some (.slice none 0 0),1,24):=by kernel_rfl
def yI (st:List Cl×Bool) (n:Int×Cl):List Cl×Bool:=if n.1=4 then (st.1,true) else if n.1≠0 then st else if st.1.any (λx=>dH x n.2) then st else (st.1++[n.2],st.2)
structure uC (lo:Nat) (w:World) (p:Nat) (cs:List Cl) (lost:Bool) (v:Value) (xs:List Value):Prop where
 c0:w.cell? ⟨p,0,none⟩=some v
 c1:w.cell? ⟨p,1,none⟩=some (.bool lost)
 cn:w.cell? ⟨p,2,none⟩=none
 fz:∀i,w.frozen? ⟨p,i,none⟩=false
 row:w.ownsRow lo 44 1 v cs.length xs
 sl:∀g,v.ownBlock=some g->SlR w g
 el:∀(i:Nat) (c:Cl),cs[i]?=some c->∃cv,xs[i]?=some cv/\dQ w c cv
 po:lo<=p/\p<w.heap.size
 ne:v.ownBlock≠some p
section
variable {lo:Nat} {w w':World} {p:Nat} {cs:List Cl} {lost:Bool} {v:Value} {xs:List Value}
theorem uC.slice (h:uC lo w p cs lost v xs):∃z1 z3,v= .slice z1 cs.length z3:=by
 rcases h.row.2 with ⟨rfl,e⟩|⟨g,bW,cur,rfl,_⟩
 · exact ⟨none,0,by rw [e]⟩
 · exact ⟨_,bW,rfl⟩
theorem uC.below (h:uC lo w p cs lost v xs) (hb:Below w.heap.size w w'):uC lo w' p cs lost v xs where
 c0:=aA hb _ _ h.c0
 c1:=aA hb _ _ h.c1
 cn:=by rw [hb.cell (p:=⟨p,2,none⟩) h.po.2];exact h.cn
 fz:=λi=>(hb.frozen (p:=⟨p,i,none⟩) h.po.2).trans (h.fz i)
 row:=bA h.row (λg hg=>hb.block g (aJ h.row g hg).2)
 sl:=λg hg=>(h.sl g hg).keep (hb.block g (aJ h.row g hg).2)
 el:=λi c hc=>by obtain ⟨cv,h1,h2⟩:=h.el i c hc;exact ⟨cv,h1,h2.below hb⟩
 po:=⟨h.po.1,Nat.lt_of_lt_of_le h.po.2 hb.size⟩
 ne:=h.ne
theorem uC.not (h:uC lo w p cs lost v xs):QG w p:=λo x hx=>by
 obtain ⟨z1,z3,e⟩:=h.slice
 match o,hx with
 |0,hx=>rw [h.c0,e] at hx;cases hx
 |1,_=>exact h.cn
 |o+2,hx=>
  exfalso;have h2:=h.cn;obtain ⟨cur,T,f,hb⟩:∃cur T f,w.heap[p]?=some (.cells cur T f):=by
   have h0:=h.c0;unfold World.cell? at h0
   revert h0
   cases hp:w.heap[p]? with
   |none=>intro h0;simp at h0
   |some ob=>
    cases ob with
    |cells cur T f=>intro _;exact ⟨cur,T,f,rfl⟩
    |_=>intro h0;simp at h0
  have e1:cur[2]?=none:=by simpa [World.cell?,hb] using h2
  have e2:cur[o+2]?=some (.bool x):=by simpa [World.cell?,hb] using hx
  have l1:cur.size<=2:=by simpa using e1
  have l2:o+2<cur.size:=(Array.getElem?_eq_some_iff.1 e2).1;omega
theorem uC.csin (h:uC lo w p cs lost v xs):mD w cs v:=by
 have hcells:=λg hg=>h.row.cells (g:=g) hg;rcases h.row.2 with ⟨e,h0⟩|⟨g,bW,cur,e,_,_,hn,hm,_,_⟩
 · have:cs=[]:=List.length_eq_zero_iff.1 h0;rw [this,e];exact mD.nil w
 · refine ⟨some ⟨g,0,none⟩,bW,g,0,e,λ_=>rfl,hn,hm,λi c hc=>?_⟩;obtain ⟨cv,h1,h2⟩:=h.el i c hc;refine ⟨cv,?_,h2⟩;have:=hcells g (by rw [e];rfl) i cv h1;rw [add_plain] at this;exact this
theorem uC.lose (h:uC lo w p cs lost v xs):uC lo (w.setCell ⟨p,1,none⟩ (.bool true)) p cs true v xs/\Fr w (w.setCell ⟨p,1,none⟩ (.bool true)) (some p) v.ownBlock:=by
 have hf:Fr w (w.setCell ⟨p,1,none⟩ (.bool true)) (some p) v.ownBlock:=⟨rfl,rfl,rfl,by simp [World.setCell],λq hq h1 _=>Below.heap_setCell _ _ _ q (λe=>h1 (congrArg some e))⟩;have hk:wL w (w.setCell ⟨p,1,none⟩ (.bool true)):=nE λq hq hn=>Below.heap_setCell _ _ _ q (λe=>hn (by rw [e];exact h.not));refine ⟨⟨?_,fK h.c1,?_,λi=>by simpa using h.fz i,?_,?_,?_,⟨h.po.1,by simpa [World.setCell] using h.po.2⟩,h.ne⟩,hf⟩
 · rw [aX (by intro e;simp at e)];exact h.c0
 · rw [aX (by intro e;simp at e)];exact h.cn
 · exact bA h.row (λg hg=>Below.heap_setCell _ _ _ g (λe=>h.ne (by rw [hg];exact congrArg some e)))
 · exact λg hg=>(h.sl g hg).keep (Below.heap_setCell _ _ _ g (λe=>h.ne (by rw [hg];exact congrArg some e)))
 · intro i c hc;obtain ⟨cv,h1,h2⟩:=h.el i c hc;exact ⟨cv,h1,hk.cin h2⟩
theorem uC.push (h:uC lo w p cs lost v xs) {c:Cl} {z1:Option Addr} {z3:Nat} (hC:dQ w c (.slice z1 c.length z3)) {v4:Value} {w3 w4:World} (hb:Below w.heap.size w w3)
 (ho:w4.ownsRow lo 44 1 v4 (cs.length+1) (xs++[.slice z1 c.length z3])) (hg:w3.grownBy w4 v.ownBlock) (hat:v4.ownBlock=v.ownBlock\/v4.ownBlock=some w3.heap.size) (hsl:∀g,v4.ownBlock=some g->SlR w4 g):
 uC lo (w4.setCell ⟨p,0,none⟩ v4) p (cs++[c]) lost v4 (xs++[.slice z1 c.length z3])/\Fr w (w4.setCell ⟨p,0,none⟩ v4) (some p) v.ownBlock/\w4.cell? ⟨p,0,none⟩=some v/\w4.frozen? ⟨p,0,none⟩=false:=by
 have h3:=h.below hb;have hs3:=hb.size;have hp3:p<w3.heap.size:=h3.po.2;have hpb:w4.heap[p]?=w3.heap[p]?:=hg.block p hp3 (λe=>h.ne e.symm);have aQS:v4.ownBlock≠some p:=by
  rcases hat with e|e
  · rw [e];exact h.ne
  · rw [e];simp;omega
 have c0:w4.cell? ⟨p,0,none⟩=some v:=by rw [World.cell?_of_block hpb];exact h3.c0
 have c1:w4.cell? ⟨p,1,none⟩=some (.bool lost):=by rw [World.cell?_of_block hpb];exact h3.c1
 have cn:w4.cell? ⟨p,2,none⟩=none:=by rw [World.cell?_of_block hpb];exact h3.cn
 have fz:∀i,w4.frozen? ⟨p,i,none⟩=false:=λi=>by rw [←h3.fz i];simp only [World.frozen?,hpb]
 have hs4:=hg.size;have aTJ:wL w3 w4:=nE λq hq hn=>hg.block q hq (λe=>hn (h3.sl q e.symm).not);have hn4:QG w4 p:=λo x hx=>by rw [World.cell?_of_block hpb] at hx;rw [World.cell?_of_block hpb];exact h3.not o x hx
 have aTI:wL w4 (w4.setCell ⟨p,0,none⟩ v4):=nE λq hq hn=>Below.heap_setCell _ _ _ q (λe=>hn (by rw [e];exact hn4));have hk:=((kT hb).trans aTJ).trans aTI;have aQG:∀g,v4.ownBlock=some g->(w4.setCell ⟨p,0,none⟩ v4).heap[g]?=w4.heap[g]?:=λg hgg=>Below.heap_setCell _ _ _ g (λe=>aQS (by rw [hgg];exact congrArg some e));have hxl:xs.length=cs.length:=by have:=h.row.1;omega
 refine ⟨⟨fK c0,?_,?_,λi=>by simpa using fz i,?_,λg hgg=>(hsl g hgg).keep (aQG g hgg),?_,⟨h.po.1,by simp [World.setCell];omega⟩,aQS⟩,?_,c0,fz 0⟩
 · rw [aX (by intro e;simp at e)];exact c1
 · rw [aX (by intro e;simp at e)];exact cn
 · rw [List.length_append];exact bA ho aQG
 · intro i d hd;by_cases hi:i<cs.length
   · rw [List.getElem?_append_left hi] at hd;obtain ⟨cv,h1,h2⟩:=h.el i d hd;exact ⟨cv,by rw [List.getElem?_append_left (by omega)];exact h1,hk.cin h2⟩
   · have hil:=(List.getElem?_eq_some_iff.1 hd).1;simp only [List.length_append,List.length_cons,List.length_nil] at hil;have hie:i=cs.length:=by omega
     subst hie;rw [List.getElem?_append_right (Nat.le_refl _),Nat.sub_self] at hd;simp only [List.getElem?_cons_zero,Option.some.injEq] at hd;subst hd;refine ⟨.slice z1 c.length z3,?_,hk.cin hC⟩;rw [List.getElem?_append_right (by omega),hxl,Nat.sub_self];rfl
 · refine ⟨hg.os.trans hb.os,hg.tape.trans hb.tape,hg.output.trans hb.output,by simp [World.setCell];omega,λq hq e1 e2=>?_⟩;rw [Below.heap_setCell _ _ _ q (λe=>e1 (congrArg some e)),hg.block q (by omega) e2,hb.block q hq]
end
theorem aGH {st:List Cl×Bool} {n:Int×Cl} (h:n.1=4):yI st n=(st.1,true):=if_pos h
theorem aGG {st:List Cl×Bool} {n:Int×Cl} (h:¬n.1=4) (h0:¬n.1=0):yI st n=st:=by rw [yI,if_neg h,if_pos h0]
theorem aKC {st:List Cl×Bool} {n:Int×Cl} (h0:n.1=0) (h:st.1.any (λx=>dH x n.2)=true):yI st n=st:=by rw [yI,if_neg (by omega),if_neg (by omega),if_pos h]
theorem aKA {st:List Cl×Bool} {n:Int×Cl} (h0:n.1=0) (h:st.1.any (λx=>dH x n.2)=false):yI st n=(st.1++[n.2],st.2):=by rw [yI,if_neg (by omega),if_neg (by omega),if_neg (by simp [h])]
def vT (lo:Nat) (w:World) (p:Nat) (st:List Cl×Bool) (n:Int×Cl) (v:Value) (e:Ending) (w':World):Prop:=
 e= .returned (.tuple #[])/\∃v' xs',uC lo w' p (yI st n).1 (yI st n).2 v' xs'/\Fr w w' (some p) v.ownBlock/\(v'.ownBlock=v.ownBlock\/∃g,v'.ownBlock=some g/\w.heap.size<=g)
end
def aL (yes:Bool) (l:Lt):Lt:=if yes then (l.1,l.2.2,l.2.1) else l
end Go.Proofs.YtoklbpbmghbhnaeGreat
