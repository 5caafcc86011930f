import Derived.Test.YtoklbpbmghbhnaeGreatG06
namespace Go.Proofs.YtoklbpbmghbhnaeGreat
set_option maxRecDepth 100000
set_option maxHeartbeats 1000000
open Go.RowKit Go.Deep Go.ChangeShapes Go.WideShapes
section
attribute [local go_sem ↓] Go.wp_at_zero Go.wp_at_succ
theorem uB (n:Int) (w:World):Calls Tryz.prog 122 #[.int .i64 n] w λe w'=>∃a,e= .returned (.agg #[.bool (vr n).1.1,.int .i64 (vr n).1.2,a])/\dK w' w.heap.size w'.heap.size (vr n).2 a/\Below w.heap.size w w':=by
 go_enter Tryz.func122,Tryz.ntmps122
 go_wp2_with fail
 refine bodyPost_ret (v:= .agg #[.bool true,.int .i64 n,.slice none 0 0]) (by simp [results,Tryz.results122,go_sem]) rfl ⟨_,rfl,.inl ⟨rfl,rfl⟩,?_⟩;exact aD _ _
def lF (g:Nat) (W2:World) (k:Fo) (j:Nat) (wr:World):Prop:=
 Below g W2 wr/\qL wr g (Fo.len k*3)/\xK wr (Fo.take j k) g 0 (g+1) wr.heap.size/\g+1<=wr.heap.size
theorem JY {g:Nat} {W2 wr w2:World} {k:Fo} {j:Nat} {yv:Bool} {yn:Int} {yk:Fo} {ob:Obj} {a:Value} (h:lF g W2 k j wr) (hj:j<Fo.len k) (hy:k.list[j]?=some ((yv,yn),yk))
 (hb:Below (wr.heap.size+1) (wr.alloc ob) w2) (hO:dK w2 (wr.heap.size+1) w2.heap.size yk a):
 lF g W2 k (j+1) (set3 w2 g (j*3) (.bool yv) (.int .i64 yn) a):=by
 obtain ⟨hB,hT,hW,hs⟩:=h;have hsz:wr.heap.size+1<=w2.heap.size:=by have:=hb.size;simpa using this
 have keep:∀q i,q<wr.heap.size->w2.cell? ⟨q,i,none⟩=wr.cell? ⟨q,i,none⟩/\w2.frozen? ⟨q,i,none⟩=wr.frozen? ⟨q,i,none⟩:=λq i hq=>by rw [hb.cell (by show q<_;omega),hb.frozen (by show q<_;omega)];exact ⟨World.cell?_alloc_lt _ _ _ hq,(aD wr ob).frozen (p:=⟨q,i,none⟩) hq⟩
 have F7:qL w2 g (Fo.len k*3):=λi hi=>by obtain ⟨⟨v,hv⟩,hf⟩:=hT i hi;have:=keep g i (by omega);exact ⟨⟨v,this.1.trans hv⟩,this.2.trans hf⟩
 obtain ⟨⟨u0,e0⟩,f0⟩:=F7 (j*3) (by omega);obtain ⟨⟨u1,e1⟩,f1⟩:=F7 (j*3+1) (by omega);obtain ⟨⟨u2,e2⟩,f2⟩:=F7 (j*3+2) (by omega);obtain ⟨g0,g1,g2⟩:=kJ (x:= .bool yv) (y:= .int .i64 yn) (z:=a) e0 e1 e2;refine ⟨aT (hB.trans ((aW (hb.mono (by simp))).mono (by omega))) (Nat.le_refl _),?_,?_,by rw [bQ];omega⟩
 · intro i hi;obtain ⟨⟨v,hv⟩,hf⟩:=F7 i hi;refine ⟨?_,by rw [aQ];exact hf⟩;by_cases hc:i<j*3\/j*3+3<=i
   · exact ⟨v,by rw [aS (.inr hc)];exact hv⟩
   · have:i=j*3\/i=j*3+1\/i=j*3+2:=by omega
     rcases this with rfl|rfl|rfl
     · exact ⟨_,g0⟩
     · exact ⟨_,g1⟩
     · exact ⟨_,g2⟩
 · rw [bQ];have e:j*3=0+3*j:=by omega
   refine xK.snoc (mid:=wr.heap.size) (a:=a) hy (hW.frame ?_ ?_) hs (by omega) (by rw [←e];exact g0) (by rw [←e];exact g1) (by rw [←e];exact g2) (by rw [aQ,←e];exact f0) (by rw [aQ,←e];exact f1) (by rw [aQ,←e];exact f2) ?_
   · intro i _ hi;rw [JF j k (by omega)] at hi;rw [aS (.inr (.inl (by omega))),aQ];exact keep _ _ (by omega)
   · intro q i q1 q2;rw [aS (.inl (by omega)),aQ];exact keep _ _ q2
   · refine (hO.mono (by omega) (Nat.le_refl _)).frame ?_;intro q i q1 q2;rw [aS (.inl (by omega)),aQ];exact ⟨rfl,rfl⟩
theorem EH (W2:World) (k:Fo) (z:Array Value):lF W2.heap.size W2 k 0 (W2.alloc (.cells (madeCells z (Fo.len k*3)) 84)):=by refine ⟨(Below.refl _ _).alloc (Nat.le_refl _) _,λi hi=>⟨?_,nN _ _ _ _⟩,trivial,by simp⟩;rw [World.cell?_alloc_new];exact ⟨_,Array.getElem?_eq_getElem (by rw [size_madeCells];exact hi)⟩
theorem R3 {lo g:Nat} {W2 wr w':World} {k:Fo} (h:lF g W2 k (Fo.len k) wr) (h0:0<Fo.len k) (h1:Fo.len k<=1000) (hlo:lo<=g) (hs:w'.heap.size=wr.heap.size)
 (hc:∀q i,g<=q->w'.cell? ⟨q,i,none⟩=wr.cell? ⟨q,i,none⟩/\w'.frozen? ⟨q,i,none⟩=wr.frozen? ⟨q,i,none⟩):
 dK w' lo w'.heap.size k (.slice (some ⟨g,0,none⟩) (Fo.len k) (Fo.len k)):=by
 obtain ⟨_,_,hW,hsz⟩:=h;rw [pQ] at hW;rw [hs];exact .inr ⟨g,hlo,by omega,h0,h1,rfl,hW.frame (λi _ _=>hc _ _ (by omega)) (λq i q1 q2=>hc _ _ (by omega))⟩
end
section
attribute [local go_sem ↓] Go.wp_at_zero Go.wp_at_succ
def aG5 (_:World):Prop:=True
theorem zB {w w':World} (_:aG5 w) (_:Below w.heap.size w w'):aG5 w':=trivial
theorem aJ1 (n:Int) (w:World) (_:aG5 w):Calls Tryz.prog 122 #[.int .i64 n] w λe w'=>∃a,e= .returned (.agg #[.bool (vr n).1.1,.int .i64 (vr n).1.2,a])/\dK w' w.heap.size w'.heap.size (vr n).2 a/\Below w.heap.size w w':=uB n w
def XV (x:Bool×Int) (k:Fo):Prop:=∀(a:Value) (w:World),aG5 w->cO w k a->Fo.len k<=1000->Fo.narrow k->
 Calls Tryz.prog 118 #[.agg #[.bool x.1,.int .i64 x.2,a],.func (.func 122) #[] #[]] w λe w'=>∃a',e= .returned (.agg #[.bool (aH vr (x,k)).1.1,.int .i64 (aH vr (x,k)).1.2,a'])/\dK w' w.heap.size w'.heap.size (aH vr (x,k)).2 a'/\Below w.heap.size w w'
theorem aIU (x:Bool×Int) (k:Fo):XV x k:=by
 refine Fo.ind1 (p:=XV) ?_ x k;clear x k;intro x k ih a w hInv hS hlen hnar;obtain ⟨v,n⟩:=x;obtain ⟨ad,c,b,o,rfl,had,hlc,hcm,hF⟩:=hS;have Hl:=aB (Fo.len_list k);have HI:=aB ih;have HF:=aB hF;have sU:=aB hnar;have UQ:=aB hInv;clear ih hF hnar hInv;unfold maxLen at hcm;cases v
 · have iX:Hid (aH vr ((false,n),k)=((false,n),dD vr k)):=rfl;by_cases h0:Fo.len k=0
   · have h0':¬(0:Int)<(Fo.len k:Int):=by omega
     have Hk:=aB (pU h0);clear h0;go_enter Tryz.func118,Tryz.ntmps118
     go_wp2_with fail
     go_loopw [29] (λi wr=>i= .int .i64 0/\wr=((w.alloc (.cells #[.bool false,.int .i64 n,.slice ad (Fo.len k) c] 84)).alloc (.cells #[.bool false,.int .i64 0,.slice none 0 0] 84)).alloc (.cells #[.bool false,.int .i64 n,.slice none 0 0] 84)) (λ_ _=>0)
     case atStart=>exact ⟨rfl,rfl⟩
     case round=>
      obtain ⟨rfl,rfl⟩:=hrel
      go_wp2_with fail
      refine bodyPost_ret (v:= .agg #[.bool false,.int .i64 n,.slice none 0 0]) (by simp [results,Tryz.results118,go_sem]) rfl ⟨.slice none 0 0,?_,?_,?_⟩
      · rw [iX.out]
      · rw [iX.out];exact .inl ⟨by rw [Hk.out];rfl,rfl⟩
      · exact ((aD _ _).alloc (by simp) _).alloc (by simp;omega) _
   · have h0':(0:Int)<(Fo.len k:Int):=by omega
     have ha:ad=some ⟨b,o,none⟩:=had (by omega);subst ha;have aG7:Hid (0<Fo.len k):=by unfold Hid;omega
     have hdec:decide (0<Fo.len k)=true:=by simp;omega
     clear h0 had;obtain ⟨i26,hi,hz0,hz1,hz2⟩:=info_parts Tryz.info84;have hmk:=λw:World=>run_make (P:=Tryz.prog) w 82 84 i26 _ Tryz.underlying82 hi hz0 .i64 .i64 (Fo.len k:Int) (Fo.len k:Int) (by omega) (by omega) (by rw [hz2];omega) (by omega);rw [hz1] at hmk;simp only [Int.toNat_natCast] at hmk;have wM:=aB (lI vr k);go_enter Tryz.func118,Tryz.ntmps118
     go_wp2_with fail
     clear hmk hi hz0 hz1 hz2;generalize hW2:((w.alloc (.cells #[.bool false,.int .i64 n,.slice (some ⟨b,o,none⟩) (Fo.len k) c] 84)).alloc (.cells #[.bool false,.int .i64 0,.slice none 0 0] 84)).alloc (.cells #[.bool false,.int .i64 n,.slice (some ⟨w.heap.size+1+1+1,0,none⟩) (Fo.len k) (Fo.len k)] 84)=W2;have hs2:W2.heap.size=w.heap.size+1+1+1:=by rw [←hW2];simp
     have HB2:Hid (Below w.heap.size w W2):=by rw [←hW2];exact ((aD _ _).alloc (by simp) _).alloc (by simp;omega) _
     have r0:W2.cell? ⟨w.heap.size+1,0,none⟩=some (.bool false):=by rw [←hW2,World.cell?_alloc_lt _ _ _ (by show w.heap.size+1<_;rw [gK];omega)];exact aF (World.size_alloc _ _)
     have r1:W2.cell? ⟨w.heap.size+1,1,none⟩=some (.int .i64 0):=by rw [←hW2,World.cell?_alloc_lt _ _ _ (by show w.heap.size+1<_;rw [gK];omega)];exact aF (World.size_alloc _ _)
     have r2:W2.cell? ⟨w.heap.size+1,2,none⟩=some (.slice none 0 0):=by rw [←hW2,World.cell?_alloc_lt _ _ _ (by show w.heap.size+1<_;rw [gK];omega)];exact aF (World.size_alloc _ _)
     have rf:∀i,W2.frozen? ⟨w.heap.size+1,i,none⟩=false:=λi=>by rw [←hW2,(aD _ _).frozen (by show w.heap.size+1<_;rw [gK];omega)];exact bL (World.size_alloc _ _)
     have q0:W2.cell? ⟨w.heap.size+1+1,0,none⟩=some (.bool false):=by rw [←hW2];exact aF (gK _ _ _)
     have q1:W2.cell? ⟨w.heap.size+1+1,1,none⟩=some (.int .i64 n):=by rw [←hW2];exact aF (gK _ _ _)
     have q2:W2.cell? ⟨w.heap.size+1+1,2,none⟩=some (.slice (some ⟨w.heap.size+1+1+1,0,none⟩) (Fo.len k) (Fo.len k)):=by rw [←hW2];exact aF (gK _ _ _)
     have HQ:=aB (And.intro q0 (And.intro q1 (And.intro q2 (And.intro r0 (And.intro r1 (And.intro r2 rf))))));have H0:Hid (lF (w.heap.size+1+1+1) W2 (dD vr k) 0 (W2.alloc (.cells (madeCells #[.bool false,.int .i64 0,.slice none 0 0] (Fo.len k*3)) 84))):=by have:=EH W2 (dD vr k) #[.bool false,.int .i64 0,.slice none 0 0];rw [wM.out,hs2] at this;exact this
     have sO:=aB hs2;clear q0 q1 q2 r0 r1 r2 rf hs2 hW2
     go_loopw [29] (λi wr=>∃j:Nat,j<=Fo.len k/\i= .int .i64 j/\lF (w.heap.size+1+1+1) W2 (dD vr k) j wr) (λi _=>Fo.len k - (intOf i).toNat)
     case atStart=>exact ⟨0,Nat.zero_le _,rfl,H0.out⟩
     case round=>
      obtain ⟨j,hj,rfl,hR⟩:=hrel;have HR:=aB hR;obtain ⟨hB,hT,-,hsz⟩:=hR;have HB:=aB hB;have hs2:=sO.out;have hBw:Below w.heap.size w wr:=HB2.out.trans (hB.mono (by omega));obtain ⟨q0,q1,q2,r0,r1,r2,rf⟩:=HQ.out;by_cases hlt:j<Fo.len k
      · have hlt':(j:Int)<(Fo.len k:Int):=by omega
        obtain ⟨⟨⟨yv,yn⟩,yk⟩,hy⟩:∃y,k.list[j]?=some y:=⟨k.list[j]'(by rw [Hl.out];exact hlt),by simp⟩;obtain ⟨c0,c1,bB,c2,kW⟩:=(HF.out.below hBw).at hy;have HS:=aB kW;obtain ⟨ya,yc,yb,yo,rfl,-,-,-,-⟩:=kW;have NH:=aB (pF sU.out hy);have Hy:=aB hy;have Hy2:Hid ((dD vr k).list[j]?=some (aH vr ((yv,yn),yk))):=by rw [Hid,gQ,List.getElem?_map,hy];rfl
        have hT':qL wr (w.heap.size+1+1+1) (Fo.len k*3):=by rw [←wM.out];exact hT
        obtain ⟨⟨t0,e0⟩,f0⟩:=hT' (j*3) (by omega);obtain ⟨⟨t1,e1⟩,f1⟩:=hT' (j*3+1) (by omega);obtain ⟨⟨t2,e2⟩,f2⟩:=hT' (j*3+2) (by omega);have p2:wr.cell? ⟨w.heap.size+1+1,2,none⟩=some (.slice (some ⟨w.heap.size+1+1+1,0,none⟩) (Fo.len k) (Fo.len k)):=(HB.out.cell (by show w.heap.size+1+1<_;omega)).trans q2;clear hy hT hT' hB q0 q1 q2 r0 r1 r2 rf
        go_upto_region 9 with fail
        generalize fA:wr.alloc (.cells #[.bool yv,.int .i64 yn,.slice ya (Fo.len yk) yc] 84)=wa;have a0:wa.cell? ⟨wr.heap.size,0,none⟩=some (.bool yv):=by rw [←fA];simp
        have a1:wa.cell? ⟨wr.heap.size,1,none⟩=some (.int .i64 yn):=by rw [←fA];simp
        have a2:wa.cell? ⟨wr.heap.size,2,none⟩=some (.slice ya (Fo.len yk) yc):=by rw [←fA];simp
        have bZ:Below wr.heap.size wr wa:=by rw [←fA];exact aD _ _
        have hsa:wa.heap.size=wr.heap.size+1:=by rw [←fA];simp
        have Hwa:Hid (wr.alloc (.cells #[.bool yv,.int .i64 yn,.slice ya (Fo.len yk) yc] 84)=wa):=fA;have p2':=aA bZ _ _ p2;have e0':=aA bZ _ _ e0;have e1':=aA bZ _ _ e1;have e2':=aA bZ _ _ e2;have hlt3:w.heap.size+1+1+1<wr.heap.size:=by omega
        have g0':wa.frozen? ⟨w.heap.size+1+1+1,j*3,none⟩=false:=(bZ.frozen hlt3).trans f0;have g1':wa.frozen? ⟨w.heap.size+1+1+1,j*3+1,none⟩=false:=(bZ.frozen hlt3).trans f1;have g2':wa.frozen? ⟨w.heap.size+1+1+1,j*3+2,none⟩=false:=(bZ.frozen hlt3).trans f2;have HIa:Hid (aG5 wa.drew):=zB (zB UQ.out (aC hBw bZ)) (Below.refl _ _).drew;have HSa:Hid (cO wa.drew yk (.slice ya (Fo.len yk) yc)):=(HS.out.below bZ).drew;obtain ⟨⟨⟨zv,zn⟩,zk⟩,hz⟩:∃z,z=aH vr ((yv,yn),yk):=⟨_,rfl⟩;have Hz:=aB hz;have oH:w.heap.size+1+1+1<wa.heap.size:=by omega
        have hcall:Calls Tryz.prog 118 #[.agg #[.bool yv,.int .i64 yn,.slice ya (Fo.len yk) yc],.func (.func 122) #[] #[]] wa.drew λe w'=>∃(a1:Option Addr) (a2 a3:Nat),e= .returned (.agg #[.bool zv,.int .i64 zn,.slice a1 a2 a3])/\dK w' wa.heap.size w'.heap.size zk (.slice a1 a2 a3)/\Below wa.heap.size wa w':=by have h:=HI.out ((yv,yn),yk) (List.mem_of_getElem? Hy.out) _ wa.drew HIa.out HSa.out NH.out.1 NH.out.2;refine h.mono ?_;rintro e w2 ⟨a',rfl,hO,hb⟩;rw [←Hz.out] at hO;obtain ⟨z1,z2,z3,rfl⟩:=bC hO.toS;exact ⟨z1,z2,z3,by rw [←Hz.out],hO,((Below.refl _ _).drew).trans hb⟩
        have mF:=aB hcall;clear fA hz hcall e0 e1 e2 f0 f1 f2 p2 c0 c1 c2 hBw bZ
        go_region_with (first
         |(go_at_call 118;refine mF.out.mono ?_;rintro e w2 ⟨z1,z2,z3,rfl,hO2,hb2⟩;have aGK:=aA hb2 _ _ p2';have aO3:=aA hb2 _ _ e0';have aO2:=aA hb2 _ _ e1';have aO1:=aA hb2 _ _ e2';have aRG:=(hb2.frozen oH).trans g0';have g1'':=(hb2.frozen oH).trans g1';have aRF:=(hb2.frozen oH).trans g2'))
        all_goals
         have fQ:Hid (lF (w.heap.size+1+1+1) W2 (dD vr k) (j+1) (set3 w2 (w.heap.size+1+1+1) (j*3) (.bool zv) (.int .i64 zn) (.slice z1 z2 z3))):=JY (ob:= .cells #[.bool yv,.int .i64 yn,.slice ya (Fo.len yk) yc] 84) HR.out (by rw [wM.out];exact hlt) (by rw [Hy2.out,←Hz.out]) (by rw [Hwa.out,←hsa];exact hb2) (by rw [←hsa];exact hO2);clear hO2 hb2 aGK p2' e0' e1' e2' g0' g1' g2'
         go_wp2_with fail
         go_roundw
         case rel=>exact ⟨j+1,by omega,by go_num,fQ.out⟩
         case measure=>simp [intOf];omega
      · have lK:j=Fo.len k:=by omega
        subst lK;have p0:wr.cell? ⟨w.heap.size+1+1,0,none⟩=some (.bool false):=(HB.out.cell (by show w.heap.size+1+1<_;omega)).trans q0;have p1:wr.cell? ⟨w.heap.size+1+1,1,none⟩=some (.int .i64 n):=(HB.out.cell (by show w.heap.size+1+1<_;omega)).trans q1;have p2:wr.cell? ⟨w.heap.size+1+1,2,none⟩=some (.slice (some ⟨w.heap.size+1+1+1,0,none⟩) (Fo.len k) (Fo.len k)):=(HB.out.cell (by show w.heap.size+1+1<_;omega)).trans q2;have s0:wr.cell? ⟨w.heap.size+1,0,none⟩=some (.bool false):=(HB.out.cell (by show w.heap.size+1<_;omega)).trans r0;have s1:wr.cell? ⟨w.heap.size+1,1,none⟩=some (.int .i64 0):=(HB.out.cell (by show w.heap.size+1<_;omega)).trans r1;have s2:wr.cell? ⟨w.heap.size+1,2,none⟩=some (.slice none 0 0):=(HB.out.cell (by show w.heap.size+1<_;omega)).trans r2;have sf:∀i,wr.frozen? ⟨w.heap.size+1,i,none⟩=false:=λi=>(HB.out.frozen (by show w.heap.size+1<_;omega)).trans (rf i);clear q0 q1 q2 r0 r1 r2 rf hT hB
        go_wp2_with fail
        refine bodyPost_ret (v:= .agg #[.bool false,.int .i64 n,.slice (some ⟨w.heap.size+1+1+1,0,none⟩) (Fo.len k) (Fo.len k)]) (by simp [results,Tryz.results118,go_sem,s0,s1,s2]) rfl ⟨.slice (some ⟨w.heap.size+1+1+1,0,none⟩) (Fo.len k) (Fo.len k),?_,?_,aT (o:=0) hBw (by omega)⟩
        · rw [iX.out]
        · rw [iX.out];have hRe:lF (w.heap.size+1+1+1) W2 (dD vr k) (Fo.len (dD vr k)) wr:=by rw [wM.out];exact HR.out
          have:=R3 (lo:=w.heap.size) (w':=set3 wr (w.heap.size+1) 0 (.bool false) (.int .i64 n) (.slice (some ⟨w.heap.size+1+1+1,0,none⟩) (Fo.len k) (Fo.len k))) hRe (by rw [wM.out];exact aG7.out) (by rw [wM.out];exact hlen) (by omega) bQ (λq i hq=>⟨aS (.inl (by omega)),aQ⟩);rw [wM.out] at this;exact this
 · have iX:Hid (aH vr ((true,n),k)=vr n):=rfl;obtain ⟨⟨⟨zv,zn⟩,zk⟩,hz⟩:∃z,z=vr n:=⟨_,rfl⟩;have Hz:=aB hz;clear hz;go_enter Tryz.func118,Tryz.ntmps118
   go_wp2_with fail
   generalize hW2:(w.alloc (.cells #[.bool true,.int .i64 n,.slice ad (Fo.len k) c] 84)).alloc (.cells #[.bool false,.int .i64 0,.slice none 0 0] 84)=W2;have hs2:W2.heap.size=w.heap.size+1+1:=by rw [←hW2];simp
   have hB2:Below w.heap.size w W2:=by rw [←hW2];exact (aD _ _).alloc (by simp) _
   have r0:W2.cell? ⟨w.heap.size+1,0,none⟩=some (.bool false):=by rw [←hW2];exact aF (World.size_alloc _ _)
   have r1:W2.cell? ⟨w.heap.size+1,1,none⟩=some (.int .i64 0):=by rw [←hW2];exact aF (World.size_alloc _ _)
   have r2:W2.cell? ⟨w.heap.size+1,2,none⟩=some (.slice none 0 0):=by rw [←hW2];exact aF (World.size_alloc _ _)
   have rf:∀i,W2.frozen? ⟨w.heap.size+1,i,none⟩=false:=λi=>by rw [←hW2];exact bL (World.size_alloc _ _)
   clear hW2;refine (aJ1 n W2 (zB UQ.out hB2)).mono ?_;rintro e w2 ⟨a',rfl,hO,hb⟩;rw [←Hz.out] at hO ⊢;obtain ⟨z1,z2,z3,rfl⟩:=bC hO.toS;have s0:=aA hb _ _ r0;have s1:=aA hb _ _ r1;have s2:=aA hb _ _ r2;have sf:∀i,w2.frozen? ⟨w.heap.size+1,i,none⟩=false:=λi=>(hb.frozen (by show w.heap.size+1<_;omega)).trans (rf i);have HO:=aB hO;have hB3:=aC hB2 hb;clear hO r0 r1 r2 rf hb
   go_wp2_with fail
   refine bodyPost_ret (v:= .agg #[.bool zv,.int .i64 zn,.slice z1 z2 z3]) (by simp [results,Tryz.results118,go_sem,s0,s1,s2]) rfl ⟨.slice z1 z2 z3,?_,?_,aT (o:=0) hB3 (by omega)⟩
   · rw [iX.out,←Hz.out]
   · rw [iX.out,←Hz.out];have h2:dK (set3 w2 (w.heap.size+1) 0 (.bool zv) (.int .i64 zn) (.slice z1 z2 z3)) W2.heap.size w2.heap.size zk (.slice z1 z2 z3):=HO.out.frame (λq i q1 q2=>⟨aS (.inl (by omega)),aQ⟩);have h3:=h2.mono (lo':=w.heap.size) (hi':=(set3 w2 (w.heap.size+1) 0 (.bool zv) (.int .i64 zn) (.slice z1 z2 z3)).heap.size) (by omega) (by rw [bQ];exact Nat.le_refl _);exact h3
theorem J4 (x:Bool×Int) (k:Fo) (a:Value) (w:World) (hS:cO w k a) (hlen:Fo.len k<=1000) (hnar:Fo.narrow k):
 Calls Tryz.prog 121 #[.agg #[.bool x.1,.int .i64 x.2,a]] w λe w'=>∃a',e= .returned (.agg #[.bool (aH vr (x,k)).1.1,.int .i64 (aH vr (x,k)).1.2,a'])/\dK w' w.heap.size w'.heap.size (aH vr (x,k)).2 a'/\Below w.heap.size w w':=by
 obtain ⟨v,n⟩:=x;have HS:=aB hS;obtain ⟨ad,c,b,o,rfl,-,-,-,-⟩:=hS;obtain ⟨⟨⟨zv,zn⟩,zk⟩,hz⟩:∃z,z=aH vr ((v,n),k):=⟨_,rfl⟩;have Hz:=aB hz;clear hz;go_enter Tryz.func121,Tryz.ntmps121
 go_wp2_with fail
 generalize hW2:(w.alloc (.cells #[.bool v,.int .i64 n,.slice ad (Fo.len k) c] 84)).alloc (.cells #[.bool false,.int .i64 0,.slice none 0 0] 84)=W2;have hs2:W2.heap.size=w.heap.size+1+1:=by rw [←hW2];simp
 have hB2:Below w.heap.size w W2:=by rw [←hW2];exact (aD _ _).alloc (by simp) _
 have r0:W2.cell? ⟨w.heap.size+1,0,none⟩=some (.bool false):=by rw [←hW2];exact aF (World.size_alloc _ _)
 have r1:W2.cell? ⟨w.heap.size+1,1,none⟩=some (.int .i64 0):=by rw [←hW2];exact aF (World.size_alloc _ _)
 have r2:W2.cell? ⟨w.heap.size+1,2,none⟩=some (.slice none 0 0):=by rw [←hW2];exact aF (World.size_alloc _ _)
 have rf:∀i,W2.frozen? ⟨w.heap.size+1,i,none⟩=false:=λi=>by rw [←hW2];exact bL (World.size_alloc _ _)
 clear hW2;refine (aIU (v,n) k _ W2 trivial (HS.out.below hB2) hlen hnar).mono ?_;rintro e w2 ⟨a',rfl,hO,hb⟩;rw [←Hz.out] at hO ⊢;obtain ⟨z1,z2,z3,rfl⟩:=bC hO.toS;have s0:=aA hb _ _ r0;have s1:=aA hb _ _ r1;have s2:=aA hb _ _ r2;have sf:∀i,w2.frozen? ⟨w.heap.size+1,i,none⟩=false:=λi=>(hb.frozen (by show w.heap.size+1<_;omega)).trans (rf i);have HO:=aB hO;have hB3:=aC hB2 hb;clear hO r0 r1 r2 rf hb
 go_wp2_with fail
 refine bodyPost_ret (v:= .agg #[.bool zv,.int .i64 zn,.slice z1 z2 z3]) (by simp [results,Tryz.results121,go_sem,s0,s1,s2]) rfl ⟨.slice z1 z2 z3,by rw [←Hz.out],?_,aT (o:=0) hB3 (by omega)⟩;rw [←Hz.out];have h2:dK (set3 w2 (w.heap.size+1) 0 (.bool zv) (.int .i64 zn) (.slice z1 z2 z3)) W2.heap.size w2.heap.size zk (.slice z1 z2 z3):=HO.out.frame (λq i q1 q2=>⟨aS (.inl (by omega)),aQ⟩);have h3:=h2.mono (lo':=w.heap.size) (hi':=(set3 w2 (w.heap.size+1) 0 (.bool zv) (.int .i64 zn) (.slice z1 z2 z3)).heap.size) (by omega) (by rw [bQ];exact Nat.le_refl _);exact h3
end
section
attribute [local go_sem ↓] Go.wp_at_zero Go.wp_at_succ
def PIn (w:World):Sb->Nat->Nat->Prop
 |[],_,_=>True
 |p::s,b,o=>w.cell? ⟨b,o,none⟩=some (.int .i64 p.1)/\w.cell? ⟨b,o+1,none⟩=some (.bool p.2.1.1)/\w.cell? ⟨b,o+2,none⟩=some (.int .i64 p.2.1.2)/\
  (∃v,w.cell? ⟨b,o+3,none⟩=some v/\cO w p.2.2 v)/\PIn w s b (o+4)
def dZ (w:World) (s:Sb) (v:Value):Prop:=
 ∃(a:Option Addr) (c b o:Nat),v= .slice a s.length c/\(0<s.length->a=some ⟨b,o,none⟩)/\s.length<=c/\c<=maxLen/\PIn w s b o
theorem PIn.later {w w':World} (hc:∀a v,w.cell? a=some v->w'.cell? a=some v):∀{s:Sb} {b o:Nat},PIn w s b o->PIn w' s b o
 |[],_,_,_=>trivial
 |_::_,_,_,⟨h0,h1,h2,⟨v,h3,h4⟩,h5⟩=>⟨hc _ _ h0,hc _ _ h1,hc _ _ h2,⟨v,hc _ _ h3,h4.later hc⟩,PIn.later hc h5⟩
theorem PIn.below {w w':World} (hb:Below w.heap.size w w') {s:Sb} {b o:Nat} (h:PIn w s b o):PIn w' s b o:=h.later (aA hb)
theorem dZ.later {w w':World} (hc:∀a v,w.cell? a=some v->w'.cell? a=some v) {s:Sb} {v:Value} (h:dZ w s v):dZ w' s v:=by obtain ⟨a,c,b,o,h1,h2,h3,h4,h5⟩:=h;exact ⟨a,c,b,o,h1,h2,h3,h4,h5.later hc⟩
theorem dZ.below {w w':World} (hb:Below w.heap.size w w') {s:Sb} {v:Value} (h:dZ w s v):dZ w' s v:=h.later (aA hb)
theorem dZ.alloc {w:World} {s:Sb} {v:Value} (h:dZ w s v) (ob:Obj):dZ (w.alloc ob) s v:=h.below (aD w ob)
theorem dZ.nil (w:World):dZ w [] (.slice none 0 0):=⟨none,0,0,0,rfl,λh=>by simp at h,Nat.le_refl _,Nat.zero_le _,trivial⟩
theorem gG {w:World} {s:Sb} {v:Value} (h:dZ w s v):∃z1 z3,v= .slice z1 s.length z3:=by obtain ⟨a,c,_,_,rfl,_⟩:=h;exact ⟨a,c,rfl⟩
theorem PIn.at {w:World}:∀{s:Sb} {b o i:Nat} {p:Int×Tm},PIn w s b o->s[i]?=some p->
 w.cell? ⟨b,o+i*4,none⟩=some (.int .i64 p.1)/\w.cell? ⟨b,o+i*4+1,none⟩=some (.bool p.2.1.1)/\w.cell? ⟨b,o+i*4+2,none⟩=some (.int .i64 p.2.1.2)/\∃v,w.cell? ⟨b,o+i*4+3,none⟩=some v/\cO w p.2.2 v
 |[],_,_,_,_,_,h=>by simp at h
 |q::s,b,o,0,p,hP,h=>by simp only [List.getElem?_cons_zero,Option.some.injEq] at h;subst h;obtain ⟨h0,h1,h2,h3,_⟩:=hP;simpa using ⟨h0,h1,h2,h3⟩
 |q::s,b,o,i+1,p,hP,h=>by
  have:=PIn.at hP.2.2.2.2 (i:=i) (by simpa using h);have e:o+4+i*4=o+(i+1)*4:=by omega
  rwa [e] at this
theorem K7 {n:Int} {t:Tm}:∀{s:Sb} {j:Nat},(∀q p,q<j->s[q]?=some p->p.1≠n)->s[j]?=some (n,t)->dA s n=some t
 |[],_,_,h=>by simp at h
 |p::s,0,_,h=>by simp only [List.getElem?_cons_zero,Option.some.injEq] at h;subst h;simp [dA]
 |p::s,j+1,hq,h=>by have h0:=hq 0 p (by omega) (by simp);rw [dA,if_neg h0];exact K7 (j:=j) (λq r hqr hr=>hq (q+1) r (by omega) (by simpa using hr)) (by simpa using h)
theorem aJL {n:Int} {s:Sb} (h:∀q p,q<s.length->s[q]?=some p->p.1≠n):dA s n=none:=by refine aFF λp hp=>?_;obtain ⟨i,hi,e⟩:=List.mem_iff_getElem.1 hp;exact h i p hi (by rw [List.getElem?_eq_getElem hi,e])
def aCA (s:Sb) (n i:Int):Prop:=(i= -1/\dA s n=none)\/∃(j:Nat) (t:Tm),i=j/\s[j]?=some (n,t)/\dA s n=some t
theorem aFU (n m:Int) (v:Bool) (k:Int) (a:Option Addr) (l c:Nat) (nb:Nat) (w:World) (hn:w.cell? ⟨nb,0,none⟩=some (.int .i64 n)):
 Calls Tryz.prog 153 #[.agg #[.int .i64 m,.bool v,.int .i64 k,.slice a l c],.pointer (some ⟨nb,0,none⟩)] w λe w'=>e= .returned (.bool (m==n))/\Below w.heap.size w w':=by
 have hnb:nb<w.heap.size:=World.block_lt_of_cell? _ _ hn;have hn':(w.alloc (.cells #[.int .i64 m,.bool v,.int .i64 k,.slice a l c] 92)).cell? ⟨nb,0,none⟩=some (.int .i64 n):=by rw [World.cell?_alloc_lt _ _ _ hnb];exact hn
 go_enter Tryz.func153,Tryz.ntmps153
 go_wp2_with fail
 go_ret;exact ⟨rfl,aD _ _⟩
theorem M5 (s:Sb) (n:Int) (vs:Value) (nb:Nat) (w:World) (hS:dZ w s vs) (hn:w.cell? ⟨nb,0,none⟩=some (.int .i64 n)):
 Calls Tryz.prog 152 #[vs,.func (.func 153) #[] #[.pointer (some ⟨nb,0,none⟩)]] w λe w'=>∃i,e= .returned (.int .i64 i)/\aCA s n i/\Below w.heap.size w w':=by
 obtain ⟨ad,c,b,o,rfl,had,hlc,hcm,hP⟩:=hS;unfold maxLen at hcm;have HP:=aB hP;have Hn:=aB hn;clear hP hn;go_enter Tryz.func152,Tryz.ntmps152
 go_wp2_with fail
 go_loopw [8] (λi wr=>∃j:Nat,j<=s.length/\i= .int .i64 j/\(∀q p,q<j->s[q]?=some p->p.1≠n)/\Below w.heap.size w wr) (λi _=>s.length - (intOf i).toNat)
 case atStart=>exact ⟨0,Nat.zero_le _,rfl,λq _ hq=>by omega,Below.refl _ _⟩
 case round=>
  obtain ⟨j,hj,rfl,hno,hBr⟩:=hrel;have Hno:=aB hno;clear hno;by_cases hlt:j<s.length
  · have hlt':(j:Int)<(s.length:Int):=by omega
    obtain ⟨⟨m,⟨yv,yn⟩,yk⟩,hy⟩:∃y,s[j]?=some y:=⟨s[j],by simp [hlt]⟩;obtain ⟨c0,c1,c2,bB,c3,kW⟩:=(HP.out.below hBr).at hy;obtain ⟨ya,yc,yb,yo,rfl,-,-,-,-⟩:=kW;have ha:ad=some ⟨b,o,none⟩:=had (by omega);subst ha;have Hy:=aB hy;clear hy had
    go_wp2_with fail
    refine (aFU n m yv yn ya (Fo.len yk) yc nb wr (aA hBr _ _ Hn.out)).mono ?_;rintro e w2 ⟨rfl,hb2⟩;have hB2:=aC hBr hb2;simp only;by_cases hmn:m=n
    · have hmb:(m==n)=true:=by simp [hmn]
      have Hf:Hid (aCA s n (j:Int)):= .inr ⟨j,_,rfl,by rw [Hy.out,hmn],K7 Hno.out (by rw [Hy.out,hmn])⟩;rw [hmb];clear hmn hb2
      go_wp2_with fail
      go_ret;exact ⟨_,rfl,Hf.out,hB2⟩
    · have hmb:(m==n)=false:=by simp [hmn]
      have aUR:Hid (∀q p,q<j+1->s[q]?=some p->p.1≠n):=λq p hq hp=>by
       by_cases e:q=j
       · subst e;rw [Hy.out] at hp;cases hp;exact hmn
       · exact Hno.out q p (by omega) hp
      rw [hmb];clear hmn hb2
      go_wp2_with fail
      go_roundw
      case rel=>exact ⟨j+1,by omega,by go_num,aUR.out,hB2⟩
      case measure=>simp [intOf];omega
  · have Hf:Hid (aCA s n (-1)):= .inl ⟨rfl,aJL (λq p hq hp=>Hno.out q p (by omega) hp)⟩;clear had
    go_wp2_with fail
    go_ret;exact ⟨_,rfl,Hf.out,hBr⟩
theorem EW (s:Sb) (n:Int) (vs:Value) (w:World) (hS:dZ w s vs):
 Calls Tryz.prog 120 #[vs,.int .i64 n] w λe w'=>∃i,e= .returned (.int .i64 i)/\aCA s n i/\Below w.heap.size w w':=by
 have HS:=aB hS;obtain ⟨ad,c,b,o,rfl,-,-,-,-⟩:=hS;go_enter Tryz.func120,Tryz.ntmps120
 go_wp2_with fail
 refine (M5 s n _ w.heap.size _ (HS.out.alloc _) (by simp)).mono ?_;rintro e w2 ⟨i,rfl,hf,hb⟩;have Hf:=aB hf;have hB:=aW hb;clear hf hb
 go_wp2_with fail
 go_ret;exact ⟨_,rfl,Hf.out,hB⟩
end
section
attribute [local go_sem ↓] Go.wp_at_zero Go.wp_at_succ
def UO (s:Sb) (vs:Value) (sb:Nat) (w:World):Prop:=w.cell? ⟨sb,0,none⟩=some vs/\dZ w s vs/\∀p∈s,jD p.2/\gN p.2
theorem qB (s:Sb) (vs:Value) (sb:Nat) {w w':World} (h:UO s vs sb w) (hb:Below w.heap.size w w'):UO s vs sb w':=⟨aA hb _ _ h.1,h.2.1.below hb,h.2.2⟩
theorem aJ3 (s:Sb) (vs:Value) (sb:Nat) (n:Int) (w:World) (h:UO s vs sb w):Calls Tryz.prog 119 #[.int .i64 n,.pointer (some ⟨sb,0,none⟩)] w λe w'=>∃a,e= .returned (.agg #[.bool (aV s n).1.1,.int .i64 (aV s n).1.2,a])/\dK w' w.heap.size w'.heap.size (aV s n).2 a/\Below w.heap.size w w':=by
 obtain ⟨hc,hS,hnar⟩:=h;have HS:=aB hS;have sU:=aB hnar;obtain ⟨ad,c,b,o,rfl,had,hlc,hcm,hP⟩:=hS;unfold maxLen at hcm;have HP:=aB hP;have hsb:sb<w.heap.size:=World.block_lt_of_cell? _ _ hc;have hc':(w.alloc (.cells #[.bool false,.int .i64 0,.slice none 0 0] 84)).cell? ⟨sb,0,none⟩=some (.slice ad s.length c):=by rw [World.cell?_alloc_lt _ _ _ hsb];exact hc
 clear hnar hP hc;go_enter Tryz.func119,Tryz.ntmps119
 go_wp2_with fail
 generalize hW2:w.alloc (.cells #[.bool false,.int .i64 0,.slice none 0 0] 84)=W2 at*;have hs2:W2.heap.size=w.heap.size+1:=by rw [←hW2];simp
 have hB2:Below w.heap.size w W2:=by rw [←hW2];exact aD _ _
 have r0:W2.cell? ⟨w.heap.size,0,none⟩=some (.bool false):=by rw [←hW2];exact aF rfl
 have r1:W2.cell? ⟨w.heap.size,1,none⟩=some (.int .i64 0):=by rw [←hW2];exact aF rfl
 have r2:W2.cell? ⟨w.heap.size,2,none⟩=some (.slice none 0 0):=by rw [←hW2];exact aF rfl
 have rf:∀i,W2.frozen? ⟨w.heap.size,i,none⟩=false:=λi=>by rw [←hW2];exact bL rfl
 clear hW2;refine (EW s n _ W2 (HS.out.below hB2)).mono ?_;rintro e w2 ⟨i,rfl,hf,hb⟩;have s0:=aA hb _ _ r0;have s1:=aA hb _ _ r1;have s2:=aA hb _ _ r2;have sf:∀i,w2.frozen? ⟨w.heap.size,i,none⟩=false:=λi=>(hb.frozen (by show w.heap.size<_;omega)).trans (rf i);have sc:=aA hb _ _ hc';have hB3:=aC hB2 hb;have hs3:=hb.size;clear r0 r1 r2 rf hb hc';rcases hf with ⟨rfl,hl⟩|⟨j,⟨⟨tv,tn⟩,tk⟩,rfl,hj,hl⟩
 · have Hl:Hid (aV s n=vr n):=eF hl;clear hl
   go_wp2_with fail
   refine (uB n w2).mono ?_;rintro e w3 ⟨a,rfl,hO,hb⟩;obtain ⟨z1,z2,z3,rfl⟩:=bC hO.toS;have t0:=aA hb _ _ s0;have t1:=aA hb _ _ s1;have t2:=aA hb _ _ s2;have tf:∀i,w3.frozen? ⟨w.heap.size,i,none⟩=false:=λi=>(hb.frozen (by show w.heap.size<_;omega)).trans (sf i);have hB4:=aC hB3 hb;have HO:=aB hO;clear s0 s1 s2 sf hb hO sc;simp only [vr]
   go_wp2_with fail
   refine bodyPost_ret (v:= .agg #[.bool true,.int .i64 n,.slice z1 z2 z3]) (by simp [results,Tryz.results119,go_sem,t0,t1,t2]) rfl ⟨.slice z1 z2 z3,by rw [Hl.out];rfl,?_,aT (o:=0) hB4 (Nat.le_refl _)⟩;rw [Hl.out];have h2:dK (set3 w3 w.heap.size 0 (.bool true) (.int .i64 n) (.slice z1 z2 z3)) w2.heap.size w3.heap.size (vr n).2 (.slice z1 z2 z3):=HO.out.frame (λq i q1 q2=>⟨aS (.inl (by omega)),aQ⟩);exact h2.mono (lo':=w.heap.size) (hi':=(set3 w3 w.heap.size 0 (.bool true) (.int .i64 n) (.slice z1 z2 z3)).heap.size) (by omega) (by rw [bQ];exact Nat.le_refl _)
 · have Hl:Hid (aV s n=((tv,tn),tk)):=dO hl;obtain ⟨c0,c1,c2,bB,c3,kW⟩:=(HP.out.below hB3).at hj;have UD:=aB kW;obtain ⟨ya,yc,yb,yo,rfl,-,-,-,-⟩:=kW;have hjl:j<s.length:=by
    rcases Nat.lt_or_ge j s.length with h|h
    · exact h
    · rw [List.getElem?_eq_none h] at hj;cases hj
   have ha:ad=some ⟨b,o,none⟩:=had (by omega);subst ha;have hj0:(0:Int)<=(j:Int):=by omega
   have hj1:(j:Int)<(s.length:Int):=by omega
   have Hn:Hid (jD ((tv,tn),tk)/\gN ((tv,tn),tk)):=sU.out _ (List.mem_of_getElem? hj);clear hl hj had
   go_wp2_with fail
   refine (J4 (tv,tn) tk _ w2 UD.out Hn.out.1.1 Hn.out.1.2).mono ?_;rintro e w3 ⟨a,rfl,hO,hb⟩;rw [oZ Hn.out.2] at hO ⊢;obtain ⟨z1,z2,z3,rfl⟩:=bC hO.toS;have t0:=aA hb _ _ s0;have t1:=aA hb _ _ s1;have t2:=aA hb _ _ s2;have tf:∀i,w3.frozen? ⟨w.heap.size,i,none⟩=false:=λi=>(hb.frozen (by show w.heap.size<_;omega)).trans (sf i);have hB4:=aC hB3 hb;have HO:=aB hO;clear s0 s1 s2 sf hb hO sc
   go_wp2_with fail
   refine bodyPost_ret (v:= .agg #[.bool tv,.int .i64 tn,.slice z1 z2 z3]) (by simp [results,Tryz.results119,go_sem,t0,t1,t2]) rfl ⟨.slice z1 z2 z3,by rw [Hl.out],?_,aT (o:=0) hB4 (Nat.le_refl _)⟩;rw [Hl.out];have h2:dK (set3 w3 w.heap.size 0 (.bool tv) (.int .i64 tn) (.slice z1 z2 z3)) w2.heap.size w3.heap.size tk (.slice z1 z2 z3):=HO.out.frame (λq i q1 q2=>⟨aS (.inl (by omega)),aQ⟩);exact h2.mono (lo':=w.heap.size) (hi':=(set3 w3 w.heap.size 0 (.bool tv) (.int .i64 tn) (.slice z1 z2 z3)).heap.size) (by omega) (by rw [bQ];exact Nat.le_refl _)
def XY (s:Sb) (vs:Value) (sb:Nat) (x:Bool×Int) (k:Fo):Prop:=∀(a:Value) (w:World),UO s vs sb w->cO w k a->Fo.len k<=1000->Fo.narrow k->
 Calls Tryz.prog 118 #[.agg #[.bool x.1,.int .i64 x.2,a],.func (.func 119) #[] #[.pointer (some ⟨sb,0,none⟩)]] w λe w'=>∃a',e= .returned (.agg #[.bool (aH (aV s) (x,k)).1.1,.int .i64 (aH (aV s) (x,k)).1.2,a'])/\dK w' w.heap.size w'.heap.size (aH (aV s) (x,k)).2 a'/\Below w.heap.size w w'
theorem aIW (s:Sb) (vs:Value) (sb:Nat) (x:Bool×Int) (k:Fo):XY s vs sb x k:=by
 refine Fo.ind1 (p:=XY s vs sb) ?_ x k;clear x k;intro x k ih a w hInv hS hlen hnar;obtain ⟨v,n⟩:=x;obtain ⟨ad,c,b,o,rfl,had,hlc,hcm,hF⟩:=hS;have Hl:=aB (Fo.len_list k);have HI:=aB ih;have HF:=aB hF;have sU:=aB hnar;have UQ:=aB hInv;clear ih hF hnar hInv;unfold maxLen at hcm;cases v
 · have iX:Hid (aH (aV s) ((false,n),k)=((false,n),dD (aV s) k)):=rfl;by_cases h0:Fo.len k=0
   · have h0':¬(0:Int)<(Fo.len k:Int):=by omega
     have Hk:=aB (pU h0);clear h0;go_enter Tryz.func118,Tryz.ntmps118
     go_wp2_with fail
     go_loopw [29] (λi wr=>i= .int .i64 0/\wr=((w.alloc (.cells #[.bool false,.int .i64 n,.slice ad (Fo.len k) c] 84)).alloc (.cells #[.bool false,.int .i64 0,.slice none 0 0] 84)).alloc (.cells #[.bool false,.int .i64 n,.slice none 0 0] 84)) (λ_ _=>0)
     case atStart=>exact ⟨rfl,rfl⟩
     case round=>
      obtain ⟨rfl,rfl⟩:=hrel
      go_wp2_with fail
      refine bodyPost_ret (v:= .agg #[.bool false,.int .i64 n,.slice none 0 0]) (by simp [results,Tryz.results118,go_sem]) rfl ⟨.slice none 0 0,?_,?_,?_⟩
      · rw [iX.out]
      · rw [iX.out];exact .inl ⟨by rw [Hk.out];rfl,rfl⟩
      · exact ((aD _ _).alloc (by simp) _).alloc (by simp;omega) _
   · have h0':(0:Int)<(Fo.len k:Int):=by omega
     have ha:ad=some ⟨b,o,none⟩:=had (by omega);subst ha;have aG7:Hid (0<Fo.len k):=by unfold Hid;omega
     have hdec:decide (0<Fo.len k)=true:=by simp;omega
     clear h0 had;obtain ⟨i26,hi,hz0,hz1,hz2⟩:=info_parts Tryz.info84;have hmk:=λw:World=>run_make (P:=Tryz.prog) w 82 84 i26 _ Tryz.underlying82 hi hz0 .i64 .i64 (Fo.len k:Int) (Fo.len k:Int) (by omega) (by omega) (by rw [hz2];omega) (by omega);rw [hz1] at hmk;simp only [Int.toNat_natCast] at hmk;have wM:=aB (lI (aV s) k);go_enter Tryz.func118,Tryz.ntmps118
     go_wp2_with fail
     clear hmk hi hz0 hz1 hz2;generalize hW2:((w.alloc (.cells #[.bool false,.int .i64 n,.slice (some ⟨b,o,none⟩) (Fo.len k) c] 84)).alloc (.cells #[.bool false,.int .i64 0,.slice none 0 0] 84)).alloc (.cells #[.bool false,.int .i64 n,.slice (some ⟨w.heap.size+1+1+1,0,none⟩) (Fo.len k) (Fo.len k)] 84)=W2;have hs2:W2.heap.size=w.heap.size+1+1+1:=by rw [←hW2];simp
     have HB2:Hid (Below w.heap.size w W2):=by rw [←hW2];exact ((aD _ _).alloc (by simp) _).alloc (by simp;omega) _
     have r0:W2.cell? ⟨w.heap.size+1,0,none⟩=some (.bool false):=by rw [←hW2,World.cell?_alloc_lt _ _ _ (by show w.heap.size+1<_;rw [gK];omega)];exact aF (World.size_alloc _ _)
     have r1:W2.cell? ⟨w.heap.size+1,1,none⟩=some (.int .i64 0):=by rw [←hW2,World.cell?_alloc_lt _ _ _ (by show w.heap.size+1<_;rw [gK];omega)];exact aF (World.size_alloc _ _)
     have r2:W2.cell? ⟨w.heap.size+1,2,none⟩=some (.slice none 0 0):=by rw [←hW2,World.cell?_alloc_lt _ _ _ (by show w.heap.size+1<_;rw [gK];omega)];exact aF (World.size_alloc _ _)
     have rf:∀i,W2.frozen? ⟨w.heap.size+1,i,none⟩=false:=λi=>by rw [←hW2,(aD _ _).frozen (by show w.heap.size+1<_;rw [gK];omega)];exact bL (World.size_alloc _ _)
     have q0:W2.cell? ⟨w.heap.size+1+1,0,none⟩=some (.bool false):=by rw [←hW2];exact aF (gK _ _ _)
     have q1:W2.cell? ⟨w.heap.size+1+1,1,none⟩=some (.int .i64 n):=by rw [←hW2];exact aF (gK _ _ _)
     have q2:W2.cell? ⟨w.heap.size+1+1,2,none⟩=some (.slice (some ⟨w.heap.size+1+1+1,0,none⟩) (Fo.len k) (Fo.len k)):=by rw [←hW2];exact aF (gK _ _ _)
     have HQ:=aB (And.intro q0 (And.intro q1 (And.intro q2 (And.intro r0 (And.intro r1 (And.intro r2 rf))))));have H0:Hid (lF (w.heap.size+1+1+1) W2 (dD (aV s) k) 0 (W2.alloc (.cells (madeCells #[.bool false,.int .i64 0,.slice none 0 0] (Fo.len k*3)) 84))):=by have:=EH W2 (dD (aV s) k) #[.bool false,.int .i64 0,.slice none 0 0];rw [wM.out,hs2] at this;exact this
     have sO:=aB hs2;clear q0 q1 q2 r0 r1 r2 rf hs2 hW2
     go_loopw [29] (λi wr=>∃j:Nat,j<=Fo.len k/\i= .int .i64 j/\lF (w.heap.size+1+1+1) W2 (dD (aV s) k) j wr) (λi _=>Fo.len k - (intOf i).toNat)
     case atStart=>exact ⟨0,Nat.zero_le _,rfl,H0.out⟩
     case round=>
      obtain ⟨j,hj,rfl,hR⟩:=hrel;have HR:=aB hR;obtain ⟨hB,hT,-,hsz⟩:=hR;have HB:=aB hB;have hs2:=sO.out;have hBw:Below w.heap.size w wr:=HB2.out.trans (hB.mono (by omega));obtain ⟨q0,q1,q2,r0,r1,r2,rf⟩:=HQ.out;by_cases hlt:j<Fo.len k
      · have hlt':(j:Int)<(Fo.len k:Int):=by omega
        obtain ⟨⟨⟨yv,yn⟩,yk⟩,hy⟩:∃y,k.list[j]?=some y:=⟨k.list[j]'(by rw [Hl.out];exact hlt),by simp⟩;obtain ⟨c0,c1,bB,c2,kW⟩:=(HF.out.below hBw).at hy;have HS:=aB kW;obtain ⟨ya,yc,yb,yo,rfl,-,-,-,-⟩:=kW;have NH:=aB (pF sU.out hy);have Hy:=aB hy;have Hy2:Hid ((dD (aV s) k).list[j]?=some (aH (aV s) ((yv,yn),yk))):=by rw [Hid,gQ,List.getElem?_map,hy];rfl
        have hT':qL wr (w.heap.size+1+1+1) (Fo.len k*3):=by rw [←wM.out];exact hT
        obtain ⟨⟨t0,e0⟩,f0⟩:=hT' (j*3) (by omega);obtain ⟨⟨t1,e1⟩,f1⟩:=hT' (j*3+1) (by omega);obtain ⟨⟨t2,e2⟩,f2⟩:=hT' (j*3+2) (by omega);have p2:wr.cell? ⟨w.heap.size+1+1,2,none⟩=some (.slice (some ⟨w.heap.size+1+1+1,0,none⟩) (Fo.len k) (Fo.len k)):=(HB.out.cell (by show w.heap.size+1+1<_;omega)).trans q2;clear hy hT hT' hB q0 q1 q2 r0 r1 r2 rf
        go_upto_region 9 with fail
        generalize fA:wr.alloc (.cells #[.bool yv,.int .i64 yn,.slice ya (Fo.len yk) yc] 84)=wa;have a0:wa.cell? ⟨wr.heap.size,0,none⟩=some (.bool yv):=by rw [←fA];simp
        have a1:wa.cell? ⟨wr.heap.size,1,none⟩=some (.int .i64 yn):=by rw [←fA];simp
        have a2:wa.cell? ⟨wr.heap.size,2,none⟩=some (.slice ya (Fo.len yk) yc):=by rw [←fA];simp
        have bZ:Below wr.heap.size wr wa:=by rw [←fA];exact aD _ _
        have hsa:wa.heap.size=wr.heap.size+1:=by rw [←fA];simp
        have Hwa:Hid (wr.alloc (.cells #[.bool yv,.int .i64 yn,.slice ya (Fo.len yk) yc] 84)=wa):=fA;have p2':=aA bZ _ _ p2;have e0':=aA bZ _ _ e0;have e1':=aA bZ _ _ e1;have e2':=aA bZ _ _ e2;have hlt3:w.heap.size+1+1+1<wr.heap.size:=by omega
        have g0':wa.frozen? ⟨w.heap.size+1+1+1,j*3,none⟩=false:=(bZ.frozen hlt3).trans f0;have g1':wa.frozen? ⟨w.heap.size+1+1+1,j*3+1,none⟩=false:=(bZ.frozen hlt3).trans f1;have g2':wa.frozen? ⟨w.heap.size+1+1+1,j*3+2,none⟩=false:=(bZ.frozen hlt3).trans f2;have HIa:Hid (UO s vs sb wa.drew):=qB s vs sb (qB s vs sb UQ.out (aC hBw bZ)) (Below.refl _ _).drew;have HSa:Hid (cO wa.drew yk (.slice ya (Fo.len yk) yc)):=(HS.out.below bZ).drew;obtain ⟨⟨⟨zv,zn⟩,zk⟩,hz⟩:∃z,z=aH (aV s) ((yv,yn),yk):=⟨_,rfl⟩;have Hz:=aB hz;have oH:w.heap.size+1+1+1<wa.heap.size:=by omega
        have hcall:Calls Tryz.prog 118 #[.agg #[.bool yv,.int .i64 yn,.slice ya (Fo.len yk) yc],.func (.func 119) #[] #[.pointer (some ⟨sb,0,none⟩)]] wa.drew λe w'=>∃(a1:Option Addr) (a2 a3:Nat),e= .returned (.agg #[.bool zv,.int .i64 zn,.slice a1 a2 a3])/\dK w' wa.heap.size w'.heap.size zk (.slice a1 a2 a3)/\Below wa.heap.size wa w':=by have h:=HI.out ((yv,yn),yk) (List.mem_of_getElem? Hy.out) _ wa.drew HIa.out HSa.out NH.out.1 NH.out.2;refine h.mono ?_;rintro e w2 ⟨a',rfl,hO,hb⟩;rw [←Hz.out] at hO;obtain ⟨z1,z2,z3,rfl⟩:=bC hO.toS;exact ⟨z1,z2,z3,by rw [←Hz.out],hO,((Below.refl _ _).drew).trans hb⟩
        have mF:=aB hcall;clear fA hz hcall e0 e1 e2 f0 f1 f2 p2 c0 c1 c2 hBw bZ
        go_region_with (first
         |(go_at_call 118;refine mF.out.mono ?_;rintro e w2 ⟨z1,z2,z3,rfl,hO2,hb2⟩;have aGK:=aA hb2 _ _ p2';have aO3:=aA hb2 _ _ e0';have aO2:=aA hb2 _ _ e1';have aO1:=aA hb2 _ _ e2';have aRG:=(hb2.frozen oH).trans g0';have g1'':=(hb2.frozen oH).trans g1';have aRF:=(hb2.frozen oH).trans g2'))
        all_goals
         have fQ:Hid (lF (w.heap.size+1+1+1) W2 (dD (aV s) k) (j+1) (set3 w2 (w.heap.size+1+1+1) (j*3) (.bool zv) (.int .i64 zn) (.slice z1 z2 z3))):=JY (ob:= .cells #[.bool yv,.int .i64 yn,.slice ya (Fo.len yk) yc] 84) HR.out (by rw [wM.out];exact hlt) (by rw [Hy2.out,←Hz.out]) (by rw [Hwa.out,←hsa];exact hb2) (by rw [←hsa];exact hO2);clear hO2 hb2 aGK p2' e0' e1' e2' g0' g1' g2'
         go_wp2_with fail
         go_roundw
         case rel=>exact ⟨j+1,by omega,by go_num,fQ.out⟩
         case measure=>simp [intOf];omega
      · have lK:j=Fo.len k:=by omega
        subst lK;have p0:wr.cell? ⟨w.heap.size+1+1,0,none⟩=some (.bool false):=(HB.out.cell (by show w.heap.size+1+1<_;omega)).trans q0;have p1:wr.cell? ⟨w.heap.size+1+1,1,none⟩=some (.int .i64 n):=(HB.out.cell (by show w.heap.size+1+1<_;omega)).trans q1;have p2:wr.cell? ⟨w.heap.size+1+1,2,none⟩=some (.slice (some ⟨w.heap.size+1+1+1,0,none⟩) (Fo.len k) (Fo.len k)):=(HB.out.cell (by show w.heap.size+1+1<_;omega)).trans q2;have s0:wr.cell? ⟨w.heap.size+1,0,none⟩=some (.bool false):=(HB.out.cell (by show w.heap.size+1<_;omega)).trans r0;have s1:wr.cell? ⟨w.heap.size+1,1,none⟩=some (.int .i64 0):=(HB.out.cell (by show w.heap.size+1<_;omega)).trans r1;have s2:wr.cell? ⟨w.heap.size+1,2,none⟩=some (.slice none 0 0):=(HB.out.cell (by show w.heap.size+1<_;omega)).trans r2;have sf:∀i,wr.frozen? ⟨w.heap.size+1,i,none⟩=false:=λi=>(HB.out.frozen (by show w.heap.size+1<_;omega)).trans (rf i);clear q0 q1 q2 r0 r1 r2 rf hT hB
        go_wp2_with fail
        refine bodyPost_ret (v:= .agg #[.bool false,.int .i64 n,.slice (some ⟨w.heap.size+1+1+1,0,none⟩) (Fo.len k) (Fo.len k)]) (by simp [results,Tryz.results118,go_sem,s0,s1,s2]) rfl ⟨.slice (some ⟨w.heap.size+1+1+1,0,none⟩) (Fo.len k) (Fo.len k),?_,?_,aT (o:=0) hBw (by omega)⟩
        · rw [iX.out]
        · rw [iX.out];have hRe:lF (w.heap.size+1+1+1) W2 (dD (aV s) k) (Fo.len (dD (aV s) k)) wr:=by rw [wM.out];exact HR.out
          have:=R3 (lo:=w.heap.size) (w':=set3 wr (w.heap.size+1) 0 (.bool false) (.int .i64 n) (.slice (some ⟨w.heap.size+1+1+1,0,none⟩) (Fo.len k) (Fo.len k))) hRe (by rw [wM.out];exact aG7.out) (by rw [wM.out];exact hlen) (by omega) bQ (λq i hq=>⟨aS (.inl (by omega)),aQ⟩);rw [wM.out] at this;exact this
 · have iX:Hid (aH (aV s) ((true,n),k)=(aV s) n):=rfl;obtain ⟨⟨⟨zv,zn⟩,zk⟩,hz⟩:∃z,z=(aV s) n:=⟨_,rfl⟩;have Hz:=aB hz;clear hz;go_enter Tryz.func118,Tryz.ntmps118
   go_wp2_with fail
   generalize hW2:(w.alloc (.cells #[.bool true,.int .i64 n,.slice ad (Fo.len k) c] 84)).alloc (.cells #[.bool false,.int .i64 0,.slice none 0 0] 84)=W2;have hs2:W2.heap.size=w.heap.size+1+1:=by rw [←hW2];simp
   have hB2:Below w.heap.size w W2:=by rw [←hW2];exact (aD _ _).alloc (by simp) _
   have r0:W2.cell? ⟨w.heap.size+1,0,none⟩=some (.bool false):=by rw [←hW2];exact aF (World.size_alloc _ _)
   have r1:W2.cell? ⟨w.heap.size+1,1,none⟩=some (.int .i64 0):=by rw [←hW2];exact aF (World.size_alloc _ _)
   have r2:W2.cell? ⟨w.heap.size+1,2,none⟩=some (.slice none 0 0):=by rw [←hW2];exact aF (World.size_alloc _ _)
   have rf:∀i,W2.frozen? ⟨w.heap.size+1,i,none⟩=false:=λi=>by rw [←hW2];exact bL (World.size_alloc _ _)
   clear hW2;refine (aJ3 s vs sb n W2 (qB s vs sb UQ.out hB2)).mono ?_;rintro e w2 ⟨a',rfl,hO,hb⟩;rw [←Hz.out] at hO ⊢;obtain ⟨z1,z2,z3,rfl⟩:=bC hO.toS;have s0:=aA hb _ _ r0;have s1:=aA hb _ _ r1;have s2:=aA hb _ _ r2;have sf:∀i,w2.frozen? ⟨w.heap.size+1,i,none⟩=false:=λi=>(hb.frozen (by show w.heap.size+1<_;omega)).trans (rf i);have HO:=aB hO;have hB3:=aC hB2 hb;clear hO r0 r1 r2 rf hb
   go_wp2_with fail
   refine bodyPost_ret (v:= .agg #[.bool zv,.int .i64 zn,.slice z1 z2 z3]) (by simp [results,Tryz.results118,go_sem,s0,s1,s2]) rfl ⟨.slice z1 z2 z3,?_,?_,aT (o:=0) hB3 (by omega)⟩
   · rw [iX.out,←Hz.out]
   · rw [iX.out,←Hz.out];have h2:dK (set3 w2 (w.heap.size+1) 0 (.bool zv) (.int .i64 zn) (.slice z1 z2 z3)) W2.heap.size w2.heap.size zk (.slice z1 z2 z3):=HO.out.frame (λq i q1 q2=>⟨aS (.inl (by omega)),aQ⟩);have h3:=h2.mono (lo':=w.heap.size) (hi':=(set3 w2 (w.heap.size+1) 0 (.bool zv) (.int .i64 zn) (.slice z1 z2 z3)).heap.size) (by omega) (by rw [bQ];exact Nat.le_refl _);exact h3
theorem nJ (s:Sb) (vs:Value) (x:Bool×Int) (k:Fo) (a:Value) (w:World) (hV:dZ w s vs) (hs:∀p∈s,jD p.2/\gN p.2) (hS:cO w k a) (hn:jD (x,k)):
 Calls Tryz.prog 84 #[vs,.agg #[.bool x.1,.int .i64 x.2,a]] w λe w'=>∃a',e= .returned (.agg #[.bool (aH (aV s) (x,k)).1.1,.int .i64 (aH (aV s) (x,k)).1.2,a'])/\dK w' w.heap.size w'.heap.size (aH (aV s) (x,k)).2 a'/\Below w.heap.size w w':=by
 obtain ⟨v,n⟩:=x;have HS:=aB hS;have HV:=aB hV;have Hs:=aB hs;have Hn:=aB hn;obtain ⟨ad,c,b,o,rfl,-,-,-,-⟩:=hS;obtain ⟨vd,vc,vb,vo,rfl,-,-,-,-⟩:=hV;obtain ⟨⟨⟨zv,zn⟩,zk⟩,hz⟩:∃z,z=aH (aV s) ((v,n),k):=⟨_,rfl⟩;have Hz:=aB hz;clear hz hs hn;go_enter Tryz.func84,Tryz.ntmps84
 go_wp2_with fail
 generalize hW2:((w.alloc (.cells #[.slice vd s.length vc] 90)).alloc (.cells #[.bool v,.int .i64 n,.slice ad (Fo.len k) c] 84)).alloc (.cells #[.bool false,.int .i64 0,.slice none 0 0] 84)=W2;have hs2:W2.heap.size=w.heap.size+1+1+1:=by rw [←hW2];simp
 have hB2:Below w.heap.size w W2:=by rw [←hW2];exact ((aD _ _).alloc (by simp) _).alloc (by simp;omega) _
 have r0:W2.cell? ⟨w.heap.size+1+1,0,none⟩=some (.bool false):=by rw [←hW2];exact aF (gK _ _ _)
 have r1:W2.cell? ⟨w.heap.size+1+1,1,none⟩=some (.int .i64 0):=by rw [←hW2];exact aF (gK _ _ _)
 have r2:W2.cell? ⟨w.heap.size+1+1,2,none⟩=some (.slice none 0 0):=by rw [←hW2];exact aF (gK _ _ _)
 have rf:∀i,W2.frozen? ⟨w.heap.size+1+1,i,none⟩=false:=λi=>by rw [←hW2];exact bL (gK _ _ _)
 have hI:UO s (.slice vd s.length vc) w.heap.size W2:=by refine ⟨?_,HV.out.below hB2,Hs.out⟩;rw [←hW2,World.cell?_alloc_lt _ _ _ (by show w.heap.size<_;rw [gK];omega),World.cell?_alloc_lt _ _ _ (by simp)];exact aF rfl
 clear hW2;refine (aIW s _ w.heap.size (v,n) k _ W2 hI (HS.out.below hB2) Hn.out.1 Hn.out.2).mono ?_;rintro e w2 ⟨a',rfl,hO,hb⟩;rw [←Hz.out] at hO ⊢;obtain ⟨z1,z2,z3,rfl⟩:=bC hO.toS;have s0:=aA hb _ _ r0;have s1:=aA hb _ _ r1;have s2:=aA hb _ _ r2;have sf:∀i,w2.frozen? ⟨w.heap.size+1+1,i,none⟩=false:=λi=>(hb.frozen (by show w.heap.size+1+1<_;omega)).trans (rf i);have HO:=aB hO;have hB3:=aC hB2 hb;clear hO r0 r1 r2 rf hb hI
 go_wp2_with fail
 refine bodyPost_ret (v:= .agg #[.bool zv,.int .i64 zn,.slice z1 z2 z3]) (by simp [results,Tryz.results84,go_sem,s0,s1,s2]) rfl ⟨.slice z1 z2 z3,by rw [←Hz.out],?_,aT (o:=0) hB3 (by omega)⟩;rw [←Hz.out];have h2:dK (set3 w2 (w.heap.size+1+1) 0 (.bool zv) (.int .i64 zn) (.slice z1 z2 z3)) W2.heap.size w2.heap.size zk (.slice z1 z2 z3):=HO.out.frame (λq i q1 q2=>⟨aS (.inl (by omega)),aQ⟩);exact h2.mono (lo':=w.heap.size) (hi':=(set3 w2 (w.heap.size+1+1) 0 (.bool zv) (.int .i64 zn) (.slice z1 z2 z3)).heap.size) (by omega) (by rw [bQ];exact Nat.le_refl _)
end
section
attribute [local go_sem ↓] Go.wp_at_zero Go.wp_at_succ
def j5 (d n:Int):Tm:=vr (wrap64 (n+d))
def MQ (d:Int) (bb:Nat) (w:World):Prop:=w.cell? ⟨bb,0,none⟩=some (.int .i64 d)
theorem qA (d:Int) (bb:Nat) {w w':World} (h:MQ d bb w) (hb:Below w.heap.size w w'):MQ d bb w':=aA hb _ _ h
theorem aJ2 (d:Int) (bb:Nat) (n:Int) (w:World) (h:MQ d bb w):Calls Tryz.prog 166 #[.int .i64 n,.pointer (some ⟨bb,0,none⟩)] w λe w'=>∃a,e= .returned (.agg #[.bool (j5 d n).1.1,.int .i64 (j5 d n).1.2,a])/\dK w' w.heap.size w'.heap.size (j5 d n).2 a/\Below w.heap.size w w':=by
 have hsb:bb<w.heap.size:=World.block_lt_of_cell? _ _ h;have hc':(w.alloc (.cells #[.bool false,.int .i64 0,.slice none 0 0] 84)).cell? ⟨bb,0,none⟩=some (.int .i64 d):=by rw [World.cell?_alloc_lt _ _ _ hsb];exact h
 clear h;go_enter Tryz.func166,Tryz.ntmps166
 go_wp2_with fail
 generalize hW2:w.alloc (.cells #[.bool false,.int .i64 0,.slice none 0 0] 84)=W2 at*;have hs2:W2.heap.size=w.heap.size+1:=by rw [←hW2];simp
 have hB2:Below w.heap.size w W2:=by rw [←hW2];exact aD _ _
 have r0:W2.cell? ⟨w.heap.size,0,none⟩=some (.bool false):=by rw [←hW2];exact aF rfl
 have r1:W2.cell? ⟨w.heap.size,1,none⟩=some (.int .i64 0):=by rw [←hW2];exact aF rfl
 have r2:W2.cell? ⟨w.heap.size,2,none⟩=some (.slice none 0 0):=by rw [←hW2];exact aF rfl
 have rf:∀i,W2.frozen? ⟨w.heap.size,i,none⟩=false:=λi=>by rw [←hW2];exact bL rfl
 clear hW2;refine (uB _ W2).mono ?_;rintro e w3 ⟨a,rfl,hO,hb⟩;obtain ⟨z1,z2,z3,rfl⟩:=bC hO.toS;have t0:=aA hb _ _ r0;have t1:=aA hb _ _ r1;have t2:=aA hb _ _ r2;have tf:∀i,w3.frozen? ⟨w.heap.size,i,none⟩=false:=λi=>(hb.frozen (by show w.heap.size<_;omega)).trans (rf i);have hB4:=aC hB2 hb;have HO:=aB hO;have hs3:=hb.size;clear r0 r1 r2 rf hb hO hc';simp only [vr]
 go_wp2_with fail
 refine bodyPost_ret (v:= .agg #[.bool true,.int .i64 (wrap64 (n+d)),.slice z1 z2 z3]) (by simp [results,Tryz.results166,go_sem,t0,t1,t2,wrap64]) rfl ⟨.slice z1 z2 z3,rfl,?_,aT (o:=0) hB4 (Nat.le_refl _)⟩;have h2:dK (set3 w3 w.heap.size 0 (.bool true) (.int .i64 (wrap64 (n+d))) (.slice z1 z2 z3)) W2.heap.size w3.heap.size .nil (.slice z1 z2 z3):=HO.out.frame (λq i q1 q2=>⟨aS (.inl (by omega)),aQ⟩);exact h2.mono (lo':=w.heap.size) (hi':=(set3 w3 w.heap.size 0 (.bool true) (.int .i64 (wrap64 (n+d))) (.slice z1 z2 z3)).heap.size) (by omega) (by rw [bQ];exact Nat.le_refl _)
def XW (d:Int) (bb:Nat) (x:Bool×Int) (k:Fo):Prop:=∀(a:Value) (w:World),MQ d bb w->cO w k a->Fo.len k<=1000->Fo.narrow k->
 Calls Tryz.prog 118 #[.agg #[.bool x.1,.int .i64 x.2,a],.func (.func 166) #[] #[.pointer (some ⟨bb,0,none⟩)]] w λe w'=>∃a',e= .returned (.agg #[.bool (aH (j5 d) (x,k)).1.1,.int .i64 (aH (j5 d) (x,k)).1.2,a'])/\dK w' w.heap.size w'.heap.size (aH (j5 d) (x,k)).2 a'/\Below w.heap.size w w'
theorem aIV (d:Int) (bb:Nat) (x:Bool×Int) (k:Fo):XW d bb x k:=by
 refine Fo.ind1 (p:=XW d bb) ?_ x k;clear x k;intro x k ih a w hInv hS hlen hnar;obtain ⟨v,n⟩:=x;obtain ⟨ad,c,b,o,rfl,had,hlc,hcm,hF⟩:=hS;have Hl:=aB (Fo.len_list k);have HI:=aB ih;have HF:=aB hF;have sU:=aB hnar;have UQ:=aB hInv;clear ih hF hnar hInv;unfold maxLen at hcm;cases v
 · have iX:Hid (aH (j5 d) ((false,n),k)=((false,n),dD (j5 d) k)):=rfl;by_cases h0:Fo.len k=0
   · have h0':¬(0:Int)<(Fo.len k:Int):=by omega
     have Hk:=aB (pU h0);clear h0;go_enter Tryz.func118,Tryz.ntmps118
     go_wp2_with fail
     go_loopw [29] (λi wr=>i= .int .i64 0/\wr=((w.alloc (.cells #[.bool false,.int .i64 n,.slice ad (Fo.len k) c] 84)).alloc (.cells #[.bool false,.int .i64 0,.slice none 0 0] 84)).alloc (.cells #[.bool false,.int .i64 n,.slice none 0 0] 84)) (λ_ _=>0)
     case atStart=>exact ⟨rfl,rfl⟩
     case round=>
      obtain ⟨rfl,rfl⟩:=hrel
      go_wp2_with fail
      refine bodyPost_ret (v:= .agg #[.bool false,.int .i64 n,.slice none 0 0]) (by simp [results,Tryz.results118,go_sem]) rfl ⟨.slice none 0 0,?_,?_,?_⟩
      · rw [iX.out]
      · rw [iX.out];exact .inl ⟨by rw [Hk.out];rfl,rfl⟩
      · exact ((aD _ _).alloc (by simp) _).alloc (by simp;omega) _
   · have h0':(0:Int)<(Fo.len k:Int):=by omega
     have ha:ad=some ⟨b,o,none⟩:=had (by omega);subst ha;have aG7:Hid (0<Fo.len k):=by unfold Hid;omega
     have hdec:decide (0<Fo.len k)=true:=by simp;omega
     clear h0 had;obtain ⟨i26,hi,hz0,hz1,hz2⟩:=info_parts Tryz.info84;have hmk:=λw:World=>run_make (P:=Tryz.prog) w 82 84 i26 _ Tryz.underlying82 hi hz0 .i64 .i64 (Fo.len k:Int) (Fo.len k:Int) (by omega) (by omega) (by rw [hz2];omega) (by omega);rw [hz1] at hmk;simp only [Int.toNat_natCast] at hmk;have wM:=aB (lI (j5 d) k);go_enter Tryz.func118,Tryz.ntmps118
     go_wp2_with fail
     clear hmk hi hz0 hz1 hz2;generalize hW2:((w.alloc (.cells #[.bool false,.int .i64 n,.slice (some ⟨b,o,none⟩) (Fo.len k) c] 84)).alloc (.cells #[.bool false,.int .i64 0,.slice none 0 0] 84)).alloc (.cells #[.bool false,.int .i64 n,.slice (some ⟨w.heap.size+1+1+1,0,none⟩) (Fo.len k) (Fo.len k)] 84)=W2;have hs2:W2.heap.size=w.heap.size+1+1+1:=by rw [←hW2];simp
     have HB2:Hid (Below w.heap.size w W2):=by rw [←hW2];exact ((aD _ _).alloc (by simp) _).alloc (by simp;omega) _
     have r0:W2.cell? ⟨w.heap.size+1,0,none⟩=some (.bool false):=by rw [←hW2,World.cell?_alloc_lt _ _ _ (by show w.heap.size+1<_;rw [gK];omega)];exact aF (World.size_alloc _ _)
     have r1:W2.cell? ⟨w.heap.size+1,1,none⟩=some (.int .i64 0):=by rw [←hW2,World.cell?_alloc_lt _ _ _ (by show w.heap.size+1<_;rw [gK];omega)];exact aF (World.size_alloc _ _)
     have r2:W2.cell? ⟨w.heap.size+1,2,none⟩=some (.slice none 0 0):=by rw [←hW2,World.cell?_alloc_lt _ _ _ (by show w.heap.size+1<_;rw [gK];omega)];exact aF (World.size_alloc _ _)
     have rf:∀i,W2.frozen? ⟨w.heap.size+1,i,none⟩=false:=λi=>by rw [←hW2,(aD _ _).frozen (by show w.heap.size+1<_;rw [gK];omega)];exact bL (World.size_alloc _ _)
     have q0:W2.cell? ⟨w.heap.size+1+1,0,none⟩=some (.bool false):=by rw [←hW2];exact aF (gK _ _ _)
     have q1:W2.cell? ⟨w.heap.size+1+1,1,none⟩=some (.int .i64 n):=by rw [←hW2];exact aF (gK _ _ _)
     have q2:W2.cell? ⟨w.heap.size+1+1,2,none⟩=some (.slice (some ⟨w.heap.size+1+1+1,0,none⟩) (Fo.len k) (Fo.len k)):=by rw [←hW2];exact aF (gK _ _ _)
     have HQ:=aB (And.intro q0 (And.intro q1 (And.intro q2 (And.intro r0 (And.intro r1 (And.intro r2 rf))))));have H0:Hid (lF (w.heap.size+1+1+1) W2 (dD (j5 d) k) 0 (W2.alloc (.cells (madeCells #[.bool false,.int .i64 0,.slice none 0 0] (Fo.len k*3)) 84))):=by have:=EH W2 (dD (j5 d) k) #[.bool false,.int .i64 0,.slice none 0 0];rw [wM.out,hs2] at this;exact this
     have sO:=aB hs2;clear q0 q1 q2 r0 r1 r2 rf hs2 hW2
     go_loopw [29] (λi wr=>∃j:Nat,j<=Fo.len k/\i= .int .i64 j/\lF (w.heap.size+1+1+1) W2 (dD (j5 d) k) j wr) (λi _=>Fo.len k - (intOf i).toNat)
     case atStart=>exact ⟨0,Nat.zero_le _,rfl,H0.out⟩
     case round=>
      obtain ⟨j,hj,rfl,hR⟩:=hrel;have HR:=aB hR;obtain ⟨hB,hT,-,hsz⟩:=hR;have HB:=aB hB;have hs2:=sO.out;have hBw:Below w.heap.size w wr:=HB2.out.trans (hB.mono (by omega));obtain ⟨q0,q1,q2,r0,r1,r2,rf⟩:=HQ.out;by_cases hlt:j<Fo.len k
      · have hlt':(j:Int)<(Fo.len k:Int):=by omega
        obtain ⟨⟨⟨yv,yn⟩,yk⟩,hy⟩:∃y,k.list[j]?=some y:=⟨k.list[j]'(by rw [Hl.out];exact hlt),by simp⟩;obtain ⟨c0,c1,bB,c2,kW⟩:=(HF.out.below hBw).at hy;have HS:=aB kW;obtain ⟨ya,yc,yb,yo,rfl,-,-,-,-⟩:=kW;have NH:=aB (pF sU.out hy);have Hy:=aB hy;have Hy2:Hid ((dD (j5 d) k).list[j]?=some (aH (j5 d) ((yv,yn),yk))):=by rw [Hid,gQ,List.getElem?_map,hy];rfl
        have hT':qL wr (w.heap.size+1+1+1) (Fo.len k*3):=by rw [←wM.out];exact hT
        obtain ⟨⟨t0,e0⟩,f0⟩:=hT' (j*3) (by omega);obtain ⟨⟨t1,e1⟩,f1⟩:=hT' (j*3+1) (by omega);obtain ⟨⟨t2,e2⟩,f2⟩:=hT' (j*3+2) (by omega);have p2:wr.cell? ⟨w.heap.size+1+1,2,none⟩=some (.slice (some ⟨w.heap.size+1+1+1,0,none⟩) (Fo.len k) (Fo.len k)):=(HB.out.cell (by show w.heap.size+1+1<_;omega)).trans q2;clear hy hT hT' hB q0 q1 q2 r0 r1 r2 rf
        go_upto_region 9 with fail
        generalize fA:wr.alloc (.cells #[.bool yv,.int .i64 yn,.slice ya (Fo.len yk) yc] 84)=wa;have a0:wa.cell? ⟨wr.heap.size,0,none⟩=some (.bool yv):=by rw [←fA];simp
        have a1:wa.cell? ⟨wr.heap.size,1,none⟩=some (.int .i64 yn):=by rw [←fA];simp
        have a2:wa.cell? ⟨wr.heap.size,2,none⟩=some (.slice ya (Fo.len yk) yc):=by rw [←fA];simp
        have bZ:Below wr.heap.size wr wa:=by rw [←fA];exact aD _ _
        have hsa:wa.heap.size=wr.heap.size+1:=by rw [←fA];simp
        have Hwa:Hid (wr.alloc (.cells #[.bool yv,.int .i64 yn,.slice ya (Fo.len yk) yc] 84)=wa):=fA;have p2':=aA bZ _ _ p2;have e0':=aA bZ _ _ e0;have e1':=aA bZ _ _ e1;have e2':=aA bZ _ _ e2;have hlt3:w.heap.size+1+1+1<wr.heap.size:=by omega
        have g0':wa.frozen? ⟨w.heap.size+1+1+1,j*3,none⟩=false:=(bZ.frozen hlt3).trans f0;have g1':wa.frozen? ⟨w.heap.size+1+1+1,j*3+1,none⟩=false:=(bZ.frozen hlt3).trans f1;have g2':wa.frozen? ⟨w.heap.size+1+1+1,j*3+2,none⟩=false:=(bZ.frozen hlt3).trans f2;have HIa:Hid (MQ d bb wa.drew):=qA d bb (qA d bb UQ.out (aC hBw bZ)) (Below.refl _ _).drew;have HSa:Hid (cO wa.drew yk (.slice ya (Fo.len yk) yc)):=(HS.out.below bZ).drew;obtain ⟨⟨⟨zv,zn⟩,zk⟩,hz⟩:∃z,z=aH (j5 d) ((yv,yn),yk):=⟨_,rfl⟩;have Hz:=aB hz;have oH:w.heap.size+1+1+1<wa.heap.size:=by omega
        have hcall:Calls Tryz.prog 118 #[.agg #[.bool yv,.int .i64 yn,.slice ya (Fo.len yk) yc],.func (.func 166) #[] #[.pointer (some ⟨bb,0,none⟩)]] wa.drew λe w'=>∃(a1:Option Addr) (a2 a3:Nat),e= .returned (.agg #[.bool zv,.int .i64 zn,.slice a1 a2 a3])/\dK w' wa.heap.size w'.heap.size zk (.slice a1 a2 a3)/\Below wa.heap.size wa w':=by have h:=HI.out ((yv,yn),yk) (List.mem_of_getElem? Hy.out) _ wa.drew HIa.out HSa.out NH.out.1 NH.out.2;refine h.mono ?_;rintro e w2 ⟨a',rfl,hO,hb⟩;rw [←Hz.out] at hO;obtain ⟨z1,z2,z3,rfl⟩:=bC hO.toS;exact ⟨z1,z2,z3,by rw [←Hz.out],hO,((Below.refl _ _).drew).trans hb⟩
        have mF:=aB hcall;clear fA hz hcall e0 e1 e2 f0 f1 f2 p2 c0 c1 c2 hBw bZ
        go_region_with (first
         |(go_at_call 118;refine mF.out.mono ?_;rintro e w2 ⟨z1,z2,z3,rfl,hO2,hb2⟩;have aGK:=aA hb2 _ _ p2';have aO3:=aA hb2 _ _ e0';have aO2:=aA hb2 _ _ e1';have aO1:=aA hb2 _ _ e2';have aRG:=(hb2.frozen oH).trans g0';have g1'':=(hb2.frozen oH).trans g1';have aRF:=(hb2.frozen oH).trans g2'))
        all_goals
         have fQ:Hid (lF (w.heap.size+1+1+1) W2 (dD (j5 d) k) (j+1) (set3 w2 (w.heap.size+1+1+1) (j*3) (.bool zv) (.int .i64 zn) (.slice z1 z2 z3))):=JY (ob:= .cells #[.bool yv,.int .i64 yn,.slice ya (Fo.len yk) yc] 84) HR.out (by rw [wM.out];exact hlt) (by rw [Hy2.out,←Hz.out]) (by rw [Hwa.out,←hsa];exact hb2) (by rw [←hsa];exact hO2);clear hO2 hb2 aGK p2' e0' e1' e2' g0' g1' g2'
         go_wp2_with fail
         go_roundw
         case rel=>exact ⟨j+1,by omega,by go_num,fQ.out⟩
         case measure=>simp [intOf];omega
      · have lK:j=Fo.len k:=by omega
        subst lK;have p0:wr.cell? ⟨w.heap.size+1+1,0,none⟩=some (.bool false):=(HB.out.cell (by show w.heap.size+1+1<_;omega)).trans q0;have p1:wr.cell? ⟨w.heap.size+1+1,1,none⟩=some (.int .i64 n):=(HB.out.cell (by show w.heap.size+1+1<_;omega)).trans q1;have p2:wr.cell? ⟨w.heap.size+1+1,2,none⟩=some (.slice (some ⟨w.heap.size+1+1+1,0,none⟩) (Fo.len k) (Fo.len k)):=(HB.out.cell (by show w.heap.size+1+1<_;omega)).trans q2;have s0:wr.cell? ⟨w.heap.size+1,0,none⟩=some (.bool false):=(HB.out.cell (by show w.heap.size+1<_;omega)).trans r0;have s1:wr.cell? ⟨w.heap.size+1,1,none⟩=some (.int .i64 0):=(HB.out.cell (by show w.heap.size+1<_;omega)).trans r1;have s2:wr.cell? ⟨w.heap.size+1,2,none⟩=some (.slice none 0 0):=(HB.out.cell (by show w.heap.size+1<_;omega)).trans r2;have sf:∀i,wr.frozen? ⟨w.heap.size+1,i,none⟩=false:=λi=>(HB.out.frozen (by show w.heap.size+1<_;omega)).trans (rf i);clear q0 q1 q2 r0 r1 r2 rf hT hB
        go_wp2_with fail
        refine bodyPost_ret (v:= .agg #[.bool false,.int .i64 n,.slice (some ⟨w.heap.size+1+1+1,0,none⟩) (Fo.len k) (Fo.len k)]) (by simp [results,Tryz.results118,go_sem,s0,s1,s2]) rfl ⟨.slice (some ⟨w.heap.size+1+1+1,0,none⟩) (Fo.len k) (Fo.len k),?_,?_,aT (o:=0) hBw (by omega)⟩
        · rw [iX.out]
        · rw [iX.out];have hRe:lF (w.heap.size+1+1+1) W2 (dD (j5 d) k) (Fo.len (dD (j5 d) k)) wr:=by rw [wM.out];exact HR.out
          have:=R3 (lo:=w.heap.size) (w':=set3 wr (w.heap.size+1) 0 (.bool false) (.int .i64 n) (.slice (some ⟨w.heap.size+1+1+1,0,none⟩) (Fo.len k) (Fo.len k))) hRe (by rw [wM.out];exact aG7.out) (by rw [wM.out];exact hlen) (by omega) bQ (λq i hq=>⟨aS (.inl (by omega)),aQ⟩);rw [wM.out] at this;exact this
 · have iX:Hid (aH (j5 d) ((true,n),k)=(j5 d) n):=rfl;obtain ⟨⟨⟨zv,zn⟩,zk⟩,hz⟩:∃z,z=(j5 d) n:=⟨_,rfl⟩;have Hz:=aB hz;clear hz;go_enter Tryz.func118,Tryz.ntmps118
   go_wp2_with fail
   generalize hW2:(w.alloc (.cells #[.bool true,.int .i64 n,.slice ad (Fo.len k) c] 84)).alloc (.cells #[.bool false,.int .i64 0,.slice none 0 0] 84)=W2;have hs2:W2.heap.size=w.heap.size+1+1:=by rw [←hW2];simp
   have hB2:Below w.heap.size w W2:=by rw [←hW2];exact (aD _ _).alloc (by simp) _
   have r0:W2.cell? ⟨w.heap.size+1,0,none⟩=some (.bool false):=by rw [←hW2];exact aF (World.size_alloc _ _)
   have r1:W2.cell? ⟨w.heap.size+1,1,none⟩=some (.int .i64 0):=by rw [←hW2];exact aF (World.size_alloc _ _)
   have r2:W2.cell? ⟨w.heap.size+1,2,none⟩=some (.slice none 0 0):=by rw [←hW2];exact aF (World.size_alloc _ _)
   have rf:∀i,W2.frozen? ⟨w.heap.size+1,i,none⟩=false:=λi=>by rw [←hW2];exact bL (World.size_alloc _ _)
   clear hW2;refine (aJ2 d bb n W2 (qA d bb UQ.out hB2)).mono ?_;rintro e w2 ⟨a',rfl,hO,hb⟩;rw [←Hz.out] at hO ⊢;obtain ⟨z1,z2,z3,rfl⟩:=bC hO.toS;have s0:=aA hb _ _ r0;have s1:=aA hb _ _ r1;have s2:=aA hb _ _ r2;have sf:∀i,w2.frozen? ⟨w.heap.size+1,i,none⟩=false:=λi=>(hb.frozen (by show w.heap.size+1<_;omega)).trans (rf i);have HO:=aB hO;have hB3:=aC hB2 hb;clear hO r0 r1 r2 rf hb
   go_wp2_with fail
   refine bodyPost_ret (v:= .agg #[.bool zv,.int .i64 zn,.slice z1 z2 z3]) (by simp [results,Tryz.results118,go_sem,s0,s1,s2]) rfl ⟨.slice z1 z2 z3,?_,?_,aT (o:=0) hB3 (by omega)⟩
   · rw [iX.out,←Hz.out]
   · rw [iX.out,←Hz.out];have h2:dK (set3 w2 (w.heap.size+1) 0 (.bool zv) (.int .i64 zn) (.slice z1 z2 z3)) W2.heap.size w2.heap.size zk (.slice z1 z2 z3):=HO.out.frame (λq i q1 q2=>⟨aS (.inl (by omega)),aQ⟩);have h3:=h2.mono (lo':=w.heap.size) (hi':=(set3 w2 (w.heap.size+1) 0 (.bool zv) (.int .i64 zn) (.slice z1 z2 z3)).heap.size) (by omega) (by rw [bQ];exact Nat.le_refl _);exact h3
theorem aA8 (d:Int) (x:Bool×Int) (k:Fo) (a:Value) (w:World) (hS:cO w k a) (hn:jD (x,k)):
 Calls Tryz.prog 144 #[.agg #[.bool x.1,.int .i64 x.2,a],.int .i64 d] w λe w'=>∃a',e= .returned (.agg #[.bool (aH (j5 d) (x,k)).1.1,.int .i64 (aH (j5 d) (x,k)).1.2,a'])/\dK w' w.heap.size w'.heap.size (aH (j5 d) (x,k)).2 a'/\Below w.heap.size w w':=by
 obtain ⟨v,n⟩:=x;have HS:=aB hS;have Hn:=aB hn;obtain ⟨ad,c,b,o,rfl,-,-,-,-⟩:=hS;obtain ⟨⟨⟨zv,zn⟩,zk⟩,hz⟩:∃z,z=aH (j5 d) ((v,n),k):=⟨_,rfl⟩;have Hz:=aB hz;clear hz hn;go_enter Tryz.func144,Tryz.ntmps144
 go_wp2_with fail
 generalize hW2:((w.alloc (.cells #[.bool v,.int .i64 n,.slice ad (Fo.len k) c] 84)).alloc (.cells #[.int .i64 d] 3)).alloc (.cells #[.bool false,.int .i64 0,.slice none 0 0] 84)=W2;have hs2:W2.heap.size=w.heap.size+1+1+1:=by rw [←hW2];simp
 have hB2:Below w.heap.size w W2:=by rw [←hW2];exact ((aD _ _).alloc (by simp) _).alloc (by simp;omega) _
 have r0:W2.cell? ⟨w.heap.size+1+1,0,none⟩=some (.bool false):=by rw [←hW2];exact aF (gK _ _ _)
 have r1:W2.cell? ⟨w.heap.size+1+1,1,none⟩=some (.int .i64 0):=by rw [←hW2];exact aF (gK _ _ _)
 have r2:W2.cell? ⟨w.heap.size+1+1,2,none⟩=some (.slice none 0 0):=by rw [←hW2];exact aF (gK _ _ _)
 have rf:∀i,W2.frozen? ⟨w.heap.size+1+1,i,none⟩=false:=λi=>by rw [←hW2];exact bL (gK _ _ _)
 have hI:MQ d (w.heap.size+1) W2:=by unfold MQ;rw [←hW2,World.cell?_alloc_lt _ _ _ (by show w.heap.size+1<_;rw [gK];omega)];exact aF (World.size_alloc _ _)
 clear hW2;refine (aIV d (w.heap.size+1) (v,n) k _ W2 hI (HS.out.below hB2) Hn.out.1 Hn.out.2).mono ?_;rintro e w2 ⟨a',rfl,hO,hb⟩;rw [←Hz.out] at hO ⊢;obtain ⟨z1,z2,z3,rfl⟩:=bC hO.toS;have s0:=aA hb _ _ r0;have s1:=aA hb _ _ r1;have s2:=aA hb _ _ r2;have sf:∀i,w2.frozen? ⟨w.heap.size+1+1,i,none⟩=false:=λi=>(hb.frozen (by show w.heap.size+1+1<_;omega)).trans (rf i);have HO:=aB hO;have hB3:=aC hB2 hb;clear hO r0 r1 r2 rf hb hI
 go_wp2_with fail
 refine bodyPost_ret (v:= .agg #[.bool zv,.int .i64 zn,.slice z1 z2 z3]) (by simp [results,Tryz.results144,go_sem,s0,s1,s2]) rfl ⟨.slice z1 z2 z3,by rw [←Hz.out],?_,aT (o:=0) hB3 (by omega)⟩;rw [←Hz.out];have h2:dK (set3 w2 (w.heap.size+1+1) 0 (.bool zv) (.int .i64 zn) (.slice z1 z2 z3)) W2.heap.size w2.heap.size zk (.slice z1 z2 z3):=HO.out.frame (λq i q1 q2=>⟨aS (.inl (by omega)),aQ⟩);exact h2.mono (lo':=w.heap.size) (hi':=(set3 w2 (w.heap.size+1+1) 0 (.bool zv) (.int .i64 zn) (.slice z1 z2 z3)).heap.size) (by omega) (by rw [bQ];exact Nat.le_refl _)
end
def mX:Fo->Fo->Sb->Option Sb
 | .nil,_,s=>some s
 | .node _ _ _ _ _,.nil,_=>none
 | .node _ _ x k r,.node _ _ y l q,s=>
  (if x.1 then (match dA s x.2 with
   |none=>some (s++[(x.2,(y,l))])
   |some u=>if cB u.1 u.2 y l then some s else none)
  else if y.1=false/\y.2=x.2/\Fo.len l=Fo.len k then mX k l s else none).bind (mX r q)
def iW (s:Sb) (t u:Tm):Option Sb:=
 if t.1.1 then (match dA s t.1.2 with
  |none=>some (s++[(t.1.2,u)])
  |some z=>if cB z.1 z.2 u.1 u.2 then some s else none)
 else if u.1.1=false/\u.1.2=t.1.2/\Fo.len u.2=Fo.len t.2 then mX t.2 u.2 s else none
theorem jQ (p q p' q':Nat) (x y:Bool×Int) (k r l m:Fo) (s:Sb):mX (.node p q x k r) (.node p' q' y l m) s=(iW s (x,k) (y,l)).bind (mX r m):=rfl
theorem BM {s:Sb} {n:Int} {k:Fo} {u:Tm} (h:dA s n=none):iW s ((true,n),k) u=some (s++[(n,u)]):=by unfold iW;simp [h]
theorem BK {s:Sb} {n:Int} {k:Fo} {u z:Tm} (h:dA s n=some z):iW s ((true,n),k) u=if cB z.1 z.2 u.1 u.2 then some s else none:=by unfold iW;simp [h]
theorem aMW {s:Sb} {n:Int} {k l:Fo} (h:Fo.len l=Fo.len k):iW s ((false,n),k) ((false,n),l)=mX k l s:=by unfold iW;simp [h]
theorem aMV {s:Sb} {n:Int} {k:Fo} {u:Tm} (h:¬(u.1.1=false/\u.1.2=n/\Fo.len u.2=Fo.len k)):iW s ((false,n),k) u=none:=by unfold iW;simp only [Bool.false_eq_true,if_false];rw [if_neg h]
theorem WX:∀{j:Nat} {k l:Fo} {t u:Tm} (s:Sb),k.list[j]?=some t->l.list[j]?=some u->mX (Fo.take (j+1) k) (Fo.take (j+1) l) s=(mX (Fo.take j k) (Fo.take j l) s).bind λs'=>iW s' t u
 |_,.nil,_,_,_,_,h,_=>by simp [Fo.list] at h
 |_,.node _ _ _ _ _,.nil,_,_,_,_,h=>by simp [Fo.list] at h
 |0,.node _ _ x k r,.node _ _ y l q,t,u,s,h,h'=>by simp only [Fo.list,List.getElem?_cons_zero,Option.some.injEq] at h h';subst h h';simp only [Fo.take,jQ];simp [mX]
 |j+1,.node _ _ x k r,.node _ _ y l q,t,u,s,h,h'=>by
  have ih:=λs=>WX (j:=j) (k:=r) (l:=q) s (by simpa [Fo.list] using h) (by simpa [Fo.list] using h');rw [Fo.take,Fo.take,jQ,Fo.take,Fo.take,jQ];cases iW s (x,k) (y,l) with
  |none=>rfl
  |some s'=>exact ih s'
theorem WY:∀{j:Nat} {k l:Fo} {s:Sb},Fo.len k=Fo.len l->mX (Fo.take j k) (Fo.take j l) s=none->mX k l s=none
 |0,_,_,_,_,h=>by simp [Fo.take,mX] at h
 |j+1,.nil,_,_,_,h=>by simp [Fo.take,mX] at h
 |j+1,.node _ _ _ _ _,.nil,_,h,_=>by simp [Fo.len] at h
 |j+1,.node _ _ x k r,.node _ _ y l q,s,hl,h=>by
  rw [Fo.take,Fo.take,jQ] at h;rw [jQ];cases e:iW s (x,k) (y,l) with
  |none=>rfl
  |some s'=>rw [e] at h;exact WY (j:=j) (by simpa [Fo.len] using hl) h
theorem BN:∀{k l:Fo} {s s':Sb},mX k l s=some s'->s'.length<=s.length+Fo.sizesR k
 | .nil,_,s,s',h=>by simp only [mX,Option.some.injEq] at h;subst h;omega
 | .node _ _ _ _ _,.nil,_,_,h=>by simp [mX] at h
 | .node _ _ ⟨v,n⟩ k r,.node _ _ y l q,s,s',h=>by
  rw [jQ,Option.bind_eq_some_iff] at h;obtain ⟨s1,h1,h2⟩:=h;have i2:=BN h2;have i1:s1.length<=s.length+1+Fo.sizesR k:=by
   cases v
   · unfold iW at h1;simp only [Bool.false_eq_true,if_false] at h1;split at h1
     · have:=BN h1;omega
     · cases h1
   · cases e:dA s n with
     |none=>rw [BM e] at h1;cases h1;simp
     |some z=>
      rw [BK e] at h1;split at h1
      · cases h1;omega
      · cases h1
  simp only [Fo.sizesR];omega
theorem KF {t u:Tm} {s s':Sb} (h:iW s t u=some s'):s'.length<=s.length+aM t.2:=by
 obtain ⟨⟨v,n⟩,k⟩:=t;unfold aM;cases v
 · unfold iW at h;simp only [Bool.false_eq_true,if_false] at h;split at h
   · have:=BN h;simp only;omega
   · cases h
 · cases e:dA s n with
   |none=>rw [BM e] at h;cases h;simp
   |some z=>
    rw [BK e] at h;split at h
    · cases h;omega
    · cases h
theorem O3 {s m:Sb} {n:Int} {u:Tm} (h:dA s n=some u):dA (s++m) n=some u:=by rw [wG,h];rfl
theorem aII {s m:Sb} {t:Tm} (h:∀n,bU n t->(dA s n).isSome=true):aH (aV (s++m)) t=aH (aV s) t:=by refine iM λn hn=>?_;obtain ⟨u,hu⟩:=Option.isSome_iff_exists.1 (h n hn);rw [dO hu,dO (O3 hu)]
theorem zF:∀{k l:Fo} {s s':Sb},Fo.len k=Fo.len l->Fo.ok l->(∀p∈s,gN p.2)->mX k l s=some s'->
 (∀p∈s',gN p.2)/\(∃m,s'=s++m)/\(∀n,eH n k->(dA s' n).isSome=true)/\dD (aV s') k=l
 | .nil,.nil,s,s',_,_,hs,h=>by simp only [mX,Option.some.injEq] at h;subst h;exact ⟨hs,⟨[],by simp⟩,λn hn=>by simp [eH] at hn,rfl⟩
 | .nil,.node _ _ _ _ _,_,_,h,_,_,_=>by simp [Fo.len] at h
 | .node _ _ _ _ _,.nil,_,_,h,_,_,_=>by simp [Fo.len] at h
 | .node p0 q0 ⟨v,n⟩ k r,.node p1 q1 y l q,s,s',hl,hok,hs,h=>by
  rw [jQ,Option.bind_eq_some_iff] at h;obtain ⟨s1,h1,h2⟩:=h;rw [dG] at hok;obtain ⟨rfl,rfl,hy,hq⟩:=hok;have key:(∀p∈s1,gN p.2)/\(∃m,s1=s++m)/\(∀m,bU m ((v,n),k)->(dA s1 m).isSome=true)/\aH (aV s1) ((v,n),k)=(y,l):=by
   cases v
   · unfold iW at h1;simp only [Bool.false_eq_true,if_false] at h1;split at h1
     · rename_i hc;obtain ⟨i1,i2,i3,i4⟩:=zF hc.2.2.symm hy.2 hs h1;refine ⟨i1,i2,λm hm=>i3 m (AA.1 hm),?_⟩;rw [cK,i4];obtain ⟨y1,y2⟩:=y;have e1:y1=false:=hc.1;have e2:y2=n:=hc.2.1;subst e1 e2;rfl
     · cases h1
   · cases e:dA s n with
     |none=>
      rw [BM e] at h1;cases h1;have hl':dA (s++[(n,(y,l))]) n=some (y,l):=by rw [wG,e];simp [dA]
      refine ⟨?_,⟨_,rfl⟩,λm hm=>?_,?_⟩
      · intro p hp;simp only [List.mem_append,List.mem_singleton] at hp;rcases hp with hp|rfl
        · exact hs p hp
        · exact hy
      · have:n=m:=by simpa [bU] using hm
        subst this;rw [hl'];rfl
      · rw [fJ,dO hl']
     |some z=>
      rw [BK e] at h1;split at h1
      · rename_i hsm;cases h1;have hz:z=(y,l):=VT (hs _ (eD e)) hy hsm;refine ⟨hs,⟨[],by simp⟩,λm hm=>?_,?_⟩
        · have:n=m:=by simpa [bU] using hm
          subst this;rw [e];rfl
        · rw [fJ,dO e,hz]
      · cases h1
  obtain ⟨k1,⟨m1,rfl⟩,k3,k4⟩:=key;obtain ⟨i1,⟨m2,rfl⟩,i3,i4⟩:=zF (by simpa [Fo.len] using hl) hq k1 h2;refine ⟨i1,⟨m1++m2,by simp⟩,λm hm=>?_,?_⟩
  · rcases hm with hm|hm
    · obtain ⟨u,hu⟩:=Option.isSome_iff_exists.1 (k3 m hm);rw [O3 hu];rfl
    · exact i3 m hm
  · rw [dE,aII k3,k4,i4]
theorem aBV {t u:Tm} {s s':Sb} (hu:gN u) (hs:∀p∈s,gN p.2) (h:iW s t u=some s'):(∀p∈s',gN p.2)/\aH (aV s') t=u:=by
 have h1:mX (.node 0 0 t.1 t.2 .nil) (.node 0 0 u.1 u.2 .nil) s=some s':=by rw [jQ,show iW s (t.1,t.2) (u.1,u.2)=some s' from h];rfl
 obtain ⟨i1,_,_,i4⟩:=zF (k:= .node 0 0 t.1 t.2 .nil) (l:= .node 0 0 u.1 u.2 .nil) rfl (dG.2 ⟨rfl,rfl,hu,trivial⟩) hs h1;rw [dE] at i4;simp only [BT.node.injEq,true_and] at i4;exact ⟨i1,Prod.ext i4.1 i4.2.1⟩
end Go.Proofs.YtoklbpbmghbhnaeGreat
