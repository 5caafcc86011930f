import Derived.Test.YtoklbpbmghbhnaeGreatG18
import Derived.Laws.EntriesVeiled
import Derived.Deep.LoopGhost
namespace Go.Proofs.YtoklbpbmghbhnaeGreat
set_option maxRecDepth 100000
set_option maxHeartbeats 4000000
open Go.RowKit Go.Deep Go.ChangeShapes Go.WideShapes
section
attribute [local go_sem ↓] Go.wp_at_zero Go.wp_at_succ
theorem Tryz.info155:(Tryz.prog.info? 155).map (λi=>(i.zero,i.size,i.bytes))=some (some .nilFunc,1,8):=by kernel_rfl
abbrev fnV (f1 f2:Nat):Value:= .func (.func 159) #[] #[.pointer (some ⟨f1,0,none⟩),.pointer (some ⟨f2,0,none⟩)]
def DD (W0 w:World) (f:Nat) (t:Tm):Prop:=∃a,w.cell? ⟨f,0,none⟩=some (.bool t.1.1)/\w.cell? ⟨f,1,none⟩=some (.int .i64 t.1.2)/\w.cell? ⟨f,2,none⟩=some a/\cO W0 t.2 a
theorem DD.lt {W0 w:World} {f:Nat} {t:Tm} (h:DD W0 w f t):f<w.heap.size:=World.block_lt_of_cell? _ _ h.choose_spec.1
theorem DD.keep {W0 w w':World} {f:Nat} {t:Tm} (h:DD W0 w f t) (hk:w'.heap[f]?=w.heap[f]?):DD W0 w' f t:=by obtain ⟨a,h0,h1,h2,h3⟩:=h;exact ⟨a,by rw [World.cell?_of_block hk];exact h0,by rw [World.cell?_of_block hk];exact h1,by rw [World.cell?_of_block hk];exact h2,h3⟩
theorem DD.tin {W0 w:World} {f:Nat} {t:Tm} (h:DD W0 w f t) (hb:Below W0.heap.size W0 w):ZK w f 0 t.1 t.2:=by obtain ⟨a,h0,h1,h2,h3⟩:=h;exact ⟨h0,h1,a,h2,h3.below hb⟩
theorem aFT (W0:World) (l:Lt) (a1 d1:Option Addr) (a3 d3:Nat) (w:World) (hA:cO W0 l.2.1.2 (.slice a1 (Fo.len l.2.1.2) a3)) (hD:cO W0 l.2.2.2 (.slice d1 (Fo.len l.2.2.2) d3)):
  Calls Tryz.prog 132 #[.agg #[.bool l.2.1.1.1,.int .i64 l.2.1.1.2,.slice a1 (Fo.len l.2.1.2) a3],.agg #[.bool l.2.2.1.1,.int .i64 l.2.2.1.2,.slice d1 (Fo.len l.2.2.2) d3]] w λe w'=>e= .returned (fnV w.heap.size (w.heap.size+1))/\DD W0 w' w.heap.size l.2.1/\DD W0 w' (w.heap.size+1) l.2.2/\Below w.heap.size w w':=by
 obtain ⟨ln,⟨⟨lv,li⟩,lk⟩,⟨jY,jZ⟩,lk'⟩:=l;simp only at*;have HA:=aB hA;have HD:=aB hD;clear hA hD;go_enter Tryz.func132,Tryz.ntmps132
 go_wp2_with fail
 go_ret;refine ⟨rfl,⟨_,?_,?_,?_,HA.out⟩,⟨_,?_,?_,?_,HD.out⟩,aC (aD _ _) (aD _ _)⟩
 · rw [World.cell?_alloc_lt _ _ _ (by simp)];exact aF rfl
 · rw [World.cell?_alloc_lt _ _ _ (by simp)];exact aF rfl
 · rw [World.cell?_alloc_lt _ _ _ (by simp)];exact aF rfl
 · exact aF (World.size_alloc _ _)
 · exact aF (World.size_alloc _ _)
 · exact aF (World.size_alloc _ _)
structure ZL (W0 w:World) (ws:List Lt) (v:Value) (xs:List Value):Prop where
 row:w.ownsRow W0.heap.size 155 1 v ws.length xs
 el:∀(i:Nat) (wy:Lt),ws[i]?=some wy->∃f1 f2,xs[i]?=some (fnV f1 f2)/\some f1≠v.ownBlock/\some f2≠v.ownBlock/\DD W0 w f1 wy.2.1/\DD W0 w f2 wy.2.2
 b:Below W0.heap.size W0 w
theorem ZL.nil (W0:World):ZL W0 W0 [] (.slice none 0 0) []:=⟨World.ownsRow_nil _ _ _ _,λi s h=>by simp at h,Below.refl _ _⟩
theorem ZL.below {W0 w w':World} {ws:List Lt} {v:Value} {xs:List Value} (h:ZL W0 w ws v xs) (hb:Below w.heap.size w w'):ZL W0 w' ws v xs where
 row:=bA h.row (λg hg=>hb.block g (aJ h.row g hg).2)
 el:=λi wy hi=>by obtain ⟨f1,f2,h1,h2,h3,h4,h5⟩:=h.el i wy hi;exact ⟨f1,f2,h1,h2,h3,h4.keep (hb.block _ h4.lt),h5.keep (hb.block _ h5.lt)⟩
 b:=aC h.b hb
theorem ZL.slice {W0 w:World} {ws:List Lt} {v:Value} {xs:List Value} (h:ZL W0 w ws v xs):∃z1 z3,v= .slice z1 ws.length z3:=by
 rcases h.row.2 with ⟨rfl,e⟩|⟨g,bW,cur,rfl,_⟩
 · exact ⟨none,0,by rw [e]⟩
 · exact ⟨_,bW,rfl⟩
theorem ZL.push {W0 w:World} {ws:List Lt} {v:Value} {xs:List Value} (h:ZL W0 w ws v xs) {wy:Lt} {f1 f2:Nat} {v4:Value} {w3 w4:World} (hb:Below w.heap.size w w3) (hf1:w.heap.size<=f1) (hf2:w.heap.size<=f2)
  (h1:DD W0 w3 f1 wy.2.1) (h2:DD W0 w3 f2 wy.2.2)
  (ho:w4.ownsRow W0.heap.size 155 1 v4 (ws.length+1) (xs++[fnV f1 f2])) (hg:w3.grownBy w4 v.ownBlock) (hat:v4.ownBlock=v.ownBlock\/v4.ownBlock=some w3.heap.size):ZL W0 w4 (ws++[wy]) v4 (xs++[fnV f1 f2]):=by
 have h3:=h.below hb;have hxl:xs.length=ws.length:=by have:=h.row.1;omega
 have hown:∀q,v.ownBlock=some q->q<w.heap.size:=λq hq=>(aJ h.row q hq).2;have ne:∀f,f<w3.heap.size->some f≠v.ownBlock->some f≠v4.ownBlock:=λf hf hn e=>by
  rcases hat with e'|e'
  · exact hn (e.trans e')
  · rw [e'] at e;simp at e;omega
 have n1:some f1≠v.ownBlock:=λe=>by have:=hown f1 e.symm;omega
 have n2:some f2≠v.ownBlock:=λe=>by have:=hown f2 e.symm;omega
 refine ⟨by rw [List.length_append];exact ho,λi d hd=>?_,⟨hg.os.trans h3.b.os,hg.tape.trans h3.b.tape,hg.output.trans h3.b.output,by have:=hg.size;have:=h3.b.size;omega,λq hq=>?_⟩⟩
 · by_cases hi:i<ws.length
   · rw [List.getElem?_append_left hi] at hd;obtain ⟨g1,g2,k1,k2,k3,k4,k5⟩:=h3.el i d hd;exact ⟨g1,g2,by rw [List.getElem?_append_left (by omega)];exact k1,ne _ k4.lt k2,ne _ k5.lt k3,k4.keep (hg.block _ k4.lt k2),k5.keep (hg.block _ k5.lt k3)⟩
   · have hil:=(List.getElem?_eq_some_iff.1 hd).1;simp only [List.length_append,List.length_cons,List.length_nil] at hil;have hie:i=ws.length:=by omega
     subst hie;rw [List.getElem?_append_right (Nat.le_refl _),Nat.sub_self] at hd;simp only [List.getElem?_cons_zero,Option.some.injEq] at hd;subst hd;refine ⟨f1,f2,?_,ne _ h1.lt n1,ne _ h2.lt n2,h1.keep (hg.block _ h1.lt n1),h2.keep (hg.block _ h2.lt n2)⟩;rw [List.getElem?_append_right (by omega),hxl,Nat.sub_self];rfl
 · have hqv:some q≠v.ownBlock:=λe=>by have:=aJ h.row q e.symm;omega
   have:=h3.b.size;rw [hg.block q (by omega) hqv,h3.b.block q hq]
def IE (w:World) (ws:List Lt) (v:Value):Prop:=
 ∃(a:Option Addr) (k b o:Nat),v= .slice a ws.length k/\(0<ws.length->a=some ⟨b,o,none⟩)/\ws.length<=k/\k<=maxLen/\∀i wy,ws[i]?=some wy->∃f1 f2,w.cell? ⟨b,o+i,none⟩=some (fnV f1 f2)/\ZK w f1 0 wy.2.1.1 wy.2.1.2/\ZK w f2 0 wy.2.2.1 wy.2.2.2
theorem IE.below {w w':World} (hb:Below w.heap.size w w') {ws:List Lt} {v:Value} (h:IE w ws v):IE w' ws v:=by obtain ⟨a,k,b,o,h1,h2,h3,h4,h5⟩:=h;refine ⟨a,k,b,o,h1,h2,h3,h4,λi s hs=>?_⟩;obtain ⟨f1,f2,k1,k2,k3⟩:=h5 i s hs;exact ⟨f1,f2,aA hb _ _ k1,k2.below hb,k3.below hb⟩
theorem ZL.by {W0 w:World} {ws:List Lt} {v:Value} {xs:List Value} (h:ZL W0 w ws v xs):IE w ws v:=by
 have hcells:=λg hg=>h.row.cells (g:=g) hg;rcases h.row.2 with ⟨e,h0⟩|⟨g,bW,cur,e,_,_,hn,hm,_,_⟩
 · have:ws=[]:=List.length_eq_zero_iff.1 h0;rw [this,e];exact ⟨none,0,0,0,rfl,λh=>by simp at h,Nat.le_refl _,Nat.zero_le _,λi s h=>by simp at h⟩
 · refine ⟨some ⟨g,0,none⟩,bW,g,0,e,λ_=>rfl,hn,hm,λi c hc=>?_⟩;obtain ⟨f1,f2,h1,_,_,h4,h5⟩:=h.el i c hc;refine ⟨f1,f2,?_,h4.tin h.b,h5.tin h.b⟩;have:=hcells g (by rw [e];rfl) i _ h1;rw [add_plain] at this;exact this
def FE (w:Lt):List Lt:=if uN w=true then [] else [w]
def byK (u:Lt) (k:Nat):List Lt:=(if 0<k then FE u else [])++(if 1<k then FE (aL true u) else [])
theorem aJ6 {u:Lt} {k:Nat} (hk:k<2):byK u (k+1)=byK u k++FE (aL (decide (k=1)) u):=by
 obtain rfl|rfl:k=0\/k=1:=by omega
 · simp [byK];rfl
 · simp [byK]
theorem aJP {u v:Lt}:[u,v].filter (λw=>!uN w)=FE u++FE v:=by cases h1:uN u<;>cases h2:uN v<;>simp [FE,h1,h2]
theorem aJ5 {us:List Lt} {j:Nat} {u:Lt} (h:us[j]?=some u):TL (us.take (j+1))=TL (us.take j)++byK u 2:=by unfold TL;rw [List.take_add_one,h,List.flatMap_append];congr 1;rw [Option.toList_some,List.flatMap_cons,List.flatMap_nil,List.append_nil,aJP];rfl
theorem aSE {w:World} {x:Value} {T:TypeId} (hx:x.oneCell'=true):Cs (w.alloc (.cells #[x] T)) (.slice (some ⟨w.heap.size,0,none⟩) 1 1) 1 1 [x]:=
 ⟨_,1,rfl,rfl,by simpa using hx,λe=>by (cases e),λad hh j u hj=>by cases hh;exact World.news_of_block (cs:=#[x]) (heap_alloc_new w _) j u hj⟩
theorem M4 {us:List Lt} {s:List Int} (mZ:TM s us) (h8:us.length<=120) (uv:Value) (w:World) (hC:mD w (us.map λu=>[u]) uv) (hpos:∀u∈us,u.1=false):
  Calls Tryz.prog 97 #[uv] w λe w'=>∃v,e= .returned v/\IE w' (TL us) v/\Below w.heap.size w w':=by
 obtain ⟨ua,uc,ub,uo,rfl,aN7,aN3,ZV,hUF⟩:=hC;unfold maxLen at ZV;have HUF:=aB hUF;have HU:=aB mZ;have HP:=aB hpos;rw [List.length_map] at*;clear hUF mZ hpos;obtain ⟨iS,hi,hz0,hz1,hz2⟩:=info_parts Tryz.info155;have HiS:=aB (And.intro hi (And.intro hz0 (And.intro hz1 hz2)));clear hi hz0 hz1 hz2;go_enter Tryz.func97,Tryz.ntmps97
 go_wp2_with fail
 go_loopw [3,10] (λv i wr=>∃(j:Nat) (ws:List Lt) (z1:Option Addr) (z3:Nat) (xs:List Value),j<=us.length/\i= .int .i64 j/\v= .slice z1 ws.length z3/\ZL w wr ws (.slice z1 ws.length z3) xs/\ws=TL (us.take j)/\ws.length<=2*j) (λ_ i _=>us.length - (intOf i).toNat)
 case atStart=>exact ⟨0,[],none,0,[],Nat.zero_le _,rfl,rfl,ZL.nil w,rfl,Nat.le_refl _⟩
 case round=>
  obtain ⟨j,ws,z1,z3,xs,hj,rfl,rfl,hL,hws,hwl⟩:=hrel;have HL:=aB hL;have Hws:=aB hws;have hBr:=hL.b;clear hL hws;by_cases hjl:j<us.length
  · have aOI:(j:Int)<(us.length:Int):=by omega
    obtain ⟨u,hu⟩:∃u,us[j]?=some u:=⟨us[j]'hjl,by simp⟩;have Hum:=aB (HU.out u (List.mem_of_getElem? hu));have Hup:=aB (HP.out u (List.mem_of_getElem? hu));have uD:=aB (aJ5 hu);obtain ⟨cv,c0,hcv⟩:=HUF.out j [u] (by rw [List.getElem?_map,hu];rfl);replace c0:=aA hBr _ _ c0;have NF:=aB (N8 [u] cv wr (hcv.below hBr));obtain ⟨ca,cc,cb,co,rfl,had,hlc,hcm,hF⟩:=hcv;have hca:ca=some ⟨cb,co,none⟩:=had (by simp);subst hca;obtain ⟨p0,p1,p2,⟨u3,p3,hA⟩,p4,p5,u6,p6,hD⟩:=hF.at (i:=0) (l:=u) rfl;simp only [Nat.zero_mul,Nat.add_zero] at p0 p1 p2 p3 p4 p5 p6;replace p0:=aA hBr _ _ p0;replace p1:=aA hBr _ _ p1;replace p2:=aA hBr _ _ p2;replace p3:=aA hBr _ _ p3;replace p4:=aA hBr _ _ p4;replace p5:=aA hBr _ _ p5;replace p6:=aA hBr _ _ p6;have HA:=aB hA;have HD:=aB hD;have aPB:=aB (λ(kk:Nat) (hk:kk<2)=>aHV hk hA hD);obtain ⟨ya,yc,_,_,rfl,-,-,-,-⟩:=hA;obtain ⟨za,zc,_,_,rfl,-,-,-,-⟩:=hD;have ZG:ua=some ⟨ub,uo,none⟩:=aN7 (by omega);subst ZG;have Hu1:Hid (nV [u]=true):=by rw [Hid,nV,Hup.out];rfl
    rw [Hu1.out] at NF;have Hbw:=aB (λ(w':World)=>CL u ya za (Fo.len u.2.1.2) yc (Fo.len u.2.2.2) zc w');have xM:=aB hBr;have HFw:=aB hF;clear hu had hF aN7 hBr;obtain ⟨un,⟨⟨uv,ui⟩,uk⟩,⟨⟨uv',ui'⟩,uk'⟩⟩:=u;unfold maxLen at hcm;simp only [List.length_singleton] at*
    go_wp2_with fail
    refine NF.out.mono ?_;rintro e w1 ⟨rfl,rfl⟩
    go_wp2_with fail
    refine (Hbw.out _).mono ?_;rintro e w2 ⟨rfl,hb2⟩;have HL2:=aB (HL.out.below hb2);clear hb2 p0 p1 p2 p3 p4 p5 p6 c0
    go_wp2_with fail
    go_loopw [3,21] (λv i wr=>∃(kk:Nat) (vs:List Lt) (z1:Option Addr) (z3:Nat) (xs:List Value),kk<=2/\i= .int .i64 kk/\v= .slice z1 vs.length z3/\ZL w wr vs (.slice z1 vs.length z3) xs/\vs=ws++byK (un,((uv,ui),uk),((uv',ui'),uk')) kk/\vs.length<=2*j+kk) (λ_ i _=>2 - (intOf i).toNat)
    case atStart=>exact ⟨0,ws,z1,z3,xs,by omega,rfl,rfl,HL2.out,by simp [byK],by omega⟩
    case round=>
     obtain ⟨kk,vs,y1,y3,ys,hkk,rfl,rfl,hL,hvs,hvl⟩:=hrel;have HLk:=aB hL;have Hvs:=aB hvs;have GV:=aB hL.b;clear hL hvs;by_cases hkl:kk<2
     · have hkl':(kk:Int)<2:=by omega
       have hk0:(0:Int)<=(kk:Int):=by omega
       obtain ⟨b1,b3,e1,e3,hSA,hSD,hrun⟩:=aPB.out kk hkl;have Hnk:=aB (aJ6 (u:=(un,((uv,ui),uk),((uv',ui'),uk'))) hkl);have Hsm:=aB (GZ (u:=(un,((uv,ui),uk),((uv',ui'),uk'))) (decide (kk=1)) Hum.out);generalize aL (decide (kk=1)) (un,((uv,ui),uk),((uv',ui'),uk'))=ty at*;obtain ⟨tn,⟨⟨tv,ti⟩,tk⟩,⟨⟨tv',oO⟩,nT⟩⟩:=ty;simp only at hSA hSD hrun Hsm Hnk;have hrun':=hrun wr;have HSA:=aB hSA;have HSD:=aB hSD;clear hSA hSD hrun
       go_upto_region 9 with fail
       generalize fA:wr.alloc (.cells #[.bool tn,.bool tv,.int .i64 ti,.slice b1 (Fo.len tk) b3,.bool tv',.int .i64 oO,.slice e1 (Fo.len nT) e3] 86)=wa;obtain ⟨g0,g1,g2,g3,g4,g5,g6,-,bZ,hsa⟩:=dS (T:=86) (w:=wr) (wr:=wa) (x0:= .bool tn) (x1:= .bool tv) (x2:= .int .i64 ti) (x3:= .slice b1 (Fo.len tk) b3) (x4:= .bool tv') (x5:= .int .i64 oO) (x6:= .slice e1 (Fo.len nT) e3) (by rw [←fA];exact Below.refl _ _);have HLa:=aB (HLk.out.below bZ);have Hhv:=aB (YJ (tn,((tv,ti),tk),((tv',oO),nT)) b1 e1 b3 e3 wa (HSA.out.below HLa.out.b) (HSD.out.below HLa.out.b) (by have:=Hsm.out.1.lw.sz;simp only [eO] at this;omega) (by have:=Hsm.out.2.lw.sz;simp only [eO] at this;omega));generalize wr.heap.size=gx at*;clear fA bZ hrun';simp only at Hhv
       go_wp2_with fail
       refine Hhv.out.mono ?_;rintro e w3 ⟨rfl,hb3⟩;replace g1:=aA hb3 _ _ g1;replace g2:=aA hb3 _ _ g2;replace g3:=aA hb3 _ _ g3;replace g4:=aA hb3 _ _ g4;replace g5:=aA hb3 _ _ g5;replace g6:=aA hb3 _ _ g6;have HL3:=aB (HLa.out.below hb3);clear hb3 g0;cases hnv:uN (tn,((tv,ti),tk),((tv',oO),nT))
       · have CR:Hid (vs++[(tn,((tv,ti),tk),((tv',oO),nT))]=ws++byK (un,((uv,ui),uk),((uv',ui'),uk')) (kk+1)):=by
          rw [Hid,Hnk.out,Hvs.out,FE,if_neg (by simp [hnv]),List.append_assoc]
         have Hfr:=aB (aFT w (tn,((tv,ti),tk),((tv',oO),nT)) b1 e1 b3 e3 w3 HSA.out HSD.out);simp only at Hfr;clear hnv
         go_wp2_with fail
         refine Hfr.out.mono ?_;rintro e w4 ⟨rfl,hx1,hx2,hb4⟩;have aKQ:=aD w4 (.cells #[fnV w3.heap.size (w3.heap.size+1)] 155);have aON:=aC hb4 aKQ;have HL4:=aB (HL3.out.below aON);have hlo:=HL4.out.b.size;obtain ⟨hi,hz0,hz1,hz2⟩:=HiS.out;have hn1:vs.length+1<=maxLen:=by unfold maxLen;omega
         have hn2:(vs.length+1)*8<=140737488355328:=by omega
         have aSJ:=aB (λ(v5:Value) (w5:World) (ho:w5.ownsRow w.heap.size 155 1 v5 (vs.length+1) (ys++[fnV w3.heap.size (w3.heap.size+1)])) (hg:(w4.alloc (.cells #[fnV w3.heap.size (w3.heap.size+1)] 155)).grownBy w5 (Value.slice y1 vs.length y3).ownBlock) (hat:v5.ownBlock=(Value.slice y1 vs.length y3).ownBlock\/v5.ownBlock=some (w4.alloc (.cells #[fnV w3.heap.size (w3.heap.size+1)] 155)).heap.size)=>HL3.out.push (wy:=(tn,((tv,ti),tk),((tv',oO),nT))) aON (Nat.le_refl _) (by omega) (hx1.keep (aKQ.block _ hx1.lt)) (hx2.keep (aKQ.block _ hx2.lt)) ho hg hat);clear hx1 hx2 hb4 aKQ aON g1 g2 g3 g4 g5 g6
         go_wp2_with (at_builtin;refine bX rfl (.tmp 29) (.tmp 35) 126 rfl w.heap.size 155 iS .nilFunc 1 8 Tryz.underlying126 hi hz0 hz1 hz2 rfl (by decide) (.slice y1 vs.length y3) vs.length ys rfl HL4.out.row _ 1 [fnV w3.heap.size (w3.heap.size+1)] rfl (aSE rfl) hn1 hn2 hlo ?_;intro v5 w5 ho5 hg5 aTY)
         have hP:=aSJ.out v5 w5 ho5 hg5 aTY;obtain ⟨u1,u3,hv5⟩:=hP.slice;subst hv5;go_roundw
         case rel=>exact ⟨kk+1,vs++[(tn,((tv,ti),tk),((tv',oO),nT))],u1,u3,_,by omega,by go_num,rfl,hP,CR.out,by rw [List.length_append,List.length_singleton];omega⟩
         case measure=>simp [intOf];omega
       · have CR:Hid (vs=ws++byK (un,((uv,ui),uk),((uv',ui'),uk')) (kk+1)):=by
          rw [Hid,Hnk.out,FE,if_pos (by simp [hnv]),List.append_nil];exact Hvs.out
         clear hnv g1 g2 g3 g4 g5 g6
         go_wp2_with fail
         go_roundw
         case rel=>exact ⟨kk+1,vs,y1,y3,ys,by omega,by go_num,rfl,HL3.out,CR.out,by omega⟩
         case measure=>simp [intOf];omega
     · have hk2:kk=2:=by omega
       subst hk2;have Hn:Hid (vs=TL (us.take (j+1))):=by rw [Hid,uD.out,←Hws.out,Hvs.out]
       go_wp2_with fail
       go_roundw
       case rel=>exact ⟨j+1,vs,y1,y3,ys,by omega,by go_num,rfl,HLk.out,Hn.out,by omega⟩
       case measure=>simp [intOf];omega
  · have lK:j=us.length:=by omega
    have Hf:Hid (IE wr (TL us) (.slice z1 ws.length z3)):=by have h:=HL.out.by;have e:=Hws.out;rw [lK,List.take_length] at e;rw [e] at h ⊢;exact h
    clear aN7
    go_wp2_with fail
    go_ret;exact ⟨_,rfl,Hf.out,hBr⟩
end
def WL (w:World):Fo->Nat->Nat->List Nat->Prop
 | .nil,_,_,L=>L=[]
 | .node _ _ x k r,b,o,L=>w.cell? ⟨b,o,none⟩=some (.bool x.1)/\w.cell? ⟨b,o+1,none⟩=some (.int .i64 x.2)/\
  w.frozen? ⟨b,o,none⟩=false/\w.frozen? ⟨b,o+1,none⟩=false/\w.frozen? ⟨b,o+2,none⟩=false/\
  (∃(g:Nat) (a:Value) (Lk Lr:List Nat),L=Lk++Lr/\w.cell? ⟨b,o+2,none⟩=some a/\
   ((k= .nil/\a= .slice none 0 0/\Lk=[])\/(∃L':List Nat,Lk=g::L'/\0<Fo.len k/\Fo.len k<=1000/\a= .slice (some ⟨g,0,none⟩) (Fo.len k) (Fo.len k)/\WL w k g 0 L'))/\
   WL w r b (o+3) Lr)
abbrev one (t:Tm):Fo:= .node 0 0 t.1 t.2 .nil
theorem WL.lt {w:World}:∀{F:Fo} {b o:Nat} {L:List Nat},WL w F b o L->∀q∈L,q<w.heap.size
 | .nil,_,_,_,h,q,hq=>by rw [WL] at h;subst h;cases hq
 | .node _ _ x k r,b,o,L,⟨_,_,_,_,_,g,a,Lk,Lr,e,_,h3,h4⟩,q,hq=>by
  subst e;rcases List.mem_append.1 hq with hq|hq
  · rcases h3 with ⟨_,_,rfl⟩|⟨L',rfl,h0,_,_,hk⟩
    · cases hq
    · rcases List.mem_cons.1 hq with rfl|hq
      · match k,h0,hk with
        | .node _ _ _ _ _,_,hk=>exact World.block_lt_of_cell? _ _ hk.1
      · exact hk.lt q hq
  · exact h4.lt q hq
theorem WL.toF {w:World}:∀{F:Fo} {b o:Nat} {L:List Nat},WL w F b o L->uL w F b o
 | .nil,_,_,_,_=>trivial
 | .node _ _ x k r,b,o,L,⟨h0,h1,_,_,_,g,a,_,_,_,h2,h3,h4⟩=>by
  refine uL.mk h0 h1 h2 ?_ h4.toF;rcases h3 with ⟨rfl,rfl,_⟩|⟨_,_,_,hl,rfl,hk⟩
  · exact ⟨none,0,0,0,rfl,λh=>by simp [Fo.len] at h,Nat.le_refl _,Nat.zero_le _,trivial⟩
  · exact ⟨_,_,g,0,rfl,λ_=>rfl,Nat.le_refl _,by unfold maxLen;omega,hk.toF⟩
theorem WL.frame {w w':World}:∀{F:Fo} {b o:Nat} {L:List Nat},WL w F b o L->
  (∀i,o<=i->i<o+3*Fo.len F->w'.cell? ⟨b,i,none⟩=w.cell? ⟨b,i,none⟩/\w'.frozen? ⟨b,i,none⟩=w.frozen? ⟨b,i,none⟩)->
  (∀q∈L,∀i,w'.cell? ⟨q,i,none⟩=w.cell? ⟨q,i,none⟩/\w'.frozen? ⟨q,i,none⟩=w.frozen? ⟨q,i,none⟩)->WL w' F b o L
 | .nil,_,_,_,h,_,_=>h
 | .node _ _ x k r,b,o,L,⟨h0,h1,f0,f1,f2,g,a,Lk,Lr,e,h2,h3,h4⟩,hc,hr=>by
  have c0:=hc o (by omega) (by simp only [Fo.len];omega);have c1:=hc (o+1) (by omega) (by simp only [Fo.len];omega);have c2:=hc (o+2) (by omega) (by simp only [Fo.len];omega);subst e;refine ⟨c0.1.trans h0,c1.1.trans h1,c0.2.trans f0,c1.2.trans f1,c2.2.trans f2,g,a,Lk,Lr,rfl,c2.1.trans h2,?_,?_⟩
  · rcases h3 with h3|⟨L',rfl,e3,e4,e5,hk⟩
    · exact .inl h3
    · exact .inr ⟨L',rfl,e3,e4,e5,hk.frame (λi _ _=>hr g (by simp) i) (λq hq i=>hr q (by simp [hq]) i)⟩
  · exact h4.frame (λi i1 i2=>hc i (by omega) (by simp only [Fo.len];omega)) (λq hq i=>hr q (by simp [hq]) i)
theorem xK.toL {w:World}:∀{F:Fo} {b o lo hi:Nat},xK w F b o lo hi->∃L,WL w F b o L/\L.Nodup/\∀q∈L,lo<=q/\q<hi
 | .nil,_,_,_,_,_=>⟨[],rfl,List.nodup_nil,λ_ h=>by cases h⟩
 | .node _ _ x k r,b,o,lo,hi,⟨h0,h1,f0,f1,f2,m,g,a,hm1,hm2,h2,h3,h4⟩=>by
  obtain ⟨Lr,r1,r2,r3⟩:=xK.toL h4;rcases h3 with ⟨e1,e2⟩|⟨e1,e2,e3,e4,e5,hk⟩
  · exact ⟨Lr,⟨h0,h1,f0,f1,f2,g,a,[],Lr,rfl,h2,.inl ⟨e1,e2,rfl⟩,r1⟩,r2,λq hq=>by have:=r3 q hq;omega⟩
  · obtain ⟨Lk,k1,k2,k3⟩:=xK.toL hk;refine ⟨(g::Lk)++Lr,⟨h0,h1,f0,f1,f2,g,a,g::Lk,Lr,rfl,h2,.inr ⟨Lk,rfl,e3,e4,e5,k1⟩,r1⟩,?_,λq hq=>?_⟩
    · rw [List.nodup_append];refine ⟨List.nodup_cons.2 ⟨λh=>by have:=k3 g h;omega,k2⟩,r2,λp hp q hq e=>?_⟩;subst e;have:=r3 p hq;rcases List.mem_cons.1 hp with rfl|hp
      · omega
      · have:=k3 p hp;omega
    · rcases List.mem_append.1 hq with hq|hq
      · rcases List.mem_cons.1 hq with rfl|hq
        · omega
        · have:=k3 q hq;omega
      · have:=r3 q hq;omega
theorem dK.toL {w:World} {lo hi b o:Nat} {t:Tm} {a:Value} (h:dK w lo hi t.2 a) (h0:w.cell? ⟨b,o,none⟩=some (.bool t.1.1)) (h1:w.cell? ⟨b,o+1,none⟩=some (.int .i64 t.1.2)) (h2:w.cell? ⟨b,o+2,none⟩=some a)
  (f0:w.frozen? ⟨b,o,none⟩=false) (f1:w.frozen? ⟨b,o+1,none⟩=false) (f2:w.frozen? ⟨b,o+2,none⟩=false):∃L,WL w (one t) b o L/\L.Nodup/\∀q∈L,lo<=q/\q<hi:=by
 rcases h with ⟨e1,e2⟩|⟨g,e1,e2,e3,e4,e5,hk⟩
 · exact ⟨[],⟨h0,h1,f0,f1,f2,0,a,[],[],rfl,h2,.inl ⟨e1,e2,rfl⟩,rfl⟩,List.nodup_nil,λ_ h=>by cases h⟩
 · obtain ⟨Lk,k1,k2,k3⟩:=hk.toL;refine ⟨g::Lk,⟨h0,h1,f0,f1,f2,g,a,g::Lk,[],by simp,h2,.inr ⟨Lk,rfl,e3,e4,e5,k1⟩,rfl⟩,List.nodup_cons.2 ⟨λh=>by have:=k3 g h;omega,k2⟩,λq hq=>?_⟩;rcases List.mem_cons.1 hq with rfl|hq
   · omega
   · have:=k3 q hq;omega
theorem WL.child {w:World}:∀{F:Fo} {b o i:Nat} {L:List Nat} {y:Tm},WL w F b o L->F.list[i]?=some y->∃L1 L2 L3,L=L1++(L2++L3)/\WL w (one y) b (o+3*i) L2/\
  ∀(w':World) (t:Tm) (NE:List Nat),(∀j,o<=j->j<o+3*Fo.len F->(j<o+3*i\/o+3*i+3<=j)->w'.cell? ⟨b,j,none⟩=w.cell? ⟨b,j,none⟩/\w'.frozen? ⟨b,j,none⟩=w.frozen? ⟨b,j,none⟩)->
   (∀q,q∈L1\/q∈L3->∀j,w'.cell? ⟨q,j,none⟩=w.cell? ⟨q,j,none⟩/\w'.frozen? ⟨q,j,none⟩=w.frozen? ⟨q,j,none⟩)->WL w' (one t) b (o+3*i) NE->WL w' (fF F i λ_=>t) b o (L1++(NE++L3))
 | .nil,_,_,_,_,_,_,h=>by simp [Fo.list] at h
 | .node p q x k r,b,o,0,L,y,⟨h0,h1,f0,f1,f2,g,a,Lk,Lr,e,h2,h3,h4⟩,hy=>by simp only [Fo.list,List.getElem?_cons_zero,Option.some.injEq] at hy;subst hy;refine ⟨[],Lk,Lr,by simpa using e,⟨h0,h1,f0,f1,f2,g,a,Lk,[],by simp,h2,h3,rfl⟩,λw' t NE hc hr ht=>?_⟩;obtain ⟨t0,t1,z0,z1,z2,g',a',Lk',Lr',e',t2,t3,t4⟩:=ht;rw [WL] at t4;subst t4;rw [List.append_nil] at e';subst e';refine ⟨t0,t1,z0,z1,z2,g',a',NE,Lr,by simp,t2,t3,h4.frame (λj j1 j2=>hc j (by omega) (by simp only [Fo.len];omega) (by omega)) (λq hq j=>hr q (.inr hq) j)⟩
 | .node p q x k r,b,o,i+1,L,y,⟨h0,h1,f0,f1,f2,g,a,Lk,Lr,e,h2,h3,h4⟩,hy=>by
  simp only [Fo.list,List.getElem?_cons_succ] at hy;obtain ⟨L1,L2,L3,e2,k1,k2⟩:=WL.child h4 hy;have eo:o+3+3*i=o+3*(i+1):=by omega
  rw [eo] at k1 k2;subst e2;refine ⟨Lk++L1,L2,L3,by rw [e,List.append_assoc],k1,λw' t NE hc hr ht=>?_⟩;have c0:=hc o (by omega) (by simp only [Fo.len];omega) (by omega);have c1:=hc (o+1) (by omega) (by simp only [Fo.len];omega) (by omega);have c2:=hc (o+2) (by omega) (by simp only [Fo.len];omega) (by omega);refine ⟨c0.1.trans h0,c1.1.trans h1,c0.2.trans f0,c1.2.trans f1,c2.2.trans f2,g,a,Lk,L1++(NE++L3),by rw [List.append_assoc],c2.1.trans h2,?_,?_⟩
  · rcases h3 with h3|⟨L',rfl,e3,e4,e5,hk⟩
    · exact .inl h3
    · exact .inr ⟨L',rfl,e3,e4,e5,hk.frame (λj _ _=>hr g (.inl (by simp)) j) (λq hq j=>hr q (.inl (by simp [hq])) j)⟩
  · exact k2 w' t NE (λj j1 j2 j3=>hc j (by omega) (by simp only [Fo.len];omega) j3) (λq hq j=>hr q (hq.imp (λh=>by simp [h]) id) j) ht
structure ZQ (b o:Nat) (L:List Nat) (w w':World):Prop where
 os:w'.os=w.os
 tape:w'.tape=w.tape
 output:w'.output=w.output
 size:w.heap.size<=w'.heap.size
 blk:∀q,q<w.heap.size->q≠b->q∉L->w'.heap[q]?=w.heap[q]?
 cel:∀i,(i<o\/o+3<=i)->w'.cell? ⟨b,i,none⟩=w.cell? ⟨b,i,none⟩
 frz:∀q i,q<w.heap.size->w'.frozen? ⟨q,i,none⟩=w.frozen? ⟨q,i,none⟩
theorem ZQ.below {b o B:Nat} {L:List Nat} {w w':World} (h:ZQ b o L w w') (hB:B<=w.heap.size) (hb:B<=b) (hL:∀q∈L,B<=q):Below B w w':=
 ⟨h.os,h.tape,h.output,h.size,λq hq=>h.blk q (by omega) (by omega) (λhm=>by have:=hL q hm;omega)⟩
theorem ZQ.pre {b o:Nat} {L:List Nat} {w w1 w':World} (hb:Below w.heap.size w w1) (hbl:b<w.heap.size) (h:ZQ b o L w1 w'):ZQ b o L w w' where
 os:=h.os.trans hb.os
 tape:=h.tape.trans hb.tape
 output:=h.output.trans hb.output
 size:=Nat.le_trans hb.size h.size
 blk:=λq hq h1 h2=>(h.blk q (Nat.lt_of_lt_of_le hq hb.size) h1 h2).trans (hb.block q hq)
 cel:=λi hi=>(h.cel i hi).trans (hb.cell hbl)
 frz:=λq i hq=>(h.frz q i (Nat.lt_of_lt_of_le hq hb.size)).trans (hb.frozen hq)
theorem aM7 {b o:Nat} {w:World} {x y z:Value}:ZQ b o [] w (set3 w b o x y z) where
 os:=rfl
 tape:=rfl
 output:=rfl
 size:=by rw [bQ];exact Nat.le_refl _
 blk:=λq _ hq _=>by unfold set3;rw [Below.heap_setCell _ _ _ _ (λe=>hq e),Below.heap_setCell _ _ _ _ (λe=>hq e),Below.heap_setCell _ _ _ _ (λe=>hq e)]
 cel:=λi hi=>aS (.inr hi)
 frz:=λq i _=>aQ
theorem ZQ.wide {b o:Nat} {L L':List Nat} {w w':World} (h:ZQ b o L w w') (hL:∀q∈L,q∈L'):ZQ b o L' w w':=
 ⟨h.os,h.tape,h.output,h.size,λq hq h1 h2=>h.blk q hq h1 (λhm=>h2 (hL q hm)),h.cel,h.frz⟩
theorem ZQ.up {b o g j:Nat} {L L':List Nat} {w w':World} (h:ZQ g j L w w') (hL:∀q∈L,q∈L') (hg:g∈L') (hb:b<w.heap.size) (hbg:b≠g) (hbL:b∉L):ZQ b o L' w w':=
 ⟨h.os,h.tape,h.output,h.size,λq hq _ h2=>h.blk q hq (λe=>h2 (e▸hg)) (λhm=>h2 (hL q hm)),λ_ _=>World.cell?_of_block (h.blk b hb hbg hbL),h.frz⟩
def SS (us:List Lt) (t:Tm) (b o:Nat) (L:List Nat) (w:World) (e:Ending) (w':World):Prop:=
 (iB us t=none/\e= .returned (.bool false)/\Below w.heap.size w w')\/
 ∃t',iB us t=some t'/\e= .returned (.bool true)/\∃L',WL w' (one t') b o L'/\(b::L').Nodup/\(∀q∈L',q∈L\/w.heap.size<=q)/\ZQ b o L w w'
theorem VN {us:List Lt} {t y:Tm}:∀{k:Fo} {i:Nat},(∀i',i'<i->∀z,k.list[i']?=some z->iB us z=none)->k.list[i]?=some y->iB us y=some t->vF us k=some (fF k i λ_=>t)
 | .nil,_,_,h,_=>by simp [Fo.list] at h
 | .node p q x k r,0,_,h,ht=>by simp only [Fo.list,List.getElem?_cons_zero,Option.some.injEq] at h;subst h;unfold vF;rw [ht];rfl
 | .node p q x k r,i+1,hn,h,ht=>by have h0:=hn 0 (by omega) (x,k) (by simp [Fo.list]);have ih:=VN (k:=r) (i:=i) (λi' hi z hz=>hn (i'+1) (by omega) z (by simpa [Fo.list] using hz)) (by simpa [Fo.list] using h) ht;unfold vF;rw [h0,ih];rfl
theorem VL {us:List Lt}:∀{k:Fo},(∀(i':Nat) (z:Tm),k.list[i']?=some z->iB us z=none)->vF us k=none
 | .nil,_=>rfl
 | .node p q x k r,hn=>by have h0:=hn 0 (x,k) (by simp [Fo.list]);have ih:=VL (k:=r) (λi' z hz=>hn (i'+1) z (by simpa [Fo.list] using hz));unfold vF;rw [h0,ih];rfl
section
attribute [local go_sem ↓] Go.wp_at_zero Go.wp_at_succ
theorem aLC {z:Tm} {ws:List Lt} {i:Nat} {wy:Lt} (h:ws[i]?=some wy):xO z (ws.drop i)=match rH z wy with
  |some r=>some r
  |none=>xO z (ws.drop (i+1)):=by
 obtain ⟨hi,e⟩:=List.getElem?_eq_some_iff.1 h;rw [List.drop_eq_getElem_cons hi,e];rfl
theorem aQC {s:List Int} {us:List Lt} (mZ:TM s us):∀w∈TL us,(Sm s w.2.1/\Sm s w.2.2)/\uN w=false:=λw hw=>by
 unfold TL at hw;obtain ⟨u,hu,hw⟩:=List.mem_flatMap.1 hw;rw [List.mem_filter] at hw;obtain ⟨h1,h2⟩:=hw;refine ⟨?_,by simpa using h2⟩;simp only [List.mem_cons,List.not_mem_nil,or_false] at h1;rcases h1 with rfl|rfl
 · exact mZ _ hu
 · exact GZ true (mZ _ hu)
theorem Sm.arg {s:List Int} {n:Int} {k:Fo} {i:Nat} {y:Tm} (h:Sm s ((false,n),k)) (h6:s.length<=6) (hy:k.list[i]?=some y):Sm s y:=by
 have hl:(i:Int)<(Fo.len k:Int):=by have:=(List.getElem?_eq_some_iff.1 hy).1;rw [Fo.len_list] at this;omega
 exact h.at h6 (p:=[(i:Int)]) ((pV (y:=y) rfl (by omega) (by simpa using hy) hl).trans rfl)
theorem WL.below {w w':World} (hb:Below w.heap.size w w') {F:Fo} {b o:Nat} {L:List Nat} (h:WL w F b o L):WL w' F b o L:=by
 match F,h with
 | .nil,h=>exact h
 | .node p q x k r,h=>have hlt:b<w.heap.size:=World.block_lt_of_cell? _ _ h.1;exact h.frame (λi _ _=>⟨hb.cell hlt,hb.frozen hlt⟩) (λq hq i=>⟨hb.cell (h.lt q hq),hb.frozen (h.lt q hq)⟩)
theorem aMH {n:Int} {k:Fo} {i:Nat} {y:Tm} {b o g:Nat} {L':List Nat} {w:World} (hW:WL w (one ((false,n),k)) b o (g::L')) (hk:WL w k g 0 L') (h0:0<Fo.len k) (h1:Fo.len k<=1000) (hc:w.cell? ⟨b,o+2,none⟩=some (.slice (some ⟨g,0,none⟩) (Fo.len k) (Fo.len k)))
  (hnd:(b::g::L').Nodup) (hy:k.list[i]?=some y):∃L2,WL w (one y) g (0+3*i) L2/\(g::L2).Nodup/\∀(t:Tm) (w':World) (NE:List Nat),WL w' (one t) g (0+3*i) NE->(g::NE).Nodup->(∀q∈NE,q∈L2\/w.heap.size<=q)->ZQ g (0+3*i) L2 w w'->
   ∃L'',WL w' (one ((false,n),fF k i λ_=>t)) b o L''/\(b::L'').Nodup/\(∀q∈L'',q∈g::L'\/w.heap.size<=q)/\ZQ b o (g::L') w w':=by
 obtain ⟨L1,L2,L3,e,h2,h3⟩:=hk.child hy;subst e;have hlt:=hW.lt;have hbl:b<w.heap.size:=World.block_lt_of_cell? _ _ hW.1;have hgl:g<w.heap.size:=hlt g (by simp);have n1:=List.nodup_cons.1 hnd;have n2:=List.nodup_cons.1 n1.2;have n3:=List.nodup_append.1 n2.2;have n4:=List.nodup_append.1 n3.2.1;have hbg:b≠g:=λh=>n1.1 (by simp [h]);have hb1:b∉L1:=λh=>n1.1 (by simp [h]);have hb2:b∉L2:=λh=>n1.1 (by simp [h]);have hb3:b∉L3:=λh=>n1.1 (by simp [h]);have hg1:g∉L1:=λh=>n2.1 (by simp [h]);have hg2:g∉L2:=λh=>n2.1 (by simp [h]);have hg3:g∉L3:=λh=>n2.1 (by simp [h]);have l1:∀q∈L1,q<w.heap.size:=λq hq=>hlt q (by simp [hq]);have l3:∀q∈L3,q<w.heap.size:=λq hq=>hlt q (by simp [hq]);have d12:∀q∈L1,q∉L2:=λq h1 h2=>n3.2.2 q h1 q (by simp [h2]) rfl;have d13:∀q∈L1,q∉L3:=λq h1 h2=>n3.2.2 q h1 q (by simp [h2]) rfl;have d23:∀q∈L2,q∉L3:=λq h1 h2=>n4.2.2 q h1 q h2 rfl;refine ⟨L2,h2,List.nodup_cons.2 ⟨hg2,n4.1⟩,λt w' NE ht hnd' hm hC=>?_⟩;obtain ⟨m1,m2⟩:=List.nodup_cons.1 hnd';have kept:∀q,q<w.heap.size->q≠g->q∉L2->∀j,w'.cell? ⟨q,j,none⟩=w.cell? ⟨q,j,none⟩/\w'.frozen? ⟨q,j,none⟩=w.frozen? ⟨q,j,none⟩:=λq hq e1 e2 j=>⟨World.cell?_of_block (hC.blk q hq e1 e2),hC.frz q j hq⟩;have hF:=h3 w' t NE (λj _ _ hj=>⟨hC.cel j hj,hC.frz g j hgl⟩) (λq hq j=>by
  rcases hq with hq|hq
  · exact kept q (l1 q hq) (λe=>hg1 (e▸hq)) (d12 q hq) j
  · exact kept q (l3 q hq) (λe=>hg3 (e▸hq)) (λh=>d23 q h hq) j) ht
 have hkb:=kept b hbl hbg hb2;obtain ⟨w0,w1,z0,z1,z2,_⟩:=hW;have r1:∀q∈NE,q∉L1:=λq hq h=>by
  rcases hm q hq with h2|h2
  · exact d12 q h h2
  · have:=l1 q h;omega
 have r3:∀q∈NE,q∉L3:=λq hq h=>by
  rcases hm q hq with h2|h2
  · exact d23 q h2 h
  · have:=l3 q h;omega
 have rb:b∉NE:=λh=>by
  rcases hm b h with h2|h2
  · exact hb2 h2
  · omega
 refine ⟨g::(L1++(NE++L3)),⟨(hkb o).1.trans w0,(hkb (o+1)).1.trans w1,(hkb o).2.trans z0,(hkb (o+1)).2.trans z1,(hkb (o+2)).2.trans z2,g,_,g::(L1++(NE++L3)),[],by simp,(hkb (o+2)).1.trans hc,.inr ⟨_,rfl,by rw [mO];exact h0,by rw [mO];exact h1,by rw [mO],hF⟩,rfl⟩,?_,?_,?_⟩
 · refine List.nodup_cons.2 ⟨?_,List.nodup_cons.2 ⟨?_,List.nodup_append.2 ⟨n3.1,List.nodup_append.2 ⟨m2,n4.2.1,λp hp q hq e=>r3 p hp (e▸hq)⟩,λp hp q hq e=>?_⟩⟩⟩
   · simp only [List.mem_cons,List.mem_append,not_or];exact ⟨hbg,hb1,rb,hb3⟩
   · simp only [List.mem_append,not_or];exact ⟨hg1,m1,hg3⟩
   · subst e;rcases List.mem_append.1 hq with hq|hq
     · exact r1 p hq hp
     · exact d13 p hp hq
 · intro q hq;simp only [List.mem_cons,List.mem_append] at hq ⊢;rcases hq with h|h|h|h
   · exact .inl (.inl h)
   · exact .inl (.inr (.inl h))
   · rcases hm q h with h|h
     · exact .inl (.inr (.inr (.inl h)))
     · exact .inr h
   · exact .inl (.inr (.inr (.inr h)))
 · exact hC.up (λq hq=>by simp [hq]) (by simp) hbl hbg hb2
def aDL (s:List Int) (us:List Lt) (x:Bool×Int) (k:Fo):Prop:=∀(b o:Nat) (L:List Nat) (bv:Value) (w:World),WL w (one (x,k)) b o L->(b::L).Nodup->Sm s (x,k)->IE w (TL us) bv->
 Calls Tryz.prog 133 #[.pointer (some ⟨b,o,none⟩),bv] w (SS us (x,k) b o L w)
theorem aBK {s:List Int} (h6:s.length<=6) {us:List Lt} (mZ:TM s us) (x:Bool×Int) (k:Fo):aDL s us x k:=by
 refine Fo.ind1 (p:=aDL s us) ?_ x k;clear x k;intro x k ih b o L bv w hW hnd hsm H9;have HI:=aB ih;have HW:=aB hW;have Hnd:=aB hnd;have Hsm:=aB hsm;have HBy:=aB H9;have HU:=aB mZ;obtain ⟨ba,bc,bb,bo,rfl,hbad,aVY,aTW,hbel⟩:=H9;unfold maxLen at aTW;have aU3:=aB hbel;obtain ⟨q0,q1,z0,z1,z2,g,av,Lk,Lr,e,q2,hk,hr⟩:=hW;rw [WL] at hr;subst hr;rw [List.append_nil] at e;subst e;clear ih hnd mZ hbel;obtain ⟨xv,xi⟩:=x;simp only at q0 q1;cases xv
 · have hav:∃a1 a3,av= .slice a1 (Fo.len k) a3/\Fo.len k<=a3/\a3<=1000:=by
    rcases hk with ⟨rfl,rfl,_⟩|⟨_,_,h1,h2,rfl,_⟩
    · exact ⟨none,0,rfl,Nat.le_refl _,by omega⟩
    · exact ⟨_,_,rfl,Nat.le_refl _,h2⟩
   obtain ⟨a1,a3,rfl,hal,ham⟩:=hav;have HK:=aB hk;have HQ2:=aB q2;clear hk;have hblt:b<w.heap.size:=World.block_lt_of_cell? _ _ q0;go_enter Tryz.func133,Tryz.ntmps133
   go_wp2_with fail
   generalize hbl:TL us=ws at*
   go_loopw [16] (λi wr=>∃j:Nat,j<=ws.length/\i= .int .i64 j/\nW ((false,xi),k) us=xO ((false,xi),k) (ws.drop j)/\Below w.heap.size w wr) (λi _=>ws.length - (intOf i).toNat)
   case atStart=>exact ⟨0,Nat.zero_le _,rfl,by rw [List.drop_zero,←hbl,aCJ],Below.refl _ _⟩
   case round=>
    obtain ⟨j,hj,rfl,htr,hBr⟩:=hrel;have Htr:=aB htr;have xM:=aB hBr;have hbr:=hBr.size;clear htr;have p0:=aA hBr _ _ q0;have p1:=aA hBr _ _ q1;have p2:=aA hBr _ _ q2;have f0:=(hBr.frozen (p:=⟨b,o,none⟩) hblt).trans z0;have f1:=(hBr.frozen (p:=⟨b,o+1,none⟩) hblt).trans z1;have f2:=(hBr.frozen (p:=⟨b,o+2,none⟩) hblt).trans z2;by_cases hjl:j<ws.length
    · have aOI:(j:Int)<(ws.length:Int):=by omega
      obtain ⟨wy,hwy⟩:∃wy,ws[j]?=some wy:=⟨ws[j]'hjl,by simp⟩;have Htj:=aB (aLC (z:=((false,xi),k)) hwy);have hwm:wy∈TL us:=by rw [hbl];exact List.mem_of_getElem? hwy
      have Hwo:=aB (aQC HU.out wy hwm);obtain ⟨f1',f2',e0,e1,e2⟩:=aU3.out j wy hwy;replace e0:=aA hBr _ _ e0;have bZ:ba=some ⟨bb,bo,none⟩:=hbad (by omega);subst bZ;have HS:Hid (cO wr k (.slice a1 (Fo.len k) a3)):=by have h:=HW.out.toF.node.2.2.1;obtain ⟨v,h1,h2⟩:=h;rw [q2] at h1;cases h1;exact h2.below hBr
      have Hfc:=aB (YM wy ((false,xi),k) f1' f2' (.slice a1 (Fo.len k) a3) wr Hwo.out.1 Hwo.out.2 Hsm.out (e1.below hBr) (e2.below hBr) HS.out);simp only at Hfc;clear hwy hbad e1 e2 hwm hBr q0 q1 q2 z0 z1 z2
      go_wp2_with fail
      refine Hfc.out.mono ?_;rintro e w1 ⟨⟨⟨rv,ri⟩,rk⟩,r1,r3,ok,rfl,hty,hO,hb1⟩;replace p0:=aA hb1 _ _ p0;replace p1:=aA hb1 _ _ p1;replace p2:=aA hb1 _ _ p2;replace f0:=(hb1.frozen (p:=⟨b,o,none⟩) (by show b<_;omega)).trans f0;replace f1:=(hb1.frozen (p:=⟨b,o+1,none⟩) (by show b<_;omega)).trans f1;replace f2:=(hb1.frozen (p:=⟨b,o+2,none⟩) (by show b<_;omega)).trans f2;have HO:=aB hO;have HB1:=aB (aC xM.out hb1);have hs1:=hb1.size;simp only at*;clear hO e0 hb1;cases ok
      · have Hn:Hid (nW ((false,xi),k) us=xO ((false,xi),k) (ws.drop (j+1))):=by rw [Hid,Htr.out,Htj.out,hty];rfl
        clear hty
        go_wp2_with fail
        go_roundw
        case rel=>exact ⟨j+1,by omega,by go_num,Hn.out,aC HB1.out (aD _ _)⟩
        case measure=>simp [intOf];omega
      · have Hy:Hid (nW ((false,xi),k) us=some ((rv,ri),rk)):=by rw [Hid,Htr.out,Htj.out,hty];rfl
        clear hty
        go_upto_region 8 with fail
        generalize fA:w1.alloc (.cells #[.bool rv,.int .i64 ri,.slice r1 (Fo.len rk) r3] 84)=wa;have bZ:Below w1.heap.size w1 wa:=by rw [←fA];exact aD _ _
        have l0:wa.cell? ⟨w1.heap.size,0,none⟩=some (.bool rv):=by rw [←fA];exact aF rfl
        have l1:wa.cell? ⟨w1.heap.size,1,none⟩=some (.int .i64 ri):=by rw [←fA];exact aF rfl
        have l2:wa.cell? ⟨w1.heap.size,2,none⟩=some (.slice r1 (Fo.len rk) r3):=by rw [←fA];exact aF rfl
        replace p0:=aA bZ _ _ p0;replace p1:=aA bZ _ _ p1;replace p2:=aA bZ _ _ p2;replace f0:=(bZ.frozen (p:=⟨b,o,none⟩) (by show b<_;omega)).trans f0;replace f1:=(bZ.frozen (p:=⟨b,o+1,none⟩) (by show b<_;omega)).trans f1;replace f2:=(bZ.frozen (p:=⟨b,o+2,none⟩) (by show b<_;omega)).trans f2;have xV:=aB bZ;have HBa:=aB (aC HB1.out bZ);have aHK:Hid (SS us ((false,xi),k) b o L w (.returned (.bool true)) (set3 wa b o (.bool rv) (.int .i64 ri) (.slice r1 (Fo.len rk) r3))):=by obtain ⟨t0,t1,t2⟩:=kJ (x:= .bool rv) (y:= .int .i64 ri) (z:= .slice r1 (Fo.len rk) r3) p0 p1 p2;have hO2:dK (set3 wa b o (.bool rv) (.int .i64 ri) (.slice r1 (Fo.len rk) r3)) wr.heap.size w1.heap.size rk (.slice r1 (Fo.len rk) r3):=HO.out.frame λq i q1 q2=>⟨(aS (.inl (by omega))).trans (bZ.cell q2),aQ.trans (bZ.frozen q2)⟩;obtain ⟨L',k1,k2,k3⟩:=dK.toL (t:=((rv,ri),rk)) hO2 t0 t1 t2 (aQ.trans f0) (aQ.trans f1) (aQ.trans f2);refine .inr ⟨((rv,ri),rk),by rw [D7,Hy.out],rfl,L',k1,List.nodup_cons.2 ⟨λh=>by have:=k3 b h;omega,k2⟩,λq hq=> .inr (by have:=k3 q hq;omega),?_⟩;exact (aM7.pre HBa.out hblt).wide (λq hq=>by cases hq)
        clear fA bZ hsm
        go_wp2_with fail
        go_ret;exact aHK.out
    · have Hno:Hid (nW ((false,xi),k) us=none):=by
       rw [Hid,Htr.out,List.drop_eq_nil_iff.2 (by omega)];rfl
      clear q0 q1 q2 z0 z1 z2 hbad hBr;have aWH:=aB (HBy.out.below xM.out)
      go_wp2_with fail
      clear p0 p1 p2 f0 f1 f2;generalize wr=wo at*
      go_loopw [38] (λi wr=>∃q:Nat,q<=Fo.len k/\i= .int .i64 q/\(∀i',i'<q->∀z,k.list[i']?=some z->iB us z=none)/\Below w.heap.size w wr) (λi _=>Fo.len k - (intOf i).toNat)
      case atStart=>exact ⟨0,Nat.zero_le _,rfl,λi' hi'=>by omega,xM.out⟩
      case round=>
       obtain ⟨q,hq,rfl,hnn,hBq⟩:=hrel;have ZN:=aB hnn;have HBq:=aB hBq;clear hnn;by_cases hql:q<Fo.len k
       · have aQP:(q:Int)<(Fo.len k:Int):=by omega
         obtain ⟨L',rfl,hk0,hk1,hae,hkW⟩:∃L',L=g::L'/\0<Fo.len k/\Fo.len k<=1000/\Value.slice a1 (Fo.len k) a3= .slice (some ⟨g,0,none⟩) (Fo.len k) (Fo.len k)/\WL w k g 0 L':=by
          rcases HK.out with ⟨h,_⟩|h
          · rw [h] at hql;simp [Fo.len] at hql
          · exact h
         simp only [Value.slice.injEq,true_and] at hae;obtain ⟨rfl,rfl⟩:=hae;obtain ⟨⟨⟨yv,yi⟩,yk⟩,hy⟩:∃y,k.list[q]?=some y:=⟨k.list[q]'(by rw [Fo.len_list];exact hql),by simp⟩;have aQM:=Hsm.out.arg h6 hy;have ZP:=aB (λ(t:Tm) (h:iB us ((yv,yi),yk)=some t)=>VN (us:=us) (k:=k) (i:=q) ZN.out hy h);obtain ⟨L2,hw2,aQT,hass⟩:=aMH HW.out hkW hk0 hk1 HQ2.out Hnd.out hy;rw [show 0+3*q=q*3 by omega] at hw2 hass;have aU4:=aB hass;have aOK:g<w.heap.size:=HW.out.lt g (by simp);have mF:=aB (HI.out ((yv,yi),yk) (List.mem_of_getElem? hy) g (q*3) L2 _ wr (hw2.below hBq) aQT aQM (by rw [hbl];exact HBy.out.below hBq));have p2:=aA hBq _ _ HQ2.out;have p0:=aA hBq _ _ HW.out.1;have p1:=aA hBq _ _ HW.out.2.1;have Hyn:Hid (iB us ((yv,yi),yk)=none->∀i',i'<q+1->∀z,k.list[i']?=some z->iB us z=none):=λh i' hi' z hz=>by
          by_cases e:i'=q
          · subst e;rw [hy] at hz;cases hz;exact h
          · exact ZN.out i' (by omega) z hz
         simp only at mF p0 p1;clear hass hw2 aQT hy hkW hBq aQM hsm
         go_wp2_with fail
         refine mF.out.mono ?_;rintro e w2 (⟨hst,rfl,hb2⟩|⟨t',hst,rfl,NE,hw',hnd',hmem,hch⟩)
         · have Hn:=aB (Hyn.out hst);have HB2:=aB (aC HBq.out hb2);clear hst hb2
           go_wp2_with fail
           go_roundw
           case rel=>exact ⟨q+1,by omega,by go_num,Hn.out,HB2.out⟩
           case measure=>simp [intOf];omega
         · have aHK:Hid (SS us ((false,xi),k) b o (g::L') w (.returned (.bool true)) w2):=by
            have hs:=HBq.out.size;obtain ⟨L'',k1,k2,k3,k4⟩:=aU4.out t' w2 NE hw' hnd' (λp hp=>(hmem p hp).imp id (λh=>by omega)) (hch.pre HBq.out aOK);refine .inr ⟨((false,xi),fF k q λ_=>t'),?_,rfl,L'',k1,k2,k3,k4⟩;rw [D7,Hno.out];simp only;rw [ZP.out _ hst];rfl
           clear hst hw' hnd' hmem hch
           go_wp2_with fail
           go_ret;exact aHK.out
       · have hqe:q=Fo.len k:=by omega
         have FH:Hid (iB us ((false,xi),k)=none):=by rw [Hid,D7,Hno.out];simp only;rw [VL (λi' z hz=>ZN.out i' (by have:=(List.getElem?_eq_some_iff.1 hz).1;rw [Fo.len_list] at this;omega) z hz)];rfl
         clear hBq
         go_wp2_with fail
         go_ret;exact .inl ⟨FH.out,rfl,HBq.out⟩
 · go_enter Tryz.func133,Tryz.ntmps133
   go_wp2_with fail
   go_ret;exact .inl ⟨aET,rfl,Below.refl _ _⟩
end
section
attribute [local go_sem ↓] Go.wp_at_zero Go.wp_at_succ
theorem WL.toB {w:World} {X:Nat->Prop}:∀{F:Fo} {b o:Nat} {L:List Nat},(∀q∈L,X q)->WL w F b o L->zN X w F b o
 | .nil,_,_,_,_,_=>trivial
 | .node _ _ x k r,b,o,L,hX,⟨h0,h1,_,_,_,g,a,Lk,Lr,e,h2,h3,h4⟩=>by
  subst e;refine zN.mk h0 h1 h2 ?_ (WL.toB (λq hq=>hX q (by simp [hq])) h4);rcases h3 with ⟨rfl,rfl,_⟩|⟨L',rfl,_,hl,rfl,hk⟩
  · exact SB.nil X w
  · exact ⟨_,_,g,0,rfl,λ_=>⟨rfl,hX g (by simp)⟩,Nat.le_refl _,by unfold maxLen;omega,WL.toB (λq hq=>hX q (by simp [hq])) hk⟩
theorem WL.sb {w:World} {X:Nat->Prop} {t:Tm} {b o:Nat} {L:List Nat} (hX:∀q∈L,X q) (h:WL w (one t) b o L):∃a1 a3,w.cell? ⟨b,o+2,none⟩=some (.slice a1 (Fo.len t.2) a3)/\SB X w t.2 (.slice a1 (Fo.len t.2) a3):=by
 obtain ⟨_,_,_,_,_,g,a,Lk,Lr,e,h2,h3,h4⟩:=h;subst e;rcases h3 with ⟨e1,rfl,_⟩|⟨L',rfl,_,hl,rfl,hk⟩
 · refine ⟨none,0,?_,?_⟩
   · rw [h2,e1];rfl
   · rw [e1];exact SB.nil X w
 · exact ⟨_,_,h2,⟨_,_,g,0,rfl,λ_=>⟨rfl,hX g (by simp)⟩,Nat.le_refl _,by unfold maxLen;omega,WL.toB (λq hq=>hX q (by simp [hq])) hk⟩⟩
theorem JL {t:Tm} (h:gN t):aH (aV []) t=t:=oZ h
def KO (us:List Lt) (t:Tm) (w:World) (e:Ending) (w':World):Prop:=∃(a1:Option Addr) (a3:Nat),e= .returned (.agg #[.bool (dV us t).1.1,.int .i64 (dV us t).1.2,.slice a1 (Fo.len (dV us t).2) a3])/\SB (New w w') w' (dV us t).2 (.slice a1 (Fo.len (dV us t).2) a3)/\Below w.heap.size w w'
theorem aF5 {s:List Int} (h6:s.length<=6) {us:List Lt} (mZ:TM s us) (x:Bool×Int) (k:Fo) (a bv:Value) (w:World) (hS:cO w k a) (hsm:Sm s (x,k)) (H9:IE w (TL us) bv):
  Calls Tryz.prog 98 #[.agg #[.bool x.1,.int .i64 x.2,a],bv] w (KO us (x,k) w):=by
 obtain ⟨xv,xi⟩:=x;have HS:=aB hS;have Hsm:=aB hsm;have HBy:=aB H9;have HU:=aB mZ;obtain ⟨ad,c,_,_,rfl,-,-,-,-⟩:=hS;obtain ⟨ba,bc,bb,bo,rfl,-,-,-,-⟩:=H9;clear hsm mZ;go_enter Tryz.func98,Tryz.ntmps98
 go_wp2_with fail
 generalize hW2:(w.alloc (.cells #[.bool xv,.int .i64 xi,.slice ad (Fo.len k) c] 84)).alloc (.cells #[.bool false,.int .i64 0,.slice none 0 0] 84)=W2;have hB2:Below w.heap.size w W2:=by rw [←hW2];exact (aD _ _).alloc (by simp) _
 have hs2:W2.heap.size=w.heap.size+1+1:=by rw [←hW2];simp
 have r0:W2.cell? ⟨w.heap.size+1,0,none⟩=some (.bool false):=by rw [←hW2];exact aF (World.size_alloc _ _)
 have r1:W2.cell? ⟨w.heap.size+1,1,none⟩=some (.int .i64 0):=by rw [←hW2];exact aF (World.size_alloc _ _)
 have r2:W2.cell? ⟨w.heap.size+1,2,none⟩=some (.slice none 0 0):=by rw [←hW2];exact aF (World.size_alloc _ _)
 have rf:∀i,W2.frozen? ⟨w.heap.size+1,i,none⟩=false:=λi=>by rw [←hW2];exact bL (World.size_alloc _ _)
 have HR:=aB (And.intro r0 (And.intro r1 (And.intro r2 rf)));have HB2:=aB hB2;clear hW2 r0 r1 r2 rf hB2;refine (nJ [] _ (xv,xi) k _ W2 (dZ.nil _) (λp hp=>by cases hp) (HS.out.below HB2.out) Hsm.out.lw.gd.nar).mono ?_;rintro e w1 ⟨a',rfl,hO,hb1⟩;rw [JL Hsm.out.lw.gd.ok] at hO ⊢;obtain ⟨x1,x3,_,_,rfl,-,-,-,-⟩:=hO.toS;simp only at*
 go_upto_region 2 with fail
 generalize fA:w1.alloc (.cells #[.bool xv,.int .i64 xi,.slice x1 (Fo.len k) x3] 84)=wa;have bZ:Below w1.heap.size w1 wa:=by rw [←fA];exact aD _ _
 have hsa:wa.heap.size=w1.heap.size+1:=by rw [←fA];simp
 have hs1:=hb1.size;have hst:∃L,WL wa (one ((xv,xi),k)) w1.heap.size 0 L/\L.Nodup/\∀q∈L,W2.heap.size<=q/\q<w1.heap.size:=by
  refine dK.toL (t:=((xv,xi),k)) (hO.frame λq i _ q2=>⟨bZ.cell q2,bZ.frozen q2⟩) ?_ ?_ ?_ ?_ ?_ ?_
  · rw [←fA];exact aF rfl
  · rw [←fA];exact aF rfl
  · rw [←fA];exact aF rfl
  · rw [←fA];exact bL rfl
  · rw [←fA];exact bL rfl
  · rw [←fA];exact bL rfl
 obtain ⟨L0,hL0,aQU,hlo0⟩:=hst;have HBa:=aB (aC HB2.out (aC hb1 bZ));have aU8:=aB (aC hb1 bZ);have HL0:=aB (And.intro hL0 (And.intro (List.nodup_cons.2 ⟨λh=>by have:=hlo0 _ h;omega,aQU⟩:(w1.heap.size::L0).Nodup) (λq (hq:q∈L0)=>(hlo0 q hq).1)));have aTX:W2.heap.size<=w1.heap.size:=hs1;generalize w1.heap.size=g at*;clear hO hb1 bZ fA hL0 aQU hlo0
 go_loopg [] (Y6 ((xv,xi),k)) (λm wr=>∃(t:Tm) (L:List Nat),WL wr (one t) g 0 L/\(g::L).Nodup/\(∀q∈L,W2.heap.size<=q)/\Sm s t/\dV us t=dV us ((xv,xi),k)/\Y6 t=m/\Below W2.heap.size W2 wr)
 case atStart=>exact ⟨((xv,xi),k),L0,HL0.out.1,HL0.out.2.1,HL0.out.2.2,Hsm.out,rfl,rfl,aU8.out⟩
 case round=>
  obtain ⟨t,L,hWt,hnd,hlo,hst,hdt,hm,hBr⟩:=hrel;have HWt:=aB hWt;have Hlo:=aB hlo;have jP:=aB hst;have Hdt:=aB hdt;have Hm:=aB hm;have xM:=aB hBr;have Hc:=aB (aBK h6 HU.out t.1 t.2 g 0 L _ wr hWt hnd hst (HBy.out.below (HB2.out.trans (hBr.mono (by omega)))));clear hWt hnd hlo hst hdt hm hBr
  go_wp2_with fail
  refine Hc.out.mono ?_;rintro e w2 (⟨hst,rfl,hb2⟩|⟨t',hst,rfl,L',hw',hnd',hmem,hch⟩)
  · have hB2:=aC xM.out hb2;obtain ⟨r0,r1,r2,rf⟩:=HR.out;replace r0:=aA hB2 _ _ r0;replace r1:=aA hB2 _ _ r1;replace r2:=aA hB2 _ _ r2;replace rf:∀i,w2.frozen? ⟨w.heap.size+1,i,none⟩=false:=λi=>(hB2.frozen (by show w.heap.size+1<_;omega)).trans (rf i);have hWf:=HWt.out.below hb2;have hlt:=hWf.lt;obtain ⟨y1,y3,c2,hSB⟩:=hWf.sb (X:=λq=>W2.heap.size<=q/\q<w2.heap.size) (λq hq=>⟨Hlo.out q hq,hlt q hq⟩);have c0:=hWf.1;have c1:=hWf.2.1;have Hd:Hid (dV us ((xv,xi),k)=t):=by rw [Hid,←Hdt.out,nO hst]
    obtain ⟨⟨tv,ti⟩,tk⟩:=t;simp only at c0 c1 c2 hSB;have HSB:=aB hSB;have HBf:=aB (aC HB2.out hB2);have hz2:=hB2.size;clear hWf hlt hSB hst hb2 hB2;simp only [Nat.zero_add] at c0 c1 c2
    go_wp2_with fail
    refine bodyPost_ret (v:= .agg #[.bool tv,.int .i64 ti,.slice y1 (Fo.len tk) y3]) (by simp [results,Tryz.results98,go_sem,r0,r1,r2]) rfl ?_;unfold KO;rw [Hd.out];refine ⟨y1,y3,rfl,?_,aT (b:=w.heap.size+1) (o:=0) HBf.out (by omega)⟩;refine HSB.out.frame (λq hq=>⟨by omega,?_⟩) (λq i hq=>aS (w:=w2) (b:=w.heap.size+1) (o:=0) (.inl (by omega)));have:=hq.2;simp only [World.size_setCell];exact this
  · obtain ⟨_,_,_,_,_,_,_,_,_,ha,hs'⟩:=kI h6 HU.out jP.out hst;have hless:=rU jP.out.lw hs'.lw ha;have Hd:Hid (dV us t'=dV us ((xv,xi),k)):=by rw [Hid,←Hdt.out,tV h6 HU.out jP.out hst]
    have hBs:=xM.out.size;have aVA:=aB (xM.out.trans (hch.below hBs aTX Hlo.out));have aUU:Hid (∀q∈L',W2.heap.size<=q):=λq hq=>by
     rcases hmem q hq with h|h
     · exact Hlo.out q h
     · omega
    have Hw:=aB (And.intro hw' hnd');have Hs':=aB hs';have hm':=Hm.out;clear hst hw' hnd' hmem hch hs' ha
    go_wp2_with fail
    go_roundg (Y6 t')
    case measure=>omega
    case rel=>exact ⟨t',L',Hw.out.1,Hw.out.2,aUU.out,Hs'.out,Hd.out,rfl,aVA.out⟩
end
theorem aM0 {s:List Int} (h6:s.length<=6) {us:List Lt} (mZ:TM s us) {c:Cl} (hc:SmC s c) (h4:c.length<=4):GX (c.map (bK (dV us))):=
by have h:=GC.x ((SI h6 mZ hc).gc (by simpa [qK] using h4));unfold qK at h;exact h
def aAI (us:List Lt) (c:Cl) (w:World) (e:Ending) (w':World):Prop:=∃v,e= .returned (.tuple #[v,.int .i64 (rF us c).1])/\dQ w' (rF us c).2 v/\Below w.heap.size w w'
section
attribute [local go_sem ↓] Go.wp_at_zero Go.wp_at_succ
theorem aF4 {s:List Int} (h6:s.length<=6) {us:List Lt} (mZ:TM s us) {x z:Bool×Int} {k zk:Fo} {a bv:Value} {w:World} (hz:(z,zk)=dV us (x,k)) (hS:cO w k a) (hsm:Sm s (x,k)) (H9:IE w (TL us) bv):
  Calls Tryz.prog 98 #[.agg #[.bool x.1,.int .i64 x.2,a],bv] w λe w'=>∃(a1:Option Addr) (a3:Nat),e= .returned (.agg #[.bool z.1,.int .i64 z.2,.slice a1 (Fo.len zk) a3])/\SB (New w w') w' zk (.slice a1 (Fo.len zk) a3)/\Below w.heap.size w w':=by
 have h:=aF5 h6 mZ x k a bv w hS hsm H9;unfold KO at h;rw [←hz] at h;exact h
theorem aJ4 {w:World} {ws:List Lt} {v:Value} (h:IE w ws v):∃v1 v2 v3,v= .slice v1 v2 v3:=by obtain ⟨v1,v3,_,_,h,-,-,-,-⟩:=h;exact ⟨_,_,_,h⟩
theorem S9 {s:List Int} (h6:s.length<=6) {us:List Lt} (mZ:TM s us) (h8:us.length<=120) (hpos:∀u∈us,u.1=false) (k:Cl) (a uv:Value) (w:World) (hS:dQ w k a) (hC:mD w (us.map λu=>[u]) uv) (hc:SmC s k) (h4:k.length<=4):
  Calls Tryz.prog 59 #[a,uv] w (aAI us k w):=by
 obtain ⟨a1,c1,b1,o1,rfl,eZ,uY,hcm1,hF1⟩:=hS;unfold maxLen at hcm1;have zT:=aB hF1;have Hc:=aB hc;have Hl:=aB (M4 mZ h8 uv w hC hpos);have Hdn:=aB (λ(x z:Bool×Int) (y zk:Fo) (av bv:Value) (w':World) (hz:(z,zk)=dV us (x,y)) (hS:cO w' y av) (hs:Sm s (x,y)) (H9:IE w' (TL us) bv)=>aF4 h6 mZ hz hS hs H9);obtain ⟨nc,hnc⟩:∃nc,nc=rF us k:=⟨_,rfl⟩;have hd:qK us k=k.map (bK (dV us)):=rfl;have Hn:Hid (∀(v:Value) (w1:World),dQ w1 (k.map (bK (dV us))) v->Calls Tryz.prog 48 #[v] w1 λe w'=>∃v,e= .returned (.tuple #[v,.int .i64 nc.1])/\dQ w' nc.2 v/\Below w1.heap.size w1 w'):=by intro v w1 hO;rw [hnc,rF,hd];exact EQ _ _ _ hO (aM0 h6 mZ hc h4)
 unfold aAI;rw [←hnc];obtain ⟨u1,u2,u3,rfl⟩:∃v1 v2 v3,uv= .slice v1 v2 v3:=by obtain ⟨v1,v3,_,_,h,-,-,-,-⟩:=hC;exact ⟨_,_,_,h⟩
 clear hnc hd hF1 hc mZ hpos hC;obtain ⟨iL,hi,hz0,hz1,hz2⟩:=info_parts Tryz.info86;have hmk:=λw:World=>run_make (P:=Tryz.prog) w 44 86 iL _ Tryz.underlying44 hi hz0 .i64 .i64 (k.length:Int) (k.length:Int) (by omega) (by omega) (by rw [hz2];omega) (by omega);rw [hz1] at hmk;simp only [Int.toNat_natCast] at hmk;go_enter Tryz.func59,Tryz.ntmps59
 go_wp2_with fail
 refine Hl.out.mono ?_;rintro e W1 ⟨bv,rfl,H9,hB1⟩;have HBy:=aB H9;have HB1:=aB hB1;obtain ⟨y1,y2,y3,rfl⟩:=aJ4 H9;clear hB1 H9
 go_wp2_with fail
 clear hmk hi hz0 hz1 hz2;have H0:Hid (mE W1.heap.size W1 (k.map (bK (dV us))) 0 (W1.alloc (.cells (madeCells #[.bool false,.bool false,.int .i64 0,.slice none 0 0,.bool false,.int .i64 0,.slice none 0 0] (k.length*7)) 86))):=by have:=KA (W2:=W1) (T:=k.map (bK (dV us))) (z:=#[.bool false,.bool false,.int .i64 0,.slice none 0 0,.bool false,.int .i64 0,.slice none 0 0]);rw [List.length_map] at this;exact this
 go_loopw [17] (λi wr=>∃j:Nat,j<=k.length/\i= .int .i64 j/\mE W1.heap.size W1 (k.map (bK (dV us))) j wr) (λi _=>k.length - (intOf i).toNat)
 case atStart=>exact ⟨0,Nat.zero_le _,rfl,H0.out⟩
 case round=>
  obtain ⟨j,hj,rfl,hR⟩:=hrel;have HR:=aB hR;obtain ⟨hB,hT,hsz,-⟩:=hR;have hBw:Below w.heap.size w wr:=aC HB1.out hB;have aWI:=aB hB;by_cases hlt:j<k.length
  · have hlt':(j:Int)<(k.length:Int):=by omega
    have hj0:(0:Int)<=(j:Int):=by omega
    obtain ⟨⟨yn,⟨⟨yv,yi⟩,yk⟩,⟨bB,bH⟩,aZ⟩,hy⟩:∃y,k[j]?=some y:=⟨k[j]'hlt,by simp⟩;obtain ⟨p0,p1,p2,⟨u3',p3,hA⟩,p4,p5,u6,p6,hD⟩:=(zT.out.below hBw).at hy;have ha1:a1=some ⟨b1,o1,none⟩:=eZ (by omega);subst ha1;have HA:=aB hA;have HD:=aB hD;obtain ⟨ya,yc,_,_,rfl,-,-,-,-⟩:=hA;obtain ⟨za,zc,_,_,rfl,-,-,-,-⟩:=hD;have NH:=aB (Hc.out _ (List.mem_of_getElem? hy));obtain ⟨⟨⟨tv,ti⟩,tk⟩,ht⟩:∃t,t=dV us ((yv,yi),yk):=⟨_,rfl⟩;obtain ⟨⟨⟨tv',oO⟩,nT⟩,ht'⟩:∃t,t=dV us ((bB,bH),aZ):=⟨_,rfl⟩;have Hy2:Hid ((k.map (bK (dV us)))[j]?=some (yn,((tv,ti),tk),((tv',oO),nT))):=by rw [Hid,List.getElem?_map,hy,ht,ht'];rfl
    have hT':qL wr W1.heap.size (k.length*7):=by rw [List.length_map] at hT;exact hT
    have hfz:∀i,i<7->(∃v,wr.cell? ⟨W1.heap.size,j*7+i,none⟩=some v)/\wr.frozen? ⟨W1.heap.size,j*7+i,none⟩=false:=λi hi=>hT' _ (by omega);have yB:=aB hfz;have zR:=aB (λ(w':World) (hb:Below wr.heap.size wr w')=>Hdn.out (yv,yi) (tv,ti) yk tk (.slice ya (Fo.len yk) yc) (.slice y1 y2 y3) w' ht (HA.out.below hb) NH.out.1 (HBy.out.below (aC hB hb)));have cZ:=aB (λ(w':World) (hb:Below wr.heap.size wr w')=>Hdn.out (bB,bH) (tv',oO) aZ nT (.slice za (Fo.len aZ) zc) (.slice y1 y2 y3) w' ht' (HD.out.below hb) NH.out.2 (HBy.out.below (aC hB hb)));clear hy eZ hT hT' ht ht' hfz hB;simp only at*
    go_upto_region 6 with fail
    generalize fA:wr.alloc (.cells #[.bool yn,.bool yv,.int .i64 yi,.slice ya (Fo.len yk) yc,.bool bB,.int .i64 bH,.slice za (Fo.len aZ) zc] 86)=wa;obtain ⟨g0,g1,g2,g3,g4,g5,g6,-,bZ,hsa⟩:=dS (T:=86) (x0:= .bool yn) (w:=wr) (wr:=wa) (x1:= .bool yv) (x2:= .int .i64 yi) (x3:= .slice ya (Fo.len yk) yc) (x4:= .bool bB) (x5:= .int .i64 bH) (x6:= .slice za (Fo.len aZ) zc) (by rw [←fA];exact Below.refl _ _);clear fA;have aG:Below wa.heap.size wa wa.drew:=(Below.refl _ _).drew;clear p0 p1 p2 p3 p4 p5 p6;have hgz:W1.heap.size<wr.heap.size:=by omega
    have hne:wr.heap.size≠W1.heap.size:=by omega
    go_region_held3 (λw'=>w'.cell? ⟨wr.heap.size,0,none⟩=some (.bool yn)/\w'.cell? ⟨wr.heap.size,1,none⟩=some (.bool yv)/\w'.cell? ⟨wr.heap.size,2,none⟩=some (.int .i64 yi)/\w'.cell? ⟨wr.heap.size,3,none⟩=some (.slice ya (Fo.len yk) yc)/\w'.cell? ⟨wr.heap.size,4,none⟩=some (.bool bB)/\w'.cell? ⟨wr.heap.size,5,none⟩=some (.int .i64 bH)/\w'.cell? ⟨wr.heap.size,6,none⟩=some (.slice za (Fo.len aZ) zc))
     (first
       |(with_reducible exact ⟨aA aG _ _ g0,aA aG _ _ g1,aA aG _ _ g2,aA aG _ _ g3,aA aG _ _ g4,aA aG _ _ g5,aA aG _ _ g6⟩)
       |(with_reducible exact ⟨fH hne (aA aG _ _ g0),fH hne (aA aG _ _ g1),fH hne (aA aG _ _ g2),fH hne (aA aG _ _ g3),fH hne (aA aG _ _ g4),fH hne (aA aG _ _ g5),fH hne (aA aG _ _ g6)⟩)
       |go_keep)
     (first
       |(go_at_call 98;with_reducible refine (zR.out _ (aC bZ aG)).mono ?_;rintro e wS ⟨z1,z3,rfl,QF,hbS⟩;replace aG:=aC aG hbS;have IB:=aB (And.intro QF hbS);clear QF)
       |(go_at_call 98;with_reducible refine (cZ.out _ (aC bZ aG)).mono ?_;rintro e wU ⟨x1,x3,rfl,hO2,xZ⟩;have qJ:=aG;replace aG:=aC aG xZ;have GU:=aB (And.intro hO2 xZ);clear hO2;have hall:=aC bZ aG;obtain ⟨⟨t0,e0⟩,f0⟩:=yB.out 0 (by omega);obtain ⟨⟨t1,e1⟩,f1⟩:=yB.out 1 (by omega);obtain ⟨⟨t2,e2⟩,f2⟩:=yB.out 2 (by omega);obtain ⟨⟨t3,e3⟩,f3⟩:=yB.out 3 (by omega);obtain ⟨⟨t4,e4⟩,f4⟩:=yB.out 4 (by omega);obtain ⟨⟨t5,e5⟩,f5⟩:=yB.out 5 (by omega);obtain ⟨⟨t6,e6⟩,f6⟩:=yB.out 6 (by omega);replace e0:=aA hall _ _ e0;replace e1:=aA hall _ _ e1;replace e2:=aA hall _ _ e2;replace e3:=aA hall _ _ e3;replace e4:=aA hall _ _ e4;replace e5:=aA hall _ _ e5;replace e6:=aA hall _ _ e6;replace f0:=(hall.frozen hgz).trans f0;replace f1:=(hall.frozen hgz).trans f1;replace f2:=(hall.frozen hgz).trans f2;replace f3:=(hall.frozen hgz).trans f3;replace f4:=(hall.frozen hgz).trans f4;replace f5:=(hall.frozen hgz).trans f5;replace f6:=(hall.frozen hgz).trans f6;simp only [Nat.add_zero] at e0 f0))
    all_goals
     have fQ:Hid (mE W1.heap.size W1 (k.map (bK (dV us))) (j+1) (mW wU W1.heap.size (j*7) (jT (yn,((tv,ti),tk),((tv',oO),nT)) (.slice z1 (Fo.len tk) z3) (.slice x1 (Fo.len nT) x3)))):=by
      have s1:=bZ.size;have s2:=qJ.size;have s3:=IB.out.2.size;have s4:=GU.out.2.size;refine R9 HR.out Hy2.out (aC bZ aG) ?_ ?_
      · refine IB.out.1.frame (λq hq=>⟨?_,?_⟩) (λq i hq=>GU.out.2.cell ?_)
        · have q1':wa.heap.size<=q:=hq.1;omega
        · have s4':wS.heap.size<=wU.heap.size:=s4;have:=hq.2;omega
        · exact hq.2
      · refine GU.out.1.frame (λq hq=>⟨?_,hq.2⟩) (λ_ _ _=>rfl);have q1':wS.heap.size<=q:=hq.1;omega
     go_wp2_with fail
     go_roundw
     case rel=>exact ⟨j+1,by omega,by go_num,fQ.out⟩
     case measure=>simp [intOf];omega
  · have lK:j=k.length:=by omega
    subst lK;have bP:Hid (dQ wr (k.map (bK (dV us))) (.slice (some ⟨W1.heap.size,0,none⟩) k.length k.length)):=by have:=HR.out;rw [show mE W1.heap.size W1 (k.map (bK (dV us))) k.length wr=mE W1.heap.size W1 (k.map (bK (dV us))) (k.map (bK (dV us))).length wr by rw [List.length_map]] at this;have:=aAD this (by rw [List.length_map];unfold maxLen;omega);rw [List.length_map] at this;exact this
    have Hn1:=aB (Hn.out _ _ bP.out);have HBw:=aB hBw;clear eZ hT hB hBw Hn
    go_wp2_with fail
    with_reducible refine Hn1.out.mono ?_
    rintro e w2 ⟨v2,rfl,hC2,hb2⟩;have HC2:=aB hC2;obtain ⟨q1,q3,rfl⟩:=aK hC2;have HB2:=aB (aC HBw.out hb2);clear hC2 hb2
    go_wp2_with fail
    go_ret2;exact ⟨_,rfl,HC2.out,HB2.out⟩
end
end Go.Proofs.YtoklbpbmghbhnaeGreat
