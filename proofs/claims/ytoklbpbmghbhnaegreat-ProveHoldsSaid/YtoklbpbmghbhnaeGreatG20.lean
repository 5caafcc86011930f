import Derived.Test.YtoklbpbmghbhnaeGreatG19
import Derived.BigQuiet
import Derived.Lib.AppendZeros
namespace Go.Proofs.YtoklbpbmghbhnaeGreat
set_option maxRecDepth 100000
set_option maxHeartbeats 8000000
open Go.RowKit Go.Deep Go.ChangeShapes Go.WideShapes
section
attribute [local go_sem ↓] Go.wp_at_zero Go.wp_at_succ
structure NxS (lo:Nat) (w:World) (L:List Sb) (v:Value) (xs:List Value):Prop where
 row:w.ownsRow lo 90 1 v L.length xs
 sl:∀g,v.ownBlock=some g->SlR w g
 el:∀(i:Nat) (s:Sb),L[i]?=some s->∃sv,xs[i]?=some sv/\dZ w s sv
theorem NxS.nil (lo:Nat) (w:World):NxS lo w [] (.slice none 0 0) []:=⟨World.ownsRow_nil _ _ _ _,λg hg=>by simp [Value.ownBlock] at hg,λi s h=>by simp at h⟩
theorem NxS.slice {lo:Nat} {w:World} {L:List Sb} {v:Value} {xs:List Value} (h:NxS lo w L v xs):∃z1 z3,v= .slice z1 L.length z3:=by
 rcases h.row.2 with ⟨rfl,e⟩|⟨g,bW,cur,rfl,_⟩
 · exact ⟨none,0,by rw [e]⟩
 · exact ⟨_,bW,rfl⟩
end
section
attribute [local go_sem ↓] Go.wp_at_zero Go.wp_at_succ
def GG (d:Cl):Cl->Sb->Bool
 |[],_=>true
 |x::c,s=>(aO4 x d s).any (GG d c)
theorem XE {d:Cl}:∀{c:Cl} {now:List Sb},(!(aG0 d c now).isEmpty)=now.any (GG d c)
 |[],now=>by
  cases now with
  |nil=>rfl
  |cons s l=>simp [aG0,GG]
 |x::c,now=>by rw [aG0,XE (c:=c),List.any_flatMap];rfl
theorem aM3 {c d:Cl}:yH c d=GG d c []:=by unfold yH;rw [XE];simp
def QL (d c:Cl) (x:Lt) (s:Sb) (y:Lt):Bool:=((sP x y s).toList++(sP x (aL true y) s).toList).any (GG d c)
def uX (d c:Cl) (x:Lt) (s:Sb) (y:Lt):Bool:=match sP x y s with
 |some s'=>GG d c s'
 |none=>false
theorem aMG {d c:Cl} {x:Lt} {s:Sb} {y:Lt}:QL d c x s y=(uX d c x s y||uX d c x s (aL true y)):=by unfold QL uX;rw [List.any_append];cases sP x y s<;>cases sP x (aL true y) s<;>simp
theorem aF7 {d c:Cl} {x:Lt} {s:Sb}:GG d (x::c) s=d.any (QL d c x s):=by rw [GG,aO4,List.any_flatMap];rfl
def aDN (p l:Lt) (s:Sb) (w:World) (e:Ending) (w':World):Prop:=∃(z1:Option Addr) (m z3:Nat) (ok:Bool),e= .returned (.tuple #[.slice z1 m z3,.bool ok])/\(ok=false->sP p l s=none)/\(ok=true->∃s',sP p l s=some s'/\m=s'.length/\dZ w' s' (.slice z1 m z3))/\Below w.heap.size w w'
theorem aMO {t:Tm} (h:Gd t):∀y∈t.2.list,Gd y:=λy hy=>by
 obtain ⟨⟨v,n⟩,k⟩:=t;cases v with
 |true=>rw [h.ok.1 rfl] at hy;simp [Fo.list] at hy
 |false=>exact mH h rfl hy
theorem aAG {t u:Tm} {s s':Sb} (hu:Gd u) (hs:∀p∈s,Gd p.2) (h:iW s t u=some s'):∀p∈s',Gd p.2:=KG (P:=Gd) (λ_=>aMO) hu hs h
theorem aB3 (p l:Lt) (s:Sb) (vs:Value) (a1 d1 b1 e1:Option Addr) (a3 d3 b3 e3:Nat) (w:World) (hV:dZ w s vs) (hs:∀q∈s,Gd q.2) (hA:cO w p.2.1.2 (.slice a1 (Fo.len p.2.1.2) a3)) (hD:cO w p.2.2.2 (.slice d1 (Fo.len p.2.2.2) d3))
  (hB:cO w l.2.1.2 (.slice b1 (Fo.len l.2.1.2) b3)) (hE:cO w l.2.2.2 (.slice e1 (Fo.len l.2.2.2) e3)) (hp:aM p.2.1.2<=12/\aM p.2.2.2<=12) (hl:Gd l.2.1/\Gd l.2.2) (hlen:s.length<=1000):
  Calls Tryz.prog 105 #[vs,uO p (.slice a1 (Fo.len p.2.1.2) a3) (.slice d1 (Fo.len p.2.2.2) d3),uO l (.slice b1 (Fo.len l.2.1.2) b3) (.slice e1 (Fo.len l.2.2.2) e3)] w (aDN p l s w):=by
 obtain ⟨pn,⟨⟨pv,pi⟩,pk⟩,⟨pv',H8⟩,F6⟩:=p;obtain ⟨ln,⟨⟨lv,li⟩,lk⟩,⟨jY,jZ⟩,lk'⟩:=l;simp only at*;have HV:=aB hV;have Hs:=aB hs;have HA:=aB hA;have HD:=aB hD;have HB:=aB hB;have HE:=aB hE;obtain ⟨v1,v3,rfl⟩:=gG hV;clear hA hD hB hE hs hV;go_enter Tryz.func105,Tryz.ntmps105
 go_upto_region 1 with fail
 generalize hW1:(w.alloc (.cells #[.bool pn,.bool pv,.int .i64 pi,.slice a1 (Fo.len pk) a3,.bool pv',.int .i64 H8,.slice d1 (Fo.len F6) d3] 86)).alloc (.cells #[.bool ln,.bool lv,.int .i64 li,.slice b1 (Fo.len lk) b3,.bool jY,.int .i64 jZ,.slice e1 (Fo.len lk') e3] 86)=W1;have hB1:Below w.heap.size w W1:=by rw [←hW1];exact (aD _ _).alloc (by simp) _
 have Y8:bT W1 w.heap.size (jT (pn,((pv,pi),pk),((pv',H8),F6)) (.slice a1 (Fo.len pk) a3) (.slice d1 (Fo.len F6) d3)):=by rw [←hW1];exact (bT.new w #[.bool pn,.bool pv,.int .i64 pi,.slice a1 (Fo.len pk) a3,.bool pv',.int .i64 H8,.slice d1 (Fo.len F6) d3] 86).below (aD _ _)
 have hR2:bT W1 (w.heap.size+1) (jT (ln,((lv,li),lk),((jY,jZ),lk')) (.slice b1 (Fo.len lk) b3) (.slice e1 (Fo.len lk') e3)):=by rw [←hW1];have:=bT.new (w.alloc (.cells #[.bool pn,.bool pv,.int .i64 pi,.slice a1 (Fo.len pk) a3,.bool pv',.int .i64 H8,.slice d1 (Fo.len F6) d3] 86)) #[.bool ln,.bool lv,.int .i64 li,.slice b1 (Fo.len lk) b3,.bool jY,.int .i64 jZ,.slice e1 (Fo.len lk') e3] 86;rw [World.size_alloc] at this;exact this
 have g0:W1.cell? ⟨w.heap.size,0,none⟩=some (.bool pn):=Y8 0 _ rfl;have g1:W1.cell? ⟨w.heap.size,1,none⟩=some (.bool pv):=Y8 1 _ rfl;have g2:W1.cell? ⟨w.heap.size,2,none⟩=some (.int .i64 pi):=Y8 2 _ rfl;have g3:W1.cell? ⟨w.heap.size,3,none⟩=some (.slice a1 (Fo.len pk) a3):=Y8 3 _ rfl;have g4:W1.cell? ⟨w.heap.size,4,none⟩=some (.bool pv'):=Y8 4 _ rfl;have g5:W1.cell? ⟨w.heap.size,5,none⟩=some (.int .i64 H8):=Y8 5 _ rfl;have g6:W1.cell? ⟨w.heap.size,6,none⟩=some (.slice d1 (Fo.len F6) d3):=Y8 6 _ rfl;have f0:W1.cell? ⟨w.heap.size+1,0,none⟩=some (.bool ln):=hR2 0 _ rfl;have f1:W1.cell? ⟨w.heap.size+1,1,none⟩=some (.bool lv):=hR2 1 _ rfl;have f2:W1.cell? ⟨w.heap.size+1,2,none⟩=some (.int .i64 li):=hR2 2 _ rfl;have f3:W1.cell? ⟨w.heap.size+1,3,none⟩=some (.slice b1 (Fo.len lk) b3):=hR2 3 _ rfl;have f4:W1.cell? ⟨w.heap.size+1,4,none⟩=some (.bool jY):=hR2 4 _ rfl;have f5:W1.cell? ⟨w.heap.size+1,5,none⟩=some (.int .i64 jZ):=hR2 5 _ rfl;have f6:W1.cell? ⟨w.heap.size+1,6,none⟩=some (.slice e1 (Fo.len lk') e3):=hR2 6 _ rfl;have HB1:=aB hB1;clear hW1 Y8 hR2 hB1;by_cases hneg:ln=pn
 · subst hneg;have Hwc:Hid (sP (ln,((pv,pi),pk),((pv',H8),F6)) (ln,((lv,li),lk),((jY,jZ),lk')) s=(iW s ((pv,pi),pk) ((lv,li),lk)).bind λa=>iW a ((pv',H8),F6) ((jY,jZ),lk')):=if_pos rfl;have Hm1:=aB (J9 s _ (pv,pi) pk _ (lv,li) lk _ W1 (HV.out.below HB1.out) (λq hq=>⟨(Hs.out q hq).nar,(Hs.out q hq).ok⟩) (HA.out.below HB1.out) (HB.out.below HB1.out) hl.1.ok hl.1.nar (by have:=hp.1;omega))
   go_wp2_with fail
   refine Hm1.out.mono ?_;rintro e' w5 ⟨hb5,t1,t2,t3,ok,rfl,hno,fG⟩;have GA:=aB (aC HB1.out hb5);cases ok
   · have Hn:Hid (sP (ln,((pv,pi),pk),((pv',H8),F6)) (ln,((lv,li),lk),((jY,jZ),lk')) s=none):=by rw [Hid,Hwc.out,(hno rfl).1];rfl
     clear hno fG hb5
     go_wp2_with fail
     go_ret2;exact ⟨none,0,0,false,rfl,λ_=>Hn.out,λe=>by (cases e),GA.out⟩
   · obtain ⟨sa,hex,rfl,hSa⟩:=fG rfl;have aS5:=KF hex;simp only at aS5;have Hex:=aB hex;have Hgs:=aB (aAG hl.1 Hs.out hex);have Hm2:=aB (J9 sa _ (pv',H8) F6 _ (jY,jZ) lk' _ w5 hSa (λq hq=>⟨(Hgs.out q hq).nar,(Hgs.out q hq).ok⟩) (HD.out.below GA.out) (HE.out.below GA.out) hl.2.ok hl.2.nar (by have:=hp.1;have:=hp.2;omega));replace f4:=aA hb5 _ _ f4;replace f5:=aA hb5 _ _ f5;replace f6:=aA hb5 _ _ f6;replace g4:=aA hb5 _ _ g4;replace g5:=aA hb5 _ _ g5;replace g6:=aA hb5 _ _ g6;clear hno fG hex hSa hb5 f0 f1 f2 f3 g0 g1 g2 g3
     go_wp2_with fail
     refine Hm2.out.mono ?_;rintro e' w6 ⟨hb6,r1,r2,r3,ok,rfl,hno,fG⟩;have HB6:=aB (aC GA.out hb6);have Hno:Hid (ok=false->sP (ln,((pv,pi),pk),((pv',H8),F6)) (ln,((lv,li),lk),((jY,jZ),lk')) s=none):=λh=>by rw [Hwc.out,Hex.out,Option.bind_some];exact (hno h).1
     have aO7:Hid (ok=true->∃s',sP (ln,((pv,pi),pk),((pv',H8),F6)) (ln,((lv,li),lk),((jY,jZ),lk')) s=some s'/\r2=s'.length/\dZ w6 s' (.slice r1 r2 r3)):=λh=>by rw [Hwc.out,Hex.out,Option.bind_some];exact fG h
     clear hno fG hb6 f4 f5 f6 g4 g5 g6
     go_wp2_with fail
     go_ret2;exact ⟨r1,r2,r3,ok,rfl,Hno.out,aO7.out,HB6.out⟩
 · have Hn:Hid (sP (pn,((pv,pi),pk),((pv',H8),F6)) (ln,((lv,li),lk),((jY,jZ),lk')) s=none):=by
    rw [Hid,sP,if_neg (by simpa using hneg)]
   rcases (by cases ln<;>cases pn<;>simp_all:(ln=true/\pn=false)\/(ln=false/\pn=true)) with ⟨rfl,rfl⟩|⟨rfl,rfl⟩
   all_goals
    clear hneg
    go_wp2_with fail
    go_ret2;exact ⟨none,0,0,false,rfl,λ_=>Hn.out,λe=>by (cases e),HB1.out⟩
end
section
attribute [local go_sem ↓] Go.wp_at_zero Go.wp_at_succ
theorem aM5 {w:World} {x:Lt} {c:Cl} {cv:Value} (h:dQ w (x::c) cv):∃(ad:Option Addr) (k:Nat) (tv:Value),cv= .slice ad (c.length+1) k/\dQ w c tv/\∀w':World,(Instr.slice 44 cv (some (.int .i64 1)) none none).run Tryz.prog w'= .ok tv w':=by
 obtain ⟨a,k,b,o,rfl,had,hlc,hcm,hL⟩:=h;have ha:a=some ⟨b,o,none⟩:=had (by simp);subst ha;obtain ⟨ad,hr,he⟩:=wH (n:=(x::c).length) (j:=1) (c:=k) (b:=b) (o:=o) (by simp) hlc;refine ⟨_,k,.slice (some ad) c.length (k - 1),rfl,?_,λw'=>?_⟩
 · refine ⟨some ad,k - 1,b,o+7,rfl,λh=>?_,?_,by omega,hL.2⟩
   · rw [he (by simp only [List.length_cons];omega)]
   · simp only [List.length_cons] at hlc;omega
 · have:=hr w';simpa using this
structure aAJ (W0:World) (bd br:Nat) (d:Cl) (dv:Value):Prop where
 cd:W0.cell? ⟨bd,0,none⟩=some dv
 cr:W0.cell? ⟨br,0,none⟩=some (.func (.func 102) #[] #[.pointer (some ⟨bd,0,none⟩),.pointer (some ⟨br,0,none⟩)])
 din:dQ W0 d dv
 gd:∀l∈d,Gd l.2.1/\Gd l.2.2
def XU (W0:World) (bd br:Nat) (d:Cl) (n:Nat):Prop:=∀(c:Cl) (s:Sb) (vs cv:Value) (w:World),c.length=n->Below W0.heap.size W0 w->dZ w s vs->dQ w c cv->(∀p∈s,Gd p.2)->s.length+24*n<=200->(∀l∈c,aM l.2.1.2<=12/\aM l.2.2.2<=12)->
 Calls Tryz.prog 102 #[vs,cv,.pointer (some ⟨bd,0,none⟩),.pointer (some ⟨br,0,none⟩)] w λe w'=>e= .returned (.bool (GG d c s))/\Below w.heap.size w w'
theorem YX {p l:Lt} {s:Sb} {w:World} {args:Array Value} (h:Calls Tryz.prog 105 args w (aDN p l s w)):Calls Tryz.prog 105 args w λe w'=>∃(z1:Option Addr) (m z3:Nat) (ok:Bool),e= .returned (.tuple #[.slice z1 m z3,.bool ok])/\(ok=false->sP p l s=none)/\(ok=true->∃s',sP p l s=some s'/\m=s'.length/\dZ w' s' (.slice z1 m z3))/\Below w.heap.size w w':=h
theorem aPN {x y:Lt} {s s':Sb} (hy:Gd y.2.1/\Gd y.2.2) (hs:∀p∈s,Gd p.2) (hx:aM x.2.1.2<=12/\aM x.2.2.2<=12) (h:sP x y s=some s'):(∀p∈s',Gd p.2)/\s'.length<=s.length+24:=by
 unfold sP at h;split at h
 · rw [Option.bind_eq_some_iff] at h;obtain ⟨a,h1,h2⟩:=h;have h3:=aAG hy.1 hs h1;have h4:=KF h1;have h5:=KF h2;exact ⟨aAG hy.2 h3 h2,by omega⟩
 · cases h
theorem aLA {y:Lt} (k:Bool) (h:Gd y.2.1/\Gd y.2.2):Gd (aL k y).2.1/\Gd (aL k y).2.2:=by
 cases k
 · exact h
 · exact ⟨h.2,h.1⟩
theorem aB1 {W0:World} {bd br:Nat} {d:Cl} {dv:Value} (hE:aAJ W0 bd br d dv) (x:Lt) (c:Cl) (ih:XU W0 bd br d c.length) (s:Sb) (vs cv:Value) (sb cb:Nat) (y:Lt) (a b:Value) (w:World) (hb0:Below W0.heap.size W0 w) (hs:w.cell? ⟨sb,0,none⟩=some vs) (hc:w.cell? ⟨cb,0,none⟩=some cv) (hV:dZ w s vs) (hC:dQ w (x::c) cv)
  (hg:∀p∈s,Gd p.2) (hlen:s.length+24*(c.length+1)<=200) (hx:∀l∈x::c,aM l.2.1.2<=12/\aM l.2.2.2<=12) (hy:Gd y.2.1/\Gd y.2.2) (hA:cO w y.2.1.2 a) (hB:cO w y.2.2.2 b):
  Calls Tryz.prog 103 #[uO y a b,.pointer (some ⟨sb,0,none⟩),.pointer (some ⟨cb,0,none⟩),.pointer (some ⟨br,0,none⟩)] w λe w'=>e= .returned (.bool (QL d c x s y))/\Below w.heap.size w w':=by
 have HIH:=aB ih;have HV:=aB hV;have HC:=aB hC;have HG:=aB hg;have HX:=aB hx;have Hb0:=aB hb0;have aPB:=aB (λ(kk:Nat) (hk:kk<2)=>aHV hk hA hB);have Hbw:=aB (λ(a1 b1:Option Addr) (a2 a3 b2 b3:Nat) (w':World)=>CL y a1 b1 a2 a3 b2 b3 w');obtain ⟨ca,ck,tv,rfl,hT,hrun⟩:=aM5 hC;have HT:=aB hT;have aSH:=aB hrun;obtain ⟨_,_,kb,ko,hce,aQ5,aVX,aTS,hcF⟩:=hC;simp only [List.length_cons,Value.slice.injEq,true_and] at hce;obtain ⟨rfl,rfl⟩:=hce;have hca:ca=some ⟨kb,ko,none⟩:=aQ5 (by simp);subst hca;unfold maxLen at aTS;have HcF:=aB hcF;obtain ⟨v1,v3,rfl⟩:=gG hV;have hr0:=aA hb0 _ _ hE.cr;have hHs:=aB hs;have hHc:=aB hc;obtain ⟨ya,yc,_,_,rfl,-,-,-,-⟩:=hA;obtain ⟨za,zc,_,_,rfl,-,-,-,-⟩:=hB;have Hly:Hid (QL d c x s y=(uX d c x s y||uX d c x s (aL true y))):=aMG;have Hyy:=aB hy;clear ih hg hx hT hrun aQ5 hcF hV hb0 hy;obtain ⟨yn,⟨⟨yv,yi⟩,yk⟩,⟨bB,bH⟩,aZ⟩:=y;simp only at*;go_enter Tryz.func103,Tryz.ntmps103
 go_wp2_with fail
 refine (Hbw.out _ _ _ _ _ _ _).mono ?_;rintro e w1 ⟨rfl,hb1⟩;clear hs hc hr0
 go_wp2_with fail
 obtain ⟨xn,⟨⟨xv,xi⟩,xk⟩,⟨iH,iZ⟩,gM⟩:=x;have HB1:=aB (aW hb1);clear hb1
 go_loopw [12] (λi wr=>∃kk:Nat,kk<=2/\i= .int .i64 kk/\(∀k',k'<kk->uX d c (xn,((xv,xi),xk),((iH,iZ),gM)) s (aL (decide (k'=1)) (yn,((yv,yi),yk),((bB,bH),aZ)))=false)/\Below w.heap.size w wr) (λi _=>2 - (intOf i).toNat)
 case atStart=>exact ⟨0,by omega,rfl,λk' h=>by omega,HB1.out⟩
 case round=>
  obtain ⟨kk,hkk,rfl,hno,hBr⟩:=hrel;have Hno:=aB hno;have xM:=aB hBr;clear hno;by_cases hkl:kk<2
  · have hkl':(kk:Int)<2:=by omega
    have hk0:(0:Int)<=(kk:Int):=by omega
    obtain ⟨b1,b3,e1,e3,hSA,hSD,hrun⟩:=aPB.out kk hkl;have Htg:=aB (aLA (y:=(yn,((yv,yi),yk),((bB,bH),aZ))) (decide (kk=1)) Hyy.out);have uD:Hid (uX d c (xn,((xv,xi),xk),((iH,iZ),gM)) s (aL (decide (kk=1)) (yn,((yv,yi),yk),((bB,bH),aZ)))=false->∀k',k'<kk+1->uX d c (xn,((xv,xi),xk),((iH,iZ),gM)) s (aL (decide (k'=1)) (yn,((yv,yi),yk),((bB,bH),aZ)))=false):=λh k' hk'=>by
     by_cases e:k'=kk
     · rw [e];exact h
     · exact Hno.out k' (by omega)
    have aO7:Hid (uX d c (xn,((xv,xi),xk),((iH,iZ),gM)) s (aL (decide (kk=1)) (yn,((yv,yi),yk),((bB,bH),aZ)))=true->QL d c (xn,((xv,xi),xk),((iH,iZ),gM)) s (yn,((yv,yi),yk),((bB,bH),aZ))=true):=λh=>by
     rw [Hly.out];obtain rfl|rfl:kk=0\/kk=1:=by omega
     · rw [show uX d c (xn,((xv,xi),xk),((iH,iZ),gM)) s (yn,((yv,yi),yk),((bB,bH),aZ))=true from h];rfl
     · rw [show uX d c (xn,((xv,xi),xk),((iH,iZ),gM)) s (aL true (yn,((yv,yi),yk),((bB,bH),aZ)))=true from h];simp
    generalize aL (decide (kk=1)) (yn,((yv,yi),yk),((bB,bH),aZ))=ty at*;obtain ⟨tn,⟨⟨tv',ti⟩,tk⟩,⟨⟨aDR,oO⟩,nT⟩⟩:=ty;simp only at hSA hSD hrun Htg;have hrun':=hrun wr;have HSA:=aB hSA;have HSD:=aB hSD;clear hSA hSD hrun
    go_upto_region 4 with fail
    generalize fA:wr.alloc (.cells #[.bool tn,.bool tv',.int .i64 ti,.slice b1 (Fo.len tk) b3,.bool aDR,.int .i64 oO,.slice e1 (Fo.len nT) e3] 86)=wa;obtain ⟨g0,g1,g2,g3,g4,g5,g6,-,bZ,hsa⟩:=dS (T:=86) (w:=wr) (wr:=wa) (x0:= .bool tn) (x1:= .bool tv') (x2:= .int .i64 ti) (x3:= .slice b1 (Fo.len tk) b3) (x4:= .bool aDR) (x5:= .int .i64 oO) (x6:= .slice e1 (Fo.len nT) e3) (by rw [←fA];exact Below.refl _ _);have hBa:=aC hBr bZ;have s0:=aA hBa _ _ hHs.out;have c0:=aA hBa _ _ hHc.out;obtain ⟨p0,p1,p2,⟨u3,p3,hXA⟩,p4,p5,u6,p6,hXD⟩:=(HcF.out.below hBa).at (i:=0) (l:=(xn,((xv,xi),xk),((iH,iZ),gM))) rfl;simp only [Nat.zero_mul,Nat.add_zero] at p0 p1 p2 p3 p4 p5 p6;have HXA:=aB hXA;have HXD:=aB hXD;obtain ⟨xa,xc,_,_,rfl,-,-,-,-⟩:=hXA;obtain ⟨xd,xe,_,_,rfl,-,-,-,-⟩:=hXD;have HBa:=aB hBa;have Hx0:=aB (HX.out (xn,((xv,xi),xk),((iH,iZ),gM)) (by simp));have Hbc:=aB (λ(w':World) (hb:Below wa.heap.size wa w')=>YX (aB3 (xn,((xv,xi),xk),((iH,iZ),gM)) (tn,((tv',ti),tk),((aDR,oO),nT)) s _ xa xd b1 e1 xc xe b3 e3 w' (HV.out.below (aC HBa.out hb)) HG.out (HXA.out.below hb) (HXD.out.below hb) (HSA.out.below (aC HBa.out hb)) (HSD.out.below (aC HBa.out hb)) Hx0.out Htg.out (by omega)));have aG:Below wa.heap.size wa wa.drew:=(Below.refl _ _).drew;clear fA bZ hBa hBr hrun'
    go_region_held3 (λw'=>w'.cell? ⟨wr.heap.size,0,none⟩=some (.bool tn)/\w'.cell? ⟨wr.heap.size,1,none⟩=some (.bool tv')/\w'.cell? ⟨wr.heap.size,2,none⟩=some (.int .i64 ti)/\w'.cell? ⟨wr.heap.size,3,none⟩=some (.slice b1 (Fo.len tk) b3)/\w'.cell? ⟨wr.heap.size,4,none⟩=some (.bool aDR)/\w'.cell? ⟨wr.heap.size,5,none⟩=some (.int .i64 oO)/\w'.cell? ⟨wr.heap.size,6,none⟩=some (.slice e1 (Fo.len nT) e3)/\w'.cell? ⟨sb,0,none⟩=some (.slice v1 s.length v3)/\w'.cell? ⟨cb,0,none⟩=some (.slice (some ⟨kb,ko,none⟩) (c.length+1) ck)/\w'.cell? ⟨kb,ko,none⟩=some (.bool xn)/\w'.cell? ⟨kb,ko+1,none⟩=some (.bool xv)/\w'.cell? ⟨kb,ko+2,none⟩=some (.int .i64 xi)/\w'.cell? ⟨kb,ko+3,none⟩=some (.slice xa (Fo.len xk) xc)/\w'.cell? ⟨kb,ko+4,none⟩=some (.bool iH)/\w'.cell? ⟨kb,ko+5,none⟩=some (.int .i64 iZ)/\w'.cell? ⟨kb,ko+6,none⟩=some (.slice xd (Fo.len gM) xe))
     (first
       |(with_reducible exact ⟨aA aG _ _ g0,aA aG _ _ g1,aA aG _ _ g2,aA aG _ _ g3,aA aG _ _ g4,aA aG _ _ g5,aA aG _ _ g6,aA aG _ _ s0,aA aG _ _ c0,aA aG _ _ p0,aA aG _ _ p1,aA aG _ _ p2,aA aG _ _ p3,aA aG _ _ p4,aA aG _ _ p5,aA aG _ _ p6⟩)
       |go_keep)
     (first
       |(go_at_call 105;with_reducible refine (Hbc.out _ aG).mono ?_;rintro e w2 ⟨m1,m,m3,ok,rfl,hwn,hwy,hb2⟩;replace aG:=aC aG hb2))
    all_goals
     have HB2:=aB (aC HBa.out aG);have HBy:=aB (aG.size);cases ok
     · have Hn:Hid (uX d c (xn,((xv,xi),xk),((iH,iZ),gM)) s (tn,((tv',ti),tk),((aDR,oO),nT))=false):=by
        rw [Hid,uX,hwn rfl]
       have ZN:=aB (uD.out Hn.out);clear hwn hwy aG hb2 g0 g1 g2 g3 g4 g5 g6 s0 c0 p0 p1 p2 p3 p4 p5 p6
       go_wp2_with fail
       go_quiet (fail)
       go_wp2_with fail
       go_roundw
       case rel=>exact ⟨kk+1,by omega,by go_num,ZN.out,below_drewN HB2.out _⟩
       case measure=>simp [intOf];omega
     · obtain ⟨s',hws,rfl,hSs⟩:=hwy rfl;obtain ⟨hgs,hls⟩:=aPN Htg.out HG.out Hx0.out hws;have ZO:Hid (uX d c (xn,((xv,xi),xk),((iH,iZ),gM)) s (tn,((tv',ti),tk),((aDR,oO),nT))=GG d c s'):=by
        rw [Hid,uX,hws]
       have mF:=aB (λ(w':World) (hb:Below w2.heap.size w2 w')=>HIH.out c s' _ tv w' rfl (aC Hb0.out (aC HB2.out hb)) (hSs.below hb) (HT.out.below (aC HB2.out hb)) hgs (by omega) (λl hl=>HX.out l (by simp [hl])));have q0:=aA HB2.out _ _ (aA Hb0.out _ _ hE.cr);have q1:=aA HB2.out _ _ hHc.out;have htl:=aSH.out;obtain ⟨V,hV⟩:∃V,GG d c s'=V:=⟨_,rfl⟩;rw [hV] at ZO;rw [hV] at mF;clear hwn hwy aG hb2 g0 g1 g2 g3 g4 g5 g6 s0 c0 p0 p1 p2 p3 p4 p5 p6 hSs hws hgs hls hV
       go_upto_region 5 with fail
       have aG:Below w2.heap.size w2 w2.drew:=(Below.refl _ _).drew
       go_region_held3 (λw'=>w'.cell? ⟨br,0,none⟩=some (.func (.func 102) #[] #[.pointer (some ⟨bd,0,none⟩),.pointer (some ⟨br,0,none⟩)])/\w'.cell? ⟨cb,0,none⟩=some (.slice (some ⟨kb,ko,none⟩) (c.length+1) ck))
        (first
          |(with_reducible exact ⟨aA aG _ _ q0,aA aG _ _ q1⟩)
          |go_keep)
        (first
          |(go_at_call 102;with_reducible refine (mF.out _ aG).mono ?_;rintro e w3 ⟨rfl,hb3⟩;replace aG:=aC aG hb3))
       all_goals
        have HB3:=aB (aC HB2.out aG);clear aG hb3 q0 q1 htl;cases V
        · have ZN:=aB (uD.out ZO.out)
          go_wp2_with fail
          go_roundw
          case rel=>exact ⟨kk+1,by omega,by go_num,ZN.out,HB3.out⟩
          case measure=>simp [intOf];omega
        · have Hy1:=aB (aO7.out ZO.out)
          go_wp2_with fail
          go_ret;exact ⟨by rw [Hy1.out];rfl,HB3.out⟩
  · have hk2:kk=2:=by omega
    subst hk2;have Hf:Hid (QL d c (xn,((xv,xi),xk),((iH,iZ),gM)) s (yn,((yv,yi),yk),((bB,bH),aZ))=false):=by have h0:=Hno.out 0 (by omega);have h1:=Hno.out 1 (by omega);rw [Hid,Hly.out,show uX d c (xn,((xv,xi),xk),((iH,iZ),gM)) s (yn,((yv,yi),yk),((bB,bH),aZ))=false from h0,show uX d c (xn,((xv,xi),xk),((iH,iZ),gM)) s (aL true (yn,((yv,yi),yk),((bB,bH),aZ)))=false from h1];rfl
    clear hBr
    go_wp2_with fail
    go_ret;exact ⟨by rw [Hf.out];rfl,xM.out⟩
def XZ (sb cb br:Nat) (H:Lt->Bool) (k:Cl) (w:World):Prop:=∀l∈k,∀(a d:Value) (w':World),Below w.heap.size w w'->cO w' l.2.1.2 a->cO w' l.2.2.2 d->
 Calls Tryz.prog 103 #[uO l a d,.pointer (some ⟨sb,0,none⟩),.pointer (some ⟨cb,0,none⟩),.pointer (some ⟨br,0,none⟩)] w' λe w''=>e= .returned (.bool (H l))/\Below w'.heap.size w' w''
theorem TC (sb cb br:Nat) (H:Lt->Bool) (k:Cl) (a:Value) (w:World) (hcl:XZ sb cb br H k w) (hS:dQ w k a):
  Calls Tryz.prog 128 #[a,.func (.func 103) #[] #[.pointer (some ⟨sb,0,none⟩),.pointer (some ⟨cb,0,none⟩),.pointer (some ⟨br,0,none⟩)]] w λe w'=>∃i:Int,e= .returned (.int .i64 i)/\(decide (0<=i))=k.any H/\Below w.heap.size w w':=by
 obtain ⟨a1,c1,b1,o1,rfl,eZ,uY,hcm1,hF1⟩:=hS;unfold maxLen at hcm1;have zT:=aB hF1;have dI:=aB hcl;clear hF1 hcl;go_enter Tryz.func128,Tryz.ntmps128
 go_wp2_with fail
 go_loopw [8] (λi wr=>∃j:Nat,j<=k.length/\i= .int .i64 j/\(k.take j).any H=false/\Below w.heap.size w wr) (λi _=>k.length - (intOf i).toNat)
 case atStart=>exact ⟨0,Nat.zero_le _,rfl,rfl,Below.refl _ _⟩
 case round=>
  obtain ⟨j,hj,rfl,hok,hBr⟩:=hrel;have nD:=aB hok;clear hok;by_cases hlt:j<k.length
  · have hlt':(j:Int)<(k.length:Int):=by omega
    obtain ⟨⟨yn,⟨⟨yv,yi⟩,yk⟩,⟨bB,bH⟩,aZ⟩,hy⟩:∃y,k[j]?=some y:=⟨k[j]'hlt,by simp⟩;obtain ⟨p0,p1,p2,⟨u3,p3,hA⟩,p4,p5,u6,p6,hD⟩:=(zT.out.below hBr).at hy;have ha1:a1=some ⟨b1,o1,none⟩:=eZ (by omega);subst ha1;have HA:=aB hA;have HD:=aB hD;obtain ⟨ya,yc,_,_,rfl,-,-,-,-⟩:=hA;obtain ⟨za,zc,_,_,rfl,-,-,-,-⟩:=hD;have Hy:=aB hy;have Hc:=aB (dI.out _ (List.mem_of_getElem? hy) _ _ wr hBr HA.out HD.out);have Htk:Hid ((k.take (j+1)).any H=((k.take j).any H||H (yn,((yv,yi),yk),((bB,bH),aZ)))):=by rw [Hid,List.take_add_one,hy];simp
    have uE:Hid (H (yn,((yv,yi),yk),((bB,bH),aZ))=true->k.any H=true):=λh=>List.any_eq_true.2 ⟨_,List.mem_of_getElem? hy,h⟩;simp only at Hc;generalize H (yn,((yv,yi),yk),((bB,bH),aZ))=V at Hc Htk uE;clear hy eZ;simp only at*
    go_wp2_with fail
    refine Hc.out.mono ?_;rintro e w2 ⟨rfl,hb2⟩;have hB2:=aC hBr hb2;clear hb2;cases V
    · go_wp2_with fail
      go_roundw
      case rel=>exact ⟨j+1,by omega,by go_num,by rw [Htk.out,nD.out];rfl,hB2⟩
      case measure=>simp [intOf];omega
    · have Hk:=aB (uE.out rfl);clear uE Htk
      go_wp2_with fail
      go_ret;exact ⟨j,rfl,by rw [Hk.out];simp,hB2⟩
  · have Hf:Hid (k.any H=false):=by
     have e:j=k.length:=by omega
     have:=nD.out;rw [e,List.take_length] at this;exact this
    clear eZ
    go_wp2_with fail
    go_ret;exact ⟨-1,rfl,by rw [Hf.out];rfl,hBr⟩
theorem GN (sb cb br:Nat) (H:Lt->Bool) (k:Cl) (a:Value) (w:World) (hcl:XZ sb cb br H k w) (hS:dQ w k a):
  Calls Tryz.prog 93 #[a,.func (.func 103) #[] #[.pointer (some ⟨sb,0,none⟩),.pointer (some ⟨cb,0,none⟩),.pointer (some ⟨br,0,none⟩)]] w λe w'=>e= .returned (.bool (k.any H))/\Below w.heap.size w w':=by
 have HS:=aB hS;have dI:=aB hcl;obtain ⟨a1,c1,b1,o1,rfl,-,-,-,-⟩:=hS;clear hcl;go_enter Tryz.func93,Tryz.ntmps93
 go_wp2_with fail
 refine (TC sb cb br H k _ _ dI.out HS.out).mono ?_;rintro e w2 ⟨i,rfl,hi,hb2⟩;have Hi:=aB hi;clear hi
 go_wp2_with fail
 go_ret;exact ⟨by rw [←Hi.out];rfl,hb2⟩
theorem YO {W0:World} {bd br:Nat} {d:Cl} {dv:Value} (hE:aAJ W0 bd br d dv):∀n,XU W0 bd br d n:=by
 intro n;induction n with
 |zero=>
  intro c s vs cv w hn hb hV hC hg hlen hx;have hc:c=[]:=List.length_eq_zero_iff.1 hn;subst hc;obtain ⟨v1,v3,rfl⟩:=gG hV;obtain ⟨c1,c3,rfl⟩:=aK hC;simp only [List.length_nil];clear hV hC hx;go_enter Tryz.func102,Tryz.ntmps102
  go_wp2_with fail
  go_ret;exact ⟨rfl,aC (aD _ _) (aD _ _)⟩
 |succ n ih=>
  intro c s vs cv w hn hb hV hC hg hlen hx;obtain ⟨x,c',rfl⟩:=List.exists_cons_of_length_pos (l:=c) (by omega);obtain rfl:n=c'.length:=by simpa using hn.symm
  clear hn;have HV:=aB hV;have HC:=aB hC;have HG:=aB hg;have HX:=aB hx;have Hih:=aB ih;have Hb:=aB hb;obtain ⟨v1,v3,rfl⟩:=gG hV;obtain ⟨c1,c3,hcv⟩:=aK hC;simp only [List.length_cons] at hcv;subst hcv;have hne:(((c'.length:Nat):Int)+1==0)=false:=by simp;omega
  have ZO:Hid (GG d (x::c') s=d.any (QL d c' x s)):=aF7;clear hV hC hg hx ih hb;go_enter Tryz.func102,Tryz.ntmps102
  go_upto_region 1 with fail
  generalize hW1:(w.alloc (.cells #[.slice v1 s.length v3] 90)).alloc (.cells #[.slice c1 (c'.length+1) c3] 44)=W1;have hB1:Below w.heap.size w W1:=by rw [←hW1];exact (aD _ _).alloc (by simp) _
  have s0:W1.cell? ⟨w.heap.size,0,none⟩=some (.slice v1 s.length v3):=by rw [←hW1,World.cell?_alloc_lt _ _ _ (by simp)];exact aF rfl
  have c0:W1.cell? ⟨w.heap.size+1,0,none⟩=some (.slice c1 (c'.length+1) c3):=by rw [←hW1];exact aF (World.size_alloc _ _)
  have hB0:=aC Hb.out hB1;have d0:=aA hB0 _ _ hE.cd;have aRU:=aB (hE.din.below hB0);have Hct:=aB (GN w.heap.size (w.heap.size+1) br (QL d c' x s) d dv W1 (λy hy a b w' hb' hA hB=>aB1 hE x c' Hih.out s _ _ w.heap.size (w.heap.size+1) y a b w' (aC hB0 hb') (aA hb' _ _ s0) (aA hb' _ _ c0) (HV.out.below (aC hB1 hb')) (HC.out.below (aC hB1 hb')) HG.out (by omega) HX.out (hE.gd y hy) hA hB) aRU.out);have HB1:=aB hB1;obtain ⟨d1,d3,hdv⟩:=aK aRU.out;subst hdv;clear hW1 hB1 hB0
  go_wp2_with fail
  refine Hct.out.mono ?_;rintro e w2 ⟨rfl,hb2⟩;have HB2:=aB (aC HB1.out hb2);clear hb2 s0 c0 d0
  go_wp2_with fail
  go_ret;exact ⟨by rw [ZO.out];rfl,HB2.out⟩
theorem YN (c d:Cl) (cv dv:Value) (w:World) (hC:dQ w c cv) (hD:dQ w d dv) (h4:c.length<=4) (hc:∀l∈c,aM l.2.1.2<=12/\aM l.2.2.2<=12) (hd:∀l∈d,Gd l.2.1/\Gd l.2.2):
  Calls Tryz.prog 64 #[cv,dv] w λe w'=>e= .returned (.bool (yH c d))/\Below w.heap.size w w':=by
 have HC:=aB hC;have HD:=aB hD;have Hc:=aB hc;have Hd:=aB hd;obtain ⟨c1,c3,rfl⟩:=aK hC;obtain ⟨d1,d3,rfl⟩:=aK hD;clear hC hD hc hd;go_enter Tryz.func64,Tryz.ntmps64
 go_wp2_with fail
 generalize hW2:(w.alloc (.cells #[.slice d1 d.length d3] 44)).alloc (.cells #[.func (.func 102) #[] #[.pointer (some ⟨w.heap.size,0,none⟩),.pointer (some ⟨w.heap.size+1,0,none⟩)]] 131)=W2;have hB2:Below w.heap.size w W2:=by rw [←hW2];exact (aD _ _).alloc (by simp) _
 have e0:W2.cell? ⟨w.heap.size,0,none⟩=some (.slice d1 d.length d3):=by rw [←hW2,World.cell?_alloc_lt _ _ _ (by simp)];exact aF rfl
 have e1:W2.cell? ⟨w.heap.size+1,0,none⟩=some (.func (.func 102) #[] #[.pointer (some ⟨w.heap.size,0,none⟩),.pointer (some ⟨w.heap.size+1,0,none⟩)]):=by rw [←hW2];exact aF (World.size_alloc _ _)
 have hE:aAJ W2 w.heap.size (w.heap.size+1) d (.slice d1 d.length d3):=⟨e0,e1,HD.out.below hB2,Hd.out⟩;clear hW2;refine (YO hE c.length c [] _ _ W2 rfl (Below.refl _ _) (dZ.nil _) (HC.out.below hB2) (λp hp=>by cases hp) (by simp;omega) Hc.out).mono ?_;rintro e w3 ⟨rfl,hb3⟩;have HB3:=aB (aC hB2 hb3);clear hb3 hB2 e0 e1 hE
 go_wp2_with fail
 go_ret;exact ⟨by rw [aM3];rfl,HB3.out⟩
end
abbrev nP:Value:= .agg #[.bool false,.bool false,.int .i64 0,.slice none 0 0,.bool false,.int .i64 0,.slice none 0 0]
theorem aFD (w:World):(Instr.slice 44 (.slice none 0 0) none (some (.int .i64 0)) none).run Tryz.prog w= .ok (.slice none 0 0) w:=by
 have e:(sizeOf (Tryz.prog.elem 44)).run Tryz.prog w= .ok 7 w:=by rw [show Tryz.prog.elem 44=86 by kernel_rfl];simp [go_sem]
 rw [show (Value.int .i64 0)= .int .i64 ((0:Nat):Int) from rfl,run_slice_h (ht:=by kernel_rfl) (h0:=by omega) (h2:=by omega)];simp only [Result.andThen,sliced,e];simp
theorem aFP (n:Nat) (w:World) (hn:n<=1000000):
  Calls Tryz.prog 165 #[.slice none 0 0,.int .i64 n] w λe w'=>∃v,e= .returned v/\w'.ownsRow w.heap.size 86 7 v 0 []/\Below w.heap.size w w':=by
 have hn0:(0:Int)<=(n:Int):=by omega
 have hneg:decide ((n:Int)<0)=false:=by simp
 have hwr:IntKind.i64.wrap ((n:Int))=(n:Int):=by rw [IntKind.wrap_i64];omega
 by_cases h0:n=0
 · subst h0;go_enter Tryz.func165,Tryz.ntmps165
   go_wp2_with fail
   go_ret;exact ⟨_,rfl,World.ownsRow_nil _ _ _ _,Below.refl _ _⟩
 · have hpos:(0:Int)<(n:Int):=by omega
   obtain ⟨iL,hi,hz0,hz1,hz2⟩:=info_parts Tryz.info86;have hrun:=Lib.run_append_nil_zeros (P:=Tryz.prog) w 44 3 44 86 iL nP .i64 .i64 Tryz.underlying44 Tryz.underlying3 hi hz0 n (by omega) (by rw [hz1];omega) (by omega) (by rw [hz2];omega);have hg1:=grownCap_ge w n 0 86;have hg2:=grownCap_le_maxLen w n 0 86 (by unfold maxLen;omega);generalize grownCap w n 0 86=k at*;have QT:=aB hrun
   have aUO:Hid ((w.drew.alloc (.cells (Builtin.zeroCells (Value.cells nP) n++Builtin.zeroCells (Value.cells nP) (k - n)) 86)).ownsRow w.heap.size 86 7 (.slice (some ⟨w.heap.size,0,none⟩) 0 k) 0 []):=
    ⟨by simp,.inr ⟨w.heap.size,k,_,rfl,Nat.le_refl _,heap_alloc_new w.drew _,Nat.zero_le _,hg2,by simp [Builtin.zeroCells,Value.cells];omega,by simp⟩⟩
   have Hb:Hid (Below w.heap.size w (w.drew.alloc (.cells (Builtin.zeroCells (Value.cells nP) n++Builtin.zeroCells (Value.cells nP) (k - n)) 86))):=(Below.refl _ _).drew.alloc (Nat.le_refl _) _;have hs1:=aFD;have hs2:∀w':World,(Instr.slice 44 (.slice (some ⟨w.heap.size,0,none⟩) n k) none (some (.int .i64 0)) none).run Tryz.prog w'= .ok (.slice (some ⟨w.heap.size,0,none⟩) 0 k) w':=λw'=>K8 (j:=0) (Nat.zero_le _) hg1 w';generalize w.drew.alloc (.cells (Builtin.zeroCells (Value.cells nP) n++Builtin.zeroCells (Value.cells nP) (k - n)) 86)=W at*;clear hrun hg2;go_enter Tryz.func165,Tryz.ntmps165
   go_wp2_with (at_builtin;refine Lib.wpList_append_run _ rfl (.tmp 20) (.tmp 21) 44 3 rfl _ _ rfl rfl _ _ QT.out ?_)
   go_ret;exact ⟨_,rfl,aUO.out,Hb.out⟩
theorem aCZ {c d:Cl} {w w':World} {v:Value} {n1 n2:List Value} (h1:LC (λq=>q<w.heap.size) w c n1) (h2:LC (λq=>q<w.heap.size) w d n2) (hr:w'.ownsRow w.heap.size 86 7 v (c.length+d.length) (n1++n2)) (hb:Below w.heap.size w w'):
  lD w.heap.size (λq=>q<w.heap.size) w' (c++d) v (n1++n2):=by
 refine ⟨by rw [List.length_append];exact hr,LC.append (h2.frame (λ_ h=>h) (λq j hq=>hb.cell (p:=⟨q,j,none⟩) hq)) (h1.frame (λ_ h=>h) (λq j hq=>hb.cell (p:=⟨q,j,none⟩) hq)),λq hq=>⟨by have:=hb.size;omega,λe=>?_⟩⟩;have:=(aJ hr q e.symm).1;omega
def byN {X:Type} (a b c:X):Nat->X
 |0=>a
 |1=>b
 |_=>c
theorem tY (c d:Cl) (cv dv:Value) (b o bW:Nat) (w:World) (hC:dQ w c cv) (hD:dQ w d dv) (h0:w.cell? ⟨b,o,none⟩=some cv) (h1:w.cell? ⟨b,o+1,none⟩=some dv) (hl:c.length+d.length<=1000000):
  Calls Tryz.prog 142 #[.slice (some ⟨b,o,none⟩) 2 bW] w λe w'=>∃v,e= .returned v/\dQ w' (c++d) v/\Below w.heap.size w w':=by
 obtain ⟨c1,c3,rfl⟩:=aK hC;obtain ⟨d1,d3,rfl⟩:=aK hD;obtain ⟨n1,hL1,hC1⟩:=aHH hC;obtain ⟨n2,hL2,hC2⟩:=aHH hD;have HL1:=aB hL1;have HL2:=aB hL2;have HC1:=aB hC1;have HC2:=aB hC2;obtain ⟨iL,hi,hz0,hz1,hz2⟩:=info_parts Tryz.info86;have hwc:IntKind.i64.wrap (c.length:Int)=(c.length:Int):=by rw [IntKind.wrap_i64];omega
 have hwd:IntKind.i64.wrap ((c.length:Int)+(d.length:Int))=(c.length:Int)+(d.length:Int):=by rw [IntKind.wrap_i64];omega
 have hnc:decide ((c.length:Int)<0)=false:=by simp
 have hnd:decide ((c.length:Int)+(d.length:Int)<0)=false:=by simp;omega
 clear hL1 hL2 hC1 hC2 hC hD;go_enter Tryz.func142,Tryz.ntmps142
 go_wp2_with fail
 go_loopw [3,11] (λs i wr=>∃j:Nat,j<=2/\i= .int .i64 j/\s= .int .i64 (byN 0 (c.length:Int) ((c.length:Int)+(d.length:Int)) j)/\wr=w) (λ_ i _=>2 - (intOf i).toNat)
 case atStart=>exact ⟨0,by omega,rfl,rfl,rfl⟩
 case round=>
  obtain ⟨j,hj,rfl,rfl,rfl⟩:=hrel;obtain rfl|rfl|rfl:j=0\/j=1\/j=2:=by omega
  · simp only [byN]
    go_wp2_with fail
    go_roundw
    case rel=>exact ⟨1,by omega,by go_num,rfl,trivial⟩
    case measure=>simp [intOf]
  · simp only [byN]
    go_wp2_with fail
    go_roundw
    case rel=>exact ⟨2,by omega,by go_num,rfl,trivial⟩
    case measure=>simp [intOf]
  · simp only [byN];have Hg:=aB (aFP (c.length+d.length) wr hl);rw [show ((c.length+d.length:Nat):Int)=(c.length:Int)+(d.length:Int) by omega] at Hg
    go_wp2_with fail
    refine Hg.out.mono ?_;rintro e w2 ⟨v2,rfl,hR2,hb2⟩;have HR2:=aB hR2;have hq0:=aA hb2 _ _ h0;have hq1:=aA hb2 _ _ h1;clear hR2 Hg
    go_wp2_with fail
    obtain ⟨W,hWw⟩:∃W,wr=W:=⟨_,rfl⟩;have HW:=aB hWw;rw [hWw] at HC1 HC2 HL1 HL2 HR2 hb2 h0 h1;clear hWw
    go_loopw [6,27] (λv i wo=>∃j:Nat,j<=2/\i= .int .i64 j/\wo.ownsRow W.heap.size 86 7 v (byN 0 c.length (c.length+d.length) j) (byN [] n1 (n1++n2) j)/\Below W.heap.size W wo) (λ_ i _=>2 - (intOf i).toNat)
    case atStart=>exact ⟨0,by omega,rfl,HR2.out,hb2⟩
    case round=>
     obtain ⟨j,hj,rfl,hR,hBo⟩:=hrel;have HR:=aB hR;clear hR;have hw0:=aA hBo _ _ h0;have hw1:=aA hBo _ _ h1;obtain rfl|rfl|rfl:j=0\/j=1\/j=2:=by omega
     · simp only [byN] at HR;have hx1:0+c.length<=maxLen:=by unfold maxLen;omega
       have hx2:(0+c.length)*88<=140737488355328:=by omega
       go_wp2_with (at_builtin;refine bX rfl (.tmp 31) (.tmp 32) 44 rfl W.heap.size 86 iL nP 7 88 Tryz.underlying44 hi hz0 hz1 hz2 rfl (by decide) u6 0 [] rfl HR.out _ c.length n1 rfl (HC1.out _ hBo) hx1 hx2 hBo.size ?_;intro v4 w4 sM hg4 jE)
       have HG:Hid (w4.ownsRow W.heap.size 86 7 v4 c.length n1/\Below W.heap.size W w4):=by refine ⟨by simpa using sM,hBo.grown hg4 hBo.size (λg hg=>(aJ HR.out g hg).1)⟩
       clear sM hg4 jE
       go_wp2_with fail
       go_roundw
       case rel=>exact ⟨1,by omega,by go_num,HG.out.1,HG.out.2⟩
       case measure=>simp [intOf]
     · simp only [byN] at HR;have hx1:c.length+d.length<=maxLen:=by unfold maxLen;omega
       have hx2:(c.length+d.length)*88<=140737488355328:=by omega
       go_wp2_with (at_builtin;refine bX rfl (.tmp 31) (.tmp 32) 44 rfl W.heap.size 86 iL nP 7 88 Tryz.underlying44 hi hz0 hz1 hz2 rfl (by decide) u6 c.length n1 rfl HR.out _ d.length n2 rfl (HC2.out _ hBo) hx1 hx2 hBo.size ?_;intro v4 w4 sM hg4 jE)
       have HG:Hid (w4.ownsRow W.heap.size 86 7 v4 (c.length+d.length) (n1++n2)/\Below W.heap.size W w4):=by refine ⟨sM,hBo.grown hg4 hBo.size (λg hg=>(aJ HR.out g hg).1)⟩
       clear sM hg4 jE
       go_wp2_with fail
       go_roundw
       case rel=>exact ⟨2,by omega,by go_num,HG.out.1,HG.out.2⟩
       case measure=>simp [intOf]
     · simp only [byN] at HR;have bP:=aB (aCZ HL1.out HL2.out HR.out hBo);obtain ⟨z1,z3,hz⟩:=bP.out.slice
       go_wp2_with fail
       go_ret;exact ⟨_,rfl,bP.out.cl,by rw [HW.out];exact hBo⟩
theorem LU (c:Cl) (cv:Value) (w:World) (hC:dQ w c cv) (hl:c.length<=1000000):
  Calls Tryz.prog 149 #[cv] w λe w'=>∃v xs,e= .returned v/\lD w.heap.size (λq=>q<w.heap.size) w' c v xs/\Below w.heap.size w w':=by
 obtain ⟨c1,c3,rfl⟩:=aK hC;obtain ⟨n1,hL1,hC1⟩:=aHH hC;have HL1:=aB hL1;have HC1:=aB hC1;have hnil:=λ(w:World) (a:Option Addr) (n c:Nat)=>Lib.run_eql_slice_nil (P:=Tryz.prog) w 44 86 a n c 0 0 Tryz.underlying44;cases c1 with
 |none=>
  have h0:c=[]:=by
   obtain ⟨a,k,b,o,e,h1,-⟩:=hC;simp only [Value.slice.injEq] at e;cases c with
   |nil=>rfl
   |cons x r=>have:=h1 (by simp);rw [←e.1] at this;cases this
  subst h0;clear hC;go_enter Tryz.func149,Tryz.ntmps149
  go_wp2_with fail
  go_ret;exact ⟨_,[],rfl,⟨World.ownsRow_nil _ _ _ _,rfl,λq hq=>⟨hq,by simp [Value.ownBlock]⟩⟩,Below.refl _ _⟩
 |some ad=>
  obtain ⟨iL,hi,hz0,hz1,hz2⟩:=info_parts Tryz.info86;have oL:Hid ((w.alloc (.cells #[] 86)).ownsRow w.heap.size 86 7 (.slice (some ⟨w.heap.size,0,none⟩) 0 0) 0 []):=J2 (heap_alloc_new w _) (Nat.le_refl _);have hb1:=aD w (.cells #[] 86);have Hb1:=aB hb1;have hx1:0+c.length<=maxLen:=by unfold maxLen;omega
  have hx2:(0+c.length)*88<=140737488355328:=by omega
  clear hC hL1 hC1 hb1;go_enter Tryz.func149,Tryz.ntmps149
  go_wp2_with (at_builtin;refine bX rfl (.tmp 5) (.tmp 6) 44 rfl w.heap.size 86 iL nP 7 88 Tryz.underlying44 hi hz0 hz1 hz2 rfl (by decide) _ 0 [] rfl oL.out _ c.length n1 rfl (HC1.out _ Hb1.out) hx1 hx2 Hb1.out.size ?_;intro v4 w4 sM hg4 jE)
  have HG:Hid (lD w.heap.size (λq=>q<w.heap.size) w4 (c++[]) v4 (n1++[])/\Below w.heap.size w w4):=by have hb4:Below w.heap.size w w4:=Hb1.out.grown hg4 Hb1.out.size (λg hg=>(aJ oL.out g hg).1);exact ⟨aCZ HL1.out (show LC _ w [] [] from rfl) (by simpa using sM) hb4,hb4⟩
  rw [List.append_nil,List.append_nil] at HG;obtain ⟨z1,z3,hz⟩:=HG.out.1.slice;clear sM hg4 jE
  go_wp2_with fail
  go_ret;exact ⟨_,_,rfl,HG.out.1,HG.out.2⟩
theorem vV (c:Cl) (cv:Value) (i:Nat) (w:World) (hS:dQ w c cv) (hi:i<c.length) (hlen:c.length<=1000000):
  Calls Tryz.prog 110 #[cv,.int .i64 i] w λe w'=>∃v,e= .returned v/\dQ w' (jM c i) v/\Below w.heap.size w w':=by
 obtain ⟨a1,c1,b1,o1,rfl,eZ,uY,hcm1,hF1⟩:=hS;have ha1:a1=some ⟨b1,o1,none⟩:=eZ (by omega);subst ha1;obtain ⟨ad,hsl,hadd⟩:=wH (n:=c.length) (j:=i+1) (c:=c1) (b:=b1) (o:=o1) (by omega) uY;have hsa:=λw=>K8 (n:=c.length) (j:=i) (c:=c1) (b:=b1) (o:=o1) (by omega) uY w;have hi':(i:Int)<(c.length:Int):=by omega
 have aS4:∀w:World,(Instr.slice 44 (.slice (some ⟨b1,o1,none⟩) c.length c1) (some (.int .i64 ((i:Int)+1))) none none).run Tryz.prog w= .ok (.slice (some ad) (c.length - (i+1)) (c1 - (i+1))) w:=λw=>by
  have:=hsl w
  rwa [show ((i+1:Nat):Int)=(i:Int)+1 by omega] at this
 have hwr:IntKind.i64.wrap ((i:Int)+1)=(i:Int)+1:=by rw [IntKind.wrap_i64];omega
 have hi0:(0:Int)<=(i:Int):=by omega
 have hT:dQ w (c.take i) (.slice (some ⟨b1,o1,none⟩) i c1):=⟨_,c1,b1,o1,by rw [List.length_take,Nat.min_eq_left (by omega)],λ_=>rfl,by rw [List.length_take];omega,hcm1,WK i hF1⟩;have hD:dQ w (c.drop (i+1)) (.slice (some ad) (c.length - (i+1)) (c1 - (i+1))):=⟨_,c1 - (i+1),b1,o1+(i+1)*7,by rw [List.length_drop],λh=>by rw [hadd (by rw [List.length_drop] at h;omega)],by rw [List.length_drop];omega,by omega,WN (i+1) hF1⟩;have Hb0:Hid (Below w.heap.size w ((w.alloc (.cells #[.slice (some ⟨b1,o1,none⟩) i c1,.slice (some ad) (c.length - (i+1)) (c1 - (i+1))] 44)).drew)):=((Below.refl _ _).alloc (Nat.le_refl _) _).drew;have q0:((w.alloc (.cells #[.slice (some ⟨b1,o1,none⟩) i c1,.slice (some ad) (c.length - (i+1)) (c1 - (i+1))] 44)).drew).cell? ⟨w.heap.size,0,none⟩=some (.slice (some ⟨b1,o1,none⟩) i c1):=aA (Below.refl _ _).drew _ _ (aF rfl);have q1:((w.alloc (.cells #[.slice (some ⟨b1,o1,none⟩) i c1,.slice (some ad) (c.length - (i+1)) (c1 - (i+1))] 44)).drew).cell? ⟨w.heap.size,0+1,none⟩=some (.slice (some ad) (c.length - (i+1)) (c1 - (i+1))):=aA (Below.refl _ _).drew _ _ (aF rfl);have Hc:=aB (tY _ _ _ _ w.heap.size 0 2 _ (hT.below Hb0.out) (hD.below Hb0.out) q0 q1 (by rw [List.length_take,List.length_drop];omega));clear q0 q1 hT hD eZ hF1 hadd hsl uY hcm1;go_enter Tryz.func110,Tryz.ntmps110
 go_upto_region 1 with fail
 go_region_held3 (λ_=>True) (trivial)
  (first
    |(go_at_call 142;with_reducible refine Hc.out.mono ?_;rintro e w4 ⟨v4,rfl,hO4,hb4⟩;have QJ:=aB (And.intro hO4 hb4);clear hO4 hb4))
 obtain ⟨r1,r3,hv5⟩:=aK QJ.out.1
 go_wp2_with fail
 go_ret;exact ⟨v4,rfl,QJ.out.1,aC Hb0.out QJ.out.2⟩
section
attribute [local go_sem ↓] Go.wp_at_zero Go.wp_at_succ
theorem aB6 (x d:Cl) (x1 d1:Option Addr) (x3 d3:Nat) (nb:Nat) (w:World) (hX:dQ w x (.slice x1 x.length x3)) (hD:dQ w d (.slice d1 d.length d3)) (hn:w.cell? ⟨nb,0,none⟩=some (.slice d1 d.length d3)):
  Calls Tryz.prog 141 #[.slice x1 x.length x3,.pointer (some ⟨nb,0,none⟩)] w λe w'=>e= .returned (.bool (dH x d))/\Below w.heap.size w w':=by
 have Hs:=aB (EF x d _ _ w hX hD);generalize hB:dH x d=B at*;clear hX hD hB;go_enter Tryz.func141,Tryz.ntmps141
 go_wp2_with fail
 refine Hs.out.mono ?_;rintro e w2 ⟨rfl,hb2⟩;clear Hs
 go_wp2_with fail
 go_ret;exact ⟨rfl,hb2⟩
theorem aBO (cs:List Cl) (d:Cl) (v:Value) (d1:Option Addr) (d3 nb:Nat) (w:World) (hS:mD w cs v) (hD:dQ w d (.slice d1 d.length d3)) (hn:w.cell? ⟨nb,0,none⟩=some (.slice d1 d.length d3)):
  Calls Tryz.prog 164 #[v,.func (.func 141) #[] #[.pointer (some ⟨nb,0,none⟩)]] w λe w'=>∃i:Int,e= .returned (.int .i64 i)/\decide (0<=i)=cs.any (λx=>dH x d)/\Below w.heap.size w w':=by
 obtain ⟨a1,c1,gb,go,rfl,had,hlc,hcm,hEl⟩:=hS;unfold maxLen at hcm;have HEl:=aB hEl;have HN:=aB hD;have Hn:=aB hn;clear hEl hD hn;go_enter Tryz.func164,Tryz.ntmps164
 go_wp2_with fail
 go_loopw [8] (λi wr=>∃j:Nat,j<=cs.length/\i= .int .i64 j/\(∀i,i<j->∀x,cs[i]?=some x->dH x d=false)/\Below w.heap.size w wr) (λi _=>cs.length - (intOf i).toNat)
 case atStart=>exact ⟨0,Nat.zero_le _,rfl,λi hi=>by omega,Below.refl _ _⟩
 case round=>
  obtain ⟨j,hj,rfl,hno,hBr⟩:=hrel;have Hno:=aB hno;clear hno;by_cases hlt:j<cs.length
  · have hlt':(j:Int)<(cs.length:Int):=by omega
    obtain ⟨x,hx⟩:∃x,cs[j]?=some x:=⟨cs[j]'hlt,by simp⟩;obtain ⟨xv,p0,hX⟩:=HEl.out j x hx;replace p0:=aA hBr _ _ p0;have HX:=aB (hX.below hBr);obtain ⟨x1,x3,rfl⟩:=aK hX;have ha1:a1=some ⟨gb,go,none⟩:=had (by omega);subst ha1;have Hx:=aB hx;clear hx had hX
    go_wp2_with fail
    refine (aB6 x d x1 d1 x3 d3 nb wr HX.out (HN.out.below hBr) (aA hBr _ _ Hn.out)).mono ?_;rintro e w5 ⟨rfl,hb5⟩;replace hBr:=aC hBr hb5;clear hb5;cases hs:dH x d
    · have uD:Hid (∀i,i<j+1->∀x,cs[i]?=some x->dH x d=false):=λi hi y hy=>by
       by_cases e:i=j
       · rw [e,Hx.out] at hy;cases hy;exact hs
       · exact Hno.out i (by omega) y hy
      clear hs
      go_wp2_with fail
      go_roundw
      case rel=>exact ⟨j+1,by omega,by go_num,uD.out,hBr⟩
      case measure=>simp [intOf];omega
    · have Hf:Hid (decide ((0:Int)<=(j:Int))=cs.any (λx=>dH x d)):=by
       rw [Hid,List.any_eq_true.2 ⟨x,List.mem_of_getElem? Hx.out,hs⟩];simp
      clear hs
      go_wp2_with fail
      go_ret;exact ⟨_,rfl,Hf.out,hBr⟩
  · have Hf:Hid (decide ((0:Int)<= -1)=cs.any (λx=>dH x d)):=by
     have hany:cs.any (λx=>dH x d)=false:=by rw [List.any_eq_false];intro x hx;obtain ⟨i,hi⟩:=List.mem_iff_getElem?.1 hx;have:=(List.getElem?_eq_some_iff.1 hi).1;simp [Hno.out i (by omega) x hi]
     rw [Hid,hany];decide
    clear had
    go_wp2_with fail
    go_ret;exact ⟨_,rfl,Hf.out,hBr⟩
theorem M9 (cs:List Cl) (d:Cl) (v:Value) (d1:Option Addr) (d3 nb:Nat) (w:World) (hS:mD w cs v) (hD:dQ w d (.slice d1 d.length d3)) (hn:w.cell? ⟨nb,0,none⟩=some (.slice d1 d.length d3)):
  Calls Tryz.prog 140 #[v,.func (.func 141) #[] #[.pointer (some ⟨nb,0,none⟩)]] w λe w'=>e= .returned (.bool (cs.any (λx=>dH x d)))/\Below w.heap.size w w':=by
 have Hi:=aB (aBO cs d v d1 d3 nb w hS hD hn);obtain ⟨z1,z3,rfl⟩:=FM hS;clear hS hD hn;go_enter Tryz.func140,Tryz.ntmps140
 go_wp2_with fail
 refine Hi.out.mono ?_;rintro e w2 ⟨i,rfl,hi,hb2⟩;have Hd:=aB hi;clear hi Hi
 go_wp2_with fail
 go_ret;exact ⟨by rw [←Hd.out];rfl,hb2⟩
theorem o8 {w:World} {o:Oper} {a:Act} {K:Act->World->Prop} {Q:Exit->Act->World->Prop} (s x:Operand) (t:TypeId)
  (ho:o.op= .call {callee:= .builtin .append,args:=#[s,x],argTypes:=#[t,t]}) (v lv v4:Value) (w4:World) (hs:a.eval s=v) (hx:a.eval x=lv) (hr:(Builtin.append_ #[t,t] o.type #[v,lv]).run Tryz.prog w= .ok v4 w4)
  (h:K (a.put o.dst v4) w4):o.wp Tryz.prog a w K Q:=by
 unfold Oper.wp execOp;simp only [ho,resolve,invoke,builtin,Sem.run_bind,Sem.run_pure,Result.andThen_ok,List.map_toArray,List.map_cons,List.map_nil,hs,hx,hr];exact h
def CY:Nat->List Nat
 |2=>[1]
 |3=>[2]
 |4=>[3]
 |6=>[5]
 |7=>[4,6]
 |8=>[0]
 |9=>[8]
 |10=>[9,7]
 |_=>[]
theorem aT8 {D:Nat->Bool} (h:CLo CY D) (h9:D 9=true) (h7:D 7=true):∀i,i<11->(i==10||D i)=true:=by have h8:=h 9 h9 8 (by decide);have h0:=h 8 h8 0 (by decide);have h4:=h 7 h7 4 (by decide);have h6:=h 7 h7 6 (by decide);have h5:=h 6 h6 5 (by decide);have h3:=h 4 h4 3 (by decide);have h2:=h 3 h3 2 (by decide);have h1:=h 2 h2 1 (by decide);intro i hi;rcases (by omega:i=0\/i=1\/i=2\/i=3\/i=4\/i=5\/i=6\/i=7\/i=8\/i=9\/i=10) with rfl|rfl|rfl|rfl|rfl|rfl|rfl|rfl|rfl|rfl|rfl<;>simp [*]
structure wK (W:World) (p:Nat) (v kv:Value) (T7:World->Value->Prop) (D:Nat->Bool) (w:World) (zQ zP zO jR jX jW fE fD fC fB:Value):Prop where
 hb:D 7=false->Below W.heap.size W w
 h0:D 0=true->zQ= .pointer (some ⟨p,0,none⟩)
 h1:D 1=true->zP= .pointer (some ⟨p,0,none⟩)
 h2:D 2=true->zO= .pointer (some ⟨p,0,none⟩)
 h3:D 3=true->jR= .pointer (some ⟨p,0,none⟩)
 h4:D 4=true->jX=v
 h5:D 5=true->jW=kv
 h6:D 6=true->D 7=false->∃g,fE= .slice (some ⟨g,0,none⟩) 1 1/\w.cell? ⟨g,0,none⟩=some kv
 h7:D 7=true->T7 w fD
 h8:D 8=true->fC= .pointer (some ⟨p,0,none⟩)
 h9:D 9=true->fB= .pointer (some ⟨p,0,none⟩)
section
variable {W:World} {p:Nat} {v kv:Value} {T7:World->Value->Prop} {D:Nat->Bool} {w:World} {zQ zP zO jR jX jW fE fD fC fB:Value}
theorem wK.at0 (h:wK W p v kv T7 D w zQ zP zO jR jX jW fE fD fC fB):wK W p v kv T7 (λj=>j==0||D j) w (.pointer (some ⟨p,0,none⟩)) zP zO jR jX jW fE fD fC fB:=
 ⟨h.hb,λ_=>rfl,h.h1,h.h2,h.h3,h.h4,h.h5,h.h6,h.h7,h.h8,h.h9⟩
theorem wK.at1 (h:wK W p v kv T7 D w zQ zP zO jR jX jW fE fD fC fB):wK W p v kv T7 (λj=>j==1||D j) w zQ (.pointer (some ⟨p,0,none⟩)) zO jR jX jW fE fD fC fB:=
 ⟨h.hb,h.h0,λ_=>rfl,h.h2,h.h3,h.h4,h.h5,h.h6,h.h7,h.h8,h.h9⟩
theorem wK.at2 (h:wK W p v kv T7 D w zQ zP zO jR jX jW fE fD fC fB):wK W p v kv T7 (λj=>j==2||D j) w zQ zP (.pointer (some ⟨p,0,none⟩)) jR jX jW fE fD fC fB:=
 ⟨h.hb,h.h0,h.h1,λ_=>rfl,h.h3,h.h4,h.h5,h.h6,h.h7,h.h8,h.h9⟩
theorem wK.at3 (h:wK W p v kv T7 D w zQ zP zO jR jX jW fE fD fC fB):wK W p v kv T7 (λj=>j==3||D j) w zQ zP zO (.pointer (some ⟨p,0,none⟩)) jX jW fE fD fC fB:=
 ⟨h.hb,h.h0,h.h1,h.h2,λ_=>rfl,h.h4,h.h5,h.h6,h.h7,h.h8,h.h9⟩
theorem wK.at4 (h:wK W p v kv T7 D w zQ zP zO jR jX jW fE fD fC fB):wK W p v kv T7 (λj=>j==4||D j) w zQ zP zO jR (v) jW fE fD fC fB:=
 ⟨h.hb,h.h0,h.h1,h.h2,h.h3,λ_=>rfl,h.h5,h.h6,h.h7,h.h8,h.h9⟩
theorem wK.at5 (h:wK W p v kv T7 D w zQ zP zO jR jX jW fE fD fC fB):wK W p v kv T7 (λj=>j==5||D j) w zQ zP zO jR jX (kv) fE fD fC fB:=
 ⟨h.hb,h.h0,h.h1,h.h2,h.h3,h.h4,λ_=>rfl,h.h6,h.h7,h.h8,h.h9⟩
theorem wK.at8 (h:wK W p v kv T7 D w zQ zP zO jR jX jW fE fD fC fB):wK W p v kv T7 (λj=>j==8||D j) w zQ zP zO jR jX jW fE fD (.pointer (some ⟨p,0,none⟩)) fB:=
 ⟨h.hb,h.h0,h.h1,h.h2,h.h3,h.h4,h.h5,h.h6,h.h7,λ_=>rfl,h.h9⟩
theorem wK.at9 (h:wK W p v kv T7 D w zQ zP zO jR jX jW fE fD fC fB):wK W p v kv T7 (λj=>j==9||D j) w zQ zP zO jR jX jW fE fD fC (.pointer (some ⟨p,0,none⟩)):=
 ⟨h.hb,h.h0,h.h1,h.h2,h.h3,h.h4,h.h5,h.h6,h.h7,h.h8,λ_=>rfl⟩
theorem wK.at6 (h:wK W p v kv T7 D w zQ zP zO jR jX jW fE fD fC fB) (h7:D 7=false):wK W p v kv T7 (λj=>j==6||D j) (w.alloc (.cells #[kv] 44)) zQ zP zO jR jX jW (.slice (some ⟨w.heap.size,0,none⟩) 1 1) fD fC fB:=
 ⟨λ_=>(h.hb h7).alloc (h.hb h7).size _,h.h0,h.h1,h.h2,h.h3,h.h4,h.h5,λ_ _=>⟨w.heap.size,rfl,aF rfl⟩,λe=>(by rw [show D 7=true from e] at h7;cases h7),h.h8,h.h9⟩
theorem wK.at7 (h:wK W p v kv T7 D w zQ zP zO jR jX jW fE fD fC fB) {w4:World} {v4:Value} (ht:T7 w4 v4):wK W p v kv T7 (λj=>j==7||D j) w4 zQ zP zO jR jX jW fE v4 fC fB:=
 ⟨λe=>(by cases e),h.h0,h.h1,h.h2,h.h3,h.h4,h.h5,λ_ e=>(by cases e),λ_=>ht,h.h8,h.h9⟩
theorem wK.start (h:Below W.heap.size W w):wK W p v kv T7 (λ_=>false) w zQ zP zO jR jX jW fE fD fC fB:=
 ⟨λ_=>h,λe=>(by cases e),λe=>(by cases e),λe=>(by cases e),λe=>(by cases e),λe=>(by cases e),λe=>(by cases e),λe=>(by cases e),λe=>(by cases e),λe=>(by cases e),λe=>(by cases e)⟩
end
theorem YT (lo p:Nat) (cs:List Cl) (lost:Bool) (v:Value) (xs:List Value) (b:Sb) (bv:Value) (c:Cl) (cv:Value) (w:World) (hL:uC lo w p cs lost v xs) (hV:dZ w b bv) (hC:dQ w c cv) (hb:∀q∈b,jD q.2/\gN q.2)
  (hc:∀l∈c,jD l.2.1/\jD l.2.2) (hlen:c.length<=8) (hcl:cs.length<=1000000) (hg:GX (c.map (bK (aH (aV b))))):
  Calls Tryz.prog 109 #[.pointer (some ⟨p,0,none⟩),bv,cv] w (vT lo w p (cs,lost) (bS (c.map (bK (aH (aV b))))) v):=by
 have HL:=aB hL;have HV:=aB hV;have HC:=aB hC;have Hb:=aB hb;have Hc:=aB hc;have Hg:=aB hg;obtain ⟨c1,c3,rfl⟩:=aK hC;obtain ⟨b1,b3,rfl⟩:=gG hV;obtain ⟨v1,v3,rfl⟩:=hL.slice;clear hL hV hC hb hc hg;go_enter Tryz.func109,Tryz.ntmps109
 go_wp2_with fail
 refine (zJ b _ c _ w HV.out Hb.out HC.out Hc.out (by omega)).mono ?_;rintro e w1 ⟨g,rfl,hO,hb1⟩;have Hn:=aB (EQ (c.map (bK (aH (aV b)))) _ w1 hO Hg.out);clear hO
 go_wp2_with fail
 with_reducible refine Hn.out.mono ?_
 rintro e w2 ⟨nv,rfl,hN,hb2⟩;have hB2:=aC hb1 hb2;have HN:=aB hN;obtain ⟨n1,n3,rfl⟩:=aK hN;replace HL:=aB (HL.out.below hB2);clear hN hb2 hb1 Hn Hg;generalize bS (c.map (bK (aH (aV b))))=nc at*
 go_upto_region 1 with fail
 generalize hW3:w2.alloc (.cells #[.slice n1 nc.2.length n3] 44)=W3;have aOX:Below w2.heap.size w2 W3:=by rw [←hW3];exact aD _ _
 have hB3:=aC hB2 aOX;have m0:W3.cell? ⟨w2.heap.size,0,none⟩=some (.slice n1 nc.2.length n3):=by rw [←hW3];exact aF rfl
 replace HL:=aB (HL.out.below aOX);replace HN:=aB (HN.out.below aOX);have Hw:=aB hB3;clear hW3;have k1:=HL.out.c1;have kf:=HL.out.fz;have k0:=HL.out.c0;by_cases h4:nc.1=4
 · have Hf:=aB (aGH (st:=(cs,lost)) h4);have Hs:=aB HL.out.lose;rw [h4]
   go_wp2_with fail
   refine bodyPost_ret (results_none rfl _ _ _) rfl ⟨rfl,_,xs,by rw [Hf.out];exact Hs.out.1,?_,.inl rfl⟩;exact (Fr.of_below Hw.out (some p) _).trans Hs.out.2 (λq hq h=>h)
 by_cases h0:nc.1=0
 case' neg=>
  have xJ:(nc.1 !=0)=true:=by simp [h0]
  have he4:(nc.1==4)=false:=by simp [h4]
  have Hf:=aB (aGG (st:=(cs,lost)) h4 h0);clear h0 h4
  go_wp2_with fail
  refine bodyPost_ret (results_none rfl _ _ _) rfl ⟨rfl,_,xs,by rw [Hf.out];exact HL.out,Fr.of_below Hw.out _ _,.inl rfl⟩
 case' pos=>
  have H0:=aB h0;rw [h0];clear h4 h0;have cZ:=aB (M9 cs nc.2 _ n1 n3 w2.heap.size W3 HL.out.csin HN.out m0);generalize hany:cs.any (λx=>dH x nc.2)=any at cZ;have aKZ:=aB hany;clear hany
  go_wp2_with fail
  refine cZ.out.mono ?_;rintro e w4 ⟨rfl,hb4⟩;have hB4:=aC hB3 hb4;replace HL:=aB (HL.out.below hb4);replace HN:=aB (HN.out.below hb4);replace Hw:=aB hB4;replace m0:=aA hb4 _ _ m0;clear cZ k0 k1 kf;cases any
  · have Hf:=aB (aKA (st:=(cs,lost)) H0.out aKZ.out);have k0:=HL.out.c0;have kf:=HL.out.fz;clear hb4 aKZ
    go_upto_region 5 with fail
    have Hop:=aB HL.out;obtain ⟨iC,hiC,hz0,hz1,hz2⟩:=info_parts Tryz.info44;have HiC:=aB (And.intro hiC (And.intro hz0 (And.intro hz1 hz2)));clear hiC hz0 hz1 hz2;refine lU (λD a w'=>((D 10=false/\CLo CY D)/\∃zQ zP zO jR jX jW fE fD fC fB:Value,a=⟨#[Value.pointer (some {block:=p,off:=0}),Value.slice b1 (List.length b) b3,Value.slice c1 (List.length c) c3,undef,undef,undef,Value.pointer (some {block:=w2.heap.size,off:=0}),Value.int IntKind.i64 0,Value.tuple #[Value.slice n1 (List.length nc.snd) n3,Value.int IntKind.i64 0],Value.slice b1 (List.length b) b3,Value.slice c1 (List.length c) c3,Value.slice (some {block:=g,off:=0}) (List.length c) (List.length c),Value.tuple #[Value.slice n1 (List.length nc.snd) n3,Value.int IntKind.i64 0],Value.slice n1 (List.length nc.snd) n3,Value.int IntKind.i64 0,Value.int IntKind.i64 0,Value.bool false,undef,undef,undef,Value.int IntKind.i64 0,Value.bool false,Value.pointer (some {block:=p,off:=0}),Value.pointer (some {block:=p,off:=0}),Value.pointer (some {block:=p,off:=0}),Value.slice v1 cs.length v3,Value.func (Fn.func 141) #[] #[Value.pointer (some {block:=w2.heap.size,off:=0})],Value.bool false,Value.bool true,zQ,zP,zO,jR,jX,jW,fE,fD,fC,fB],[]⟩/\wK w4 p (.slice v1 cs.length v3) (.slice n1 nc.2.length n3) (λ(w5:World) (u:Value)=>∃w3,Below w4.heap.size w4 w3/\w5.ownsRow lo 44 1 u (cs.length+1) (xs++[.slice n1 nc.2.length n3])/\w3.grownBy w5 (Value.slice v1 cs.length v3).ownBlock/\(u.ownBlock=(Value.slice v1 cs.length v3).ownBlock\/u.ownBlock=some w3.heap.size)/\∀g,u.ownBlock=some g->SlR w5 g) D w' zQ zP zO jR jX jW fE fD fC fB)\/((∀i,i<11->D i=true)/\vT lo w p (cs,lost) nc (.slice v1 cs.length v3) (.returned (.tuple #[])) w'/\∃zQ zP zO jR jX jW fE fD fC fB:Value,a=⟨#[Value.pointer (some {block:=p,off:=0}),Value.slice b1 (List.length b) b3,Value.slice c1 (List.length c) c3,undef,undef,undef,Value.pointer (some {block:=w2.heap.size,off:=0}),Value.int IntKind.i64 0,Value.tuple #[Value.slice n1 (List.length nc.snd) n3,Value.int IntKind.i64 0],Value.slice b1 (List.length b) b3,Value.slice c1 (List.length c) c3,Value.slice (some {block:=g,off:=0}) (List.length c) (List.length c),Value.tuple #[Value.slice n1 (List.length nc.snd) n3,Value.int IntKind.i64 0],Value.slice n1 (List.length nc.snd) n3,Value.int IntKind.i64 0,Value.int IntKind.i64 0,Value.bool false,undef,undef,undef,Value.int IntKind.i64 0,Value.bool false,Value.pointer (some {block:=p,off:=0}),Value.pointer (some {block:=p,off:=0}),Value.pointer (some {block:=p,off:=0}),Value.slice v1 cs.length v3,Value.func (Fn.func 141) #[] #[Value.pointer (some {block:=w2.heap.size,off:=0})],Value.bool false,Value.bool true,zQ,zP,zO,jR,jX,jW,fE,fD,fC,fB],[]⟩)) (by kernel_rfl) (by kernel_rfl) ?_ ?_ (.inl ⟨⟨rfl,λk hk=>by cases hk⟩,_,_,_,_,_,_,_,_,_,_,rfl,wK.start (Below.refl _ _).drew⟩)
    · rintro D a w' i hop hi (⟨⟨h10,hcl⟩,zQ,zP,zO,jR,jX,jW,fE,fD,fC,fB,rfl,hI⟩|⟨hall,-⟩) hD ho aI
      · have HI:=aB hI;have H10:=aB h10;have dI:=aB hcl;clear hI h10 hcl;have hi':i<11:=hi;clear hi;rcases (by omega:i=0\/i=1\/i=2\/i=3\/i=4\/i=5\/i=6\/i=7\/i=8\/i=9\/i=10) with rfl|rfl|rfl|rfl|rfl|rfl|rfl|rfl|rfl|rfl|rfl
        · obtain rfl:=Option.some.inj ho;have cZ:=aB (aO dI.out 0 (λm hm=>by simp only [CY,List.not_mem_nil] at hm));clear ho aI hD;refine wpOp_step rfl (λK hK=>?_);go_simp;exact hK _ _ (.inl ⟨⟨H10.out,cZ.out⟩,_,_,_,_,_,_,_,_,_,_,rfl,HI.out.at0⟩)
        · obtain rfl:=Option.some.inj ho;have cZ:=aB (aO dI.out 1 (λm hm=>by simp only [CY,List.not_mem_nil] at hm));clear ho aI hD;refine wpOp_step rfl (λK hK=>?_);go_simp;exact hK _ _ (.inl ⟨⟨H10.out,cZ.out⟩,_,_,_,_,_,_,_,_,_,_,rfl,HI.out.at1⟩)
        · obtain rfl:=Option.some.inj ho;have x1:=aI ⟨1,.data⟩ (by simp) rfl;have cZ:=aB (aO dI.out 2 (λm hm=>by simp only [CY,List.mem_cons,List.not_mem_nil,or_false] at hm;subst hm;assumption));have d1:=HI.out.h1 x1;subst d1;clear ho aI hD;refine wpOp_step rfl (λK hK=>?_);go_simp;exact hK _ _ (.inl ⟨⟨H10.out,cZ.out⟩,_,_,_,_,_,_,_,_,_,_,rfl,HI.out.at2⟩)
        · obtain rfl:=Option.some.inj ho;have x2:=aI ⟨2,.data⟩ (by simp) rfl;have cZ:=aB (aO dI.out 3 (λm hm=>by simp only [CY,List.mem_cons,List.not_mem_nil,or_false] at hm;subst hm;assumption));have d2:=HI.out.h2 x2;subst d2;clear ho aI hD;refine wpOp_step rfl (λK hK=>?_);go_simp;exact hK _ _ (.inl ⟨⟨H10.out,cZ.out⟩,_,_,_,_,_,_,_,_,_,_,rfl,HI.out.at3⟩)
        · obtain rfl:=Option.some.inj ho;have x3:=aI ⟨3,.data⟩ (by simp) rfl;have cZ:=aB (aO dI.out 4 (λm hm=>by simp only [CY,List.mem_cons,List.not_mem_nil,or_false] at hm;subst hm;assumption));have d3:=HI.out.h3 x3;subst d3;have h7:D 7=false:=by
           cases e:D 7
           · rfl
           · have:=dI.out 7 e 4 (by decide);rw [hD] at this;cases this
          have c0:=aA (HI.out.hb h7) _ _ k0;clear ho aI hD;refine wpOp_step rfl (λK hK=>?_);go_simp;exact hK _ _ (.inl ⟨⟨H10.out,cZ.out⟩,_,_,_,_,_,_,_,_,_,_,rfl,HI.out.at4⟩)
        · obtain rfl:=Option.some.inj ho;have cZ:=aB (aO dI.out 5 (λm hm=>by simp only [CY,List.not_mem_nil] at hm));have h7:D 7=false:=by
           cases e:D 7
           · rfl
           · have:=dI.out 6 (dI.out 7 e 6 (by decide)) 5 (by decide);rw [hD] at this;cases this
          have c0:=aA (HI.out.hb h7) _ _ m0;clear ho aI hD;refine wpOp_step rfl (λK hK=>?_);go_simp;exact hK _ _ (.inl ⟨⟨H10.out,cZ.out⟩,_,_,_,_,_,_,_,_,_,_,rfl,HI.out.at5⟩)
        · obtain rfl:=Option.some.inj ho;have x5:=aI ⟨5,.data⟩ (by simp) rfl;have cZ:=aB (aO dI.out 6 (λm hm=>by simp only [CY,List.mem_cons,List.not_mem_nil,or_false] at hm;subst hm;assumption));have d5:=HI.out.h5 x5;subst d5;have h7:D 7=false:=by
           cases e:D 7
           · rfl
           · have:=dI.out 7 e 6 (by decide);rw [hD] at this;cases this
          have HI2:=aB (HI.out.at6 h7);clear ho aI hD;refine wpOp_step rfl (λK hK=>?_);go_simp;exact hK _ _ (.inl ⟨⟨H10.out,cZ.out⟩,_,_,_,_,_,_,_,_,_,_,rfl,HI2.out⟩)
        · obtain rfl:=Option.some.inj ho;have x4:=aI ⟨4,.data⟩ (by simp) rfl;have x6:=aI ⟨6,.data⟩ (by simp) rfl;have cZ:=aB (aO dI.out 7 (λm hm=>by simp only [CY,List.mem_cons,List.not_mem_nil,or_false] at hm;rcases hm with rfl|rfl<;>assumption));have d4:=HI.out.h4 x4;subst d4;obtain ⟨g9,r1,r2⟩:=HI.out.h6 x6 hD;have iJ:=HI.out.hb hD;have HL7:=aB (Hop.out.below iJ);obtain ⟨v6,w6,hrun,ho6,hg6,UL,aQN⟩:=MW (P:=Tryz.prog) w' 24 24 lo 44 iC 24 Tryz.underlying24 HiC.out.1 HiC.out.2.1 HiC.out.2.2.1 HiC.out.2.2.2 (.slice v1 cs.length v3) cs.length xs HL7.out.row HL7.out.sl ⟨g9,0,none⟩ 1 1 [.slice n1 nc.2.length n3] rfl (λj u hj=>by cases j with|zero=>(simp only [List.getElem?_cons_zero,Option.some.injEq] at hj;subst hj;rw [add_plain];exact r2)|succ j=>simp at hj) (λu hu=>by simp at hu;exact ⟨_,_,_,hu⟩) (by omega) (by unfold maxLen;omega) (by omega) (Nat.le_of_lt (Nat.lt_of_le_of_lt HL7.out.po.1 HL7.out.po.2));have HI2:=aB (HI.out.at7 (w4:=w6) (v4:=v6) ⟨w',iJ,ho6,hg6,UL,aQN⟩);have QT:=aB hrun;have QI:=aB r1;clear ho6 hg6 UL aQN hrun r1 r2 iJ;clear ho aI hD;refine wpOp_step rfl (λK hK=>?_);rw [if_pos (show Region.wanted _ _=true from rfl)];refine o8 (.tmp 33) (.tmp 35) 24 rfl _ _ v6 w6 rfl QI.out QT.out ?_;exact hK _ _ (.inl ⟨⟨H10.out,cZ.out⟩,_,_,_,_,_,_,_,_,_,_,rfl,HI2.out⟩)
        · obtain rfl:=Option.some.inj ho;have x0:=aI ⟨0,.data⟩ (by simp) rfl;have cZ:=aB (aO dI.out 8 (λm hm=>by simp only [CY,List.mem_cons,List.not_mem_nil,or_false] at hm;subst hm;assumption));have d0:=HI.out.h0 x0;subst d0;clear ho aI hD;refine wpOp_step rfl (λK hK=>?_);go_simp;exact hK _ _ (.inl ⟨⟨H10.out,cZ.out⟩,_,_,_,_,_,_,_,_,_,_,rfl,HI.out.at8⟩)
        · obtain rfl:=Option.some.inj ho;have x8:=aI ⟨8,.data⟩ (by simp) rfl;have cZ:=aB (aO dI.out 9 (λm hm=>by simp only [CY,List.mem_cons,List.not_mem_nil,or_false] at hm;subst hm;assumption));have d8:=HI.out.h8 x8;subst d8;clear ho aI hD;refine wpOp_step rfl (λK hK=>?_);go_simp;exact hK _ _ (.inl ⟨⟨H10.out,cZ.out⟩,_,_,_,_,_,_,_,_,_,_,rfl,HI.out.at9⟩)
        · obtain rfl:=Option.some.inj ho;have x9:=aI ⟨9,.data⟩ (by simp) rfl;have x7:=aI ⟨7,.data⟩ (by simp) rfl;have cZ:=aB (aO dI.out 10 (λm hm=>by simp only [CY,List.mem_cons,List.not_mem_nil,or_false] at hm;rcases hm with rfl|rfl<;>assumption));have d9:=HI.out.h9 x9;subst d9;obtain ⟨w3,t1,t2,t3,t4,t5⟩:=HI.out.h7 x7;obtain ⟨hP1,hP2,c0,cf⟩:=Hop.out.push HN.out t1 t2 t3 t4 t5;obtain ⟨z1,z3,hu⟩:=hP1.slice;rw [show (cs++[nc.2]).length=cs.length+1 by simp] at hu;subst hu;have qI:=aB (aT8 dI.out x9 x7)
          have bP:Hid (vT lo w p (cs,lost) nc (.slice v1 cs.length v3) (.returned (.tuple #[])) (w'.setCell ⟨p,0,none⟩ (.slice z1 (cs.length+1) z3))):=by
           refine ⟨rfl,_,_,by rw [Hf.out];exact hP1,(Fr.of_below Hw.out (some p) _).trans hP2 (λq hq h=>h),?_⟩;rcases t4 with e|e
           · exact .inl e
           · exact .inr ⟨_,e,by have:=Hw.out.size;have:=t1.size;omega⟩
          clear hP1 hP2 t1 t2 t3 t4 t5;clear ho aI hD;refine wpOp_step rfl (λK hK=>?_);go_simp;exact hK _ _ (.inr ⟨qI.out,bP.out,_,_,_,_,_,_,_,_,_,_,rfl⟩)
      · exact absurd (hall i hi) (by rw [hD];decide)
    · rintro D a w' (⟨⟨h10,-⟩,-⟩|⟨-,hfin,zQ,zP,zO,jR,jX,jW,fE,fD,fC,fB,rfl⟩) hall
      · rw [hall 10 (by decide)] at h10;cases h10
      · have bP:=aB hfin;clear hfin hall
        go_end0
        exact bP.out
  · have Hf:=aB (aKC (st:=(cs,lost)) H0.out aKZ.out);clear hb4 aKZ
    go_wp2_with fail
    refine bodyPost_ret (results_none rfl _ _ _) rfl ⟨rfl,_,xs,by rw [Hf.out];exact HL.out,Fr.of_below Hw.out _ _,.inl rfl⟩
end
section
attribute [local go_sem ↓] Go.wp_at_zero Go.wp_at_succ
theorem A9 {lo p:Nat} {cs:List Cl} {lost:Bool} {v:Value} {xs:List Value} {b:Sb} {bv:Value} {d:Cl} {dv:Value} {w:World} {a1 a2:Tm} {n:Nat} (hL:uC lo w p cs lost v xs) (hV:dZ w b bv) (hC:dQ w d dv) (ha:MI a1) (hb:MI a2) (hr:iV n [] [(a1,a2)]=some (some b))
  (hd:∀l∈d,G24 l) (hlen:d.length<=8) (hcl:cs.length<=1000000):
  Calls Tryz.prog 109 #[.pointer (some ⟨p,0,none⟩),bv,dv] w (vT lo w p (cs,lost) (bS (d.map (bK (aH (aV b))))) v):=
 YT lo p cs lost v xs b bv d dv w hL hV hC (λq hq=>⟨((vL (ha.ui hb) hr).1 q hq).nar,((vL (ha.ui hb) hr).1 q hq).ok⟩) (λl hl=>⟨(hd l hl).1.1.nar,(hd l hl).2.1.nar⟩) hlen hcl (wQ ha hb hr hlen hd)
def IG (k g:Nat):Value:= .func (.func (if k=1 then 146 else 145)) #[] #[.pointer (some ⟨g,0,none⟩)]
theorem G8 (l:Lt) (a d:Value) (g k:Nat) (hk:k<2) (w:World):(Instr.index 141 (UT l a d g) (.int .i64 (k:Int))).run Tryz.prog w= .ok (.agg #[.bool (aL (decide (k=1)) l).2.1.1.1,.int .i64 (aL (decide (k=1)) l).2.1.1.2,if k=1 then d else a,.bool (aL (decide (k=1)) l).2.2.1.1,.int .i64 (aL (decide (k=1)) l).2.2.1.2,if k=1 then a else d,IG k g]) w:=by
 obtain rfl|rfl:k=0\/k=1:=by omega
 · simp [go_sem,Instr.index,aL,IG]
 · simp [go_sem,Instr.index,aL,IG]
theorem Z8 {l:Lt} {k:Nat} (hk:k<2) {w:World} {a d:Value} (hA:cO w l.2.1.2 a) (hD:cO w l.2.2.2 d):∃(a1:Option Addr) (a3:Nat) (d1:Option Addr) (d3:Nat),cO w (aL (decide (k=1)) l).2.1.2 (.slice a1 (Fo.len (aL (decide (k=1)) l).2.1.2) a3)/\cO w (aL (decide (k=1)) l).2.2.2 (.slice d1 (Fo.len (aL (decide (k=1)) l).2.2.2) d3)/\
  ∀(g:Nat) (w':World),(Instr.index 141 (UT l a d g) (.int .i64 (k:Int))).run Tryz.prog w'= .ok (ZR (aL (decide (k=1)) l) (.slice a1 (Fo.len (aL (decide (k=1)) l).2.1.2) a3) (.slice d1 (Fo.len (aL (decide (k=1)) l).2.2.2) d3) (IG k g)) w':=by
 have H1:=hA;have H2:=hD;obtain ⟨a1,a3,_,_,rfl,-,-,-,-⟩:=hA;obtain ⟨d1,d3,_,_,rfl,-,-,-,-⟩:=hD;obtain rfl|rfl:k=0\/k=1:=by omega
 · exact ⟨a1,a3,d1,d3,H1,H2,λg w'=>G8 l _ _ g 0 (by omega) w'⟩
 · exact ⟨d1,d3,a1,a3,H2,H1,λg w'=>G8 l _ _ g 1 (by omega) w'⟩
theorem aQB {w:World} {l:Lt} {a d:Value} {T:TypeId} (hA:cO w l.2.1.2 a) (hD:cO w l.2.2.2 d):dQ (w.alloc (.cells #[.bool l.1,.bool l.2.1.1.1,.int .i64 l.2.1.1.2,a,.bool l.2.2.1.1,.int .i64 l.2.2.1.2,d] T)) [l] (.slice (some ⟨w.heap.size,0,none⟩) 1 1):=
 ⟨_,1,w.heap.size,0,rfl,λ_=>rfl,Nat.le_refl _,by unfold maxLen;omega,⟨aF rfl,aF rfl,aF rfl,⟨a,aF rfl,hA.alloc _⟩,aF rfl,aF rfl,d,aF rfl,hD.alloc _⟩,trivial⟩
theorem aMT {U:Tm->Tm->Option Sb} {c:Cl} {i:Nat} {x y:Lt} {st:List Cl×Bool} {k m:Nat} (hk:k<2) (hm:m<2):uP U c i x y st (2*k+m)=MO st (U (aL (decide (k=1)) x).2.1 (aL (decide (m=1)) y).2.1) (jM c i++[(true,(aL (decide (k=1)) x).2.2,(aL (decide (m=1)) y).2.2)]):=by
 obtain rfl|rfl:k=0\/k=1:=by omega
 · obtain rfl|rfl:m=0\/m=1:=by omega
   · rfl
   · rfl
 · obtain rfl|rfl:m=0\/m=1:=by omega
   · rfl
   · rfl
theorem L8 {U:Tm->Tm->Option Sb} (hU:CQ U) {lo p:Nat} {c:Cl} {i:Nat} {x y:Lt} {st:List Cl×Bool} {v:Value} {xs:List Value} {rv:Value} {a1 d1 e1 f1:Option Addr} {a3 d3 e3 f3:Nat} {w:World} (hL:uC lo w p st.1 st.2 v xs) (hR:dQ w (jM c i) rv)
  (hA:cO w x.2.1.2 (.slice a1 (Fo.len x.2.1.2) a3)) (hD:cO w x.2.2.2 (.slice d1 (Fo.len x.2.2.2) d3)) (hE:cO w y.2.1.2 (.slice e1 (Fo.len y.2.1.2) e3)) (hG:cO w y.2.2.2 (.slice f1 (Fo.len y.2.2.2) f3)) (hc:∀l∈c,l9 l) (hx:l9 x) (hy:l9 y) (h4:c.length<=4) (hn:st.1.length<=100000):
  Calls Tryz.prog 111 #[.pointer (some ⟨p,0,none⟩),rv,uO x (.slice a1 (Fo.len x.2.1.2) a3) (.slice d1 (Fo.len x.2.2.2) d3),uO y (.slice e1 (Fo.len y.2.1.2) e3) (.slice f1 (Fo.len y.2.2.2) f3)] w λe w'=>e= .returned (.tuple #[])/\∃v' xs',LK lo p w v (bF (uP U c i x y) st 4) v' xs' w':=by
 obtain ⟨xn,⟨⟨xv,xi⟩,xk⟩,⟨iH,iZ⟩,gM⟩:=x;obtain ⟨yn,⟨⟨yv,yi⟩,yk⟩,⟨bB,bH⟩,aZ⟩:=y;obtain ⟨xS,rw3,rfl⟩:=aK hR;have HU:=aB hU;have HL:=aB hL;have HR:=aB hR;have HA:=aB hA;have HD:=aB hD;have HE:=aB hE;have HG:=aB hG;have Hc:=aB hc;have Hx:=aB hx;have Hy:=aB hy;have Hlen:Hid (∀q,(bF (uP U c i (xn,((xv,xi),xk),((iH,iZ),gM)) (yn,((yv,yi),yk),((bB,bH),aZ))) st q).1.length<=st.1.length+q):=λq=>by have:=eX (m:=1) (WU U c i (xn,((xv,xi),xk),((iH,iZ),gM)) (yn,((yv,yi),yk),((bB,bH),aZ))) st q;omega
 have Hn:=aB hn;have hbl:(jM c i).length<=4:=by have:=tF (c:=c) (i:=i);omega
 simp only at*;clear hU hL hR hA hD hE hG hc hx hy hn;go_enter Tryz.func111,Tryz.ntmps111
 go_upto_region 1 with fail
 generalize hW1:(w.alloc (.cells #[.bool xn,.bool xv,.int .i64 xi,.slice a1 (Fo.len xk) a3,.bool iH,.int .i64 iZ,.slice d1 (Fo.len gM) d3] 86)).alloc (.cells #[.bool yn,.bool yv,.int .i64 yi,.slice e1 (Fo.len yk) e3,.bool bB,.int .i64 bH,.slice f1 (Fo.len aZ) f3] 86)=W1;have hB1:Below w.heap.size w W1:=by rw [←hW1];exact (aD _ _).alloc (by simp) _
 have HX1:Hid (bT W1 w.heap.size [.bool xn,.bool xv,.int .i64 xi,.slice a1 (Fo.len xk) a3,.bool iH,.int .i64 iZ,.slice d1 (Fo.len gM) d3]):=by rw [Hid,←hW1];exact (bT.new w #[.bool xn,.bool xv,.int .i64 xi,.slice a1 (Fo.len xk) a3,.bool iH,.int .i64 iZ,.slice d1 (Fo.len gM) d3] 86).below (aD _ _)
 have HY1:Hid (bT W1 (w.heap.size+1) [.bool yn,.bool yv,.int .i64 yi,.slice e1 (Fo.len yk) e3,.bool bB,.int .i64 bH,.slice f1 (Fo.len aZ) f3]):=by have h2:=bT.new (w.alloc (.cells #[.bool xn,.bool xv,.int .i64 xi,.slice a1 (Fo.len xk) a3,.bool iH,.int .i64 iZ,.slice d1 (Fo.len gM) d3] 86)) #[.bool yn,.bool yv,.int .i64 yi,.slice e1 (Fo.len yk) e3,.bool bB,.int .i64 bH,.slice f1 (Fo.len aZ) f3] 86;rw [World.size_alloc] at h2;rw [Hid,←hW1];exact h2
 clear hW1;have p0:W1.cell? ⟨w.heap.size,0,none⟩=some (.bool xn):=HX1.out 0 _ rfl;have p1:W1.cell? ⟨w.heap.size,1,none⟩=some (.bool xv):=HX1.out 1 _ rfl;have p2:W1.cell? ⟨w.heap.size,2,none⟩=some (.int .i64 xi):=HX1.out 2 _ rfl;have p3:W1.cell? ⟨w.heap.size,3,none⟩=some (.slice a1 (Fo.len xk) a3):=HX1.out 3 _ rfl;have p4:W1.cell? ⟨w.heap.size,4,none⟩=some (.bool iH):=HX1.out 4 _ rfl;have p5:W1.cell? ⟨w.heap.size,5,none⟩=some (.int .i64 iZ):=HX1.out 5 _ rfl;have p6:W1.cell? ⟨w.heap.size,6,none⟩=some (.slice d1 (Fo.len gM) d3):=HX1.out 6 _ rfl
 go_wp2_with fail
 refine (pE (xn,((xv,xi),xk),((iH,iZ),gM)) a1 d1 _ _ _ _ W1).mono ?_;rintro e w2 ⟨rfl,-,hb2⟩;have hB2:=aC hB1 hb2;have HY2:=aB (HY1.out.below hb2);have HL2:=aB (HL.out.below hB2);have HLK:=aB ((LK.start HL.out).below hB2);replace HR:=aB (HR.out.below hB2);replace HA:=aB (HA.out.below hB2);replace HD:=aB (HD.out.below hB2);replace HE:=aB (HE.out.below hB2);replace HG:=aB (HG.out.below hB2);clear hb2 p0 p1 p2 p3 p4 p5 p6 HX1 HY1;generalize W1.heap.size=gx at*;clear hB1;simp only
 go_wp2_with fail
 go_loopw [17] (λq wr=>∃(k:Nat) (v':Value) (xs':List Value),k<=2/\q= .int .i64 k/\LK lo p w2 v (bF (uP U c i (xn,((xv,xi),xk),((iH,iZ),gM)) (yn,((yv,yi),yk),((bB,bH),aZ))) st (2*k)) v' xs' wr) (λq _=>2 - (intOf q).toNat)
 case atStart=>exact ⟨0,v,xs,by omega,rfl,LK.start HL2.out⟩
 case round=>
  obtain ⟨k,v',xs',hk,rfl,hK⟩:=hrel;have HK:=aB hK;clear hK;by_cases hkl:k<2
  · have hkl':(k:Int)<2:=by omega
    have CR:=aB (HK.out.kpt HL2.out);have HYr:=aB (HY2.out.kpt CR.out);obtain ⟨zK,ta3,TI,TH,hTA,hTD,hTx⟩:=Z8 (l:=(xn,((xv,xi),xk),((iH,iZ),gM))) hkl (CR.out.sin HA.out) (CR.out.sin HD.out);have Hgx:=aB (fU (yes:=decide (k=1)) Hx.out);have Hfk:Hid (∀m s,m<2->uP U c i (xn,((xv,xi),xk),((iH,iZ),gM)) (yn,((yv,yi),yk),((bB,bH),aZ)) s (2*k+m)=MO s (U (aL (decide (k=1)) (xn,((xv,xi),xk),((iH,iZ),gM))).2.1 (aL (decide (m=1)) (yn,((yv,yi),yk),((bB,bH),aZ))).2.1) (jM c i++[(true,(aL (decide (k=1)) (xn,((xv,xi),xk),((iH,iZ),gM))).2.2,(aL (decide (m=1)) (yn,((yv,yi),yk),((bB,bH),aZ))).2.2)])):=λm s hm=>aMT hkl hm;generalize aL (decide (k=1)) (xn,((xv,xi),xk),((iH,iZ),gM))=tx at*;obtain ⟨tn,⟨⟨tv,ti⟩,tk⟩,⟨⟨tv',oO⟩,nT⟩⟩:=tx;simp only at hTA hTD hTx Hgx Hfk;have HTA:=aB hTA;have HTD:=aB hTD;have hix:=λw'=>hTx gx w';unfold IG at hix;generalize (if k=1 then 146 else 145)=fn at hix;clear hTA hTD hTx;have q0:wr.cell? ⟨w.heap.size+1,0,none⟩=some (.bool yn):=HYr.out 0 _ rfl;have q1:wr.cell? ⟨w.heap.size+1,1,none⟩=some (.bool yv):=HYr.out 1 _ rfl;have q2:wr.cell? ⟨w.heap.size+1,2,none⟩=some (.int .i64 yi):=HYr.out 2 _ rfl;have q3:wr.cell? ⟨w.heap.size+1,3,none⟩=some (.slice e1 (Fo.len yk) e3):=HYr.out 3 _ rfl;have q4:wr.cell? ⟨w.heap.size+1,4,none⟩=some (.bool bB):=HYr.out 4 _ rfl;have q5:wr.cell? ⟨w.heap.size+1,5,none⟩=some (.int .i64 bH):=HYr.out 5 _ rfl;have q6:wr.cell? ⟨w.heap.size+1,6,none⟩=some (.slice f1 (Fo.len aZ) f3):=HYr.out 6 _ rfl
    go_upto_region 4 with fail
    generalize QD:wr.alloc (.cells #[.bool tv,.int .i64 ti,.slice zK (Fo.len tk) ta3,.bool tv',.int .i64 oO,.slice TI (Fo.len nT) TH,.func (.func fn) #[] #[.pointer (some ⟨gx,0,none⟩)]] 140)=W4;have hb4:Below wr.heap.size wr W4:=by rw [←QD];exact aD _ _
    have CO:Hid (bT W4 wr.heap.size [.bool tv,.int .i64 ti,.slice zK (Fo.len tk) ta3,.bool tv',.int .i64 oO,.slice TI (Fo.len nT) TH,.func (.func fn) #[] #[.pointer (some ⟨gx,0,none⟩)]]):=by rw [Hid,←QD];exact bT.new wr #[.bool tv,.int .i64 ti,.slice zK (Fo.len tk) ta3,.bool tv',.int .i64 oO,.slice TI (Fo.len nT) TH,.func (.func fn) #[] #[.pointer (some ⟨gx,0,none⟩)]] 140
    replace q0:=aA hb4 _ _ q0;replace q1:=aA hb4 _ _ q1;replace q2:=aA hb4 _ _ q2;replace q3:=aA hb4 _ _ q3;replace q4:=aA hb4 _ _ q4;replace q5:=aA hb4 _ _ q5;replace q6:=aA hb4 _ _ q6;clear QD
    go_wp2_with fail
    refine (pE (yn,((yv,yi),yk),((bB,bH),aZ)) e1 f1 _ _ _ _ W4).mono ?_;rintro e w5 ⟨rfl,-,hb5⟩;have yG:=aC hb4 hb5;have HX5:=aB (CO.out.below hb5);have HK5:=aB (HK.out.below yG);have ZB:=aB HK5.out.L;have QX:=aB (CR.out.trans (kT yG));replace HTA:=aB (HTA.out.below yG);replace HTD:=aB (HTD.out.below yG);have HE5:=aB (QX.out.sin HE.out);have HG5:=aB (QX.out.sin HG.out);have HR5:=aB (QX.out.cin HR.out);generalize W4.heap.size=gy at*;clear q0 q1 q2 q3 q4 q5 q6 CO hb4 hb5 yG HYr CR hix;simp only
    go_wp2_with fail
    generalize hgw:wr.heap.size=gw at*;generalize wr=wo at*
    go_loopw [22] (λq wr=>∃(m:Nat) (v2:Value) (uT:List Value),m<=2/\q= .int .i64 m/\LK lo p w5 v' (bF (uP U c i (xn,((xv,xi),xk),((iH,iZ),gM)) (yn,((yv,yi),yk),((bB,bH),aZ))) st (2*k+m)) v2 uT wr) (λq _=>2 - (intOf q).toNat)
    case atStart=>exact ⟨0,v',xs',by omega,rfl,LK.start ZB.out⟩
    case round=>
     obtain ⟨m,v2,uT,hm,rfl,hK2⟩:=hrel;have QK:=aB hK2;clear hK2;by_cases hml:m<2
     · have aTC:(m:Int)<2:=by omega
       have xR:=aB (QK.out.kpt ZB.out);have HXr:=aB (HX5.out.kpt xR.out);obtain ⟨sa1,sa3,sd1,sd3,hSA,hSD,QE⟩:=Z8 (l:=(yn,((yv,yi),yk),((bB,bH),aZ))) hml (xR.out.sin HE5.out) (xR.out.sin HG5.out);have uS:=aB (fU (yes:=decide (m=1)) Hy.out);have Hfm:=aB (Hfk.out m (bF (uP U c i (xn,((xv,xi),xk),((iH,iZ),gM)) (yn,((yv,yi),yk),((bB,bH),aZ))) st (2*k+m)) hml);have ZM:=aB (fV (uP U c i (xn,((xv,xi),xk),((iH,iZ),gM)) (yn,((yv,yi),yk),((bB,bH),aZ))) st (2*k+m));generalize aL (decide (m=1)) (yn,((yv,yi),yk),((bB,bH),aZ))=ty at*;obtain ⟨sn,⟨⟨sv,si⟩,sk⟩,⟨⟨sv',si'⟩,sk'⟩⟩:=ty;simp only at hSA hSD QE uS Hfm;have HSA:=aB hSA;have HSD:=aB hSD;have hiy:=λw'=>QE gy w';unfold IG at hiy;generalize (if m=1 then 146 else 145)=fm at hiy;have jP:Hid ((bF (uP U c i (xn,((xv,xi),xk),((iH,iZ),gM)) (yn,((yv,yi),yk),((bB,bH),aZ))) st (2*k+m)).1.length<=1000000):=by have:=Hlen.out (2*k+m);have:=Hn.out;rw [Hid];omega
       generalize bF (uP U c i (xn,((xv,xi),xk),((iH,iZ),gM)) (yn,((yv,yi),yk),((bB,bH),aZ))) st (2*k+m)=stm at*;clear hSA hSD QE;have r0:wr.cell? ⟨gw,0,none⟩=some (.bool tv):=HXr.out 0 _ rfl;have r1:wr.cell? ⟨gw,1,none⟩=some (.int .i64 ti):=HXr.out 1 _ rfl;have r2:wr.cell? ⟨gw,2,none⟩=some (.slice zK (Fo.len tk) ta3):=HXr.out 2 _ rfl;have r3:wr.cell? ⟨gw,3,none⟩=some (.bool tv'):=HXr.out 3 _ rfl;have r4:wr.cell? ⟨gw,4,none⟩=some (.int .i64 oO):=HXr.out 4 _ rfl;have r5:wr.cell? ⟨gw,5,none⟩=some (.slice TI (Fo.len nT) TH):=HXr.out 5 _ rfl;have r6:wr.cell? ⟨gw,6,none⟩=some (.func (.func fn) #[] #[.pointer (some ⟨gx,0,none⟩)]):=HXr.out 6 _ rfl
       go_upto_region 7 with fail
       generalize ZJ:wr.alloc (.cells #[.bool sv,.int .i64 si,.slice sa1 (Fo.len sk) sa3,.bool sv',.int .i64 si',.slice sd1 (Fo.len sk') sd3,.func (.func fm) #[] #[.pointer (some ⟨gy,0,none⟩)]] 140)=W6;have hb6:Below wr.heap.size wr W6:=by rw [←ZJ];exact aD _ _
       have HY6:Hid (bT W6 wr.heap.size [.bool sv,.int .i64 si,.slice sa1 (Fo.len sk) sa3,.bool sv',.int .i64 si',.slice sd1 (Fo.len sk') sd3,.func (.func fm) #[] #[.pointer (some ⟨gy,0,none⟩)]]):=by rw [Hid,←ZJ];exact bT.new wr #[.bool sv,.int .i64 si,.slice sa1 (Fo.len sk) sa3,.bool sv',.int .i64 si',.slice sd1 (Fo.len sk') sd3,.func (.func fm) #[] #[.pointer (some ⟨gy,0,none⟩)]] 140
       clear ZJ;replace r0:=aA hb6 _ _ r0;replace r1:=aA hb6 _ _ r1;replace r2:=aA hb6 _ _ r2;replace r3:=aA hb6 _ _ r3;replace r4:=aA hb6 _ _ r4;replace r5:=aA hb6 _ _ r5;replace r6:=aA hb6 _ _ r6;have t0:W6.cell? ⟨wr.heap.size,0,none⟩=some (.bool sv):=HY6.out 0 _ rfl;have t1:W6.cell? ⟨wr.heap.size,1,none⟩=some (.int .i64 si):=HY6.out 1 _ rfl;have t2:W6.cell? ⟨wr.heap.size,2,none⟩=some (.slice sa1 (Fo.len sk) sa3):=HY6.out 2 _ rfl;have t3:W6.cell? ⟨wr.heap.size,3,none⟩=some (.bool sv'):=HY6.out 3 _ rfl;have t4:W6.cell? ⟨wr.heap.size,4,none⟩=some (.int .i64 si'):=HY6.out 4 _ rfl;have t5:W6.cell? ⟨wr.heap.size,5,none⟩=some (.slice sd1 (Fo.len sk') sd3):=HY6.out 5 _ rfl;have t6:W6.cell? ⟨wr.heap.size,6,none⟩=some (.func (.func fm) #[] #[.pointer (some ⟨gy,0,none⟩)]):=HY6.out 6 _ rfl;have Hui:=aB (Hgx.out.1.ui uS.out.1);obtain ⟨n,hnn⟩:=HU.out _ _ Hui.out;have ZN:=aB hnn;obtain ⟨R,hR⟩:∃R,U ((tv,ti),tk) ((sv,si),sk)=R:=⟨_,rfl⟩;rw [hR] at ZN Hfm;have NF:=aB (DW (tv,ti) tk (.slice zK (Fo.len tk) ta3) (sv,si) sk (.slice sa1 (Fo.len sk) sa3) W6 n R ZN.out Hui.out (xR.out.trans (kT hb6) |>.sin HTA.out) (HSA.out.below hb6));simp only at NF;clear hnn hR
       go_wp2_with fail
       refine NF.out.mono ?_;rintro e w7 ⟨iJ,z1,mm,z3,ok,rfl,hno,fG⟩;have aGX:=aC hb6 iJ;have HK7:=aB (QK.out.below aGX);have xQ:=aB (xR.out.trans (kT aGX));replace HSA:=aB (HSA.out.below aGX);replace HSD:=aB (HSD.out.below aGX);replace r0:=aA iJ _ _ r0;replace r1:=aA iJ _ _ r1;replace r2:=aA iJ _ _ r2;replace r3:=aA iJ _ _ r3;replace r4:=aA iJ _ _ r4;replace r5:=aA iJ _ _ r5;replace r6:=aA iJ _ _ r6;replace t0:=aA iJ _ _ t0;replace t1:=aA iJ _ _ t1;replace t2:=aA iJ _ _ t2;replace t3:=aA iJ _ _ t3;replace t4:=aA iJ _ _ t4;replace t5:=aA iJ _ _ t5;replace t6:=aA iJ _ _ t6;clear NF hb6 iJ aGX HXr HY6 xR QK hiy;cases ok
       · have dC:Hid (LK lo p w5 v' (bF (uP U c i (xn,((xv,xi),xk),((iH,iZ),gM)) (yn,((yv,yi),yk),((bB,bH),aZ))) st (2*k+m+1)) v2 uT w7):=by
          have:=HK7.out;rw [Hid,ZM.out,Hfm.out,(hno rfl).1];exact this
         clear hno fG r0 r1 r2 r3 r4 r5 r6 t0 t1 t2 t3 t4 t5 t6
         go_wp2_with fail
         go_roundw
         case rel=>exact ⟨m+1,v2,uT,by omega,by go_num,dC.out⟩
         case measure=>simp [intOf];omega
       · obtain ⟨s',rfl,rfl,hSub⟩:=fG rfl;have HV:=aB hSub;clear hno fG hSub
         go_upto_region 10 with fail
         generalize hW8:w7.alloc (.cells #[.bool true,.bool tv',.int .i64 oO,.slice TI (Fo.len nT) TH,.bool sv',.int .i64 si',.slice sd1 (Fo.len sk') sd3] 86)=W8;have mR:Below w7.heap.size w7 W8:=by rw [←hW8];exact aD _ _
         have HU8:Hid (bT W8 w7.heap.size [.bool true,.bool tv',.int .i64 oO,.slice TI (Fo.len nT) TH,.bool sv',.int .i64 si',.slice sd1 (Fo.len sk') sd3]):=by rw [Hid,←hW8];exact bT.new w7 #[.bool true,.bool tv',.int .i64 oO,.slice TI (Fo.len nT) TH,.bool sv',.int .i64 si',.slice sd1 (Fo.len sk') sd3] 86
         clear hW8 r0 r1 r2 r3 r4 r5 r6 t0 t1 t2 t3 t4 t5 t6;have u0:W8.cell? ⟨w7.heap.size,0,none⟩=some (.bool true):=HU8.out 0 _ rfl;have u1:W8.cell? ⟨w7.heap.size,1,none⟩=some (.bool tv'):=HU8.out 1 _ rfl;have u2:W8.cell? ⟨w7.heap.size,2,none⟩=some (.int .i64 oO):=HU8.out 2 _ rfl;have u3:W8.cell? ⟨w7.heap.size,3,none⟩=some (.slice TI (Fo.len nT) TH):=HU8.out 3 _ rfl;have u4:W8.cell? ⟨w7.heap.size,4,none⟩=some (.bool sv'):=HU8.out 4 _ rfl;have u5:W8.cell? ⟨w7.heap.size,5,none⟩=some (.int .i64 si'):=HU8.out 5 _ rfl;have u6:W8.cell? ⟨w7.heap.size,6,none⟩=some (.slice sd1 (Fo.len sk') sd3):=HU8.out 6 _ rfl;have ZI:Below W8.heap.size W8 ((W8.alloc (.cells #[.bool true,.bool tv',.int .i64 oO,.slice TI (Fo.len nT) TH,.bool sv',.int .i64 si',.slice sd1 (Fo.len sk') sd3] 86)).alloc (.cells #[.slice xS (jM c i).length rw3,.slice (some ⟨W8.heap.size,0,none⟩) 1 1] 44)):=(aD _ _).alloc (by simp) _;have hNL:dQ (W8.alloc (.cells #[.bool true,.bool tv',.int .i64 oO,.slice TI (Fo.len nT) TH,.bool sv',.int .i64 si',.slice sd1 (Fo.len sk') sd3] 86)) [(true,((tv',oO),nT),((sv',si'),sk'))] (.slice (some ⟨W8.heap.size,0,none⟩) 1 1):=aQB (l:=(true,((tv',oO),nT),((sv',si'),sk'))) ((xQ.out.sin HTD.out).below mR) (HSD.out.below mR);have MG:=aB (tY (jM c i) [(true,((tv',oO),nT),((sv',si'),sk'))] (.slice xS (jM c i).length rw3) (.slice (some ⟨W8.heap.size,0,none⟩) 1 1) (W8.heap.size+1) 0 2 _ (((xQ.out.cin HR5.out).below mR).below ZI) (hNL.below (aD _ _)) (aF (World.size_alloc _ _)) (aF (World.size_alloc _ _)) (by have:=hbl;simp only [List.length_cons,List.length_nil];omega));have Hb9:=aB (aC mR ZI);clear mR ZI hNL
         go_wp2_with fail
         with_reducible refine MG.out.mono ?_
         rintro e w9 ⟨dv,rfl,hCC,aOO⟩;have HK9:=aB (HK7.out.below (aC Hb9.out aOO));have UC:=aB (A9 HK9.out.L (HV.out.below (aC Hb9.out aOO)) hCC Hgx.out.1 uS.out.1 ZN.out (λl hl=>by
          rcases List.mem_append.1 hl with hl|hl
          · exact (Hc.out l (mK hl)).x
          · rw [List.mem_singleton.1 hl];exact l9.x ⟨Hgx.out.2,uS.out.2⟩) (by have:=hbl;rw [List.length_append];simp only [List.length_cons,List.length_nil];omega) jP.out)
         clear hCC aOO MG u0 u1 u2 u3 u4 u5 u6
         go_wp2_with fail
         refine UC.out.mono ?_;rintro e w11 hpost;obtain ⟨v3,Y3,hK3⟩:=HK9.out.add hpost;obtain ⟨rfl,-⟩:=hpost;have dC:Hid (LK lo p w5 v' (bF (uP U c i (xn,((xv,xi),xk),((iH,iZ),gM)) (yn,((yv,yi),yk),((bB,bH),aZ))) st (2*k+m+1)) v3 Y3 w11):=by have:=hK3;rw [Hid,ZM.out,Hfm.out];exact this
         clear hK3 UC
         go_wp2_with fail
         go_roundw
         case rel=>exact ⟨m+1,v3,Y3,by omega,by go_num,dC.out⟩
         case measure=>simp [intOf];omega
     · have hm2:m=2:=by omega
       subst hm2;have dC:Hid (LK lo p w2 v (bF (uP U c i (xn,((xv,xi),xk),((iH,iZ),gM)) (yn,((yv,yi),yk),((bB,bH),aZ))) st (2*(k+1))) v2 uT wr):=HK5.out.trans QK.out
       go_wp2_with fail
       go_roundw
       case rel=>exact ⟨k+1,v2,uT,by omega,by go_num,dC.out⟩
       case measure=>simp [intOf];omega
  · have hk2:k=2:=by omega
    subst hk2;have dC:Hid (LK lo p w v (bF (uP U c i (xn,((xv,xi),xk),((iH,iZ),gM)) (yn,((yv,yi),yk),((bB,bH),aZ))) st 4) v' xs' wr):=HLK.out.trans HK.out
    go_wp2_with fail
    go_end0
    exact ⟨rfl,v',xs',dC.out⟩
end
end Go.Proofs.YtoklbpbmghbhnaeGreat
