import Derived.Test.YtoklbpbmghbhnaeGreatG07
import Derived.Deep.RegionLaw
namespace Go.Proofs.YtoklbpbmghbhnaeGreat
set_option maxRecDepth 100000
set_option maxHeartbeats 2000000
open Go.RowKit Go.Deep Go.ChangeShapes Go.WideShapes
theorem Tryz.info92:(Tryz.prog.info? 92).map (λi=>(i.zero,i.size,i.bytes))=some (some (.agg #[.int .i64 0,.bool false,.int .i64 0,.slice none 0 0]),4,48):=by kernel_rfl
def PC (X:Nat->Prop) (w:World):Sb->List Value->Prop
 |[],xs=>xs=[]
 |p::s,xs=>∃a ys,xs= .int .i64 p.1:: .bool p.2.1.1:: .int .i64 p.2.1.2::a::ys/\SB X w p.2.2 a/\PC X w s ys
theorem PC.frame {X Y:Nat->Prop} {w w':World} (wJ:∀q,X q->Y q) (hr:∀q i,X q->w'.cell? ⟨q,i,none⟩=w.cell? ⟨q,i,none⟩):∀{s:Sb} {xs:List Value},PC X w s xs->PC Y w' s xs
 |[],_,h=>h
 |_::_,_,⟨a,ys,h1,h2,h3⟩=>⟨a,ys,h1,h2.frame wJ hr,PC.frame wJ hr h3⟩
theorem PC.append {X:Nat->Prop} {w:World} {s':Sb} {ys:List Value} (h':PC X w s' ys):∀{s:Sb} {xs:List Value},PC X w s xs->PC X w (s++s') (xs++ys)
 |[],_,h=>by rw [PC] at h;subst h;exact h'
 |_::_,_,⟨a,zs,h1,h2,h3⟩=>by subst h1;exact ⟨a,zs++ys,rfl,h2,PC.append h' h3⟩
theorem PC.one {X:Nat->Prop} {w:World} {n:Int} {t:Tm} {a:Value} (h:SB X w t.2 a):PC X w [(n,t)] [.int .i64 n,.bool t.1.1,.int .i64 t.1.2,a]:=⟨a,[],rfl,h,rfl⟩
theorem PC.len {X:Nat->Prop} {w:World}:∀{s:Sb} {xs:List Value},PC X w s xs->xs.length=s.length*4
 |[],_,h=>by rw [PC] at h;subst h;rfl
 |_::_,_,⟨a,ys,h1,_,h3⟩=>by subst h1;simp only [List.length_cons,h3.len];omega
theorem PC.at {X:Nat->Prop} {w:World} {g:Nat}:∀{s:Sb} {xs:List Value} {o:Nat},PC X w s xs->(∀j,j<xs.length->w.cell? ⟨g,o+j,none⟩=xs[j]?)->PIn w s g o
 |[],_,_,_,_=>trivial
 |p::s,_,o,⟨a,ys,h1,h2,h3⟩,hc=>by subst h1;have c0:=hc 0 (by simp);have c1:=hc 1 (by simp);have c2:=hc 2 (by simp);have c3:=hc 3 (by simp);refine ⟨by simpa using c0,by simpa using c1,by simpa using c2,⟨a,by simpa using c3,h2.toS⟩,?_⟩;refine PC.at h3 (λj hj=>?_);have:=hc (j+4) (by simp;omega);rw [show o+4+j=o+(j+4) by omega,this];simp
theorem aLT {X:Nat->Prop} {w:World} {lo:Nat} {v:Value} {s:Sb} {xs:List Value} (h:w.ownsRow lo 92 4 v s.length xs) (hc:PC X w s xs):dZ w s v:=by
 have hcells:=λg hg=>h.cells (g:=g) hg;rcases h.2 with ⟨rfl,h0⟩|⟨g,bW,cur,rfl,hl,hh,hn,hm,hs,ht⟩
 · have:s=[]:=List.length_eq_zero_iff.1 h0;subst this;exact dZ.nil w
 · refine ⟨_,bW,g,0,rfl,λ_=>rfl,hn,hm,hc.at (λj hj=>?_)⟩;have:=hcells g rfl j (xs[j]'hj) (List.getElem?_eq_getElem hj);rw [List.getElem?_eq_getElem hj];rw [add_plain] at this;exact this
def Ex (X:Nat->Prop) (w w':World) (v:Value):Nat->Prop:=λq=>X q\/(w.heap.size<=q/\q<w'.heap.size/\some q≠v.ownBlock)
def Mv (w:World) (v v':Value):Prop:=v'.ownBlock=v.ownBlock\/∀g,v'.ownBlock=some g->w.heap.size<=g
structure kR (lo:Nat) (X:Nat->Prop) (w:World) (s:Sb) (v:Value) (xs:List Value):Prop where
 row:w.ownsRow lo 92 4 v s.length xs
 cells:PC X w s xs
 off:∀q,X q->q<w.heap.size/\some q≠v.ownBlock
theorem kR.sub {lo:Nat} {X:Nat->Prop} {w:World} {s:Sb} {v:Value} {xs:List Value} (h:kR lo X w s v xs):dZ w s v:=aLT h.row h.cells
theorem kR.slice {lo:Nat} {X:Nat->Prop} {w:World} {s:Sb} {v:Value} {xs:List Value} (h:kR lo X w s v xs):∃z1 z3,v= .slice z1 s.length z3:=gG h.sub
theorem kR.below {lo:Nat} {X:Nat->Prop} {w w':World} {s:Sb} {v:Value} {xs:List Value} (h:kR lo X w s v xs) (hb:Below w.heap.size w w'):kR lo X w' s v xs:=
 ⟨bA h.row (λg hg=>hb.block g (aJ h.row g hg).2),h.cells.frame (λ_ hq=>hq) (λq _ hq=>World.cell?_of_block (hb.block q (h.off q hq).1)),λq hq=>⟨Nat.lt_of_lt_of_le (h.off q hq).1 hb.size,(h.off q hq).2⟩⟩
theorem kR.wide {lo:Nat} {X Y:Nat->Prop} {w:World} {s:Sb} {v:Value} {xs:List Value} (h:kR lo X w s v xs) (wJ:∀q,X q->Y q) (hY:∀q,Y q->q<w.heap.size/\some q≠v.ownBlock):kR lo Y w s v xs:=
 ⟨h.row,h.cells.frame wJ (λ_ _ _=>rfl),hY⟩
theorem SB.wide {X Y:Nat->Prop} {w:World} {k:Fo} {a:Value} (h:SB X w k a) (wJ:∀q,X q->Y q):SB Y w k a:=h.frame wJ (λ_ _ _=>rfl)
theorem SB.kept {X:Nat->Prop} {w w':World} {k:Fo} {a:Value} (h:SB X w k a) (hr:∀q,X q->w'.heap[q]?=w.heap[q]?):SB X w' k a:=h.frame (λ_ hq=>hq) (λq _ hq=>World.cell?_of_block (hr q hq))
theorem aI6 {lo:Nat} {X:Nat->Prop} {w w1 w3:World} {s:Sb} {v:Value} {xs:List Value} {n:Int} {t:Tm} {a:Value} {ob:Obj} {g bW:Nat} (h:kR lo X w s v xs) (hb:Below w.heap.size w w1) (hO:SB (λq=>w.heap.size<=q/\q<w1.heap.size) w1 t.2 a)
 (ho:w3.ownsRow lo 92 4 (.slice (some ⟨g,0,none⟩) (s.length+1) bW) (s.length+1) (xs++[.int .i64 n,.bool t.1.1,.int .i64 t.1.2,a])) (hg:(w1.alloc ob).grownBy w3 v.ownBlock) (hat:v.ownBlock=some g\/g=w1.heap.size+1) (hlt:g<w3.heap.size):
 kR lo (Ex X w w3 (.slice (some ⟨g,0,none⟩) (s.length+1) bW)) w3 (s++[(n,t)]) (.slice (some ⟨g,0,none⟩) (s.length+1) bW) (xs++[.int .i64 n,.bool t.1.1,.int .i64 t.1.2,a])/\
 Fr w w3 v.ownBlock none/\Mv w v (.slice (some ⟨g,0,none⟩) (s.length+1) bW):=by
 have hs1:=hb.size;have hs3:=hg.size;simp at hs3;have hgs:∀q,v.ownBlock=some q->q<w.heap.size:=λq hq=>(aJ h.row q hq).2;have far:∀q,q<w1.heap.size->some q≠v.ownBlock->w3.heap[q]?=w1.heap[q]?:=λq hq hn=>by rw [hg.block q (by simp;omega) hn,Below.heap_alloc _ _ _ hq]
 have off:∀q,Ex X w w3 (.slice (some ⟨g,0,none⟩) (s.length+1) bW) q->q<w3.heap.size/\some q≠(Value.slice (some ⟨g,0,none⟩) (s.length+1) bW).ownBlock:=λq hq=>by
  rcases hq with hq|hq
  · have h1:=h.off q hq;refine ⟨by omega,λe=>?_⟩;simp [Value.ownBlock] at e;subst e;rcases hat with e|e
    · exact h1.2 e.symm
    · omega
  · exact hq.2
 refine ⟨⟨by simpa using ho,?_,off⟩,?_,?_⟩
 · refine PC.append (PC.one ?_) ?_
   · refine hO.frame (λq hq=> .inr ⟨hq.1,by omega,λe=>?_⟩) (λq i hq=>World.cell?_of_block (far q hq.2 (λe=>?_)))
     · simp [Value.ownBlock] at e;subst e;rcases hat with e|e
       · have:=hgs _ e;omega
       · omega
     · have:=hgs q e.symm;omega
   · refine h.cells.frame (λq hq=> .inl hq) (λq i hq=>World.cell?_of_block ?_);have h1:=h.off q hq;rw [far q (by omega) h1.2,hb.block q h1.1]
 · refine ⟨hg.os.trans hb.os,hg.tape.trans hb.tape,hg.output.trans hb.output,by omega,λq hq hn _=>?_⟩;rw [far q (by omega) hn,hb.block q hq]
 · rcases hat with e|e
   · exact .inl e.symm
   · refine .inr λq hq=>?_;simp [Value.ownBlock] at hq;omega
theorem V6 {lo:Nat} {X:Nat->Prop} {w wr wa w2:World} {s2:Sb} {v v1 v2:Value} {uT:List Value} (hf:Fr w wr v.ownBlock none) (hm:Mv w v v1) (hX:∀q,X q->q<w.heap.size/\some q≠v.ownBlock)
 (hb:Below wr.heap.size wr wa) (h2:kR lo (Ex (Ex X w wr v1) wa w2 v2) w2 s2 v2 uT) (hf2:Fr wa w2 v1.ownBlock none) (hm2:Mv wa v1 v2):
 kR lo (Ex X w w2 v2) w2 s2 v2 uT/\Fr w w2 v.ownBlock none/\Mv w v v2:=by
 have s1':=hf.size;have s2':=hb.size;have s3':=hf2.size;have mv:∀g,v2.ownBlock=some g->v.ownBlock=some g\/w.heap.size<=g:=λg hg=>by
  rcases hm2 with e|e
  · rw [e] at hg;rcases hm with e'|e'
    · rw [e'] at hg;exact .inl hg
    · exact .inr (e' g hg)
  · have:=e g hg;exact .inr (by omega)
 refine ⟨h2.wide (λq hq=>?_) (λq hq=>?_),?_,?_⟩
 · rcases hq with hq|hq
   · rcases hq with hq|hq
     · exact .inl hq
     · refine .inr ⟨hq.1,by omega,λe=>?_⟩;rcases hm2 with e'|e'
       · rw [e'] at e;exact hq.2.2 e
       · have:=e' q e.symm;omega
   · exact .inr ⟨by omega,hq.2⟩
 · rcases hq with hq|hq
   · have:=hX q hq;refine ⟨by omega,λe=>?_⟩;rcases mv q e.symm with h|h
     · exact this.2 h.symm
     · omega
   · exact hq.2
 · refine hf.trans (g1:=v.ownBlock) (g2:=none) (h1:=v1.ownBlock) (h2:=none) ⟨hf2.os.trans hb.os,hf2.tape.trans hb.tape,hf2.output.trans hb.output,by omega,λq hq e1 e2=>?_⟩ (λq hq h=>?_)
   · rw [hf2.block q (by omega) e1 e2,hb.block q hq]
   · rcases h with h|h
     · rcases hm with e|e
       · rw [e] at h;exact .inl h
       · have:=e q h.symm;omega
     · cases h
 · rcases hm2 with e|e
   · rcases hm with e'|e'
     · exact .inl (e.trans e')
     · exact .inr λg hg=>e' g (by rw [←e];exact hg)
   · exact .inr λg hg=>by have:=e g hg;omega
theorem aI7 {lo:Nat} {X:Nat->Prop} {w W2 wr:World} {s:Sb} {v v':Value} {xs:List Value} (hb:Below w.heap.size w W2) (h:kR lo (Ex X W2 wr v') wr s v' xs) (hf:Fr W2 wr v.ownBlock none) (hm:Mv W2 v v'):
 kR lo (Ex X w wr v') wr s v' xs/\Fr w wr v.ownBlock none/\Mv w v v':=by
 have h1:=hb.size;have h2:=hf.size;refine ⟨h.wide (λq hq=>?_) (λq hq=>?_),⟨hf.os.trans hb.os,hf.tape.trans hb.tape,hf.output.trans hb.output,by omega,λq hq e1 e2=>?_⟩,?_⟩
 · rcases hq with hq|hq
   · exact .inl hq
   · exact .inr ⟨by omega,hq.2⟩
 · rcases hq with hq|hq
   · exact h.off q (.inl hq)
   · exact hq.2
 · rw [hf.block q (by omega) e1 e2,hb.block q hq]
 · rcases hm with e|e
   · exact .inl e
   · exact .inr λg hg=>by have:=e g hg;omega
theorem aFC {lo:Nat} {X:Nat->Prop} {w W2:World} {s:Sb} {v:Value} {xs:List Value} (hb:Below w.heap.size w W2) (h:kR lo X w s v xs):kR lo (Ex X W2 W2 v) W2 s v xs/\Fr W2 W2 v.ownBlock none/\Mv W2 v v:=by
 have h':=h.below hb;refine ⟨h'.wide (λq hq=> .inl hq) (λq hq=>?_),Fr.refl _ _ _,.inl rfl⟩;rcases hq with hq|hq
 · exact h'.off q hq
 · omega
section
attribute [local go_sem ↓] Go.wp_at_zero Go.wp_at_succ
def nS (lo:Nat) (X:Nat->Prop) (w:World) (s:Sb) (vs:Value) (t u:Tm) (e:Ending) (w':World):Prop:=
 Fr w w' vs.ownBlock none/\∃(z1:Option Addr) (m z3:Nat) (ok:Bool),e= .returned (.tuple #[.slice z1 m z3,.bool ok])/\(ok=false->iW s t u=none/\z1=none/\m=0/\z3=0)/\
  (ok=true->∃s' xs',iW s t u=some s'/\m=s'.length/\kR lo (Ex X w w' (.slice z1 m z3)) w' s' (.slice z1 m z3) xs'/\Mv w vs (.slice z1 m z3))
def aDM (x:Bool×Int) (k:Fo):Prop:=∀(lo:Nat) (X:Nat->Prop) (s:Sb) (vs:Value) (xs:List Value) (y:Bool×Int) (l:Fo) (a c:Value) (w:World),
 kR lo X w s vs xs->lo<=w.heap.size->SB X w k a->SB X w l c->gN (y,l)->jD (y,l)->(s.length+aM k)*48<=140737488355328->
 Calls Tryz.prog 162 #[vs,.agg #[.bool x.1,.int .i64 x.2,a],.agg #[.bool y.1,.int .i64 y.2,c]] w (nS lo X w s vs (x,k) (y,l))
theorem EY {lo:Nat} {X:Nat->Prop} {w w':World} {s:Sb} {vs:Value} {t u:Tm} (hf:Fr w w' vs.ownBlock none) (h:iW s t u=none):nS lo X w s vs t u (.returned (.tuple #[.slice none 0 0,.bool false])) w':=
 ⟨hf,none,0,0,false,rfl,λ_=>⟨h,rfl,rfl,rfl⟩,λe=>by cases e⟩
theorem EX {lo:Nat} {X:Nat->Prop} {w w':World} {s s':Sb} {vs:Value} {t u:Tm} {z1:Option Addr} {z3:Nat} {xs':List Value} (h:iW s t u=some s')
 (hO:kR lo (Ex X w w' (.slice z1 s'.length z3)) w' s' (.slice z1 s'.length z3) xs'/\Fr w w' vs.ownBlock none/\Mv w vs (.slice z1 s'.length z3)):nS lo X w s vs t u (.returned (.tuple #[.slice z1 s'.length z3,.bool true])) w':=
 ⟨hO.2.1,z1,s'.length,z3,true,rfl,λe=>by (cases e),λ_=>⟨s',xs',h,rfl,hO.1,hO.2.2⟩⟩
theorem aBU (x:Bool×Int) (k:Fo):aDM x k:=by
 refine Fo.ind1 (p:=aDM) ?_ x k;clear x k;intro x k ih lo X s vs xs y l a c w hO hlo hS hU hok hnar hlen;obtain ⟨v,n⟩:=x;obtain ⟨yv,yn⟩:=y;have HI:=aB ih;have HO:=aB hO;have nD:=aB hok;have sU:=aB hnar;have HU:=aB hU;obtain ⟨z1,z3,rfl⟩:=hO.slice;obtain ⟨ad,ac,b,o,rfl,had,hlc,hcm,hF⟩:=hS;obtain ⟨ud,uc,ub,uo,rfl,hud,aN3,ZV,hG⟩:=hU;have HF:=aB hF;have HG:=aB hG;unfold maxLen at hcm ZV;have aVD:0<aM k:=by unfold aM;omega
 clear ih hO hok hnar hF hG;cases v
 · by_cases hc:yv=false/\yn=n/\Fo.len l=Fo.len k
   · obtain ⟨rfl,rfl,hll⟩:=hc;have iX:Hid (iW s ((false,yn),k) ((false,yn),l)=mX k l s):=aMW hll;have aKO:((Fo.len l:Int)!=(Fo.len k:Int))=false:=by simp [hll]
     have hnb:(yn !=yn)=false:=by simp
     have Hll:=aB hll;have aOE:Fo.len l<=Fo.len k:=by omega
     have aOD:Fo.len k<=Fo.len l:=by omega
     have Hl:=aB (Fo.len_list k);have wM:=aB (Fo.len_list l);clear hll;go_enter Tryz.func162,Tryz.ntmps162
     go_wp2_with fail
     generalize hW2:(w.alloc (.cells #[.bool false,.int .i64 yn,.slice ad (Fo.len k) ac] 84)).alloc (.cells #[.bool false,.int .i64 yn,.slice ud (Fo.len l) uc] 84)=W2;have hs2:W2.heap.size=w.heap.size+1+1:=by rw [←hW2];simp
     have hB2:Below w.heap.size w W2:=by rw [←hW2];exact (aD _ _).alloc (by simp) _
     have r2:W2.cell? ⟨w.heap.size+1,2,none⟩=some (.slice ud (Fo.len l) uc):=by rw [←hW2];exact aF (World.size_alloc _ _)
     have Y9:=aB r2;have HB2:=aB hB2;have hnv:∀q,(Value.slice z1 s.length z3).ownBlock=some q->q<w.heap.size:=λq hq=>(aJ HO.out.row q hq).2;have Hnv:=aB hnv;have QY:=aB (aFC hB2 HO.out);clear hW2 r2 hB2 hnv
     go_loopw [0,58] (λvj i wr=>∃(j:Nat) (sj:Sb) (y1:Option Addr) (y3:Nat) (Y2:List Value),j<=Fo.len k/\i= .int .i64 j/\vj= .slice y1 sj.length y3/\mX (Fo.take j k) (Fo.take j l) s=some sj/\kR lo (Ex X W2 wr (.slice y1 sj.length y3)) wr sj (.slice y1 sj.length y3) Y2/\Fr W2 wr (Value.slice z1 s.length z3).ownBlock none/\Mv W2 (.slice z1 s.length z3) (.slice y1 sj.length y3)) (λ_ i _=>Fo.len k - (intOf i).toNat)
     case atStart=>exact ⟨0,s,z1,z3,xs,Nat.zero_le _,rfl,rfl,rfl,QY.out.1,QY.out.2.1,QY.out.2.2⟩
     case round=>
      obtain ⟨j,sj,y1,y3,Y2,hj,rfl,rfl,hex,hOj,hFj,hMj⟩:=hrel;have Hex:=aB hex;have HOj:=aB hOj;have HFj:=aB hFj;have zS:=aB hMj;clear hex hOj hFj hMj QY;have hs3:=HFj.out.size;by_cases hlt:j<Fo.len k
      · have hlt':(j:Int)<(Fo.len k:Int):=by omega
        have hlt2:(j:Int)<(Fo.len l:Int):=by omega
        obtain ⟨aOQ,hXb⟩:=had (by omega);obtain ⟨aN6,hXu⟩:=hud (by omega);subst aOQ aN6;have nX:Hid (∀q,X q->wr.heap[q]?=w.heap[q]?):=λq hq=>by have h1:=HO.out.off q hq;rw [HFj.out.block q (by omega) h1.2 (by simp),HB2.out.block q h1.1]
        obtain ⟨⟨⟨pv,pn⟩,pk⟩,hp⟩:∃y,k.list[j]?=some y:=⟨k.list[j]'(by rw [Hl.out];exact hlt),by simp⟩;obtain ⟨⟨⟨tv,tn⟩,tk⟩,ht⟩:∃y,l.list[j]?=some y:=⟨l.list[j]'(by rw [wM.out];omega),by simp⟩;obtain ⟨c0,c1,pa,c2,hSp⟩:=HF.out.at hp;obtain ⟨d0,d1,ta,d2,hSt⟩:=HG.out.at ht;have c0':=(World.cell?_of_block (a:=⟨b,o+j*3,none⟩) (nX.out b hXb)).trans c0;have c1':=(World.cell?_of_block (a:=⟨b,o+j*3+1,none⟩) (nX.out b hXb)).trans c1;have c2':=(World.cell?_of_block (a:=⟨b,o+j*3+2,none⟩) (nX.out b hXb)).trans c2;have d0':=(World.cell?_of_block (a:=⟨ub,uo+j*3,none⟩) (nX.out ub hXu)).trans d0;have d1':=(World.cell?_of_block (a:=⟨ub,uo+j*3+1,none⟩) (nX.out ub hXu)).trans d1;have d2':=(World.cell?_of_block (a:=⟨ub,uo+j*3+2,none⟩) (nX.out ub hXu)).trans d2;have HSp:=aB ((hSp.kept nX.out).wide (Y:=Ex X W2 wr (.slice y1 sj.length y3)) (λq hq=> .inl hq));have HSt:=aB ((hSt.kept nX.out).wide (Y:=Ex X W2 wr (.slice y1 sj.length y3)) (λq hq=> .inl hq));obtain ⟨ZE,pc,pb,po,rfl,-,-,-,-⟩:=hSp;obtain ⟨zK,tc,tb,t4,rfl,-,-,-,-⟩:=hSt;have e2:wr.cell? ⟨w.heap.size+1,2,none⟩=some (.slice (some ⟨ub,uo,none⟩) (Fo.len l) uc):=by rw [World.cell?_of_block (a:=⟨w.heap.size+1,2,none⟩) (HFj.out.block (w.heap.size+1) (by omega) (λe=>by have:=Hnv.out _ e.symm;omega) (by simp))];exact Y9.out
        have QU:Hid (gN ((tv,tn),tk)):=pO nD.out.2 (List.mem_of_getElem? ht);have aSK:Hid (jD ((tv,tn),tk)):=aC6 sU.out.2 (List.mem_of_getElem? ht);have Hbd:Hid ((sj.length+aM pk)*48<=140737488355328):=by have h1:=BN Hex.out;have h2:=qU j k;rw [hp] at h2;simp only at h2;unfold aM at h2 hlen;unfold aM Hid;omega
        have fQ:Hid (mX (Fo.take (j+1) k) (Fo.take (j+1) l) s=iW sj ((pv,pn),pk) ((tv,tn),tk)):=by rw [Hid,WX s hp ht,Hex.out];rfl
        have Hp:=aB hp;have hub:ub<wr.heap.size:=World.block_lt_of_cell? _ _ d0';clear c0 c1 c2 d0 d1 d2 hp ht had hud hXb hXu
        go_upto_region 14 with fail
        generalize fA:wr.alloc (.cells #[.bool pv,.int .i64 pn,.slice ZE (Fo.len pk) pc] 84)=wa;have a0:wa.cell? ⟨wr.heap.size,0,none⟩=some (.bool pv):=by rw [←fA];exact aF rfl
        have a1:wa.cell? ⟨wr.heap.size,1,none⟩=some (.int .i64 pn):=by rw [←fA];exact aF rfl
        have a2:wa.cell? ⟨wr.heap.size,2,none⟩=some (.slice ZE (Fo.len pk) pc):=by rw [←fA];exact aF rfl
        have bZ:Below wr.heap.size wr wa:=by rw [←fA];exact aD _ _
        have f0:=aA bZ _ _ d0';have f1:=aA bZ _ _ d1';have f2:=aA bZ _ _ d2';have f3:=aA bZ _ _ e2;have xV:Hid (Below wr.heap.size wr wa.drew):=bZ.trans (Below.refl _ _).drew
        have hcall:Calls Tryz.prog 162 #[.slice y1 sj.length y3,.agg #[.bool pv,.int .i64 pn,.slice ZE (Fo.len pk) pc],.agg #[.bool tv,.int .i64 tn,.slice zK (Fo.len tk) tc]] wa.drew (nS lo (Ex X W2 wr (.slice y1 sj.length y3)) wa.drew sj (.slice y1 sj.length y3) ((pv,pn),pk) ((tv,tn),tk)):=
         HI.out ((pv,pn),pk) (List.mem_of_getElem? Hp.out) lo _ sj _ Y2 (tv,tn) tk _ _ wa.drew (HOj.out.below xV.out) (by have:=xV.out.size;omega) (HSp.out.grow (λq hq=>(HOj.out.off q hq).1) xV.out) (HSt.out.grow (λq hq=>(HOj.out.off q hq).1) xV.out) QU.out aSK.out Hbd.out
        have mF:=aB hcall;clear hcall fA c0' c1' c2' d0' d1' d2' e2 bZ
        go_region_with (first
         |(go_at_call 162;refine mF.out.mono ?_;rintro e w2 ⟨hf2,x1,xm,x3,ok,rfl,hno,fG⟩))
        all_goals
         cases ok
         · have Hf:Hid (nS lo X w s (.slice z1 s.length z3) ((false,yn),k) ((false,yn),l) (.returned (.tuple #[.slice none 0 0,.bool false])) w2):=by
            refine EY ?_ (iX.out.trans (WY (j:=j+1) Hll.out.symm (fQ.out.trans (hno rfl).1)));refine (Fr.of_below HB2.out _ _).trans ((HFj.out).trans ((Fr.of_below xV.out _ _).trans hf2 (λq _ h=>h)) ?_) (λq _ h=>h);intro q hq h;rcases h with h|h
            · rcases zS.out with e|e
              · rw [e] at h;exact .inl h
              · have:=e q h.symm;omega
            · cases h
           clear hno fG hf2
           go_wp2_with fail
           go_ret2;exact Hf.out
         · obtain ⟨s2,uT,h1,rfl,h3,h4⟩:=fG rfl;have Hn:=aB (V6 HFj.out zS.out (λq hq=>by have:=HO.out.off q hq;exact ⟨by omega,this.2⟩) xV.out h3 hf2 h4);have sO:Hid (mX (Fo.take (j+1) k) (Fo.take (j+1) l) s=some s2):=fQ.out.trans h1;clear hno fG hf2 h1 h3 h4
           go_wp2_with fail
           go_roundw
           case rel=>exact ⟨j+1,s2,x1,x3,uT,by omega,by go_num,rfl,sO.out,Hn.out.1,Hn.out.2.1,Hn.out.2.2⟩
           case measure=>simp [intOf];omega
      · have Hf:Hid (nS lo X w s (.slice z1 s.length z3) ((false,yn),k) ((false,yn),l) (.returned (.tuple #[.slice y1 sj.length y3,.bool true])) wr):=by
         refine EX (iX.out.trans ?_) (aI7 HB2.out HOj.out HFj.out zS.out);have e:j=Fo.len k:=by omega
         have:=Hex.out;rw [e,pQ,←Hll.out,pQ] at this;exact this
        go_wp2_with fail
        go_ret2;exact Hf.out
   · have iX:Hid (iW s ((false,n),k) ((yv,yn),l)=none):=aMV hc;have Hf:Hid (∀w',Below w.heap.size w w'->nS lo X w s (.slice z1 s.length z3) ((false,n),k) ((yv,yn),l) (.returned (.tuple #[.slice none 0 0,.bool false])) w'):=λw' hb=>EY (Fr.of_below hb _ _) iX.out;have Hb:Hid (Below w.heap.size w ((w.alloc (.cells #[.bool false,.int .i64 n,.slice ad (Fo.len k) ac] 84)).alloc (.cells #[.bool yv,.int .i64 yn,.slice ud (Fo.len l) uc] 84))):=(aD _ _).alloc (by simp) _;cases yv
     · by_cases hn:yn=n
       · have hl:¬Fo.len l=Fo.len k:=λe=>hc ⟨rfl,hn,e⟩;have hnb:(yn !=n)=false:=by simp [hn]
         have hlb:((Fo.len l:Int)!=(Fo.len k:Int))=true:=by simp;omega
         clear hc hn hl;go_enter Tryz.func162,Tryz.ntmps162
         go_wp2_with fail
         go_ret2;exact Hf.out _ Hb.out
       · have hnb:(yn !=n)=true:=by simp [hn]
         clear hc hn;go_enter Tryz.func162,Tryz.ntmps162
         go_wp2_with fail
         go_ret2;exact Hf.out _ Hb.out
     · clear hc;go_enter Tryz.func162,Tryz.ntmps162
       go_wp2_with fail
       go_ret2;exact Hf.out _ Hb.out
 · clear had hud;go_enter Tryz.func162,Tryz.ntmps162
   go_wp2_with fail
   generalize hW2:(w.alloc (.cells #[.bool true,.int .i64 n,.slice ad (Fo.len k) ac] 84)).alloc (.cells #[.bool yv,.int .i64 yn,.slice ud (Fo.len l) uc] 84)=W2;have hs2:W2.heap.size=w.heap.size+1+1:=by rw [←hW2];simp
   have hB2:Below w.heap.size w W2:=by rw [←hW2];exact (aD _ _).alloc (by simp) _
   have q1:W2.cell? ⟨w.heap.size,1,none⟩=some (.int .i64 n):=by rw [←hW2,World.cell?_alloc_lt _ _ _ (by simp)];exact aF rfl
   have r0:W2.cell? ⟨w.heap.size+1,0,none⟩=some (.bool yv):=by rw [←hW2];exact aF (World.size_alloc _ _)
   have r1:W2.cell? ⟨w.heap.size+1,1,none⟩=some (.int .i64 yn):=by rw [←hW2];exact aF (World.size_alloc _ _)
   have r2:W2.cell? ⟨w.heap.size+1,2,none⟩=some (.slice ud (Fo.len l) uc):=by rw [←hW2];exact aF (World.size_alloc _ _)
   clear hW2;refine (EW s n _ W2 (HO.out.sub.below hB2)).mono ?_;rintro e w1 ⟨i,rfl,hf,hb⟩;have q1':=aA hb _ _ q1;have r0':=aA hb _ _ r0;have r1':=aA hb _ _ r1;have r2':=aA hb _ _ r2;have hB3:=aC hB2 hb;have HB3:Hid (Below w.heap.size w w1.drew):=hB3.trans (Below.refl _ _).drew;have hs3:=hb.size;have HU1:=aB (HU.out.toS.below hB3).drew;clear hb q1 r0 r1 r2 hB2;rcases hf with ⟨rfl,hlk⟩|⟨j,⟨⟨tv,tn⟩,tk⟩,rfl,hj,hlk⟩
   · have iX:Hid (iW s ((true,n),k) ((yv,yn),l)=some (s++[(n,((yv,yn),l))])):=BM hlk;obtain ⟨i52,aGV,hz0,hz1,hz2⟩:=info_parts Tryz.info92;have hn1:s.length+1<=maxLen:=by unfold maxLen;omega
     have hn2:(s.length+1)*48<=140737488355328:=by omega
     clear hlk
     go_upto_region 4 with fail
     have hcall:Calls Tryz.prog 121 #[.agg #[.bool yv,.int .i64 yn,.slice ud (Fo.len l) uc]] w1.drew λe w'=>∃(b1:Option Addr) (b2 b3:Nat),e= .returned (.agg #[.bool yv,.int .i64 yn,.slice b1 b2 b3])/\dK w' w1.heap.size w'.heap.size l (.slice b1 b2 b3)/\Below w1.heap.size w1 w':=by refine (J4 (yv,yn) l _ w1.drew HU1.out sU.out.1 sU.out.2).mono ?_;rintro e w' ⟨a',rfl,TK,hb'⟩;rw [oZ nD.out] at TK ⊢;obtain ⟨b1,b2,b3,rfl⟩:=bC TK.toS;exact ⟨b1,b2,b3,rfl,TK,(Below.refl _ _).drew.trans hb'⟩
     have mF:=aB hcall;clear hcall
     go_region_law (first
      |(refine step_append_lies _ (by rfl) _ _ _ (by rfl) lo 92 i52 (.agg #[.int .i64 0,.bool false,.int .i64 0,.slice none 0 0]) 4 48 Tryz.underlying90 aGV hz0 hz1 hz2 rfl (by decide) (.slice z1 s.length z3) s.length xs (by rfl) UW.out ⟨w3.heap.size,0,none⟩ 1 1 [.int .i64 n,.bool yv,.int .i64 yn,.slice b1 b2 b3] (by rfl) (by rfl) rQ.out (by simp [Value.oneCell']) (by decide) hn1 hn2 (by simp;omega) (w3.heap.size+1) (by simp) ?_;intro g bW w4 sM hg4 jE oH)
      |(go_simp;go_at_call 121;refine mF.out.mono ?_;rintro e w3 ⟨b1,b2,b3,rfl,hO3,hb3⟩
        have aVE:=aA hb3 _ _ q1';have hs4:=hb3.size;have UW:Hid ((w3.alloc (.cells #[.int .i64 n,.bool yv,.int .i64 yn,.slice b1 b2 b3] 92)).ownsRow lo 92 4 (.slice z1 s.length z3) s.length xs):=(bA HO.out.row (λg hg=>by have h:=aJ HO.out.row g hg;rw [Below.heap_alloc _ _ _ (by omega),hb3.block g (by omega),hB3.block g h.2]));have rQ:Hid (∀j u,[Value.int .i64 n,.bool yv,.int .i64 yn,.slice b1 b2 b3][j]?=some u->(w3.alloc (.cells #[.int .i64 n,.bool yv,.int .i64 yn,.slice b1 b2 b3] 92)).cell? ((⟨w3.heap.size,0,none⟩:Addr).add j)=some u):=(World.news_of_block (cs:=#[.int .i64 n,.bool yv,.int .i64 yn,.slice b1 b2 b3]) (heap_alloc_new w3 _))))
     all_goals
      have jP:=aB (aI6 (n:=n) (t:=((yv,yn),l)) HO.out (aC hB3 hb3) (hO3.toB (λq q1 q2=>⟨by omega,q2⟩)) sM hg4 jE oH);have Hf:Hid (nS lo X w s (.slice z1 s.length z3) ((true,n),k) ((yv,yn),l) (.returned (.tuple #[.slice (some ⟨g,0,none⟩) (s.length+1) bW,.bool true])) w4):=by have:=EX (z1:=some ⟨g,0,none⟩) (z3:=bW) iX.out (by simpa using jP.out);exact aB (by simpa using this)
      clear sM hg4 jE oH hO3 hb3 UW rQ aGV hz0 hz1 hz2 jP
      go_wp2_with fail
      go_ret2;exact Hf.out
   · have iX:Hid (iW s ((true,n),k) ((yv,yn),l)=if cB (tv,tn) tk (yv,yn) l then some s else none):=BK hlk;have hSub:=HO.out.sub.below hB3;obtain ⟨sa,sc,sb,so,hsl,hsa,aKL,QM,hP⟩:=hSub;simp only [Value.slice.injEq] at hsl;obtain ⟨rfl,-,rfl⟩:=hsl;have hjl:j<s.length:=by
      rcases Nat.lt_or_ge j s.length with h|h
      · exact h
      · rw [List.getElem?_eq_none h] at hj;cases hj
     have ha:z1=some ⟨sb,so,none⟩:=hsa (by omega);subst ha;obtain ⟨c0,c1,c2,bB,c3,kW⟩:=hP.at hj;have UD:=aB kW.drew;obtain ⟨ya,yc,yb,yo,rfl,-,-,-,-⟩:=kW;have hj0:(0:Int)<=(j:Int):=by omega
     have hj1:(j:Int)<(s.length:Int):=by omega
     unfold maxLen at QM;clear hlk hj hsa hP
     go_upto_region 5 with fail
     go_region_with (first
      |(go_at_call 134;refine (kH (tv,tn) tk (yv,yn) l _ _ w1.drew UD.out HU1.out).mono ?_;rintro e w2 ⟨rfl,hb2⟩))
     all_goals
      have Hb2:Hid (Below w.heap.size w w2):=HB3.out.trans (hb2.mono HB3.out.size);clear hb2;cases hsm:cB (tv,tn) tk (yv,yn) l
      · have Hf:Hid (nS lo X w s (.slice (some ⟨sb,so,none⟩) s.length z3) ((true,n),k) ((yv,yn),l) (.returned (.tuple #[.slice none 0 0,.bool false])) w2):=by
         refine EY (Fr.of_below Hb2.out _ _) ?_;rw [iX.out,hsm];rfl
        clear hsm
        go_wp2_with fail
        go_ret2;exact Hf.out
      · have Hf:Hid (nS lo X w s (.slice (some ⟨sb,so,none⟩) s.length z3) ((true,n),k) ((yv,yn),l) (.returned (.tuple #[.slice (some ⟨sb,so,none⟩) s.length z3,.bool true])) w2):=by
         refine EX (s':=s) (xs':=xs) ?_ ⟨?_,Fr.of_below Hb2.out _ _,.inl rfl⟩
         · rw [iX.out,hsm];rfl
         · refine (HO.out.below Hb2.out).wide (λq hq=> .inl hq) (λq hq=>?_);rcases hq with hq|hq
           · have:=HO.out.off q hq;exact ⟨Nat.lt_of_lt_of_le this.1 Hb2.out.size,this.2⟩
           · exact hq.2
        clear hsm
        go_wp2_with fail
        go_ret2;exact Hf.out
end
section
attribute [local go_sem ↓] Go.wp_at_zero Go.wp_at_succ
def set4 (w:World) (b o:Nat) (x y z u:Value):World:=(((w.setCell ⟨b,o,none⟩ x).setCell ⟨b,o+1,none⟩ y).setCell ⟨b,o+2,none⟩ z).setCell ⟨b,o+3,none⟩ u
def NI (xs:List Value) (o:Nat) (x y z u:Value):List Value:=(((xs.set o x).set (o+1) y).set (o+2) z).set (o+3) u
theorem OH {w:World} {b o:Nat} {x y z u:Value} {q:Nat} (h:q≠b):(set4 w b o x y z u).heap[q]?=w.heap[q]?:=by unfold set4;rw [Below.heap_setCell _ _ _ _ h,Below.heap_setCell _ _ _ _ h,Below.heap_setCell _ _ _ _ h,Below.heap_setCell _ _ _ _ h]
theorem ED {w:World} {b o:Nat} {x y z u:Value}:(set4 w b o x y z u).heap.size=w.heap.size:=by simp [set4,World.setCell]
theorem aA1 {B:Nat} {w w1:World} {b o:Nat} {x y z u:Value} (h:Below B w w1) (hb:B<=b):Below B w (set4 w1 b o x y z u):=(((h.setCell hb _).setCell hb _).setCell hb _).setCell hb _
theorem aIN {w:World} {lo:Nat} {e:TypeId} {size g n bW o:Nat} {xs:List Value} {x y z u:Value} (h:w.ownsRow lo e size (.slice (some ⟨g,0,none⟩) n bW) n xs):
 (set4 w g o x y z u).ownsRow lo e size (.slice (some ⟨g,0,none⟩) n bW) n (NI xs o x y z u):=((((h.stored o x).1).stored (o+1) y).1.stored (o+2) z).1.stored (o+3) u |>.1
theorem K6 {x y z u:Value}:∀{j:Nat} {xs:List Value},(j+1)*4<=xs.length->(NI xs (j*4) x y z u).take ((j+1)*4)=xs.take (j*4)++[x,y,z,u]
 |0,xs,h=>by
  match xs,h with
  |[],h=>simp at h
  |[_],h=>simp at h
  |[_,_],h=>simp at h
  |[_,_,_],h=>simp at h
  |a::b::c::d::ys,_=>simp [NI]
 |j+1,xs,h=>by
  match xs,h with
  |[],h=>simp at h
  |[_],h=>simp only [List.length_cons,List.length_nil] at h;omega
  |[_,_],h=>simp only [List.length_cons,List.length_nil] at h;omega
  |[_,_,_],h=>simp only [List.length_cons,List.length_nil] at h;omega
  |a::b::c::d::ys,h=>
   have ih:=K6 (x:=x) (y:=y) (z:=z) (u:=u) (j:=j) (xs:=ys) (by simp only [List.length_cons] at h;omega);have e1:(j+1)*4=j*4+4:=by omega
   have e2:(j+1+1)*4=(j+1)*4+4:=by omega
   have e3:NI (a::b::c::d::ys) ((j+1)*4) x y z u=a::b::c::d::NI ys (j*4) x y z u:=by rw [e1];simp [NI]
   rw [e3,e2];simp only [List.take_succ_cons];rw [ih,e1];simp
def AJ (lo g:Nat) (W2:World) (s:Sb) (j:Nat) (wr:World):Prop:=
 Below g W2 wr/\g<wr.heap.size/\∃xs,wr.ownsRow lo 92 4 (.slice (some ⟨g,0,none⟩) s.length s.length) s.length xs/\PC (λq=>q<wr.heap.size/\q≠g) wr (s.take j) (xs.take (j*4))
theorem aF8 {lo g:Nat} {W2 wr w2:World} {s:Sb} {j:Nat} {n:Int} {t:Tm} {a:Value} (h:AJ lo g W2 s j wr) (hj:s[j]?=some (n,t)) (hb:Below wr.heap.size wr w2) (hO:SB (λq=>wr.heap.size<=q/\q<w2.heap.size) w2 t.2 a):
 AJ lo g W2 s (j+1) (set4 w2 g (j*4) (.int .i64 n) (.bool t.1.1) (.int .i64 t.1.2) a):=by
 obtain ⟨hB,hg,xs,hr,hP⟩:=h;have hs:=hb.size;have hW:=hB.size;have hjl:j<s.length:=by
  rcases Nat.lt_or_ge j s.length with h|h
  · exact h
  · rw [List.getElem?_eq_none h] at hj;cases hj
 refine ⟨aA1 (hB.trans ((hb.mono (Nat.le_of_lt hg)))) (Nat.le_refl _),by rw [ED];omega,_,aIN (bA hr (λq hq=>hb.block q (aJ hr q hq).2)),?_⟩;rw [K6 (by rw [hr.1];omega),List.take_add_one,hj];refine PC.append (PC.one (t:=t) ?_) ?_
 · refine hO.frame (λq hq=>⟨by rw [ED];exact hq.2,by omega⟩) (λq i hq=>World.cell?_of_block (OH (by show q≠g;omega)))
 · refine hP.frame (λq hq=>⟨by rw [ED];omega,hq.2⟩) (λq i hq=>World.cell?_of_block ?_);rw [OH hq.2,hb.block q hq.1]
def BX (w:World) (s:Sb) (t u:Tm) (e:Ending) (w':World):Prop:=
 Below w.heap.size w w'/\∃(z1:Option Addr) (m z3:Nat) (ok:Bool),e= .returned (.tuple #[.slice z1 m z3,.bool ok])/\(ok=false->iW s t u=none/\z1=none/\m=0/\z3=0)/\
  (ok=true->∃s',iW s t u=some s'/\m=s'.length/\dZ w' s' (.slice z1 m z3))
theorem J9 (s:Sb) (vs:Value) (x:Bool×Int) (k:Fo) (a:Value) (y:Bool×Int) (l:Fo) (c:Value) (w:World) (hV:dZ w s vs) (hs:∀p∈s,jD p.2/\gN p.2) (hS:cO w k a) (hU:cO w l c) (hok:gN (y,l)) (hnar:jD (y,l)) (hlen:(s.length+aM k)*48<=140737488355328):
 Calls Tryz.prog 135 #[vs,.agg #[.bool x.1,.int .i64 x.2,a],.agg #[.bool y.1,.int .i64 y.2,c]] w (BX w s (x,k) (y,l)):=by
 obtain ⟨xv,xn⟩:=x;obtain ⟨yv,yn⟩:=y;have HS:=aB hS;have HU:=aB hU;have Hs:=aB hs;have nD:=aB hok;have sU:=aB hnar;obtain ⟨ad,ac,b,o,rfl,-,-,-,-⟩:=hS;obtain ⟨ud,uc,ub,uo,rfl,-,-,-,-⟩:=hU;obtain ⟨vd,vc,vb,vo,rfl,hvd,aQJ,aGP,hP⟩:=hV;unfold maxLen at aGP;have HP:=aB hP;clear hs hok hnar hP;obtain ⟨i52,hi,hz0,hz1,hz2⟩:=info_parts Tryz.info92;have hmk:=λw:World=>run_make (P:=Tryz.prog) w 90 92 i52 _ Tryz.underlying90 hi hz0 .i64 .i64 (s.length:Int) (s.length:Int) (by omega) (by omega) (by rw [hz2];omega) (by omega);rw [hz1] at hmk;simp only [Int.toNat_natCast] at hmk;go_enter Tryz.func135,Tryz.ntmps135
 go_wp2_with fail
 clear hmk hi hz0 hz1 hz2;generalize hW2:(w.alloc (.cells #[.bool xv,.int .i64 xn,.slice ad (Fo.len k) ac] 84)).alloc (.cells #[.bool yv,.int .i64 yn,.slice ud (Fo.len l) uc] 84)=W2;have hs2:W2.heap.size=w.heap.size+1+1:=by rw [←hW2];simp
 have hB2:Below w.heap.size w W2:=by rw [←hW2];exact (aD _ _).alloc (by simp) _
 have p0:W2.cell? ⟨w.heap.size,0,none⟩=some (.bool xv):=by rw [←hW2,World.cell?_alloc_lt _ _ _ (by simp)];exact aF rfl
 have p1:W2.cell? ⟨w.heap.size,1,none⟩=some (.int .i64 xn):=by rw [←hW2,World.cell?_alloc_lt _ _ _ (by simp)];exact aF rfl
 have p2:W2.cell? ⟨w.heap.size,2,none⟩=some (.slice ad (Fo.len k) ac):=by rw [←hW2,World.cell?_alloc_lt _ _ _ (by simp)];exact aF rfl
 have r0:W2.cell? ⟨w.heap.size+1,0,none⟩=some (.bool yv):=by rw [←hW2];exact aF (World.size_alloc _ _)
 have r1:W2.cell? ⟨w.heap.size+1,1,none⟩=some (.int .i64 yn):=by rw [←hW2];exact aF (World.size_alloc _ _)
 have r2:W2.cell? ⟨w.heap.size+1,2,none⟩=some (.slice ud (Fo.len l) uc):=by rw [←hW2];exact aF (World.size_alloc _ _)
 have HQ:=aB (And.intro p0 (And.intro p1 (And.intro p2 (And.intro r0 (And.intro r1 r2)))));have HB2:=aB hB2;have sO:=aB hs2;have H0:Hid (AJ w.heap.size (w.heap.size+1+1) W2 s 0 (W2.alloc (.cells (madeCells #[.int .i64 0,.bool false,.int .i64 0,.slice none 0 0] (s.length*4)) 92))):=by refine ⟨(Below.refl _ _).alloc (by omega) _,by simp;omega,(madeCells #[.int .i64 0,.bool false,.int .i64 0,.slice none 0 0] (s.length*4)).toList,?_,by simp [PC]⟩;have:=World.ownsRow_lit (base:=w.heap.size) (e:=92) (size:=4) W2 (madeCells #[.int .i64 0,.bool false,.int .i64 0,.slice none 0 0] (s.length*4)) s.length (by omega) (by unfold maxLen;omega) (by rw [size_madeCells]);rw [hs2] at this;exact this
 clear p0 p1 p2 r0 r1 r2 hB2 hs2 hW2
 go_loopw [16] (λi wr=>∃j:Nat,j<=s.length/\i= .int .i64 j/\AJ w.heap.size (w.heap.size+1+1) W2 s j wr) (λi _=>s.length - (intOf i).toNat)
 case atStart=>exact ⟨0,Nat.zero_le _,rfl,H0.out⟩
 case round=>
  obtain ⟨j,hj,rfl,hR⟩:=hrel;have HR:=aB hR;obtain ⟨hB,hg,xs,hrow,hPC⟩:=hR;have hs2:=sO.out;have hBw:Below w.heap.size w wr:=HB2.out.trans (hB.mono (by omega));clear H0;by_cases hlt:j<s.length
  · have hlt':(j:Int)<(s.length:Int):=by omega
    obtain ⟨⟨m,⟨tv,tn⟩,tk⟩,hy⟩:∃y,s[j]?=some y:=⟨s[j],by simp [hlt]⟩;obtain ⟨c0,c1,c2,tv',c3,kW⟩:=(HP.out.below hBw).at hy;have UD:=aB kW;obtain ⟨ya,yc,yb,yo,rfl,-,-,-,-⟩:=kW;have ha:vd=some ⟨vb,vo,none⟩:=hvd (by omega);subst ha;have Hy:=aB hy;have Hn:=aB (Hs.out _ (List.mem_of_getElem? hy));have hxl:=hrow.1;have e0:∃u,wr.cell? ⟨w.heap.size+1+1,j*4,none⟩=some u:=⟨xs[j*4]'(by omega),by rw [hrow.cellAt (j*4) (by omega),List.getElem?_eq_getElem]⟩;have e1:∃u,wr.cell? ⟨w.heap.size+1+1,j*4+1,none⟩=some u:=⟨xs[j*4+1]'(by omega),by rw [hrow.cellAt (j*4+1) (by omega),List.getElem?_eq_getElem]⟩;have e2:∃u,wr.cell? ⟨w.heap.size+1+1,j*4+2,none⟩=some u:=⟨xs[j*4+2]'(by omega),by rw [hrow.cellAt (j*4+2) (by omega),List.getElem?_eq_getElem]⟩;have e3:∃u,wr.cell? ⟨w.heap.size+1+1,j*4+3,none⟩=some u:=⟨xs[j*4+3]'(by omega),by rw [hrow.cellAt (j*4+3) (by omega),List.getElem?_eq_getElem]⟩;obtain ⟨u0,e0⟩:=e0;obtain ⟨u1,e1⟩:=e1;obtain ⟨u2,e2⟩:=e2;obtain ⟨u3,e3⟩:=e3;have ff:∀i,wr.frozen? ⟨w.heap.size+1+1,i,none⟩=false:=λi=>hrow.frozenAt i;clear hy hvd hB hrow hPC hxl
    go_upto_region 5 with fail
    generalize fA:wr.alloc (.cells #[.int .i64 m,.bool tv,.int .i64 tn,.slice ya (Fo.len tk) yc] 92)=wa;have a0:wa.cell? ⟨wr.heap.size,0,none⟩=some (.int .i64 m):=by rw [←fA];exact aF rfl
    have a1:wa.cell? ⟨wr.heap.size,1,none⟩=some (.bool tv):=by rw [←fA];exact aF rfl
    have a2:wa.cell? ⟨wr.heap.size,2,none⟩=some (.int .i64 tn):=by rw [←fA];exact aF rfl
    have a3:wa.cell? ⟨wr.heap.size,3,none⟩=some (.slice ya (Fo.len tk) yc):=by rw [←fA];exact aF rfl
    have bZ:Below wr.heap.size wr wa:=by rw [←fA];exact aD _ _
    have hsa:=bZ.size;have e0':=aA bZ _ _ e0;have e1':=aA bZ _ _ e1;have e2':=aA bZ _ _ e2;have e3':=aA bZ _ _ e3;have ff':∀i,wa.frozen? ⟨w.heap.size+1+1,i,none⟩=false:=λi=>(bZ.frozen hg).trans (ff i);have oH:w.heap.size+1+1<wa.heap.size:=by omega
    have hcall:Calls Tryz.prog 121 #[.agg #[.bool tv,.int .i64 tn,.slice ya (Fo.len tk) yc]] wa.drew λe w'=>∃(b1:Option Addr) (b2 b3:Nat),e= .returned (.agg #[.bool tv,.int .i64 tn,.slice b1 b2 b3])/\dK w' wa.heap.size w'.heap.size tk (.slice b1 b2 b3)/\Below wa.heap.size wa w':=by refine (J4 (tv,tn) tk _ wa.drew (UD.out.below bZ).drew Hn.out.1.1 Hn.out.1.2).mono ?_;rintro e w' ⟨a',rfl,TK,hb'⟩;rw [oZ Hn.out.2] at TK ⊢;obtain ⟨b1,b2,b3,rfl⟩:=bC TK.toS;exact ⟨b1,b2,b3,rfl,TK,(Below.refl _ _).drew.trans hb'⟩
    have mF:=aB hcall;have xV:=aB bZ;clear hcall fA c0 c1 c2 c3 e0 e1 e2 e3 ff bZ
    go_region_with (first
     |(go_at_call 121;refine mF.out.mono ?_;rintro e w2 ⟨b1,b2,b3,rfl,hO2,hb2⟩;have a0':=aA hb2 _ _ a0;have aO3:=aA hb2 _ _ e0';have aO2:=aA hb2 _ _ e1';have aO1:=aA hb2 _ _ e2';have aWA:=aA hb2 _ _ e3';have aV5:∀i,w2.frozen? ⟨w.heap.size+1+1,i,none⟩=false:=(λi=>(hb2.frozen oH).trans (ff' i))))
    all_goals
     have fQ:Hid (AJ w.heap.size (w.heap.size+1+1) W2 s (j+1) (set4 w2 (w.heap.size+1+1) (j*4) (.int .i64 m) (.bool tv) (.int .i64 tn) (.slice b1 b2 b3))):=aF8 (n:=m) (t:=((tv,tn),tk)) (a:= .slice b1 b2 b3) HR.out Hy.out (aC xV.out hb2) (hO2.toB (λq q1 q2=>⟨by omega,q2⟩));clear hO2 hb2 a0' e0' e1' e2' e3' ff'
     go_wp2_with fail
     go_roundw
     case rel=>exact ⟨j+1,by omega,by go_num,fQ.out⟩
     case measure=>simp [intOf];omega
  · have lK:j=s.length:=by omega
    subst lK;obtain ⟨q0,q1,q2,q3,q4,q5⟩:=HQ.out;have p0:wr.cell? ⟨w.heap.size,0,none⟩=some (.bool xv):=(hB.cell (by show w.heap.size<_;omega)).trans q0;have p1:wr.cell? ⟨w.heap.size,1,none⟩=some (.int .i64 xn):=(hB.cell (by show w.heap.size<_;omega)).trans q1;have p2:wr.cell? ⟨w.heap.size,2,none⟩=some (.slice ad (Fo.len k) ac):=(hB.cell (by show w.heap.size<_;omega)).trans q2;have r0:wr.cell? ⟨w.heap.size+1,0,none⟩=some (.bool yv):=(hB.cell (by show w.heap.size+1<_;omega)).trans q3;have r1:wr.cell? ⟨w.heap.size+1,1,none⟩=some (.int .i64 yn):=(hB.cell (by show w.heap.size+1<_;omega)).trans q4;have r2:wr.cell? ⟨w.heap.size+1,2,none⟩=some (.slice ud (Fo.len l) uc):=(hB.cell (by show w.heap.size+1<_;omega)).trans q5;have HOw:Hid (kR w.heap.size (λq=>q<wr.heap.size/\q≠w.heap.size+1+1) wr s (.slice (some ⟨w.heap.size+1+1,0,none⟩) s.length s.length) xs):=by
     refine ⟨hrow,?_,λq hq=>⟨hq.1,λe=>?_⟩⟩
     · rw [List.take_length,←hrow.1,List.take_length] at hPC;exact hPC
     · simp [Value.ownBlock] at e;exact hq.2 e
    have HSB:Hid (SB (λq=>q<wr.heap.size/\q≠w.heap.size+1+1) wr k (.slice ad (Fo.len k) ac)):=(HS.out.toB.grow (λ_ h=>h) hBw).wide (λq hq=>⟨by have:=hBw.size;omega,by omega⟩);have HUB:Hid (SB (λq=>q<wr.heap.size/\q≠w.heap.size+1+1) wr l (.slice ud (Fo.len l) uc)):=(HU.out.toB.grow (λ_ h=>h) hBw).wide (λq hq=>⟨by have:=hBw.size;omega,by omega⟩);clear q0 q1 q2 q3 q4 q5 hrow hPC hB
    go_wp2_with fail
    refine (aBU (xv,xn) k w.heap.size _ s _ xs (yv,yn) l _ _ wr HOw.out hBw.size HSB.out HUB.out nD.out sU.out hlen).mono ?_;rintro e w2 ⟨hf2,x1,xm,x3,ok,rfl,hno,fG⟩;have Hf:Hid (BX w s ((xv,xn),k) ((yv,yn),l) (.returned (.tuple #[.slice x1 xm x3,.bool ok])) w2):=by
     refine ⟨?_,x1,xm,x3,ok,rfl,hno,λe=>?_⟩
     · refine hBw.trans (hf2.below hBw.size (λg hg=>?_) (λg hg=>by cases hg));simp [Value.ownBlock] at hg;omega
     · obtain ⟨s',xs',h1,h2,h3,_⟩:=fG e;subst h2;exact ⟨s',h1,rfl,h3.sub⟩
    clear hf2 hno fG
    go_wp2_with fail
    go_ret2;exact Hf.out
theorem aFE (x:Bool×Int) (k:Fo) (a:Value) (y:Bool×Int) (l:Fo) (c:Value) (w:World) (hS:cO w k a) (hU:cO w l c) (hok:gN (y,l)) (hnar:jD (y,l)) (hlen:aM k*48<=140737488355328):
 Calls Tryz.prog 160 #[.agg #[.bool x.1,.int .i64 x.2,a],.agg #[.bool y.1,.int .i64 y.2,c]] w (BX w [] (x,k) (y,l)):=by
 obtain ⟨xv,xn⟩:=x;obtain ⟨yv,yn⟩:=y;have HS:=aB hS;have HU:=aB hU;have nD:=aB hok;have sU:=aB hnar;obtain ⟨ad,ac,b,o,rfl,-,-,-,-⟩:=hS;obtain ⟨ud,uc,ub,uo,rfl,-,-,-,-⟩:=hU;clear hok hnar;go_enter Tryz.func160,Tryz.ntmps160
 go_wp2_with fail
 generalize hW2:(w.alloc (.cells #[.bool xv,.int .i64 xn,.slice ad (Fo.len k) ac] 84)).alloc (.cells #[.bool yv,.int .i64 yn,.slice ud (Fo.len l) uc] 84)=W2;have hB2:Below w.heap.size w W2:=by rw [←hW2];exact (aD _ _).alloc (by simp) _
 refine (J9 [] (.slice none 0 0) (xv,xn) k _ (yv,yn) l _ W2 (dZ.nil _) (λp hp=>by simp at hp) (HS.out.below hB2) (HU.out.below hB2) nD.out sU.out (by simpa using hlen)).mono ?_;rintro e w2 ⟨hb2,x1,xm,x3,ok,rfl,hno,fG⟩;have Hf:Hid (BX w [] ((xv,xn),k) ((yv,yn),l) (.returned (.tuple #[.slice x1 xm x3,.bool ok])) w2):=⟨aC hB2 hb2,x1,xm,x3,ok,rfl,hno,fG⟩;clear hno fG hb2
 go_wp2_with fail
 go_ret2;exact Hf.out
end
section
attribute [local go_sem ↓] Go.wp_at_zero Go.wp_at_succ
theorem MZ (X:Nat->Prop) (s:Sb) (vs:Value) (x:Bool×Int) (k:Fo) (a:Value) (w:World) (hX:∀q,X q->q<w.heap.size) (hV:dZ w s vs) (hT:∀i p v b o,vs= .slice (some ⟨b,o,none⟩) s.length v->s[i]?=some p->∃u,w.cell? ⟨b,o+i*4+3,none⟩=some u/\SB X w p.2.2 u) (hS:SB X w k a):
 Calls Tryz.prog 137 #[vs,.agg #[.bool x.1,.int .i64 x.2,a]] w λe w'=>∃(a1:Option Addr) (a2 a3:Nat),e= .returned (.agg #[.bool (gZ s (x,k)).1.1,.int .i64 (gZ s (x,k)).1.2,.slice a1 a2 a3])/\SB X w' (gZ s (x,k)).2 (.slice a1 a2 a3)/\Below w.heap.size w w':=by
 obtain ⟨v,n⟩:=x;have HS:=aB hS;have HV:=aB hV;have HX:=aB hX;have HT:=aB hT;obtain ⟨ad,ac,b,o,rfl,-,-,-,-⟩:=hS;obtain ⟨vd,vc,vb,vo,rfl,hvd,aQJ,aGP,hP⟩:=hV;have HP:=aB hP;unfold maxLen at aGP;clear hT hP hX;cases v
 · have iX:Hid (gZ s ((false,n),k)=((false,n),k)):=rfl;have hb:Below w.heap.size w ((w.alloc (.cells #[.bool false,.int .i64 n,.slice ad (Fo.len k) ac] 84)).alloc (.cells #[.bool false,.int .i64 n,.slice ad (Fo.len k) ac] 84)):=(aD _ _).alloc (by simp) _;have Hb:=aB hb;clear hb hvd;go_enter Tryz.func137,Tryz.ntmps137
   go_wp2_with fail
   refine bodyPost_ret (v:= .agg #[.bool false,.int .i64 n,.slice ad (Fo.len k) ac]) (by simp [results,Tryz.results137,go_sem]) rfl ⟨ad,Fo.len k,ac,by rw [iX.out],?_,Hb.out⟩;rw [iX.out];exact HS.out.grow HX.out Hb.out
 · go_enter Tryz.func137,Tryz.ntmps137
   go_wp2_with fail
   generalize hW2:(w.alloc (.cells #[.bool true,.int .i64 n,.slice ad (Fo.len k) ac] 84)).alloc (.cells #[.bool false,.int .i64 0,.slice none 0 0] 84)=W2;have hs2:W2.heap.size=w.heap.size+1+1:=by rw [←hW2];simp
   have hB2:Below w.heap.size w W2:=by rw [←hW2];exact (aD _ _).alloc (by simp) _
   have p0:W2.cell? ⟨w.heap.size,0,none⟩=some (.bool true):=by rw [←hW2,World.cell?_alloc_lt _ _ _ (by simp)];exact aF rfl
   have p1:W2.cell? ⟨w.heap.size,1,none⟩=some (.int .i64 n):=by rw [←hW2,World.cell?_alloc_lt _ _ _ (by simp)];exact aF rfl
   have p2:W2.cell? ⟨w.heap.size,2,none⟩=some (.slice ad (Fo.len k) ac):=by rw [←hW2,World.cell?_alloc_lt _ _ _ (by simp)];exact aF rfl
   have r0:W2.cell? ⟨w.heap.size+1,0,none⟩=some (.bool false):=by rw [←hW2];exact aF (World.size_alloc _ _)
   have r1:W2.cell? ⟨w.heap.size+1,1,none⟩=some (.int .i64 0):=by rw [←hW2];exact aF (World.size_alloc _ _)
   have r2:W2.cell? ⟨w.heap.size+1,2,none⟩=some (.slice none 0 0):=by rw [←hW2];exact aF (World.size_alloc _ _)
   have rf:∀i,W2.frozen? ⟨w.heap.size+1,i,none⟩=false:=λi=>by rw [←hW2];exact bL (World.size_alloc _ _)
   clear hW2;refine (EW s n _ W2 (HV.out.below hB2)).mono ?_;rintro e w1 ⟨i,rfl,hf,hb⟩;have p0':=aA hb _ _ p0;have p1':=aA hb _ _ p1;have p2':=aA hb _ _ p2;have r0':=aA hb _ _ r0;have r1':=aA hb _ _ r1;have r2':=aA hb _ _ r2;have rf':∀i,w1.frozen? ⟨w.heap.size+1,i,none⟩=false:=λi=>(hb.frozen (by show w.heap.size+1<_;omega)).trans (rf i);have hB3:=aC hB2 hb;clear hb p0 p1 p2 r0 r1 r2 rf hB2;rcases hf with ⟨rfl,hlk⟩|⟨j,⟨⟨tv,tn⟩,tk⟩,rfl,hj,hlk⟩
   · have iX:Hid (gZ s ((true,n),k)=((true,n),k)):=by simp [Hid,gZ,hlk]
     clear hlk hvd
     go_wp2_with fail
     refine bodyPost_ret (v:= .agg #[.bool true,.int .i64 n,.slice ad (Fo.len k) ac]) (by simp [results,Tryz.results137,go_sem,r0',r1',r2']) rfl ⟨ad,Fo.len k,ac,by rw [iX.out],?_,aT (o:=0) hB3 (by omega)⟩;rw [iX.out];exact HS.out.grow HX.out (aT (o:=0) hB3 (by omega))
   · have iX:Hid (gZ s ((true,n),k)=((tv,tn),tk)):=by simp [Hid,gZ,hlk]
     have hjl:j<s.length:=by
      rcases Nat.lt_or_ge j s.length with h|h
      · exact h
      · rw [List.getElem?_eq_none h] at hj;cases hj
     have ha:vd=some ⟨vb,vo,none⟩:=hvd (by omega);subst ha;obtain ⟨c0,c1,c2,_,_,_⟩:=HP.out.at hj;obtain ⟨u,c3,hSu⟩:=HT.out j _ vc vb vo rfl hj;have c1':=aA hB3 _ _ c1;have c2':=aA hB3 _ _ c2;have c3':=aA hB3 _ _ c3;have HSu:=aB hSu;obtain ⟨ua,uc,ub,uo,rfl,-,-,-,-⟩:=hSu;have hj0:(0:Int)<=(j:Int):=by omega
     have hj1:(j:Int)<(s.length:Int):=by omega
     clear hlk hj hvd c0 c1 c2 c3
     go_wp2_with fail
     refine bodyPost_ret (v:= .agg #[.bool tv,.int .i64 tn,.slice ua (Fo.len tk) uc]) (by simp [results,Tryz.results137,go_sem,r0',r1',r2']) rfl ⟨ua,Fo.len tk,uc,by rw [iX.out],?_,aT (o:=0) hB3 (by omega)⟩;rw [iX.out];exact HSu.out.grow HX.out (aT (o:=0) hB3 (by omega))
end
section
attribute [local go_sem ↓] Go.wp_at_zero Go.wp_at_succ
theorem PC.cellsAt {X:Nat->Prop} {w:World}:∀{s:Sb} {xs:List Value} {j:Nat} {p:Int×Tm},PC X w s xs->s[j]?=some p->
 xs[j*4]?=some (.int .i64 p.1)/\xs[j*4+1]?=some (.bool p.2.1.1)/\xs[j*4+2]?=some (.int .i64 p.2.1.2)/\∃a,xs[j*4+3]?=some a/\SB X w p.2.2 a
 |[],_,_,_,_,h=>by simp at h
 |q::s,_,0,p,⟨a,ys,h1,h2,h3⟩,h=>by simp only [List.getElem?_cons_zero,Option.some.injEq] at h;subst h1 h;simpa using h2
 |q::s,_,j+1,p,⟨a,ys,h1,h2,h3⟩,h=>by
  subst h1;have:=PC.cellsAt (j:=j) h3 (by simpa using h);have e:(j+1)*4=j*4+4:=by omega
  rw [e];simpa using this
def UV (xs:List Value) (o:Nat) (x y z:Value):List Value:=((xs.set o x).set (o+1) y).set (o+2) z
theorem aIO {w:World} {lo:Nat} {e:TypeId} {size g n bW o:Nat} {xs:List Value} {x y z:Value} (h:w.ownsRow lo e size (.slice (some ⟨g,0,none⟩) n bW) n xs):
 (set3 w g o x y z).ownsRow lo e size (.slice (some ⟨g,0,none⟩) n bW) n (UV xs o x y z):=(((h.stored o x).1).stored (o+1) y).1.stored (o+2) z |>.1
theorem EE {w:World} {b o:Nat} {x y z:Value} {q:Nat} (h:q≠b):(set3 w b o x y z).heap[q]?=w.heap[q]?:=by unfold set3;rw [Below.heap_setCell _ _ _ _ h,Below.heap_setCell _ _ _ _ h,Below.heap_setCell _ _ _ _ h]
theorem PC.upd {X:Nat->Prop} {w:World} {m:Int} {t:Tm} {a:Value} (ha:SB X w t.2 a):∀{s:Sb} {xs:List Value} {j:Nat} {u:Tm},PC X w s xs->s[j]?=some (m,u)->PC X w (s.set j (m,t)) (UV xs (j*4+1) (.bool t.1.1) (.int .i64 t.1.2) a)
 |[],_,_,_,_,h=>by simp at h
 |q::s,_,0,u,⟨b,ys,h1,h2,h3⟩,h=>by simp only [List.getElem?_cons_zero,Option.some.injEq] at h;subst h1 h;exact ⟨a,ys,by simp [UV],ha,h3⟩
 |q::s,_,j+1,u,⟨b,ys,h1,h2,h3⟩,h=>by
  subst h1;have ih:=PC.upd ha (j:=j) h3 (by simpa using h);refine ⟨b,_,?_,h2,ih⟩;have e:(j+1)*4+1=j*4+1+4:=by omega
  rw [e];simp [UV]
def yC (f:Tm->Tm) (s:Sb) (j:Nat):Sb:=(s.take j).map (λp=>(p.1,f p.2))++s.drop j
theorem aEC (f:Tm->Tm) (s:Sb):yC f s 0=s:=by simp [yC]
theorem aH6 (f:Tm->Tm) (s:Sb):yC f s s.length=s.map (λp=>(p.1,f p.2)):=by simp [yC]
theorem JC (f:Tm->Tm) (s:Sb) (j:Nat):(yC f s j).length=s.length:=by simp [yC];omega
theorem aCF {f:Tm->Tm} {s:Sb} {j:Nat} {p:Int×Tm} (h:s[j]?=some p):(yC f s j)[j]?=some p:=by
 have hj:j<s.length:=by
  rcases Nat.lt_or_ge j s.length with h'|h'
  · exact h'
  · rw [List.getElem?_eq_none h'] at h;cases h
 unfold yC;rw [List.getElem?_append_right (by simp;omega)];simp only [List.length_map,List.length_take];rw [Nat.min_eq_left (by omega),Nat.sub_self,List.getElem?_drop];exact h
theorem N7 {f:Tm->Tm}:∀{s:Sb} {j:Nat} {m:Int} {t:Tm},s[j]?=some (m,t)->yC f s (j+1)=(yC f s j).set j (m,f t)
 |[],_,_,_,h=>by simp at h
 |q::s,0,m,t,h=>by simp only [List.getElem?_cons_zero,Option.some.injEq] at h;subst h;simp [yC]
 |q::s,j+1,m,t,h=>by have:=N7 (f:=f) (s:=s) (j:=j) (m:=m) (t:=t) (by simpa using h);unfold yC at this ⊢;simp only [List.take_succ_cons,List.map_cons,List.drop_succ_cons,List.cons_append,List.set_cons_succ,this]
theorem aH5 {lo:Nat} {X:Nat->Prop} {w wr w2:World} {s:Sb} {g bW n:Nat} {xs:List Value} {j:Nat} {m:Int} {u t:Tm} {a:Value} (h:kR lo (Ex X w wr (.slice (some ⟨g,0,none⟩) n bW)) wr s (.slice (some ⟨g,0,none⟩) n bW) xs) (hn:n=s.length) (hw:w.heap.size<=wr.heap.size) (hj:s[j]?=some (m,u))
 (hb:Below wr.heap.size wr w2) (hO:SB (λq=>wr.heap.size<=q/\q<w2.heap.size) w2 t.2 a):
 kR lo (Ex X w (set3 w2 g (j*4+1) (.bool t.1.1) (.int .i64 t.1.2) a) (.slice (some ⟨g,0,none⟩) n bW)) (set3 w2 g (j*4+1) (.bool t.1.1) (.int .i64 t.1.2) a) (s.set j (m,t)) (.slice (some ⟨g,0,none⟩) n bW) (UV xs (j*4+1) (.bool t.1.1) (.int .i64 t.1.2) a)/\
 Fr wr (set3 w2 g (j*4+1) (.bool t.1.1) (.int .i64 t.1.2) a) (some g) none:=by
 subst hn;have hs:=hb.size;have hg:g<wr.heap.size:=(aJ h.row g rfl).2;have hX:∀q,Ex X w wr (.slice (some ⟨g,0,none⟩) s.length bW) q->q<wr.heap.size/\q≠g:=λq hq=>⟨(h.off q hq).1,λe=>(h.off q hq).2 (by rw [e];rfl)⟩;have hsub:∀q,Ex X w wr (.slice (some ⟨g,0,none⟩) s.length bW) q->Ex X w (set3 w2 g (j*4+1) (.bool t.1.1) (.int .i64 t.1.2) a) (.slice (some ⟨g,0,none⟩) s.length bW) q:=λq hq=>by
  rcases hq with hq|hq
  · exact .inl hq
  · exact .inr ⟨hq.1,by rw [bQ];omega,hq.2.2⟩
 refine ⟨⟨?_,?_,λq hq=>?_⟩,?_⟩
 · have:=aIO (o:=j*4+1) (x:= .bool t.1.1) (y:= .int .i64 t.1.2) (z:=a) (bA h.row (λq hq=>hb.block q (aJ h.row q hq).2));simpa using this
 · refine PC.upd (u:=u) ?_ ?_ hj
   · refine hO.frame (λq hq=> .inr ⟨by omega,by rw [bQ];exact hq.2,λe=>?_⟩) (λq i hq=>World.cell?_of_block (EE (by show q≠g;omega)));simp [Value.ownBlock] at e;omega
   · refine h.cells.frame hsub (λq i hq=>World.cell?_of_block ?_);have:=hX q hq;rw [EE this.2,hb.block q this.1]
 · rcases hq with hq|hq
   · have:=hX q (.inl hq);refine ⟨by rw [bQ];omega,λe=>?_⟩;simp [Value.ownBlock] at e;exact this.2 e
   · exact hq.2
 · have hb':Below g wr (set3 w2 g (j*4+1) (.bool t.1.1) (.int .i64 t.1.2) a):=aT (hb.mono (Nat.le_of_lt hg)) (Nat.le_refl _);refine ⟨hb'.os,hb'.tape,hb'.output,by rw [bQ];exact hs,λq hq e1 _=>?_⟩;have hqg:q≠g:=λe=>e1 (by rw [e]);rw [EE hqg,hb.block q hq]
theorem aFB {lo:Nat} {X:Nat->Prop} {w w3:World} {s:Sb} {v:Value} {xs:List Value} {n:Int} {t:Tm} {a:Value} {ob:Obj} {g bW:Nat} (h:kR lo X w s v xs) (hO:SB X w t.2 a)
 (ho:w3.ownsRow lo 92 4 (.slice (some ⟨g,0,none⟩) (s.length+1) bW) (s.length+1) (xs++[.int .i64 n,.bool t.1.1,.int .i64 t.1.2,a])) (hg:(w.alloc ob).grownBy w3 v.ownBlock) (hat:v.ownBlock=some g\/g=w.heap.size+1) (hlt:g<w3.heap.size):
 kR lo (Ex X w w3 (.slice (some ⟨g,0,none⟩) (s.length+1) bW)) w3 (s++[(n,t)]) (.slice (some ⟨g,0,none⟩) (s.length+1) bW) (xs++[.int .i64 n,.bool t.1.1,.int .i64 t.1.2,a])/\
 Fr w w3 v.ownBlock none/\Mv w v (.slice (some ⟨g,0,none⟩) (s.length+1) bW):=by
 have hs3:=hg.size;simp at hs3;have far:∀q,q<w.heap.size->some q≠v.ownBlock->w3.heap[q]?=w.heap[q]?:=λq hq hn=>by rw [hg.block q (by simp;omega) hn,Below.heap_alloc _ _ _ hq]
 have off:∀q,Ex X w w3 (.slice (some ⟨g,0,none⟩) (s.length+1) bW) q->q<w3.heap.size/\some q≠(Value.slice (some ⟨g,0,none⟩) (s.length+1) bW).ownBlock:=λq hq=>by
  rcases hq with hq|hq
  · have h1:=h.off q hq;refine ⟨by omega,λe=>?_⟩;simp [Value.ownBlock] at e;subst e;rcases hat with e|e
    · exact h1.2 e.symm
    · omega
  · exact hq.2
 refine ⟨⟨by simpa using ho,?_,off⟩,?_,?_⟩
 · refine PC.append (PC.one ?_) ?_
   · exact hO.frame (λq hq=> .inl hq) (λq i hq=>World.cell?_of_block (far q (h.off q hq).1 (h.off q hq).2))
   · exact h.cells.frame (λq hq=> .inl hq) (λq i hq=>World.cell?_of_block (far q (h.off q hq).1 (h.off q hq).2))
 · exact ⟨hg.os,hg.tape,hg.output,by omega,λq hq hn _=>far q hq hn⟩
 · rcases hat with e|e
   · exact .inl e.symm
   · refine .inr λq hq=>?_;simp [Value.ownBlock] at hq;omega
def aDP (lo:Nat) (X:Nat->Prop) (w:World) (s:Sb) (vs:Value) (n:Int) (t:Tm) (e:Ending) (w':World):Prop:=
 Fr w w' vs.ownBlock none/\∃(z1:Option Addr) (m z3:Nat) (ok:Bool),e= .returned (.tuple #[.slice z1 m z3,.bool ok])/\(ok=false->pK s n t=none)/\
  (ok=true->∃s' xs',pK s n t=some s'/\m=s'.length/\kR lo (Ex X w w' (.slice z1 m z3)) w' s' (.slice z1 m z3) xs'/\Mv w vs (.slice z1 m z3))
theorem aKD (lo:Nat) (X:Nat->Prop) (s:Sb) (vs:Value) (xs:List Value) (n:Int) (x:Bool×Int) (k:Fo) (a:Value) (w:World) (hO:kR lo X w s vs xs) (hlo:lo<=w.heap.size) (hS:SB X w k a) (hs:∀p∈s,jD p.2/\gN p.2) (hok:gN (x,k)) (hnar:jD (x,k)) (hv:(bG x k []).length*8<=140737488355328) (hlen:(s.length+1)*48<=140737488355328):
 Calls Tryz.prog 138 #[vs,.int .i64 n,.agg #[.bool x.1,.int .i64 x.2,a]] w (aDP lo X w s vs n (x,k)):=by
 obtain ⟨xv,xn⟩:=x;have HO:=aB hO;have HS:=aB hS;have Hs:=aB hs;have nD:=aB hok;have sU:=aB hnar;obtain ⟨z1,z3,rfl⟩:=hO.slice;obtain ⟨ad,ac,b,o,rfl,-,-,-,-⟩:=hS;clear hO hs hok hnar;go_enter Tryz.func138,Tryz.ntmps138
 go_wp2_with fail
 generalize hWb:w.alloc (.cells #[.bool xv,.int .i64 xn,.slice ad (Fo.len k) ac] 84)=Wb;have hBb:Below w.heap.size w Wb:=by rw [←hWb];exact aD _ _
 have hsb:Wb.heap.size=w.heap.size+1:=by rw [←hWb];simp
 have p0:Wb.cell? ⟨w.heap.size,0,none⟩=some (.bool xv):=by rw [←hWb];exact aF rfl
 have p1:Wb.cell? ⟨w.heap.size,1,none⟩=some (.int .i64 xn):=by rw [←hWb];exact aF rfl
 have p2:Wb.cell? ⟨w.heap.size,2,none⟩=some (.slice ad (Fo.len k) ac):=by rw [←hWb];exact aF rfl
 clear hWb;refine (AO (xv,xn) k _ [] (.slice none 0 0) Wb (bG (xv,xn) k []) rfl (HS.out.toS.below hBb) ⟨none,0,0,0,rfl,λh=>by simp at h,Nat.le_refl _,Nat.zero_le _,λi hi=>by simp at hi⟩ hv).mono ?_;rintro e w1 ⟨v',rfl,ho1,hb1⟩;have Ho1:=aB ho1;obtain ⟨y1,y3,rfl⟩:=aR ho1;have q0:=aA hb1 _ _ p0;have q1:=aA hb1 _ _ p1;have q2:=aA hb1 _ _ p2;have hB1:=aC hBb hb1;have hs1:=hb1.size;clear ho1 hb1 p0 p1 p2 hBb
 go_wp2_with fail
 refine (CJ (bG (xv,xn) k []) n _ w1 (mJ Ho1.out)).mono ?_;rintro e w2 ⟨rfl,hw2⟩;rw [hw2];clear hw2 w2 Ho1;cases hh:j6 (bG (xv,xn) k []) n
 · have QZ:Hid (pK s n ((xv,xn),k)=some ((s.map λp=>(p.1,aH (aV [(n,((xv,xn),k))]) p.2))++[(n,((xv,xn),k))])):=by
    unfold pK Hid;rw [if_neg (by simp [hh])]
   clear hh
   go_wp2_with fail
   generalize hWl:w1.alloc (.cells #[.int .i64 n,.bool xv,.int .i64 xn,.slice ad (Fo.len k) ac] 92)=Wl;have hBl:Below w.heap.size w Wl:=by rw [←hWl];exact hB1.alloc hB1.size _
   have hsl:Wl.heap.size=w1.heap.size+1:=by rw [←hWl];simp
   have l0:Wl.cell? ⟨w1.heap.size,0,none⟩=some (.int .i64 n):=by rw [←hWl];exact aF rfl
   have l1:Wl.cell? ⟨w1.heap.size,1,none⟩=some (.bool xv):=by rw [←hWl];exact aF rfl
   have l2:Wl.cell? ⟨w1.heap.size,2,none⟩=some (.int .i64 xn):=by rw [←hWl];exact aF rfl
   have l3:Wl.cell? ⟨w1.heap.size,3,none⟩=some (.slice ad (Fo.len k) ac):=by rw [←hWl];exact aF rfl
   have HL:=aB (And.intro l0 (And.intro l1 (And.intro l2 l3)));have HBl:=aB hBl;have Hsl:=aB hsl;have Hnv:Hid (∀q,(Value.slice z1 s.length z3).ownBlock=some q->q<w.heap.size):=λq hq=>(aJ HO.out.row q hq).2;have hw1:=hB1.size;clear hWl hBl hsl l0 l1 l2 l3 q0 q1 q2 hsb
   go_loopw [19] (λi wr=>∃(j:Nat) (Y2:List Value),j<=s.length/\i= .int .i64 j/\kR lo (Ex X w wr (.slice z1 s.length z3)) wr (yC (aH (aV [(n,((xv,xn),k))])) s j) (.slice z1 s.length z3) Y2/\Fr Wl wr (Value.slice z1 s.length z3).ownBlock none) (λi _=>s.length - (intOf i).toNat)
   case atStart=>
    refine ⟨0,xs,Nat.zero_le _,rfl,?_,Fr.refl _ _ _⟩;rw [aEC];refine (HO.out.below HBl.out).wide (λq hq=> .inl hq) (λq hq=>?_);rcases hq with hq|hq
    · have:=HO.out.off q hq;exact ⟨Nat.lt_of_lt_of_le this.1 HBl.out.size,this.2⟩
    · exact hq.2
   case round=>
    obtain ⟨j,Y2,hj,rfl,hOj,hFj⟩:=hrel;have HOj:=aB hOj;have HFj:=aB hFj;have hsz:=hFj.size;have hsl:=Hsl.out;have hkeep:∀i,wr.cell? ⟨w1.heap.size,i,none⟩=Wl.cell? ⟨w1.heap.size,i,none⟩:=λi=>World.cell?_of_block (a:=⟨w1.heap.size,i,none⟩) (hFj.block w1.heap.size (by omega) (λe=>by have:=Hnv.out _ e.symm;omega) (by simp));obtain ⟨l0,l1,l2,l3⟩:=HL.out;have m0:=(hkeep 0).trans l0;have m1:=(hkeep 1).trans l1;have m2:=(hkeep 2).trans l2;have m3:=(hkeep 3).trans l3;have hFw:Fr w wr (Value.slice z1 s.length z3).ownBlock none:=(Fr.of_below HBl.out _ _).trans hFj (λq _ h=>h);have HFw:=aB hFw;have Hkx:Hid (∀q,X q->wr.heap[q]?=w.heap[q]?):=λq hq=>hFw.block q (HO.out.off q hq).1 (HO.out.off q hq).2 (by simp);have HSr:Hid (SB X wr k (.slice ad (Fo.len k) ac)):=HS.out.kept Hkx.out;clear l0 l1 l2 l3 hkeep hFw hOj hFj;by_cases hlt:j<s.length
    · have hlt':(j:Int)<(s.length:Int):=by omega
      obtain ⟨⟨m,⟨tv,tn⟩,tk⟩,hy⟩:∃y,s[j]?=some y:=⟨s[j],by simp [hlt]⟩;have Hy:=aB hy;obtain ⟨g,hg⟩:∃g,z1=some ⟨g,0,none⟩:=by
       rcases HOj.out.row.2 with ⟨_,h0⟩|⟨g,bW,cur,e,_⟩
       · rw [JC] at h0;omega
       · simp only [Value.slice.injEq] at e;exact ⟨g,e.1⟩
      subst hg;obtain ⟨d0,d1,d2,ta,d3,hSt⟩:=HOj.out.cells.cellsAt (aCF hy);have hrow:=HOj.out.row;rw [JC] at hrow;have c1:wr.cell? ⟨g,j*4+1,none⟩=some (.bool tv):=(hrow.cellAt (j*4+1) (by omega)).trans d1;have c2:wr.cell? ⟨g,j*4+2,none⟩=some (.int .i64 tn):=(hrow.cellAt (j*4+2) (by omega)).trans d2;have c3:wr.cell? ⟨g,j*4+3,none⟩=some ta:=(hrow.cellAt (j*4+3) (by omega)).trans d3;have ff:∀i,wr.frozen? ⟨g,i,none⟩=false:=λi=>hrow.frozenAt i;have HSt:=aB hSt.toS;obtain ⟨zK,tc,tb,t4,rfl,-,-,-,-⟩:=hSt;have hgl:g<wr.heap.size:=World.block_lt_of_cell? _ _ c1;have Hn:=aB (Hs.out _ (List.mem_of_getElem? hy));have hcap:s.length<=z3:=by
       rcases hrow.2 with ⟨e,_⟩|⟨g',bW,cur,e,_,_,h1,_⟩
       · cases e
       · simp only [Value.slice.injEq] at e;omega
      have hcap2:z3<=2 ^ 63 - 1:=by
       rcases hrow.2 with ⟨e,_⟩|⟨g',bW,cur,e,_,_,_,h1,_⟩
       · cases e
       · simp only [Value.slice.injEq] at e;unfold maxLen at h1;omega
      have c1a:(wr.alloc (.cells #[.int .i64 n,.bool xv,.int .i64 xn,.slice ad (Fo.len k) ac] 92)).cell? ⟨g,j*4+1,none⟩=some (.bool tv):=by rw [World.cell?_alloc_lt _ _ _ hgl];exact c1
      have c2a:(wr.alloc (.cells #[.int .i64 n,.bool xv,.int .i64 xn,.slice ad (Fo.len k) ac] 92)).cell? ⟨g,j*4+2,none⟩=some (.int .i64 tn):=by rw [World.cell?_alloc_lt _ _ _ hgl];exact c2
      have c3a:(wr.alloc (.cells #[.int .i64 n,.bool xv,.int .i64 xn,.slice ad (Fo.len k) ac] 92)).cell? ⟨g,j*4+3,none⟩=some (.slice zK (Fo.len tk) tc):=by rw [World.cell?_alloc_lt _ _ _ hgl];exact c3
      have ffa:∀i,(wr.alloc (.cells #[.int .i64 n,.bool xv,.int .i64 xn,.slice ad (Fo.len k) ac] 92)).frozen? ⟨g,i,none⟩=false:=λi=>((aD _ _).frozen hgl).trans (ff i);obtain ⟨⟨⟨uv,un⟩,uk⟩,hu⟩:∃z,z=aH (aV [(n,((xv,xn),k))]) ((tv,tn),tk):=⟨_,rfl⟩;have Hu:=aB hu;have hcall:Calls Tryz.prog 84 #[.slice (some ⟨wr.heap.size,0,none⟩) 1 1,.agg #[.bool tv,.int .i64 tn,.slice zK (Fo.len tk) tc]] (wr.alloc (.cells #[.int .i64 n,.bool xv,.int .i64 xn,.slice ad (Fo.len k) ac] 92)).drew λe w'=>∃(b1:Option Addr) (b2 b3:Nat),e= .returned (.agg #[.bool uv,.int .i64 un,.slice b1 b2 b3])/\dK w' (wr.heap.size+1) w'.heap.size uk (.slice b1 b2 b3)/\Below (wr.heap.size+1) (wr.alloc (.cells #[.int .i64 n,.bool xv,.int .i64 xn,.slice ad (Fo.len k) ac] 92)) w':=by
       have hsub:dZ (wr.alloc (.cells #[.int .i64 n,.bool xv,.int .i64 xn,.slice ad (Fo.len k) ac] 92)).drew [(n,((xv,xn),k))] (.slice (some ⟨wr.heap.size,0,none⟩) 1 1):=by refine ⟨_,1,wr.heap.size,0,rfl,λ_=>rfl,Nat.le_refl _,by unfold maxLen;omega,?_⟩;refine ⟨aF rfl,aF rfl,aF rfl,⟨_,aF rfl,(HSr.out.toS.alloc _).drew⟩,trivial⟩
       refine (nJ [(n,((xv,xn),k))] _ (tv,tn) tk _ _ hsub (λp hp=>?_) (HSt.out.alloc _).drew Hn.out.1).mono ?_
       · simp only [List.mem_singleton] at hp;subst hp;exact ⟨sU.out,nD.out⟩
       · rintro e w' ⟨a',rfl,TK,hb'⟩;rw [←Hu.out] at TK ⊢;obtain ⟨b1,b2,b3,rfl⟩:=bC TK.toS;refine ⟨b1,b2,b3,rfl,?_,?_⟩
         · have e:(wr.alloc (.cells #[.int .i64 n,.bool xv,.int .i64 xn,.slice ad (Fo.len k) ac] 92)).drew.heap.size=wr.heap.size+1:=World.size_alloc _ _;rw [e] at TK;exact TK
         · have e:(wr.alloc (.cells #[.int .i64 n,.bool xv,.int .i64 xn,.slice ad (Fo.len k) ac] 92)).drew.heap.size=wr.heap.size+1:=World.size_alloc _ _;rw [e] at hb';exact (Below.refl _ _).drew.trans hb'
      have mF:=aB hcall;have aKP:g<wr.heap.size+1:=by omega
      clear hcall hy hu d0 d1 d2 d3 hrow
      go_upto_region 7 with fail
      go_region_with (first
       |(go_at_call 84;refine mF.out.mono ?_;rintro e w2 ⟨b1,b2,b3,rfl,hO2,hb2⟩;have e1:w2.cell? ⟨g,j*4+1,none⟩=some (.bool tv):=(hb2.cell aKP).trans c1a;have e2:w2.cell? ⟨g,j*4+2,none⟩=some (.int .i64 tn):=(hb2.cell aKP).trans c2a;have e3:w2.cell? ⟨g,j*4+3,none⟩=some (.slice zK (Fo.len tk) tc):=(hb2.cell aKP).trans c3a;have ff2:∀i,w2.frozen? ⟨g,i,none⟩=false:=(λi=>(hb2.frozen aKP).trans (ffa i))))
      all_goals
       have jP:=aB (aH5 (j:=j) (m:=m) (u:=((tv,tn),tk)) (t:=((uv,un),uk)) (a:= .slice b1 b2 b3) HOj.out (JC _ _ _).symm HFw.out.size (aCF Hy.out) (aW (hb2.mono (by simp))) (hO2.toB (λq q1 q2=>⟨by omega,q2⟩)));have Hs1:Hid (yC (aH (aV [(n,((xv,xn),k))])) s (j+1)=(yC (aH (aV [(n,((xv,xn),k))])) s j).set j (m,((uv,un),uk))):=by rw [Hid,N7 Hy.out,←Hu.out]
       have Hfr:Hid (Fr Wl (set3 w2 g (j*4+1) (.bool uv) (.int .i64 un) (.slice b1 b2 b3)) (some g) none):=HFj.out.trans jP.out.2 (λq _ h=>h);clear hO2 hb2
       go_wp2_with fail
       go_roundw
       case rel=>exact ⟨j+1,_,by omega,by go_num,by rw [Hs1.out];exact jP.out.1,Hfr.out⟩
       case measure=>simp [intOf];omega
    · have lK:j=s.length:=by omega
      subst lK;obtain ⟨i52,aGV,hz0,hz1,hz2⟩:=info_parts Tryz.info92;have hn1:s.length+1<=maxLen:=by unfold maxLen;omega
      have hn2:(s.length+1)*48<=140737488355328:=hlen;have qI:=aB (aH6 (aH (aV [(n,((xv,xn),k))])) s);have HOe:Hid (kR lo (Ex X w wr (.slice z1 s.length z3)) wr (s.map λp=>(p.1,aH (aV [(n,((xv,xn),k))]) p.2)) (.slice z1 s.length z3) Y2):=by rw [←qI.out];exact HOj.out
      have oL:Hid ((wr.alloc (.cells #[.int .i64 n,.bool xv,.int .i64 xn,.slice ad (Fo.len k) ac] 92)).ownsRow lo 92 4 (.slice z1 s.length z3) s.length Y2):=by have:=HOe.out.row;rw [List.length_map] at this;exact this.alloc _
      have rQ:Hid (∀j u,[Value.int .i64 n,.bool xv,.int .i64 xn,.slice ad (Fo.len k) ac][j]?=some u->(wr.alloc (.cells #[.int .i64 n,.bool xv,.int .i64 xn,.slice ad (Fo.len k) ac] 92)).cell? ((⟨wr.heap.size,0,none⟩:Addr).add j)=some u):=
       World.news_of_block (cs:=#[.int .i64 n,.bool xv,.int .i64 xn,.slice ad (Fo.len k) ac]) (heap_alloc_new wr _)
      have hlo2:lo<=wr.heap.size:=by have:=HFw.out.size;omega
      go_wp2_with (at_builtin;refine wpList_append_lies _ rfl (.tmp 35) (.tmp 37) 90 rfl lo 92 i52 (.agg #[.int .i64 0,.bool false,.int .i64 0,.slice none 0 0]) 4 48 Tryz.underlying90 aGV hz0 hz1 hz2 rfl (by decide) (.slice z1 s.length z3) s.length Y2 rfl oL.out ⟨wr.heap.size,0,none⟩ 1 1 [.int .i64 n,.bool xv,.int .i64 xn,.slice ad (Fo.len k) ac] rfl rfl rQ.out (by simp [Value.oneCell']) (by decide) hn1 hn2 (by simp;omega) (wr.heap.size+1) (by simp) ?_;intro g bW w4 sM hg4 jE oH)
      have jP:=aB (aFB (n:=n) (t:=((xv,xn),k)) (a:= .slice ad (Fo.len k) ac) HOe.out (HSr.out.wide (λq hq=> .inl hq)) (by simpa using sM) hg4 jE oH);have bP:Hid (aDP lo X w s (.slice z1 s.length z3) n ((xv,xn),k) (.returned (.tuple #[.slice (some ⟨g,0,none⟩) (s.length+1) bW,.bool true])) w4):=by
       obtain ⟨h1,h2,h3⟩:=V6 (w:=w) (wr:=wr) (wa:=wr) (v:= .slice z1 s.length z3) (v1:= .slice z1 s.length z3) HFw.out (.inl rfl) HO.out.off (Below.refl _ _) jP.out.1 jP.out.2.1 jP.out.2.2;refine ⟨h2,some ⟨g,0,none⟩,s.length+1,bW,true,rfl,λe=>by (cases e),λ_=>⟨_,Y2++[.int .i64 n,.bool xv,.int .i64 xn,.slice ad (Fo.len k) ac],QZ.out,by simp,?_,?_⟩⟩
       · simpa using h1
       · simpa using h3
      clear sM hg4 jE oH jP oL rQ aGV hz0 hz1 hz2
      go_wp2_with fail
      go_ret2;exact bP.out
 · have QZ:Hid (pK s n ((xv,xn),k)=none):=by
    unfold pK Hid;rw [if_pos (by simpa using hh)]
   clear hh
   go_wp2_with fail
   go_ret2;exact ⟨Fr.of_below hB1 _ _,none,0,0,false,rfl,λ_=>QZ.out,λe=>by cases e⟩
end
section
attribute [local go_sem ↓] Go.wp_at_zero Go.wp_at_succ
theorem Tryz.info160:(Tryz.prog.info? 160).map (λi=>(i.zero,i.size,i.bytes))=some (some (.agg #[.bool false,.int .i64 0,.slice none 0 0,.bool false,.int .i64 0,.slice none 0 0]),6,80):=by kernel_rfl
def CC (X:Nat->Prop) (w:World):List (Tm×Tm)->List Value->Prop
 |[],xs=>xs=[]
 |p::s,xs=>∃a b ys,xs= .bool p.1.1.1:: .int .i64 p.1.1.2::a:: .bool p.2.1.1:: .int .i64 p.2.1.2::b::ys/\SB X w p.1.2 a/\SB X w p.2.2 b/\CC X w s ys
theorem CC.frame {X Y:Nat->Prop} {w w':World} (wJ:∀q,X q->Y q) (hr:∀q i,X q->w'.cell? ⟨q,i,none⟩=w.cell? ⟨q,i,none⟩):∀{s:List (Tm×Tm)} {xs:List Value},CC X w s xs->CC Y w' s xs
 |[],_,h=>h
 |_::_,_,⟨a,b,ys,h1,h2,h3,h4⟩=>⟨a,b,ys,h1,h2.frame wJ hr,h3.frame wJ hr,CC.frame wJ hr h4⟩
theorem CC.append {X:Nat->Prop} {w:World} {s':List (Tm×Tm)} {ys:List Value} (h':CC X w s' ys):∀{s:List (Tm×Tm)} {xs:List Value},CC X w s xs->CC X w (s++s') (xs++ys)
 |[],_,h=>by rw [CC] at h;subst h;exact h'
 |_::_,_,⟨a,b,zs,h1,h2,h3,h4⟩=>by subst h1;exact ⟨a,b,zs++ys,rfl,h2,h3,CC.append h' h4⟩
theorem CC.one {X:Nat->Prop} {w:World} {p:Tm×Tm} {a b:Value} (h:SB X w p.1.2 a) (h':SB X w p.2.2 b):CC X w [p] [.bool p.1.1.1,.int .i64 p.1.1.2,a,.bool p.2.1.1,.int .i64 p.2.1.2,b]:=⟨a,b,[],rfl,h,h',rfl⟩
theorem CC.len {X:Nat->Prop} {w:World}:∀{s:List (Tm×Tm)} {xs:List Value},CC X w s xs->xs.length=s.length*6
 |[],_,h=>by rw [CC] at h;subst h;rfl
 |_::_,_,⟨a,b,ys,h1,_,_,h3⟩=>by subst h1;simp only [List.length_cons,h3.len];omega
theorem CC.split {X:Nat->Prop} {w:World} {M:List (Tm×Tm)}:∀{s:List (Tm×Tm)} {xs:List Value},CC X w (s++M) xs->∃ys zs,xs=ys++zs/\CC X w s ys/\CC X w M zs
 |[],xs,h=>⟨[],xs,rfl,rfl,h⟩
 |p::s,xs,⟨a,b,ys,h1,h2,h3,h4⟩=>by obtain ⟨us,zs,e,i1,i2⟩:=CC.split (s:=s) h4;subst h1 e;exact ⟨_,zs,rfl,⟨a,b,us,rfl,h2,h3,i1⟩,i2⟩
structure qZ (lo:Nat) (X:Nat->Prop) (w:World) (s:List (Tm×Tm)) (v:Value) (xs:List Value):Prop where
 row:w.ownsRow lo 160 6 v s.length xs
 cells:CC X w s xs
 off:∀q,X q->q<w.heap.size/\some q≠v.ownBlock
theorem qZ.slice {lo:Nat} {X:Nat->Prop} {w:World} {s:List (Tm×Tm)} {v:Value} {xs:List Value} (h:qZ lo X w s v xs):∃z1 z3,v= .slice z1 s.length z3:=aR h.row
theorem qZ.below {lo:Nat} {X:Nat->Prop} {w w':World} {s:List (Tm×Tm)} {v:Value} {xs:List Value} (h:qZ lo X w s v xs) (hb:Below w.heap.size w w'):qZ lo X w' s v xs:=
 ⟨bA h.row (λg hg=>hb.block g (aJ h.row g hg).2),h.cells.frame (λ_ hq=>hq) (λq _ hq=>World.cell?_of_block (hb.block q (h.off q hq).1)),λq hq=>⟨Nat.lt_of_lt_of_le (h.off q hq).1 hb.size,(h.off q hq).2⟩⟩
theorem qZ.wide {lo:Nat} {X Y:Nat->Prop} {w:World} {s:List (Tm×Tm)} {v:Value} {xs:List Value} (h:qZ lo X w s v xs) (wJ:∀q,X q->Y q) (hY:∀q,Y q->q<w.heap.size/\some q≠v.ownBlock):qZ lo Y w s v xs:=
 ⟨h.row,h.cells.frame wJ (λ_ _ _=>rfl),hY⟩
theorem YP {lo:Nat} {X:Nat->Prop} {w w3:World} {s:List (Tm×Tm)} {v:Value} {xs:List Value} {p:Tm×Tm} {a b:Value} {ob:Obj} {g bW:Nat} (h:qZ lo X w s v xs) (hO:SB X w p.1.2 a) (TK:SB X w p.2.2 b)
 (ho:w3.ownsRow lo 160 6 (.slice (some ⟨g,0,none⟩) (s.length+1) bW) (s.length+1) (xs++[.bool p.1.1.1,.int .i64 p.1.1.2,a,.bool p.2.1.1,.int .i64 p.2.1.2,b])) (hg:(w.alloc ob).grownBy w3 v.ownBlock) (hat:v.ownBlock=some g\/g=w.heap.size+1) (hlt:g<w3.heap.size):
 qZ lo (Ex X w w3 (.slice (some ⟨g,0,none⟩) (s.length+1) bW)) w3 (s++[p]) (.slice (some ⟨g,0,none⟩) (s.length+1) bW) (xs++[.bool p.1.1.1,.int .i64 p.1.1.2,a,.bool p.2.1.1,.int .i64 p.2.1.2,b])/\
 Fr w w3 v.ownBlock none/\Mv w v (.slice (some ⟨g,0,none⟩) (s.length+1) bW):=by
 have hs3:=hg.size;simp at hs3;have far:∀q,q<w.heap.size->some q≠v.ownBlock->w3.heap[q]?=w.heap[q]?:=λq hq hn=>by rw [hg.block q (by simp;omega) hn,Below.heap_alloc _ _ _ hq]
 have off:∀q,Ex X w w3 (.slice (some ⟨g,0,none⟩) (s.length+1) bW) q->q<w3.heap.size/\some q≠(Value.slice (some ⟨g,0,none⟩) (s.length+1) bW).ownBlock:=λq hq=>by
  rcases hq with hq|hq
  · have h1:=h.off q hq;refine ⟨by omega,λe=>?_⟩;simp [Value.ownBlock] at e;subst e;rcases hat with e|e
    · exact h1.2 e.symm
    · omega
  · exact hq.2
 refine ⟨⟨by simpa using ho,?_,off⟩,?_,?_⟩
 · refine CC.append (CC.one ?_ ?_) ?_
   · exact hO.frame (λq hq=> .inl hq) (λq i hq=>World.cell?_of_block (far q (h.off q hq).1 (h.off q hq).2))
   · exact TK.frame (λq hq=> .inl hq) (λq i hq=>World.cell?_of_block (far q (h.off q hq).1 (h.off q hq).2))
   · exact h.cells.frame (λq hq=> .inl hq) (λq i hq=>World.cell?_of_block (far q (h.off q hq).1 (h.off q hq).2))
 · exact ⟨hg.os,hg.tape,hg.output,by omega,λq hq hn _=>far q hq hn⟩
 · rcases hat with e|e
   · exact .inl e.symm
   · refine .inr λq hq=>?_;simp [Value.ownBlock] at hq;omega
theorem YQ {lo:Nat} {X:Nat->Prop} {w wr wa w2:World} {s2:List (Tm×Tm)} {v v1 v2:Value} {uT:List Value} (hf:Fr w wr v.ownBlock none) (hm:Mv w v v1) (hX:∀q,X q->q<w.heap.size/\some q≠v.ownBlock)
 (hb:Below wr.heap.size wr wa) (h2:qZ lo (Ex (Ex X w wr v1) wa w2 v2) w2 s2 v2 uT) (hf2:Fr wa w2 v1.ownBlock none) (hm2:Mv wa v1 v2):
 qZ lo (Ex X w w2 v2) w2 s2 v2 uT/\Fr w w2 v.ownBlock none/\Mv w v v2:=by
 have s1':=hf.size;have s2':=hb.size;have s3':=hf2.size;have mv:∀g,v2.ownBlock=some g->v.ownBlock=some g\/w.heap.size<=g:=λg hg=>by
  rcases hm2 with e|e
  · rw [e] at hg;rcases hm with e'|e'
    · rw [e'] at hg;exact .inl hg
    · exact .inr (e' g hg)
  · have:=e g hg;exact .inr (by omega)
 refine ⟨h2.wide (λq hq=>?_) (λq hq=>?_),?_,?_⟩
 · rcases hq with hq|hq
   · rcases hq with hq|hq
     · exact .inl hq
     · refine .inr ⟨hq.1,by omega,λe=>?_⟩;rcases hm2 with e'|e'
       · rw [e'] at e;exact hq.2.2 e
       · have:=e' q e.symm;omega
   · exact .inr ⟨by omega,hq.2⟩
 · rcases hq with hq|hq
   · have:=hX q hq;refine ⟨by omega,λe=>?_⟩;rcases mv q e.symm with h|h
     · exact this.2 h.symm
     · omega
   · exact hq.2
 · refine hf.trans (g1:=v.ownBlock) (g2:=none) (h1:=v1.ownBlock) (h2:=none) ⟨hf2.os.trans hb.os,hf2.tape.trans hb.tape,hf2.output.trans hb.output,by omega,λq hq e1 e2=>?_⟩ (λq hq h=>?_)
   · rw [hf2.block q (by omega) e1 e2,hb.block q hq]
   · rcases h with h|h
     · rcases hm with e|e
       · rw [e] at h;exact .inl h
       · have:=e q h.symm;omega
     · cases h
 · rcases hm2 with e|e
   · rcases hm with e'|e'
     · exact .inl (e.trans e')
     · exact .inr λg hg=>e' g (by rw [←e];exact hg)
   · exact .inr λg hg=>by have:=e g hg;omega
theorem YR {lo:Nat} {X:Nat->Prop} {w W2 wr:World} {s:List (Tm×Tm)} {v v':Value} {xs:List Value} (hb:Below w.heap.size w W2) (h:qZ lo (Ex X W2 wr v') wr s v' xs) (hf:Fr W2 wr v.ownBlock none) (hm:Mv W2 v v'):
 qZ lo (Ex X w wr v') wr s v' xs/\Fr w wr v.ownBlock none/\Mv w v v':=by
 have h1:=hb.size;have h2:=hf.size;refine ⟨h.wide (λq hq=>?_) (λq hq=>?_),⟨hf.os.trans hb.os,hf.tape.trans hb.tape,hf.output.trans hb.output,by omega,λq hq e1 e2=>?_⟩,?_⟩
 · rcases hq with hq|hq
   · exact .inl hq
   · exact .inr ⟨by omega,hq.2⟩
 · rcases hq with hq|hq
   · exact h.off q (.inl hq)
   · exact hq.2
 · rw [hf.block q (by omega) e1 e2,hb.block q hq]
 · rcases hm with e|e
   · exact .inl e
   · exact .inr λg hg=>by have:=e g hg;omega
theorem TF {lo:Nat} {X:Nat->Prop} {w W2:World} {s:List (Tm×Tm)} {v:Value} {xs:List Value} (hb:Below w.heap.size w W2) (h:qZ lo X w s v xs):qZ lo (Ex X W2 W2 v) W2 s v xs/\Fr W2 W2 v.ownBlock none/\Mv W2 v v:=by
 have h':=h.below hb;refine ⟨h'.wide (λq hq=> .inl hq) (λq hq=>?_),Fr.refl _ _ _,.inl rfl⟩;rcases hq with hq|hq
 · exact h'.off q hq
 · omega
theorem aH2 {k l:List Tm} {i:Nat} {t u:Tm} (hk:k[i]?=some t) (hl:l[i]?=some u):((k.zip l).drop i).reverse=((k.zip l).drop (i+1)).reverse++[(t,u)]:=by
 have hz:(k.zip l)[i]?=some (t,u):=by rw [List.getElem?_zip_eq_some];exact ⟨hk,hl⟩
 have hi:i<(k.zip l).length:=by
  rcases Nat.lt_or_ge i (k.zip l).length with h|h
  · exact h
  · rw [List.getElem?_eq_none h] at hz;cases hz
 rw [List.drop_eq_getElem_cons hi,List.reverse_cons];rw [List.getElem?_eq_getElem hi] at hz;rw [Option.some.inj hz]
def X3 (lo:Nat) (X:Nat->Prop) (w:World) (L:List (Tm×Tm)) (vt:Value) (k l:Fo) (e:Ending) (w':World):Prop:=
 ∃(M:List (Tm×Tm)) (z1:Option Addr) (z3:Nat) (xt':List Value),M=L++(k.list.zip l.list).reverse/\e= .returned (.slice z1 M.length z3)/\qZ lo (Ex X w w' (.slice z1 M.length z3)) w' M (.slice z1 M.length z3) xt'/\Fr w w' vt.ownBlock none/\Mv w vt (.slice z1 M.length z3)
theorem Y1 (lo:Nat) (X:Nat->Prop) (L:List (Tm×Tm)) (vt:Value) (xt:List Value) (x:Bool×Int) (k:Fo) (a:Value) (y:Bool×Int) (l:Fo) (c:Value) (w:World) (hO:qZ lo X w L vt xt) (hlo:lo<=w.heap.size) (hS:SB X w k a) (hU:SB X w l c) (hll:Fo.len k=Fo.len l) (hlen:(L.length+Fo.len k)*80<=140737488355328):
 Calls Tryz.prog 139 #[vt,.agg #[.bool x.1,.int .i64 x.2,a],.agg #[.bool y.1,.int .i64 y.2,c]] w (X3 lo X w L vt k l):=by
 obtain ⟨xv,xn⟩:=x;obtain ⟨yv,yn⟩:=y;have HO:=aB hO;obtain ⟨z1,z3,rfl⟩:=hO.slice;obtain ⟨ad,ac,b,o,rfl,had,hlc,hcm,hF⟩:=hS;obtain ⟨ud,uc,ub,uo,rfl,hud,aN3,ZV,hG⟩:=hU;have HF:=aB hF;have HG:=aB hG;have Hl:=aB (Fo.len_list k);have wM:=aB (Fo.len_list l);have Hll:=aB hll;have aOE:Fo.len l<=Fo.len k:=by omega
 have aOD:Fo.len k<=Fo.len l:=by omega
 unfold maxLen at hcm ZV;clear hO hF hG hll;go_enter Tryz.func139,Tryz.ntmps139
 go_wp2_with fail
 generalize hW2:(w.alloc (.cells #[.bool xv,.int .i64 xn,.slice ad (Fo.len k) ac] 84)).alloc (.cells #[.bool yv,.int .i64 yn,.slice ud (Fo.len l) uc] 84)=W2;have hs2:W2.heap.size=w.heap.size+1+1:=by rw [←hW2];simp
 have hB2:Below w.heap.size w W2:=by rw [←hW2];exact (aD _ _).alloc (by simp) _
 have p2:W2.cell? ⟨w.heap.size,2,none⟩=some (.slice ad (Fo.len k) ac):=by rw [←hW2,World.cell?_alloc_lt _ _ _ (by simp)];exact aF rfl
 have r2:W2.cell? ⟨w.heap.size+1,2,none⟩=some (.slice ud (Fo.len l) uc):=by rw [←hW2];exact aF (World.size_alloc _ _)
 have Hp2:=aB p2;have Y9:=aB r2;have HB2:=aB hB2;have sO:=aB hs2;have Hnv:Hid (∀q,(Value.slice z1 L.length z3).ownBlock=some q->q<w.heap.size):=λq hq=>(aJ HO.out.row q hq).2;have QY:=aB (TF hB2 HO.out);clear hW2 p2 r2 hB2 hs2
 go_loopw [0,7] (λvj i wr=>∃(j:Nat) (M:List (Tm×Tm)) (y1:Option Addr) (y3:Nat) (Y2:List Value),j<=Fo.len k/\M=L++((k.list.zip l.list).drop j).reverse/\i= .int .i64 ((j:Int) - 1)/\vj= .slice y1 M.length y3/\qZ lo (Ex X W2 wr (.slice y1 M.length y3)) wr M (.slice y1 M.length y3) Y2/\Fr W2 wr (Value.slice z1 L.length z3).ownBlock none/\Mv W2 (.slice z1 L.length z3) (.slice y1 M.length y3)) (λ_ i _=>(intOf i+1).toNat)
 case atStart=>have e:(k.list.zip l.list).drop (Fo.len k)=[]:=List.drop_of_length_le (by rw [List.length_zip,Fo.len_list];omega);exact ⟨Fo.len k,L,z1,z3,xt,Nat.le_refl _,by rw [e];simp,rfl,rfl,QY.out.1,QY.out.2.1,QY.out.2.2⟩
 case round=>
  obtain ⟨j,M,y1,y3,Y2,hj,hM,rfl,rfl,hOj,hFj,hMj⟩:=hrel;have HM:=aB hM;have HOj:=aB hOj;have HFj:=aB hFj;have zS:=aB hMj;have hs2:=sO.out;have hs3:=hFj.size;clear QY hOj hFj hMj hM;cases j with
  |zero=>
   have dC:Hid (X3 lo X w L (.slice z1 L.length z3) k l (.returned (.slice y1 M.length y3)) wr):=by obtain ⟨h1,h2,h3⟩:=YR HB2.out HOj.out HFj.out zS.out;exact ⟨M,y1,y3,Y2,by rw [HM.out];simp,rfl,h1,h2,h3⟩
   go_wp2_with fail
   go_ret;exact dC.out
  |succ j=>
   have hj0:(0:Int)<=((j+1:Nat):Int) - 1:=by omega
   have lK:((j+1:Nat):Int) - 1=(j:Int):=by omega
   rw [lK];have hjl:(j:Int)<(Fo.len k:Int):=by omega
   have aVT:(j:Int)<(Fo.len l:Int):=by omega
   have aQ1:(0:Int)<=(j:Int):=by omega
   obtain ⟨aOQ,hXb⟩:=had (by omega);obtain ⟨aN6,hXu⟩:=hud (by omega);subst aOQ aN6;have nX:Hid (∀q,X q->wr.heap[q]?=w.heap[q]?):=λq hq=>by have h1:=HO.out.off q hq;rw [HFj.out.block q (by omega) h1.2 (by simp),HB2.out.block q h1.1]
   obtain ⟨⟨⟨pv,pn⟩,pk⟩,hp⟩:∃y,k.list[j]?=some y:=⟨k.list[j]'(by rw [Hl.out];omega),by simp⟩;obtain ⟨⟨⟨tv,tn⟩,tk⟩,ht⟩:∃y,l.list[j]?=some y:=⟨l.list[j]'(by rw [wM.out];omega),by simp⟩;obtain ⟨c0,c1,pa,c2,hSp⟩:=HF.out.at hp;obtain ⟨d0,d1,ta,d2,hSt⟩:=HG.out.at ht;have c0':=(World.cell?_of_block (a:=⟨b,o+j*3,none⟩) (nX.out b hXb)).trans c0;have c1':=(World.cell?_of_block (a:=⟨b,o+j*3+1,none⟩) (nX.out b hXb)).trans c1;have c2':=(World.cell?_of_block (a:=⟨b,o+j*3+2,none⟩) (nX.out b hXb)).trans c2;have d0':=(World.cell?_of_block (a:=⟨ub,uo+j*3,none⟩) (nX.out ub hXu)).trans d0;have d1':=(World.cell?_of_block (a:=⟨ub,uo+j*3+1,none⟩) (nX.out ub hXu)).trans d1;have d2':=(World.cell?_of_block (a:=⟨ub,uo+j*3+2,none⟩) (nX.out ub hXu)).trans d2;have HSp:=aB ((hSp.kept nX.out).wide (Y:=Ex X W2 wr (.slice y1 M.length y3)) (λq hq=> .inl hq));have HSt:=aB ((hSt.kept nX.out).wide (Y:=Ex X W2 wr (.slice y1 M.length y3)) (λq hq=> .inl hq));obtain ⟨ZE,pc,pb,po,rfl,-,-,-,-⟩:=hSp;obtain ⟨zK,tc,tb,t4,rfl,-,-,-,-⟩:=hSt;have p2:wr.cell? ⟨w.heap.size,2,none⟩=some (.slice (some ⟨b,o,none⟩) (Fo.len k) ac):=by rw [World.cell?_of_block (a:=⟨w.heap.size,2,none⟩) (HFj.out.block w.heap.size (by omega) (λe=>by have:=Hnv.out _ e.symm;omega) (by simp))];exact Hp2.out
   have r2:wr.cell? ⟨w.heap.size+1,2,none⟩=some (.slice (some ⟨ub,uo,none⟩) (Fo.len l) uc):=by rw [World.cell?_of_block (a:=⟨w.heap.size+1,2,none⟩) (HFj.out.block (w.heap.size+1) (by omega) (λe=>by have:=Hnv.out _ e.symm;omega) (by simp))];exact Y9.out
   have aDY:Hid (L++((k.list.zip l.list).drop j).reverse=M++[(((pv,pn),pk),((tv,tn),tk))]):=by rw [Hid,aH2 hp ht,HM.out,List.append_assoc]
   have hMl:M.length<=L.length+Fo.len k:=by rw [HM.out,List.length_append,List.length_reverse,List.length_drop,List.length_zip,Fo.len_list];omega
   have aV0:M.length+1<=L.length+Fo.len k:=by have:=congrArg List.length aDY.out;rw [List.length_append,List.length_append,List.length_reverse,List.length_drop,List.length_zip,Fo.len_list] at this;simp only [List.length_singleton] at this;omega
   obtain ⟨i80,aQ2,hz0,hz1,hz2⟩:=info_parts Tryz.info160;have hn1:M.length+1<=maxLen:=by unfold maxLen;omega
   have hn2:(M.length+1)*80<=140737488355328:=by omega
   have hlo2:lo<=wr.heap.size:=by omega
   have oL:Hid ((wr.alloc (.cells #[.bool pv,.int .i64 pn,.slice ZE (Fo.len pk) pc,.bool tv,.int .i64 tn,.slice zK (Fo.len tk) tc] 160)).drew.ownsRow lo 160 6 (.slice y1 M.length y3) M.length Y2):=(HOj.out.row.alloc _).drew
   have rQ:Hid (∀j u,[Value.bool pv,.int .i64 pn,.slice ZE (Fo.len pk) pc,.bool tv,.int .i64 tn,.slice zK (Fo.len tk) tc][j]?=some u->(wr.alloc (.cells #[.bool pv,.int .i64 pn,.slice ZE (Fo.len pk) pc,.bool tv,.int .i64 tn,.slice zK (Fo.len tk) tc] 160)).drew.cell? ((⟨wr.heap.size,0,none⟩:Addr).add j)=some u):=
    World.news_of_block (cs:=#[.bool pv,.int .i64 pn,.slice ZE (Fo.len pk) pc,.bool tv,.int .i64 tn,.slice zK (Fo.len tk) tc]) (heap_alloc_new wr _)
   clear c0 c1 c2 d0 d1 d2 hp ht had hud hXb hXu lK
   go_upto_region 4 with fail
   go_region_law (first
    |(refine step_append_lies _ (by rfl) _ _ _ (by rfl) lo 160 i80 (.agg #[.bool false,.int .i64 0,.slice none 0 0,.bool false,.int .i64 0,.slice none 0 0]) 6 80 Tryz.underlying161 aQ2 hz0 hz1 hz2 rfl (by decide) (.slice y1 M.length y3) M.length Y2 (by rfl) oL.out ⟨wr.heap.size,0,none⟩ 1 1 [.bool pv,.int .i64 pn,.slice ZE (Fo.len pk) pc,.bool tv,.int .i64 tn,.slice zK (Fo.len tk) tc] (by rfl) (by rfl) rQ.out (by simp [Value.oneCell']) (by decide) hn1 hn2 (by simp;omega) (wr.heap.size+1) (by simp) ?_;intro g bW w4 sM hg4 jE oH))
   all_goals
    have jP:=aB (YP (p:=(((pv,pn),pk),((tv,tn),tk))) (a:= .slice ZE (Fo.len pk) pc) (b:= .slice zK (Fo.len tk) tc) (ob:= .cells #[.bool pv,.int .i64 pn,.slice ZE (Fo.len pk) pc,.bool tv,.int .i64 tn,.slice zK (Fo.len tk) tc] 160) HOj.out HSp.out HSt.out sM ⟨hg4.os,hg4.tape,hg4.output,hg4.size,hg4.block⟩ jE oH);have Hn:=aB (YQ (v1:= .slice y1 M.length y3) HFj.out zS.out (λq hq=>by have:=HO.out.off q hq;exact ⟨by omega,this.2⟩) (Below.refl _ _) jP.out.1 jP.out.2.1 jP.out.2.2);clear sM hg4 jE oH jP oL rQ aQ2 hz0 hz1 hz2
    go_wp2_with fail
    go_roundw
    case rel=>exact ⟨j,M++[(((pv,pn),pk),((tv,tn),tk))],some ⟨g,0,none⟩,bW,_,by omega,aDY.out.symm,rfl,by simp,by simpa using Hn.out.1,Hn.out.2.1,by simpa using Hn.out.2.2⟩
    case measure=>simp [intOf]
end
end Go.Proofs.YtoklbpbmghbhnaeGreat
