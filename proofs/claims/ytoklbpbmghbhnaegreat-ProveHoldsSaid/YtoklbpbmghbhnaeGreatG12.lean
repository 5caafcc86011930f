import Derived.Test.YtoklbpbmghbhnaeGreatG11
import Derived.Deep.RegionHeld3
import Derived.Maps.OwnOps
import Derived.Maps.RangeWalk
namespace Go.Proofs.YtoklbpbmghbhnaeGreat
set_option maxRecDepth 100000
set_option maxHeartbeats 2000000
open Go.RowKit Go.Deep Go.ChangeShapes Go.WideShapes
theorem Tryz.info86:(Tryz.prog.info? 86).map (λi=>(i.zero,i.size,i.bytes))=some (some (.agg #[.bool false,.bool false,.int .i64 0,.slice none 0 0,.bool false,.int .i64 0,.slice none 0 0]),7,88):=by kernel_rfl
def GQ (w:World):Cl->Nat->Nat->Prop
 |[],_,_=>True
 |l::c,b,o=>(w.cell? ⟨b,o,none⟩=some (.bool l.1)/\w.cell? ⟨b,o+1,none⟩=some (.bool l.2.1.1.1)/\w.cell? ⟨b,o+2,none⟩=some (.int .i64 l.2.1.1.2)/\(∃v,w.cell? ⟨b,o+3,none⟩=some v/\cO w l.2.1.2 v)/\
  w.cell? ⟨b,o+4,none⟩=some (.bool l.2.2.1.1)/\w.cell? ⟨b,o+5,none⟩=some (.int .i64 l.2.2.1.2)/\∃v,w.cell? ⟨b,o+6,none⟩=some v/\cO w l.2.2.2 v)/\GQ w c b (o+7)
def dQ (w:World) (c:Cl) (v:Value):Prop:=
 ∃(a:Option Addr) (k b o:Nat),v= .slice a c.length k/\(0<c.length->a=some ⟨b,o,none⟩)/\c.length<=k/\k<=maxLen/\GQ w c b o
theorem GQ.later {w w':World} (hc:∀a v,w.cell? a=some v->w'.cell? a=some v):∀{c:Cl} {b o:Nat},GQ w c b o->GQ w' c b o
 |[],_,_,_=>trivial
 |_::_,_,_,⟨⟨h0,h1,h2,⟨v,h3,h4⟩,h5,h6,u,h7,h8⟩,h9⟩=>⟨⟨hc _ _ h0,hc _ _ h1,hc _ _ h2,⟨v,hc _ _ h3,h4.later hc⟩,hc _ _ h5,hc _ _ h6,u,hc _ _ h7,h8.later hc⟩,GQ.later hc h9⟩
theorem dQ.later {w w':World} (hc:∀a v,w.cell? a=some v->w'.cell? a=some v) {c:Cl} {v:Value} (h:dQ w c v):dQ w' c v:=by obtain ⟨a,k,b,o,h1,h2,h3,h4,h5⟩:=h;exact ⟨a,k,b,o,h1,h2,h3,h4,h5.later hc⟩
theorem GQ.below {w w':World} (hb:Below w.heap.size w w') {c:Cl} {b o:Nat} (h:GQ w c b o):GQ w' c b o:=h.later (aA hb)
theorem dQ.below {w w':World} (hb:Below w.heap.size w w') {c:Cl} {v:Value} (h:dQ w c v):dQ w' c v:=h.later (aA hb)
theorem dQ.alloc {w:World} {c:Cl} {v:Value} (h:dQ w c v) (ob:Obj):dQ (w.alloc ob) c v:=h.below (aD w ob)
theorem dQ.nil (w:World):dQ w [] (.slice none 0 0):=⟨none,0,0,0,rfl,λh=>by simp at h,Nat.le_refl _,Nat.zero_le _,trivial⟩
theorem aK {w:World} {c:Cl} {v:Value} (h:dQ w c v):∃z1 z3,v= .slice z1 c.length z3:=by obtain ⟨a,k,_,_,rfl,_⟩:=h;exact ⟨a,k,rfl⟩
theorem GQ.at {w:World}:∀{c:Cl} {b o i:Nat} {l:Lt},GQ w c b o->c[i]?=some l->
 w.cell? ⟨b,o+i*7,none⟩=some (.bool l.1)/\w.cell? ⟨b,o+i*7+1,none⟩=some (.bool l.2.1.1.1)/\w.cell? ⟨b,o+i*7+2,none⟩=some (.int .i64 l.2.1.1.2)/\(∃v,w.cell? ⟨b,o+i*7+3,none⟩=some v/\cO w l.2.1.2 v)/\
  w.cell? ⟨b,o+i*7+4,none⟩=some (.bool l.2.2.1.1)/\w.cell? ⟨b,o+i*7+5,none⟩=some (.int .i64 l.2.2.1.2)/\∃v,w.cell? ⟨b,o+i*7+6,none⟩=some v/\cO w l.2.2.2 v
 |[],_,_,_,_,_,h=>by simp at h
 |q::s,b,o,0,l,hP,h=>by simp only [List.getElem?_cons_zero,Option.some.injEq] at h;subst h;simpa using hP.1
 |q::s,b,o,i+1,l,hP,h=>by
  have:=GQ.at hP.2 (i:=i) (by simpa using h);have e:o+7+i*7=o+(i+1)*7:=by omega
  rwa [e] at this
def LC (X:Nat->Prop) (w:World):Cl->List Value->Prop
 |[],xs=>xs=[]
 |l::c,xs=>∃a d ys,xs= .bool l.1:: .bool l.2.1.1.1:: .int .i64 l.2.1.1.2::a:: .bool l.2.2.1.1:: .int .i64 l.2.2.1.2::d::ys/\SB X w l.2.1.2 a/\SB X w l.2.2.2 d/\LC X w c ys
theorem LC.frame {X Y:Nat->Prop} {w w':World} (wJ:∀q,X q->Y q) (hr:∀q i,X q->w'.cell? ⟨q,i,none⟩=w.cell? ⟨q,i,none⟩):∀{s:Cl} {xs:List Value},LC X w s xs->LC Y w' s xs
 |[],_,h=>h
 |_::_,_,⟨a,d,ys,h1,h2,h3,h4⟩=>⟨a,d,ys,h1,h2.frame wJ hr,h3.frame wJ hr,LC.frame wJ hr h4⟩
theorem LC.append {X:Nat->Prop} {w:World} {s':Cl} {ys:List Value} (h':LC X w s' ys):∀{s:Cl} {xs:List Value},LC X w s xs->LC X w (s++s') (xs++ys)
 |[],_,h=>by rw [LC] at h;subst h;exact h'
 |_::_,_,⟨a,d,zs,h1,h2,h3,h4⟩=>by subst h1;exact ⟨a,d,zs++ys,rfl,h2,h3,LC.append h' h4⟩
abbrev jT (l:Lt) (a d:Value):List Value:=[.bool l.1,.bool l.2.1.1.1,.int .i64 l.2.1.1.2,a,.bool l.2.2.1.1,.int .i64 l.2.2.1.2,d]
theorem LC.one {X:Nat->Prop} {w:World} {l:Lt} {a d:Value} (h:SB X w l.2.1.2 a) (h':SB X w l.2.2.2 d):LC X w [l] (jT l a d):=⟨a,d,[],rfl,h,h',rfl⟩
theorem LC.len {X:Nat->Prop} {w:World}:∀{s:Cl} {xs:List Value},LC X w s xs->xs.length=s.length*7
 |[],_,h=>by rw [LC] at h;subst h;rfl
 |_::_,_,⟨a,d,ys,h1,_,_,h3⟩=>by subst h1;simp only [List.length_cons,h3.len];omega
theorem LC.onecell {X:Nat->Prop} {w:World}:∀{s:Cl} {xs:List Value},LC X w s xs->∀u∈xs,u.oneCell'=true
 |[],_,h,u,hu=>by rw [LC] at h;subst h;simp at hu
 |_::_,_,⟨a,d,ys,h1,h2,h2',h3⟩,u,hu=>by subst h1;obtain ⟨_,_,_,_,rfl,_⟩:=h2;obtain ⟨_,_,_,_,rfl,_⟩:=h2';simp only [List.mem_cons] at hu;rcases hu with rfl|rfl|rfl|rfl|rfl|rfl|rfl|hu<;>first|rfl|exact h3.onecell u hu
theorem LC.at {X:Nat->Prop} {w:World} {g:Nat}:∀{s:Cl} {xs:List Value} {o:Nat},LC X w s xs->(∀j,j<xs.length->w.cell? ⟨g,o+j,none⟩=xs[j]?)->GQ w s g o
 |[],_,_,_,_=>trivial
 |p::s,_,o,⟨a,d,ys,h1,h2,h2',h3⟩,hc=>by subst h1;have c0:=hc 0 (by simp);have c1:=hc 1 (by simp);have c2:=hc 2 (by simp);have c3:=hc 3 (by simp);have c4:=hc 4 (by simp);have c5:=hc 5 (by simp);have c6:=hc 6 (by simp);refine ⟨⟨by simpa using c0,by simpa using c1,by simpa using c2,⟨a,by simpa using c3,h2.toS⟩,by simpa using c4,by simpa using c5,d,by simpa using c6,h2'.toS⟩,?_⟩;refine LC.at h3 (λj hj=>?_);have:=hc (j+7) (by simp;omega);rw [show o+7+j=o+(j+7) by omega,this];simp
theorem aPU {X:Nat->Prop} {w:World} {lo:Nat} {v:Value} {s:Cl} {xs:List Value} (h:w.ownsRow lo 86 7 v s.length xs) (hc:LC X w s xs):dQ w s v:=by
 have hcells:=λg hg=>h.cells (g:=g) hg;rcases h.2 with ⟨rfl,h0⟩|⟨g,bW,cur,rfl,hl,hh,hn,hm,hs,ht⟩
 · have:s=[]:=List.length_eq_zero_iff.1 h0;subst this;exact dQ.nil w
 · refine ⟨_,bW,g,0,rfl,λ_=>rfl,hn,hm,hc.at (λj hj=>?_)⟩;have:=hcells g rfl j (xs[j]'hj) (List.getElem?_eq_getElem hj);rw [List.getElem?_eq_getElem hj];rw [add_plain] at this;exact this
structure lD (lo:Nat) (X:Nat->Prop) (w:World) (s:Cl) (v:Value) (xs:List Value):Prop where
 row:w.ownsRow lo 86 7 v s.length xs
 cells:LC X w s xs
 off:∀q,X q->q<w.heap.size/\some q≠v.ownBlock
theorem lD.cl {lo:Nat} {X:Nat->Prop} {w:World} {s:Cl} {v:Value} {xs:List Value} (h:lD lo X w s v xs):dQ w s v:=aPU h.row h.cells
theorem lD.slice {lo:Nat} {X:Nat->Prop} {w:World} {s:Cl} {v:Value} {xs:List Value} (h:lD lo X w s v xs):∃z1 z3,v= .slice z1 s.length z3:=aK h.cl
theorem lD.below {lo:Nat} {X:Nat->Prop} {w w':World} {s:Cl} {v:Value} {xs:List Value} (h:lD lo X w s v xs) (hb:Below w.heap.size w w'):lD lo X w' s v xs:=
 ⟨bA h.row (λg hg=>hb.block g (aJ h.row g hg).2),h.cells.frame (λ_ hq=>hq) (λq _ hq=>World.cell?_of_block (hb.block q (h.off q hq).1)),λq hq=>⟨Nat.lt_of_lt_of_le (h.off q hq).1 hb.size,(h.off q hq).2⟩⟩
theorem lD.wide {lo:Nat} {X Y:Nat->Prop} {w:World} {s:Cl} {v:Value} {xs:List Value} (h:lD lo X w s v xs) (wJ:∀q,X q->Y q) (hY:∀q,Y q->q<w.heap.size/\some q≠v.ownBlock):lD lo Y w s v xs:=
 ⟨h.row,h.cells.frame wJ (λ_ _ _=>rfl),hY⟩
theorem J3 (lo:Nat) (w:World):lD lo (XO w (.slice none 0 0)) w [] (.slice none 0 0) []:=⟨World.ownsRow_nil _ _ _ _,rfl,λ_ h=>h⟩
theorem O6 {w:World} {b:Nat}:∀{s:Cl} {o:Nat},GQ w s b o->∃news:List Value,news.length=s.length*7/\LC (λq=>q<w.heap.size) w s news/\∀j u,news[j]?=some u->w.cell? ⟨b,o+j,none⟩=some u
 |[],_,_=>⟨[],rfl,rfl,λj u h=>by simp at h⟩
 |p::s,o,⟨⟨h0,h1,h2,⟨v,h3,h4⟩,h5,h6,u',h7,h8⟩,h9⟩=>by
  obtain ⟨news,hl,hP,hc⟩:=O6 h9;refine ⟨.bool p.1:: .bool p.2.1.1.1:: .int .i64 p.2.1.1.2::v:: .bool p.2.2.1.1:: .int .i64 p.2.2.1.2::u'::news,by simp only [List.length_cons,hl];omega,⟨v,u',news,rfl,h4.toB,h8.toB,hP⟩,λj u hj=>?_⟩
  match j,hj with
  |0,hj=>simp at hj;subst hj;simpa using h0
  |1,hj=>simp at hj;subst hj;simpa using h1
  |2,hj=>simp at hj;subst hj;simpa using h2
  |3,hj=>simp at hj;subst hj;simpa using h3
  |4,hj=>simp at hj;subst hj;simpa using h5
  |5,hj=>simp at hj;subst hj;simpa using h6
  |6,hj=>simp at hj;subst hj;simpa using h7
  |j+7,hj=>have:=hc j u (by simpa using hj);rw [show o+(j+7)=o+7+j by omega];exact this
abbrev uO (l:Lt) (a d:Value):Value:= .agg #[.bool l.1,.bool l.2.1.1.1,.int .i64 l.2.1.1.2,a,.bool l.2.2.1.1,.int .i64 l.2.2.1.2,d]
theorem dS {w wr:World} {x0 x1 x2 x3 x4 x5 x6:Value} {T:TypeId} (h:Below (w.alloc (.cells #[x0,x1,x2,x3,x4,x5,x6] T)).heap.size (w.alloc (.cells #[x0,x1,x2,x3,x4,x5,x6] T)) wr):
 wr.cell? ⟨w.heap.size,0,none⟩=some x0/\wr.cell? ⟨w.heap.size,1,none⟩=some x1/\wr.cell? ⟨w.heap.size,2,none⟩=some x2/\wr.cell? ⟨w.heap.size,3,none⟩=some x3/\wr.cell? ⟨w.heap.size,4,none⟩=some x4/\wr.cell? ⟨w.heap.size,5,none⟩=some x5/\wr.cell? ⟨w.heap.size,6,none⟩=some x6/\(∀i,wr.frozen? ⟨w.heap.size,i,none⟩=false)/\Below w.heap.size w wr/\w.heap.size<wr.heap.size:=by
 refine ⟨?_,?_,?_,?_,?_,?_,?_,λi=>?_,(aD w _).trans (h.mono (by simp)),by have:=h.size;simp at this;omega⟩
 all_goals first|(rw [h.cell (by simp)];simp;done)|exact (h.frozen (p:=⟨w.heap.size,i,none⟩) (by simp)).trans (bL rfl)
theorem X7 (p q:Lt) (a d b c:Value) (w:World) (h1:cO w p.2.1.2 a) (h2:cO w p.2.2.2 d) (h3:cO w q.2.1.2 b) (h4:cO w q.2.2.2 c):
 Calls Tryz.prog 100 #[uO p a d,uO q b c] w λe w'=>e= .returned (.bool (vG p q))/\Below w.heap.size w w':=by
 obtain ⟨pn,⟨⟨pv,pi⟩,pk⟩,⟨⟨pv',H8⟩,F6⟩⟩:=p;obtain ⟨qn,⟨⟨qv,qi⟩,qk⟩,⟨⟨qv',qi'⟩,qk'⟩⟩:=q;have H1:=aB h1;have H2:=aB h2;have H3:=aB h3;have H4:=aB h4;obtain ⟨a1,a3,_,_,rfl,-,-,-,-⟩:=h1;obtain ⟨d1,d3,_,_,rfl,-,-,-,-⟩:=h2;obtain ⟨b1,b3,_,_,rfl,-,-,-,-⟩:=h3;obtain ⟨c1,c3,_,_,rfl,-,-,-,-⟩:=h4;simp only at*;by_cases hn:pn=qn
 · subst hn;go_enter Tryz.func100,Tryz.ntmps100
   go_wp2_with fail
   refine (kH (pv,pi) pk (qv,qi) qk _ _ _ ((H1.out.alloc _).alloc _) ((H3.out.alloc _).alloc _)).mono ?_;rintro e w1 ⟨rfl,hb1⟩;obtain ⟨-,-,-,-,e4,e5,e6,-,hB1,hl1⟩:=dS hb1;obtain ⟨-,-,-,-,f4,f5,f6,-,hB2,hl2⟩:=dS hB1;simp only [World.size_alloc] at e4 e5 e6;have H2':=aB (H2.out.below hB2);have H4':=aB (H4.out.below hB2);cases he:cB (pv,pi) pk (qv,qi) qk
   · clear hb1 hB1
     go_wp2_with fail
     go_ret;exact ⟨by simp [vG,he],hB2⟩
   · clear hb1 hB1
     go_wp2_with fail
     refine (kH (pv',H8) F6 (qv',qi') qk' _ _ _ H2'.out H4'.out).mono ?_;rintro e w2 ⟨rfl,hb2⟩
     go_wp2_with fail
     go_ret;exact ⟨by simp [vG,he],aC hB2 hb2⟩
 · have hnb:(pn==qn)=false:=by simp [hn]
   go_enter Tryz.func100,Tryz.ntmps100
   go_wp2_with fail
   go_ret;refine ⟨by simp [vG,hnb],?_⟩;exact ((Below.refl w.heap.size w).alloc (Nat.le_refl _) _).alloc (by simp) _
theorem M7 (k l:Cl) (a c:Value) (w:World) (hS1:dQ w k a) (hS2:dQ w l c):
 Calls Tryz.prog 99 #[a,c,.func (.func 100) #[] #[]] w λe w'=>e= .returned (.bool (dH k l))/\Below w.heap.size w w':=by
 obtain ⟨a1,c1,b1,o1,rfl,eZ,uY,hcm1,hF1⟩:=hS1;obtain ⟨a2,c2,b2,o2,rfl,Z4,aTF,hcm2,hF2⟩:=hS2;unfold maxLen at hcm1 hcm2;have zT:=aB hF1;have HF2:=aB hF2;clear hF1 hF2;by_cases hll:k.length=l.length
 · have aKO:((k.length:Int)!=(l.length:Int))=false:=by simp [hll]
   have Hll:=aB hll;have aOE:l.length<=k.length:=by omega
   have aOD:k.length<=l.length:=by omega
   clear hll;go_enter Tryz.func99,Tryz.ntmps99
   go_wp2_with fail
   go_loopw [17] (λi wr=>∃j:Nat,j<=k.length/\i= .int .i64 j/\(∀i,i<j->∀a b,k[i]?=some a->l[i]?=some b->vG a b=true)/\Below w.heap.size w wr) (λi _=>k.length - (intOf i).toNat)
   case atStart=>exact ⟨0,Nat.zero_le _,rfl,λi hi=>by omega,Below.refl _ _⟩
   case round=>
    obtain ⟨j,hj,rfl,hok,hBr⟩:=hrel;have nD:=aB hok;clear hok;by_cases hlt:j<k.length
    · have hlt':(j:Int)<(k.length:Int):=by omega
      have hlt2:(j:Int)<(l.length:Int):=by omega
      obtain ⟨⟨yn,⟨⟨yv,yi⟩,yk⟩,⟨bB,bH⟩,aZ⟩,hy⟩:∃y,k[j]?=some y:=⟨k[j]'hlt,by simp⟩;obtain ⟨⟨zn,⟨⟨zv,zi⟩,zk⟩,⟨zv',zi'⟩,zk'⟩,hz⟩:∃y,l[j]?=some y:=⟨l[j]'(by omega),by simp⟩;obtain ⟨p0,p1,p2,⟨u3,p3,hA⟩,p4,p5,u6,p6,hD⟩:=(zT.out.below hBr).at hy;obtain ⟨q0,q1,q2,⟨s3,q3,hB⟩,q4,q5,s6,q6,hC⟩:=(HF2.out.below hBr).at hz;have ha1:a1=some ⟨b1,o1,none⟩:=eZ (by omega);have ha2:a2=some ⟨b2,o2,none⟩:=Z4 (by omega);subst ha1 ha2;have HA:=aB hA;have HB:=aB hB;have HC:=aB hC;have HD:=aB hD;obtain ⟨_,_,_,_,rfl,-,-,-,-⟩:=hA;obtain ⟨_,_,_,_,rfl,-,-,-,-⟩:=hB;obtain ⟨_,_,_,_,rfl,-,-,-,-⟩:=hC;obtain ⟨_,_,_,_,rfl,-,-,-,-⟩:=hD;have Hy:=aB hy;have Hz:=aB hz;have aTV:b2<wr.heap.size:=World.block_lt_of_cell? _ _ q0;clear hy hz eZ Z4;simp only at*
      go_wp2_with fail
      refine (X7 (yn,((yv,yi),yk),((bB,bH),aZ)) (zn,((zv,zi),zk),((zv',zi'),zk')) _ _ _ _ _ ((HA.out.alloc _).alloc _) ((HD.out.alloc _).alloc _) ((HB.out.alloc _).alloc _) ((HC.out.alloc _).alloc _)).mono ?_;rintro e w2 ⟨rfl,hb2⟩;have hB2:=aC hBr (aW (aW hb2));simp only;cases he:vG (yn,((yv,yi),yk),((bB,bH),aZ)) (zn,((zv,zi),zk),((zv',zi'),zk'))
      · have Hf:Hid (dH k l=false):=VU Hy.out Hz.out he;clear he
        go_wp2_with fail
        go_ret;exact ⟨by rw [Hf.out];rfl,hB2⟩
      · have QU:Hid (∀i,i<j+1->∀a b,k[i]?=some a->l[i]?=some b->vG a b=true):=λi hi a b ha hb=>by
         by_cases e:i=j
         · subst e;rw [Hy.out] at ha;rw [Hz.out] at hb;cases ha;cases hb;exact he
         · exact nD.out i (by omega) a b ha hb
        clear he
        go_wp2_with fail
        go_roundw
        case rel=>exact ⟨j+1,by omega,by go_num,QU.out,hB2⟩
        case measure=>simp [intOf];omega
    · have Hf:Hid (dH k l=true):=OO Hll.out (λi hi=>nD.out i (by omega))
      go_wp2_with fail
      go_ret;exact ⟨by rw [Hf.out];rfl,hBr⟩
 · have aKO:((k.length:Int)!=(l.length:Int))=true:=by simp;omega
   have Hf:Hid (dH k l=false):=OP hll;go_enter Tryz.func99,Tryz.ntmps99
   go_wp2_with fail
   go_ret;exact ⟨by rw [Hf.out];rfl,Below.refl _ _⟩
theorem EF (k l:Cl) (a c:Value) (w:World) (hS1:dQ w k a) (hS2:dQ w l c):
 Calls Tryz.prog 60 #[a,c] w λe w'=>e= .returned (.bool (dH k l))/\Below w.heap.size w w':=by
 have H1:=aB hS1;have H2:=aB hS2;obtain ⟨a1,c1,b1,o1,rfl,-,-,-,-⟩:=hS1;obtain ⟨a2,c2,b2,o2,rfl,-,-,-,-⟩:=hS2;go_enter Tryz.func60,Tryz.ntmps60
 go_wp2_with fail
 refine (M7 k l _ _ _ H1.out H2.out).mono ?_;rintro e w2 ⟨rfl,hb2⟩
 go_wp2_with fail
 go_ret;exact ⟨rfl,hb2⟩
theorem X5 (s:List Int) (sv:Value) (k:Cl) (a:Value) (w:World) (hN:iK w s sv) (hS:dQ w k a):
 Calls Tryz.prog 25 #[sv,a] w λe w'=>e= .returned (.int .i64 (aN s k))/\Below w.heap.size w w':=by
 obtain ⟨a1,c1,b1,o1,rfl,eZ,uY,hcm1,hF1⟩:=hS;unfold maxLen at hcm1;have zT:=aB hF1;have HN:=aB hN;obtain ⟨sa,sc,_,_,rfl,-,-,-,-⟩:=hN;clear hF1;by_cases h4:4<k.length
 · have h4':(4:Int)<(k.length:Int):=by omega
   have Hf:Hid (aN s k=5):=if_pos h4;go_enter Tryz.func25,Tryz.ntmps25
   go_wp2_with fail
   go_ret;exact ⟨by rw [Hf.out];rfl,Below.refl _ _⟩
 · have h4':¬(4:Int)<(k.length:Int):=by omega
   have Hw:Hid (aN s k=nQ s k):=if_neg h4;go_enter Tryz.func25,Tryz.ntmps25
   go_wp2_with fail
   go_loopw [14] (λi wr=>∃j:Nat,j<=k.length/\i= .int .i64 j/\(∀i,i<j->∀a,k[i]?=some a->jG s a=0)/\Below w.heap.size w wr) (λi _=>k.length - (intOf i).toNat)
   case atStart=>exact ⟨0,Nat.zero_le _,rfl,λi hi=>by omega,Below.refl _ _⟩
   case round=>
    obtain ⟨j,hj,rfl,hok,hBr⟩:=hrel;have nD:=aB hok;clear hok;by_cases hlt:j<k.length
    · have hlt':(j:Int)<(k.length:Int):=by omega
      obtain ⟨⟨yn,⟨⟨yv,yi⟩,yk⟩,⟨bB,bH⟩,aZ⟩,hy⟩:∃y,k[j]?=some y:=⟨k[j]'hlt,by simp⟩;obtain ⟨p0,p1,p2,⟨u3,p3,hA⟩,p4,p5,u6,p6,hD⟩:=(zT.out.below hBr).at hy;have ha1:a1=some ⟨b1,o1,none⟩:=eZ (by omega);subst ha1;have HA:=aB hA;have HD:=aB hD;obtain ⟨_,_,_,_,rfl,-,-,-,-⟩:=hA;obtain ⟨_,_,_,_,rfl,-,-,-,-⟩:=hD;have Hy:=aB hy;clear hy eZ;simp only at*
      go_wp2_with fail
      refine (yM s _ (yv,yi) yk _ _ ((HN.out.below hBr).alloc _) (HA.out.alloc _)).mono ?_;rintro e w2 ⟨rfl,hb2⟩;obtain ⟨-,-,-,-,e4,e5,e6,-,hb2',-⟩:=dS hb2;have hB2:=aC hBr hb2';have HD2:=aB (HD.out.below hb2');have HN2:=aB (HN.out.below hB2);clear hb2;by_cases he:aU s (yv,yi) yk=0
      · have xJ:(aU s (yv,yi) yk !=0)=false:=by simp [he]
        have He:=aB he;clear he;generalize aU s (yv,yi) yk=e1 at xJ
        go_wp2_with fail
        refine (yM s _ (bB,bH) aZ _ _ HN2.out HD2.out).mono ?_;rintro e w3 ⟨rfl,hb3⟩;have hB3:=aC hB2 hb3;by_cases he:aU s (bB,bH) aZ=0
        · have ZZ:(aU s (bB,bH) aZ !=0)=false:=by simp [he]
          have He2:=aB he;clear he;generalize aU s (bB,bH) aZ=e2 at ZZ
          go_wp2_with fail
          go_roundw
          case rel=>exact ⟨j+1,by omega,by go_num,λi hi a ha=>by
           by_cases e:i=j
           · subst e;rw [Hy.out] at ha;cases ha;exact tJ.2 ⟨He.out,He2.out⟩
           · exact nD.out i (by omega) a ha,hB3⟩
          case measure=>simp [intOf];omega
        · have ZZ:(aU s (bB,bH) aZ !=0)=true:=by simp [he]
          have Hf:Hid (aU s (bB,bH) aZ=aN s k):=by
           have hl:jG s (yn,((yv,yi),yk),((bB,bH),aZ))=aU s (bB,bH) aZ:=by simp only [jG];rw [if_neg (by simp [He.out])]
           rw [Hid,Hw.out,pW nD.out Hy.out (by rw [hl];exact he),hl]
          clear he;generalize aU s (bB,bH) aZ=e2 at ZZ Hf
          go_wp2_with fail
          go_ret;exact ⟨by rw [Hf.out];rfl,hB3⟩
      · have xJ:(aU s (yv,yi) yk !=0)=true:=by simp [he]
        have Hf:Hid (aU s (yv,yi) yk=aN s k):=by
         have hl:jG s (yn,((yv,yi),yk),((bB,bH),aZ))=aU s (yv,yi) yk:=by simp only [jG];rw [if_pos he]
         rw [Hid,Hw.out,pW nD.out Hy.out (by rw [hl];exact he),hl]
        clear he;generalize aU s (yv,yi) yk=e1 at xJ Hf
        go_wp2_with fail
        go_ret;exact ⟨by rw [Hf.out];rfl,hB2⟩
    · have Hf:Hid (aN s k=0):=by
       rw [Hid,Hw.out,qO];intro l hl;obtain ⟨i,hi,e⟩:=List.mem_iff_getElem.1 hl;exact nD.out i (by omega) l (by rw [List.getElem?_eq_getElem hi,e])
      go_wp2_with fail
      go_ret;exact ⟨by rw [Hf.out];rfl,hBr⟩
section
open Go.RowKit Go.Deep Go.ChangeShapes Go.WideShapes Go.Maps
attribute [local go_sem ↓] Go.wp_at_zero Go.wp_at_succ
theorem Q9:Keyed Tryz.prog 3:=int_keyed Tryz.underlying3
theorem aRZ (w:World):(zeroValue 3).run Tryz.prog w= .ok (.int .i64 0) w:=by kernel_rfl
abbrev MD:=DataW Unit
abbrev OM (w:World) (b n:Nat) (D:MD):Prop:=w.ownsMap Tryz.prog 3 (plainElem (H:=Unit) Tryz.prog 3) b n D
def inR (v:Int):Prop:= -9223372036854775808<=v/\v<9223372036854775808
def Tel (D:MD) (g:Int->Int):Prop:=IsMap D/\∀v:Int,inR v->D.atKey (.int .i64 v) (.lit (.int .i64 0))= .lit (.int .i64 (wrap64 (g v)))
theorem aMI (v:Int):WideAt.IsKeyLit (.int .i64 v):=trivial
theorem aD3 {n:Int} (h:inR n):wrap64 n=n:=by unfold inR at h;unfold wrap64;omega
theorem aLF {D:MD} {g:Int->Int} {x c much:Int} (h:Tel D g) (hx:inR x) (hat:D.atKey (.int .i64 x) (.lit (.int .i64 0))= .lit (.int .i64 c)):
 Tel (D.put (.int .i64 x) (.lit (.int .i64 (wrap64 (c+much))))) (λv=>g v+much*(if x=v then 1 else 0:Nat)):=by
 refine ⟨h.1.put _ _,λv hv=>?_⟩;by_cases e:x=v
 · subst e;rw [atKey_put_same h.1 (aMI _)];have h2:=h.2 x hx;rw [hat] at h2;have h3:c=wrap64 (g x):=by injection h2 with h2;injection h2
   subst h3
   dsimp only
   rw [if_pos rfl];congr 2;unfold wrap64;omega
 · rw [atKey_put_other (by intro e';injection e' with _ e';exact e e'.symm),h.2 v hv]
   dsimp only
   rw [if_neg e];simp
theorem zZ {w w':World} {b n:Nat} {D:MD} (h:OM w b n D) (hg:w.grownBy w' (some b)):∀a v,w.cell? a=some v->w'.cell? a=some v:=by
 intro a v hc;have hlt:=World.block_lt_of_cell? _ _ hc;by_cases e:a.block=b
 · obtain ⟨es,clock,hb,_⟩:=h;simp [World.cell?,e,hb] at hc
 · rw [World.cell?_of_block (hg.block _ hlt (λe'=>e (by injection e')))];exact hc
theorem aBR (w:World) (row:Option Nat):w.grownBy w row:=⟨rfl,rfl,rfl,Nat.le_refl _,λ_ _ _=>rfl⟩
theorem aAU (k:Fo) (j:Nat):vE k j<=aM k:=by
 rw [←DZ k];unfold vE;rw [←Fo.len_list,List.take_length];have h:=List.take_append_drop j k.list;have:(k.list.map λy=>aM y.2).sum=((k.list.take j).map λy=>aM y.2).sum+((k.list.drop j).map λy=>aM y.2).sum:=by rw [←List.sum_append,←List.map_append,h]
 omega
def P9 (x:Bool×Int) (k:Fo):Prop:=∀(a:Value) (much:Int) (w:World) (b n:Nat) (D:MD) (g:Int->Int),gN (x,k)->(∀m,bU m (x,k)->0<=m/\m<=9)->cO w k a->OM w b n D->Tel D g->n+aM k<=10000000000000->
 Calls Tryz.prog 178 #[.map (some b),.agg #[.bool x.1,.int .i64 x.2,a],.int .i64 much] w λe w'=>e= .returned (.tuple #[])/\∃D',OM w' b (n+aM k) D'/\Tel D' (λv=>g v+much*fO v (x,k))/\w.grownBy w' (some b)
theorem PP (x:Bool×Int) (k:Fo):P9 x k:=by
 refine Fo.ind1 (p:=P9) ?_ x k;clear x k;intro x k ih a much w b n D g hok ZY hS hown aKK hbd;obtain ⟨xv,xn⟩:=x;cases xv
 · obtain ⟨ad,c,kb,o,rfl,had,hlc,hcm,hF⟩:=hS;have Hl:=aB (Fo.len_list k);have dC:=aB (DZ k);have nD:=aB hok;have aUY:=aB ZY;have aKV:=aB aKK;have HI:=aB ih;have HF:=aB hF;have oL:=aB hown;have Hbd:=aB hbd;unfold maxLen at hcm;clear ih hF hown aKK hok ZY hbd;go_enter Tryz.func178,Tryz.ntmps178
   go_wp2_with fail
   generalize hW1:w.alloc (.cells #[.bool false,.int .i64 xn,.slice ad (Fo.len k) c] 84)=W1;have IB:Hid (OM W1 b n D):=by rw [←hW1];exact oL.out.alloc _
   have HG1:Hid (w.grownBy W1 (some b)):=by rw [←hW1];exact World.grownBy_alloc _ _ _
   clear hW1
   go_loopw [19] (λi wr=>∃(j:Nat) (D':MD),j<=Fo.len k/\i= .int .i64 j/\OM wr b (n+vE k j) D'/\Tel D' (λv=>g v+much*UE v (false,xn) k j)/\W1.grownBy wr (some b)) (λi _=>Fo.len k - (intOf i).toNat)
   case atStart=>exact ⟨0,D,Nat.zero_le _,rfl,IB.out.mono (Nat.le_add_right _ _),⟨aKV.out.1,λv hv=>by rw [aKV.out.2 v hv];dsimp only;rw [aEJ];simp⟩,aBR _ _⟩
   case round=>
    obtain ⟨j,D',hj,rfl,hO,hT,hG⟩:=hrel;have HO:=aB hO;have HT:=aB hT;have HG:=aB hG;clear hO hT hG;by_cases hlt:j<Fo.len k
    · have hlt':(j:Int)<(Fo.len k:Int):=by omega
      obtain ⟨⟨⟨yv,yn⟩,yk⟩,hy⟩:∃y,k.list[j]?=some y:=⟨k.list[j]'(by rw [Hl.out];exact hlt),by simp⟩;have HFr:Hid (uL wr k kb o):=uL.later (λa v h=>zZ IB.out HG.out a v (zZ oL.out HG1.out a v h)) HF.out;obtain ⟨c0,c1,bB,c2,kW⟩:=HFr.out.at hy;have ha:ad=some ⟨kb,o,none⟩:=had (by omega);subst ha;have HS:=aB kW;obtain ⟨ya,yc,yb,yo,rfl,-,-,-,-⟩:=kW;have Hy:=aB hy;have QW:=aB (List.mem_of_getElem? hy);have Hb2:Hid (n+vE k j+aM yk<=10000000000000):=by have h1:=yQ hy;have h2:=aAU k (j+1);have h3:=Hbd.out;unfold Hid;omega
      clear hy had
      go_wp2_with fail
      refine (HI.out ((yv,yn),yk) QW.out _ much _ b _ D' _ (pO nD.out.2 QW.out) (λm hm=>aUY.out m (by unfold bU;simp only [Bool.false_eq_true,if_false];exact iY.2 ⟨_,QW.out,hm⟩)) (HS.out.alloc _) (HO.out.alloc _) HT.out Hb2.out).mono ?_;rintro e w2 ⟨rfl,D2,hO2,F7,hG2⟩;have GU:=aB hO2;have HT2:=aB F7;have HG2:=aB (HG.out.trans ((World.grownBy_alloc _ _ _).trans hG2));clear hO2 F7 hG2
      go_wp2_with fail
      go_roundw
      case rel=>exact ⟨j+1,D2,by omega,by go_num,by rw [yQ Hy.out,←Nat.add_assoc];exact GU.out,⟨HT2.out.1,λv hv=>by rw [HT2.out.2 v hv];dsimp only;rw [aEK Hy.out,Int.natCast_add,Int.mul_add,Int.add_assoc]⟩,HG2.out⟩
      case measure=>simp [intOf];omega
    · have lK:j=Fo.len k:=by omega
      have Hj:=aB lK;clear lK had
      go_wp2_with fail
      go_end0
      have e:=Hj.out;subst e;refine ⟨rfl,D',?_,?_,HG1.out.trans HG.out⟩
      · rw [←dC.out];exact HO.out
      · have:=HT.out;simp only [aIE] at this;exact this
 · have hk:k= .nil:=hok.1 rfl;subst hk;obtain ⟨ad,c,kb,o,rfl,-,-,-,-⟩:=hS;have hx:=ZY xn (by simp [bU]);have hr:inR xn:=by unfold inR;omega
   have hkey:keyOf Tryz.prog 3 (.int .i64 xn)=some (.int .i64 xn):=keyOf_int_mk Tryz.underlying3 (WalkArith.wf_i64 (by omega));have aKV:=aB aKK;have Hbd:=aB hbd;have Hr:=aB hr;clear aKK hbd ZY hok ih hr hx;go_enter Tryz.func178,Tryz.ntmps178
   go_wp2_with (first
    |(at_lookup;refine wpList_lookup_own_int _ rfl _ _ 189 rfl 3 3 .i64 Q9 Tryz.underlying189 Tryz.underlying3 (aRZ _) b n _ rfl (hown.alloc _) _ _ rfl hkey ?_;intro c hat hwc)
    |(at_mapUpdate;refine wpList_mapUpdate_own _ rfl _ _ _ 189 rfl 3 3 Q9 Tryz.underlying189 _ b n _ rfl (hown.alloc _) (by have:=Hbd.out;unfold maxLen;omega) _ _ _ rfl rfl hkey _ [] (plainElem_int Tryz.underlying3 (wrap64_wf _)) ?_;intro w1 hown1 hgrow1)
    |go_in)
   (try simp only [Exit.inBlock,Exit.then])
   refine bodyPost_ret (results_none rfl _ _ _) rfl ?_;refine ⟨rfl,_,hown1,?_,(World.grownBy_alloc _ _ _).trans hgrow1⟩;have:=aLF (much:=much) aKV.out Hr.out hat
   simpa [fO,jC] using this
end
section
open Go.RowKit Go.Deep Go.ChangeShapes Go.WideShapes Go.Maps
attribute [local go_sem ↓] Go.wp_at_zero Go.wp_at_succ
abbrev RG (w:World) (b r n:Nat) (D:MD) (left:Lit->Bool) (cnt:Nat):Prop:=w.ranges Tryz.prog 3 (plainElem (H:=Unit) Tryz.prog 3) b r n D left cnt
def dif (a b:Tm) (v:Int):Int:=(fO v a:Int) - (fO v b:Int)
theorem PO {a b:Tm} (ha:eO a<=4000000000000) (hb:eO b<=4000000000000) (v:Int):wrap64 (dif a b v)=dif a b v:=by have h1:=aCO v a;have h2:=aCO v b;refine aD3 ?_;unfold inR dif;omega
theorem aP0 {a b:Tm} (hb:Gd b) (h:∀v,inR v->0<=dif a b v):yE a b=true:=by
 refine (SC hb.ok).2 λv=>?_;by_cases e:0<fO v b
 · have h1:=hb.few v (aCN hb.ok e);have h2:=h v (by unfold inR;omega);unfold dif at h2;omega
 · omega
theorem aMD {a b:Tm} (hb:Gd b) {v:Int} (h:dif a b v<0):yE a b=false:=by rw [←Bool.not_eq_true,SC hb.ok];intro hh;have:=hh v;unfold dif at h;omega
def aKU (a b:Tm) (left:Lit->Bool):Prop:=∀v,inR v->left (.int .i64 v)=false->0<=dif a b v
theorem aA2 {a b:Tm} {D:MD} (ha:eO a<=4000000000000) (hb:eO b<=4000000000000) (h:Tel D (dif a b)):aKU a b (Maps.has D):=λv hv hl=>by
 have h1:=h.2 v hv;rw [atKey_of_not_has hl,PO ha hb] at h1;injection h1 with h1
 injection h1 with _ h1
 omega
theorem aEZ {a b:Tm} {left:Lit->Bool} {x:Int} (h:aKU a b left) (hx:0<=dif a b x):aKU a b (λz=>left z&&!z.sameKey (.int .i64 x)):=λv hv hl=>by
 by_cases e:v=x
 · subst e;exact hx
 · dsimp only at hl
   rw [sameKey_ne (show (Lit.int .i64 v)≠ .int .i64 x by intro e';injection e' with _ e';exact e e')] at hl;simp only [Bool.not_false,Bool.and_true] at hl;exact h v hv hl
theorem aP1 {x:Int} (h:(Lit.int .i64 x).wf=true):inR x:=by simp [Lit.wf,IntKind.min,IntKind.max,IntKind.signed,IntKind.bits] at h;unfold inR;omega
theorem aPR {D:MD} {a b:Tm} {x c:Int} (ha:eO a<=4000000000000) (hb:eO b<=4000000000000) (h:Tel D (dif a b)) (hx:inR x) (hat:∀zd,D.atKey (.int .i64 x) zd= .lit (.int .i64 c)):c=dif a b x:=by
 have h1:=h.2 x hx;rw [hat,PO ha hb] at h1;injection h1 with h1
 injection h1 with _ h1
theorem YY (x:Bool×Int) (k:Fo) (y:Bool×Int) (l:Fo) (a c:Value) (w:World) (ga:Gd (x,k)) (gb:Gd (y,l)) (hbk:aM k<=4000000000000) (hbl:aM l<=4000000000000) (hS:cO w k a) (hU:cO w l c):
 Calls Tryz.prog 173 #[.agg #[.bool x.1,.int .i64 x.2,a],.agg #[.bool y.1,.int .i64 y.2,c]] w λe w'=>e= .returned (.bool (yE (x,k) (y,l)))/\Below w.heap.size w w':=by
 obtain ⟨xv,n⟩:=x;obtain ⟨yv,m⟩:=y;have HS:=aB hS;have HU:=aB hU;have Hbk:=aB hbk;have IA:=aB hbl;have Hga:=aB ga;have yA:=aB gb;obtain ⟨ad,ac,kb,o,rfl,-,-,-,-⟩:=hS;obtain ⟨ud,uc,ub,uo,rfl,-,-,-,-⟩:=hU;clear hbk hbl ga gb;have hmm:=@run_makeMap Tryz.prog;go_enter Tryz.func173,Tryz.ntmps173
 go_wp2_with fail
 generalize hW2:(w.alloc (.cells #[.bool xv,.int .i64 n,.slice ad (Fo.len k) ac] 84)).alloc (.cells #[.bool yv,.int .i64 m,.slice ud (Fo.len l) uc] 84)=W2;have hB2:Below w.heap.size w W2:=by rw [←hW2];exact (aD _ _).alloc (by simp) _
 have hs2:W2.heap.size=w.heap.size+1+1:=by rw [←hW2];simp
 have r0:W2.cell? ⟨w.heap.size+1,0,none⟩=some (.bool yv):=by rw [←hW2];exact aF (World.size_alloc _ _)
 have r1:W2.cell? ⟨w.heap.size+1,1,none⟩=some (.int .i64 m):=by rw [←hW2];exact aF (World.size_alloc _ _)
 have r2:W2.cell? ⟨w.heap.size+1,2,none⟩=some (.slice ud (Fo.len l) uc):=by rw [←hW2];exact aF (World.size_alloc _ _)
 clear hW2;have hO0:OM (W2.alloc (.map #[] 0)) (w.heap.size+1+1) 0 (.map []):=by rw [←hs2];exact World.ownsMap_made _ _ _ _
 have hB3:Below w.heap.size w (W2.alloc (.map #[] 0)):=hB2.alloc (by omega) _;have hT0:Tel (.map []) (λ_=>0):=⟨isMap_empty,λv _=>by simp [wrap64,DataW.atKey]⟩;refine (PP (xv,n) k _ 1 _ _ _ _ _ Hga.out.ok Hga.out.few (HS.out.below hB3) hO0 hT0 (by have:=Hbk.out;omega)).mono ?_;rintro e w4 ⟨rfl,D1,QF,hT1,hG1⟩;have hB4:Below w.heap.size w w4:=hB3.grown hG1 hB3.size (λj hj=>by cases hj;omega);have q0:=zZ hO0 hG1 _ _ (aA (aD _ _) _ _ r0);have q1:=zZ hO0 hG1 _ _ (aA (aD _ _) _ _ r1);have q2:=zZ hO0 hG1 _ _ (aA (aD _ _) _ _ r2);have IB:=aB QF;have HT1:=aB hT1;have HB4:=aB hB4;clear r0 r1 r2 hO0 hT0 QF hT1 hG1 hB3 hB2 hB4
 go_wp2_with fail
 refine (PP (yv,m) l _ (-1) _ _ _ _ _ yA.out.ok yA.out.few (HU.out.below HB4.out) IB.out HT1.out (by have:=Hbk.out;have:=IA.out;omega)).mono ?_;rintro e w5 ⟨rfl,D2,hO2,F7,hG2⟩;have NA:Below w.heap.size w w5:=HB4.out.grown hG2 HB4.out.size (λj hj=>by cases hj;omega);have GA:=aB NA;have HTd:Hid (Tel D2 (dif ((xv,n),k) ((yv,m),l))):=⟨F7.1,λv hv=>by
  rw [F7.2 v hv];congr 3
  dsimp only
  unfold dif;omega⟩
 clear q0 q1 q2 F7 hG2 NA IB HT1 HB4
 go_wp2_with (first
  |(at_range;refine wpList_range_own _ rfl _ 189 rfl 3 3 Q9 Tryz.underlying189 _ (w.heap.size+1+1) _ _ rfl hO2 ?_;intro w6 hrg0 hg0 hs0)
  |go_in)
 go_frame
 have HB6:Hid (Below w.heap.size w w6):=GA.out.grown hg0 GA.out.size (λj hj=>by cases hj);have HR0:=aB hrg0;have H55:Hid (w.heap.size<=w5.heap.size):=GA.out.size;clear hrg0 hg0 hs0
 go_loopw [7] (λ_ wr=>∃(left:Lit->Bool) (cnt:Nat),RG wr (w.heap.size+1+1) w5.heap.size (aM k+aM l) D2 left cnt/\aKU ((xv,n),k) ((yv,m),l) left/\Below w.heap.size w wr)
  (λ_ wr=>wr.rangeLeft (w.heap.size+1+1) w5.heap.size)
 case atStart=>exact ⟨_,_,by have:=HR0.out;rwa [Nat.zero_add] at this,aA2 Hbk.out IA.out HTd.out,HB6.out⟩
 case round=>
  obtain ⟨left,cnt,hrg,aNL,hBr⟩:=hrel;have aNP:=aB aNL;have xM:=aB hBr;clear aNL hBr
  go_wp2_with (first
   |(at_next;refine wpList_next_ranges_ii _ rfl _ rfl 3 3 .i64 .i64 Q9 Tryz.underlying3 Tryz.underlying3 (w.heap.size+1+1) w5.heap.size _ _ _ _ rfl hrg ?_ ?_)
   |go_in)
  · intro _ hl0;have Hm:=aB (aP0 yA.out (λv hv=>aNP.out v hv (hl0 _)));clear hl0 hrg
    go_wp2_with fail
    go_ret;exact ⟨by rw [Hm.out];rfl,xM.out⟩
  · intro z d w7 cnt1 hwx hwc hlx hat hrg1 hlt hg1 hs1 hen;have hd:=aPR (a:=((xv,n),k)) (b:=((yv,m),l)) Hbk.out IA.out HTd.out (aP1 hwx) hat
    have HB7:Hid (Below w.heap.size w w7):=xM.out.grown hg1 xM.out.size (λj hj=>by cases hj;exact H55.out);have HR1:=aB hrg1;have HR:=aB hrg;have Hlt:=aB hlt;clear hat hrg hrg1 hlt hg1 hs1 hwx hwc hlx;by_cases hneg:d<0
    · have Hm:Hid (yE ((xv,n),k) ((yv,m),l)=false):=aMD yA.out (hd▸hneg);clear hd
      go_wp2_with fail
      go_ret;exact ⟨by rw [Hm.out];rfl,HB7.out⟩
    · have Hs:=aB (aEZ (x:=z) aNP.out (by rw [←hd];omega));clear hd
      go_wp2_with fail
      go_roundw
      case rel=>exact ⟨_,cnt1,HR1.out,Hs.out,HB7.out⟩
      case measure=>rw [HR1.out.left_eq,HR.out.left_eq];exact Hlt.out
end
section
attribute [local go_sem ↓] Go.wp_at_zero Go.wp_at_succ
theorem JQ:∀{F:Fo},Fo.ok F->Fo.sizes F=Fo.sizesR F
 | .nil,_=>rfl
 | .node _ _ x k r,h=>by
  obtain ⟨_,_,h3,h4⟩:=dG.1 h;have h1:=JQ h3.2;have h2:=JQ h4;rw [Fo.sizes,Fo.sizesR,h2,h1];by_cases hx:x.1=true
  · have hk:k= .nil:=h3.1 hx;subst hk;simp [Fo.sizesR]
  · rw [if_neg hx]
theorem aPQ {x:Bool×Int} {k:Fo} (h:gN (x,k)):Y4 x k=aM k:=by
 unfold Y4 aM;by_cases hx:x.1=true
 · have hk:k= .nil:=h.1 hx;subst hk;simp [Fo.sizesR,hx]
 · rw [if_neg hx,JQ h.2]
theorem tQ {wn:World} {x:Bool×Int} {k:Fo} {a:Value} (hok:gN (x,k)) (hS:cO wn k a) (hb:aM k<=4000000000000) (w':World) (h:Below wn.heap.size wn w'):
 Calls Tryz.prog 125 #[.agg #[.bool x.1,.int .i64 x.2,a]] w' λe w''=>e= .returned (.int .i64 (aM k:Nat))/\Below w'.heap.size w' w'':=by
 refine (VO x k a w' (hS.below h)).mono ?_;rw [aPQ hok,tZ (by omega) (by omega)];exact λe w'' h=>h
theorem aA9 {wn:World} {x y:Bool×Int} {k l:Fo} {a c:Value} (hS:cO wn k a) (hU:cO wn l c) (w':World) (h:Below wn.heap.size wn w'):
 Calls Tryz.prog 134 #[.agg #[.bool x.1,.int .i64 x.2,a],.agg #[.bool y.1,.int .i64 y.2,c]] w' λe w''=>e= .returned (.bool (cB x k y l))/\Below w'.heap.size w' w'':=
 kH x k y l a c w' (hS.below h) (hU.below h)
theorem aLR (p q:Nat) (w:World):(Builtin.min_ #[3,3] 3 #[.int .i64 (p:Nat),.int .i64 (q:Nat)]).run Tryz.prog w= .ok (.int .i64 (min p q:Nat)) w:=by
 by_cases h:q<p
 · have e:min p q=q:=by omega
   rw [e];simp [Builtin.min_,Builtin.min2,go_sem,h]
 · have e:min p q=p:=by omega
   rw [e];simp [Builtin.min_,Builtin.min2,go_sem,h]
def SX (x:Bool×Int) (k:Fo):Prop:=∀(y:Bool×Int) (l:Fo) (a c:Value) (w:World),Gd (x,k)->Gd (y,l)->cO w k a->cO w l c->aM k<=4000000000000->aM l<=4000000000000->
 Calls Tryz.prog 157 #[.agg #[.bool x.1,.int .i64 x.2,a],.agg #[.bool y.1,.int .i64 y.2,c]] w λe w'=>e= .returned (.bool (dU (x,k) (y,l)))/\Below w.heap.size w w'
theorem aD5 (k:Fo) (ih:∀t∈k.list,SX t.1 t.2) (l:Fo) (a c:Value) (w:World) (gk:∀t∈k.list,Gd t) (gl:∀t∈l.list,Gd t) (hS:cO w k a) (hU:cO w l c) (hbk:aM k<=4000000000000) (hbl:aM l<=4000000000000):
 Calls Tryz.prog 174 #[a,c] w λe w'=>e= .returned (.bool (xP k l))/\Below w.heap.size w w':=by
 have HI:=aB ih;have Hgk:=aB gk;have Hgl:=aB gl;have Hbk:=aB hbk;have IA:=aB hbl;obtain ⟨ad,ac,b,o,rfl,had,hlc,hcm,hF⟩:=hS;obtain ⟨ud,uc,ub,uo,rfl,hud,aN3,ZV,hG⟩:=hU;have HF:=aB hF;have HG:=aB hG;have Hl:=aB (Fo.len_list k);have wM:=aB (Fo.len_list l);have UC:=aB had;have Hud:=aB hud;unfold maxLen at hcm ZV;clear ih gk gl hbk hbl hF hG had hud;obtain ⟨M,hM⟩:∃M:Nat,M=min (Fo.len k) (Fo.len l):=⟨_,rfl⟩;have hmin:=aLR (Fo.len k) (Fo.len l);rw [←hM] at hmin;have hM1:M<=Fo.len k:=by omega
 have hM2:M<=Fo.len l:=by omega
 have HM3:Hid (M=Fo.len k\/M=Fo.len l):=by unfold Hid;omega
 clear hM;go_enter Tryz.func174,Tryz.ntmps174
 go_wp2_with fail
 go_loopw [11] (λi wr=>∃j:Nat,j<=M/\i= .int .i64 j/\(∀q,q<j->∀t' u':Tm,k.list[q]?=some t'->l.list[q]?=some u'->cB t'.1 t'.2 u'.1 u'.2=true)/\Below w.heap.size w wr) (λi _=>M - (intOf i).toNat)
 case atStart=>exact ⟨0,Nat.zero_le _,rfl,λq hq=>by omega,Below.refl _ _⟩
 case round=>
  obtain ⟨j,hj,rfl,hall,hBr⟩:=hrel;have qI:=aB hall;have xM:=aB hBr;clear hall hBr;by_cases hlt:j<M
  · have hlt':(j:Int)<(M:Int):=by omega
    have hj1:(j:Int)<(Fo.len k:Int):=by omega
    have hj2:(j:Int)<(Fo.len l:Int):=by omega
    have hj0:(0:Int)<=(j:Int):=by omega
    have e1:=UC.out (by omega);have e2:=Hud.out (by omega);subst e1 e2;obtain ⟨⟨⟨tv,tn⟩,tk⟩,ht⟩:∃y,k.list[j]?=some y:=⟨k.list[j]'(by rw [Hl.out];omega),by simp⟩;obtain ⟨⟨⟨uv,un⟩,uk⟩,hu⟩:∃y,l.list[j]?=some y:=⟨l.list[j]'(by rw [wM.out];omega),by simp⟩;obtain ⟨k0,k1,ta,k2,hSt⟩:=(HF.out.below xM.out).at ht;obtain ⟨l0,l1,ua,l2,hSu⟩:=(HG.out.below xM.out).at hu;have HSt:=aB hSt;have HSu:=aB hSu;obtain ⟨zK,tc,tb,t4,rfl,-,-,-,-⟩:=hSt;obtain ⟨ua1,uc1,ub1,u4,rfl,-,-,-,-⟩:=hSu;have Ht:=aB ht;have Hu:=aB hu;have HcS:=aB (λw' hb=>aA9 (x:=(tv,tn)) (y:=(uv,un)) HSt.out HSu.out w' hb);have Hbt:Hid (aM tk<=4000000000000):=Nat.le_trans (Nat.le_of_lt (IQ (x:=(false,0)) (List.mem_of_getElem? ht))) Hbk.out;have Hbu:Hid (aM uk<=4000000000000):=Nat.le_trans (Nat.le_of_lt (IQ (x:=(false,0)) (List.mem_of_getElem? hu))) IA.out;have aU2:=aB (λ(w':World) (hb:Below wr.heap.size wr w')=>HI.out ((tv,tn),tk) (List.mem_of_getElem? ht) (uv,un) uk _ _ w' (Hgk.out _ (List.mem_of_getElem? ht)) (Hgl.out _ (List.mem_of_getElem? hu)) (HSt.out.below hb) (HSu.out.below hb) Hbt.out Hbu.out);have aG:Below wr.heap.size wr wr.drew:=(Below.refl _ _).drew;clear ht hu
    go_upto_region 4 with fail
    go_cut [23] (λpI wy=>pI= .bool (!(cB (tv,tn) tk (uv,un) uk))/\Below wr.heap.size wr wy)
    case first=>
     go_region_held3 (λw'=>w'.cell? ⟨b,o+j*3,none⟩=some (.bool tv)/\w'.cell? ⟨b,o+j*3+1,none⟩=some (.int .i64 tn)/\w'.cell? ⟨b,o+j*3+2,none⟩=some (.slice zK (Fo.len tk) tc)/\w'.cell? ⟨ub,uo+j*3,none⟩=some (.bool uv)/\w'.cell? ⟨ub,uo+j*3+1,none⟩=some (.int .i64 un)/\w'.cell? ⟨ub,uo+j*3+2,none⟩=some (.slice ua1 (Fo.len uk) uc1))
      (first
        |(with_reducible exact ⟨aA aG _ _ k0,aA aG _ _ k1,aA aG _ _ k2,aA aG _ _ l0,aA aG _ _ l1,aA aG _ _ l2⟩)
        |go_keep)
      (first
        |(go_at_call 134;with_reducible refine (HcS.out _ aG).mono ?_;rintro e wS ⟨rfl,hbS⟩;replace aG:=aC aG hbS))
     all_goals
      go_wp2_with fail
      go_meet
      case rel=>exact ⟨rfl,aG⟩
    case rest=>
     obtain ⟨rfl,hby⟩:=hcut;generalize wc=wy at*;cases hs:cB (tv,tn) tk (uv,un) uk
     · have aPC:=aB (aDA (t:=((tv,tn),tk)) (u:=((uv,un),uk)) qI.out Ht.out Hu.out hs);have m0:=aA hby _ _ k0;have m1:=aA hby _ _ k1;have m2:=aA hby _ _ k2;have m3:=aA hby _ _ l0;have m4:=aA hby _ _ l1;have m5:=aA hby _ _ l2;have aB8:Below wr.heap.size wr wy.drew:=hby.drew;clear hs aG k0 k1 k2 l0 l1 l2
       go_upto_region 5 with fail
       go_region_held3 (λw'=>w'.cell? ⟨b,o+j*3,none⟩=some (.bool tv)/\w'.cell? ⟨b,o+j*3+1,none⟩=some (.int .i64 tn)/\w'.cell? ⟨b,o+j*3+2,none⟩=some (.slice zK (Fo.len tk) tc)/\w'.cell? ⟨ub,uo+j*3,none⟩=some (.bool uv)/\w'.cell? ⟨ub,uo+j*3+1,none⟩=some (.int .i64 un)/\w'.cell? ⟨ub,uo+j*3+2,none⟩=some (.slice ua1 (Fo.len uk) uc1))
        (first
          |exact ⟨aA hbS _ _ m0,aA hbS _ _ m1,aA hbS _ _ m2,aA hbS _ _ m3,aA hbS _ _ m4,aA hbS _ _ m5⟩
          |go_keep)
        (first
          |(go_at_call 157;with_reducible refine (aU2.out _ aB8).mono ?_;rintro e wS ⟨rfl,hbS⟩;replace aB8:=aC aB8 hbS))
       all_goals
        have dC:=aB (aC xM.out aB8);clear hbS
        go_wp2_with fail
        go_ret;exact ⟨by rw [aPC.out];rfl,dC.out⟩
     · have uD:Hid (∀q,q<j+1->∀t' u':Tm,k.list[q]?=some t'->l.list[q]?=some u'->cB t'.1 t'.2 u'.1 u'.2=true):=λq hq t' u' e1 e2=>by
        by_cases e:q=j
        · subst e;rw [Ht.out] at e1;rw [Hu.out] at e2;cases e1;cases e2;exact hs
        · exact qI.out q (by omega) t' u' e1 e2
       have Hb3:=aB (aC xM.out hby);clear hs aG k0 k1 k2 l0 l1 l2
       go_wp2_with fail
       go_roundw
       case rel=>exact ⟨j+1,by omega,by go_num,uD.out,Hb3.out⟩
       case measure=>simp [intOf];omega
  · have aPC:Hid (xP k l=false):=WO (λq t' u' e1 e2=>qI.out q (by
     have h1:=(List.getElem?_eq_some_iff.1 e1).1;have h2:=(List.getElem?_eq_some_iff.1 e2).1;rw [Hl.out] at h1;rw [wM.out] at h2;have h3:=HM3.out;omega) t' u' e1 e2)
    have hlt':¬(j:Int)<(M:Int):=by omega
    go_wp2_with fail
    go_ret;exact ⟨by rw [aPC.out];rfl,xM.out⟩
theorem PZ (x:Bool×Int) (k:Fo):SX x k:=by
 refine Fo.ind1 (p:=SX) ?_ x k;clear x k;intro x k ih y l a c w ga gb hS hU hbk hbl;obtain ⟨xv,n⟩:=x;obtain ⟨yv,m⟩:=y;have HI:=aB ih;have HS:=aB hS;have HU:=aB hU;have Hbk:=aB hbk;have IA:=aB hbl;have Hga:=aB ga;have yA:=aB gb;obtain ⟨ad,ac,b,o,rfl,-,-,-,-⟩:=hS;obtain ⟨ud,uc,ub,uo,rfl,-,-,-,-⟩:=hU;clear ih hbk hbl ga gb;cases xv
 · go_enter Tryz.func157,Tryz.ntmps157
   go_wp2_with fail
   generalize hW2:(w.alloc (.cells #[.bool false,.int .i64 n,.slice ad (Fo.len k) ac] 84)).alloc (.cells #[.bool yv,.int .i64 m,.slice ud (Fo.len l) uc] 84)=W2;have hB2:Below w.heap.size w W2:=by rw [←hW2];exact (aD _ _).alloc (by simp) _
   have p0:W2.cell? ⟨w.heap.size,0,none⟩=some (.bool false):=by rw [←hW2,World.cell?_alloc_lt _ _ _ (by simp)];exact aF rfl
   have p1:W2.cell? ⟨w.heap.size,1,none⟩=some (.int .i64 n):=by rw [←hW2,World.cell?_alloc_lt _ _ _ (by simp)];exact aF rfl
   have p2:W2.cell? ⟨w.heap.size,2,none⟩=some (.slice ad (Fo.len k) ac):=by rw [←hW2,World.cell?_alloc_lt _ _ _ (by simp)];exact aF rfl
   have r0:W2.cell? ⟨w.heap.size+1,0,none⟩=some (.bool yv):=by rw [←hW2];exact aF (World.size_alloc _ _)
   have r1:W2.cell? ⟨w.heap.size+1,1,none⟩=some (.int .i64 m):=by rw [←hW2];exact aF (World.size_alloc _ _)
   have r2:W2.cell? ⟨w.heap.size+1,2,none⟩=some (.slice ud (Fo.len l) uc):=by rw [←hW2];exact aF (World.size_alloc _ _)
   clear hW2;refine (YY (false,n) k (yv,m) l _ _ W2 Hga.out yA.out Hbk.out IA.out (HS.out.below hB2) (HU.out.below hB2)).mono ?_;rintro e w1 ⟨rfl,hb1⟩;have HB1:=aB (aC hB2 hb1);have q0:=aA hb1 _ _ p0;have q1:=aA hb1 _ _ p1;have q2:=aA hb1 _ _ p2;have t0:=aA hb1 _ _ r0;have t1:=aA hb1 _ _ r1;have t2:=aA hb1 _ _ r2;clear p0 p1 p2 r0 r1 r2 hb1 hB2;cases aKM:yE ((false,n),k) ((yv,m),l)
   · have Hf:=aB (aNF aKM);clear aKM
     go_wp2_with fail
     go_ret;exact ⟨by rw [Hf.out];rfl,HB1.out⟩
   · have aG8:=aB aKM;have HsA:=aB (λw' hb=>tQ (x:=(false,n)) Hga.out.ok (HS.out.below HB1.out) Hbk.out w' hb);have HsB:=aB (λw' hb=>tQ (x:=(yv,m)) yA.out.ok (HU.out.below HB1.out) IA.out w' hb);have aG:Below w1.heap.size w1 w1.drew:=(Below.refl _ _).drew;clear aKM
     go_upto_region 3 with fail
     go_cut [5,6] (λs5 s6 wx=>s5= .int .i64 (aM k:Nat)/\s6= .int .i64 (aM l:Nat)/\Below w1.heap.size w1 wx)
     case first=>
      go_region_held3 (λw'=>w'.cell? ⟨w.heap.size,0,none⟩=some (.bool false)/\w'.cell? ⟨w.heap.size,1,none⟩=some (.int .i64 n)/\w'.cell? ⟨w.heap.size,2,none⟩=some (.slice ad (Fo.len k) ac)/\w'.cell? ⟨w.heap.size+1,0,none⟩=some (.bool yv)/\w'.cell? ⟨w.heap.size+1,1,none⟩=some (.int .i64 m)/\w'.cell? ⟨w.heap.size+1,2,none⟩=some (.slice ud (Fo.len l) uc))
       (first
         |(with_reducible exact ⟨aA aG _ _ q0,aA aG _ _ q1,aA aG _ _ q2,aA aG _ _ t0,aA aG _ _ t1,aA aG _ _ t2⟩)
         |go_keep)
       (first
         |(go_at_call 125;with_reducible refine (HsA.out _ aG).mono ?_;rintro e wA ⟨rfl,hbA⟩;replace aG:=aC aG hbA)
         |(go_at_call 125;with_reducible refine (HsB.out _ aG).mono ?_;rintro e wB ⟨rfl,hbB⟩;replace aG:=aC aG hbB))
      all_goals
       go_wp2_with fail
       go_meet
       case rel=>exact ⟨rfl,rfl,aG⟩
     case rest=>
      obtain ⟨rfl,rfl,hbx⟩:=hcut;generalize wc=wx at*;replace q1:=aA hbx _ _ q1;replace q2:=aA hbx _ _ q2;replace t0:=aA hbx _ _ t0;replace t1:=aA hbx _ _ t1;replace t2:=aA hbx _ _ t2;have HBx:=aB (aC HB1.out hbx);clear aG q0 hbx;by_cases hsz:aM k=aM l
      · have hne:((aM k:Int)!=(aM l:Int))=false:=by rw [hsz];simp
        have Hsz:=aB hsz;clear hsz;cases yv
        · by_cases hnm:n=m
          · have Hf:=aB (aKF (y:=(false,m)) aG8.out Hsz.out (by simp [hnm]) (by simp [hnm]));have hnb:(n !=m)=false:=by simp [hnm]
            have HcW:=aB (aD5 k HI.out l _ _ wx (λt ht=>mH Hga.out rfl ht) (λt ht=>mH yA.out rfl ht) (HS.out.below HBx.out) (HU.out.below HBx.out) Hbk.out IA.out);clear hnm
            go_wp2_with fail
            refine HcW.out.mono ?_;rintro e w3 ⟨rfl,hb3⟩;have dC:=aB (aC HBx.out hb3);clear hb3
            go_wp2_with fail
            go_ret;exact ⟨by rw [Hf.out];rfl,dC.out⟩
          · have hnb:(n !=m)=true:=by simpa using hnm
            by_cases hlt:m<n
            · have Hf:=aB (aND (y:=(false,m)) aG8.out Hsz.out (by simp;omega) hlt);clear hnm
              go_wp2_with fail
              go_ret;exact ⟨by rw [Hf.out];simp,HBx.out⟩
            · have Hf:=aB (XP (y:=(false,m)) aG8.out Hsz.out (by simp;omega));clear hnm
              go_wp2_with fail
              go_ret;exact ⟨by rw [Hf.out];simp,HBx.out⟩
        · have Hf:=aB (XP (y:=(true,m)) aG8.out Hsz.out rfl)
          go_wp2_with fail
          go_ret;exact ⟨by rw [Hf.out];rfl,HBx.out⟩
      · have hne:((aM k:Int)!=(aM l:Int))=true:=by rw [aPY];exact decide_eq_true hsz
        have Hf:=aB (aKE aG8.out hsz);clear hsz
        go_wp2_with fail
        go_ret;exact ⟨by rw [Hf.out];simp,HBx.out⟩
 · go_enter Tryz.func157,Tryz.ntmps157;have Hb2:Hid (Below w.heap.size w ((w.alloc (.cells #[.bool true,.int .i64 n,.slice ad (Fo.len k) ac] 84)).alloc (.cells #[.bool yv,.int .i64 m,.slice ud (Fo.len l) uc] 84))):=(aD _ _).alloc (by simp) _
   go_wp2_with fail
   go_ret;exact ⟨rfl,Hb2.out⟩
theorem FX (x:Bool×Int) (k:Fo) (y:Bool×Int) (l:Fo) (a c:Value) (w:World) (ga:Gd (x,k)) (gb:Gd (y,l)) (hS:cO w k a) (hU:cO w l c) (hbk:aM k<=4000000000000) (hbl:aM l<=4000000000000):
 Calls Tryz.prog 126 #[.agg #[.bool x.1,.int .i64 x.2,a],.agg #[.bool y.1,.int .i64 y.2,c]] w λe w'=>e= .returned (.int .i64 (oK (x,k) (y,l)))/\Below w.heap.size w w':=by
 obtain ⟨xv,n⟩:=x;obtain ⟨yv,m⟩:=y;have Hga:=aB ga;have yA:=aB gb;have HS:=aB hS;have HU:=aB hU;have Hbk:=aB hbk;have IA:=aB hbl;obtain ⟨ad,ac,b,o,rfl,-,-,-,-⟩:=hS;obtain ⟨ud,uc,ub,uo,rfl,-,-,-,-⟩:=hU;clear hbk hbl ga gb;go_enter Tryz.func126,Tryz.ntmps126
 go_wp2_with fail
 generalize hW2:(w.alloc (.cells #[.bool xv,.int .i64 n,.slice ad (Fo.len k) ac] 84)).alloc (.cells #[.bool yv,.int .i64 m,.slice ud (Fo.len l) uc] 84)=W2;have hB2:Below w.heap.size w W2:=by rw [←hW2];exact (aD _ _).alloc (by simp) _
 have p0:W2.cell? ⟨w.heap.size,0,none⟩=some (.bool xv):=by rw [←hW2,World.cell?_alloc_lt _ _ _ (by simp)];exact aF rfl
 have p1:W2.cell? ⟨w.heap.size,1,none⟩=some (.int .i64 n):=by rw [←hW2,World.cell?_alloc_lt _ _ _ (by simp)];exact aF rfl
 have p2:W2.cell? ⟨w.heap.size,2,none⟩=some (.slice ad (Fo.len k) ac):=by rw [←hW2,World.cell?_alloc_lt _ _ _ (by simp)];exact aF rfl
 have r0:W2.cell? ⟨w.heap.size+1,0,none⟩=some (.bool yv):=by rw [←hW2];exact aF (World.size_alloc _ _)
 have r1:W2.cell? ⟨w.heap.size+1,1,none⟩=some (.int .i64 m):=by rw [←hW2];exact aF (World.size_alloc _ _)
 have r2:W2.cell? ⟨w.heap.size+1,2,none⟩=some (.slice ud (Fo.len l) uc):=by rw [←hW2];exact aF (World.size_alloc _ _)
 clear hW2;refine (kH (xv,n) k (yv,m) l _ _ W2 (HS.out.below hB2) (HU.out.below hB2)).mono ?_;rintro e w3 ⟨rfl,hb3⟩;have hB3:=aC hB2 hb3;cases hs:cB (xv,n) k (yv,m) l
 · have q0:=aA hb3 _ _ p0;have q1:=aA hb3 _ _ p1;have q2:=aA hb3 _ _ p2;have t0:=aA hb3 _ _ r0;have t1:=aA hb3 _ _ r1;have t2:=aA hb3 _ _ r2;have Hs:=aB hs;clear p0 p1 p2 r0 r1 r2 hs hb3 hB2
   go_wp2_with fail
   refine (PZ (xv,n) k (yv,m) l _ _ w3 Hga.out yA.out (HS.out.below hB3) (HU.out.below hB3) Hbk.out IA.out).mono ?_;rintro e w4 ⟨rfl,hb4⟩;have hB4:=aC hB3 hb4;cases h1:dU ((xv,n),k) ((yv,m),l)
   · have a0:=aA hb4 _ _ q0;have a1:=aA hb4 _ _ q1;have a2:=aA hb4 _ _ q2;have a3:=aA hb4 _ _ t0;have a4:=aA hb4 _ _ t1;have a5:=aA hb4 _ _ t2;have H1:=aB h1;clear q0 q1 q2 t0 t1 t2 h1 hb4 hB3
     go_wp2_with fail
     refine (PZ (yv,m) l (xv,n) k _ _ w4 yA.out Hga.out (HU.out.below hB4) (HS.out.below hB4) IA.out Hbk.out).mono ?_;rintro e w5 ⟨rfl,hb5⟩;have NA:=aC hB4 hb5;cases h2:dU ((yv,m),l) ((xv,n),k)
     · have Hf:Hid (oK ((xv,n),k) ((yv,m),l)=0):=by simp [Hid,oK,Hs.out,H1.out,h2]
       clear h2
       go_wp2_with fail
       go_ret;exact ⟨by rw [Hf.out];rfl,NA⟩
     · have Hf:Hid (oK ((xv,n),k) ((yv,m),l)=1):=by simp [Hid,oK,Hs.out,H1.out,h2]
       clear h2
       go_wp2_with fail
       go_ret;exact ⟨by rw [Hf.out];rfl,NA⟩
   · have Hf:Hid (oK ((xv,n),k) ((yv,m),l)=3):=by simp [Hid,oK,Hs.out,h1]
     clear h1
     go_wp2_with fail
     go_ret;exact ⟨by rw [Hf.out];rfl,hB4⟩
 · have Hf:Hid (oK ((xv,n),k) ((yv,m),l)=2):=by simp [Hid,oK,hs]
   clear hs
   go_wp2_with fail
   go_ret;exact ⟨by rw [Hf.out];rfl,hB3⟩
end
end Go.Proofs.YtoklbpbmghbhnaeGreat
