import Derived.Test.YtoklbpbmghbhnaeGreatG24
import Derived.Deep.RegionHeld3
import Derived.Maps.StringElems
import Derived.BigQuiet
namespace Go.Proofs.YtoklbpbmghbhnaeGreat
set_option maxRecDepth 100000
set_option maxHeartbeats 400000
open Go.RowKit Go.Deep Go.ChangeShapes Go.WideShapes
def mkU (V:Tm->Tm->Option Sb) (a b:Tm):Option Sb:=match iV 100 [] [(a,b)] with
 |some R=>R
 |none=>V a b
theorem aPP {V:Tm->Tm->Option Sb} (h:CQ V):CQ (mkU V):=λa b hi=>by
 cases e:iV 100 [] [(a,b)] with
 |some R=>exact ⟨100,by simp [mkU,e]⟩
 |none=>obtain ⟨n,hn⟩:=h a b hi;exact ⟨n,by simp [mkU,e,hn]⟩
def tcc (x y:Tm):Tm:=((false,2),.node 0 0 x.1 x.2 (.node 0 0 y.1 y.2 .nil))
def uR:Lt:=(false,tb (vr 0),vr 0)
def a7c:Cl:=[(false,tcc (tb (tb ta)) ta,tb ta)]
def a7e:Cl:=[(false,tb (tb ta),ta)]
def a7f:Cl:=[(false,vr 0,ta)]
def a7g:Cl:=[(false,tb ta,ta),(true,ta,tcc ta ta)]
def a7h:Cl:=[(false,tb ta,ta)]
def a7i:Cl:=[(false,tb (vr 0),ta)]
theorem aUG:jU [0,1,2] [98,40,88,48,41,61,88,48]=(0,[uR]):=by kernel_rfl
theorem a7n (c:Cl) (h:c=[uR]\/c=a7c\/c=a7e\/c=a7f\/c=a7g\/c=a7h\/c=a7i):∀l∈c,Fo.norm l.2.1.2=l.2.1.2/\Fo.norm l.2.2.2=l.2.2.2:=by intro l hl;rcases h with rfl|rfl|rfl|rfl|rfl|rfl|rfl<;>simp only [a7c,a7e,a7f,a7g,a7h,a7i,uR,List.mem_cons,List.not_mem_nil,or_false] at hl<;>first|(rcases hl with rfl|rfl<;>exact ⟨rfl,rfl⟩)|(subst hl;exact ⟨rfl,rfl⟩)
theorem aUE:aN [0,1,2] [uR]=0:=by kernel_rfl
theorem aUD:aN [0,1,2] a7c=0:=by kernel_rfl
theorem a7U:TM [0,1,2] [uR]:=λu hu=>by rw [List.mem_singleton.1 hu];exact OD (s:=[0,1,2]) (by decide) (by decide) (a7n _ (.inl rfl)) aUE uR (by simp)
theorem aUF:SmC [0,1,2] a7c:=OD (by decide) (by decide) (a7n _ (.inr (.inl rfl))) aUD
theorem aQE {t t':Tm} (ht:Sm [0,1,2] t) (h:iB [uR] t=some t'):dV [uR] t=dV [uR] t'/\Sm [0,1,2] t':=by obtain ⟨_,_,_,_,_,_,_,_,_,_,hs⟩:=kI (by decide) a7U ht h;exact ⟨tV (by decide) a7U ht h,hs⟩
theorem aUH:dV [uR] (tb ta)=ta:=by obtain ⟨e1,h1⟩:=aQE (t:=tb ta) (t':=ta) (aUF (false,tcc (tb (tb ta)) ta,tb ta) (by simp [a7c])).2 (by kernel_rfl);rw [e1,nO (by kernel_rfl)]
section
abbrev St:=Int×List Int×Cl
structure Pf where
 sig:List Int
 sts:List St
 act:List Int
 wai:List Int
 fnd:Int
 lst:Bool
def iA (E:Nat->Prop) (w:World) (l:List Int) (v:Value):Prop:=
 ∃(a:Option Addr) (c b o:Nat),v= .slice a l.length c/\(0<l.length->a=some ⟨b,o,none⟩/\¬E b)/\l.length<=c/\c<=maxLen/\∀i,i<l.length->w.cell? ⟨b,o+i,none⟩=some (.int .i64 (l.getD i 0))
theorem iA.nin {E:Nat->Prop} {w:World} {l:List Int} {v:Value} (h:iA E w l v):iK w l v:=by obtain ⟨a,c,b,o,h1,h2,h3,h4,h5⟩:=h;exact ⟨a,c,b,o,h1,λh=>(h2 h).1,h3,h4,h5⟩
theorem iA.slice {E:Nat->Prop} {w:World} {l:List Int} {v:Value} (h:iA E w l v):∃z1 z3,v= .slice z1 l.length z3:=dR h.nin
theorem iA.below {E:Nat->Prop} {w w':World} (hb:Below w.heap.size w w') {l:List Int} {v:Value} (h:iA E w l v):iA E w' l v:=by obtain ⟨a,c,b,o,h1,h2,h3,h4,h5⟩:=h;exact ⟨a,c,b,o,h1,h2,h3,h4,λi hi=>aA hb _ _ (h5 i hi)⟩
theorem iA.kept {E:Nat->Prop} {w w':World} (hr:∀q i,¬E q->w'.cell? ⟨q,i,none⟩=w.cell? ⟨q,i,none⟩) {l:List Int} {v:Value} (h:iA E w l v):iA E w' l v:=by obtain ⟨a,c,b,o,h1,h2,h3,h4,h5⟩:=h;exact ⟨a,c,b,o,h1,h2,h3,h4,λi hi=>by rw [hr b _ (h2 (by omega)).2];exact h5 i hi⟩
theorem iA.mono {E E':Nat->Prop} {w:World} {l:List Int} {v:Value} (h:iA E w l v) (hE:∀q,E' q->E q):iA E' w l v:=by obtain ⟨a,c,b,o,h1,h2,h3,h4,h5⟩:=h;exact ⟨a,c,b,o,h1,λh=>⟨(h2 h).1,λe=>(h2 h).2 (hE b e)⟩,h3,h4,h5⟩
theorem J7 (E:Nat->Prop) (w:World) (a:Option Addr) {k:Nat} (h:k<=maxLen):iA E w [] (.slice a 0 k):=⟨a,k,0,0,rfl,λh=>by simp at h,Nat.zero_le _,h,λi hi=>by simp at hi⟩
theorem mP {E:Nat->Prop} {w:World} {lo n:Nat} {v:Value} {l:List Int} (h:w.ownsRow lo 3 1 v n (bO l)) (hn:n=l.length) (hE:∀q,E q->q<lo):iA E w l v:=by subst hn;obtain ⟨a,c,b,o,h1,h2,h3,h4,h5⟩:=mJ h;refine ⟨a,c,b,o,h1,λh0=>⟨h2 h0,λe=>?_⟩,h3,h4,h5⟩;have h6:=aJ h b (by rw [h1,h2 h0];rfl);have:=hE b e;omega
def jV (E:Nat->Prop) (w:World) (sts:List St) (v:Value):Prop:=
 ∃(a:Option Addr) (k b o:Nat),v= .slice a sts.length k/\(0<sts.length->a=some ⟨b,o,none⟩/\¬E b)/\sts.length<=k/\k<=maxLen/\
  ∀i x,sts[i]?=some x->w.cell? ⟨b,o+i*3,none⟩=some (.int .i64 x.1)/\(∃fv,w.cell? ⟨b,o+i*3+1,none⟩=some fv/\iA E w x.2.1 fv)/\∃cv,w.cell? ⟨b,o+i*3+2,none⟩=some cv/\dQ w x.2.2 cv
theorem jV.kept {E:Nat->Prop} {w w':World} (hr:∀q i,¬E q->w'.cell? ⟨q,i,none⟩=w.cell? ⟨q,i,none⟩) (hk:wL w w') {sts:List St} {v:Value} (h:jV E w sts v):jV E w' sts v:=by obtain ⟨a,k,b,o,h1,h2,h3,h4,h5⟩:=h;refine ⟨a,k,b,o,h1,h2,h3,h4,λi x hx=>?_⟩;have hb:¬E b:=(h2 (by have:=(List.getElem?_eq_some_iff.1 hx).1;omega)).2;obtain ⟨q0,⟨fv,q1,q2⟩,cv,q3,q4⟩:=h5 i x hx;exact ⟨by rw [hr b _ hb];exact q0,⟨fv,by rw [hr b _ hb];exact q1,q2.kept hr⟩,cv,by rw [hr b _ hb];exact q3,hk.cin q4⟩
theorem jV.mono {E E':Nat->Prop} {w:World} {sts:List St} {v:Value} (h:jV E w sts v) (hE:∀q,E' q->E q):jV E' w sts v:=by obtain ⟨a,k,b,o,h1,h2,h3,h4,h5⟩:=h;refine ⟨a,k,b,o,h1,λh=>⟨(h2 h).1,λe=>(h2 h).2 (hE b e)⟩,h3,h4,λi x hx=>?_⟩;obtain ⟨q0,⟨fv,q1,q2⟩,cv,q3,q4⟩:=h5 i x hx;exact ⟨q0,⟨fv,q1,q2.mono hE⟩,cv,q3,q4⟩
theorem jV.below {E:Nat->Prop} {w w':World} (hb:Below w.heap.size w w') {sts:List St} {v:Value} (h:jV E w sts v):jV E w' sts v:=by obtain ⟨a,k,b,o,h1,h2,h3,h4,h5⟩:=h;refine ⟨a,k,b,o,h1,h2,h3,h4,λi x hx=>?_⟩;obtain ⟨q0,⟨fv,q1,q2⟩,cv,q3,q4⟩:=h5 i x hx;exact ⟨aA hb _ _ q0,⟨fv,aA hb _ _ q1,q2.below hb⟩,cv,aA hb _ _ q3,q4.below hb⟩
theorem jV.nil (E:Nat->Prop) (w:World):jV E w [] (.slice none 0 0):=⟨none,0,0,0,rfl,λh=>by simp at h,Nat.le_refl _,Nat.zero_le _,λi x h=>by simp at h⟩
theorem jI {E:Nat->Prop} {w:World} {sts:List St} {v:Value} (h:jV E w sts v):∃z1 z3,v= .slice z1 sts.length z3:=by obtain ⟨a,k,_,_,rfl,_⟩:=h;exact ⟨a,k,rfl⟩
def xL (E:Nat->Prop) (w:World):List St->List Value->Prop
 |[],xs=>xs=[]
 |x::r,xs=>∃fv cv ys,xs= .int .i64 x.1::fv::cv::ys/\iA E w x.2.1 fv/\dQ w x.2.2 cv/\xL E w r ys
theorem xL.below {E:Nat->Prop} {w w':World} (hb:Below w.heap.size w w'):∀{sts:List St} {xs:List Value},xL E w sts xs->xL E w' sts xs
 |[],_,h=>h
 |_::_,_,⟨fv,cv,ys,h1,h2,h3,h4⟩=>⟨fv,cv,ys,h1,h2.below hb,h3.below hb,xL.below hb h4⟩
theorem xL.len {E:Nat->Prop} {w:World}:∀{sts:List St} {xs:List Value},xL E w sts xs->xs.length=sts.length*3
 |[],_,h=>by rw [xL] at h;subst h;rfl
 |_::r,_,⟨fv,cv,ys,h1,_,_,h4⟩=>by subst h1;simp only [List.length_cons,h4.len];omega
theorem xL.app {E:Nat->Prop} {w:World} {r:List St} {ys:List Value} (h':xL E w r ys):∀{sts:List St} {xs:List Value},xL E w sts xs->xL E w (sts++r) (xs++ys)
 |[],_,h=>by rw [xL] at h;subst h;exact h'
 |_::_,_,⟨fv,cv,zs,h1,h2,h3,h4⟩=>by subst h1;exact ⟨fv,cv,zs++ys,rfl,h2,h3,xL.app h' h4⟩
theorem xL.at {E:Nat->Prop} {w:World} {g:Nat}:∀{sts:List St} {xs:List Value} {o:Nat},xL E w sts xs->(∀j,j<xs.length->w.cell? ⟨g,o+j,none⟩=xs[j]?)->
  ∀i x,sts[i]?=some x->w.cell? ⟨g,o+i*3,none⟩=some (.int .i64 x.1)/\(∃fv,w.cell? ⟨g,o+i*3+1,none⟩=some fv/\iA E w x.2.1 fv)/\∃cv,w.cell? ⟨g,o+i*3+2,none⟩=some cv/\dQ w x.2.2 cv
 |[],_,_,_,_,i,x,hx=>by simp at hx
 |y::r,_,o,⟨fv,cv,ys,h1,h2,h3,h4⟩,hc,0,x,hx=>by subst h1;simp only [List.getElem?_cons_zero,Option.some.injEq] at hx;subst hx;have c0:=hc 0 (by simp);have c1:=hc 1 (by simp);have c2:=hc 2 (by simp);exact ⟨by simpa using c0,⟨fv,by simpa using c1,h2⟩,cv,by simpa using c2,h3⟩
 |y::r,_,o,⟨fv,cv,ys,h1,h2,h3,h4⟩,hc,i+1,x,hx=>by
  subst h1;have h:=xL.at (o:=o+3) h4 (λj hj=>by have:=hc (j+3) (by simp;omega);rw [show o+(j+3)=o+3+j by omega] at this;simpa using this) i x (by simpa using hx)
  rw [show o+3+i*3=o+(i+1)*3 by omega] at h;exact h
theorem aCS {E:Nat->Prop} {w:World} {lo n:Nat} {sts:List St} {xs:List Value} {v:Value} (ho:w.ownsRow lo 46 3 v n xs) (hn:n=sts.length) (h:xL E w sts xs) (hE:∀q,E q->q<lo):jV E w sts v:=by
 have hat:=aJ ho;subst hn;rcases ho.2 with ⟨e,h0⟩|⟨g,bW,cur,e,_,_,hn,hm,_,_⟩
 · have:sts=[]:=List.length_eq_zero_iff.1 h0;rw [this,e];exact jV.nil E w
 · refine ⟨some ⟨g,0,none⟩,bW,g,0,e,λ_=>⟨rfl,λhe=>by have:=(hat g (by rw [e];rfl)).1;have:=hE g he;omega⟩,hn,hm,xL.at h (λj hj=>?_)⟩;have h2:=ho.cells (g:=g) (by rw [e];rfl) j xs[j] (by simp);rw [add_plain] at h2;rw [h2];simp
def oW (E:Nat->Prop) (w:World) (p:Pf) (a1 a2 a3 a4:Value):Prop:=iA E w p.sig a1/\jV E w p.sts a2/\iA E w p.act a3/\iA E w p.wai a4
theorem oW.below {E:Nat->Prop} {w w':World} {p:Pf} {a1 a2 a3 a4:Value} (h:oW E w p a1 a2 a3 a4) (hb:Below w.heap.size w w'):oW E w' p a1 a2 a3 a4:=⟨h.1.below hb,h.2.1.below hb,h.2.2.1.below hb,h.2.2.2.below hb⟩
theorem oW.kept {E:Nat->Prop} {w w':World} {p:Pf} {a1 a2 a3 a4:Value} (h:oW E w p a1 a2 a3 a4) (hr:∀q i,¬E q->w'.cell? ⟨q,i,none⟩=w.cell? ⟨q,i,none⟩) (hk:wL w w'):oW E w' p a1 a2 a3 a4:=⟨h.1.kept hr,h.2.1.kept hr hk,h.2.2.1.kept hr,h.2.2.2.kept hr⟩
theorem oW.mono {E E':Nat->Prop} {w:World} {p:Pf} {a1 a2 a3 a4:Value} (h:oW E w p a1 a2 a3 a4) (hE:∀q,E' q->E q):oW E' w p a1 a2 a3 a4:=⟨h.1.mono hE,h.2.1.mono hE,h.2.2.1.mono hE,h.2.2.2.mono hE⟩
def ZC (p:Pf) (a1 a2 a3 a4:Value):Value:= .agg #[a1,a2,a3,a4,.int .i64 p.fnd,.bool p.lst]
def B6 (w:World) (b:Nat) (x0 x1 x2 x3 x4 x5:Value):Prop:=w.cell? ⟨b,0,none⟩=some x0/\w.cell? ⟨b,1,none⟩=some x1/\w.cell? ⟨b,2,none⟩=some x2/\w.cell? ⟨b,3,none⟩=some x3/\w.cell? ⟨b,4,none⟩=some x4/\w.cell? ⟨b,5,none⟩=some x5/\∀i,w.frozen? ⟨b,i,none⟩=false
section
variable {w w':World} {b:Nat} {x0 x1 x2 x3 x4 x5 y0 y1 y2 y3 y4 y5:Value}
theorem B6.lt (h:B6 w b x0 x1 x2 x3 x4 x5):b<w.heap.size:=World.block_lt_of_cell? _ _ h.1
theorem B6.below (h:B6 w b x0 x1 x2 x3 x4 x5) (hb:Below w.heap.size w w'):B6 w' b x0 x1 x2 x3 x4 x5:=
 ⟨aA hb _ _ h.1,aA hb _ _ h.2.1,aA hb _ _ h.2.2.1,aA hb _ _ h.2.2.2.1,aA hb _ _ h.2.2.2.2.1,aA hb _ _ h.2.2.2.2.2.1,λi=>(hb.frozen (p:=⟨b,i,none⟩) h.lt).trans (h.2.2.2.2.2.2 i)⟩
theorem B6.new (w:World) (x0 x1 x2 x3 x4 x5:Value) (t:TypeId):B6 (w.alloc (.cells #[x0,x1,x2,x3,x4,x5] t)) w.heap.size x0 x1 x2 x3 x4 x5:=⟨by simp,by simp,by simp,by simp,by simp,by simp,λi=>by simp⟩
theorem B6.at {n:Nat} (h:n=w.heap.size) {t:TypeId}:B6 (w.alloc (.cells #[x0,x1,x2,x3,x4,x5] t)) n x0 x1 x2 x3 x4 x5:=by subst h;exact B6.new _ _ _ _ _ _ _ _
theorem bJ {a c:Addr} {u v:Value} (h:w.cell? a=some u) (hne:c≠a):(w.setCell c v).cell? a=some u:=by rw [aX hne];exact h
theorem B6.set0 (h:B6 w b x0 x1 x2 x3 x4 x5) (y:Value):B6 (w.setCell ⟨b,0,none⟩ y) b y x1 x2 x3 x4 x5:=by obtain ⟨h0,h1,h2,h3,h4,h5,hf⟩:=h;exact ⟨fK h0,bJ h1 (by simp),bJ h2 (by simp),bJ h3 (by simp),bJ h4 (by simp),bJ h5 (by simp),λi=>by rw [World.frozen?_setCell];exact hf i⟩
theorem B6.set1 (h:B6 w b x0 x1 x2 x3 x4 x5) (y:Value):B6 (w.setCell ⟨b,1,none⟩ y) b x0 y x2 x3 x4 x5:=by obtain ⟨h0,h1,h2,h3,h4,h5,hf⟩:=h;exact ⟨bJ h0 (by simp),fK h1,bJ h2 (by simp),bJ h3 (by simp),bJ h4 (by simp),bJ h5 (by simp),λi=>by rw [World.frozen?_setCell];exact hf i⟩
theorem B6.set2 (h:B6 w b x0 x1 x2 x3 x4 x5) (y:Value):B6 (w.setCell ⟨b,2,none⟩ y) b x0 x1 y x3 x4 x5:=by obtain ⟨h0,h1,h2,h3,h4,h5,hf⟩:=h;exact ⟨bJ h0 (by simp),bJ h1 (by simp),fK h2,bJ h3 (by simp),bJ h4 (by simp),bJ h5 (by simp),λi=>by rw [World.frozen?_setCell];exact hf i⟩
theorem B6.set3 (h:B6 w b x0 x1 x2 x3 x4 x5) (y:Value):B6 (w.setCell ⟨b,3,none⟩ y) b x0 x1 x2 y x4 x5:=by obtain ⟨h0,h1,h2,h3,h4,h5,hf⟩:=h;exact ⟨bJ h0 (by simp),bJ h1 (by simp),bJ h2 (by simp),fK h3,bJ h4 (by simp),bJ h5 (by simp),λi=>by rw [World.frozen?_setCell];exact hf i⟩
theorem B6.set4 (h:B6 w b x0 x1 x2 x3 x4 x5) (y:Value):B6 (w.setCell ⟨b,4,none⟩ y) b x0 x1 x2 x3 y x5:=by obtain ⟨h0,h1,h2,h3,h4,h5,hf⟩:=h;exact ⟨bJ h0 (by simp),bJ h1 (by simp),bJ h2 (by simp),bJ h3 (by simp),fK h4,bJ h5 (by simp),λi=>by rw [World.frozen?_setCell];exact hf i⟩
theorem B6.set5 (h:B6 w b x0 x1 x2 x3 x4 x5) (y:Value):B6 (w.setCell ⟨b,5,none⟩ y) b x0 x1 x2 x3 x4 y:=by obtain ⟨h0,h1,h2,h3,h4,h5,hf⟩:=h;exact ⟨bJ h0 (by simp),bJ h1 (by simp),bJ h2 (by simp),bJ h3 (by simp),bJ h4 (by simp),fK h5,λi=>by rw [World.frozen?_setCell];exact hf i⟩
def set6 (w:World) (b:Nat) (y0 y1 y2 y3 y4 y5:Value):World:=(((((w.setCell ⟨b,0,none⟩ y0).setCell ⟨b,1,none⟩ y1).setCell ⟨b,2,none⟩ y2).setCell ⟨b,3,none⟩ y3).setCell ⟨b,4,none⟩ y4).setCell ⟨b,5,none⟩ y5
theorem B6.set (h:B6 w b x0 x1 x2 x3 x4 x5):B6 (set6 w b y0 y1 y2 y3 y4 y5) b y0 y1 y2 y3 y4 y5:=(((((h.set0 y0).set1 y1).set2 y2).set3 y3).set4 y4).set5 y5
theorem eY {B:Nat} {w0:World} (h:Below B w0 w) (hb:B<=b):Below B w0 (set6 w b y0 y1 y2 y3 y4 y5):=(((((h.setCell hb _).setCell hb _).setCell hb _).setCell hb _).setCell hb _).setCell hb _
theorem sD {q:Nat} (h:q≠b):(set6 w b y0 y1 y2 y3 y4 y5).heap[q]?=w.heap[q]?:=by unfold set6;rw [Below.heap_setCell _ _ _ _ h,Below.heap_setCell _ _ _ _ h,Below.heap_setCell _ _ _ _ h,Below.heap_setCell _ _ _ _ h,Below.heap_setCell _ _ _ _ h,Below.heap_setCell _ _ _ _ h]
end
theorem iA.old {E:Nat->Prop} {w:World} {l:List Int} {v:Value} (h:iA E w l v):iA (λq=>E q\/w.heap.size<=q) w l v:=by
 obtain ⟨a,c,b,o,h1,h2,h3,h4,h5⟩:=h;refine ⟨a,c,b,o,h1,λh=>⟨(h2 h).1,λe=>?_⟩,h3,h4,h5⟩;have:=World.block_lt_of_cell? _ _ (h5 0 h);rcases e with e|e
 · exact (h2 h).2 e
 · exact absurd this (Nat.not_lt.2 e)
def N6 (w:World) (b:Nat):Prop:=∀o,6<=o->w.cell? ⟨b,o,none⟩=none
theorem N6.below {w w':World} {b:Nat} (h:N6 w b) (hlt:b<w.heap.size) (hb:Below w.heap.size w w'):N6 w' b:=λo ho=>by rw [hb.cell (p:=⟨b,o,none⟩) hlt];exact h o ho
theorem N6.set {w:World} {b c i:Nat} {v:Value} (h:N6 w b) (hi:i<6):N6 (w.setCell ⟨c,i,none⟩ v) b:=λo ho=>by rw [aX (by intro e;simp only [Addr.mk.injEq] at e;omega)];exact h o ho
theorem N6.set6 {w:World} {b c:Nat} {y0 y1 y2 y3 y4 y5:Value} (h:N6 w b):N6 (set6 w c y0 y1 y2 y3 y4 y5) b:=(((((h.set (by omega)).set (by omega)).set (by omega)).set (by omega)).set (by omega)).set (by omega)
theorem N6.at {w:World} {n:Nat} {x0 x1 x2 x3 x4 x5:Value} {t:TypeId} (h:n=w.heap.size):N6 (w.alloc (.cells #[x0,x1,x2,x3,x4,x5] t)) n:=λo ho=>by subst h;have h:=heap_alloc_new w (.cells #[x0,x1,x2,x3,x4,x5] t);unfold World.cell?;rw [h];have:(#[x0,x1,x2,x3,x4,x5]:Array Value)[o]?=none:=Array.getElem?_eq_none (by simpa using ho);simpa using this
theorem aGM {w:World} {b:Nat} {a1 a2 a3 a4:Option Addr} {n1 n2 n3 n4 k1 k2 k3 k4:Nat} {f:Int} {l:Bool} (h:B6 w b (.slice a1 n1 k1) (.slice a2 n2 k2) (.slice a3 n3 k3) (.slice a4 n4 k4) (.int .i64 f) (.bool l)) (hn:N6 w b):QG w b:=λo x hx=>by
 obtain ⟨h0,h1,h2,h3,h4,h5,-⟩:=h;rcases (by omega:o=0\/o=1\/o=2\/o=3\/o=4\/o=5\/6<=o) with rfl|rfl|rfl|rfl|rfl|rfl|ho
 · rw [h0] at hx;cases hx
 · rw [h1] at hx;cases hx
 · rw [h2] at hx;cases hx
 · rw [h3] at hx;cases hx
 · rw [h4] at hx;cases hx
 · exact hn 6 (by omega)
 · exact hn (o+1) (by omega)
theorem aJO {w w':World} {b:Nat} (hn:QG w b) (hh:∀q,q≠b->w'.heap[q]?=w.heap[q]?):wL w w':=nE λq _ hq=>hh q (λe=>hq (by rw [e];exact hn))
theorem oW.boxed {E:Nat->Prop} {w w':World} {b:Nat} {p:Pf} {a1 a2 a3 a4:Value} (h:oW E w p a1 a2 a3 a4) (hn:QG w b) (hE:E b) (hh:∀q,q≠b->w'.heap[q]?=w.heap[q]?):oW E w' p a1 a2 a3 a4:=
 h.kept (λq i hq=>World.cell?_of_block (a:=⟨q,i,none⟩) (hh q (λe=>hq (by rw [e];exact hE)))) (aJO hn hh)
def bD (sts:List St) (k:Int):Cl:=match sts[k.toNat]? with
 |some x=>x.2.2
 |none=>[]
def bI (p:Pf) (r:Int) (fr:List Int) (c:Cl):Pf×Bool:=
 if 120<=p.sts.length then ({p with lst:=true},false)
 else ({p with sts:=p.sts++[(r,fr,c)],fnd:=if c.length=0/\p.fnd<0 then (p.sts.length:Int) else p.fnd},true)
def UN (p:Pf) (c:Cl):Bool:=p.act.any λk=>yH (bD p.sts k) c
def aDQ (p:Pf) (c:Cl):Bool:=p.wai.any λk=>dH (bD p.sts k) c
def iD (r:Int) (fr:List Int) (p:Pf) (c:Cl):Pf:=
 if 0<=p.fnd\/aDQ p c=true\/UN p c=true then p
 else if (bI p r fr c).2 then {(bI p r fr c).1 with wai:=(bI p r fr c).1.wai++[((bI p r fr c).1.sts.length:Int) - 1]} else (bI p r fr c).1
def jF (p:Pf) (r:Int) (fr:List Int) (st:List Cl×Bool):Pf:=st.1.foldl (iD r fr) {p with lst:=p.lst||st.2}
end
section
attribute [local go_sem ↓] Go.wp_at_zero Go.wp_at_succ
theorem Tryz.info46:(Tryz.prog.info? 46).map (λi=>(i.zero,i.size,i.bytes))=some (some (.agg #[.int .i64 0,.slice none 0 0,.slice none 0 0]),3,56):=by kernel_rfl
def PfX (E:Nat->Prop) (w:World) (p:Pf) (a1 a2 a3 a4:Value):Prop:=iA E w p.sig a1/\jV E w p.sts a2/\iA E w p.act a3/\∃z1 z3,a4= .slice z1 p.wai.length z3
theorem PfX.mono {E E':Nat->Prop} {w:World} {p:Pf} {a1 a2 a3 a4:Value} (h:PfX E w p a1 a2 a3 a4) (hE:∀q,E' q->E q):PfX E' w p a1 a2 a3 a4:=⟨h.1.mono hE,h.2.1.mono hE,h.2.2.1.mono hE,h.2.2.2⟩
theorem oW.x {E:Nat->Prop} {w:World} {p:Pf} {a1 a2 a3 a4:Value} (h:oW E w p a1 a2 a3 a4):PfX E w p a1 a2 a3 a4:=⟨h.1,h.2.1,h.2.2.1,h.2.2.2.slice⟩
end
section
attribute [local go_sem ↓] Go.wp_at_zero Go.wp_at_succ
def IC (sts:List St) (l:List Int):Prop:=∀k∈l,0<=k/\k<sts.length
theorem aR2 {E:Nat->Prop} {w:World} {sts:List St} {b o:Nat} {k:Int} (hF:∀i x,sts[i]?=some x->w.cell? ⟨b,o+i*3,none⟩=some (.int .i64 x.1)/\(∃fv,w.cell? ⟨b,o+i*3+1,none⟩=some fv/\iA E w x.2.1 fv)/\∃cv,w.cell? ⟨b,o+i*3+2,none⟩=some cv/\dQ w x.2.2 cv)
  (hk:0<=k/\k<sts.length):∃m:Nat,k=m/\m<sts.length/\∃x∈sts,bD sts k=x.2.2/\∃cv,w.cell? ⟨b,o+m*3+2,none⟩=some cv/\dQ w (bD sts k) cv:=by
 obtain ⟨m,rfl⟩:∃m:Nat,k=m:=⟨k.toNat,by omega⟩;have hm:m<sts.length:=by omega
 obtain ⟨x,hx⟩:∃x,sts[m]?=some x:=⟨sts[m],by simp⟩;obtain ⟨_,_,cv,q3,q4⟩:=hF m x hx;have e:bD sts (m:Int)=x.2.2:=by unfold bD;rw [Int.toNat_natCast,hx]
 exact ⟨m,rfl,hm,x,List.mem_of_getElem? hx,e,cv,q3,by rw [e];exact q4⟩
end
section
def nbV (u:Value):Prop:=∀x,u≠ .bool x
def NB (w:World) (g:Nat):Prop:=∃cur e,w.heap[g]?=some (.cells cur e (0,0))/\∀u∈cur.toList,nbV u
theorem NB.not {w:World} {g:Nat} (h:NB w g):QG w g:=by
 obtain ⟨cur,e,hg,hu⟩:=h;intro o x hv;have:cur[o]?=some (.bool x):=by simpa [World.cell?,hg] using hv
 have hm:(Value.bool x)∈cur:=Array.mem_of_getElem? this;exact absurd rfl (hu _ (by simpa using hm) x)
theorem NB.keep {w w':World} {g:Nat} (h:NB w g) (he:w'.heap[g]?=w.heap[g]?):NB w' g:=by obtain ⟨cur,e,hg,hu⟩:=h;exact ⟨cur,e,he.trans hg,hu⟩
theorem oM (k:IntKind) (i:Int):nbV (.int k i):=λx e=>by cases e
theorem FD (a:Option Addr) (n k:Nat):nbV (.slice a n k):=λx e=>by cases e
theorem aC5 {l:List Int}:∀u∈bO l,nbV u:=λu hu=>by obtain ⟨i,_,rfl⟩:=List.mem_map.1 hu;exact oM _ _
theorem aK1 {z:Value} (h:∀u∈z.cells.toList,nbV u) (h0:0<z.cells.size) {n:Nat}:∀u∈(Builtin.zeroCells z.cells n).toList,nbV u:=λu hu=>by
 simp only [Builtin.zeroCells,Array.toList_map,List.mem_map] at hu;obtain ⟨i,_,rfl⟩:=hu;have hl:i % z.cells.size<z.cells.size:=Nat.mod_lt _ h0;refine h _ ?_
 first
  |(rw [Array.getD_eq_getD_getElem?,Array.getElem?_eq_getElem hl];simp)
  |simp [hl]
theorem lJ {P:Program} (w:World) (t ty:TypeId) (base:Nat) (e:TypeId) (i:TypeInfo) (z:Value) (s bytes:Nat) (ht:P.underlying t=some (.slice e)) (hi:P.info? e=some i) (hz:i.zero=some z)
  (hsize:i.size=s) (hby:i.bytes=bytes) (hzs:z.cells.size=s) (hs0:0<s) (hzn:∀u∈z.cells.toList,nbV u) (v:Value) (n:Nat) (xs:List Value) (hown:w.ownsRow base e s v n xs) (hsl:∀g,v.ownBlock=some g->NB w g)
  (ad:Addr) (m c:Nat) (news:List Value) (hl:news.length=m*s) (hnews:∀j u,news[j]?=some u->w.cell? (ad.add j)=some u) (h1:∀u∈news,u.oneCell'=true) (hns:∀u∈news,nbV u)
  (hm:0<m) (h63:n+m<=maxLen) (hbytes:(n+m)*bytes<=140737488355328) (hbase:base<=w.heap.size):
  ∃v' w',(Builtin.append_ #[t,t] ty #[v,.slice (some ad) m c]).run P w= .ok v' w'/\w'.ownsRow base e s v' (n+m) (xs++news)/\w.grownBy w' v.ownBlock/\(v'.ownBlock=v.ownBlock\/v'.ownBlock=some w.heap.size)/\∀g,v'.ownBlock=some g->NB w' g:=by
 obtain ⟨g,bW,w',hr,h2,h3,h4,h5⟩:=qC (P:=P) w t ty base e i z s bytes ht hi hz hsize hby hzs hs0 v n xs hown ad m c news hl hnews h1 hm h63 hbytes hbase;have hsmall:n+m<=9223372036854775807:=by simp only [maxLen] at h63;omega
 have hzz:∀{k:Nat},∀u∈(Builtin.zeroCells z.cells k).toList,nbV u:=aK1 hzn (by omega);refine ⟨_,w',hr,h2,h3,?_,λg' hg'=>?_⟩
 · rcases h4 with h|⟨h,_⟩
   · left;rw [h];rfl
   · right;rw [h];rfl
 · have eg:g=g':=by simpa [Value.ownBlock] using hg'
   subst eg;subst hby;subst hsize;rcases hown.2 with ⟨rfl,rfl⟩|⟨g0,cap0,cur,rfl,hbg,hg,hnc,hcm,hcs,htake⟩
   · have hr2:=run_append_nil (P:=P) w t ty e i z ht hi hz ad m c news hl hnews (by omega) (by omega) (by have hb:=hbytes;simp only [Nat.zero_add] at hb;omega);rw [hr] at hr2;simp only [Result.ok.injEq,Value.slice.injEq,Option.some.injEq,Addr.mk.injEq] at hr2;obtain ⟨⟨⟨e1,_⟩,_⟩,e2⟩:=hr2;rw [e1,e2];refine ⟨_,e,heap_alloc_new w.drew _,λu hu=>?_⟩;rw [Array.toList_append,List.mem_append] at hu;rcases hu with hu|hu
     · exact hns u (by simpa using hu)
     · exact hzz u hu
   · obtain ⟨cur',e',hg',hu'⟩:=hsl g0 rfl;rw [hg] at hg';simp only [Option.some.injEq,Obj.cells.injEq] at hg';obtain ⟨rfl,rfl,_⟩:=hg';by_cases hroom:n+m<=cap0
     · have hfit:n*i.size+news.length<=cur.size:=by rw [hl,hcs,←Nat.add_mul];exact Nat.mul_le_mul_right _ hroom
       have hr2:=run_append_room (P:=P) w t ty e i ht hi g0 n cap0 cur hg ad m c news hl hnews h1 hroom hfit;rw [hr] at hr2;simp only [Result.ok.injEq,Value.slice.injEq,Option.some.injEq,Addr.mk.injEq] at hr2;obtain ⟨⟨⟨e1,_⟩,_,e2⟩,e3⟩:=hr2;rw [e1,e3];refine ⟨_,e,setRow_heap w g0 cur _ e (0,0) hg,λu hu=>?_⟩;rw [List.mem_append,List.mem_append] at hu;rcases hu with (hu|hu)|hu
       · exact hu' u (List.mem_of_mem_take hu)
       · exact hns u hu
       · exact hu' u (List.mem_of_mem_drop hu)
     · have holds:∀j u,xs[j]?=some u->w.cell? ((⟨g0,0,none⟩:Addr).add j)=some u:=hown.cells (g:=g0) rfl;have hr2:=run_append_grow (P:=P) w t ty e i z ht hi hz ⟨g0,0,none⟩ n cap0 xs hown.1 holds ad m c news hl hnews (by omega) (by omega) (growslice_fits (by omega) hbytes);rw [hr] at hr2;simp only [Result.ok.injEq,Value.slice.injEq,Option.some.injEq,Addr.mk.injEq] at hr2;obtain ⟨⟨⟨e1,_⟩,_⟩,e2⟩:=hr2;rw [e1,e2];refine ⟨_,e,heap_alloc_new w.drew _,λu hu=>?_⟩;rw [Array.toList_append,Array.toList_append,List.mem_append,List.mem_append] at hu;rcases hu with (hu|hu)|hu
       · have:u∈cur.toList.take (n*i.size):=by rw [htake];simpa using hu
         exact hu' u (List.mem_of_mem_take this)
       · exact hns u (by simpa using hu)
       · exact hzz u hu
structure kX (w:World) (E:Nat->Prop) (w':World) (E':Nat->Prop):Prop where
 os:w'.os=w.os
 tape:w'.tape=w.tape
 output:w'.output=w.output
 size:w.heap.size<=w'.heap.size
 block:∀k,k<w.heap.size->¬E k->w'.heap[k]?=w.heap[k]?
 ne:∀q,E' q->E q\/w.heap.size<=q
theorem kX.refl (w:World) (E:Nat->Prop):kX w E w E:=⟨rfl,rfl,rfl,Nat.le_refl _,λ_ _ _=>rfl,λ_ h=> .inl h⟩
theorem kX.trans {w w1 w2:World} {E E1 E2:Nat->Prop} (h:kX w E w1 E1) (k:kX w1 E1 w2 E2):kX w E w2 E2:=
 ⟨k.os.trans h.os,k.tape.trans h.tape,k.output.trans h.output,Nat.le_trans h.size k.size,λq hq hn=>(k.block q (Nat.lt_of_lt_of_le hq h.size) (λe=>by
  rcases h.ne q e with e|e
  · exact hn e
  · omega)).trans (h.block q hq hn),λq hq=>by
  rcases k.ne q hq with e|e
  · exact h.ne q e
  · exact .inr (Nat.le_trans h.size e)⟩
theorem kX.of {w w':World} (h:Below w.heap.size w w') (E:Nat->Prop):kX w E w' E:=⟨h.os,h.tape,h.output,h.size,λk hk _=>h.block k hk,λ_ h=> .inl h⟩
theorem kX.step {w w1 w2:World} {E E1:Nat->Prop} (h:kX w E w1 E1) (k:Below w1.heap.size w1 w2):kX w E w2 E1:=h.trans (.of k E1)
theorem kX.below {lo:Nat} {w w':World} {E E':Nat->Prop} (h:kX w E w' E') (hE:∀q,E q->lo<=q) (hlo:lo<=w.heap.size):Below lo w w':=
 ⟨h.os,h.tape,h.output,h.size,λk hk=>h.block k (by omega) (λe=>by have:=hE k e;omega)⟩
theorem kX.kpt {w w':World} {E E':Nat->Prop} (h:kX w E w' E') (hE:∀q,E q->QG w q):wL w w':=nE λq hq hn=>h.block q hq (λe=>hn (hE q e))
theorem iA.mv {w w':World} {E E':Nat->Prop} (h:kX w E w' E') {l:List Int} {v:Value} (hl:iA E w l v):iA E' w' l v:=by
 obtain ⟨a,c,b,o,h1,h2,h3,h4,h5⟩:=hl;refine ⟨a,c,b,o,h1,λh0=>⟨(h2 h0).1,λe=>?_⟩,h3,h4,λi hi=>?_⟩
 · have hlt:=World.block_lt_of_cell? _ _ (h5 0 h0);rcases h.ne b e with e|e
   · exact (h2 h0).2 e
   · exact absurd hlt (Nat.not_lt.2 e)
 · have hlt:b<w.heap.size:=World.block_lt_of_cell? _ _ (h5 i hi);rw [World.cell?_of_block (a:=⟨b,o+i,none⟩) (h.block b hlt (h2 (by omega)).2)];exact h5 i hi
theorem xL.mv {w w':World} {E E':Nat->Prop} (h:kX w E w' E') (hk:wL w w'):∀{sts:List St} {xs:List Value},xL E w sts xs->xL E' w' sts xs
 |[],_,h=>h
 |_::_,_,⟨fv,cv,ys,h1,h2,h3,h4⟩=>⟨fv,cv,ys,h1,h2.mv h,hk.cin h3,xL.mv h hk h4⟩
theorem xL.mono {E E':Nat->Prop} {w:World} (hE:∀q,E' q->E q):∀{sts:List St} {xs:List Value},xL E w sts xs->xL E' w sts xs
 |[],_,h=>h
 |_::_,_,⟨fv,cv,ys,h1,h2,h3,h4⟩=>⟨fv,cv,ys,h1,h2.mono hE,h3,xL.mono hE h4⟩
def Rw (lo:Nat) (w:World) (t k:Nat) (v:Value) (n:Nat) (xs:List Value):Prop:=w.ownsRow lo t k v n xs/\∀g,v.ownBlock=some g->NB w g
theorem Rw.keep {lo t k n:Nat} {w w':World} {v:Value} {xs:List Value} (h:Rw lo w t k v n xs) (he:∀g,v.ownBlock=some g->w'.heap[g]?=w.heap[g]?):Rw lo w' t k v n xs:=⟨bA h.1 he,λg hg=>(h.2 g hg).keep (he g hg)⟩
theorem Rw.below {lo t k n:Nat} {w w':World} {v:Value} {xs:List Value} (h:Rw lo w t k v n xs) (hb:Below w.heap.size w w'):Rw lo w' t k v n xs:=h.keep λg hg=>hb.block g (aJ h.1 g hg).2
theorem B6.same {w w':World} {b:Nat} {x0 x1 x2 x3 x4 x5:Value} (h:B6 w b x0 x1 x2 x3 x4 x5) (he:w'.heap[b]?=w.heap[b]?):B6 w' b x0 x1 x2 x3 x4 x5:=by have hc:∀o,w'.cell? ⟨b,o,none⟩=w.cell? ⟨b,o,none⟩:=λo=>World.cell?_of_block (a:=⟨b,o,none⟩) he;obtain ⟨h0,h1,h2,h3,h4,h5,h6⟩:=h;exact ⟨(hc _).trans h0,(hc _).trans h1,(hc _).trans h2,(hc _).trans h3,(hc _).trans h4,(hc _).trans h5,λi=>(World.frozen?_of_block (a:=⟨b,i,none⟩) he).trans (h6 i)⟩
theorem N6.same {w w':World} {b:Nat} (h:N6 w b) (he:w'.heap[b]?=w.heap[b]?):N6 w' b:=λo ho=>(World.cell?_of_block (a:=⟨b,o,none⟩) he).trans (h o ho)
def iU (b:Nat) (a2 a3 a4:Value) (q:Nat):Prop:=q=b\/a2.ownBlock=some q\/a3.ownBlock=some q\/a4.ownBlock=some q
def EL (lo b:Nat) (a2 a3 a4:Value) (q:Nat):Prop:=iU b a2 a3 a4 q\/q<lo
theorem kX.more {lo:Nat} {w w':World} {b:Nat} {a2 a3 a4 z2 z3 z4:Value} (h:kX w (iU b a2 a3 a4) w' (iU b z2 z3 z4)):kX w (EL lo b a2 a3 a4) w' (EL lo b z2 z3 z4):=
 ⟨h.os,h.tape,h.output,h.size,λk hk hn=>h.block k hk (λe=>hn (.inl e)),λq hq=>by
  rcases hq with e|e
  · rcases h.ne q e with e|e
    · exact .inl (.inl e)
    · exact .inr e
  · exact .inl (.inr e)⟩
structure PS (lo:Nat) (w:World) (b:Nat) (p:Pf) (a1 a2 a3 a4:Value):Prop where
 bx:B6 w b a1 a2 a3 a4 (.int .i64 p.fnd) (.bool p.lst)
 n6:N6 w b
 bl:lo<=b
 sg:iA (EL lo b a2 a3 a4) w p.sig a1
 st:∃xs,Rw lo w 46 3 a2 p.sts.length xs/\xL (EL lo b a2 a3 a4) w p.sts xs
 ac:Rw lo w 3 1 a3 p.act.length (bO p.act)
 wa:Rw lo w 3 1 a4 p.wai.length (bO p.wai)
 d2:a2.ownBlock≠some b
 d3:a3.ownBlock≠some b
 d4:a4.ownBlock≠some b
 d23:∀g,a2.ownBlock=some g->a3.ownBlock≠some g
 d24:∀g,a2.ownBlock=some g->a4.ownBlock≠some g
 d34:∀g,a3.ownBlock=some g->a4.ownBlock≠some g
section
variable {lo:Nat} {w:World} {b:Nat} {p:Pf} {a1 a2 a3 a4:Value}
theorem PS.slices (h:PS lo w b p a1 a2 a3 a4):(∃z1 z3,a1= .slice z1 p.sig.length z3)/\(∃z1 z3,a2= .slice z1 p.sts.length z3)/\(∃z1 z3,a3= .slice z1 p.act.length z3)/\∃z1 z3,a4= .slice z1 p.wai.length z3:=by obtain ⟨xs,h2,_⟩:=h.st;exact ⟨h.sg.slice,aR h2.1,aR h.ac.1,aR h.wa.1⟩
theorem PS.at (h:PS lo w b p a1 a2 a3 a4):∀q,iU b a2 a3 a4 q->lo<=q/\q<w.heap.size:=λq hq=>by
 obtain ⟨xs,h2,_⟩:=h.st;rcases hq with rfl|hq|hq|hq
 · exact ⟨h.bl,h.bx.lt⟩
 · exact aJ h2.1 q hq
 · exact aJ h.ac.1 q hq
 · exact aJ h.wa.1 q hq
theorem PS.not (h:PS lo w b p a1 a2 a3 a4):∀q,iU b a2 a3 a4 q->QG w q:=λq hq=>by
 obtain ⟨xs,h2,_⟩:=h.st;rcases hq with rfl|hq|hq|hq
 · obtain ⟨⟨_,_,rfl⟩,⟨_,_,rfl⟩,⟨_,_,rfl⟩,_,_,rfl⟩:=h.slices;exact aGM h.bx h.n6
 · exact (h2.2 q hq).not
 · exact (h.ac.2 q hq).not
 · exact (h.wa.2 q hq).not
theorem PS.kpt (h:PS lo w b p a1 a2 a3 a4) {w':World} {E':Nat->Prop} (hm:kX w (iU b a2 a3 a4) w' E'):wL w w':=hm.kpt h.not
theorem PS.under (h:PS lo w b p a1 a2 a3 a4) {w':World} {E':Nat->Prop} (hm:kX w (iU b a2 a3 a4) w' E') (hlo:lo<=w.heap.size):Below lo w w':=hm.below (λq hq=>(h.at q hq).1) hlo
theorem PS.below (h:PS lo w b p a1 a2 a3 a4) {w':World} (hb:Below w.heap.size w w'):PS lo w' b p a1 a2 a3 a4:=by obtain ⟨xs,h2,h3⟩:=h.st;exact ⟨h.bx.below hb,h.n6.below h.bx.lt hb,h.bl,h.sg.below hb,⟨xs,h2.below hb,h3.below hb⟩,h.ac.below hb,h.wa.below hb,h.d2,h.d3,h.d4,h.d23,h.d24,h.d34⟩
theorem PS.pf (h:PS lo w b p a1 a2 a3 a4):oW (λ_=>False) w p a1 a2 a3 a4:=by obtain ⟨xs,h2,h3⟩:=h.st;exact ⟨h.sg.mono (λ_ h=>h.elim),aCS h2.1 rfl (h3.mono (λ_ h=>h.elim)) (λ_ h=>h.elim),mP h.ac.1 rfl (λ_ h=>h.elim),mP h.wa.1 rfl (λ_ h=>h.elim)⟩
theorem PS.pfl (h:PS lo w b p a1 a2 a3 a4):oW (λq=>q<lo) w p a1 a2 a3 a4:=by obtain ⟨xs,h2,h3⟩:=h.st;exact ⟨h.sg.mono (λ_ h=> .inr h),aCS h2.1 rfl (h3.mono (λ_ h=> .inr h)) (λ_ h=>h),mP h.ac.1 rfl (λ_ h=>h),mP h.wa.1 rfl (λ_ h=>h)⟩
theorem PS.el (h:PS lo w b p a1 a2 a3 a4):∀q,EL lo b a2 a3 a4 q->q<w.heap.size:=λq hq=>by
 rcases hq with e|e
 · exact (h.at q e).2
 · exact Nat.lt_of_lt_of_le e (Nat.le_trans h.bl (Nat.le_of_lt h.bx.lt))
theorem PS.set5 (h:PS lo w b p a1 a2 a3 a4) (l:Bool):PS lo (w.setCell ⟨b,5,none⟩ (.bool l)) b {p with lst:=l} a1 a2 a3 a4/\kX w (iU b a2 a3 a4) (w.setCell ⟨b,5,none⟩ (.bool l)) (iU b a2 a3 a4):=by have hm:kX w (iU b a2 a3 a4) (w.setCell ⟨b,5,none⟩ (.bool l)) (iU b a2 a3 a4):=⟨rfl,rfl,rfl,by simp [World.setCell],λk hk hn=>Below.heap_setCell _ _ _ _ (λe=>hn (.inl e)),λ_ h=> .inl h⟩;have hk:=h.kpt hm;obtain ⟨xs,h2,h3⟩:=h.st;exact ⟨⟨h.bx.set5 _,h.n6.set (by omega),h.bl,h.sg.mv hm.more,⟨xs,h2.keep (λg hg=>Below.heap_setCell _ _ _ _ (λe=>h.d2 (by rw [hg];exact congrArg some e))),h3.mv hm.more hk⟩,h.ac.keep (λg hg=>Below.heap_setCell _ _ _ _ (λe=>h.d3 (by rw [hg];exact congrArg some e))),h.wa.keep (λg hg=>Below.heap_setCell _ _ _ _ (λe=>h.d4 (by rw [hg];exact congrArg some e))),h.d2,h.d3,h.d4,h.d23,h.d24,h.d34⟩,hm⟩
theorem PS.set4 (h:PS lo w b p a1 a2 a3 a4) (f:Int):PS lo (w.setCell ⟨b,4,none⟩ (.int .i64 f)) b {p with fnd:=f} a1 a2 a3 a4/\kX w (iU b a2 a3 a4) (w.setCell ⟨b,4,none⟩ (.int .i64 f)) (iU b a2 a3 a4):=by have hm:kX w (iU b a2 a3 a4) (w.setCell ⟨b,4,none⟩ (.int .i64 f)) (iU b a2 a3 a4):=⟨rfl,rfl,rfl,by simp [World.setCell],λk hk hn=>Below.heap_setCell _ _ _ _ (λe=>hn (.inl e)),λ_ h=> .inl h⟩;have hk:=h.kpt hm;obtain ⟨xs,h2,h3⟩:=h.st;exact ⟨⟨h.bx.set4 _,h.n6.set (by omega),h.bl,h.sg.mv hm.more,⟨xs,h2.keep (λg hg=>Below.heap_setCell _ _ _ _ (λe=>h.d2 (by rw [hg];exact congrArg some e))),h3.mv hm.more hk⟩,h.ac.keep (λg hg=>Below.heap_setCell _ _ _ _ (λe=>h.d3 (by rw [hg];exact congrArg some e))),h.wa.keep (λg hg=>Below.heap_setCell _ _ _ _ (λe=>h.d4 (by rw [hg];exact congrArg some e))),h.d2,h.d3,h.d4,h.d23,h.d24,h.d34⟩,hm⟩
theorem PS.wait (h:PS lo w b p a1 a2 a3 a4) {wA:World} {v:Value} {l:List Int} (ho:Rw lo wA 3 1 v l.length (bO l)) (hg:w.grownBy wA a4.ownBlock) (hat:v.ownBlock=a4.ownBlock\/v.ownBlock=some w.heap.size):PS lo (wA.setCell ⟨b,3,none⟩ v) b {p with wai:=l} a1 a2 a3 v/\kX w (iU b a2 a3 a4) (wA.setCell ⟨b,3,none⟩ v) (iU b a2 a3 v):=by
 have hlt:=h.bx.lt;have hst:∀k,k≠b->(wA.setCell ⟨b,3,none⟩ v).heap[k]?=wA.heap[k]?:=λk e=>Below.heap_setCell _ _ _ _ e;have hm:kX w (iU b a2 a3 a4) (wA.setCell ⟨b,3,none⟩ v) (iU b a2 a3 v):=⟨hg.os,hg.tape,hg.output,by simpa [World.setCell] using hg.size,λk hk hn=>(hst k (λe=>hn (.inl e))).trans (hg.block k hk (λe=>hn (.inr (.inr (.inr e.symm))))),λq hq=>by
  rcases hq with e|e|e|e
  · exact .inl (.inl e)
  · exact .inl (.inr (.inl e))
  · exact .inl (.inr (.inr (.inl e)))
  · rcases hat with h1|h1
    · exact .inl (.inr (.inr (.inr (h1▸e))))
    · rw [h1] at e;rw [←Option.some.inj e];exact .inr (Nat.le_refl _)⟩
 have hk:=h.kpt hm;obtain ⟨xs,h2,h3⟩:=h.st;have hb:wA.heap[b]?=w.heap[b]?:=hg.block b hlt (λe=>h.d4 e.symm);have hv:∀g,v.ownBlock=some g->g<w.heap.size->a4.ownBlock=some g:=λg e hl=>by
  rcases hat with h1|h1
  · rw [←h1];exact e
  · rw [h1] at e;have:=Option.some.inj e;omega
 have hvb:v.ownBlock≠some b:=λe=>h.d4 (hv b e hlt);exact ⟨⟨(h.bx.same hb).set3 _,(h.n6.same hb).set (by omega),h.bl,h.sg.mv hm.more,⟨xs,h2.keep (λg e=>(hst g (λe1=>h.d2 (by rw [e,e1]))).trans (hg.block g (aJ h2.1 g e).2 (λe1=>h.d24 g e e1.symm))),h3.mv hm.more hk⟩,h.ac.keep (λg e=>(hst g (λe1=>h.d3 (by rw [e,e1]))).trans (hg.block g (aJ h.ac.1 g e).2 (λe1=>h.d34 g e e1.symm))),ho.keep (λg e=>hst g (λe1=>hvb (by rw [e,e1]))),h.d2,h.d3,hvb,h.d23,λg e e1=>h.d24 g e (hv g e1 (aJ h2.1 g e).2),λg e e1=>h.d34 g e (hv g e1 (aJ h.ac.1 g e).2)⟩,hm⟩
theorem PS.acts (h:PS lo w b p a1 a2 a3 a4) {wA:World} {v:Value} {l:List Int} (ho:Rw lo wA 3 1 v l.length (bO l)) (hg:w.grownBy wA a3.ownBlock) (hat:v.ownBlock=a3.ownBlock\/v.ownBlock=some w.heap.size):PS lo (wA.setCell ⟨b,2,none⟩ v) b {p with act:=l} a1 a2 v a4/\kX w (iU b a2 a3 a4) (wA.setCell ⟨b,2,none⟩ v) (iU b a2 v a4):=by
 have hlt:=h.bx.lt;have hst:∀k,k≠b->(wA.setCell ⟨b,2,none⟩ v).heap[k]?=wA.heap[k]?:=λk e=>Below.heap_setCell _ _ _ _ e;have hm:kX w (iU b a2 a3 a4) (wA.setCell ⟨b,2,none⟩ v) (iU b a2 v a4):=⟨hg.os,hg.tape,hg.output,by simpa [World.setCell] using hg.size,λk hk hn=>(hst k (λe=>hn (.inl e))).trans (hg.block k hk (λe=>hn (.inr (.inr (.inl e.symm))))),λq hq=>by
  rcases hq with e|e|e|e
  · exact .inl (.inl e)
  · exact .inl (.inr (.inl e))
  · rcases hat with h1|h1
    · exact .inl (.inr (.inr (.inl (h1▸e))))
    · rw [h1] at e;rw [←Option.some.inj e];exact .inr (Nat.le_refl _)
  · exact .inl (.inr (.inr (.inr e)))⟩
 have hk:=h.kpt hm;obtain ⟨xs,h2,h3⟩:=h.st;have hb:wA.heap[b]?=w.heap[b]?:=hg.block b hlt (λe=>h.d3 e.symm);have hv:∀g,v.ownBlock=some g->g<w.heap.size->a3.ownBlock=some g:=λg e hl=>by
  rcases hat with h1|h1
  · rw [←h1];exact e
  · rw [h1] at e;have:=Option.some.inj e;omega
 have hvb:v.ownBlock≠some b:=λe=>h.d3 (hv b e hlt);exact ⟨⟨(h.bx.same hb).set2 _,(h.n6.same hb).set (by omega),h.bl,h.sg.mv hm.more,⟨xs,h2.keep (λg e=>(hst g (λe1=>h.d2 (by rw [e,e1]))).trans (hg.block g (aJ h2.1 g e).2 (λe1=>h.d23 g e e1.symm))),h3.mv hm.more hk⟩,ho.keep (λg e=>hst g (λe1=>hvb (by rw [e,e1]))),h.wa.keep (λg e=>(hst g (λe1=>h.d4 (by rw [e,e1]))).trans (hg.block g (aJ h.wa.1 g e).2 (λe1=>h.d34 g e1.symm e))),h.d2,hvb,h.d4,λg e e1=>h.d23 g e (hv g e1 (aJ h2.1 g e).2),h.d24,λg e e1=>h.d34 g (hv g e (aJ h.wa.1 g e1).2) e1⟩,hm⟩
theorem PS.steps (h:PS lo w b p a1 a2 a3 a4) {wA:World} {v:Value} {n:Nat} {x:St} {fv cv:Value} {xs:List Value} (hV:xL (EL lo b a2 a3 a4) w p.sts xs) (hf:iA (EL lo b a2 a3 a4) w x.2.1 fv) (hc:dQ w x.2.2 cv) (hn:n=p.sts.length+1) (ho:Rw lo wA 46 3 v n (xs++[.int .i64 x.1,fv,cv])) (hg:w.grownBy wA a2.ownBlock) (hat:v.ownBlock=a2.ownBlock\/v.ownBlock=some w.heap.size):PS lo (wA.setCell ⟨b,1,none⟩ v) b {p with sts:=p.sts++[x]} a1 v a3 a4/\kX w (iU b a2 a3 a4) (wA.setCell ⟨b,1,none⟩ v) (iU b v a3 a4):=by
 subst hn;have hlt:=h.bx.lt;have hst:∀k,k≠b->(wA.setCell ⟨b,1,none⟩ v).heap[k]?=wA.heap[k]?:=λk e=>Below.heap_setCell _ _ _ _ e;have hm:kX w (iU b a2 a3 a4) (wA.setCell ⟨b,1,none⟩ v) (iU b v a3 a4):=⟨hg.os,hg.tape,hg.output,by simpa [World.setCell] using hg.size,λk hk hn=>(hst k (λe=>hn (.inl e))).trans (hg.block k hk (λe=>hn (.inr (.inl e.symm)))),λq hq=>by
  rcases hq with e|e|e|e
  · exact .inl (.inl e)
  · rcases hat with h1|h1
    · exact .inl (.inr (.inl (h1▸e)))
    · rw [h1] at e;rw [←Option.some.inj e];exact .inr (Nat.le_refl _)
  · exact .inl (.inr (.inr (.inl e)))
  · exact .inl (.inr (.inr (.inr e)))⟩
 have hk:=h.kpt hm;have hb:wA.heap[b]?=w.heap[b]?:=hg.block b hlt (λe=>h.d2 e.symm);have hv:∀g,v.ownBlock=some g->g<w.heap.size->a2.ownBlock=some g:=λg e hl=>by
  rcases hat with h1|h1
  · rw [←h1];exact e
  · rw [h1] at e;have:=Option.some.inj e;omega
 have hvb:v.ownBlock≠some b:=λe=>h.d2 (hv b e hlt);refine ⟨⟨(h.bx.same hb).set1 _,(h.n6.same hb).set (by omega),h.bl,h.sg.mv hm.more,⟨_,?_,xL.app (r:=[x]) ⟨fv,cv,[],rfl,hf.mv hm.more,hk.cin hc,rfl⟩ (hV.mv hm.more hk)⟩,h.ac.keep (λg e=>(hst g (λe1=>h.d3 (by rw [e,e1]))).trans (hg.block g (aJ h.ac.1 g e).2 (λe1=>h.d23 g e1.symm e))),h.wa.keep (λg e=>(hst g (λe1=>h.d4 (by rw [e,e1]))).trans (hg.block g (aJ h.wa.1 g e).2 (λe1=>h.d24 g e1.symm e))),hvb,h.d3,h.d4,λg e e1=>h.d23 g (hv g e (aJ h.ac.1 g e1).2) e1,λg e e1=>h.d24 g (hv g e (aJ h.wa.1 g e1).2) e1,h.d34⟩,hm⟩;have ho':=ho.keep (w':=wA.setCell ⟨b,1,none⟩ v) (λg e=>hst g (λe1=>hvb (by rw [e,e1])));rw [List.length_append];exact ho'
end
end
end Go.Proofs.YtoklbpbmghbhnaeGreat
