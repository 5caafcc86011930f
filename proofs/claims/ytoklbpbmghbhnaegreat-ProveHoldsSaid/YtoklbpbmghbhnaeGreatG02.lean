import Derived.Test.YtoklbpbmghbhnaeGreatG01
import Derived.Deep.AppendLies
namespace Go.Proofs.YtoklbpbmghbhnaeGreat
set_option maxRecDepth 100000
set_option maxHeartbeats 2000000
open Go.RowKit Go.Deep Go.ChangeShapes Go.WideShapes
def xK (w:World):Fo->Nat->Nat->Nat->Nat->Prop
 | .nil,_,_,_,_=>True
 | .node _ _ x k r,b,o,lo,hi=>w.cell? ⟨b,o,none⟩=some (.bool x.1)/\w.cell? ⟨b,o+1,none⟩=some (.int .i64 x.2)/\
  w.frozen? ⟨b,o,none⟩=false/\w.frozen? ⟨b,o+1,none⟩=false/\w.frozen? ⟨b,o+2,none⟩=false/\
  (∃(m g:Nat) (a:Value),lo<=m/\m<=hi/\w.cell? ⟨b,o+2,none⟩=some a/\
   ((k= .nil/\a= .slice none 0 0)\/(lo<=g/\g<m/\0<Fo.len k/\Fo.len k<=1000/\a= .slice (some ⟨g,0,none⟩) (Fo.len k) (Fo.len k)/\xK w k g 0 (g+1) m))/\
   xK w r b (o+3) m hi)
def dK (w:World) (lo hi:Nat) (k:Fo) (a:Value):Prop:=
 (k= .nil/\a= .slice none 0 0)\/∃g,lo<=g/\g<hi/\0<Fo.len k/\Fo.len k<=1000/\a= .slice (some ⟨g,0,none⟩) (Fo.len k) (Fo.len k)/\xK w k g 0 (g+1) hi
theorem xK.toF {w:World}:∀{F:Fo} {b o lo hi:Nat},xK w F b o lo hi->uL w F b o
 | .nil,_,_,_,_,_=>trivial
 | .node _ _ x k r,b,o,lo,hi,⟨h0,h1,_,_,_,m,g,a,_,_,h2,h3,h4⟩=>by
  refine uL.mk h0 h1 h2 ?_ h4.toF;rcases h3 with ⟨rfl,rfl⟩|⟨_,_,_,hl,rfl,hk⟩
  · exact ⟨none,0,0,0,rfl,λh=>by simp [Fo.len] at h,Nat.le_refl _,Nat.zero_le _,trivial⟩
  · exact ⟨_,_,g,0,rfl,λ_=>rfl,Nat.le_refl _,by unfold maxLen;omega,hk.toF⟩
theorem dK.toS {w:World} {lo hi:Nat} {k:Fo} {a:Value} (h:dK w lo hi k a):cO w k a:=by
 rcases h with ⟨rfl,rfl⟩|⟨g,_,_,_,hl,rfl,hk⟩
 · exact ⟨none,0,0,0,rfl,λh=>by simp [Fo.len] at h,Nat.le_refl _,Nat.zero_le _,trivial⟩
 · exact ⟨_,_,g,0,rfl,λ_=>rfl,Nat.le_refl _,by unfold maxLen;omega,hk.toF⟩
def zN (X:Nat->Prop) (w:World):Fo->Nat->Nat->Prop
 | .nil,_,_=>True
 | .node _ _ x k r,b,o=>w.cell? ⟨b,o,none⟩=some (.bool x.1)/\w.cell? ⟨b,o+1,none⟩=some (.int .i64 x.2)/\
  (∃(a:Option Addr) (c b' o':Nat),w.cell? ⟨b,o+2,none⟩=some (.slice a (Fo.len k) c)/\(0<Fo.len k->a=some ⟨b',o',none⟩/\X b')/\Fo.len k<=c/\c<=maxLen/\zN X w k b' o')/\zN X w r b (o+3)
def SB (X:Nat->Prop) (w:World) (k:Fo) (v:Value):Prop:=
 ∃(a:Option Addr) (c b o:Nat),v= .slice a (Fo.len k) c/\(0<Fo.len k->a=some ⟨b,o,none⟩/\X b)/\Fo.len k<=c/\c<=maxLen/\zN X w k b o
theorem zN.toF {X:Nat->Prop} {w:World}:∀{F:Fo} {b o:Nat},zN X w F b o->uL w F b o
 | .nil,_,_,_=>trivial
 | .node _ _ _ _ _,_,_,⟨h0,h1,⟨a,c,b',o',h2,h3,h4,h5,h6⟩,h7⟩=>⟨h0,h1,⟨a,c,b',o',h2,λh=>(h3 h).1,h4,h5,h6.toF⟩,h7.toF⟩
theorem SB.toS {X:Nat->Prop} {w:World} {k:Fo} {v:Value} (h:SB X w k v):cO w k v:=by obtain ⟨a,c,b,o,h1,h2,h3,h4,h5⟩:=h;exact ⟨a,c,b,o,h1,λh=>(h2 h).1,h3,h4,h5.toF⟩
theorem SB.nil (X:Nat->Prop) (w:World):SB X w .nil (.slice none 0 0):=⟨none,0,0,0,rfl,λh=>by simp [Fo.len] at h,Nat.le_refl _,Nat.zero_le _,trivial⟩
theorem zN.frame {X Y:Nat->Prop} {w w':World} (wJ:∀q,X q->Y q) (hr:∀q i,X q->w'.cell? ⟨q,i,none⟩=w.cell? ⟨q,i,none⟩):∀{F:Fo} {b o:Nat},zN X w F b o->(0<Fo.len F->X b)->zN Y w' F b o
 | .nil,_,_,_,_=>trivial
 | .node _ _ x k r,b,o,⟨h0,h1,⟨a,c,b',o',h2,h3,h4,h5,h6⟩,h7⟩,hb=>by have hX:=hb (by simp [Fo.len]);exact ⟨(hr b o hX).trans h0,(hr b _ hX).trans h1,⟨a,c,b',o',(hr b _ hX).trans h2,λh=>⟨(h3 h).1,wJ _ (h3 h).2⟩,h4,h5,zN.frame wJ hr h6 (λh=>(h3 h).2)⟩,zN.frame wJ hr h7 (λ_=>hX)⟩
theorem SB.frame {X Y:Nat->Prop} {w w':World} {k:Fo} {v:Value} (h:SB X w k v) (wJ:∀q,X q->Y q) (hr:∀q i,X q->w'.cell? ⟨q,i,none⟩=w.cell? ⟨q,i,none⟩):SB Y w' k v:=by obtain ⟨a,c,b,o,h1,h2,h3,h4,h5⟩:=h;exact ⟨a,c,b,o,h1,λh=>⟨(h2 h).1,wJ _ (h2 h).2⟩,h3,h4,zN.frame wJ hr h5 (λh=>(h2 h).2)⟩
abbrev New (w w':World):Nat->Prop:=λq=>w.heap.size<=q/\q<w'.heap.size
theorem zN.mk {X:Nat->Prop} {w:World} {p q:Nat} {x:Bool×Int} {k r:Fo} {b o:Nat} {v:Value} (h0:w.cell? ⟨b,o,none⟩=some (.bool x.1)) (h1:w.cell? ⟨b,o+1,none⟩=some (.int .i64 x.2))
 (h2:w.cell? ⟨b,o+2,none⟩=some v) (h3:SB X w k v) (h4:zN X w r b (o+3)):zN X w (.node p q x k r) b o:=by
 obtain ⟨a,c,b',o',rfl,h5,h6,h7,h8⟩:=h3;exact ⟨h0,h1,⟨a,c,b',o',h2,h5,h6,h7,h8⟩,h4⟩
theorem xK.toB {w:World} {X:Nat->Prop}:∀{F:Fo} {b o lo hi:Nat},(∀q,lo<=q->q<hi->X q)->xK w F b o lo hi->zN X w F b o
 | .nil,_,_,_,_,_,_=>trivial
 | .node _ _ x k r,b,o,lo,hi,hX,⟨h0,h1,_,_,_,m,g,a,hm1,hm2,h2,h3,h4⟩=>by
  refine zN.mk h0 h1 h2 ?_ (xK.toB (λq q1 q2=>hX q (by omega) q2) h4);rcases h3 with ⟨rfl,rfl⟩|⟨e1,e2,_,hl,rfl,hk⟩
  · exact SB.nil X w
  · exact ⟨_,_,g,0,rfl,λ_=>⟨rfl,hX g (by omega) (by omega)⟩,Nat.le_refl _,by unfold maxLen;omega,xK.toB (λq q1 q2=>hX q (by omega) (by omega)) hk⟩
theorem dK.toB {w:World} {X:Nat->Prop} {lo hi:Nat} {k:Fo} {a:Value} (hX:∀q,lo<=q->q<hi->X q) (h:dK w lo hi k a):SB X w k a:=by
 rcases h with ⟨rfl,rfl⟩|⟨g,e1,e2,_,hl,rfl,hk⟩
 · exact SB.nil X w
 · exact ⟨_,_,g,0,rfl,λ_=>⟨rfl,hX g e1 e2⟩,Nat.le_refl _,by unfold maxLen;omega,xK.toB (λq q1 q2=>hX q (by omega) q2) hk⟩
theorem xK.frame {w w':World}:∀{F:Fo} {b o lo hi:Nat},xK w F b o lo hi->
 (∀i,o<=i->i<o+3*Fo.len F->w'.cell? ⟨b,i,none⟩=w.cell? ⟨b,i,none⟩/\w'.frozen? ⟨b,i,none⟩=w.frozen? ⟨b,i,none⟩)->
 (∀q i,lo<=q->q<hi->w'.cell? ⟨q,i,none⟩=w.cell? ⟨q,i,none⟩/\w'.frozen? ⟨q,i,none⟩=w.frozen? ⟨q,i,none⟩)->xK w' F b o lo hi
 | .nil,_,_,_,_,_,_,_=>trivial
 | .node _ _ x k r,b,o,lo,hi,⟨h0,h1,f0,f1,f2,m,g,a,hm1,hm2,h2,h3,h4⟩,hc,hr=>by
  have hl:Fo.len (.node 0 0 x k r)=Fo.len r+1:=rfl;have c0:=hc o (by omega) (by simp only [Fo.len];omega);have c1:=hc (o+1) (by omega) (by simp only [Fo.len];omega);have c2:=hc (o+2) (by omega) (by simp only [Fo.len];omega);refine ⟨c0.1.trans h0,c1.1.trans h1,c0.2.trans f0,c1.2.trans f1,c2.2.trans f2,m,g,a,hm1,hm2,c2.1.trans h2,?_,?_⟩
  · rcases h3 with h3|⟨e1,e2,e3,e4,e5,hk⟩
    · exact .inl h3
    · exact .inr ⟨e1,e2,e3,e4,e5,hk.frame (λi _ _=>hr g i (by omega) (by omega)) (λq i q1 q2=>hr q i (by omega) (by omega))⟩
  · exact h4.frame (λi i1 i2=>hc i (by omega) (by simp only [Fo.len];omega)) (λq i q1 q2=>hr q i (by omega) q2)
theorem xK.mono {w:World}:∀{F:Fo} {b o lo hi lo' hi':Nat},xK w F b o lo hi->lo'<=lo->hi<=hi'->lo<=hi->xK w F b o lo' hi'
 | .nil,_,_,_,_,_,_,_,_,_,_=>trivial
 | .node _ _ x k r,b,o,lo,hi,lo',hi',⟨h0,h1,f0,f1,f2,m,g,a,hm1,hm2,h2,h3,h4⟩,e1,e2,e3=>by
  refine ⟨h0,h1,f0,f1,f2,m,g,a,by omega,by omega,h2,?_,h4.mono (Nat.le_refl _) e2 hm2⟩;rcases h3 with h3|⟨q1,q2,q3,q4,q5,hk⟩
  · exact .inl h3
  · exact .inr ⟨by omega,q2,q3,q4,q5,hk⟩
theorem dK.frame {w w':World} {lo hi:Nat} {k:Fo} {a:Value} (h:dK w lo hi k a)
 (hr:∀q i,lo<=q->q<hi->w'.cell? ⟨q,i,none⟩=w.cell? ⟨q,i,none⟩/\w'.frozen? ⟨q,i,none⟩=w.frozen? ⟨q,i,none⟩):dK w' lo hi k a:=by
 rcases h with h|⟨g,e1,e2,e3,e4,e5,hk⟩
 · exact .inl h
 · exact .inr ⟨g,e1,e2,e3,e4,e5,hk.frame (λi _ _=>hr g i e1 e2) (λq i q1 q2=>hr q i (by omega) q2)⟩
theorem dK.mono {w:World} {lo hi lo' hi':Nat} {k:Fo} {a:Value} (h:dK w lo hi k a) (h1:lo'<=lo) (h2:hi<=hi'):dK w lo' hi' k a:=by
 rcases h with h|⟨g,e1,e2,e3,e4,e5,hk⟩
 · exact .inl h
 · exact .inr ⟨g,by omega,by omega,e3,e4,e5,hk.mono (Nat.le_refl _) h2 (by omega)⟩
def Fo.take:Nat->Fo->Fo
 |0,_=> .nil
 |_+1,.nil=> .nil
 |j+1,.node p q x k r=> .node p q x k (Fo.take j r)
theorem JF:∀(j:Nat) (k:Fo),j<=Fo.len k->Fo.len (Fo.take j k)=j
 |0,_,_=>rfl
 |j+1,.nil,h=>by simp [Fo.len] at h
 |j+1,.node _ _ _ _ r,h=>by simp only [Fo.take,Fo.len];rw [JF j r (by simpa [Fo.len] using h)]
theorem pQ:∀(k:Fo),Fo.take (Fo.len k) k=k
 | .nil=>rfl
 | .node _ _ _ _ r=>by simp only [Fo.len,Fo.take];rw [pQ r]
theorem xK.snoc {w:World}:∀{j:Nat} {F:Fo} {x:Bool×Int} {k:Fo} {b o lo mid hi:Nat} {a:Value},F.list[j]?=some (x,k)->xK w (Fo.take j F) b o lo mid->lo<=mid->mid<=hi->
 w.cell? ⟨b,o+3*j,none⟩=some (.bool x.1)->w.cell? ⟨b,o+3*j+1,none⟩=some (.int .i64 x.2)->w.cell? ⟨b,o+3*j+2,none⟩=some a->
 w.frozen? ⟨b,o+3*j,none⟩=false->w.frozen? ⟨b,o+3*j+1,none⟩=false->w.frozen? ⟨b,o+3*j+2,none⟩=false->dK w mid hi k a->xK w (Fo.take (j+1) F) b o lo hi
 |_,.nil,_,_,_,_,_,_,_,_,h,_,_,_,_,_,_,_,_,_,_=>by simp [Fo.list] at h
 |0,.node _ _ y l r,x,k,b,o,lo,mid,hi,a,h,_,m1,m2,c0,c1,c2,f0,f1,f2,hO=>by
  simp only [Fo.list,List.getElem?_cons_zero,Option.some.injEq,Prod.mk.injEq] at h;obtain ⟨rfl,rfl⟩:=h;rcases hO with ⟨rfl,rfl⟩|⟨g,e1,e2,e3,e4,rfl,hk⟩
  · exact ⟨c0,c1,f0,f1,f2,hi,0,_,by omega,by omega,c2,.inl ⟨rfl,rfl⟩,trivial⟩
  · exact ⟨c0,c1,f0,f1,f2,hi,g,_,by omega,by omega,c2,.inr ⟨by omega,by omega,e3,e4,rfl,hk⟩,trivial⟩
 |j+1,.node _ _ y l r,x,k,b,o,lo,mid,hi,a,h,⟨h0,h1,g0,g1,g2,m,g,a',hm1,hm2,h2,h3,h4⟩,m1,m2,c0,c1,c2,f0,f1,f2,hO=>by
  refine ⟨h0,h1,g0,g1,g2,m,g,a',hm1,by omega,h2,h3,?_⟩;have e:o+3+3*j=o+3*(j+1):=by omega
  exact xK.snoc (j:=j) (F:=r) (by simpa [Fo.list] using h) h4 hm2 m2 (by rw [e];exact c0) (by rw [e];exact c1) (by rw [e];exact c2) (by rw [e];exact f0) (by rw [e];exact f1) (by rw [e];exact f2) hO
def Fo.narrow:Fo->Prop
 | .nil=>True
 | .node _ _ _ k r=>Fo.len k<=1000/\Fo.narrow k/\Fo.narrow r
theorem pF:∀{F:Fo} {j:Nat} {x:Bool×Int} {k:Fo},Fo.narrow F->F.list[j]?=some (x,k)->Fo.len k<=1000/\Fo.narrow k
 | .nil,_,_,_,_,h=>by simp [Fo.list] at h
 | .node _ _ y l r,0,x,k,hn,h=>by simp only [Fo.list,List.getElem?_cons_zero,Option.some.injEq,Prod.mk.injEq] at h;obtain ⟨rfl,rfl⟩:=h;exact ⟨hn.1,hn.2.1⟩
 | .node _ _ y l r,j+1,x,k,hn,h=>pF (F:=r) hn.2.2 (by simpa [Fo.list] using h)
theorem Tryz.info84:(Tryz.prog.info? 84).map (λi=>(i.zero,i.size,i.bytes))=some (some (.agg #[.bool false,.int .i64 0,.slice none 0 0]),3,40):=by kernel_rfl
def qL (w:World) (g n:Nat):Prop:=∀i,i<n->(∃v,w.cell? ⟨g,i,none⟩=some v)/\w.frozen? ⟨g,i,none⟩=false
theorem aX {w:World} {a b:Addr} {v:Value} (h:a≠b):(w.setCell a v).cell? b=w.cell? b:=by apply World.cell?_setCell_other;exact h
theorem fK {w:World} {a:Addr} {u v:Value} (h:w.cell? a=some u):(w.setCell a v).cell? a=some v:=by apply World.cell?_setCell_same;exact h
theorem nN (w:World) (c:Array Value) (t:TypeId) (i:Nat):(w.alloc (.cells c t)).frozen? ⟨w.heap.size,i,none⟩=false:=by simp
def set3 (w:World) (b o:Nat) (x y z:Value):World:=((w.setCell ⟨b,o,none⟩ x).setCell ⟨b,o+1,none⟩ y).setCell ⟨b,o+2,none⟩ z
theorem aS {w:World} {b o:Nat} {x y z:Value} {q i:Nat} (h:q≠b\/i<o\/o+3<=i):(set3 w b o x y z).cell? ⟨q,i,none⟩=w.cell? ⟨q,i,none⟩:=by unfold set3;rw [aX (by intro e;simp only [Addr.mk.injEq] at e;omega),aX (by intro e;simp only [Addr.mk.injEq] at e;omega),aX (by intro e;simp only [Addr.mk.injEq] at e;omega)]
theorem aQ {w:World} {b o:Nat} {x y z:Value} {q:Addr}:(set3 w b o x y z).frozen? q=w.frozen? q:=by simp [set3]
theorem bQ {w:World} {b o:Nat} {x y z:Value}:(set3 w b o x y z).heap.size=w.heap.size:=by simp [set3,World.setCell]
theorem kJ {w:World} {b o:Nat} {x y z u0 u1 u2:Value} (h0:w.cell? ⟨b,o,none⟩=some u0) (h1:w.cell? ⟨b,o+1,none⟩=some u1) (h2:w.cell? ⟨b,o+2,none⟩=some u2):
 (set3 w b o x y z).cell? ⟨b,o,none⟩=some x/\(set3 w b o x y z).cell? ⟨b,o+1,none⟩=some y/\(set3 w b o x y z).cell? ⟨b,o+2,none⟩=some z:=by
 have e1:(⟨b,o,none⟩:Addr)≠⟨b,o+1,none⟩:=by intro e;simp only [Addr.mk.injEq] at e;omega
 have e2:(⟨b,o,none⟩:Addr)≠⟨b,o+2,none⟩:=by intro e;simp only [Addr.mk.injEq] at e;omega
 have e3:(⟨b,o+1,none⟩:Addr)≠⟨b,o+2,none⟩:=by intro e;simp only [Addr.mk.injEq] at e;omega
 unfold set3;refine ⟨?_,?_,?_⟩
 · rw [aX e2.symm,aX e1.symm,fK h0]
 · rw [aX e3.symm];exact fK (by rw [aX e1];exact h1)
 · exact fK (by rw [aX e3,aX e2];exact h2)
theorem aT {B:Nat} {w w1:World} {b o:Nat} {x y z:Value} (h:Below B w w1) (hb:B<=b):Below B w (set3 w1 b o x y z):=((h.setCell hb _).setCell hb _).setCell hb _
def IZ (w W2:World) (k:Fo) (j:Nat) (wr:World):Prop:=
 Below (w.heap.size+2) W2 wr/\qL wr (w.heap.size+2) (Fo.len k*3)/\xK wr (Fo.take j k) (w.heap.size+2) 0 (w.heap.size+3) wr.heap.size/\w.heap.size+3<=wr.heap.size
theorem aI5 {w W2 wr w2:World} {k:Fo} {j:Nat} {yv:Bool} {yn:Int} {yk:Fo} {ob:Obj} {a:Value} (h:IZ w W2 k j wr) (hj:j<Fo.len k) (hy:k.list[j]?=some ((yv,yn),yk))
 (hb:Below (wr.heap.size+1) (wr.alloc ob) w2) (hO:dK w2 (wr.heap.size+1) w2.heap.size yk a):
 IZ w W2 k (j+1) (set3 w2 (w.heap.size+2) (j*3) (.bool yv) (.int .i64 yn) a):=by
 obtain ⟨hB,hT,hW,hs⟩:=h;have hsz:wr.heap.size+1<=w2.heap.size:=by have:=hb.size;simpa using this
 have keep:∀q i,q<wr.heap.size->w2.cell? ⟨q,i,none⟩=wr.cell? ⟨q,i,none⟩/\w2.frozen? ⟨q,i,none⟩=wr.frozen? ⟨q,i,none⟩:=λq i hq=>by rw [hb.cell (by show q<_;omega),hb.frozen (by show q<_;omega)];exact ⟨World.cell?_alloc_lt _ _ _ hq,(aD wr ob).frozen (p:=⟨q,i,none⟩) hq⟩
 have F7:qL w2 (w.heap.size+2) (Fo.len k*3):=λi hi=>by obtain ⟨⟨v,hv⟩,hf⟩:=hT i hi;have:=keep (w.heap.size+2) i (by omega);exact ⟨⟨v,this.1.trans hv⟩,this.2.trans hf⟩
 obtain ⟨⟨u0,e0⟩,f0⟩:=F7 (j*3) (by omega);obtain ⟨⟨u1,e1⟩,f1⟩:=F7 (j*3+1) (by omega);obtain ⟨⟨u2,e2⟩,f2⟩:=F7 (j*3+2) (by omega);obtain ⟨g0,g1,g2⟩:=kJ (x:= .bool yv) (y:= .int .i64 yn) (z:=a) e0 e1 e2;refine ⟨aT (hB.trans ((aW (hb.mono (by simp))).mono (by omega))) (Nat.le_refl _),?_,?_,by rw [bQ];omega⟩
 · intro i hi;obtain ⟨⟨v,hv⟩,hf⟩:=F7 i hi;refine ⟨?_,by rw [aQ];exact hf⟩;by_cases hc:i<j*3\/j*3+3<=i
   · exact ⟨v,by rw [aS (.inr hc)];exact hv⟩
   · have:i=j*3\/i=j*3+1\/i=j*3+2:=by omega
     rcases this with rfl|rfl|rfl
     · exact ⟨_,g0⟩
     · exact ⟨_,g1⟩
     · exact ⟨_,g2⟩
 · rw [bQ];have e:j*3=0+3*j:=by omega
   refine xK.snoc (mid:=wr.heap.size) (a:=a) hy (hW.frame ?_ ?_) hs (by omega) (by rw [←e];exact g0) (by rw [←e];exact g1) (by rw [←e];exact g2) (by rw [aQ,←e];exact f0) (by rw [aQ,←e];exact f1) (by rw [aQ,←e];exact f2) ?_
   · intro i _ hi;rw [JF j k (by omega)] at hi;rw [aS (.inr (.inl (by omega))),aQ];exact keep _ _ (by omega)
   · intro q i q1 q2;rw [aS (.inl (by omega)),aQ];exact keep _ _ q2
   · refine (hO.mono (by omega) (Nat.le_refl _)).frame ?_;intro q i q1 q2;rw [aS (.inl (by omega)),aQ];exact ⟨rfl,rfl⟩
theorem aFA (w W2:World) (k:Fo) (z:Array Value) (h2:W2.heap.size=w.heap.size+2):IZ w W2 k 0 (W2.alloc (.cells (madeCells z (Fo.len k*3)) 84)):=by
 refine ⟨(Below.refl _ _).alloc (by omega) _,λi hi=>⟨?_,?_⟩,trivial,by simp;omega⟩
 · rw [←h2,World.cell?_alloc_new];exact ⟨_,Array.getElem?_eq_getElem (by rw [size_madeCells];exact hi)⟩
 · rw [←h2];exact nN _ _ _ _
theorem aL1 {w W2 wr w':World} {k:Fo} (h:IZ w W2 k (Fo.len k) wr) (h0:0<Fo.len k) (h1:Fo.len k<=1000) (hs:w'.heap.size=wr.heap.size)
 (hc:∀q i,w.heap.size+2<=q->w'.cell? ⟨q,i,none⟩=wr.cell? ⟨q,i,none⟩/\w'.frozen? ⟨q,i,none⟩=wr.frozen? ⟨q,i,none⟩):
 dK w' w.heap.size w'.heap.size k (.slice (some ⟨w.heap.size+2,0,none⟩) (Fo.len k) (Fo.len k)):=by
 obtain ⟨_,_,hW,hsz⟩:=h;rw [pQ] at hW;rw [hs];exact .inr ⟨w.heap.size+2,by omega,by omega,h0,h1,rfl,hW.frame (λi _ _=>hc _ _ (by omega)) (λq i q1 q2=>hc _ _ (by omega))⟩
def aDK (x:Bool×Int) (k:Fo):Prop:=∀(a:Value) (w:World),cO w k a->Fo.len k<=1000->Fo.narrow k->
 Calls Tryz.prog 170 #[.agg #[.bool x.1,.int .i64 x.2,a]] w λe w'=>∃a',e= .returned (.agg #[.bool x.1,.int .i64 x.2,a'])/\dK w' w.heap.size w'.heap.size k a'/\Below w.heap.size w w'
theorem R4 (x:Bool×Int) (k:Fo):aDK x k:=by
 refine Fo.ind1 (p:=aDK) ?_ x k;clear x k;intro x k ih a w hS hlen hnar;obtain ⟨v,n⟩:=x;obtain ⟨ad,c,b,o,rfl,had,hlc,hcm,hF⟩:=hS;have Hl:=aB (Fo.len_list k);have HI:=aB ih;have HF:=aB hF;have sU:=aB hnar;clear ih hF hnar;unfold maxLen at hcm;by_cases h0:Fo.len k=0
 · have h0':((Fo.len k:Int)==0)=true:=by simp [h0]
   have Hk:=aB (pU h0);clear h0;go_enter Tryz.func170,Tryz.ntmps170
   go_wp2_with fail
   refine bodyPost_ret (v:= .agg #[.bool v,.int .i64 n,.slice none 0 0]) (by simp [results,Tryz.results170,go_sem]) rfl ⟨_,rfl,.inl ⟨Hk.out,rfl⟩,?_⟩;exact (aD _ _).alloc (by simp) _
 · have h0':((Fo.len k:Int)==0)=false:=by simp [h0]
   have ha:ad=some ⟨b,o,none⟩:=had (by omega);subst ha;clear h0 had;obtain ⟨i26,hi,hz0,hz1,hz2⟩:=info_parts Tryz.info84;have hmk:=λw:World=>run_make (P:=Tryz.prog) w 82 84 i26 _ Tryz.underlying82 hi hz0 .i64 .i64 (Fo.len k:Int) (Fo.len k:Int) (by omega) (by omega) (by rw [hz2];omega) (by omega);rw [hz1] at hmk;simp only [Int.toNat_natCast] at hmk;go_enter Tryz.func170,Tryz.ntmps170
   go_wp2_with fail
   clear hmk hi hz0 hz1 hz2;generalize hW2:(w.alloc (.cells #[.bool v,.int .i64 n,.slice (some ⟨b,o,none⟩) (Fo.len k) c] 84)).alloc (.cells #[.bool false,.int .i64 0,.slice none 0 0] 84)=W2;have hs2:W2.heap.size=w.heap.size+2:=by rw [←hW2];simp
   have HB2:Hid (Below w.heap.size w W2):=by rw [←hW2];exact (aD _ _).alloc (by simp) _
   have q0:W2.cell? ⟨w.heap.size,0,none⟩=some (.bool v):=by rw [←hW2];simp
   have q1:W2.cell? ⟨w.heap.size,1,none⟩=some (.int .i64 n):=by rw [←hW2];simp
   have q2:W2.cell? ⟨w.heap.size,2,none⟩=some (.slice (some ⟨b,o,none⟩) (Fo.len k) c):=by rw [←hW2];simp
   have fz:∀q i,q<W2.heap.size->w.heap.size<=q->W2.frozen? ⟨q,i,none⟩=false:=λq i h1 h2=>by
    rw [hs2] at h1;have:q=w.heap.size\/q=w.heap.size+1:=by omega
    rw [←hW2];rcases this with rfl|rfl
    · rw [(aD _ _).frozen (by simp)];exact nN _ _ _ _
    · simp
   have r0:W2.cell? ⟨w.heap.size+1,0,none⟩=some (.bool false):=by rw [←hW2];simp
   have r1:W2.cell? ⟨w.heap.size+1,1,none⟩=some (.int .i64 0):=by rw [←hW2];simp
   have r2:W2.cell? ⟨w.heap.size+1,2,none⟩=some (.slice none 0 0):=by rw [←hW2];simp
   have HQ:=aB (And.intro q0 (And.intro q1 (And.intro q2 (And.intro r0 (And.intro r1 r2)))));have yB:=aB fz;have sO:=aB hs2;clear q0 q1 q2 r0 r1 r2 fz hs2 hW2
   go_loopw [19] (λi wr=>∃j:Nat,j<=Fo.len k/\i= .int .i64 j/\IZ w W2 k j wr) (λi _=>Fo.len k - (intOf i).toNat)
   case atStart=>exact ⟨0,Nat.zero_le _,rfl,aFA w W2 k _ sO.out⟩
   case round=>
    obtain ⟨j,hj,rfl,hR⟩:=hrel;have HR:=aB hR;obtain ⟨hB,hT,-,hsz⟩:=hR;have HB:=aB hB;have hBw:Below w.heap.size w wr:=HB2.out.trans (hB.mono (by omega));by_cases hlt:j<Fo.len k
    · have hlt':(j:Int)<(Fo.len k:Int):=by omega
      obtain ⟨⟨⟨yv,yn⟩,yk⟩,hy⟩:∃y,k.list[j]?=some y:=⟨k.list[j]'(by rw [Hl.out];exact hlt),by simp⟩;obtain ⟨c0,c1,bB,c2,kW⟩:=(HF.out.below hBw).at hy;have HS:=aB kW;obtain ⟨ya,yc,yb,yo,rfl,-,-,-,-⟩:=kW;have NH:=aB (pF sU.out hy);have Hy:=aB hy;obtain ⟨⟨t0,e0⟩,f0⟩:=hT (j*3) (by omega);obtain ⟨⟨t1,e1⟩,f1⟩:=hT (j*3+1) (by omega);obtain ⟨⟨t2,e2⟩,f2⟩:=hT (j*3+2) (by omega);clear hy hT hB
      go_wp2_with fail
      refine (HI.out ((yv,yn),yk) (List.mem_of_getElem? Hy.out) _ _ (HS.out.alloc _) NH.out.1 NH.out.2).mono ?_;rintro e w2 ⟨a',rfl,hO2,hb2⟩;have hb2':Below (wr.heap.size+1) (wr.alloc (.cells #[.bool yv,.int .i64 yn,.slice ya (Fo.len yk) yc] 84)) w2:=by simpa using hb2
      have aRA:dK w2 (wr.heap.size+1) w2.heap.size yk a':=by simpa using hO2
      have fQ:=aB (aI5 HR.out hlt Hy.out hb2' aRA);have hb3:=aW hb2;have e0':=aA hb3 _ _ e0;have e1':=aA hb3 _ _ e1;have e2':=aA hb3 _ _ e2;have f0':w2.frozen? ⟨w.heap.size+2,j*3,none⟩=false:=(hb3.frozen (by show w.heap.size+2<_;omega)).trans f0;have f1':w2.frozen? ⟨w.heap.size+2,j*3+1,none⟩=false:=(hb3.frozen (by show w.heap.size+2<_;omega)).trans f1;have f2':w2.frozen? ⟨w.heap.size+2,j*3+2,none⟩=false:=(hb3.frozen (by show w.heap.size+2<_;omega)).trans f2;have hza:∃za zl zc,a'= .slice za zl zc:=by
       rcases hO2 with ⟨_,rfl⟩|⟨g,_,_,_,_,rfl,_⟩
       · exact ⟨_,_,_,rfl⟩
       · exact ⟨_,_,_,rfl⟩
      obtain ⟨za,zl,zc,hza⟩:=hza;subst hza;clear hb2 hb2' hO2 aRA hb3 e0 e1 e2 f0 f1 f2 hBw
      go_wp2_with fail
      go_roundw
      case rel=>exact ⟨j+1,by omega,by go_num,fQ.out⟩
      case measure=>simp [intOf];omega
    · have lK:j=Fo.len k:=by omega
      subst lK;have hs2:=sO.out;obtain ⟨q0,q1,q2,r0,r1,r2⟩:=HQ.out;have p0:wr.cell? ⟨w.heap.size,0,none⟩=some (.bool v):=(HB.out.cell (by show w.heap.size<_;omega)).trans q0;have p1:wr.cell? ⟨w.heap.size,1,none⟩=some (.int .i64 n):=(HB.out.cell (by show w.heap.size<_;omega)).trans q1;have p2:wr.cell? ⟨w.heap.size,2,none⟩=some (.slice (some ⟨b,o,none⟩) (Fo.len k) c):=(HB.out.cell (by show w.heap.size<_;omega)).trans q2;have s0:wr.cell? ⟨w.heap.size+1,0,none⟩=some (.bool false):=(HB.out.cell (by show w.heap.size+1<_;omega)).trans r0;have s1:wr.cell? ⟨w.heap.size+1,1,none⟩=some (.int .i64 0):=(HB.out.cell (by show w.heap.size+1<_;omega)).trans r1;have s2:wr.cell? ⟨w.heap.size+1,2,none⟩=some (.slice none 0 0):=(HB.out.cell (by show w.heap.size+1<_;omega)).trans r2;have z0:wr.frozen? ⟨w.heap.size,2,none⟩=false:=(HB.out.frozen (by show w.heap.size<_;omega)).trans (yB.out _ _ (by omega) (by omega));have z1:wr.frozen? ⟨w.heap.size+1,0,none⟩=false:=(HB.out.frozen (by show w.heap.size+1<_;omega)).trans (yB.out _ _ (by omega) (by omega));have z2:wr.frozen? ⟨w.heap.size+1,1,none⟩=false:=(HB.out.frozen (by show w.heap.size+1<_;omega)).trans (yB.out _ _ (by omega) (by omega));have z3:wr.frozen? ⟨w.heap.size+1,2,none⟩=false:=(HB.out.frozen (by show w.heap.size+1<_;omega)).trans (yB.out _ _ (by omega) (by omega));clear q0 q1 q2 r0 r1 r2 hs2 hT hB
      go_wp2_with fail
      have e2:∀q i,w.heap.size+2<=q->((⟨w.heap.size,2,none⟩:Addr)≠⟨q,i,none⟩/\∀j,(⟨w.heap.size+1,j,none⟩:Addr)≠⟨q,i,none⟩):=λq i hq=>⟨by intro e;simp only [Addr.mk.injEq] at e;omega,λj e=>by simp only [Addr.mk.injEq] at e;omega⟩;refine bodyPost_ret (v:= .agg #[.bool v,.int .i64 n,.slice (some ⟨w.heap.size+2,0,none⟩) (Fo.len k) (Fo.len k)]) (by simp [results,Tryz.results170,go_sem,s0,s1,s2]) rfl ⟨_,rfl,?_,?_⟩
      · refine aL1 HR.out (by simp at h0';omega) hlen (by simp [World.setCell]) λq i hq=>⟨?_,by simp⟩;rw [aX ((e2 q i hq).2 _),aX ((e2 q i hq).2 _),aX ((e2 q i hq).2 _),aX (e2 q i hq).1]
      · exact (((hBw.setCell (Nat.le_refl _) _).setCell (by simp) _).setCell (by simp) _).setCell (by simp) _
def ZK (w:World) (b o:Nat) (x:Bool×Int) (k:Fo):Prop:=
 w.cell? ⟨b,o,none⟩=some (.bool x.1)/\w.cell? ⟨b,o+1,none⟩=some (.int .i64 x.2)/\∃v,w.cell? ⟨b,o+2,none⟩=some v/\cO w k v
theorem ZK.below {w w':World} (hb:Below w.heap.size w w') {b o:Nat} {x:Bool×Int} {k:Fo} (h:ZK w b o x k):ZK w' b o x k:=by obtain ⟨h0,h1,v,h2,h3⟩:=h;exact ⟨aA hb _ _ h0,aA hb _ _ h1,v,aA hb _ _ h2,h3.below hb⟩
def l6:List Int->Bool×Int->Fo->Option ((Bool×Int)×Fo)
 |[],x,k=>some (x,k)
 |n::p,x,k=>if x.1=true\/n<0\/(Fo.len k:Int)<=n then none else match k.list[n.toNat]? with
  |some y=>l6 p y.1 y.2
  |none=>none
def MF (w:World):List Int->Nat->Nat->Nat->Nat->Prop
 |[],b,o,c,d=>c=b/\d=o
 |n::p,b,o,c,d=>∃(g off len bW:Nat),w.cell? ⟨b,o+2,none⟩=some (.slice (some ⟨g,off,none⟩) len bW)/\0<=n/\n<(len:Int)/\MF w p g (off+n.toNat*3) c d
theorem MF.snoc {w:World} {n:Int} {c d g off len bW:Nat} (hc:w.cell? ⟨c,d+2,none⟩=some (.slice (some ⟨g,off,none⟩) len bW)) (h0:0<=n) (h1:n<(len:Int)):
 ∀{p:List Int} {b o:Nat},MF w p b o c d->MF w (p++[n]) b o g (off+n.toNat*3)
 |[],b,o,⟨e1,e2⟩=>by subst e1 e2;exact ⟨g,off,len,bW,hc,h0,h1,rfl,rfl⟩
 |m::p,b,o,⟨g',off',len',cap',q1,q2,q3,q4⟩=>⟨g',off',len',cap',q1,q2,q3,MF.snoc hc h0 h1 q4⟩
theorem pV {n:Int} {p:List Int} {x:Bool×Int} {k:Fo} {y:(Bool×Int)×Fo} (hx:x.1=false) (h0:0<=n) (hy:k.list[n.toNat]?=some y) (h1:n<(Fo.len k:Int)):l6 (n::p) x k=l6 p y.1 y.2:=by rw [l6,if_neg (by simp [hx];omega),hy]
theorem BU {n:Int} {p:List Int} {x:Bool×Int} {k:Fo} (h:x.1=true\/n<0\/(Fo.len k:Int)<=n):l6 (n::p) x k=none:=by rw [l6,if_pos h]
theorem aF3 {p:List Int} {j:Nat} (h:j<p.length):p.drop j=p.getD j 0::p.drop (j+1):=by rw [List.drop_eq_getElem_cons h];simp [List.getD_eq_getElem?_getD,h]
theorem aEL {p:List Int} {j:Nat} (h:j<p.length):p.take (j+1)=p.take j++[p.getD j 0]:=by rw [List.take_add_one];simp [List.getD_eq_getElem?_getD,h]
theorem WS (x:Bool×Int) (k:Fo) (b o:Nat) (p:List Int) (pv:Value) (w:World) (hT:ZK w b o x k) (hN:iK w p pv):
 Calls Tryz.prog 171 #[.pointer (some ⟨b,o,none⟩),pv] w λe w'=>Below w.heap.size w w'/\
  ((l6 p x k=none/\e= .returned (.pointer none))\/∃cb co y l,l6 p x k=some (y,l)/\e= .returned (.pointer (some ⟨cb,co,none⟩))/\MF w p b o cb co/\ZK w cb co y l):=by
 obtain ⟨pa,pc,pb,po,rfl,Y7,aGR,UH,QB⟩:=hN;unfold maxLen at UH;have HT:=aB hT;have HpF:=aB QB
 have bP:Hid (∀e w',Below w.heap.size w w'->((l6 p x k=none/\e=Ending.returned (.pointer none))\/∃cb co y l,l6 p x k=some (y,l)/\e=Ending.returned (.pointer (some ⟨cb,co,none⟩))/\MF w p b o cb co/\ZK w cb co y l)->(Below w.heap.size w w'/\
  ((l6 p x k=none/\e=Ending.returned (.pointer none))\/∃cb co y l,l6 p x k=some (y,l)/\e=Ending.returned (.pointer (some ⟨cb,co,none⟩))/\MF w p b o cb co/\ZK w cb co y l))):=λ_ _ h1 h2=>⟨h1,h2⟩
 clear hT QB;go_enter Tryz.func171,Tryz.ntmps171
 go_wp2_with fail
 go_loopw [0,10] (λt i wr=>∃(j cb co:Nat) (y:Bool×Int) (l:Fo),j<=p.length/\i= .int .i64 j/\t= .pointer (some ⟨cb,co,none⟩)/\MF w (p.take j) b o cb co/\ZK w cb co y l/\l6 p x k=l6 (p.drop j) y l/\Below w.heap.size w wr) (λ_ i _=>p.length - (intOf i).toNat)
 case atStart=>exact ⟨0,b,o,x,k,Nat.zero_le _,rfl,rfl,⟨rfl,rfl⟩,HT.out,rfl,Below.refl _ _⟩
 case round=>
  obtain ⟨j,cb,co,⟨yv,yn⟩,l,hj,rfl,rfl,hL,hTy,hat,hBr⟩:=hrel;have HL:=aB hL;have HTy:=aB hTy;have ZP:=aB hat
  clear hL hat
  by_cases hlt:j<p.length
  · have hlt':(j:Int)<(p.length:Int):=by omega
    have ha:pa=some ⟨pb,po,none⟩:=Y7 (by omega);subst ha;have hcell:=aA hBr _ _ (HpF.out j hlt);obtain ⟨c0,c1,v2,c2,hS⟩:=hTy.below hBr;have aB9:=aB (aF3 hlt);have aSG:=aB (aEL hlt);have cZ:=aB hTy.2.2;obtain ⟨la,lc,lb,lo,rfl,hla,aTE,aOF,hlF⟩:=hS;unfold maxLen at aOF;generalize p.getD j 0=n at*;clear hTy hlF Y7;cases yv
    · by_cases hn0:n<0
      · have FH:Hid (l6 p x k=none):=by rw [Hid,ZP.out,aB9.out];exact BU (.inr (.inl hn0))
        go_wp2_with (go_at_call 156;refine (iN _ _ _ _).mono ?_;rintro e w1 ⟨rfl,hb1⟩)
        go_ret;exact bP.out _ _ (aC hBr hb1) (.inl ⟨FH.out,rfl⟩)
      by_cases hnl:(Fo.len l:Int)<=n
      · have FH:Hid (l6 p x k=none):=by rw [Hid,ZP.out,aB9.out];exact BU (.inr (.inr hnl))
        go_wp2_with (go_at_call 156;refine (iN _ _ _ _).mono ?_;rintro e w1 ⟨rfl,hb1⟩)
        go_ret;exact bP.out _ _ (aC hBr hb1) (.inl ⟨FH.out,rfl⟩)
      have aGU:0<=n:=by omega
      have aOC:n<(Fo.len l:Int):=by omega
      have ha:la=some ⟨lb,lo,none⟩:=hla (by omega);subst ha;obtain ⟨⟨⟨zv,zn⟩,zk⟩,hz⟩:∃y,l.list[n.toNat]?=some y:=⟨l.list[n.toNat]'(by rw [Fo.len_list];omega),by simp⟩;have aKY:Hid (l6 p x k=l6 (p.drop (j+1)) (zv,zn) zk):=by rw [Hid,ZP.out,aB9.out];exact pV rfl aGU hz aOC
      have aDZ:Hid (MF w (p.take (j+1)) b o lb (lo+n.toNat*3)/\ZK w lb (lo+n.toNat*3) (zv,zn) zk):=by obtain ⟨v',d2,hS'⟩:=cZ.out;have e:=aA hBr _ _ d2;rw [c2] at e;cases e;obtain ⟨ma,mc,mb,mo,hm1,hm2,hm3,hm4,hm5⟩:=hS';simp only [Value.slice.injEq] at hm1;have:=hm2 (by omega);rw [←hm1.1] at this;simp only [Option.some.injEq,Addr.mk.injEq] at this;obtain ⟨rfl,rfl,_⟩:=this;refine ⟨by rw [aSG.out];exact MF.snoc d2 aGU aOC HL.out,?_⟩;obtain ⟨g0,g1,g2⟩:=hm5.at hz;exact ⟨g0,g1,g2⟩
      clear hla hz
      go_wp2_with (go_at_call 156;refine (iN _ _ _ _).mono ?_;rintro e w1 ⟨rfl,hb1⟩)
      go_roundw
      case rel=>exact ⟨j+1,lb,lo+n.toNat*3,(zv,zn),zk,by omega,by go_num,rfl,aDZ.out.1,aDZ.out.2,aKY.out,aC hBr hb1⟩
      case measure=>simp [intOf];omega
    · have FH:Hid (l6 p x k=none):=by rw [Hid,ZP.out,aB9.out];exact BU (.inl rfl)
      by_cases hn0:n<0
      · go_wp2_with (go_at_call 156;refine (iN _ _ _ _).mono ?_;rintro e w1 ⟨rfl,hb1⟩)
        go_ret;exact bP.out _ _ (aC hBr hb1) (.inl ⟨FH.out,rfl⟩)
      · have aGU:0<=n:=by omega
        go_wp2_with (go_at_call 156;refine (iN _ _ _ _).mono ?_;rintro e w1 ⟨rfl,hb1⟩)
        go_ret;exact bP.out _ _ (aC hBr hb1) (.inl ⟨FH.out,rfl⟩)
  · have dC:Hid (l6 p x k=some ((yv,yn),l)/\MF w p b o cb co):=by
     have e:j=p.length:=by omega
     have h1:=ZP.out;have h2:=HL.out;rw [e,List.drop_length] at h1;rw [e,List.take_length] at h2;exact ⟨h1,h2⟩
    go_wp2_with fail
    go_ret;exact bP.out _ _ hBr (.inr ⟨cb,co,_,_,dC.out.1,rfl,dC.out.2,HTy.out⟩)
def fF:Fo->Nat->((Bool×Int)×Fo->(Bool×Int)×Fo)->Fo
 | .nil,_,_=> .nil
 | .node p q x k r,0,f=> .node p q (f (x,k)).1 (f (x,k)).2 r
 | .node p q x k r,i+1,f=> .node p q x k (fF r i f)
def dM:List Int->(Bool×Int)×Fo->(Bool×Int)×Fo->(Bool×Int)×Fo
 |[],_,u=>u
 |n::p,t,u=>if t.1.1=true\/n<0\/(Fo.len t.2:Int)<=n then t else (t.1,fF t.2 n.toNat (λs=>dM p s u))
theorem mO:∀(F:Fo) (i:Nat) (f:(Bool×Int)×Fo->(Bool×Int)×Fo),Fo.len (fF F i f)=Fo.len F
 | .nil,_,_=>rfl
 | .node _ _ _ _ _,0,_=>rfl
 | .node _ _ _ _ r,i+1,f=>by simp [fF,Fo.len,mO r i f]
theorem oG {n:Int} {p:List Int} {x:Bool×Int} {k:Fo} {z:(Bool×Int)×Fo} (h:l6 (n::p) x k=some z):x.1=false/\0<=n/\n<(Fo.len k:Int)/\∃y,k.list[n.toNat]?=some y/\l6 p y.1 y.2=some z:=by
 by_cases hc:x.1=true\/n<0\/(Fo.len k:Int)<=n
 · rw [BU hc] at h;cases h
 · have h1:x.1=false:=by cases hx:x.1<;>simp_all
   have h2:0<=n:=by omega
   have h3:n<(Fo.len k:Int):=by omega
   obtain ⟨y,hy⟩:∃y,k.list[n.toNat]?=some y:=⟨k.list[n.toNat]'(by rw [Fo.len_list];omega),by simp⟩;rw [pV h1 h2 hy h3] at h;exact ⟨h1,h2,h3,y,hy,h⟩
def aRY (w w':World) (c d:Nat) (S:Nat->Nat->Prop):Prop:=
 (∀q i,S q i->(q≠c\/i<d\/d+3<=i)->w'.cell? ⟨q,i,none⟩=w.cell? ⟨q,i,none⟩)/\∀q i,w'.frozen? ⟨q,i,none⟩=w.frozen? ⟨q,i,none⟩
def TB (X:Nat->Prop) (w:World) (b o:Nat) (x:Bool×Int) (k:Fo):Prop:=
 w.cell? ⟨b,o,none⟩=some (.bool x.1)/\w.cell? ⟨b,o+1,none⟩=some (.int .i64 x.2)/\∃v,w.cell? ⟨b,o+2,none⟩=some v/\SB X w k v
def aDJ (X:Nat->Prop) (w w':World) (u:(Bool×Int)×Fo) (p:List Int):Prop:=∀(x:Bool×Int) (k:Fo) (b o:Nat) (a:Value) (lo hi c d:Nat) (z:(Bool×Int)×Fo),
 w.cell? ⟨b,o,none⟩=some (.bool x.1)->w.cell? ⟨b,o+1,none⟩=some (.int .i64 x.2)->w.cell? ⟨b,o+2,none⟩=some a->dK w lo hi k a->(b<lo\/hi<=b)->(∀q,lo<=q->q<hi->X q)->l6 p x k=some z->MF w p b o c d->
 aRY w w' c d (λq i=>(q=b/\o<=i/\i<o+3)\/(lo<=q/\q<hi))->TB X w' c d u.1 u.2->
 TB X w' b o (dM p (x,k) u).1 (dM p (x,k) u).2/\((c=b/\d=o)\/(lo<=c/\c<hi))
theorem KZ {X:Nat->Prop} {w w':World} {u:(Bool×Int)×Fo} {p:List Int} (ih:aDJ X w w' u p):∀(F:Fo) (g o lo hi i c d:Nat) (y z:(Bool×Int)×Fo),
 xK w F g o lo hi->(g<lo\/hi<=g)->(∀q,lo<=q->q<hi->X q)->F.list[i]?=some y->l6 p y.1 y.2=some z->MF w p g (o+3*i) c d->
 aRY w w' c d (λq j=>(q=g/\o<=j/\j<o+3*Fo.len F)\/(lo<=q/\q<hi))->TB X w' c d u.1 u.2->
 zN X w' (fF F i (λs=>dM p s u)) g o/\((c=g/\o<=d/\d+3<=o+3*Fo.len F)\/(lo<=c/\c<hi))
 | .nil,_,_,_,_,_,_,_,_,_,_,_,_,h,_,_,_,_=>by simp [Fo.list] at h
 | .node _ _ x k r,g,o,lo,hi,0,c,d,y,z,⟨h0,h1,f0,f1,f2,m,g',a,hm1,hm2,h2,h3,h4⟩,hg,hX,hy,hat,hL,hB,hT=>by
  simp only [Fo.list,List.getElem?_cons_zero,Option.some.injEq] at hy;subst hy;have hO:dK w lo m k a:=by
   rcases h3 with h3|⟨e1,e2,e3,e4,e5,e6⟩
   · exact .inl h3
   · exact .inr ⟨g',e1,e2,e3,e4,e5,e6⟩
  obtain ⟨hT',hloc⟩:=ih x k g o a lo m c d z h0 h1 h2 hO (by omega) (λq q1 q2=>hX q q1 (by omega)) hat (by simpa using hL)
   ⟨λq i hq hi=>hB.1 q i (by simp only [Fo.len];omega) hi,hB.2⟩ hT
  refine ⟨?_,by simp only [Fo.len];omega⟩;obtain ⟨t0,t1,v,t2,t3⟩:=hT';refine zN.mk t0 t1 t2 t3 (xK.toB (lo:=m) (hi:=hi) (λq q1 q2=>hX q (by omega) q2) (h4.frame ?_ ?_))
  · exact λi i1 i2=>⟨hB.1 g i (.inl ⟨rfl,by omega,by simp only [Fo.len];omega⟩) (by omega),hB.2 _ _⟩
  · exact λq i q1 q2=>⟨hB.1 q i (by omega) (by omega),hB.2 _ _⟩
 | .node _ _ x k r,g,o,lo,hi,i+1,c,d,y,z,⟨h0,h1,f0,f1,f2,m,g',a,hm1,hm2,h2,h3,h4⟩,hg,hX,hy,hat,hL,hB,hT=>by
  have hO:dK w lo m k a:=by
   rcases h3 with h3|⟨e1,e2,e3,e4,e5,e6⟩
   · exact .inl h3
   · exact .inr ⟨g',e1,e2,e3,e4,e5,e6⟩
  obtain ⟨hF,hloc⟩:=KZ ih r g (o+3) m hi i c d y z h4 (by omega) (λq q1 q2=>hX q (by omega) q2) (by simpa [Fo.list] using hy) hat (by rw [show o+3+3*i=o+3*(i+1) by omega];exact hL)
   ⟨λq j hq hj=>hB.1 q j (by simp only [Fo.len];omega) hj,hB.2⟩ hT
  refine ⟨?_,by simp only [Fo.len];omega⟩;refine zN.mk ((hB.1 g o (.inl ⟨rfl,by omega,by simp only [Fo.len];omega⟩) (by omega)).trans h0) ((hB.1 g (o+1) (.inl ⟨rfl,by omega,by simp only [Fo.len];omega⟩) (by omega)).trans h1) ((hB.1 g (o+2) (.inl ⟨rfl,by omega,by simp only [Fo.len];omega⟩) (by omega)).trans h2) ?_ hF;exact dK.toB (lo:=lo) (hi:=m) (λq q1 q2=>hX q q1 (by omega)) (hO.frame λq j q1 q2=>⟨hB.1 q j (by omega) (by omega),hB.2 _ _⟩)
theorem V4 {X:Nat->Prop} {w w':World} {u:(Bool×Int)×Fo}:∀p:List Int,aDJ X w w' u p
 |[],x,k,b,o,a,lo,hi,c,d,z,h0,h1,h2,hO,hb,hX,hat,hL,hB,hT=>by obtain ⟨rfl,rfl⟩:=hL;exact ⟨hT,.inl ⟨rfl,rfl⟩⟩
 |n::p,x,k,b,o,a,lo,hi,c,d,z,h0,h1,h2,hO,hb,hX,hat,hL,hB,hT=>by
  obtain ⟨hx,hn0,hn1,y,hy,hat'⟩:=oG hat
  rcases hO with ⟨rfl,rfl⟩|⟨g,e1,e2,e3,e4,rfl,hk⟩
  · simp [Fo.len] at hn1;omega
  obtain ⟨g',off,len,bW,hc,_,_,hL'⟩:=hL;rw [h2] at hc;simp only [Option.some.injEq,Value.slice.injEq,Addr.mk.injEq] at hc;obtain ⟨⟨rfl,rfl,_⟩,rfl,rfl⟩:=hc
  obtain ⟨hF,hloc⟩:=KZ (V4 p) k g 0 (g+1) hi n.toNat c d y z hk (by omega) (λq q1 q2=>hX q (by omega) q2) hy hat' (by rw [show 0+3*n.toNat=0+n.toNat*3 by omega];exact hL')
   ⟨λq j hq hj=>hB.1 q j (by omega) hj,hB.2⟩ hT
  refine ⟨?_,by omega⟩;have e:dM (n::p) (x,k) u=(x,fF k n.toNat (λs=>dM p s u)):=by rw [dM,if_neg (by simp [hx];omega)]
  rw [e];refine ⟨(hB.1 b o (by omega) (by omega)).trans h0,(hB.1 b (o+1) (by omega) (by omega)).trans h1,_,(hB.1 b (o+2) (by omega) (by omega)).trans h2,?_⟩;exact ⟨_,_,g,0,by rw [mO],λ_=>⟨rfl,hX g e1 e2⟩,by rw [mO];exact Nat.le_refl _,by unfold maxLen;omega,hF⟩
theorem xK.at {w:World}:∀{F:Fo} {b o lo hi i:Nat} {x:Bool×Int} {k:Fo},xK w F b o lo hi->F.list[i]?=some (x,k)->
 ∃lo' hi' a,lo<=lo'/\hi'<=hi/\w.cell? ⟨b,o+3*i+2,none⟩=some a/\w.frozen? ⟨b,o+3*i,none⟩=false/\w.frozen? ⟨b,o+3*i+1,none⟩=false/\w.frozen? ⟨b,o+3*i+2,none⟩=false/\dK w lo' hi' k a
 | .nil,_,_,_,_,_,_,_,_,h=>by simp [Fo.list] at h
 | .node _ _ y k' r,b,o,lo,hi,0,x,k,⟨_,_,f0,f1,f2,m,g,a,hm1,hm2,h2,h3,_⟩,h=>by
  simp only [Fo.list,List.getElem?_cons_zero,Option.some.injEq,Prod.mk.injEq] at h;obtain ⟨rfl,rfl⟩:=h;refine ⟨lo,m,a,Nat.le_refl _,hm2,h2,f0,f1,f2,?_⟩;rcases h3 with h3|⟨e1,e2,e3,e4,e5,e6⟩
  · exact .inl h3
  · exact .inr ⟨g,e1,e2,e3,e4,e5,e6⟩
 | .node _ _ y k' r,b,o,lo,hi,i+1,x,k,⟨_,_,_,_,_,m,_,_,hm1,hm2,_,_,h4⟩,h=>by
  obtain ⟨lo',hi',a,q1,q2,q3,q4,q5,q6,q7⟩:=xK.at (i:=i) h4 (by simpa [Fo.list] using h);have e:o+3+3*i=o+3*(i+1):=by omega
  rw [e] at q3 q4 q5 q6;exact ⟨lo',hi',a,by omega,q2,q3,q4,q5,q6,q7⟩
theorem WJ {w:World}:∀(p:List Int) (x:Bool×Int) (k:Fo) (b o:Nat) (a:Value) (lo hi c d:Nat) (z:(Bool×Int)×Fo),
 w.cell? ⟨b,o+2,none⟩=some a->w.frozen? ⟨b,o,none⟩=false->w.frozen? ⟨b,o+1,none⟩=false->w.frozen? ⟨b,o+2,none⟩=false->dK w lo hi k a->l6 p x k=some z->MF w p b o c d->
 w.frozen? ⟨c,d,none⟩=false/\w.frozen? ⟨c,d+1,none⟩=false/\w.frozen? ⟨c,d+2,none⟩=false/\((c=b/\d=o)\/(lo<=c/\c<hi))
 |[],_,_,_,_,_,_,_,_,_,_,_,f0,f1,f2,_,_,⟨e1,e2⟩=>by subst e1 e2;exact ⟨f0,f1,f2,.inl ⟨rfl,rfl⟩⟩
 |n::p,x,k,b,o,a,lo,hi,c,d,z,h2,_,_,_,hO,hat,hL=>by
  obtain ⟨hx,hn0,hn1,⟨y,l⟩,hy,hat'⟩:=oG hat
  rcases hO with ⟨rfl,rfl⟩|⟨g,e1,e2,e3,e4,rfl,hk⟩
  · simp [Fo.len] at hn1;omega
  obtain ⟨g',off,len,bW,hc,_,_,hL'⟩:=hL;rw [h2] at hc;simp only [Option.some.injEq,Value.slice.injEq,Addr.mk.injEq] at hc;obtain ⟨⟨rfl,rfl,_⟩,rfl,rfl⟩:=hc;obtain ⟨lo',hi',a',q1,q2,q3,q4,q5,q6,q7⟩:=hk.at hy;have e:0+3*n.toNat=0+n.toNat*3:=by omega
  rw [e] at q3 q4 q5 q6;obtain ⟨r1,r2,r3,r4⟩:=WJ p y l g (0+n.toNat*3) a' lo' hi' c d z q3 q4 q5 q6 q7 hat' hL';exact ⟨r1,r2,r3,by omega⟩
theorem aE7 {p:List Int} {t u:(Bool×Int)×Fo}:l6 p t.1 t.2=none->dM p t u=t:=by
 induction p generalizing t with
 |nil=>intro h;cases h
 |cons n p ih=>
  intro h;rw [dM];by_cases hc:t.1.1=true\/n<0\/(Fo.len t.2:Int)<=n
  · rw [if_pos hc]
  · rw [if_neg hc];have h1:t.1.1=false:=by cases hx:t.1.1<;>simp_all
    obtain ⟨y,hy⟩:∃y,t.2.list[n.toNat]?=some y:=⟨t.2.list[n.toNat]'(by rw [Fo.len_list];omega),by simp⟩;rw [pV h1 (by omega) hy (by omega)] at h;have e:=ih h;have:∀(F:Fo) (i:Nat),F.list[i]?=some y->fF F i (λs=>dM p s u)=F:=by
     intro F;induction F with
     |nil=>intro i hi;rfl
     |node a b x k r _ ihr=>
      intro i hi;cases i with
      |zero=>simp only [Fo.list,List.getElem?_cons_zero,Option.some.injEq] at hi;subst hi;simp only [fF,e]
      |succ i=>simp only [fF];rw [ihr i (by simpa [Fo.list] using hi)]
    rw [this t.2 n.toNat hy]
theorem zI:∀{p:List Int} {x:Bool×Int} {k:Fo} {y:Bool×Int} {l:Fo},Fo.len k<=1000->Fo.narrow k->l6 p x k=some (y,l)->Fo.len l<=1000/\Fo.narrow l
 |[],_,_,_,_,h1,h2,h=>by cases h;exact ⟨h1,h2⟩
 |n::p,_,_,_,_,h1,h2,h=>by obtain ⟨_,_,_,⟨y,l⟩,hy,hat⟩:=oG h;obtain ⟨q1,q2⟩:=pF h2 hy;exact zI q1 q2 hat
theorem aCM {w:World} {x:Bool×Int} {k:Fo} {a:Value} (h:cO w k a):ZK (w.alloc (.cells #[.bool x.1,.int .i64 x.2,a] 84)) w.heap.size 0 x k:=
 ⟨by simp,by simp,a,by simp,h.alloc _⟩
theorem aQD (x:Bool×Int) (k:Fo) (a:Value) (p:List Int) (pv:Value) (w:World) (hS:cO w k a) (hN:iK w p pv) (hl:Fo.len k<=1000) (hn:Fo.narrow k):
 Calls Tryz.prog 168 #[.agg #[.bool x.1,.int .i64 x.2,a],pv] w λe w'=>Below w.heap.size w w'/\
  ((l6 p x k=none/\e= .returned (.tuple #[.agg #[.bool false,.int .i64 0,.slice none 0 0],.bool false]))\/
   ∃y l a',l6 p x k=some (y,l)/\e= .returned (.tuple #[.agg #[.bool y.1,.int .i64 y.2,a'],.bool true])/\SB (New w w') w' l a'):=by
 obtain ⟨v,n⟩:=x;have HS:=aB hS;have HN:=aB hN;have Hn:=aB hn;obtain ⟨ad,c,b,o,rfl,-,-,-,-⟩:=hS;obtain ⟨pa,pc,pb,po,rfl,-,-,-,-⟩:=hN;clear hn;go_enter Tryz.func168,Tryz.ntmps168
 go_wp2_with fail
 refine (WS (v,n) k w.heap.size 0 p _ _ ((aCM HS.out).below (aD _ _)) ((HN.out.alloc _).alloc _)).mono ?_;rintro e w1 ⟨hb1,h1⟩;have hb1':Below (w.heap.size+2) ((w.alloc (.cells #[.bool v,.int .i64 n,.slice ad (Fo.len k) c] 84)).alloc (.cells #[.bool false,.int .i64 0,.slice none 0 0] 84)) w1:=by simpa using hb1
 have hBw:Below w.heap.size w w1:=aW (aW hb1);have r0:w1.cell? ⟨w.heap.size+1,0,none⟩=some (.bool false):=by rw [hb1'.cell (by simp)];simp
 have r1:w1.cell? ⟨w.heap.size+1,1,none⟩=some (.int .i64 0):=by rw [hb1'.cell (by simp)];simp
 have r2:w1.cell? ⟨w.heap.size+1,2,none⟩=some (.slice none 0 0):=by rw [hb1'.cell (by simp)];simp
 have z0:∀i,w1.frozen? ⟨w.heap.size+1,i,none⟩=false:=λi=>by rw [hb1'.frozen (by simp)];simp
 have hsz:w.heap.size+2<=w1.heap.size:=by have:=hb1'.size;simpa using this
 rcases h1 with ⟨hat,rfl⟩|⟨cb,co,⟨yv,yn⟩,l,hat,rfl,hL,hT⟩
 · have ZP:=aB hat
   clear hat hb1 hb1'
   go_wp2_with fail
   refine bodyPost_ret (v:= .tuple #[.agg #[.bool false,.int .i64 0,.slice none 0 0],.bool false]) (by simp [results,Tryz.results168,go_sem,r0,r1,r2]) rfl ⟨?_,.inl ⟨ZP.out,rfl⟩⟩;exact ((hBw.setCell (by simp) _).setCell (by simp) _).setCell (by simp) _
 · have ZP:=aB hat
   obtain ⟨t0,t1,v',t2,hSl⟩:=hT.below hb1;have HSl:=aB hSl;obtain ⟨la,lc,lb,lo,rfl,-,-,-,-⟩:=hSl;clear hat hL hT hb1 hb1'
   go_wp2_with fail
   refine (R4 (yv,yn) l _ _ HSl.out (zI hl Hn.out ZP.out).1 (zI hl Hn.out ZP.out).2).mono ?_;rintro e w2 ⟨a',rfl,hO2,hb2⟩;have r0':=aA hb2 _ _ r0;have r1':=aA hb2 _ _ r1;have r2':=aA hb2 _ _ r2;have z0':∀i,w2.frozen? ⟨w.heap.size+1,i,none⟩=false:=λi=>by rw [hb2.frozen (by show w.heap.size+1<_;omega)];exact z0 i
   have hza:∃za zl zc,a'= .slice za zl zc:=by
    rcases hO2 with ⟨_,rfl⟩|⟨g,_,_,_,_,rfl,_⟩
    · exact ⟨_,_,_,rfl⟩
    · exact ⟨_,_,_,rfl⟩
   obtain ⟨za,zl,zc,hza⟩:=hza;subst hza;have GU:=aB hO2;have hB2:=aC hBw hb2;clear hO2 r0 r1 r2 z0
   go_wp2_with fail
   refine bodyPost_ret (v:= .tuple #[.agg #[.bool yv,.int .i64 yn,.slice za zl zc],.bool true]) (by simp [results,Tryz.results168,go_sem,r0',r1',r2']) rfl ⟨?_,.inr ⟨(yv,yn),l,_,ZP.out,rfl,?_⟩⟩
   · exact ((hB2.setCell (by simp) _).setCell (by simp) _).setCell (by simp) _
   · refine dK.toB (lo:=w1.heap.size) (hi:=w2.heap.size) (λq q1 q2=>⟨by omega,by simp [World.setCell];exact q2⟩) (GU.out.frame λq i q1 q2=>?_);exact ⟨aS (w:=w2) (b:=w.heap.size+1) (o:=0) (.inl (by omega)),by simp⟩
theorem MF.below {w w':World} (hb:Below w.heap.size w w'):∀{p:List Int} {b o c d:Nat},MF w p b o c d->MF w' p b o c d
 |[],_,_,_,_,h=>h
 |_::_,_,_,_,_,⟨g,off,len,bW,h1,h2,h3,h4⟩=>⟨g,off,len,bW,aA hb _ _ h1,h2,h3,MF.below hb h4⟩
theorem aLX {w7 w':World} {p:List Int} {x:Bool×Int} {k:Fo} {y:Bool×Int} {l:Fo} {z:(Bool×Int)×Fo} {a b:Value} {B lo hi lo2 hi2 c d:Nat} {X0 X1 X2:Value} {X:Nat->Prop}
 (hX:∀q,lo<=q->q<hi->X q) (hX2:∀q,lo2<=q->q<hi2->X q) (t0:w7.cell? ⟨B,0,none⟩=some (.bool x.1)) (t1:w7.cell? ⟨B,1,none⟩=some (.int .i64 x.2)) (t2:w7.cell? ⟨B,2,none⟩=some a) (hO:dK w7 lo hi k a) (hB:hi<=B) (hlB:lo<=B) (hat:l6 p x k=some z) (hL:MF w7 p B 0 c d)
 (hO2:dK w7 lo2 hi2 l b) (hlo:B<lo2) (hc:c<=B)
 (g0:w'.cell? ⟨c,d,none⟩=some (.bool y.1)) (g1:w'.cell? ⟨c,d+1,none⟩=some (.int .i64 y.2)) (g2:w'.cell? ⟨c,d+2,none⟩=some b)
 (hk:∀q i,lo<=q->(q≠c\/i<d\/d+3<=i)->w'.cell? ⟨q,i,none⟩=w7.cell? ⟨q,i,none⟩) (hf:∀q i,w'.frozen? ⟨q,i,none⟩=w7.frozen? ⟨q,i,none⟩)
 (e0:w'.cell? ⟨B,0,none⟩=some X0) (e1:w'.cell? ⟨B,1,none⟩=some X1) (e2:w'.cell? ⟨B,2,none⟩=some X2):
 X0= .bool (dM p (x,k) (y,l)).1.1/\X1= .int .i64 (dM p (x,k) (y,l)).1.2/\SB X w' (dM p (x,k) (y,l)).2 X2:=by
 obtain ⟨h0,h1,v,h2,h3⟩:=(V4 (X:=X) (w:=w7) (w':=w') (u:=(y,l)) p x k B 0 a lo hi c d z t0 t1 t2 hO (.inr hB) hX hat hL ⟨λq i hS hq=>hk q i (by omega) hq,hf⟩ ⟨g0,g1,b,g2,
  dK.toB (lo:=lo2) (hi:=hi2) hX2 (hO2.frame λq i q1 q2=>⟨hk q i (by omega) (.inl (by omega)),hf q i⟩)⟩).1
 simp only [Nat.zero_add] at h0 h1 h2;rw [e0] at h0;rw [e1] at h1;rw [e2] at h2;exact ⟨Option.some.inj h0,Option.some.inj h1,by rw [Option.some.inj h2];exact h3⟩
theorem aLY (x:Bool×Int) (k:Fo) (a:Value) (p:List Int) (pv:Value) (y:Bool×Int) (l:Fo) (c:Value) (w:World) (hS:cO w k a) (hN:iK w p pv) (hS2:cO w l c)
 (hl:Fo.len k<=1000) (hn:Fo.narrow k) (hl2:Fo.len l<=1000) (hn2:Fo.narrow l):
 Calls Tryz.prog 150 #[.agg #[.bool x.1,.int .i64 x.2,a],pv,.agg #[.bool y.1,.int .i64 y.2,c]] w λe w'=>Below w.heap.size w w'/\
  ∃a',e= .returned (.agg #[.bool (dM p (x,k) (y,l)).1.1,.int .i64 (dM p (x,k) (y,l)).1.2,a'])/\SB (New w w') w' (dM p (x,k) (y,l)).2 a':=by
 obtain ⟨v,n⟩:=x;obtain ⟨yv,yn⟩:=y;have HS:=aB hS;have HS2:=aB hS2;have HN:=aB hN;have Hn:=aB hn;have Hn2:=aB hn2;obtain ⟨ad,cc,b,o,rfl,-,-,-,-⟩:=hS;obtain ⟨ad2,c2,b2,o2,rfl,-,-,-,-⟩:=hS2;obtain ⟨pa,pc,pb,po,rfl,-,-,-,-⟩:=hN;clear hn hn2;go_enter Tryz.func150,Tryz.ntmps150
 go_wp2_with fail
 generalize hW3:((w.alloc (.cells #[.bool v,.int .i64 n,.slice ad (Fo.len k) cc] 84)).alloc (.cells #[.bool yv,.int .i64 yn,.slice ad2 (Fo.len l) c2] 84)).alloc (.cells #[.bool false,.int .i64 0,.slice none 0 0] 84)=W3;have hs3:W3.heap.size=w.heap.size+3:=by rw [←hW3];simp
 have hB3:Below w.heap.size w W3:=by rw [←hW3];exact ((aD _ _).alloc (by simp) _).alloc (by simp;omega) _
 have q0:W3.cell? ⟨w.heap.size+1,0,none⟩=some (.bool yv):=by rw [←hW3,World.cell?_alloc_lt _ _ _ (by simp)];simp
 have q1:W3.cell? ⟨w.heap.size+1,1,none⟩=some (.int .i64 yn):=by rw [←hW3,World.cell?_alloc_lt _ _ _ (by simp)];simp
 have q2:W3.cell? ⟨w.heap.size+1,2,none⟩=some (.slice ad2 (Fo.len l) c2):=by rw [←hW3,World.cell?_alloc_lt _ _ _ (by simp)];simp
 have r0:W3.cell? ⟨w.heap.size+1+1,0,none⟩=some (.bool false):=by rw [←hW3,World.cell?_alloc_at _ _ _ _ (by simp)];rfl
 have r1:W3.cell? ⟨w.heap.size+1+1,1,none⟩=some (.int .i64 0):=by rw [←hW3,World.cell?_alloc_at _ _ _ _ (by simp)];rfl
 have r2:W3.cell? ⟨w.heap.size+1+1,2,none⟩=some (.slice none 0 0):=by rw [←hW3,World.cell?_alloc_at _ _ _ _ (by simp)];rfl
 have z0:∀i,W3.frozen? ⟨w.heap.size+1+1,i,none⟩=false:=λi=>by rw [←hW3,World.frozen?_alloc_at _ _ _ _ (by simp)]
 clear hW3;refine (R4 (v,n) k _ _ (HS.out.below hB3) hl Hn.out).mono ?_;rintro e w4 ⟨a1,rfl,hO4,hb4⟩;have hs4:=hb4.size;have hza:∃za zl zc,a1= .slice za zl zc:=by
  rcases hO4 with ⟨_,rfl⟩|⟨g,_,_,_,_,rfl,_⟩
  · exact ⟨_,_,_,rfl⟩
  · exact ⟨_,_,_,rfl⟩
 obtain ⟨za,zl,zc,hza⟩:=hza;subst hza;have hB4:=aC hB3 hb4;have QJ:=aB hO4;clear hO4
 go_wp2_with fail
 refine (WS (v,n) k w4.heap.size 0 p _ _ (aCM QJ.out.toS) ((HN.out.below hB4).alloc _)).mono ?_;rintro e w6 ⟨hb6,h6⟩;have UJ:Below (w4.heap.size+1) (w4.alloc (.cells #[.bool v,.int .i64 n,.slice za zl zc] 84)) w6:=by simpa using hb6
 obtain ⟨t0,t1,t2,aGY,hs6⟩:=nI UJ;have hB6:=aC hB4 aGY;have UK:=aC hb4 aGY;have q0':=aA UK _ _ q0;have q1':=aA UK _ _ q1;have q2':=aA UK _ _ q2;have r0':=aA UK _ _ r0;have r1':=aA UK _ _ r1;have r2':=aA UK _ _ r2;have z0':∀i,w6.frozen? ⟨w.heap.size+1+1,i,none⟩=false:=λi=>by rw [UK.frozen (by show w.heap.size+1+1<_;omega)];exact z0 i
 have HO6:Hid (dK w6 W3.heap.size w4.heap.size k (.slice za zl zc)):=QJ.out.frame λq i _ q2=>⟨aGY.cell q2,aGY.frozen q2⟩;have f6:∀i,w6.frozen? ⟨w4.heap.size,i,none⟩=false:=λi=>by rw [UJ.frozen (by simp)];simp
 clear q0 q1 q2 r0 r1 r2 z0;rcases h6 with ⟨hat,rfl⟩|⟨cb,co,zy,zl',hat,rfl,hL,hT⟩
 · have aUP:Hid (dM p ((v,n),k) ((yv,yn),l)=((v,n),k)):=aE7 hat
   clear hat hb6 UJ
   go_wp2_with fail
   rw [aUP.out];refine bodyPost_ret (v:= .agg #[.bool v,.int .i64 n,.slice za zl zc]) (by simp [results,Tryz.results150,go_sem,r0',r1',r2']) rfl ⟨?_,_,rfl,?_⟩
   · exact ((hB6.setCell (by simp;omega) _).setCell (by simp;omega) _).setCell (by simp;omega) _
   · refine dK.toB (lo:=W3.heap.size) (hi:=w4.heap.size) (λq q1 q2=>⟨by omega,by simp [World.setCell];omega⟩) (HO6.out.frame λq i q1 q2=>?_);exact ⟨aS (w:=w6) (b:=w.heap.size+1+1) (o:=0) (.inl (by omega)),by simp⟩
 · have ZP:=aB hat
   have hO5:dK (w4.alloc (.cells #[.bool v,.int .i64 n,.slice za zl zc] 84)) W3.heap.size w4.heap.size k (.slice za zl zc):=QJ.out.frame λq i _ q2=>⟨(aD _ _).cell q2,(aD _ _).frozen q2⟩;obtain ⟨g0,g1,g2,hloc⟩:=WJ p (v,n) k w4.heap.size 0 _ _ _ cb co _ (by simp) (by simp) (by simp) (by simp) hO5 hat hL;have hcb:cb<w4.heap.size+1:=by omega
   obtain ⟨d0,d1,d2v,d2,-⟩:=hT.below hb6;have d0f:w6.frozen? ⟨cb,co,none⟩=false:=(UJ.frozen hcb).trans g0;have d1f:w6.frozen? ⟨cb,co+1,none⟩=false:=(UJ.frozen hcb).trans g1;have d2f:w6.frozen? ⟨cb,co+2,none⟩=false:=(UJ.frozen hcb).trans g2;have HL:=aB hL;have HO5:=aB hO5;have aUX:=aB UJ;clear hat hL hT hb6 UJ g0 g1 g2 hO5
   go_wp2_with fail
   refine (R4 (yv,yn) l _ _ (HS2.out.below hB6) hl2 Hn2.out).mono ?_;rintro e w7 ⟨a2,rfl,hO7,iJ⟩;have aN0:∃za zl zc,a2= .slice za zl zc:=by
    rcases hO7 with ⟨_,rfl⟩|⟨g,_,_,_,_,rfl,_⟩
    · exact ⟨_,_,_,rfl⟩
    · exact ⟨_,_,_,rfl⟩
   obtain ⟨ya,yl,yc,aN0⟩:=aN0;subst aN0;have HO7:=aB hO7;have hB7:=aC hB6 iJ;have hs7:=iJ.size;have u0:=aA iJ _ _ d0;have u1:=aA iJ _ _ d1;have u2:=aA iJ _ _ d2;have u0f:w7.frozen? ⟨cb,co,none⟩=false:=(iJ.frozen (by show cb<_;omega)).trans d0f;have u1f:w7.frozen? ⟨cb,co+1,none⟩=false:=(iJ.frozen (by show cb<_;omega)).trans d1f;have u2f:w7.frozen? ⟨cb,co+2,none⟩=false:=(iJ.frozen (by show cb<_;omega)).trans d2f;have HX:=aB (And.intro (aA iJ _ _ t0) (And.intro (aA iJ _ _ t1) (aA iJ _ _ t2)));have HR:=aB (And.intro (aA iJ _ _ r0') (And.intro (aA iJ _ _ r1') (aA iJ _ _ r2')));have HZ:Hid (∀i,w7.frozen? ⟨w.heap.size+1+1,i,none⟩=false):=λi=>by rw [iJ.frozen (by show w.heap.size+1+1<_;omega)];exact z0' i
   have aWG:=aB iJ;have aRT:dK w7 W3.heap.size w4.heap.size k (.slice za zl zc):=HO6.out.frame λq i _ q2=>⟨iJ.cell (by show q<_;omega),iJ.frozen (by show q<_;omega)⟩;have hL7:MF w7 p w4.heap.size 0 cb co:=MF.below (aUX.out.trans (iJ.mono (by omega)) |> λh=>by simpa using h) HL.out;have dC:=aB (λ(w':World) X0 X1 X2=>aLX (w':=w') (y:=(yv,yn)) (l:=l) (X0:=X0) (X1:=X1) (X2:=X2) (X:=New w w7) (λq q1 q2=>⟨by omega,by omega⟩) (λq q1 q2=>⟨by omega,q2⟩) HX.out.1 HX.out.2.1 HX.out.2.2 aRT (Nat.le_refl _) (by omega) ZP.out hL7 HO7.out (by omega) (by omega));obtain ⟨m0,m1,m2⟩:=HX.out;obtain ⟨k0,k1,k2⟩:=HR.out;have k3:=HZ.out;clear d0 d1 d2 d0f d1f d2f q0' q1' q2' t0 t1 t2 r0' r1' r2' z0' f6 hO7 iJ UK aGY hL7 aRT HX HR HZ;have yB:Hid (∀(x y z x' y' z':Value) q i,(set3 (set3 w7 cb co x y z) (w.heap.size+1+1) 0 x' y' z').frozen? ⟨q,i,none⟩=w7.frozen? ⟨q,i,none⟩):=λ_ _ _ _ _ _ q i=>by rw [aQ,aQ]
   have CR:Hid (∀(x y z x' y' z':Value) q i,W3.heap.size<=q->(q≠cb\/i<co\/co+3<=i)->(set3 (set3 w7 cb co x y z) (w.heap.size+1+1) 0 x' y' z').cell? ⟨q,i,none⟩=w7.cell? ⟨q,i,none⟩):=λ_ _ _ _ _ _ q i h1 h2=>by rw [aS (.inl (by omega)),aS h2]
   have Hg:Hid (∀(x y z x' y' z':Value) i,(set3 (set3 w7 cb co x y z) (w.heap.size+1+1) 0 x' y' z').cell? ⟨cb,i,none⟩=(set3 w7 cb co x y z).cell? ⟨cb,i,none⟩):=λ_ _ _ _ _ _ i=>by rw [aS (.inl (by omega))]
   have Hg3:=aB (λ(x y z:Value)=>kJ (x:=x) (y:=y) (z:=z) u0 u1 u2);rcases hloc with ⟨rfl,rfl⟩|⟨hc1,hc2⟩
   · clear hB3 hb4 hB4
     go_wp2_with fail
     obtain ⟨s0,s1,s2⟩:=Hg3.out (.bool yv) (.int .i64 yn) (.slice ya yl yc)
     have hE:=dC.out (set3 (set3 w7 w4.heap.size 0 (.bool yv) (.int .i64 yn) (.slice ya yl yc)) (w.heap.size+1+1) 0 (.bool yv) (.int .i64 yn) (.slice ya yl yc)) (.bool yv) (.int .i64 yn) (.slice ya yl yc)
      ((Hg.out _ _ _ _ _ _ _).trans s0) ((Hg.out _ _ _ _ _ _ _).trans s1) ((Hg.out _ _ _ _ _ _ _).trans s2) (CR.out _ _ _ _ _ _) (yB.out _ _ _ _ _ _) ((Hg.out _ _ _ _ _ _ _).trans s0) ((Hg.out _ _ _ _ _ _ _).trans s1) ((Hg.out _ _ _ _ _ _ _).trans s2)
     refine bodyPost_ret (v:= .agg #[.bool yv,.int .i64 yn,.slice ya yl yc]) (by simp [results,Tryz.results150,go_sem,k0,k1,k2]) rfl ⟨?_,_,?_,hE.2.2.frame (λq hq=>⟨hq.1,by have:=hq.2;simp [World.setCell];exact this⟩) (λ_ _ _=>rfl)⟩
     · exact aT (aT hB7 (by omega)) (by omega)
     · rw [←hE.1,←hE.2.1]
   · have hne:¬cb=w4.heap.size:=by omega
     have hne2:¬cb=w.heap.size+1+1:=by omega
     clear hB3 hb4 hB4
     go_wp2_with fail
     obtain ⟨s0,s1,s2⟩:=Hg3.out (.bool yv) (.int .i64 yn) (.slice ya yl yc)
     have hE:=dC.out (set3 (set3 w7 cb co (.bool yv) (.int .i64 yn) (.slice ya yl yc)) (w.heap.size+1+1) 0 (.bool v) (.int .i64 n) (.slice za zl zc)) (.bool v) (.int .i64 n) (.slice za zl zc)
      ((Hg.out _ _ _ _ _ _ _).trans s0) ((Hg.out _ _ _ _ _ _ _).trans s1) ((Hg.out _ _ _ _ _ _ _).trans s2) (CR.out _ _ _ _ _ _) (yB.out _ _ _ _ _ _)
      ((CR.out _ _ _ _ _ _ _ _ (by omega) (.inl (by omega))).trans m0) ((CR.out _ _ _ _ _ _ _ _ (by omega) (.inl (by omega))).trans m1) ((CR.out _ _ _ _ _ _ _ _ (by omega) (.inl (by omega))).trans m2)
     refine bodyPost_ret (v:= .agg #[.bool v,.int .i64 n,.slice za zl zc]) (by simp [results,Tryz.results150,go_sem,k0,k1,k2]) rfl ⟨?_,_,?_,hE.2.2.frame (λq hq=>⟨hq.1,by have:=hq.2;simp [World.setCell];exact this⟩) (λ_ _ _=>rfl)⟩
     · exact aT (aT hB7 (by omega)) (by omega)
     · rw [←hE.1,←hE.2.1]
theorem Tryz.info3:(Tryz.prog.info? 3).map (λi=>(i.zero,i.size,i.bytes))=some (some (.int .i64 0),1,8):=by kernel_rfl
abbrev bO (p:List Int):List Value:=p.map (Value.int .i64)
theorem mJ {w:World} {lo:Nat} {p:List Int} {v:Value} (h:w.ownsRow lo 3 1 v p.length (bO p)):iK w p v:=by
 obtain ⟨h1,h2⟩:=h;rcases h2 with ⟨rfl,h0⟩|⟨g,bW,cur,rfl,hg,hh,hn,hc,hs,ht⟩
 · exact ⟨none,0,0,0,by rw [h0],λh=>by omega,by omega,Nat.zero_le _,λi hi=>by omega⟩
 · refine ⟨_,bW,g,0,rfl,λ_=>rfl,hn,hc,λi hi=>?_⟩;have e:cur.toList[i]?=(bO p)[i]?:=by
    rw [←ht,List.getElem?_take_of_lt (by omega)]
   rw [Nat.zero_add];have:w.cell? ⟨g,i,none⟩=cur.toList[i]?:=by simp [World.cell?,hh]
   rw [this,e];simp [List.getD_eq_getElem?_getD,hi]
theorem E5 (p:List Int) (pv:Value) (w:World) (hN:iK w p pv) (hb:p.length*8<=140737488355328):
 Calls Tryz.prog 42 #[pv] w λe w'=>∃v',e= .returned v'/\w'.ownsRow w.heap.size 3 1 v' p.length (bO p)/\Below w.heap.size w w':=by
 obtain ⟨pa,pc,pb,po,rfl,Y7,aGR,UH,QB⟩:=hN;have hnil:=λ(w:World) (a:Option Addr) (n c:Nat)=>Lib.run_eql_slice_nil (P:=Tryz.prog) w 22 3 a n c 0 0 Tryz.underlying22;cases pa with
 |none=>
  have h0:p.length=0:=by
   rcases Nat.eq_zero_or_pos p.length with h|h
   · exact h
   · have:=Y7 h;cases this
  go_enter Tryz.func42,Tryz.ntmps42
  go_wp2_with fail
  go_ret;exact ⟨_,rfl,⟨by simp,.inl ⟨rfl,h0⟩⟩,Below.refl _ _⟩
 |some ad=>
  obtain ⟨i3,hi,hz0,hz1,hz2⟩:=info_parts Tryz.info3;have I1:Hid (∀j u,(bO p)[j]?=some u->(w.alloc (.cells #[] 3)).cell? (ad.add j)=some u):=by
   intro j u hu;have hj:j<p.length:=by have:=(List.getElem?_eq_some_iff.1 hu).1;simpa using this
   have ha:ad=⟨pb,po,none⟩:=by have:=Y7 (by omega);simpa using this
   have hc:=QB j hj;have e:u= .int .i64 (p.getD j 0):=by simp [List.getD_eq_getElem?_getD,hj] at hu ⊢;exact hu.symm
   rw [ha,add_plain,e];exact aA (aD _ _) _ _ hc
  have oL:Hid ((w.alloc (.cells #[] 3)).ownsRow w.heap.size 3 1 (.slice (some ⟨w.heap.size,0,none⟩) 0 0) 0 []):=
   ⟨rfl,.inr ⟨w.heap.size,0,#[],rfl,Nat.le_refl _,by show (w.heap.push _)[w.heap.size]?=_;simp,Nat.le_refl _,Nat.zero_le _,rfl,rfl⟩⟩
  have hlen:0+p.length<=maxLen:=by omega
  have hbb:(0+p.length)*8<=140737488355328:=by omega
  clear QB Y7;go_enter Tryz.func42,Tryz.ntmps42
  go_wp2_with (at_builtin;refine wpList_append_own_at _ rfl (.tmp 5) (.tmp 6) 22 rfl w.heap.size 3 i3 (.int .i64 0) 1 8 Tryz.underlying22 hi hz0 hz1 hz2 rfl (by decide) (.slice (some ⟨w.heap.size,0,none⟩) 0 0) 0 [] rfl oL.out ad p.length pc (bO p) rfl (by simp) I1.out (ints_oneCell _ _) hlen hbb (by simp) ?_;intro v' w' hown hg hnn hat)
  go_ret;refine ⟨v',rfl,by simpa using hown,?_⟩;exact (aD w _).grown hg (by simp) (λk hk=>by simp [Value.ownBlock] at hk;omega)
end Go.Proofs.YtoklbpbmghbhnaeGreat
