import Derived.Test.YtoklbpbmghbhnaeGreatG16
namespace Go.Proofs.YtoklbpbmghbhnaeGreat
set_option maxRecDepth 100000
set_option maxHeartbeats 400000
open Go.RowKit Go.Deep Go.ChangeShapes Go.WideShapes
theorem KH {P:Tm->Prop} (hP:∀t:Tm,P t->∀y∈t.2.list,P y):∀{k l:Fo} {s s':Sb},(∀y∈l.list,P y)->(∀p∈s,P p.2)->mX k l s=some s'->∀p∈s',P p.2
 | .nil,.nil,s,s',_,hs,h=>by
  have e:s=s':=by simpa [mX] using h
  rw [←e];exact hs
 | .nil,.node _ _ _ _ _,s,s',_,hs,h=>by
  have e:s=s':=by simpa [mX] using h
  rw [←e];exact hs
 | .node _ _ _ _ _,.nil,s,s',_,hs,h=>by simp [mX] at h
 | .node p q ⟨v,n⟩ k r,.node p' q' y l m,s,s',hl,hs,h=>by
  rw [jQ,Option.bind_eq_some_iff] at h;obtain ⟨s1,h1,h2⟩:=h;have hy:P (y,l):=hl (y,l) (by simp [Fo.list]);have k1:∀p∈s1,P p.2:=by
   cases v
   · unfold iW at h1;simp only [Bool.false_eq_true,if_false] at h1;split at h1
     · exact KH hP (hP _ hy) hs h1
     · cases h1
   · unfold iW at h1;simp only [if_true] at h1;split at h1
     · cases h1;intro p hp;rcases List.mem_append.1 hp with hp|hp
       · exact hs p hp
       · rw [List.mem_singleton.1 hp];exact hy
     · split at h1
       · cases h1;exact hs
       · cases h1
  exact KH hP (λz hz=>hl z (by simp [Fo.list,hz])) k1 h2
theorem KG {P:Tm->Prop} (hP:∀t:Tm,P t->∀y∈t.2.list,P y) {t u:Tm} {s s':Sb} (hu:P u) (hs:∀p∈s,P p.2) (h:iW s t u=some s'):∀p∈s',P p.2:=by
 have h1:mX (.node 0 0 t.1 t.2 .nil) (.node 0 0 u.1 u.2 .nil) s=some s':=by rw [jQ,show iW s (t.1,t.2) (u.1,u.2)=some s' from h];rfl
 refine KH hP (λy hy=>?_) hs h1;simp only [Fo.list,List.mem_singleton] at hy;rw [hy];exact hu
structure Sm (s:List Int) (t:Tm):Prop where
 lw:Lw t
 sg:jS s t
theorem aCT {s:List Int} (t:Tm) (h:Gd t/\jS s t):∀y∈t.2.list,Gd y/\jS s y:=λy hy=>by
 obtain ⟨⟨v,n⟩,k⟩:=t;cases v with
 |true=>rw [h.1.ok.1 rfl] at hy;simp [Fo.list] at hy
 |false=>exact ⟨mH h.1 rfl hy,G6 h.2.2 y hy⟩
theorem aNG {s:List Int}:∀{p:List Int} {x:Bool×Int} {k:Fo} {z:Tm},Gd (x,k)/\jS s (x,k)->l6 p x k=some z->Gd z/\jS s z
 |[],_,_,_,h,hz=>by cases hz;exact h
 |n::p,x,k,z,h,hz=>by obtain ⟨_,_,_,y,hy,hz'⟩:=oG hz;exact aNG (x:=y.1) (k:=y.2) (aCT _ h y (List.mem_of_getElem? hy)) hz'
theorem Sm.at {s:List Int} {p:List Int} {t z:Tm} (h:Sm s t) (h6:s.length<=6) (hz:l6 p t.1 t.2=some z):Sm s z:=by have h1:=aNG ⟨h.lw.gd,h.sg⟩ hz;exact ⟨⟨h1.1,zX h6 (nR h1.2),Nat.le_trans (G9 h.lw.gd hz).2 h.lw.sz⟩,h1.2⟩
theorem VQ {s:List Int} {f:Tm->Tm}:∀{F:Fo} {i:Nat},yD s F->(∀y,jS s y->jS s (f y))->yD s (fF F i f)
 | .nil,_,_,_=>trivial
 | .node _ _ x k _,0,h,hf=>⟨hf (x,k) h.1,h.2⟩
 | .node _ _ _ _ _,_+1,h,hf=>⟨h.1,VQ h.2 hf⟩
theorem aCU {s:List Int} {u:Tm} (hu:jS s u):∀{p:List Int} {x:Bool×Int} {k:Fo},jS s (x,k)->jS s (dM p (x,k) u)
 |[],_,_,_=>hu
 |n::p,x,k,h=>by
  rw [dM];split
  · exact h
  · refine ⟨?_,VQ h.2 (λy hy=>aCU hu (x:=y.1) (k:=y.2) hy)⟩
    dsimp only
    rw [mO];exact h.1
theorem OG {f:Tm->Tm}:∀{F:Fo} {i:Nat} {y:Tm},F.list[i]?=some y->f y=y->fF F i f=F
 | .nil,_,_,h,_=>by simp [Fo.list] at h
 | .node _ _ x k _,0,y,h,e=>by simp only [Fo.list,List.getElem?_cons_zero,Option.some.injEq] at h;subst h;simp only [fF];rw [e]
 | .node _ _ _ _ r,i+1,y,h,e=>by simp only [fF];rw [OG (F:=r) (i:=i) (by simpa [Fo.list] using h) e]
theorem V3:∀{p:List Int} {x:Bool×Int} {k:Fo} {z:Tm},l6 p x k=some z->dM p (x,k) z=(x,k)
 |[],_,_,_,h=>by cases h;rfl
 |n::p,x,k,z,h=>by
  obtain ⟨hx,h0,h1,y,hy,hz⟩:=oG h;rw [dM,if_neg (by simp [hx];omega)]
  dsimp only
  rw [OG (f:=λs=>dM p s z) hy (V3 (x:=y.1) (k:=y.2) hz)]
theorem aH1 {a b:Tm} (hb:gN b) (h:dU a b=true):eO b<=eO a:=by
 rcases ((o7 hb).1 h).2.2 with h|h
 · omega
 · omega
def uN (w:Lt):Bool:=decide ((bG w.2.1.1 w.2.1.2 []).length<(bG w.2.2.1 w.2.2.2 (bG w.2.1.1 w.2.1.2 [])).length)
def rH (z:Tm) (w:Lt):Option Tm:=match iW [] w.2.1 z with
 |none=>none
 |some b=>if uN w=true then none else if dU z (aH (aV b) w.2.2)=true then some (aH (aV b) w.2.2) else none
def aGI (z:Tm) (u:Lt):Option Tm:=match rH z u with
 |some r=>some r
 |none=>rH z (aL true u)
def nW (z:Tm):List Lt->Option Tm
 |[]=>none
 |u::us=>match aGI z u with
  |some r=>some r
  |none=>nW z us
def xN (us:List Lt) (t:Tm):List (List Int)->Option Tm
 |[]=>none
 |p::Z=>match l6 p t.1 t.2 with
  |none=>xN us t Z
  |some z=>match nW z us with
   |some r=>some (dM p t r)
   |none=>xN us t Z
def iB (us:List Lt) (t:Tm):Option Tm:=xN us t (dJ t.1 t.2 [])
theorem KS {z r:Tm}:∀{us:List Lt},nW z us=some r->∃u∈us,∃k,rH z (aL k u)=some r
 |[],h=>by cases h
 |u::us,h=>by
  unfold nW at h;split at h
  · rename_i r' hr;cases h;unfold aGI at hr;split at hr
    · rename_i r'' hw;cases hr;exact ⟨u,by simp,false,hw⟩
    · exact ⟨u,by simp,true,hr⟩
  · obtain ⟨u',hu,k,hk⟩:=KS h;exact ⟨u',by simp [hu],k,hk⟩
theorem DY {us:List Lt} {t t':Tm}:∀{Z:List (List Int)},xN us t Z=some t'->∃p∈Z,∃z r,l6 p t.1 t.2=some z/\nW z us=some r/\t'=dM p t r
 |[],h=>by cases h
 |p::Z,h=>by
  unfold xN at h;split at h
  · obtain ⟨p',hp,h'⟩:=DY h;exact ⟨p',by simp [hp],h'⟩
  · rename_i z hz;split at h
    · rename_i r hr;cases h;exact ⟨p,by simp,z,r,hz,hr,rfl⟩
    · obtain ⟨p',hp,h'⟩:=DY h;exact ⟨p',by simp [hp],h'⟩
def TM (s:List Int) (us:List Lt):Prop:=∀u∈us,Sm s u.2.1/\Sm s u.2.2
theorem aCI {s:List Int} (h6:s.length<=6) {z r:Tm} {w:Lt} (hz:Sm s z) (hw:Sm s w.2.1/\Sm s w.2.2) (h:rH z w=some r):dU z r=true/\Sm s r/\∃b:Sb,(∀p∈b,jS s p.2)/\aH (aV b) w.2.1=z/\aH (aV b) w.2.2=r:=by
 unfold rH at h;split at h
 · cases h
 · rename_i b hb;split at h
   · cases h
   · split at h
     · rename_i aQ8;cases h;have hP:=KG (P:=λt=>Gd t/\jS s t) aCT ⟨hz.lw.gd,hz.sg⟩ (λp hp=>by cases hp) hb;have hs:=aBV hz.lw.gd.ok (λp hp=>by cases hp) hb;have hg:Gd (aH (aV b) w.2.2):=mG (λp hp=>(hP p hp).1) hw.2.lw.gd;have hsg:jS s (aH (aV b) w.2.2):=aLN (λn hn=>by
        cases el:dA b n with
        |some u=>rw [dO el];exact (hP _ (eD el)).2
        |none=>rw [eF el];have:=pR hw.2.sg n hn;refine ⟨?_,trivial⟩;unfold bM vr;simp [Fo.len];omega) hw.2.sg
       exact ⟨aQ8,⟨⟨hg,zX h6 (nR hsg),Nat.le_trans (aH1 hg.ok aQ8) hz.lw.sz⟩,hsg⟩,b,λp hp=>(hP p hp).2,hs.2,rfl⟩
     · cases h
theorem GZ {s:List Int} {u:Lt} (k:Bool) (h:Sm s u.2.1/\Sm s u.2.2):Sm s (aL k u).2.1/\Sm s (aL k u).2.2:=by
 cases k
 · exact h
 · exact h.symm
theorem kI {s:List Int} (h6:s.length<=6) {us:List Lt} (mZ:TM s us) {t t':Tm} (ht:Sm s t) (h:iB us t=some t'):∃(p:List Int) (z r:Tm) (u:Lt) (k:Bool),u∈us/\l6 p t.1 t.2=some z/\rH z (aL k u)=some r/\t'=dM p t r/\dU t t'=true/\Sm s t':=by obtain ⟨p,_,z,r,hz,hr,rfl⟩:=DY h;obtain ⟨u,hu,k,hk⟩:=KS hr;have hsz:=ht.at h6 hz;obtain ⟨ha,TJ,_⟩:=aCI h6 hsz (GZ k (mZ u hu)) hk;have h1:=aDI hsz.lw.gd.ok TJ.lw.gd.ok ha (x:=t.1) (k:=t.2) ht.lw.gd.ok hz;rw [V3 hz] at h1;have hgp:=IX TJ.lw.gd (x:=t.1) (k:=t.2) ht.lw.gd hz;have hsp:=aCU TJ.sg (p:=p) (x:=t.1) (k:=t.2) ht.sg;exact ⟨p,z,r,u,k,hu,hz,hk,rfl,h1,⟨⟨hgp.1,zX h6 (nR hsp),Nat.le_trans (aH1 hgp.1.ok h1) ht.lw.sz⟩,hsp⟩⟩
def xX (us:List Lt):Nat->Tm->Tm
 |0,t=>t
 |n+1,t=>match iB us t with
  |some t'=>xX us n t'
  |none=>t
def dV (us:List Lt) (t:Tm):Tm:=xX us (Y6 t) t
theorem aBW {s:List Int} (h6:s.length<=6) {us:List Lt} (mZ:TM s us):∀(n m:Nat) {t:Tm},Sm s t->Y6 t<=n->Y6 t<=m->xX us n t=xX us m t:=by
 intro n;induction n with
 |zero=>
  intro m t ht h1 _;cases m with
  |zero=>rfl
  |succ m=>
   unfold xX;cases e:iB us t with
   |none=>rfl
   |some t'=>obtain ⟨_,_,_,_,_,_,_,_,_,ha,hs⟩:=kI h6 mZ ht e;have:=rU ht.lw hs.lw ha;omega
 |succ n ih=>
  intro m t ht h1 h2;cases e:iB us t with
  |none=>
   cases m with
   |zero=>simp [xX,e]
   |succ m=>simp [xX,e]
  |some t'=>
   obtain ⟨_,_,_,_,_,_,_,_,_,ha,hs⟩:=kI h6 mZ ht e;have hl:=rU ht.lw hs.lw ha;cases m with
   |zero=>omega
   |succ m=>simp only [xX,e];exact ih m hs (by omega) (by omega)
theorem nO {us:List Lt} {t:Tm} (h:iB us t=none):dV us t=t:=by
 unfold dV;cases Y6 t with
 |zero=>rfl
 |succ n=>simp [xX,h]
theorem tV {s:List Int} (h6:s.length<=6) {us:List Lt} (mZ:TM s us) {t t':Tm} (ht:Sm s t) (h:iB us t=some t'):dV us t=dV us t':=by obtain ⟨_,_,_,_,_,_,_,_,_,ha,hs⟩:=kI h6 mZ ht h;have hl:=rU ht.lw hs.lw ha;unfold dV;obtain ⟨k,hk⟩:∃k,Y6 t=k+1:=⟨Y6 t - 1,by omega⟩;rw [hk];simp only [xX,h];exact aBW h6 mZ k (Y6 t') hs (by omega) (Nat.le_refl _)
theorem XC {s:List Int} (h6:s.length<=6) {us:List Lt} (mZ:TM s us):∀(n:Nat) {t:Tm},Y6 t=n->Sm s t->Sm s (dV us t)/\iB us (dV us t)=none/\(dV us t=t\/dU t (dV us t)=true):=by
 intro n;induction n using Nat.strongRecOn with
 |_ n ih=>
  intro t hn ht;cases e:iB us t with
  |none=>rw [nO e];exact ⟨ht,e,.inl rfl⟩
  |some t'=>
   obtain ⟨_,_,_,_,_,_,_,_,_,ha,hs⟩:=kI h6 mZ ht e;have hl:=rU ht.lw hs.lw ha;rw [tV h6 mZ ht e];obtain ⟨k1,k2,k3⟩:=ih (Y6 t') (by omega) rfl hs;refine ⟨k1,k2,.inr ?_⟩;rcases k3 with k3|k3
   · rw [k3];exact ha
   · exact E9 _ rfl ht.lw.gd.ok hs.lw.gd.ok k1.lw.gd.ok ha k3
def qK (us:List Lt) (c:Cl):Cl:=c.map (bK (dV us))
def rF (us:List Lt) (c:Cl):Int×Cl:=bS (qK us c)
def SmC (s:List Int) (c:Cl):Prop:=∀l∈c,Sm s l.2.1/\Sm s l.2.2
theorem Sm.gl {s:List Int} {l:Lt} (h:Sm s l.2.1/\Sm s l.2.2):GL l:=
 ⟨h.1.lw.gd,h.2.lw.gd,λm hm=>(pR h.1.sg m hm).2,λm hm=>(pR h.2.sg m hm).2,h.1.lw.sz,h.2.lw.sz⟩
theorem SmC.gc {s:List Int} {c:Cl} (h:SmC s c) (h4:c.length<=4):GC c:=⟨h4,λl hl=>Sm.gl (h l hl)⟩
theorem IK {s:List Int} (h6:s.length<=6) {c:Cl} (hc:GC c) (hg:∀l∈c,jS s l.2.1/\jS s l.2.2):SmC s c:=λl hl=>⟨⟨⟨(hc.2 l hl).gl,zX h6 (nR (hg l hl).1),(hc.2 l hl).sl⟩,(hg l hl).1⟩,⟨⟨(hc.2 l hl).gr,zX h6 (nR (hg l hl).2),(hc.2 l hl).sr⟩,(hg l hl).2⟩⟩
theorem SI {s:List Int} (h6:s.length<=6) {us:List Lt} (mZ:TM s us) {c:Cl} (hc:SmC s c):SmC s (qK us c):=λl hl=>by obtain ⟨x,hx,rfl⟩:=List.mem_map.1 hl;exact ⟨(XC h6 mZ _ rfl (hc x hx).1).1,(XC h6 mZ _ rfl (hc x hx).2).1⟩
theorem aIK {s:List Int} (h6:s.length<=6) {us:List Lt} (mZ:TM s us) {z:Int} {tb:List (List Int)} (hm:MR s z tb) (hs:s.all bN=true) (hu:∀u∈us,u.1=false/\aY z tb [u]) {t t':Tm} (ht:Sm s t) (h:iB us t=some t') {e:Int->Int} (he:∀v,0<=e v/\e v<z):dF z tb e t'=dF z tb e t:=by
 obtain ⟨p,y,r,u,k,hmem,hat,hw,rfl,_,_⟩:=kI h6 mZ ht h;obtain ⟨_,_,b,hb,e1,e2⟩:=aCI h6 (ht.at h6 hat) (GZ k (mZ u hmem)) hw;obtain ⟨hn,hh⟩:=hu u hmem;have h1:=hh (λn=>dF z tb e (aV b n)) (λv=>aCD hm hs he (qN (λp hp=>nR (hb p hp)) v));have h2:dF z tb (λn=>dF z tb e (aV b n)) u.2.1=dF z tb (λn=>dF z tb e (aV b n)) u.2.2:=by simpa [dB,kQ,hn] using h1
 have h3:dF z tb e r=dF z tb e y:=by
  rw [←e1,←e2,rR,rR];cases k
  · exact h2.symm
  · exact h2
 exact RI (x:=t.1) (k:=t.2) hat h3
theorem XB {s:List Int} (h6:s.length<=6) {us:List Lt} (mZ:TM s us) {z:Int} {tb:List (List Int)} (hm:MR s z tb) (hs:s.all bN=true) (hu:∀u∈us,u.1=false/\aY z tb [u]) {e:Int->Int} (he:∀v,0<=e v/\e v<z):∀(n:Nat) {t:Tm},Y6 t=n->Sm s t->dF z tb e (dV us t)=dF z tb e t:=by
 intro n;induction n using Nat.strongRecOn with
 |_ n ih=>
  intro t hn ht;cases hst:iB us t with
  |none=>rw [nO hst]
  |some t'=>obtain ⟨_,_,_,_,_,_,_,_,_,ha,hs'⟩:=kI h6 mZ ht hst;have hl:=rU ht.lw hs'.lw ha;rw [tV h6 mZ ht hst,ih (Y6 t') (by omega) rfl hs'];exact aIK h6 mZ hm hs hu ht hst he
theorem aLO {s:List Int} (h6:s.length<=6) {us:List Lt} (mZ:TM s us) {z:Int} {tb:List (List Int)} (hm:MR s z tb) (hs:s.all bN=true) (hu:∀u∈us,u.1=false/\aY z tb [u]) {c:Cl} (hc:SmC s c) (h4:c.length<=4):((rF us c).1=6->aY z tb c)/\((rF us c).1=0->(aY z tb c↔aY z tb (rF us c).2)):=by
 have hg:GC (qK us c):=(SI h6 mZ hc).gc (by simpa [qK] using h4);have key:aY z tb (qK us c)↔aY z tb c:=by
  unfold aY;have:∀e:Int->Int,(∀v,0<=e v/\e v<z)->dB z tb e (qK us c)=dB z tb e c:=λe he=>by
   unfold dB qK;rw [List.any_map,Bool.eq_iff_iff,List.any_eq_true,List.any_eq_true];have hl:∀l∈c,(kQ z tb e ∘ bK (dV us)) l=kQ z tb e l:=λl hl=>by simp only [Function.comp,bK,kQ];rw [XB h6 mZ hm hs hu he _ rfl (hc l hl).1,XB h6 mZ hm hs hu he _ rfl (hc l hl).2]
   constructor
   · rintro ⟨l,hl1,hl2⟩;exact ⟨l,hl1,by rw [←hl l hl1];exact hl2⟩
   · rintro ⟨l,hl1,hl2⟩;exact ⟨l,hl1,by rw [hl l hl1];exact hl2⟩
  constructor
  · intro h e he;rw [←this e he];exact h e he
  · intro h e he;rw [this e he];exact h e he
 have hn:=K5 (z:=z) (tb:=tb) hg;refine ⟨λh=>key.1 (hn.1 h),λh=>?_⟩;rw [←key];exact hn.2 h
def sP (x y:Lt) (s:Sb):Option Sb:=if y.1=x.1 then (iW s x.2.1 y.2.1).bind λa=>iW a x.2.2 y.2.2 else none
def aO4 (x:Lt) (d:Cl) (s:Sb):List Sb:=d.flatMap λy=>(sP x y s).toList++(sP x (aL true y) s).toList
def aG0 (d:Cl):Cl->List Sb->List Sb
 |[],now=>now
 |x::c,now=>aG0 d c (now.flatMap (aO4 x d))
def yH (c d:Cl):Bool:=!(aG0 d c [[]]).isEmpty
theorem aHW {X:Nat->Prop} {w:World} {l:Lt} {a d:Value} (hA:SB X w l.2.1.2 a) (hD:SB X w l.2.2.2 d):∀{c:Cl} {xs:List Value} {j:Nat},LC X w c xs->j<c.length->LC X w (c.set j l) (xs.take (j*7)++jT l a d++xs.drop (j*7+7))
 |[],_,_,_,hj=>by simp at hj
 |q::c,xs,0,⟨a',d',ys,h1,h2,h3,h4⟩,_=>by subst h1;exact ⟨a,d,ys,by simp,hA,hD,h4⟩
 |q::c,xs,j+1,⟨a',d',ys,h1,h2,h3,h4⟩,hj=>by subst h1;have ih:=aHW hA hD (c:=c) (xs:=ys) (j:=j) h4 (by simpa using hj);refine ⟨a',d',ys.take (j*7)++jT l a d++ys.drop (j*7+7),?_,h2,h3,ih⟩;rw [show (j+1)*7=j*7+7 by omega];simp only [List.take_succ_cons,List.drop_succ_cons,List.cons_append]
theorem aC0 {lo:Nat} {X:Nat->Prop} {w:World} {c:Cl} {v:Value} {xs:List Value} (h:lD lo X w c v xs) {g:Nat} (hg:v.ownBlock=some g) {j:Nat} (hj:j<c.length) {l:Lt} {a d:Value} (hA:SB X w l.2.1.2 a) (hD:SB X w l.2.2.2 d):
 dQ (mW w g (j*7) (jT l a d)) (c.set j l) v/\(∀i,i<7->∃u,w.cell? ⟨g,j*7+i,none⟩=some u):=by
 have hl:=h.cells.len;have hcell:∀i,i<xs.length->w.cell? ⟨g,i,none⟩=xs[i]?:=λi hi=>by have:=h.row.cells hg i xs[i] (List.getElem?_eq_getElem hi);rw [add_plain,Nat.zero_add] at this;rw [this,List.getElem?_eq_getElem hi]
 have hex:∀i,i<7->∃u,w.cell? ⟨g,j*7+i,none⟩=some u:=λi hi=>by
  have hlt:j*7+i<xs.length:=by rw [hl];omega
  exact ⟨xs[j*7+i],by rw [hcell _ hlt,List.getElem?_eq_getElem hlt]⟩
 refine ⟨?_,hex⟩;obtain ⟨z1,z3,hv⟩:=h.slice;have hz:z1=some ⟨g,0,none⟩:=by
  rcases h.row.2 with ⟨e,h0⟩|⟨g',bW,cur,e,_⟩
  · rw [e] at hg;cases hg
  · rw [e] at hg;simp only [Value.ownBlock,Option.some.injEq] at hg;subst hg;rw [hv] at e;simp only [Value.slice.injEq] at e;exact e.1
 have hcap:c.length<=z3/\z3<=maxLen:=by obtain ⟨_,k,_,_,e,_,h3,h4,_⟩:=h.cl;rw [hv] at e;simp only [Value.slice.injEq,true_and] at e;rw [e.2];exact ⟨h3,h4⟩
 have hLC:=aHW (l:=l) (a:=a) (d:=d) hA hD h.cells hj;have hfr:LC X (mW w g (j*7) (jT l a d)) (c.set j l) (xs.take (j*7)++jT l a d++xs.drop (j*7+7)):=hLC.frame (λ_ q=>q) (λq i hq=>dP (.inl (λe=>(h.off q hq).2 (by rw [hg,e]))));refine ⟨z1,z3,g,0,by rw [hv,List.length_set],λ_=>hz,by rw [List.length_set];exact hcap.1,hcap.2,hfr.at (λi hi=>?_)⟩;rw [Nat.zero_add];have hlen:(xs.take (j*7)).length=j*7:=by rw [List.length_take,Nat.min_eq_left (by omega)]
 have hi2:i<xs.length:=by simp only [List.length_append,List.length_drop,hlen,List.length_cons,List.length_nil] at hi;omega
 by_cases h1:i<j*7
 · rw [dP (.inr (.inl h1)),hcell i hi2,List.append_assoc,List.getElem?_append_left (by rw [hlen];exact h1),List.getElem?_take_of_lt h1]
 · by_cases h2:i<j*7+7
   · obtain ⟨t,rfl⟩:∃t,i=j*7+t:=⟨i - j*7,by omega⟩;have ht:t<7:=by omega
     rw [List.append_assoc,List.getElem?_append_right (by omega),hlen,show j*7+t - j*7=t by omega,List.getElem?_append_left (by simpa using ht)];obtain ⟨u,hu⟩:∃u,(jT l a d)[t]?=some u:=⟨(jT l a d)[t]'ht,List.getElem?_eq_getElem ht⟩;rw [hu];exact tC (xs:=jT l a d) (λq hq=>hex q (by simpa using hq)) t u hu
   · rw [dP (.inr (.inr (by simp;omega))),hcell i hi2,List.getElem?_append_right (by simp only [List.length_append,hlen,List.length_cons,List.length_nil];omega)];simp only [List.length_append,hlen,List.length_cons,List.length_nil,List.getElem?_drop];congr 1;omega
def NK (lo:Nat) (w:World) (Z:List (List Int)) (v:Value):Prop:=
 ∃(a:Option Addr) (c g:Nat),v= .slice a Z.length c/\(0<Z.length->a=some ⟨g,0,none⟩/\lo<=g/\g<w.heap.size)/\Z.length<=c/\c<=maxLen/\∀t q,Z[t]?=some q->∃y,w.cell? ⟨g,t,none⟩=some y/\w.ownsRow lo 3 1 y q.length (bO q)
theorem NK.keep {lo:Nat} {w w':World} {Z:List (List Int)} {v:Value} (h:NK lo w Z v) (hs:w.heap.size<=w'.heap.size) (hk:∀q,lo<=q->q<w.heap.size->w'.heap[q]?=w.heap[q]?):NK lo w' Z v:=by obtain ⟨a,c,g,h1,h2,h3,h4,h5⟩:=h;refine ⟨a,c,g,h1,λhz=>⟨(h2 hz).1,(h2 hz).2.1,by have:=(h2 hz).2.2;omega⟩,h3,h4,λt q hq=>?_⟩;obtain ⟨y,k1,k2⟩:=h5 t q hq;have hz:=h2 (by have:=(List.getElem?_eq_some_iff.1 hq).1;omega);refine ⟨y,?_,bA k2 (λb hb=>hk b (aJ k2 b hb).1 (aJ k2 b hb).2)⟩;rw [World.cell?_of_block (hk g hz.2.1 hz.2.2)];exact k1
theorem LK.places {lo p:Nat} {W W1:World} {V:Value} {st:List Cl×Bool} {v:Value} {xs:List Value} {w:World} (h:LK lo p W V st v xs w) {cs:List Cl} {lost:Bool} {ys:List Value} (hW:uC lo W1 p cs lost V ys) {Z:List (List Int)} {u:Value} (hp:NK W1.heap.size W Z u):NK W1.heap.size w Z u:=
 hp.keep h.fr.size (λ_ h1 h2=>h.block hW h1 h2)
section
attribute [local go_sem ↓] Go.wp_at_zero Go.wp_at_succ
def aG1 (X:Nat->Prop) (w:World):Sb->Nat->Nat->Prop
 |[],_,_=>True
 |p::s,b,o=>w.cell? ⟨b,o,none⟩=some (.int .i64 p.1)/\w.cell? ⟨b,o+1,none⟩=some (.bool p.2.1.1)/\w.cell? ⟨b,o+2,none⟩=some (.int .i64 p.2.1.2)/\
  (∃v,w.cell? ⟨b,o+3,none⟩=some v/\SB X w p.2.2 v)/\aG1 X w s b (o+4)
def aRK (X:Nat->Prop) (w:World) (s:Sb) (v:Value):Prop:=
 ∃(a:Option Addr) (c b o:Nat),v= .slice a s.length c/\(0<s.length->a=some ⟨b,o,none⟩)/\s.length<=c/\c<=maxLen/\aG1 X w s b o
theorem aRK.nil (X:Nat->Prop) (w:World):aRK X w [] (.slice none 0 0):=⟨none,0,0,0,rfl,λh=>by simp at h,Nat.le_refl _,Nat.zero_le _,trivial⟩
end
section
attribute [local go_sem ↓] Go.wp_at_zero Go.wp_at_succ
theorem aG1.at {X:Nat->Prop} {w:World}:∀{s:Sb} {b o i:Nat} {p:Int×Tm},aG1 X w s b o->s[i]?=some p->
 w.cell? ⟨b,o+i*4,none⟩=some (.int .i64 p.1)/\w.cell? ⟨b,o+i*4+1,none⟩=some (.bool p.2.1.1)/\w.cell? ⟨b,o+i*4+2,none⟩=some (.int .i64 p.2.1.2)/\∃v,w.cell? ⟨b,o+i*4+3,none⟩=some v/\SB X w p.2.2 v
 |[],_,_,_,_,_,h=>by simp at h
 |q::s,b,o,0,p,hP,h=>by simp only [List.getElem?_cons_zero,Option.some.injEq] at h;subst h;obtain ⟨h0,h1,h2,h3,_⟩:=hP;simpa using ⟨h0,h1,h2,h3⟩
 |q::s,b,o,i+1,p,hP,h=>by
  have:=aG1.at hP.2.2.2.2 (i:=i) (by simpa using h);have e:o+4+i*4=o+(i+1)*4:=by omega
  rwa [e] at this
end
end Go.Proofs.YtoklbpbmghbhnaeGreat
