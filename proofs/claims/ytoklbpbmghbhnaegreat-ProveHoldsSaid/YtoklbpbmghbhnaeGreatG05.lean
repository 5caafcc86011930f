import Derived.Test.YtoklbpbmghbhnaeGreatG04
import Derived.Deep.DeepCutAuto
namespace Go.Proofs.YtoklbpbmghbhnaeGreat
set_option maxRecDepth 100000
set_option maxHeartbeats 400000
open Go.RowKit Go.Deep Go.ChangeShapes Go.WideShapes
def Fo.norm:Fo->Fo
 | .nil=> .nil
 | .node _ _ x k r=> .node 0 0 x (Fo.norm k) (Fo.norm r)
theorem oC:∀F:Fo,Fo.len (Fo.norm F)=Fo.len F
 | .nil=>rfl
 | .node _ _ x k r=>by simp [Fo.len,Fo.norm,oC r]
abbrev Tm:=(Bool×Int)×Fo
abbrev Sb:=List (Int×Tm)
def vr (n:Int):Tm:=((true,n),.nil)
def dD (f:Int->Tm):Fo->Fo
 | .nil=> .nil
 | .node _ _ x k r=>if x.1 then .node 0 0 (f x.2).1 (f x.2).2 (dD f r) else .node 0 0 (false,x.2) (dD f k) (dD f r)
def aH (f:Int->Tm) (t:Tm):Tm:=if t.1.1 then f t.1.2 else ((false,t.1.2),dD f t.2)
theorem dE (f:Int->Tm) (p q:Nat) (x:Bool×Int) (k r:Fo):dD f (.node p q x k r)= .node 0 0 (aH f (x,k)).1 (aH f (x,k)).2 (dD f r):=by obtain ⟨v,n⟩:=x;cases v<;>simp [dD,aH]
theorem fJ (f:Int->Tm) (n:Int) (k:Fo):aH f ((true,n),k)=f n:=rfl
theorem cK (f:Int->Tm) (n:Int) (k:Fo):aH f ((false,n),k)=((false,n),dD f k):=rfl
theorem gQ (f:Int->Tm):∀F:Fo,(dD f F).list=F.list.map (aH f)
 | .nil=>rfl
 | .node p q x k r=>by rw [dE];simp [Fo.list,gQ f r]
theorem lI (f:Int->Tm) (F:Fo):Fo.len (dD f F)=Fo.len F:=by rw [←Fo.len_list,←Fo.len_list,gQ,List.length_map]
theorem AZ (f g:Int->Tm):∀F:Fo,dD f (dD g F)=dD (λn=>aH f (g n)) F
 | .nil=>rfl
 | .node p q ⟨v,n⟩ k r=>by
  cases v
  · simp [dD,AZ f g k,AZ f g r]
  · rw [dE g,dE f,AZ f g r,dE];rfl
theorem VK (f g:Int->Tm) (t:Tm):aH f (aH g t)=aH (λn=>aH f (g n)) t:=by
 obtain ⟨⟨v,n⟩,k⟩:=t;cases v
 · simp [aH,AZ]
 · rfl
def Fo.ok:Fo->Prop
 | .nil=>True
 | .node p q x k r=>p=0/\q=0/\(x.1=true->k= .nil)/\Fo.ok k/\Fo.ok r
def gN (t:Tm):Prop:=(t.1.1=true->t.2= .nil)/\Fo.ok t.2
theorem dG {p q:Nat} {x:Bool×Int} {k r:Fo}:Fo.ok (.node p q x k r)↔p=0/\q=0/\gN (x,k)/\Fo.ok r:=by
 simp only [Fo.ok,gN];constructor
 · rintro ⟨a,b,c,d,e⟩;exact ⟨a,b,⟨c,d⟩,e⟩
 · rintro ⟨a,b,⟨c,d⟩,e⟩;exact ⟨a,b,c,d,e⟩
theorem UU (n:Int):gN (vr n):=⟨λ_=>rfl,trivial⟩
theorem pO:∀{F:Fo} {t:Tm},Fo.ok F->t∈F.list->gN t
 | .nil,_,_,h=>by simp [Fo.list] at h
 | .node p q x k r,t,hF,h=>by
  rw [dG] at hF;simp only [Fo.list,List.mem_cons] at h;rcases h with rfl|h
  · exact hF.2.2.1
  · exact pO hF.2.2.2 h
theorem aNJ:∀{F G:Fo},Fo.ok F->Fo.ok G->F.list=G.list->F=G
 | .nil,.nil,_,_,_=>rfl
 | .nil,.node _ _ _ _ _,_,_,h=>by simp [Fo.list] at h
 | .node _ _ _ _ _,.nil,_,_,h=>by simp [Fo.list] at h
 | .node p q x k r,.node p' q' y l r',hF,hG,h=>by rw [dG] at hF hG;simp only [Fo.list,List.cons.injEq,Prod.mk.injEq] at h;obtain ⟨⟨rfl,rfl⟩,h⟩:=h;obtain ⟨rfl,rfl,_,hr⟩:=hF;obtain ⟨rfl,rfl,_,hr'⟩:=hG;rw [aNJ hr hr' h]
theorem sZ {f:Int->Tm} (hf:∀n,gN (f n)):∀F:Fo,Fo.ok (dD f F)
 | .nil=>trivial
 | .node p q ⟨v,n⟩ k r=>by
  rw [dE,dG];refine ⟨rfl,rfl,?_,sZ hf r⟩;cases v
  · exact ⟨λh=>by simp [aH] at h,sZ hf k⟩
  · exact hf n
theorem RQ {f:Int->Tm} (hf:∀n,gN (f n)) (t:Tm):gN (aH f t):=by
 obtain ⟨⟨v,n⟩,k⟩:=t;cases v
 · exact ⟨λh=>by simp [aH] at h,sZ hf k⟩
 · exact hf n
theorem RS:∀{F:Fo},Fo.ok F->dD vr F=F
 | .nil,_=>rfl
 | .node p q ⟨v,n⟩ k r,h=>by
  rw [dG] at h;obtain ⟨rfl,rfl,hk,hr⟩:=h;rw [dE,RS hr];cases v
  · rw [cK,RS hk.2]
  · have:k= .nil:=hk.1 rfl;subst this;rfl
theorem oZ {t:Tm} (h:gN t):aH vr t=t:=by
 obtain ⟨⟨v,n⟩,k⟩:=t;cases v
 · rw [cK,RS h.2]
 · have:k= .nil:=h.1 rfl;subst this;rfl
theorem RY:∀{F G:Fo},Fo.ok F->Fo.ok G->jA F G=true->F=G
 | .nil,.nil,_,_,_=>rfl
 | .nil,.node _ _ _ _ _,_,_,h=>by simp [jA] at h
 | .node _ _ _ _ _,.nil,_,_,h=>by simp [jA] at h
 | .node p q x k r,.node p' q' y l r',hF,hG,h=>by simp only [jA,Bool.and_eq_true,beq_iff_eq] at h;obtain ⟨⟨⟨e1,e2⟩,e3⟩,e4⟩:=h;rw [dG] at hF hG;obtain ⟨rfl,rfl,hk,hr⟩:=hF;obtain ⟨rfl,rfl,hl,hr'⟩:=hG;have e5:k=l:=RY hk.2 hl.2 e3;rw [show x=y from Prod.ext e1 e2,e5,RY hr hr' e4]
theorem VT {t u:Tm} (ht:gN t) (hu:gN u) (h:cB t.1 t.2 u.1 u.2=true):t=u:=by simp only [cB,Bool.and_eq_true,beq_iff_eq] at h;exact Prod.ext (Prod.ext h.1.1 h.1.2) (RY ht.2 hu.2 h.2)
theorem kS {t u:Tm} (ht:gN t) (hu:gN u):cB t.1 t.2 u.1 u.2=true↔t=u:=
 ⟨λh=>VT ht hu h,λh=>by subst h;exact aA4 _ _⟩
def eH (n:Int):Fo->Prop
 | .nil=>False
 | .node _ _ x k r=>(if x.1 then x.2=n else eH n k)\/eH n r
def bU (n:Int) (t:Tm):Prop:=if t.1.1 then t.1.2=n else eH n t.2
theorem iY {n:Int}:∀{F:Fo},eH n F↔∃t∈F.list,bU n t
 | .nil=>by simp [eH,Fo.list]
 | .node p q x k r=>by have:=iY (n:=n) (F:=r);simp only [eH,Fo.list,List.mem_cons,exists_eq_or_imp,this];rfl
theorem DI {m n:Int}:bU m (vr n)↔n=m:=by simp [bU,vr]
theorem AA {m n:Int} {k:Fo}:bU m ((false,n),k)↔eH m k:=by simp [bU]
theorem yS {f g:Int->Tm}:∀{F:Fo},(∀n,eH n F->f n=g n)->dD f F=dD g F
 | .nil,_=>rfl
 | .node p q ⟨v,n⟩ k r,h=>by
  have hr:=yS (F:=r) (λm hm=>h m (.inr hm));cases v
  · have hk:=yS (F:=k) (λm hm=>h m (.inl (by simpa using hm)));simp [dD,hr,hk]
  · simp [dD,hr,h n (.inl (by simp))]
theorem iM {f g:Int->Tm} {t:Tm} (h:∀n,bU n t->f n=g n):aH f t=aH g t:=by
 obtain ⟨⟨v,n⟩,k⟩:=t;cases v
 · rw [cK,cK,yS (λm hm=>h m (AA.2 hm))]
 · exact h n (by simp [bU])
theorem J5 {m:Int} {f:Int->Tm}:∀{F:Fo},eH m (dD f F)↔∃n,eH n F/\bU m (f n)
 | .nil=>by simp [eH,dD]
 | .node p q ⟨v,n⟩ k r=>by
  have hr:=J5 (m:=m) (f:=f) (F:=r);cases v
  · have hk:=J5 (m:=m) (f:=f) (F:=k);simp only [dD,eH,Bool.false_eq_true,if_false,hr,hk];constructor
    · rintro (⟨i,h1,h2⟩|⟨i,h1,h2⟩)
      · exact ⟨i,.inl h1,h2⟩
      · exact ⟨i,.inr h1,h2⟩
    · rintro ⟨i,h1|h1,h2⟩
      · exact .inl ⟨i,h1,h2⟩
      · exact .inr ⟨i,h1,h2⟩
  · simp only [dD,eH,if_true,hr];constructor
    · rintro (h|⟨i,h1,h2⟩)
      · exact ⟨n,.inl rfl,h⟩
      · exact ⟨i,.inr h1,h2⟩
    · rintro ⟨i,h1|h1,h2⟩
      · subst h1;exact .inl h2
      · exact .inr ⟨i,h1,h2⟩
theorem BD {m:Int} {f:Int->Tm} {t:Tm}:bU m (aH f t)↔∃n,bU n t/\bU m (f n):=by
 obtain ⟨⟨v,n⟩,k⟩:=t;cases v
 · rw [cK,AA,J5];simp only [AA]
 · rw [fJ];simp [bU]
theorem wZ {m:Int}:∀{F:Fo} {l:List Int},m∈eT F l↔m∈l\/eH m F
 | .nil,l=>by simp [eT,eH]
 | .node p q ⟨v,n⟩ k r,l=>by
  rw [eT,wZ (F:=r)];cases v
  · have hk:=wZ (m:=m) (F:=k) (l:=l);simp only [Bool.false_eq_true,if_false,hk,eH,or_assoc]
  · simp only [if_true,eH];by_cases hh:j6 l n=true
    · rw [if_pos hh];have hm:n∈l:=by simpa [j6] using hh
      constructor
      · rintro (h|h);exact .inl h;exact .inr (.inr h)
      · rintro (h|h|h);exact .inl h;(subst h;exact .inl hm);exact .inr h
    · rw [if_neg hh];simp only [List.mem_append,List.mem_singleton];constructor
      · rintro ((h|h)|h);exact .inl h;(subst h;exact .inr (.inl rfl));exact .inr (.inr h)
      · rintro (h|h|h);exact .inl (.inl h);(subst h;exact .inl (.inr rfl));exact .inr h
theorem EP {m:Int} {t:Tm}:m∈bG t.1 t.2 []↔bU m t:=by
 obtain ⟨⟨v,n⟩,k⟩:=t;cases v
 · simp [bG,bU,wZ]
 · simp [bG,bU,j6,eq_comm]
theorem aL7 {m:Int} {t:Tm}:j6 (bG t.1 t.2 []) m=true↔bU m t:=by rw [←EP];simp [j6]
theorem qP:∀{F:Fo} {l:List Int},l.Nodup->(eT F l).Nodup
 | .nil,l,h=>h
 | .node p q ⟨v,n⟩ k r,l,h=>by
  rw [eT];refine qP ?_;cases v
  · exact qP (F:=k) h
  · simp only [if_true];by_cases hh:j6 l n=true
    · rw [if_pos hh];exact h
    · rw [if_neg hh,List.nodup_append];refine ⟨h,by simp,?_⟩;intro a ha b hb e;simp only [List.mem_singleton] at hb;subst e hb;exact hh (by simpa [j6] using ha)
def dA:Sb->Int->Option Tm
 |[],_=>none
 |p::s,n=>if p.1=n then some p.2 else dA s n
def aV (s:Sb) (n:Int):Tm:=(dA s n).getD (vr n)
theorem eD {u:Tm}:∀{s:Sb} {n:Int},dA s n=some u->(n,u)∈s
 |[],n,h=>by simp [dA] at h
 |(m,t)::s,n,h=>by
  unfold dA at h;by_cases e:m=n
  · rw [if_pos e] at h;cases h;subst e;simp
  · rw [if_neg e] at h;exact List.mem_cons_of_mem _ (eD h)
theorem wG (s s':Sb) (n:Int):dA (s++s') n=(dA s n).or (dA s' n):=by
 induction s with
 |nil=>rfl
 |cons p s ih=>
  simp only [List.cons_append,dA];split
  · rfl
  · exact ih
theorem aJK (g:Tm->Tm) (s:Sb) (n:Int):dA (s.map λp=>(p.1,g p.2)) n=(dA s n).map g:=by
 induction s with
 |nil=>rfl
 |cons p s ih=>
  simp only [List.map_cons,dA];split
  · rfl
  · exact ih
theorem aFF {s:Sb} {n:Int} (h:∀p∈s,p.1≠n):dA s n=none:=by
 cases e:dA s n with
 |none=>rfl
 |some u=>exact absurd rfl (h _ (eD e))
theorem dO {s:Sb} {n:Int} {u:Tm} (h:dA s n=some u):aV s n=u:=by simp [aV,h]
theorem eF {s:Sb} {n:Int} (h:dA s n=none):aV s n=vr n:=by simp [aV,h]
theorem aH0 {s:Sb} (h:∀p∈s,gN p.2) (n:Int):gN (aV s n):=by
 cases e:dA s n with
 |none=>rw [eF e];exact UU n
 |some u=>rw [dO e];exact h _ (eD e)
def jD (t:Tm):Prop:=Fo.len t.2<=1000/\Fo.narrow t.2
theorem aPZ (n:Int):jD (vr n):=⟨by simp [vr,Fo.len],trivial⟩
theorem aJI {p q:Nat} {x:Bool×Int} {k r:Fo}:Fo.narrow (.node p q x k r)↔jD (x,k)/\Fo.narrow r:=by simp only [Fo.narrow,jD];exact ⟨λ⟨a,b,c⟩=>⟨⟨a,b⟩,c⟩,λ⟨⟨a,b⟩,c⟩=>⟨a,b,c⟩⟩
theorem aC6:∀{F:Fo} {t:Tm},Fo.narrow F->t∈F.list->jD t
 | .nil,_,_,h=>by simp [Fo.list] at h
 | .node p q x k r,t,hF,h=>by
  rw [aJI] at hF;simp only [Fo.list,List.mem_cons] at h;rcases h with rfl|h
  · exact hF.1
  · exact aC6 hF.2 h
theorem X6 {f:Int->Tm} (hf:∀n,gN (f n)) {F G:Fo} (hl:Fo.len F=Fo.len G) (h:∀p∈F.list.zip G.list,aH f p.1=aH f p.2):dD f F=dD f G:=by
 refine aNJ (sZ hf F) (sZ hf G) ?_;rw [gQ,gQ];rw [←Fo.len_list,←Fo.len_list] at hl;have:∀(l m:List Tm),l.length=m.length->(∀p∈l.zip m,aH f p.1=aH f p.2)->l.map (aH f)=m.map (aH f):=by
  intro l;induction l with
  |nil=>intro m hm _;cases m with
   |nil=>rfl
   |cons b m=>simp at hm
  |cons a l ih=>
   intro m hm hp;cases m with
   |nil=>simp at hm
   |cons b m=>simp only [List.map_cons,List.cons.injEq];refine ⟨hp (a,b) (by simp),ih m (by simpa using hm) (λp h=>hp p (by simp [h]))⟩
 exact this _ _ hl h
def pK (s:Sb) (n:Int) (t:Tm):Option Sb:=
 if j6 (bG t.1 t.2 []) n then none else some ((s.map λp=>(p.1,aH (aV [(n,t)]) p.2))++[(n,t)])
def gZ (s:Sb) (t:Tm):Tm:=if t.1.1 then (dA s t.1.2).getD t else t
def kD (s:Sb) (a b:Tm) (L:List (Tm×Tm)):Option (Sb×List (Tm×Tm)):=
 if (gZ s a).1.1=true/\(gZ s b).1.1=true/\(gZ s a).1.2=(gZ s b).1.2 then some (s,L)
 else if (gZ s a).1.1=true then (pK s (gZ s a).1.2 (aH (aV s) (gZ s b))).map λs'=>(s',L)
 else if (gZ s b).1.1=true then (pK s (gZ s b).1.2 (aH (aV s) (gZ s a))).map λs'=>(s',L)
 else if (gZ s a).1.2=(gZ s b).1.2/\Fo.len (gZ s a).2=Fo.len (gZ s b).2 then some (s,(gZ s a).2.list.zip (gZ s b).2.list++L)
 else none
def iV:Nat->Sb->List (Tm×Tm)->Option (Option Sb)
 |0,_,_=>none
 |_+1,s,[]=>some (some s)
 |n+1,s,p::L=>match kD s p.1 p.2 L with
  |none=>some none
  |some q=>iV n q.1 q.2
def lG:Fo->Nat
 | .nil=>0
 | .node _ _ _ k r=>max (1+lG k) (lG r)
def gU (t:Tm):Nat:=1+lG t.2
theorem SK:∀{F:Fo} {t:Tm},t∈F.list->gU t<=lG F
 | .nil,_,h=>by simp [Fo.list] at h
 | .node p q x k r,t,h=>by
  simp only [Fo.list,List.mem_cons] at h;rcases h with rfl|h
  · simp only [lG,gU];omega
  · have:=SK h;simp only [lG];omega
theorem KL {f:Int->Tm} {d:Nat} (hf:∀n,gU (f n)<=d+1):∀F:Fo,lG (dD f F)<=lG F+d
 | .nil=>by simp [dD,lG]
 | .node p q ⟨v,n⟩ k r=>by
  have hr:=KL hf r;rw [dE];cases v
  · have hk:=KL hf k;simp only [cK,lG];omega
  · have:=hf n;simp only [fJ,lG];simp only [gU] at this;omega
theorem KJ {f:Int->Tm} {d:Nat} (hf:∀n,gU (f n)<=d+1) (t:Tm):gU (aH f t)<=gU t+d:=by
 obtain ⟨⟨v,n⟩,k⟩:=t;cases v
 · have:=KL hf k;simp only [cK,gU];omega
 · have:=hf n;rw [fJ];simp only [gU] at this ⊢;omega
def CU:Fo->Prop
 | .nil=>True
 | .node _ _ _ k r=>Fo.len k<=2/\CU k/\CU r
def CS (t:Tm):Prop:=Fo.len t.2<=2/\CU t.2
theorem aHN (n:Int):CS (vr n):=⟨by simp [vr,Fo.len],trivial⟩
theorem nZ {p q:Nat} {x:Bool×Int} {k r:Fo}:CU (.node p q x k r)↔CS (x,k)/\CU r:=by simp only [CU,CS];exact ⟨λ⟨a,b,c⟩=>⟨⟨a,b⟩,c⟩,λ⟨⟨a,b⟩,c⟩=>⟨a,b,c⟩⟩
theorem aCG:∀{F:Fo} {t:Tm},CU F->t∈F.list->CS t
 | .nil,_,_,h=>by simp [Fo.list] at h
 | .node p q x k r,t,hF,h=>by
  rw [nZ] at hF;simp only [Fo.list,List.mem_cons] at h;rcases h with rfl|h
  · exact hF.1
  · exact aCG hF.2 h
theorem RL:∀{F:Fo},CU F->Fo.narrow F
 | .nil,_=>trivial
 | .node p q x k r,h=>⟨by have:=h.1;omega,RL h.2.1,RL h.2.2⟩
theorem aH9 {t:Tm} (h:CS t):jD t:=⟨by have:=h.1;omega,RL h.2⟩
theorem JM {f:Int->Tm} (hf:∀n,CS (f n)):∀{F:Fo},CU F->CU (dD f F)
 | .nil,_=>trivial
 | .node p q ⟨v,n⟩ k r,h=>by
  rw [nZ] at h;rw [dE,nZ];refine ⟨?_,JM hf h.2⟩;cases v
  · rw [cK];exact ⟨by rw [lI];exact h.1.1,JM hf h.1.2⟩
  · exact hf n
theorem aIJ {f:Int->Tm} (hf:∀n,CS (f n)) {t:Tm} (h:CS t):CS (aH f t):=by
 obtain ⟨⟨v,n⟩,k⟩:=t;cases v
 · rw [cK];exact ⟨by rw [lI];exact h.1,JM hf h.2⟩
 · exact hf n
theorem aM9 {s:Sb} (h:∀p∈s,CS p.2) (n:Int):CS (aV s n):=by
 cases e:dA s n with
 |none=>rw [eF e];exact aHN n
 |some u=>rw [dO e];exact h _ (eD e)
structure Gd (t:Tm):Prop where
 ok:gN t
 two:CS t
 few:∀m,bU m t->0<=m/\m<=9
theorem Gd.nar {t:Tm} (h:Gd t):jD t:=aH9 h.two
theorem aHG {n:Int} (h:0<=n/\n<=9):Gd (vr n):=⟨UU n,aHN n,λm hm=>by rw [DI] at hm;subst hm;exact h⟩
theorem mH {F:Fo} {x:Bool×Int} {t:Tm} (h:Gd (x,F)) (hx:x.1=false) (ht:t∈F.list):Gd t:=by refine ⟨pO h.ok.2 ht,aCG h.two.2 ht,λm hm=>h.few m ?_⟩;unfold bU;simp only [hx,Bool.false_eq_true,if_false];exact iY.2 ⟨t,ht,hm⟩
theorem aP4 {s:Sb} (h:∀p∈s,Gd p.2) {n:Int} (hn:0<=n/\n<=9):Gd (aV s n):=by
 cases e:dA s n with
 |none=>rw [eF e];exact aHG hn
 |some u=>rw [dO e];exact h _ (eD e)
theorem mG {s:Sb} (h:∀p∈s,Gd p.2) {t:Tm} (ht:Gd t):Gd (aH (aV s) t):=by refine ⟨RQ (aH0 λp hp=>(h p hp).ok) t,aIJ (aM9 λp hp=>(h p hp).two) ht.two,λm hm=>?_⟩;obtain ⟨n,h1,h2⟩:=BD.1 hm;exact (aP4 h (ht.few n h1)).few m h2
theorem oN {s:Sb} (h:∀p∈s,Gd p.2) {t:Tm} (ht:Gd t):Gd (gZ s t):=by
 unfold gZ;split
 · cases e:dA s t.1.2 with
   |none=>simpa using ht
   |some u=>simpa using h _ (eD e)
 · exact ht
def Z6 (s:Sb):Prop:=∀p∈s,∀m,bU m p.2->dA s m=none
theorem PE {s:Sb} {u:Tm} (hu:gN u) (h:∀m,bU m u->dA s m=none):aH (aV s) u=u:=by rw [iM (g:=vr) (λm hm=>eF (h m hm)),oZ hu]
theorem mI {s:Sb} (hi:Z6 s) (ho:∀p∈s,gN p.2) (t:Tm):aH (aV s) (gZ s t)=aH (aV s) t:=by
 unfold gZ;split
 · rename_i hv;cases e:dA s t.1.2 with
   |none=>rfl
   |some u=>simp only [Option.getD_some];have hm:=eD e;rw [PE (ho _ hm) (hi _ hm),aH,if_pos hv,dO e]
 · rfl
theorem VB {s:Sb} (hi:Z6 s) {t:Tm} (h:(gZ s t).1.1=true):dA s (gZ s t).1.2=none:=by
 unfold gZ at h ⊢;split at h
 · rename_i hv;rw [if_pos hv];cases e:dA s t.1.2 with
   |none=>simp [e]
   |some u=>simp only [e,Option.getD_some] at h ⊢;refine hi _ (eD e) _ ?_;unfold bU;simp [h]
 · rename_i hv;exact absurd h hv
theorem aHM {t:Tm} (h:gN t) (hv:t.1.1=true):t=vr t.1.2:=by obtain ⟨⟨v,n⟩,k⟩:=t;have:k= .nil:=h.1 hv;have hv':v=true:=hv;subst this hv';rfl
theorem yJ {t:Tm} (hv:¬t.1.1=true):t=((false,t.1.2),t.2):=by
 obtain ⟨⟨v,n⟩,k⟩:=t;have hv':v=false:=by simpa using hv
 subst hv';rfl
theorem pG {s s':Sb} {n:Int} {t:Tm} (h:pK s n t=some s'):¬bU n t/\s'=(s.map λp=>(p.1,aH (aV [(n,t)]) p.2))++[(n,t)]:=by
 unfold pK at h;split at h
 · cases h
 · rename_i hh;exact ⟨λe=>hh (aL7.2 e),(Option.some.inj h).symm⟩
theorem tH (n:Int) (t:Tm) (m:Int):aV [(n,t)] m=if n=m then t else vr m:=by
 unfold aV dA;split
 · rfl
 · rfl
theorem rV {s s':Sb} {n:Int} {t:Tm} (h:pK s n t=some s') (m:Int):dA s' m=match dA s m with
 |some u=>some (aH (aV [(n,t)]) u)
 |none=>if n=m then some t else none:=by
 rw [(pG h).2,wG,aJK (aH (aV [(n,t)]))];cases dA s m with
 |none=>simp [dA]
 |some u=>rfl
def Ref (s s':Sb):Prop:=∀n,aH (aV s') (aV s n)=aV s' n
theorem iE {s s':Sb} (h:Ref s s') (t:Tm):aH (aV s') (aH (aV s) t)=aH (aV s') t:=by rw [VK];exact iM λn _=>h n
theorem EI {s s1 s':Sb} (h:Ref s s1) (h1:Ref s1 s'):Ref s s':=λn=>by rw [←iE h1,h n,h1 n]
theorem aIZ {s:Sb} (hi:Z6 s) (ho:∀p∈s,gN p.2):Ref s s:=λn=>by
 cases e:dA s n with
 |none=>rw [eF e];exact eF e
 |some u=>rw [dO e];exact PE (ho _ (eD e)) (hi _ (eD e))
theorem PY {s s':Sb} {n:Int} {t:Tm} (h:pK s n t=some s') (hi:Z6 s) (hn:dA s n=none) (ht:gN t) (hf:∀m,bU m t->dA s m=none):
 Ref s s'/\Z6 s'/\aV s' n=t/\aH (aV s') t=t/\(∀u,(∀m,bU m u->dA s m=none)->aH (aV s') u=aH (aV [(n,t)]) u):=by
 have hno:=(pG h).1;have hl:=rV h;have hb:∀m,dA s m=none->aV s' m=aV [(n,t)] m:=λm hm=>by have:=hl m;rw [hm] at this;simp only at this;rw [aV,this,tH];split<;>rfl
 have hs:∀u,(∀m,bU m u->dA s m=none)->aH (aV s') u=aH (aV [(n,t)]) u:=λu hu=>iM λm hm=>hb m (hu m hm);have ht1:aH (aV [(n,t)]) t=t:=by rw [iM (g:=vr),oZ ht];intro m hm;rw [tH,if_neg];intro e;subst e;exact hno hm
 have hfree:∀m,(dA s m=none)->n≠m->dA s' m=none:=λm hm he=>by have:=hl m;rw [hm] at this;simpa [he] using this
 refine ⟨?_,?_,?_,?_,hs⟩
 · intro m;cases e:dA s m with
   |none=>rw [eF e];rfl
   |some u=>rw [dO e,hs u (hi _ (eD e))];have:=hl m;rw [e] at this;exact (dO this).symm
 · intro p hp m hm;rw [(pG h).2] at hp;rw [List.mem_append,List.mem_map,List.mem_singleton] at hp;rcases hp with ⟨q,hq,rfl⟩|rfl
   · obtain ⟨j,h1,h2⟩:=BD.1 hm;rw [tH] at h2;split at h2
     · exact hfree m (hf m h2) (λe=>by subst e;exact hno h2)
     · rename_i hne;rw [DI] at h2;subst h2;exact hfree _ (hi q hq _ h1) hne
   · exact hfree m (hf m hm) (λe=>by subst e;exact hno hm)
 · rw [hb n hn,tH,if_pos rfl]
 · rw [hs t hf,ht1]
theorem AY {s:Sb} (hi:Z6 s) {t:Tm} {m:Int} (h:bU m (aH (aV s) t)):dA s m=none:=by
 obtain ⟨n,h1,h2⟩:=BD.1 h;cases e:dA s n with
 |none=>rw [eF e,DI] at h2;subst h2;exact e
 |some u=>rw [dO e] at h2;exact hi _ (eD e) m h2
def fre (s:Sb):Nat:=([0,1,2,3,4,5,6,7,8,9].filter λv:Int=>(dA s v).isNone).length
theorem PL {p q:Int->Bool}:∀{l:List Int},(∀m∈l,q m=true->p m=true)->(l.filter q).length<=(l.filter p).length
 |[],_=>by simp
 |b::l,hi=>by
  have ih:=PL (l:=l) (λm hm=>hi m (by simp [hm]));have hb:=hi b (by simp);cases hq:q b
  · cases hp:p b
    · simpa [hp,hq] using ih
    · simp [hp,hq];omega
  · simp [hb hq,hq];omega
theorem FT {p q:Int->Bool} {n:Int}:∀{l:List Int},n∈l->(∀m∈l,q m=true->p m=true)->p n=true->q n=false->(l.filter q).length<(l.filter p).length
 |[],h,_,_,_=>by simp at h
 |a::l,h,hi,hp,hq=>by
  have hle:=PL (l:=l) (p:=p) (q:=q) (λm hm=>hi m (by simp [hm]));by_cases ea:a=n
  · subst ea;simp [hp,hq];omega
  · have ih:=FT (n:=n) (l:=l) (by simpa [Ne.symm ea] using h) (λm hm=>hi m (by simp [hm])) hp hq;have ha:=hi a (by simp);cases e:q a
    · cases e':p a
      · simpa [e,e'] using ih
      · simp [e,e'];omega
    · simp [ha e,e];omega
theorem aMR {s s':Sb} {n:Int} {t:Tm} (h:pK s n t=some s') (hn:dA s n=none) (hr:0<=n/\n<=9):fre s'<fre s:=by
 refine FT (n:=n) ?_ ?_ ?_ ?_
 · have:n=0\/n=1\/n=2\/n=3\/n=4\/n=5\/n=6\/n=7\/n=8\/n=9:=by omega
   rcases this with rfl|rfl|rfl|rfl|rfl|rfl|rfl|rfl|rfl|rfl<;>decide
 · intro m _ hm;rw [rV h] at hm;cases e:dA s m with
   |none=>rfl
   |some u=>rw [e] at hm;simp at hm
 · simp [hn]
 · rw [rV h,hn];simp
def dpL (s:Sb) (D:Nat):List (Tm×Tm)->Prop
 |[]=>True
 |p::L=>gU (aH (aV s) p.1)+L.length<=D/\gU (aH (aV s) p.2)+L.length<=D/\dpL s D L
structure UI (s:Sb) (L:List (Tm×Tm)):Prop where
 gs:∀p∈s,Gd p.2
 vs:∀p∈s,0<=p.1/\p.1<=9
 gL:∀p∈L,Gd p.1/\Gd p.2
 idem:Z6 s
 five:s.length+fre s<=10
 dep:dpL s (12*2 ^ s.length) L
 deps:∀p∈s,gU p.2<=12*2 ^ s.length
theorem rO {s:Sb} {L:List (Tm×Tm)} (h:UI s L):∀p∈s,gN p.2:=λp hp=>(h.gs p hp).ok
theorem aMZ {s:Sb} {D:Nat}:∀{L:List (Tm×Tm)},dpL s D L->L.length<=D
 |[],_=>Nat.zero_le _
 |p::L,h=>by have:=h.1;simp only [gU,List.length_cons] at*;omega
theorem IP {s:Sb} {L:List (Tm×Tm)} (h:UI s L):L.length<=12288/\s.length<=10:=by have h5:=h.five;have h1:=aMZ h.dep;have h2:2 ^ s.length<=2 ^ 10:=Nat.pow_le_pow_right (by decide) (by omega);omega
theorem aMY {s:Sb} {D:Nat} {x y:Fo} {L:List (Tm×Tm)} (hx:lG (dD (aV s) x)+L.length+1<=D) (hy:lG (dD (aV s) y)+L.length+1<=D) (hl:Fo.len x<=2) (h:dpL s D L):
 dpL s D (x.list.zip y.list++L):=by
 have hz:∀p∈x.list.zip y.list,gU (aH (aV s) p.1)<=lG (dD (aV s) x)/\gU (aH (aV s) p.2)<=lG (dD (aV s) y):=by
  intro p hp;have h1:=List.of_mem_zip hp;refine ⟨SK ?_,SK ?_⟩
  · rw [gQ];exact List.mem_map_of_mem h1.1
  · rw [gQ];exact List.mem_map_of_mem h1.2
 have hlen:(x.list.zip y.list).length<=2:=by rw [List.length_zip,Fo.len_list];omega
 match hh:x.list.zip y.list,hlen with
 |[],_=>exact h
 |[p],_=>
  rw [hh] at hz;have:=hz p (by simp);refine ⟨?_,?_,h⟩
  · show _+L.length<=D;omega
  · show _+L.length<=D;omega
 |[p,q],_=>
  rw [hh] at hz;have h1:=hz p (by simp);have h2:=hz q (by simp);refine ⟨?_,?_,?_,?_,h⟩
  · show _+(L.length+1)<=D;omega
  · show _+(L.length+1)<=D;omega
  · show _+L.length<=D;omega
  · show _+L.length<=D;omega
theorem aDE {s s':Sb} {D d:Nat} {n:Int} {t:Tm} (hr:∀u,aH (aV s') u=aH (aV [(n,t)]) (aH (aV s) u)) (hd:gU t<=d+1):∀{L:List (Tm×Tm)},dpL s D L->dpL s' (D+d) L
 |[],_=>trivial
 |p::L,h=>by
  have ho:∀m,gU (aV [(n,t)] m)<=d+1:=λm=>by
   rw [tH];split
   · exact hd
   · simp [vr,gU,lG]
  refine ⟨?_,?_,aDE hr hd h.2.2⟩
  · rw [hr];have:=KJ ho (aH (aV s) p.1);have:=h.1;omega
  · rw [hr];have:=KJ ho (aH (aV s) p.2);have:=h.2.1;omega
theorem qQ {s s':Sb} {a b:Tm} {L L':List (Tm×Tm)} (h:kD s a b L=some (s',L')):
 ((gZ s a).1.1=true/\(gZ s b).1.1=true/\(gZ s a).1.2=(gZ s b).1.2/\s'=s/\L'=L)\/
 (∃x y,(x=gZ s a/\y=gZ s b\/x=gZ s b/\y=gZ s a)/\x.1.1=true/\pK s x.1.2 (aH (aV s) y)=some s'/\L'=L)\/
 (¬(gZ s a).1.1=true/\¬(gZ s b).1.1=true/\(gZ s a).1.2=(gZ s b).1.2/\Fo.len (gZ s a).2=Fo.len (gZ s b).2/\s'=s/\L'=(gZ s a).2.list.zip (gZ s b).2.list++L):=by
 unfold kD at h;split at h
 · rename_i hc;simp only [Option.some.injEq,Prod.mk.injEq] at h;exact .inl ⟨hc.1,hc.2.1,hc.2.2,h.1.symm,h.2.symm⟩
 · split at h
   · rename_i hv;simp only [Option.map_eq_some_iff,Prod.mk.injEq] at h;obtain ⟨s1,h1,rfl,rfl⟩:=h;exact .inr (.inl ⟨_,_,.inl ⟨rfl,rfl⟩,hv,h1,rfl⟩)
   · split at h
     · rename_i hv;simp only [Option.map_eq_some_iff,Prod.mk.injEq] at h;obtain ⟨s1,h1,rfl,rfl⟩:=h;exact .inr (.inl ⟨_,_,.inr ⟨rfl,rfl⟩,hv,h1,rfl⟩)
     · split at h
       · rename_i h1 h2 h3;simp only [Option.some.injEq,Prod.mk.injEq] at h;exact .inr (.inr ⟨h1,h2,h3.1,h3.2,h.1.symm,h.2.symm⟩)
       · cases h
theorem aK6 {s:Sb} {p:Tm×Tm} {L:List (Tm×Tm)} (h:UI s (p::L)):UI s L:=
 ⟨h.gs,h.vs,λq hq=>h.gL q (by simp [hq]),h.idem,h.five,h.dep.2.2,h.deps⟩
theorem JO {s s':Sb} {p:Tm×Tm} {L:List (Tm×Tm)} {x y:Tm} (h:UI s (p::L)) (hxy:x=gZ s p.1/\y=gZ s p.2\/x=gZ s p.2/\y=gZ s p.1) (hv:x.1.1=true) (ha:pK s x.1.2 (aH (aV s) y)=some s'):
 UI s' L/\fre s'<fre s/\Ref s s'/\aV s' x.1.2=aH (aV s') y:=by
 have hp:=h.gL p (by simp);have hgx:Gd x:=by rcases hxy with ⟨rfl,_⟩|⟨rfl,_⟩;exact oN h.gs hp.1;exact oN h.gs hp.2
 have hgy:Gd y:=by rcases hxy with ⟨_,rfl⟩|⟨_,rfl⟩;exact oN h.gs hp.2;exact oN h.gs hp.1
 have hfree:dA s x.1.2=none:=by rcases hxy with ⟨rfl,_⟩|⟨rfl,_⟩<;>exact VB h.idem hv
 have aQO:0<=x.1.2/\x.1.2<=9:=hgx.few _ (by unfold bU;simp [hv]);have hdy:gU (aH (aV s) y)<=12*2 ^ s.length:=by
  have h1:=h.dep.1;have h2:=h.dep.2.1;rcases hxy with ⟨_,rfl⟩|⟨_,rfl⟩
  · rw [mI h.idem (rO h)];omega
  · rw [mI h.idem (rO h)];omega
 have hgt:=mG h.gs hgy;obtain ⟨f1,f2,f3,f4,f5⟩:=PY ha h.idem hfree hgt.ok (λm hm=>AY h.idem hm);have hlt:=aMR ha hfree aQO;have e:=(pG ha).2;have hlen:s'.length=s.length+1:=by rw [e];simp
 have aS8:12*2 ^ s'.length=12*2 ^ s.length+12*2 ^ s.length:=by rw [hlen,Nat.pow_succ];omega
 have hpos:0<2 ^ s.length:=Nat.pow_pos (by decide);have hone:∀q∈[(x.1.2,aH (aV s) y)],Gd q.2:=λq hq=>by simp only [List.mem_singleton] at hq;subst hq;exact hgt
 have hd1:∀m,gU (aV [(x.1.2,aH (aV s) y)] m)<=(12*2 ^ s.length - 1)+1:=λm=>by
  rw [tH];split
  · omega
  · simp [vr,gU,lG]
 have hr:∀u,aH (aV s') u=aH (aV [(x.1.2,aH (aV s) y)]) (aH (aV s) u):=λu=>by rw [←iE f1,f5 _ (λm hm=>AY h.idem hm)]
 refine ⟨⟨?_,?_,λq hq=>h.gL q (by simp [hq]),f2,by have:=h.five;omega,?_,?_⟩,hlt,f1,?_⟩
 · intro q hq;rw [e,List.mem_append,List.mem_map,List.mem_singleton] at hq;rcases hq with ⟨q,hq,rfl⟩|rfl
   · exact mG hone (h.gs q hq)
   · exact hgt
 · intro q hq;rw [e,List.mem_append,List.mem_map,List.mem_singleton] at hq;rcases hq with ⟨q,hq,rfl⟩|rfl
   · exact h.vs q hq
   · exact aQO
 · rw [aS8];have:=aDE (D:=12*2 ^ s.length) (d:=12*2 ^ s.length - 1) hr (by omega) h.dep.2.2;have hm:∀{D D':Nat} {M:List (Tm×Tm)},D<=D'->dpL s' D M->dpL s' D' M:=by
    intro D D' M hD;induction M with
    |nil=>exact λ_=>trivial
    |cons q M ih=>exact λhM=>⟨Nat.le_trans hM.1 hD,Nat.le_trans hM.2.1 hD,ih hM.2.2⟩
   exact hm (by omega) this
 · intro q hq;rw [e,List.mem_append,List.mem_map,List.mem_singleton] at hq;rcases hq with ⟨q,hq,rfl⟩|rfl
   · have:=KJ hd1 q.2;have:=h.deps q hq;simp only;omega
   · simp only;omega
 · rw [f3,←iE f1,f4]
def eO (t:Tm):Nat:=aM t.2
def TR (s:Sb):List (Tm×Tm)->Nat
 |[]=>0
 |p::L=>eO (aH (aV s) p.1)+eO (aH (aV s) p.2)+TR s L
theorem KT (s:Sb):∀L M:List (Tm×Tm),TR s (L++M)=TR s L+TR s M
 |[],M=>by simp [TR]
 |p::L,M=>by simp only [List.cons_append,TR,KT s L M];omega
theorem aCL (s:Sb):∀{F G:Fo},Fo.len F=Fo.len G->TR s (F.list.zip G.list)=Fo.sizesR (dD (aV s) F)+Fo.sizesR (dD (aV s) G)
 | .nil,.nil,_=>rfl
 | .nil,.node _ _ _ _ _,h=>by simp [Fo.len] at h
 | .node _ _ _ _ _,.nil,h=>by simp [Fo.len] at h
 | .node p q x k r,.node p' q' y l r',h=>by have:=aCL s (F:=r) (G:=r') (by simpa [Fo.len] using h);rw [dE,dE];simp only [Fo.list,List.zip_cons_cons,TR,this,Fo.sizesR,eO,aM];omega
theorem aIL {s:Sb} {p:Tm×Tm} {L:List (Tm×Tm)} (h:UI s (p::L)) (e1:¬(gZ s p.1).1.1=true) (e2:¬(gZ s p.2).1.1=true) (hl:Fo.len (gZ s p.1).2=Fo.len (gZ s p.2).2):
 UI s ((gZ s p.1).2.list.zip (gZ s p.2).2.list++L)/\TR s ((gZ s p.1).2.list.zip (gZ s p.2).2.list++L)<TR s (p::L):=by
 have hp:=h.gL p (by simp);have g1:=oN h.gs hp.1;have g2:=oN h.gs hp.2;have t1:=mI h.idem (rO h) p.1;have t2:=mI h.idem (rO h) p.2;have s1:=yJ e1;have s2:=yJ e2;generalize gZ s p.1=x at*;generalize gZ s p.2=y at*;obtain ⟨⟨xv,xn⟩,xk⟩:=x;obtain ⟨⟨yv,yn⟩,yk⟩:=y;have hxv:xv=false:=by simpa using e1
 have hyv:yv=false:=by simpa using e2
 subst hxv hyv;rw [cK] at t1 t2;have d1:=h.dep.1;have d2:=h.dep.2.1;rw [←t1] at d1;rw [←t2] at d2;simp only [gU] at d1 d2;refine ⟨⟨h.gs,h.vs,?_,h.idem,h.five,?_,h.deps⟩,?_⟩
 · intro q hq;rw [List.mem_append] at hq;rcases hq with hq|hq
   · have:=List.of_mem_zip hq;exact ⟨mH g1 rfl this.1,mH g2 rfl this.2⟩
   · exact h.gL q (by simp [hq])
 · exact aMY (x:=xk) (y:=yk) (by omega) (by omega) g1.two.1 h.dep.2.2
 · rw [KT,aCL s hl,TR,←t1,←t2];simp only [eO,aM];omega
theorem tO {s s':Sb} {p:Tm×Tm} {L L':List (Tm×Tm)} (h:UI s (p::L)) (hst:kD s p.1 p.2 L=some (s',L')):
 UI s' L'/\(fre s'<fre s\/(fre s'=fre s/\TR s' L'<TR s (p::L))):=by
 rcases qQ hst with ⟨_,_,_,rfl,rfl⟩|⟨x,y,hxy,hv,ha,rfl⟩|⟨e1,e2,_,hl,rfl,rfl⟩
 · refine ⟨aK6 h,.inr ⟨rfl,?_⟩⟩;simp only [TR,eO,aM];omega
 · have:=JO h hxy hv ha;exact ⟨this.1,.inl this.2.1⟩
 · have:=aIL h e1 e2 hl;exact ⟨this.1,.inr ⟨rfl,this.2⟩⟩
theorem aIP:∀(u t:Nat) (s:Sb) (L:List (Tm×Tm)),fre s=u->TR s L=t->UI s L->∃n R,iV n s L=some R:=by
 intro u;induction u using Nat.strongRecOn with
 |_ u ihu=>
  intro t;induction t using Nat.strongRecOn with
  |_ t iht=>
   intro s L hu ht h;cases L with
   |nil=>exact ⟨1,some s,rfl⟩
   |cons p L=>
    cases hst:kD s p.1 p.2 L with
    |none=>exact ⟨1,none,by simp [iV,hst]⟩
    |some q=>
     obtain ⟨s',L'⟩:=q;obtain ⟨h',hd⟩:=tO h hst;have:∃n R,iV n s' L'=some R:=by
      rcases hd with hd|⟨he,hd⟩
      · exact ihu (fre s') (by omega) (TR s' L') s' L' rfl rfl h'
      · exact iht (TR s' L') (by omega) s' L' (by omega) rfl h'
     obtain ⟨n,R,hn⟩:=this;exact ⟨n+1,R,by simp [iV,hst,hn]⟩
theorem aA5:∀(n:Nat) (s s':Sb) (L:List (Tm×Tm)),UI s L->iV n s L=some (some s')->UI s' []/\Ref s s'/\∀p∈L,aH (aV s') p.1=aH (aV s') p.2:=by
 intro n;induction n with
 |zero=>intro s s' L _ hr;simp [iV] at hr
 |succ n ih=>
  intro s s' L h hr;cases L with
  |nil=>simp only [iV,Option.some.injEq] at hr;subst hr;exact ⟨h,aIZ h.idem (rO h),λp hp=>by simp at hp⟩
  |cons p L=>
   cases hst:kD s p.1 p.2 L with
   |none=>simp [iV,hst] at hr
   |some q=>
    obtain ⟨s1,L1⟩:=q;simp only [iV,hst] at hr;obtain ⟨h1,_⟩:=tO h hst;obtain ⟨i1,i2,i3⟩:=ih s1 s' L1 h1 hr;rcases qQ hst with ⟨e1,e2,e3,rfl,rfl⟩|⟨x,y,hxy,hv,ha,rfl⟩|⟨e1,e2,e3,hl,rfl,rfl⟩
    · refine ⟨i1,i2,λq hq=>?_⟩;simp only [List.mem_cons] at hq;rcases hq with rfl|hq
      · have hp:=h.gL q (by simp);have g1:=aHM (oN h.gs hp.1).ok e1;have g2:=aHM (oN h.gs hp.2).ok e2;have et:gZ s1 q.1=gZ s1 q.2:=by rw [g1,g2,e3]
        rw [←iE i2 q.1,←iE i2 q.2,←mI h.idem (rO h) q.1,←mI h.idem (rO h) q.2,et]
      · exact i3 q hq
    · obtain ⟨_,_,f1,f2⟩:=JO h hxy hv ha;have hsame:aH (aV s1) (gZ s p.1)=aH (aV s1) (gZ s p.2):=by
       have hx:aH (aV s1) x=aH (aV s1) y:=by rw [←f2];unfold aH;rw [if_pos hv]
       rcases hxy with ⟨rfl,rfl⟩|⟨rfl,rfl⟩
       · exact hx
       · exact hx.symm
      refine ⟨i1,EI f1 i2,λq hq=>?_⟩;simp only [List.mem_cons] at hq;rcases hq with rfl|hq
      · have k:∀t,aH (aV s') t=aH (aV s') (aH (aV s1) (gZ s t)):=λt=>by
         rw [iE i2,←iE (EI f1 i2) t,←mI h.idem (rO h) t,iE (EI f1 i2)]
        rw [k q.1,k q.2,hsame]
      · exact i3 q hq
    · refine ⟨i1,i2,λq hq=>?_⟩;simp only [List.mem_cons] at hq;rcases hq with rfl|hq
      · have hz:=X6 (f:=aV s') (aH0 (rO i1)) hl (λr hr=>i3 r (by simp [hr]));have k:∀t,aH (aV s') t=aH (aV s') (gZ s1 t):=λt=>by
         rw [←iE i2 t,←mI h.idem (rO h) t,iE i2]
        rw [k q.1,k q.2,yJ e1,yJ e2,cK,cK,hz,e3]
      · exact i3 q (by simp [hq])
theorem D9 {n:Int} {f:Int->Tm}:∀{F:Fo},eH n F->eO (f n)<=Fo.sizesR (dD f F)
 | .nil,h=>by simp [eH] at h
 | .node p q ⟨v,m⟩ k r,h=>by
  rw [dE];simp only [Fo.sizesR];rcases h with h|h
  · cases v
    · have:=D9 (f:=f) (F:=k) (by simpa using h);simp only [cK];omega
    · have e:m=n:=by simpa using h
      subst e;simp only [fJ,eO,aM];omega
  · have:=D9 (f:=f) (F:=r) h;omega
def jC (v:Int):Fo->Nat
 | .nil=>0
 | .node _ _ x k r=>(if x.1=true/\x.2=v then 1 else 0)+jC v k+jC v r
def fO (v:Int) (t:Tm):Nat:=(if t.1.1=true/\t.1.2=v then 1 else 0)+jC v t.2
theorem lV (v:Int) (p q:Nat) (x:Bool×Int) (k r:Fo):jC v (.node p q x k r)=fO v (x,k)+jC v r:=rfl
def yE (a b:Tm):Bool:=(bG b.1 b.2 []).all λv=>decide (fO v b<=fO v a)
def hdT (x:Bool×Int) (k:Fo) (y:Bool×Int) (l:Fo) (rec:Bool):Bool:=
 if x.1 then false else if !yE (x,k) (y,l) then false else if aM k≠aM l then decide (aM l<aM k) else if y.1||decide (x.2<y.2) then false else if y.2<x.2 then true else rec
def xP:Fo->Fo->Bool
 | .node _ _ x k r,.node _ _ y l q=>if cB x k y l then xP r q else hdT x k y l (xP k l)
 | .nil,_=>false
 | .node _ _ _ _ _,.nil=>false
def dU (a b:Tm):Bool:=hdT a.1 a.2 b.1 b.2 (xP a.2 b.2)
theorem JE {v:Int}:∀{F:Fo},Fo.ok F->0<jC v F->eH v F
 | .nil,_,h=>by simp [jC] at h
 | .node p q x k r,ho,h=>by
  obtain ⟨_,_,h3,h4⟩:=dG.1 ho;rw [lV] at h;by_cases hr:0<jC v r
  · rw [eH];exact .inr (JE h4 hr)
  · have h1:0<fO v (x,k):=by omega
    rw [eH];refine .inl ?_;unfold fO at h1;simp only at h1;by_cases hx:x.1=true
    · rw [if_pos hx];have hk:k= .nil:=h3.1 hx;subst hk;by_cases hv:x.2=v
      · exact hv
      · rw [if_neg (λe=>hv e.2)] at h1;simp [jC] at h1
    · rw [if_neg hx];rw [if_neg (λe=>hx e.1)] at h1;exact JE h3.2 (by omega)
theorem aCN {v:Int} {t:Tm} (h:gN t) (hv:0<fO v t):bU v t:=by
 have:=JE (v:=v) (F:= .node 0 0 t.1 t.2 .nil) (dG.2 ⟨rfl,rfl,h,trivial⟩) (by rw [lV];exact Nat.lt_of_lt_of_le hv (Nat.le_add_right _ _));rw [eH] at this;rcases this with h|h
 · exact h
 · exact absurd h (by simp [eH])
theorem SC {a b:Tm} (h:gN b):yE a b=true↔∀v,fO v b<=fO v a:=by
 unfold yE;rw [List.all_eq_true];refine ⟨λhh v=>?_,λhh v _=>decide_eq_true (hh v)⟩;by_cases hv:0<fO v b
 · exact of_decide_eq_true (hh v (EP.2 (aCN h hv)))
 · omega
theorem o7 {a b:Tm} (h:gN b):dU a b=true↔a.1.1=false/\(∀v,fO v b<=fO v a)/\(eO b<eO a\/(eO a=eO b/\b.1.1=false/\(b.1.2<a.1.2\/(a.1.2=b.1.2/\xP a.2 b.2=true)))):=by
 unfold dU hdT;have hm:=SC (a:=a) h;show (if a.1.1 then false else if !yE a b then false else _)=true↔_;by_cases h1:a.1.1=true
 · simp [h1]
 · have h1':a.1.1=false:=by simpa using h1
   rw [if_neg h1];by_cases h2:yE a b=true
   · rw [if_neg (by simp [h2])];have hv:=hm.1 h2;by_cases h3:aM a.2=aM b.2
     · rw [if_neg (by simp [h3])];by_cases h4:b.1.1=true
       · rw [if_pos (by simp [h4])];simp only [Bool.false_eq_true,false_iff];rintro ⟨_,_,h|⟨_,h,_⟩⟩
         · unfold eO at h;omega
         · rw [h4] at h;cases h
       · have h4':b.1.1=false:=by simpa using h4
         by_cases h5:a.1.2<b.1.2
         · rw [if_pos (by simp [h5])];simp only [Bool.false_eq_true,false_iff];rintro ⟨_,_,h|⟨_,_,h|h⟩⟩
           · unfold eO at h;omega
           · omega
           · omega
         · rw [if_neg (by simp [h4',h5])];by_cases h6:b.1.2<a.1.2
           · rw [if_pos h6];simp only [true_iff];exact ⟨h1',hv,.inr ⟨h3,h4',.inl h6⟩⟩
           · rw [if_neg h6];refine ⟨λhl=>⟨h1',hv,.inr ⟨h3,h4',.inr ⟨by omega,hl⟩⟩⟩,?_⟩;rintro ⟨_,_,h|⟨_,_,h|h⟩⟩
             · unfold eO at h;omega
             · omega
             · exact h.2
     · rw [if_pos h3];refine ⟨λhl=>⟨h1',hv,.inl (of_decide_eq_true hl)⟩,?_⟩;rintro ⟨_,_,h|⟨h,_⟩⟩
       · exact decide_eq_true h
       · exact absurd h h3
   · rw [if_pos (by simpa using h2)];simp only [Bool.false_eq_true,false_iff];rintro ⟨_,h,_⟩;exact h2 (hm.2 h)
def sS:List Tm->List Tm->Prop
 |a::r,b::q=>(a=b/\sS r q)\/(a≠b/\dU a b=true)
 |[],_=>False
 |_::_,[]=>False
theorem o5:∀{k l:Fo},Fo.ok k->Fo.ok l->(xP k l=true↔sS k.list l.list)
 | .nil,_,_,_=>by simp [xP,Fo.list,sS]
 | .node _ _ _ _ _,.nil,_,_=>by simp [xP,Fo.list,sS]
 | .node _ _ x k r,.node _ _ y l q,h1,h2=>by
  obtain ⟨_,_,h3,h4⟩:=dG.1 h1;obtain ⟨_,_,h5,h6⟩:=dG.1 h2;have hs:=kS (t:=(x,k)) (u:=(y,l)) h3 h5;simp only at hs;rw [xP,Fo.list,Fo.list,sS];by_cases hh:cB x k y l=true
  · rw [if_pos hh];have he:=hs.1 hh;refine ⟨λh=> .inl ⟨he,(o5 h4 h6).1 h⟩,?_⟩;rintro (⟨_,h⟩|⟨h,_⟩)
    · exact (o5 h4 h6).2 h
    · exact absurd he h
  · rw [if_neg hh];have hn:(x,k)≠(y,l):=λe=>hh (hs.2 e);refine ⟨λh=> .inr ⟨hn,h⟩,?_⟩;rintro (⟨h,_⟩|⟨_,h⟩)
    · exact absurd h hn
    · exact h
theorem aC9:∀{ks:List Tm},¬sS ks ks
 |[],h=>h
 |a::r,h=>by
  rw [sS] at h;rcases h with ⟨_,h⟩|⟨h,_⟩
  · exact aC9 h
  · exact h rfl
theorem SQ {a:Tm} (h:gN a):¬dU a a=true:=λhh=>by
 obtain ⟨_,_,h1|⟨_,_,h1|⟨_,h1⟩⟩⟩:=(o7 h).1 hh
 · omega
 · omega
 · exact aC9 ((o5 h.2 h.2).1 h1)
theorem RF {a b:Tm} (h:gN a) (hh:dU a b=true):a≠b:=λe=>by subst e;exact SQ h hh
theorem O7:∀{ks ls ms:List Tm},(∀a∈ks,gN a)->(∀a∈ks,∀b∈ls,∀c∈ms,dU a b=true->dU b c=true->dU a c=true)->sS ks ls->sS ls ms->sS ks ms
 |[],_,_,_,_,h,_=>h.elim
 |_::_,[],_,_,_,h,_=>h.elim
 |_::_,_::_,[],_,_,_,h=>h.elim
 |a::r,b::q,c::p,ho,ht,h1,h2=>by
  rw [sS] at h1 h2 ⊢;rcases h1 with ⟨rfl,h1⟩|⟨n1,h1⟩
  · rcases h2 with ⟨rfl,h2⟩|⟨n2,h2⟩
    · exact .inl ⟨rfl,O7 (λz hz=>ho z (by simp [hz])) (λx hx y hy z hz=>ht x (by simp [hx]) y (by simp [hy]) z (by simp [hz])) h1 h2⟩
    · exact .inr ⟨n2,h2⟩
  · rcases h2 with ⟨rfl,h2⟩|⟨n2,h2⟩
    · exact .inr ⟨n1,h1⟩
    · have h3:=ht a (by simp) b (by simp) c (by simp) h1 h2;exact .inr ⟨RF (ho a (by simp)) h3,h3⟩
theorem IQ {x:Bool×Int} {k:Fo} {t:Tm} (h:t∈k.list):eO t<eO (x,k):=by
 show aM t.2<aM k;have hm:∀(l:List Tm),t∈l->aM t.2<=(l.map λy=>aM y.2).sum:=by
  intro l;induction l with
  |nil=>intro h;simp at h
  |cons a l ih=>
   intro h;simp only [List.mem_cons] at h;simp only [List.map_cons,List.sum_cons];rcases h with rfl|h
   · omega
   · have:=ih h;omega
 have:=hm k.list h;rw [←vW] at this;unfold aM at this ⊢;omega
theorem E9:∀(n:Nat) {a b c:Tm},eO a=n->gN a->gN b->gN c->dU a b=true->dU b c=true->dU a c=true:=by
 intro n;induction n using Nat.strongRecOn with
 |_ n ih=>
  intro a b c hn ha hb hc h1 h2;obtain ⟨a1,a2,a3⟩:=(o7 hb).1 h1;obtain ⟨b1,b2,b3⟩:=(o7 hc).1 h2;refine (o7 hc).2 ⟨a1,λv=>Nat.le_trans (b2 v) (a2 v),?_⟩;rcases a3 with a3|⟨a3,_,a4⟩
  · rcases b3 with b3|⟨b3,_,_⟩
    · exact .inl (by omega)
    · exact .inl (by omega)
  · rcases b3 with b3|⟨b3,b5,b4⟩
    · exact .inl (by omega)
    · refine .inr ⟨by omega,b5,?_⟩;rcases a4 with a4|⟨a4,a6⟩
      · rcases b4 with b4|⟨b4,_⟩
        · exact .inl (by omega)
        · exact .inl (by omega)
      · rcases b4 with b4|⟨b4,b6⟩
        · exact .inl (by omega)
        · refine .inr ⟨by omega,(o5 ha.2 hc.2).2 (O7 (λt ht=>pO ha.2 ht) (λx hx y hy z hz p q=>?_) ((o5 ha.2 hb.2).1 a6) ((o5 hb.2 hc.2).1 b6))⟩;have:=IQ (x:=a.1) hx;exact ih (eO x) (by rw [←hn];exact this) rfl (pO ha.2 hx) (pO hb.2 hy) (pO hc.2 hz) p q
theorem XQ {a b:Tm} (ha:gN a) (hb:gN b) (h:dU a b=true):¬dU b a=true:=λh2=>SQ ha (E9 _ rfl ha hb ha h h2)
theorem OB (v:Int):∀F:Fo,jC v F=(F.list.map (fO v)).sum
 | .nil=>rfl
 | .node p q x k r=>by rw [lV,Fo.list,List.map_cons,List.sum_cons,OB v r]
def TG (c:Int->Nat):Fo->Nat
 | .nil=>0
 | .node _ _ x k r=>(if x.1=true then c x.2 else 0)+TG c k+TG c r
def wgT (c:Int->Nat) (t:Tm):Nat:=(if t.1.1=true then c t.1.2 else 0)+TG c t.2
theorem I5 {c:Int->Nat}:∀{F:Fo},Fo.ok F->(∀m,eH m F->0<=m/\m<=9)->TG c F=jC 0 F*c 0+jC 1 F*c 1+jC 2 F*c 2+jC 3 F*c 3+jC 4 F*c 4+jC 5 F*c 5+jC 6 F*c 6+jC 7 F*c 7+jC 8 F*c 8+jC 9 F*c 9
 | .nil,_,_=>by simp [TG,jC]
 | .node _ _ x k r,ho,hv=>by
  obtain ⟨_,_,h3,h4⟩:=dG.1 ho;have hr:=I5 (c:=c) h4 (λm hm=>hv m (by rw [eH];exact .inr hm));by_cases hx:x.1=true
  · have hk:k= .nil:=h3.1 hx;subst hk;have hm:=hv x.2 (by rw [eH,if_pos hx];exact .inl rfl);have hc:x.2=0\/x.2=1\/x.2=2\/x.2=3\/x.2=4\/x.2=5\/x.2=6\/x.2=7\/x.2=8\/x.2=9:=by omega
    rw [TG,hr,if_pos hx];simp only [jC,hx,true_and];rcases hc with e|e|e|e|e|e|e|e|e|e<;>simp [e,TG,Nat.add_mul]<;>omega
  · have hk:=I5 (c:=c) h3.2 (λm hm=>hv m (by rw [eH,if_neg hx];exact .inl hm));rw [TG,hr,hk,if_neg hx];simp only [jC,hx,Nat.add_mul];simp;omega
theorem UY {c:Int->Nat} {t:Tm} (h:Gd t):wgT c t=fO 0 t*c 0+fO 1 t*c 1+fO 2 t*c 2+fO 3 t*c 3+fO 4 t*c 4+fO 5 t*c 5+fO 6 t*c 6+fO 7 t*c 7+fO 8 t*c 8+fO 9 t*c 9:=by
 have:=I5 (c:=c) (F:= .node 0 0 t.1 t.2 .nil) (dG.2 ⟨rfl,rfl,h.ok,trivial⟩) (λm hm=>h.few m (by
  rw [eH] at hm;rcases hm with hm|hm
  · exact hm
  · exact absurd hm (by simp [eH])))
 exact this
theorem aCC {c:Int->Nat} {a b:Tm} (ha:Gd a) (hb:Gd b) (h:∀v,fO v b<=fO v a):wgT c b<=wgT c a:=by rw [UY ha,UY hb];have h0:=Nat.mul_le_mul_right (c 0) (h 0);have h1:=Nat.mul_le_mul_right (c 1) (h 1);have h2:=Nat.mul_le_mul_right (c 2) (h 2);have h3:=Nat.mul_le_mul_right (c 3) (h 3);have h4:=Nat.mul_le_mul_right (c 4) (h 4);have h5:=Nat.mul_le_mul_right (c 5) (h 5);have h6:=Nat.mul_le_mul_right (c 6) (h 6);have h7:=Nat.mul_le_mul_right (c 7) (h 7);have h8:=Nat.mul_le_mul_right (c 8) (h 8);have h9:=Nat.mul_le_mul_right (c 9) (h 9);omega
theorem yR {f:Int->Tm}:∀{F:Fo},Fo.ok F->Fo.sizesR (dD f F)=Fo.sizesR F+TG (λn=>Fo.sizesR (f n).2) F
 | .nil,_=>rfl
 | .node _ _ x k r,ho=>by
  obtain ⟨_,_,h3,h4⟩:=dG.1 ho;rw [dE,Fo.sizesR,Fo.sizesR,TG,yR h4];unfold aH;by_cases hx:x.1=true
  · have hk:k= .nil:=h3.1 hx;subst hk;simp only [hx,if_true,Fo.sizesR,TG];omega
  · rw [if_neg hx,if_neg hx];simp only [yR h3.2];omega
theorem D6 {f:Int->Tm} {t:Tm} (h:gN t):eO (aH f t)=eO t+wgT (λn=>Fo.sizesR (f n).2) t:=by
 unfold aH eO wgT aM;by_cases hx:t.1.1=true
 · rw [if_pos hx,if_pos hx,h.1 hx];simp only [Fo.sizesR,TG];omega
 · rw [if_neg hx,if_neg hx];simp only [yR h.2];omega
theorem JN {f:Int->Tm} (v:Int):∀{F:Fo},Fo.ok F->jC v (dD f F)=TG (λn=>fO v (f n)) F
 | .nil,_=>rfl
 | .node _ _ x k r,ho=>by
  obtain ⟨_,_,h3,h4⟩:=dG.1 ho;rw [dE,lV,TG,JN v h4];unfold aH;by_cases hx:x.1=true
  · have hk:k= .nil:=h3.1 hx;subst hk;simp only [hx,if_true,TG];rfl
  · rw [if_neg hx,if_neg hx];have e:fO v ((false,x.2),dD f k)=jC v (dD f k):=by simp [fO]
    show fO v ((false,x.2),dD f k)+_=_;rw [e,JN v h3.2];simp only;omega
theorem VJ {f:Int->Tm} (v:Int) {t:Tm} (h:gN t):fO v (aH f t)=wgT (λn=>fO v (f n)) t:=by
 unfold aH wgT;by_cases hx:t.1.1=true
 · rw [if_pos hx,if_pos hx,h.1 hx];simp only [TG];rfl
 · rw [if_neg hx,if_neg hx];have e:fO v ((false,t.1.2),dD f t.2)=jC v (dD f t.2):=by simp [fO]
   rw [e,JN v h.2];omega
theorem aC7 {f:Int->Tm} (hf:∀n,gN (f n)):∀{ks ls:List Tm},(∀a∈ks,∀b∈ls,dU a b=true->dU (aH f a) (aH f b)=true)->sS ks ls->sS (ks.map (aH f)) (ls.map (aH f))
 |[],_,_,h=>h.elim
 |_::_,[],_,h=>h.elim
 |a::r,b::q,ht,h=>by
  rw [sS] at h;rw [List.map_cons,List.map_cons,sS];rcases h with ⟨rfl,h⟩|⟨_,h⟩
  · exact .inl ⟨rfl,aC7 hf (λx hx y hy=>ht x (by simp [hx]) y (by simp [hy])) h⟩
  · have h1:=ht a (by simp) b (by simp) h;exact .inr ⟨RF (RQ hf a) h1,h1⟩
theorem aNE {f:Int->Tm} (hf:∀n,gN (f n)):∀(n:Nat) {a b:Tm},eO a=n->Gd a->Gd b->dU a b=true->dU (aH f a) (aH f b)=true:=by
 intro n;induction n using Nat.strongRecOn with
 |_ n ih=>
  intro a b hn ga gb h;obtain ⟨a1,a2,a3⟩:=(o7 gb.ok).1 h;have ea:aH f a=((false,a.1.2),dD f a.2):=by unfold aH;rw [if_neg (by simp [a1])]
  have hs:eO (aH f b)<=eO (aH f a)/\(eO b<eO a->eO (aH f b)<eO (aH f a)):=by
   have h1:=aCC (c:=λn=>Fo.sizesR (f n).2) ga gb a2;have h2:eO b<=eO a:=by rcases a3 with h|h<;>omega
   rw [D6 ga.ok,D6 gb.ok];exact ⟨by omega,λ_=>by omega⟩
  refine (o7 (RQ hf b)).2 ⟨by rw [ea],λv=>?_,?_⟩
  · rw [VJ v ga.ok,VJ v gb.ok];exact aCC ga gb a2
  · by_cases hlt:eO (aH f b)<eO (aH f a)
    · exact .inl hlt
    · rcases a3 with a3|⟨a3,b1,a4⟩
      · exact .inl (hs.2 a3)
      · have eb:aH f b=((false,b.1.2),dD f b.2):=by unfold aH;rw [if_neg (by simp [b1])]
        refine .inr ⟨by omega,by rw [eb],?_⟩;rw [ea,eb];rcases a4 with a4|⟨a4,a5⟩
        · exact .inl a4
        · refine .inr ⟨a4,(o5 (sZ hf a.2) (sZ hf b.2)).2 ?_⟩;rw [gQ,gQ];refine aC7 hf (λx hx y hy hxy=>?_) ((o5 ga.ok.2 gb.ok.2).1 a5);exact ih (eO x) (by rw [←hn];exact IQ (x:=a.1) hx) rfl (mH (x:=a.1) ga a1 hx) (mH (x:=b.1) gb b1 hy) hxy
theorem JU (v:Int):∀{F:Fo} {i:Nat} {y:Tm} (f:Tm->Tm),F.list[i]?=some y->jC v (fF F i f)+fO v y=jC v F+fO v (f y)
 | .nil,_,_,_,h=>by simp [Fo.list] at h
 | .node _ _ x k r,0,y,f,h=>by simp only [Fo.list,List.getElem?_cons_zero,Option.some.injEq] at h;subst h;rw [fF,lV,lV];show fO v (f (x,k))+jC v r+fO v (x,k)=fO v (x,k)+jC v r+fO v (f (x,k));omega
 | .node _ _ x k r,i+1,y,f,h=>by have:=JU v f (F:=r) (i:=i) (by simpa [Fo.list] using h);rw [fF,lV,lV];omega
theorem A7:∀{F:Fo} {i:Nat} {y:Tm} (f:Tm->Tm),F.list[i]?=some y->Fo.sizesR (fF F i f)+eO y=Fo.sizesR F+eO (f y)
 | .nil,_,_,_,h=>by simp [Fo.list] at h
 | .node _ _ x k r,0,y,f,h=>by simp only [Fo.list,List.getElem?_cons_zero,Option.some.injEq] at h;subst h;rw [fF,Fo.sizesR,Fo.sizesR];unfold eO aM;simp only;omega
 | .node _ _ x k r,i+1,y,f,h=>by have:=A7 f (F:=r) (i:=i) (by simpa [Fo.list] using h);rw [fF,Fo.sizesR,Fo.sizesR];omega
theorem zY {f:Tm->Tm}:∀{F:Fo} {i:Nat} {y:Tm},Fo.ok F->F.list[i]?=some y->gN (f y)->Fo.ok (fF F i f)
 | .nil,_,_,_,h,_=>by simp [Fo.list] at h
 | .node _ _ x k r,0,y,ho,h,hf=>by simp only [Fo.list,List.getElem?_cons_zero,Option.some.injEq] at h;subst h;obtain ⟨h1,h2,_,h4⟩:=dG.1 ho;rw [fF];exact dG.2 ⟨h1,h2,hf,h4⟩
 | .node _ _ x k r,i+1,y,ho,h,hf=>by obtain ⟨h1,h2,h3,h4⟩:=dG.1 ho;rw [fF];exact dG.2 ⟨h1,h2,h3,zY h4 (by simpa [Fo.list] using h) hf⟩
theorem aC8 {f g:Tm->Tm}:∀{F:Fo} {i:Nat} {y:Tm},F.list[i]?=some y->f y≠g y->dU (f y) (g y)=true->sS (fF F i f).list (fF F i g).list
 | .nil,_,_,h,_,_=>by simp [Fo.list] at h
 | .node _ _ x k r,0,y,h,hn,ha=>by simp only [Fo.list,List.getElem?_cons_zero,Option.some.injEq] at h;subst h;rw [fF,fF,Fo.list,Fo.list,sS];exact .inr ⟨hn,ha⟩
 | .node _ _ x k r,i+1,y,h,hn,ha=>by rw [fF,fF,Fo.list,Fo.list,sS];exact .inl ⟨rfl,aC8 (by simpa [Fo.list] using h) hn ha⟩
theorem aAB {u:Tm} (hu:gN u):∀{p:List Int} {x:Bool×Int} {k:Fo} {z:Tm},gN (x,k)->l6 p x k=some z->gN (dM p (x,k) u)
 |[],_,_,_,_,_=>hu
 |n::p,x,k,z,ho,h=>by obtain ⟨hx,h0,h1,y,hy,hz⟩:=oG h;rw [sF hx h0 h1];refine ⟨λe=>absurd (hx.symm.trans e) (by decide),zY ho.2 hy ?_⟩;exact aAB hu (pO ho.2 (List.mem_of_getElem? hy)) hz
theorem aDI {a b:Tm} (ha:gN a) (hb:gN b) (h:dU a b=true):∀{p:List Int} {x:Bool×Int} {k:Fo} {z:Tm},gN (x,k)->l6 p x k=some z->dU (dM p (x,k) a) (dM p (x,k) b)=true
 |[],_,_,_,_,_=>h
 |n::p,x,k,z,ho,hz=>by
  obtain ⟨hx,h0,h1,y,hy,hz'⟩:=oG hz;have hoy:=pO ho.2 (List.mem_of_getElem? hy);have ih:dU (dM p y a) (dM p y b)=true:=aDI ha hb h hoy hz';have oa:gN (dM p y a):=aAB ha hoy hz';have ob:gN (dM p y b):=aAB hb hoy hz';obtain ⟨_,i2,i3⟩:=(o7 ob).1 ih;rw [sF hx h0 h1,sF hx h0 h1];have hle:eO (dM p y b)<=eO (dM p y a):=by rcases i3 with h|h<;>omega
  have key:∀(A B:Fo),A=fF k n.toNat (λs=>dM p s a)->B=fF k n.toNat (λs=>dM p s b)->dU (x,A) (x,B)=true:=by
   intro A B eA eB;have oA:Fo.ok A:=by rw [eA];exact zY ho.2 hy oa
   have oB:Fo.ok B:=by rw [eB];exact zY ho.2 hy ob
   have hL:sS A.list B.list:=by rw [eA,eB];exact aC8 hy (RF oa ih) ih
   have hsa:Fo.sizesR A+eO y=Fo.sizesR k+eO (dM p y a):=by rw [eA];exact A7 (λs=>dM p s a) hy
   have hsb:Fo.sizesR B+eO y=Fo.sizesR k+eO (dM p y b):=by rw [eB];exact A7 (λs=>dM p s b) hy
   have okB:gN (x,B):=⟨λe=>absurd (hx.symm.trans e) (by decide),oB⟩;refine (o7 okB).2 ⟨hx,λv=>?_,?_⟩
   · have t1:jC v A+fO v y=jC v k+fO v (dM p y a):=by rw [eA];exact JU v (λs=>dM p s a) hy
     have t2:jC v B+fO v y=jC v k+fO v (dM p y b):=by rw [eB];exact JU v (λs=>dM p s b) hy
     have t3:=i2 v;show _+jC v B<=_+jC v A;simp only;omega
   · show aM B<aM A\/(aM A=aM B/\_);unfold aM;by_cases hlt:Fo.sizesR B<Fo.sizesR A
     · exact .inl (by omega)
     · exact .inr ⟨by omega,hx,.inr ⟨rfl,(o5 oA oB).2 hL⟩⟩
  exact key _ _ rfl rfl
section
attribute [local go_sem ↓] Go.wp_at_zero Go.wp_at_succ
theorem zN.node {X:Nat->Prop} {w:World} {p q:Nat} {x:Bool×Int} {k r:Fo} {b o:Nat} (h:zN X w (.node p q x k r) b o):
 w.cell? ⟨b,o,none⟩=some (.bool x.1)/\w.cell? ⟨b,o+1,none⟩=some (.int .i64 x.2)/\(∃v,w.cell? ⟨b,o+2,none⟩=some v/\SB X w k v)/\zN X w r b (o+3):=by
 obtain ⟨h0,h1,⟨a,c,b',o',h2,h3,h4,h5,h6⟩,h7⟩:=h;exact ⟨h0,h1,⟨_,h2,a,c,b',o',rfl,h3,h4,h5,h6⟩,h7⟩
theorem zN.at {X:Nat->Prop} {w:World}:∀{F:Fo} {b o i:Nat} {x:Bool×Int} {k:Fo},zN X w F b o->F.list[i]?=some (x,k)->
 w.cell? ⟨b,o+i*3,none⟩=some (.bool x.1)/\w.cell? ⟨b,o+i*3+1,none⟩=some (.int .i64 x.2)/\∃v,w.cell? ⟨b,o+i*3+2,none⟩=some v/\SB X w k v
 | .nil,_,_,_,_,_,_,h=>by simp [Fo.list] at h
 | .node _ _ y k' r,b,o,0,x,k,hF,h=>by simp only [Fo.list,List.getElem?_cons_zero,Option.some.injEq,Prod.mk.injEq] at h;obtain ⟨rfl,rfl⟩:=h;obtain ⟨h0,h1,h2,_⟩:=hF.node;simpa using ⟨h0,h1,h2⟩
 | .node _ _ y k' r,b,o,i+1,x,k,hF,h=>by
  simp only [Fo.list,List.getElem?_cons_succ] at h;obtain ⟨_,_,_,h3⟩:=hF.node;have:=zN.at h3 h;have e:o+3+i*3=o+(i+1)*3:=by omega
  rwa [e] at this
theorem uL.toB {w:World}:∀{F:Fo} {b o:Nat},uL w F b o->zN (λq=>q<w.heap.size) w F b o
 | .nil,_,_,_=>trivial
 | .node _ _ x k r,b,o,⟨h0,h1,⟨a,c,b',o',h2,h3,h4,h5,h6⟩,h7⟩=>by
  refine ⟨h0,h1,⟨a,c,b',o',h2,λh=>⟨h3 h,?_⟩,h4,h5,h6.toB⟩,h7.toB⟩;cases k with
  |nil=>simp [Fo.len] at h
  |node _ _ _ _ _=>exact World.block_lt_of_cell? _ _ h6.1
theorem cO.toB {w:World} {k:Fo} {v:Value} (h:cO w k v):SB (λq=>q<w.heap.size) w k v:=by
 obtain ⟨a,c,b,o,rfl,h3,h4,h5,h6⟩:=h;refine ⟨a,c,b,o,rfl,λh=>⟨h3 h,?_⟩,h4,h5,h6.toB⟩;cases k with
 |nil=>simp [Fo.len] at h
 |node _ _ _ _ _=>exact World.block_lt_of_cell? _ _ h6.1
theorem SB.grow {X:Nat->Prop} {w w':World} {k:Fo} {v:Value} (h:SB X w k v) (hX:∀q,X q->q<w.heap.size) (hb:Below w.heap.size w w'):SB X w' k v:=
 h.frame (λ_ h=>h) (λq i hq=>hb.cell (p:=⟨q,i,none⟩) (hX q hq))
theorem SB.shrink {X:Nat->Prop} {w w':World} {k:Fo} {v:Value} (h:SB X w' k v) (hX:∀q,X q->q<w.heap.size) (hb:Below w.heap.size w w'):SB X w k v:=
 h.frame (λ_ h=>h) (λq i hq=>(hb.cell (p:=⟨q,i,none⟩) (hX q hq)).symm)
end
end Go.Proofs.YtoklbpbmghbhnaeGreat
