import Derived.Test.YtoklbpbmghbhnaeGreatG21
import Derived.Lib.Split
import Derived.Lib.Join
namespace Go.Proofs.YtoklbpbmghbhnaeGreat
set_option maxRecDepth 100000
set_option maxHeartbeats 400000
open Go.RowKit Go.Deep Go.ChangeShapes Go.WideShapes
def five:Sb:=[(0,vr 5),(1,vr 6),(2,vr 7),(3,vr 8),(4,vr 9)]
theorem aMS:∀p∈five,Gd p.2:=λp hp=>by simp only [five,List.mem_cons,List.not_mem_nil,or_false] at hp;rcases hp with rfl|rfl|rfl|rfl|rfl<;>exact aHG (by omega)
theorem aIY {t:Tm} (hg:Gd t) (hv:∀m,bU m t->m<=4):aH (j5 5) t=aH (aV five) t:=by refine iM λn hn=>?_;have h0:=(hg.few n hn).1;have h1:=hv n hn;rcases (by omega:n=0\/n=1\/n=2\/n=3\/n=4) with rfl|rfl|rfl|rfl|rfl<;>simp [j5,five,aV,dA,wrap64,vr]
theorem aCY {t:Tm} (h:MI t) (hv:∀m,bU m t->m<=4):MI (aH (j5 5) t):=by
 rw [aIY h.gd hv];refine ⟨mG aMS h.gd,?_⟩;have:=Q5 (f:=aV five) (M:=1) (Nat.le_refl _) h.gd.ok (λn hn=>?_)
 · have:=h.sz;omega
 · have h0:=(h.gd.few n hn).1;have h1:=hv n hn;rcases (by omega:n=0\/n=1\/n=2\/n=3\/n=4) with rfl|rfl|rfl|rfl|rfl<;>decide
theorem BC {d:Cl} (h:GC d):∀l∈d.map (bK (aH (j5 5))),l9 l:=λl hl=>by obtain ⟨q,hq,rfl⟩:=List.mem_map.1 hl;have g:=h.2 q hq;exact ⟨aCY ⟨g.gl,g.sl⟩ g.fl,aCY ⟨g.gr,g.sr⟩ g.fr⟩
theorem WR {d:Cl} (h:GC d):∀l∈d,(gN l.2.1/\jD l.2.1)/\(gN l.2.2/\jD l.2.2):=λl hl=>⟨⟨(h.2 l hl).gl.ok,(h.2 l hl).gl.nar⟩,⟨(h.2 l hl).gr.ok,(h.2 l hl).gr.nar⟩⟩
theorem lW {s:List Int} {d:Cl} (h:aN s d=0):∀l∈d,dL s l.2.1/\dL s l.2.2:=λl hl=>⟨nR (eP h l hl).1,nR (eP h l hl).2⟩
theorem aCQ {s:List Int} {d:Cl} (h:aN s d=0):∀l∈d.map (bK (aH (j5 5))),dL s l.2.1/\dL s l.2.2:=λl hl=>by obtain ⟨q,hq,rfl⟩:=List.mem_map.1 hl;exact ⟨qM (λn=>Q4 _) (lW h q hq).1,qM (λn=>Q4 _) (lW h q hq).2⟩
section
attribute [local go_sem ↓] Go.wp_at_zero Go.wp_at_succ
theorem aBS {s:List Int} {c:Cl} (hs:s.all bN=true) (hn:∀l∈c,Fo.norm l.2.1.2=l.2.1.2/\Fo.norm l.2.2.2=l.2.2.2) (h:aN s c=0):GC c:=by rw [nK] at h;refine ⟨h.1,λl hl=>?_⟩;obtain ⟨g1,_,g2⟩:=jO hs (hn l hl).1 (h.2 l hl).1;obtain ⟨g3,_,g4⟩:=jO hs (hn l hl).2 (h.2 l hl).2;exact ⟨g1,g3,LH hs (hn l hl).1 (h.2 l hl).1,LH hs (hn l hl).2 (h.2 l hl).2,g2,g4⟩
end
section
attribute [local go_sem ↓] Go.wp_at_zero Go.wp_at_succ
theorem OD {s:List Int} {c:Cl} (hs:s.all bN=true) (h6:s.length<=6) (hn:∀l∈c,Fo.norm l.2.1.2=l.2.1.2/\Fo.norm l.2.2.2=l.2.2.2) (h:aN s c=0):SmC s c:=
 IK h6 (aBS hs hn h) (eP h)
end
abbrev l5:List UInt8:=[32,124,32]
abbrev DF:Lt:=(false,uF,uF)
def yF (s:List Int) (p:List UInt8):Int×Lt:=
 if (Lib.cut p [61]).2.2=false then (2,DF) else
 if (gF s (Lib.trimSuffix (Lib.cut p [61]).1 [33])).1≠0 then ((gF s (Lib.trimSuffix (Lib.cut p [61]).1 [33])).1,DF) else
 if (gF s (Lib.cut p [61]).2.1).1≠0 then ((gF s (Lib.cut p [61]).2.1).1,DF) else
 (0,(Lib.hasSuffix (Lib.cut p [61]).1 [33],(gF s (Lib.trimSuffix (Lib.cut p [61]).1 [33])).2,(gF s (Lib.cut p [61]).2.1).2))
def uH (s:List Int):List (List UInt8)->Int
 |[]=>0
 |p::ps=>if (yF s p).1≠0 then (yF s p).1 else uH s ps
def oI (l:List UInt8):List (List UInt8):=Lib.splitK l5 0 l.length l
def Q7 (s:List Int) (ps:List (List UInt8)):Int×Cl:=if 4<ps.length then (5,[]) else if uH s ps≠0 then (uH s ps,[]) else (0,ps.map λp=>(yF s p).2)
def jU (s:List Int) (l:List UInt8):Int×Cl:=
 if gX s≠0 then (gX s,[]) else if l=[91,93] then (0,[]) else Q7 s (oI l)
theorem BJ {s:List Int}:∀{c:List (List UInt8)} {j:Nat} {p:List UInt8},(∀i,i<j->∀a,c[i]?=some a->(yF s a).1=0)->c[j]?=some p->(yF s p).1≠0->uH s c=(yF s p).1
 |[],_,_,_,h,_=>by simp at h
 |x::c,0,l,_,h,hn=>by simp only [List.getElem?_cons_zero,Option.some.injEq] at h;subst h;rw [uH,if_pos hn]
 |x::c,j+1,l,h0,h,hn=>by rw [uH,if_neg (by simp [h0 0 (by omega) x (by simp)])];exact BJ (j:=j) (λi hi a ha=>h0 (i+1) (by omega) a (by simpa using ha)) (by simpa using h) hn
theorem O4 {s:List Int}:∀{c:List (List UInt8)},uH s c=0↔∀p∈c,(yF s p).1=0
 |[]=>by simp [uH]
 |x::c=>by
  rw [uH];by_cases h:(yF s x).1=0
  · rw [if_neg (by simp [h]),O4 (c:=c)];simp [h]
  · rw [if_pos h];simp [h]
theorem iG {k:Nat} {l:List UInt8} (h:Lib.index l l5= -1):Lib.splitK l5 0 k l=[l]:=by
 cases k with
 |zero=>rfl
 |succ k=>rw [Lib.splitK,if_pos (by rw [h];rfl)]
theorem lT {k i:Nat} {l:List UInt8} (h:Lib.index l l5=i):Lib.splitK l5 0 (k+1) l=l.take i::Lib.splitK l5 0 k (l.drop (i+3)):=by
 have hm:¬(Lib.index l l5== -1)=true:=λe=>by have:=beq_iff_eq.1 e;omega
 have e:(Lib.index l l5).toNat=i:=by omega
 rw [Lib.splitK,if_neg hm,e];rfl
theorem xB (l:List UInt8):Lib.index l l5= -1\/∃i:Nat,Lib.index l l5=i/\i+3<=l.length:=by
 have h1:=Lib.index_ge l l5;rcases Classical.em (0<=Lib.index l l5) with h|h
 · refine .inr ⟨(Lib.index l l5).toNat,by omega,?_⟩;have:=Lib.index_room l l5 h;simp at this;omega
 · exact .inl (by omega)
theorem MV:∀(n:Nat) (l:List UInt8),l.length<=n->Lib.splitK l5 0 n l=oI l:=by
 intro n;induction n with
 |zero=>intro l h;have:l.length=0:=by omega
        rw [oI,this]
 |succ n ih=>
  intro l h;rcases xB l with hi|⟨i,hi,hr⟩
  · rw [oI,iG hi,iG hi]
  · obtain ⟨m,hm⟩:∃m,l.length=m+1:=⟨l.length - 1,by omega⟩;rw [oI,hm,lT hi,lT hi];rw [ih _ (by simp;omega)];rcases Nat.lt_or_ge m n with hmn|hmn
    · have:Lib.splitK l5 0 n (l.drop (i+3))=oI (l.drop (i+3)):=ih _ (by simp;omega);congr 1;rw [←this];clear this;have key:∀(a b:Nat) (x:List UInt8),x.length<=a->a<=b->Lib.splitK l5 0 b x=Lib.splitK l5 0 a x:=by
       intro a;induction a with
       |zero=>intro b x hx _
              have:x=[]:=List.length_eq_zero_iff.1 (by omega);subst this;rw [iG (by rfl),iG (by rfl)]
       |succ a iha=>
        intro b x hx hb;obtain ⟨b',rfl⟩:∃b',b=b'+1:=⟨b - 1,by omega⟩;rcases xB x with hj|⟨j,hj,hr'⟩
        · rw [iG hj,iG hj]
        · rw [lT hj,lT hj,iha b' _ (by simp;omega) (by omega)]
      exact key m n _ (by simp;omega) (by omega)
    · have:m=n:=by omega
      rw [this,ih _ (by simp;omega)]
theorem aFS {l:List UInt8} (h:Lib.index l l5= -1):oI l=[l]:=iG h
theorem aJT {i:Nat} {l:List UInt8} (h:Lib.index l l5=i) (hr:i+3<=l.length):oI l=l.take i::oI (l.drop (i+3)):=by obtain ⟨m,hm⟩:∃m,l.length=m+1:=⟨l.length - 1,by omega⟩;rw [oI,hm,lT h,MV m _ (by simp;omega)]
theorem aMQ:∀(l:List UInt8),(oI l).length<=l.length+1:=by
 intro l;have key:∀(k:Nat) (x:List UInt8),(Lib.splitK l5 0 k x).length<=k+1:=by
  intro k;induction k with
  |zero=>intro x;exact Nat.le_refl _
  |succ k ih=>
   intro x;rcases xB x with hi|⟨i,hi,hr⟩
   · rw [iG hi];simp
   · rw [lT hi];have:=ih (x.drop (i+3));simp;omega
 exact key _ _
end Go.Proofs.YtoklbpbmghbhnaeGreat
