import Derived.Test.YtoklbpbmghbhnaeGreatG14
import Derived.Deep.RegionHeld3
import Derived.Test.YtoklbpbmghbhnaeGreatRows
import Derived.WalkKit
import Derived.RegionTactic
import Derived.Deep.DeepCutAuto
namespace Go.Proofs.YtoklbpbmghbhnaeGreat
set_option maxRecDepth 100000
set_option maxHeartbeats 400000
open Go.RowKit Go.Deep Go.ChangeShapes Go.WideShapes
def jM (c:Cl) (i:Nat):Cl:=c.take i++c.drop (i+1)
theorem K8 {n j c b o:Nat} (hj:j<=n) (hc:n<=c) (w:World):(Instr.slice 44 (.slice (some ⟨b,o,none⟩) n c) none (some (.int .i64 (j:Int))) none).run Tryz.prog w= .ok (.slice (some ⟨b,o,none⟩) j c) w:=by
 rw [run_slice_h (ht:=by kernel_rfl) (h0:=by omega) (h2:=by omega)];have e:(sizeOf (Tryz.prog.elem 44)).run Tryz.prog w= .ok 7 w:=by rw [show Tryz.prog.elem 44=86 by kernel_rfl];simp [go_sem]
 simp only [Result.andThen,sliced,e];simp [Addr.add]
theorem wH {n j c b o:Nat} (hj:j<=n) (hc:n<=c):∃ad:Addr,(∀w:World,(Instr.slice 44 (.slice (some ⟨b,o,none⟩) n c) (some (.int .i64 (j:Int))) none none).run Tryz.prog w= .ok (.slice (some ad) (n - j) (c - j)) w)/\(j<n->ad=⟨b,o+j*7,none⟩):=by
 refine ⟨if c=j then ⟨b,o,none⟩ else ⟨b,o+j*7,none⟩,λw=>?_,λh=>by rw [if_neg (by omega)]⟩;rw [run_slice_l (ht:=by kernel_rfl) (h0:=by omega) (h1:=by omega)];have e:(sizeOf (Tryz.prog.elem 44)).run Tryz.prog w= .ok 7 w:=by rw [show Tryz.prog.elem 44=86 by kernel_rfl];simp [go_sem]
 simp only [Result.andThen,sliced,e,Int.toNat_natCast];by_cases h:c=j
 · simp [h]
 · simp [h,Addr.add]
theorem WK {w:World}:∀{c:Cl} {b o:Nat} (i:Nat),GQ w c b o->GQ w (c.take i) b o
 |[],_,_,i,h=>by simpa using h
 |_::_,_,_,0,_=>trivial
 |_::_,_,_,i+1,h=>⟨h.1,WK i h.2⟩
theorem WN {w:World}:∀{c:Cl} {b o:Nat} (i:Nat),GQ w c b o->GQ w (c.drop i) b (o+i*7)
 |[],_,_,i,h=>by simp [GQ]
 |_::_,_,_,0,h=>by simpa using h
 |_::c,b,o,i+1,h=>by have:=WN i h.2;rw [show o+7+i*7=o+(i+1)*7 by omega] at this;simpa using this
theorem aHH {w:World} {c:Cl} {a1:Option Addr} {c3:Nat} (h:dQ w c (.slice a1 c.length c3)):∃news,LC (λq=>q<w.heap.size) w c news/\∀w',Below w.heap.size w w'->Cs w' (.slice a1 c.length c3) c.length 7 news:=by
 obtain ⟨q1,q3,qb,qo,hqe,hqa,hql,hqm,hqF⟩:=h;simp only [Value.slice.injEq,true_and] at hqe;obtain ⟨rfl,rfl⟩:=hqe;obtain ⟨news,hl,hP,hc⟩:=O6 hqF;refine ⟨news,hP,λw' hb=>⟨_,_,rfl,hl,hP.onecell,λe=>?_,λad e j u hj=>?_⟩⟩
 · by_cases h0:0<c.length
   · rw [hqa h0] at e;cases e
   · omega
 · have hlt:j<news.length:=(List.getElem?_eq_some_iff.1 hj).1;have h1:=hqa (by omega);rw [e] at h1;cases h1;rw [add_plain];exact aA hb _ _ (hc j u hj)
def OrT (N:Nat) (s:Sb) (t:Tm):Prop:=∃u,gN u/\eO u<=N/\aH (aV s) t=aH (aV s) u
def OrB (N:Nat) (s:Sb) (t:Tm):Prop:=∃u,gN u/\eO u<=N/\t=aH (aV s) u/\(u.1.1=true->dA s u.1.2=none)
structure Org (N:Nat) (s:Sb) (L:List (Tm×Tm)):Prop where
 ol:∀p∈L,OrT N s p.1/\OrT N s p.2
 ob:∀p∈s,OrB N s p.2
theorem aAC {N:Nat} {s:Sb} (ho:∀p∈s,OrB N s p.2) {t:Tm} (ht:OrT N s t):OrB N s (aH (aV s) t):=by
 obtain ⟨u,h1,h2,h3⟩:=ht;by_cases hv:u.1.1=true
 · cases e:dA s u.1.2 with
   |none=>exact ⟨u,h1,h2,h3,λ_=>e⟩
   |some v=>
    obtain ⟨u',k1,k2,k3,k4⟩:=ho _ (eD e);refine ⟨u',k1,k2,?_,k4⟩;rw [h3];have:aH (aV s) u=v:=by unfold aH;rw [if_pos hv];exact dO e
    rw [this];exact k3
 · exact ⟨u,h1,h2,h3,λe=>absurd e hv⟩
theorem aL4 {N:Nat} {s s':Sb} {p:Tm×Tm} {L:List (Tm×Tm)} {x y:Tm} (h:UI s (p::L)) (ho:Org N s (p::L)) (hxy:x=gZ s p.1/\y=gZ s p.2\/x=gZ s p.2/\y=gZ s p.1) (hv:x.1.1=true) (ha:pK s x.1.2 (aH (aV s) y)=some s'):Org N s' L:=by
 obtain ⟨_,_,f1,f2⟩:=JO h hxy hv ha;have hp:=h.gL p (by simp);have hgy:Gd y:=by rcases hxy with ⟨_,rfl⟩|⟨_,rfl⟩;exact oN h.gs hp.2;exact oN h.gs hp.1
 have hfree:dA s x.1.2=none:=by rcases hxy with ⟨rfl,_⟩|⟨rfl,_⟩<;>exact VB h.idem hv
 have hgt:=mG h.gs hgy;obtain ⟨_,_,_,_,f5⟩:=PY ha h.idem hfree hgt.ok (λm hm=>AY h.idem hm);have hr:∀u,aH (aV s') u=aH (aV [(x.1.2,aH (aV s) y)]) (aH (aV s) u):=λu=>by rw [←iE f1,f5 _ (λm hm=>AY h.idem hm)]
 have hOy:OrB N s (aH (aV s) y):=by
  have hpo:=ho.ol p (by simp);rcases hxy with ⟨_,rfl⟩|⟨_,rfl⟩
  · rw [mI h.idem (rO h)];exact aAC ho.ob hpo.2
  · rw [mI h.idem (rO h)];exact aAC ho.ob hpo.1
 obtain ⟨u,u1,u2,u3,u4⟩:=hOy;have hno:=(pG ha).1;have hl:dA s' x.1.2=some (aH (aV s) y):=by rw [rV ha,hfree];simp
 have hy':aH (aV s) y=aH (aV s') u:=by have e1:aV s' x.1.2=aH (aV s) y:=dO hl;rw [←iE f1 u,←u3,iE f1 y,←f2,e1]
 have hu':u.1.1=true->dA s' u.1.2=none:=λe=>by
  have hne:x.1.2≠u.1.2:=λe'=>hno (by
   rw [u3];have:aH (aV s) u=vr u.1.2:=by unfold aH;rw [if_pos e];exact eF (u4 e)
   rw [this,DI];exact e'.symm)
  rw [rV ha,u4 e];simp [hne]
 refine ⟨λq hq=>?_,λq hq=>?_⟩
 · obtain ⟨⟨a,a1,a2,a3⟩,⟨b,b1,b2,b3⟩⟩:=ho.ol q (by simp [hq]);exact ⟨⟨a,a1,a2,by rw [←iE f1 q.1,a3,iE f1]⟩,⟨b,b1,b2,by rw [←iE f1 q.2,b3,iE f1]⟩⟩
 · rw [(pG ha).2,List.mem_append,List.mem_map,List.mem_singleton] at hq;rcases hq with ⟨q,hq,rfl⟩|rfl
   · obtain ⟨a,a1,a2,a3,a4⟩:=ho.ob q hq;by_cases hav:a.1.1=true/\a.1.2=x.1.2
     · refine ⟨u,u1,u2,?_,hu'⟩;have e1:q.2=vr x.1.2:=by
        rw [a3];unfold aH;rw [if_pos hav.1,←hav.2];exact eF (a4 hav.1)
       show aH (aV [(x.1.2,aH (aV s) y)]) q.2=_;rw [e1,←hy'];show aV [(x.1.2,aH (aV s) y)] x.1.2=_;rw [tH,if_pos rfl]
     · refine ⟨a,a1,a2,?_,λe=>?_⟩
       · show aH (aV [(x.1.2,aH (aV s) y)]) q.2=_;rw [a3,←hr]
       · have hne:x.1.2≠a.1.2:=λe'=>hav ⟨e,e'.symm⟩;rw [rV ha,a4 e];simp [hne]
   · exact ⟨u,u1,u2,hy',hu'⟩
theorem V8 {N:Nat} {s:Sb} {L:List (Tm×Tm)} (h:UI s L) (ho:∀p∈s,OrB N s p.2) {t:Tm} (ht:OrT N s t) (e1:¬(gZ s t).1.1=true):∀c∈(gZ s t).2.list,OrT N s c:=by
 obtain ⟨u,u1,u2,u3,u4⟩:=aAC ho ht;rw [←mI h.idem (rO h) t,yJ e1,cK] at u3;have hu:¬u.1.1=true:=λe=>by
  have:aH (aV s) u=vr u.1.2:=by unfold aH;rw [if_pos e];exact eF (u4 e)
  rw [this] at u3;have:=congrArg (λt:Tm=>t.1.1) u3;simp [vr] at this
 rw [yJ hu,cK] at u3;have hF:dD (aV s) (gZ s t).2=dD (aV s) u.2:=congrArg Prod.snd u3;have hL:(gZ s t).2.list.map (aH (aV s))=u.2.list.map (aH (aV s)):=by rw [←gQ,←gQ,hF]
 intro c hc;obtain ⟨i,hi,rfl⟩:=List.mem_iff_getElem.1 hc;have hlen:(gZ s t).2.list.length=u.2.list.length:=by have:=congrArg List.length hL;simpa using this
 have hi':i<u.2.list.length:=by omega
 refine ⟨u.2.list[i],pO u1.2 (List.getElem_mem _),?_,?_⟩
 · have:eO u.2.list[i]<eO (u.1,u.2):=IQ (List.getElem_mem _);have e:eO (u.1,u.2)=eO u:=rfl;omega
 · have h1:((gZ s t).2.list.map (aH (aV s)))[i]?=(u.2.list.map (aH (aV s)))[i]?:=by rw [hL]
   rw [List.getElem?_map,List.getElem?_map,List.getElem?_eq_getElem hi,List.getElem?_eq_getElem hi'] at h1;simpa using h1
theorem aJA {N:Nat} {s s':Sb} {p:Tm×Tm} {L L':List (Tm×Tm)} (h:UI s (p::L)) (ho:Org N s (p::L)) (hst:kD s p.1 p.2 L=some (s',L')):Org N s' L':=by
 rcases qQ hst with ⟨_,_,_,rfl,rfl⟩|⟨x,y,hxy,hv,ha,rfl⟩|⟨e1,e2,_,hl,rfl,rfl⟩
 · exact ⟨λq hq=>ho.ol q (by simp [hq]),ho.ob⟩
 · exact aL4 h ho hxy hv ha
 · have hpo:=ho.ol p (by simp);refine ⟨λq hq=>?_,ho.ob⟩;rw [List.mem_append] at hq;rcases hq with hq|hq
   · have:=List.of_mem_zip hq;exact ⟨V8 h ho.ob hpo.1 e1 _ this.1,V8 h ho.ob hpo.2 e2 _ this.2⟩
   · exact ho.ol q (by simp [hq])
theorem aL3 {N:Nat}:∀(n:Nat) (s s':Sb) (L:List (Tm×Tm)),UI s L->Org N s L->iV n s L=some (some s')->UI s' []/\Org N s' []:=by
 intro n;induction n with
 |zero=>intro s s' L _ _ hr;simp [iV] at hr
 |succ n ih=>
  intro s s' L h ho hr;cases L with
  |nil=>simp only [iV,Option.some.injEq] at hr;subst hr;exact ⟨h,ho⟩
  |cons p L=>
   cases hst:kD s p.1 p.2 L with
   |none=>simp [iV,hst] at hr
   |some q=>obtain ⟨s1,L1⟩:=q;simp only [iV,hst] at hr;exact ih s1 s' L1 (tO h hst).1 (aJA h ho hst) hr
theorem RP {f:Int->Tm} {M:Nat} (hM:1<=M):∀{F:Fo},Fo.ok F->(∀n,eH n F->eO (f n)<=M)->Fo.sizesR (dD f F)<=Fo.sizesR F*M
 | .nil,_,_=>by simp [dD,Fo.sizesR]
 | .node p q ⟨v,m⟩ k r,ho,h=>by
  obtain ⟨_,_,h3,h4⟩:=dG.1 ho;have hr:=RP hM h4 (λn hn=>h n (by rw [eH];exact .inr hn));rw [dE];simp only [Fo.sizesR];cases v with
  |true=>have hk:k= .nil:=h3.1 rfl;subst hk;have:=h m (by rw [eH];exact .inl (by simp));simp only [fJ,eO,aM] at this ⊢;simp only [Fo.sizesR,Nat.add_mul,Nat.zero_mul,Nat.one_mul];omega
  |false=>have hk:=RP hM (F:=k) h3.2 (λn hn=>h n (by rw [eH];exact .inl (by simpa using hn)));simp only [cK,Nat.add_mul,Nat.one_mul];omega
theorem Q5 {f:Int->Tm} {M:Nat} (hM:1<=M) {t:Tm} (ho:gN t) (h:∀n,bU n t->eO (f n)<=M):eO (aH f t)<=eO t*M:=by
 obtain ⟨⟨v,m⟩,k⟩:=t;cases v with
 |true=>
  rw [fJ];have:=h m (by simp [bU]);have h1:1<=eO ((true,m),k):=by simp only [eO,aM];omega
  have:=Nat.mul_le_mul_right M h1;omega
 |false=>rw [cK];have:=RP hM (F:=k) ho.2 (λn hn=>h n (by simp [bU,hn]));simp only [eO,aM,Nat.add_mul,Nat.one_mul];omega
theorem wI {f g:Int×Tm->Bool} {a:Int×Tm}:∀{l:Sb},(∀x,g x=true->f x=true)->a∈l->f a=true->g a=false->l.countP g<l.countP f
 |[],_,h,_,_=>by cases h
 |y::r,hfg,h,hf,hg=>by
  have hle:r.countP g<=r.countP f:=List.countP_mono_left (λx _ hx=>hfg x hx);rw [List.countP_cons,List.countP_cons];rcases List.mem_cons.1 h with rfl|h
  · rw [hf,hg];simp;omega
  · have:=wI (l:=r) hfg h hf hg;by_cases hy:g y=true
    · rw [hy,hfg y hy];simp;omega
    · have:g y=false:=by simpa using hy
      rw [this];simp only [Bool.false_eq_true,if_false];split<;>omega
def rnk (s:Sb) (m:Int):Nat:=s.countP λp=>decide (eO p.2<eO (aV s m))
theorem aJB {N:Nat} (hN:1<=N) {s:Sb} (ho:∀p∈s,OrB N s p.2):∀(k:Nat) (m:Int),rnk s m=k->eO (aV s m)<=N ^ (k+1):=by
 intro k;induction k using Nat.strongRecOn with
 |_ k ih=>
  intro m hk;have hpos:∀j,1<=N ^ j:=λj=>Nat.one_le_iff_ne_zero.2 (Nat.pos_iff_ne_zero.1 (Nat.pow_pos (by omega)));cases e:dA s m with
  |none=>rw [eF e];have:=hpos (k+1);simp only [vr,eO,aM,Fo.sizesR];omega
  |some t=>
   have hb:=dO e;obtain ⟨u,u1,u2,u3,u4⟩:=ho _ (eD e);simp only at u3;by_cases hv:u.1.1=true
   · have:aH (aV s) u=vr u.1.2:=by
      unfold aH;rw [if_pos hv];exact eF (u4 hv)
     rw [hb,u3,this];have:=hpos (k+1);simp only [vr,eO,aM,Fo.sizesR];omega
   · have key:∀n,bU n u->eO (aV s n)<=N ^ k:=λn hn=>by
      cases e2:dA s n with
      |none=>rw [eF e2];have:=hpos k;simp only [vr,eO,aM,Fo.sizesR];omega
      |some v=>
       have hlt:eO (aV s n)<eO (aV s m):=by rw [hb,u3];have he:=yJ hv;rw [he] at hn ⊢;rw [AA] at hn;rw [cK];have:=D9 (f:=aV s) hn;simp only [eO,aM] at this ⊢;omega
       have hr:rnk s n<rnk s m:=wI (a:=(n,v)) (λx hx=>by
        simp only [decide_eq_true_eq] at hx ⊢;omega) (eD e2) (by
        simp only [decide_eq_true_eq];rw [dO e2] at hlt;exact hlt) (by
        simp only [decide_eq_false_iff_not];rw [dO e2];omega)
       have h1:=ih (rnk s n) (by omega) n rfl;have h2:N ^ (rnk s n+1)<=N ^ k:=Nat.pow_le_pow_right hN (by omega);omega
     rw [hb,u3];have h1:=Q5 (hpos k) u1 key;have h2:=Nat.mul_le_mul_right (N ^ k) u2;rw [Nat.pow_succ,Nat.mul_comm (N ^ k) N];omega
theorem aPV {s:Sb} {m:Int} {t:Tm} (h:dA s m=some t):rnk s m<s.length:=by
 have:=wI (f:=λ_=>true) (g:=λp=>decide (eO p.2<eO (aV s m))) (a:=(m,t)) (l:=s) (λ_ _=>rfl) (eD h) rfl (by
  simp only [decide_eq_false_iff_not];rw [dO h];omega)
 rw [List.countP_true] at this;exact this
theorem aJJ {n:Nat} {a b:Tm} {s:Sb} (h:UI [] [(a,b)]) (hr:iV n [] [(a,b)]=some (some s)) (ha:eO a<=12) (hb:eO b<=12) (m:Int):eO (aV s m)<=61917364224:=by
 have hg:=h.gL (a,b) (by simp);obtain ⟨hu,ho⟩:=aL3 (N:=12) n [] s [(a,b)] h ⟨λp hp=>by simp only [List.mem_singleton] at hp;subst hp;exact ⟨⟨a,hg.1.ok,ha,rfl⟩,⟨b,hg.2.ok,hb,rfl⟩⟩,λp hp=>by cases hp⟩ hr
 cases e:dA s m with
 |none=>rw [eF e];simp only [vr,eO,aM,Fo.sizesR];omega
 |some t=>
  have h1:=aJB (N:=12) (by omega) ho.ob (rnk s m) m rfl;have h2:=aPV e;have h3:=(IP hu).2;have h4:12 ^ (rnk s m+1)<=12 ^ 10:=Nat.pow_le_pow_right (by omega) (by omega);have h5:(12:Nat) ^ 10=61917364224:=by decide
  omega
section
attribute [local go_sem ↓] Go.wp_at_zero Go.wp_at_succ
def CQ (U:Tm->Tm->Option Sb):Prop:=∀a b,UI [] [(a,b)]->∃n,iV n [] [(a,b)]=some (U a b)
theorem U6:∃U,CQ U:=by
 have key:∀a b:Tm,∃R:Option Sb,UI [] [(a,b)]->∃n,iV n [] [(a,b)]=some R:=λa b=>by
  by_cases h:UI [] [(a,b)]
  · obtain ⟨n,R,hR⟩:=aIP _ _ _ _ rfl rfl h;exact ⟨R,λ_=>⟨n,hR⟩⟩
  · exact ⟨none,λh'=>absurd h' h⟩
 exact ⟨λa b=>Classical.choose (key a b),λa b=>Classical.choose_spec (key a b)⟩
structure MI (t:Tm):Prop where
 gd:Gd t
 sz:eO t<=12
theorem HY:∀F:Fo,lG F<=Fo.sizesR F
 | .nil=>Nat.le_refl _
 | .node _ _ _ k r=>by have h1:=HY k;have h2:=HY r;simp only [lG,Fo.sizesR];omega
theorem MI.dep {t:Tm} (h:MI t):gU t<=12:=by have h1:=HY t.2;have h2:=h.sz;simp only [eO,aM] at h2;unfold gU;omega
theorem MI.ui {a b:Tm} (ha:MI a) (hb:MI b):UI [] [(a,b)]:=aR0 ha.gd hb.gd ha.dep hb.dep
def G24 (l:Lt):Prop:=(Gd l.2.1/\eO l.2.1<=24)/\(Gd l.2.2/\eO l.2.2<=24)
def l9 (l:Lt):Prop:=MI l.2.1/\MI l.2.2
theorem l9.x {l:Lt} (h:l9 l):G24 l:=⟨⟨h.1.gd,by have:=h.1.sz;omega⟩,⟨h.2.gd,by have:=h.2.sz;omega⟩⟩
theorem GC.g12 {c:Cl} (h:GC c):∀l∈c,l9 l:=λl hl=>⟨⟨(h.2 l hl).gl,(h.2 l hl).sl⟩,⟨(h.2 l hl).gr,(h.2 l hl).sr⟩⟩
theorem wQ {a b:Tm} {n:Nat} {s:Sb} (ha:MI a) (hb:MI b) (hr:iV n [] [(a,b)]=some (some s)) {d:Cl} (hl:d.length<=8) (hd:∀l∈d,G24 l):GX (d.map (bK (aH (aV s)))):=by
 have hg:=(vL (ha.ui hb) hr).1;have one:∀t:Tm,Gd t/\eO t<=24->Gd (aH (aV s) t)/\aM (aH (aV s) t).2<=4000000000000:=λt ht=>by refine ⟨mG hg ht.1,?_⟩;have h1:=Q5 (f:=aV s) (M:=61917364224) (by omega) ht.1.ok (λm _=>aJJ (ha.ui hb) hr ha.sz hb.sz m);have h2:=Nat.mul_le_mul_right 61917364224 ht.2;simp only [eO] at h1 h2;omega
 refine ⟨by simpa using hl,λl hl=>?_⟩;obtain ⟨q,hq,rfl⟩:=List.mem_map.1 hl;obtain ⟨q1,q2⟩:=hd q hq;exact ⟨(one _ q1).1,(one _ q2).1,(one _ q1).2,(one _ q2).2⟩
def MO (st:List Cl×Bool) (R:Option Sb) (d:Cl):List Cl×Bool:=match R with
 |some s=>yI st (bS (d.map (bK (aH (aV s)))))
 |none=>st
theorem aKB (st:List Cl×Bool) (n:Int×Cl):(yI st n).1.length<=st.1.length+1:=by
 unfold yI;split
 · simp
 · split
   · omega
   · split
     · omega
     · simp
theorem KM (st:List Cl×Bool) (R:Option Sb) (d:Cl):(MO st R d).1.length<=st.1.length+1:=by
 unfold MO;split
 · exact aKB _ _
 · omega
def bF {S:Type} (f:S->Nat->S) (s:S) (j:Nat):S:=(List.range j).foldl f s
theorem fV {S:Type} (f:S->Nat->S) (s:S) (j:Nat):bF f s (j+1)=f (bF f s j) j:=by unfold bF;rw [List.range_succ,List.foldl_append];rfl
theorem eX {f:List Cl×Bool->Nat->List Cl×Bool} {m:Nat} (h:∀s j,(f s j).1.length<=s.1.length+m) (s:List Cl×Bool):∀j,(bF f s j).1.length<=s.1.length+j*m
 |0=>by simp [bF]
 |j+1=>by rw [fV];have h1:=h (bF f s j) j;have h2:=eX h s j;rw [Nat.add_mul,Nat.one_mul];omega
def UG (U:Tm->Tm->Option Sb) (c:Cl) (st:List Cl×Bool) (i:Nat):List Cl×Bool:=match c[i]? with
 |some l=>if l.1 then MO st (U l.2.1 l.2.2) (jM c i) else st
 |none=>st
def jN (U:Tm->Tm->Option Sb) (c:Cl) (j:Nat):List Cl×Bool:=bF (UG U c) ([],false) j
theorem aIT (U:Tm->Tm->Option Sb) (c:Cl) (st:List Cl×Bool) (i:Nat):(UG U c st i).1.length<=st.1.length+1:=by
 unfold UG;split
 · split
   · exact KM _ _ _
   · omega
 · omega
theorem aA7 {U:Tm->Tm->Option Sb} {c:Cl} {j:Nat}:jN U c (j+1)=UG U c (jN U c j) j:=fV _ _ _
theorem aE2 (U:Tm->Tm->Option Sb) (c:Cl) (j:Nat):(jN U c j).1.length<=j:=by have:=eX (m:=1) (aIT U c) ([],false) j;rw [Nat.mul_one,List.length_nil,Nat.zero_add] at this;exact this
theorem mK {c:Cl} {i:Nat} {l:Lt} (h:l∈jM c i):l∈c:=by
 rcases List.mem_append.1 h with h|h
 · exact List.mem_of_mem_take h
 · exact List.mem_of_mem_drop h
theorem tF {c:Cl} {i:Nat}:(jM c i).length<=c.length:=by rw [jM,List.length_append,List.length_take,List.length_drop];omega
theorem ET (w:World) (T:TypeId):uC w.heap.size (w.alloc (.cells #[.slice none 0 0,.bool false] T)) w.heap.size [] false (.slice none 0 0) [] where
 c0:=aF rfl
 c1:=aF rfl
 cn:=aF rfl
 fz:=λi=>bL rfl
 row:=World.ownsRow_nil _ _ _ _
 sl:=λg hg=>by cases hg
 el:=λi c hc=>by simp at hc
 po:=⟨Nat.le_refl _,by simp⟩
 ne:=λe=>by cases e
theorem aHX {w w':World} {p:Nat} {o:Option Nat} (h:Fr w w' (some p) o) (hp:QG w p) (ho:∀g,o=some g->QG w g):wL w w':=
 nE λq hq hn=>h.block q hq (λe=>hn (by cases e;exact hp)) (λe=>hn (ho q e.symm))
theorem PX {lo:Nat} {w0 w w':World} {p:Nat} {cs:List Cl} {lost:Bool} {v:Value} {xs:List Value} (hL:uC lo w p cs lost v xs) (hB:Below lo w0 w) (hf:Fr w w' (some p) v.ownBlock):Below lo w0 w'/\wL w w':=by refine ⟨⟨hf.os.trans hB.os,hf.tape.trans hB.tape,hf.output.trans hB.output,Nat.le_trans hB.size hf.size,λk hk=>?_⟩,aHX hf hL.not (λg hg=>(hL.sl g hg).not)⟩;have hp:=hL.po;rw [hf.block k (by omega) (λe=>by cases e;omega) (λe=>by have:=(aJ hL.row k e.symm).1;omega)];exact hB.block k hk
end
section
open Go.RowKit
theorem FW {α:Type} {f g:α->Bool} {i:α}:∀{l:List α},(∀x,g x=true->f x=true)->i∈l->f i=true->g i=false->l.countP g<l.countP f
 |[],_,h,_,_=>by cases h
 |y::r,hfg,h,hf,hg=>by
  have hle:r.countP g<=r.countP f:=List.countP_mono_left (λx _ hx=>hfg x hx);rw [List.countP_cons,List.countP_cons];rcases List.mem_cons.1 h with rfl|h
  · rw [hf,hg];simp;omega
  · have:=FW (l:=r) hfg h hf hg;by_cases hy:g y=true
    · rw [hy,hfg y hy];simp;omega
    · have:g y=false:=by simpa using hy
      rw [this];simp only [Bool.false_eq_true,if_false];split<;>omega
theorem KC (l:Array Bool) (i j:Nat) (d:Bool) (hi:i<l.size):(l.setIfInBounds i true).getD j d=(j==i||l.getD j d):=by
 by_cases e:j=i
 · subst e;simp [Array.getD_eq_getD_getElem?,hi]
 · have e':(j==i)=false:=by simpa using e
   rw [e'];simp only [Array.getD_eq_getD_getElem?,Array.getElem?_setIfInBounds,Bool.false_or];rw [if_neg (λh=>e h.symm)]
theorem SG (l:Array Bool) (j:Nat) (hj:j<l.size) (d d':Bool):l.getD j d=l.getD j d':=by simp [Array.getD_eq_getD_getElem?,hj]
section
variable {P:Program} {ops:Array Oper} {Q:Exit->Act->World->Prop} {md:Region.Mode}
def Region.back (ops:Array Oper):Bool:=(List.range ops.size).all λi=>((ops[i]?).map (·.after.all λe=>decide (e.on<i))).getD true
theorem aB4 {listed:Array Bool} (hs:listed.size=ops.size) (hb:Region.back ops=true) (hr:Region.ready md ops listed=[]):∀i,i<ops.size->listed.getD i false=true:=by
 intro i;induction i using Nat.strongRecOn with
 |_ i ih=>
  intro hi;by_cases h:listed.getD i false=true
  · exact h
  · exfalso;have h0:listed.getD i true=false:=by
     rw [SG listed i (by omega) true false];simpa using h
    have ho:ops[i]?=some ops[i]:=by simp [hi]
    have hm:i∈Region.ready md ops listed:=by unfold Region.ready;rw [List.mem_filter];refine ⟨List.mem_range.2 hi,?_⟩;rw [h0,ho];simp only [Bool.not_false,Bool.true_and,Option.map_some,Option.getD_some];rw [Array.all_eq_true'];intro e he;have h1:=List.all_eq_true.1 hb i (List.mem_range.2 hi);rw [ho] at h1;simp only [Option.map_some,Option.getD_some] at h1;rw [Array.all_eq_true'] at h1;have h2:=of_decide_eq_true (h1 e he);rw [ih e.on h2 (by omega)];simp
    rw [hr] at hm;cases hm
theorem aD4 {kY:(Nat->Bool)->Act->World->Prop} (hb:Region.back ops=true)
 (hstep:∀(D:Nat->Bool) (a:Act) (w:World) (i:Nat) (o:Oper),i<ops.size->kY D a w->D i=false->ops[i]?=some o->(∀e∈o.after,Region.binds md e=true->D e.on=true)->wpOp P ops Q i (kY λj=>j==i||D j) a w)
 (hdone:∀(D:Nat->Bool) (a:Act) (w:World),kY D a w->(∀i,i<ops.size->D i=true)->Q .normal a w):
 ∀(fuel:Nat) (listed:Array Bool) (a:Act) (w:World),listed.size=ops.size->(List.range ops.size).countP (λi=>!listed.getD i false)<=fuel->kY (λj=>listed.getD j false) a w->wpAny P md ops Q fuel listed a w:=by
 intro fuel;induction fuel with
 |zero=>
  intro listed a w hs hc hI;have hall:∀i,i<ops.size->listed.getD i false=true:=λi hi=>by
   have h0:(List.range ops.size).countP (λi=>!listed.getD i false)=0:=by omega
   rw [List.countP_eq_zero] at h0;simpa using h0 i (List.mem_range.2 hi)
  refine ⟨?_,hdone _ a w hI hall⟩;unfold Region.ready;rw [List.filter_eq_nil_iff];intro i hi;have hi':=List.mem_range.1 hi;rw [SG listed i (by omega) true false,hall i hi'];simp
 |succ fuel ih=>
  intro listed a w hs hc hI;refine ⟨λhr=>hdone _ a w hI (aB4 hs hb hr),λi hi=>?_⟩;unfold Region.ready at hi;rw [List.mem_filter] at hi;obtain ⟨hi1,hi2⟩:=hi;have hi':=List.mem_range.1 hi1;have ho:ops[i]?=some ops[i]:=by simp [hi']
  rw [ho] at hi2;simp only [Option.map_some,Option.getD_some,Bool.and_eq_true,Bool.not_eq_true'] at hi2;obtain ⟨h1,h2⟩:=hi2;have h1':listed.getD i false=false:=by rw [SG listed i (by omega) false true];exact h1
  have:=hstep _ a w i _ hi' hI h1' ho (λe he hbd=>by rw [Array.all_eq_true'] at h2;have:=h2 e he;rw [hbd] at this;simpa using this)
  refine wpOp_mono (λa' w' h=>?_) this;refine ih _ a' w' (by simp [hs]) ?_ ?_
  · have hlt:=FW (i:=i) (f:=λj=>!listed.getD j false) (g:=λj=>!(listed.setIfInBounds i true).getD j false) (l:=List.range ops.size) (λx hx=>by
     rw [KC _ _ _ _ (by omega)] at hx;simp at hx;simp [hx.2]) hi1 (by simp [h1']) (by rw [KC _ _ _ _ (by omega)];simp)
    omega
  · have e:(λj=>(listed.setIfInBounds i true).getD j false)=λj=>j==i||listed.getD j false:=by
     funext j;exact KC _ _ _ _ (by omega)
    rw [e];exact h
theorem lU {id:Nat} {a:Act} {w:World} (kY:(Nat->Bool)->Act->World->Prop) (hm:P.follows .mixedOrders=true) (hb:Region.back ops=true)
 (hstep:∀(D:Nat->Bool) (a:Act) (w:World) (i:Nat) (o:Oper),i<ops.size->kY D a w->D i=false->ops[i]?=some o->(∀e∈o.after,Region.binds .any e=true->D e.on=true)->wpOp P ops Q i (kY λj=>j==i||D j) a w)
 (hdone:∀(D:Nat->Bool) (a:Act) (w:World),kY D a w->(∀i,i<ops.size->D i=true)->Q .normal a w)
 (h0:kY (λ_=>false) a w.drew):(Code.region id ops true).wp P Q a w:=by
 refine wp_region_any hm ?_;refine aD4 hb hstep hdone _ _ a _ (by simp) ?_ ?_
 · exact Nat.le_trans List.countP_le_length (by simp)
 · have e:(λj=>(Array.replicate ops.size false).getD j false)=λ_=>false:=by
    funext j;simp only [Array.getD_eq_getD_getElem?,Array.getElem?_replicate];split<;>rfl
   rw [e];exact h0
end
end
section
attribute [local go_sem ↓] Go.wp_at_zero Go.wp_at_succ
def uP (U:Tm->Tm->Option Sb) (c:Cl) (i:Nat) (x y:Lt) (st:List Cl×Bool) (k:Nat):List Cl×Bool:=
 MO st (U (aL (decide (2<=k)) x).2.1 (aL (decide (k % 2=1)) y).2.1) (jM c i++[(true,(aL (decide (2<=k)) x).2.2,(aL (decide (k % 2=1)) y).2.2)])
def oU (U:Tm->Tm->Option Sb) (c:Cl) (i:Nat) (st:List Cl×Bool) (j:Nat):List Cl×Bool:=match c[i]?,c[j]? with
 |some x,some y=>if j<=i\/x.1=true\/y.1=true then st else bF (uP U c i x y) st 4
 |_,_=>st
def aRJ (U:Tm->Tm->Option Sb) (c:Cl) (st:List Cl×Bool) (i:Nat):List Cl×Bool:=bF (oU U c i) st c.length
def fP (U:Tm->Tm->Option Sb) (c:Cl) (i:Nat):List Cl×Bool:=bF (aRJ U c) ([],false) i
theorem WU (U:Tm->Tm->Option Sb) (c:Cl) (i:Nat) (x y:Lt) (st:List Cl×Bool) (k:Nat):(uP U c i x y st k).1.length<=st.1.length+1:=KM _ _ _
theorem WW (U:Tm->Tm->Option Sb) (c:Cl) (i:Nat) (st:List Cl×Bool) (j:Nat):(oU U c i st j).1.length<=st.1.length+4:=by
 unfold oU;split
 · rename_i x y _ _;split
   · omega
   · have:=eX (m:=1) (WU U c i x y) st 4;omega
 · omega
theorem aMU {U:Tm->Tm->Option Sb} {c:Cl} {i:Nat} (st:List Cl×Bool) {j:Nat} {x y:Lt} (hx:c[i]?=some x) (hy:c[j]?=some y):oU U c i st j=if j<=i\/x.1=true\/y.1=true then st else bF (uP U c i x y) st 4:=by unfold oU;rw [hx,hy]
theorem aJU (U:Tm->Tm->Option Sb) (c:Cl) (st:List Cl×Bool) (i:Nat):(aRJ U c st i).1.length<=st.1.length+c.length*4:=eX (m:=4) (WW U c i) st c.length
theorem aFW (U:Tm->Tm->Option Sb) (c:Cl) (i:Nat):(fP U c i).1.length<=i*(c.length*4):=by have:=eX (m:=c.length*4) (aJU U c) ([],false) i;rw [List.length_nil,Nat.zero_add] at this;exact this
theorem fU {yes:Bool} {l:Lt} {P:Tm->Prop} (h:P l.2.1/\P l.2.2):P (aL yes l).2.1/\P (aL yes l).2.2:=by
 cases yes
 · exact h
 · exact ⟨h.2,h.1⟩
section
variable {W:World} {cb co i j k:Nat} {CV XA YA TA TB:Value} {LA LB:List Value} {D:Nat->Bool} {w w':World} {s44 gB fZ kV kU s49 s50 s51 s52 s53 s54 s55 s56 s57 s58 s8 s9:Value}
end
def CLo (dep:Nat->List Nat) (D:Nat->Bool):Prop:=∀k,D k=true->∀m∈dep k,D m=true
theorem aO {dep:Nat->List Nat} {D:Nat->Bool} (h:CLo dep D) (k:Nat) (hk:∀m∈dep k,D m=true):CLo dep (λj=>j==k||D j):=λq hq m hm=>by
 show (m==k||D m)=true;by_cases e:q=k
 · subst e;rw [hk m hm];simp
 · have:D q=true:=by simpa [e] using hq
   rw [h q this m hm];simp
section
variable {W:World} {PV BV CV:Value} {i g8 g9:Nat} {R1 R2 LT:Value} {bc:Cl} {l:Lt} {a d:Value} {D:Nat->Bool} {w w':World} {s68 s69 s70 s71 s72 s73 s74 s75 s76 s77 s78 s79 s80:Value}
end
end
section
attribute [local go_sem ↓] Go.wp_at_zero Go.wp_at_succ
def B3 (w:World) (b:Nat) (x y z:Value):Prop:=w.cell? ⟨b,0,none⟩=some x/\w.cell? ⟨b,1,none⟩=some y/\w.cell? ⟨b,2,none⟩=some z/\∀i,w.frozen? ⟨b,i,none⟩=false
end
end Go.Proofs.YtoklbpbmghbhnaeGreat
