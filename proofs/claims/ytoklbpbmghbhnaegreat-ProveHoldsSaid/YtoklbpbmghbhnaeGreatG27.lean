import Derived.Test.YtoklbpbmghbhnaeGreatG26
import Derived.Lib.SliceRun
import Derived.Deep.RegionHeld3
namespace Go.Proofs.YtoklbpbmghbhnaeGreat
set_option maxRecDepth 100000
set_option maxHeartbeats 16000000
open Go.RowKit Go.Deep Go.ChangeShapes Go.WideShapes
structure PfR (p:Pf):Prop where
 g:ND p
 s6:p.sig.length<=6
 so:p.sig.all bN=true
 rt:∀x∈p.sts,aN p.sig x.2.2=0
structure Aft (p q:Pf):Prop where
 sg:q.sig=p.sig
 st:∃t,q.sts=p.sts++t
 ac:∃t,q.act=p.act++t
theorem Aft.refl (p:Pf):Aft p p:=⟨rfl,⟨[],by simp⟩,⟨[],by simp⟩⟩
theorem Aft.trans {p q r:Pf} (h:Aft p q) (h2:Aft q r):Aft p r:=by obtain ⟨t,ht⟩:=h.st;obtain ⟨t2,ht2⟩:=h2.st;obtain ⟨u,hu⟩:=h.ac;obtain ⟨u2,hu2⟩:=h2.ac;exact ⟨h2.sg.trans h.sg,⟨t++t2,by rw [ht2,ht,List.append_assoc]⟩,⟨u++u2,by rw [hu2,hu,List.append_assoc]⟩⟩
theorem aGB {sts t:List St} {k:Int} (h:k.toNat<sts.length):bD (sts++t) k=bD sts k:=by unfold bD;rw [List.getElem?_append_left h]
theorem XH {sts:List St} {l:List Int} (hl:IC sts l) {k:Int} (hk:k∈l):∃x∈sts,bD sts k=x.2.2:=by
 have h2:=hl k hk;have hlt:k.toNat<sts.length:=by omega
 exact ⟨sts[k.toNat],List.getElem_mem hlt,by unfold bD;rw [List.getElem?_eq_getElem hlt]⟩
theorem PfR.cl {p:Pf} (h:PfR p) {l:List Int} (hl:IC p.sts l) {k:Int} (hk:k∈l):GC (bD p.sts k)/\aN p.sig (bD p.sts k)=0:=by obtain ⟨x,hx,e⟩:=XH hl hk;rw [e];exact ⟨h.g.gg x hx,h.rt x hx⟩
theorem FL {p:Pf} {r:Int} {fr:List Int} {c:Cl} (h:PfR p) (hc:GC c) (hw:aN p.sig c=0):PfR (bI p r fr c).1/\Aft p (bI p r fr c).1:=by
 have hg:=(lS (r:=r) (fr:=fr) h.g hc).1;rcases fM p r fr c with ⟨_,e⟩|⟨_,e⟩
 · rw [e] at hg ⊢;exact ⟨⟨hg,h.s6,h.so,h.rt⟩,⟨rfl,⟨[],by simp⟩,⟨[],by simp⟩⟩⟩
 · rw [e] at hg ⊢;refine ⟨⟨hg,h.s6,h.so,λx hx=>?_⟩,⟨rfl,⟨_,rfl⟩,⟨[],by simp⟩⟩⟩;rcases List.mem_append.1 hx with hx|hx
   · exact h.rt x hx
   · rw [List.mem_singleton.1 hx];exact hw
theorem YU {r:Int} {fr:List Int} {p:Pf} {c:Cl} (h:PfR p) (hc:GC c) (hw:aN p.sig c=0):PfR (iD r fr p c)/\Aft p (iD r fr p c)/\(iD r fr p c).act=p.act:=by
 have hg:=LQ (r:=r) (fr:=fr) h.g hc;obtain ⟨h1,h2⟩:=FL (r:=r) (fr:=fr) h hc hw;have ha:(bI p r fr c).1.act=p.act:=by rcases fM p r fr c with ⟨_,e⟩|⟨_,e⟩<;>rw [e]
 unfold iD at hg ⊢;split
 · exact ⟨h,Aft.refl p,rfl⟩
 · rename_i hn;rw [if_neg hn] at hg;split
   · rename_i hk;rw [if_pos hk] at hg;exact ⟨⟨hg,h1.s6,h1.so,h1.rt⟩,⟨h2.sg,h2.st,h2.ac⟩,ha⟩
   · exact ⟨h1,h2,ha⟩
theorem R5 {s:List Int} {Q:Cl->Prop} {st:List Cl×Bool} (h:QR s Q st):∀c∈st.1,GC c/\aN s c=0:=λc hc=>⟨(h.1 c hc).1.gc,(h.1 c hc).1.rt⟩
theorem JX {U:Tm->Tm->Option Sb} (hU:CQ U) {s:List Int} (hs:s.all bN=true) {c:Cl} (hc:GC c) (hw:aN s c=0) (j:Nat):∀d∈(jN U c j).1,GC d/\aN s d=0:=R5 (aHS hU hs hc.g12 hc.1 (lW hw) j)
theorem KE {U:Tm->Tm->Option Sb} (hU:CQ U) {s:List Int} (hs:s.all bN=true) {c:Cl} (hc:GC c) (hw:aN s c=0) (j:Nat):∀d∈(fP U c j).1,GC d/\aN s d=0:=R5 (aHY hU hs hc.g12 hc.1 (lW hw) j)
theorem AX {U:Tm->Tm->Option Sb} (hU:CQ U) {s:List Int} (hs:s.all bN=true) {c d:Cl} (hc:GC c) (hw:aN s c=0) (hd:GC d) (hv:aN s d=0) (j:Nat):∀e∈(gJ U c (d.map (bK (aH (j5 5)))) j).1,GC e/\aN s e=0:=
 R5 (aHP hU hs hc.g12 hc.1 (lW hw) (BC hd) (by rw [List.length_map];exact hd.1) (aCQ hv) j)
structure kY (p:Pf):Prop where
 r:PfR p
 nd:(p.act++p.wai).Nodup
 fd:p.fnd= -1\/(0<=p.fnd/\p.fnd<p.sts.length/\bD p.sts p.fnd=[])
structure F8 (p q:Pf):Prop where
 a:Aft p q
 w:∃t,q.wai=p.wai++t/\∀k∈t,(p.sts.length:Int)<=k
 n:p.sts.length<=q.sts.length
theorem F8.refl (p:Pf):F8 p p:=⟨Aft.refl p,⟨[],by simp,by simp⟩,Nat.le_refl _⟩
theorem F8.trans {p q r:Pf} (h:F8 p q) (h2:F8 q r):F8 p r:=by
 obtain ⟨t,ht,htn⟩:=h.w;obtain ⟨u,hu,hun⟩:=h2.w;refine ⟨h.a.trans h2.a,⟨t++u,by rw [hu,ht,List.append_assoc],λk hk=>?_⟩,Nat.le_trans h.n h2.n⟩;rcases List.mem_append.1 hk with hk|hk
 · exact htn k hk
 · have h3:=hun k hk;have h4:=h.n;omega
theorem PU (sts:List St) (x:St):bD (sts++[x]) (sts.length:Int)=x.2.2:=by unfold bD;rw [Int.toNat_natCast,List.getElem?_append_right (Nat.le_refl _),Nat.sub_self];rfl
theorem vP {p:Pf} (h:ND p) {k:Int} (hk:(p.sts.length:Int)<=k):k∉p.act++p.wai:=λhm=>by
 rcases List.mem_append.1 hm with hm|hm
 · have:=h.ga k hm;omega
 · have:=h.gw k hm;omega
theorem ER {a b:List Int} {g:Int} (h:(a++b).Nodup) (hg:g∉a++b):(a++g::b).Nodup:=(List.perm_middle.nodup_iff).2 (List.nodup_cons.2 ⟨hg,h⟩)
theorem rZ {p:Pf} {r:Int} {fr:List Int} {c:Cl} (h:kY p) (hc:GC c) (hw:aN p.sig c=0):kY (bI p r fr c).1/\F8 p (bI p r fr c).1/\(bI p r fr c).1.act=p.act/\(bI p r fr c).1.wai=p.wai:=by
 obtain ⟨h1,h2⟩:=FL (r:=r) (fr:=fr) h.r hc hw;rcases fM p r fr c with ⟨_,e⟩|⟨_,e⟩
 · rw [e] at h1 h2 ⊢;exact ⟨⟨h1,h.nd,h.fd⟩,⟨h2,⟨[],by simp,by simp⟩,Nat.le_refl _⟩,rfl,rfl⟩
 · rw [e] at h1 h2 ⊢;refine ⟨⟨h1,h.nd,?_⟩,⟨h2,⟨[],by simp,by simp⟩,by simp⟩,rfl,rfl⟩;show (if c.length=0/\p.fnd<0 then (p.sts.length:Int) else p.fnd)= -1\/_;by_cases hf:c.length=0/\p.fnd<0
   · refine .inr ⟨?_,?_,?_⟩
     · show 0<=(if c.length=0/\p.fnd<0 then (p.sts.length:Int) else p.fnd);rw [if_pos hf];omega
     · show (if c.length=0/\p.fnd<0 then (p.sts.length:Int) else p.fnd)<((p.sts++[(r,fr,c)]).length:Int);rw [if_pos hf];simp;omega
     · show bD (p.sts++[(r,fr,c)]) (if c.length=0/\p.fnd<0 then (p.sts.length:Int) else p.fnd)=[];rw [if_pos hf,PU];exact List.length_eq_zero_iff.1 hf.1
   · rcases h.fd with hd|⟨d1,d2,d3⟩
     · left;rw [if_neg hf];exact hd
     · refine .inr ⟨?_,?_,?_⟩
       · show 0<=(if c.length=0/\p.fnd<0 then (p.sts.length:Int) else p.fnd);rw [if_neg hf];exact d1
       · show (if c.length=0/\p.fnd<0 then (p.sts.length:Int) else p.fnd)<((p.sts++[(r,fr,c)]).length:Int);rw [if_neg hf];simp;omega
       · show bD (p.sts++[(r,fr,c)]) (if c.length=0/\p.fnd<0 then (p.sts.length:Int) else p.fnd)=[];rw [if_neg hf,aGB (by omega)];exact d3
theorem aF9 {r:Int} {fr:List Int} {p:Pf} {c:Cl} (h:kY p) (hc:GC c) (hw:aN p.sig c=0):kY (iD r fr p c)/\F8 p (iD r fr p c)/\(iD r fr p c).act=p.act:=by
 have hr:=YU (r:=r) (fr:=fr) h.r hc hw;obtain ⟨h1,h2,h3,h4⟩:=rZ (r:=r) (fr:=fr) h hc hw;unfold iD at hr ⊢;split
 · exact ⟨h,F8.refl p,rfl⟩
 · rename_i hn;rw [if_neg hn] at hr;split
   · rename_i hk;rw [if_pos hk] at hr;have h5:=((lS (r:=r) (fr:=fr) h.r.g hc).2 hk).2.2;refine ⟨⟨hr.1,?_,h1.fd⟩,⟨hr.2.1,⟨_,by rw [←h4],λk hk=>?_⟩,h2.n⟩,hr.2.2⟩
     · show ((bI p r fr c).1.act++((bI p r fr c).1.wai++[((bI p r fr c).1.sts.length:Int) - 1])).Nodup;rw [h3,h4,←List.append_assoc]
       have:=ER (a:=p.act++p.wai) (b:=[]) (g:=((bI p r fr c).1.sts.length:Int) - 1) (by simpa using h.nd) (by
        rw [List.append_nil];refine vP h.r.g ?_;rw [h5];simp)
       exact this
     · rw [List.mem_singleton.1 hk,h5];simp
   · exact ⟨h1,h2,h3⟩
theorem XF {r:Int} {fr:List Int}:∀{cs:List Cl} {p:Pf},kY p->(∀c∈cs,GC c/\aN p.sig c=0)->kY (cs.foldl (iD r fr) p)/\F8 p (cs.foldl (iD r fr) p)/\(cs.foldl (iD r fr) p).act=p.act
 |[],p,h,_=>⟨h,F8.refl p,rfl⟩
 |c::cs,p,h,hc=>by obtain ⟨h1,h2,h3⟩:=aF9 (r:=r) (fr:=fr) h (hc c (by simp)).1 (hc c (by simp)).2;obtain ⟨q1,q2,q3⟩:=XF (r:=r) (fr:=fr) (cs:=cs) h1 (λd hd=>by rw [h2.a.sg];exact hc d (by simp [hd]));exact ⟨q1,h2.trans q2,q3.trans h3⟩
theorem kY.lost {p:Pf} (h:kY p) (b:Bool):kY {p with lst:=b}:=⟨⟨⟨h.r.g.ga,h.r.g.gw,h.r.g.gg,h.r.g.gl,h.r.g.gs⟩,h.r.s6,h.r.so,h.r.rt⟩,h.nd,h.fd⟩
theorem F8.lost {p q:Pf} {b:Bool} (h:F8 {p with lst:=b} q):F8 p q:=⟨⟨h.a.sg,h.a.st,h.a.ac⟩,h.w,h.n⟩
theorem nH {r:Int} {fr:List Int} {p:Pf} {st:List Cl×Bool} (h:kY p) (hc:∀c∈st.1,GC c/\aN p.sig c=0):kY (jF p r fr st)/\F8 p (jF p r fr st)/\(jF p r fr st).act=p.act:=by obtain ⟨h1,h2,h3⟩:=XF (r:=r) (fr:=fr) (p:={p with lst:=p.lst||st.2}) (cs:=st.1) (h.lost _) hc;exact ⟨h1,h2.lost,h3⟩
theorem JK {U:Tm->Tm->Option Sb} (hU:CQ U) {p:Pf} {c:Cl} {g k:Int} (h:kY p) (hc:GC c) (hw:aN p.sig c=0) (hk:k∈p.act):kY (qH U c g p k)/\F8 p (qH U c g p k)/\(qH U c g p k).act=p.act:=by
 obtain ⟨hkg,hkw⟩:=h.r.cl h.r.g.ga hk;obtain ⟨h1,h2,h3⟩:=nH (r:=4) (fr:=[k,g]) h (AX hU h.r.so hkg hkw hc hw (bD p.sts k).length);unfold qH;split
 · obtain ⟨q1,q2,q3⟩:=nH (r:=4) (fr:=[g,k]) (st:=gJ U c ((bD p.sts k).map (bK (aH (j5 5)))) c.length) h1 (by rw [h2.a.sg];exact AX hU h.r.so hc hw hkg hkw c.length);exact ⟨q1,h2.trans q2,q3.trans h3⟩
 · exact ⟨h1,h2,h3⟩
theorem KU {U:Tm->Tm->Option Sb} (hU:CQ U) {c:Cl} {g:Int}:∀{l:List Int} {p:Pf},kY p->GC c->aN p.sig c=0->(∀k∈l,k∈p.act)->kY (l.foldl (qH U c g) p)/\F8 p (l.foldl (qH U c g) p)/\(l.foldl (qH U c g) p).act=p.act
 |[],p,h,_,_,_=>⟨h,F8.refl p,rfl⟩
 |k::l,p,h,hc,hw,hl=>by obtain ⟨h1,h2,h3⟩:=JK hU (g:=g) h hc hw (hl k (by simp));obtain ⟨q1,q2,q3⟩:=KU hU (g:=g) (l:=l) h1 hc (by rw [h2.a.sg];exact hw) (λm hm=>by rw [h3];exact hl m (by simp [hm]));exact ⟨q1,h2.trans q2,q3.trans h3⟩
theorem SN {p:Pf} {g:Int} (h:kY p) (hg:g∉p.act++p.wai) (hk:0<=g/\g<p.sts.length) (hs:p.act.length+p.wai.length+1<=p.sts.length):kY {p with act:=p.act++[g]}:=by
 refine ⟨⟨⟨λk ZH=>?_,h.r.g.gw,h.r.g.gg,h.r.g.gl,by simp only [List.length_append,List.length_cons,List.length_nil];omega⟩,h.r.s6,h.r.so,h.r.rt⟩,?_,h.fd⟩
 · rcases List.mem_append.1 ZH with ZH|ZH
   · exact h.r.g.ga k ZH
   · rw [List.mem_singleton.1 ZH];exact hk
 · show ((p.act++[g])++p.wai).Nodup;rw [List.append_assoc];exact ER h.nd hg
theorem LG {U:Tm->Tm->Option Sb} (hU:CQ U) {p:Pf} {c:Cl} {g:Int} (h:kY {p with act:=p.act++[g]}) (hc:GC c) (hw:aN p.sig c=0):kY (IW U p c g)/\F8 {p with act:=p.act++[g]} (IW U p c g)/\(IW U p c g).act=p.act++[g]:=by obtain ⟨h1,h2,h3⟩:=nH (r:=2) (fr:=[g]) (st:=jN U c c.length) h (JX hU h.r.so hc hw c.length);obtain ⟨q1,q2,q3⟩:=nH (r:=3) (fr:=[g]) (st:=fP U c c.length) h1 (by rw [h2.a.sg];exact KE hU h.r.so hc hw c.length);exact ⟨q1,h2.trans q2,q3.trans h3⟩
theorem aFQ {U:Tm->Tm->Option Sb} (hU:CQ U) {p:Pf} {c:Cl} {g:Int} (h:kY {p with act:=p.act++[g]}) (hc:GC c) (hw:aN p.sig c=0):kY (DK U p c g)/\F8 {p with act:=p.act++[g]} (DK U p c g)/\(DK U p c g).act=p.act++[g]:=by obtain ⟨h1,h2,h3⟩:=LG hU h hc hw;obtain ⟨q1,q2,q3⟩:=KU hU (g:=g) (l:=p.act++[g]) h1 hc (by rw [h2.a.sg];exact hw) (λk hk=>by rw [h3];exact hk);exact ⟨q1,h2.trans q2,q3.trans h3⟩
theorem F8.act {p q:Pf} {g:Int} (h:F8 {p with act:=p.act++[g]} q):F8 p q:=by obtain ⟨t,ht⟩:=h.a.ac;exact ⟨⟨h.a.sg,h.a.st,⟨g::t,by rw [ht,List.append_assoc];rfl⟩⟩,h.w,h.n⟩
structure Pkd (p q:Pf):Prop where
 i:kY q
 n:F8 p q
 a:q.act.length<=p.act.length+1
theorem OV {U:Tm->Tm->Option Sb} (hU:CQ U) {p:Pf} {c:Cl} {g:Int} (h:kY p) (hc:GC c) (hw:aN p.sig c=0) (hg:g∉p.act++p.wai) (hk:0<=g/\g<p.sts.length) (hs:p.act.length+p.wai.length+1<=p.sts.length):Pkd p (rP U p c g):=by
 unfold rP;split
 · exact ⟨h,F8.refl p,Nat.le_succ _⟩
 · obtain ⟨q1,q2,q3⟩:=aFQ hU (SN h hg hk hs) hc hw;exact ⟨q1,q2.act,by rw [q3];simp⟩
theorem aK4 {sts:List St} {l:List Int} {u:Lt} (h:u∈qE sts l):∃k∈l,bD sts k=[u]:=by obtain ⟨k,hk,e⟩:=List.mem_filterMap.1 h;exact ⟨k,hk,(vM e).1⟩
theorem wN {p:Pf} (h:PfR p):TM p.sig (qE p.sts p.act):=λu hu=>by obtain ⟨k,hk,e⟩:=aK4 hu;obtain ⟨h1,h2⟩:=h.cl h.g.ga hk;rw [e] at h1 h2;exact IK h.s6 h1 (eP h2) u (by simp)
theorem aCE {sts:List St} {l:List Int}:(qE sts l).length<=l.length:=List.length_filterMap_le _ _
theorem PfR.rng {p:Pf} (h:PfR p) {g:Int} (hk:0<=g/\g<p.sts.length):GC (bD p.sts g)/\aN p.sig (bD p.sts g)=0:=h.cl (l:=[g]) (λk ZH=>by rw [List.mem_singleton.1 ZH];exact hk) (List.mem_singleton.2 rfl)
theorem aE9 {U:Tm->Tm->Option Sb} (hU:CQ U) {p:Pf} {g:Int} (h:kY p) (hg:g∉p.act++p.wai) (hk:0<=g/\g<p.sts.length) (hs:p.act.length+p.wai.length+1<=p.sts.length):Pkd p (oP U p g):=by
 obtain ⟨hc,hw⟩:=h.r.rng hk;unfold oP;split
 · exact ⟨h.lost _,⟨⟨rfl,⟨[],by simp⟩,⟨[],by simp⟩⟩,⟨[],by simp,by simp⟩,Nat.le_refl _⟩,Nat.le_succ _⟩
 · rename_i h0;obtain ⟨h1,h2⟩:=G7 h.r.s6 (wN h.r) (IK h.r.s6 hc (eP hw)) hc.1 (Decidable.not_not.1 h0);split
   · exact OV hU h h1 h2 hg hk hs
   · obtain ⟨q1,q2,q3,q4⟩:=rZ (r:=5) (fr:=g::xI p.sts p.act) h h1 h2;split
     · rename_i ho;obtain ⟨q5,-,q6⟩:=(lS (r:=5) (fr:=g::xI p.sts p.act) h.r.g h1).2 ho;have hq:=OV hU (g:=(p.sts.length:Int)) q1 h1 (by rw [q2.a.sg];exact h2) (by rw [q3,q4];exact vP h.r.g (Int.le_refl _)) ⟨by omega,by rw [q6];simp;omega⟩ q5;exact ⟨hq.i,q2.trans hq.n,by have:=hq.a;rw [q3] at this;exact this⟩
     · exact ⟨q1,q2,by rw [q3];exact Nat.le_succ _⟩
def qY (l:List Int) (n:Nat):List Int:=l.take n++l.drop (n+1)
theorem aCW {l:List Int} {n:Nat} (h:n<l.length):(qY l n).length+1=l.length:=by unfold qY;simp only [List.length_append,List.length_take,List.length_drop];omega
theorem aE0 {l:List Int} {n:Nat} (h:n<l.length):l=l.take n++l.getD n 0::l.drop (n+1):=by rw [List.getD_eq_getElem?_getD,List.getElem?_eq_getElem h,Option.getD_some,←List.drop_eq_getElem_cons h,List.take_append_drop]
theorem aLS {l:List Int} {n:Nat} {k:Int} (h:k∈qY l n):k∈l:=by
 rcases List.mem_append.1 h with h|h
 · exact List.mem_of_mem_take h
 · exact List.mem_of_mem_drop h
theorem RZ {p:Pf} {n:Nat} (h:kY p) (hn:n<p.wai.length):kY {p with wai:=qY p.wai n}/\p.wai.getD n 0∉p.act++qY p.wai n/\(0<=p.wai.getD n 0/\p.wai.getD n 0<p.sts.length)/\p.act.length+(qY p.wai n).length+1<=p.sts.length:=by
 have hl:=aCW hn;have hs:=h.r.g.gs;have hp:(p.wai.getD n 0::(p.act++qY p.wai n)).Nodup:=by
  have h1:=h.nd;rw [aE0 hn,←List.append_assoc] at h1;have h2:=(List.perm_middle.nodup_iff).1 h1;unfold qY
  rwa [List.append_assoc] at h2
 obtain ⟨h2,h3⟩:=List.nodup_cons.1 hp;refine ⟨⟨⟨⟨h.r.g.ga,λk hk=>h.r.g.gw k (aLS hk),h.r.g.gg,h.r.g.gl,?_⟩,h.r.s6,h.r.so,h.r.rt⟩,h3,h.fd⟩,h2,?_,by omega⟩
 · show p.act.length+(qY p.wai n).length<=p.sts.length;omega
 · refine h.r.g.gw _ ?_;rw [List.getD_eq_getElem?_getD,List.getElem?_eq_getElem hn,Option.getD_some];exact List.getElem_mem hn
theorem qV {U:Tm->Tm->Option Sb} (p:Pf) (n:Int):((0<=p.fnd\/p.wai.length=0)/\kE U p n=(11,p))\/(¬(0<=p.fnd\/p.wai.length=0)/\(n<0\/(p.wai.length:Int)<=n)/\kE U p n=(6,p))\/
  (¬(0<=p.fnd\/p.wai.length=0)/\0<=n/\n.toNat<p.wai.length/\kE U p n=(0,oP U {p with wai:=qY p.wai n.toNat} (p.wai.getD n.toNat 0))):=by
 unfold kE;by_cases h1:0<=p.fnd\/p.wai.length=0
 · exact .inl ⟨h1,if_pos h1⟩
 · rw [if_neg h1];by_cases h2:n<0\/(p.wai.length:Int)<=n
   · exact .inr (.inl ⟨h1,h2,if_pos h2⟩)
   · rw [if_neg h2];exact .inr (.inr ⟨h1,by omega,by omega,rfl⟩)
theorem OU {U:Tm->Tm->Option Sb} (hU:CQ U) {p:Pf} {n:Int} (h:kY p):((kE U p n).1≠0/\(kE U p n).2=p)\/((kE U p n).1=0/\0<=n/\n.toNat<p.wai.length/\Pkd {p with wai:=qY p.wai n.toNat} (kE U p n).2):=by
 rcases qV (U:=U) p n with ⟨_,e⟩|⟨_,_,e⟩|⟨_,h1,h2,e⟩
 · rw [e];exact .inl ⟨by simp,rfl⟩
 · rw [e];exact .inl ⟨by simp,rfl⟩
 · rw [e];obtain ⟨q1,q2,q3,q4⟩:=RZ h h2;exact .inr ⟨rfl,h1,h2,aE9 hU q1 q2 q3 q4⟩
theorem yY {U:Tm->Tm->Option Sb} (hU:CQ U) {p:Pf} {n:Int} (h:kY p):kY (kE U p n).2:=by
 rcases OU hU (n:=n) h with ⟨_,e⟩|⟨_,_,_,e⟩
 · rw [e];exact h
 · exact e.i
section
attribute [local go_sem ↓] Go.wp_at_zero Go.wp_at_succ
structure aRX (w0 w:World) (b:Nat) (r:Int) (fv:Value) (xb rb fb:Nat):Prop where
 cx:w.cell? ⟨xb,0,none⟩=some (.pointer (some ⟨b,0,none⟩))
 cr:w.cell? ⟨rb,0,none⟩=some (.int .i64 r)
 cf:w.cell? ⟨fb,0,none⟩=some fv
 lx:w0.heap.size<=xb
 lr:w0.heap.size<=rb
 lf:w0.heap.size<=fb
theorem RB (b:Nat) (r:Int) (f1:Option Addr) (f2 f3:Nat) (w:World):
  Calls Tryz.prog 65 #[.pointer (some ⟨b,0,none⟩),.int .i64 r,.slice f1 f2 f3] w λe w'=>∃xb rb fb,e= .returned (.func (.func 106) #[] #[.pointer (some ⟨xb,0,none⟩),.pointer (some ⟨rb,0,none⟩),.pointer (some ⟨fb,0,none⟩)])/\aRX w w' b r (.slice f1 f2 f3) xb rb fb/\Below w.heap.size w w':=by
 go_enter Tryz.func65,Tryz.ntmps65
 go_wp2_with fail
 go_ret;refine ⟨_,_,_,rfl,⟨?_,?_,?_,?_,?_,?_⟩,?_⟩
 · exact aA (aD _ _) _ _ (aA (aD _ _) _ _ (by simp))
 · exact aA (aD _ _) _ _ (aF (by simp))
 · exact aF (by simp)
 · exact Nat.le_refl _
 · omega
 · omega
 · exact ((aD w _).alloc (by simp) _).alloc (by simp;omega) _
theorem BP {lo:Nat} {w0 w1 w2 w3:World} {b:Nat} {p:Pf} {a1 a2 a3 a4:Value} {r:Int} {fr:List Int} {fv:Value} {xb rb fb:Nat} {v:Value} (st:List Cl×Bool) (h:PS lo w0 b p a1 a2 a3 a4) (hg:ND p) (hb1:Below w0.heap.size w0 w1) (hN:iA (iU b a2 a3 a4) w1 fr fv) (hfl:fr.length<=1000)
  (hx:aRX w1 w2 b r fv xb rb fb) (hb2:Below w1.heap.size w1 w2) (hb3:Below w2.heap.size w2 w3) (hcs:mD w3 st.1 v) (hown:∀g,v.ownBlock=some g->w2.heap.size<=g) (hgc:∀c∈st.1,GC c):
  Calls Tryz.prog 106 #[v,.bool st.2,.pointer (some ⟨xb,0,none⟩),.pointer (some ⟨rb,0,none⟩),.pointer (some ⟨fb,0,none⟩)] w3 λe w'=>e= .returned (.tuple #[])/\∃z2 z4,PS lo w' b (jF p r fr st) a1 z2 a3 z4/\kX w0 (iU b a2 a3 a4) w' (iU b z2 a3 z4):=by
 have MM:Below w1.heap.size w1 w3:=aC hb2 hb3;have hb:Below w0.heap.size w0 w3:=aC hb1 MM;have hlt:∀q,w0.heap.size<=q->¬iU b a2 a3 a4 q:=λq hq e=>by have:=(h.at q e).2;omega
 have h10:=hb1.size;have h21:=hb2.size;refine (aGC b p a1 a2 a3 a4 r fr fv st.1 v st.2 xb rb fb w3 (h.below hb) hg (aA hb3 _ _ hx.cx) (aA hb3 _ _ hx.cr) (aA hb3 _ _ hx.cf) (hlt _ (by have:=hx.lx;omega)) (hlt _ (by have:=hx.lr;omega)) (hlt _ (by have:=hx.lf;omega)) (hN.below MM) hfl hcs (λq hq=>hlt _ (by have:=hown q hq;omega)) hgc).mono ?_;rintro e w' ⟨e1,z2,z4,hP,hM⟩;exact ⟨e1,z2,z4,hP,(kX.of hb _).trans hM⟩
theorem pY {w w':World} {E:Nat->Prop} {l:List Int} {c:Nat} (hE:∀q,E q->q<w.heap.size) (hc:l.length<=c) (hm:c<=maxLen) (hF:∀i,i<l.length->w'.cell? ⟨w.heap.size,i,none⟩=some (.int .i64 (l.getD i 0))):iA E w' l (.slice (some ⟨w.heap.size,0,none⟩) l.length c):=
 ⟨_,c,w.heap.size,0,rfl,λ_=>⟨rfl,λe=>Nat.lt_irrefl _ (hE _ e)⟩,hc,hm,λi hi=>by rw [Nat.zero_add];exact hF i hi⟩
def aKR (U:Tm->Tm->Option Sb) (p:Pf) (c:Cl) (g:Int):Pf:=p.act.foldl (qH U c g) (jF (jF p 2 [g] (jN U c c.length)) 3 [g] (fP U c c.length))
theorem aFR (U:Tm->Tm->Option Sb) (p:Pf) (c:Cl) (g:Int):DK U p c g=aKR U {p with act:=p.act++[g]} c g:=rfl
theorem aBT {lo:Nat} {U:Tm->Tm->Option Sb} (hU:CQ U) (b:Nat) (p:Pf) (a1 a2 a3 a4:Value) (g:Int) (w:World) (h:PS lo w b p a1 a2 a3 a4) (hI:kY p) (hg:0<=g/\g<p.sts.length):
  Calls Tryz.prog 33 #[.pointer (some ⟨b,0,none⟩),.int .i64 g] w λe w'=>e= .returned (.tuple #[])/\∃z2 z4,PS lo w' b (aKR U p (bD p.sts g) g) a1 z2 a3 z4/\kX w (iU b a2 a3 a4) w' (iU b z2 a3 z4):=by
 have HU:=aB hU;obtain ⟨hgc,hwc⟩:=hI.r.rng hg;have dI:=aB (kK b p.sts a2 g w h.bx.2.1 h.pf.2.1 hg);obtain ⟨c,hc⟩:∃c,c=bD p.sts g:=⟨_,rfl⟩;rw [←hc] at hgc hwc dI ⊢;obtain ⟨⟨s1,s3,hs⟩,⟨t1,t3,ht⟩,⟨u1,u3,hu⟩,v1,v3,hv⟩:=h.slices;subst hs ht hu hv;obtain ⟨p1,hp1⟩:∃q,q=jF p 2 [g] (jN U c c.length):=⟨_,rfl⟩;obtain ⟨p2,hp2⟩:∃q,q=jF p1 3 [g] (fP U c c.length):=⟨_,rfl⟩;obtain ⟨hI1,hX1,hA1⟩:=nH (r:=2) (fr:=[g]) (st:=jN U c c.length) hI (JX hU hI.r.so hgc hwc c.length);rw [←hp1] at hI1 hX1 hA1;have aKJ:aN p1.sig c=0:=by rw [hX1.a.sg];exact hwc
 obtain ⟨hI2,hX2,hA2⟩:=nH (r:=3) (fr:=[g]) (st:=fP U c c.length) hI1 (KE hU hI1.r.so hgc aKJ c.length);rw [←hp2] at hI2 hX2 hA2;have aQH:aN p2.sig c=0:=by rw [hX2.a.sg];exact aKJ
 obtain ⟨Q,hQ⟩:∃Q,Q=aKR U p c g:=⟨_,rfl⟩;have HQ:Hid (Q=p.act.foldl (qH U c g) p2):=by rw [Hid,hQ,hp2,hp1];rfl
 rw [←hQ];have F9:=aB hgc;have Hkr:=aB (λd hd=>(JX hU hI.r.so hgc hwc c.length d hd).1);have Hkf:=aB (λd hd=>(KE hU hI1.r.so hgc aKJ c.length d hd).1);have Hp1:=aB hp1;have Hp2:=aB hp2;have HP:=aB h;have HG:=aB hI.r.g;have HG1:=aB hI1.r.g;have HI2:=aB hI2;have HA2:Hid (p2.act=p.act):=hA2.trans hA1;have Hw2:=aB aQH;have HAk:Hid (p.act.length<=120):=by have h1:=hI.r.g.gs;have h2:=hI.r.g.gl;rw [Hid];omega
 have HAt:=aB h.at
 clear hgc hwc hc hI1 hX1 hA1 aKJ hI2 hX2 hA2 aQH hQ hp1 hp2 h hI hU hg;go_enter Tryz.func33,Tryz.ntmps33
 go_wp2_with fail
 refine dI.out.mono ?_;rintro e wf ⟨cv,rfl,hC,hwf⟩;rw [hwf];clear hwf wf;have HC:=aB hC;obtain ⟨c1,c3,rfl⟩:=aK hC;clear hC dI
 go_upto_region 1 with fail
 have hN:iA (iU b (.slice t1 p.sts.length t3) (.slice u1 p.act.length u3) (.slice v1 p.wai.length v3)) (w.alloc (.cells #[.int .i64 g] 3)) [g] (.slice (some ⟨w.heap.size,0,none⟩) 1 1):=pY (l:=[g]) (λq hq=>(HP.out.at q hq).2) (Nat.le_refl _) (by decide) (λi hi=>by
  match i,hi with
  |0,_=>simp
  |i+1,hi=>exact absurd hi (by simp))
 have hb1:Below w.heap.size w (w.alloc (.cells #[.int .i64 g] 3)):=aD _ _;have Hb1:=aB hb1;have HN:=aB hN;clear hb1 hN
 go_wp2_with fail
 generalize (w.alloc (.cells #[.int .i64 g] 3))=w1a at*;refine (RB b 2 _ _ _ w1a).mono ?_;rintro e w2a ⟨xb,rb,fb,rfl,hX,hb2⟩;have HX:=aB hX;have Hb2:=aB hb2;have DC:=aB (aC Hb1.out hb2);clear hX hb2;have Hru:=aB (FC HU.out c _ w2a (HC.out.below DC.out) F9.out.g12 F9.out.1)
 go_wp2_with fail
 refine Hru.out.mono ?_;rintro e w3a ⟨va,rfl,hcs,hb3,hown⟩;have MG:=aB (BP (jN U c c.length) HP.out HG.out Hb1.out HN.out (by simp) HX.out Hb2.out hb3 hcs hown Hkr.out);clear hcs hb3 hown Hru
 go_wp2_with fail
 refine MG.out.mono ?_;rintro e w4a ⟨rfl,z2a,z4a,hP,hM⟩;clear Hb1 HN HX Hb2 DC MG;have HP1:Hid (PS lo w4a b p1 (.slice s1 p.sig.length s3) z2a (.slice u1 p.act.length u3) z4a):=by rw [Hid,Hp1.out];exact hP
 have HM1:=aB hM;have HC1:=aB ((HP.out.kpt hM).cin HC.out);clear hP hM
 go_upto_region 2 with fail
 have hN:iA (iU b z2a (.slice u1 p.act.length u3) z4a) (w4a.alloc (.cells #[.int .i64 g] 3)) [g] (.slice (some ⟨w4a.heap.size,0,none⟩) 1 1):=pY (l:=[g]) (λq hq=>(HP1.out.at q hq).2) (Nat.le_refl _) (by decide) (λi hi=>by
  match i,hi with
  |0,_=>simp
  |i+1,hi=>exact absurd hi (by simp))
 have hb1:Below w4a.heap.size w4a (w4a.alloc (.cells #[.int .i64 g] 3)):=aD _ _;have Hb1:=aB hb1;have HN:=aB hN;clear hb1 hN
 go_wp2_with fail
 generalize (w4a.alloc (.cells #[.int .i64 g] 3))=w1b at*;refine (RB b 3 _ _ _ w1b).mono ?_;rintro e w2b ⟨xb,rb,fb,rfl,hX,hb2⟩;have HX:=aB hX;have Hb2:=aB hb2;have DC:=aB (aC Hb1.out hb2);clear hX hb2;have Hru:=aB (GM HU.out c _ w2b (HC1.out.below DC.out) F9.out.g12 F9.out.1)
 go_wp2_with fail
 refine Hru.out.mono ?_;rintro e w3b ⟨vb,rfl,hcs,hb3,hown⟩;have MG:=aB (BP (fP U c c.length) HP1.out HG1.out Hb1.out HN.out (by simp) HX.out Hb2.out hb3 hcs hown Hkf.out);clear hcs hb3 hown Hru
 go_wp2_with fail
 refine MG.out.mono ?_;rintro e w4b ⟨rfl,z2b,z4b,hP,hM⟩;clear Hb1 HN HX Hb2 DC MG;have ZA:Hid (PS lo w4b b p2 (.slice s1 p.sig.length s3) z2b (.slice u1 p.act.length u3) z4b):=by rw [Hid,Hp2.out];exact hP
 have HM2:=aB (HM1.out.trans hM);clear hP hM HP1 HM1 HC1 Hkr Hkf HG1 Hp1 Hp2;obtain ⟨-,-,x2,-⟩:=ZA.out.bx
 go_wp2_with fail
 clear x2
 go_loopw [35] (λi wr=>∃(j:Nat) (pj:Pf) (z2 z4:Value),j<=p.act.length/\i= .int .i64 j/\pj=(p.act.take j).foldl (qH U c g) p2/\kY pj/\pj.act=p.act/\aN pj.sig c=0/\PS lo wr b pj (.slice s1 p.sig.length s3) z2 (.slice u1 p.act.length u3) z4/\kX w (iU b (.slice t1 p.sts.length t3) (.slice u1 p.act.length u3) (.slice v1 p.wai.length v3)) wr (iU b z2 (.slice u1 p.act.length u3) z4)) (λi _=>p.act.length - (intOf i).toNat)
 case atStart=>exact ⟨0,p2,_,_,Nat.zero_le _,rfl,rfl,HI2.out,HA2.out,Hw2.out,ZA.out,HM2.out⟩
 case round=>
  clear ZA HM2;obtain ⟨j,pj,z2,z4,hj,rfl,hpj,hIj,hAj,hwj,hPj,hMj⟩:=hrel;have Hpj:=aB hpj;have HIj:=aB hIj;have HAj:=aB hAj;have Hwj:=aB hwj;have rE:=aB hPj;have zS:=aB hMj;generalize wr=wa at*;clear hpj hIj hAj hwj hPj hMj;by_cases hlt:j<p.act.length
  · have hlt':(j:Int)<(p.act.length:Int):=by omega
    have hak:p.act.length<=120:=HAk.out;have hN:=rE.out.pf.2.2.1;rw [HAj.out] at hN;obtain ⟨ua,uc,ub,uo,hue,ZG,hul,hum,huF⟩:=hN;simp only [Value.slice.injEq,true_and] at hue;obtain ⟨aN5,aN4⟩:=hue;subst aN5 aN4;have ZW:=(ZG (by omega)).1;subst ZW;have q0:=huF j hlt;have hin:p.act.getD j 0∈pj.act:=by rw [HAj.out,List.getD_eq_getElem?_getD,List.getElem?_eq_getElem hlt];simp
    have uD:Hid ((p.act.take (j+1)).foldl (qH U c g) p2=qH U c g pj (p.act.getD j 0)):=by rw [Hid,List.take_add_one,List.foldl_append,←Hpj.out,List.getElem?_eq_getElem hlt,List.getD_eq_getElem?_getD,List.getElem?_eq_getElem hlt];rfl
    obtain ⟨k,hk⟩:∃k,k=p.act.getD j 0:=⟨_,rfl⟩;rw [←hk] at q0 hin uD;have hkr:=HIj.out.r.g.ga k hin;have dI:=aB (kK b pj.sts z2 k wa rE.out.bx.2.1 rE.out.pf.2.1 hkr);obtain ⟨hDg,hDw⟩:=HIj.out.r.cl HIj.out.r.g.ga hin;have jP:=aB (JK HU.out (g:=g) HIj.out F9.out Hwj.out hin);have Hks:=aB (AX HU.out HIj.out.r.so hDg hDw F9.out Hwj.out (bD pj.sts k).length);have HIc:=aB (nH (r:=4) (fr:=[k,g]) (st:=gJ U (bD pj.sts k) (c.map (bK (aH (j5 5)))) (bD pj.sts k).length) HIj.out Hks.out);have aPD:Hid (∀d∈(gJ U c ((bD pj.sts k).map (bK (aH (j5 5)))) c.length).1,GC d/\aN pj.sig d=0):=AX HU.out HIj.out.r.so F9.out Hwj.out hDg hDw c.length;have HsA:Hid (qH U c g pj k=if k≠g then jF (jF pj 4 [k,g] (gJ U (bD pj.sts k) (c.map (bK (aH (j5 5)))) (bD pj.sts k).length)) 4 [g,k] (gJ U c ((bD pj.sts k).map (bK (aH (j5 5)))) c.length) else jF pj 4 [k,g] (gJ U (bD pj.sts k) (c.map (bK (aH (j5 5)))) (bD pj.sts k).length)):=rfl;obtain ⟨D,hD⟩:∃D,D=bD pj.sts k:=⟨_,rfl⟩;rw [←hD] at dI hDg hDw Hks HIc aPD HsA;have HDg:=aB hDg;have Hkg:=aB (λd hd=>(Hks.out d hd).1);have aUW:=aB (λd hd=>(aPD.out d hd).1);have HGj:=aB HIj.out.r.g;have HGc:=aB HIc.out.1.r.g;have HCj:=aB ((HP.out.kpt zS.out).cin HC.out);obtain ⟨⟨y1,y3,hy⟩,⟨ta,tc,hz2⟩,-,va,vc,hz4⟩:=rE.out.slices;subst hz2 hz4;clear hy;have Hkk:=aB hk;clear hk hD hDg hDw hin hkr ZG huF hul hum Hks aPD Hpj
    go_wp2_with fail
    refine dI.out.mono ?_;rintro e wx ⟨dv,rfl,hDv,hwx⟩;rw [hwx];clear hwx wx;have HDv:=aB hDv;obtain ⟨d1,d3,rfl⟩:=aK hDv;clear hDv dI q0
    go_upto_region 7 with fail
    have hN:iA (iU b (.slice ta pj.sts.length tc) (.slice (some ⟨ub,uo,none⟩) p.act.length u3) (.slice va pj.wai.length vc)) (wa.alloc (.cells #[.int .i64 k,.int .i64 g] 3)) [k,g] (.slice (some ⟨wa.heap.size,0,none⟩) 2 2):=pY (l:=[k,g]) (λq hq=>(rE.out.at q hq).2) (Nat.le_refl _) (by decide) (λi hi=>by
     match i,hi with
     |0,_=>simp
     |1,_=>simp
     |i+2,hi=>exact absurd hi (by simp))
    have hb1:Below wa.heap.size wa (wa.alloc (.cells #[.int .i64 k,.int .i64 g] 3)):=aD _ _;have Hb1:=aB hb1;have HN:=aB hN;clear hb1 hN
    go_wp2_with fail
    generalize (wa.alloc (.cells #[.int .i64 k,.int .i64 g] 3))=w1c at*;refine (RB b 4 _ _ _ w1c).mono ?_;rintro e w2c ⟨xb,rb,fb,rfl,hX,hb2⟩;have HX:=aB hX;have Hb2:=aB hb2;have DC:=aB (aC Hb1.out hb2);clear hX hb2;have Hru:=aB (BZ HU.out D _ c _ w2c (HDv.out.below DC.out) HDg.out.g12 HDg.out.1 (HCj.out.below DC.out) F9.out.1 (WR F9.out) (BC F9.out))
    go_wp2_with fail
    refine Hru.out.mono ?_;rintro e w3c ⟨vc,rfl,hcs,hb3,hown⟩;have MG:=aB (BP (gJ U D (c.map (bK (aH (j5 5)))) D.length) rE.out HGj.out Hb1.out HN.out (by simp) HX.out Hb2.out hb3 hcs hown Hkg.out);clear hcs hb3 hown Hru
    go_wp2_with fail
    refine MG.out.mono ?_;rintro e w4c ⟨rfl,z2c,z4c,hP,hM⟩;clear Hb1 HN HX Hb2 DC MG;obtain ⟨pc,hpc⟩:∃q,q=jF pj 4 [k,g] (gJ U D (c.map (bK (aH (j5 5)))) D.length):=⟨_,rfl⟩;rw [←hpc] at HsA HIc HGc;have HPc:Hid (PS lo w4c b pc (.slice s1 p.sig.length s3) z2c (.slice (some ⟨ub,uo,none⟩) p.act.length u3) z4c):=by rw [Hid,hpc];exact hP
    have HMc:=aB (zS.out.trans hM);have HCc:=aB ((rE.out.kpt hM).cin HCj.out);have HDc:=aB ((rE.out.kpt hM).cin HDv.out);clear hP hM hpc rE zS HCj HDv Hkg HGj;by_cases hkg:k=g
    · have aTG:(k !=g)=false:=by simp [hkg]
      have aPA:Hid ((p.act.take (j+1)).foldl (qH U c g) p2=pc):=by rw [Hid,uD.out,HsA.out,if_neg (by simp [hkg])]
      have He:Hid (kY pc/\pc.act=p.act/\aN pc.sig c=0):=⟨HIc.out.1,HIc.out.2.2.trans HAj.out,by rw [HIc.out.2.1.a.sg];exact Hwj.out⟩;clear hkg jP HIc HsA uD
      go_wp2_with fail
      go_roundw
      case rel=>exact ⟨j+1,pc,z2c,z4c,by omega,by go_num,aPA.out.symm,He.out.1,He.out.2.1,He.out.2.2,HPc.out,HMc.out⟩
      case measure=>simp [intOf];omega
    · have aTG:(k !=g)=true:=by simpa using hkg
      have aPA:Hid ((p.act.take (j+1)).foldl (qH U c g) p2=jF pc 4 [g,k] (gJ U c (D.map (bK (aH (j5 5)))) c.length)):=by rw [Hid,uD.out,HsA.out,if_pos hkg]
      have He:Hid (kY (jF pc 4 [g,k] (gJ U c (D.map (bK (aH (j5 5)))) c.length))/\(jF pc 4 [g,k] (gJ U c (D.map (bK (aH (j5 5)))) c.length)).act=p.act/\aN (jF pc 4 [g,k] (gJ U c (D.map (bK (aH (j5 5)))) c.length)).sig c=0):=by have h:=jP.out;rw [HsA.out,if_pos hkg] at h;exact ⟨h.1,h.2.2.trans HAj.out,by rw [h.2.1.a.sg];exact Hwj.out⟩
      clear hkg jP HIc HsA uD
      go_upto_region 9 with fail
      have hN:iA (iU b z2c (.slice (some ⟨ub,uo,none⟩) p.act.length u3) z4c) (w4c.alloc (.cells #[.int .i64 g,.int .i64 k] 3)) [g,k] (.slice (some ⟨w4c.heap.size,0,none⟩) 2 2):=pY (l:=[g,k]) (λq hq=>(HPc.out.at q hq).2) (Nat.le_refl _) (by decide) (λi hi=>by
       match i,hi with
       |0,_=>simp
       |1,_=>simp
       |i+2,hi=>exact absurd hi (by simp))
      have hb1:Below w4c.heap.size w4c (w4c.alloc (.cells #[.int .i64 g,.int .i64 k] 3)):=aD _ _;have Hb1:=aB hb1;have HN:=aB hN;clear hb1 hN
      go_wp2_with fail
      generalize (w4c.alloc (.cells #[.int .i64 g,.int .i64 k] 3))=w1d at*;refine (RB b 4 _ _ _ w1d).mono ?_;rintro e w2d ⟨xb,rb,fb,rfl,hX,hb2⟩;have HX:=aB hX;have Hb2:=aB hb2;have DC:=aB (aC Hb1.out hb2);clear hX hb2;have Hru:=aB (BZ HU.out c _ D _ w2d (HCc.out.below DC.out) F9.out.g12 F9.out.1 (HDc.out.below DC.out) HDg.out.1 (WR HDg.out) (BC HDg.out))
      go_wp2_with fail
      refine Hru.out.mono ?_;rintro e w3d ⟨vd,rfl,hcs,hb3,hown⟩;have MG:=aB (BP (gJ U c (D.map (bK (aH (j5 5)))) c.length) HPc.out HGc.out Hb1.out HN.out (by simp) HX.out Hb2.out hb3 hcs hown aUW.out);clear hcs hb3 hown Hru
      go_wp2_with fail
      refine MG.out.mono ?_;rintro e w4d ⟨rfl,z2d,z4d,hP,hM⟩;clear Hb1 HN HX Hb2 DC MG;have HPd:=aB hP;have HMd:=aB (HMc.out.trans hM);clear hP hM
      go_wp2_with fail
      go_roundw
      case rel=>exact ⟨j+1,_,z2d,z4d,by omega,by go_num,aPA.out.symm,He.out.1,He.out.2.1,He.out.2.2,HPd.out,HMd.out⟩
      case measure=>simp [intOf];omega
  · have e:Q=pj:=by
     have h:=Hpj.out;rw [show j=p.act.length by omega,List.take_length] at h;exact HQ.out.trans h.symm
    subst e
    go_wp2_with fail
    go_end0
    exact ⟨rfl,_,_,rE.out,zS.out⟩
end
section
theorem aBL {n j c b o:Nat} (hj:j<=n) (hc:n<=c) (w:World):(Instr.slice 22 (.slice (some ⟨b,o,none⟩) n c) none (some (.int .i64 (j:Int))) none).run Tryz.prog w= .ok (.slice (some ⟨b,o,none⟩) j c) w:=by
 rw [run_slice_h (ht:=by kernel_rfl) (h0:=by omega) (h2:=by omega)];have e:(sizeOf (Tryz.prog.elem 22)).run Tryz.prog w= .ok 1 w:=by rw [show Tryz.prog.elem 22=3 by kernel_rfl];simp [go_sem]
 simp only [Result.andThen,sliced,e];simp [Addr.add]
theorem YI {n j c b o:Nat} (hj:j<=n) (hc:n<=c):∃ad:Addr,(∀w:World,(Instr.slice 22 (.slice (some ⟨b,o,none⟩) n c) (some (.int .i64 (j:Int))) none none).run Tryz.prog w= .ok (.slice (some ad) (n - j) (c - j)) w)/\(j<n->ad=⟨b,o+j,none⟩):=by
 refine ⟨if c=j then ⟨b,o,none⟩ else ⟨b,o+j,none⟩,λw=>?_,λh=>by rw [if_neg (by omega)]⟩;rw [run_slice_l (ht:=by kernel_rfl) (h0:=by omega) (h1:=by omega)];have e:(sizeOf (Tryz.prog.elem 22)).run Tryz.prog w= .ok 1 w:=by rw [show Tryz.prog.elem 22=3 by kernel_rfl];simp [go_sem]
 simp only [Result.andThen,sliced,e,Int.toNat_natCast];by_cases h:c=j
 · simp [h]
 · simp [h,Addr.add]
section
variable {W:World} {b:Nat} {l1 l2:List Int} {WV V1 V2:Value} {n n1:Int} {D:Nat->Bool} {w w':World} {s44 gB fZ kV kU s49 s50 s51 s52 s53 s54 s55 s56:Value}
end
end
section
attribute [local go_sem ↓] Go.wp_at_zero Go.wp_at_succ
theorem LZ {w:World} {ops:Array Oper} {o:Oper} {a:Act} {K:Act->World->Prop} {Q:Exit->Act->World->Prop} {E:Prop} (hgd:o.guard=none) (s x:Operand) (t:TypeId)
  (ho:o.op= .call {callee:= .builtin .append,args:=#[s,x],argTypes:=#[t,t]}) (v lv v4:Value) (w4:World) (hs:a.eval s=v) (hx:a.eval x=lv) (hr:(Builtin.append_ #[t,t] o.type #[v,lv]).run Tryz.prog w= .ok v4 w4)
  (h:K (a.put o.dst v4) w4):if Region.wanted o (yielded ops a.tmps)=true then Oper.wp Tryz.prog o a w K Q else E:=by
 have hw:Region.wanted o (yielded ops a.tmps)=true:=by simp [Region.wanted,hgd]
 rw [if_pos hw];exact o8 s x t ho v lv v4 w4 hs hx hr h
theorem O9 (w:World):(sizeOf (Tryz.prog.elem 22)).run Tryz.prog w= .ok 1 w:=by rw [show Tryz.prog.elem 22=3 by kernel_rfl];simp [go_sem]
theorem aJR {b c q:Nat} {n:Int} (hq:q<c) (hn:n=(q:Int)+1) (len:Nat) (w:World):(Instr.slice 22 (.slice (some ⟨b,0,none⟩) len c) (some (.int .i64 (q:Int))) (some (.int .i64 n)) none).run Tryz.prog w= .ok (.slice (some ⟨b,q,none⟩) 1 (c - q)) w:=by
 subst hn;rw [run_slice_lh (ht:=by kernel_rfl) (h0:=by omega) (h1:=by omega) (h2:=by omega)];simp only [Result.andThen,sliced,O9];rw [show ((q:Int)+1).toNat=q+1 by omega,Int.toNat_natCast,if_neg (by omega),show q+1 - q=1 by omega];by_cases h0:q=0
 · subst h0;simp [Addr.add]
 · simp [Addr.add,h0]
theorem aFI {b c m n:Nat} {k:Int} (hm:m<n) (hn:n<=c) (hk:k=(m:Int)+1) (w:World):∃v,(Instr.slice 22 (.slice (some ⟨b,0,none⟩) n c) (some (.int .i64 (m:Int))) (some (.int .i64 k)) (some (.int .i64 (n:Int)))).run Tryz.prog w= .ok v w:=by subst hk;refine ⟨sliced (some ⟨b,0,none⟩) (m:Int).toNat ((m:Int)+1).toNat (n:Int).toNat 1,?_⟩;rw [run_slice_lhm (ht:=by kernel_rfl) (h0:=by omega) (h1:=by omega) (h2:=by omega) (h3:=by omega)];simp only [Result.andThen,O9]
theorem aIQ {l:List Int} {m:Nat} {cur:List Value} {bW:Nat} (hm:m<l.length) (hc:l.length<=bW) (hs:cur.length=bW) (ht:cur.take l.length=bO l):
  (cur.take m++bO (l.drop (m+1))++cur.drop (m+(l.length - (m+1)))).take (m+(l.length - (m+1)))=bO (qY l m)/\(cur.take m++bO (l.drop (m+1))++cur.drop (m+(l.length - (m+1)))).length=bW:=by
 have h1:cur.take m=bO (l.take m):=by
  have:cur.take m=(cur.take l.length).take m:=by rw [List.take_take,Nat.min_eq_left (by omega)]
  rw [this,ht];simp [bO]
 have h2:(bO (l.take m)++bO (l.drop (m+1))).length=m+(l.length - (m+1)):=by simp [bO];omega
 constructor
 · rw [h1,List.take_append_of_le_length (by rw [h2];exact Nat.le_refl _),List.take_of_length_le (by rw [h2];exact Nat.le_refl _)];simp [bO,qY]
 · rw [h1,List.length_append,h2,List.length_drop,hs];omega
theorem aBX {lo:Nat} (l:List Int) (v:Value) (m:Nat) (w:World) (hR:Rw lo w 3 1 v l.length (bO l)) (hm:m<l.length):
  Calls Tryz.prog 29 #[v,.int .i64 (m:Int),.int .i64 ((m:Int)+1)] w λe w'=>∃v',e= .returned v'/\Rw lo w' 3 1 v' (qY l m).length (bO (qY l m))/\w.grownBy w' v.ownBlock/\v'.ownBlock=v.ownBlock:=by
 obtain ⟨hO,hB⟩:=hR;rcases hO.2 with ⟨_,h0⟩|⟨g,bW,cur,rfl,hlo,hh,hn,hcm,hcs,ht⟩
 · omega
 obtain ⟨cur',e',hh',hnb⟩:=hB g rfl;rw [hh] at hh';simp only [Option.some.injEq,Obj.cells.injEq] at hh';obtain ⟨rfl,rfl,_⟩:=hh';rw [Nat.mul_one] at ht hcs;have aOK:=(aJ hO g rfl).2;obtain ⟨q,hq⟩:∃q,q=m+(l.length - (m+1)):=⟨_,rfl⟩;have hqn:q+1=l.length:=by omega
 obtain ⟨i3,hi3,hz0,hz1,hz2⟩:=info_parts Tryz.info3;obtain ⟨ad,hs2,had⟩:=YI (n:=l.length) (j:=m+1) (c:=bW) (b:=g) (o:=0) (by omega) hn;obtain ⟨hv1,hv2⟩:=aIQ hm hn (by simpa using hcs) ht;rw [←hq] at hv1 hv2;obtain ⟨L1,hL1⟩:∃L,L=cur.toList.take m++bO (l.drop (m+1))++cur.toList.drop q:=⟨_,rfl⟩;rw [←hL1] at hv1 hv2;have hrun:=run_append_room (P:=Tryz.prog) w.drew 22 22 3 i3 Tryz.underlying22 hi3 g m bW cur hh ad (l.length - (m+1)) (bW - (m+1)) (bO (l.drop (m+1))) (by rw [hz1];simp [bO]) (λj u hj=>by
  have hj2:j<(l.drop (m+1)).length:=by have:=(List.getElem?_eq_some_iff.1 hj).1;simpa using this
  rw [List.length_drop] at hj2;have hae:=had (by omega);rw [hae,add_plain];have e1:cur.toList[m+1+j]?=some u:=by
   have e2:(cur.toList.take l.length)[m+1+j]?=some u:=by rw [ht];simp only [bO,List.getElem?_map,List.getElem?_drop] at hj ⊢;exact hj
   rwa [List.getElem?_take_of_lt (by omega)] at e2
  have e3:w.drew.cell? ⟨g,0+(m+1)+j,none⟩=cur.toList[m+1+j]?:=by have hh2:w.drew.heap[g]?=some (.cells cur 3 (0,0)):=hh;simp [World.cell?,hh2]
  rw [e3,e1]) (ints_oneCell _ _) (by omega) (by rw [hz1];simp [bO];omega)
 rw [hz1] at hrun;simp only [Nat.mul_one,List.length_map,List.length_drop] at hrun;rw [←hq] at hrun;rw [←hL1] at hrun;have hh1:(w.drew.setRow g L1.toArray).heap[g]?=some (.cells L1.toArray 3 (0,0)):=setRow_heap w.drew g cur _ 3 (0,0) hh;have aTR:=λty:TypeId=>Lib.run_clear_slice (P:=Tryz.prog) (w.drew.setRow g L1.toArray) 22 3 ty (.int .i64 0) Tryz.underlying22 (λw=>by simp [go_sem]) rfl rfl g q 1 (bW - q) (by decide) (λj hj=>by
  have:j=0:=by omega
  subst this;have h2:q<L1.length:=by omega
  simp [World.cell?,hh1,h2]) (λj hj=>by simp [World.frozen?,hh1])
 obtain ⟨W2,hW2⟩:∃W,W=(w.drew.setRow g L1.toArray).setCells g q (List.replicate 1 (.int .i64 0)):=⟨_,rfl⟩;rw [←hW2] at aTR;have aOR:W2=(w.drew.setRow g L1.toArray).setCell ⟨g,q,none⟩ (.int .i64 0):=hW2;have bP:Hid (Rw lo W2 3 1 (.slice (some ⟨g,0,none⟩) q bW) (qY l m).length (bO (qY l m))/\w.grownBy W2 (some g)):=by
  have hq2:(qY l m).length=q:=by have:=aCW hm;omega
  have hh2:W2.heap[g]?=some (.cells (L1.toArray.setIfInBounds q (.int .i64 0)) 3 (0,0)):=by rw [aOR,heap_setCell_same _ _ _ _ _ _ hh1]
  refine ⟨⟨?_,λg' hg'=>?_⟩,?_⟩
  · rw [hq2];refine ⟨by simp [hq2],.inr ⟨g,bW,_,rfl,hlo,hh2,by omega,hcm,by simp [hv2],?_⟩⟩;rw [Nat.mul_one,←hv1];simp only [Array.toList_setIfInBounds];rw [List.take_set_of_le (Nat.le_refl _)]
  · have e:g=g':=by simpa [Value.ownBlock] using hg'
    subst e;refine ⟨_,_,hh2,λu hu=>?_⟩;simp only [Array.toList_setIfInBounds] at hu;rcases List.mem_or_eq_of_mem_set hu with hu|rfl
    · have hu:u∈L1:=hu;rw [hL1,List.mem_append,List.mem_append] at hu;rcases hu with (hu|hu)|hu
      · exact hnb u (List.mem_of_mem_take hu)
      · exact aC5 u hu
      · exact hnb u (List.mem_of_mem_drop hu)
    · exact oM _ _
  · rw [aOR];refine ⟨rfl,rfl,rfl,by simp [World.setCell,World.setRow],λk hk hne=>?_⟩;have hkg:k≠g:=λe=>hne (by rw [e]);rw [Below.heap_setCell _ _ _ _ hkg,setRow_other _ _ _ _ hkg];rfl
 have hne:((m:Int)==(m:Int)+1)=false:=by simp;omega
 have hm1:(m:Int)+1=((m+1:Nat):Int):=by omega
 have hs3:∀w:World,(Instr.slice 22 (.slice (some ⟨g,0,none⟩) l.length bW) (some (.int .i64 ((m:Int)+1))) none none).run Tryz.prog w= .ok (.slice (some ad) (l.length - (m+1)) (bW - (m+1))) w:=λw=>by rw [hm1];exact hs2 w
 have hs1:=λw':World=>aBL (n:=l.length) (j:=m) (c:=bW) (b:=g) (o:=0) (by omega) hn w';obtain ⟨vf,hsf⟩:=aFI (b:=g) (k:=(m:Int)+1) hm hn rfl w;have hs4:=λw':World=>aJR (b:=g) (c:=bW) (q:=q) (n:=(l.length:Int)) (by omega) (by omega) q w';have QT:=aB hrun;clear hO hB hh hcs ht hnb hlo hz0 hz1 hz2 hs2 had hv1 hv2 hL1 hrun hh1 hW2 aOR hm1 hi3 hcm hq hqn hm hn aOK;go_enter Tryz.func29,Tryz.ntmps29
 go_upto_region 5 with fail
 go_region_held3 (λ_=>True) (trivial)
  (refine LZ rfl (.tmp 22) (.tmp 25) 22 rfl _ _ _ _ rfl rfl QT.out ?_)
 all_goals
  go_wp2_with fail
  go_ret;exact ⟨_,rfl,bP.out.1,bP.out.2,rfl⟩
end
end Go.Proofs.YtoklbpbmghbhnaeGreat
