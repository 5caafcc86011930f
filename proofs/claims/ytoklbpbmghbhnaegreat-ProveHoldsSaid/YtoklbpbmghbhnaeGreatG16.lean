import Derived.Test.YtoklbpbmghbhnaeGreatG15
namespace Go.Proofs.YtoklbpbmghbhnaeGreat
set_option maxRecDepth 100000
set_option maxHeartbeats 400000
open Go.RowKit Go.Deep Go.ChangeShapes Go.WideShapes
theorem aJZ {a b:Tm} (ha:gN a) (hb:gN b) (h:dU a b=true):oK a b=3:=by unfold oK;rw [if_neg (λe=>RF ha h ((kS ha hb).1 e)),if_pos h]
theorem VR {f:Tm->Tm}:∀{F:Fo} {i:Nat} {y:Tm},CU F->F.list[i]?=some y->CS (f y)->CU (fF F i f)
 | .nil,_,_,_,h,_=>by simp [Fo.list] at h
 | .node _ _ x k r,0,y,ho,h,hf=>by simp only [Fo.list,List.getElem?_cons_zero,Option.some.injEq] at h;subst h;rw [nZ] at ho;rw [fF];exact nZ.2 ⟨hf,ho.2⟩
 | .node _ _ x k r,i+1,y,ho,h,hf=>by rw [nZ] at ho;rw [fF];exact nZ.2 ⟨ho.1,VR ho.2 (by simpa [Fo.list] using h) hf⟩
theorem VS {f:Tm->Tm} {m:Int}:∀{F:Fo} {i:Nat} {y:Tm},F.list[i]?=some y->eH m (fF F i f)->eH m F\/bU m (f y)
 | .nil,_,_,h,_=>by simp [Fo.list] at h
 | .node _ _ x k r,0,y,h,ho=>by
  simp only [Fo.list,List.getElem?_cons_zero,Option.some.injEq] at h;subst h;rw [fF,eH] at ho;rcases ho with ho|ho
  · exact .inr ho
  · exact .inl (by rw [eH];exact .inr ho)
 | .node _ _ x k r,i+1,y,h,ho=>by
  rw [fF,eH] at ho;rcases ho with ho|ho
  · exact .inl (by rw [eH];exact .inl ho)
  · rcases VS (by simpa [Fo.list] using h) ho with h1|h1
    · exact .inl (by rw [eH];exact .inr h1)
    · exact .inr h1
theorem IX {u:Tm} (hu:Gd u):∀{p:List Int} {x:Bool×Int} {k:Fo} {z:Tm},Gd (x,k)->l6 p x k=some z->Gd (dM p (x,k) u)/\eO (dM p (x,k) u)<=eO (x,k)+eO u
 |[],_,_,_,_,_=>⟨hu,Nat.le_add_left _ _⟩
 |n::p,x,k,z,hg,h=>by
  obtain ⟨hx,h0,h1,y,hy,hz⟩:=oG h;obtain ⟨i1,i2⟩:=IX hu (mH hg hx (List.mem_of_getElem? hy)) hz;rw [sF hx h0 h1];refine ⟨⟨⟨λe=>absurd (hx.symm.trans e) (by decide),zY hg.ok.2 hy i1.ok⟩,⟨by rw [mO];exact hg.two.1,VR hg.two.2 hy i1.two⟩,λm hm=>?_⟩,?_⟩
  · unfold bU at hm;simp only [hx,Bool.false_eq_true,if_false] at hm;rcases VS hy hm with h2|h2
    · exact hg.few m (by unfold bU;simp only [hx,Bool.false_eq_true,if_false];exact h2)
    · exact i1.few m h2
  · have h3:Fo.sizesR (fF k n.toNat λs=>dM p s u)+eO y=Fo.sizesR k+eO (dM p y u):=A7 (λs=>dM p s u) hy;have h4:eO (dM p y u)<=eO y+eO u:=i2;show 1+Fo.sizesR (fF k n.toNat λs=>dM p s u)<=1+Fo.sizesR k+eO u;omega
section
theorem RO:∀{F:Fo} {i:Nat} {y:Tm},F.list[i]?=some y->eO y<=Fo.sizesR F
 | .nil,_,_,h=>by simp [Fo.list] at h
 | .node _ _ x k r,0,y,h=>by simp only [Fo.list,List.getElem?_cons_zero,Option.some.injEq] at h;subst h;simp only [eO,aM,Fo.sizesR];omega
 | .node _ _ x k r,i+1,y,h=>by have:=RO (F:=r) (i:=i) (by simpa [Fo.list] using h);simp only [Fo.sizesR];omega
theorem G9:∀{p:List Int} {x:Bool×Int} {k:Fo} {z:Tm},Gd (x,k)->l6 p x k=some z->Gd z/\eO z<=eO (x,k)
 |[],x,k,z,hg,h=>by cases h;exact ⟨hg,Nat.le_refl _⟩
 |n::p,x,k,z,hg,h=>by
  rw [l6] at h;by_cases hn:x.1=true\/n<0\/(Fo.len k:Int)<=n
  · rw [if_pos hn] at h;cases h
  · rw [if_neg hn] at h;cases hy:k.list[n.toNat]? with
    |none=>rw [hy] at h;cases h
    |some y=>
     rw [hy] at h;have hx:x.1=false:=by cases e:x.1<;>simp_all
     have hgy:=mH hg hx (List.mem_of_getElem? hy);obtain ⟨h1,h2⟩:=G9 (x:=y.1) (k:=y.2) hgy h;have h3:=RO hy;refine ⟨h1,?_⟩;simp only [eO,aM] at h2 h3 ⊢;omega
theorem MI.at {t z:Tm} {p:List Int} (h:MI t) (ha:l6 p t.1 t.2=some z):MI z:=
 ⟨(G9 h.gd ha).1,Nat.le_trans (G9 h.gd ha).2 h.sz⟩
def oQ (U:Tm->Tm->Option Sb) (c:Cl) (i:Nat) (a:Lt) (d:Cl) (j:Nat) (b:Lt) (side:Bool) (st:List Cl×Bool) (p:List Int):List Cl×Bool:=match l6 p b.2.1.1 b.2.1.2 with
 |some z=>match U a.2.1 z with
  |some s=>if dU (aH (aV s) a.2.2) (aH (aV s) a.2.1)=true\/dU (aH (aV s) b.2.2) (aH (aV s) b.2.1)=true then st else MO st (some s) (jM c i++d.set j (aL side (b.1,dM p b.2.1 a.2.2,b.2.2)))
  |none=>st
 |none=>st
def lH (f:List Cl×Bool->List Int->List Cl×Bool) (s:List Cl×Bool) (Z:List (List Int)) (t:Nat):List Cl×Bool:=(Z.take t).foldl f s
theorem LJ {f:List Cl×Bool->List Int->List Cl×Bool} {s:List Cl×Bool} {Z:List (List Int)} {t:Nat} {p:List Int} (h:Z[t]?=some p):lH f s Z (t+1)=f (lH f s Z t) p:=by unfold lH;rw [List.take_add_one,h];simp [List.foldl_append]
theorem xD {f:List Cl×Bool->List Int->List Cl×Bool} (h:∀s p,(f s p).1.length<=s.1.length+1):∀(Z:List (List Int)) (s:List Cl×Bool),(Z.foldl f s).1.length<=s.1.length+Z.length
 |[],s=>Nat.le_refl _
 |p::Z,s=>by have h1:=xD h Z (f s p);have h2:=h s p;simp only [List.foldl_cons,List.length_cons];omega
def uM (U:Tm->Tm->Option Sb) (c:Cl) (i:Nat) (a:Lt) (d:Cl) (j:Nat) (y:Lt) (st:List Cl×Bool) (side:Nat):List Cl×Bool:=
 (dJ (aL (decide (side=1)) y).2.1.1 (aL (decide (side=1)) y).2.1.2 []).foldl (oQ U c i a d j (aL (decide (side=1)) y) (decide (side=1))) st
def uV (U:Tm->Tm->Option Sb) (c:Cl) (i:Nat) (a:Lt) (d:Cl) (st:List Cl×Bool) (j:Nat):List Cl×Bool:=match d[j]? with
 |some y=>bF (uM U c i a d j y) st 2
 |none=>st
def uU (U:Tm->Tm->Option Sb) (c:Cl) (i:Nat) (x:Lt) (d:Cl) (st:List Cl×Bool) (k:Nat):List Cl×Bool:=
 if (aL (decide (k=1)) x).1=true\/(aL (decide (k=1)) x).2.1.1.1=true then st else bF (uV U c i (aL (decide (k=1)) x) d) st d.length
def ZU (U:Tm->Tm->Option Sb) (c:Cl) (d:Cl) (st:List Cl×Bool) (i:Nat):List Cl×Bool:=match c[i]? with
 |some x=>bF (uU U c i x d) st 2
 |none=>st
def gJ (U:Tm->Tm->Option Sb) (c d:Cl) (i:Nat):List Cl×Bool:=bF (ZU U c d) ([],false) i
theorem JI (U:Tm->Tm->Option Sb) (c:Cl) (i:Nat) (a:Lt) (d:Cl) (j:Nat) (b:Lt) (side:Bool) (st:List Cl×Bool) (p:List Int):(oQ U c i a d j b side st p).1.length<=st.1.length+1:=by
 unfold oQ;split
 · split
   · split
     · omega
     · exact KM _ _ _
   · omega
 · omega
structure LK (lo p:Nat) (W:World) (V:Value) (st:List Cl×Bool) (v:Value) (xs:List Value) (w:World):Prop where
 L:uC lo w p st.1 st.2 v xs
 fr:Fr W w (some p) V.ownBlock
 ow:v.ownBlock=V.ownBlock\/∃g,v.ownBlock=some g/\W.heap.size<=g
section
variable {lo p:Nat} {W:World} {V:Value} {st:List Cl×Bool} {v:Value} {xs:List Value} {w w':World}
theorem LK.start (h:uC lo W p st.1 st.2 V xs):LK lo p W V st V xs W:=⟨h,Fr.refl _ _ _,.inl rfl⟩
theorem LK.below (h:LK lo p W V st v xs w) (hb:Below w.heap.size w w'):LK lo p W V st v xs w':=by have hs:=h.fr.size;exact ⟨h.L.below hb,⟨hb.os.trans h.fr.os,hb.tape.trans h.fr.tape,hb.output.trans h.fr.output,Nat.le_trans hs hb.size,λq hq h1 h2=>(hb.block q (by omega)).trans (h.fr.block q hq h1 h2)⟩,h.ow⟩
theorem LK.trans (h:LK lo p W V st v xs w) {st':List Cl×Bool} {v':Value} {xs':List Value} (k:LK lo p w v st' v' xs' w'):LK lo p W V st' v' xs' w':=by
 have hs:=h.fr.size;refine ⟨k.L,⟨k.fr.os.trans h.fr.os,k.fr.tape.trans h.fr.tape,k.fr.output.trans h.fr.output,Nat.le_trans hs k.fr.size,λq hq h1 h2=>?_⟩,?_⟩
 · rw [k.fr.block q (by omega) h1 (λe=>?_)]
   · exact h.fr.block q hq h1 h2
   · rcases h.ow with e'|⟨g,e',hg⟩
     · exact h2 (e.trans e')
     · rw [e'] at e;simp only [Option.some.injEq] at e;omega
 · rcases k.ow with e|⟨g,e,hg⟩
   · rcases h.ow with e'|e'
     · exact .inl (e.trans e')
     · obtain ⟨g,e',hg⟩:=e';exact .inr ⟨g,e.trans e',hg⟩
   · exact .inr ⟨g,e,by omega⟩
theorem LK.add (h:LK lo p W V st v xs w) {n:Int×Cl} {e:Ending} (ha:vT lo w p st n v e w'):∃v' xs',LK lo p W V (yI st n) v' xs' w':=by obtain ⟨_,v',xs',hL,hf,ho⟩:=ha;exact ⟨v',xs',h.trans ⟨hL,hf,ho⟩⟩
theorem LK.kpt (h:LK lo p W V st v xs w) {cs:List Cl} {lost:Bool} {ys:List Value} (hW:uC lo W p cs lost V ys):wL W w:=aHX h.fr hW.not (λg hg=>(hW.sl g hg).not)
theorem LK.under (h:LK lo p W V st v xs w) {cs:List Cl} {lost:Bool} {ys:List Value} (hW:uC lo W p cs lost V ys) {w0:World} (hB:Below lo w0 W):Below lo w0 w:=(PX hW hB h.fr).1
theorem LK.block (h:LK lo p W V st v xs w) {cs:List Cl} {lost:Bool} {ys:List Value} {W1:World} (hW:uC lo W1 p cs lost V ys) {q:Nat} (h1:W1.heap.size<=q) (h2:q<W.heap.size):w.heap[q]?=W.heap[q]?:=by
 refine h.fr.block q h2 (λe=>?_) (λe=>?_)
 · simp only [Option.some.injEq] at e;have:=hW.po.2;omega
 · have:=(aJ hW.row q e.symm).2;omega
end
theorem eQ {w w':World} (h:wL w w') {g:Nat} {x:Bool} {u:Value} (h0:w.cell? ⟨g,0,none⟩=some (.bool x)) (h1:w.cell? ⟨g,1,none⟩=some u) (t:Nat) {y:Value} (hy:w.cell? ⟨g,t,none⟩=some y):w'.cell? ⟨g,t,none⟩=some y:=by rw [h g (λhn=>by rw [hn 0 x h0] at h1;cases h1) t];exact hy
end
section
def zV (s:List Int):Fo->Prop
 | .nil=>True
 | .node _ _ x k r=>((x.1=false->bM s x (Fo.len k)=0)/\zV s k)/\zV s r
def dL (s:List Int) (t:Tm):Prop:=(t.1.1=false->bM s t.1 (Fo.len t.2)=0)/\zV s t.2
theorem JH {s:List Int}:∀{F:Fo},yD s F->zV s F
 | .nil,_=>trivial
 | .node _ _ _ _ _,h=>⟨⟨λ_=>h.1.1,JH h.1.2⟩,JH h.2⟩
theorem nR {s:List Int} {t:Tm} (h:jS s t):dL s t:=⟨λ_=>h.1,JH h.2⟩
theorem G5 {s:List Int}:∀{F:Fo},zV s F->∀t∈F.list,dL s t
 | .nil,_,t,h=>by simp [Fo.list] at h
 | .node _ _ x k r,h,t,ht=>by
  simp only [Fo.list,List.mem_cons] at ht;rcases ht with rfl|ht
  · exact h.1
  · exact G5 h.2 t ht
theorem Q4 {s:List Int} (n:Int):dL s (vr n):=⟨λh=>(by cases h),trivial⟩
theorem JG {s:List Int} {f:Int->Tm} (hf:∀n,dL s (f n)):∀{F:Fo},zV s F->zV s (dD f F)
 | .nil,_=>trivial
 | .node p q (b,n) k r,h=>by
  rw [dE];refine ⟨?_,JG hf h.2⟩;cases b with
  |true=>rw [fJ];exact hf n
  |false=>rw [cK];refine ⟨λe=>?_,JG hf h.1.2⟩;rw [lI];exact h.1.1 e
theorem qM {s:List Int} {f:Int->Tm} (hf:∀n,dL s (f n)) {t:Tm} (h:dL s t):dL s (aH f t):=by
 obtain ⟨⟨b,n⟩,k⟩:=t;cases b with
 |true=>rw [fJ];exact hf n
 |false=>rw [cK];refine ⟨λe=>?_,JG hf h.2⟩;rw [lI];exact h.1 e
theorem qN {s:List Int} {b:Sb} (h:∀p∈b,dL s p.2) (n:Int):dL s (aV b n):=by
 cases el:dA b n with
 |none=>rw [eF el];exact Q4 n
 |some u=>rw [dO el];exact h _ (eD el)
theorem aCP {s:List Int} {b:Sb} {t:Tm} (h:∀p∈b,dL s p.2) (ht:dL s t):dL s (gZ b t):=by
 unfold gZ;split
 · cases el:dA b t.1.2 with
   |none=>exact ht
   |some u=>exact h _ (eD el)
 · exact ht
theorem aLG {s:List Int}:∀(n:Nat) (b b':Sb) (L:List (Tm×Tm)),(∀p∈b,dL s p.2)->(∀p∈L,dL s p.1/\dL s p.2)->iV n b L=some (some b')->∀p∈b',dL s p.2:=by
 intro n;induction n with
 |zero=>intro b b' L _ _ hr;simp [iV] at hr
 |succ n ih=>
  intro b b' L hb hL hr;cases L with
  |nil=>simp only [iV,Option.some.injEq] at hr;subst hr;exact hb
  |cons p L=>
   cases hst:kD b p.1 p.2 L with
   |none=>simp [iV,hst] at hr
   |some q=>
    obtain ⟨b1,L1⟩:=q;simp only [iV,hst] at hr;have hp:=hL p (by simp);have h1:=aCP hb hp.1;have h2:=aCP hb hp.2;have hL':∀q∈L,dL s q.1/\dL s q.2:=λq hq=>hL q (by simp [hq]);rcases qQ hst with ⟨_,_,_,rfl,rfl⟩|⟨x,y,hxy,hv,ha,rfl⟩|⟨e1,e2,_,hl,rfl,rfl⟩
    · exact ih _ _ _ hb hL' hr
    · refine ih _ _ _ ?_ hL' hr;have hy:dL s y:=by rcases hxy with ⟨_,rfl⟩|⟨_,rfl⟩<;>assumption
      have hys:=qM (qN hb) hy;unfold pK at ha;split at ha
      · cases ha
      · cases ha;intro q hq;rcases List.mem_append.1 hq with hq|hq
        · obtain ⟨r,hr',rfl⟩:=List.mem_map.1 hq;exact qM (qN (λt ht=>by rw [List.mem_singleton.1 ht];exact hys)) (hb r hr')
        · rw [List.mem_singleton.1 hq];exact hys
    · refine ih _ _ _ hb (λq hq=>?_) hr;rcases List.mem_append.1 hq with hq|hq
      · have:=List.of_mem_zip hq;exact ⟨G5 h1.2 _ this.1,G5 h2.2 _ this.2⟩
      · exact hL' q hq
theorem aLH {s:List Int} {n:Nat} {a b:Tm} {r:Sb} (ha:dL s a) (hb:dL s b) (h:iV n [] [(a,b)]=some (some r)):∀p∈r,dL s p.2:=
 aLG n [] r [(a,b)] (λp hp=>by simp at hp) (λp hp=>by rw [List.mem_singleton.1 hp];exact ⟨ha,hb⟩) h
theorem JA {s:List Int} {z:Int} {tb:List (List Int)} {e:Int->Int} (hm:MR s z tb) (hs:s.all bN=true) (he:∀v,0<=e v/\e v<z):
 ∀{F:Fo},zV s F->∀(a:Int) (i:Nat),0<=a->a<pw z i->0<=lL z tb e F a/\lL z tb e F a<pw z (Fo.len F+i)
 | .nil,_,a,i,h0,h1=>by simpa [lL,Fo.len] using ⟨h0,h1⟩
 | .node p q (b,n) k r,h,a,i,h0,h1=>by
  obtain ⟨⟨ha,hk⟩,hr⟩:=h;have hv:0<=dF z tb e ((b,n),k)/\dF z tb e ((b,n),k)<z:=by
   cases b with
   |true=>simpa [dF] using he n
   |false=>
    obtain ⟨n0,n1,n2⟩:=sJ (ha rfl);have ih:=JA hm hs he hk 0 0 (by omega) (by simp [pw]);have hn:n.toNat<s.length:=by omega
    have ok:=List.all_eq_true.1 hs (s.getD n.toNat 0) (by rw [List.getD_eq_getElem?_getD,List.getElem?_eq_getElem hn];simp);have ok':0<=s.getD n.toNat 0/\s.getD n.toNat 0<=2:=by simpa [bN] using ok
    have hl:=hm.row n.toNat hn;rw [R8 n2 (by omega)] at hl;rw [Nat.add_zero] at ih;have hlt:(lL z tb e k 0).toNat<(tb.getD n.toNat []).length:=by omega
    have:(tb.getD n.toNat []).getD (lL z tb e k 0).toNat 0∈tb.getD n.toNat []:=by rw [List.getD_eq_getElem?_getD (l:=tb.getD n.toNat []),List.getElem?_eq_getElem hlt];simp
    have:=hm.all n.toNat hn _ this;simpa [dF] using this
  rw [jB];have hd:=tX hm.z1 h0 h1 hv.1 hv.2;have:=JA hm hs he hr (z*a+dF z tb e ((b,n),k)) (i+1) hd.1 (by rw [pw];exact hd.2);rw [show Fo.len (.node p q (b,n) k r)+i=Fo.len r+(i+1) by simp [Fo.len];omega];exact this
theorem aCD {s:List Int} {z:Int} {tb:List (List Int)} {e:Int->Int} (hm:MR s z tb) (hs:s.all bN=true) (he:∀v,0<=e v/\e v<z) {t:Tm} (h:dL s t):0<=dF z tb e t/\dF z tb e t<z:=by have h2:zV s (.node 0 0 t.1 t.2 .nil):=⟨h,trivial⟩;have:=JA hm hs he h2 0 0 (by omega) (by simp [pw]);rw [jB] at this;simpa [lL,Fo.len,pw] using this
theorem aAH {c:Cl} {i:Nat} {x q:Lt} (hx:c[i]?=some x) (hq:q∈c):q=x\/q∈jM c i:=by
 obtain ⟨j,hj⟩:=List.mem_iff_getElem?.1 hq;by_cases h1:j=i
 · subst h1;rw [hx] at hj;cases hj;exact .inl rfl
 · right;unfold jM;rw [List.mem_append];by_cases h2:j<i
   · left;exact List.mem_of_getElem? (i:=j) (by rw [List.getElem?_take_of_lt h2];exact hj)
   · right;exact List.mem_of_getElem? (i:=j - (i+1)) (by rw [List.getElem?_drop,show i+1+(j - (i+1))=j by omega];exact hj)
theorem aM8 {c:Cl} {i j:Nat} {y:Lt} (hy:c[j]?=some y) (h:j≠i):y∈jM c i:=by
 unfold jM;rw [List.mem_append];by_cases h2:j<i
 · left;exact List.mem_of_getElem? (i:=j) (by rw [List.getElem?_take_of_lt h2];exact hy)
 · right;exact List.mem_of_getElem? (i:=j - (i+1)) (by rw [List.getElem?_drop,show i+1+(j - (i+1))=j by omega];exact hy)
theorem sG {z:Int} {tb:List (List Int)} {e:Int->Int} (yes:Bool) (l:Lt):kQ z tb e (aL yes l)=kQ z tb e l:=by
 cases yes
 · rfl
 · simp only [kQ,aL,if_true];rw [Bool.beq_comm]
theorem AQ (yes:Bool) (l:Lt):(aL yes l).1=l.1:=by cases yes<;>rfl
section
variable {s:List Int} {z:Int} {tb:List (List Int)} {c:Cl} {b:Sb}
theorem SE (hm:MR s z tb) (hs:s.all bN=true) (hb:∀p∈b,dL s p.2) {d:Cl} (h:∀e:Int->Int,(∀v,0<=e v/\e v<z)->(∀t u:Tm,aH (aV b) t=aH (aV b) u->dF z tb e t=dF z tb e u)->dB z tb e d=true):aY z tb (d.map (bK (aH (aV b)))):=λe he=>by rw [KW];refine h _ (λv=>aCD hm hs he (qN hb v)) (λt u htu=>?_);rw [←rR,←rR,htu]
theorem aE1 (hm:MR s z tb) (hs:s.all bN=true) (hb:∀p∈b,dL s p.2) (h:aY z tb c) {i:Nat} {x:Lt} (hx:c[i]?=some x) (hn:x.1=true) (hu:aH (aV b) x.2.1=aH (aV b) x.2.2):aY z tb ((jM c i).map (bK (aH (aV b)))):=
 SE hm hs hb λe he hv=>by
  have h1:=h e he;unfold dB at h1 ⊢;rw [List.any_eq_true] at h1 ⊢;obtain ⟨q,hq,hl⟩:=h1;rcases aAH hx hq with rfl|hq
  · simp [kQ,hn,hv _ _ hu] at hl
  · exact ⟨q,hq,hl⟩
theorem aFV (hm:MR s z tb) (hs:s.all bN=true) (hb:∀p∈b,dL s p.2) (h:aY z tb c) {i j:Nat} {x y:Lt} (hx:c[i]?=some x) (hy:c[j]?=some y) (hij:j≠i) (hxn:x.1=false) (hyn:y.1=false) {k1 k2:Bool}
 (hu:aH (aV b) (aL k1 x).2.1=aH (aV b) (aL k2 y).2.1):aY z tb ((jM c i++[(true,(aL k1 x).2.2,(aL k2 y).2.2)]).map (bK (aH (aV b)))):=
 SE hm hs hb λe he hv=>by
  have h1:=h e he;have h2:=hv _ _ hu;unfold dB at h1 ⊢;rw [List.any_eq_true] at h1;obtain ⟨q,hq,hl⟩:=h1;rw [List.any_append,Bool.or_eq_true];rcases aAH hx hq with rfl|hq
  · rw [←sG k1] at hl;have hl':dF z tb e (aL k1 q).2.1=dF z tb e (aL k1 q).2.2:=by
     simp only [kQ,AQ,hxn] at hl;simpa using hl
    by_cases e3:dF z tb e (aL k1 q).2.2=dF z tb e (aL k2 y).2.2
    · left;rw [List.any_eq_true];refine ⟨y,aM8 hy hij,?_⟩;rw [←sG k2];simp only [kQ,AQ,hyn];simp [←h2,hl',e3]
    · right;simp [kQ,e3]
  · left;rw [List.any_eq_true];exact ⟨q,hq,hl⟩
theorem U3 {e:Int->Int} {f:Tm->Tm}:∀{F:Fo} {i:Nat} {y:Tm} (a:Int),F.list[i]?=some y->dF z tb e (f y)=dF z tb e y->lL z tb e (fF F i f) a=lL z tb e F a
 | .nil,_,_,_,h,_=>by simp [Fo.list] at h
 | .node p q x k r,0,y,a,h,hv=>by simp only [Fo.list,List.getElem?_cons_zero,Option.some.injEq] at h;subst h;simp only [fF];rw [jB,jB];congr 1;rw [←hv]
 | .node p q x k r,i+1,y,a,h,hv=>by simp only [fF];rw [jB,jB];exact U3 _ (by simpa [Fo.list] using h) hv
theorem RI {e:Int->Int} {u:Tm}:∀{p:List Int} {x:Bool×Int} {k:Fo} {t:Tm},l6 p x k=some t->dF z tb e u=dF z tb e t->dF z tb e (dM p (x,k) u)=dF z tb e (x,k)
 |[],x,k,t,h,hv=>by cases h;exact hv
 |n::p,x,k,t,h,hv=>by
  rw [l6] at h;rw [dM];by_cases hn:x.1=true\/n<0\/(Fo.len k:Int)<=n
  · rw [if_pos hn] at h;cases h
  · rw [if_neg hn] at h;rw [if_neg hn];cases hy:k.list[n.toNat]? with
    |none=>rw [hy] at h;cases h
    |some y=>
     rw [hy] at h;have hx:¬x.1=true:=λe=>hn (.inl e);have ih:=RI (p:=p) (x:=y.1) (k:=y.2) h hv;unfold dF;rw [if_neg hx,if_neg hx]
     dsimp only
     rw [U3 (f:=λs=>dM p s u) 0 hy ih]
theorem aEP {dd:Cl} (hm:MR s z tb) (hs:s.all bN=true) (hb:∀p∈b,dL s p.2) (h:aY z tb c) (hd:aY z tb dd) {i j:Nat} {x y:Lt} (hx:c[i]?=some x) (hy:dd[j]?=some y) (hxn:x.1=false) {k1 k2:Bool} {p:List Int} {t:Tm}
 (ht:l6 p (aL k2 y).2.1.1 (aL k2 y).2.1.2=some t) (hu:aH (aV b) (aL k1 x).2.1=aH (aV b) t):
 aY z tb ((jM c i++dd.set j (aL k2 ((aL k2 y).1,dM p (aL k2 y).2.1 (aL k1 x).2.2,(aL k2 y).2.2))).map (bK (aH (aV b)))):=
 SE hm hs hb λe he hv=>by
  have h1:=h e he;have h2:=hd e he;have h3:=hv _ _ hu;unfold dB at h1 h2 ⊢;rw [List.any_eq_true] at h1 h2;obtain ⟨q,hq,hl⟩:=h1;obtain ⟨r,hr,hrl⟩:=h2;rw [List.any_append,Bool.or_eq_true];rcases aAH hx hq with rfl|hq
  · right;rw [←sG k1] at hl;have hl':dF z tb e (aL k1 q).2.1=dF z tb e (aL k1 q).2.2:=by
     simp only [kQ,AQ,hxn] at hl;simpa using hl
    have hp:=RI (z:=z) (tb:=tb) (e:=e) (u:=(aL k1 q).2.2) ht (by rw [←hl',h3]);rw [List.any_eq_true];obtain ⟨m,hm'⟩:=List.mem_iff_getElem?.1 hr;by_cases e4:m=j
    · subst e4;rw [hy] at hm';cases hm';refine ⟨_,List.mem_of_getElem? (i:=m) (List.getElem?_set_self (List.getElem?_eq_some_iff.1 hy).1),?_⟩;rw [sG];rw [←sG k2] at hrl;simp only [kQ] at hrl ⊢;rw [hp];exact hrl
    · exact ⟨r,List.mem_of_getElem? (i:=m) (by rw [List.getElem?_set_ne (λe=>e4 e.symm)];exact hm'),hrl⟩
  · left;rw [List.any_eq_true];exact ⟨q,hq,hl⟩
theorem aE3 {n:Int} {d:Cl} (h:aY z tb d):aY z tb (d.map (bK (aH (j5 n)))):=
 aFN (λe he m=>by simpa [j5,vr,dF] using he (wrap64 (m+n))) h
end
end
def Tn (l:Lt):Prop:=l.2.1≠l.2.2/\dU l.2.2 l.2.1=false
theorem aLD {l:Lt} (h:zL l) (hs:¬l.2.1=l.2.2):Tn (kF l):=by
 unfold kF;by_cases ha:dU l.2.2 l.2.1=true
 · rw [if_pos ha];exact ⟨λe=>hs e.symm,by simpa using XQ h.2 h.1 ha⟩
 · rw [if_neg ha];exact ⟨hs,by simpa using ha⟩
theorem aIB {o:Option Cl} {l:Lt} {d:Cl} (h:gI o l=some d) (hl:zL l) (h0:∀e,o=some e->∀x∈e,Tn x):∀x∈d,Tn x:=by
 cases o with
 |none=>simp [gI] at h
 |some e=>
  simp only [gI,Option.bind_some] at h;by_cases hs:cB l.2.1.1 l.2.1.2 l.2.2.1 l.2.2.2=true
  · rw [if_pos hs] at h;split at h
    · obtain rfl:=Option.some.inj h;exact h0 _ rfl
    · cases h
  · rw [if_neg hs] at h;cases h;intro x hx;rcases List.mem_append.1 hx with hx|hx
    · exact h0 e rfl x hx
    · simp at hx;rw [hx];exact aLD hl (λe=>hs ((kS hl.1 hl.2).2 e))
theorem aCH:∀{c:Cl} {o:Option Cl} {d:Cl},c.foldl gI o=some d->(∀l∈c,zL l)->(∀e,o=some e->∀x∈e,Tn x)->∀x∈d,Tn x
 |[],o,d,h,_,h0=>h0 d h
 |l::c,o,d,h,hc,h0=>aCH (c:=c) (o:=gI o l) h (λx hx=>hc x (by simp [hx])) (λe he=>aIB he (hc l (by simp)) h0)
theorem U7:∀{c out:Cl},(∀l∈c,zL l/\Tn l)->c.foldl gI (some out)=some (out++c)
 |[],out,_=>by simp
 |l::c,out,h=>by
  obtain ⟨ho,h1,h2⟩:=h l (by simp);have hs:¬cB l.2.1.1 l.2.1.2 l.2.2.1 l.2.2.2=true:=λe=>h1 ((kS ho.1 ho.2).1 e);have e1:gI (some out) l=some (out++[l]):=by simp only [gI,Option.bind_some];rw [if_neg hs];unfold kF;rw [if_neg (by rw [h2];simp)]
  rw [List.foldl_cons,e1,U7 (λx hx=>h x (by simp [hx]))];simp
def bck (vs:List Int) (n:Int):Tm:=vr (vs.getD n.toNat 0)
theorem BF {vs:List Int} {t:Tm} (ht:gN t) (h:∀n,bU n t->n∈vs):aH (bck vs) (aH (aV (kP vs)) t)=t:=by
 rw [VK];have:aH (λn=>aH (bck vs) (aV (kP vs) n)) t=aH vr t:=iM λn hn=>by have hm:=h n hn;rw [o6 hm];have h1:vs.idxOf n<vs.length:=List.idxOf_lt_length_of_mem hm;show bck vs (vs.idxOf n:Nat)=vr n;unfold bck;rw [Int.toNat_natCast,List.getD_eq_getElem?_getD,List.getElem?_eq_getElem h1,Option.getD_some,List.getElem_idxOf h1]
 rw [this,oZ ht]
theorem NT {x:Bool×Int} {k:Fo} {v:List Int} (h:∀n,bU n (x,k)->n∈v):bG x k v=v:=by
 have key:∀(F:Fo) (v:List Int),(∀n,eH n F->n∈v)->eT F v=v:=by
  intro F;induction F with
  |nil=>intro v _;rfl
  |node p q y l r ihl ihr=>
   intro v hv;have hl:∀n,bU n (y,l)->n∈v:=λn hn=>hv n (by rw [iY];exact ⟨(y,l),by simp [Fo.list],hn⟩)
   have hr:∀n,eH n r->n∈v:=λn hn=>hv n (by
    rw [iY] at hn ⊢;obtain ⟨t,ht,h2⟩:=hn;exact ⟨t,by simp [Fo.list,ht],h2⟩)
   have e:bG y l v=v:=by
    obtain ⟨b,n⟩:=y;cases b with
    |true=>have:=hl n (by simp [bU]);simp [bG,j6,this]
    |false=>simp only [bG,Bool.false_eq_true,if_false];exact ihl v (λn hn=>hl n (by simp [bU,hn]))
   show eT r (bG y l v)=v;rw [e,ihr v hr]
 obtain ⟨b,n⟩:=x;cases b with
 |true=>have:=h n (by simp [bU]);simp [bG,j6,this]
 |false=>simp only [bG,Bool.false_eq_true,if_false];exact key k v (λn hn=>h n (by simp [bU,hn]))
theorem aEB {l:Lt} {v:List Int} (h:∀n,CX n l->n∈v):nA l v=v:=by unfold nA;rw [NT (x:=l.2.1.1) (k:=l.2.1.2) (v:=v) (λn hn=>h n (.inl hn)),NT (λn hn=>h n (.inr hn))]
theorem uA (c d:Cl) (v:List Int):aP (c++d) v=aP d (aP c v):=by simp [aP,List.foldl_append]
theorem aJM {f l:Lt} (hf:zL f) (hl:zL l) (h:dW f l=true) (n:Int):CX n l->CX n f:=by
 rw [oD hf hl] at h;unfold CX;rcases h with ⟨h1,h2⟩|⟨h1,h2⟩
 · rw [h1,h2];exact id
 · rw [h1,h2];exact Or.symm
theorem aF6 {P out:Cl} (hP:∀x∈P,zL x) (h:dY P=some out):aP out []=aP P []:=by
 have key:∀(n:Nat) (out:Cl),n<=P.length->dY (P.take n)=some out->aP out []=aP (P.take n) []:=by
  intro n;induction n with
  |zero=>intro out _ h;simp [dY] at h;subst h;simp
  |succ n ih=>
   intro out hn h;have hl:P[n]?=some P[n]:=List.getElem?_eq_getElem (by omega);rw [xE hl] at h;cases hd:dY (P.take n) with
   |none=>rw [hd] at h;simp [kG] at h
   |some e=>
    rw [hd] at h;have he:=ih e (by omega) hd;have hm:∀x∈e,x∈P:=BO (p:=λx=>x∈P) hd (λe he=>by cases he;simp) (λx hx=>List.mem_of_mem_take hx);rw [List.take_add_one,hl];simp only [kG,Option.bind_some] at h;cases hf:e.find? (λf=>dW f P[n]) with
    |none=>rw [hf] at h;cases h;rw [uA,uA,he];rfl
    |some f=>
     rw [hf] at h;simp only at h;split at h
     · obtain rfl:=Option.some.inj h;have hfm:f∈e:=List.mem_of_find?_eq_some hf;have hfl:dW f P[n]=true:=by have:=List.find?_some hf;simpa using this
       rw [uA,←he];show _=nA P[n] (aP e []);rw [aEB];intro m hmm;exact fT.2 (.inr ⟨f,hfm,aJM (hP f (hm f hfm)) (hP _ (List.getElem_mem _)) hfl m hmm⟩)
     · cases h
 have:=key P.length out (Nat.le_refl _) (by rw [List.take_length];exact h)
 rwa [List.take_length] at this
theorem XD:∀{c out:Cl},(out++c).Pairwise (λa b=>dW a b=false)->c.foldl kG (some out)=some (out++c)
 |[],out,_=>by simp
 |l::c,out,h=>by
  have hno:out.find? (λf=>dW f l)=none:=by rw [List.find?_eq_none];intro f hf;rw [List.pairwise_append] at h;simp [h.2.2 f hf l (by simp)]
  have e1:kG (some out) l=some (out++[l]):=by simp only [kG,Option.bind_some,hno]
  rw [List.foldl_cons,e1,XD (by simpa using h)];simp
theorem NS {ρ:Int->Int} {S:Int->Prop} (hi:∀m n,S m->S n->ρ m=ρ n->m=n) {x:Bool×Int} {k:Fo} {v:List Int} (h:∀n,bU n (x,k)->S n) (hv:∀n∈v,S n):
 bG (aH (λn=>vr (ρ n)) (x,k)).1 (aH (λn=>vr (ρ n)) (x,k)).2 (v.map ρ)=(bG x k v).map ρ:=by
 have one:∀(n:Int) (v:List Int),S n->(∀m∈v,S m)->bG (vr (ρ n)).1 (vr (ρ n)).2 (v.map ρ)=(bG (true,n) .nil v).map ρ:=by
  intro n v hn hv;have e:j6 (v.map ρ) (ρ n)=j6 v n:=by
   unfold j6;rw [decide_eq_decide,List.mem_map];constructor
   · rintro ⟨m,hm,e⟩;rw [←hi m n (hv m hm) hn e];exact hm
   · exact λhm=>⟨n,hm,rfl⟩
  simp only [vr,bG,if_true,e];split<;>simp
 have key:∀(F:Fo) (v:List Int),(∀n,eH n F->S n)->(∀n∈v,S n)->eT (dD (λn=>vr (ρ n)) F) (v.map ρ)=(eT F v).map ρ:=by
  intro F;induction F with
  |nil=>intro v _ _;rfl
  |node p q y l r ihl ihr=>
   intro v hv hs;have hl:∀n,bU n (y,l)->S n:=λn hn=>hv n (by rw [iY];exact ⟨(y,l),by simp [Fo.list],hn⟩)
   have hr:∀n,eH n r->S n:=λn hn=>hv n (by
    rw [iY] at hn ⊢;obtain ⟨t,ht,h2⟩:=hn;exact ⟨t,by simp [Fo.list,ht],h2⟩)
   have e:bG (aH (λn=>vr (ρ n)) (y,l)).1 (aH (λn=>vr (ρ n)) (y,l)).2 (v.map ρ)=(bG y l v).map ρ:=by
    obtain ⟨b,n⟩:=y;cases b with
    |true=>rw [fJ,one n v (hl n (by simp [bU])) hs];rfl
    |false=>rw [cK];simp only [bG,Bool.false_eq_true,if_false];exact ihl v (λn hn=>hl n (by simp [bU,hn])) hs
   rw [dE];show eT (dD (λn=>vr (ρ n)) r) (bG _ _ (v.map ρ))=(eT r (bG y l v)).map ρ;rw [e,ihr _ hr];intro n hn;rcases wT.1 hn with hn|hn
   · exact hs n hn
   · exact hl n hn
 obtain ⟨b,n⟩:=x;cases b with
 |true=>rw [fJ,one n v (h n (by simp [bU])) hv];rfl
 |false=>rw [cK];simp only [bG,Bool.false_eq_true,if_false];exact key k v (λn hn=>h n (by simp [bU,hn])) hv
theorem NW {ρ:Int->Int} {S:Int->Prop} (hi:∀m n,S m->S n->ρ m=ρ n->m=n):∀{c:Cl} {v:List Int},(∀l∈c,∀n,CX n l->S n)->(∀n∈v,S n)->aP (c.map (bK (aH λn=>vr (ρ n)))) (v.map ρ)=(aP c v).map ρ
 |[],v,_,_=>by simp [aP]
 |l::c,v,h,hv=>by
  have hl:=h l (by simp);have e:nA (bK (aH λn=>vr (ρ n)) l) (v.map ρ)=(nA l v).map ρ:=by
   unfold nA bK;rw [NS hi (x:=l.2.1.1) (k:=l.2.1.2) (λn hn=>hl n (.inl hn)) hv,NS hi (x:=l.2.2.1) (k:=l.2.2.2) (λn hn=>hl n (.inr hn))];intro n hn;rcases wT.1 hn with hn|hn
   · exact hv n hn
   · exact hl n (.inl hn)
  show aP (c.map _) (nA (bK (aH λn=>vr (ρ n)) l) (v.map ρ))=(aP c (nA l v)).map ρ;rw [e,NW hi (λx hx=>h x (by simp [hx]))];intro n hn;rcases NV.1 hn with hn|hn
  · exact hv n hn
  · exact hl n hn
theorem aFM {vs:List Int} (h:vs.Nodup):vs.map (λn=>((vs.idxOf n:Nat):Int))=(List.range vs.length).map (λi:Nat=>(i:Int)):=by
 apply List.ext_getElem
 · simp
 · intro i h1 h2;simp only [List.length_map] at h1;simp only [List.getElem_map,List.getElem_range];rw [h.idxOf_getElem i h1]
theorem aIX {d:Cl}:aP (xY d) []=(List.range (aP d []).length).map (λi:Nat=>(i:Int)):=by
 have hi:∀m n,m∈aP d []->n∈aP d []->(((aP d []).idxOf m:Nat):Int)=(((aP d []).idxOf n:Nat):Int)->m=n:=λm n hm _ e=>aML hm (by omega);have ho:∀l∈d,∀n,CX n l->n∈aP d []:=λl hl n hn=>fT.2 (.inr ⟨l,hl,hn⟩);have e:xY d=d.map (bK (aH λn=>vr (((aP d []).idxOf n:Nat):Int))):=by unfold xY;refine List.map_congr_left λl hl=>?_;unfold bK;rw [iM (t:=l.2.1) (λn hn=>o6 (ho l hl n (.inl hn))),iM (t:=l.2.2) (λn hn=>o6 (ho l hl n (.inr hn)))]
 have:=NW (ρ:=λn=>(((aP d []).idxOf n:Nat):Int)) (S:=λn=>n∈aP d []) hi (c:=d) (v:=[]) ho (by simp);rw [List.map_nil] at this;rw [e,this,aFM (lZ List.nodup_nil)]
theorem aE6 {m:Nat} {n:Int} (h:n∈(List.range m).map (λi:Nat=>(i:Int))):((((List.range m).map (λi:Nat=>(i:Int))).idxOf n:Nat):Int)=n:=by have h1:=List.idxOf_lt_length_of_mem h;have h2:=List.getElem_idxOf h1;rw [List.getElem_map,List.getElem_range] at h2;exact h2
theorem aLV {e:Cl} {m:Nat} (hv:aP e []=(List.range m).map (λi:Nat=>(i:Int))) (ho:∀l∈e,zL l):xY e=e:=by
 unfold xY;rw [hv]
 conv=>rhs;rw [←List.map_id e]
 refine List.map_congr_left λl hl=>?_;have key:∀t,gN t->(∀n,bU n t->CX n l)->aH (aV (kP ((List.range m).map (λi:Nat=>(i:Int))))) t=t:=λt ht h=>by
  rw [iM (g:=vr) (λn hn=>?_),oZ ht];have hm:n∈(List.range m).map (λi:Nat=>(i:Int)):=by rw [←hv];exact fT.2 (.inr ⟨l,hl,h n hn⟩)
  rw [o6 hm,aE6 hm]
 unfold bK;rw [key _ (ho l hl).1 (λn hn=> .inl hn),key _ (ho l hl).2 (λn hn=> .inr hn)];rfl
theorem I7 {s:List Int} {x:Bool×Int} {k:Fo} {d:Int} (h1:d<=12) (h2:bM s x (Fo.len k)=0) (h3:gH s k (d+1)=0):bR s x k d=0:=by unfold bR;rw [if_neg (by omega),if_neg (by simpa using h2),h3]
theorem I6 {s:List Int} {f:Int->Tm}:∀{F:Fo} {d:Int},(∀n,eH n F->∃m,f n=vr m/\0<=m/\m<=4)->gH s F d=0->gH s (dD f F) d=0
 | .nil,_,_,_=>rfl
 | .node p q (b,n) k r,d,hf,h=>by
  obtain ⟨hT,hr⟩:=nY h;obtain ⟨h12,ha,hk⟩:=mM hT;have hl:∀m,bU m ((b,n),k)->∃j,f m=vr j/\0<=j/\j<=4:=λm hm=>hf m (by rw [iY];exact ⟨((b,n),k),by simp [Fo.list],hm⟩)
  have hr':∀m,eH m r->∃j,f m=vr j/\0<=j/\j<=4:=λm hm=>hf m (by
   rw [iY] at hm ⊢;obtain ⟨t,ht,h2⟩:=hm;exact ⟨t,by simp [Fo.list,ht],h2⟩)
  have e:bR s (aH f ((b,n),k)).1 (aH f ((b,n),k)).2 d=0:=by
   cases b with
   |true=>obtain ⟨j,hj,j0,j4⟩:=hl n (by simp [bU]);rw [fJ,hj];refine I7 h12 ?_ rfl;simp only [bM,vr,if_true,Fo.len];rw [if_neg (by omega)]
   |false=>rw [cK];refine I7 h12 ?_ (I6 (λm hm=>hl m (by simp [bU,hm])) hk);rw [lI];exact ha
  rw [dE,nL,if_neg (by simpa using e),I6 hr' hr]
theorem NM {s:List Int} {f:Int->Tm} {t:Tm} (hf:∀n,bU n t->∃m,f n=vr m/\0<=m/\m<=4) (hsz:aM (aH f t).2=aM t.2) (h:aU s t.1 t.2=0):aU s (aH f t).1 (aH f t).2=0:=by
 have hT:bR s t.1 t.2 1=0:=by
  unfold aU at h;by_cases e:bR s t.1 t.2 1=0
  · exact e
  · rw [if_pos e] at h;exact absurd h e
 have h2:bR s (aH f t).1 (aH f t).2 1=0:=by
  have:=I6 (s:=s) (f:=f) (F:= .node 0 0 t.1 t.2 .nil) (d:=1) (λn hn=>hf n (by
   rw [iY] at hn;obtain ⟨u,hu,h2⟩:=hn;simp [Fo.list] at hu;rw [hu] at h2;exact h2)) (by rw [nL,if_neg (by simpa using hT)];rfl)
  rw [dE] at this;exact (nY this).1
 unfold aU at h ⊢;rw [if_neg (by simpa using hT)] at h;rw [if_neg (by simpa using h2),hsz];exact h
theorem aBH {s:List Int} {c:Cl} (hc:GC c) (hw:aN s c=0) (h:(bS c).1=0):aN s (bS c).2=0:=by
 rcases tT hc with ⟨_,hn⟩|⟨d,ht,hd,hr,⟨_,hn⟩|⟨e,he,hE,hn⟩⟩
 · rw [hn] at h;simp at h
 · rw [hn] at h;simp at h
 · rw [hn];rw [nK] at hw ⊢;refine ⟨hE.1,λl hl=>?_⟩;have hmem:l∈xY d:=(sI (λl hl=>(hr.2 l hl).okl) he).1 l hl;obtain ⟨x,hx,rfl⟩:=List.mem_map.1 hmem;have hx0:aU s x.2.1.1 x.2.1.2=0/\aU s x.2.2.1 x.2.2.2=0:=vN (p:=λl=>aU s l.2.1.1 l.2.1.2=0/\aU s l.2.2.1 l.2.2.2=0) (o:=some []) ht (λe he=>by cases he;simp) (λl hl=>by
    unfold kF;split
    · exact (hw.2 l hl).symm
    · exact hw.2 l hl) x hx
   have hv:=SH hd.2;have hb:∀n,n∈aP d []->∃m,aV (kP (aP d [])) n=vr m/\0<=m/\m<=4:=λn hn=>by have h1:=List.idxOf_lt_length_of_mem hn;exact ⟨_,o6 hn,by omega,by omega⟩
   have g:=hd.2 x hx;exact ⟨NM (λn hn=>hb n (fT.2 (.inr ⟨x,hx,.inl hn⟩))) (rT g.gl.ok) hx0.1,NM (λn hn=>hb n (fT.2 (.inr ⟨x,hx,.inr hn⟩))) (rT g.gr.ok) hx0.2⟩
theorem aLU {d:Cl} (hd:GX d) (h:∀l∈d,Tn l):∀l∈xY d,Tn l:=by
 intro l hl;obtain ⟨x,hx,rfl⟩:=List.mem_map.1 hl;obtain ⟨h1,h2⟩:=h x hx;have g:=hd.2 x hx;have g':=g.num (SF hd.2);have o1:∀n,bU n x.2.1->n∈aP d []:=λn hn=>fT.2 (.inr ⟨x,hx,.inl hn⟩);have o2:∀n,bU n x.2.2->n∈aP d []:=λn hn=>fT.2 (.inr ⟨x,hx,.inr hn⟩);refine ⟨λe=>h1 ?_,?_⟩
 · have:=congrArg (aH (bck (aP d []))) e;simp only [bK] at this;rw [BF g.gl.ok o1,BF g.gr.ok o2] at this;exact this
 · cases ha:dU (bK (aH (aV (kP (aP d [])))) x).2.2 (bK (aH (aV (kP (aP d [])))) x).2.1 with
   |false=>rfl
   |true=>have:=aNE (f:=bck (aP d [])) (λn=>UU _) _ rfl g'.gr g'.gl ha;simp only [bK] at this;rw [BF g.gl.ok o1,BF g.gr.ok o2,h2] at this;cases this
theorem wE {c:Cl} (hc:GX c) (h:(bS c).1=0):GC (bS c).2/\bS (bS c).2=(0,(bS c).2):=by
 rcases qW hc with ⟨_,hn⟩|⟨d,ht,hd,hr,⟨_,hn⟩|⟨e,he,hE,hn⟩⟩
 · rw [hn] at h;simp at h
 · rw [hn] at h;simp at h
 · rw [hn] at h ⊢;unfold vH at h ⊢;by_cases hk:4<e.length\/5<(aP d []).length\/e.any oV=true
   · rw [if_pos hk] at h;simp at h
   · rw [if_neg hk];have hok:∀l∈xY d,zL l:=λl hl=>(hr.2 l hl).okl;have hve:aP e []=(List.range (aP d []).length).map (λi:Nat=>(i:Int)):=(aF6 hok he).trans aIX;have hsm:∀l∈e,aM l.2.1.2<=12/\aM l.2.2.2<=12:=λl hl=>by
      have hb:oV l=false:=by
       cases hb:oV l
       · rfl
       · exact absurd (.inr (.inr (List.any_eq_true.2 ⟨l,hl,hb⟩))) hk
      simp only [oV,Bool.or_eq_false_iff,decide_eq_false_iff_not] at hb;omega
     have ZY:∀l∈e,∀n,CX n l->n<=4:=λl hl n hn=>by have hm:n∈aP e []:=fT.2 (.inr ⟨l,hl,hn⟩);rw [hve] at hm;obtain ⟨i,hi,rfl⟩:=List.mem_map.1 hm;have:=List.mem_range.1 hi;have:¬5<(aP d []).length:=λh=>hk (.inr (.inl h));omega
     have hG:GC e:=⟨by have:¬4<e.length:=λh=>hk (.inl h);omega,λl hl=>⟨(hE.2 l hl).gl,(hE.2 l hl).gr,λm hm=>ZY l hl m (.inl hm),λm hm=>ZY l hl m (.inr hm),(hsm l hl).1,(hsm l hl).2⟩⟩;refine ⟨hG,?_⟩;have t1:∀l∈d,Tn l:=aCH (o:=some []) ht (λl hl=>(hc.2 l hl).okl) (λe he=>by cases he;simp);have t2:=aLU hd t1;obtain ⟨k1,_,k3⟩:=sI hok he;have f1:gV e=some e:=by have:=U7 (c:=e) (out:=[]) (λl hl=>⟨(hE.2 l hl).okl,t2 l (k1 l hl)⟩);simpa [gV] using this
     have f2:xY e=e:=aLV (m:=(aP d []).length) hve (λl hl=>(hE.2 l hl).okl);have f3:dY e=some e:=by have:=XD (c:=e) (out:=[]) (by simpa using k3);simpa [dY] using this
     show bS e=(0,e);simp only [bS,f1,f2,f3];exact aDC hG hG
theorem I8 {s:List Int}:∀{F:Fo} {d:Int},zV s F->Fo.ok F->(∀n,eH n F->0<=n/\n<=4)->(lG F:Int)+d<=13->gH s F d=0
 | .nil,_,_,_,_,_=>rfl
 | .node p q (b,n) k r,d,h,ho,hv,hd=>by
  obtain ⟨_,_,h3,h4⟩:=dG.1 ho;have hdk:lG (.node p q (b,n) k r)=max (1+lG k) (lG r):=rfl;have hr:=I8 (d:=d) h.2 h4 (λm hm=>hv m (by rw [eH];exact .inr hm)) (by rw [hdk] at hd;omega);have hT:bR s (b,n) k d=0:=by
   refine I7 (by rw [hdk] at hd;omega) ?_ ?_
   · cases b with
     |true=>have hk:k= .nil:=h3.1 rfl;subst hk;have:=hv n (by rw [eH];exact .inl (by simp));unfold bM;simp [Fo.len];omega
     |false=>exact h.1.1 rfl
   · cases b with
     |true=>have hk:k= .nil:=h3.1 rfl;subst hk;rfl
     |false=>exact I8 h.1.2 h3.2 (λm hm=>hv m (by rw [eH];exact .inl (by simpa using hm))) (by rw [hdk] at hd;omega)
  simp only [gH];have h5:(if 12<d then 4 else if bM s (b,n) (Fo.len k)≠0 then bM s (b,n) (Fo.len k) else gH s k (d+1))=0:=hT;rw [h5,hr];simp
theorem NP {s:List Int} {t:Tm} (h:dL s t) (hg:Gd t) (hv:∀n,bU n t->n<=4) (hz:aM t.2<=12):aU s t.1 t.2=0:=by
 have hF:gH s (.node 0 0 t.1 t.2 .nil) 1=0:=by
  refine I8 ⟨h,trivial⟩ (by rw [dG];exact ⟨rfl,rfl,hg.ok,trivial⟩) (λn hn=>?_) ?_
  · have hn':bU n t:=by
     rw [iY] at hn;obtain ⟨u,hu,h2⟩:=hn;simp only [Fo.list,List.mem_singleton] at hu;rw [hu] at h2;exact h2
    exact ⟨(hg.few n hn').1,hv n hn'⟩
  · have h1:=HY t.2;simp only [aM] at hz;have:lG (.node 0 0 t.1 t.2 .nil)=max (1+lG t.2) 0:=rfl;rw [this];omega
 have hT:bR s t.1 t.2 1=0:=(nY hF).1;unfold aU;rw [if_neg (by simpa using hT)];rw [if_neg];unfold wrap64;omega
theorem FQ {s:List Int} {c:Cl} (hc:GX c) (hs:∀l∈c,dL s l.2.1/\dL s l.2.2) (h:(bS c).1=0):aN s (bS c).2=0:=by
 have hG:=(wE hc h).1;rcases qW hc with ⟨_,hn⟩|⟨d,ht,hd,hr,⟨_,hn⟩|⟨e,he,hE,hn⟩⟩
 · rw [hn] at h;simp at h
 · rw [hn] at h;simp at h
 · rw [hn] at h hG ⊢;unfold vH at h hG ⊢;by_cases hk:4<e.length\/5<(aP d []).length\/e.any oV=true
   · rw [if_pos hk] at h;simp at h
   · rw [if_neg hk] at hG ⊢;rw [nK];refine ⟨hG.1,λl hl=>?_⟩;have hmem:l∈xY d:=(sI (λl hl=>(hr.2 l hl).okl) he).1 l hl;obtain ⟨x,hx,rfl⟩:=List.mem_map.1 hmem;have hx0:dL s x.2.1/\dL s x.2.2:=vN (p:=λl=>dL s l.2.1/\dL s l.2.2) (o:=some []) ht (λe he=>by cases he;simp) (λl hl=>by
      unfold kF;split
      · exact (hs l hl).symm
      · exact hs l hl) x hx
     have hb:∀p∈kP (aP d []),dL s p.2:=λp hp=>by unfold kP at hp;obtain ⟨q,_,rfl⟩:=List.mem_mapIdx.1 hp;exact Q4 _
     have g:=hG.2 _ hl;exact ⟨NP (qM (qN hb) hx0.1) g.gl g.fl g.sl,NP (qM (qN hb) hx0.2) g.gr g.fr g.sr⟩
structure aSF (s:List Int) (d:Cl):Prop where
 gc:GC d
 nm:bS d=(0,d)
 rt:aN s d=0
def QR (s:List Int) (Q:Cl->Prop) (st:List Cl×Bool):Prop:=(∀d∈st.1,aSF s d/\Q d)/\st.1.Pairwise (λa b=>dH a b=false)
theorem RU (s:List Int) (Q:Cl->Prop):QR s Q ([],false):=⟨λd hd=>by simp at hd,List.Pairwise.nil⟩
theorem aNC {s:List Int} {Q:Cl->Prop} {st:List Cl×Bool} (h:QR s Q st) {c:Cl} (hg:GX c) (hs:∀l∈c,dL s l.2.1/\dL s l.2.2) (hq:(bS c).1=0->Q (bS c).2):QR s Q (yI st (bS c)):=by
 unfold yI;split
 · exact h
 · split
   · exact h
   · rename_i h4 h0;have h0':(bS c).1=0:=by simpa using h0
     split
     · exact h
     · rename_i hany;have ha:=wE hg h0';refine ⟨λd hd=>?_,?_⟩
       · rcases List.mem_append.1 hd with hd|hd
         · exact h.1 d hd
         · rw [List.mem_singleton.1 hd];exact ⟨⟨ha.1,ha.2,FQ hg hs h0'⟩,hq h0'⟩
       · rw [List.pairwise_append];refine ⟨h.2,List.pairwise_singleton _ _,λa hx b hb=>?_⟩;rw [List.mem_singleton.1 hb];cases e:dH a (bS c).2
         · rfl
         · exact absurd (List.any_eq_true.2 ⟨a,hx,e⟩) hany
theorem mQ {S:Type} {I:S->Prop} {f:S->Nat->S} (h:∀st j,I st->I (f st j)) {st:S} (h0:I st):∀j,I (bF f st j)
 |0=>h0
 |j+1=>by rw [fV];exact h _ _ (mQ h h0 j)
theorem aDD {S A:Type} {I:S->Prop} {f:S->A->S} (h:∀st p,I st->I (f st p)):∀(Z:List A) {st:S},I st->I (Z.foldl f st)
 |[],_,h0=>h0
 |p::Z,_,h0=>aDD h Z (h _ p h0)
theorem aME {s:List Int} {b:Sb} (hb:∀p∈b,dL s p.2) {d:Cl} (hd:∀l∈d,dL s l.2.1/\dL s l.2.2):∀l∈d.map (bK (aH (aV b))),dL s l.2.1/\dL s l.2.2:=λl hl=>by obtain ⟨q,hq,rfl⟩:=List.mem_map.1 hl;exact ⟨qM (qN hb) (hd q hq).1,qM (qN hb) (hd q hq).2⟩
theorem SL {U:Tm->Tm->Option Sb} (hU:CQ U) {s:List Int} {Q:Cl->Prop} {st:List Cl×Bool} (h:QR s Q st) {a b:Tm} (ha:MI a) (hb:MI b) (sa:dL s a) (sb:dL s b) {d:Cl} (hl:d.length<=8) (hd:∀l∈d,G24 l) (hs:∀l∈d,dL s l.2.1/\dL s l.2.2)
 (hq:∀r:Sb,U a b=some r->(∀p∈r,dL s p.2)->aH (aV r) a=aH (aV r) b->(bS (d.map (bK (aH (aV r))))).1=0->Q (bS (d.map (bK (aH (aV r))))).2):QR s Q (MO st (U a b) d):=by
 obtain ⟨n,hn⟩:=hU a b (ha.ui hb);cases hR:U a b with
 |none=>exact h
 |some r=>rw [hR] at hn;have hr:=aLH sa sb hn;exact aNC h (wQ ha hb hn hl hd) (aME hr hs) (hq r hR hr (vL (ha.ui hb) hn).2)
def QH (s:List Int) (c d:Cl):Prop:=∀(z:Int) (tb:List (List Int)),MR s z tb->aY z tb c->aY z tb d
theorem aHS {U:Tm->Tm->Option Sb} (hU:CQ U) {s:List Int} (hs:s.all bN=true) {c:Cl} (hc:∀l∈c,l9 l) (h4:c.length<=4) (hsy:∀l∈c,dL s l.2.1/\dL s l.2.2) (j:Nat):QR s (QH s c) (jN U c j):=by
 refine mQ (λst i h=>?_) (RU _ _) j;unfold UG;split
 · rename_i x hx;have hm:=List.mem_of_getElem? hx;split
   · rename_i hneg;refine SL hU h (hc x hm).1 (hc x hm).2 (hsy x hm).1 (hsy x hm).2 (Nat.le_trans tF (by omega)) (λl hl=>(hc l (mK hl)).x) (λl hl=>hsy l (mK hl)) (λr hr1 hr2 hr3 hz z tb hM hH=>?_);obtain ⟨n,hn⟩:=hU _ _ ((hc x hm).1.ui (hc x hm).2);rw [hr1] at hn;have hgx:=wQ (hc x hm).1 (hc x hm).2 hn (d:=jM c i) (Nat.le_trans tF (by omega)) (λl hl=>(hc l (mK hl)).x);exact ((wD hgx).2 hz).1 (aE1 hM hs hr2 hH hx hneg hr3)
   · exact h
 · exact h
theorem aHY {U:Tm->Tm->Option Sb} (hU:CQ U) {s:List Int} (hs:s.all bN=true) {c:Cl} (hc:∀l∈c,l9 l) (h4:c.length<=4) (hsy:∀l∈c,dL s l.2.1/\dL s l.2.2) (m:Nat):QR s (QH s c) (fP U c m):=by
 refine mQ (λst i h=>?_) (RU _ _) m;refine mQ (λst j h=>?_) h _;unfold oU;split
 · rename_i x y hx hy;split
   · exact h
   · rename_i hcond;have hmx:=List.mem_of_getElem? hx;have hmy:=List.mem_of_getElem? hy;have hij:j≠i:=λe=>hcond (.inl (by omega));have hxn:x.1=false:=by cases e:x.1;rfl;exact absurd (.inr (.inl e)) hcond
     have hyn:y.1=false:=by cases e:y.1;rfl;exact absurd (.inr (.inr e)) hcond
     refine mQ (λst k h=>?_) h _;have gx:=fU (yes:=decide (2<=k)) (hc x hmx);have gy:=fU (yes:=decide (k % 2=1)) (hc y hmy);have sx:=fU (yes:=decide (2<=k)) (P:=dL s) (hsy x hmx);have sy:=fU (yes:=decide (k % 2=1)) (P:=dL s) (hsy y hmy);have hl8:(jM c i++[(true,(aL (decide (2<=k)) x).2.2,(aL (decide (k % 2=1)) y).2.2)]).length<=8:=by rw [List.length_append];have:=tF (c:=c) (i:=i);simp only [List.length_cons,List.length_nil];omega
     have hd:∀l∈jM c i++[(true,(aL (decide (2<=k)) x).2.2,(aL (decide (k % 2=1)) y).2.2)],G24 l:=λl hl=>by
      rcases List.mem_append.1 hl with hl|hl
      · exact (hc l (mK hl)).x
      · rw [List.mem_singleton.1 hl];exact l9.x ⟨gx.2,gy.2⟩
     refine SL hU h gx.1 gy.1 sx.1 sy.1 hl8 hd (λl hl=>?_) (λr hr1 hr2 hr3 hz z tb hM hH=>?_)
     · rcases List.mem_append.1 hl with hl|hl
       · exact hsy l (mK hl)
       · rw [List.mem_singleton.1 hl];exact ⟨sx.2,sy.2⟩
     · obtain ⟨n,hn⟩:=hU _ _ (gx.1.ui gy.1);rw [hr1] at hn;exact ((wD (wQ gx.1 gy.1 hn hl8 hd)).2 hz).1 (aFV hM hs hr2 hH hx hy hij hxn hyn hr3)
 · exact h
def QH2 (s:List Int) (c d e:Cl):Prop:=∀(z:Int) (tb:List (List Int)),MR s z tb->aY z tb c->aY z tb d->aY z tb e
theorem aHO {s:List Int}:∀{p:List Int} {x:Bool×Int} {k:Fo} {t:Tm},dL s (x,k)->l6 p x k=some t->dL s t
 |[],_,_,_,h,ht=>by cases ht;exact h
 |n::p,x,k,t,h,ht=>by
  rw [l6] at ht;by_cases hn:x.1=true\/n<0\/(Fo.len k:Int)<=n
  · rw [if_pos hn] at ht;cases ht
  · rw [if_neg hn] at ht;cases hy:k.list[n.toNat]? with
    |none=>rw [hy] at ht;cases ht
    |some y=>rw [hy] at ht;exact aHO (x:=y.1) (k:=y.2) (G5 h.2 y (List.mem_of_getElem? hy)) ht
theorem VE {s:List Int} {f:Tm->Tm}:∀{F:Fo} {i:Nat},zV s F->(∀y,dL s y->dL s (f y))->zV s (fF F i f)
 | .nil,_,_,_=>trivial
 | .node _ _ x k _,0,h,hf=>⟨hf (x,k) h.1,h.2⟩
 | .node _ _ _ _ _,_+1,h,hf=>⟨h.1,VE h.2 hf⟩
theorem aCR {s:List Int} {u:Tm} (hu:dL s u):∀{p:List Int} {x:Bool×Int} {k:Fo},dL s (x,k)->dL s (dM p (x,k) u)
 |[],_,_,_=>hu
 |n::p,x,k,h=>by
  rw [dM];split
  · exact h
  · refine ⟨λe=>?_,VE h.2 (λy hy=>aCR hu (x:=y.1) (k:=y.2) hy)⟩
    dsimp only
    rw [mO];exact h.1 e
theorem aHP {U:Tm->Tm->Option Sb} (hU:CQ U) {s:List Int} (hs:s.all bN=true) {c dd:Cl} (hc:∀l∈c,l9 l) (h4:c.length<=4) (hsy:∀l∈c,dL s l.2.1/\dL s l.2.2) (hdc:∀l∈dd,l9 l) (hd4:dd.length<=4) (hdy:∀l∈dd,dL s l.2.1/\dL s l.2.2) (m:Nat):
 QR s (QH2 s c dd) (gJ U c dd m):=by
 refine mQ (λst i h=>?_) (RU _ _) m;unfold ZU;split
 · rename_i x hx;have hmx:=List.mem_of_getElem? hx;refine mQ (λst k h=>?_) h _;unfold uU;split
   · exact h
   · rename_i hcond;have hxn:x.1=false:=by
      cases e:x.1
      · rfl
      · exact absurd (.inl (by rw [AQ];exact e)) hcond
     have gx:=fU (yes:=decide (k=1)) (hc x hmx);have sx:=fU (yes:=decide (k=1)) (P:=dL s) (hsy x hmx);refine mQ (λst j h=>?_) h _;unfold uV;split
     · rename_i y hy;have hmy:=List.mem_of_getElem? hy;refine mQ (λst sd h=>?_) h _;have gy:=fU (yes:=decide (sd=1)) (hdc y hmy);have sy:=fU (yes:=decide (sd=1)) (P:=dL s) (hdy y hmy);unfold uM;refine aDD (λst p h=>?_) _ h;unfold oQ;split
       · rename_i t ht;have gt:=gy.1.at ht;have hst:=aHO sy.1 ht;split
         · rename_i r hr;split
           · exact h
           · have hgp:=IX gx.2.gd gy.1.gd ht
             have hnew:G24 (aL (decide (sd=1)) ((aL (decide (sd=1)) y).1,dM p (aL (decide (sd=1)) y).2.1 (aL (decide (k=1)) x).2.2,(aL (decide (sd=1)) y).2.2)):=
              fU (P:=λt=>Gd t/\eO t<=24) ⟨⟨hgp.1,Nat.le_trans hgp.2 (Nat.add_le_add gy.1.sz gx.2.sz)⟩,⟨gy.2.gd,Nat.le_trans gy.2.sz (by decide)⟩⟩
             have aQF:dL s (aL (decide (sd=1)) ((aL (decide (sd=1)) y).1,dM p (aL (decide (sd=1)) y).2.1 (aL (decide (k=1)) x).2.2,(aL (decide (sd=1)) y).2.2)).2.1/\dL s (aL (decide (sd=1)) ((aL (decide (sd=1)) y).1,dM p (aL (decide (sd=1)) y).2.1 (aL (decide (k=1)) x).2.2,(aL (decide (sd=1)) y).2.2)).2.2:=
              fU (P:=dL s) ⟨aCR sx.2 sy.1,sy.2⟩
             generalize hnl:aL (decide (sd=1)) ((aL (decide (sd=1)) y).1,dM p (aL (decide (sd=1)) y).2.1 (aL (decide (k=1)) x).2.2,(aL (decide (sd=1)) y).2.2)=nl at hnew aQF ⊢;have hl8:(jM c i++dd.set j nl).length<=8:=by rw [List.length_append,List.length_set];have:=tF (c:=c) (i:=i);omega
             have hd:∀l∈jM c i++dd.set j nl,G24 l:=λl hl=>by
              rcases List.mem_append.1 hl with hl|hl
              · exact (hc l (mK hl)).x
              · rcases List.mem_or_eq_of_mem_set hl with hl|hl
                · exact (hdc l hl).x
                · rw [hl];exact hnew
             rw [←hr];refine SL hU h gx.1 gt sx.1 hst hl8 hd (λl hl=>?_) (λr hr1 hr2 hr3 hz z tb hM hH hH2=>?_)
             · rcases List.mem_append.1 hl with hl|hl
               · exact hsy l (mK hl)
               · rcases List.mem_or_eq_of_mem_set hl with hl|hl
                 · exact hdy l hl
                 · rw [hl];exact aQF
             · obtain ⟨n,hn⟩:=hU _ _ (gx.1.ui gt);rw [hr1] at hn;refine ((wD (wQ gx.1 gt hn hl8 hd)).2 hz).1 ?_;rw [←hnl];exact aEP hM hs hr2 hH hH2 hx hy hxn ht hr3
         · exact h
       · exact h
     · exact h
 · exact h
def aKI:Fo->Prop
 | .nil=>True
 | .node _ _ x k r=>((x.1=false->0<=x.2/\x.2<6)/\aKI k)/\aKI r
def aGJ (t:Tm):Prop:=(t.1.1=false->0<=t.1.2/\t.1.2<6)/\aKI t.2
theorem JR {s:List Int} (h6:s.length<=6):∀{F:Fo},zV s F->aKI F
 | .nil,_=>trivial
 | .node _ _ x k r,h=>by refine ⟨⟨λe=>?_,JR h6 h.1.2⟩,JR h6 h.2⟩;have h1:=h.1.1 e;obtain ⟨b,n⟩:=x;simp only at e;subst e;obtain ⟨n0,n1,_⟩:=sJ h1;simp only;omega
theorem zX {s:List Int} (h6:s.length<=6) {t:Tm} (h:dL s t):aGJ t:=by have:zV s (.node 0 0 t.1 t.2 .nil):=⟨h,trivial⟩;exact (JR h6 this).1
def MN:Nat->List Tm
 |0=>[]
 |n+1=>((List.range 10).map λ(i:Nat)=>vr (i:Int))++(List.range 6).flatMap λ(f:Nat)=>((false,(f:Int)),BT.nil)::(((MN n).map λx=>((false,(f:Int)),BT.node 0 0 x.1 x.2 .nil))++(MN n).flatMap λx=>(MN n).map λy=>((false,(f:Int)),BT.node 0 0 x.1 x.2 (.node 0 0 y.1 y.2 .nil)))
theorem WH:∀(n:Nat) {t:Tm},Gd t->aGJ t->gU t<=n->t∈MN n
 |0,t,_,_,h=>by unfold gU at h;omega
 |n+1,((true,m),k),hg,_,_=>by have hk:k= .nil:=hg.ok.1 rfl;subst hk;have hm:=hg.few m (by simp [bU]);simp only [MN,List.mem_append,List.mem_map,List.mem_range];exact .inl ⟨m.toNat,by omega,by simp only [vr];congr;omega⟩
 |n+1,((false,m),k),hg,h6,hd=>by
  have hm:=h6.1 rfl;simp only at hm;have sub:∀y∈k.list,Gd y/\aGJ y->gU y<=n->y∈MN n:=λy _ hy hd=>WH n hy.1 hy.2 hd;have hdk:lG k<=n:=by unfold gU at hd;simp only at hd;omega
  simp only [MN,List.mem_append,List.mem_flatMap,List.mem_range,List.mem_cons];refine .inr ⟨m.toNat,by omega,?_⟩;rw [show ((m.toNat:Nat):Int)=m by omega]
  match k,hg,h6,hdk,sub with
  | .nil,_,_,_,_=>exact .inl rfl
  | .node p q x l .nil,hg,h6,hdk,sub=>
   obtain ⟨rfl,rfl,hx,_⟩:=dG.1 hg.ok.2;have hgx:=mH hg rfl (show (x,l)∈Fo.list (BT.node 0 0 x l .nil) by simp [Fo.list]);have hx6:aGJ (x,l):=h6.2.1;have hdx:gU (x,l)<=n:=by simp only [lG,gU] at hdk ⊢;omega
   refine .inr (.inl ?_);rw [List.mem_map];exact ⟨(x,l),sub _ (by simp [Fo.list]) ⟨hgx,hx6⟩ hdx,rfl⟩
  | .node p q x l (.node p' q' y r .nil),hg,h6,hdk,sub=>
   obtain ⟨rfl,rfl,hx,h2⟩:=dG.1 hg.ok.2;obtain ⟨rfl,rfl,hy,_⟩:=dG.1 h2;have hgx:=mH hg rfl (show (x,l)∈Fo.list (BT.node 0 0 x l (.node 0 0 y r .nil)) by simp [Fo.list]);have hgy:=mH hg rfl (show (y,r)∈Fo.list (BT.node 0 0 x l (.node 0 0 y r .nil)) by simp [Fo.list]);have hdx:gU (x,l)<=n:=by simp only [lG,gU] at hdk ⊢;omega
   have hdy:gU (y,r)<=n:=by simp only [lG,gU] at hdk ⊢;omega
   refine .inr (.inr ?_);exact ⟨(x,l),sub _ (by simp [Fo.list]) ⟨hgx,h6.2.1⟩ hdx,List.mem_map.2 ⟨(y,r),sub _ (by simp [Fo.list]) ⟨hgy,h6.2.2.1⟩ hdy,rfl⟩⟩
  | .node _ _ _ _ (.node _ _ _ _ (.node _ _ _ _ _)),hg,_,_,_=>have:=hg.two.1;simp only [Fo.len] at this;omega
theorem H5:∀(n:Nat) (t:Tm),t∈MN n->gN t
 |0,_,h=>by cases h
 |n+1,t,h=>by
  simp only [MN,List.mem_append,List.mem_map,List.mem_flatMap,List.mem_range,List.mem_cons] at h;rcases h with ⟨i,_,rfl⟩|⟨f,_,rfl|⟨x,hx,rfl⟩|⟨x,hx,y,hy,rfl⟩⟩
  · exact UU _
  · exact ⟨λh=>(by cases h),trivial⟩
  · exact ⟨λh=>(by cases h),dG.2 ⟨rfl,rfl,H5 n x hx,trivial⟩⟩
  · exact ⟨λh=>(by cases h),dG.2 ⟨rfl,rfl,H5 n x hx,dG.2 ⟨rfl,rfl,H5 n y hy,trivial⟩⟩⟩
theorem CG {α:Type} {f g:α->Bool} {i:α}:∀{l:List α},(∀x∈l,g x=true->f x=true)->i∈l->f i=true->g i=false->l.countP g<l.countP f
 |[],_,h,_,_=>by cases h
 |y::r,hfg,h,hf,hg=>by
  have hr:∀x∈r,g x=true->f x=true:=λx hx=>hfg x (by simp [hx]);have hle:r.countP g<=r.countP f:=List.countP_mono_left (λx hx=>hr x hx);rw [List.countP_cons,List.countP_cons];rcases List.mem_cons.1 h with rfl|h
  · rw [hf,hg];simp;omega
  · have:=CG (l:=r) hr h hf hg;by_cases hy:g y=true
    · rw [hy,hfg y (by simp) hy];simp;omega
    · have:g y=false:=by simpa using hy
      rw [this];simp only [Bool.false_eq_true,if_false];split<;>omega
structure Lw (t:Tm):Prop where
 gd:Gd t
 six:aGJ t
 sz:eO t<=12
theorem Lw.g12 {t:Tm} (h:Lw t):MI t:=⟨h.gd,h.sz⟩
def Y6 (t:Tm):Nat:=(MN 12).countP λx=>dU t x
theorem rU {a b:Tm} (ha:Lw a) (hb:Lw b) (h:dU a b=true):Y6 b<Y6 a:=by
 refine CG (i:=b) (λx hx hbx=>E9 _ rfl ha.gd.ok hb.gd.ok (H5 12 x hx) h hbx) (WH 12 hb.gd hb.six hb.g12.dep) h ?_;cases e:dU b b with
 |false=>rfl
 |true=>exact absurd e (SQ hb.gd.ok)
end Go.Proofs.YtoklbpbmghbhnaeGreat
