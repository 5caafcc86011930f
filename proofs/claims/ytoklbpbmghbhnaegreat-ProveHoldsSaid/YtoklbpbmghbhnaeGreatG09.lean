import Derived.Test.YtoklbpbmghbhnaeGreatG08
import Derived.Deep.RegionLaw
namespace Go.Proofs.YtoklbpbmghbhnaeGreat
set_option maxRecDepth 100000
set_option maxHeartbeats 400000
open Go.RowKit Go.Deep Go.ChangeShapes Go.WideShapes
def XX (w:World) (v1 v2:Value):Nat->Prop:=λq=>q<w.heap.size/\some q≠v1.ownBlock/\some q≠v2.ownBlock
theorem FN {w:World} {lo lo' n m:Nat} {v1 v2:Value} {xs ys:List Value} (h1:w.ownsRow lo 92 4 v1 n xs) (h2:w.ownsRow lo' 160 6 v2 m ys):∀g,v1.ownBlock=some g->v2.ownBlock≠some g:=by
 intro g e1 e2;rcases h1.2 with ⟨rfl,_⟩|⟨g1,c1,aWC,rfl,_,hh1,_⟩
 · simp [Value.ownBlock] at e1
 · rcases h2.2 with ⟨rfl,_⟩|⟨g2,c2,aWB,rfl,_,hh2,_⟩
   · simp [Value.ownBlock] at e2
   · simp [Value.ownBlock] at e1 e2;subst e1 e2;rw [hh1] at hh2;simp at hh2
structure NC (lo:Nat) (w:World) (s:Sb) (T:List (Tm×Tm)) (v1 v2:Value) (xs ys:List Value):Prop where
 sub:kR lo (XX w v1 v2) w s v1 xs
 cou:qZ lo (XX w v1 v2) w T v2 ys
theorem NC.below {lo:Nat} {w w':World} {s:Sb} {T:List (Tm×Tm)} {v1 v2:Value} {xs ys:List Value} (h:NC lo w s T v1 v2 xs ys) (hb:Below w.heap.size w w'):NC lo w' s T v1 v2 xs ys:=by have hs:=hb.size;refine ⟨(h.sub.below hb).wide (λq hq=>⟨by have:=hq.1;omega,hq.2⟩) (λq hq=>⟨hq.1,hq.2.1⟩),(h.cou.below hb).wide (λq hq=>⟨by have:=hq.1;omega,hq.2⟩) (λq hq=>⟨hq.1,hq.2.2⟩)⟩
theorem NC.xx {lo:Nat} {w w':World} {s:Sb} {T:List (Tm×Tm)} {v1 v2:Value} {xs ys:List Value} (_:NC lo w s T v1 v2 xs ys) (hb:Below w.heap.size w w') {k:Fo} {a:Value} (hk:SB (XX w v1 v2) w k a):SB (XX w' v1 v2) w' k a:=
 (hk.grow (λ_ hq=>hq.1) hb).wide (λ_ hq=>⟨Nat.lt_of_lt_of_le hq.1 hb.size,hq.2⟩)
theorem NC.new {lo:Nat} {w w':World} {s:Sb} {T:List (Tm×Tm)} {v1 v2:Value} {xs ys:List Value} (h:NC lo w s T v1 v2 xs ys) {k:Fo} {a:Value} (hk:SB (λq=>w.heap.size<=q/\q<w'.heap.size) w' k a):SB (XX w' v1 v2) w' k a:=
 hk.wide (λq hq=>⟨hq.2,λe=>by have:=(aJ h.sub.row q e.symm).2;omega,λe=>by have:=(aJ h.cou.row q e.symm).2;omega⟩)
theorem aK8 {lo:Nat} {wa w2:World} {s s':Sb} {T:List (Tm×Tm)} {v1 v1' v2:Value} {xs xs' ys:List Value} (h:NC lo wa s T v1 v2 xs ys) (h1:kR lo (Ex (XX wa v1 v2) wa w2 v1') w2 s' v1' xs') (hf:Fr wa w2 v1.ownBlock none):NC lo w2 s' T v1' v2 xs' ys:=by
 have hs:=hf.size;have hd:=FN h.sub.row h.cou.row;have hrow:w2.ownsRow lo 160 6 v2 T.length ys:=bA h.cou.row (λg hg=>hf.block g (aJ h.cou.row g hg).2 (λe=>hd g e.symm hg) (by simp));refine ⟨h1.wide (λq hq=>?_) (λq hq=>⟨hq.1,hq.2.1⟩),⟨hrow,?_,λq hq=>⟨hq.1,hq.2.2⟩⟩⟩
 · have h2:=h1.off q hq;refine ⟨h2.1,h2.2,λe=>?_⟩;rcases hq with hq|hq
   · exact hq.2.2 e
   · have:=(aJ h.cou.row q e.symm).2;omega
 · refine h.cou.cells.frame (λq hq=>⟨by have:=hq.1;omega,?_,hq.2.2⟩) (λq i hq=>World.cell?_of_block (hf.block q hq.1 hq.2.1 (by simp)));exact λe=>(h1.off q (.inl hq)).2 e
theorem aH8 {lo:Nat} {wa w2:World} {s:Sb} {T T':List (Tm×Tm)} {v1 v2 v2':Value} {xs ys ys':List Value} (h:NC lo wa s T v1 v2 xs ys) (h1:qZ lo (Ex (XX wa v1 v2) wa w2 v2') w2 T' v2' ys') (hf:Fr wa w2 v2.ownBlock none):NC lo w2 s T' v1 v2' xs ys':=by
 have hs:=hf.size;have hd:=FN h.sub.row h.cou.row;have hrow:w2.ownsRow lo 92 4 v1 s.length xs:=bA h.sub.row (λg hg=>hf.block g (aJ h.sub.row g hg).2 (λe=>hd g hg e.symm) (by simp));refine ⟨⟨hrow,?_,λq hq=>⟨hq.1,hq.2.1⟩⟩,h1.wide (λq hq=>?_) (λq hq=>⟨hq.1,hq.2.2⟩)⟩
 · refine h.sub.cells.frame (λq hq=>⟨by have:=hq.1;omega,hq.2.1,?_⟩) (λq i hq=>World.cell?_of_block (hf.block q hq.1 hq.2.2 (by simp)));exact λe=>(h1.off q (.inl hq)).2 e
 · have h2:=h1.off q hq;refine ⟨h2.1,λe=>?_,h2.2⟩;rcases hq with hq|hq
   · exact hq.2.1 e
   · have:=(aJ h.sub.row q e.symm).2;omega
theorem aK7 {lo:Nat} {w:World} {s:Sb} {T:List (Tm×Tm)} {p:Tm×Tm} {v1:Value} {g bW:Nat} {xs ys:List Value} (h:NC lo w s (T++[p]) v1 (.slice (some ⟨g,0,none⟩) (T.length+1) bW) xs ys):
 ∃ys' a b,NC lo w s T v1 (.slice (some ⟨g,0,none⟩) T.length bW) xs ys'/\SB (XX w v1 (.slice (some ⟨g,0,none⟩) T.length bW)) w p.1.2 a/\SB (XX w v1 (.slice (some ⟨g,0,none⟩) T.length bW)) w p.2.2 b/\
  w.cell? ⟨g,T.length*6,none⟩=some (.bool p.1.1.1)/\w.cell? ⟨g,T.length*6+1,none⟩=some (.int .i64 p.1.1.2)/\w.cell? ⟨g,T.length*6+2,none⟩=some a/\w.cell? ⟨g,T.length*6+3,none⟩=some (.bool p.2.1.1)/\w.cell? ⟨g,T.length*6+4,none⟩=some (.int .i64 p.2.1.2)/\w.cell? ⟨g,T.length*6+5,none⟩=some b:=by
 have hrow:=h.cou.row;rw [List.length_append,List.length_singleton] at hrow;obtain ⟨ys',zs,rfl,h1,a,b,us,rfl,h2,h3,h4⟩:=CC.split h.cou.cells;rw [CC] at h4;subst h4;have hl:=h1.len;have hc:∀i v,i<6->[Value.bool p.1.1.1,.int .i64 p.1.1.2,a,.bool p.2.1.1,.int .i64 p.2.1.2,b][i]?=some v->w.cell? ⟨g,T.length*6+i,none⟩=some v:=λi v hi hv=>by rw [hrow.cellAt (T.length*6+i) (by omega),List.getElem?_append_right (by omega),←hv];congr 1;omega
 refine ⟨ys',a,b,⟨⟨h.sub.row,h.sub.cells,h.sub.off⟩,⟨ownsRow_pop hl hrow,h1,h.cou.off⟩⟩,h2,h3,hc 0 _ (by omega) rfl,hc 1 _ (by omega) rfl,hc 2 _ (by omega) rfl,hc 3 _ (by omega) rfl,hc 4 _ (by omega) rfl,hc 5 _ (by omega) rfl⟩
theorem aL2 {lo:Nat} {X:Nat->Prop} {w:World} {s:Sb} {v:Value} {xs:List Value} (h:kR lo X w s v xs):∀(i:Nat) (p:Int×Tm) (c b o:Nat),v= .slice (some ⟨b,o,none⟩) s.length c->s[i]?=some p->∃u,w.cell? ⟨b,o+i*4+3,none⟩=some u/\SB X w p.2.2 u:=by
 intro i p c b o e hi;subst e;have hrow:=h.row;have hil:i<s.length:=by
  rcases Nat.lt_or_ge i s.length with h'|h'
  · exact h'
  · rw [List.getElem?_eq_none h'] at hi;cases hi
 obtain ⟨_,_,_,a,d3,hS⟩:=h.cells.cellsAt hi;rcases hrow.2 with ⟨e,_⟩|⟨g,bW,cur,e,_⟩
 · cases e
 · simp only [Value.slice.injEq,Option.some.injEq,Addr.mk.injEq,true_and,and_true] at e;obtain ⟨⟨rfl,rfl⟩,rfl⟩:=e;refine ⟨a,?_,hS⟩;rw [Nat.zero_add,hrow.cellAt (i*4+3) (by omega)];exact d3
theorem aLZ {n c g:Nat} (hc:n+1<=c) (w:World):(Instr.slice 161 (.slice (some ⟨g,0,none⟩) (n+1) c) none (some (.int .i64 (n:Int))) none).run Tryz.prog w= .ok (.slice (some ⟨g,0,none⟩) n c) w:=by
 rw [run_slice_h (ht:=by kernel_rfl) (h0:=by omega) (h2:=by omega)];have e:(sizeOf (Tryz.prog.elem 161)).run Tryz.prog w= .ok 6 w:=by rw [show Tryz.prog.elem 161=160 by kernel_rfl];simp [go_sem]
 simp only [Result.andThen,sliced,e];simp [Addr.add]
theorem O0:∀{l m:List Int},l.Nodup->(∀x∈l,x∈m)->l.length<=m.length
 |[],_,_,_=>Nat.zero_le _
 |x::l,m,hn,hm=>by have hx:x∈m:=hm x (by simp);rw [List.nodup_cons] at hn;have ih:=O0 (l:=l) (m:=m.erase x) hn.2 (λy hy=>(List.mem_erase_of_ne (λ(e:y=x)=>hn.1 (e▸hy))).2 (hm y (by simp [hy])));rw [List.length_erase_of_mem hx] at ih;have:=List.length_pos_of_mem hx;simp only [List.length_cons];omega
theorem aMN {t:Tm} (h:Gd t):(bG t.1 t.2 []).length<=10:=by
 have hn:(bG t.1 t.2 []).Nodup:=by
  unfold bG;split
  · simp [j6]
  · exact qP (by simp)
 have:=O0 (m:=[0,1,2,3,4,5,6,7,8,9]) hn (λx hx=>by
  have:=h.few x (EP.1 hx);have e:x=0\/x=1\/x=2\/x=3\/x=4\/x=5\/x=6\/x=7\/x=8\/x=9:=by omega
  rcases e with rfl|rfl|rfl|rfl|rfl|rfl|rfl|rfl|rfl|rfl<;>simp)
 exact this
section
attribute [local go_sem ↓] Go.wp_at_zero Go.wp_at_succ
theorem KD {w:World}:∀{F:Fo} {b o:Nat},uL w F b o->uL w (Fo.norm F) b o
 | .nil,_,_,_=>trivial
 | .node _ _ _ k r,_,_,⟨h0,h1,⟨a,c,b',o',h2,h3,h4,h5,h6⟩,h7⟩=>by
  refine ⟨h0,h1,⟨a,c,b',o',?_,?_,?_,h5,KD h6⟩,KD h7⟩
  · rw [oC];exact h2
  · rw [oC];exact h3
  · rw [oC];exact h4
theorem VP {w:World} {k:Fo} {a:Value} (h:cO w k a):cO w (Fo.norm k) a:=by obtain ⟨a,c,b,o,rfl,h3,h4,h5,h6⟩:=h;exact ⟨a,c,b,o,by rw [oC],by rw [oC];exact h3,by rw [oC];exact h4,h5,KD h6⟩
theorem yZ:∀F:Fo,Fo.sizesR (Fo.norm F)=Fo.sizesR F
 | .nil=>rfl
 | .node _ _ _ k r=>by simp [Fo.norm,Fo.sizesR,yZ k,yZ r]
theorem o9 {s:List Int} (hs:s.all bN=true):∀{F:Fo} {n:Nat},n<=13->gH s F (13 - (n:Int))=0->Fo.ok (Fo.norm F)/\CU (Fo.norm F)/\(∀m,eH m (Fo.norm F)->0<=m/\m<=4)/\lG (Fo.norm F)<=n
 | .nil,_,_,_=>⟨trivial,trivial,λm hm=>by simp [Fo.norm,eH] at hm,Nat.zero_le _⟩
 | .node _ _ ⟨v,z⟩ k r,n,hn,h=>by
  obtain ⟨hT,hr⟩:=nY h;obtain ⟨hd,ha,hk⟩:=mM hT;have h2:=xH hs ha;obtain ⟨m,rfl⟩:∃m,n=m+1:=⟨n - 1,by omega⟩;have e:(13:Int) - ((m+1:Nat):Int)+1=13 - (m:Int):=by omega
  rw [e] at hk;obtain ⟨i1,i2,i3,i4⟩:=o9 hs (n:=m) (by omega) hk;obtain ⟨j1,j2,j3,j4⟩:=o9 hs (n:=m+1) hn hr;simp only [Fo.norm];refine ⟨?_,⟨by rw [oC];exact h2,i2,j2⟩,λq hq=>?_,?_⟩
  · rw [dG];refine ⟨rfl,rfl,⟨λhv=>?_,i1⟩,j1⟩;have hv':v=true:=hv;subst hv';obtain ⟨rfl,_,_⟩:=lY ha;rfl
  · rcases hq with hq|hq
    · cases v
      · exact i3 q (by simpa using hq)
      · obtain ⟨_,h0,h4⟩:=lY ha;have:z=q:=by simpa using hq
        omega
    · exact j3 q hq
  · simp only [lG];omega
theorem YL {s:List Int} (hs:s.all bN=true) {x:Bool×Int} {k:Fo} (h:aU s x k=0):Gd (x,Fo.norm k)/\gU (x,Fo.norm k)<=12/\aM (Fo.norm k)<=12:=by
 obtain ⟨h1,_,_,_,hw⟩:=VX hs h;have hF:gH s (.node 0 0 x k .nil) (13 - ((12:Nat):Int))=0:=by
  have:bR s x k 1=0:=hw;simp only [gH];have h3:∀z:Int,z=0->(if z≠0 then z else 0)=0:=λz hz=>by simp [hz]
  exact h3 _ this
 obtain ⟨i1,i2,i3,i4⟩:=o9 hs (n:=12) (by omega) hF;simp only [Fo.norm] at i1 i2 i3 i4;rw [dG] at i1;rw [nZ] at i2;refine ⟨⟨i1.2.2.1,i2.1,λm hm=>by have:=i3 m (.inl hm);omega⟩,?_,by unfold aM at*;rw [yZ];exact h1⟩;simp only [lG,gU] at*;omega
theorem M6 {s:List Int} (hs:s.all bN=true) {x:Bool×Int} {k:Fo} (h:aU s x k=0) (m:Int) (hm:bU m (x,Fo.norm k)):0<=m/\m<=4:=by
 obtain ⟨h1,_,_,_,hw⟩:=VX hs h;have hF:gH s (.node 0 0 x k .nil) (13 - ((12:Nat):Int))=0:=by
  have:bR s x k 1=0:=hw;simp only [gH];have h3:∀z:Int,z=0->(if z≠0 then z else 0)=0:=λz hz=>by simp [hz]
  exact h3 _ this
 obtain ⟨_,_,i3,_⟩:=o9 hs (n:=12) (by omega) hF;simp only [Fo.norm] at i3;exact i3 m (.inl hm)
end
def lL (z:Int) (tb:List (List Int)) (e:Int->Int):Fo->Int->Int
 | .nil,a=>a
 | .node _ _ x k r,a=>lL z tb e r (z*a+(if x.1 then e x.2 else (tb.getD x.2.toNat []).getD (lL z tb e k 0).toNat 0))
def dF (z:Int) (tb:List (List Int)) (e:Int->Int) (t:Tm):Int:=if t.1.1 then e t.1.2 else (tb.getD t.1.2.toNat []).getD (lL z tb e t.2 0).toNat 0
theorem jB (z:Int) (tb:List (List Int)) (e:Int->Int) (p q:Nat) (x:Bool×Int) (k r:Fo) (a:Int):lL z tb e (.node p q x k r) a=lL z tb e r (z*a+dF z tb e (x,k)):=rfl
def kQ (z:Int) (tb:List (List Int)) (e:Int->Int) (l:Lt):Bool:=l.1 !=(dF z tb e l.2.1==dF z tb e l.2.2)
def dB (z:Int) (tb:List (List Int)) (e:Int->Int) (c:Cl):Bool:=c.any (kQ z tb e)
def aY (z:Int) (tb:List (List Int)) (c:Cl):Prop:=∀e:Int->Int,(∀v,0<=e v/\e v<z)->dB z tb e c=true
theorem yP {z:Int} {tb:List (List Int)} {e e':Int->Int}:∀{F:Fo},(∀n,eH n F->e n=e' n)->∀a,lL z tb e F a=lL z tb e' F a
 | .nil,_,_=>rfl
 | .node p q x k r,h,a=>by
  have hk:(∀n,bU n (x,k)->e n=e' n):=λn hn=>h n (by rw [iY];exact ⟨(x,k),by simp [Fo.list],hn⟩)
  have hr:(∀n,eH n r->e n=e' n):=λn hn=>h n (by
   rw [iY] at hn ⊢;obtain ⟨t,ht,h2⟩:=hn;exact ⟨t,by simp [Fo.list,ht],h2⟩)
  rw [lL,lL,yP hr];congr 2;cases hx:x.1 with
  |true=>simp;exact hk x.2 (by simp [bU,hx])
  |false=>simp only [Bool.false_eq_true,if_false];rw [yP (F:=k) (λn hn=>hk n (by simp [bU,hx,hn]))]
theorem tN {z:Int} {tb:List (List Int)} {e e':Int->Int} {t:Tm} (h:∀n,bU n t->e n=e' n):dF z tb e t=dF z tb e' t:=by
 obtain ⟨⟨v,m⟩,k⟩:=t;cases v with
 |true=>simp only [dF,if_true];exact h m (by simp [bU])
 |false=>simp only [dF,Bool.false_eq_true,if_false];rw [yP (F:=k) (λn hn=>h n (by simp [bU,hn]))]
theorem JB {z:Int} {tb:List (List Int)} {e:Int->Int} {f:Int->Tm}:∀(F:Fo) (a:Int),lL z tb e (dD f F) a=lL z tb (λn=>dF z tb e (f n)) F a
 | .nil,_=>rfl
 | .node p q x k r,a=>by
  rw [dE,jB,jB,JB r];congr 2;obtain ⟨v,m⟩:=x;cases v with
  |true=>rw [fJ];simp [dF]
  |false=>rw [cK];unfold dF;rw [if_neg (by simp),if_neg (by simp)];dsimp only;rw [JB k];rfl
theorem rR {z:Int} {tb:List (List Int)} {e:Int->Int} {f:Int->Tm} (t:Tm):dF z tb e (aH f t)=dF z tb (λn=>dF z tb e (f n)) t:=by
 obtain ⟨⟨v,m⟩,k⟩:=t;cases v with
 |true=>rw [fJ];simp [dF]
 |false=>rw [cK];unfold dF;rw [if_neg (by simp),if_neg (by simp)];dsimp only;rw [JB k];rfl
theorem XM (a b:Int):(a==b)=(b==a):=by rw [Bool.eq_iff_iff];simp only [beq_iff_eq];exact ⟨Eq.symm,Eq.symm⟩
theorem aFG {z:Int} {tb:List (List Int)} {e:Int->Int} (l:Lt):kQ z tb e (kF l)=kQ z tb e l:=by
 unfold kF;split
 · simp only [kQ];rw [XM]
 · rfl
theorem O5 {z:Int} {tb:List (List Int)} {e:Int->Int} {a b:Lt} (ha:zL a) (hb:zL b) (h:dW a b=true) (hs:a.1=b.1):kQ z tb e a=kQ z tb e b:=by
 rw [oD ha hb] at h;simp only [kQ,hs];rcases h with ⟨h1,h2⟩|⟨h1,h2⟩
 · rw [h1,h2]
 · rw [h1,h2,XM]
theorem aBJ {z:Int} {tb:List (List Int)} {e:Int->Int} {a b:Lt} (ha:zL a) (hb:zL b) (h:dW a b=true) (hs:b.1≠a.1):kQ z tb e a=true\/kQ z tb e b=true:=by
 have hl:=O5 (z:=z) (tb:=tb) (e:=e) (a:=a) (b:=(a.1,b.2)) ha hb (by rw [←h];rfl) rfl;rw [hl];have:b.1=!a.1:=by cases h1:b.1<;>cases h2:a.1<;>simp_all
 simp only [kQ,this];cases a.1<;>cases (dF z tb e b.2.1==dF z tb e b.2.2)<;>simp
theorem aEW {z:Int} {tb:List (List Int)} {e:Int->Int} {o:Option Cl} {l:Lt} (hl:zL l):∀out,o=some out->(∀d,gI o l=some d->dB z tb e d=(dB z tb e out||kQ z tb e l))/\(gI o l=none->kQ z tb e l=true):=by
 intro out ho;subst ho;simp only [gI,Option.bind_some];by_cases hs:cB l.2.1.1 l.2.1.2 l.2.2.1 l.2.2.2=true
 · rw [if_pos hs];have he:l.2.1=l.2.2:=(kS hl.1 hl.2).1 hs;cases hn:l.1 with
   |true=>refine ⟨λd hd=>?_,λh=>by simp at h⟩;simp at hd;subst hd;simp [kQ,hn,he]
   |false=>exact ⟨λd hd=>by simp at hd,λ_=>by simp [kQ,hn,he]⟩
 · rw [if_neg hs];refine ⟨λd hd=>?_,λh=>by cases h⟩;cases hd;simp [dB,aFG]
theorem D8 {z:Int} {tb:List (List Int)} {e:Int->Int}:∀{c:Cl} {o:Option Cl} {out:Cl},(∀l∈c,zL l)->o=some out->(∀d,c.foldl gI o=some d->dB z tb e d=(dB z tb e out||dB z tb e c))/\(c.foldl gI o=none->dB z tb e c=true)
 |[],o,out,_,ho=>⟨λd hd=>by subst ho;cases hd;simp [dB],λh=>by subst ho;cases h⟩
 |l::c,o,out,hc,ho=>by
  have h1:=aEW (z:=z) (tb:=tb) (e:=e) (o:=o) (l:=l) (hc l (by simp)) out ho;cases ht:gI o l with
  |none=>have:=h1.2 ht;refine ⟨λd hd=>?_,λ_=>by simp [dB,this]⟩;rw [List.foldl_cons,ht,EU (λ_=>rfl)] at hd;cases hd
  |some aNW=>
   have h2:=D8 (z:=z) (tb:=tb) (e:=e) (c:=c) (o:=some aNW) (out:=aNW) (λx hx=>hc x (by simp [hx])) rfl;have h3:=h1.1 aNW ht;rw [List.foldl_cons,ht];refine ⟨λd hd=>?_,λh=>?_⟩
   · rw [h2.1 d hd,h3];simp [dB,Bool.or_assoc]
   · have:=h2.2 h;simp only [dB,List.any_cons] at this ⊢;rw [this,Bool.or_true]
theorem K9 {z:Int} {tb:List (List Int)} {c:Cl} (hc:∀l∈c,zL l):(∀d,gV c=some d->(aY z tb c↔aY z tb d))/\(gV c=none->aY z tb c):=by
 refine ⟨λd hd=>?_,λh e _=>(D8 (o:=some []) (out:=[]) hc rfl).2 h⟩;have key:∀e,dB z tb e d=dB z tb e c:=λe=>by have:=(D8 (z:=z) (tb:=tb) (e:=e) (o:=some []) (out:=[]) hc rfl).1 d hd;simpa [dB] using this
 unfold aY;simp only [key]
theorem LD {z:Int} {tb:List (List Int)} {P:Cl} (hP:∀l∈P,zL l):(∀d,dY P=some d->(aY z tb P↔aY z tb d))/\(dY P=none->aY z tb P):=by
 refine ⟨λd hd=>?_,λh e _=>?_⟩
 · obtain ⟨k1,k2,_⟩:=sI hP hd;have key:∀e,dB z tb e d=dB z tb e P:=λe=>by
    rw [Bool.eq_iff_iff];simp only [dB,List.any_eq_true];constructor
    · rintro ⟨x,hx,h⟩;exact ⟨x,k1 x hx,h⟩
    · rintro ⟨y,hy,h⟩;obtain ⟨f,h1,h2,h3⟩:=k2 y hy;exact ⟨f,h1,by rw [O5 (hP f (k1 f h1)) (hP y hy) h2 h3];exact h⟩
   unfold aY;simp only [key]
 · have key:∀n,n<=P.length->dY (P.take n)=none->dB z tb e P=true:=by
    intro n;induction n with
    |zero=>intro _ h;simp [dY] at h
    |succ n ih=>
     intro hn h;have hl:P[n]?=some P[n]:=List.getElem?_eq_getElem (by omega);cases hd:dY (P.take n) with
     |none=>exact ih (by omega) hd
     |some out=>
      rw [xE hl,hd] at h;have hk:=sI (λx hx=>hP x (List.mem_of_mem_take hx)) hd;obtain ⟨y,hy,h1,h2⟩:=(O8 hk (λx hx=>hP x (List.mem_of_mem_take hx)) (hP _ (List.getElem_mem _)) h).2.1.1 rfl;have hyP:=List.mem_of_mem_take hy;simp only [dB,List.any_eq_true];rcases aBJ (z:=z) (tb:=tb) (e:=e) (hP _ (List.getElem_mem _)) (hP y hyP) h1 h2 with h|h
      · exact ⟨_,List.getElem_mem _,h⟩
      · exact ⟨y,hyP,h⟩
   exact key P.length (Nat.le_refl _) (by rw [List.take_length];exact h)
theorem aJS {v n:Int} {vs:List Int} (h:¬v=n):(v::vs).idxOf n=vs.idxOf n+1:=by
 have:(v==n)=false:=by simp [h]
 rw [List.idxOf_cons,this,cond_false]
theorem BI {n:Int}:∀{vs:List Int} {k:Nat},dA (vs.mapIdx λi v=>(v,vr ((i+k:Nat):Int))) n=if n∈vs then some (vr ((vs.idxOf n+k:Nat):Int)) else none
 |[],_=>rfl
 |v::vs,k=>by
  rw [List.mapIdx_cons,dA];by_cases h:v=n
  · subst h;simp
  · have hn:¬n=v:=λe=>h e.symm;rw [if_neg (by simpa using h)];have e:(λi (v:Int)=>(v,vr ((i+1+k:Nat):Int)))=λi v=>(v,vr ((i+(k+1):Nat):Int)):=by
     funext i v;rw [show i+1+k=i+(k+1) by omega]
    rw [e,BI (vs:=vs) (k:=k+1)];by_cases hm:n∈vs
    · rw [if_pos hm,if_pos (by simp [hm]),aJS h];rw [show vs.idxOf n+(k+1)=vs.idxOf n+1+k by omega]
    · rw [if_neg hm,if_neg (by simp [hm,hn])]
theorem o6 {vs:List Int} {n:Int} (h:n∈vs):aV (kP vs) n=vr (vs.idxOf n:Nat):=by have:=BI (n:=n) (vs:=vs) (k:=0);simp only [Nat.add_zero] at this;rw [if_pos h] at this;exact dO this
theorem wT {x:Bool×Int} {k:Fo} {l:List Int} {m:Int}:m∈bG x k l↔m∈l\/bU m (x,k):=by
 unfold bG;obtain ⟨v,n⟩:=x;cases v with
 |true=>
  simp only [if_true,bU];by_cases h:j6 l n=true
  · rw [if_pos h];have hn:n∈l:=by simpa [j6] using h
    constructor
    · exact .inl
    · rintro (h|rfl);exact h;exact hn
  · rw [if_neg h];simp [eq_comm]
 |false=>simp only [Bool.false_eq_true,if_false,bU];exact wZ
def CX (m:Int) (l:Lt):Prop:=bU m l.2.1\/bU m l.2.2
theorem NV {l:Lt} {v:List Int} {m:Int}:m∈nA l v↔m∈v\/CX m l:=by unfold nA CX;rw [wT,wT,or_assoc]
theorem fT {m:Int}:∀{c:Cl} {v:List Int},m∈aP c v↔m∈v\/∃l∈c,CX m l
 |[],v=>by simp [aP]
 |l::c,v=>by show m∈aP c (nA l v)↔_;rw [fT,NV];simp [or_assoc]
theorem FI {x:Bool×Int} {k:Fo} {l:List Int} (h:l.Nodup):(bG x k l).Nodup:=by
 unfold bG;split
 · split
   · exact h
   · rename_i hh;rw [List.nodup_append];refine ⟨h,by simp,λa ha b hb=>?_⟩;simp at hb;intro e;rw [hb] at e;exact hh (by simp [j6,←e,ha])
 · exact qP h
theorem lZ:∀{c:Cl} {v:List Int},v.Nodup->(aP c v).Nodup
 |[],_,h=>h
 |_::c,_,h=>lZ (c:=c) (FI (FI h))
theorem aML {vs:List Int} {m n:Int} (hm:m∈vs) (h:vs.idxOf m=vs.idxOf n):m=n:=by
 have h1:vs.idxOf m<vs.length:=List.idxOf_lt_length_of_mem hm;have h2:vs[vs.idxOf m]'h1=m:=List.getElem_idxOf h1;have h3:vs.idxOf n<vs.length:=by rw [←h];exact h1
 have h4:vs[vs.idxOf n]'h3=n:=List.getElem_idxOf h3;rw [←h2,←h4];simp only [h]
theorem PG {z:Int} {tb:List (List Int)} {d:Cl}:aY z tb d↔aY z tb (xY d):=by
 have key:∀e,dB z tb e (xY d)=dB z tb (λn=>dF z tb e (aV (kP (aP d [])) n)) d:=λe=>by unfold dB xY;rw [List.any_map];congr 1;funext l;simp only [Function.comp,kQ,bK,rR]
 have same:∀(e e':Int->Int),(∀n∈aP d [],e n=e' n)->dB z tb e d=dB z tb e' d:=λe e' h=>by unfold dB;rw [Bool.eq_iff_iff,List.any_eq_true,List.any_eq_true];refine exists_congr λl=>and_congr_right λhl=>?_;have h1:∀n,CX n l->e n=e' n:=λn hn=>h n (fT.2 (.inr ⟨l,hl,hn⟩));simp only [kQ];rw [tN (λn hn=>h1 n (.inl hn)),tN (t:=l.2.2) (λn hn=>h1 n (.inr hn))]
 constructor
 · intro h e he;rw [key];have:=h (λn=>if n∈aP d [] then e ((aP d []).idxOf n:Nat) else e 0) (λv=>by split;exact he _;exact he _);rw [same _ _ ?_] at this
   · exact this
   · intro n hn;simp only [hn,if_true];rw [o6 hn];simp [dF,vr]
 · intro h e he;have:=h (λi=>e ((aP d []).getD i.toNat 0)) (λv=>he _);rw [key] at this;rw [←this];refine same _ _ λn hn=>?_;rw [o6 hn];have h1:(aP d []).idxOf n<(aP d []).length:=List.idxOf_lt_length_of_mem hn;simp only [dF,vr,if_true,Int.toNat_natCast];rw [List.getD_eq_getElem?_getD,List.getElem?_eq_getElem h1,Option.getD_some,List.getElem_idxOf h1]
theorem BG:∀{l m:List Int},l.Nodup->(∀x∈l,x∈m)->l.length<=m.length
 |[],_,_,_=>Nat.zero_le _
 |a::l,m,hn,hs=>by
  rw [List.nodup_cons] at hn;have ha:a∈m:=hs a (by simp);have h1:=BG (l:=l) (m:=m.erase a) hn.2 (λx hx=>by have hne:x≠a:=λe=>hn.1 (e▸hx);exact (List.mem_erase_of_ne hne).2 (hs x (by simp [hx])))
  rw [List.length_erase_of_mem ha] at h1;have:=List.length_pos_of_mem ha;simp only [List.length_cons];omega
theorem aP6 {d:Cl} (h:∀l∈d,GL l):∀n∈aP d [],0<=n/\n<=4:=λn hn=>by
 rcases fT.1 hn with hn|⟨l,hl,hn⟩
 · cases hn
 · rcases hn with hn|hn
   · exact ⟨((h l hl).gl.few n hn).1,(h l hl).fl n hn⟩
   · exact ⟨((h l hl).gr.few n hn).1,(h l hl).fr n hn⟩
theorem SH {d:Cl} (h:∀l∈d,GL l):(aP d []).length<=5:=by refine BG (m:=[0,1,2,3,4]) (lZ List.nodup_nil) (λx hx=>?_);have:=aP6 h x hx;simp;omega
theorem I4 {c:Int->Nat} (hc:∀n,c n=0):∀F:Fo,TG c F=0
 | .nil=>rfl
 | .node _ _ x k r=>by rw [TG,I4 hc k,I4 hc r,hc];simp
theorem aC1 (vs:List Int) (n:Int):(aV (kP vs) n).2= .nil:=by
 by_cases h:n∈vs
 · rw [o6 h];rfl
 · have:=BI (n:=n) (vs:=vs) (k:=0);simp only [Nat.add_zero] at this;rw [if_neg h] at this;have e:aV (kP vs) n=vr n:=eF this;rw [e];rfl
theorem rT {vs:List Int} {t:Tm} (h:gN t):aM (aH (aV (kP vs)) t).2=aM t.2:=by have:=D6 (f:=aV (kP vs)) h;simp only [eO,wgT] at this;rw [I4 (λn=>by rw [aC1];rfl)] at this;rw [this,aC1];simp [Fo.sizesR]
theorem Q8 {vs:List Int} (hl:vs.length<=10):∀p∈kP vs,Gd p.2:=λp hp=>by simp only [kP,List.mem_mapIdx] at hp;obtain ⟨i,hi,rfl⟩:=hp;exact aHG ⟨by omega,by omega⟩
theorem WB {vs:List Int} (hl:vs.length<=5) {t:Tm} (h:∀m,bU m t->m<=4):∀m,bU m (aH (aV (kP vs)) t)->m<=4:=λm hm=>by
 obtain ⟨n,h1,h2⟩:=BD.1 hm;by_cases hn:n∈vs
 · rw [o6 hn,DI] at h2;have:=List.idxOf_lt_length_of_mem hn;omega
 · have:=BI (n:=n) (vs:=vs) (k:=0);simp only [Nat.add_zero] at this;rw [if_neg hn] at this;have e:aV (kP vs) n=vr n:=eF this;rw [e,DI] at h2;rw [←h2];exact h n h1
theorem GL.num {vs:List Int} (hl:vs.length<=5) {l:Lt} (h:GL l):GL (bK (aH (aV (kP vs))) l):=
 ⟨mG (Q8 (by omega)) h.gl,mG (Q8 (by omega)) h.gr,WB hl h.fl,WB hl h.fr,by simp only [bK];rw [rT h.gl.ok];exact h.sl,by simp only [bK];rw [rT h.gr.ok];exact h.sr⟩
theorem GL.okl {l:Lt} (h:GL l):zL l:=⟨h.gl.ok,h.gr.ok⟩
theorem aP5 {d:Cl} (h:GC d):GC (xY d):=by refine ⟨by rw [xY,List.length_map];exact h.1,λl hl=>?_⟩;obtain ⟨x,hx,rfl⟩:=List.mem_map.1 hl;exact (h.2 x hx).num (SH h.2)
theorem aMP {d e:Cl} (h:GC d) (he:dY d=some e):GC e:=by refine ⟨?_,BO (p:=GL) he (λe he=>by cases he;simp) h.2⟩;have:=KI (n:=0) he (λe he=>by cases he;simp);have:=h.1;omega
theorem aP7 {e:Cl} (h:GC e):e.any oV=false:=by rw [List.any_eq_false];intro x hx;have h1:=(h.2 x hx).sl;have h2:=(h.2 x hx).sr;simp [oV];omega
theorem aDC {d e:Cl} (hd:GC d) (he:GC e):vH d e=(0,e):=by
 unfold vH;rw [if_neg];rintro (h|h|h)
 · have:=he.1;omega
 · have:=SH hd.2;omega
 · rw [aP7 he] at h;cases h
theorem tT {c:Cl} (hc:GC c):(gV c=none/\bS c=(6,[]))\/∃d,gV c=some d/\GC d/\GC (xY d)/\((dY (xY d)=none/\bS c=(6,[]))\/∃e,dY (xY d)=some e/\GC e/\bS c=(0,e)):=by
 cases ht:gV c with
 |none=>exact .inl ⟨rfl,by simp [bS,ht]⟩
 |some d=>
  have hd:=aLB ht hc;have hr:=aP5 hd;refine .inr ⟨d,rfl,hd,hr,?_⟩;cases he:dY (xY d) with
  |none=>exact .inl ⟨rfl,by simp [bS,ht,he]⟩
  |some e=>have hE:=aMP hr he;exact .inr ⟨e,rfl,hE,by simp only [bS,ht,he];exact aDC hd hE⟩
structure GLx (l:Lt):Prop where
 gl:Gd l.2.1
 gr:Gd l.2.2
 sl:aM l.2.1.2<=4000000000000
 sr:aM l.2.2.2<=4000000000000
def GX (c:Cl):Prop:=c.length<=8/\∀l∈c,GLx l
theorem GL.x {l:Lt} (h:GL l):GLx l:=⟨h.gl,h.gr,by have:=h.sl;omega,by have:=h.sr;omega⟩
theorem GC.x {c:Cl} (h:GC c):GX c:=⟨by have:=h.1;omega,λl hl=>(h.2 l hl).x⟩
theorem GLx.flip {l:Lt} (h:GLx l):GLx (kF l):=by
 unfold kF;split
 · exact ⟨h.gr,h.gl,h.sr,h.sl⟩
 · exact h
theorem GLx.okl {l:Lt} (h:GLx l):zL l:=⟨h.gl.ok,h.gr.ok⟩
theorem aK9 {c d:Cl} (h:gV c=some d) (hc:GX c):GX d:=by refine ⟨?_,vN (p:=GLx) h (λe he=>by cases he;simp) (λl hl=>(hc.2 l hl).flip)⟩;have:=JD (n:=0) h (λe he=>by cases he;simp);have:=hc.1;omega
theorem aP3 {d:Cl} (h:∀l∈d,GLx l):∀n∈aP d [],0<=n/\n<=9:=λn hn=>by
 rcases fT.1 hn with hn|⟨l,hl,hn⟩
 · cases hn
 · rcases hn with hn|hn
   · exact (h l hl).gl.few n hn
   · exact (h l hl).gr.few n hn
theorem SF {d:Cl} (h:∀l∈d,GLx l):(aP d []).length<=10:=by refine BG (m:=[0,1,2,3,4,5,6,7,8,9]) (lZ List.nodup_nil) (λx hx=>?_);have:=aP3 h x hx;simp;omega
theorem GLx.num {vs:List Int} (hl:vs.length<=10) {l:Lt} (h:GLx l):GLx (bK (aH (aV (kP vs))) l):=
 ⟨mG (Q8 hl) h.gl,mG (Q8 hl) h.gr,by simp only [bK];rw [rT h.gl.ok];exact h.sl,by simp only [bK];rw [rT h.gr.ok];exact h.sr⟩
theorem aP2 {d:Cl} (h:GX d):GX (xY d):=by refine ⟨by rw [xY,List.length_map];exact h.1,λl hl=>?_⟩;obtain ⟨x,hx,rfl⟩:=List.mem_map.1 hl;exact (h.2 x hx).num (SF h.2)
theorem aMM {d e:Cl} (h:GX d) (he:dY d=some e):GX e:=by refine ⟨?_,BO (p:=GLx) he (λe he=>by cases he;simp) h.2⟩;have:=KI (n:=0) he (λe he=>by cases he;simp);have:=h.1;omega
theorem qW {c:Cl} (hc:GX c):(gV c=none/\bS c=(6,[]))\/∃d,gV c=some d/\GX d/\GX (xY d)/\((dY (xY d)=none/\bS c=(6,[]))\/∃e,dY (xY d)=some e/\GX e/\bS c=vH d e):=by
 cases ht:gV c with
 |none=>exact .inl ⟨rfl,by simp [bS,ht]⟩
 |some d=>
  have hd:=aK9 ht hc;have hr:=aP2 hd;refine .inr ⟨d,rfl,hd,hr,?_⟩;cases he:dY (xY d) with
  |none=>exact .inl ⟨rfl,by simp [bS,ht,he]⟩
  |some e=>exact .inr ⟨e,rfl,aMM hr he,by simp only [bS,ht,he]⟩
theorem aJQ {d e:Cl} (h:(4<e.length\/5<(aP d []).length)\/e.any oV=true):vH d e=(4,[]):=if_pos (by
 rcases h with (h|h)|h
 · exact .inl h
 · exact .inr (.inl h)
 · exact .inr (.inr h))
theorem aMJ {d e:Cl} (h1:¬4<e.length) (h2:¬5<(aP d []).length) (h3:e.any oV=false):vH d e=(0,e):=if_neg (by
 rintro (h|h|h)
 · exact h1 h
 · exact h2 h
 · rw [h3] at h;cases h)
theorem wD {z:Int} {tb:List (List Int)} {c:Cl} (hc:GX c):((bS c).1=6->aY z tb c)/\((bS c).1=0->(aY z tb c↔aY z tb (bS c).2)):=by
 have h1:=K9 (z:=z) (tb:=tb) (λl hl=>(hc.2 l hl).okl);rcases qW hc with ⟨ht,hn⟩|⟨d,ht,hd,hr,hn⟩
 · rw [hn];exact ⟨λ_=>h1.2 ht,λh=>by simp at h⟩
 · have h2:=h1.1 d ht;have h3:=PG (z:=z) (tb:=tb) (d:=d);have h4:=LD (z:=z) (tb:=tb) (λl hl=>(hr.2 l hl).okl);rcases hn with ⟨he,hn⟩|⟨e,he,hE,hn⟩
   · rw [hn];exact ⟨λ_=>h2.2 (h3.2 (h4.2 he)),λh=>by simp at h⟩
   · rw [hn];unfold vH;split
     · exact ⟨λh=>by simp at h,λh=>by simp at h⟩
     · exact ⟨λh=>by simp at h,λ_=>h2.trans (h3.trans (h4.1 e he))⟩
theorem K5 {z:Int} {tb:List (List Int)} {c:Cl} (hc:GC c):((bS c).1=6->aY z tb c)/\((bS c).1=0->(aY z tb c↔aY z tb (bS c).2)):=by
 have h1:=K9 (z:=z) (tb:=tb) (λl hl=>(hc.2 l hl).okl);rcases tT hc with ⟨ht,hn⟩|⟨d,ht,hd,hr,hn⟩
 · rw [hn];exact ⟨λ_=>h1.2 ht,λh=>by simp at h⟩
 · have h2:=h1.1 d ht;have h3:=PG (z:=z) (tb:=tb) (d:=d);have h4:=LD (z:=z) (tb:=tb) (λl hl=>(hr.2 l hl).okl);rcases hn with ⟨he,hn⟩|⟨e,he,hE,hn⟩
   · rw [hn];exact ⟨λ_=>h2.2 (h3.2 (h4.2 he)),λh=>by simp at h⟩
   · rw [hn];exact ⟨λh=>by simp at h,λ_=>h2.trans (h3.trans (h4.1 e he))⟩
def rJ (z:Int) (n:Int):Int:=if n=0 then 1 else if n=1 then z else z*z
def inZ (z:Int) (x:Int):Bool:=decide (0<=x/\x<z)
def uW (z:Int) (p:Int×List Int):Int:=if (p.2.length:Int)=rJ z p.1 then (if p.2.all (inZ z) then 0 else 3) else 5
def uG (z:Int):List (Int×List Int)->Int
 |[]=>0
 |p::ps=>if uW z p≠0 then uW z p else uG z ps
theorem JW {z:Int}:∀{c:List (Int×List Int)} {j:Nat} {p:Int×List Int},(∀i,i<j->∀a,c[i]?=some a->uW z a=0)->c[j]?=some p->uW z p≠0->uG z c=uW z p
 |[],_,_,_,h,_=>by simp at h
 |x::c,0,l,_,h,hn=>by simp only [List.getElem?_cons_zero,Option.some.injEq] at h;subst h;rw [uG,if_pos hn]
 |x::c,j+1,l,h0,h,hn=>by rw [uG,if_neg (by simp [h0 0 (by omega) x (by simp)])];exact JW (j:=j) (λi hi a ha=>h0 (i+1) (by omega) a (by simpa using ha)) (by simpa using h) hn
theorem EG {z:Int}:∀{c:List (Int×List Int)},uG z c=0↔∀p∈c,uW z p=0
 |[]=>by simp [uG]
 |x::c=>by
  rw [uG];by_cases h:uW z x=0
  · rw [if_neg (by simp [h]),EG (c:=c)];simp [h]
  · rw [if_pos h];simp [h]
def rA (s:List Int) (z:Int) (tb:List (List Int)):Int:=if z<1\/8<z\/tb.length≠s.length then 5 else uG z (s.zip tb)
structure MR (s:List Int) (z:Int) (tb:List (List Int)):Prop where
 z1:1<=z
 z8:z<=8
 len:tb.length=s.length
 row:∀i,i<s.length->((tb.getD i []).length:Int)=rJ z (s.getD i 0)
 all:∀i,i<s.length->∀x∈tb.getD i [],0<=x/\x<z
theorem Z9 {z:Int} {p:Int×List Int}:uW z p=0↔(p.2.length:Int)=rJ z p.1/\∀x∈p.2,0<=x/\x<z:=by
 unfold uW;by_cases h1:(p.2.length:Int)=rJ z p.1
 · rw [if_pos h1];by_cases h2:p.2.all (inZ z)=true
   · rw [if_pos h2];simp only [h1,true_and,true_iff];intro x hx;have:=List.all_eq_true.1 h2 x hx;simpa [inZ] using this
   · rw [if_neg h2];constructor
     · intro h;simp at h
     · intro h;refine absurd (List.all_eq_true.2 λx hx=>?_) h2;have:=h.2 x hx;simpa [inZ] using this
 · rw [if_neg h1];constructor
   · intro h;simp at h
   · intro h;exact absurd h.1 h1
theorem aD2 {s:List Int} {z:Int} {tb:List (List Int)} (h:rA s z tb=0):MR s z tb:=by
 unfold rA at h;by_cases h1:z<1\/8<z\/tb.length≠s.length
 · rw [if_pos h1] at h;simp at h
 · rw [if_neg h1,EG] at h;have hl:tb.length=s.length:=by
    by_cases e:tb.length=s.length
    · exact e
    · exact absurd (.inr (.inr e)) h1
   have key:∀i,i<s.length->uW z (s.getD i 0,tb.getD i [])=0:=λi hi=>by
    have h2:(s.zip tb)[i]?=some (s.getD i 0,tb.getD i []):=by
     have hs:s[i]?=some (s.getD i 0):=by rw [List.getD_eq_getElem?_getD,List.getElem?_eq_getElem hi];rfl
     have ht:tb[i]?=some (tb.getD i []):=by rw [List.getD_eq_getElem?_getD,List.getElem?_eq_getElem (by omega)];rfl
     rw [List.getElem?_zip_eq_some];exact ⟨hs,ht⟩
    exact h _ (List.mem_of_getElem? h2)
   exact ⟨by omega,by omega,hl,λi hi=>(Z9.1 (key i hi)).1,λi hi=>(Z9.1 (key i hi)).2⟩
def pw (z:Int):Nat->Int
 |0=>1
 |n+1=>z*pw z n
theorem aAA {z:Int} (h:1<=z):∀n,1<=pw z n
 |0=>by simp [pw]
 |n+1=>by have:=aAA h n;rw [pw];have:=Int.mul_le_mul h this (by omega) (by omega);simpa using this
theorem R8 {z n:Int} {m:Nat} (h:(m:Int)=n) (hm:m<=2):rJ z n=pw z m:=by
 subst h;rcases (by omega:m=0\/m=1\/m=2) with rfl|rfl|rfl
 · rfl
 · simp [rJ,pw]
 · simp [rJ,pw]
theorem tX {z a v p:Int} (hz:1<=z) (ha:0<=a) (hp:a<p) (hv:0<=v) (hvz:v<z):0<=z*a+v/\z*a+v<z*p:=by have h1:0<=z*a:=Int.mul_nonneg (by omega) ha;have h2:z*(a+1)<=z*p:=Int.mul_le_mul_of_nonneg_left (by omega) (by omega);rw [Int.mul_add] at h2;omega
def yD (s:List Int):Fo->Prop
 | .nil=>True
 | .node _ _ x k r=>(bM s x (Fo.len k)=0/\yD s k)/\yD s r
def jS (s:List Int) (t:Tm):Prop:=bM s t.1 (Fo.len t.2)=0/\yD s t.2
theorem EA {s:List Int}:∀{F:Fo} {d:Int},gH s F d=0->yD s F
 | .nil,_,_=>trivial
 | .node _ _ x k r,d,h=>by obtain ⟨hT,hr⟩:=nY h;obtain ⟨_,ha,hk⟩:=mM hT;exact ⟨⟨ha,EA hk⟩,EA hr⟩
theorem aIM {s:List Int} {t:Tm} {d:Int} (h:bR s t.1 t.2 d=0):jS s t:=by obtain ⟨_,ha,hk⟩:=mM h;exact ⟨ha,EA hk⟩
theorem G6 {s:List Int}:∀{F:Fo},yD s F->∀t∈F.list,jS s t
 | .nil,_,t,h=>by simp [Fo.list] at h
 | .node _ _ x k r,h,t,ht=>by
  simp only [Fo.list,List.mem_cons] at ht;rcases ht with rfl|ht
  · exact h.1
  · exact G6 h.2 t ht
theorem JS {s:List Int} {f:Int->Tm}:∀{F:Fo},(∀n,eH n F->jS s (f n))->yD s F->yD s (dD f F)
 | .nil,_,_=>trivial
 | .node p q (b,n) k r,hf,h=>by
  have hl:∀m,bU m ((b,n),k)->jS s (f m):=λm hm=>hf m (by rw [iY];exact ⟨((b,n),k),by simp [Fo.list],hm⟩)
  have hr:∀m,eH m r->jS s (f m):=λm hm=>hf m (by
   rw [iY] at hm ⊢;obtain ⟨t,ht,h2⟩:=hm;exact ⟨t,by simp [Fo.list,ht],h2⟩)
  rw [dE];refine ⟨?_,JS hr h.2⟩;cases b with
  |true=>rw [fJ];exact hl n (by simp [bU])
  |false=>rw [cK];refine ⟨?_,JS (λm hm=>hl m (by simp [bU,hm])) h.1.2⟩;rw [lI];exact h.1.1
theorem aLN {s:List Int} {f:Int->Tm} {t:Tm} (hf:∀n,bU n t->jS s (f n)) (h:jS s t):jS s (aH f t):=by
 obtain ⟨⟨b,n⟩,k⟩:=t;cases b with
 |true=>rw [fJ];exact hf n (by simp [bU])
 |false=>rw [cK];refine ⟨?_,JS (λm hm=>hf m (by simp [bU,hm])) h.2⟩;rw [lI];exact h.1
theorem wW {s:List Int} {z:Int} {tb:List (List Int)} {e:Int->Int} (hm:MR s z tb) (hs:s.all bN=true) (he:∀v,0<=v->v<=4->0<=e v/\e v<z):
 ∀{F:Fo},yD s F->∀(a:Int) (i:Nat),0<=a->a<pw z i->0<=lL z tb e F a/\lL z tb e F a<pw z (Fo.len F+i)
 | .nil,_,a,i,h0,h1=>by simpa [lL,Fo.len] using ⟨h0,h1⟩
 | .node p q (b,n) k r,h,a,i,h0,h1=>by
  obtain ⟨⟨ha,hk⟩,hr⟩:=h;have hv:0<=dF z tb e ((b,n),k)/\dF z tb e ((b,n),k)<z:=by
   cases b with
   |true=>obtain ⟨_,hn0,hn4⟩:=lY ha;simpa [dF] using he n hn0 hn4
   |false=>
    obtain ⟨n0,n1,n2⟩:=sJ ha;have ih:=wW hm hs he hk 0 0 (by omega) (by simp [pw]);have hn:n.toNat<s.length:=by omega
    have ok:=List.all_eq_true.1 hs (s.getD n.toNat 0) (by rw [List.getD_eq_getElem?_getD,List.getElem?_eq_getElem hn];simp);have ok':0<=s.getD n.toNat 0/\s.getD n.toNat 0<=2:=by simpa [bN] using ok
    have hl:=hm.row n.toNat hn;rw [R8 n2 (by omega)] at hl;rw [Nat.add_zero] at ih;have hlt:(lL z tb e k 0).toNat<(tb.getD n.toNat []).length:=by omega
    have:(tb.getD n.toNat []).getD (lL z tb e k 0).toNat 0∈tb.getD n.toNat []:=by rw [List.getD_eq_getElem?_getD (l:=tb.getD n.toNat []),List.getElem?_eq_getElem hlt];simp
    have:=hm.all n.toNat hn _ this;simpa [dF] using this
  rw [jB];have hd:=tX hm.z1 h0 h1 hv.1 hv.2;have:=wW hm hs he hr (z*a+dF z tb e ((b,n),k)) (i+1) hd.1 (by rw [pw];exact hd.2);rw [show Fo.len (.node p q (b,n) k r)+i=Fo.len r+(i+1) by simp [Fo.len];omega];exact this
theorem aH4 {s:List Int} {z:Int} {tb:List (List Int)} {e:Int->Int} (hm:MR s z tb) (hs:s.all bN=true) (he:∀v,0<=v->v<=4->0<=e v/\e v<z) {n:Int} {k:Fo} (h:jS s ((false,n),k)):
 0<=n/\n<s.length/\0<=lL z tb e k 0/\lL z tb e k 0<(tb.getD n.toNat []).length/\Fo.len k<=2:=by
 have ha:bM s (false,n) (Fo.len k)=0:=h.1;have hk:yD s k:=h.2;obtain ⟨n0,n1,n2⟩:=sJ ha;have ih:=wW hm hs he hk 0 0 (by omega) (by simp [pw]);have hn:n.toNat<s.length:=by omega
 have ok:=List.all_eq_true.1 hs (s.getD n.toNat 0) (by rw [List.getD_eq_getElem?_getD,List.getElem?_eq_getElem hn];simp);have ok':0<=s.getD n.toNat 0/\s.getD n.toNat 0<=2:=by simpa [bN] using ok
 have hl:=hm.row n.toNat hn;rw [R8 n2 (by omega)] at hl;rw [Nat.add_zero] at ih;exact ⟨n0,n1,ih.1,by omega,by omega⟩
theorem aAS {s:List Int} {z:Int} {tb:List (List Int)} {e:Int->Int} (hm:MR s z tb) (hs:s.all bN=true) (he:∀v,0<=v->v<=4->0<=e v/\e v<z) {t:Tm} (h:jS s t):0<=dF z tb e t/\dF z tb e t<z:=by have h2:yD s (.node 0 0 t.1 t.2 .nil):=⟨h,trivial⟩;have:=wW hm hs he h2 0 0 (by omega) (by simp [pw]);rw [jB] at this;simpa [lL,Fo.len,pw] using this
def l8 (z:Int):List Int->Int->List Int->List Int
 |[],_,L=>L
 |v::vs,n,L=>l8 z vs (n / z) (L.set v.toNat (n % z))
def dX (L:List Int) (v:Int):Int:=L.getD v.toNat 0
abbrev uQ:List Int:=[0,0,0,0,0]
def lQ (z:Int) (tb:List (List Int)) (c:Cl):Bool:=(List.range (pw z (aP c []).length).toNat).all λn=>dB z tb (dX (l8 z (aP c []) n uQ)) c
theorem W9 {z:Int}:∀(vs:List Int) (n:Int) (L:List Int),(l8 z vs n L).length=L.length
 |[],_,_=>rfl
 |v::vs,n,L=>by rw [l8,W9];simp
theorem LM {z v:Int}:∀{vs:List Int} {n:Int} {L:List Int},(∀x∈vs,0<=x)->0<=v->v∉vs->dX (l8 z vs n L) v=dX L v
 |[],_,_,_,_,_=>rfl
 |x::vs,n,L,hx,h0,h=>by have hne:x.toNat≠v.toNat:=λe=>h (by have:=hx x (by simp);rw [show v=x by omega];simp);rw [l8,LM (λy hy=>hx y (by simp [hy])) h0 (λhh=>h (by simp [hh]))];unfold dX;rw [List.getD_eq_getElem?_getD,List.getD_eq_getElem?_getD,List.getElem?_set_ne hne]
theorem EZ {z:Int} (hz:1<=z):∀{vs:List Int} {n:Int} {L:List Int},(∀x∈L,0<=x/\x<z)->∀x∈l8 z vs n L,0<=x/\x<z
 |[],_,_,h=>h
 |v::vs,n,L,h=>by
  rw [l8];refine EZ hz (λx hx=>?_);rcases List.mem_or_eq_of_mem_set hx with hx|hx
  · exact h x hx
  · rw [hx];exact ⟨Int.emod_nonneg _ (by omega),Int.emod_lt_of_pos _ (by omega)⟩
theorem aP9 {z:Int} (hz:1<=z) {vs:List Int} {n:Int} (v:Int):0<=dX (l8 z vs n uQ) v/\dX (l8 z vs n uQ) v<z:=by
 unfold dX;rw [List.getD_eq_getElem?_getD];cases h:(l8 z vs n uQ)[v.toNat]? with
 |none=>simp;omega
 |some x=>have:=EZ hz (vs:=vs) (n:=n) (L:=uQ) (λx hx=>by simp at hx;omega) x (List.mem_of_getElem? h);simpa using this
theorem WZ {z:Int} (hz:1<=z) {e:Int->Int} (he:∀v,0<=e v/\e v<z):∀{vs:List Int},vs.Nodup->(∀x∈vs,0<=x/\x<=4)->∃n:Int,0<=n/\n<pw z vs.length/\∀L:List Int,L.length=5->∀v∈vs,dX (l8 z vs n L) v=e v
 |[],_,_=>⟨0,by omega,by simp [pw],λ_ _ _ h=>by cases h⟩
 |v::vs,hn,hx=>by
  rw [List.nodup_cons] at hn;obtain ⟨m,m0,m1,hm⟩:=WZ hz he hn.2 (λx hx'=>hx x (by simp [hx']));have hv:=hx v (by simp);obtain ⟨e0,e1⟩:=he v;have hd:=tX hz m0 m1 e0 e1;have hz':(0:Int)<z:=by omega
  have q1:(z*m+e v) / z=m:=by rw [Int.add_comm,Int.add_mul_ediv_left _ _ (by omega),Int.ediv_eq_zero_of_lt e0 e1];omega
  have q2:(z*m+e v) % z=e v:=by rw [Int.add_comm,Int.add_mul_emod_self_left,Int.emod_eq_of_lt e0 e1]
  refine ⟨z*m+e v,hd.1,by rw [List.length_cons,pw];exact hd.2,λL hL x hxm=>?_⟩;rw [l8,q1,q2];rcases List.mem_cons.1 hxm with rfl|hxm
  · rw [LM (λy hy=>(hx y (by simp [hy])).1) hv.1 hn.1];unfold dX;rw [List.getD_eq_getElem?_getD,List.getElem?_set_self (by omega)];rfl
  · exact hm _ (by simp [hL]) x hxm
theorem aA0 {z:Int} {tb:List (List Int)} {e e':Int->Int} {c:Cl} (h:∀n∈aP c [],e n=e' n):dB z tb e c=dB z tb e' c:=by unfold dB;rw [Bool.eq_iff_iff,List.any_eq_true,List.any_eq_true];refine exists_congr λl=>and_congr_right λhl=>?_;have h1:∀n,CX n l->e n=e' n:=λn hn=>h n (fT.2 (.inr ⟨l,hl,hn⟩));simp only [kQ];rw [tN (λn hn=>h1 n (.inl hn)),tN (t:=l.2.2) (λn hn=>h1 n (.inr hn))]
theorem aFO {z:Int} {tb:List (List Int)} {c:Cl} (hz:1<=z) (hv:∀n∈aP c [],0<=n/\n<=4):lQ z tb c=true↔aY z tb c:=by
 unfold lQ aY;rw [List.all_eq_true];constructor
 · intro h e he;obtain ⟨n,n0,n1,hn⟩:=WZ hz he (lZ (c:=c) List.nodup_nil) hv;have h1:=h n.toNat (List.mem_range.2 (by omega));rw [show ((n.toNat:Nat):Int)=n by omega] at h1;rw [←h1];exact aA0 λv hvm=>(hn uQ rfl v hvm).symm
 · intro h n _;exact h _ (λv=>aP9 hz v)
theorem aBP {z:Int} (hz:1<=z) (tb:List (List Int)):¬aY z tb []:=λh=>by have:=h (λ_=>0) (λ_=>⟨by omega,by omega⟩);simp [dB] at this
theorem KW {z:Int} {tb:List (List Int)} {e:Int->Int} (f:Int->Tm) (c:Cl):dB z tb e (c.map (bK (aH f)))=dB z tb (λn=>dF z tb e (f n)) c:=by unfold dB;rw [List.any_map];congr 1;funext l;simp only [Function.comp,kQ,bK,rR]
theorem aFN {z:Int} {tb:List (List Int)} {f:Int->Tm} {c:Cl} (hf:∀(e:Int->Int),(∀v,0<=e v/\e v<z)->∀n,0<=dF z tb e (f n)/\dF z tb e (f n)<z) (h:aY z tb c):aY z tb (c.map (bK (aH f))):=λe he=>by rw [KW];exact h _ (hf e he)
theorem RV {s:List Int}:∀{F:Fo},yD s F->∀m,eH m F->0<=m/\m<=4
 | .nil,_,m,h=>by simp [eH] at h
 | .node p q (b,n) k r,h,m,hm=>by
  rw [eH] at hm;rcases hm with hm|hm
  · cases b with
    |true=>
     obtain ⟨_,h0,h4⟩:=lY h.1.1;have:n=m:=by simpa using hm
     omega
    |false=>exact RV h.1.2 m (by simpa using hm)
  · exact RV h.2 m hm
theorem pR {s:List Int} {t:Tm} (h:jS s t):∀m,bU m t->0<=m/\m<=4:=λm hm=>by refine RV (F:= .node 0 0 t.1 t.2 .nil) ⟨h,trivial⟩ m ?_;rw [iY];exact ⟨t,by simp [Fo.list],hm⟩
theorem EC {s:List Int} {c:Cl} (h:∀l∈c,jS s l.2.1/\jS s l.2.2):(∀n∈aP c [],0<=n/\n<=4)/\(aP c []).length<=5:=by
 have key:∀n∈aP c [],0<=n/\n<=4:=λn hn=>by
  rcases fT.1 hn with hn|⟨l,hl,hn⟩
  · cases hn
  · rcases hn with hn|hn
    · exact pR (h l hl).1 n hn
    · exact pR (h l hl).2 n hn
 refine ⟨key,BG (m:=[0,1,2,3,4]) (lZ List.nodup_nil) (λx hx=>?_)⟩;have:=key x hx;simp;omega
end Go.Proofs.YtoklbpbmghbhnaeGreat
