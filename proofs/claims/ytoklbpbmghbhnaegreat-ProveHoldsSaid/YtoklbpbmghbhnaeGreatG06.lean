import Derived.Test.YtoklbpbmghbhnaeGreatG05
import Derived.Deep.RegionWith
import Derived.Deep.RegionHeld3
namespace Go.Proofs.YtoklbpbmghbhnaeGreat
set_option maxRecDepth 100000
set_option maxHeartbeats 1000000
open Go.RowKit Go.Deep Go.ChangeShapes Go.WideShapes
def Rm (B:Nat) (X:Nat->Prop) (w:World) (v:Value):Nat->Prop:=λq=>X q\/(B+1<=q/\q<w.heap.size/\some q≠v.ownBlock)
theorem aIR {B:Nat} {X:Nat->Prop} {wr w1 w3:World} {acc:Fo} {v v':Value} {x:Bool×Int} {k:Fo} {a:Value} {g bW:Nat} {xs:List Value} {ob:Obj}
 (h1:wr.ownsRow (B+1) 84 3 v (Fo.len acc) xs) (h2:dN (Rm B X wr v) wr acc xs) (hX:∀q,X q->q<B) (hBl:B<wr.heap.size) (hBc:∃u,wr.cell? ⟨B,2,none⟩=some u)
 (hsz:wr.heap.size<=w1.heap.size) (hb:∀q,X q\/B<=q->q<wr.heap.size->w1.heap[q]?=wr.heap[q]?) (hk:SB (λq=>X q\/(wr.heap.size<=q/\q<w1.heap.size)) w1 k a)
 (hv':v'= .slice (some ⟨g,0,none⟩) (Fo.len acc+1) bW) (ho:w3.ownsRow (B+1) 84 3 v' (Fo.len acc+1) (xs++[.bool x.1,.int .i64 x.2,a])) (hg:(w1.alloc ob).grownBy w3 v.ownBlock)
 (hat:v.ownBlock=some g\/g=w1.heap.size+1) (hlt:g<w3.heap.size):
 (w3.setCell ⟨B,2,none⟩ v').ownsRow (B+1) 84 3 v' (Fo.len (Fo.snoc acc x k)) (xs++[.bool x.1,.int .i64 x.2,a])/\dN (Rm B X (w3.setCell ⟨B,2,none⟩ v') v') (w3.setCell ⟨B,2,none⟩ v') (Fo.snoc acc x k) (xs++[.bool x.1,.int .i64 x.2,a])/\
 (w3.setCell ⟨B,2,none⟩ v').cell? ⟨B,2,none⟩=some v'/\(∀q,q<w1.heap.size->some q≠v.ownBlock->q≠B->(w3.setCell ⟨B,2,none⟩ v').heap[q]?=w1.heap[q]?)/\
 (∀i,i≠2->(w3.setCell ⟨B,2,none⟩ v').cell? ⟨B,i,none⟩=wr.cell? ⟨B,i,none⟩)/\(∀i,(w3.setCell ⟨B,2,none⟩ v').frozen? ⟨B,i,none⟩=wr.frozen? ⟨B,i,none⟩)/\w1.heap.size<(w3.setCell ⟨B,2,none⟩ v').heap.size:=by
 have hs3:=hg.size;simp at hs3;have hBo:some B≠v.ownBlock:=λe=>by have:=(aJ h1 B e.symm).1;omega
 have far:∀q,q<w1.heap.size->some q≠v.ownBlock->q≠B->(w3.setCell ⟨B,2,none⟩ v').heap[q]?=w1.heap[q]?:=λq hq hn hqB=>by rw [Below.heap_setCell _ _ _ _ hqB,hg.block q (by simp;omega) hn,Below.heap_alloc _ _ _ hq]
 have aO0:w3.heap[B]?=wr.heap[B]?:=by rw [hg.block B (by simp;omega) hBo,Below.heap_alloc _ _ _ (by omega),hb B (.inr (Nat.le_refl _)) hBl]
 have aN2:v'.ownBlock=some g:=by rw [hv'];rfl
 have hgB:B+1<=g:=(aJ ho g aN2).1;refine ⟨by rw [JP];exact ownsRow_setCell_below ho (by simp) _,?_,?_,far,?_,?_,by rw [World.size_setCell];omega⟩
 · refine dN.snoc ?_ ?_
   · refine hk.frame (λq hq=>?_) (λq i hq=>World.cell?_of_block (far q ?_ ?_ ?_))
     · rcases hq with hq|⟨q1,q2⟩
       · exact .inl hq
       · refine .inr ⟨by omega,by rw [World.size_setCell];omega,?_⟩;rw [aN2];intro e;simp at e;subst e;rcases hat with e|e
         · have:=(aJ h1 _ e).2;omega
         · omega
     · rcases hq with hq|hq
       · have:=hX q hq;omega
       · exact hq.2
     · intro e;have h3:=aJ h1 _ e.symm;rcases hq with hq|hq
       · have:=hX q hq;omega
       · omega
     · rcases hq with hq|hq
       · have:=hX q hq;omega
       · omega
   · refine dN.frame (λq hq=>?_) (λq i hq=>?_) h2
     · rcases hq with hq|⟨q1,q2,q3⟩
       · exact .inl hq
       · refine .inr ⟨q1,by rw [World.size_setCell];omega,?_⟩;rw [aN2];intro e;simp at e;subst e;rcases hat with e|e
         · exact q3 e.symm
         · omega
     · have hq':q<wr.heap.size/\(X q\/B<=q)/\some q≠v.ownBlock/\q≠B:=by
        rcases hq with hq|⟨q1,q2,q3⟩
        · have:=hX q hq;exact ⟨by omega,.inl hq,λe=>by have:=(aJ h1 _ e.symm).1;omega,by omega⟩
        · exact ⟨q2,.inr (by omega),q3,by omega⟩
       exact World.cell?_of_block ((far q (by omega) hq'.2.2.1 hq'.2.2.2).trans (hb q hq'.2.1 hq'.1))
 · obtain ⟨u,hu⟩:=hBc;exact fK (u:=u) (by rw [World.cell?_of_block aO0];exact hu)
 · intro i hi;rw [aX (by intro e;simp only [Addr.mk.injEq] at e;omega)];exact World.cell?_of_block aO0
 · intro i;rw [World.frozen?_setCell];exact World.frozen?_of_block aO0
section
attribute [local go_sem ↓] Go.wp_at_zero Go.wp_at_succ
theorem aF {w0:World} {n i:Nat} {c:Array Value} {t:TypeId} (h:w0.heap.size=n):(w0.alloc (.cells c t)).cell? ⟨n,i,none⟩=c[i]?:=by subst h;simp
theorem bL {w0:World} {n i:Nat} {c:Array Value} {t:TypeId} (h:w0.heap.size=n):(w0.alloc (.cells c t)).frozen? ⟨n,i,none⟩=false:=by subst h;simp
theorem gK (w:World) (o1 o2:Obj):((w.alloc o1).alloc o2).heap.size=w.heap.size+2:=by rw [World.size_alloc,World.size_alloc]
theorem aI9 {wa w3:World} {ob:Obj} {row:Option Nat} {B i:Nat} {u:Value} (hg:(wa.alloc ob).grownBy w3 row) (hB:B<wa.heap.size) (hn:some B≠row) (h:wa.cell? ⟨B,i,none⟩=some u):w3.cell? ⟨B,i,none⟩=some u:=by rw [hg.cell_far ⟨B,i,none⟩ (by simp;omega) hn,World.cell?_alloc_lt _ _ _ hB];exact h
theorem aBE {wa w3:World} {ob:Obj} {row:Option Nat} {B:Nat} (hg:(wa.alloc ob).grownBy w3 row) (hB:B<wa.heap.size) (hn:some B≠row) (h:∀i,wa.frozen? ⟨B,i,none⟩=false):∀i,w3.frozen? ⟨B,i,none⟩=false:=λi=>by rw [hg.frozen_far ⟨B,i,none⟩ (by simp;omega) hn,World.frozen?_of_block (Below.heap_alloc wa ob B hB)];exact h i
end
theorem YZ {w:World} (base:Nat) (ty:TypeId) (i:TypeInfo) (hi:Tryz.prog.info? 3=some i) (v:Value) (n c:Nat) (xs:List Value) (hown:w.ownsRow base 3 1 v n xs):
 (Builtin.append_ #[22,22] ty #[v,.slice none 0 c]).run Tryz.prog w= .ok v w:=by
 have ht:=Tryz.underlying22;rcases hown.2 with ⟨rfl,rfl⟩|⟨g,bW,cur,rfl,_,_,hnc,_⟩
 · simp [Builtin.append_,run_underlying ht,sizeOf,typeInfo,hi,Builtin.lenOf,Builtin.firstCells]
 · simp [Builtin.append_,run_underlying ht,sizeOf,typeInfo,hi,Builtin.lenOf,Builtin.firstCells,hnc,storeCells]
theorem GK {w:World} (ty:TypeId) (base:Nat) (v:Value) (n:Nat) (xs:List Value) (hown:w.ownsRow base 3 1 v n xs) (l:List Int) (lv:Value) (hN:iK w l lv) (hb:(n+l.length)*8<=140737488355328) (hbase:base<=w.heap.size):
 ∃v' w',(Builtin.append_ #[22,22] ty #[v,lv]).run Tryz.prog w= .ok v' w'/\w'.ownsRow base 3 1 v' (n+l.length) (xs++bO l)/\w.grownBy w' v.ownBlock/\(v'.ownBlock=v.ownBlock\/v'.ownBlock=some w.heap.size):=by
 obtain ⟨i3,hi3,hy0,hy1,hy2⟩:=info_parts Tryz.info3;obtain ⟨a,c,b,o,rfl,ha,hlc,hcm,hF⟩:=hN;cases a with
 |none=>
  have h0:l=[]:=by
   cases l with
   |nil=>rfl
   |cons _ _=>have:=ha (by simp);cases this
  subst h0;exact ⟨v,w,YZ base ty i3 hi3 v n c xs hown,by simpa using hown,⟨rfl,rfl,rfl,Nat.le_refl _,λ_ _ _=>rfl⟩,.inl rfl⟩
 |some ad=>
  obtain ⟨v',w',hr,h2,h3,_,h5⟩:=run_append_own_at (P:=Tryz.prog) w base 22 ty 3 i3 (.int .i64 0) 1 8 Tryz.underlying22 hi3 hy0 hy1 hy2 rfl (by decide) v n xs hown ad l.length c (bO l) (by simp) (λj u hu=>by
   have hj:j<l.length:=by have:=(List.getElem?_eq_some_iff.1 hu).1;simpa using this
   have hae:ad=⟨b,o,none⟩:=by have:=ha (by omega);simpa using this
   have hc:=hF j hj;have e:u= .int .i64 (l.getD j 0):=by simp [List.getD_eq_getElem?_getD,hj] at hu ⊢;exact hu.symm
   rw [hae,add_plain,e];exact hc) (ints_oneCell _ _) (by unfold maxLen;omega) hb hbase
  exact ⟨v',w',hr,h2,h3,h5⟩
theorem LY {w:World} {o:Oper} {a:Act} {K:Act->World->Prop} {Q:Exit->Act->World->Prop} (s x:Operand)
 (ho:o.op= .call {callee:= .builtin .append,args:=#[s,x],argTypes:=#[22,22]}) (base:Nat) (v:Value) (n:Nat) (xs:List Value) (hs:a.eval s=v) (hown:w.ownsRow base 3 1 v n xs) (l:List Int) (lv:Value) (hx:a.eval x=lv) (hN:iK w l lv) (hb:(n+l.length)*8<=140737488355328) (hbase:base<=w.heap.size)
 (h:∀v' w',w'.ownsRow base 3 1 v' (n+l.length) (xs++bO l)->w.grownBy w' v.ownBlock->(v'.ownBlock=v.ownBlock\/v'.ownBlock=some w.heap.size)->K (a.put o.dst v') w'):o.wp Tryz.prog a w K Q:=by
 obtain ⟨v',w',hr,h2,h3,h4⟩:=GK o.type base v n xs hown l lv hN hb hbase;unfold Oper.wp execOp;simp only [ho,resolve,invoke,builtin,Sem.run_bind,Sem.run_pure,Result.andThen_ok,List.map_toArray,List.map_cons,List.map_nil,hs,hx,hr];exact h v' w' h2 h3 h4
theorem gT {w:World} {ops:Array Oper} {o:Oper} {a:Act} {K:Act->World->Prop} {Q:Exit->Act->World->Prop} {E:Prop} (hgd:o.guard=none) (s x:Operand)
 (ho:o.op= .call {callee:= .builtin .append,args:=#[s,x],argTypes:=#[22,22]}) (base:Nat) (v:Value) (n:Nat) (xs:List Value) (hs:a.eval s=v) (hown:w.ownsRow base 3 1 v n xs) (l:List Int) (lv:Value) (hx:a.eval x=lv) (hN:iK w l lv) (hb:(n+l.length)*8<=140737488355328) (hbase:base<=w.heap.size)
 (h:∀v' w',w'.ownsRow base 3 1 v' (n+l.length) (xs++bO l)->w.grownBy w' v.ownBlock->(v'.ownBlock=v.ownBlock\/v'.ownBlock=some w.heap.size)->K (a.put o.dst v') w'):
 if Region.wanted o (yielded ops a.tmps)=true then Oper.wp Tryz.prog o a w K Q else E:=by
 have hw:Region.wanted o (yielded ops a.tmps)=true:=by simp [Region.wanted,hgd]
 rw [if_pos hw];exact LY s x ho base v n xs hs hown l lv hx hN hb hbase h
theorem EN {w:World} {base e:Nat} (h:w.heap[e]?=some (.cells #[] 3)) (hb:base<=e):w.ownsRow base 3 1 (.slice (some ⟨e,0,none⟩) 0 0) 0 []:=
 ⟨rfl,.inr ⟨e,0,#[],rfl,hb,h,Nat.le_refl _,Nat.zero_le _,rfl,rfl⟩⟩
theorem R6 {w:World} {e:Nat} {n:Int} (h:w.heap[e]?=some (.cells #[.int .i64 n] 3)):iK w [n] (.slice (some ⟨e,0,none⟩) 1 1):=by
 refine ⟨_,1,e,0,rfl,λ_=>rfl,Nat.le_refl _,by unfold maxLen;omega,λi hi=>?_⟩;have:i=0:=by simpa using hi
 subst this;simp [World.cell?,h]
section
attribute [local go_sem ↓] Go.wp_at_zero Go.wp_at_succ
theorem dR {w:World} {l:List Int} {v:Value} (h:iK w l v):∃z1 z3,v= .slice z1 l.length z3:=by obtain ⟨_,_,_,_,rfl,_⟩:=h;exact ⟨_,_,rfl⟩
theorem I9 {wr w1 wA:World} {v v':Value} (hb:Below wr.heap.size wr w1) (hg:w1.grownBy wA v.ownBlock) (hat:v'.ownBlock=v.ownBlock\/v'.ownBlock=some w1.heap.size) (hv:∀g,v.ownBlock=some g->wr.heap.size<=g):
 Below wr.heap.size wr wA/\(∀g,v'.ownBlock=some g->wr.heap.size<=g)/\wr.heap.size<=wA.heap.size:=by
 have h1:=hb.size;have h2:=hg.size;refine ⟨hb.grown hg h1 hv,λg hgg=>?_,by omega⟩;rcases hat with e|e
 · exact hv g (by rw [←e];exact hgg)
 · rw [e] at hgg;simp at hgg;omega
theorem DU {wr w1 wA:World} {v:Value} (hb:Below wr.heap.size wr w1) (hg:w1.grownBy wA v.ownBlock) (hv:∀g,v.ownBlock=some g->wr.heap.size<=g):Below wr.heap.size wr wA:=hb.grown hg hb.size hv
def P6 (x:Bool×Int) (k:Fo):Prop:=∀(a:Value) (l:List Int) (v:Value) (w:World) (T:List Int),T=bG x k l->cO w k a->iK w l v->T.length*8<=140737488355328->
 Calls Tryz.prog 86 #[v,.agg #[.bool x.1,.int .i64 x.2,a]] w λe w'=>∃v',e= .returned v'/\iK w' T v'/\Below w.heap.size w w'
theorem NU (x:Bool×Int) (k:Fo):P6 x k:=by
 refine Fo.ind1 (p:=P6) ?_ x k;clear x k;intro x k ih a l v w T hT hS hN hlen;obtain ⟨xv,xn⟩:=x;have HI:=aB ih;have HT:=aB hT;have HN:=aB hN;obtain ⟨ad,c,b,o,rfl,had,hlc,hcm,hF⟩:=hS;have HF:=aB hF;unfold maxLen at hcm;clear ih hF hT;cases xv
 · have Htt:Hid (bG (false,xn) k l=eT k l):=rfl;obtain ⟨za,zc,rfl⟩:=dR hN;clear hN;go_enter Tryz.func86,Tryz.ntmps86
   go_wp2_with fail
   go_loopw [0,15] (λvl i wr=>∃(j:Nat) (L:List Int) (z1:Option Addr) (z3:Nat),j<=Fo.len k/\i= .int .i64 j/\vl= .slice z1 L.length z3/\L=ML k l j/\Below w.heap.size w wr/\iK wr L (.slice z1 L.length z3)) (λ_ i _=>Fo.len k - (intOf i).toNat)
   case atStart=>exact ⟨0,l,za,zc,Nat.zero_le _,rfl,rfl,rfl,aD _ _,HN.out.alloc _⟩
   case round=>
    obtain ⟨j,L,z1,z3,hj,rfl,rfl,hL,hBr,hor⟩:=hrel;have HL:=aB hL;have Hor:=aB hor;clear hL hor;by_cases hlt:j<Fo.len k
    · have hlt':(j:Int)<(Fo.len k:Int):=by omega
      obtain ⟨⟨⟨yv,yn⟩,yk⟩,hy⟩:∃y,k.list[j]?=some y:=⟨k.list[j]'(by rw [Fo.len_list];exact hlt),by simp⟩;obtain ⟨c0,c1,bB,c2,kW⟩:=(HF.out.below hBr).at hy;have UD:=aB kW;obtain ⟨ya,yc,yb,yo,rfl,-,-,-,-⟩:=kW;have ha:ad=some ⟨b,o,none⟩:=had (by omega);subst ha;have Hy:=aB hy;obtain ⟨Tn,hTn⟩:∃Tn,Tn=bG (yv,yn) yk L:=⟨_,rfl⟩;have HTn:=aB hTn;have Hbd:Hid (Tn.length*8<=140737488355328):=by
       have h1:=yO (j+1) k l;have h2:Tn=ML k l (j+1):=by rw [hTn,wR Hy.out,HL.out]
       have h3:T=eT k l:=HT.out.trans Htt.out;rw [Hid,h2,ML];rw [h3] at hlen;omega
      clear hy had hTn
      go_wp2_with fail
      refine (HI.out ((yv,yn),yk) (List.mem_of_getElem? Hy.out) _ L _ _ Tn HTn.out (UD.out.alloc _) (Hor.out.alloc _) Hbd.out).mono ?_;rintro e w2 ⟨vl',rfl,ho2,hb2⟩;obtain ⟨y1,y3,rfl⟩:=dR ho2;have Ho2:=aB ho2;have hB2:=aC hBr (aW hb2);clear ho2 hb2
      go_wp2_with fail
      go_roundw
      case rel=>exact ⟨j+1,Tn,y1,y3,by omega,by go_num,rfl,by rw [HTn.out,wR Hy.out,HL.out],hB2,Ho2.out⟩
      case measure=>simp [intOf];omega
    · have bP:Hid (T=L):=by
       have e:j=Fo.len k:=by omega
       rw [Hid,HT.out,Htt.out,HL.out,e,U0]
      clear had
      go_wp2_with fail
      go_ret;have e:=bP.out;subst e;exact ⟨_,rfl,Hor.out,hBr⟩
 · have Htt:Hid (bG (true,xn) k l=if j6 l xn then l else l++[xn]):=rfl;obtain ⟨la,lc,lb,lo,rfl,hla,aTE,aOF,hlF⟩:=hN;have HlF:=aB hlF;unfold maxLen at aOF;clear hlF;go_enter Tryz.func86,Tryz.ntmps86
   go_wp2_with fail
   generalize fA:w.alloc (.cells #[.bool true,.int .i64 xn,.slice ad (Fo.len k) c] 84)=wa;have d1:wa.cell? ⟨w.heap.size,1,none⟩=some (.int .i64 xn):=by rw [←fA];simp
   have xV:Hid (Below w.heap.size w wa):=by rw [←fA];exact aD _ _
   have hsa:w.heap.size<wa.heap.size:=by rw [←fA];simp
   clear fA
   go_loopw [26] (λi wr=>∃j:Nat,j<=l.length/\i= .int .i64 j/\(∀q,q<j->l.getD q 0≠xn)/\wr=wa) (λi _=>l.length - (intOf i).toNat)
   case atStart=>exact ⟨0,Nat.zero_le _,rfl,λq hq=>by omega,rfl⟩
   case round=>
    obtain ⟨j,hj,rfl,hno,rfl⟩:=hrel;have Hno:=aB hno;clear hno;by_cases hlt:j<l.length
    · have hlt':(j:Int)<(l.length:Int):=by omega
      have hc:=aA xV.out _ _ (HlF.out j hlt);have QW:Hid (l.getD j 0∈l):=by rw [Hid,List.getD_eq_getElem?_getD,List.getElem?_eq_getElem hlt];simp
      have ha:la=some ⟨lb,lo,none⟩:=hla (by omega);subst ha;have uD:Hid (l.getD j 0≠xn->∀q,q<j+1->l.getD q 0≠xn):=λh q hq=>by
       by_cases e:q=j
       · rw [e];exact h
       · exact Hno.out q (by omega)
      generalize l.getD j 0=z at*;by_cases he:z=xn
      · have xJ:(z==xn)=true:=by simp [he]
        have bP:Hid (T=l):=by rw [Hid,HT.out,Htt.out,if_pos];rw [j6,←he];exact decide_eq_true QW.out
        clear he hla
        go_wp2_with fail
        go_ret;have e:=bP.out;subst e;exact ⟨_,rfl,HN.out.below xV.out,xV.out⟩
      · have xJ:(z==xn)=false:=by simp [he]
        have Hn:=aB (uD.out he);clear he hla
        go_wp2_with fail
        go_roundw
        case rel=>exact ⟨j+1,by omega,by go_num,Hn.out,trivial⟩
        case measure=>simp [intOf];omega
    · have bP:Hid (T=l++[xn]):=by
       have:xn∉l:=λh=>by obtain ⟨q,hq,e⟩:=List.mem_iff_getElem.1 h;exact Hno.out q (by omega) (by rw [List.getD_eq_getElem?_getD,List.getElem?_eq_getElem hq];exact e)
       rw [Hid,HT.out,Htt.out,if_neg];rw [j6,decide_eq_false this];simp
      clear hla
      go_wp2_with fail
      have hTl:T.length=l.length+1:=by rw [bP.out];simp
      have hb0:(0+l.length)*8<=140737488355328:=by omega
      have hb1:(0+l.length+[xn].length)*8<=140737488355328:=by simp;omega
      clear hTl;have hsw:w.heap.size<=wr.heap.size:=by omega
      have A1:Hid ((wr.alloc (.cells #[] 3)).drew.ownsRow w.heap.size 3 1 (.slice (some ⟨wr.heap.size,0,none⟩) 0 0) 0 []):=EN (heap_alloc_new wr _) hsw;have A2:Hid (((wr.alloc (.cells #[] 3)).alloc (.cells #[.int .i64 xn] 3)).drew.ownsRow w.heap.size 3 1 (.slice (some ⟨wr.heap.size,0,none⟩) 0 0) 0 []):=EN ((Below.heap_alloc _ _ _ (by simp)).trans (heap_alloc_new wr _)) hsw;have A3:Hid (((wr.alloc (.cells #[.int .i64 xn] 3)).alloc (.cells #[] 3)).drew.ownsRow w.heap.size 3 1 (.slice (some ⟨wr.heap.size+1,0,none⟩) 0 0) 0 []):=EN (by have:=heap_alloc_new (wr.alloc (.cells #[.int .i64 xn] 3)) (.cells #[] 3);rw [World.size_alloc] at this;exact this) (by omega);have N1:Hid (iK (wr.alloc (.cells #[] 3)).drew l (.slice la l.length lc)):=((HN.out.below xV.out).alloc _).drew;have N2:Hid (iK ((wr.alloc (.cells #[] 3)).alloc (.cells #[.int .i64 xn] 3)).drew l (.slice la l.length lc)):=(((HN.out.below xV.out).alloc _).alloc _).drew;have N3:Hid (iK ((wr.alloc (.cells #[.int .i64 xn] 3)).alloc (.cells #[] 3)).drew l (.slice la l.length lc)):=(((HN.out.below xV.out).alloc _).alloc _).drew;have B1:Hid (Below wr.heap.size wr (wr.alloc (.cells #[] 3)).drew):=(aD _ _).drew;have B2:Hid (Below wr.heap.size wr ((wr.alloc (.cells #[] 3)).alloc (.cells #[.int .i64 xn] 3)).drew):=((aD _ _).alloc (by simp) _).drew;have B3:Hid (Below wr.heap.size wr ((wr.alloc (.cells #[.int .i64 xn] 3)).alloc (.cells #[] 3)).drew):=((aD _ _).alloc (by simp) _).drew
      have M2:Hid (∀wA:World,((wr.alloc (.cells #[] 3)).alloc (.cells #[.int .i64 xn] 3)).drew.grownBy wA (some wr.heap.size)->iK wA [xn] (.slice (some ⟨wr.heap.size+1,0,none⟩) 1 1)):=λwA hg=>R6 (by
       rw [hg.block (wr.heap.size+1) (by simp) (by simp)];have:=heap_alloc_new (wr.alloc (.cells #[] 3)) (.cells #[.int .i64 xn] 3);rw [World.size_alloc] at this;exact this)
      have M3:Hid (∀wA:World,((wr.alloc (.cells #[.int .i64 xn] 3)).alloc (.cells #[] 3)).drew.grownBy wA (some (wr.heap.size+1))->iK wA [xn] (.slice (some ⟨wr.heap.size,0,none⟩) 1 1)):=λwA hg=>R6 (by
       rw [hg.block wr.heap.size (by show wr.heap.size<((wr.alloc _).alloc _).heap.size;rw [gK];omega) (by simp)];exact (Below.heap_alloc _ _ _ (by simp)).trans (heap_alloc_new wr _))
      go_region_held3 (λw'=>w'.cell? ⟨w.heap.size,1,none⟩=some (.int .i64 xn))
       (first
         |exact aA BB _ _ d1
         |exact aA BA _ _ d1
         |go_keep)
       (first
         |(refine gT (by rfl) _ _ (by rfl) w.heap.size (.slice (some ⟨wr.heap.size,0,none⟩) 0 0) 0 [] (by rfl) A1.out l (.slice la l.length lc) (by rfl) N1.out hb0 ?hb ?_;(case hb=>simp;omega);intro vA wA hoA hgA QP;obtain ⟨BA,VA,SA⟩:=I9 B1.out hgA QP (by simp [Value.ownBlock]);have Q1:Hid True:=trivial)
         |(refine gT (by rfl) _ _ (by rfl) w.heap.size (.slice (some ⟨wr.heap.size,0,none⟩) 0 0) 0 [] (by rfl) A2.out l (.slice la l.length lc) (by rfl) N2.out hb0 ?hb ?_;(case hb=>simp;omega);intro vA wA hoA hgA QP;obtain ⟨BA,VA,SA⟩:=I9 B2.out hgA QP (by simp [Value.ownBlock]);have Q2:=aB (M2.out wA hgA))
         |(refine gT (by rfl) _ _ (by rfl) w.heap.size (.slice (some ⟨wr.heap.size+1,0,none⟩) 0 0) 0 [] (by rfl) A3.out l (.slice la l.length lc) (by rfl) N3.out hb0 ?hb ?_;(case hb=>simp;omega);intro vA wA hoA hgA QP;obtain ⟨BA,VA,SA⟩:=I9 B3.out hgA QP (by simp [Value.ownBlock]);have Q3:=aB (M3.out wA hgA))
         |(refine gT (by rfl) _ _ (by rfl) w.heap.size vA (0+l.length) ([]++bO l) (by rfl) ?own [xn] (.slice (some ⟨wA.heap.size,0,none⟩) 1 1) (by rfl) ?nin hb1 ?hb ?_;(case own=>exact bA hoA (λg hg=>Below.heap_alloc _ _ _ (aJ hoA g hg).2));(case nin=>exact R6 (heap_alloc_new wA _));(case hb=>simp;omega);intro vB wB hoB hgB aOP;have BB:=DU ((BA.alloc BA.size _)) hgB VA)
         |(refine gT (by rfl) _ _ (by rfl) w.heap.size vA (0+l.length) ([]++bO l) (by rfl) hoA [xn] _ (by rfl) Q2.out hb1 ?hb ?_;(case hb=>omega);intro vB wB hoB hgB aOP;have BB:=DU BA hgB VA)
         |(refine gT (by rfl) _ _ (by rfl) w.heap.size vA (0+l.length) ([]++bO l) (by rfl) hoA [xn] _ (by rfl) Q3.out hb1 ?hb ?_;(case hb=>omega);intro vB wB hoB hgB aOP;have BB:=DU BA hgB VA))
      all_goals
       have HoB:=aB (mJ (p:=l++[xn]) (by simpa using hoB));have HBB:=aB (aC xV.out BB);obtain ⟨y1,y3,rfl⟩:=dR HoB.out;clear hoA hoB hgA hgB QP aOP BA BB VA SA
       go_wp2_with fail
       go_ret;have e:=bP.out;subst e;exact ⟨_,rfl,HoB.out,HBB.out⟩
end
section
attribute [local go_sem ↓] Go.wp_at_zero Go.wp_at_succ
theorem RN (v:Int):∀F:Fo,jC v F<=Fo.sizesR F
 | .nil=>Nat.le_refl _
 | .node _ _ x k r=>by have h1:=RN v k;have h2:=RN v r;rw [jC,Fo.sizesR];split<;>omega
theorem aCO (v:Int) (t:Tm):fO v t<=eO t:=by have:=RN v t.2;unfold fO eO aM;split<;>omega
def UE (v:Int) (x:Bool×Int) (k:Fo) (j:Nat):Nat:=(if x.1=true/\x.2=v then 1 else 0)+((k.list.take j).map (fO v)).sum
theorem aEJ (v:Int) (x:Bool×Int) (k:Fo):UE v x k 0=if x.1=true/\x.2=v then 1 else 0:=by simp [UE]
theorem aEK {v:Int} {x:Bool×Int} {k:Fo} {j:Nat} {t:Tm} (h:k.list[j]?=some t):UE v x k (j+1)=UE v x k j+fO v t:=by unfold UE;rw [List.take_add_one,h];simp;omega
theorem aIE (v:Int) (x:Bool×Int) (k:Fo):UE v x k (Fo.len k)=fO v (x,k):=by show _=(if x.1=true/\x.2=v then 1 else 0)+jC v k;unfold UE;rw [←Fo.len_list,List.take_length,OB]
theorem aDA:∀{k l:Fo} {j:Nat} {t u:Tm},(∀q,q<j->∀t' u':Tm,k.list[q]?=some t'->l.list[q]?=some u'->cB t'.1 t'.2 u'.1 u'.2=true)->k.list[j]?=some t->l.list[j]?=some u->cB t.1 t.2 u.1 u.2=false->xP k l=dU t u
 | .nil,_,_,_,_,_,h,_,_=>by simp [Fo.list] at h
 | .node _ _ _ _ _,.nil,_,_,_,_,_,h,_=>by simp [Fo.list] at h
 | .node _ _ x k r,.node _ _ y l q,0,t,u,_,h1,h2,h3=>by simp only [Fo.list,List.getElem?_cons_zero,Option.some.injEq] at h1 h2;subst h1 h2;rw [xP,if_neg (by rw [h3];decide)];rfl
 | .node _ _ x k r,.node _ _ y l q,j+1,t,u,ha,h1,h2,h3=>by rw [xP,if_pos (ha 0 (by omega) (x,k) (y,l) rfl rfl)];exact aDA (j:=j) (λi hi t' u' e1 e2=>ha (i+1) (by omega) t' u' (by simpa [Fo.list] using e1) (by simpa [Fo.list] using e2)) (by simpa [Fo.list] using h1) (by simpa [Fo.list] using h2) h3
theorem WO:∀{k l:Fo},(∀q:Nat,∀t' u':Tm,k.list[q]?=some t'->l.list[q]?=some u'->cB t'.1 t'.2 u'.1 u'.2=true)->xP k l=false
 | .nil,_,_=>rfl
 | .node _ _ _ _ _,.nil,_=>rfl
 | .node _ _ x k r,.node _ _ y l q,ha=>by rw [xP,if_pos (ha 0 (x,k) (y,l) rfl rfl)];exact WO (λi t' u' e1 e2=>ha (i+1) t' u' (by simpa [Fo.list] using e1) (by simpa [Fo.list] using e2))
theorem aPY (p q:Nat):((p:Int)!=(q:Int))=decide (p≠q):=by
 by_cases h:p=q
 · subst h;simp
 · rw [decide_eq_true h,bne_iff_ne];omega
theorem aNF {n:Int} {k:Fo} {b:Tm} (h:yE ((false,n),k) b=false):dU ((false,n),k) b=false:=by unfold dU hdT;simp [h]
theorem aKE {n:Int} {k:Fo} {y:Bool×Int} {l:Fo} (h:yE ((false,n),k) (y,l)=true) (hs:aM k≠aM l):dU ((false,n),k) (y,l)=decide (aM l<aM k):=by unfold dU hdT;simp only;rw [if_neg (by decide),if_neg (by rw [h];decide),if_pos hs]
theorem XP {n:Int} {k:Fo} {y:Bool×Int} {l:Fo} (h:yE ((false,n),k) (y,l)=true) (hs:aM k=aM l) (hy:(y.1||decide (n<y.2))=true):dU ((false,n),k) (y,l)=false:=by unfold dU hdT;simp only;rw [if_neg (by decide),if_neg (by rw [h];decide),if_neg (by simp [hs]),if_pos hy]
theorem aND {n:Int} {k:Fo} {y:Bool×Int} {l:Fo} (h:yE ((false,n),k) (y,l)=true) (hs:aM k=aM l) (hy:(y.1||decide (n<y.2))=false) (hn:y.2<n):dU ((false,n),k) (y,l)=true:=by unfold dU hdT;simp only;rw [if_neg (by decide),if_neg (by rw [h];decide),if_neg (by simp [hs]),if_neg (by rw [hy];decide),if_pos hn]
theorem aKF {n:Int} {k:Fo} {y:Bool×Int} {l:Fo} (h:yE ((false,n),k) (y,l)=true) (hs:aM k=aM l) (hy:(y.1||decide (n<y.2))=false) (hn:¬y.2<n):dU ((false,n),k) (y,l)=xP k l:=by unfold dU hdT;simp only;rw [if_neg (by decide),if_neg (by rw [h];decide),if_neg (by simp [hs]),if_neg (by rw [hy];decide),if_neg hn]
def oK (a b:Tm):Int:=if cB a.1 a.2 b.1 b.2 then 2 else if dU a b then 3 else if dU b a then 1 else 0
end
abbrev Lt:=Bool×Tm×Tm
abbrev Cl:=List Lt
def vG (a b:Lt):Bool:=a.1==b.1&&cB a.2.1.1 a.2.1.2 b.2.1.1 b.2.1.2&&cB a.2.2.1 a.2.2.2 b.2.2.1 b.2.2.2
def dH:Cl->Cl->Bool
 |[],[]=>true
 |a::c,b::d=>vG a b&&dH c d
 |_,_=>false
theorem OP:∀{c d:Cl},c.length≠d.length->dH c d=false
 |[],[],h=>absurd rfl h
 |[],_::_,_=>rfl
 |_::_,[],_=>rfl
 |a::c,b::d,h=>by rw [dH,OP (c:=c) (d:=d) (by simpa using h),Bool.and_false]
theorem VU:∀{c d:Cl} {j:Nat} {a b:Lt},c[j]?=some a->d[j]?=some b->vG a b=false->dH c d=false
 |[],_,_,_,_,h,_,_=>by simp at h
 |_::_,[],_,_,_,_,h,_=>by simp at h
 |x::c,y::d,0,a,b,ha,hb,h=>by simp only [List.getElem?_cons_zero,Option.some.injEq] at ha hb;subst ha;subst hb;rw [dH,h,Bool.false_and]
 |x::c,y::d,j+1,a,b,ha,hb,h=>by rw [dH,VU (c:=c) (d:=d) (j:=j) (by simpa using ha) (by simpa using hb) h,Bool.and_false]
theorem OO:∀{c d:Cl},c.length=d.length->(∀i,i<c.length->∀a b,c[i]?=some a->d[i]?=some b->vG a b=true)->dH c d=true
 |[],[],_,_=>rfl
 |[],_::_,h,_=>by simp at h
 |_::_,[],h,_=>by simp at h
 |x::c,y::d,hl,h=>by rw [dH,h 0 (by simp) x y (by simp) (by simp),OO (c:=c) (d:=d) (by simpa using hl) (λi hi a b ha hb=>h (i+1) (by simpa using hi) a b (by simpa using ha) (by simpa using hb))];rfl
def nA (l:Lt) (v:List Int):List Int:=bG l.2.2.1 l.2.2.2 (bG l.2.1.1 l.2.1.2 v)
def aP (c:Cl) (v:List Int):List Int:=c.foldl (λv l=>nA l v) v
theorem tL {c:Cl} {j:Nat} {l:Lt} {v:List Int} (h:c[j]?=some l):aP (c.take (j+1)) v=nA l (aP (c.take j) v):=by rw [List.take_add_one,h];simp [aP,List.foldl_append]
def jG (s:List Int) (l:Lt):Int:=if aU s l.2.1.1 l.2.1.2≠0 then aU s l.2.1.1 l.2.1.2 else aU s l.2.2.1 l.2.2.2
def nQ (s:List Int):Cl->Int
 |[]=>0
 |l::c=>if jG s l≠0 then jG s l else nQ s c
def aN (s:List Int) (c:Cl):Int:=if 4<c.length then 5 else nQ s c
theorem pW {s:List Int}:∀{c:Cl} {j:Nat} {l:Lt},(∀i,i<j->∀a,c[i]?=some a->jG s a=0)->c[j]?=some l->jG s l≠0->nQ s c=jG s l
 |[],_,_,_,h,_=>by simp at h
 |x::c,0,l,_,h,hn=>by simp only [List.getElem?_cons_zero,Option.some.injEq] at h;subst h;rw [nQ,if_pos hn]
 |x::c,j+1,l,h0,h,hn=>by rw [nQ,if_neg (by simp [h0 0 (by omega) x (by simp)])];exact pW (j:=j) (λi hi a ha=>h0 (i+1) (by omega) a (by simpa using ha)) (by simpa using h) hn
theorem qO {s:List Int}:∀{c:Cl},nQ s c=0↔∀l∈c,jG s l=0
 |[]=>by simp [nQ]
 |x::c=>by
  rw [nQ];by_cases h:jG s x=0
  · rw [if_neg (by simp [h]),qO (c:=c)];simp [h]
  · rw [if_pos h];simp [h]
theorem tJ {s:List Int} {l:Lt}:jG s l=0↔aU s l.2.1.1 l.2.1.2=0/\aU s l.2.2.1 l.2.2.2=0:=by
 unfold jG;by_cases h:aU s l.2.1.1 l.2.1.2=0
 · rw [if_neg (by simp [h])];simp [h]
 · rw [if_pos h];simp [h]
theorem nK {s:List Int} {c:Cl}:aN s c=0↔c.length<=4/\∀l∈c,aU s l.2.1.1 l.2.1.2=0/\aU s l.2.2.1 l.2.2.2=0:=by
 unfold aN;by_cases h:4<c.length
 · rw [if_pos h];constructor
   · intro e;simp at e
   · intro e;omega
 · rw [if_neg h,qO];constructor
   · exact λe=>⟨by omega,λl hl=>tJ.1 (e l hl)⟩
   · exact λe l hl=>tJ.2 (e.2 l hl)
def bK (f:Tm->Tm) (l:Lt):Lt:=(l.1,f l.2.1,f l.2.2)
def kF (l:Lt):Lt:=if dU l.2.2 l.2.1 then (l.1,l.2.2,l.2.1) else l
def gI (o:Option Cl) (l:Lt):Option Cl:=o.bind λout=>if cB l.2.1.1 l.2.1.2 l.2.2.1 l.2.2.2 then (if l.1 then some out else none) else some (out++[kF l])
def gV (c:Cl):Option Cl:=c.foldl gI (some [])
def dW (a b:Lt):Bool:=(cB a.2.1.1 a.2.1.2 b.2.1.1 b.2.1.2&&cB a.2.2.1 a.2.2.2 b.2.2.1 b.2.2.2)||(cB a.2.1.1 a.2.1.2 b.2.2.1 b.2.2.2&&cB a.2.2.1 a.2.2.2 b.2.1.1 b.2.1.2)
def kG (o:Option Cl) (l:Lt):Option Cl:=o.bind λout=>match out.find? (λf=>dW f l) with
 |none=>some (out++[l])
 |some f=>if f.1=l.1 then some out else none
def dY (c:Cl):Option Cl:=c.foldl kG (some [])
theorem EU {f:Option Cl->Lt->Option Cl} (hf:∀l,f none l=none):∀c:Cl,c.foldl f none=none
 |[]=>rfl
 |l::c=>by rw [List.foldl_cons,hf,EU hf c]
theorem PI {f:Option Cl->Lt->Option Cl} {c:Cl} {j:Nat} {l:Lt} {o:Option Cl} (h:c[j]?=some l):(c.take (j+1)).foldl f o=f ((c.take j).foldl f o) l:=by rw [List.take_add_one,h];simp [List.foldl_append]
theorem PK {f:Option Cl->Lt->Option Cl} (hf:∀l,f none l=none) {c:Cl} {j:Nat} {o:Option Cl} (h:(c.take j).foldl f o=none):c.foldl f o=none:=by rw [←List.take_append_drop j c,List.foldl_append,h,EU hf]
theorem aEF {c:Cl} {j:Nat} {l:Lt} (h:c[j]?=some l):gV (c.take (j+1))=gI (gV (c.take j)) l:=PI h
theorem aEG {c:Cl} {j:Nat} (h:gV (c.take j)=none):gV c=none:=PK (λ_=>rfl) h
theorem xE {c:Cl} {j:Nat} {l:Lt} (h:c[j]?=some l):dY (c.take (j+1))=kG (dY (c.take j)) l:=PI h
theorem PN {c:Cl} {j:Nat} (h:dY (c.take j)=none):dY c=none:=PK (λ_=>rfl) h
def kP (vs:List Int):Sb:=vs.mapIdx λi v=>(v,vr i)
def oV (l:Lt):Bool:=decide (12<aM l.2.1.2)||decide (12<aM l.2.2.2)
def xY (d:Cl):Cl:=d.map (bK (aH (aV (kP (aP d [])))))
def vH (d e:Cl):Int×Cl:=if 4<e.length\/5<(aP d []).length\/e.any oV=true then (4,[]) else (0,e)
def bS (c:Cl):Int×Cl:=match gV c with
 |none=>(6,[])
 |some d=>match dY (xY d) with
  |none=>(6,[])
  |some e=>vH d e
structure GL (l:Lt):Prop where
 gl:Gd l.2.1
 gr:Gd l.2.2
 fl:∀m,bU m l.2.1->m<=4
 fr:∀m,bU m l.2.2->m<=4
 sl:aM l.2.1.2<=12
 sr:aM l.2.2.2<=12
def GC (c:Cl):Prop:=c.length<=4/\∀l∈c,GL l
theorem GL.flip {l:Lt} (h:GL l):GL (kF l):=by
 unfold kF;split
 · exact ⟨h.gr,h.gl,h.fr,h.fl,h.sr,h.sl⟩
 · exact h
theorem aEH {o:Option Cl} {l:Lt} {d:Cl} {p:Lt->Prop} (h:gI o l=some d) (h0:∀e,o=some e->∀x∈e,p x) (h1:p (kF l)):∀x∈d,p x:=by
 cases o with
 |none=>simp [gI] at h
 |some e=>
  simp only [gI,Option.bind_some] at h;split at h
  · split at h
    · obtain rfl:=Option.some.inj h;exact h0 _ rfl
    · cases h
  · cases h;intro x hx;rcases List.mem_append.1 hx with hx|hx
    · exact h0 e rfl x hx
    · simp at hx;rw [hx];exact h1
theorem vN {p:Lt->Prop}:∀{c:Cl} {o:Option Cl} {d:Cl},c.foldl gI o=some d->(∀e,o=some e->∀x∈e,p x)->(∀l∈c,p (kF l))->∀x∈d,p x
 |[],o,d,h,h0,_=>h0 d h
 |l::c,o,d,h,h0,h1=>vN (c:=c) (o:=gI o l) h (λe he=>aEH he h0 (h1 l (by simp))) (λx hx=>h1 x (by simp [hx]))
theorem aEI {o:Option Cl} {l:Lt} {d:Cl} {n:Nat} (h:gI o l=some d) (h0:∀e,o=some e->e.length<=n):d.length<=n+1:=by
 cases o with
 |none=>simp [gI] at h
 |some e=>
  have:=h0 e rfl;simp only [gI,Option.bind_some] at h;split at h
  · split at h
    · cases h;omega
    · cases h
  · cases h;simp;omega
theorem JD:∀{c:Cl} {o:Option Cl} {d:Cl} {n:Nat},c.foldl gI o=some d->(∀e,o=some e->e.length<=n)->d.length<=n+c.length
 |[],o,d,n,h,h0=>by have:=h0 d h;simpa using this
 |l::c,o,d,n,h,h0=>by have:=JD (c:=c) (o:=gI o l) (n:=n+1) h (λe he=>aEI he h0);simp;omega
theorem aLB {c d:Cl} (h:gV c=some d) (hc:GC c):GC d:=by refine ⟨?_,vN (p:=GL) h (λe he=>by cases he;simp) (λl hl=>(hc.2 l hl).flip)⟩;have:=JD (n:=0) h (λe he=>by cases he;simp);have:=hc.1;omega
theorem aF1 {o:Option Cl} {l:Lt} {d:Cl} {p:Lt->Prop} (h:kG o l=some d) (h0:∀e,o=some e->∀x∈e,p x) (h1:p l):∀x∈d,p x:=by
 cases o with
 |none=>simp [kG] at h
 |some e=>
  simp only [kG,Option.bind_some] at h;split at h
  · cases h;intro x hx;rcases List.mem_append.1 hx with hx|hx
    · exact h0 e rfl x hx
    · simp at hx;rw [hx];exact h1
  · split at h
    · obtain rfl:=Option.some.inj h;exact h0 _ rfl
    · cases h
theorem BO {p:Lt->Prop}:∀{c:Cl} {o:Option Cl} {d:Cl},c.foldl kG o=some d->(∀e,o=some e->∀x∈e,p x)->(∀l∈c,p l)->∀x∈d,p x
 |[],o,d,h,h0,_=>h0 d h
 |l::c,o,d,h,h0,h1=>BO (c:=c) (o:=kG o l) h (λe he=>aF1 he h0 (h1 l (by simp))) (λx hx=>h1 x (by simp [hx]))
theorem aF2 {o:Option Cl} {l:Lt} {d:Cl} {n:Nat} (h:kG o l=some d) (h0:∀e,o=some e->e.length<=n):d.length<=n+1:=by
 cases o with
 |none=>simp [kG] at h
 |some e=>
  have:=h0 e rfl;simp only [kG,Option.bind_some] at h;split at h
  · cases h;simp;omega
  · split at h
    · cases h;omega
    · cases h
theorem KI:∀{c:Cl} {o:Option Cl} {d:Cl} {n:Nat},c.foldl kG o=some d->(∀e,o=some e->e.length<=n)->d.length<=n+c.length
 |[],o,d,n,h,h0=>by have:=h0 d h;simpa using this
 |l::c,o,d,n,h,h0=>by have:=KI (c:=c) (o:=kG o l) (n:=n+1) h (λe he=>aF2 he h0);simp;omega
theorem oD {a b:Lt} (ha:gN a.2.1/\gN a.2.2) (hb:gN b.2.1/\gN b.2.2):dW a b=true↔(a.2.1=b.2.1/\a.2.2=b.2.2)\/(a.2.1=b.2.2/\a.2.2=b.2.1):=by unfold dW;rw [Bool.or_eq_true,Bool.and_eq_true,Bool.and_eq_true,kS ha.1 hb.1,kS ha.2 hb.2,kS ha.1 hb.2,kS ha.2 hb.1]
abbrev zL (l:Lt):Prop:=gN l.2.1/\gN l.2.2
theorem sH {a b:Lt} (ha:zL a) (hb:zL b):dW a b=dW b a:=by rw [Bool.eq_iff_iff,oD ha hb,oD hb ha];constructor<;>(rintro (⟨h1,h2⟩|⟨h1,h2⟩)<;>simp [h1,h2])
theorem zA {a b c:Lt} (ha:zL a) (hb:zL b) (hc:zL c) (h1:dW a b=true) (h2:dW b c=true):dW a c=true:=by rw [oD ha hb] at h1;rw [oD hb hc] at h2;rw [oD ha hc];rcases h1 with ⟨e1,e2⟩|⟨e1,e2⟩<;>rcases h2 with ⟨e3,e4⟩|⟨e3,e4⟩<;>simp [e1,e2,e3,e4]
theorem aNI {f g:Lt}:∀{out:Cl},(∀x∈out,zL x)->out.Pairwise (λa b=>dW a b=false)->f∈out->g∈out->dW f g=true->f=g
 |[],_,_,h,_,_=>by cases h
 |x::c,ho,hp,hf,hg,hl=>by
  rw [List.pairwise_cons] at hp;rcases List.mem_cons.1 hf with e|hf'
  · rcases List.mem_cons.1 hg with e'|hg'
    · rw [e,e']
    · rw [e,hp.1 g hg'] at hl;cases hl
  · rcases List.mem_cons.1 hg with e'|hg'
    · rw [e',sH (ho f hf) (ho x (by simp)),hp.1 f hf'] at hl;cases hl
    · exact aNI (λy hy=>ho y (by simp [hy])) hp.2 hf' hg' hl
def aG4 (P out:Cl):Prop:=(∀x∈out,x∈P)/\(∀y∈P,∃f∈out,dW f y=true/\f.1=y.1)/\out.Pairwise λa b=>dW a b=false
theorem O8 {P out:Cl} {l:Lt} {o':Option Cl} (hk:aG4 P out) (hP:∀x∈P,zL x) (hl:zL l) (h:kG (some out) l=o'):
 (∀d,o'=some d->aG4 (P++[l]) d)/\(o'=none↔∃y∈P,dW l y=true/\y.1≠l.1)/\(o'=some out↔(∃y∈P,dW l y=true)/\¬∃y∈P,dW l y=true/\y.1≠l.1)/\((∀y∈P,dW l y=false)->o'=some (out++[l])):=by
 obtain ⟨k1,k2,k3⟩:=hk;subst h;simp only [kG,Option.bind_some];cases hf:out.find? (λf=>dW f l) with
 |none=>
  have hno:∀f∈out,dW f l=false:=λf hf'=>by have:=List.find?_eq_none.1 hf f hf';simpa using this
  have aQR:∀y∈P,dW l y=false:=λy hy=>by
   cases hh:dW l y with
   |false=>rfl
   |true=>obtain ⟨f,hf1,hf2,_⟩:=k2 y hy;have:=zA (hP f (k1 f hf1)) (hP y hy) hl hf2 (by rw [sH (hP y hy) hl];exact hh);rw [hno f hf1] at this;cases this
  dsimp only
  refine ⟨λd hd=>?_,⟨λh=>(by cases h),λ⟨y,hy,h1,_⟩=>(by rw [aQR y hy] at h1;cases h1)⟩,⟨λh=>(by simp at h),λ⟨⟨y,hy,h1⟩,_⟩=>(by rw [aQR y hy] at h1;cases h1)⟩,λ_=>rfl⟩;cases hd;refine ⟨λx hx=>?_,λy hy=>?_,?_⟩
  · rcases List.mem_append.1 hx with hx|hx
    · exact List.mem_append_left _ (k1 x hx)
    · exact List.mem_append_right _ hx
  · rcases List.mem_append.1 hy with hy|hy
    · obtain ⟨f,h1,h2⟩:=k2 y hy;exact ⟨f,List.mem_append_left _ h1,h2⟩
    · simp at hy;subst hy;exact ⟨y,by simp,(oD hl hl).2 (.inl ⟨rfl,rfl⟩),rfl⟩
  · rw [List.pairwise_append];refine ⟨k3,by simp,λa ha b hb=>?_⟩;simp at hb;subst hb;exact hno a ha
 |some f=>
  have hfm:f∈out:=List.mem_of_find?_eq_some hf;have hfl:dW f l=true:=by have:=List.find?_some hf;simpa using this
  have hall:∀y∈P,dW l y=true->y.1=f.1:=λy hy hly=>by
   obtain ⟨g,g1,g2,g3⟩:=k2 y hy
   have h1:dW f g=true:=zA (hP f (k1 f hfm)) hl (hP g (k1 g g1)) hfl (by
    rw [sH hl (hP g (k1 g g1))];exact zA (hP g (k1 g g1)) (hP y hy) hl g2 (by rw [sH (hP y hy) hl];exact hly))
   have:f=g:=aNI (λx hx=>hP x (k1 x hx)) k3 hfm g1 h1;rw [this,g3]
  have ZX:dW l f=true:=by rw [sH hl (hP f (k1 f hfm))];exact hfl
  dsimp only
  by_cases he:f.1=l.1
  · rw [if_pos he];have hn:¬∃y∈P,dW l y=true/\y.1≠l.1:=λ⟨y,hy,h1,h2⟩=>h2 ((hall y hy h1).trans he);refine ⟨λd hd=>?_,⟨λh=>(by cases h),λh=>absurd h hn⟩,⟨λ_=>⟨⟨f,k1 f hfm,ZX⟩,hn⟩,λ_=>rfl⟩,λh=>(by rw [h f (k1 f hfm)] at ZX;cases ZX)⟩;cases hd;refine ⟨λx hx=>List.mem_append_left _ (k1 x hx),λy hy=>?_,k3⟩;rcases List.mem_append.1 hy with hy|hy
    · exact k2 y hy
    · simp at hy;subst hy;exact ⟨f,hfm,hfl,he⟩
  · rw [if_neg he];refine ⟨λd hd=>(by cases hd),⟨λ_=>⟨f,k1 f hfm,ZX,he⟩,λ_=>rfl⟩,⟨λh=>(by cases h),λh=>absurd ⟨f,k1 f hfm,ZX,he⟩ h.2⟩,λh=>(by rw [h f (k1 f hfm)] at ZX;cases ZX)⟩
theorem aJN:aG4 [] []:=⟨λ_ h=>h,λ_ h=>(by cases h),List.Pairwise.nil⟩
theorem sI {P out:Cl} (hP:∀x∈P,zL x) (h:dY P=some out):aG4 P out:=by
 have key:∀(n:Nat) (out:Cl),n<=P.length->dY (P.take n)=some out->aG4 (P.take n) out:=by
  intro n;induction n with
  |zero=>intro out _ h;simp [dY] at h;subst h;exact aJN
  |succ n ih=>
   intro out hn h;have hl:P[n]?=some P[n]:=List.getElem?_eq_getElem (by omega);rw [xE hl] at h;cases hd:dY (P.take n) with
   |none=>rw [hd] at h;simp [kG] at h
   |some e=>
    rw [hd] at h;have:=(O8 (ih e (by omega) hd) (λx hx=>hP x (List.mem_of_mem_take hx)) (hP _ (List.getElem_mem _)) h).1 out rfl
    rwa [List.take_add_one,hl]
 have:=key P.length out (Nat.le_refl _) (by rw [List.take_length];exact h)
 rwa [List.take_length] at this
end Go.Proofs.YtoklbpbmghbhnaeGreat
