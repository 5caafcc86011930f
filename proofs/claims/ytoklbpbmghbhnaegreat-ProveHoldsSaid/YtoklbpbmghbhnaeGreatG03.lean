import Derived.Test.YtoklbpbmghbhnaeGreatG02
import Derived.Deep.RegionHeld3
import Derived.Deep.DrawnRows
namespace Go.Proofs.YtoklbpbmghbhnaeGreat
set_option maxRecDepth 100000
set_option maxHeartbeats 1000000
open Go.RowKit Go.Deep Go.ChangeShapes Go.WideShapes
theorem sK (w:World) (ob:Obj):w.grownBy (w.drew.alloc ob) none:=⟨rfl,rfl,rfl,by simp,λk hk _=>Below.heap_alloc w.drew ob k hk⟩
theorem qC {P:Program} (w:World) (t ty:TypeId) (base:Nat) (e:TypeId) (i:TypeInfo) (z:Value) (size bytes:Nat) (ht:P.underlying t=some (.slice e)) (hi:P.info? e=some i) (hz:i.zero=some z)
 (hsize:i.size=size) (hby:i.bytes=bytes) (hzs:z.cells.size=size) (hsz:0<size)
 (v:Value) (n:Nat) (xs:List Value) (hown:w.ownsRow base e size v n xs)
 (ad:Addr) (m c:Nat) (news:List Value) (hl:news.length=m*size) (hnews:∀j u,news[j]?=some u->w.cell? (ad.add j)=some u) (h1:∀u∈news,u.oneCell'=true)
 (hm:0<m) (h63:n+m<=maxLen) (hbytes:(n+m)*bytes<=140737488355328) (hbase:base<=w.heap.size):
 ∃g bW w',(Builtin.append_ #[t,t] ty #[v,.slice (some ad) m c]).run P w= .ok (.slice (some ⟨g,0,none⟩) (n+m) bW) w'/\
  w'.ownsRow base e size (.slice (some ⟨g,0,none⟩) (n+m) bW) (n+m) (xs++news)/\w.grownBy w' v.ownBlock/\(v= .slice (some ⟨g,0,none⟩) n bW\/(g=w.heap.size/\w.grownBy w' none))/\g<w'.heap.size:=by
 obtain ⟨g,bW,w',hr,h2,h3,h4,h5⟩:=run_append_lies (P:=P) w t ty base e i z size bytes ht hi hz hsize hby hzs hsz v n xs hown ad m c news hl hnews h1 hm h63 hbytes hbase w.heap.size rfl;refine ⟨g,bW,w',hr,h2,h3,?_,h5⟩;clear h4;subst hsize;subst hby;have hsmall:n+m<=9223372036854775807:=by simp only [maxLen] at h63;omega
 rcases hown.2 with ⟨rfl,rfl⟩|⟨g0,cap0,cur,rfl,hbg,hg,hnc,hcm,hcs,htake⟩
 · have hr2:=run_append_nil (P:=P) w t ty e i z ht hi hz ad m c news hl hnews (by omega) (by omega) (by have hb:=hbytes;simp only [Nat.zero_add] at hb;omega);rw [hr] at hr2;simp only [Result.ok.injEq,Value.slice.injEq,Option.some.injEq,Addr.mk.injEq] at hr2;exact .inr ⟨hr2.1.1.1,by rw [hr2.2];exact sK w _⟩
 · by_cases hroom:n+m<=cap0
   · have hfit:n*i.size+news.length<=cur.size:=by rw [hl,hcs,←Nat.add_mul];exact Nat.mul_le_mul_right _ hroom
     have hr2:=run_append_room (P:=P) w t ty e i ht hi g0 n cap0 cur hg ad m c news hl hnews h1 hroom hfit;rw [hr] at hr2;simp only [Result.ok.injEq,Value.slice.injEq,Option.some.injEq,Addr.mk.injEq] at hr2;obtain ⟨⟨⟨e1,_⟩,_,e2⟩,_⟩:=hr2;exact .inl (by rw [e1,e2])
   · have holds:∀j u,xs[j]?=some u->w.cell? ((⟨g0,0,none⟩:Addr).add j)=some u:=hown.cells (g:=g0) rfl;have hr2:=run_append_grow (P:=P) w t ty e i z ht hi hz ⟨g0,0,none⟩ n cap0 xs hown.1 holds ad m c news hl hnews (by omega) (by omega) (growslice_fits (by omega) hbytes);rw [hr] at hr2;simp only [Result.ok.injEq,Value.slice.injEq,Option.some.injEq,Addr.mk.injEq] at hr2;exact .inr ⟨hr2.1.1.1,by rw [hr2.2];exact sK w _⟩
theorem GJ {P:Program} (w:World) {ops:Array Oper} {o:Oper} {a:Act} {K:Act->World->Prop} {Q:Exit->Act->World->Prop} {E:Prop} (hgd:o.guard=none) (s x:Operand) (t:TypeId)
 (ho:o.op= .call {callee:= .builtin .append,args:=#[s,x],argTypes:=#[t,t]})
 (base:Nat) (e:TypeId) (i:TypeInfo) (z:Value) (size bytes:Nat) (ht:P.underlying t=some (.slice e)) (hi:P.info? e=some i) (hz:i.zero=some z)
 (hsize:i.size=size) (hby:i.bytes=bytes) (hzs:z.cells.size=size) (hsz:0<size)
 (v:Value) (n:Nat) (xs:List Value) (hs:a.eval s=v) (hown:w.ownsRow base e size v n xs)
 (ad:Addr) (m c:Nat) (news:List Value) (hx:a.eval x= .slice (some ad) m c) (hl:news.length=m*size) (hnews:∀j u,news[j]?=some u->w.cell? (ad.add j)=some u) (h1:∀u∈news,u.oneCell'=true)
 (hm:0<m) (h63:n+m<=maxLen) (hbytes:(n+m)*bytes<=140737488355328) (hbase:base<=w.heap.size)
 (h:∀g bW w',w'.ownsRow base e size (.slice (some ⟨g,0,none⟩) (n+m) bW) (n+m) (xs++news)->w.grownBy w' v.ownBlock->(v= .slice (some ⟨g,0,none⟩) n bW\/(g=w.heap.size/\w.grownBy w' none))->g<w'.heap.size->K (a.put o.dst (.slice (some ⟨g,0,none⟩) (n+m) bW)) w'):
 if Region.wanted o (yielded ops a.tmps)=true then Oper.wp P o a w K Q else E:=by
 have hw:Region.wanted o (yielded ops a.tmps)=true:=by simp [Region.wanted,hgd]
 rw [if_pos hw];obtain ⟨g,bW,w',hr,h2,h3,h4,h5⟩:=qC (P:=P) w t o.type base e i z size bytes ht hi hz hsize hby hzs hsz v n xs hown ad m c news hl hnews h1 hm h63 hbytes hbase;unfold Oper.wp execOp;simp only [ho,resolve,invoke,builtin,Sem.run_bind,Sem.run_pure,Result.andThen_ok,List.map_toArray,List.map_cons,List.map_nil,hs,hx,hr];exact h g bW w' h2 h3 h4 h5
structure Fr (w w':World) (g1 g2:Option Nat):Prop where
 os:w'.os=w.os
 tape:w'.tape=w.tape
 output:w'.output=w.output
 size:w.heap.size<=w'.heap.size
 block:∀q,q<w.heap.size->some q≠g1->some q≠g2->w'.heap[q]?=w.heap[q]?
theorem Fr.refl (w:World) (g1 g2:Option Nat):Fr w w g1 g2:=⟨rfl,rfl,rfl,Nat.le_refl _,λ_ _ _ _=>rfl⟩
theorem Fr.of_below {w w':World} (h:Below w.heap.size w w') (g1 g2:Option Nat):Fr w w' g1 g2:=⟨h.os,h.tape,h.output,h.size,λq hq _ _=>h.block q hq⟩
theorem Fr.of_grown {w w':World} {row g1 g2:Option Nat} (h:w.grownBy w' row) (hr:∀q,q<w.heap.size->row=some q->some q=g1\/some q=g2):Fr w w' g1 g2:=
 ⟨h.os,h.tape,h.output,h.size,λq hq h1 h2=>h.block q hq (λe=>by rcases hr q hq e.symm with h|h;exact h1 h;exact h2 h)⟩
theorem Fr.trans {w w1 w2:World} {g1 g2 h1 h2:Option Nat} (a:Fr w w1 g1 g2) (b:Fr w1 w2 h1 h2) (hr:∀q,q<w.heap.size->some q=h1\/some q=h2->some q=g1\/some q=g2):Fr w w2 g1 g2:=by
 refine ⟨b.os.trans a.os,b.tape.trans a.tape,b.output.trans a.output,Nat.le_trans a.size b.size,λq hq e1 e2=>?_⟩;rw [b.block q (Nat.lt_of_lt_of_le hq a.size) (λe=>?_) (λe=>?_),a.block q hq e1 e2]
 · rcases hr q hq (.inl e) with h|h;exact e1 h;exact e2 h
 · rcases hr q hq (.inr e) with h|h;exact e1 h;exact e2 h
theorem Fr.below {B:Nat} {w w':World} {g1 g2:Option Nat} (h:Fr w w' g1 g2) (hB:B<=w.heap.size) (h1:∀g,g1=some g->B<=g) (h2:∀g,g2=some g->B<=g):Below B w w':=
 ⟨h.os,h.tape,h.output,h.size,λq hq=>h.block q (by omega) (λe=>by have:=h1 q e.symm;omega) (λe=>by have:=h2 q e.symm;omega)⟩
theorem bA {w w':World} {lo:Nat} {e:TypeId} {s:Nat} {v:Value} {n:Nat} {xs:List Value} (h:w.ownsRow lo e s v n xs) (hk:∀g,v.ownBlock=some g->w'.heap[g]?=w.heap[g]?):w'.ownsRow lo e s v n xs:=by
 obtain ⟨h1,h2⟩:=h;refine ⟨h1,?_⟩;rcases h2 with h2|⟨g,bW,cur,rfl,hg,hh,r⟩
 · exact .inl h2
 · exact .inr ⟨g,bW,cur,rfl,hg,by rw [hk g rfl];exact hh,r⟩
theorem wX {w:World} {lo lo':Nat} {e:TypeId} {s:Nat} {v:Value} {n:Nat} {xs:List Value} (h:w.ownsRow lo e s v n xs) (hl:lo'<=lo):w.ownsRow lo' e s v n xs:=by
 obtain ⟨h1,h2⟩:=h;refine ⟨h1,?_⟩;rcases h2 with h2|⟨g,bW,cur,rfl,hg,hh,r⟩
 · exact .inl h2
 · exact .inr ⟨g,bW,cur,rfl,by omega,hh,r⟩
theorem aJ {w:World} {lo:Nat} {e:TypeId} {s:Nat} {v:Value} {n:Nat} {xs:List Value} (h:w.ownsRow lo e s v n xs):∀g,v.ownBlock=some g->lo<=g/\g<w.heap.size:=by
 intro g hg;rcases h.2 with ⟨rfl,_⟩|⟨g',bW,cur,rfl,h1,hh,_⟩
 · simp [Value.ownBlock] at hg
 · simp [Value.ownBlock] at hg;subst hg;refine ⟨h1,?_⟩;rcases Nat.lt_or_ge g' w.heap.size with h|h
   · exact h
   · rw [Array.getElem?_eq_none h] at hh;cases hh
theorem YE {w:World} {lo:Nat} {e:TypeId} {g bW n:Nat} {xs:List Value} {x:Value} (h:w.ownsRow lo e 1 (.slice (some ⟨g,0,none⟩) (n+1) bW) (n+1) (xs++[x])) (hx:xs.length=n):w.ownsRow lo e 1 (.slice (some ⟨g,0,none⟩) n bW) n xs:=by
 obtain ⟨h1,h2⟩:=h;refine ⟨by omega,?_⟩;rcases h2 with ⟨h2,_⟩|⟨g',cap',cur,hv,hg,hh,hn,hc,hs,ht⟩
 · cases h2
 · simp only [Value.slice.injEq,Option.some.injEq,Addr.mk.injEq] at hv;obtain ⟨⟨rfl,_⟩,_,rfl⟩:=hv;refine .inr ⟨g,bW,cur,rfl,hg,hh,by omega,hc,hs,?_⟩;have:cur.toList.take (n*1)=(cur.toList.take ((n+1)*1)).take n:=by rw [List.take_take];congr 1;omega
   rw [this,ht,List.take_left' hx]
def Pw (w:World) (lo:Nat) (g:Option Nat) (ys:List Value) (Q:List (List Int)):Prop:=
 ys.length=Q.length/\∀(i:Nat) (y:Value) (q:List Int),ys[i]?=some y->Q[i]?=some q->w.ownsRow lo 3 1 y q.length (bO q)/\∀h,y.ownBlock=some h->some h≠g
theorem Pw.keep {w w':World} {lo lo':Nat} {g g' h1 h2:Option Nat} {ys:List Value} {Q:List (List Int)} (h:Pw w lo g ys Q) (hf:Fr w w' h1 h2) (e1:∀q,lo<=q->q<w.heap.size->some q≠g->some q≠h1/\some q≠h2/\some q≠g') (hlo:lo'<=lo):Pw w' lo' g' ys Q:=by
 refine ⟨h.1,λi y q hy hq=>?_⟩;obtain ⟨ho,hn⟩:=h.2 i y q hy hq;refine ⟨wX (bA ho λk hk=>?_) hlo,λk hk=>?_⟩
 · obtain ⟨p1,p2⟩:=aJ ho k hk;obtain ⟨q1,q2,_⟩:=e1 k p1 p2 (hn k hk);exact hf.block k p2 q1 q2
 · obtain ⟨p1,p2⟩:=aJ ho k hk;exact (e1 k p1 p2 (hn k hk)).2.2
theorem Pw.append {w:World} {lo:Nat} {g:Option Nat} {ys zs:List Value} {Q R:List (List Int)} (h:Pw w lo g ys Q) (k:Pw w lo g zs R):Pw w lo g (ys++zs) (Q++R):=by
 refine ⟨by simp [h.1,k.1],λi y q hy hq=>?_⟩;by_cases hi:i<ys.length
 · rw [List.getElem?_append_left hi] at hy;rw [List.getElem?_append_left (by rw [←h.1];exact hi)] at hq;exact h.2 i y q hy hq
 · rw [List.getElem?_append_right (by omega)] at hy;rw [List.getElem?_append_right (by rw [←h.1];omega),←h.1] at hq;exact k.2 _ y q hy hq
theorem Tryz.info22:(Tryz.prog.info? 22).map (λi=>(i.zero,i.size,i.bytes))=some (some (.slice none 0 0),1,24):=by kernel_rfl
def eG:Fo->List Int->Int->List (List Int)
 | .nil,_,_=>[]
 | .node _ _ x k r,p,i=>(if x.1 then [] else (p++[i])::eG k (p++[i]) 0)++eG r p (i+1)
def dJ (x:Bool×Int) (k:Fo) (p:List Int):List (List Int):=if x.1 then [] else p::eG k p 0
def GD (k:Fo) (p:List Int) (j:Nat):List (List Int):=p::eG (Fo.take j k) p 0
theorem CE:∀{F:Fo} {j:Nat} {x:Bool×Int} {k:Fo} (p:List Int) (i:Int),F.list[j]?=some (x,k)->eG (Fo.take (j+1) F) p i=eG (Fo.take j F) p i++dJ x k (p++[i+j])
 | .nil,_,_,_,_,_,h=>by simp [Fo.list] at h
 | .node _ _ y l r,0,x,k,p,i,h=>by simp only [Fo.list,List.getElem?_cons_zero,Option.some.injEq,Prod.mk.injEq] at h;obtain ⟨rfl,rfl⟩:=h;simp [Fo.take,eG,dJ]
 | .node _ _ y l r,j+1,x,k,p,i,h=>by
  have:=CE (F:=r) (j:=j) p (i+1) (by simpa [Fo.list] using h);simp only [Fo.take,eG] at this ⊢;rw [this,List.append_assoc];have e:i+1+(j:Int)=i+((j+1:Nat):Int):=by omega
  rw [e]
theorem aE8 {k:Fo} {p:List Int} {j:Nat} {x:Bool×Int} {l:Fo} (h:k.list[j]?=some (x,l)):GD k p (j+1)=GD k p j++dJ x l (p++[(j:Int)]):=by rw [GD,CE p 0 h];simp [GD]
theorem aI1 (k:Fo) (p:List Int):GD k p (Fo.len k)=p::eG k p 0:=by rw [GD,pQ]
theorem vZ:∀(F:Fo) (p:List Int) (i:Int),(eG F p i).length<=Fo.sizesR F
 | .nil,_,_=>Nat.le_refl _
 | .node _ _ x k r,p,i=>by
  have h1:=vZ k (p++[i]) 0;have h2:=vZ r p (i+1);simp only [eG,Fo.sizesR,List.length_append];split
  · simp;omega
  · simp;omega
theorem qU:∀(j:Nat) (F:Fo),Fo.sizesR (Fo.take j F)+(match F.list[j]? with|some y=>aM y.2|none=>0)<=Fo.sizesR F
 |0,.nil=>by simp [Fo.take,Fo.sizesR,Fo.list]
 |0,.node _ _ x k r=>by simp [Fo.take,Fo.sizesR,Fo.list,aM]
 |j+1,.nil=>by simp [Fo.take,Fo.sizesR,Fo.list]
 |j+1,.node _ _ x k r=>by have:=qU j r;simp only [Fo.take,Fo.sizesR,Fo.list,List.getElem?_cons_succ];omega
def aDO (x:Bool×Int) (k:Fo):Prop:=∀(W:World) (a:Value) (w:World) (vo wv:Value) (xs:List Value) (p:List Int),cO W k a->Below W.heap.size W w->
 w.ownsRow W.heap.size 22 1 vo xs.length xs->w.ownsRow W.heap.size 3 1 wv p.length (bO p)->(∀g,vo.ownBlock=some g->wv.ownBlock≠some g)->xs.length+aM k<=10000->p.length+aM k<=10000->
 Calls Tryz.prog 167 #[vo,wv,.agg #[.bool x.1,.int .i64 x.2,a]] w λe w'=>∃vo' ys,e= .returned vo'/\w'.ownsRow W.heap.size 22 1 vo' (xs.length+ys.length) (xs++ys)/\
  Pw w' w.heap.size vo'.ownBlock ys (dJ x k p)/\(vo'.ownBlock=vo.ownBlock\/∃g,vo'.ownBlock=some g/\w.heap.size<=g)/\w'.ownsRow W.heap.size 3 1 wv p.length (bO p)/\Fr w w' vo.ownBlock wv.ownBlock
theorem OW {w:World} {lo:Nat} {v:Value} {p:List Int} {j:Int} (h:w.ownsRow lo 3 1 v (p.length+1) (bO p++[.int .i64 j])):w.ownsRow lo 3 1 v (p++[j]).length (bO (p++[j])):=by simpa [bO] using h
theorem YD {w:World} {lo:Nat} {v:Value} {p:List Int} {j:Int} (h:w.ownsRow lo 3 1 v (p++[j]).length (bO (p++[j]))):w.ownsRow lo 3 1 v (p.length+1) (bO p++[.int .i64 j]):=by simpa [bO] using h
def vK (W w:World) (k:Fo) (p:List Int) (xs:List Value) (vo wv:Value) (j:Nat) (wr:World) (vj:Value) (ys:List Value):Prop:=
 wr.ownsRow W.heap.size 22 1 vj (xs.length+ys.length) (xs++ys)/\Pw wr w.heap.size vj.ownBlock ys (GD k p j)/\(vj.ownBlock=vo.ownBlock\/∃g,vj.ownBlock=some g/\w.heap.size<=g)/\wr.ownsRow W.heap.size 3 1 wv p.length (bO p)/\Fr w wr vo.ownBlock wv.ownBlock
theorem aR {w:World} {lo:Nat} {e:TypeId} {s:Nat} {v:Value} {n:Nat} {xs:List Value} (h:w.ownsRow lo e s v n xs):∃z1 z3,v= .slice z1 n z3:=by
 rcases h.2 with ⟨rfl,rfl⟩|⟨g,bW,cur,rfl,_⟩
 · exact ⟨_,_,rfl⟩
 · exact ⟨_,_,rfl⟩
theorem aGF {W w wb w1 w2:World} {k:Fo} {p:List Int} {xs:List Value} {vo wv v' vj:Value} {ob ob2:Obj} (ho:w.ownsRow W.heap.size 22 1 vo xs.length xs) (hw:w.ownsRow W.heap.size 3 1 wv p.length (bO p)) (hne:∀g,vo.ownBlock=some g->wv.ownBlock≠some g)
 (hwb:wb=w.alloc ob) (hb1:Below wb.heap.size wb w1) (hv:w1.ownsRow wb.heap.size 3 1 v' p.length (bO p)) (hg:(w1.alloc ob2).grownBy w2 vo.ownBlock) (ho2:w2.ownsRow W.heap.size 22 1 vj (xs.length+1) (xs++[v']))
 (hat:vo.ownBlock=vj.ownBlock\/vj.ownBlock=some (w1.heap.size+1)):vK W w k p xs vo wv 0 w2 vj [v']:=by
 subst hwb;have hB1:Below w.heap.size w w1:=aW hb1;have hB2:Below w.heap.size w (w1.alloc ob2):=hB1.alloc hB1.size ob2;have hF:Fr w w2 vo.ownBlock wv.ownBlock:=(Fr.of_below hB2 _ _).trans (Fr.of_grown (g1:=vo.ownBlock) (g2:=wv.ownBlock) hg (λq _ h=> .inl h.symm)) (λq _ h=>h);have hF0:Fr w w2 vo.ownBlock none:=(Fr.of_below hB2 _ _).trans (Fr.of_grown (g1:=vo.ownBlock) (g2:=none) hg (λq _ h=> .inl h.symm)) (λq _ h=>h);have hs1:w.heap.size+1<=w1.heap.size:=by have:=hb1.size;simpa using this
 refine ⟨by simpa using ho2,⟨rfl,λi y q hy hq=>?_⟩,?_,?_,hF⟩
 · cases i with
   |succ i=>simp at hy
   |zero=>
    simp only [List.getElem?_cons_zero,Option.some.injEq] at hy;subst hy;simp only [GD,Fo.take,eG,List.getElem?_cons_zero,Option.some.injEq] at hq;subst hq;have hst:∀g,v'.ownBlock=some g->w2.heap[g]?=w1.heap[g]?:=λg hg'=>by obtain ⟨a1,a2⟩:=aJ hv g hg';simp at a1;rw [hg.block g (by simp;omega) (λe=>by have:=(aJ ho g e.symm).2;omega),Below.heap_alloc _ _ _ a2]
    refine ⟨wX (bA hv hst) (by simp),λh hh=>?_⟩;obtain ⟨a1,a2⟩:=aJ hv h hh;simp at a1;rcases hat with e|e
    · rw [←e];intro e2;have:=(aJ ho h e2.symm).2;omega
    · rw [e];intro e2;simp at e2;omega
 · rcases hat with e|e
   · exact .inl e.symm
   · exact .inr ⟨_,e,by omega⟩
 · exact bA hw (λg hg'=>hF0.block g (aJ hw g hg').2 (λe=>hne g e.symm hg') (λe=>by cases e))
theorem H6 {W w wr wb w1:World} {k:Fo} {p:List Int} {xs ys:List Value} {vo wv vj:Value} {j g bW:Nat} {u:Value} (ho:w.ownsRow W.heap.size 22 1 vo xs.length xs) (hw:w.ownsRow W.heap.size 3 1 wv p.length (bO p)) (hne:∀g,vo.ownBlock=some g->wv.ownBlock≠some g)
 (hB:Below W.heap.size W w) (hR:vK W w k p xs vo wv j wr vj ys) (hb:Below wr.heap.size wr wb) (hg:wb.grownBy w1 wv.ownBlock)
 (_hown:w1.ownsRow W.heap.size 3 1 (.slice (some ⟨g,0,none⟩) (p.length+1) bW) (p.length+1) (bO p++[u])) (hat:wv= .slice (some ⟨g,0,none⟩) p.length bW\/(g=wb.heap.size/\wb.grownBy w1 none)):
 w1.ownsRow W.heap.size 22 1 vj (xs++ys).length (xs++ys)/\(∀h,vj.ownBlock=some h->(Value.slice (some ⟨g,0,none⟩) (p.length+1) bW).ownBlock≠some h)/\Below W.heap.size W w1/\
 (∀h,vj.ownBlock=some h->wv.ownBlock≠some h)/\Fr wr w1 wv.ownBlock none/\wr.heap.size<=w1.heap.size:=by
 obtain ⟨r1,r2,r3,r4,r5⟩:=hR;have hvw:∀h,vj.ownBlock=some h->wv.ownBlock≠some h:=λh hh e=>by
  rcases r3 with r3|⟨g',e',hg'⟩
  · exact hne h (r3▸hh) e
  · rw [e'] at hh;cases hh;have:=(aJ hw _ e).2;omega
 have hFr:Fr wr w1 wv.ownBlock none:=(Fr.of_below hb _ _).trans (Fr.of_grown (g1:=wv.ownBlock) (g2:=none) hg (λq _ h=> .inl h.symm)) (λq _ h=>h);refine ⟨?_,?_,?_,hvw,hFr,hFr.size⟩
 · rw [List.length_append];exact bA r1 (λh hh=>hFr.block h (aJ r1 h hh).2 (λe=>hvw h hh e.symm) (λe=>by cases e))
 · intro h hh e;simp [Value.ownBlock] at e;subst e;rcases hat with rfl|⟨e,-⟩
   · exact hvw g hh rfl
   · have:=(aJ r1 g hh).2;have:=hb.size;omega
 · have h1:=r5.below hB.size (λg hg=>(aJ ho g hg).1) (λg hg=>(aJ hw g hg).1);have h2:=hFr.below (Nat.le_trans hB.size r5.size) (λg hg=>(aJ hw g hg).1) (λg hg=>by cases hg);exact (hB.trans h1).trans h2
theorem aNA {W w wr wb w1 w2:World} {k:Fo} {p:List Int} {xs ys:List Value} {vo wv vj:Value} {j g bW q:Nat} (hR:vK W w k p xs vo wv j wr vj ys) (hg:wb.grownBy w1 wv.ownBlock)
 (hat:wv= .slice (some ⟨g,0,none⟩) p.length bW\/(g=wb.heap.size/\wb.grownBy w1 none)) (hq:wr.heap.size<q) (hqb:q<=wb.heap.size) (h5:Fr w1 w2 vj.ownBlock (some g)):∀i,w2.cell? ⟨wr.heap.size,i,none⟩=w1.cell? ⟨wr.heap.size,i,none⟩:=by
 intro i;refine World.cell?_of_block (a:=⟨wr.heap.size,i,none⟩) (h5.block wr.heap.size (by have:=hg.size;omega) (λe=>?_) (λe=>?_))
 · have:=(aJ hR.1 _ e.symm).2;omega
 · simp at e;rcases hat with h|⟨h,-⟩
   · have:=(aJ hR.2.2.2.1 g (by rw [h];rfl)).2;omega
   · omega
theorem aJ9 {W w wr wb w1 w2:World} {k:Fo} {p:List Int} {xs ys zs:List Value} {vo wv vj vz:Value} {j g bW:Nat} {u:Value} {y:Bool×Int} {l:Fo} (ho:w.ownsRow W.heap.size 22 1 vo xs.length xs) (hw:w.ownsRow W.heap.size 3 1 wv p.length (bO p)) (hne:∀g,vo.ownBlock=some g->wv.ownBlock≠some g)
 (hB:Below W.heap.size W w) (hR:vK W w k p xs vo wv j wr vj ys) (hy:k.list[j]?=some (y,l)) (hb:Below wr.heap.size wr wb) (hg:wb.grownBy w1 wv.ownBlock)
 (hown:w1.ownsRow W.heap.size 3 1 (.slice (some ⟨g,0,none⟩) (p.length+1) bW) (p.length+1) (bO p++[u])) (hat:wv= .slice (some ⟨g,0,none⟩) p.length bW\/(g=wb.heap.size/\wb.grownBy w1 none))
 (h1:w2.ownsRow W.heap.size 22 1 vz ((xs++ys).length+zs.length) ((xs++ys)++zs)) (h2:Pw w2 w1.heap.size vz.ownBlock zs (dJ y l (p++[(j:Int)]))) (h3:vz.ownBlock=vj.ownBlock\/∃g,vz.ownBlock=some g/\w1.heap.size<=g)
 (h4:w2.ownsRow W.heap.size 3 1 (.slice (some ⟨g,0,none⟩) (p.length+1) bW) (p.length+1) (bO p++[u])) (h5:Fr w1 w2 vj.ownBlock (some g)):vK W w k p xs vo wv (j+1) w2 vz (ys++zs):=by
 obtain ⟨a1,a2,a3,a4,a5,a6⟩:=H6 ho hw hne hB hR hb hg hown hat
 obtain ⟨r1,r2,r3,r4,r5⟩:=hR;have hwg:∀q,q<wr.heap.size->some q=some g->some q=wv.ownBlock:=λq hq e=>by
  simp at e;subst e;rcases hat with rfl|⟨e,-⟩
  · rfl
  · have:=hb.size;omega
 have hvj:∀q,q<w.heap.size->some q=vj.ownBlock->some q=vo.ownBlock:=λq hq e=>by
  rcases r3 with r3|⟨g',e',hg'⟩
  · rw [←r3];exact e
  · rw [e'] at e;simp at e;omega
 have hF2:Fr wr w2 vj.ownBlock wv.ownBlock:=by have a5':Fr wr w1 vj.ownBlock wv.ownBlock:=⟨a5.os,a5.tape,a5.output,a5.size,λq hq _ e2=>a5.block q hq e2 (λe=>by cases e)⟩;exact a5'.trans h5 (λq hq h=>by rcases h with h|h;exact .inl h;exact .inr (hwg q hq h))
 refine ⟨by simpa [Nat.add_assoc] using h1,?_,?_,?_,?_⟩
 · rw [aE8 hy];refine Pw.append (Pw.keep r2 hF2 (λq q1 q2 q3=>⟨q3,λe=>by have:=(aJ hw q e.symm).2;omega,λe=>?_⟩) (Nat.le_refl _)) (Pw.keep h2 (Fr.refl w2 none none) (λq q1 q2 q3=>⟨λe=>(by cases e),λe=>(by cases e),q3⟩) (by have:=r5.size;omega));rcases h3 with e'|⟨g',e',hg'⟩
   · rw [e'] at e;exact q3 e
   · rw [e'] at e;simp at e;omega
 · rcases h3 with e|⟨g',e,hg'⟩
   · rw [e];exact r3
   · exact .inr ⟨g',e,by have:=r5.size;omega⟩
 · rcases hat with rfl|⟨e,hg0⟩
   · exact YE h4 (by simp)
   · refine bA r4 (λh hh=>?_);have q1:=(aJ r4 h hh).2;rw [h5.block h (by omega) (λe'=>a4 h e'.symm hh) (λe'=>by simp at e';have:=hb.size;omega),hg0.block h (by have:=hb.size;omega) (λe'=>by cases e'),hb.block h q1]
 · refine (r5.trans a5 (λq _ h=>?_)).trans h5 (λq hq h=>?_)
   · rcases h with h|h
     · exact .inr h
     · cases h
   · rcases h with h|h
     · exact .inl (hvj q hq h)
     · exact .inr (hwg q (Nat.lt_of_lt_of_le hq r5.size) h)
theorem aNB (x:Bool×Int) (k:Fo):aDO x k:=by
 refine Fo.ind1 (p:=aDO) ?_ x k;clear x k;intro x k ih W a w vo wv xs p hS hB ho hw hne hb1 hb2;obtain ⟨v,n⟩:=x;have HI:=aB ih;have HS:=aB hS;have HB:=aB hB;have Ho:=aB ho;have Hw:=aB hw;have Hne:=aB hne;obtain ⟨ad,c,b,o,rfl,had,hlc,hcm,hF⟩:=hS;have HF:=aB hF;unfold maxLen at hcm;have hvo:∃z1 z2 z3,vo= .slice z1 z2 z3:=by
  rcases ho.2 with ⟨rfl,_⟩|⟨g,bW,cur,rfl,_⟩
  · exact ⟨_,_,_,rfl⟩
  · exact ⟨_,_,_,rfl⟩
 have hwv:∃z1 z2 z3,wv= .slice z1 z2 z3:=by
  rcases hw.2 with ⟨rfl,_⟩|⟨g,bW,cur,rfl,_⟩
  · exact ⟨_,_,_,rfl⟩
  · exact ⟨_,_,_,rfl⟩
 obtain ⟨vo1,vo2,vo3,rfl⟩:=hvo;obtain ⟨wv1,wv2,wv3,rfl⟩:=hwv;clear ih hF ho hw hne hB;cases v
 · have Hpl:Hid (dJ (false,n) k p=p::eG k p 0):=rfl;obtain ⟨i22,hi22,hz0,hz1,hz2⟩:=info_parts Tryz.info22;have hzl:0<aM k:=by unfold aM;omega
   go_enter Tryz.func167,Tryz.ntmps167
   go_wp2_with fail
   refine (E5 p _ _ ((mJ Hw.out).alloc _) (by omega)).mono ?_;rintro e w1 ⟨v',rfl,hv',hb1'⟩;have Hv':=aB hv';have aRR:=aB hb1';obtain ⟨va,vc,rfl⟩:=aR hv';have hbx:Below (w.heap.size+1) (w.alloc (.cells #[.bool false,.int .i64 n,.slice ad (Fo.len k) c] 84)) w1:=by simpa using hb1'
   obtain ⟨q0,q1,q2,hB1,hlt1⟩:=nI hbx;have Ho1:Hid (w1.ownsRow W.heap.size 22 1 (.slice vo1 vo2 vo3) xs.length xs):=bA Ho.out (λg hg=>hB1.block g (aJ Ho.out g hg).2);have Ho2:Hid ((w1.alloc (.cells #[.slice va p.length vc] 22)).ownsRow W.heap.size 22 1 (.slice vo1 vo2 vo3) xs.length xs):=bA Ho1.out (λg hg=>Below.heap_alloc _ _ _ (aJ Ho1.out g hg).2);have hWs:W.heap.size<=w1.heap.size:=Nat.le_trans HB.out.size hB1.size;have hm1:xs.length+1<=maxLen:=by unfold maxLen;omega
   have hm2:(xs.length+1)*24<=140737488355328:=by omega
   have Hq2:=aB q2;clear q0 q1 q2 hv' hb1' hbx
   go_wp2_with (at_builtin;refine wpList_append_lies _ rfl (.tmp 12) (.tmp 15) 36 rfl W.heap.size 22 i22 (.slice none 0 0) 1 24 Tryz.underlying36 hi22 hz0 hz1 hz2 rfl (by decide) (.slice vo1 vo2 vo3) xs.length xs rfl Ho2.out ⟨w1.heap.size,0,none⟩ 1 1 [.slice va p.length vc] rfl rfl (cell_one_new _ _ _) (by simp [Value.oneCell']) (by decide) hm1 hm2 (by simp;omega) (w1.heap.size+1) (by simp) ?_;intro g bW w2 hown2 hg2 UM hlt2;have q2':w2.cell? ⟨w.heap.size,2,none⟩=some (.slice ad (Fo.len k) c):=(hg2.cell_far _ (by simp;omega) (λe=>by have:=(aJ Ho.out _ e.symm).2;simp at this)).trans ((World.cell?_alloc_lt _ _ _ hlt1).trans Hq2.out))
   have jP:Hid (vK W w k p xs (.slice vo1 vo2 vo3) (.slice wv1 wv2 wv3) 0 w2 (.slice (some ⟨g,0,none⟩) (xs.length+1) bW) [.slice va p.length vc]):=
    aGF (wb:=w.alloc (.cells #[.bool false,.int .i64 n,.slice ad (Fo.len k) c] 84)) Ho.out Hw.out Hne.out rfl aRR.out Hv'.out hg2 hown2 (by rcases UM with h|h;exact .inl h;exact .inr (by rw [h];rfl))
   clear hown2 hg2 UM hlt2 q2' aRR Hv' Ho1 Ho2 Hq2 hi22 hz0 hz1 hz2
   go_loopw [0,20] (λvo' i wr=>∃(j:Nat) (vg aNU:Nat) (ys:List Value),j<=Fo.len k/\i= .int .i64 j/\vo'= .slice (some ⟨vg,0,none⟩) (xs.length+ys.length) aNU/\vK W w k p xs (.slice vo1 vo2 vo3) (.slice wv1 wv2 wv3) j wr (.slice (some ⟨vg,0,none⟩) (xs.length+ys.length) aNU) ys) (λ_ i _=>Fo.len k - (intOf i).toNat)
   case atStart=>exact ⟨0,g,bW,[.slice va p.length vc],Nat.zero_le _,rfl,rfl,jP.out⟩
   case round=>
    obtain ⟨j,vg,aNU,ys,hj,rfl,rfl,hR⟩:=hrel;have HR:=aB hR;clear hR jP;have HBw:Hid (Below W.heap.size W wr):=HB.out.trans (HR.out.2.2.2.2.below HB.out.size (λg hg=>(aJ Ho.out g hg).1) (λg hg=>(aJ Hw.out g hg).1));by_cases hlt:j<Fo.len k
    · have hlt':(j:Int)<(Fo.len k:Int):=by omega
      obtain ⟨⟨⟨yv,yn⟩,yk⟩,hy⟩:∃y,k.list[j]?=some y:=⟨k.list[j]'(by rw [Fo.len_list];exact hlt),by simp⟩;obtain ⟨c0,c1,bB,c2,kW⟩:=HF.out.at hy;have UD:=aB kW;obtain ⟨ya,yc,yb,yo,rfl,-,-,-,-⟩:=kW;have c0':=aA HBw.out _ _ c0;have c1':=aA HBw.out _ _ c1;have c2':=aA HBw.out _ _ c2;have ha:ad=some ⟨b,o,none⟩:=had (by omega);subst ha;have Hy:=aB hy;obtain ⟨i3,hi3,hy0,hy1,hy2⟩:=info_parts Tryz.info3;have Hlen:Hid ((ys.length:Int)=(GD k p j).length/\ys.length+aM yk<=aM k):=by have e1:=HR.out.2.1.1;have e2:=vZ (Fo.take j k) p 0;have e3:=qU j k;rw [hy] at e3;refine ⟨by rw [e1],?_⟩;simp only [GD,List.length_cons] at e1;simp only at e3;unfold aM at e3 ⊢;omega
      have hk1:xs.length+ys.length+aM yk<=10000:=by have:=Hlen.out.2;omega
      have hk2:p.length+1+aM yk<=10000:=by have e3:=qU j k;rw [hy] at e3;simp only at e3;unfold aM at e3 hb2 ⊢;omega
      have aOH:(xs++ys).length+aM yk<=10000:=by rw [List.length_append];exact hk1
      have aTK:(p++[(j:Int)]).length+aM yk<=10000:=by rw [List.length_append];exact hk2
      have hpm:p.length+1<=maxLen:=by unfold maxLen;omega
      have hpb:(p.length+1)*8<=140737488355328:=by omega
      clear hy c0 c1 c2
      go_wp2_with fail
      clear c0' c1' c2';generalize fA:wr.alloc (.cells #[.bool yv,.int .i64 yn,.slice ya (Fo.len yk) yc] 84)=wa;have d0:wa.cell? ⟨wr.heap.size,0,none⟩=some (.bool yv):=by rw [←fA];simp
      have d1:wa.cell? ⟨wr.heap.size,1,none⟩=some (.int .i64 yn):=by rw [←fA];simp
      have d2:wa.cell? ⟨wr.heap.size,2,none⟩=some (.slice ya (Fo.len yk) yc):=by rw [←fA];simp
      have hsa:wr.heap.size<wa.heap.size:=by rw [←fA];simp
      have hWa:W.heap.size<=wa.heap.size:=by have:=HBw.out.size;omega
      have xV:Hid (Below wr.heap.size wr wa):=by rw [←fA];exact aD _ _
      have Hwb:Hid (Below wr.heap.size wr (wa.alloc (.cells #[.int .i64 j] 3)).drew):=((xV.out.alloc (by omega) _).drew)
      have Hwo:Hid ((wa.alloc (.cells #[.int .i64 j] 3)).drew.ownsRow W.heap.size 3 1 (.slice wv1 wv2 wv3) p.length (bO p)):=
       bA HR.out.2.2.2.1 (λg hg=>Hwb.out.block g (aJ HR.out.2.2.2.1 g hg).2)
      have aUI:Hid (wa.heap.size<=(wa.alloc (.cells #[.int .i64 j] 3)).drew.heap.size):=by simp [Hid]
      have hwn:(Value.slice wv1 wv2 wv3).ownBlock≠some wr.heap.size:=λe=>by have:=(aJ HR.out.2.2.2.1 _ e).2;omega
      have Hwn:=aB hwn;clear fA hwn
      go_region_held3 (λw'=>w'.cell? ⟨wr.heap.size,0,none⟩=some (.bool yv)/\w'.cell? ⟨wr.heap.size,1,none⟩=some (.int .i64 yn)/\w'.cell? ⟨wr.heap.size,2,none⟩=some (.slice ya (Fo.len yk) yc))
       (first
         |go_keep
         |(go_split_ands
           refine ⟨?_,?_,?_⟩
           · (rw [hk4];assumption)
           · (rw [hk4];assumption)
           · (rw [hk4];assumption))
         |(go_split_ands
           refine ⟨?_,?_,?_⟩
           · (rw [hg3.cell_far _ (by simp;omega) (Ne.symm Hwn.out)];simp only [World.cell?_drew];rw [World.cell?_alloc_lt _ _ _ hsa];assumption)
           · (rw [hg3.cell_far _ (by simp;omega) (Ne.symm Hwn.out)];simp only [World.cell?_drew];rw [World.cell?_alloc_lt _ _ _ hsa];assumption)
           · (rw [hg3.cell_far _ (by simp;omega) (Ne.symm Hwn.out)];simp only [World.cell?_drew];rw [World.cell?_alloc_lt _ _ _ hsa];assumption)))
       (first
         |(refine GJ _ (by rfl) _ _ _ (by rfl) W.heap.size 3 i3 (.int .i64 0) 1 8 Tryz.underlying22 hi3 hy0 hy1 hy2 rfl (by decide) (.slice wv1 wv2 wv3) p.length (bO p) (by rfl) Hwo.out
            ⟨wa.heap.size,0,none⟩ 1 1 [.int .i64 j] (by rfl) (by rfl) (World.news_of_block (cs:=#[.int .i64 j]) (t:=3) (fr:=(0,0)) (heap_alloc_new wa _)) (by simp [Value.oneCell']) (by decide) hpm hpb (by simp;omega) ?_;intro g3 aWD w3 hown3 hg3 aDU hlt3)
         |(go_at_call 167;refine (HI.out ((yv,yn),yk) (List.mem_of_getElem? Hy.out) W _ _ _ _ (xs++ys) (p++[(j:Int)]) UD.out (H6 Ho.out Hw.out Hne.out HB.out HR.out Hwb.out hg3 hown3 aDU).2.2.1 (H6 Ho.out Hw.out Hne.out HB.out HR.out Hwb.out hg3 hown3 aDU).1 (OW hown3) (H6 Ho.out Hw.out Hne.out HB.out HR.out Hwb.out hg3 hown3 aDU).2.1 aOH aTK).mono ?_;rintro e w4 ⟨vz,zs,rfl,k1,k2,k3,k4,k5⟩;have hk4:∀i,w4.cell? ⟨wr.heap.size,i,none⟩=w3.cell? ⟨wr.heap.size,i,none⟩:=aNA HR.out hg3 aDU hsa aUI.out k5))
      have hvz:∃zg zc,vz= .slice (some ⟨zg,0,none⟩) (xs.length+(ys++zs).length) zc:=by obtain ⟨zg,zc,e,_⟩:=k1.form (by have:=HR.out.2.1.1;simp [GD] at this;simp;omega);exact ⟨zg,zc,by rw [e];simp [Nat.add_assoc]⟩
      obtain ⟨zg,zc,hvz⟩:=hvz;have fQ:=aB (aJ9 Ho.out Hw.out Hne.out HB.out HR.out Hy.out Hwb.out hg3 hown3 aDU k1 k2 k3 (YD k4) k5);rw [hvz] at fQ ⊢;clear k1 k2 k3 k4 k5 hg3 hown3 aDU hlt3 hvz
      go_wp2_with fail
      go_roundw
      case rel=>exact ⟨j+1,zg,zc,ys++zs,by omega,by go_num,rfl,fQ.out⟩
      case measure=>simp [intOf];omega
    · have dC:Hid (GD k p j=dJ (false,n) k p):=by
       have e:j=Fo.len k:=by omega
       rw [Hid,e,Hpl.out,aI1]
      have hR':=HR.out;rw [vK,dC.out] at hR';have HR':=aB hR';clear hR'
      go_wp2_with fail
      go_ret;obtain ⟨h1,h2,h3,h4,h5⟩:=HR'.out;exact ⟨_,ys,rfl,h1,h2,h3,h4,h5⟩
 · have Hpl:Hid (dJ (true,n) k p=[]):=rfl;go_enter Tryz.func167,Tryz.ntmps167
   go_wp2_with fail
   go_ret;refine ⟨_,[],rfl,?_,?_,.inl rfl,?_,Fr.of_below (aD _ _) _ _⟩
   · simpa using bA Ho.out (λg hg=>Below.heap_alloc _ _ _ (aJ Ho.out g hg).2)
   · rw [Hpl.out];exact ⟨rfl,λi y q hy=>by simp at hy⟩
   · exact bA Hw.out (λg hg=>Below.heap_alloc _ _ _ (aJ Hw.out g hg).2)
theorem aBA (x:Bool×Int) (k:Fo) (a:Value) (w:World) (hS:cO w k a) (hb:aM k<=9000):
 Calls Tryz.prog 147 #[.agg #[.bool x.1,.int .i64 x.2,a]] w λe w'=>∃vo ys,e= .returned vo/\w'.ownsRow w.heap.size 22 1 vo ys.length ys/\Pw w' w.heap.size vo.ownBlock ys (dJ x k [])/\Below w.heap.size w w':=by
 obtain ⟨v,n⟩:=x;have HS:=aB hS;obtain ⟨ad,c,b,o,rfl,-,-,-,-⟩:=hS;go_enter Tryz.func147,Tryz.ntmps147
 go_wp2_with fail
 refine (aNB (v,n) k (w.alloc (.cells #[.bool v,.int .i64 n,.slice ad (Fo.len k) c] 84)) _ _ _ _ [] [] (HS.out.alloc _) (Below.refl _ _) ⟨rfl,.inl ⟨rfl,rfl⟩⟩ ⟨rfl,.inl ⟨rfl,rfl⟩⟩ (λg hg=>by simp [Value.ownBlock] at hg) (by simp;omega) (by simp;omega)).mono ?_;rintro e w1 ⟨vo,ys,rfl,h1,h2,h3,h4,h5⟩;have hB:=h5.below (Nat.le_refl _) (λg hg=>by simp [Value.ownBlock] at hg) (λg hg=>by simp [Value.ownBlock] at hg);have H:=aB (And.intro h1 (And.intro h2 (aW hB)));clear h1 h2 h3 h4 h5 hB
 go_wp2_with fail
 go_ret;obtain ⟨h1,h2,h3⟩:=H.out;refine ⟨vo,ys,rfl,wX (by simpa using h1) (by simp),Pw.keep h2 (Fr.refl w1 none none) (λq _ _ q3=>⟨λe=>(by cases e),λe=>(by cases e),q3⟩) (by simp),h3⟩
section
abbrev str (l:List UInt8):Value:= .string ⟨l.toArray⟩
theorem xG (d:UInt8) (r:List UInt8) (h:0<(⟨(d::r).toArray⟩:ByteArray).size):(⟨(d::r).toArray⟩:ByteArray)[0]'h=d:=rfl
theorem rY (d:UInt8) (r:List UInt8):(⟨(d::r).toArray⟩:ByteArray).extract 1 (r.length+1)=⟨r.toArray⟩:=by apply ByteArray.ext;rw [ByteArray.data_extract];simp
attribute [local go_sem] xG rY
def eU (i:Int):UInt8:=if i=0 then 40 else 44
def qD (c:UInt8):List UInt8->Int×List UInt8
 |[]=>(8,[])
 |d::r=>if d=c then (0,r) else (2,[])
def CW:List UInt8->Int×(Bool×Int)×List UInt8
 |[]=>(8,(false,0),[])
 |d::r=>if (d.toNat:Int) - 48<0\/5<=(d.toNat:Int) - 48 then (3,(false,0),[]) else (0,(true,(d.toNat:Int) - 48),r)
abbrev trm (x:Bool×Int) (a:Value):Value:= .agg #[.bool x.1,.int .i64 x.2,a]
end
def Fo.snoc:Fo->Bool×Int->Fo->Fo
 | .nil,x,k=> .node 0 0 x k .nil
 | .node p q y l r,x,k=> .node p q y l (Fo.snoc r x k)
theorem JP:∀(F:Fo) (x:Bool×Int) (k:Fo),Fo.len (Fo.snoc F x k)=Fo.len F+1
 | .nil,_,_=>rfl
 | .node _ _ _ _ r,x,k=>by simp [Fo.snoc,Fo.len,JP r x k]
def nC (R:List UInt8->Int×((Bool×Int)×Fo)×List UInt8):Nat->Int->Fo->List UInt8->Int×Fo×List UInt8
 |0,_,acc,t=>(0,acc,t)
 |m+1,i,acc,t=>
  if (qD (eU i) t).1≠0 then ((qD (eU i) t).1,.nil,[]) else
  if (R (qD (eU i) t).2).1≠0 then ((R (qD (eU i) t).2).1,.nil,[]) else
  nC R m (i+1) (Fo.snoc acc (R (qD (eU i) t).2).2.1.1 (R (qD (eU i) t).2).2.1.2) (R (qD (eU i) t).2).2.2
def pM (R:List UInt8->Int×((Bool×Int)×Fo)×List UInt8) (many:Int) (t:List UInt8):Int×Fo×List UInt8:=
 if many<=0 then (0,.nil,t) else
 if (nC R many.toNat 0 .nil t).1≠0 then ((nC R many.toNat 0 .nil t).1,.nil,[]) else
 if (qD 41 (nC R many.toNat 0 .nil t).2.2).1≠0 then ((qD 41 (nC R many.toNat 0 .nil t).2.2).1,.nil,[]) else
 (0,(nC R many.toNat 0 .nil t).2.1,(qD 41 (nC R many.toNat 0 .nil t).2.2).2)
def bE (s:List Int):Nat->List UInt8->Int×((Bool×Int)×Fo)×List UInt8
 |0,_=>(8,((false,0),.nil),[])
 |_+1,[]=>(8,((false,0),.nil),[])
 |f+1,c::r=>
  if c=88 then ((CW r).1,((CW r).2.1,.nil),(CW r).2.2) else
  if (c.toNat:Int) - 97<0\/(s.length:Int)<=(c.toNat:Int) - 97 then (7,((false,0),.nil),[]) else
  if (pM (bE s f) (s.getD ((c.toNat:Int) - 97).toNat 0) r).1≠0 then ((pM (bE s f) (s.getD ((c.toNat:Int) - 97).toNat 0) r).1,((false,0),.nil),[]) else
  (0,((false,(c.toNat:Int) - 97),(pM (bE s f) (s.getD ((c.toNat:Int) - 97).toNat 0) r).2.1),(pM (bE s f) (s.getD ((c.toNat:Int) - 97).toNat 0) r).2.2)
theorem RX (c:UInt8) (l:List UInt8) (h:(qD c l).1=0):(qD c l).2.length+1=l.length:=by
 cases l with
 |nil=>simp [qD] at h
 |cons d r=>
  simp only [qD] at h ⊢;by_cases e:d=c
  · simp [e]
  · simp [e] at h
theorem aPS (c:UInt8) (l:List UInt8):(qD c l).2.length<=l.length:=by
 cases l with
 |nil=>simp [qD]
 |cons d r=>simp only [qD];split<;>simp
theorem aLQ (l:List UInt8):(CW l).2.2.length<=l.length:=by
 cases l with
 |nil=>simp [CW]
 |cons d r=>simp only [CW];split<;>simp
theorem VZ {R:List UInt8->Int×((Bool×Int)×Fo)×List UInt8}:∀(m:Nat) (i:Int) (acc:Fo) (t:List UInt8),(∀u,u.length<t.length->(R u).2.2.length<=u.length)->(nC R m i acc t).2.2.length<=t.length
 |0,_,_,_,_=>Nat.le_refl _
 |m+1,i,acc,t,hR=>by
  rw [nC];by_cases h1:(qD (eU i) t).1=0
  · rw [if_neg (by simpa using h1)];have e1:=RX _ _ h1;by_cases h2:(R (qD (eU i) t).2).1=0
    · rw [if_neg (by simpa using h2)];have e2:=hR (qD (eU i) t).2 (by omega);have:=VZ m (i+1) (Fo.snoc acc (R (qD (eU i) t).2).2.1.1 (R (qD (eU i) t).2).2.1.2) (R (qD (eU i) t).2).2.2 (λu hu=>hR u (by omega));omega
    · rw [if_pos h2];simp
  · rw [if_pos h1];simp
theorem VY (s:List Int):∀(f:Nat) (t:List UInt8),(bE s f t).2.2.length<=t.length
 |0,_=>by simp [bE]
 |_+1,[]=>by simp [bE]
 |f+1,c::r=>by
  rw [bE];split
  · have:=aLQ r;simp only [List.length_cons];omega
  · split
    · simp
    · split
      · simp
      · unfold pM;split
        · simp
        · split
          · simp
          · split
            · simp
            · have h1:=VZ (R:=bE s f) (s.getD ((c.toNat:Int) - 97).toNat 0).toNat 0 .nil r (λu _=>VY s f u);have h2:=aPS 41 (nC (bE s f) (s.getD ((c.toNat:Int) - 97).toNat 0).toNat 0 .nil r).2.2;simp only [List.length_cons];omega
def dN (X:Nat->Prop) (w:World):Fo->List Value->Prop
 | .nil,xs=>xs=[]
 | .node _ _ x k r,xs=>∃a ys,xs= .bool x.1:: .int .i64 x.2::a::ys/\SB X w k a/\dN X w r ys
theorem dN.frame {X Y:Nat->Prop} {w w':World} (wJ:∀q,X q->Y q) (hr:∀q i,X q->w'.cell? ⟨q,i,none⟩=w.cell? ⟨q,i,none⟩):∀{F:Fo} {xs:List Value},dN X w F xs->dN Y w' F xs
 | .nil,_,h=>h
 | .node _ _ _ _ _,_,⟨a,ys,h1,h2,h3⟩=>⟨a,ys,h1,h2.frame wJ hr,dN.frame wJ hr h3⟩
theorem dN.snoc {X:Nat->Prop} {w:World} {x:Bool×Int} {k:Fo} {a:Value} (hk:SB X w k a):∀{F:Fo} {xs:List Value},dN X w F xs->dN X w (Fo.snoc F x k) (xs++[.bool x.1,.int .i64 x.2,a])
 | .nil,_,h=>by rw [dN] at h;subst h;exact ⟨a,[],rfl,hk,rfl⟩
 | .node _ _ _ _ _,_,⟨b,ys,h1,h2,h3⟩=>by subst h1;exact ⟨b,ys++_,rfl,h2,dN.snoc hk h3⟩
theorem dN.len {X:Nat->Prop} {w:World}:∀{F:Fo} {xs:List Value},dN X w F xs->xs.length=Fo.len F*3
 | .nil,_,h=>by rw [dN] at h;subst h;rfl
 | .node _ _ _ _ r,_,⟨a,ys,h1,_,h3⟩=>by subst h1;simp only [List.length_cons,Fo.len,h3.len];omega
theorem dN.at {X Y:Nat->Prop} {w:World} (wJ:∀q,X q->Y q) {g:Nat}:∀{F:Fo} {xs:List Value} {o:Nat},dN X w F xs->(∀j,j<xs.length->w.cell? ⟨g,o+j,none⟩=xs[j]?)->zN Y w F g o
 | .nil,_,_,_,_=>trivial
 | .node _ _ x k r,_,o,⟨a,ys,h1,h2,h3⟩,hc=>by subst h1;have c0:=hc 0 (by simp);have c1:=hc 1 (by simp);have c2:=hc 2 (by simp);obtain ⟨aa,c,b',o',rfl,q2,q3,q4,q5⟩:=h2;refine ⟨by simpa using c0,by simpa using c1,⟨aa,c,b',o',by simpa using c2,λh=>⟨(q2 h).1,wJ _ (q2 h).2⟩,q3,q4,zN.frame wJ (λ_ _ _=>rfl) q5 (λh=>(q2 h).2)⟩,?_⟩;refine dN.at wJ h3 (λj hj=>?_);have:=hc (j+3) (by simp;omega);rw [show o+3+j=o+(j+3) by omega,this];simp
theorem aPT {X Y:Nat->Prop} {w:World} {lo:Nat} {v:Value} {F:Fo} {xs:List Value} (h:w.ownsRow lo 84 3 v (Fo.len F) xs) (hc:dN X w F xs) (wJ:∀q,X q->Y q) (hg:∀g,v.ownBlock=some g->Y g):SB Y w F v:=by
 rcases h.2 with ⟨rfl,h0⟩|⟨g,bW,cur,rfl,hl,hh,hn,hm,hs,ht⟩
 · have:=pU h0;subst this;exact SB.nil Y w
 · refine ⟨_,bW,g,0,rfl,λ_=>⟨rfl,hg g rfl⟩,hn,hm,hc.at wJ (λj hj=>?_)⟩;rw [hc.len] at hj;rw [Nat.zero_add];exact h.cellAt j hj
section
attribute [local go_sem] xG rY
theorem aHQ {s:List Int} (h:s.all bN=true) {i:Nat} (hi:i<s.length):0<=s.getD i 0/\s.getD i 0<=2:=by have:=List.all_eq_true.1 h s[i] (List.getElem_mem hi);simp only [bN,decide_eq_true_eq] at this;simpa [List.getD_eq_getElem?_getD,hi] using this
theorem JV (c:UInt8) (r:List UInt8) (w:World):(Instr.slice 9 (.string ⟨(c::r).toArray⟩) (some (.int .i64 1)) none none).run Tryz.prog w= .ok (.string ⟨r.toArray⟩) w:=by rw [run_slice_string_l (ht:=Tryz.underlying9) (kl:= .i64) (l:=1) (h0:=by decide) (h1:=by simp [ByteArray.size];omega)];have:=rY c r;simp only [Int.toNat_one];rw [show (⟨(c::r).toArray⟩:ByteArray).size=r.length+1 from by simp [ByteArray.size],this]
theorem vR {w w1:World} {x y z:Value} {T:TypeId} (h:Below (w.alloc (.cells #[x,y,z] T)).heap.size (w.alloc (.cells #[x,y,z] T)) w1):
 w1.cell? ⟨w.heap.size,0,none⟩=some x/\w1.cell? ⟨w.heap.size,1,none⟩=some y/\w1.cell? ⟨w.heap.size,2,none⟩=some z/\(∀i,w1.frozen? ⟨w.heap.size,i,none⟩=false)/\Below w.heap.size w w1/\w.heap.size<w1.heap.size:=by
 have h':Below (w.heap.size+1) (w.alloc (.cells #[x,y,z] T)) w1:=by simpa using h
 obtain ⟨a,b,c,d,e⟩:=nI h';exact ⟨a,b,c,λi=>by rw [h'.frozen (by simp)];simp,d,e⟩
theorem SB.set3 {X:Nat->Prop} {w:World} {k:Fo} {v:Value} {b o:Nat} {x y z:Value} (h:SB X w k v) (hb:¬X b):SB X (set3 w b o x y z) k v:=
 h.frame (λ_ h=>h) (λ_ _ hq=>aS (.inl (λe=>hb (e▸hq))))
end
abbrev uF:(Bool×Int)×Fo:=((false,0),.nil)
def gF (s:List Int) (l:List UInt8):Int×((Bool×Int)×Fo):=
 if gX s≠0 then (gX s,uF) else if 48<l.length then (4,uF) else
 if (bE s (l.length+1) l).1≠0 then ((bE s (l.length+1) l).1,uF) else
 if (bE s (l.length+1) l).2.2≠[] then (2,uF) else
 if aU s (bE s (l.length+1) l).2.1.1 (bE s (l.length+1) l).2.1.2≠0 then (aU s (bE s (l.length+1) l).2.1.1 (bE s (l.length+1) l).2.1.2,uF) else
 (0,(bE s (l.length+1) l).2.1)
theorem GY {s:List Int} (h:gX s=0):s.all bN=true/\s.length<=6/\0<s.length:=by
 unfold gX at h;by_cases h1:s.length=0\/6<s.length
 · rw [if_pos h1] at h;omega
 · rw [if_neg h1] at h;by_cases h2:s.all bN=true
   · exact ⟨h2,by omega,by omega⟩
   · rw [if_neg h2] at h;omega
theorem cO.nil (w:World):cO w .nil (.slice none 0 0):=(SB.nil (λ_=>True) w).toS
end Go.Proofs.YtoklbpbmghbhnaeGreat
