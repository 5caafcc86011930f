import Derived.Test.YtoklbpbmghbhnaeGreatG09
import Derived.Deep.LoopGhost
namespace Go.Proofs.YtoklbpbmghbhnaeGreat
set_option maxRecDepth 100000
set_option maxHeartbeats 4000000
open Go.RowKit Go.Deep Go.ChangeShapes Go.WideShapes
def Cs (w:World) (lv:Value) (m size:Nat) (news:List Value):Prop:=
 ∃(a:Option Addr) (c:Nat),lv= .slice a m c/\news.length=m*size/\(∀u∈news,u.oneCell'=true)/\(a=none->m=0)/\∀ad,a=some ad->∀j u,news[j]?=some u->w.cell? (ad.add j)=some u
theorem L9 {w:World} (base:Nat) (t ty e:TypeId) (i:TypeInfo) (size:Nat) (ht:Tryz.prog.underlying t=some (.slice e)) (hi:Tryz.prog.info? e=some i) (v:Value) (n c:Nat) (xs:List Value) (hown:w.ownsRow base e size v n xs):
 (Builtin.append_ #[t,t] ty #[v,.slice none 0 c]).run Tryz.prog w= .ok v w:=by
 rcases hown.2 with ⟨rfl,rfl⟩|⟨g,bW,cur,rfl,_,_,hnc,_⟩
 · simp [Builtin.append_,run_underlying ht,sizeOf,typeInfo,hi,Builtin.lenOf,Builtin.firstCells]
 · simp [Builtin.append_,run_underlying ht,sizeOf,typeInfo,hi,Builtin.lenOf,Builtin.firstCells,hnc,storeCells]
theorem L6 {w:World} (base:Nat) (t ty e:TypeId) (i:TypeInfo) (z:Value) (size bytes:Nat) (ht:Tryz.prog.underlying t=some (.slice e)) (hi:Tryz.prog.info? e=some i) (hz:i.zero=some z) (hsize:i.size=size) (hby:i.bytes=bytes) (hzs:z.cells.size=size) (hsz:0<size)
 (v:Value) (n:Nat) (xs:List Value) (hown:w.ownsRow base e size v n xs) (lv:Value) (m:Nat) (news:List Value) (hC:Cs w lv m size news) (h63:n+m<=maxLen) (hb:(n+m)*bytes<=140737488355328) (hbase:base<=w.heap.size):
 ∃v' w',(Builtin.append_ #[t,t] ty #[v,lv]).run Tryz.prog w= .ok v' w'/\w'.ownsRow base e size v' (n+m) (xs++news)/\w.grownBy w' v.ownBlock/\(v'.ownBlock=v.ownBlock\/v'.ownBlock=some w.heap.size):=by
 obtain ⟨a,c,rfl,hl,h1,h0,hc⟩:=hC;cases a with
 |none=>have hm:=h0 rfl;subst hm;have hn:news=[]:=List.length_eq_zero_iff.1 (by rw [hl];simp);subst hn;exact ⟨v,w,L9 base t ty e i size ht hi v n c xs hown,by simpa using hown,⟨rfl,rfl,rfl,Nat.le_refl _,λ_ _ _=>rfl⟩,.inl rfl⟩
 |some ad=>obtain ⟨v',w',hr,h2,h3,_,h5⟩:=run_append_own_at (P:=Tryz.prog) w base t ty e i z size bytes ht hi hz hsize hby hzs hsz v n xs hown ad m c news hl (hc ad rfl) h1 h63 hb hbase;exact ⟨v',w',hr,h2,h3,h5⟩
theorem MU {w:World} {o:Oper} {a:Act} {K:Act->World->Prop} {Q:Exit->Act->World->Prop} (s x:Operand) (t:TypeId)
 (ho:o.op= .call {callee:= .builtin .append,args:=#[s,x],argTypes:=#[t,t]}) (base:Nat) (e:TypeId) (i:TypeInfo) (z:Value) (size bytes:Nat) (ht:Tryz.prog.underlying t=some (.slice e)) (hi:Tryz.prog.info? e=some i) (hz:i.zero=some z) (hsize:i.size=size) (hby:i.bytes=bytes) (hzs:z.cells.size=size) (hsz:0<size)
 (v:Value) (n:Nat) (xs:List Value) (hs:a.eval s=v) (hown:w.ownsRow base e size v n xs) (lv:Value) (m:Nat) (news:List Value) (hx:a.eval x=lv) (hC:Cs w lv m size news) (h63:n+m<=maxLen) (hb:(n+m)*bytes<=140737488355328) (hbase:base<=w.heap.size)
 (h:∀v' w',w'.ownsRow base e size v' (n+m) (xs++news)->w.grownBy w' v.ownBlock->(v'.ownBlock=v.ownBlock\/v'.ownBlock=some w.heap.size)->K (a.put o.dst v') w'):o.wp Tryz.prog a w K Q:=by
 obtain ⟨v',w',hr,h2,h3,h4⟩:=L6 base t o.type e i z size bytes ht hi hz hsize hby hzs hsz v n xs hown lv m news hC h63 hb hbase;unfold Oper.wp execOp;simp only [ho,resolve,invoke,builtin,Sem.run_bind,Sem.run_pure,Result.andThen_ok,List.map_toArray,List.map_cons,List.map_nil,hs,hx,hr];exact h v' w' h2 h3 h4
theorem bX {w:World} {ops:Array Oper} {rest:List Oper} {o:Oper} {a:Act} {Q:Exit->Act->World->Prop} (hgd:o.guard=none) (s x:Operand) (t:TypeId)
 (ho:o.op= .call {callee:= .builtin .append,args:=#[s,x],argTypes:=#[t,t]}) (base:Nat) (e:TypeId) (i:TypeInfo) (z:Value) (size bytes:Nat) (ht:Tryz.prog.underlying t=some (.slice e)) (hi:Tryz.prog.info? e=some i) (hz:i.zero=some z) (hsize:i.size=size) (hby:i.bytes=bytes) (hzs:z.cells.size=size) (hsz:0<size)
 (v:Value) (n:Nat) (xs:List Value) (hs:a.eval s=v) (hown:w.ownsRow base e size v n xs) (lv:Value) (m:Nat) (news:List Value) (hx:a.eval x=lv) (hC:Cs w lv m size news) (h63:n+m<=maxLen) (hb:(n+m)*bytes<=140737488355328) (hbase:base<=w.heap.size)
 (h:∀v' w',w'.ownsRow base e size v' (n+m) (xs++news)->w.grownBy w' v.ownBlock->(v'.ownBlock=v.ownBlock\/v'.ownBlock=some w.heap.size)->wpList Tryz.prog ops Q rest (a.put o.dst v') w'):wpList Tryz.prog ops Q (o::rest) a w:=
 wpList_plain hgd λ_ hK=>MU s x t ho base e i z size bytes ht hi hz hsize hby hzs hsz v n xs hs hown lv m news hx hC h63 hb hbase λv' w' h2 h3 h4=>hK _ _ (h v' w' h2 h3 h4)
theorem J2 {w:World} {base b:Nat} {e:TypeId} {size:Nat} (h:w.heap[b]?=some (.cells #[] e)) (hb:base<=b):w.ownsRow base e size (.slice (some ⟨b,0,none⟩) 0 0) 0 []:=
 ⟨by simp,.inr ⟨b,0,#[],rfl,hb,h,Nat.le_refl _,Nat.zero_le _,by simp,by simp⟩⟩
def aRH:List Tm->Fo
 |[]=> .nil
 |t::ts=> .node 0 0 t.1 t.2 (aRH ts)
def Row (lo:Nat) (w:World) (v:Value) (ts:List Tm):Prop:=∃xs,w.ownsRow lo 84 3 v ts.length xs/\dN (λq=>q<lo) w (aRH ts) xs
theorem Row.nil (lo:Nat) (w:World):Row lo w (.slice none 0 0) []:=⟨[],World.ownsRow_nil _ _ _ _,rfl⟩
section
attribute [local go_sem ↓] Go.wp_at_zero Go.wp_at_succ
def H7 (w:World) (R:Option Sb) (e:Ending) (w':World):Prop:=
 Below w.heap.size w w'/\∃(z1:Option Addr) (m z3:Nat) (ok:Bool),e= .returned (.tuple #[.slice z1 m z3,.bool ok])/\(ok=false->R=none/\z1=none/\m=0/\z3=0)/\(ok=true->∃s',R=some s'/\m=s'.length/\dZ w' s' (.slice z1 m z3))
theorem aEE {w W2:World} {x y:Bool×Int} {k l:Fo} {a c:Value} (hB:Below w.heap.size w W2) (hS:cO w k a) (hU:cO w l c) (hs:w.heap.size+1+1=W2.heap.size):
 NC w.heap.size (W2.alloc (.cells #[.bool x.1,.int .i64 x.2,a,.bool y.1,.int .i64 y.2,c] 160)) [] [((x,k),(y,l))] (.slice none 0 0) (.slice (some ⟨w.heap.size+1+1,0,none⟩) 1 1) [] [.bool x.1,.int .i64 x.2,a,.bool y.1,.int .i64 y.2,c]:=by
 have hb3:Below w.heap.size w (W2.alloc (.cells #[.bool x.1,.int .i64 x.2,a,.bool y.1,.int .i64 y.2,c] 160)):=hB.alloc hB.size _;have hsz:=hB.size;have hw:∀q,q<w.heap.size->XX (W2.alloc (.cells #[.bool x.1,.int .i64 x.2,a,.bool y.1,.int .i64 y.2,c] 160)) (.slice none 0 0) (.slice (some ⟨w.heap.size+1+1,0,none⟩) 1 1) q:=λq hq=>by refine ⟨by simp;omega,by simp [Value.ownBlock],?_⟩;intro e;simp [Value.ownBlock] at e;omega
 refine ⟨⟨World.ownsRow_nil _ _ _ _,rfl,λq hq=>⟨hq.1,hq.2.1⟩⟩,⟨?_,?_,λq hq=>⟨hq.1,hq.2.2⟩⟩⟩
 · have:=World.ownsRow_lit (base:=w.heap.size) (e:=160) (size:=6) W2 #[.bool x.1,.int .i64 x.2,a,.bool y.1,.int .i64 y.2,c] 1 hsz (by decide) rfl;rw [←hs] at this;exact this
 · exact CC.one (p:=((x,k),(y,l))) ((hS.toB.grow (λ_ h=>h) hb3).wide hw) ((hU.toB.grow (λ_ h=>h) hb3).wide hw)
theorem aO6 {W w1:World} {x y z:Value} (h:Below (W.alloc (.cells #[x,y,z] 84)).heap.size (W.alloc (.cells #[x,y,z] 84)) w1):w1.cell? ⟨W.heap.size,0,none⟩=some x/\w1.cell? ⟨W.heap.size,1,none⟩=some y/\w1.cell? ⟨W.heap.size,2,none⟩=some z/\(∀i,w1.frozen? ⟨W.heap.size,i,none⟩=false)/\W.heap.size<w1.heap.size:=by obtain ⟨a,b,c,d,_,e⟩:=vR h;exact ⟨a,b,c,d,e⟩
theorem aNO {W w1:World} {x y z:Value} (h:Below (W.alloc (.cells #[x,y,z] 84)).drew.heap.size (W.alloc (.cells #[x,y,z] 84)).drew w1):w1.cell? ⟨W.heap.size,0,none⟩=some x/\w1.cell? ⟨W.heap.size,1,none⟩=some y/\w1.cell? ⟨W.heap.size,2,none⟩=some z/\(∀i,w1.frozen? ⟨W.heap.size,i,none⟩=false)/\W.heap.size<w1.heap.size:=
 aO6 ((Below.refl _ _).drew.trans h)
theorem aO5 {W w1:World} {x y z x' y' z':Value} (h:Below ((W.alloc (.cells #[x,y,z] 84)).alloc (.cells #[x',y',z'] 84)).heap.size ((W.alloc (.cells #[x,y,z] 84)).alloc (.cells #[x',y',z'] 84)) w1):
 (w1.cell? ⟨W.heap.size,0,none⟩=some x/\w1.cell? ⟨W.heap.size,1,none⟩=some y/\w1.cell? ⟨W.heap.size,2,none⟩=some z/\(∀i,w1.frozen? ⟨W.heap.size,i,none⟩=false))/\
 (w1.cell? ⟨W.heap.size+1,0,none⟩=some x'/\w1.cell? ⟨W.heap.size+1,1,none⟩=some y'/\w1.cell? ⟨W.heap.size+1,2,none⟩=some z'/\(∀i,w1.frozen? ⟨W.heap.size+1,i,none⟩=false))/\W.heap.size+1<w1.heap.size:=by
 obtain ⟨a,b,c,d,e1,e2⟩:=vR h;obtain ⟨a',b',c',d',_,_⟩:=vR e1;rw [World.size_alloc] at a b c d e2;exact ⟨⟨a',b',c',d'⟩,⟨a,b,c,d⟩,e2⟩
theorem aNN {W w1:World} {x y z x' y' z':Value} (h:Below ((W.alloc (.cells #[x,y,z] 84)).alloc (.cells #[x',y',z'] 84)).drew.heap.size ((W.alloc (.cells #[x,y,z] 84)).alloc (.cells #[x',y',z'] 84)).drew w1):
 (w1.cell? ⟨W.heap.size,0,none⟩=some x/\w1.cell? ⟨W.heap.size,1,none⟩=some y/\w1.cell? ⟨W.heap.size,2,none⟩=some z/\(∀i,w1.frozen? ⟨W.heap.size,i,none⟩=false))/\
 (w1.cell? ⟨W.heap.size+1,0,none⟩=some x'/\w1.cell? ⟨W.heap.size+1,1,none⟩=some y'/\w1.cell? ⟨W.heap.size+1,2,none⟩=some z'/\(∀i,w1.frozen? ⟨W.heap.size+1,i,none⟩=false))/\W.heap.size+1<w1.heap.size:=
 aO5 ((Below.refl _ _).drew.trans h)
theorem UF {p q:Prop} (h:p) (k:p->q):q:=k h
def C3 (w:World) (b:Nat) (x y z:Value):Prop:=w.cell? ⟨b,0,none⟩=some x/\w.cell? ⟨b,1,none⟩=some y/\w.cell? ⟨b,2,none⟩=some z
theorem aRI {wn W:World} {x y z x' y' z':Value} (h:Below wn.heap.size wn W):C3 ((W.alloc (.cells #[x,y,z] 84)).alloc (.cells #[x',y',z'] 84)) W.heap.size x y z/\C3 ((W.alloc (.cells #[x,y,z] 84)).alloc (.cells #[x',y',z'] 84)) (W.heap.size+1) x' y' z'/\Below wn.heap.size wn ((W.alloc (.cells #[x,y,z] 84)).alloc (.cells #[x',y',z'] 84)):=by
 have hs:=h.size;refine ⟨⟨?_,?_,?_⟩,⟨aF (World.size_alloc _ _),aF (World.size_alloc _ _),aF (World.size_alloc _ _)⟩,(h.alloc hs _).alloc (by simp;omega) _⟩
 · rw [World.cell?_alloc_lt _ _ _ (by simp)];exact aF rfl
 · rw [World.cell?_alloc_lt _ _ _ (by simp)];exact aF rfl
 · rw [World.cell?_alloc_lt _ _ _ (by simp)];exact aF rfl
theorem aKS {wn W:World} {b:Nat} {x y z x' y' z' u0 u1 u2:Value} (h:Below wn.heap.size wn W) (hb:wn.heap.size<=b) (h0:W.cell? ⟨b,0,none⟩=some u0) (h1:W.cell? ⟨b,1,none⟩=some u1) (h2:W.cell? ⟨b,2,none⟩=some u2):
 C3 ((((W.setCell ⟨b,0,none⟩ x).setCell ⟨b,1,none⟩ y).setCell ⟨b,2,none⟩ z).alloc (.cells #[x',y',z'] 84)) b x y z/\C3 ((((W.setCell ⟨b,0,none⟩ x).setCell ⟨b,1,none⟩ y).setCell ⟨b,2,none⟩ z).alloc (.cells #[x',y',z'] 84)) W.heap.size x' y' z'/\Below wn.heap.size wn ((((W.setCell ⟨b,0,none⟩ x).setCell ⟨b,1,none⟩ y).setCell ⟨b,2,none⟩ z).alloc (.cells #[x',y',z'] 84)):=by
 have hs:=h.size;have hbl:b<W.heap.size:=World.block_lt_of_cell? _ _ h0;have hsz:(set3 W b 0 x y z).heap.size=W.heap.size:=bQ;obtain ⟨g0,g1,g2⟩:=kJ (x:=x) (y:=y) (z:=z) (o:=0) h0 h1 h2;have e:(((W.setCell ⟨b,0,none⟩ x).setCell ⟨b,1,none⟩ y).setCell ⟨b,2,none⟩ z)=set3 W b 0 x y z:=rfl;rw [e];refine ⟨⟨?_,?_,?_⟩,⟨aF hsz,aF hsz,aF hsz⟩,(aT (o:=0) h hb).alloc (by rw [hsz];exact hs) _⟩
 · rw [World.cell?_alloc_lt _ _ _ (by rw [hsz];exact hbl)];exact g0
 · rw [World.cell?_alloc_lt _ _ _ (by rw [hsz];exact hbl)];exact g1
 · rw [World.cell?_alloc_lt _ _ _ (by rw [hsz];exact hbl)];exact g2
theorem aDV {wn W:World} {b d:Nat} {x y z x' y' z' u0 u1 u2 t0 t1 t2:Value} (h:Below wn.heap.size wn W) (hb:wn.heap.size<=b) (hd:wn.heap.size<=d) (hn:b≠d) (h0:W.cell? ⟨b,0,none⟩=some u0) (h1:W.cell? ⟨b,1,none⟩=some u1) (h2:W.cell? ⟨b,2,none⟩=some u2) (k0:W.cell? ⟨d,0,none⟩=some t0) (k1:W.cell? ⟨d,1,none⟩=some t1) (k2:W.cell? ⟨d,2,none⟩=some t2):
 C3 ((((((W.setCell ⟨b,0,none⟩ x).setCell ⟨b,1,none⟩ y).setCell ⟨b,2,none⟩ z).setCell ⟨d,0,none⟩ x').setCell ⟨d,1,none⟩ y').setCell ⟨d,2,none⟩ z') b x y z/\C3 ((((((W.setCell ⟨b,0,none⟩ x).setCell ⟨b,1,none⟩ y).setCell ⟨b,2,none⟩ z).setCell ⟨d,0,none⟩ x').setCell ⟨d,1,none⟩ y').setCell ⟨d,2,none⟩ z') d x' y' z'/\Below wn.heap.size wn ((((((W.setCell ⟨b,0,none⟩ x).setCell ⟨b,1,none⟩ y).setCell ⟨b,2,none⟩ z).setCell ⟨d,0,none⟩ x').setCell ⟨d,1,none⟩ y').setCell ⟨d,2,none⟩ z'):=by
 obtain ⟨g0,g1,g2⟩:=kJ (x:=x) (y:=y) (z:=z) (o:=0) h0 h1 h2;have m0:(set3 W b 0 x y z).cell? ⟨d,0,none⟩=some t0:=(aS (.inl (Ne.symm hn))).trans k0;have m1:(set3 W b 0 x y z).cell? ⟨d,1,none⟩=some t1:=(aS (.inl (Ne.symm hn))).trans k1;have m2:(set3 W b 0 x y z).cell? ⟨d,2,none⟩=some t2:=(aS (.inl (Ne.symm hn))).trans k2;obtain ⟨l0,l1,l2⟩:=kJ (x:=x') (y:=y') (z:=z') (o:=0) m0 m1 m2;exact ⟨⟨(aS (o:=0) (.inl hn)).trans g0,(aS (o:=0) (.inl hn)).trans g1,(aS (o:=0) (.inl hn)).trans g2⟩,⟨l0,l1,l2⟩,aT (o:=0) (aT (o:=0) h hb) hd⟩
theorem aHE {p q r:Prop} (h:p/\q/\r):q/\p/\r:=⟨h.2.1,h.1,h.2.2⟩
theorem VC {lo:Nat} {wn:World} {s:Sb} {T:List (Tm×Tm)} {s1:Option Addr} {s3:Nat} {v2:Value} {xs ys:List Value} {p z:Bool×Int} {k zk:Fo} {a1:Option Addr} {a3:Nat} (hT:NC lo wn s T (.slice s1 s.length s3) v2 xs ys) (hk:SB (XX wn (.slice s1 s.length s3) v2) wn k (.slice a1 (Fo.len k) a3)) (hz:(z,zk)=gZ s (p,k)) (w':World) (hb:Below wn.heap.size wn w'):
 Calls Tryz.prog 137 #[.slice s1 s.length s3,.agg #[.bool p.1,.int .i64 p.2,.slice a1 (Fo.len k) a3]] w' λe w''=>∃(x1:Option Addr) (x3:Nat),e= .returned (.agg #[.bool z.1,.int .i64 z.2,.slice x1 (Fo.len zk) x3])/\SB (XX wn (.slice s1 s.length s3) v2) wn zk (.slice x1 (Fo.len zk) x3)/\Below w'.heap.size w' w'':=by
 have hO:=hT.sub.below hb;refine (MZ (XX wn (.slice s1 s.length s3) v2) s _ p k _ w' (λq hq=>Nat.lt_of_lt_of_le hq.1 hb.size) hO.sub (λi q v b o e hi=>aL2 hO i q v b o e hi) (hk.grow (λ_ hq=>hq.1) hb)).mono ?_;rintro e w'' ⟨x1,x2,x3,rfl,hS,hb2⟩;rw [←hz] at hS ⊢;have hS':=hS;obtain ⟨_,_,_,_,e,_⟩:=hS';simp only [Value.slice.injEq] at e;obtain ⟨rfl,rfl,rfl⟩:=e;exact ⟨_,_,rfl,hS.shrink (λ_ hq=>hq.1) (aC hb hb2),hb2⟩
theorem aAW {s:Sb} {a b x y:Tm} {L:List (Tm×Tm)} (hx:x=gZ s a) (hy:y=gZ s b) (h1:x.1.1=true) (h2:y.1.1=true) (h3:x.1.2=y.1.2):kD s a b L=some (s,L):=by subst hx hy;unfold kD;rw [if_pos ⟨h1,h2,h3⟩]
theorem aLM {s:Sb} {a b x y:Tm} {L:List (Tm×Tm)} (hx:x=gZ s a) (hy:y=gZ s b) (h1:x.1.1=true) (h2:¬(y.1.1=true/\x.1.2=y.1.2)):kD s a b L=(pK s x.1.2 (aH (aV s) y)).map λs'=>(s',L):=by subst hx hy;unfold kD;rw [if_neg (λh=>h2 h.2),if_pos h1]
theorem aLL {s:Sb} {a b x y:Tm} {L:List (Tm×Tm)} (hx:x=gZ s a) (hy:y=gZ s b) (h1:x.1.1=false) (h2:y.1.1=true):kD s a b L=(pK s y.1.2 (aH (aV s) x)).map λs'=>(s',L):=by subst hx hy;unfold kD;rw [if_neg (λh=>by rw [h1] at h;exact absurd h.1 (by decide)),if_neg (by rw [h1];decide),if_pos h2]
theorem aAX {s:Sb} {a b x y:Tm} {L:List (Tm×Tm)} (hx:x=gZ s a) (hy:y=gZ s b) (h1:x.1.1=false) (h2:y.1.1=false) (h3:x.1.2=y.1.2) (h4:Fo.len x.2=Fo.len y.2):kD s a b L=some (s,x.2.list.zip y.2.list++L):=by subst hx hy;unfold kD;rw [if_neg (λh=>by rw [h1] at h;exact absurd h.1 (by decide)),if_neg (by rw [h1];decide),if_neg (by rw [h2];decide),if_pos ⟨h3,h4⟩]
theorem aES {s:Sb} {a b x y:Tm} {L:List (Tm×Tm)} (hx:x=gZ s a) (hy:y=gZ s b) (h1:x.1.1=false) (h2:y.1.1=false) (h3:¬(x.1.2=y.1.2/\Fo.len x.2=Fo.len y.2)):kD s a b L=none:=by subst hx hy;unfold kD;rw [if_neg (λh=>by rw [h1] at h;exact absurd h.1 (by decide)),if_neg (by rw [h1];decide),if_neg (by rw [h2];decide),if_neg h3]
theorem IR {m:Nat} {s s':Sb} {p:Tm×Tm} {L L':List (Tm×Tm)} {R:Option Sb} (hI:UI s (p::L)) (hR:iV (m+1) s (p::L)=some R) (h:kD s p.1 p.2 L=some (s',L')):UI s' L'/\iV m s' L'=some R:=by refine ⟨(tO hI h).1,?_⟩;simpa [iV,h] using hR
theorem Q6 {m:Nat} {s:Sb} {p:Tm×Tm} {L:List (Tm×Tm)} {R:Option Sb} (hR:iV (m+1) s (p::L)=some R) (h:kD s p.1 p.2 L=none):R=none:=by simpa [iV,h] using hR.symm
theorem Q0 {w w':World} {R:Option Sb} (hb:Below w.heap.size w w') (h:R=none):H7 w R (.returned (.tuple #[.slice none 0 0,.bool false])) w':=⟨hb,none,0,0,false,rfl,λ_=>⟨h,rfl,rfl,rfl⟩,λe=>by cases e⟩
theorem DX {lo:Nat} {wx w':World} {s:Sb} {T:List (Tm×Tm)} {s1:Option Addr} {s3:Nat} {v2:Value} {xs ys:List Value} {y t:Bool×Int} {yk tk:Fo} {y1:Option Addr} {y3:Nat} (hT:NC lo wx s T (.slice s1 s.length s3) v2 xs ys) (hs:∀p∈s,Gd p.2) (hk:SB (XX wx (.slice s1 s.length s3) v2) wx yk (.slice y1 (Fo.len yk) y3)) (hg:Gd (y,yk)) (ht:(t,tk)=aH (aV s) (y,yk)) (hb:Below wx.heap.size wx w'):
 Calls Tryz.prog 84 #[.slice s1 s.length s3,.agg #[.bool y.1,.int .i64 y.2,.slice y1 (Fo.len yk) y3]] w' λe w1=>∃(a1:Option Addr) (a3:Nat),e= .returned (.agg #[.bool t.1,.int .i64 t.2,.slice a1 (Fo.len tk) a3])/\NC lo w1 s T (.slice s1 s.length s3) v2 xs ys/\SB (XX w1 (.slice s1 s.length s3) v2) w1 tk (.slice a1 (Fo.len tk) a3)/\Below wx.heap.size wx w1:=by
 have hT':=hT.below hb;refine (nJ s _ y yk _ w' hT'.sub.sub (λp hp=>⟨(hs p hp).nar,(hs p hp).ok⟩) (hk.toS.below hb) hg.nar).mono ?_;rintro e w1 ⟨a',rfl,hO,hb1⟩;rw [←ht] at hO ⊢;have hS:=hO.toS;obtain ⟨a1,a3,_,_,rfl,_⟩:=hS;exact ⟨a1,a3,rfl,hT'.below hb1,hT'.new (hO.toB (λq q1 q2=>⟨q1,q2⟩)),aC hb hb1⟩
theorem RJ {w w1:World} {s:Sb} {T:List (Tm×Tm)} {s1:Option Addr} {s3:Nat} {v2:Value} {xs ys:List Value} {t:Bool×Int} {tk:Fo} {a1:Option Addr} {a3:Nat} (n:Int) (hw:Below w.heap.size w w1) (hT:NC w.heap.size w1 s T (.slice s1 s.length s3) v2 xs ys) (hs:∀p∈s,Gd p.2) (hl:s.length<=10) (hk:SB (XX w1 (.slice s1 s.length s3) v2) w1 tk (.slice a1 (Fo.len tk) a3)) (hg:Gd (t,tk)):
 Calls Tryz.prog 138 #[.slice s1 s.length s3,.int .i64 n,.agg #[.bool t.1,.int .i64 t.2,.slice a1 (Fo.len tk) a3]] w1 λe w2=>∃(z1:Option Addr) (m z3:Nat) (ok:Bool),e= .returned (.tuple #[.slice z1 m z3,.bool ok])/\Below w.heap.size w w2/\(ok=false->pK s n (t,tk)=none)/\
  (ok=true->∃s' xs',pK s n (t,tk)=some s'/\m=s'.length/\NC w.heap.size w2 s' T (.slice z1 m z3) v2 xs' ys):=by
 have hv:=aMN hg;refine (aKD w.heap.size (XX w1 (.slice s1 s.length s3) v2) s _ xs n t tk _ w1 hT.sub hw.size hk (λp hp=>⟨(hs p hp).nar,(hs p hp).ok⟩) hg.ok hg.nar (by simp only at hv;omega) (by omega)).mono ?_;rintro e w2 ⟨hf,z1,m,z3,ok,rfl,hno,fG⟩;refine ⟨z1,m,z3,ok,rfl,hw.trans (hf.below hw.size (λg hg=>(aJ hT.sub.row g hg).1) (λg hg=>by cases hg)),hno,λe=>?_⟩;obtain ⟨s',xs',h1,h2,h3,_⟩:=fG e;exact ⟨s',xs',h1,h2,aK8 hT h3 hf⟩
theorem DW (x:Bool×Int) (k:Fo) (a:Value) (y:Bool×Int) (l:Fo) (c:Value) (w:World) (n:Nat) (R:Option Sb) (hr:iV n [] [((x,k),(y,l))]=some R) (hUI:UI [] [((x,k),(y,l))]) (hS:cO w k a) (hU:cO w l c):
 Calls Tryz.prog 108 #[.agg #[.bool x.1,.int .i64 x.2,a],.agg #[.bool y.1,.int .i64 y.2,c]] w (H7 w R):=by
 obtain ⟨xv,xn⟩:=x;obtain ⟨yv,yn⟩:=y;have HS:=aB hS;have HU:=aB hU;have Hr:=aB hr;have HUI:=aB hUI;obtain ⟨ad,ac,b,o,rfl,-,-,-,-⟩:=hS;obtain ⟨ud,uc,ub,uo,rfl,-,-,-,-⟩:=hU;clear hr hUI;go_enter Tryz.func108,Tryz.ntmps108
 go_wp2_with fail
 generalize hW2:(w.alloc (.cells #[.bool xv,.int .i64 xn,.slice ad (Fo.len k) ac] 84)).alloc (.cells #[.bool yv,.int .i64 yn,.slice ud (Fo.len l) uc] 84)=W2;have hB2:Below w.heap.size w W2:=by rw [←hW2];exact (aD _ _).alloc (by simp) _
 have hs2:w.heap.size+1+1=W2.heap.size:=by rw [←hW2];simp
 have H0:=aB (aEE (x:=(xv,xn)) (y:=(yv,yn)) hB2 HS.out HU.out hs2);have HB3:Hid (Below w.heap.size w (W2.alloc (.cells #[.bool xv,.int .i64 xn,.slice ad (Fo.len k) ac,.bool yv,.int .i64 yn,.slice ud (Fo.len l) uc] 160))):=hB2.alloc hB2.size _;clear hW2 hB2 hs2
 go_loopg [6,7] n (λm vs vt wr=>∃(s:Sb) (T:List (Tm×Tm)) (s1:Option Addr) (s3:Nat) (t1:Option Addr) (t3:Nat) (xs ys:List Value),vs= .slice s1 s.length s3/\vt= .slice t1 T.length t3/\UI s T.reverse/\iV m s T.reverse=some R/\NC w.heap.size wr s T (.slice s1 s.length s3) (.slice t1 T.length t3) xs ys/\Below w.heap.size w wr)
 case atStart=>exact ⟨[],[(((xv,xn),k),((yv,yn),l))],none,0,some ⟨w.heap.size+1+1,0,none⟩,1,[],_,rfl,rfl,HUI.out,Hr.out,H0.out,HB3.out⟩
 case round=>
  obtain ⟨s,T,s1,s3,t1,t3,xs,ys,rfl,rfl,hI,hR,aQ9,hBw⟩:=hrel;have aD1:=aB aQ9;have HI:=aB hI;have HR:=aB hR;clear H0 HB3 aQ9 hI hR;rcases List.eq_nil_or_concat T with rfl|⟨T',p,rfl⟩
  · have bP:Hid (H7 w R (.returned (.tuple #[.slice s1 s.length s3,.bool true])) wr):=by
     refine ⟨hBw,s1,s.length,s3,true,rfl,λe=>by (cases e),λ_=>⟨s,?_,rfl,aD1.out.sub.sub⟩⟩;have:=HR.out;cases gk with
     |zero=>simp [iV] at this
     |succ m=>simpa [iV] using this.symm
    go_wp2_with fail
    go_ret2;exact bP.out
  · have hrev:(T'++[p]).reverse=p::T'.reverse:=by simp
    rw [List.concat_eq_append] at*;have hll:(T'++[p]).length=T'.length+1:=by simp
    rw [hll] at aD1;rw [hll];rw [hrev] at HI HR;obtain ⟨g,hg⟩:∃g,t1=some ⟨g,0,none⟩:=by
     rcases aD1.out.cou.row.2 with ⟨_,h0⟩|⟨g,bW,cur,e,_⟩
     · simp at h0
     · simp only [Value.slice.injEq] at e;exact ⟨g,e.1⟩
    subst hg;have hcap:T'.length+1<=t3:=by
     rcases aD1.out.cou.row.2 with ⟨e,_⟩|⟨g',bW,cur,e,_,_,h1,_⟩
     · cases e
     · simp only [Value.slice.injEq] at e;simp only [List.length_append,List.length_singleton] at h1;omega
    have hcap2:t3<=2 ^ 63 - 1:=by
     rcases aD1.out.cou.row.2 with ⟨e,_⟩|⟨g',bW,cur,e,_,_,_,h1,_⟩
     · cases e
     · simp only [Value.slice.injEq] at e;unfold maxLen at h1;omega
    obtain ⟨ys',pa,pb,F7,hSa,hSb,c0,c1,c2,c3,c4,c5⟩:=aK7 aD1.out;obtain ⟨⟨⟨pv,pn⟩,pk⟩,⟨⟨qv,qn⟩,qk⟩⟩:=p;have HT2:=aB F7;have HSa:=aB hSa;have HSb:=aB hSb;obtain ⟨ZE,pa3,pab,pao,rfl,-,-,-,-⟩:=hSa;obtain ⟨pb1,pb3,pbb,pbo,rfl,-,-,-,-⟩:=hSb;have aS9:=λw=>aLZ (n:=T'.length) (c:=t3) (g:=g) hcap w;clear hrev hll F7
    go_upto_region 6 with fail
    generalize hwn:wr.alloc (.cells #[.bool pv,.int .i64 pn,.slice ZE (Fo.len pk) pa3,.bool qv,.int .i64 qn,.slice pb1 (Fo.len qk) pb3] 160)=wn;have hbn:Below wr.heap.size wr wn:=by rw [←hwn];exact aD _ _
    have n0:wn.cell? ⟨wr.heap.size,0,none⟩=some (.bool pv):=by rw [←hwn];exact aF rfl
    have n1:wn.cell? ⟨wr.heap.size,1,none⟩=some (.int .i64 pn):=by rw [←hwn];exact aF rfl
    have n2:wn.cell? ⟨wr.heap.size,2,none⟩=some (.slice ZE (Fo.len pk) pa3):=by rw [←hwn];exact aF rfl
    have n3:wn.cell? ⟨wr.heap.size,3,none⟩=some (.bool qv):=by rw [←hwn];exact aF rfl
    have n4:wn.cell? ⟨wr.heap.size,4,none⟩=some (.int .i64 qn):=by rw [←hwn];exact aF rfl
    have n5:wn.cell? ⟨wr.heap.size,5,none⟩=some (.slice pb1 (Fo.len qk) pb3):=by rw [←hwn];exact aF rfl
    have hnl:wr.heap.size<wn.heap.size:=World.block_lt_of_cell? _ _ n0;have HTn:=aB (HT2.out.below hbn);obtain ⟨⟨⟨iH,TQ⟩,gM⟩,hx⟩:∃z,z=gZ s ((pv,pn),pk):=⟨_,rfl⟩;obtain ⟨⟨⟨bB,TP⟩,aZ⟩,hy⟩:∃z,z=gZ s ((qv,qn),qk):=⟨_,rfl⟩;have HcA:=aB (λw' hb=>VC HTn.out (HT2.out.xx hbn HSa.out) hx w' hb);have HcB:=aB (λw' hb=>VC HTn.out (HT2.out.xx hbn HSb.out) hy w' hb);have Hx:=aB hx;have Hy:=aB hy;have Hbn:=aB hbn;have aG:Below wn.heap.size wn wn:=Below.refl _ _;clear hwn hx hy hbn c0 c1 c2 c3 c4 c5 aS9
    go_cut [6,7,9,10] (λs6 s7 s9 s10 wx=>∃(bx bb:Nat) (x1:Option Addr) (x3:Nat) (y1:Option Addr) (y3:Nat),s6= .slice s1 s.length s3/\s7= .slice (some ⟨g,0,none⟩) T'.length t3/\s9= .pointer (some ⟨bx,0,none⟩)/\s10= .pointer (some ⟨bb,0,none⟩)/\
     SB (XX wn (.slice s1 s.length s3) (.slice (some ⟨g,0,none⟩) T'.length t3)) wn gM (.slice x1 (Fo.len gM) x3)/\SB (XX wn (.slice s1 s.length s3) (.slice (some ⟨g,0,none⟩) T'.length t3)) wn aZ (.slice y1 (Fo.len aZ) y3)/\
     C3 wx bx (.bool iH) (.int .i64 TQ) (.slice x1 (Fo.len gM) x3)/\C3 wx bb (.bool bB) (.int .i64 TP) (.slice y1 (Fo.len aZ) y3)/\Below wn.heap.size wn wx)
    case first=>
     have neN:wn.heap.size≠wr.heap.size:=Nat.ne_of_gt hnl;have aVF:wn.heap.size+1≠wr.heap.size:=Nat.ne_of_gt (Nat.lt_succ_of_lt hnl)
     go_region_held3 (λw'=>w'.cell? ⟨wr.heap.size,0,none⟩=some (.bool pv)/\w'.cell? ⟨wr.heap.size,1,none⟩=some (.int .i64 pn)/\w'.cell? ⟨wr.heap.size,2,none⟩=some (.slice ZE (Fo.len pk) pa3)/\w'.cell? ⟨wr.heap.size,3,none⟩=some (.bool qv)/\w'.cell? ⟨wr.heap.size,4,none⟩=some (.int .i64 qn)/\w'.cell? ⟨wr.heap.size,5,none⟩=some (.slice pb1 (Fo.len qk) pb3))
      (first
        |(with_reducible exact ⟨aA aG _ _ n0,aA aG _ _ n1,aA aG _ _ n2,aA aG _ _ n3,aA aG _ _ n4,aA aG _ _ n5⟩)
        |go_keep)
      (first
      |(go_at_call 137;with_reducible refine (HcA.out _ ?_).mono ?_;(with_reducible first|exact aG|exact aG.drew|exact (aG.alloc aG.size _).drew|exact aG.alloc aG.size _|exact ((aG.alloc aG.size _).alloc (aG.alloc aG.size _).size _).drew|exact (aG.alloc aG.size _).alloc (aG.alloc aG.size _).size _);rintro e wA ⟨x1,x3,rfl,QE,hbA⟩
        (with_reducible first|(refine UF (aNN hbA) ?_;rintro ⟨⟨fA0,fA1,fA2,fAf⟩,⟨gA0,gA1,gA2,gAf⟩,fAl⟩;have fAk:=Nat.lt_of_succ_lt fAl)|(refine UF (aO5 hbA) ?_;rintro ⟨⟨fA0,fA1,fA2,fAf⟩,⟨gA0,gA1,gA2,gAf⟩,fAl⟩;have fAk:=Nat.lt_of_succ_lt fAl)|(refine UF (aNO hbA) ?_;rintro ⟨fA0,fA1,fA2,fAf,fAl⟩)|(refine UF (aO6 hbA) ?_;rintro ⟨fA0,fA1,fA2,fAf,fAl⟩)|skip)
        (try (have hst:Below wB.heap.size wB wA:=(by with_reducible first|exact hbA|exact aW hbA|exact aW (aW hbA));have hsl:=hst.size;(try (have aT7:=aA hst _ _ fB0;have aV8:=aA hst _ _ fB1;have aV7:=aA hst _ _ fB2;have aR8:=World.block_lt_of_cell? _ _ fB0;have aR7:=World.block_lt_of_cell? _ _ aT7;dsimp only at aR7;have aV6:=(λi=>(hst.frozen (p:=⟨_,i,none⟩) aR8).trans (fBf i))));(try (have aT6:=aA hst _ _ gB0;have aV3:=aA hst _ _ gB1;have aV2:=aA hst _ _ gB2;have aR4:=World.block_lt_of_cell? _ _ gB0;have aR3:=World.block_lt_of_cell? _ _ aT6;dsimp only at aR3;have aV1:=(λi=>(hst.frozen (p:=⟨_,i,none⟩) aR4).trans (gBf i))))))
        have aSB:Below wn.heap.size wn wA:=aC (by with_reducible first|exact aG|exact aG.drew|exact (aG.alloc aG.size _).drew|exact aG.alloc aG.size _|exact ((aG.alloc aG.size _).alloc (aG.alloc aG.size _).size _).drew|exact (aG.alloc aG.size _).alloc (aG.alloc aG.size _).size _) hbA;replace aG:Below wn.heap.size wn wA:=aC (by with_reducible first|exact aG|exact aG.drew|exact (aG.alloc aG.size _).drew|exact aG.alloc aG.size _|exact ((aG.alloc aG.size _).alloc (aG.alloc aG.size _).size _).drew|exact (aG.alloc aG.size _).alloc (aG.alloc aG.size _).size _) hbA;have hlA:wr.heap.size<wA.heap.size:=Nat.lt_of_lt_of_le hnl aG.size;have neA:wA.heap.size≠wr.heap.size:=Nat.ne_of_gt hlA;have aVH:wA.heap.size+1≠wr.heap.size:=Nat.ne_of_gt (Nat.lt_succ_of_lt hlA);have mA0:=aA aG _ _ n0;have mA1:=aA aG _ _ n1;have mA2:=aA aG _ _ n2;have mA3:=aA aG _ _ n3;have mA4:=aA aG _ _ n4;have mA5:=aA aG _ _ n5)
      |(go_at_call 137;with_reducible refine (HcB.out _ ?_).mono ?_;(with_reducible first|exact aG|exact aG.drew|exact (aG.alloc aG.size _).drew|exact aG.alloc aG.size _|exact ((aG.alloc aG.size _).alloc (aG.alloc aG.size _).size _).drew|exact (aG.alloc aG.size _).alloc (aG.alloc aG.size _).size _);rintro e wB ⟨y1,y3,rfl,kW,hbB⟩
        (with_reducible first|(refine UF (aNN hbB) ?_;rintro ⟨⟨fB0,fB1,fB2,fBf⟩,⟨gB0,gB1,gB2,gBf⟩,fBl⟩;have fBk:=Nat.lt_of_succ_lt fBl)|(refine UF (aO5 hbB) ?_;rintro ⟨⟨fB0,fB1,fB2,fBf⟩,⟨gB0,gB1,gB2,gBf⟩,fBl⟩;have fBk:=Nat.lt_of_succ_lt fBl)|(refine UF (aNO hbB) ?_;rintro ⟨fB0,fB1,fB2,fBf,fBl⟩)|(refine UF (aO6 hbB) ?_;rintro ⟨fB0,fB1,fB2,fBf,fBl⟩)|skip)
        (try (have hst:Below wA.heap.size wA wB:=(by with_reducible first|exact hbB|exact aW hbB|exact aW (aW hbB));have hsl:=hst.size;(try (have Z5:=aA hst _ _ fA0;have aDX:=aA hst _ _ fA1;have aDW:=aA hst _ _ fA2;have aSA:=World.block_lt_of_cell? _ _ fA0;have aR9:=World.block_lt_of_cell? _ _ Z5;dsimp only at aR9;have aV9:=(λi=>(hst.frozen (p:=⟨_,i,none⟩) aSA).trans (fAf i))));(try (have aOY:=aA hst _ _ gA0;have aRE:=aA hst _ _ gA1;have aRD:=aA hst _ _ gA2;have aR6:=World.block_lt_of_cell? _ _ gA0;have aR5:=World.block_lt_of_cell? _ _ aOY;dsimp only at aR5;have aV4:=(λi=>(hst.frozen (p:=⟨_,i,none⟩) aR6).trans (gAf i))))))
        replace aG:Below wn.heap.size wn wB:=aC (by with_reducible first|exact aG|exact aG.drew|exact (aG.alloc aG.size _).drew|exact aG.alloc aG.size _|exact ((aG.alloc aG.size _).alloc (aG.alloc aG.size _).size _).drew|exact (aG.alloc aG.size _).alloc (aG.alloc aG.size _).size _) hbB;have hlB:wr.heap.size<wB.heap.size:=Nat.lt_of_lt_of_le hnl aG.size;have neB:wB.heap.size≠wr.heap.size:=Nat.ne_of_gt hlB;have aVG:wB.heap.size+1≠wr.heap.size:=Nat.ne_of_gt (Nat.lt_succ_of_lt hlB);have mB0:=aA aG _ _ n0;have mB1:=aA aG _ _ n1;have mB2:=aA aG _ _ n2;have mB3:=aA aG _ _ n3;have mB4:=aA aG _ _ n4;have mB5:=aA aG _ _ n5))
     all_goals
      have hnA:=aSB.size;have aQV:wn.heap.size<=wA.heap.size+1:=Nat.le_succ_of_le hnA
      go_wp2_with fail
      go_meet
      case rel=>
       with_reducible first
        |exact ⟨wB.heap.size,wB.heap.size+1,x1,x3,y1,y3,rfl,rfl,rfl,rfl,QE,kW,aRI aG⟩
        |exact ⟨wB.heap.size+1,wB.heap.size,x1,x3,y1,y3,rfl,rfl,rfl,rfl,QE,kW,aHE (aRI aG)⟩
        |exact ⟨wA.heap.size,wB.heap.size,x1,x3,y1,y3,rfl,rfl,rfl,rfl,QE,kW,aKS aG hnA fB0 fB1 fB2⟩
        |exact ⟨wB.heap.size,wA.heap.size,x1,x3,y1,y3,rfl,rfl,rfl,rfl,QE,kW,aHE (aKS aG hnA fB0 fB1 fB2)⟩
        |exact ⟨wn.heap.size,wB.heap.size,x1,x3,y1,y3,rfl,rfl,rfl,rfl,QE,kW,aKS aG (Nat.le_refl _) Z5 aDX aDW⟩
        |exact ⟨wB.heap.size,wn.heap.size,x1,x3,y1,y3,rfl,rfl,rfl,rfl,QE,kW,aHE (aKS aG (Nat.le_refl _) Z5 aDX aDW)⟩
        |exact ⟨wA.heap.size,wA.heap.size+1,x1,x3,y1,y3,rfl,rfl,rfl,rfl,QE,kW,aDV aG hnA aQV (Nat.ne_of_lt (Nat.lt_succ_self _)) fB0 fB1 fB2 gB0 gB1 gB2⟩
        |exact ⟨wA.heap.size+1,wA.heap.size,x1,x3,y1,y3,rfl,rfl,rfl,rfl,QE,kW,aDV aG aQV hnA (Nat.ne_of_gt (Nat.lt_succ_self _)) gB0 gB1 gB2 fB0 fB1 fB2⟩
        |exact ⟨wn.heap.size,wA.heap.size,x1,x3,y1,y3,rfl,rfl,rfl,rfl,QE,kW,aDV aG (Nat.le_refl _) hnA (Nat.ne_of_lt fAl) Z5 aDX aDW fB0 fB1 fB2⟩
        |exact ⟨wA.heap.size,wn.heap.size,x1,x3,y1,y3,rfl,rfl,rfl,rfl,QE,kW,aDV aG hnA (Nat.le_refl _) (Nat.ne_of_gt fAl) fB0 fB1 fB2 Z5 aDX aDW⟩
        |exact ⟨wn.heap.size,wn.heap.size+1,x1,x3,y1,y3,rfl,rfl,rfl,rfl,QE,kW,aDV aG (Nat.le_refl _) (Nat.le_succ _) (Nat.ne_of_lt (Nat.lt_succ_self _)) Z5 aDX aDW aOY aRE aRD⟩
        |exact ⟨wn.heap.size+1,wn.heap.size,x1,x3,y1,y3,rfl,rfl,rfl,rfl,QE,kW,aDV aG (Nat.le_succ _) (Nat.le_refl _) (Nat.ne_of_gt (Nat.lt_succ_self _)) aOY aRE aRD Z5 aDX aDW⟩
    case rest=>
     obtain ⟨bx,bb,x1,x3,y1,y3,rfl,rfl,rfl,rfl,QE,kW,⟨a0,a1,a2⟩,⟨e0,e1,e2⟩,hbx⟩:=hcut;generalize wc=wx at*;have hBx:Below w.heap.size w wx:=aC hBw (aC Hbn.out hbx);have HTx:=aB (HTn.out.below hbx);have HSx:=aB (HTn.out.xx hbx QE);have UD:=aB (HTn.out.xx hbx kW);have hgp:=HI.out.gL (((pv,pn),pk),((qv,qn),qk)) (by simp);have Hgx:Hid (Gd ((iH,TQ),gM)):=by rw [Hid,Hx.out];exact oN HI.out.gs hgp.1
     have uS:Hid (Gd ((bB,TP),aZ)):=by rw [Hid,Hy.out];exact oN HI.out.gs hgp.2
     have QM:s3<=2 ^ 63 - 1:=by obtain ⟨_,_,_,_,e,_,_,h,_⟩:=HTx.out.sub.sub;simp only [Value.slice.injEq] at e;unfold maxLen at h;omega
     obtain ⟨m,hm⟩:∃m,gk=m+1:=by
      cases gk with
      |zero=>have:=HR.out;simp [iV] at this
      |succ m=>exact ⟨m,rfl⟩
     subst hm;clear QE kW hgp n0 n1 n2 n3 n4 n5 hnl aG HcA HcB HTn hbx;cases iH
     · cases bB
       · by_cases hc:TQ=TP/\Fo.len gM=Fo.len aZ
         · obtain ⟨hc1,hc2⟩:=hc;have Hon:=aB (IR HI.out HR.out (aAX Hx.out Hy.out rfl rfl hc1 hc2));have hnb:(TQ==TP)=true:=by simp [hc1]
           have hlb:((Fo.len gM:Int)==(Fo.len aZ:Int))=true:=by simp [hc2]
           have cZ:=aB hc2;have Hlen:=aB (IP HI.out);have aUK:=aB Hgx.out.two.1;clear hc1 hc2
           go_wp2_with fail
           refine (Y1 w.heap.size (XX wx (.slice s1 s.length s3) (.slice (some ⟨g,0,none⟩) T'.length t3)) T' _ ys' (false,TQ) gM _ (false,TP) aZ _ wx HTx.out.cou hBx.size HSx.out UD.out cZ.out (by have:=Hlen.out.1;have:=aUK.out;simp only [List.length_cons,List.length_reverse] at*;omega)).mono ?_;rintro e w2 ⟨M,z1,z3,xt',hM,rfl,hO2,hF2,hM2⟩;have H3:=aB (aH8 HTx.out hO2 hF2);have hBw2:Below w.heap.size w w2:=hBx.trans (hF2.below hBx.size (λq hq=>(aJ HTx.out.cou.row q hq).1) (λq hq=>by cases hq));have aRO:Hid (M.reverse=gM.list.zip aZ.list++T'.reverse):=by rw [Hid,hM];simp
           clear hM hO2 hF2 hM2
           go_wp2_with fail
           go_roundg m
           case measure=>omega
           case rel=>exact ⟨s,M,s1,s3,z1,z3,xs,xt',rfl,rfl,by rw [aRO.out];exact Hon.out.1,by rw [aRO.out];exact Hon.out.2,H3.out,hBw2⟩
         · have Hf:=aB (Q0 hBx (Q6 HR.out (aES Hx.out Hy.out rfl rfl hc)));by_cases hc1:TQ=TP
           · have hnb:(TQ==TP)=true:=by simp [hc1]
             have hlb:((Fo.len gM:Int)==(Fo.len aZ:Int))=false:=by have:¬Fo.len gM=Fo.len aZ:=λe=>hc ⟨hc1,e⟩;simp;omega
             clear hc hc1
             go_wp2_with fail
             go_ret2;exact Hf.out
           · have hnb:(TQ==TP)=false:=by simp [hc1]
             clear hc hc1
             go_wp2_with fail
             go_ret2;exact Hf.out
       · have jP:Hid (kD s ((pv,pn),pk) ((qv,qn),qk) T'.reverse=(pK s TP (aH (aV s) ((false,TQ),gM))).map λs'=>(s',T'.reverse)):=aLL Hx.out Hy.out rfl rfl;obtain ⟨⟨⟨tv,tn⟩,tk⟩,ht⟩:∃z,z=aH (aV s) ((false,TQ),gM):=⟨_,rfl⟩;have Ht:=aB ht;have Hgt:Hid (Gd ((tv,tn),tk)):=by rw [Hid,ht];exact mG HI.out.gs Hgx.out
         have Hap:=aB (DX HTx.out HI.out.gs HSx.out Hgx.out ht (w':=wx.drew) (Below.refl _ _).drew);clear ht
         go_upto_region 13 with fail
         go_region_with (first
          |(go_at_call 84;refine Hap.out.mono ?_;rintro e w1 ⟨b1,b3,rfl,hT1,hS1,hb1⟩;have hBw1:=aC hBx hb1;have e1w:=aA hb1 _ _ e1)
          |(go_at_call 138;refine (RJ TP hBw1 hT1 HI.out.gs (IP HI.out).2 hS1 Hgt.out).mono ?_;rintro e w2 ⟨z1,zm,z3,ok,rfl,hBw2,hno,fG⟩))
         all_goals
          cases ok
          · have Hf:=aB (Q0 hBw2 (Q6 HR.out (by rw [jP.out,←Ht.out,hno rfl];rfl)));clear hno fG hT1 hS1
            go_wp2_with fail
            go_ret2;exact Hf.out
          · obtain ⟨s',xs',h1,h2,h3⟩:=fG rfl;have Hon:=aB (IR HI.out HR.out (s':=s') (L':=T'.reverse) (by rw [jP.out,←Ht.out,h1];rfl));subst h2;have H3:=aB h3;clear hno fG hT1 hS1 h1 h3
            go_wp2_with fail
            go_roundg m
            case measure=>omega
            case rel=>exact ⟨s',T',z1,z3,some ⟨g,0,none⟩,t3,xs',ys',rfl,rfl,Hon.out.1,Hon.out.2,H3.out,hBw2⟩
     · by_cases hc:bB=true/\TQ=TP
       · obtain ⟨rfl,hc2⟩:=hc;have Hon:=aB (IR HI.out HR.out (aAW Hx.out Hy.out rfl rfl hc2));have hnb:(TQ==TP)=true:=by simp [hc2]
         clear hc2
         go_wp2_with fail
         go_roundg m
         case measure=>omega
         case rel=>exact ⟨s,T',s1,s3,some ⟨g,0,none⟩,t3,xs,ys',rfl,rfl,Hon.out.1,Hon.out.2,HTx.out,hBx⟩
       · have jP:Hid (kD s ((pv,pn),pk) ((qv,qn),qk) T'.reverse=(pK s TQ (aH (aV s) ((bB,TP),aZ))).map λs'=>(s',T'.reverse)):=aLM Hx.out Hy.out rfl (λh=>hc ⟨h.1,h.2⟩);cases bB
         · clear hc;obtain ⟨⟨⟨tv,tn⟩,tk⟩,ht⟩:∃z,z=aH (aV s) ((false,TP),aZ):=⟨_,rfl⟩;have Ht:=aB ht;have Hgt:Hid (Gd ((tv,tn),tk)):=by rw [Hid,ht];exact mG HI.out.gs uS.out
           have Hap:=aB (DX HTx.out HI.out.gs UD.out uS.out ht (w':=wx.drew) (Below.refl _ _).drew);clear ht
           go_upto_region 11 with fail
           go_region_with (first
            |(go_at_call 84;refine Hap.out.mono ?_;rintro e w1 ⟨b1,b3,rfl,hT1,hS1,hb1⟩;have hBw1:=aC hBx hb1;have a1w:=aA hb1 _ _ a1)
            |(go_at_call 138;refine (RJ TQ hBw1 hT1 HI.out.gs (IP HI.out).2 hS1 Hgt.out).mono ?_;rintro e w2 ⟨z1,zm,z3,ok,rfl,hBw2,hno,fG⟩))
           all_goals
            cases ok
            · have Hf:=aB (Q0 hBw2 (Q6 HR.out (by rw [jP.out,←Ht.out,hno rfl];rfl)));clear hno fG hT1 hS1
              go_wp2_with fail
              go_ret2;exact Hf.out
            · obtain ⟨s',xs',h1,h2,h3⟩:=fG rfl;have Hon:=aB (IR HI.out HR.out (s':=s') (L':=T'.reverse) (by rw [jP.out,←Ht.out,h1];rfl));subst h2;have H3:=aB h3;clear hno fG hT1 hS1 h1 h3
              go_wp2_with fail
              go_roundg m
              case measure=>omega
              case rel=>exact ⟨s',T',z1,z3,some ⟨g,0,none⟩,t3,xs',ys',rfl,rfl,Hon.out.1,Hon.out.2,H3.out,hBw2⟩
         · have hnb:(TQ==TP)=false:=by
            have:¬TQ=TP:=λe=>hc ⟨rfl,e⟩;simp [this]
           clear hc;obtain ⟨⟨⟨tv,tn⟩,tk⟩,ht⟩:∃z,z=aH (aV s) ((true,TP),aZ):=⟨_,rfl⟩;have Ht:=aB ht;have Hgt:Hid (Gd ((tv,tn),tk)):=by rw [Hid,ht];exact mG HI.out.gs uS.out
           have Hap:=aB (DX HTx.out HI.out.gs UD.out uS.out ht (w':=wx.drew) (Below.refl _ _).drew);clear ht
           go_upto_region 11 with fail
           go_region_with (first
            |(go_at_call 84;refine Hap.out.mono ?_;rintro e w1 ⟨b1,b3,rfl,hT1,hS1,hb1⟩;have hBw1:=aC hBx hb1;have a1w:=aA hb1 _ _ a1)
            |(go_at_call 138;refine (RJ TQ hBw1 hT1 HI.out.gs (IP HI.out).2 hS1 Hgt.out).mono ?_;rintro e w2 ⟨z1,zm,z3,ok,rfl,hBw2,hno,fG⟩))
           all_goals
            cases ok
            · have Hf:=aB (Q0 hBw2 (Q6 HR.out (by rw [jP.out,←Ht.out,hno rfl];rfl)));clear hno fG hT1 hS1
              go_wp2_with fail
              go_ret2;exact Hf.out
            · obtain ⟨s',xs',h1,h2,h3⟩:=fG rfl;have Hon:=aB (IR HI.out HR.out (s':=s') (L':=T'.reverse) (by rw [jP.out,←Ht.out,h1];rfl));subst h2;have H3:=aB h3;clear hno fG hT1 hS1 h1 h3
              go_wp2_with fail
              go_roundg m
              case measure=>omega
              case rel=>exact ⟨s',T',z1,z3,some ⟨g,0,none⟩,t3,xs',ys',rfl,rfl,Hon.out.1,Hon.out.2,H3.out,hBw2⟩
end
theorem xA:∀F:Fo,Fo.norm (Fo.norm F)=Fo.norm F
 | .nil=>rfl
 | .node _ _ _ k r=>by simp [Fo.norm,xA k,xA r]
def two (t u:Tm):Fo:= .node 0 0 t.1 t.2 (.node 0 0 u.1 u.2 .nil)
theorem LH {s:List Int} {x:Bool×Int} {k:Fo} (hs:s.all bN=true) (hk:Fo.norm k=k) (h:aU s x k=0):∀m,bU m (x,k)->m<=4:=λm hm=>by have:=M6 hs h m (by rw [hk];exact hm);exact this.2
theorem jO {s:List Int} {x:Bool×Int} {k:Fo} (hs:s.all bN=true) (hk:Fo.norm k=k) (h:aU s x k=0):Gd (x,k)/\gU (x,k)<=12/\aM k<=12:=by
 have:=YL hs h
 rwa [hk] at this
section
attribute [local go_sem ↓] Go.wp_at_zero Go.wp_at_succ
theorem vY (q:List Int):∀(F:Fo) (p:List Int) (i:Int),eG F (q++p) i=(eG F p i).map (q++ ·)
 | .nil,_,_=>rfl
 | .node _ _ x k r,p,i=>by
  have h1:=vY q k (p++[i]) 0;have h2:=vY q r p (i+1);simp only [eG,List.map_append,h2];cases x.1
  · simp only [Bool.false_eq_true,if_false,List.map_cons,List.append_assoc] at h1 ⊢;rw [h1]
  · simp
theorem X9 (q:List Int) (x:Bool×Int) (k:Fo):dJ x k q=(dJ x k []).map (q++ ·):=by
 have:=vY q k [] 0;unfold dJ;split
 · rfl
 · simp only [List.append_nil] at this;simp [this]
end
section
attribute [local go_sem ↓] Go.wp_at_zero Go.wp_at_succ
theorem AC {B:ByteArray} {l:List UInt8} (h:B.data.toList=l):B.size=l.length:=by rw [←h];exact Array.length_toList.symm
end
end Go.Proofs.YtoklbpbmghbhnaeGreat
