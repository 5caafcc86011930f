import Derived.Test.YtoklbpbmghbhnaeGreatG23
namespace Go.Proofs.YtoklbpbmghbhnaeGreat
set_option maxRecDepth 100000
set_option maxHeartbeats 3000000
open Go.RowKit Go.Deep Go.ChangeShapes Go.WideShapes
theorem Tryz.info9:(Tryz.prog.info? 9).map (λi=>(i.zero,i.size,i.bytes))=some (some (.string ByteArray.empty),1,16):=by kernel_rfl
theorem aIC {p q:List UInt8}:(Lib.trimSuffix p q).length<=p.length:=by
 unfold Lib.trimSuffix;split
 · simp only [List.length_take];omega
 · exact Nat.le_refl _
theorem aAY:∀(k:Nat) (l:List UInt8),∀p∈Lib.splitK l5 0 k l,p.length<=l.length:=by
 intro k;induction k with
 |zero=>intro l p hp;rw [Lib.splitK] at hp;simp at hp;rw [hp];exact Nat.le_refl _
 |succ k ih=>
  intro l p hp;rcases xB l with hi|⟨i,hi,hr⟩
  · rw [iG hi] at hp;simp at hp;rw [hp];exact Nat.le_refl _
  · rw [lT hi] at hp;rcases List.mem_cons.1 hp with rfl|hp
    · simp only [List.length_take];omega
    · have:=ih _ p hp;simp only [List.length_drop] at this;omega
def P8 (s:List Int) (l:List UInt8) (w:World) (e:Ending) (w':World):Prop:=
 ∃z1 z2 z3,e= .returned (.tuple #[.slice z1 z2 z3,.int .i64 (jU s l).1])/\dQ w' (jU s l).2 (.slice z1 z2 z3)/\Below w.heap.size w w'
theorem nM {s:List Int} {l:List UInt8} {w w':World} {er:Int} (h:jU s l=(er,[])) (hb:Below w.heap.size w w'):P8 s l w (.returned (.tuple #[.slice none 0 0,.int .i64 er])) w':=
 ⟨none,0,0,by rw [h],by rw [h];exact dQ.nil _,hb⟩
structure MP (l:List UInt8) (i f:Nat) (ps:List (List UInt8)):Prop where
 fi:f<=i
 il:i<=l.length
 all:ps++oI (l.drop f)=oI l
 no:Lib.NoOcc (l.drop f) l5 (i - f)
theorem aA3 (l:List UInt8):MP l 0 0 []:=⟨Nat.le_refl _,Nat.zero_le _,by simp,Lib.NoOcc.zero _ _⟩
theorem aHU {l:List UInt8} {i f:Nat} (h:f<=i):Lib.occAt (l.drop f) l5 (i - f)=decide ((l.drop i).take 3=l5):=by unfold Lib.occAt;rw [List.drop_drop,show f+(i - f)=i by omega,Bool.eq_iff_iff,List.isPrefixOf_iff_prefix,decide_eq_true_eq,List.prefix_iff_eq_take];exact ⟨λh=>h.symm,λh=>h.symm⟩
theorem MP.miss {l:List UInt8} {i f:Nat} {ps:List (List UInt8)} (h:MP l i f ps) (hi:i+3<=l.length) (hn:(l.drop i).take 3≠l5):MP l (i+1) f ps:=by refine ⟨by have:=h.fi;omega,by omega,h.all,?_⟩;rw [show i+1 - f=i - f+1 by have:=h.fi;omega];exact h.no.succ (by rw [aHU h.fi];simpa using hn)
theorem MP.hit {l:List UInt8} {i f:Nat} {ps:List (List UInt8)} (h:MP l i f ps) (hi:i+3<=l.length) (hn:(l.drop i).take 3=l5):MP l (i+3) (i+3) (ps++[(l.drop f).take (i - f)]):=by have hf:=h.fi;refine ⟨Nat.le_refl _,hi,?_,by rw [Nat.sub_self];exact Lib.NoOcc.zero _ _⟩;have hx:Lib.index (l.drop f) l5=((i - f:Nat):Int):=Lib.index_hit h.no (by simp only [List.length_drop];omega) (by rw [aHU hf];simpa using hn);have:=aJT hx (by simp only [List.length_drop];omega);rw [List.drop_drop,show f+(i - f+3)=i+3 by omega] at this;rw [←h.all,this];simp
theorem MP.last {l:List UInt8} {i f:Nat} {ps:List (List UInt8)} (h:MP l i f ps) (hi:¬i+3<=l.length):ps++[l.drop f]=oI l:=by have hf:=h.fi;have hx:Lib.index (l.drop f) l5= -1:=Lib.index_past (by simp) h.no (by simp only [List.length_drop];simp;omega);rw [←h.all,aFS hx]
theorem PD {p:List UInt8} {k:Nat} (hk:k<=p.length) (hno:∀q,q<k->p[q]?≠some 61):(k=p.length->Lib.index p [61]= -1)/\(p[k]?=some 61->Lib.index p [61]=(k:Int)):=by
 have occ:∀j,Lib.occAt p [61] j=decide (p[j]?=some 61):=λj=>by
  unfold Lib.occAt;cases hd:p.drop j with
  |nil=>
   have:p.length<=j:=by rw [List.drop_eq_nil_iff] at hd;exact hd
   rw [List.getElem?_eq_none this];rfl
  |cons b r=>
   have:p[j]?=some b:=by
    have h2:(p.drop j)[0]?=some b:=by rw [hd];rfl
    rw [List.getElem?_drop] at h2;simpa using h2
   rw [this,Bool.eq_iff_iff];simp only [List.isPrefixOf,Bool.and_true,beq_iff_eq,decide_eq_true_eq,Option.some.injEq];exact ⟨Eq.symm,Eq.symm⟩
 have no:Lib.NoOcc p [61] k:=λj hj=>by rw [occ];simpa using hno j hj
 refine ⟨λe=>Lib.index_past (by simp) no (by simp;omega),λh=>Lib.index_hit no hk (by rw [occ];simpa using h)⟩
theorem aJX {p:List UInt8} (h:Lib.index p [61]= -1):(Lib.cut p [61]).2.2=false:=by unfold Lib.cut;rw [h];rfl
theorem aM1 {p:List UInt8} {k:Nat} (h:Lib.index p [61]=(k:Int)):Lib.cut p [61]=(p.take k,p.drop (k+1),true):=by unfold Lib.cut;rw [h,if_pos (by omega)];simp
theorem D5 {q:List UInt8}:Lib.hasSuffix q [33]=decide (0<q.length/\q[q.length - 1]?=some 33):=by
 unfold Lib.hasSuffix;rw [Bool.eq_iff_iff,List.isSuffixOf_iff_suffix,decide_eq_true_eq];constructor
 · rintro ⟨t,rfl⟩;simp
 · rintro ⟨h0,h⟩;refine ⟨q.take (q.length - 1),?_⟩;have h2:q.drop (q.length - 1)=[33]:=by
    rw [List.drop_eq_getElem_cons (by omega)];rw [List.getElem?_eq_getElem (by omega)] at h;simp at h;rw [h,show q.length - 1+1=q.length by omega,List.drop_length]
   rw [←h2,List.take_append_drop]
theorem aCK {q:List UInt8}:Lib.trimSuffix q [33]=if Lib.hasSuffix q [33] then q.take (q.length - 1) else q:=rfl
def RH (w:World) (l:List UInt8) (a b:Nat) (v:Value) (wr:World):Prop:=
 ∃Ps:List ByteArray,MP l a b (Ps.map (·.data.toList))/\wr.ownsRow w.heap.size 9 1 v Ps.length (Ps.map Value.string)/\Below w.heap.size w wr/\∃z1 z3,v= .slice z1 Ps.length z3
theorem aEU (w:World) (l:List UInt8):RH w l 0 0 (.slice none 0 0) w:=⟨[],aA3 l,World.ownsRow_nil _ _ _ _,Below.refl _ _,none,0,rfl⟩
theorem aHZ {w:World} {X:ByteArray}:Cs (w.alloc (.cells #[.string X] 9)) (.slice (some ⟨w.heap.size,0,none⟩) 1 1) 1 1 [.string X]:=
 ⟨_,1,rfl,rfl,by simp [Value.oneCell'],λe=>by (cases e),λad hh j u hj=>by cases hh;exact World.news_of_block (cs:=#[.string X]) (heap_alloc_new w _) j u hj⟩
theorem OX {w:World} {lo e:Nat} {v:Value} {n:Nat} {xs:List Value} (h:w.ownsRow lo e 1 v n xs):∃z1 z3,v= .slice z1 n z3:=by
 rcases h.2 with ⟨rfl,h0⟩|⟨g,bW,cur,rfl,_⟩
 · exact ⟨none,0,by rw [h0]⟩
 · exact ⟨_,_,rfl⟩
theorem FR {w w3 w4:World} {lo:Nat} {v:Value} {e n:Nat} {xs:List Value} (h:w.ownsRow lo e 1 v n xs) (hb:Below w.heap.size w w3) (hlo:lo<=w.heap.size) (hg:w3.grownBy w4 v.ownBlock):Below lo w w4:=by have hs:=hb.size;refine ⟨hg.os.trans hb.os,hg.tape.trans hb.tape,hg.output.trans hb.output,by have:=hg.size;omega,λq hq=>?_⟩;rw [hg.block q (by omega) (λe=>by have:=(aJ h q e.symm).1;omega),hb.block q (by omega)]
def aHJ (W2:World) (s:List Int) (ps:List (List UInt8)) (j:Nat) (v:Value) (wr:World):Prop:=
 ∃(out:Cl) (xs:List Value),out=(ps.take j).map (λp=>(yF s p).2)/\(∀q,q<j->∀a,ps[q]?=some a->(yF s a).1=0)/\lD W2.heap.size (XO wr v) wr out v xs/\Below W2.heap.size W2 wr/\∃z1 z3,v= .slice z1 out.length z3
theorem aIS (W2:World) (s:List Int) (ps:List (List UInt8)):aHJ W2 s ps 0 (.slice none 0 0) W2:=
 ⟨[],[],by simp,λq hq=>by omega,J3 _ _,Below.refl _ _,none,0,rfl⟩
theorem FP {s:List Int} {sv:Value} {l:List UInt8} {A:ByteArray} {wn:World} {er:Int} {t:Tm} (hA:A.data.toList=l) (hN:iK wn s sv) (hl:l.length<=maxLen) (hp:gF s l=(er,t)) (w':World) (hb:Below wn.heap.size wn w'):
  Calls Tryz.prog 123 #[sv,.string A] w' λe w''=>∃z1 z2 z3,e= .returned (.tuple #[.agg #[.bool t.1.1,.int .i64 t.1.2,.slice z1 z2 z3],.int .i64 er])/\SB (New w' w'') w'' t.2 (.slice z1 z2 z3)/\Below w'.heap.size w' w'':=by
 rw [aDH hA];refine (aBC s sv l w' (hN.below hb) hl).mono ?_;rintro e w2 ⟨a,rfl,hS,hb2⟩;rw [hp] at hS ⊢;obtain ⟨z1,z2,z3,rfl⟩:=bC hS.toS;exact ⟨z1,z2,z3,rfl,hS,hb2⟩
structure QQ (w:World) (b:Nat) (neg:Bool):Prop where
 c0:w.cell? ⟨b,0,none⟩=some (.bool neg)
 c1:w.cell? ⟨b,1,none⟩=some (.bool false)
 c2:w.cell? ⟨b,2,none⟩=some (.int .i64 0)
 c3:w.cell? ⟨b,3,none⟩=some (.slice none 0 0)
 c4:w.cell? ⟨b,4,none⟩=some (.bool false)
 c5:w.cell? ⟨b,5,none⟩=some (.int .i64 0)
 c6:w.cell? ⟨b,6,none⟩=some (.slice none 0 0)
 fz:∀i,w.frozen? ⟨b,i,none⟩=false
 lt:b<w.heap.size
theorem QQ.below {w w':World} (hb:Below w.heap.size w w') {b:Nat} {neg:Bool} (h:QQ w b neg):QQ w' b neg:=
 ⟨aA hb _ _ h.c0,aA hb _ _ h.c1,aA hb _ _ h.c2,aA hb _ _ h.c3,aA hb _ _ h.c4,aA hb _ _ h.c5,aA hb _ _ h.c6,λi=>(hb.frozen h.lt).trans (h.fz i),Nat.lt_of_lt_of_le h.lt hb.size⟩
theorem aH3 (w:World) (neg:Bool):QQ (w.alloc (.cells #[.bool neg,.bool false,.int .i64 0,.slice none 0 0,.bool false,.int .i64 0,.slice none 0 0] 86)) w.heap.size neg:=by obtain ⟨g0,g1,g2,g3,g4,g5,g6,gf,_,hlt⟩:=dS (T:=86) (x0:= .bool neg) (w:=w) (x1:= .bool false) (x2:= .int .i64 0) (x3:= .slice none 0 0) (x4:= .bool false) (x5:= .int .i64 0) (x6:= .slice none 0 0) (Below.refl _ _);exact ⟨g0,g1,g2,g3,g4,g5,g6,gf,hlt⟩
theorem QQ.set {w:World} {b:Nat} (h:QQ w b false):QQ (w.setCell ⟨b,0,none⟩ (.bool true)).drew b true:=by
 have ne:∀i,i≠0->(⟨b,0,none⟩:Addr)≠⟨b,i,none⟩:=λi hi e=>by simp only [Addr.mk.injEq] at e;omega
 exact ⟨fK h.c0,(aX (ne 1 (by decide))).trans h.c1,(aX (ne 2 (by decide))).trans h.c2,(aX (ne 3 (by decide))).trans h.c3,(aX (ne 4 (by decide))).trans h.c4,(aX (ne 5 (by decide))).trans h.c5,(aX (ne 6 (by decide))).trans h.c6,λi=>(by simpa using h.fz i),by simpa [World.setCell] using h.lt⟩
theorem zW (w:World) (a:Addr):w.drew.cell? a=w.cell? a:=rfl
theorem aSD (w:World):w.drew.heap=w.heap:=rfl
theorem aDG {P:ByteArray} {p:List UInt8} (h:P.data.toList=p) {k:Nat} (hk:k<P.size):p[k]?=some P[k]:=by subst h;rw [List.getElem?_eq_getElem (by rw [←AC (B:=P) rfl];exact hk)];rfl
theorem aBD {lo:Nat} {wr w3 w4:World} {s:Cl} {v v4:Value} {xs:List Value} {l:Lt} {a d:Value} (h:lD lo (XO wr v) wr s v xs) (hb:Below wr.heap.size wr w3) (hlo:lo<=wr.heap.size)
  (hA:SB (λq=>wr.heap.size<=q/\q<w3.heap.size) w3 l.2.1.2 a) (hD:SB (λq=>wr.heap.size<=q/\q<w3.heap.size) w3 l.2.2.2 d)
  (ho:w4.ownsRow lo 86 7 v4 (s.length+1) (xs++jT l a d)) (hg:w3.grownBy w4 v.ownBlock) (hat:v4.ownBlock=v.ownBlock\/v4.ownBlock=some w3.heap.size):
  lD lo (XO w4 v4) w4 (s++[l]) v4 (xs++jT l a d)/\Below lo wr w4:=by
 have hs:=hb.size;have hs4:=hg.size;have hv:∀q,v.ownBlock=some q->lo<=q/\q<wr.heap.size:=λq hq=>aJ h.row q hq;have noq:∀q,q<w3.heap.size->some q≠v.ownBlock->q<w4.heap.size/\some q≠v4.ownBlock:=λq hq hn=>by
  refine ⟨by omega,λe=>?_⟩;rcases hat with e'|e'
  · exact hn (e.trans e')
  · rw [e'] at e;simp at e;omega
 have ok:∀q,(wr.heap.size<=q/\q<w3.heap.size)->q<w3.heap.size/\some q≠v.ownBlock:=λq hq=>by refine ⟨by omega,λe=>?_⟩;have:=hv q e.symm;omega
 refine ⟨⟨by simpa using ho,?_,λq hq=>hq⟩,⟨hg.os.trans hb.os,hg.tape.trans hb.tape,hg.output.trans hb.output,by omega,λq hq=>?_⟩⟩
 · refine LC.append (LC.one ?_ ?_) ?_
   · exact hA.frame (λq hq=>noq q (ok q hq).1 (ok q hq).2) (λq i hq=>World.cell?_of_block (hg.block q (ok q hq).1 (ok q hq).2))
   · exact hD.frame (λq hq=>noq q (ok q hq).1 (ok q hq).2) (λq i hq=>World.cell?_of_block (hg.block q (ok q hq).1 (ok q hq).2))
   · refine h.cells.frame (λq hq=>noq q (by have:=hq.1;omega) hq.2) (λq i hq=>World.cell?_of_block ?_);rw [hg.block q (by have:=hq.1;omega) hq.2,hb.block q hq.1]
 · have hn:some q≠v.ownBlock:=λe=>by have:=hv q e.symm;omega
   rw [hg.block q (by omega) hn,hb.block q (by omega)]
theorem YC (s:List Int) (sv:Value) (T:ByteArray) (w:World) (hN:iK w s sv) (hT:T.size<4294967281):
  Calls Tryz.prog 85 #[sv,.string T] w (P8 s T.data.toList w):=by
 obtain ⟨l,hl⟩:∃l,T.data.toList=l:=⟨_,rfl⟩;have hTl:T.size=l.length:=AC hl;have HTl:=aB hTl;have HN:=aB hN;obtain ⟨sa,sc,_,_,rfl,-,-,-,-⟩:=hN;rw [hl];go_enter Tryz.func85,Tryz.ntmps85
 go_wp2_with fail
 refine (DN s _ _ HN.out).mono ?_;rintro e w' ⟨rfl,hw'⟩;rw [hw'];clear hw' w';by_cases hw:gX s=0
 · have Hw:=aB hw;simp only [hw];clear hw;by_cases h2:T=⟨#[91,93]⟩
   · subst h2;have Hf:Hid (jU s l=(0,[])):=by rw [Hid,jU,if_neg (by simp [Hw.out]),if_pos hl.symm]
     clear hl hTl
     go_wp2_with fail
     go_ret2;exact nM Hf.out (Below.refl _ _)
   · have Hne:Hid (l≠[91,93]):=λe=>h2 (by rw [e] at hl;exact aDH hl);have Hpc:Hid (jU s l=Q7 s (oI l)):=by rw [Hid,jU,if_neg (by simp [Hw.out]),if_neg Hne.out]
     have h2b:(T.toList==[91,93])=false:=by rw [ByteArray.toList_eq,hl];simpa using Hne.out
     have Hl:=aB hl;clear hl h2 hTl;obtain ⟨i9,hi9,hy0,hy1,hy2⟩:=info_parts Tryz.info9;obtain ⟨iL,hiL,hl0,hl1,hl2⟩:=info_parts Tryz.info86
     go_wp2_with fail
     go_loopw [7,8,9] (λv fr i wr=>∃(a b:Nat),a<=T.size/\i= .int .i64 a/\fr= .int .i64 b/\RH w l a b v wr) (λ_ _ i _=>T.size - (intOf i).toNat)
     case atStart=>exact ⟨0,0,Nat.zero_le _,rfl,rfl,aEU w l⟩
     case round=>
      obtain ⟨a,b,ha,rfl,rfl,Ps,hSc,hO,hBr,z1,z3,rfl⟩:=hrel;have HSc:=aB hSc;have HO:=aB hO;have bZ:b<=a:=hSc.fi;have TJ:=hBr.size;have hPl:Ps.length<=l.length+1:=by have h1:=congrArg List.length hSc.all;have h2:=aMQ l;simp only [List.length_append,List.length_map] at h1;omega
      have aVZ:Ps.length<=T.size+1:=by rw [HTl.out];exact hPl
      clear hSc hO hPl;have hn1:Ps.length+1<=maxLen:=by unfold maxLen;omega
      have hn2:(Ps.length+1)*16<=140737488355328:=by omega
      have hB1:(0:Int)<=(b:Int):=by omega
      have hB2:(b:Int)<=(a:Int):=by omega
      have hA1:(0:Int)<=(a:Int):=by omega
      have hA2:(a:Int)<=(T.size:Int):=by omega
      by_cases hlt:a+3<=T.size
      · have hlt':(a:Int)+3<=(T.size:Int):=by omega
        have hex:(T.extract a (a+3)).toList=(l.drop a).take 3:=by rw [Lib.extract_toList,Hl.out,show a+3 - a=3 by omega]
        by_cases hs:(l.drop a).take 3=l5
        · have hc:((T.extract a (a+3)).toList==[32,124,32])=true:=by rw [hex,hs];rfl
          have uD:=aB (HSc.out.hit (by rw [←HTl.out];exact hlt) hs);have Hxd:Hid ((T.extract b a).data.toList=(l.drop b).take (a - b)):=by rw [Hid,Lib.extract_data,Hl.out]
          clear hex hs;have hb5:∀ob,Below wr.heap.size wr (wr.alloc ob):=λob=>aD _ _
          go_wp2_with (at_builtin;refine bX rfl (.tmp 37) (.tmp 42) 117 rfl w.heap.size 9 i9 (.string ByteArray.empty) 1 16 Tryz.underlying117 hi9 hy0 hy1 hy2 rfl (by decide) (.slice z1 Ps.length z3) Ps.length (Ps.map Value.string) rfl (bA HO.out (λg hg=>(hb5 _).block g (aJ HO.out g hg).2)) _ 1 [.string (T.extract b a)] rfl aHZ hn1 hn2 (Nat.le_trans TJ (hb5 _).size) ?_;intro v4 w4 sM hg4 jE)
          have hB4:=FR HO.out (hb5 _) TJ hg4;obtain ⟨r1,r3,rfl⟩:=OX sM;have HR:Hid (RH w l (a+3) (a+3) (.slice r1 (Ps.length+1) r3) w4):=by
           refine ⟨Ps++[T.extract b a],?_,?_,hBr.trans hB4,r1,r3,by simp⟩
           · rw [List.map_append,List.map_singleton,Hxd.out];exact uD.out
           · rw [List.map_append,List.length_append];exact sM
          clear sM hg4 jE hB4 hc
          go_wp2_with fail
          go_roundw
          case rel=>exact ⟨a+3,a+3,hlt,by go_num,by go_num,HR.out⟩
          case measure=>simp [intOf];omega
        · have hc:((T.extract a (a+3)).toList==[32,124,32])=false:=by rw [hex];simpa using hs
          have HR:Hid (RH w l (a+1) b (.slice z1 Ps.length z3) wr):=⟨Ps,HSc.out.miss (by rw [←HTl.out];exact hlt) hs,HO.out,hBr,z1,z3,rfl⟩;clear hex hs
          go_wp2_with fail
          go_roundw
          case rel=>exact ⟨a+1,b,by omega,by go_num,rfl,HR.out⟩
          case measure=>simp [intOf];omega
      · have hlt':¬(a:Int)+3<=(T.size:Int):=by omega
        have hB3:(b:Int)<=(T.size:Int):=by omega
        have Hls:=aB (HSc.out.last (by rw [←HTl.out];exact hlt));have Hxd:Hid ((T.extract b T.size).data.toList=l.drop b):=by rw [Hid,Lib.extract_data,Hl.out,List.take_of_length_le (by rw [List.length_drop,HTl.out];exact Nat.le_refl _)]
        have hb5:∀ob,Below wr.heap.size wr (wr.alloc ob):=λob=>aD _ _
        go_upto_region 16 with (at_builtin;refine bX rfl (.tmp 49) (.tmp 53) 117 rfl w.heap.size 9 i9 (.string ByteArray.empty) 1 16 Tryz.underlying117 hi9 hy0 hy1 hy2 rfl (by decide) (.slice z1 Ps.length z3) Ps.length (Ps.map Value.string) rfl (bA HO.out (λg hg=>(hb5 _).block g (aJ HO.out g hg).2)) _ 1 [.string (T.extract b T.size)] rfl aHZ hn1 hn2 (Nat.le_trans TJ (hb5 _).size) ?_;intro v4 w4 sM hg4 jE;obtain ⟨r1,r3,rfl⟩:=OX sM)
        have hB4:=hBr.trans (FR HO.out (hb5 _) TJ hg4);obtain ⟨Qs,hQs⟩:∃Qs,Qs=Ps++[T.extract b T.size]:=⟨_,rfl⟩;have hQl:Qs.length=Ps.length+1:=by rw [hQs];simp
        have HQd:Hid (Qs.map (·.data.toList)=oI l):=by rw [hQs,List.map_append,List.map_singleton,Hxd.out];exact Hls.out
        have ho5:w4.ownsRow w.heap.size 9 1 (.slice r1 (Ps.length+1) r3) Qs.length (Qs.map Value.string):=by rw [hQl,hQs,List.map_append];exact sM
        rw [←hQl] at ho5 ⊢;have HQc:Hid (∀g,r1=some ⟨g,0,none⟩->∀j x,Qs[j]?=some x->w4.cell? ⟨g,j,none⟩=some (.string x)):=λg hg j x hx=>by have:=ho5.cells (g:=g) (by rw [hg];rfl) j (.string x) (by rw [List.getElem?_map,hx];rfl);rw [add_plain,Nat.zero_add] at this;exact this
        have QI:Hid (∃g,r1=some ⟨g,0,none⟩):=by
         rcases ho5.2 with ⟨_,h0⟩|⟨g,bW,cur,he,_⟩
         · omega
         · simp only [Value.slice.injEq] at he;exact ⟨g,he.1⟩
        have Hsm:Hid (∀p∈Qs,p.size<=T.size):=λp hp=>by
         have h1:p.data.toList∈oI l:=by rw [←HQd.out];exact List.mem_map_of_mem hp
         rw [AC (B:=p) rfl,HTl.out];exact aAY _ _ _ h1
        have hQm:(Qs.length:Int)<=9223372036854775807:=by omega
        have HQl:=aB hQl;clear sM hg4 jE ho5 hQs hb5 HSc HO hQl;by_cases h4:4<Qs.length
        · have h4':(4:Int)<(Qs.length:Int):=by omega
          have Hf:Hid (jU s l=(5,[])):=by rw [Hid,Hpc.out,Q7,if_pos (by rw [←HQd.out,List.length_map];exact h4)]
          go_wp2_with fail
          go_ret2;exact nM Hf.out hB4
        · have h4':¬(4:Int)<(Qs.length:Int):=by omega
          have aKW:Hid (jU s l=if uH s (oI l)≠0 then (uH s (oI l),[]) else (0,(oI l).map λp=>(yF s p).2)):=by rw [Hid,Hpc.out,Q7,if_neg (by rw [←HQd.out,List.length_map];exact h4)]
          go_wp2_with fail
          go_loopw [10,60] (λv i wx=>∃(j:Nat),j<=Qs.length/\i= .int .i64 j/\aHJ w4 s (oI l) j v wx) (λ_ i _=>Qs.length - (intOf i).toNat)
          case atStart=>exact ⟨0,Nat.zero_le _,rfl,aIS _ _ _⟩
          case round=>
           obtain ⟨j,hj,rfl,out,xs,hout,hno,hOw,hBx,o1,o3,rfl⟩:=hrel;have aRP:=aB hout;have Hno:=aB hno;have HOw:=aB hOw;have hol:out.length<=j:=by rw [hout,List.length_map,List.length_take];omega
           have hsx:=hBx.size;have aOV:=hB4.trans (hBx.mono hB4.size);clear hout hno hOw;obtain ⟨g,rfl⟩:=QI.out;by_cases hlt:j<Qs.length
           · have hlt':(j:Int)<(Qs.length:Int):=by omega
             have hj0:(0:Int)<=(j:Int):=by omega
             obtain ⟨P,hP⟩:∃P,Qs[j]?=some P:=⟨Qs[j]'hlt,by simp⟩;have hc:=aA hBx _ _ (HQc.out g rfl j P hP);have UB:Hid ((oI l)[j]?=some P.data.toList):=by rw [Hid,←HQd.out,List.getElem?_map,hP];rfl
             have hPz:=Hsm.out P (List.mem_of_getElem? hP);obtain ⟨p,hp⟩:∃p,P.data.toList=p:=⟨_,rfl⟩;have hpl:P.size=p.length:=AC hp;have Hp:=aB hp;have Hpl:=aB hpl;rw [hp] at UB;clear hP hp hpl
             go_wp2_with fail
             go_loopw [13] (λi wy=>∃k:Nat,k<=P.size/\i= .int .i64 k/\(∀q,q<k->p[q]?≠some 61)/\wy=wr) (λi _=>P.size - (intOf i).toNat)
             case atStart=>exact ⟨0,Nat.zero_le _,rfl,λq hq=>by omega,rfl⟩
             case round=>
              obtain ⟨k,hk,rfl,hkn,rfl⟩:=hrel;have Hkn:=aB hkn;clear hkn;have hk0:(0:Int)<=(k:Int):=by omega
              by_cases hkl:k<P.size
              · have hkl':(k:Int)<(P.size:Int):=by omega
                have Hbt:=aB (aDG Hp.out hkl);by_cases h61:P[k]=61
                · have aT3:((P[k].toNat:Int)!=61)=false:=by rw [h61];rfl
                  have hkb:((k:Int)==(P.size:Int))=false:=by rw [beq_eq_false_iff_ne];omega
                  have aU0:Hid (Lib.cut p [61]=(p.take k,p.drop (k+1),true)):=aM1 ((PD (by rw [←Hpl.out];omega) Hkn.out).2 (by rw [Hbt.out,h61]))
                  have GI:Hid (yF s p=if (gF s (Lib.trimSuffix (p.take k) [33])).1≠0 then ((gF s (Lib.trimSuffix (p.take k) [33])).1,DF) else
                    if (gF s (p.drop (k+1))).1≠0 then ((gF s (p.drop (k+1))).1,DF) else
                    (0,(Lib.hasSuffix (p.take k) [33],(gF s (Lib.trimSuffix (p.take k) [33])).2,(gF s (p.drop (k+1))).2))):=by
                   rw [Hid,yF,aU0.out,if_neg (by simp)]
                  have Hxk:Hid ((P.extract 0 k).data.toList=p.take k):=by rw [Hid,Lib.extract_data,Hp.out];simp
                  have hxs:(P.extract 0 k).size=k:=by rw [AC Hxk.out,List.length_take,←Hpl.out];omega
                  have Hxd:Hid ((P.extract (k+1) P.size).data.toList=p.drop (k+1)):=by rw [Hid,Lib.extract_data,Hp.out,List.take_of_length_le (by rw [List.length_drop,Hpl.out];exact Nat.le_refl _)]
                  have hK1:(k:Int)+1<=(P.size:Int):=by omega
                  clear h61 hc
                  go_upto_region 29 with fail
                  generalize fA:wr.alloc (.cells #[.bool false,.bool false,.int .i64 0,.slice none 0 0,.bool false,.int .i64 0,.slice none 0 0] 86)=wa;have HZ:Hid (QQ wa wr.heap.size false):=by rw [←fA];exact aH3 wr false
                  have bZ:Below wr.heap.size wr wa:=by rw [←fA];exact aD _ _
                  clear fA;obtain ⟨neg,hneg⟩:∃b,Lib.hasSuffix (p.take k) [33]=b:=⟨_,rfl⟩;obtain ⟨lc,hlc⟩:∃b,Lib.trimSuffix (p.take k) [33]=b:=⟨_,rfl⟩;rw [hneg,hlc] at GI
                  go_cut [92] (λs92 wz=>s92= .bool neg/\wz=wa)
                  case first=>
                   by_cases hkz:k=0
                   · have hk1:¬0<k:=by omega
                     have aOH:¬(0:Int)<(k:Int):=by omega
                     have hng:neg=false:=by rw [←hneg,D5,hkz];rfl
                     subst hng;clear hkz
                     go_wp2_with fail
                     go_meet
                     case rel=>exact ⟨rfl,rfl⟩
                   · have hk1:0<k:=by omega
                     have aOH:(0:Int)<(k:Int):=by omega
                     have hk2:(0:Int)<=(k:Int) - 1:=by omega
                     have hk3:(k:Int) - 1<(k:Int):=by omega
                     have hk4:k - 1<(P.extract 0 k).size:=by omega
                     have Hb2:=aB (aDG Hxk.out hk4);have aRL:Hid (neg=decide ((P.extract 0 k)[k - 1]=33)):=by
                      have hlen:(p.take k).length=k:=by rw [List.length_take,←Hpl.out];omega
                      rw [Hid,←hneg,D5,hlen,Hb2.out,Bool.eq_iff_iff];simp only [decide_eq_true_eq,Option.some.injEq];exact ⟨λh=>h.2,λh=>⟨hk1,h⟩⟩
                     by_cases h33:(P.extract 0 k)[k - 1]=33
                     · have aT4:(((P.extract 0 k)[k - 1].toNat:Int)==33)=true:=by rw [h33];rfl
                       have hng:neg=true:=by rw [aRL.out];simpa using h33
                       subst hng;clear h33 hkz
                       go_wp2_with fail
                       go_meet
                       case rel=>exact ⟨rfl,rfl⟩
                     · have aT4:(((P.extract 0 k)[k - 1].toNat:Int)==33)=false:=by
                        rw [beq_eq_false_iff_ne];intro e
                        exact h33 (UInt8.toNat_inj.1 (by have:(P.extract 0 k)[k - 1].toNat=33:=by omega
                                                         rw [this];rfl))
                       have hng:neg=false:=by rw [aRL.out];simpa using h33
                       subst hng;clear h33 hkz
                       go_wp2_with fail
                       go_meet
                       case rel=>exact ⟨rfl,rfl⟩
                  case rest=>
                   obtain ⟨rfl,rfl⟩:=hcut;generalize wc=wa at*
                   go_upto_if 92 with fail
                   go_cut [15] (λs15 wz=>∃L:ByteArray,s15= .string L/\L.data.toList=lc/\QQ wz wr.heap.size neg/\Below wr.heap.size wr wz)
                   case first=>
                    cases neg with
                    |false=>
                     have HL:Hid ((P.extract 0 k).data.toList=lc):=by rw [Hid,Hxk.out,←hlc,aCK,hneg];rfl
                     go_wp2_with fail
                     go_meet
                     case rel=>exact ⟨P.extract 0 k,rfl,HL.out,HZ.out,bZ⟩
                    |true=>
                     have hk1:0<k:=by
                      rcases Nat.eq_zero_or_pos k with h|h
                      · rw [h,D5] at hneg;simp at hneg
                      · exact h
                     have hk2:(0:Int)<=(k:Int) - 1:=by omega
                     have hk3:(k:Int) - 1<=(k:Int):=by omega
                     obtain ⟨z0,z1',z2',z3',z4',z5',z6',zf,zl⟩:=HZ.out;have HL:Hid (((P.extract 0 k).extract 0 (k - 1)).data.toList=lc):=by rw [Hid,Lib.extract_data,Hxk.out,←hlc,aCK,hneg,if_pos rfl,List.drop_zero,List.length_take,←Hpl.out,Nat.min_eq_left (by omega),Nat.sub_zero]
                     go_wp2_with fail
                     go_region
                     all_goals
                      go_wp2_with fail
                      go_meet
                      case rel=>exact ⟨(P.extract 0 k).extract 0 (k - 1),rfl,HL.out,HZ.out.set,(bZ.setCell (Nat.le_refl _) _).drew⟩
                   case rest=>
                    obtain ⟨L,rfl,hL,hZ,hbz⟩:=hcut;generalize wc=wz at*;have HZz:=aB hZ;have HL:=aB hL;have hBz:=aOV.trans (hbz.mono (Nat.le_trans hB4.size hsx));obtain ⟨⟨er1,⟨tv,ti⟩,tk⟩,hp1⟩:∃x,gF s lc=x:=⟨_,rfl⟩;obtain ⟨⟨er2,⟨uv,ui⟩,uk⟩,hp2⟩:∃x,gF s (p.drop (k+1))=x:=⟨_,rfl⟩;have aQZ:lc.length<=maxLen:=by have h1:=aIC (p:=p.take k) (q:=[33]);rw [hlc,List.length_take] at h1;have:=Hpl.out;unfold maxLen;omega
                    have aQY:(p.drop (k+1)).length<=maxLen:=by have:=Hpl.out;rw [List.length_drop];unfold maxLen;omega
                    have Hp1:=aB (FP HL.out (HN.out.below hBz) aQZ hp1);have Hp2:=aB (FP Hxd.out (HN.out.below hBz) aQY hp2);rw [hp1,hp2] at GI;clear hp1 hp2 aQZ aQY hL hZ hneg hlc HZ bZ
                    go_wp2_with fail
                    refine (Hp1.out _ (Below.refl _ _)).mono ?_;rintro e w5 ⟨z1,z2,z3,rfl,hS5,hb5⟩;have HS5:=aB hS5;simp only at*;have NA:=aC hBz hb5;clear hS5;generalize hw6:w5.alloc (.cells #[.bool tv,.int .i64 ti,.slice z1 z2 z3] 84)=w6;have hb6:Below w5.heap.size w5 w6:=by rw [←hw6];exact aD _ _
                    have t0:w6.cell? ⟨w5.heap.size,0,none⟩=some (.bool tv):=by rw [←hw6];exact aF rfl
                    have t1:w6.cell? ⟨w5.heap.size,1,none⟩=some (.int .i64 ti):=by rw [←hw6];exact aF rfl
                    have t2:w6.cell? ⟨w5.heap.size,2,none⟩=some (.slice z1 z2 z3):=by rw [←hw6];exact aF rfl
                    have hs6:w5.heap.size<w6.heap.size:=by rw [←hw6];simp
                    have hB6:=aC NA hb6;by_cases he:er1=0
                    · subst he;rw [if_neg (by simp)] at GI
                      go_upto_region 34 with fail
                      try rw [hw6]
                      clear hw6
                      go_wp2_with fail
                      refine (Hp2.out _ (aC hb5 hb6)).mono ?_;rintro e w7 ⟨y1,y2,y3,rfl,hS7,iJ⟩;have HS7:=aB hS7;simp only at*;clear hS7;generalize hw8:w7.alloc (.cells #[.bool uv,.int .i64 ui,.slice y1 y2 y3] 84)=w8;have mR:Below w7.heap.size w7 w8:=by rw [←hw8];exact aD _ _
                      have x0:w8.cell? ⟨w7.heap.size,0,none⟩=some (.bool uv):=by rw [←hw8];exact aF rfl
                      have x1:w8.cell? ⟨w7.heap.size,1,none⟩=some (.int .i64 ui):=by rw [←hw8];exact aF rfl
                      have x2:w8.cell? ⟨w7.heap.size,2,none⟩=some (.slice y1 y2 y3):=by rw [←hw8];exact aF rfl
                      have hs8:w7.heap.size<w8.heap.size:=by rw [←hw8];simp
                      have aGW:=aC iJ mR;have v0:=aA aGW _ _ t0;have v1:=aA aGW _ _ t1;have v2:=aA aGW _ _ t2;have aQ7:=aC hb6 aGW;have aQ6:=aC hb5 aQ7;have HZ8:=aB (HZz.out.below aQ6);have hB8:=aC hB6 aGW;clear t0 t1 t2;by_cases he:er2=0
                      · subst he;rw [if_neg (by simp)] at GI
                        go_upto_region 37 with fail
                        try rw [hw8]
                        clear hw8;have hlz:=HZz.out.lt;have q5:=hb5.size;have q6:=hb6.size;have q7:=iJ.size;have hn5:w5.heap.size≠wr.heap.size:=by omega
                        have aVQ:wr.heap.size≠w5.heap.size:=by omega
                        have hn7:w7.heap.size≠wr.heap.size:=by omega
                        have aVP:wr.heap.size≠w7.heap.size:=by omega
                        obtain ⟨g0,g1,g2,g3,g4,g5,g6,gf,gl⟩:=HZ8.out
                        go_region
                        all_goals
                         go_upto_region 38 with fail
                         generalize hw9:((((((w8.setCell ⟨wr.heap.size,1,none⟩ (.bool tv)).setCell ⟨wr.heap.size,2,none⟩ (.int .i64 ti)).setCell ⟨wr.heap.size,3,none⟩ (.slice z1 z2 z3)).setCell ⟨wr.heap.size,4,none⟩ (.bool uv)).setCell ⟨wr.heap.size,5,none⟩ (.int .i64 ui)).setCell ⟨wr.heap.size,6,none⟩ (.slice y1 y2 y3)).drew=w9;have e9:w9=(mW w8 wr.heap.size 1 [.bool tv,.int .i64 ti,.slice z1 z2 z3,.bool uv,.int .i64 ui,.slice y1 y2 y3]).drew:=hw9.symm;have aTT:Below wr.heap.size wr w8:=hbz.trans (aQ6.mono (by omega));have ZI:Below wr.heap.size wr w9:=by rw [e9];exact (gW (Nat.le_refl _) aTT).drew
                         have at6:=tC (b:=wr.heap.size) (xs:=[.bool tv,.int .i64 ti,.slice z1 z2 z3,.bool uv,.int .i64 ui,.slice y1 y2 y3]) (o:=1) (w:=w8) (λi hi=>by
                          simp at hi;rcases i with _|_|_|_|_|_|i
                          · exact ⟨_,g1⟩
                          · exact ⟨_,g2⟩
                          · exact ⟨_,g3⟩
                          · exact ⟨_,g4⟩
                          · exact ⟨_,g5⟩
                          · exact ⟨_,g6⟩
                          · omega)
                         have k0:w9.cell? ⟨wr.heap.size,0,none⟩=some (.bool neg):=by rw [e9,zW,dP (.inr (.inl (by omega)))];exact g0
                         have k1:w9.cell? ⟨wr.heap.size,1,none⟩=some (.bool tv):=by rw [e9,zW];exact at6 0 _ rfl
                         have k2:w9.cell? ⟨wr.heap.size,2,none⟩=some (.int .i64 ti):=by rw [e9,zW];exact at6 1 _ rfl
                         have k3:w9.cell? ⟨wr.heap.size,3,none⟩=some (.slice z1 z2 z3):=by rw [e9,zW];exact at6 2 _ rfl
                         have k4:w9.cell? ⟨wr.heap.size,4,none⟩=some (.bool uv):=by rw [e9,zW];exact at6 3 _ rfl
                         have k5:w9.cell? ⟨wr.heap.size,5,none⟩=some (.int .i64 ui):=by rw [e9,zW];exact at6 4 _ rfl
                         have k6:w9.cell? ⟨wr.heap.size,6,none⟩=some (.slice y1 y2 y3):=by rw [e9,zW];exact at6 5 _ rfl
                         have s9:w9.heap.size=w8.heap.size:=by rw [e9,aSD,lX]
                         have q8:=mR.size;have HA9:Hid (SB (λq=>wr.heap.size<=q/\q<w9.heap.size) w9 tk (.slice z1 z2 z3)):=HS5.out.frame (λq hq=>⟨by have:=hq.1;omega,by have:=hq.2;omega⟩) (λq i hq=>by have h1:=hq.1;have h2:=hq.2;rw [e9,zW,dP (.inl (by omega))];exact aQ7.cell h2)
                         have HD9:Hid (SB (λq=>wr.heap.size<=q/\q<w9.heap.size) w9 uk (.slice y1 y2 y3)):=HS7.out.frame (λq hq=>⟨by have:=hq.1;omega,by have:=hq.2;omega⟩) (λq i hq=>by have h1:=hq.1;have h2:=hq.2;rw [e9,zW,dP (.inl (by omega))];exact mR.cell h2)
                         clear s9 at6 e9 hw9 g0 g1 g2 g3 g4 g5 g6 gf;have hm1:out.length+1<=maxLen:=by unfold maxLen;omega
                         have hm2:(out.length+1)*88<=140737488355328:=by omega
                         have hbo:∀ob,Below wr.heap.size wr (w9.alloc ob):=λob=>aC ZI (aD _ _)
                         go_wp2_with (at_builtin;refine bX rfl (.tmp 123) (.tmp 125) 44 rfl w4.heap.size 86 iL (.agg #[.bool false,.bool false,.int .i64 0,.slice none 0 0,.bool false,.int .i64 0,.slice none 0 0]) 7 88 Tryz.underlying44 hiL hl0 hl1 hl2 rfl (by decide) (.slice o1 out.length o3) out.length xs rfl (lD.below HOw.out (hbo _)).row _ 1 (jT (neg,((tv,ti),tk),((uv,ui),uk)) (.slice z1 z2 z3) (.slice y1 y2 y3)) rfl IY hm1 hm2 (Nat.le_trans hsx (hbo _).size) ?_;intro vA wA hoA hgA QP)
                         obtain ⟨hO4,hBA⟩:=aBD (l:=(neg,((tv,ti),tk),((uv,ui),uk))) HOw.out (hbo _) hsx ((HA9.out.frame (λq hq=>⟨hq.1,by simp;have:=hq.2;omega⟩) (λq i hq=>(aD _ _).cell hq.2))) ((HD9.out.frame (λq hq=>⟨hq.1,by simp;have:=hq.2;omega⟩) (λq i hq=>(aD _ _).cell hq.2))) hoA hgA QP;obtain ⟨c1,c3,rfl⟩:=aK hO4.cl;have HR:Hid (aHJ w4 s (oI l) (j+1) (.slice c1 (out++[(neg,((tv,ti),tk),((uv,ui),uk))]).length c3) wA):=by
                          refine ⟨_,_,?_,λq hq a ha=>?_,hO4,hBx.trans hBA,c1,c3,rfl⟩
                          · rw [List.take_add_one,UB.out,List.map_append,←aRP.out];simp [GI.out]
                          · by_cases e:q=j
                            · subst e;rw [UB.out] at ha;cases ha;rw [GI.out]
                            · exact Hno.out q (by omega) a ha
                         clear hO4 hoA hgA QP hBA
                         go_wp2_with fail
                         go_roundw
                         case rel=>exact ⟨j+1,by omega,by go_num,HR.out⟩
                         case measure=>simp [intOf];omega
                      · rw [if_pos he] at GI;have xJ:(er2 !=0)=true:=by simp [he]
                        have Hf:Hid (jU s l=(er2,[])):=by have h1:=BJ Hno.out UB.out (by rw [GI.out];exact he);rw [GI.out] at h1;rw [Hid,aKW.out,h1,if_pos he]
                        clear he
                        go_upto_region 35 with fail
                        try rw [hw8]
                        clear hw8
                        go_wp2_with fail
                        go_ret2;exact nM Hf.out hB8
                    · rw [if_pos he] at GI;have xJ:(er1 !=0)=true:=by simp [he]
                      have Hf:Hid (jU s l=(er1,[])):=by have h1:=BJ Hno.out UB.out (by rw [GI.out];exact he);rw [GI.out] at h1;rw [Hid,aKW.out,h1,if_pos he]
                      clear he
                      go_upto_region 32 with fail
                      try rw [hw6]
                      clear hw6
                      go_wp2_with fail
                      go_ret2;exact nM Hf.out hB6
                · have aT3:((P[k].toNat:Int)!=61)=true:=by
                   rw [bne_iff_ne];intro e
                   exact h61 (UInt8.toNat_inj.1 (by have:P[k].toNat=61:=by omega
                                                    rw [this];rfl))
                  have aUV:Hid (∀q,q<k+1->p[q]?≠some 61):=λq hq e=>by
                   by_cases hqk:q=k
                   · rw [hqk,Hbt.out] at e;exact h61 (Option.some.inj e)
                   · exact Hkn.out q (by omega) e
                  clear h61
                  go_wp2_with fail
                  go_roundw
                  case rel=>exact ⟨k+1,by omega,by go_num,aUV.out,trivial⟩
                  case measure=>simp [intOf];omega
              · have hke:k=P.size:=by omega
                have hkb:((k:Int)==(P.size:Int))=true:=by rw [beq_iff_eq];omega
                have Hf:Hid (jU s l=(2,[])):=by
                 have h0:yF s p=(2,DF):=by rw [yF,aJX ((PD (by rw [←Hpl.out];omega) Hkn.out).1 (by rw [←Hpl.out];exact hke)),if_pos rfl]
                 have h1:=BJ Hno.out UB.out (by rw [h0];decide);rw [h0] at h1;rw [Hid,aKW.out,h1,if_pos (by decide)]
                go_wp2_with fail
                go_ret2;exact nM Hf.out aOV
           · have lK:j=Qs.length:=by omega
             have hfl:(oI l).length=Qs.length:=by rw [←HQd.out,List.length_map]
             have Hf:Hid (jU s l=(0,out)):=by
              have h1:uH s (oI l)=0:=O4.2 λp hp=>by obtain ⟨i,hi,e⟩:=List.mem_iff_getElem.1 hp;exact Hno.out i (by omega) p (by rw [List.getElem?_eq_getElem hi,e])
              rw [Hid,aKW.out,if_neg (by simp [h1]),aRP.out,lK,←hfl,List.take_length]
             have bP:=aB HOw.out.cl;clear hfl
             go_wp2_with fail
             go_ret2;exact ⟨o1,out.length,o3,by rw [Hf.out];rfl,by rw [Hf.out];exact bP.out,aOV⟩
 · have Hf:Hid (jU s l=(gX s,[])):=by rw [Hid,jU,if_pos hw]
   have xJ:(gX s !=0)=true:=by simp [hw]
   generalize gX s=er at*;clear hw
   go_wp2_with fail
   go_ret2;exact nM Hf.out (Below.refl _ _)
theorem aAN (s:List Int) (sv:Value) (k:Cl) (a:Value) (w:World) (hN:iK w s sv) (hS:dQ w k a):
  Calls Tryz.prog 47 #[sv,a] w λe w'=>e= .returned (.int .i64 (aN s k))/\Below w.heap.size w w':=by
 obtain ⟨a1,c1,b1,o1,rfl,eZ,uY,hcm1,hF1⟩:=hS;unfold maxLen at hcm1;have zT:=aB hF1;have HN:=aB hN;obtain ⟨sa,sc,_,_,rfl,-,-,-,-⟩:=hN;clear hF1;by_cases h4:4<k.length
 · have h4':(4:Int)<(k.length:Int):=by omega
   have Hf:Hid (aN s k=5):=if_pos h4;go_enter Tryz.func47,Tryz.ntmps47
   go_wp2_with fail
   go_ret;exact ⟨by rw [Hf.out];rfl,Below.refl _ _⟩
 · have h4':¬(4:Int)<(k.length:Int):=by omega
   have Hw:Hid (aN s k=nQ s k):=if_neg h4;go_enter Tryz.func47,Tryz.ntmps47
   go_wp2_with fail
   go_loopw [14] (λi wr=>∃j:Nat,j<=k.length/\i= .int .i64 j/\(∀i,i<j->∀a,k[i]?=some a->jG s a=0)/\Below w.heap.size w wr) (λi _=>k.length - (intOf i).toNat)
   case atStart=>exact ⟨0,Nat.zero_le _,rfl,λi hi=>by omega,Below.refl _ _⟩
   case round=>
    obtain ⟨j,hj,rfl,hok,hBr⟩:=hrel;have nD:=aB hok;clear hok;by_cases hlt:j<k.length
    · have hlt':(j:Int)<(k.length:Int):=by omega
      obtain ⟨⟨yn,⟨⟨yv,yi⟩,yk⟩,⟨bB,bH⟩,aZ⟩,hy⟩:∃y,k[j]?=some y:=⟨k[j]'hlt,by simp⟩;obtain ⟨p0,p1,p2,⟨u3,p3,hA⟩,p4,p5,u6,p6,hD⟩:=(zT.out.below hBr).at hy;have ha1:a1=some ⟨b1,o1,none⟩:=eZ (by omega);subst ha1;have HA:=aB hA;have HD:=aB hD;obtain ⟨_,_,_,_,rfl,-,-,-,-⟩:=hA;obtain ⟨_,_,_,_,rfl,-,-,-,-⟩:=hD;have Hy:=aB hy;clear hy eZ;simp only at*
      go_wp2_with fail
      refine (NN s _ (yv,yi) yk _ _ ((HN.out.below hBr).alloc _) (HA.out.alloc _)).mono ?_;rintro e w2 ⟨rfl,hb2⟩;obtain ⟨-,-,-,-,e4,e5,e6,-,hb2',-⟩:=dS hb2;have hB2:=aC hBr hb2';have HD2:=aB (HD.out.below hb2');have HN2:=aB (HN.out.below hB2);clear hb2;by_cases he:aU s (yv,yi) yk=0
      · have xJ:(aU s (yv,yi) yk !=0)=false:=by simp [he]
        have He:=aB he;clear he;generalize aU s (yv,yi) yk=e1 at xJ
        go_wp2_with fail
        refine (NN s _ (bB,bH) aZ _ _ HN2.out HD2.out).mono ?_;rintro e w3 ⟨rfl,hb3⟩;have hB3:=aC hB2 hb3;by_cases he:aU s (bB,bH) aZ=0
        · have ZZ:(aU s (bB,bH) aZ !=0)=false:=by simp [he]
          have He2:=aB he;clear he;generalize aU s (bB,bH) aZ=e2 at ZZ
          go_wp2_with fail
          go_roundw
          case rel=>exact ⟨j+1,by omega,by go_num,λi hi a ha=>by
           by_cases e:i=j
           · subst e;rw [Hy.out] at ha;cases ha;exact tJ.2 ⟨He.out,He2.out⟩
           · exact nD.out i (by omega) a ha,hB3⟩
          case measure=>simp [intOf];omega
        · have ZZ:(aU s (bB,bH) aZ !=0)=true:=by simp [he]
          have Hf:Hid (aU s (bB,bH) aZ=aN s k):=by
           have hl:jG s (yn,((yv,yi),yk),((bB,bH),aZ))=aU s (bB,bH) aZ:=by simp only [jG];rw [if_neg (by simp [He.out])]
           rw [Hid,Hw.out,pW nD.out Hy.out (by rw [hl];exact he),hl]
          clear he;generalize aU s (bB,bH) aZ=e2 at ZZ Hf
          go_wp2_with fail
          go_ret;exact ⟨by rw [Hf.out];rfl,hB3⟩
      · have xJ:(aU s (yv,yi) yk !=0)=true:=by simp [he]
        have Hf:Hid (aU s (yv,yi) yk=aN s k):=by
         have hl:jG s (yn,((yv,yi),yk),((bB,bH),aZ))=aU s (yv,yi) yk:=by simp only [jG];rw [if_pos he]
         rw [Hid,Hw.out,pW nD.out Hy.out (by rw [hl];exact he),hl]
        clear he;generalize aU s (yv,yi) yk=e1 at xJ Hf
        go_wp2_with fail
        go_ret;exact ⟨by rw [Hf.out];rfl,hB2⟩
    · have Hf:Hid (aN s k=0):=by
       rw [Hid,Hw.out,qO];intro l hl;obtain ⟨i,hi,e⟩:=List.mem_iff_getElem.1 hl;exact nD.out i (by omega) l (by rw [List.getElem?_eq_getElem hi,e])
      go_wp2_with fail
      go_ret;exact ⟨by rw [Hf.out];rfl,hBr⟩
end Go.Proofs.YtoklbpbmghbhnaeGreat
