import Derived.Test.YtoklbpbmghbhnaeGreatG17
import Derived.BigQuiet
import Derived.Laws.EntriesVeiled
import Derived.Deep.RegionHeld3
namespace Go.Proofs.YtoklbpbmghbhnaeGreat
set_option maxRecDepth 100000
set_option maxHeartbeats 4000000
open Go.RowKit Go.Deep Go.ChangeShapes Go.WideShapes
section
attribute [local go_sem ↓] Go.wp_at_zero Go.wp_at_succ
def nV:Cl->Bool
 |[l]=>!l.1
 |_=>false
theorem aED {c:Cl} (h:c.length≠1):nV c=false:=by
 match c with
 |[]=>rfl
 |[_]=>simp at h
 |_::_::_=>rfl
theorem aJ7 {t z:Tm} {bs:Sb} (hz:Gd z/\eO z<=12) (h:iW [] t z=some bs):∀p∈bs,Gd p.2/\eO p.2<=12:=by
 refine KG (P:=λt=>Gd t/\eO t<=12) (λt ht y hy=>?_) hz (λp hp=>by cases hp) h;obtain ⟨⟨v,n⟩,k⟩:=t;cases v with
 |true=>rw [ht.1.ok.1 rfl] at hy;simp [Fo.list] at hy
 |false=>obtain ⟨i,hi⟩:=List.mem_iff_getElem?.1 hy;have h3:=RO hi;have h4:=ht.2;refine ⟨mH ht.1 rfl hy,?_⟩;simp only [eO,aM] at h3 h4 ⊢;omega
theorem aER {t:Tm} {bs:Sb} (h:∀p∈bs,Gd p.2/\eO p.2<=12) (ht:Gd t) (hs:eO t<=12):Gd (aH (aV bs) t)/\aM (aH (aV bs) t).2<=4000000000000:=by
 refine ⟨mG (λp hp=>(h p hp).1) ht,?_⟩;have h1:=Q5 (f:=aV bs) (M:=12) (by omega) ht.ok (λm _=>by
  cases e:dA bs m with
  |none=>rw [eF e];simp [eO,vr,aM,Fo.sizesR]
  |some u=>rw [dO e];exact (h _ (eD e)).2)
 have h2:=Nat.mul_le_mul_right 12 hs;simp only [eO] at h1 h2;omega
end
def bT (w:World) (g:Nat) (xs:List Value):Prop:=∀j u,xs[j]?=some u->w.cell? ⟨g,j,none⟩=some u
theorem bT.below {w w':World} {g:Nat} {xs:List Value} (h:bT w g xs) (hb:Below w.heap.size w w'):bT w' g xs:=λj u hj=>aA hb _ _ (h j u hj)
theorem bT.kpt {w w':World} {g:Nat} {x:Bool} {y:Value} {r:List Value} (h:bT w g (.bool x::y::r)) (hk:wL w w'):bT w' g (.bool x::y::r):=λj u hj=>eQ hk (h 0 _ rfl) (h 1 _ rfl) j (h j u hj)
theorem bT.new (w:World) (xs:Array Value) (T:TypeId):bT (w.alloc (.cells xs T)) w.heap.size xs.toList:=λj u hj=>by rw [aF rfl];simpa using hj
theorem bT.lt {w:World} {g:Nat} {x:Value} {r:List Value} (h:bT w g (x::r)):g<w.heap.size:=World.block_lt_of_cell? _ _ (h 0 _ rfl)
theorem bT.set {w:World} {g:Nat} {xs:Array Value} (h:∀i,i<xs.size->∃u,w.cell? ⟨g,i,none⟩=some u):bT (mW w g 0 xs.toList) g xs.toList:=λj u hj=>by
 have:=tC (b:=g) (xs:=xs.toList) (o:=0) (w:=w) (λi hi=>by rw [Nat.zero_add];exact h i (by simpa using hi)) j u hj
 rwa [Nat.zero_add] at this
theorem BH {w:World} {n:Nat} {T:TypeId} {xs:Array Value} {g:Nat} (hg:w.heap.size=g) (hn:xs.size=n):∀i,i<n->∃u,(w.alloc (.cells xs T)).cell? ⟨g,i,none⟩=some u:=λi hi=>by rw [aF hg];exact ⟨xs[i]'(by omega),Array.getElem?_eq_getElem _⟩
abbrev ZR (l:Lt) (a d f:Value):Value:= .agg #[.bool l.2.1.1.1,.int .i64 l.2.1.1.2,a,.bool l.2.2.1.1,.int .i64 l.2.2.1.2,d,f]
abbrev IJ (g:Nat):Value:= .func (.func 145) #[] #[.pointer (some ⟨g,0,none⟩)]
abbrev II (g:Nat):Value:= .func (.func 146) #[] #[.pointer (some ⟨g,0,none⟩)]
theorem aD7 (l:Lt) (a1 d1 t1:Option Addr) (a2 a3 d2 d3 t2 t3:Nat) (tv:Bool) (tn:Int) (tk:Fo) (g:Nat) (w:World) (h:bT w g (jT l (.slice a1 a2 a3) (.slice d1 d2 d3))):
  Calls Tryz.prog 145 #[.agg #[.bool tv,.int .i64 tn,.slice t1 t2 t3],.pointer (some ⟨g,0,none⟩)] w λe w'=>e= .returned (uO (l.1,((tv,tn),tk),l.2.2) (.slice t1 t2 t3) (.slice d1 d2 d3))/\Below w.heap.size w w':=by
 obtain ⟨ln,⟨⟨lv,li⟩,lk⟩,⟨jY,jZ⟩,lk'⟩:=l;have hlt:=h.lt;go_enter Tryz.func145,Tryz.ntmps145
 go_upto_region 1 with fail
 generalize hW1:(w.alloc (.cells #[.bool tv,.int .i64 tn,.slice t1 t2 t3] 84)).alloc (.cells #[.bool false,.bool false,.int .i64 0,.slice none 0 0,.bool false,.int .i64 0,.slice none 0 0] 86)=W1;have hB1:Below w.heap.size w W1:=by rw [←hW1];exact (aD _ _).alloc (by simp) _
 have k0:W1.cell? ⟨w.heap.size,0,none⟩=some (.bool tv):=by rw [←hW1,World.cell?_alloc_lt _ _ _ (by simp)];exact aF rfl
 have k1:W1.cell? ⟨w.heap.size,1,none⟩=some (.int .i64 tn):=by rw [←hW1,World.cell?_alloc_lt _ _ _ (by simp)];exact aF rfl
 have k2:W1.cell? ⟨w.heap.size,2,none⟩=some (.slice t1 t2 t3):=by rw [←hW1,World.cell?_alloc_lt _ _ _ (by simp)];exact aF rfl
 have hR:=h.below hB1;have g0:W1.cell? ⟨g,0,none⟩=some (.bool ln):=hR 0 _ rfl;have g1:W1.cell? ⟨g,1,none⟩=some (.bool lv):=hR 1 _ rfl;have g2:W1.cell? ⟨g,2,none⟩=some (.int .i64 li):=hR 2 _ rfl;have g3:W1.cell? ⟨g,3,none⟩=some (.slice a1 a2 a3):=hR 3 _ rfl;have g4:W1.cell? ⟨g,4,none⟩=some (.bool jY):=hR 4 _ rfl;have g5:W1.cell? ⟨g,5,none⟩=some (.int .i64 jZ):=hR 5 _ rfl;have g6:W1.cell? ⟨g,6,none⟩=some (.slice d1 d2 d3):=hR 6 _ rfl;have rf:∀i,W1.frozen? ⟨w.heap.size+1,i,none⟩=false:=λi=>by rw [←hW1];exact bL (World.size_alloc _ _)
 have hz:∀i,i<7->∃u,W1.cell? ⟨w.heap.size+1,i,none⟩=some u:=by rw [←hW1];exact BH (World.size_alloc _ _) rfl
 obtain ⟨⟨_,r0⟩,⟨_,r1⟩,⟨_,r2⟩,⟨_,r3⟩,⟨_,r4⟩,⟨_,r5⟩,⟨_,r6⟩⟩:=And.intro (hz 0 (by omega)) (And.intro (hz 1 (by omega)) (And.intro (hz 2 (by omega)) (And.intro (hz 3 (by omega)) (And.intro (hz 4 (by omega)) (And.intro (hz 5 (by omega)) (hz 6 (by omega)))))));clear hW1 hR h
 go_wp2_with fail
 generalize hw3:(((((((W1.setCell ⟨w.heap.size+1,0,none⟩ (.bool ln)).setCell ⟨w.heap.size+1,1,none⟩ (.bool tv)).setCell ⟨w.heap.size+1,2,none⟩ (.int .i64 tn)).setCell ⟨w.heap.size+1,3,none⟩ (.slice t1 t2 t3)).setCell ⟨w.heap.size+1,4,none⟩ (.bool jY)).setCell ⟨w.heap.size+1,5,none⟩ (.int .i64 jZ)).setCell ⟨w.heap.size+1,6,none⟩ (.slice d1 d2 d3))=w3;have hb3:Below w.heap.size w w3:=by rw [←hw3];exact gW (b:=w.heap.size+1) (by omega) (xs:=[.bool ln,.bool tv,.int .i64 tn,.slice t1 t2 t3,.bool jY,.int .i64 jZ,.slice d1 d2 d3]) (o:=0) hB1
 have e3:w3=mW W1 (w.heap.size+1) 0 (#[.bool ln,.bool tv,.int .i64 tn,.slice t1 t2 t3,.bool jY,.int .i64 jZ,.slice d1 d2 d3]:Array Value).toList:=hw3.symm;have at6:bT w3 (w.heap.size+1) (#[.bool ln,.bool tv,.int .i64 tn,.slice t1 t2 t3,.bool jY,.int .i64 jZ,.slice d1 d2 d3]:Array Value).toList:=by rw [e3];exact bT.set (by simpa using hz)
 have q0:w3.cell? ⟨w.heap.size+1,0,none⟩=some (.bool ln):=at6 0 _ rfl;have q1:w3.cell? ⟨w.heap.size+1,1,none⟩=some (.bool tv):=at6 1 _ rfl;have q2:w3.cell? ⟨w.heap.size+1,2,none⟩=some (.int .i64 tn):=at6 2 _ rfl;have q3:w3.cell? ⟨w.heap.size+1,3,none⟩=some (.slice t1 t2 t3):=at6 3 _ rfl;have q4:w3.cell? ⟨w.heap.size+1,4,none⟩=some (.bool jY):=at6 4 _ rfl;have q5:w3.cell? ⟨w.heap.size+1,5,none⟩=some (.int .i64 jZ):=at6 5 _ rfl;have q6:w3.cell? ⟨w.heap.size+1,6,none⟩=some (.slice d1 d2 d3):=at6 6 _ rfl;clear at6 e3 hw3;exact bodyPost_ret (v:= .agg #[.bool ln,.bool tv,.int .i64 tn,.slice t1 t2 t3,.bool jY,.int .i64 jZ,.slice d1 d2 d3]) (by simp [results,Tryz.results145,go_sem,q0,q1,q2,q3,q4,q5,q6]) rfl ⟨rfl,hb3⟩
theorem aD6 (l:Lt) (a1 d1 t1:Option Addr) (a2 a3 d2 d3 t2 t3:Nat) (tv:Bool) (tn:Int) (tk:Fo) (g:Nat) (w:World) (h:bT w g (jT l (.slice a1 a2 a3) (.slice d1 d2 d3))):
  Calls Tryz.prog 146 #[.agg #[.bool tv,.int .i64 tn,.slice t1 t2 t3],.pointer (some ⟨g,0,none⟩)] w λe w'=>e= .returned (uO (l.1,l.2.1,((tv,tn),tk)) (.slice a1 a2 a3) (.slice t1 t2 t3))/\Below w.heap.size w w':=by
 obtain ⟨ln,⟨⟨lv,li⟩,lk⟩,⟨jY,jZ⟩,lk'⟩:=l;have hlt:=h.lt;go_enter Tryz.func146,Tryz.ntmps146
 go_upto_region 1 with fail
 generalize hW1:(w.alloc (.cells #[.bool tv,.int .i64 tn,.slice t1 t2 t3] 84)).alloc (.cells #[.bool false,.bool false,.int .i64 0,.slice none 0 0,.bool false,.int .i64 0,.slice none 0 0] 86)=W1;have hB1:Below w.heap.size w W1:=by rw [←hW1];exact (aD _ _).alloc (by simp) _
 have k0:W1.cell? ⟨w.heap.size,0,none⟩=some (.bool tv):=by rw [←hW1,World.cell?_alloc_lt _ _ _ (by simp)];exact aF rfl
 have k1:W1.cell? ⟨w.heap.size,1,none⟩=some (.int .i64 tn):=by rw [←hW1,World.cell?_alloc_lt _ _ _ (by simp)];exact aF rfl
 have k2:W1.cell? ⟨w.heap.size,2,none⟩=some (.slice t1 t2 t3):=by rw [←hW1,World.cell?_alloc_lt _ _ _ (by simp)];exact aF rfl
 have hR:=h.below hB1;have g0:W1.cell? ⟨g,0,none⟩=some (.bool ln):=hR 0 _ rfl;have g1:W1.cell? ⟨g,1,none⟩=some (.bool lv):=hR 1 _ rfl;have g2:W1.cell? ⟨g,2,none⟩=some (.int .i64 li):=hR 2 _ rfl;have g3:W1.cell? ⟨g,3,none⟩=some (.slice a1 a2 a3):=hR 3 _ rfl;have g4:W1.cell? ⟨g,4,none⟩=some (.bool jY):=hR 4 _ rfl;have g5:W1.cell? ⟨g,5,none⟩=some (.int .i64 jZ):=hR 5 _ rfl;have g6:W1.cell? ⟨g,6,none⟩=some (.slice d1 d2 d3):=hR 6 _ rfl;have rf:∀i,W1.frozen? ⟨w.heap.size+1,i,none⟩=false:=λi=>by rw [←hW1];exact bL (World.size_alloc _ _)
 have hz:∀i,i<7->∃u,W1.cell? ⟨w.heap.size+1,i,none⟩=some u:=by rw [←hW1];exact BH (World.size_alloc _ _) rfl
 obtain ⟨⟨_,r0⟩,⟨_,r1⟩,⟨_,r2⟩,⟨_,r3⟩,⟨_,r4⟩,⟨_,r5⟩,⟨_,r6⟩⟩:=And.intro (hz 0 (by omega)) (And.intro (hz 1 (by omega)) (And.intro (hz 2 (by omega)) (And.intro (hz 3 (by omega)) (And.intro (hz 4 (by omega)) (And.intro (hz 5 (by omega)) (hz 6 (by omega)))))));clear hW1 hR h
 go_wp2_with fail
 generalize hw3:(((((((W1.setCell ⟨w.heap.size+1,0,none⟩ (.bool ln)).setCell ⟨w.heap.size+1,1,none⟩ (.bool lv)).setCell ⟨w.heap.size+1,2,none⟩ (.int .i64 li)).setCell ⟨w.heap.size+1,3,none⟩ (.slice a1 a2 a3)).setCell ⟨w.heap.size+1,4,none⟩ (.bool tv)).setCell ⟨w.heap.size+1,5,none⟩ (.int .i64 tn)).setCell ⟨w.heap.size+1,6,none⟩ (.slice t1 t2 t3))=w3;have hb3:Below w.heap.size w w3:=by rw [←hw3];exact gW (b:=w.heap.size+1) (by omega) (xs:=[.bool ln,.bool lv,.int .i64 li,.slice a1 a2 a3,.bool tv,.int .i64 tn,.slice t1 t2 t3]) (o:=0) hB1
 have e3:w3=mW W1 (w.heap.size+1) 0 (#[.bool ln,.bool lv,.int .i64 li,.slice a1 a2 a3,.bool tv,.int .i64 tn,.slice t1 t2 t3]:Array Value).toList:=hw3.symm;have at6:bT w3 (w.heap.size+1) (#[.bool ln,.bool lv,.int .i64 li,.slice a1 a2 a3,.bool tv,.int .i64 tn,.slice t1 t2 t3]:Array Value).toList:=by rw [e3];exact bT.set (by simpa using hz)
 have q0:w3.cell? ⟨w.heap.size+1,0,none⟩=some (.bool ln):=at6 0 _ rfl;have q1:w3.cell? ⟨w.heap.size+1,1,none⟩=some (.bool lv):=at6 1 _ rfl;have q2:w3.cell? ⟨w.heap.size+1,2,none⟩=some (.int .i64 li):=at6 2 _ rfl;have q3:w3.cell? ⟨w.heap.size+1,3,none⟩=some (.slice a1 a2 a3):=at6 3 _ rfl;have q4:w3.cell? ⟨w.heap.size+1,4,none⟩=some (.bool tv):=at6 4 _ rfl;have q5:w3.cell? ⟨w.heap.size+1,5,none⟩=some (.int .i64 tn):=at6 5 _ rfl;have q6:w3.cell? ⟨w.heap.size+1,6,none⟩=some (.slice t1 t2 t3):=at6 6 _ rfl;clear at6 e3 hw3;exact bodyPost_ret (v:= .agg #[.bool ln,.bool lv,.int .i64 li,.slice a1 a2 a3,.bool tv,.int .i64 tn,.slice t1 t2 t3]) (by simp [results,Tryz.results146,go_sem,q0,q1,q2,q3,q4,q5,q6]) rfl ⟨rfl,hb3⟩
abbrev UT (l:Lt) (a d:Value) (g:Nat):Value:= .agg #[.bool l.2.1.1.1,.int .i64 l.2.1.1.2,a,.bool l.2.2.1.1,.int .i64 l.2.2.1.2,d,IJ g,.bool l.2.2.1.1,.int .i64 l.2.2.1.2,d,.bool l.2.1.1.1,.int .i64 l.2.1.1.2,a,II g]
theorem pE (l:Lt) (a1 d1:Option Addr) (a2 a3 d2 d3:Nat) (w:World):
  Calls Tryz.prog 113 #[uO l (.slice a1 a2 a3) (.slice d1 d2 d3)] w λe w'=>e= .returned (UT l (.slice a1 a2 a3) (.slice d1 d2 d3) w.heap.size)/\bT w' w.heap.size (jT l (.slice a1 a2 a3) (.slice d1 d2 d3))/\Below w.heap.size w w':=by
 obtain ⟨ln,⟨⟨lv,li⟩,lk⟩,⟨jY,jZ⟩,lk'⟩:=l;go_enter Tryz.func113,Tryz.ntmps113
 go_upto_region 1 with fail
 generalize hW1:(w.alloc (.cells #[.bool ln,.bool lv,.int .i64 li,.slice a1 a2 a3,.bool jY,.int .i64 jZ,.slice d1 d2 d3] 86)).alloc (.cells #[.bool false,.int .i64 0,.slice none 0 0,.bool false,.int .i64 0,.slice none 0 0,.nilFunc,.bool false,.int .i64 0,.slice none 0 0,.bool false,.int .i64 0,.slice none 0 0,.nilFunc] 141)=W1;have hB1:Below w.heap.size w W1:=by rw [←hW1];exact (aD _ _).alloc (by simp) _
 have hR:bT W1 w.heap.size (jT (ln,((lv,li),lk),((jY,jZ),lk')) (.slice a1 a2 a3) (.slice d1 d2 d3)):=by rw [←hW1];exact (bT.new w #[.bool ln,.bool lv,.int .i64 li,.slice a1 a2 a3,.bool jY,.int .i64 jZ,.slice d1 d2 d3] 86).below (aD _ _)
 have g0:W1.cell? ⟨w.heap.size,0,none⟩=some (.bool ln):=hR 0 _ rfl;have g1:W1.cell? ⟨w.heap.size,1,none⟩=some (.bool lv):=hR 1 _ rfl;have g2:W1.cell? ⟨w.heap.size,2,none⟩=some (.int .i64 li):=hR 2 _ rfl;have g3:W1.cell? ⟨w.heap.size,3,none⟩=some (.slice a1 a2 a3):=hR 3 _ rfl;have g4:W1.cell? ⟨w.heap.size,4,none⟩=some (.bool jY):=hR 4 _ rfl;have g5:W1.cell? ⟨w.heap.size,5,none⟩=some (.int .i64 jZ):=hR 5 _ rfl;have g6:W1.cell? ⟨w.heap.size,6,none⟩=some (.slice d1 d2 d3):=hR 6 _ rfl;have HR:=aB hR;clear hR;have rf:∀i,W1.frozen? ⟨w.heap.size+1,i,none⟩=false:=λi=>by rw [←hW1];exact bL (World.size_alloc _ _)
 have hz:∀i,i<14->∃u,W1.cell? ⟨w.heap.size+1,i,none⟩=some u:=by rw [←hW1];exact BH (World.size_alloc _ _) rfl
 obtain ⟨_,r0⟩:=hz 0 (by omega);obtain ⟨_,r1⟩:=hz 1 (by omega);obtain ⟨_,r2⟩:=hz 2 (by omega);obtain ⟨_,r3⟩:=hz 3 (by omega);obtain ⟨_,r4⟩:=hz 4 (by omega);obtain ⟨_,r5⟩:=hz 5 (by omega);obtain ⟨_,r6⟩:=hz 6 (by omega);obtain ⟨_,r7⟩:=hz 7 (by omega);obtain ⟨_,r8⟩:=hz 8 (by omega);obtain ⟨_,r9⟩:=hz 9 (by omega);obtain ⟨_,r10⟩:=hz 10 (by omega);obtain ⟨_,r11⟩:=hz 11 (by omega);obtain ⟨_,r12⟩:=hz 12 (by omega);obtain ⟨_,r13⟩:=hz 13 (by omega);clear hW1
 go_wp2_with fail
 generalize hw3:((((((((((((((W1.setCell ⟨w.heap.size+1,0,none⟩ (.bool lv)).setCell ⟨w.heap.size+1,1,none⟩ (.int .i64 li)).setCell ⟨w.heap.size+1,2,none⟩ (.slice a1 a2 a3)).setCell ⟨w.heap.size+1,3,none⟩ (.bool jY)).setCell ⟨w.heap.size+1,4,none⟩ (.int .i64 jZ)).setCell ⟨w.heap.size+1,5,none⟩ (.slice d1 d2 d3)).setCell ⟨w.heap.size+1,6,none⟩ (IJ w.heap.size)).setCell ⟨w.heap.size+1,7,none⟩ (.bool jY)).setCell ⟨w.heap.size+1,8,none⟩ (.int .i64 jZ)).setCell ⟨w.heap.size+1,9,none⟩ (.slice d1 d2 d3)).setCell ⟨w.heap.size+1,10,none⟩ (.bool lv)).setCell ⟨w.heap.size+1,11,none⟩ (.int .i64 li)).setCell ⟨w.heap.size+1,12,none⟩ (.slice a1 a2 a3)).setCell ⟨w.heap.size+1,13,none⟩ (II w.heap.size))=w3;have hb3:Below w.heap.size w w3:=by rw [←hw3];exact gW (b:=w.heap.size+1) (by omega) (xs:=[.bool lv,.int .i64 li,.slice a1 a2 a3,.bool jY,.int .i64 jZ,.slice d1 d2 d3,IJ w.heap.size,.bool jY,.int .i64 jZ,.slice d1 d2 d3,.bool lv,.int .i64 li,.slice a1 a2 a3,II w.heap.size]) (o:=0) hB1
 have e3:w3=mW W1 (w.heap.size+1) 0 (#[.bool lv,.int .i64 li,.slice a1 a2 a3,.bool jY,.int .i64 jZ,.slice d1 d2 d3,IJ w.heap.size,.bool jY,.int .i64 jZ,.slice d1 d2 d3,.bool lv,.int .i64 li,.slice a1 a2 a3,II w.heap.size]:Array Value).toList:=hw3.symm;have hr3:bT w3 w.heap.size (jT (ln,((lv,li),lk),((jY,jZ),lk')) (.slice a1 a2 a3) (.slice d1 d2 d3)):=λj u hj=>by rw [e3,dP (.inl (by omega))];exact HR.out j u hj
 have at6:bT w3 (w.heap.size+1) (#[.bool lv,.int .i64 li,.slice a1 a2 a3,.bool jY,.int .i64 jZ,.slice d1 d2 d3,IJ w.heap.size,.bool jY,.int .i64 jZ,.slice d1 d2 d3,.bool lv,.int .i64 li,.slice a1 a2 a3,II w.heap.size]:Array Value).toList:=by rw [e3];exact bT.set (by simpa using hz)
 have q0:w3.cell? ⟨w.heap.size+1,0,none⟩=some (.bool lv):=at6 0 _ rfl;have q1:w3.cell? ⟨w.heap.size+1,1,none⟩=some (.int .i64 li):=at6 1 _ rfl;have q2:w3.cell? ⟨w.heap.size+1,2,none⟩=some (.slice a1 a2 a3):=at6 2 _ rfl;have q3:w3.cell? ⟨w.heap.size+1,3,none⟩=some (.bool jY):=at6 3 _ rfl;have q4:w3.cell? ⟨w.heap.size+1,4,none⟩=some (.int .i64 jZ):=at6 4 _ rfl;have q5:w3.cell? ⟨w.heap.size+1,5,none⟩=some (.slice d1 d2 d3):=at6 5 _ rfl;have q6:w3.cell? ⟨w.heap.size+1,6,none⟩=some (IJ w.heap.size):=at6 6 _ rfl;have q7:w3.cell? ⟨w.heap.size+1,7,none⟩=some (.bool jY):=at6 7 _ rfl;have q8:w3.cell? ⟨w.heap.size+1,8,none⟩=some (.int .i64 jZ):=at6 8 _ rfl;have q9:w3.cell? ⟨w.heap.size+1,9,none⟩=some (.slice d1 d2 d3):=at6 9 _ rfl;have q10:w3.cell? ⟨w.heap.size+1,10,none⟩=some (.bool lv):=at6 10 _ rfl;have q11:w3.cell? ⟨w.heap.size+1,11,none⟩=some (.int .i64 li):=at6 11 _ rfl;have q12:w3.cell? ⟨w.heap.size+1,12,none⟩=some (.slice a1 a2 a3):=at6 12 _ rfl;have q13:w3.cell? ⟨w.heap.size+1,13,none⟩=some (II w.heap.size):=at6 13 _ rfl;clear at6 e3 hw3;exact bodyPost_ret (v:= .agg #[.bool lv,.int .i64 li,.slice a1 a2 a3,.bool jY,.int .i64 jZ,.slice d1 d2 d3,IJ w.heap.size,.bool jY,.int .i64 jZ,.slice d1 d2 d3,.bool lv,.int .i64 li,.slice a1 a2 a3,II w.heap.size]) (by simp [results,Tryz.results113,go_sem,q0,q1,q2,q3,q4,q5,q6,q7,q8,q9,q10,q11,q12,q13]) rfl ⟨rfl,hr3,hb3⟩
section
attribute [local go_sem ↓] Go.wp_at_zero Go.wp_at_succ
theorem aM4 {a b:Tm} (ha:gN a) (hb:gN b):(oK a b==3)=dU a b:=by
 cases h:dU a b with
 |true=>rw [aJZ ha hb h];rfl
 |false=>
  unfold oK;split
  · rfl
  · rw [h];simp only [Bool.false_eq_true,if_false];split<;>rfl
theorem BS {a b:Tm} {n:Nat} {s:Sb} (ha:MI a) (hb:MI b) (hr:iV n [] [(a,b)]=some (some s)) {t:Tm} (hg:Gd t) (hz:eO t<=24):Gd (aH (aV s) t)/\aM (aH (aV s) t).2<=4000000000000:=by have h:=(wQ ha hb hr (d:=[(false,t,t)]) (by simp) (λl hl=>by rw [List.mem_singleton.1 hl];exact ⟨⟨hg,hz⟩,⟨hg,hz⟩⟩)).2 (bK (aH (aV s)) (false,t,t)) (by simp);exact ⟨h.gl,h.sl⟩
theorem FZ {wn:World} {s:Sb} {vs:Value} {x z:Bool×Int} {k zk:Fo} {a:Value} (hV:dZ wn s vs) (hs:∀p∈s,Gd p.2) (hS:cO wn k a) (hg:Gd (x,k)) (hz:(z,zk)=aH (aV s) (x,k)) (w':World) (hb:Below wn.heap.size wn w'):
  Calls Tryz.prog 84 #[vs,.agg #[.bool x.1,.int .i64 x.2,a]] w' λe w''=>∃(x1:Option Addr) (x2 x3:Nat),e= .returned (.agg #[.bool z.1,.int .i64 z.2,.slice x1 x2 x3])/\cO w'' zk (.slice x1 x2 x3)/\Below w'.heap.size w' w'':=by
 refine (nJ s vs x k a w' (hV.below hb) (λp hp=>⟨(hs p hp).nar,(hs p hp).ok⟩) (hS.below hb) hg.nar).mono ?_;rintro e w'' ⟨a',rfl,hO,hb2⟩;rw [←hz] at hO ⊢;obtain ⟨z1,z2,z3,rfl⟩:=bC hO.toS;exact ⟨z1,z2,z3,rfl,hO.toS,hb2⟩
theorem PQ {x y:Bool×Int} {k l:Fo} {B:Bool} (hB:dU (x,k) (y,l)=B) (ga:Gd (x,k)) (gb:Gd (y,l)) (hbk:aM k<=4000000000000) (hbl:aM l<=4000000000000) {a c:Value} (w:World) (hS:cO w k a) (hU:cO w l c):
  Calls Tryz.prog 126 #[.agg #[.bool x.1,.int .i64 x.2,a],.agg #[.bool y.1,.int .i64 y.2,c]] w λe w''=>∃r:Int,e= .returned (.int .i64 r)/\(r==3)=B/\Below w.heap.size w w'':=by
 refine (FX x k y l a c w ga gb hS hU hbk hbl).mono ?_;rintro e w' ⟨rfl,hb⟩;exact ⟨_,rfl,by rw [aM4 ga.ok gb.ok,hB],hb⟩
theorem OQ (l:Lt) (a1 d1:Option Addr) (a3 d3:Nat) (f:Value) (s:Sb) (vs:Value) (w:World) (hA:cO w l.2.1.2 (.slice a1 (Fo.len l.2.1.2) a3)) (hD:cO w l.2.2.2 (.slice d1 (Fo.len l.2.2.2) d3)) (hV:dZ w s vs) (hs:∀p∈s,Gd p.2)
  (h1:Gd l.2.1/\Gd (aH (aV s) l.2.1)/\aM (aH (aV s) l.2.1).2<=4000000000000) (h2:Gd l.2.2/\Gd (aH (aV s) l.2.2)/\aM (aH (aV s) l.2.2).2<=4000000000000):
  Calls Tryz.prog 169 #[ZR l (.slice a1 (Fo.len l.2.1.2) a3) (.slice d1 (Fo.len l.2.2.2) d3) f,vs] w λe w'=>e= .returned (.bool (dU (aH (aV s) l.2.2) (aH (aV s) l.2.1)))/\Below w.heap.size w w':=by
 obtain ⟨ln,⟨⟨lv,li⟩,lk⟩,⟨jY,jZ⟩,lk'⟩:=l;obtain ⟨v1,v3,rfl⟩:=gG hV;obtain ⟨⟨⟨pv,pn⟩,pk⟩,hp⟩:∃z,z=aH (aV s) ((lv,li),lk):=⟨_,rfl⟩;obtain ⟨⟨⟨qv,qn⟩,qk⟩,hq⟩:∃z,z=aH (aV s) ((jY,jZ),lk'):=⟨_,rfl⟩;simp only at*;rw [←hp] at h1;rw [←hq] at h2;rw [←hp,←hq];obtain ⟨B,hB⟩:∃B,dU ((qv,qn),qk) ((pv,pn),pk)=B:=⟨_,rfl⟩;rw [hB];have HcC:=aB (λ(w':World) (p1:Option Addr) (p2 p3:Nat) (q1:Option Addr) (q2 q3:Nat) (k1:cO w' pk (.slice p1 p2 p3)) (k2:cO w' qk (.slice q1 q2 q3))=>PQ hB h2.2.1 h1.2.1 h2.2.2 h1.2.2 w' k2 k1);have HV:=aB hV;have Hs:=aB hs;have HA:=aB hA;have HD:=aB hD;have Hp:=aB hp;have Hq:=aB hq;have Hg1:=aB h1.1;have Hg2:=aB h2.1;clear hV hs hA hD h1 h2 hp hq hB;go_enter Tryz.func169,Tryz.ntmps169
 go_upto_region 1 with fail
 generalize hW1:w.alloc (.cells #[.bool lv,.int .i64 li,.slice a1 (Fo.len lk) a3,.bool jY,.int .i64 jZ,.slice d1 (Fo.len lk') d3,f] 140)=W1;have hB1:Below w.heap.size w W1:=by rw [←hW1];exact aD _ _
 have k0:W1.cell? ⟨w.heap.size,0,none⟩=some (.bool lv):=by rw [←hW1];exact aF rfl
 have k1:W1.cell? ⟨w.heap.size,1,none⟩=some (.int .i64 li):=by rw [←hW1];exact aF rfl
 have k2:W1.cell? ⟨w.heap.size,2,none⟩=some (.slice a1 (Fo.len lk) a3):=by rw [←hW1];exact aF rfl
 have k3:W1.cell? ⟨w.heap.size,3,none⟩=some (.bool jY):=by rw [←hW1];exact aF rfl
 have k4:W1.cell? ⟨w.heap.size,4,none⟩=some (.int .i64 jZ):=by rw [←hW1];exact aF rfl
 have k5:W1.cell? ⟨w.heap.size,5,none⟩=some (.slice d1 (Fo.len lk') d3):=by rw [←hW1];exact aF rfl
 have HcA:=aB (λw' hb=>FZ (wn:=W1) (HV.out.below hB1) Hs.out (HA.out.below hB1) Hg1.out Hp.out w' hb);have HcB:=aB (λw' hb=>FZ (wn:=W1) (HV.out.below hB1) Hs.out (HD.out.below hB1) Hg2.out Hq.out w' hb);simp only at HcA HcB HcC;have aG:Below W1.heap.size W1 W1.drew:=(Below.refl _ _).drew;clear hW1 HV Hs HA HD Hp Hq Hg1 Hg2
 go_region_held3 (λw'=>w'.cell? ⟨w.heap.size,0,none⟩=some (.bool lv)/\w'.cell? ⟨w.heap.size,1,none⟩=some (.int .i64 li)/\w'.cell? ⟨w.heap.size,2,none⟩=some (.slice a1 (Fo.len lk) a3)/\w'.cell? ⟨w.heap.size,3,none⟩=some (.bool jY)/\w'.cell? ⟨w.heap.size,4,none⟩=some (.int .i64 jZ)/\w'.cell? ⟨w.heap.size,5,none⟩=some (.slice d1 (Fo.len lk') d3))
  (first
    |(with_reducible exact ⟨aA aG _ _ k0,aA aG _ _ k1,aA aG _ _ k2,aA aG _ _ k3,aA aG _ _ k4,aA aG _ _ k5⟩)
    |go_keep)
  (first
    |(go_at_call 84;with_reducible refine (HcA.out _ aG).mono ?_;rintro e wA ⟨p1,p2,p3,rfl,hSp,hbA⟩;replace aG:=aC aG hbA;(try (have aTZ:=hSq.below hbA)))
    |(go_at_call 84;with_reducible refine (HcB.out _ aG).mono ?_;rintro e wB ⟨q1,q2,q3,rfl,hSq,hbB⟩;replace aG:=aC aG hbB;(try (have aT0:=hSp.below hbB)))
    |(go_at_call 126;with_reducible refine (HcC.out _ _ _ _ _ _ _ aT0 hSq).mono ?_;rintro e wC ⟨r,rfl,hr,hbC⟩;have HR:=aB hr;clear hr;replace aG:=aC aG hbC)
    |(go_at_call 126;with_reducible refine (HcC.out _ _ _ _ _ _ _ hSp aTZ).mono ?_;rintro e wC ⟨r,rfl,hr,hbC⟩;have HR:=aB hr;clear hr;replace aG:=aC aG hbC))
 all_goals
  go_wp2_with fail
  go_ret;exact ⟨by rw [←HR.out];rfl,aC hB1 aG⟩
def xW (U:Tm->Tm->Option Sb) (a b:Lt) (p:List Int):Option Sb:=match l6 p b.2.1.1 b.2.1.2 with
 |some z=>match U a.2.1 z with
  |some s=>if dU (aH (aV s) a.2.2) (aH (aV s) a.2.1)=true\/dU (aH (aV s) b.2.2) (aH (aV s) b.2.1)=true then none else some s
  |none=>none
 |none=>none
theorem OC (U:Tm->Tm->Option Sb) (c:Cl) (i:Nat) (a:Lt) (d:Cl) (j:Nat) (b:Lt) (side:Bool) (st:List Cl×Bool) (p:List Int):oQ U c i a d j b side st p=MO st (xW U a b p) (jM c i++d.set j (aL side (b.1,dM p b.2.1 a.2.2,b.2.2))):=by
 unfold oQ xW;cases l6 p b.2.1.1 b.2.1.2 with
 |none=>rfl
 |some z=>
  dsimp only
  cases U a.2.1 z with
  |none=>rfl
  |some s=>
   dsimp only
   split<;>rfl
theorem aGD {p:List Int} {pv:Value} {x:Bool×Int} {k:Fo} {z:Tm} {a:Value} {w:World} (h:l6 p x k=some z) (hg:Gd (x,k)) (hS:cO w k a) (hN:iK w p pv):
  Calls Tryz.prog 168 #[.agg #[.bool x.1,.int .i64 x.2,a],pv] w λe w'=>∃(a1:Option Addr) (a3:Nat),e= .returned (.tuple #[.agg #[.bool z.1.1,.int .i64 z.1.2,.slice a1 (Fo.len z.2) a3],.bool true])/\cO w' z.2 (.slice a1 (Fo.len z.2) a3)/\Below w.heap.size w w':=by
 refine (aQD x k a p pv w hS hN hg.nar.1 hg.nar.2).mono ?_;rintro e w' ⟨hb,⟨h1,_⟩|⟨y,l,a',h1,rfl,h2⟩⟩
 · rw [h] at h1;cases h1
 · rw [h] at h1;cases h1;have h4:=h2.toS;obtain ⟨q1,q3,_,_,e2,-,-,-,-⟩:=h4;subst e2;exact ⟨q1,q3,rfl,h2.toS,hb⟩
theorem WI {U:Tm->Tm->Option Sb} (hU:CQ U) (a b:Lt) (a1 d1 e1 f1:Option Addr) (a3 d3 e3 f3:Nat) (fa fb:Value) (p:List Int) (p1:Option Addr) (p2 p3:Nat) (z:Tm) (w:World)
  (hA:cO w a.2.1.2 (.slice a1 (Fo.len a.2.1.2) a3)) (hD:cO w a.2.2.2 (.slice d1 (Fo.len a.2.2.2) d3)) (hE:cO w b.2.1.2 (.slice e1 (Fo.len b.2.1.2) e3)) (hG:cO w b.2.2.2 (.slice f1 (Fo.len b.2.2.2) f3)) (hN:iK w p (.slice p1 p2 p3))
  (hz:l6 p b.2.1.1 b.2.1.2=some z) (ga:l9 a) (gb:l9 b):
  Calls Tryz.prog 148 #[ZR a (.slice a1 (Fo.len a.2.1.2) a3) (.slice d1 (Fo.len a.2.2.2) d3) fa,ZR b (.slice e1 (Fo.len b.2.1.2) e3) (.slice f1 (Fo.len b.2.2.2) f3) fb,.slice p1 p2 p3] w (H7 w (xW U a b p)):=by
 have HA:=aB hA;have HD:=aB hD;have HE:=aB hE;have HG:=aB hG;have HN:=aB hN;have Hz:=aB hz;have Ga:=aB ga;have Gb:=aB gb;have Gz:=aB (gb.1.at hz);have HU:=aB hU;obtain ⟨an,⟨⟨av,ai⟩,ak⟩,⟨kL,kN⟩,kM⟩:=a;obtain ⟨bn,⟨⟨bv,bi⟩,bk⟩,⟨bv',bi'⟩,bk'⟩:=b;obtain ⟨⟨zv,zi⟩,zk⟩:=z;simp only at*;clear hA hD hE hG hN hz ga gb hU;go_enter Tryz.func148,Tryz.ntmps148
 go_upto_region 1 with fail
 generalize hW1:(w.alloc (.cells #[.bool av,.int .i64 ai,.slice a1 (Fo.len ak) a3,.bool kL,.int .i64 kN,.slice d1 (Fo.len kM) d3,fa] 140)).alloc (.cells #[.bool bv,.int .i64 bi,.slice e1 (Fo.len bk) e3,.bool bv',.int .i64 bi',.slice f1 (Fo.len bk') f3,fb] 140)=W1;have hB1:Below w.heap.size w W1:=by rw [←hW1];exact (aD _ _).alloc (by simp) _
 have k0:W1.cell? ⟨w.heap.size,0,none⟩=some (.bool av):=by rw [←hW1,World.cell?_alloc_lt _ _ _ (by simp)];exact aF rfl
 have k1:W1.cell? ⟨w.heap.size,1,none⟩=some (.int .i64 ai):=by rw [←hW1,World.cell?_alloc_lt _ _ _ (by simp)];exact aF rfl
 have k2:W1.cell? ⟨w.heap.size,2,none⟩=some (.slice a1 (Fo.len ak) a3):=by rw [←hW1,World.cell?_alloc_lt _ _ _ (by simp)];exact aF rfl
 have k3:W1.cell? ⟨w.heap.size,3,none⟩=some (.bool kL):=by rw [←hW1,World.cell?_alloc_lt _ _ _ (by simp)];exact aF rfl
 have k4:W1.cell? ⟨w.heap.size,4,none⟩=some (.int .i64 kN):=by rw [←hW1,World.cell?_alloc_lt _ _ _ (by simp)];exact aF rfl
 have k5:W1.cell? ⟨w.heap.size,5,none⟩=some (.slice d1 (Fo.len kM) d3):=by rw [←hW1,World.cell?_alloc_lt _ _ _ (by simp)];exact aF rfl
 have k6:W1.cell? ⟨w.heap.size,6,none⟩=some (fa):=by rw [←hW1,World.cell?_alloc_lt _ _ _ (by simp)];exact aF rfl
 have m0:W1.cell? ⟨w.heap.size+1,0,none⟩=some (.bool bv):=by rw [←hW1];exact aF (World.size_alloc _ _)
 have m1:W1.cell? ⟨w.heap.size+1,1,none⟩=some (.int .i64 bi):=by rw [←hW1];exact aF (World.size_alloc _ _)
 have m2:W1.cell? ⟨w.heap.size+1,2,none⟩=some (.slice e1 (Fo.len bk) e3):=by rw [←hW1];exact aF (World.size_alloc _ _)
 have m3:W1.cell? ⟨w.heap.size+1,3,none⟩=some (.bool bv'):=by rw [←hW1];exact aF (World.size_alloc _ _)
 have m4:W1.cell? ⟨w.heap.size+1,4,none⟩=some (.int .i64 bi'):=by rw [←hW1];exact aF (World.size_alloc _ _)
 have m5:W1.cell? ⟨w.heap.size+1,5,none⟩=some (.slice f1 (Fo.len bk') f3):=by rw [←hW1];exact aF (World.size_alloc _ _)
 have m6:W1.cell? ⟨w.heap.size+1,6,none⟩=some (fb):=by rw [←hW1];exact aF (World.size_alloc _ _)
 clear hW1
 go_wp2_with fail
 refine (aGD (x:=(bv,bi)) (k:=bk) Hz.out Gb.out.1.gd (HE.out.below hB1) (HN.out.below hB1)).mono ?_;rintro e w2 ⟨z1,z3,rfl,hZ,hb2⟩;have hB2:=aC hB1 hb2;replace k0:=aA hb2 _ _ k0;replace k1:=aA hb2 _ _ k1;replace k2:=aA hb2 _ _ k2;replace k3:=aA hb2 _ _ k3;replace k4:=aA hb2 _ _ k4;replace k5:=aA hb2 _ _ k5;replace k6:=aA hb2 _ _ k6;replace m0:=aA hb2 _ _ m0;replace m1:=aA hb2 _ _ m1;replace m2:=aA hb2 _ _ m2;replace m3:=aA hb2 _ _ m3;replace m4:=aA hb2 _ _ m4;replace m5:=aA hb2 _ _ m5;replace m6:=aA hb2 _ _ m6;have HZ:=aB hZ;clear hZ hb2;simp only
 go_upto_region 2 with fail
 generalize hW3:w2.alloc (.cells #[.bool zv,.int .i64 zi,.slice z1 (Fo.len zk) z3] 84)=W3;have hb3:Below w2.heap.size w2 W3:=by rw [←hW3];exact aD _ _
 have n0:W3.cell? ⟨w2.heap.size,0,none⟩=some (.bool zv):=by rw [←hW3];exact aF rfl
 have n1:W3.cell? ⟨w2.heap.size,1,none⟩=some (.int .i64 zi):=by rw [←hW3];exact aF rfl
 have n2:W3.cell? ⟨w2.heap.size,2,none⟩=some (.slice z1 (Fo.len zk) z3):=by rw [←hW3];exact aF rfl
 replace k0:=aA hb3 _ _ k0;replace k1:=aA hb3 _ _ k1;replace k2:=aA hb3 _ _ k2;replace k3:=aA hb3 _ _ k3;replace k4:=aA hb3 _ _ k4;replace k5:=aA hb3 _ _ k5;replace k6:=aA hb3 _ _ k6;replace m0:=aA hb3 _ _ m0;replace m1:=aA hb3 _ _ m1;replace m2:=aA hb3 _ _ m2;replace m3:=aA hb3 _ _ m3;replace m4:=aA hb3 _ _ m4;replace m5:=aA hb3 _ _ m5;replace m6:=aA hb3 _ _ m6;have hB3:=aC hB2 hb3;have Hui:=aB (Ga.out.1.ui Gz.out);obtain ⟨n,hn⟩:=HU.out _ _ Hui.out;have Hn:=aB hn;obtain ⟨R,hR⟩:∃R,U ((av,ai),ak) ((zv,zi),zk)=R:=⟨_,rfl⟩;rw [hR] at Hn;have Hm0:Hid (R=none->xW U (an,((av,ai),ak),((kL,kN),kM)) (bn,((bv,bi),bk),((bv',bi'),bk')) p=none):=λe=>by
  unfold xW;rw [Hz.out]
  dsimp only
  rw [hR,e]
 have Hm1:Hid (∀s,R=some s->xW U (an,((av,ai),ak),((kL,kN),kM)) (bn,((bv,bi),bk),((bv',bi'),bk')) p=if dU (aH (aV s) ((kL,kN),kM)) (aH (aV s) ((av,ai),ak))=true\/dU (aH (aV s) ((bv',bi'),bk')) (aH (aV s) ((bv,bi),bk))=true then none else some s):=λs e=>by
  unfold xW;rw [Hz.out]
  dsimp only
  rw [hR,e]
 have NF:=aB (DW (av,ai) ak (.slice a1 (Fo.len ak) a3) (zv,zi) zk (.slice z1 (Fo.len zk) z3) W3 n R Hn.out Hui.out (HA.out.below hB3) (HZ.out.below hb3));simp only at NF;clear hW3 hn hR hb3;generalize xW U (an,((av,ai),ak),((kL,kN),kM)) (bn,((bv,bi),bk),((bv',bi'),bk')) p=MT at*
 go_wp2_with fail
 refine NF.out.mono ?_;rintro e w4 ⟨hb4,u1,mm,u3,ok,rfl,hno,fG⟩;have hB4:=aC hB3 hb4;replace k0:=aA hb4 _ _ k0;replace k1:=aA hb4 _ _ k1;replace k2:=aA hb4 _ _ k2;replace k3:=aA hb4 _ _ k3;replace k4:=aA hb4 _ _ k4;replace k5:=aA hb4 _ _ k5;replace k6:=aA hb4 _ _ k6;replace m0:=aA hb4 _ _ m0;replace m1:=aA hb4 _ _ m1;replace m2:=aA hb4 _ _ m2;replace m3:=aA hb4 _ _ m3;replace m4:=aA hb4 _ _ m4;replace m5:=aA hb4 _ _ m5;replace m6:=aA hb4 _ _ m6;clear NF hb4 n0 n1 n2;cases ok
 · have Hno:=aB (hno rfl);clear hno fG;obtain ⟨e1,rfl,rfl,rfl⟩:=Hno.out;have He:=aB e1;clear e1 Hno
   go_wp2_with fail
   go_ret2;exact ⟨hB4,none,0,0,false,rfl,λ_=>⟨Hm0.out He.out,rfl,rfl,rfl⟩,λh=>by cases h⟩
 · obtain ⟨s',rfl,rfl,hSub⟩:=fG rfl;have HV:=aB hSub;have Hgs:=aB (vL Hui.out Hn.out).1;have Hb1:=aB (BS Ga.out.1 Gz.out Hn.out Ga.out.1.gd (by have:=Ga.out.1.sz;omega));have Hb2:=aB (BS Ga.out.1 Gz.out Hn.out Ga.out.2.gd (by have:=Ga.out.2.sz;omega));have Hb3:=aB (BS Ga.out.1 Gz.out Hn.out Gb.out.1.gd (by have:=Gb.out.1.sz;omega));have Hb4:=aB (BS Ga.out.1 Gz.out Hn.out Gb.out.2.gd (by have:=Gb.out.2.sz;omega));have QI:=aB (OQ (an,((av,ai),ak),((kL,kN),kM)) a1 d1 a3 d3 fa s' _ w4 (HA.out.below hB4) (HD.out.below hB4) HV.out Hgs.out ⟨Ga.out.1.gd,Hb1.out⟩ ⟨Ga.out.2.gd,Hb2.out⟩);have Y9:=aB (λ(w':World) (hb:Below w4.heap.size w4 w')=>OQ (bn,((bv,bi),bk),((bv',bi'),bk')) e1 f1 e3 f3 fb s' _ w' (HE.out.below (aC hB4 hb)) (HG.out.below (aC hB4 hb)) (HV.out.below hb) Hgs.out ⟨Gb.out.1.gd,Hb3.out⟩ ⟨Gb.out.2.gd,Hb4.out⟩);have Hm:=aB (Hm1.out s' rfl);simp only at QI Y9;clear hno fG hSub Hm0 Hm1 Hb1 Hb2 Hb3 Hb4 Hn Hui;generalize dU (aH (aV s') ((kL,kN),kM)) (aH (aV s') ((av,ai),ak))=B1 at QI Hm;generalize dU (aH (aV s') ((bv',bi'),bk')) (aH (aV s') ((bv,bi),bk))=B2 at Y9 Hm
   go_wp2_with fail
   refine QI.out.mono ?_;rintro e w5 ⟨rfl,hb5⟩;have NA:=aC hB4 hb5;replace k0:=aA hb5 _ _ k0;replace k1:=aA hb5 _ _ k1;replace k2:=aA hb5 _ _ k2;replace k3:=aA hb5 _ _ k3;replace k4:=aA hb5 _ _ k4;replace k5:=aA hb5 _ _ k5;replace k6:=aA hb5 _ _ k6;replace m0:=aA hb5 _ _ m0;replace m1:=aA hb5 _ _ m1;replace m2:=aA hb5 _ _ m2;replace m3:=aA hb5 _ _ m3;replace m4:=aA hb5 _ _ m4;replace m5:=aA hb5 _ _ m5;replace m6:=aA hb5 _ _ m6;cases B1
   · clear QI
     go_wp2_with fail
     refine (Y9.out _ hb5).mono ?_;rintro e w6 ⟨rfl,hb6⟩;have hB6:=aC NA hb6;have hV6:=aB (HV.out.below (aC hb5 hb6));clear Y9 hb5 hb6 k0 k1 k2 k3 k4 k5 k6 m0 m1 m2 m3 m4 m5 m6;cases B2
     · go_wp2_with fail
       go_ret2;exact ⟨hB6,u1,s'.length,u3,true,rfl,λh=>(by cases h),λ_=>⟨s',by rw [Hm.out];simp,rfl,hV6.out⟩⟩
     · go_wp2_with fail
       go_ret2;exact ⟨hB6,none,0,0,false,rfl,λ_=>⟨by rw [Hm.out];simp,rfl,rfl,rfl⟩,λh=>by cases h⟩
   · clear QI Y9 hb5
     go_wp2_with fail
     go_ret2;exact ⟨NA,none,0,0,false,rfl,λ_=>⟨by rw [Hm.out];simp,rfl,rfl,rfl⟩,λh=>by cases h⟩
end
section
attribute [local go_sem ↓] Go.wp_at_zero Go.wp_at_succ
theorem N8 (c:Cl) (v:Value) (w:World) (h:dQ w c v):
  Calls Tryz.prog 58 #[v] w λe w'=>e= .returned (.bool (nV c))/\w'=w:=by
 obtain ⟨a1,c1,b1,o1,rfl,had,hlc,hcm,hF⟩:=h;unfold maxLen at hcm;by_cases h1:c.length=1
 · obtain ⟨l,rfl⟩:=List.length_eq_one_iff.1 h1;have ha1:a1=some ⟨b1,o1,none⟩:=had (by simp);subst ha1;obtain ⟨p0,-,-,-,-,-,-,-,-⟩:=hF.at (i:=0) (l:=l) rfl;simp only [Nat.zero_mul,Nat.add_zero] at p0;obtain ⟨ln,lx,ly⟩:=l;simp only [List.length_singleton] at*;clear hF had h1;go_enter Tryz.func58,Tryz.ntmps58
   go_wp2_with fail
   go_ret;exact ⟨rfl,rfl⟩
 · have hb:((c.length:Int)==1)=false:=by simp;omega
   have Hu:=aB (aED h1);clear had hF h1;go_enter Tryz.func58,Tryz.ntmps58
   go_wp2_with fail
   go_ret;exact ⟨by rw [Hu.out];rfl,rfl⟩
abbrev aHF (l:Lt) (a d:Value):Value:= .agg #[.bool l.1,.bool l.2.1.1.1,.int .i64 l.2.1.1.2,a,.bool l.2.2.1.1,.int .i64 l.2.2.1.2,d,.bool l.1,.bool l.2.2.1.1,.int .i64 l.2.2.1.2,d,.bool l.2.1.1.1,.int .i64 l.2.1.1.2,a]
theorem CL (l:Lt) (a1 d1:Option Addr) (a2 a3 d2 d3:Nat) (w:World):
  Calls Tryz.prog 104 #[uO l (.slice a1 a2 a3) (.slice d1 d2 d3)] w λe w'=>e= .returned (aHF l (.slice a1 a2 a3) (.slice d1 d2 d3))/\Below w.heap.size w w':=by
 obtain ⟨ln,⟨⟨lv,li⟩,lk⟩,⟨jY,jZ⟩,lk'⟩:=l;go_enter Tryz.func104,Tryz.ntmps104
 go_upto_region 1 with fail
 generalize hW1:(w.alloc (.cells #[.bool ln,.bool lv,.int .i64 li,.slice a1 a2 a3,.bool jY,.int .i64 jZ,.slice d1 d2 d3] 86)).alloc (.cells #[.bool false,.bool false,.int .i64 0,.slice none 0 0,.bool false,.int .i64 0,.slice none 0 0,.bool false,.bool false,.int .i64 0,.slice none 0 0,.bool false,.int .i64 0,.slice none 0 0] 132)=W1;have hB1:Below w.heap.size w W1:=by rw [←hW1];exact (aD _ _).alloc (by simp) _
 have hR:bT W1 w.heap.size (jT (ln,((lv,li),lk),((jY,jZ),lk')) (.slice a1 a2 a3) (.slice d1 d2 d3)):=by rw [←hW1];exact (bT.new w #[.bool ln,.bool lv,.int .i64 li,.slice a1 a2 a3,.bool jY,.int .i64 jZ,.slice d1 d2 d3] 86).below (aD _ _)
 have g0:W1.cell? ⟨w.heap.size,0,none⟩=some (.bool ln):=hR 0 _ rfl;have g1:W1.cell? ⟨w.heap.size,1,none⟩=some (.bool lv):=hR 1 _ rfl;have g2:W1.cell? ⟨w.heap.size,2,none⟩=some (.int .i64 li):=hR 2 _ rfl;have g3:W1.cell? ⟨w.heap.size,3,none⟩=some (.slice a1 a2 a3):=hR 3 _ rfl;have g4:W1.cell? ⟨w.heap.size,4,none⟩=some (.bool jY):=hR 4 _ rfl;have g5:W1.cell? ⟨w.heap.size,5,none⟩=some (.int .i64 jZ):=hR 5 _ rfl;have g6:W1.cell? ⟨w.heap.size,6,none⟩=some (.slice d1 d2 d3):=hR 6 _ rfl;clear hR;have rf:∀i,W1.frozen? ⟨w.heap.size+1,i,none⟩=false:=λi=>by rw [←hW1];exact bL (World.size_alloc _ _)
 have hz:∀i,i<14->∃u,W1.cell? ⟨w.heap.size+1,i,none⟩=some u:=by rw [←hW1];exact BH (World.size_alloc _ _) rfl
 obtain ⟨_,r0⟩:=hz 0 (by omega);obtain ⟨_,r1⟩:=hz 1 (by omega);obtain ⟨_,r2⟩:=hz 2 (by omega);obtain ⟨_,r3⟩:=hz 3 (by omega);obtain ⟨_,r4⟩:=hz 4 (by omega);obtain ⟨_,r5⟩:=hz 5 (by omega);obtain ⟨_,r6⟩:=hz 6 (by omega);obtain ⟨_,r7⟩:=hz 7 (by omega);obtain ⟨_,r8⟩:=hz 8 (by omega);obtain ⟨_,r9⟩:=hz 9 (by omega);obtain ⟨_,r10⟩:=hz 10 (by omega);obtain ⟨_,r11⟩:=hz 11 (by omega);obtain ⟨_,r12⟩:=hz 12 (by omega);obtain ⟨_,r13⟩:=hz 13 (by omega);clear hW1
 go_wp2_with fail
 generalize hw3:((((((((((((((W1.setCell ⟨w.heap.size+1,0,none⟩ (.bool ln)).setCell ⟨w.heap.size+1,1,none⟩ (.bool lv)).setCell ⟨w.heap.size+1,2,none⟩ (.int .i64 li)).setCell ⟨w.heap.size+1,3,none⟩ (.slice a1 a2 a3)).setCell ⟨w.heap.size+1,4,none⟩ (.bool jY)).setCell ⟨w.heap.size+1,5,none⟩ (.int .i64 jZ)).setCell ⟨w.heap.size+1,6,none⟩ (.slice d1 d2 d3)).setCell ⟨w.heap.size+1,7,none⟩ (.bool ln)).setCell ⟨w.heap.size+1,8,none⟩ (.bool jY)).setCell ⟨w.heap.size+1,9,none⟩ (.int .i64 jZ)).setCell ⟨w.heap.size+1,10,none⟩ (.slice d1 d2 d3)).setCell ⟨w.heap.size+1,11,none⟩ (.bool lv)).setCell ⟨w.heap.size+1,12,none⟩ (.int .i64 li)).setCell ⟨w.heap.size+1,13,none⟩ (.slice a1 a2 a3))=w3;have hb3:Below w.heap.size w w3:=by rw [←hw3];exact gW (b:=w.heap.size+1) (by omega) (xs:=[.bool ln,.bool lv,.int .i64 li,.slice a1 a2 a3,.bool jY,.int .i64 jZ,.slice d1 d2 d3,.bool ln,.bool jY,.int .i64 jZ,.slice d1 d2 d3,.bool lv,.int .i64 li,.slice a1 a2 a3]) (o:=0) hB1
 have e3:w3=mW W1 (w.heap.size+1) 0 (#[.bool ln,.bool lv,.int .i64 li,.slice a1 a2 a3,.bool jY,.int .i64 jZ,.slice d1 d2 d3,.bool ln,.bool jY,.int .i64 jZ,.slice d1 d2 d3,.bool lv,.int .i64 li,.slice a1 a2 a3]:Array Value).toList:=hw3.symm;have at6:bT w3 (w.heap.size+1) (#[.bool ln,.bool lv,.int .i64 li,.slice a1 a2 a3,.bool jY,.int .i64 jZ,.slice d1 d2 d3,.bool ln,.bool jY,.int .i64 jZ,.slice d1 d2 d3,.bool lv,.int .i64 li,.slice a1 a2 a3]:Array Value).toList:=by rw [e3];exact bT.set (by simpa using hz)
 have q0:w3.cell? ⟨w.heap.size+1,0,none⟩=some (.bool ln):=at6 0 _ rfl;have q1:w3.cell? ⟨w.heap.size+1,1,none⟩=some (.bool lv):=at6 1 _ rfl;have q2:w3.cell? ⟨w.heap.size+1,2,none⟩=some (.int .i64 li):=at6 2 _ rfl;have q3:w3.cell? ⟨w.heap.size+1,3,none⟩=some (.slice a1 a2 a3):=at6 3 _ rfl;have q4:w3.cell? ⟨w.heap.size+1,4,none⟩=some (.bool jY):=at6 4 _ rfl;have q5:w3.cell? ⟨w.heap.size+1,5,none⟩=some (.int .i64 jZ):=at6 5 _ rfl;have q6:w3.cell? ⟨w.heap.size+1,6,none⟩=some (.slice d1 d2 d3):=at6 6 _ rfl;have q7:w3.cell? ⟨w.heap.size+1,7,none⟩=some (.bool ln):=at6 7 _ rfl;have q8:w3.cell? ⟨w.heap.size+1,8,none⟩=some (.bool jY):=at6 8 _ rfl;have q9:w3.cell? ⟨w.heap.size+1,9,none⟩=some (.int .i64 jZ):=at6 9 _ rfl;have q10:w3.cell? ⟨w.heap.size+1,10,none⟩=some (.slice d1 d2 d3):=at6 10 _ rfl;have q11:w3.cell? ⟨w.heap.size+1,11,none⟩=some (.bool lv):=at6 11 _ rfl;have q12:w3.cell? ⟨w.heap.size+1,12,none⟩=some (.int .i64 li):=at6 12 _ rfl;have q13:w3.cell? ⟨w.heap.size+1,13,none⟩=some (.slice a1 a2 a3):=at6 13 _ rfl;clear at6 e3 hw3;exact bodyPost_ret (v:= .agg #[.bool ln,.bool lv,.int .i64 li,.slice a1 a2 a3,.bool jY,.int .i64 jZ,.slice d1 d2 d3,.bool ln,.bool jY,.int .i64 jZ,.slice d1 d2 d3,.bool lv,.int .i64 li,.slice a1 a2 a3]) (by simp [results,Tryz.results104,go_sem,q0,q1,q2,q3,q4,q5,q6,q7,q8,q9,q10,q11,q12,q13]) rfl ⟨rfl,hb3⟩
theorem aCV (l:Lt) (a d:Value) (k:Nat) (hk:k<2) (w:World):(Instr.index 132 (aHF l a d) (.int .i64 (k:Int))).run Tryz.prog w= .ok (uO (aL (decide (k=1)) l) (if k=1 then d else a) (if k=1 then a else d)) w:=by
 obtain rfl|rfl:k=0\/k=1:=by omega
 · simp [go_sem,Instr.index,aL]
 · simp [go_sem,Instr.index,aL]
theorem aHV {l:Lt} {k:Nat} (hk:k<2) {w:World} {a d:Value} (hA:cO w l.2.1.2 a) (hD:cO w l.2.2.2 d):∃(a1:Option Addr) (a3:Nat) (d1:Option Addr) (d3:Nat),cO w (aL (decide (k=1)) l).2.1.2 (.slice a1 (Fo.len (aL (decide (k=1)) l).2.1.2) a3)/\cO w (aL (decide (k=1)) l).2.2.2 (.slice d1 (Fo.len (aL (decide (k=1)) l).2.2.2) d3)/\
  ∀(w':World),(Instr.index 132 (aHF l a d) (.int .i64 (k:Int))).run Tryz.prog w'= .ok (uO (aL (decide (k=1)) l) (.slice a1 (Fo.len (aL (decide (k=1)) l).2.1.2) a3) (.slice d1 (Fo.len (aL (decide (k=1)) l).2.2.2) d3)) w':=by
 have H1:=hA;have H2:=hD;obtain ⟨a1,a3,_,_,rfl,-,-,-,-⟩:=hA;obtain ⟨d1,d3,_,_,rfl,-,-,-,-⟩:=hD;obtain rfl|rfl:k=0\/k=1:=by omega
 · exact ⟨a1,a3,d1,d3,H1,H2,λw'=>aCV l _ _ 0 (by omega) w'⟩
 · exact ⟨d1,d3,a1,a3,H2,H1,λw'=>aCV l _ _ 1 (by omega) w'⟩
theorem aL9 {w:Lt}:uN w=decide ((bG w.2.1.1 w.2.1.2 []).length<(bG w.2.2.1 w.2.2.2 (bG w.2.1.1 w.2.1.2 [])).length):=rfl
theorem YJ (l:Lt) (a1 d1:Option Addr) (a3 d3:Nat) (w:World) (hA:cO w l.2.1.2 (.slice a1 (Fo.len l.2.1.2) a3)) (hD:cO w l.2.2.2 (.slice d1 (Fo.len l.2.2.2) d3)) (h1:aM l.2.1.2<=12) (h2:aM l.2.2.2<=12):
  Calls Tryz.prog 131 #[.agg #[.bool l.2.1.1.1,.int .i64 l.2.1.1.2,.slice a1 (Fo.len l.2.1.2) a3],.agg #[.bool l.2.2.1.1,.int .i64 l.2.2.1.2,.slice d1 (Fo.len l.2.2.2) d3]] w λe w'=>e= .returned (.bool (!uN l))/\Below w.heap.size w w':=by
 obtain ⟨ln,⟨⟨lv,li⟩,lk⟩,⟨jY,jZ⟩,lk'⟩:=l;simp only at*;have HA:=aB hA;have HD:=aB hD;obtain ⟨V,hV⟩:∃V,V=bG (lv,li) lk []:=⟨_,rfl⟩;obtain ⟨U,hU⟩:∃U,U=bG (jY,jZ) lk' V:=⟨_,rfl⟩;have hVl:=rW (lv,li) lk [];have hUl:=rW (jY,jZ) lk' V;have hle:=U2 (jY,jZ) lk' V;rw [←hV] at hVl;rw [←hU] at hUl hle;simp only [List.length_nil] at hVl;have Hn:Hid (uN (ln,((lv,li),lk),((jY,jZ),lk'))=decide (V.length<U.length)):=by rw [Hid,aL9];simp only;rw [←hV,←hU]
 have HcV:=aB (λ(w':World) (hS:cO w' lk (.slice a1 (Fo.len lk) a3))=>U1 (lv,li) lk _ [] (.slice none 0 0) w' V hV hS (R7 w') (by simp only [List.length_nil];omega));have HcU:=aB (λ(w':World) (v:Value) (hN:iK w' V v) (hS:cO w' lk' (.slice d1 (Fo.len lk') d3))=>U1 (jY,jZ) lk' _ V v w' U hU hS hN (by omega));clear hA hD hV hU;go_enter Tryz.func131,Tryz.ntmps131
 go_wp2_with fail
 refine (HcV.out _ (HA.out.below (aC (aD _ _) (aD _ _)))).mono ?_;rintro e w1 ⟨v1,rfl,ho1,hb1⟩;have HN:=aB (mJ ho1);have hB1:=aW (aW hb1);have k0:w1.cell? ⟨w.heap.size+1,0,none⟩=some (.bool jY):=aA hb1 _ _ (aF (World.size_alloc _ _));have k1:w1.cell? ⟨w.heap.size+1,1,none⟩=some (.int .i64 jZ):=aA hb1 _ _ (aF (World.size_alloc _ _));have k2:w1.cell? ⟨w.heap.size+1,2,none⟩=some (.slice d1 (Fo.len lk') d3):=aA hb1 _ _ (aF (World.size_alloc _ _));obtain ⟨y1,y3,rfl⟩:=dR HN.out;have aU1:=aB (HcU.out w1 _ HN.out (HD.out.below hB1));have Hd:Hid (((U.length:Int)==(V.length:Int))=!decide (V.length<U.length)):=by rw [Hid,Bool.eq_iff_iff];simp;omega
 clear ho1 hb1 HcV HcU
 go_wp2_with fail
 refine aU1.out.mono ?_;rintro e w2 ⟨v2,rfl,ho2,hb2⟩;obtain ⟨x1,x3,rfl⟩:=dR (mJ ho2);have hB2:=aC hB1 hb2;clear ho2 hb2 k0 k1 k2
 go_wp2_with fail
 go_ret;exact ⟨by rw [Hn.out,←Hd.out];rfl,hB2⟩
end
def vF (us:List Lt):Fo->Option Fo
 | .nil=>none
 | .node p q x k r=>match iB us (x,k) with
  |some t=>some (.node p q t.1 t.2 r)
  |none=>(vF us r).map λr'=> .node p q x k r'
theorem rX {us:List Lt} {t:Tm} {p:List Int} {Z:List (List Int)}:xN us t (p::Z)=match l6 p t.1 t.2 with
 |none=>xN us t Z
 |some z=>match nW z us with
  |some r=>some (dM p t r)
  |none=>xN us t Z:=rfl
theorem U9 {us:List Lt} {n:Int} {k:Fo} {i:Nat} {y:Tm} (hy:k.list[i]?=some y):∀{Z:List (List Int)},xN us ((false,n),k) (Z.map (((i:Nat):Int):: ·))=(xN us y Z).map λt=>((false,n),fF k i λ_=>t)
 |[]=>rfl
 |p::Z=>by
  have hl:(i:Int)<(Fo.len k:Int):=by have:=(List.getElem?_eq_some_iff.1 hy).1;rw [Fo.len_list] at this;omega
  have ih:=U9 hy (us:=us) (n:=n) (Z:=Z);rw [List.map_cons,rX,rX,pV (y:=y) rfl (by omega) (by simpa using hy) hl];cases hz:l6 p y.1 y.2 with
  |none=>simpa using ih
  |some z=>
   cases hr:nW z us with
   |none=>simpa [hr] using ih
   |some r=>
    simp only [hr,Option.map_some];rw [sF rfl (by omega) hl];congr 2;have:∀(F:Fo) (i:Nat),F.list[i]?=some y->fF F i (λs=>dM p s r)=fF F i (λ_=>dM p y r):=by
     intro F;induction F with
     |nil=>intro i h;simp [Fo.list] at h
     |node a b x k r' _ ihr=>
      intro i h;cases i with
      |zero=>simp only [Fo.list,List.getElem?_cons_zero,Option.some.injEq] at h;subst h;rfl
      |succ i=>simp only [fF];rw [ihr i (by simpa [Fo.list] using h)]
    simpa using this k i hy
theorem FJ {us:List Lt} {t:Tm}:∀{Z Y:List (List Int)},xN us t (Z++Y)=match xN us t Z with
  |some r=>some r
  |none=>xN us t Y
 |[],_=>rfl
 |p::Z,Y=>by
  rw [List.cons_append,rX,rX];have ih:=FJ (us:=us) (t:=t) (Z:=Z) (Y:=Y);cases l6 p t.1 t.2 with
  |none=>exact ih
  |some z=>
   cases h:nW z us with
   |none=>simpa only [h] using ih
   |some r=>simp only [h]
def sQ:Fo->Fo->Fo
 | .nil,G=>G
 | .node p q x k r,G=> .node p q x k (sQ r G)
theorem PW:∀{F G:Fo},(sQ F G).list=F.list++G.list
 | .nil,_=>rfl
 | .node _ _ _ _ r,G=>by simp [sQ,Fo.list,PW (F:=r)]
theorem XJ:∀{F G:Fo},Fo.len (sQ F G)=Fo.len F+Fo.len G
 | .nil,_=>by simp [sQ,Fo.len]
 | .node _ _ _ _ r,G=>by simp [sQ,Fo.len,XJ (F:=r)];omega
theorem XI {f:Tm->Tm} {p q:Nat} {x:Bool×Int} {k r:Fo}:∀{F:Fo},fF (sQ F (.node p q x k r)) (Fo.len F) f=sQ F (.node p q (f (x,k)).1 (f (x,k)).2 r)
 | .nil=>rfl
 | .node _ _ _ _ r'=>by simp only [sQ,Fo.len,fF];rw [XI (F:=r')]
theorem E8 {p q:Nat} {x:Bool×Int} {k r:Fo}:∀{F:Fo},sQ (sQ F (.node p q x k .nil)) r=sQ F (.node p q x k r)
 | .nil=>rfl
 | .node _ _ _ _ r'=>by simp only [sQ];rw [E8 (F:=r')]
theorem VM {us:List Lt} {n:Int}:∀{R F:Fo},xN us ((false,n),sQ F R) (eG R [] ((Fo.len F:Nat):Int))=(vF us R).map λR'=>((false,n),sQ F R')
 | .nil,F=>rfl
 | .node p q x k r,F=>by
  have hy:(sQ F (.node p q x k r)).list[Fo.len F]?=some (x,k):=by rw [PW,List.getElem?_append_right (by rw [Fo.len_list];exact Nat.le_refl _),Fo.len_list];simp [Fo.list]
  have e:eG (.node p q x k r) [] ((Fo.len F:Nat):Int)=(dJ x k []).map (((Fo.len F:Nat):Int):: ·)++eG r [] (((Fo.len F:Nat):Int)+1):=by
   have h1:dJ x k [((Fo.len F:Nat):Int)]=(dJ x k []).map (((Fo.len F:Nat):Int):: ·):=by rw [X9];rfl
   rw [←h1];rfl
  rw [e,FJ,U9 hy];have ih:=VM (us:=us) (n:=n) (R:=r) (F:=sQ F (.node p q x k .nil));have hl:Fo.len (sQ F (.node p q x k .nil))=Fo.len F+1:=by rw [XJ];rfl
  rw [hl,E8] at ih
  have e2:vF us (.node p q x k r)=match iB us (x,k) with
   |some t=>some (.node p q t.1 t.2 r)
   |none=>(vF us r).map λr'=> .node p q x k r':=rfl
  rw [e2];unfold iB;cases hs:xN us (x,k) (dJ x k []) with
  |some t=>simp only [Option.map_some];rw [XI]
  |none=>
   simp only [Option.map_none];rw [show (((Fo.len F:Nat):Int)+1)=((Fo.len F+1:Nat):Int) by omega,ih];cases vF us r with
   |none=>rfl
   |some r'=>simp only [Option.map_some];rw [E8]
theorem aET {us:List Lt} {n:Int} {k:Fo}:iB us ((true,n),k)=none:=by unfold iB dJ;simp [xN]
theorem D7 {us:List Lt} {n:Int} {k:Fo}:iB us ((false,n),k)=match nW ((false,n),k) us with
  |some r=>some r
  |none=>(vF us k).map λk'=>((false,n),k'):=by
 have h:=VM (us:=us) (n:=n) (R:=k) (F:= .nil);simp only [sQ,Fo.len] at h;unfold iB dJ;simp only [Bool.false_eq_true,if_false];rw [rX];simp only [l6];cases h2:nW ((false,n),k) us with
 |some r=>rfl
 |none=>exact h
def TL (us:List Lt):List Lt:=us.flatMap λu=>[u,aL true u].filter λw=>!uN w
theorem AU {z:Tm} {w:Lt} (h:uN w=true):rH z w=none:=by
 unfold rH;split
 · rfl
 · rw [if_pos h]
def xO (z:Tm):List Lt->Option Tm
 |[]=>none
 |w::l=>match rH z w with
  |some r=>some r
  |none=>xO z l
theorem OA {z:Tm} {w:Lt} {l:List Lt}:xO z (w::l)=match rH z w with
 |some r=>some r
 |none=>xO z l:=rfl
theorem FK {z:Tm}:∀{a b:List Lt},xO z (a++b)=match xO z a with
  |some r=>some r
  |none=>xO z b
 |[],_=>rfl
 |w::a,b=>by
  rw [List.cons_append,OA,OA];have ih:=FK (z:=z) (a:=a) (b:=b);cases h:rH z w with
  |some r=>rfl
  |none=>simpa only [h] using ih
theorem aCJ {z:Tm}:∀{us:List Lt},xO z (TL us)=nW z us
 |[]=>rfl
 |u::us=>by
  have ih:=aCJ (z:=z) (us:=us)
  have e2:nW z (u::us)=match aGI z u with
   |some r=>some r
   |none=>nW z us:=rfl
  have e3:TL (u::us)=([u,aL true u].filter λw=>!uN w)++TL us:=rfl;have e4:xO z ([u,aL true u].filter λw=>!uN w)=aGI z u:=by
   unfold aGI;cases h1:uN u with
   |true=>
    cases h2:uN (aL true u) with
    |true=>simp [h1,h2,xO,AU h1,AU h2]
    |false=>rw [AU h1];simp only [h1,h2,List.filter_cons,Bool.not_true,Bool.not_false,Bool.false_eq_true,if_false,if_true,List.filter_nil,xO];cases rH z (aL true u)<;>rfl
   |false=>
    cases h2:uN (aL true u) with
    |true=>rw [AU h2];simp only [h1,h2,List.filter_cons,Bool.not_true,Bool.not_false,Bool.false_eq_true,if_false,if_true,List.filter_nil,xO];cases rH z u<;>rfl
    |false=>simp only [h1,h2,List.filter_cons,Bool.not_false,if_true,List.filter_nil,xO];cases rH z u<;>cases rH z (aL true u)<;>rfl
  rw [e3,FK,e4,e2,ih]
section
attribute [local go_sem ↓] Go.wp_at_zero Go.wp_at_succ
theorem NJ {w:World} {b o q i:Nat} {x0 x1 x2 v:Value} (hq:q≠b) (h:w.cell? ⟨q,i,none⟩=some v):(((w.setCell ⟨b,o,none⟩ x0).setCell ⟨b,o+1,none⟩ x1).setCell ⟨b,o+2,none⟩ x2).cell? ⟨q,i,none⟩=some v:=
 (aS (.inl hq)).trans h
def aKH (wy:Lt) (z:Tm) (w:World) (e:Ending) (w':World):Prop:=∃(r:Tm) (a1:Option Addr) (a3:Nat) (ok:Bool),e= .returned (.tuple #[.agg #[.bool r.1.1,.int .i64 r.1.2,.slice a1 (Fo.len r.2) a3],.bool ok])/\
 rH z wy=(if ok then some r else none)/\dK w' w.heap.size w'.heap.size r.2 (.slice a1 (Fo.len r.2) a3)/\Below w.heap.size w w'
theorem YM {s:List Int} (wy:Lt) (z:Tm) (f1 f2:Nat) (a:Value) (w:World) (hw:Sm s wy.2.1/\Sm s wy.2.2) (hn:uN wy=false) (hz:Sm s z) (h1:ZK w f1 0 wy.2.1.1 wy.2.1.2) (h2:ZK w f2 0 wy.2.2.1 wy.2.2.2) (hS:cO w z.2 a):
  Calls Tryz.prog 159 #[.agg #[.bool z.1.1,.int .i64 z.1.2,a],.pointer (some ⟨f1,0,none⟩),.pointer (some ⟨f2,0,none⟩)] w (aKH wy z w):=by
 obtain ⟨wn,⟨⟨lv,li⟩,lk⟩,⟨jY,jZ⟩,lk'⟩:=wy;obtain ⟨⟨zv,zi⟩,zk⟩:=z;have HS:=aB hS;have HW:=aB hw;have HZ:=aB hz;obtain ⟨za,zc,_,_,rfl,-,-,-,-⟩:=hS;obtain ⟨c0,c1,cv,c2,hS1⟩:=h1;obtain ⟨d0,d1,dv,d2,hS2⟩:=h2;have HS1:=aB hS1;have HS2:=aB hS2;obtain ⟨la,lc,_,_,rfl,-,-,-,-⟩:=hS1;obtain ⟨ra,rc,_,_,rfl,-,-,-,-⟩:=hS2;simp only at*;clear hw hz;go_enter Tryz.func159,Tryz.ntmps159
 go_upto_region 1 with fail
 generalize hW1:(w.alloc (.cells #[.bool zv,.int .i64 zi,.slice za (Fo.len zk) zc] 84)).alloc (.cells #[.bool false,.int .i64 0,.slice none 0 0] 84)=W1;have hB1:Below w.heap.size w W1:=by rw [←hW1];exact (aD _ _).alloc (by simp) _
 have hs1:W1.heap.size=w.heap.size+1+1:=by rw [←hW1];simp
 have g0:W1.cell? ⟨w.heap.size,0,none⟩=some (.bool zv):=by rw [←hW1,World.cell?_alloc_lt _ _ _ (by simp)];exact aF rfl
 have g1:W1.cell? ⟨w.heap.size,1,none⟩=some (.int .i64 zi):=by rw [←hW1,World.cell?_alloc_lt _ _ _ (by simp)];exact aF rfl
 have g2:W1.cell? ⟨w.heap.size,2,none⟩=some (.slice za (Fo.len zk) zc):=by rw [←hW1,World.cell?_alloc_lt _ _ _ (by simp)];exact aF rfl
 have r0:W1.cell? ⟨w.heap.size+1,0,none⟩=some (.bool false):=by rw [←hW1];exact aF (World.size_alloc _ _)
 have r1:W1.cell? ⟨w.heap.size+1,1,none⟩=some (.int .i64 0):=by rw [←hW1];exact aF (World.size_alloc _ _)
 have r2:W1.cell? ⟨w.heap.size+1,2,none⟩=some (.slice none 0 0):=by rw [←hW1];exact aF (World.size_alloc _ _)
 have rf:∀i,W1.frozen? ⟨w.heap.size+1,i,none⟩=false:=λi=>by rw [←hW1];exact bL (World.size_alloc _ _)
 replace c0:=aA hB1 _ _ c0;replace c1:=aA hB1 _ _ c1;replace c2:=aA hB1 _ _ c2;replace d0:=aA hB1 _ _ d0;replace d1:=aA hB1 _ _ d1;replace d2:=aA hB1 _ _ d2;have Hm:=aB (aFE (lv,li) lk _ (zv,zi) zk _ W1 (HS1.out.below hB1) (HS.out.below hB1) HZ.out.lw.gd.ok HZ.out.lw.gd.nar (by have:=HW.out.1.lw.sz;simp only [eO] at this;omega));have HB1:=aB hB1;clear hW1 hB1;simp only at*
 go_wp2_with fail
 refine Hm.out.mono ?_;rintro e w2 ⟨hb2,m1,m,m3,ok,rfl,hno,fG⟩;replace c0:=aA hb2 _ _ c0;replace c1:=aA hb2 _ _ c1;replace c2:=aA hb2 _ _ c2;replace d0:=aA hb2 _ _ d0;replace d1:=aA hb2 _ _ d1;replace d2:=aA hb2 _ _ d2;replace r0:=aA hb2 _ _ r0;replace r1:=aA hb2 _ _ r1;replace r2:=aA hb2 _ _ r2;replace g0:=aA hb2 _ _ g0;replace g1:=aA hb2 _ _ g1;replace g2:=aA hb2 _ _ g2;replace rf:∀i,w2.frozen? ⟨w.heap.size+1,i,none⟩=false:=λi=>(hb2.frozen (by show w.heap.size+1<_;omega)).trans (rf i);have hz2:=hb2.size;have HB2:=aB (aC HB1.out hb2);cases ok
 · have Hex:=aB (hno rfl).1;clear hno fG hb2
   go_wp2_with fail
   refine bodyPost_ret (v:= .tuple #[.agg #[.bool false,.int .i64 0,.slice none 0 0],.bool false]) (by simp [results,Tryz.results159,go_sem,r0,r1,r2]) rfl ?_;refine ⟨((false,0),.nil),none,0,false,rfl,?_,.inl ⟨rfl,rfl⟩,aT (b:=w.heap.size+1) (o:=0) HB2.out (by omega)⟩;unfold rH;simp only;rw [Hex.out];rfl
 · obtain ⟨bs,hex,rfl,hSb⟩:=fG rfl;have Hex:=aB hex;have HSb:=aB hSb;have Hbs:=aB (aJ7 ⟨HZ.out.lw.gd,HZ.out.lw.sz⟩ hex);obtain ⟨⟨⟨rv,ri⟩,rk⟩,hr⟩:∃r,r=aH (aV bs) ((jY,jZ),lk'):=⟨_,rfl⟩;have Hr:=aB hr;have NG:Hid (Gd ((rv,ri),rk)/\aM rk<=4000000000000):=by
    have:=aER Hbs.out HW.out.2.lw.gd HW.out.2.lw.sz;rw [←hr] at this;exact this
   have Hap:=aB (nJ bs (.slice m1 bs.length m3) (jY,jZ) lk' _ w2 HSb.out (λp hp=>⟨(Hbs.out p hp).1.nar,(Hbs.out p hp).1.ok⟩) ((HS2.out.below HB2.out)) HW.out.2.lw.gd.nar);rw [←hr] at Hap;clear hno fG hex hSb hr hb2;simp only at Hap
   go_wp2_with fail
   refine Hap.out.mono ?_;rintro e w3 ⟨a',rfl,hO,hb3⟩;obtain ⟨x1,x3,_,_,rfl,-,-,-,-⟩:=hO.toS;replace r0:=aA hb3 _ _ r0;replace r1:=aA hb3 _ _ r1;replace r2:=aA hb3 _ _ r2;replace g0:=aA hb3 _ _ g0;replace g1:=aA hb3 _ _ g1;replace g2:=aA hb3 _ _ g2;replace rf:∀i,w3.frozen? ⟨w.heap.size+1,i,none⟩=false:=λi=>(hb3.frozen (by show w.heap.size+1<_;omega)).trans (rf i);have hz3:=hb3.size;have HO:=aB hO;have HB3:=aB (aC HB2.out hb3);clear hO hb3 c0 c1 c2 d0 d1 d2
   go_upto_region 5 with fail
   generalize fA:w3.alloc (.cells #[.bool rv,.int .i64 ri,.slice x1 (Fo.len rk) x3] 84)=wa;have bZ:Below w3.heap.size w3 wa:=by rw [←fA];exact aD _ _
   have l0:wa.cell? ⟨w3.heap.size,0,none⟩=some (.bool rv):=by rw [←fA];exact aF rfl
   have l1:wa.cell? ⟨w3.heap.size,1,none⟩=some (.int .i64 ri):=by rw [←fA];exact aF rfl
   have l2:wa.cell? ⟨w3.heap.size,2,none⟩=some (.slice x1 (Fo.len rk) x3):=by rw [←fA];exact aF rfl
   replace r0:=aA bZ _ _ r0;replace r1:=aA bZ _ _ r1;replace r2:=aA bZ _ _ r2;replace g0:=aA bZ _ _ g0;replace g1:=aA bZ _ _ g1;replace g2:=aA bZ _ _ g2;replace rf:∀i,wa.frozen? ⟨w.heap.size+1,i,none⟩=false:=λi=>(bZ.frozen (by show w.heap.size+1<_;omega)).trans (rf i);have hz4:=bZ.size;have HOa:Hid (dK wa w2.heap.size w3.heap.size rk (.slice x1 (Fo.len rk) x3)):=HO.out.frame λq i _ q2=>⟨bZ.cell q2,bZ.frozen q2⟩;have HBa:=aB (aC HB3.out bZ);obtain ⟨B,hB⟩:∃B,dU ((zv,zi),zk) ((rv,ri),rk)=B:=⟨_,rfl⟩;have Hc:=aB (λ(w':World) (hb:Below wa.heap.size wa w')=>PQ hB HZ.out.lw.gd NG.out.1 (by have:=HZ.out.lw.sz;simp only [eO] at this;omega) NG.out.2 w' (HS.out.below (aC HBa.out hb)) (HOa.out.toS.below hb));have HBB:=aB hB;have aUL:Hid (rH ((zv,zi),zk) (wn,((lv,li),lk),((jY,jZ),lk'))=if B then some ((rv,ri),rk) else none):=by unfold rH;simp only;rw [Hid,Hex.out];simp only;rw [hn,←Hr.out,hB];rfl
   clear fA bZ hB;have aG:Below wa.heap.size wa wa.drew:=(Below.refl _ _).drew;have hne1:w3.heap.size≠w.heap.size+1:=by omega
   have hne2:w.heap.size≠w.heap.size+1:=by omega
   have hlt1:w.heap.size+1<wa.heap.size:=by omega
   have aVJ:=hz3;simp only at*
   go_region_held3 (λw'=>w'.cell? ⟨w3.heap.size,0,none⟩=some (.bool rv)/\w'.cell? ⟨w3.heap.size,1,none⟩=some (.int .i64 ri)/\w'.cell? ⟨w3.heap.size,2,none⟩=some (.slice x1 (Fo.len rk) x3)/\w'.cell? ⟨w.heap.size,0,none⟩=some (.bool zv)/\w'.cell? ⟨w.heap.size,1,none⟩=some (.int .i64 zi)/\w'.cell? ⟨w.heap.size,2,none⟩=some (.slice za (Fo.len zk) zc))
    (first
      |(with_reducible exact ⟨aA aG _ _ l0,aA aG _ _ l1,aA aG _ _ l2,aA aG _ _ g0,aA aG _ _ g1,aA aG _ _ g2⟩)
      |(with_reducible exact ⟨NJ hne1 (aA aG _ _ l0),NJ hne1 (aA aG _ _ l1),NJ hne1 (aA aG _ _ l2),NJ hne2 (aA aG _ _ g0),NJ hne2 (aA aG _ _ g1),NJ hne2 (aA aG _ _ g2)⟩)
      |go_keep)
    (first
      |(go_at_call 126;with_reducible refine (Hc.out _ aG).mono ?_;rintro e w5 ⟨rr,rfl,hrr,hb5⟩;replace aG:=aC aG hb5;have e0:=aA aG _ _ r0;have e1:=aA aG _ _ r1;have e2:=aA aG _ _ r2;have ef:∀i,w5.frozen? ⟨w.heap.size+1,i,none⟩=false:=λi=>(aG.frozen hlt1).trans (rf i)))
   all_goals
    have dC:=aB aG;obtain ⟨t0,t1,t2⟩:=kJ (x:= .bool rv) (y:= .int .i64 ri) (z:= .slice x1 (Fo.len rk) x3) e0 e1 e2;have hz5:=dC.out.size;have Hbe:=aB (aT (b:=w.heap.size+1) (o:=0) (x:= .bool rv) (y:= .int .i64 ri) (z:= .slice x1 (Fo.len rk) x3) (aC HBa.out dC.out) (by omega));have HOe:Hid (dK (set3 w5 (w.heap.size+1) 0 (.bool rv) (.int .i64 ri) (.slice x1 (Fo.len rk) x3)) w.heap.size (set3 w5 (w.heap.size+1) 0 (.bool rv) (.int .i64 ri) (.slice x1 (Fo.len rk) x3)).heap.size rk (.slice x1 (Fo.len rk) x3)):=by have h1:dK (set3 w5 (w.heap.size+1) 0 (.bool rv) (.int .i64 ri) (.slice x1 (Fo.len rk) x3)) w2.heap.size w3.heap.size rk (.slice x1 (Fo.len rk) x3):=HOa.out.frame λq i q1 q2=>⟨(aS (.inl (by omega))).trans (dC.out.cell (by show q<_;omega)),aQ.trans (dC.out.frozen (by show q<_;omega))⟩;exact h1.mono (by omega) (by rw [bQ];omega)
    generalize hw6:set3 w5 (w.heap.size+1) 0 (.bool rv) (.int .i64 ri) (.slice x1 (Fo.len rk) x3)=w6 at t0 t1 t2 Hbe HOe;have aQI:((w5.setCell {block:=w.heap.size+1,off:=0} (.bool rv)).setCell {block:=w.heap.size+1,off:=1} (.int .i64 ri)).setCell {block:=w.heap.size+1,off:=2} (.slice x1 (Fo.len rk) x3)=w6:=hw6;rw [aQI];clear hw6 aQI e0 e1 e2 ef aG hb5 g0 g1 g2 l0 l1 l2 r0 r1 r2 rf hrr;simp only [Nat.zero_add] at t1 t2
    go_wp2_with fail
    refine bodyPost_ret (v:= .tuple #[.agg #[.bool rv,.int .i64 ri,.slice x1 (Fo.len rk) x3],.bool B]) (by simp [results,Tryz.results159,go_sem,t0,t1,t2]) rfl ?_;exact ⟨((rv,ri),rk),x1,x3,B,rfl,aUL.out,HOe.out,Hbe.out⟩
end
end Go.Proofs.YtoklbpbmghbhnaeGreat
