import Derived.Test.YtoklbpbmghbhnaeGreatG20
import Derived.BigQuiet
import Derived.Deep.RegionHeld3
namespace Go.Proofs.YtoklbpbmghbhnaeGreat
set_option maxRecDepth 100000
set_option maxHeartbeats 16000000
open Go.RowKit Go.Deep Go.ChangeShapes Go.WideShapes
section
attribute [local go_sem ↓] Go.wp_at_zero Go.wp_at_succ
theorem aLJ {U:Tm->Tm->Option Sb} {c d:Cl} (st:List Cl×Bool) {i:Nat} {x:Lt} (hx:c[i]?=some x):ZU U c d st i=bF (uU U c i x d) st 2:=by unfold ZU;rw [hx]
theorem aLI {U:Tm->Tm->Option Sb} {c:Cl} {i:Nat} {a:Lt} {d:Cl} (st:List Cl×Bool) {j:Nat} {y:Lt} (hy:d[j]?=some y):uV U c i a d st j=bF (uM U c i a d j y) st 2:=by unfold uV;rw [hy]
theorem yX:∀{F:Fo} {p:List Int} {i:Int},(eG F p i).length<=Fo.sizesR F
 | .nil,_,_=>Nat.le_refl _
 | .node _ _ x k r,p,i=>by
  have h1:=yX (F:=k) (p:=p++[i]) (i:=0);have h2:=yX (F:=r) (p:=p) (i:=i+1);simp only [eG,List.length_append,Fo.sizesR];split
  · simp;omega
  · simp;omega
theorem EK {t:Tm} (h:MI t):(dJ t.1 t.2 []).length<=12:=by
 have h1:=yX (F:=t.2) (p:=[]) (i:=0);have h2:=h.sz;simp only [eO,aM] at h2;unfold dJ;split
 · simp
 · simp;omega
theorem JJ {U:Tm->Tm->Option Sb} {c:Cl} {i:Nat} {a:Lt} {d:Cl} {j:Nat} {y:Lt} (hy:l9 y) (st:List Cl×Bool) (side:Nat):(uM U c i a d j y st side).1.length<=st.1.length+12:=by have h1:=xD (JI U c i a d j (aL (decide (side=1)) y) (decide (side=1))) (dJ (aL (decide (side=1)) y).2.1.1 (aL (decide (side=1)) y).2.1.2 []) st;have h2:=EK (fU (yes:=decide (side=1)) hy).1;unfold uM;omega
theorem VH {U:Tm->Tm->Option Sb} {c:Cl} {i:Nat} {a:Lt} {d:Cl} (hd:∀l∈d,l9 l) (st:List Cl×Bool) (j:Nat):(uV U c i a d st j).1.length<=st.1.length+24:=by
 unfold uV;split
 · rename_i y hy;exact eX (m:=12) (JJ (hd y (List.mem_of_getElem? hy))) st 2
 · omega
theorem VG {U:Tm->Tm->Option Sb} {c:Cl} {i:Nat} {x:Lt} {d:Cl} (hd:∀l∈d,l9 l) (h4:d.length<=4) (st:List Cl×Bool) (k:Nat):(uU U c i x d st k).1.length<=st.1.length+96:=by
 unfold uU;split
 · omega
 · have:=eX (m:=24) (VH (U:=U) (c:=c) (i:=i) (a:=aL (decide (k=1)) x) hd) st d.length;omega
theorem aIH {U:Tm->Tm->Option Sb} {c d:Cl} (hd:∀l∈d,l9 l) (h4:d.length<=4) (st:List Cl×Bool) (i:Nat):(ZU U c d st i).1.length<=st.1.length+192:=by
 unfold ZU;split
 · rename_i x hx;exact eX (m:=96) (VG (x:=x) hd h4) st 2
 · omega
theorem aEQ {U:Tm->Tm->Option Sb} {c d:Cl} (hd:∀l∈d,l9 l) (h4:d.length<=4) (i:Nat):(gJ U c d i).1.length<=i*192:=by have:=eX (m:=192) (aIH (U:=U) (c:=c) hd h4) ([],false) i;rw [List.length_nil,Nat.zero_add] at this;exact this
section
variable {W:World} {BV:Value} {ga gb:Nat} {AR AL BR BL:Value} {qa qb qc qd:Tm} {A2:Bool} {D:Nat->Bool} {w w':World} {s84 s85 s86 s87 s88 s89 s90 s91 s92 s93 s94 s95 s96 s97 s98 s99 aSV aSU aST aSS aSR aSQ aSP aSO:Value}
end
section
variable {W:World} {BV:Value} {ga gb:Nat} {AR AL BR BL:Value} {qa qb qc qd:Tm} {A2:Bool} {D:Nat->Bool} {w w':World} {s84 s85 s86 s87 s88 s89 s90 s91 s92 s93 s94 s95 s96 s97 s98 s99 aSV aSU aST aSS aSR aSQ aSP aSO:Value}
end
end
section
attribute [local go_sem ↓] Go.wp_at_zero Go.wp_at_succ
theorem CB {x:Bool×Int} {k:Fo} {a:Value} {w:World} {Z:List (List Int)} (hZ:Z=dJ x k []) (hS:cO w k a) (hb:aM k<=12):
  Calls Tryz.prog 147 #[.agg #[.bool x.1,.int .i64 x.2,a]] w λe w'=>∃z1 z3,e= .returned (.slice z1 Z.length z3)/\NK w.heap.size w' Z (.slice z1 Z.length z3)/\Below w.heap.size w w':=by
 refine (aBA x k a w hS (by omega)).mono ?_;rintro e w' ⟨vo,ys,rfl,h1,h2,h3⟩;rw [←hZ] at h2;have hcells:=λg hg=>h1.cells (g:=g) hg;have hat:=λg hg=>aJ h1 g hg;have hyl:=h2.1;rcases h1.2 with ⟨rfl,h0⟩|⟨g,bW,cur,rfl,q1,q2,q3,q4,q5,q6⟩
 · have hz:Z=[]:=List.length_eq_zero_iff.1 (by omega);refine ⟨none,0,by rw [hz];rfl,⟨none,0,0,rfl,λh=>by rw [hz] at h;simp at h,by rw [hz];exact Nat.le_refl _,Nat.zero_le _,λt q hq=>by rw [hz] at hq;simp at hq⟩,h3⟩
 · rw [hyl];have hg:=hat g rfl;refine ⟨some ⟨g,0,none⟩,bW,rfl,⟨_,bW,g,rfl,λ_=>⟨rfl,hg.1,hg.2⟩,by omega,q4,λt q hq=>?_⟩,h3⟩;have ht:t<ys.length:=by have:=(List.getElem?_eq_some_iff.1 hq).1;omega
   refine ⟨ys[t],?_,(h2.2 t _ q (List.getElem?_eq_getElem ht) hq).1⟩;have:=hcells g rfl t ys[t] (List.getElem?_eq_getElem ht);rw [add_plain,Nat.zero_add] at this;exact this
theorem aHT {w:World} {lo:Nat} {v:Value} {n:Nat} {xs:List Value} (h:w.ownsRow lo 86 7 v n xs) (hn:0<n):∃g k,v= .slice (some ⟨g,0,none⟩) n k/\lo<=g/\g<w.heap.size/\∀i,w.frozen? ⟨g,i,none⟩=false:=by
 have hat:=λg hg=>aJ h g hg;rcases h.2 with ⟨e,h0⟩|⟨g,bW,cur,e,q1,q2,q3,q4,q5⟩
 · omega
 · have hg:=hat g (by rw [e];rfl);exact ⟨g,bW,e,hg.1,hg.2,λi=>by simp [World.frozen?,q2]⟩
theorem OY {lo:Nat} {X:Nat->Prop} {w:World} {c:Cl} {v:Value} {xs:List Value} (h:lD lo X w c v xs) {g:Nat} (hg:v.ownBlock=some g) {j:Nat} (hj:j<c.length):∀i,i<7->∃u,w.cell? ⟨g,j*7+i,none⟩=some u:=λi hi=>by
 have hl:=h.cells.len;have hlt:j*7+i<xs.length:=by rw [hl];omega
 refine ⟨xs[j*7+i],?_⟩;have:=h.row.cells hg (j*7+i) xs[j*7+i] (List.getElem?_eq_getElem hlt);rw [add_plain,Nat.zero_add] at this;exact this
theorem O1 {U:Tm->Tm->Option Sb} {a b:Lt} {p:List Int} {z:Tm} {s:Sb} (hz:l6 p b.2.1.1 b.2.1.2=some z) (h:xW U a b p=some s):U a.2.1 z=some s:=by
 unfold xW at h;rw [hz] at h
 dsimp only at h
 cases hU:U a.2.1 z with
 |none=>rw [hU] at h;cases h
 |some r=>
  rw [hU] at h
  dsimp only at h
  split at h
  · cases h
  · exact h
theorem K3 {p:List Int} {pv:Value} {x:Bool×Int} {k:Fo} {q:Tm} {a:Value} {y:Bool×Int} {l:Fo} {c:Value} {w:World} (hq:dM p (x,k) (y,l)=q) (hg:Gd (x,k)) (hu:Gd (y,l)) (hS:cO w k a) (hU:cO w l c) (hN:iK w p pv):
  Calls Tryz.prog 150 #[.agg #[.bool x.1,.int .i64 x.2,a],pv,.agg #[.bool y.1,.int .i64 y.2,c]] w λe w'=>∃(a1:Option Addr) (a3:Nat),e= .returned (.agg #[.bool q.1.1,.int .i64 q.1.2,.slice a1 (Fo.len q.2) a3])/\
   SB (New w w') w' q.2 (.slice a1 (Fo.len q.2) a3)/\Below w.heap.size w w':=by
 subst hq;refine (aLY x k a p pv y l c w hS hN hU hg.nar.1 hg.nar.2 hu.nar.1 hu.nar.2).mono ?_;rintro e w' ⟨hb,a',rfl,h1⟩;have h5:=h1.toS;obtain ⟨q1,q3,_,_,e2,-,-,-,-⟩:=h5;subst e2;exact ⟨q1,q3,rfl,h1,hb⟩
theorem YS {U:Tm->Tm->Option Sb} (hU:CQ U) {lo p:Nat} {c:Cl} {i:Nat} {a:Lt} {d:Cl} {st:List Cl×Bool} {v:Value} {xs:List Value} {rv dv:Value} {a1 d1:Option Addr} {a3 d3 fn g0:Nat} {w:World} (hL:uC lo w p st.1 st.2 v xs) (hR:dQ w (jM c i) rv)
  (hA:cO w a.2.1.2 (.slice a1 (Fo.len a.2.1.2) a3)) (hB:cO w a.2.2.2 (.slice d1 (Fo.len a.2.2.2) d3)) (hD:dQ w d dv) (hc:∀l∈c,l9 l) (ha:l9 a) (hd:∀l∈d,l9 l) (h4:c.length<=4) (hd4:d.length<=4) (hn:st.1.length<=100000):
  Calls Tryz.prog 114 #[.pointer (some ⟨p,0,none⟩),rv,ZR a (.slice a1 (Fo.len a.2.1.2) a3) (.slice d1 (Fo.len a.2.2.2) d3) (.func (.func fn) #[] #[.pointer (some ⟨g0,0,none⟩)]),dv] w λe w'=>e= .returned (.tuple #[])/\∃v' xs',LK lo p w v (bF (uV U c i a d) st d.length) v' xs' w':=by
 obtain ⟨an,⟨⟨av,ai⟩,ak⟩,⟨kL,kN⟩,kM⟩:=a;obtain ⟨xS,rw3,rfl⟩:=aK hR;obtain ⟨dd1,dd3,rfl⟩:=aK hD;have HU:=aB hU;have HL:=aB hL;have HR:=aB hR;have HA:=aB hA;have HB:=aB hB;have HD:=aB hD;have Hc:=aB hc;have Ha:=aB ha;have Hd:=aB hd;have Hn:=aB hn;have hbl:(jM c i).length<=4:=by have:=tF (c:=c) (i:=i);omega
 have Hlen:Hid (∀q,q<=4->(bF (uV U c i (an,((av,ai),ak),((kL,kN),kM)) d) st q).1.length<=st.1.length+96):=λq hq=>by have:=eX (m:=24) (VH (U:=U) (c:=c) (i:=i) (a:=(an,((av,ai),ak),((kL,kN),kM))) hd) st q;omega
 simp only at*;clear hU hL hR hA hB hD hc ha hd hn;go_enter Tryz.func114,Tryz.ntmps114
 go_upto_region 1 with fail
 generalize hW1:w.alloc (.cells #[.bool av,.int .i64 ai,.slice a1 (Fo.len ak) a3,.bool kL,.int .i64 kN,.slice d1 (Fo.len kM) d3,.func (.func fn) #[] #[.pointer (some ⟨g0,0,none⟩)]] 140)=W1;have hB1:Below w.heap.size w W1:=by rw [←hW1];exact aD _ _
 have HX1:Hid (bT W1 w.heap.size [.bool av,.int .i64 ai,.slice a1 (Fo.len ak) a3,.bool kL,.int .i64 kN,.slice d1 (Fo.len kM) d3,.func (.func fn) #[] #[.pointer (some ⟨g0,0,none⟩)]]):=by rw [Hid,←hW1];exact bT.new w #[.bool av,.int .i64 ai,.slice a1 (Fo.len ak) a3,.bool kL,.int .i64 kN,.slice d1 (Fo.len kM) d3,.func (.func fn) #[] #[.pointer (some ⟨g0,0,none⟩)]] 140
 clear hW1;have HL1:=aB (HL.out.below hB1);have HLK:=aB ((LK.start HL.out).below hB1);replace HR:=aB (HR.out.below hB1);replace HA:=aB (HA.out.below hB1);replace HB:=aB (HB.out.below hB1);replace HD:=aB (HD.out.below hB1);generalize hga:w.heap.size=ga at HX1 ⊢;clear hB1
 go_wp2_with fail
 go_loopw [19] (λq wr=>∃(j:Nat) (v':Value) (xs':List Value),j<=d.length/\q= .int .i64 j/\LK lo p W1 v (bF (uV U c i (an,((av,ai),ak),((kL,kN),kM)) d) st j) v' xs' wr) (λq _=>d.length - (intOf q).toNat)
 case atStart=>exact ⟨0,v,xs,by omega,rfl,LK.start HL1.out⟩
 case round=>
  obtain ⟨j,v',xs',hj,rfl,hK⟩:=hrel;have HK:=aB hK;clear hK;by_cases hjl:j<d.length
  · have aOI:(j:Int)<(d.length:Int):=by omega
    have CR:=aB (HK.out.kpt HL1.out);obtain ⟨y,hy⟩:∃y,d[j]?=some y:=⟨d[j]'hjl,by simp⟩;have Hy:=aB hy;obtain ⟨q1,q3,db,od,hqe,aQQ,aVN,aS7,hqF⟩:=CR.out.cin HD.out;simp only [Value.slice.injEq,true_and] at hqe;obtain ⟨rfl,rfl⟩:=hqe;have hq1:=aQQ (by omega);subst hq1;unfold maxLen at aS7;have Hsj:=aB (fV (uV U c i (an,((av,ai),ak),((kL,kN),kM)) d) st j);have Hfj:=aB (aLI (U:=U) (c:=c) (i:=i) (a:=(an,((av,ai),ak),((kL,kN),kM))) (bF (uV U c i (an,((av,ai),ak),((kL,kN),kM)) d) st j) Hy.out);have jP:Hid ((bF (uV U c i (an,((av,ai),ak),((kL,kN),kM)) d) st j).1.length<=st.1.length+96):=Hlen.out j (by omega);have uS:=aB (Hd.out y (List.mem_of_getElem? hy));obtain ⟨yn,⟨⟨yv,yi⟩,yk⟩,⟨⟨bB,bH⟩,aZ⟩⟩:=y;obtain ⟨p0,p1,p2,⟨u3,p3,hE⟩,p4,p5,u6,p6,hG⟩:=hqF.at hy;have HE:=aB hE;have HG:=aB hG;obtain ⟨e1,e3,_,_,rfl,-,-,-,-⟩:=hE;obtain ⟨f1,f3,_,_,rfl,-,-,-,-⟩:=hG;simp only at p0 p1 p2 p3 p4 p5 p6 HE HG uS;clear hy hqF aQQ;generalize bF (uV U c i (an,((av,ai),ak),((kL,kN),kM)) d) st j=F5 at*
    go_upto_region 4 with fail
    generalize QD:wr.alloc (.cells #[.bool yn,.bool yv,.int .i64 yi,.slice e1 (Fo.len yk) e3,.bool bB,.int .i64 bH,.slice f1 (Fo.len aZ) f3] 86)=W4;have hb4:Below wr.heap.size wr W4:=by rw [←QD];exact aD _ _
    have HY4:Hid (bT W4 wr.heap.size [.bool yn,.bool yv,.int .i64 yi,.slice e1 (Fo.len yk) e3,.bool bB,.int .i64 bH,.slice f1 (Fo.len aZ) f3]):=by rw [Hid,←QD];exact bT.new wr #[.bool yn,.bool yv,.int .i64 yi,.slice e1 (Fo.len yk) e3,.bool bB,.int .i64 bH,.slice f1 (Fo.len aZ) f3] 86
    clear QD p0 p1 p2 p3 p4 p5 p6;have p0:W4.cell? ⟨wr.heap.size,0,none⟩=some (.bool yn):=HY4.out 0 _ rfl;have p1:W4.cell? ⟨wr.heap.size,1,none⟩=some (.bool yv):=HY4.out 1 _ rfl;have p2:W4.cell? ⟨wr.heap.size,2,none⟩=some (.int .i64 yi):=HY4.out 2 _ rfl;have p3:W4.cell? ⟨wr.heap.size,3,none⟩=some (.slice e1 (Fo.len yk) e3):=HY4.out 3 _ rfl;have p4:W4.cell? ⟨wr.heap.size,4,none⟩=some (.bool bB):=HY4.out 4 _ rfl;have p5:W4.cell? ⟨wr.heap.size,5,none⟩=some (.int .i64 bH):=HY4.out 5 _ rfl;have p6:W4.cell? ⟨wr.heap.size,6,none⟩=some (.slice f1 (Fo.len aZ) f3):=HY4.out 6 _ rfl
    go_wp2_with fail
    refine (pE (yn,((yv,yi),yk),((bB,bH),aZ)) e1 f1 _ _ _ _ W4).mono ?_;rintro e w5 ⟨rfl,hRY,hb5⟩;have yG:=aC hb4 hb5;have HK5:=aB (HK.out.below yG);have ZB:=aB HK5.out.L;have QX:=aB (CR.out.trans (kT yG));have HXa:=aB (HX1.out.kpt QX.out);have HYr:=aB hRY;have HE5:=aB (HE.out.below yG);have HG5:=aB (HG.out.below yG);have HR5:=aB (QX.out.cin HR.out);have HD5:=aB (QX.out.cin HD.out);have HA5:=aB (QX.out.sin HA.out);have GA:=aB (QX.out.sin HB.out);clear hRY hb4 hb5 yG p0 p1 p2 p3 p4 p5 p6 HY4 HK CR HE HG;generalize W4.heap.size=gy at*;simp only
    go_wp2_with fail
    generalize hgw:wr.heap.size=gw at*;generalize wr=wo at*
    go_loopw [26] (λq wr=>∃(m:Nat) (v2:Value) (uT:List Value),m<=2/\q= .int .i64 m/\LK lo p w5 v' (bF (uM U c i (an,((av,ai),ak),((kL,kN),kM)) d j (yn,((yv,yi),yk),((bB,bH),aZ))) F5 m) v2 uT wr) (λq _=>2 - (intOf q).toNat)
    case atStart=>exact ⟨0,v',xs',by omega,rfl,LK.start ZB.out⟩
    case round=>
     obtain ⟨m,v2,uT,hm,rfl,hK2⟩:=hrel;have QK:=aB hK2;clear hK2;obtain rfl|rfl|rfl:m=0\/m=1\/m=2:=by omega
     · have xR:=aB (QK.out.kpt ZB.out);have yA:Hid (l9 (yn,((yv,yi),yk),((bB,bH),aZ))):=uS.out;have hix:∀w',(Instr.index 141 (UT (yn,((yv,yi),yk),((bB,bH),aZ)) (.slice e1 (Fo.len yk) e3) (.slice f1 (Fo.len aZ) f3) gy) (.int .i64 0)).run Tryz.prog w'= .ok (ZR (yn,((yv,yi),yk),((bB,bH),aZ)) (.slice e1 (Fo.len yk) e3) (.slice f1 (Fo.len aZ) f3) (.func (.func 145) #[] #[.pointer (some ⟨gy,0,none⟩)])) w':=λw'=>G8 (yn,((yv,yi),yk),((bB,bH),aZ)) _ _ gy 0 (by omega) w';have Hsd:Hid (bF (uM U c i (an,((av,ai),ak),((kL,kN),kM)) d j (yn,((yv,yi),yk),((bB,bH),aZ))) F5 (0+1)=(dJ (yv,yi) yk []).foldl (oQ U c i (an,((av,ai),ak),((kL,kN),kM)) d j (yn,((yv,yi),yk),((bB,bH),aZ)) false) (bF (uM U c i (an,((av,ai),ak),((kL,kN),kM)) d j (yn,((yv,yi),yk),((bB,bH),aZ))) F5 0)):=fV _ _ _;have C8:Hid ((bF (uM U c i (an,((av,ai),ak),((kL,kN),kM)) d j (yn,((yv,yi),yk),((bB,bH),aZ))) F5 0).1.length<=st.1.length+200):=by
        have:=eX (m:=12) (JJ (U:=U) (c:=c) (i:=i) (a:=(an,((av,ai),ak),((kL,kN),kM))) (d:=d) (j:=j) uS.out) F5 0;have:=jP.out;rw [Hid];omega
       generalize bF (uM U c i (an,((av,ai),ak),((kL,kN),kM)) d j (yn,((yv,yi),yk),((bB,bH),aZ))) F5 0=st2 at*
       go_upto_region 7 with fail
       generalize ZJ:wr.alloc (.cells #[.bool yv,.int .i64 yi,.slice e1 (Fo.len yk) e3,.bool bB,.int .i64 bH,.slice f1 (Fo.len aZ) f3,.func (.func 145) #[] #[.pointer (some ⟨gy,0,none⟩)]] 140)=W6;have hb6:Below wr.heap.size wr W6:=by rw [←ZJ];exact aD _ _
       have sV:Hid (bT W6 wr.heap.size [.bool yv,.int .i64 yi,.slice e1 (Fo.len yk) e3,.bool bB,.int .i64 bH,.slice f1 (Fo.len aZ) f3,.func (.func 145) #[] #[.pointer (some ⟨gy,0,none⟩)]]):=by rw [Hid,←ZJ];exact bT.new wr #[.bool yv,.int .i64 yi,.slice e1 (Fo.len yk) e3,.bool bB,.int .i64 bH,.slice f1 (Fo.len aZ) f3,.func (.func 145) #[] #[.pointer (some ⟨gy,0,none⟩)]] 140
       clear ZJ hix;have HK6:=aB (QK.out.below hb6);have HL6:=aB HK6.out.L;have HF6:=aB ((xR.out.sin HE5.out).below hb6);have b0:W6.cell? ⟨wr.heap.size,0,none⟩=some (.bool yv):=sV.out 0 _ rfl;have b1:W6.cell? ⟨wr.heap.size,1,none⟩=some (.int .i64 yi):=sV.out 1 _ rfl;have b2:W6.cell? ⟨wr.heap.size,2,none⟩=some (.slice e1 (Fo.len yk) e3):=sV.out 2 _ rfl;have b3:W6.cell? ⟨wr.heap.size,3,none⟩=some (.bool bB):=sV.out 3 _ rfl;have b4:W6.cell? ⟨wr.heap.size,4,none⟩=some (.int .i64 bH):=sV.out 4 _ rfl;have b5:W6.cell? ⟨wr.heap.size,5,none⟩=some (.slice f1 (Fo.len aZ) f3):=sV.out 5 _ rfl;have b6:W6.cell? ⟨wr.heap.size,6,none⟩=some (.func (.func 145) #[] #[.pointer (some ⟨gy,0,none⟩)]):=sV.out 6 _ rfl;obtain ⟨Z,hZ⟩:∃Z,Z=dJ (yv,yi) yk []:=⟨_,rfl⟩;have HZ:=aB hZ;have aPH:Hid (Z.length<=12):=by rw [Hid,hZ];exact EK yA.out.1
       have Hpc:=aB (CB (w:=W6) hZ HF6.out yA.out.1.sz);clear hZ
       go_wp2_with fail
       refine Hpc.out.mono ?_;rintro e wP ⟨z1,z3,rfl,hP,hbP⟩;have Z0:=aC hb6 hbP;have HKP:=aB (QK.out.below Z0);have HLP:=aB HKP.out.L;have uZ:=aB (xR.out.trans (kT Z0));have aPJ:=aB (sV.out.below hbP);have aPK:=aB (HXa.out.kpt uZ.out);have aPI:=aB (HYr.out.kpt uZ.out);have HEP:=aB (uZ.out.sin HE5.out);have HGP:=aB (uZ.out.sin HG5.out);have HRP:=aB (uZ.out.cin HR5.out);have HDP:=aB (uZ.out.cin HD5.out);have HAP:=aB (uZ.out.sin HA5.out);have HBP:=aB (uZ.out.sin GA.out);have HP:=aB hP;have Hsz:Hid (bF (uM U c i (an,((av,ai),ak),((kL,kN),kM)) d j (yn,((yv,yi),yk),((bB,bH),aZ))) F5 (0+1)=lH (oQ U c i (an,((av,ai),ak),((kL,kN),kM)) d j (yn,((yv,yi),yk),((bB,bH),aZ)) false) st2 Z Z.length):=by rw [Hid,Hsd.out,lH,List.take_length,HZ.out]
       clear hP hbP hb6 Z0 Hpc Hsd b0 b1 b2 b3 b4 b5 b6 sV HF6 xR QK
       go_wp2_with fail
       generalize hgb:wr.heap.size=gb at*;generalize wr=wo2 at*
       go_loopw [33] (λq wr=>∃(t:Nat) (v3:Value) (Y3:List Value),t<=Z.length/\q= .int .i64 t/\LK lo p wP v2 (lH (oQ U c i (an,((av,ai),ak),((kL,kN),kM)) d j (yn,((yv,yi),yk),((bB,bH),aZ)) false) st2 Z t) v3 Y3 wr) (λq _=>Z.length - (intOf q).toNat)
       case atStart=>exact ⟨0,v2,uT,Nat.zero_le _,rfl,LK.start HLP.out⟩
       case round=>
        obtain ⟨t,v3,Y3,ht,rfl,hK3⟩:=hrel;have HK3:=aB hK3;have aO9:Hid ((lH (oQ U c i (an,((av,ai),ak),((kL,kN),kM)) d j (yn,((yv,yi),yk),((bB,bH),aZ)) false) st2 Z t).1.length<=1000000):=by
         have h1:=xD (JI U c i (an,((av,ai),ak),((kL,kN),kM)) d j (yn,((yv,yi),yk),((bB,bH),aZ)) false) (Z.take t) st2;have h2:=C8.out;have h3:=aPH.out;have h4:=Hn.out;have h5:(Z.take t).length<=Z.length:=by rw [List.length_take];omega
         unfold Hid lH;omega
        clear hK3;by_cases htl:t<Z.length
        · have aQL:(t:Int)<(Z.length:Int):=by omega
          have u7:=aB (HK3.out.kpt HLP.out);obtain ⟨pl,hpl⟩:∃q,Z[t]?=some q:=⟨Z[t]'htl,by simp⟩;have Hpl:=aB hpl;obtain ⟨zat,aGN,hzv⟩:=OT (x:=(yv,yi)) (k:=yk) (p:=pl) (by rw [←HZ.out];exact List.mem_of_getElem? hpl);have QS:=aB aGN
          obtain ⟨z1',z3',gp,hpe,aGS,aGR,UH,QB⟩:=HK3.out.places HL6.out HP.out;simp only [Value.slice.injEq,true_and] at hpe;obtain ⟨rfl,rfl⟩:=hpe;obtain ⟨py,c0,hrow⟩:=QB t pl hpl;have hz1:z1=some ⟨gp,0,none⟩:=(aGS (by omega)).1;subst hz1;have HNp:=aB (mJ hrow);obtain ⟨y1,y3,rfl⟩:=dR HNp.out;unfold maxLen at UH;have aG6:=aB (LJ (f:=(oQ U c i (an,((av,ai),ak),((kL,kN),kM)) d j (yn,((yv,yi),yk),((bB,bH),aZ)) false)) (s:=st2) hpl);have vD:=aB (aPK.out.kpt u7.out);have vC:=aB (aPJ.out.kpt u7.out);have Hsm:=aB (OC U c i (an,((av,ai),ak),((kL,kN),kM)) d j (yn,((yv,yi),yk),((bB,bH),aZ)) false (lH (oQ U c i (an,((av,ai),ak),((kL,kN),kM)) d j (yn,((yv,yi),yk),((bB,bH),aZ)) false) st2 Z t) pl);generalize lH (oQ U c i (an,((av,ai),ak),((kL,kN),kM)) d j (yn,((yv,yi),yk),((bB,bH),aZ)) false) st2 Z t=stt at*;have Hme:=aB (WI (U:=U) HU.out (an,((av,ai),ak),((kL,kN),kM)) (yn,((yv,yi),yk),((bB,bH),aZ)) a1 d1 e1 f1 a3 d3 e3 f3 (.func (.func fn) #[] #[.pointer (some ⟨g0,0,none⟩)]) (.func (.func 145) #[] #[.pointer (some ⟨gy,0,none⟩)]) pl y1 pl.length y3 zat wr (u7.out.sin HAP.out) (u7.out.sin HBP.out) (u7.out.sin HEP.out) (u7.out.sin HGP.out) HNp.out QS.out Ha.out yA.out);simp only at Hme;clear hpl aGN hzv QB aGS hrow;have ZF:wr.cell? ⟨ga,0,none⟩=some (.bool av):=vD.out 0 _ rfl;have ka1:wr.cell? ⟨ga,1,none⟩=some (.int .i64 ai):=vD.out 1 _ rfl;have ka2:wr.cell? ⟨ga,2,none⟩=some (.slice a1 (Fo.len ak) a3):=vD.out 2 _ rfl;have T9:wr.cell? ⟨ga,3,none⟩=some (.bool kL):=vD.out 3 _ rfl;have TZ:wr.cell? ⟨ga,4,none⟩=some (.int .i64 kN):=vD.out 4 _ rfl;have TY:wr.cell? ⟨ga,5,none⟩=some (.slice d1 (Fo.len kM) d3):=vD.out 5 _ rfl;have ka6:wr.cell? ⟨ga,6,none⟩=some (.func (.func fn) #[] #[.pointer (some ⟨g0,0,none⟩)]):=vD.out 6 _ rfl;have QA:wr.cell? ⟨gb,0,none⟩=some (.bool yv):=vC.out 0 _ rfl;have TW:wr.cell? ⟨gb,1,none⟩=some (.int .i64 yi):=vC.out 1 _ rfl;have TU:wr.cell? ⟨gb,2,none⟩=some (.slice e1 (Fo.len yk) e3):=vC.out 2 _ rfl;have kb3:wr.cell? ⟨gb,3,none⟩=some (.bool bB):=vC.out 3 _ rfl;have kb4:wr.cell? ⟨gb,4,none⟩=some (.int .i64 bH):=vC.out 4 _ rfl;have kb5:wr.cell? ⟨gb,5,none⟩=some (.slice f1 (Fo.len aZ) f3):=vC.out 5 _ rfl;have TT:wr.cell? ⟨gb,6,none⟩=some (.func (.func 145) #[] #[.pointer (some ⟨gy,0,none⟩)]):=vC.out 6 _ rfl
          go_wp2_with fail
          refine Hme.out.mono ?_;rintro e w7 ⟨iJ,z5,mm,z6,ok,rfl,hno,fG⟩;have HK7:=aB (HK3.out.below iJ);have xQ:=aB (u7.out.trans (kT iJ));have HN7:=aB (HNp.out.below iJ);replace ZF:=aA iJ _ _ ZF;replace ka1:=aA iJ _ _ ka1;replace ka2:=aA iJ _ _ ka2;replace T9:=aA iJ _ _ T9;replace TZ:=aA iJ _ _ TZ;replace TY:=aA iJ _ _ TY;replace ka6:=aA iJ _ _ ka6;replace QA:=aA iJ _ _ QA;replace TW:=aA iJ _ _ TW;replace TU:=aA iJ _ _ TU;replace kb3:=aA iJ _ _ kb3;replace kb4:=aA iJ _ _ kb4;replace kb5:=aA iJ _ _ kb5;replace TT:=aA iJ _ _ TT;clear Hme iJ HNp vD vC u7 HK3;cases ok
          · have dC:Hid (LK lo p wP v2 (lH (oQ U c i (an,((av,ai),ak),((kL,kN),kM)) d j (yn,((yv,yi),yk),((bB,bH),aZ)) false) st2 Z (t+1)) v3 Y3 w7):=by
             have:=HK7.out;rw [Hid,aG6.out,Hsm.out,(hno rfl).1];exact this
            clear hno fG ZF ka1 ka2 T9 TZ TY ka6 QA TW TU kb3 kb4 kb5 TT c0
            go_wp2_with fail
            go_roundw
            case rel=>exact ⟨t+1,v3,Y3,by omega,by go_num,dC.out⟩
            case measure=>simp [intOf];omega
          · obtain ⟨s',hmt,rfl,hSub⟩:=fG rfl;have HV:=aB hSub;have Hmt:=aB hmt;have Hgz:=aB (yA.out.1.at QS.out);obtain ⟨n,hnn⟩:=HU.out _ _ (Ha.out.1.ui Hgz.out);rw [O1 QS.out hmt] at hnn;have ZN:=aB hnn;obtain ⟨⟨⟨pv,pi⟩,pk⟩,hq⟩:∃q,dM pl ((yv,yi),yk) ((kL,kN),kM)=q:=⟨_,rfl⟩;have Hq:=aB hq;have Hgp:=aB (IX Ha.out.2.gd yA.out.1.gd QS.out);have aDZ:Hid (aL false (yn,dM pl ((yv,yi),yk) ((kL,kN),kM),((bB,bH),aZ))=(yn,((pv,pi),pk),((bB,bH),aZ))):=by rw [Hid,hq];rfl
            have HF7:=aB (xQ.out.sin HEP.out);have HS7:=aB (xQ.out.sin HGP.out);have HB7:=aB (xQ.out.sin HBP.out);have HR7:=aB (xQ.out.cin HRP.out);have HY7:=aB (aPI.out.kpt xQ.out);have dI:=aB (LU d _ w7 (xQ.out.cin HDP.out) (by omega));have aTN:ga<w7.heap.size:=World.block_lt_of_cell? _ _ ZF;have aTM:gb<w7.heap.size:=World.block_lt_of_cell? _ _ QA;clear hno fG hSub hmt hnn hq c0
            go_wp2_with fail
            refine dI.out.mono ?_;rintro e w8 ⟨cv,nd,rfl,hO8,mR⟩;obtain ⟨gx,x3,rfl,aOJ,hgx2,hfx⟩:=aHT hO8.row (by omega);have hex:=OY hO8 (g:=gx) rfl hjl;have HO8:=aB hO8;have hne1:gb≠gx:=by omega
            have hne2:ga≠gx:=by omega
            replace ZF:=aA mR _ _ ZF;replace ka1:=aA mR _ _ ka1;replace ka2:=aA mR _ _ ka2;replace T9:=aA mR _ _ T9;replace TZ:=aA mR _ _ TZ;replace TY:=aA mR _ _ TY;replace ka6:=aA mR _ _ ka6;replace QA:=aA mR _ _ QA;replace TW:=aA mR _ _ TW;replace TU:=aA mR _ _ TU;replace kb3:=aA mR _ _ kb3;replace kb4:=aA mR _ _ kb4;replace kb5:=aA mR _ _ kb5;replace TT:=aA mR _ _ TT;obtain ⟨u0,x0⟩:=hex 0 (by omega);obtain ⟨u1,x1⟩:=hex 1 (by omega);obtain ⟨u2,x2⟩:=hex 2 (by omega);obtain ⟨u3,x3'⟩:=hex 3 (by omega);obtain ⟨u4,x4⟩:=hex 4 (by omega);obtain ⟨u5,x5⟩:=hex 5 (by omega);obtain ⟨u6,x6⟩:=hex 6 (by omega);rw [Nat.add_zero] at x0;have HcP:=aB (λ(w':World) (hb:Below w8.heap.size w8 w')=>K3 (w:=w') Hq.out yA.out.1.gd Ha.out.2.gd (HF7.out.below (aC mR hb)) (HB7.out.below (aC mR hb)) (HN7.out.below (aC mR hb)));have HcW:=aB (λ(w':World) (hb:Below w8.heap.size w8 w') (t1:Option Addr) (t3:Nat)=>aD7 (yn,((yv,yi),yk),((bB,bH),aZ)) e1 f1 t1 (Fo.len yk) e3 (Fo.len aZ) f3 (Fo.len pk) t3 pv pi pk gy w' (HY7.out.below (aC mR hb)));simp only at HcP HcW;have Hb8:=aB mR;have Hfx:=aB hfx;have aG:Below w8.heap.size w8 w8.drew:=(Below.refl _ _).drew;clear hO8 hex dI mR hfx
            go_upto_region 13 with fail
            go_region_held3 (λw'=>w'.cell? ⟨gb,0,none⟩=some (.bool yv)/\w'.cell? ⟨gb,1,none⟩=some (.int .i64 yi)/\w'.cell? ⟨gb,2,none⟩=some (.slice e1 (Fo.len yk) e3)/\w'.cell? ⟨gb,6,none⟩=some (.func (.func 145) #[] #[.pointer (some ⟨gy,0,none⟩)])/\w'.cell? ⟨ga,3,none⟩=some (.bool kL)/\w'.cell? ⟨ga,4,none⟩=some (.int .i64 kN)/\w'.cell? ⟨ga,5,none⟩=some (.slice d1 (Fo.len kM) d3))
             (first
               |(with_reducible exact ⟨aA aG _ _ QA,aA aG _ _ TW,aA aG _ _ TU,aA aG _ _ TT,aA aG _ _ T9,aA aG _ _ TZ,aA aG _ _ TY⟩)
               |(with_reducible exact ⟨fH hne1 (aA aG _ _ QA),fH hne1 (aA aG _ _ TW),fH hne1 (aA aG _ _ TU),fH hne1 (aA aG _ _ TT),fH hne2 (aA aG _ _ T9),fH hne2 (aA aG _ _ TZ),fH hne2 (aA aG _ _ TY)⟩)
               |go_keep)
             (first
               |(go_at_call 150;with_reducible refine (HcP.out _ aG).mono ?_;rintro e wS ⟨q1,q3,rfl,hSP,hbS⟩;have qJ:=aG;replace aG:=aC aG hbS;have HSP:=aB hSP;clear hSP)
               |(go_at_call 145;with_reducible refine (HcW.out _ aG _ _).mono ?_;rintro e wU ⟨rfl,xZ⟩;replace aG:=aC aG xZ;replace x0:=aA aG _ _ x0;replace x1:=aA aG _ _ x1;replace x2:=aA aG _ _ x2;replace x3':=aA aG _ _ x3';replace x4:=aA aG _ _ x4;replace x5:=aA aG _ _ x5;replace x6:=aA aG _ _ x6;have hfU:∀i,wU.frozen? ⟨gx,i,none⟩=false:=λi=>(aG.frozen (p:=⟨gx,i,none⟩) hgx2).trans (Hfx.out i)))
            all_goals
             generalize aGO:(((((((wU.setCell ⟨gx,j*7,none⟩ (.bool yn)).setCell ⟨gx,j*7+1,none⟩ (.bool pv)).setCell ⟨gx,j*7+2,none⟩ (.int .i64 pi)).setCell ⟨gx,j*7+3,none⟩ (.slice q1 (Fo.len pk) q3)).setCell ⟨gx,j*7+4,none⟩ (.bool bB)).setCell ⟨gx,j*7+5,none⟩ (.int .i64 bH)).setCell ⟨gx,j*7+6,none⟩ ((.slice f1 (Fo.len aZ) f3)))=w13;have e13:w13=mW wU gx (j*7) (jT (yn,((pv,pi),pk),((bB,bH),aZ)) (.slice q1 (Fo.len pk) q3) (.slice f1 (Fo.len aZ) f3)):=aGO.symm;have QN:=aC Hb8.out aG;have MM:Below w7.heap.size w7 w13:=by rw [e13];exact gW aOJ QN
             have hs8:gx<w8.heap.size:=hgx2;have hsU:=aG.size;have hsS:wS.heap.size<=wU.heap.size:=xZ.size;have HOU:lD w7.heap.size (λq=>q<wU.heap.size/\q≠gx) wU d (.slice (some ⟨gx,0,none⟩) d.length x3) nd:=by have h:=HO8.out.below aG;exact ⟨h.row,h.cells.frame (λq hq=>⟨(h.off q hq).1,by omega⟩) (λ_ _ _=>rfl),λq hq=>⟨hq.1,λe=>hq.2 (by simpa [Value.ownBlock] using e)⟩⟩
             have aHB:SB (λq=>q<wU.heap.size/\q≠gx) wU pk (.slice q1 (Fo.len pk) q3):=(HSP.out.grow (λq hq=>hq.2) xZ).frame (λq hq=>by have h1:w8.heap.size<=q:=Nat.le_trans qJ.size hq.1;have h2:q<wS.heap.size:=hq.2;exact ⟨by omega,by omega⟩) (λ_ _ _=>rfl)
             have aHA:SB (λq=>q<wU.heap.size/\q≠gx) wU aZ (.slice f1 (Fo.len aZ) f3):=(HS7.out.toB.grow (λ_ h=>h) QN).frame (λq hq=>by have h2:w7.heap.size<=wU.heap.size:=QN.size;exact ⟨by omega,by omega⟩) (λ_ _ _=>rfl)
             have hset:=(aC0 HOU (g:=gx) rfl (j:=j) hjl (l:=(yn,((pv,pi),pk),((bB,bH),aZ))) (a:=(.slice q1 (Fo.len pk) q3)) (d:=(.slice f1 (Fo.len aZ) f3)) aHB aHA).1;rw [←e13] at hset;have aPM:=aB (HR7.out.below MM);have QO:Below w13.heap.size w13 (w13.alloc (.cells #[.slice xS (jM c i).length rw3,.slice (some ⟨gx,0,none⟩) d.length x3] 44)):=aD _ _;have MG:=aB (tY (jM c i) (d.set j (yn,((pv,pi),pk),((bB,bH),aZ))) (.slice xS (jM c i).length rw3) (.slice (some ⟨gx,0,none⟩) d.length x3) w13.heap.size 0 2 _ (aPM.out.below QO) (hset.below QO) (aF rfl) (aF rfl) (by rw [List.length_set];omega));have aPF:=aB (aC MM QO);clear aGO e13 x0 x1 x2 x3' x4 x5 x6 hfU HOU aHB aHA hset QO MM QN xZ aG qJ ZF ka1 ka2 T9 TZ TY ka6 QA TW TU kb3 kb4 kb5 TT HcP HcW
             go_wp2_with fail
             with_reducible refine MG.out.mono ?_
             rintro e w15 ⟨dv',rfl,hCC,aGZ⟩;have IL:=aC aPF.out aGZ;have aHC:=aB (HK7.out.below IL);have UC:=aB (A9 aHC.out.L (HV.out.below IL) hCC Ha.out.1 Hgz.out ZN.out (λl hl=>by
              rcases List.mem_append.1 hl with hl|hl
              · exact (Hc.out l (mK hl)).x
              · rcases List.mem_or_eq_of_mem_set hl with hl|hl
                · exact (Hd.out l hl).x
                · rw [hl];have h1:=Hgp.out;rw [Hq.out] at h1;exact ⟨⟨h1.1,Nat.le_trans h1.2 (Nat.add_le_add yA.out.1.sz Ha.out.2.sz)⟩,⟨yA.out.2.gd,Nat.le_trans yA.out.2.sz (by decide)⟩⟩) (by rw [List.length_append,List.length_set];omega) aO9.out)
             clear hCC aGZ IL MG
             go_wp2_with fail
             refine UC.out.mono ?_;rintro e w16 hpost;obtain ⟨v4,xs4,hK4⟩:=aHC.out.add hpost;obtain ⟨rfl,-⟩:=hpost;have dC:Hid (LK lo p wP v2 (lH (oQ U c i (an,((av,ai),ak),((kL,kN),kM)) d j (yn,((yv,yi),yk),((bB,bH),aZ)) false) st2 Z (t+1)) v4 xs4 w16):=by rw [Hid,aG6.out,Hsm.out,Hmt.out,aDZ.out];exact hK4
             clear hK4 UC
             go_wp2_with fail
             go_roundw
             case rel=>exact ⟨t+1,v4,xs4,by omega,by go_num,dC.out⟩
             case measure=>simp [intOf];omega
        · have hte:t=Z.length:=by omega
          subst hte;have dC:Hid (LK lo p w5 v' (bF (uM U c i (an,((av,ai),ak),((kL,kN),kM)) d j (yn,((yv,yi),yk),((bB,bH),aZ))) F5 (0+1)) v3 Y3 wr):=by rw [Hid,Hsz.out];exact HKP.out.trans HK3.out
          go_wp2_with fail
          go_roundw
          case rel=>exact ⟨0+1,v3,Y3,by omega,by go_num,dC.out⟩
          case measure=>simp [intOf]
     · have xR:=aB (QK.out.kpt ZB.out);have yA:Hid (l9 (yn,((bB,bH),aZ),((yv,yi),yk))):=uS.out.symm;have hix:∀w',(Instr.index 141 (UT (yn,((yv,yi),yk),((bB,bH),aZ)) (.slice e1 (Fo.len yk) e3) (.slice f1 (Fo.len aZ) f3) gy) (.int .i64 1)).run Tryz.prog w'= .ok (ZR (yn,((bB,bH),aZ),((yv,yi),yk)) (.slice f1 (Fo.len aZ) f3) (.slice e1 (Fo.len yk) e3) (.func (.func 146) #[] #[.pointer (some ⟨gy,0,none⟩)])) w':=λw'=>G8 (yn,((yv,yi),yk),((bB,bH),aZ)) _ _ gy 1 (by omega) w';have Hsd:Hid (bF (uM U c i (an,((av,ai),ak),((kL,kN),kM)) d j (yn,((yv,yi),yk),((bB,bH),aZ))) F5 (1+1)=(dJ (bB,bH) aZ []).foldl (oQ U c i (an,((av,ai),ak),((kL,kN),kM)) d j (yn,((bB,bH),aZ),((yv,yi),yk)) true) (bF (uM U c i (an,((av,ai),ak),((kL,kN),kM)) d j (yn,((yv,yi),yk),((bB,bH),aZ))) F5 1)):=fV _ _ _;have C8:Hid ((bF (uM U c i (an,((av,ai),ak),((kL,kN),kM)) d j (yn,((yv,yi),yk),((bB,bH),aZ))) F5 1).1.length<=st.1.length+200):=by
        have:=eX (m:=12) (JJ (U:=U) (c:=c) (i:=i) (a:=(an,((av,ai),ak),((kL,kN),kM))) (d:=d) (j:=j) uS.out) F5 1;have:=jP.out;rw [Hid];omega
       generalize bF (uM U c i (an,((av,ai),ak),((kL,kN),kM)) d j (yn,((yv,yi),yk),((bB,bH),aZ))) F5 1=st2 at*
       go_upto_region 7 with fail
       generalize ZJ:wr.alloc (.cells #[.bool bB,.int .i64 bH,.slice f1 (Fo.len aZ) f3,.bool yv,.int .i64 yi,.slice e1 (Fo.len yk) e3,.func (.func 146) #[] #[.pointer (some ⟨gy,0,none⟩)]] 140)=W6;have hb6:Below wr.heap.size wr W6:=by rw [←ZJ];exact aD _ _
       have sV:Hid (bT W6 wr.heap.size [.bool bB,.int .i64 bH,.slice f1 (Fo.len aZ) f3,.bool yv,.int .i64 yi,.slice e1 (Fo.len yk) e3,.func (.func 146) #[] #[.pointer (some ⟨gy,0,none⟩)]]):=by rw [Hid,←ZJ];exact bT.new wr #[.bool bB,.int .i64 bH,.slice f1 (Fo.len aZ) f3,.bool yv,.int .i64 yi,.slice e1 (Fo.len yk) e3,.func (.func 146) #[] #[.pointer (some ⟨gy,0,none⟩)]] 140
       clear ZJ hix;have HK6:=aB (QK.out.below hb6);have HL6:=aB HK6.out.L;have HF6:=aB ((xR.out.sin HG5.out).below hb6);have b0:W6.cell? ⟨wr.heap.size,0,none⟩=some (.bool bB):=sV.out 0 _ rfl;have b1:W6.cell? ⟨wr.heap.size,1,none⟩=some (.int .i64 bH):=sV.out 1 _ rfl;have b2:W6.cell? ⟨wr.heap.size,2,none⟩=some (.slice f1 (Fo.len aZ) f3):=sV.out 2 _ rfl;have b3:W6.cell? ⟨wr.heap.size,3,none⟩=some (.bool yv):=sV.out 3 _ rfl;have b4:W6.cell? ⟨wr.heap.size,4,none⟩=some (.int .i64 yi):=sV.out 4 _ rfl;have b5:W6.cell? ⟨wr.heap.size,5,none⟩=some (.slice e1 (Fo.len yk) e3):=sV.out 5 _ rfl;have b6:W6.cell? ⟨wr.heap.size,6,none⟩=some (.func (.func 146) #[] #[.pointer (some ⟨gy,0,none⟩)]):=sV.out 6 _ rfl;obtain ⟨Z,hZ⟩:∃Z,Z=dJ (bB,bH) aZ []:=⟨_,rfl⟩;have HZ:=aB hZ;have aPH:Hid (Z.length<=12):=by rw [Hid,hZ];exact EK yA.out.1
       have Hpc:=aB (CB (w:=W6) hZ HF6.out yA.out.1.sz);clear hZ
       go_wp2_with fail
       refine Hpc.out.mono ?_;rintro e wP ⟨z1,z3,rfl,hP,hbP⟩;have Z0:=aC hb6 hbP;have HKP:=aB (QK.out.below Z0);have HLP:=aB HKP.out.L;have uZ:=aB (xR.out.trans (kT Z0));have aPJ:=aB (sV.out.below hbP);have aPK:=aB (HXa.out.kpt uZ.out);have aPI:=aB (HYr.out.kpt uZ.out);have HEP:=aB (uZ.out.sin HE5.out);have HGP:=aB (uZ.out.sin HG5.out);have HRP:=aB (uZ.out.cin HR5.out);have HDP:=aB (uZ.out.cin HD5.out);have HAP:=aB (uZ.out.sin HA5.out);have HBP:=aB (uZ.out.sin GA.out);have HP:=aB hP;have Hsz:Hid (bF (uM U c i (an,((av,ai),ak),((kL,kN),kM)) d j (yn,((yv,yi),yk),((bB,bH),aZ))) F5 (1+1)=lH (oQ U c i (an,((av,ai),ak),((kL,kN),kM)) d j (yn,((bB,bH),aZ),((yv,yi),yk)) true) st2 Z Z.length):=by rw [Hid,Hsd.out,lH,List.take_length,HZ.out]
       clear hP hbP hb6 Z0 Hpc Hsd b0 b1 b2 b3 b4 b5 b6 sV HF6 xR QK
       go_wp2_with fail
       generalize hgb:wr.heap.size=gb at*;generalize wr=wo2 at*
       go_loopw [33] (λq wr=>∃(t:Nat) (v3:Value) (Y3:List Value),t<=Z.length/\q= .int .i64 t/\LK lo p wP v2 (lH (oQ U c i (an,((av,ai),ak),((kL,kN),kM)) d j (yn,((bB,bH),aZ),((yv,yi),yk)) true) st2 Z t) v3 Y3 wr) (λq _=>Z.length - (intOf q).toNat)
       case atStart=>exact ⟨0,v2,uT,Nat.zero_le _,rfl,LK.start HLP.out⟩
       case round=>
        obtain ⟨t,v3,Y3,ht,rfl,hK3⟩:=hrel;have HK3:=aB hK3;have aO9:Hid ((lH (oQ U c i (an,((av,ai),ak),((kL,kN),kM)) d j (yn,((bB,bH),aZ),((yv,yi),yk)) true) st2 Z t).1.length<=1000000):=by
         have h1:=xD (JI U c i (an,((av,ai),ak),((kL,kN),kM)) d j (yn,((bB,bH),aZ),((yv,yi),yk)) true) (Z.take t) st2;have h2:=C8.out;have h3:=aPH.out;have h4:=Hn.out;have h5:(Z.take t).length<=Z.length:=by rw [List.length_take];omega
         unfold Hid lH;omega
        clear hK3;by_cases htl:t<Z.length
        · have aQL:(t:Int)<(Z.length:Int):=by omega
          have u7:=aB (HK3.out.kpt HLP.out);obtain ⟨pl,hpl⟩:∃q,Z[t]?=some q:=⟨Z[t]'htl,by simp⟩;have Hpl:=aB hpl;obtain ⟨zat,aGN,hzv⟩:=OT (x:=(bB,bH)) (k:=aZ) (p:=pl) (by rw [←HZ.out];exact List.mem_of_getElem? hpl);have QS:=aB aGN
          obtain ⟨z1',z3',gp,hpe,aGS,aGR,UH,QB⟩:=HK3.out.places HL6.out HP.out;simp only [Value.slice.injEq,true_and] at hpe;obtain ⟨rfl,rfl⟩:=hpe;obtain ⟨py,c0,hrow⟩:=QB t pl hpl;have hz1:z1=some ⟨gp,0,none⟩:=(aGS (by omega)).1;subst hz1;have HNp:=aB (mJ hrow);obtain ⟨y1,y3,rfl⟩:=dR HNp.out;unfold maxLen at UH;have aG6:=aB (LJ (f:=(oQ U c i (an,((av,ai),ak),((kL,kN),kM)) d j (yn,((bB,bH),aZ),((yv,yi),yk)) true)) (s:=st2) hpl);have vD:=aB (aPK.out.kpt u7.out);have vC:=aB (aPJ.out.kpt u7.out);have Hsm:=aB (OC U c i (an,((av,ai),ak),((kL,kN),kM)) d j (yn,((bB,bH),aZ),((yv,yi),yk)) true (lH (oQ U c i (an,((av,ai),ak),((kL,kN),kM)) d j (yn,((bB,bH),aZ),((yv,yi),yk)) true) st2 Z t) pl);generalize lH (oQ U c i (an,((av,ai),ak),((kL,kN),kM)) d j (yn,((bB,bH),aZ),((yv,yi),yk)) true) st2 Z t=stt at*;have Hme:=aB (WI (U:=U) HU.out (an,((av,ai),ak),((kL,kN),kM)) (yn,((bB,bH),aZ),((yv,yi),yk)) a1 d1 f1 e1 a3 d3 f3 e3 (.func (.func fn) #[] #[.pointer (some ⟨g0,0,none⟩)]) (.func (.func 146) #[] #[.pointer (some ⟨gy,0,none⟩)]) pl y1 pl.length y3 zat wr (u7.out.sin HAP.out) (u7.out.sin HBP.out) (u7.out.sin HGP.out) (u7.out.sin HEP.out) HNp.out QS.out Ha.out yA.out);simp only at Hme;clear hpl aGN hzv QB aGS hrow;have ZF:wr.cell? ⟨ga,0,none⟩=some (.bool av):=vD.out 0 _ rfl;have ka1:wr.cell? ⟨ga,1,none⟩=some (.int .i64 ai):=vD.out 1 _ rfl;have ka2:wr.cell? ⟨ga,2,none⟩=some (.slice a1 (Fo.len ak) a3):=vD.out 2 _ rfl;have T9:wr.cell? ⟨ga,3,none⟩=some (.bool kL):=vD.out 3 _ rfl;have TZ:wr.cell? ⟨ga,4,none⟩=some (.int .i64 kN):=vD.out 4 _ rfl;have TY:wr.cell? ⟨ga,5,none⟩=some (.slice d1 (Fo.len kM) d3):=vD.out 5 _ rfl;have ka6:wr.cell? ⟨ga,6,none⟩=some (.func (.func fn) #[] #[.pointer (some ⟨g0,0,none⟩)]):=vD.out 6 _ rfl;have QA:wr.cell? ⟨gb,0,none⟩=some (.bool bB):=vC.out 0 _ rfl;have TW:wr.cell? ⟨gb,1,none⟩=some (.int .i64 bH):=vC.out 1 _ rfl;have TU:wr.cell? ⟨gb,2,none⟩=some (.slice f1 (Fo.len aZ) f3):=vC.out 2 _ rfl;have kb3:wr.cell? ⟨gb,3,none⟩=some (.bool yv):=vC.out 3 _ rfl;have kb4:wr.cell? ⟨gb,4,none⟩=some (.int .i64 yi):=vC.out 4 _ rfl;have kb5:wr.cell? ⟨gb,5,none⟩=some (.slice e1 (Fo.len yk) e3):=vC.out 5 _ rfl;have TT:wr.cell? ⟨gb,6,none⟩=some (.func (.func 146) #[] #[.pointer (some ⟨gy,0,none⟩)]):=vC.out 6 _ rfl
          go_wp2_with fail
          refine Hme.out.mono ?_;rintro e w7 ⟨iJ,z5,mm,z6,ok,rfl,hno,fG⟩;have HK7:=aB (HK3.out.below iJ);have xQ:=aB (u7.out.trans (kT iJ));have HN7:=aB (HNp.out.below iJ);replace ZF:=aA iJ _ _ ZF;replace ka1:=aA iJ _ _ ka1;replace ka2:=aA iJ _ _ ka2;replace T9:=aA iJ _ _ T9;replace TZ:=aA iJ _ _ TZ;replace TY:=aA iJ _ _ TY;replace ka6:=aA iJ _ _ ka6;replace QA:=aA iJ _ _ QA;replace TW:=aA iJ _ _ TW;replace TU:=aA iJ _ _ TU;replace kb3:=aA iJ _ _ kb3;replace kb4:=aA iJ _ _ kb4;replace kb5:=aA iJ _ _ kb5;replace TT:=aA iJ _ _ TT;clear Hme iJ HNp vD vC u7 HK3;cases ok
          · have dC:Hid (LK lo p wP v2 (lH (oQ U c i (an,((av,ai),ak),((kL,kN),kM)) d j (yn,((bB,bH),aZ),((yv,yi),yk)) true) st2 Z (t+1)) v3 Y3 w7):=by
             have:=HK7.out;rw [Hid,aG6.out,Hsm.out,(hno rfl).1];exact this
            clear hno fG ZF ka1 ka2 T9 TZ TY ka6 QA TW TU kb3 kb4 kb5 TT c0
            go_wp2_with fail
            go_roundw
            case rel=>exact ⟨t+1,v3,Y3,by omega,by go_num,dC.out⟩
            case measure=>simp [intOf];omega
          · obtain ⟨s',hmt,rfl,hSub⟩:=fG rfl;have HV:=aB hSub;have Hmt:=aB hmt;have Hgz:=aB (yA.out.1.at QS.out);obtain ⟨n,hnn⟩:=HU.out _ _ (Ha.out.1.ui Hgz.out);rw [O1 QS.out hmt] at hnn;have ZN:=aB hnn;obtain ⟨⟨⟨pv,pi⟩,pk⟩,hq⟩:∃q,dM pl ((bB,bH),aZ) ((kL,kN),kM)=q:=⟨_,rfl⟩;have Hq:=aB hq;have Hgp:=aB (IX Ha.out.2.gd yA.out.1.gd QS.out);have aDZ:Hid (aL true (yn,dM pl ((bB,bH),aZ) ((kL,kN),kM),((yv,yi),yk))=(yn,((yv,yi),yk),((pv,pi),pk))):=by rw [Hid,hq];rfl
            have HF7:=aB (xQ.out.sin HGP.out);have HS7:=aB (xQ.out.sin HEP.out);have HB7:=aB (xQ.out.sin HBP.out);have HR7:=aB (xQ.out.cin HRP.out);have HY7:=aB (aPI.out.kpt xQ.out);have dI:=aB (LU d _ w7 (xQ.out.cin HDP.out) (by omega));have aTN:ga<w7.heap.size:=World.block_lt_of_cell? _ _ ZF;have aTM:gb<w7.heap.size:=World.block_lt_of_cell? _ _ QA;clear hno fG hSub hmt hnn hq c0
            go_wp2_with fail
            refine dI.out.mono ?_;rintro e w8 ⟨cv,nd,rfl,hO8,mR⟩;obtain ⟨gx,x3,rfl,aOJ,hgx2,hfx⟩:=aHT hO8.row (by omega);have hex:=OY hO8 (g:=gx) rfl hjl;have HO8:=aB hO8;have hne1:gb≠gx:=by omega
            have hne2:ga≠gx:=by omega
            replace ZF:=aA mR _ _ ZF;replace ka1:=aA mR _ _ ka1;replace ka2:=aA mR _ _ ka2;replace T9:=aA mR _ _ T9;replace TZ:=aA mR _ _ TZ;replace TY:=aA mR _ _ TY;replace ka6:=aA mR _ _ ka6;replace QA:=aA mR _ _ QA;replace TW:=aA mR _ _ TW;replace TU:=aA mR _ _ TU;replace kb3:=aA mR _ _ kb3;replace kb4:=aA mR _ _ kb4;replace kb5:=aA mR _ _ kb5;replace TT:=aA mR _ _ TT;obtain ⟨u0,x0⟩:=hex 0 (by omega);obtain ⟨u1,x1⟩:=hex 1 (by omega);obtain ⟨u2,x2⟩:=hex 2 (by omega);obtain ⟨u3,x3'⟩:=hex 3 (by omega);obtain ⟨u4,x4⟩:=hex 4 (by omega);obtain ⟨u5,x5⟩:=hex 5 (by omega);obtain ⟨u6,x6⟩:=hex 6 (by omega);rw [Nat.add_zero] at x0;have HcP:=aB (λ(w':World) (hb:Below w8.heap.size w8 w')=>K3 (w:=w') Hq.out yA.out.1.gd Ha.out.2.gd (HF7.out.below (aC mR hb)) (HB7.out.below (aC mR hb)) (HN7.out.below (aC mR hb)));have HcW:=aB (λ(w':World) (hb:Below w8.heap.size w8 w') (t1:Option Addr) (t3:Nat)=>aD6 (yn,((yv,yi),yk),((bB,bH),aZ)) e1 f1 t1 (Fo.len yk) e3 (Fo.len aZ) f3 (Fo.len pk) t3 pv pi pk gy w' (HY7.out.below (aC mR hb)));simp only at HcP HcW;have Hb8:=aB mR;have Hfx:=aB hfx;have aG:Below w8.heap.size w8 w8.drew:=(Below.refl _ _).drew;clear hO8 hex dI mR hfx
            go_upto_region 13 with fail
            go_region_held3 (λw'=>w'.cell? ⟨gb,0,none⟩=some (.bool bB)/\w'.cell? ⟨gb,1,none⟩=some (.int .i64 bH)/\w'.cell? ⟨gb,2,none⟩=some (.slice f1 (Fo.len aZ) f3)/\w'.cell? ⟨gb,6,none⟩=some (.func (.func 146) #[] #[.pointer (some ⟨gy,0,none⟩)])/\w'.cell? ⟨ga,3,none⟩=some (.bool kL)/\w'.cell? ⟨ga,4,none⟩=some (.int .i64 kN)/\w'.cell? ⟨ga,5,none⟩=some (.slice d1 (Fo.len kM) d3))
             (first
               |(with_reducible exact ⟨aA aG _ _ QA,aA aG _ _ TW,aA aG _ _ TU,aA aG _ _ TT,aA aG _ _ T9,aA aG _ _ TZ,aA aG _ _ TY⟩)
               |(with_reducible exact ⟨fH hne1 (aA aG _ _ QA),fH hne1 (aA aG _ _ TW),fH hne1 (aA aG _ _ TU),fH hne1 (aA aG _ _ TT),fH hne2 (aA aG _ _ T9),fH hne2 (aA aG _ _ TZ),fH hne2 (aA aG _ _ TY)⟩)
               |go_keep)
             (first
               |(go_at_call 150;with_reducible refine (HcP.out _ aG).mono ?_;rintro e wS ⟨q1,q3,rfl,hSP,hbS⟩;have qJ:=aG;replace aG:=aC aG hbS;have HSP:=aB hSP;clear hSP)
               |(go_at_call 146;with_reducible refine (HcW.out _ aG _ _).mono ?_;rintro e wU ⟨rfl,xZ⟩;replace aG:=aC aG xZ;replace x0:=aA aG _ _ x0;replace x1:=aA aG _ _ x1;replace x2:=aA aG _ _ x2;replace x3':=aA aG _ _ x3';replace x4:=aA aG _ _ x4;replace x5:=aA aG _ _ x5;replace x6:=aA aG _ _ x6;have hfU:∀i,wU.frozen? ⟨gx,i,none⟩=false:=λi=>(aG.frozen (p:=⟨gx,i,none⟩) hgx2).trans (Hfx.out i)))
            all_goals
             generalize aGO:(((((((wU.setCell ⟨gx,j*7,none⟩ (.bool yn)).setCell ⟨gx,j*7+1,none⟩ (.bool yv)).setCell ⟨gx,j*7+2,none⟩ (.int .i64 yi)).setCell ⟨gx,j*7+3,none⟩ (.slice e1 (Fo.len yk) e3)).setCell ⟨gx,j*7+4,none⟩ (.bool pv)).setCell ⟨gx,j*7+5,none⟩ (.int .i64 pi)).setCell ⟨gx,j*7+6,none⟩ ((.slice q1 (Fo.len pk) q3)))=w13;have e13:w13=mW wU gx (j*7) (jT (yn,((yv,yi),yk),((pv,pi),pk)) (.slice e1 (Fo.len yk) e3) (.slice q1 (Fo.len pk) q3)):=aGO.symm;have QN:=aC Hb8.out aG;have MM:Below w7.heap.size w7 w13:=by rw [e13];exact gW aOJ QN
             have hs8:gx<w8.heap.size:=hgx2;have hsU:=aG.size;have hsS:wS.heap.size<=wU.heap.size:=xZ.size;have HOU:lD w7.heap.size (λq=>q<wU.heap.size/\q≠gx) wU d (.slice (some ⟨gx,0,none⟩) d.length x3) nd:=by have h:=HO8.out.below aG;exact ⟨h.row,h.cells.frame (λq hq=>⟨(h.off q hq).1,by omega⟩) (λ_ _ _=>rfl),λq hq=>⟨hq.1,λe=>hq.2 (by simpa [Value.ownBlock] using e)⟩⟩
             have aHB:SB (λq=>q<wU.heap.size/\q≠gx) wU pk (.slice q1 (Fo.len pk) q3):=(HSP.out.grow (λq hq=>hq.2) xZ).frame (λq hq=>by have h1:w8.heap.size<=q:=Nat.le_trans qJ.size hq.1;have h2:q<wS.heap.size:=hq.2;exact ⟨by omega,by omega⟩) (λ_ _ _=>rfl)
             have aHA:SB (λq=>q<wU.heap.size/\q≠gx) wU yk (.slice e1 (Fo.len yk) e3):=(HS7.out.toB.grow (λ_ h=>h) QN).frame (λq hq=>by have h2:w7.heap.size<=wU.heap.size:=QN.size;exact ⟨by omega,by omega⟩) (λ_ _ _=>rfl)
             have hset:=(aC0 HOU (g:=gx) rfl (j:=j) hjl (l:=(yn,((yv,yi),yk),((pv,pi),pk))) (a:=(.slice e1 (Fo.len yk) e3)) (d:=(.slice q1 (Fo.len pk) q3)) aHA aHB).1;rw [←e13] at hset;have aPM:=aB (HR7.out.below MM);have QO:Below w13.heap.size w13 (w13.alloc (.cells #[.slice xS (jM c i).length rw3,.slice (some ⟨gx,0,none⟩) d.length x3] 44)):=aD _ _;have MG:=aB (tY (jM c i) (d.set j (yn,((yv,yi),yk),((pv,pi),pk))) (.slice xS (jM c i).length rw3) (.slice (some ⟨gx,0,none⟩) d.length x3) w13.heap.size 0 2 _ (aPM.out.below QO) (hset.below QO) (aF rfl) (aF rfl) (by rw [List.length_set];omega));have aPF:=aB (aC MM QO);clear aGO e13 x0 x1 x2 x3' x4 x5 x6 hfU HOU aHB aHA hset QO MM QN xZ aG qJ ZF ka1 ka2 T9 TZ TY ka6 QA TW TU kb3 kb4 kb5 TT HcP HcW
             go_wp2_with fail
             with_reducible refine MG.out.mono ?_
             rintro e w15 ⟨dv',rfl,hCC,aGZ⟩;have IL:=aC aPF.out aGZ;have aHC:=aB (HK7.out.below IL);have UC:=aB (A9 aHC.out.L (HV.out.below IL) hCC Ha.out.1 Hgz.out ZN.out (λl hl=>by
              rcases List.mem_append.1 hl with hl|hl
              · exact (Hc.out l (mK hl)).x
              · rcases List.mem_or_eq_of_mem_set hl with hl|hl
                · exact (Hd.out l hl).x
                · rw [hl];have h1:=Hgp.out;rw [Hq.out] at h1;exact ⟨⟨yA.out.2.gd,Nat.le_trans yA.out.2.sz (by decide)⟩,⟨h1.1,Nat.le_trans h1.2 (Nat.add_le_add yA.out.1.sz Ha.out.2.sz)⟩⟩) (by rw [List.length_append,List.length_set];omega) aO9.out)
             clear hCC aGZ IL MG
             go_wp2_with fail
             refine UC.out.mono ?_;rintro e w16 hpost;obtain ⟨v4,xs4,hK4⟩:=aHC.out.add hpost;obtain ⟨rfl,-⟩:=hpost;have dC:Hid (LK lo p wP v2 (lH (oQ U c i (an,((av,ai),ak),((kL,kN),kM)) d j (yn,((bB,bH),aZ),((yv,yi),yk)) true) st2 Z (t+1)) v4 xs4 w16):=by rw [Hid,aG6.out,Hsm.out,Hmt.out,aDZ.out];exact hK4
             clear hK4 UC
             go_wp2_with fail
             go_roundw
             case rel=>exact ⟨t+1,v4,xs4,by omega,by go_num,dC.out⟩
             case measure=>simp [intOf];omega
        · have hte:t=Z.length:=by omega
          subst hte;have dC:Hid (LK lo p w5 v' (bF (uM U c i (an,((av,ai),ak),((kL,kN),kM)) d j (yn,((yv,yi),yk),((bB,bH),aZ))) F5 (1+1)) v3 Y3 wr):=by rw [Hid,Hsz.out];exact HKP.out.trans HK3.out
          go_wp2_with fail
          go_roundw
          case rel=>exact ⟨1+1,v3,Y3,by omega,by go_num,dC.out⟩
          case measure=>simp [intOf]
     · have dC:Hid (LK lo p W1 v (bF (uV U c i (an,((av,ai),ak),((kL,kN),kM)) d) st (j+1)) v2 uT wr):=by
        rw [Hid,Hsj.out,Hfj.out];exact HK5.out.trans QK.out
       go_wp2_with fail
       go_roundw
       case rel=>exact ⟨j+1,v2,uT,by omega,by go_num,dC.out⟩
       case measure=>simp [intOf];omega
  · have lK:j=d.length:=by omega
    subst lK;have dC:Hid (LK lo p w v (bF (uV U c i (an,((av,ai),ak),((kL,kN),kM)) d) st d.length) v' xs' wr):=HLK.out.trans HK.out
    go_wp2_with fail
    go_end0
    exact ⟨rfl,v',xs',dC.out⟩
end
theorem PR (d:Int) (bb:Nat) (x:Bool×Int) (k:Fo) (a:Value) (w:World) (h:MQ d bb w) (hS:cO w k a) (hn:jD (x,k)):
  Calls Tryz.prog 143 #[.agg #[.bool x.1,.int .i64 x.2,a],.pointer (some ⟨bb,0,none⟩)] w λe w'=>∃a',e= .returned (.agg #[.bool (aH (j5 d) (x,k)).1.1,.int .i64 (aH (j5 d) (x,k)).1.2,a'])/\dK w' w.heap.size w'.heap.size (aH (j5 d) (x,k)).2 a'/\Below w.heap.size w w':=by
 obtain ⟨xv,xn⟩:=x;have HS:=aB hS;have HI:=aB h;obtain ⟨ad,c,_,_,rfl,-,-,-,-⟩:=hS;have hc:w.cell? ⟨bb,0,none⟩=some (.int .i64 d):=h;clear h;have hpb:bb<w.heap.size:=World.block_lt_of_cell? _ _ hc;have hc':((w.alloc (.cells #[.bool xv,.int .i64 xn,.slice ad (Fo.len k) c] 84)).alloc (.cells #[.bool false,.int .i64 0,.slice none 0 0] 84)).cell? ⟨bb,0,none⟩=some (.int .i64 d):=by rw [World.cell?_alloc_lt _ _ _ (by show bb<_;simp;omega),World.cell?_alloc_lt _ _ _ hpb];exact hc
 go_enter Tryz.func143,Tryz.ntmps143
 go_wp2_with fail
 refine (aA8 d (xv,xn) k _ _ ((HS.out.alloc _).alloc _) hn).mono ?_;rintro e w1 ⟨a',rfl,hO,hb⟩;obtain ⟨⟨⟨tv,tn⟩,tk⟩,ht⟩:∃t,t=aH (j5 d) ((xv,xn),k):=⟨_,rfl⟩;rw [←ht] at hO ⊢;have TK:=hO;obtain ⟨z1,z2,z3,rfl⟩:=bC hO.toS;have hsz:=hb.size;simp only [World.size_alloc] at hsz;have r0:w1.cell? ⟨w.heap.size+1,0,none⟩=some (.bool false):=aA hb _ _ (aF (World.size_alloc _ _));have r1:w1.cell? ⟨w.heap.size+1,1,none⟩=some (.int .i64 0):=aA hb _ _ (aF (World.size_alloc _ _));have r2:w1.cell? ⟨w.heap.size+1,2,none⟩=some (.slice none 0 0):=aA hb _ _ (aF (World.size_alloc _ _));have rf:∀i,w1.frozen? ⟨w.heap.size+1,i,none⟩=false:=λi=>(hb.frozen (by show w.heap.size+1<_;simp)).trans (bL (World.size_alloc _ _));have hB:=aW (aW hb);have HO:Hid (dK w1 (w.heap.size+1+1) w1.heap.size tk (.slice z1 z2 z3)):=by have:=hO;simp only [World.size_alloc] at this;exact this
 have Ht:=aB ht;clear hb hO TK ht hc hc';simp only
 go_wp2_with fail
 refine bodyPost_ret (v:= .agg #[.bool tv,.int .i64 tn,.slice z1 z2 z3]) (by simp [results,Tryz.results143,go_sem,r0,r1,r2]) rfl ⟨.slice z1 z2 z3,by rw [←Ht.out],?_,aT (o:=0) hB (by omega)⟩;rw [←Ht.out];exact aCX HO.out (by omega) (by omega)
theorem aFZ (d:Int) (bb:Nat) (k:Cl) (a:Value) (w:World) (h:MQ d bb w) (hS:dQ w k a) (hn:∀l∈k,jD l.2.1/\jD l.2.2) (hlen:k.length<=1000000):
  Calls Tryz.prog 82 #[a,.func (.func 143) #[] #[.pointer (some ⟨bb,0,none⟩)]] w λe w'=>∃g,e= .returned (.slice (some ⟨g,0,none⟩) k.length k.length)/\dQ w' (k.map (bK (aH (j5 d)))) (.slice (some ⟨g,0,none⟩) k.length k.length)/\Below w.heap.size w w':=by
 obtain ⟨a1,c1,b1,o1,rfl,eZ,uY,hcm1,hF1⟩:=hS;unfold maxLen at hcm1;have zT:=aB hF1;have HI:=aB h;have Hn:=aB hn;clear hF1 h hn;obtain ⟨iL,hi,hz0,hz1,hz2⟩:=info_parts Tryz.info86;have hmk:=λw:World=>run_make (P:=Tryz.prog) w 44 86 iL _ Tryz.underlying44 hi hz0 .i64 .i64 (k.length:Int) (k.length:Int) (by omega) (by omega) (by rw [hz2];omega) (by omega);rw [hz1] at hmk;simp only [Int.toNat_natCast] at hmk;go_enter Tryz.func82,Tryz.ntmps82
 go_wp2_with fail
 clear hmk hi hz0 hz1 hz2;have H0:Hid (mE w.heap.size w (k.map (bK (aH (j5 d)))) 0 (w.alloc (.cells (madeCells #[.bool false,.bool false,.int .i64 0,.slice none 0 0,.bool false,.int .i64 0,.slice none 0 0] (k.length*7)) 86))):=by have:=KA (W2:=w) (T:=k.map (bK (aH (j5 d)))) (z:=#[.bool false,.bool false,.int .i64 0,.slice none 0 0,.bool false,.int .i64 0,.slice none 0 0]);rw [List.length_map] at this;exact this
 go_loopw [13] (λi wr=>∃j:Nat,j<=k.length/\i= .int .i64 j/\mE w.heap.size w (k.map (bK (aH (j5 d)))) j wr) (λi _=>k.length - (intOf i).toNat)
 case atStart=>exact ⟨0,Nat.zero_le _,rfl,H0.out⟩
 case round=>
  obtain ⟨j,hj,rfl,hR⟩:=hrel;have HR:=aB hR;obtain ⟨hB,hT,hsz,-⟩:=hR;have hBw:Below w.heap.size w wr:=hB;by_cases hlt:j<k.length
  · have hlt':(j:Int)<(k.length:Int):=by omega
    have hj0:(0:Int)<=(j:Int):=by omega
    obtain ⟨⟨yn,⟨⟨yv,yi⟩,yk⟩,⟨bB,bH⟩,aZ⟩,hy⟩:∃y,k[j]?=some y:=⟨k[j]'hlt,by simp⟩;obtain ⟨p0,p1,p2,⟨u3,p3,hA⟩,p4,p5,u6,p6,hD⟩:=(zT.out.below hBw).at hy;have ha1:a1=some ⟨b1,o1,none⟩:=eZ (by omega);subst ha1;have HA:=aB hA;have HD:=aB hD;obtain ⟨ya,yc,_,_,rfl,-,-,-,-⟩:=hA;obtain ⟨za,zc,_,_,rfl,-,-,-,-⟩:=hD;have NH:=aB (Hn.out _ (List.mem_of_getElem? hy));obtain ⟨⟨⟨tv,ti⟩,tk⟩,ht⟩:∃t,t=aH (j5 d) ((yv,yi),yk):=⟨_,rfl⟩;obtain ⟨⟨⟨tv',oO⟩,nT⟩,ht'⟩:∃t,t=aH (j5 d) ((bB,bH),aZ):=⟨_,rfl⟩;have Hy2:Hid ((k.map (bK (aH (j5 d))))[j]?=some (yn,((tv,ti),tk),((tv',oO),nT))):=by rw [Hid,List.getElem?_map,hy,ht,ht'];rfl
    have Ht:=aB ht;have Ht':=aB ht';have hT':qL wr w.heap.size (k.length*7):=by rw [List.length_map] at hT;exact hT
    have hfz:∀i,i<7->(∃v,wr.cell? ⟨w.heap.size,j*7+i,none⟩=some v)/\wr.frozen? ⟨w.heap.size,j*7+i,none⟩=false:=λi hi=>hT' _ (by omega);have yB:=aB hfz;clear hy eZ hT hT' ht ht' hfz hB;simp only at*
    go_upto_region 5 with fail
    generalize fA:wr.alloc (.cells #[.bool yn,.bool yv,.int .i64 yi,.slice ya (Fo.len yk) yc,.bool bB,.int .i64 bH,.slice za (Fo.len aZ) zc] 86)=wa;obtain ⟨g0,g1,g2,g3,g4,g5,g6,-,bZ,hsa⟩:=dS (T:=86) (x0:= .bool yn) (w:=wr) (wr:=wa) (x1:= .bool yv) (x2:= .int .i64 yi) (x3:= .slice ya (Fo.len yk) yc) (x4:= .bool bB) (x5:= .int .i64 bH) (x6:= .slice za (Fo.len aZ) zc) (by rw [fA];exact Below.refl _ _);clear fA;have aG:Below wa.heap.size wa wa.drew:=(Below.refl _ _).drew;have IV:∀w':World,Below wa.heap.size wa w'->Calls Tryz.prog 143 #[.agg #[.bool yv,.int .i64 yi,.slice ya (Fo.len yk) yc],.pointer (some ⟨bb,0,none⟩)] w' λe w''=>∃(z1:Option Addr) (z2 z3:Nat),e= .returned (.agg #[.bool tv,.int .i64 ti,.slice z1 z2 z3])/\dK w'' w'.heap.size w''.heap.size tk (.slice z1 z2 z3)/\Below w'.heap.size w' w'':=λw' hb=>by have hb':=aC (aC hBw bZ) hb;refine (PR d bb (yv,yi) yk _ w' (qA d bb HI.out hb') (HA.out.below (aC bZ hb)) NH.out.1).mono ?_;rintro e w2 ⟨a',rfl,hO,hb⟩;rw [←Ht.out] at hO;obtain ⟨z1,z2,z3,rfl⟩:=bC hO.toS;exact ⟨z1,z2,z3,by rw [←Ht.out],hO,hb⟩
    have IU:∀w':World,Below wa.heap.size wa w'->Calls Tryz.prog 143 #[.agg #[.bool bB,.int .i64 bH,.slice za (Fo.len aZ) zc],.pointer (some ⟨bb,0,none⟩)] w' λe w''=>∃(z1:Option Addr) (z2 z3:Nat),e= .returned (.agg #[.bool tv',.int .i64 oO,.slice z1 z2 z3])/\dK w'' w'.heap.size w''.heap.size nT (.slice z1 z2 z3)/\Below w'.heap.size w' w'':=λw' hb=>by have hb':=aC (aC hBw bZ) hb;refine (PR d bb (bB,bH) aZ _ w' (qA d bb HI.out hb') (HD.out.below (aC bZ hb)) NH.out.2).mono ?_;rintro e w2 ⟨a',rfl,hO,hb⟩;rw [←Ht'.out] at hO;obtain ⟨z1,z2,z3,rfl⟩:=bC hO.toS;exact ⟨z1,z2,z3,by rw [←Ht'.out],hO,hb⟩
    have zR:=aB IV;have cZ:=aB IU;clear IV IU p0 p1 p2 p3 p4 p5 p6;have hgz:w.heap.size<wr.heap.size:=by omega
    have hne:wr.heap.size≠w.heap.size:=by omega
    go_region_held3 (λw'=>w'.cell? ⟨wr.heap.size,0,none⟩=some (.bool yn)/\w'.cell? ⟨wr.heap.size,1,none⟩=some (.bool yv)/\w'.cell? ⟨wr.heap.size,2,none⟩=some (.int .i64 yi)/\w'.cell? ⟨wr.heap.size,3,none⟩=some (.slice ya (Fo.len yk) yc)/\w'.cell? ⟨wr.heap.size,4,none⟩=some (.bool bB)/\w'.cell? ⟨wr.heap.size,5,none⟩=some (.int .i64 bH)/\w'.cell? ⟨wr.heap.size,6,none⟩=some (.slice za (Fo.len aZ) zc))
     (first
       |(with_reducible exact ⟨aA aG _ _ g0,aA aG _ _ g1,aA aG _ _ g2,aA aG _ _ g3,aA aG _ _ g4,aA aG _ _ g5,aA aG _ _ g6⟩)
       |(with_reducible exact ⟨fH hne (aA aG _ _ g0),fH hne (aA aG _ _ g1),fH hne (aA aG _ _ g2),fH hne (aA aG _ _ g3),fH hne (aA aG _ _ g4),fH hne (aA aG _ _ g5),fH hne (aA aG _ _ g6)⟩)
       |go_keep)
     (first
       |(go_at_call 143;with_reducible refine (zR.out _ aG).mono ?_;rintro e wS ⟨z1,z2,z3,rfl,QF,hbS⟩;replace aG:=aC aG hbS;have IB:=aB (And.intro QF hbS);clear QF)
       |(go_at_call 143;with_reducible refine (cZ.out _ aG).mono ?_;rintro e wU ⟨y1,y2,y3,rfl,hO2,xZ⟩;have qJ:=aG;replace aG:=aC aG xZ;have GU:=aB (And.intro hO2 xZ);clear hO2;have hall:=aC bZ aG;obtain ⟨⟨t0,e0⟩,f0⟩:=yB.out 0 (by omega);obtain ⟨⟨t1,e1⟩,f1⟩:=yB.out 1 (by omega);obtain ⟨⟨t2,e2⟩,f2⟩:=yB.out 2 (by omega);obtain ⟨⟨t3,e3⟩,f3⟩:=yB.out 3 (by omega);obtain ⟨⟨t4,e4⟩,f4⟩:=yB.out 4 (by omega);obtain ⟨⟨t5,e5⟩,f5⟩:=yB.out 5 (by omega);obtain ⟨⟨t6,e6⟩,f6⟩:=yB.out 6 (by omega);replace e0:=aA hall _ _ e0;replace e1:=aA hall _ _ e1;replace e2:=aA hall _ _ e2;replace e3:=aA hall _ _ e3;replace e4:=aA hall _ _ e4;replace e5:=aA hall _ _ e5;replace e6:=aA hall _ _ e6;replace f0:=(hall.frozen hgz).trans f0;replace f1:=(hall.frozen hgz).trans f1;replace f2:=(hall.frozen hgz).trans f2;replace f3:=(hall.frozen hgz).trans f3;replace f4:=(hall.frozen hgz).trans f4;replace f5:=(hall.frozen hgz).trans f5;replace f6:=(hall.frozen hgz).trans f6;simp only [Nat.add_zero] at e0 f0))
    all_goals
     have fQ:Hid (mE w.heap.size w (k.map (bK (aH (j5 d)))) (j+1) (mW wU w.heap.size (j*7) (jT (yn,((tv,ti),tk),((tv',oO),nT)) (.slice z1 z2 z3) (.slice y1 y2 y3)))):=by
      have s1:=bZ.size;have s2:=qJ.size;have s3:=IB.out.2.size;have s4:=GU.out.2.size;refine R9 HR.out Hy2.out (aC bZ aG) ?_ ?_
      · refine ((IB.out.1.toB (X:=λq=>wr.heap.size<=q/\q<wS.heap.size) (λq q1 q2=>⟨?_,q2⟩)).frame (λq hq=>⟨hq.1,?_⟩) (λq i hq=>GU.out.2.cell ?_))
        · have q1':wa.heap.size<=q:=q1;omega
        · have s4':wS.heap.size<=wU.heap.size:=s4;have:=hq.2;omega
        · exact hq.2
      · refine GU.out.1.toB (λq q1 q2=>⟨?_,q2⟩);have q1':wS.heap.size<=q:=q1;omega
     go_wp2_with fail
     go_roundw
     case rel=>exact ⟨j+1,by omega,by go_num,fQ.out⟩
     case measure=>simp [intOf];omega
  · have lK:j=k.length:=by omega
    subst lK;have bP:Hid (dQ wr (k.map (bK (aH (j5 d)))) (.slice (some ⟨w.heap.size,0,none⟩) k.length k.length)):=by have:=HR.out;rw [show mE w.heap.size w (k.map (bK (aH (j5 d)))) k.length wr=mE w.heap.size w (k.map (bK (aH (j5 d)))) (k.map (bK (aH (j5 d)))).length wr by rw [List.length_map]] at this;have:=aAD this (by rw [List.length_map];unfold maxLen;omega);rw [List.length_map] at this;exact this
    clear eZ hT hB
    go_wp2_with fail
    go_ret;exact ⟨_,rfl,bP.out,hBw⟩
theorem X8 (d:Int) (k:Cl) (a:Value) (w:World) (hS:dQ w k a) (hn:∀l∈k,jD l.2.1/\jD l.2.2) (hlen:k.length<=1000000):
  Calls Tryz.prog 112 #[a,.int .i64 d] w λe w'=>∃g,e= .returned (.slice (some ⟨g,0,none⟩) k.length k.length)/\dQ w' (k.map (bK (aH (j5 d)))) (.slice (some ⟨g,0,none⟩) k.length k.length)/\Below w.heap.size w w':=by
 have HS:=aB hS;obtain ⟨a1,a3,rfl⟩:=aK hS;clear hS;go_enter Tryz.func112,Tryz.ntmps112
 go_wp2_with fail
 refine (aFZ d w.heap.size k _ _ (by simp [MQ]) (HS.out.alloc _) hn hlen).mono ?_;rintro e w1 ⟨g,rfl,hC,hb⟩;have HC:=aB hC;clear hC
 go_wp2_with fail
 go_ret;exact ⟨g,rfl,HC.out,aW hb⟩
section
attribute [local go_sem ↓] Go.wp_at_zero Go.wp_at_succ
theorem N9 (yes:Bool) (l:Lt):(aL yes l).1=l.1:=by cases yes<;>rfl
theorem zC {f:List Cl×Bool->Nat->List Cl×Bool} {st:List Cl×Bool}:∀{n:Nat},(∀s j,j<n->f s j=s)->bF f st n=st
 |0,_=>rfl
 |n+1,h=>by rw [fV,zC (λs j hj=>h s j (by omega)),h _ n (by omega)]
def FB (st:List Cl×Bool) (w:World) (e:Ending) (w':World):Prop:=∃v,e= .returned (.tuple #[v,.bool st.2])/\mD w' st.1 v/\Below w.heap.size w w'/\∀g,v.ownBlock=some g->w.heap.size<=g
theorem FC {U:Tm->Tm->Option Sb} (hU:CQ U) (c:Cl) (cv:Value) (w:World) (hC:dQ w c cv) (hc:∀l∈c,l9 l) (h4:c.length<=4):
  Calls Tryz.prog 66 #[cv] w (FB (jN U c c.length) w):=by
 have HC:=aB hC;have Hc:=aB hc;have HU:=aB hU;obtain ⟨c1,c3,cb,co,rfl,had,hlc,hcm,hF⟩:=hC;unfold maxLen at hcm;have HF:=aB hF;clear hF hc hU;go_enter Tryz.func66,Tryz.ntmps66
 go_upto_region 2 with fail
 have jP:=aB (ET w 136);have hB1:Below w.heap.size w (w.alloc (.cells #[.slice none 0 0,.bool false] 136)):=aD _ _;generalize w.alloc (.cells #[.slice none 0 0,.bool false] 136)=W1 at*
 go_wp2_with fail
 go_loopw [11] (λi wr=>∃(j:Nat) (v:Value) (xs:List Value),j<=c.length/\i= .int .i64 j/\uC w.heap.size wr w.heap.size (jN U c j).1 (jN U c j).2 v xs/\Below w.heap.size w wr) (λi _=>c.length - (intOf i).toNat)
 case atStart=>exact ⟨0,_,_,Nat.zero_le _,rfl,jP.out,hB1⟩
 case round=>
  obtain ⟨j,v,xs,hj,rfl,hL,hBr⟩:=hrel;have HL:=aB hL;clear hL;by_cases hlt:j<c.length
  · have hlt':(j:Int)<(c.length:Int):=by omega
    obtain ⟨⟨xn,⟨⟨xv,xi⟩,xk⟩,⟨iH,iZ⟩,gM⟩,hy⟩:∃y,c[j]?=some y:=⟨c[j]'hlt,by simp⟩;obtain ⟨p0,p1,p2,⟨u3,p3,hA⟩,p4,p5,u6,p6,hD⟩:=(HF.out.below hBr).at hy;obtain ⟨-,-,-,⟨u3w,p3w,hAw⟩,-,-,u6w,p6w,hDw⟩:=HF.out.at hy;have hu3:u3w=u3:=by have:=aA hBr _ _ p3w;rw [p3] at this;exact (Option.some.inj this).symm
    have hu6:u6w=u6:=by have:=aA hBr _ _ p6w;rw [p6] at this;exact (Option.some.inj this).symm
    subst hu3 hu6;have HAw:=aB hAw;have HDw:=aB hDw;clear p3w p6w hAw hDw;have ha1:c1=some ⟨cb,co,none⟩:=had (by omega);subst ha1;have HA:=aB hA;have HD:=aB hD;obtain ⟨e1,e3,_,_,rfl,-,-,-,-⟩:=hA;obtain ⟨f1,f3,_,_,rfl,-,-,-,-⟩:=hD;have uS:=aB (Hc.out _ (List.mem_of_getElem? hy));have Hy:=aB hy;simp only at p0 p1 p2 p3 p4 p5 p6 HA HD uS;clear hy had;have Hln:=aB (aE2 U c j);have ZM:Hid (jN U c (j+1)=UG U c (jN U c j) j):=aA7;have NG:Hid (UG U c (jN U c j) j=if xn then MO (jN U c j) (U ((xv,xi),xk) ((iH,iZ),gM)) (jM c j) else jN U c j):=by unfold Hid UG;rw [Hy.out]
    go_upto_region 5 with fail
    generalize QD:wr.alloc (.cells #[.bool xn,.bool xv,.int .i64 xi,.slice e1 (Fo.len xk) e3,.bool iH,.int .i64 iZ,.slice f1 (Fo.len gM) f3] 86)=W4;have hb4:Below wr.heap.size wr W4:=by rw [←QD];exact aD _ _
    have CO:Hid (bT W4 wr.heap.size [.bool xn,.bool xv,.int .i64 xi,.slice e1 (Fo.len xk) e3,.bool iH,.int .i64 iZ,.slice f1 (Fo.len gM) f3]):=by rw [Hid,←QD];exact bT.new wr #[.bool xn,.bool xv,.int .i64 xi,.slice e1 (Fo.len xk) e3,.bool iH,.int .i64 iZ,.slice f1 (Fo.len gM) f3] 86
    clear QD p0 p1 p2 p3 p4 p5 p6;have p0:W4.cell? ⟨wr.heap.size,0,none⟩=some (.bool xn):=CO.out 0 _ rfl;have p1:W4.cell? ⟨wr.heap.size,1,none⟩=some (.bool xv):=CO.out 1 _ rfl;have p2:W4.cell? ⟨wr.heap.size,2,none⟩=some (.int .i64 xi):=CO.out 2 _ rfl;have p3:W4.cell? ⟨wr.heap.size,3,none⟩=some (.slice e1 (Fo.len xk) e3):=CO.out 3 _ rfl;have p4:W4.cell? ⟨wr.heap.size,4,none⟩=some (.bool iH):=CO.out 4 _ rfl;have p5:W4.cell? ⟨wr.heap.size,5,none⟩=some (.int .i64 iZ):=CO.out 5 _ rfl;have p6:W4.cell? ⟨wr.heap.size,6,none⟩=some (.slice f1 (Fo.len gM) f3):=CO.out 6 _ rfl;have HL4:=aB (HL.out.below hb4);have hB4:=aC hBr hb4;cases xn
    · have dC:Hid (uC w.heap.size W4 w.heap.size (jN U c (j+1)).1 (jN U c (j+1)).2 v xs):=by
       have:=HL4.out;rw [Hid,ZM.out,NG.out];exact this
      clear NG
      go_wp2_with fail
      go_roundw
      case rel=>exact ⟨j+1,v,xs,by omega,by go_num,dC.out,hB4⟩
      case measure=>simp [intOf];omega
    · have Hui:=aB (uS.out.1.ui uS.out.2);obtain ⟨n,hn⟩:=HU.out _ _ Hui.out;have Hn:=aB hn;obtain ⟨R,hR⟩:∃R,U ((xv,xi),xk) ((iH,iZ),gM)=R:=⟨_,rfl⟩;rw [hR] at Hn NG;have NF:=aB (DW (xv,xi) xk (.slice e1 (Fo.len xk) e3) (iH,iZ) gM (.slice f1 (Fo.len gM) f3) W4 n R Hn.out Hui.out (HA.out.below hb4) (HD.out.below hb4));simp only at NF;clear hn hR
      go_wp2_with fail
      refine NF.out.mono ?_;rintro e w2 ⟨hb2,z1,m,z3,ok,rfl,hno,fG⟩;have hB2:=aC hB4 hb2;have HL2:=aB (HL4.out.below hb2);clear NF hb2 p0 p1 p2 p3 p4 p5 p6;cases ok
      · have dC:Hid (uC w.heap.size w2 w.heap.size (jN U c (j+1)).1 (jN U c (j+1)).2 v xs):=by
         have:=HL2.out;rw [Hid,ZM.out,NG.out,(hno rfl).1];exact this
        clear NG hno fG
        go_wp2_with fail
        go_roundw
        case rel=>exact ⟨j+1,v,xs,by omega,by go_num,dC.out,hB2⟩
        case measure=>simp [intOf];omega
      · obtain ⟨s',rfl,rfl,hSub⟩:=fG rfl;have HV:=aB hSub;clear hno hSub
        go_wp2_with fail
        refine (vV c _ j _ (HC.out.below hB2) hlt (by omega)).mono ?_;rintro e w3 ⟨bv,rfl,hO,hb3⟩;have hB3:=aC hB2 hb3;have HL3:=aB (HL2.out.below hb3);have UC:=aB (A9 HL3.out (HV.out.below hb3) hO uS.out.1 uS.out.2 Hn.out (λl hl=>(Hc.out l (mK hl)).x) (by have:=tF (c:=c) (i:=j);omega) (by have:=Hln.out;omega));clear hO hb3
        go_wp2_with fail
        refine UC.out.mono ?_;rintro e w4 ⟨rfl,v',xs',hL',hf,-⟩;have Hk:=aB (PX HL3.out hB3 hf);have dC:Hid (uC w.heap.size w4 w.heap.size (jN U c (j+1)).1 (jN U c (j+1)).2 v' xs'):=by have:=hL';rw [Hid,ZM.out,NG.out];exact this
        clear hL' hf NG
        go_wp2_with fail
        go_roundw
        case rel=>exact ⟨j+1,v',xs',by omega,by go_num,dC.out,Hk.out.1⟩
        case measure=>simp [intOf];omega
  · have lK:j=c.length:=by omega
    subst lK;have bP:=aB HL.out.csin;have oL:Hid (∀g,v.ownBlock=some g->w.heap.size<=g):=λg hg=>(aJ HL.out.row g hg).1;obtain ⟨z1,z3,hv⟩:=HL.out.slice;have k0:=HL.out.c0;have k1:=HL.out.c1;have Hvv:=aB hv;clear hv had
    go_upto_region 10 with fail
    go_region
    go_wp2_with fail
    go_ret2;exact ⟨v,rfl,bP.out.below (Below.refl _ _).drew,hBr.drew,oL.out⟩
theorem GM {U:Tm->Tm->Option Sb} (hU:CQ U) (c:Cl) (cv:Value) (w:World) (hC:dQ w c cv) (hc:∀l∈c,l9 l) (h4:c.length<=4):
  Calls Tryz.prog 67 #[cv] w (FB (fP U c c.length) w):=by
 have HC:=aB hC;have Hc:=aB hc;have HU:=aB hU;obtain ⟨c1,c3,cb,co,rfl,had,hlc,hcm,hF⟩:=hC;unfold maxLen at hcm;have HF:=aB hF;clear hF hc hU;go_enter Tryz.func67,Tryz.ntmps67
 go_upto_region 2 with fail
 have jP:=aB (ET w 136);have hB1:Below w.heap.size w (w.alloc (.cells #[.slice none 0 0,.bool false] 136)):=aD _ _;generalize w.alloc (.cells #[.slice none 0 0,.bool false] 136)=W1 at*
 go_wp2_with fail
 go_loopw [11] (λi wr=>∃(j:Nat) (v:Value) (xs:List Value),j<=c.length/\i= .int .i64 j/\uC w.heap.size wr w.heap.size (fP U c j).1 (fP U c j).2 v xs/\Below w.heap.size w wr) (λi _=>c.length - (intOf i).toNat)
 case atStart=>exact ⟨0,_,_,Nat.zero_le _,rfl,jP.out,hB1⟩
 case round=>
  obtain ⟨j,v,xs,hj,rfl,hL,hBr⟩:=hrel;have HL:=aB hL;clear hL;by_cases hlt:j<c.length
  · have hlt':(j:Int)<(c.length:Int):=by omega
    obtain ⟨⟨xn,⟨⟨xv,xi⟩,xk⟩,⟨iH,iZ⟩,gM⟩,hy⟩:∃y,c[j]?=some y:=⟨c[j]'hlt,by simp⟩;obtain ⟨p0,p1,p2,⟨u3,p3,hA⟩,p4,p5,u6,p6,hD⟩:=(HF.out.below hBr).at hy;obtain ⟨-,-,-,⟨u3w,p3w,hAw⟩,-,-,u6w,p6w,hDw⟩:=HF.out.at hy;have hu3:u3w=u3:=by have:=aA hBr _ _ p3w;rw [p3] at this;exact (Option.some.inj this).symm
    have hu6:u6w=u6:=by have:=aA hBr _ _ p6w;rw [p6] at this;exact (Option.some.inj this).symm
    subst hu3 hu6;have HAw:=aB hAw;have HDw:=aB hDw;clear p3w p6w hAw hDw;have ha1:c1=some ⟨cb,co,none⟩:=had (by omega);subst ha1;have HA:=aB hA;have HD:=aB hD;obtain ⟨e1,e3,_,_,rfl,-,-,-,-⟩:=hA;obtain ⟨f1,f3,_,_,rfl,-,-,-,-⟩:=hD;have uS:=aB (Hc.out _ (List.mem_of_getElem? hy));have Hy:=aB hy;simp only at p0 p1 p2 p3 p4 p5 p6 HA HD uS;clear hy had;have Hln:Hid ((fP U c j).1.length<=64):=by have h1:=aFW U c j;have h2:j*(c.length*4)<=4*(4*4):=Nat.mul_le_mul (by omega) (Nat.mul_le_mul h4 (Nat.le_refl _));rw [Hid];omega
    have ZM:Hid (fP U c (j+1)=bF (oU U c j) (fP U c j) c.length):=fV _ _ _;have Hsk:Hid (bF (oU U c j) (fP U c j) (j+1)=fP U c j):=zC (λs q hq=>by
     unfold oU;split
     · rw [if_pos (.inl (by omega))]
     · rfl)
    obtain ⟨ad,hsl,hadd⟩:=wH (n:=c.length) (j:=j+1) (c:=c3) (b:=cb) (o:=co) (by omega) hlc;have aS4:∀w:World,(Instr.slice 44 (.slice (some ⟨cb,co,none⟩) c.length c3) (some (.int .i64 ((j:Int)+1))) none none).run Tryz.prog w= .ok (.slice (some ad) (c.length - (j+1)) (c3 - (j+1))) w:=λw=>by
     have:=hsl w
     rwa [show ((j+1:Nat):Int)=(j:Int)+1 by omega] at this
    have hwr:IntKind.i64.wrap ((j:Int)+1)=(j:Int)+1:=by rw [IntKind.wrap_i64];omega
    have QZ:=aB hadd;clear hsl hadd
    go_upto_region 5 with fail
    generalize QD:wr.alloc (.cells #[.bool xn,.bool xv,.int .i64 xi,.slice e1 (Fo.len xk) e3,.bool iH,.int .i64 iZ,.slice f1 (Fo.len gM) f3] 86)=W4;have hb4:Below wr.heap.size wr W4:=by rw [←QD];exact aD _ _
    have CO:Hid (bT W4 wr.heap.size [.bool xn,.bool xv,.int .i64 xi,.slice e1 (Fo.len xk) e3,.bool iH,.int .i64 iZ,.slice f1 (Fo.len gM) f3]):=by rw [Hid,←QD];exact bT.new wr #[.bool xn,.bool xv,.int .i64 xi,.slice e1 (Fo.len xk) e3,.bool iH,.int .i64 iZ,.slice f1 (Fo.len gM) f3] 86
    clear QD p0 p1 p2 p3 p4 p5 p6;have p0:W4.cell? ⟨wr.heap.size,0,none⟩=some (.bool xn):=CO.out 0 _ rfl;have p1:W4.cell? ⟨wr.heap.size,1,none⟩=some (.bool xv):=CO.out 1 _ rfl;have p2:W4.cell? ⟨wr.heap.size,2,none⟩=some (.int .i64 xi):=CO.out 2 _ rfl;have p3:W4.cell? ⟨wr.heap.size,3,none⟩=some (.slice e1 (Fo.len xk) e3):=CO.out 3 _ rfl;have p4:W4.cell? ⟨wr.heap.size,4,none⟩=some (.bool iH):=CO.out 4 _ rfl;have p5:W4.cell? ⟨wr.heap.size,5,none⟩=some (.int .i64 iZ):=CO.out 5 _ rfl;have p6:W4.cell? ⟨wr.heap.size,6,none⟩=some (.slice f1 (Fo.len gM) f3):=CO.out 6 _ rfl;have HL4:=aB (HL.out.below hb4);have hB4:=aC hBr hb4;clear p0 p1 p2 p3 p4 p5 p6
    go_wp2_with fail
    generalize hgw:wr.heap.size=gw at*;generalize wr=wo at*
    go_loopw [21] (λq wr=>∃(t:Nat) (v:Value) (xs:List Value),t<=c.length - (j+1)/\q= .int .i64 t/\uC w.heap.size wr w.heap.size (bF (oU U c j) (fP U c j) (j+1+t)).1 (bF (oU U c j) (fP U c j) (j+1+t)).2 v xs/\Below w.heap.size w wr/\bT wr gw [.bool xn,.bool xv,.int .i64 xi,.slice e1 (Fo.len xk) e3,.bool iH,.int .i64 iZ,.slice f1 (Fo.len gM) f3]) (λq _=>c.length - (j+1) - (intOf q).toNat)
    case atStart=>exact ⟨0,v,xs,Nat.zero_le _,rfl,by rw [Nat.add_zero,Hsk.out];exact HL4.out,hB4,CO.out⟩
    case round=>
     obtain ⟨t,v2,uT,ht,rfl,hL2,aOW,hX2⟩:=hrel;have HL2:=aB hL2;have HX2:=aB hX2;clear hL2 hX2;have jP:Hid ((bF (oU U c j) (fP U c j) (j+1+t)).1.length<=100000):=by have h1:=eX (m:=4) (WW U c j) (fP U c j) (j+1+t);have h2:=Hln.out;rw [Hid];omega
     have Hsj:Hid (bF (oU U c j) (fP U c j) (j+1+(t+1))=oU U c j (bF (oU U c j) (fP U c j) (j+1+t)) (j+1+t)):=fV _ _ _;by_cases htl:t<c.length - (j+1)
     · have aQL:(t:Int)<((c.length - (j+1):Nat):Int):=by omega
       obtain ⟨⟨yn,⟨⟨yv,yi⟩,yk⟩,⟨bB,bH⟩,aZ⟩,hy⟩:∃y,c[j+1+t]?=some y:=⟨c[j+1+t]'(by omega),by simp⟩;have Hfj:=aB (aMU (U:=U) (bF (oU U c j) (fP U c j) (j+1+t)) Hy.out hy);obtain ⟨q0,q1,q2,⟨w3,q3,hE⟩,q4,q5,w6,q6,hG⟩:=(HF.out.below aOW).at hy;have hde:co+(j+1+t)*7=co+(j+1)*7+t*7:=by omega
       rw [hde] at q0 q1 q2 q3 q4 q5 q6;have Z4:=QZ.out (by omega);subst Z4;have HE:=aB hE;have HG:=aB hG;obtain ⟨g1,g3,_,_,rfl,-,-,-,-⟩:=hE;obtain ⟨h1,h3,_,_,rfl,-,-,-,-⟩:=hG;have Hgz:=aB (Hc.out _ (List.mem_of_getElem? hy));simp only at q0 q1 q2 q3 q4 q5 q6 HE HG Hgz Hfj;generalize bF (oU U c j) (fP U c j) (j+1+t)=stt at*;clear hy hde;have k0:wr.cell? ⟨gw,0,none⟩=some (.bool xn):=HX2.out 0 _ rfl;have k1:wr.cell? ⟨gw,1,none⟩=some (.bool xv):=HX2.out 1 _ rfl;have k2:wr.cell? ⟨gw,2,none⟩=some (.int .i64 xi):=HX2.out 2 _ rfl;have k3:wr.cell? ⟨gw,3,none⟩=some (.slice e1 (Fo.len xk) e3):=HX2.out 3 _ rfl;have k4:wr.cell? ⟨gw,4,none⟩=some (.bool iH):=HX2.out 4 _ rfl;have k5:wr.cell? ⟨gw,5,none⟩=some (.int .i64 iZ):=HX2.out 5 _ rfl;have k6:wr.cell? ⟨gw,6,none⟩=some (.slice f1 (Fo.len gM) f3):=HX2.out 6 _ rfl
       go_upto_region 8 with fail
       generalize hW5:wr.alloc (.cells #[.bool yn,.bool yv,.int .i64 yi,.slice g1 (Fo.len yk) g3,.bool bB,.int .i64 bH,.slice h1 (Fo.len aZ) h3] 86)=W5;have hb5:Below wr.heap.size wr W5:=by rw [←hW5];exact aD _ _
       have HY5:Hid (bT W5 wr.heap.size [.bool yn,.bool yv,.int .i64 yi,.slice g1 (Fo.len yk) g3,.bool bB,.int .i64 bH,.slice h1 (Fo.len aZ) h3]):=by rw [Hid,←hW5];exact bT.new wr #[.bool yn,.bool yv,.int .i64 yi,.slice g1 (Fo.len yk) g3,.bool bB,.int .i64 bH,.slice h1 (Fo.len aZ) h3] 86
       clear hW5 q0 q1 q2 q3 q4 q5 q6;replace k0:=aA hb5 _ _ k0;replace k1:=aA hb5 _ _ k1;replace k2:=aA hb5 _ _ k2;replace k3:=aA hb5 _ _ k3;replace k4:=aA hb5 _ _ k4;replace k5:=aA hb5 _ _ k5;replace k6:=aA hb5 _ _ k6;have r0:W5.cell? ⟨wr.heap.size,0,none⟩=some (.bool yn):=HY5.out 0 _ rfl;have r1:W5.cell? ⟨wr.heap.size,1,none⟩=some (.bool yv):=HY5.out 1 _ rfl;have r2:W5.cell? ⟨wr.heap.size,2,none⟩=some (.int .i64 yi):=HY5.out 2 _ rfl;have r3:W5.cell? ⟨wr.heap.size,3,none⟩=some (.slice g1 (Fo.len yk) g3):=HY5.out 3 _ rfl;have r4:W5.cell? ⟨wr.heap.size,4,none⟩=some (.bool bB):=HY5.out 4 _ rfl;have r5:W5.cell? ⟨wr.heap.size,5,none⟩=some (.int .i64 bH):=HY5.out 5 _ rfl;have r6:W5.cell? ⟨wr.heap.size,6,none⟩=some (.slice h1 (Fo.len aZ) h3):=HY5.out 6 _ rfl;have ZB:=aB (HL2.out.below hb5);have HX5:=aB (HX2.out.below hb5);have NA:=aC aOW hb5;cases xn
       case' true=>
        have dC:Hid (uC w.heap.size W5 w.heap.size (bF (oU U c j) (fP U c j) (j+1+(t+1))).1 (bF (oU U c j) (fP U c j) (j+1+(t+1))).2 v2 uT):=by rw [Hid,Hsj.out,Hfj.out,if_pos (.inr (.inl rfl))];exact ZB.out
        clear Hfj
        go_wp2_with fail
        go_roundw
        case rel=>exact ⟨t+1,v2,uT,by omega,by go_num,dC.out,NA,HX5.out⟩
        case measure=>simp [intOf];omega
       case' false=>
        cases yn
        case' true=>
         have dC:Hid (uC w.heap.size W5 w.heap.size (bF (oU U c j) (fP U c j) (j+1+(t+1))).1 (bF (oU U c j) (fP U c j) (j+1+(t+1))).2 v2 uT):=by rw [Hid,Hsj.out,Hfj.out,if_pos (.inr (.inr rfl))];exact ZB.out
         clear Hfj
         go_wp2_with fail
         go_roundw
         case rel=>exact ⟨t+1,v2,uT,by omega,by go_num,dC.out,NA,HX5.out⟩
         case measure=>simp [intOf];omega
        case' false=>
         have Hfk:Hid (bF (oU U c j) (fP U c j) (j+1+(t+1))=bF (uP U c j (false,((xv,xi),xk),((iH,iZ),gM)) (false,((yv,yi),yk),((bB,bH),aZ))) stt 4):=by rw [Hid,Hsj.out,Hfj.out,if_neg (by simp;omega)]
         have HcW:=aB (λ(w':World) (hb:Below W5.heap.size W5 w')=>vV c (.slice (some ⟨cb,co,none⟩) c.length c3) j w' (HC.out.below (aC NA hb)) hlt (by omega));have HcF:=aB (λ(w':World) (hb:Below W5.heap.size W5 w') (rv:Value) (hR:dQ w' (jM c j) rv)=>L8 (x:=(false,((xv,xi),xk),((iH,iZ),gM))) (y:=(false,((yv,yi),yk),((bB,bH),aZ))) (a1:=e1) (a3:=e3) (d1:=f1) (d3:=f3) (e1:=g1) (e3:=g3) (f1:=h1) (f3:=h3) HU.out (ZB.out.below hb) hR (HAw.out.below (aC NA hb)) (HDw.out.below (aC NA hb)) ((HE.out.below hb5).below hb) ((HG.out.below hb5).below hb) Hc.out uS.out Hgz.out h4 jP.out);simp only at HcF;have aG:Below W5.heap.size W5 W5.drew:=(Below.refl _ _).drew;clear Hfj;generalize hgv:wr.heap.size=gv at*
         go_upto_region 9 with fail
         go_region_held3 (λw'=>w'.cell? ⟨gw,0,none⟩=some (.bool false)/\w'.cell? ⟨gw,1,none⟩=some (.bool xv)/\w'.cell? ⟨gw,2,none⟩=some (.int .i64 xi)/\w'.cell? ⟨gw,3,none⟩=some (.slice e1 (Fo.len xk) e3)/\w'.cell? ⟨gw,4,none⟩=some (.bool iH)/\w'.cell? ⟨gw,5,none⟩=some (.int .i64 iZ)/\w'.cell? ⟨gw,6,none⟩=some (.slice f1 (Fo.len gM) f3)/\w'.cell? ⟨gv,0,none⟩=some (.bool false)/\w'.cell? ⟨gv,1,none⟩=some (.bool yv)/\w'.cell? ⟨gv,2,none⟩=some (.int .i64 yi)/\w'.cell? ⟨gv,3,none⟩=some (.slice g1 (Fo.len yk) g3)/\w'.cell? ⟨gv,4,none⟩=some (.bool bB)/\w'.cell? ⟨gv,5,none⟩=some (.int .i64 bH)/\w'.cell? ⟨gv,6,none⟩=some (.slice h1 (Fo.len aZ) h3))
          (first
            |(with_reducible exact ⟨aA aG _ _ k0,aA aG _ _ k1,aA aG _ _ k2,aA aG _ _ k3,aA aG _ _ k4,aA aG _ _ k5,aA aG _ _ k6,aA aG _ _ r0,aA aG _ _ r1,aA aG _ _ r2,aA aG _ _ r3,aA aG _ _ r4,aA aG _ _ r5,aA aG _ _ r6⟩)
            |(with_reducible exact hS)
            |go_keep)
          (first
            |(go_at_call 110;with_reducible refine (HcW.out _ aG).mono ?_;rintro e wS ⟨rv,rfl,hR,hbS⟩;replace aG:=aC aG hbS;have HR:=aB hR;clear hR)
            |(go_at_call 111;with_reducible refine (HcF.out _ aG _ HR.out).mono ?_;rintro e wF ⟨rfl,v4,xs4,hK⟩;have hkk:=hK.kpt (ZB.out.below aG);have hS:wF.cell? ⟨gw,0,none⟩=some (.bool false)/\wF.cell? ⟨gw,1,none⟩=some (.bool xv)/\wF.cell? ⟨gw,2,none⟩=some (.int .i64 xi)/\wF.cell? ⟨gw,3,none⟩=some (.slice e1 (Fo.len xk) e3)/\wF.cell? ⟨gw,4,none⟩=some (.bool iH)/\wF.cell? ⟨gw,5,none⟩=some (.int .i64 iZ)/\wF.cell? ⟨gw,6,none⟩=some (.slice f1 (Fo.len gM) f3)/\wF.cell? ⟨gv,0,none⟩=some (.bool false)/\wF.cell? ⟨gv,1,none⟩=some (.bool yv)/\wF.cell? ⟨gv,2,none⟩=some (.int .i64 yi)/\wF.cell? ⟨gv,3,none⟩=some (.slice g1 (Fo.len yk) g3)/\wF.cell? ⟨gv,4,none⟩=some (.bool bB)/\wF.cell? ⟨gv,5,none⟩=some (.int .i64 bH)/\wF.cell? ⟨gv,6,none⟩=some (.slice h1 (Fo.len aZ) h3):=⟨eQ hkk (aA aG _ _ k0) (aA aG _ _ k1) 0 (aA aG _ _ k0),eQ hkk (aA aG _ _ k0) (aA aG _ _ k1) 1 (aA aG _ _ k1),eQ hkk (aA aG _ _ k0) (aA aG _ _ k1) 2 (aA aG _ _ k2),eQ hkk (aA aG _ _ k0) (aA aG _ _ k1) 3 (aA aG _ _ k3),eQ hkk (aA aG _ _ k0) (aA aG _ _ k1) 4 (aA aG _ _ k4),eQ hkk (aA aG _ _ k0) (aA aG _ _ k1) 5 (aA aG _ _ k5),eQ hkk (aA aG _ _ k0) (aA aG _ _ k1) 6 (aA aG _ _ k6),eQ hkk (aA aG _ _ r0) (aA aG _ _ r1) 0 (aA aG _ _ r0),eQ hkk (aA aG _ _ r0) (aA aG _ _ r1) 1 (aA aG _ _ r1),eQ hkk (aA aG _ _ r0) (aA aG _ _ r1) 2 (aA aG _ _ r2),eQ hkk (aA aG _ _ r0) (aA aG _ _ r1) 3 (aA aG _ _ r3),eQ hkk (aA aG _ _ r0) (aA aG _ _ r1) 4 (aA aG _ _ r4),eQ hkk (aA aG _ _ r0) (aA aG _ _ r1) 5 (aA aG _ _ r5),eQ hkk (aA aG _ _ r0) (aA aG _ _ r1) 6 (aA aG _ _ r6)⟩;have HK:=aB hK;have aG9:=aB aG;clear hK))
         all_goals
          have dC:Hid (uC w.heap.size wF w.heap.size (bF (oU U c j) (fP U c j) (j+1+(t+1))).1 (bF (oU U c j) (fP U c j) (j+1+(t+1))).2 v4 xs4):=by rw [Hid,Hfk.out];exact HK.out.L
          have Hbe:=aB (HK.out.under (ZB.out.below aG9.out) (aC NA aG9.out));have Hxe:=aB ((HX5.out.below aG9.out).kpt hkk);clear hS hkk
          go_wp2_with fail
          go_roundw
          case rel=>exact ⟨t+1,v4,xs4,by omega,by go_num,dC.out,Hbe.out,Hxe.out⟩
          case measure=>simp [intOf];omega
     · have hte:t=c.length - (j+1):=by omega
       subst hte;have dC:Hid (uC w.heap.size wr w.heap.size (fP U c (j+1)).1 (fP U c (j+1)).2 v2 uT):=by have:=HL2.out;rw [show j+1+(c.length - (j+1))=c.length by omega] at this;rw [Hid,ZM.out];exact this
       go_wp2_with fail
       go_roundw
       case rel=>exact ⟨j+1,v2,uT,by omega,by go_num,dC.out,aOW⟩
       case measure=>simp [intOf];omega
  · have lK:j=c.length:=by omega
    subst lK;have bP:=aB HL.out.csin;have oL:Hid (∀g,v.ownBlock=some g->w.heap.size<=g):=λg hg=>(aJ HL.out.row g hg).1;obtain ⟨z1,z3,hv⟩:=HL.out.slice;have k0:=HL.out.c0;have k1:=HL.out.c1;have Hvv:=aB hv;clear hv had
    go_upto_region 12 with fail
    go_region
    go_wp2_with fail
    go_ret2;exact ⟨v,rfl,bP.out.below (Below.refl _ _).drew,hBr.drew,oL.out⟩
theorem BZ {U:Tm->Tm->Option Sb} (hU:CQ U) (c:Cl) (cv:Value) (d:Cl) (dv:Value) (w:World) (hC:dQ w c cv) (hc:∀l∈c,l9 l) (h4:c.length<=4) (hD:dQ w d dv) (hd4:d.length<=4) (hd:∀l∈d,(gN l.2.1/\jD l.2.1)/\(gN l.2.2/\jD l.2.2)) (hdd:∀l∈d.map (bK (aH (j5 5))),l9 l):
  Calls Tryz.prog 68 #[cv,dv] w (FB (gJ U c (d.map (bK (aH (j5 5)))) c.length) w):=by
 have HC:=aB hC;have Hc:=aB hc;have HU:=aB hU;have HD:=aB hD;have Hd:=aB hd;have Hdd:=aB hdd;obtain ⟨dd1,dd3,rfl⟩:=aK hD;clear hD hd hdd;obtain ⟨c1,c3,cb,co,rfl,had,hlc,hcm,hF⟩:=hC;unfold maxLen at hcm;have HF:=aB hF;clear hF hc hU;go_enter Tryz.func68,Tryz.ntmps68
 go_upto_region 2 with fail
 have jP:=aB (ET w 136);have hB1:Below w.heap.size w (w.alloc (.cells #[.slice none 0 0,.bool false] 136)):=aD _ _;generalize w.alloc (.cells #[.slice none 0 0,.bool false] 136)=W1 at*
 go_wp2_with fail
 refine (X8 5 d _ W1 (HD.out.below hB1) (λl hl=>⟨(Hd.out l hl).1.2,(Hd.out l hl).2.2⟩) (by omega)).mono ?_;rintro e w2 ⟨gd,rfl,hDD,hb2⟩;have hB2:=aC hB1 hb2;have HL2:=aB (jP.out.below hb2);obtain ⟨dd,hde⟩:∃dd,dd=d.map (bK (aH (j5 5))):=⟨_,rfl⟩;rw [←hde] at hDD Hdd ⊢;have aOL:dd.length<=4:=by rw [hde,List.length_map];exact hd4
 have HDD:=aB hDD;have HB2:=aB hB2;generalize hgl:w.heap.size=gl at HL2 ⊢;have Hde:=aB hde;clear hDD hde hb2 hB1 jP hB2
 go_wp2_with fail
 go_loopw [15] (λi wr=>∃(j:Nat) (v:Value) (xs:List Value),j<=c.length/\i= .int .i64 j/\LK gl gl w2 (.slice none 0 0) (gJ U c dd j) v xs wr) (λi _=>c.length - (intOf i).toNat)
 case atStart=>exact ⟨0,_,_,Nat.zero_le _,rfl,LK.start (st:=([],false)) HL2.out⟩
 case round=>
  obtain ⟨j,v,xs,hj,rfl,hK⟩:=hrel;have HK:=aB hK;clear hK;have hBr:Below w.heap.size w wr:=by have:=HK.out.under HL2.out (hgl▸HB2.out);rw [hgl];exact this
  have xM:=aB hBr;by_cases hlt:j<c.length
  · have hlt':(j:Int)<(c.length:Int):=by omega
    obtain ⟨⟨xn,⟨⟨xv,xi⟩,xk⟩,⟨iH,iZ⟩,gM⟩,hy⟩:∃y,c[j]?=some y:=⟨c[j]'hlt,by simp⟩;obtain ⟨p0,p1,p2,⟨u3,p3,hA⟩,p4,p5,u6,p6,hD⟩:=(HF.out.below hBr).at hy;obtain ⟨-,-,-,⟨u3w,p3w,hAw⟩,-,-,u6w,p6w,hDw⟩:=HF.out.at hy;have hu3:u3w=u3:=by have:=aA hBr _ _ p3w;rw [p3] at this;exact (Option.some.inj this).symm
    have hu6:u6w=u6:=by have:=aA hBr _ _ p6w;rw [p6] at this;exact (Option.some.inj this).symm
    subst hu3 hu6;have HAw:=aB hAw;have HDw:=aB hDw;clear p3w p6w hAw hDw;have ha1:c1=some ⟨cb,co,none⟩:=had (by omega);subst ha1;obtain ⟨e1,e3,_,_,rfl,-,-,-,-⟩:=hA;obtain ⟨f1,f3,_,_,rfl,-,-,-,-⟩:=hD;have uS:=aB (Hc.out _ (List.mem_of_getElem? hy));have Hln:Hid ((gJ U c dd j).1.length<=768):=by have h1:=aEQ (U:=U) (c:=c) Hdd.out aOL j;rw [Hid];omega
    have ZM:Hid (gJ U c dd (j+1)=ZU U c dd (gJ U c dd j) j):=fV _ _ _;have Hsi:=aB (aLJ (U:=U) (d:=dd) (gJ U c dd j) hy);have Hlk:Hid (∀k,k<=2->(bF (uU U c j (xn,((xv,xi),xk),((iH,iZ),gM)) dd) (gJ U c dd j) k).1.length<=2000):=λk hk=>by have h1:=eX (m:=96) (VG (U:=U) (c:=c) (i:=j) (x:=(xn,((xv,xi),xk),((iH,iZ),gM))) Hdd.out aOL) (gJ U c dd j) k;have h2:=Hln.out;omega
    simp only at p0 p1 p2 p3 p4 p5 p6 uS;clear hy had;generalize gJ U c dd j=F5 at*
    go_upto_region 6 with fail
    generalize QD:wr.alloc (.cells #[.bool xn,.bool xv,.int .i64 xi,.slice e1 (Fo.len xk) e3,.bool iH,.int .i64 iZ,.slice f1 (Fo.len gM) f3] 86)=W4;have hb4:Below wr.heap.size wr W4:=by rw [←QD];exact aD _ _
    have CO:Hid (bT W4 wr.heap.size [.bool xn,.bool xv,.int .i64 xi,.slice e1 (Fo.len xk) e3,.bool iH,.int .i64 iZ,.slice f1 (Fo.len gM) f3]):=by rw [Hid,←QD];exact bT.new wr #[.bool xn,.bool xv,.int .i64 xi,.slice e1 (Fo.len xk) e3,.bool iH,.int .i64 iZ,.slice f1 (Fo.len gM) f3] 86
    clear QD p0 p1 p2 p3 p4 p5 p6 hBr;have p0:W4.cell? ⟨wr.heap.size,0,none⟩=some (.bool xn):=CO.out 0 _ rfl;have p1:W4.cell? ⟨wr.heap.size,1,none⟩=some (.bool xv):=CO.out 1 _ rfl;have p2:W4.cell? ⟨wr.heap.size,2,none⟩=some (.int .i64 xi):=CO.out 2 _ rfl;have p3:W4.cell? ⟨wr.heap.size,3,none⟩=some (.slice e1 (Fo.len xk) e3):=CO.out 3 _ rfl;have p4:W4.cell? ⟨wr.heap.size,4,none⟩=some (.bool iH):=CO.out 4 _ rfl;have p5:W4.cell? ⟨wr.heap.size,5,none⟩=some (.int .i64 iZ):=CO.out 5 _ rfl;have p6:W4.cell? ⟨wr.heap.size,6,none⟩=some (.slice f1 (Fo.len gM) f3):=CO.out 6 _ rfl;have HK4:=aB (HK.out.below hb4);clear CO;cases xn
    case' true=>
     have dC:Hid (LK gl gl w2 (.slice none 0 0) (gJ U c dd (j+1)) v xs W4):=by have:=HK4.out;rw [Hid,ZM.out,Hsi.out,zC (λs k hk=>by unfold uU;rw [if_pos (.inl (by rw [N9]))])];exact this
     go_wp2_with fail
     go_roundw
     case rel=>exact ⟨j+1,v,xs,by omega,by go_num,dC.out⟩
     case measure=>simp [intOf];omega
    case' false=>
     go_wp2_with fail
     refine (pE (false,((xv,xi),xk),((iH,iZ),gM)) e1 f1 _ _ _ _ W4).mono ?_;rintro e w5 ⟨rfl,-,hb5⟩;have yG:=aC hb4 hb5;have HK5:=aB (HK.out.below yG);have ZB:=aB HK5.out.L;have GA:=aB (aC xM.out yG);have HD5:=aB (((HK5.out.kpt HL2.out)).cin HDD.out);generalize W4.heap.size=gx at*;clear p0 p1 p2 p3 p4 p5 p6 hb4 hb5 yG HK4;simp only
     go_wp2_with fail
     generalize hgw:wr.heap.size=gw at*;generalize wr=wo at*
     go_loopw [24] (λq wr=>∃(k:Nat) (v2:Value) (uT:List Value),k<=2/\q= .int .i64 k/\LK gl gl w5 v (bF (uU U c j (false,((xv,xi),xk),((iH,iZ),gM)) dd) F5 k) v2 uT wr) (λq _=>2 - (intOf q).toNat)
     case atStart=>exact ⟨0,v,xs,by omega,rfl,LK.start ZB.out⟩
     case round=>
      obtain ⟨k,v2,uT,hk,rfl,hK2⟩:=hrel;have QK:=aB hK2;clear hK2;by_cases hkl:k<2
      · have hkl':(k:Int)<2:=by omega
        have GV:Hid (Below w.heap.size w wr):=by have:=QK.out.under ZB.out (hgl▸GA.out);rw [Hid,hgl];exact this
        have xR:=aB (QK.out.kpt ZB.out);obtain ⟨zK,ta3,TI,TH,hTA,hTD,hTx⟩:=Z8 (l:=(false,((xv,xi),xk),((iH,iZ),gM))) hkl (HAw.out.below GV.out) (HDw.out.below GV.out);have Hgt:=aB (fU (yes:=decide (k=1)) uS.out);have Hsk:=aB (fV (uU U c j (false,((xv,xi),xk),((iH,iZ),gM)) dd) F5 k);have C8:=aB (Hlk.out k (by omega));have htn:=N9 (decide (k=1)) (false,((xv,xi),xk),((iH,iZ),gM));have Hsu:Hid (uU U c j (false,((xv,xi),xk),((iH,iZ),gM)) dd (bF (uU U c j (false,((xv,xi),xk),((iH,iZ),gM)) dd) F5 k) k=if (aL (decide (k=1)) (false,((xv,xi),xk),((iH,iZ),gM))).1=true\/(aL (decide (k=1)) (false,((xv,xi),xk),((iH,iZ),gM))).2.1.1.1=true then bF (uU U c j (false,((xv,xi),xk),((iH,iZ),gM)) dd) F5 k else bF (uV U c j (aL (decide (k=1)) (false,((xv,xi),xk),((iH,iZ),gM))) dd) (bF (uU U c j (false,((xv,xi),xk),((iH,iZ),gM)) dd) F5 k) dd.length):=rfl;generalize aL (decide (k=1)) (false,((xv,xi),xk),((iH,iZ),gM))=tx at*;generalize bF (uU U c j (false,((xv,xi),xk),((iH,iZ),gM)) dd) F5 k=stk at*;obtain ⟨tn,⟨⟨tv,ti⟩,tk⟩,⟨⟨tv',oO⟩,nT⟩⟩:=tx;simp only at hTA hTD hTx Hgt Hsu htn;subst htn;have HTA:=aB hTA;have HTD:=aB hTD;have hix:=λw'=>hTx gx w';unfold IG at hix;generalize (if k=1 then 146 else 145)=fn at hix;clear hTA hTD hTx
        go_upto_region 10 with fail
        generalize ZJ:wr.alloc (.cells #[.bool tv,.int .i64 ti,.slice zK (Fo.len tk) ta3,.bool tv',.int .i64 oO,.slice TI (Fo.len nT) TH,.func (.func fn) #[] #[.pointer (some ⟨gx,0,none⟩)]] 140)=W6;have hb6:Below wr.heap.size wr W6:=by rw [←ZJ];exact aD _ _
        have HX6:Hid (bT W6 wr.heap.size [.bool tv,.int .i64 ti,.slice zK (Fo.len tk) ta3,.bool tv',.int .i64 oO,.slice TI (Fo.len nT) TH,.func (.func fn) #[] #[.pointer (some ⟨gx,0,none⟩)]]):=by rw [Hid,←ZJ];exact bT.new wr #[.bool tv,.int .i64 ti,.slice zK (Fo.len tk) ta3,.bool tv',.int .i64 oO,.slice TI (Fo.len nT) TH,.func (.func fn) #[] #[.pointer (some ⟨gx,0,none⟩)]] 140
        clear ZJ hix;have t0:W6.cell? ⟨wr.heap.size,0,none⟩=some (.bool tv):=HX6.out 0 _ rfl;have t1:W6.cell? ⟨wr.heap.size,1,none⟩=some (.int .i64 ti):=HX6.out 1 _ rfl;have t2:W6.cell? ⟨wr.heap.size,2,none⟩=some (.slice zK (Fo.len tk) ta3):=HX6.out 2 _ rfl;have t3:W6.cell? ⟨wr.heap.size,3,none⟩=some (.bool tv'):=HX6.out 3 _ rfl;have t4:W6.cell? ⟨wr.heap.size,4,none⟩=some (.int .i64 oO):=HX6.out 4 _ rfl;have t5:W6.cell? ⟨wr.heap.size,5,none⟩=some (.slice TI (Fo.len nT) TH):=HX6.out 5 _ rfl;have t6:W6.cell? ⟨wr.heap.size,6,none⟩=some (.func (.func fn) #[] #[.pointer (some ⟨gx,0,none⟩)]):=HX6.out 6 _ rfl;have HK6:=aB (QK.out.below hb6);have HL6:=aB HK6.out.L;cases tv
        case' true=>
         have dC:Hid (LK gl gl w5 v (bF (uU U c j (false,((xv,xi),xk),((iH,iZ),gM)) dd) F5 (k+1)) v2 uT W6):=by have:=HK6.out;rw [Hid,Hsk.out,Hsu.out,if_pos (.inr rfl)];exact this
         go_wp2_with fail
         go_roundw
         case rel=>exact ⟨k+1,v2,uT,by omega,by go_num,dC.out⟩
         case measure=>simp [intOf];omega
        case' false=>
         have Hsq:Hid (bF (uU U c j (false,((xv,xi),xk),((iH,iZ),gM)) dd) F5 (k+1)=bF (uV U c j (false,((false,ti),tk),((tv',oO),nT)) dd) stk dd.length):=by rw [Hid,Hsk.out,Hsu.out,if_neg (by simp)]
         have HB6:=aB (aC GV.out hb6);have HcW:=aB (λ(w':World) (hb:Below W6.heap.size W6 w')=>vV c (.slice (some ⟨cb,co,none⟩) c.length c3) j w' (HC.out.below (aC HB6.out hb)) hlt (by omega));have HcF:=aB (λ(w':World) (hb:Below W6.heap.size W6 w') (rv:Value) (hR:dQ w' (jM c j) rv)=>YS (a:=(false,((false,ti),tk),((tv',oO),nT))) (a1:=zK) (a3:=ta3) (d1:=TI) (d3:=TH) (fn:=fn) (g0:=gx) HU.out (HL6.out.below hb) hR ((HTA.out.below hb6).below hb) ((HTD.out.below hb6).below hb) (((xR.out.cin HD5.out).below hb6).below hb) Hc.out Hgt.out Hdd.out h4 aOL (by have:=C8.out;omega));simp only at HcF;have aG:Below W6.heap.size W6 W6.drew:=(Below.refl _ _).drew;clear Hsu Hsk hb6;generalize hgv:wr.heap.size=gv at*
         go_upto_region 11 with fail
         go_region_held3 (λw'=>w'.cell? ⟨gv,0,none⟩=some (.bool false)/\w'.cell? ⟨gv,1,none⟩=some (.int .i64 ti)/\w'.cell? ⟨gv,2,none⟩=some (.slice zK (Fo.len tk) ta3)/\w'.cell? ⟨gv,3,none⟩=some (.bool tv')/\w'.cell? ⟨gv,4,none⟩=some (.int .i64 oO)/\w'.cell? ⟨gv,5,none⟩=some (.slice TI (Fo.len nT) TH)/\w'.cell? ⟨gv,6,none⟩=some (.func (.func fn) #[] #[.pointer (some ⟨gx,0,none⟩)]))
          (first
            |(with_reducible exact ⟨aA aG _ _ t0,aA aG _ _ t1,aA aG _ _ t2,aA aG _ _ t3,aA aG _ _ t4,aA aG _ _ t5,aA aG _ _ t6⟩)
            |(with_reducible exact hS)
            |go_keep)
          (first
            |(go_at_call 110;with_reducible refine (HcW.out _ aG).mono ?_;rintro e wS ⟨rv,rfl,hR,hbS⟩;replace aG:=aC aG hbS;have HR:=aB hR;clear hR)
            |(go_at_call 114;with_reducible refine (HcF.out _ aG _ HR.out).mono ?_;rintro e wF ⟨rfl,v4,xs4,hK4⟩;have hkk:=hK4.kpt (HL6.out.below aG);have hS:wF.cell? ⟨gv,0,none⟩=some (.bool false)/\wF.cell? ⟨gv,1,none⟩=some (.int .i64 ti)/\wF.cell? ⟨gv,2,none⟩=some (.slice zK (Fo.len tk) ta3)/\wF.cell? ⟨gv,3,none⟩=some (.bool tv')/\wF.cell? ⟨gv,4,none⟩=some (.int .i64 oO)/\wF.cell? ⟨gv,5,none⟩=some (.slice TI (Fo.len nT) TH)/\wF.cell? ⟨gv,6,none⟩=some (.func (.func fn) #[] #[.pointer (some ⟨gx,0,none⟩)]):=⟨eQ hkk (aA aG _ _ t0) (aA aG _ _ t1) 0 (aA aG _ _ t0),eQ hkk (aA aG _ _ t0) (aA aG _ _ t1) 1 (aA aG _ _ t1),eQ hkk (aA aG _ _ t0) (aA aG _ _ t1) 2 (aA aG _ _ t2),eQ hkk (aA aG _ _ t0) (aA aG _ _ t1) 3 (aA aG _ _ t3),eQ hkk (aA aG _ _ t0) (aA aG _ _ t1) 4 (aA aG _ _ t4),eQ hkk (aA aG _ _ t0) (aA aG _ _ t1) 5 (aA aG _ _ t5),eQ hkk (aA aG _ _ t0) (aA aG _ _ t1) 6 (aA aG _ _ t6)⟩;have HKF:=aB hK4;have aG9:=aB aG;clear hK4))
         all_goals
          have dC:Hid (LK gl gl w5 v (bF (uU U c j (false,((xv,xi),xk),((iH,iZ),gM)) dd) F5 (k+1)) v4 xs4 wF):=by rw [Hid,Hsq.out];exact (HK6.out.below aG9.out).trans HKF.out
          clear hS hkk
          go_wp2_with fail
          go_roundw
          case rel=>exact ⟨k+1,v4,xs4,by omega,by go_num,dC.out⟩
          case measure=>simp [intOf];omega
      · have hk2:k=2:=by omega
        subst hk2;have dC:Hid (LK gl gl w2 (.slice none 0 0) (gJ U c dd (j+1)) v2 uT wr):=by rw [Hid,ZM.out,Hsi.out];exact HK5.out.trans QK.out
        go_wp2_with fail
        go_roundw
        case rel=>exact ⟨j+1,v2,uT,by omega,by go_num,dC.out⟩
        case measure=>simp [intOf];omega
  · have lK:j=c.length:=by omega
    subst lK;have bP:=aB HK.out.L.csin;have oL:Hid (∀g,v.ownBlock=some g->w.heap.size<=g):=λg hg=>hgl▸(aJ HK.out.L.row g hg).1;obtain ⟨z1,z3,hv⟩:=HK.out.L.slice;have k0:=HK.out.L.c0;have k1:=HK.out.L.c1;have Hvv:=aB hv;clear hv had
    go_upto_region 14 with fail
    go_region
    go_wp2_with fail
    go_ret2;obtain rfl:=Hde.out;exact ⟨v,rfl,bP.out.below (Below.refl _ _).drew,hBr.drew,oL.out⟩
end
section
attribute [local go_sem ↓] Go.wp_at_zero Go.wp_at_succ
def CZ (w:World) (Z:List (List Int)) (v:Value):Prop:=
 ∃(a:Option Addr) (c b o:Nat),v= .slice a Z.length c/\(0<Z.length->a=some ⟨b,o,none⟩)/\Z.length<=c/\c<=maxLen/\∀i,i<Z.length->∃pv,w.cell? ⟨b,o+i,none⟩=some pv/\iK w (Z.getD i []) pv
theorem CZ.below {w w':World} (hb:Below w.heap.size w w') {Z:List (List Int)} {v:Value} (h:CZ w Z v):CZ w' Z v:=by obtain ⟨a,c,b,o,h1,h2,h3,h4,h5⟩:=h;refine ⟨a,c,b,o,h1,h2,h3,h4,λi hi=>?_⟩;obtain ⟨pv,k1,k2⟩:=h5 i hi;exact ⟨pv,aA hb _ _ k1,k2.below hb⟩
theorem AV {w:World} {Z:List (List Int)} {v:Value} (h:CZ w Z v):∃z1 z3,v= .slice z1 Z.length z3:=by obtain ⟨a,k,_,_,rfl,_⟩:=h;exact ⟨a,k,rfl⟩
def vTo (z:Int) (tb:List (List Int)) (e:Int->Int) (k:Fo) (j:Nat):Int:=(k.list.take j).foldl (λa t=>z*a+dF z tb e t) 0
theorem NY (z:Int) (tb:List (List Int)) (e:Int->Int):∀(F:Fo) (a:Int),lL z tb e F a=F.list.foldl (λa t=>z*a+dF z tb e t) a
 | .nil,_=>rfl
 | .node _ _ x k r,a=>by rw [jB,NY z tb e r];rfl
theorem U4 {z:Int} {tb:List (List Int)} {e:Int->Int} {k:Fo} {j:Nat} {t:Tm} (h:k.list[j]?=some t):vTo z tb e k (j+1)=z*vTo z tb e k j+dF z tb e t:=by unfold vTo;rw [List.take_add_one,h];simp [List.foldl_append]
theorem aK3 (z:Int) (tb:List (List Int)) (e:Int->Int) (k:Fo):vTo z tb e k (Fo.len k)=lL z tb e k 0:=by unfold vTo;rw [←Fo.len_list,List.take_length,NY]
theorem NZ {z:Int} {tb:List (List Int)} {e:Int->Int} {k:Fo} (hz:1<=z) (h:∀t∈k.list,0<=dF z tb e t/\dF z tb e t<z):∀j,j<=Fo.len k->0<=vTo z tb e k j/\vTo z tb e k j<pw z j
 |0,_=>by simp [vTo,pw]
 |j+1,hj=>by
  have ih:=NZ hz h j (by omega);have hl:j<k.list.length:=by rw [Fo.len_list];omega
  have hy:k.list[j]?=some k.list[j]:=List.getElem?_eq_getElem hl;have hv:=h _ (List.getElem_mem hl);rw [U4 hy,pw];exact tX hz ih.1 ih.2 hv.1 hv.2
theorem aI0 {z:Int} (h1:1<=z) (h8:z<=8) {j:Nat} (hj:j<=2):pw z j<=64:=by
 rcases (by omega:j=0\/j=1\/j=2) with rfl|rfl|rfl
 · simp [pw]
 · simp [pw];omega
 · have:=Int.mul_le_mul h8 h8 (by omega) (by omega);simp [pw];omega
theorem aP8 {z:Int} {L:List Int} (hz:1<=z) (hr:∀x∈L,0<=x/\x<z) (v:Int):0<=dX L v/\dX L v<z:=by
 unfold dX;rw [List.getD_eq_getElem?_getD];cases h:L[v.toNat]? with
 |none=>simp;omega
 |some x=>simpa using hr x (List.mem_of_getElem? h)
def XR (s:List Int) (z:Int) (tb:List (List Int)) (L:List Int) (x:Bool×Int) (k:Fo):Prop:=∀(mv ev a:Value) (w:World),CZ w tb mv->iK w L ev->cO w k a->jS s (x,k)->
 Calls Tryz.prog 87 #[.agg #[.int .i64 z,mv],ev,.agg #[.bool x.1,.int .i64 x.2,a]] w λe w'=>e= .returned (.int .i64 (dF z tb (dX L) (x,k)))/\Below w.heap.size w w'
theorem aAR {s L:List Int} {z:Int} {tb:List (List Int)} (hm:MR s z tb) (hs:s.all bN=true) (hL:L.length=5) (hr:∀x∈L,0<=x/\x<z) (x:Bool×Int) (k:Fo):XR s z tb L x k:=by
 refine Fo.ind1 (p:=XR s z tb L) ?_ x k;clear x k;intro x k ih mv ev a w hT hE hS hw;obtain ⟨xv,n⟩:=x;have HI:=aB ih;have Hm:=aB hm;have Hs:=aB hs;have z1:=hm.z1;have z8:=hm.z8;have Hev:Hid (∀v,0<=v->v<=4->0<=dX L v/\dX L v<z):=λv _ _=>aP8 hm.z1 hr v;have HT:=aB hT;have HE:=aB hE;have Hl:=aB (Fo.len_list k);obtain ⟨ta,tc,tk,tq,rfl,-,-,-,-⟩:=hT;obtain ⟨ea,ec,eb,eo,rfl,head,aVW,aTP,hEF⟩:=hE;obtain ⟨ad,c,b,o,rfl,had,hlc,hcm,hF⟩:=hS;unfold maxLen at hcm aTP;have hal:bM s (xv,n) (Fo.len k)=0:=hw.1;have hwk:yD s k:=hw.2;have GR:=aB hal;have Hwk:=aB hwk;have Hw:=aB hw;have HF:=aB hF;have HEF:=aB hEF;have HL:=aB hL;have aSL:=aB head;clear ih hm hs hr hal hwk hw hF hEF hL head;go_enter Tryz.func87,Tryz.ntmps87
 go_upto_region 1 with fail
 generalize hW1:(w.alloc (.cells #[.int .i64 z,.slice ta tb.length tc] 38)).alloc (.cells #[.bool xv,.int .i64 n,.slice ad (Fo.len k) c] 84)=W1;have hB1:Below w.heap.size w W1:=by rw [←hW1];exact (aD _ _).alloc (by simp) _
 have m0:W1.cell? ⟨w.heap.size,0,none⟩=some (.int .i64 z):=by rw [←hW1,World.cell?_alloc_lt _ _ _ (by simp)];exact aF rfl
 have m1:W1.cell? ⟨w.heap.size,1,none⟩=some (.slice ta tb.length tc):=by rw [←hW1,World.cell?_alloc_lt _ _ _ (by simp)];exact aF rfl
 have q0:W1.cell? ⟨w.heap.size+1,0,none⟩=some (.bool xv):=by rw [←hW1];exact aF (World.size_alloc _ _)
 have q1:W1.cell? ⟨w.heap.size+1,1,none⟩=some (.int .i64 n):=by rw [←hW1];exact aF (World.size_alloc _ _)
 have q2:W1.cell? ⟨w.heap.size+1,2,none⟩=some (.slice ad (Fo.len k) c):=by rw [←hW1];exact aF (World.size_alloc _ _)
 clear hW1;cases xv
 · obtain ⟨n0,n1,v0,v1,l2⟩:=aH4 Hm.out Hs.out Hev.out Hw.out;have Hv0:=aB v0;have Hv1:=aB v1;have Hvs:Hid (∀t∈k.list,0<=dF z tb (dX L) t/\dF z tb (dX L) t<z):=λt ht=>aAS Hm.out Hs.out Hev.out (G6 Hwk.out t ht);have Hvt:Hid (∀j,j<=Fo.len k->0<=vTo z tb (dX L) k j/\vTo z tb (dX L) k j<=64):=λj hj=>by
    have h1:=NZ z1 Hvs.out j hj;have h2:=aI0 z1 z8 (j:=j) (by omega);exact ⟨h1.1,by omega⟩
   clear v0 v1
   go_wp2_with fail
   go_loopw [7,20] (λs i wr=>∃j:Nat,j<=Fo.len k/\i= .int .i64 j/\s= .int .i64 (vTo z tb (dX L) k j)/\Below W1.heap.size W1 wr) (λ_ i _=>Fo.len k - (intOf i).toNat)
   case atStart=>exact ⟨0,Nat.zero_le _,rfl,rfl,Below.refl _ _⟩
   case round=>
    obtain ⟨j,hj,rfl,rfl,hBx⟩:=hrel;have hBr:=aC hB1 hBx;have m0':=aA hBx _ _ m0;have m1':=aA hBx _ _ m1;have q1':=aA hBx _ _ q1;by_cases hlt:j<Fo.len k
    · have hlt':(j:Int)<(Fo.len k:Int):=by omega
      obtain ⟨⟨⟨yv,yn⟩,yk⟩,hy⟩:∃y,k.list[j]?=some y:=⟨k.list[j]'(by rw [Hl.out];exact hlt),by simp⟩;obtain ⟨c0,c1,bB,c2,kW⟩:=(HF.out.below hBr).at hy;have ha:ad=some ⟨b,o,none⟩:=had (by omega);subst ha;have HS:=aB kW;obtain ⟨ya,yc,yb,yo,rfl,-,-,-,-⟩:=kW;have hmem:=List.mem_of_getElem? hy;have hvy:=Hvs.out _ hmem;have hvj:=Hvt.out j hj;have jP:=aB (U4 (z:=z) (tb:=tb) (e:=dX L) hy);have Hc:=aB (λ(w':World) (hb:Below wr.heap.size wr w')=>HI.out ((yv,yn),yk) hmem (.slice ta tb.length tc) (.slice ea L.length ec) (.slice ya (Fo.len yk) yc) w' (HT.out.below (aC hBr hb)) (HE.out.below (aC hBr hb)) (HS.out.below hb) (G6 Hwk.out _ hmem));simp only at Hc;generalize dF z tb (dX L) ((yv,yn),yk)=V at hvy jP Hc;generalize vTo z tb (dX L) k j=Aj at hvj jP;have hp0:0<=z*Aj:=Int.mul_nonneg (by omega) hvj.1;have hp1:z*Aj<=8*64:=Int.mul_le_mul z8 hvj.2 hvj.1 (by omega);obtain ⟨hv1,hv2⟩:=hvy;obtain ⟨hv3,hv4⟩:=hvj;have Hwr:Hid (IntKind.i64.wrap (IntKind.i64.wrap (z*Aj)+V)=z*Aj+V):=by
       have e1:IntKind.i64.wrap (z*Aj)=z*Aj:=by rw [IntKind.wrap_i64];omega
       rw [Hid,e1,IntKind.wrap_i64];omega
      clear hy had hmem
      go_upto_region 7 with fail
      generalize fA:wr.alloc (.cells #[.bool yv,.int .i64 yn,.slice ya (Fo.len yk) yc] 84)=wa;have bZ:Below wr.heap.size wr wa:=by rw [←fA];exact aD _ _
      have g0:wa.cell? ⟨wr.heap.size,0,none⟩=some (.bool yv):=by rw [←fA];exact aF rfl
      have g1:wa.cell? ⟨wr.heap.size,1,none⟩=some (.int .i64 yn):=by rw [←fA];exact aF rfl
      have g2:wa.cell? ⟨wr.heap.size,2,none⟩=some (.slice ya (Fo.len yk) yc):=by rw [←fA];exact aF rfl
      have aSX:=aA bZ _ _ m0';have aSW:=aA bZ _ _ m1';have aG:Below wa.heap.size wa wa.drew:=(Below.refl _ _).drew;clear fA c0 c1 c2 m0 m1 m0' m1' q1 q2 q1'
      go_region_held3 (λw'=>w'.cell? ⟨wr.heap.size,0,none⟩=some (.bool yv)/\w'.cell? ⟨wr.heap.size,1,none⟩=some (.int .i64 yn)/\w'.cell? ⟨wr.heap.size,2,none⟩=some (.slice ya (Fo.len yk) yc)/\w'.cell? ⟨w.heap.size,0,none⟩=some (.int .i64 z)/\w'.cell? ⟨w.heap.size,1,none⟩=some (.slice ta tb.length tc))
       (first
         |(with_reducible exact ⟨aA aG _ _ g0,aA aG _ _ g1,aA aG _ _ g2,aA aG _ _ aSX,aA aG _ _ aSW⟩)
         |go_keep)
       (first
         |(go_at_call 87;with_reducible refine (Hc.out _ (aC bZ aG)).mono ?_;rintro e wS ⟨rfl,hbS⟩;replace aG:=aC aG hbS))
      all_goals
       have dC:=aB (aC hBx (aC bZ aG));clear aG hbS
       go_wp2_with fail
       go_roundw
       case rel=>exact ⟨j+1,by omega,by go_num,by rw [jP.out,Hwr.out],dC.out⟩
       case measure=>simp [intOf];omega
    · have lK:j=Fo.len k:=by omega
      subst lK;have GH:Hid (dF z tb (dX L) ((false,n),k)=(tb.getD n.toNat []).getD (lL z tb (dX L) k 0).toNat 0):=rfl;have Hve:=aB (aK3 z tb (dX L) k);rw [Hve.out];obtain ⟨m,rfl⟩:∃m:Nat,n=m:=⟨n.toNat,by omega⟩;have hml:m<tb.length:=by have:=Hm.out.len;omega
      obtain ⟨ta',tc',nT,tq',he1,aDS,aS3,aN8,hTF⟩:=HT.out.below hBr;simp only [Value.slice.injEq,true_and] at he1;obtain ⟨rfl,rfl⟩:=he1;obtain ⟨pv,p1,hP⟩:=hTF m hml;have hta:ta=some ⟨nT,tq',none⟩:=aDS (by omega);subst hta;have aUJ:=Hv0.out;have aO8:=Hv1.out;rw [Int.toNat_natCast] at aO8;rw [Int.toNat_natCast] at GH;generalize tb.getD m []=row at GH hP aO8;generalize lL z tb (dX L) k 0=vq at GH aUJ aO8;obtain ⟨q,rfl⟩:∃q:Nat,vq=q:=⟨vq.toNat,by omega⟩;rw [Int.toNat_natCast] at GH;obtain ⟨ra,rc,rb,ro,rfl,aDT,aS6,aOB,hRF⟩:=hP;have hq:q<row.length:=by omega
      have p2:=hRF q hq;have hra:ra=some ⟨rb,ro,none⟩:=aDT (by omega);subst hra;unfold maxLen at aN8 aOB;generalize row.getD q 0=V at p2 GH;have hm':(m:Int)<(tb.length:Int):=by omega
      have hq':(q:Int)<(row.length:Int):=by omega
      clear hTF hRF aDS aDT had m0 m1 q1 m0' q2
      go_wp2_with fail
      go_ret;exact ⟨by rw [GH.out];rfl,hBr⟩
 · obtain ⟨rfl,n0,n4⟩:=lY GR.out;obtain ⟨m,rfl⟩:∃m:Nat,n=m:=⟨n.toNat,by omega⟩;have hc:=aA hB1 _ _ (HEF.out m (by have:=HL.out;omega));have GH:Hid (dF z tb (dX L) ((true,(m:Int)),.nil)=L.getD m 0):=by
    show dX L m=_;unfold dX;rw [Int.toNat_natCast]
   have hea:ea=some ⟨eb,eo,none⟩:=aSL.out (by have:=HL.out;omega);subst hea;generalize L.getD m 0=V at hc GH;have hm':(m:Int)<(L.length:Int):=by have:=HL.out;omega
   clear m0 m1 q2
   go_wp2_with fail
   go_ret;exact ⟨by rw [GH.out];rfl,hB1⟩
end
section
attribute [local go_sem ↓] Go.wp_at_zero Go.wp_at_succ
theorem aK2 {s:List Int} {x:Bool×Int} {k:Fo} (h:aU s x k=0):bR s x k 1=0:=by
 unfold aU at h;by_cases e:bR s x k 1=0
 · exact e
 · rw [if_pos e] at h;exact absurd h e
theorem OE {s:List Int} {t:Tm} (h:aU s t.1 t.2=0):jS s t:=aIM (aK2 h)
theorem eP {s:List Int} {c:Cl} (h:aN s c=0):∀l∈c,jS s l.2.1/\jS s l.2.2:=λl hl=>⟨OE ((nK.1 h).2 l hl).1,OE ((nK.1 h).2 l hl).2⟩
theorem aEV {z:Int} {tb:List (List Int)} {e:Int->Int} {k:Cl} {j:Nat} {l:Lt} (h:k[j]?=some l):dB z tb e (k.take (j+1))=(dB z tb e (k.take j)||kQ z tb e l):=by unfold dB;rw [List.take_add_one,h];simp
theorem aAZ {z:Int} {tb:List (List Int)} {e:Int->Int} {k:Cl} {j:Nat} {l:Lt} (h:k[j]?=some l) (hl:kQ z tb e l=true):dB z tb e k=true:=by unfold dB;rw [List.any_eq_true];exact ⟨l,List.mem_of_getElem? h,hl⟩
theorem aEX {s L:List Int} {z:Int} {tb:List (List Int)} (hm:MR s z tb) (hs:s.all bN=true) (hL:L.length=5) (hr:∀x∈L,0<=x/\x<z) (k:Cl) (mv ev a:Value) (w:World) (hT:CZ w tb mv) (hE:iK w L ev) (hS:dQ w k a)
  (hw:∀l∈k,jS s l.2.1/\jS s l.2.2):
  Calls Tryz.prog 46 #[.agg #[.int .i64 z,mv],ev,a] w λe w'=>e= .returned (.bool (dB z tb (dX L) k))/\Below w.heap.size w w':=by
 have HT:=aB hT;have HE:=aB hE;have Hw:=aB hw;have GH:=aB (λx k=>aAR hm hs hL hr x k);obtain ⟨ta,tc,rfl⟩:=AV hT;obtain ⟨ea,ec,_,_,rfl,-,-,-,-⟩:=hE;obtain ⟨a1,c1,b1,o1,rfl,eZ,uY,hcm1,hF1⟩:=hS;unfold maxLen at hcm1;have zT:=aB hF1;clear hm hs hL hr hT hw hF1;go_enter Tryz.func46,Tryz.ntmps46
 go_upto_region 1 with fail
 generalize hW1:w.alloc (.cells #[.int .i64 z,.slice ta tb.length tc] 38)=W1;have hB1:Below w.heap.size w W1:=by rw [←hW1];exact aD _ _
 have m0:W1.cell? ⟨w.heap.size,0,none⟩=some (.int .i64 z):=by rw [←hW1];exact aF rfl
 have m1:W1.cell? ⟨w.heap.size,1,none⟩=some (.slice ta tb.length tc):=by rw [←hW1];exact aF rfl
 clear hW1
 go_wp2_with fail
 go_loopw [11] (λi wr=>∃j:Nat,j<=k.length/\i= .int .i64 j/\dB z tb (dX L) (k.take j)=false/\Below W1.heap.size W1 wr) (λi _=>k.length - (intOf i).toNat)
 case atStart=>exact ⟨0,Nat.zero_le _,rfl,rfl,Below.refl _ _⟩
 case round=>
  obtain ⟨j,hj,rfl,hno,hBx⟩:=hrel;have Hno:=aB hno;clear hno;have hBr:=aC hB1 hBx;replace m0:=aA hBx _ _ m0;replace m1:=aA hBx _ _ m1;by_cases hlt:j<k.length
  · have hlt':(j:Int)<(k.length:Int):=by omega
    obtain ⟨⟨yn,⟨⟨yv,yi⟩,yk⟩,⟨bB,bH⟩,aZ⟩,hy⟩:∃y,k[j]?=some y:=⟨k[j]'hlt,by simp⟩;obtain ⟨p0,p1,p2,⟨u3,p3,hA⟩,p4,p5,u6,p6,hD⟩:=(zT.out.below hBr).at hy;have ha1:a1=some ⟨b1,o1,none⟩:=eZ (by omega);subst ha1;have HA:=aB hA;have HD:=aB hD;obtain ⟨ya,yc,_,_,rfl,-,-,-,-⟩:=hA;obtain ⟨za,zc,_,_,rfl,-,-,-,-⟩:=hD;have hwy:=Hw.out _ (List.mem_of_getElem? hy);have zR:=aB (λ(w':World) (hb:Below wr.heap.size wr w')=>GH.out (yv,yi) yk (.slice ta tb.length tc) (.slice ea L.length ec) (.slice ya (Fo.len yk) yc) w' (HT.out.below (aC hBr hb)) (HE.out.below (aC hBr hb)) (HA.out.below hb) hwy.1);have cZ:=aB (λ(w':World) (hb:Below wr.heap.size wr w')=>GH.out (bB,bH) aZ (.slice ta tb.length tc) (.slice ea L.length ec) (.slice za (Fo.len aZ) zc) w' (HT.out.below (aC hBr hb)) (HE.out.below (aC hBr hb)) (HD.out.below hb) hwy.2);have Htk:=aB (aEV (z:=z) (tb:=tb) (e:=dX L) hy);have uE:=aB (λh=>aAZ (z:=z) (tb:=tb) (e:=dX L) hy h);have Hlt:Hid (kQ z tb (dX L) (yn,((yv,yi),yk),((bB,bH),aZ))=(yn !=(dF z tb (dX L) ((yv,yi),yk)==dF z tb (dX L) ((bB,bH),aZ)))):=rfl;simp only at zR cZ;generalize dF z tb (dX L) ((yv,yi),yk)=V1 at zR Hlt;generalize dF z tb (dX L) ((bB,bH),aZ)=V2 at cZ Hlt;clear hy eZ hwy;simp only at*
    go_upto_region 4 with fail
    generalize fA:wr.alloc (.cells #[.bool yn,.bool yv,.int .i64 yi,.slice ya (Fo.len yk) yc,.bool bB,.int .i64 bH,.slice za (Fo.len aZ) zc] 86)=wa;obtain ⟨g0,g1,g2,g3,g4,g5,g6,-,bZ,hsa⟩:=dS (T:=86) (x0:= .bool yn) (w:=wr) (wr:=wa) (x1:= .bool yv) (x2:= .int .i64 yi) (x3:= .slice ya (Fo.len yk) yc) (x4:= .bool bB) (x5:= .int .i64 bH) (x6:= .slice za (Fo.len aZ) zc) (by rw [←fA];exact Below.refl _ _);replace m0:=aA bZ _ _ m0;replace m1:=aA bZ _ _ m1;have aG:Below wa.heap.size wa wa.drew:=(Below.refl _ _).drew;obtain ⟨V,hV⟩:∃V,(!(yn==(V1==V2)))=V:=⟨_,rfl⟩;have HV:=aB hV;clear fA hV p0 p1 p2 p3 p4 p5 p6
    go_region_held3 (λw'=>w'.cell? ⟨wr.heap.size,0,none⟩=some (.bool yn)/\w'.cell? ⟨wr.heap.size,1,none⟩=some (.bool yv)/\w'.cell? ⟨wr.heap.size,2,none⟩=some (.int .i64 yi)/\w'.cell? ⟨wr.heap.size,3,none⟩=some (.slice ya (Fo.len yk) yc)/\w'.cell? ⟨wr.heap.size,4,none⟩=some (.bool bB)/\w'.cell? ⟨wr.heap.size,5,none⟩=some (.int .i64 bH)/\w'.cell? ⟨wr.heap.size,6,none⟩=some (.slice za (Fo.len aZ) zc)/\w'.cell? ⟨w.heap.size,0,none⟩=some (.int .i64 z)/\w'.cell? ⟨w.heap.size,1,none⟩=some (.slice ta tb.length tc))
     (first
       |(with_reducible exact ⟨aA aG _ _ g0,aA aG _ _ g1,aA aG _ _ g2,aA aG _ _ g3,aA aG _ _ g4,aA aG _ _ g5,aA aG _ _ g6,aA aG _ _ m0,aA aG _ _ m1⟩)
       |go_keep)
     (first
       |(go_at_call 87;with_reducible refine (zR.out _ (aC bZ aG)).mono ?_;rintro e wS ⟨rfl,hbS⟩;replace aG:=aC aG hbS)
       |(go_at_call 87;with_reducible refine (cZ.out _ (aC bZ aG)).mono ?_;rintro e wU ⟨rfl,xZ⟩;replace aG:=aC aG xZ))
    all_goals
     have dC:=aB (aC hBx (aC bZ aG));clear aG hbS xZ;rw [HV.out];cases V
     · go_wp2_with fail
       go_roundw
       case rel=>exact ⟨j+1,by omega,by go_num,by rw [Htk.out,Hno.out,Hlt.out];exact HV.out,dC.out⟩
       case measure=>simp [intOf];omega
     · go_wp2_with fail
       go_ret;exact ⟨by rw [uE.out (Hlt.out.trans HV.out)];rfl,aC hB1 dC.out⟩
  · have bP:Hid (dB z tb (dX L) k=false):=by
     have e:j=k.length:=by omega
     have:=Hno.out;rw [e,List.take_length] at this;exact this
    clear eZ
    go_wp2_with fail
    go_ret;exact ⟨by rw [bP.out];rfl,hBr⟩
end
end Go.Proofs.YtoklbpbmghbhnaeGreat
