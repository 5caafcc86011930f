import Derived.Test.YtoklbpbmghbhnaeGreatG12
import Derived.Deep.RegionHeld3
import Derived.BigQuiet
namespace Go.Proofs.YtoklbpbmghbhnaeGreat
set_option maxRecDepth 100000
set_option maxHeartbeats 4000000
open Go.RowKit Go.Deep Go.ChangeShapes Go.WideShapes
structure aG3 (w:World) (b:Nat) (l:Lt) (a d:Value):Prop where
 c0:w.cell? ⟨b,0,none⟩=some (.bool l.1)
 c1:w.cell? ⟨b,1,none⟩=some (.bool l.2.1.1.1)
 c2:w.cell? ⟨b,2,none⟩=some (.int .i64 l.2.1.1.2)
 c3:w.cell? ⟨b,3,none⟩=some a
 c4:w.cell? ⟨b,4,none⟩=some (.bool l.2.2.1.1)
 c5:w.cell? ⟨b,5,none⟩=some (.int .i64 l.2.2.1.2)
 c6:w.cell? ⟨b,6,none⟩=some d
 sa:cO w l.2.1.2 a
 sd:cO w l.2.2.2 d
theorem aG3.below {w w':World} (hb:Below w.heap.size w w') {b:Nat} {l:Lt} {a d:Value} (h:aG3 w b l a d):aG3 w' b l a d:=
 ⟨aA hb _ _ h.c0,aA hb _ _ h.c1,aA hb _ _ h.c2,aA hb _ _ h.c3,aA hb _ _ h.c4,aA hb _ _ h.c5,aA hb _ _ h.c6,h.sa.below hb,h.sd.below hb⟩
theorem aBF (p q:Lt) (a d b c:Value) (w:World) (h1:cO w p.2.1.2 a) (h2:cO w p.2.2.2 d) (h3:cO w q.2.1.2 b) (h4:cO w q.2.2.2 c):
 Calls Tryz.prog 130 #[uO p a d,uO q b c] w λe w'=>e= .returned (.bool (dW p q))/\Below w.heap.size w w':=by
 obtain ⟨pn,⟨⟨pv,pi⟩,pk⟩,⟨⟨pv',H8⟩,F6⟩⟩:=p;obtain ⟨qn,⟨⟨qv,qi⟩,qk⟩,⟨⟨qv',qi'⟩,qk'⟩⟩:=q;have H1:=aB h1;have H2:=aB h2;have H3:=aB h3;have H4:=aB h4;obtain ⟨a1,a3,_,_,rfl,-,-,-,-⟩:=h1;obtain ⟨d1,d3,_,_,rfl,-,-,-,-⟩:=h2;obtain ⟨b1,b3,_,_,rfl,-,-,-,-⟩:=h3;obtain ⟨c1,c3,_,_,rfl,-,-,-,-⟩:=h4;simp only at*;go_enter Tryz.func130,Tryz.ntmps130
 go_wp2_with fail
 refine (kH (pv,pi) pk (qv,qi) qk _ _ _ ((H1.out.alloc _).alloc _) ((H3.out.alloc _).alloc _)).mono ?_;rintro e w1 ⟨rfl,hb1⟩;obtain ⟨-,e1,e2,e3,e4,e5,e6,-,hB1,hl1⟩:=dS hb1;obtain ⟨-,f1,f2,f3,f4,f5,f6,-,hB2,hl2⟩:=dS hB1;simp only [World.size_alloc] at e1 e2 e3 e4 e5 e6;clear hb1 hB1;have H1':=aB (H1.out.below hB2);have H2':=aB (H2.out.below hB2);have H3':=aB (H3.out.below hB2);have H4':=aB (H4.out.below hB2);cases he:cB (pv,pi) pk (qv,qi) qk
 · go_wp2_with fail
   refine (kH (pv,pi) pk (qv',qi') qk' _ _ _ H1'.out H4'.out).mono ?_;rintro e w2 ⟨rfl,hb2⟩;have g4:=aA hb2 _ _ e1;have g5:=aA hb2 _ _ e2;have g6:=aA hb2 _ _ e3;have k4:=aA hb2 _ _ f4;have k5:=aA hb2 _ _ f5;have k6:=aA hb2 _ _ f6;clear e1 e2 e3 e4 e5 e6 f1 f2 f3 f4 f5 f6;cases he2:cB (pv,pi) pk (qv',qi') qk'
   · go_wp2_with fail
     go_ret;exact ⟨by simp [dW,he,he2],aC hB2 hb2⟩
   · go_wp2_with fail
     refine (kH (pv',H8) F6 (qv,qi) qk _ _ _ (H2'.out.below hb2) (H3'.out.below hb2)).mono ?_;rintro e w3 ⟨rfl,hb3⟩
     go_wp2_with fail
     go_ret;exact ⟨by simp [dW,he,he2],aC (aC hB2 hb2) hb3⟩
 · go_wp2_with fail
   refine (kH (pv',H8) F6 (qv',qi') qk' _ _ _ H2'.out H4'.out).mono ?_;rintro e w2 ⟨rfl,hb2⟩;have g1:=aA hb2 _ _ e1;have g2:=aA hb2 _ _ e2;have g3:=aA hb2 _ _ e3;have g4:=aA hb2 _ _ e4;have g5:=aA hb2 _ _ e5;have g6:=aA hb2 _ _ e6;have k1:=aA hb2 _ _ f1;have k2:=aA hb2 _ _ f2;have k3:=aA hb2 _ _ f3;have k4:=aA hb2 _ _ f4;have k5:=aA hb2 _ _ f5;have k6:=aA hb2 _ _ f6;clear e1 e2 e3 e4 e5 e6 f1 f2 f3 f4 f5 f6;cases he2:cB (pv',H8) F6 (qv',qi') qk'
   · go_wp2_with fail
     refine (kH (pv,pi) pk (qv',qi') qk' _ _ _ (H1'.out.below hb2) (H4'.out.below hb2)).mono ?_;rintro e w3 ⟨rfl,hb3⟩;have g1':=aA hb3 _ _ g1;have g2':=aA hb3 _ _ g2;have g3':=aA hb3 _ _ g3;have k4':=aA hb3 _ _ k4;have k5':=aA hb3 _ _ k5;have k6':=aA hb3 _ _ k6;clear g1 g2 g3 g4 g5 g6 k1 k2 k3 k4 k5 k6;cases he3:cB (pv,pi) pk (qv',qi') qk'
     · go_wp2_with fail
       go_ret;exact ⟨by simp [dW,he,he2,he3],aC (aC hB2 hb2) hb3⟩
     · go_wp2_with fail
       refine (kH (pv',H8) F6 (qv,qi) qk _ _ _ ((H2'.out.below hb2).below hb3) ((H3'.out.below hb2).below hb3)).mono ?_;rintro e w4 ⟨rfl,hb4⟩
       go_wp2_with fail
       go_ret;exact ⟨by simp [dW,he,he2,he3],aC (aC (aC hB2 hb2) hb3) hb4⟩
   · go_wp2_with fail
     go_ret;exact ⟨by simp [dW,he,he2],aC hB2 hb2⟩
theorem aJW (p l:Lt) (a d b c:Value) (lb:Nat) (w:World) (h1:cO w p.2.1.2 a) (h2:cO w p.2.2.2 d) (hl:aG3 w lb l b c):
 Calls Tryz.prog 129 #[uO p a d,.pointer (some ⟨lb,0,none⟩)] w λe w'=>e= .returned (.bool (dW p l))/\Below w.heap.size w w':=by
 obtain ⟨pn,⟨⟨pv,pi⟩,pk⟩,⟨⟨pv',H8⟩,F6⟩⟩:=p;obtain ⟨qn,⟨⟨qv,qi⟩,qk⟩,⟨⟨qv',qi'⟩,qk'⟩⟩:=l;have H1:=aB h1;have H2:=aB h2;obtain ⟨q0,q1,q2,q3,q4,q5,q6,h3,h4⟩:=hl;have H3:=aB h3;have H4:=aB h4;obtain ⟨a1,a3,_,_,rfl,-,-,-,-⟩:=h1;obtain ⟨d1,d3,_,_,rfl,-,-,-,-⟩:=h2;obtain ⟨b1,b3,_,_,rfl,-,-,-,-⟩:=h3;obtain ⟨c1,c3,_,_,rfl,-,-,-,-⟩:=h4;simp only at*;have hlb:lb<w.heap.size:=World.block_lt_of_cell? _ _ q0;go_enter Tryz.func129,Tryz.ntmps129
 go_wp2_with fail
 refine (aBF (pn,((pv,pi),pk),((pv',H8),F6)) (qn,((qv,qi),qk),((qv',qi'),qk')) _ _ _ _ _ (H1.out.alloc _) (H2.out.alloc _) (H3.out.alloc _) (H4.out.alloc _)).mono ?_;rintro e w1 ⟨rfl,hb1⟩
 go_wp2_with fail
 go_ret;exact ⟨rfl,aW hb1⟩
theorem aFH (p:Lt) (a d:Value) (w:World) (h1:cO w p.2.1.2 a) (h2:cO w p.2.2.2 d) (ok1:gN p.2.1) (ok2:gN p.2.2) (b1:aM p.2.1.2<=4000000000000) (b2:aM p.2.2.2<=4000000000000):
 Calls Tryz.prog 94 #[uO p a d] w λe w'=>e= .returned (.bool (oV p))/\Below w.heap.size w w':=by
 obtain ⟨pn,⟨⟨pv,pi⟩,pk⟩,⟨⟨pv',H8⟩,F6⟩⟩:=p;have H1:=aB h1;have H2:=aB h2;obtain ⟨a1,a3,_,_,rfl,-,-,-,-⟩:=h1;obtain ⟨d1,d3,_,_,rfl,-,-,-,-⟩:=h2;simp only at*;go_enter Tryz.func94,Tryz.ntmps94
 go_wp2_with fail
 refine (tQ ok1 (H1.out.alloc _) b1 _ (Below.refl _ _)).mono ?_;rintro e w1 ⟨rfl,hb1⟩;obtain ⟨-,e1,e2,e3,e4,e5,e6,-,hB1,hl1⟩:=dS hb1;have H2':=aB (H2.out.below hB1);clear hb1;by_cases hl:12<aM pk
 · go_wp2_with fail
   go_ret;exact ⟨by simp [oV,hl],hB1⟩
 · go_wp2_with fail
   refine (tQ ok2 H2'.out b2 _ (Below.refl _ _)).mono ?_;rintro e w2 ⟨rfl,hb2⟩;have Hb:Hid (oV (pn,((pv,pi),pk),((pv',H8),F6))=(decide ((12:Int)<(aM pk:Nat))||decide ((12:Int)<(aM F6:Nat)))):=by show oV _=_;rw [Bool.eq_iff_iff];simp only [oV,Bool.or_eq_true,decide_eq_true_eq];omega
   go_wp2_with fail
   go_ret;refine ⟨?_,aC hB1 hb2⟩;rw [Hb.out];rfl
theorem zD {pr:Lt->Bool} {f:Lt}:∀{s:Cl} {j:Nat},(∀q p,q<j->s[q]?=some p->pr p=false)->s[j]?=some f->pr f=true->s.find? pr=some f
 |[],_,_,h,_=>by simp at h
 |p::s,0,_,h,hp=>by simp only [List.getElem?_cons_zero,Option.some.injEq] at h;subst h;simp [List.find?,hp]
 |p::s,j+1,hq,h,hp=>by have h0:=hq 0 p (by omega) (by simp);rw [List.find?_cons,h0];exact zD (j:=j) (λq r hqr hr=>hq (q+1) r (by omega) (by simpa using hr)) (by simpa using h) hp
theorem WT {pr:Lt->Bool} {s:Cl} (h:∀q p,q<s.length->s[q]?=some p->pr p=false):s.find? pr=none:=by rw [List.find?_eq_none];intro p hp;obtain ⟨i,hi,e⟩:=List.mem_iff_getElem.1 hp;simp [h i p hi (by rw [List.getElem?_eq_getElem hi,e])]
def DL (s:Cl) (pr:Lt->Bool) (i:Int):Prop:=(i= -1/\s.find? pr=none)\/∃(j:Nat) (f:Lt),i=j/\s[j]?=some f/\s.find? pr=some f
theorem aBN (s:Cl) (l:Lt) (lb:Nat) (lb1 lb2:Value) (vs:Value) (w:World) (hS:dQ w s vs) (hl:aG3 w lb l lb1 lb2):
 Calls Tryz.prog 128 #[vs,.func (.func 129) #[] #[.pointer (some ⟨lb,0,none⟩)]] w λe w'=>∃i,e= .returned (.int .i64 i)/\DL s (λf=>dW f l) i/\Below w.heap.size w w':=by
 obtain ⟨ad,c,b,o,rfl,had,hlc,hcm,hP⟩:=hS;unfold maxLen at hcm;have HP:=aB hP;have HL:=aB hl;clear hl;clear hP;go_enter Tryz.func128,Tryz.ntmps128
 go_wp2_with fail
 go_loopw [8] (λi wr=>∃j:Nat,j<=s.length/\i= .int .i64 j/\(∀q p,q<j->s[q]?=some p->dW p l=false)/\Below w.heap.size w wr) (λi _=>s.length - (intOf i).toNat)
 case atStart=>exact ⟨0,Nat.zero_le _,rfl,λq _ hq=>by omega,Below.refl _ _⟩
 case round=>
  obtain ⟨j,hj,rfl,hno,hBr⟩:=hrel;have Hno:=aB hno;clear hno;by_cases hlt:j<s.length
  · have hlt':(j:Int)<(s.length:Int):=by omega
    obtain ⟨⟨yn,⟨⟨yv,yi⟩,yk⟩,⟨bB,bH⟩,aZ⟩,hy⟩:∃y,s[j]?=some y:=⟨s[j],by simp [hlt]⟩;obtain ⟨p0,p1,p2,⟨u3,p3,hA⟩,p4,p5,u6,p6,hD⟩:=(HP.out.below hBr).at hy;have HA:=aB hA;have HD:=aB hD;obtain ⟨_,_,_,_,rfl,-,-,-,-⟩:=hA;obtain ⟨_,_,_,_,rfl,-,-,-,-⟩:=hD;have ha:ad=some ⟨b,o,none⟩:=had (by omega);subst ha;have Hy:=aB hy;clear hy had;simp only at*
    go_wp2_with fail
    refine (aJW (yn,((yv,yi),yk),((bB,bH),aZ)) l _ _ _ _ lb _ HA.out HD.out (HL.out.below hBr)).mono ?_;rintro e w2 ⟨rfl,hb2⟩;have hB2:=aC hBr hb2;simp only;cases hmb:dW (yn,((yv,yi),yk),((bB,bH),aZ)) l
    · have Hm:=aB hmb;clear hmb hb2
      go_wp2_with fail
      go_roundw
      case rel=>exact ⟨j+1,by omega,by go_num,λq p hq hp=>by
       by_cases e:q=j
       · subst e;rw [Hy.out] at hp;cases hp;exact Hm.out
       · exact Hno.out q p (by omega) hp,hB2⟩
      case measure=>simp [intOf];omega
    · have Hf:Hid (DL s (λf=>dW f l) (j:Int)):= .inr ⟨j,_,rfl,Hy.out,zD Hno.out Hy.out hmb⟩;clear hmb hb2
      go_wp2_with fail
      go_ret;exact ⟨_,rfl,Hf.out,hB2⟩
  · have Hf:Hid (DL s (λf=>dW f l) (-1)):= .inl ⟨rfl,WT λq p hq hp=>Hno.out q p (by omega) hp⟩
    go_wp2_with fail
    go_ret;exact ⟨_,rfl,Hf.out,hBr⟩
theorem aBM (s:Cl) (vs:Value) (w:World) (hS:dQ w s vs) (hg:∀p∈s,zL p/\aM p.2.1.2<=4000000000000/\aM p.2.2.2<=4000000000000):
 Calls Tryz.prog 128 #[vs,.func (.func 94) #[] #[]] w λe w'=>∃i,e= .returned (.int .i64 i)/\DL s oV i/\Below w.heap.size w w':=by
 obtain ⟨ad,c,b,o,rfl,had,hlc,hcm,hP⟩:=hS;unfold maxLen at hcm;have HP:=aB hP;have HG:=aB hg;clear hg;clear hP;go_enter Tryz.func128,Tryz.ntmps128
 go_wp2_with fail
 go_loopw [8] (λi wr=>∃j:Nat,j<=s.length/\i= .int .i64 j/\(∀q p,q<j->s[q]?=some p->oV p=false)/\Below w.heap.size w wr) (λi _=>s.length - (intOf i).toNat)
 case atStart=>exact ⟨0,Nat.zero_le _,rfl,λq _ hq=>by omega,Below.refl _ _⟩
 case round=>
  obtain ⟨j,hj,rfl,hno,hBr⟩:=hrel;have Hno:=aB hno;clear hno;by_cases hlt:j<s.length
  · have hlt':(j:Int)<(s.length:Int):=by omega
    obtain ⟨⟨yn,⟨⟨yv,yi⟩,yk⟩,⟨bB,bH⟩,aZ⟩,hy⟩:∃y,s[j]?=some y:=⟨s[j],by simp [hlt]⟩;obtain ⟨p0,p1,p2,⟨u3,p3,hA⟩,p4,p5,u6,p6,hD⟩:=(HP.out.below hBr).at hy;have HA:=aB hA;have HD:=aB hD;obtain ⟨_,_,_,_,rfl,-,-,-,-⟩:=hA;obtain ⟨_,_,_,_,rfl,-,-,-,-⟩:=hD;have ha:ad=some ⟨b,o,none⟩:=had (by omega);subst ha;have Hy:=aB hy;clear hy had;simp only at*
    go_wp2_with fail
    refine (aFH (yn,((yv,yi),yk),((bB,bH),aZ)) _ _ _ HA.out HD.out (HG.out _ (List.mem_of_getElem? Hy.out)).1.1 (HG.out _ (List.mem_of_getElem? Hy.out)).1.2 (HG.out _ (List.mem_of_getElem? Hy.out)).2.1 (HG.out _ (List.mem_of_getElem? Hy.out)).2.2).mono ?_;rintro e w2 ⟨rfl,hb2⟩;have hB2:=aC hBr hb2;simp only;cases hmb:oV (yn,((yv,yi),yk),((bB,bH),aZ))
    · have Hm:=aB hmb;clear hmb hb2
      go_wp2_with fail
      go_roundw
      case rel=>exact ⟨j+1,by omega,by go_num,λq p hq hp=>by
       by_cases e:q=j
       · subst e;rw [Hy.out] at hp;cases hp;exact Hm.out
       · exact Hno.out q p (by omega) hp,hB2⟩
      case measure=>simp [intOf];omega
    · have Hf:Hid (DL s oV (j:Int)):= .inr ⟨j,_,rfl,Hy.out,zD Hno.out Hy.out hmb⟩;clear hmb hb2
      go_wp2_with fail
      go_ret;exact ⟨_,rfl,Hf.out,hB2⟩
  · have Hf:Hid (DL s oV (-1)):= .inl ⟨rfl,WT λq p hq hp=>Hno.out q p (by omega) hp⟩
    go_wp2_with fail
    go_ret;exact ⟨_,rfl,Hf.out,hBr⟩
theorem M8 (s:Cl) (vs:Value) (w:World) (hS:dQ w s vs) (hg:∀p∈s,zL p/\aM p.2.1.2<=4000000000000/\aM p.2.2.2<=4000000000000):
 Calls Tryz.prog 93 #[vs,.func (.func 94) #[] #[]] w λe w'=>e= .returned (.bool (s.any oV))/\Below w.heap.size w w':=by
 have HS:=aB hS;obtain ⟨a1,c1,b1,o1,rfl,-,-,-,-⟩:=hS;go_enter Tryz.func93,Tryz.ntmps93
 go_wp2_with fail
 refine (aBM s _ _ HS.out hg).mono ?_;rintro e w2 ⟨i,rfl,hf,hb2⟩;rcases hf with ⟨rfl,hf⟩|⟨j,f,rfl,hj,hf⟩
 · have Hf:Hid (s.any oV=false):=by
    rw [Hid,List.any_eq_false];exact λx hx=>List.find?_eq_none.1 hf x hx
   clear hf
   go_wp2_with fail
   go_ret;exact ⟨by rw [Hf.out];rfl,hb2⟩
 · have Hf:Hid (s.any oV=true):=List.any_eq_true.2 ⟨f,List.mem_of_getElem? hj,List.find?_some hf⟩;clear hf hj
   go_wp2_with fail
   go_ret;refine ⟨?_,hb2⟩;rw [Hf.out];simp
section
attribute [local go_sem ↓] Go.wp_at_zero Go.wp_at_succ
def mD (w:World) (cs:List Cl) (v:Value):Prop:=
 ∃(a:Option Addr) (k b o:Nat),v= .slice a cs.length k/\(0<cs.length->a=some ⟨b,o,none⟩)/\cs.length<=k/\k<=maxLen/\∀i c,cs[i]?=some c->∃cv,w.cell? ⟨b,o+i,none⟩=some cv/\dQ w c cv
theorem mD.below {w w':World} (hb:Below w.heap.size w w') {cs:List Cl} {v:Value} (h:mD w cs v):mD w' cs v:=by obtain ⟨a,k,b,o,h1,h2,h3,h4,h5⟩:=h;refine ⟨a,k,b,o,h1,h2,h3,h4,λi c hc=>?_⟩;obtain ⟨cv,k1,k2⟩:=h5 i c hc;exact ⟨cv,aA hb _ _ k1,k2.below hb⟩
theorem mD.nil (w:World):mD w [] (.slice none 0 0):=⟨none,0,0,0,rfl,λh=>by simp at h,Nat.le_refl _,Nat.zero_le _,λi c h=>by simp at h⟩
theorem FM {w:World} {cs:List Cl} {v:Value} (h:mD w cs v):∃z1 z3,v= .slice z1 cs.length z3:=by obtain ⟨a,k,_,_,rfl,_⟩:=h;exact ⟨a,k,rfl⟩
def vI (s:List Int) (cs:List Cl):Bool:=decide (gX s=0)&&(decide (cs.length<=8)&&cs.all λc=>decide (aN s c=0))
theorem pX {s:List Int} {cs:List Cl}:vI s cs=true↔gX s=0/\cs.length<=8/\∀c∈cs,aN s c=0:=by simp [vI,List.all_eq_true]
theorem aA6 (s:List Int) (sv:Value) (cs:List Cl) (v:Value) (w:World) (hN:iK w s sv) (hS:mD w cs v):
 Calls Tryz.prog 15 #[sv,v] w λe w'=>e= .returned (.bool (vI s cs))/\Below w.heap.size w w':=by
 have HN:=aB hN;obtain ⟨sa,sc,_,_,rfl,-,-,-,-⟩:=hN;obtain ⟨a1,c1,b1,o1,rfl,eZ,uY,hcm1,hF1⟩:=hS;unfold maxLen at hcm1;have zT:=aB hF1;clear hF1;go_enter Tryz.func15,Tryz.ntmps15
 go_wp2_with fail
 refine (DN s _ _ HN.out).mono ?_;rintro e w' ⟨rfl,hw'⟩;rw [hw'];clear hw' w';by_cases hw:gX s=0
 · have Hw:=aB hw;simp only [hw];clear hw;by_cases h8:8<cs.length
   · have h8':(8:Int)<(cs.length:Int):=by omega
     have Hf:Hid (vI s cs=false):=by rw [Hid,←Bool.not_eq_true,pX];intro h;omega
     go_wp2_with fail
     go_ret;exact ⟨by rw [Hf.out];rfl,Below.refl _ _⟩
   · have h8':¬(8:Int)<(cs.length:Int):=by omega
     go_wp2_with fail
     go_loopw [17] (λi wr=>∃j:Nat,j<=cs.length/\i= .int .i64 j/\(∀i,i<j->∀c,cs[i]?=some c->aN s c=0)/\Below w.heap.size w wr) (λi _=>cs.length - (intOf i).toNat)
     case atStart=>exact ⟨0,Nat.zero_le _,rfl,λi hi=>by omega,Below.refl _ _⟩
     case round=>
      obtain ⟨j,hj,rfl,hok,hBr⟩:=hrel;have nD:=aB hok;clear hok;by_cases hlt:j<cs.length
      · have hlt':(j:Int)<(cs.length:Int):=by omega
        obtain ⟨c,hc⟩:∃c,cs[j]?=some c:=⟨cs[j]'hlt,by simp⟩;obtain ⟨cv,p0,hC⟩:=zT.out j c hc;replace p0:=aA hBr _ _ p0;have HC:=aB (hC.below hBr);obtain ⟨q1,q3,rfl⟩:=aK hC;have ha1:a1=some ⟨b1,o1,none⟩:=eZ (by omega);subst ha1;have Hc:=aB hc;clear hc eZ hC
        go_wp2_with fail
        refine (X5 s _ c _ _ (HN.out.below hBr) HC.out).mono ?_;rintro e w2 ⟨rfl,hb2⟩;replace hBr:=aC hBr hb2;clear hb2;by_cases he:aN s c=0
        · have Hn:Hid (∀i,i<j+1->∀c,cs[i]?=some c->aN s c=0):=λi hi d hd=>by
           by_cases e:i=j
           · rw [e,Hc.out] at hd;cases hd;exact he
           · exact nD.out i (by omega) d hd
          simp only [he];clear he
          go_wp2_with fail
          go_roundw
          case rel=>exact ⟨j+1,by omega,by go_num,Hn.out,hBr⟩
          case measure=>simp [intOf];omega
        · have xJ:(aN s c !=0)=true:=by simp [he]
          have Hf:Hid (vI s cs=false):=by rw [Hid,←Bool.not_eq_true,pX];intro h;exact he (h.2.2 c (List.mem_of_getElem? Hc.out))
          generalize aN s c=er at*;clear he
          go_wp2_with fail
          go_ret;exact ⟨by rw [Hf.out];rfl,hBr⟩
      · have Hf:Hid (vI s cs=true):=by
         rw [Hid,pX];refine ⟨Hw.out,by omega,λc hc=>?_⟩;obtain ⟨i,hi⟩:=List.mem_iff_getElem?.1 hc;have:=(List.getElem?_eq_some_iff.1 hi).1;exact nD.out i (by omega) c hi
        clear eZ
        go_wp2_with fail
        go_ret;exact ⟨by rw [Hf.out];rfl,hBr⟩
 · have xJ:(gX s !=0)=true:=by simp [hw]
   have Hf:Hid (vI s cs=false):=by rw [Hid,←Bool.not_eq_true,pX];intro h;exact hw h.1
   generalize gX s=er at xJ;clear hw
   go_wp2_with fail
   go_ret;exact ⟨by rw [Hf.out];rfl,Below.refl _ _⟩
end
def QG (w:World) (b:Nat):Prop:=∀(o:Nat) (x:Bool),w.cell? ⟨b,o,none⟩=some (.bool x)->w.cell? ⟨b,o+1,none⟩=none
def wL (w w':World):Prop:=∀q,¬QG w q->∀o,w'.cell? ⟨q,o,none⟩=w.cell? ⟨q,o,none⟩
theorem wL.fin {w w':World} (h:wL w w'):∀{F:Fo} {b o:Nat},uL w F b o->uL w' F b o
 | .nil,_,_,_=>trivial
 | .node _ _ x k r,b,o,⟨h0,h1,⟨a,c,b',o',h2,h3,h4,h5,h6⟩,h7⟩=>by
  have hb:¬QG w b:=λhn=>by rw [hn o x.1 h0] at h1;cases h1
  exact ⟨(h b hb o).trans h0,(h b hb (o+1)).trans h1,⟨a,c,b',o',(h b hb (o+2)).trans h2,h3,h4,h5,h.fin h6⟩,h.fin h7⟩
theorem wL.sin {w w':World} (h:wL w w') {k:Fo} {v:Value} (hS:cO w k v):cO w' k v:=by obtain ⟨a,c,b,o,rfl,h3,h4,h5,h6⟩:=hS;exact ⟨a,c,b,o,rfl,h3,h4,h5,h.fin h6⟩
theorem wL.lin {w w':World} (h:wL w w'):∀{c:Cl} {b o:Nat},GQ w c b o->GQ w' c b o
 |[],_,_,_=>trivial
 |l::_,b,o,⟨⟨h0,h1,h2,⟨v,h3,h4⟩,h5,h6,u,h7,h8⟩,h9⟩=>by
  have hb:¬QG w b:=λhn=>by rw [hn o l.1 h0] at h1;cases h1
  exact ⟨⟨(h b hb _).trans h0,(h b hb _).trans h1,(h b hb _).trans h2,⟨v,(h b hb _).trans h3,h.sin h4⟩,(h b hb _).trans h5,(h b hb _).trans h6,u,(h b hb _).trans h7,h.sin h8⟩,h.lin h9⟩
theorem wL.cin {w w':World} (h:wL w w') {c:Cl} {v:Value} (hC:dQ w c v):dQ w' c v:=by obtain ⟨a,k,b,o,h1,h2,h3,h4,h5⟩:=hC;exact ⟨a,k,b,o,h1,h2,h3,h4,h.lin h5⟩
theorem nE {w w':World} (h:∀q,q<w.heap.size->¬QG w q->w'.heap[q]?=w.heap[q]?):wL w w':=λq hq o=>by
 by_cases hlt:q<w.heap.size
 · exact World.cell?_of_block (h q hlt hq)
 · exfalso;refine hq λo x hx=>?_;exact absurd (World.block_lt_of_cell? _ _ hx) hlt
theorem kT {w w':World} (hb:Below w.heap.size w w'):wL w w':=nE λq hq _=>hb.block q hq
theorem M0 {w:World} {b:Nat} (h:∀o v,w.cell? ⟨b,o,none⟩=some v->∃a n k,v= .slice a n k):QG w b:=λo x hx=>by obtain ⟨a,n,k,e⟩:=h o _ hx;cases e
theorem wL.trans {w w1 w2:World} (h:wL w w1) (h2:wL w1 w2):wL w w2:=λq hq o=>by
 have h1:¬QG w1 q:=λhn=>hq λo x hx=>by rw [←h q hq o] at hx;rw [←h q hq (o+1)];exact hn o x hx
 rw [h2 q h1 o,h q hq o]
def aNZ (u:Value):Prop:=∃a n k,u= .slice a n k
def SlR (w:World) (g:Nat):Prop:=∃cur e,w.heap[g]?=some (.cells cur e (0,0))/\∀u∈cur.toList,aNZ u
theorem SlR.not {w:World} {g:Nat} (h:SlR w g):QG w g:=by
 obtain ⟨cur,e,hg,hu⟩:=h;refine M0 λo v hv=>?_;have:cur[o]?=some v:=by simpa [World.cell?,hg] using hv
 have hm:v∈cur:=Array.mem_of_getElem? this;exact hu v (by simpa using hm)
theorem SlR.keep {w w':World} {g:Nat} (h:SlR w g) (he:w'.heap[g]?=w.heap[g]?):SlR w' g:=by obtain ⟨cur,e,hg,hu⟩:=h;exact ⟨cur,e,he.trans hg,hu⟩
theorem aCB {n:Nat}:∀u∈(Builtin.zeroCells (Value.slice none 0 0).cells n).toList,aNZ u:=λu hu=>by simp only [Builtin.zeroCells,Value.cells,Array.toList_map,List.mem_map] at hu;obtain ⟨i,_,rfl⟩:=hu;refine ⟨none,0,0,?_⟩;simp [Nat.mod_one]
theorem MW {P:Program} (w:World) (t ty:TypeId) (base:Nat) (e:TypeId) (i:TypeInfo) (bytes:Nat) (ht:P.underlying t=some (.slice e)) (hi:P.info? e=some i) (hz:i.zero=some (.slice none 0 0))
 (hsize:i.size=1) (hby:i.bytes=bytes) (v:Value) (n:Nat) (xs:List Value) (hown:w.ownsRow base e 1 v n xs) (hsl:∀g,v.ownBlock=some g->SlR w g)
 (ad:Addr) (m c:Nat) (news:List Value) (hl:news.length=m) (hnews:∀j u,news[j]?=some u->w.cell? (ad.add j)=some u) (hns:∀u∈news,aNZ u)
 (hm:0<m) (h63:n+m<=maxLen) (hbytes:(n+m)*bytes<=140737488355328) (hbase:base<=w.heap.size):
 ∃v' w',(Builtin.append_ #[t,t] ty #[v,.slice (some ad) m c]).run P w= .ok v' w'/\w'.ownsRow base e 1 v' (n+m) (xs++news)/\w.grownBy w' v.ownBlock/\(v'.ownBlock=v.ownBlock\/v'.ownBlock=some w.heap.size)/\∀g,v'.ownBlock=some g->SlR w' g:=by
 have h1:∀u∈news,u.oneCell'=true:=λu hu=>by obtain ⟨a,k,z,rfl⟩:=hns u hu;rfl
 obtain ⟨g,bW,w',hr,h2,h3,h4,h5⟩:=qC (P:=P) w t ty base e i (.slice none 0 0) 1 bytes ht hi hz hsize hby rfl (by omega) v n xs hown ad m c news (by omega) hnews h1 hm h63 hbytes hbase;have hsmall:n+m<=9223372036854775807:=by simp only [maxLen] at h63;omega
 refine ⟨_,w',hr,h2,h3,?_,λg' hg'=>?_⟩
 · rcases h4 with h|⟨h,_⟩
   · left;rw [h];rfl
   · right;rw [h];rfl
 · have eg:g=g':=by simpa [Value.ownBlock] using hg'
   subst eg;subst hby;rcases hown.2 with ⟨rfl,rfl⟩|⟨g0,cap0,cur,rfl,hbg,hg,hnc,hcm,hcs,htake⟩
   · have hr2:=run_append_nil (P:=P) w t ty e i (.slice none 0 0) ht hi hz ad m c news (by rw [hsize];omega) hnews (by omega) (by omega) (by have hb:=hbytes;simp only [Nat.zero_add] at hb;omega);rw [hr] at hr2;simp only [Result.ok.injEq,Value.slice.injEq,Option.some.injEq,Addr.mk.injEq] at hr2;obtain ⟨⟨⟨e1,_⟩,_⟩,e2⟩:=hr2;rw [e1,e2];refine ⟨_,e,heap_alloc_new w.drew _,λu hu=>?_⟩;rw [Array.toList_append,List.mem_append] at hu;rcases hu with hu|hu
     · exact hns u (by simpa using hu)
     · exact aCB u hu
   · obtain ⟨cur',e',hg',hu'⟩:=hsl g0 rfl;rw [hg] at hg';simp only [Option.some.injEq,Obj.cells.injEq] at hg';obtain ⟨rfl,rfl,_⟩:=hg';by_cases hroom:n+m<=cap0
     · have hfit:n*i.size+news.length<=cur.size:=by rw [hsize,hcs];omega
       have hr2:=run_append_room (P:=P) w t ty e i ht hi g0 n cap0 cur hg ad m c news (by rw [hsize];omega) hnews h1 hroom hfit;rw [hr] at hr2;simp only [Result.ok.injEq,Value.slice.injEq,Option.some.injEq,Addr.mk.injEq] at hr2;obtain ⟨⟨⟨e1,_⟩,_,e2⟩,e3⟩:=hr2;rw [e1,e3];refine ⟨_,e,setRow_heap w g0 cur _ e (0,0) hg,λu hu=>?_⟩;rw [List.mem_append,List.mem_append] at hu;rcases hu with (hu|hu)|hu
       · exact hu' u (List.mem_of_mem_take hu)
       · exact hns u hu
       · exact hu' u (List.mem_of_mem_drop hu)
     · have holds:∀j u,xs[j]?=some u->w.cell? ((⟨g0,0,none⟩:Addr).add j)=some u:=hown.cells (g:=g0) rfl;have hr2:=run_append_grow (P:=P) w t ty e i (.slice none 0 0) ht hi hz ⟨g0,0,none⟩ n cap0 xs (by rw [hsize];exact hown.1) holds ad m c news (by rw [hsize];omega) hnews (by omega) (by omega) (growslice_fits (by omega) hbytes);rw [hr] at hr2;simp only [Result.ok.injEq,Value.slice.injEq,Option.some.injEq,Addr.mk.injEq] at hr2;obtain ⟨⟨⟨e1,_⟩,_⟩,e2⟩:=hr2;rw [e1,e2];refine ⟨_,e,heap_alloc_new w.drew _,λu hu=>?_⟩;rw [Array.toList_append,Array.toList_append,List.mem_append,List.mem_append] at hu;rcases hu with (hu|hu)|hu
       · have:u∈cur.toList.take (n*1):=by rw [htake];simpa using hu
         exact hu' u (List.mem_of_mem_take this)
       · exact hns u (by simpa using hu)
       · exact aCB u hu
def mW (w:World) (b:Nat):Nat->List Value->World
 |_,[]=>w
 |o,x::xs=>mW (w.setCell ⟨b,o,none⟩ x) b (o+1) xs
theorem dP {b q i:Nat}:∀{xs:List Value} {o:Nat} {w:World},(q≠b\/i<o\/o+xs.length<=i)->(mW w b o xs).cell? ⟨q,i,none⟩=w.cell? ⟨q,i,none⟩
 |[],_,_,_=>rfl
 |x::xs,o,w,h=>by rw [mW,dP (xs:=xs) (by simp at h;omega),aX (by intro e;simp only [Addr.mk.injEq] at e;simp at h;omega)]
theorem vX {b:Nat} {q:Addr}:∀{xs:List Value} {o:Nat} {w:World},(mW w b o xs).frozen? q=w.frozen? q
 |[],_,_=>rfl
 |x::xs,o,w=>by rw [mW,vX (xs:=xs)];simp
theorem lX {b:Nat}:∀{xs:List Value} {o:Nat} {w:World},(mW w b o xs).heap.size=w.heap.size
 |[],_,_=>rfl
 |x::xs,o,w=>by rw [mW,lX (xs:=xs)];simp [World.setCell]
theorem gW {B:Nat} {b:Nat} {w:World} (hb:B<=b):∀{xs:List Value} {o:Nat} {w1:World},Below B w w1->Below B w (mW w1 b o xs)
 |[],_,_,h=>h
 |_::xs,_,_,h=>gW hb (xs:=xs) (h.setCell hb _)
theorem tC {b:Nat}:∀{xs:List Value} {o:Nat} {w:World},(∀i,i<xs.length->∃u,w.cell? ⟨b,o+i,none⟩=some u)->∀i x,xs[i]?=some x->(mW w b o xs).cell? ⟨b,o+i,none⟩=some x
 |[],_,_,_,i,x,h=>by simp at h
 |y::xs,o,w,hc,0,x,h=>by simp at h;subst h;rw [mW,dP (.inr (.inl (by omega)))];obtain ⟨u,hu⟩:=hc 0 (by simp);exact fK hu
 |y::xs,o,w,hc,i+1,x,h=>by rw [mW,show o+(i+1)=o+1+i by omega];refine tC (xs:=xs) (λq hq=>?_) i x (by simpa using h);obtain ⟨u,hu⟩:=hc (q+1) (by simp;omega);exact ⟨u,by rw [aX (by intro e;simp only [Addr.mk.injEq] at e;omega),show o+1+q=o+(q+1) by omega];exact hu⟩
theorem fH {w:World} {b o q i:Nat} {x0 x1 x2 x3 x4 x5 x6 v:Value} (hq:q≠b) (h:w.cell? ⟨q,i,none⟩=some v):
 (((((((w.setCell ⟨b,o,none⟩ x0).setCell ⟨b,o+1,none⟩ x1).setCell ⟨b,o+2,none⟩ x2).setCell ⟨b,o+3,none⟩ x3).setCell ⟨b,o+4,none⟩ x4).setCell ⟨b,o+5,none⟩ x5).setCell ⟨b,o+6,none⟩ x6).cell? ⟨q,i,none⟩=some v:=
 (dP (xs:=[x0,x1,x2,x3,x4,x5,x6]) (o:=o) (w:=w) (.inl hq)).trans h
def mE (g:Nat) (W2:World) (T:Cl) (j:Nat) (wr:World):Prop:=
 Below g W2 wr/\qL wr g (T.length*7)/\g+1<=wr.heap.size/\∃xs,LC (λq=>g+1<=q/\q<wr.heap.size) wr (T.take j) xs/\∀i,i<xs.length->wr.cell? ⟨g,i,none⟩=xs[i]?
theorem KA {W2:World} {T:Cl} {z:Array Value}:mE W2.heap.size W2 T 0 (W2.alloc (.cells (madeCells z (T.length*7)) 86)):=by
 refine ⟨aD _ _,λi hi=>⟨?_,nN _ _ _ _⟩,by simp,[],rfl,λi hi=>by simp at hi⟩;have hs:i<(madeCells z (T.length*7)).size:=by simp [madeCells];exact hi
 exact ⟨(madeCells z (T.length*7))[i],by simp [hs]⟩
theorem R9 {g:Nat} {W2 wr w2:World} {T:Cl} {j:Nat} {l:Lt} {a d:Value} (h:mE g W2 T j wr) (hl:T[j]?=some l) (hb:Below wr.heap.size wr w2)
 (hA:SB (λq=>wr.heap.size<=q/\q<w2.heap.size) w2 l.2.1.2 a) (hD:SB (λq=>wr.heap.size<=q/\q<w2.heap.size) w2 l.2.2.2 d):mE g W2 T (j+1) (mW w2 g (j*7) (jT l a d)):=by
 obtain ⟨hB,hT,hs,xs,hX,hc⟩:=h;have hj:j<T.length:=(List.getElem?_eq_some_iff.1 hl).1;have hsz:=hb.size;have keep:∀q i,q<wr.heap.size->w2.cell? ⟨q,i,none⟩=wr.cell? ⟨q,i,none⟩/\w2.frozen? ⟨q,i,none⟩=wr.frozen? ⟨q,i,none⟩:=λq i hq=>⟨hb.cell hq,hb.frozen hq⟩;have F7:qL w2 g (T.length*7):=λi hi=>by obtain ⟨⟨v,hv⟩,hf⟩:=hT i hi;have:=keep g i (by omega);exact ⟨⟨v,this.1.trans hv⟩,this.2.trans hf⟩
 have hxl:xs.length=j*7:=by rw [hX.len,List.length_take];rw [Nat.min_eq_left (by omega)]
 have at7:=tC (b:=g) (xs:=jT l a d) (o:=j*7) (w:=w2) (λi hi=>(F7 (j*7+i) (by simp at hi;omega)).1);have far:∀q i,q≠g->(mW w2 g (j*7) (jT l a d)).cell? ⟨q,i,none⟩=w2.cell? ⟨q,i,none⟩:=λq i hq=>dP (.inl hq);refine ⟨gW (Nat.le_refl _) (hB.trans (hb.mono (by omega))),λi hi=>?_,by rw [lX];omega,xs++jT l a d,?_,λi hi=>?_⟩
 · obtain ⟨⟨v,hv⟩,hf⟩:=F7 i hi;refine ⟨?_,by rw [vX];exact hf⟩;by_cases hc:i<j*7\/j*7+7<=i
   · exact ⟨v,by rw [dP (.inr hc)];exact hv⟩
   · obtain ⟨q,rfl⟩:∃q,i=j*7+q:=⟨i - j*7,by omega⟩;exact ⟨_,at7 q _ (List.getElem?_eq_getElem (by simp;omega))⟩
 · rw [List.take_add_one,hl];refine LC.append (LC.one ?_ ?_) ?_
   · refine hA.frame (λq hq=>⟨by omega,by rw [lX];omega⟩) (λq i hq=>far q i (by omega))
   · refine hD.frame (λq hq=>⟨by omega,by rw [lX];omega⟩) (λq i hq=>far q i (by omega))
   · refine hX.frame (λq hq=>⟨by omega,by rw [lX];omega⟩) (λq i hq=>(far q i (by omega)).trans (keep q i hq.2).1)
 · rw [List.getElem?_append];by_cases hc':i<xs.length
   · rw [if_pos hc',dP (.inr (.inl (by omega))),(keep g i (by omega)).1];exact hc i hc'
   · rw [if_neg hc'];have hi':i - xs.length<7:=by simp at hi;omega
     have:=at7 (i - xs.length) _ (List.getElem?_eq_getElem (by simpa using hi'));rw [show j*7+(i - xs.length)=i by omega] at this;rw [this,List.getElem?_eq_getElem (by simpa using hi')]
theorem aAD {g:Nat} {W2 wr:World} {T:Cl} (h:mE g W2 T T.length wr) (hm:T.length<=maxLen):dQ wr T (.slice (some ⟨g,0,none⟩) T.length T.length):=by obtain ⟨_,_,_,xs,hX,hc⟩:=h;rw [List.take_length] at hX;exact ⟨_,_,g,0,rfl,λ_=>rfl,Nat.le_refl _,hm,hX.at (λj hj=>by rw [Nat.zero_add];exact hc j hj)⟩
theorem aCX {w w3:World} {z1:Option Addr} {z2 z3:Nat} {tv:Bool} {tn:Int} {tk:Fo} {lo g:Nat} (hO:dK w3 lo w3.heap.size tk (.slice z1 z2 z3)) (hg:g<lo) (hlo:w.heap.size<=lo):
 dK (set3 w3 g 0 (.bool tv) (.int .i64 tn) (.slice z1 z2 z3)) w.heap.size (set3 w3 g 0 (.bool tv) (.int .i64 tn) (.slice z1 z2 z3)).heap.size tk (.slice z1 z2 z3):=by
 have h2:dK (set3 w3 g 0 (.bool tv) (.int .i64 tn) (.slice z1 z2 z3)) lo w3.heap.size tk (.slice z1 z2 z3):=hO.frame (λq i q1 q2=>⟨aS (.inl (by omega)),aQ⟩);exact h2.mono hlo (by rw [bQ];exact Nat.le_refl _)
theorem PT (s:Sb) (vs:Value) (sb:Nat) (x:Bool×Int) (k:Fo) (a:Value) (w:World) (h:UO s vs sb w) (hS:cO w k a) (hn:jD (x,k)):
 Calls Tryz.prog 83 #[.agg #[.bool x.1,.int .i64 x.2,a],.pointer (some ⟨sb,0,none⟩)] w λe w'=>∃a',e= .returned (.agg #[.bool (aH (aV s) (x,k)).1.1,.int .i64 (aH (aV s) (x,k)).1.2,a'])/\dK w' w.heap.size w'.heap.size (aH (aV s) (x,k)).2 a'/\Below w.heap.size w w':=by
 obtain ⟨xv,xn⟩:=x;have HS:=aB hS;have HI:=aB h;obtain ⟨ad,c,_,_,rfl,-,-,-,-⟩:=hS;obtain ⟨hc,hV,hs⟩:=h;have HV:=aB hV;obtain ⟨v1,v3,rfl⟩:=gG hV;clear hV;have hpb:sb<w.heap.size:=World.block_lt_of_cell? _ _ hc;have hc':((w.alloc (.cells #[.bool xv,.int .i64 xn,.slice ad (Fo.len k) c] 84)).alloc (.cells #[.bool false,.int .i64 0,.slice none 0 0] 84)).cell? ⟨sb,0,none⟩=some (.slice v1 s.length v3):=by rw [World.cell?_alloc_lt _ _ _ (by show sb<_;simp;omega),World.cell?_alloc_lt _ _ _ hpb];exact hc
 go_enter Tryz.func83,Tryz.ntmps83
 go_wp2_with fail
 refine (nJ s _ (xv,xn) k _ _ ((HV.out.alloc _).alloc _) hs ((HS.out.alloc _).alloc _) hn).mono ?_;rintro e w1 ⟨a',rfl,hO,hb⟩;obtain ⟨⟨⟨tv,tn⟩,tk⟩,ht⟩:∃t,t=aH (aV s) ((xv,xn),k):=⟨_,rfl⟩;rw [←ht] at hO ⊢;have TK:=hO;obtain ⟨z1,z2,z3,rfl⟩:=bC hO.toS;have hsz:=hb.size;simp only [World.size_alloc] at hsz;have r0:w1.cell? ⟨w.heap.size+1,0,none⟩=some (.bool false):=aA hb _ _ (aF (World.size_alloc _ _));have r1:w1.cell? ⟨w.heap.size+1,1,none⟩=some (.int .i64 0):=aA hb _ _ (aF (World.size_alloc _ _));have r2:w1.cell? ⟨w.heap.size+1,2,none⟩=some (.slice none 0 0):=aA hb _ _ (aF (World.size_alloc _ _));have rf:∀i,w1.frozen? ⟨w.heap.size+1,i,none⟩=false:=λi=>(hb.frozen (by show w.heap.size+1<_;simp)).trans (bL (World.size_alloc _ _));have hB:=aW (aW hb);have HO:Hid (dK w1 (w.heap.size+1+1) w1.heap.size tk (.slice z1 z2 z3)):=by have:=hO;simp only [World.size_alloc] at this;exact this
 have Ht:=aB ht;clear hb hO TK ht hc hc';simp only
 go_wp2_with fail
 refine bodyPost_ret (v:= .agg #[.bool tv,.int .i64 tn,.slice z1 z2 z3]) (by simp [results,Tryz.results83,go_sem,r0,r1,r2]) rfl ⟨.slice z1 z2 z3,by rw [←Ht.out],?_,aT (o:=0) hB (by omega)⟩;rw [←Ht.out];exact aCX HO.out (by omega) (by omega)
theorem aF0 (s:Sb) (vs:Value) (sb:Nat) (k:Cl) (a:Value) (w:World) (h:UO s vs sb w) (hS:dQ w k a) (hn:∀l∈k,jD l.2.1/\jD l.2.2) (hlen:k.length<=1000000):
 Calls Tryz.prog 82 #[a,.func (.func 83) #[] #[.pointer (some ⟨sb,0,none⟩)]] w λe w'=>∃g,e= .returned (.slice (some ⟨g,0,none⟩) k.length k.length)/\dQ w' (k.map (bK (aH (aV s)))) (.slice (some ⟨g,0,none⟩) k.length k.length)/\Below w.heap.size w w':=by
 obtain ⟨a1,c1,b1,o1,rfl,eZ,uY,hcm1,hF1⟩:=hS;unfold maxLen at hcm1;have zT:=aB hF1;have HI:=aB h;have Hn:=aB hn;clear hF1 h hn;obtain ⟨iL,hi,hz0,hz1,hz2⟩:=info_parts Tryz.info86;have hmk:=λw:World=>run_make (P:=Tryz.prog) w 44 86 iL _ Tryz.underlying44 hi hz0 .i64 .i64 (k.length:Int) (k.length:Int) (by omega) (by omega) (by rw [hz2];omega) (by omega);rw [hz1] at hmk;simp only [Int.toNat_natCast] at hmk;go_enter Tryz.func82,Tryz.ntmps82
 go_wp2_with fail
 clear hmk hi hz0 hz1 hz2;have H0:Hid (mE w.heap.size w (k.map (bK (aH (aV s)))) 0 (w.alloc (.cells (madeCells #[.bool false,.bool false,.int .i64 0,.slice none 0 0,.bool false,.int .i64 0,.slice none 0 0] (k.length*7)) 86))):=by have:=KA (W2:=w) (T:=k.map (bK (aH (aV s)))) (z:=#[.bool false,.bool false,.int .i64 0,.slice none 0 0,.bool false,.int .i64 0,.slice none 0 0]);rw [List.length_map] at this;exact this
 go_loopw [13] (λi wr=>∃j:Nat,j<=k.length/\i= .int .i64 j/\mE w.heap.size w (k.map (bK (aH (aV s)))) j wr) (λi _=>k.length - (intOf i).toNat)
 case atStart=>exact ⟨0,Nat.zero_le _,rfl,H0.out⟩
 case round=>
  obtain ⟨j,hj,rfl,hR⟩:=hrel;have HR:=aB hR;obtain ⟨hB,hT,hsz,-⟩:=hR;have hBw:Below w.heap.size w wr:=hB;by_cases hlt:j<k.length
  · have hlt':(j:Int)<(k.length:Int):=by omega
    have hj0:(0:Int)<=(j:Int):=by omega
    obtain ⟨⟨yn,⟨⟨yv,yi⟩,yk⟩,⟨bB,bH⟩,aZ⟩,hy⟩:∃y,k[j]?=some y:=⟨k[j]'hlt,by simp⟩;obtain ⟨p0,p1,p2,⟨u3,p3,hA⟩,p4,p5,u6,p6,hD⟩:=(zT.out.below hBw).at hy;have ha1:a1=some ⟨b1,o1,none⟩:=eZ (by omega);subst ha1;have HA:=aB hA;have HD:=aB hD;obtain ⟨ya,yc,_,_,rfl,-,-,-,-⟩:=hA;obtain ⟨za,zc,_,_,rfl,-,-,-,-⟩:=hD;have NH:=aB (Hn.out _ (List.mem_of_getElem? hy));obtain ⟨⟨⟨tv,ti⟩,tk⟩,ht⟩:∃t,t=aH (aV s) ((yv,yi),yk):=⟨_,rfl⟩;obtain ⟨⟨⟨tv',oO⟩,nT⟩,ht'⟩:∃t,t=aH (aV s) ((bB,bH),aZ):=⟨_,rfl⟩;have Hy2:Hid ((k.map (bK (aH (aV s))))[j]?=some (yn,((tv,ti),tk),((tv',oO),nT))):=by rw [Hid,List.getElem?_map,hy,ht,ht'];rfl
    have Ht:=aB ht;have Ht':=aB ht';have hT':qL wr w.heap.size (k.length*7):=by rw [List.length_map] at hT;exact hT
    have hfz:∀i,i<7->(∃v,wr.cell? ⟨w.heap.size,j*7+i,none⟩=some v)/\wr.frozen? ⟨w.heap.size,j*7+i,none⟩=false:=λi hi=>hT' _ (by omega);have yB:=aB hfz;clear hy eZ hT hT' ht ht' hfz hB;simp only at*
    go_upto_region 5 with fail
    generalize fA:wr.alloc (.cells #[.bool yn,.bool yv,.int .i64 yi,.slice ya (Fo.len yk) yc,.bool bB,.int .i64 bH,.slice za (Fo.len aZ) zc] 86)=wa;obtain ⟨g0,g1,g2,g3,g4,g5,g6,-,bZ,hsa⟩:=dS (T:=86) (x0:= .bool yn) (w:=wr) (wr:=wa) (x1:= .bool yv) (x2:= .int .i64 yi) (x3:= .slice ya (Fo.len yk) yc) (x4:= .bool bB) (x5:= .int .i64 bH) (x6:= .slice za (Fo.len aZ) zc) (by rw [fA];exact Below.refl _ _);clear fA;have aG:Below wa.heap.size wa wa.drew:=(Below.refl _ _).drew;have IV:∀w':World,Below wa.heap.size wa w'->Calls Tryz.prog 83 #[.agg #[.bool yv,.int .i64 yi,.slice ya (Fo.len yk) yc],.pointer (some ⟨sb,0,none⟩)] w' λe w''=>∃(z1:Option Addr) (z2 z3:Nat),e= .returned (.agg #[.bool tv,.int .i64 ti,.slice z1 z2 z3])/\dK w'' w'.heap.size w''.heap.size tk (.slice z1 z2 z3)/\Below w'.heap.size w' w'':=λw' hb=>by have hb':=aC (aC hBw bZ) hb;refine (PT s vs sb (yv,yi) yk _ w' (qB s vs sb HI.out hb') (HA.out.below (aC bZ hb)) NH.out.1).mono ?_;rintro e w2 ⟨a',rfl,hO,hb⟩;rw [←Ht.out] at hO;obtain ⟨z1,z2,z3,rfl⟩:=bC hO.toS;exact ⟨z1,z2,z3,by rw [←Ht.out],hO,hb⟩
    have IU:∀w':World,Below wa.heap.size wa w'->Calls Tryz.prog 83 #[.agg #[.bool bB,.int .i64 bH,.slice za (Fo.len aZ) zc],.pointer (some ⟨sb,0,none⟩)] w' λe w''=>∃(z1:Option Addr) (z2 z3:Nat),e= .returned (.agg #[.bool tv',.int .i64 oO,.slice z1 z2 z3])/\dK w'' w'.heap.size w''.heap.size nT (.slice z1 z2 z3)/\Below w'.heap.size w' w'':=λw' hb=>by have hb':=aC (aC hBw bZ) hb;refine (PT s vs sb (bB,bH) aZ _ w' (qB s vs sb HI.out hb') (HD.out.below (aC bZ hb)) NH.out.2).mono ?_;rintro e w2 ⟨a',rfl,hO,hb⟩;rw [←Ht'.out] at hO;obtain ⟨z1,z2,z3,rfl⟩:=bC hO.toS;exact ⟨z1,z2,z3,by rw [←Ht'.out],hO,hb⟩
    have zR:=aB IV;have cZ:=aB IU;clear IV IU p0 p1 p2 p3 p4 p5 p6;have hgz:w.heap.size<wr.heap.size:=by omega
    have hne:wr.heap.size≠w.heap.size:=by omega
    go_region_held3 (λw'=>w'.cell? ⟨wr.heap.size,0,none⟩=some (.bool yn)/\w'.cell? ⟨wr.heap.size,1,none⟩=some (.bool yv)/\w'.cell? ⟨wr.heap.size,2,none⟩=some (.int .i64 yi)/\w'.cell? ⟨wr.heap.size,3,none⟩=some (.slice ya (Fo.len yk) yc)/\w'.cell? ⟨wr.heap.size,4,none⟩=some (.bool bB)/\w'.cell? ⟨wr.heap.size,5,none⟩=some (.int .i64 bH)/\w'.cell? ⟨wr.heap.size,6,none⟩=some (.slice za (Fo.len aZ) zc))
     (first
       |(with_reducible exact ⟨aA aG _ _ g0,aA aG _ _ g1,aA aG _ _ g2,aA aG _ _ g3,aA aG _ _ g4,aA aG _ _ g5,aA aG _ _ g6⟩)
       |(with_reducible exact ⟨fH hne (aA aG _ _ g0),fH hne (aA aG _ _ g1),fH hne (aA aG _ _ g2),fH hne (aA aG _ _ g3),fH hne (aA aG _ _ g4),fH hne (aA aG _ _ g5),fH hne (aA aG _ _ g6)⟩)
       |go_keep)
     (first
       |(go_at_call 83;with_reducible refine (zR.out _ aG).mono ?_;rintro e wS ⟨z1,z2,z3,rfl,QF,hbS⟩;replace aG:=aC aG hbS;have IB:=aB (And.intro QF hbS);clear QF)
       |(go_at_call 83;with_reducible refine (cZ.out _ aG).mono ?_;rintro e wU ⟨y1,y2,y3,rfl,hO2,xZ⟩;have qJ:=aG;replace aG:=aC aG xZ;have GU:=aB (And.intro hO2 xZ);clear hO2;have hall:=aC bZ aG;obtain ⟨⟨t0,e0⟩,f0⟩:=yB.out 0 (by omega);obtain ⟨⟨t1,e1⟩,f1⟩:=yB.out 1 (by omega);obtain ⟨⟨t2,e2⟩,f2⟩:=yB.out 2 (by omega);obtain ⟨⟨t3,e3⟩,f3⟩:=yB.out 3 (by omega);obtain ⟨⟨t4,e4⟩,f4⟩:=yB.out 4 (by omega);obtain ⟨⟨t5,e5⟩,f5⟩:=yB.out 5 (by omega);obtain ⟨⟨t6,e6⟩,f6⟩:=yB.out 6 (by omega);replace e0:=aA hall _ _ e0;replace e1:=aA hall _ _ e1;replace e2:=aA hall _ _ e2;replace e3:=aA hall _ _ e3;replace e4:=aA hall _ _ e4;replace e5:=aA hall _ _ e5;replace e6:=aA hall _ _ e6;replace f0:=(hall.frozen hgz).trans f0;replace f1:=(hall.frozen hgz).trans f1;replace f2:=(hall.frozen hgz).trans f2;replace f3:=(hall.frozen hgz).trans f3;replace f4:=(hall.frozen hgz).trans f4;replace f5:=(hall.frozen hgz).trans f5;replace f6:=(hall.frozen hgz).trans f6;simp only [Nat.add_zero] at e0 f0))
    all_goals
     have fQ:Hid (mE w.heap.size w (k.map (bK (aH (aV s)))) (j+1) (mW wU w.heap.size (j*7) (jT (yn,((tv,ti),tk),((tv',oO),nT)) (.slice z1 z2 z3) (.slice y1 y2 y3)))):=by
      have s1:=bZ.size;have s2:=qJ.size;have s3:=IB.out.2.size;have s4:=GU.out.2.size;refine R9 HR.out Hy2.out (aC bZ aG) ?_ ?_
      · refine ((IB.out.1.toB (X:=λq=>wr.heap.size<=q/\q<wS.heap.size) (λq q1 q2=>⟨?_,q2⟩)).frame (λq hq=>⟨hq.1,?_⟩) (λq i hq=>GU.out.2.cell ?_))
        · have q1':wa.heap.size<=q:=q1;omega
        · have s4':wS.heap.size<=wU.heap.size:=s4;have:=hq.2;omega
        · exact hq.2
      · refine GU.out.1.toB (λq q1 q2=>⟨?_,q2⟩);have q1':wS.heap.size<=q:=q1;omega
     go_wp2_with fail
     go_roundw
     case rel=>exact ⟨j+1,by omega,by go_num,fQ.out⟩
     case measure=>simp [intOf];omega
  · have lK:j=k.length:=by omega
    subst lK;have bP:Hid (dQ wr (k.map (bK (aH (aV s)))) (.slice (some ⟨w.heap.size,0,none⟩) k.length k.length)):=by have:=HR.out;rw [show mE w.heap.size w (k.map (bK (aH (aV s)))) k.length wr=mE w.heap.size w (k.map (bK (aH (aV s)))) (k.map (bK (aH (aV s)))).length wr by rw [List.length_map]] at this;have:=aAD this (by rw [List.length_map];unfold maxLen;omega);rw [List.length_map] at this;exact this
    clear eZ hT hB
    go_wp2_with fail
    go_ret;exact ⟨_,rfl,bP.out,hBw⟩
theorem zJ (s:Sb) (vs:Value) (k:Cl) (a:Value) (w:World) (hV:dZ w s vs) (hs:∀p∈s,jD p.2/\gN p.2) (hS:dQ w k a) (hn:∀l∈k,jD l.2.1/\jD l.2.2) (hlen:k.length<=1000000):
 Calls Tryz.prog 43 #[vs,a] w λe w'=>∃g,e= .returned (.slice (some ⟨g,0,none⟩) k.length k.length)/\dQ w' (k.map (bK (aH (aV s)))) (.slice (some ⟨g,0,none⟩) k.length k.length)/\Below w.heap.size w w':=by
 have HV:=aB hV;have HS:=aB hS;obtain ⟨a1,a3,rfl⟩:=aK hS;obtain ⟨v1,v3,rfl⟩:=gG hV;clear hV hS;go_enter Tryz.func43,Tryz.ntmps43
 go_wp2_with fail
 refine (aF0 s (.slice v1 s.length v3) w.heap.size k _ _ ⟨by simp,HV.out.alloc _,hs⟩ (HS.out.alloc _) hn hlen).mono ?_;rintro e w1 ⟨g,rfl,hC,hb⟩;have HC:=aB hC;clear hC
 go_wp2_with fail
 go_ret;exact ⟨g,rfl,HC.out,aW hb⟩
theorem IY {w:World} {l:Lt} {a1 d1:Option Addr} {a2 a3 d2 d3:Nat}:Cs (w.alloc (.cells #[.bool l.1,.bool l.2.1.1.1,.int .i64 l.2.1.1.2,.slice a1 a2 a3,.bool l.2.2.1.1,.int .i64 l.2.2.1.2,.slice d1 d2 d3] 86)) (.slice (some ⟨w.heap.size,0,none⟩) 1 1) 1 7 (jT l (.slice a1 a2 a3) (.slice d1 d2 d3)):=
 ⟨_,1,rfl,rfl,by simp [Value.oneCell'],λe=>by (cases e),λad hh j u hj=>by cases hh;exact World.news_of_block (cs:=#[.bool l.1,.bool l.2.1.1.1,.int .i64 l.2.1.1.2,.slice a1 a2 a3,.bool l.2.2.1.1,.int .i64 l.2.2.1.2,.slice d1 d2 d3]) (heap_alloc_new w _) j u hj⟩
theorem wY {lo:Nat} {wr w3 w4:World} {s:Cl} {v v4:Value} {xs:List Value} {l:Lt} {a d:Value} (h:lD lo (XO wr v) wr s v xs) (hb:Below wr.heap.size wr w3) (hlo:lo<=wr.heap.size)
 (hA:SB (λq=>q<lo) w3 l.2.1.2 a) (hD:SB (λq=>q<lo) w3 l.2.2.2 d)
 (ho:w4.ownsRow lo 86 7 v4 (s.length+1) (xs++jT l a d)) (hg:w3.grownBy w4 v.ownBlock) (hat:v4.ownBlock=v.ownBlock\/v4.ownBlock=some w3.heap.size):
 lD lo (XO w4 v4) w4 (s++[l]) v4 (xs++jT l a d)/\Below lo wr w4:=by
 have hs:=hb.size;have hs4:=hg.size;have hv:∀q,v.ownBlock=some q->lo<=q/\q<wr.heap.size:=λq hq=>aJ h.row q hq;have noq:∀q,q<w3.heap.size->some q≠v.ownBlock->q<w4.heap.size/\some q≠v4.ownBlock:=λq hq hn=>by
  refine ⟨by omega,λe=>?_⟩;rcases hat with e'|e'
  · exact hn (e.trans e')
  · rw [e'] at e;simp at e;omega
 have ok:∀q,q<lo->q<w3.heap.size/\some q≠v.ownBlock:=λq hq=>by refine ⟨by omega,λe=>?_⟩;have:=hv q e.symm;omega
 refine ⟨⟨by simpa using ho,?_,λq hq=>hq⟩,⟨hg.os.trans hb.os,hg.tape.trans hb.tape,hg.output.trans hb.output,by omega,λq hq=>?_⟩⟩
 · refine LC.append (LC.one ?_ ?_) ?_
   · exact hA.frame (λq hq=>noq q (ok q hq).1 (ok q hq).2) (λq i hq=>World.cell?_of_block (hg.block q (ok q hq).1 (ok q hq).2))
   · exact hD.frame (λq hq=>noq q (ok q hq).1 (ok q hq).2) (λq i hq=>World.cell?_of_block (hg.block q (ok q hq).1 (ok q hq).2))
   · refine h.cells.frame (λq hq=>noq q (by have:=hq.1;omega) hq.2) (λq i hq=>World.cell?_of_block ?_);rw [hg.block q (by have:=hq.1;omega) hq.2,hb.block q hq.1]
 · have hn:some q≠v.ownBlock:=λe=>by have:=hv q e.symm;omega
   rw [hg.block q (by omega) hn,hb.block q (by omega)]
theorem aGA (a b:Tm):oK a b=0\/oK a b=1\/oK a b=2\/oK a b=3:=by
 unfold oK;split
 · simp
 · split
   · simp
   · split<;>simp
theorem BQ {a b:Tm}:oK a b=2↔cB a.1 a.2 b.1 b.2=true:=by
 unfold oK;by_cases h:cB a.1 a.2 b.1 b.2=true
 · simp [h]
 · rw [if_neg h];constructor
   · intro e;split at e
     · omega
     · split at e<;>omega
   · exact λe=>absurd e h
theorem aJ0 {a b:Tm} (h:oK a b=1):dU b a=true:=by
 unfold oK at h;split at h
 · omega
 · split at h
   · omega
   · split at h
     · assumption
     · omega
theorem XG {a b:Tm} (ha:gN a) (hb:gN b) (h:oK a b=0\/oK a b=3):dU b a=false:=by
 unfold oK at h;split at h
 · omega
 · split at h
   · rename_i h2;cases e:dU b a with
     |false=>rfl
     |true=>exact absurd e (XQ ha hb h2)
   · split at h
     · omega
     · rename_i h3;simpa using h3
theorem aIA (k:Cl) (a:Value) (w:World) (hS:dQ w k a) (hg:∀l∈k,Gd l.2.1/\Gd l.2.2/\aM l.2.1.2<=4000000000000/\aM l.2.2.2<=4000000000000) (hlen:k.length<=1000000):
 Calls Tryz.prog 89 #[a] w λe w'=>∃v er d,e= .returned (.tuple #[v,.int .i64 er])/\dQ w' d v/\((er=6/\d=[]/\gV k=none)\/(er=0/\gV k=some d))/\Below w.heap.size w w':=by
 obtain ⟨a1,c1,b1,oo,rfl,eZ,uY,hcm1,hF1⟩:=hS;unfold maxLen at hcm1;have zT:=aB hF1;have HG:=aB hg;clear hF1 hg;obtain ⟨iL,hi,hz0,hz1,hz2⟩:=info_parts Tryz.info86;go_enter Tryz.func89,Tryz.ntmps89
 go_wp2_with fail
 go_loopw [4,9] (λv i wr=>∃(j:Nat) (out:Cl) (o1:Option Addr) (o3:Nat) (xs:List Value),j<=k.length/\i= .int .i64 j/\v= .slice o1 out.length o3/\out.length<=j/\gV (k.take j)=some out/\lD w.heap.size (XO wr v) wr out v xs/\Below w.heap.size w wr) (λ_ i _=>k.length - (intOf i).toNat)
 case atStart=>exact ⟨0,[],none,0,[],Nat.zero_le _,rfl,rfl,Nat.le_refl _,rfl,J3 _ _,Below.refl _ _⟩
 case round=>
  obtain ⟨j,out,o1,o3,xs,hj,rfl,rfl,hol,hT,hO,hBr⟩:=hrel;have HT:=aB hT;have HO:=aB hO;clear hT hO;have TJ:=hBr.size;by_cases hlt:j<k.length
  · have hlt':(j:Int)<(k.length:Int):=by omega
    obtain ⟨⟨yn,⟨⟨yv,yi⟩,yk⟩,⟨bB,bH⟩,aZ⟩,hy⟩:∃y,k[j]?=some y:=⟨k[j]'hlt,by simp⟩;obtain ⟨-,-,-,⟨u3',p3',hA0⟩,-,-,u6',p6',hD0⟩:=zT.out.at hy;obtain ⟨p0,p1,p2,⟨u3,p3,hA⟩,p4,p5,u6,p6,hD⟩:=(zT.out.below hBr).at hy;have e3:u3'=u3:=by have:=aA hBr _ _ p3';rw [p3] at this;exact (Option.some.inj this).symm
    have e6:u6'=u6:=by have:=aA hBr _ _ p6';rw [p6] at this;exact (Option.some.inj this).symm
    subst e3 e6;have ha1:a1=some ⟨b1,oo,none⟩:=eZ (by omega);subst ha1;have HA:=aB hA;have HD:=aB hD;have HA0:=aB hA0.toB;have HD0:=aB hD0.toB;obtain ⟨ya,yc,_,_,rfl,-,-,-,-⟩:=hA;obtain ⟨za,zc,_,_,rfl,-,-,-,-⟩:=hD;have uS:=aB (HG.out _ (List.mem_of_getElem? hy));have Hy:=aB hy;have fQ:Hid (gV (k.take (j+1))=gI (some out) (yn,((yv,yi),yk),((bB,bH),aZ))):=by rw [Hid,aEF hy,HT.out]
    have hn1:out.length+1<=maxLen:=by unfold maxLen;omega
    have hn2:(out.length+1)*88<=140737488355328:=by omega
    clear hy eZ p3' p6' hA0 hD0;simp only at*
    go_wp2_with fail
    refine (FX (yv,yi) yk (bB,bH) aZ _ _ _ uS.out.1 uS.out.2.1 (HA.out.alloc _) (HD.out.alloc _) uS.out.2.2.1 uS.out.2.2.2).mono ?_;rintro e w2 ⟨rfl,hb2⟩;obtain ⟨g0,g1,g2,g3,g4,g5,g6,gf,hb2',hlt2⟩:=dS hb2;have hB2:=aC hBr hb2';clear hb2 p0 p1 p2 p3 p4 p5 p6;rcases aGA ((yv,yi),yk) ((bB,bH),aZ) with hc|hc|hc|hc
    · have UB:Hid (kF (yn,((yv,yi),yk),((bB,bH),aZ))=(yn,((yv,yi),yk),((bB,bH),aZ))):=by
       show kF _=_;unfold kF;rw [if_neg (by rw [XG uS.out.1.ok uS.out.2.1.ok (by omega)];simp)]
      have jP:Hid (gV (k.take (j+1))=some (out++[(yn,((yv,yi),yk),((bB,bH),aZ))])):=by
       show gV _=_;have hns:¬cB (yv,yi) yk (bB,bH) aZ=true:=λh=>by have:=(BQ (a:=((yv,yi),yk)) (b:=((bB,bH),aZ))).2 h;rw [hc] at this;omega
       rw [fQ.out,gI,Option.bind_some,if_neg hns,UB.out]
      rw [hc];clear hc;have hb5:∀ob,Below wr.heap.size wr (w2.alloc ob):=λob=>aC hb2' (aD _ _)
      go_wp2_with (at_builtin;refine bX rfl (.tmp 31) (.tmp 33) 44 rfl w.heap.size 86 iL (.agg #[.bool false,.bool false,.int .i64 0,.slice none 0 0,.bool false,.int .i64 0,.slice none 0 0]) 7 88 Tryz.underlying44 hi hz0 hz1 hz2 rfl (by decide) (.slice o1 out.length o3) out.length xs rfl (lD.below HO.out (hb5 _)).row _ 1 (jT (yn,((yv,yi),yk),((bB,bH),aZ)) (.slice ya (Fo.len yk) yc) (.slice za (Fo.len aZ) zc)) rfl IY hn1 hn2 (Nat.le_trans TJ (hb5 _).size) ?_;intro v4 w4 sM hg4 jE)
      obtain ⟨hO4,hB4⟩:=wY (l:=(yn,((yv,yi),yk),((bB,bH),aZ))) HO.out (hb5 _) TJ (HA0.out.kept (λq hq=>(aC hBr (hb5 _)).block q hq)) (HD0.out.kept (λq hq=>(aC hBr (hb5 _)).block q hq)) sM hg4 jE;obtain ⟨r1,r3,rfl⟩:=aK hO4.cl;have QJ:=aB hO4;have hBB:=hBr.trans hB4;clear hO4 sM hg4 jE
      go_wp2_with fail
      go_roundw
      case rel=>exact ⟨j+1,_,r1,r3,_,by omega,by go_num,rfl,by simp;omega,jP.out,QJ.out,hBB⟩
      case measure=>simp [intOf];omega
    · have UB:Hid (kF (yn,((yv,yi),yk),((bB,bH),aZ))=(yn,((bB,bH),aZ),((yv,yi),yk))):=by
       show kF _=_;unfold kF;rw [if_pos (aJ0 hc)]
      have jP:Hid (gV (k.take (j+1))=some (out++[(yn,((bB,bH),aZ),((yv,yi),yk))])):=by
       show gV _=_;have hns:¬cB (yv,yi) yk (bB,bH) aZ=true:=λh=>by have:=(BQ (a:=((yv,yi),yk)) (b:=((bB,bH),aZ))).2 h;rw [hc] at this;omega
       rw [fQ.out,gI,Option.bind_some,if_neg hns,UB.out]
      rw [hc];clear hc
      go_upto_region 11 with fail
      generalize hw3:((((((w2.setCell ⟨wr.heap.size,1,none⟩ (.bool bB)).setCell ⟨wr.heap.size,2,none⟩ (.int .i64 bH)).setCell ⟨wr.heap.size,3,none⟩ (.slice za (Fo.len aZ) zc)).setCell ⟨wr.heap.size,4,none⟩ (.bool yv)).setCell ⟨wr.heap.size,5,none⟩ (.int .i64 yi)).setCell ⟨wr.heap.size,6,none⟩ (.slice ya (Fo.len yk) yc))=w3;have e3:w3=mW w2 wr.heap.size 1 [.bool bB,.int .i64 bH,.slice za (Fo.len aZ) zc,.bool yv,.int .i64 yi,.slice ya (Fo.len yk) yc]:=hw3.symm;have hb3:Below wr.heap.size wr w3:=by rw [e3];exact gW (Nat.le_refl _) hb2'
      have at6:=tC (b:=wr.heap.size) (xs:=[.bool bB,.int .i64 bH,.slice za (Fo.len aZ) zc,.bool yv,.int .i64 yi,.slice ya (Fo.len yk) yc]) (o:=1) (w:=w2) (λi hi=>by
       simp at hi;rcases i with _|_|_|_|_|_|i
       · exact ⟨_,g1⟩
       · exact ⟨_,g2⟩
       · exact ⟨_,g3⟩
       · exact ⟨_,g4⟩
       · exact ⟨_,g5⟩
       · exact ⟨_,g6⟩
       · omega)
      have k0:w3.cell? ⟨wr.heap.size,0,none⟩=some (.bool yn):=by rw [e3,dP (.inr (.inl (by omega)))];exact g0
      have k1:w3.cell? ⟨wr.heap.size,1,none⟩=some (.bool bB):=by rw [e3];exact at6 0 _ rfl
      have k2:w3.cell? ⟨wr.heap.size,2,none⟩=some (.int .i64 bH):=by rw [e3];exact at6 1 _ rfl
      have k3:w3.cell? ⟨wr.heap.size,3,none⟩=some (.slice za (Fo.len aZ) zc):=by rw [e3];exact at6 2 _ rfl
      have k4:w3.cell? ⟨wr.heap.size,4,none⟩=some (.bool yv):=by rw [e3];exact at6 3 _ rfl
      have k5:w3.cell? ⟨wr.heap.size,5,none⟩=some (.int .i64 yi):=by rw [e3];exact at6 4 _ rfl
      have k6:w3.cell? ⟨wr.heap.size,6,none⟩=some (.slice ya (Fo.len yk) yc):=by rw [e3];exact at6 5 _ rfl
      clear at6 e3 hw3 g0 g1 g2 g3 g4 g5 g6 gf;have hb5:∀ob,Below wr.heap.size wr (w3.alloc ob):=λob=>aC hb3 (aD _ _)
      go_wp2_with (at_builtin;refine bX rfl (.tmp 31) (.tmp 33) 44 rfl w.heap.size 86 iL (.agg #[.bool false,.bool false,.int .i64 0,.slice none 0 0,.bool false,.int .i64 0,.slice none 0 0]) 7 88 Tryz.underlying44 hi hz0 hz1 hz2 rfl (by decide) (.slice o1 out.length o3) out.length xs rfl (lD.below HO.out (hb5 _)).row _ 1 (jT (yn,((bB,bH),aZ),((yv,yi),yk)) (.slice za (Fo.len aZ) zc) (.slice ya (Fo.len yk) yc)) rfl IY hn1 hn2 (Nat.le_trans TJ (hb5 _).size) ?_;intro v4 w4 sM hg4 jE)
      obtain ⟨hO4,hB4⟩:=wY (l:=(yn,((bB,bH),aZ),((yv,yi),yk))) HO.out (hb5 _) TJ (HD0.out.kept (λq hq=>(aC hBr (hb5 _)).block q hq)) (HA0.out.kept (λq hq=>(aC hBr (hb5 _)).block q hq)) sM hg4 jE;obtain ⟨r1,r3,rfl⟩:=aK hO4.cl;have QJ:=aB hO4;have hBB:=hBr.trans hB4;clear hO4 sM hg4 jE
      go_wp2_with fail
      go_roundw
      case rel=>exact ⟨j+1,_,r1,r3,_,by omega,by go_num,rfl,by simp;omega,jP.out,QJ.out,hBB⟩
      case measure=>simp [intOf];omega
    · have hss:cB (yv,yi) yk (bB,bH) aZ=true:=BQ.1 hc;rw [hc];clear hc;cases yn
      · have jP:Hid (gV k=none):=by
         refine aEG (j:=j+1) ?_;rw [fQ.out];simp [gI,hss]
        clear hss
        go_wp2_with fail
        go_ret2;exact ⟨_,_,[],rfl,dQ.nil _,.inl ⟨rfl,rfl,jP.out⟩,hB2⟩
      · have jP:Hid (gV (k.take (j+1))=some out):=by
         show gV _=_;rw [fQ.out];simp [gI,hss]
        clear hss;have GU:Hid (lD w.heap.size (XO w2 (.slice o1 out.length o3)) w2 out (.slice o1 out.length o3) xs):=(HO.out.below hb2').wide (λq hq=>⟨by have:=hq.1;have:=hb2'.size;omega,hq.2⟩) (λ_ h=>h)
        go_wp2_with fail
        go_roundw
        case rel=>exact ⟨j+1,_,o1,o3,_,by omega,by go_num,rfl,by omega,jP.out,GU.out,hB2⟩
        case measure=>simp [intOf];omega
    · have UB:Hid (kF (yn,((yv,yi),yk),((bB,bH),aZ))=(yn,((yv,yi),yk),((bB,bH),aZ))):=by
       show kF _=_;unfold kF;rw [if_neg (by rw [XG uS.out.1.ok uS.out.2.1.ok (by omega)];simp)]
      have jP:Hid (gV (k.take (j+1))=some (out++[(yn,((yv,yi),yk),((bB,bH),aZ))])):=by
       show gV _=_;have hns:¬cB (yv,yi) yk (bB,bH) aZ=true:=λh=>by have:=(BQ (a:=((yv,yi),yk)) (b:=((bB,bH),aZ))).2 h;rw [hc] at this;omega
       rw [fQ.out,gI,Option.bind_some,if_neg hns,UB.out]
      rw [hc];clear hc;have hb5:∀ob,Below wr.heap.size wr (w2.alloc ob):=λob=>aC hb2' (aD _ _)
      go_wp2_with (at_builtin;refine bX rfl (.tmp 31) (.tmp 33) 44 rfl w.heap.size 86 iL (.agg #[.bool false,.bool false,.int .i64 0,.slice none 0 0,.bool false,.int .i64 0,.slice none 0 0]) 7 88 Tryz.underlying44 hi hz0 hz1 hz2 rfl (by decide) (.slice o1 out.length o3) out.length xs rfl (lD.below HO.out (hb5 _)).row _ 1 (jT (yn,((yv,yi),yk),((bB,bH),aZ)) (.slice ya (Fo.len yk) yc) (.slice za (Fo.len aZ) zc)) rfl IY hn1 hn2 (Nat.le_trans TJ (hb5 _).size) ?_;intro v4 w4 sM hg4 jE)
      obtain ⟨hO4,hB4⟩:=wY (l:=(yn,((yv,yi),yk),((bB,bH),aZ))) HO.out (hb5 _) TJ (HA0.out.kept (λq hq=>(aC hBr (hb5 _)).block q hq)) (HD0.out.kept (λq hq=>(aC hBr (hb5 _)).block q hq)) sM hg4 jE;obtain ⟨r1,r3,rfl⟩:=aK hO4.cl;have QJ:=aB hO4;have hBB:=hBr.trans hB4;clear hO4 sM hg4 jE
      go_wp2_with fail
      go_roundw
      case rel=>exact ⟨j+1,_,r1,r3,_,by omega,by go_num,rfl,by simp;omega,jP.out,QJ.out,hBB⟩
      case measure=>simp [intOf];omega
  · have lK:j=k.length:=by omega
    have bP:Hid (gV k=some out):=by have:=HT.out;rw [lK,List.take_length] at this;exact this
    clear eZ
    go_wp2_with fail
    go_ret2;exact ⟨_,_,out,rfl,HO.out.cl,.inr ⟨rfl,bP.out⟩,hBr⟩
end Go.Proofs.YtoklbpbmghbhnaeGreat
