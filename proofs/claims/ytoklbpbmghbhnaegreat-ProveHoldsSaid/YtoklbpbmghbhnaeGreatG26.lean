import Derived.Test.YtoklbpbmghbhnaeGreatG25
import Derived.Deep.RegionHeld3
namespace Go.Proofs.YtoklbpbmghbhnaeGreat
set_option maxRecDepth 100000
set_option maxHeartbeats 8000000
open Go.RowKit Go.Deep Go.ChangeShapes Go.WideShapes
section
attribute [local go_sem ↓] Go.wp_at_zero Go.wp_at_succ
structure ND (p:Pf):Prop where
 ga:IC p.sts p.act
 gw:IC p.sts p.wai
 gg:∀x∈p.sts,GC x.2.2
 gl:p.sts.length<=120
 gs:p.act.length+p.wai.length<=p.sts.length
theorem aDB {sts t:List St} {l:List Int} (h:IC sts l):IC (sts++t) l:=λk hk=>by have:=h k hk;rw [List.length_append];omega
theorem fM (p:Pf) (r:Int) (fr:List Int) (c:Cl):(120<=p.sts.length/\bI p r fr c=({p with lst:=true},false))\/
  (p.sts.length<120/\bI p r fr c=({p with sts:=p.sts++[(r,fr,c)],fnd:=if c.length=0/\p.fnd<0 then (p.sts.length:Int) else p.fnd},true)):=by
 unfold bI;by_cases h:120<=p.sts.length
 · exact .inl ⟨h,if_pos h⟩
 · exact .inr ⟨by omega,if_neg h⟩
theorem lS {p:Pf} {r:Int} {fr:List Int} {c:Cl} (h:ND p) (hc:GC c):ND (bI p r fr c).1/\((bI p r fr c).2=true->(bI p r fr c).1.act.length+(bI p r fr c).1.wai.length+1<=(bI p r fr c).1.sts.length/\(bI p r fr c).1.wai=p.wai/\(bI p r fr c).1.sts=p.sts++[(r,fr,c)]):=by
 rcases fM p r fr c with ⟨h1,e⟩|⟨h1,e⟩
 · rw [e];exact ⟨⟨h.ga,h.gw,h.gg,h.gl,h.gs⟩,λe=>by cases e⟩
 · rw [e];have h2:=h.gs;refine ⟨⟨aDB h.ga,aDB h.gw,λx hx=>?_,?_,?_⟩,λ_=>⟨?_,rfl,rfl⟩⟩
   · rcases List.mem_append.1 hx with hx|hx
     · exact h.gg x hx
     · rw [List.mem_singleton.1 hx];exact hc
   · simp;omega
   · simp;omega
   · simp;omega
theorem LQ {r:Int} {fr:List Int} {p:Pf} {c:Cl} (h:ND p) (hc:GC c):ND (iD r fr p c):=by
 unfold iD;split
 · exact h
 · obtain ⟨h1,h2⟩:=lS (r:=r) (fr:=fr) h hc;split
   · rename_i hk;obtain ⟨h3,h4,h5⟩:=h2 hk;refine ⟨h1.ga,λk hk=>?_,h1.gg,h1.gl,?_⟩
     · rcases List.mem_append.1 hk with hk|hk
       · exact h1.gw k hk
       · rw [List.mem_singleton.1 hk];simp only;omega
     · simp only [List.length_append,List.length_cons,List.length_nil];omega
   · exact h1
theorem zG {r:Int} {fr:List Int} {p:Pf} {c:Cl} (h:0<=p.fnd\/aDQ p c=true\/UN p c=true):iD r fr p c=p:=if_pos h
end
section
attribute [local go_sem ↓] Go.wp_at_zero Go.wp_at_succ
theorem xC (b:Nat) (f:Int) (w:World) (h:w.cell? ⟨b,4,none⟩=some (.int .i64 f)):
  Calls Tryz.prog 28 #[.pointer (some ⟨b,0,none⟩)] w λe w'=>e= .returned (.bool (decide (-1<f)))/\w'=w:=by
 go_enter Tryz.func28,Tryz.ntmps28
 go_wp2_with fail
 go_ret;exact ⟨rfl,rfl⟩
theorem kK (b:Nat) (sts:List St) (a2:Value) (n:Int) (w:World) (hx:w.cell? ⟨b,1,none⟩=some a2) (hS:jV (λ_=>False) w sts a2) (hn:0<=n/\n<sts.length):
  Calls Tryz.prog 32 #[.pointer (some ⟨b,0,none⟩),.int .i64 n] w λe w'=>∃cv,e= .returned cv/\dQ w (bD sts n) cv/\w'=w:=by
 obtain ⟨ta,tc,tb,td,rfl,hta,htl,htm,htF⟩:=hS;obtain ⟨m,rfl,hml,x,-,-,cv,q0,hD⟩:=aR2 htF hn;have aTC:(m:Int)<(sts.length:Int):=by omega
 have hm0:¬(m:Int)<0:=by omega
 have aN9:=(hta (by omega)).1;subst aN9;have HD:=aB hD;obtain ⟨d1,d3,rfl⟩:=aK hD;unfold maxLen at htm;generalize bD sts (m:Int)=D at*;clear htF hta hD hn;go_enter Tryz.func32,Tryz.ntmps32
 go_wp2_with fail
 go_ret;exact ⟨_,rfl,HD.out,rfl⟩
structure RD (w:World) (b:Nat) (p:Pf) (a1 a2 a3 a4:Value):Prop where
 bx:B6 w b a1 a2 a3 a4 (.int .i64 p.fnd) (.bool p.lst)
 pf:oW (λ_=>False) w p a1 a2 a3 a4
theorem PS.rd {lo:Nat} {w:World} {b:Nat} {p:Pf} {a1 a2 a3 a4:Value} (h:PS lo w b p a1 a2 a3 a4):RD w b p a1 a2 a3 a4:=⟨h.bx,h.pf⟩
theorem aB0 (b xb cb:Nat) (sts:List St) (a2:Value) (n:Int) (c:Cl) (cv:Value) (w:World) (hx:w.cell? ⟨b,1,none⟩=some a2) (hS:jV (λ_=>False) w sts a2) (hn:0<=n/\n<sts.length) (hxb:w.cell? ⟨xb,0,none⟩=some (.pointer (some ⟨b,0,none⟩))) (hcb:w.cell? ⟨cb,0,none⟩=some cv) (hC:dQ w c cv) (hG:GC (bD sts n)) (hgc:GC c):
  Calls Tryz.prog 63 #[.int .i64 n,.pointer (some ⟨xb,0,none⟩),.pointer (some ⟨cb,0,none⟩)] w λe w'=>e= .returned (.bool (yH (bD sts n) c))/\Below w.heap.size w w':=by
 have Hc:=aB (λ(w':World) (hb:Below w.heap.size w w')=>kK b sts a2 n w' (aA hb _ _ hx) (hS.below hb) hn);have HC:=aB hC;have Hgg:=aB hG;have F9:=aB hgc;obtain ⟨c1,c3,rfl⟩:=aK hC;generalize bD sts n=D at*;have Hi:=aB (λ(w':World) (hb:Below w.heap.size w w') (dv:Value) (hD:dQ w' D dv)=>YN D c _ _ w' hD (HC.out.below hb) Hgg.out.1 (λl hl=>⟨(Hgg.out.2 l hl).sl,(Hgg.out.2 l hl).sr⟩) (λl hl=>⟨(F9.out.2 l hl).gl,(F9.out.2 l hl).gr⟩));clear hx hS hn hC hG hgc;go_enter Tryz.func63,Tryz.ntmps63;have aG:Below w.heap.size w w.drew:=(Below.refl _ _).drew
 go_upto_region 1 with fail
 go_region_held3 (λw'=>w'.cell? ⟨xb,0,none⟩=some (.pointer (some ⟨b,0,none⟩))/\w'.cell? ⟨cb,0,none⟩=some (.slice c1 c.length c3))
  (first
    |(with_reducible exact ⟨aA aG _ _ hxb,aA aG _ _ hcb⟩)
    |go_keep)
  (first
    |(go_at_call 32;refine (Hc.out _ aG).mono ?_;rintro e wA ⟨dv,rfl,hD,rfl⟩;obtain ⟨d1,d3,rfl⟩:=aK hD;have HD:=aB hD;clear hD)
    |(go_at_call 64;refine (Hi.out _ aG _ HD.out).mono ?_;rintro e wB ⟨rfl,hb⟩;replace aG:=aC aG hb;clear hb))
 all_goals
  have HBe:=aB aG;clear aG
  go_wp2_with fail
  go_ret;exact ⟨rfl,HBe.out⟩
theorem aBY (b xb cb:Nat) (sts:List St) (a2:Value) (l:List Int) (lv:Value) (c:Cl) (cv:Value) (w:World) (hx:w.cell? ⟨b,1,none⟩=some a2) (hS:jV (λ_=>False) w sts a2) (hL:iK w l lv) (hk:IC sts l) (hxb:w.cell? ⟨xb,0,none⟩=some (.pointer (some ⟨b,0,none⟩))) (hcb:w.cell? ⟨cb,0,none⟩=some cv) (hC:dQ w c cv) (hG:∀k∈l,GC (bD sts k)) (hgc:GC c):
  Calls Tryz.prog 101 #[lv,.func (.func 63) #[] #[.pointer (some ⟨xb,0,none⟩),.pointer (some ⟨cb,0,none⟩)]] w λe w'=>∃i:Int,e= .returned (.int .i64 i)/\decide (0<=i)=l.any (λn=>yH (bD sts n) c)/\Below w.heap.size w w':=by
 have dI:=aB (λ(w':World) (hb:Below w.heap.size w w') (n:Int) (hn:n∈l)=>aB0 b xb cb sts a2 n c cv w' (aA hb _ _ hx) (hS.below hb) (hk n hn) (aA hb _ _ hxb) (aA hb _ _ hcb) (hC.below hb) (hG n hn) hgc);obtain ⟨ua,uc,ub,uo,rfl,ZG,hul,hum,huF⟩:=hL;have HuF:=aB huF;unfold maxLen at hum;clear hx hS hk hxb hcb hC hG hgc huF;go_enter Tryz.func101,Tryz.ntmps101
 go_wp2_with fail
 go_loopw [8] (λi wr=>∃j:Nat,j<=l.length/\i= .int .i64 j/\(l.take j).any (λn=>yH (bD sts n) c)=false/\Below w.heap.size w wr) (λi _=>l.length - (intOf i).toNat)
 case atStart=>exact ⟨0,Nat.zero_le _,rfl,rfl,Below.refl _ _⟩
 case round=>
  obtain ⟨j,hj,rfl,hno,hBr⟩:=hrel;have Hno:=aB hno;clear hno;by_cases hlt:j<l.length
  · have hlt':(j:Int)<(l.length:Int):=by omega
    have hc0:=aA hBr _ _ (HuF.out j hlt);have hin:l.getD j 0∈l:=by rw [List.getD_eq_getElem?_getD,List.getElem?_eq_getElem hlt];simp
    have ZW:=ZG (by omega);subst ZW;have Hc:=aB (dI.out wr hBr _ hin);have uD:Hid ((l.take (j+1)).any (λn=>yH (bD sts n) c)=(λn=>yH (bD sts n) c) (l.getD j 0)):=by rw [Hid,List.take_add_one,List.any_append,Hno.out,List.getElem?_eq_getElem hlt,List.getD_eq_getElem?_getD,List.getElem?_eq_getElem hlt];simp
    have uE:Hid ((λn=>yH (bD sts n) c) (l.getD j 0)=true->l.any (λn=>yH (bD sts n) c)=true):=λh=>by rw [List.any_eq_true];exact ⟨_,hin,h⟩
    simp only at uD uE;generalize l.getD j 0=kk at*;obtain ⟨V,hV⟩:∃V,V=(λn=>yH (bD sts n) c) kk:=⟨_,rfl⟩;simp only at hV;rw [←hV] at Hc uD uE;clear hV hin ZG
    go_wp2_with fail
    refine Hc.out.mono ?_;rintro e w5 ⟨rfl,hb5⟩;replace hBr:=aC hBr hb5;clear hb5 Hc hc0;cases V
    · go_wp2_with fail
      go_roundw
      case rel=>exact ⟨j+1,by omega,by go_num,uD.out,hBr⟩
      case measure=>simp [intOf];omega
    · have Hf:Hid (decide ((0:Int)<=(j:Int))=l.any (λn=>yH (bD sts n) c)):=by
       rw [Hid,uE.out rfl];simp
      go_wp2_with fail
      go_ret;exact ⟨_,rfl,Hf.out,hBr⟩
  · have Hf:Hid (decide ((0:Int)<= -1)=l.any (λn=>yH (bD sts n) c)):=by
     have h:=Hno.out;rw [show j=l.length by omega,List.take_length] at h;rw [Hid,h];decide
    clear ZG
    go_wp2_with fail
    go_ret;exact ⟨_,rfl,Hf.out,hBr⟩
theorem aBZ (b xb cb:Nat) (sts:List St) (a2:Value) (l:List Int) (lv:Value) (c:Cl) (cv:Value) (w:World) (hx:w.cell? ⟨b,1,none⟩=some a2) (hS:jV (λ_=>False) w sts a2) (hL:iK w l lv) (hk:IC sts l) (hxb:w.cell? ⟨xb,0,none⟩=some (.pointer (some ⟨b,0,none⟩))) (hcb:w.cell? ⟨cb,0,none⟩=some cv) (hC:dQ w c cv) (hG:∀k∈l,GC (bD sts k)) (hgc:GC c):
  Calls Tryz.prog 62 #[lv,.func (.func 63) #[] #[.pointer (some ⟨xb,0,none⟩),.pointer (some ⟨cb,0,none⟩)]] w λe w'=>e= .returned (.bool (l.any (λn=>yH (bD sts n) c)))/\Below w.heap.size w w':=by
 have Hi:=aB (aBY b xb cb sts a2 l lv c cv w hx hS hL hk hxb hcb hC hG hgc);obtain ⟨z1,z3,rfl⟩:=dR hL;clear hx hS hL hk hxb hcb hC hG hgc;go_enter Tryz.func62,Tryz.ntmps62
 go_wp2_with fail
 refine Hi.out.mono ?_;rintro e w2 ⟨i,rfl,hi,hb2⟩;have Hd:=aB hi;clear hi Hi
 go_wp2_with fail
 go_ret;exact ⟨by rw [←Hd.out];rfl,hb2⟩
theorem FU (b:Nat) (p:Pf) (a1 a2 a3 a4:Value) (c:Cl) (cv:Value) (w:World) (hR:RD w b p a1 a2 a3 a4) (hC:dQ w c cv) (hP:ND p) (hgc:GC c):
  Calls Tryz.prog 31 #[.pointer (some ⟨b,0,none⟩),cv] w λe w'=>e= .returned (.bool (UN p c))/\Below w.heap.size w w':=by
 obtain ⟨sg,sts,act,wai,fnd,lst⟩:=p;have hS:=hR.pf.2.1;have hL:=hR.pf.2.2.1.nin;have hG:∀k∈act,GC (bD sts k):=λk hk=>by
  have h2:=hP.ga k hk;simp only at h2;have hlt:k.toNat<sts.length:=by omega
  have e:bD sts k=sts[k.toNat].2.2:=by unfold bD;rw [List.getElem?_eq_getElem hlt]
  rw [e];exact hP.gg _ (List.getElem_mem hlt)
 obtain ⟨c1,c3,hcv⟩:=aK hC;subst hcv;have Hc:=aB (λ(w':World) (hb:Below w.heap.size w w') (xb cb:Nat) (hxb:w'.cell? ⟨xb,0,none⟩=some (.pointer (some ⟨b,0,none⟩))) (hcb:w'.cell? ⟨cb,0,none⟩=some (.slice c1 c.length c3))=>aBZ b xb cb sts a2 act _ c _ w' (aA hb _ _ hR.bx.2.1) (hS.below hb) (hL.below hb) hP.ga hxb hcb (hC.below hb) hG hgc);obtain ⟨z1,z3,hz⟩:=dR hL;obtain ⟨x0,x1,x2,x3,x4,x5,-⟩:=hR.bx;subst hz;obtain ⟨V,hV⟩:∃V,V=UN ⟨sg,sts,act,wai,fnd,lst⟩ c:=⟨_,rfl⟩;rw [←hV];have HV:=aB hV;clear hS hL hG hR hC hP hgc hV;go_enter Tryz.func31,Tryz.ntmps31
 go_upto_region 1 with fail
 have hB2:Below w.heap.size w ((w.alloc (.cells #[.pointer (some ⟨b,0,none⟩)] 80)).alloc (.cells #[.slice c1 c.length c3] 44)):=(aD w _).alloc (by simp) _;have hxb:((w.alloc (.cells #[.pointer (some ⟨b,0,none⟩)] 80)).alloc (.cells #[.slice c1 c.length c3] 44)).cell? ⟨w.heap.size,0,none⟩=some (.pointer (some ⟨b,0,none⟩)):=aA (aD _ _) _ _ (by simp);have hcb:((w.alloc (.cells #[.pointer (some ⟨b,0,none⟩)] 80)).alloc (.cells #[.slice c1 c.length c3] 44)).cell? ⟨w.heap.size+1,0,none⟩=some (.slice c1 c.length c3):=aF (by simp);generalize (w.alloc (.cells #[.pointer (some ⟨b,0,none⟩)] 80)).alloc (.cells #[.slice c1 c.length c3] 44)=w2 at*;replace x2:=aA hB2 _ _ x2;replace x3:=aA hB2 _ _ x3;have Hd:=aB (Hc.out w2 hB2 _ _ hxb hcb);have HB2:=aB hB2;clear Hc hB2
 go_wp2_with fail
 refine Hd.out.mono ?_;rintro e w3 ⟨rfl,hb2⟩;have HB:=aB (aC HB2.out hb2);clear hb2 Hd x2 x3 hxb hcb
 go_wp2_with fail
 go_ret;exact ⟨by rw [HV.out];rfl,HB.out⟩
theorem aAM (b xb cb:Nat) (sts:List St) (a2:Value) (n:Int) (c:Cl) (cv:Value) (w:World) (hx:w.cell? ⟨b,1,none⟩=some a2) (hS:jV (λ_=>False) w sts a2) (hn:0<=n/\n<sts.length) (hxb:w.cell? ⟨xb,0,none⟩=some (.pointer (some ⟨b,0,none⟩))) (hcb:w.cell? ⟨cb,0,none⟩=some cv) (hC:dQ w c cv) (hG:GC (bD sts n)) (hgc:GC c):
  Calls Tryz.prog 136 #[.int .i64 n,.pointer (some ⟨xb,0,none⟩),.pointer (some ⟨cb,0,none⟩)] w λe w'=>e= .returned (.bool (dH (bD sts n) c))/\Below w.heap.size w w':=by
 have Hc:=aB (λ(w':World) (hb:Below w.heap.size w w')=>kK b sts a2 n w' (aA hb _ _ hx) (hS.below hb) hn);have HC:=aB hC;have Hgg:=aB hG;have F9:=aB hgc;obtain ⟨c1,c3,rfl⟩:=aK hC;generalize bD sts n=D at*;have Hi:=aB (λ(w':World) (hb:Below w.heap.size w w') (dv:Value) (hD:dQ w' D dv)=>EF D c _ _ w' hD (HC.out.below hb));clear hx hS hn hC hG hgc;go_enter Tryz.func136,Tryz.ntmps136;have aG:Below w.heap.size w w.drew:=(Below.refl _ _).drew
 go_upto_region 1 with fail
 go_region_held3 (λw'=>w'.cell? ⟨xb,0,none⟩=some (.pointer (some ⟨b,0,none⟩))/\w'.cell? ⟨cb,0,none⟩=some (.slice c1 c.length c3))
  (first
    |(with_reducible exact ⟨aA aG _ _ hxb,aA aG _ _ hcb⟩)
    |go_keep)
  (first
    |(go_at_call 32;refine (Hc.out _ aG).mono ?_;rintro e wA ⟨dv,rfl,hD,rfl⟩;obtain ⟨d1,d3,rfl⟩:=aK hD;have HD:=aB hD;clear hD)
    |(go_at_call 60;refine (Hi.out _ aG _ HD.out).mono ?_;rintro e wB ⟨rfl,hb⟩;replace aG:=aC aG hb;clear hb))
 all_goals
  have HBe:=aB aG;clear aG
  go_wp2_with fail
  go_ret;exact ⟨rfl,HBe.out⟩
theorem aAK (b xb cb:Nat) (sts:List St) (a2:Value) (l:List Int) (lv:Value) (c:Cl) (cv:Value) (w:World) (hx:w.cell? ⟨b,1,none⟩=some a2) (hS:jV (λ_=>False) w sts a2) (hL:iK w l lv) (hk:IC sts l) (hxb:w.cell? ⟨xb,0,none⟩=some (.pointer (some ⟨b,0,none⟩))) (hcb:w.cell? ⟨cb,0,none⟩=some cv) (hC:dQ w c cv) (hG:∀k∈l,GC (bD sts k)) (hgc:GC c):
  Calls Tryz.prog 101 #[lv,.func (.func 136) #[] #[.pointer (some ⟨xb,0,none⟩),.pointer (some ⟨cb,0,none⟩)]] w λe w'=>∃i:Int,e= .returned (.int .i64 i)/\decide (0<=i)=l.any (λn=>dH (bD sts n) c)/\Below w.heap.size w w':=by
 have dI:=aB (λ(w':World) (hb:Below w.heap.size w w') (n:Int) (hn:n∈l)=>aAM b xb cb sts a2 n c cv w' (aA hb _ _ hx) (hS.below hb) (hk n hn) (aA hb _ _ hxb) (aA hb _ _ hcb) (hC.below hb) (hG n hn) hgc);obtain ⟨ua,uc,ub,uo,rfl,ZG,hul,hum,huF⟩:=hL;have HuF:=aB huF;unfold maxLen at hum;clear hx hS hk hxb hcb hC hG hgc huF;go_enter Tryz.func101,Tryz.ntmps101
 go_wp2_with fail
 go_loopw [8] (λi wr=>∃j:Nat,j<=l.length/\i= .int .i64 j/\(l.take j).any (λn=>dH (bD sts n) c)=false/\Below w.heap.size w wr) (λi _=>l.length - (intOf i).toNat)
 case atStart=>exact ⟨0,Nat.zero_le _,rfl,rfl,Below.refl _ _⟩
 case round=>
  obtain ⟨j,hj,rfl,hno,hBr⟩:=hrel;have Hno:=aB hno;clear hno;by_cases hlt:j<l.length
  · have hlt':(j:Int)<(l.length:Int):=by omega
    have hc0:=aA hBr _ _ (HuF.out j hlt);have hin:l.getD j 0∈l:=by rw [List.getD_eq_getElem?_getD,List.getElem?_eq_getElem hlt];simp
    have ZW:=ZG (by omega);subst ZW;have Hc:=aB (dI.out wr hBr _ hin);have uD:Hid ((l.take (j+1)).any (λn=>dH (bD sts n) c)=(λn=>dH (bD sts n) c) (l.getD j 0)):=by rw [Hid,List.take_add_one,List.any_append,Hno.out,List.getElem?_eq_getElem hlt,List.getD_eq_getElem?_getD,List.getElem?_eq_getElem hlt];simp
    have uE:Hid ((λn=>dH (bD sts n) c) (l.getD j 0)=true->l.any (λn=>dH (bD sts n) c)=true):=λh=>by rw [List.any_eq_true];exact ⟨_,hin,h⟩
    simp only at uD uE;generalize l.getD j 0=kk at*;obtain ⟨V,hV⟩:∃V,V=(λn=>dH (bD sts n) c) kk:=⟨_,rfl⟩;simp only at hV;rw [←hV] at Hc uD uE;clear hV hin ZG
    go_wp2_with fail
    refine Hc.out.mono ?_;rintro e w5 ⟨rfl,hb5⟩;replace hBr:=aC hBr hb5;clear hb5 Hc hc0;cases V
    · go_wp2_with fail
      go_roundw
      case rel=>exact ⟨j+1,by omega,by go_num,uD.out,hBr⟩
      case measure=>simp [intOf];omega
    · have Hf:Hid (decide ((0:Int)<=(j:Int))=l.any (λn=>dH (bD sts n) c)):=by
       rw [Hid,uE.out rfl];simp
      go_wp2_with fail
      go_ret;exact ⟨_,rfl,Hf.out,hBr⟩
  · have Hf:Hid (decide ((0:Int)<= -1)=l.any (λn=>dH (bD sts n) c)):=by
     have h:=Hno.out;rw [show j=l.length by omega,List.take_length] at h;rw [Hid,h];decide
    clear ZG
    go_wp2_with fail
    go_ret;exact ⟨_,rfl,Hf.out,hBr⟩
theorem aAL (b xb cb:Nat) (sts:List St) (a2:Value) (l:List Int) (lv:Value) (c:Cl) (cv:Value) (w:World) (hx:w.cell? ⟨b,1,none⟩=some a2) (hS:jV (λ_=>False) w sts a2) (hL:iK w l lv) (hk:IC sts l) (hxb:w.cell? ⟨xb,0,none⟩=some (.pointer (some ⟨b,0,none⟩))) (hcb:w.cell? ⟨cb,0,none⟩=some cv) (hC:dQ w c cv) (hG:∀k∈l,GC (bD sts k)) (hgc:GC c):
  Calls Tryz.prog 62 #[lv,.func (.func 136) #[] #[.pointer (some ⟨xb,0,none⟩),.pointer (some ⟨cb,0,none⟩)]] w λe w'=>e= .returned (.bool (l.any (λn=>dH (bD sts n) c)))/\Below w.heap.size w w':=by
 have Hi:=aB (aAK b xb cb sts a2 l lv c cv w hx hS hL hk hxb hcb hC hG hgc);obtain ⟨z1,z3,rfl⟩:=dR hL;clear hx hS hL hk hxb hcb hC hG hgc;go_enter Tryz.func62,Tryz.ntmps62
 go_wp2_with fail
 refine Hi.out.mono ?_;rintro e w2 ⟨i,rfl,hi,hb2⟩;have Hd:=aB hi;clear hi Hi
 go_wp2_with fail
 go_ret;exact ⟨by rw [←Hd.out];rfl,hb2⟩
theorem aD9 (b:Nat) (p:Pf) (a1 a2 a3 a4:Value) (c:Cl) (cv:Value) (w:World) (hR:RD w b p a1 a2 a3 a4) (hC:dQ w c cv) (hP:ND p) (hgc:GC c):
  Calls Tryz.prog 107 #[.pointer (some ⟨b,0,none⟩),cv] w λe w'=>e= .returned (.bool (aDQ p c))/\Below w.heap.size w w':=by
 obtain ⟨sg,sts,act,wai,fnd,lst⟩:=p;have hS:=hR.pf.2.1;have hL:=hR.pf.2.2.2.nin;have hG:∀k∈wai,GC (bD sts k):=λk hk=>by
  have h2:=hP.gw k hk;simp only at h2;have hlt:k.toNat<sts.length:=by omega
  have e:bD sts k=sts[k.toNat].2.2:=by unfold bD;rw [List.getElem?_eq_getElem hlt]
  rw [e];exact hP.gg _ (List.getElem_mem hlt)
 obtain ⟨c1,c3,hcv⟩:=aK hC;subst hcv;have Hc:=aB (λ(w':World) (hb:Below w.heap.size w w') (xb cb:Nat) (hxb:w'.cell? ⟨xb,0,none⟩=some (.pointer (some ⟨b,0,none⟩))) (hcb:w'.cell? ⟨cb,0,none⟩=some (.slice c1 c.length c3))=>aAL b xb cb sts a2 wai _ c _ w' (aA hb _ _ hR.bx.2.1) (hS.below hb) (hL.below hb) hP.gw hxb hcb (hC.below hb) hG hgc);obtain ⟨z1,z3,hz⟩:=dR hL;obtain ⟨x0,x1,x2,x3,x4,x5,-⟩:=hR.bx;subst hz;obtain ⟨V,hV⟩:∃V,V=aDQ ⟨sg,sts,act,wai,fnd,lst⟩ c:=⟨_,rfl⟩;rw [←hV];have HV:=aB hV;clear hS hL hG hR hC hP hgc hV;go_enter Tryz.func107,Tryz.ntmps107
 go_upto_region 1 with fail
 have hB2:Below w.heap.size w ((w.alloc (.cells #[.pointer (some ⟨b,0,none⟩)] 80)).alloc (.cells #[.slice c1 c.length c3] 44)):=(aD w _).alloc (by simp) _;have hxb:((w.alloc (.cells #[.pointer (some ⟨b,0,none⟩)] 80)).alloc (.cells #[.slice c1 c.length c3] 44)).cell? ⟨w.heap.size,0,none⟩=some (.pointer (some ⟨b,0,none⟩)):=aA (aD _ _) _ _ (by simp);have hcb:((w.alloc (.cells #[.pointer (some ⟨b,0,none⟩)] 80)).alloc (.cells #[.slice c1 c.length c3] 44)).cell? ⟨w.heap.size+1,0,none⟩=some (.slice c1 c.length c3):=aF (by simp);generalize (w.alloc (.cells #[.pointer (some ⟨b,0,none⟩)] 80)).alloc (.cells #[.slice c1 c.length c3] 44)=w2 at*;replace x2:=aA hB2 _ _ x2;replace x3:=aA hB2 _ _ x3;have Hd:=aB (Hc.out w2 hB2 _ _ hxb hcb);have HB2:=aB hB2;clear Hc hB2
 go_wp2_with fail
 refine Hd.out.mono ?_;rintro e w3 ⟨rfl,hb2⟩;have HB:=aB (aC HB2.out hb2);clear hb2 Hd x2 x3 hxb hcb
 go_wp2_with fail
 go_ret;exact ⟨by rw [HV.out];rfl,HB.out⟩
end
section
attribute [local go_sem ↓] Go.wp_at_zero Go.wp_at_succ
def nG:Nat->List Nat
 |2=>[1]
 |3=>[2]
 |4=>[3]
 |5=>[4]
 |7=>[6]
 |8=>[5,7]
 |9=>[0,1,2,3,4,5,6,7,8]
 |10=>[0,1,2,3,4,5,6,7,8,9]
 |11=>[0,1,2,3,4,5,6,7,8,10]
 |12=>[0,1,2,3,4,5,6,7,8,11]
 |_=>[]
structure sN (W:World) (b:Nat) (SV QV X0 X1 X2:Value) (T:World->Value->Prop) (D:Nat->Bool) (w:World) (fE fD fC fB jL jK jJ gD s43 s44 gB fZ:Value):Prop where
 hb:D 8=false->Below W.heap.size W w
 h0:D 0=true->fE= .pointer (some ⟨b,0,none⟩)
 h1:D 1=true->fD= .pointer (some ⟨b,0,none⟩)
 h2:D 2=true->fC= .pointer (some ⟨b,0,none⟩)
 h3:D 3=true->fB= .pointer (some ⟨b,0,none⟩)
 h4:D 4=true->jL= .pointer (some ⟨b,1,none⟩)
 h5:D 5=true->jK=SV
 h6:D 6=true->jJ=QV
 h7:D 7=true->D 8=false->∃g,gD= .slice (some ⟨g,0,none⟩) 1 1/\w.cell? ⟨g,0,none⟩=some X0/\w.cell? ⟨g,1,none⟩=some X1/\w.cell? ⟨g,2,none⟩=some X2
 h8:D 8=true->T w s43
 h9:D 9=true->s44= .pointer (some ⟨b,0,none⟩)
 h10:D 10=true->gB= .pointer (some ⟨b,0,none⟩)
 h11:D 11=true->fZ= .pointer (some ⟨b,1,none⟩)
section
variable {W:World} {b:Nat} {SV QV X0 X1 X2:Value} {T:World->Value->Prop} {D:Nat->Bool} {w w':World} {fE fD fC fB jL jK jJ gD s43 s44 gB fZ:Value}
theorem sN.at0 (h:sN W b SV QV X0 X1 X2 T D w fE fD fC fB jL jK jJ gD s43 s44 gB fZ):sN W b SV QV X0 X1 X2 T (λj=>j==0||D j) w (.pointer (some ⟨b,0,none⟩)) fD fC fB jL jK jJ gD s43 s44 gB fZ:=
 ⟨h.hb,λ_=>rfl,h.h1,h.h2,h.h3,h.h4,h.h5,h.h6,h.h7,h.h8,h.h9,h.h10,h.h11⟩
theorem sN.at1 (h:sN W b SV QV X0 X1 X2 T D w fE fD fC fB jL jK jJ gD s43 s44 gB fZ):sN W b SV QV X0 X1 X2 T (λj=>j==1||D j) w fE (.pointer (some ⟨b,0,none⟩)) fC fB jL jK jJ gD s43 s44 gB fZ:=
 ⟨h.hb,h.h0,λ_=>rfl,h.h2,h.h3,h.h4,h.h5,h.h6,h.h7,h.h8,h.h9,h.h10,h.h11⟩
theorem sN.at2 (h:sN W b SV QV X0 X1 X2 T D w fE fD fC fB jL jK jJ gD s43 s44 gB fZ):sN W b SV QV X0 X1 X2 T (λj=>j==2||D j) w fE fD (.pointer (some ⟨b,0,none⟩)) fB jL jK jJ gD s43 s44 gB fZ:=
 ⟨h.hb,h.h0,h.h1,λ_=>rfl,h.h3,h.h4,h.h5,h.h6,h.h7,h.h8,h.h9,h.h10,h.h11⟩
theorem sN.at3 (h:sN W b SV QV X0 X1 X2 T D w fE fD fC fB jL jK jJ gD s43 s44 gB fZ):sN W b SV QV X0 X1 X2 T (λj=>j==3||D j) w fE fD fC (.pointer (some ⟨b,0,none⟩)) jL jK jJ gD s43 s44 gB fZ:=
 ⟨h.hb,h.h0,h.h1,h.h2,λ_=>rfl,h.h4,h.h5,h.h6,h.h7,h.h8,h.h9,h.h10,h.h11⟩
theorem sN.at4 (h:sN W b SV QV X0 X1 X2 T D w fE fD fC fB jL jK jJ gD s43 s44 gB fZ):sN W b SV QV X0 X1 X2 T (λj=>j==4||D j) w fE fD fC fB (.pointer (some ⟨b,1,none⟩)) jK jJ gD s43 s44 gB fZ:=
 ⟨h.hb,h.h0,h.h1,h.h2,h.h3,λ_=>rfl,h.h5,h.h6,h.h7,h.h8,h.h9,h.h10,h.h11⟩
theorem sN.at5 (h:sN W b SV QV X0 X1 X2 T D w fE fD fC fB jL jK jJ gD s43 s44 gB fZ):sN W b SV QV X0 X1 X2 T (λj=>j==5||D j) w fE fD fC fB jL (SV) jJ gD s43 s44 gB fZ:=
 ⟨h.hb,h.h0,h.h1,h.h2,h.h3,h.h4,λ_=>rfl,h.h6,h.h7,h.h8,h.h9,h.h10,h.h11⟩
theorem sN.at6 (h:sN W b SV QV X0 X1 X2 T D w fE fD fC fB jL jK jJ gD s43 s44 gB fZ):sN W b SV QV X0 X1 X2 T (λj=>j==6||D j) w fE fD fC fB jL jK (QV) gD s43 s44 gB fZ:=
 ⟨h.hb,h.h0,h.h1,h.h2,h.h3,h.h4,h.h5,λ_=>rfl,h.h7,h.h8,h.h9,h.h10,h.h11⟩
theorem sN.at7 (h:sN W b SV QV X0 X1 X2 T D w fE fD fC fB jL jK jJ gD s43 s44 gB fZ) (hap:D 8=false):sN W b SV QV X0 X1 X2 T (λj=>j==7||D j) (w.alloc (.cells #[X0,X1,X2] 46)) fE fD fC fB jL jK jJ (.slice (some ⟨w.heap.size,0,none⟩) 1 1) s43 s44 gB fZ:=
 ⟨λ_=>(h.hb hap).alloc (h.hb hap).size _,h.h0,h.h1,h.h2,h.h3,h.h4,h.h5,h.h6,λ_ _=>⟨w.heap.size,rfl,by simp,by simp,by simp⟩,λe=>(by rw [show D 8=true from e] at hap;cases hap),h.h9,h.h10,h.h11⟩
theorem sN.at8 (h:sN W b SV QV X0 X1 X2 T D w fE fD fC fB jL jK jJ gD s43 s44 gB fZ) {w4:World} {v4:Value} (ht:T w4 v4):sN W b SV QV X0 X1 X2 T (λj=>j==8||D j) w4 fE fD fC fB jL jK jJ gD (v4) s44 gB fZ:=
 ⟨λe=>(by cases e),h.h0,h.h1,h.h2,h.h3,h.h4,h.h5,h.h6,λ_ e=>(by cases e),λ_=>ht,h.h9,h.h10,h.h11⟩
theorem sN.at9 (h:sN W b SV QV X0 X1 X2 T D w fE fD fC fB jL jK jJ gD s43 s44 gB fZ):sN W b SV QV X0 X1 X2 T (λj=>j==9||D j) w fE fD fC fB jL jK jJ gD s43 (.pointer (some ⟨b,0,none⟩)) gB fZ:=
 ⟨h.hb,h.h0,h.h1,h.h2,h.h3,h.h4,h.h5,h.h6,h.h7,h.h8,λ_=>rfl,h.h10,h.h11⟩
theorem sN.at10 (h:sN W b SV QV X0 X1 X2 T D w fE fD fC fB jL jK jJ gD s43 s44 gB fZ):sN W b SV QV X0 X1 X2 T (λj=>j==10||D j) w fE fD fC fB jL jK jJ gD s43 s44 (.pointer (some ⟨b,0,none⟩)) fZ:=
 ⟨h.hb,h.h0,h.h1,h.h2,h.h3,h.h4,h.h5,h.h6,h.h7,h.h8,h.h9,λ_=>rfl,h.h11⟩
theorem sN.at11 (h:sN W b SV QV X0 X1 X2 T D w fE fD fC fB jL jK jJ gD s43 s44 gB fZ):sN W b SV QV X0 X1 X2 T (λj=>j==11||D j) w fE fD fC fB jL jK jJ gD s43 s44 gB (.pointer (some ⟨b,1,none⟩)):=
 ⟨h.hb,h.h0,h.h1,h.h2,h.h3,h.h4,h.h5,h.h6,h.h7,h.h8,h.h9,h.h10,λ_=>rfl⟩
theorem sN.start (h:Below W.heap.size W w):sN W b SV QV X0 X1 X2 T (λ_=>false) w fE fD fC fB jL jK jJ gD s43 s44 gB fZ:=
 ⟨λ_=>h,λe=>(by cases e),λe=>(by cases e),λe=>(by cases e),λe=>(by cases e),λe=>(by cases e),λe=>(by cases e),λe=>(by cases e),λe=>(by cases e),λe=>(by cases e),λe=>(by cases e),λe=>(by cases e),λe=>(by cases e)⟩
end
def jH:Nat->List Nat
 |2=>[1]
 |3=>[2]
 |4=>[3]
 |5=>[4]
 |7=>[6]
 |8=>[7]
 |9=>[8]
 |10=>[9]
 |11=>[10]
 |12=>[11]
 |13=>[12]
 |14=>[5,13]
 |15=>[0,1,2,3,4,5,6,7,8,9,10,11,12,13,14]
 |16=>[0,1,2,3,4,5,6,7,8,9,10,11,12,13,14,15]
 |17=>[0,1,2,3,4,5,6,7,8,9,10,11,12,13,14,16]
 |18=>[0,1,2,3,4,5,6,7,8,9,10,11,12,13,14,17]
 |_=>[]
structure mU (W:World) (b:Nat) (SV TV X0:Value) (n:Nat) (e:Int) (T:World->Value->Prop) (D:Nat->Bool) (w:World) (s7 s8 s9 s10 s11 s12 s13 iT s15 s16 iR iQ iO s20 qG qF pI s24:Value):Prop where
 hb:D 14=false->Below W.heap.size W w
 h0:D 0=true->s7= .pointer (some ⟨b,0,none⟩)
 h1:D 1=true->s8= .pointer (some ⟨b,0,none⟩)
 h2:D 2=true->s9= .pointer (some ⟨b,0,none⟩)
 h3:D 3=true->s10= .pointer (some ⟨b,0,none⟩)
 h4:D 4=true->s11= .pointer (some ⟨b,3,none⟩)
 h5:D 5=true->s12=SV
 h6:D 6=true->s13= .pointer (some ⟨b,0,none⟩)
 h7:D 7=true->iT= .pointer (some ⟨b,0,none⟩)
 h8:D 8=true->s15= .pointer (some ⟨b,0,none⟩)
 h9:D 9=true->s16= .pointer (some ⟨b,1,none⟩)
 h10:D 10=true->iR=TV
 h11:D 11=true->iQ= .int .i64 n
 h12:D 12=true->iO= .int .i64 e
 h13:D 13=true->D 14=false->∃g,s20= .slice (some ⟨g,0,none⟩) 1 1/\w.cell? ⟨g,0,none⟩=some X0
 h14:D 14=true->T w qG
 h15:D 15=true->qF= .pointer (some ⟨b,0,none⟩)
 h16:D 16=true->pI= .pointer (some ⟨b,0,none⟩)
 h17:D 17=true->s24= .pointer (some ⟨b,3,none⟩)
section
variable {W:World} {b:Nat} {SV TV X0:Value} {n:Nat} {e:Int} {T:World->Value->Prop} {D:Nat->Bool} {w w':World} {s7 s8 s9 s10 s11 s12 s13 iT s15 s16 iR iQ iO s20 qG qF pI s24:Value}
theorem mU.at0 (h:mU W b SV TV X0 n e T D w s7 s8 s9 s10 s11 s12 s13 iT s15 s16 iR iQ iO s20 qG qF pI s24):mU W b SV TV X0 n e T (λj=>j==0||D j) w (.pointer (some ⟨b,0,none⟩)) s8 s9 s10 s11 s12 s13 iT s15 s16 iR iQ iO s20 qG qF pI s24:=
 ⟨h.hb,λ_=>rfl,h.h1,h.h2,h.h3,h.h4,h.h5,h.h6,h.h7,h.h8,h.h9,h.h10,h.h11,h.h12,h.h13,h.h14,h.h15,h.h16,h.h17⟩
theorem mU.at1 (h:mU W b SV TV X0 n e T D w s7 s8 s9 s10 s11 s12 s13 iT s15 s16 iR iQ iO s20 qG qF pI s24):mU W b SV TV X0 n e T (λj=>j==1||D j) w s7 (.pointer (some ⟨b,0,none⟩)) s9 s10 s11 s12 s13 iT s15 s16 iR iQ iO s20 qG qF pI s24:=
 ⟨h.hb,h.h0,λ_=>rfl,h.h2,h.h3,h.h4,h.h5,h.h6,h.h7,h.h8,h.h9,h.h10,h.h11,h.h12,h.h13,h.h14,h.h15,h.h16,h.h17⟩
theorem mU.at2 (h:mU W b SV TV X0 n e T D w s7 s8 s9 s10 s11 s12 s13 iT s15 s16 iR iQ iO s20 qG qF pI s24):mU W b SV TV X0 n e T (λj=>j==2||D j) w s7 s8 (.pointer (some ⟨b,0,none⟩)) s10 s11 s12 s13 iT s15 s16 iR iQ iO s20 qG qF pI s24:=
 ⟨h.hb,h.h0,h.h1,λ_=>rfl,h.h3,h.h4,h.h5,h.h6,h.h7,h.h8,h.h9,h.h10,h.h11,h.h12,h.h13,h.h14,h.h15,h.h16,h.h17⟩
theorem mU.at3 (h:mU W b SV TV X0 n e T D w s7 s8 s9 s10 s11 s12 s13 iT s15 s16 iR iQ iO s20 qG qF pI s24):mU W b SV TV X0 n e T (λj=>j==3||D j) w s7 s8 s9 (.pointer (some ⟨b,0,none⟩)) s11 s12 s13 iT s15 s16 iR iQ iO s20 qG qF pI s24:=
 ⟨h.hb,h.h0,h.h1,h.h2,λ_=>rfl,h.h4,h.h5,h.h6,h.h7,h.h8,h.h9,h.h10,h.h11,h.h12,h.h13,h.h14,h.h15,h.h16,h.h17⟩
theorem mU.at4 (h:mU W b SV TV X0 n e T D w s7 s8 s9 s10 s11 s12 s13 iT s15 s16 iR iQ iO s20 qG qF pI s24):mU W b SV TV X0 n e T (λj=>j==4||D j) w s7 s8 s9 s10 (.pointer (some ⟨b,3,none⟩)) s12 s13 iT s15 s16 iR iQ iO s20 qG qF pI s24:=
 ⟨h.hb,h.h0,h.h1,h.h2,h.h3,λ_=>rfl,h.h5,h.h6,h.h7,h.h8,h.h9,h.h10,h.h11,h.h12,h.h13,h.h14,h.h15,h.h16,h.h17⟩
theorem mU.at5 (h:mU W b SV TV X0 n e T D w s7 s8 s9 s10 s11 s12 s13 iT s15 s16 iR iQ iO s20 qG qF pI s24):mU W b SV TV X0 n e T (λj=>j==5||D j) w s7 s8 s9 s10 s11 (SV) s13 iT s15 s16 iR iQ iO s20 qG qF pI s24:=
 ⟨h.hb,h.h0,h.h1,h.h2,h.h3,h.h4,λ_=>rfl,h.h6,h.h7,h.h8,h.h9,h.h10,h.h11,h.h12,h.h13,h.h14,h.h15,h.h16,h.h17⟩
theorem mU.at6 (h:mU W b SV TV X0 n e T D w s7 s8 s9 s10 s11 s12 s13 iT s15 s16 iR iQ iO s20 qG qF pI s24):mU W b SV TV X0 n e T (λj=>j==6||D j) w s7 s8 s9 s10 s11 s12 (.pointer (some ⟨b,0,none⟩)) iT s15 s16 iR iQ iO s20 qG qF pI s24:=
 ⟨h.hb,h.h0,h.h1,h.h2,h.h3,h.h4,h.h5,λ_=>rfl,h.h7,h.h8,h.h9,h.h10,h.h11,h.h12,h.h13,h.h14,h.h15,h.h16,h.h17⟩
theorem mU.at7 (h:mU W b SV TV X0 n e T D w s7 s8 s9 s10 s11 s12 s13 iT s15 s16 iR iQ iO s20 qG qF pI s24):mU W b SV TV X0 n e T (λj=>j==7||D j) w s7 s8 s9 s10 s11 s12 s13 (.pointer (some ⟨b,0,none⟩)) s15 s16 iR iQ iO s20 qG qF pI s24:=
 ⟨h.hb,h.h0,h.h1,h.h2,h.h3,h.h4,h.h5,h.h6,λ_=>rfl,h.h8,h.h9,h.h10,h.h11,h.h12,h.h13,h.h14,h.h15,h.h16,h.h17⟩
theorem mU.at8 (h:mU W b SV TV X0 n e T D w s7 s8 s9 s10 s11 s12 s13 iT s15 s16 iR iQ iO s20 qG qF pI s24):mU W b SV TV X0 n e T (λj=>j==8||D j) w s7 s8 s9 s10 s11 s12 s13 iT (.pointer (some ⟨b,0,none⟩)) s16 iR iQ iO s20 qG qF pI s24:=
 ⟨h.hb,h.h0,h.h1,h.h2,h.h3,h.h4,h.h5,h.h6,h.h7,λ_=>rfl,h.h9,h.h10,h.h11,h.h12,h.h13,h.h14,h.h15,h.h16,h.h17⟩
theorem mU.at9 (h:mU W b SV TV X0 n e T D w s7 s8 s9 s10 s11 s12 s13 iT s15 s16 iR iQ iO s20 qG qF pI s24):mU W b SV TV X0 n e T (λj=>j==9||D j) w s7 s8 s9 s10 s11 s12 s13 iT s15 (.pointer (some ⟨b,1,none⟩)) iR iQ iO s20 qG qF pI s24:=
 ⟨h.hb,h.h0,h.h1,h.h2,h.h3,h.h4,h.h5,h.h6,h.h7,h.h8,λ_=>rfl,h.h10,h.h11,h.h12,h.h13,h.h14,h.h15,h.h16,h.h17⟩
theorem mU.at10 (h:mU W b SV TV X0 n e T D w s7 s8 s9 s10 s11 s12 s13 iT s15 s16 iR iQ iO s20 qG qF pI s24):mU W b SV TV X0 n e T (λj=>j==10||D j) w s7 s8 s9 s10 s11 s12 s13 iT s15 s16 (TV) iQ iO s20 qG qF pI s24:=
 ⟨h.hb,h.h0,h.h1,h.h2,h.h3,h.h4,h.h5,h.h6,h.h7,h.h8,h.h9,λ_=>rfl,h.h11,h.h12,h.h13,h.h14,h.h15,h.h16,h.h17⟩
theorem mU.at11 (h:mU W b SV TV X0 n e T D w s7 s8 s9 s10 s11 s12 s13 iT s15 s16 iR iQ iO s20 qG qF pI s24):mU W b SV TV X0 n e T (λj=>j==11||D j) w s7 s8 s9 s10 s11 s12 s13 iT s15 s16 iR (.int .i64 n) iO s20 qG qF pI s24:=
 ⟨h.hb,h.h0,h.h1,h.h2,h.h3,h.h4,h.h5,h.h6,h.h7,h.h8,h.h9,h.h10,λ_=>rfl,h.h12,h.h13,h.h14,h.h15,h.h16,h.h17⟩
theorem mU.at12 (h:mU W b SV TV X0 n e T D w s7 s8 s9 s10 s11 s12 s13 iT s15 s16 iR iQ iO s20 qG qF pI s24):mU W b SV TV X0 n e T (λj=>j==12||D j) w s7 s8 s9 s10 s11 s12 s13 iT s15 s16 iR iQ (.int .i64 e) s20 qG qF pI s24:=
 ⟨h.hb,h.h0,h.h1,h.h2,h.h3,h.h4,h.h5,h.h6,h.h7,h.h8,h.h9,h.h10,h.h11,λ_=>rfl,h.h13,h.h14,h.h15,h.h16,h.h17⟩
theorem mU.at13 (h:mU W b SV TV X0 n e T D w s7 s8 s9 s10 s11 s12 s13 iT s15 s16 iR iQ iO s20 qG qF pI s24) (hap:D 14=false):mU W b SV TV X0 n e T (λj=>j==13||D j) (w.alloc (.cells #[X0] 3)) s7 s8 s9 s10 s11 s12 s13 iT s15 s16 iR iQ iO (.slice (some ⟨w.heap.size,0,none⟩) 1 1) qG qF pI s24:=
 ⟨λ_=>(h.hb hap).alloc (h.hb hap).size _,h.h0,h.h1,h.h2,h.h3,h.h4,h.h5,h.h6,h.h7,h.h8,h.h9,h.h10,h.h11,h.h12,λ_ _=>⟨w.heap.size,rfl,by simp⟩,λe=>(by rw [show D 14=true from e] at hap;cases hap),h.h15,h.h16,h.h17⟩
theorem mU.at14 (h:mU W b SV TV X0 n e T D w s7 s8 s9 s10 s11 s12 s13 iT s15 s16 iR iQ iO s20 qG qF pI s24) {w4:World} {v4:Value} (ht:T w4 v4):mU W b SV TV X0 n e T (λj=>j==14||D j) w4 s7 s8 s9 s10 s11 s12 s13 iT s15 s16 iR iQ iO s20 (v4) qF pI s24:=
 ⟨λe=>(by cases e),h.h0,h.h1,h.h2,h.h3,h.h4,h.h5,h.h6,h.h7,h.h8,h.h9,h.h10,h.h11,h.h12,λ_ e=>(by cases e),λ_=>ht,h.h15,h.h16,h.h17⟩
theorem mU.at15 (h:mU W b SV TV X0 n e T D w s7 s8 s9 s10 s11 s12 s13 iT s15 s16 iR iQ iO s20 qG qF pI s24):mU W b SV TV X0 n e T (λj=>j==15||D j) w s7 s8 s9 s10 s11 s12 s13 iT s15 s16 iR iQ iO s20 qG (.pointer (some ⟨b,0,none⟩)) pI s24:=
 ⟨h.hb,h.h0,h.h1,h.h2,h.h3,h.h4,h.h5,h.h6,h.h7,h.h8,h.h9,h.h10,h.h11,h.h12,h.h13,h.h14,λ_=>rfl,h.h16,h.h17⟩
theorem mU.at16 (h:mU W b SV TV X0 n e T D w s7 s8 s9 s10 s11 s12 s13 iT s15 s16 iR iQ iO s20 qG qF pI s24):mU W b SV TV X0 n e T (λj=>j==16||D j) w s7 s8 s9 s10 s11 s12 s13 iT s15 s16 iR iQ iO s20 qG qF (.pointer (some ⟨b,0,none⟩)) s24:=
 ⟨h.hb,h.h0,h.h1,h.h2,h.h3,h.h4,h.h5,h.h6,h.h7,h.h8,h.h9,h.h10,h.h11,h.h12,h.h13,h.h14,h.h15,λ_=>rfl,h.h17⟩
theorem mU.at17 (h:mU W b SV TV X0 n e T D w s7 s8 s9 s10 s11 s12 s13 iT s15 s16 iR iQ iO s20 qG qF pI s24):mU W b SV TV X0 n e T (λj=>j==17||D j) w s7 s8 s9 s10 s11 s12 s13 iT s15 s16 iR iQ iO s20 qG qF pI (.pointer (some ⟨b,3,none⟩)):=
 ⟨h.hb,h.h0,h.h1,h.h2,h.h3,h.h4,h.h5,h.h6,h.h7,h.h8,h.h9,h.h10,h.h11,h.h12,h.h13,h.h14,h.h15,h.h16,λ_=>rfl⟩
theorem mU.start (h:Below W.heap.size W w):mU W b SV TV X0 n e T (λ_=>false) w s7 s8 s9 s10 s11 s12 s13 iT s15 s16 iR iQ iO s20 qG qF pI s24:=
 ⟨λ_=>h,λe=>(by cases e),λe=>(by cases e),λe=>(by cases e),λe=>(by cases e),λe=>(by cases e),λe=>(by cases e),λe=>(by cases e),λe=>(by cases e),λe=>(by cases e),λe=>(by cases e),λe=>(by cases e),λe=>(by cases e),λe=>(by cases e),λe=>(by cases e),λe=>(by cases e),λe=>(by cases e),λe=>(by cases e),λe=>(by cases e)⟩
end
theorem XN {lo:Nat} (b:Nat) (p:Pf) (a1 a2 a3 a4:Value) (r:Int) (fr:List Int) (fv:Value) (c:Cl) (cv:Value) (w:World) (h:PS lo w b p a1 a2 a3 a4) (hf:iA (EL lo b a2 a3 a4) w fr fv) (hc:dQ w c cv) (hl:p.sts.length<=120):
  Calls Tryz.prog 61 #[.pointer (some ⟨b,0,none⟩),.agg #[.int .i64 r,fv,cv]] w λe w'=>∃z2,e= .returned (.bool (bI p r fr c).2)/\PS lo w' b (bI p r fr c).1 a1 z2 a3 a4/\kX w (iU b a2 a3 a4) w' (iU b z2 a3 a4):=by
 obtain ⟨sg,sts,act,wai,fnd,lst⟩:=p;obtain ⟨⟨s1,s3,rfl⟩,⟨t1,t3,rfl⟩,⟨u1,u3,rfl⟩,v1,v3,rfl⟩:=h.slices;obtain ⟨f1,f3,rfl⟩:=hf.slice;obtain ⟨c1,c3,rfl⟩:=aK hc;have H:=aB h;have Hf:=aB hf;have Hc:=aB hc;have hl:sts.length<=120:=hl;obtain ⟨⟨Q1,Q2⟩,hQ⟩:∃Q,Q=bI ⟨sg,sts,act,wai,fnd,lst⟩ r fr c:=⟨_,rfl⟩;rw [←hQ];have HQ:=aB hQ;clear h hf hc hQ;simp only at*;go_enter Tryz.func61,Tryz.ntmps61
 go_upto_region 1 with fail
 generalize hw1:w.alloc (.cells #[.int .i64 r,.slice f1 fr.length f3,.slice c1 c.length c3] 46)=w1;have hb1:Below w.heap.size w w1:=by rw [←hw1];exact aD _ _
 have q0:w1.cell? ⟨w.heap.size,0,none⟩=some (.int .i64 r):=by rw [←hw1];simp
 have q1:w1.cell? ⟨w.heap.size,1,none⟩=some (.slice f1 fr.length f3):=by rw [←hw1];simp
 have q2:w1.cell? ⟨w.heap.size,2,none⟩=some (.slice c1 c.length c3):=by rw [←hw1];simp
 have aTD:w.heap.size<w1.heap.size:=by rw [←hw1];simp
 have HM:=aB (kX.of hb1 (iU b (.slice t1 sts.length t3) (.slice u1 act.length u3) (.slice v1 wai.length v3)));have hbs:=(H.out.bx.lt:b<w.heap.size);replace H:=aB (H.out.below hb1);replace Hf:=aB (Hf.out.below hb1);replace Hc:=aB (Hc.out.below hb1);clear hw1 hb1;obtain ⟨x0,x1,x2,x3,x4,x5,xf⟩:=H.out.bx;simp only at x0 x1 x2 x3 x4 x5;by_cases aRC:120<=sts.length
 · have aSC:(120:Int)<=(sts.length:Int):=by omega
   have e:Q1=⟨sg,sts,act,wai,fnd,true⟩/\Q2=false:=by have h:=HQ.out;unfold bI at h;rw [if_pos aRC] at h;simpa using h
   obtain ⟨rfl,rfl⟩:=e;have f5:=xf 5;clear xf;have Hs:=aB (H.out.set5 true)
   go_wp2_with fail
   go_ret;exact ⟨rfl,_,Hs.out.1,HM.out.trans Hs.out.2⟩
 have aSC:¬(120:Int)<=(sts.length:Int):=by omega
 obtain ⟨F,hF⟩:∃F:Int,F=if c.length=0/\fnd<0 then (sts.length:Int) else fnd:=⟨_,rfl⟩
 have e:Q1=⟨sg,sts++[(r,fr,c)],act,wai,F,lst⟩/\Q2=true:=by have h:=HQ.out;unfold bI at h;rw [if_neg aRC] at h;rw [hF];simpa using h
 obtain ⟨rfl,rfl⟩:=e;have HF:=aB hF;clear HQ hF;have f4:=xf 4
 go_upto_region 4 with fail
 have aNR:Hid (∀wx,(wx=w1/\F=fnd)\/wx=w1.setCell ⟨b,4,none⟩ (.int .i64 F)->PS lo wx b ⟨sg,sts,act,wai,F,lst⟩ (.slice s1 sg.length s3) (.slice t1 sts.length t3) (.slice u1 act.length u3) (.slice v1 wai.length v3)/\kX w (iU b (.slice t1 sts.length t3) (.slice u1 act.length u3) (.slice v1 wai.length v3)) wx (iU b (.slice t1 sts.length t3) (.slice u1 act.length u3) (.slice v1 wai.length v3))/\(wx.cell? ⟨w.heap.size,0,none⟩=some (.int .i64 r)/\wx.cell? ⟨w.heap.size,1,none⟩=some (.slice f1 fr.length f3)/\wx.cell? ⟨w.heap.size,2,none⟩=some (.slice c1 c.length c3))/\iA (EL lo b (.slice t1 sts.length t3) (.slice u1 act.length u3) (.slice v1 wai.length v3)) wx fr (.slice f1 fr.length f3)/\dQ wx c (.slice c1 c.length c3)):=by
  rintro wx (⟨rfl,rfl⟩|rfl)
  · exact ⟨H.out,HM.out,⟨q0,q1,q2⟩,Hf.out,Hc.out⟩
  · have hs:=H.out.set4 F;have hne:∀i,(⟨b,4,none⟩:Addr)≠⟨w.heap.size,i,none⟩:=λi e=>by simp only [Addr.mk.injEq] at e;omega
    exact ⟨hs.1,HM.out.trans hs.2,⟨bJ q0 (hne 0),bJ q1 (hne 1),bJ q2 (hne 2)⟩,Hf.out.mv hs.2.more,(H.out.kpt hs.2).cin Hc.out⟩
 go_cut [24] from 16 to 24 (λs24 wx=>w1=wx/\∃G:Bool,s24= .bool G/\(G=true->F=(sts.length:Int))/\(G=false->F=fnd))
 case first=>
  have uE:=aB (xC b fnd w1 x4);obtain ⟨fb,QC⟩:∃fb,fb=decide (-1<fnd):=⟨_,rfl⟩;rw [←QC] at uE;have Hfb:=aB QC;clear QC;by_cases h0:c.length=0
  · have h0b:((c.length:Int)==0)=true:=by simp [h0]
    have H0:=aB h0;clear h0;cases fb with
    |true=>
     have hFe:Hid (F=fnd):=by rw [Hid,HF.out,if_neg];have:=of_decide_eq_true Hfb.out.symm;omega
     go_wp2_with fail
     refine uE.out.mono ?_;rintro e wf ⟨rfl,rfl⟩
     go_wp2_with fail
     go_meet
     case rel=>exact ⟨rfl,false,rfl,(λh=>by cases h),λ_=>hFe.out⟩
    |false=>
     have hFe:Hid (F=(sts.length:Int)):=by rw [Hid,HF.out,if_pos];have:=of_decide_eq_false Hfb.out.symm;exact ⟨H0.out,by omega⟩
     go_wp2_with fail
     refine uE.out.mono ?_;rintro e wf ⟨rfl,rfl⟩
     go_wp2_with fail
     go_meet
     case rel=>exact ⟨rfl,true,rfl,λ_=>hFe.out,(λh=>by cases h)⟩
  · have h0b:((c.length:Int)==0)=false:=by simpa using h0
    have hFe:Hid (F=fnd):=by rw [Hid,HF.out,if_neg (λh=>h0 h.1)]
    go_wp2_with fail
    go_meet
    case rel=>exact ⟨rfl,false,rfl,(λh=>by cases h),λ_=>hFe.out⟩
 case rest=>
 obtain ⟨hw,G,rfl,hG1,hG2⟩:=hcut;subst hw;have HG1:=aB hG1;have HG2:=aB hG2;clear hG1 hG2
 go_upto_if 24 with fail
 go_cut [] from 25 to 34 (λwx=>(wx=w1/\F=fnd)\/wx=w1.setCell ⟨b,4,none⟩ (.int .i64 F))
 case first=>
  cases G with
  |true=>
   have e:=HG1.out rfl;have hF2:Hid (.int .i64 (sts.length:Int)=Value.int .i64 F):=by rw [Hid,e]
   clear e
   go_wp2_with fail
   go_meet
   case rel=>exact .inr (by rw [hF2.out])
  |false=>
   have e:=aB (HG2.out rfl)
   go_wp2_with fail
   go_meet
   case rel=>exact .inl ⟨rfl,e.out⟩
 case rest=>
  obtain ⟨hP,hMM,⟨p0,p1,p2⟩,hfc,hcc⟩:=aNR.out wc hcut;replace H:=aB hP;replace HM:=aB hMM;replace Hf:=aB hfc;replace Hc:=aB hcc;clear hP hMM hfc hcc hcut aNR HF x0 x1 x2 x3 x4 x5 xf f4 q0 q1 q2;obtain ⟨x0,x1,x2,x3,x4,x5,xf⟩:=H.out.bx;simp only at x0 x1 x2 x3 x4 x5;have fz1:=xf 1;obtain ⟨xs,hR,hV⟩:=H.out.st;have HR:=aB hR;have HV:=aB hV;have hlt:=H.out.bx.lt;clear hR hV xf x0 x2 x3 x4 x5;obtain ⟨iS,hiS,hz0,hz1,hz2⟩:=info_parts Tryz.info46;have HiS:=aB (And.intro hiS (And.intro hz0 (And.intro hz1 hz2)));clear hiS hz0 hz1 hz2
  go_upto_region 6 with fail
  refine lU (λD a w'=>((D 12=false/\CLo nG D)/\∃fE fD fC fB jL jK jJ gD s43 s44 gB fZ:Value,a=⟨#[.pointer (some ⟨b,0,none⟩),.agg #[.int .i64 r,.slice f1 fr.length f3,.slice c1 (List.length c) c3],undef,.pointer (some ⟨w.heap.size,0,none⟩),.bool false,.pointer (some ⟨b,0,none⟩),.pointer (some ⟨b,0,none⟩),.pointer (some ⟨b,0,none⟩),.pointer (some ⟨b,1,none⟩),.slice t1 sts.length t3,.int .i64 (sts.length:Int),.bool false,undef,undef,undef,undef,u16,u17,u18,u19,u20,u21,u22,u23,.bool G,u25,u26,u27,u28,u29,u30,u31,u32,u33,u34,fE,fD,fC,fB,jL,jK,jJ,gD,s43,s44,gB,fZ],[]⟩/\sN wc b (.slice t1 sts.length t3) (.agg #[.int .i64 r,.slice f1 fr.length f3,.slice c1 c.length c3]) (.int .i64 r) (.slice f1 fr.length f3) (.slice c1 c.length c3) (λw5 u=>∃w3,Below wc.heap.size wc w3/\Rw lo w5 46 3 u (sts.length+1) (xs++[.int .i64 r,.slice f1 fr.length f3,.slice c1 c.length c3])/\w3.grownBy w5 (Value.slice t1 sts.length t3).ownBlock/\(u.ownBlock=(Value.slice t1 sts.length t3).ownBlock\/u.ownBlock=some w3.heap.size)) D w' fE fD fC fB jL jK jJ gD s43 s44 gB fZ)\/((∀i,i<13->D i=true)/\(∃z2,PS lo w' b ⟨sg,sts++[(r,fr,c)],act,wai,F,lst⟩ (.slice s1 sg.length s3) z2 (.slice u1 act.length u3) (.slice v1 wai.length v3)/\kX w (iU b (.slice t1 sts.length t3) (.slice u1 act.length u3) (.slice v1 wai.length v3)) w' (iU b z2 (.slice u1 act.length u3) (.slice v1 wai.length v3)))/\∃fE fD fC fB jL jK jJ gD s43 s44 gB fZ:Value,a=⟨#[.pointer (some ⟨b,0,none⟩),.agg #[.int .i64 r,.slice f1 fr.length f3,.slice c1 (List.length c) c3],undef,.pointer (some ⟨w.heap.size,0,none⟩),.bool false,.pointer (some ⟨b,0,none⟩),.pointer (some ⟨b,0,none⟩),.pointer (some ⟨b,0,none⟩),.pointer (some ⟨b,1,none⟩),.slice t1 sts.length t3,.int .i64 (sts.length:Int),.bool false,undef,undef,undef,undef,u16,u17,u18,u19,u20,u21,u22,u23,.bool G,u25,u26,u27,u28,u29,u30,u31,u32,u33,u34,fE,fD,fC,fB,jL,jK,jJ,gD,s43,s44,gB,fZ],[]⟩)) (by kernel_rfl) (by kernel_rfl) ?_ ?_ (.inl ⟨⟨rfl,λk hk=>by cases hk⟩,_,_,_,_,_,_,_,_,_,_,_,_,rfl,sN.start (Below.refl _ _).drew⟩)
  · rintro D a w' i hop hi (⟨⟨hL,hcl⟩,fE,fD,fC,fB,jL,jK,jJ,gD,s43,s44,gB,fZ,rfl,hI⟩|⟨hall,-⟩) hD ho aI
    · have HI:=aB hI;have HL:=aB hL;have dI:=aB hcl;clear hI hL hcl;have hi':i<13:=hi;clear hi;rcases (by omega:i=0\/i=1\/i=2\/i=3\/i=4\/i=5\/i=6\/i=7\/i=8\/i=9\/i=10\/i=11\/i=12) with rfl|rfl|rfl|rfl|rfl|rfl|rfl|rfl|rfl|rfl|rfl|rfl|rfl
      · obtain rfl:=Option.some.inj ho;have cZ:=aB (aO dI.out 0 (λm hm=>by simp only [nG,List.not_mem_nil] at hm));clear ho aI hD;refine wpOp_step rfl (λK hK=>?_);go_simp;exact hK _ _ (.inl ⟨⟨HL.out,cZ.out⟩,_,_,_,_,_,_,_,_,_,_,_,_,rfl,HI.out.at0⟩)
      · obtain rfl:=Option.some.inj ho;have cZ:=aB (aO dI.out 1 (λm hm=>by simp only [nG,List.not_mem_nil] at hm));clear ho aI hD;refine wpOp_step rfl (λK hK=>?_);go_simp;exact hK _ _ (.inl ⟨⟨HL.out,cZ.out⟩,_,_,_,_,_,_,_,_,_,_,_,_,rfl,HI.out.at1⟩)
      · obtain rfl:=Option.some.inj ho;have y1:=aI ⟨1,.data⟩ (by simp) rfl;have cZ:=aB (aO dI.out 2 (λm hm=>by simp only [nG,List.mem_cons,List.not_mem_nil,or_false] at hm;subst hm;assumption));have d1:=HI.out.h1 y1;subst d1;clear ho aI hD;refine wpOp_step rfl (λK hK=>?_);go_simp;exact hK _ _ (.inl ⟨⟨HL.out,cZ.out⟩,_,_,_,_,_,_,_,_,_,_,_,_,rfl,HI.out.at2⟩)
      · obtain rfl:=Option.some.inj ho;have y2:=aI ⟨2,.data⟩ (by simp) rfl;have cZ:=aB (aO dI.out 3 (λm hm=>by simp only [nG,List.mem_cons,List.not_mem_nil,or_false] at hm;subst hm;assumption));have d2:=HI.out.h2 y2;subst d2;clear ho aI hD;refine wpOp_step rfl (λK hK=>?_);go_simp;exact hK _ _ (.inl ⟨⟨HL.out,cZ.out⟩,_,_,_,_,_,_,_,_,_,_,_,_,rfl,HI.out.at3⟩)
      · obtain rfl:=Option.some.inj ho;have y3:=aI ⟨3,.data⟩ (by simp) rfl;have cZ:=aB (aO dI.out 4 (λm hm=>by simp only [nG,List.mem_cons,List.not_mem_nil,or_false] at hm;subst hm;assumption));have d3:=HI.out.h3 y3;subst d3;clear ho aI hD;refine wpOp_step rfl (λK hK=>?_);go_simp;exact hK _ _ (.inl ⟨⟨HL.out,cZ.out⟩,_,_,_,_,_,_,_,_,_,_,_,_,rfl,HI.out.at4⟩)
      · obtain rfl:=Option.some.inj ho;have y4:=aI ⟨4,.data⟩ (by simp) rfl;have cZ:=aB (aO dI.out 5 (λm hm=>by simp only [nG,List.mem_cons,List.not_mem_nil,or_false] at hm;subst hm;assumption));have d4:=HI.out.h4 y4;subst d4;have hap:D 8=false:=by
         cases e:D 8
         · rfl
         · have:=(dI.out 8 e 5 (by decide));rw [hD] at this;cases this
        have m_x1:=aA (HI.out.hb hap) _ _ x1;clear ho aI hD;refine wpOp_step rfl (λK hK=>?_);go_simp;exact hK _ _ (.inl ⟨⟨HL.out,cZ.out⟩,_,_,_,_,_,_,_,_,_,_,_,_,rfl,HI.out.at5⟩)
      · obtain rfl:=Option.some.inj ho;have cZ:=aB (aO dI.out 6 (λm hm=>by simp only [nG,List.not_mem_nil] at hm));have hap:D 8=false:=by
         cases e:D 8
         · rfl
         · have:=(dI.out 7 (dI.out 8 e 7 (by decide)) 6 (by decide));rw [hD] at this;cases this
        have m_q0:=aA (HI.out.hb hap) _ _ p0;have m_q1:=aA (HI.out.hb hap) _ _ p1;have m_q2:=aA (HI.out.hb hap) _ _ p2;clear ho aI hD;refine wpOp_step rfl (λK hK=>?_);go_simp;exact hK _ _ (.inl ⟨⟨HL.out,cZ.out⟩,_,_,_,_,_,_,_,_,_,_,_,_,rfl,HI.out.at6⟩)
      · obtain rfl:=Option.some.inj ho;have y6:=aI ⟨6,.data⟩ (by simp) rfl;have cZ:=aB (aO dI.out 7 (λm hm=>by simp only [nG,List.mem_cons,List.not_mem_nil,or_false] at hm;subst hm;assumption));have d6:=HI.out.h6 y6;subst d6;have hap:D 8=false:=by
         cases e:D 8
         · rfl
         · have:=(dI.out 8 e 7 (by decide));rw [hD] at this;cases this
        have HI2:=aB (HI.out.at7 hap);clear ho aI hD;refine wpOp_step rfl (λK hK=>?_);go_simp;exact hK _ _ (.inl ⟨⟨HL.out,cZ.out⟩,_,_,_,_,_,_,_,_,_,_,_,_,rfl,HI2.out⟩)
      · obtain rfl:=Option.some.inj ho;have y5:=aI ⟨5,.data⟩ (by simp) rfl;have y7:=aI ⟨7,.data⟩ (by simp) rfl;have cZ:=aB (aO dI.out 8 (λm hm=>by simp only [nG,List.mem_cons,List.not_mem_nil,or_false] at hm;rcases hm with rfl|rfl<;>assumption));have d5:=HI.out.h5 y5;subst d5;obtain ⟨g9,rfl,r0,r1,r2⟩:=HI.out.h7 y7 hD;have ZI:=HI.out.hb hD;have hRb:=HR.out.below ZI;obtain ⟨v6,w6,hrun,ho6,hg6,UL,aGT⟩:=lJ (P:=Tryz.prog) w' 25 25 lo 46 iS (.agg #[.int .i64 0,.slice none 0 0,.slice none 0 0]) 3 56 Tryz.underlying25 HiS.out.1 HiS.out.2.1 HiS.out.2.2.1 HiS.out.2.2.2 rfl (by decide) (λu hu=>by
         simp [Value.cells] at hu;rcases hu with rfl|rfl
         · exact oM _ _
         · exact FD _ _ _) (.slice t1 sts.length t3) sts.length xs hRb.1 hRb.2 ⟨g9,0,none⟩ 1 1 [.int .i64 r,.slice f1 fr.length f3,.slice c1 c.length c3] rfl (λj u hj=>by
         rw [add_plain,Nat.zero_add]
         match j,hj with
         |0,hj=>simp at hj;subst hj;exact r0
         |1,hj=>simp at hj;subst hj;exact r1
         |2,hj=>simp at hj;subst hj;exact r2
         |j+3,hj=>simp at hj) (λu hu=>by
         simp at hu;rcases hu with rfl|rfl|rfl<;>rfl) (λu hu=>by
         simp at hu;rcases hu with rfl|rfl|rfl
         · exact oM _ _
         · exact FD _ _ _
         · exact FD _ _ _) (by decide) (by unfold maxLen;omega) (by omega) (Nat.le_trans H.out.bl (Nat.le_trans (Nat.le_of_lt hlt) ZI.size))
        have ht6:∃w3,Below wc.heap.size wc w3/\Rw lo w6 46 3 v6 (sts.length+1) (xs++[.int .i64 r,.slice f1 fr.length f3,.slice c1 c.length c3])/\w3.grownBy w6 (Value.slice t1 sts.length t3).ownBlock/\(v6.ownBlock=(Value.slice t1 sts.length t3).ownBlock\/v6.ownBlock=some w3.heap.size):=⟨w',ZI,⟨ho6,aGT⟩,hg6,UL⟩;clear ho6 hg6 UL aGT hRb;have HI2:=aB (HI.out.at8 (w4:=w6) (v4:=v6) ht6);have QT:=aB hrun;clear ht6 hrun r0 r1 r2 ZI;clear ho aI hD;refine wpOp_step rfl (λK hK=>?_);rw [if_pos (show Region.wanted _ _=true from rfl)];refine o8 (.tmp 40) (.tmp 42) 25 rfl _ _ v6 w6 rfl rfl QT.out ?_;exact hK _ _ (.inl ⟨⟨HL.out,cZ.out⟩,_,_,_,_,_,_,_,_,_,_,_,_,rfl,HI2.out⟩)
      · obtain rfl:=Option.some.inj ho;have y0:=aI ⟨0,.data⟩ (by simp) rfl;have y1:=aI ⟨1,.phase⟩ (by simp) rfl;have y2:=aI ⟨2,.phase⟩ (by simp) rfl;have y3:=aI ⟨3,.phase⟩ (by simp) rfl;have y4:=aI ⟨4,.phase⟩ (by simp) rfl;have y5:=aI ⟨5,.phase⟩ (by simp) rfl;have y6:=aI ⟨6,.phase⟩ (by simp) rfl;have y7:=aI ⟨7,.phase⟩ (by simp) rfl;have y8:=aI ⟨8,.phase⟩ (by simp) rfl;have cZ:=aB (aO dI.out 9 (λm hm=>by simp only [nG,List.mem_cons,List.not_mem_nil,or_false] at hm;rcases hm with rfl|rfl|rfl|rfl|rfl|rfl|rfl|rfl|rfl<;>assumption));have d0:=HI.out.h0 y0;subst d0;clear ho aI hD;refine wpOp_step rfl (λK hK=>?_);go_simp;exact hK _ _ (.inl ⟨⟨HL.out,cZ.out⟩,_,_,_,_,_,_,_,_,_,_,_,_,rfl,HI.out.at9⟩)
      · obtain rfl:=Option.some.inj ho;have y9:=aI ⟨9,.data⟩ (by simp) rfl;have y0:=aI ⟨0,.phase⟩ (by simp) rfl;have y1:=aI ⟨1,.phase⟩ (by simp) rfl;have y2:=aI ⟨2,.phase⟩ (by simp) rfl;have y3:=aI ⟨3,.phase⟩ (by simp) rfl;have y4:=aI ⟨4,.phase⟩ (by simp) rfl;have y5:=aI ⟨5,.phase⟩ (by simp) rfl;have y6:=aI ⟨6,.phase⟩ (by simp) rfl;have y7:=aI ⟨7,.phase⟩ (by simp) rfl;have y8:=aI ⟨8,.phase⟩ (by simp) rfl;have cZ:=aB (aO dI.out 10 (λm hm=>by simp only [nG,List.mem_cons,List.not_mem_nil,or_false] at hm;rcases hm with rfl|rfl|rfl|rfl|rfl|rfl|rfl|rfl|rfl|rfl<;>assumption));have d9:=HI.out.h9 y9;subst d9;clear ho aI hD;refine wpOp_step rfl (λK hK=>?_);go_simp;exact hK _ _ (.inl ⟨⟨HL.out,cZ.out⟩,_,_,_,_,_,_,_,_,_,_,_,_,rfl,HI.out.at10⟩)
      · obtain rfl:=Option.some.inj ho;have y10:=aI ⟨10,.data⟩ (by simp) rfl;have y0:=aI ⟨0,.phase⟩ (by simp) rfl;have y1:=aI ⟨1,.phase⟩ (by simp) rfl;have y2:=aI ⟨2,.phase⟩ (by simp) rfl;have y3:=aI ⟨3,.phase⟩ (by simp) rfl;have y4:=aI ⟨4,.phase⟩ (by simp) rfl;have y5:=aI ⟨5,.phase⟩ (by simp) rfl;have y6:=aI ⟨6,.phase⟩ (by simp) rfl;have y7:=aI ⟨7,.phase⟩ (by simp) rfl;have y8:=aI ⟨8,.phase⟩ (by simp) rfl;have cZ:=aB (aO dI.out 11 (λm hm=>by simp only [nG,List.mem_cons,List.not_mem_nil,or_false] at hm;rcases hm with rfl|rfl|rfl|rfl|rfl|rfl|rfl|rfl|rfl|rfl<;>assumption));have d10:=HI.out.h10 y10;subst d10;clear ho aI hD;refine wpOp_step rfl (λK hK=>?_);go_simp;exact hK _ _ (.inl ⟨⟨HL.out,cZ.out⟩,_,_,_,_,_,_,_,_,_,_,_,_,rfl,HI.out.at11⟩)
      · obtain rfl:=Option.some.inj ho;have MJ:=aI ⟨11,.data⟩ (by simp) rfl;have y8:=aI ⟨8,.data⟩ (by simp) rfl;have y0:=aI ⟨0,.phase⟩ (by simp) rfl;have y1:=aI ⟨1,.phase⟩ (by simp) rfl;have y2:=aI ⟨2,.phase⟩ (by simp) rfl;have y3:=aI ⟨3,.phase⟩ (by simp) rfl;have y4:=aI ⟨4,.phase⟩ (by simp) rfl;have y5:=aI ⟨5,.phase⟩ (by simp) rfl;have y6:=aI ⟨6,.phase⟩ (by simp) rfl;have y7:=aI ⟨7,.phase⟩ (by simp) rfl;have d11:=HI.out.h11 MJ;subst d11;have qI:Hid (∀i,i<13->(i==12||D i)=true):=λi hi=>by
         rcases (by omega:i=0\/i=1\/i=2\/i=3\/i=4\/i=5\/i=6\/i=7\/i=8\/i=9\/i=10\/i=11\/i=12) with rfl|rfl|rfl|rfl|rfl|rfl|rfl|rfl|rfl|rfl|rfl|rfl|rfl
         · exact y0
         · exact y1
         · exact y2
         · exact y3
         · exact y4
         · exact y5
         · exact y6
         · exact y7
         · exact y8
         · exact (dI.out 10 (dI.out 11 MJ 10 (by decide)) 9 (by decide))
         · exact (dI.out 11 MJ 10 (by decide))
         · exact MJ
         · rfl
        obtain ⟨w3,t1',t2,t3',t4⟩:=HI.out.h8 y8;obtain ⟨z1,z3,hu⟩:=aR t2.1;have hPw:=H.out.below t1';obtain ⟨hP1,hP2⟩:=hPw.steps (x:=(r,fr,c)) (HV.out.below t1') (Hf.out.below t1') (Hc.out.below t1') rfl t2 t3' t4;have hMw:=(HM.out.step t1').trans hP2;have Hx1:Hid (∃u0,w'.cell? ⟨b,1,none⟩=some u0):=by have hh:=(World.cell?_of_block (a:=⟨b,1,none⟩) (t3'.block b (Nat.lt_of_lt_of_le hlt t1'.size) (λe=>hPw.d2 e.symm))).trans (aA t1' _ _ x1);exact ⟨_,hh⟩
        have Hf1:Hid (w'.frozen? ⟨b,1,none⟩=false):=(World.frozen?_of_block (a:=⟨b,1,none⟩) (t3'.block b (Nat.lt_of_lt_of_le hlt t1'.size) (λe=>hPw.d2 e.symm))).trans ((t1'.frozen (p:=⟨b,1,none⟩) hlt).trans fz1);subst hu;have bP:=aB (Exists.intro (Value.slice z1 (sts.length+1) z3) (And.intro hP1 hMw):∃z2,PS lo (w'.setCell ⟨b,1,none⟩ (.slice z1 (sts.length+1) z3)) b ⟨sg,sts++[(r,fr,c)],act,wai,F,lst⟩ (.slice s1 sg.length s3) z2 (.slice u1 act.length u3) (.slice v1 wai.length v3)/\kX w (iU b (.slice t1 sts.length t3) (.slice u1 act.length u3) (.slice v1 wai.length v3)) (w'.setCell ⟨b,1,none⟩ (.slice z1 (sts.length+1) z3)) (iU b z2 (.slice u1 act.length u3) (.slice v1 wai.length v3)));obtain ⟨u0,m1⟩:=Hx1.out;have m2:=Hf1.out;clear hP1 hP2 hMw hPw t1' t2 t3' t4 fz1 x1;clear ho aI hD;refine wpOp_step rfl (λK hK=>?_);go_simp;exact hK _ _ (.inr ⟨qI.out,bP.out,_,_,_,_,_,_,_,_,_,_,_,_,rfl⟩)
    · exact absurd (hall i hi) (by rw [hD];decide)
  · rintro D a w' (⟨⟨hL,-⟩,-⟩|⟨-,hF,fE,fD,fC,fB,jL,jK,jJ,gD,s43,s44,gB,fZ,rfl⟩) hall
    · rw [hall 12 (by decide)] at hL;cases hL
    · obtain ⟨z2,hP,hMM⟩:=hF;have HP:=aB hP;have HMM:=aB hMM;clear hP hMM hall
      go_wp2_with fail
      go_ret;exact ⟨rfl,z2,HP.out,HMM.out⟩
def nU (p:Pf) (r:Int) (fr:List Int) (c:Cl):Pf:=if (bI p r fr c).2 then {(bI p r fr c).1 with wai:=(bI p r fr c).1.wai++[((bI p r fr c).1.sts.length:Int) - 1]} else (bI p r fr c).1
theorem aB2 (r:Int) (fr:List Int) (p:Pf) (c:Cl):iD r fr p c=if 0<=p.fnd\/aDQ p c=true\/UN p c=true then p else nU p r fr c:=rfl
theorem NR {lo:Nat} (b:Nat) (p:Pf) (a1 a2 a3 a4:Value) (r:Int) (fr:List Int) (fv:Value) (c:Cl) (cv:Value) (w:World) (h:PS lo w b p a1 a2 a3 a4) (hf:iA (EL lo b a2 a3 a4) w fr fv) (hc:dQ w c cv) (hg:ND p):
  Calls Tryz.prog 49 #[.pointer (some ⟨b,0,none⟩),.agg #[.int .i64 r,fv,cv]] w λe w'=>e= .returned (.tuple #[])/\∃z2 z4,PS lo w' b (nU p r fr c) a1 z2 a3 z4/\kX w (iU b a2 a3 a4) w' (iU b z2 a3 z4):=by
 obtain ⟨⟨s1,s3,hs⟩,⟨t1,t3,ht⟩,⟨u1,u3,hu⟩,v1,v3,hv⟩:=h.slices;obtain ⟨f1,f3,rfl⟩:=hf.slice;obtain ⟨c1,c3,rfl⟩:=aK hc;obtain ⟨⟨⟨MB,gY,lN,kZ,kC,lM⟩,ok⟩,hS⟩:∃S,S=bI p r fr c:=⟨_,rfl⟩;obtain ⟨Q,hQ⟩:∃Q,Q=nU p r fr c:=⟨_,rfl⟩;have HQ:Hid (Q=if ok then ⟨MB,gY,lN,kZ++[(gY.length:Int) - 1],kC,lM⟩ else ⟨MB,gY,lN,kZ,kC,lM⟩):=by rw [Hid,hQ];unfold nU;rw [←hS]
 rw [←hQ];have hl2:gY.length<=120/\(ok=true->1<=gY.length)/\kZ.length<=120:=by
  have hgl:=hg.gl;have hgs:=hg.gs;rcases fM p r fr c with ⟨h1,e⟩|⟨h1,e⟩
  · have h2:=hS.trans e;simp only [Prod.mk.injEq,Pf.mk.injEq] at h2;obtain ⟨⟨_,rfl,_,rfl,_,_⟩,rfl⟩:=h2;exact ⟨hgl,λh=>by (cases h),by omega⟩
  · have h2:=hS.trans e;simp only [Prod.mk.injEq,Pf.mk.injEq] at h2;obtain ⟨⟨_,rfl,_,rfl,_,_⟩,rfl⟩:=h2;exact ⟨by simp;omega,λ_=>by simp,by omega⟩
 obtain ⟨hl2,hok,hl3⟩:=hl2;have QZ:=aB (λ(w':World) (hb:Below w.heap.size w w')=>XN b p a1 a2 a3 a4 r fr _ c _ w' (h.below hb) (hf.below hb) (hc.below hb) hg.gl);rw [←hS] at QZ;subst hs ht hu hv;have hlt:=h.bx.lt;generalize p.sig.length=n1 at*;generalize p.sts.length=n2 at*;generalize p.act.length=n3 at*;generalize p.wai.length=n4 at*;clear h hf hc hQ hg hS;clear p;simp only at*;go_enter Tryz.func49,Tryz.ntmps49
 go_upto_region 1 with fail
 generalize hw1:w.alloc (.cells #[.int .i64 r,.slice f1 fr.length f3,.slice c1 c.length c3] 46)=w1;have hb1:Below w.heap.size w w1:=by rw [←hw1];exact aD _ _
 have q0:w1.cell? ⟨w.heap.size,0,none⟩=some (.int .i64 r):=by rw [←hw1];simp
 have q1:w1.cell? ⟨w.heap.size,1,none⟩=some (.slice f1 fr.length f3):=by rw [←hw1];simp
 have q2:w1.cell? ⟨w.heap.size,2,none⟩=some (.slice c1 c.length c3):=by rw [←hw1];simp
 have HM:=aB (kX.of hb1 (iU b (.slice t1 n2 t3) (.slice u1 n3 u3) (.slice v1 n4 v3)));have Ha:=aB (QZ.out w1 hb1);clear hw1 hb1 QZ
 go_wp2_with fail
 refine Ha.out.mono ?_;rintro e w2 ⟨z2,rfl,hP,hMM⟩;have HP:=aB hP;replace HM:=aB (HM.out.trans hMM);clear hP hMM Ha q0 q1 q2;cases ok with
 |false=>
  obtain rfl:=HQ.out
  go_wp2_with fail
  go_end0
  exact ⟨rfl,_,_,HP.out,HM.out⟩
 |true=>
  have h1:=hok rfl;obtain ⟨-,⟨t1',t3',rfl⟩,-,-⟩:=HP.out.slices;obtain ⟨e9,he9⟩:∃e:Int,e=(gY.length:Int) - 1:=⟨_,rfl⟩;have hQ:=HQ.out;simp only [if_true] at hQ;rw [←he9] at hQ;subst hQ;have hw9:wrap64 ((gY.length:Int) - 1)=e9:=by rw [he9];exact tZ (by omega) (by omega)
  obtain ⟨x0,x1,x2,x3,x4,x5,xf⟩:=HP.out.bx;simp only at x0 x1 x2 x3 x4 x5;have fz3:=xf 3;have HR:=aB HP.out.wa;have aKN:=HP.out.bx.lt;obtain ⟨i3,hi3,hz0,hz1,hz2⟩:=info_parts Tryz.info3;have Hi3:=aB (And.intro hi3 (And.intro hz0 (And.intro hz1 hz2)));clear xf x0 x2 x4 x5 hi3 hz0 hz1 hz2 HQ hok he9;simp only at HR
  go_upto_region 2 with fail
  refine lU (λD a w'=>((D 18=false/\CLo jH D)/\∃s7 s8 s9 s10 s11 s12 s13 iT s15 s16 iR iQ iO s20 qG qF pI s24:Value,a=⟨#[.pointer (some ⟨b,0,none⟩),.agg #[.int .i64 r,.slice f1 fr.length f3,.slice c1 (List.length c) c3],undef,.pointer (some ⟨w.heap.size,0,none⟩),.pointer (some ⟨b,0,none⟩),.agg #[.int .i64 r,.slice f1 fr.length f3,.slice c1 (List.length c) c3],.bool true,s7,s8,s9,s10,s11,s12,s13,iT,s15,s16,iR,iQ,iO,s20,qG,qF,pI,s24],[]⟩/\mU w2 b (.slice v1 n4 v3) (.slice t1' gY.length t3') (.int .i64 e9) gY.length e9 (λw5 u=>∃w3,Below w2.heap.size w2 w3/\Rw lo w5 3 1 u (kZ.length+1) (bO kZ++[.int .i64 e9])/\w3.grownBy w5 (Value.slice v1 n4 v3).ownBlock/\(u.ownBlock=(Value.slice v1 n4 v3).ownBlock\/u.ownBlock=some w3.heap.size)) D w' s7 s8 s9 s10 s11 s12 s13 iT s15 s16 iR iQ iO s20 qG qF pI s24)\/((∀i,i<19->D i=true)/\(∃z4,PS lo w' b ⟨MB,gY,lN,kZ++[e9],kC,lM⟩ (.slice s1 n1 s3) (.slice t1' gY.length t3') (.slice u1 n3 u3) z4/\kX w (iU b (.slice t1 n2 t3) (.slice u1 n3 u3) (.slice v1 n4 v3)) w' (iU b (.slice t1' gY.length t3') (.slice u1 n3 u3) z4))/\∃s7 s8 s9 s10 s11 s12 s13 iT s15 s16 iR iQ iO s20 qG qF pI s24:Value,a=⟨#[.pointer (some ⟨b,0,none⟩),.agg #[.int .i64 r,.slice f1 fr.length f3,.slice c1 (List.length c) c3],undef,.pointer (some ⟨w.heap.size,0,none⟩),.pointer (some ⟨b,0,none⟩),.agg #[.int .i64 r,.slice f1 fr.length f3,.slice c1 (List.length c) c3],.bool true,s7,s8,s9,s10,s11,s12,s13,iT,s15,s16,iR,iQ,iO,s20,qG,qF,pI,s24],[]⟩)) (by kernel_rfl) (by kernel_rfl) ?_ ?_ (.inl ⟨⟨rfl,λk hk=>by cases hk⟩,_,_,_,_,_,_,_,_,_,_,_,_,_,_,_,_,_,_,rfl,mU.start (Below.refl _ _).drew⟩)
  · rintro D a w' i hop hi (⟨⟨hL,hcl⟩,s7,s8,s9,s10,s11,s12,s13,iT,s15,s16,iR,iQ,iO,s20,qG,qF,pI,s24,rfl,hI⟩|⟨hall,-⟩) hD ho aI
    · have HI:=aB hI;have HL:=aB hL;have dI:=aB hcl;clear hI hL hcl;have hi':i<19:=hi;clear hi;rcases (by omega:i=0\/i=1\/i=2\/i=3\/i=4\/i=5\/i=6\/i=7\/i=8\/i=9\/i=10\/i=11\/i=12\/i=13\/i=14\/i=15\/i=16\/i=17\/i=18) with rfl|rfl|rfl|rfl|rfl|rfl|rfl|rfl|rfl|rfl|rfl|rfl|rfl|rfl|rfl|rfl|rfl|rfl|rfl
      · obtain rfl:=Option.some.inj ho;have cZ:=aB (aO dI.out 0 (λm hm=>by simp only [jH,List.not_mem_nil] at hm));clear ho aI hD;refine wpOp_step rfl (λK hK=>?_);go_simp;exact hK _ _ (.inl ⟨⟨HL.out,cZ.out⟩,_,_,_,_,_,_,_,_,_,_,_,_,_,_,_,_,_,_,rfl,HI.out.at0⟩)
      · obtain rfl:=Option.some.inj ho;have cZ:=aB (aO dI.out 1 (λm hm=>by simp only [jH,List.not_mem_nil] at hm));clear ho aI hD;refine wpOp_step rfl (λK hK=>?_);go_simp;exact hK _ _ (.inl ⟨⟨HL.out,cZ.out⟩,_,_,_,_,_,_,_,_,_,_,_,_,_,_,_,_,_,_,rfl,HI.out.at1⟩)
      · obtain rfl:=Option.some.inj ho;have y1:=aI ⟨1,.data⟩ (by simp) rfl;have cZ:=aB (aO dI.out 2 (λm hm=>by simp only [jH,List.mem_cons,List.not_mem_nil,or_false] at hm;subst hm;assumption));have d1:=HI.out.h1 y1;subst d1;clear ho aI hD;refine wpOp_step rfl (λK hK=>?_);go_simp;exact hK _ _ (.inl ⟨⟨HL.out,cZ.out⟩,_,_,_,_,_,_,_,_,_,_,_,_,_,_,_,_,_,_,rfl,HI.out.at2⟩)
      · obtain rfl:=Option.some.inj ho;have y2:=aI ⟨2,.data⟩ (by simp) rfl;have cZ:=aB (aO dI.out 3 (λm hm=>by simp only [jH,List.mem_cons,List.not_mem_nil,or_false] at hm;subst hm;assumption));have d2:=HI.out.h2 y2;subst d2;clear ho aI hD;refine wpOp_step rfl (λK hK=>?_);go_simp;exact hK _ _ (.inl ⟨⟨HL.out,cZ.out⟩,_,_,_,_,_,_,_,_,_,_,_,_,_,_,_,_,_,_,rfl,HI.out.at3⟩)
      · obtain rfl:=Option.some.inj ho;have y3:=aI ⟨3,.data⟩ (by simp) rfl;have cZ:=aB (aO dI.out 4 (λm hm=>by simp only [jH,List.mem_cons,List.not_mem_nil,or_false] at hm;subst hm;assumption));have d3:=HI.out.h3 y3;subst d3;clear ho aI hD;refine wpOp_step rfl (λK hK=>?_);go_simp;exact hK _ _ (.inl ⟨⟨HL.out,cZ.out⟩,_,_,_,_,_,_,_,_,_,_,_,_,_,_,_,_,_,_,rfl,HI.out.at4⟩)
      · obtain rfl:=Option.some.inj ho;have y4:=aI ⟨4,.data⟩ (by simp) rfl;have cZ:=aB (aO dI.out 5 (λm hm=>by simp only [jH,List.mem_cons,List.not_mem_nil,or_false] at hm;subst hm;assumption));have d4:=HI.out.h4 y4;subst d4;have hap:D 14=false:=by
         cases e:D 14
         · rfl
         · have:=(dI.out 14 e 5 (by decide));rw [hD] at this;cases this
        have m_x3:=aA (HI.out.hb hap) _ _ x3;clear ho aI hD;refine wpOp_step rfl (λK hK=>?_);go_simp;exact hK _ _ (.inl ⟨⟨HL.out,cZ.out⟩,_,_,_,_,_,_,_,_,_,_,_,_,_,_,_,_,_,_,rfl,HI.out.at5⟩)
      · obtain rfl:=Option.some.inj ho;have cZ:=aB (aO dI.out 6 (λm hm=>by simp only [jH,List.not_mem_nil] at hm));clear ho aI hD;refine wpOp_step rfl (λK hK=>?_);go_simp;exact hK _ _ (.inl ⟨⟨HL.out,cZ.out⟩,_,_,_,_,_,_,_,_,_,_,_,_,_,_,_,_,_,_,rfl,HI.out.at6⟩)
      · obtain rfl:=Option.some.inj ho;have y6:=aI ⟨6,.data⟩ (by simp) rfl;have cZ:=aB (aO dI.out 7 (λm hm=>by simp only [jH,List.mem_cons,List.not_mem_nil,or_false] at hm;subst hm;assumption));have d6:=HI.out.h6 y6;subst d6;clear ho aI hD;refine wpOp_step rfl (λK hK=>?_);go_simp;exact hK _ _ (.inl ⟨⟨HL.out,cZ.out⟩,_,_,_,_,_,_,_,_,_,_,_,_,_,_,_,_,_,_,rfl,HI.out.at7⟩)
      · obtain rfl:=Option.some.inj ho;have y7:=aI ⟨7,.data⟩ (by simp) rfl;have cZ:=aB (aO dI.out 8 (λm hm=>by simp only [jH,List.mem_cons,List.not_mem_nil,or_false] at hm;subst hm;assumption));have d7:=HI.out.h7 y7;subst d7;clear ho aI hD;refine wpOp_step rfl (λK hK=>?_);go_simp;exact hK _ _ (.inl ⟨⟨HL.out,cZ.out⟩,_,_,_,_,_,_,_,_,_,_,_,_,_,_,_,_,_,_,rfl,HI.out.at8⟩)
      · obtain rfl:=Option.some.inj ho;have y8:=aI ⟨8,.data⟩ (by simp) rfl;have cZ:=aB (aO dI.out 9 (λm hm=>by simp only [jH,List.mem_cons,List.not_mem_nil,or_false] at hm;subst hm;assumption));have d8:=HI.out.h8 y8;subst d8;clear ho aI hD;refine wpOp_step rfl (λK hK=>?_);go_simp;exact hK _ _ (.inl ⟨⟨HL.out,cZ.out⟩,_,_,_,_,_,_,_,_,_,_,_,_,_,_,_,_,_,_,rfl,HI.out.at9⟩)
      · obtain rfl:=Option.some.inj ho;have y9:=aI ⟨9,.data⟩ (by simp) rfl;have cZ:=aB (aO dI.out 10 (λm hm=>by simp only [jH,List.mem_cons,List.not_mem_nil,or_false] at hm;subst hm;assumption));have d9:=HI.out.h9 y9;subst d9;have hap:D 14=false:=by
         cases e:D 14
         · rfl
         · have:=(dI.out 11 (dI.out 12 (dI.out 13 (dI.out 14 e 13 (by decide)) 12 (by decide)) 11 (by decide)) 10 (by decide));rw [hD] at this;cases this
        have m_x1:=aA (HI.out.hb hap) _ _ x1;clear ho aI hD;refine wpOp_step rfl (λK hK=>?_);go_simp;exact hK _ _ (.inl ⟨⟨HL.out,cZ.out⟩,_,_,_,_,_,_,_,_,_,_,_,_,_,_,_,_,_,_,rfl,HI.out.at10⟩)
      · obtain rfl:=Option.some.inj ho;have y10:=aI ⟨10,.data⟩ (by simp) rfl;have cZ:=aB (aO dI.out 11 (λm hm=>by simp only [jH,List.mem_cons,List.not_mem_nil,or_false] at hm;subst hm;assumption));have d10:=HI.out.h10 y10;subst d10;clear ho aI hD;refine wpOp_step rfl (λK hK=>?_);go_simp;exact hK _ _ (.inl ⟨⟨HL.out,cZ.out⟩,_,_,_,_,_,_,_,_,_,_,_,_,_,_,_,_,_,_,rfl,HI.out.at11⟩)
      · obtain rfl:=Option.some.inj ho;have MJ:=aI ⟨11,.data⟩ (by simp) rfl;have cZ:=aB (aO dI.out 12 (λm hm=>by simp only [jH,List.mem_cons,List.not_mem_nil,or_false] at hm;subst hm;assumption));have d11:=HI.out.h11 MJ;subst d11;clear ho aI hD;refine wpOp_step rfl (λK hK=>?_);go_simp;rw [show IntKind.i64.wrap ((gY.length:Int) - 1)=e9 by rw [IntKind.wrap_i64];have h:=hw9;unfold wrap64 at h;exact h];exact hK _ _ (.inl ⟨⟨HL.out,cZ.out⟩,_,_,_,_,_,_,_,_,_,_,_,_,_,_,_,_,_,_,rfl,HI.out.at12⟩)
      · obtain rfl:=Option.some.inj ho;have y12:=aI ⟨12,.data⟩ (by simp) rfl;have cZ:=aB (aO dI.out 13 (λm hm=>by simp only [jH,List.mem_cons,List.not_mem_nil,or_false] at hm;subst hm;assumption));have d12:=HI.out.h12 y12;subst d12;have hap:D 14=false:=by
         cases e:D 14
         · rfl
         · have:=(dI.out 14 e 13 (by decide));rw [hD] at this;cases this
        have HI2:=aB (HI.out.at13 hap);clear ho aI hD;refine wpOp_step rfl (λK hK=>?_);go_simp;exact hK _ _ (.inl ⟨⟨HL.out,cZ.out⟩,_,_,_,_,_,_,_,_,_,_,_,_,_,_,_,_,_,_,rfl,HI2.out⟩)
      · obtain rfl:=Option.some.inj ho;have y5:=aI ⟨5,.data⟩ (by simp) rfl;have y13:=aI ⟨13,.data⟩ (by simp) rfl;have cZ:=aB (aO dI.out 14 (λm hm=>by simp only [jH,List.mem_cons,List.not_mem_nil,or_false] at hm;rcases hm with rfl|rfl<;>assumption));have d5:=HI.out.h5 y5;subst d5;obtain ⟨g9,rfl,r0⟩:=HI.out.h13 y13 hD;have ZI:=HI.out.hb hD;have hRb:=HR.out.below ZI;obtain ⟨v6,w6,hrun,ho6,hg6,UL,aGT⟩:=lJ (P:=Tryz.prog) w' 22 22 lo 3 i3 (.int .i64 0) 1 8 Tryz.underlying22 Hi3.out.1 Hi3.out.2.1 Hi3.out.2.2.1 Hi3.out.2.2.2 rfl (by decide) (λu hu=>by
         simp [Value.cells] at hu;subst hu;exact oM _ _) (.slice v1 n4 v3) kZ.length (bO kZ) hRb.1 hRb.2 ⟨g9,0,none⟩ 1 1 [.int .i64 e9] rfl (λj u hj=>by
         rw [add_plain,Nat.zero_add]
         match j,hj with
         |0,hj=>simp at hj;subst hj;exact r0
         |j+1,hj=>simp at hj) (λu hu=>by
         simp at hu;subst hu;rfl) (λu hu=>by
         simp at hu;subst hu;exact oM _ _) (by decide) (by unfold maxLen;omega) (by omega) (Nat.le_trans HP.out.bl (Nat.le_trans (Nat.le_of_lt aKN) ZI.size))
        have ht6:∃w3,Below w2.heap.size w2 w3/\Rw lo w6 3 1 v6 (kZ.length+1) (bO kZ++[.int .i64 e9])/\w3.grownBy w6 (Value.slice v1 n4 v3).ownBlock/\(v6.ownBlock=(Value.slice v1 n4 v3).ownBlock\/v6.ownBlock=some w3.heap.size):=⟨w',ZI,⟨ho6,aGT⟩,hg6,UL⟩;clear ho6 hg6 UL aGT hRb;have HI2:=aB (HI.out.at14 (w4:=w6) (v4:=v6) ht6);have QT:=aB hrun;clear ht6 hrun r0 ZI;clear ho aI hD;refine wpOp_step rfl (λK hK=>?_);rw [if_pos (show Region.wanted _ _=true from rfl)];refine o8 (.tmp 12) (.tmp 20) 22 rfl _ _ v6 w6 rfl rfl QT.out ?_;exact hK _ _ (.inl ⟨⟨HL.out,cZ.out⟩,_,_,_,_,_,_,_,_,_,_,_,_,_,_,_,_,_,_,rfl,HI2.out⟩)
      · obtain rfl:=Option.some.inj ho;have y0:=aI ⟨0,.data⟩ (by simp) rfl;have y1:=aI ⟨1,.phase⟩ (by simp) rfl;have y2:=aI ⟨2,.phase⟩ (by simp) rfl;have y3:=aI ⟨3,.phase⟩ (by simp) rfl;have y4:=aI ⟨4,.phase⟩ (by simp) rfl;have y5:=aI ⟨5,.phase⟩ (by simp) rfl;have y6:=aI ⟨6,.phase⟩ (by simp) rfl;have y7:=aI ⟨7,.phase⟩ (by simp) rfl;have y8:=aI ⟨8,.phase⟩ (by simp) rfl;have y9:=aI ⟨9,.phase⟩ (by simp) rfl;have y10:=aI ⟨10,.phase⟩ (by simp) rfl;have MJ:=aI ⟨11,.phase⟩ (by simp) rfl;have y12:=aI ⟨12,.phase⟩ (by simp) rfl;have y13:=aI ⟨13,.phase⟩ (by simp) rfl;have y14:=aI ⟨14,.phase⟩ (by simp) rfl;have cZ:=aB (aO dI.out 15 (λm hm=>by simp only [jH,List.mem_cons,List.not_mem_nil,or_false] at hm;rcases hm with rfl|rfl|rfl|rfl|rfl|rfl|rfl|rfl|rfl|rfl|rfl|rfl|rfl|rfl|rfl<;>assumption));have d0:=HI.out.h0 y0;subst d0;clear ho aI hD;refine wpOp_step rfl (λK hK=>?_);go_simp;exact hK _ _ (.inl ⟨⟨HL.out,cZ.out⟩,_,_,_,_,_,_,_,_,_,_,_,_,_,_,_,_,_,_,rfl,HI.out.at15⟩)
      · obtain rfl:=Option.some.inj ho;have y15:=aI ⟨15,.data⟩ (by simp) rfl;have y0:=aI ⟨0,.phase⟩ (by simp) rfl;have y1:=aI ⟨1,.phase⟩ (by simp) rfl;have y2:=aI ⟨2,.phase⟩ (by simp) rfl;have y3:=aI ⟨3,.phase⟩ (by simp) rfl;have y4:=aI ⟨4,.phase⟩ (by simp) rfl;have y5:=aI ⟨5,.phase⟩ (by simp) rfl;have y6:=aI ⟨6,.phase⟩ (by simp) rfl;have y7:=aI ⟨7,.phase⟩ (by simp) rfl;have y8:=aI ⟨8,.phase⟩ (by simp) rfl;have y9:=aI ⟨9,.phase⟩ (by simp) rfl;have y10:=aI ⟨10,.phase⟩ (by simp) rfl;have MJ:=aI ⟨11,.phase⟩ (by simp) rfl;have y12:=aI ⟨12,.phase⟩ (by simp) rfl;have y13:=aI ⟨13,.phase⟩ (by simp) rfl;have y14:=aI ⟨14,.phase⟩ (by simp) rfl;have cZ:=aB (aO dI.out 16 (λm hm=>by simp only [jH,List.mem_cons,List.not_mem_nil,or_false] at hm;rcases hm with rfl|rfl|rfl|rfl|rfl|rfl|rfl|rfl|rfl|rfl|rfl|rfl|rfl|rfl|rfl|rfl<;>assumption));have d15:=HI.out.h15 y15;subst d15;clear ho aI hD;refine wpOp_step rfl (λK hK=>?_);go_simp;exact hK _ _ (.inl ⟨⟨HL.out,cZ.out⟩,_,_,_,_,_,_,_,_,_,_,_,_,_,_,_,_,_,_,rfl,HI.out.at16⟩)
      · obtain rfl:=Option.some.inj ho;have y16:=aI ⟨16,.data⟩ (by simp) rfl;have y0:=aI ⟨0,.phase⟩ (by simp) rfl;have y1:=aI ⟨1,.phase⟩ (by simp) rfl;have y2:=aI ⟨2,.phase⟩ (by simp) rfl;have y3:=aI ⟨3,.phase⟩ (by simp) rfl;have y4:=aI ⟨4,.phase⟩ (by simp) rfl;have y5:=aI ⟨5,.phase⟩ (by simp) rfl;have y6:=aI ⟨6,.phase⟩ (by simp) rfl;have y7:=aI ⟨7,.phase⟩ (by simp) rfl;have y8:=aI ⟨8,.phase⟩ (by simp) rfl;have y9:=aI ⟨9,.phase⟩ (by simp) rfl;have y10:=aI ⟨10,.phase⟩ (by simp) rfl;have MJ:=aI ⟨11,.phase⟩ (by simp) rfl;have y12:=aI ⟨12,.phase⟩ (by simp) rfl;have y13:=aI ⟨13,.phase⟩ (by simp) rfl;have y14:=aI ⟨14,.phase⟩ (by simp) rfl;have cZ:=aB (aO dI.out 17 (λm hm=>by simp only [jH,List.mem_cons,List.not_mem_nil,or_false] at hm;rcases hm with rfl|rfl|rfl|rfl|rfl|rfl|rfl|rfl|rfl|rfl|rfl|rfl|rfl|rfl|rfl|rfl<;>assumption));have d16:=HI.out.h16 y16;subst d16;clear ho aI hD;refine wpOp_step rfl (λK hK=>?_);go_simp;exact hK _ _ (.inl ⟨⟨HL.out,cZ.out⟩,_,_,_,_,_,_,_,_,_,_,_,_,_,_,_,_,_,_,rfl,HI.out.at17⟩)
      · obtain rfl:=Option.some.inj ho;have y17:=aI ⟨17,.data⟩ (by simp) rfl;have y14:=aI ⟨14,.data⟩ (by simp) rfl;have y0:=aI ⟨0,.phase⟩ (by simp) rfl;have y1:=aI ⟨1,.phase⟩ (by simp) rfl;have y2:=aI ⟨2,.phase⟩ (by simp) rfl;have y3:=aI ⟨3,.phase⟩ (by simp) rfl;have y4:=aI ⟨4,.phase⟩ (by simp) rfl;have y5:=aI ⟨5,.phase⟩ (by simp) rfl;have y6:=aI ⟨6,.phase⟩ (by simp) rfl;have y7:=aI ⟨7,.phase⟩ (by simp) rfl;have y8:=aI ⟨8,.phase⟩ (by simp) rfl;have y9:=aI ⟨9,.phase⟩ (by simp) rfl;have y10:=aI ⟨10,.phase⟩ (by simp) rfl;have MJ:=aI ⟨11,.phase⟩ (by simp) rfl;have y12:=aI ⟨12,.phase⟩ (by simp) rfl;have y13:=aI ⟨13,.phase⟩ (by simp) rfl;have d17:=HI.out.h17 y17;subst d17;have qI:Hid (∀i,i<19->(i==18||D i)=true):=λi hi=>by
         rcases (by omega:i=0\/i=1\/i=2\/i=3\/i=4\/i=5\/i=6\/i=7\/i=8\/i=9\/i=10\/i=11\/i=12\/i=13\/i=14\/i=15\/i=16\/i=17\/i=18) with rfl|rfl|rfl|rfl|rfl|rfl|rfl|rfl|rfl|rfl|rfl|rfl|rfl|rfl|rfl|rfl|rfl|rfl|rfl
         · exact y0
         · exact y1
         · exact y2
         · exact y3
         · exact y4
         · exact y5
         · exact y6
         · exact y7
         · exact y8
         · exact y9
         · exact y10
         · exact MJ
         · exact y12
         · exact y13
         · exact y14
         · exact (dI.out 16 (dI.out 17 y17 16 (by decide)) 15 (by decide))
         · exact (dI.out 17 y17 16 (by decide))
         · exact y17
         · rfl
        obtain ⟨w3,t1w,t2,t3w,t4⟩:=HI.out.h14 y14;obtain ⟨z1,z3,hu⟩:=aR t2.1;have hPw:=HP.out.below t1w;obtain ⟨hP1,hP2⟩:=hPw.wait (l:=kZ++[e9]) (by simpa [bO] using t2) t3w t4;have hMw:=(HM.out.step t1w).trans hP2;have Hx1:Hid (∃u0,w'.cell? ⟨b,3,none⟩=some u0):=by have hh:=(World.cell?_of_block (a:=⟨b,3,none⟩) (t3w.block b (Nat.lt_of_lt_of_le aKN t1w.size) (λe=>hPw.d4 e.symm))).trans (aA t1w _ _ x3);exact ⟨_,hh⟩
        have Hf1:Hid (w'.frozen? ⟨b,3,none⟩=false):=(World.frozen?_of_block (a:=⟨b,3,none⟩) (t3w.block b (Nat.lt_of_lt_of_le aKN t1w.size) (λe=>hPw.d4 e.symm))).trans ((t1w.frozen (p:=⟨b,3,none⟩) aKN).trans fz3);subst hu;have bP:=aB (Exists.intro (Value.slice z1 (kZ.length+1) z3) (And.intro hP1 hMw):∃z4,PS lo (w'.setCell ⟨b,3,none⟩ (.slice z1 (kZ.length+1) z3)) b ⟨MB,gY,lN,kZ++[e9],kC,lM⟩ (.slice s1 n1 s3) (.slice t1' gY.length t3') (.slice u1 n3 u3) z4/\kX w (iU b (.slice t1 n2 t3) (.slice u1 n3 u3) (.slice v1 n4 v3)) (w'.setCell ⟨b,3,none⟩ (.slice z1 (kZ.length+1) z3)) (iU b (.slice t1' gY.length t3') (.slice u1 n3 u3) z4));obtain ⟨u0,m1⟩:=Hx1.out;have m2:=Hf1.out;clear hP1 hP2 hMw hPw t1w t2 t3w t4 fz3 x1 x3;clear ho aI hD;refine wpOp_step rfl (λK hK=>?_);go_simp;exact hK _ _ (.inr ⟨qI.out,bP.out,_,_,_,_,_,_,_,_,_,_,_,_,_,_,_,_,_,_,rfl⟩)
    · exact absurd (hall i hi) (by rw [hD];decide)
  · rintro D a w' (⟨⟨hL,-⟩,-⟩|⟨-,hF,s7,s8,s9,s10,s11,s12,s13,iT,s15,s16,iR,iQ,iO,s20,qG,qF,pI,s24,rfl⟩) hall
    · rw [hall 18 (by decide)] at hL;cases hL
    · obtain ⟨z4,hP,hMM⟩:=hF;have ZA:=aB hP;have HMM:=aB hMM;clear hP hMM hall
      go_end0
      exact ⟨rfl,_,z4,ZA.out,HMM.out⟩
end
section
attribute [local go_sem ↓] Go.wp_at_zero Go.wp_at_succ
theorem kX.cell {w w':World} {E E':Nat->Prop} (h:kX w E w' E') {q o:Nat} {v:Value} (hq:¬E q) (hc:w.cell? ⟨q,o,none⟩=some v):w'.cell? ⟨q,o,none⟩=some v:=by have hlt:q<w.heap.size:=World.block_lt_of_cell? _ _ hc;rw [World.cell?_of_block (a:=⟨q,o,none⟩) (h.block q hlt hq)];exact hc
def fI:Nat->List Nat
 |2=>[1]
 |3=>[2]
 |4=>[3]
 |5=>[4]
 |6=>[5]
 |7=>[6]
 |8=>[6,7]
 |9=>[0,1,2,3,4,5,6,7,8]
 |10=>[0,1,2,3,4,5,6,7,8,9]
 |11=>[0,1,2,3,4,5,6,7,8,10]
 |12=>[0,1,2,3,4,5,6,7,8,11]
 |_=>[]
structure rD (W:World) (b:Nat) (l:Bool) (G:Value) (v:Bool) (D:Nat->Bool) (w:World) (s9 s10 s11 s12 s13 iT s15 s16 iR iQ iO s20:Value):Prop where
 hb:Below W.heap.size W w
 h0:D 0=true->s9= .pointer (some ⟨b,0,none⟩)
 h1:D 1=true->s10= .pointer (some ⟨b,0,none⟩)
 h2:D 2=true->s11= .pointer (some ⟨b,0,none⟩)
 h3:D 3=true->s12= .pointer (some ⟨b,0,none⟩)
 h4:D 4=true->s13= .pointer (some ⟨b,5,none⟩)
 h5:D 5=true->iT= .bool l
 h6:D 6=true->s15= .bool l
 h7:D 7=true->s16=G
 h8:D 8=true->iR= .bool v
 h9:D 9=true->iQ= .pointer (some ⟨b,0,none⟩)
 h10:D 10=true->iO= .pointer (some ⟨b,0,none⟩)
 h11:D 11=true->s20= .pointer (some ⟨b,5,none⟩)
section
variable {W:World} {b:Nat} {l:Bool} {G:Value} {v:Bool} {D:Nat->Bool} {w w':World} {s9 s10 s11 s12 s13 iT s15 s16 iR iQ iO s20:Value}
theorem rD.at0 (h:rD W b l G v D w s9 s10 s11 s12 s13 iT s15 s16 iR iQ iO s20):rD W b l G v (λj=>j==0||D j) w (.pointer (some ⟨b,0,none⟩)) s10 s11 s12 s13 iT s15 s16 iR iQ iO s20:=
 ⟨h.hb,λ_=>rfl,h.h1,h.h2,h.h3,h.h4,h.h5,h.h6,h.h7,h.h8,h.h9,h.h10,h.h11⟩
theorem rD.at1 (h:rD W b l G v D w s9 s10 s11 s12 s13 iT s15 s16 iR iQ iO s20):rD W b l G v (λj=>j==1||D j) w s9 (.pointer (some ⟨b,0,none⟩)) s11 s12 s13 iT s15 s16 iR iQ iO s20:=
 ⟨h.hb,h.h0,λ_=>rfl,h.h2,h.h3,h.h4,h.h5,h.h6,h.h7,h.h8,h.h9,h.h10,h.h11⟩
theorem rD.at2 (h:rD W b l G v D w s9 s10 s11 s12 s13 iT s15 s16 iR iQ iO s20):rD W b l G v (λj=>j==2||D j) w s9 s10 (.pointer (some ⟨b,0,none⟩)) s12 s13 iT s15 s16 iR iQ iO s20:=
 ⟨h.hb,h.h0,h.h1,λ_=>rfl,h.h3,h.h4,h.h5,h.h6,h.h7,h.h8,h.h9,h.h10,h.h11⟩
theorem rD.at3 (h:rD W b l G v D w s9 s10 s11 s12 s13 iT s15 s16 iR iQ iO s20):rD W b l G v (λj=>j==3||D j) w s9 s10 s11 (.pointer (some ⟨b,0,none⟩)) s13 iT s15 s16 iR iQ iO s20:=
 ⟨h.hb,h.h0,h.h1,h.h2,λ_=>rfl,h.h4,h.h5,h.h6,h.h7,h.h8,h.h9,h.h10,h.h11⟩
theorem rD.at4 (h:rD W b l G v D w s9 s10 s11 s12 s13 iT s15 s16 iR iQ iO s20):rD W b l G v (λj=>j==4||D j) w s9 s10 s11 s12 (.pointer (some ⟨b,5,none⟩)) iT s15 s16 iR iQ iO s20:=
 ⟨h.hb,h.h0,h.h1,h.h2,h.h3,λ_=>rfl,h.h5,h.h6,h.h7,h.h8,h.h9,h.h10,h.h11⟩
theorem rD.at5 (h:rD W b l G v D w s9 s10 s11 s12 s13 iT s15 s16 iR iQ iO s20):rD W b l G v (λj=>j==5||D j) w s9 s10 s11 s12 s13 (.bool l) s15 s16 iR iQ iO s20:=
 ⟨h.hb,h.h0,h.h1,h.h2,h.h3,h.h4,λ_=>rfl,h.h6,h.h7,h.h8,h.h9,h.h10,h.h11⟩
theorem rD.at6 (h:rD W b l G v D w s9 s10 s11 s12 s13 iT s15 s16 iR iQ iO s20):rD W b l G v (λj=>j==6||D j) w s9 s10 s11 s12 s13 iT (.bool l) s16 iR iQ iO s20:=
 ⟨h.hb,h.h0,h.h1,h.h2,h.h3,h.h4,h.h5,λ_=>rfl,h.h7,h.h8,h.h9,h.h10,h.h11⟩
theorem rD.at7 (h:rD W b l G v D w s9 s10 s11 s12 s13 iT s15 s16 iR iQ iO s20):rD W b l G v (λj=>j==7||D j) w s9 s10 s11 s12 s13 iT s15 (G) iR iQ iO s20:=
 ⟨h.hb,h.h0,h.h1,h.h2,h.h3,h.h4,h.h5,h.h6,λ_=>rfl,h.h8,h.h9,h.h10,h.h11⟩
theorem rD.at8 (h:rD W b l G v D w s9 s10 s11 s12 s13 iT s15 s16 iR iQ iO s20):rD W b l G v (λj=>j==8||D j) w s9 s10 s11 s12 s13 iT s15 s16 (.bool v) iQ iO s20:=
 ⟨h.hb,h.h0,h.h1,h.h2,h.h3,h.h4,h.h5,h.h6,h.h7,λ_=>rfl,h.h9,h.h10,h.h11⟩
theorem rD.at9 (h:rD W b l G v D w s9 s10 s11 s12 s13 iT s15 s16 iR iQ iO s20):rD W b l G v (λj=>j==9||D j) w s9 s10 s11 s12 s13 iT s15 s16 iR (.pointer (some ⟨b,0,none⟩)) iO s20:=
 ⟨h.hb,h.h0,h.h1,h.h2,h.h3,h.h4,h.h5,h.h6,h.h7,h.h8,λ_=>rfl,h.h10,h.h11⟩
theorem rD.at10 (h:rD W b l G v D w s9 s10 s11 s12 s13 iT s15 s16 iR iQ iO s20):rD W b l G v (λj=>j==10||D j) w s9 s10 s11 s12 s13 iT s15 s16 iR iQ (.pointer (some ⟨b,0,none⟩)) s20:=
 ⟨h.hb,h.h0,h.h1,h.h2,h.h3,h.h4,h.h5,h.h6,h.h7,h.h8,h.h9,λ_=>rfl,h.h11⟩
theorem rD.at11 (h:rD W b l G v D w s9 s10 s11 s12 s13 iT s15 s16 iR iQ iO s20):rD W b l G v (λj=>j==11||D j) w s9 s10 s11 s12 s13 iT s15 s16 iR iQ iO (.pointer (some ⟨b,5,none⟩)):=
 ⟨h.hb,h.h0,h.h1,h.h2,h.h3,h.h4,h.h5,h.h6,h.h7,h.h8,h.h9,h.h10,λ_=>rfl⟩
theorem rD.start (h:Below W.heap.size W w):rD W b l G v (λ_=>false) w s9 s10 s11 s12 s13 iT s15 s16 iR iQ iO s20:=
 ⟨h,λe=>(by cases e),λe=>(by cases e),λe=>(by cases e),λe=>(by cases e),λe=>(by cases e),λe=>(by cases e),λe=>(by cases e),λe=>(by cases e),λe=>(by cases e),λe=>(by cases e),λe=>(by cases e),λe=>(by cases e)⟩
end
def yL:Nat->List Nat
 |3=>[2]
 |5=>[1,3,4]
 |6=>[0,5]
 |_=>[]
structure ME (W:World) (b:Nat) (r:Int) (fr:List Int) (FV CV:Value) (D:Nat->Bool) (w:World) (gD s43 s44 gB fZ kV kU:Value):Prop where
 hb:Below W.heap.size W w
 h0:D 0=true->gD= .pointer (some ⟨b,0,none⟩)
 h1:D 1=true->s43= .int .i64 r
 h2:D 2=true->s44=FV
 h3:D 3=true->∃z1 z3,gB= .slice z1 fr.length z3/\w.ownsRow W.heap.size 3 1 (.slice z1 fr.length z3) fr.length (bO fr)
 h4:D 4=true->fZ=CV
 h5:D 5=true->∃z1 z3,kV= .agg #[.int .i64 r,.slice z1 fr.length z3,CV]/\w.ownsRow W.heap.size 3 1 (.slice z1 fr.length z3) fr.length (bO fr)
section
variable {W:World} {b:Nat} {r:Int} {fr:List Int} {FV CV:Value} {D:Nat->Bool} {w w':World} {gD s43 s44 gB fZ kV kU:Value}
theorem ME.at0 (h:ME W b r fr FV CV D w gD s43 s44 gB fZ kV kU):ME W b r fr FV CV (λj=>j==0||D j) w (.pointer (some ⟨b,0,none⟩)) s43 s44 gB fZ kV kU:=
 ⟨h.hb,λ_=>rfl,h.h1,h.h2,h.h3,h.h4,h.h5⟩
theorem ME.at1 (h:ME W b r fr FV CV D w gD s43 s44 gB fZ kV kU):ME W b r fr FV CV (λj=>j==1||D j) w gD (.int .i64 r) s44 gB fZ kV kU:=
 ⟨h.hb,h.h0,λ_=>rfl,h.h2,h.h3,h.h4,h.h5⟩
theorem ME.at2 (h:ME W b r fr FV CV D w gD s43 s44 gB fZ kV kU):ME W b r fr FV CV (λj=>j==2||D j) w gD s43 (FV) gB fZ kV kU:=
 ⟨h.hb,h.h0,h.h1,λ_=>rfl,h.h3,h.h4,h.h5⟩
theorem ME.at3 (h:ME W b r fr FV CV D w gD s43 s44 gB fZ kV kU) {w4:World} {v4:Value} (hb:Below w.heap.size w w4) (ht:∃z1 z3,v4= .slice z1 fr.length z3/\w4.ownsRow W.heap.size 3 1 (.slice z1 fr.length z3) fr.length (bO fr)):ME W b r fr FV CV (λj=>j==3||D j) w4 gD s43 s44 (v4) fZ kV kU:=
 ⟨aC h.hb hb,h.h0,h.h1,h.h2,λ_=>ht,h.h4,λe=>by have h:=h.h5 e;exact (let ⟨z1,z3,e,ho⟩:=h;⟨z1,z3,e,bA ho (λg hg=>hb.block g (aJ ho g hg).2)⟩)⟩
theorem ME.at4 (h:ME W b r fr FV CV D w gD s43 s44 gB fZ kV kU):ME W b r fr FV CV (λj=>j==4||D j) w gD s43 s44 gB (CV) kV kU:=
 ⟨h.hb,h.h0,h.h1,h.h2,h.h3,λ_=>rfl,h.h5⟩
theorem ME.at5 (h:ME W b r fr FV CV D w gD s43 s44 gB fZ kV kU) {v4:Value} (ht:∃z1 z3,v4= .agg #[.int .i64 r,.slice z1 fr.length z3,CV]/\w.ownsRow W.heap.size 3 1 (.slice z1 fr.length z3) fr.length (bO fr)):ME W b r fr FV CV (λj=>j==5||D j) w gD s43 s44 gB fZ (v4) kU:=
 ⟨h.hb,h.h0,h.h1,h.h2,h.h3,h.h4,λ_=>ht⟩
theorem ME.start (h:Below W.heap.size W w):ME W b r fr FV CV (λ_=>false) w gD s43 s44 gB fZ kV kU:=
 ⟨h,λe=>(by cases e),λe=>(by cases e),λe=>(by cases e),λe=>(by cases e),λe=>(by cases e),λe=>(by cases e)⟩
end
theorem aGC {lo:Nat} (b:Nat) (p:Pf) (a1 a2 a3 a4:Value) (r:Int) (fr:List Int) (fv:Value) (cs:List Cl) (csv:Value) (lost:Bool) (xb rb fb:Nat) (w:World) (h:PS lo w b p a1 a2 a3 a4) (hg:ND p) (hx:w.cell? ⟨xb,0,none⟩=some (.pointer (some ⟨b,0,none⟩))) (hr:w.cell? ⟨rb,0,none⟩=some (.int .i64 r)) (hf:w.cell? ⟨fb,0,none⟩=some fv)
  (hxE:¬iU b a2 a3 a4 xb) (hrE:¬iU b a2 a3 a4 rb) (hfE:¬iU b a2 a3 a4 fb) (hN:iA (iU b a2 a3 a4) w fr fv) (hfl:fr.length<=1000) (hcs:mD w cs csv) (hcE:∀q,csv.ownBlock=some q->¬iU b a2 a3 a4 q) (hgc:∀c∈cs,GC c):
  Calls Tryz.prog 106 #[csv,.bool lost,.pointer (some ⟨xb,0,none⟩),.pointer (some ⟨rb,0,none⟩),.pointer (some ⟨fb,0,none⟩)] w λe w'=>e= .returned (.tuple #[])/\∃z2 z4,PS lo w' b (jF p r fr (cs,lost)) a1 z2 a3 z4/\kX w (iU b a2 a3 a4) w' (iU b z2 a3 z4):=by
 obtain ⟨⟨s1,s3,hs⟩,⟨t1,t3,ht⟩,⟨u1,u3,hu⟩,v1,v3,hv⟩:=h.slices;obtain ⟨f1,f3,rfl⟩:=hN.slice;obtain ⟨ca,ck,cb,co,rfl,hca,hcl,hcm,hcF⟩:=hcs;obtain ⟨sg,sts,act,wai,fnd,lst⟩:=p;obtain ⟨Q,hQ⟩:∃Q,Q=jF ⟨sg,sts,act,wai,fnd,lst⟩ r fr (cs,lost):=⟨_,rfl⟩;rw [←hQ];have HQ:=aB hQ;have HcF:=aB hcF;have HcE:Hid (0<cs.length->¬iU b a2 a3 a4 cb):=λh0=>hcE cb (by rw [hca h0];rfl);have F9:=aB hgc;subst hs ht hu hv;unfold maxLen at hcm;simp only at*;generalize sg.length=n1 at*;generalize sts.length=n2 at*;generalize act.length=n3 at*;generalize wai.length=n4 at*;have H:=aB h;have HG:=aB hg;have HN:=aB hN;have HX:=aB (And.intro hxE (And.intro hrE hfE));obtain ⟨x0,x1,x2,x3,x4,x5,xf⟩:=h.bx;have fz5:=xf 5;clear h hg hN hQ hcF hcE hgc hxE hrE hfE xf;simp only at x0 x1 x2 x3 x4 x5;go_enter Tryz.func106,Tryz.ntmps106
 go_upto_region 0 with fail
 go_cut [] from 9 to 20 (λwx=>PS lo wx b ⟨sg,sts,act,wai,fnd,lst||lost⟩ (.slice s1 n1 s3) (.slice t1 n2 t3) (.slice u1 n3 u3) (.slice v1 n4 v3)/\kX w (iU b (.slice t1 n2 t3) (.slice u1 n3 u3) (.slice v1 n4 v3)) wx (iU b (.slice t1 n2 t3) (.slice u1 n3 u3) (.slice v1 n4 v3)))
 case first=>
  cases lst with
  |true=>
   refine lU (λD a w'=>((D 12=false/\CLo fI D)/\∃s9 s10 s11 s12 s13 iT s15 s16 iR iQ iO s20:Value,a=⟨#[.slice ca cs.length ck,.bool lost,.pointer (some ⟨xb,0,none⟩),.pointer (some ⟨rb,0,none⟩),.pointer (some ⟨fb,0,none⟩),undef,undef,undef,undef,s9,s10,s11,s12,s13,iT,s15,s16,iR,iQ,iO,s20,undef,undef,undef,undef,undef,undef,undef,undef,undef,undef,undef,undef,undef,undef,undef,undef,undef,undef,undef,undef,undef,undef,undef,undef,undef,undef,undef,undef,undef],[]⟩/\rD w b true undef true D w' s9 s10 s11 s12 s13 iT s15 s16 iR iQ iO s20)\/((∀i,i<13->D i=true)/\(PS lo w' b ⟨sg,sts,act,wai,fnd,true||lost⟩ (.slice s1 n1 s3) (.slice t1 n2 t3) (.slice u1 n3 u3) (.slice v1 n4 v3)/\kX w (iU b (.slice t1 n2 t3) (.slice u1 n3 u3) (.slice v1 n4 v3)) w' (iU b (.slice t1 n2 t3) (.slice u1 n3 u3) (.slice v1 n4 v3)))/\∃s9 s10 s11 s12 s13 iT s15 s16 iR iQ iO s20:Value,a=⟨#[.slice ca cs.length ck,.bool lost,.pointer (some ⟨xb,0,none⟩),.pointer (some ⟨rb,0,none⟩),.pointer (some ⟨fb,0,none⟩),undef,undef,undef,undef,s9,s10,s11,s12,s13,iT,s15,s16,iR,iQ,iO,s20,undef,undef,undef,undef,undef,undef,undef,undef,undef,undef,undef,undef,undef,undef,undef,undef,undef,undef,undef,undef,undef,undef,undef,undef,undef,undef,undef,undef,undef],[]⟩)) (by kernel_rfl) (by kernel_rfl) ?_ ?_ (.inl ⟨⟨rfl,λk hk=>by cases hk⟩,_,_,_,_,_,_,_,_,_,_,_,_,rfl,rD.start (Below.refl _ _).drew⟩)
   · rintro D a w' i hop hi (⟨⟨hL,hcl⟩,s9,s10,s11,s12,s13,iT,s15,s16,iR,iQ,iO,s20,rfl,hI⟩|⟨hall,-⟩) hD ho aI
     · have HI:=aB hI;have HL:=aB hL;have dI:=aB hcl;clear hI hL hcl;have hi':i<13:=hi;clear hi;rcases (by omega:i=0\/i=1\/i=2\/i=3\/i=4\/i=5\/i=6\/i=7\/i=8\/i=9\/i=10\/i=11\/i=12) with rfl|rfl|rfl|rfl|rfl|rfl|rfl|rfl|rfl|rfl|rfl|rfl|rfl
       · obtain rfl:=Option.some.inj ho;have cZ:=aB (aO dI.out 0 (λm hm=>by simp only [fI,List.not_mem_nil] at hm));have m_hx:=aA HI.out.hb _ _ hx;clear ho aI hD;refine wpOp_step rfl (λK hK=>?_);go_simp;exact hK _ _ (.inl ⟨⟨HL.out,cZ.out⟩,_,_,_,_,_,_,_,_,_,_,_,_,rfl,HI.out.at0⟩)
       · obtain rfl:=Option.some.inj ho;have cZ:=aB (aO dI.out 1 (λm hm=>by simp only [fI,List.not_mem_nil] at hm));have m_hx:=aA HI.out.hb _ _ hx;clear ho aI hD;refine wpOp_step rfl (λK hK=>?_);go_simp;exact hK _ _ (.inl ⟨⟨HL.out,cZ.out⟩,_,_,_,_,_,_,_,_,_,_,_,_,rfl,HI.out.at1⟩)
       · obtain rfl:=Option.some.inj ho;have y1:=aI ⟨1,.data⟩ (by simp) rfl;have cZ:=aB (aO dI.out 2 (λm hm=>by simp only [fI,List.mem_cons,List.not_mem_nil,or_false] at hm;subst hm;assumption));have d1:=HI.out.h1 y1;subst d1;clear ho aI hD;refine wpOp_step rfl (λK hK=>?_);go_simp;exact hK _ _ (.inl ⟨⟨HL.out,cZ.out⟩,_,_,_,_,_,_,_,_,_,_,_,_,rfl,HI.out.at2⟩)
       · obtain rfl:=Option.some.inj ho;have y2:=aI ⟨2,.data⟩ (by simp) rfl;have cZ:=aB (aO dI.out 3 (λm hm=>by simp only [fI,List.mem_cons,List.not_mem_nil,or_false] at hm;subst hm;assumption));have d2:=HI.out.h2 y2;subst d2;clear ho aI hD;refine wpOp_step rfl (λK hK=>?_);go_simp;exact hK _ _ (.inl ⟨⟨HL.out,cZ.out⟩,_,_,_,_,_,_,_,_,_,_,_,_,rfl,HI.out.at3⟩)
       · obtain rfl:=Option.some.inj ho;have y3:=aI ⟨3,.data⟩ (by simp) rfl;have cZ:=aB (aO dI.out 4 (λm hm=>by simp only [fI,List.mem_cons,List.not_mem_nil,or_false] at hm;subst hm;assumption));have d3:=HI.out.h3 y3;subst d3;clear ho aI hD;refine wpOp_step rfl (λK hK=>?_);go_simp;exact hK _ _ (.inl ⟨⟨HL.out,cZ.out⟩,_,_,_,_,_,_,_,_,_,_,_,_,rfl,HI.out.at4⟩)
       · obtain rfl:=Option.some.inj ho;have y4:=aI ⟨4,.data⟩ (by simp) rfl;have cZ:=aB (aO dI.out 5 (λm hm=>by simp only [fI,List.mem_cons,List.not_mem_nil,or_false] at hm;subst hm;assumption));have d4:=HI.out.h4 y4;subst d4;have m_x5:=aA HI.out.hb _ _ x5;clear ho aI hD;refine wpOp_step rfl (λK hK=>?_);go_simp;exact hK _ _ (.inl ⟨⟨HL.out,cZ.out⟩,_,_,_,_,_,_,_,_,_,_,_,_,rfl,HI.out.at5⟩)
       · obtain rfl:=Option.some.inj ho;have y5:=aI ⟨5,.data⟩ (by simp) rfl;have cZ:=aB (aO dI.out 6 (λm hm=>by simp only [fI,List.mem_cons,List.not_mem_nil,or_false] at hm;subst hm;assumption));have d5:=HI.out.h5 y5;subst d5;clear ho aI hD;refine wpOp_step rfl (λK hK=>?_);go_simp;exact hK _ _ (.inl ⟨⟨HL.out,cZ.out⟩,_,_,_,_,_,_,_,_,_,_,_,_,rfl,HI.out.at6⟩)
       · obtain rfl:=Option.some.inj ho;have y6:=aI ⟨6,.guard⟩ (by simp) rfl;have cZ:=aB (aO dI.out 7 (λm hm=>by simp only [fI,List.mem_cons,List.not_mem_nil,or_false] at hm;subst hm;assumption));have d6:=HI.out.h6 y6;subst d6;clear ho aI hD;refine wpOp_step rfl (λK hK=>?_);go_simp;exact hK _ _ (.inl ⟨⟨HL.out,cZ.out⟩,_,_,_,_,_,_,_,_,_,_,_,_,rfl,HI.out.at7⟩)
       · obtain rfl:=Option.some.inj ho;have y6:=aI ⟨6,.data⟩ (by simp) rfl;have y7:=aI ⟨7,.data⟩ (by simp) rfl;have cZ:=aB (aO dI.out 8 (λm hm=>by simp only [fI,List.mem_cons,List.not_mem_nil,or_false] at hm;rcases hm with rfl|rfl<;>assumption));have d6:=HI.out.h6 y6;subst d6;have d7:=HI.out.h7 y7;subst d7;clear ho aI hD;refine wpOp_step rfl (λK hK=>?_);go_simp;exact hK _ _ (.inl ⟨⟨HL.out,cZ.out⟩,_,_,_,_,_,_,_,_,_,_,_,_,rfl,HI.out.at8⟩)
       · obtain rfl:=Option.some.inj ho;have y0:=aI ⟨0,.data⟩ (by simp) rfl;have y1:=aI ⟨1,.phase⟩ (by simp) rfl;have y2:=aI ⟨2,.phase⟩ (by simp) rfl;have y3:=aI ⟨3,.phase⟩ (by simp) rfl;have y4:=aI ⟨4,.phase⟩ (by simp) rfl;have y5:=aI ⟨5,.phase⟩ (by simp) rfl;have y6:=aI ⟨6,.phase⟩ (by simp) rfl;have y7:=aI ⟨7,.phase⟩ (by simp) rfl;have y8:=aI ⟨8,.phase⟩ (by simp) rfl;have cZ:=aB (aO dI.out 9 (λm hm=>by simp only [fI,List.mem_cons,List.not_mem_nil,or_false] at hm;rcases hm with rfl|rfl|rfl|rfl|rfl|rfl|rfl|rfl|rfl<;>assumption));have d0:=HI.out.h0 y0;subst d0;clear ho aI hD;refine wpOp_step rfl (λK hK=>?_);go_simp;exact hK _ _ (.inl ⟨⟨HL.out,cZ.out⟩,_,_,_,_,_,_,_,_,_,_,_,_,rfl,HI.out.at9⟩)
       · obtain rfl:=Option.some.inj ho;have y9:=aI ⟨9,.data⟩ (by simp) rfl;have y0:=aI ⟨0,.phase⟩ (by simp) rfl;have y1:=aI ⟨1,.phase⟩ (by simp) rfl;have y2:=aI ⟨2,.phase⟩ (by simp) rfl;have y3:=aI ⟨3,.phase⟩ (by simp) rfl;have y4:=aI ⟨4,.phase⟩ (by simp) rfl;have y5:=aI ⟨5,.phase⟩ (by simp) rfl;have y6:=aI ⟨6,.phase⟩ (by simp) rfl;have y7:=aI ⟨7,.phase⟩ (by simp) rfl;have y8:=aI ⟨8,.phase⟩ (by simp) rfl;have cZ:=aB (aO dI.out 10 (λm hm=>by simp only [fI,List.mem_cons,List.not_mem_nil,or_false] at hm;rcases hm with rfl|rfl|rfl|rfl|rfl|rfl|rfl|rfl|rfl|rfl<;>assumption));have d9:=HI.out.h9 y9;subst d9;clear ho aI hD;refine wpOp_step rfl (λK hK=>?_);go_simp;exact hK _ _ (.inl ⟨⟨HL.out,cZ.out⟩,_,_,_,_,_,_,_,_,_,_,_,_,rfl,HI.out.at10⟩)
       · obtain rfl:=Option.some.inj ho;have y10:=aI ⟨10,.data⟩ (by simp) rfl;have y0:=aI ⟨0,.phase⟩ (by simp) rfl;have y1:=aI ⟨1,.phase⟩ (by simp) rfl;have y2:=aI ⟨2,.phase⟩ (by simp) rfl;have y3:=aI ⟨3,.phase⟩ (by simp) rfl;have y4:=aI ⟨4,.phase⟩ (by simp) rfl;have y5:=aI ⟨5,.phase⟩ (by simp) rfl;have y6:=aI ⟨6,.phase⟩ (by simp) rfl;have y7:=aI ⟨7,.phase⟩ (by simp) rfl;have y8:=aI ⟨8,.phase⟩ (by simp) rfl;have cZ:=aB (aO dI.out 11 (λm hm=>by simp only [fI,List.mem_cons,List.not_mem_nil,or_false] at hm;rcases hm with rfl|rfl|rfl|rfl|rfl|rfl|rfl|rfl|rfl|rfl<;>assumption));have d10:=HI.out.h10 y10;subst d10;clear ho aI hD;refine wpOp_step rfl (λK hK=>?_);go_simp;exact hK _ _ (.inl ⟨⟨HL.out,cZ.out⟩,_,_,_,_,_,_,_,_,_,_,_,_,rfl,HI.out.at11⟩)
       · obtain rfl:=Option.some.inj ho;have MJ:=aI ⟨11,.data⟩ (by simp) rfl;have y8:=aI ⟨8,.data⟩ (by simp) rfl;have y0:=aI ⟨0,.phase⟩ (by simp) rfl;have y1:=aI ⟨1,.phase⟩ (by simp) rfl;have y2:=aI ⟨2,.phase⟩ (by simp) rfl;have y3:=aI ⟨3,.phase⟩ (by simp) rfl;have y4:=aI ⟨4,.phase⟩ (by simp) rfl;have y5:=aI ⟨5,.phase⟩ (by simp) rfl;have y6:=aI ⟨6,.phase⟩ (by simp) rfl;have y7:=aI ⟨7,.phase⟩ (by simp) rfl;have d11:=HI.out.h11 MJ;subst d11;have d8:=HI.out.h8 y8;subst d8;have qI:Hid (∀i,i<13->(i==12||D i)=true):=λi hi=>by
          rcases (by omega:i=0\/i=1\/i=2\/i=3\/i=4\/i=5\/i=6\/i=7\/i=8\/i=9\/i=10\/i=11\/i=12) with rfl|rfl|rfl|rfl|rfl|rfl|rfl|rfl|rfl|rfl|rfl|rfl|rfl
          · exact y0
          · exact y1
          · exact y2
          · exact y3
          · exact y4
          · exact y5
          · exact y6
          · exact y7
          · exact y8
          · exact (dI.out 10 (dI.out 11 MJ 10 (by decide)) 9 (by decide))
          · exact (dI.out 11 MJ 10 (by decide))
          · exact MJ
          · rfl
         have hbw:=HI.out.hb;have hs5:=(H.out.below hbw).set5 (true||lost);have bP:=aB (show PS lo (w'.setCell ⟨b,5,none⟩ (.bool (true||lost))) b ⟨sg,sts,act,wai,fnd,true||lost⟩ (.slice s1 n1 s3) (.slice t1 n2 t3) (.slice u1 n3 u3) (.slice v1 n4 v3)/\kX w (iU b (.slice t1 n2 t3) (.slice u1 n3 u3) (.slice v1 n4 v3)) (w'.setCell ⟨b,5,none⟩ (.bool (true||lost))) (iU b (.slice t1 n2 t3) (.slice u1 n3 u3) (.slice v1 n4 v3)) from ⟨hs5.1,(kX.of hbw _).trans hs5.2⟩);have m1:=aA hbw _ _ x5;have m2:=(hbw.frozen (p:=⟨b,5,none⟩) (World.block_lt_of_cell? _ _ x5)).trans fz5;clear hs5 hbw x0 x1 x2 x3 x4 x5 fz5;clear ho aI hD;refine wpOp_step rfl (λK hK=>?_);go_simp;exact hK _ _ (.inr ⟨qI.out,bP.out,_,_,_,_,_,_,_,_,_,_,_,_,rfl⟩)
     · exact absurd (hall i hi) (by rw [hD];decide)
   · rintro D a w' (⟨⟨hL,-⟩,-⟩|⟨-,hF,s9,s10,s11,s12,s13,iT,s15,s16,iR,iQ,iO,s20,rfl⟩) hall
     · rw [hall 12 (by decide)] at hL;cases hL
     · clear hall
       go_wp2_with fail
       go_meet
       case rel=>exact hF
  |false=>
   refine lU (λD a w'=>((D 12=false/\CLo fI D)/\∃s9 s10 s11 s12 s13 iT s15 s16 iR iQ iO s20:Value,a=⟨#[.slice ca cs.length ck,.bool lost,.pointer (some ⟨xb,0,none⟩),.pointer (some ⟨rb,0,none⟩),.pointer (some ⟨fb,0,none⟩),undef,undef,undef,undef,s9,s10,s11,s12,s13,iT,s15,s16,iR,iQ,iO,s20,undef,undef,undef,undef,undef,undef,undef,undef,undef,undef,undef,undef,undef,undef,undef,undef,undef,undef,undef,undef,undef,undef,undef,undef,undef,undef,undef,undef,undef],[]⟩/\rD w b false (.bool lost) lost D w' s9 s10 s11 s12 s13 iT s15 s16 iR iQ iO s20)\/((∀i,i<13->D i=true)/\(PS lo w' b ⟨sg,sts,act,wai,fnd,false||lost⟩ (.slice s1 n1 s3) (.slice t1 n2 t3) (.slice u1 n3 u3) (.slice v1 n4 v3)/\kX w (iU b (.slice t1 n2 t3) (.slice u1 n3 u3) (.slice v1 n4 v3)) w' (iU b (.slice t1 n2 t3) (.slice u1 n3 u3) (.slice v1 n4 v3)))/\∃s9 s10 s11 s12 s13 iT s15 s16 iR iQ iO s20:Value,a=⟨#[.slice ca cs.length ck,.bool lost,.pointer (some ⟨xb,0,none⟩),.pointer (some ⟨rb,0,none⟩),.pointer (some ⟨fb,0,none⟩),undef,undef,undef,undef,s9,s10,s11,s12,s13,iT,s15,s16,iR,iQ,iO,s20,undef,undef,undef,undef,undef,undef,undef,undef,undef,undef,undef,undef,undef,undef,undef,undef,undef,undef,undef,undef,undef,undef,undef,undef,undef,undef,undef,undef,undef],[]⟩)) (by kernel_rfl) (by kernel_rfl) ?_ ?_ (.inl ⟨⟨rfl,λk hk=>by cases hk⟩,_,_,_,_,_,_,_,_,_,_,_,_,rfl,rD.start (Below.refl _ _).drew⟩)
   · rintro D a w' i hop hi (⟨⟨hL,hcl⟩,s9,s10,s11,s12,s13,iT,s15,s16,iR,iQ,iO,s20,rfl,hI⟩|⟨hall,-⟩) hD ho aI
     · have HI:=aB hI;have HL:=aB hL;have dI:=aB hcl;clear hI hL hcl;have hi':i<13:=hi;clear hi;rcases (by omega:i=0\/i=1\/i=2\/i=3\/i=4\/i=5\/i=6\/i=7\/i=8\/i=9\/i=10\/i=11\/i=12) with rfl|rfl|rfl|rfl|rfl|rfl|rfl|rfl|rfl|rfl|rfl|rfl|rfl
       · obtain rfl:=Option.some.inj ho;have cZ:=aB (aO dI.out 0 (λm hm=>by simp only [fI,List.not_mem_nil] at hm));have m_hx:=aA HI.out.hb _ _ hx;clear ho aI hD;refine wpOp_step rfl (λK hK=>?_);go_simp;exact hK _ _ (.inl ⟨⟨HL.out,cZ.out⟩,_,_,_,_,_,_,_,_,_,_,_,_,rfl,HI.out.at0⟩)
       · obtain rfl:=Option.some.inj ho;have cZ:=aB (aO dI.out 1 (λm hm=>by simp only [fI,List.not_mem_nil] at hm));have m_hx:=aA HI.out.hb _ _ hx;clear ho aI hD;refine wpOp_step rfl (λK hK=>?_);go_simp;exact hK _ _ (.inl ⟨⟨HL.out,cZ.out⟩,_,_,_,_,_,_,_,_,_,_,_,_,rfl,HI.out.at1⟩)
       · obtain rfl:=Option.some.inj ho;have y1:=aI ⟨1,.data⟩ (by simp) rfl;have cZ:=aB (aO dI.out 2 (λm hm=>by simp only [fI,List.mem_cons,List.not_mem_nil,or_false] at hm;subst hm;assumption));have d1:=HI.out.h1 y1;subst d1;clear ho aI hD;refine wpOp_step rfl (λK hK=>?_);go_simp;exact hK _ _ (.inl ⟨⟨HL.out,cZ.out⟩,_,_,_,_,_,_,_,_,_,_,_,_,rfl,HI.out.at2⟩)
       · obtain rfl:=Option.some.inj ho;have y2:=aI ⟨2,.data⟩ (by simp) rfl;have cZ:=aB (aO dI.out 3 (λm hm=>by simp only [fI,List.mem_cons,List.not_mem_nil,or_false] at hm;subst hm;assumption));have d2:=HI.out.h2 y2;subst d2;clear ho aI hD;refine wpOp_step rfl (λK hK=>?_);go_simp;exact hK _ _ (.inl ⟨⟨HL.out,cZ.out⟩,_,_,_,_,_,_,_,_,_,_,_,_,rfl,HI.out.at3⟩)
       · obtain rfl:=Option.some.inj ho;have y3:=aI ⟨3,.data⟩ (by simp) rfl;have cZ:=aB (aO dI.out 4 (λm hm=>by simp only [fI,List.mem_cons,List.not_mem_nil,or_false] at hm;subst hm;assumption));have d3:=HI.out.h3 y3;subst d3;clear ho aI hD;refine wpOp_step rfl (λK hK=>?_);go_simp;exact hK _ _ (.inl ⟨⟨HL.out,cZ.out⟩,_,_,_,_,_,_,_,_,_,_,_,_,rfl,HI.out.at4⟩)
       · obtain rfl:=Option.some.inj ho;have y4:=aI ⟨4,.data⟩ (by simp) rfl;have cZ:=aB (aO dI.out 5 (λm hm=>by simp only [fI,List.mem_cons,List.not_mem_nil,or_false] at hm;subst hm;assumption));have d4:=HI.out.h4 y4;subst d4;have m_x5:=aA HI.out.hb _ _ x5;clear ho aI hD;refine wpOp_step rfl (λK hK=>?_);go_simp;exact hK _ _ (.inl ⟨⟨HL.out,cZ.out⟩,_,_,_,_,_,_,_,_,_,_,_,_,rfl,HI.out.at5⟩)
       · obtain rfl:=Option.some.inj ho;have y5:=aI ⟨5,.data⟩ (by simp) rfl;have cZ:=aB (aO dI.out 6 (λm hm=>by simp only [fI,List.mem_cons,List.not_mem_nil,or_false] at hm;subst hm;assumption));have d5:=HI.out.h5 y5;subst d5;clear ho aI hD;refine wpOp_step rfl (λK hK=>?_);go_simp;exact hK _ _ (.inl ⟨⟨HL.out,cZ.out⟩,_,_,_,_,_,_,_,_,_,_,_,_,rfl,HI.out.at6⟩)
       · obtain rfl:=Option.some.inj ho;have y6:=aI ⟨6,.guard⟩ (by simp) rfl;have cZ:=aB (aO dI.out 7 (λm hm=>by simp only [fI,List.mem_cons,List.not_mem_nil,or_false] at hm;subst hm;assumption));have d6:=HI.out.h6 y6;subst d6;clear ho aI hD;refine wpOp_step rfl (λK hK=>?_);go_simp;exact hK _ _ (.inl ⟨⟨HL.out,cZ.out⟩,_,_,_,_,_,_,_,_,_,_,_,_,rfl,HI.out.at7⟩)
       · obtain rfl:=Option.some.inj ho;have y6:=aI ⟨6,.data⟩ (by simp) rfl;have y7:=aI ⟨7,.data⟩ (by simp) rfl;have cZ:=aB (aO dI.out 8 (λm hm=>by simp only [fI,List.mem_cons,List.not_mem_nil,or_false] at hm;rcases hm with rfl|rfl<;>assumption));have d6:=HI.out.h6 y6;subst d6;have d7:=HI.out.h7 y7;subst d7;clear ho aI hD;refine wpOp_step rfl (λK hK=>?_);go_simp;exact hK _ _ (.inl ⟨⟨HL.out,cZ.out⟩,_,_,_,_,_,_,_,_,_,_,_,_,rfl,HI.out.at8⟩)
       · obtain rfl:=Option.some.inj ho;have y0:=aI ⟨0,.data⟩ (by simp) rfl;have y1:=aI ⟨1,.phase⟩ (by simp) rfl;have y2:=aI ⟨2,.phase⟩ (by simp) rfl;have y3:=aI ⟨3,.phase⟩ (by simp) rfl;have y4:=aI ⟨4,.phase⟩ (by simp) rfl;have y5:=aI ⟨5,.phase⟩ (by simp) rfl;have y6:=aI ⟨6,.phase⟩ (by simp) rfl;have y7:=aI ⟨7,.phase⟩ (by simp) rfl;have y8:=aI ⟨8,.phase⟩ (by simp) rfl;have cZ:=aB (aO dI.out 9 (λm hm=>by simp only [fI,List.mem_cons,List.not_mem_nil,or_false] at hm;rcases hm with rfl|rfl|rfl|rfl|rfl|rfl|rfl|rfl|rfl<;>assumption));have d0:=HI.out.h0 y0;subst d0;clear ho aI hD;refine wpOp_step rfl (λK hK=>?_);go_simp;exact hK _ _ (.inl ⟨⟨HL.out,cZ.out⟩,_,_,_,_,_,_,_,_,_,_,_,_,rfl,HI.out.at9⟩)
       · obtain rfl:=Option.some.inj ho;have y9:=aI ⟨9,.data⟩ (by simp) rfl;have y0:=aI ⟨0,.phase⟩ (by simp) rfl;have y1:=aI ⟨1,.phase⟩ (by simp) rfl;have y2:=aI ⟨2,.phase⟩ (by simp) rfl;have y3:=aI ⟨3,.phase⟩ (by simp) rfl;have y4:=aI ⟨4,.phase⟩ (by simp) rfl;have y5:=aI ⟨5,.phase⟩ (by simp) rfl;have y6:=aI ⟨6,.phase⟩ (by simp) rfl;have y7:=aI ⟨7,.phase⟩ (by simp) rfl;have y8:=aI ⟨8,.phase⟩ (by simp) rfl;have cZ:=aB (aO dI.out 10 (λm hm=>by simp only [fI,List.mem_cons,List.not_mem_nil,or_false] at hm;rcases hm with rfl|rfl|rfl|rfl|rfl|rfl|rfl|rfl|rfl|rfl<;>assumption));have d9:=HI.out.h9 y9;subst d9;clear ho aI hD;refine wpOp_step rfl (λK hK=>?_);go_simp;exact hK _ _ (.inl ⟨⟨HL.out,cZ.out⟩,_,_,_,_,_,_,_,_,_,_,_,_,rfl,HI.out.at10⟩)
       · obtain rfl:=Option.some.inj ho;have y10:=aI ⟨10,.data⟩ (by simp) rfl;have y0:=aI ⟨0,.phase⟩ (by simp) rfl;have y1:=aI ⟨1,.phase⟩ (by simp) rfl;have y2:=aI ⟨2,.phase⟩ (by simp) rfl;have y3:=aI ⟨3,.phase⟩ (by simp) rfl;have y4:=aI ⟨4,.phase⟩ (by simp) rfl;have y5:=aI ⟨5,.phase⟩ (by simp) rfl;have y6:=aI ⟨6,.phase⟩ (by simp) rfl;have y7:=aI ⟨7,.phase⟩ (by simp) rfl;have y8:=aI ⟨8,.phase⟩ (by simp) rfl;have cZ:=aB (aO dI.out 11 (λm hm=>by simp only [fI,List.mem_cons,List.not_mem_nil,or_false] at hm;rcases hm with rfl|rfl|rfl|rfl|rfl|rfl|rfl|rfl|rfl|rfl<;>assumption));have d10:=HI.out.h10 y10;subst d10;clear ho aI hD;refine wpOp_step rfl (λK hK=>?_);go_simp;exact hK _ _ (.inl ⟨⟨HL.out,cZ.out⟩,_,_,_,_,_,_,_,_,_,_,_,_,rfl,HI.out.at11⟩)
       · obtain rfl:=Option.some.inj ho;have MJ:=aI ⟨11,.data⟩ (by simp) rfl;have y8:=aI ⟨8,.data⟩ (by simp) rfl;have y0:=aI ⟨0,.phase⟩ (by simp) rfl;have y1:=aI ⟨1,.phase⟩ (by simp) rfl;have y2:=aI ⟨2,.phase⟩ (by simp) rfl;have y3:=aI ⟨3,.phase⟩ (by simp) rfl;have y4:=aI ⟨4,.phase⟩ (by simp) rfl;have y5:=aI ⟨5,.phase⟩ (by simp) rfl;have y6:=aI ⟨6,.phase⟩ (by simp) rfl;have y7:=aI ⟨7,.phase⟩ (by simp) rfl;have d11:=HI.out.h11 MJ;subst d11;have d8:=HI.out.h8 y8;subst d8;have qI:Hid (∀i,i<13->(i==12||D i)=true):=λi hi=>by
          rcases (by omega:i=0\/i=1\/i=2\/i=3\/i=4\/i=5\/i=6\/i=7\/i=8\/i=9\/i=10\/i=11\/i=12) with rfl|rfl|rfl|rfl|rfl|rfl|rfl|rfl|rfl|rfl|rfl|rfl|rfl
          · exact y0
          · exact y1
          · exact y2
          · exact y3
          · exact y4
          · exact y5
          · exact y6
          · exact y7
          · exact y8
          · exact (dI.out 10 (dI.out 11 MJ 10 (by decide)) 9 (by decide))
          · exact (dI.out 11 MJ 10 (by decide))
          · exact MJ
          · rfl
         have hbw:=HI.out.hb;have hs5:=(H.out.below hbw).set5 (false||lost);have bP:=aB (show PS lo (w'.setCell ⟨b,5,none⟩ (.bool (false||lost))) b ⟨sg,sts,act,wai,fnd,false||lost⟩ (.slice s1 n1 s3) (.slice t1 n2 t3) (.slice u1 n3 u3) (.slice v1 n4 v3)/\kX w (iU b (.slice t1 n2 t3) (.slice u1 n3 u3) (.slice v1 n4 v3)) (w'.setCell ⟨b,5,none⟩ (.bool (false||lost))) (iU b (.slice t1 n2 t3) (.slice u1 n3 u3) (.slice v1 n4 v3)) from ⟨hs5.1,(kX.of hbw _).trans hs5.2⟩);have m1:=aA hbw _ _ x5;have m2:=(hbw.frozen (p:=⟨b,5,none⟩) (World.block_lt_of_cell? _ _ x5)).trans fz5;clear hs5 hbw x0 x1 x2 x3 x4 x5 fz5;clear ho aI hD;refine wpOp_step rfl (λK hK=>?_);go_simp;exact hK _ _ (.inr ⟨qI.out,bP.out,_,_,_,_,_,_,_,_,_,_,_,_,rfl⟩)
     · exact absurd (hall i hi) (by rw [hD];decide)
   · rintro D a w' (⟨⟨hL,-⟩,-⟩|⟨-,hF,s9,s10,s11,s12,s13,iT,s15,s16,iR,iQ,iO,s20,rfl⟩) hall
     · rw [hall 12 (by decide)] at hL;cases hL
     · clear hall
       go_wp2_with fail
       go_meet
       case rel=>exact hF
 case rest=>
  clear x0 x1 x2 x3 x4 x5 fz5;obtain ⟨hP,hM⟩:=hcut;have HX0:=aB hx;have HR0:=aB hr;have HF0:=aB hf;have HP0:=aB hP;have HM0:=aB hM;have HK0:=aB (H.out.kpt hM);clear hP hM hx hr hf
  go_wp2_with fail
  go_loopw [23] (λi wr=>∃(j:Nat) (pj:Pf) (z2 z4:Value),j<=cs.length/\i= .int .i64 j/\pj=(cs.take j).foldl (iD r fr) ⟨sg,sts,act,wai,fnd,lst||lost⟩/\ND pj/\PS lo wr b pj (.slice s1 n1 s3) z2 (.slice u1 n3 u3) z4/\kX w (iU b (.slice t1 n2 t3) (.slice u1 n3 u3) (.slice v1 n4 v3)) wr (iU b z2 (.slice u1 n3 u3) z4)) (λi _=>cs.length - (intOf i).toNat)
  case atStart=>exact ⟨0,⟨sg,sts,act,wai,fnd,lst||lost⟩,_,_,Nat.zero_le _,rfl,rfl,⟨HG.out.ga,HG.out.gw,HG.out.gg,HG.out.gl,HG.out.gs⟩,HP0.out,HM0.out⟩
  case round=>
   clear HP0 HM0 HK0;obtain ⟨j,⟨MK,l7,act',rG,oJ,rM⟩,z2,z4,hj,rfl,hpj,hGj,hPj,hMj⟩:=hrel;have Hpj:=aB hpj;have HGj:=aB hGj;have rE:=aB hPj;have zS:=aB hMj;obtain ⟨-,⟨ta,tc,rfl⟩,-,va,vc,rfl⟩:=hPj.slices;generalize wr=wa at*;have hx':=hMj.cell HX.out.1 HX0.out;have hr':=hMj.cell HX.out.2.1 HR0.out;have hf':=hMj.cell HX.out.2.2 HF0.out;clear hpj hGj hPj hMj;obtain ⟨x0,x1,x2,x3,x4,x5,-⟩:=rE.out.bx;simp only at x0 x1 x2 x3 x4 x5;by_cases hlt:j<cs.length
   · have hlt':(j:Int)<(cs.length:Int):=by omega
     obtain ⟨c,hcj⟩:∃c,cs[j]?=some c:=⟨cs[j]'hlt,by simp⟩;obtain ⟨cv,q0,hC⟩:=HcF.out j c hcj;replace q0:=zS.out.cell (HcE.out (by omega)) q0;have HC:=aB ((H.out.kpt zS.out).cin hC);have C9:=aB (F9.out c (List.mem_of_getElem? hcj));obtain ⟨c1,c3,rfl⟩:=aK hC;have aOM:=hca (by omega);subst aOM;have uD:Hid ((cs.take (j+1)).foldl (iD r fr) ⟨sg,sts,act,wai,fnd,lst||lost⟩=iD r fr ⟨MK,l7,act',rG,oJ,rM⟩ c):=by rw [Hid,List.take_add_one,hcj,List.foldl_append,←Hpj.out];rfl
     clear hcj hC hca Hpj;have uE:=aB (xC b oJ wa x4);obtain ⟨fb',QC⟩:∃fb,fb=decide (-1<oJ):=⟨_,rfl⟩;rw [←QC] at uE;have Hfb:=aB QC;clear QC;cases fb' with
     |true=>
      have zR:Hid ((cs.take (j+1)).foldl (iD r fr) ⟨sg,sts,act,wai,fnd,lst||lost⟩=⟨MK,l7,act',rG,oJ,rM⟩):=by rw [Hid,uD.out];exact zG (.inl (by have:=of_decide_eq_true Hfb.out.symm;show 0<=oJ;omega))
      go_wp2_with fail
      refine uE.out.mono ?_;rintro e wf ⟨rfl,rfl⟩
      go_wp2_with fail
      go_roundw
      case rel=>exact ⟨j+1,⟨MK,l7,act',rG,oJ,rM⟩,_,_,by omega,by go_num,zR.out.symm,HGj.out,rE.out,zS.out⟩
      case measure=>simp [intOf];omega
     |false=>
      have Hnf:Hid (¬0<=oJ):=by have:=of_decide_eq_false Hfb.out.symm;rw [Hid];omega
      obtain ⟨W1,hW1⟩:∃W,W=aDQ ⟨MK,l7,act',rG,oJ,rM⟩ c:=⟨_,rfl⟩;have Hwt:=aB (aD9 b ⟨MK,l7,act',rG,oJ,rM⟩ _ _ _ _ c _ wa rE.out.rd HC.out HGj.out C9.out);rw [←hW1] at Hwt;have HW1:=aB hW1;clear hW1
      go_wp2_with fail
      refine uE.out.mono ?_;rintro e wf ⟨rfl,rfl⟩;cases W1 with
      |true=>
       have zR:Hid ((cs.take (j+1)).foldl (iD r fr) ⟨sg,sts,act,wai,fnd,lst||lost⟩=⟨MK,l7,act',rG,oJ,rM⟩):=by rw [Hid,uD.out];exact zG (.inr (.inl HW1.out.symm))
       go_wp2_with fail
       refine Hwt.out.mono ?_;rintro e wg ⟨rfl,hb⟩;have ZA:=aB (rE.out.below hb);have HM2:=aB (zS.out.step hb);clear hb Hwt uE rE zS hx' hr' hf' x0 x1 x2 x3 x4 x5 q0
       go_wp2_with fail
       go_roundw
       case rel=>exact ⟨j+1,⟨MK,l7,act',rG,oJ,rM⟩,_,_,by omega,by go_num,zR.out.symm,HGj.out,ZA.out,HM2.out⟩
       case measure=>simp [intOf];omega
      |false=>
       go_wp2_with fail
       refine Hwt.out.mono ?_;rintro e wg ⟨rfl,hb⟩;replace rE:=aB (rE.out.below hb);replace zS:=aB (zS.out.step hb);replace HC:=aB (HC.out.below hb);replace hx':=aA hb _ _ hx';replace hr':=aA hb _ _ hr';replace hf':=aA hb _ _ hf';clear hb Hwt uE x0 x1 x2 x3 x4 x5 q0;clear wf;obtain ⟨V1,hV1⟩:∃V,V=UN ⟨MK,l7,act',rG,oJ,rM⟩ c:=⟨_,rfl⟩;have ZO:=aB (FU b ⟨MK,l7,act',rG,oJ,rM⟩ _ _ _ _ c _ wg rE.out.rd HC.out HGj.out C9.out);rw [←hV1] at ZO;have HV1:=aB hV1;clear hV1;cases V1 with
       |true=>
        have zR:Hid ((cs.take (j+1)).foldl (iD r fr) ⟨sg,sts,act,wai,fnd,lst||lost⟩=⟨MK,l7,act',rG,oJ,rM⟩):=by rw [Hid,uD.out];exact zG (.inr (.inr HV1.out.symm))
        go_wp2_with fail
        refine ZO.out.mono ?_;rintro e wh ⟨rfl,hb⟩;have ZA:=aB (rE.out.below hb);have HM2:=aB (zS.out.step hb);clear hb ZO rE zS hx' hr' hf'
        go_wp2_with fail
        go_roundw
        case rel=>exact ⟨j+1,⟨MK,l7,act',rG,oJ,rM⟩,_,_,by omega,by go_num,zR.out.symm,HGj.out,ZA.out,HM2.out⟩
        case measure=>simp [intOf];omega
       |false=>
        have zR:Hid ((cs.take (j+1)).foldl (iD r fr) ⟨sg,sts,act,wai,fnd,lst||lost⟩=nU ⟨MK,l7,act',rG,oJ,rM⟩ r fr c):=by
         rw [Hid,uD.out,aB2,if_neg];rintro (h|h|h)
         · have h1:=Hnf.out;have h2:0<=oJ:=h;omega
         · rw [←HW1.out] at h;cases h
         · rw [←HV1.out] at h;cases h
        have HGn:Hid (ND (nU ⟨MK,l7,act',rG,oJ,rM⟩ r fr c)):=by have h:=LQ (r:=r) (fr:=fr) HGj.out C9.out;rw [←uD.out,zR.out] at h;exact h
        go_wp2_with fail
        refine ZO.out.mono ?_;rintro e wh ⟨rfl,hb⟩;replace rE:=aB (rE.out.below hb);replace zS:=aB (zS.out.step hb);replace HC:=aB (HC.out.below hb);replace hx':=aA hb _ _ hx';replace hr':=aA hb _ _ hr';replace hf':=aA hb _ _ hf';clear hb ZO;clear wg;have HNj:=aB (HN.out.mv zS.out)
        go_upto_region 5 with fail
        refine lU (λD a w'=>((D 6=false/\CLo yL D)/\∃gD s43 s44 gB fZ kV kU:Value,a=⟨#[.slice (some ⟨cb,co,none⟩) cs.length ck,.bool lost,.pointer (some ⟨xb,0,none⟩),.pointer (some ⟨rb,0,none⟩),.pointer (some ⟨fb,0,none⟩),undef,undef,undef,.slice c1 (List.length c) c3,u9,u10,u11,u12,u13,u14,u15,u16,u17,u18,u19,u20,.slice (some ⟨cb,co,none⟩) cs.length ck,.int .i64 (cs.length:Int),.int .i64 (j:Int),.bool true,.pointer (some ⟨cb,co+j,none⟩),.slice c1 (List.length c) c3,.pointer (some ⟨b,0,none⟩),.bool false,.bool true,.bool true,.pointer (some ⟨b,0,none⟩),.slice c1 (List.length c) c3,.bool false,.bool true,.bool true,.bool true,.pointer (some ⟨b,0,none⟩),.slice c1 (List.length c) c3,.bool false,.bool true,.bool true,gD,s43,s44,gB,fZ,kV,kU,u49],[]⟩/\ME wh b r fr (.slice f1 fr.length f3) (.slice c1 c.length c3) D w' gD s43 s44 gB fZ kV kU)\/((∀i,i<7->D i=true)/\(∃z2 z4,PS lo w' b (nU ⟨MK,l7,act',rG,oJ,rM⟩ r fr c) (.slice s1 n1 s3) z2 (.slice u1 n3 u3) z4/\kX w (iU b (.slice t1 n2 t3) (.slice u1 n3 u3) (.slice v1 n4 v3)) w' (iU b z2 (.slice u1 n3 u3) z4))/\∃gD s43 s44 gB fZ kV kU:Value,a=⟨#[.slice (some ⟨cb,co,none⟩) cs.length ck,.bool lost,.pointer (some ⟨xb,0,none⟩),.pointer (some ⟨rb,0,none⟩),.pointer (some ⟨fb,0,none⟩),undef,undef,undef,.slice c1 (List.length c) c3,u9,u10,u11,u12,u13,u14,u15,u16,u17,u18,u19,u20,.slice (some ⟨cb,co,none⟩) cs.length ck,.int .i64 (cs.length:Int),.int .i64 (j:Int),.bool true,.pointer (some ⟨cb,co+j,none⟩),.slice c1 (List.length c) c3,.pointer (some ⟨b,0,none⟩),.bool false,.bool true,.bool true,.pointer (some ⟨b,0,none⟩),.slice c1 (List.length c) c3,.bool false,.bool true,.bool true,.bool true,.pointer (some ⟨b,0,none⟩),.slice c1 (List.length c) c3,.bool false,.bool true,.bool true,gD,s43,s44,gB,fZ,kV,kU,u49],[]⟩)) (by kernel_rfl) (by kernel_rfl) ?_ ?_ (.inl ⟨⟨rfl,λk hk=>by cases hk⟩,_,_,_,_,_,_,_,rfl,ME.start (Below.refl _ _).drew⟩)
        · rintro D a w' i hop hi (⟨⟨hL,hcl⟩,gD,s43,s44,gB,fZ,kV,kU,rfl,hI⟩|⟨hall,-⟩) hD ho aI
          · have HI:=aB hI;have HL:=aB hL;have dI:=aB hcl;clear hI hL hcl;have hi':i<7:=hi;clear hi;rcases (by omega:i=0\/i=1\/i=2\/i=3\/i=4\/i=5\/i=6) with rfl|rfl|rfl|rfl|rfl|rfl|rfl
            · obtain rfl:=Option.some.inj ho;have cZ:=aB (aO dI.out 0 (λm hm=>by simp only [yL,List.not_mem_nil] at hm));have m_hx:=aA HI.out.hb _ _ hx';clear ho aI hD;refine wpOp_step rfl (λK hK=>?_);go_simp;exact hK _ _ (.inl ⟨⟨HL.out,cZ.out⟩,_,_,_,_,_,_,_,rfl,HI.out.at0⟩)
            · obtain rfl:=Option.some.inj ho;have cZ:=aB (aO dI.out 1 (λm hm=>by simp only [yL,List.not_mem_nil] at hm));have m_hr:=aA HI.out.hb _ _ hr';clear ho aI hD;refine wpOp_step rfl (λK hK=>?_);go_simp;exact hK _ _ (.inl ⟨⟨HL.out,cZ.out⟩,_,_,_,_,_,_,_,rfl,HI.out.at1⟩)
            · obtain rfl:=Option.some.inj ho;have cZ:=aB (aO dI.out 2 (λm hm=>by simp only [yL,List.not_mem_nil] at hm));have m_hf:=aA HI.out.hb _ _ hf';clear ho aI hD;refine wpOp_step rfl (λK hK=>?_);go_simp;exact hK _ _ (.inl ⟨⟨HL.out,cZ.out⟩,_,_,_,_,_,_,_,rfl,HI.out.at2⟩)
            · obtain rfl:=Option.some.inj ho;have y2:=aI ⟨2,.data⟩ (by simp) rfl;have cZ:=aB (aO dI.out 3 (λm hm=>by simp only [yL,List.mem_cons,List.not_mem_nil,or_false] at hm;subst hm;assumption));have d2:=HI.out.h2 y2;subst d2;have hbw:=HI.out.hb;have dI:=aB (E5 fr _ w' (HNj.out.below hbw).nin (by omega));clear ho aI hD hbw;refine wpOp_step rfl (λK hK=>?_);go_simp;refine dI.out.mono ?_;rintro e w5 ⟨v5,rfl,ho5,hb5⟩;obtain ⟨z1,z3,rfl⟩:=aR ho5;have HI2:=aB (HI.out.at3 (v4:= .slice z1 fr.length z3) hb5 ⟨z1,z3,rfl,⟨ho5.1,by
               rcases ho5.2 with h|⟨g,bW,cur,h1,h2,h3⟩
               · exact .inl h
               · exact .inr ⟨g,bW,cur,h1,Nat.le_trans HI.out.hb.size h2,h3⟩⟩⟩)
              clear ho5 hb5;exact hK _ _ (.inl ⟨⟨HL.out,cZ.out⟩,_,_,_,_,_,_,_,rfl,HI2.out⟩)
            · obtain rfl:=Option.some.inj ho;have cZ:=aB (aO dI.out 4 (λm hm=>by simp only [yL,List.not_mem_nil] at hm));clear ho aI hD;refine wpOp_step rfl (λK hK=>?_);go_simp;exact hK _ _ (.inl ⟨⟨HL.out,cZ.out⟩,_,_,_,_,_,_,_,rfl,HI.out.at4⟩)
            · obtain rfl:=Option.some.inj ho;have y1:=aI ⟨1,.data⟩ (by simp) rfl;have y3:=aI ⟨3,.data⟩ (by simp) rfl;have y4:=aI ⟨4,.data⟩ (by simp) rfl;have cZ:=aB (aO dI.out 5 (λm hm=>by simp only [yL,List.mem_cons,List.not_mem_nil,or_false] at hm;rcases hm with rfl|rfl|rfl<;>assumption));have d1:=HI.out.h1 y1;subst d1;have d4:=HI.out.h4 y4;subst d4;obtain ⟨z1,z3,rfl,ho⟩:=HI.out.h3 y3;have HI2:=aB (HI.out.at5 (v4:= .agg #[.int .i64 r,.slice z1 fr.length z3,.slice c1 c.length c3]) ⟨z1,z3,rfl,ho⟩);clear ho;clear ho aI hD;refine wpOp_step rfl (λK hK=>?_);go_simp;exact hK _ _ (.inl ⟨⟨HL.out,cZ.out⟩,_,_,_,_,_,_,_,rfl,HI2.out⟩)
            · obtain rfl:=Option.some.inj ho;have y0:=aI ⟨0,.data⟩ (by simp) rfl;have y5:=aI ⟨5,.data⟩ (by simp) rfl;have d0:=HI.out.h0 y0;subst d0;have qI:Hid (∀i,i<7->(i==6||D i)=true):=λi hi=>by
               rcases (by omega:i=0\/i=1\/i=2\/i=3\/i=4\/i=5\/i=6) with rfl|rfl|rfl|rfl|rfl|rfl|rfl
               · exact y0
               · exact (dI.out 5 y5 1 (by decide))
               · exact (dI.out 3 (dI.out 5 y5 3 (by decide)) 2 (by decide))
               · exact (dI.out 5 y5 3 (by decide))
               · exact (dI.out 5 y5 4 (by decide))
               · exact y5
               · rfl
              obtain ⟨z1,z3,rfl,ho5⟩:=HI.out.h5 y5;have hbw:=HI.out.hb;have Hwa:=aB (NR b ⟨MK,l7,act',rG,oJ,rM⟩ _ _ _ _ r fr _ c _ w' (rE.out.below hbw) (mP ho5 rfl rE.out.el) (HC.out.below hbw) HGj.out);have HMw:=aB (zS.out.step hbw);clear ho5 hbw;clear ho aI hD;refine wpOp_step rfl (λK hK=>?_);go_simp;refine Hwa.out.mono ?_;rintro e w5 ⟨rfl,z2',z4',hP5,hM5⟩;exact hK _ _ (.inr ⟨qI.out,⟨z2',z4',hP5,HMw.out.trans hM5⟩,_,_,_,_,_,_,_,rfl⟩)
          · exact absurd (hall i hi) (by rw [hD];decide)
        · rintro D a w' (⟨⟨hL,-⟩,-⟩|⟨-,hF,gD,s43,s44,gB,fZ,kV,kU,rfl⟩) hall
          · rw [hall 6 (by decide)] at hL;cases hL
          · obtain ⟨z2',z4',hP5,hM5⟩:=hF;have HP5:=aB hP5;have HM5:=aB hM5;clear hP5 hM5 hall hx' hr' hf' rE zS HC HNj
            go_wp2_with fail
            go_roundw
            case rel=>exact ⟨j+1,_,z2',z4',by omega,by go_num,zR.out.symm,HGn.out,HP5.out,HM5.out⟩
            case measure=>simp [intOf];omega
   · have e:Q=⟨MK,l7,act',rG,oJ,rM⟩:=by
      have h:=Hpj.out;rw [show j=cs.length by omega,List.take_length] at h;exact HQ.out.trans h.symm
     subst e;clear hca
     go_wp2_with fail
     go_end0
     exact ⟨rfl,_,_,rE.out,zS.out⟩
end
section
attribute [local go_sem ↓] Go.wp_at_zero Go.wp_at_succ
def gP (s:List Int) (st:Int×Pf×Int) (c:Cl):Int×Pf×Int:=
 if st.1≠0 then st
 else if aN s c≠0 then (aN s c,st.2.1,st.2.2)
 else if (bS c).1=4 then (4,st.2.1,st.2.2)
 else if (bS c).1=0 then (0,{(bI st.2.1 1 [st.2.2] (bS c).2).1 with wai:=(bI st.2.1 1 [st.2.2] (bS c).2).1.wai++[((bI st.2.1 1 [st.2.2] (bS c).2).1.sts.length:Int) - 1]},st.2.2+1)
 else (0,st.2.1,st.2.2+1)
def pJ (s:List Int) (cs:List Cl):Int×Pf:=
 if gX s≠0 then (gX s,⟨[],[],[],[],0,false⟩)
 else if 8<cs.length then (5,⟨[],[],[],[],0,false⟩)
 else if (cs.foldl (gP s) (0,⟨s,[],[],[],-1,false⟩,0)).1≠0 then ((cs.foldl (gP s) (0,⟨s,[],[],[],-1,false⟩,0)).1,⟨[],[],[],[],0,false⟩)
 else (0,(cs.foldl (gP s) (0,⟨s,[],[],[],-1,false⟩,0)).2.1)
theorem PH {s:List Int} (hs:s.all bN=true) {c:Cl} (hn:∀l∈c,Fo.norm l.2.1.2=l.2.1.2/\Fo.norm l.2.2.2=l.2.2.2) (h:aN s c=0):GC c:=by have h2:=eP h;rw [nK] at h;refine ⟨h.1,λl hl=>?_⟩;obtain ⟨g1,_,g2⟩:=jO hs (hn l hl).1 (h.2 l hl).1;obtain ⟨g3,_,g4⟩:=jO hs (hn l hl).2 (h.2 l hl).2;exact ⟨g1,g3,λm hm=>(pR (h2 l hl).1 m hm).2,λm hm=>(pR (h2 l hl).2 m hm).2,g2,g4⟩
theorem B6.under {B b:Nat} {w w':World} {x0 x1 x2 x3 x4 x5:Value} (h:B6 w b x0 x1 x2 x3 x4 x5) (hb:Below B w w') (hlt:b<B):B6 w' b x0 x1 x2 x3 x4 x5:=by have hc:∀o,w'.cell? ⟨b,o,none⟩=w.cell? ⟨b,o,none⟩:=λo=>hb.cell (p:=⟨b,o,none⟩) hlt;obtain ⟨h0,h1,h2,h3,h4,h5,h6⟩:=h;exact ⟨(hc _).trans h0,(hc _).trans h1,(hc _).trans h2,(hc _).trans h3,(hc _).trans h4,(hc _).trans h5,λi=>(hb.frozen (p:=⟨b,i,none⟩) hlt).trans (h6 i)⟩
theorem N6.under {B b:Nat} {w w':World} (h:N6 w b) (hb:Below B w w') (hlt:b<B):N6 w' b:=λo ho=>(hb.cell (p:=⟨b,o,none⟩) hlt).trans (h o ho)
theorem Z7 (E:Nat->Prop) (w:World):oW E w ⟨[],[],[],[],0,false⟩ (.slice none 0 0) (.slice none 0 0) (.slice none 0 0) (.slice none 0 0):=⟨J7 E w none (Nat.zero_le _),jV.nil E w,J7 E w none (Nat.zero_le _),J7 E w none (Nat.zero_le _)⟩
theorem J8 {s:List Int}:∀{cs:List Cl} {st:Int×Pf×Int},st.1≠0->cs.foldl (gP s) st=st
 |[],_,_=>rfl
 |_::cs,st,h=>by rw [List.foldl_cons,show gP s st _=st from if_pos h];exact J8 h
end
theorem G7 {s:List Int} (h6:s.length<=6) {us:List Lt} (mZ:TM s us) {c:Cl} (hc:SmC s c) (h4:c.length<=4) (h:(rF us c).1=0):GC (rF us c).2/\aN s (rF us c).2=0:=by have hd:=SI h6 mZ hc;have hg:GX (qK us c):=(hd.gc (by simpa [qK] using h4)).x;exact ⟨(wE hg h).1,FQ hg (λl hl=>⟨nR (hd l hl).1.sg,nR (hd l hl).2.sg⟩) h⟩
def unL:Cl->Option Lt
 |[l]=>if l.1=true then none else some l
 |_=>none
theorem vM {c:Cl} {l:Lt} (h:unL c=some l):c=[l]/\nV c=true:=by
 unfold unL at h;split at h
 · rename_i m;split at h
   · cases h
   · rename_i hm;cases h;exact ⟨rfl,by simpa [nV] using hm⟩
 · cases h
theorem aH7 {c:Cl} (h:unL c=none):nV c=false:=by
 unfold unL at h;split at h
 · rename_i m;split at h
   · rename_i hm;simpa [nV] using hm
   · cases h
 · rename_i hn;unfold nV;split
   · rename_i l;exact absurd rfl (hn l)
   · rfl
def xI (sts:List St) (l:List Int):List Int:=l.filter λk=>nV (bD sts k)
def qE (sts:List St) (l:List Int):List Lt:=l.filterMap λk=>unL (bD sts k)
theorem VW (sts:List St) (l:List Int) (k:Int):xI sts (l++[k])=xI sts l++(if nV (bD sts k)=true then [k] else []):=by
 unfold xI;rw [List.filter_append];congr 1;by_cases h:nV (bD sts k)=true
 · simp [h]
 · simp [h]
theorem U5 (sts:List St) (l:List Int) (k:Int):qE sts (l++[k])=qE sts l++(match unL (bD sts k) with|some u=>[u]|none=>[]):=by unfold qE;rw [List.filterMap_append];congr 1;cases h:unL (bD sts k)<;>simp [h]
def qH (U:Tm->Tm->Option Sb) (c:Cl) (g:Int) (p:Pf) (k:Int):Pf:=
 if k≠g then jF (jF p 4 [k,g] (gJ U (bD p.sts k) (c.map (bK (aH (j5 5)))) (bD p.sts k).length)) 4 [g,k] (gJ U c ((bD p.sts k).map (bK (aH (j5 5)))) c.length)
 else jF p 4 [k,g] (gJ U (bD p.sts k) (c.map (bK (aH (j5 5)))) (bD p.sts k).length)
def IW (U:Tm->Tm->Option Sb) (p:Pf) (c:Cl) (g:Int):Pf:=
 jF (jF {p with act:=p.act++[g]} 2 [g] (jN U c c.length)) 3 [g] (fP U c c.length)
def DK (U:Tm->Tm->Option Sb) (p:Pf) (c:Cl) (g:Int):Pf:=(p.act++[g]).foldl (qH U c g) (IW U p c g)
def rP (U:Tm->Tm->Option Sb) (p:Pf) (c:Cl) (g:Int):Pf:=if 0<=p.fnd\/UN p c=true then p else DK U p c g
def oP (U:Tm->Tm->Option Sb) (p:Pf) (g:Int):Pf:=
 if (rF (qE p.sts p.act) (bD p.sts g)).1≠0 then {p with lst:=p.lst||decide ((rF (qE p.sts p.act) (bD p.sts g)).1=4)}
 else if dH (rF (qE p.sts p.act) (bD p.sts g)).2 (bD p.sts g)=true then rP U p (rF (qE p.sts p.act) (bD p.sts g)).2 g
 else if (bI p 5 (g::xI p.sts p.act) (rF (qE p.sts p.act) (bD p.sts g)).2).2=true then rP U (bI p 5 (g::xI p.sts p.act) (rF (qE p.sts p.act) (bD p.sts g)).2).1 (rF (qE p.sts p.act) (bD p.sts g)).2 (p.sts.length:Int)
 else (bI p 5 (g::xI p.sts p.act) (rF (qE p.sts p.act) (bD p.sts g)).2).1
def kE (U:Tm->Tm->Option Sb) (p:Pf) (n:Int):Int×Pf:=
 if 0<=p.fnd\/p.wai.length=0 then (11,p)
 else if n<0\/(p.wai.length:Int)<=n then (6,p)
 else (0,oP U {p with wai:=p.wai.take n.toNat++p.wai.drop (n.toNat+1)} (p.wai.getD n.toNat 0))
end Go.Proofs.YtoklbpbmghbhnaeGreat
