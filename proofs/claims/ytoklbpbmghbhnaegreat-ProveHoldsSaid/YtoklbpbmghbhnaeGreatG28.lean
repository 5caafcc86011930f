import Derived.Test.YtoklbpbmghbhnaeGreatG27
import Derived.Deep.RegionHeld3
namespace Go.Proofs.YtoklbpbmghbhnaeGreat
set_option maxRecDepth 100000
set_option maxHeartbeats 16000000
open Go.RowKit Go.Deep Go.ChangeShapes Go.WideShapes
section
attribute [local go_sem ↓] Go.wp_at_zero Go.wp_at_succ
def xS (p:Pf) (g:Int):Pf×Int×Bool:=
 if (rF (qE p.sts p.act) (bD p.sts g)).1≠0 then ({p with lst:=p.lst||decide ((rF (qE p.sts p.act) (bD p.sts g)).1=4)},g,false)
 else if dH (rF (qE p.sts p.act) (bD p.sts g)).2 (bD p.sts g)=true then (p,g,true)
 else ((bI p 5 (g::xI p.sts p.act) (rF (qE p.sts p.act) (bD p.sts g)).2).1,((bI p 5 (g::xI p.sts p.act) (rF (qE p.sts p.act) (bD p.sts g)).2).1.sts.length:Int) - 1,(bI p 5 (g::xI p.sts p.act) (rF (qE p.sts p.act) (bD p.sts g)).2).2)
theorem uJ {w:World} {ops:Array Oper} {rest:List Oper} {o:Oper} {a:Act} {Q:Exit->Act->World->Prop} (hgd:o.guard=none) (s x:Operand)
  (ho:o.op= .call {callee:= .builtin .append,args:=#[s,x],argTypes:=#[22,22]}) (base:Nat) (v:Value) (n:Nat) (xs:List Value) (hs:a.eval s=v) (hR:Rw base w 3 1 v n xs)
  (i:Int) (ad:Addr) (hx:a.eval x= .slice (some ad) 1 1) (hc:w.cell? (ad.add 0)=some (.int .i64 i)) (hb:(n+1)*8<=140737488355328) (hbase:base<=w.heap.size)
  (h:∀v' w',Rw base w' 3 1 v' (n+1) (xs++[.int .i64 i])->w.grownBy w' v.ownBlock->(v'.ownBlock=v.ownBlock\/v'.ownBlock=some w.heap.size)->wpList Tryz.prog ops Q rest (a.put o.dst v') w'):wpList Tryz.prog ops Q (o::rest) a w:=by
 obtain ⟨i3,hi3,hy0,hy1,hy2⟩:=info_parts Tryz.info3;obtain ⟨v',w',hr,h2,h3,h4,h5⟩:=lJ (P:=Tryz.prog) w 22 o.type base 3 i3 (.int .i64 0) 1 8 Tryz.underlying22 hi3 hy0 hy1 hy2 rfl (by decide) (λu hu=>by
  simp [Value.cells] at hu;subst hu;exact oM _ _) v n xs hR.1 hR.2 ad 1 1 [.int .i64 i] rfl (λj u hj=>by
  match j,hj with
  |0,hj=>simp at hj;rw [←hj];exact hc
  |j+1,hj=>simp at hj) (λu hu=>by simp at hu;subst hu;rfl) (λu hu=>by simp at hu;subst hu;exact oM _ _) (by omega) (by unfold maxLen;omega) hb hbase
 refine wpList_plain hgd λ_ hK=>?_;unfold Oper.wp execOp;simp only [ho,resolve,invoke,builtin,Sem.run_bind,Sem.run_pure,Result.andThen_ok,List.map_toArray,List.map_cons,List.map_nil,hs,hx,hr];exact hK _ _ (h v' w' ⟨h2,h5⟩ h3 h4)
theorem uK {w:World} {ops:Array Oper} {rest:List Oper} {o:Oper} {a:Act} {Q:Exit->Act->World->Prop} (hgd:o.guard=none) (s x:Operand)
  (ho:o.op= .call {callee:= .builtin .append,args:=#[s,x],argTypes:=#[24,24]}) (base:Nat) (v:Value) (n:Nat) (xs:List Value) (hs:a.eval s=v) (hR:Rw base w 44 1 v n xs)
  (c1:Option Addr) (c2 c3:Nat) (ad:Addr) (hx:a.eval x= .slice (some ad) 1 1) (hc:w.cell? (ad.add 0)=some (.slice c1 c2 c3)) (hb:(n+1)*24<=140737488355328) (hbase:base<=w.heap.size)
  (h:∀v' w',Rw base w' 44 1 v' (n+1) (xs++[.slice c1 c2 c3])->w.grownBy w' v.ownBlock->(v'.ownBlock=v.ownBlock\/v'.ownBlock=some w.heap.size)->wpList Tryz.prog ops Q rest (a.put o.dst v') w'):wpList Tryz.prog ops Q (o::rest) a w:=by
 obtain ⟨i3,hi3,hy0,hy1,hy2⟩:=info_parts Tryz.info44;obtain ⟨v',w',hr,h2,h3,h4,h5⟩:=lJ (P:=Tryz.prog) w 24 o.type base 44 i3 (.slice none 0 0) 1 24 Tryz.underlying24 hi3 hy0 hy1 hy2 rfl (by decide) (λu hu=>by
  simp [Value.cells] at hu;subst hu;exact FD _ _ _) v n xs hR.1 hR.2 ad 1 1 [.slice c1 c2 c3] rfl (λj u hj=>by
  match j,hj with
  |0,hj=>simp at hj;rw [←hj];exact hc
  |j+1,hj=>simp at hj) (λu hu=>by simp at hu;subst hu;rfl) (λu hu=>by simp at hu;subst hu;exact FD _ _ _) (by omega) (by unfold maxLen;omega) hb hbase
 refine wpList_plain hgd λ_ hK=>?_;unfold Oper.wp execOp;simp only [ho,resolve,invoke,builtin,Sem.run_bind,Sem.run_pure,Result.andThen_ok,List.map_toArray,List.map_cons,List.map_nil,hs,hx,hr];exact hK _ _ (h v' w' ⟨h2,h5⟩ h3 h4)
structure UR (lo:Nat) (w:World) (rs:List Int) (us:List Lt) (fv uv:Value) (xs:List Value):Prop where
 fr:Rw lo w 3 1 fv rs.length (bO rs)
 ur:Rw lo w 44 1 uv us.length xs
 el:∀(i:Nat) (u:Lt),us[i]?=some u->∃cv,xs[i]?=some cv/\dQ w [u] cv
 ne:∀q,fv.ownBlock=some q->uv.ownBlock≠some q
theorem UR.below {lo:Nat} {w w':World} {rs:List Int} {us:List Lt} {fv uv:Value} {xs:List Value} (h:UR lo w rs us fv uv xs) (hb:Below w.heap.size w w'):UR lo w' rs us fv uv xs:=
 ⟨h.fr.below hb,h.ur.below hb,λi u hu=>by obtain ⟨cv,h1,h2⟩:=h.el i u hu;exact ⟨cv,h1,h2.below hb⟩,h.ne⟩
theorem UR.csin {lo:Nat} {w:World} {rs:List Int} {us:List Lt} {fv uv:Value} {xs:List Value} (h:UR lo w rs us fv uv xs):mD w (us.map λu=>[u]) uv:=by
 have hcells:=λg hg=>h.ur.1.cells (g:=g) hg;rcases h.ur.1.2 with ⟨e,h0⟩|⟨g,bW,cur,e,_,_,hn,hm,_,_⟩
 · have:us=[]:=List.length_eq_zero_iff.1 h0;rw [this,e];exact mD.nil w
 · refine ⟨some ⟨g,0,none⟩,bW,g,0,by rw [List.length_map];exact e,λ_=>rfl,by rw [List.length_map];exact hn,hm,λi c hc=>?_⟩;rw [List.getElem?_map] at hc;obtain ⟨u,hu,rfl⟩:=Option.map_eq_some_iff.1 hc;obtain ⟨cv,h1,h2⟩:=h.el i u hu;refine ⟨cv,?_,h2⟩;have:=hcells g (by rw [e];rfl) i cv h1;rw [add_plain] at this;exact this
theorem UR.push {lo:Nat} {w w1 w2 w3 w4:World} {rs:List Int} {us:List Lt} {fv uv fv' uv':Value} {xs:List Value} {k:Int} {u:Lt} {cv:Value} (h:UR lo w rs us fv uv xs) (hC:dQ w [u] cv) (hb1:Below w.heap.size w w1) (hf:Rw lo w2 3 1 fv' (rs.length+1) (bO rs++[.int .i64 k])) (hg2:w1.grownBy w2 fv.ownBlock) (UM:fv'.ownBlock=fv.ownBlock\/fv'.ownBlock=some w1.heap.size)
  (hb3:Below w2.heap.size w2 w3) (hu:Rw lo w4 44 1 uv' (us.length+1) (xs++[cv])) (hg4:w3.grownBy w4 uv.ownBlock) (jE:uv'.ownBlock=uv.ownBlock\/uv'.ownBlock=some w3.heap.size) (hlo:lo<=w.heap.size):
  UR lo w4 (rs++[k]) (us++[u]) fv' uv' (xs++[cv])/\Below lo w w4:=by
 have hfl:=λq hq=>(aJ h.fr.1 q hq);have hul:=λq hq=>(aJ h.ur.1 q hq);have hB2:Below lo w w2:=(hb1.mono hlo).grown hg2 (Nat.le_trans hlo hb1.size) (λq hq=>(hfl q hq).1);have hB3:Below lo w w3:=hB2.trans (hb3.mono (Nat.le_trans hlo hB2.size));have hB4:Below lo w w4:=hB3.grown hg4 (Nat.le_trans hlo hB3.size) (λq hq=>(hul q hq).1);have hkp:∀q,q<w.heap.size->fv.ownBlock≠some q->uv.ownBlock≠some q->w4.heap[q]?=w.heap[q]?:=λq hq n1 n2=>by have h1:=hb1.size;have h2:=hg2.size;have h3:=hb3.size;rw [hg4.block q (by omega) (λe=>n2 e.symm),hb3.block q (by omega),hg2.block q (by omega) (λe=>n1 e.symm),hb1.block q hq]
 have hK:wL w w4:=nE λq hq hn=>hkp q hq (λe=>hn (h.fr.2 q e).not) (λe=>hn (h.ur.2 q e).not);have hne:∀q,fv'.ownBlock=some q->uv.ownBlock≠some q:=λq hq e=>by
  rcases UM with h1|h1
  · exact h.ne q (h1▸hq) e
  · rw [h1] at hq;have h2:=(hul q e).2;have h3:=hb1.size;rw [←Option.some.inj hq] at h2;omega
 have aQ4:=λq hq=>(aJ hf.1 q hq);refine ⟨⟨?_,?_,λi v hv=>?_,λq hq e=>?_⟩,hB4⟩
 · have h1:=hf.keep (w':=w4) (λq hq=>by
    have h3:=hb3.size;have h4:=(aQ4 q hq).2;rw [hg4.block q (by omega) (λe=>hne q hq e.symm),hb3.block q h4])
   have e:bO (rs++[k])=bO rs++[.int .i64 k]:=by simp [bO]
   rw [e,List.length_append];exact h1
 · rw [List.length_append];exact hu
 · by_cases hi:i<us.length
   · rw [List.getElem?_append_left hi] at hv;obtain ⟨cv',h1,h2⟩:=h.el i v hv;refine ⟨cv',?_,hK.cin h2⟩;rw [List.getElem?_append_left (by have:=h.ur.1.1;omega)];exact h1
   · have hi2:i=us.length:=by
      have:=(List.getElem?_eq_some_iff.1 hv).1;simp at this;omega
     subst hi2;rw [List.getElem?_append_right (Nat.le_refl _),Nat.sub_self] at hv;simp only [List.getElem?_cons_zero,Option.some.injEq] at hv;subst hv;refine ⟨cv,?_,hK.cin hC⟩;have hl:=h.ur.1.1;rw [List.getElem?_append_right (by omega),show us.length - xs.length=0 by omega];rfl
 · rcases jE with h1|h1
   · exact hne q hq (h1▸e)
   · rw [h1] at e;have h2:=(aQ4 q hq).2;have h3:=hb3.size;rw [←Option.some.inj e] at h2;omega
theorem aK5 {lo:Nat} {w w1 w2 w3:World} {rs:List Int} {us:List Lt} {fv uv:Value} {xs:List Value} (h:UR lo w rs us fv uv xs) (hb1:Below w.heap.size w w1) (hg2:w1.grownBy w2 fv.ownBlock) (hb3:Below w2.heap.size w2 w3):∀q,uv.ownBlock=some q->w3.heap[q]?=w.heap[q]?:=λq hq=>by have h0:=(aJ h.ur.1 q hq).2;have h1:=hb1.size;have h2:=hg2.size;rw [hb3.block q (by omega),hg2.block q (by omega) (λe=>h.ne q e.symm hq),hb1.block q h0]
theorem aPO {sts:List St} {l:List Int}:∀u∈qE sts l,u.1=false:=λu hu=>by obtain ⟨k,_,h⟩:=List.mem_filterMap.1 hu;obtain ⟨h1,h2⟩:=vM h;rw [h1] at h2;simpa [nV] using h2
theorem SY {lo:Nat} (b:Nat) (p:Pf) (a1 a2 a3 a4:Value) (g:Int) (w:World) (h:PS lo w b p a1 a2 a3 a4) (hI:kY p) (hg:0<=g/\g<p.sts.length):
  Calls Tryz.prog 30 #[.pointer (some ⟨b,0,none⟩),.int .i64 g] w λe w'=>e= .returned (.tuple #[.int .i64 (xS p g).2.1,.bool (xS p g).2.2])/\∃z2,PS lo w' b (xS p g).1 a1 z2 a3 a4/\kX w (iU b a2 a3 a4) w' (iU b z2 a3 a4):=by
 obtain ⟨hgc,hwc⟩:=hI.r.rng hg;obtain ⟨⟨s1,s3,hs⟩,⟨t1,t3,ht⟩,⟨u1,u3,hu⟩,v1,v3,hv⟩:=h.slices;subst hs ht hu hv;obtain ⟨⟨Q1,Q2,Q3⟩,hQ⟩:∃Q,Q=xS p g:=⟨_,rfl⟩;rw [←hQ];have HQ:=aB hQ;have HP:=aB h;have HI:=aB hI;have Hgr:=aB hg;have F9:=aB hgc;have hak:p.act.length<=120:=by have h1:=hI.r.g.gs;have h2:=hI.r.g.gl;omega
 have Hus:=aB (wN hI.r);have Hsm:=aB (IK hI.r.s6 hgc (eP hwc));have Hs6:=aB hI.r.s6;clear h hI hg hgc hwc hQ;go_enter Tryz.func30,Tryz.ntmps30
 go_upto_region 3 with fail
 generalize hw1:w.alloc (.cells #[.int .i64 g] 3)=w1;have hb1:Below w.heap.size w w1:=by rw [←hw1];exact aD _ _
 have HU:Hid (UR w.heap.size w1 [g] [] (.slice (some ⟨w.heap.size,0,none⟩) 1 1) (.slice none 0 0) []):=by
  have hh:w1.heap[w.heap.size]?=some (.cells #[.int .i64 g] 3 (0,0)):=by rw [←hw1];exact heap_alloc_new w _
  refine ⟨⟨⟨rfl,.inr ⟨w.heap.size,1,_,rfl,Nat.le_refl _,hh,Nat.le_refl _,by decide,rfl,rfl⟩⟩,λq hq=>?_⟩,⟨World.ownsRow_nil _ _ _ _,λq hq=>by simp [Value.ownBlock] at hq⟩,λi u hu=>by simp at hu,λq _ e=>by simp [Value.ownBlock] at e⟩;have e:w.heap.size=q:=by simpa [Value.ownBlock] using hq
  subst e;exact ⟨_,_,hh,λu hu=>by simp at hu;subst hu;exact oM _ _⟩
 have HB1:=aB hb1;have HP1:=aB (HP.out.below hb1);clear hw1 hb1;obtain ⟨-,-,x2,-⟩:=HP1.out.bx
 go_wp2_with fail
 clear x2
 go_loopw [6,7,22] (λfv uv i wr=>∃(j:Nat) (xs:List Value),j<=p.act.length/\i= .int .i64 j/\UR w.heap.size wr (g::xI p.sts (p.act.take j)) (qE p.sts (p.act.take j)) fv uv xs/\Below w.heap.size w wr) (λ_ _ i _=>p.act.length - (intOf i).toNat)
 case atStart=>exact ⟨0,[],Nat.zero_le _,rfl,HU.out,HB1.out⟩
 case round=>
  clear HU HB1 HP1;obtain ⟨j,xs,hj,rfl,hUj,hBj⟩:=hrel;obtain ⟨rs,hrs⟩:∃r,r=g::xI p.sts (p.act.take j):=⟨_,rfl⟩;obtain ⟨us,mZ⟩:∃r,r=qE p.sts (p.act.take j):=⟨_,rfl⟩;rw [←hrs,←mZ] at hUj;have hlr:rs.length<=121:=by rw [hrs,List.length_cons];have:(xI p.sts (p.act.take j)).length<=(p.act.take j).length:=List.length_filter_le _ _;rw [List.length_take] at this;omega
  have hlu:us.length<=120:=by rw [mZ];exact Nat.le_trans aCE (by rw [List.length_take];omega)
  have NG:=aB hrs;have Hu0:=aB mZ;clear hrs mZ;have HUj:=aB hUj;have TN:=aB hBj;generalize wr=wa at*;have rE:=aB (HP.out.below hBj);obtain ⟨f1,f3,hfv⟩:=aR hUj.fr.1;obtain ⟨y1,y3,huv⟩:=aR hUj.ur.1;subst hfv huv;clear hUj hBj;by_cases hlt:j<p.act.length
  · have hlt':(j:Int)<(p.act.length:Int):=by omega
    obtain ⟨ua,uc,ub,uo,hue,ZG,hul,hum,huF⟩:=rE.out.pf.2.2.1;simp only [Value.slice.injEq,true_and] at hue;obtain ⟨aN5,aN4⟩:=hue;subst aN5 aN4;have ZW:=(ZG (by omega)).1;subst ZW;have q0:=huF j hlt;have hin:p.act.getD j 0∈p.act:=by rw [List.getD_eq_getElem?_getD,List.getElem?_eq_getElem hlt];simp
    have htk:p.act.take (j+1)=p.act.take j++[p.act.getD j 0]:=by rw [List.take_add_one,List.getElem?_eq_getElem hlt,List.getD_eq_getElem?_getD,List.getElem?_eq_getElem hlt];rfl
    obtain ⟨k,hk⟩:∃k,k=p.act.getD j 0:=⟨_,rfl⟩;rw [←hk] at q0 hin htk;have hkr:=HI.out.r.g.ga k hin;have QI:Hid (nV (bD p.sts k)=false->g::xI p.sts (p.act.take (j+1))=rs):=λh=>by rw [htk,VW,h,NG.out];simp
    have Y9:Hid (nV (bD p.sts k)=true->g::xI p.sts (p.act.take (j+1))=rs++[k]):=λh=>by rw [htk,VW,h,NG.out];simp
    have Hv1:Hid (unL (bD p.sts k)=none->qE p.sts (p.act.take (j+1))=us):=λh=>by rw [htk,U5,h,Hu0.out];simp
    have Hv2:Hid (∀u,unL (bD p.sts k)=some u->qE p.sts (p.act.take (j+1))=us++[u]):=λu h=>by rw [htk,U5,h,Hu0.out]
    have dI:=aB (kK b p.sts _ k wa rE.out.bx.2.1 rE.out.pf.2.1 hkr);obtain ⟨D,hD⟩:∃D,D=bD p.sts k:=⟨_,rfl⟩;rw [←hD] at dI QI Y9 Hv1 Hv2;clear hk hD hin htk hkr ZG huF hul hum
    go_wp2_with fail
    refine dI.out.mono ?_;rintro e wx ⟨dv,rfl,hDv,hwx⟩;rw [hwx];clear hwx wx;have HDv:=aB hDv;obtain ⟨d1,d3,rfl⟩:=aK hDv;clear hDv dI q0;have NF:=aB (N8 D _ wa HDv.out);cases hun:nV D with
    |false=>
     rw [hun] at NF;have Hn1:Hid (unL D=none):=by
      rw [Hid];cases h:unL D with
      |none=>rfl
      |some u=>have:=(vM h).2;rw [hun] at this;cases this
     have HUn:Hid (UR w.heap.size wa (g::xI p.sts (p.act.take (j+1))) (qE p.sts (p.act.take (j+1))) (.slice f1 rs.length f3) (.slice y1 us.length y3) xs):=by rw [Hid,QI.out hun,Hv1.out Hn1.out];exact HUj.out
     clear hun
     go_wp2_with fail
     refine NF.out.mono ?_;rintro e wx ⟨rfl,hwx⟩;rw [hwx];clear hwx wx
     go_wp2_with fail
     go_roundw
     case rel=>exact ⟨j+1,xs,by omega,by go_num,HUn.out,TN.out⟩
     case measure=>simp [intOf];omega
    |true=>
     rw [hun] at NF;obtain ⟨u,hu⟩:∃u,unL D=some u:=by
      cases h:unL D with
      |none=>have:=aH7 h;rw [hun] at this;cases this
      |some u=>exact ⟨u,rfl⟩
     have hDu:=(vM hu).1;have aUN:=aB (Y9.out hun);have Hu2:=aB (Hv2.out u hu);have HCu:Hid (dQ wa [u] (.slice d1 D.length d3)):=by have h:=HDv.out;rw [Hid];rw [hDu] at h ⊢;exact h
     clear hun hu hDu QI Y9 Hv1 Hv2
     go_wp2_with fail
     refine NF.out.mono ?_;rintro e wx ⟨rfl,hwx⟩;rw [hwx];clear hwx wx NF;have hsz:=TN.out.size;have QI:Hid (Rw w.heap.size (wa.alloc (.cells #[.int .i64 k] 3)) 3 1 (.slice f1 rs.length f3) rs.length (bO rs)):=HUj.out.fr.below (aD _ _);have zR:Hid ((wa.alloc (.cells #[.int .i64 k] 3)).cell? ((⟨wa.heap.size,0,none⟩:Addr).add 0)=some (.int .i64 k)):=by show _=_;simp [Addr.add]
     have bZ:Below wa.heap.size wa (wa.alloc (.cells #[.int .i64 k] 3)):=aD _ _;have hl8:(rs.length+1)*8<=140737488355328:=by omega
     have aOG:(us.length+1)*24<=140737488355328:=by omega
     have xV:=aB bZ;have hsa:w.heap.size<=(wa.alloc (.cells #[.int .i64 k] 3)).heap.size:=Nat.le_trans hsz bZ.size;clear bZ
     go_upto_region 8 with fail
     go_wp2_with (at_builtin;go_loud (first
      |(refine uJ rfl (.tmp 31) (.tmp 33) rfl w.heap.size (.slice f1 rs.length f3) rs.length (bO rs) rfl QI.out k ⟨wa.heap.size,0,none⟩ rfl zR.out hl8 hsa ?_;intro fv2 w2 hf2 hg2 UM;have Hf2:=aB hf2;have Hg2:=aB hg2;have aKY:=aB UM;have aQK:∀q,(Value.slice y1 us.length y3).ownBlock=some q->(w2.alloc (.cells #[.slice d1 D.length d3] 44)).heap[q]?=wa.heap[q]?:=(λq hq=>aK5 HUj.out xV.out hg2 (aD w2 _) q hq);have Y9:=aB (HUj.out.ur.keep aQK);have cZ:Hid ((w2.alloc (.cells #[.slice d1 D.length d3] 44)).cell? ((⟨w2.heap.size,0,none⟩:Addr).add 0)=some (.slice d1 D.length d3)):=(by show _=_;simp [Addr.add]);have hsb:w.heap.size<=(w2.alloc (.cells #[.slice d1 D.length d3] 44)).heap.size:=Nat.le_trans hsa (Nat.le_trans hg2.size (aD _ _).size);clear aQK hf2 hg2 UM)
      |(refine uK rfl (.tmp 35) (.tmp 37) rfl w.heap.size (.slice y1 us.length y3) us.length xs rfl Y9.out d1 D.length d3 ⟨w2.heap.size,0,none⟩ rfl cZ.out aOG hsb ?_;intro uv4 w4 hu4 hg4 jE;have HU4:=aB (HUj.out.push HCu.out xV.out Hf2.out Hg2.out aKY.out (aD w2 _) hu4 hg4 jE hsz);clear hu4 hg4 jE)))
     have HUn:Hid (UR w.heap.size w4 (g::xI p.sts (p.act.take (j+1))) (qE p.sts (p.act.take (j+1))) fv2 uv4 (xs++[.slice d1 D.length d3])):=by rw [Hid,aUN.out,Hu2.out];exact HU4.out.1
     have HBn:Hid (Below w.heap.size w w4):=TN.out.trans HU4.out.2;clear Hf2 Hg2 aKY Y9 cZ HU4;go_roundw
     case rel=>exact ⟨j+1,_,by omega,by go_num,HUn.out,HBn.out⟩
     case measure=>simp [intOf];omega
  · have hjl:j=p.act.length:=by omega
    have hrs:rs=g::xI p.sts p.act:=by rw [NG.out,hjl,List.take_length]
    have mZ:us=qE p.sts p.act:=by rw [Hu0.out,hjl,List.take_length]
    clear NG Hu0;have HUe:=aB HUj.out;clear HUj hjl;obtain ⟨c,hc⟩:∃c,c=bD p.sts g:=⟨_,rfl⟩
    have HQ':Hid ((Q1,Q2,Q3)=if (rF (qE p.sts p.act) c).1≠0 then ({p with lst:=p.lst||decide ((rF (qE p.sts p.act) c).1=4)},g,false)
      else if dH (rF (qE p.sts p.act) c).2 c=true then (p,g,true)
      else ((bI p 5 (g::xI p.sts p.act) (rF (qE p.sts p.act) c).2).1,((bI p 5 (g::xI p.sts p.act) (rF (qE p.sts p.act) c).2).1.sts.length:Int) - 1,(bI p 5 (g::xI p.sts p.act) (rF (qE p.sts p.act) c).2).2)):=by
     rw [Hid,hc];exact HQ.out
    have Hul:Hid ((qE p.sts p.act).length<=120):=Nat.le_trans aCE hak;have Hup:Hid (∀u∈qE p.sts p.act,u.1=false):=aPO;rw [←hc] at F9 Hsm;have dI:=aB (kK b p.sts _ g wa rE.out.bx.2.1 rE.out.pf.2.1 Hgr.out);rw [←hc] at dI;rw [←hrs,←mZ] at HQ';rw [←mZ] at Hul Hup Hus;have MG:=aB hc;have hlt':¬(j:Int)<(p.act.length:Int):=by omega
    clear hc hrs mZ HQ hlr hlu
    go_upto_region 10 with fail
    go_wp2_with fail
    refine dI.out.mono ?_;rintro e wx ⟨cv,rfl,hCv,hwx⟩;rw [hwx];clear hwx wx;have HCv:=aB hCv;obtain ⟨c1,c3,rfl⟩:=aK hCv;have Hrw:=aB (S9 Hs6.out Hus.out Hul.out Hup.out c _ _ wa hCv HUe.out.csin Hsm.out F9.out.1);obtain ⟨⟨er,rc⟩,hrw⟩:∃q,q=rF us c:=⟨_,rfl⟩;unfold aAI at Hrw;rw [←hrw] at Hrw HQ';simp only at HQ';have Hrq:=aB hrw;clear hCv dI hrw
    go_wp2_with fail
    refine Hrw.out.mono ?_;rintro e w5 ⟨rv,rfl,hRv,hb5⟩;have HRv:=aB hRv;obtain ⟨r1,r3,rfl⟩:=aK hRv;replace HCv:=aB (HCv.out.below hb5);replace HUe:=aB (HUe.out.below hb5);have HP5:=aB (rE.out.below hb5);have GA:=aB (aC TN.out hb5);have HM5:=aB (kX.of GA.out (iU b (.slice t1 p.sts.length t3) (.slice u1 p.act.length u3) (.slice v1 p.wai.length v3)));clear hRv hb5 Hrw rE TN;by_cases her:er=0
    case' neg=>
     have aTO:(er !=0)=true:=by simpa using her
     have e:Q1={p with lst:=p.lst||decide (er=4)}/\Q2=g/\Q3=false:=by have h:=HQ'.out;rw [if_pos her] at h;simpa using h
     obtain ⟨rfl,rfl,rfl⟩:=e;obtain ⟨x0,x1,x2,x3,x4,x5,xf⟩:=HP5.out.bx;have fz5:=xf 5;clear xf x0 x1 x2 x3 x4 her HQ' Hrq;cases hpl:p.lst with
     |true=>
      rw [hpl] at x5;have Hs:=aB (HP5.out.set5 true);have He:Hid ((p.lst||decide (er=4))=true):=by rw [Hid,hpl];rfl
      clear hpl
      go_wp2_with fail
      go_ret2;rw [He.out];exact ⟨rfl,_,Hs.out.1,HM5.out.trans Hs.out.2⟩
     |false=>
      rw [hpl] at x5;have Hs:=aB (HP5.out.set5 (er==4));have He:Hid ((p.lst||decide (er=4))=(er==4)):=by rw [Hid,hpl];rfl
      clear hpl
      go_wp2_with fail
      go_ret2;rw [He.out];exact ⟨rfl,_,Hs.out.1,HM5.out.trans Hs.out.2⟩
    case' pos=>
     subst her;have HQ2:Hid ((Q1,Q2,Q3)=if dH rc c=true then (p,g,true) else ((bI p 5 rs rc).1,((bI p 5 rs rc).1.sts.length:Int) - 1,(bI p 5 rs rc).2)):=by rw [Hid,HQ'.out,if_neg (by simp)]
     clear HQ';have aPE:=aB (kK b p.sts _ g w5 HP5.out.bx.2.1 HP5.out.pf.2.1 Hgr.out);rw [←MG.out] at aPE;obtain ⟨B,hB⟩:∃B,B=dH rc c:=⟨_,rfl⟩;rw [←hB] at HQ2;have HBs:=aB hB;clear hB
     go_wp2_with fail
     refine aPE.out.mono ?_;rintro e wx ⟨cv2,rfl,aOU,hwx⟩;rw [hwx];clear hwx wx;have ZM:=aB (EF rc c _ _ w5 HRv.out aOU);rw [←HBs.out] at ZM;obtain ⟨c4,c5,rfl⟩:=aK aOU;clear aOU aPE
     go_wp2_with fail
     refine ZM.out.mono ?_;rintro e w6 ⟨rfl,hb6⟩;replace HP5:=aB (HP5.out.below hb6);replace HM5:=aB (HM5.out.step hb6);replace HUe:=aB (HUe.out.below hb6);replace HRv:=aB (HRv.out.below hb6);replace GA:=aB (aC GA.out hb6);clear hb6 ZM;cases B with
     |true=>
      obtain ⟨rfl,rfl,rfl⟩:Q1=p/\Q2=g/\Q3=true:=by simpa using HQ2.out
      go_wp2_with fail
      go_ret2;exact ⟨rfl,_,HP5.out,HM5.out⟩
     |false=>
      obtain ⟨⟨P2,ok⟩,hS⟩:∃S,S=bI p 5 rs rc:=⟨_,rfl⟩;have UC:=aB (XN b p _ _ _ _ 5 rs _ rc _ w6 HP5.out (mP HUe.out.fr.1 rfl HP.out.el) HRv.out HI.out.r.g.gl);rw [←hS] at UC HQ2;simp only at HQ2 UC;obtain ⟨rfl,rfl,rfl⟩:Q1=P2/\Q2=(P2.sts.length:Int) - 1/\Q3=ok:=by simpa using HQ2.out
      have hPl:Q1.sts.length<=121:=by
       have h1:=HI.out.r.g.gl;rcases fM p 5 rs rc with ⟨_,e⟩|⟨_,e⟩
       · rw [←hS] at e;simp only [Prod.mk.injEq] at e;rw [e.1];show p.sts.length<=121;omega
       · rw [←hS] at e;simp only [Prod.mk.injEq] at e;rw [e.1];simp;omega
      clear hS HQ2 HBs
      go_wp2_with fail
      refine UC.out.mono ?_;rintro e w7 ⟨z2,rfl,hP7,hM7⟩;have HP7:=aB hP7;have HM7:=aB (HM5.out.trans hM7);obtain ⟨-,⟨t4,t5,rfl⟩,-,-⟩:=hP7.slices;obtain ⟨-,x1,-⟩:=hP7.bx;clear hP7 hM7 UC
      go_wp2_with fail
      go_ret2;exact ⟨rfl,_,HP7.out,HM7.out⟩
end
section
attribute [local go_sem ↓] Go.wp_at_zero Go.wp_at_succ
theorem sW {q b i j:Nat} (hq:q≠b):(⟨b,i,none⟩:Addr)≠⟨q,j,none⟩:=λe=>by simp only [Addr.mk.injEq] at e;exact hq e.1.symm
theorem F3 {w:World} (ty t:TypeId) (ht:Tryz.prog.underlying t=some (.slice 3)) (b:Nat) (hh:w.heap[b]?=some (.cells #[] 3 (0,0))) (ad:Addr) (c:Nat):
  (Builtin.append_ #[t,t] ty #[.slice (some ⟨b,0,none⟩) 0 0,.slice (some ad) 0 c]).run Tryz.prog w= .ok (.slice (some ⟨b,0,none⟩) 0 0) w:=by
 obtain ⟨i3,hi3,hy0,hy1,hy2⟩:=info_parts Tryz.info3;rw [run_append_room (P:=Tryz.prog) w t ty 3 i3 ht hi3 b 0 0 #[] hh ad 0 c [] (by simp) (λj u hj=>by simp at hj) (λu hu=>by simp at hu) (Nat.le_refl _) (by simp)];have e:w.setRow b #[]=w:=setRow_self w b #[] 3 (0,0) hh;simpa using e
theorem uI {w:World} {ops:Array Oper} {rest:List Oper} {o:Oper} {a:Act} {Q:Exit->Act->World->Prop} (hgd:o.guard=none) (s x:Operand) (t:TypeId) (ht:Tryz.prog.underlying t=some (.slice 3))
  (ho:o.op= .call {callee:= .builtin .append,args:=#[s,x],argTypes:=#[t,t]}) (base:Nat) (v:Value) (n:Nat) (xs:List Value) (hs:a.eval s=v) (hR:Rw base w 3 1 v n xs)
  (l:List Int) (ad:Addr) (c:Nat) (hx:a.eval x= .slice (some ad) l.length c) (hc:∀j,j<l.length->w.cell? (ad.add j)=some (.int .i64 (l.getD j 0))) (hlm:n+l.length<=maxLen) (hb:(n+l.length)*8<=140737488355328) (hl:0<l.length) (hbase:base<=w.heap.size)
  (h:∀v' w',Rw base w' 3 1 v' (n+l.length) (xs++bO l)->w.grownBy w' v.ownBlock->(v'.ownBlock=v.ownBlock\/v'.ownBlock=some w.heap.size)->wpList Tryz.prog ops Q rest (a.put o.dst v') w'):wpList Tryz.prog ops Q (o::rest) a w:=by
 obtain ⟨i3,hi3,hy0,hy1,hy2⟩:=info_parts Tryz.info3;obtain ⟨v',w',hr,h2,h3,h4,h5⟩:=lJ (P:=Tryz.prog) w t o.type base 3 i3 (.int .i64 0) 1 8 ht hi3 hy0 hy1 hy2 rfl (by decide) (λu hu=>by
  simp [Value.cells] at hu;subst hu;exact oM _ _) v n xs hR.1 hR.2 ad l.length c (bO l) (by simp [bO]) (λj u hj=>by
  have hjl:j<l.length:=by have:=(List.getElem?_eq_some_iff.1 hj).1;simpa [bO] using this
  rw [hc j hjl];simp only [bO,List.getElem?_map,List.getElem?_eq_getElem hjl,Option.map_some,Option.some.injEq] at hj;rw [←hj,List.getD_eq_getElem?_getD,List.getElem?_eq_getElem hjl];rfl) (ints_oneCell _ _) aC5 hl hlm hb hbase
 refine wpList_plain hgd λ_ hK=>?_;unfold Oper.wp execOp;simp only [ho,resolve,invoke,builtin,Sem.run_bind,Sem.run_pure,Result.andThen_ok,List.map_toArray,List.map_cons,List.map_nil,hs,hx,hr];exact hK _ _ (h v' w' ⟨h2,h5⟩ h3 h4)
theorem FY (p:List Int) (pv:Value) (w:World) (hN:iK w p pv) (hb:p.length*8<=140737488355328):
  Calls Tryz.prog 22 #[pv] w λe w'=>∃v',e= .returned v'/\Rw w.heap.size w' 3 1 v' p.length (bO p)/\Below w.heap.size w w':=by
 obtain ⟨pa,pc,pb,po,rfl,Y7,aGR,UH,QB⟩:=hN;have hnil:=λ(w:World) (a:Option Addr) (n c:Nat)=>Lib.run_eql_slice_nil (P:=Tryz.prog) w 23 3 a n c 0 0 Tryz.underlying23;cases pa with
 |none=>
  have h0:p.length=0:=by
   rcases Nat.eq_zero_or_pos p.length with h|h
   · exact h
   · have:=Y7 h;cases this
  go_enter Tryz.func22,Tryz.ntmps22
  go_wp2_with fail
  go_ret;exact ⟨_,rfl,⟨⟨by simp,.inl ⟨rfl,h0⟩⟩,λg hg=>by simp [Value.ownBlock] at hg⟩,Below.refl _ _⟩
 |some ad=>
  have hh:(w.alloc (.cells #[] 3)).heap[w.heap.size]?=some (.cells #[] 3 (0,0)):=heap_alloc_new w _;have oL:Hid (Rw w.heap.size (w.alloc (.cells #[] 3)) 3 1 (.slice (some ⟨w.heap.size,0,none⟩) 0 0) 0 []):=⟨J2 hh (Nat.le_refl _),λg hg=>by
   have e:w.heap.size=g:=by simpa [Value.ownBlock] using hg
   subst e;exact ⟨_,_,hh,λu hu=>by simp at hu⟩⟩
  cases p with
  |nil=>
   have hap:=λ(ty:TypeId)=>F3 ty 23 Tryz.underlying23 w.heap.size hh ad pc;clear QB Y7 hh;go_enter Tryz.func22,Tryz.ntmps22
   go_wp2_with fail
   go_ret;exact ⟨_,rfl,oL.out,aD _ _⟩
  |cons x r=>
   have ha:ad=⟨pb,po,none⟩:=by have:=Y7 (by simp);simpa using this
   subst ha;have I1:Hid (∀j,j<(x::r).length->(w.alloc (.cells #[] 3)).cell? ((⟨pb,po,none⟩:Addr).add j)=some (.int .i64 ((x::r).getD j 0))):=λj hj=>by rw [add_plain];exact aA (aD _ _) _ _ (QB j hj)
   have hlen:0+(x::r).length<=maxLen:=by omega
   have hbb:(0+(x::r).length)*8<=140737488355328:=by omega
   have hq0:0<(x::r).length:=by simp
   clear QB Y7 hh;generalize x::r=q at*;go_enter Tryz.func22,Tryz.ntmps22
   go_wp2_with (at_builtin;go_loud (refine uI rfl (.tmp 5) (.tmp 6) 23 Tryz.underlying23 rfl w.heap.size (.slice (some ⟨w.heap.size,0,none⟩) 0 0) 0 [] rfl oL.out q ⟨pb,po,none⟩ pc rfl I1.out hlen hbb hq0 (by simp) ?_;intro v' w' hown hg hat))
   go_ret;refine ⟨v',rfl,by simpa using hown,?_⟩;exact (aD w _).grown hg (by simp) (λk hk=>by simp [Value.ownBlock] at hk;omega)
theorem zH (p:List Int) (pv:Value) (w:World) (hN:iK w p pv) (hb:p.length*8<=140737488355328):
  Calls Tryz.prog 42 #[pv] w λe w'=>∃v',e= .returned v'/\Rw w.heap.size w' 3 1 v' p.length (bO p)/\Below w.heap.size w w':=by
 obtain ⟨pa,pc,pb,po,rfl,Y7,aGR,UH,QB⟩:=hN;have hnil:=λ(w:World) (a:Option Addr) (n c:Nat)=>Lib.run_eql_slice_nil (P:=Tryz.prog) w 22 3 a n c 0 0 Tryz.underlying22;cases pa with
 |none=>
  have h0:p.length=0:=by
   rcases Nat.eq_zero_or_pos p.length with h|h
   · exact h
   · have:=Y7 h;cases this
  go_enter Tryz.func42,Tryz.ntmps42
  go_wp2_with fail
  go_ret;exact ⟨_,rfl,⟨⟨by simp,.inl ⟨rfl,h0⟩⟩,λg hg=>by simp [Value.ownBlock] at hg⟩,Below.refl _ _⟩
 |some ad=>
  have hh:(w.alloc (.cells #[] 3)).heap[w.heap.size]?=some (.cells #[] 3 (0,0)):=heap_alloc_new w _;have oL:Hid (Rw w.heap.size (w.alloc (.cells #[] 3)) 3 1 (.slice (some ⟨w.heap.size,0,none⟩) 0 0) 0 []):=⟨J2 hh (Nat.le_refl _),λg hg=>by
   have e:w.heap.size=g:=by simpa [Value.ownBlock] using hg
   subst e;exact ⟨_,_,hh,λu hu=>by simp at hu⟩⟩
  cases p with
  |nil=>
   have hap:=λ(ty:TypeId)=>F3 ty 22 Tryz.underlying22 w.heap.size hh ad pc;clear QB Y7 hh;go_enter Tryz.func42,Tryz.ntmps42
   go_wp2_with fail
   go_ret;exact ⟨_,rfl,oL.out,aD _ _⟩
  |cons x r=>
   have ha:ad=⟨pb,po,none⟩:=by have:=Y7 (by simp);simpa using this
   subst ha;have I1:Hid (∀j,j<(x::r).length->(w.alloc (.cells #[] 3)).cell? ((⟨pb,po,none⟩:Addr).add j)=some (.int .i64 ((x::r).getD j 0))):=λj hj=>by rw [add_plain];exact aA (aD _ _) _ _ (QB j hj)
   have hlen:0+(x::r).length<=maxLen:=by omega
   have hbb:(0+(x::r).length)*8<=140737488355328:=by omega
   have hq0:0<(x::r).length:=by simp
   clear QB Y7 hh;generalize x::r=q at*;go_enter Tryz.func42,Tryz.ntmps42
   go_wp2_with (at_builtin;go_loud (refine uI rfl (.tmp 5) (.tmp 6) 22 Tryz.underlying22 rfl w.heap.size (.slice (some ⟨w.heap.size,0,none⟩) 0 0) 0 [] rfl oL.out q ⟨pb,po,none⟩ pc rfl I1.out hlen hbb hq0 (by simp) ?_;intro v' w' hown hg hat))
   go_ret;refine ⟨v',rfl,by simpa using hown,?_⟩;exact (aD w _).grown hg (by simp) (λk hk=>by simp [Value.ownBlock] at hk;omega)
structure MkS (W1:World) (g rb:Nat) (sts:List St) (j:Nat) (w:World) (xs:List Value):Prop where
 hb:Below g W1 w
 lt:rb<g/\g<w.heap.size
 row:∃cur,w.heap[g]?=some (.cells cur 46 (0,0))/\cur.size=sts.length*3/\cur.toList.take (j*3)=xs/\∀u∈cur.toList,nbV u
 sv:xL (λq=>q<=g) w (sts.take j) xs
theorem aMF {z:Array Value} (h:∀u∈z.toList,nbV u) (h0:0<z.size) {n:Nat}:∀u∈(madeCells z n).toList,nbV u:=λu hu=>by simp only [madeCells,Array.toList_map,List.mem_map] at hu;obtain ⟨i,_,rfl⟩:=hu;have hl:i % z.size<z.size:=Nat.mod_lt _ h0;refine h _ ?_;rw [getElem!_pos z _ hl];simp
theorem aEM {cur:List Value} {k:Nat} {x y z:Value} (h:k+3<=cur.length):(((cur.set k x).set (k+1) y).set (k+2) z).take (k+3)=cur.take k++[x,y,z]:=by
 apply List.ext_getElem?;intro i;rw [List.getElem?_append];simp only [List.getElem?_take,List.getElem?_set,List.length_take,List.length_set];rw [Nat.min_eq_left (by omega)];by_cases h1:i<k
 · rw [if_pos (by omega),if_neg (by omega),if_neg (by omega),if_neg (by omega),if_pos h1,if_pos h1]
 · rw [if_neg h1];by_cases h2:i<k+3
   · rw [if_pos h2];rcases (by omega:i=k\/i=k+1\/i=k+2) with rfl|rfl|rfl
     · rw [if_neg (by omega),if_neg (by omega),if_pos rfl,if_pos (by omega),Nat.sub_self];rfl
     · rw [if_neg (by omega),if_pos rfl,if_pos (by omega),show k+1 - k=1 by omega];rfl
     · rw [if_pos rfl,if_pos (by omega),show k+2 - k=2 by omega];rfl
   · rw [if_neg h2];symm;apply List.getElem?_eq_none;simp;omega
theorem MkS.step {W1 w wa:World} {g rb:Nat} {sts:List St} {j:Nat} {xs:List Value} {x:St} {fv cv:Value} (h:MkS W1 g rb sts j w xs) (hx:sts[j]?=some x) (hb:Below w.heap.size w wa) (hf:iA (λq=>q<=g) wa x.2.1 fv) (hc:dQ wa x.2.2 cv):
  MkS W1 g rb sts (j+1) (((wa.setCell ⟨g,j*3,none⟩ (.int .i64 x.1)).setCell ⟨g,j*3+1,none⟩ fv).setCell ⟨g,j*3+2,none⟩ cv) (xs++[.int .i64 x.1,fv,cv]):=by
 obtain ⟨h1,⟨h2,h3⟩,⟨cur,r1,r2,r3,r4⟩,h4⟩:=h;have hj:j<sts.length:=(List.getElem?_eq_some_iff.1 hx).1;have hsz:=hb.size;have ra:wa.heap[g]?=some (.cells cur 46 (0,0)):=(hb.block g h3).trans r1;have hst:∀q,q≠g->(((wa.setCell ⟨g,j*3,none⟩ (.int .i64 x.1)).setCell ⟨g,j*3+1,none⟩ fv).setCell ⟨g,j*3+2,none⟩ cv).heap[q]?=wa.heap[q]?:=λq e=>by rw [Below.heap_setCell _ _ _ _ e,Below.heap_setCell _ _ _ _ e,Below.heap_setCell _ _ _ _ e]
 have rn:=heap_setCell_same _ g (j*3+2) _ _ cv (heap_setCell_same _ g (j*3+1) _ _ fv (heap_setCell_same wa g (j*3) cur _ (.int .i64 x.1) ra));have hB:Below g W1 (((wa.setCell ⟨g,j*3,none⟩ (.int .i64 x.1)).setCell ⟨g,j*3+1,none⟩ fv).setCell ⟨g,j*3+2,none⟩ cv):=(((h1.trans (hb.mono (Nat.le_of_lt h3))).setCell (Nat.le_refl _) _).setCell (Nat.le_refl _) _).setCell (Nat.le_refl _) _;have hm:kX wa (λq=>q<=g) (((wa.setCell ⟨g,j*3,none⟩ (.int .i64 x.1)).setCell ⟨g,j*3+1,none⟩ fv).setCell ⟨g,j*3+2,none⟩ cv) (λq=>q<=g):=⟨rfl,rfl,rfl,by simp [World.setCell],λk hk hn=>hst k (λe=>hn (Nat.le_of_eq e)),λ_ h=> .inl h⟩;have hN:QG wa g:=NB.not ⟨cur,_,ra,r4⟩;have hk:wL wa (((wa.setCell ⟨g,j*3,none⟩ (.int .i64 x.1)).setCell ⟨g,j*3+1,none⟩ fv).setCell ⟨g,j*3+2,none⟩ cv):=nE λq _ hq=>hst q (λe=>hq (by rw [e];exact hN));obtain ⟨f1,f3,hfv⟩:=hf.slice;obtain ⟨c1,c3,hcv⟩:=aK hc
 refine ⟨hB,⟨h2,by have:g<wa.heap.size:=by omega
                   simpa [World.setCell] using this⟩,⟨_,rn,by simp [r2],?_,λu hu=>?_⟩,?_⟩
 · simp only [Array.toList_setIfInBounds];rw [Nat.add_mul,Nat.one_mul,aEM (by rw [Array.length_toList,r2];omega),r3]
 · simp only [Array.toList_setIfInBounds] at hu;rcases List.mem_or_eq_of_mem_set hu with hu|rfl
   · rcases List.mem_or_eq_of_mem_set hu with hu|rfl
     · rcases List.mem_or_eq_of_mem_set hu with hu|rfl
       · exact r4 u hu
       · exact oM _ _
     · rw [hfv];exact FD _ _ _
   · rw [hcv];exact FD _ _ _
 · rw [List.take_add_one,hx];exact xL.app (r:=[x]) ⟨fv,cv,[],rfl,hf.mv hm,hk.cin hc,rfl⟩ ((h4.below hb).mv hm hk)
theorem aAE {w:World} {b o q i:Nat} {x0 x1 x2 v:Value} (hq:q≠b) (h:w.cell? ⟨q,i,none⟩=some v):(((w.setCell ⟨b,o,none⟩ x0).setCell ⟨b,o+1,none⟩ x1).setCell ⟨b,o+2,none⟩ x2).cell? ⟨q,i,none⟩=some v:=
 bJ (bJ (bJ h (sW hq)) (sW hq)) (sW hq)
def E3 (a2 a3 a4:Value) (q:Nat):Prop:=a2.ownBlock=some q\/a3.ownBlock=some q\/a4.ownBlock=some q
structure aG2 (lo:Nat) (w:World) (p:Pf) (a1 a2 a3 a4:Value):Prop where
 sg:iA (λq=>E3 a2 a3 a4 q\/q<lo) w p.sig a1
 st:∃xs,Rw lo w 46 3 a2 p.sts.length xs/\xL (λq=>E3 a2 a3 a4 q\/q<lo) w p.sts xs
 ac:Rw lo w 3 1 a3 p.act.length (bO p.act)
 wa:Rw lo w 3 1 a4 p.wai.length (bO p.wai)
 d23:∀g,a2.ownBlock=some g->a3.ownBlock≠some g
 d24:∀g,a2.ownBlock=some g->a4.ownBlock≠some g
 d34:∀g,a3.ownBlock=some g->a4.ownBlock≠some g
theorem aG2.box {lo:Nat} {w:World} {p:Pf} {a1 a2 a3 a4:Value} {t:TypeId} (h:aG2 lo w p a1 a2 a3 a4) (hlo:lo<=w.heap.size):PS lo (w.alloc (.cells #[a1,a2,a3,a4,.int .i64 p.fnd,.bool p.lst] t)) w.heap.size p a1 a2 a3 a4:=by
 obtain ⟨xs,h1,h2⟩:=h.st;have hb:=aD w (.cells #[a1,a2,a3,a4,.int .i64 p.fnd,.bool p.lst] t);have hm:kX w (λq=>E3 a2 a3 a4 q\/q<lo) (w.alloc (.cells #[a1,a2,a3,a4,.int .i64 p.fnd,.bool p.lst] t)) (EL lo w.heap.size a2 a3 a4):=⟨hb.os,hb.tape,hb.output,hb.size,λk hk _=>hb.block k hk,λq hq=>by
  rcases hq with (e|e)|e
  · exact .inr (by omega)
  · exact .inl (.inl e)
  · exact .inl (.inr e)⟩
 have hk:wL w (w.alloc (.cells #[a1,a2,a3,a4,.int .i64 p.fnd,.bool p.lst] t)):=nE λq hq _=>hb.block q hq;exact ⟨B6.new _ _ _ _ _ _ _ _,N6.at rfl,hlo,h.sg.mv hm,⟨xs,h1.below hb,h2.mv hm hk⟩,h.ac.below hb,h.wa.below hb,λe=>Nat.lt_irrefl _ (aJ h1.1 _ e).2,λe=>Nat.lt_irrefl _ (aJ h.ac.1 _ e).2,λe=>Nat.lt_irrefl _ (aJ h.wa.1 _ e).2,h.d23,h.d24,h.d34⟩
theorem DJ {w:World} {b q i:Nat} {x0 x1 x2 x3 x4 x5 v:Value} (hq:q≠b) (h:w.cell? ⟨q,i,none⟩=some v):((((((w.setCell ⟨b,0,none⟩ x0).setCell ⟨b,1,none⟩ x1).setCell ⟨b,2,none⟩ x2).setCell ⟨b,3,none⟩ x3).setCell ⟨b,4,none⟩ x4).setCell ⟨b,5,none⟩ x5).cell? ⟨q,i,none⟩=some v:=
 bJ (bJ (bJ (bJ (bJ (bJ h (sW hq)) (sW hq)) (sW hq)) (sW hq)) (sW hq)) (sW hq)
theorem Rw.lower {lo lo' t k n:Nat} {w:World} {v:Value} {xs:List Value} (h:Rw lo' w t k v n xs) (hl:lo<=lo'):Rw lo w t k v n xs:=⟨⟨h.1.1,by
 rcases h.1.2 with e|⟨g,bW,cur,h1,h2,h3⟩
 · exact .inl e
 · exact .inr ⟨g,bW,cur,h1,Nat.le_trans hl h2,h3⟩⟩,h.2⟩
theorem aI8 {w w2 wa wc wS wU wV:World} {sg:List Int} {sts:List St} {act wai:List Int} {fnd:Int} {lst:Bool} {xs:List Value} {v1 v3 v4:Value} (hM:MkS w2 w2.heap.size (w.heap.size+1) sts sts.length wa xs) (hB:Below w.heap.size w wa) (hs2:w2.heap.size=w.heap.size+2) (hl:sts.length<=maxLen) (hr:B6 wa (w.heap.size+1) (.slice none 0 0) (.slice none 0 0) (.slice none 0 0) (.slice none 0 0) (.int .i64 0) (.bool false)) (hn:N6 wa (w.heap.size+1)) (c1:Below wa.heap.size wa wc)
  (h1:Rw wc.heap.size wS 3 1 v1 sg.length (bO sg)) (b1:Below wc.heap.size wc wS) (h3:Rw wS.heap.size wU 3 1 v3 act.length (bO act)) (b3:Below wS.heap.size wS wU) (h4:Rw wU.heap.size wV 3 1 v4 wai.length (bO wai)) (b4:Below wU.heap.size wU wV):
  aG2 w.heap.size (set6 wV (w.heap.size+1) v1 (.slice (some ⟨w2.heap.size,0,none⟩) sts.length sts.length) v3 v4 (.int .i64 fnd) (.bool lst)) ⟨sg,sts,act,wai,fnd,lst⟩ v1 (.slice (some ⟨w2.heap.size,0,none⟩) sts.length sts.length) v3 v4/\Below w.heap.size w (set6 wV (w.heap.size+1) v1 (.slice (some ⟨w2.heap.size,0,none⟩) sts.length sts.length) v3 v4 (.int .i64 fnd) (.bool lst)):=by
 obtain ⟨m1,⟨m2,m3⟩,⟨cur,r1,r2,r3,r4⟩,m5⟩:=hM;rw [List.take_length] at m5;have z0:=c1.size;have z1:=b1.size;have z3:=b3.size;have z4:=b4.size;have bV:Below wa.heap.size wa wV:=aC (aC (aC c1 b1) b3) b4;have bSV:Below wS.heap.size wS wV:=aC b3 b4;obtain ⟨wF,hwF⟩:∃wF,wF=set6 wV (w.heap.size+1) v1 (.slice (some ⟨w2.heap.size,0,none⟩) sts.length sts.length) v3 v4 (.int .i64 fnd) (.bool lst):=⟨_,rfl⟩;rw [←hwF];have hst:∀q,q≠w.heap.size+1->wF.heap[q]?=wV.heap[q]?:=λq e=>by rw [hwF];exact sD e
 have g1:=λq hq=>aJ h1.1 q hq;have g3:=λq hq=>aJ h3.1 q hq;have g4:=λq hq=>aJ h4.1 q hq;have hBF:Below w.heap.size w wF:=by rw [hwF];exact eY (hB.trans (bV.mono (by omega))) (Nat.le_succ _)
 have hNr:QG wV (w.heap.size+1):=aGM (hr.below bV) (hn.below hr.lt bV);have hk:wL wV wF:=nE λq _ hq=>hst q (λe=>hq (by rw [e];exact hNr));have hb6:Below (w.heap.size+1) wV wF:=by rw [hwF];exact eY (Below.refl _ _) (Nat.le_refl _)
 have hm:kX wV (λq=>q<=w2.heap.size) wF (λq=>q<=w2.heap.size):=⟨hb6.os,hb6.tape,hb6.output,hb6.size,λk _ hn2=>hst k (λe=>hn2 (by omega)),λ_ h=> .inl h⟩;have hE:∀q,(E3 (.slice (some ⟨w2.heap.size,0,none⟩) sts.length sts.length) v3 v4 q\/q<w.heap.size)->q<=w2.heap.size\/wS.heap.size<=q:=λq hq=>by
  rcases hq with (e|e|e)|e
  · left;have:w2.heap.size=q:=by simpa [Value.ownBlock] using e
    omega
  · exact .inr (g3 q e).1
  · exact .inr (Nat.le_trans z3 (g4 q e).1)
  · left;omega
 refine ⟨⟨?_,⟨xs,⟨⟨?_,.inr ⟨w2.heap.size,sts.length,cur,rfl,by omega,?_,Nat.le_refl _,hl,r2,r3⟩⟩,λq hq=>?_⟩,?_⟩,?_,?_,?_,?_,?_⟩,hBF⟩
 · have h:=mP (E:=λq=>q<=w2.heap.size) h1.1 rfl (λq hq=>by
    have:q<=w2.heap.size:=hq;omega)
   have h2:=h.old.below bSV;exact (h2.mv (w':=wF) (E':=λq=>q<=w2.heap.size\/wS.heap.size<=q) ⟨hm.os,hm.tape,hm.output,hm.size,λk hk2 hn2=>hm.block k hk2 (λe=>hn2 (.inl e)),λ_ h=> .inl h⟩).mono hE
 · have h9:cur.toList.length=sts.length*3:=by rw [Array.length_toList,r2]
   rw [←r3,List.length_take,h9,Nat.min_self]
 · rw [hst _ (by omega),bV.block _ m3];exact r1
 · have e:w2.heap.size=q:=by simpa [Value.ownBlock] using hq
   subst e;exact ⟨cur,_,by rw [hst _ (by omega),bV.block _ m3];exact r1,r4⟩
 · have hmv:kX wa (λq=>q<=w2.heap.size) wF (λq=>E3 (.slice (some ⟨w2.heap.size,0,none⟩) sts.length sts.length) v3 v4 q\/q<w.heap.size):=by
    have h:=(kX.of bV (λq=>q<=w2.heap.size)).trans hm;exact ⟨h.os,h.tape,h.output,h.size,h.block,λq hq=>by
     rcases hE q hq with e|e
     · exact .inl e
     · exact .inr (by omega)⟩
   have hka:wL wa wF:=nE λq hq hn2=>by have h5:q≠w.heap.size+1:=λe=>hn2 (by rw [e];exact aGM hr hn);rw [hst q h5,bV.block q hq]
   exact m5.mv hmv hka
 · exact ((h3.below b4).lower (by omega)).keep (λq hq=>hst q (by have:=(g3 q hq).1;omega))
 · exact (h4.lower (by omega)).keep (λq hq=>hst q (by have:=(g4 q hq).1;omega))
 · intro q hq e;have e1:w2.heap.size=q:=by simpa [Value.ownBlock] using hq
   have:=(g3 q e).1;omega
 · intro q hq e;have e1:w2.heap.size=q:=by simpa [Value.ownBlock] using hq
   have:=(g4 q e).1;omega
 · intro q hq e;have h5:=(g3 q hq).2;have:=(g4 q e).1;omega
theorem V7 {E:Nat->Prop} (p:Pf) (a1 a2 a3 a4:Value) (w:World) (hP:oW E w p a1 a2 a3 a4) (hG:ND p) (h6:p.sig.length<=6) (hfl:∀x∈p.sts,x.2.1.length<=1000):
  Calls Tryz.prog 13 #[ZC p a1 a2 a3 a4] w λe w'=>∃z1 z2 z3 z4,e= .returned (ZC p z1 z2 z3 z4)/\aG2 w.heap.size w' p z1 z2 z3 z4/\Below w.heap.size w w':=by
 obtain ⟨sg,sts,act,wai,fnd,lst⟩:=p;have HP:=aB hP;obtain ⟨h1,h2,h3,h4⟩:=hP;obtain ⟨s1,s3,rfl⟩:=h1.slice;obtain ⟨ta,tc,tb,td,rfl,hta,htl,htm,htF⟩:=h2;obtain ⟨u1,u3,rfl⟩:=h3.slice;obtain ⟨v1,v3,rfl⟩:=h4.slice;have HtF:=aB htF;have F9:=aB hG.gg;have UB:=aB hfl;have hl:=hG.gl;have hl2:=hG.gs;simp only at hl hl2 h6;have GR:=aB (show act.length<=120/\wai.length<=120 by omega);unfold maxLen at htm;clear h1 h3 h4 hG hfl htF hl2;unfold ZC;simp only at*;obtain ⟨iS,hi,hz0,hz1,hz2⟩:=info_parts Tryz.info46;have hmk:=λw:World=>run_make (P:=Tryz.prog) w 25 46 iS _ Tryz.underlying25 hi hz0 .i64 .i64 (sts.length:Int) (sts.length:Int) (by omega) (by omega) (by rw [hz2];omega) (by omega);rw [hz1] at hmk;simp only [Int.toNat_natCast] at hmk;go_enter Tryz.func13,Tryz.ntmps13
 go_upto_region 1 with fail
 generalize hw1:w.alloc (.cells #[.slice s1 sg.length s3,.slice ta sts.length tc,.slice u1 act.length u3,.slice v1 wai.length v3,.int .i64 fnd,.bool lst] 27)=w1;generalize hw2:w1.alloc (.cells #[.slice none 0 0,.slice none 0 0,.slice none 0 0,.slice none 0 0,.int .i64 0,.bool false] 27)=w2;have hs1:w1.heap.size=w.heap.size+1:=by rw [←hw1];simp
 have hs2:w2.heap.size=w.heap.size+2:=by rw [←hw2];simp [hs1]
 have hb1:Below w.heap.size w w1:=by rw [←hw1];exact aD _ _
 have hb2:Below w1.heap.size w1 w2:=by rw [←hw2];exact aD _ _
 have Ha:Hid (B6 w2 w.heap.size (.slice s1 sg.length s3) (.slice ta sts.length tc) (.slice u1 act.length u3) (.slice v1 wai.length v3) (.int .i64 fnd) (.bool lst)):=B6.below (by rw [←hw1];exact B6.at rfl) hb2;have Hr:Hid (B6 w2 (w.heap.size+1) (.slice none 0 0) (.slice none 0 0) (.slice none 0 0) (.slice none 0 0) (.int .i64 0) (.bool false)):=by rw [←hw2];exact B6.at hs1.symm
 have Hm:Hid (N6 w2 (w.heap.size+1)):=by rw [←hw2];exact N6.at hs1.symm
 have HB2:Hid (Below w.heap.size w w2):=aC hb1 hb2;clear hw1 hw2 hb1 hb2 hs1;clear w1;obtain ⟨x0,x1,x2,x3,x4,x5,-⟩:=Ha.out;have hMK:Hid (MkS w2 w2.heap.size (w.heap.size+1) sts 0 (w2.alloc (.cells (madeCells #[.int .i64 0,.slice none 0 0,.slice none 0 0] (sts.length*3)) 46)) []):=by
  refine ⟨aD _ _,⟨by omega,by simp⟩,⟨_,heap_alloc_new w2 _,by simp [madeCells],rfl,aMF (λu hu=>?_) (by decide)⟩,rfl⟩;simp at hu;rcases hu with rfl|rfl
  · exact oM _ _
  · exact FD _ _ _
 have sO:=aB hs2;clear hs2
 go_upto_region 2 with fail
 generalize w2.alloc (.cells (madeCells #[.int .i64 0,.slice none 0 0,.slice none 0 0] (sts.length*3)) 46)=w3 at*;have HB3:Hid (Below w2.heap.size w2 w3):=hMK.out.hb;replace x0:=aA HB3.out _ _ x0;replace x1:=aA HB3.out _ _ x1;clear hmk hi hz0 hz1 hz2 x2 x3 x4 x5
 go_wp2_with fail
 clear x0 x1
 go_loopw [13] (λi wr=>∃(j:Nat) (xs:List Value),j<=sts.length/\i= .int .i64 j/\MkS w2 w2.heap.size (w.heap.size+1) sts j wr xs) (λi _=>sts.length - (intOf i).toNat)
 case atStart=>exact ⟨0,[],Nat.zero_le _,rfl,hMK.out⟩
 case round=>
  clear hMK HB3;obtain ⟨j,xs,hj,rfl,hM⟩:=hrel;have HM:=aB hM;have TN:=aB (HB2.out.trans (hM.hb.mono HB2.out.size));clear hM;generalize wr=wa at*;by_cases hlt:j<sts.length
  · have hlt':(j:Int)<(sts.length:Int):=by omega
    obtain ⟨⟨r,fr,c⟩,hx⟩:∃x,sts[j]?=some x:=⟨sts[j]'hlt,by simp⟩;obtain ⟨q0,⟨fv,q1,q2⟩,cv,q3,q4⟩:=HtF.out j _ hx;have aN9:=(hta (by omega)).1;subst aN9;replace q0:=aA TN.out _ _ q0;replace q1:=aA TN.out _ _ q1;replace q3:=aA TN.out _ _ q3;have HF:=aB (q2.nin.below TN.out);have HC:=aB (q4.below TN.out);obtain ⟨f1,f3,rfl⟩:=q2.slice;obtain ⟨c1,c3,rfl⟩:=aK q4;have Hx:=aB hx;have C9:=aB (F9.out _ (List.mem_of_getElem? hx));have aVU:fr.length<=1000:=UB.out _ (List.mem_of_getElem? hx);simp only at q0 q1 q3 HF HC C9;clear q2 q4 hx hta;have hg2:w2.heap.size<wa.heap.size:=HM.out.lt.2;have hj0:(0:Int)<=(j:Int):=by omega
    go_upto_region 5 with fail
    generalize hwb:wa.alloc (.cells #[.int .i64 r,.slice f1 fr.length f3,.slice c1 c.length c3] 46)=wb;have hbb:Below wa.heap.size wa wb:=by rw [←hwb];exact aD _ _
    have g0:wb.cell? ⟨wa.heap.size,0,none⟩=some (.int .i64 r):=by rw [←hwb];simp
    have g1:wb.cell? ⟨wa.heap.size,1,none⟩=some (.slice f1 fr.length f3):=by rw [←hwb];simp
    have g2:wb.cell? ⟨wa.heap.size,2,none⟩=some (.slice c1 c.length c3):=by rw [←hwb];simp
    have Hbb:=aB hbb;have aG:Below wb.heap.size wb wb.drew:=(Below.refl _ _).drew;have zR:=aB (λ(w':World) (hb:Below wb.heap.size wb w')=>zH fr _ w' (HF.out.below (aC hbb hb)) (by omega));have cZ:=aB (λ(w':World) (hb:Below wb.heap.size wb w')=>zJ [] (.slice none 0 0) c _ w' (dZ.nil w') (λp hp=>by simp at hp) (HC.out.below (aC hbb hb)) (λl hl=>⟨(C9.out.2 l hl).gl.nar,(C9.out.2 l hl).gr.nar⟩) (by have:=C9.out.1;omega));have hcm:c.map (bK (aH (aV [])))=c:=by rw [List.map_congr_left (g:=id) (λl hl=>?_),List.map_id];simp only [bK,JL (C9.out.2 l hl).gl.ok,JL (C9.out.2 l hl).gr.ok,id]
    rw [hcm] at cZ;have hne:wa.heap.size≠w2.heap.size:=by omega
    obtain ⟨cur,hr1,hr2,-,-⟩:=HM.out.row;have hcl:∀i,i<3->(∃u,wa.cell? ⟨w2.heap.size,j*3+i,none⟩=some u)/\wa.frozen? ⟨w2.heap.size,j*3+i,none⟩=false:=λi hi=>by
     have hl:j*3+i<cur.size:=by omega
     exact ⟨⟨cur[j*3+i],by simp [World.cell?,hr1,hl]⟩,frozen_of_row wa _ _ cur _ hr1⟩
    have dI:=aB hcl;clear hwb hcm hr1 hr2 hcl hbb q0 q1 q3
    go_region_held3 (λw'=>w'.cell? ⟨wa.heap.size,0,none⟩=some (.int .i64 r)/\w'.cell? ⟨wa.heap.size,1,none⟩=some (.slice f1 fr.length f3)/\w'.cell? ⟨wa.heap.size,2,none⟩=some (.slice c1 c.length c3))
     (first
       |(with_reducible exact ⟨aA aG _ _ g0,aA aG _ _ g1,aA aG _ _ g2⟩)
       |(with_reducible exact ⟨aAE hne (aA aG _ _ g0),aAE hne (aA aG _ _ g1),aAE hne (aA aG _ _ g2)⟩)
       |go_keep)
     (first
       |(go_at_call 42;refine (zR.out _ aG).mono ?_;rintro e wS ⟨fv2,rfl,QF,hbS⟩;have aNM:=aG;replace aG:=aC aG hbS;obtain ⟨y1,y3,rfl⟩:=aR QF.1;have IB:=aB (And.intro QF (And.intro hbS aNM));clear QF hbS aNM)
       |(go_at_call 43;with_reducible refine (cZ.out _ aG).mono ?_;rintro e wU ⟨gc,rfl,hO2,xZ⟩;have qJ:=aG;replace aG:=aC aG xZ;have GU:=aB (And.intro hO2 (And.intro xZ qJ));clear hO2 xZ qJ;have hall:=aC Hbb.out aG;obtain ⟨⟨t0,e0⟩,k0⟩:=dI.out 0 (by omega);obtain ⟨⟨t1,e1⟩,k1⟩:=dI.out 1 (by omega);obtain ⟨⟨t2,e2⟩,k2⟩:=dI.out 2 (by omega);replace e0:=aA hall _ _ e0;replace e1:=aA hall _ _ e1;replace e2:=aA hall _ _ e2;replace k0:=(hall.frozen (p:=⟨w2.heap.size,j*3+0,none⟩) hg2).trans k0;replace k1:=(hall.frozen (p:=⟨w2.heap.size,j*3+1,none⟩) hg2).trans k1;replace k2:=(hall.frozen (p:=⟨w2.heap.size,j*3+2,none⟩) hg2).trans k2;simp only [Nat.add_zero] at e0 k0))
    all_goals
     have fQ:Hid (MkS w2 w2.heap.size (w.heap.size+1) sts (j+1) (((wU.setCell ⟨w2.heap.size,j*3,none⟩ (.int .i64 r)).setCell ⟨w2.heap.size,j*3+1,none⟩ (.slice y1 fr.length y3)).setCell ⟨w2.heap.size,j*3+2,none⟩ (.slice (some ⟨gc,0,none⟩) c.length c.length)) (xs++[.int .i64 r,.slice y1 fr.length y3,.slice (some ⟨gc,0,none⟩) c.length c.length])):=by refine HM.out.step (x:=(r,fr,c)) Hx.out (aC Hbb.out aG) ?_ GU.out.1;have h1:=IB.out.2.2.size;have h2:=Hbb.out.size;have h3:=sO.out;exact (mP IB.out.1.1 rfl (λq hq=>by have h4:q<=w2.heap.size:=hq;omega)).below GU.out.2.1
     clear aG e0 e1 e2 k0 k1 k2 IB GU g0 g1 g2
     go_wp2_with fail
     go_roundw
     case rel=>exact ⟨j+1,_,by omega,by go_num,fQ.out⟩
     case measure=>simp [intOf];omega
  · have lK:j=sts.length:=by omega
    subst lK;have hlt':¬(sts.length:Int)<(sts.length:Int):=by omega
    have HPa:=aB (HP.out.below TN.out);have Haj:=aB (Ha.out.under HM.out.hb (by have:=sO.out;omega));have Hrj:=aB (Hr.out.under HM.out.hb (by have:=sO.out;omega));have Hmj:=aB (Hm.out.under HM.out.hb (by have:=sO.out;omega));obtain ⟨g0,g1,g2,g3,g4,g5,-⟩:=Haj.out;obtain ⟨y0,y1,y2,y3,y4,y5,yf⟩:=Hrj.out;have aG:Below wa.heap.size wa wa.drew:=(Below.refl _ _).drew;have zR:=aB (λ(w':World) (hb:Below wa.heap.size wa w')=>FY sg (.slice s1 sg.length s3) w' (HPa.out.1.nin.below hb) (by omega));have cZ:=aB (λ(w':World) (hb:Below wa.heap.size wa w')=>zH act (.slice u1 act.length u3) w' (HPa.out.2.2.1.nin.below hb) (by have:=GR.out.1;omega));have Hc3:=aB (λ(w':World) (hb:Below wa.heap.size wa w')=>zH wai (.slice v1 wai.length v3) w' (HPa.out.2.2.2.nin.below hb) (by have:=GR.out.2;omega));have hne:w.heap.size≠w.heap.size+1:=by omega
    have Hrf:=aB yf;clear yf hta
    go_upto_region 7 with fail
    go_region_held3 (λw'=>w'.cell? ⟨w.heap.size,0,none⟩=some (.slice s1 sg.length s3)/\w'.cell? ⟨w.heap.size,1,none⟩=some (.slice ta sts.length tc)/\w'.cell? ⟨w.heap.size,2,none⟩=some (.slice u1 act.length u3)/\w'.cell? ⟨w.heap.size,3,none⟩=some (.slice v1 wai.length v3)/\w'.cell? ⟨w.heap.size,4,none⟩=some (.int .i64 fnd)/\w'.cell? ⟨w.heap.size,5,none⟩=some (.bool lst))
     (first
       |(with_reducible exact ⟨aA aG _ _ g0,aA aG _ _ g1,aA aG _ _ g2,aA aG _ _ g3,aA aG _ _ g4,aA aG _ _ g5⟩)
       |(with_reducible exact ⟨DJ hne (aA aG _ _ g0),DJ hne (aA aG _ _ g1),DJ hne (aA aG _ _ g2),DJ hne (aA aG _ _ g3),DJ hne (aA aG _ _ g4),DJ hne (aA aG _ _ g5)⟩)
       |go_keep)
     (first
       |(go_at_call 22;refine (zR.out _ aG).mono ?_;rintro e wS ⟨z1,rfl,QF,hbS⟩;have IB:=aB (And.intro QF (And.intro hbS aG));replace aG:=aC aG hbS;obtain ⟨m1,m3,rfl⟩:=aR QF.1;clear QF hbS)
       |(go_at_call 42;have h9:=HO3;go_loud (clear h9;refine (Hc3.out _ aG).mono ?_;rintro e wV ⟨z4,rfl,hO4,hbV⟩;have QJ:=aB (And.intro hO4 (And.intro hbV aG));replace aG:=aC aG hbV;obtain ⟨o1,o3,rfl⟩:=aR hO4.1;clear hO4 hbV;replace y0:=aA aG _ _ y0;replace y1:=aA aG _ _ y1;replace y2:=aA aG _ _ y2;replace y3:=aA aG _ _ y3;replace y4:=aA aG _ _ y4;replace y5:=aA aG _ _ y5;have yf:=λi:Nat=>(aG.frozen (p:=⟨w.heap.size+1,i,none⟩) (B6.lt Hrj.out)).trans (Hrf.out i);have f0:=yf 0;have f1:=yf 1;have f2:=yf 2;have f3:=yf 3;have f4:=yf 4;have f5:=yf 5;clear yf))
       |(go_at_call 42;refine (cZ.out _ aG).mono ?_;rintro e wU ⟨z3,rfl,hO3,xZ⟩;have HO3:=aB (And.intro hO3 (And.intro xZ aG));replace aG:=aC aG xZ;obtain ⟨n1,n3,rfl⟩:=aR hO3.1;clear hO3 xZ))
    all_goals
     have dC:Hid (aG2 w.heap.size (set6 wV (w.heap.size+1) (.slice m1 sg.length m3) (.slice (some ⟨w2.heap.size,0,none⟩) sts.length sts.length) (.slice n1 act.length n3) (.slice o1 wai.length o3) (.int .i64 fnd) (.bool lst)) ⟨sg,sts,act,wai,fnd,lst⟩ (.slice m1 sg.length m3) (.slice (some ⟨w2.heap.size,0,none⟩) sts.length sts.length) (.slice n1 act.length n3) (.slice o1 wai.length o3)/\Below w.heap.size w (set6 wV (w.heap.size+1) (.slice m1 sg.length m3) (.slice (some ⟨w2.heap.size,0,none⟩) sts.length sts.length) (.slice n1 act.length n3) (.slice o1 wai.length o3) (.int .i64 fnd) (.bool lst))):=aI8 HM.out TN.out sO.out (by unfold maxLen;omega) Hrj.out Hmj.out IB.out.2.2 IB.out.1 IB.out.2.1 HO3.out.1 HO3.out.2.1 QJ.out.1 QJ.out.2.1;have HK:=aB ((Hrj.out.below aG).set (y0:= .slice m1 sg.length m3) (y1:= .slice (some ⟨w2.heap.size,0,none⟩) sts.length sts.length) (y2:= .slice n1 act.length n3) (y3:= .slice o1 wai.length o3) (y4:= .int .i64 fnd) (y5:= .bool lst));clear aG IB HO3 QJ g0 g1 g2 g3 g4 g5
     go_wp2_with fail
     obtain ⟨k0,k1,k2,k3,k4,k5,-⟩:=HK.out;unfold set6 at k0 k1 k2 k3 k4 k5;exact bodyPost_ret (v:= .agg #[.slice m1 sg.length m3,.slice (some ⟨w2.heap.size,0,none⟩) sts.length sts.length,.slice n1 act.length n3,.slice o1 wai.length o3,.int .i64 fnd,.bool lst]) (by simp [results,Tryz.results13,go_sem,k0,k1,k2,k3,k4,k5]) rfl ⟨_,_,_,_,rfl,dC.out.1,dC.out.2⟩
end
section
attribute [local go_sem ↓] Go.wp_at_zero Go.wp_at_succ
theorem A8:∀{F G:Fo},Fo.ok F->Fo.ok G->jA F G=true->F=G
 | .nil,.nil,_,_,_=>rfl
 | .nil,.node _ _ _ _ _,_,_,h=>by simp [jA] at h
 | .node _ _ _ _ _,.nil,_,_,h=>by simp [jA] at h
 | .node p q x k r,.node p' q' y l s,h1,h2,h=>by simp only [Fo.ok] at h1 h2;simp only [jA,Bool.and_eq_true,beq_iff_eq] at h;obtain ⟨rfl,rfl,_,hk,hr⟩:=h1;obtain ⟨rfl,rfl,_,hl,hs⟩:=h2;rw [A8 hk hl h.1.2,A8 hr hs h.2,Prod.ext h.1.1.1 h.1.1.2]
theorem VV:∀{c d:Cl},(∀l∈c,GL l)->(∀l∈d,GL l)->dH c d=true->c=d
 |[],[],_,_,_=>rfl
 |[],_::_,_,_,h=>by simp [dH] at h
 |_::_,[],_,_,h=>by simp [dH] at h
 |(an,(ax,ak),(ay,al))::c,(bn,(bx,bk),(bY,bl))::d,h1,h2,h=>by simp only [dH,vG,cB,Bool.and_eq_true,beq_iff_eq] at h;have g1:=h1 _ (List.mem_cons_self ..);have g2:=h2 _ (List.mem_cons_self ..);have e1:=A8 g1.gl.ok.2 g2.gl.ok.2 h.1.1.2.2;have e2:=A8 g1.gr.ok.2 g2.gr.ok.2 h.1.2.2;simp only at e1 e2;rw [h.1.1.1,Prod.ext h.1.1.2.1.1 h.1.1.2.1.2,Prod.ext h.1.2.1.1 h.1.2.1.2,e1,e2,VV (λl hl=>h1 l (List.mem_cons_of_mem _ hl)) (λl hl=>h2 l (List.mem_cons_of_mem _ hl)) h.2]
theorem aI3 {U:Tm->Tm->Option Sb} {p:Pf} {g:Int} (hI:kY p) (hg:0<=g/\g<p.sts.length):oP U p g=if (xS p g).2.2=true then rP U (xS p g).1 (bD (xS p g).1.sts (xS p g).2.1) (xS p g).2.1 else (xS p g).1:=by
 obtain ⟨hc,hw⟩:=hI.r.rng hg;unfold oP xS;by_cases h0:(rF (qE p.sts p.act) (bD p.sts g)).1≠0
 · rw [if_pos h0,if_pos h0];simp
 · rw [if_neg h0,if_neg h0];obtain ⟨h1,_⟩:=G7 hI.r.s6 (wN hI.r) (IK hI.r.s6 hc (eP hw)) hc.1 (Decidable.not_not.1 h0);by_cases h2:dH (rF (qE p.sts p.act) (bD p.sts g)).2 (bD p.sts g)=true
   · rw [if_pos h2,if_pos h2,VV h1.2 hc.2 h2];simp
   · rw [if_neg h2,if_neg h2];rcases fM p 5 (g::xI p.sts p.act) (rF (qE p.sts p.act) (bD p.sts g)).2 with ⟨_,e⟩|⟨_,e⟩
     · rw [e];simp
     · rw [e];simp only [if_true];rw [show ((p.sts++[((5:Int),g::xI p.sts p.act,(rF (qE p.sts p.act) (bD p.sts g)).2)]).length:Int) - 1=(p.sts.length:Int) by simp,PU]
theorem aLP {p:Pf} {g:Int} (h:kY p) (hg:g∉p.act++p.wai) (hk:0<=g/\g<p.sts.length) (hs:p.act.length+p.wai.length+1<=p.sts.length):kY (xS p g).1/\((xS p g).2.2=true->(xS p g).2.1∉(xS p g).1.act++(xS p g).1.wai/\(0<=(xS p g).2.1/\(xS p g).2.1<(xS p g).1.sts.length)/\(xS p g).1.act.length+(xS p g).1.wai.length+1<=(xS p g).1.sts.length):=by
 obtain ⟨hc,hw⟩:=h.r.rng hk;unfold xS;split
 · exact ⟨h.lost _,λe=>by cases e⟩
 · rename_i h0;obtain ⟨h1,h2⟩:=G7 h.r.s6 (wN h.r) (IK h.r.s6 hc (eP hw)) hc.1 (Decidable.not_not.1 h0);split
   · exact ⟨h,λ_=>⟨hg,hk,hs⟩⟩
   · obtain ⟨q1,q2,q3,q4⟩:=rZ (r:=5) (fr:=g::xI p.sts p.act) h h1 h2;refine ⟨q1,λho=>?_⟩;obtain ⟨q5,-,q6⟩:=(lS (r:=5) (fr:=g::xI p.sts p.act) h.r.g h1).2 ho;have e:((bI p 5 (g::xI p.sts p.act) (rF (qE p.sts p.act) (bD p.sts g)).2).1.sts.length:Int) - 1=(p.sts.length:Int):=by rw [q6];simp
     have h6:(bI p 5 (g::xI p.sts p.act) (rF (qE p.sts p.act) (bD p.sts g)).2).1.sts.length=p.sts.length+1:=by rw [q6];simp
     rw [q3,q4] at q5;simp only;rw [e,q3,q4];exact ⟨vP h.r.g (Int.le_refl _),⟨by omega,by rw [h6];omega⟩,q5⟩
def mY (p:Pf):Prop:=∀x∈p.sts,x.2.1.length<=121
theorem yK {lo rb b:Nat} {w:World} {q:Pf} {z1 z2 z3 z4:Value} (h:PS lo w b q z1 z2 z3 z4) (hr:B6 w rb (.slice none 0 0) (.slice none 0 0) (.slice none 0 0) (.slice none 0 0) (.int .i64 0) (.bool false)) (hn:N6 w rb) (hlt:rb<lo):oW (λq=>q<lo) (set6 w rb z1 z2 z3 z4 (.int .i64 q.fnd) (.bool q.lst)) q z1 z2 z3 z4:=
 h.pfl.boxed (aGM hr hn) hlt (λ_ hq=>sD hq)
theorem EM {E:Nat->Prop} {U:Tm->Tm->Option Sb} (hU:CQ U) (p:Pf) (a1 a2 a3 a4:Value) (n:Int) (w:World) (hP:oW E w p a1 a2 a3 a4) (hI:kY p) (hfl:mY p):
  Calls Tryz.prog 11 #[ZC p a1 a2 a3 a4,.int .i64 n] w λe w'=>∃z1 z2 z3 z4,e= .returned (.tuple #[ZC (kE U p n).2 z1 z2 z3 z4,.int .i64 (kE U p n).1])/\oW (λq=>q<w.heap.size) w' (kE U p n).2 z1 z2 z3 z4/\Below w.heap.size w w':=by
 obtain ⟨sg,sts,act,wai,fnd,lst⟩:=p;have HP:=aB hP;have HU:=aB hU;have HI:=aB hI;have UB:=aB (λx hx=>Nat.le_trans (hfl x hx) (show 121<=1000 by decide));obtain ⟨s1,s3,rfl⟩:=hP.1.slice;obtain ⟨t1,t3,rfl⟩:=jI hP.2.1;obtain ⟨u1,u3,rfl⟩:=hP.2.2.1.slice;obtain ⟨v1,v3,rfl⟩:=hP.2.2.2.slice;obtain ⟨⟨Q1,Q2⟩,hQ⟩:∃Q,Q=kE U ⟨sg,sts,act,wai,fnd,lst⟩ n:=⟨_,rfl⟩;rw [←hQ];have HQ:=aB hQ;clear hP hU hI hfl hQ;unfold ZC;simp only at*;go_enter Tryz.func11,Tryz.ntmps11
 go_upto_region 1 with fail
 generalize hw1:w.alloc (.cells #[.slice s1 sg.length s3,.slice t1 sts.length t3,.slice u1 act.length u3,.slice v1 wai.length v3,.int .i64 fnd,.bool lst] 27)=w1;generalize hw2:w1.alloc (.cells #[.slice none 0 0,.slice none 0 0,.slice none 0 0,.slice none 0 0,.int .i64 0,.bool false] 27)=w2;have hs1:w1.heap.size=w.heap.size+1:=by rw [←hw1];simp
 have hs2:w2.heap.size=w.heap.size+2:=by rw [←hw2];simp [hs1]
 have hb1:Below w.heap.size w w1:=by rw [←hw1];exact aD _ _
 have hb2:Below w1.heap.size w1 w2:=by rw [←hw2];exact aD _ _
 have Ha:Hid (B6 w2 w.heap.size (.slice s1 sg.length s3) (.slice t1 sts.length t3) (.slice u1 act.length u3) (.slice v1 wai.length v3) (.int .i64 fnd) (.bool lst)):=B6.below (by rw [←hw1];exact B6.at rfl) hb2;have Hr:Hid (B6 w2 (w.heap.size+1) (.slice none 0 0) (.slice none 0 0) (.slice none 0 0) (.slice none 0 0) (.int .i64 0) (.bool false)):=by rw [←hw2];exact B6.at hs1.symm
 have Hm:Hid (N6 w2 (w.heap.size+1)):=by rw [←hw2];exact N6.at hs1.symm
 have HB2:Hid (Below w.heap.size w w2):=aC hb1 hb2;have sO:=aB hs2;clear hw1 hw2 hb1 hb2 hs1 hs2;clear w1;have How:=aB (V7 ⟨sg,sts,act,wai,fnd,lst⟩ _ _ _ _ w2 (HP.out.below HB2.out) HI.out.r.g HI.out.r.s6 UB.out);unfold ZC at How;simp only at How;obtain ⟨x0,x1,x2,x3,x4,x5,-⟩:=Ha.out
 go_wp2_with fail
 refine How.out.mono ?_;rintro e w3 ⟨z1,z2,z3,z4,rfl,hO,hb3⟩;have HO:=aB hO;have HB3:=aB (aC HB2.out hb3);have Hb3:=aB hb3;obtain ⟨y1,y3,hz1⟩:=hO.sg.slice;obtain ⟨xs,hxs,-⟩:=hO.st;obtain ⟨y4,y5,hz2⟩:=aR hxs.1;obtain ⟨y6,y7,hz3⟩:=aR hO.ac.1;obtain ⟨y8,y9,hz4⟩:=aR hO.wa.1;subst hz1 hz2 hz3 hz4;clear hO hb3 hxs How x0 x1 x2 x3 x4 x5 xs;simp only at*
 go_upto_region 2 with fail
 have MH:=aB (HO.out.box (t:=55) Hb3.out.size);simp only at MH;have hb4:=aD w3 (.cells #[.slice y1 sg.length y3,.slice y4 sts.length y5,.slice y6 act.length y7,.slice y8 wai.length y9,.int .i64 fnd,.bool lst] 55);generalize hw4:w3.alloc (.cells #[.slice y1 sg.length y3,.slice y4 sts.length y5,.slice y6 act.length y7,.slice y8 wai.length y9,.int .i64 fnd,.bool lst] 55)=w4 at*;obtain ⟨b,hb⟩:∃b,b=w3.heap.size:=⟨_,rfl⟩;rw [←hb] at MH ⊢;have HB4:=aB (aC HB3.out hb4);have Hr4:=aB ((Hr.out.below Hb3.out).below hb4);have Hm4:=aB ((Hm.out.below (B6.lt Hr.out) Hb3.out).below (B6.lt (Hr.out.below Hb3.out)) hb4);have Hlb:=aB MH.out.bl;clear hw4 hb4 hb HO HB3 Hb3 Hr Hm HB2 Ha HP UB;clear w3;obtain ⟨x0,x1,x2,x3,x4,x5,-⟩:=MH.out.bx;simp only at x0 x1 x2 x3 x4 x5;have uE:=aB (xC b fnd w4 x4);obtain ⟨fb,QC⟩:∃fb,fb=decide (-1<fnd):=⟨_,rfl⟩;rw [←QC] at uE;by_cases h1:0<=fnd\/wai.length=0
 · have e:Q1=11/\Q2=⟨sg,sts,act,wai,fnd,lst⟩:=by
    have h:=HQ.out;unfold kE at h;rw [if_pos h1] at h;simpa using h
   obtain ⟨rfl,rfl⟩:=e;clear HQ
   go_cut [20] (λs20 wx=>s20= .bool true/\w4=wx)
   case first=>
    cases fb with
    |true=>
     clear QC h1
     go_wp2_with fail
     refine uE.out.mono ?_;rintro e wf ⟨rfl,rfl⟩
     go_wp2_with fail
     go_meet
     case rel=>exact ⟨rfl,rfl⟩
    |false=>
     have hz:((wai.length:Int)==0)=true:=by
      rcases h1 with h1|h1
      · have:=of_decide_eq_false QC.symm;omega
      · simp [h1]
     clear QC h1
     go_wp2_with fail
     refine uE.out.mono ?_;rintro e wf ⟨rfl,hwf⟩;rw [hwf];clear hwf wf
     go_wp2_with fail
     go_meet
     case rel=>exact ⟨rfl,rfl⟩
   case rest=>
    obtain ⟨rfl,hwc⟩:=hcut;subst hwc;clear x0 x1 x2 x3 x4 x5 uE QC h1;obtain ⟨k0,k1,k2,k3,k4,k5,-⟩:=Hr4.out;obtain ⟨x0,x1,x2,x3,x4,x5,-⟩:=MH.out.bx;have yf:=Hr4.out.2.2.2.2.2.2;have g0:=yf 0;have g1:=yf 1;have g2:=yf 2;have g3:=yf 3;have g4:=yf 4;have g5:=yf 5;have HK:=aB (Hr4.out.set (y0:= .slice y1 sg.length y3) (y1:= .slice y4 sts.length y5) (y2:= .slice y6 act.length y7) (y3:= .slice y8 wai.length y9) (y4:= .int .i64 fnd) (y5:= .bool lst));have GV:Hid (Below w.heap.size w (set6 w4 (w.heap.size+1) (.slice y1 sg.length y3) (.slice y4 sts.length y5) (.slice y6 act.length y7) (.slice y8 wai.length y9) (.int .i64 fnd) (.bool lst))):=eY HB4.out (Nat.le_succ _);have HPk:=aB ((yK MH.out Hr4.out Hm4.out (by have:=sO.out;omega)).mono (E':=λq=>q<w.heap.size) (λq hq=>by have:=sO.out;show q<w2.heap.size;omega));clear yf
    go_wp2_with fail
    clear k0 k1 k2 k3 k4 k5;obtain ⟨k0,k1,k2,k3,k4,k5,-⟩:=HK.out;unfold set6 at k0 k1 k2 k3 k4 k5;exact bodyPost_ret (v:= .tuple #[.agg #[.slice y1 sg.length y3,.slice y4 sts.length y5,.slice y6 act.length y7,.slice y8 wai.length y9,.int .i64 fnd,.bool lst],.int .i64 11]) (by simp [results,Tryz.results11,go_sem,k0,k1,k2,k3,k4,k5]) rfl ⟨_,_,_,_,rfl,HPk.out,GV.out⟩
 have hf:¬0<=fnd:=λh=>h1 (.inl h);have hz:¬wai.length=0:=λh=>h1 (.inr h);have hzb:((wai.length:Int)==0)=false:=by simpa using hz
 obtain rfl:fb=false:=by rw [QC];apply decide_eq_false;omega
 clear QC;by_cases h2:n<0\/(wai.length:Int)<=n
 · have e:Q1=6/\Q2=⟨sg,sts,act,wai,fnd,lst⟩:=by
    have h:=HQ.out;unfold kE at h;rw [if_neg h1,if_pos h2] at h;simpa using h
   obtain ⟨rfl,rfl⟩:=e;clear HQ
   go_wp2_with fail
   refine uE.out.mono ?_;rintro e wf ⟨rfl,hwf⟩;rw [hwf];clear hwf wf uE
   go_upto_region 4 with fail
   go_cut [32] (λjR wx=>jR= .bool true/\w4=wx)
   case first=>
    by_cases hn:n<0
    · go_wp2_with fail
      go_meet
      case rel=>exact ⟨rfl,rfl⟩
    · have hl:(wai.length:Int)<=n:=h2.resolve_left hn
      go_wp2_with fail
      go_meet
      case rel=>exact ⟨rfl,rfl⟩
   case rest=>
    obtain ⟨rfl,hwc⟩:=hcut;subst hwc;clear x0 x1 x2 x3 x4 x5;obtain ⟨k0,k1,k2,k3,k4,k5,-⟩:=Hr4.out;obtain ⟨x0,x1,x2,x3,x4,x5,-⟩:=MH.out.bx;have yf:=Hr4.out.2.2.2.2.2.2;have g0:=yf 0;have g1:=yf 1;have g2:=yf 2;have g3:=yf 3;have g4:=yf 4;have g5:=yf 5;have HK:=aB (Hr4.out.set (y0:= .slice y1 sg.length y3) (y1:= .slice y4 sts.length y5) (y2:= .slice y6 act.length y7) (y3:= .slice y8 wai.length y9) (y4:= .int .i64 fnd) (y5:= .bool lst));have GV:Hid (Below w.heap.size w (set6 w4 (w.heap.size+1) (.slice y1 sg.length y3) (.slice y4 sts.length y5) (.slice y6 act.length y7) (.slice y8 wai.length y9) (.int .i64 fnd) (.bool lst))):=eY HB4.out (Nat.le_succ _);have HPk:=aB ((yK MH.out Hr4.out Hm4.out (by have:=sO.out;omega)).mono (E':=λq=>q<w.heap.size) (λq hq=>by have:=sO.out;show q<w2.heap.size;omega));clear yf
    go_wp2_with fail
    clear k0 k1 k2 k3 k4 k5;obtain ⟨k0,k1,k2,k3,k4,k5,-⟩:=HK.out;unfold set6 at k0 k1 k2 k3 k4 k5;exact bodyPost_ret (v:= .tuple #[.agg #[.slice y1 sg.length y3,.slice y4 sts.length y5,.slice y6 act.length y7,.slice y8 wai.length y9,.int .i64 fnd,.bool lst],.int .i64 6]) (by simp [results,Tryz.results11,go_sem,k0,k1,k2,k3,k4,k5]) rfl ⟨_,_,_,_,rfl,HPk.out,GV.out⟩
 obtain ⟨m,rfl⟩:∃m:Nat,n=m:=⟨n.toNat,by omega⟩;have hm:m<wai.length:=by omega
 have hm':(m:Int)<(wai.length:Int):=by omega
 have hm0:¬(m:Int)<0:=by omega
 have hm1:¬(wai.length:Int)<=(m:Int):=by omega
 obtain ⟨va,vc,vb,vo,hv,hva,hvl,hvm,hvF⟩:=MH.out.pf.2.2.2;simp only [Value.slice.injEq,true_and] at hv;obtain ⟨hv1,hv2⟩:=hv;subst hv1 hv2;have aS2:=(hva (by show 0<wai.length;omega)).1;subst aS2;have q0:=hvF m hm;obtain ⟨g,hg⟩:∃g,g=wai.getD m 0:=⟨_,rfl⟩;simp only at q0 hvl hvm;rw [←hg] at q0;have hwm:IntKind.i64.wrap ((m:Int)+1)=(m:Int)+1:=by have h1:=HI.out.r.g.gs;have h2:=HI.out.r.g.gl;simp only at h1 h2;rw [IntKind.wrap_i64];omega
 have Hde:=aB (aBX wai _ m w4 MH.out.wa hm);obtain ⟨hI1,hI2,hI3,hI4⟩:=RZ (n:=m) HI.out hm;have hQe:(Q1,Q2)=(0,oP U ⟨sg,sts,act,qY wai m,fnd,lst⟩ g):=by
  rcases qV (U:=U) ⟨sg,sts,act,wai,fnd,lst⟩ (m:Int) with ⟨h,_⟩|⟨_,h,_⟩|⟨_,_,_,h⟩
  · exact absurd h h1
  · exact absurd h h2
  · rw [HQ.out,h,hg];simp
 rw [←hg] at hI2 hI3;obtain ⟨zU,aNK⟩:∃l,l=qY wai m:=⟨_,rfl⟩;rw [←aNK] at hI1 hI2 hI4 hQe Hde;obtain rfl:Q1=0:=congrArg Prod.fst hQe;have hQ2:Q2=oP U ⟨sg,sts,act,zU,fnd,lst⟩ g:=congrArg Prod.snd hQe;have hrw:=aLP hI1 hI2 hI3 hI4;rw [aI3 hI1 hI3] at hQ2;have NG:=aB (λ(w':World) (v':Value) (h:PS w2.heap.size w' b ⟨sg,sts,act,zU,fnd,lst⟩ (.slice y1 sg.length y3) (.slice y4 sts.length y5) (.slice y6 act.length y7) v')=>SY b ⟨sg,sts,act,zU,fnd,lst⟩ _ _ _ _ g w' h hI1 hI3);obtain ⟨⟨⟨MB,gY,lN,kZ,kC,lM⟩,g2,ok⟩,hrq⟩:∃q,q=xS ⟨sg,sts,act,zU,fnd,lst⟩ g:=⟨_,rfl⟩;rw [←hrq] at hrw hQ2 NG;simp only at hrw hQ2 NG;have HQ2:=aB hQ2;have Hrw:=aB hrw;have aQX:w2.heap.size<=w4.heap.size:=Nat.le_trans Hlb.out (Nat.le_of_lt MH.out.bx.lt);have aD0:=aB aQX;have HM0:=aB MH.out;have f3:=MH.out.bx.2.2.2.2.2.2 3;clear hI1 hI2 hI3 hI4 hQe aNK hrq hrw hQ2 HQ HI hva hvF hvl hvm h1 h2 hg aQX
 go_wp2_with fail
 refine uE.out.mono ?_;rintro e wf ⟨rfl,hwf⟩;rw [hwf];clear hwf wf uE
 go_wp2_with fail
 refine Hde.out.mono ?_;rintro e w5 ⟨dv,rfl,hR,hgr,hat⟩;obtain ⟨d1,d3,rfl⟩:=aR hR.1;have hbe:w5.heap[b]?=w4.heap[b]?:=hgr.block b MH.out.bx.lt (λe=>MH.out.d4 e.symm);replace x3:=(World.cell?_of_block (a:=⟨b,3,none⟩) hbe).trans x3;replace f3:=(World.frozen?_of_block (a:=⟨b,3,none⟩) hbe).trans f3;obtain ⟨hP6,hM6⟩:=MH.out.wait hR hgr (.inl hat);have HP6:=aB hP6;have HM6:=aB hM6;clear hR hgr hat hbe hP6 hM6 Hde x0 x1 x2 x4 x5 q0
 go_upto_region 8 with fail
 generalize w5.setCell ⟨b,3,none⟩ (.slice d1 zU.length d3)=w6 at*;have aRN:=aB (NG.out w6 _ HP6.out);clear x3 f3 NG
 go_wp2_with fail
 refine aRN.out.mono ?_;rintro e w7 ⟨rfl,z2,hP7,hM7⟩;obtain ⟨⟨s4,s5,hs1⟩,⟨t4,t5,rfl⟩,⟨u4,u5,hu1⟩,v4,v5,hv1⟩:=hP7.slices;have HP7:=aB hP7;have HM7:=aB (HM6.out.trans hM7);clear hP7 hM7 aRN HP6 HM6;simp only at hs1 hu1 hv1;have Hs1:=aB hs1;clear hs1 hu1 hv1;have Hr7:=aB (Hr4.out.under (HM0.out.under HM7.out aD0.out) (by have:=sO.out;omega));have Hm7:=aB (Hm4.out.under (HM0.out.under HM7.out aD0.out) (by have:=sO.out;omega));have HB7:=aB (HB4.out.trans ((HM0.out.under HM7.out aD0.out).mono (by have:=sO.out;omega)));cases ok with
 |false=>
  have e:Q2=⟨MB,gY,lN,kZ,kC,lM⟩:=by have h:=HQ2.out;rw [if_neg (by simp)] at h;exact h
  subst e;clear HQ2
  go_upto_region 12 with fail
  obtain ⟨k0,k1,k2,k3,k4,k5,-⟩:=Hr7.out;obtain ⟨x0,x1,x2,x3,x4,x5,-⟩:=HP7.out.bx;have yf:=Hr7.out.2.2.2.2.2.2;have g0:=yf 0;have g1:=yf 1;have g2:=yf 2;have g3:=yf 3;have g4:=yf 4;have g5:=yf 5;have HK:=aB (Hr7.out.set (y0:= .slice y1 sg.length y3) (y1:= .slice t4 gY.length t5) (y2:= .slice y6 act.length y7) (y3:= .slice d1 zU.length d3) (y4:= .int .i64 kC) (y5:= .bool lM));have GV:Hid (Below w.heap.size w (set6 w7 (w.heap.size+1) (.slice y1 sg.length y3) (.slice t4 gY.length t5) (.slice y6 act.length y7) (.slice d1 zU.length d3) (.int .i64 kC) (.bool lM))):=eY HB7.out (Nat.le_succ _);have HPk:=aB ((yK HP7.out Hr7.out Hm7.out (by have:=sO.out;omega)).mono (E':=λq=>q<w.heap.size) (λq hq=>by have:=sO.out;show q<w2.heap.size;omega));clear yf
  go_wp2_with fail
  clear k0 k1 k2 k3 k4 k5;obtain ⟨k0,k1,k2,k3,k4,k5,-⟩:=HK.out;unfold set6 at k0 k1 k2 k3 k4 k5;exact bodyPost_ret (v:= .tuple #[.agg #[.slice y1 sg.length y3,.slice t4 gY.length t5,.slice y6 act.length y7,.slice d1 zU.length d3,.int .i64 kC,.bool lM],.int .i64 0]) (by simp [results,Tryz.results11,go_sem,k0,k1,k2,k3,k4,k5]) rfl ⟨_,_,_,_,rfl,HPk.out,GV.out⟩
 |true=>
  obtain ⟨hI2,hok⟩:=Hrw.out;obtain ⟨hg2,hk2,hs2⟩:=hok rfl;have e:Q2=rP U ⟨MB,gY,lN,kZ,kC,lM⟩ (bD gY g2) g2:=by have h:=HQ2.out;rw [if_pos rfl] at h;exact h
  have HQ3:=aB e;have HI2:=aB hI2;have Hg2:=aB hg2;have Hk2:=aB hk2;have aUM:=aB hs2;clear e HQ2 Hrw hI2 hok hg2 hk2 hs2;obtain ⟨-,-,-,-,x4,-,-⟩:=HP7.out.bx;simp only at x4;have uE:=aB (xC b kC w7 x4);obtain ⟨fb,QC⟩:∃fb,fb=decide (-1<kC):=⟨_,rfl⟩;rw [←QC] at uE;have Hfb:=aB QC;clear QC;cases fb with
  |true=>
   have e:Q2=⟨MB,gY,lN,kZ,kC,lM⟩:=by have h:=HQ3.out;unfold rP at h;rw [if_pos (.inl (by have:=of_decide_eq_true Hfb.out.symm;show 0<=kC;omega))] at h;exact h
   subst e;clear HQ3
   go_wp2_with fail
   refine uE.out.mono ?_;rintro e wf ⟨rfl,hwf⟩;rw [hwf];clear hwf wf uE x4
   go_upto_region 12 with fail
   obtain ⟨k0,k1,k2,k3,k4,k5,-⟩:=Hr7.out;obtain ⟨x0,x1,x2,x3,x4,x5,-⟩:=HP7.out.bx;have yf:=Hr7.out.2.2.2.2.2.2;have g0:=yf 0;have g1:=yf 1;have g2:=yf 2;have g3:=yf 3;have g4:=yf 4;have g5:=yf 5;have HK:=aB (Hr7.out.set (y0:= .slice y1 sg.length y3) (y1:= .slice t4 gY.length t5) (y2:= .slice y6 act.length y7) (y3:= .slice d1 zU.length d3) (y4:= .int .i64 kC) (y5:= .bool lM));have GV:Hid (Below w.heap.size w (set6 w7 (w.heap.size+1) (.slice y1 sg.length y3) (.slice t4 gY.length t5) (.slice y6 act.length y7) (.slice d1 zU.length d3) (.int .i64 kC) (.bool lM))):=eY HB7.out (Nat.le_succ _);have HPk:=aB ((yK HP7.out Hr7.out Hm7.out (by have:=sO.out;omega)).mono (E':=λq=>q<w.heap.size) (λq hq=>by have:=sO.out;show q<w2.heap.size;omega));clear yf
   go_wp2_with fail
   clear k0 k1 k2 k3 k4 k5;obtain ⟨k0,k1,k2,k3,k4,k5,-⟩:=HK.out;unfold set6 at k0 k1 k2 k3 k4 k5;exact bodyPost_ret (v:= .tuple #[.agg #[.slice y1 sg.length y3,.slice t4 gY.length t5,.slice y6 act.length y7,.slice d1 zU.length d3,.int .i64 kC,.bool lM],.int .i64 0]) (by simp [results,Tryz.results11,go_sem,k0,k1,k2,k3,k4,k5]) rfl ⟨_,_,_,_,rfl,HPk.out,GV.out⟩
  |false=>
   obtain ⟨hcg,hcw⟩:=HI2.out.r.rng Hk2.out;have dI:=aB (kK b gY _ g2 w7 HP7.out.bx.2.1 HP7.out.pf.2.1 Hk2.out);obtain ⟨c,hc⟩:∃c,c=bD gY g2:=⟨_,rfl⟩;have hcc:c=bD (Pf.mk MB gY lN kZ kC lM).sts g2:=hc;rw [←hcc] at hcg hcw;rw [←hc] at dI HQ3;have Hc:=aB hc;have Hcg:=aB hcg;clear hcc hc hcg hcw
   go_wp2_with fail
   refine uE.out.mono ?_;rintro e wf ⟨rfl,hwf⟩;rw [hwf];clear hwf wf uE x4
   go_wp2_with fail
   refine dI.out.mono ?_;rintro e wf ⟨cv,rfl,hC,hwf⟩;rw [hwf];clear hwf wf dI;have HC:=aB hC;obtain ⟨c1,c3,rfl⟩:=aK hC;clear hC;obtain ⟨V,hV⟩:∃V,V=UN ⟨MB,gY,lN,kZ,kC,lM⟩ c:=⟨_,rfl⟩;have ZO:=aB (FU b ⟨MB,gY,lN,kZ,kC,lM⟩ _ _ _ _ c _ w7 HP7.out.rd HC.out HI2.out.r.g Hcg.out);rw [←hV] at ZO;have HV:=aB hV;clear hV
   go_wp2_with fail
   refine ZO.out.mono ?_;rintro e w8 ⟨rfl,mR⟩;have HP8:=aB (HP7.out.below mR);have HM8:=aB (HM7.out.step mR);have Hr8:=aB (Hr7.out.below mR);have Hm8:=aB (Hm7.out.below (B6.lt Hr7.out) mR);have HB8:=aB (aC HB7.out mR);clear mR ZO HC HP7 HM7 Hr7 Hm7 HB7;cases V with
   |true=>
    have e:Q2=⟨MB,gY,lN,kZ,kC,lM⟩:=by have h:=HQ3.out;unfold rP at h;rw [if_pos (.inr HV.out.symm)] at h;exact h
    subst e;clear HQ3
    go_upto_region 12 with fail
    obtain ⟨k0,k1,k2,k3,k4,k5,-⟩:=Hr8.out;obtain ⟨x0,x1,x2,x3,x4,x5,-⟩:=HP8.out.bx;have yf:=Hr8.out.2.2.2.2.2.2;have g0:=yf 0;have g1:=yf 1;have g2:=yf 2;have g3:=yf 3;have g4:=yf 4;have g5:=yf 5;have HK:=aB (Hr8.out.set (y0:= .slice y1 sg.length y3) (y1:= .slice t4 gY.length t5) (y2:= .slice y6 act.length y7) (y3:= .slice d1 zU.length d3) (y4:= .int .i64 kC) (y5:= .bool lM));have GV:Hid (Below w.heap.size w (set6 w8 (w.heap.size+1) (.slice y1 sg.length y3) (.slice t4 gY.length t5) (.slice y6 act.length y7) (.slice d1 zU.length d3) (.int .i64 kC) (.bool lM))):=eY HB8.out (Nat.le_succ _);have HPk:=aB ((yK HP8.out Hr8.out Hm8.out (by have:=sO.out;omega)).mono (E':=λq=>q<w.heap.size) (λq hq=>by have:=sO.out;show q<w2.heap.size;omega));clear yf
    go_wp2_with fail
    clear k0 k1 k2 k3 k4 k5;obtain ⟨k0,k1,k2,k3,k4,k5,-⟩:=HK.out;unfold set6 at k0 k1 k2 k3 k4 k5;exact bodyPost_ret (v:= .tuple #[.agg #[.slice y1 sg.length y3,.slice t4 gY.length t5,.slice y6 act.length y7,.slice d1 zU.length d3,.int .i64 kC,.bool lM],.int .i64 0]) (by simp [results,Tryz.results11,go_sem,k0,k1,k2,k3,k4,k5]) rfl ⟨_,_,_,_,rfl,HPk.out,GV.out⟩
   |false=>
    have e:Q2=aKR U ⟨MB,gY,lN++[g2],kZ,kC,lM⟩ c g2:=by
     have h:=HQ3.out;unfold rP at h
     rw [if_neg (by
      rintro (h|h)
      · have h3:0<=kC:=h;have:=of_decide_eq_false Hfb.out.symm;omega
      · rw [←HV.out] at h;cases h),aFR] at h
     exact h
    obtain ⟨sg3,aNV,aWE,aNT,aOZ,aNX⟩:=Q2;have HQ4:=aB e;clear HQ3 e;have HIa:=aB (SN HI2.out Hg2.out Hk2.out aUM.out);simp only at HIa;have hal:lN.length<=120:=by have h1:=HI2.out.r.g.gs;have h2:=HI2.out.r.g.gl;simp only at h1 h2;omega
    obtain ⟨-,-,x2,-,-,-,xf⟩:=HP8.out.bx;have f2:=xf 2;have aQW:=HP8.out.bx.lt;have aTU:=HP8.out.bl;have HPa:=aB (HP8.out.below (aD w8 (.cells #[.int .i64 g2] 3)));have HRa:=aB HPa.out.ac;simp only at HRa x2;have Hca:Hid ((w8.alloc (.cells #[.int .i64 g2] 3)).cell? ((⟨w8.heap.size,0,none⟩:Addr).add 0)=some (.int .i64 g2)):=by show _=_;simp [Addr.add]
    have hl8:(lN.length+1)*8<=140737488355328:=by omega
    have bZ:Below w8.heap.size w8 (w8.alloc (.cells #[.int .i64 g2] 3)):=aD _ _;have hsa:w2.heap.size<=(w8.alloc (.cells #[.int .i64 g2] 3)).heap.size:=Nat.le_trans aTU (Nat.le_trans (Nat.le_of_lt aQW) bZ.size);have xV:=aB bZ;clear xf bZ
    go_upto_region 11 with (at_builtin;go_loud (refine uJ rfl (.tmp 68) (.tmp 70) rfl w2.heap.size (.slice y6 act.length y7) lN.length (bO lN) rfl HRa.out g2 ⟨w8.heap.size,0,none⟩ rfl Hca.out hl8 hsa ?_;intro av w9 hR hgr hat;obtain ⟨z1,z3,hz⟩:=aR hR.1;subst hz;have hbe:w9.heap[b]?=(w8.alloc (.cells #[.int .i64 g2] 3)).heap[b]?:=hgr.block b HPa.out.bx.lt (λe=>HPa.out.d3 e.symm);have m2:=(World.cell?_of_block (a:=⟨b,2,none⟩) hbe).trans (aA xV.out _ _ x2);have k2:=(World.frozen?_of_block (a:=⟨b,2,none⟩) hbe).trans ((xV.out.frozen (p:=⟨b,2,none⟩) aQW).trans f2)))
    obtain ⟨hP9,hM9⟩:=HPa.out.acts (l:=lN++[g2]) (by simpa [bO] using hR) hgr hat
    have HP9:=aB hP9;have HM9:=aB ((HM8.out.step xV.out).trans hM9);clear hR hgr hat hbe m2 k2 hP9 hM9 HPa HRa Hca hsa xV x2 f2 hl8;generalize w9.setCell ⟨b,2,none⟩ (.slice z1 (lN.length+1) z3)=w10 at*;have Hfo:=aB (aBT HU.out b ⟨MB,gY,lN++[g2],kZ,kC,lM⟩ _ _ _ _ g2 w10 HP9.out HIa.out Hk2.out);simp only at Hfo;rw [←Hc.out] at Hfo;rw [←HQ4.out] at Hfo
    go_wp2_with fail
    refine Hfo.out.mono ?_;rintro e w11 ⟨rfl,zb,zd,aOT,aRB⟩;obtain ⟨-,⟨t6,t7,rfl⟩,-,v6,v7,rfl⟩:=aOT.slices;have HPf:=aB aOT;have HMf:=aB (HM9.out.trans aRB);clear aOT aRB Hfo;have Hrf:=aB (Hr4.out.under (HM0.out.under HMf.out aD0.out) (by have:=sO.out;omega));have Hmf:=aB (Hm4.out.under (HM0.out.under HMf.out aD0.out) (by have:=sO.out;omega));have HBf:=aB (HB4.out.trans ((HM0.out.under HMf.out aD0.out).mono (by have:=sO.out;omega)));clear HMf
    go_upto_region 12 with fail
    obtain ⟨k0,k1,k2,k3,k4,k5,-⟩:=Hrf.out;obtain ⟨x0,x1,x2,x3,x4,x5,-⟩:=HPf.out.bx;have yf:=Hrf.out.2.2.2.2.2.2;have g0:=yf 0;have g1:=yf 1;have g2:=yf 2;have g3:=yf 3;have g4:=yf 4;have g5:=yf 5;have HK:=aB (Hrf.out.set (y0:= .slice y1 sg.length y3) (y1:= .slice t6 aNV.length t7) (y2:= .slice z1 (lN.length+1) z3) (y3:= .slice v6 aNT.length v7) (y4:= .int .i64 aOZ) (y5:= .bool aNX));have GV:Hid (Below w.heap.size w (set6 w11 (w.heap.size+1) (.slice y1 sg.length y3) (.slice t6 aNV.length t7) (.slice z1 (lN.length+1) z3) (.slice v6 aNT.length v7) (.int .i64 aOZ) (.bool aNX))):=eY HBf.out (Nat.le_succ _);have HPk:=aB ((yK HPf.out Hrf.out Hmf.out (by have:=sO.out;omega)).mono (E':=λq=>q<w.heap.size) (λq hq=>by have:=sO.out;show q<w2.heap.size;omega));clear yf
    go_wp2_with fail
    clear k0 k1 k2 k3 k4 k5;obtain ⟨k0,k1,k2,k3,k4,k5,-⟩:=HK.out;unfold set6 at k0 k1 k2 k3 k4 k5;exact bodyPost_ret (v:= .tuple #[.agg #[.slice y1 sg.length y3,.slice t6 aNV.length t7,.slice z1 (lN.length+1) z3,.slice v6 aNT.length v7,.int .i64 aOZ,.bool aNX],.int .i64 0]) (by simp [results,Tryz.results11,go_sem,k0,k1,k2,k3,k4,k5]) rfl ⟨_,_,_,_,rfl,HPk.out,GV.out⟩
end
section
attribute [local go_sem ↓] Go.wp_at_zero Go.wp_at_succ
theorem J6 {c n:Cl} {e:Int} (hg:GC c) (h:(e,n)=bS c):(e=6/\n=[])\/(e=0/\GC n):=by
 rcases tT hg with ⟨_,h1⟩|⟨d,_,_,_,⟨_,h1⟩|⟨e,_,he,h1⟩⟩
 · have h:=h.trans h1;simp only [Prod.mk.injEq] at h;exact .inl h
 · have h:=h.trans h1;simp only [Prod.mk.injEq] at h;exact .inl h
 · have h:=h.trans h1;simp only [Prod.mk.injEq] at h;obtain ⟨rfl,rfl⟩:=h;exact .inr ⟨rfl,he⟩
def UA (p:Pf) (i:Int) (c:Cl):Int×Pf:=if aN p.sig c≠0 then (aN p.sig c,p) else if (bS c).1=0 then (0,nU p 1 [i] (bS c).2) else (0,p)
theorem aFJ {lo:Nat} (b:Nat) (p:Pf) (a1 a2 a3 a4:Value) (i:Int) (c:Cl) (cv:Value) (w:World) (h:PS lo w b p a1 a2 a3 a4) (hG:ND p) (hc:dQ w c cv) (hgc:aN p.sig c=0->GC c):
  Calls Tryz.prog 23 #[.pointer (some ⟨b,0,none⟩),.int .i64 i,cv] w λe w'=>e= .returned (.int .i64 (UA p i c).1)/\∃z2 z4,PS lo w' b (UA p i c).2 a1 z2 a3 z4/\kX w (iU b a2 a3 a4) w' (iU b z2 a3 z4):=by
 obtain ⟨⟨s1,s3,hs⟩,⟨t1,t3,ht⟩,⟨u1,u3,hu⟩,v1,v3,hv⟩:=h.slices;subst hs ht hu hv;obtain ⟨c1,c3,rfl⟩:=aK hc;have HP:=aB h;have HC:=aB hc;have HG:=aB hG;have F9:=aB hgc;obtain ⟨⟨Q1,Q2⟩,hQ⟩:∃Q,Q=UA p i c:=⟨_,rfl⟩;rw [←hQ];have HQ:=aB hQ;obtain ⟨x0,-,-,-,-,-,-⟩:=h.bx;obtain ⟨G,hGw⟩:∃G,G=aN p.sig c:=⟨_,rfl⟩;have Hwc:=aB (aAN p.sig _ c _ w h.sg.nin hc);rw [←hGw] at Hwc;have HGw:=aB hGw;clear h hG hc hgc hQ hGw;go_enter Tryz.func23,Tryz.ntmps23
 go_wp2_with fail
 refine Hwc.out.mono ?_;rintro e w2 ⟨rfl,hb2⟩;have ZA:=aB (HP.out.below hb2);have HM2:=aB (kX.of hb2 (iU b (.slice t1 p.sts.length t3) (.slice u1 p.act.length u3) (.slice v1 p.wai.length v3)));have HC2:=aB (HC.out.below hb2);clear hb2 Hwc x0 HP HC;by_cases hw:¬G=0
 · have hwb:(G !=0)=true:=by simpa using hw
   have e:Q1=G/\Q2=p:=by have h:=HQ.out;unfold UA at h;rw [←HGw.out,if_pos hw] at h;simpa using h
   obtain ⟨rfl,rfl⟩:=e;clear HQ hw
   go_wp2_with fail
   go_ret;exact ⟨rfl,_,_,ZA.out,HM2.out⟩
 have hw:=Decidable.not_not.1 hw;subst hw;have C9:=aB (F9.out HGw.out.symm);have Hnd:=aB (aJG c _ w2 HC2.out C9.out);obtain ⟨⟨e1,n⟩,hn⟩:∃q,q=bS c:=⟨_,rfl⟩;rw [←hn] at Hnd;have Hn:=aB hn;have hcs:=J6 C9.out hn;clear hn
 go_wp2_with fail
 refine Hnd.out.mono ?_;rintro e w3 ⟨nv,rfl,hN,hb3⟩;replace ZA:=aB (ZA.out.below hb3);replace HM2:=aB (HM2.out.step hb3);have HN:=aB hN;obtain ⟨n1,n3,rfl⟩:=aK hN;clear hb3 hN Hnd HC2;rcases hcs with ⟨rfl,rfl⟩|⟨rfl,hgn⟩
 · have e:Q1=0/\Q2=p:=by
    have h:=HQ.out;unfold UA at h;rw [if_neg (by simp [←HGw.out]),if_neg (by rw [←Hn.out];simp)] at h;simpa using h
   obtain ⟨rfl,rfl⟩:=e;clear HQ
   go_wp2_with fail
   go_ret;exact ⟨rfl,_,_,ZA.out,HM2.out⟩
 · have e:Q1=0/\Q2=nU p 1 [i] n:=by
    have h:=HQ.out;unfold UA at h;rw [if_neg (by simp [←HGw.out]),if_pos (by rw [←Hn.out]),←Hn.out] at h;simpa using h
   obtain ⟨rfl,rfl⟩:=e;clear HQ hgn;have bZ:Below w3.heap.size w3 (w3.alloc (.cells #[.int .i64 i] 3)):=aD _ _;have hNf:iA (EL lo b (.slice t1 p.sts.length t3) (.slice u1 p.act.length u3) (.slice v1 p.wai.length v3)) (w3.alloc (.cells #[.int .i64 i] 3)) [i] (.slice (some ⟨w3.heap.size,0,none⟩) 1 1):=pY (l:=[i]) ZA.out.el (Nat.le_refl _) (by decide) (λj hj=>by
    match j,hj with
    |0,_=>simp
    |j+1,hj=>exact absurd hj (by simp))
   have Hwt:=aB (NR b p _ _ _ _ 1 [i] _ n _ _ (ZA.out.below bZ) hNf (HN.out.below bZ) HG.out);have HM3:=aB (HM2.out.step bZ);clear bZ hNf
   go_wp2_with fail
   refine Hwt.out.mono ?_;rintro e w4 ⟨rfl,z2,z4,hP4,hM4⟩;have HP4:=aB hP4;have HM4:=aB (HM3.out.trans hM4);clear hP4 hM4 Hwt
   go_wp2_with fail
   go_ret;exact ⟨rfl,z2,z4,HP4.out,HM4.out⟩
end
section
def xU (z:Int) (tb:List (List Int)) (p:Pf):Prop:=∀x∈p.sts,aY z tb x.2.2
theorem xU.cl {z:Int} {tb:List (List Int)} {p:Pf} (h:xU z tb p) {l:List Int} (hl:IC p.sts l) {k:Int} (hk:k∈l):aY z tb (bD p.sts k):=by obtain ⟨x,hx,e⟩:=XH hl hk;rw [e];exact h x hx
theorem qR {z:Int} {tb:List (List Int)} {p:Pf} {r:Int} {fr:List Int} {c:Cl} (h:xU z tb p) (hc:aY z tb c):xU z tb (bI p r fr c).1:=by
 rcases fM p r fr c with ⟨_,e⟩|⟨_,e⟩
 · rw [e];exact h
 · rw [e];intro x hx;rcases List.mem_append.1 hx with hx|hx
   · exact h x hx
   · rw [List.mem_singleton.1 hx];exact hc
theorem YV {z:Int} {tb:List (List Int)} {p:Pf} {r:Int} {fr:List Int} {c:Cl} (h:xU z tb p) (hc:aY z tb c):xU z tb (iD r fr p c):=by
 unfold iD;split
 · exact h
 · split
   · exact qR (r:=r) (fr:=fr) h hc
   · exact qR (r:=r) (fr:=fr) h hc
theorem LP {z:Int} {tb:List (List Int)} {r:Int} {fr:List Int}:∀{cs:List Cl} {p:Pf},xU z tb p->(∀c∈cs,aY z tb c)->xU z tb (cs.foldl (iD r fr) p)
 |[],_,h,_=>h
 |c::cs,p,h,hc=>LP (cs:=cs) (YV h (hc c (by simp))) (λd hd=>hc d (by simp [hd]))
theorem qX {z:Int} {tb:List (List Int)} {p:Pf} {r:Int} {fr:List Int} {st:List Cl×Bool} (h:xU z tb p) (hc:∀c∈st.1,aY z tb c):xU z tb (jF p r fr st):=LP (p:={p with lst:=p.lst||st.2}) h hc
section
variable {U:Tm->Tm->Option Sb} (hU:CQ U) {z:Int} {tb:List (List Int)}
include hU
theorem VF {s:List Int} (hm:MR s z tb) (hs:s.all bN=true) {c d:Cl} (hc:GC c) (hw:aN s c=0) (hh:aY z tb c) (hd:GC d) (hv:aN s d=0) (hi:aY z tb d) (j:Nat):∀e∈(gJ U c (d.map (bK (aH (j5 5)))) j).1,aY z tb e:=λe he=>((aHP hU hs hc.g12 hc.1 (lW hw) (BC hd) (by rw [List.length_map];exact hd.1) (aCQ hv) j).1 e he).2 z tb hm hh (aE3 hi)
theorem aAV {p:Pf} {c:Cl} {g k:Int} (hm:MR p.sig z tb) (h:kY p) (hp:xU z tb p) (hc:GC c) (hw:aN p.sig c=0) (hh:aY z tb c) (hk:k∈p.act):xU z tb (qH U c g p k):=by
 obtain ⟨hkg,hkw⟩:=h.r.cl h.r.g.ga hk;have hkh:=hp.cl h.r.g.ga hk;have h1:xU z tb (jF p 4 [k,g] (gJ U (bD p.sts k) (c.map (bK (aH (j5 5)))) (bD p.sts k).length)):=qX hp (VF hU hm h.r.so hkg hkw hkh hc hw hh _);unfold qH;split
 · exact qX h1 (VF hU hm h.r.so hc hw hh hkg hkw hkh _)
 · exact h1
theorem KV {c:Cl} {g:Int}:∀{l:List Int} {p:Pf},MR p.sig z tb->kY p->xU z tb p->GC c->aN p.sig c=0->aY z tb c->(∀k∈l,k∈p.act)->xU z tb (l.foldl (qH U c g) p)
 |[],_,_,_,hp,_,_,_,_=>hp
 |k::l,p,hm,h,hp,hc,hw,hh,hl=>by obtain ⟨h1,h2,h3⟩:=JK hU (g:=g) h hc hw (hl k (by simp));exact KV (g:=g) (l:=l) (by rw [h2.a.sg];exact hm) h1 (aAV hU (g:=g) hm h hp hc hw hh (hl k (by simp))) hc (by rw [h2.a.sg];exact hw) hh (λm hm=>by rw [h3];exact hl m (by simp [hm]))
theorem YK {p:Pf} {c:Cl} {g:Int} (hm:MR p.sig z tb) (h:kY {p with act:=p.act++[g]}) (hp:xU z tb p) (hc:GC c) (hw:aN p.sig c=0) (hh:aY z tb c):xU z tb (DK U p c g):=by obtain ⟨h1,h2,h3⟩:=LG hU h hc hw;have h4:xU z tb (IW U p c g):=qX (qX (p:={p with act:=p.act++[g]}) hp (λd hd=>((aHS hU h.r.so hc.g12 hc.1 (lW hw) c.length).1 d hd).2 z tb hm hh)) (λd hd=>((aHY hU h.r.so hc.g12 hc.1 (lW hw) c.length).1 d hd).2 z tb hm hh);exact KV hU (by rw [h2.a.sg];exact hm) h1 h4 hc (by rw [h2.a.sg];exact hw) hh (λk hk=>by rw [h3];exact hk)
theorem FO {p:Pf} {c:Cl} {g:Int} (hm:MR p.sig z tb) (h:kY p) (hp:xU z tb p) (hc:GC c) (hw:aN p.sig c=0) (hh:aY z tb c) (hg:g∉p.act++p.wai) (hk:0<=g/\g<p.sts.length) (hs:p.act.length+p.wai.length+1<=p.sts.length):xU z tb (rP U p c g):=by
 unfold rP;split
 · exact hp
 · exact YK hU hm (SN h hg hk hs) hp hc hw hh
theorem YB {p:Pf} {g:Int} (hm:MR p.sig z tb) (h:kY p) (hp:xU z tb p) (hg:g∉p.act++p.wai) (hk:0<=g/\g<p.sts.length) (hs:p.act.length+p.wai.length+1<=p.sts.length):xU z tb (oP U p g):=by
 obtain ⟨hc,hw⟩:=h.r.rng hk;have hh:aY z tb (bD p.sts g):=hp.cl (l:=[g]) (λk ZH=>by rw [List.mem_singleton.1 ZH];exact hk) (List.mem_singleton.2 rfl);have hsc:=IK h.r.s6 hc (eP hw);have hu:∀u∈qE p.sts p.act,u.1=false/\aY z tb [u]:=λu hu=>by
  obtain ⟨k,ZH,e⟩:=List.mem_filterMap.1 hu;obtain ⟨e1,e2⟩:=vM e;refine ⟨?_,?_⟩
  · rw [e1] at e2;simpa [nV] using e2
  · rw [←e1];exact hp.cl h.r.g.ga ZH
 unfold oP;split
 · exact hp
 · rename_i h0;have h0':=Decidable.not_not.1 h0;obtain ⟨h1,h2⟩:=G7 h.r.s6 (wN h.r) hsc hc.1 h0';have h3:=((aLO h.r.s6 (wN h.r) hm h.r.so hu hsc hc.1).2 h0').1 hh;split
   · exact FO hU hm h hp h1 h2 h3 hg hk hs
   · obtain ⟨q1,q2,q3,q4⟩:=rZ (r:=5) (fr:=g::xI p.sts p.act) h h1 h2;have q7:=qR (r:=5) (fr:=g::xI p.sts p.act) hp h3;split
     · rename_i ho;obtain ⟨q5,-,q6⟩:=(lS (r:=5) (fr:=g::xI p.sts p.act) h.r.g h1).2 ho;exact FO hU (g:=(p.sts.length:Int)) (by rw [q2.a.sg];exact hm) q1 q7 h1 (by rw [q2.a.sg];exact h2) h3 (by rw [q3,q4];exact vP h.r.g (Int.le_refl _)) ⟨by omega,by rw [q6];simp;omega⟩ q5
     · exact q7
theorem aBB {p:Pf} {n:Int} (hm:MR p.sig z tb) (h:kY p) (hp:xU z tb p):xU z tb (kE U p n).2:=by
 rcases qV (U:=U) p n with ⟨_,e⟩|⟨_,_,e⟩|⟨_,h1,h2,e⟩
 · rw [e];exact hp
 · rw [e];exact hp
 · rw [e];obtain ⟨q1,q2,q3,q4⟩:=RZ h h2;exact YB hU hm q1 hp q2 q3 q4
end
theorem aBI {s:List Int} {z:Int} {tb:List (List Int)} (hm:MR s z tb) {p:Pf} (h:kY p) (hp:xU z tb p):p.fnd= -1:=by
 rcases h.fd with h1|⟨h1,h2,h3⟩
 · exact h1
 · have h4:=hp.cl (l:=[p.fnd]) (λk ZH=>by rw [List.mem_singleton.1 ZH];exact ⟨h1,h2⟩) (List.mem_singleton.2 rfl);rw [h3] at h4;exact absurd h4 (aBP hm.z1 tb)
end
def NmL (c:Cl):Prop:=∀l∈c,Fo.norm l.2.1.2=l.2.1.2/\Fo.norm l.2.2.2=l.2.2.2
theorem aMK {s:List Int} (h6:s.length<=6) (hs:s.all bN=true):kY ⟨s,[],[],[],-1,false⟩:=
 ⟨⟨⟨λk h=>by simp at h,λk h=>by simp at h,λx h=>by simp at h,Nat.zero_le _,Nat.le_refl _⟩,h6,hs,λx h=>by simp at h⟩,List.nodup_nil,.inl rfl⟩
theorem aJH {s:List Int} {p:Pf} {i:Int} {c:Cl} (h:kY p) (hs:p.sig=s) (hn:NmL c) (ha:p.act=[]) (hl:p.wai.length=p.sts.length) (h8:p.sts.length<120):(gP s (0,p,i) c).1≠0/\(gP s (0,p,i) c).1=aN s c\/
  ((gP s (0,p,i) c).1=0/\aN s c=0/\kY (gP s (0,p,i) c).2.1/\(gP s (0,p,i) c).2.1.sig=s/\(gP s (0,p,i) c).2.1.act=[]/\(gP s (0,p,i) c).2.1.wai.length=(gP s (0,p,i) c).2.1.sts.length/\(gP s (0,p,i) c).2.1.sts.length<=p.sts.length+1/\
   (gP s (0,p,i) c).2.2=i+1/\∀z tb,xU z tb p->aY z tb c->xU z tb (gP s (0,p,i) c).2.1):=by
 subst hs;by_cases hw:aN p.sig c=0
 · have hg:=PH h.r.so hn hw;right;rcases tT hg with ⟨_,e⟩|⟨d,_,_,_,⟨_,e⟩|⟨e',_,he,e⟩⟩
   · have e1:gP p.sig (0,p,i) c=(0,p,i+1):=by
      unfold gP;rw [if_neg (by simp),if_neg (by rw [hw];simp),if_neg (by rw [e];simp),if_neg (by rw [e];simp)]
     rw [e1];exact ⟨rfl,hw,h,rfl,ha,hl,Nat.le_succ _,rfl,λ_ _ hp _=>hp⟩
   · have e1:gP p.sig (0,p,i) c=(0,p,i+1):=by
      unfold gP;rw [if_neg (by simp),if_neg (by rw [hw];simp),if_neg (by rw [e];simp),if_neg (by rw [e];simp)]
     rw [e1];exact ⟨rfl,hw,h,rfl,ha,hl,Nat.le_succ _,rfl,λ_ _ hp _=>hp⟩
   · have hr:=aBH hg hw (by rw [e]);have hh:=λ(z:Int) (tb:List (List Int))=>((K5 (z:=z) (tb:=tb) hg).2 (by rw [e])).1;rw [e] at hr hh;simp only at hr hh;have e1:gP p.sig (0,p,i) c=(0,{(bI p 1 [i] e').1 with wai:=(bI p 1 [i] e').1.wai++[((bI p 1 [i] e').1.sts.length:Int) - 1]},i+1):=by
      unfold gP;rw [if_neg (by simp),if_neg (by rw [hw];simp),if_neg (by rw [e];simp),if_pos (by rw [e])];simp only [e]
     rw [e1];obtain ⟨h1,h2,h3,h4⟩:=rZ (r:=1) (fr:=[i]) h he hr;rcases fM p 1 [i] e' with ⟨hx,_⟩|⟨_,e2⟩
     · omega
     · have e3:(bI p 1 [i] e').1.sts=p.sts++[(1,[i],e')]:=by rw [e2]
       have hlt:((bI p 1 [i] e').1.sts.length:Int) - 1=p.sts.length:=by rw [e3];simp
       refine ⟨rfl,hw,⟨⟨⟨h1.r.g.ga,λk hk=>?_,h1.r.g.gg,h1.r.g.gl,?_⟩,h1.r.s6,h1.r.so,h1.r.rt⟩,?_,h1.fd⟩,h2.a.sg,h3.trans ha,?_,by show (bI p 1 [i] e').1.sts.length<=_;rw [e3];simp,rfl,λz tb hp hc=>qR (r:=1) (fr:=[i]) hp (hh z tb hc)⟩
       · rcases List.mem_append.1 hk with hk|hk
         · exact h1.r.g.gw k hk
         · rw [List.mem_singleton.1 hk,hlt];simp only [e3,List.length_append,List.length_cons,List.length_nil];omega
       · show (bI p 1 [i] e').1.act.length+((bI p 1 [i] e').1.wai++[((bI p 1 [i] e').1.sts.length:Int) - 1]).length<=(bI p 1 [i] e').1.sts.length;rw [h3,h4,e3,ha];simp;omega
       · show ((bI p 1 [i] e').1.act++((bI p 1 [i] e').1.wai++[((bI p 1 [i] e').1.sts.length:Int) - 1])).Nodup;rw [h3,h4,hlt,←List.append_assoc];exact ER (a:=p.act++p.wai) (b:=[]) (by simpa using h.nd) (by rw [List.append_nil];exact vP h.r.g (Int.le_refl _))
       · show ((bI p 1 [i] e').1.wai++[((bI p 1 [i] e').1.sts.length:Int) - 1]).length=(bI p 1 [i] e').1.sts.length;rw [h4,e3];simp;exact hl
 · left;have e1:gP p.sig (0,p,i) c=(aN p.sig c,p,i):=by
    unfold gP;rw [if_neg (by simp),if_pos hw]
   rw [e1];exact ⟨hw,rfl⟩
theorem WE {s:List Int}:∀{cs:List Cl} {p:Pf} {i:Int},kY p->p.sig=s->(∀c∈cs,NmL c)->p.act=[]->p.wai.length=p.sts.length->p.sts.length+cs.length<=120->((cs.foldl (gP s) (0,p,i)).1≠0/\∃c∈cs,aN s c≠0/\(cs.foldl (gP s) (0,p,i)).1=aN s c)\/
  ((cs.foldl (gP s) (0,p,i)).1=0/\(∀c∈cs,aN s c=0)/\kY (cs.foldl (gP s) (0,p,i)).2.1/\(cs.foldl (gP s) (0,p,i)).2.1.sig=s/\(cs.foldl (gP s) (0,p,i)).2.1.act=[]/\∀z tb,xU z tb p->(∀c∈cs,aY z tb c)->xU z tb (cs.foldl (gP s) (0,p,i)).2.1)
 |[],p,i,h,hs,_,ha,_,_=> .inr ⟨rfl,λ_ h=>by simp at h,h,hs,ha,λ_ _ hp _=>hp⟩
 |c::cs,p,i,h,hs,hn,ha,hl,h8=>by
  simp only [List.length_cons] at h8;rcases aJH (i:=i) h hs (hn c (by simp)) ha hl (by omega) with ⟨h1,h2⟩|⟨h1,h2,h3,h4,h5,h6,h7,h9,h10⟩
  · left;rw [List.foldl_cons,J8 h1];exact ⟨h1,c,by simp,by rw [←h2];exact h1,h2⟩
  · rw [List.foldl_cons];have e:gP s (0,p,i) c=(0,(gP s (0,p,i) c).2.1,(gP s (0,p,i) c).2.2):=Prod.ext h1 rfl;rw [e];rcases WE (cs:=cs) (i:=(gP s (0,p,i) c).2.2) h3 h4 (λd hd=>hn d (by simp [hd])) h5 h6 (by omega) with ⟨q1,d,q2,q3,q4⟩|⟨q1,q2,q3,q4,q5,q6⟩
    · exact .inl ⟨q1,d,by simp [q2],q3,q4⟩
    · refine .inr ⟨q1,λd hd=>?_,q3,q4,q5,λz tb hp hc=>q6 z tb (h10 z tb hp (hc c (by simp))) (λd hd=>hc d (by simp [hd]))⟩;rcases List.mem_cons.1 hd with rfl|hd
      · exact h2
      · exact q2 d hd
theorem WG {s:List Int} {cs:List Cl} (hn:∀c∈cs,NmL c):(pJ s cs).1≠0/\¬(gX s=0/\cs.length<=8/\∀c∈cs,aN s c=0)\/
  ((pJ s cs).1=0/\gX s=0/\cs.length<=8/\(∀c∈cs,aN s c=0)/\kY (pJ s cs).2/\(pJ s cs).2.sig=s/\(pJ s cs).2.act=[]/\∀z tb,(∀c∈cs,aY z tb c)->xU z tb (pJ s cs).2):=by
 unfold pJ;by_cases h1:gX s≠0
 · rw [if_pos h1];exact .inl ⟨h1,λh=>h1 h.1⟩
 rw [if_neg h1];by_cases h2:8<cs.length
 · rw [if_pos h2];exact .inl ⟨by simp,λh=>by omega⟩
 rw [if_neg h2];have h0:=Decidable.not_not.1 h1;have hok:=GY h0;rcases WE (s:=s) (cs:=cs) (p:=⟨s,[],[],[],-1,false⟩) (i:=0) (aMK hok.2.1 hok.1) rfl hn rfl rfl (by simp;omega) with ⟨q1,d,q2,q3,q4⟩|⟨q1,q2,q3,q4,q5,q6⟩
 · rw [if_pos q1];exact .inl ⟨q1,λh=>q3 (h.2.2 d q2)⟩
 · rw [if_neg (by simpa using q1)];exact .inr ⟨rfl,h0,by omega,q2,q3,q4,q5,λz tb hc=>q6 z tb (λx hx=>by simp at hx) hc⟩
end Go.Proofs.YtoklbpbmghbhnaeGreat
