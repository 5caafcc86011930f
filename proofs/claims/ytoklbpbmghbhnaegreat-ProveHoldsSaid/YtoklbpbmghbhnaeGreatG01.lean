import Derived.Test.YtoklbpbmghbhnaeGreatRows
import Derived.WalkKit
import Derived.WalkSpells
import Derived.WalkLawsBesides
import Derived.Deep.Trees
import Derived.Deep.Slices
import Derived.ProofKit
import Derived.Deep.QuietTactic
import Derived.BigQuiet
namespace Go.Proofs.YtoklbpbmghbhnaeGreat
set_option maxRecDepth 100000
set_option maxHeartbeats 1000000
open Go.RowKit Go.Deep Go.ChangeShapes Go.WideShapes
theorem Tryz.cells84:Tryz.prog.cellsOf 84=3:=by kernel_rfl
theorem Tryz.cells82:Tryz.prog.cellsOf 82=1:=by kernel_rfl
theorem Tryz.cells3:Tryz.prog.cellsOf 3=1:=by kernel_rfl
theorem Tryz.cells4:Tryz.prog.cellsOf 4=1:=by kernel_rfl
theorem aB {p:Prop} (h:p):Hid p:=h
abbrev Fo:=BT (Bool×Int)
def Fo.len:Fo->Nat
 | .nil=>0
 | .node _ _ _ _ r=>Fo.len r+1
def uL (w:World):Fo->Nat->Nat->Prop
 | .nil,_,_=>True
 | .node _ _ x k r,b,o=>w.cell? ⟨b,o,none⟩=some (.bool x.1)/\w.cell? ⟨b,o+1,none⟩=some (.int .i64 x.2)/\
  (∃(a:Option Addr) (c b' o':Nat),w.cell? ⟨b,o+2,none⟩=some (.slice a (Fo.len k) c)/\(0<Fo.len k->a=some ⟨b',o',none⟩)/\Fo.len k<=c/\c<=maxLen/\uL w k b' o')/\uL w r b (o+3)
def cO (w:World) (k:Fo) (v:Value):Prop:=
 ∃(a:Option Addr) (c b o:Nat),v= .slice a (Fo.len k) c/\(0<Fo.len k->a=some ⟨b,o,none⟩)/\Fo.len k<=c/\c<=maxLen/\uL w k b o
theorem uL.node {w:World} {p q:Nat} {x:Bool×Int} {k r:Fo} {b o:Nat} (h:uL w (.node p q x k r) b o):
 w.cell? ⟨b,o,none⟩=some (.bool x.1)/\w.cell? ⟨b,o+1,none⟩=some (.int .i64 x.2)/\(∃v,w.cell? ⟨b,o+2,none⟩=some v/\cO w k v)/\uL w r b (o+3):=by
 obtain ⟨h0,h1,⟨a,c,b',o',h2,h3,h4,h5,h6⟩,h7⟩:=h;exact ⟨h0,h1,⟨_,h2,a,c,b',o',rfl,h3,h4,h5,h6⟩,h7⟩
theorem uL.mk {w:World} {p q:Nat} {x:Bool×Int} {k r:Fo} {b o:Nat} {v:Value} (h0:w.cell? ⟨b,o,none⟩=some (.bool x.1)) (h1:w.cell? ⟨b,o+1,none⟩=some (.int .i64 x.2))
 (h2:w.cell? ⟨b,o+2,none⟩=some v) (h3:cO w k v) (h4:uL w r b (o+3)):uL w (.node p q x k r) b o:=by
 obtain ⟨a,c,b',o',rfl,h5,h6,h7,h8⟩:=h3;exact ⟨h0,h1,⟨a,c,b',o',h2,h5,h6,h7,h8⟩,h4⟩
theorem uL.later {w w':World} (hc:∀a v,w.cell? a=some v->w'.cell? a=some v):∀{F:Fo} {b o:Nat},uL w F b o->uL w' F b o
 | .nil,_,_,_=>trivial
 | .node _ _ _ _ _,_,_,⟨h0,h1,⟨a,c,b',o',h2,h3,h4,h5,h6⟩,h7⟩=>⟨hc _ _ h0,hc _ _ h1,⟨a,c,b',o',hc _ _ h2,h3,h4,h5,uL.later hc h6⟩,uL.later hc h7⟩
theorem cO.later {w w':World} (hc:∀a v,w.cell? a=some v->w'.cell? a=some v) {k:Fo} {v:Value} (h:cO w k v):cO w' k v:=by obtain ⟨a,c,b,o,rfl,h3,h4,h5,h6⟩:=h;exact ⟨a,c,b,o,rfl,h3,h4,h5,uL.later hc h6⟩
theorem aA {w w':World} (hb:Below w.heap.size w w'):∀a v,w.cell? a=some v->w'.cell? a=some v:=by intro a v h;rw [hb.cell (World.block_lt_of_cell? _ _ h)];exact h
theorem cO.below {w w':World} (hb:Below w.heap.size w w') {k:Fo} {v:Value} (h:cO w k v):cO w' k v:=h.later (aA hb)
theorem uL.below {w w':World} (hb:Below w.heap.size w w') {k:Fo} {b o:Nat} (h:uL w k b o):uL w' k b o:=uL.later (aA hb) h
def Fo.list:Fo->List ((Bool×Int)×Fo)
 | .nil=>[]
 | .node _ _ x k r=>(x,k)::Fo.list r
theorem Fo.len_list:∀F:Fo,F.list.length=Fo.len F
 | .nil=>rfl
 | .node _ _ _ _ r=>by simp [Fo.list,Fo.len,Fo.len_list r]
theorem Fo.ind {p:Bool×Int->Fo->Prop} (h:∀x k,(∀y∈k.list,p y.1 y.2)->p x k):∀(F:Fo),∀y∈F.list,p y.1 y.2
 | .nil,y,hy=>by simp [Fo.list] at hy
 | .node _ _ x k r,y,hy=>by
  simp only [Fo.list,List.mem_cons] at hy;rcases hy with rfl|hy
  · exact h x k (Fo.ind h k)
  · exact Fo.ind h r y hy
theorem Fo.ind1 {p:Bool×Int->Fo->Prop} (h:∀x k,(∀y∈k.list,p y.1 y.2)->p x k) (x:Bool×Int) (k:Fo):p x k:=h x k (Fo.ind h k)
theorem uL.at {w:World}:∀{F:Fo} {b o i:Nat} {x:Bool×Int} {k:Fo},uL w F b o->F.list[i]?=some (x,k)->
 w.cell? ⟨b,o+i*3,none⟩=some (.bool x.1)/\w.cell? ⟨b,o+i*3+1,none⟩=some (.int .i64 x.2)/\∃v,w.cell? ⟨b,o+i*3+2,none⟩=some v/\cO w k v
 | .nil,_,_,_,_,_,_,h=>by simp [Fo.list] at h
 | .node _ _ y k' r,b,o,0,x,k,hF,h=>by simp only [Fo.list,List.getElem?_cons_zero,Option.some.injEq,Prod.mk.injEq] at h;obtain ⟨rfl,rfl⟩:=h;obtain ⟨h0,h1,h2,_⟩:=hF.node;simpa using ⟨h0,h1,h2⟩
 | .node _ _ y k' r,b,o,i+1,x,k,hF,h=>by
  simp only [Fo.list,List.getElem?_cons_succ] at h;obtain ⟨_,_,_,h3⟩:=hF.node;have:=uL.at h3 h;have e:o+3+i*3=o+(i+1)*3:=by omega
  rwa [e] at this
theorem aW {w w1:World} {ob:Obj} (h:Below (w.alloc ob).heap.size (w.alloc ob) w1):Below w.heap.size w w1:=
 ((Below.refl w.heap.size w).alloc (Nat.le_refl _) ob).trans (h.mono (by simp))
theorem aC {w w1 w2:World} (h:Below w.heap.size w w1) (h2:Below w1.heap.size w1 w2):Below w.heap.size w w2:=h.trans (h2.mono h.size)
theorem aD (w:World) (ob:Obj):Below w.heap.size w (w.alloc ob):=(Below.refl _ _).alloc (Nat.le_refl _) ob
theorem cO.alloc {w:World} {k:Fo} {v:Value} (h:cO w k v) (ob:Obj):cO (w.alloc ob) k v:=h.below (aD w ob)
theorem nI {w wr:World} {x y z:Value} {T:TypeId} (h:Below (w.heap.size+1) (w.alloc (.cells #[x,y,z] T)) wr):
 wr.cell? ⟨w.heap.size,0,none⟩=some x/\wr.cell? ⟨w.heap.size,1,none⟩=some y/\wr.cell? ⟨w.heap.size,2,none⟩=some z/\Below w.heap.size w wr/\w.heap.size<wr.heap.size:=by
 refine ⟨?_,?_,?_,(aD w _).trans (h.mono (by omega)),by have:=h.size;simp at this;omega⟩
 · rw [h.cell (by simp)];simp
 · rw [h.cell (by simp)];simp
 · rw [h.cell (by simp)];simp
theorem iN (v:Bool) (n:Int) (a:Value) (w:World):
 Calls Tryz.prog 156 #[.agg #[.bool v,.int .i64 n,a]] w λe w'=>e= .returned (if v then .slice none 0 0 else a)/\Below w.heap.size w w':=by
 cases v
 · go_enter Tryz.func156,Tryz.ntmps156
   go_wp2
   go_ret;exact ⟨rfl,(Below.refl _ _).alloc (Nat.le_refl _) _⟩
 · go_enter Tryz.func156,Tryz.ntmps156
   go_wp2
   go_ret;exact ⟨rfl,(Below.refl _ _).alloc (Nat.le_refl _) _⟩
def Fo.sizes:Fo->Nat
 | .nil=>0
 | .node _ _ x k r=>1+(if x.1 then 0 else Fo.sizes k)+Fo.sizes r
def Y4 (x:Bool×Int) (k:Fo):Nat:=1+(if x.1 then 0 else Fo.sizes k)
def ZT (k:Fo) (j:Nat):Nat:=1+((k.list.take j).map λy=>Y4 y.1 y.2).sum
theorem KX:∀F:Fo,Fo.sizes F=(F.list.map λy=>Y4 y.1 y.2).sum
 | .nil=>rfl
 | .node _ _ x k r=>by simp [Fo.sizes,Fo.list,Y4,KX r]
theorem aEN (k:Fo):ZT k 0=1:=rfl
theorem aEO {k:Fo} {j:Nat} {x:Bool×Int} {y:Fo} (h:k.list[j]?=some (x,y)):ZT k (j+1)=ZT k j+Y4 x y:=by unfold ZT;rw [List.take_add_one,h];simp;omega
theorem aIG (k:Fo):ZT k (Fo.len k)=1+Fo.sizes k:=by unfold ZT;rw [←Fo.len_list,List.take_length,KX]
theorem KP (a b:Int):wrap64 (wrap64 a+wrap64 b)=wrap64 (a+b):=by unfold wrap64;omega
theorem tZ {n:Int} (h0:0<=n) (h1:n<9223372036854775808):wrap64 n=n:=by unfold wrap64;omega
theorem yN:wrap64 ((1:Nat):Int)=1:=by unfold wrap64;omega
def XT (x:Bool×Int) (k:Fo):Prop:=∀(a:Value) (w:World),cO w k a->
 Calls Tryz.prog 125 #[.agg #[.bool x.1,.int .i64 x.2,a]] w λe w'=>e= .returned (.int .i64 (wrap64 (Y4 x k:Nat)))/\Below w.heap.size w w'
theorem VO (x:Bool×Int) (k:Fo):XT x k:=by
 refine Fo.ind1 (p:=XT) ?_ x k;clear x k;intro x k ih a w hS;obtain ⟨v,n⟩:=x;cases v
 · obtain ⟨ad,c,b,o,rfl,had,hlc,hcm,hF⟩:=hS;have Hl:=aB (Fo.len_list k);have dC:=aB (aIG k);have HI:=aB ih;have bP:Hid (Y4 (false,n) k=1+Fo.sizes k):=by simp [Y4,Hid]
   clear ih;unfold maxLen at hcm;go_enter Tryz.func125,Tryz.ntmps125
   go_wp2_with (go_at_call 156;refine (iN _ _ _ _).mono ?_;rintro e w1 ⟨rfl,hb1⟩)
   have hB:Below w.heap.size w w1:=aW hb1;clear hb1
   go_loopw [3,9] (λs i wr=>∃j:Nat,j<=Fo.len k/\i= .int .i64 j/\s= .int .i64 (wrap64 (ZT k j:Nat))/\Below w.heap.size w wr) (λ_ i _=>Fo.len k - (intOf i).toNat)
   case atStart=>exact ⟨0,Nat.zero_le _,rfl,by rw [aEN,yN],hB⟩
   case round=>
    obtain ⟨j,hj,rfl,rfl,hBr⟩:=hrel;by_cases hlt:j<Fo.len k
    · have hlt':(j:Int)<(Fo.len k:Int):=by omega
      obtain ⟨⟨⟨yv,yn⟩,yk⟩,hy⟩:∃y,k.list[j]?=some y:=⟨k.list[j]'(by rw [Hl.out];exact hlt),by simp⟩;obtain ⟨c0,c1,bB,c2,kW⟩:=(hF.below hBr).at hy;have ha:ad=some ⟨b,o,none⟩:=had (by omega);subst ha;have HS:=aB kW;obtain ⟨ya,yc,yb,yo,rfl,-,-,-,-⟩:=kW;have Hy:=aB hy;clear hy
      go_wp2_with fail
      refine (HI.out ((yv,yn),yk) (List.mem_of_getElem? Hy.out) _ _ (HS.out.alloc _)).mono ?_;rintro e w2 ⟨rfl,hb2⟩
      go_wp2_with fail
      go_roundw
      case rel=>exact ⟨j+1,by omega,by go_num,by rw [aEO Hy.out,KP,Int.natCast_add],aC hBr (aW hb2)⟩
      case measure=>simp [intOf];omega
    · have lK:j=Fo.len k:=by omega
      have Hj:=aB lK;clear lK
      go_wp2_with fail
      go_ret;refine ⟨?_,hBr⟩;rw [bP.out,←dC.out,←Hj.out];rfl
 · go_enter Tryz.func125,Tryz.ntmps125
   go_wp2_with (go_at_call 156;refine (iN _ _ _ _).mono ?_;rintro e w1 ⟨rfl,hb1⟩)
   have hB:Below w.heap.size w w1:=aW hb1;clear hb1
   go_loopw [3,9] (λs i wr=>i= .int .i64 0/\s= .int .i64 1/\Below w.heap.size w wr) (λ_ _ _=>0)
   case atStart=>exact ⟨rfl,rfl,hB⟩
   case round=>
    obtain ⟨rfl,rfl,hBr⟩:=hrel
    go_wp2_with fail
    go_ret;exact ⟨by rw [show Y4 (true,n) k=1 from rfl,yN];rfl,hBr⟩
def Fo.sizesR:Fo->Nat
 | .nil=>0
 | .node _ _ _ k r=>1+Fo.sizesR k+Fo.sizesR r
def aM (k:Fo):Nat:=1+Fo.sizesR k
def vE (k:Fo) (j:Nat):Nat:=1+((k.list.take j).map λy=>aM y.2).sum
theorem vW:∀F:Fo,Fo.sizesR F=(F.list.map λy=>aM y.2).sum
 | .nil=>rfl
 | .node _ _ x k r=>by simp [Fo.sizesR,Fo.list,aM,vW r]
theorem aAT (k:Fo):vE k 0=1:=rfl
theorem yQ {k:Fo} {j:Nat} {x:Bool×Int} {y:Fo} (h:k.list[j]?=some (x,y)):vE k (j+1)=vE k j+aM y:=by unfold vE;rw [List.take_add_one,h];simp;omega
theorem DZ (k:Fo):vE k (Fo.len k)=aM k:=by rw [vE,aM,←Fo.len_list,List.take_length,vW]
def P7 (x:Bool×Int) (k:Fo):Prop:=∀(a:Value) (w:World),cO w k a->
 Calls Tryz.prog 57 #[.agg #[.bool x.1,.int .i64 x.2,a]] w λe w'=>e= .returned (.int .i64 (wrap64 (aM k:Nat)))/\Below w.heap.size w w'
theorem aEY (x:Bool×Int) (k:Fo):P7 x k:=by
 refine Fo.ind1 (p:=P7) ?_ x k;clear x k;intro x k ih a w hS;obtain ⟨v,n⟩:=x;obtain ⟨ad,c,b,o,rfl,had,hlc,hcm,hF⟩:=hS;have Hl:=aB (Fo.len_list k);have dC:=aB (DZ k);have HI:=aB ih;clear ih;unfold maxLen at hcm;go_enter Tryz.func57,Tryz.ntmps57
 go_wp2_with fail
 go_loopw [3,8] (λs i wr=>∃j:Nat,j<=Fo.len k/\i= .int .i64 j/\s= .int .i64 (wrap64 (vE k j:Nat))/\Below (w.heap.size+1) (w.alloc (.cells #[.bool v,.int .i64 n,.slice ad (Fo.len k) c] 84)) wr) (λ_ i _=>Fo.len k - (intOf i).toNat)
 case atStart=>exact ⟨0,Nat.zero_le _,rfl,by rw [aAT,yN],Below.refl _ _⟩
 case round=>
  obtain ⟨j,hj,rfl,rfl,hBx⟩:=hrel;obtain ⟨q0,q1,q2,hBr,aTD⟩:=nI hBx;by_cases hlt:j<Fo.len k
  · have hlt':(j:Int)<(Fo.len k:Int):=by omega
    obtain ⟨⟨⟨yv,yn⟩,yk⟩,hy⟩:∃y,k.list[j]?=some y:=⟨k.list[j]'(by rw [Hl.out];exact hlt),by simp⟩;obtain ⟨c0,c1,bB,c2,kW⟩:=(hF.below hBr).at hy;have ha:ad=some ⟨b,o,none⟩:=had (by omega);subst ha;have HS:=aB kW;obtain ⟨ya,yc,yb,yo,rfl,-,-,-,-⟩:=kW;have Hy:=aB hy;clear hy
    go_wp2_with fail
    refine (HI.out ((yv,yn),yk) (List.mem_of_getElem? Hy.out) _ _ HS.out).mono ?_;rintro e w2 ⟨rfl,hb2⟩
    go_wp2_with fail
    go_roundw
    case rel=>exact ⟨j+1,by omega,by go_num,by rw [yQ Hy.out,KP,Int.natCast_add],hBx.trans (hb2.mono (by omega))⟩
    case measure=>simp [intOf];omega
  · have lK:j=Fo.len k:=by omega
    have Hj:=aB lK;clear lK
    go_wp2_with fail
    go_ret;refine ⟨?_,hBr⟩;rw [←dC.out,←Hj.out];rfl
def iK (w:World) (l:List Int) (v:Value):Prop:=
 ∃(a:Option Addr) (c b o:Nat),v= .slice a l.length c/\(0<l.length->a=some ⟨b,o,none⟩)/\l.length<=c/\c<=maxLen/\∀i,i<l.length->w.cell? ⟨b,o+i,none⟩=some (.int .i64 (l.getD i 0))
theorem iK.later {w w':World} (hc:∀a v,w.cell? a=some v->w'.cell? a=some v) {l:List Int} {v:Value} (h:iK w l v):iK w' l v:=by obtain ⟨a,c,b,o,rfl,h3,h4,h5,h6⟩:=h;exact ⟨a,c,b,o,rfl,h3,h4,h5,λi hi=>hc _ _ (h6 i hi)⟩
theorem iK.below {w w':World} (hb:Below w.heap.size w w') {l:List Int} {v:Value} (h:iK w l v):iK w' l v:=h.later (aA hb)
theorem iK.alloc {w:World} {l:List Int} {v:Value} (h:iK w l v) (ob:Obj):iK (w.alloc ob) l v:=h.below (aD w ob)
def bN (x:Int):Bool:=decide (0<=x/\x<=2)
def gX (s:List Int):Int:=if s.length=0\/6<s.length then 5 else if s.all bN then 0 else 3
def aGL (s:List Int) (j:Nat):Prop:=∀i,i<j->bN (s.getD i 0)=true
theorem V9 {s:List Int} (h:aGL s s.length):s.all bN=true:=by rw [List.all_eq_true];intro x hx;obtain ⟨i,hi,rfl⟩:=List.mem_iff_getElem.1 hx;have:=h i hi;simpa [List.getD_eq_getElem?_getD,hi] using this
theorem WA {s:List Int} {j:Nat} (hj:j<s.length) (h:bN (s.getD j 0)=false):s.all bN=false:=by rw [Bool.eq_false_iff];intro h2;rw [List.all_eq_true] at h2;have:=h2 (s[j]) (List.getElem_mem hj);simp [List.getD_eq_getElem?_getD,hj] at h;rw [this] at h;cases h
theorem DN (s:List Int) (v:Value) (w:World) (h:iK w s v):Calls Tryz.prog 24 #[v] w λe w'=>e= .returned (.int .i64 (gX s))/\w'=w:=by
 obtain ⟨ad,c,b,o,rfl,had,hlc,hcm,hF⟩:=h;unfold maxLen at hcm;by_cases h0:s.length=0
 · have Hf:Hid (gX s=5):=by simp [Hid,gX,h0]
   have h0':((s.length:Int)==0)=true:=by rw [beq_iff_eq];omega
   go_enter Tryz.func24,Tryz.ntmps24
   go_wp2_with fail
   go_ret;exact ⟨by rw [Hf.out];rfl,rfl⟩
 have h0':((s.length:Int)==0)=false:=by rw [beq_eq_false_iff_ne];omega
 by_cases h6:6<s.length
 · have Hf:Hid (gX s=5):=by simp [Hid,gX,h6]
   have h6':(6:Int)<(s.length:Int):=by omega
   go_enter Tryz.func24,Tryz.ntmps24
   go_wp2_with fail
   go_ret;exact ⟨by rw [Hf.out];rfl,rfl⟩
 have ha:ad=some ⟨b,o,none⟩:=had (by omega);subst ha;have h6':¬(6:Int)<(s.length:Int):=by omega
 have Hw:Hid (gX s=if s.all bN then 0 else 3):=by simp [Hid,gX,h6,h0]
 have HF:=aB hF;clear had hF;go_enter Tryz.func24,Tryz.ntmps24
 go_wp2_with fail
 go_loop [15] (λi=>∃j:Nat,j<=s.length/\i= .int .i64 j/\aGL s j) (λi=>s.length - (intOf i).toNat)
 case atStart=>exact ⟨0,Nat.zero_le _,rfl,λi hi=>by omega⟩
 case round=>
  obtain ⟨j,hj,rfl,hok⟩:=hrel;by_cases hlt:j<s.length
  · have hlt':(j:Int)<(s.length:Int):=by omega
    have hc:=HF.out j hlt;have MS:=aB (WA hlt);have hz:bN (s.getD j 0)=decide (0<=s.getD j 0/\s.getD j 0<=2):=rfl;have Hn:Hid (bN (s.getD j 0)=true->aGL s (j+1)):=λh i hi=>by
     by_cases e:i=j
     · rw [e];exact h
     · exact hok i (by omega)
    generalize s.getD j 0=z at*;have Hz:=aB hz;clear hz hok;by_cases hz0:z<0
    · have Hf:Hid (gX s=3):=by
       have:bN z=false:=by rw [Hz.out];simp;omega
       have:=MS.out this;rw [Hid,Hw.out,this];rfl
      go_wp2_with fail
      go_ret;exact ⟨by rw [Hf.out];rfl,rfl⟩
    by_cases hz2:2<z
    · have Hf:Hid (gX s=3):=by
       have:bN z=false:=by rw [Hz.out];simp;omega
       have:=MS.out this;rw [Hid,Hw.out,this];rfl
      go_wp2_with fail
      go_ret;exact ⟨by rw [Hf.out];rfl,rfl⟩
    go_wp2_with fail
    go_round
    case rel=>exact ⟨j+1,by omega,by go_num,Hn.out (by rw [Hz.out];simp;omega)⟩
    case measure=>simp [intOf];omega
  · have Hf:Hid (gX s=0):=by
     have e:j=s.length:=by omega
     rw [e] at hok;have:=V9 hok;rw [Hid,Hw.out,this];rfl
    go_wp2_with fail
    go_ret;exact ⟨by rw [Hf.out];rfl,rfl⟩
theorem UX (s:List Int) (v:Value) (w:World) (h:iK w s v):Calls Tryz.prog 21 #[v] w λe w'=>e= .returned (.int .i64 (gX s))/\w'=w:=by
 obtain ⟨ad,c,b,o,rfl,had,hlc,hcm,hF⟩:=h;unfold maxLen at hcm;by_cases h0:s.length=0
 · have Hf:Hid (gX s=5):=by simp [Hid,gX,h0]
   have h0':(s.length:Int)<1:=by omega
   go_enter Tryz.func21,Tryz.ntmps21
   go_wp2_with fail
   go_ret;exact ⟨by rw [Hf.out];rfl,rfl⟩
 have h0':¬(s.length:Int)<1:=by omega
 by_cases h6:6<s.length
 · have Hf:Hid (gX s=5):=by simp [Hid,gX,h6]
   have h6':(6:Int)<(s.length:Int):=by omega
   go_enter Tryz.func21,Tryz.ntmps21
   go_wp2_with fail
   go_ret;exact ⟨by rw [Hf.out];rfl,rfl⟩
 have ha:ad=some ⟨b,o,none⟩:=had (by omega);subst ha;have h6':¬(6:Int)<(s.length:Int):=by omega
 have Hw:Hid (gX s=if s.all bN then 0 else 3):=by simp [Hid,gX,h6,h0]
 have HF:=aB hF;clear had hF;go_enter Tryz.func21,Tryz.ntmps21
 go_wp2_with fail
 go_loop [15] (λi=>∃j:Nat,j<=s.length/\i= .int .i64 j/\aGL s j) (λi=>s.length - (intOf i).toNat)
 case atStart=>exact ⟨0,Nat.zero_le _,rfl,λi hi=>by omega⟩
 case round=>
  obtain ⟨j,hj,rfl,hok⟩:=hrel;by_cases hlt:j<s.length
  · have hlt':(j:Int)<(s.length:Int):=by omega
    have hc:=HF.out j hlt;have MS:=aB (WA hlt);have hz:bN (s.getD j 0)=decide (0<=s.getD j 0/\s.getD j 0<=2):=rfl;have Hn:Hid (bN (s.getD j 0)=true->aGL s (j+1)):=λh i hi=>by
     by_cases e:i=j
     · rw [e];exact h
     · exact hok i (by omega)
    generalize s.getD j 0=z at*;have Hz:=aB hz;clear hz hok;by_cases hz0:z<0
    · have Hf:Hid (gX s=3):=by
       have:bN z=false:=by rw [Hz.out];simp;omega
       have:=MS.out this;rw [Hid,Hw.out,this];rfl
      go_wp2_with fail
      go_ret;exact ⟨by rw [Hf.out];rfl,rfl⟩
    by_cases hz2:2<z
    · have Hf:Hid (gX s=3):=by
       have:bN z=false:=by rw [Hz.out];simp;omega
       have:=MS.out this;rw [Hid,Hw.out,this];rfl
      go_wp2_with fail
      go_ret;exact ⟨by rw [Hf.out];rfl,rfl⟩
    go_wp2_with fail
    go_round
    case rel=>exact ⟨j+1,by omega,by go_num,Hn.out (by rw [Hz.out];simp;omega)⟩
    case measure=>simp [intOf];omega
  · have Hf:Hid (gX s=0):=by
     have e:j=s.length:=by omega
     rw [e] at hok;have:=V9 hok;rw [Hid,Hw.out,this];rfl
    go_wp2_with fail
    go_ret;exact ⟨by rw [Hf.out];rfl,rfl⟩
def bM (s:List Int) (x:Bool×Int) (n:Nat):Int:=
 if x.1 then (if x.2<0\/4<x.2 then 3 else if n=0 then 0 else 5)
 else if x.2<0\/(s.length:Int)<=x.2 then 7 else if (n:Int)=s.getD x.2.toNat 0 then 0 else 5
def gH (s:List Int):Fo->Int->Int
 | .nil,_=>0
 | .node _ _ x k r,d=>
  if (if 12<d then 4 else if bM s x (Fo.len k)≠0 then bM s x (Fo.len k) else gH s k (d+1))≠0
  then (if 12<d then 4 else if bM s x (Fo.len k)≠0 then bM s x (Fo.len k) else gH s k (d+1)) else gH s r d
def bR (s:List Int) (x:Bool×Int) (k:Fo) (d:Int):Int:=
 if 12<d then 4 else if bM s x (Fo.len k)≠0 then bM s x (Fo.len k) else gH s k (d+1)
theorem nL (s:List Int) (p q:Nat) (x:Bool×Int) (k r:Fo) (d:Int):gH s (.node p q x k r) d=if bR s x k d≠0 then bR s x k d else gH s r d:=rfl
theorem pU:∀{k:Fo},Fo.len k=0->k= .nil
 | .nil,_=>rfl
 | .node _ _ _ _ r,h=>by simp [Fo.len] at h
def wOk (s:List Int) (k:Fo) (d:Int) (j:Nat):Prop:=∀i,i<j->∀y,k.list[i]?=some y->bR s y.1 y.2 d=0
theorem DR {s:List Int} {d:Int}:∀{k:Fo},wOk s k d (Fo.len k)->gH s k d=0
 | .nil,_=>rfl
 | .node _ _ x k r,h=>by have h0:=h 0 (by simp [Fo.len]) (x,k) (by simp [Fo.list]);rw [nL,h0];simp only [ne_eq,not_true_eq_false,if_false];exact DR λi hi y hy=>h (i+1) (by simp [Fo.len];omega) y (by simpa [Fo.list] using hy)
theorem DT {s:List Int} {d:Int}:∀{k:Fo} {j:Nat} {y:(Bool×Int)×Fo},wOk s k d j->k.list[j]?=some y->bR s y.1 y.2 d≠0->gH s k d=bR s y.1 y.2 d
 | .nil,_,_,_,h,_=>by simp [Fo.list] at h
 | .node _ _ x k r,0,y,_,h,he=>by simp only [Fo.list,List.getElem?_cons_zero,Option.some.injEq] at h;subst h;rw [nL,if_pos he]
 | .node _ _ x k r,j+1,y,hok,h,he=>by have h0:=hok 0 (by omega) (x,k) (by simp [Fo.list]);rw [nL,h0];simp only [ne_eq,not_true_eq_false,if_false];exact DT (j:=j) (λi hi y hy=>hok (i+1) (by omega) y (by simpa [Fo.list] using hy)) (by simpa [Fo.list] using h) he
theorem UZ {s:List Int} {k:Fo} {d:Int} {j:Nat} {y:(Bool×Int)×Fo} (h:wOk s k d j) (hy:k.list[j]?=some y) (h0:bR s y.1 y.2 d=0):wOk s k d (j+1):=by
 intro i hi z hz;by_cases e:i=j
 · subst e;rw [hy] at hz;cases hz;exact h0
 · exact h i (by omega) z hz
def P5 (x:Bool×Int) (k:Fo):Prop:=∀(s:List Int) (sv a:Value) (d:Int) (w:World),iK w s sv->cO w k a->0<=d->d<=13->
 Calls Tryz.prog 95 #[sv,.agg #[.bool x.1,.int .i64 x.2,a],.int .i64 d] w λe w'=>e= .returned (.int .i64 (bR s x k d))/\Below w.heap.size w w'
theorem aD8 (x:Bool×Int) (k:Fo):P5 x k:=by
 refine Fo.ind1 (p:=P5) ?_ x k;clear x k;intro x k ih s sv a d w hN hS hd0 aTQ;have HI:=aB ih;have HN:=aB hN;clear ih;obtain ⟨v,n⟩:=x;obtain ⟨ad,c,b,o,rfl,had,hlc,hcm,hF⟩:=hS;obtain ⟨sa,sc,sb,so,rfl,hsa,aKL,QM,hsF⟩:=hN;unfold maxLen at hcm QM;have Hl:=aB (Fo.len_list k);have HsF:=aB hsF;clear hsF;by_cases hd:12<d
 · have Hf:Hid (bR s (v,n) k d=4):=by simp [Hid,bR,hd]
   go_enter Tryz.func95,Tryz.ntmps95
   go_wp2_with fail
   go_ret;exact ⟨by rw [Hf.out];rfl,aD _ _⟩
 have Ht:Hid (bR s (v,n) k d=if bM s (v,n) (Fo.len k)≠0 then bM s (v,n) (Fo.len k) else gH s k (d+1)):=by simp [Hid,bR,hd]
 cases v
 · have GR:Hid (bM s (false,n) (Fo.len k)=if n<0\/(s.length:Int)<=n then 7 else if (Fo.len k:Int)=s.getD n.toNat 0 then 0 else 5):=by simp [Hid,bM]
   by_cases hn0:n<0
   · have Hf:Hid (bR s (false,n) k d=7):=by rw [Hid,Ht.out,GR.out];simp [hn0]
     go_enter Tryz.func95,Tryz.ntmps95
     go_wp2_with fail
     go_ret;exact ⟨by rw [Hf.out];rfl,aD _ _⟩
   by_cases hns:(s.length:Int)<=n
   · have Hf:Hid (bR s (false,n) k d=7):=by rw [Hid,Ht.out,GR.out];simp [hns]
     go_enter Tryz.func95,Tryz.ntmps95
     go_wp2_with fail
     go_ret;exact ⟨by rw [Hf.out];rfl,aD _ _⟩
   have aTA:n<(s.length:Int):=by omega
   have aGU:0<=n:=by omega
   have aGQ:sa=some ⟨sb,so,none⟩:=hsa (by omega);subst aGQ;have hcell:=HsF.out n.toNat (by omega);have hcell1:(w.alloc (.cells #[.bool false,.int .i64 n,.slice ad (Fo.len k) c] 84)).cell? ⟨sb,so+n.toNat,none⟩=some (.int .i64 (s.getD n.toNat 0)):=aA (aD _ _) _ _ hcell;generalize s.getD n.toNat 0=m at*;clear hsa;by_cases hm:(Fo.len k:Int)=m
   · have hmb:((Fo.len k:Int)!=m)=false:=by simp [hm]
     have Hf:Hid (bR s (false,n) k d=gH s k (d+1)):=by rw [Hid,Ht.out,GR.out];simp [hn0,hns,hm]
     have HF:=aB hF;clear hm hF hcell;go_enter Tryz.func95,Tryz.ntmps95
     go_wp2_with fail
     go_quiet (fail)
     go_wp2_with fail
     go_loopw [48] (λi wr=>∃j:Nat,j<=Fo.len k/\i= .int .i64 j/\wOk s k (d+1) j/\Below w.heap.size w wr) (λi _=>Fo.len k - (intOf i).toNat)
     case atStart=>exact ⟨0,Nat.zero_le _,rfl,λi hi=>by omega,below_drewN (aD _ _) _⟩
     case round=>
      obtain ⟨j,hj,rfl,hok,hBr⟩:=hrel;have nD:=aB hok;clear hok;by_cases hlt:j<Fo.len k
      · have hlt':(j:Int)<(Fo.len k:Int):=by omega
        obtain ⟨⟨⟨yv,yn⟩,yk⟩,hy⟩:∃y,k.list[j]?=some y:=⟨k.list[j]'(by rw [Hl.out];exact hlt),by simp⟩;obtain ⟨c0,c1,bB,c2,kW⟩:=(HF.out.below hBr).at hy;have ha:ad=some ⟨b,o,none⟩:=had (by omega);subst ha;have HS:=aB kW;obtain ⟨ya,yc,yb,yo,rfl,-,-,-,-⟩:=kW;have Hy:=aB hy;have HNr:=aB (HN.out.below hBr);clear hy
        go_wp2_with fail
        refine (HI.out ((yv,yn),yk) (List.mem_of_getElem? Hy.out) s _ _ _ _ (HNr.out.alloc _) (HS.out.alloc _) (by omega) (by omega)).mono ?_;rintro e w2 ⟨rfl,hb2⟩;have hB2:=aC hBr (aW hb2);by_cases he:bR s (yv,yn) yk (d+1)=0
        · have QU:=aB (UZ nD.out Hy.out he);simp only [he]
          go_wp2_with fail
          go_roundw
          case rel=>exact ⟨j+1,by omega,by go_num,QU.out,hB2⟩
          case measure=>simp [intOf];omega
        · have bP:=aB (Hf.out.trans (DT nD.out Hy.out he));have xJ:(bR s (yv,yn) yk (d+1)!=0)=true:=by simpa using he
          simp only at bP xJ ⊢;generalize bR s (yv,yn) yk (d+1)=E at*;clear he
          go_wp2_with fail
          go_ret;exact ⟨by rw [bP.out];rfl,hB2⟩
      · have lK:j=Fo.len k:=by omega
        have Hf0:Hid (bR s (false,n) k d=0):=by rw [Hid,Hf.out];rw [lK] at nD;exact DR nD.out
        clear lK
        go_wp2_with fail
        go_ret;exact ⟨by rw [Hf0.out];rfl,hBr⟩
   · have hmb:((Fo.len k:Int)!=m)=true:=by simp [hm]
     have Hf:Hid (bR s (false,n) k d=5):=by rw [Hid,Ht.out,GR.out];simp [hn0,hns,hm]
     clear hm hF hcell;go_enter Tryz.func95,Tryz.ntmps95
     go_wp2_with fail
     go_quiet (fail)
     go_wp2_with fail
     go_ret;exact ⟨by rw [Hf.out];rfl,below_drewN (aD _ _) _⟩
 · have GR:Hid (bM s (true,n) (Fo.len k)=if n<0\/4<n then 3 else if Fo.len k=0 then 0 else 5):=by simp [Hid,bM]
   by_cases hn0:n<0
   · have Hf:Hid (bR s (true,n) k d=3):=by rw [Hid,Ht.out,GR.out];simp [hn0]
     go_enter Tryz.func95,Tryz.ntmps95
     go_wp2_with fail
     go_ret;exact ⟨by rw [Hf.out];rfl,aD _ _⟩
   by_cases hn4:4<n
   · have Hf:Hid (bR s (true,n) k d=3):=by rw [Hid,Ht.out,GR.out];simp [hn4]
     go_enter Tryz.func95,Tryz.ntmps95
     go_wp2_with fail
     go_ret;exact ⟨by rw [Hf.out];rfl,aD _ _⟩
   by_cases hl0:Fo.len k=0
   · have Hf:Hid (bR s (true,n) k d=0):=by rw [Hid,Ht.out,GR.out,pU hl0];simp [hn0,hn4,Fo.len,gH]
     have hl0':¬(0:Int)<(Fo.len k:Int):=by omega
     clear had;go_enter Tryz.func95,Tryz.ntmps95
     go_wp2_with fail
     go_ret;exact ⟨by rw [Hf.out];rfl,aD _ _⟩
   · have Hf:Hid (bR s (true,n) k d=5):=by rw [Hid,Ht.out,GR.out];simp [hn0,hn4,hl0]
     have hl0':(0:Int)<(Fo.len k:Int):=by omega
     clear had;go_enter Tryz.func95,Tryz.ntmps95
     go_wp2_with fail
     go_ret;exact ⟨by rw [Hf.out];rfl,aD _ _⟩
theorem mM {s:List Int} {x:Bool×Int} {k:Fo} {d:Int} (h:bR s x k d=0):d<=12/\bM s x (Fo.len k)=0/\gH s k (d+1)=0:=by
 unfold bR at h;by_cases hd:12<d
 · rw [if_pos hd] at h;omega
 · rw [if_neg hd] at h;by_cases ha:bM s x (Fo.len k)=0
   · rw [if_neg (by simpa using ha)] at h;exact ⟨by omega,ha,h⟩
   · rw [if_pos ha] at h;exact absurd h ha
theorem nY {s:List Int} {p q:Nat} {x:Bool×Int} {k r:Fo} {d:Int} (h:gH s (.node p q x k r) d=0):bR s x k d=0/\gH s r d=0:=by
 rw [nL] at h;by_cases e:bR s x k d=0
 · rw [if_neg (by simpa using e)] at h;exact ⟨e,h⟩
 · rw [if_pos e] at h;exact absurd h e
theorem lY {s:List Int} {n:Int} {k:Fo} (h:bM s (true,n) (Fo.len k)=0):k= .nil/\0<=n/\n<=4:=by
 simp only [bM,if_true] at h;by_cases h1:n<0\/4<n
 · rw [if_pos h1] at h;omega
 · rw [if_neg h1] at h;by_cases h2:Fo.len k=0
   · exact ⟨pU h2,by omega,by omega⟩
   · rw [if_neg h2] at h;omega
theorem sJ {s:List Int} {n:Int} {m:Nat} (h:bM s (false,n) m=0):0<=n/\n<s.length/\(m:Int)=s.getD n.toNat 0:=by
 simp only [bM,Bool.false_eq_true,if_false] at h;by_cases h1:n<0\/(s.length:Int)<=n
 · rw [if_pos h1] at h;omega
 · rw [if_neg h1] at h;by_cases h2:(m:Int)=s.getD n.toNat 0
   · exact ⟨by omega,by omega,h2⟩
   · rw [if_neg h2] at h;omega
theorem yT {s:List Int}:∀{F:Fo} {d:Int},gH s F d=0->Fo.sizes F=Fo.sizesR F
 | .nil,_,_=>rfl
 | .node _ _ (v,n) k r,d,h=>by
  obtain ⟨hT,hr⟩:=nY h;obtain ⟨_,ha,hk⟩:=mM hT;have e1:=yT hk;have e2:=yT hr;cases v
  · simp [Fo.sizes,Fo.sizesR,e1,e2]
  · obtain ⟨rfl,_,_⟩:=lY ha;simp [Fo.sizes,Fo.sizesR,e2]
theorem U8 {s:List Int} {x:Bool×Int} {k:Fo} {d:Int} (h:bR s x k d=0):Y4 x k=aM k:=by
 obtain ⟨v,n⟩:=x;obtain ⟨_,ha,hk⟩:=mM h;cases v
 · simp [Y4,aM,yT hk]
 · obtain ⟨rfl,_,_⟩:=lY ha;simp [Y4,aM,Fo.sizesR]
def aU (s:List Int) (x:Bool×Int) (k:Fo):Int:=if bR s x k 1≠0 then bR s x k 1 else if 12<wrap64 (aM k:Nat) then 4 else 0
theorem yM (s:List Int) (sv:Value) (x:Bool×Int) (k:Fo) (a:Value) (w:World) (hN:iK w s sv) (hS:cO w k a):
 Calls Tryz.prog 50 #[sv,.agg #[.bool x.1,.int .i64 x.2,a]] w λe w'=>e= .returned (.int .i64 (aU s x k))/\Below w.heap.size w w':=by
 have HN:=aB hN;have HS:=aB hS;obtain ⟨v,n⟩:=x;obtain ⟨sa,sc,sb,so,rfl,-,-,-,-⟩:=hN;obtain ⟨ad,c,b,o,rfl,-,-,-,-⟩:=hS;go_enter Tryz.func50,Tryz.ntmps50
 go_wp2_with fail
 refine (aD8 (v,n) k s _ _ _ _ (HN.out.alloc _) (HS.out.alloc _) (by omega) (by omega)).mono ?_;rintro e w1 ⟨rfl,hb1⟩;obtain ⟨q0,q1,q2,hB1,hlt⟩:=nI (by simpa using hb1);by_cases he:bR s (v,n) k 1=0
 · have Hf:Hid (aU s (v,n) k=if 12<wrap64 (aM k:Nat) then 4 else 0):=by simp [Hid,aU,he]
   simp only [he]
   go_wp2_with fail
   refine (aEY (v,n) k _ _ (HS.out.below hB1)).mono ?_;rintro e w2 ⟨rfl,hb2⟩;have hB2:=aC hB1 hb2;generalize wrap64 (aM k:Nat)=z at*;by_cases hz:12<z
   · rw [if_pos hz] at Hf
     go_wp2_with fail
     go_ret;exact ⟨by rw [Hf.out];rfl,hB2⟩
   · rw [if_neg hz] at Hf
     go_wp2_with fail
     go_ret;exact ⟨by rw [Hf.out];rfl,hB2⟩
 · have Hf:Hid (aU s (v,n) k=bR s (v,n) k 1):=by simp [Hid,aU,he]
   have xJ:(bR s (v,n) k 1 !=0)=true:=by simpa using he
   simp only at Hf xJ ⊢;generalize bR s (v,n) k 1=E at*;clear he
   go_wp2_with fail
   go_ret;exact ⟨by rw [Hf.out];rfl,hB1⟩
theorem aGE (s:List Int) (sv:Value) (x:Bool×Int) (k:Fo) (a:Value) (w:World) (hN:iK w s sv) (hS:cO w k a):
 Calls Tryz.prog 155 #[sv,.agg #[.bool x.1,.int .i64 x.2,a]] w λe w'=>e= .returned (.int .i64 (bM s x (Fo.len k)))/\Below w.heap.size w w':=by
 obtain ⟨v,n⟩:=x;obtain ⟨sa,sc,sb,so,rfl,hsa,aKL,QM,hsF⟩:=hN;obtain ⟨ad,c,b,o,rfl,-,-,-,-⟩:=hS;have HsF:=aB hsF;clear hsF;cases v
 · have GR:Hid (bM s (false,n) (Fo.len k)=if n<0\/(s.length:Int)<=n then 7 else if (Fo.len k:Int)=s.getD n.toNat 0 then 0 else 5):=by simp [Hid,bM]
   by_cases hn0:n<0
   · have Hf:Hid (bM s (false,n) (Fo.len k)=7):=by rw [Hid,GR.out];simp [hn0]
     go_enter Tryz.func155,Tryz.ntmps155
     go_wp2_with fail
     go_ret;exact ⟨by rw [Hf.out];rfl,aD _ _⟩
   by_cases hns:(s.length:Int)<=n
   · have Hf:Hid (bM s (false,n) (Fo.len k)=7):=by rw [Hid,GR.out];simp [hns]
     go_enter Tryz.func155,Tryz.ntmps155
     go_wp2_with fail
     go_ret;exact ⟨by rw [Hf.out];rfl,aD _ _⟩
   have aTA:n<(s.length:Int):=by omega
   have aGU:0<=n:=by omega
   have aGQ:sa=some ⟨sb,so,none⟩:=hsa (by omega);subst aGQ;have hcell:=HsF.out n.toNat (by omega);have hcell1:(w.alloc (.cells #[.bool false,.int .i64 n,.slice ad (Fo.len k) c] 84)).cell? ⟨sb,so+n.toNat,none⟩=some (.int .i64 (s.getD n.toNat 0)):=aA (aD _ _) _ _ hcell;generalize s.getD n.toNat 0=m at*;clear hsa hcell;by_cases hm:(Fo.len k:Int)=m
   · have hmb:((Fo.len k:Int)!=m)=false:=by simp [hm]
     have Hf:Hid (bM s (false,n) (Fo.len k)=0):=by rw [Hid,GR.out];simp [hn0,hns,hm]
     clear hm;go_enter Tryz.func155,Tryz.ntmps155
     go_wp2_with fail
     go_ret;exact ⟨by rw [Hf.out];rfl,aD _ _⟩
   · have hmb:((Fo.len k:Int)!=m)=true:=by simp [hm]
     have Hf:Hid (bM s (false,n) (Fo.len k)=5):=by rw [Hid,GR.out];simp [hn0,hns,hm]
     clear hm;go_enter Tryz.func155,Tryz.ntmps155
     go_wp2_with fail
     go_ret;exact ⟨by rw [Hf.out];rfl,aD _ _⟩
 · have GR:Hid (bM s (true,n) (Fo.len k)=if n<0\/4<n then 3 else if Fo.len k=0 then 0 else 5):=by simp [Hid,bM]
   by_cases hn0:n<0
   · have Hf:Hid (bM s (true,n) (Fo.len k)=3):=by rw [Hid,GR.out];simp [hn0]
     go_enter Tryz.func155,Tryz.ntmps155
     go_wp2_with fail
     go_ret;exact ⟨by rw [Hf.out];rfl,aD _ _⟩
   by_cases hn4:4<n
   · have hn5:5<=n:=by omega
     have Hf:Hid (bM s (true,n) (Fo.len k)=3):=by rw [Hid,GR.out];simp [hn4]
     go_enter Tryz.func155,Tryz.ntmps155
     go_wp2_with fail
     go_ret;exact ⟨by rw [Hf.out];rfl,aD _ _⟩
   have hn5:¬5<=n:=by omega
   by_cases hl0:Fo.len k=0
   · have Hf:Hid (bM s (true,n) (Fo.len k)=0):=by rw [Hid,GR.out];simp [hn0,hn4,hl0]
     have hl0':((Fo.len k:Int)!=0)=false:=by simp [hl0]
     clear hl0;go_enter Tryz.func155,Tryz.ntmps155
     go_wp2_with fail
     go_ret;exact ⟨by rw [Hf.out];rfl,aD _ _⟩
   · have Hf:Hid (bM s (true,n) (Fo.len k)=5):=by rw [Hid,GR.out];simp [hn0,hn4,hl0]
     have hl0':((Fo.len k:Int)!=0)=true:=by simp [hl0]
     go_enter Tryz.func155,Tryz.ntmps155
     go_wp2_with fail
     go_ret;exact ⟨by rw [Hf.out];rfl,aD _ _⟩
def LX (x:Bool×Int) (k:Fo):Prop:=∀(s:List Int) (sv a:Value) (d:Int) (w:World),iK w s sv->cO w k a->0<=d->d<=12->
 Calls Tryz.prog 124 #[sv,.agg #[.bool x.1,.int .i64 x.2,a],.int .i64 d] w λe w'=>e= .returned (.int .i64 (bR s x k (d+1)))/\Below w.heap.size w w'
theorem aAO (x:Bool×Int) (k:Fo):LX x k:=by
 refine Fo.ind1 (p:=LX) ?_ x k;clear x k;intro x k ih s sv a d w hN hS hd0 aTQ;have HI:=aB ih;have HN:=aB hN;have HS0:=aB hS;clear ih;obtain ⟨v,n⟩:=x;obtain ⟨ad,c,b,o,rfl,had,hlc,hcm,hF⟩:=hS;obtain ⟨sa,sc,sb,so,rfl,-,-,-,-⟩:=hN;unfold maxLen at hcm;have Hl:=aB (Fo.len_list k);by_cases hd:11<d
 · have Hf:Hid (bR s (v,n) k (d+1)=4):=by rw [Hid,bR,if_pos (by omega)]
   go_enter Tryz.func124,Tryz.ntmps124
   go_wp2_with fail
   go_ret;exact ⟨by rw [Hf.out];rfl,aD _ _⟩
 have Ht:Hid (bR s (v,n) k (d+1)=if bM s (v,n) (Fo.len k)≠0 then bM s (v,n) (Fo.len k) else gH s k (d+1+1)):=by rw [Hid,bR,if_neg (by omega)]
 have HF:=aB hF;clear hF;go_enter Tryz.func124,Tryz.ntmps124
 go_wp2_with fail
 refine (aGE s _ (v,n) k _ _ (HN.out.alloc _) (HS0.out.alloc _)).mono ?_;rintro e w1 ⟨rfl,hb1⟩;obtain ⟨q0,q1,q2,hB1,hlt⟩:=nI (by simpa using hb1);by_cases he:bM s (v,n) (Fo.len k)=0
 · have Hf:Hid (bR s (v,n) k (d+1)=gH s k (d+1+1)):=by rw [Hid,Ht.out,if_neg (by simpa using he)]
   simp only [he]
   go_wp2_with fail
   go_loopw [22] (λi wr=>∃j:Nat,j<=Fo.len k/\i= .int .i64 j/\wOk s k (d+1+1) j/\Below w.heap.size w wr) (λi _=>Fo.len k - (intOf i).toNat)
   case atStart=>exact ⟨0,Nat.zero_le _,rfl,λi hi=>by omega,hB1⟩
   case round=>
    obtain ⟨j,hj,rfl,hok,hBr⟩:=hrel;have nD:=aB hok;clear hok he q0 q1 q2;by_cases hlt:j<Fo.len k
    · have hlt':(j:Int)<(Fo.len k:Int):=by omega
      obtain ⟨⟨⟨yv,yn⟩,yk⟩,hy⟩:∃y,k.list[j]?=some y:=⟨k.list[j]'(by rw [Hl.out];exact hlt),by simp⟩;obtain ⟨c0,c1,bB,c2,kW⟩:=(HF.out.below hBr).at hy;have ha:ad=some ⟨b,o,none⟩:=had (by omega);subst ha;have HS:=aB kW;obtain ⟨ya,yc,yb,yo,rfl,-,-,-,-⟩:=kW;have Hy:=aB hy;have HNr:=aB (HN.out.below hBr);clear hy
      go_wp2_with fail
      refine (HI.out ((yv,yn),yk) (List.mem_of_getElem? Hy.out) s _ _ _ _ (HNr.out.alloc _) (HS.out.alloc _) (by omega) (by omega)).mono ?_;rintro e w2 ⟨rfl,hb2⟩;have hB2:=aC hBr (aW hb2);by_cases he:bR s (yv,yn) yk (d+1+1)=0
      · have QU:=aB (UZ nD.out Hy.out he);simp only [he]
        go_wp2_with fail
        go_roundw
        case rel=>exact ⟨j+1,by omega,by go_num,QU.out,hB2⟩
        case measure=>simp [intOf];omega
      · have bP:=aB (Hf.out.trans (DT nD.out Hy.out he));have xJ:(bR s (yv,yn) yk (d+1+1)!=0)=true:=by simpa using he
        simp only at bP xJ ⊢;generalize bR s (yv,yn) yk (d+1+1)=E at*;clear he
        go_wp2_with fail
        go_ret;exact ⟨by rw [bP.out];rfl,hB2⟩
    · have lK:j=Fo.len k:=by omega
      have Hf0:Hid (bR s (v,n) k (d+1)=0):=by rw [Hid,Hf.out];rw [lK] at nD;exact DR nD.out
      clear lK
      go_wp2_with fail
      go_ret;exact ⟨by rw [Hf0.out];rfl,hBr⟩
 · have Hf:Hid (bR s (v,n) k (d+1)=bM s (v,n) (Fo.len k)):=by rw [Hid,Ht.out,if_pos he]
   have xJ:(bM s (v,n) (Fo.len k)!=0)=true:=by simpa using he
   generalize bM s (v,n) (Fo.len k)=E at*;clear he Ht
   go_wp2_with fail
   go_ret;exact ⟨by rw [Hf.out];rfl,hB1⟩
theorem NN (s:List Int) (sv:Value) (x:Bool×Int) (k:Fo) (a:Value) (w:World) (hN:iK w s sv) (hS:cO w k a):
 Calls Tryz.prog 88 #[sv,.agg #[.bool x.1,.int .i64 x.2,a]] w λe w'=>e= .returned (.int .i64 (aU s x k))/\Below w.heap.size w w':=by
 have HN:=aB hN;have HS:=aB hS;obtain ⟨v,n⟩:=x;obtain ⟨sa,sc,sb,so,rfl,-,-,-,-⟩:=hN;obtain ⟨ad,c,b,o,rfl,-,-,-,-⟩:=hS;go_enter Tryz.func88,Tryz.ntmps88
 go_wp2_with fail
 refine (aAO (v,n) k s _ _ _ _ (HN.out.alloc _) (HS.out.alloc _) (by omega) (by omega)).mono ?_;rintro e w1 ⟨rfl,hb1⟩;obtain ⟨q0,q1,q2,hB1,hlt⟩:=nI (by simpa using hb1);rw [show (0+1:Int)=1 from rfl];by_cases he:bR s (v,n) k 1=0
 · have Hf:Hid (aU s (v,n) k=if 12<wrap64 (Y4 (v,n) k:Nat) then 4 else 0):=by rw [U8 he];simp [Hid,aU,he]
   simp only [he]
   go_wp2_with fail
   refine (VO (v,n) k _ _ (HS.out.below hB1)).mono ?_;rintro e w2 ⟨rfl,hb2⟩;have hB2:=aC hB1 hb2;generalize wrap64 (Y4 (v,n) k:Nat)=z at*;by_cases hz:12<z
   · rw [if_pos hz] at Hf
     go_wp2_with fail
     go_ret;exact ⟨by rw [Hf.out];rfl,hB2⟩
   · rw [if_neg hz] at Hf
     go_wp2_with fail
     go_ret;exact ⟨by rw [Hf.out];rfl,hB2⟩
 · have Hf:Hid (aU s (v,n) k=bR s (v,n) k 1):=by simp [Hid,aU,he]
   have xJ:(bR s (v,n) k 1 !=0)=true:=by simpa using he
   generalize bR s (v,n) k 1=E at*;clear he
   go_wp2_with fail
   go_ret;exact ⟨by rw [Hf.out];rfl,hB1⟩
def jA:Fo->Fo->Bool
 | .nil,.nil=>true
 | .node _ _ x k r,.node _ _ y l q=>(x.1==y.1&&x.2==y.2&&jA k l)&&jA r q
 | .nil,.node _ _ _ _ _=>false
 | .node _ _ _ _ _,.nil=>false
def cB (x:Bool×Int) (k:Fo) (y:Bool×Int) (l:Fo):Bool:=x.1==y.1&&x.2==y.2&&jA k l
theorem OI:∀{k l:Fo},jA k l=true->Fo.len k=Fo.len l
 | .nil,.nil,_=>rfl
 | .node _ _ x k r,.node _ _ y l q,h=>by simp only [jA,Bool.and_eq_true] at h;simp [Fo.len,OI h.2]
 | .nil,.node _ _ _ _ _,h=>by simp [jA] at h
 | .node _ _ _ _ _,.nil,h=>by simp [jA] at h
def aKT (k l:Fo) (j:Nat):Prop:=∀i,i<j->∀y z,k.list[i]?=some y->l.list[i]?=some z->cB y.1 y.2 z.1 z.2=true
theorem OJ:∀{k l:Fo},Fo.len k=Fo.len l->aKT k l (Fo.len k)->jA k l=true
 | .nil,.nil,_,_=>rfl
 | .node _ _ x k r,.node _ _ y l q,he,h=>by have h0:=h 0 (by simp [Fo.len]) (x,k) (y,l) (by simp [Fo.list]) (by simp [Fo.list]);have h1:=OJ (k:=r) (l:=q) (by simpa [Fo.len] using he) (λi hi a b ha hb=>h (i+1) (by simp [Fo.len];omega) a b (by simpa [Fo.list] using ha) (by simpa [Fo.list] using hb));simp only [jA,Bool.and_eq_true];simp only [cB,Bool.and_eq_true] at h0;exact ⟨h0,h1⟩
 | .nil,.node _ _ _ _ _,h,_=>by simp [Fo.len] at h
 | .node _ _ _ _ _,.nil,h,_=>by simp [Fo.len] at h
theorem OL:∀{k l:Fo} {j:Nat} {y z:(Bool×Int)×Fo},k.list[j]?=some y->l.list[j]?=some z->cB y.1 y.2 z.1 z.2=false->jA k l=false
 | .nil,_,_,_,_,h,_,_=>by simp [Fo.list] at h
 | .node _ _ _ _ _,.nil,_,_,_,_,h,_=>by simp [Fo.list] at h
 | .node _ _ x k r,.node _ _ y l q,0,_,_,h1,h2,h=>by simp only [Fo.list,List.getElem?_cons_zero,Option.some.injEq] at h1 h2;subst h1 h2;simp only [cB] at h;simp only [jA,h,Bool.false_and]
 | .node _ _ x k r,.node _ _ y l q,j+1,_,_,h1,h2,h=>by have:=OL (k:=r) (l:=q) (j:=j) (by simpa [Fo.list] using h1) (by simpa [Fo.list] using h2) h;simp only [jA,this,Bool.and_false]
theorem aFX {k l:Fo} {j:Nat} {y z:(Bool×Int)×Fo} (h:aKT k l j) (hy:k.list[j]?=some y) (hz:l.list[j]?=some z) (h0:cB y.1 y.2 z.1 z.2=true):aKT k l (j+1):=by
 intro i hi a b ha hb;by_cases e:i=j
 · subst e;rw [hy] at ha;rw [hz] at hb;cases ha;cases hb;exact h0
 · exact h i (by omega) a b ha hb
def KN (x:Bool×Int) (k:Fo):Prop:=∀(y:Bool×Int) (l:Fo) (a c:Value) (w:World),cO w k a->cO w l c->
 Calls Tryz.prog 134 #[.agg #[.bool x.1,.int .i64 x.2,a],.agg #[.bool y.1,.int .i64 y.2,c]] w λe w'=>e= .returned (.bool (cB x k y l))/\Below w.heap.size w w'
theorem TD (k:Fo) (ih:∀y∈k.list,KN y.1 y.2) (l:Fo) (a c:Value) (w:World) (hS1:cO w k a) (hS2:cO w l c):
 Calls Tryz.prog 161 #[a,c,.func (.func 134) #[] #[]] w λe w'=>e= .returned (.bool (jA k l))/\Below w.heap.size w w':=by
 have HI:=aB ih;clear ih;obtain ⟨a1,c1,b1,o1,rfl,eZ,uY,hcm1,hF1⟩:=hS1;obtain ⟨a2,c2,b2,o2,rfl,Z4,aTF,hcm2,hF2⟩:=hS2;unfold maxLen at hcm1 hcm2;have Hl1:=aB (Fo.len_list k);have wM:=aB (Fo.len_list l);have zT:=aB hF1;have HF2:=aB hF2;clear hF1 hF2;by_cases hll:Fo.len k=Fo.len l
 · have aKO:((Fo.len k:Int)!=(Fo.len l:Int))=false:=by simp [hll]
   have Hll:=aB hll;have aOE:Fo.len l<=Fo.len k:=by omega
   have aOD:Fo.len k<=Fo.len l:=by omega
   clear hll;go_enter Tryz.func161,Tryz.ntmps161
   go_wp2_with fail
   go_loopw [17] (λi wr=>∃j:Nat,j<=Fo.len k/\i= .int .i64 j/\aKT k l j/\Below w.heap.size w wr) (λi _=>Fo.len k - (intOf i).toNat)
   case atStart=>exact ⟨0,Nat.zero_le _,rfl,λi hi=>by omega,Below.refl _ _⟩
   case round=>
    obtain ⟨j,hj,rfl,hok,hBr⟩:=hrel;have nD:=aB hok;clear hok;by_cases hlt:j<Fo.len k
    · have hlt':(j:Int)<(Fo.len k:Int):=by omega
      have hlt2:(j:Int)<(Fo.len l:Int):=by omega
      obtain ⟨⟨⟨yv,yn⟩,yk⟩,hy⟩:∃y,k.list[j]?=some y:=⟨k.list[j]'(by rw [Hl1.out];exact hlt),by simp⟩;obtain ⟨⟨⟨zv,zn⟩,zk⟩,hz⟩:∃y,l.list[j]?=some y:=⟨l.list[j]'(by rw [wM.out];omega),by simp⟩;obtain ⟨p0,p1,bB,p2,kW⟩:=(zT.out.below hBr).at hy;obtain ⟨q0,q1,zv',q2,hSz⟩:=(HF2.out.below hBr).at hz;have ha1:a1=some ⟨b1,o1,none⟩:=eZ (by omega);have ha2:a2=some ⟨b2,o2,none⟩:=Z4 (by omega);subst ha1 ha2;have UD:=aB kW;have HSz:=aB hSz;obtain ⟨ya,yc,yb,yo,rfl,-,-,-,-⟩:=kW;obtain ⟨za,zc,zb,zo,rfl,-,-,-,-⟩:=hSz;have Hy:=aB hy;have Hz:=aB hz;have aTV:b2<wr.heap.size:=World.block_lt_of_cell? _ _ q0;clear hy hz eZ Z4
      go_wp2_with fail
      refine (HI.out ((yv,yn),yk) (List.mem_of_getElem? Hy.out) (zv,zn) zk _ _ _ ((UD.out.alloc _).alloc _) ((HSz.out.alloc _).alloc _)).mono ?_;rintro e w2 ⟨rfl,hb2⟩;have hB2:=aC hBr (aW (aW hb2));simp only;cases he:cB (yv,yn) yk (zv,zn) zk
      · have Hf:Hid (jA k l=false):=OL Hy.out Hz.out he;clear he
        go_wp2_with fail
        go_ret;exact ⟨by rw [Hf.out];rfl,hB2⟩
      · have QU:=aB (aFX nD.out Hy.out Hz.out he);clear he
        go_wp2_with fail
        go_roundw
        case rel=>exact ⟨j+1,by omega,by go_num,QU.out,hB2⟩
        case measure=>simp [intOf];omega
    · have Hf:Hid (jA k l=true):=by
       have e:j=Fo.len k:=by omega
       have:=nD.out;rw [e] at this;exact OJ Hll.out this
      go_wp2_with fail
      go_ret;exact ⟨by rw [Hf.out];rfl,hBr⟩
 · have aKO:((Fo.len k:Int)!=(Fo.len l:Int))=true:=by simp;omega
   have Hf:Hid (jA k l=false):=by rw [Hid,Bool.eq_false_iff];exact λh=>hll (OI h)
   go_enter Tryz.func161,Tryz.ntmps161
   go_wp2_with fail
   go_ret;exact ⟨by rw [Hf.out];rfl,Below.refl _ _⟩
theorem kH (x:Bool×Int) (k:Fo):KN x k:=by
 refine Fo.ind1 (p:=KN) ?_ x k;clear x k;intro x k ih y l a c w hS1 hS2;obtain ⟨xv,xn⟩:=x;obtain ⟨yv,yn⟩:=y;have HS1:=aB hS1;have HS2:=aB hS2;obtain ⟨a1,c1,b1,o1,rfl,-,-,-,-⟩:=hS1;obtain ⟨a2,c2,b2,o2,rfl,-,-,-,-⟩:=hS2;have HI:=aB ih;clear ih;by_cases hv:xv=yv
 · by_cases hn:xn=yn
   · subst hv hn;have Hf:Hid (cB (xv,xn) k (xv,xn) l=jA k l):=by simp [Hid,cB]
     go_enter Tryz.func134,Tryz.ntmps134
     go_wp2_with fail
     refine (TD k HI.out l _ _ _ ((HS1.out.alloc _).alloc _) ((HS2.out.alloc _).alloc _)).mono ?_;rintro e w2 ⟨rfl,hb2⟩
     go_wp2_with fail
     go_ret;exact ⟨by rw [Hf.out];rfl,aW (aW hb2)⟩
   · have Hf:Hid (cB (xv,xn) k (yv,yn) l=false):=by simp [Hid,cB,hn]
     have hnb:(xn==yn)=false:=by simpa using hn
     subst hv;clear hn;go_enter Tryz.func134,Tryz.ntmps134
     go_wp2_with fail
     go_ret;exact ⟨by rw [Hf.out];rfl,(aD _ _).alloc (by simp) _⟩
 · have Hf:Hid (cB (xv,xn) k (yv,yn) l=false):=by simp [Hid,cB,hv]
   have hnb:(xv==yv)=false:=by simpa using hv
   clear hv;go_enter Tryz.func134,Tryz.ntmps134
   go_wp2_with fail
   go_ret;exact ⟨by rw [Hf.out];rfl,(aD _ _).alloc (by simp) _⟩
end Go.Proofs.YtoklbpbmghbhnaeGreat
