import Derived.Test.YtoklbpbmghbhnaeGreatG10
import Derived.Deep.RegionLaw
namespace Go.Proofs.YtoklbpbmghbhnaeGreat
set_option maxRecDepth 100000
set_option maxHeartbeats 2000000
open Go.RowKit Go.Deep Go.ChangeShapes Go.WideShapes
section
attribute [local go_sem ↓] Go.wp_at_zero Go.wp_at_succ
attribute [local go_sem] xG rY
def lC (w:World) (rb:Nat) (sv:Value) (l:List UInt8) (e:Int):Prop:=
 w.cell? ⟨rb,0,none⟩=some sv/\w.cell? ⟨rb,1,none⟩=some (str l)/\w.cell? ⟨rb,2,none⟩=some (.int .i64 e)/\∀i,w.frozen? ⟨rb,i,none⟩=false
theorem lC.of_block {w w':World} {rb:Nat} {sv:Value} {l:List UInt8} {e:Int} (h:lC w rb sv l e) (hb:w'.heap[rb]?=w.heap[rb]?):lC w' rb sv l e:=
 ⟨(World.cell?_of_block hb).trans h.1,(World.cell?_of_block hb).trans h.2.1,(World.cell?_of_block hb).trans h.2.2.1,λi=>(World.frozen?_of_block hb).trans (h.2.2.2 i)⟩
theorem lC.setE {w:World} {rb:Nat} {sv:Value} {l:List UInt8} {e e':Int} (h:lC w rb sv l e):lC (w.setCell ⟨rb,2,none⟩ (.int .i64 e')) rb sv l e':=
 ⟨by rw [aX (by simp)];exact h.1,by rw [aX (by simp)];exact h.2.1,fK h.2.2.1,λi=>by rw [World.frozen?_setCell];exact h.2.2.2 i⟩
theorem lC.setS {w:World} {rb:Nat} {sv:Value} {l l':List UInt8} {e:Int} (h:lC w rb sv l e):lC (w.setCell ⟨rb,1,none⟩ (str l')) rb sv l' e:=
 ⟨by rw [aX (by simp)];exact h.1,fK h.2.1,by rw [aX (by simp)];exact h.2.2.1,λi=>by rw [World.frozen?_setCell];exact h.2.2.2 i⟩
theorem lC.lt {w:World} {rb:Nat} {sv:Value} {l:List UInt8} {e:Int} (h:lC w rb sv l e):rb<w.heap.size:=World.block_lt_of_cell? _ _ h.1
theorem RA {w:World} {rb i:Nat} {v:Value}:Fr w (w.setCell ⟨rb,i,none⟩ v) (some rb) none:=
 ⟨rfl,rfl,rfl,by simp,λq _ hq _=>Below.heap_setCell _ _ _ _ (λe=>hq (by rw [e]))⟩
theorem oF (rb:Nat) (sv:Value) (l:List UInt8) (e':Int) (w:World) (h:lC w rb sv l 0):
 Calls Tryz.prog 176 #[.pointer (some ⟨rb,0,none⟩),.int .i64 e'] w λe w'=>e= .returned (.tuple #[])/\w'=w.setCell ⟨rb,2,none⟩ (.int .i64 e'):=by
 obtain ⟨h0,h1,h2,hf⟩:=h;go_enter Tryz.func176,Tryz.ntmps176
 go_wp2_with fail
 exact bodyPost_end (v:= .tuple #[]) (by simp [results,Tryz.results176,go_sem]) rfl ⟨rfl,rfl⟩
def zM (c:UInt8) (l:List UInt8) (e:Int):Int:=if e≠0 then e else (qD c l).1
theorem aAF (c:UInt8) (rb:Nat) (sv:Value) (l:List UInt8) (e:Int) (w:World) (h:lC w rb sv l e) (hl:e=0->l.length<=maxLen):
 Calls Tryz.prog 177 #[.pointer (some ⟨rb,0,none⟩),.int .u8 (c.toNat:Int)] w λe' w'=>e'= .returned (.tuple #[])/\(∃l',lC w' rb sv l' (zM c l e)/\(zM c l e=0->l'=(qD c l).2))/\Fr w w' (some rb) none/\w'.heap.size=w.heap.size:=by
 have H:=aB h;obtain ⟨h0,h1,h2,hf⟩:=h;by_cases he:e=0
 · subst he;have hl:=hl rfl;unfold maxLen at hl;cases l with
   |nil=>
    have Hs:Hid (zM c [] 0=8):=by simp [Hid,zM,qD]
    go_enter Tryz.func177,Tryz.ntmps177
    go_wp2_with fail
    refine (oF rb sv [] 8 w H.out).mono ?_;rintro e w' ⟨rfl,hw'⟩;rw [hw'];clear hw' w'
    go_wp2_with fail
    refine bodyPost_end (v:= .tuple #[]) (by simp [results,Tryz.results177,go_sem]) rfl ⟨rfl,⟨[],?_,λh=>?_⟩,RA,by simp⟩
    · rw [Hs.out];exact H.out.setE
    · rw [Hs.out] at h;cases h
   |cons d r=>
    by_cases hd:d=c
    · subst hd;have Hs:Hid (zM d (d::r) 0=0/\(qD d (d::r)).2=r):=by simp [Hid,zM,qD]
      have hsl:=JV d r;go_enter Tryz.func177,Tryz.ntmps177
      go_wp2_with fail
      refine bodyPost_end (v:= .tuple #[]) (by simp [results,Tryz.results177,go_sem]) rfl ⟨rfl,⟨r,?_,λh=>?_⟩,RA,by simp⟩
      · rw [Hs.out.1];exact H.out.setS
      · rw [Hs.out.2]
    · have Hs:Hid (zM c (d::r) 0=2):=by simp [Hid,zM,qD,hd]
      have hb:((d.toNat:Int)!=(c.toNat:Int))=true:=by simp only [bne_iff_ne,ne_eq,Int.natCast_inj];exact λe=>hd (UInt8.toNat_inj.1 e)
      clear hd;go_enter Tryz.func177,Tryz.ntmps177
      go_wp2_with fail
      refine (oF rb sv (d::r) 2 w H.out).mono ?_;rintro e w' ⟨rfl,hw'⟩;rw [hw'];clear hw' w'
      go_wp2_with fail
      refine bodyPost_end (v:= .tuple #[]) (by simp [results,Tryz.results177,go_sem]) rfl ⟨rfl,⟨d::r,?_,λh=>?_⟩,RA,by simp⟩
      · rw [Hs.out];exact H.out.setE
      · rw [Hs.out] at h;cases h
 · have Hs:Hid (zM c l e=e):=by simp [Hid,zM,he]
   have xJ:(e !=0)=true:=by simpa using he
   have He:=aB he;clear he;go_enter Tryz.func177,Tryz.ntmps177
   go_wp2_with fail
   refine bodyPost_end (v:= .tuple #[]) (by simp [results,Tryz.results177,go_sem]) rfl ⟨rfl,⟨l,?_,λh=>?_⟩,Fr.refl _ _ _,rfl⟩
   · rw [Hs.out];exact H.out
   · rw [Hs.out] at h;exact absurd h He.out
end
section
attribute [local go_sem ↓] Go.wp_at_zero Go.wp_at_succ
attribute [local go_sem] xG rY
def Y5 (s:List Int) (f:Nat) (l:List UInt8) (e:Int):Int:=if e≠0 then e else (bE s f l).1
def Rs (w:World) (rb:Nat) (sv:Value) (l:List UInt8) (e:Int) (w1:World):Prop:=
 lC w1 rb sv l e/\Fr w w1 (some rb) none/\w1.cell? ⟨w.heap.size,0,none⟩=some (.bool false)/\w1.cell? ⟨w.heap.size,1,none⟩=some (.int .i64 0)/\w1.cell? ⟨w.heap.size,2,none⟩=some (.slice none 0 0)/\(∀i,w1.frozen? ⟨w.heap.size,i,none⟩=false)/\rb<w.heap.size
theorem Rs.start {w:World} {rb:Nat} {sv:Value} {l:List UInt8} {e:Int} (h:lC w rb sv l e):Rs w rb sv l e (w.alloc (.cells #[.bool false,.int .i64 0,.slice none 0 0] 84)):=
 ⟨h.of_block (Below.heap_alloc _ _ _ h.lt),Fr.of_below (aD _ _) _ _,by simp,by simp,by simp,λi=>by simp,h.lt⟩
theorem Rs.set {w w1:World} {rb i:Nat} {sv v:Value} {l l':List UInt8} {e e':Int} (h:Rs w rb sv l e w1) (hR:lC (w1.setCell ⟨rb,i,none⟩ v) rb sv l' e'):Rs w rb sv l' e' (w1.setCell ⟨rb,i,none⟩ v):=by
 obtain ⟨_,h2,h3,h4,h5,h6,h7⟩:=h;refine ⟨hR,h2.trans RA (λq _ hq=>hq),?_,?_,?_,λi=>by rw [World.frozen?_setCell];exact h6 i,h7⟩
 · rw [aX (by intro e;simp only [Addr.mk.injEq] at e;omega)];exact h3
 · rw [aX (by intro e;simp only [Addr.mk.injEq] at e;omega)];exact h4
 · rw [aX (by intro e;simp only [Addr.mk.injEq] at e;omega)];exact h5
theorem Rs.setE {w w1:World} {rb:Nat} {sv:Value} {l:List UInt8} {e:Int} (h:Rs w rb sv l e w1) (e':Int):Rs w rb sv l e' (w1.setCell ⟨rb,2,none⟩ (.int .i64 e')):=h.set h.1.setE
theorem Rs.setS {w w1:World} {rb:Nat} {sv:Value} {l:List UInt8} {e:Int} (h:Rs w rb sv l e w1) (l':List UInt8):Rs w rb sv l' e (w1.setCell ⟨rb,1,none⟩ (str l')):=h.set h.1.setS
theorem KY {w:World} {b o q:Nat} {x y z:Value} (h:q≠b):(set3 w b o x y z).heap[q]?=w.heap[q]?:=by unfold set3;rw [Below.heap_setCell _ _ _ _ h,Below.heap_setCell _ _ _ _ h,Below.heap_setCell _ _ _ _ h]
theorem Rs.fin {w w1:World} {rb:Nat} {sv:Value} {l:List UInt8} {e:Int} (h:Rs w rb sv l e w1) (x y z:Value):lC (set3 w1 w.heap.size 0 x y z) rb sv l e/\Fr w (set3 w1 w.heap.size 0 x y z) (some rb) none:=by obtain ⟨h1,h2,_,_,_,_,h7⟩:=h;refine ⟨h1.of_block (KY (by omega)),h2.os,h2.tape,h2.output,by rw [bQ];exact h2.size,λq hq e1 e2=>?_⟩;rw [KY (by omega)];exact h2.block q hq e1 e2
def iF (s:List Int) (f:Nat) (sv:Value) (l:List UInt8) (e:Int) (w:World) (rb:Nat) (er:Ending) (w':World):Prop:=
 ∃(x:Bool×Int) (k:Fo) (a1:Option Addr) (a2 a3:Nat) (l':List UInt8),er= .returned (.agg #[.bool x.1,.int .i64 x.2,.slice a1 a2 a3])/\SB (New w w') w' k (.slice a1 a2 a3)/\Fr w w' (some rb) none/\lC w' rb sv l' (Y5 s f l e)/\(Y5 s f l e=0->(x,k)=(bE s f l).2.1/\l'=(bE s f l).2.2)
theorem iF.mk {s:List Int} {f:Nat} {sv:Value} {l:List UInt8} {e:Int} {w:World} {rb:Nat} {er:Ending} {w':World} (h:∃(x:Bool×Int) (k:Fo) (a1:Option Addr) (a2 a3:Nat) (l':List UInt8),er= .returned (.agg #[.bool x.1,.int .i64 x.2,.slice a1 a2 a3])/\SB (New w w') w' k (.slice a1 a2 a3)/\Fr w w' (some rb) none/\lC w' rb sv l' (Y5 s f l e)/\(Y5 s f l e=0->(x,k)=(bE s f l).2.1/\l'=(bE s f l).2.2)):iF s f sv l e w rb er w':=h
def aKG (s:List Int) (f:Nat):Prop:=∀(W:World) (sv:Value) (l:List UInt8) (e:Int) (w:World) (rb:Nat),iK W s sv->s.all bN=true->W.heap.size<=rb->Below W.heap.size W w->lC w rb sv l e->(e=0->l.length<f/\l.length<=maxLen)->
 Calls Tryz.prog 172 #[.pointer (some ⟨rb,0,none⟩)] w (iF s f sv l e w rb)
theorem VD (s:List Int) (f:Nat) (sv:Value) (l:List UInt8) (e:Int) (w:World) (rb:Nat) (hR:lC w rb sv l e) (he:e≠0):
 Calls Tryz.prog 172 #[.pointer (some ⟨rb,0,none⟩)] w (iF s f sv l e w rb):=by
 have HS:=aB (Rs.start hR);have He:=aB he;have xJ:(e !=0)=true:=by simpa using he
 have Hd:Hid (Y5 s f l e=e):=by simp [Hid,Y5,he]
 clear he hR;go_enter Tryz.func172,Tryz.ntmps172
 go_upto_region 1 with fail
 generalize w.alloc (.cells #[.bool false,.int .i64 0,.slice none 0 0] 84)=w0 at*;obtain ⟨⟨h0,h1,h2,hf⟩,-,r0,r1,r2,rf,hlt⟩:=HS.out
 go_wp2_with fail
 refine bodyPost_ret (v:= .agg #[.bool false,.int .i64 0,.slice none 0 0]) (by simp [results,Tryz.results172,go_sem,r0,r1,r2]) rfl (iF.mk ⟨(false,0),.nil,none,0,0,l,rfl,SB.nil _ _,(HS.out.fin _ _ _).2,?_,λh=>?_⟩)
 · rw [Hd.out];exact (HS.out.fin _ _ _).1
 · rw [Hd.out] at h;exact absurd h He.out
theorem aS0 (rb:Nat) (sv:Value) (l:List UInt8) (e:Int) (w:World) (h:lC w rb sv l e) (hl:e=0->l.length<=maxLen):
 Calls Tryz.prog 177 #[.pointer (some ⟨rb,0,none⟩),.int .u8 40] w λe' w'=>e'= .returned (.tuple #[])/\(∃l',lC w' rb sv l' (zM 40 l e)/\(zM 40 l e=0->l'=(qD 40 l).2))/\Fr w w' (some rb) none/\w'.heap.size=w.heap.size:=aAF 40 rb sv l e w h hl
theorem aSY (rb:Nat) (sv:Value) (l:List UInt8) (e:Int) (w:World) (h:lC w rb sv l e) (hl:e=0->l.length<=maxLen):
 Calls Tryz.prog 177 #[.pointer (some ⟨rb,0,none⟩),.int .u8 44] w λe' w'=>e'= .returned (.tuple #[])/\(∃l',lC w' rb sv l' (zM 44 l e)/\(zM 44 l e=0->l'=(qD 44 l).2))/\Fr w w' (some rb) none/\w'.heap.size=w.heap.size:=aAF 44 rb sv l e w h hl
theorem aSZ (rb:Nat) (sv:Value) (l:List UInt8) (e:Int) (w:World) (h:lC w rb sv l e) (hl:e=0->l.length<=maxLen):
 Calls Tryz.prog 177 #[.pointer (some ⟨rb,0,none⟩),.int .u8 41] w λe' w'=>e'= .returned (.tuple #[])/\(∃l',lC w' rb sv l' (zM 41 l e)/\(zM 41 l e=0->l'=(qD 41 l).2))/\Fr w w' (some rb) none/\w'.heap.size=w.heap.size:=aAF 41 rb sv l e w h hl
def Md (R:List UInt8->Int×((Bool×Int)×Fo)×List UInt8) (m:Nat) (r:List UInt8) (j:Nat) (acc:Fo) (E:Int) (l:List UInt8):Prop:=
 (E≠0->(nC R m 0 .nil r).1=E)/\(E=0->nC R m 0 .nil r=nC R (m - j) j acc l/\l.length<=r.length)
theorem Md.step {s:List Int} {f m:Nat} {r:List UInt8} {j:Nat} {acc k:Fo} {E E1 E2:Int} {l l1 l2:List UInt8} {x:Bool×Int} (h:Md (bE s f) m r j acc E l) (hj:j<m) (hE1:E1=zM (eU j) l E) (hl1:E1=0->l1=(qD (eU j) l).2)
 (hE2:E2=Y5 s f l1 E1) (hl2:E2=0->(x,k)=(bE s f l1).2.1/\l2=(bE s f l1).2.2):Md (bE s f) m r (j+1) (Fo.snoc acc x k) E2 l2:=by
 by_cases h0:E=0
 · subst h0;obtain ⟨h1,h2⟩:=h.2 rfl;have e1:E1=(qD (eU j) l).1:=by rw [hE1,zM];simp
   have hA:nC (bE s f) m 0 .nil r=if (qD (eU j) l).1≠0 then ((qD (eU j) l).1,.nil,[]) else
    if (bE s f (qD (eU j) l).2).1≠0 then ((bE s f (qD (eU j) l).2).1,.nil,[]) else
    nC (bE s f) (m - (j+1)) ((j:Int)+1) (Fo.snoc acc (bE s f (qD (eU j) l).2).2.1.1 (bE s f (qD (eU j) l).2).2.1.2) (bE s f (qD (eU j) l).2).2.2:=by
    rw [h1,show m - j=(m - (j+1))+1 by omega];rfl
   by_cases h3:E1=0
   · have aQ0:=hl1 h3;have e2:E2=(bE s f l1).1:=by rw [hE2,Y5,h3];simp
     rw [←e1,if_neg (by simpa using h3),←aQ0,←e2] at hA;have hle:=RX (eU j) l (by rw [←e1];exact h3);rw [←aQ0] at hle;have hle2:=VY s f l1;refine ⟨λh=>?_,λh=>?_⟩
     · rw [hA,if_pos h]
     · obtain ⟨q1,q2⟩:=hl2 h;rw [if_neg (by simpa using h),←q1,←q2] at hA;exact ⟨by rw [hA];simp,by rw [q2];omega⟩
   · have e2:E2=E1:=by rw [hE2,Y5,if_pos h3]
     rw [←e1,if_pos h3] at hA;refine ⟨λ_=>by rw [hA,e2],λh=>absurd (e2▸h) h3⟩
 · have e1:E1=E:=by rw [hE1,zM,if_pos h0]
   have e2:E2=E:=by rw [hE2,Y5,e1,if_pos h0]
   exact ⟨λ_=>by rw [e2];exact h.1 h0,λh=>absurd (e2▸h) h0⟩
theorem Md.fin {s:List Int} {f m:Nat} {r:List UInt8} {acc:Fo} {E E3:Int} {l l3:List UInt8} (h:Md (bE s f) m r m acc E l) (hm:0<m) (hE3:E3=zM 41 l E) (hl3:E3=0->l3=(qD 41 l).2):
 (pM (bE s f) (m:Int) r).1=E3/\(E3=0->pM (bE s f) (m:Int) r=(0,acc,l3)):=by
 rw [pM,if_neg (by omega),Int.toNat_natCast];by_cases h0:E=0
 · subst h0;obtain ⟨h1,_⟩:=h.2 rfl;rw [Nat.sub_self] at h1;have e3:E3=(qD 41 l).1:=by rw [hE3,zM];simp
   have h1':nC (bE s f) m 0 .nil r=(0,acc,l):=h1;rw [h1'];simp only [ne_eq,not_true_eq_false,if_false];by_cases h4:(qD 41 l).1=0
   · rw [if_neg (by simpa using h4)];exact ⟨by rw [e3,h4],λh=>by rw [hl3 h]⟩
   · rw [if_pos h4];exact ⟨e3.symm,λh=>absurd (e3▸h) h4⟩
 · have e3:E3=E:=by rw [hE3,zM,if_pos h0]
   have h1:=h.1 h0;rw [if_pos (by rw [h1];exact h0)];exact ⟨by rw [h1,e3],λh=>absurd (e3▸h) h0⟩
def aHI (s:List Int) (f m:Nat) (r:List UInt8) (w:World) (rb B:Nat) (sv:Value) (nn:Int) (j:Nat) (wr:World):Prop:=
 ∃(acc:Fo) (v:Value) (xs:List Value) (E:Int) (l:List UInt8),Fo.len acc=j/\Rs w rb sv l E wr/\Md (bE s f) m r j acc E l/\wr.ownsRow (B+1) 84 3 v (Fo.len acc) xs/\dN (Rm B (λ_=>False) wr v) wr acc xs/\
  wr.cell? ⟨B,0,none⟩=some (.bool false)/\wr.cell? ⟨B,1,none⟩=some (.int .i64 nn)/\wr.cell? ⟨B,2,none⟩=some v/\(∀i,wr.frozen? ⟨B,i,none⟩=false)
theorem Rs.below {w w1 w2:World} {rb:Nat} {sv:Value} {l:List UInt8} {e:Int} (h:Rs w rb sv l e w1) (hb:Below w1.heap.size w1 w2):Rs w rb sv l e w2:=by obtain ⟨h1,h2,h3,h4,h5,h6,h7⟩:=h;have hA:w.heap.size<w1.heap.size:=World.block_lt_of_cell? _ _ h3;exact ⟨h1.of_block (hb.block _ h1.lt),h2.trans (Fr.of_below hb none none) (λq _ hq=>by rcases hq with e|e<;>cases e),aA hb _ _ h3,aA hb _ _ h4,aA hb _ _ h5,λi=>(hb.frozen hA).trans (h6 i),h7⟩
theorem Rs.fr {w w1 w2:World} {rb:Nat} {sv:Value} {l l':List UInt8} {e e':Int} (h:Rs w rb sv l e w1) (hf:Fr w1 w2 (some rb) none) (hR:lC w2 rb sv l' e'):Rs w rb sv l' e' w2:=by obtain ⟨h1,h2,h3,h4,h5,h6,h7⟩:=h;have hA:w.heap.size<w1.heap.size:=World.block_lt_of_cell? _ _ h3;have hb:w2.heap[w.heap.size]?=w1.heap[w.heap.size]?:=hf.block _ hA (λe=>by simp at e;omega) (λe=>by cases e);exact ⟨hR,h2.trans hf (λq _ hq=>hq),(World.cell?_of_block hb).trans h3,(World.cell?_of_block hb).trans h4,(World.cell?_of_block hb).trans h5,λi=>(World.frozen?_of_block hb).trans (h6 i),h7⟩
theorem aLE {s:List Int} {f m:Nat} {r:List UInt8} {w wr w2 w3 w4:World} {rb B:Nat} {sv:Value} {nn:Int} {j:Nat} {acc k:Fo} {v v' a:Value} {xs:List Value} {E E1:Int} {l l1 l2:List UInt8} {x:Bool×Int} {g bW:Nat} {ob:Obj}
 (hacc:Fo.len acc=j) (hRs:Rs w rb sv l E wr) (hMd:Md (bE s f) m r j acc E l) (hj:j<m) (h1:wr.ownsRow (B+1) 84 3 v (Fo.len acc) xs) (h2:dN (Rm B (λ_=>False) wr v) wr acc xs)
 (q0:wr.cell? ⟨B,0,none⟩=some (.bool false)) (q1:wr.cell? ⟨B,1,none⟩=some (.int .i64 nn)) (q2:wr.cell? ⟨B,2,none⟩=some v) (qf:∀i,wr.frozen? ⟨B,i,none⟩=false) (hAB:w.heap.size<B)
 (hE1:E1=zM (eU j) l E) (hl1:E1=0->l1=(qD (eU j) l).2) (hf2:Fr wr w2 (some rb) none) (hs2:w2.heap.size=wr.heap.size) (hR2:lC w2 rb sv l1 E1)
 (hk:SB (New w2 w3) w3 k a) (hf3:Fr w2 w3 (some rb) none) (hR3:lC w3 rb sv l2 (Y5 s f l1 E1)) (hl2:Y5 s f l1 E1=0->(x,k)=(bE s f l1).2.1/\l2=(bE s f l1).2.2)
 (hv':v'= .slice (some ⟨g,0,none⟩) (Fo.len acc+1) bW) (ho:w4.ownsRow (B+1) 84 3 v' (Fo.len acc+1) (xs++[.bool x.1,.int .i64 x.2,a])) (hg:(w3.alloc ob).grownBy w4 v.ownBlock)
 (hat:v.ownBlock=some g\/g=w3.heap.size+1) (hlt:g<w4.heap.size):aHI s f m r w rb B sv nn (j+1) (w4.setCell ⟨B,2,none⟩ v'):=by
 have hrb:=hRs.2.2.2.2.2.2;have hBl:B<wr.heap.size:=World.block_lt_of_cell? _ _ q0;have hb2:∀q,B<=q->q<wr.heap.size->w2.heap[q]?=wr.heap[q]?:=λq hq hlt=>hf2.block q hlt (λe=>by simp at e;omega) (λe=>by cases e);have h1':w2.ownsRow (B+1) 84 3 v (Fo.len acc) xs:=bA h1 (λg hg=>by have:=aJ h1 g hg;exact hb2 g (by omega) this.2);have h2':dN (Rm B (λ_=>False) w2 v) w2 acc xs:=dN.frame (λq hq=>by rcases hq with h|⟨p1,p2,p3⟩;exact h.elim;exact .inr ⟨p1,by omega,p3⟩) (λq i hq=>by
  rcases hq with h|⟨p1,p2,p3⟩
  · exact h.elim
  · exact World.cell?_of_block (hb2 q (by omega) p2)) h2
 have eB:=hb2 B (Nat.le_refl _) hBl;have q2':=(World.cell?_of_block (a:=⟨B,2,none⟩) eB).trans q2;have hs3:=hf3.size;obtain ⟨r1,r2,r3,r4,r5,r6,r7⟩:=aIR (B:=B) (X:=λ_=>False) (x:=x) (k:=k) h1' h2' (λq hq=>hq.elim) (by omega) ⟨_,q2'⟩ hs3 (λq hq hlt=>hf3.block q hlt (λe=>by simp at e;rcases hq with h|h;exact h.elim;omega) (λe=>by cases e)) (hk.frame (λq hq=> .inr hq) (λ_ _ _=>rfl)) hv' ho hg hat hlt;have hno:∀q,q<=B->some q≠v.ownBlock:=λq hq e=>by have:=(aJ h1 q e.symm).1;omega
 refine ⟨Fo.snoc acc x k,v',_,_,l2,by rw [JP,hacc],?_,hMd.step hj hE1 hl1 rfl hl2,r1,r2,(r5 0 (by omega)).trans ((World.cell?_of_block eB).trans q0),(r5 1 (by omega)).trans ((World.cell?_of_block eB).trans q1),r3,λi=>(r6 i).trans ((World.frozen?_of_block eB).trans (qf i))⟩;have aT1:=(hRs.fr hf2 hR2).fr hf3 hR3;obtain ⟨a1,a2,a3,a4,a5,a6,a7⟩:=aT1;have hA3:w.heap.size<w3.heap.size:=World.block_lt_of_cell? _ _ a3;have eA:=r4 w.heap.size hA3 (hno _ (by omega)) (by omega);refine ⟨a1.of_block (r4 rb (by omega) (hno _ (by omega)) (by omega)),⟨?_,?_,?_,by omega,λq hq e1 e2=>?_⟩,(World.cell?_of_block eA).trans a3,(World.cell?_of_block eA).trans a4,(World.cell?_of_block eA).trans a5,λi=>(World.frozen?_of_block eA).trans (a6 i),a7⟩
 · show w4.os=_;rw [hg.os];exact a2.os
 · show w4.tape=_;rw [hg.tape];exact a2.tape
 · show w4.output=_;rw [hg.output];exact a2.output
 · rw [r4 q (by omega) (hno _ (by omega)) (by omega)];exact a2.block q hq e1 e2
theorem aMC {s:List Int} {f m:Nat} {r:List UInt8} {acc:Fo} {E:Int} {l:List UInt8} (hm:m=0) (h:Md (bE s f) m r m acc E l):E=0/\acc= .nil/\l=r:=by
 subst hm;by_cases h0:E=0
 · obtain ⟨h1,_⟩:=h.2 h0;simp only [nC,Nat.sub_self,Prod.mk.injEq,true_and] at h1;exact ⟨h0,h1.1.symm,h1.2.symm⟩
 · have:=h.1 h0;simp only [nC] at this;exact absurd this.symm h0
theorem aHR {wr w2:World} {B rb:Nat} {acc:Fo} {v:Value} {xs:List Value} (h1:wr.ownsRow (B+1) 84 3 v (Fo.len acc) xs) (h2:dN (Rm B (λ_=>False) wr v) wr acc xs) (hf:Fr wr w2 (some rb) none) (hr:rb<B):SB (λq=>B+1<=q/\q<w2.heap.size) w2 acc v:=by
 have hs:=hf.size;have hb:∀q,B+1<=q->q<wr.heap.size->w2.heap[q]?=wr.heap[q]?:=λq hq hlt=>hf.block q hlt (λe=>by simp at e;omega) (λe=>by cases e);have h1':w2.ownsRow (B+1) 84 3 v (Fo.len acc) xs:=bA h1 (λg hg=>by have:=aJ h1 g hg;exact hb g (by omega) this.2);have h2':dN (λq=>B+1<=q/\q<w2.heap.size) w2 acc xs:=dN.frame (λq hq=>by rcases hq with h|⟨p1,p2,p3⟩;exact h.elim;exact ⟨p1,by omega⟩) (λq i hq=>by
  rcases hq with h|⟨p1,p2,p3⟩
  · exact h.elim
  · exact World.cell?_of_block (hb q p1 p2)) h2
 exact aPT h1' h2' (λq hq=>hq) (λg hg=>by have:=aJ h1' g hg;exact this)
theorem aIF (s:List Int):∀f,aKG s f:=by
 intro f;induction f with
 |zero=>
  intro W sv l e w rb _ _ _ _ hR hl;by_cases he:e=0
  · have:=(hl he).1;omega
  · exact VD s 0 sv l e w rb hR he
 |succ f ih=>
  intro W sv l e w rb hN hs hWr hBW hR hl;by_cases he:e=0
  case neg=>exact VD s (f+1) sv l e w rb hR he
  subst he;obtain ⟨hlf,hlm⟩:=hl rfl;unfold maxLen at hlm;have HI:=aB ih;have HS:=aB (Rs.start hR);have Hd:Hid (Y5 s (f+1) l 0=(bE s (f+1) l).1):=by simp [Hid,Y5]
  have HN:=aB hN;have Hs:=aB hs;have HBW:=aB hBW;obtain ⟨sa,sc,sb,so,rfl,hsa,aKL,QM,hsF⟩:=hN;have HsF:=aB hsF;unfold maxLen at QM;clear hl ih hs hBW hsF hR;go_enter Tryz.func172,Tryz.ntmps172
  go_upto_region 1 with fail
  generalize w.alloc (.cells #[.bool false,.int .i64 0,.slice none 0 0] 84)=w0 at*;cases l with
  |nil=>
   have Hf:Hid ((bE s (f+1) []).1=8):=rfl;obtain ⟨⟨h0,h1,h2,hf⟩,-,r0,r1,r2,rf,hlt⟩:=HS.out
   go_wp2_with fail
   refine (oF rb _ [] 8 w0 HS.out.1).mono ?_;rintro e w' ⟨rfl,hw'⟩;have HS2:=aB (HS.out.setE 8);rw [←hw'] at HS2;clear hw' h0 h1 h2 hf r0 r1 r2 rf;obtain ⟨⟨h0,h1,h2,hf⟩,-,r0,r1,r2,rf,-⟩:=HS2.out
   go_wp2_with fail
   refine bodyPost_ret (v:= .agg #[.bool false,.int .i64 0,.slice none 0 0]) (by simp [results,Tryz.results172,go_sem,r0,r1,r2]) rfl (iF.mk ⟨(false,0),.nil,none,0,0,[],rfl,SB.nil _ _,(HS2.out.fin _ _ _).2,?_,λh=>?_⟩)
   · rw [Hd.out,Hf.out];exact (HS2.out.fin _ _ _).1
   · rw [Hd.out,Hf.out] at h;cases h
  |cons c r=>
   simp only [List.length_cons] at hlf hlm;have hc:(c.toNat:Int)<256:=by have:=c.toNat_lt;omega
   have hsl:=JV c r;have HS2:=aB (HS.out.setS r);obtain ⟨⟨h0,h1,h2,hf⟩,-,r0,r1,r2,rf,hlt⟩:=HS.out
   go_upto_region 8 with fail
   generalize w0.setCell ⟨rb,1,none⟩ (.string ⟨r.toArray⟩)=w1 at*;clear h0 h1 h2 hf r0 r1 r2 rf hsl HS;obtain ⟨⟨h0,h1,h2,hf⟩,-,r0,r1,r2,rf,-⟩:=HS2.out;by_cases h88:c=88
   · have hcb:((c.toNat:Int)==88)=true:=by rw [h88];rfl
     have Hf:Hid (bE s (f+1) (c::r)=((CW r).1,((CW r).2.1,.nil),(CW r).2.2)):=by rw [Hid,bE,if_pos h88]
     clear h88;cases r with
     |nil=>
      have Hv:Hid ((CW []).1=8):=rfl
      go_wp2_with fail
      refine (oF rb _ [] 8 w1 HS2.out.1).mono ?_;rintro e w' ⟨rfl,hw'⟩;have CP:=aB (HS2.out.setE 8);rw [←hw'] at CP;clear hw' h0 h1 h2 hf r0 r1 r2 rf;obtain ⟨⟨h0,h1,h2,hf⟩,-,r0,r1,r2,rf,-⟩:=CP.out
      go_wp2_with fail
      refine bodyPost_ret (v:= .agg #[.bool false,.int .i64 0,.slice none 0 0]) (by simp [results,Tryz.results172,go_sem,r0,r1,r2]) rfl (iF.mk ⟨(false,0),.nil,none,0,0,[],rfl,SB.nil _ _,(CP.out.fin _ _ _).2,?_,λh=>?_⟩)
      · rw [Hd.out,Hf.out];exact (CP.out.fin _ _ _).1
      · rw [Hd.out,Hf.out] at h;cases h
     |cons d r=>
      have hd:(d.toNat:Int)<256:=by have:=d.toNat_lt;omega
      by_cases hdd:(d.toNat:Int) - 48<0\/5<=(d.toNat:Int) - 48
      · have Hv:Hid ((bE s (f+1) (c::d::r)).1=3):=by rw [Hid,Hf.out,CW,if_pos hdd]
        by_cases hd0:(d.toNat:Int)<48
        · clear hdd
          go_wp2_with fail
          refine (oF rb _ (d::r) 3 w1 HS2.out.1).mono ?_;rintro e w' ⟨rfl,hw'⟩;have CP:=aB (HS2.out.setE 3);rw [←hw'] at CP;clear hw' h0 h1 h2 hf r0 r1 r2 rf;obtain ⟨⟨h0,h1,h2,hf⟩,-,r0,r1,r2,rf,-⟩:=CP.out
          go_wp2_with fail
          refine bodyPost_ret (v:= .agg #[.bool false,.int .i64 0,.slice none 0 0]) (by simp [results,Tryz.results172,go_sem,r0,r1,r2]) rfl (iF.mk ⟨(false,0),.nil,none,0,0,(d::r),rfl,SB.nil _ _,(CP.out.fin _ _ _).2,?_,λh=>?_⟩)
          · rw [Hd.out,Hv.out];exact (CP.out.fin _ _ _).1
          · rw [Hd.out,Hv.out] at h;cases h
        · have hd1:(52:Int)<(d.toNat:Int):=by omega
          clear hdd
          go_wp2_with fail
          refine (oF rb _ (d::r) 3 w1 HS2.out.1).mono ?_;rintro e w' ⟨rfl,hw'⟩;have CP:=aB (HS2.out.setE 3);rw [←hw'] at CP;clear hw' h0 h1 h2 hf r0 r1 r2 rf;obtain ⟨⟨h0,h1,h2,hf⟩,-,r0,r1,r2,rf,-⟩:=CP.out
          go_wp2_with fail
          refine bodyPost_ret (v:= .agg #[.bool false,.int .i64 0,.slice none 0 0]) (by simp [results,Tryz.results172,go_sem,r0,r1,r2]) rfl (iF.mk ⟨(false,0),.nil,none,0,0,(d::r),rfl,SB.nil _ _,(CP.out.fin _ _ _).2,?_,λh=>?_⟩)
          · rw [Hd.out,Hv.out];exact (CP.out.fin _ _ _).1
          · rw [Hd.out,Hv.out] at h;cases h
      · have Hv:Hid (bE s (f+1) (c::d::r)=(0,((true,(d.toNat:Int) - 48),.nil),r)):=by rw [Hid,Hf.out,CW,if_neg hdd]
        have hd0:¬(d.toNat:Int)<48:=by omega
        have hd1:¬(52:Int)<(d.toNat:Int):=by omega
        have hsl:=JV d r;have CP:=aB (HS2.out.setS r);clear hdd Hf;simp only [List.length_cons] at hlf hlm
        go_upto_region 17 with fail
        generalize w1.setCell ⟨rb,1,none⟩ (.string ⟨r.toArray⟩)=w2 at*;clear h0 h1 h2 hf r0 r1 r2 rf hsl;obtain ⟨⟨h0,h1,h2,hf⟩,-,r0,r1,r2,rf,-⟩:=CP.out
        go_wp2_with fail
        refine bodyPost_ret (v:= .agg #[.bool true,.int .i64 ((d.toNat:Int) - 48),.slice none 0 0]) (by simp [results,Tryz.results172,go_sem,r0,r1,r2]) rfl (iF.mk ⟨(true,(d.toNat:Int) - 48),.nil,none,0,0,r,rfl,SB.nil _ _,(CP.out.fin _ _ _).2,?_,λ_=>?_⟩)
        · rw [Hd.out,Hv.out];exact (CP.out.fin _ _ _).1
        · rw [Hv.out];exact ⟨rfl,rfl⟩
   · have hcb:((c.toNat:Int)==88)=false:=by
      rw [beq_eq_false_iff_ne];intro e
      exact h88 (UInt8.toNat_inj.1 (by have:c.toNat=88:=by omega
                                       rw [this];rfl))
     have Ht:Hid (bE s (f+1) (c::r)=if (c.toNat:Int) - 97<0\/(s.length:Int)<=(c.toNat:Int) - 97 then (7,((false,0),.nil),[]) else
      if (pM (bE s f) (s.getD ((c.toNat:Int) - 97).toNat 0) r).1≠0 then ((pM (bE s f) (s.getD ((c.toNat:Int) - 97).toNat 0) r).1,((false,0),.nil),[]) else
      (0,((false,(c.toNat:Int) - 97),(pM (bE s f) (s.getD ((c.toNat:Int) - 97).toNat 0) r).2.1),(pM (bE s f) (s.getD ((c.toNat:Int) - 97).toNat 0) r).2.2)):=by rw [Hid,bE,if_neg h88]
     clear h88;by_cases hc0:(c.toNat:Int)<97
     · have Hv:Hid ((bE s (f+1) (c::r)).1=7):=by rw [Hid,Ht.out,if_pos (.inl (by omega))]
       clear Ht
       go_wp2_with fail
       refine (oF rb _ r 7 w1 HS2.out.1).mono ?_;rintro e w' ⟨rfl,hw'⟩;have CP:=aB (HS2.out.setE 7);rw [←hw'] at CP;clear hw' h0 h1 h2 hf r0 r1 r2 rf;obtain ⟨⟨h0,h1,h2,hf⟩,-,r0,r1,r2,rf,-⟩:=CP.out
       go_wp2_with fail
       refine bodyPost_ret (v:= .agg #[.bool false,.int .i64 0,.slice none 0 0]) (by simp [results,Tryz.results172,go_sem,r0,r1,r2]) rfl (iF.mk ⟨(false,0),.nil,none,0,0,r,rfl,SB.nil _ _,(CP.out.fin _ _ _).2,?_,λh=>?_⟩)
       · rw [Hd.out,Hv.out];exact (CP.out.fin _ _ _).1
       · rw [Hd.out,Hv.out] at h;cases h
     by_cases hc1:(s.length:Int)<=(c.toNat:Int) - 97
     · have Hv:Hid ((bE s (f+1) (c::r)).1=7):=by rw [Hid,Ht.out,if_pos (.inr hc1)]
       clear Ht
       go_wp2_with fail
       refine (oF rb _ r 7 w1 HS2.out.1).mono ?_;rintro e w' ⟨rfl,hw'⟩;have CP:=aB (HS2.out.setE 7);rw [←hw'] at CP;clear hw' h0 h1 h2 hf r0 r1 r2 rf;obtain ⟨⟨h0,h1,h2,hf⟩,-,r0,r1,r2,rf,-⟩:=CP.out
       go_wp2_with fail
       refine bodyPost_ret (v:= .agg #[.bool false,.int .i64 0,.slice none 0 0]) (by simp [results,Tryz.results172,go_sem,r0,r1,r2]) rfl (iF.mk ⟨(false,0),.nil,none,0,0,r,rfl,SB.nil _ _,(CP.out.fin _ _ _).2,?_,λh=>?_⟩)
       · rw [Hd.out,Hv.out];exact (CP.out.fin _ _ _).1
       · rw [Hd.out,Hv.out] at h;cases h
     rw [if_neg (by omega)] at Ht;have hc0':97<=(c.toNat:Int):=by omega
     have hc1':(c.toNat:Int) - 97<(s.length:Int):=by omega
     have hc2':0<=(c.toNat:Int) - 97:=by omega
     have aGQ:sa=some ⟨sb,so,none⟩:=hsa (by omega);subst aGQ;have aT2:Below W.heap.size W w1:=HBW.out.trans (HS2.out.2.1.below HBW.out.size (λg hg=>by cases hg;exact hWr) (λg hg=>by cases hg));have hcell:=aA aT2 _ _ (HsF.out ((c.toNat:Int) - 97).toNat (by omega));have Hm:=aB (aHQ Hs.out (i:=((c.toNat:Int) - 97).toNat) (by omega));have hcell1:=aA (aD w1 (.cells #[.bool false,.int .i64 ((c.toNat:Int) - 97),.slice none 0 0] 84)) _ _ hcell;have aVM:rb<w1.heap.size:=HS2.out.1.lt;have k0:(w1.alloc (.cells #[.bool false,.int .i64 ((c.toNat:Int) - 97),.slice none 0 0] 84)).cell? ⟨rb,0,none⟩=some (.slice (some ⟨sb,so,none⟩) s.length sc):=aA (aD _ _) _ _ h0;generalize s.getD ((c.toNat:Int) - 97).toNat 0=mm at*;obtain ⟨m,rfl⟩:=Int.eq_ofNat_of_zero_le Hm.out.1;have hm2:m<=2:=by have:=Hm.out.2;omega
     clear hsa hcell hc1 hc0
     go_wp2_with fail
     go_quiet (fail)
     go_wp2_with fail
     have hAB:w.heap.size<w1.heap.size:=World.block_lt_of_cell? _ _ r0
     have jP:Hid (aHI s f m r w rb w1.heap.size (.slice (some ⟨sb,so,none⟩) s.length sc) ((c.toNat:Int) - 97) 0 ((w1.alloc (.cells #[.bool false,.int .i64 ((c.toNat:Int) - 97),.slice none 0 0] 84)).drewN nq)):=
      ⟨.nil,.slice none 0 0,[],0,r,rfl,HS2.out.below (below_drewN (aD _ _) _),⟨λh=>absurd rfl h,λ_=>⟨rfl,Nat.le_refl _⟩⟩,⟨rfl,.inl ⟨rfl,rfl⟩⟩,rfl,by simp,by simp,by simp,λi=>by simp⟩
     clear hcell1 k0 h0 h1 h2 hf r0 r1 r2 rf hc1' hc2' hc0' hcb hc;generalize (c.toNat:Int) - 97=nn at*;generalize w1.heap.size=B at*
     go_loopw [108] (λi wr=>∃j:Nat,j<=m/\i= .int .i64 j/\aHI s f m r w rb B (.slice (some ⟨sb,so,none⟩) s.length sc) nn j wr) (λi _=>m - (intOf i).toNat)
     case atStart=>exact ⟨0,Nat.zero_le _,rfl,jP.out⟩
     case round=>
      obtain ⟨j,hj,rfl,acc,v,xs,E,l,hacc,hRs,hMd,Y8,hR2,q0,q1,q2,qf⟩:=hrel;clear jP;have HRs:=aB hRs;have HMd:=aB hMd;have HR1:=aB Y8;have HR2:=aB hR2;have Hqf:=aB qf;have aPG:=aB hacc;obtain ⟨z1,z3,rfl⟩:=aR Y8;have hBl:B<wr.heap.size:=World.block_lt_of_cell? _ _ q0;have aVL:rb<w.heap.size:=hRs.2.2.2.2.2.2;clear hMd Y8 hR2 qf hRs hacc;by_cases hjm:j<m
      · have aVS:(j:Int)<(m:Int):=by omega
        go_upto_if 112 with fail
        go_cut [108] (λaSN wx=>aSN= .int .i64 j/\∃l1,lC wx rb (.slice (some ⟨sb,so,none⟩) s.length sc) l1 (zM (eU j) l E)/\(zM (eU j) l E=0->l1=(qD (eU j) l).2)/\Fr wr wx (some rb) none/\wx.heap.size=wr.heap.size)
        case first=>
         have Hlm:Hid (E=0->l.length<=maxLen):=λh=>by have:=(HMd.out.2 h).2;unfold maxLen;omega
         by_cases hj0:j=0
         · have hjb:((j:Int)==0)=true:=by rw [beq_iff_eq];omega
           have Hsg:Hid (eU (j:Int)=40):=by rw [Hid,eU,if_pos (by omega)]
           clear hj0
           go_wp2_with fail
           refine (aS0 rb _ l E wr HRs.out.1 Hlm.out).mono ?_;rintro e w' ⟨rfl,hl1,hfr,hsz⟩
           go_wp2_with fail
           go_meet
           case rel=>rw [Hsg.out];obtain ⟨l1,h1,h2⟩:=hl1;exact ⟨rfl,l1,h1,h2,hfr,hsz⟩
         · have hjb:((j:Int)==0)=false:=by rw [beq_eq_false_iff_ne];omega
           have Hsg:Hid (eU (j:Int)=44):=by rw [Hid,eU,if_neg (by omega)]
           clear hj0
           go_wp2_with fail
           refine (aSY rb _ l E wr HRs.out.1 Hlm.out).mono ?_;rintro e w' ⟨rfl,hl1,hfr,hsz⟩
           go_wp2_with fail
           go_meet
           case rel=>rw [Hsg.out];obtain ⟨l1,h1,h2⟩:=hl1;exact ⟨rfl,l1,h1,h2,hfr,hsz⟩
        case rest=>
         obtain ⟨rfl,l1,aOS,hl1,hf2,hs2⟩:=hcut;generalize wc=w2 at*;have aPL:=aB aOS;have Hl1:=aB hl1;have Hf2:=aB hf2;have eB:w2.heap[B]?=wr.heap[B]?:=hf2.block B hBl (λe=>by simp at e;omega) (λe=>by cases e);have g2:w2.cell? ⟨B,2,none⟩=some (.slice z1 (Fo.len acc) z3):=(World.cell?_of_block eB).trans q2;have gf:∀i,w2.frozen? ⟨B,i,none⟩=false:=λi=>(World.frozen?_of_block eB).trans (Hqf.out i);have hB2:B<w2.heap.size:=by omega
         have aHL:Hid (w2.ownsRow (B+1) 84 3 (.slice z1 (Fo.len acc) z3) (Fo.len acc) xs):=bA HR1.out (λg hg=>by have h:=aJ HR1.out g hg;exact hf2.block g h.2 (λe=>by simp at e;omega) (λe=>by cases e))
         have aU9:Hid (Below W.heap.size W w2):=HBW.out.trans (((HRs.out.fr hf2 aOS).2.1).below HBW.out.size (λg hg=>by cases hg;exact hWr) (λg hg=>by cases hg));have aNS:Hid (zM (eU j) l E=0->l1.length<f/\l1.length<=maxLen):=λh=>by
          have h1:=Hl1.out h;have hE:E=0:=by
           rcases Decidable.em (E=0) with e|e
           · exact e
           · rw [zM,if_pos e] at h;exact absurd h e
          subst hE;have h2:=(HMd.out.2 rfl).2;have h3:=RX (eU j) l (by rw [zM] at h;simpa using h);rw [h1];unfold maxLen;omega
         obtain ⟨i26,aQ3,hz0,hz1,hz2⟩:=info_parts Tryz.info84;have hn1:Fo.len acc+1<=maxLen:=by rw [aPG.out];unfold maxLen;omega
         have hn2:(Fo.len acc+1)*40<=140737488355328:=by rw [aPG.out];omega
         obtain ⟨E1,hE1⟩:∃E1,E1=zM (eU j) l E:=⟨_,rfl⟩;have HE1:=aB hE1;rw [←hE1] at aPL aNS Hl1;clear aOS hl1 hf2 hE1
         go_upto_region 29 with fail
         go_region_law (first
          |(refine step_append_lies _ (by rfl) _ _ _ (by rfl) (B+1) 84 i26 (.agg #[.bool false,.int .i64 0,.slice none 0 0]) 3 40 Tryz.underlying82 aQ3 hz0 hz1 hz2 rfl (by decide) (.slice z1 (Fo.len acc) z3) (Fo.len acc) xs (by rfl) UW.out ⟨w3.heap.size,0,none⟩ 1 1 [.bool xv,.int .i64 xn,.slice a1 a2 a3] (by rfl) (by rfl) rQ.out (by simp [Value.oneCell']) (by decide) hn1 hn2 (by simp;omega) (w3.heap.size+1) (by simp) ?_;intro g bW w4 sM hg4 jE oH;have x2:=aI9 hg4 hB3 Hno.out g3;have xf:=aBE hg4 hB3 Hno.out gf3)
          |(go_simp;go_at_call 172;refine (HI.out W _ l1 E1 _ rb HN.out Hs.out hWr ?_ ?_ aNS.out).mono ?_;(exact aU9.out.drew);(exact aPL.out.of_block rfl);rintro e w3 hT;obtain ⟨⟨xv,xn⟩,xk,a1,a2,a3,l2,rfl,hSk,hf3,hR3,hl2⟩:=hT
            have hs3:=hf3.size;have eB3:w3.heap[B]?=w2.heap[B]?:=(hf3.block B hB2 (λe=>by simp at e;omega) (λe=>by cases e));have g3:w3.cell? ⟨B,2,none⟩=some (.slice z1 (Fo.len acc) z3):=((World.cell?_of_block eB3).trans g2);have gf3:∀i,w3.frozen? ⟨B,i,none⟩=false:=(λi=>(World.frozen?_of_block eB3).trans (gf i));have hB3:B<w3.heap.size:=Nat.lt_of_lt_of_le hB2 hs3;have Hno:Hid (some B≠(Value.slice z1 (Fo.len acc) z3).ownBlock):=(λe=>by have:=(aJ aHL.out _ e.symm).1;omega);have UW:Hid ((w3.alloc (.cells #[.bool xv,.int .i64 xn,.slice a1 a2 a3] 84)).ownsRow (B+1) 84 3 (.slice z1 (Fo.len acc) z3) (Fo.len acc) xs):=(bA aHL.out (λg hg=>by have h:=aJ aHL.out g hg;have hs:w2.heap.size<=w3.heap.size:=hs3;rw [Below.heap_alloc _ _ _ (by omega)];exact hf3.block g h.2 (λe=>by simp at e;omega) (λe=>by cases e)));have rQ:Hid (∀j u,[Value.bool xv,.int .i64 xn,.slice a1 a2 a3][j]?=some u->(w3.alloc (.cells #[.bool xv,.int .i64 xn,.slice a1 a2 a3] 84)).cell? ((⟨w3.heap.size,0,none⟩:Addr).add j)=some u):=(World.news_of_block (cs:=#[.bool xv,.int .i64 xn,.slice a1 a2 a3]) (heap_alloc_new w3 _))))
         all_goals
          have jP:=aB (aLE (x:=(xv,xn)) (k:=xk) aPG.out HRs.out HMd.out hjm HR1.out HR2.out q0 q1 q2 Hqf.out hAB HE1.out Hl1.out Hf2.out hs2 aPL.out hSk ⟨hf3.os,hf3.tape,hf3.output,hf3.size,hf3.block⟩ hR3 hl2 rfl sM hg4 jE oH);clear hSk hf3 hR3 hl2 sM hg4 jE oH x2 xf g3 gf3 UW rQ aQ3 hz0 hz1 hz2
          go_wp2_with fail
          go_roundw
          case rel=>exact ⟨j+1,by omega,by go_num,jP.out⟩
          case measure=>simp [intOf];omega
      · have lK:j=m:=by omega
        subst lK;by_cases hm0:j=0
        · have bP:=aB (aMC hm0 HMd.out);have Hv:Hid (bE s (f+1) (c::r)=(0,((false,nn),acc),l)):=by
           have hA:pM (bE s f) (j:Int) r=(0,.nil,r):=by rw [pM,if_pos (by omega)]
           rw [Hid,Ht.out,hA,bP.out.2.1,bP.out.2.2];simp
          have HSB:=aB (aHR HR1.out HR2.out (Fr.refl wr (some rb) none) (by omega));have aRS:Hid (Rs w rb (.slice (some ⟨sb,so,none⟩) s.length sc) l 0 wr):=by have:=HRs.out;rw [bP.out.1] at this;exact this
          obtain ⟨-,-,r0,r1,r2,rf,-⟩:=HRs.out;have hj0:¬(0:Int)<(j:Int):=by omega
          have hge:¬((j:Int)<(j:Int)):=by omega
          clear hjm hm0
          go_wp2_with fail
          refine bodyPost_ret (v:= .agg #[.bool false,.int .i64 nn,.slice z1 (Fo.len acc) z3]) (by simp [results,Tryz.results172,go_sem,r0,r1,r2]) rfl (iF.mk ⟨(false,nn),acc,_,_,_,l,rfl,?_,(aRS.out.fin _ _ _).2,?_,λ_=>?_⟩)
          · exact (HSB.out.set3 (b:=w.heap.size) (o:=0) (by omega)).frame (λq hq=>⟨by omega,by rw [World.size_setCell,World.size_setCell,World.size_setCell];exact hq.2⟩) (λ_ _ _=>rfl)
          · rw [Hd.out,Hv.out];exact (aRS.out.fin _ _ _).1
          · rw [Hv.out];exact ⟨rfl,rfl⟩
        · have hm1:(0:Int)<(j:Int):=by omega
          have hge:¬((j:Int)<(j:Int)):=by omega
          have Hlm:Hid (E=0->l.length<=maxLen):=λh=>by have:=(HMd.out.2 h).2;unfold maxLen;omega
          have aQ1:0<j:=by omega
          clear hjm hm0
          go_wp2_with fail
          refine (aSZ rb _ l E wr HRs.out.1 Hlm.out).mono ?_;rintro e w2 ⟨rfl,⟨l3,hR3,hl3⟩,hf3,hs3⟩;have aK0:=aB (HRs.out.fr hf3 hR3);have HSB:=aB (aHR HR1.out HR2.out hf3 (by omega));have bP:=aB (HMd.out.fin aQ1 rfl hl3);obtain ⟨E3,hE3⟩:∃E3,E3=zM 41 l E:=⟨_,rfl⟩;rw [←hE3] at bP aK0;have Hv:Hid ((bE s (f+1) (c::r)).1=E3):=by
           rw [Hid,Ht.out];by_cases h:E3=0
           · rw [if_neg (by rw [bP.out.1];simpa using h),h]
           · rw [if_pos (by rw [bP.out.1];exact h),bP.out.1]
          have Hv2:Hid (E3=0->bE s (f+1) (c::r)=(0,((false,nn),acc),l3)):=λh=>by rw [Ht.out,if_neg (by rw [bP.out.1];simpa using h),bP.out.2 h]
          have eB:w2.heap[B]?=wr.heap[B]?:=hf3.block B hBl (λe=>by simp at e;omega) (λe=>by cases e);have q0':=(World.cell?_of_block (a:=⟨B,0,none⟩) eB).trans q0;have q1':=(World.cell?_of_block (a:=⟨B,1,none⟩) eB).trans q1;have q2':=(World.cell?_of_block (a:=⟨B,2,none⟩) eB).trans q2;obtain ⟨-,-,r0,r1,r2,rf,-⟩:=aK0.out;clear hR3 hl3 hf3 hE3 q0 q1 q2
          go_wp2_with fail
          refine bodyPost_ret (v:= .agg #[.bool false,.int .i64 nn,.slice z1 (Fo.len acc) z3]) (by simp [results,Tryz.results172,go_sem,r0,r1,r2]) rfl (iF.mk ⟨(false,nn),acc,_,_,_,l3,rfl,?_,(aK0.out.fin _ _ _).2,?_,λh=>?_⟩)
          · exact (HSB.out.set3 (b:=w.heap.size) (o:=0) (by omega)).frame (λq hq=>⟨by omega,by rw [World.size_setCell,World.size_setCell,World.size_setCell];exact hq.2⟩) (λ_ _ _=>rfl)
          · rw [Hd.out,Hv.out];exact (aK0.out.fin _ _ _).1
          · rw [Hd.out,Hv.out] at h;rw [Hv2.out h];exact ⟨rfl,rfl⟩
end
section
attribute [local go_sem ↓] Go.wp_at_zero Go.wp_at_succ
theorem aE4 {s:List Int}:∀{f:Nat} {l:List UInt8},(bE s f l).1≠0->(bE s f l).2=(((false,0),.nil),[])
 |0,_,_=>rfl
 |_+1,[],_=>rfl
 |f+1,c::r,h=>by
  rw [bE] at h ⊢;by_cases h88:c=88
  · rw [if_pos h88] at h ⊢;cases r with
    |nil=>rfl
    |cons d r=>
     rw [CW] at h ⊢;by_cases hd:(d.toNat:Int) - 48<0\/5<=(d.toNat:Int) - 48
     · rw [if_pos hd]
     · rw [if_neg hd] at h;exact absurd rfl h
  · rw [if_neg h88] at h ⊢;by_cases hn:(c.toNat:Int) - 97<0\/(s.length:Int)<=(c.toNat:Int) - 97
    · rw [if_pos hn]
    · rw [if_neg hn] at h ⊢;by_cases ha:(pM (bE s f) (s.getD ((c.toNat:Int) - 97).toNat 0) r).1=0
      · rw [if_neg (by simpa using ha)] at h;exact absurd rfl h
      · rw [if_pos ha]
theorem aE5 (s:List Int) (sv:Value) (l:List UInt8) (w:World) (hN:iK w s sv) (hs:s.all bN=true) (hl:l.length<maxLen):
 Calls Tryz.prog 154 #[sv,str l] w λe w'=>∃a1 a2 a3,e= .returned (.tuple #[.agg #[.bool (bE s (l.length+1) l).2.1.1.1,.int .i64 (bE s (l.length+1) l).2.1.1.2,.slice a1 a2 a3],str (bE s (l.length+1) l).2.2,.int .i64 (bE s (l.length+1) l).1])/\SB (New w w') w' (bE s (l.length+1) l).2.1.2 (.slice a1 a2 a3)/\Below w.heap.size w w':=by
 have HN:=aB hN;have Hs:=aB hs;obtain ⟨sa,sc,sb,so,rfl,-,-,-,-⟩:=hN;unfold maxLen at hl;have Hlm:Hid (l.length<l.length+1/\l.length<=maxLen):=⟨by omega,by unfold maxLen;omega⟩;obtain ⟨q,hq⟩:∃q,q=bE s (l.length+1) l:=⟨_,rfl⟩;have Hq:=aB hq;rw [←hq];have Hqe:Hid (q.1≠0->q.2=(((false,0),.nil),[])):=λh=>by rw [hq] at h ⊢;exact aE4 h
 have Hrd:Hid (Y5 s (l.length+1) l 0=q.1):=by rw [Hid,Y5,hq];simp
 clear hq hs;obtain ⟨q1,⟨⟨qv,qn⟩,qk⟩,q3⟩:=q;simp only at Hrd Hqe ⊢;go_enter Tryz.func154,Tryz.ntmps154
 go_upto_region 2 with fail
 generalize hw0:(w.alloc (.cells #[.bool false,.int .i64 0,.slice none 0 0] 84)).alloc (.cells #[.slice sa s.length sc,.string ⟨l.toArray⟩,.int .i64 0] 183)=w0;have hB0:Below w.heap.size w w0:=by rw [←hw0];exact (aD _ _).alloc (by simp) _
 have r0:w0.cell? ⟨w.heap.size,0,none⟩=some (.bool false):=by rw [←hw0];simp
 have r1:w0.cell? ⟨w.heap.size,1,none⟩=some (.int .i64 0):=by rw [←hw0];simp
 have r2:w0.cell? ⟨w.heap.size,2,none⟩=some (.slice none 0 0):=by rw [←hw0];simp
 have rf:∀i,w0.frozen? ⟨w.heap.size,i,none⟩=false:=λi=>by rw [←hw0];simp
 have HR:Hid (lC w0 (w.heap.size+1) (.slice sa s.length sc) l 0):=by rw [←hw0];exact ⟨by simp,by simp,by simp,λi=>by simp⟩
 have hs0:w.heap.size+1<w0.heap.size:=HR.out.lt;clear hw0
 go_wp2_with fail
 refine (aIF s (l.length+1) w _ l 0 w0 (w.heap.size+1) HN.out Hs.out (by omega) hB0 HR.out (λ_=>Hlm.out)).mono ?_;rintro e w1 ⟨⟨xv,xn⟩,xk,a1,a2,a3,l',rfl,hSk,hf1,Y8,hl1⟩;rw [Hrd.out] at Y8 hl1;have eA:w1.heap[w.heap.size]?=w0.heap[w.heap.size]?:=hf1.block _ (by omega) (λe=>by simp at e) (λe=>by cases e);have r0':=(World.cell?_of_block (a:=⟨w.heap.size,0,none⟩) eA).trans r0;have r1':=(World.cell?_of_block (a:=⟨w.heap.size,1,none⟩) eA).trans r1;have r2':=(World.cell?_of_block (a:=⟨w.heap.size,2,none⟩) eA).trans r2;have rf':∀i,w1.frozen? ⟨w.heap.size,i,none⟩=false:=λi=>(World.frozen?_of_block eA).trans (rf i);have hB1:Below w.heap.size w w1:=hB0.trans (hf1.below hB0.size (λg hg=>by cases hg;omega) (λg hg=>by cases hg));have hs1:=hf1.size;have HSk:=aB hSk;have Hl1:=aB hl1;have HR1:=aB Y8;clear r0 r1 r2 rf hf1 hSk hl1 Y8 eA HR
 go_upto_region 3 with fail
 generalize hw2:w1.alloc (.cells #[.bool xv,.int .i64 xn,.slice a1 a2 a3] 84)=w2;have hb2:Below w1.heap.size w1 w2:=by rw [←hw2];exact aD _ _
 have u0:w2.cell? ⟨w1.heap.size,0,none⟩=some (.bool xv):=by rw [←hw2];simp
 have u1:w2.cell? ⟨w1.heap.size,1,none⟩=some (.int .i64 xn):=by rw [←hw2];simp
 have u2:w2.cell? ⟨w1.heap.size,2,none⟩=some (.slice a1 a2 a3):=by rw [←hw2];simp
 have r0:=aA hb2 _ _ r0';have r1:=aA hb2 _ _ r1';have r2:=aA hb2 _ _ r2';have rf:∀i,w2.frozen? ⟨w.heap.size,i,none⟩=false:=λi=>(hb2.frozen (by show w.heap.size<_;omega)).trans (rf' i);obtain ⟨k0,k1,k2,-⟩:=HR1.out.of_block (hb2.block _ HR1.out.lt);have hB2:=hB1.trans (hb2.mono (by omega));have aU5:=aB (HSk.out.grow (λq hq=>hq.2) hb2);clear hw2 r0' r1' r2' rf' HSk;by_cases he:q1=0
 · subst he;obtain ⟨hx,hl'⟩:=Hl1.out rfl;rw [←Hq.out] at hx hl';simp only [Prod.mk.injEq] at hx hl';obtain ⟨⟨rfl,rfl⟩,rfl⟩:=hx;subst hl'
   go_wp2_with fail
   go_region
   all_goals
    go_wp2_with fail
    exact bodyPost_ret (v:= .tuple #[.agg #[.bool xv,.int .i64 xn,.slice a1 a2 a3],.string ⟨l'.toArray⟩,.int .i64 0]) (by simp [results,Tryz.results154,go_sem,r0,r1,r2]) rfl ⟨_,_,_,rfl,(aU5.out.set3 (b:=w.heap.size) (o:=0) (λh=>by have h1:w0.heap.size<=w.heap.size:=h.1;omega)).frame (λq hq=>⟨by have h1:w0.heap.size<=q:=hq.1;omega,by have h1:=hq.2;have h2:=hb2.size;simp [World.setCell];omega⟩) (λ_ _ _=>rfl),(aT (o:=0) hB2 (Nat.le_refl _)).drew⟩
 · have xJ:(q1 !=0)=true:=by simpa using he
   have hqe:=Hqe.out he;simp only [Prod.mk.injEq] at hqe;obtain ⟨⟨⟨rfl,rfl⟩,rfl⟩,rfl⟩:=hqe;clear he
   go_wp2_with fail
   go_region
   all_goals
    go_wp2_with fail
    exact bodyPost_ret (v:= .tuple #[.agg #[.bool false,.int .i64 0,.slice none 0 0],.string ⟨#[]⟩,.int .i64 q1]) (by simp [results,Tryz.results154,go_sem,r0,r1,r2]) rfl ⟨_,_,_,rfl,SB.nil _ _,(aT (o:=0) hB2 (Nat.le_refl _)).drew⟩
theorem aBC (s:List Int) (sv:Value) (l:List UInt8) (w:World) (hN:iK w s sv) (hl:l.length<=maxLen):
 Calls Tryz.prog 123 #[sv,str l] w λe w'=>∃a,e= .returned (.tuple #[trm (gF s l).2.1 a,.int .i64 (gF s l).1])/\SB (New w w') w' (gF s l).2.2 a/\Below w.heap.size w w':=by
 have HN:=aB hN;obtain ⟨sa,sc,sb,so,rfl,-,-,-,-⟩:=hN;unfold maxLen at hl;go_enter Tryz.func123,Tryz.ntmps123
 go_wp2_with fail
 refine (DN s _ _ (HN.out.alloc _)).mono ?_;rintro e w' ⟨rfl,hw'⟩;rw [hw'];clear hw' w';by_cases hw:gX s=0
 · have Hw:=aB hw;simp only [hw];by_cases h48:48<l.length
   · have Hf:Hid (gF s l=(4,uF)):=by rw [Hid,gF,if_neg (by simpa using hw),if_pos h48]
     have h48':(48:Int)<(l.length:Int):=by omega
     clear hw
     go_wp2_with fail
     rw [Hf.out];exact bodyPost_ret (v:= .tuple #[.agg #[.bool false,.int .i64 0,.slice none 0 0],.int .i64 4]) (by simp [results,Tryz.results123,go_sem]) rfl ⟨_,rfl,SB.nil _ _,aD _ _⟩
   · have Ht:Hid (gF s l=if (bE s (l.length+1) l).1≠0 then ((bE s (l.length+1) l).1,uF) else
      if (bE s (l.length+1) l).2.2≠[] then (2,uF) else
      if aU s (bE s (l.length+1) l).2.1.1 (bE s (l.length+1) l).2.1.2≠0 then (aU s (bE s (l.length+1) l).2.1.1 (bE s (l.length+1) l).2.1.2,uF) else
      (0,(bE s (l.length+1) l).2.1)):=by rw [Hid,gF,if_neg (by simpa using hw),if_neg h48]
     have h48':¬(48:Int)<(l.length:Int):=by omega
     have nD:=aB (GY hw).1;clear hw
     go_wp2_with fail
     refine (aE5 s _ l _ (HN.out.alloc _) nD.out (by unfold maxLen;omega)).mono ?_;rintro e w1 ⟨z1,z2,z3,rfl,hSB,hb1⟩;obtain ⟨b0,b1,b2,bf,hB,hsz⟩:=vR hb1;generalize bE s (l.length+1) l=q at*;obtain ⟨q1,⟨⟨qv,qn⟩,qk⟩,q3⟩:=q;simp only at Ht hSB ⊢;have HSB:Hid (SB (λq=>w.heap.size+1<=q/\q<w1.heap.size) w1 qk (.slice z1 z2 z3)):=hSB.frame (λq hq=>by have h1:=hq.1;simp at h1;exact ⟨h1,hq.2⟩) (λ_ _ _=>rfl);clear hb1 hSB;by_cases he:q1=0
     · subst he;rw [if_neg (by simp)] at Ht;cases q3 with
       |cons d r=>
        rw [if_pos (by simp)] at Ht
        go_wp2_with fail
        rw [Ht.out];refine bodyPost_ret (v:= .tuple #[.agg #[.bool false,.int .i64 0,.slice none 0 0],.int .i64 2]) (by simp [results,Tryz.results123,go_sem,b0,b1,b2,hsz]) rfl ⟨_,rfl,SB.nil _ _,?_⟩;exact (aT (o:=0) hB (Nat.le_refl _)).alloc (by rw [bQ];omega) _
       |nil=>
        rw [if_neg (by simp)] at Ht;have HSx:=aB (HSB.out.toS.alloc (.cells #[.bool qv,.int .i64 qn,.slice z1 z2 z3] 84));have hw1:w.heap.size<=w1.heap.size:=by omega
        go_wp2_with fail
        refine (yM s _ (qv,qn) qk _ _ ((HN.out.below hB).alloc _) HSx.out).mono ?_;rintro e w2 ⟨rfl,hb2⟩;obtain ⟨d0,d1,d2,df,hB2,hsz2⟩:=vR hb2;have c0:=aA hB2 _ _ b0;have c1:=aA hB2 _ _ b1;have c2:=aA hB2 _ _ b2;have cf:∀i,w2.frozen? ⟨w.heap.size,i,none⟩=false:=λi=>(hB2.frozen (by show w.heap.size<_;omega)).trans (bf i);have hBB:=aC hB hB2;have aU6:Hid (SB (λq=>w.heap.size+1<=q/\q<w1.heap.size) w2 qk (.slice z1 z2 z3)):=HSB.out.frame (λ_ h=>h) (λq i hq=>hB2.cell (p:=⟨q,i,none⟩) hq.2);clear hb2 b0 b1 b2 bf;by_cases he:aU s (qv,qn) qk=0
        · rw [if_neg (by simpa using he)] at Ht;simp only [he];clear he
          go_wp2_with fail
          rw [Ht.out];refine bodyPost_ret (v:= .tuple #[.agg #[.bool qv,.int .i64 qn,.slice z1 z2 z3],.int .i64 0]) (by simp [results,Tryz.results123,go_sem,c0,c1,c2]) rfl ⟨_,rfl,?_,aT (o:=0) hBB (Nat.le_refl _)⟩;have aVK:w1.heap.size<=w2.heap.size:=hB2.size;exact (aU6.out.set3 (b:=w.heap.size) (o:=0) (by omega)).frame (λq hq=>⟨by omega,by simp [World.setCell];omega⟩) (λ_ _ _=>rfl)
        · rw [if_pos he] at Ht;have xJ:(aU s (qv,qn) qk !=0)=true:=by simpa using he
          generalize aU s (qv,qn) qk=E at*;clear he
          go_wp2_with fail
          rw [Ht.out];exact bodyPost_ret (v:= .tuple #[.agg #[.bool false,.int .i64 0,.slice none 0 0],.int .i64 E]) (by simp [results,Tryz.results123,go_sem,c0,c1,c2]) rfl ⟨_,rfl,SB.nil _ _,aT (o:=0) hBB (Nat.le_refl _)⟩
     · rw [if_pos he] at Ht;have xJ:(q1 !=0)=true:=by simpa using he
       clear he
       go_wp2_with fail
       rw [Ht.out];refine bodyPost_ret (v:= .tuple #[.agg #[.bool false,.int .i64 0,.slice none 0 0],.int .i64 q1]) (by simp [results,Tryz.results123,go_sem,b0,b1,b2,hsz]) rfl ⟨_,rfl,SB.nil _ _,?_⟩;exact (aT (o:=0) hB (Nat.le_refl _)).alloc (by rw [bQ];omega) _
 · have Hf:Hid (gF s l=(gX s,uF)):=by rw [Hid,gF,if_pos hw]
   have xJ:(gX s !=0)=true:=by simpa using hw
   generalize gX s=E at*;clear hw
   go_wp2_with fail
   rw [Hf.out];exact bodyPost_ret (v:= .tuple #[.agg #[.bool false,.int .i64 0,.slice none 0 0],.int .i64 E]) (by simp [results,Tryz.results123,go_sem]) rfl ⟨_,rfl,SB.nil _ _,aD _ _⟩
end
section
attribute [local go_sem ↓] Go.wp_at_zero Go.wp_at_succ
theorem aR0 {t u:Tm} (ht:Gd t) (hu:Gd u) (h1:gU t<=12) (h2:gU u<=12):UI [] [(t,u)]:=by
 refine ⟨λp hp=>by simp at hp,λp hp=>by simp at hp,λp hp=>?_,λp hp=>by simp at hp,by decide,?_,λp hp=>by simp at hp⟩
 · simp only [List.mem_singleton] at hp;subst hp;exact ⟨ht,hu⟩
 · have e:∀z:Tm,Gd z->aH (aV []) z=z:=λz hz=>oZ hz.ok;simp only [dpL,List.length_nil,Nat.add_zero,and_true];rw [e t ht,e u hu];simpa using ⟨h1,h2⟩
def ta:Tm:=((false,0),.nil)
def tb (t:Tm):Tm:=((false,1),.node 0 0 t.1 t.2 .nil)
def tc (t u:Tm):Tm:=((false,2),.node 0 0 t.1 t.2 (.node 0 0 u.1 u.2 .nil))
theorem sg:([0,1,2]:List Int).all bN=true:=by decide
theorem g1:Gd (tc (vr 0) (tb (vr 1)))/\gU (tc (vr 0) (tb (vr 1)))<=12/\aM (tc (vr 0) (tb (vr 1))).2<=12:=jO sg rfl (by decide+kernel)
theorem g2:Gd (tc (tb ta) (vr 0))/\gU (tc (tb ta) (vr 0))<=12/\aM (tc (tb ta) (vr 0)).2<=12:=jO sg rfl (by decide+kernel)
theorem g3:Gd (tc (vr 0) (vr 1))/\gU (tc (vr 0) (vr 1))<=12/\aM (tc (vr 0) (vr 1)).2<=12:=jO sg rfl (by decide+kernel)
theorem g4:Gd (tc ta (tb ta))/\gU (tc ta (tb ta))<=12/\aM (tc ta (tb ta)).2<=12:=jO sg rfl (by decide+kernel)
theorem g5:Gd (vr 0)/\gU (vr 0)<=12/\aM (vr 0).2<=12:=jO (s:=[0,1,2]) sg rfl (by decide+kernel)
theorem g6:Gd (tb (vr 0))/\gU (tb (vr 0))<=12/\aM (tb (vr 0)).2<=12:=jO sg rfl (by decide+kernel)
theorem g8:Gd ta/\gU ta<=12/\aM ta.2<=12:=jO sg rfl (by decide+kernel)
theorem g9:Gd (tb ta)/\gU (tb ta)<=12/\aM (tb ta).2<=12:=jO sg rfl (by decide+kernel)
theorem u1:iV 10 [] [(tc (vr 0) (tb (vr 1)),tc (tb ta) (vr 0))]=some (some [(0,tb ta),(1,ta)]):=by kernel_rfl
theorem u2:iV 10 [] [(vr 0,tb (vr 0))]=some none:=by kernel_rfl
theorem e1:iW [] (tc (vr 0) (vr 1)) (tc ta (tb ta))=some [(0,ta),(1,tb ta)]:=by kernel_rfl
theorem e2:iW [(0,ta),(1,tb ta)] (vr 2) ta=some [(0,ta),(1,tb ta),(2,ta)]:=by kernel_rfl
theorem s1:aH (aV [(0,tb ta),(1,ta)]) (tc (vr 0) (vr 1))=tc (tb ta) ta:=by kernel_rfl
theorem x1:aR1 (tc (tb ta) ta).1 (tc (tb ta) ta).2=[99,40,98,40,97,41,44,97,41]:=by kernel_rfl
theorem aDH {U:ByteArray} {l:List UInt8} (h:U.data.toList=l):U=⟨l.toArray⟩:=by obtain ⟨d⟩:=U;simp only at h;subst h;simp
theorem aT9:∀p∈([(0,tb ta),(1,ta)]:Sb),jD p.2/\gN p.2:=λp hp=>by
 simp only [List.mem_cons,List.not_mem_nil,or_false] at hp;rcases hp with rfl|rfl
 · exact ⟨g9.1.nar,g9.1.ok⟩
 · exact ⟨g8.1.nar,g8.1.ok⟩
theorem bW {w:World} {vs a:Value} (hv:dZ w [(0,tb ta),(1,ta)] vs) (h1:cO w (tc (vr 0) (vr 1)).2 a):Calls Tryz.prog 84 #[vs,.agg #[.bool false,.int .i64 2,a]] w λe w'=>∃a1 a2 a3,e= .returned (.agg #[.bool false,.int .i64 2,.slice a1 a2 a3])/\cO w' (tc (tb ta) ta).2 (.slice a1 a2 a3)/\Below w.heap.size w w':=by refine (nJ _ vs (false,2) (tc (vr 0) (vr 1)).2 a w hv aT9 h1 g3.1.nar).mono ?_;rintro e w' ⟨a',rfl,hO,hb⟩;have e:aH (aV [(0,tb ta),(1,ta)]) ((false,2),(tc (vr 0) (vr 1)).2)=tc (tb ta) ta:=s1;rw [e] at hO ⊢;obtain ⟨z1,z2,z3,rfl⟩:=bC hO.toS;exact ⟨z1,z2,z3,rfl,hO.toS,hb⟩
end
section
attribute [local go_sem ↓] Go.wp_at_zero Go.wp_at_succ
theorem vL {n:Nat} {t u:Tm} {s:Sb} (hUI:UI [] [(t,u)]) (h:iV n [] [(t,u)]=some (some s)):(∀p∈s,Gd p.2)/\aH (aV s) t=aH (aV s) u:=by obtain ⟨h1,_,h3⟩:=aA5 n [] s [(t,u)] hUI h;exact ⟨h1.gs,h3 (t,u) (by simp)⟩
end
structure Eqs (s:Sb) (L:List (Tm×Tm)) (ls rs:List Tm):Prop where
 ui:UI s L
 el:ls.map (aH (aV s))=L.map λp=>aH (aV s) p.1
 er:rs.map (aH (aV s))=L.map λp=>aH (aV s) p.2
 gl:∀t∈ls,Gd t
 gr:∀t∈rs,Gd t
theorem Eqs.nil {s:Sb} {ls rs:List Tm} (h:Eqs s [] ls rs):ls=[]/\rs=[]:=⟨by simpa using h.el,by simpa using h.er⟩
theorem Eqs.len {s:Sb} {L:List (Tm×Tm)} {ls rs:List Tm} (h:Eqs s L ls rs):ls.length=L.length/\rs.length=L.length:=
 ⟨by simpa using congrArg List.length h.el,by simpa using congrArg List.length h.er⟩
def XO (w:World) (v:Value):Nat->Prop:=λq=>q<w.heap.size/\some q≠v.ownBlock
end Go.Proofs.YtoklbpbmghbhnaeGreat
