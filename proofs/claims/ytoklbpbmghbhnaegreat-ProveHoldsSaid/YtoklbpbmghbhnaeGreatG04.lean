import Derived.Test.YtoklbpbmghbhnaeGreatG03
import Derived.Lib.AppendStr
import Derived.Lib.SmallJoins
import Derived.Deep.Strs
import Derived.LaidMore
import Derived.OpenShut
import Derived.Stop.Joined
namespace Go.Proofs.YtoklbpbmghbhnaeGreat
set_option maxRecDepth 100000
set_option maxHeartbeats 1000000
open Go.RowKit Go.Deep Go.ChangeShapes Go.WideShapes
def dig (n:Int):UInt8:=UInt8.ofNat (48+n.toNat)
def sym (n:Int):UInt8:=UInt8.ofNat (97+n.toNat)
def aHD:Fo->Int->List UInt8
 | .nil,_=>[]
 | .node _ _ x k r,i=>(eU i::(if x.1 then [88,dig x.2] else sym x.2::(if Fo.len k=0 then [] else aHD k 0++[41])))++aHD r (i+1)
def aR1 (x:Bool×Int) (k:Fo):List UInt8:=if x.1 then [88,dig x.2] else sym x.2::(if Fo.len k=0 then [] else aHD k 0++[41])
def j6 (l:List Int) (x:Int):Bool:=decide (x∈l)
theorem aFK (l:List Int) (x:Int) (v:Value) (w:World) (hN:iK w l v):
 Calls Tryz.prog 175 #[v,.int .i64 x] w λe w'=>∃i:Int,e= .returned (.int .i64 i)/\(decide (0<=i)=j6 l x)/\w'=w:=by
 obtain ⟨ad,c,b,o,rfl,had,hlc,hcm,hF⟩:=hN;unfold maxLen at hcm;have HF:=aB hF;clear hF;go_enter Tryz.func175,Tryz.ntmps175
 go_wp2_with fail
 go_loop [8] (λi=>∃j:Nat,j<=l.length/\i= .int .i64 j/\∀q,q<j->l.getD q 0≠x) (λi=>l.length - (intOf i).toNat)
 case atStart=>exact ⟨0,Nat.zero_le _,rfl,λq hq=>by omega⟩
 case round=>
  obtain ⟨j,hj,rfl,hno⟩:=hrel;have Hno:=aB hno;clear hno;by_cases hlt:j<l.length
  · have hlt':(j:Int)<(l.length:Int):=by omega
    have hc:=HF.out j hlt;have QW:Hid (l.getD j 0∈l):=by rw [Hid,List.getD_eq_getElem?_getD,List.getElem?_eq_getElem hlt];simp
    have ha:ad=some ⟨b,o,none⟩:=had (by omega);subst ha;have uD:Hid (l.getD j 0≠x->∀q,q<j+1->l.getD q 0≠x):=λh q hq=>by
     by_cases e:q=j
     · rw [e];exact h
     · exact Hno.out q (by omega)
    generalize l.getD j 0=z at*;by_cases he:x=z
    · have xJ:(x==z)=true:=by simp [he]
      have Hf:Hid (decide ((0:Int)<=(j:Int))=j6 l x):=by rw [Hid,j6,he,decide_eq_true QW.out];simp
      clear he had
      go_wp2_with fail
      go_ret;exact ⟨_,rfl,Hf.out,rfl⟩
    · have xJ:(x==z)=false:=by simp [he]
      have Hn:=aB (uD.out (λe=>he e.symm));clear he had
      go_wp2_with fail
      go_round
      case rel=>exact ⟨j+1,by omega,by go_num,Hn.out⟩
      case measure=>simp [intOf];omega
  · have Hf:Hid (decide ((0:Int)<= -1)=j6 l x):=by
     have:x∉l:=λh=>by obtain ⟨q,hq,e⟩:=List.mem_iff_getElem.1 h;exact Hno.out q (by omega) (by rw [List.getD_eq_getElem?_getD,List.getElem?_eq_getElem hq];exact e)
     rw [Hid,j6,decide_eq_false this];rfl
    clear had
    go_wp2_with fail
    go_ret;exact ⟨_,rfl,Hf.out,rfl⟩
theorem CJ (l:List Int) (x:Int) (v:Value) (w:World) (hN:iK w l v):
 Calls Tryz.prog 163 #[v,.int .i64 x] w λe w'=>e= .returned (.bool (j6 l x))/\w'=w:=by
 have HN:=aB hN;obtain ⟨ad,c,b,o,rfl,-,-,-,-⟩:=hN;go_enter Tryz.func163,Tryz.ntmps163
 go_wp2_with fail
 refine (aFK l x _ w HN.out).mono ?_;rintro e w' ⟨i,rfl,hi,hw'⟩;rw [hw'];have Hi:=aB hi;clear hw' w' hi
 go_wp2_with fail
 go_ret;exact ⟨by rw [←Hi.out];rfl,rfl⟩
def eT:Fo->List Int->List Int
 | .nil,l=>l
 | .node _ _ x k r,l=>eT r (if x.1 then (if j6 l x.2 then l else l++[x.2]) else eT k l)
def bG (x:Bool×Int) (k:Fo) (l:List Int):List Int:=if x.1 then (if j6 l x.2 then l else l++[x.2]) else eT k l
def ML (k:Fo) (l:List Int) (j:Nat):List Int:=eT (Fo.take j k) l
theorem KQ:∀{F:Fo} {j:Nat} {x:Bool×Int} {k:Fo} (l:List Int),F.list[j]?=some (x,k)->eT (Fo.take (j+1) F) l=bG x k (eT (Fo.take j F) l)
 | .nil,_,_,_,_,h=>by simp [Fo.list] at h
 | .node _ _ y m r,0,x,k,l,h=>by simp only [Fo.list,List.getElem?_cons_zero,Option.some.injEq,Prod.mk.injEq] at h;obtain ⟨rfl,rfl⟩:=h;simp [Fo.take,eT,bG]
 | .node _ _ y m r,j+1,x,k,l,h=>by have:=KQ (F:=r) (j:=j) (if y.1 then (if j6 l y.2 then l else l++[y.2]) else eT m l) (by simpa [Fo.list] using h);simp only [Fo.take,eT] at this ⊢;exact this
theorem wR {k:Fo} {l:List Int} {j:Nat} {x:Bool×Int} {y:Fo} (h:k.list[j]?=some (x,y)):ML k l (j+1)=bG x y (ML k l j):=KQ l h
theorem U0 (k:Fo) (l:List Int):ML k l (Fo.len k)=eT k l:=by rw [ML,pQ]
theorem DV:∀(F:Fo) (l:List Int),(eT F l).length<=l.length+Fo.sizesR F
 | .nil,l=>by simp [eT,Fo.sizesR]
 | .node _ _ x k r,l=>by
  have h1:=DV k l;have h2:=DV r (if x.1 then (if j6 l x.2 then l else l++[x.2]) else eT k l);simp only [eT,Fo.sizesR];have h3:(if x.1 then (if j6 l x.2 then l else l++[x.2]) else eT k l).length<=l.length+1+Fo.sizesR k:=by
   split
   · split
     · omega
     · simp
   · omega
  omega
theorem AP:∀(F:Fo) (l:List Int),l.length<=(eT F l).length
 | .nil,l=>Nat.le_refl _
 | .node _ _ x k r,l=>by
  have h1:=AP k l;have h2:=AP r (if x.1 then (if j6 l x.2 then l else l++[x.2]) else eT k l);simp only [eT];refine Nat.le_trans ?_ h2;split
  · split
    · exact Nat.le_refl _
    · simp
  · exact h1
theorem yO:∀(j:Nat) (F:Fo) (l:List Int),(eT (Fo.take j F) l).length<=(eT F l).length
 |0,F,l=>AP F l
 |_+1,.nil,l=>Nat.le_refl _
 |j+1,.node _ _ x k r,l=>by simp only [Fo.take,eT];exact yO j r _
theorem U2 (x:Bool×Int) (k:Fo) (l:List Int):l.length<=(bG x k l).length:=by
 unfold bG;split
 · split
   · exact Nat.le_refl _
   · simp
 · exact AP k l
theorem rW (x:Bool×Int) (k:Fo) (l:List Int):(bG x k l).length<=l.length+aM k:=by
 have:=DV k l;unfold bG aM;split
 · split
   · omega
   · simp
 · omega
def F4 (x:Bool×Int) (k:Fo):Prop:=∀(W:World) (a:Value) (w:World) (vl:Value) (l T:List Int),T=bG x k l->cO W k a->Below W.heap.size W w->w.ownsRow W.heap.size 3 1 vl l.length (bO l)->T.length*8<=140737488355328->
 Calls Tryz.prog 158 #[vl,.agg #[.bool x.1,.int .i64 x.2,a]] w λe w'=>∃vl',e= .returned vl'/\w'.ownsRow W.heap.size 3 1 vl' T.length (bO T)/\Below W.heap.size W w'
theorem Y0 (x:Bool×Int) (k:Fo):F4 x k:=by
 refine Fo.ind1 (p:=F4) ?_ x k;clear x k;intro x k ih W a w vl l T hT hS hB ho hlen;obtain ⟨v,n⟩:=x;have HI:=aB ih;have HT:=aB hT;have HB:=aB hB;have Ho:=aB ho;obtain ⟨ad,c,b,o,rfl,had,hlc,hcm,hF⟩:=hS;have HF:=aB hF;unfold maxLen at hcm;obtain ⟨za,zc,rfl⟩:=aR ho;have hWs:=hB.size;have Hvl:Hid (∀g,(Value.slice za l.length zc).ownBlock=some g->W.heap.size<=g/\g<w.heap.size):=aJ ho;clear ih hF ho hB hT;cases v
 · have Htt:Hid (bG (false,n) k l=eT k l):=rfl;go_enter Tryz.func158,Tryz.ntmps158
   go_wp2_with fail
   have H0:Hid (Below W.heap.size W (w.alloc (.cells #[.bool false,.int .i64 n,.slice ad (Fo.len k) c] 84))/\(w.alloc (.cells #[.bool false,.int .i64 n,.slice ad (Fo.len k) c] 84)).ownsRow W.heap.size 3 1 (.slice za l.length zc) l.length (bO l)):=
    ⟨HB.out.trans ((aD _ _).mono hWs),bA Ho.out (λg hg=>(aD _ _).block g (Hvl.out g hg).2)⟩
   go_loopw [0,22] (λvl' i wr=>∃(j:Nat) (L:List Int) (z1:Option Addr) (z3:Nat),j<=Fo.len k/\i= .int .i64 j/\vl'= .slice z1 L.length z3/\L=ML k l j/\Below W.heap.size W wr/\wr.ownsRow W.heap.size 3 1 (.slice z1 L.length z3) L.length (bO L)) (λ_ i _=>Fo.len k - (intOf i).toNat)
   case atStart=>exact ⟨0,l,za,zc,Nat.zero_le _,rfl,rfl,rfl,H0.out.1,H0.out.2⟩
   case round=>
    obtain ⟨j,L,z1,z3,hj,rfl,rfl,hL,hBr,hor⟩:=hrel;have HL:=aB hL;have Hor:=aB hor;clear hL hor H0;by_cases hlt:j<Fo.len k
    · have hlt':(j:Int)<(Fo.len k:Int):=by omega
      obtain ⟨⟨⟨yv,yn⟩,yk⟩,hy⟩:∃y,k.list[j]?=some y:=⟨k.list[j]'(by rw [Fo.len_list];exact hlt),by simp⟩;obtain ⟨c0,c1,bB,c2,kW⟩:=HF.out.at hy;have UD:=aB kW;obtain ⟨ya,yc,yb,yo,rfl,-,-,-,-⟩:=kW;have c0':=aA hBr _ _ c0;have c1':=aA hBr _ _ c1;have c2':=aA hBr _ _ c2;have ha:ad=some ⟨b,o,none⟩:=had (by omega);subst ha;have Hy:=aB hy;obtain ⟨Tn,hTn⟩:∃Tn,Tn=bG (yv,yn) yk L:=⟨_,rfl⟩;have HTn:=aB hTn;have Hbd:Hid (Tn.length*8<=140737488355328):=by
       have h1:=yO (j+1) k l;have h2:Tn=ML k l (j+1):=by rw [hTn,wR Hy.out,HL.out]
       have h3:T=eT k l:=HT.out.trans Htt.out;rw [Hid,h2,ML];rw [h3] at hlen;omega
      have Hbb:Hid (Below W.heap.size W (wr.alloc (.cells #[.bool yv,.int .i64 yn,.slice ya (Fo.len yk) yc] 84))):=hBr.trans ((aD _ _).mono hBr.size);have Hoo:Hid ((wr.alloc (.cells #[.bool yv,.int .i64 yn,.slice ya (Fo.len yk) yc] 84)).ownsRow W.heap.size 3 1 (.slice z1 L.length z3) L.length (bO L)):=bA Hor.out (λg hg=>(aD _ _).block g (aJ Hor.out g hg).2);clear hy c0 c1 c2 had hTn
      go_wp2_with fail
      refine (HI.out ((yv,yn),yk) (List.mem_of_getElem? Hy.out) W _ _ _ L Tn HTn.out UD.out Hbb.out Hoo.out Hbd.out).mono ?_;rintro e w2 ⟨vl',rfl,ho2,hb2⟩;obtain ⟨y1,y3,rfl⟩:=aR ho2;have Ho2:=aB ho2;clear ho2
      go_wp2_with fail
      go_roundw
      case rel=>exact ⟨j+1,Tn,y1,y3,by omega,by go_num,rfl,by rw [HTn.out,wR Hy.out,HL.out],hb2,Ho2.out⟩
      case measure=>simp [intOf];omega
    · have bP:Hid (T=L):=by
       have e:j=Fo.len k:=by omega
       rw [Hid,HT.out,Htt.out,HL.out,e,U0]
      clear had
      go_wp2_with fail
      go_ret;have e:=bP.out;subst e;exact ⟨_,rfl,Hor.out,hBr⟩
 · have Htt:Hid (bG (true,n) k l=if j6 l n then l else l++[n]):=rfl;obtain ⟨i3,hi3,hy0,hy1,hy2⟩:=info_parts Tryz.info3;have Hbw:Hid (Below W.heap.size W (w.alloc (.cells #[.bool true,.int .i64 n,.slice ad (Fo.len k) c] 84))):=HB.out.trans ((aD _ _).mono hWs);have Hob:Hid ((w.alloc (.cells #[.bool true,.int .i64 n,.slice ad (Fo.len k) c] 84)).ownsRow W.heap.size 3 1 (.slice za l.length zc) l.length (bO l)):=bA Ho.out (λg hg=>(aD _ _).block g (Hvl.out g hg).2);clear had;go_enter Tryz.func158,Tryz.ntmps158
   go_wp2_with fail
   refine (CJ l n _ _ (mJ Hob.out)).mono ?_;rintro e w' ⟨rfl,hw'⟩;rw [hw'];clear hw' w';cases hh:j6 l n
   · rw [hh] at Htt;have bP:Hid (T=l++[n]):=HT.out.trans Htt.out;have aUQ:Hid (((w.alloc (.cells #[.bool true,.int .i64 n,.slice ad (Fo.len k) c] 84)).alloc (.cells #[.int .i64 n] 3)).ownsRow W.heap.size 3 1 (.slice za l.length zc) l.length (bO l)):=bA Hob.out (λg hg=>(aD _ _).block g (aJ Hob.out g hg).2);have rQ:Hid (∀j u,[Value.int .i64 n][j]?=some u->((w.alloc (.cells #[.bool true,.int .i64 n,.slice ad (Fo.len k) c] 84)).alloc (.cells #[.int .i64 n] 3)).cell? ((⟨w.heap.size+1,0,none⟩:Addr).add j)=some u):=by
      have h:=World.news_of_block (cs:=#[.int .i64 n]) (heap_alloc_new (w.alloc (.cells #[.bool true,.int .i64 n,.slice ad (Fo.len k) c] 84)) (.cells #[.int .i64 n] 3));intro j u hu;have:=h j u hu;simpa using this
     have hTl:T.length=l.length+1:=by rw [bP.out];simp
     have hl1:l.length+1<=maxLen:=by unfold maxLen;omega
     have hl2:(l.length+1)*8<=140737488355328:=by omega
     clear hTl;clear hh
     go_wp2_with (at_builtin;refine wpList_append_lies _ rfl (.tmp 14) (.tmp 17) 22 rfl W.heap.size 3 i3 (.int .i64 0) 1 8 Tryz.underlying22 hi3 hy0 hy1 hy2 rfl (by decide) (.slice za l.length zc) l.length (bO l) rfl aUQ.out ⟨w.heap.size+1,0,none⟩ 1 1 [.int .i64 n] rfl rfl rQ.out (by simp [Value.oneCell']) (by decide) hl1 hl2 (by simp;omega) (w.heap.size+2) (by simp) ?_;intro g bW w2 hown2 hg2 UM hlt2)
     go_ret;have e:=bP.out;subst e;refine ⟨_,rfl,OW hown2,?_⟩;exact (Hbw.out.trans ((aD _ _).mono (by simp;omega))).grown hg2 (by simp;omega) (λg hg=>(Hvl.out g hg).1)
   · rw [hh] at Htt;have bP:Hid (T=l):=HT.out.trans Htt.out;clear hh
     go_wp2_with fail
     go_ret;have e:=bP.out;subst e;exact ⟨_,rfl,Hob.out,Hbw.out⟩
theorem iK.drew {w:World} {l:List Int} {v:Value} (h:iK w l v):iK w.drew l v:=h
theorem cO.drew {w:World} {k:Fo} {v:Value} (h:cO w k v):cO w.drew k v:=h.below (Below.refl _ _).drew
theorem AO (x:Bool×Int) (k:Fo) (a:Value) (l:List Int) (v:Value) (w:World) (T:List Int) (hT:T=bG x k l) (hS:cO w k a) (hN:iK w l v) (hlen:T.length*8<=140737488355328):
 Calls Tryz.prog 127 #[v,.agg #[.bool x.1,.int .i64 x.2,a]] w λe w'=>∃v',e= .returned v'/\w'.ownsRow w.heap.size 3 1 v' T.length (bO T)/\Below w.heap.size w w':=by
 obtain ⟨xv,xn⟩:=x;have HT:=aB hT;have HS:=aB hS;have HN:=aB hN;obtain ⟨ad,c,b,o,rfl,-,-,-,-⟩:=hS;obtain ⟨la,lc,lb,lo,rfl,-,-,-,-⟩:=hN;have hl8:l.length*8<=140737488355328:=by have:=U2 (xv,xn) k l;rw [←hT] at this;omega
 clear hT;go_enter Tryz.func127,Tryz.ntmps127
 go_wp2_with fail
 generalize fA:w.alloc (.cells #[.bool xv,.int .i64 xn,.slice ad (Fo.len k) c] 84)=wa;have d0:wa.cell? ⟨w.heap.size,0,none⟩=some (.bool xv):=by rw [←fA];simp
 have d1:wa.cell? ⟨w.heap.size,1,none⟩=some (.int .i64 xn):=by rw [←fA];simp
 have d2:wa.cell? ⟨w.heap.size,2,none⟩=some (.slice ad (Fo.len k) c):=by rw [←fA];simp
 have hla:w.heap.size<wa.heap.size:=by rw [←fA];simp
 have xV:Hid (Below w.heap.size w wa):=by rw [←fA];exact aD _ _
 clear fA
 go_region_held3 (λw'=>w'.cell? ⟨w.heap.size,0,none⟩=some (.bool xv)/\w'.cell? ⟨w.heap.size,1,none⟩=some (.int .i64 xn)/\w'.cell? ⟨w.heap.size,2,none⟩=some (.slice ad (Fo.len k) c))
  (first
    |go_keep
    |(go_split_ands
      refine ⟨?_,?_,?_⟩
      · (rw [hb2.cell (by show w.heap.size<_;simp;omega)];assumption)
      · (rw [hb2.cell (by show w.heap.size<_;simp;omega)];assumption)
      · (rw [hb2.cell (by show w.heap.size<_;simp;omega)];assumption))
    |(go_split_ands
      refine ⟨?_,?_,?_⟩
      · (rw [hb1.cell (by show w.heap.size<_;simp;omega)];assumption)
      · (rw [hb1.cell (by show w.heap.size<_;simp;omega)];assumption)
      · (rw [hb1.cell (by show w.heap.size<_;simp;omega)];assumption)))
  (first
    |(go_at_call 42;refine (E5 l _ _ ?_ hl8).mono ?_;(exact (HN.out.below xV.out).drew);rintro e w1 ⟨v',rfl,ho1,hb1⟩)
    |(go_at_call 158;refine (Y0 (xv,xn) k wa.drew _ _ _ l T HT.out ?_ ?_ ho1 hlen).mono ?_;(exact (HS.out.below xV.out).drew);(exact hb1);rintro e w2 ⟨v2,rfl,ho2,hb2⟩))
 have bP:Hid (w2.ownsRow w.heap.size 3 1 v2 T.length (bO T)/\Below w.heap.size w w2):=⟨wX ho2 xV.out.size,xV.out.trans (((Below.refl _ _).drew).trans (hb2.mono (Nat.le_of_lt hla)))⟩;clear ho1 ho2 hb1 hb2
 go_wp2_with fail
 go_ret;exact ⟨v2,rfl,bP.out.1,bP.out.2⟩
theorem U1 (x:Bool×Int) (k:Fo) (a:Value) (l:List Int) (v:Value) (w:World) (T:List Int) (hT:T=bG x k l) (hS:cO w k a) (hN:iK w l v) (hlen:(l.length+aM k)*8<=140737488355328):
 Calls Tryz.prog 127 #[v,.agg #[.bool x.1,.int .i64 x.2,a]] w λe w'=>∃v',e= .returned v'/\w'.ownsRow w.heap.size 3 1 v' T.length (bO T)/\Below w.heap.size w w':=
 AO x k a l v w T hT hS hN (by have:=rW x k l;rw [←hT] at this;omega)
theorem aJ8:gX []=5:=by decide+kernel
theorem aC2 {w:World} (p:List Int) (hp:0<p.length) (hl:p.length<=1000) (T:TypeId):iK (w.alloc (.cells (bO p).toArray T)) p (.slice (some ⟨w.heap.size,0,none⟩) p.length p.length):=by refine ⟨_,_,w.heap.size,0,rfl,λ_=>rfl,Nat.le_refl _,by unfold maxLen;omega,λi hi=>?_⟩;rw [Nat.zero_add,World.cell?_alloc_new];simp [List.getD_eq_getElem?_getD,hi]
theorem bC {w:World} {k:Fo} {v:Value} (h:cO w k v):∃z1 z2 z3,v= .slice z1 z2 z3:=by obtain ⟨_,_,_,_,rfl,_⟩:=h;exact ⟨_,_,_,rfl⟩
theorem c6 {w:World}:Calls Tryz.prog 21 #[.slice none 0 0] w λe w'=>e= .returned (.int .i64 5)/\w'=w:=by have h:=UX [] (.slice none 0 0) w ⟨none,0,0,0,rfl,λh=>by simp at h,Nat.le_refl _,Nat.zero_le _,λi hi=>by simp at hi⟩;rw [aJ8] at h;exact h
theorem xH {s:List Int} (hs:s.all bN=true) {x:Bool×Int} {k:Fo} (h:bM s x (Fo.len k)=0):Fo.len k<=2:=by
 obtain ⟨v,n⟩:=x;cases v
 · obtain ⟨h0,h1,h2⟩:=sJ h;have:=aHQ hs (i:=n.toNat) (by omega);omega
 · obtain ⟨rfl,_,_⟩:=lY h;simp [Fo.len]
theorem yU {s:List Int} (hs:s.all bN=true):∀{F:Fo} {n:Nat},n<=13->gH s F (13 - (n:Int))=0->Fo.sizesR F<=Fo.len F*(2 ^ n - 1)
 | .nil,_,_,_=>by simp [Fo.sizesR]
 | .node _ _ x k r,n,hn,h=>by
  obtain ⟨hT,hr⟩:=nY h;obtain ⟨hd,ha,hk⟩:=mM hT;have h2:=xH hs ha;obtain ⟨m,rfl⟩:∃m,n=m+1:=⟨n - 1,by omega⟩;have e:(13:Int) - ((m+1:Nat):Int)+1=13 - (m:Int):=by omega
  rw [e] at hk;have i1:=yU hs (n:=m) (by omega) hk;have i2:=yU hs (n:=m+1) hn hr;have p1:2 ^ (m+1)=2*2 ^ m:=by rw [Nat.pow_succ];omega
  have p0:0<2 ^ m:=Nat.pow_pos (by decide);have i3:Fo.len k*(2 ^ m - 1)<=2*(2 ^ m - 1):=Nat.mul_le_mul_right _ h2;simp only [Fo.sizesR,Fo.len,Nat.add_mul,Nat.one_mul];omega
theorem ES {s:List Int} (hs:s.all bN=true):∀{F:Fo} {d:Int},gH s F d=0->Fo.narrow F
 | .nil,_,_=>trivial
 | .node _ _ x k r,d,h=>by obtain ⟨hT,hr⟩:=nY h;obtain ⟨_,ha,hk⟩:=mM hT;have:=xH hs ha;exact ⟨by omega,ES hs hk,ES hs hr⟩
theorem VX {s:List Int} (hs:s.all bN=true) {x:Bool×Int} {k:Fo} (h:aU s x k=0):aM k<=12/\Y4 x k=aM k/\Fo.len k<=2/\Fo.narrow k/\bR s x k 1=0:=by
 unfold aU at h;by_cases hw:bR s x k 1=0
 · rw [if_neg (by simpa using hw)] at h;obtain ⟨_,ha,hk⟩:=mM hw;have h2:=xH hs ha;have hb:=yU hs (F:=k) (n:=11) (by omega) (by simpa using hk);have hz:aM k<=4095:=by
    have:Fo.len k*(2 ^ 11 - 1)<=2*(2 ^ 11 - 1):=Nat.mul_le_mul_right _ h2;unfold aM;omega
   rw [tZ (by omega) (by omega)] at h;by_cases h12:12<((aM k:Nat):Int)
   · rw [if_pos h12] at h;omega
   · exact ⟨by omega,U8 hw,h2,ES hs hk,hw⟩
 · rw [if_pos hw] at h;exact absurd h hw
theorem yV:∀F:Fo,jA F F=true
 | .nil=>rfl
 | .node _ _ x k r=>by simp [jA,yV k,yV r]
theorem aA4 (x:Bool×Int) (k:Fo):cB x k x k=true:=by simp [cB,yV]
theorem sF {n:Int} {p:List Int} {x:Bool×Int} {k:Fo} {u:(Bool×Int)×Fo} (hx:x.1=false) (h0:0<=n) (h1:n<(Fo.len k:Int)):dM (n::p) (x,k) u=(x,fF k n.toNat (λs=>dM p s u)):=by rw [dM,if_neg (by simp [hx];omega)]
theorem EJ:∀{F:Fo} {q:List Int} {i:Nat} {p:List Int},p∈eG F q i->∃(n:Nat) (y:(Bool×Int)×Fo) (p':List Int) (z:(Bool×Int)×Fo),p=q++((i+n:Nat):Int)::p'/\F.list[n]?=some y/\l6 p' y.1 y.2=some z/\z.1.1=false
 | .nil,_,_,_,h=>by simp [eG] at h
 | .node _ _ x k r,q,i,p,h=>by
  simp only [eG,List.mem_append] at h;rcases h with h|h
  · cases hx:x.1 with
    |true=>simp [hx] at h
    |false=>
     simp only [hx,Bool.false_eq_true,if_false,List.mem_cons] at h;rcases h with rfl|h
     · exact ⟨0,(x,k),[],(x,k),by simp,by simp [Fo.list],rfl,hx⟩
     · obtain ⟨n,y,p',z,e1,e2,e3,e4⟩:=EJ (F:=k) (q:=q++[(i:Int)]) (i:=0) h;refine ⟨0,(x,k),(n:Int)::p',z,by simp [e1],by simp [Fo.list],?_,e4⟩;have hn:n<Fo.len k:=by rw [←Fo.len_list];exact (List.getElem?_eq_some_iff.1 e2).1
       rw [pV hx (by omega) (by simpa using e2) (by simp only;omega)];exact e3
  · have h':p∈eG r q ((i+1:Nat):Int):=by simpa using h
    obtain ⟨n,y,p',z,e1,e2,e3,e4⟩:=EJ h';exact ⟨n+1,y,p',z,by rw [e1,show i+1+n=i+(n+1) by omega],by simpa [Fo.list] using e2,e3,e4⟩
theorem OT {x:Bool×Int} {k:Fo} {p:List Int} (h:p∈dJ x k []):∃z,l6 p x k=some z/\z.1.1=false:=by
 unfold dJ at h;cases hx:x.1 with
 |true=>simp [hx] at h
 |false=>
  simp only [hx,Bool.false_eq_true,if_false,List.mem_cons] at h;rcases h with rfl|h
  · exact ⟨(x,k),rfl,hx⟩
  · obtain ⟨n,y,p',z,e1,e2,e3,e4⟩:=EJ (i:=0) (by simpa using h);have hn:n<Fo.len k:=by rw [←Fo.len_list];exact (List.getElem?_eq_some_iff.1 e2).1
    refine ⟨z,?_,e4⟩;rw [e1,List.nil_append,Nat.zero_add,pV hx (by omega) (by simpa using e2) (by omega)];exact e3
section
open Go.ChangeShapes Go.WideShapes Go.ChangeAt Go.WideMaps Go.WideElems Go.RowKit Go.Deep Go.Joins
section
variable {H:Type} {enc:TypeId×Value->H} {W:World} {sp:Nat->Bool} {held:Bool}
theorem EO {fuel:Nat} {cs:List Value} {x:DataW H×List MemPlace} (h:DataW.trod enc Tryz.prog W 0 sp held fuel 84 cs=some x):
 ∃(v:Bool) (n:Int) (a:Value) (m:Nat) (y:DataW H×List MemPlace),m<fuel/\cs=[.bool v,.int .i64 n,a]/\DataW.trod enc Tryz.prog W 0 sp held m 82 [a]=some y:=by
 obtain ⟨xs,m,rfl,_,hl,hlen,hf⟩:=DataW.trod_struct Tryz.underlying84 h;rw [Tryz.cells84] at hl
 match xs,hlen,cs,hl with
 |[y0,y1,y2],_,[c0,c1,c2],_=>have g0:=hf 0 _ rfl;have g1:=hf 1 _ rfl;have g2:=hf 2 _ rfl;simp [Tryz.cells4,Tryz.cells3,Tryz.cells82] at g0 g1 g2;obtain ⟨v,e0,_⟩:=DataW.trod_bool Tryz.underlying4 g0;obtain ⟨n,e1,_,_⟩:=DataW.trod_int Tryz.underlying3 g1;simp only [List.cons.injEq,and_true] at e0 e1;exact ⟨v,n,c2,m,y2,by omega,by rw [e0,e1],g2⟩
theorem CK {b:Nat}:∀(n o:Nat),(∀i,i<n->∃(x:Bool×Int) (k:Fo) (a:Value),W.cell? ⟨b,o+3*i,none⟩=some (.bool x.1)/\W.cell? ⟨b,o+3*i+1,none⟩=some (.int .i64 x.2)/\W.cell? ⟨b,o+3*i+2,none⟩=some a/\cO W k a)->∃F:Fo,Fo.len F=n/\uL W F b o
 |0,_,_=>⟨.nil,rfl,trivial⟩
 |n+1,o,h=>by
  obtain ⟨F,hl,hF⟩:=CK n (o+3) (λi hi=>by have:=h (i+1) (by omega);rw [show o+3*(i+1)=o+3+3*i by omega] at this;exact this)
  obtain ⟨x,k,a,h0,h1,h2,h3⟩:=h 0 (by omega);exact ⟨.node 0 0 x k F,by simp [Fo.len,hl],uL.mk (by simpa using h0) (by simpa using h1) (by simpa using h2) h3 hF⟩
theorem K4:∀(fuel:Nat) (v:Value) (x:DataW H×List MemPlace),DataW.trod enc Tryz.prog W 0 sp held fuel 82 [v]=some x->∃k:Fo,cO W k v:=by
 intro fuel;induction fuel using Nat.strongRecOn with
 |_ fuel ih=>
  intro v x h;rcases DataW.trod_slice Tryz.underlying82 h with ⟨hc,_⟩|⟨a,len,bW,elems,rest,n,aB7,hc,_,_,hlc,hcm,hlen,hel,_,_⟩
  · simp only [List.cons.injEq,and_true] at hc;subst hc;exact ⟨.nil,cO.nil W⟩
  · simp only [List.cons.injEq,and_true] at hc;subst hc;rw [Tryz.cells84] at hel;obtain ⟨b,o,spot⟩:=a;have hone:∀i,i<len->∃(x:Bool×Int) (k:Fo) (v:Value),W.cell? ((⟨b,o,spot⟩:Addr).add (i*3))=some (.bool x.1)/\W.cell? (((⟨b,o,spot⟩:Addr).add (i*3)).add 1)=some (.int .i64 x.2)/\W.cell? (((⟨b,o,spot⟩:Addr).add (i*3)).add 2)=some v/\cO W k v:=λi hi=>by
     have h1:=hel i hi;have hi':i<elems.length:=by omega
     rw [List.getElem?_eq_getElem hi'] at h1;obtain ⟨cs,h2,h3⟩:=Option.bind_eq_some_iff.1 h1;obtain ⟨_,hl3,hcell⟩:=World.cells?_some h2;obtain ⟨tv,tn,ta,m,y,hm,rfl,hy⟩:=EO h3;obtain ⟨k,hk⟩:=ih m (by omega) ta y hy;exact ⟨(tv,tn),k,ta,by simpa [Addr.add] using hcell 0 (by omega),by simpa using hcell 1 (by omega),by simpa using hcell 2 (by omega),hk⟩
    by_cases h0:len=0
    · subst h0;exact ⟨.nil,_,bW,0,0,rfl,λh=>by simp [Fo.len] at h,Nat.zero_le _,hcm,trivial⟩
    · have hspot:spot=none:=by
       obtain ⟨x,k,v,q0,_⟩:=hone 0 (by omega);simpa [Addr.add] using World.cell?_spot q0
      subst hspot;obtain ⟨F,hF1,hF2⟩:=CK (W:=W) (b:=b) len o (λi hi=>by
       obtain ⟨x,k,v,q0,q1,q2,q3⟩:=hone i hi;refine ⟨x,k,v,?_,?_,?_,q3⟩
       · rw [add_plain] at q0;rw [Nat.mul_comm 3 i];exact q0
       · rw [add_plain,add_plain] at q1;rw [Nat.mul_comm 3 i];exact q1
       · rw [add_plain,add_plain] at q2;rw [Nat.mul_comm 3 i];exact q2)
      exact ⟨F,_,bW,b,o,by rw [hF1],λ_=>rfl,by omega,hcm,hF2⟩
theorem OZ {T:TypeId} {r:Reach} {b0:Nat} {v:Value} {d:DataW H} {p:List MemPlace} (hT:Tryz.prog.underlying T=some (.slice 3)) (hv:Value.okWide Tryz.prog W r b0 T v) (h:DataW.Trod enc Tryz.prog W 0 (λ_=>true) held T v d p):
 ∃l:List Int,iK W l v:=by
 obtain ⟨a0,len,bW,rfl⟩:=okWide_slice hT hv;obtain ⟨fuel,hf⟩:=h;rcases open_ints hT Tryz.underlying3 Tryz.cells3 hf with ⟨hcs,_⟩|⟨x,l,c,zs,hcs,_,hl,hm,hz,_,hcell,hwz⟩
 · simp [Value.cells] at hcs;obtain ⟨rfl,rfl,rfl⟩:=hcs;exact ⟨[],none,0,0,0,rfl,λh=>by simp at h,Nat.le_refl _,Nat.zero_le _,λi hi=>by simp at hi⟩
 · simp [Value.cells] at hcs;obtain ⟨rfl,rfl,rfl⟩:=hcs;have hz':zs.length=bW:=by simpa using hz
   have htl:(zs.take len).length=len:=by rw [List.length_take];omega
   obtain ⟨b,o,spot⟩:=x;refine ⟨zs.take len,_,bW,b,o,by rw [htl],λh=>?_,by rw [htl];exact hl,hm,λi hi=>?_⟩
   · have:=hcell 0 (by omega);have hspot:spot=none:=by simpa [Addr.add] using World.cell?_spot this
     rw [hspot]
   · rw [htl] at hi;have hc:=hcell i (by omega);have hspot:spot=none:=by
      have:=hcell 0 (by omega);simpa [Addr.add] using World.cell?_spot this
     subst hspot;rw [add_plain] at hc;rw [hc];simp [List.getD_eq_getElem?_getD,hi]
end
end
end Go.Proofs.YtoklbpbmghbhnaeGreat
