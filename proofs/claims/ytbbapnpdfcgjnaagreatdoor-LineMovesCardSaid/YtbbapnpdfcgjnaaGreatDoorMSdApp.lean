/- SdApp, SdFst, SdFsl: parts of the proof, joined. -/
import Derived.Test.YtbbapnpdfcgjnaaGreatDoorMSdCopy
import Derived.Test.YtbbapnpdfcgjnaaGreatDoorMSdSome
open Go.RowKit renaming Below->sD, intOf->sP
open List renaming getElem?_eq_getElem->sE, nil_append->sI, mem_append_left->sJ, mem_append_right->sM, getElem_mem->sO, getElem?_eq_some_iff->sU, getElem?_map->sV, length_drop->sX, length_eq_zero_iff->sY, drop_of_length_le->ta, getElem_of_mem->te, length_append->tf, length_take->ti, mem_append->tk
open Go renaming World->sG, Value->sQ, Calls->tc, cell_of_row->td
open Nat renaming zero_add->sH, zero_le->sS, lt_of_lt_of_le->sT, le_trans->tg, le_refl->tj, lt_or_ge->tm
open Go.NoPanic renaming normal->sK
open Go.RowKit.Below renaming refl->sL
open Go.Value renaming ownBlock->sN, slice->sR
open Go.World renaming ownsRow_nil->sW
open Go.Addr renaming add_lit->sZ
open Go.Builtin renaming append_->tb
set_option maxHeartbeats 64000000
namespace Go.Proofs.YtbbapnpdfcgjnaaGreatDoor
section
open Go.RowKit
namespace Pt
theorem znH (L M:List Int):bf (L++M)=bf L++bf M:=List.map_append ..
theorem zls {B:Nat} {w:sG} (ty:TypeId) {v:sQ} {n:Nat} {X:List Int} (hown:w.ownsRow B 3 1 v n (bf X)) {fo:Option Addr} {fn fc:Nat} {F:List Int} (hF:RdI w fo F) (hfn:fn=F.length) (hl:n+fn<=1000000000000) (hB:B<=w.heap.size):
  ∃vo vc w',(tb #[23,23] ty #[v,.slice fo fn fc]).run Tryz.prog w= .ok (.slice vo (n+fn) vc) w'/\w'.ownsRow B 3 1 (.slice vo (n+fn) vc) (n+fn) (bf (X++F))/\w.grownBy w' v.ownBlock/\((sR vo (n+fn) vc).ownBlock=v.ownBlock\/(sR vo (n+fn) vc).ownBlock=some w.heap.size):=by
 obtain⟨i,hi,hz,hsize,hby⟩:=info_parts Tryz.info3
 by_cases h0:fn=0
 ·subst h0
  have hF0:F=[]:=List.eq_nil_of_length_eq_zero hfn.symm;subst hF0;have hs:Src Tryz.prog i.size 23 (.slice fo 0 fc) 0 [] w:=by
   cases fo with
   | none=>exact Src.ofNil w Tryz.underlying23 fc
   | some a=>exact Src.ofSlice w Tryz.underlying23 a 0 fc [] (by simp) (fun j u hj=>by simp at hj) (fun u hu=>by simp at hu)
  rw[List.append_nil];have hg:w.grownBy w v.ownBlock:=⟨rfl,rfl,rfl,tj _,fun _ _ _=>rfl⟩
  rcases hown.2 with ⟨h1,h2⟩ | ⟨g,cap,cur,h1,h2,h3,h4,h5⟩
  ·subst h1 h2
   refine⟨none,0,w,?_,hown,hg,.inl rfl⟩
   simp[tb,run_underlying Tryz.underlying23,sizeOf,typeInfo,hi,hs.len,hs.cells]
  ·subst h1
   refine⟨some ⟨g,0,none⟩,cap,w,?_,hown,hg,.inl rfl⟩
   simp[tb,run_underlying Tryz.underlying23,sizeOf,typeInfo,hi,hs.len,hs.cells,storeCells,h4]
 ·obtain⟨a,rfl,_,_⟩:=hF 0 F[0] (sE (by omega))
  obtain⟨g,cap,w',hr,h2,h3,h4,h5⟩:=run_append_lies (P:=Tryz.prog) w 23 ty B 3 i (.int .i64 0) 1 8 Tryz.underlying23 hi hz hsize hby rfl (by decide) v n (bf X) hown a fn fc (bf F) (by rw[zez,hfn,Nat.mul_one]) (fun j u hj=>by
   unfold bf at hj;rw[sV] at hj;obtain⟨z,hz1,hz2⟩:=Option.map_eq_some_iff.1 hj;obtain⟨a',e,_,h⟩:=hF j z hz1
   cases e
   rw[h,hz2]) (zey F) (by omega) (by unfold maxLen;omega) (by omega) hB w.heap.size rfl
  refine⟨some ⟨g,0,none⟩,cap,w',hr,by rw[znH];exact h2,h3,?_⟩
  rcases h4 with h | h
  ·exact .inl (by rw[h];rfl)
  ·exact .inr (by rw[h];rfl)
theorem aL {w:sG} {o:Oper} {a:Act} {K:Act->sG->Prop} {Q:Exit->Act->sG->Prop} (s x:Operand) (ho:o.op= .call {callee:=.builtin .append,args:=#[s,x],argTypes:=#[23,23]}) (B:Nat) (v:sQ) (n:Nat) (X:List Int) (hs:a.eval s=v) (hown:w.ownsRow B 3 1 v n (bf X)) (fo:Option Addr) (fn fc:Nat) (F:List Int) (hx:a.eval x= .slice fo fn fc) (hF:RdI w fo F) (hfn:fn=F.length) (hl:n+fn<=1000000000000) (hB:B<=w.heap.size)
  (h:∀vo vc w',w'.ownsRow B 3 1 (.slice vo (n+fn) vc) (n+fn) (bf (X++F))->w.grownBy w' v.ownBlock->((sR vo (n+fn) vc).ownBlock=v.ownBlock\/(sR vo (n+fn) vc).ownBlock=some w.heap.size)->K (a.put o.dst (.slice vo (n+fn) vc)) w'):o.wp Tryz.prog a w K Q:=by
 obtain⟨vo,vc,w',hr,h2,h3,h4⟩:=zls o.type hown (fc:=fc) hF hfn hl hB;unfold Oper.wp execOp
 simp only[ho,resolve,invoke,builtin,Sem.run_bind,Sem.run_pure,Result.andThen_ok,List.map_toArray,List.map_cons,List.map_nil,hs,hx,hr]
 exact h vo vc w' h2 h3 h4
theorem cX {w:sG} {ops:Array Oper} {rest:List Oper} {o:Oper} {a:Act} {Q:Exit->Act->sG->Prop} (hgd:o.guard=none) (s x:Operand) (ho:o.op= .call {callee:=.builtin .append,args:=#[s,x],argTypes:=#[23,23]}) (B:Nat) (v:sQ) (n:Nat) (X:List Int) (hs:a.eval s=v) (hown:w.ownsRow B 3 1 v n (bf X)) (fo:Option Addr) (fn fc:Nat) (F:List Int) (hx:a.eval x= .slice fo fn fc) (hF:RdI w fo F) (hfn:fn=F.length) (hl:n+fn<=1000000000000) (hB:B<=w.heap.size)
  (h:∀vo vc w',w'.ownsRow B 3 1 (.slice vo (n+fn) vc) (n+fn) (bf (X++F))->w.grownBy w' v.ownBlock->((sR vo (n+fn) vc).ownBlock=v.ownBlock\/(sR vo (n+fn) vc).ownBlock=some w.heap.size)->wpList Tryz.prog ops Q rest (a.put o.dst (.slice vo (n+fn) vc)) w'):wpList Tryz.prog ops Q (o::rest) a w:=
 wpList_plain hgd fun _ hK=>aL s x ho B v n X hs hown fo fn fc F hx hF hfn hl hB fun vo vc w' h2 h3 h4=>hK _ _ (h vo vc w' h2 h3 h4)
theorem aj {B n:Nat} {w w':sG} {v:sQ} {xs:List sQ} (h:w.ownsRow B 3 1 v n xs) (hg:w.grownBy w' v.ownBlock) (hB:B<=w.heap.size):sD B w w':=⟨hg.os,hg.tape,hg.output,hg.size,fun k hk=>hg.block k (by omega) (fun e=>by
 rcases h.2 with ⟨rfl,_⟩ | ⟨g,cap,cur,rfl,h2,_⟩
 ·cases e
 ·have e':=Option.some.inj e
  have e2:k=g:=e';omega)⟩
theorem eD {w:sG} {B n:Nat} {vo:Option Addr} {vc:Nat} {L:List Int} (h:w.ownsRow B 3 1 (.slice vo n vc) n (bf L)) (hn:n=L.length):RdI w vo L:=fun k z hk=>by
 have hkl:=(sU.1 hk).1
 rcases h.2 with ⟨h1,h2⟩ | ⟨g,cap,cur,h1,h2,h3,_⟩
 ·omega
 ·cases h1
  refine⟨_,rfl,ae h3,?_⟩;rw[sZ,sH];exact(cZ h).2.2.2 k _ (by unfold bf;rw[sV,hk];rfl)
theorem aB {w w':sG} {B n:Nat} {v:sQ} {xs:List sQ} (h:w.ownsRow B 3 1 v n xs) (hb:sD w.heap.size w w'):w'.ownsRow B 3 1 v n xs:=⟨h.1,h.2.imp (fun e=>e) fun⟨g,cap,cur,a1,a2,a3,a4⟩=>⟨g,cap,cur,a1,a2,(hb.block g (ae a3)).trans a3,a4⟩⟩
theorem iT (w:sG) (ao:Option Addr):RdI w ao []:=fun k z hk=>by simp at hk
theorem zcR (p:ax) (hO:jU p) (hs:gh p<=2048) (v0 v1 v2:sQ) (w:sG) (hP:cv w p v0 v1 v2):
  tc Tryz.prog 147 #[.agg #[v0,v1,v2],.slice none 0 0] w (BlQ w (¬aO [] p 0 0)):=by
 have HE:=hid (fun(W:sG) (h:sD w.heap.size w W)=>zeO p hO hs v0 v1 v2 [] none 0 0 rfl (by omega) W (cv.below h _ _ _ _ hP) (iT W none))
 clear hP;go_enter Tryz.func147,Tryz.ntmps147;go_wp2_with fail;refine(HE.out _ below_box).mono ?_;rintro e w2 ⟨vo,vc,rfl,hO2,hB2⟩;have HB2:=hid (below_box.trans (hB2.mono (by simp)))
 have HR:=hid (nA hO2 rfl);have HM:=hid (fun(x:Nat)=>zaS (fun i=>aO [] p 0 i) (0+1) x)
 obtain⟨L,hL⟩:∃L,L=gR (fun i=>aO [] p 0 i) (0+1):=⟨_,rfl⟩
 have hl9:L.length<=1:=by rw[hL];exact zaT _ _
 rw[<- hL] at HR HM⊢;obtain⟨n,hn⟩:∃n,n=L.length:=⟨_,rfl⟩;rw[<- hn] at hl9⊢;have HN:=hid hn;clear hO2 hB2 hL hn HE;go_wp2_with fail;refine(znE vo n vc _ 0 w2 HR.out (by rw[List.length_map];exact HN.out) (by omega)).mono ?_
 rintro e w3 ⟨rfl,rfl⟩;have HQ:=hid (show kf (L.map fun(x:Nat)=>(x:Int)) 0=false->¬aO [] p 0 0 from fun h hl=>by
  have h1:(0:Int)∈L.map fun(x:Nat)=>(x:Int):=List.mem_map.2 ⟨0,(HM.out 0).2 ⟨by omega,hl⟩,rfl⟩
  rw[(cI _ _).2 h1] at h
  cases h)
 obtain⟨b,hb⟩:∃b,b=kf (L.map fun(x:Nat)=>(x:Int)) 0:=⟨_,rfl⟩
 rw[<- hb] at HQ⊢;clear hb;go_wp2;go_ret;exact⟨b,rfl,HQ.out,HB2.out⟩
theorem jk (p:ax) (hO:jU p) (hs:gh p<=2048) (v0 v1 v2:sQ) (w:sG) (hP:cv w p v0 v1 v2):
  tc Tryz.prog 109 #[.agg #[v0,v1,v2]] w (BlQ w (Ful p)):=by
 have HE:=hid (fun(W:sG) (h:sD w.heap.size w W)=>zcR p hO hs v0 v1 v2 W (cv.below h _ _ _ _ hP))
 clear hP;go_enter Tryz.func109,Tryz.ntmps109;go_wp2_with fail;refine(HE.out _ below_box).mono ?_;rintro e w2 ⟨b,rfl,hb,hB2⟩;have HB2:=hid (below_box.trans (hB2.mono (by simp)))
 have HQ:=hid (show b=false->Ful p from fun h=>zvt (hb h))
 clear hb hB2;go_wp2;go_ret;exact⟨b,rfl,HQ.out,HB2.out⟩
end Pt
end
section
open Go.RowKit
namespace Pt
def FsQ (p:ax) (w:sG) (e:Ending) (w':sG):Prop:=∃(vo:Option Addr) (vc:Nat) (L:List Int),e= .returned (.slice vo L.length vc)/\RdI w' vo L/\dE p L/\L.length<=1000000 * gh p/\sD w.heap.size w w'
theorem gu.drop {w:sG} {kids:List ax} {b o:Nat} (h:gu w kids (some ⟨b,o,none⟩) 0) (m:Nat):gu w (kids.drop m) (some ⟨b,o+m * 3,none⟩) 0:=by
 have key:∀(ps:List ax) (i:Nat),(∀(j:Nat) (q:ax),ps[j]? =some q->kids[m+i+j]? =some q)->gu w ps (some ⟨b,o+m * 3,none⟩) i:=by
  intro ps
  induction ps with
  | nil=>intro i _;unfold gu;trivial
  | cons p ps ih=>
   intro i hp;unfold gu;obtain⟨b',o',h1,h2,v0,v1,v2,q0,q1,q2,q3⟩:=gu.at kids _ 0 (m+i) p h (hp 0 p rfl)
   cases h1
   rw[show o+(0+(m+i)) * 3=o+m * 3+i * 3 by omega] at q0 q1 q2
   refine⟨⟨b,o+m * 3,rfl,h2,v0,v1,v2,q0,q1,q2,q3⟩,ih (i+1) fun j q hj=>?_⟩
   have:=hp (j+1) q (by simpa using hj)
   rw[show m+(i+1)+j=m+i+(j+1) by omega]
   exact this
 exact key _ 0 fun j _ hj=>by rw[Nat.add_zero,<- List.getElem?_drop];exact hj
theorem zcJ:∀ps:List ax,(∀p∈ps,jU p)->mX ps
 | [],_=>by unfold mX;trivial
 | p::ps,h=>by
  unfold mX;exact⟨h p (List.mem_cons_self ..),zcJ ps fun q hq=>h q (List.mem_cons_of_mem _ hq)⟩
theorem mX.drop {ps:List ax} (h:mX ps) (m:Nat):mX (ps.drop m):=zcJ _ fun _ hp=>h.mem (List.mem_of_mem_drop hp)
theorem zod (v1 v2:sQ) (cls:List Int) (kids:List ax) (w:sG):tc Tryz.prog 145 #[.agg #[.int .i64 0,v1,v2]] w (FsQ (.mk 0 cls kids) w):=by
 have HB:=hid (fun(o:Obj)=>below_box (w:=w) (o:=o))
 go_enter Tryz.func145,Tryz.ntmps145;go_wp2;go_ret;exact⟨none,0,[],rfl,iT _ _,zqL 0 _ _ (by decide) (by decide) (by decide) (by decide) (by decide) (by decide),by simp,HB.out _⟩
theorem zoc (lo:Option Addr) (lc:Nat) (v2:sQ) (cls:List Int) (kids:List ax) (w:sG) (hI:RdI w lo cls) (hl9:cls.length<=1000000):tc Tryz.prog 145 #[.agg #[.int .i64 1,.slice lo cls.length lc,v2]] w (FsQ (.mk 1 cls kids) w):=by
 have HB:=hid (fun(o:Obj)=>below_box (w:=w) (o:=o))
 have HI:=hid hI;have HL:=hid hl9;obtain⟨n,hn⟩:∃n,n=cls.length:=⟨_,rfl⟩;rw[<- hn];have HN:=hid hn;clear hI hl9 hn;go_enter Tryz.func145,Tryz.ntmps145;go_wp2;go_ret;rw[HN.out];exact⟨lo,lc,cls,rfl,HI.out.below (HB.out _),zvu _ _,by
  have:=HL.out;unfold gh;omega,HB.out _⟩
set_option maxRecDepth 100000 in
theorem zob (lo ko:Option Addr) (ln lc kn kc:Nat) (cls:List Int) (kids:List ax) (w:sG) (hkn:kn=kids.length) (hk9:kn<=1000000) (hkc:kn<=kc) (hk:gu w kids ko 0) (hOK:mX kids) (hsz:kC kids+1<=2048)
  (ih:∀p∈kids,∀(u0 u1 u2:sQ) (W:sG),cv W p u0 u1 u2->tc Tryz.prog 145 #[.agg #[u0,u1,u2]] W (FsQ p W)):
  tc Tryz.prog 145 #[.agg #[.int .i64 2,.slice lo ln lc,.slice ko kn kc]] w (FsQ (.mk 2 cls kids) w):=by
 have HK:=hid hk;have HO:=hid hOK;have HSz:=hid hsz;have HIH:=hid ih;have HKN:=hid hkn;clear hk hOK hsz ih hkn;go_enter Tryz.func145,Tryz.ntmps145;go_wp2;obtain⟨w1,hw1⟩:∃w1,w1=w.alloc (.cells #[.int .i64 2,.slice lo ln lc,.slice ko kn kc] 105):=⟨_,rfl⟩;have hb1:sD w.heap.size w w1:=by rw[hw1];exact below_box
 have x0:w1.cell? ⟨w.heap.size,0,none⟩=some (.int .i64 2):=by rw[hw1];simp[go_sem]
 have x2:w1.cell? ⟨w.heap.size,2,none⟩=some (.slice ko kn kc):=by rw[hw1];simp[go_sem]
 have hs1:w.heap.size<w1.heap.size:=by rw[hw1];simp
 rw[<- hw1];have HB1:=hid hb1;have HX:=hid (fun(W:sG) (h:sD w1.heap.size w1 W)=>show W.cell? ⟨w.heap.size,0,none⟩=some (.int .i64 2)/\W.cell? ⟨w.heap.size,2,none⟩=some (.slice ko kn kc) from⟨(h.cell (p:=⟨w.heap.size,0,none⟩) hs1).trans x0,(h.cell (p:=⟨w.heap.size,2,none⟩) hs1).trans x2⟩)
 clear hw1 hb1 x0 x2;go_loopw [3,4] (fun x y wr=>∃(j n:Nat) (vo:Option Addr) (vc:Nat) (M:List Int),x= .slice vo n vc/\y= .int .i64 j/\j<=kn/\n<=2048000000/\Hid (n=M.length)/\Hid (n<=1000000 * kC (kids.take j))/\Hid (wr.ownsRow w1.heap.size 3 1 (.slice vo n vc) n (bf M))/\Hid (FsT kids j M)/\Hid (sD w1.heap.size w1 wr)) (fun _ y _=>kn - (sP y).toNat)
 case atStart=>exact⟨0,0,none,0,[],rfl,rfl,sS _,by omega,hid rfl,hid (sS _),hid (sW _ _ _ _),hid (zxq _),hid (sL _ _)⟩
 case round=>
  obtain⟨j,n,vo,vc,M,rfl,rfl,hj,hn9,HN,HN9,HOw,HF,HB⟩:=hrel;obtain⟨x0,x2⟩:=HX.out wr HB.out;have HBw:=hid (HB1.out.trans (HB.out.mono HB1.out.size))
  by_cases hlt:j<kn
  ·have j0:(0:Int)<=(j:Int):=by omega
   have j1:(j:Int)<(kn:Int):=by omega
   have hjk:j<kids.length:=by have:=HKN.out;omega
   obtain⟨b,o,hko,hb,u0,u1,u2,q0,q1,q2,hq⟩:=gu.at kids ko 0 j _ HK.out (sE hjk);rw[sH] at q0 q1 q2;have HKb:=hid (show gu w kids (some ⟨b,o,none⟩) 0 by rw[<- hko];exact HK.out)
   subst hko;have hKid:∀W,sD w1.heap.size w1 W->cv W kids[j] u0 u1 u2/\W.cell? ⟨b,o+j * 3,none⟩=some u0/\W.cell? ⟨b,o+j * 3+1,none⟩=some u1/\W.cell? ⟨b,o+j * 3+2,none⟩=some u2:=fun W h=>by
    have h2:=HB1.out.trans (h.mono HB1.out.size);exact⟨cv.below h2 _ _ _ _ hq,(h2.cell (p:=⟨b,o+j * 3,none⟩) hb).trans q0,(h2.cell (p:=⟨b,o+j * 3+1,none⟩) hb).trans q1,(h2.cell (p:=⟨b,o+j * 3+2,none⟩) hb).trans q2⟩
   have HKid:=hid hKid;have hOj:jU kids[j]:=HO.out.mem (sO hjk);have hSj:gh kids[j]<=2048:=by
    have h1:=ez kids j _ (sE hjk);have h2:=fu kids (j+1);have h3:=HSz.out;omega
   have HSm:=hid (fun(W:sG) (h:sD w1.heap.size w1 W)=>oy kids[j] hOj u0 u1 u2 W (hKid W h).1)
   have HEm:=hid (fun(W:sG) (h:sD w1.heap.size w1 W)=>jk kids[j] hOj hSj u0 u1 u2 W (hKid W h).1)
   have HFs:=hid (fun(W:sG) (h:sD w1.heap.size w1 W)=>HIH.out kids[j] (sO hjk) u0 u1 u2 W (hKid W h).1)
   have HST:=hid (ez kids j _ (sE hjk));have HSL:=hid (fu kids (j+1));obtain⟨_,y0,y1,y2⟩:=hKid wr HB.out;clear q0 q1 q2 hKid hq hb;go_wp2_with fail;refine(HSm.out wr HB.out).mono ?_;rintro e w3 ⟨b1,rfl,hv1,hB3⟩;have HV1:=hid hv1;have HB3:=hid (HB.out.trans (hB3.mono HB.out.size));have HO3:=hid (aB HOw.out hB3);obtain⟨_,y0,y1,y2⟩:=HKid.out w3 HB3.out;obtain⟨x0,x2⟩:=HX.out w3 HB3.out;clear hv1 hB3 HSm HOw
   cases b1 with
   | false=>
    have HM9:=hid (show n<=1000000 * kC (kids.take (j+1)) from by have a1:=HN9.out;have a2:=HST.out;omega)
    obtain⟨_,y0,y1,y2⟩:=HKid.out w3 HB3.out;obtain⟨x0,x2⟩:=HX.out w3 HB3.out;have HH:=hid (show dE kids[j] M\/Nil kids[j]\/zbG (kids.drop (j+1)) from .inr (.inl (HV1.out rfl)))
    go_wp2_with fail;refine(HEm.out w3 HB3.out).mono ?_;rintro e w9 ⟨b3,rfl,hv3,hB9⟩;have HV3:=hid hv3;have HB9:=hid (HB3.out.trans (hB9.mono HB3.out.size));have HO9:=hid (aB HO3.out hB9);clear hv3 hB9 y0 y1 y2 x0 x2
    cases b3 with
    | true=>
     go_wp2;go_roundw
     case rel=>exact⟨j+1,n,vo,vc,M,rfl,by go_num,by omega,hn9,HN,HM9,HO9,hid (pC hjk HF.out (fun z hz=>hz) HH.out),HB9⟩
     case measure=>simp[sP];omega
    | false=>
     have HQ:=hid (show dE (.mk 2 cls kids) M from pB hjk HF.out (fun z hz=>hz) HH.out (HV3.out rfl) 2 cls rfl)
     have HBz:=hid (HB1.out.trans (HB9.out.mono HB1.out.size));have HNz:=hid (show M.length<=1000000 * gh (.mk 2 cls kids) from by
      have a1:=HN.out;have a2:=HM9.out;have a3:=HSL.out;unfold gh;omega)
     go_wp2;go_ret;exact⟨vo,vc,M,by rw[<- HN.out];rfl,eD HO9.out HN.out,HQ.out,HNz.out,HBz.out⟩
   | true=>
    have HRs:=hid (fun(ao:Option Addr) (m cp:Nat) (W:sG) (h:sD w1.heap.size w1 W) (hm:m=kn - (j+1)) (hao:(ao=some ⟨b,o,none⟩/\kn<=j+1)\/ao=some ⟨b,o+(j+1) * 3,none⟩)=>show tc Tryz.prog 169 #[.slice ao m cp] W (BlQ W (zbG (kids.drop (j+1)))) from by
     have e:m=(kids.drop (j+1)).length:=by rw[sX,<- HKN.out];exact hm
     rw[e];refine zlI _ (HO.out.drop _) ao _ W ?_ (by rw[<- e];omega)
     rcases hao with ⟨_,h0⟩ | rfl
     ·rw[sY.1 (show(kids.drop (j+1)).length=0 by rw[<- e];omega)];unfold gu;trivial
     ·exact(gu.below (HB1.out.trans (h.mono HB1.out.size)) _ _ _ HKb.out).drop (j+1))
    have d1:(j:Int)+1<=(kn:Int):=by omega
    have d2:(kn:Int)<=(kc:Int):=by omega
    have d3:(j:Int)+1<=(kc:Int):=by omega
    go_wp2_with fail
    all_goals
     have HH0:=hid h
     first
      | rw[<- h]
      | skip
     clear h;refine(HRs.out _ _ _ w3 HB3.out (by have:=HH0.out;omega) (by first | exact .inr rfl | exact .inl ⟨rfl,by have:=HH0.out;omega⟩)).mono ?_
     rintro e w4 ⟨b2,rfl,hv2,hB4⟩;have HV2:=hid hv2;have HB4:=hid (HB3.out.trans (hB4.mono HB3.out.size));have HO4:=hid (aB HO3.out hB4);obtain⟨_,y0,y1,y2⟩:=HKid.out w4 HB4.out;obtain⟨x0,x2⟩:=HX.out w4 HB4.out;clear hv2 hB4 HRs d1 d2 d3
     cases b2 with
     | false=>
      have HM9:=hid (show n<=1000000 * kC (kids.take (j+1)) from by have a1:=HN9.out;have a2:=HST.out;omega)
      obtain⟨_,y0,y1,y2⟩:=HKid.out w4 HB4.out;obtain⟨x0,x2⟩:=HX.out w4 HB4.out;have HH:=hid (show dE kids[j] M\/Nil kids[j]\/zbG (kids.drop (j+1)) from .inr (.inr (HV2.out rfl)))
      go_wp2_with fail;refine(HEm.out w4 HB4.out).mono ?_;rintro e w9 ⟨b3,rfl,hv3,hB9⟩;have HV3:=hid hv3;have HB9:=hid (HB4.out.trans (hB9.mono HB4.out.size));have HO9:=hid (aB HO4.out hB9);clear hv3 hB9 y0 y1 y2 x0 x2
      cases b3 with
      | true=>
       go_wp2;go_roundw
       case rel=>exact⟨j+1,n,vo,vc,M,rfl,by go_num,by omega,hn9,HN,HM9,HO9,hid (pC hjk HF.out (fun z hz=>hz) HH.out),HB9⟩
       case measure=>simp[sP];omega
      | false=>
       have HQ:=hid (show dE (.mk 2 cls kids) M from pB hjk HF.out (fun z hz=>hz) HH.out (HV3.out rfl) 2 cls rfl)
       have HBz:=hid (HB1.out.trans (HB9.out.mono HB1.out.size));have HNz:=hid (show M.length<=1000000 * gh (.mk 2 cls kids) from by
        have a1:=HN.out;have a2:=HM9.out;have a3:=HSL.out;unfold gh;omega)
       go_wp2;go_ret;exact⟨vo,vc,M,by rw[<- HN.out];rfl,eD HO9.out HN.out,HQ.out,HNz.out,HBz.out⟩
     | true=>
      go_wp2_with fail;refine(HFs.out w4 HB4.out).mono ?_;rintro e w5 ⟨fo,fc,L,rfl,hI5,hF5,hL5,hB5⟩;have HI5:=hid hI5;have HF5:=hid hF5;have HB5:=hid (HB4.out.trans (hB5.mono HB4.out.size));have HO5:=hid (aB HO4.out hB5);have hl9:L.length<=2048000000:=by omega
      obtain⟨m,hm⟩:∃m,m=L.length:=⟨_,rfl⟩;have HM:=hid hm;have HL5:=hid hL5;rw[<- hm] at hl9⊢;have HM9:=hid (show n+m<=1000000 * kC (kids.take (j+1)) from by have a1:=HN9.out;have a2:=HST.out;have a3:=HL5.out;have a4:=HM.out;omega)
      have hnm:n+m<=2048000000:=by have a1:=HM9.out;have a2:=HSL.out;have a3:=HSz.out;omega
      clear hm hI5 hF5 hL5 hB5 y0 y1 y2 x0 x2;go_wp2_with (at_builtin;refine cX rfl _ _ rfl w1.heap.size (.slice vo n vc) n M rfl HO5.out fo m fc L rfl HI5.out HM.out (by omega) HB5.out.size ?_;intro vo6 vc6 w6 ho6 hg6 _;have HO6:=hid ho6;have HB6:=hid (HB5.out.trans (aj HO5.out hg6 HB5.out.size));clear ho6 hg6;obtain⟨x0,x2⟩:=HX.out w6 HB6.out;obtain⟨_,y0,y1,y2⟩:=HKid.out w6 HB6.out)
      have HN6:=hid (show n+m=(M++L).length from by rw[tf,<- HN.out,<- HM.out])
      have HH:=hid (show dE kids[j] (M++L)\/Nil kids[j]\/zbG (kids.drop (j+1)) from .inl (HF5.out.mono fun z hz=>sM _ hz))
      refine(HEm.out w6 HB6.out).mono ?_;rintro e w9 ⟨b3,rfl,hv3,hB9⟩;have HV3:=hid hv3;have HB9:=hid (HB6.out.trans (hB9.mono HB6.out.size));have HO9:=hid (aB HO6.out hB9);clear hv3 hB9 y0 y1 y2 x0 x2
      cases b3 with
      | true=>
       go_wp2;go_roundw
       case rel=>exact⟨j+1,(n+m),vo6,vc6,(M++L),rfl,by go_num,by omega,hnm,HN6,HM9,HO9,hid (pC hjk HF.out (fun z hz=>sJ _ hz) HH.out),HB9⟩
       case measure=>simp[sP];omega
      | false=>
       have HQ:=hid (show dE (.mk 2 cls kids) (M++L) from pB hjk HF.out (fun z hz=>sJ _ hz) HH.out (HV3.out rfl) 2 cls rfl)
       have HBz:=hid (HB1.out.trans (HB9.out.mono HB1.out.size));have HNz:=hid (show(M++L).length<=1000000 * gh (.mk 2 cls kids) from by
        have a1:=HN6.out;have a2:=HM9.out;have a3:=HSL.out;unfold gh;omega)
       go_wp2;go_ret;exact⟨vo6,vc6,(M++L),by rw[<- HN6.out];rfl,eD HO9.out HN6.out,HQ.out,HNz.out,HBz.out⟩
  ·have j1:¬(j:Int)<(kn:Int):=by omega
   have hje:j=kn:=by omega
   have HQ:=hid (show dE (.mk 2 cls kids) M from zqK (by rw[<- HKN.out,<- hje];exact HF.out) 2 cls rfl)
   have HNz:=hid (show M.length<=1000000 * gh (.mk 2 cls kids) from by
    have a1:=HN.out;have a2:=HN9.out;have a3:=fu kids j;unfold gh;omega)
   clear hje;go_wp2;go_ret;exact⟨vo,vc,M,by rw[<- HN.out];rfl,eD HOw.out HN.out,HQ.out,HNz.out,HBw.out⟩
set_option maxRecDepth 100000 in
theorem zoa (op:Int) (h0:op≠0) (h1:op≠1) (h2:op≠2) (lo ko:Option Addr) (ln lc kn kc:Nat) (cls:List Int) (kids:List ax) (w:sG) (hkn:kn=kids.length) (hk9:kn<=1000000) (hk:gu w kids ko 0) (hOK:mX kids) (hsz:kC kids+1<=2048)
  (ih:∀p∈kids,∀(u0 u1 u2:sQ) (W:sG),cv W p u0 u1 u2->tc Tryz.prog 145 #[.agg #[u0,u1,u2]] W (FsQ p W)):
  tc Tryz.prog 145 #[.agg #[.int .i64 op,.slice lo ln lc,.slice ko kn kc]] w (FsQ (.mk op cls kids) w):=by
 have e0:(op==0)=false:=beq_eq_false_iff_ne.2 h0;have e1:(op==1)=false:=beq_eq_false_iff_ne.2 h1;have e2:(op != 2)=true:=bne_iff_ne.2 h2;have e3:(op==2)=false:=beq_eq_false_iff_ne.2 h2;have HOP:=hid (And.intro h1 h2);clear h0 h1 h2;have HK:=hid hk;have HO:=hid hOK;have HSz:=hid hsz;have HIH:=hid ih;have HKN:=hid hkn;clear hk hOK hsz ih hkn;go_enter Tryz.func145,Tryz.ntmps145;go_wp2;obtain⟨w1,hw1⟩:∃w1,w1=w.alloc (.cells #[.int .i64 op,.slice lo ln lc,.slice ko kn kc] 105):=⟨_,rfl⟩;have hb1:sD w.heap.size w w1:=by rw[hw1];exact below_box
 have x0:w1.cell? ⟨w.heap.size,0,none⟩=some (.int .i64 op):=by rw[hw1];simp[go_sem]
 have x2:w1.cell? ⟨w.heap.size,2,none⟩=some (.slice ko kn kc):=by rw[hw1];simp[go_sem]
 have hs1:w.heap.size<w1.heap.size:=by rw[hw1];simp
 rw[<- hw1];have HB1:=hid hb1;have HX:=hid (fun(W:sG) (h:sD w1.heap.size w1 W)=>show W.cell? ⟨w.heap.size,0,none⟩=some (.int .i64 op)/\W.cell? ⟨w.heap.size,2,none⟩=some (.slice ko kn kc) from⟨(h.cell (p:=⟨w.heap.size,0,none⟩) hs1).trans x0,(h.cell (p:=⟨w.heap.size,2,none⟩) hs1).trans x2⟩)
 clear hw1 hb1 x0 x2;go_loopw [3,4] (fun x y wr=>∃(j n:Nat) (vo:Option Addr) (vc:Nat) (M:List Int),x= .slice vo n vc/\y= .int .i64 j/\j<=kn/\n<=2048000000/\Hid (n=M.length)/\Hid (n<=1000000 * kC (kids.take j))/\Hid (wr.ownsRow w1.heap.size 3 1 (.slice vo n vc) n (bf M))/\Hid (∀x (hx:x<j) (hk:x<kids.length),dE kids[x] M)/\Hid (sD w1.heap.size w1 wr)) (fun _ y _=>kn - (sP y).toNat)
 case atStart=>exact⟨0,0,none,0,[],rfl,rfl,sS _,by omega,hid rfl,hid (sS _),hid (sW _ _ _ _),hid (fun x hx=>by omega),hid (sL _ _)⟩
 case round=>
  obtain⟨j,n,vo,vc,M,rfl,rfl,hj,hn9,HN,HN9,HOw,HF,HB⟩:=hrel;obtain⟨x0,x2⟩:=HX.out wr HB.out;have HBw:=hid (HB1.out.trans (HB.out.mono HB1.out.size))
  by_cases hlt:j<kn
  ·have j0:(0:Int)<=(j:Int):=by omega
   have j1:(j:Int)<(kn:Int):=by omega
   have hjk:j<kids.length:=by have:=HKN.out;omega
   obtain⟨b,o,hko,hb,u0,u1,u2,q0,q1,q2,hq⟩:=gu.at kids ko 0 j _ HK.out (sE hjk);rw[sH] at q0 q1 q2;have HKb:=hid (show gu w kids (some ⟨b,o,none⟩) 0 by rw[<- hko];exact HK.out)
   subst hko;have hKid:∀W,sD w1.heap.size w1 W->cv W kids[j] u0 u1 u2/\W.cell? ⟨b,o+j * 3,none⟩=some u0/\W.cell? ⟨b,o+j * 3+1,none⟩=some u1/\W.cell? ⟨b,o+j * 3+2,none⟩=some u2:=fun W h=>by
    have h2:=HB1.out.trans (h.mono HB1.out.size);exact⟨cv.below h2 _ _ _ _ hq,(h2.cell (p:=⟨b,o+j * 3,none⟩) hb).trans q0,(h2.cell (p:=⟨b,o+j * 3+1,none⟩) hb).trans q1,(h2.cell (p:=⟨b,o+j * 3+2,none⟩) hb).trans q2⟩
   have HKid:=hid hKid;have hOj:jU kids[j]:=HO.out.mem (sO hjk);have hSj:gh kids[j]<=2048:=by
    have h1:=ez kids j _ (sE hjk);have h2:=fu kids (j+1);have h3:=HSz.out;omega
   have HSm:=hid (fun(W:sG) (h:sD w1.heap.size w1 W)=>oy kids[j] hOj u0 u1 u2 W (hKid W h).1)
   have HEm:=hid (fun(W:sG) (h:sD w1.heap.size w1 W)=>jk kids[j] hOj hSj u0 u1 u2 W (hKid W h).1)
   have HFs:=hid (fun(W:sG) (h:sD w1.heap.size w1 W)=>HIH.out kids[j] (sO hjk) u0 u1 u2 W (hKid W h).1)
   have HST:=hid (ez kids j _ (sE hjk));have HSL:=hid (fu kids (j+1));obtain⟨_,y0,y1,y2⟩:=hKid wr HB.out;clear q0 q1 q2 hKid hq hb;go_wp2_with fail;refine(HSm.out wr HB.out).mono ?_;rintro e w3 ⟨b1,rfl,hv1,hB3⟩;have HV1:=hid hv1;have HB3:=hid (HB.out.trans (hB3.mono HB.out.size));have HO3:=hid (aB HOw.out hB3);obtain⟨_,y0,y1,y2⟩:=HKid.out w3 HB3.out;obtain⟨x0,x2⟩:=HX.out w3 HB3.out;clear hv1 hB3 HSm HOw
   cases b1 with
   | false=>
    have HM9:=hid (show n<=1000000 * kC (kids.take (j+1)) from by have a1:=HN9.out;have a2:=HST.out;omega)
    have HH:=hid (show ∀x (hx:x<j+1) (hk:x<kids.length),dE kids[x] M from fun x hx hkx=>by
     rcases tm x j with h | h
     ·exact(HF.out x h hkx).mono (fun z hz=>hz)
     ·obtain rfl:x=j:=by omega
      exact fun c i k hl _=>absurd hl (HV1.out rfl c i k))
    clear y0 y1 y2;go_wp2;go_roundw
    case rel=>exact⟨j+1,n,vo,vc,M,rfl,by go_num,by omega,hn9,HN,HM9,HO3,HH,HB3⟩
    case measure=>simp[sP];omega
   | true=>
    go_wp2_with fail;refine(HFs.out w3 HB3.out).mono ?_;rintro e w5 ⟨fo,fc,L,rfl,hI5,hF5,hL5,hB5⟩;have HI5:=hid hI5;have HF5:=hid hF5;have HB5:=hid (HB3.out.trans (hB5.mono HB3.out.size));have HO5:=hid (aB HO3.out hB5);have hl9:L.length<=2048000000:=by omega
    obtain⟨m,hm⟩:∃m,m=L.length:=⟨_,rfl⟩;have HM:=hid hm;have HL5:=hid hL5;rw[<- hm] at hl9⊢;have HM9:=hid (show n+m<=1000000 * kC (kids.take (j+1)) from by have a1:=HN9.out;have a2:=HST.out;have a3:=HL5.out;have a4:=HM.out;omega)
    have hnm:n+m<=2048000000:=by have a1:=HM9.out;have a2:=HSL.out;have a3:=HSz.out;omega
    clear hm hI5 hF5 hL5 hB5 y0 y1 y2 x0 x2;go_wp2_with (at_builtin;refine cX rfl _ _ rfl w1.heap.size (.slice vo n vc) n M rfl HO5.out fo m fc L rfl HI5.out HM.out (by omega) HB5.out.size ?_;intro vo6 vc6 w6 ho6 hg6 _;have HO6:=hid ho6;have HB6:=hid (HB5.out.trans (aj HO5.out hg6 HB5.out.size));clear ho6 hg6;obtain⟨x0,x2⟩:=HX.out w6 HB6.out;obtain⟨_,y0,y1,y2⟩:=HKid.out w6 HB6.out)
    have HN6:=hid (show n+m=(M++L).length from by rw[tf,<- HN.out,<- HM.out])
    have HH:=hid (show ∀x (hx:x<j+1) (hk:x<kids.length),dE kids[x] (M++L) from fun x hx hkx=>by
     rcases tm x j with h | h
     ·exact(HF.out x h hkx).mono (fun z hz=>sJ _ hz)
     ·obtain rfl:x=j:=by omega
      exact HF5.out.mono fun z hz=>sM _ hz)
    go_roundw
    case rel=>exact⟨j+1,(n+m),vo6,vc6,(M++L),rfl,by go_num,by omega,hnm,HN6,HM9,HO6,HH,HB6⟩
    case measure=>simp[sP];omega
  ·have j1:¬(j:Int)<(kn:Int):=by omega
   have hje:j=kn:=by omega
   have HQ:=hid (show dE (.mk op cls kids) M from zqM op cls kids M HOP.out.1 HOP.out.2 fun p hp=>by obtain⟨x,hx,rfl⟩:=te hp;exact HF.out x (by have:=HKN.out;omega) hx)
   have HNz:=hid (show M.length<=1000000 * gh (.mk op cls kids) from by
    have a1:=HN.out;have a2:=HN9.out;have a3:=fu kids j;unfold gh;omega)
   clear hje;go_wp2;go_ret;exact⟨vo,vc,M,by rw[<- HN.out];rfl,eD HOw.out HN.out,HQ.out,HNz.out,HBw.out⟩
theorem zgv:∀p:ax,jU p->gh p<=2048->∀(v0 v1 v2:sQ) (w:sG),cv w p v0 v1 v2->tc Tryz.prog 145 #[.agg #[v0,v1,v2]] w (FsQ p w):=by
 refine ax.ind fun op cls kids ih hO hs v0 v1 v2 w hP=>?_
 unfold cv at hP;unfold jU at hO;unfold gh at hs;obtain⟨rfl,⟨lo,lc,rfl,hl1,hl2⟩,ko,kc,rfl,hk1,hk2,hk3⟩:=hP;have hI:∀p∈kids,∀(u0 u1 u2:sQ) (W:sG),cv W p u0 u1 u2->tc Tryz.prog 145 #[.agg #[u0,u1,u2]] W (FsQ p W):=fun p hp u0 u1 u2 W hW=>by
  obtain⟨j,hj,rfl⟩:=te hp;have h1:=ez kids j _ (sE hj);have h2:=fu kids (j+1);exact ih _ hp (hO.2.mem hp) (by omega) u0 u1 u2 W hW
 by_cases o0:op=0
 ·subst o0
  exact zod _ _ cls kids w
 by_cases o1:op=1
 ·subst o1
  exact zoc lo lc _ cls kids w hl1 hl2
 by_cases o2:op=2
 ·subst o2
  exact zob lo ko cls.length lc kids.length kc cls kids w rfl hk2 hk3 hk1 hO.2 hs hI
 ·exact zoa op o0 o1 o2 lo ko cls.length lc kids.length kc cls kids w rfl hk2 hk1 hO.2 hs hI
end Pt
end
section
open Go.RowKit
namespace Pt
def FlQ (p:ax) (w:sG) (e:Ending) (w':sG):Prop:=∃(vo:Option Addr) (vc:Nat) (L:List Int),e= .returned (.slice vo L.length vc)/\gU w' (fun b=>b<w.heap.size) vo L/\dE p L/\L.length<=2048000000/\sD w.heap.size w w'
theorem zji {w:sG} {B C n:Nat} {vo:Option Addr} {vc:Nat} {L:List Int} (h:w.ownsRow C 3 1 (.slice vo n vc) n (bf L)) (hn:n=L.length) (hB:B<=C):gU w (fun b=>b<B) vo L:=fun k z hk=>by
 have hkl:=(sU.1 hk).1
 rcases h.2 with ⟨h1,h2⟩ | ⟨g,cap,cur,h1,h2,h3,_⟩
 ·omega
 ·cases h1
  refine⟨_,rfl,ae h3,fun h=>?_,?_⟩
  ·have h':g<B:=h
   omega
  ·rw[sZ,sH]
   exact(cZ h).2.2.2 k _ (by unfold bf;rw[sV,hk];rfl)
theorem aW {w:sG} {B C n:Nat} {v:sQ} {xs:List sQ} (h:w.ownsRow C 3 1 v n xs) (hB:B<=C):w.ownsRow B 3 1 v n xs:=⟨h.1,h.2.imp (fun e=>e) fun⟨g,cap,cur,a1,a2,a3,a4⟩=>⟨g,cap,cur,a1,by omega,a3,a4⟩⟩
theorem zaj {M:List Int} {k:Nat} {z:Int} {F:List Int} (h1:∀x∈F,x∈M\/x=z) (x:Int) (hx:x∈F):x∈M.take k++[z]++M.drop k:=by
 rcases h1 x hx with h | h
 ·rw[<- List.take_append_drop k M,tk] at h
  rcases h with h | h
  ·exact sJ _ (sJ _ h)
  ·exact sM _ h
 ·exact sJ _ (sM _ (by rw[h];simp))
theorem iU (M:List Int) {k:Nat} (z:Int) (hk:k<=M.length):(M.take k++[z]++M.drop k).length=M.length+1:=by
 simp
 omega
theorem cq {w:sG} {q:Nat} {z:Int} (h:w.heap[q]? =some (.cells #[.int .i64 z] 3)):RdI w (some ⟨q,0,none⟩) [z]:=fun k y hk=>by
 cases k with
 | succ k=>simp at hk
 | zero=>
  cases hk
  refine⟨_,rfl,ae h,?_⟩;rw[sZ,td w q _ _ _ _ h]
  rfl
theorem fH (w:sG):(w.alloc (.cells #[] 3)).ownsRow w.heap.size 3 1 (.slice (some ⟨w.heap.size,0,none⟩) 0 0) 0 (bf []):=sG.ownsRow_lit w #[] 0 (tj _) (by decide) (by simp)
theorem mb {w w':sG} {v:sQ} {q:Nat} {o:Obj} (h:w.heap[q]? =some o) (hg:w.grownBy w' v.ownBlock) (hne:v.ownBlock≠some q):w'.heap[q]? =some o:=(hg.block q (ae h) (fun e=>hne e.symm)).trans h
set_option maxRecDepth 100000 in
theorem mT (p:ax) (hO:jU p) (hs:gh p<=2048) (u0 u1 u2:sQ) (w:sG) (hP:cv w p u0 u1 u2):tc Tryz.prog 107 #[.agg #[u0,u1,u2]] w (FlQ p w):=by
 have HG:=hid (fun(W:sG) (h:sD w.heap.size w W)=>fL p hO hs u0 u1 u2 W (cv.below h _ _ _ _ hP))
 have HFs:=hid (fun(W:sG) (h:sD w.heap.size w W)=>zgv p hO hs u0 u1 u2 W (cv.below h _ _ _ _ hP))
 clear hP hO;go_enter Tryz.func107,Tryz.ntmps107;go_wp2_with fail;obtain⟨w1,hw1⟩:∃w1,w1=w.alloc (.cells #[u0,u1,u2] 105):=⟨_,rfl⟩;have hb1:sD w.heap.size w w1:=by rw[hw1];exact below_box
 have hN:w1.heap[w.heap.size]? =some (.cells #[u0,u1,u2] 105):=by rw[hw1];exact heap_alloc_new _ _
 rw[<- hw1];have HB1:=hid hb1;have HN:=hid hN;clear hw1 hb1 hN;refine(HG.out w1 HB1.out).mono ?_;rintro e w2 ⟨rfl,hB2⟩;have hN2:=(hB2.block _ (ae HN.out)).trans HN.out;have x0:w2.cell? ⟨w.heap.size,0,none⟩=some u0:=by rw[td w2 _ 0 _ _ _ hN2];rfl
 have x1:w2.cell? ⟨w.heap.size,1,none⟩=some u1:=by rw[td w2 _ 1 _ _ _ hN2];rfl
 have x2:w2.cell? ⟨w.heap.size,2,none⟩=some u2:=by rw[td w2 _ 2 _ _ _ hN2];rfl
 have HB2:=hid (HB1.out.trans (hB2.mono HB1.out.size));clear hB2 hN2;go_wp2_with fail;refine(HFs.out w2 HB2.out).mono ?_;rintro e w3 ⟨lo,lc,L,rfl,hI,hF,hL9,hB3⟩;have HI:=hid hI;have HF:=hid hF;have HB3:=hid (HB2.out.trans (hB3.mono HB2.out.size));have hl9:L.length<=2048000000:=by omega
 obtain⟨n,hn⟩:∃n,n=L.length:=⟨_,rfl⟩;rw[<- hn] at hl9⊢;have HNn:=hid hn;clear hI hF hL9 hB3 hn x0 x1 x2 HG HFs hs;go_wp2;go_loopw [4,5] (fun x y wr=>∃(i m:Nat) (vo:Option Addr) (vc:Nat) (M:List Int),x= .slice vo m vc/\y= .int .i64 i/\i<=n/\m<=i/\Hid (m=M.length)/\Hid (wr.ownsRow w3.heap.size 3 1 (.slice vo m vc) m (bf M))/\Hid (∀x∈L.take i,x∈M)/\Hid (sD w3.heap.size w3 wr)) (fun _ y _=>n - (sP y).toNat)
 case atStart=>exact⟨0,0,none,0,[],rfl,rfl,sS _,tj _,hid rfl,hid (sW _ _ _ _),hid (by simp),hid (sL _ _)⟩
 case round=>
  obtain⟨i,m,vo,vc,M,rfl,rfl,hi,hmi,HM,HOw,HIn,HBr0⟩:=hrel
  by_cases hlt:i<n
  ·have i0:(0:Int)<=(i:Int):=by omega
   have i1:(i:Int)<(n:Int):=by omega
   have hil:i<L.length:=by have:=HNn.out;omega
   obtain⟨ad,rfl,had,c1⟩:=HI.out.at hil;have HAd:=hid had;obtain⟨z,hz⟩:∃z,z=L[i]:=⟨_,rfl⟩;rw[<- hz] at c1;have HCz0:=hid c1;have HTk:=hid (show ∀x∈L.take (i+1),x∈M\/x=z from fun x hx=>by
    rw[List.take_succ_eq_append_getElem hil,tk] at hx
    rcases hx with hx | hx
    ·exact .inl (HIn.out x hx)
    ·exact .inr (by rw[hz];simpa using hx))
   have HRM0:=hid (eD HOw.out HM.out);have hmc:m<=vc:=by
    rcases HOw.out.2 with ⟨h1,h2⟩ | ⟨g,cap,cur,h1,_,_,h4,_⟩
    ·omega
    ·cases h1;exact h4
   clear hz c1 had;obtain⟨wo,rfl⟩:∃wo,wo=wr:=⟨_,rfl⟩;go_wp2;go_loopw [6] (fun y wr2=>∃k:Nat,y= .int .i64 k/\k<=m/\Hid (sD wo.heap.size wo wr2)) (fun y _=>m - (sP y).toNat)
   case atStart=>exact⟨0,rfl,sS _,hid (sL _ _)⟩
   case round=>
    obtain⟨k,rfl,hk,HB⟩:=hrel;have k0:(0:Int)<=(k:Int):=by omega
    have HBr:=hid (HBr0.out.trans (HB.out.mono HBr0.out.size));have c2:wr.cell? (ad.add i)=some (.int .i64 z):=(HBr.out.cell (p:=ad.add i) (by rw[add_blk];exact HAd.out)).trans HCz0.out
    have HCz:=hid c2
    by_cases hkm:k<m
    ·have k1:(k:Int)<(m:Int):=by omega
     have hkM:k<M.length:=by have:=HM.out;omega
     obtain⟨a2,hvo,h2,c3⟩:=(HRM0.out.below HB.out).at hkM;obtain⟨g,hg⟩:∃g,vo=some ⟨g,0,none⟩:=by
      rcases HOw.out.2 with ⟨h1,h2⟩ | ⟨g,cap,cur,h1,_⟩
      ·omega
      ·cases h1;exact⟨g,rfl⟩
     subst hg
     cases hvo
     have hgw:g<wo.heap.size:=(cZ HOw.out).2.1.elim fun cur h=>ae h
     rw[sZ,sH] at c3;obtain⟨y,hy⟩:∃y,y=M[k]:=⟨_,rfl⟩;rw[<- hy] at c3;have HY:=hid hy;clear hy h2
     by_cases hyz:y<z
     ·go_wp2_with fail
      go_quiet (fail);have HBd:=hid (show sD wo.heap.size wo (wr.drewN nq) from⟨HB.out.os,HB.out.tape,HB.out.output,HB.out.size,HB.out.block⟩)
      go_wp2;go_roundw
      case rel=>exact⟨k+1,by go_num,by omega,HBd⟩
      case measure=>simp[sP];omega
     ·have d1:decide (y<z)=false:=decide_eq_false hyz
      go_wp2_with fail;go_quiet (fail);obtain⟨wq,hwq⟩:∃W,W=wr.drewN nq:=⟨_,rfl⟩;have HBq:=hid (show sD wo.heap.size wo wq by rw[hwq];exact⟨HB.out.os,HB.out.tape,HB.out.output,HB.out.size,HB.out.block⟩)
      rw[<- hwq];clear hwq;have c4:wq.cell? (ad.add i)=some (.int .i64 z):=((HBr0.out.trans (HBq.out.mono HBr0.out.size)).cell (p:=ad.add i) (by rw[add_blk];exact HAd.out)).trans HCz0.out
      have c5:wq.cell? ⟨g,k,none⟩=some (.int .i64 y):=(sG.cell?_of_block (a:=⟨g,k,none⟩) (by rw[HBq.out.block g hgw,HB.out.block g hgw])).trans c3
      by_cases hyz2:y=z
      ·subst hyz2
       have HPut:=hid (show ∀x∈L.take (i+1),x∈M from fun x hx=>by
        rcases HTk.out x hx with h | h
        ·exact h
        ·rw[h,HY.out];exact sO _)
       have b1:(y==y)=true:=by simp
       go_wp2_with fail;go_quiet (fail);obtain⟨wx,hwq⟩:∃W,W=wq.drewN nq:=⟨_,rfl⟩;have HBx:=hid (show sD wo.heap.size wo wx by rw[hwq];exact⟨HBq.out.os,HBq.out.tape,HBq.out.output,HBq.out.size,HBq.out.block⟩)
       rw[<- hwq];clear hwq;go_wp2;go_roundw
       case rel=>exact⟨i+1,m,some ⟨g,0,none⟩,vc,M,rfl,by go_num,by omega,by omega,HM,hid (aB HOw.out HBx.out),HPut,hid (HBr0.out.trans (HBx.out.mono HBr0.out.size))⟩
       case measure=>simp[sP];omega
      ·have b1:(y==z)=false:=beq_eq_false_iff_ne.2 hyz2
       go_wp2_with fail;go_quiet (fail);obtain⟨wx,hwq⟩:∃W,W=wq.drewN nq:=⟨_,rfl⟩;have HBx:=hid (show sD wo.heap.size wo wx by rw[hwq];exact⟨HBq.out.os,HBq.out.tape,HBq.out.output,HBq.out.size,HBq.out.block⟩)
       rw[<- hwq];clear hwq;go_wp2_with fail;have HBr:=hid (HBr0.out.trans (HBx.out.mono HBr0.out.size));have HCz:=hid (show wx.cell? (ad.add i)=some (.int .i64 z) from(HBr.out.cell (p:=ad.add i) (by rw[add_blk];exact HAd.out)).trans HCz0.out)
       have HRM:=hid (HRM0.out.below HBx.out);have HPut:=hid (fun(x:Int) (hx:x∈L.take (i+1))=>zaj (M:=M) (k:=k) HTk.out x hx)
       have HLT:=hid (show k=(M.take k).length from by rw[ti,<- HM.out];omega)
       have HLD:=hid (show m - k=(M.drop k).length from by rw[sX,<- HM.out])
       have k3:(k:Int)<=(m:Int):=by omega
       have k4:(m:Int)<=(vc:Int):=by omega
       have k5:(k:Int)<=(vc:Int):=by omega
       have k6:¬vc<k:=by omega
       clear HBq c4 c5 c3 HY b1 hyz hyz2 d1 k1 HTk HCz0;obtain⟨v0,hv0⟩:∃v0,v0=wx.drew:=⟨_,rfl⟩;have HBv:=hid (show sD wx.heap.size wx v0 by rw[hv0];exact(sL _ _).drew)
       have HB0:=hid (sL v0.heap.size v0);have HT:=hid (fun(W:sG) (h:sD v0.heap.size v0 W)=>show W.cell? (ad.add i)=some (.int .i64 z)/\True from⟨(((HBv.out.trans (h.mono HBv.out.size))).cell (p:=ad.add i) (by rw[add_blk];exact sT HAd.out (HBr.out.size))).trans HCz.out,trivial⟩)
       have HB0s:=hid (show w3.heap.size<=v0.heap.size from tg HBr.out.size HBv.out.size)
       have HR0:=hid (fun(W:sG) (h:sD v0.heap.size v0 W)=>show RdI W (some ⟨g,0,none⟩) M from HRM.out.below (HBv.out.trans (h.mono HBv.out.size)))
       have HRT:=hid (fun(W:sG) (h:sD v0.heap.size v0 W)=>oL (n:=k) (HR0.out W h))
       have HRD0:=hid (fun(ao:Option Addr) (hao:ao=if vc=k then some ⟨g,0,none⟩ else some ⟨g,k,none⟩) (W:sG) (h:sD v0.heap.size v0 W)=>show RdI W ao (M.drop k) from by
        rw[hao]
        split
        ·rw[ta (by have:=HM.out;omega)];exact iT _ _
        ·have hd:=oM (n:=k) (HR0.out W h)
         rw[sH] at hd;exact hd)
       refine dj (.one 1 1 (.one 2 1 (.one 3 1 (.one 5 1 (.one 6 1 (.one 7 1 (.one 8 1 (.one 11 1 (.one 12 1 (.one 13 1 (.two 0 9 (.two 4 9 (.one 9 2 (.one 10 2 (.one 14 2 (.one 15 1 .nil)))) (.one 4 2 (.one 10 2 (.one 14 2 (.one 15 1 .nil))))) (.one 0 2 (.one 4 2 (.one 10 2 (.one 14 2 (.one 15 1 .nil)))))))))))))))) (fun _=>True) (fun W=>W.cell? (ad.add i)=some (.int .i64 z)/\True) (fun _=>false) (by kernel_rfl) (by kernel_rfl) (fun j hj=>by cases hj) rfl (by kernel_rfl) trivial (HT.out _ (by rw[hv0];exact sL _ _)) ?_
       rw[<- hv0];clear hv0
       iterate 10 (refine cM ?_ rfl (by kernel_rfl) (fun w' hS=>?_) ?_;(rotate_left;(obtain⟨s1,_⟩:=hS;go_simp;with_reducible rfl);rotate_left))
       obtain⟨ao,hao⟩:∃ao,ao=(if vc=k then some (⟨g,0,none⟩:Addr) else some ⟨g,k,none⟩):=⟨_,rfl⟩;have HRD:=hid (HRD0.out ao hao)
       try rw[<- hao]
       clear hao HRD0;refine dO ?x0 ?x9
       case x0=>
        refine bH rfl (by kernel_rfl) fun KK hKK=>?_
        go_simp;have HB1:=hid (HB0.out.trans ((below_box (w:=v0) (o:=.cells #[] 3)).mono HB0.out.size));refine hKK _ _ (fun _=>trivial) (HT.out _ HB1.out) ?_
        clear hKK KK;obtain⟨v1,hv1⟩:∃W,W=v0.alloc (.cells #[] 3):=⟨_,rfl⟩;rw[<- hv1] at HB1;rw[<- hv1];have HZ1:=hid (show v1.heap.size=v0.heap.size+1 by rw[hv1];simp)
        have HW1:=hid (show v1.ownsRow v0.heap.size 3 1 (.slice (some ⟨v0.heap.size,0,none⟩) 0 0) 0 (bf []) by rw[hv1];exact aW (fH v0) HB0.out.size)
        have HK1:=hid (show sD v0.heap.size v0 v1 by rw[hv1];exact below_box)
        clear hv1;refine dO ?x04 ?x09
        case x04=>
         refine bH rfl (by kernel_rfl) fun KK hKK=>?_
         refine aL _ _ rfl v0.heap.size (.slice (some ⟨v0.heap.size,0,none⟩) 0 0) 0 [] rfl HW1.out (some ⟨g,0,none⟩) k vc (M.take k) rfl (HRT.out _ HB1.out) HLT.out (by omega) HB1.out.size ?_
         intro vo2 vc2 v2 o2 gr2 hb2;rw[sH] at o2 hb2⊢;have HB2:=hid (HB1.out.trans (aj HW1.out gr2 HB1.out.size));have HW2:=hid o2;have HG2:=hid gr2;have HBk2:=hid hb2;refine hKK _ _ (fun _=>trivial) (HT.out _ HB2.out) ?_
         clear hKK KK o2 gr2 hb2;refine aF rfl (by kernel_rfl) fun KK hKK=>?_
         go_simp;have HB3:=hid (HB2.out.trans ((below_box (w:=v2) (o:=.cells #[.int .i64 z] 3)).mono HB2.out.size));refine hKK _ _ (fun _=>trivial) (HT.out _ HB3.out) ?_
         clear hKK KK;obtain⟨v3,hv3⟩:∃W,W=v2.alloc (.cells #[.int .i64 z] 3):=⟨_,rfl⟩;rw[<- hv3] at HB3;rw[<- hv3];have HZ3:=hid (show v3.heap.size=v2.heap.size+1 by rw[hv3];simp)
         have HQ3:=hid (show v3.heap[v2.heap.size]? =some (.cells #[.int .i64 z] 3) by rw[hv3];exact heap_alloc_new _ _)
         have HK3:=hid (show sD v2.heap.size v2 v3 by rw[hv3];exact below_box)
         clear hv3;have HW3:=hid (aB HW2.out HK3.out);refine aF rfl (by kernel_rfl) fun KK hKK=>?_
         refine aL _ _ rfl v0.heap.size (.slice vo2 k vc2) k ([]++M.take k) rfl HW3.out (some ⟨v2.heap.size,0,none⟩) 1 1 [z] rfl (cq HQ3.out) rfl (by omega) HB3.out.size ?_
         intro vo4 vc4 v4 o4 gr4 hb4;have HB4:=hid (HB3.out.trans (aj HW3.out gr4 HB3.out.size));have HW4:=hid o4;have HG4:=hid gr4;have HBk4:=hid hb4;refine hKK _ _ (fun _=>trivial) (HT.out _ HB4.out) ?_
         clear hKK KK o4 gr4 hb4;refine aF rfl (by kernel_rfl) fun KK hKK=>?_
         refine aL _ _ rfl v0.heap.size (.slice vo4 (k+1) vc4) (k+1) ([]++M.take k++[z]) rfl HW4.out (ao) (m - k) (vc - k) (M.drop k) rfl (HRD.out _ HB4.out) HLD.out (by omega) HB4.out.size ?_
         intro vo5 vc5 v5 o5 gr5 hb5;have HB5:=hid (HB4.out.trans (aj HW4.out gr5 HB4.out.size));have HW5:=hid o5;have HG5:=hid gr5;have HBk5:=hid hb5;refine hKK _ _ (fun _=>trivial) (HT.out _ HB5.out) ?_
         clear hKK KK o5 gr5 hb5;refine cM ?_ rfl (by kernel_rfl) (fun w' hS=>?_) ?_;(rotate_left;(go_simp;with_reducible rfl);rotate_left)
         refine bZ (sK ?_);have HFin:=hid (show v5.ownsRow w3.heap.size 3 1 (.slice vo5 (m+1) vc5) (m+1) (bf (M.take k++[z]++M.drop k)) by
          have h1:=aW HW5.out HB0s.out;rw[show k+1+(m - k)=m+1 by omega,sI] at h1
          exact h1)
         have HFb:=hid (HBr.out.trans (HBv.out.trans (HB5.out.mono HBv.out.size) |>.mono HBr.out.size))
         have em:k+1+(m - k)=m+1:=by omega
         rw[em];clear em;go_wp2;go_roundw
         case rel=>exact⟨i+1,m+1,vo5,vc5,M.take k++[z]++M.drop k,rfl,by go_num,by omega,by omega,hid (by rw[iU M z (by rw[<- HM.out];exact hk),<- HM.out]),HFin,HPut,HFb⟩
         case measure=>simp[sP];omega
        case x09=>
         refine bH rfl (by kernel_rfl) fun KK hKK=>?_
         go_simp;have HB2:=hid (HB1.out.trans ((below_box (w:=v1) (o:=.cells #[.int .i64 z] 3)).mono HB1.out.size));refine hKK _ _ (fun _=>trivial) (HT.out _ HB2.out) ?_
         clear hKK KK;obtain⟨v2,hv2⟩:∃W,W=v1.alloc (.cells #[.int .i64 z] 3):=⟨_,rfl⟩;rw[<- hv2] at HB2;rw[<- hv2];have HZ2:=hid (show v2.heap.size=v1.heap.size+1 by rw[hv2];simp)
         have HQ2:=hid (show v2.heap[v1.heap.size]? =some (.cells #[.int .i64 z] 3) by rw[hv2];exact heap_alloc_new _ _)
         have HK2:=hid (show sD v1.heap.size v1 v2 by rw[hv2];exact below_box)
         clear hv2;have HW2:=hid (aB HW1.out HK2.out);refine aF rfl (by kernel_rfl) fun KK hKK=>?_
         refine aL _ _ rfl v0.heap.size (.slice (some ⟨v0.heap.size,0,none⟩) 0 0) 0 [] rfl HW2.out (some ⟨g,0,none⟩) k vc (M.take k) rfl (HRT.out _ HB2.out) HLT.out (by omega) HB2.out.size ?_
         intro vo3 vc3 v3 o3 gr3 hb3;rw[sH] at o3 hb3⊢;have HB3:=hid (HB2.out.trans (aj HW2.out gr3 HB2.out.size));have HW3:=hid o3;have HG3:=hid gr3;have HBk3:=hid hb3;have HQ3:=hid (mb HQ2.out gr3 (by simp[sN];have:=HZ2.out;have:=HZ1.out;omega))
         refine hKK _ _ (fun _=>trivial) (HT.out _ HB3.out) ?_
         clear hKK KK o3 gr3 hb3;refine aF rfl (by kernel_rfl) fun KK hKK=>?_
         refine aL _ _ rfl v0.heap.size (.slice vo3 k vc3) k ([]++M.take k) rfl HW3.out (some ⟨v1.heap.size,0,none⟩) 1 1 [z] rfl (cq HQ3.out) rfl (by omega) HB3.out.size ?_
         intro vo4 vc4 v4 o4 gr4 hb4;have HB4:=hid (HB3.out.trans (aj HW3.out gr4 HB3.out.size));have HW4:=hid o4;have HG4:=hid gr4;have HBk4:=hid hb4;refine hKK _ _ (fun _=>trivial) (HT.out _ HB4.out) ?_
         clear hKK KK o4 gr4 hb4;refine aF rfl (by kernel_rfl) fun KK hKK=>?_
         refine aL _ _ rfl v0.heap.size (.slice vo4 (k+1) vc4) (k+1) ([]++M.take k++[z]) rfl HW4.out (ao) (m - k) (vc - k) (M.drop k) rfl (HRD.out _ HB4.out) HLD.out (by omega) HB4.out.size ?_
         intro vo5 vc5 v5 o5 gr5 hb5;have HB5:=hid (HB4.out.trans (aj HW4.out gr5 HB4.out.size));have HW5:=hid o5;have HG5:=hid gr5;have HBk5:=hid hb5;refine hKK _ _ (fun _=>trivial) (HT.out _ HB5.out) ?_
         clear hKK KK o5 gr5 hb5;refine cM ?_ rfl (by kernel_rfl) (fun w' hS=>?_) ?_;(rotate_left;(go_simp;with_reducible rfl);rotate_left)
         refine bZ (sK ?_);have HFin:=hid (show v5.ownsRow w3.heap.size 3 1 (.slice vo5 (m+1) vc5) (m+1) (bf (M.take k++[z]++M.drop k)) by
          have h1:=aW HW5.out HB0s.out;rw[show k+1+(m - k)=m+1 by omega,sI] at h1
          exact h1)
         have HFb:=hid (HBr.out.trans (HBv.out.trans (HB5.out.mono HBv.out.size) |>.mono HBr.out.size))
         have em:k+1+(m - k)=m+1:=by omega
         rw[em];clear em;go_wp2;go_roundw
         case rel=>exact⟨i+1,m+1,vo5,vc5,M.take k++[z]++M.drop k,rfl,by go_num,by omega,by omega,hid (by rw[iU M z (by rw[<- HM.out];exact hk),<- HM.out]),HFin,HPut,HFb⟩
         case measure=>simp[sP];omega
       case x9=>
        refine bH rfl (by kernel_rfl) fun KK hKK=>?_
        go_simp;have HB1:=hid (HB0.out.trans ((below_box (w:=v0) (o:=.cells #[.int .i64 z] 3)).mono HB0.out.size));refine hKK _ _ (fun _=>trivial) (HT.out _ HB1.out) ?_
        clear hKK KK;obtain⟨v1,hv1⟩:∃W,W=v0.alloc (.cells #[.int .i64 z] 3):=⟨_,rfl⟩;rw[<- hv1] at HB1;rw[<- hv1];have HZ1:=hid (show v1.heap.size=v0.heap.size+1 by rw[hv1];simp)
        have HQ1:=hid (show v1.heap[v0.heap.size]? =some (.cells #[.int .i64 z] 3) by rw[hv1];exact heap_alloc_new _ _)
        have HK1:=hid (show sD v0.heap.size v0 v1 by rw[hv1];exact below_box)
        clear hv1;refine aF rfl (by kernel_rfl) fun KK hKK=>?_
        go_simp;have HB2:=hid (HB1.out.trans ((below_box (w:=v1) (o:=.cells #[] 3)).mono HB1.out.size));refine hKK _ _ (fun _=>trivial) (HT.out _ HB2.out) ?_
        clear hKK KK;obtain⟨v2,hv2⟩:∃W,W=v1.alloc (.cells #[] 3):=⟨_,rfl⟩;rw[<- hv2] at HB2;rw[<- hv2];have HZ2:=hid (show v2.heap.size=v1.heap.size+1 by rw[hv2];simp)
        have HW2:=hid (show v2.ownsRow v0.heap.size 3 1 (.slice (some ⟨v1.heap.size,0,none⟩) 0 0) 0 (bf []) by rw[hv2];exact aW (fH v1) HB1.out.size)
        have HK2:=hid (show sD v1.heap.size v1 v2 by rw[hv2];exact below_box)
        clear hv2;have HQ2:=hid ((HK2.out.block _ (ae HQ1.out)).trans HQ1.out);refine aF rfl (by kernel_rfl) fun KK hKK=>?_
        refine aL _ _ rfl v0.heap.size (.slice (some ⟨v1.heap.size,0,none⟩) 0 0) 0 [] rfl HW2.out (some ⟨g,0,none⟩) k vc (M.take k) rfl (HRT.out _ HB2.out) HLT.out (by omega) HB2.out.size ?_
        intro vo3 vc3 v3 o3 gr3 hb3;rw[sH] at o3 hb3⊢;have HB3:=hid (HB2.out.trans (aj HW2.out gr3 HB2.out.size));have HW3:=hid o3;have HG3:=hid gr3;have HBk3:=hid hb3;have HQ3:=hid (mb HQ2.out gr3 (by simp[sN];have:=HZ2.out;have:=HZ1.out;omega))
        refine hKK _ _ (fun _=>trivial) (HT.out _ HB3.out) ?_
        clear hKK KK o3 gr3 hb3;refine aF rfl (by kernel_rfl) fun KK hKK=>?_
        refine aL _ _ rfl v0.heap.size (.slice vo3 k vc3) k ([]++M.take k) rfl HW3.out (some ⟨v0.heap.size,0,none⟩) 1 1 [z] rfl (cq HQ3.out) rfl (by omega) HB3.out.size ?_
        intro vo4 vc4 v4 o4 gr4 hb4;have HB4:=hid (HB3.out.trans (aj HW3.out gr4 HB3.out.size));have HW4:=hid o4;have HG4:=hid gr4;have HBk4:=hid hb4;refine hKK _ _ (fun _=>trivial) (HT.out _ HB4.out) ?_
        clear hKK KK o4 gr4 hb4;refine aF rfl (by kernel_rfl) fun KK hKK=>?_
        refine aL _ _ rfl v0.heap.size (.slice vo4 (k+1) vc4) (k+1) ([]++M.take k++[z]) rfl HW4.out (ao) (m - k) (vc - k) (M.drop k) rfl (HRD.out _ HB4.out) HLD.out (by omega) HB4.out.size ?_
        intro vo5 vc5 v5 o5 gr5 hb5;have HB5:=hid (HB4.out.trans (aj HW4.out gr5 HB4.out.size));have HW5:=hid o5;have HG5:=hid gr5;have HBk5:=hid hb5;refine hKK _ _ (fun _=>trivial) (HT.out _ HB5.out) ?_
        clear hKK KK o5 gr5 hb5;refine cM ?_ rfl (by kernel_rfl) (fun w' hS=>?_) ?_;(rotate_left;(go_simp;with_reducible rfl);rotate_left)
        refine bZ (sK ?_);have HFin:=hid (show v5.ownsRow w3.heap.size 3 1 (.slice vo5 (m+1) vc5) (m+1) (bf (M.take k++[z]++M.drop k)) by
         have h1:=aW HW5.out HB0s.out;rw[show k+1+(m - k)=m+1 by omega,sI] at h1
         exact h1)
        have HFb:=hid (HBr.out.trans (HBv.out.trans (HB5.out.mono HBv.out.size) |>.mono HBr.out.size))
        have em:k+1+(m - k)=m+1:=by omega
        rw[em];clear em;go_wp2;go_roundw
        case rel=>exact⟨i+1,m+1,vo5,vc5,M.take k++[z]++M.drop k,rfl,by go_num,by omega,by omega,hid (by rw[iU M z (by rw[<- HM.out];exact hk),<- HM.out]),HFin,HPut,HFb⟩
        case measure=>simp[sP];omega
    ·have k1:¬(k:Int)<(m:Int):=by omega
     have hkm2:k=m:=by omega
     rcases HOw.out.2 with ⟨h1,h2⟩ | ⟨g,cap,cur,h1,h2,h3,h4,h5⟩
     ·cases h1
      obtain rfl:k=0:=by omega
      obtain rfl:M=[]:=sY.1 HM.out.symm;clear hkm2 HRM0 HOw h2;go_wp2_with fail;go_quiet (fail);obtain⟨wq,hwq⟩:∃W,W=wr.drewN nq:=⟨_,rfl⟩;have HBq:=hid (show sD wo.heap.size wo wq by rw[hwq];exact⟨HB.out.os,HB.out.tape,HB.out.output,HB.out.size,HB.out.block⟩)
      rw[<- hwq];clear hwq;go_wp2_with fail;go_quiet (fail);obtain⟨wx,hwq⟩:∃W,W=wq.drewN nq:=⟨_,rfl⟩;have HBx:=hid (show sD wo.heap.size wo wx by rw[hwq];exact⟨HBq.out.os,HBq.out.tape,HBq.out.output,HBq.out.size,HBq.out.block⟩)
      rw[<- hwq];clear hwq;go_wp2_with fail;have HBr:=hid (HBr0.out.trans (HBx.out.mono HBr0.out.size));have HCz:=hid (show wx.cell? (ad.add i)=some (.int .i64 z) from(HBr.out.cell (p:=ad.add i) (by rw[add_blk];exact HAd.out)).trans HCz0.out)
      have HPut:=hid (fun(x:Int) (hx:x∈L.take (i+1))=>zaj (M:=[]) (k:=0) HTk.out x hx)
      have HLT:=hid (show 0=(([]:List Int).take 0).length from rfl)
      have HLD:=hid (show 0 - 0=(([]:List Int).drop 0).length from rfl)
      clear HBq k1 HTk HCz0;obtain⟨v0,hv0⟩:∃v0,v0=wx.drew:=⟨_,rfl⟩;have HBv:=hid (show sD wx.heap.size wx v0 by rw[hv0];exact(sL _ _).drew)
      have HB0:=hid (sL v0.heap.size v0);have HT:=hid (fun(W:sG) (h:sD v0.heap.size v0 W)=>show W.cell? (ad.add i)=some (.int .i64 z)/\True from⟨(((HBv.out.trans (h.mono HBv.out.size))).cell (p:=ad.add i) (by rw[add_blk];exact sT HAd.out (HBr.out.size))).trans HCz.out,trivial⟩)
      have HB0s:=hid (show w3.heap.size<=v0.heap.size from tg HBr.out.size HBv.out.size)
      have HRT:=hid (fun(W:sG) (_:sD v0.heap.size v0 W)=>show RdI W none (([]:List Int).take 0) from by rw[List.take_nil];exact iT _ _)
      have HRD:=hid (fun(W:sG) (_:sD v0.heap.size v0 W)=>show RdI W none (([]:List Int).drop 0) from by rw[List.drop_nil];exact iT _ _)
      refine dj (.one 1 1 (.one 2 1 (.one 3 1 (.one 5 1 (.one 6 1 (.one 7 1 (.one 8 1 (.one 11 1 (.one 12 1 (.one 13 1 (.two 0 9 (.two 4 9 (.one 9 2 (.one 10 2 (.one 14 2 (.one 15 1 .nil)))) (.one 4 2 (.one 10 2 (.one 14 2 (.one 15 1 .nil))))) (.one 0 2 (.one 4 2 (.one 10 2 (.one 14 2 (.one 15 1 .nil)))))))))))))))) (fun _=>True) (fun W=>W.cell? (ad.add i)=some (.int .i64 z)/\True) (fun _=>false) (by kernel_rfl) (by kernel_rfl) (fun j hj=>by cases hj) rfl (by kernel_rfl) trivial (HT.out _ (by rw[hv0];exact sL _ _)) ?_
      rw[<- hv0];clear hv0
      iterate 10 (refine cM ?_ rfl (by kernel_rfl) (fun w' hS=>?_) ?_;(rotate_left;(obtain⟨s1,_⟩:=hS;go_simp;with_reducible rfl);rotate_left))
      refine dO ?x0 ?x9
      case x0=>
       refine bH rfl (by kernel_rfl) fun KK hKK=>?_
       go_simp;have HB1:=hid (HB0.out.trans ((below_box (w:=v0) (o:=.cells #[] 3)).mono HB0.out.size));refine hKK _ _ (fun _=>trivial) (HT.out _ HB1.out) ?_
       clear hKK KK;obtain⟨v1,hv1⟩:∃W,W=v0.alloc (.cells #[] 3):=⟨_,rfl⟩;rw[<- hv1] at HB1;rw[<- hv1];have HZ1:=hid (show v1.heap.size=v0.heap.size+1 by rw[hv1];simp)
       have HW1:=hid (show v1.ownsRow v0.heap.size 3 1 (.slice (some ⟨v0.heap.size,0,none⟩) 0 0) 0 (bf []) by rw[hv1];exact aW (fH v0) HB0.out.size)
       have HK1:=hid (show sD v0.heap.size v0 v1 by rw[hv1];exact below_box)
       clear hv1;refine dO ?x04 ?x09
       case x04=>
        refine bH rfl (by kernel_rfl) fun KK hKK=>?_
        refine aL _ _ rfl v0.heap.size (.slice (some ⟨v0.heap.size,0,none⟩) 0 0) 0 [] rfl HW1.out (none) 0 0 (([]:List Int).take 0) rfl (HRT.out _ HB1.out) HLT.out (by omega) HB1.out.size ?_
        intro vo2 vc2 v2 o2 gr2 hb2;rw[sH] at o2 hb2⊢;have HB2:=hid (HB1.out.trans (aj HW1.out gr2 HB1.out.size));have HW2:=hid o2;have HG2:=hid gr2;have HBk2:=hid hb2;refine hKK _ _ (fun _=>trivial) (HT.out _ HB2.out) ?_
        clear hKK KK o2 gr2 hb2;refine aF rfl (by kernel_rfl) fun KK hKK=>?_
        go_simp;have HB3:=hid (HB2.out.trans ((below_box (w:=v2) (o:=.cells #[.int .i64 z] 3)).mono HB2.out.size));refine hKK _ _ (fun _=>trivial) (HT.out _ HB3.out) ?_
        clear hKK KK;obtain⟨v3,hv3⟩:∃W,W=v2.alloc (.cells #[.int .i64 z] 3):=⟨_,rfl⟩;rw[<- hv3] at HB3;rw[<- hv3];have HZ3:=hid (show v3.heap.size=v2.heap.size+1 by rw[hv3];simp)
        have HQ3:=hid (show v3.heap[v2.heap.size]? =some (.cells #[.int .i64 z] 3) by rw[hv3];exact heap_alloc_new _ _)
        have HK3:=hid (show sD v2.heap.size v2 v3 by rw[hv3];exact below_box)
        clear hv3;have HW3:=hid (aB HW2.out HK3.out);refine aF rfl (by kernel_rfl) fun KK hKK=>?_
        refine aL _ _ rfl v0.heap.size (.slice vo2 0 vc2) 0 ([]++([]:List Int).take 0) rfl HW3.out (some ⟨v2.heap.size,0,none⟩) 1 1 [z] rfl (cq HQ3.out) rfl (by omega) HB3.out.size ?_
        intro vo4 vc4 v4 o4 gr4 hb4;have HB4:=hid (HB3.out.trans (aj HW3.out gr4 HB3.out.size));have HW4:=hid o4;have HG4:=hid gr4;have HBk4:=hid hb4;refine hKK _ _ (fun _=>trivial) (HT.out _ HB4.out) ?_
        clear hKK KK o4 gr4 hb4;refine aF rfl (by kernel_rfl) fun KK hKK=>?_
        refine aL _ _ rfl v0.heap.size (.slice vo4 (0+1) vc4) (0+1) ([]++([]:List Int).take 0++[z]) rfl HW4.out (none) (0 - 0) 0 (([]:List Int).drop 0) rfl (HRD.out _ HB4.out) HLD.out (by omega) HB4.out.size ?_
        intro vo5 vc5 v5 o5 gr5 hb5;have HB5:=hid (HB4.out.trans (aj HW4.out gr5 HB4.out.size));have HW5:=hid o5;have HG5:=hid gr5;have HBk5:=hid hb5;refine hKK _ _ (fun _=>trivial) (HT.out _ HB5.out) ?_
        clear hKK KK o5 gr5 hb5;refine cM ?_ rfl (by kernel_rfl) (fun w' hS=>?_) ?_;(rotate_left;(go_simp;with_reducible rfl);rotate_left)
        refine bZ (sK ?_);have HFin:=hid (show v5.ownsRow w3.heap.size 3 1 (.slice vo5 (0+1) vc5) (0+1) (bf (([]:List Int).take 0++[z]++([]:List Int).drop 0)) by
         have h1:=aW HW5.out HB0s.out;rw[show 0+1+(0 - 0)=0+1 by omega,sI] at h1
         exact h1)
        have HFb:=hid (HBr.out.trans (HBv.out.trans (HB5.out.mono HBv.out.size) |>.mono HBr.out.size))
        have em:0+1+(0 - 0)=0+1:=by omega
        rw[em];clear em;go_wp2;go_roundw
        case rel=>exact⟨i+1,0+1,vo5,vc5,([]:List Int).take 0++[z]++([]:List Int).drop 0,rfl,by go_num,by omega,by omega,hid (rfl),HFin,HPut,HFb⟩
        case measure=>simp[sP];omega
       case x09=>
        refine bH rfl (by kernel_rfl) fun KK hKK=>?_
        go_simp;have HB2:=hid (HB1.out.trans ((below_box (w:=v1) (o:=.cells #[.int .i64 z] 3)).mono HB1.out.size));refine hKK _ _ (fun _=>trivial) (HT.out _ HB2.out) ?_
        clear hKK KK;obtain⟨v2,hv2⟩:∃W,W=v1.alloc (.cells #[.int .i64 z] 3):=⟨_,rfl⟩;rw[<- hv2] at HB2;rw[<- hv2];have HZ2:=hid (show v2.heap.size=v1.heap.size+1 by rw[hv2];simp)
        have HQ2:=hid (show v2.heap[v1.heap.size]? =some (.cells #[.int .i64 z] 3) by rw[hv2];exact heap_alloc_new _ _)
        have HK2:=hid (show sD v1.heap.size v1 v2 by rw[hv2];exact below_box)
        clear hv2;have HW2:=hid (aB HW1.out HK2.out);refine aF rfl (by kernel_rfl) fun KK hKK=>?_
        refine aL _ _ rfl v0.heap.size (.slice (some ⟨v0.heap.size,0,none⟩) 0 0) 0 [] rfl HW2.out (none) 0 0 (([]:List Int).take 0) rfl (HRT.out _ HB2.out) HLT.out (by omega) HB2.out.size ?_
        intro vo3 vc3 v3 o3 gr3 hb3;rw[sH] at o3 hb3⊢;have HB3:=hid (HB2.out.trans (aj HW2.out gr3 HB2.out.size));have HW3:=hid o3;have HG3:=hid gr3;have HBk3:=hid hb3;have HQ3:=hid (mb HQ2.out gr3 (by simp[sN];have:=HZ2.out;have:=HZ1.out;omega))
        refine hKK _ _ (fun _=>trivial) (HT.out _ HB3.out) ?_
        clear hKK KK o3 gr3 hb3;refine aF rfl (by kernel_rfl) fun KK hKK=>?_
        refine aL _ _ rfl v0.heap.size (.slice vo3 0 vc3) 0 ([]++([]:List Int).take 0) rfl HW3.out (some ⟨v1.heap.size,0,none⟩) 1 1 [z] rfl (cq HQ3.out) rfl (by omega) HB3.out.size ?_
        intro vo4 vc4 v4 o4 gr4 hb4;have HB4:=hid (HB3.out.trans (aj HW3.out gr4 HB3.out.size));have HW4:=hid o4;have HG4:=hid gr4;have HBk4:=hid hb4;refine hKK _ _ (fun _=>trivial) (HT.out _ HB4.out) ?_
        clear hKK KK o4 gr4 hb4;refine aF rfl (by kernel_rfl) fun KK hKK=>?_
        refine aL _ _ rfl v0.heap.size (.slice vo4 (0+1) vc4) (0+1) ([]++([]:List Int).take 0++[z]) rfl HW4.out (none) (0 - 0) 0 (([]:List Int).drop 0) rfl (HRD.out _ HB4.out) HLD.out (by omega) HB4.out.size ?_
        intro vo5 vc5 v5 o5 gr5 hb5;have HB5:=hid (HB4.out.trans (aj HW4.out gr5 HB4.out.size));have HW5:=hid o5;have HG5:=hid gr5;have HBk5:=hid hb5;refine hKK _ _ (fun _=>trivial) (HT.out _ HB5.out) ?_
        clear hKK KK o5 gr5 hb5;refine cM ?_ rfl (by kernel_rfl) (fun w' hS=>?_) ?_;(rotate_left;(go_simp;with_reducible rfl);rotate_left)
        refine bZ (sK ?_);have HFin:=hid (show v5.ownsRow w3.heap.size 3 1 (.slice vo5 (0+1) vc5) (0+1) (bf (([]:List Int).take 0++[z]++([]:List Int).drop 0)) by
         have h1:=aW HW5.out HB0s.out;rw[show 0+1+(0 - 0)=0+1 by omega,sI] at h1
         exact h1)
        have HFb:=hid (HBr.out.trans (HBv.out.trans (HB5.out.mono HBv.out.size) |>.mono HBr.out.size))
        have em:0+1+(0 - 0)=0+1:=by omega
        rw[em];clear em;go_wp2;go_roundw
        case rel=>exact⟨i+1,0+1,vo5,vc5,([]:List Int).take 0++[z]++([]:List Int).drop 0,rfl,by go_num,by omega,by omega,hid (rfl),HFin,HPut,HFb⟩
        case measure=>simp[sP];omega
      case x9=>
       refine bH rfl (by kernel_rfl) fun KK hKK=>?_
       go_simp;have HB1:=hid (HB0.out.trans ((below_box (w:=v0) (o:=.cells #[.int .i64 z] 3)).mono HB0.out.size));refine hKK _ _ (fun _=>trivial) (HT.out _ HB1.out) ?_
       clear hKK KK;obtain⟨v1,hv1⟩:∃W,W=v0.alloc (.cells #[.int .i64 z] 3):=⟨_,rfl⟩;rw[<- hv1] at HB1;rw[<- hv1];have HZ1:=hid (show v1.heap.size=v0.heap.size+1 by rw[hv1];simp)
       have HQ1:=hid (show v1.heap[v0.heap.size]? =some (.cells #[.int .i64 z] 3) by rw[hv1];exact heap_alloc_new _ _)
       have HK1:=hid (show sD v0.heap.size v0 v1 by rw[hv1];exact below_box)
       clear hv1;refine aF rfl (by kernel_rfl) fun KK hKK=>?_
       go_simp;have HB2:=hid (HB1.out.trans ((below_box (w:=v1) (o:=.cells #[] 3)).mono HB1.out.size));refine hKK _ _ (fun _=>trivial) (HT.out _ HB2.out) ?_
       clear hKK KK;obtain⟨v2,hv2⟩:∃W,W=v1.alloc (.cells #[] 3):=⟨_,rfl⟩;rw[<- hv2] at HB2;rw[<- hv2];have HZ2:=hid (show v2.heap.size=v1.heap.size+1 by rw[hv2];simp)
       have HW2:=hid (show v2.ownsRow v0.heap.size 3 1 (.slice (some ⟨v1.heap.size,0,none⟩) 0 0) 0 (bf []) by rw[hv2];exact aW (fH v1) HB1.out.size)
       have HK2:=hid (show sD v1.heap.size v1 v2 by rw[hv2];exact below_box)
       clear hv2;have HQ2:=hid ((HK2.out.block _ (ae HQ1.out)).trans HQ1.out);refine aF rfl (by kernel_rfl) fun KK hKK=>?_
       refine aL _ _ rfl v0.heap.size (.slice (some ⟨v1.heap.size,0,none⟩) 0 0) 0 [] rfl HW2.out (none) 0 0 (([]:List Int).take 0) rfl (HRT.out _ HB2.out) HLT.out (by omega) HB2.out.size ?_
       intro vo3 vc3 v3 o3 gr3 hb3;rw[sH] at o3 hb3⊢;have HB3:=hid (HB2.out.trans (aj HW2.out gr3 HB2.out.size));have HW3:=hid o3;have HG3:=hid gr3;have HBk3:=hid hb3;have HQ3:=hid (mb HQ2.out gr3 (by simp[sN];have:=HZ2.out;have:=HZ1.out;omega))
       refine hKK _ _ (fun _=>trivial) (HT.out _ HB3.out) ?_
       clear hKK KK o3 gr3 hb3;refine aF rfl (by kernel_rfl) fun KK hKK=>?_
       refine aL _ _ rfl v0.heap.size (.slice vo3 0 vc3) 0 ([]++([]:List Int).take 0) rfl HW3.out (some ⟨v0.heap.size,0,none⟩) 1 1 [z] rfl (cq HQ3.out) rfl (by omega) HB3.out.size ?_
       intro vo4 vc4 v4 o4 gr4 hb4;have HB4:=hid (HB3.out.trans (aj HW3.out gr4 HB3.out.size));have HW4:=hid o4;have HG4:=hid gr4;have HBk4:=hid hb4;refine hKK _ _ (fun _=>trivial) (HT.out _ HB4.out) ?_
       clear hKK KK o4 gr4 hb4;refine aF rfl (by kernel_rfl) fun KK hKK=>?_
       refine aL _ _ rfl v0.heap.size (.slice vo4 (0+1) vc4) (0+1) ([]++([]:List Int).take 0++[z]) rfl HW4.out (none) (0 - 0) 0 (([]:List Int).drop 0) rfl (HRD.out _ HB4.out) HLD.out (by omega) HB4.out.size ?_
       intro vo5 vc5 v5 o5 gr5 hb5;have HB5:=hid (HB4.out.trans (aj HW4.out gr5 HB4.out.size));have HW5:=hid o5;have HG5:=hid gr5;have HBk5:=hid hb5;refine hKK _ _ (fun _=>trivial) (HT.out _ HB5.out) ?_
       clear hKK KK o5 gr5 hb5;refine cM ?_ rfl (by kernel_rfl) (fun w' hS=>?_) ?_;(rotate_left;(go_simp;with_reducible rfl);rotate_left)
       refine bZ (sK ?_);have HFin:=hid (show v5.ownsRow w3.heap.size 3 1 (.slice vo5 (0+1) vc5) (0+1) (bf (([]:List Int).take 0++[z]++([]:List Int).drop 0)) by
        have h1:=aW HW5.out HB0s.out;rw[show 0+1+(0 - 0)=0+1 by omega,sI] at h1
        exact h1)
       have HFb:=hid (HBr.out.trans (HBv.out.trans (HB5.out.mono HBv.out.size) |>.mono HBr.out.size))
       have em:0+1+(0 - 0)=0+1:=by omega
       rw[em];clear em;go_wp2;go_roundw
       case rel=>exact⟨i+1,0+1,vo5,vc5,([]:List Int).take 0++[z]++([]:List Int).drop 0,rfl,by go_num,by omega,by omega,hid (rfl),HFin,HPut,HFb⟩
       case measure=>simp[sP];omega
     ·cases h1
      have HKM:=hid hkm2;clear hkm2 h2 h3 h4 h5;go_wp2_with fail;go_quiet (fail);obtain⟨wq,hwq⟩:∃W,W=wr.drewN nq:=⟨_,rfl⟩;have HBq:=hid (show sD wo.heap.size wo wq by rw[hwq];exact⟨HB.out.os,HB.out.tape,HB.out.output,HB.out.size,HB.out.block⟩)
      rw[<- hwq];clear hwq;go_wp2_with fail;go_quiet (fail);obtain⟨wx,hwq⟩:∃W,W=wq.drewN nq:=⟨_,rfl⟩;have HBx:=hid (show sD wo.heap.size wo wx by rw[hwq];exact⟨HBq.out.os,HBq.out.tape,HBq.out.output,HBq.out.size,HBq.out.block⟩)
      rw[<- hwq];clear hwq;go_wp2_with fail;have HBr:=hid (HBr0.out.trans (HBx.out.mono HBr0.out.size));have HCz:=hid (show wx.cell? (ad.add i)=some (.int .i64 z) from(HBr.out.cell (p:=ad.add i) (by rw[add_blk];exact HAd.out)).trans HCz0.out)
      have HRM:=hid (HRM0.out.below HBx.out);have HPut:=hid (fun(x:Int) (hx:x∈L.take (i+1))=>zaj (M:=M) (k:=k) HTk.out x hx)
      have HLT:=hid (show k=(M.take k).length from by rw[ti,<- HM.out];omega)
      have HLD:=hid (show m - k=(M.drop k).length from by rw[sX,<- HM.out])
      have k3:(k:Int)<=(m:Int):=by omega
      have k4:(m:Int)<=(vc:Int):=by omega
      have k5:(k:Int)<=(vc:Int):=by omega
      have k6:¬vc<k:=by omega
      clear HBq k1 HTk HCz0;obtain⟨v0,hv0⟩:∃v0,v0=wx.drew:=⟨_,rfl⟩;have HBv:=hid (show sD wx.heap.size wx v0 by rw[hv0];exact(sL _ _).drew)
      have HB0:=hid (sL v0.heap.size v0);have HT:=hid (fun(W:sG) (h:sD v0.heap.size v0 W)=>show W.cell? (ad.add i)=some (.int .i64 z)/\True from⟨(((HBv.out.trans (h.mono HBv.out.size))).cell (p:=ad.add i) (by rw[add_blk];exact sT HAd.out (HBr.out.size))).trans HCz.out,trivial⟩)
      have HB0s:=hid (show w3.heap.size<=v0.heap.size from tg HBr.out.size HBv.out.size)
      have HR0:=hid (fun(W:sG) (h:sD v0.heap.size v0 W)=>show RdI W (some ⟨g,0,none⟩) M from HRM.out.below (HBv.out.trans (h.mono HBv.out.size)))
      have HRT:=hid (fun(W:sG) (h:sD v0.heap.size v0 W)=>oL (n:=k) (HR0.out W h))
      have HRD0:=hid (fun(ao:Option Addr) (hao:ao=if vc=k then some ⟨g,0,none⟩ else some ⟨g,k,none⟩) (W:sG) (h:sD v0.heap.size v0 W)=>show RdI W ao (M.drop k) from by
       rw[hao]
       split
       ·rw[ta (by have:=HM.out;omega)];exact iT _ _
       ·have hd:=oM (n:=k) (HR0.out W h)
        rw[sH] at hd;exact hd)
      refine dj (.one 1 1 (.one 2 1 (.one 3 1 (.one 5 1 (.one 6 1 (.one 7 1 (.one 8 1 (.one 11 1 (.one 12 1 (.one 13 1 (.two 0 9 (.two 4 9 (.one 9 2 (.one 10 2 (.one 14 2 (.one 15 1 .nil)))) (.one 4 2 (.one 10 2 (.one 14 2 (.one 15 1 .nil))))) (.one 0 2 (.one 4 2 (.one 10 2 (.one 14 2 (.one 15 1 .nil)))))))))))))))) (fun _=>True) (fun W=>W.cell? (ad.add i)=some (.int .i64 z)/\True) (fun _=>false) (by kernel_rfl) (by kernel_rfl) (fun j hj=>by cases hj) rfl (by kernel_rfl) trivial (HT.out _ (by rw[hv0];exact sL _ _)) ?_
      rw[<- hv0];clear hv0
      iterate 10 (refine cM ?_ rfl (by kernel_rfl) (fun w' hS=>?_) ?_;(rotate_left;(obtain⟨s1,_⟩:=hS;go_simp;with_reducible rfl);rotate_left))
      obtain⟨ao,hao⟩:∃ao,ao=(if vc=k then some (⟨g,0,none⟩:Addr) else some ⟨g,k,none⟩):=⟨_,rfl⟩;have HRD:=hid (HRD0.out ao hao)
      try rw[<- hao]
      clear hao HRD0;refine dO ?x0 ?x9
      case x0=>
       refine bH rfl (by kernel_rfl) fun KK hKK=>?_
       go_simp;have HB1:=hid (HB0.out.trans ((below_box (w:=v0) (o:=.cells #[] 3)).mono HB0.out.size));refine hKK _ _ (fun _=>trivial) (HT.out _ HB1.out) ?_
       clear hKK KK;obtain⟨v1,hv1⟩:∃W,W=v0.alloc (.cells #[] 3):=⟨_,rfl⟩;rw[<- hv1] at HB1;rw[<- hv1];have HZ1:=hid (show v1.heap.size=v0.heap.size+1 by rw[hv1];simp)
       have HW1:=hid (show v1.ownsRow v0.heap.size 3 1 (.slice (some ⟨v0.heap.size,0,none⟩) 0 0) 0 (bf []) by rw[hv1];exact aW (fH v0) HB0.out.size)
       have HK1:=hid (show sD v0.heap.size v0 v1 by rw[hv1];exact below_box)
       clear hv1;refine dO ?x04 ?x09
       case x04=>
        refine bH rfl (by kernel_rfl) fun KK hKK=>?_
        refine aL _ _ rfl v0.heap.size (.slice (some ⟨v0.heap.size,0,none⟩) 0 0) 0 [] rfl HW1.out (some ⟨g,0,none⟩) k vc (M.take k) rfl (HRT.out _ HB1.out) HLT.out (by omega) HB1.out.size ?_
        intro vo2 vc2 v2 o2 gr2 hb2;rw[sH] at o2 hb2⊢;have HB2:=hid (HB1.out.trans (aj HW1.out gr2 HB1.out.size));have HW2:=hid o2;have HG2:=hid gr2;have HBk2:=hid hb2;refine hKK _ _ (fun _=>trivial) (HT.out _ HB2.out) ?_
        clear hKK KK o2 gr2 hb2;refine aF rfl (by kernel_rfl) fun KK hKK=>?_
        go_simp;have HB3:=hid (HB2.out.trans ((below_box (w:=v2) (o:=.cells #[.int .i64 z] 3)).mono HB2.out.size));refine hKK _ _ (fun _=>trivial) (HT.out _ HB3.out) ?_
        clear hKK KK;obtain⟨v3,hv3⟩:∃W,W=v2.alloc (.cells #[.int .i64 z] 3):=⟨_,rfl⟩;rw[<- hv3] at HB3;rw[<- hv3];have HZ3:=hid (show v3.heap.size=v2.heap.size+1 by rw[hv3];simp)
        have HQ3:=hid (show v3.heap[v2.heap.size]? =some (.cells #[.int .i64 z] 3) by rw[hv3];exact heap_alloc_new _ _)
        have HK3:=hid (show sD v2.heap.size v2 v3 by rw[hv3];exact below_box)
        clear hv3;have HW3:=hid (aB HW2.out HK3.out);refine aF rfl (by kernel_rfl) fun KK hKK=>?_
        refine aL _ _ rfl v0.heap.size (.slice vo2 k vc2) k ([]++M.take k) rfl HW3.out (some ⟨v2.heap.size,0,none⟩) 1 1 [z] rfl (cq HQ3.out) rfl (by omega) HB3.out.size ?_
        intro vo4 vc4 v4 o4 gr4 hb4;have HB4:=hid (HB3.out.trans (aj HW3.out gr4 HB3.out.size));have HW4:=hid o4;have HG4:=hid gr4;have HBk4:=hid hb4;refine hKK _ _ (fun _=>trivial) (HT.out _ HB4.out) ?_
        clear hKK KK o4 gr4 hb4;refine aF rfl (by kernel_rfl) fun KK hKK=>?_
        refine aL _ _ rfl v0.heap.size (.slice vo4 (k+1) vc4) (k+1) ([]++M.take k++[z]) rfl HW4.out (ao) (m - k) (vc - k) (M.drop k) rfl (HRD.out _ HB4.out) HLD.out (by omega) HB4.out.size ?_
        intro vo5 vc5 v5 o5 gr5 hb5;have HB5:=hid (HB4.out.trans (aj HW4.out gr5 HB4.out.size));have HW5:=hid o5;have HG5:=hid gr5;have HBk5:=hid hb5;refine hKK _ _ (fun _=>trivial) (HT.out _ HB5.out) ?_
        clear hKK KK o5 gr5 hb5;refine cM ?_ rfl (by kernel_rfl) (fun w' hS=>?_) ?_;(rotate_left;(go_simp;with_reducible rfl);rotate_left)
        refine bZ (sK ?_);have HFin:=hid (show v5.ownsRow w3.heap.size 3 1 (.slice vo5 (m+1) vc5) (m+1) (bf (M.take k++[z]++M.drop k)) by
         have h1:=aW HW5.out HB0s.out;rw[show k+1+(m - k)=m+1 by omega,sI] at h1
         exact h1)
        have HFb:=hid (HBr.out.trans (HBv.out.trans (HB5.out.mono HBv.out.size) |>.mono HBr.out.size))
        have em:k+1+(m - k)=m+1:=by omega
        rw[em];clear em;go_wp2;go_roundw
        case rel=>exact⟨i+1,m+1,vo5,vc5,M.take k++[z]++M.drop k,rfl,by go_num,by omega,by omega,hid (by rw[iU M z (by rw[<- HM.out];exact hk),<- HM.out]),HFin,HPut,HFb⟩
        case measure=>simp[sP];omega
       case x09=>
        refine bH rfl (by kernel_rfl) fun KK hKK=>?_
        go_simp;have HB2:=hid (HB1.out.trans ((below_box (w:=v1) (o:=.cells #[.int .i64 z] 3)).mono HB1.out.size));refine hKK _ _ (fun _=>trivial) (HT.out _ HB2.out) ?_
        clear hKK KK;obtain⟨v2,hv2⟩:∃W,W=v1.alloc (.cells #[.int .i64 z] 3):=⟨_,rfl⟩;rw[<- hv2] at HB2;rw[<- hv2];have HZ2:=hid (show v2.heap.size=v1.heap.size+1 by rw[hv2];simp)
        have HQ2:=hid (show v2.heap[v1.heap.size]? =some (.cells #[.int .i64 z] 3) by rw[hv2];exact heap_alloc_new _ _)
        have HK2:=hid (show sD v1.heap.size v1 v2 by rw[hv2];exact below_box)
        clear hv2;have HW2:=hid (aB HW1.out HK2.out);refine aF rfl (by kernel_rfl) fun KK hKK=>?_
        refine aL _ _ rfl v0.heap.size (.slice (some ⟨v0.heap.size,0,none⟩) 0 0) 0 [] rfl HW2.out (some ⟨g,0,none⟩) k vc (M.take k) rfl (HRT.out _ HB2.out) HLT.out (by omega) HB2.out.size ?_
        intro vo3 vc3 v3 o3 gr3 hb3;rw[sH] at o3 hb3⊢;have HB3:=hid (HB2.out.trans (aj HW2.out gr3 HB2.out.size));have HW3:=hid o3;have HG3:=hid gr3;have HBk3:=hid hb3;have HQ3:=hid (mb HQ2.out gr3 (by simp[sN];have:=HZ2.out;have:=HZ1.out;omega))
        refine hKK _ _ (fun _=>trivial) (HT.out _ HB3.out) ?_
        clear hKK KK o3 gr3 hb3;refine aF rfl (by kernel_rfl) fun KK hKK=>?_
        refine aL _ _ rfl v0.heap.size (.slice vo3 k vc3) k ([]++M.take k) rfl HW3.out (some ⟨v1.heap.size,0,none⟩) 1 1 [z] rfl (cq HQ3.out) rfl (by omega) HB3.out.size ?_
        intro vo4 vc4 v4 o4 gr4 hb4;have HB4:=hid (HB3.out.trans (aj HW3.out gr4 HB3.out.size));have HW4:=hid o4;have HG4:=hid gr4;have HBk4:=hid hb4;refine hKK _ _ (fun _=>trivial) (HT.out _ HB4.out) ?_
        clear hKK KK o4 gr4 hb4;refine aF rfl (by kernel_rfl) fun KK hKK=>?_
        refine aL _ _ rfl v0.heap.size (.slice vo4 (k+1) vc4) (k+1) ([]++M.take k++[z]) rfl HW4.out (ao) (m - k) (vc - k) (M.drop k) rfl (HRD.out _ HB4.out) HLD.out (by omega) HB4.out.size ?_
        intro vo5 vc5 v5 o5 gr5 hb5;have HB5:=hid (HB4.out.trans (aj HW4.out gr5 HB4.out.size));have HW5:=hid o5;have HG5:=hid gr5;have HBk5:=hid hb5;refine hKK _ _ (fun _=>trivial) (HT.out _ HB5.out) ?_
        clear hKK KK o5 gr5 hb5;refine cM ?_ rfl (by kernel_rfl) (fun w' hS=>?_) ?_;(rotate_left;(go_simp;with_reducible rfl);rotate_left)
        refine bZ (sK ?_);have HFin:=hid (show v5.ownsRow w3.heap.size 3 1 (.slice vo5 (m+1) vc5) (m+1) (bf (M.take k++[z]++M.drop k)) by
         have h1:=aW HW5.out HB0s.out;rw[show k+1+(m - k)=m+1 by omega,sI] at h1
         exact h1)
        have HFb:=hid (HBr.out.trans (HBv.out.trans (HB5.out.mono HBv.out.size) |>.mono HBr.out.size))
        have em:k+1+(m - k)=m+1:=by omega
        rw[em];clear em;go_wp2;go_roundw
        case rel=>exact⟨i+1,m+1,vo5,vc5,M.take k++[z]++M.drop k,rfl,by go_num,by omega,by omega,hid (by rw[iU M z (by rw[<- HM.out];exact hk),<- HM.out]),HFin,HPut,HFb⟩
        case measure=>simp[sP];omega
      case x9=>
       refine bH rfl (by kernel_rfl) fun KK hKK=>?_
       go_simp;have HB1:=hid (HB0.out.trans ((below_box (w:=v0) (o:=.cells #[.int .i64 z] 3)).mono HB0.out.size));refine hKK _ _ (fun _=>trivial) (HT.out _ HB1.out) ?_
       clear hKK KK;obtain⟨v1,hv1⟩:∃W,W=v0.alloc (.cells #[.int .i64 z] 3):=⟨_,rfl⟩;rw[<- hv1] at HB1;rw[<- hv1];have HZ1:=hid (show v1.heap.size=v0.heap.size+1 by rw[hv1];simp)
       have HQ1:=hid (show v1.heap[v0.heap.size]? =some (.cells #[.int .i64 z] 3) by rw[hv1];exact heap_alloc_new _ _)
       have HK1:=hid (show sD v0.heap.size v0 v1 by rw[hv1];exact below_box)
       clear hv1;refine aF rfl (by kernel_rfl) fun KK hKK=>?_
       go_simp;have HB2:=hid (HB1.out.trans ((below_box (w:=v1) (o:=.cells #[] 3)).mono HB1.out.size));refine hKK _ _ (fun _=>trivial) (HT.out _ HB2.out) ?_
       clear hKK KK;obtain⟨v2,hv2⟩:∃W,W=v1.alloc (.cells #[] 3):=⟨_,rfl⟩;rw[<- hv2] at HB2;rw[<- hv2];have HZ2:=hid (show v2.heap.size=v1.heap.size+1 by rw[hv2];simp)
       have HW2:=hid (show v2.ownsRow v0.heap.size 3 1 (.slice (some ⟨v1.heap.size,0,none⟩) 0 0) 0 (bf []) by rw[hv2];exact aW (fH v1) HB1.out.size)
       have HK2:=hid (show sD v1.heap.size v1 v2 by rw[hv2];exact below_box)
       clear hv2;have HQ2:=hid ((HK2.out.block _ (ae HQ1.out)).trans HQ1.out);refine aF rfl (by kernel_rfl) fun KK hKK=>?_
       refine aL _ _ rfl v0.heap.size (.slice (some ⟨v1.heap.size,0,none⟩) 0 0) 0 [] rfl HW2.out (some ⟨g,0,none⟩) k vc (M.take k) rfl (HRT.out _ HB2.out) HLT.out (by omega) HB2.out.size ?_
       intro vo3 vc3 v3 o3 gr3 hb3;rw[sH] at o3 hb3⊢;have HB3:=hid (HB2.out.trans (aj HW2.out gr3 HB2.out.size));have HW3:=hid o3;have HG3:=hid gr3;have HBk3:=hid hb3;have HQ3:=hid (mb HQ2.out gr3 (by simp[sN];have:=HZ2.out;have:=HZ1.out;omega))
       refine hKK _ _ (fun _=>trivial) (HT.out _ HB3.out) ?_
       clear hKK KK o3 gr3 hb3;refine aF rfl (by kernel_rfl) fun KK hKK=>?_
       refine aL _ _ rfl v0.heap.size (.slice vo3 k vc3) k ([]++M.take k) rfl HW3.out (some ⟨v0.heap.size,0,none⟩) 1 1 [z] rfl (cq HQ3.out) rfl (by omega) HB3.out.size ?_
       intro vo4 vc4 v4 o4 gr4 hb4;have HB4:=hid (HB3.out.trans (aj HW3.out gr4 HB3.out.size));have HW4:=hid o4;have HG4:=hid gr4;have HBk4:=hid hb4;refine hKK _ _ (fun _=>trivial) (HT.out _ HB4.out) ?_
       clear hKK KK o4 gr4 hb4;refine aF rfl (by kernel_rfl) fun KK hKK=>?_
       refine aL _ _ rfl v0.heap.size (.slice vo4 (k+1) vc4) (k+1) ([]++M.take k++[z]) rfl HW4.out (ao) (m - k) (vc - k) (M.drop k) rfl (HRD.out _ HB4.out) HLD.out (by omega) HB4.out.size ?_
       intro vo5 vc5 v5 o5 gr5 hb5;have HB5:=hid (HB4.out.trans (aj HW4.out gr5 HB4.out.size));have HW5:=hid o5;have HG5:=hid gr5;have HBk5:=hid hb5;refine hKK _ _ (fun _=>trivial) (HT.out _ HB5.out) ?_
       clear hKK KK o5 gr5 hb5;refine cM ?_ rfl (by kernel_rfl) (fun w' hS=>?_) ?_;(rotate_left;(go_simp;with_reducible rfl);rotate_left)
       refine bZ (sK ?_);have HFin:=hid (show v5.ownsRow w3.heap.size 3 1 (.slice vo5 (m+1) vc5) (m+1) (bf (M.take k++[z]++M.drop k)) by
        have h1:=aW HW5.out HB0s.out;rw[show k+1+(m - k)=m+1 by omega,sI] at h1
        exact h1)
       have HFb:=hid (HBr.out.trans (HBv.out.trans (HB5.out.mono HBv.out.size) |>.mono HBr.out.size))
       have em:k+1+(m - k)=m+1:=by omega
       rw[em];clear em;go_wp2;go_roundw
       case rel=>exact⟨i+1,m+1,vo5,vc5,M.take k++[z]++M.drop k,rfl,by go_num,by omega,by omega,hid (by rw[iU M z (by rw[<- HM.out];exact hk),<- HM.out]),HFin,HPut,HFb⟩
       case measure=>simp[sP];omega
  ·have i1:¬(i:Int)<(n:Int):=by omega
   have HQ:=hid (show FlQ p w (.returned (.slice vo m vc)) wr from⟨vo,vc,M,by rw[HM.out],zji HOw.out HM.out HB3.out.size,HF.out.mono fun x hx=>HIn.out x (by rw[List.take_of_length_le (by have:=HNn.out;omega)];exact hx),by have:=HM.out;omega,HB3.out.trans (HBr0.out.mono HB3.out.size)⟩)
   go_wp2;go_ret;exact HQ.out
end Pt
end
end Go.Proofs.YtbbapnpdfcgjnaaGreatDoor
