/- SdApp, SdFst, SdFsl: parts of the proof, joined. -/
import Derived.Test.YtbbapnpdfcgjnaaGreatDoorESdCopy
import Derived.Test.YtbbapnpdfcgjnaaGreatDoorESdSome
open Go.RowKit renaming Below->sR, intOf->td
open List renaming getElem?_eq_getElem->sS, nil_append->sV, mem_append_left->sW, mem_append_right->sZ, getElem_mem->tc, getElem?_eq_some_iff->tj, getElem?_map->tk, length_drop->tp, length_eq_zero_iff->tq, drop_of_length_le->tt, getElem_of_mem->tA, length_append->tB, length_take->tD, mem_append->tF
open Go renaming World->sT, Value->te, Calls->tw, cell_of_row->tz
open Nat renaming zero_add->sU, zero_le->tg, lt_of_lt_of_le->ti, le_trans->tC, le_refl->tE, lt_or_ge->tG
open Go.NoPanic renaming normal->sX
open Go.RowKit.Below renaming refl->sY
open Go.Value renaming ownBlock->ta, slice->tf
open Go.World renaming ownsRow_nil->tn
open Go.Addr renaming add_lit->tr
open Go.Builtin renaming append_->tu
set_option maxHeartbeats 64000000
namespace Go.Proofs.YtbbapnpdfcgjnaaGreatDoor
section
open Go.RowKit
namespace Pt
theorem znL(L M:List Int):bf (L++M)=bf L++bf M:=List.map_append ..
theorem zlt{B:Nat}{w:sT}(ty:TypeId){v:te}{n:Nat}{X:List Int}(hown:w.ownsRow B 3 1 v n (bf X)){fo:Option Addr}{fn fc:Nat}{F:List Int}(hF:RdI w fo F)(hfn:fn=F.length)(hl:n+fn<=1000000000000)(hB:B<=w.heap.size):
  ∃vo vc w',(tu #[23,23] ty #[v,.slice fo fn fc]).run Tryz.prog w=.ok (.slice vo (n+fn) vc) w'/\w'.ownsRow B 3 1 (.slice vo (n+fn) vc) (n+fn) (bf (X++F))/\w.grownBy w' v.ownBlock/\((tf vo (n+fn) vc).ownBlock=v.ownBlock\/(tf vo (n+fn) vc).ownBlock=some w.heap.size):=by
 obtain⟨i,hi,hz,hsize,hby⟩:=info_parts Tryz.info3
 by_cases h0:fn=0
 ·subst h0
  have hF0:F=[]:=List.eq_nil_of_length_eq_zero hfn.symm;subst hF0;have hs:Src Tryz.prog i.size 23 (.slice fo 0 fc) 0 [] w:=by
   cases fo with
   |none=>exact Src.ofNil w Tryz.underlying23 fc
   |some a=>exact Src.ofSlice w Tryz.underlying23 a 0 fc [] (by simp) (fun j u hj=>by simp at hj) (fun u hu=>by simp at hu)
  rw[List.append_nil];have hg:w.grownBy w v.ownBlock:=⟨rfl,rfl,rfl,tE _,fun _ _ _=>rfl⟩
  rcases hown.2 with ⟨h1,h2⟩|⟨g,cap,cur,h1,h2,h3,h4,h5⟩
  ·subst h1 h2
   refine⟨none,0,w,?_,hown,hg,.inl rfl⟩
   simp[tu,run_underlying Tryz.underlying23,sizeOf,typeInfo,hi,hs.len,hs.cells]
  ·subst h1
   refine⟨some ⟨g,0,none⟩,cap,w,?_,hown,hg,.inl rfl⟩
   simp[tu,run_underlying Tryz.underlying23,sizeOf,typeInfo,hi,hs.len,hs.cells,storeCells,h4]
 ·obtain⟨a,rfl,_,_⟩:=hF 0 F[0] (sS (by omega))
  obtain⟨g,cap,w',hr,h2,h3,h4,h5⟩:=run_append_lies (P:=Tryz.prog) w 23 ty B 3 i (.int .i64 0) 1 8 Tryz.underlying23 hi hz hsize hby rfl (by decide) v n (bf X) hown a fn fc (bf F) (by rw[zex,hfn,Nat.mul_one]) (fun j u hj=>by
   unfold bf at hj;rw[tk]at hj;obtain⟨z,hz1,hz2⟩:=Option.map_eq_some_iff.1 hj;obtain⟨a',e,_,h⟩:=hF j z hz1
   cases e
   rw[h,hz2]) (zew F) (by omega) (by unfold maxLen;omega) (by omega) hB w.heap.size rfl
  refine⟨some ⟨g,0,none⟩,cap,w',hr,by rw[znL];exact h2,h3,?_⟩
  rcases h4 with h|h
  ·exact .inl (by rw[h];rfl)
  ·exact .inr (by rw[h];rfl)
theorem aN{w:sT}{o:Oper}{a:Act}{K:Act->sT->Prop}{Q:Exit->Act->sT->Prop}(s x:Operand)(ho:o.op=.call {callee:=.builtin .append,args:=#[s,x],argTypes:=#[23,23]})(B:Nat)(v:te)(n:Nat)(X:List Int)(hs:a.eval s=v)(hown:w.ownsRow B 3 1 v n (bf X))(fo:Option Addr)(fn fc:Nat)(F:List Int)(hx:a.eval x=.slice fo fn fc)(hF:RdI w fo F)(hfn:fn=F.length)(hl:n+fn<=1000000000000)(hB:B<=w.heap.size)
  (h:∀vo vc w',w'.ownsRow B 3 1 (.slice vo (n+fn) vc) (n+fn) (bf (X++F))->w.grownBy w' v.ownBlock->((tf vo (n+fn) vc).ownBlock=v.ownBlock\/(tf vo (n+fn) vc).ownBlock=some w.heap.size)->K (a.put o.dst (.slice vo (n+fn) vc)) w'):o.wp Tryz.prog a w K Q:=by
 obtain⟨vo,vc,w',hr,h2,h3,h4⟩:=zlt o.type hown (fc:=fc) hF hfn hl hB;unfold Oper.wp execOp
 simp only[ho,resolve,invoke,builtin,Sem.run_bind,Sem.run_pure,Result.andThen_ok,List.map_toArray,List.map_cons,List.map_nil,hs,hx,hr]
 exact h vo vc w' h2 h3 h4
theorem cD{w:sT}{ops:Array Oper}{rest:List Oper}{o:Oper}{a:Act}{Q:Exit->Act->sT->Prop}(hgd:o.guard=none)(s x:Operand)(ho:o.op=.call {callee:=.builtin .append,args:=#[s,x],argTypes:=#[23,23]})(B:Nat)(v:te)(n:Nat)(X:List Int)(hs:a.eval s=v)(hown:w.ownsRow B 3 1 v n (bf X))(fo:Option Addr)(fn fc:Nat)(F:List Int)(hx:a.eval x=.slice fo fn fc)(hF:RdI w fo F)(hfn:fn=F.length)(hl:n+fn<=1000000000000)(hB:B<=w.heap.size)
  (h:∀vo vc w',w'.ownsRow B 3 1 (.slice vo (n+fn) vc) (n+fn) (bf (X++F))->w.grownBy w' v.ownBlock->((tf vo (n+fn) vc).ownBlock=v.ownBlock\/(tf vo (n+fn) vc).ownBlock=some w.heap.size)->wpList Tryz.prog ops Q rest (a.put o.dst (.slice vo (n+fn) vc)) w'):wpList Tryz.prog ops Q (o::rest) a w:=
 wpList_plain hgd fun _ hK=>aN s x ho B v n X hs hown fo fn fc F hx hF hfn hl hB fun vo vc w' h2 h3 h4=>hK _ _ (h vo vc w' h2 h3 h4)
theorem grown_below{B n:Nat}{w w':sT}{v:te}{xs:List te}(h:w.ownsRow B 3 1 v n xs)(hg:w.grownBy w' v.ownBlock)(hB:B<=w.heap.size):sR B w w':=⟨hg.os,hg.tape,hg.output,hg.size,fun k hk=>hg.block k (by omega) (fun e=>by
 rcases h.2 with ⟨rfl,_⟩|⟨g,cap,cur,rfl,h2,_⟩
 ·cases e
 ·have e':=Option.some.inj e
  have e2:k=g:=e';omega)⟩
theorem dO{w:sT}{B n:Nat}{vo:Option Addr}{vc:Nat}{L:List Int}(h:w.ownsRow B 3 1 (.slice vo n vc) n (bf L))(hn:n=L.length):RdI w vo L:=fun k z hk=>by
 have hkl:=(tj.1 hk).1
 rcases h.2 with ⟨h1,h2⟩|⟨g,cap,cur,h1,h2,h3,_⟩
 ·omega
 ·cases h1
  refine⟨_,rfl,ag h3,?_⟩;rw[tr,sU];exact(dd h).2.2.2 k _ (by unfold bf;rw[tk,hk];rfl)
theorem aD{w w':sT}{B n:Nat}{v:te}{xs:List te}(h:w.ownsRow B 3 1 v n xs)(hb:sR w.heap.size w w'):w'.ownsRow B 3 1 v n xs:=⟨h.1,h.2.imp (fun e=>e) fun⟨g,cap,cur,a1,a2,a3,a4⟩=>⟨g,cap,cur,a1,a2,(hb.block g (ag a3)).trans a3,a4⟩⟩
theorem iX(w:sT)(ao:Option Addr):RdI w ao []:=fun k z hk=>by simp at hk
theorem zcP(p:az)(hO:jX p)(hs:gu p<=2048)(v0 v1 v2:te)(w:sT)(hP:cC w p v0 v1 v2):
  tw Tryz.prog 147 #[.agg #[v0,v1,v2],.slice none 0 0] w (BlQ w (¬aQ [] p 0 0)):=by
 have HE:=aa (fun(W:sT)(h:sR w.heap.size w W)=>zeM p hO hs v0 v1 v2 [] none 0 0 rfl (by omega) W (cC.below h _ _ _ _ hP) (iX W none))
 clear hP;go_enter Tryz.func147,Tryz.ntmps147;go_wp2_with fail;refine(HE.o _ below_box).mono ?_;rintro e w2 ⟨vo,vc,rfl,hO2,hB2⟩;have HB2:=aa (below_box.trans (hB2.mono (by simp)))
 have HR:=aa (nO hO2 rfl);have HM:=aa (fun(x:Nat)=>zaY (fun i=>aQ [] p 0 i) (0+1) x)
 obtain⟨L,hL⟩:=am (gU (fun i=>aQ [] p 0 i) (0+1))
 have hl9:L.length<=1:=by rw[hL];exact zaZ _ _
 rw[<- hL]at HR HM⊢;obtain⟨n,hn⟩:=am L.length;rw[<- hn]at hl9⊢;have HN:=aa hn;clear hO2 hB2 hL hn HE;go_wp2_with fail;refine(znI vo n vc _ 0 w2 HR.o (by rw[List.length_map];exact HN.o) (by omega)).mono ?_
 rintro e w3 ⟨rfl,rfl⟩;have HQ:ae (kk (L.map fun(x:Nat)=>(x:Int)) 0=false->¬aQ [] p 0 0):=aa (fun h hl=>by
  have h1:(0:Int)∈L.map fun(x:Nat)=>(x:Int):=List.mem_map.2 ⟨0,(HM.o 0).2 ⟨by omega,hl⟩,rfl⟩
  rw[(cO _ _).2 h1]at h
  cases h)
 obtain⟨b,hb⟩:=am (kk (L.map fun(x:Nat)=>(x:Int)) 0)
 rw[<- hb]at HQ⊢;clear hb;go_wp2;go_ret;exact⟨b,rfl,HQ.o,HB2.o⟩
theorem jq(p:az)(hO:jX p)(hs:gu p<=2048)(v0 v1 v2:te)(w:sT)(hP:cC w p v0 v1 v2):
  tw Tryz.prog 109 #[.agg #[v0,v1,v2]] w (BlQ w (Ful p)):=by
 have HE:=aa (fun(W:sT)(h:sR w.heap.size w W)=>zcP p hO hs v0 v1 v2 W (cC.below h _ _ _ _ hP))
 clear hP;go_enter Tryz.func109,Tryz.ntmps109;go_wp2_with fail;refine(HE.o _ below_box).mono ?_;rintro e w2 ⟨b,rfl,hb,hB2⟩;have HB2:=aa (below_box.trans (hB2.mono (by simp)))
 have HQ:ae (b=false->Ful p):=aa (fun h=>zvH (hb h))
 clear hb hB2;go_wp2;go_ret;exact⟨b,rfl,HQ.o,HB2.o⟩
end Pt
end
section
open Go.RowKit
namespace Pt
def FsQ(p:az)(w:sT)(e:Ending)(w':sT):Prop:=∃(vo:Option Addr)(vc:Nat)(L:List Int),e=.returned (.slice vo L.length vc)/\RdI w' vo L/\dG p L/\L.length<=1000000*gu p/\sR w.heap.size w w'
theorem gz.drop{w:sT}{kids:List az}{b o:Nat}(h:gz w kids (some ⟨b,o,none⟩) 0)(m:Nat):gz w (kids.drop m) (some ⟨b,o+m*3,none⟩) 0:=by
 have key:∀(ps:List az)(i:Nat),(∀(j:Nat)(q:az),ps[j]?=some q->kids[m+i+j]?=some q)->gz w ps (some ⟨b,o+m*3,none⟩) i:=by
  intro ps
  induction ps with
  |nil=>intro i _;unfold gz;trivial
  |cons p ps ih=>
   intro i hp;unfold gz;obtain⟨b',o',h1,h2,v0,v1,v2,q0,q1,q2,q3⟩:=gz.at kids _ 0 (m+i) p h (hp 0 p rfl)
   cases h1
   rw[show o+(0+(m+i))*3=o+m*3+i*3 by omega]at q0 q1 q2
   refine⟨⟨b,o+m*3,rfl,h2,v0,v1,v2,q0,q1,q2,q3⟩,ih (i+1) fun j q hj=>?_⟩
   have:=hp (j+1) q (by simpa using hj)
   rw[show m+(i+1)+j=m+i+(j+1) by omega]
   exact this
 exact key _ 0 fun j _ hj=>by rw[Nat.add_zero,<- List.getElem?_drop];exact hj
theorem zcI:∀ps:List az,(∀p∈ps,jX p)->nB ps
 |[],_=>by unfold nB;trivial
 |p::ps,h=>by
  unfold nB;exact⟨h p (List.mem_cons_self ..),zcI ps fun q hq=>h q (List.mem_cons_of_mem _ hq)⟩
theorem nB.drop{ps:List az}(h:nB ps)(m:Nat):nB (ps.drop m):=zcI _ fun _ hp=>h.mem (List.mem_of_mem_drop hp)
theorem zoh(v1 v2:te)(cls:List Int)(kids:List az)(w:sT):tw Tryz.prog 145 #[.agg #[.int .i64 0,v1,v2]] w (FsQ (.mk 0 cls kids) w):=by
 have HB:=aa (fun(o:Obj)=>below_box (w:=w) (o:=o))
 go_enter Tryz.func145,Tryz.ntmps145;go_wp2;go_ret;exact⟨none,0,[],rfl,iX _ _,zqW 0 _ _ (by decide) (by decide) (by decide) (by decide) (by decide) (by decide),by simp,HB.o _⟩
theorem zog(lo:Option Addr)(lc:Nat)(v2:te)(cls:List Int)(kids:List az)(w:sT)(hI:RdI w lo cls)(hl9:cls.length<=1000000):tw Tryz.prog 145 #[.agg #[.int .i64 1,.slice lo cls.length lc,v2]] w (FsQ (.mk 1 cls kids) w):=by
 have HB:=aa (fun(o:Obj)=>below_box (w:=w) (o:=o))
 have HI:=aa hI;have HL:=aa hl9;obtain⟨n,hn⟩:=am cls.length;rw[<- hn];have HN:=aa hn;clear hI hl9 hn;go_enter Tryz.func145,Tryz.ntmps145;go_wp2;go_ret;rw[HN.o];exact⟨lo,lc,cls,rfl,HI.o.below (HB.o _),zvI _ _,by
  have:=HL.o;unfold gu;omega,HB.o _⟩
set_option maxRecDepth 100000 in
theorem zof(lo ko:Option Addr)(ln lc kn kc:Nat)(cls:List Int)(kids:List az)(w:sT)(hkn:kn=kids.length)(hk9:kn<=1000000)(hkc:kn<=kc)(hk:gz w kids ko 0)(hOK:nB kids)(hsz:kG kids+1<=2048)
  (ih:∀p∈kids,∀(u0 u1 u2:te)(W:sT),cC W p u0 u1 u2->tw Tryz.prog 145 #[.agg #[u0,u1,u2]] W (FsQ p W)):
  tw Tryz.prog 145 #[.agg #[.int .i64 2,.slice lo ln lc,.slice ko kn kc]] w (FsQ (.mk 2 cls kids) w):=by
 have HK:=aa hk;have HO:=aa hOK;have HSz:=aa hsz;have HIH:=aa ih;have HKN:=aa hkn;clear hk hOK hsz ih hkn;go_enter Tryz.func145,Tryz.ntmps145;go_wp2;obtain⟨w1,hw1⟩:=am (w.alloc (.cells #[.int .i64 2,.slice lo ln lc,.slice ko kn kc] 105));have hb1:sR w.heap.size w w1:=by rw[hw1];exact below_box
 have x0:w1.cell? ⟨w.heap.size,0,none⟩=some (.int .i64 2):=by rw[hw1];simp[go_sem]
 have x2:w1.cell? ⟨w.heap.size,2,none⟩=some (.slice ko kn kc):=by rw[hw1];simp[go_sem]
 have hs1:w.heap.size<w1.heap.size:=by rw[hw1];simp
 rw[<- hw1];have HB1:=aa hb1;have HX:=aa (fun(W:sT)(h:sR w1.heap.size w1 W)=>show W.cell? ⟨w.heap.size,0,none⟩=some (.int .i64 2)/\W.cell? ⟨w.heap.size,2,none⟩=some (.slice ko kn kc)from⟨(h.cell (p:=⟨w.heap.size,0,none⟩) hs1).trans x0,(h.cell (p:=⟨w.heap.size,2,none⟩) hs1).trans x2⟩)
 clear hw1 hb1 x0 x2;go_loopw [3,4] (fun x y wr=>∃(j n:Nat)(vo:Option Addr)(vc:Nat)(M:List Int),x=.slice vo n vc/\y=.int .i64 j/\j<=kn/\n<=2048000000/\ae (n=M.length)/\ae (n<=1000000*kG (kids.take j))/\ae (wr.ownsRow w1.heap.size 3 1 (.slice vo n vc) n (bf M))/\ae (FsT kids j M)/\ae (sR w1.heap.size w1 wr)) (fun _ y _=>kn-(td y).toNat)
 case atStart=>exact⟨0,0,none,0,[],rfl,rfl,tg _,by omega,aa rfl,aa (tg _),aa (tn _ _ _ _),aa (zxF _),aa (sY _ _)⟩
 case round=>
  obtain⟨j,n,vo,vc,M,rfl,rfl,hj,hn9,HN,HN9,HOw,HF,HB⟩:=hrel;obtain⟨x0,x2⟩:=HX.o wr HB.o;have HBw:=aa (HB1.o.trans (HB.o.mono HB1.o.size))
  by_cases hlt:j<kn
  ·have j0:(0:Int)<=(j:Int):=by omega
   have j1:(j:Int)<(kn:Int):=by omega
   have hjk:j<kids.length:=by have:=HKN.o;omega
   obtain⟨b,o,hko,hb,u0,u1,u2,q0,q1,q2,hq⟩:=gz.at kids ko 0 j _ HK.o (sS hjk);rw[sU]at q0 q1 q2;have HKb:ae (gz w kids (some ⟨b,o,none⟩) 0):=aa (by rw[<- hko];exact HK.o)
   subst hko;have hKid:∀W,sR w1.heap.size w1 W->cC W kids[j] u0 u1 u2/\W.cell? ⟨b,o+j*3,none⟩=some u0/\W.cell? ⟨b,o+j*3+1,none⟩=some u1/\W.cell? ⟨b,o+j*3+2,none⟩=some u2:=fun W h=>by
    have h2:=HB1.o.trans (h.mono HB1.o.size);exact⟨cC.below h2 _ _ _ _ hq,(h2.cell (p:=⟨b,o+j*3,none⟩) hb).trans q0,(h2.cell (p:=⟨b,o+j*3+1,none⟩) hb).trans q1,(h2.cell (p:=⟨b,o+j*3+2,none⟩) hb).trans q2⟩
   have HKid:=aa hKid;have hOj:jX kids[j]:=HO.o.mem (tc hjk);have hSj:gu kids[j]<=2048:=by
    have h1:=eH kids j _ (sS hjk);have h2:=fC kids (j+1);have h3:=HSz.o;omega
   have HSm:=aa (fun(W:sT)(h:sR w1.heap.size w1 W)=>oM kids[j] hOj u0 u1 u2 W (hKid W h).1)
   have HEm:=aa (fun(W:sT)(h:sR w1.heap.size w1 W)=>jq kids[j] hOj hSj u0 u1 u2 W (hKid W h).1)
   have HFs:=aa (fun(W:sT)(h:sR w1.heap.size w1 W)=>HIH.o kids[j] (tc hjk) u0 u1 u2 W (hKid W h).1)
   have HST:=aa (eH kids j _ (sS hjk));have HSL:=aa (fC kids (j+1));obtain⟨_,y0,y1,y2⟩:=hKid wr HB.o;clear q0 q1 q2 hKid hq hb;go_wp2_with fail;refine(HSm.o wr HB.o).mono ?_;rintro e w3 ⟨b1,rfl,hv1,hB3⟩;have HV1:=aa hv1;have HB3:=aa (HB.o.trans (hB3.mono HB.o.size));have HO3:=aa (aD HOw.o hB3);obtain⟨_,y0,y1,y2⟩:=HKid.o w3 HB3.o;obtain⟨x0,x2⟩:=HX.o w3 HB3.o;clear hv1 hB3 HSm HOw
   cases b1 with
   |false=>
    have HM9:ae (n<=1000000*kG (kids.take (j+1))):=aa (by have a1:=HN9.o;have a2:=HST.o;omega)
    obtain⟨_,y0,y1,y2⟩:=HKid.o w3 HB3.o;obtain⟨x0,x2⟩:=HX.o w3 HB3.o;have HH:ae (dG kids[j] M\/Nil kids[j]\/zbK (kids.drop (j+1))):=aa (.inr (.inl (HV1.o rfl)));go_wp2_with fail;refine(HEm.o w3 HB3.o).mono ?_;rintro e w9 ⟨b3,rfl,hv3,hB9⟩;have HV3:=aa hv3;have HB9:=aa (HB3.o.trans (hB9.mono HB3.o.size));have HO9:=aa (aD HO3.o hB9);clear hv3 hB9 y0 y1 y2 x0 x2
    cases b3 with
    |true=>
     go_wp2;go_roundw
     case rel=>exact⟨j+1,n,vo,vc,M,rfl,by go_num,by omega,hn9,HN,HM9,HO9,aa (pU hjk HF.o (fun z hz=>hz) HH.o),HB9⟩
     case measure=>simp[td];omega
    |false=>
     have HQ:ae (dG (.mk 2 cls kids) M):=aa (pT hjk HF.o (fun z hz=>hz) HH.o (HV3.o rfl) 2 cls rfl)
     have HBz:=aa (HB1.o.trans (HB9.o.mono HB1.o.size));have HNz:ae (M.length<=1000000*gu (.mk 2 cls kids)):=aa (by
      have a1:=HN.o;have a2:=HM9.o;have a3:=HSL.o;unfold gu;omega)
     go_wp2;go_ret;exact⟨vo,vc,M,by rw[<- HN.o];rfl,dO HO9.o HN.o,HQ.o,HNz.o,HBz.o⟩
   |true=>
    have HRs:=aa (fun(ao:Option Addr)(m cp:Nat)(W:sT)(h:sR w1.heap.size w1 W)(hm:m=kn-(j+1))(hao:(ao=some ⟨b,o,none⟩/\kn<=j+1)\/ao=some ⟨b,o+(j+1)*3,none⟩)=>show tw Tryz.prog 169 #[.slice ao m cp] W (BlQ W (zbK (kids.drop (j+1))))from by
     have e:m=(kids.drop (j+1)).length:=by rw[tp,<- HKN.o];exact hm
     rw[e];refine zlJ _ (HO.o.drop _) ao _ W ?_ (by rw[<- e];omega)
     rcases hao with ⟨_,h0⟩|rfl
     ·rw[tq.1 (show(kids.drop (j+1)).length=0 by rw[<- e];omega)];unfold gz;trivial
     ·exact(gz.below (HB1.o.trans (h.mono HB1.o.size)) _ _ _ HKb.o).drop (j+1))
    have d1:(j:Int)+1<=(kn:Int):=by omega
    have d2:(kn:Int)<=(kc:Int):=by omega
    have d3:(j:Int)+1<=(kc:Int):=by omega
    go_wp2_with fail
    all_goals
     have HH0:=aa h
     first
      |rw[<- h]
      |skip
     clear h;refine(HRs.o _ _ _ w3 HB3.o (by have:=HH0.o;omega) (by first|exact .inr rfl|exact .inl ⟨rfl,by have:=HH0.o;omega⟩)).mono ?_
     rintro e w4 ⟨b2,rfl,hv2,hB4⟩;have HV2:=aa hv2;have HB4:=aa (HB3.o.trans (hB4.mono HB3.o.size));have HO4:=aa (aD HO3.o hB4);obtain⟨_,y0,y1,y2⟩:=HKid.o w4 HB4.o;obtain⟨x0,x2⟩:=HX.o w4 HB4.o;clear hv2 hB4 HRs d1 d2 d3
     cases b2 with
     |false=>
      have HM9:ae (n<=1000000*kG (kids.take (j+1))):=aa (by have a1:=HN9.o;have a2:=HST.o;omega)
      obtain⟨_,y0,y1,y2⟩:=HKid.o w4 HB4.o;obtain⟨x0,x2⟩:=HX.o w4 HB4.o;have HH:ae (dG kids[j] M\/Nil kids[j]\/zbK (kids.drop (j+1))):=aa (.inr (.inr (HV2.o rfl)));go_wp2_with fail;refine(HEm.o w4 HB4.o).mono ?_;rintro e w9 ⟨b3,rfl,hv3,hB9⟩;have HV3:=aa hv3;have HB9:=aa (HB4.o.trans (hB9.mono HB4.o.size));have HO9:=aa (aD HO4.o hB9);clear hv3 hB9 y0 y1 y2 x0 x2
      cases b3 with
      |true=>
       go_wp2;go_roundw
       case rel=>exact⟨j+1,n,vo,vc,M,rfl,by go_num,by omega,hn9,HN,HM9,HO9,aa (pU hjk HF.o (fun z hz=>hz) HH.o),HB9⟩
       case measure=>simp[td];omega
      |false=>
       have HQ:ae (dG (.mk 2 cls kids) M):=aa (pT hjk HF.o (fun z hz=>hz) HH.o (HV3.o rfl) 2 cls rfl)
       have HBz:=aa (HB1.o.trans (HB9.o.mono HB1.o.size));have HNz:ae (M.length<=1000000*gu (.mk 2 cls kids)):=aa (by
        have a1:=HN.o;have a2:=HM9.o;have a3:=HSL.o;unfold gu;omega)
       go_wp2;go_ret;exact⟨vo,vc,M,by rw[<- HN.o];rfl,dO HO9.o HN.o,HQ.o,HNz.o,HBz.o⟩
     |true=>
      go_wp2_with fail;refine(HFs.o w4 HB4.o).mono ?_;rintro e w5 ⟨fo,fc,L,rfl,hI5,hF5,hL5,hB5⟩;have HI5:=aa hI5;have HF5:=aa hF5;have HB5:=aa (HB4.o.trans (hB5.mono HB4.o.size));have HO5:=aa (aD HO4.o hB5);have hl9:L.length<=2048000000:=by omega
      obtain⟨m,hm⟩:=am L.length;have HM:=aa hm;have HL5:=aa hL5;rw[<- hm]at hl9⊢;have HM9:ae (n+m<=1000000*kG (kids.take (j+1))):=aa (by have a1:=HN9.o;have a2:=HST.o;have a3:=HL5.o;have a4:=HM.o;omega)
      have hnm:n+m<=2048000000:=by have a1:=HM9.o;have a2:=HSL.o;have a3:=HSz.o;omega
      clear hm hI5 hF5 hL5 hB5 y0 y1 y2 x0 x2;go_wp2_with (at_builtin;refine cD rfl _ _ rfl w1.heap.size (.slice vo n vc) n M rfl HO5.o fo m fc L rfl HI5.o HM.o (by omega) HB5.o.size ?_;intro vo6 vc6 w6 ho6 hg6 _;have HO6:=aa ho6;have HB6:=aa (HB5.o.trans (grown_below HO5.o hg6 HB5.o.size));clear ho6 hg6;obtain⟨x0,x2⟩:=HX.o w6 HB6.o;obtain⟨_,y0,y1,y2⟩:=HKid.o w6 HB6.o)
      have HN6:ae (n+m=(M++L).length):=aa (by rw[tB,<- HN.o,<- HM.o])
      have HH:ae (dG kids[j] (M++L)\/Nil kids[j]\/zbK (kids.drop (j+1))):=aa (.inl (HF5.o.mono fun z hz=>sZ _ hz))
      refine(HEm.o w6 HB6.o).mono ?_;rintro e w9 ⟨b3,rfl,hv3,hB9⟩;have HV3:=aa hv3;have HB9:=aa (HB6.o.trans (hB9.mono HB6.o.size));have HO9:=aa (aD HO6.o hB9);clear hv3 hB9 y0 y1 y2 x0 x2
      cases b3 with
      |true=>
       go_wp2;go_roundw
       case rel=>exact⟨j+1,(n+m),vo6,vc6,(M++L),rfl,by go_num,by omega,hnm,HN6,HM9,HO9,aa (pU hjk HF.o (fun z hz=>sW _ hz) HH.o),HB9⟩
       case measure=>simp[td];omega
      |false=>
       have HQ:ae (dG (.mk 2 cls kids) (M++L)):=aa (pT hjk HF.o (fun z hz=>sW _ hz) HH.o (HV3.o rfl) 2 cls rfl)
       have HBz:=aa (HB1.o.trans (HB9.o.mono HB1.o.size));have HNz:ae ((M++L).length<=1000000*gu (.mk 2 cls kids)):=aa (by
        have a1:=HN6.o;have a2:=HM9.o;have a3:=HSL.o;unfold gu;omega)
       go_wp2;go_ret;exact⟨vo6,vc6,(M++L),by rw[<- HN6.o];rfl,dO HO9.o HN6.o,HQ.o,HNz.o,HBz.o⟩
  ·have j1:¬(j:Int)<(kn:Int):=by omega
   have hje:j=kn:=by omega
   have HQ:ae (dG (.mk 2 cls kids) M):=aa (zqV (by rw[<- HKN.o,<- hje];exact HF.o) 2 cls rfl)
   have HNz:ae (M.length<=1000000*gu (.mk 2 cls kids)):=aa (by
    have a1:=HN.o;have a2:=HN9.o;have a3:=fC kids j;unfold gu;omega)
   clear hje;go_wp2;go_ret;exact⟨vo,vc,M,by rw[<- HN.o];rfl,dO HOw.o HN.o,HQ.o,HNz.o,HBw.o⟩
set_option maxRecDepth 100000 in
theorem zoe(op:Int)(h0:op≠0)(h1:op≠1)(h2:op≠2)(lo ko:Option Addr)(ln lc kn kc:Nat)(cls:List Int)(kids:List az)(w:sT)(hkn:kn=kids.length)(hk9:kn<=1000000)(hk:gz w kids ko 0)(hOK:nB kids)(hsz:kG kids+1<=2048)
  (ih:∀p∈kids,∀(u0 u1 u2:te)(W:sT),cC W p u0 u1 u2->tw Tryz.prog 145 #[.agg #[u0,u1,u2]] W (FsQ p W)):
  tw Tryz.prog 145 #[.agg #[.int .i64 op,.slice lo ln lc,.slice ko kn kc]] w (FsQ (.mk op cls kids) w):=by
 have e0:(op==0)=false:=beq_eq_false_iff_ne.2 h0;have e1:(op==1)=false:=beq_eq_false_iff_ne.2 h1;have e2:(op != 2)=true:=bne_iff_ne.2 h2;have e3:(op==2)=false:=beq_eq_false_iff_ne.2 h2;have HOP:=aa (And.intro h1 h2);clear h0 h1 h2;have HK:=aa hk;have HO:=aa hOK;have HSz:=aa hsz;have HIH:=aa ih;have HKN:=aa hkn;clear hk hOK hsz ih hkn;go_enter Tryz.func145,Tryz.ntmps145;go_wp2;obtain⟨w1,hw1⟩:=am (w.alloc (.cells #[.int .i64 op,.slice lo ln lc,.slice ko kn kc] 105));have hb1:sR w.heap.size w w1:=by rw[hw1];exact below_box
 have x0:w1.cell? ⟨w.heap.size,0,none⟩=some (.int .i64 op):=by rw[hw1];simp[go_sem]
 have x2:w1.cell? ⟨w.heap.size,2,none⟩=some (.slice ko kn kc):=by rw[hw1];simp[go_sem]
 have hs1:w.heap.size<w1.heap.size:=by rw[hw1];simp
 rw[<- hw1];have HB1:=aa hb1;have HX:=aa (fun(W:sT)(h:sR w1.heap.size w1 W)=>show W.cell? ⟨w.heap.size,0,none⟩=some (.int .i64 op)/\W.cell? ⟨w.heap.size,2,none⟩=some (.slice ko kn kc)from⟨(h.cell (p:=⟨w.heap.size,0,none⟩) hs1).trans x0,(h.cell (p:=⟨w.heap.size,2,none⟩) hs1).trans x2⟩)
 clear hw1 hb1 x0 x2;go_loopw [3,4] (fun x y wr=>∃(j n:Nat)(vo:Option Addr)(vc:Nat)(M:List Int),x=.slice vo n vc/\y=.int .i64 j/\j<=kn/\n<=2048000000/\ae (n=M.length)/\ae (n<=1000000*kG (kids.take j))/\ae (wr.ownsRow w1.heap.size 3 1 (.slice vo n vc) n (bf M))/\ae (∀x (hx:x<j) (hk:x<kids.length),dG kids[x] M)/\ae (sR w1.heap.size w1 wr)) (fun _ y _=>kn-(td y).toNat)
 case atStart=>exact⟨0,0,none,0,[],rfl,rfl,tg _,by omega,aa rfl,aa (tg _),aa (tn _ _ _ _),aa (fun x hx=>by omega),aa (sY _ _)⟩
 case round=>
  obtain⟨j,n,vo,vc,M,rfl,rfl,hj,hn9,HN,HN9,HOw,HF,HB⟩:=hrel;obtain⟨x0,x2⟩:=HX.o wr HB.o;have HBw:=aa (HB1.o.trans (HB.o.mono HB1.o.size))
  by_cases hlt:j<kn
  ·have j0:(0:Int)<=(j:Int):=by omega
   have j1:(j:Int)<(kn:Int):=by omega
   have hjk:j<kids.length:=by have:=HKN.o;omega
   obtain⟨b,o,hko,hb,u0,u1,u2,q0,q1,q2,hq⟩:=gz.at kids ko 0 j _ HK.o (sS hjk);rw[sU]at q0 q1 q2;have HKb:ae (gz w kids (some ⟨b,o,none⟩) 0):=aa (by rw[<- hko];exact HK.o)
   subst hko;have hKid:∀W,sR w1.heap.size w1 W->cC W kids[j] u0 u1 u2/\W.cell? ⟨b,o+j*3,none⟩=some u0/\W.cell? ⟨b,o+j*3+1,none⟩=some u1/\W.cell? ⟨b,o+j*3+2,none⟩=some u2:=fun W h=>by
    have h2:=HB1.o.trans (h.mono HB1.o.size);exact⟨cC.below h2 _ _ _ _ hq,(h2.cell (p:=⟨b,o+j*3,none⟩) hb).trans q0,(h2.cell (p:=⟨b,o+j*3+1,none⟩) hb).trans q1,(h2.cell (p:=⟨b,o+j*3+2,none⟩) hb).trans q2⟩
   have HKid:=aa hKid;have hOj:jX kids[j]:=HO.o.mem (tc hjk);have hSj:gu kids[j]<=2048:=by
    have h1:=eH kids j _ (sS hjk);have h2:=fC kids (j+1);have h3:=HSz.o;omega
   have HSm:=aa (fun(W:sT)(h:sR w1.heap.size w1 W)=>oM kids[j] hOj u0 u1 u2 W (hKid W h).1)
   have HEm:=aa (fun(W:sT)(h:sR w1.heap.size w1 W)=>jq kids[j] hOj hSj u0 u1 u2 W (hKid W h).1)
   have HFs:=aa (fun(W:sT)(h:sR w1.heap.size w1 W)=>HIH.o kids[j] (tc hjk) u0 u1 u2 W (hKid W h).1)
   have HST:=aa (eH kids j _ (sS hjk));have HSL:=aa (fC kids (j+1));obtain⟨_,y0,y1,y2⟩:=hKid wr HB.o;clear q0 q1 q2 hKid hq hb;go_wp2_with fail;refine(HSm.o wr HB.o).mono ?_;rintro e w3 ⟨b1,rfl,hv1,hB3⟩;have HV1:=aa hv1;have HB3:=aa (HB.o.trans (hB3.mono HB.o.size));have HO3:=aa (aD HOw.o hB3);obtain⟨_,y0,y1,y2⟩:=HKid.o w3 HB3.o;obtain⟨x0,x2⟩:=HX.o w3 HB3.o;clear hv1 hB3 HSm HOw
   cases b1 with
   |false=>
    have HM9:ae (n<=1000000*kG (kids.take (j+1))):=aa (by have a1:=HN9.o;have a2:=HST.o;omega)
    have HH:ae (∀x (hx:x<j+1) (hk:x<kids.length),dG kids[x] M):=aa (fun x hx hkx=>by
     rcases tG x j with h|h
     ·exact(HF.o x h hkx).mono (fun z hz=>hz)
     ·obtain rfl:x=j:=by omega
      exact fun c i k hl _=>absurd hl (HV1.o rfl c i k))
    clear y0 y1 y2;go_wp2;go_roundw
    case rel=>exact⟨j+1,n,vo,vc,M,rfl,by go_num,by omega,hn9,HN,HM9,HO3,HH,HB3⟩
    case measure=>simp[td];omega
   |true=>
    go_wp2_with fail;refine(HFs.o w3 HB3.o).mono ?_;rintro e w5 ⟨fo,fc,L,rfl,hI5,hF5,hL5,hB5⟩;have HI5:=aa hI5;have HF5:=aa hF5;have HB5:=aa (HB3.o.trans (hB5.mono HB3.o.size));have HO5:=aa (aD HO3.o hB5);have hl9:L.length<=2048000000:=by omega
    obtain⟨m,hm⟩:=am L.length;have HM:=aa hm;have HL5:=aa hL5;rw[<- hm]at hl9⊢;have HM9:ae (n+m<=1000000*kG (kids.take (j+1))):=aa (by have a1:=HN9.o;have a2:=HST.o;have a3:=HL5.o;have a4:=HM.o;omega)
    have hnm:n+m<=2048000000:=by have a1:=HM9.o;have a2:=HSL.o;have a3:=HSz.o;omega
    clear hm hI5 hF5 hL5 hB5 y0 y1 y2 x0 x2;go_wp2_with (at_builtin;refine cD rfl _ _ rfl w1.heap.size (.slice vo n vc) n M rfl HO5.o fo m fc L rfl HI5.o HM.o (by omega) HB5.o.size ?_;intro vo6 vc6 w6 ho6 hg6 _;have HO6:=aa ho6;have HB6:=aa (HB5.o.trans (grown_below HO5.o hg6 HB5.o.size));clear ho6 hg6;obtain⟨x0,x2⟩:=HX.o w6 HB6.o;obtain⟨_,y0,y1,y2⟩:=HKid.o w6 HB6.o)
    have HN6:ae (n+m=(M++L).length):=aa (by rw[tB,<- HN.o,<- HM.o])
    have HH:ae (∀x (hx:x<j+1) (hk:x<kids.length),dG kids[x] (M++L)):=aa (fun x hx hkx=>by
     rcases tG x j with h|h
     ·exact(HF.o x h hkx).mono (fun z hz=>sW _ hz)
     ·obtain rfl:x=j:=by omega
      exact HF5.o.mono fun z hz=>sZ _ hz)
    go_roundw
    case rel=>exact⟨j+1,(n+m),vo6,vc6,(M++L),rfl,by go_num,by omega,hnm,HN6,HM9,HO6,HH,HB6⟩
    case measure=>simp[td];omega
  ·have j1:¬(j:Int)<(kn:Int):=by omega
   have hje:j=kn:=by omega
   have HQ:ae (dG (.mk op cls kids) M):=aa (zqX op cls kids M HOP.o.1 HOP.o.2 fun p hp=>by obtain⟨x,hx,rfl⟩:=tA hp;exact HF.o x (by have:=HKN.o;omega) hx)
   have HNz:ae (M.length<=1000000*gu (.mk op cls kids)):=aa (by
    have a1:=HN.o;have a2:=HN9.o;have a3:=fC kids j;unfold gu;omega)
   clear hje;go_wp2;go_ret;exact⟨vo,vc,M,by rw[<- HN.o];rfl,dO HOw.o HN.o,HQ.o,HNz.o,HBw.o⟩
theorem zgw:∀p:az,jX p->gu p<=2048->∀(v0 v1 v2:te)(w:sT),cC w p v0 v1 v2->tw Tryz.prog 145 #[.agg #[v0,v1,v2]] w (FsQ p w):=by
 refine az.ind fun op cls kids ih hO hs v0 v1 v2 w hP=>?_
 unfold cC at hP;unfold jX at hO;unfold gu at hs;obtain⟨rfl,⟨lo,lc,rfl,hl1,hl2⟩,ko,kc,rfl,hk1,hk2,hk3⟩:=hP;have hI:∀p∈kids,∀(u0 u1 u2:te)(W:sT),cC W p u0 u1 u2->tw Tryz.prog 145 #[.agg #[u0,u1,u2]] W (FsQ p W):=fun p hp u0 u1 u2 W hW=>by
  obtain⟨j,hj,rfl⟩:=tA hp;have h1:=eH kids j _ (sS hj);have h2:=fC kids (j+1);exact ih _ hp (hO.2.mem hp) (by omega) u0 u1 u2 W hW
 by_cases o0:op=0
 ·subst o0
  exact zoh _ _ cls kids w
 by_cases o1:op=1
 ·subst o1
  exact zog lo lc _ cls kids w hl1 hl2
 by_cases o2:op=2
 ·subst o2
  exact zof lo ko cls.length lc kids.length kc cls kids w rfl hk2 hk3 hk1 hO.2 hs hI
 ·exact zoe op o0 o1 o2 lo ko cls.length lc kids.length kc cls kids w rfl hk2 hk1 hO.2 hs hI
end Pt
end
section
open Go.RowKit
namespace Pt
def FlQ(p:az)(w:sT)(e:Ending)(w':sT):Prop:=∃(vo:Option Addr)(vc:Nat)(L:List Int),e=.returned (.slice vo L.length vc)/\gY w' (fun b=>b<w.heap.size) vo L/\dG p L/\L.length<=2048000000/\sR w.heap.size w w'
theorem zjh{w:sT}{B C n:Nat}{vo:Option Addr}{vc:Nat}{L:List Int}(h:w.ownsRow C 3 1 (.slice vo n vc) n (bf L))(hn:n=L.length)(hB:B<=C):gY w (fun b=>b<B) vo L:=fun k z hk=>by
 have hkl:=(tj.1 hk).1
 rcases h.2 with ⟨h1,h2⟩|⟨g,cap,cur,h1,h2,h3,_⟩
 ·omega
 ·cases h1
  refine⟨_,rfl,ag h3,fun h=>?_,?_⟩
  ·have h':g<B:=h
   omega
  ·rw[tr,sU]
   exact(dd h).2.2.2 k _ (by unfold bf;rw[tk,hk];rfl)
theorem aZ{w:sT}{B C n:Nat}{v:te}{xs:List te}(h:w.ownsRow C 3 1 v n xs)(hB:B<=C):w.ownsRow B 3 1 v n xs:=⟨h.1,h.2.imp (fun e=>e) fun⟨g,cap,cur,a1,a2,a3,a4⟩=>⟨g,cap,cur,a1,by omega,a3,a4⟩⟩
theorem zap{M:List Int}{k:Nat}{z:Int}{F:List Int}(h1:∀x∈F,x∈M\/x=z)(x:Int)(hx:x∈F):x∈M.take k++[z]++M.drop k:=by
 rcases h1 x hx with h|h
 ·rw[<- List.take_append_drop k M,tF]at h
  rcases h with h|h
  ·exact sW _ (sW _ h)
  ·exact sZ _ h
 ·exact sW _ (sZ _ (by rw[h];simp))
theorem iY(M:List Int){k:Nat}(z:Int)(hk:k<=M.length):(M.take k++[z]++M.drop k).length=M.length+1:=by
 simp
 omega
theorem cw{w:sT}{q:Nat}{z:Int}(h:w.heap[q]?=some (.cells #[.int .i64 z] 3)):RdI w (some ⟨q,0,none⟩) [z]:=fun k y hk=>by
 cases k with
 |succ k=>simp at hk
 |zero=>
  cases hk
  refine⟨_,rfl,ag h,?_⟩;rw[tr,tz w q _ _ _ _ h]
  rfl
theorem fL(w:sT):(w.alloc (.cells #[] 3)).ownsRow w.heap.size 3 1 (.slice (some ⟨w.heap.size,0,none⟩) 0 0) 0 (bf []):=sT.ownsRow_lit w #[] 0 (tE _) (by decide) (by simp)
theorem mu{w w':sT}{v:te}{q:Nat}{o:Obj}(h:w.heap[q]?=some o)(hg:w.grownBy w' v.ownBlock)(hne:v.ownBlock≠some q):w'.heap[q]?=some o:=(hg.block q (ag h) (fun e=>hne e.symm)).trans h
set_option maxRecDepth 100000 in
theorem nl(p:az)(hO:jX p)(hs:gu p<=2048)(u0 u1 u2:te)(w:sT)(hP:cC w p u0 u1 u2):tw Tryz.prog 107 #[.agg #[u0,u1,u2]] w (FlQ p w):=by
 have HG:=aa (fun(W:sT)(h:sR w.heap.size w W)=>fT p hO hs u0 u1 u2 W (cC.below h _ _ _ _ hP))
 have HFs:=aa (fun(W:sT)(h:sR w.heap.size w W)=>zgw p hO hs u0 u1 u2 W (cC.below h _ _ _ _ hP))
 clear hP hO;go_enter Tryz.func107,Tryz.ntmps107;go_wp2_with fail;obtain⟨w1,hw1⟩:=am (w.alloc (.cells #[u0,u1,u2] 105));have hb1:sR w.heap.size w w1:=by rw[hw1];exact below_box
 have hN:w1.heap[w.heap.size]?=some (.cells #[u0,u1,u2] 105):=by rw[hw1];exact heap_alloc_new _ _
 rw[<- hw1];have HB1:=aa hb1;have HN:=aa hN;clear hw1 hb1 hN;refine(HG.o w1 HB1.o).mono ?_;rintro e w2 ⟨rfl,hB2⟩;have hN2:=(hB2.block _ (ag HN.o)).trans HN.o;have x0:w2.cell? ⟨w.heap.size,0,none⟩=some u0:=by rw[tz w2 _ 0 _ _ _ hN2];rfl
 have x1:w2.cell? ⟨w.heap.size,1,none⟩=some u1:=by rw[tz w2 _ 1 _ _ _ hN2];rfl
 have x2:w2.cell? ⟨w.heap.size,2,none⟩=some u2:=by rw[tz w2 _ 2 _ _ _ hN2];rfl
 have HB2:=aa (HB1.o.trans (hB2.mono HB1.o.size));clear hB2 hN2;go_wp2_with fail;refine(HFs.o w2 HB2.o).mono ?_;rintro e w3 ⟨lo,lc,L,rfl,hI,hF,hL9,hB3⟩;have HI:=aa hI;have HF:=aa hF;have HB3:=aa (HB2.o.trans (hB3.mono HB2.o.size));have hl9:L.length<=2048000000:=by omega
 obtain⟨n,hn⟩:=am L.length;rw[<- hn]at hl9⊢;have HNn:=aa hn;clear hI hF hL9 hB3 hn x0 x1 x2 HG HFs hs;go_wp2;go_loopw [4,5] (fun x y wr=>∃(i m:Nat)(vo:Option Addr)(vc:Nat)(M:List Int),x=.slice vo m vc/\y=.int .i64 i/\i<=n/\m<=i/\ae (m=M.length)/\ae (wr.ownsRow w3.heap.size 3 1 (.slice vo m vc) m (bf M))/\ae (∀x∈L.take i,x∈M)/\ae (sR w3.heap.size w3 wr)) (fun _ y _=>n-(td y).toNat)
 case atStart=>exact⟨0,0,none,0,[],rfl,rfl,tg _,tE _,aa rfl,aa (tn _ _ _ _),aa (by simp),aa (sY _ _)⟩
 case round=>
  obtain⟨i,m,vo,vc,M,rfl,rfl,hi,hmi,HM,HOw,HIn,HBr0⟩:=hrel
  by_cases hlt:i<n
  ·have i0:(0:Int)<=(i:Int):=by omega
   have i1:(i:Int)<(n:Int):=by omega
   have hil:i<L.length:=by have:=HNn.o;omega
   obtain⟨ad,rfl,had,c1⟩:=HI.o.at hil;have HAd:=aa had;obtain⟨z,hz⟩:=am (L[i]);rw[<- hz]at c1;have HCz0:=aa c1;have HTk:ae (∀x∈L.take (i+1),x∈M\/x=z):=aa (fun x hx=>by
    rw[List.take_succ_eq_append_getElem hil,tF]at hx
    rcases hx with hx|hx
    ·exact .inl (HIn.o x hx)
    ·exact .inr (by rw[hz];simpa using hx))
   have HRM0:=aa (dO HOw.o HM.o);have hmc:m<=vc:=by
    rcases HOw.o.2 with ⟨h1,h2⟩|⟨g,cap,cur,h1,_,_,h4,_⟩
    ·omega
    ·cases h1;exact h4
   clear hz c1 had;obtain⟨wo,rfl⟩:=am wr;go_wp2;go_loopw [6] (fun y wr2=>∃k:Nat,y=.int .i64 k/\k<=m/\ae (sR wo.heap.size wo wr2)) (fun y _=>m-(td y).toNat)
   case atStart=>exact⟨0,rfl,tg _,aa (sY _ _)⟩
   case round=>
    obtain⟨k,rfl,hk,HB⟩:=hrel;have k0:(0:Int)<=(k:Int):=by omega
    have HBr:=aa (HBr0.o.trans (HB.o.mono HBr0.o.size));have c2:wr.cell? (ad.add i)=some (.int .i64 z):=(HBr.o.cell (p:=ad.add i) (by rw[add_blk];exact HAd.o)).trans HCz0.o
    have HCz:=aa c2
    by_cases hkm:k<m
    ·have k1:(k:Int)<(m:Int):=by omega
     have hkM:k<M.length:=by have:=HM.o;omega
     obtain⟨a2,hvo,h2,c3⟩:=(HRM0.o.below HB.o).at hkM;obtain⟨g,hg⟩:∃g,vo=some ⟨g,0,none⟩:=by
      rcases HOw.o.2 with ⟨h1,h2⟩|⟨g,cap,cur,h1,_⟩
      ·omega
      ·cases h1;exact⟨g,rfl⟩
     subst hg
     cases hvo
     have hgw:g<wo.heap.size:=(dd HOw.o).2.1.elim fun cur h=>ag h
     rw[tr,sU]at c3;obtain⟨y,hy⟩:=am (M[k]);rw[<- hy]at c3;have HY:=aa hy;clear hy h2
     by_cases hyz:y<z
     ·go_wp2_with fail
      go_quiet (fail);have HBd:ae (sR wo.heap.size wo (wr.drewN nq)):=aa ⟨HB.o.os,HB.o.tape,HB.o.output,HB.o.size,HB.o.block⟩;go_wp2;go_roundw
      case rel=>exact⟨k+1,by go_num,by omega,HBd⟩
      case measure=>simp[td];omega
     ·have d1:decide (y<z)=false:=decide_eq_false hyz
      go_wp2_with fail;go_quiet (fail);obtain⟨wq,hwq⟩:=am (wr.drewN nq);have HBq:ae (sR wo.heap.size wo wq):=aa (by rw[hwq];exact⟨HB.o.os,HB.o.tape,HB.o.output,HB.o.size,HB.o.block⟩)
      rw[<- hwq];clear hwq;have c4:wq.cell? (ad.add i)=some (.int .i64 z):=((HBr0.o.trans (HBq.o.mono HBr0.o.size)).cell (p:=ad.add i) (by rw[add_blk];exact HAd.o)).trans HCz0.o
      have c5:wq.cell? ⟨g,k,none⟩=some (.int .i64 y):=(sT.cell?_of_block (a:=⟨g,k,none⟩) (by rw[HBq.o.block g hgw,HB.o.block g hgw])).trans c3
      by_cases hyz2:y=z
      ·subst hyz2
       have HPut:ae (∀x∈L.take (i+1),x∈M):=aa (fun x hx=>by
        rcases HTk.o x hx with h|h
        ·exact h
        ·rw[h,HY.o];exact tc _)
       have b1:(y==y)=true:=by simp
       go_wp2_with fail;go_quiet (fail);obtain⟨wx,hwq⟩:=am (wq.drewN nq);have HBx:ae (sR wo.heap.size wo wx):=aa (by rw[hwq];exact⟨HBq.o.os,HBq.o.tape,HBq.o.output,HBq.o.size,HBq.o.block⟩)
       rw[<- hwq];clear hwq;go_wp2;go_roundw
       case rel=>exact⟨i+1,m,some ⟨g,0,none⟩,vc,M,rfl,by go_num,by omega,by omega,HM,aa (aD HOw.o HBx.o),HPut,aa (HBr0.o.trans (HBx.o.mono HBr0.o.size))⟩
       case measure=>simp[td];omega
      ·have b1:(y==z)=false:=beq_eq_false_iff_ne.2 hyz2
       go_wp2_with fail;go_quiet (fail);obtain⟨wx,hwq⟩:=am (wq.drewN nq);have HBx:ae (sR wo.heap.size wo wx):=aa (by rw[hwq];exact⟨HBq.o.os,HBq.o.tape,HBq.o.output,HBq.o.size,HBq.o.block⟩)
       rw[<- hwq];clear hwq;go_wp2_with fail;have HBr:=aa (HBr0.o.trans (HBx.o.mono HBr0.o.size));have HCz:ae (wx.cell? (ad.add i)=some (.int .i64 z)):=aa ((HBr.o.cell (p:=ad.add i) (by rw[add_blk];exact HAd.o)).trans HCz0.o)
       have HRM:=aa (HRM0.o.below HBx.o);have HPut:=aa (fun(x:Int)(hx:x∈L.take (i+1))=>zap (M:=M) (k:=k) HTk.o x hx)
       have HLT:ae (k=(M.take k).length):=aa (by rw[tD,<- HM.o];omega)
       have HLD:ae (m-k=(M.drop k).length):=aa (by rw[tp,<- HM.o])
       have k3:(k:Int)<=(m:Int):=by omega
       have k4:(m:Int)<=(vc:Int):=by omega
       have k5:(k:Int)<=(vc:Int):=by omega
       have k6:¬vc<k:=by omega
       clear HBq c4 c5 c3 HY b1 hyz hyz2 d1 k1 HTk HCz0;obtain⟨v0,hv0⟩:=am wx.drew;have HBv:ae (sR wx.heap.size wx v0):=aa (by rw[hv0];exact(sY _ _).drew)
       have HB0:=aa (sY v0.heap.size v0);have HT:=aa (fun(W:sT)(h:sR v0.heap.size v0 W)=>show W.cell? (ad.add i)=some (.int .i64 z)/\True from⟨(((HBv.o.trans (h.mono HBv.o.size))).cell (p:=ad.add i) (by rw[add_blk];exact ti HAd.o (HBr.o.size))).trans HCz.o,trivial⟩)
       have HB0s:ae (w3.heap.size<=v0.heap.size):=aa (tC HBr.o.size HBv.o.size);have HR0:=aa (fun(W:sT)(h:sR v0.heap.size v0 W)=>show RdI W (some ⟨g,0,none⟩) M from HRM.o.below (HBv.o.trans (h.mono HBv.o.size)))
       have HRT:=aa (fun(W:sT)(h:sR v0.heap.size v0 W)=>oX (n:=k) (HR0.o W h))
       have HRD0:=aa (fun(ao:Option Addr)(hao:ao=if vc=k then some ⟨g,0,none⟩else some ⟨g,k,none⟩)(W:sT)(h:sR v0.heap.size v0 W)=>show RdI W ao (M.drop k)from by
        rw[hao]
        split
        ·rw[tt (by have:=HM.o;omega)];exact iX _ _
        ·have hd:=oY (n:=k) (HR0.o W h)
         rw[sU]at hd;exact hd)
       refine dp (.one 1 1 (.one 2 1 (.one 3 1 (.one 5 1 (.one 6 1 (.one 7 1 (.one 8 1 (.one 11 1 (.one 12 1 (.one 13 1 (.two 0 9 (.two 4 9 (.one 9 2 (.one 10 2 (.one 14 2 (.one 15 1 .nil)))) (.one 4 2 (.one 10 2 (.one 14 2 (.one 15 1 .nil))))) (.one 0 2 (.one 4 2 (.one 10 2 (.one 14 2 (.one 15 1 .nil)))))))))))))))) (fun _=>True) (fun W=>W.cell? (ad.add i)=some (.int .i64 z)/\True) (fun _=>false) (by kernel_rfl) (by kernel_rfl) (fun j hj=>by cases hj) rfl (by kernel_rfl) trivial (HT.o _ (by rw[hv0];exact sY _ _)) ?_
       rw[<- hv0];clear hv0
       iterate 10 (refine cT ?_ rfl (by kernel_rfl) (fun w' hS=>?_) ?_;(rotate_left;(obtain⟨s1,_⟩:=hS;go_simp;with_reducible rfl);rotate_left))
       obtain⟨ao,hao⟩:=am (if vc=k then some (⟨g,0,none⟩:Addr)else some ⟨g,k,none⟩);have HRD:=aa (HRD0.o ao hao)
       try rw[<- hao]
       clear hao HRD0;refine dQ ?x0 ?x9
       case x0=>
        refine bM rfl (by kernel_rfl) fun KK hKK=>?_
        go_simp;have HB1:=aa (HB0.o.trans ((below_box (w:=v0) (o:=.cells #[] 3)).mono HB0.o.size));refine hKK _ _ (fun _=>trivial) (HT.o _ HB1.o) ?_
        clear hKK KK;obtain⟨v1,hv1⟩:=am (v0.alloc (.cells #[] 3));rw[<- hv1]at HB1;rw[<- hv1];have HZ1:ae (v1.heap.size=v0.heap.size+1):=aa (by rw[hv1];simp)
        have HW1:ae (v1.ownsRow v0.heap.size 3 1 (.slice (some ⟨v0.heap.size,0,none⟩) 0 0) 0 (bf [])):=aa (by rw[hv1];exact aZ (fL v0) HB0.o.size)
        have HK1:ae (sR v0.heap.size v0 v1):=aa (by rw[hv1];exact below_box)
        clear hv1;refine dQ ?x04 ?x09
        case x04=>
         refine bM rfl (by kernel_rfl) fun KK hKK=>?_
         refine aN _ _ rfl v0.heap.size (.slice (some ⟨v0.heap.size,0,none⟩) 0 0) 0 [] rfl HW1.o (some ⟨g,0,none⟩) k vc (M.take k) rfl (HRT.o _ HB1.o) HLT.o (by omega) HB1.o.size ?_
         intro vo2 vc2 v2 o2 gr2 hb2;rw[sU]at o2 hb2⊢;have HB2:=aa (HB1.o.trans (grown_below HW1.o gr2 HB1.o.size));have HW2:=aa o2;have HG2:=aa gr2;have HBk2:=aa hb2;refine hKK _ _ (fun _=>trivial) (HT.o _ HB2.o) ?_
         clear hKK KK o2 gr2 hb2;refine aH rfl (by kernel_rfl) fun KK hKK=>?_
         go_simp;have HB3:=aa (HB2.o.trans ((below_box (w:=v2) (o:=.cells #[.int .i64 z] 3)).mono HB2.o.size));refine hKK _ _ (fun _=>trivial) (HT.o _ HB3.o) ?_
         clear hKK KK;obtain⟨v3,hv3⟩:=am (v2.alloc (.cells #[.int .i64 z] 3));rw[<- hv3]at HB3;rw[<- hv3];have HZ3:ae (v3.heap.size=v2.heap.size+1):=aa (by rw[hv3];simp)
         have HQ3:ae (v3.heap[v2.heap.size]?=some (.cells #[.int .i64 z] 3)):=aa (by rw[hv3];exact heap_alloc_new _ _)
         have HK3:ae (sR v2.heap.size v2 v3):=aa (by rw[hv3];exact below_box)
         clear hv3;have HW3:=aa (aD HW2.o HK3.o);refine aH rfl (by kernel_rfl) fun KK hKK=>?_
         refine aN _ _ rfl v0.heap.size (.slice vo2 k vc2) k ([]++M.take k) rfl HW3.o (some ⟨v2.heap.size,0,none⟩) 1 1 [z] rfl (cw HQ3.o) rfl (by omega) HB3.o.size ?_
         intro vo4 vc4 v4 o4 gr4 hb4;have HB4:=aa (HB3.o.trans (grown_below HW3.o gr4 HB3.o.size));have HW4:=aa o4;have HG4:=aa gr4;have HBk4:=aa hb4;refine hKK _ _ (fun _=>trivial) (HT.o _ HB4.o) ?_
         clear hKK KK o4 gr4 hb4;refine aH rfl (by kernel_rfl) fun KK hKK=>?_
         refine aN _ _ rfl v0.heap.size (.slice vo4 (k+1) vc4) (k+1) ([]++M.take k++[z]) rfl HW4.o (ao) (m-k) (vc-k) (M.drop k) rfl (HRD.o _ HB4.o) HLD.o (by omega) HB4.o.size ?_
         intro vo5 vc5 v5 o5 gr5 hb5;have HB5:=aa (HB4.o.trans (grown_below HW4.o gr5 HB4.o.size));have HW5:=aa o5;have HG5:=aa gr5;have HBk5:=aa hb5;refine hKK _ _ (fun _=>trivial) (HT.o _ HB5.o) ?_
         clear hKK KK o5 gr5 hb5;refine cT ?_ rfl (by kernel_rfl) (fun w' hS=>?_) ?_;(rotate_left;(go_simp;with_reducible rfl);rotate_left)
         refine cg (sX ?_);have HFin:=aa (show v5.ownsRow w3.heap.size 3 1 (.slice vo5 (m+1) vc5) (m+1) (bf (M.take k++[z]++M.drop k)) by
          have h1:=aZ HW5.o HB0s.o;rw[show k+1+(m-k)=m+1 by omega,sV]at h1
          exact h1)
         have HFb:=aa (HBr.o.trans (HBv.o.trans (HB5.o.mono HBv.o.size) |>.mono HBr.o.size))
         have em:k+1+(m-k)=m+1:=by omega
         rw[em];clear em;go_wp2;go_roundw
         case rel=>exact⟨i+1,m+1,vo5,vc5,M.take k++[z]++M.drop k,rfl,by go_num,by omega,by omega,aa (by rw[iY M z (by rw[<- HM.o];exact hk),<- HM.o]),HFin,HPut,HFb⟩
         case measure=>simp[td];omega
        case x09=>
         refine bM rfl (by kernel_rfl) fun KK hKK=>?_
         go_simp;have HB2:=aa (HB1.o.trans ((below_box (w:=v1) (o:=.cells #[.int .i64 z] 3)).mono HB1.o.size));refine hKK _ _ (fun _=>trivial) (HT.o _ HB2.o) ?_
         clear hKK KK;obtain⟨v2,hv2⟩:=am (v1.alloc (.cells #[.int .i64 z] 3));rw[<- hv2]at HB2;rw[<- hv2];have HZ2:ae (v2.heap.size=v1.heap.size+1):=aa (by rw[hv2];simp)
         have HQ2:ae (v2.heap[v1.heap.size]?=some (.cells #[.int .i64 z] 3)):=aa (by rw[hv2];exact heap_alloc_new _ _)
         have HK2:ae (sR v1.heap.size v1 v2):=aa (by rw[hv2];exact below_box)
         clear hv2;have HW2:=aa (aD HW1.o HK2.o);refine aH rfl (by kernel_rfl) fun KK hKK=>?_
         refine aN _ _ rfl v0.heap.size (.slice (some ⟨v0.heap.size,0,none⟩) 0 0) 0 [] rfl HW2.o (some ⟨g,0,none⟩) k vc (M.take k) rfl (HRT.o _ HB2.o) HLT.o (by omega) HB2.o.size ?_
         intro vo3 vc3 v3 o3 gr3 hb3;rw[sU]at o3 hb3⊢;have HB3:=aa (HB2.o.trans (grown_below HW2.o gr3 HB2.o.size));have HW3:=aa o3;have HG3:=aa gr3;have HBk3:=aa hb3;have HQ3:=aa (mu HQ2.o gr3 (by simp[ta];have:=HZ2.o;have:=HZ1.o;omega))
         refine hKK _ _ (fun _=>trivial) (HT.o _ HB3.o) ?_
         clear hKK KK o3 gr3 hb3;refine aH rfl (by kernel_rfl) fun KK hKK=>?_
         refine aN _ _ rfl v0.heap.size (.slice vo3 k vc3) k ([]++M.take k) rfl HW3.o (some ⟨v1.heap.size,0,none⟩) 1 1 [z] rfl (cw HQ3.o) rfl (by omega) HB3.o.size ?_
         intro vo4 vc4 v4 o4 gr4 hb4;have HB4:=aa (HB3.o.trans (grown_below HW3.o gr4 HB3.o.size));have HW4:=aa o4;have HG4:=aa gr4;have HBk4:=aa hb4;refine hKK _ _ (fun _=>trivial) (HT.o _ HB4.o) ?_
         clear hKK KK o4 gr4 hb4;refine aH rfl (by kernel_rfl) fun KK hKK=>?_
         refine aN _ _ rfl v0.heap.size (.slice vo4 (k+1) vc4) (k+1) ([]++M.take k++[z]) rfl HW4.o (ao) (m-k) (vc-k) (M.drop k) rfl (HRD.o _ HB4.o) HLD.o (by omega) HB4.o.size ?_
         intro vo5 vc5 v5 o5 gr5 hb5;have HB5:=aa (HB4.o.trans (grown_below HW4.o gr5 HB4.o.size));have HW5:=aa o5;have HG5:=aa gr5;have HBk5:=aa hb5;refine hKK _ _ (fun _=>trivial) (HT.o _ HB5.o) ?_
         clear hKK KK o5 gr5 hb5;refine cT ?_ rfl (by kernel_rfl) (fun w' hS=>?_) ?_;(rotate_left;(go_simp;with_reducible rfl);rotate_left)
         refine cg (sX ?_);have HFin:=aa (show v5.ownsRow w3.heap.size 3 1 (.slice vo5 (m+1) vc5) (m+1) (bf (M.take k++[z]++M.drop k)) by
          have h1:=aZ HW5.o HB0s.o;rw[show k+1+(m-k)=m+1 by omega,sV]at h1
          exact h1)
         have HFb:=aa (HBr.o.trans (HBv.o.trans (HB5.o.mono HBv.o.size) |>.mono HBr.o.size))
         have em:k+1+(m-k)=m+1:=by omega
         rw[em];clear em;go_wp2;go_roundw
         case rel=>exact⟨i+1,m+1,vo5,vc5,M.take k++[z]++M.drop k,rfl,by go_num,by omega,by omega,aa (by rw[iY M z (by rw[<- HM.o];exact hk),<- HM.o]),HFin,HPut,HFb⟩
         case measure=>simp[td];omega
       case x9=>
        refine bM rfl (by kernel_rfl) fun KK hKK=>?_
        go_simp;have HB1:=aa (HB0.o.trans ((below_box (w:=v0) (o:=.cells #[.int .i64 z] 3)).mono HB0.o.size));refine hKK _ _ (fun _=>trivial) (HT.o _ HB1.o) ?_
        clear hKK KK;obtain⟨v1,hv1⟩:=am (v0.alloc (.cells #[.int .i64 z] 3));rw[<- hv1]at HB1;rw[<- hv1];have HZ1:ae (v1.heap.size=v0.heap.size+1):=aa (by rw[hv1];simp)
        have HQ1:ae (v1.heap[v0.heap.size]?=some (.cells #[.int .i64 z] 3)):=aa (by rw[hv1];exact heap_alloc_new _ _)
        have HK1:ae (sR v0.heap.size v0 v1):=aa (by rw[hv1];exact below_box)
        clear hv1;refine aH rfl (by kernel_rfl) fun KK hKK=>?_
        go_simp;have HB2:=aa (HB1.o.trans ((below_box (w:=v1) (o:=.cells #[] 3)).mono HB1.o.size));refine hKK _ _ (fun _=>trivial) (HT.o _ HB2.o) ?_
        clear hKK KK;obtain⟨v2,hv2⟩:=am (v1.alloc (.cells #[] 3));rw[<- hv2]at HB2;rw[<- hv2];have HZ2:ae (v2.heap.size=v1.heap.size+1):=aa (by rw[hv2];simp)
        have HW2:ae (v2.ownsRow v0.heap.size 3 1 (.slice (some ⟨v1.heap.size,0,none⟩) 0 0) 0 (bf [])):=aa (by rw[hv2];exact aZ (fL v1) HB1.o.size)
        have HK2:ae (sR v1.heap.size v1 v2):=aa (by rw[hv2];exact below_box)
        clear hv2;have HQ2:=aa ((HK2.o.block _ (ag HQ1.o)).trans HQ1.o);refine aH rfl (by kernel_rfl) fun KK hKK=>?_
        refine aN _ _ rfl v0.heap.size (.slice (some ⟨v1.heap.size,0,none⟩) 0 0) 0 [] rfl HW2.o (some ⟨g,0,none⟩) k vc (M.take k) rfl (HRT.o _ HB2.o) HLT.o (by omega) HB2.o.size ?_
        intro vo3 vc3 v3 o3 gr3 hb3;rw[sU]at o3 hb3⊢;have HB3:=aa (HB2.o.trans (grown_below HW2.o gr3 HB2.o.size));have HW3:=aa o3;have HG3:=aa gr3;have HBk3:=aa hb3;have HQ3:=aa (mu HQ2.o gr3 (by simp[ta];have:=HZ2.o;have:=HZ1.o;omega))
        refine hKK _ _ (fun _=>trivial) (HT.o _ HB3.o) ?_
        clear hKK KK o3 gr3 hb3;refine aH rfl (by kernel_rfl) fun KK hKK=>?_
        refine aN _ _ rfl v0.heap.size (.slice vo3 k vc3) k ([]++M.take k) rfl HW3.o (some ⟨v0.heap.size,0,none⟩) 1 1 [z] rfl (cw HQ3.o) rfl (by omega) HB3.o.size ?_
        intro vo4 vc4 v4 o4 gr4 hb4;have HB4:=aa (HB3.o.trans (grown_below HW3.o gr4 HB3.o.size));have HW4:=aa o4;have HG4:=aa gr4;have HBk4:=aa hb4;refine hKK _ _ (fun _=>trivial) (HT.o _ HB4.o) ?_
        clear hKK KK o4 gr4 hb4;refine aH rfl (by kernel_rfl) fun KK hKK=>?_
        refine aN _ _ rfl v0.heap.size (.slice vo4 (k+1) vc4) (k+1) ([]++M.take k++[z]) rfl HW4.o (ao) (m-k) (vc-k) (M.drop k) rfl (HRD.o _ HB4.o) HLD.o (by omega) HB4.o.size ?_
        intro vo5 vc5 v5 o5 gr5 hb5;have HB5:=aa (HB4.o.trans (grown_below HW4.o gr5 HB4.o.size));have HW5:=aa o5;have HG5:=aa gr5;have HBk5:=aa hb5;refine hKK _ _ (fun _=>trivial) (HT.o _ HB5.o) ?_
        clear hKK KK o5 gr5 hb5;refine cT ?_ rfl (by kernel_rfl) (fun w' hS=>?_) ?_;(rotate_left;(go_simp;with_reducible rfl);rotate_left)
        refine cg (sX ?_);have HFin:=aa (show v5.ownsRow w3.heap.size 3 1 (.slice vo5 (m+1) vc5) (m+1) (bf (M.take k++[z]++M.drop k)) by
         have h1:=aZ HW5.o HB0s.o;rw[show k+1+(m-k)=m+1 by omega,sV]at h1
         exact h1)
        have HFb:=aa (HBr.o.trans (HBv.o.trans (HB5.o.mono HBv.o.size) |>.mono HBr.o.size))
        have em:k+1+(m-k)=m+1:=by omega
        rw[em];clear em;go_wp2;go_roundw
        case rel=>exact⟨i+1,m+1,vo5,vc5,M.take k++[z]++M.drop k,rfl,by go_num,by omega,by omega,aa (by rw[iY M z (by rw[<- HM.o];exact hk),<- HM.o]),HFin,HPut,HFb⟩
        case measure=>simp[td];omega
    ·have k1:¬(k:Int)<(m:Int):=by omega
     have hkm2:k=m:=by omega
     rcases HOw.o.2 with ⟨h1,h2⟩|⟨g,cap,cur,h1,h2,h3,h4,h5⟩
     ·cases h1
      obtain rfl:k=0:=by omega
      obtain rfl:M=[]:=tq.1 HM.o.symm;clear hkm2 HRM0 HOw h2;go_wp2_with fail;go_quiet (fail);obtain⟨wq,hwq⟩:=am (wr.drewN nq);have HBq:ae (sR wo.heap.size wo wq):=aa (by rw[hwq];exact⟨HB.o.os,HB.o.tape,HB.o.output,HB.o.size,HB.o.block⟩)
      rw[<- hwq];clear hwq;go_wp2_with fail;go_quiet (fail);obtain⟨wx,hwq⟩:=am (wq.drewN nq);have HBx:ae (sR wo.heap.size wo wx):=aa (by rw[hwq];exact⟨HBq.o.os,HBq.o.tape,HBq.o.output,HBq.o.size,HBq.o.block⟩)
      rw[<- hwq];clear hwq;go_wp2_with fail;have HBr:=aa (HBr0.o.trans (HBx.o.mono HBr0.o.size));have HCz:ae (wx.cell? (ad.add i)=some (.int .i64 z)):=aa ((HBr.o.cell (p:=ad.add i) (by rw[add_blk];exact HAd.o)).trans HCz0.o)
      have HPut:=aa (fun(x:Int)(hx:x∈L.take (i+1))=>zap (M:=[]) (k:=0) HTk.o x hx)
      have HLT:ae (0=(([]:List Int).take 0).length):=aa rfl;have HLD:ae (0-0=(([]:List Int).drop 0).length):=aa rfl;clear HBq k1 HTk HCz0;obtain⟨v0,hv0⟩:=am wx.drew;have HBv:ae (sR wx.heap.size wx v0):=aa (by rw[hv0];exact(sY _ _).drew)
      have HB0:=aa (sY v0.heap.size v0);have HT:=aa (fun(W:sT)(h:sR v0.heap.size v0 W)=>show W.cell? (ad.add i)=some (.int .i64 z)/\True from⟨(((HBv.o.trans (h.mono HBv.o.size))).cell (p:=ad.add i) (by rw[add_blk];exact ti HAd.o (HBr.o.size))).trans HCz.o,trivial⟩)
      have HB0s:ae (w3.heap.size<=v0.heap.size):=aa (tC HBr.o.size HBv.o.size);have HRT:=aa (fun(W:sT)(_:sR v0.heap.size v0 W)=>show RdI W none (([]:List Int).take 0)from by rw[List.take_nil];exact iX _ _)
      have HRD:=aa (fun(W:sT)(_:sR v0.heap.size v0 W)=>show RdI W none (([]:List Int).drop 0)from by rw[List.drop_nil];exact iX _ _)
      refine dp (.one 1 1 (.one 2 1 (.one 3 1 (.one 5 1 (.one 6 1 (.one 7 1 (.one 8 1 (.one 11 1 (.one 12 1 (.one 13 1 (.two 0 9 (.two 4 9 (.one 9 2 (.one 10 2 (.one 14 2 (.one 15 1 .nil)))) (.one 4 2 (.one 10 2 (.one 14 2 (.one 15 1 .nil))))) (.one 0 2 (.one 4 2 (.one 10 2 (.one 14 2 (.one 15 1 .nil)))))))))))))))) (fun _=>True) (fun W=>W.cell? (ad.add i)=some (.int .i64 z)/\True) (fun _=>false) (by kernel_rfl) (by kernel_rfl) (fun j hj=>by cases hj) rfl (by kernel_rfl) trivial (HT.o _ (by rw[hv0];exact sY _ _)) ?_
      rw[<- hv0];clear hv0
      iterate 10 (refine cT ?_ rfl (by kernel_rfl) (fun w' hS=>?_) ?_;(rotate_left;(obtain⟨s1,_⟩:=hS;go_simp;with_reducible rfl);rotate_left))
      refine dQ ?x0 ?x9
      case x0=>
       refine bM rfl (by kernel_rfl) fun KK hKK=>?_
       go_simp;have HB1:=aa (HB0.o.trans ((below_box (w:=v0) (o:=.cells #[] 3)).mono HB0.o.size));refine hKK _ _ (fun _=>trivial) (HT.o _ HB1.o) ?_
       clear hKK KK;obtain⟨v1,hv1⟩:=am (v0.alloc (.cells #[] 3));rw[<- hv1]at HB1;rw[<- hv1];have HZ1:ae (v1.heap.size=v0.heap.size+1):=aa (by rw[hv1];simp)
       have HW1:ae (v1.ownsRow v0.heap.size 3 1 (.slice (some ⟨v0.heap.size,0,none⟩) 0 0) 0 (bf [])):=aa (by rw[hv1];exact aZ (fL v0) HB0.o.size)
       have HK1:ae (sR v0.heap.size v0 v1):=aa (by rw[hv1];exact below_box)
       clear hv1;refine dQ ?x04 ?x09
       case x04=>
        refine bM rfl (by kernel_rfl) fun KK hKK=>?_
        refine aN _ _ rfl v0.heap.size (.slice (some ⟨v0.heap.size,0,none⟩) 0 0) 0 [] rfl HW1.o (none) 0 0 (([]:List Int).take 0) rfl (HRT.o _ HB1.o) HLT.o (by omega) HB1.o.size ?_
        intro vo2 vc2 v2 o2 gr2 hb2;rw[sU]at o2 hb2⊢;have HB2:=aa (HB1.o.trans (grown_below HW1.o gr2 HB1.o.size));have HW2:=aa o2;have HG2:=aa gr2;have HBk2:=aa hb2;refine hKK _ _ (fun _=>trivial) (HT.o _ HB2.o) ?_
        clear hKK KK o2 gr2 hb2;refine aH rfl (by kernel_rfl) fun KK hKK=>?_
        go_simp;have HB3:=aa (HB2.o.trans ((below_box (w:=v2) (o:=.cells #[.int .i64 z] 3)).mono HB2.o.size));refine hKK _ _ (fun _=>trivial) (HT.o _ HB3.o) ?_
        clear hKK KK;obtain⟨v3,hv3⟩:=am (v2.alloc (.cells #[.int .i64 z] 3));rw[<- hv3]at HB3;rw[<- hv3];have HZ3:ae (v3.heap.size=v2.heap.size+1):=aa (by rw[hv3];simp)
        have HQ3:ae (v3.heap[v2.heap.size]?=some (.cells #[.int .i64 z] 3)):=aa (by rw[hv3];exact heap_alloc_new _ _)
        have HK3:ae (sR v2.heap.size v2 v3):=aa (by rw[hv3];exact below_box)
        clear hv3;have HW3:=aa (aD HW2.o HK3.o);refine aH rfl (by kernel_rfl) fun KK hKK=>?_
        refine aN _ _ rfl v0.heap.size (.slice vo2 0 vc2) 0 ([]++([]:List Int).take 0) rfl HW3.o (some ⟨v2.heap.size,0,none⟩) 1 1 [z] rfl (cw HQ3.o) rfl (by omega) HB3.o.size ?_
        intro vo4 vc4 v4 o4 gr4 hb4;have HB4:=aa (HB3.o.trans (grown_below HW3.o gr4 HB3.o.size));have HW4:=aa o4;have HG4:=aa gr4;have HBk4:=aa hb4;refine hKK _ _ (fun _=>trivial) (HT.o _ HB4.o) ?_
        clear hKK KK o4 gr4 hb4;refine aH rfl (by kernel_rfl) fun KK hKK=>?_
        refine aN _ _ rfl v0.heap.size (.slice vo4 (0+1) vc4) (0+1) ([]++([]:List Int).take 0++[z]) rfl HW4.o (none) (0-0) 0 (([]:List Int).drop 0) rfl (HRD.o _ HB4.o) HLD.o (by omega) HB4.o.size ?_
        intro vo5 vc5 v5 o5 gr5 hb5;have HB5:=aa (HB4.o.trans (grown_below HW4.o gr5 HB4.o.size));have HW5:=aa o5;have HG5:=aa gr5;have HBk5:=aa hb5;refine hKK _ _ (fun _=>trivial) (HT.o _ HB5.o) ?_
        clear hKK KK o5 gr5 hb5;refine cT ?_ rfl (by kernel_rfl) (fun w' hS=>?_) ?_;(rotate_left;(go_simp;with_reducible rfl);rotate_left)
        refine cg (sX ?_);have HFin:=aa (show v5.ownsRow w3.heap.size 3 1 (.slice vo5 (0+1) vc5) (0+1) (bf (([]:List Int).take 0++[z]++([]:List Int).drop 0)) by
         have h1:=aZ HW5.o HB0s.o;rw[show 0+1+(0-0)=0+1 by omega,sV]at h1
         exact h1)
        have HFb:=aa (HBr.o.trans (HBv.o.trans (HB5.o.mono HBv.o.size) |>.mono HBr.o.size))
        have em:0+1+(0-0)=0+1:=by omega
        rw[em];clear em;go_wp2;go_roundw
        case rel=>exact⟨i+1,0+1,vo5,vc5,([]:List Int).take 0++[z]++([]:List Int).drop 0,rfl,by go_num,by omega,by omega,aa (rfl),HFin,HPut,HFb⟩
        case measure=>simp[td];omega
       case x09=>
        refine bM rfl (by kernel_rfl) fun KK hKK=>?_
        go_simp;have HB2:=aa (HB1.o.trans ((below_box (w:=v1) (o:=.cells #[.int .i64 z] 3)).mono HB1.o.size));refine hKK _ _ (fun _=>trivial) (HT.o _ HB2.o) ?_
        clear hKK KK;obtain⟨v2,hv2⟩:=am (v1.alloc (.cells #[.int .i64 z] 3));rw[<- hv2]at HB2;rw[<- hv2];have HZ2:ae (v2.heap.size=v1.heap.size+1):=aa (by rw[hv2];simp)
        have HQ2:ae (v2.heap[v1.heap.size]?=some (.cells #[.int .i64 z] 3)):=aa (by rw[hv2];exact heap_alloc_new _ _)
        have HK2:ae (sR v1.heap.size v1 v2):=aa (by rw[hv2];exact below_box)
        clear hv2;have HW2:=aa (aD HW1.o HK2.o);refine aH rfl (by kernel_rfl) fun KK hKK=>?_
        refine aN _ _ rfl v0.heap.size (.slice (some ⟨v0.heap.size,0,none⟩) 0 0) 0 [] rfl HW2.o (none) 0 0 (([]:List Int).take 0) rfl (HRT.o _ HB2.o) HLT.o (by omega) HB2.o.size ?_
        intro vo3 vc3 v3 o3 gr3 hb3;rw[sU]at o3 hb3⊢;have HB3:=aa (HB2.o.trans (grown_below HW2.o gr3 HB2.o.size));have HW3:=aa o3;have HG3:=aa gr3;have HBk3:=aa hb3;have HQ3:=aa (mu HQ2.o gr3 (by simp[ta];have:=HZ2.o;have:=HZ1.o;omega))
        refine hKK _ _ (fun _=>trivial) (HT.o _ HB3.o) ?_
        clear hKK KK o3 gr3 hb3;refine aH rfl (by kernel_rfl) fun KK hKK=>?_
        refine aN _ _ rfl v0.heap.size (.slice vo3 0 vc3) 0 ([]++([]:List Int).take 0) rfl HW3.o (some ⟨v1.heap.size,0,none⟩) 1 1 [z] rfl (cw HQ3.o) rfl (by omega) HB3.o.size ?_
        intro vo4 vc4 v4 o4 gr4 hb4;have HB4:=aa (HB3.o.trans (grown_below HW3.o gr4 HB3.o.size));have HW4:=aa o4;have HG4:=aa gr4;have HBk4:=aa hb4;refine hKK _ _ (fun _=>trivial) (HT.o _ HB4.o) ?_
        clear hKK KK o4 gr4 hb4;refine aH rfl (by kernel_rfl) fun KK hKK=>?_
        refine aN _ _ rfl v0.heap.size (.slice vo4 (0+1) vc4) (0+1) ([]++([]:List Int).take 0++[z]) rfl HW4.o (none) (0-0) 0 (([]:List Int).drop 0) rfl (HRD.o _ HB4.o) HLD.o (by omega) HB4.o.size ?_
        intro vo5 vc5 v5 o5 gr5 hb5;have HB5:=aa (HB4.o.trans (grown_below HW4.o gr5 HB4.o.size));have HW5:=aa o5;have HG5:=aa gr5;have HBk5:=aa hb5;refine hKK _ _ (fun _=>trivial) (HT.o _ HB5.o) ?_
        clear hKK KK o5 gr5 hb5;refine cT ?_ rfl (by kernel_rfl) (fun w' hS=>?_) ?_;(rotate_left;(go_simp;with_reducible rfl);rotate_left)
        refine cg (sX ?_);have HFin:=aa (show v5.ownsRow w3.heap.size 3 1 (.slice vo5 (0+1) vc5) (0+1) (bf (([]:List Int).take 0++[z]++([]:List Int).drop 0)) by
         have h1:=aZ HW5.o HB0s.o;rw[show 0+1+(0-0)=0+1 by omega,sV]at h1
         exact h1)
        have HFb:=aa (HBr.o.trans (HBv.o.trans (HB5.o.mono HBv.o.size) |>.mono HBr.o.size))
        have em:0+1+(0-0)=0+1:=by omega
        rw[em];clear em;go_wp2;go_roundw
        case rel=>exact⟨i+1,0+1,vo5,vc5,([]:List Int).take 0++[z]++([]:List Int).drop 0,rfl,by go_num,by omega,by omega,aa (rfl),HFin,HPut,HFb⟩
        case measure=>simp[td];omega
      case x9=>
       refine bM rfl (by kernel_rfl) fun KK hKK=>?_
       go_simp;have HB1:=aa (HB0.o.trans ((below_box (w:=v0) (o:=.cells #[.int .i64 z] 3)).mono HB0.o.size));refine hKK _ _ (fun _=>trivial) (HT.o _ HB1.o) ?_
       clear hKK KK;obtain⟨v1,hv1⟩:=am (v0.alloc (.cells #[.int .i64 z] 3));rw[<- hv1]at HB1;rw[<- hv1];have HZ1:ae (v1.heap.size=v0.heap.size+1):=aa (by rw[hv1];simp)
       have HQ1:ae (v1.heap[v0.heap.size]?=some (.cells #[.int .i64 z] 3)):=aa (by rw[hv1];exact heap_alloc_new _ _)
       have HK1:ae (sR v0.heap.size v0 v1):=aa (by rw[hv1];exact below_box)
       clear hv1;refine aH rfl (by kernel_rfl) fun KK hKK=>?_
       go_simp;have HB2:=aa (HB1.o.trans ((below_box (w:=v1) (o:=.cells #[] 3)).mono HB1.o.size));refine hKK _ _ (fun _=>trivial) (HT.o _ HB2.o) ?_
       clear hKK KK;obtain⟨v2,hv2⟩:=am (v1.alloc (.cells #[] 3));rw[<- hv2]at HB2;rw[<- hv2];have HZ2:ae (v2.heap.size=v1.heap.size+1):=aa (by rw[hv2];simp)
       have HW2:ae (v2.ownsRow v0.heap.size 3 1 (.slice (some ⟨v1.heap.size,0,none⟩) 0 0) 0 (bf [])):=aa (by rw[hv2];exact aZ (fL v1) HB1.o.size)
       have HK2:ae (sR v1.heap.size v1 v2):=aa (by rw[hv2];exact below_box)
       clear hv2;have HQ2:=aa ((HK2.o.block _ (ag HQ1.o)).trans HQ1.o);refine aH rfl (by kernel_rfl) fun KK hKK=>?_
       refine aN _ _ rfl v0.heap.size (.slice (some ⟨v1.heap.size,0,none⟩) 0 0) 0 [] rfl HW2.o (none) 0 0 (([]:List Int).take 0) rfl (HRT.o _ HB2.o) HLT.o (by omega) HB2.o.size ?_
       intro vo3 vc3 v3 o3 gr3 hb3;rw[sU]at o3 hb3⊢;have HB3:=aa (HB2.o.trans (grown_below HW2.o gr3 HB2.o.size));have HW3:=aa o3;have HG3:=aa gr3;have HBk3:=aa hb3;have HQ3:=aa (mu HQ2.o gr3 (by simp[ta];have:=HZ2.o;have:=HZ1.o;omega))
       refine hKK _ _ (fun _=>trivial) (HT.o _ HB3.o) ?_
       clear hKK KK o3 gr3 hb3;refine aH rfl (by kernel_rfl) fun KK hKK=>?_
       refine aN _ _ rfl v0.heap.size (.slice vo3 0 vc3) 0 ([]++([]:List Int).take 0) rfl HW3.o (some ⟨v0.heap.size,0,none⟩) 1 1 [z] rfl (cw HQ3.o) rfl (by omega) HB3.o.size ?_
       intro vo4 vc4 v4 o4 gr4 hb4;have HB4:=aa (HB3.o.trans (grown_below HW3.o gr4 HB3.o.size));have HW4:=aa o4;have HG4:=aa gr4;have HBk4:=aa hb4;refine hKK _ _ (fun _=>trivial) (HT.o _ HB4.o) ?_
       clear hKK KK o4 gr4 hb4;refine aH rfl (by kernel_rfl) fun KK hKK=>?_
       refine aN _ _ rfl v0.heap.size (.slice vo4 (0+1) vc4) (0+1) ([]++([]:List Int).take 0++[z]) rfl HW4.o (none) (0-0) 0 (([]:List Int).drop 0) rfl (HRD.o _ HB4.o) HLD.o (by omega) HB4.o.size ?_
       intro vo5 vc5 v5 o5 gr5 hb5;have HB5:=aa (HB4.o.trans (grown_below HW4.o gr5 HB4.o.size));have HW5:=aa o5;have HG5:=aa gr5;have HBk5:=aa hb5;refine hKK _ _ (fun _=>trivial) (HT.o _ HB5.o) ?_
       clear hKK KK o5 gr5 hb5;refine cT ?_ rfl (by kernel_rfl) (fun w' hS=>?_) ?_;(rotate_left;(go_simp;with_reducible rfl);rotate_left)
       refine cg (sX ?_);have HFin:=aa (show v5.ownsRow w3.heap.size 3 1 (.slice vo5 (0+1) vc5) (0+1) (bf (([]:List Int).take 0++[z]++([]:List Int).drop 0)) by
        have h1:=aZ HW5.o HB0s.o;rw[show 0+1+(0-0)=0+1 by omega,sV]at h1
        exact h1)
       have HFb:=aa (HBr.o.trans (HBv.o.trans (HB5.o.mono HBv.o.size) |>.mono HBr.o.size))
       have em:0+1+(0-0)=0+1:=by omega
       rw[em];clear em;go_wp2;go_roundw
       case rel=>exact⟨i+1,0+1,vo5,vc5,([]:List Int).take 0++[z]++([]:List Int).drop 0,rfl,by go_num,by omega,by omega,aa (rfl),HFin,HPut,HFb⟩
       case measure=>simp[td];omega
     ·cases h1
      have HKM:=aa hkm2;clear hkm2 h2 h3 h4 h5;go_wp2_with fail;go_quiet (fail);obtain⟨wq,hwq⟩:=am (wr.drewN nq);have HBq:ae (sR wo.heap.size wo wq):=aa (by rw[hwq];exact⟨HB.o.os,HB.o.tape,HB.o.output,HB.o.size,HB.o.block⟩)
      rw[<- hwq];clear hwq;go_wp2_with fail;go_quiet (fail);obtain⟨wx,hwq⟩:=am (wq.drewN nq);have HBx:ae (sR wo.heap.size wo wx):=aa (by rw[hwq];exact⟨HBq.o.os,HBq.o.tape,HBq.o.output,HBq.o.size,HBq.o.block⟩)
      rw[<- hwq];clear hwq;go_wp2_with fail;have HBr:=aa (HBr0.o.trans (HBx.o.mono HBr0.o.size));have HCz:ae (wx.cell? (ad.add i)=some (.int .i64 z)):=aa ((HBr.o.cell (p:=ad.add i) (by rw[add_blk];exact HAd.o)).trans HCz0.o)
      have HRM:=aa (HRM0.o.below HBx.o);have HPut:=aa (fun(x:Int)(hx:x∈L.take (i+1))=>zap (M:=M) (k:=k) HTk.o x hx)
      have HLT:ae (k=(M.take k).length):=aa (by rw[tD,<- HM.o];omega)
      have HLD:ae (m-k=(M.drop k).length):=aa (by rw[tp,<- HM.o])
      have k3:(k:Int)<=(m:Int):=by omega
      have k4:(m:Int)<=(vc:Int):=by omega
      have k5:(k:Int)<=(vc:Int):=by omega
      have k6:¬vc<k:=by omega
      clear HBq k1 HTk HCz0;obtain⟨v0,hv0⟩:=am wx.drew;have HBv:ae (sR wx.heap.size wx v0):=aa (by rw[hv0];exact(sY _ _).drew)
      have HB0:=aa (sY v0.heap.size v0);have HT:=aa (fun(W:sT)(h:sR v0.heap.size v0 W)=>show W.cell? (ad.add i)=some (.int .i64 z)/\True from⟨(((HBv.o.trans (h.mono HBv.o.size))).cell (p:=ad.add i) (by rw[add_blk];exact ti HAd.o (HBr.o.size))).trans HCz.o,trivial⟩)
      have HB0s:ae (w3.heap.size<=v0.heap.size):=aa (tC HBr.o.size HBv.o.size);have HR0:=aa (fun(W:sT)(h:sR v0.heap.size v0 W)=>show RdI W (some ⟨g,0,none⟩) M from HRM.o.below (HBv.o.trans (h.mono HBv.o.size)))
      have HRT:=aa (fun(W:sT)(h:sR v0.heap.size v0 W)=>oX (n:=k) (HR0.o W h))
      have HRD0:=aa (fun(ao:Option Addr)(hao:ao=if vc=k then some ⟨g,0,none⟩else some ⟨g,k,none⟩)(W:sT)(h:sR v0.heap.size v0 W)=>show RdI W ao (M.drop k)from by
       rw[hao]
       split
       ·rw[tt (by have:=HM.o;omega)];exact iX _ _
       ·have hd:=oY (n:=k) (HR0.o W h)
        rw[sU]at hd;exact hd)
      refine dp (.one 1 1 (.one 2 1 (.one 3 1 (.one 5 1 (.one 6 1 (.one 7 1 (.one 8 1 (.one 11 1 (.one 12 1 (.one 13 1 (.two 0 9 (.two 4 9 (.one 9 2 (.one 10 2 (.one 14 2 (.one 15 1 .nil)))) (.one 4 2 (.one 10 2 (.one 14 2 (.one 15 1 .nil))))) (.one 0 2 (.one 4 2 (.one 10 2 (.one 14 2 (.one 15 1 .nil)))))))))))))))) (fun _=>True) (fun W=>W.cell? (ad.add i)=some (.int .i64 z)/\True) (fun _=>false) (by kernel_rfl) (by kernel_rfl) (fun j hj=>by cases hj) rfl (by kernel_rfl) trivial (HT.o _ (by rw[hv0];exact sY _ _)) ?_
      rw[<- hv0];clear hv0
      iterate 10 (refine cT ?_ rfl (by kernel_rfl) (fun w' hS=>?_) ?_;(rotate_left;(obtain⟨s1,_⟩:=hS;go_simp;with_reducible rfl);rotate_left))
      obtain⟨ao,hao⟩:=am (if vc=k then some (⟨g,0,none⟩:Addr)else some ⟨g,k,none⟩);have HRD:=aa (HRD0.o ao hao)
      try rw[<- hao]
      clear hao HRD0;refine dQ ?x0 ?x9
      case x0=>
       refine bM rfl (by kernel_rfl) fun KK hKK=>?_
       go_simp;have HB1:=aa (HB0.o.trans ((below_box (w:=v0) (o:=.cells #[] 3)).mono HB0.o.size));refine hKK _ _ (fun _=>trivial) (HT.o _ HB1.o) ?_
       clear hKK KK;obtain⟨v1,hv1⟩:=am (v0.alloc (.cells #[] 3));rw[<- hv1]at HB1;rw[<- hv1];have HZ1:ae (v1.heap.size=v0.heap.size+1):=aa (by rw[hv1];simp)
       have HW1:ae (v1.ownsRow v0.heap.size 3 1 (.slice (some ⟨v0.heap.size,0,none⟩) 0 0) 0 (bf [])):=aa (by rw[hv1];exact aZ (fL v0) HB0.o.size)
       have HK1:ae (sR v0.heap.size v0 v1):=aa (by rw[hv1];exact below_box)
       clear hv1;refine dQ ?x04 ?x09
       case x04=>
        refine bM rfl (by kernel_rfl) fun KK hKK=>?_
        refine aN _ _ rfl v0.heap.size (.slice (some ⟨v0.heap.size,0,none⟩) 0 0) 0 [] rfl HW1.o (some ⟨g,0,none⟩) k vc (M.take k) rfl (HRT.o _ HB1.o) HLT.o (by omega) HB1.o.size ?_
        intro vo2 vc2 v2 o2 gr2 hb2;rw[sU]at o2 hb2⊢;have HB2:=aa (HB1.o.trans (grown_below HW1.o gr2 HB1.o.size));have HW2:=aa o2;have HG2:=aa gr2;have HBk2:=aa hb2;refine hKK _ _ (fun _=>trivial) (HT.o _ HB2.o) ?_
        clear hKK KK o2 gr2 hb2;refine aH rfl (by kernel_rfl) fun KK hKK=>?_
        go_simp;have HB3:=aa (HB2.o.trans ((below_box (w:=v2) (o:=.cells #[.int .i64 z] 3)).mono HB2.o.size));refine hKK _ _ (fun _=>trivial) (HT.o _ HB3.o) ?_
        clear hKK KK;obtain⟨v3,hv3⟩:=am (v2.alloc (.cells #[.int .i64 z] 3));rw[<- hv3]at HB3;rw[<- hv3];have HZ3:ae (v3.heap.size=v2.heap.size+1):=aa (by rw[hv3];simp)
        have HQ3:ae (v3.heap[v2.heap.size]?=some (.cells #[.int .i64 z] 3)):=aa (by rw[hv3];exact heap_alloc_new _ _)
        have HK3:ae (sR v2.heap.size v2 v3):=aa (by rw[hv3];exact below_box)
        clear hv3;have HW3:=aa (aD HW2.o HK3.o);refine aH rfl (by kernel_rfl) fun KK hKK=>?_
        refine aN _ _ rfl v0.heap.size (.slice vo2 k vc2) k ([]++M.take k) rfl HW3.o (some ⟨v2.heap.size,0,none⟩) 1 1 [z] rfl (cw HQ3.o) rfl (by omega) HB3.o.size ?_
        intro vo4 vc4 v4 o4 gr4 hb4;have HB4:=aa (HB3.o.trans (grown_below HW3.o gr4 HB3.o.size));have HW4:=aa o4;have HG4:=aa gr4;have HBk4:=aa hb4;refine hKK _ _ (fun _=>trivial) (HT.o _ HB4.o) ?_
        clear hKK KK o4 gr4 hb4;refine aH rfl (by kernel_rfl) fun KK hKK=>?_
        refine aN _ _ rfl v0.heap.size (.slice vo4 (k+1) vc4) (k+1) ([]++M.take k++[z]) rfl HW4.o (ao) (m-k) (vc-k) (M.drop k) rfl (HRD.o _ HB4.o) HLD.o (by omega) HB4.o.size ?_
        intro vo5 vc5 v5 o5 gr5 hb5;have HB5:=aa (HB4.o.trans (grown_below HW4.o gr5 HB4.o.size));have HW5:=aa o5;have HG5:=aa gr5;have HBk5:=aa hb5;refine hKK _ _ (fun _=>trivial) (HT.o _ HB5.o) ?_
        clear hKK KK o5 gr5 hb5;refine cT ?_ rfl (by kernel_rfl) (fun w' hS=>?_) ?_;(rotate_left;(go_simp;with_reducible rfl);rotate_left)
        refine cg (sX ?_);have HFin:=aa (show v5.ownsRow w3.heap.size 3 1 (.slice vo5 (m+1) vc5) (m+1) (bf (M.take k++[z]++M.drop k)) by
         have h1:=aZ HW5.o HB0s.o;rw[show k+1+(m-k)=m+1 by omega,sV]at h1
         exact h1)
        have HFb:=aa (HBr.o.trans (HBv.o.trans (HB5.o.mono HBv.o.size) |>.mono HBr.o.size))
        have em:k+1+(m-k)=m+1:=by omega
        rw[em];clear em;go_wp2;go_roundw
        case rel=>exact⟨i+1,m+1,vo5,vc5,M.take k++[z]++M.drop k,rfl,by go_num,by omega,by omega,aa (by rw[iY M z (by rw[<- HM.o];exact hk),<- HM.o]),HFin,HPut,HFb⟩
        case measure=>simp[td];omega
       case x09=>
        refine bM rfl (by kernel_rfl) fun KK hKK=>?_
        go_simp;have HB2:=aa (HB1.o.trans ((below_box (w:=v1) (o:=.cells #[.int .i64 z] 3)).mono HB1.o.size));refine hKK _ _ (fun _=>trivial) (HT.o _ HB2.o) ?_
        clear hKK KK;obtain⟨v2,hv2⟩:=am (v1.alloc (.cells #[.int .i64 z] 3));rw[<- hv2]at HB2;rw[<- hv2];have HZ2:ae (v2.heap.size=v1.heap.size+1):=aa (by rw[hv2];simp)
        have HQ2:ae (v2.heap[v1.heap.size]?=some (.cells #[.int .i64 z] 3)):=aa (by rw[hv2];exact heap_alloc_new _ _)
        have HK2:ae (sR v1.heap.size v1 v2):=aa (by rw[hv2];exact below_box)
        clear hv2;have HW2:=aa (aD HW1.o HK2.o);refine aH rfl (by kernel_rfl) fun KK hKK=>?_
        refine aN _ _ rfl v0.heap.size (.slice (some ⟨v0.heap.size,0,none⟩) 0 0) 0 [] rfl HW2.o (some ⟨g,0,none⟩) k vc (M.take k) rfl (HRT.o _ HB2.o) HLT.o (by omega) HB2.o.size ?_
        intro vo3 vc3 v3 o3 gr3 hb3;rw[sU]at o3 hb3⊢;have HB3:=aa (HB2.o.trans (grown_below HW2.o gr3 HB2.o.size));have HW3:=aa o3;have HG3:=aa gr3;have HBk3:=aa hb3;have HQ3:=aa (mu HQ2.o gr3 (by simp[ta];have:=HZ2.o;have:=HZ1.o;omega))
        refine hKK _ _ (fun _=>trivial) (HT.o _ HB3.o) ?_
        clear hKK KK o3 gr3 hb3;refine aH rfl (by kernel_rfl) fun KK hKK=>?_
        refine aN _ _ rfl v0.heap.size (.slice vo3 k vc3) k ([]++M.take k) rfl HW3.o (some ⟨v1.heap.size,0,none⟩) 1 1 [z] rfl (cw HQ3.o) rfl (by omega) HB3.o.size ?_
        intro vo4 vc4 v4 o4 gr4 hb4;have HB4:=aa (HB3.o.trans (grown_below HW3.o gr4 HB3.o.size));have HW4:=aa o4;have HG4:=aa gr4;have HBk4:=aa hb4;refine hKK _ _ (fun _=>trivial) (HT.o _ HB4.o) ?_
        clear hKK KK o4 gr4 hb4;refine aH rfl (by kernel_rfl) fun KK hKK=>?_
        refine aN _ _ rfl v0.heap.size (.slice vo4 (k+1) vc4) (k+1) ([]++M.take k++[z]) rfl HW4.o (ao) (m-k) (vc-k) (M.drop k) rfl (HRD.o _ HB4.o) HLD.o (by omega) HB4.o.size ?_
        intro vo5 vc5 v5 o5 gr5 hb5;have HB5:=aa (HB4.o.trans (grown_below HW4.o gr5 HB4.o.size));have HW5:=aa o5;have HG5:=aa gr5;have HBk5:=aa hb5;refine hKK _ _ (fun _=>trivial) (HT.o _ HB5.o) ?_
        clear hKK KK o5 gr5 hb5;refine cT ?_ rfl (by kernel_rfl) (fun w' hS=>?_) ?_;(rotate_left;(go_simp;with_reducible rfl);rotate_left)
        refine cg (sX ?_);have HFin:=aa (show v5.ownsRow w3.heap.size 3 1 (.slice vo5 (m+1) vc5) (m+1) (bf (M.take k++[z]++M.drop k)) by
         have h1:=aZ HW5.o HB0s.o;rw[show k+1+(m-k)=m+1 by omega,sV]at h1
         exact h1)
        have HFb:=aa (HBr.o.trans (HBv.o.trans (HB5.o.mono HBv.o.size) |>.mono HBr.o.size))
        have em:k+1+(m-k)=m+1:=by omega
        rw[em];clear em;go_wp2;go_roundw
        case rel=>exact⟨i+1,m+1,vo5,vc5,M.take k++[z]++M.drop k,rfl,by go_num,by omega,by omega,aa (by rw[iY M z (by rw[<- HM.o];exact hk),<- HM.o]),HFin,HPut,HFb⟩
        case measure=>simp[td];omega
      case x9=>
       refine bM rfl (by kernel_rfl) fun KK hKK=>?_
       go_simp;have HB1:=aa (HB0.o.trans ((below_box (w:=v0) (o:=.cells #[.int .i64 z] 3)).mono HB0.o.size));refine hKK _ _ (fun _=>trivial) (HT.o _ HB1.o) ?_
       clear hKK KK;obtain⟨v1,hv1⟩:=am (v0.alloc (.cells #[.int .i64 z] 3));rw[<- hv1]at HB1;rw[<- hv1];have HZ1:ae (v1.heap.size=v0.heap.size+1):=aa (by rw[hv1];simp)
       have HQ1:ae (v1.heap[v0.heap.size]?=some (.cells #[.int .i64 z] 3)):=aa (by rw[hv1];exact heap_alloc_new _ _)
       have HK1:ae (sR v0.heap.size v0 v1):=aa (by rw[hv1];exact below_box)
       clear hv1;refine aH rfl (by kernel_rfl) fun KK hKK=>?_
       go_simp;have HB2:=aa (HB1.o.trans ((below_box (w:=v1) (o:=.cells #[] 3)).mono HB1.o.size));refine hKK _ _ (fun _=>trivial) (HT.o _ HB2.o) ?_
       clear hKK KK;obtain⟨v2,hv2⟩:=am (v1.alloc (.cells #[] 3));rw[<- hv2]at HB2;rw[<- hv2];have HZ2:ae (v2.heap.size=v1.heap.size+1):=aa (by rw[hv2];simp)
       have HW2:ae (v2.ownsRow v0.heap.size 3 1 (.slice (some ⟨v1.heap.size,0,none⟩) 0 0) 0 (bf [])):=aa (by rw[hv2];exact aZ (fL v1) HB1.o.size)
       have HK2:ae (sR v1.heap.size v1 v2):=aa (by rw[hv2];exact below_box)
       clear hv2;have HQ2:=aa ((HK2.o.block _ (ag HQ1.o)).trans HQ1.o);refine aH rfl (by kernel_rfl) fun KK hKK=>?_
       refine aN _ _ rfl v0.heap.size (.slice (some ⟨v1.heap.size,0,none⟩) 0 0) 0 [] rfl HW2.o (some ⟨g,0,none⟩) k vc (M.take k) rfl (HRT.o _ HB2.o) HLT.o (by omega) HB2.o.size ?_
       intro vo3 vc3 v3 o3 gr3 hb3;rw[sU]at o3 hb3⊢;have HB3:=aa (HB2.o.trans (grown_below HW2.o gr3 HB2.o.size));have HW3:=aa o3;have HG3:=aa gr3;have HBk3:=aa hb3;have HQ3:=aa (mu HQ2.o gr3 (by simp[ta];have:=HZ2.o;have:=HZ1.o;omega))
       refine hKK _ _ (fun _=>trivial) (HT.o _ HB3.o) ?_
       clear hKK KK o3 gr3 hb3;refine aH rfl (by kernel_rfl) fun KK hKK=>?_
       refine aN _ _ rfl v0.heap.size (.slice vo3 k vc3) k ([]++M.take k) rfl HW3.o (some ⟨v0.heap.size,0,none⟩) 1 1 [z] rfl (cw HQ3.o) rfl (by omega) HB3.o.size ?_
       intro vo4 vc4 v4 o4 gr4 hb4;have HB4:=aa (HB3.o.trans (grown_below HW3.o gr4 HB3.o.size));have HW4:=aa o4;have HG4:=aa gr4;have HBk4:=aa hb4;refine hKK _ _ (fun _=>trivial) (HT.o _ HB4.o) ?_
       clear hKK KK o4 gr4 hb4;refine aH rfl (by kernel_rfl) fun KK hKK=>?_
       refine aN _ _ rfl v0.heap.size (.slice vo4 (k+1) vc4) (k+1) ([]++M.take k++[z]) rfl HW4.o (ao) (m-k) (vc-k) (M.drop k) rfl (HRD.o _ HB4.o) HLD.o (by omega) HB4.o.size ?_
       intro vo5 vc5 v5 o5 gr5 hb5;have HB5:=aa (HB4.o.trans (grown_below HW4.o gr5 HB4.o.size));have HW5:=aa o5;have HG5:=aa gr5;have HBk5:=aa hb5;refine hKK _ _ (fun _=>trivial) (HT.o _ HB5.o) ?_
       clear hKK KK o5 gr5 hb5;refine cT ?_ rfl (by kernel_rfl) (fun w' hS=>?_) ?_;(rotate_left;(go_simp;with_reducible rfl);rotate_left)
       refine cg (sX ?_);have HFin:=aa (show v5.ownsRow w3.heap.size 3 1 (.slice vo5 (m+1) vc5) (m+1) (bf (M.take k++[z]++M.drop k)) by
        have h1:=aZ HW5.o HB0s.o;rw[show k+1+(m-k)=m+1 by omega,sV]at h1
        exact h1)
       have HFb:=aa (HBr.o.trans (HBv.o.trans (HB5.o.mono HBv.o.size) |>.mono HBr.o.size))
       have em:k+1+(m-k)=m+1:=by omega
       rw[em];clear em;go_wp2;go_roundw
       case rel=>exact⟨i+1,m+1,vo5,vc5,M.take k++[z]++M.drop k,rfl,by go_num,by omega,by omega,aa (by rw[iY M z (by rw[<- HM.o];exact hk),<- HM.o]),HFin,HPut,HFb⟩
       case measure=>simp[td];omega
  ·have i1:¬(i:Int)<(n:Int):=by omega
   have HQ:ae (FlQ p w (.returned (.slice vo m vc)) wr):=aa ⟨vo,vc,M,by rw[HM.o],zjh HOw.o HM.o HB3.o.size,HF.o.mono fun x hx=>HIn.o x (by rw[List.take_of_length_le (by have:=HNn.o;omega)];exact hx),by have:=HM.o;omega,HB3.o.trans (HBr0.o.mono HB3.o.size)⟩
   go_wp2;go_ret;exact HQ.o
end Pt
end
end Go.Proofs.YtbbapnpdfcgjnaaGreatDoor
