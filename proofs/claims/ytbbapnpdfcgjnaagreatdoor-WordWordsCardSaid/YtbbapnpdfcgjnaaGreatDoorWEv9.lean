/- Ev9, Ev10, EvS: parts of the proof, joined. -/
import Derived.Lib.UnsafeStr
import Derived.Test.YtbbapnpdfcgjnaaGreatDoorWEv2
open Go renaming Value->sD, TypeId->sI, MapEntry->sR, Program->sT, runtimePanic->tr, TypeDesc->tu, loadBytes->tw, unsupported->tA, liesAt->tE
open Go.Result renaming andThen->sE
open Go.Sem renaming run_bind->sG
open Go.Instr renaming findNow->sH, sliceBounds->sM, findKey->sP, sliceAt->sQ, checkKey->sV, sameBits->sW, makeMap->sX, sliceBound->sZ, lookup->tc, mapUpdate->te, slice->ti, sameNow->tk, makeSlice->tC
open Array renaming getElem?_eq_some_iff->sJ, getElem?_setIfInBounds->sS, getElem?_modify->tf, length_toList->tj, ext_getElem?->tp, range->tI
open Option renaming getD_some->sK, getD_none->sO
open Go.IntKind renaming i64->sL
open Go.Builtin renaming unsafeString_->sN, len_->sU
open List renaming length_cons->sY, length_drop->tz
open Go.World renaming shape?->ta
open Option.some renaming inj->td
open Nat renaming le_refl->tg, min_eq_left->tB, zero_add->tF, add_zero->tG
set_option maxHeartbeats 64000000
namespace Go.Proofs.YtbbapnpdfcgjnaaGreatDoor
section
namespace Ev
variable {P:sT} {μ:Mu} {A:AW} {w:World}
theorem zdS{b o t:Nat}{c:Array sD}{fr:Nat×Nat}(h:w.heap[b]?=some (.cells c t fr)):(Conv.seenAt ⟨b,o,none⟩).run P w=.ok ⟨b,o,none⟩ w:=by simp[Conv.seenAt,viewAt,ta,h]
noncomputable def oY(P:sT)(A:AW)(src dst:sI):sD->Option sD
 |.pointer (some a)=>match P.underlying src,P.underlying dst,A.get a.block with
  |some (.pointer t),some .unsafePointer,some (.cells vs _ _ _ _)=>match P.info? t with
   |some i=>if i.size≠0/\a.off<vs.length then some (.pointer (some a))else none
   |none=>none
  |some .unsafePointer,some (.pointer u),some (.cells vs t false _ _)=>match P.info? u with
   |some i=>if i.size≠0/\tE P P.depth t (vs.length / P.cellsOf t) a.off u 1=true then some (.pointer (some a))else none
   |none=>none
  |_,_,_=>none
 |_=>none
theorem zhv{src dst:sI}{x x' v:sD}(W:WR μ A w)(hx:VR μ x x')(h:oY P A src dst x=some v):∃v',(convert src dst x').run P w=.ok v' w/\VR μ v v':=by
 unfold oY at h;split at h
 ·rename_i a;have hx0:=hx;simp only[VR]at hx;obtain⟨a',rfl,hs,l,hm,rfl⟩:=hx;split at h
  ·rename_i t vs ty op fz es h1 h2 hg;split at h
   ·rename_i i hi;split at h
    ·rename_i hc;cases h;obtain⟨c,fr,h6,h8,h9,h10,hk,h11,h12⟩:=W.cells hm hg;refine⟨_,?_,hx0⟩;have hlt:¬c.size<=l.d+a.off:=by omega
     simp[convert,rU h1,rU h2,Conv.unsafePointer,zdS h6,cellsIn,ta,h6,rS hi,hc.1,hlt]
    ·cases h
   ·cases h
  ·rename_i u vs t fz es h1 h2 hg;split at h
   ·rename_i i hi;split at h
    ·rename_i hc;cases h;obtain⟨c,fr,h6,h8,h9,h10,hk,h11,h12⟩:=W.cells hm hg;obtain⟨hd0,hvl⟩:=h10 rfl;refine⟨_,?_,hx0⟩;have hl:tE P P.depth t (c.size / P.cellsOf t) (l.d+a.off) u 1=true:=by rw[h8,hd0,tF,<-hvl];exact hc.2
     simp[convert,rU h1,rU h2,Conv.unsafePointer,zdS h6,ta,h6,rS hi,hc.1,variablesAt,hl]
    ·cases h
   ·cases h
  ·cases h
 ·cases h
def kJ:sD->Option sD
 |.slice none _ _=>some (.pointer none)
 |.slice (some a) n c=>if 0<n/\(c=px\/c≠0)then some (.pointer (some a))else none
 |_=>none
theorem rI{ts:Array sI}{t:sI}{x x' v:sD}(hx:VR μ x x')(h:kJ x=some v):∃v',(Builtin.unsafeSliceData_ ts t #[x']).run P w=.ok v' w/\VR μ v v':=by
 unfold kJ at h;split at h
 ·cases h;simp only[VR]at hx;subst hx;exact⟨_,rfl,by simp[VR]⟩
 ·rename_i a n c;split at h
  ·rename_i hc;cases h;simp only[VR]at hx;obtain⟨a',c',rfl,hs⟩:=hx;have hc':c'≠0:=by
    rcases hs with ⟨h1,rfl,_⟩|⟨_,⟨h1,h2⟩|⟨_,h1,_⟩⟩
    ·exact hc.2.resolve_left h1
    ·omega
    ·omega
   refine⟨.pointer (some a'),Lib.run_unsafeSliceData_row w ts t a' n c' hc',?_⟩;simp only[VR];exact⟨_,rfl,hs.addr hc.1⟩
  ·cases h
 ·cases h
def dE:List sD->Option (List UInt8)
 |[]=>some []
 |.int .u8 b::r=>match dE r with
  |some bs=>some (b.toNat.toUInt8::bs)
  |none=>none
 |_::_=>none
theorem jX{b t:Nat}{c:Array sD}{fr:Nat×Nat}(h:w.heap[b]?=some (.cells c t fr)):∀(xs:List sD)(bs:List UInt8)(o:Nat)(acc:ByteArray),dE xs=some bs->(∀j v,xs[j]?=some v->c[o+j]?=some v)->
  (tw ⟨b,o,none⟩ acc xs.length).run P w=.ok ⟨(acc.data.toList++bs).toArray⟩ w
 |[],bs,o,acc,h1,_=>by simp only[dE]at h1;cases h1;simp[tw]
 |x::xs,bs,o,acc,h1,h2=>by
  unfold dE at h1;split at h1
  ·rename_i heq;cases heq
  ·rename_i n r heq;cases heq;split at h1
   ·rename_i bs' hbs;cases h1;have h0:=h2 0 (.int .u8 n) rfl;simp only[tG]at h0;have hc:w.cell? ⟨b,o,none⟩=some (.int .u8 n):=by simp[World.cell?,h,h0]
    have ih:=jX h xs bs' (o+1) (acc.push n.toNat.toUInt8) hbs (fun j v hj=>by have:=h2 (j+1) v (by simpa using hj);rwa [show o+1+j=o+(j+1) by omega]);simp only[tw,sY,sG,run_load,hc,sE];rw[gT,ih];simp[ByteArray.push]
   ·cases h1
  ·cases h1
theorem zgS{e u count off n:Nat}(hc:P.cellsOf e=1)(hs:sameLayout P P.depth e u=true)(h:off+n<=count):tE P P.depth e count off u n=true:=by have hd:∃d,P.depth=d+1:=⟨2*(P.types.size+Made.depth)+1,rfl⟩;obtain⟨d,hd⟩:=hd;rw[hd]at hs⊢;simp only[tE,hd,rowAt,hc,Nat.div_one,Nat.mod_one,hs];simp[h]
noncomputable def zcB(P:sT)(A:AW)(pt:sI)(p:sD):sD->Option (sD×AW)
 |.int _ n=>match p with
  |.pointer none=>if n=0 then some (.string .empty,A)else none
  |.pointer (some a)=>match P.underlying pt,A.get a.block with
   |some (.pointer u),some (.cells vs t op none es)=>
    if 0<n/\n<=1000000/\a.off=0/\n.toNat<=vs.length/\P.cellsOf t=1/\sameLayout P P.depth t u=true then
     match dE (vs.take n.toNat)with
     |some bs=>some (.string ⟨bs.toArray⟩,A.set a.block (some (.cells vs t op (some n.toNat) es)))
     |none=>none
    else none
   |_,_=>none
  |_=>none
 |_=>none
theorem gS:∀{l:List sD} {bs:List UInt8},dE l=some bs->bF l=true
 |[],_,_=>rfl
 |x::l,bs,h=>by
  unfold dE at h;split at h
  ·rename_i heq;cases heq
  ·rename_i n r heq;cases heq;split at h
   ·rename_i bs' hbs;simp[bF,bS,gS hbs]
   ·cases h
  ·cases h
theorem zhw{pt it:sI}{ty:sI}{p p' x x' v:sD}{A':AW}(W:WR μ A w)(hp:VR μ p p')(hx:VR μ x x')(h:zcB P A pt p x=some (v,A')):
  ∃v' w',(sN #[pt,it] ty #[p',x']).run P w=.ok v' w'/\VR μ v v'/\WR μ A' w'/\bG μ A w μ A' w':=by
 unfold zcB at h;split at h
 ·rename_i k n;simp only[VR]at hx;subst hx;split at h
  ·simp only[VR]at hp;subst hp;split at h
   ·rename_i h0;cases h;subst h0;refine⟨.string .empty,w,?_,by simp[VR],W,bG.refl⟩;have hdef:∃m1 m2 m3:String,sN #[pt,it] ty #[.pointer none,.int k 0]=
      (do
       let n <-asInt (.int k 0)
       if n<0 then tr (.error m1)
       if n>sL.max then tA (.unsafePointer m2)
       if n=0 then pure (.string .empty)
       else tr (.error m3)):=⟨_,_,_,rfl⟩
    obtain⟨m1,m2,m3,hdef⟩:=hdef;have hmax:sL.max=9223372036854775807:=rfl;rw[hdef];simp[asInt,asIntOf,hmax]
   ·cases h
  ·rename_i a;simp only[VR]at hp;obtain⟨a',rfl,hs,l,hm,rfl⟩:=hp;split at h
   ·rename_i u vs t op es hd hg;split at h
    ·rename_i hc;obtain⟨h0,hbig,hoff,hlen,hc1,hsl⟩:=hc;split at h
     ·rename_i bs hbs;cases h;obtain⟨c,fr,h6,h8,h9,h10,hk,h11,h12⟩:=W.cells hm hg;simp only[FZ]at h12;subst h12;have hpre:LR μ (vs.take n.toNat) ((c.toList.drop l.d).take n.toNat):=by have:=h11.take n.toNat;rwa [List.take_take,tB hlen]at this
      have heq:=bM (gS hbs) hpre;have hrun:=jX (P:=P) h6 (vs.take n.toNat) bs (l.d+a.off) .empty hbs (fun j v hj=>by rw[hoff,tG];rw[<-heq]at hj;exact iL hj);rw[List.length_take,tB hlen]at hrun;have hn1:¬n<0:=by omega
      have hn2:¬n>sL.max:=by
       have:(1000000:Int)<=sL.max:=by decide
       omega
      have hn3:¬n=0:=by omega
      have hl2:tE P P.depth t (c.size / P.cellsOf t) (l.d+a.off) u n.toNat=true:=zgS hc1 hsl (by rw[hc1,h8];simp;omega);have hlt:=W.lt hg hm;have hfz:w.freeze ⟨l.b,l.d+a.off,none⟩ n.toNat={w with heap:=w.heap.setIfInBounds l.b (.cells c t (l.d,l.d+n.toNat))}:=by
       unfold World.freeze;rw[if_neg (by omega)];congr 1;apply tp;intro j;rw[tf,sS];by_cases e:l.b=j
       ·subst e;simp[hlt];have:=(sJ.1 h6).2;rw[this];simp[hoff]
       ·simp[e]
      have hu:=W.upd (o:=.cells vs t op (some n.toNat) es) (o':=.cells c t (l.d,l.d+n.toNat)) hg hm ⟨c,_,rfl,h8,h9,h10,hk,h11,by simp only[FZ];intro i _;omega⟩;refine⟨.string ⟨bs.toArray⟩,_,?_,by simp[VR],hu⟩;have hdef:∃m1 m2 m3:String,sN #[pt,it] ty #[.pointer (some ⟨l.b,l.d+a.off,none⟩),.int k n]=
        (do
         let n <-asInt (.int k n)
         if n<0 then tr (.error m1)
         if n>sL.max then tA (.unsafePointer m2)
         if n=0 then pure (.string .empty)
         else if <-variablesAt ⟨l.b,l.d+a.off,none⟩ (<-elemOf pt) n.toNat then do
          let s <-tw ⟨l.b,l.d+a.off,none⟩ .empty n.toNat
          freeze ⟨l.b,l.d+a.off,none⟩ n.toNat
          pure (.string s)
         else tA (.unsafePointer m3)):=⟨_,_,_,rfl⟩
      obtain⟨m1,m2,m3,hdef⟩:=hdef;rw[hdef];simp only[sG,asInt,asIntOf,Sem.run_pure,sE,hn1,if_false,hn2,hn3,elemOf,rU hd,variablesAt,run_program,run_shape,ta,h6,hl2,if_true,hrun,run_freeze,hfz];simp
     ·cases h
    ·cases h
   ·cases h
  ·cases h
 ·cases h
end Ev
end
section
namespace Ev
variable {P:sT} {μ:Mu} {A:AW} {w:World}
theorem MR.len:∀{es es':List sR},MR μ es es'->es'.length=es.length
 |[],_,h=>by simp only[MR]at h;subst h;rfl
 |e::es,_,h=>by simp only[MR]at h;obtain⟨e',es',rfl,_,_,_,_,h⟩:=h;simp[h.len]
theorem MR.set:∀{es es':List sR} (m:Nat) {k:sD} {v v':sD} {b:Nat},MR μ es es'->bS k=true->VR μ v v'->MR μ (es.set m ⟨k,v,b⟩) (es'.set m ⟨k,v',b⟩)
 |[],_,_,_,_,_,_,h,_,_=>by simp only[MR]at h;subst h;simp[MR]
 |e::es,_,m,k,v,v',b,h,hk,hv=>by
  simp only[MR]at h;obtain⟨e',es',rfl,h1,h2,h3,h4,h5⟩:=h;cases m with
  |zero=>simp only[List.set_cons_zero,MR];exact⟨_,_,rfl,hk,rfl,rfl,hv,h5⟩
  |succ m=>simp only[List.set_cons_succ,MR];exact⟨_,_,rfl,h1,h2,h3,h4,h5.set m hk hv⟩
theorem MR.snoc:∀{es es':List sR} {k:sD} {v v':sD} {b:Nat},MR μ es es'->bS k=true->VR μ v v'->MR μ (es++[⟨k,v,b⟩]) (es'++[⟨k,v',b⟩])
 |[],_,_,_,_,_,h,hk,hv=>by simp only[MR]at h;subst h;simp only[List.nil_append,MR];exact⟨_,_,rfl,hk,rfl,rfl,hv,rfl⟩
 |e::es,_,k,v,v',b,h,hk,hv=>by simp only[MR]at h;obtain⟨e',es',rfl,h1,h2,h3,h4,h5⟩:=h;simp only[List.cons_append,MR];exact⟨_,_,rfl,h1,h2,h3,h4,h5.snoc hk hv⟩
def zeL:tu->Bool
 |.int _|.string|.bool=>true
 |_=>false
theorem check_in{key n:Nat}{d:tu}{e:Bool}{v:sD}(h:P.underlying key=some d)(hd:zeL d=true):(sV e (n+1) key v).run P w=.ok () w:=by
 cases d<;>simp only[zeL]at hd<;>first
  |(cases hd;done)
  |simp[sV,rU h]
theorem zbw{key:Nat}{d:tu}{e:Bool}{v:sD}(h:P.underlying key=some d)(hd:zeL d=true):(sV e 10000 key v).run P w=.ok () w:=check_in (n:=9999) h hd
theorem iN{d:tu}{k:sD}:∀{es es':List sR} {i:Nat} {r:Option (Nat×sD)},MR μ es es'->sH d k es i=some r->
  match r with
  |some (j,v)=>∃m e e',j=i+m/\es[m]?=some e/\es'[m]?=some e'/\e'.born=e.born/\e'.key=e.key/\tk d k e.key=some true/\sH d k es' i=some (some (j,e'.val))/\VR μ v e'.val
  |none=>sH d k es' i=some none
 |[],es',i,r,h,hr=>by simp only[MR]at h;subst h;simp only[sH]at hr;cases hr;rfl
 |e::es,_,i,r,h,hr=>by
  simp only[MR]at h;obtain⟨e',es',rfl,h1,h2,h3,h4,h5⟩:=h;simp only[sH]at hr⊢;rw[h2];split at hr
  ·rename_i hs;cases hr;exact⟨0,e,e',by simp,rfl,rfl,h3,h2,hs,rfl,h4⟩
  ·rename_i hs;have ih:=iN h5 hr;cases r with
   |none=>exact ih
   |some x=>obtain⟨m,f,f',g1,g2,g3,g4,g5,g6,g7,g8⟩:=ih;exact⟨m+1,f,f',by omega,by simpa using g2,by simpa using g3,g4,g5,g6,g7,g8⟩
  ·cases hr
theorem zpw(a b:ByteArray):(a==b)=(a.data==b.data):=by cases a;cases b;rfl
theorem zxf{a b:ByteArray}(h:(a==b)=true):a=b:=by rw[zpw]at h;have:=eq_of_beq h;cases a;cases b;simp_all
theorem zrO(a:ByteArray):(a==a)=true:=by rw[zpw];simp
theorem zmU{d:tu}{k ek:sD}(h:tk d k ek=some true):ek=k/\sW 10000 ek k=true:=by
 unfold tk at h;split at h
 ·split at h
  ·rename_i hk;subst hk;have:_=_:=eq_of_beq (td h);subst this;exact⟨rfl,by simp[sW]⟩
  ·cases h
 ·have:_=_:=zxf (td h);subst this;exact⟨rfl,by simp[sW,zrO]⟩
 ·have:_=_:=eq_of_beq (td h);subst this;exact⟨rfl,by simp[sW]⟩
 ·cases h
noncomputable def ziJ(A:AW):sD->Option (List sR)
 |.map none=>some []
 |.map (some r)=>match A.get r with
  |some (.map es _)=>some es
  |_=>none
 |_=>none
theorem zad{x x':sD}{es:List sR}(W:WR μ A w)(hx:VR μ x x')(h:ziJ A x=some es):∃es':Array sR,MR μ es es'.toList/\(x'=.map none/\es'=#[]\/∃r clock,x'=.map (some r)/\w.heap[r]?=some (.map es' clock)):=by
 unfold ziJ at h;split at h
 ·cases h;simp only[VR]at hx;subst hx;exact⟨#[],by simp[MR],.inl ⟨rfl,rfl⟩⟩
 ·rename_i r;simp only[VR]at hx;obtain⟨l,rfl,hm⟩:=hx;split at h
  ·rename_i es0 clock hg;cases h;obtain⟨o',h2,h3⟩:=W.has _ _ l hg hm;obtain⟨es',rfl,h4⟩:=h3;exact⟨es',h4,.inr ⟨l.b,clock,rfl,h2⟩⟩
  ·cases h
 ·cases h
theorem gH{r clock:Nat}{es:Array sR}(h:w.heap[r]?=some (.map es clock)):(getObj r).run P w=.ok (.map es clock) w:=by simp[getObj,Sem.run,h]
theorem pG{r clock:Nat}{es:Array sR}{o:Obj}(h:w.heap[r]?=some (.map es clock)):(setObj r o).run P w=.ok () {w with heap:=w.heap.setIfInBounds r o}:=by simp[setObj,Sem.run,h]
noncomputable def oZ(P:sT)(A:AW)(t:sI)(x k:sD)(ok:Bool):Option sD:=
 match P.underlying t,ziJ A x with
 |some (.map key elem),some es=>match P.underlying key,P.info? elem with
  |some d,some ie=>match ie.zero with
   |some z=>if zeL d/\bS z/\bS k then
     match sH d k es 0 with
     |some (some (_,v))=>some (if ok then .tuple ⟨[v,.bool true]⟩else v)
     |some none=>some (if ok then .tuple ⟨[z,.bool false]⟩else z)
     |none=>none
    else none
   |none=>none
  |_,_=>none
 |_,_=>none
theorem zhy{t:sI}{x x' k k' v:sD}{ok:Bool}(W:WR μ A w)(hx:VR μ x x')(hk:VR μ k k')(h:oZ P A t x k ok=some v):∃v',(tc t x' k' ok).run P w=.ok v' w/\VR μ v v':=by
 unfold oZ at h;split at h
 ·rename_i key elem es hd hes;split at h
  ·rename_i d ie hkd hie;split at h
   ·rename_i z hz;split at h
    ·rename_i hc;obtain⟨hkk,hfz,hfk⟩:=hc;have hke:=cV hfk hk;subst hke;obtain⟨es',hM,hcase⟩:=zad W hx hes;have key:∀v',(do
       sV es'.isEmpty 10000 key k'
       let (v,ok') <-match <-sP key k' es'.toList with
        |some (_,v)=>pure (v,true)
        |none=>pure (<-zeroValue elem,false)
       pure (if ok then .tuple #[v,.bool ok']else v):Sem sD).run P w=.ok v' w->(tc t x' k' ok).run P w=.ok v' w:=fun v' hv=>by
      rcases hcase with ⟨rfl,rfl⟩|⟨r,clock,rfl,hr⟩
      ·simp only[tc,sG,rU hd,sE,Sem.run_pure]at hv⊢;exact hv
      ·simp only[tc,sG,rU hd,sE,Sem.run_pure,gH hr]at hv⊢;exact hv
     split at h
     ·rename_i j u hf;cases h;obtain⟨m,e,e',g1,g2,g3,g4,g5,g6,g7,g8⟩:=iN hM hf;refine⟨if ok then .tuple #[e'.val,.bool true]else e'.val,key _ ?_,?_⟩
      ·simp[zbw hkd hkk,sP,rU hkd,g7]
      ·cases ok
       ·exact g8
       ·simp only;exact⟨_,rfl,LR.cons g8 (LR.cons (by simp[VR]) LR.nil)⟩
     ·rename_i hf;cases h;have g7:=iN hM hf;refine⟨if ok then .tuple #[z,.bool false]else z,key _ ?_,?_⟩
      ·simp only at g7;simp[zbw hkd hkk,sP,rU hkd,g7,rZ hie hz]
      ·cases ok
       ·exact cq hfz
       ·simp only;exact⟨_,rfl,LR.cons (cq hfz) (LR.cons (by simp[VR]) LR.nil)⟩
     ·cases h
    ·cases h
   ·cases h
  ·cases h
 ·cases h
noncomputable def oX(P:sT)(A:AW)(t:sI)(k v:sD):sD->Option AW
 |.map (some r)=>match P.underlying t,A.get r with
  |some (.map key _),some (.map es clock)=>match P.underlying key with
   |some d=>if zeL d/\bS k then
     match sH d k es 0 with
     |some (some (j,_))=>match es[j]? with
      |some e=>some (A.set r (some (.map (es.set j ⟨k,v,e.born⟩) clock)))
      |none=>none
     |some none=>some (A.set r (some (.map (es++[⟨k,v,clock⟩]) (clock+1))))
     |none=>none
    else none
   |none=>none
  |_,_=>none
 |_=>none
theorem qS{t:sI}{x x' k k' v v':sD}{A':AW}(W:WR μ A w)(hx:VR μ x x')(hk:VR μ k k')(hv:VR μ v v')(h:oX P A t k v x=some A'):
  ∃w',(te t x' k' v').run P w=.ok () w'/\WR μ A' w'/\bG μ A w μ A' w':=by
 unfold oX at h;split at h
 ·rename_i r;simp only[VR]at hx;obtain⟨l,rfl,hm⟩:=hx;split at h
  ·rename_i key elem es clock hd hg;split at h
   ·rename_i d hkd;split at h
    ·rename_i hc;obtain⟨hkk,hfk⟩:=hc;have hke:=cV hfk hk;subst hke;obtain⟨o',h2,h3⟩:=W.has _ _ l hg hm;obtain⟨es',rfl,hM⟩:=h3;split at h
     ·rename_i j u hf;split at h
      ·rename_i e he;cases h;obtain⟨m,e1,e',g1,g2,g3,g4,g5,g6,g7,g8⟩:=iN hM hf;simp only[tF]at g1;subst g1;rw[he]at g2;cases g2;obtain⟨hkey,hbits⟩:=zmU g6;have ge:es'[j]?=some e':=by rw[<-Array.getElem?_toList];exact g3
       have hu:=W.upd (o:=.map (es.set j ⟨k',v,e.born⟩) clock) (o':=.map (es'.setIfInBounds j ⟨k',v',e.born⟩) clock) hg hm ⟨_,rfl,by rw[Array.toList_setIfInBounds];exact hM.set j hfk hv⟩;refine⟨_,?_,hu⟩;have hmod:es'.modify j (fun e=>{e with key:=k',val:=v'})=es'.setIfInBounds j ⟨k',v',e.born⟩:=by
        apply tp;intro i;rw[tf,sS];have hjl:=(sJ.1 ge).1;by_cases hi:j=i
        ·subst hi;simp[hjl];have:=(sJ.1 ge).2;rw[this,g4]
        ·simp[hi]
       have hks:(((es'[j]?).map (·.key)).getD k')=k':=by rw[ge];simp[g5,hkey]
       rw[hkey]at hbits;simp only[te,sG,rU hd,sE,gH h2,zbw hkd hkk,sP,rU hkd,g7,Sem.run_pure,Instr.keyThatStays,hks,hbits,if_true,hmod,pG h2]
      ·cases h
     ·rename_i hf;cases h;have g7:=iN hM hf;simp only at g7;have hu:=W.upd (o:=.map (es++[⟨k',v,clock⟩]) (clock+1)) (o':=.map (es'.push ⟨k',v',clock⟩) (clock+1)) hg hm ⟨_,rfl,by rw[Array.toList_push];exact hM.snoc hfk hv⟩;refine⟨_,?_,hu⟩;simp only[te,sG,rU hd,sE,gH h2,zbw hkd hkk,sP,rU hkd,g7,Sem.run_pure,pG h2]
     ·cases h
    ·cases h
   ·cases h
  ·cases h
 ·cases h
theorem zfF{t:sI}(W:WR μ A w):∃μ' v' w',(sX t none).run P w=.ok v' w'/\VR μ' (.map (some A.next)) v'/\WR μ' (A.push (.map [] 0)) w'/\bG μ A w μ' (A.push (.map [] 0)) w':=by have hn:=W.new (d:=0) (sz:=0) (k:=0) (o:=.map [] 0) (o':=.map #[] 0) ⟨#[],rfl,by simp[MR]⟩;refine⟨_,.map (some w.heap.size),_,by simp[sX],?_,hn⟩;simp only[VR];exact⟨_,rfl,Mu.add_get (W.dom _ (tg _))⟩
theorem zcG{t kt et:sI}{k:IntKind}{z:Int}(hd:P.underlying t=some (.map kt et))(W:WR μ A w):∃μ' v' w',(sX t (some (.int k z))).run P w=.ok v' w'/\VR μ' (.map (some A.next)) v'/\WR μ' (A.push (.map [] 0)) w'/\bG μ A w μ' (A.push (.map [] 0)) w':=by have hn:=W.new (d:=0) (sz:=0) (k:=0) (o:=.map [] 0) (o':=.map #[] 0) ⟨#[],rfl,by simp[MR]⟩;refine⟨_,.map (some w.heap.size),_,by simp[sX,rU hd,asInt,asIntOf],?_,hn⟩;simp only[VR];exact⟨_,rfl,Mu.add_get (W.dom _ (tg _))⟩
noncomputable def zvt(P:sT)(A:AW)(t:sI)(x:sD):Option sD:=
 match P.underlying t,x with
 |some (.slice _),.slice _ n _=>some (goInt n)
 |some (.map _ _),x=>match ziJ A x with
  |some es=>some (goInt es.length)
  |none=>none
 |_,_=>none
theorem zrW{t ty:sI}{x x' v:sD}(W:WR μ A w)(hx:VR μ x x')(h:zvt P A t x=some v):∃v',(sU #[t] ty #[x']).run P w=.ok v' w/\VR μ v v':=by
 unfold zvt at h;split at h
 ·rename_i e a n c hd;cases h;refine⟨goInt n,?_,by simp[goInt,VR]⟩;cases a with
  |none=>simp only[VR]at hx;subst hx;simp[sU,rU hd]
  |some a=>simp only[VR]at hx;obtain⟨_,_,rfl,_⟩:=hx;simp[sU,rU hd]
 ·rename_i k e hd;split at h
  ·rename_i es hes;cases h;obtain⟨es',hM,hcase⟩:=zad W hx hes;have hlen:=hM.len;simp only[tj]at hlen;refine⟨goInt es.length,?_,by simp[goInt,VR]⟩;rcases hcase with ⟨rfl,rfl⟩|⟨r,clock,rfl,hr⟩
   ·simp at hlen;simp[sU,rU hd,<-hlen]
   ·simp[sU,rU hd,gH hr,hlen]
  ·cases h
 ·cases h
noncomputable def gU(P:sT)(A:AW)(t:sI):sD->sD->Option (sD×AW)
 |.int _ l,.int _ c=>match P.underlying t with
  |some (.slice elem)=>match P.info? elem with
   |some ie=>match ie.zero with
    |some z=>if bS z/\(az z).length=ie.size/\ie.size≠0/\ie.bytes<=65536/\0<=l/\l<=c/\c<=100000/\sL.wrap l=l/\sL.wrap c=c then
      some (.slice (some ⟨A.next,0,none⟩) l.toNat c.toNat,A.push (.cells (cF c.toNat (az z)) elem false none ie.size))
     else none
    |none=>none
   |none=>none
  |_=>none
 |_,_=>none
theorem rJ{t:sI}{x x' y y' v:sD}{A':AW}(W:WR μ A w)(hx:VR μ x x')(hy:VR μ y y')(h:gU P A t x y=some (v,A')):
  ∃μ' v' w',(tC t x' y').run P w=.ok v' w'/\VR μ' v v'/\WR μ' A' w'/\bG μ A w μ' A' w':=by
 unfold gU at h;split at h
 ·rename_i k1 l k2 c;simp only[VR]at hx hy;subst hx hy;split at h
  ·rename_i elem hd;split at h
   ·rename_i ie hie;split at h
    ·rename_i z hz;split at h
     ·rename_i hc;obtain⟨hfz,hzl,hne,hb,h0,hlc,hc1,hwl,hwc⟩:=hc;cases h;have hzz:LR μ (cF c.toNat (az z)) (cF c.toNat (az z)):=br (kH (nK hfz) _);obtain⟨w',h4,h5,h6⟩:=zbN (P:=P) (t:=elem) (es:=ie.size) W hzz;have hmul:(ie.bytes:Int)*c<=65536*100000:=by
       have h7:(ie.bytes:Int)<=65536:=by omega
       exact Int.mul_le_mul h7 hc1 (by omega) (by omega)
      have hml:(ie.bytes:Int)*l<=65536*100000:=by
       have h7:(ie.bytes:Int)<=65536:=by omega
       exact Int.mul_le_mul h7 (by omega) h0 (by omega)
      have t1:(decide (c<0)||decide ((ie.bytes:Int)*c>2 ^ 48))=false:=by simp only[Bool.or_eq_false_iff,decide_eq_false_iff_not];omega
      have e1:(tI (c.toNat*ie.size)).map (fun x=>z.cells[x%z.cells.size]!)=(cF c.toNat (az z)).toArray:=by have:=gJ z.cells c.toNat;rw[show z.cells.size=ie.size by rw[<-hzl,<-ci];simp]at this⊢;rw[this,ci]
      have e0:(tI (c.toNat*ie.size)).map (fun x=>(#[]:Array sD)[x%(#[]:Array sD).size]!)=(cF c.toNat (az z)).toArray\/c.toNat*ie.size≠0:=by
       by_cases hz0:c.toNat*ie.size=0
       ·left;have:c.toNat=0:=by
         rcases Nat.mul_eq_zero.1 hz0 with h8|h8
         ·exact h8
         ·exact absurd h8 hne
        rw[this];simp[cF]
       ·exact .inr hz0
      refine⟨_,.slice (some ⟨w.heap.size,0,none⟩) l.toNat c.toNat,w',?_,?_,h5,h6⟩
      ·unfold tC;have hl0:¬l<0:=by omega
       have hlc':¬l>c:=by omega
       simp only[sG,rU hd,sE,asInt,asIntOf,Sem.run_pure,rT hie,hwl,hwc,t1,Bool.false_or,hl0,hlc',decide_false,Bool.or_self,Bool.false_eq_true,if_false,run_askRoom,rS hie];by_cases hz0:c.toNat*ie.size=0
       ·rw[if_pos hz0];simp only[sG,Sem.run_pure,sE];rw[e0.resolve_right (fun hh=>hh hz0)];simp only[h4]
       ·rw[if_neg hz0];simp only[sG,Sem.run_pure,sE,rZ hie hz];rw[e1];simp only[h4]
      ·simp only[VR];refine⟨_,_,rfl,.inl ⟨?_,rfl,zcP (W.dom _ (tg _))⟩⟩;unfold px;omega
     ·cases h
    ·cases h
   ·cases h
  ·cases h
 ·cases h
end Ev
end
namespace Ev
open Go.RowKit
def zjk:Nat->List UInt8->Option (List UInt8)
 |0,l=>some l
 |_+1,[]=>none
 |n+1,_::l=>zjk n l
def zhY:Nat->List UInt8->Option (List UInt8)
 |0,_=>some []
 |_+1,[]=>none
 |n+1,b::l=>match zhY n l with
  |some r=>some (b::r)
  |none=>none
theorem qB:∀{n:Nat} {l r:List UInt8},zjk n l=some r->n<=l.length/\r=l.drop n
 |0,l,r,h=>by cases h;exact⟨Nat.zero_le _,rfl⟩
 |n+1,[],r,h=>by cases h
 |n+1,b::l,r,h=>by obtain⟨h1,h2⟩:=qB (n:=n) (l:=l) h;exact⟨by rw[sY];omega,by rw[List.drop_succ_cons];exact h2⟩
theorem zdE:∀{n:Nat} {l r:List UInt8},zhY n l=some r->n<=l.length/\r=l.take n
 |0,l,r,h=>by cases h;exact⟨Nat.zero_le _,by simp⟩
 |n+1,[],r,h=>by cases h
 |n+1,b::l,r,h=>by
  unfold zhY at h;split at h
  ·rename_i q hq;cases h;obtain⟨h1,h2⟩:=zdE hq;exact⟨by rw[sY];omega,by rw[List.take_succ_cons,h2]⟩
  ·cases h
def zrK:Option sD->Option (Option Nat)
 |none=>some none
 |some (.int _ z)=>if 0<=z then some (some z.toNat)else none
 |_=>none
def mkS(r:List UInt8):sD:=.string ⟨⟨r⟩⟩
def zrF(s:ByteArray)(a:Nat):Option Nat->Option sD
 |none=>match zjk a s.data.toList with
  |some r=>some (mkS r)
  |none=>none
 |some b=>bif Nat.ble a b then (match zjk a s.data.toList with
  |some r=>(match zhY (b-a) r with
   |some q=>some (mkS q)
   |none=>none)
  |none=>none)else none
noncomputable def zpA(P:sT)(t:sI)(x:sD)(lo hi:Option sD):Option sD:=
 match P.underlying t,x,zrK lo,zrK hi with
 |some .string,.string s,some a,some b=>zrF s (a.getD 0) b
 |_,_,_,_=>none
theorem zfc(s:ByteArray)(a b:Nat)(r:List UInt8)(h:r=(s.data.toList.drop a).take (b-a)):s.extract a b=⟨⟨r⟩⟩:=by subst h;apply ByteArray.ext;apply Array.ext';simp[ByteArray.data_extract]
theorem zrE{s:ByteArray}{a:Nat}{b:Option Nat}{v:sD}(h:zrF s a b=some v):a<=b.getD s.size/\b.getD s.size<=s.size/\v=.string (s.extract a (b.getD s.size)):=by
 have hz:s.size=s.data.toList.length:=by rw[tj];rfl
 cases b with
 |none=>
  simp only[zrF]at h;split at h
  ·rename_i r hr;cases h;obtain⟨h1,h2⟩:=qB hr;refine⟨by simp only[sO];omega,tg _,?_⟩;unfold mkS;rw[zfc s a _ r (by rw[sO,List.take_of_length_le (by rw[tz];omega)];exact h2)]
  ·cases h
 |some b=>
  simp only[zrF]at h;cases hb:Nat.ble a b with
  |false=>rw[hb]at h;cases h
  |true=>
   rw[hb]at h;have hab:=Nat.le_of_ble_eq_true hb;simp only[cond_true]at h;split at h
   ·rename_i r hr;split at h
    ·rename_i q hq;cases h;obtain⟨h1,h2⟩:=qB hr;obtain⟨h3,h4⟩:=zdE hq;rw[h2,tz]at h3;refine⟨hab,by simp only[sK];omega,?_⟩;unfold mkS;rw[zfc s a _ q (by rw[sK,h4,h2])]
    ·cases h
   ·cases h
theorem zjy{μ:Mu}{x x':Option sD}{a:Option Nat}(h:OVR μ x x')(hb:zrK x=some a):(x'=none/\a=none)\/∃k z,x'=some (.int k z)/\0<=z/\a=some z.toNat:=by
 unfold zrK at hb;split at hb
 ·cases hb;simp only[OVR]at h;exact .inl ⟨h,rfl⟩
 ·split at hb
  ·rename_i k z hz;cases hb;simp only[OVR]at h;obtain⟨v,rfl,hv⟩:=h;simp only[VR]at hv;subst hv;exact .inr ⟨k,z,rfl,hz,rfl⟩
  ·cases hb
 ·cases hb
theorem zpz{P:sT}{μ:Mu}{t:sI}{x x' v:sD}{lo hi lo' hi':Option sD}{w:World}(hx:VR μ x x')(hlo:OVR μ lo lo')(hhi:OVR μ hi hi')(h:zpA P t x lo hi=some v):
  (sQ t x' lo' hi' none).run P w=.ok v w/\VR μ v v:=by
 unfold zpA at h;split at h
 ·rename_i s a b hd ha hb;simp only[VR]at hx;subst hx;obtain⟨h1,h2,rfl⟩:=zrE h;refine⟨?_,by simp[VR]⟩;rcases zjy hlo ha with ⟨rfl,rfl⟩|⟨k,z,rfl,hz,rfl⟩<;>rcases zjy hhi hb with ⟨rfl,rfl⟩|⟨k2,z2,rfl,hz2,rfl⟩
  ·simp[sQ,ti,sM,rU hd]
  ·simp only[sK,sO]at h1 h2;have e:0<=z2/\z2<=(s.size:Int):=⟨hz2,by omega⟩;simp[sQ,ti,sM,sZ,rU hd,asIntOf,e]
  ·simp only[sK,sO]at h1 h2;have e:0<=z/\z<=(s.size:Int):=⟨hz,by omega⟩;simp[sQ,ti,sM,sZ,rU hd,asIntOf,e]
  ·simp only[sK]at h1 h2;have e:0<=z2/\z2<=(s.size:Int):=⟨hz2,by omega⟩;have e2:0<=z/\z<=((z2.toNat:Nat):Int):=⟨hz,by omega⟩;simp only[sQ,ti,sM,sZ,rU hd,asIntOf,sG,sE,Sem.run_pure,Option.isSome_none,Bool.false_eq_true,if_false,e,e2,and_self,if_true];simp
 ·cases h
end Ev
end Go.Proofs.YtbbapnpdfcgjnaaGreatDoor
