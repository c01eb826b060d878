/- EvX, Ev11, EvN: parts of the proof, joined. -/
import Derived.Laws.BytesString
import Derived.Laws.RangeString
import Derived.Test.YtbbapnpdfcgjnaaGreatDoorWEv9
open Go.Result renaming andThen->sD
open Go.Sem renaming run_bind->sE
open Go renaming Value->sG, execOp->sH, TypeId->sI, Operand->sJ, run_convert_bytes_string->sK, eqGuard->sN, Program->sQ, run_bytesToString->sY, MapEntry->tf
open Go.Utf8 renaming decode->sL
open Go.Builtin renaming clear_->sM, copy_->sR, firstCells->sS, zeroCells->sU, append_->tc
open Array renaming toList_map->sO, map->sP, getElem?_push->sV
open UInt8 renaming ofNat->sT
open Option renaming rec->sX, map_some->td
open Nat renaming min->sZ, le_refl->ta, add_zero->tj
open Go.Instr renaming next->te, range->tk, alloc->tn
set_option maxHeartbeats 64000000
namespace Go.Proofs.YtbbapnpdfcgjnaaGreatDoor
section
namespace Ev
variable {P:sQ} {μ:Mu} {A:AW} {w:World}
theorem lX:∀{l:List sG} {bs:List UInt8},dE l=some bs->∃ns:List Int,l=ns.map (sG.int .u8)/\bs=ns.map fun n=>sT n.toNat
 |[],bs,h=>by simp only[dE]at h;cases h;exact⟨[],rfl,rfl⟩
 |x::l,bs,h=>by
  unfold dE at h;split at h
  ·rename_i heq;cases heq
  ·rename_i n r heq;cases heq;split at h
   ·rename_i bs' hbs;cases h;obtain⟨ns,rfl,rfl⟩:=lX hbs;exact⟨n::ns,rfl,rfl⟩
   ·cases h
  ·cases h
theorem zaA:∀(ns:List Int)(s:ByteArray),ns.foldl (fun r n=>r.push (sT n.toNat)) s=⟨(s.data.toList++ns.map fun n=>sT n.toNat).toArray⟩
 |[],s=>by simp
 |n::ns,s=>by rw[List.foldl_cons,zaA ns];simp[ByteArray.push]
noncomputable def zrY(P:sQ)(A:AW)(src dst:sI)(x:sG):Option sG:=
 match P.underlying src,P.underlying dst with
 |some (.slice e),some .string=>match P.underlying e with
  |some (.int .u8)=>match x with
   |.slice none _ _=>some (.string .empty)
   |.slice (some a) n _=>if n=0 then some (.string .empty)else match A.get a.block with
    |some (.cells vs _ _ _ _)=>if a.off+n<=vs.length then
      match dE ((vs.drop a.off).take n)with
      |some bs=>some (.string ⟨bs.toArray⟩)
      |none=>none
     else none
    |_=>none
   |_=>none
  |_=>none
 |_,_=>none
theorem zrX{src dst:sI}{x x' v:sG}(W:WR μ A w)(hx:VR μ x x')(h:zrY P A src dst x=some v):∃v',(convert src dst x').run P w=.ok v' w/\VR μ v v':=by
 unfold zrY at h;split at h
 ·rename_i e hs hd;split at h
  ·rename_i he;split at h
   ·cases h;simp only[VR]at hx;subst hx;exact⟨.string .empty,by rw[sK w src dst e none _ _ hs he hd];rfl,by simp[VR]⟩
   ·rename_i a n c;simp only[VR]at hx;obtain⟨a',c',rfl,hS⟩:=hx;split at h
    ·rename_i h0;cases h;subst h0;refine⟨.string .empty,?_,by simp[VR]⟩;rw[sK w src dst e (some a') _ _ hs he hd,sY w a' 0 c' [] rfl];rfl
    ·rename_i h0;split at h
     ·rename_i vs t op fz es hg;split at h
      ·rename_i hle;split at h
       ·rename_i bs hbs;cases h;obtain⟨xs',h1,h2⟩:=eN (P:=P) W (hS.addr (by omega)) hg hle;have iJ:=bM (gS hbs) h2;subst iJ;obtain⟨ns,hns,rfl⟩:=lX hbs;rw[hns]at h1;refine⟨_,by rw[sK w src dst e (some a') _ _ hs he hd,sY w a' n c' ns h1],?_⟩;rw[zaA];simp only[VR];rfl
       ·cases h
      ·cases h
     ·cases h
   ·cases h
  ·cases h
 ·cases h
noncomputable def zpE(P:sQ)(A:AW)(dst:sI):sG->Option (sG×AW)
 |.string s=>match P.underlying dst with
  |some (.slice e)=>match P.underlying e,P.info? e with
   |some (.int .u8),some ie=>if ie.size=1/\s.size<=1000000 then some (.slice (some ⟨A.next,0,none⟩) s.size px,A.push (.cells (dC s s.size) e true (some 0) 1))else none
   |_,_=>none
  |_=>none
 |_=>none
theorem zrV{src dst:sI}{x x' v:sG}{A':AW}{ds:TypeDesc}(W:WR μ A w)(hsrc:P.underlying src=some ds)(hx:VR μ x x')(h:zpE P A dst x=some (v,A')):
  ∃μ' v' w',(convert src dst x').run P w=.ok v' w'/\VR μ' v v'/\WR μ' A' w'/\bG μ A w μ' A' w':=by
 unfold zpE at h;split at h
 ·rename_i s;simp only[VR]at hx;subst hx;split at h
  ·rename_i e hd;split at h
   ·rename_i ie he hie;split at h
    ·rename_i hc;cases h;obtain⟨W1,E1⟩:=W.drawn (w.drawn+1);have hlen:(dC s s.size).length=s.size:=by unfold dC;rw[sO,List.length_map];simp
     have hcut:∃m,s.size<=m/\m=Question.cut (.appendCap s.size 0 e) (w.tape w.drawn (.appendCap s.size 0 e)):=⟨_,by simp[Question.cut],rfl⟩;obtain⟨m,hm,hme⟩:=hcut;have hb:(s.data.map fun b=>sG.int .u8 b.toNat)=(dC s s.size).toArray:=by
      unfold dC;have:s.extract 0 s.size=s:=by simp
      rw[this]
     have hLR:LR μ (dC s s.size) (dC s s.size):=br (by unfold dC;rw[sO];exact iM _)
     let c:Array sG:=(dC s s.size).toArray++Array.replicate (m-s.size) (.int .u8 0)
     have hcs:c.size=m:=by simp only[c,Array.size_append,List.size_toArray,hlen,Array.size_replicate];omega
     have hN:=W1.new (d:=0) (sz:=m) (k:=1) (o:=.cells (dC s s.size) e true (some 0) 1) (o':=.cells c e (m,m+1)) (by
      have hle:=Mu.add_le (x:=⟨w.heap.size,0,m,1⟩) (W1.dom A.next (ta _));refine⟨c,(m,m+1),rfl,hcs,by simp only[Nat.zero_add,hlen];exact hm,by simp,rfl,?_,?_⟩
      ·simp only[List.drop_zero,c,Array.toList_append];rw[List.take_left' rfl];exact hLR.mono hle
      ·simp only[FZ];intro i hi;simp at hi⊢;omega)
     refine⟨_,.slice (some ⟨w.heap.size,0,none⟩) s.size m,_,?_,?_,hN.1,E1.trans hN.2⟩
     ·have hconv:(convert src dst (.string s)).run P w=(Conv.stringToBytes e s).run P w:=by unfold convert;simp only[sE,rU hsrc,rU hd,sD,rU he]
      rw[hconv];simp only[Conv.stringToBytes,sE,run_choose,Question.forced,Bool.false_eq_true,if_false,sD];rw[<-hme,hb];simp only[newRow,sE,run_newObj,sD,Sem.run_pure,markStringish,run_shape,World.shape?,Array.getElem?_push_size,run_freeze];have hfz:World.freeze {w with drawn:=w.drawn+1,heap:=w.heap.push (.cells c e)} {block:=w.heap.size,off:=c.size} 1={w with drawn:=w.drawn+1,heap:=w.heap.push (.cells c e (m,m+1))}:=by
       unfold World.freeze;rw[if_neg (by omega)];congr 1;apply Array.ext_getElem?;intro j;rw[Array.getElem?_modify,sV,sV];by_cases e':w.heap.size=j
       ·subst e';simp[hcs]
       ·have:¬j=w.heap.size:=fun h=>e' h.symm;simp[e',this]
      exact congrArg (fun W'=>Result.ok (sG.slice (some ⟨w.heap.size,0,none⟩) s.size m) W') hfz
     ·simp only[VR];exact⟨_,_,rfl,.inr ⟨rfl,.inr ⟨rfl,hm,_,Mu.add_get (W1.dom A.next (ta _)),by simp,by simp⟩⟩⟩
    ·cases h
   ·cases h
  ·cases h
 ·cases h
noncomputable def zpK(P:sQ)(A:AW)(dType:sI)(d s:sG):Option (sG×AW):=
 match P.underlying dType,lF s with
 |some (.slice elem),some sl=>match P.info? elem,d with
  |some _,.slice none dl _=>if sZ sl dl=0 then some (goInt 0,A)else none
  |some ie,.slice (some a) dl _=>if sZ sl dl=0 then some (goInt 0,A)else
    match A.get a.block,qU A ie.size (sZ sl dl) s with
    |some (.cells vs t op fz es),some xs=>if xs.all (·.oneCell')=true/\a.off+xs.length<=vs.length/\zlx fz a.off=true then
      some (goInt (sZ sl dl),A.set a.block (some (.cells (aV vs a.off xs) t op fz es)))
     else none
    |_,_=>none
  |_,_=>none
 |_,_=>none
theorem qK{x x':sG}{size m:Nat}(hx:VR μ x x')(hm:lF x=some m):(sS size 0 x').run P w=.ok #[] w:=by
 unfold lF at hm;split at hm
 ·rename_i a n c;cases a with
  |none=>simp only[VR]at hx;subst hx;rfl
  |some a=>simp only[VR]at hx;obtain⟨_,_,rfl,_⟩:=hx;simp[sS,loadCells,loadCellsFrom]
 ·simp only[VR]at hx;subst hx;simp[sS]
 ·cases hm
theorem zpJ{dType sType ty:sI}{d d' s s' v:sG}{A':AW}(W:WR μ A w)(hd:VR μ d d')(hs:VR μ s s')(h:zpK P A dType d s=some (v,A')):
  ∃v' w',(sR #[dType,sType] ty #[d',s']).run P w=.ok v' w'/\VR μ v v'/\WR μ A' w'/\bG μ A w μ A' w':=by
 unfold zpK at h;split at h
 ·rename_i elem sl hu hsl;split at h
  ·rename_i ie dl dc hie;simp only[VR]at hd;subst hd;split at h
   ·rename_i h0;cases h;refine⟨goInt 0,w,?_,by simp[goInt,VR],W,bG.refl⟩;simp[sR,rU hu,eA hs hsl,rS hie,h0,qK hs hsl]
   ·cases h
  ·rename_i ie a dl dc hie;simp only[VR]at hd;obtain⟨a',c',rfl,hS⟩:=hd;split at h
   ·rename_i h0;cases h;refine⟨goInt 0,w,?_,by simp[goInt,VR],W,bG.refl⟩;simp[sR,rU hu,eA hs hsl,rS hie,h0,qK hs hsl,storeCells]
   ·rename_i h0;split at h
    ·rename_i vs t op fz es xs hg iJ;split at h
     ·rename_i hc;obtain⟨h1,h2,h3⟩:=hc;cases h;obtain⟨xs',h4,h5⟩:=dK (P:=P) W hs hsl (Nat.min_le_left _ _) iJ;have hdl:0<dl:=by have:sZ sl dl<=dl:=Nat.min_le_right sl dl;omega
      obtain⟨w',h6,h7,h8⟩:=fa (P:=P) W (hS.addr hdl) hg h5 h1 h2 h3;refine⟨goInt (sZ sl dl),w',?_,by simp[goInt,VR],h7,h8⟩;simp[sR,rU hu,eA hs hsl,rS hie,h4,h6]
     ·cases h
    ·cases h
  ·cases h
 ·cases h
noncomputable def zhA(P:sQ)(A:AW)(t:sI):sG->Option AW
 |.slice none _ _=>match P.underlying t with
  |some _=>some A
  |none=>none
 |.slice (some _) 0 _=>match P.underlying t with
  |some _=>some A
  |none=>none
 |.slice (some a) (n+1) _=>match P.underlying t with
  |some (.slice elem)=>match P.info? elem with
   |some ie=>match ie.zero with
    |some z=>match A.get a.block with
     |some (.cells vs ty op fz es)=>if bS z=true/\(cF (n+1) (az z)).all (·.oneCell')=true/\a.off+(cF (n+1) (az z)).length<=vs.length/\zlx fz a.off=true then
       some (A.set a.block (some (.cells (aV vs a.off (cF (n+1) (az z))) ty op fz es)))
      else none
     |_=>none
    |none=>none
   |none=>none
  |_=>none
 |_=>none
theorem zjK(z:sG)(m:Nat):sU z.cells m=(cF m (az z)).toArray:=by unfold sU;rw[gJ,ci]
theorem zal{z:List sG}(h:LR μ z z):∀n,LR μ (cF n z) (cF n z)
 |0=>LR.nil
 |n+1=>h.append (zal h n)
theorem zlu{t ty:sI}{x x':sG}{A':AW}(W:WR μ A w)(hx:VR μ x x')(h:zhA P A t x=some A'):
  ∃w',(sM #[t] ty #[x']).run P w=.ok (.tuple #[]) w'/\WR μ A' w'/\bG μ A w μ A' w':=by
 unfold zhA at h;split at h
 ·split at h
  ·rename_i d hd;cases h;simp only[VR]at hx;subst hx;exact⟨w,by simp[sM,rU hd],W,bG.refl⟩
  ·cases h
 ·split at h
  ·rename_i d hd;cases h;simp only[VR]at hx;obtain⟨a',c',rfl,_⟩:=hx;exact⟨w,by simp[sM,rU hd],W,bG.refl⟩
  ·cases h
 ·rename_i a n c;simp only[VR]at hx;obtain⟨a',c',rfl,hS⟩:=hx;split at h
  ·rename_i elem hd;split at h
   ·rename_i ie hi;split at h
    ·rename_i z hz;split at h
     ·rename_i vs ty' op fz es hg;split at h
      ·rename_i hc;obtain⟨h1,h2,h3,h4⟩:=hc;cases h;have hL:LR μ (az z) (az z):=by have:=iV (cq (μ:=μ) h1);rwa [ci]at this
       obtain⟨w',h6,h7,h8⟩:=fa (P:=P) W (hS.addr (Nat.succ_pos _)) hg (zal hL (n+1)) h2 h3 h4;refine⟨w',?_,h7,h8⟩;have e:(sU z.cells (n+1)).toList=cF (n+1) (az z):=by rw[zjK]
       simp[sM,rU hd,rZ hi hz,e,h6]
      ·cases h
     ·cases h
    ·cases h
   ·cases h
  ·cases h
 ·cases h
noncomputable def zcF(P:sQ)(A:AW)(t:sI):sG->Option (sG×AW)
 |.string s=>match P.underlying t with
  |some .string=>some (.pointer (some ⟨A.next,0,none⟩),A.push (.sit s 0))
  |_=>none
 |_=>none
theorem zlq{t:sI}{x x' v:sG}{A':AW}(W:WR μ A w)(hx:VR μ x x')(h:zcF P A t x=some (v,A')):∃μ' v' w',(tk t x').run P w=.ok v' w'/\VR μ' v v'/\WR μ' A' w'/\bG μ A w μ' A' w':=by
 unfold zcF at h;split at h
 ·rename_i s;simp only[VR]at hx;subst hx;split at h
  ·rename_i hu;cases h;have hN:=W.new (d:=0) (sz:=0) (k:=0) (o:=.sit s 0) (o':=.stringIter s 0) ⟨rfl,rfl⟩;refine⟨_,.pointer (some ⟨w.heap.size,0,none⟩),_,?_,?_,hN⟩
   ·simp[tk,rU hu]
   ·simp only[VR];exact⟨_,rfl,zcP (W.dom _ (ta _))⟩
  ·cases h
 ·cases h
noncomputable def zjG(A:AW)(str:Bool):sG->Option (sG×AW)
 |.pointer (some ⟨r,0,none⟩)=>match A.get r,str with
  |some (.sit s pos),true=>if pos<s.size then some (.tuple ⟨[.bool true,goInt pos,.int .i32 (sL s pos).1]⟩,A.set r (some (.sit s (pos+(sL s pos).2))))else some (.tuple ⟨[.bool false]⟩,A)
  |_,_=>none
 |_=>none
theorem zpH{str:Bool}{ty:sI}{x x' v:sG}{A':AW}(W:WR μ A w)(hx:VR μ x x')(h:zjG A str x=some (v,A')):∃v' w',(te x' str ty).run P w=.ok v' w'/\VR μ v v'/\WR μ A' w'/\bG μ A w μ A' w':=by
 unfold zjG at h;split at h
 ·rename_i r;simp only[VR]at hx;obtain⟨a',rfl,_,l,hm,rfl⟩:=hx;split at h
  ·rename_i s pos hg;obtain⟨o',h2,h3⟩:=W.has _ _ l hg hm;obtain⟨hd0,rfl⟩:=h3;have hget:(getObj l.b).run P w=.ok (.stringIter s pos) w:=by simp[getObj,Sem.run,h2]
   split at h
   ·rename_i hlt;cases h;have hset:(setObj l.b (.stringIter s (pos+(sL s pos).2))).run P w=.ok () {w with heap:=w.heap.setIfInBounds l.b (.stringIter s (pos+(sL s pos).2))}:=by simp[setObj,Sem.run,h2]
    have hU:=W.upd (o:=.sit s (pos+(sL s pos).2)) (o':=.stringIter s (pos+(sL s pos).2)) hg hm ⟨hd0,rfl⟩;refine⟨.tuple #[.bool true,goInt pos,.int .i32 (sL s pos).1],_,?_,?_,hU⟩
    ·simp only[te,hd0,tj,sE,hget,sD,hlt,if_true,hset,Sem.run_pure]
    ·simp only[VR];exact⟨_,rfl,LR.cons (by simp[VR]) (LR.cons (by simp[goInt,VR]) (LR.cons (by simp[VR]) LR.nil))⟩
   ·rename_i hge;cases h;refine⟨.tuple #[.bool false],w,?_,?_,W,bG.refl⟩
    ·simp only[te,hd0,tj,sE,hget,sD,hge,if_false,Sem.run_pure]
    ·simp only[VR];exact⟨_,rfl,LR.cons (by simp[VR]) LR.nil⟩
  ·cases h
 ·cases h
end Ev
end
section
namespace Ev
variable {P:sQ} {μ:Mu} {A:AW} {w:World}
noncomputable def m9(P:sQ)(A:AW)(sType xType:sI)(s x:sG):Option (sG×AW):=
 match P.underlying sType,P.underlying xType,lF s,lF x with
 |some (.slice elem),some dx,some len,some n=>match P.info? elem with
  |some ie=>match ie.zero with
   |some z=>if zbW dx=false/\bS z=true/\(az z).length=ie.size/\ie.bytes<=65536/\0<ie.size/\len+n<=1000000 then zcM A elem ie.size s x n else none
   |none=>none
  |none=>none
 |_,_,_,_=>none
theorem zcL{sType xType ty:sI}{s s' x x' v:sG}{A':AW}(W:WR μ A w)(hs:VR μ s s')(hx:VR μ x x')(h:m9 P A sType xType s x=some (v,A')):
  ∃μ' v' w',(tc #[sType,xType] ty #[s',x']).run P w=.ok v' w'/\VR μ' v v'/\WR μ' A' w'/\bG μ A w μ' A' w':=by
 unfold m9 at h;split at h
 ·rename_i elem dx len n h1 h2 h3 h4;split at h
  ·rename_i ie hie;split at h
   ·rename_i z hz;split at h
    ·rename_i hc;obtain⟨c1,c2,c3,c4,c5,c6⟩:=hc;exact zhB {ie,z,dx,hd:=h1,hx:=h2,hn:=c1,hi:=hie,hs:=rfl,hz,hf:=c2,hl:=c3,hb:=c4,h0:=c5} W hs hx h4 h3 c6 h
    ·cases h
   ·cases h
  ·cases h
 ·cases h
noncomputable def eQ(P:sQ)(l:bR)(o:Oper)(A:AW)(b:Builtin)(args:List sJ)(ts:List sI):Option (sG×AW):=
 match fx P l o with
 |some v=>some (v,A)
 |none=>match b,args,ts with
  |.len,[x],[t]=>match bE l x with
   |some v=>match zvt P A t v with
    |some r=>some (r,A)
    |none=>none
   |none=>none
  |.append,[x,y],[t,u]=>match bE l x,bE l y with
   |some s,some e=>m9 P A t u s e
   |_,_=>none
  |.unsafeSliceData,[x],_=>match bE l x with
   |some v=>match kJ v with
    |some r=>some (r,A)
    |none=>none
   |none=>none
  |.unsafeString,[x,y],[t,_]=>match bE l x,bE l y with
   |some p,some n=>zcB P A t p n
   |_,_=>none
  |.copy,[x,y],[t,_]=>match bE l x,bE l y with
   |some p,some n=>zpK P A t p n
   |_,_=>none
  |.clear,[x],[t]=>match bE l x with
   |some v=>match zhA P A t v with
    |some A'=>some (.tuple #[],A')
    |none=>none
   |none=>none
  |_,_,_=>none
def o1{α:Type}(x:Option α)(A:AW):Option (α×AW):=
 match x with
 |some v=>some (v,A)
 |none=>none
noncomputable def zeu(l:bR):Option sJ->Option (Option sG)
 |none=>some none
 |some x=>match bE l x with
  |some v=>some (some v)
  |none=>none
theorem oD{l:bR}{a:Act}{x:Option sJ}{v:Option sG}(h:TR μ l a.tmps.toList)(hx:zeu l x=some v):OVR μ v (x.map a.eval):=by
 unfold zeu at hx;split at hx
 ·cases hx;simp[OVR]
 ·split at hx
  ·rename_i hv;cases hx;simp only[OVR,td];exact⟨_,rfl,ar h hv⟩
  ·cases hx
noncomputable def zpB(P:sQ)(l:bR)(t:sI)(x:sJ)(lo hi:Option sJ):Option sG:=
 match bE l x,zeu l lo,zeu l hi with
 |some v,some a,some b=>zpA P t v a b
 |_,_,_=>none
noncomputable def kK(P:sQ)(l:bR)(o:Oper)(A:AW):Option (sG×AW):=
 match o.op with
 |.move x|.assign x=>o1 (bE l x) A
 |.pick c a b=>match bE l c with
  |some (.bool true)=>o1 (bE l a) A
  |some (.bool false)=>o1 (bE l b) A
  |_=>none
 |.alloc t=>match P.info? t with
  |some i=>match i.zero with
   |some z=>if bS z then some (zfE A t (az z) 1)else none
   |none=>none
  |none=>none
 |.box t x=>match bE l x with
  |some v=>some (zfE A t (az v) 1)
  |none=>none
 |.build t ps=>o1 (zcK P l t ps.toList) A
 |.buildSlice t n ps=>fy P A l t n ps.toList
 |.load t x=>match bE l x with
  |some p=>o1 (ma P A t p) A
  |none=>none
 |.store t x y=>match bE l x,bE l y with
  |some p,some v=>match zcC P A t v p with
   |some A'=>some (undef,A')
   |none=>none
  |_,_=>none
 |.nilCheck x=>match bE l x with
  |some v=>if zbL v then some (v,A)else none
  |none=>none
 |.binOp op t x y _=>match fx P l o with
  |some v=>some (v,A)
  |none=>match bE l x,bE l y with
   |some a,some b=>o1 (aEq P A op t a b) A
   |_,_=>none
 |.unOp _ _ _|.index _ _ _=>o1 (fx P l o) A
 |.convert s d x=>match fx P l o with
  |some v=>some (v,A)
  |none=>match bE l x with
   |some v=>match zrY P A s d v with
    |some r=>some (r,A)
    |none=>match oY P A s d v with
     |some r=>some (r,A)
     |none=>match P.underlying s with
      |some _=>zpE P A d v
      |none=>none
   |none=>none
 |.range t x=>match bE l x with
  |some v=>zcF P A t v
  |none=>none
 |.next x str=>match bE l x with
  |some v=>zjG A str v
  |none=>none
 |.makeInterface t x=>match bE l x with
  |some v=>o1 (zcI P t v) A
  |none=>none
 |.makeFunc (.func f) first captured=>match zet l first.toList,zet l captured.toList with
  |some a,some b=>some (.func (.func f) ⟨a⟩ ⟨b⟩,A)
  |_,_=>none
 |.makeMap _ none=>some (.map (some A.next),A.push (.map [] 0))
 |.makeMap t (some x)=>match P.underlying t,bE l x with
  |some (.map _ _),some (.int _ _)=>some (.map (some A.next),A.push (.map [] 0))
  |_,_=>none
 |.makeSlice t x y=>match bE l x,bE l y with
  |some a,some b=>gU P A t a b
  |_,_=>none
 |.slice t x lo hi none=>match zpB P l t x lo hi with
  |some v=>some (v,A)
  |none=>match fx P l o with
   |some v=>some (v,A)
   |none=>match bE l x,zeu l lo,zeu l hi with
    |some v,some a,some b=>o1 (zcD P A t a b v) A
    |_,_,_=>none
 |.fieldAddr s x f=>match bE l x with
  |some v=>o1 (zcJ P s f v) A
  |none=>none
 |.field t x f=>match bE l x with
  |some v=>o1 (o7 P t f v) A
  |none=>none
 |.indexAddr t x i=>match bE l x,bE l i with
  |some a,some b=>o1 (zcH P t a b) A
  |_,_=>none
 |.lookup t x k ok=>match bE l x,bE l k with
  |some a,some b=>o1 (oZ P A t a b ok) A
  |_,_=>none
 |.mapUpdate t m k x|.insert t m k x=>match bE l m,bE l k,bE l x with
  |some a,some b,some c=>match oX P A t b c a with
   |some A'=>some (undef,A')
   |none=>none
  |_,_,_=>none
 |.extract x i=>match bE l x with
  |some v=>o1 (mb i v) A
  |none=>none
 |.call {callee:=.builtin b,args:=⟨args⟩,argTypes:=⟨ts⟩}=>eQ P l o A b args ts
 |_=>none
theorem cO{x:Option sG}{A A':AW}{v:sG}(h:o1 x A=some (v,A')):x=some v/\A'=A:=by
 unfold o1 at h;split at h
 ·cases h;exact⟨rfl,rfl⟩
 ·cases h
theorem zuN{f:sJ->sG}{x:sJ}:sP f ⟨[x]⟩=#[f x]:=by rw[show(⟨[x]⟩:Array sJ)=[x].toArray from rfl];simp
theorem zuM{f:sJ->sG}{x y:sJ}:sP f ⟨[x,y]⟩=#[f x,f y]:=by rw[show(⟨[x,y]⟩:Array sJ)=[x,y].toArray from rfl];simp
theorem zfH{l:bR}{a:Act}{dst:Option Tmp}{type:sI}{pos:String}{after:Array Edge}{guard:Option (Nat×Bool)}{b:Builtin}{args:List sJ}{ts:List sI}{v:sG}{A':AW}(W:WR μ A w)(hl:TR μ l a.tmps.toList)
  (h:eQ P l ⟨dst,.call {callee:=.builtin b,args:=⟨args⟩,argTypes:=⟨ts⟩},type,pos,after,guard⟩ A b args ts=some (v,A')):
  zhF P a.eval ⟨dst,.call {callee:=.builtin b,args:=⟨args⟩,argTypes:=⟨ts⟩},type,pos,after,guard⟩ μ A w v A':=by
 unfold eQ at h;split at h
 ·rename_i hp;cases h;exact gu W hl hp
 ·split at h
  ·rename_i x t _;split at h
   ·rename_i u hu;split at h
    ·rename_i r hr;cases h;obtain⟨v',h1,h2⟩:=zrW (P:=P) (ty:=type) W (ar hl hu) hr;refine .same W ?_ h2;simp only[sH,resolve,sE,Sem.run_pure,sD,invoke,builtin];have e:(Builtin.len_ #[t] type (sP a.eval ⟨[x]⟩)).run P w=.ok v' w:=by rw[zuN];exact h1
     rw[e]
    ·cases h
   ·cases h
  ·rename_i x y t u _;split at h
   ·rename_i s e hs he;obtain⟨μ',v',w',h1,h2,h3⟩:=zcL (P:=P) (ty:=type) W (ar hl hs) (ar hl he) h;refine⟨μ',v',w',.inl ?_,h2,h3⟩;simp only[sH,resolve,sE,Sem.run_pure,sD,invoke,builtin];have e:(tc #[t,u] type (sP a.eval ⟨[x,y]⟩)).run P w=.ok v' w':=by rw[zuM];exact h1
    rw[e]
   ·cases h
  ·rename_i x _;split at h
   ·rename_i u hu;split at h
    ·rename_i r hr;cases h;obtain⟨v',h1,h2⟩:=rI (P:=P) (w:=w) (ts:=⟨ts⟩) (t:=type) (ar hl hu) hr;refine .same W ?_ h2;simp only[sH,resolve,sE,Sem.run_pure,sD,invoke,builtin];have e:(Builtin.unsafeSliceData_ ⟨ts⟩ type (sP a.eval ⟨[x]⟩)).run P w=.ok v' w:=by rw[zuN];exact h1
     rw[e]
    ·cases h
   ·cases h
  ·rename_i x y t it _;split at h
   ·rename_i p n hp hn;obtain⟨v',w',h1,h2,h3⟩:=zhw (P:=P) (it:=it) (ty:=type) W (ar hl hp) (ar hl hn) h;refine⟨μ,v',w',.inl ?_,h2,h3⟩;simp only[sH,resolve,sE,Sem.run_pure,sD,invoke,builtin];have e:(Builtin.unsafeString_ #[t,it] type (sP a.eval ⟨[x,y]⟩)).run P w=.ok v' w':=by rw[zuM];exact h1
    rw[e]
   ·cases h
  ·rename_i x y t it _;split at h
   ·rename_i p n hp hn;obtain⟨v',w',h1,h2,h3⟩:=zpJ (P:=P) (sType:=it) (ty:=type) W (ar hl hp) (ar hl hn) h;refine⟨μ,v',w',.inl ?_,h2,h3⟩;simp only[sH,resolve,sE,Sem.run_pure,sD,invoke,builtin];have e:(sR #[t,it] type (sP a.eval ⟨[x,y]⟩)).run P w=.ok v' w':=by rw[zuM];exact h1
    rw[e]
   ·cases h
  ·rename_i x t _;split at h
   ·rename_i u hu;split at h
    ·rename_i A1 hr;cases h;obtain⟨w',h1,h2,h3⟩:=zlu (P:=P) (ty:=type) W (ar hl hu) hr;refine⟨μ,.tuple #[],w',.inl ?_,by simp[VR,LR],h2,h3⟩;simp only[sH,resolve,sE,Sem.run_pure,sD,invoke,builtin];have e:(sM #[t] type (sP a.eval ⟨[x]⟩)).run P w=.ok (.tuple #[]) w':=by rw[zuN];exact h1
     rw[e]
    ·cases h
   ·cases h
  ·cases h
theorem zvu{op:BinOp}{t:sI}{xo yo:sJ}{x x' y y' v:sG}(W:WR μ A w)(hx:VR μ x x')(hy:VR μ y y')(h:aEq P A op t x y=some v):
  ((do sN op t xo yo x' y';binOp op t x' y'):Sem sG).run P w=.ok v w:=by
 unfold aEq at h;split at h
 ·rename_i hadr;have main:∀r,qA P A t x y=some r->((op=.eql/\v=.bool r)\/(op=.neq/\v=.bool (!r)))->((do sN op t xo yo x' y';binOp op t x' y'):Sem sG).run P w=.ok v w:=by
   intro r hr hop;have he:=zoQ (w:=w) W hx hy hr;rcases zff hr with ⟨p,q,rfl,rfl⟩|⟨p1,p2,p3,q1,q2,q3,rfl,rfl⟩|⟨p,q,rfl,rfl⟩|⟨f,u1,v1,rfl,rfl⟩|⟨f,u1,v1,rfl,rfl⟩|⟨p,q,rfl,rfl⟩|⟨p,q,rfl,rfl⟩|⟨p1,p2,q1,q2,rfl,rfl⟩
   all_goals
    have kx:=hx;have ky:=hy
   ·cases p<;>cases q<;>simp only[VR]at kx ky<;>(first|(obtain⟨_,rfl,_⟩:=kx)|subst kx)<;>(first|(obtain⟨_,rfl,_⟩:=ky)|subst ky)<;>rcases hop with ⟨rfl,rfl⟩|⟨rfl,rfl⟩<;>simp[sN,binOp,he]
   ·cases p1<;>cases q1<;>simp only[VR]at kx ky<;>(first|(obtain⟨_,_,rfl,_⟩:=kx)|subst kx)<;>(first|(obtain⟨_,_,rfl,_⟩:=ky)|subst ky)<;>rcases hop with ⟨rfl,rfl⟩|⟨rfl,rfl⟩<;>simp[sN,binOp,he]
   ·cases p<;>cases q<;>simp only[VR]at kx ky<;>(first|(obtain⟨_,rfl,_⟩:=kx)|subst kx)<;>(first|(obtain⟨_,rfl,_⟩:=ky)|subst ky)<;>rcases hop with ⟨rfl,rfl⟩|⟨rfl,rfl⟩<;>simp[sN,binOp,he]
   ·simp only[VR]at kx;subst kx;obtain⟨u1⟩:=u1;obtain⟨v1⟩:=v1;cases f<;>simp only[VR]at ky
    ·obtain⟨_,_,rfl,_⟩:=ky;rcases hop with ⟨rfl,rfl⟩|⟨rfl,rfl⟩<;>simp[sN,binOp,he]
    ·obtain⟨_,_,_,rfl,_⟩:=ky;rcases hop with ⟨rfl,rfl⟩|⟨rfl,rfl⟩<;>simp[sN,binOp,he]
   ·simp only[VR]at ky;subst ky;obtain⟨u1⟩:=u1;obtain⟨v1⟩:=v1;cases f<;>simp only[VR]at kx
    ·obtain⟨_,_,rfl,_⟩:=kx;rcases hop with ⟨rfl,rfl⟩|⟨rfl,rfl⟩<;>simp[sN,binOp,he]
    ·obtain⟨_,_,_,rfl,_⟩:=kx;rcases hop with ⟨rfl,rfl⟩|⟨rfl,rfl⟩<;>simp[sN,binOp,he]
   ·simp only[VR]at kx ky;subst kx;obtain⟨_,rfl,_⟩:=ky;rcases hop with ⟨rfl,rfl⟩|⟨rfl,rfl⟩<;>simp[sN,binOp,he]
   ·simp only[VR]at kx ky;subst ky;obtain⟨_,rfl,_⟩:=kx;rcases hop with ⟨rfl,rfl⟩|⟨rfl,rfl⟩<;>simp[sN,binOp,he]
   ·simp only[VR]at kx ky;obtain⟨_,rfl,_⟩:=kx;obtain⟨_,rfl,_⟩:=ky;rcases hop with ⟨rfl,rfl⟩|⟨rfl,rfl⟩<;>simp[sN,binOp,he]
  split at h
  ·rename_i r hr;cases h;exact main _ hr (.inl ⟨rfl,rfl⟩)
  ·rename_i r hr;cases h;exact main _ hr (.inr ⟨rfl,rfl⟩)
  ·cases h
 ·cases h
theorem zgG{o:Oper}{x:sJ}{a:Act}{v:sG}(ho:o.op=.nilCheck x)(hv:VR μ v (a.eval x))(hn:zbL v=true):(sH a.eval o).run P w=.ok (.value (a.eval x)) w:=by
 unfold zbL at hn;split at hn
 ·simp only[VR]at hv;obtain⟨_,he,_⟩:=hv;simp[sH,ho,he]
 ·rename_i f x1 y1;obtain⟨x1⟩:=x1;obtain⟨y1⟩:=y1;simp only[VR]at hv;obtain⟨_,_,he,_⟩:=hv;simp[sH,ho,he]
 ·simp only[VR]at hv;obtain⟨_,he,_⟩:=hv;simp[sH,ho,he]
 ·cases hn
theorem zhx{l:bR}{a:Act}{o:Oper}{v:sG}{A':AW}(W:WR μ A w)(hl:TR μ l a.tmps.toList)(h:kK P l o A=some (v,A')):zhF P a.eval o μ A w v A':=by
 obtain⟨dst,op,type,pos,after,guard⟩:=o;unfold kK at h;simp only at h;split at h
 ·replace h:=cO h;obtain⟨h,rfl⟩:=h;exact .same W (by simp[sH]) (ar hl h)
 ·replace h:=cO h;obtain⟨h,rfl⟩:=h;exact .same W (by simp[sH]) (ar hl h)
 ·split at h
  ·rename_i hc;replace h:=cO h;obtain⟨h,rfl⟩:=h;have:=ar hl hc;simp only[VR]at this;exact .same W (by simp[sH,this,asBool]) (ar hl h)
  ·rename_i hc;replace h:=cO h;obtain⟨h,rfl⟩:=h;have:=ar hl hc;simp only[VR]at this;exact .same W (by simp[sH,this,asBool]) (ar hl h)
  ·cases h
 ·rename_i t;split at h
  ·rename_i i hi;split at h
   ·rename_i z hz;split at h
    ·rename_i hf;obtain⟨μ',p',w',h1,h2,h3⟩:=zjH (P:=P) (es:=1) W (cq hf);cases h;refine⟨μ',p',w',.inl ?_,h2,h3⟩;have h4:(tn t true (.tuple #[])).run P w=.ok p' w':=by simp only[tn,sE,rZ hi hz,sD];exact h1
     simp only[sH,sE,h4,sD,Sem.run_pure]
    ·cases h
   ·cases h
  ·cases h
 ·split at h
  ·rename_i u hu;obtain⟨μ',p',w',h1,h2,h3⟩:=zjH (P:=P) (es:=1) W (ar hl hu);cases h;exact⟨μ',p',w',.inl (by simp[sH,h1]),h2,h3⟩
  ·cases h
 ·replace h:=cO h;obtain⟨h,rfl⟩:=h;obtain⟨v',h1,h2⟩:=zlv (w:=w) hl h;exact .same W (by simp only[sH,sE,h1,sD,Sem.run_pure]) h2
 ·obtain⟨μ',v',w',h1,h2,h3⟩:=qV W hl h;exact⟨μ',v',w',.inl (by simp only[sH,sE,h1,sD,Sem.run_pure]),h2,h3⟩
 ·split at h
  ·rename_i p hp;replace h:=cO h;obtain⟨h,rfl⟩:=h;obtain⟨v',h1,h2⟩:=zpI W (ar hl hp) h;exact .same W (by simp[sH,h1]) h2
  ·cases h
 ·split at h
  ·rename_i p u hp hu;split at h
   ·rename_i A1 hs;cases h;obtain⟨w',h1,h2,h3⟩:=zlo W (ar hl hp) (ar hl hu) hs;exact⟨μ,undef,w',.inr ⟨by simp[sH,h1],rfl⟩,dW,h2,h3⟩
   ·cases h
  ·cases h
 ·split at h
  ·rename_i u hu;split at h
   ·rename_i hn;cases h;exact .same W (zgG rfl (ar hl hu) hn) (ar hl hu)
   ·cases h
  ·cases h
 ·rename_i bop bt xo yo _;split at h
  ·rename_i hp;cases h;exact gu W hl hp
  ·split at h
   ·rename_i x y hx hy;replace h:=cO h;obtain⟨h,rfl⟩:=h;have h1:=zvu (P:=P) (xo:=xo) (yo:=yo) W (ar hl hx) (ar hl hy) h;have hf:bS v=true:=by
     unfold aEq at h;split at h
     ·split at h<;>first|(cases h;rfl)|cases h
     ·cases h
    refine .same W ?_ (cq hf);simp only[sH];rw[sE,h1];rfl
   ·cases h
 ·replace h:=cO h;obtain⟨h,rfl⟩:=h;exact gu W hl h
 ·replace h:=cO h;obtain⟨h,rfl⟩:=h;exact gu W hl h
 ·split at h
  ·rename_i hp;cases h;exact gu W hl hp
  ·split at h
   ·rename_i x hx;split at h
    ·rename_i r hr;cases h;obtain⟨v',h1,h2⟩:=zrX W (ar hl hx) hr;exact .same W (by simp[sH,h1]) h2
    ·split at h
     ·rename_i r hr;cases h;obtain⟨v',h1,h2⟩:=zhv W (ar hl hx) hr;exact .same W (by simp[sH,h1]) h2
     ·split at h
      ·rename_i ds hds;obtain⟨μ',v',w',h1,h2,h3⟩:=zrV W hds (ar hl hx) h;exact⟨μ',v',w',.inl (by simp[sH,h1]),h2,h3⟩
      ·cases h
   ·cases h
 ·split at h
  ·rename_i x hx;obtain⟨μ',v',w',h1,h2,h3⟩:=zlq W (ar hl hx) h;exact⟨μ',v',w',.inl (by simp[sH,h1]),h2,h3⟩
  ·cases h
 ·split at h
  ·rename_i x hx;obtain⟨v',w',h1,h2,h3⟩:=zpH (P:=P) (ty:=type) W (ar hl hx) h;exact⟨μ,v',w',.inl (by simp only[sH,sE,h1,sD,Sem.run_pure]),h2,h3⟩
  ·cases h
 ·split at h
  ·rename_i x hx;replace h:=cO h;obtain⟨h,rfl⟩:=h;obtain⟨v',h1,h2⟩:=zls (w:=w) (ar hl hx) h;exact .same W (by simp[sH,h1]) h2
  ·cases h
 next f first captured=>
  split at h
  ·rename_i x y hx hy;cases h;refine .same (v':=.func (.func f) (first.map a.eval) (captured.map a.eval)) W (by simp[sH,Instr.makeFunc]) ?_;simp only[VR];exact⟨_,_,rfl,by rw[sO];exact jo hl hx,by rw[sO];exact jo hl hy⟩
  ·cases h
 ·rename_i t;cases h;obtain⟨μ',v',w',h1,h2,h3⟩:=zfF (P:=P) (t:=t) W;exact⟨μ',v',w',.inl (by simp only[sH,Option.map_none,sE,h1,sD,Sem.run_pure]),h2,h3⟩
 ·split at h
  ·rename_i x _ _ k e ki zi hd hx;cases h;have hv:=ar hl hx;simp only[VR]at hv;obtain⟨μ',v',w',h1,h2,h3⟩:=zcG (P:=P) (k:=ki) (z:=zi) hd W;exact⟨μ',v',w',.inl (by simp only[sH,td,hv,sE,h1,sD,Sem.run_pure]),h2,h3⟩
  ·cases h
 ·split at h
  ·rename_i x y hx hy;obtain⟨μ',v',w',h1,h2,h3⟩:=rJ (P:=P) W (ar hl hx) (ar hl hy) h;exact⟨μ',v',w',.inl (by simp[sH,h1]),h2,h3⟩
  ·cases h
 ·split at h
  ·rename_i hp;cases h;unfold zpB at hp;split at hp
   ·rename_i x lo hi hx hlo hhi;obtain⟨h1,h2⟩:=zpz (P:=P) (w:=w) (ar hl hx) (oD hl hlo) (oD hl hhi) hp;exact .same W (by simp only[sH,Option.map_none,sE,h1,sD,Sem.run_pure]) h2
   ·cases hp
  ·split at h
   ·rename_i hp;cases h;exact gu W hl hp
   ·split at h
    ·rename_i x lo hi hx hlo hhi;replace h:=cO h;obtain⟨h,rfl⟩:=h;obtain⟨v',h1,h2⟩:=zlp (P:=P) W (ar hl hx) (oD hl hlo) (oD hl hhi) h;exact .same W (by simp only[sH,Option.map_none,sE,h1,sD,Sem.run_pure]) h2
    ·cases h
 ·split at h
  ·rename_i x hx;replace h:=cO h;obtain⟨h,rfl⟩:=h;obtain⟨v',h1,h2⟩:=zlt (w:=w) (ar hl hx) h;exact .same W (by simp[sH,h1]) h2
  ·cases h
 ·split at h
  ·rename_i x hx;replace h:=cO h;obtain⟨h,rfl⟩:=h;obtain⟨v',h1,h2⟩:=zhz (w:=w) (ar hl hx) h;exact .same W (by simp[sH,h1]) h2
  ·cases h
 ·split at h
  ·rename_i x y hx hy;replace h:=cO h;obtain⟨h,rfl⟩:=h;obtain⟨v',h1,h2⟩:=zlr (w:=w) (ar hl hx) (ar hl hy) h;exact .same W (by simp[sH,h1]) h2
  ·cases h
 ·split at h
  ·rename_i x y hx hy;replace h:=cO h;obtain⟨h,rfl⟩:=h;obtain⟨v',h1,h2⟩:=zhy (P:=P) W (ar hl hx) (ar hl hy) h;exact .same W (by simp[sH,h1]) h2
  ·cases h
 ·split at h
  ·rename_i m k x hm hk hx;split at h
   ·rename_i A1 hs;cases h;obtain⟨w',h1,h2,h3⟩:=qS (P:=P) W (ar hl hm) (ar hl hk) (ar hl hx) hs;exact⟨μ,undef,w',.inr ⟨by simp[sH,h1],rfl⟩,dW,h2,h3⟩
   ·cases h
  ·cases h
 ·split at h
  ·rename_i m k x hm hk hx;split at h
   ·rename_i A1 hs;cases h;obtain⟨w',h1,h2,h3⟩:=qS (P:=P) W (ar hl hm) (ar hl hk) (ar hl hx) hs;exact⟨μ,undef,w',.inr ⟨by simp[sH,h1],rfl⟩,dW,h2,h3⟩
   ·cases h
  ·cases h
 ·split at h
  ·rename_i x hx;replace h:=cO h;obtain⟨h,rfl⟩:=h;obtain⟨v',h1,h2⟩:=zfG (P:=P) (w:=w) (ar hl hx) h;exact .same W (by simp[sH,h1]) h2
  ·cases h
 ·exact zfH W hl h
 ·cases h
end Ev
end
section
namespace Ev
noncomputable def fN{α:Type}(n:Nat)(k:Nat->α):α:=Nat.rec (motive:=fun _=>α) (k 0) (fun m _=>k (Nat.succ m)) n
theorem cR{α:Type}(n:Nat)(k:Nat->α):fN n k=k n:=by cases n<;>rfl
noncomputable def fI{α:Type}(n:Int)(k:Int->α):α:=Int.rec (motive:=fun _=>α) (fun m=>fN m fun m=>k (.ofNat m)) (fun m=>fN m fun m=>k (.negSucc m)) n
theorem zwX{α:Type}(n:Int)(k:Int->α):fI n k=k n:=by cases n<;>simp only[fI,cR]
noncomputable def fB{α:Type}(b:Bool)(k:Bool->α):α:=Bool.rec (motive:=fun _=>α) (k false) (k true) b
theorem zsK{α:Type}(b:Bool)(k:Bool->α):fB b k=k b:=by cases b<;>rfl
noncomputable def fU{α:Type}(l:List UInt8):(List UInt8->α)->α:=
 List.rec (motive:=fun _=>(List UInt8->α)->α) (fun k=>k []) (fun u _ ih k=>fN u.toNat fun n=>ih fun r=>k (sT n::r)) l
theorem zsH{α:Type}:∀(l:List UInt8)(k:List UInt8->α),fU l k=k l
 |[],k=>rfl
 |u::r,k=>by show fN u.toNat (fun n=>fU r fun r=>k (sT n::r))=_;simp only[cR,zsH r,UInt8.ofNat_toNat]
noncomputable def fS{α:Type}(s:ByteArray)(k:ByteArray->α):α:=fU s.data.toList fun l=>k ⟨⟨l⟩⟩
theorem zsI{α:Type}(s:ByteArray)(k:ByteArray->α):fS s k=k s:=by obtain⟨⟨l⟩⟩:=s;simp only[fS,zsH]
noncomputable def fA{α:Type}(a:Addr)(k:Addr->α):α:=
 Addr.rec (motive:=fun _=>α) (fun b o s=>sX (motive:=fun _=>α) (fN b fun b=>fN o fun o=>k ⟨b,o,none⟩) (fun s=>k ⟨b,o,some s⟩) s) a
theorem zsL{α:Type}(a:Addr)(k:Addr->α):fA a k=k a:=by obtain⟨b,o,s⟩:=a;cases s<;>simp only[fA,cR]
noncomputable def fV0{α:Type}(v:sG)(k:sG->α):α:=
 sG.casesOn (motive_1:=fun _=>α) v (fun b=>fB b fun b=>k (.bool b)) (fun x n=>fI n fun n=>k (.int x n)) (fun x n=>k (.float x n)) (fun x n m=>k (.complex x n m)) (fun s=>fS s fun s=>k (.string s))
  (fun a=>sX (motive:=fun _=>α) (k (.pointer none)) (fun a=>fA a fun a=>k (.pointer (some a))) a)
  (fun a n c=>fN n fun n=>fN c fun c=>sX (motive:=fun _=>α) (k (.slice none n c)) (fun a=>fA a fun a=>k (.slice (some a) n c)) a)
  (fun r=>sX (motive:=fun _=>α) (k (.map none)) (fun r=>fN r fun r=>k (.map (some r))) r)
  (fun r=>k (.chan r)) (fun f x y=>k (.func f x y)) (k .nilFunc) (fun t v=>k (.iface t v)) (k .nilIface) (fun x=>k (.agg x)) (fun x=>k (.tuple x))
theorem zch{α:Type}(v:sG)(k:sG->α):fV0 v k=k v:=by
 cases v with
 |bool b=>show fB b (fun b=>k (.bool b))=_;rw[zsK]
 |int x n=>show fI n (fun n=>k (.int x n))=_;rw[zwX]
 |string s=>show fS s (fun s=>k (.string s))=_;rw[zsI]
 |pointer a=>cases a with
  |none=>rfl
  |some a=>show fA a (fun a=>k (.pointer (some a)))=_;rw[zsL]
 |slice a n c=>cases a with
  |none=>show fN n (fun n=>fN c fun c=>k (.slice none n c))=_;rw[cR,cR]
  |some a=>show fN n (fun n=>fN c fun c=>fA a fun a=>k (.slice (some a) n c))=_;rw[cR,cR,zsL]
 |map a=>cases a with
  |none=>rfl
  |some a=>show fN a (fun a=>k (.map (some a)))=_;rw[cR]
 |float _ _=>rfl
 |complex _ _ _=>rfl
 |chan _=>rfl
 |func _ _ _=>rfl
 |nilFunc=>rfl
 |iface _ _=>rfl
 |nilIface=>rfl
 |agg _=>rfl
 |tuple _=>rfl
noncomputable def zkZ{α:Type}(l:List sG):(List sG->α)->α:=
 List.rec (motive:=fun _=>(List sG->α)->α) (fun k=>k []) (fun v _ ih k=>fV0 v fun v=>ih fun r=>k (v::r)) l
theorem lP{α:Type}:∀(l:List sG)(k:List sG->α),zkZ l k=k l
 |[],k=>rfl
 |v::r,k=>by show fV0 v (fun v=>zkZ r fun r=>k (v::r))=_;rw[zch,lP r]
noncomputable def fV1{α:Type}(v:sG)(k:sG->α):α:=
 match v with
 |.agg ⟨l⟩=>zkZ l fun l=>k (.agg ⟨l⟩)
 |v=>fV0 v k
theorem zoL{α:Type}(v:sG)(k:sG->α):fV1 v k=k v:=by
 unfold fV1;split
 ·rw[lP]
 ·rw[zch]
noncomputable def zoK{α:Type}(l:List sG):(List sG->α)->α:=
 List.rec (motive:=fun _=>(List sG->α)->α) (fun k=>k []) (fun v _ ih k=>fV1 v fun v=>ih fun r=>k (v::r)) l
theorem zcg{α:Type}:∀(l:List sG)(k:List sG->α),zoK l k=k l
 |[],k=>rfl
 |v::r,k=>by show fV1 v (fun v=>zoK r fun r=>k (v::r))=_;rw[zoL,zcg r]
noncomputable def fV{α:Type}(v:sG)(k:sG->α):α:=
 match v with
 |.agg ⟨l⟩=>zkZ l fun l=>k (.agg ⟨l⟩)
 |.tuple ⟨l⟩=>zoK l fun l=>k (.tuple ⟨l⟩)
 |v=>fV0 v k
theorem ka{α:Type}(v:sG)(k:sG->α):fV v k=k v:=by
 unfold fV;split
 ·rw[lP]
 ·rw[zcg]
 ·rw[zch]
noncomputable def fM{α:Type}:List tf->(List tf->α)->α
 |[],k=>k []
 |⟨a,b,c⟩::r,k=>fV0 a fun a=>fV1 b fun b=>fN c fun c=>fM r fun r=>k (⟨a,b,c⟩::r)
theorem zsJ{α:Type}:∀(l:List tf)(k:List tf->α),fM l k=k l
 |[],k=>rfl
 |⟨a,b,c⟩::r,k=>by simp only[fM,zch,zoL,cR,zsJ r]
noncomputable def fO{α:Type}:Option bz->(Option bz->α)->α
 |none,k=>k none
 |some (.cells vs t op fz es),k=>zkZ vs fun vs=>fN t fun t=>fB op fun op=>fN es fun es=>(match fz with
  |none=>k (some (.cells vs t op none es))
  |some z=>fN z fun z=>k (some (.cells vs t op (some z) es)))
 |some (.map es c),k=>fM es fun es=>fN c fun c=>k (some (.map es c))
 |some (.sit s p),k=>fS s fun s=>fN p fun p=>k (some (.sit s p))
 |some (.dfr op),k=>k (some (.dfr op))
 |some (.loop st j ps asg bd t n),k=>k (some (.loop st j ps asg bd t n))
theorem zwW{α:Type}:∀(o:Option bz)(k:Option bz->α),fO o k=k o
 |none,k=>rfl
 |some (.cells vs t op fz es),k=>by cases fz<;>simp only[fO,lP,cR,zsK]
 |some (.map es c),k=>by simp only[fO,zsJ,cR]
 |some (.sit s p),k=>by simp only[fO,zsI,cR]
 |some (.dfr op),k=>rfl
 |some (.loop st j ps asg bd t n),k=>rfl
noncomputable def zrq{α:Type}:List (Nat×Option bz)->Tr bz->(Tr bz->α)->α
 |[],t,k=>k t
 |(i,o)::r,t,k=>zrq r t fun t=>fN i fun i=>fO o fun o=>Tr.fput o (Nat.succ i) t i k
noncomputable def mL:List (Nat×Option bz)->Tr bz->Tr bz
 |[],t=>t
 |(i,o)::r,t=>Tr.put o (i+1) (mL r t) i
theorem zje{α:Type}:∀(l:List (Nat×Option bz))(t:Tr bz)(k:Tr bz->α),zrq l t k=k (mL l t)
 |[],t,k=>rfl
 |(i,o)::r,t,k=>by simp only[zrq,mL,zje r,cR,zwW,Tr.fput_eq]
theorem qg:∀(l:List (Nat×Option bz))(t:Tr bz)(j:Nat),(mL l t).get j=match kB l j with|some o=>o|none=>t.get j
 |[],t,j=>rfl
 |(i,o)::r,t,j=>by
  simp only[mL,kB];rw[Tr.get_put _ _ _ _ _ (by omega)];by_cases h:j=i
  ·simp[h]
  ·simp only[h,if_false];exact qg r t j
noncomputable def fW{α:Type}(A:AW)(k:AW->α):α:=
 match A with
 |⟨[],t,n⟩=>k ⟨[],t,n⟩
 |⟨x::l,t,n⟩=>zrq (x::l) t fun t=>fN n fun n=>k ⟨[],t,n⟩
noncomputable def fG(A:AW):AW:=⟨[],mL A.log A.tree,A.next⟩
theorem iP{α:Type}(A:AW)(k:AW->α):fW A k=k (fG A):=by
 obtain⟨l,t,n⟩:=A;cases l with
 |nil=>rfl
 |cons x l=>simp only[fW,zje,cR,fG]
theorem lI(A:AW)(j:Nat):(fG A).get j=A.get j:=by simp only[fG,AW.get,kB];exact qg A.log A.tree j
theorem WR.lay{μ:Mu}{A:AW}{w:World}(W:WR μ A w):WR μ (fG A) w:=
 ⟨fun i o l h=>W.has i o l (by rwa [lI]at h),fun i j oi oj li lj hi hj=>W.inj i j oi oj li lj (by rwa [lI]at hi) (by rwa [lI]at hj),W.dom⟩
theorem bG.lay{μ μ':Mu}{A A':AW}{w w':World}(E:bG μ A w μ' A' w'):bG μ A w μ' (fG A') w':=
 ⟨E.le,E.size,E.tape,E.os,E.output,E.stay,fun i o l h=>E.img i o l (by rwa [lI]at h),E.next,E.keep⟩
end Ev
end
end Go.Proofs.YtbbapnpdfcgjnaaGreatDoor
