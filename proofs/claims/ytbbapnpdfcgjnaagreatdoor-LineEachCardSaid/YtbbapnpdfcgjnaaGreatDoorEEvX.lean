/- EvX, Ev11, EvN: parts of the proof, joined. -/
import Derived.Laws.BytesString
import Derived.Laws.RangeString
import Derived.Test.YtbbapnpdfcgjnaaGreatDoorEEv9
open Go.Result renaming andThen->sR
open Go.Sem renaming run_bind->sS
open Go renaming Value->sT, execOp->sU, TypeId->sV, Operand->sW, run_convert_bytes_string->sX, eqGuard->ta, Program->te, run_bytesToString->tq, MapEntry->tz
open Go.Utf8 renaming decode->sY
open Go.Builtin renaming clear_->sZ, copy_->tf, firstCells->tg, zeroCells->tj, append_->tu
open Array renaming toList_map->tc, map->td, getElem?_push->tk
open UInt8 renaming ofNat->ti
open Option renaming rec->tp
open Nat renaming min->tr, le_refl->tt, add_zero->tC
open Go.Instr renaming next->tw, range->tD, alloc->tE
set_option maxHeartbeats 64000000
namespace Go.Proofs.YtbbapnpdfcgjnaaGreatDoor
section
namespace Ev
variable {P:te} {μ:Mu} {A:AW} {w:World}
theorem lI:∀{l:List sT} {bs:List UInt8},dz l=some bs->∃ns:List Int,l=ns.map (sT.int .u8)/\bs=ns.map fun n=>ti n.toNat
 |[],bs,h=>by simp only[dz]at h;cases h;exact⟨[],rfl,rfl⟩
 |x::l,bs,h=>by
  unfold dz at h
  split at h
  ·rename_i heq;cases heq
  ·rename_i n r heq
   cases heq
   split at h
   ·rename_i bs' hbs
    cases h
    obtain⟨ns,rfl,rfl⟩:=lI hbs;exact⟨n::ns,rfl,rfl⟩
   ·cases h
  ·cases h
theorem sb:∀(ns:List Int)(s:ByteArray),ns.foldl (fun r n=>r.push (ti n.toNat)) s=⟨(s.data.toList++ns.map fun n=>ti n.toNat).toArray⟩
 |[],s=>by simp
 |n::ns,s=>by
  rw[List.foldl_cons,sb ns]
  simp[ByteArray.push]
noncomputable def zrH(P:te)(A:AW)(src dst:sV)(x:sT):Option sT:=
 match P.underlying src,P.underlying dst with
 |some (.slice e),some .string=>match P.underlying e with
  |some (.int .u8)=>match x with
   | .slice none _ _=>some (.string .empty)
   | .slice (some a) n _=>if n=0 then some (.string .empty)else match A.get a.block with
    |some (.cells vs _ _ _ _)=>if a.off+n<=vs.length then
      match dz ((vs.drop a.off).take n)with
      |some bs=>some (.string ⟨bs.toArray⟩)
      |none=>none
     else none
    |_=>none
   |_=>none
  |_=>none
 |_,_=>none
theorem zrG{src dst:sV}{x x' v:sT}(W:WR μ A w)(hx:VR μ x x')(h:zrH P A src dst x=some v):∃v',(convert src dst x').run P w=.ok v' w/\VR μ v v':=by
 unfold zrH at h
 split at h
 ·rename_i e hs hd
  split at h
  ·rename_i he
   split at h
   ·cases h;simp only[VR]at hx;subst hx
    exact⟨.string .empty,by rw[sX w src dst e none _ _ hs he hd];rfl,by simp[VR]⟩
   ·rename_i a n c
    simp only[VR]at hx
    obtain⟨a',c',rfl,hS⟩:=hx
    split at h
    ·rename_i h0;cases h;subst h0
     refine⟨.string .empty,?_,by simp[VR]⟩
     rw[sX w src dst e (some a') _ _ hs he hd,tq w a' 0 c' [] rfl]
     rfl
    ·rename_i h0
     split at h
     ·rename_i vs t op fz es hg
      split at h
      ·rename_i hle
       split at h
       ·rename_i bs hbs
        cases h
        obtain⟨xs',h1,h2⟩:=eS (P:=P) W (hS.addr (by omega)) hg hle
        have iA:=bN (gO hbs) h2;subst iA;obtain⟨ns,hns,rfl⟩:=lI hbs;rw[hns]at h1;refine⟨_,by rw[sX w src dst e (some a') _ _ hs he hd,tq w a' n c' ns h1],?_⟩
        rw[sb]
        simp only[VR]
        rfl
       ·cases h
      ·cases h
     ·cases h
   ·cases h
  ·cases h
 ·cases h
noncomputable def zpg(P:te)(A:AW)(dst:sV):sT->Option (sT×AW)
 | .string s=>match P.underlying dst with
  |some (.slice e)=>match P.underlying e,P.info? e with
   |some (.int .u8),some ie=>if ie.size=1/\s.size<=1000000 then some (.slice (some ⟨A.next,0,none⟩) s.size oI,A.push (.cells (dy s s.size) e true (some 0) 1))else none
   |_,_=>none
  |_=>none
 |_=>none
theorem zrE{src dst:sV}{x x' v:sT}{A':AW}{ds:TypeDesc}(W:WR μ A w)(hsrc:P.underlying src=some ds)(hx:VR μ x x')(h:zpg P A dst x=some (v,A')):
  ∃μ' v' w',(convert src dst x').run P w=.ok v' w'/\VR μ' v v'/\WR μ' A' w'/\bG μ A w μ' A' w':=by
 unfold zpg at h
 split at h
 ·rename_i s
  simp only[VR]at hx;subst hx
  split at h
  ·rename_i e hd
   split at h
   ·rename_i ie he hie
    split at h
    ·rename_i hc
     cases h
     obtain⟨W1,E1⟩:=W.drawn (w.drawn+1);have hlen:(dy s s.size).length=s.size:=by
      unfold dy;rw[tc,List.length_map]
      simp
     have hcut:∃m,s.size<=m/\m=Question.cut (.appendCap s.size 0 e) (w.tape w.drawn (.appendCap s.size 0 e)):=⟨_,by simp[Question.cut],rfl⟩
     obtain⟨m,hm,hme⟩:=hcut;have hb:(s.data.map fun b=>sT.int .u8 b.toNat)=(dy s s.size).toArray:=by
      unfold dy;have:s.extract 0 s.size=s:=by simp
      rw[this]
     have hLR:LR μ (dy s s.size) (dy s s.size):=bv (by unfold dy;rw[tc];exact iD _)
     let c:Array sT:=(dy s s.size).toArray++Array.replicate (m-s.size) (.int .u8 0)
     have hcs:c.size=m:=by simp only[c,Array.size_append,List.size_toArray,hlen,Array.size_replicate];omega
     have hN:=W1.new (d:=0) (sz:=m) (k:=1) (o:=.cells (dy s s.size) e true (some 0) 1) (o':=.cells c e (m,m+1)) (by
      have hle:=Mu.add_le (x:=⟨w.heap.size,0,m,1⟩) (W1.dom A.next (tt _));refine⟨c,(m,m+1),rfl,hcs,by simp only[Nat.zero_add,hlen];exact hm,by simp,rfl,?_,?_⟩
      ·simp only[List.drop_zero,c,Array.toList_append]
       rw[List.take_left' rfl];exact hLR.mono hle
      ·simp only[FZ];intro i hi;simp at hi⊢;omega)
     refine⟨_,.slice (some ⟨w.heap.size,0,none⟩) s.size m,_,?_,?_,hN.1,E1.trans hN.2⟩
     ·have hconv:(convert src dst (.string s)).run P w=(Conv.stringToBytes e s).run P w:=by
       unfold convert
       simp only[sS,rU hsrc,rU hd,sR,rU he]
      rw[hconv]
      simp only[Conv.stringToBytes,sS,run_choose,Question.forced,Bool.false_eq_true,if_false,sR]
      rw[<- hme,hb]
      simp only[newRow,sS,run_newObj,sR,Sem.run_pure,markStringish,run_shape,World.shape?,Array.getElem?_push_size,run_freeze]
      have hfz:World.freeze {w with drawn:=w.drawn+1,heap:=w.heap.push (.cells c e)} {block:=w.heap.size,off:=c.size} 1={w with drawn:=w.drawn+1,heap:=w.heap.push (.cells c e (m,m+1))}:=by
       unfold World.freeze;rw[if_neg (by omega)]
       congr 1
       apply Array.ext_getElem?
       intro j;rw[Array.getElem?_modify,tk,tk]
       by_cases e':w.heap.size=j
       ·subst e';simp[hcs]
       ·have:¬j=w.heap.size:=fun h=>e' h.symm
        simp[e',this]
      exact congrArg (fun W'=>Result.ok (sT.slice (some ⟨w.heap.size,0,none⟩) s.size m) W') hfz
     ·simp only[VR]
      exact⟨_,_,rfl,.inr ⟨rfl,.inr ⟨rfl,hm,_,Mu.add_get (W1.dom A.next (tt _)),by simp,by simp⟩⟩⟩
    ·cases h
   ·cases h
  ·cases h
 ·cases h
noncomputable def zpm(P:te)(A:AW)(dType:sV)(d s:sT):Option (sT×AW):=
 match P.underlying dType,kZ s with
 |some (.slice elem),some sl=>match P.info? elem,d with
  |some _,.slice none dl _=>if tr sl dl=0 then some (goInt 0,A)else none
  |some ie,.slice (some a) dl _=>if tr sl dl=0 then some (goInt 0,A)else
    match A.get a.block,qn A ie.size (tr sl dl) s with
    |some (.cells vs t op fz es),some xs=>if xs.all (·.oneCell')=true/\a.off+xs.length<=vs.length/\zkP fz a.off=true then
      some (goInt (tr sl dl),A.set a.block (some (.cells (aR vs a.off xs) t op fz es)))
     else none
    |_,_=>none
  |_,_=>none
 |_,_=>none
theorem qf{x x':sT}{size m:Nat}(hx:VR μ x x')(hm:kZ x=some m):(tg size 0 x').run P w=.ok #[] w:=by
 unfold kZ at hm
 split at hm
 ·rename_i a n c
  cases a with
  |none=>simp only[VR]at hx;subst hx;rfl
  |some a=>simp only[VR]at hx;obtain⟨_,_,rfl,_⟩:=hx;simp[tg,loadCells,loadCellsFrom]
 ·simp only[VR]at hx;subst hx;simp[tg]
 ·cases hm
theorem zpl{dType sType ty:sV}{d d' s s' v:sT}{A':AW}(W:WR μ A w)(hd:VR μ d d')(hs:VR μ s s')(h:zpm P A dType d s=some (v,A')):
  ∃v' w',(tf #[dType,sType] ty #[d',s']).run P w=.ok v' w'/\VR μ v v'/\WR μ A' w'/\bG μ A w μ A' w':=by
 unfold zpm at h
 split at h
 ·rename_i elem sl hu hsl
  split at h
  ·rename_i ie dl dc hie
   simp only[VR]at hd;subst hd
   split at h
   ·rename_i h0
    cases h
    refine⟨goInt 0,w,?_,by simp[goInt,VR],W,bG.refl⟩
    simp[tf,rU hu,eh hs hsl,rS hie,h0,qf hs hsl]
   ·cases h
  ·rename_i ie a dl dc hie
   simp only[VR]at hd
   obtain⟨a',c',rfl,hS⟩:=hd
   split at h
   ·rename_i h0
    cases h
    refine⟨goInt 0,w,?_,by simp[goInt,VR],W,bG.refl⟩
    simp[tf,rU hu,eh hs hsl,rS hie,h0,qf hs hsl,storeCells]
   ·rename_i h0
    split at h
    ·rename_i vs t op fz es xs hg iA
     split at h
     ·rename_i hc
      obtain⟨h1,h2,h3⟩:=hc
      cases h
      obtain⟨xs',h4,h5⟩:=dF (P:=P) W hs hsl (Nat.min_le_left _ _) iA;have hdl:0<dl:=by
       have:tr sl dl<=dl:=Nat.min_le_right sl dl;omega
      obtain⟨w',h6,h7,h8⟩:=ff (P:=P) W (hS.addr hdl) hg h5 h1 h2 h3;refine⟨goInt (tr sl dl),w',?_,by simp[goInt,VR],h7,h8⟩
      simp[tf,rU hu,eh hs hsl,rS hie,h4,h6]
     ·cases h
    ·cases h
  ·cases h
 ·cases h
noncomputable def zgT(P:te)(A:AW)(t:sV):sT->Option AW
 | .slice none _ _=>match P.underlying t with
  |some _=>some A
  |none=>none
 | .slice (some _) 0 _=>match P.underlying t with
  |some _=>some A
  |none=>none
 | .slice (some a) (n+1) _=>match P.underlying t with
  |some (.slice elem)=>match P.info? elem with
   |some ie=>match ie.zero with
    |some z=>match A.get a.block with
     |some (.cells vs ty op fz es)=>if bV z=true/\(cL (n+1) (aF z)).all (·.oneCell')=true/\a.off+(cL (n+1) (aF z)).length<=vs.length/\zkP fz a.off=true then
       some (A.set a.block (some (.cells (aR vs a.off (cL (n+1) (aF z))) ty op fz es)))
      else none
     |_=>none
    |none=>none
   |none=>none
  |_=>none
 |_=>none
theorem ziS(z:sT)(m:Nat):tj z.cells m=(cL m (aF z)).toArray:=by
 unfold tj;rw[gF,cu]
theorem rA{z:List sT}(h:LR μ z z):∀n,LR μ (cL n z) (cL n z)
 |0=>LR.nil
 |n+1=>h.append (rA h n)
theorem zkJ{t ty:sV}{x x':sT}{A':AW}(W:WR μ A w)(hx:VR μ x x')(h:zgT P A t x=some A'):
  ∃w',(sZ #[t] ty #[x']).run P w=.ok (.tuple #[]) w'/\WR μ A' w'/\bG μ A w μ A' w':=by
 unfold zgT at h
 split at h
 ·split at h
  ·rename_i d hd
   cases h
   simp only[VR]at hx;subst hx
   exact⟨w,by simp[sZ,rU hd],W,bG.refl⟩
  ·cases h
 ·split at h
  ·rename_i d hd
   cases h
   simp only[VR]at hx;obtain⟨a',c',rfl,_⟩:=hx
   exact⟨w,by simp[sZ,rU hd],W,bG.refl⟩
  ·cases h
 ·rename_i a n c
  simp only[VR]at hx;obtain⟨a',c',rfl,hS⟩:=hx
  split at h
  ·rename_i elem hd
   split at h
   ·rename_i ie hi
    split at h
    ·rename_i z hz
     split at h
     ·rename_i vs ty' op fz es hg
      split at h
      ·rename_i hc
       obtain⟨h1,h2,h3,h4⟩:=hc
       cases h
       have hL:LR μ (aF z) (aF z):=by
        have:=iL (cy (μ:=μ) h1)
        rwa [cu]at this
       obtain⟨w',h6,h7,h8⟩:=ff (P:=P) W (hS.addr (Nat.succ_pos _)) hg (rA hL (n+1)) h2 h3 h4;refine⟨w',?_,h7,h8⟩;have e:(tj z.cells (n+1)).toList=cL (n+1) (aF z):=by rw[ziS]
       simp[sZ,rU hd,rZ hi hz,e,h6]
      ·cases h
     ·cases h
    ·cases h
   ·cases h
  ·cases h
 ·cases h
noncomputable def zbB(P:te)(A:AW)(t:sV):sT->Option (sT×AW)
 | .string s=>match P.underlying t with
  |some .string=>some (.pointer (some ⟨A.next,0,none⟩),A.push (.sit s 0))
  |_=>none
 |_=>none
theorem zkF{t:sV}{x x' v:sT}{A':AW}(W:WR μ A w)(hx:VR μ x x')(h:zbB P A t x=some (v,A')):∃μ' v' w',(tD t x').run P w=.ok v' w'/\VR μ' v v'/\WR μ' A' w'/\bG μ A w μ' A' w':=by
 unfold zbB at h
 split at h
 ·rename_i s
  simp only[VR]at hx;subst hx
  split at h
  ·rename_i hu
   cases h
   have hN:=W.new (d:=0) (sz:=0) (k:=0) (o:=.sit s 0) (o':=.stringIter s 0) ⟨rfl,rfl⟩;refine⟨_,.pointer (some ⟨w.heap.size,0,none⟩),_,?_,?_,hN⟩
   ·simp[tD,rU hu]
   ·simp only[VR];exact⟨_,rfl,zbL (W.dom _ (tt _))⟩
  ·cases h
 ·cases h
noncomputable def ziO(A:AW)(str:Bool):sT->Option (sT×AW)
 | .pointer (some ⟨r,0,none⟩)=>match A.get r,str with
  |some (.sit s pos),true=>if pos<s.size then some (.tuple ⟨[.bool true,goInt pos,.int .i32 (sY s pos).1]⟩,A.set r (some (.sit s (pos+(sY s pos).2))))else some (.tuple ⟨[.bool false]⟩,A)
  |_,_=>none
 |_=>none
theorem zpj{str:Bool}{ty:sV}{x x' v:sT}{A':AW}(W:WR μ A w)(hx:VR μ x x')(h:ziO A str x=some (v,A')):∃v' w',(tw x' str ty).run P w=.ok v' w'/\VR μ v v'/\WR μ A' w'/\bG μ A w μ A' w':=by
 unfold ziO at h
 split at h
 ·rename_i r
  simp only[VR]at hx
  obtain⟨a',rfl,_,l,hm,rfl⟩:=hx
  split at h
  ·rename_i s pos hg
   obtain⟨o',h2,h3⟩:=W.has _ _ l hg hm;obtain⟨hd0,rfl⟩:=h3;have hget:(getObj l.b).run P w=.ok (.stringIter s pos) w:=by simp[getObj,Sem.run,h2]
   split at h
   ·rename_i hlt
    cases h
    have hset:(setObj l.b (.stringIter s (pos+(sY s pos).2))).run P w=.ok () {w with heap:=w.heap.setIfInBounds l.b (.stringIter s (pos+(sY s pos).2))}:=by simp[setObj,Sem.run,h2]
    have hU:=W.upd (o:=.sit s (pos+(sY s pos).2)) (o':=.stringIter s (pos+(sY s pos).2)) hg hm ⟨hd0,rfl⟩;refine⟨.tuple #[.bool true,goInt pos,.int .i32 (sY s pos).1],_,?_,?_,hU⟩
    ·simp only[tw,hd0,tC,sS,hget,sR,hlt,if_true,hset,Sem.run_pure]
    ·simp only[VR]
     exact⟨_,rfl,LR.cons (by simp[VR]) (LR.cons (by simp[goInt,VR]) (LR.cons (by simp[VR]) LR.nil))⟩
   ·rename_i hge
    cases h
    refine⟨.tuple #[.bool false],w,?_,?_,W,bG.refl⟩
    ·simp only[tw,hd0,tC,sS,hget,sR,hge,if_false,Sem.run_pure]
    ·simp only[VR]
     exact⟨_,rfl,LR.cons (by simp[VR]) LR.nil⟩
  ·cases h
 ·cases h
end Ev
end
section
namespace Ev
variable {P:te} {μ:Mu} {A:AW} {w:World}
noncomputable def mK(P:te)(A:AW)(sType xType:sV)(s x:sT):Option (sT×AW):=
 match P.underlying sType,P.underlying xType,kZ s,kZ x with
 |some (.slice elem),some dx,some len,some n=>match P.info? elem with
  |some ie=>match ie.zero with
   |some z=>if zaV dx=false/\bV z=true/\(aF z).length=ie.size/\ie.bytes<=65536/\0<ie.size/\len+n<=1000000 then zbI A elem ie.size s x n else none
   |none=>none
  |none=>none
 |_,_,_,_=>none
theorem zbH{sType xType ty:sV}{s s' x x' v:sT}{A':AW}(W:WR μ A w)(hs:VR μ s s')(hx:VR μ x x')(h:mK P A sType xType s x=some (v,A')):
  ∃μ' v' w',(tu #[sType,xType] ty #[s',x']).run P w=.ok v' w'/\VR μ' v v'/\WR μ' A' w'/\bG μ A w μ' A' w':=by
 unfold mK at h
 split at h
 ·rename_i elem dx len n h1 h2 h3 h4
  split at h
  ·rename_i ie hie
   split at h
   ·rename_i z hz
    split at h
    ·rename_i hc
     obtain⟨c1,c2,c3,c4,c5,c6⟩:=hc;exact zgU {ie,z,dx,hd:=h1,hx:=h2,hn:=c1,hi:=hie,hs:=rfl,hz,hf:=c2,hl:=c3,hb:=c4,h0:=c5} W hs hx h4 h3 c6 h
    ·cases h
   ·cases h
  ·cases h
 ·cases h
noncomputable def eY(P:te)(l:bT)(o:Oper)(A:AW)(b:Builtin)(args:List sW)(ts:List sV):Option (sT×AW):=
 match fu P l o with
 |some v=>some (v,A)
 |none=>match b,args,ts with
  | .len,[x],[t]=>match bE l x with
   |some v=>match zwb P A t v with
    |some r=>some (r,A)
    |none=>none
   |none=>none
  | .append,[x,y],[t,u]=>match bE l x,bE l y with
   |some s,some e=>mK P A t u s e
   |_,_=>none
  | .unsafeSliceData,[x],_=>match bE l x with
   |some v=>match kv v with
    |some r=>some (r,A)
    |none=>none
   |none=>none
  | .unsafeString,[x,y],[t,_]=>match bE l x,bE l y with
   |some p,some n=>zbx P A t p n
   |_,_=>none
  | .copy,[x,y],[t,_]=>match bE l x,bE l y with
   |some p,some n=>zpm P A t p n
   |_,_=>none
  | .clear,[x],[t]=>match bE l x with
   |some v=>match zgT P A t v with
    |some A'=>some (.tuple #[],A')
    |none=>none
   |none=>none
  |_,_,_=>none
def o1{α:Type}(x:Option α)(A:AW):Option (α×AW):=
 match x with
 |some v=>some (v,A)
 |none=>none
noncomputable def zcG(l:bT):Option sW->Option (Option sT)
 |none=>some none
 |some x=>match bE l x with
  |some v=>some (some v)
  |none=>none
theorem nU{l:bT}{a:Act}{x:Option sW}{v:Option sT}(h:TR μ l a.tmps.toList)(hx:zcG l x=some v):OVR μ v (x.map a.eval):=by
 unfold zcG at hx
 split at hx
 ·cases hx;simp[OVR]
 ·split at hx
  ·rename_i hv;cases hx;simp only[OVR,Option.map_some];exact⟨_,rfl,aw h hv⟩
  ·cases hx
noncomputable def zpd(P:te)(l:bT)(t:sV)(x:sW)(lo hi:Option sW):Option sT:=
 match bE l x,zcG l lo,zcG l hi with
 |some v,some a,some b=>zpc P t v a b
 |_,_,_=>none
noncomputable def kw(P:te)(l:bT)(o:Oper)(A:AW):Option (sT×AW):=
 match o.op with
 | .move x| .assign x=>o1 (bE l x) A
 | .pick c a b=>match bE l c with
  |some (.bool true)=>o1 (bE l a) A
  |some (.bool false)=>o1 (bE l b) A
  |_=>none
 | .alloc t=>match P.info? t with
  |some i=>match i.zero with
   |some z=>if bV z then some (zff A t (aF z) 1)else none
   |none=>none
  |none=>none
 | .box t x=>match bE l x with
  |some v=>some (zff A t (aF v) 1)
  |none=>none
 | .build t ps=>o1 (zbG P l t ps.toList) A
 | .buildSlice t n ps=>fw P A l t n ps.toList
 | .load t x=>match bE l x with
  |some p=>o1 (lM P A t p) A
  |none=>none
 | .store t x y=>match bE l x,bE l y with
  |some p,some v=>match zby P A t v p with
   |some A'=>some (undef,A')
   |none=>none
  |_,_=>none
 | .nilCheck x=>match bE l x with
  |some v=>if zaE v then some (v,A)else none
  |none=>none
 | .binOp op t x y _=>match fu P l o with
  |some v=>some (v,A)
  |none=>match bE l x,bE l y with
   |some a,some b=>o1 (aEq P A op t a b) A
   |_,_=>none
 | .unOp _ _ _| .index _ _ _=>o1 (fu P l o) A
 | .convert s d x=>match fu P l o with
  |some v=>some (v,A)
  |none=>match bE l x with
   |some v=>match zrH P A s d v with
    |some r=>some (r,A)
    |none=>match oD P A s d v with
     |some r=>some (r,A)
     |none=>match P.underlying s with
      |some _=>zpg P A d v
      |none=>none
   |none=>none
 | .range t x=>match bE l x with
  |some v=>zbB P A t v
  |none=>none
 | .next x str=>match bE l x with
  |some v=>ziO A str v
  |none=>none
 | .makeInterface t x=>match bE l x with
  |some v=>o1 (zbE P t v) A
  |none=>none
 | .makeFunc (.func f) first captured=>match zcF l first.toList,zcF l captured.toList with
  |some a,some b=>some (.func (.func f) ⟨a⟩ ⟨b⟩,A)
  |_,_=>none
 | .makeMap _ none=>some (.map (some A.next),A.push (.map [] 0))
 | .makeMap t (some x)=>match P.underlying t,bE l x with
  |some (.map _ _),some (.int _ _)=>some (.map (some A.next),A.push (.map [] 0))
  |_,_=>none
 | .makeSlice t x y=>match bE l x,bE l y with
  |some a,some b=>gQ P A t a b
  |_,_=>none
 | .slice t x lo hi none=>match zpd P l t x lo hi with
  |some v=>some (v,A)
  |none=>match fu P l o with
   |some v=>some (v,A)
   |none=>match bE l x,zcG l lo,zcG l hi with
    |some v,some a,some b=>o1 (zbz P A t a b v) A
    |_,_,_=>none
 | .fieldAddr s x f=>match bE l x with
  |some v=>o1 (zbF P s f v) A
  |none=>none
 | .field t x f=>match bE l x with
  |some v=>o1 (oF P t f v) A
  |none=>none
 | .indexAddr t x i=>match bE l x,bE l i with
  |some a,some b=>o1 (zbD P t a b) A
  |_,_=>none
 | .lookup t x k ok=>match bE l x,bE l k with
  |some a,some b=>o1 (oE P A t a b ok) A
  |_,_=>none
 | .mapUpdate t m k x| .insert t m k x=>match bE l m,bE l k,bE l x with
  |some a,some b,some c=>match oC P A t b c a with
   |some A'=>some (undef,A')
   |none=>none
  |_,_,_=>none
 | .extract x i=>match bE l x with
  |some v=>o1 (lN i v) A
  |none=>none
 | .call {callee:=.builtin b,args:=⟨args⟩,argTypes:=⟨ts⟩}=>eY P l o A b args ts
 |_=>none
theorem cU{x:Option sT}{A A':AW}{v:sT}(h:o1 x A=some (v,A')):x=some v/\A'=A:=by
 unfold o1 at h
 split at h
 ·cases h;exact⟨rfl,rfl⟩
 ·cases h
theorem ztm{f:sW->sT}{x:sW}:td f ⟨[x]⟩=#[f x]:=by
 rw[show(⟨[x]⟩:Array sW)=[x].toArray from rfl];simp
theorem ztl{f:sW->sT}{x y:sW}:td f ⟨[x,y]⟩=#[f x,f y]:=by
 rw[show(⟨[x,y]⟩:Array sW)=[x,y].toArray from rfl];simp
theorem zfi{l:bT}{a:Act}{dst:Option Tmp}{type:sV}{pos:String}{after:Array Edge}{guard:Option (Nat×Bool)}{b:Builtin}{args:List sW}{ts:List sV}{v:sT}{A':AW}(W:WR μ A w)(hl:TR μ l a.tmps.toList)
  (h:eY P l ⟨dst,.call {callee:=.builtin b,args:=⟨args⟩,argTypes:=⟨ts⟩},type,pos,after,guard⟩ A b args ts=some (v,A')):
  zgW P a.eval ⟨dst,.call {callee:=.builtin b,args:=⟨args⟩,argTypes:=⟨ts⟩},type,pos,after,guard⟩ μ A w v A':=by
 unfold eY at h
 split at h
 ·rename_i hp;cases h;exact gj W hl hp
 ·split at h
  ·rename_i x t _
   split at h
   ·rename_i u hu
    split at h
    ·rename_i r hr
     cases h
     obtain⟨v',h1,h2⟩:=zrF (P:=P) (ty:=type) W (aw hl hu) hr;refine .same W ?_ h2
     simp only[sU,resolve,sS,Sem.run_pure,sR,invoke,builtin]
     have e:(Builtin.len_ #[t] type (td a.eval ⟨[x]⟩)).run P w=.ok v' w:=by rw[ztm];exact h1
     rw[e]
    ·cases h
   ·cases h
  ·rename_i x y t u _
   split at h
   ·rename_i s e hs he
    obtain⟨μ',v',w',h1,h2,h3⟩:=zbH (P:=P) (ty:=type) W (aw hl hs) (aw hl he) h;refine⟨μ',v',w',.inl ?_,h2,h3⟩
    simp only[sU,resolve,sS,Sem.run_pure,sR,invoke,builtin]
    have e:(tu #[t,u] type (td a.eval ⟨[x,y]⟩)).run P w=.ok v' w':=by rw[ztl];exact h1
    rw[e]
   ·cases h
  ·rename_i x _
   split at h
   ·rename_i u hu
    split at h
    ·rename_i r hr
     cases h
     obtain⟨v',h1,h2⟩:=qO (P:=P) (w:=w) (ts:=⟨ts⟩) (t:=type) (aw hl hu) hr;refine .same W ?_ h2
     simp only[sU,resolve,sS,Sem.run_pure,sR,invoke,builtin]
     have e:(Builtin.unsafeSliceData_ ⟨ts⟩ type (td a.eval ⟨[x]⟩)).run P w=.ok v' w:=by rw[ztm];exact h1
     rw[e]
    ·cases h
   ·cases h
  ·rename_i x y t it _
   split at h
   ·rename_i p n hp hn
    obtain⟨v',w',h1,h2,h3⟩:=zgP (P:=P) (it:=it) (ty:=type) W (aw hl hp) (aw hl hn) h;refine⟨μ,v',w',.inl ?_,h2,h3⟩
    simp only[sU,resolve,sS,Sem.run_pure,sR,invoke,builtin]
    have e:(Builtin.unsafeString_ #[t,it] type (td a.eval ⟨[x,y]⟩)).run P w=.ok v' w':=by rw[ztl];exact h1
    rw[e]
   ·cases h
  ·rename_i x y t it _
   split at h
   ·rename_i p n hp hn
    obtain⟨v',w',h1,h2,h3⟩:=zpl (P:=P) (sType:=it) (ty:=type) W (aw hl hp) (aw hl hn) h;refine⟨μ,v',w',.inl ?_,h2,h3⟩
    simp only[sU,resolve,sS,Sem.run_pure,sR,invoke,builtin]
    have e:(tf #[t,it] type (td a.eval ⟨[x,y]⟩)).run P w=.ok v' w':=by rw[ztl];exact h1
    rw[e]
   ·cases h
  ·rename_i x t _
   split at h
   ·rename_i u hu
    split at h
    ·rename_i A1 hr
     cases h
     obtain⟨w',h1,h2,h3⟩:=zkJ (P:=P) (ty:=type) W (aw hl hu) hr;refine⟨μ,.tuple #[],w',.inl ?_,by simp[VR,LR],h2,h3⟩
     simp only[sU,resolve,sS,Sem.run_pure,sR,invoke,builtin]
     have e:(sZ #[t] type (td a.eval ⟨[x]⟩)).run P w=.ok (.tuple #[]) w':=by rw[ztm];exact h1
     rw[e]
    ·cases h
   ·cases h
  ·cases h
theorem zwc{op:BinOp}{t:sV}{xo yo:sW}{x x' y y' v:sT}(W:WR μ A w)(hx:VR μ x x')(hy:VR μ y y')(h:aEq P A op t x y=some v):
  ((do ta op t xo yo x' y';binOp op t x' y'):Sem sT).run P w=.ok v w:=by
 unfold aEq at h
 split at h
 ·rename_i hadr
  have main:∀r,p6 P A t x y=some r->((op=.eql/\v=.bool r)\/(op=.neq/\v=.bool (!r)))->((do ta op t xo yo x' y';binOp op t x' y'):Sem sT).run P w=.ok v w:=by
   intro r hr hop;have he:=zou (w:=w) W hx hy hr
   rcases zeK hr with ⟨p,q,rfl,rfl⟩|⟨p1,p2,p3,q1,q2,q3,rfl,rfl⟩|⟨p,q,rfl,rfl⟩|⟨f,u1,v1,rfl,rfl⟩|⟨f,u1,v1,rfl,rfl⟩|⟨p,q,rfl,rfl⟩|⟨p,q,rfl,rfl⟩|⟨p1,p2,q1,q2,rfl,rfl⟩
   all_goals
    have kx:=hx;have ky:=hy
   ·cases p<;>cases q<;>simp only[VR]at kx ky<;>(first|(obtain⟨_,rfl,_⟩:=kx)|subst kx)<;>(first|(obtain⟨_,rfl,_⟩:=ky)|subst ky)<;>rcases hop with ⟨rfl,rfl⟩|⟨rfl,rfl⟩<;>simp[ta,binOp,he]
   ·cases p1<;>cases q1<;>simp only[VR]at kx ky<;>(first|(obtain⟨_,_,rfl,_⟩:=kx)|subst kx)<;>(first|(obtain⟨_,_,rfl,_⟩:=ky)|subst ky)<;>rcases hop with ⟨rfl,rfl⟩|⟨rfl,rfl⟩<;>simp[ta,binOp,he]
   ·cases p<;>cases q<;>simp only[VR]at kx ky<;>(first|(obtain⟨_,rfl,_⟩:=kx)|subst kx)<;>(first|(obtain⟨_,rfl,_⟩:=ky)|subst ky)<;>rcases hop with ⟨rfl,rfl⟩|⟨rfl,rfl⟩<;>simp[ta,binOp,he]
   ·simp only[VR]at kx;subst kx
    obtain⟨u1⟩:=u1;obtain⟨v1⟩:=v1
    cases f<;>simp only[VR]at ky
    ·obtain⟨_,_,rfl,_⟩:=ky
     rcases hop with ⟨rfl,rfl⟩|⟨rfl,rfl⟩<;>simp[ta,binOp,he]
    ·obtain⟨_,_,_,rfl,_⟩:=ky
     rcases hop with ⟨rfl,rfl⟩|⟨rfl,rfl⟩<;>simp[ta,binOp,he]
   ·simp only[VR]at ky;subst ky
    obtain⟨u1⟩:=u1;obtain⟨v1⟩:=v1
    cases f<;>simp only[VR]at kx
    ·obtain⟨_,_,rfl,_⟩:=kx
     rcases hop with ⟨rfl,rfl⟩|⟨rfl,rfl⟩<;>simp[ta,binOp,he]
    ·obtain⟨_,_,_,rfl,_⟩:=kx
     rcases hop with ⟨rfl,rfl⟩|⟨rfl,rfl⟩<;>simp[ta,binOp,he]
   ·simp only[VR]at kx ky;subst kx;obtain⟨_,rfl,_⟩:=ky
    rcases hop with ⟨rfl,rfl⟩|⟨rfl,rfl⟩<;>simp[ta,binOp,he]
   ·simp only[VR]at kx ky;subst ky;obtain⟨_,rfl,_⟩:=kx
    rcases hop with ⟨rfl,rfl⟩|⟨rfl,rfl⟩<;>simp[ta,binOp,he]
   ·simp only[VR]at kx ky;obtain⟨_,rfl,_⟩:=kx;obtain⟨_,rfl,_⟩:=ky
    rcases hop with ⟨rfl,rfl⟩|⟨rfl,rfl⟩<;>simp[ta,binOp,he]
  split at h
  ·rename_i r hr;cases h;exact main _ hr (.inl ⟨rfl,rfl⟩)
  ·rename_i r hr;cases h;exact main _ hr (.inr ⟨rfl,rfl⟩)
  ·cases h
 ·cases h
theorem zfL{o:Oper}{x:sW}{a:Act}{v:sT}(ho:o.op=.nilCheck x)(hv:VR μ v (a.eval x))(hn:zaE v=true):(sU a.eval o).run P w=.ok (.value (a.eval x)) w:=by
 unfold zaE at hn
 split at hn
 ·simp only[VR]at hv;obtain⟨_,he,_⟩:=hv;simp[sU,ho,he]
 ·rename_i f x1 y1;obtain⟨x1⟩:=x1;obtain⟨y1⟩:=y1
  simp only[VR]at hv;obtain⟨_,_,he,_⟩:=hv;simp[sU,ho,he]
 ·simp only[VR]at hv;obtain⟨_,he,_⟩:=hv;simp[sU,ho,he]
 ·cases hn
theorem zgQ{l:bT}{a:Act}{o:Oper}{v:sT}{A':AW}(W:WR μ A w)(hl:TR μ l a.tmps.toList)(h:kw P l o A=some (v,A')):zgW P a.eval o μ A w v A':=by
 obtain⟨dst,op,type,pos,after,guard⟩:=o;unfold kw at h
 simp only at h
 split at h
 ·replace h:=cU h;obtain⟨h,rfl⟩:=h;exact .same W (by simp[sU]) (aw hl h)
 ·replace h:=cU h;obtain⟨h,rfl⟩:=h;exact .same W (by simp[sU]) (aw hl h)
 ·split at h
  ·rename_i hc
   replace h:=cU h;obtain⟨h,rfl⟩:=h
   have:=aw hl hc
   simp only[VR]at this
   exact .same W (by simp[sU,this,asBool]) (aw hl h)
  ·rename_i hc
   replace h:=cU h;obtain⟨h,rfl⟩:=h
   have:=aw hl hc
   simp only[VR]at this
   exact .same W (by simp[sU,this,asBool]) (aw hl h)
  ·cases h
 ·rename_i t
  split at h
  ·rename_i i hi
   split at h
   ·rename_i z hz
    split at h
    ·rename_i hf
     obtain⟨μ',p',w',h1,h2,h3⟩:=ziP (P:=P) (es:=1) W (cy hf)
     cases h
     refine⟨μ',p',w',.inl ?_,h2,h3⟩;have h4:(tE t true (.tuple #[])).run P w=.ok p' w':=by
      simp only[tE,sS,rZ hi hz,sR]
      exact h1
     simp only[sU,sS,h4,sR,Sem.run_pure]
    ·cases h
   ·cases h
  ·cases h
 ·split at h
  ·rename_i u hu
   obtain⟨μ',p',w',h1,h2,h3⟩:=ziP (P:=P) (es:=1) W (aw hl hu)
   cases h
   exact⟨μ',p',w',.inl (by simp[sU,h1]),h2,h3⟩
  ·cases h
 ·replace h:=cU h;obtain⟨h,rfl⟩:=h
  obtain⟨v',h1,h2⟩:=zkK (w:=w) hl h;exact .same W (by simp only[sU,sS,h1,sR,Sem.run_pure]) h2
 ·obtain⟨μ',v',w',h1,h2,h3⟩:=qp W hl h
  exact⟨μ',v',w',.inl (by simp only[sU,sS,h1,sR,Sem.run_pure]),h2,h3⟩
 ·split at h
  ·rename_i p hp
   replace h:=cU h;obtain⟨h,rfl⟩:=h
   obtain⟨v',h1,h2⟩:=zpk W (aw hl hp) h;exact .same W (by simp[sU,h1]) h2
  ·cases h
 ·split at h
  ·rename_i p u hp hu
   split at h
   ·rename_i A1 hs
    cases h
    obtain⟨w',h1,h2,h3⟩:=zkD W (aw hl hp) (aw hl hu) hs;exact⟨μ,undef,w',.inr ⟨by simp[sU,h1],rfl⟩,dT,h2,h3⟩
   ·cases h
  ·cases h
 ·split at h
  ·rename_i u hu
   split at h
   ·rename_i hn
    cases h
    exact .same W (zfL rfl (aw hl hu) hn) (aw hl hu)
   ·cases h
  ·cases h
 ·rename_i bop bt xo yo _
  split at h
  ·rename_i hp;cases h;exact gj W hl hp
  ·split at h
   ·rename_i x y hx hy
    replace h:=cU h;obtain⟨h,rfl⟩:=h
    have h1:=zwc (P:=P) (xo:=xo) (yo:=yo) W (aw hl hx) (aw hl hy) h;have hf:bV v=true:=by
     unfold aEq at h
     split at h
     ·split at h<;>first|(cases h;rfl)|cases h
     ·cases h
    refine .same W ?_ (cy hf)
    simp only[sU]
    rw[sS,h1]
    rfl
   ·cases h
 ·replace h:=cU h;obtain⟨h,rfl⟩:=h;exact gj W hl h
 ·replace h:=cU h;obtain⟨h,rfl⟩:=h;exact gj W hl h
 ·split at h
  ·rename_i hp;cases h;exact gj W hl hp
  ·split at h
   ·rename_i x hx
    split at h
    ·rename_i r hr
     cases h
     obtain⟨v',h1,h2⟩:=zrG W (aw hl hx) hr;exact .same W (by simp[sU,h1]) h2
    ·split at h
     ·rename_i r hr
      cases h
      obtain⟨v',h1,h2⟩:=zgO W (aw hl hx) hr;exact .same W (by simp[sU,h1]) h2
     ·split at h
      ·rename_i ds hds
       obtain⟨μ',v',w',h1,h2,h3⟩:=zrE W hds (aw hl hx) h;exact⟨μ',v',w',.inl (by simp[sU,h1]),h2,h3⟩
      ·cases h
   ·cases h
 ·split at h
  ·rename_i x hx
   obtain⟨μ',v',w',h1,h2,h3⟩:=zkF W (aw hl hx) h;exact⟨μ',v',w',.inl (by simp[sU,h1]),h2,h3⟩
  ·cases h
 ·split at h
  ·rename_i x hx
   obtain⟨v',w',h1,h2,h3⟩:=zpj (P:=P) (ty:=type) W (aw hl hx) h;exact⟨μ,v',w',.inl (by simp only[sU,sS,h1,sR,Sem.run_pure]),h2,h3⟩
  ·cases h
 ·split at h
  ·rename_i x hx
   replace h:=cU h;obtain⟨h,rfl⟩:=h
   obtain⟨v',h1,h2⟩:=zkH (w:=w) (aw hl hx) h;exact .same W (by simp[sU,h1]) h2
  ·cases h
 ·rename_i f first captured
  split at h
  ·rename_i x y hx hy
   cases h
   refine .same (v':=.func (.func f) (first.map a.eval) (captured.map a.eval)) W (by simp[sU,Instr.makeFunc]) ?_
   simp only[VR]
   exact⟨_,_,rfl,by rw[tc];exact i7 hl hx,by rw[tc];exact i7 hl hy⟩
  ·cases h
 ·rename_i t
  cases h
  obtain⟨μ',v',w',h1,h2,h3⟩:=zfg (P:=P) (t:=t) W;exact⟨μ',v',w',.inl (by simp only[sU,Option.map_none,sS,h1,sR,Sem.run_pure]),h2,h3⟩
 ·split at h
  ·rename_i x _ _ k e ki zi hd hx
   cases h
   have hv:=aw hl hx
   simp only[VR]at hv
   obtain⟨μ',v',w',h1,h2,h3⟩:=zbC (P:=P) (k:=ki) (z:=zi) hd W;exact⟨μ',v',w',.inl (by simp only[sU,Option.map_some,hv,sS,h1,sR,Sem.run_pure]),h2,h3⟩
  ·cases h
 ·split at h
  ·rename_i x y hx hy
   obtain⟨μ',v',w',h1,h2,h3⟩:=qP (P:=P) W (aw hl hx) (aw hl hy) h;exact⟨μ',v',w',.inl (by simp[sU,h1]),h2,h3⟩
  ·cases h
 ·split at h
  ·rename_i hp
   cases h
   unfold zpd at hp
   split at hp
   ·rename_i x lo hi hx hlo hhi
    obtain⟨h1,h2⟩:=zpb (P:=P) (w:=w) (aw hl hx) (nU hl hlo) (nU hl hhi) hp;exact .same W (by simp only[sU,Option.map_none,sS,h1,sR,Sem.run_pure]) h2
   ·cases hp
  ·split at h
   ·rename_i hp;cases h;exact gj W hl hp
   ·split at h
    ·rename_i x lo hi hx hlo hhi
     replace h:=cU h;obtain⟨h,rfl⟩:=h
     obtain⟨v',h1,h2⟩:=zkE (P:=P) W (aw hl hx) (nU hl hlo) (nU hl hhi) h;exact .same W (by simp only[sU,Option.map_none,sS,h1,sR,Sem.run_pure]) h2
    ·cases h
 ·split at h
  ·rename_i x hx
   replace h:=cU h;obtain⟨h,rfl⟩:=h
   obtain⟨v',h1,h2⟩:=zkI (w:=w) (aw hl hx) h;exact .same W (by simp[sU,h1]) h2
  ·cases h
 ·split at h
  ·rename_i x hx
   replace h:=cU h;obtain⟨h,rfl⟩:=h
   obtain⟨v',h1,h2⟩:=zgS (w:=w) (aw hl hx) h;exact .same W (by simp[sU,h1]) h2
  ·cases h
 ·split at h
  ·rename_i x y hx hy
   replace h:=cU h;obtain⟨h,rfl⟩:=h
   obtain⟨v',h1,h2⟩:=zkG (w:=w) (aw hl hx) (aw hl hy) h;exact .same W (by simp[sU,h1]) h2
  ·cases h
 ·split at h
  ·rename_i x y hx hy
   replace h:=cU h;obtain⟨h,rfl⟩:=h
   obtain⟨v',h1,h2⟩:=zgR (P:=P) W (aw hl hx) (aw hl hy) h;exact .same W (by simp[sU,h1]) h2
  ·cases h
 ·split at h
  ·rename_i m k x hm hk hx
   split at h
   ·rename_i A1 hs
    cases h
    obtain⟨w',h1,h2,h3⟩:=ql (P:=P) W (aw hl hm) (aw hl hk) (aw hl hx) hs;exact⟨μ,undef,w',.inr ⟨by simp[sU,h1],rfl⟩,dT,h2,h3⟩
   ·cases h
  ·cases h
 ·split at h
  ·rename_i m k x hm hk hx
   split at h
   ·rename_i A1 hs
    cases h
    obtain⟨w',h1,h2,h3⟩:=ql (P:=P) W (aw hl hm) (aw hl hk) (aw hl hx) hs;exact⟨μ,undef,w',.inr ⟨by simp[sU,h1],rfl⟩,dT,h2,h3⟩
   ·cases h
  ·cases h
 ·split at h
  ·rename_i x hx
   replace h:=cU h;obtain⟨h,rfl⟩:=h
   obtain⟨v',h1,h2⟩:=zfh (P:=P) (w:=w) (aw hl hx) h;exact .same W (by simp[sU,h1]) h2
  ·cases h
 ·exact zfi W hl h
 ·cases h
end Ev
end
section
namespace Ev
noncomputable def fN{α:Type}(n:Nat)(k:Nat->α):α:=Nat.rec (motive:=fun _=>α) (k 0) (fun m _=>k (Nat.succ m)) n
theorem cW{α:Type}(n:Nat)(k:Nat->α):fN n k=k n:=by cases n<;>rfl
noncomputable def fI{α:Type}(n:Int)(k:Int->α):α:=Int.rec (motive:=fun _=>α) (fun m=>fN m fun m=>k (.ofNat m)) (fun m=>fN m fun m=>k (.negSucc m)) n
theorem zxH{α:Type}(n:Int)(k:Int->α):fI n k=k n:=by cases n<;>simp only[fI,cW]
noncomputable def fB{α:Type}(b:Bool)(k:Bool->α):α:=Bool.rec (motive:=fun _=>α) (k false) (k true) b
theorem zss{α:Type}(b:Bool)(k:Bool->α):fB b k=k b:=by cases b<;>rfl
noncomputable def fU{α:Type}(l:List UInt8):(List UInt8->α)->α:=
 List.rec (motive:=fun _=>(List UInt8->α)->α) (fun k=>k []) (fun u _ ih k=>fN u.toNat fun n=>ih fun r=>k (ti n::r)) l
theorem zsp{α:Type}:∀(l:List UInt8)(k:List UInt8->α),fU l k=k l
 |[],k=>rfl
 |u::r,k=>by
  show fN u.toNat (fun n=>fU r fun r=>k (ti n::r))=_
  simp only[cW,zsp r,UInt8.ofNat_toNat]
noncomputable def fS{α:Type}(s:ByteArray)(k:ByteArray->α):α:=fU s.data.toList fun l=>k ⟨⟨l⟩⟩
theorem zsq{α:Type}(s:ByteArray)(k:ByteArray->α):fS s k=k s:=by obtain⟨⟨l⟩⟩:=s;simp only[fS,zsp]
noncomputable def fA{α:Type}(a:Addr)(k:Addr->α):α:=
 Addr.rec (motive:=fun _=>α) (fun b o s=>tp (motive:=fun _=>α) (fN b fun b=>fN o fun o=>k ⟨b,o,none⟩) (fun s=>k ⟨b,o,some s⟩) s) a
theorem zst{α:Type}(a:Addr)(k:Addr->α):fA a k=k a:=by obtain⟨b,o,s⟩:=a;cases s<;>simp only[fA,cW]
noncomputable def fV0{α:Type}(v:sT)(k:sT->α):α:=
 sT.casesOn (motive_1:=fun _=>α) v (fun b=>fB b fun b=>k (.bool b)) (fun x n=>fI n fun n=>k (.int x n)) (fun x n=>k (.float x n)) (fun x n m=>k (.complex x n m)) (fun s=>fS s fun s=>k (.string s))
  (fun a=>tp (motive:=fun _=>α) (k (.pointer none)) (fun a=>fA a fun a=>k (.pointer (some a))) a)
  (fun a n c=>fN n fun n=>fN c fun c=>tp (motive:=fun _=>α) (k (.slice none n c)) (fun a=>fA a fun a=>k (.slice (some a) n c)) a)
  (fun r=>tp (motive:=fun _=>α) (k (.map none)) (fun r=>fN r fun r=>k (.map (some r))) r)
  (fun r=>k (.chan r)) (fun f x y=>k (.func f x y)) (k .nilFunc) (fun t v=>k (.iface t v)) (k .nilIface) (fun x=>k (.agg x)) (fun x=>k (.tuple x))
theorem zbg{α:Type}(v:sT)(k:sT->α):fV0 v k=k v:=by
 cases v with
 |bool b=>
  show fB b (fun b=>k (.bool b))=_
  rw[zss]
 |int x n=>
  show fI n (fun n=>k (.int x n))=_
  rw[zxH]
 |string s=>
  show fS s (fun s=>k (.string s))=_
  rw[zsq]
 |pointer a=>cases a with
  |none=>rfl
  |some a=>
   show fA a (fun a=>k (.pointer (some a)))=_
   rw[zst]
 |slice a n c=>cases a with
  |none=>
   show fN n (fun n=>fN c fun c=>k (.slice none n c))=_
   rw[cW,cW]
  |some a=>
   show fN n (fun n=>fN c fun c=>fA a fun a=>k (.slice (some a) n c))=_
   rw[cW,cW,zst]
 |map a=>cases a with
  |none=>rfl
  |some a=>
   show fN a (fun a=>k (.map (some a)))=_
   rw[cW]
 |float _ _=>rfl
 |complex _ _ _=>rfl
 |chan _=>rfl
 |func _ _ _=>rfl
 |nilFunc=>rfl
 |iface _ _=>rfl
 |nilIface=>rfl
 |agg _=>rfl
 |tuple _=>rfl
noncomputable def zkq{α:Type}(l:List sT):(List sT->α)->α:=
 List.rec (motive:=fun _=>(List sT->α)->α) (fun k=>k []) (fun v _ ih k=>fV0 v fun v=>ih fun r=>k (v::r)) l
theorem lA{α:Type}:∀(l:List sT)(k:List sT->α),zkq l k=k l
 |[],k=>rfl
 |v::r,k=>by
  show fV0 v (fun v=>zkq r fun r=>k (v::r))=_
  rw[zbg,lA r]
noncomputable def fV1{α:Type}(v:sT)(k:sT->α):α:=
 match v with
 | .agg ⟨l⟩=>zkq l fun l=>k (.agg ⟨l⟩)
 |v=>fV0 v k
theorem zop{α:Type}(v:sT)(k:sT->α):fV1 v k=k v:=by
 unfold fV1
 split
 ·rw[lA]
 ·rw[zbg]
noncomputable def zoo{α:Type}(l:List sT):(List sT->α)->α:=
 List.rec (motive:=fun _=>(List sT->α)->α) (fun k=>k []) (fun v _ ih k=>fV1 v fun v=>ih fun r=>k (v::r)) l
theorem zbf{α:Type}:∀(l:List sT)(k:List sT->α),zoo l k=k l
 |[],k=>rfl
 |v::r,k=>by
  show fV1 v (fun v=>zoo r fun r=>k (v::r))=_
  rw[zop,zbf r]
noncomputable def fV{α:Type}(v:sT)(k:sT->α):α:=
 match v with
 | .agg ⟨l⟩=>zkq l fun l=>k (.agg ⟨l⟩)
 | .tuple ⟨l⟩=>zoo l fun l=>k (.tuple ⟨l⟩)
 |v=>fV0 v k
theorem jV{α:Type}(v:sT)(k:sT->α):fV v k=k v:=by
 unfold fV
 split
 ·rw[lA]
 ·rw[zbf]
 ·rw[zbg]
noncomputable def fM{α:Type}:List tz->(List tz->α)->α
 |[],k=>k []
 |⟨a,b,c⟩::r,k=>fV0 a fun a=>fV1 b fun b=>fN c fun c=>fM r fun r=>k (⟨a,b,c⟩::r)
theorem zsr{α:Type}:∀(l:List tz)(k:List tz->α),fM l k=k l
 |[],k=>rfl
 |⟨a,b,c⟩::r,k=>by simp only[fM,zbg,zop,cW,zsr r]
noncomputable def fO{α:Type}:Option bw->(Option bw->α)->α
 |none,k=>k none
 |some (.cells vs t op fz es),k=>zkq vs fun vs=>fN t fun t=>fB op fun op=>fN es fun es=>(match fz with
  |none=>k (some (.cells vs t op none es))
  |some z=>fN z fun z=>k (some (.cells vs t op (some z) es)))
 |some (.map es c),k=>fM es fun es=>fN c fun c=>k (some (.map es c))
 |some (.sit s p),k=>fS s fun s=>fN p fun p=>k (some (.sit s p))
 |some (.dfr op),k=>k (some (.dfr op))
 |some (.loop st j ps asg bd t n),k=>k (some (.loop st j ps asg bd t n))
theorem zxG{α:Type}:∀(o:Option bw)(k:Option bw->α),fO o k=k o
 |none,k=>rfl
 |some (.cells vs t op fz es),k=>by cases fz<;>simp only[fO,lA,cW,zss]
 |some (.map es c),k=>by simp only[fO,zsr,cW]
 |some (.sit s p),k=>by simp only[fO,zsq,cW]
 |some (.dfr op),k=>rfl
 |some (.loop st j ps asg bd t n),k=>rfl
noncomputable def zra{α:Type}:List (Nat×Option bw)->Tr bw->(Tr bw->α)->α
 |[],t,k=>k t
 |(i,o)::r,t,k=>zra r t fun t=>fN i fun i=>fO o fun o=>Tr.fput o (Nat.succ i) t i k
noncomputable def mr:List (Nat×Option bw)->Tr bw->Tr bw
 |[],t=>t
 |(i,o)::r,t=>Tr.put o (i+1) (mr r t) i
theorem zio{α:Type}:∀(l:List (Nat×Option bw))(t:Tr bw)(k:Tr bw->α),zra l t k=k (mr l t)
 |[],t,k=>rfl
 |(i,o)::r,t,k=>by simp only[zra,mr,zio r,cW,zxG,Tr.fput_eq]
theorem pK:∀(l:List (Nat×Option bw))(t:Tr bw)(j:Nat),(mr l t).get j=match kg l j with|some o=>o|none=>t.get j
 |[],t,j=>rfl
 |(i,o)::r,t,j=>by
  simp only[mr,kg]
  rw[Tr.get_put _ _ _ _ _ (by omega)]
  by_cases h:j=i
  ·simp[h]
  ·simp only[h,if_false]
   exact pK r t j
noncomputable def fW{α:Type}(A:AW)(k:AW->α):α:=
 match A with
 |⟨[],t,n⟩=>k ⟨[],t,n⟩
 |⟨x::l,t,n⟩=>zra (x::l) t fun t=>fN n fun n=>k ⟨[],t,n⟩
noncomputable def fD(A:AW):AW:=⟨[],mr A.log A.tree,A.next⟩
theorem iG{α:Type}(A:AW)(k:AW->α):fW A k=k (fD A):=by
 obtain⟨l,t,n⟩:=A
 cases l with
 |nil=>rfl
 |cons x l=>simp only[fW,zio,cW,fD]
theorem ll(A:AW)(j:Nat):(fD A).get j=A.get j:=by
 simp only[fD,AW.get,kg]
 exact pK A.log A.tree j
theorem WR.lay{μ:Mu}{A:AW}{w:World}(W:WR μ A w):WR μ (fD A) w:=
 ⟨fun i o l h=>W.has i o l (by rwa [ll]at h),fun i j oi oj li lj hi hj=>W.inj i j oi oj li lj (by rwa [ll]at hi) (by rwa [ll]at hj),W.dom⟩
theorem bG.lay{μ μ':Mu}{A A':AW}{w w':World}(E:bG μ A w μ' A' w'):bG μ A w μ' (fD A') w':=
 ⟨E.le,E.size,E.tape,E.os,E.output,E.stay,fun i o l h=>E.img i o l (by rwa [ll]at h),E.next,E.keep⟩
end Ev
end
end Go.Proofs.YtbbapnpdfcgjnaaGreatDoor
