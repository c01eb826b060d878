/- EvX, Ev11, EvN: parts of the proof, joined. -/
import Derived.Laws.BytesString
import Derived.Laws.RangeString
import Derived.Test.YtbbapnpdfcgjnaaGreatDoorNEv9
open Go.Result renaming andThen->sH
open Go.Sem renaming run_bind->sI
open Go renaming Value->sJ, execOp->sK, TypeId->sL, Operand->sM, run_convert_bytes_string->sN, eqGuard->sQ, Program->sT, run_bytesToString->tc, MapEntry->ti
open Go.Utf8 renaming decode->sO
open Go.Builtin renaming clear_->sP, copy_->sU, firstCells->sV, zeroCells->sX, append_->tf
open Array renaming toList_map->sR, map->sS, getElem?_push->sY
open UInt8 renaming ofNat->sW
open Option renaming rec->ta
open Nat renaming min->td, le_refl->te, add_zero->tm
open Go.Instr renaming next->tg, range->tn, alloc->tp
set_option maxHeartbeats 64000000
namespace Go.Proofs.YtbbapnpdfcgjnaaGreatDoor
section
namespace Ev
variable {P:sT} {μ:Mu} {A:AW} {w:World}
theorem kZ:∀{l:List sJ} {bs:List UInt8},dq l=some bs->∃ns:List Int,l=ns.map (sJ.int .u8)/\bs=ns.map fun n=>sW n.toNat
 | [],bs,h=>by simp only[dq] at h;cases h;exact⟨[],rfl,rfl⟩
 | x::l,bs,h=>by
  unfold dq at h
  split at h
  ·rename_i heq;cases heq
  ·rename_i n r heq
   cases heq
   split at h
   ·rename_i bs' hbs
    cases h
    obtain⟨ns,rfl,rfl⟩:=kZ hbs;exact⟨n::ns,rfl,rfl⟩
   ·cases h
  ·cases h
theorem ra:∀(ns:List Int) (s:ByteArray),ns.foldl (fun r n=>r.push (sW n.toNat)) s=⟨(s.data.toList++ns.map fun n=>sW n.toNat).toArray⟩
 | [],s=>by simp
 | n::ns,s=>by
  rw[List.foldl_cons,ra ns]
  simp[ByteArray.push]
noncomputable def zra (P:sT) (A:AW) (src dst:sL) (x:sJ):Option sJ:=
 match P.underlying src,P.underlying dst with
 | some (.slice e),some .string=>match P.underlying e with
  | some (.int .u8)=>match x with
   | .slice none _ _=>some (.string .empty)
   | .slice (some a) n _=>if n=0 then some (.string .empty) else match A.get a.block with
    | some (.cells vs _ _ _ _)=>if a.off+n<=vs.length then
      match dq ((vs.drop a.off).take n) with
      | some bs=>some (.string ⟨bs.toArray⟩)
      | none=>none
     else none
    | _=>none
   | _=>none
  | _=>none
 | _,_=>none
theorem zqZ {src dst:sL} {x x' v:sJ} (W:WR μ A w) (hx:VR μ x x') (h:zra P A src dst x=some v):∃v',(convert src dst x').run P w= .ok v' w/\VR μ v v':=by
 unfold zra at h
 split at h
 ·rename_i e hs hd
  split at h
  ·rename_i he
   split at h
   ·cases h;simp only[VR] at hx;subst hx
    exact⟨.string .empty,by rw[sN w src dst e none _ _ hs he hd];rfl,by simp[VR]⟩
   ·rename_i a n c
    simp only[VR] at hx
    obtain⟨a',c',rfl,hS⟩:=hx
    split at h
    ·rename_i h0;cases h;subst h0
     refine⟨.string .empty,?_,by simp[VR]⟩
     rw[sN w src dst e (some a') _ _ hs he hd,tc w a' 0 c' [] rfl]
     rfl
    ·rename_i h0
     split at h
     ·rename_i vs t op fz es hg
      split at h
      ·rename_i hle
       split at h
       ·rename_i bs hbs
        cases h
        obtain⟨xs',h1,h2⟩:=eH (P:=P) W (hS.addr (by omega)) hg hle
        have kd:=bI (gD hbs) h2;subst kd;obtain⟨ns,hns,rfl⟩:=kZ hbs;rw[hns] at h1;refine⟨_,by rw[sN w src dst e (some a') _ _ hs he hd,tc w a' n c' ns h1],?_⟩
        rw[ra]
        simp only[VR]
        rfl
       ·cases h
      ·cases h
     ·cases h
   ·cases h
  ·cases h
 ·cases h
noncomputable def zoD (P:sT) (A:AW) (dst:sL):sJ->Option (sJ × AW)
 | .string s=>match P.underlying dst with
  | some (.slice e)=>match P.underlying e,P.info? e with
   | some (.int .u8),some ie=>if ie.size=1/\s.size<=1000000 then some (.slice (some ⟨A.next,0,none⟩) s.size nX,A.push (.cells (dp s s.size) e true (some 0) 1)) else none
   | _,_=>none
  | _=>none
 | _=>none
theorem zqX {src dst:sL} {x x' v:sJ} {A':AW} {ds:TypeDesc} (W:WR μ A w) (hsrc:P.underlying src=some ds) (hx:VR μ x x') (h:zoD P A dst x=some (v,A')):
  ∃μ' v' w',(convert src dst x').run P w= .ok v' w'/\VR μ' v v'/\WR μ' A' w'/\bB μ A w μ' A' w':=by
 unfold zoD at h
 split at h
 ·rename_i s
  simp only[VR] at hx;subst hx
  split at h
  ·rename_i e hd
   split at h
   ·rename_i ie he hie
    split at h
    ·rename_i hc
     cases h
     obtain⟨W1,E1⟩:=W.drawn (w.drawn+1);have hlen:(dp s s.size).length=s.size:=by
      unfold dp;rw[sR,List.length_map]
      simp
     have hcut:∃m,s.size<=m/\m=Question.cut (.appendCap s.size 0 e) (w.tape w.drawn (.appendCap s.size 0 e)):=⟨_,by simp[Question.cut],rfl⟩
     obtain⟨m,hm,hme⟩:=hcut;have hb:(s.data.map fun b=>sJ.int .u8 b.toNat)=(dp s s.size).toArray:=by
      unfold dp;have:s.extract 0 s.size=s:=by simp
      rw[this]
     have hLR:LR μ (dp s s.size) (dp s s.size):=bk (by unfold dp;rw[sR];exact io _)
     let c:Array sJ:=(dp s s.size).toArray++Array.replicate (m - s.size) (.int .u8 0)
     have hcs:c.size=m:=by simp only[c,Array.size_append,List.size_toArray,hlen,Array.size_replicate];omega
     have hN:=W1.new (d:=0) (sz:=m) (k:=1) (o:=.cells (dp s s.size) e true (some 0) 1) (o':=.cells c e (m,m+1)) (by
      have hle:=Mu.add_le (x:=⟨w.heap.size,0,m,1⟩) (W1.dom A.next (te _));refine⟨c,(m,m+1),rfl,hcs,by simp only[Nat.zero_add,hlen];exact hm,by simp,rfl,?_,?_⟩
      ·simp only[List.drop_zero,c,Array.toList_append]
       rw[List.take_left' rfl];exact hLR.mono hle
      ·simp only[FZ];intro i hi;simp at hi⊢;omega)
     refine⟨_,.slice (some ⟨w.heap.size,0,none⟩) s.size m,_,?_,?_,hN.1,E1.trans hN.2⟩
     ·have hconv:(convert src dst (.string s)).run P w=(Conv.stringToBytes e s).run P w:=by
       unfold convert
       simp only[sI,rU hsrc,rU hd,sH,rU he]
      rw[hconv]
      simp only[Conv.stringToBytes,sI,run_choose,Question.forced,Bool.false_eq_true,if_false,sH]
      rw[<- hme,hb]
      simp only[newRow,sI,run_newObj,sH,Sem.run_pure,markStringish,run_shape,World.shape?,Array.getElem?_push_size,run_freeze]
      have hfz:World.freeze {w with drawn:=w.drawn+1,heap:=w.heap.push (.cells c e)} {block:=w.heap.size,off:=c.size} 1={w with drawn:=w.drawn+1,heap:=w.heap.push (.cells c e (m,m+1))}:=by
       unfold World.freeze;rw[if_neg (by omega)]
       congr 1
       apply Array.ext_getElem?
       intro j;rw[Array.getElem?_modify,sY,sY]
       by_cases e':w.heap.size=j
       ·subst e';simp[hcs]
       ·have:¬j=w.heap.size:=fun h=>e' h.symm
        simp[e',this]
      exact congrArg (fun W'=>Result.ok (sJ.slice (some ⟨w.heap.size,0,none⟩) s.size m) W') hfz
     ·simp only[VR]
      exact⟨_,_,rfl,.inr ⟨rfl,.inr ⟨rfl,hm,_,Mu.add_get (W1.dom A.next (te _)),by simp,by simp⟩⟩⟩
    ·cases h
   ·cases h
  ·cases h
 ·cases h
noncomputable def zoJ (P:sT) (A:AW) (dType:sL) (d s:sJ):Option (sJ × AW):=
 match P.underlying dType,kI s with
 | some (.slice elem),some sl=>match P.info? elem,d with
  | some _,.slice none dl _=>if td sl dl=0 then some (goInt 0,A) else none
  | some ie,.slice (some a) dl _=>if td sl dl=0 then some (goInt 0,A) else
    match A.get a.block,pS A ie.size (td sl dl) s with
    | some (.cells vs t op fz es),some xs=>if xs.all (·.oneCell')=true/\a.off+xs.length<=vs.length/\zkq fz a.off=true then
      some (goInt (td sl dl),A.set a.block (some (.cells (aO vs a.off xs) t op fz es)))
     else none
    | _,_=>none
  | _,_=>none
 | _,_=>none
theorem pK {x x':sJ} {size m:Nat} (hx:VR μ x x') (hm:kI x=some m):(sV size 0 x').run P w= .ok #[] w:=by
 unfold kI at hm
 split at hm
 ·rename_i a n c
  cases a with
  | none=>simp only[VR] at hx;subst hx;rfl
  | some a=>simp only[VR] at hx;obtain⟨_,_,rfl,_⟩:=hx;simp[sV,loadCells,loadCellsFrom]
 ·simp only[VR] at hx;subst hx;simp[sV]
 ·cases hm
theorem zoI {dType sType ty:sL} {d d' s s' v:sJ} {A':AW} (W:WR μ A w) (hd:VR μ d d') (hs:VR μ s s') (h:zoJ P A dType d s=some (v,A')):
  ∃v' w',(sU #[dType,sType] ty #[d',s']).run P w= .ok v' w'/\VR μ v v'/\WR μ A' w'/\bB μ A w μ A' w':=by
 unfold zoJ at h
 split at h
 ·rename_i elem sl hu hsl
  split at h
  ·rename_i ie dl dc hie
   simp only[VR] at hd;subst hd
   split at h
   ·rename_i h0
    cases h
    refine⟨goInt 0,w,?_,by simp[goInt,VR],W,bB.refl⟩
    simp[sU,rU hu,dW hs hsl,rS hie,h0,pK hs hsl]
   ·cases h
  ·rename_i ie a dl dc hie
   simp only[VR] at hd
   obtain⟨a',c',rfl,hS⟩:=hd
   split at h
   ·rename_i h0
    cases h
    refine⟨goInt 0,w,?_,by simp[goInt,VR],W,bB.refl⟩
    simp[sU,rU hu,dW hs hsl,rS hie,h0,pK hs hsl,storeCells]
   ·rename_i h0
    split at h
    ·rename_i vs t op fz es xs hg kd
     split at h
     ·rename_i hc
      obtain⟨h1,h2,h3⟩:=hc
      cases h
      obtain⟨xs',h4,h5⟩:=dA (P:=P) W hs hsl (Nat.min_le_left _ _) kd;have hdl:0<dl:=by
       have:td sl dl<=dl:=Nat.min_le_right sl dl;omega
      obtain⟨w',h6,h7,h8⟩:=eU (P:=P) W (hS.addr hdl) hg h5 h1 h2 h3;refine⟨goInt (td sl dl),w',?_,by simp[goInt,VR],h7,h8⟩
      simp[sU,rU hu,dW hs hsl,rS hie,h4,h6]
     ·cases h
    ·cases h
  ·cases h
 ·cases h
noncomputable def zgx (P:sT) (A:AW) (t:sL):sJ->Option AW
 | .slice none _ _=>match P.underlying t with
  | some _=>some A
  | none=>none
 | .slice (some _) 0 _=>match P.underlying t with
  | some _=>some A
  | none=>none
 | .slice (some a) (n+1) _=>match P.underlying t with
  | some (.slice elem)=>match P.info? elem with
   | some ie=>match ie.zero with
    | some z=>match A.get a.block with
     | some (.cells vs ty op fz es)=>if bR z=true/\(cD (n+1) (aC z)).all (·.oneCell')=true/\a.off+(cD (n+1) (aC z)).length<=vs.length/\zkq fz a.off=true then
       some (A.set a.block (some (.cells (aO vs a.off (cD (n+1) (aC z))) ty op fz es)))
      else none
     | _=>none
    | none=>none
   | none=>none
  | _=>none
 | _=>none
theorem ziv (z:sJ) (m:Nat):sX z.cells m=(cD m (aC z)).toArray:=by
 unfold sX;rw[gu,cj]
theorem qK {z:List sJ} (h:LR μ z z):∀n,LR μ (cD n z) (cD n z)
 | 0=>LR.nil
 | n+1=>h.append (qK h n)
theorem zkn {t ty:sL} {x x':sJ} {A':AW} (W:WR μ A w) (hx:VR μ x x') (h:zgx P A t x=some A'):
  ∃w',(sP #[t] ty #[x']).run P w= .ok (.tuple #[]) w'/\WR μ A' w'/\bB μ A w μ A' w':=by
 unfold zgx at h
 split at h
 ·split at h
  ·rename_i d hd
   cases h
   simp only[VR] at hx;subst hx
   exact⟨w,by simp[sP,rU hd],W,bB.refl⟩
  ·cases h
 ·split at h
  ·rename_i d hd
   cases h
   simp only[VR] at hx;obtain⟨a',c',rfl,_⟩:=hx
   exact⟨w,by simp[sP,rU hd],W,bB.refl⟩
  ·cases h
 ·rename_i a n c
  simp only[VR] at hx;obtain⟨a',c',rfl,hS⟩:=hx
  split at h
  ·rename_i elem hd
   split at h
   ·rename_i ie hi
    split at h
    ·rename_i z hz
     split at h
     ·rename_i vs ty' op fz es hg
      split at h
      ·rename_i hc
       obtain⟨h1,h2,h3,h4⟩:=hc
       cases h
       have hL:LR μ (aC z) (aC z):=by
        have:=iA (cq (μ:=μ) h1)
        rwa [cj] at this
       obtain⟨w',h6,h7,h8⟩:=eU (P:=P) W (hS.addr (Nat.succ_pos _)) hg (qK hL (n+1)) h2 h3 h4;refine⟨w',?_,h7,h8⟩;have e:(sX z.cells (n+1)).toList=cD (n+1) (aC z):=by rw[ziv]
       simp[sP,rU hd,rZ hi hz,e,h6]
      ·cases h
     ·cases h
    ·cases h
   ·cases h
  ·cases h
 ·cases h
noncomputable def zbf (P:sT) (A:AW) (t:sL):sJ->Option (sJ × AW)
 | .string s=>match P.underlying t with
  | some .string=>some (.pointer (some ⟨A.next,0,none⟩),A.push (.sit s 0))
  | _=>none
 | _=>none
theorem zkj {t:sL} {x x' v:sJ} {A':AW} (W:WR μ A w) (hx:VR μ x x') (h:zbf P A t x=some (v,A')):∃μ' v' w',(tn t x').run P w= .ok v' w'/\VR μ' v v'/\WR μ' A' w'/\bB μ A w μ' A' w':=by
 unfold zbf at h
 split at h
 ·rename_i s
  simp only[VR] at hx;subst hx
  split at h
  ·rename_i hu
   cases h
   have hN:=W.new (d:=0) (sz:=0) (k:=0) (o:=.sit s 0) (o':=.stringIter s 0) ⟨rfl,rfl⟩;refine⟨_,.pointer (some ⟨w.heap.size,0,none⟩),_,?_,?_,hN⟩
   ·simp[tn,rU hu]
   ·simp only[VR];exact⟨_,rfl,zbp (W.dom _ (te _))⟩
  ·cases h
 ·cases h
noncomputable def zir (A:AW) (str:Bool):sJ->Option (sJ × AW)
 | .pointer (some ⟨r,0,none⟩)=>match A.get r,str with
  | some (.sit s pos),true=>if pos<s.size then some (.tuple ⟨[.bool true,goInt pos,.int .i32 (sO s pos).1]⟩,A.set r (some (.sit s (pos+(sO s pos).2)))) else some (.tuple ⟨[.bool false]⟩,A)
  | _,_=>none
 | _=>none
theorem zoG {str:Bool} {ty:sL} {x x' v:sJ} {A':AW} (W:WR μ A w) (hx:VR μ x x') (h:zir A str x=some (v,A')):∃v' w',(tg x' str ty).run P w= .ok v' w'/\VR μ v v'/\WR μ A' w'/\bB μ A w μ A' w':=by
 unfold zir at h
 split at h
 ·rename_i r
  simp only[VR] at hx
  obtain⟨a',rfl,_,l,hm,rfl⟩:=hx
  split at h
  ·rename_i s pos hg
   obtain⟨o',h2,h3⟩:=W.has _ _ l hg hm;obtain⟨hd0,rfl⟩:=h3;have hget:(getObj l.b).run P w= .ok (.stringIter s pos) w:=by simp[getObj,Sem.run,h2]
   split at h
   ·rename_i hlt
    cases h
    have hset:(setObj l.b (.stringIter s (pos+(sO s pos).2))).run P w= .ok () {w with heap:=w.heap.setIfInBounds l.b (.stringIter s (pos+(sO s pos).2))}:=by simp[setObj,Sem.run,h2]
    have hU:=W.upd (o:=.sit s (pos+(sO s pos).2)) (o':=.stringIter s (pos+(sO s pos).2)) hg hm ⟨hd0,rfl⟩;refine⟨.tuple #[.bool true,goInt pos,.int .i32 (sO s pos).1],_,?_,?_,hU⟩
    ·simp only[tg,hd0,tm,sI,hget,sH,hlt,if_true,hset,Sem.run_pure]
    ·simp only[VR]
     exact⟨_,rfl,LR.cons (by simp[VR]) (LR.cons (by simp[goInt,VR]) (LR.cons (by simp[VR]) LR.nil))⟩
   ·rename_i hge
    cases h
    refine⟨.tuple #[.bool false],w,?_,?_,W,bB.refl⟩
    ·simp only[tg,hd0,tm,sI,hget,sH,hge,if_false,Sem.run_pure]
    ·simp only[VR]
     exact⟨_,rfl,LR.cons (by simp[VR]) LR.nil⟩
  ·cases h
 ·cases h
end Ev
end
section
namespace Ev
variable {P:sT} {μ:Mu} {A:AW} {w:World}
noncomputable def mi (P:sT) (A:AW) (sType xType:sL) (s x:sJ):Option (sJ × AW):=
 match P.underlying sType,P.underlying xType,kI s,kI x with
 | some (.slice elem),some dx,some len,some n=>match P.info? elem with
  | some ie=>match ie.zero with
   | some z=>if zaz dx=false/\bR z=true/\(aC z).length=ie.size/\ie.bytes<=65536/\0<ie.size/\len+n<=1000000 then zbm A elem ie.size s x n else none
   | none=>none
  | none=>none
 | _,_,_,_=>none
theorem zbl {sType xType ty:sL} {s s' x x' v:sJ} {A':AW} (W:WR μ A w) (hs:VR μ s s') (hx:VR μ x x') (h:mi P A sType xType s x=some (v,A')):
  ∃μ' v' w',(tf #[sType,xType] ty #[s',x']).run P w= .ok v' w'/\VR μ' v v'/\WR μ' A' w'/\bB μ A w μ' A' w':=by
 unfold mi at h
 split at h
 ·rename_i elem dx len n h1 h2 h3 h4
  split at h
  ·rename_i ie hie
   split at h
   ·rename_i z hz
    split at h
    ·rename_i hc
     obtain⟨c1,c2,c3,c4,c5,c6⟩:=hc;exact zgy {ie,z,dx,hd:=h1,hx:=h2,hn:=c1,hi:=hie,hs:=rfl,hz,hf:=c2,hl:=c3,hb:=c4,h0:=c5} W hs hx h4 h3 c6 h
    ·cases h
   ·cases h
  ·cases h
 ·cases h
noncomputable def eQ (P:sT) (l:bO) (o:Oper) (A:AW) (b:Builtin) (args:List sM) (ts:List sL):Option (sJ × AW):=
 match ff P l o with
 | some v=>some (v,A)
 | none=>match b,args,ts with
  | .len,[x],[t]=>match bz l x with
   | some v=>match zvs P A t v with
    | some r=>some (r,A)
    | none=>none
   | none=>none
  | .append,[x,y],[t,u]=>match bz l x,bz l y with
   | some s,some e=>mi P A t u s e
   | _,_=>none
  | .unsafeSliceData,[x],_=>match bz l x with
   | some v=>match j7 v with
    | some r=>some (r,A)
    | none=>none
   | none=>none
  | .unsafeString,[x,y],[t,_]=>match bz l x,bz l y with
   | some p,some n=>zbb P A t p n
   | _,_=>none
  | .copy,[x,y],[t,_]=>match bz l x,bz l y with
   | some p,some n=>zoJ P A t p n
   | _,_=>none
  | .clear,[x],[t]=>match bz l x with
   | some v=>match zgx P A t v with
    | some A'=>some (.tuple #[],A')
    | none=>none
   | none=>none
  | _,_,_=>none
def o1 {α:Type} (x:Option α) (A:AW):Option (α × AW):=
 match x with
 | some v=>some (v,A)
 | none=>none
noncomputable def zcl (l:bO):Option sM->Option (Option sJ)
 | none=>some none
 | some x=>match bz l x with
  | some v=>some (some v)
  | none=>none
theorem nu {l:bO} {a:Act} {x:Option sM} {v:Option sJ} (h:TR μ l a.tmps.toList) (hx:zcl l x=some v):OVR μ v (x.map a.eval):=by
 unfold zcl at hx
 split at hx
 ·cases hx;simp[OVR]
 ·split at hx
  ·rename_i hv;cases hx;simp only[OVR,Option.map_some];exact⟨_,rfl,ar h hv⟩
  ·cases hx
noncomputable def zoA (P:sT) (l:bO) (t:sL) (x:sM) (lo hi:Option sM):Option sJ:=
 match bz l x,zcl l lo,zcl l hi with
 | some v,some a,some b=>zoz P t v a b
 | _,_,_=>none
noncomputable def j8 (P:sT) (l:bO) (o:Oper) (A:AW):Option (sJ × AW):=
 match o.op with
 | .move x | .assign x=>o1 (bz l x) A
 | .pick c a b=>match bz l c with
  | some (.bool true)=>o1 (bz l a) A
  | some (.bool false)=>o1 (bz l b) A
  | _=>none
 | .alloc t=>match P.info? t with
  | some i=>match i.zero with
   | some z=>if bR z then some (zeL A t (aC z) 1) else none
   | none=>none
  | none=>none
 | .box t x=>match bz l x with
  | some v=>some (zeL A t (aC v) 1)
  | none=>none
 | .build t ps=>o1 (zbk P l t ps.toList) A
 | .buildSlice t n ps=>fg P A l t n ps.toList
 | .load t x=>match bz l x with
  | some p=>o1 (lq P A t p) A
  | none=>none
 | .store t x y=>match bz l x,bz l y with
  | some p,some v=>match zbc P A t v p with
   | some A'=>some (undef,A')
   | none=>none
  | _,_=>none
 | .nilCheck x=>match bz l x with
  | some v=>if zaj v then some (v,A) else none
  | none=>none
 | .binOp op t x y _=>match ff P l o with
  | some v=>some (v,A)
  | none=>match bz l x,bz l y with
   | some a,some b=>o1 (aEq P A op t a b) A
   | _,_=>none
 | .unOp _ _ _ | .index _ _ _=>o1 (ff P l o) A
 | .convert s d x=>match ff P l o with
  | some v=>some (v,A)
  | none=>match bz l x with
   | some v=>match zra P A s d v with
    | some r=>some (r,A)
    | none=>match nS P A s d v with
     | some r=>some (r,A)
     | none=>match P.underlying s with
      | some _=>zoD P A d v
      | none=>none
   | none=>none
 | .range t x=>match bz l x with
  | some v=>zbf P A t v
  | none=>none
 | .next x str=>match bz l x with
  | some v=>zir A str v
  | none=>none
 | .makeInterface t x=>match bz l x with
  | some v=>o1 (zbi P t v) A
  | none=>none
 | .makeFunc (.func f) first captured=>match zck l first.toList,zck l captured.toList with
  | some a,some b=>some (.func (.func f) ⟨a⟩ ⟨b⟩,A)
  | _,_=>none
 | .makeMap _ none=>some (.map (some A.next),A.push (.map [] 0))
 | .makeMap t (some x)=>match P.underlying t,bz l x with
  | some (.map _ _),some (.int _ _)=>some (.map (some A.next),A.push (.map [] 0))
  | _,_=>none
 | .makeSlice t x y=>match bz l x,bz l y with
  | some a,some b=>gF P A t a b
  | _,_=>none
 | .slice t x lo hi none=>match zoA P l t x lo hi with
  | some v=>some (v,A)
  | none=>match ff P l o with
   | some v=>some (v,A)
   | none=>match bz l x,zcl l lo,zcl l hi with
    | some v,some a,some b=>o1 (zbd P A t a b v) A
    | _,_,_=>none
 | .fieldAddr s x f=>match bz l x with
  | some v=>o1 (zbj P s f v) A
  | none=>none
 | .field t x f=>match bz l x with
  | some v=>o1 (nU P t f v) A
  | none=>none
 | .indexAddr t x i=>match bz l x,bz l i with
  | some a,some b=>o1 (zbh P t a b) A
  | _,_=>none
 | .lookup t x k ok=>match bz l x,bz l k with
  | some a,some b=>o1 (nT P A t a b ok) A
  | _,_=>none
 | .mapUpdate t m k x | .insert t m k x=>match bz l m,bz l k,bz l x with
  | some a,some b,some c=>match nR P A t b c a with
   | some A'=>some (undef,A')
   | none=>none
  | _,_,_=>none
 | .extract x i=>match bz l x with
  | some v=>o1 (lr i v) A
  | none=>none
 | .call {callee:=.builtin b,args:=⟨args⟩,argTypes:=⟨ts⟩}=>eQ P l o A b args ts
 | _=>none
theorem cL {x:Option sJ} {A A':AW} {v:sJ} (h:o1 x A=some (v,A')):x=some v/\A'=A:=by
 unfold o1 at h
 split at h
 ·cases h;exact⟨rfl,rfl⟩
 ·cases h
theorem zsE {f:sM->sJ} {x:sM}:sS f ⟨[x]⟩=#[f x]:=by
 rw[show(⟨[x]⟩:Array sM)=[x].toArray from rfl];simp
theorem zsD {f:sM->sJ} {x y:sM}:sS f ⟨[x,y]⟩=#[f x,f y]:=by
 rw[show(⟨[x,y]⟩:Array sM)=[x,y].toArray from rfl];simp
theorem zeO {l:bO} {a:Act} {dst:Option Tmp} {type:sL} {pos:String} {after:Array Edge} {guard:Option (Nat × Bool)} {b:Builtin} {args:List sM} {ts:List sL} {v:sJ} {A':AW} (W:WR μ A w) (hl:TR μ l a.tmps.toList)
  (h:eQ P l ⟨dst,.call {callee:=.builtin b,args:=⟨args⟩,argTypes:=⟨ts⟩},type,pos,after,guard⟩ A b args ts=some (v,A')):
  zgA P a.eval ⟨dst,.call {callee:=.builtin b,args:=⟨args⟩,argTypes:=⟨ts⟩},type,pos,after,guard⟩ μ A w v A':=by
 unfold eQ at h
 split at h
 ·rename_i hp;cases h;exact fX W hl hp
 ·split at h
  ·rename_i x t _
   split at h
   ·rename_i u hu
    split at h
    ·rename_i r hr
     cases h
     obtain⟨v',h1,h2⟩:=zqY (P:=P) (ty:=type) W (ar hl hu) hr;refine .same W ?_ h2
     simp only[sK,resolve,sI,Sem.run_pure,sH,invoke,builtin]
     have e:(Builtin.len_ #[t] type (sS a.eval ⟨[x]⟩)).run P w= .ok v' w:=by rw[zsE];exact h1
     rw[e]
    ·cases h
   ·cases h
  ·rename_i x y t u _
   split at h
   ·rename_i s e hs he
    obtain⟨μ',v',w',h1,h2,h3⟩:=zbl (P:=P) (ty:=type) W (ar hl hs) (ar hl he) h;refine⟨μ',v',w',.inl ?_,h2,h3⟩
    simp only[sK,resolve,sI,Sem.run_pure,sH,invoke,builtin]
    have e:(tf #[t,u] type (sS a.eval ⟨[x,y]⟩)).run P w= .ok v' w':=by rw[zsD];exact h1
    rw[e]
   ·cases h
  ·rename_i x _
   split at h
   ·rename_i u hu
    split at h
    ·rename_i r hr
     cases h
     obtain⟨v',h1,h2⟩:=qm (P:=P) (w:=w) (ts:=⟨ts⟩) (t:=type) (ar hl hu) hr;refine .same W ?_ h2
     simp only[sK,resolve,sI,Sem.run_pure,sH,invoke,builtin]
     have e:(Builtin.unsafeSliceData_ ⟨ts⟩ type (sS a.eval ⟨[x]⟩)).run P w= .ok v' w:=by rw[zsE];exact h1
     rw[e]
    ·cases h
   ·cases h
  ·rename_i x y t it _
   split at h
   ·rename_i p n hp hn
    obtain⟨v',w',h1,h2,h3⟩:=zgt (P:=P) (it:=it) (ty:=type) W (ar hl hp) (ar hl hn) h;refine⟨μ,v',w',.inl ?_,h2,h3⟩
    simp only[sK,resolve,sI,Sem.run_pure,sH,invoke,builtin]
    have e:(Builtin.unsafeString_ #[t,it] type (sS a.eval ⟨[x,y]⟩)).run P w= .ok v' w':=by rw[zsD];exact h1
    rw[e]
   ·cases h
  ·rename_i x y t it _
   split at h
   ·rename_i p n hp hn
    obtain⟨v',w',h1,h2,h3⟩:=zoI (P:=P) (sType:=it) (ty:=type) W (ar hl hp) (ar hl hn) h;refine⟨μ,v',w',.inl ?_,h2,h3⟩
    simp only[sK,resolve,sI,Sem.run_pure,sH,invoke,builtin]
    have e:(sU #[t,it] type (sS a.eval ⟨[x,y]⟩)).run P w= .ok v' w':=by rw[zsD];exact h1
    rw[e]
   ·cases h
  ·rename_i x t _
   split at h
   ·rename_i u hu
    split at h
    ·rename_i A1 hr
     cases h
     obtain⟨w',h1,h2,h3⟩:=zkn (P:=P) (ty:=type) W (ar hl hu) hr;refine⟨μ,.tuple #[],w',.inl ?_,by simp[VR,LR],h2,h3⟩
     simp only[sK,resolve,sI,Sem.run_pure,sH,invoke,builtin]
     have e:(sP #[t] type (sS a.eval ⟨[x]⟩)).run P w= .ok (.tuple #[]) w':=by rw[zsE];exact h1
     rw[e]
    ·cases h
   ·cases h
  ·cases h
theorem zvt {op:BinOp} {t:sL} {xo yo:sM} {x x' y y' v:sJ} (W:WR μ A w) (hx:VR μ x x') (hy:VR μ y y') (h:aEq P A op t x y=some v):
  ((do sQ op t xo yo x' y';binOp op t x' y'):Sem sJ).run P w= .ok v w:=by
 unfold aEq at h
 split at h
 ·rename_i hadr
  have main:∀r,pA P A t x y=some r->((op= .eql/\v= .bool r)\/(op= .neq/\v= .bool (!r)))->((do sQ op t xo yo x' y';binOp op t x' y'):Sem sJ).run P w= .ok v w:=by
   intro r hr hop;have he:=znT (w:=w) W hx hy hr
   rcases zer hr with ⟨p,q,rfl,rfl⟩ | ⟨p1,p2,p3,q1,q2,q3,rfl,rfl⟩ | ⟨p,q,rfl,rfl⟩ | ⟨f,u1,v1,rfl,rfl⟩ | ⟨f,u1,v1,rfl,rfl⟩ | ⟨p,q,rfl,rfl⟩ | ⟨p,q,rfl,rfl⟩ | ⟨p1,p2,q1,q2,rfl,rfl⟩
   all_goals
    have kx:=hx;have ky:=hy
   ·cases p<;>cases q<;>simp only[VR] at kx ky<;>(first | (obtain⟨_,rfl,_⟩:=kx) | subst kx)<;>(first | (obtain⟨_,rfl,_⟩:=ky) | subst ky)<;>rcases hop with ⟨rfl,rfl⟩ | ⟨rfl,rfl⟩<;>simp[sQ,binOp,he]
   ·cases p1<;>cases q1<;>simp only[VR] at kx ky<;>(first | (obtain⟨_,_,rfl,_⟩:=kx) | subst kx)<;>(first | (obtain⟨_,_,rfl,_⟩:=ky) | subst ky)<;>rcases hop with ⟨rfl,rfl⟩ | ⟨rfl,rfl⟩<;>simp[sQ,binOp,he]
   ·cases p<;>cases q<;>simp only[VR] at kx ky<;>(first | (obtain⟨_,rfl,_⟩:=kx) | subst kx)<;>(first | (obtain⟨_,rfl,_⟩:=ky) | subst ky)<;>rcases hop with ⟨rfl,rfl⟩ | ⟨rfl,rfl⟩<;>simp[sQ,binOp,he]
   ·simp only[VR] at kx;subst kx
    obtain⟨u1⟩:=u1;obtain⟨v1⟩:=v1
    cases f<;>simp only[VR] at ky
    ·obtain⟨_,_,rfl,_⟩:=ky
     rcases hop with ⟨rfl,rfl⟩ | ⟨rfl,rfl⟩<;>simp[sQ,binOp,he]
    ·obtain⟨_,_,_,rfl,_⟩:=ky
     rcases hop with ⟨rfl,rfl⟩ | ⟨rfl,rfl⟩<;>simp[sQ,binOp,he]
   ·simp only[VR] at ky;subst ky
    obtain⟨u1⟩:=u1;obtain⟨v1⟩:=v1
    cases f<;>simp only[VR] at kx
    ·obtain⟨_,_,rfl,_⟩:=kx
     rcases hop with ⟨rfl,rfl⟩ | ⟨rfl,rfl⟩<;>simp[sQ,binOp,he]
    ·obtain⟨_,_,_,rfl,_⟩:=kx
     rcases hop with ⟨rfl,rfl⟩ | ⟨rfl,rfl⟩<;>simp[sQ,binOp,he]
   ·simp only[VR] at kx ky;subst kx;obtain⟨_,rfl,_⟩:=ky
    rcases hop with ⟨rfl,rfl⟩ | ⟨rfl,rfl⟩<;>simp[sQ,binOp,he]
   ·simp only[VR] at kx ky;subst ky;obtain⟨_,rfl,_⟩:=kx
    rcases hop with ⟨rfl,rfl⟩ | ⟨rfl,rfl⟩<;>simp[sQ,binOp,he]
   ·simp only[VR] at kx ky;obtain⟨_,rfl,_⟩:=kx;obtain⟨_,rfl,_⟩:=ky
    rcases hop with ⟨rfl,rfl⟩ | ⟨rfl,rfl⟩<;>simp[sQ,binOp,he]
  split at h
  ·rename_i r hr;cases h;exact main _ hr (.inl ⟨rfl,rfl⟩)
  ·rename_i r hr;cases h;exact main _ hr (.inr ⟨rfl,rfl⟩)
  ·cases h
 ·cases h
theorem zfp {o:Oper} {x:sM} {a:Act} {v:sJ} (ho:o.op= .nilCheck x) (hv:VR μ v (a.eval x)) (hn:zaj v=true):(sK a.eval o).run P w= .ok (.value (a.eval x)) w:=by
 unfold zaj at hn
 split at hn
 ·simp only[VR] at hv;obtain⟨_,he,_⟩:=hv;simp[sK,ho,he]
 ·rename_i f x1 y1;obtain⟨x1⟩:=x1;obtain⟨y1⟩:=y1
  simp only[VR] at hv;obtain⟨_,_,he,_⟩:=hv;simp[sK,ho,he]
 ·simp only[VR] at hv;obtain⟨_,he,_⟩:=hv;simp[sK,ho,he]
 ·cases hn
theorem zgu {l:bO} {a:Act} {o:Oper} {v:sJ} {A':AW} (W:WR μ A w) (hl:TR μ l a.tmps.toList) (h:j8 P l o A=some (v,A')):zgA P a.eval o μ A w v A':=by
 obtain⟨dst,op,type,pos,after,guard⟩:=o;unfold j8 at h
 simp only at h
 split at h
 ·replace h:=cL h;obtain⟨h,rfl⟩:=h;exact .same W (by simp[sK]) (ar hl h)
 ·replace h:=cL h;obtain⟨h,rfl⟩:=h;exact .same W (by simp[sK]) (ar hl h)
 ·split at h
  ·rename_i hc
   replace h:=cL h;obtain⟨h,rfl⟩:=h
   have:=ar hl hc
   simp only[VR] at this
   exact .same W (by simp[sK,this,asBool]) (ar hl h)
  ·rename_i hc
   replace h:=cL h;obtain⟨h,rfl⟩:=h
   have:=ar hl hc
   simp only[VR] at this
   exact .same W (by simp[sK,this,asBool]) (ar hl h)
  ·cases h
 ·rename_i t
  split at h
  ·rename_i i hi
   split at h
   ·rename_i z hz
    split at h
    ·rename_i hf
     obtain⟨μ',p',w',h1,h2,h3⟩:=zis (P:=P) (es:=1) W (cq hf)
     cases h
     refine⟨μ',p',w',.inl ?_,h2,h3⟩;have h4:(tp t true (.tuple #[])).run P w= .ok p' w':=by
      simp only[tp,sI,rZ hi hz,sH]
      exact h1
     simp only[sK,sI,h4,sH,Sem.run_pure]
    ·cases h
   ·cases h
  ·cases h
 ·split at h
  ·rename_i u hu
   obtain⟨μ',p',w',h1,h2,h3⟩:=zis (P:=P) (es:=1) W (ar hl hu)
   cases h
   exact⟨μ',p',w',.inl (by simp[sK,h1]),h2,h3⟩
  ·cases h
 ·replace h:=cL h;obtain⟨h,rfl⟩:=h
  obtain⟨v',h1,h2⟩:=zko (w:=w) hl h;exact .same W (by simp only[sK,sI,h1,sH,Sem.run_pure]) h2
 ·obtain⟨μ',v',w',h1,h2,h3⟩:=pT W hl h
  exact⟨μ',v',w',.inl (by simp only[sK,sI,h1,sH,Sem.run_pure]),h2,h3⟩
 ·split at h
  ·rename_i p hp
   replace h:=cL h;obtain⟨h,rfl⟩:=h
   obtain⟨v',h1,h2⟩:=zoH W (ar hl hp) h;exact .same W (by simp[sK,h1]) h2
  ·cases h
 ·split at h
  ·rename_i p u hp hu
   split at h
   ·rename_i A1 hs
    cases h
    obtain⟨w',h1,h2,h3⟩:=zkh W (ar hl hp) (ar hl hu) hs;exact⟨μ,undef,w',.inr ⟨by simp[sK,h1],rfl⟩,dN,h2,h3⟩
   ·cases h
  ·cases h
 ·split at h
  ·rename_i u hu
   split at h
   ·rename_i hn
    cases h
    exact .same W (zfp rfl (ar hl hu) hn) (ar hl hu)
   ·cases h
  ·cases h
 ·rename_i bop bt xo yo _
  split at h
  ·rename_i hp;cases h;exact fX W hl hp
  ·split at h
   ·rename_i x y hx hy
    replace h:=cL h;obtain⟨h,rfl⟩:=h
    have h1:=zvt (P:=P) (xo:=xo) (yo:=yo) W (ar hl hx) (ar hl hy) h;have hf:bR v=true:=by
     unfold aEq at h
     split at h
     ·split at h<;>first | (cases h;rfl) | cases h
     ·cases h
    refine .same W ?_ (cq hf)
    simp only[sK]
    rw[sI,h1]
    rfl
   ·cases h
 ·replace h:=cL h;obtain⟨h,rfl⟩:=h;exact fX W hl h
 ·replace h:=cL h;obtain⟨h,rfl⟩:=h;exact fX W hl h
 ·split at h
  ·rename_i hp;cases h;exact fX W hl hp
  ·split at h
   ·rename_i x hx
    split at h
    ·rename_i r hr
     cases h
     obtain⟨v',h1,h2⟩:=zqZ W (ar hl hx) hr;exact .same W (by simp[sK,h1]) h2
    ·split at h
     ·rename_i r hr
      cases h
      obtain⟨v',h1,h2⟩:=zgs W (ar hl hx) hr;exact .same W (by simp[sK,h1]) h2
     ·split at h
      ·rename_i ds hds
       obtain⟨μ',v',w',h1,h2,h3⟩:=zqX W hds (ar hl hx) h;exact⟨μ',v',w',.inl (by simp[sK,h1]),h2,h3⟩
      ·cases h
   ·cases h
 ·split at h
  ·rename_i x hx
   obtain⟨μ',v',w',h1,h2,h3⟩:=zkj W (ar hl hx) h;exact⟨μ',v',w',.inl (by simp[sK,h1]),h2,h3⟩
  ·cases h
 ·split at h
  ·rename_i x hx
   obtain⟨v',w',h1,h2,h3⟩:=zoG (P:=P) (ty:=type) W (ar hl hx) h;exact⟨μ,v',w',.inl (by simp only[sK,sI,h1,sH,Sem.run_pure]),h2,h3⟩
  ·cases h
 ·split at h
  ·rename_i x hx
   replace h:=cL h;obtain⟨h,rfl⟩:=h
   obtain⟨v',h1,h2⟩:=zkl (w:=w) (ar hl hx) h;exact .same W (by simp[sK,h1]) h2
  ·cases h
 ·rename_i f first captured
  split at h
  ·rename_i x y hx hy
   cases h
   refine .same (v':=.func (.func f) (first.map a.eval) (captured.map a.eval)) W (by simp[sK,Instr.makeFunc]) ?_
   simp only[VR]
   exact⟨_,_,rfl,by rw[sR];exact iN hl hx,by rw[sR];exact iN hl hy⟩
  ·cases h
 ·rename_i t
  cases h
  obtain⟨μ',v',w',h1,h2,h3⟩:=zeM (P:=P) (t:=t) W;exact⟨μ',v',w',.inl (by simp only[sK,Option.map_none,sI,h1,sH,Sem.run_pure]),h2,h3⟩
 ·split at h
  ·rename_i x _ _ k e ki zi hd hx
   cases h
   have hv:=ar hl hx
   simp only[VR] at hv
   obtain⟨μ',v',w',h1,h2,h3⟩:=zbg (P:=P) (k:=ki) (z:=zi) hd W;exact⟨μ',v',w',.inl (by simp only[sK,Option.map_some,hv,sI,h1,sH,Sem.run_pure]),h2,h3⟩
  ·cases h
 ·split at h
  ·rename_i x y hx hy
   obtain⟨μ',v',w',h1,h2,h3⟩:=qn (P:=P) W (ar hl hx) (ar hl hy) h;exact⟨μ',v',w',.inl (by simp[sK,h1]),h2,h3⟩
  ·cases h
 ·split at h
  ·rename_i hp
   cases h
   unfold zoA at hp
   split at hp
   ·rename_i x lo hi hx hlo hhi
    obtain⟨h1,h2⟩:=zoy (P:=P) (w:=w) (ar hl hx) (nu hl hlo) (nu hl hhi) hp;exact .same W (by simp only[sK,Option.map_none,sI,h1,sH,Sem.run_pure]) h2
   ·cases hp
  ·split at h
   ·rename_i hp;cases h;exact fX W hl hp
   ·split at h
    ·rename_i x lo hi hx hlo hhi
     replace h:=cL h;obtain⟨h,rfl⟩:=h
     obtain⟨v',h1,h2⟩:=zki (P:=P) W (ar hl hx) (nu hl hlo) (nu hl hhi) h;exact .same W (by simp only[sK,Option.map_none,sI,h1,sH,Sem.run_pure]) h2
    ·cases h
 ·split at h
  ·rename_i x hx
   replace h:=cL h;obtain⟨h,rfl⟩:=h
   obtain⟨v',h1,h2⟩:=zkm (w:=w) (ar hl hx) h;exact .same W (by simp[sK,h1]) h2
  ·cases h
 ·split at h
  ·rename_i x hx
   replace h:=cL h;obtain⟨h,rfl⟩:=h
   obtain⟨v',h1,h2⟩:=zgw (w:=w) (ar hl hx) h;exact .same W (by simp[sK,h1]) h2
  ·cases h
 ·split at h
  ·rename_i x y hx hy
   replace h:=cL h;obtain⟨h,rfl⟩:=h
   obtain⟨v',h1,h2⟩:=zkk (w:=w) (ar hl hx) (ar hl hy) h;exact .same W (by simp[sK,h1]) h2
  ·cases h
 ·split at h
  ·rename_i x y hx hy
   replace h:=cL h;obtain⟨h,rfl⟩:=h
   obtain⟨v',h1,h2⟩:=zgv (P:=P) W (ar hl hx) (ar hl hy) h;exact .same W (by simp[sK,h1]) h2
  ·cases h
 ·split at h
  ·rename_i m k x hm hk hx
   split at h
   ·rename_i A1 hs
    cases h
    obtain⟨w',h1,h2,h3⟩:=pQ (P:=P) W (ar hl hm) (ar hl hk) (ar hl hx) hs;exact⟨μ,undef,w',.inr ⟨by simp[sK,h1],rfl⟩,dN,h2,h3⟩
   ·cases h
  ·cases h
 ·split at h
  ·rename_i m k x hm hk hx
   split at h
   ·rename_i A1 hs
    cases h
    obtain⟨w',h1,h2,h3⟩:=pQ (P:=P) W (ar hl hm) (ar hl hk) (ar hl hx) hs;exact⟨μ,undef,w',.inr ⟨by simp[sK,h1],rfl⟩,dN,h2,h3⟩
   ·cases h
  ·cases h
 ·split at h
  ·rename_i x hx
   replace h:=cL h;obtain⟨h,rfl⟩:=h
   obtain⟨v',h1,h2⟩:=zeN (P:=P) (w:=w) (ar hl hx) h;exact .same W (by simp[sK,h1]) h2
  ·cases h
 ·exact zeO W hl h
 ·cases h
end Ev
end
section
namespace Ev
noncomputable def fN {α:Type} (n:Nat) (k:Nat->α):α:=Nat.rec (motive:=fun _=>α) (k 0) (fun m _=>k (Nat.succ m)) n
theorem cO {α:Type} (n:Nat) (k:Nat->α):fN n k=k n:=by cases n<;>rfl
noncomputable def fI {α:Type} (n:Int) (k:Int->α):α:=Int.rec (motive:=fun _=>α) (fun m=>fN m fun m=>k (.ofNat m)) (fun m=>fN m fun m=>k (.negSucc m)) n
theorem zwX {α:Type} (n:Int) (k:Int->α):fI n k=k n:=by cases n<;>simp only[fI,cO]
noncomputable def fB {α:Type} (b:Bool) (k:Bool->α):α:=Bool.rec (motive:=fun _=>α) (k false) (k true) b
theorem zrL {α:Type} (b:Bool) (k:Bool->α):fB b k=k b:=by cases b<;>rfl
noncomputable def fU {α:Type} (l:List UInt8):(List UInt8->α)->α:=
 List.rec (motive:=fun _=>(List UInt8->α)->α) (fun k=>k []) (fun u _ ih k=>fN u.toNat fun n=>ih fun r=>k (sW n::r)) l
theorem zrI {α:Type}:∀(l:List UInt8) (k:List UInt8->α),fU l k=k l
 | [],k=>rfl
 | u::r,k=>by
  show fN u.toNat (fun n=>fU r fun r=>k (sW n::r))=_
  simp only[cO,zrI r,UInt8.ofNat_toNat]
noncomputable def fS {α:Type} (s:ByteArray) (k:ByteArray->α):α:=fU s.data.toList fun l=>k ⟨⟨l⟩⟩
theorem zrJ {α:Type} (s:ByteArray) (k:ByteArray->α):fS s k=k s:=by obtain⟨⟨l⟩⟩:=s;simp only[fS,zrI]
noncomputable def fA {α:Type} (a:Addr) (k:Addr->α):α:=
 Addr.rec (motive:=fun _=>α) (fun b o s=>ta (motive:=fun _=>α) (fN b fun b=>fN o fun o=>k ⟨b,o,none⟩) (fun s=>k ⟨b,o,some s⟩) s) a
theorem zrM {α:Type} (a:Addr) (k:Addr->α):fA a k=k a:=by obtain⟨b,o,s⟩:=a;cases s<;>simp only[fA,cO]
noncomputable def fV0 {α:Type} (v:sJ) (k:sJ->α):α:=
 sJ.casesOn (motive_1:=fun _=>α) v (fun b=>fB b fun b=>k (.bool b)) (fun x n=>fI n fun n=>k (.int x n)) (fun x n=>k (.float x n)) (fun x n m=>k (.complex x n m)) (fun s=>fS s fun s=>k (.string s))
  (fun a=>ta (motive:=fun _=>α) (k (.pointer none)) (fun a=>fA a fun a=>k (.pointer (some a))) a)
  (fun a n c=>fN n fun n=>fN c fun c=>ta (motive:=fun _=>α) (k (.slice none n c)) (fun a=>fA a fun a=>k (.slice (some a) n c)) a)
  (fun r=>ta (motive:=fun _=>α) (k (.map none)) (fun r=>fN r fun r=>k (.map (some r))) r)
  (fun r=>k (.chan r)) (fun f x y=>k (.func f x y)) (k .nilFunc) (fun t v=>k (.iface t v)) (k .nilIface) (fun x=>k (.agg x)) (fun x=>k (.tuple x))
theorem zaK {α:Type} (v:sJ) (k:sJ->α):fV0 v k=k v:=by
 cases v with
 | bool b=>
  show fB b (fun b=>k (.bool b))=_
  rw[zrL]
 | int x n=>
  show fI n (fun n=>k (.int x n))=_
  rw[zwX]
 | string s=>
  show fS s (fun s=>k (.string s))=_
  rw[zrJ]
 | pointer a=>cases a with
  | none=>rfl
  | some a=>
   show fA a (fun a=>k (.pointer (some a)))=_
   rw[zrM]
 | slice a n c=>cases a with
  | none=>
   show fN n (fun n=>fN c fun c=>k (.slice none n c))=_
   rw[cO,cO]
  | some a=>
   show fN n (fun n=>fN c fun c=>fA a fun a=>k (.slice (some a) n c))=_
   rw[cO,cO,zrM]
 | map a=>cases a with
  | none=>rfl
  | some a=>
   show fN a (fun a=>k (.map (some a)))=_
   rw[cO]
 | float _ _=>rfl
 | complex _ _ _=>rfl
 | chan _=>rfl
 | func _ _ _=>rfl
 | nilFunc=>rfl
 | iface _ _=>rfl
 | nilIface=>rfl
 | agg _=>rfl
 | tuple _=>rfl
noncomputable def zjU {α:Type} (l:List sJ):(List sJ->α)->α:=
 List.rec (motive:=fun _=>(List sJ->α)->α) (fun k=>k []) (fun v _ ih k=>fV0 v fun v=>ih fun r=>k (v::r)) l
theorem kR {α:Type}:∀(l:List sJ) (k:List sJ->α),zjU l k=k l
 | [],k=>rfl
 | v::r,k=>by
  show fV0 v (fun v=>zjU r fun r=>k (v::r))=_
  rw[zaK,kR r]
noncomputable def fV1 {α:Type} (v:sJ) (k:sJ->α):α:=
 match v with
 | .agg ⟨l⟩=>zjU l fun l=>k (.agg ⟨l⟩)
 | v=>fV0 v k
theorem znO {α:Type} (v:sJ) (k:sJ->α):fV1 v k=k v:=by
 unfold fV1
 split
 ·rw[kR]
 ·rw[zaK]
noncomputable def znN {α:Type} (l:List sJ):(List sJ->α)->α:=
 List.rec (motive:=fun _=>(List sJ->α)->α) (fun k=>k []) (fun v _ ih k=>fV1 v fun v=>ih fun r=>k (v::r)) l
theorem zaJ {α:Type}:∀(l:List sJ) (k:List sJ->α),znN l k=k l
 | [],k=>rfl
 | v::r,k=>by
  show fV1 v (fun v=>znN r fun r=>k (v::r))=_
  rw[znO,zaJ r]
noncomputable def fV {α:Type} (v:sJ) (k:sJ->α):α:=
 match v with
 | .agg ⟨l⟩=>zjU l fun l=>k (.agg ⟨l⟩)
 | .tuple ⟨l⟩=>znN l fun l=>k (.tuple ⟨l⟩)
 | v=>fV0 v k
theorem jH {α:Type} (v:sJ) (k:sJ->α):fV v k=k v:=by
 unfold fV
 split
 ·rw[kR]
 ·rw[zaJ]
 ·rw[zaK]
noncomputable def fM {α:Type}:List ti->(List ti->α)->α
 | [],k=>k []
 | ⟨a,b,c⟩::r,k=>fV0 a fun a=>fV1 b fun b=>fN c fun c=>fM r fun r=>k (⟨a,b,c⟩::r)
theorem zrK {α:Type}:∀(l:List ti) (k:List ti->α),fM l k=k l
 | [],k=>rfl
 | ⟨a,b,c⟩::r,k=>by simp only[fM,zaK,znO,cO,zrK r]
noncomputable def fO {α:Type}:Option bm->(Option bm->α)->α
 | none,k=>k none
 | some (.cells vs t op fz es),k=>zjU vs fun vs=>fN t fun t=>fB op fun op=>fN es fun es=>(match fz with
  | none=>k (some (.cells vs t op none es))
  | some z=>fN z fun z=>k (some (.cells vs t op (some z) es)))
 | some (.map es c),k=>fM es fun es=>fN c fun c=>k (some (.map es c))
 | some (.sit s p),k=>fS s fun s=>fN p fun p=>k (some (.sit s p))
 | some (.dfr op),k=>k (some (.dfr op))
 | some (.loop st j ps asg bd t n),k=>k (some (.loop st j ps asg bd t n))
theorem zwW {α:Type}:∀(o:Option bm) (k:Option bm->α),fO o k=k o
 | none,k=>rfl
 | some (.cells vs t op fz es),k=>by cases fz<;>simp only[fO,kR,cO,zrL]
 | some (.map es c),k=>by simp only[fO,zrK,cO]
 | some (.sit s p),k=>by simp only[fO,zrJ,cO]
 | some (.dfr op),k=>rfl
 | some (.loop st j ps asg bd t n),k=>rfl
noncomputable def zqs {α:Type}:List (Nat × Option bm)->Tr bm->(Tr bm->α)->α
 | [],t,k=>k t
 | (i,o)::r,t,k=>zqs r t fun t=>fN i fun i=>fO o fun o=>Tr.fput o (Nat.succ i) t i k
noncomputable def lU:List (Nat × Option bm)->Tr bm->Tr bm
 | [],t=>t
 | (i,o)::r,t=>Tr.put o (i+1) (lU r t) i
theorem zhS {α:Type}:∀(l:List (Nat × Option bm)) (t:Tr bm) (k:Tr bm->α),zqs l t k=k (lU l t)
 | [],t,k=>rfl
 | (i,o)::r,t,k=>by simp only[zqs,lU,zhS r,cO,zwW,Tr.fput_eq]
theorem pa:∀(l:List (Nat × Option bm)) (t:Tr bm) (j:Nat),(lU l t).get j=match jT l j with | some o=>o | none=>t.get j
 | [],t,j=>rfl
 | (i,o)::r,t,j=>by
  simp only[lU,jT]
  rw[Tr.get_put _ _ _ _ _ (by omega)]
  by_cases h:j=i
  ·simp[h]
  ·simp only[h,if_false]
   exact pa r t j
noncomputable def fW {α:Type} (A:AW) (k:AW->α):α:=
 match A with
 | ⟨[],t,n⟩=>k ⟨[],t,n⟩
 | ⟨x::l,t,n⟩=>zqs (x::l) t fun t=>fN n fun n=>k ⟨[],t,n⟩
noncomputable def fq (A:AW):AW:=⟨[],lU A.log A.tree,A.next⟩
theorem ir {α:Type} (A:AW) (k:AW->α):fW A k=k (fq A):=by
 obtain⟨l,t,n⟩:=A
 cases l with
 | nil=>rfl
 | cons x l=>simp only[fW,zhS,cO,fq]
theorem kL (A:AW) (j:Nat):(fq A).get j=A.get j:=by
 simp only[fq,AW.get,jT]
 exact pa A.log A.tree j
theorem WR.lay {μ:Mu} {A:AW} {w:World} (W:WR μ A w):WR μ (fq A) w:=
 ⟨fun i o l h=>W.has i o l (by rwa [kL] at h),fun i j oi oj li lj hi hj=>W.inj i j oi oj li lj (by rwa [kL] at hi) (by rwa [kL] at hj),W.dom⟩
theorem bB.lay {μ μ':Mu} {A A':AW} {w w':World} (E:bB μ A w μ' A' w'):bB μ A w μ' (fq A') w':=
 ⟨E.le,E.size,E.tape,E.os,E.output,E.stay,fun i o l h=>E.img i o l (by rwa [kL] at h),E.next,E.keep⟩
end Ev
end
end Go.Proofs.YtbbapnpdfcgjnaaGreatDoor
